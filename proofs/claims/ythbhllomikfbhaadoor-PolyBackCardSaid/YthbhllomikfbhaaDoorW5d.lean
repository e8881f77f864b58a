/- A text that stands for the diagrams' own in seats of polynomials alone. -/
import Derived.Test.YthbhllomikfbhaaDoorPT4

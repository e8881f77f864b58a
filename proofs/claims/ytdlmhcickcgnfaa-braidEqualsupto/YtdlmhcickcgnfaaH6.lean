/- The walk of drawing.Of. -/
import Derived.Test.YtdlmhcickcgnfaaH4P
namespace Go.Proofs.Ytdlmhcickcgnfaa
open Go.RowKit

/-- No drawing at all. -/
def noDrawing : Value := .agg #[.slice none 0 0, .int .i64 0, .slice none 0 0, .slice none 0 0]

end Go.Proofs.Ytdlmhcickcgnfaa

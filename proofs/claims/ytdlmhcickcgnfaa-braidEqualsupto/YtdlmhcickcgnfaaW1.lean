/- The walk of ref.EndOf. -/
import Derived.Test.YtdlmhcickcgnfaaG7
namespace Go.Proofs.Ytdlmhcickcgnfaa
open Go.RowKit

theorem may_size {C : List Cr} {loops : Int} (hm : mayD C loops = true) : sizeB C loops = true := by
  cases hs : sizeB C loops with
  | true => rfl
  | false => rw [mayD_size hs] at hm; cases hm

end Go.Proofs.Ytdlmhcickcgnfaa

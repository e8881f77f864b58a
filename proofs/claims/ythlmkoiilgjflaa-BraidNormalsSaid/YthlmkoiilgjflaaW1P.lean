/- Several texts of the proof, one behind the other. -/
import Derived.Test.YthlmkoiilgjflaaG7P
import Derived.Deep.RegionHeld3
/- The walk of ref.EndOf. -/
namespace Go.Proofs.Ythlmkoiilgjflaa
open Go.RowKit

theorem may_size {C : List Cr} {loops : Int} (hm : mayD C loops = true) : sizeB C loops = true := by
  cases hs : sizeB C loops with
  | true => rfl
  | false => rw [mayD_size hs] at hm; cases hm

end Go.Proofs.Ythlmkoiilgjflaa
/- The walk of drawing.Of. -/
namespace Go.Proofs.Ythlmkoiilgjflaa
open Go.RowKit

theorem crs_some {w : World} {B : Nat} {ad : Option Addr} {cap : Nat} {C : List Cr} (h : Crs w B (.slice ad C.length cap) C) (hp : 0 < C.length) : ∃ b off, ad = some ⟨b, off, none⟩ ∧ b < B ∧ CrossAt w b off C := by
  obtain ⟨a', cap', e, _, g⟩ := h
  injection e with e1 e2 e3
  obtain ⟨b, off, h1, h2, h3⟩ := g hp
  exact ⟨b, off, by rw [e1, h1], h2, h3⟩

end Go.Proofs.Ythlmkoiilgjflaa

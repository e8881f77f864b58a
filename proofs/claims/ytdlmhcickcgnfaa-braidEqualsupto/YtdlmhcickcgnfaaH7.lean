/- The walk of drawing.Of. -/
import Derived.Test.YtdlmhcickcgnfaaG7
import Derived.Deep.RegionHeld3
namespace Go.Proofs.Ytdlmhcickcgnfaa
open Go.RowKit

theorem crs_some {w : World} {B : Nat} {ad : Option Addr} {cap : Nat} {C : List Cr} (h : Crs w B (.slice ad C.length cap) C) (hp : 0 < C.length) : ∃ b off, ad = some ⟨b, off, none⟩ ∧ b < B ∧ CrossAt w b off C := by
  obtain ⟨a', cap', e, _, g⟩ := h
  injection e with e1 e2 e3
  obtain ⟨b, off, h1, h2, h3⟩ := g hp
  exact ⟨b, off, by rw [e1, h1], h2, h3⟩

end Go.Proofs.Ytdlmhcickcgnfaa

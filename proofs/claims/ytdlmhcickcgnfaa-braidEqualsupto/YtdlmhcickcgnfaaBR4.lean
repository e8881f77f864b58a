/- Ends of strands: the walks of braid.Ends and of ref.EndsOf. -/
import Derived.Test.YtdlmhcickcgnfaaBR3
namespace Go.Proofs.Ytdlmhcickcgnfaa
open Go.RowKit

theorem own_someB {w : World} {B e s n : Nat} {v : Value} {xs : List Value} (h : w.ownsRow B e s v n xs) (hn : 1 ≤ n) : ∃ g c, v = .slice (some ⟨g, 0, none⟩) n c ∧ B ≤ g ∧ g < w.heap.size := by
  have h0 := h
  rcases h.2 with ⟨rfl, h1⟩ | ⟨g, cap, cur, rfl, h2, _⟩
  · omega
  · exact ⟨g, cap, rfl, (h0.lt g rfl).1, (h0.lt g rfl).2⟩

end Go.Proofs.Ytdlmhcickcgnfaa

/- What GaussBack asks of Same and of Build: contracts over the mathematics of Z9. -/
import Derived.Test.YtbikalghmlihlaaZ8P
import Derived.Test.YtbikalghmlihlaaI2P
import Derived.Test.YtbikalghmlihlaaW5P
namespace Go.Proofs.Ytbikalghmlihlaa
open Go.RowKit

theorem bnum_range {C : List Cr} {loops : Int} (hm : mayD C loops = true) (a : Nat) (h1 : 1 ≤ a) (h2 : a ≤ 2 * C.length) : 1 ≤ bnum C a ∧ bnum C a ≤ 2 * C.length := by
  have hmem : a ∈ (walksM C).flatten := List.one_le_count_iff.1 (by rw [flat_oneZ a h1 h2]; exact Nat.le_refl _)
  have hl : ps (walksM C).flatten a < (walksM C).flatten.length := List.findIdx_lt_length_of_exists ⟨a, hmem, by simp⟩
  rw [flat_len hm] at hl
  unfold bnum
  omega
theorem built_may {C : List Cr} {loops : Int} (hm : mayD C loops = true) : mayD (outC (plusM C) ((visM C).map viL) loops) loops = true := by
  refine (build_iso hm).may hm fun k s hk hs => ?_
  rw [(out_walk hm).1, ((built_same hm).2 k hk).2 s hs]
  have h := en_side hm k s hk hs
  have := bnum_range hm _ h.2.2.1 h.2.2.2
  omega
theorem crs_self (K : List Cr) : sameD 0 0 K K = true := (sameD_iff 0 0 K K).2 ⟨rfl, rfl, fun i _ => by simp [crEq]⟩
theorem built_form {C : List Cr} {loops : Int} (hm : mayD C loops = true) {e : Ending} (h : SameOut (outC (plusM C) ((visM C).map viL) loops) C loops loops e) : e = .returned (.tuple #[.bool true, .int .i64 0]) := by
  obtain ⟨b, rfl, -, hb⟩ := h
  obtain ⟨K1, K2, f1, f2, rfl⟩ := hb rfl
  have := form_iso (build_iso hm) hm (built_may hm) f2 f1
  rw [this, crs_self]
theorem viL_get (V : List (Nat × Bool)) (k : Nat) (hk : k < V.length) : (viL V).getD k (0, false) = (((V.getD k (0, false)).1 : Int), (V.getD k (0, false)).2) := by
  simp [viL, List.getD_eq_getElem?_getD, hk]
/-- A walk that was handed out may be handed in. -/
theorem vis_rows {w : World} {B : Nat} {v : Value} {L : List (List (Nat × Bool))} (h : VisOwn w B v L) : VRows w w.heap.size v (L.map viL) := by
  obtain ⟨ys, h1, h2, h3⟩ := h
  have hl : (L.map viL).length = L.length := by simp
  rcases h2.2 with ⟨e, h0⟩ | ⟨g, cap, cur, e, _⟩
  · refine ⟨none, 0, ?_, fun hp => by omega⟩
    rw [e, hl, ← h1, h0]
  · have hh := h2
    rw [e] at hh
    refine ⟨some ⟨g, 0, none⟩, cap, by rw [e, hl, h1], fun _ => ⟨g, 0, rfl, (hh.lt g rfl).2, fun j hj => ?_⟩⟩
    rw [hl] at hj
    have hc := hh.cellAt j (by omega)
    refine ⟨ys.getD j (.bool false), ?_, ?_⟩
    · rw [Nat.zero_add, hc, List.getD_eq_getElem?_getD, List.getElem?_eq_getElem (by omega)]
      rfl
    · have hr := h3 j hj
      have e2 : (L.map viL).getD j [] = viL (L.getD j []) := by simp [List.getD_eq_getElem?_getD, hj]
      rw [e2]
      have hlen : (viL (L.getD j [])).length = (L.getD j []).length := by simp [viL]
      rcases hr.2 with ⟨e3, h0⟩ | ⟨g2, cap2, cur2, e3, _⟩
      · exact ⟨none, 0, by rw [e3, hlen, h0], fun hp => by omega⟩
      · have hr2 := hr
        rw [e3] at hr2
        refine ⟨some ⟨g2, 0, none⟩, cap2, by rw [e3, hlen], fun _ => ⟨g2, 0, rfl, (hr2.lt g2 rfl).2, fun k hk => ?_⟩⟩
        rw [hlen] at hk
        have c0 := hr2.cellAt (k * 2) (by omega)
        have c1 := hr2.cellAt (k * 2 + 1) (by omega)
        have hv := vflat_get (L.getD j []) k hk
        have e4 : (viL (L.getD j [])).getD k (0, false) = ((((L.getD j []).getD k (0, false)).1 : Int), ((L.getD j []).getD k (0, false)).2) := viL_get _ k hk
        rw [hv.1] at c0
        rw [hv.2] at c1
        rw [e4, Nat.zero_add]
        exact ⟨c0, c1⟩
/-- Signs that were handed out may be handed in. -/
theorem plus_rd {w : World} {B : Nat} {v : Value} {P : List Bool} (h : w.ownsRow B 4 1 v P.length (bools P)) : PlusAt w w.heap.size v P := by
  rcases h.2 with ⟨e, h0⟩ | ⟨g, cap, cur, e, _⟩
  · exact ⟨none, 0, by rw [e, h0], fun hp => by omega⟩
  · have hh := h
    rw [e] at hh
    refine ⟨some ⟨g, 0, none⟩, cap, by rw [e], fun _ => ⟨g, 0, rfl, (hh.lt g rfl).2, fun k hk => ?_⟩⟩
    have hc := hh.cellAt k (by omega)
    rw [Nat.zero_add, hc]
    simp [bools, List.getD_eq_getElem?_getD, hk]
end Go.Proofs.Ytbikalghmlihlaa

/- The walk of poly.Det. -/
import Derived.Test.YtajmogojekichaaAD9P
import Derived.Test.YtajmogojekichaaPB5P
namespace Go.Proofs.Ytajmogojekichaa.Poly
open Go.RowKit Go.Maps

/-- What has been collected is no longer than there are numbers between the keys' bounds. -/
theorem coll_len {D : DataW Unit} {left : Lit → Bool} {acc : List (Int × Int)} (h : Coll D left acc) (N : Nat) (hK : KeysIn D (N : Int)) : acc.length ≤ 2 * N + 1 := by
  have := few_ints N (acc.map Prod.fst) (by
    rw [List.pairwise_map]
    exact h.once) (fun x hx => by
    simp only [List.mem_map] at hx
    obtain ⟨t, ht, rfl⟩ := hx
    have h1 := (h.mem t.1 t.2).1 ht
    refine hK t.1 ?_
    cases hh : Maps.has D (.int .i64 t.1) with
    | true => rfl
    | false => rw [coefOf_none hh] at h1; exact absurd h1.2.1.symm h1.2.2)
  simpa using this

set_option maxHeartbeats 1000000 in
set_option maxRecDepth 100000 in
/-- work.terms, where the keys are bounded. -/
theorem terms34k (b n : Nat) (D : DataW Unit) (w : World) (hown : w.ownsMap Try.prog 3 (plainElem Try.prog 3) b n D) (hn : ∀ left acc, Coll D left acc → acc.length ≤ 1000000) :
    Calls Try.prog 141 #[.map (some b)] w fun e w' => ∃ v l, e = .returned v ∧ w'.ownsRow w.heap.size 124 2 v l.length (flat l) ∧ Canon l (coefOf D) ∧ Below w.heap.size w w' := by
  obtain ⟨i0, hi, hz0, hz1, hz2⟩ := info_parts infoTerm
  have hbl := hown.lt
  have HL : Hid (∀ left acc, Coll D left acc → acc.length ≤ 1000000) := hn
  clear hn
  go_enter Try.func141, Try.ntmps141
  go_wp2_with (first | (at_range; refine wpList_range_own _ rfl _ 192 rfl 3 3 law3 Try.underlying192 _ b n _ rfl hown ?_; intro w0 hrg0 hg0 hs0) | go_in)
  go_frame
  go_loopw [3] (fun v wr => ∃ (left : Lit → Bool) (cnt : Nat) (acc : List (Int × Int)), wr.ranges Try.prog 3 (plainElem Try.prog 3) b w.heap.size n D left cnt ∧
      wr.ownsRow w.heap.size 124 2 v acc.length (flat acc) ∧ Hid (Coll D left acc) ∧ Below w.heap.size w wr)
    (fun _ wr => wr.rangeLeft b w.heap.size)
  case atStart =>
    exact ⟨_, _, [], hrg0, World.ownsRow_nil _ _ _ _, coll_start D, (Below.refl _ _).grown hg0 (Nat.le_refl _) (fun j hj => by cases hj)⟩
  case round =>
    obtain ⟨left, cnt, acc, hrg, hrow, hC, hnx⟩ := hrel
    have hal := HL.out _ _ hC.out
    go_wp2_with (first
      | (at_next; refine wpList_next_ranges_ii _ rfl _ rfl 3 3 .i64 .i64 law3 Try.underlying3 Try.underlying3 b w.heap.size n _ _ _ rfl hrg ?_ ?_)
      | go_in)
    · intro hc0 hl0
      have hc := sort_list w.heap.size _ acc _ (by omega) hrow
      go_wp2_with (go_at_call 177; refine hc.mono ?_; rintro e w' ⟨rfl, l, hp, hs, hrow2, hg2⟩)
      go_ret
      refine ⟨_, l, rfl, hrow2, coll_end hC.out hl0 hp hs, hnx.grown hg2 hnx.size (fun k hk => (hrow.lt k hk).1)⟩
    · intro x c w1 cnt1 hwx hwc hlx hat hrg1 hlt hg1 hs1 hen
      have hrow1 := hrow.kept hg1 (Or.inr (row_ne_iter hrow hrg).symm)
      have hnx1 : Below w.heap.size w w1 := hnx.grown hg1 hnx.size (fun j hj => by cases hj; exact Nat.le_refl _)
      have Hat : Hid _ := hat
      clear hs1 hat
      by_cases hc : c = 0
      · subst hc
        go_wp2
        go_roundw
        case rel => exact ⟨_, cnt1, acc, hrg1, hrow1, coll_zero hC.out Hat.out, hnx1⟩
        case measure => rw [hrg1.left_eq, hrg.left_eq]; exact hlt
      · have hcb : (c != 0) = true := by rw [bne_iff_ne]; exact hc
        have HC0 : Hid (c ≠ 0) := hc
        have hsz1 := hnx1.size
        clear hc
        go_wp2_with (first
          | (at_builtin; refine wpList_append_own _ rfl _ _ 63 rfl w.heap.size 124 i0 (.agg #[.int .i64 0, .int .i64 0]) 2 16 Try.underlying63 hi hz0 hz1 hz2 rfl (by decide) _ _ _ rfl (hrow1.alloc _) ⟨w1.heap.size, 0, none⟩ 1 1 [.int .i64 x, .int .i64 c] rfl rfl (new_cells _ _ _) (pair_one _ _) (by unfold maxLen; omega) (by omega) (by simp; omega) ?_; intro v' w3 hown' hg3 _; go_frame)
          | go_in)
        have hrg3 := (hrg1.alloc _).kept hg3 (row_ne_low hrow1 hbl) (row_ne_iter hrow1 hrg1)
        go_roundw
        case rel =>
          refine ⟨_, cnt1, acc ++ [(x, c)], hrg3, ?_, coll_more hC.out hlx HC0.out Hat.out, (hnx1.alloc hsz1 _).grown hg3 (by simp; omega) (fun j hj => (hrow1.lt j hj).1)⟩
          rw [flat_append, List.length_append]
          exact hown'
        case measure => rw [hrg3.left_eq, hrg.left_eq]; exact hlt

end Go.Proofs.Ytajmogojekichaa.Poly

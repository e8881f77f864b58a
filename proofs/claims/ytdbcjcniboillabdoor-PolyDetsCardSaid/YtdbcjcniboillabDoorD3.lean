/- The walk of poly.changed with poly.negated: the same polynomial with the other sign. -/
import Derived.Test.YtdbcjcniboillabDoorD2
namespace Go.Proofs.YtdbcjcniboillabDoor
open Go.RowKit Go.Maps

/-- All coefficients with the other sign. -/
def negM (l : List (Int × Int)) : List (Int × Int) := l.map fun t => (t.1, -t.2)

set_option maxHeartbeats 2000000 in
set_option maxRecDepth 100000 in
theorem changed_neg_some (b off cap : Nat) (l : List (Int × Int)) (w : World) (hm : mayB l = true) (hbw : b < w.heap.size) (hT : TermsAt w b off l) :
    Calls Tryd.prog 47 #[.slice (some ⟨b, off, none⟩) l.length cap, .func (.func 48) #[] #[]] w fun e w' => ∃ v r, e = .returned v ∧ w'.ownsRow w.heap.size 29 2 v r.length (flat r) ∧ Canon r (coefL (negM l)) ∧ r.length ≤ 64 ∧ Below w.heap.size w w' := by
  have hl64 := ((may_iff l).1 hm).1
  have HM : Hid (mayB l = true) := hm
  have HT : Hid (TermsAt w b off l) := hT
  have hmm := make46 l.length
  clear hm hT
  go_enter Tryd.func47, Tryd.ntmps47
  go_wp2
  go_loopw [13] (fun i wr => ∃ (k : Nat) (D : DataW Unit), k ≤ l.length ∧ i = .int .i64 k ∧ wr.ownsMap Tryd.prog 3 (plainElem Tryd.prog 3) w.heap.size k D ∧ Below w.heap.size w wr ∧ Hid (∀ x, coefOf D x = coefL ((negM l).take k) x)) (fun i _ => l.length - (intOf i).toNat)
  case atStart => exact ⟨0, .map [], Nat.zero_le _, rfl, World.ownsMap_made _ _ _ _, (Below.refl _ _).alloc (Nat.le_refl _) _, fun x => coefOf_none rfl⟩
  case round =>
    obtain ⟨k, D, hk, rfl, hown, hb, hD⟩ := hrel
    by_cases hlt : k < l.length
    · have c0 := bcell hb hbw (HT.out k hlt).1
      have c1 := bcell hb hbw (HT.out k hlt).2
      have hok := (okB_iff l k).1 (((may_iff l).1 HM.out).2 k hlt)
      have hsz := hb.size
      have hbr : b < wr.heap.size := Nat.lt_of_lt_of_le hbw hsz
      generalize he : (l.getD k (0, 0)).1 = e at c0 hok
      generalize hc : (l.getD k (0, 0)).2 = c at c1 hok
      have HS : Hid (∀ x, coefL ((negM l).take (k + 1)) x = coefL ((negM l).take k) x + (if e = x then -c else 0)) := fun x => by
        have g : (negM l).getD k (0, 0) = (e, -c) := by
          have gl : l.getD k (0, 0) = l[k] := by simp [List.getD, hlt]
          rw [gl] at he hc
          simp [negM, List.getD, hlt, he, hc]
        rw [coefL_take _ k (by simpa [negM] using hlt), g]
      have HB : Hid (∀ x, -64000000 ≤ coefL ((negM l).take k) x ∧ coefL ((negM l).take k) x ≤ 64000000) := fun x => by
        have := coefL_le ((negM l).take k) 1000000 x (fun t ht => by
          have ht2 := List.mem_of_mem_take ht
          simp only [negM, List.mem_map] at ht2
          obtain ⟨s, hs, rfl⟩ := ht2
          obtain ⟨i, hi, rfl⟩ := List.getElem_of_mem hs
          have := (okB_iff l i).1 (((may_iff l).1 HM.out).2 i hi)
          simp only [List.getD, List.getElem?_eq_getElem hi, Option.getD_some] at this
          have h1 := this.2.2.1
          have h2 := this.2.2.2.1
          exact ⟨by simp only; omega, by simp only; omega⟩) (by decide)
        have hl : ((negM l).take k).length ≤ 64 := by simp [negM]; omega
        omega
      clear he hc
      obtain ⟨o1, o2, o3, o4, o5, -⟩ := hok
      clear o5
      go_wp2_with (go_at_call 48; refine (negated_any _ _ _ (by omega) (by omega)).mono ?_; rintro r w1 ⟨rfl, hb1⟩; refine Hid.out ?_)
      refine Lib.hid ?_
      have hT1 : w1.heap[wr.heap.size]? = some (.cells #[.int .i64 e, .int .i64 c] 29 (0, 0)) := (hb1.block _ (by simp)).trans Array.getElem?_push_size
      have d0 : w1.cell? ⟨wr.heap.size, 0, none⟩ = some (.int .i64 e) := by unfold World.cell?; rw [hT1]; rfl
      have d1 : w1.cell? ⟨wr.heap.size, 1, none⟩ = some (.int .i64 c) := by unfold World.cell?; rw [hT1]; rfl
      have f0 : w1.frozen? ⟨wr.heap.size, 0, none⟩ = false := by simp [World.frozen?, hT1]
      have f1 : w1.frozen? ⟨wr.heap.size, 1, none⟩ = false := by simp [World.frozen?, hT1]
      have hown1 : w1.ownsMap Tryd.prog 3 (plainElem Tryd.prog 3) w.heap.size k D := (hown.alloc _).kept (grown_below hb1 none) (by simp)
      have hnx1 : Below w.heap.size w w1 := (hb.alloc hsz _).trans (hb1.mono (by simp; omega))
      have hBlt := hown.lt
      clear hT1 hb1 c0 c1 hown
      go_wp2_with (first
        | (at_lookup; refine wpList_lookup_own_int _ rfl _ _ 58 rfl 3 3 .i64 law3 Tryd.underlying58 Tryd.underlying3 (zero3 _) w.heap.size k _ rfl (own_set2 hown1 (by omega) _ _ _ _) _ _ rfl (keyOf_int_mk Tryd.underlying3 (WalkArith.wf_i64 (by omega))) ?_; intro c' hat hwc; refine Hid.out ?_))
      refine Lib.hid ?_
      have hc' : coefL ((negM l).take k) e = c' := by rw [← hD.out, coefOf_look hat]
      have hbd := HB.out e
      rw [hc'] at hbd
      have HC' : Hid (coefL ((negM l).take k) e = c') := hc'
      have hdm := hown1.isMap
      clear hat hwc hc'
      go_wp2_with (first
        | (at_mapUpdate; refine wpList_mapUpdate_own _ rfl _ _ _ 58 rfl 3 3 law3 Tryd.underlying58 _ w.heap.size k _ rfl (own_set2 hown1 (by omega) _ _ _ _) (by unfold maxLen; omega) _ _ _ rfl rfl (keyOf_int_mk Tryd.underlying3 (WalkArith.wf_i64 (by omega))) _ [] (plainElem_int Tryd.underlying3 (WalkArith.wf_i64 (by omega))) ?_; intro w2 hown2 hg2; go_frame))
      go_roundw
      case rel =>
        refine ⟨k + 1, _, by omega, by go_num, hown2, ((hnx1.setCell (by simp; omega) _).setCell (by simp; omega) _).grown hg2 (by have := hnx1.size; simp [World.setCell]; omega) (fun j hj => by cases hj; exact Nat.le_refl _), fun x => ?_⟩
        rw [coefOf_put hdm, HS.out]
        by_cases hx : e = x
        · rw [if_pos hx, if_pos hx, ← hx, HC'.out]
        · rw [if_neg hx, if_neg hx, hD.out]; omega
      case measure => simp [intOf]; omega
    · obtain rfl : k = l.length := by omega
      have hs := size_le hown
      have htake : (negM l).take l.length = negM l := List.take_of_length_le (by simp [negM])
      have hD2 := hD.out
      rw [htake] at hD2
      have HD2 : Hid _ := hD2
      clear hD hD2 htake
      go_wp2_with (go_at_call 30; refine (terms34 w.heap.size l.length D _ hown (by omega)).mono ?_; rintro r w1 ⟨v, m, rfl, hrow, hcan, hml, hb1⟩)
      go_ret
      exact ⟨v, m, rfl, own_lower hrow hb.size, canon_congr hcan HD2.out, by omega, hb.trans (hb1.mono hb.size)⟩
theorem may_neg {l : List (Int × Int)} (hm : mayB l = true) : mayB (negM l) = true := by
  refine may_yes _ (by simpa [negM] using ((may_iff l).1 hm).1) fun i hi => (okB_iff _ i).2 ?_
  have hi' : i < l.length := by simpa [negM] using hi
  have h := (okB_iff l i).1 (((may_iff l).1 hm).2 i hi')
  have g : ∀ j, j < l.length → (negM l).getD j (0, 0) = ((l.getD j (0, 0)).1, -(l.getD j (0, 0)).2) := fun j hj => by simp [negM, List.getD, hj]
  rw [g i hi']
  refine ⟨h.1, h.2.1, by simp only; omega, by simp only; omega, by simp only; omega, fun h0 => ?_⟩
  rw [g (i - 1) (by omega)]
  exact h.2.2.2.2.2 h0

theorem canon_neg {l r : List (Int × Int)} (hm : mayB l = true) (h : Canon r (coefL (negM l))) : r = negM l :=
  canon_unique h (canon_self (may_rising (may_neg hm)) (may_nonzero (may_neg hm)))

theorem changed_neg (v : Value) (l : List (Int × Int)) (w : World) (hm : mayB l = true) (hP : Poly w w.heap.size v l) :
    Calls Tryd.prog 47 #[v, .func (.func 48) #[] #[]] w fun e w' => ∃ v', e = .returned v' ∧ Poly w' w'.heap.size v' (negM l) ∧ Below w.heap.size w w' := by
  rcases hP with ⟨rfl, rfl⟩ | ⟨a, cap, rfl, rfl⟩ | ⟨b, off, cap, rfl, hlt, hT⟩
  · exact (changed_none none 0 _ w).mono fun _ _ ⟨v, e, h1, h2⟩ => ⟨v, e, Poly.ofRow h1, h2⟩
  · exact (changed_none (some a) cap _ w).mono fun _ _ ⟨v, e, h1, h2⟩ => ⟨v, e, Poly.ofRow h1, h2⟩
  · refine (changed_neg_some b off cap l w hm hlt hT).mono ?_
    rintro e w' ⟨v, r, rfl, hrow, hcan, _, hb⟩
    have e := canon_neg hm hcan
    subst e
    exact ⟨v, rfl, Poly.ofRow hrow, hb⟩
end Go.Proofs.YtdbcjcniboillabDoor

/- The walks of poly.changed with the two closures that Flip and Unit hand it, and of Flip and Unit. -/
import Derived.Test.YthbhllomikfbhaaDoorPA9
import Derived.Maps.OwnSet
import Derived.Lib.Hide
namespace Go.Proofs.YthbhllomikfbhaaDoor.Poly
open Go.RowKit Go.Maps

set_option maxRecDepth 100000 in
theorem make46 (n : Nat) (w : World) : (Instr.makeMap 62 (some (.int .i64 (n : Int)))).run Tryd.prog w = .ok (.map (some w.heap.size)) (w.alloc (.map #[] 0)) := rfl

/-- What a store does to the coefficients. -/
theorem coefOf_put {D : DataW Unit} (hD : IsMap D) (x c y : Int) : coefOf (D.put (.int .i64 x) (.lit (.int .i64 c))) y = if x = y then c else coefOf D y := by
  by_cases h : x = y
  · subst h
    rw [if_pos rfl]
    exact coefOf_at fun zd => atKey_put_same hD (show WideAt.IsKeyLit (.int .i64 x) from trivial) _ _
  · rw [if_neg h]
    unfold coefOf
    rw [atKey_put_other (by intro e; cases e; exact h rfl)]

theorem coefOf_look {D : DataW Unit} {x c : Int} (h : D.atKey (.int .i64 x) (.lit (.int .i64 0)) = .lit (.int .i64 c)) : coefOf D x = c := by
  unfold coefOf; rw [h]

theorem size_le {w : World} {b n : Nat} {D : DataW Unit} (h : w.ownsMap Tryd.prog 3 (plainElem Tryd.prog 3) b n D) : Maps.size D ≤ n := by
  obtain ⟨es, clock, _, _, hle, rfl⟩ := h
  rw [size_eq, length_read]
  exact hle

theorem grown_below {w w' : World} (h : Below w.heap.size w w') (row : Option Nat) : w.grownBy w' row := ⟨h.os, h.tape, h.output, h.size, fun k hk _ => h.block k hk⟩

theorem own_lower {w : World} {B B' : Nat} {v : Value} {n : Nat} {xs : List Value} (h : w.ownsRow B 36 2 v n xs) (hB : B' ≤ B) : w.ownsRow B' 36 2 v n xs := by
  refine ⟨h.1, ?_⟩
  rcases h.2 with hn | ⟨g, cap, cur, hv, hb, rest⟩
  · exact .inl hn
  · exact .inr ⟨g, cap, cur, hv, by omega, rest⟩

theorem own_set2 {w : World} {b n t : Nat} {D : DataW Unit} (h : w.ownsMap Tryd.prog 3 (plainElem Tryd.prog 3) b n D) (hne : b ≠ t) (o1 o2 : Nat) (x y : Value) :
    ((w.setCell ⟨t, o1, none⟩ x).setCell ⟨t, o2, none⟩ y).ownsMap Tryd.prog 3 (plainElem Tryd.prog 3) b n D := by
  obtain ⟨es, clock, hh, rest⟩ := h
  refine ⟨es, clock, ?_, rest⟩
  rw [Below.heap_setCell _ _ _ _ hne, Below.heap_setCell _ _ _ _ hne]
  exact hh

set_option maxHeartbeats 400000 in
theorem flip1 (e c : Int) (W : World) (h0 : -1000 ≤ e) (h1 : e ≤ 1000) :
    Calls Tryd.prog 33 #[.agg #[.int .i64 e, .int .i64 c]] W fun r w' => r = .returned (.agg #[.int .i64 (-e), .int .i64 c]) ∧ Below W.heap.size W w' := by
  go_enter Tryd.func33, Tryd.ntmps33
  go_wp2
  exact bodyPost_ret (v := .agg #[.int .i64 (-e), .int .i64 c]) (by simp [results, Tryd.results33, go_sem]) rfl ⟨rfl, ((Below.refl _ _).alloc (Nat.le_refl _) _).alloc (by simp) _⟩

/-- What Flip's closure makes of a list. -/
def flipM (l : List (Int × Int)) : List (Int × Int) := l.map fun t => (-t.1, t.2)

set_option maxHeartbeats 2000000 in
set_option maxRecDepth 100000 in
theorem changed_flip (b off cap : Nat) (l : List (Int × Int)) (w : World) (hm : mayB l = true) (hbw : b < w.heap.size) (hT : TermsAt w b off l) :
    Calls Tryd.prog 32 #[.slice (some ⟨b, off, none⟩) l.length cap, .func (.func 33) #[] #[]] w fun e w' => ∃ v r, e = .returned v ∧ w'.ownsRow w.heap.size 36 2 v r.length (flat r) ∧ Canon r (coefL (flipM l)) ∧ r.length ≤ 64 ∧ Below w.heap.size w w' := by
  have hl64 := ((may_iff l).1 hm).1
  have HM : Hid (mayB l = true) := hm
  have HT : Hid (TermsAt w b off l) := hT
  have hmm := make46 l.length
  clear hm hT
  go_enter Tryd.func32, Tryd.ntmps32
  go_wp2
  go_loopw [13] (fun i wr => ∃ (k : Nat) (D : DataW Unit), k ≤ l.length ∧ i = .int .i64 k ∧ wr.ownsMap Tryd.prog 3 (plainElem Tryd.prog 3) w.heap.size k D ∧ Below w.heap.size w wr ∧ Hid (∀ x, coefOf D x = coefL ((flipM l).take k) x)) (fun i _ => l.length - (intOf i).toNat)
  case atStart => exact ⟨0, .map [], Nat.zero_le _, rfl, World.ownsMap_made _ _ _ _, (Below.refl _ _).alloc (Nat.le_refl _) _, fun x => coefOf_none rfl⟩
  case round =>
    obtain ⟨k, D, hk, rfl, hown, hb, hD⟩ := hrel
    by_cases hlt : k < l.length
    · have c0 := bcell hb hbw (HT.out k hlt).1
      have c1 := bcell hb hbw (HT.out k hlt).2
      have hok := (okB_iff l k).1 (((may_iff l).1 HM.out).2 k hlt)
      have hsz := hb.size
      have hbr : b < wr.heap.size := Nat.lt_of_lt_of_le hbw hsz
      generalize he : (l.getD k (0, 0)).1 = e at c0 hok
      generalize hc : (l.getD k (0, 0)).2 = c at c1 hok
      have HS : Hid (∀ x, coefL ((flipM l).take (k + 1)) x = coefL ((flipM l).take k) x + (if -e = x then c else 0)) := fun x => by
        have g : (flipM l).getD k (0, 0) = (-e, c) := by
          have gl : l.getD k (0, 0) = l[k] := by simp [List.getD, hlt]
          rw [gl] at he hc
          simp [flipM, List.getD, hlt, he, hc]
        rw [coefL_take _ k (by simpa [flipM] using hlt), g]
      have HB : Hid (∀ x, -64000000 ≤ coefL ((flipM l).take k) x ∧ coefL ((flipM l).take k) x ≤ 64000000) := fun x => by
        have := coefL_le ((flipM l).take k) 1000000 x (fun t ht => by
          have ht2 := List.mem_of_mem_take ht
          simp only [flipM, List.mem_map] at ht2
          obtain ⟨s, hs, rfl⟩ := ht2
          obtain ⟨i, hi, rfl⟩ := List.getElem_of_mem hs
          have := (okB_iff l i).1 (((may_iff l).1 HM.out).2 i hi)
          simp only [List.getD, List.getElem?_eq_getElem hi, Option.getD_some] at this
          exact ⟨this.2.2.1, this.2.2.2.1⟩) (by decide)
        have hl : ((flipM l).take k).length ≤ 64 := by simp [flipM]; omega
        omega
      clear he hc
      obtain ⟨o1, o2, o3, o4, o5, -⟩ := hok
      clear o5
      go_wp2_with (go_at_call 33; refine (flip1 _ _ _ (by omega) (by omega)).mono ?_; rintro r w1 ⟨rfl, hb1⟩; refine Hid.out ?_)
      refine Lib.hid ?_
      have hT1 : w1.heap[wr.heap.size]? = some (.cells #[.int .i64 e, .int .i64 c] 36 (0, 0)) := (hb1.block _ (by simp)).trans Array.getElem?_push_size
      have d0 : w1.cell? ⟨wr.heap.size, 0, none⟩ = some (.int .i64 e) := by unfold World.cell?; rw [hT1]; rfl
      have d1 : w1.cell? ⟨wr.heap.size, 1, none⟩ = some (.int .i64 c) := by unfold World.cell?; rw [hT1]; rfl
      have f0 : w1.frozen? ⟨wr.heap.size, 0, none⟩ = false := by simp [World.frozen?, hT1]
      have f1 : w1.frozen? ⟨wr.heap.size, 1, none⟩ = false := by simp [World.frozen?, hT1]
      have hown1 : w1.ownsMap Tryd.prog 3 (plainElem Tryd.prog 3) w.heap.size k D := (hown.alloc _).kept (grown_below hb1 none) (by simp)
      have hnx1 : Below w.heap.size w w1 := (hb.alloc hsz _).trans (hb1.mono (by simp; omega))
      have hBlt := hown.lt
      clear hT1 hb1 c0 c1 hown
      go_wp2_with (first
        | (at_lookup; refine wpList_lookup_own_int _ rfl _ _ 62 rfl 3 3 .i64 law3 Tryd.underlying62 Tryd.underlying3 (zero3 _) w.heap.size k _ rfl (own_set2 hown1 (by omega) _ _ _ _) _ _ rfl (keyOf_int_mk Tryd.underlying3 (WalkArith.wf_i64 (by omega))) ?_; intro c' hat hwc; refine Hid.out ?_))
      refine Lib.hid ?_
      have hc' : coefL ((flipM l).take k) (-e) = c' := by rw [← hD.out, coefOf_look hat]
      have hbd := HB.out (-e)
      rw [hc'] at hbd
      have HC' : Hid (coefL ((flipM l).take k) (-e) = c') := hc'
      have hdm := hown1.isMap
      clear hat hwc hc'
      go_wp2_with (first
        | (at_mapUpdate; refine wpList_mapUpdate_own _ rfl _ _ _ 62 rfl 3 3 law3 Tryd.underlying62 _ w.heap.size k _ rfl (own_set2 hown1 (by omega) _ _ _ _) (by unfold maxLen; omega) _ _ _ rfl rfl (keyOf_int_mk Tryd.underlying3 (WalkArith.wf_i64 (by omega))) _ [] (plainElem_int Tryd.underlying3 (WalkArith.wf_i64 (by omega))) ?_; intro w2 hown2 hg2; go_frame))
      go_roundw
      case rel =>
        refine ⟨k + 1, _, by omega, by go_num, hown2, ((hnx1.setCell (by simp; omega) _).setCell (by simp; omega) _).grown hg2 (by have := hnx1.size; simp [World.setCell]; omega) (fun j hj => by cases hj; exact Nat.le_refl _), fun x => ?_⟩
        rw [coefOf_put hdm, HS.out]
        by_cases hx : -e = x
        · rw [if_pos hx, if_pos hx, ← hx, HC'.out]
        · rw [if_neg hx, if_neg hx, hD.out]; omega
      case measure => simp [intOf]; omega
    · obtain rfl : k = l.length := by omega
      have hs := size_le hown
      have htake : (flipM l).take l.length = flipM l := List.take_of_length_le (by simp [flipM])
      have hD2 := hD.out
      rw [htake] at hD2
      have HD2 : Hid _ := hD2
      clear hD hD2 htake
      go_wp2_with (go_at_call 38; refine (terms34 w.heap.size l.length D _ hown (by omega)).mono ?_; rintro r w1 ⟨v, m, rfl, hrow, hcan, hml, hb1⟩)
      go_ret
      exact ⟨v, m, rfl, own_lower hrow hb.size, canon_congr hcan HD2.out, by omega, hb.trans (hb1.mono hb.size)⟩

theorem cell_up {B : Nat} {w wr : World} {p : Nat} {v : Value} (hb : Below B w wr) (hp : p < B) (h : w.cell? ⟨p, 0, none⟩ = some v) (hB : B ≤ wr.heap.size) (o : Obj) : (wr.alloc o).cell? ⟨p, 0, none⟩ = some v := by
  have h1 := bcell hb hp h
  have := ((Below.refl wr.heap.size wr).alloc (Nat.le_refl _) o).cell (p := ⟨p, 0, none⟩) (show p < wr.heap.size by omega)
  rw [this]; exact h1

/-- What Unit's closure makes of a list. -/
def unitM (e0 s : Int) (l : List (Int × Int)) : List (Int × Int) := l.map fun t => (t.1 - e0, s * t.2)

end Go.Proofs.YthbhllomikfbhaaDoor.Poly

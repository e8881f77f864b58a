/- The walk of poly.collected: a polynomial's terms in a map. -/
import Derived.Test.YthbhllomikfbhaaDoorPA11
namespace Go.Proofs.YthbhllomikfbhaaDoor.Poly
open Go.RowKit Go.Maps

/-- All keys of the map are at most N in size. -/
def KeysIn (D : DataW Unit) (N : Int) : Prop := ∀ x, Maps.has D (.int .i64 x) = true → -N ≤ x ∧ x ≤ N

theorem keysIn_put {D : DataW Unit} {N x : Int} (h : KeysIn D N) (h0 : -N ≤ x) (h1 : x ≤ N) (d : DataW Unit) : KeysIn (D.put (.int .i64 x) d) N := by
  intro y hy
  by_cases e : y = x
  · subst e; exact ⟨h0, h1⟩
  · rw [has_put_other (by intro e'; cases e'; exact e rfl)] at hy
    exact h y hy

theorem may_coef {l : List (Int × Int)} (hm : mayB l = true) : ∀ t ∈ l, -1000 ≤ t.1 ∧ t.1 ≤ 1000 ∧ -1000000 ≤ t.2 ∧ t.2 ≤ 1000000 := by
  intro t ht
  obtain ⟨i, hi, rfl⟩ := List.getElem_of_mem ht
  have := (okB_iff l i).1 (((may_iff l).1 hm).2 i hi)
  simp only [List.getD, List.getElem?_eq_getElem hi, Option.getD_some] at this
  exact ⟨this.1, this.2.1, this.2.2.1, this.2.2.2.1⟩

set_option maxHeartbeats 2000000 in
set_option maxRecDepth 100000 in
theorem collected_some (b off cap : Nat) (l : List (Int × Int)) (w : World) (hm : mayB l = true) (hbw : b < w.heap.size) (hT : TermsAt w b off l) :
    Calls Tryd.prog 65 #[.slice (some ⟨b, off, none⟩) l.length cap] w fun e w' => ∃ D : DataW Unit, e = .returned (.map (some w.heap.size)) ∧ w'.ownsMap Tryd.prog 3 (plainElem Tryd.prog 3) w.heap.size l.length D ∧ (∀ x, coefOf D x = coefL l x) ∧ KeysIn D 1000 ∧ Below w.heap.size w w' := by
  have hl64 := ((may_iff l).1 hm).1
  have HM : Hid (mayB l = true) := hm
  have HT : Hid (TermsAt w b off l) := hT
  have hmm := make46 l.length
  clear hm hT
  go_enter Tryd.func65, Tryd.ntmps65
  go_wp2
  go_loopw [11] (fun i wr => ∃ (k : Nat) (D : DataW Unit), k ≤ l.length ∧ i = .int .i64 k ∧ wr.ownsMap Tryd.prog 3 (plainElem Tryd.prog 3) w.heap.size k D ∧ Below w.heap.size w wr ∧ Hid (∀ x, coefOf D x = coefL (l.take k) x) ∧ Hid (KeysIn D 1000)) (fun i _ => l.length - (intOf i).toNat)
  case atStart => exact ⟨0, .map [], Nat.zero_le _, rfl, World.ownsMap_made _ _ _ _, (Below.refl _ _).alloc (Nat.le_refl _) _, fun x => coefOf_none rfl, fun x hx => by cases hx⟩
  case round =>
    obtain ⟨k, D, hk, rfl, hown, hb, hD, hK⟩ := hrel
    by_cases hlt : k < l.length
    · have c0 := bcell hb hbw (HT.out k hlt).1
      have c1 := bcell hb hbw (HT.out k hlt).2
      have hok := (okB_iff l k).1 (((may_iff l).1 HM.out).2 k hlt)
      have hsz := hb.size
      have hbr : b < wr.heap.size := Nat.lt_of_lt_of_le hbw hsz
      have HS0 := coefL_take l k hlt
      generalize he : (l.getD k (0, 0)).1 = e at c0 hok HS0
      generalize hc : (l.getD k (0, 0)).2 = c at c1 hok HS0
      have HS : Hid (∀ x, coefL (l.take (k + 1)) x = coefL (l.take k) x + (if e = x then c else 0)) := HS0
      have HB : Hid (∀ x, -64000000 ≤ coefL (l.take k) x ∧ coefL (l.take k) x ≤ 64000000) := fun x => by
        have := coefL_le (l.take k) 1000000 x (fun t ht => (may_coef HM.out t (List.mem_of_mem_take ht)).2.2) (by decide)
        have hl : (l.take k).length ≤ 64 := by simp; omega
        omega
      clear he hc HS0
      obtain ⟨o1, o2, o3, o4, o5, -⟩ := hok
      clear o5
      have hBlt := hown.lt
      go_wp2_with (first
        | (at_lookup; refine wpList_lookup_own_int _ rfl _ _ 62 rfl 3 3 .i64 law3 Tryd.underlying62 Tryd.underlying3 (zero3 _) w.heap.size k _ rfl (hown.alloc _) _ _ rfl (keyOf_int_mk Tryd.underlying3 (WalkArith.wf_i64 (by omega))) ?_; intro c' hat hwc; refine Hid.out ?_))
      refine Lib.hid ?_
      have hc' : coefL (l.take k) e = c' := by rw [← hD.out, coefOf_look hat]
      have hbd := HB.out e
      rw [hc'] at hbd
      have HC' : Hid (coefL (l.take k) e = c') := hc'
      have hdm := hown.isMap
      clear hat hwc hc'
      go_wp2_with (first
        | (at_mapUpdate; refine wpList_mapUpdate_own _ rfl _ _ _ 62 rfl 3 3 law3 Tryd.underlying62 _ w.heap.size k _ rfl (hown.alloc _) (by unfold maxLen; omega) _ _ _ rfl rfl (keyOf_int_mk Tryd.underlying3 (WalkArith.wf_i64 (by omega))) _ [] (plainElem_int Tryd.underlying3 (WalkArith.wf_i64 (by omega))) ?_; intro w2 hown2 hg2; go_frame))
      go_roundw
      case rel =>
        refine ⟨k + 1, _, by omega, by go_num, hown2, (hb.alloc hsz _).grown hg2 (by simp; omega) (fun j hj => by cases hj; exact Nat.le_refl _), fun x => ?_, keysIn_put hK.out o1 o2 _⟩
        rw [coefOf_put hdm, HS.out]
        by_cases hx : e = x
        · rw [if_pos hx, if_pos hx, ← hx, HC'.out]
        · rw [if_neg hx, if_neg hx, hD.out]; omega
      case measure => simp [intOf]; omega
    · obtain rfl : k = l.length := by omega
      have htake : l.take l.length = l := List.take_of_length_le (Nat.le_refl _)
      have hD2 := hD.out
      rw [htake] at hD2
      have HD2 : Hid _ := hD2
      clear hD hD2 htake
      go_wp2
      go_ret
      exact ⟨D, rfl, hown, HD2.out, hK.out, hb⟩

set_option maxHeartbeats 400000 in
set_option maxRecDepth 100000 in
theorem collected_none (a : Option Addr) (cap : Nat) (w : World) :
    Calls Tryd.prog 65 #[.slice a 0 cap] w fun e w' => e = .returned (.map (some w.heap.size)) ∧ w'.ownsMap Tryd.prog 3 (plainElem Tryd.prog 3) w.heap.size 0 (.map [] : DataW Unit) ∧ Below w.heap.size w w' := by
  have hmm := make46 0
  simp only [Int.natCast_zero] at hmm
  go_enter Tryd.func65, Tryd.ntmps65
  go_wp2
  go_loopw [11] (fun i wr => i = .int .i64 0 ∧ wr.ownsMap Tryd.prog 3 (plainElem Tryd.prog 3) w.heap.size 0 (.map [] : DataW Unit) ∧ Below w.heap.size w wr) (fun _ _ => 0)
  case atStart => exact ⟨rfl, World.ownsMap_made _ _ _ _, (Below.refl _ _).alloc (Nat.le_refl _) _⟩
  case round =>
    obtain ⟨rfl, hown, hb⟩ := hrel
    go_wp2
    go_ret
    exact ⟨rfl, hown, hb⟩

theorem collected_poly (v : Value) (l : List (Int × Int)) (w : World) (hm : mayB l = true) (hP : Poly w w.heap.size v l) :
    Calls Tryd.prog 65 #[v] w fun e w' => ∃ D : DataW Unit, e = .returned (.map (some w.heap.size)) ∧ w'.ownsMap Tryd.prog 3 (plainElem Tryd.prog 3) w.heap.size l.length D ∧ (∀ x, coefOf D x = coefL l x) ∧ KeysIn D 1000 ∧ Below w.heap.size w w' := by
  rcases hP with ⟨rfl, rfl⟩ | ⟨a, cap, rfl, rfl⟩ | ⟨b, off, cap, rfl, hlt, hT⟩
  · exact (collected_none none 0 w).mono fun e w' ⟨h1, h2, h3⟩ => ⟨_, h1, h2, fun x => coefOf_none rfl, fun x hx => (by cases hx), h3⟩
  · exact (collected_none (some a) cap w).mono fun e w' ⟨h1, h2, h3⟩ => ⟨_, h1, h2, fun x => coefOf_none rfl, fun x hx => (by cases hx), h3⟩
  · exact collected_some b off cap l w hm hlt hT
end Go.Proofs.YthbhllomikfbhaaDoor.Poly

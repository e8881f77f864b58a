/- Several texts of the proof, one behind the other. -/
import Derived.Test.YtihijieciogabaaDoorPA10P
/- The walk of poly.collected: a polynomial's terms in a map. -/
namespace Go.Proofs.YtihijieciogabaaDoor.Poly
open Go.RowKit Go.Maps

/-- All keys of the map are at most N in size. -/
def KeysIn (D : DataW Unit) (N : Int) : Prop := ∀ x, Maps.has D (.int .i64 x) = true → -N ≤ x ∧ x ≤ N

theorem keysIn_put {D : DataW Unit} {N x : Int} (h : KeysIn D N) (h0 : -N ≤ x) (h1 : x ≤ N) (d : DataW Unit) : KeysIn (D.put (.int .i64 x) d) N := by
  intro y hy
  by_cases e : y = x
  · subst e; exact ⟨h0, h1⟩
  · rw [has_put_other (by intro e'; cases e'; exact e rfl)] at hy
    exact h y hy

theorem may_coef {l : List (Int × Int)} (hm : mayB l = true) : ∀ t ∈ l, -1000 ≤ t.1 ∧ t.1 ≤ 1000 ∧ -1000000 ≤ t.2 ∧ t.2 ≤ 1000000 := by
  intro t ht
  obtain ⟨i, hi, rfl⟩ := List.getElem_of_mem ht
  have := (okB_iff l i).1 (((may_iff l).1 hm).2 i hi)
  simp only [List.getD, List.getElem?_eq_getElem hi, Option.getD_some] at this
  exact ⟨this.1, this.2.1, this.2.2.1, this.2.2.2.1⟩

set_option maxHeartbeats 2000000 in
set_option maxRecDepth 100000 in
theorem collected_some (b off cap : Nat) (l : List (Int × Int)) (w : World) (hm : mayB l = true) (hbw : b < w.heap.size) (hT : TermsAt w b off l) :
    Calls Tryd.prog 44 #[.slice (some ⟨b, off, none⟩) l.length cap] w fun e w' => ∃ D : DataW Unit, e = .returned (.map (some w.heap.size)) ∧ w'.ownsMap Tryd.prog 3 (plainElem Tryd.prog 3) w.heap.size l.length D ∧ (∀ x, coefOf D x = coefL l x) ∧ KeysIn D 1000 ∧ Below w.heap.size w w' := by
  have hl64 := ((may_iff l).1 hm).1
  have HM : Hid (mayB l = true) := hm
  have HT : Hid (TermsAt w b off l) := hT
  have hmm := make46 l.length
  clear hm hT
  go_enter Tryd.func44, Tryd.ntmps44
  go_wp2
  go_loopw [11] (fun i wr => ∃ (k : Nat) (D : DataW Unit), k ≤ l.length ∧ i = .int .i64 k ∧ wr.ownsMap Tryd.prog 3 (plainElem Tryd.prog 3) w.heap.size k D ∧ Below w.heap.size w wr ∧ Hid (∀ x, coefOf D x = coefL (l.take k) x) ∧ Hid (KeysIn D 1000)) (fun i _ => l.length - (intOf i).toNat)
  case atStart => exact ⟨0, .map [], Nat.zero_le _, rfl, World.ownsMap_made _ _ _ _, (Below.refl _ _).alloc (Nat.le_refl _) _, fun x => coefOf_none rfl, fun x hx => by cases hx⟩
  case round =>
    obtain ⟨k, D, hk, rfl, hown, hb, hD, hK⟩ := hrel
    by_cases hlt : k < l.length
    · have c0 := bcell hb hbw (HT.out k hlt).1
      have c1 := bcell hb hbw (HT.out k hlt).2
      have hok := (okB_iff l k).1 (((may_iff l).1 HM.out).2 k hlt)
      have hsz := hb.size
      have hbr : b < wr.heap.size := Nat.lt_of_lt_of_le hbw hsz
      have HS0 := coefL_take l k hlt
      generalize he : (l.getD k (0, 0)).1 = e at c0 hok HS0
      generalize hc : (l.getD k (0, 0)).2 = c at c1 hok HS0
      have HS : Hid (∀ x, coefL (l.take (k + 1)) x = coefL (l.take k) x + (if e = x then c else 0)) := HS0
      have HB : Hid (∀ x, -64000000 ≤ coefL (l.take k) x ∧ coefL (l.take k) x ≤ 64000000) := fun x => by
        have := coefL_le (l.take k) 1000000 x (fun t ht => (may_coef HM.out t (List.mem_of_mem_take ht)).2.2) (by decide)
        have hl : (l.take k).length ≤ 64 := by simp; omega
        omega
      clear he hc HS0
      obtain ⟨o1, o2, o3, o4, o5, -⟩ := hok
      clear o5
      have hBlt := hown.lt
      go_wp2_with (first
        | (at_lookup; refine wpList_lookup_own_int _ rfl _ _ 47 rfl 3 3 .i64 law3 Tryd.underlying47 Tryd.underlying3 (zero3 _) w.heap.size k _ rfl (hown.alloc _) _ _ rfl (keyOf_int_mk Tryd.underlying3 (WalkArith.wf_i64 (by omega))) ?_; intro c' hat hwc; refine Hid.out ?_))
      refine Lib.hid ?_
      have hc' : coefL (l.take k) e = c' := by rw [← hD.out, coefOf_look hat]
      have hbd := HB.out e
      rw [hc'] at hbd
      have HC' : Hid (coefL (l.take k) e = c') := hc'
      have hdm := hown.isMap
      clear hat hwc hc'
      go_wp2_with (first
        | (at_mapUpdate; refine wpList_mapUpdate_own _ rfl _ _ _ 47 rfl 3 3 law3 Tryd.underlying47 _ w.heap.size k _ rfl (hown.alloc _) (by unfold maxLen; omega) _ _ _ rfl rfl (keyOf_int_mk Tryd.underlying3 (WalkArith.wf_i64 (by omega))) _ [] (plainElem_int Tryd.underlying3 (WalkArith.wf_i64 (by omega))) ?_; intro w2 hown2 hg2; go_frame))
      go_roundw
      case rel =>
        refine ⟨k + 1, _, by omega, by go_num, hown2, (hb.alloc hsz _).grown hg2 (by simp; omega) (fun j hj => by cases hj; exact Nat.le_refl _), fun x => ?_, keysIn_put hK.out o1 o2 _⟩
        rw [coefOf_put hdm, HS.out]
        by_cases hx : e = x
        · rw [if_pos hx, if_pos hx, ← hx, HC'.out]
        · rw [if_neg hx, if_neg hx, hD.out]; omega
      case measure => simp [intOf]; omega
    · obtain rfl : k = l.length := by omega
      have htake : l.take l.length = l := List.take_of_length_le (Nat.le_refl _)
      have hD2 := hD.out
      rw [htake] at hD2
      have HD2 : Hid _ := hD2
      clear hD hD2 htake
      go_wp2
      go_ret
      exact ⟨D, rfl, hown, HD2.out, hK.out, hb⟩

set_option maxHeartbeats 400000 in
set_option maxRecDepth 100000 in
theorem collected_none (a : Option Addr) (cap : Nat) (w : World) :
    Calls Tryd.prog 44 #[.slice a 0 cap] w fun e w' => e = .returned (.map (some w.heap.size)) ∧ w'.ownsMap Tryd.prog 3 (plainElem Tryd.prog 3) w.heap.size 0 (.map [] : DataW Unit) ∧ Below w.heap.size w w' := by
  have hmm := make46 0
  simp only [Int.natCast_zero] at hmm
  go_enter Tryd.func44, Tryd.ntmps44
  go_wp2
  go_loopw [11] (fun i wr => i = .int .i64 0 ∧ wr.ownsMap Tryd.prog 3 (plainElem Tryd.prog 3) w.heap.size 0 (.map [] : DataW Unit) ∧ Below w.heap.size w wr) (fun _ _ => 0)
  case atStart => exact ⟨rfl, World.ownsMap_made _ _ _ _, (Below.refl _ _).alloc (Nat.le_refl _) _⟩
  case round =>
    obtain ⟨rfl, hown, hb⟩ := hrel
    go_wp2
    go_ret
    exact ⟨rfl, hown, hb⟩

theorem collected_poly (v : Value) (l : List (Int × Int)) (w : World) (hm : mayB l = true) (hP : Poly w w.heap.size v l) :
    Calls Tryd.prog 44 #[v] w fun e w' => ∃ D : DataW Unit, e = .returned (.map (some w.heap.size)) ∧ w'.ownsMap Tryd.prog 3 (plainElem Tryd.prog 3) w.heap.size l.length D ∧ (∀ x, coefOf D x = coefL l x) ∧ KeysIn D 1000 ∧ Below w.heap.size w w' := by
  rcases hP with ⟨rfl, rfl⟩ | ⟨a, cap, rfl, rfl⟩ | ⟨b, off, cap, rfl, hlt, hT⟩
  · exact (collected_none none 0 w).mono fun e w' ⟨h1, h2, h3⟩ => ⟨_, h1, h2, fun x => coefOf_none rfl, fun x hx => (by cases hx), h3⟩
  · exact (collected_none (some a) cap w).mono fun e w' ⟨h1, h2, h3⟩ => ⟨_, h1, h2, fun x => coefOf_none rfl, fun x hx => (by cases hx), h3⟩
  · exact collected_some b off cap l w hm hlt hT
end Go.Proofs.YtihijieciogabaaDoor.Poly
/- The walk of (poly.work).plus: the sum of two maps, as a new one. -/
namespace Go.Proofs.YtihijieciogabaaDoor.Poly
open Go.RowKit Go.Maps

set_option maxRecDepth 100000 in
theorem make46i (n : Int) (w : World) : (Instr.makeMap 47 (some (.int .i64 n))).run Tryd.prog w = .ok (.map (some w.heap.size)) (w.alloc (.map #[] 0)) := rfl

/-- What stands of a range: f where the key is no longer to come. -/
def part (left : Lit → Bool) (f : Int → Int) (x : Int) : Int := if left (.int .i64 x) then 0 else f x

theorem part_start (D : DataW Unit) (x : Int) : part (Maps.has D) (coefOf D) x = 0 := by
  unfold part
  split
  · rfl
  · rename_i h
    exact coefOf_none (by simpa using h)

theorem part_step (left : Lit → Bool) (f : Int → Int) (x y : Int) : part (fun z => left z && !z.sameKey (.int .i64 x)) f y = if x = y then f x else part left f y := by
  unfold part
  by_cases h : x = y
  · subst h
    have : (left (.int .i64 x) && !(Lit.int .i64 x).sameKey (.int .i64 x)) = false := (strike_int left x x).2 (Or.inr rfl)
    simp only [this]
    simp
  · rw [if_neg h]
    cases hy : left (.int .i64 y) with
    | false =>
      have : (left (.int .i64 y) && !(Lit.int .i64 y).sameKey (.int .i64 x)) = false := (strike_int left x y).2 (Or.inl hy)
      simp only [this]
    | true =>
      have : (left (.int .i64 y) && !(Lit.int .i64 y).sameKey (.int .i64 x)) = true := by
        cases hh : (left (.int .i64 y) && !(Lit.int .i64 y).sameKey (.int .i64 x)) with
        | true => rfl
        | false =>
          rcases (strike_int left x y).1 hh with h1 | h1
          · rw [hy] at h1; cases h1
          · exact absurd h1.symm h
      rw [if_pos this]
      rfl

theorem part_at {left : Lit → Bool} {f : Int → Int} {x : Int} (hl : left (.int .i64 x) = true) : part left f x = 0 := by unfold part; rw [if_pos hl]
theorem part_end {left : Lit → Bool} {f : Int → Int} (hl : ∀ kl, left kl = false) (x : Int) : part left f x = f x := by unfold part; rw [hl]; rfl

theorem map_on {w w' : World} {B b n : Nat} {D : DataW Unit} (h : w.ownsMap Tryd.prog 3 (plainElem Tryd.prog 3) b n D) (hb : Below B w w') (hlt : b < B) : w'.ownsMap Tryd.prog 3 (plainElem Tryd.prog 3) b n D := by
  obtain ⟨es, clock, hh, rest⟩ := h
  exact ⟨es, clock, (hb.block b hlt).trans hh, rest⟩

theorem has_at {D : DataW Unit} {x c : Int} (hat : ∀ zd, D.atKey (.int .i64 x) zd = .lit (.int .i64 c)) : Maps.has D (.int .i64 x) = true := has_true_of_atKey hat

set_option maxHeartbeats 4000000 in
set_option maxRecDepth 100000 in
theorem plus23 (bp np bq nq : Nat) (Dp Dq : DataW Unit) (w : World) (hp : w.ownsMap Tryd.prog 3 (plainElem Tryd.prog 3) bp np Dp) (hq : w.ownsMap Tryd.prog 3 (plainElem Tryd.prog 3) bq nq Dq) (hnp : np ≤ 64) (hnq : nq ≤ 64)
    (hkq : KeysIn Dq 1000) (hbp : ∀ x, -1000000 ≤ coefOf Dp x ∧ coefOf Dp x ≤ 1000000) (hbq : ∀ x, -1000000 ≤ coefOf Dq x ∧ coefOf Dq x ≤ 1000000) :
    Calls Tryd.prog 46 #[.map (some bp), .map (some bq)] w fun e w' => ∃ D : DataW Unit, e = .returned (.map (some w.heap.size)) ∧ w'.ownsMap Tryd.prog 3 (plainElem Tryd.prog 3) w.heap.size 128 D ∧ (∀ x, coefOf D x = coefOf Dp x + coefOf Dq x) ∧ Below w.heap.size w w' := by
  have hmm := fun n => make46i n
  have hlp := hp.lt
  have hlq := hq.lt
  have hsp := size_le hp
  have hsq := size_le hq
  have HKQ : Hid _ := hkq
  have HBP : Hid _ := hbp
  have HBQ : Hid _ := hbq
  clear hkq hbp hbq
  have e1 : (w.alloc (.map #[] 0)).heap.size = w.heap.size + 1 := by simp
  go_enter Tryd.func46, Tryd.ntmps46
  go_wp2_with (first
    | (at_len; refine wpList_len_own _ rfl _ 47 rfl 3 3 Tryd.underlying47 _ bp np _ rfl hp ?_)
    | (at_len; refine wpList_len_own _ rfl _ 47 rfl 3 3 Tryd.underlying47 _ bq nq _ rfl hq ?_)
    | (at_range; refine wpList_range_own _ rfl _ 47 rfl 3 3 law3 Tryd.underlying47 _ bp np _ rfl (hp.alloc _) ?_; intro w0 hrg0 hg0 hs0))
  go_frame
  rw [e1] at hrg0 hs0 ⊢
  go_loopw [6, 7] (fun _ _ wr => ∃ (left : Lit → Bool) (cnt k : Nat) (D : DataW Unit), wr.ranges Tryd.prog 3 (plainElem Tryd.prog 3) bp (w.heap.size + 1) np Dp left cnt ∧ k + cnt ≤ np ∧
      wr.ownsMap Tryd.prog 3 (plainElem Tryd.prog 3) w.heap.size k D ∧ Hid (∀ x, coefOf D x = part left (coefOf Dp) x) ∧ Below w.heap.size w wr)
    (fun _ _ wr => wr.rangeLeft bp (w.heap.size + 1))
  case atStart =>
    exact ⟨_, _, 0, .map [], hrg0, by omega, (World.ownsMap_made _ _ _ _).kept hg0 (by simp), fun x => by rw [part_start]; exact coefOf_none rfl, ((Below.refl _ _).alloc (Nat.le_refl _) _).grown hg0 (by simp) (fun j hj => by cases hj)⟩
  case round =>
    clear hrg0 hg0 hs0
    rename World => W1
    obtain ⟨left, cnt, k, D, hrg, hcs, hout, hD, hnx⟩ := hrel
    go_wp2_with (first
      | (at_next; refine wpList_next_ranges_ii _ rfl _ rfl 3 3 .i64 .i64 law3 Tryd.underlying3 Tryd.underlying3 bp (w.heap.size + 1) np _ _ _ rfl hrg ?_ ?_)
      | go_in)
    · intro hc0 hl0
      have hD2 : Hid (∀ x, coefOf D x = coefOf Dp x) := fun x => by rw [hD.out, part_end hl0]
      have hq2 := map_on hq hnx hlq
      have hlr := hq2.lt
      have hsz := hnx.size
      have hol := hout.lt
      clear hD hc0 hl0
      go_wp2_with (first
        | (at_range; refine wpList_range_own _ rfl _ 47 rfl 3 3 law3 Tryd.underlying47 _ bq nq _ rfl hq2 ?_; intro w2 hrg2 hg2 hs2))
      go_frame
      go_loopw [8, 9] (fun _ _ ws => ∃ (left : Lit → Bool) (cnt k : Nat) (D : DataW Unit), ws.ranges Tryd.prog 3 (plainElem Tryd.prog 3) bq W1.heap.size nq Dq left cnt ∧ k + cnt ≤ np + nq ∧
          ws.ownsMap Tryd.prog 3 (plainElem Tryd.prog 3) w.heap.size k D ∧ Hid (∀ x, coefOf D x = coefOf Dp x + part left (coefOf Dq) x) ∧ Below w.heap.size w ws)
        (fun _ _ ws => ws.rangeLeft bq W1.heap.size)
      case atStart =>
        exact ⟨_, _, k, D, hrg2, by omega, hout.kept hg2 (by simp), fun x => by rw [part_start, hD2.out]; omega, hnx.grown hg2 hsz (fun j hj => by cases hj)⟩
      case round =>
        clear hrg2 hg2 hs2 hout hnx hrg
        obtain ⟨left, cnt, k, D, hrg, hcs, hout, hD, hnx⟩ := hrel
        go_wp2_with (first
          | (at_next; refine wpList_next_ranges_ii _ rfl _ rfl 3 3 .i64 .i64 law3 Tryd.underlying3 Tryd.underlying3 bq W1.heap.size nq _ _ _ rfl hrg ?_ ?_)
          | go_in)
        · intro hc0 hl0
          go_wp2
          go_ret
          exact ⟨D, rfl, hout.mono (by omega), fun x => by rw [hD.out, part_end hl0], hnx⟩
        · intro x c w1 cnt1 hwx hwc hlx hat hrg1 hlt hg1 hs1 hen
          have hout1 := hout.kept hg1 (by intro e; have := Option.some.inj e; omega)
          have hnx1 : Below w.heap.size w w1 := hnx.grown hg1 hnx.size (fun j hj => by cases hj; exact hsz)
          have hx := HKQ.out x (has_at hat)
          have hcq := HBQ.out x
          have hcp := HBP.out x
          rw [coefOf_at hat] at hcq
          have HX : Hid (coefOf Dq x = c ∧ coefOf D x = coefOf Dp x) := ⟨coefOf_at hat, by rw [hD.out, part_at hlx]; omega⟩
          have HL : Hid _ := hlx
          have hdm := hout.isMap
          clear hat hlx
          go_wp2_with (first
            | (at_lookup; refine wpList_lookup_own_int _ rfl _ _ 47 rfl 3 3 .i64 law3 Tryd.underlying47 Tryd.underlying3 (zero3 _) w.heap.size k _ rfl hout1 _ _ rfl (keyOf_int_mk Tryd.underlying3 (WalkArith.wf_i64 (by omega))) ?_; intro c' hat hwc; refine Hid.out ?_))
          refine Lib.hid ?_
          have hc' : coefOf D x = c' := coefOf_look hat
          have hbd : -1000000 ≤ c' ∧ c' ≤ 1000000 := by rw [← hc', HX.out.2]; exact hcp
          have HC' : Hid (coefOf D x = c') := hc'
          clear hat hwc hc'
          go_wp2_with (first
            | (at_mapUpdate; refine wpList_mapUpdate_own _ rfl _ _ _ 47 rfl 3 3 law3 Tryd.underlying47 _ w.heap.size k _ rfl hout1 (by unfold maxLen; omega) _ _ _ rfl rfl (keyOf_int_mk Tryd.underlying3 (WalkArith.wf_i64 (by omega))) _ [] (plainElem_int Tryd.underlying3 (WalkArith.wf_i64 (by omega))) ?_; intro w3 hown3 hg3; go_frame))
          have hrg3 := hrg1.kept hg3 (fun e => by have := Option.some.inj e; omega) (fun e => by have := Option.some.inj e; omega)
          go_roundw
          case rel =>
            refine ⟨_, cnt1, k + 1, _, hrg3, by omega, hown3, fun y => ?_, hnx1.grown hg3 hnx1.size (fun j hj => by cases hj; exact Nat.le_refl _)⟩
            rw [coefOf_put hdm, part_step]
            by_cases hxy : x = y
            · rw [if_pos hxy, if_pos hxy, ← HC'.out, HX.out.1, HX.out.2, hxy]
            · rw [if_neg hxy, if_neg hxy, hD.out]
          case measure => rw [hrg3.left_eq, hrg.left_eq]; exact hlt
    · intro x c w1 cnt1 hwx hwc hlx hat hrg1 hlt hg1 hs1 hen
      have hout1 := hout.kept hg1 (by simp)
      have hnx1 : Below w.heap.size w w1 := hnx.grown hg1 hnx.size (fun j hj => by cases hj; omega)
      have HX : Hid (coefOf Dp x = c) := coefOf_at hat
      have HL : Hid _ := hlx
      have hdm := hout.isMap
      clear hat hlx
      go_wp2_with (first
        | (at_mapUpdate; refine wpList_mapUpdate_own _ rfl _ _ _ 47 rfl 3 3 law3 Tryd.underlying47 _ w.heap.size k _ rfl hout1 (by unfold maxLen; omega) _ _ _ rfl rfl (keyOf_int_mk Tryd.underlying3 hwx) _ [] (plainElem_int Tryd.underlying3 hwc) ?_; intro w2 hout2 hg2; go_frame))
      have hrg2 := hrg1.kept hg2 (fun e => by have := Option.some.inj e; omega) (fun e => by have := Option.some.inj e; omega)
      go_roundw
      case rel =>
        refine ⟨_, cnt1, k + 1, _, hrg2, by omega, hout2, fun y => ?_, hnx1.grown hg2 hnx1.size (fun j hj => by cases hj; exact Nat.le_refl _)⟩
        rw [coefOf_put hdm, part_step]
        by_cases hxy : x = y
        · rw [if_pos hxy, if_pos hxy, HX.out]
        · rw [if_neg hxy, if_neg hxy, hD.out]
      case measure => rw [hrg2.left_eq, hrg.left_eq]; exact hlt
end Go.Proofs.YtihijieciogabaaDoor.Poly

/- Several texts of the proof, one behind the other. -/
import Derived.Test.YtihijieciogabaaDoorPB5
import Derived.Test.YtihijieciogabaaDoorPB4P
/- The walks of knotworkref.Sum and knotworkref.Product. -/
namespace Go.Proofs.YtihijieciogabaaDoor.Poly
open Go.RowKit Go.Maps

/-- The first k terms of b, s times each, put into a. -/
def sumTo (a b : List (Int × Int)) (s : Int) : Nat → List (Int × Int)
  | 0 => a
  | k + 1 => putL (sumTo a b s k) (b.getD k (0, 0)).1 (s * (b.getD k (0, 0)).2)

theorem sumTo_length (a b : List (Int × Int)) (s : Int) (k : Nat) : (sumTo a b s k).length ≤ a.length + k := by
  induction k with
  | zero => simp [sumTo]
  | succ k ih =>
    have := put_length (sumTo a b s k) (b.getD k (0, 0)).1 (s * (b.getD k (0, 0)).2)
    simp only [sumTo]
    omega

theorem sumTo_canon {a b : List (Int × Int)} {f : Int → Int} (ha : Canon a f) (s : Int) (k : Nat) (hk : k ≤ b.length) : Canon (sumTo a b s k) (fun x => f x + s * coefL (b.take k) x) := by
  induction k with
  | zero => exact canon_congr ha fun x => by simp [coefL]
  | succ k ih =>
    refine canon_congr (canon_put (ih (by omega)) _ _) fun x => ?_
    rw [coefL_take b k (by omega), Int.mul_add]
    split
    · omega
    · simp

theorem canon_bd {l : List (Int × Int)} {f : Int → Int} {M : Int} (h : Canon l f) (hf : ∀ x, -M ≤ f x ∧ f x ≤ M) : ∀ t ∈ l, -M ≤ t.2 ∧ t.2 ≤ M := by
  intro t ht
  have := ((h.2 t.1 t.2).1 ht).1
  rw [← this]
  exact hf t.1

/-- One term times the first k terms of b, put into out. -/
def rowTo (out b : List (Int × Int)) (t : Int × Int) : Nat → List (Int × Int)
  | 0 => out
  | k + 1 => putL (rowTo out b t k) (t.1 + (b.getD k (0, 0)).1) (t.2 * (b.getD k (0, 0)).2)
/-- The first i terms of a times b. -/
def prodTo (a b : List (Int × Int)) : Nat → List (Int × Int)
  | 0 => []
  | i + 1 => rowTo (prodTo a b i) b (a.getD i (0, 0)) b.length

theorem rowTo_length (out b : List (Int × Int)) (t : Int × Int) (k : Nat) : (rowTo out b t k).length ≤ out.length + k := by
  induction k with
  | zero => simp [rowTo]
  | succ k ih =>
    have := put_length (rowTo out b t k) (t.1 + (b.getD k (0, 0)).1) (t.2 * (b.getD k (0, 0)).2)
    simp only [rowTo]
    omega
theorem prodTo_length (a b : List (Int × Int)) (hb : b.length ≤ 64) (i : Nat) : (prodTo a b i).length ≤ 64 * i := by
  induction i with
  | zero => simp [prodTo]
  | succ i ih =>
    have := rowTo_length (prodTo a b i) b (a.getD i (0, 0)) b.length
    simp only [prodTo]
    omega

theorem rowTo_canon {out b : List (Int × Int)} {f : Int → Int} (ho : Canon out f) (t : Int × Int) (k : Nat) (hk : k ≤ b.length) : Canon (rowTo out b t k) (fun y => f y + t.2 * coefL (b.take k) (y - t.1)) := by
  induction k with
  | zero => exact canon_congr ho fun y => by simp [coefL]
  | succ k ih =>
    refine canon_congr (canon_put (ih (by omega)) _ _) fun y => ?_
    rw [coefL_take b k (by omega), Int.mul_add]
    by_cases h : t.1 + (b.getD k (0, 0)).1 = y
    · rw [if_pos h, if_pos (by omega)]; omega
    · rw [if_neg h, if_neg (by omega)]; simp

theorem prodL_take (a : List (Int × Int)) (i : Nat) (hi : i < a.length) (g : Int → Int) (y : Int) : prodL (a.take (i + 1)) g y = prodL (a.take i) g y + (a.getD i (0, 0)).2 * g (y - (a.getD i (0, 0)).1) := by
  rw [List.take_succ_eq_append_getElem hi, prodL_append]
  have e : a.getD i (0, 0) = a[i] := by simp [List.getD, hi]
  rw [e]
  simp [prodL]

theorem prodTo_canon (a b : List (Int × Int)) (i : Nat) (hi : i ≤ a.length) : Canon (prodTo a b i) (fun y => prodL (a.take i) (coefL b) y) := by
  induction i with
  | zero => exact ⟨List.Pairwise.nil, fun x c => by simp only [prodTo, List.not_mem_nil, false_iff, List.take_zero, prodL]; rintro ⟨rfl, h⟩; exact h rfl⟩
  | succ i ih =>
    refine canon_congr (rowTo_canon (ih (by omega)) _ b.length (Nat.le_refl _)) fun y => ?_
    rw [prodL_take a i (by omega), List.take_of_length_le (Nat.le_refl _)]

theorem row_bd {a b : List (Int × Int)} (hm1 : mayB a = true) (hm2 : mayB b = true) (i k : Nat) (hi : i < a.length) (hk : k ≤ b.length) : ∀ t ∈ rowTo (prodTo a b i) b (a.getD i (0, 0)) k, -1000000000000000 ≤ t.2 ∧ t.2 ≤ 1000000000000000 := by
  have h164 := ((may_iff a).1 hm1).1
  have hcb : ∀ x, -1000000 ≤ coefL b x ∧ coefL b x ≤ 1000000 := fun x => by
    by_cases h0 : coefL b x = 0
    · rw [h0]; omega
    · have := (coefL_mem ((may_rising hm2).imp fun h => by omega) (may_nonzero hm2) x (coefL b x)).2 ⟨rfl, h0⟩
      exact (may_coef hm2 _ this).2.2
  have hcbt : ∀ x, -1000000 ≤ coefL (b.take k) x ∧ coefL (b.take k) x ≤ 1000000 := fun x => by
    by_cases h0 : coefL (b.take k) x = 0
    · rw [h0]; omega
    · have hr : (b.take k).Pairwise (fun s t => s.1 ≠ t.1) := ((may_rising hm2).imp fun h => by omega : b.Pairwise (fun s t => s.1 ≠ t.1)).sublist (List.take_sublist _ _)
      have := (coefL_mem hr (fun t ht => may_nonzero hm2 t (List.mem_of_mem_take ht)) x (coefL (b.take k) x)).2 ⟨rfl, h0⟩
      exact (may_coef hm2 _ (List.mem_of_mem_take this)).2.2
  refine canon_bd (M := 1000000000000000) (rowTo_canon (prodTo_canon a b i (by omega)) _ k hk) fun y => ?_
  have h1 := prodL_le (a.take i) (coefL b) y (fun t ht => (may_coef hm1 t (List.mem_of_mem_take ht)).2.2) hcb
  have h2 : (a.take i).length ≤ 64 := by simp; omega
  have g : a.getD i (0, 0) = a[i] := by simp [List.getD, hi]
  have h3 := (may_coef hm1 a[i] (List.getElem_mem hi)).2.2
  have h4 := hcbt (y - (a.getD i (0, 0)).1)
  have h5 := mul_bd (c := (a.getD i (0, 0)).2) (by rw [g]; exact h3.1) (by rw [g]; exact h3.2) h4.1 h4.2
  omega

set_option maxHeartbeats 4000000 in
set_option maxRecDepth 100000 in
theorem prod_some (b1 off1 cap1 b2 off2 cap2 : Nat) (l1 l2 : List (Int × Int)) (w : World) (hm1 : mayB l1 = true) (hm2 : mayB l2 = true) (hbw1 : b1 < w.heap.size) (hT1 : TermsAt w b1 off1 l1) (hbw2 : b2 < w.heap.size) (hT2 : TermsAt w b2 off2 l2) :
    Calls Tryd.prog 39 #[.slice (some ⟨b1, off1, none⟩) l1.length cap1, .slice (some ⟨b2, off2, none⟩) l2.length cap2] w fun e w' => ∃ v, e = .returned v ∧ PolyC w' w'.heap.size v (prodTo l1 l2 l1.length) ∧ Below w.heap.size w w' := by
  have h164 := ((may_iff l1).1 hm1).1
  have h264 := ((may_iff l2).1 hm2).1
  have HM1 : Hid (mayB l1 = true) := hm1
  have HM2 : Hid (mayB l2 = true) := hm2
  have HT1 : Hid (TermsAt w b1 off1 l1) := hT1
  have HT2 : Hid (TermsAt w b2 off2 l2) := hT2
  clear hm1 hm2 hT1 hT2
  go_enter Tryd.func39, Tryd.ntmps39
  go_wp2
  go_loopw [5, 6, 7] (fun v i _ wr => ∃ k : Nat, k ≤ l1.length ∧ i = .int .i64 k ∧ Hid (PolyC wr wr.heap.size v (prodTo l1 l2 k)) ∧ Below w.heap.size w wr) (fun _ i _ _ => l1.length - (intOf i).toNat)
  case atStart => exact ⟨0, Nat.zero_le _, rfl, ⟨Or.inl ⟨rfl, rfl⟩, none, 0, 0, rfl, Nat.le_refl _, Nat.zero_le _⟩, Below.refl _ _⟩
  case round =>
    rename World => W1
    obtain ⟨i, hi, rfl, hP, hb⟩ := hrel
    by_cases hlt : i < l1.length
    · have hlen := prodTo_length l1 l2 h264 i
      go_wp2
      go_loopw [5, 7] (fun v j wr => ∃ k : Nat, k ≤ l2.length ∧ j = .int .i64 k ∧ Hid (PolyC wr wr.heap.size v (rowTo (prodTo l1 l2 i) l2 (l1.getD i (0, 0)) k)) ∧ Below w.heap.size w wr) (fun _ j _ => l2.length - (intOf j).toNat)
      case atStart => exact ⟨0, Nat.zero_le _, rfl, hP, hb⟩
      case round =>
        clear hb hP
        obtain ⟨k, hk, rfl, hP, hb⟩ := hrel
        by_cases hlt2 : k < l2.length
        · have c0 := bcell hb hbw1 (HT1.out i hlt).1
          have c1 := bcell hb hbw1 (HT1.out i hlt).2
          have d0 := bcell hb hbw2 (HT2.out k hlt2).1
          have d1 := bcell hb hbw2 (HT2.out k hlt2).2
          have hok := (okB_iff l1 i).1 (((may_iff l1).1 HM1.out).2 i hlt)
          have hok2 := (okB_iff l2 k).1 (((may_iff l2).1 HM2.out).2 k hlt2)
          have hrl := rowTo_length (prodTo l1 l2 i) l2 (l1.getD i (0, 0)) k
          have HBD : Hid _ := row_bd HM1.out HM2.out i k hlt hk
          have hstep : Hid (rowTo (prodTo l1 l2 i) l2 (l1.getD i (0, 0)) (k + 1) = putL (rowTo (prodTo l1 l2 i) l2 (l1.getD i (0, 0)) k) ((l1.getD i (0, 0)).1 + (l2.getD k (0, 0)).1) ((l1.getD i (0, 0)).2 * (l2.getD k (0, 0)).2)) := rfl
          generalize hR : rowTo (prodTo l1 l2 i) l2 (l1.getD i (0, 0)) k = R at hP hrl HBD hstep
          generalize hR2 : rowTo (prodTo l1 l2 i) l2 (l1.getD i (0, 0)) (k + 1) = R2 at hstep
          generalize he : (l1.getD i (0, 0)).1 = e at c0 hok hstep
          generalize hc : (l1.getD i (0, 0)).2 = c at c1 hok hstep
          generalize he2 : (l2.getD k (0, 0)).1 = e2 at d0 hok2 hstep
          generalize hc2 : (l2.getD k (0, 0)).2 = c2 at d1 hok2 hstep
          have HR2 : Hid (rowTo (prodTo l1 l2 i) l2 (l1.getD i (0, 0)) (k + 1) = R2) := hR2
          clear he hc he2 hc2 hR hR2
          obtain ⟨o1, o2, o3, o4, o5, -⟩ := hok
          obtain ⟨p1, p2, p3, p4, p5, -⟩ := hok2
          clear o5 p5
          have hmul := mul_bd o3 o4 p3 p4
          have hw1 : IntKind.i64.wrap (e + e2) = e + e2 := IntWalk.i64_in _ (by omega)
          have hw2 : IntKind.i64.wrap (c * c2) = c * c2 := IntWalk.i64_in _ (by omega)
          have hbr1 : b1 < wr.heap.size := Nat.lt_of_lt_of_le hbw1 hb.size
          have hbr2 : b2 < wr.heap.size := Nat.lt_of_lt_of_le hbw2 hb.size
          go_wp2
          go_region_with (go_at_call 23; refine (put_poly _ R (e + e2) (c * c2) _ (by omega) (by omega) (by omega) HBD.out (hP.out.up (Below.refl _ _).drew)).mono ?_; rintro r w1 ⟨v', rfl, hP1', hb1⟩)
          all_goals go_wp2
          all_goals go_roundw
          all_goals first | (simp only [intOf]; omega) | skip
          all_goals refine ⟨k + 1, by omega, by go_num, ?_, hb.drew.trans (hb1.mono hb.size)⟩
          all_goals
            show PolyC _ _ _ _
            rw [HR2.out, hstep.out]
            exact hP1'
        · go_wp2
          go_roundw
          case rel =>
            obtain rfl : k = l2.length := by omega
            exact ⟨i + 1, by omega, by go_num, hP, hb⟩
          case measure => simp [intOf]; omega
    · go_wp2
      go_ret
      obtain rfl : i = l1.length := by omega
      exact ⟨_, rfl, hP.out, hb⟩
end Go.Proofs.YtihijieciogabaaDoor.Poly
/- The walk of the law knotworklaw.PolySums itself: it answers true. -/
namespace Go.Proofs.YtihijieciogabaaDoor.Poly
open Go.RowKit Go.Maps

set_option maxHeartbeats 400000 in
theorem prod_none1 (a : Option Addr) (cap : Nat) (v2 : Value) (w : World) :
    Calls Tryd.prog 39 #[.slice a 0 cap, v2] w fun e w' => e = .returned (.slice none 0 0) ∧ Below w.heap.size w w' := by
  go_enter Tryd.func39, Tryd.ntmps39
  go_wp2
  go_loopw [5, 6, 7] (fun v i _ wr => v = .slice none 0 0 ∧ i = .int .i64 0 ∧ Below w.heap.size w wr) (fun _ _ _ _ => 0)
  case atStart => exact ⟨rfl, rfl, Below.refl _ _⟩
  case round =>
    obtain ⟨rfl, rfl, hb⟩ := hrel
    go_wp2
    go_ret
    exact ⟨rfl, hb⟩

set_option maxHeartbeats 400000 in
theorem prod_none2 (a1 a2 : Option Addr) (n cap1 cap2 : Nat) (w : World) (hn : n ≤ 64) :
    Calls Tryd.prog 39 #[.slice a1 n cap1, .slice a2 0 cap2] w fun e w' => e = .returned (.slice none 0 0) ∧ Below w.heap.size w w' := by
  go_enter Tryd.func39, Tryd.ntmps39
  go_wp2
  go_loopw [5, 6, 7] (fun v i _ wr => ∃ k : Nat, k ≤ n ∧ v = .slice none 0 0 ∧ i = .int .i64 k ∧ Below w.heap.size w wr) (fun _ i _ _ => n - (intOf i).toNat)
  case atStart => exact ⟨0, Nat.zero_le _, rfl, rfl, Below.refl _ _⟩
  case round =>
    obtain ⟨k, hk, rfl, rfl, hb⟩ := hrel
    by_cases hlt : k < n
    · go_wp2
      go_loopw [5, 7] (fun v j ws => v = .slice none 0 0 ∧ j = .int .i64 0 ∧ Below w.heap.size w ws) (fun _ _ _ => 0)
      case atStart => exact ⟨rfl, rfl, hb⟩
      case round =>
        clear hb
        obtain ⟨rfl, rfl, hb⟩ := hrel
        go_wp2
        go_roundw
        case rel => exact ⟨k + 1, by omega, rfl, by go_num, hb⟩
        case measure => simp [intOf]; omega
    · go_wp2
      go_ret
      exact ⟨rfl, hb⟩

theorem prodTo_nil (a : List (Int × Int)) : ∀ i, prodTo a [] i = []
  | 0 => rfl
  | i + 1 => by simp only [prodTo, rowTo, List.length_nil]; exact prodTo_nil a i

theorem prod_poly (v1 v2 : Value) (l1 l2 : List (Int × Int)) (w : World) (hm1 : mayB l1 = true) (hm2 : mayB l2 = true) (hP1 : Poly w w.heap.size v1 l1) (hP2 : Poly w w.heap.size v2 l2) :
    Calls Tryd.prog 39 #[v1, v2] w fun e w' => ∃ v, e = .returned v ∧ Poly w' w'.heap.size v (prodTo l1 l2 l1.length) ∧ Below w.heap.size w w' := by
  obtain ⟨a1, cap1, rfl, hp1⟩ := hP1.slice
  obtain ⟨a2, cap2, rfl, hp2⟩ := hP2.slice
  rcases Nat.eq_zero_or_pos l1.length with h1 | h1
  · have e0 : l1 = [] := List.length_eq_zero_iff.1 h1
    subst e0
    exact (prod_none1 a1 cap1 _ w).mono fun e w' ⟨h1, h2⟩ => ⟨_, h1, Or.inl ⟨rfl, rfl⟩, h2⟩
  · rcases Nat.eq_zero_or_pos l2.length with h2 | h2
    · have e0 : l2 = [] := List.length_eq_zero_iff.1 h2
      subst e0
      exact (prod_none2 a1 a2 l1.length cap1 cap2 w ((may_iff l1).1 hm1).1).mono fun e w' ⟨h1, h2⟩ => ⟨_, h1, Or.inl ⟨rfl, prodTo_nil l1 _⟩, h2⟩
    · obtain ⟨b1, off1, rfl, hlt1, hT1⟩ := hp1 h1
      obtain ⟨b2, off2, rfl, hlt2, hT2⟩ := hp2 h2
      exact (prod_some b1 off1 cap1 b2 off2 cap2 l1 l2 w hm1 hm2 hlt1 hT1 hlt2 hT2).mono fun e w' ⟨v, h1, h2, h3⟩ => ⟨v, h1, h2.1, h3⟩

/-- Any two lists in form for one function: sameTerms says yes. -/
theorem same_canon (v1 v2 : Value) (l1 l2 : List (Int × Int)) (f : Int → Int) (w : World) (hl : l1.length ≤ maxLen) (h1 : Poly w w.heap.size v1 l1) (h2 : Poly w w.heap.size v2 l2) (c1 : Canon l1 f) (c2 : Canon l2 f) :
    Calls Tryd.prog 9 #[v1, v2] w fun e w' => e = .returned (.bool true) ∧ Below w.heap.size w w' := by
  obtain rfl := canon_unique c1 c2
  refine (same_poly v1 v2 l1 l1 w hl h1 h2).mono ?_
  rintro e w' ⟨rfl, hb⟩
  exact ⟨ret_bool (by simp), hb⟩

end Go.Proofs.YtihijieciogabaaDoor.Poly

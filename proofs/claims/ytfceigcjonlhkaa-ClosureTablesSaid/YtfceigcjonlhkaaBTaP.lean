/- Several texts of the proof, one behind the other. -/
import Derived.Test.YtfceigcjonlhkaaBT6
import Derived.Test.YtfceigcjonlhkaaBT7
/- Burau's tables: the walks of ref.Sum and ref.Product, with greater coefficients. -/
namespace Go.Proofs.Ytfceigcjonlhkaa.Poly
open Go.RowKit Go.Maps

theorem getD_memB (l : List (Int × Int)) (i : Nat) (d : Int × Int) (h : i < l.length) : l.getD i d ∈ l := by
  rw [List.getD_eq_getElem?_getD, List.getElem?_eq_getElem h]
  exact List.getElem_mem h
theorem two_take {b : List (Int × Int)} (h : Two b) (k : Nat) : Two (b.take k) := ⟨Nat.le_trans (by rw [List.length_take]; omega) h.1, fun t ht => h.2 t (List.mem_of_mem_take ht)⟩
theorem row_bdB {a b : List (Int × Int)} (h4 : a.length ≤ 400) (hm1 : ∀ t ∈ a, -1000 ≤ t.1 ∧ t.1 ≤ 1000 ∧ -10000000000 ≤ t.2 ∧ t.2 ≤ 10000000000) (hm2 : Two b) (i k : Nat) (hi : i < a.length) (hk : k ≤ b.length) : ∀ t ∈ rowTo (prodTo a b i) b (a.getD i (0, 0)) k, -1000000000000000 ≤ t.2 ∧ t.2 ≤ 1000000000000000 := by
  refine canon_bd (M := 1000000000000000) (rowTo_canon (prodTo_canon a b i (by omega)) _ k hk) fun y => ?_
  have h1 := prodL_bdB (a.take i) (coefL b) y (fun t ht => (hm1 t (List.mem_of_mem_take ht)).2.2) (coefL_two hm2)
  have h2 : (a.take i).length ≤ 400 := by rw [List.length_take]; omega
  have h3 := (hm1 _ (getD_memB a i (0, 0) hi)).2.2
  have h5 := coefL_two (two_take hm2 k) (y - (a.getD i (0, 0)).1)
  have h6 := mul_bdB h3.1 h3.2 h5.1 h5.2
  omega

theorem sum_gen_bdB {a b : List (Int × Int)} {f g : Int → Int} (s : Int) (hs : s = 1 ∨ s = -1) (ha : Canon a f) (hb : Canon b g) (M N : Int) (hN : 0 ≤ N) (hMN : M + N ≤ 1000000000000000) (K : Nat) (hK : K ≤ 20000)
    (hf : ∀ x, -M ≤ f x ∧ f x ≤ M) (hg : ∀ x, -N ≤ g x ∧ g x ≤ N) (hfx : ∀ x, f x ≠ 0 → -(K : Int) ≤ x ∧ x ≤ K) (hgx : ∀ x, g x ≠ 0 → -(K : Int) ≤ x ∧ x ≤ K) (k : Nat) (hk : k ≤ b.length) :
    (sumTo a b s k).length ≤ 100000 ∧ ∀ t ∈ sumTo a b s k, -1000000000000000 ≤ t.2 ∧ t.2 ≤ 1000000000000000 := by
  have hc := sumTo_canon ha s k hk
  refine ⟨?_, canon_bd (M := 1000000000000000) hc fun x => ?_⟩
  · refine Nat.le_trans (canon_lenB hc K (fun x hx => by
      by_cases h0 : f x = 0
      · exact take_suppB hb K hgx k x (fun e => hx (by rw [h0, e]; simp))
      · exact hfx x h0)) (by omega)
  · have h1 := hf x
    have h2 := take_bdB hb N hN hg k x
    rcases hs with rfl | rfl <;> omega

set_option maxHeartbeats 2000000 in
set_option maxRecDepth 100000 in
theorem sum_gen_someB (v1 : Value) (b off cap : Nat) (l1 l2 : List (Int × Int)) (s : Int) (w : World) (hs : s = 1 ∨ s = -1) (h2l : l2.length ≤ 100000) (h2 : ∀ t ∈ l2, -1000000000000000 ≤ t.2 ∧ t.2 ≤ 1000000000000000)
    (hbd : ∀ k, k ≤ l2.length → (sumTo l1 l2 s k).length ≤ 100000 ∧ ∀ t ∈ sumTo l1 l2 s k, -1000000000000000 ≤ t.2 ∧ t.2 ≤ 1000000000000000) (hP1 : PolyC w w.heap.size v1 l1) (hbw : b < w.heap.size) (hT : TermsAt w b off l2) :
    Calls Try.prog 82 #[v1, .slice (some ⟨b, off, none⟩) l2.length cap, .int .i64 s] w fun e w' => ∃ v, e = .returned v ∧ PolyC w' w'.heap.size v (sumTo l1 l2 s l2.length) ∧ Below w.heap.size w w' := by
  have HT : Hid (TermsAt w b off l2) := hT
  have HP1 : Hid (PolyC w w.heap.size v1 l1) := hP1
  have H2 : Hid (∀ t ∈ l2, -1000000000000000 ≤ t.2 ∧ t.2 ≤ 1000000000000000) := h2
  have HBD : Hid (∀ k, k ≤ l2.length → (sumTo l1 l2 s k).length ≤ 100000 ∧ ∀ t ∈ sumTo l1 l2 s k, -1000000000000000 ≤ t.2 ∧ t.2 ≤ 1000000000000000) := hbd
  have HS : Hid (s = 1 ∨ s = -1) := hs
  clear hT hP1 h2 hbd hs
  go_enter Try.func82, Try.ntmps82
  go_wp2
  go_loopw [7, 8] (fun v i wr => ∃ k : Nat, k ≤ l2.length ∧ i = .int .i64 k ∧ Hid (PolyC wr wr.heap.size v (sumTo l1 l2 s k)) ∧ Below w.heap.size w wr) (fun _ i _ => l2.length - (intOf i).toNat)
  case atStart => exact ⟨0, Nat.zero_le _, rfl, HP1.out, Below.refl _ _⟩
  case round =>
    obtain ⟨k, hk, rfl, hP, hb⟩ := hrel
    by_cases hlt : k < l2.length
    · have c0 := bcell hb hbw (HT.out k hlt).1
      have c1 := bcell hb hbw (HT.out k hlt).2
      have hok := H2.out _ (getD_memB l2 k (0, 0) hlt)
      have hstep : Hid (sumTo l1 l2 s (k + 1) = putL (sumTo l1 l2 s k) (l2.getD k (0, 0)).1 (s * (l2.getD k (0, 0)).2)) := rfl
      generalize he : (l2.getD k (0, 0)).1 = e at c0 hok hstep
      generalize hc : (l2.getD k (0, 0)).2 = c at c1 hok hstep
      clear he hc
      obtain ⟨o3, o4⟩ := hok
      have hsc : -1000000000000000 ≤ s * c ∧ s * c ≤ 1000000000000000 := by rcases HS.out with e | e <;> rw [e] <;> omega
      have hw1 : IntKind.i64.wrap (s * c) = s * c := IntWalk.i64_in _ (by omega)
      have hbr : b < wr.heap.size := Nat.lt_of_lt_of_le hbw hb.size
      go_wp2
      go_region_with (go_at_call 131; refine (put_poly _ (sumTo l1 l2 s k) e (s * c) _ (HBD.out k hk).1 hsc.1 hsc.2 (HBD.out k hk).2 (hP.out.up (Below.refl _ _).drew)).mono ?_; rintro r w1 ⟨v', rfl, hP1', hb1⟩)
      all_goals go_wp2
      all_goals go_roundw
      all_goals first | (simp only [intOf]; omega) | skip
      all_goals refine ⟨k + 1, by omega, by go_num, ?_, hb.drew.trans (hb1.mono hb.size)⟩
      all_goals
        show PolyC _ _ _ _
        rw [hstep.out]
        exact hP1'
    · go_wp2
      go_ret
      obtain rfl : k = l2.length := by omega
      exact ⟨_, rfl, hP.out, hb⟩

set_option maxHeartbeats 400000 in
theorem sum_gen_noneB (v1 : Value) (a : Option Addr) (cap : Nat) (s : Int) (w : World) :
    Calls Try.prog 82 #[v1, .slice a 0 cap, .int .i64 s] w fun e w' => e = .returned v1 ∧ Below w.heap.size w w' := by
  go_enter Try.func82, Try.ntmps82
  go_wp2
  go_loopw [7, 8] (fun v i wr => v = v1 ∧ i = .int .i64 0 ∧ Below w.heap.size w wr) (fun _ _ _ => 0)
  case atStart => exact ⟨rfl, rfl, Below.refl _ _⟩
  case round =>
    obtain ⟨rfl, rfl, hb⟩ := hrel
    go_wp2
    go_ret
    exact ⟨rfl, hb⟩

/-- ref.Sum of two polynomials in form, the other one s times. -/
theorem sum_genB (v1 v2 : Value) (l1 l2 : List (Int × Int)) (f g : Int → Int) (s : Int) (w : World) (hs : s = 1 ∨ s = -1) (c1 : Canon l1 f) (c2 : Canon l2 g) (M N : Int) (hM : 0 ≤ M) (hN : 0 ≤ N) (hMN : M + N ≤ 1000000000000000) (K : Nat) (hK : K ≤ 20000)
    (hf : ∀ x, -M ≤ f x ∧ f x ≤ M) (hg : ∀ x, -N ≤ g x ∧ g x ≤ N) (hfx : ∀ x, f x ≠ 0 → -(K : Int) ≤ x ∧ x ≤ K) (hgx : ∀ x, g x ≠ 0 → -(K : Int) ≤ x ∧ x ≤ K) (hP1 : PolyC w w.heap.size v1 l1) (hP2 : PolyC w w.heap.size v2 l2) :
    Calls Try.prog 82 #[v1, v2, .int .i64 s] w fun e w' => ∃ v l, e = .returned v ∧ PolyC w' w'.heap.size v l ∧ Canon l (fun x => f x + s * g x) ∧ Below w.heap.size w w' := by
  obtain ⟨a, cap, rfl, hp⟩ := hP2.1.slice
  rcases Nat.eq_zero_or_pos l2.length with h0 | h0
  · have e0 : l2 = [] := List.length_eq_zero_iff.1 h0
    subst e0
    refine (sum_gen_noneB v1 a cap s w).mono ?_
    rintro e w' ⟨rfl, hb⟩
    refine ⟨_, l1, rfl, hP1.up hb, canon_congr c1 fun x => ?_, hb⟩
    have := canon_coefB c2 x
    simp only [coefL] at this
    rw [← this]; simp
  · obtain ⟨b, off, rfl, hlt, hT⟩ := hp h0
    have hl := canon_lenB c2 K hgx
    refine (sum_gen_someB v1 b off cap l1 l2 s w hs (by omega) (canon_bd c2 fun x => by have := hg x; omega) (fun k hk => sum_gen_bdB s hs c1 c2 M N hN hMN K hK hf hg hfx hgx k hk) hP1 hlt hT).mono ?_
    rintro e w' ⟨v, rfl, hP, hb⟩
    refine ⟨v, _, rfl, hP, canon_congr (sumTo_canon c1 s l2.length (Nat.le_refl _)) fun x => ?_, hb⟩
    rw [List.take_length, canon_coefB c2]

set_option maxHeartbeats 4000000 in
set_option maxRecDepth 100000 in
theorem prod_someB (b1 off1 cap1 b2 off2 cap2 : Nat) (l1 l2 : List (Int × Int)) (w : World) (h164 : l1.length ≤ 400) (hm1 : ∀ t ∈ l1, -1000 ≤ t.1 ∧ t.1 ≤ 1000 ∧ -10000000000 ≤ t.2 ∧ t.2 ≤ 10000000000) (h22 : Two l2) (hm2 : ∀ t ∈ l2, -1 ≤ t.1 ∧ t.1 ≤ 1) (hbw1 : b1 < w.heap.size) (hT1 : TermsAt w b1 off1 l1) (hbw2 : b2 < w.heap.size) (hT2 : TermsAt w b2 off2 l2) :
    Calls Try.prog 83 #[.slice (some ⟨b1, off1, none⟩) l1.length cap1, .slice (some ⟨b2, off2, none⟩) l2.length cap2] w fun e w' => ∃ v, e = .returned v ∧ PolyC w' w'.heap.size v (prodTo l1 l2 l1.length) ∧ Below w.heap.size w w' := by
  have h264 : l2.length ≤ 64 := by have := h22.1; omega
  have HM1 : Hid (∀ t ∈ l1, -1000 ≤ t.1 ∧ t.1 ≤ 1000 ∧ -10000000000 ≤ t.2 ∧ t.2 ≤ 10000000000) := hm1
  have HM2 : Hid (∀ t ∈ l2, -1 ≤ t.1 ∧ t.1 ≤ 1) := hm2
  have H22 : Hid (Two l2) := h22
  have HT1 : Hid (TermsAt w b1 off1 l1) := hT1
  have HT2 : Hid (TermsAt w b2 off2 l2) := hT2
  clear hm1 hm2 hT1 hT2 h22
  go_enter Try.func83, Try.ntmps83
  go_wp2
  go_loopw [5, 6, 7] (fun v i _ wr => ∃ k : Nat, k ≤ l1.length ∧ i = .int .i64 k ∧ Hid (PolyC wr wr.heap.size v (prodTo l1 l2 k)) ∧ Below w.heap.size w wr) (fun _ i _ _ => l1.length - (intOf i).toNat)
  case atStart => exact ⟨0, Nat.zero_le _, rfl, ⟨Or.inl ⟨rfl, rfl⟩, none, 0, 0, rfl, Nat.le_refl _, Nat.zero_le _⟩, Below.refl _ _⟩
  case round =>
    rename World => W1
    obtain ⟨i, hi, rfl, hP, hb⟩ := hrel
    by_cases hlt : i < l1.length
    · have hlen := prodTo_length l1 l2 h264 i
      go_wp2
      go_loopw [5, 7] (fun v j wr => ∃ k : Nat, k ≤ l2.length ∧ j = .int .i64 k ∧ Hid (PolyC wr wr.heap.size v (rowTo (prodTo l1 l2 i) l2 (l1.getD i (0, 0)) k)) ∧ Below w.heap.size w wr) (fun _ j _ => l2.length - (intOf j).toNat)
      case atStart => exact ⟨0, Nat.zero_le _, rfl, hP, hb⟩
      case round =>
        clear hb hP
        obtain ⟨k, hk, rfl, hP, hb⟩ := hrel
        by_cases hlt2 : k < l2.length
        · have c0 := bcell hb hbw1 (HT1.out i hlt).1
          have c1 := bcell hb hbw1 (HT1.out i hlt).2
          have d0 := bcell hb hbw2 (HT2.out k hlt2).1
          have d1 := bcell hb hbw2 (HT2.out k hlt2).2
          have hok := HM1.out _ (getD_memB l1 i (0, 0) hlt)
          have hok2 := HM2.out _ (getD_memB l2 k (0, 0) hlt2)
          have hc22 := H22.out.2 _ (getD_memB l2 k (0, 0) hlt2)
          have hrl := rowTo_length (prodTo l1 l2 i) l2 (l1.getD i (0, 0)) k
          have HBD : Hid _ := row_bdB h164 HM1.out H22.out i k hlt hk
          have hstep : Hid (rowTo (prodTo l1 l2 i) l2 (l1.getD i (0, 0)) (k + 1) = putL (rowTo (prodTo l1 l2 i) l2 (l1.getD i (0, 0)) k) ((l1.getD i (0, 0)).1 + (l2.getD k (0, 0)).1) ((l1.getD i (0, 0)).2 * (l2.getD k (0, 0)).2)) := rfl
          generalize hR : rowTo (prodTo l1 l2 i) l2 (l1.getD i (0, 0)) k = R at hP hrl HBD hstep
          generalize hR2 : rowTo (prodTo l1 l2 i) l2 (l1.getD i (0, 0)) (k + 1) = R2 at hstep
          generalize he : (l1.getD i (0, 0)).1 = e at c0 hok hstep
          generalize hc : (l1.getD i (0, 0)).2 = c at c1 hok hstep
          generalize he2 : (l2.getD k (0, 0)).1 = e2 at d0 hok2 hstep
          generalize hc2 : (l2.getD k (0, 0)).2 = c2 at d1 hc22 hstep
          have HR2 : Hid (rowTo (prodTo l1 l2 i) l2 (l1.getD i (0, 0)) (k + 1) = R2) := hR2
          clear he hc he2 hc2 hR hR2
          obtain ⟨o1, o2, o3, o4⟩ := hok
          obtain ⟨p1, p2⟩ := hok2
          have hmul : -1000000000000 ≤ c * c2 ∧ c * c2 ≤ 1000000000000 := by rcases hc22 with e | e <;> rw [e] <;> omega
          clear hc22
          have hw1 : IntKind.i64.wrap (e + e2) = e + e2 := IntWalk.i64_in _ (by omega)
          have hw2 : IntKind.i64.wrap (c * c2) = c * c2 := IntWalk.i64_in _ (by omega)
          have hbr1 : b1 < wr.heap.size := Nat.lt_of_lt_of_le hbw1 hb.size
          have hbr2 : b2 < wr.heap.size := Nat.lt_of_lt_of_le hbw2 hb.size
          go_wp2
          go_region_with (go_at_call 131; refine (put_poly _ R (e + e2) (c * c2) _ (by omega) (by omega) (by omega) HBD.out (hP.out.up (Below.refl _ _).drew)).mono ?_; rintro r w1 ⟨v', rfl, hP1', hb1⟩)
          all_goals go_wp2
          all_goals go_roundw
          all_goals first | (simp only [intOf]; omega) | skip
          all_goals refine ⟨k + 1, by omega, by go_num, ?_, hb.drew.trans (hb1.mono hb.size)⟩
          all_goals
            show PolyC _ _ _ _
            rw [HR2.out, hstep.out]
            exact hP1'
        · go_wp2
          go_roundw
          case rel =>
            obtain rfl : k = l2.length := by omega
            exact ⟨i + 1, by omega, by go_num, hP, hb⟩
          case measure => simp [intOf]; omega
    · go_wp2
      go_ret
      obtain rfl : i = l1.length := by omega
      exact ⟨_, rfl, hP.out, hb⟩

/-- ref.Product of a polynomial and of a letter's terms. -/
theorem prod_pv (v : Value) (b off cap : Nat) (q : List (Int × Int)) (f : Int → Int) (w : World) (hf : BuOk 10000000000 100 f) (hq : Two q) (hq1 : ∀ t ∈ q, -1 ≤ t.1 ∧ t.1 ≤ 1) (h : PV w v f) (hb : b < w.heap.size) (hT : TermsAt w b off q) :
    Calls Try.prog 83 #[v, .slice (some ⟨b, off, none⟩) q.length cap] w fun e w' => ∃ u, e = .returned u ∧ PV w' u (fun y => prodL q f y) ∧ Below w.heap.size w w' := by
  obtain ⟨l, hP, hc⟩ := h
  obtain ⟨a1, cap1, rfl, hp1⟩ := hP.1.slice
  rcases Nat.eq_zero_or_pos l.length with h1 | h1
  · have e0 : l = [] := List.length_eq_zero_iff.1 h1
    subst e0
    have hz : ∀ y, f y = 0 := fun y => by have h := canon_coefB hc y; exact h.symm
    refine (prod_none1 a1 cap1 _ w).mono fun e w' ⟨h1, h2⟩ => ⟨_, h1, ?_, h2⟩
    have hz2 : (fun y => prodL q f y) = fun _ => 0 := funext fun y => by
      have hz3 : ∀ q : List (Int × Int), prodL q f y = 0 := fun q => by
        induction q with
        | nil => rfl
        | cons t q ih =>
          show t.2 * f (y - t.1) + prodL q f y = 0
          rw [ih, hz]
          omega
      exact hz3 q
    rw [hz2]
    exact pv_nil _
  · obtain ⟨b1, off1, rfl, hlt1, hT1⟩ := hp1 h1
    have hlen := canon_lenB hc 100 (fun x hx => hf.sp x hx)
    have hmem : ∀ t ∈ l, -1000 ≤ t.1 ∧ t.1 ≤ 1000 ∧ -10000000000 ≤ t.2 ∧ t.2 ≤ 10000000000 := fun t ht => by
      have h2 := (hc.2 t.1 t.2).1 ht
      have h3 := hf.sp t.1 (by rw [h2.1]; exact h2.2)
      have h4 := hf.bd t.1
      rw [h2.1] at h4
      omega
    refine (prod_someB b1 off1 cap1 b off cap l q w (by omega) hmem hq hq1 hlt1 hT1 hb hT).mono fun e w' ⟨u, e1, e2, e3⟩ => ⟨u, e1, ⟨_, e2, canon_congr (prodTo_canon l q l.length (Nat.le_refl _)) fun y => ?_⟩, e3⟩
    rw [List.take_length, prodL_comm, prodL_congr q _ _ (canon_coefB hc)]
/-- ref.Sum of two polynomials. -/
theorem sum_pv (v1 v2 : Value) (f g : Int → Int) (s : Int) (w : World) (hs : s = 1 ∨ s = -1) (hf : BuOk 100000000000 100 f) (hg : BuOk 100000000000 100 g) (h1 : PV w v1 f) (h2 : PV w v2 g) :
    Calls Try.prog 82 #[v1, v2, .int .i64 s] w fun e w' => ∃ u, e = .returned u ∧ PV w' u (fun y => f y + s * g y) ∧ Below w.heap.size w w' := by
  obtain ⟨l1, p1, c1⟩ := h1
  obtain ⟨l2, p2, c2⟩ := h2
  exact (sum_genB v1 v2 l1 l2 f g s w hs c1 c2 100000000000 100000000000 (by omega) (by omega) (by omega) 100 (by omega) (fun x => by have := hf.bd x; omega) (fun x => by have := hg.bd x; omega) (fun x hx => hf.sp x hx) (fun x hx => hg.sp x hx) p1 p2).mono fun e w' ⟨u, l, e1, e2, e3, e4⟩ => ⟨u, e1, ⟨l, e2, e3⟩, e4⟩
end Go.Proofs.Ytfceigcjonlhkaa.Poly
/- Burau's tables: tables that ref.BurauOf makes. -/
namespace Go.Proofs.Ytfceigcjonlhkaa.Poly
open Go.RowKit Go.Maps

/-- A table of polynomials in form that grew by append. -/
structure Te (B g c n : Nat) (gs : Nat → Nat) (V : Nat → Nat → Value) (F : Nat → Nat → Int → Int) (W : World) : Prop where
  outer : W.ownsRow B 74 1 (.slice (some ⟨g, 0, none⟩) n c) n (vaL n fun i => .slice (some ⟨gs i, 0, none⟩) n n)
  rows : ∀ i, i < n → W.ownsRow B 76 1 (.slice (some ⟨gs i, 0, none⟩) n n) n (vaL n (V i))
  inj : ∀ i j, i < n → j < n → gs i = gs j → i = j
  vals : ∀ i j, i < n → j < n → PV W (V i j) (F i j)
variable {B g c n : Nat} {gs : Nat → Nat} {V : Nat → Nat → Value} {F : Nat → Nat → Int → Int} {W W' W1 : World}
theorem Te.any (h : Te B g c n gs V F W) (hb : Below W.heap.size W W') : Te B g c n gs V F W' :=
  ⟨own_any h.outer (grown_below hb none), fun i hi => own_any (h.rows i hi) (grown_below hb none), h.inj, fun i j hi hj => (h.vals i j hi hj).up hb⟩
theorem Te.cellO (h : Te B g c n gs V F W) (i : Nat) (hn : i < n) : W.cell? ⟨g, i, none⟩ = some (.slice (some ⟨gs i, 0, none⟩) n n) := by
  rw [h.outer.cellAt i (by omega), vaL_get _ _ _ hn]
theorem Te.cellR (h : Te B g c n gs V F W) (i j : Nat) (hi : i < n) (hj : j < n) : W.cell? ⟨gs i, j, none⟩ = some (V i j) := by
  rw [(h.rows i hi).cellAt j (by omega), vaL_get _ _ _ hj]
theorem Te.lt (h : Te B g c n gs V F W) : (B ≤ g ∧ g < W.heap.size) ∧ ∀ i, i < n → B ≤ gs i ∧ gs i < W.heap.size := ⟨h.outer.lt g rfl, fun i hi => (h.rows i hi).lt (gs i) rfl⟩
theorem Te.cellS (h : Te B g c n gs V F W) (i : Nat) (hi : i < n) : ∀ o v, W.cell? ⟨gs i, o, none⟩ = some v → ∃ a m d, v = .slice a m d := fun o v hv => by
  obtain ⟨j, hj, rfl⟩ : ∃ j, j < n ∧ v = V i j := by
    obtain ⟨h1, h2⟩ := row_all (h.rows i hi) o v hv
    rw [vaL_get n (V i) o h1] at h2
    exact ⟨o, h1, (Option.some.inj h2).symm⟩
  obtain ⟨l, hp, -⟩ := h.vals i j hi hj
  obtain ⟨-, a, m, d, e, -⟩ := hp
  exact ⟨a, m, d, e⟩
/-- A value of a row is stored. -/
theorem Te.set {V' : Nat → Nat → Value} {F' : Nat → Nat → Int → Int} (h : Te B g c n gs V F W) (i j : Nat) (u : Value) (hi : i < n) (hV : ∀ a b, a < n → b < n → V' a b = if a = i ∧ b = j then u else V a b) (hF : ∀ a b, a < n → b < n → ¬ (a = i ∧ b = j) → F' a b = F a b) (hu : j < n → PV W u (F' i j)) :
    Te B g c n gs V' F' (W.setCell ⟨gs i, j, none⟩ u) ∧ W.grownBy (W.setCell ⟨gs i, j, none⟩ u) (some (gs i)) := by
  have hst := (h.rows i hi).stored j u
  have hcs : ∀ o v, W.cell? ⟨gs i, o, none⟩ = some v → ∃ a m d, v = .slice a m d := h.cellS i hi
  refine ⟨⟨h.outer.kept hst.2 (own_ne h.outer (h.rows i hi) (by decide)), fun a ha => ?_, h.inj, fun a b ha hb => ?_⟩, hst.2⟩
  · by_cases e : a = i
    · subst e
      rw [vaL_set n (V a) (V' a) j u (fun b hb => by rw [hV a b ha hb]; by_cases e : b = j <;> simp [e])] at hst
      exact hst.1
    · have hr := (h.rows a ha).kept hst.2 (Or.inr (fun q => e (h.inj a i ha hi (Option.some.inj q))))
      have e2 : vaL n (V' a) = vaL n (V a) := List.map_congr_left fun b hb => by rw [hV a b ha (List.mem_range.1 hb), if_neg (fun q => e q.1)]
      rw [e2]
      exact hr
  · by_cases e : a = i ∧ b = j
    · rw [hV a b ha hb, if_pos e, e.1, e.2]
      exact (hu (by rw [← e.2]; exact hb)).set hst.2 hcs
    · rw [hV a b ha hb, if_neg e, hF a b ha hb e]
      exact (h.vals a b ha hb).set hst.2 hcs
theorem Te.congr {V' : Nat → Nat → Value} {F' : Nat → Nat → Int → Int} {gs' : Nat → Nat} (h : Te B g c n gs V F W) (hV : ∀ a b, a < n → b < n → V' a b = V a b) (hF : ∀ a b, a < n → b < n → F' a b = F a b) (hg : ∀ a, a < n → gs' a = gs a) : Te B g c n gs' V' F' W := by
  refine ⟨?_, fun i hi => ?_, fun i j hi hj e => h.inj i j hi hj (by rw [← hg i hi, ← hg j hj]; exact e), fun i j hi hj => by rw [hV i j hi hj, hF i j hi hj]; exact h.vals i j hi hj⟩
  · have e : (vaL n fun i => Value.slice (some ⟨gs' i, 0, none⟩) n n) = vaL n fun i => .slice (some ⟨gs i, 0, none⟩) n n := List.map_congr_left fun b hb => by rw [hg b (List.mem_range.1 hb)]
    rw [e]
    exact h.outer
  · have e2 : vaL n (V' i) = vaL n (V i) := List.map_congr_left fun b hb => hV i b hi (List.mem_range.1 hb)
    rw [hg i hi, e2]
    exact h.rows i hi

/-- The terms that a literal lays. -/
theorem terms_lit (W : World) (cs : Array Value) (e : TypeId) (q : List (Int × Int)) (h : cs.toList = flat q) : TermsAt (W.alloc (.cells cs e)) W.heap.size 0 q := by
  intro i hi
  have hh : (W.alloc (.cells cs e)).heap[W.heap.size]? = some (.cells cs e (0, 0)) := Array.getElem?_push_size
  have g := flat_get q i hi
  rw [← h] at g
  exact ⟨block_cell hh (by rw [Nat.zero_add, ← Array.getElem?_toList]; exact g.1), block_cell hh (by rw [Nat.zero_add, ← Array.getElem?_toList]; exact g.2)⟩
theorem PV.of_terms {W : World} {b off : Nat} {q : List (Int × Int)} {f : Int → Int} (hb : b < W.heap.size) (hT : TermsAt W b off q) (hq : q.length ≤ 1000) (hc : Canon q f) : PV W (.slice (some ⟨b, off, none⟩) q.length q.length) f := ⟨q, ⟨Or.inr (Or.inr ⟨b, off, q.length, rfl, hb, hT⟩), _, _, _, rfl, Nat.le_refl _, by unfold maxLen; omega⟩, hc⟩
/-- The polynomial 1. -/
def oneP (y : Int) : Int := if y = 0 then 1 else 0
theorem canon_oneP : Canon [(0, 1)] oneP := by
  refine ⟨by simp, fun x c => ?_⟩
  unfold oneP
  by_cases e : x = 0
  · rw [if_pos e]
    simp only [List.mem_singleton, Prod.mk.injEq]
    omega
  · rw [if_neg e]
    simp only [List.mem_singleton, Prod.mk.injEq]
    omega
theorem canon_inv : Canon [(-1, 1)] (coefL [(-1, 1)]) := canon_self (by simp) (by simp)
theorem canon_less : Canon [(-1, -1), (0, 1)] (fun y => oneP y + -1 * coefL [(-1, 1)] y) := by
  refine canon_congr (canon_self (l := [(-1, -1), (0, 1)]) (by simp) (by simp)) fun y => ?_
  unfold oneP
  simp only [coefL]
  by_cases e0 : y = 0
  · subst e0; simp
  · by_cases e1 : -1 = y
    · subst e1; simp
    · rw [if_neg e1, if_neg (fun e => e0 e.symm), if_neg e0, if_neg e1]; omega
theorem buOk_prod {H K : Nat} {f : Int → Int} {q : List (Int × Int)} (hq : Two q) (hk : ∀ t ∈ q, -1 ≤ t.1 ∧ t.1 ≤ 1) (h : BuOk H K f) : BuOk (2 * H) (K + 1) (fun y => prodL q f y) := by
  refine ⟨fun y => by have := prodL_two hq h.bd y; omega, fun y hy => ?_⟩
  have key : ∀ q : List (Int × Int), (∀ t ∈ q, -1 ≤ t.1 ∧ t.1 ≤ 1) → prodL q f y ≠ 0 → -((K + 1 : Nat) : Int) ≤ y ∧ y ≤ ((K + 1 : Nat) : Int) := fun q => by
    induction q with
    | nil => intro _ h; exact absurd rfl h
    | cons t q ih =>
      intro hk hne
      by_cases e : f (y - t.1) = 0
      · refine ih (fun s hs => hk s (List.mem_cons_of_mem _ hs)) (fun e2 => hne ?_)
        show t.2 * f (y - t.1) + prodL q f y = 0
        rw [e, e2]
        omega
      · have h1 := h.sp _ e
        have h2 := hk t List.mem_cons_self
        omega
  exact key q hk hy
theorem oneP_ok : BuOk 1 1 oneP := ⟨fun y => by unfold oneP; split <;> omega, fun y hy => by unfold oneP at hy; by_cases e : y = 0 <;> simp [e] at hy ⊢⟩
theorem inv_ok : BuOk 1 1 (coefL [(-1, 1)]) := ⟨fun y => by simp only [coefL]; split <;> omega, fun y hy => by simp only [coefL] at hy; by_cases e : -1 = y <;> simp [e] at hy ⊢; omega⟩
/-- A PV in form of known terms. -/
theorem PV.terms {W : World} {v : Value} {f : Int → Int} {q : List (Int × Int)} (h : PV W v f) (hc : Canon q f) (hq : 0 < q.length) : ∃ b off cap, v = .slice (some ⟨b, off, none⟩) q.length cap ∧ b < W.heap.size ∧ TermsAt W b off q := by
  obtain ⟨l, ⟨hp, -⟩, hl⟩ := h
  obtain rfl := canon_unique hl hc
  rcases hp with ⟨-, e⟩ | ⟨a, cap, -, e⟩ | ⟨b, off, cap, e, h1, h2⟩
  · rw [e] at hq; exact absurd hq (by simp)
  · rw [e] at hq; exact absurd hq (by simp)
  · exact ⟨b, off, cap, e, h1, h2⟩
end Go.Proofs.Ytfceigcjonlhkaa.Poly

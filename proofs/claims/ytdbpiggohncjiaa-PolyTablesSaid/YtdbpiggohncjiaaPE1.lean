/- The walks of ref.Sum and ref.Product for polynomials with greater coefficients than may be handed in. -/
import Derived.Test.YtdbpiggohncjiaaPE0
import Derived.Test.YtdbpiggohncjiaaPB7
namespace Go.Proofs.Ytdbpiggohncjiaa.Poly
open Go.RowKit Go.Maps

theorem row_gen {a b : List (Int × Int)} {f : Int → Int} (hm : mayB a = true) (hs : sizeL a ≤ 100) (hb : Canon b f) (H K : Nat) (hH : H ≤ 2000000000000) (hK : K ≤ 20000) (hf : ∀ x, (f x).natAbs ≤ H) (hx : ∀ x, f x ≠ 0 → -(K : Int) ≤ x ∧ x ≤ K) (i k : Nat) (hi : i < a.length) (hk : k ≤ b.length) :
    (rowTo (prodTo a b i) b (a.getD i (0, 0)) k).length ≤ 100000 ∧ ∀ t ∈ rowTo (prodTo a b i) b (a.getD i (0, 0)) k, -1000000000000000 ≤ t.2 ∧ t.2 ≤ 1000000000000000 := by
  have hc := rowTo_canon (prodTo_canon a b i (by omega)) (a.getD i (0, 0)) k hk
  have hco : coefL b = f := funext (canon_coef hb)
  rw [hco] at hc
  have h2 : ∀ x, -(H : Int) ≤ f x ∧ f x ≤ H := fun x => by have := hf x; omega
  have hmem : a.getD i (0, 0) ∈ a := getD_mem a i (0, 0) hi
  refine ⟨?_, canon_bd (M := 1000000000000000) hc fun y => ?_⟩
  · refine Nat.le_trans (canon_len hc (K + 1000) (fun y hy => by
      by_cases h0 : prodL (a.take i) f y = 0
      · have h1 : coefL (b.take k) (y - (a.getD i (0, 0)).1) ≠ 0 := fun e => hy (by rw [h0, e]; simp)
        have h3 := take_supp hb K hx k _ h1
        have h4 := may_exps hm _ hmem
        omega
      · have h3 := prodL_supp (a.take i) f K y (fun t ht => may_exps hm t (List.mem_of_mem_take ht)) hx h0
        omega)) (by omega)
  · have h1 := prodL_abs a f H hf y i (by omega)
    have h3 := take_bd hb H (by omega) h2 k (y - (a.getD i (0, 0)).1)
    have h4 : (((a.getD i (0, 0)).2 * coefL (b.take k) (y - (a.getD i (0, 0)).1)).natAbs : Int) ≤ absI (a.getD i (0, 0)).2 * (H : Int) := by
      have ha : absI (a.getD i (0, 0)).2 = ((a.getD i (0, 0)).2.natAbs : Int) := by unfold absI; split <;> omega
      rw [ha, ← Int.natCast_mul]
      refine Int.ofNat_le.2 ?_
      rw [Int.natAbs_mul]
      exact Nat.mul_le_mul (Nat.le_refl _) (by omega)
    have h5 : sizeTo a i + absI (a.getD i (0, 0)).2 ≤ 100 := Int.le_trans (sizeTo_mono a (i + 1) a.length (by omega)) hs
    have h6 : (sizeTo a i + absI (a.getD i (0, 0)).2) * (H : Int) ≤ 100 * (H : Int) := Int.mul_le_mul_of_nonneg_right h5 (by omega)
    rw [Int.add_mul] at h6
    omega

theorem sum_gen_bd {a b : List (Int × Int)} {f g : Int → Int} (s : Int) (hs : s = 1 ∨ s = -1) (ha : Canon a f) (hb : Canon b g) (M N : Int) (hN : 0 ≤ N) (hMN : M + N ≤ 1000000000000000) (K : Nat) (hK : K ≤ 20000)
    (hf : ∀ x, -M ≤ f x ∧ f x ≤ M) (hg : ∀ x, -N ≤ g x ∧ g x ≤ N) (hfx : ∀ x, f x ≠ 0 → -(K : Int) ≤ x ∧ x ≤ K) (hgx : ∀ x, g x ≠ 0 → -(K : Int) ≤ x ∧ x ≤ K) (k : Nat) (hk : k ≤ b.length) :
    (sumTo a b s k).length ≤ 100000 ∧ ∀ t ∈ sumTo a b s k, -1000000000000000 ≤ t.2 ∧ t.2 ≤ 1000000000000000 := by
  have hc := sumTo_canon ha s k hk
  refine ⟨?_, canon_bd (M := 1000000000000000) hc fun x => ?_⟩
  · refine Nat.le_trans (canon_len hc K (fun x hx => by
      by_cases h0 : f x = 0
      · exact take_supp hb K hgx k x (fun e => hx (by rw [h0, e]; simp))
      · exact hfx x h0)) (by omega)
  · have h1 := hf x
    have h2 := take_bd hb N hN hg k x
    rcases hs with rfl | rfl <;> omega

set_option maxHeartbeats 2000000 in
set_option maxRecDepth 100000 in
theorem sum_gen_some (v1 : Value) (b off cap : Nat) (l1 l2 : List (Int × Int)) (s : Int) (w : World) (hs : s = 1 ∨ s = -1) (h2l : l2.length ≤ 100000) (h2 : ∀ t ∈ l2, -1000000000000000 ≤ t.2 ∧ t.2 ≤ 1000000000000000)
    (hbd : ∀ k, k ≤ l2.length → (sumTo l1 l2 s k).length ≤ 100000 ∧ ∀ t ∈ sumTo l1 l2 s k, -1000000000000000 ≤ t.2 ∧ t.2 ≤ 1000000000000000) (hP1 : PolyC w w.heap.size v1 l1) (hbw : b < w.heap.size) (hT : TermsAt w b off l2) :
    Calls Try.prog 81 #[v1, .slice (some ⟨b, off, none⟩) l2.length cap, .int .i64 s] w fun e w' => ∃ v, e = .returned v ∧ PolyC w' w'.heap.size v (sumTo l1 l2 s l2.length) ∧ Below w.heap.size w w' := by
  have HT : Hid (TermsAt w b off l2) := hT
  have HP1 : Hid (PolyC w w.heap.size v1 l1) := hP1
  have H2 : Hid (∀ t ∈ l2, -1000000000000000 ≤ t.2 ∧ t.2 ≤ 1000000000000000) := h2
  have HBD : Hid (∀ k, k ≤ l2.length → (sumTo l1 l2 s k).length ≤ 100000 ∧ ∀ t ∈ sumTo l1 l2 s k, -1000000000000000 ≤ t.2 ∧ t.2 ≤ 1000000000000000) := hbd
  have HS : Hid (s = 1 ∨ s = -1) := hs
  clear hT hP1 h2 hbd hs
  go_enter Try.func81, Try.ntmps81
  go_wp2
  go_loopw [7, 8] (fun v i wr => ∃ k : Nat, k ≤ l2.length ∧ i = .int .i64 k ∧ Hid (PolyC wr wr.heap.size v (sumTo l1 l2 s k)) ∧ Below w.heap.size w wr) (fun _ i _ => l2.length - (intOf i).toNat)
  case atStart => exact ⟨0, Nat.zero_le _, rfl, HP1.out, Below.refl _ _⟩
  case round =>
    obtain ⟨k, hk, rfl, hP, hb⟩ := hrel
    by_cases hlt : k < l2.length
    · have c0 := bcell hb hbw (HT.out k hlt).1
      have c1 := bcell hb hbw (HT.out k hlt).2
      have hok := H2.out _ (getD_mem l2 k (0, 0) hlt)
      have hstep : Hid (sumTo l1 l2 s (k + 1) = putL (sumTo l1 l2 s k) (l2.getD k (0, 0)).1 (s * (l2.getD k (0, 0)).2)) := rfl
      generalize he : (l2.getD k (0, 0)).1 = e at c0 hok hstep
      generalize hc : (l2.getD k (0, 0)).2 = c at c1 hok hstep
      clear he hc
      obtain ⟨o3, o4⟩ := hok
      have hsc : -1000000000000000 ≤ s * c ∧ s * c ≤ 1000000000000000 := by rcases HS.out with e | e <;> rw [e] <;> omega
      have hw1 : IntKind.i64.wrap (s * c) = s * c := IntWalk.i64_in _ (by omega)
      have hbr : b < wr.heap.size := Nat.lt_of_lt_of_le hbw hb.size
      go_wp2
      go_region_with (go_at_call 128; refine (put_poly _ (sumTo l1 l2 s k) e (s * c) _ (HBD.out k hk).1 hsc.1 hsc.2 (HBD.out k hk).2 (hP.out.up (Below.refl _ _).drew)).mono ?_; rintro r w1 ⟨v', rfl, hP1', hb1⟩)
      all_goals go_wp2
      all_goals go_roundw
      all_goals first | (simp only [intOf]; omega) | skip
      all_goals refine ⟨k + 1, by omega, by go_num, ?_, hb.drew.trans (hb1.mono hb.size)⟩
      all_goals
        show PolyC _ _ _ _
        rw [hstep.out]
        exact hP1'
    · go_wp2
      go_ret
      obtain rfl : k = l2.length := by omega
      exact ⟨_, rfl, hP.out, hb⟩

set_option maxHeartbeats 400000 in
theorem sum_gen_none (v1 : Value) (a : Option Addr) (cap : Nat) (s : Int) (w : World) :
    Calls Try.prog 81 #[v1, .slice a 0 cap, .int .i64 s] w fun e w' => e = .returned v1 ∧ Below w.heap.size w w' := by
  go_enter Try.func81, Try.ntmps81
  go_wp2
  go_loopw [7, 8] (fun v i wr => v = v1 ∧ i = .int .i64 0 ∧ Below w.heap.size w wr) (fun _ _ _ => 0)
  case atStart => exact ⟨rfl, rfl, Below.refl _ _⟩
  case round =>
    obtain ⟨rfl, rfl, hb⟩ := hrel
    go_wp2
    go_ret
    exact ⟨rfl, hb⟩

/-- ref.Sum of two polynomials in form, the other one s times. -/
theorem sum_gen (v1 v2 : Value) (l1 l2 : List (Int × Int)) (f g : Int → Int) (s : Int) (w : World) (hs : s = 1 ∨ s = -1) (c1 : Canon l1 f) (c2 : Canon l2 g) (M N : Int) (hM : 0 ≤ M) (hN : 0 ≤ N) (hMN : M + N ≤ 1000000000000000) (K : Nat) (hK : K ≤ 20000)
    (hf : ∀ x, -M ≤ f x ∧ f x ≤ M) (hg : ∀ x, -N ≤ g x ∧ g x ≤ N) (hfx : ∀ x, f x ≠ 0 → -(K : Int) ≤ x ∧ x ≤ K) (hgx : ∀ x, g x ≠ 0 → -(K : Int) ≤ x ∧ x ≤ K) (hP1 : PolyC w w.heap.size v1 l1) (hP2 : PolyC w w.heap.size v2 l2) :
    Calls Try.prog 81 #[v1, v2, .int .i64 s] w fun e w' => ∃ v l, e = .returned v ∧ PolyC w' w'.heap.size v l ∧ Canon l (fun x => f x + s * g x) ∧ Below w.heap.size w w' := by
  obtain ⟨a, cap, rfl, hp⟩ := hP2.1.slice
  rcases Nat.eq_zero_or_pos l2.length with h0 | h0
  · have e0 : l2 = [] := List.length_eq_zero_iff.1 h0
    subst e0
    refine (sum_gen_none v1 a cap s w).mono ?_
    rintro e w' ⟨rfl, hb⟩
    refine ⟨_, l1, rfl, hP1.up hb, canon_congr c1 fun x => ?_, hb⟩
    have := canon_coef c2 x
    simp only [coefL] at this
    rw [← this]; simp
  · obtain ⟨b, off, rfl, hlt, hT⟩ := hp h0
    have hl := canon_len c2 K hgx
    refine (sum_gen_some v1 b off cap l1 l2 s w hs (by omega) (canon_bd c2 fun x => by have := hg x; omega) (fun k hk => sum_gen_bd s hs c1 c2 M N hN hMN K hK hf hg hfx hgx k hk) hP1 hlt hT).mono ?_
    rintro e w' ⟨v, rfl, hP, hb⟩
    refine ⟨v, _, rfl, hP, canon_congr (sumTo_canon c1 s l2.length (Nat.le_refl _)) fun x => ?_, hb⟩
    rw [List.take_length, canon_coef c2]

set_option maxHeartbeats 4000000 in
set_option maxRecDepth 100000 in
theorem prod_gen_some (b1 off1 cap1 b2 off2 cap2 : Nat) (l1 l2 : List (Int × Int)) (w : World) (hm1 : mayB l1 = true) (hs1 : sizeL l1 ≤ 100) (h2l : l2.length ≤ 100000) (h2 : ∀ t ∈ l2, -20000 ≤ t.1 ∧ t.1 ≤ 20000 ∧ -2000000000000 ≤ t.2 ∧ t.2 ≤ 2000000000000)
    (hbd : ∀ i k, i < l1.length → k ≤ l2.length → (rowTo (prodTo l1 l2 i) l2 (l1.getD i (0, 0)) k).length ≤ 100000 ∧ ∀ t ∈ rowTo (prodTo l1 l2 i) l2 (l1.getD i (0, 0)) k, -1000000000000000 ≤ t.2 ∧ t.2 ≤ 1000000000000000)
    (hbw1 : b1 < w.heap.size) (hT1 : TermsAt w b1 off1 l1) (hbw2 : b2 < w.heap.size) (hT2 : TermsAt w b2 off2 l2) :
    Calls Try.prog 82 #[.slice (some ⟨b1, off1, none⟩) l1.length cap1, .slice (some ⟨b2, off2, none⟩) l2.length cap2] w fun e w' => ∃ v, e = .returned v ∧ PolyC w' w'.heap.size v (prodTo l1 l2 l1.length) ∧ Below w.heap.size w w' := by
  have h164 := ((may_iff l1).1 hm1).1
  have HM1 : Hid (∀ t ∈ l1, -1000 ≤ t.1 ∧ t.1 ≤ 1000 ∧ -100 ≤ t.2 ∧ t.2 ≤ 100) := fun t ht => by
    have h1 := may_exps hm1 t ht
    obtain ⟨i, hi, rfl⟩ := List.getElem_of_mem ht
    have h4 := sizeTo_mono l1 (i + 1) l1.length (by omega)
    have h5 : sizeTo l1 l1.length ≤ 100 := hs1
    have h6 := (sizeTo_le hm1 i (by omega)).1
    rw [sizeTo] at h4
    have e : l1.getD i (0, 0) = l1[i] := by simp [List.getD, hi]
    rw [e] at h4
    unfold absI at h4
    split at h4 <;> omega
  have H2 : Hid (∀ t ∈ l2, -20000 ≤ t.1 ∧ t.1 ≤ 20000 ∧ -2000000000000 ≤ t.2 ∧ t.2 ≤ 2000000000000) := h2
  have HBD : Hid (∀ i k, i < l1.length → k ≤ l2.length → (rowTo (prodTo l1 l2 i) l2 (l1.getD i (0, 0)) k).length ≤ 100000 ∧ ∀ t ∈ rowTo (prodTo l1 l2 i) l2 (l1.getD i (0, 0)) k, -1000000000000000 ≤ t.2 ∧ t.2 ≤ 1000000000000000) := hbd
  have HT1 : Hid (TermsAt w b1 off1 l1) := hT1
  have HT2 : Hid (TermsAt w b2 off2 l2) := hT2
  clear hm1 hs1 h2 hbd hT1 hT2
  go_enter Try.func82, Try.ntmps82
  go_wp2
  go_loopw [5, 6, 7] (fun v i _ wr => ∃ k : Nat, k ≤ l1.length ∧ i = .int .i64 k ∧ Hid (PolyC wr wr.heap.size v (prodTo l1 l2 k)) ∧ Below w.heap.size w wr) (fun _ i _ _ => l1.length - (intOf i).toNat)
  case atStart => exact ⟨0, Nat.zero_le _, rfl, ⟨Or.inl ⟨rfl, rfl⟩, none, 0, 0, rfl, Nat.le_refl _, Nat.zero_le _⟩, Below.refl _ _⟩
  case round =>
    rename World => W1
    obtain ⟨i, hi, rfl, hP, hb⟩ := hrel
    by_cases hlt : i < l1.length
    · go_wp2
      go_loopw [5, 7] (fun v j wr => ∃ k : Nat, k ≤ l2.length ∧ j = .int .i64 k ∧ Hid (PolyC wr wr.heap.size v (rowTo (prodTo l1 l2 i) l2 (l1.getD i (0, 0)) k)) ∧ Below w.heap.size w wr) (fun _ j _ => l2.length - (intOf j).toNat)
      case atStart => exact ⟨0, Nat.zero_le _, rfl, hP, hb⟩
      case round =>
        clear hb hP
        obtain ⟨k, hk, rfl, hP, hb⟩ := hrel
        by_cases hlt2 : k < l2.length
        · have c0 := bcell hb hbw1 (HT1.out i hlt).1
          have c1 := bcell hb hbw1 (HT1.out i hlt).2
          have d0 := bcell hb hbw2 (HT2.out k hlt2).1
          have d1 := bcell hb hbw2 (HT2.out k hlt2).2
          have hok := HM1.out _ (getD_mem l1 i (0, 0) hlt)
          have hok2 := H2.out _ (getD_mem l2 k (0, 0) hlt2)
          have hrl := (HBD.out i k hlt hk).1
          have HBR : Hid (∀ t ∈ rowTo (prodTo l1 l2 i) l2 (l1.getD i (0, 0)) k, -1000000000000000 ≤ t.2 ∧ t.2 ≤ 1000000000000000) := (HBD.out i k hlt hk).2
          have hstep : Hid (rowTo (prodTo l1 l2 i) l2 (l1.getD i (0, 0)) (k + 1) = putL (rowTo (prodTo l1 l2 i) l2 (l1.getD i (0, 0)) k) ((l1.getD i (0, 0)).1 + (l2.getD k (0, 0)).1) ((l1.getD i (0, 0)).2 * (l2.getD k (0, 0)).2)) := rfl
          generalize hR : rowTo (prodTo l1 l2 i) l2 (l1.getD i (0, 0)) k = R at hP hrl HBR hstep
          generalize hR2 : rowTo (prodTo l1 l2 i) l2 (l1.getD i (0, 0)) (k + 1) = R2 at hstep
          generalize he : (l1.getD i (0, 0)).1 = e at c0 hok hstep
          generalize hc : (l1.getD i (0, 0)).2 = c at c1 hok hstep
          generalize he2 : (l2.getD k (0, 0)).1 = e2 at d0 hok2 hstep
          generalize hc2 : (l2.getD k (0, 0)).2 = c2 at d1 hok2 hstep
          have HR2 : Hid (rowTo (prodTo l1 l2 i) l2 (l1.getD i (0, 0)) (k + 1) = R2) := hR2
          clear he hc he2 hc2 hR hR2
          obtain ⟨o1, o2, o3, o4⟩ := hok
          obtain ⟨p1, p2, p3, p4⟩ := hok2
          have hmul := mul_100 p3 p4 o3 o4
          rw [Int.mul_comm] at hmul
          have hw1 : IntKind.i64.wrap (e + e2) = e + e2 := IntWalk.i64_in _ (by omega)
          have hw2 : IntKind.i64.wrap (c * c2) = c * c2 := IntWalk.i64_in _ (by omega)
          have hbr1 : b1 < wr.heap.size := Nat.lt_of_lt_of_le hbw1 hb.size
          have hbr2 : b2 < wr.heap.size := Nat.lt_of_lt_of_le hbw2 hb.size
          go_wp2
          go_region_with (go_at_call 128; refine (put_poly _ R (e + e2) (c * c2) _ (by omega) (by omega) (by omega) HBR.out (hP.out.up (Below.refl _ _).drew)).mono ?_; rintro r w1 ⟨v', rfl, hP1', hb1⟩)
          all_goals go_wp2
          all_goals go_roundw
          all_goals first | (simp only [intOf]; omega) | skip
          all_goals refine ⟨k + 1, by omega, by go_num, ?_, hb.drew.trans (hb1.mono hb.size)⟩
          all_goals
            show PolyC _ _ _ _
            rw [HR2.out, hstep.out]
            exact hP1'
        · go_wp2
          go_roundw
          case rel =>
            obtain rfl : k = l2.length := by omega
            exact ⟨i + 1, by omega, by go_num, hP, hb⟩
          case measure => simp [intOf]; omega
    · go_wp2
      go_ret
      obtain rfl : i = l1.length := by omega
      exact ⟨_, rfl, hP.out, hb⟩

/-- ref.Product of a small polynomial and another one in form. -/
theorem prod_gen (v1 v2 : Value) (l1 l2 : List (Int × Int)) (f : Int → Int) (w : World) (hm1 : mayB l1 = true) (hs1 : sizeL l1 ≤ 100) (c2 : Canon l2 f) (H K : Nat) (hH : H ≤ 2000000000000) (hK : K ≤ 20000) (hf : ∀ x, (f x).natAbs ≤ H) (hx : ∀ x, f x ≠ 0 → -(K : Int) ≤ x ∧ x ≤ K)
    (hP1 : Poly w w.heap.size v1 l1) (hP2 : Poly w w.heap.size v2 l2) :
    Calls Try.prog 82 #[v1, v2] w fun e w' => ∃ v l, e = .returned v ∧ PolyC w' w'.heap.size v l ∧ Canon l (prodL l1 f) ∧ Below w.heap.size w w' := by
  obtain ⟨a1, cap1, rfl, hp1⟩ := hP1.slice
  obtain ⟨a2, cap2, rfl, hp2⟩ := hP2.slice
  have hco : coefL l2 = f := funext (canon_coef c2)
  have hcan : Canon (prodTo l1 l2 l1.length) (prodL l1 f) := by
    have := prodTo_canon l1 l2 l1.length (Nat.le_refl _)
    rw [List.take_length, hco] at this
    exact this
  rcases Nat.eq_zero_or_pos l1.length with h0 | h0
  · have e0 : l1 = [] := List.length_eq_zero_iff.1 h0
    subst e0
    refine (prod_none1 a1 cap1 _ w).mono ?_
    rintro e w' ⟨rfl, hb⟩
    exact ⟨_, [], rfl, ⟨Or.inl ⟨rfl, rfl⟩, none, 0, 0, rfl, Nat.le_refl _, Nat.zero_le _⟩, hcan, hb⟩
  · rcases Nat.eq_zero_or_pos l2.length with h2 | h2
    · have e0 : l2 = [] := List.length_eq_zero_iff.1 h2
      subst e0
      refine (prod_none2 a1 a2 l1.length cap1 cap2 w ((may_iff l1).1 hm1).1).mono ?_
      rintro e w' ⟨rfl, hb⟩
      rw [prodTo_nil] at hcan
      exact ⟨_, [], rfl, ⟨Or.inl ⟨rfl, rfl⟩, none, 0, 0, rfl, Nat.le_refl _, Nat.zero_le _⟩, hcan, hb⟩
    · obtain ⟨b1, off1, rfl, hlt1, hT1⟩ := hp1 h0
      obtain ⟨b2, off2, rfl, hlt2, hT2⟩ := hp2 h2
      have hl := canon_len c2 K hx
      refine (prod_gen_some b1 off1 cap1 b2 off2 cap2 l1 l2 w hm1 hs1 (by omega) (fun t ht => ?_) (fun i k hi hk => row_gen hm1 hs1 c2 H K hH hK hf hx i k hi hk) hlt1 hT1 hlt2 hT2).mono ?_
      · have h1 := (c2.2 t.1 t.2).1 ht
        have h3 := hf t.1
        have h4 := hx t.1 (by rw [h1.1]; exact h1.2)
        rw [h1.1] at h3
        omega
      · rintro e w' ⟨v, rfl, hP, hb⟩
        exact ⟨v, _, rfl, hP, hcan, hb⟩
end Go.Proofs.Ytdbpiggohncjiaa.Poly

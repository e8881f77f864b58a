/- Several texts of the proof, one behind the other. -/
import Derived.Test.YtajmogojekichaaAD9P
import Derived.Test.YtajmogojekichaaPB7
/- The walks of ref.Sum and ref.Product for polynomials with greater coefficients than may be handed in. -/
namespace Go.Proofs.Ytajmogojekichaa.Poly
open Go.RowKit Go.Maps

theorem row_gen {a b : List (Int × Int)} {f : Int → Int} (hm : mayB a = true) (hs : sizeL a ≤ 4) (hb : Canon b f) (H K : Nat) (hH : H ≤ 2000000000000) (hK : K ≤ 20000) (hf : ∀ x, (f x).natAbs ≤ H) (hx : ∀ x, f x ≠ 0 → -(K : Int) ≤ x ∧ x ≤ K) (i k : Nat) (hi : i < a.length) (hk : k ≤ b.length) :
    (rowTo (prodTo a b i) b (a.getD i (0, 0)) k).length ≤ 100000 ∧ ∀ t ∈ rowTo (prodTo a b i) b (a.getD i (0, 0)) k, -1000000000000000 ≤ t.2 ∧ t.2 ≤ 1000000000000000 := by
  have hc := rowTo_canon (prodTo_canon a b i (by omega)) (a.getD i (0, 0)) k hk
  have hco : coefL b = f := funext (canon_coef hb)
  rw [hco] at hc
  have h2 : ∀ x, -(H : Int) ≤ f x ∧ f x ≤ H := fun x => by have := hf x; omega
  have hmem : a.getD i (0, 0) ∈ a := getD_mem a i (0, 0) hi
  refine ⟨?_, canon_bd (M := 1000000000000000) hc fun y => ?_⟩
  · refine Nat.le_trans (canon_len hc (K + 1000) (fun y hy => by
      by_cases h0 : prodL (a.take i) f y = 0
      · have h1 : coefL (b.take k) (y - (a.getD i (0, 0)).1) ≠ 0 := fun e => hy (by rw [h0, e]; simp)
        have h3 := take_supp hb K hx k _ h1
        have h4 := may_exps hm _ hmem
        omega
      · have h3 := prodL_supp (a.take i) f K y (fun t ht => may_exps hm t (List.mem_of_mem_take ht)) hx h0
        omega)) (by omega)
  · have h1 := prodL_abs a f H hf y i (by omega)
    have h3 := take_bd hb H (by omega) h2 k (y - (a.getD i (0, 0)).1)
    have h4 : (((a.getD i (0, 0)).2 * coefL (b.take k) (y - (a.getD i (0, 0)).1)).natAbs : Int) ≤ absI (a.getD i (0, 0)).2 * (H : Int) := by
      have ha : absI (a.getD i (0, 0)).2 = ((a.getD i (0, 0)).2.natAbs : Int) := by unfold absI; split <;> omega
      rw [ha, ← Int.natCast_mul]
      refine Int.ofNat_le.2 ?_
      rw [Int.natAbs_mul]
      exact Nat.mul_le_mul (Nat.le_refl _) (by omega)
    have h5 : sizeTo a i + absI (a.getD i (0, 0)).2 ≤ 4 := Int.le_trans (sizeTo_mono a (i + 1) a.length (by omega)) hs
    have h6 : (sizeTo a i + absI (a.getD i (0, 0)).2) * (H : Int) ≤ 4 * (H : Int) := Int.mul_le_mul_of_nonneg_right h5 (by omega)
    rw [Int.add_mul] at h6
    omega

theorem sum_gen_bd {a b : List (Int × Int)} {f g : Int → Int} (s : Int) (hs : s = 1 ∨ s = -1) (ha : Canon a f) (hb : Canon b g) (M N : Int) (hN : 0 ≤ N) (hMN : M + N ≤ 1000000000000000) (K : Nat) (hK : K ≤ 20000)
    (hf : ∀ x, -M ≤ f x ∧ f x ≤ M) (hg : ∀ x, -N ≤ g x ∧ g x ≤ N) (hfx : ∀ x, f x ≠ 0 → -(K : Int) ≤ x ∧ x ≤ K) (hgx : ∀ x, g x ≠ 0 → -(K : Int) ≤ x ∧ x ≤ K) (k : Nat) (hk : k ≤ b.length) :
    (sumTo a b s k).length ≤ 100000 ∧ ∀ t ∈ sumTo a b s k, -1000000000000000 ≤ t.2 ∧ t.2 ≤ 1000000000000000 := by
  have hc := sumTo_canon ha s k hk
  refine ⟨?_, canon_bd (M := 1000000000000000) hc fun x => ?_⟩
  · refine Nat.le_trans (canon_len hc K (fun x hx => by
      by_cases h0 : f x = 0
      · exact take_supp hb K hgx k x (fun e => hx (by rw [h0, e]; simp))
      · exact hfx x h0)) (by omega)
  · have h1 := hf x
    have h2 := take_bd hb N hN hg k x
    rcases hs with rfl | rfl <;> omega

set_option maxHeartbeats 2000000 in
set_option maxRecDepth 100000 in
theorem sum_gen_some (v1 : Value) (b off cap : Nat) (l1 l2 : List (Int × Int)) (s : Int) (w : World) (hs : s = 1 ∨ s = -1) (h2l : l2.length ≤ 100000) (h2 : ∀ t ∈ l2, -1000000000000000 ≤ t.2 ∧ t.2 ≤ 1000000000000000)
    (hbd : ∀ k, k ≤ l2.length → (sumTo l1 l2 s k).length ≤ 100000 ∧ ∀ t ∈ sumTo l1 l2 s k, -1000000000000000 ≤ t.2 ∧ t.2 ≤ 1000000000000000) (hP1 : PolyC w w.heap.size v1 l1) (hbw : b < w.heap.size) (hT : TermsAt w b off l2) :
    Calls Try.prog 143 #[v1, .slice (some ⟨b, off, none⟩) l2.length cap, .int .i64 s] w fun e w' => ∃ v, e = .returned v ∧ PolyC w' w'.heap.size v (sumTo l1 l2 s l2.length) ∧ Below w.heap.size w w' := by
  have HT : Hid (TermsAt w b off l2) := hT
  have HP1 : Hid (PolyC w w.heap.size v1 l1) := hP1
  have H2 : Hid (∀ t ∈ l2, -1000000000000000 ≤ t.2 ∧ t.2 ≤ 1000000000000000) := h2
  have HBD : Hid (∀ k, k ≤ l2.length → (sumTo l1 l2 s k).length ≤ 100000 ∧ ∀ t ∈ sumTo l1 l2 s k, -1000000000000000 ≤ t.2 ∧ t.2 ≤ 1000000000000000) := hbd
  have HS : Hid (s = 1 ∨ s = -1) := hs
  clear hT hP1 h2 hbd hs
  go_enter Try.func143, Try.ntmps143
  go_wp2
  go_loopw [7, 8] (fun v i wr => ∃ k : Nat, k ≤ l2.length ∧ i = .int .i64 k ∧ Hid (PolyC wr wr.heap.size v (sumTo l1 l2 s k)) ∧ Below w.heap.size w wr) (fun _ i _ => l2.length - (intOf i).toNat)
  case atStart => exact ⟨0, Nat.zero_le _, rfl, HP1.out, Below.refl _ _⟩
  case round =>
    obtain ⟨k, hk, rfl, hP, hb⟩ := hrel
    by_cases hlt : k < l2.length
    · have c0 := bcell hb hbw (HT.out k hlt).1
      have c1 := bcell hb hbw (HT.out k hlt).2
      have hok := H2.out _ (getD_mem l2 k (0, 0) hlt)
      have hstep : Hid (sumTo l1 l2 s (k + 1) = putL (sumTo l1 l2 s k) (l2.getD k (0, 0)).1 (s * (l2.getD k (0, 0)).2)) := rfl
      generalize he : (l2.getD k (0, 0)).1 = e at c0 hok hstep
      generalize hc : (l2.getD k (0, 0)).2 = c at c1 hok hstep
      clear he hc
      obtain ⟨o3, o4⟩ := hok
      have hsc : -1000000000000000 ≤ s * c ∧ s * c ≤ 1000000000000000 := by rcases HS.out with e | e <;> rw [e] <;> omega
      have hw1 : IntKind.i64.wrap (s * c) = s * c := IntWalk.i64_in _ (by omega)
      have hbr : b < wr.heap.size := Nat.lt_of_lt_of_le hbw hb.size
      go_wp2
      go_region_with (go_at_call 142; refine (put_poly _ (sumTo l1 l2 s k) e (s * c) _ (HBD.out k hk).1 hsc.1 hsc.2 (HBD.out k hk).2 (hP.out.up (Below.refl _ _).drew)).mono ?_; rintro r w1 ⟨v', rfl, hP1', hb1⟩)
      all_goals go_wp2
      all_goals go_roundw
      all_goals first | (simp only [intOf]; omega) | skip
      all_goals refine ⟨k + 1, by omega, by go_num, ?_, hb.drew.trans (hb1.mono hb.size)⟩
      all_goals
        show PolyC _ _ _ _
        rw [hstep.out]
        exact hP1'
    · go_wp2
      go_ret
      obtain rfl : k = l2.length := by omega
      exact ⟨_, rfl, hP.out, hb⟩

set_option maxHeartbeats 400000 in
theorem sum_gen_none (v1 : Value) (a : Option Addr) (cap : Nat) (s : Int) (w : World) :
    Calls Try.prog 143 #[v1, .slice a 0 cap, .int .i64 s] w fun e w' => e = .returned v1 ∧ Below w.heap.size w w' := by
  go_enter Try.func143, Try.ntmps143
  go_wp2
  go_loopw [7, 8] (fun v i wr => v = v1 ∧ i = .int .i64 0 ∧ Below w.heap.size w wr) (fun _ _ _ => 0)
  case atStart => exact ⟨rfl, rfl, Below.refl _ _⟩
  case round =>
    obtain ⟨rfl, rfl, hb⟩ := hrel
    go_wp2
    go_ret
    exact ⟨rfl, hb⟩

/-- ref.Sum of two polynomials in form, the other one s times. -/
theorem sum_gen (v1 v2 : Value) (l1 l2 : List (Int × Int)) (f g : Int → Int) (s : Int) (w : World) (hs : s = 1 ∨ s = -1) (c1 : Canon l1 f) (c2 : Canon l2 g) (M N : Int) (hM : 0 ≤ M) (hN : 0 ≤ N) (hMN : M + N ≤ 1000000000000000) (K : Nat) (hK : K ≤ 20000)
    (hf : ∀ x, -M ≤ f x ∧ f x ≤ M) (hg : ∀ x, -N ≤ g x ∧ g x ≤ N) (hfx : ∀ x, f x ≠ 0 → -(K : Int) ≤ x ∧ x ≤ K) (hgx : ∀ x, g x ≠ 0 → -(K : Int) ≤ x ∧ x ≤ K) (hP1 : PolyC w w.heap.size v1 l1) (hP2 : PolyC w w.heap.size v2 l2) :
    Calls Try.prog 143 #[v1, v2, .int .i64 s] w fun e w' => ∃ v l, e = .returned v ∧ PolyC w' w'.heap.size v l ∧ Canon l (fun x => f x + s * g x) ∧ Below w.heap.size w w' := by
  obtain ⟨a, cap, rfl, hp⟩ := hP2.1.slice
  rcases Nat.eq_zero_or_pos l2.length with h0 | h0
  · have e0 : l2 = [] := List.length_eq_zero_iff.1 h0
    subst e0
    refine (sum_gen_none v1 a cap s w).mono ?_
    rintro e w' ⟨rfl, hb⟩
    refine ⟨_, l1, rfl, hP1.up hb, canon_congr c1 fun x => ?_, hb⟩
    have := canon_coef c2 x
    simp only [coefL] at this
    rw [← this]; simp
  · obtain ⟨b, off, rfl, hlt, hT⟩ := hp h0
    have hl := canon_len c2 K hgx
    refine (sum_gen_some v1 b off cap l1 l2 s w hs (by omega) (canon_bd c2 fun x => by have := hg x; omega) (fun k hk => sum_gen_bd s hs c1 c2 M N hN hMN K hK hf hg hfx hgx k hk) hP1 hlt hT).mono ?_
    rintro e w' ⟨v, rfl, hP, hb⟩
    refine ⟨v, _, rfl, hP, canon_congr (sumTo_canon c1 s l2.length (Nat.le_refl _)) fun x => ?_, hb⟩
    rw [List.take_length, canon_coef c2]

set_option maxHeartbeats 4000000 in
set_option maxRecDepth 100000 in
theorem prod_gen_some (b1 off1 cap1 b2 off2 cap2 : Nat) (l1 l2 : List (Int × Int)) (w : World) (hm1 : mayB l1 = true) (hs1 : sizeL l1 ≤ 4) (h2l : l2.length ≤ 100000) (h2 : ∀ t ∈ l2, -20000 ≤ t.1 ∧ t.1 ≤ 20000 ∧ -2000000000000 ≤ t.2 ∧ t.2 ≤ 2000000000000)
    (hbd : ∀ i k, i < l1.length → k ≤ l2.length → (rowTo (prodTo l1 l2 i) l2 (l1.getD i (0, 0)) k).length ≤ 100000 ∧ ∀ t ∈ rowTo (prodTo l1 l2 i) l2 (l1.getD i (0, 0)) k, -1000000000000000 ≤ t.2 ∧ t.2 ≤ 1000000000000000)
    (hbw1 : b1 < w.heap.size) (hT1 : TermsAt w b1 off1 l1) (hbw2 : b2 < w.heap.size) (hT2 : TermsAt w b2 off2 l2) :
    Calls Try.prog 144 #[.slice (some ⟨b1, off1, none⟩) l1.length cap1, .slice (some ⟨b2, off2, none⟩) l2.length cap2] w fun e w' => ∃ v, e = .returned v ∧ PolyC w' w'.heap.size v (prodTo l1 l2 l1.length) ∧ Below w.heap.size w w' := by
  have h164 := ((may_iff l1).1 hm1).1
  have HM1 : Hid (∀ t ∈ l1, -1000 ≤ t.1 ∧ t.1 ≤ 1000 ∧ -4 ≤ t.2 ∧ t.2 ≤ 4) := fun t ht => by
    have h1 := may_exps hm1 t ht
    obtain ⟨i, hi, rfl⟩ := List.getElem_of_mem ht
    have h4 := sizeTo_mono l1 (i + 1) l1.length (by omega)
    have h5 : sizeTo l1 l1.length ≤ 4 := hs1
    have h6 := (sizeTo_le hm1 i (by omega)).1
    rw [sizeTo] at h4
    have e : l1.getD i (0, 0) = l1[i] := by simp [List.getD, hi]
    rw [e] at h4
    unfold absI at h4
    split at h4 <;> omega
  have H2 : Hid (∀ t ∈ l2, -20000 ≤ t.1 ∧ t.1 ≤ 20000 ∧ -2000000000000 ≤ t.2 ∧ t.2 ≤ 2000000000000) := h2
  have HBD : Hid (∀ i k, i < l1.length → k ≤ l2.length → (rowTo (prodTo l1 l2 i) l2 (l1.getD i (0, 0)) k).length ≤ 100000 ∧ ∀ t ∈ rowTo (prodTo l1 l2 i) l2 (l1.getD i (0, 0)) k, -1000000000000000 ≤ t.2 ∧ t.2 ≤ 1000000000000000) := hbd
  have HT1 : Hid (TermsAt w b1 off1 l1) := hT1
  have HT2 : Hid (TermsAt w b2 off2 l2) := hT2
  clear hm1 hs1 h2 hbd hT1 hT2
  go_enter Try.func144, Try.ntmps144
  go_wp2
  go_loopw [5, 6, 7] (fun v i _ wr => ∃ k : Nat, k ≤ l1.length ∧ i = .int .i64 k ∧ Hid (PolyC wr wr.heap.size v (prodTo l1 l2 k)) ∧ Below w.heap.size w wr) (fun _ i _ _ => l1.length - (intOf i).toNat)
  case atStart => exact ⟨0, Nat.zero_le _, rfl, ⟨Or.inl ⟨rfl, rfl⟩, none, 0, 0, rfl, Nat.le_refl _, Nat.zero_le _⟩, Below.refl _ _⟩
  case round =>
    rename World => W1
    obtain ⟨i, hi, rfl, hP, hb⟩ := hrel
    by_cases hlt : i < l1.length
    · go_wp2
      go_loopw [5, 7] (fun v j wr => ∃ k : Nat, k ≤ l2.length ∧ j = .int .i64 k ∧ Hid (PolyC wr wr.heap.size v (rowTo (prodTo l1 l2 i) l2 (l1.getD i (0, 0)) k)) ∧ Below w.heap.size w wr) (fun _ j _ => l2.length - (intOf j).toNat)
      case atStart => exact ⟨0, Nat.zero_le _, rfl, hP, hb⟩
      case round =>
        clear hb hP
        obtain ⟨k, hk, rfl, hP, hb⟩ := hrel
        by_cases hlt2 : k < l2.length
        · have c0 := bcell hb hbw1 (HT1.out i hlt).1
          have c1 := bcell hb hbw1 (HT1.out i hlt).2
          have d0 := bcell hb hbw2 (HT2.out k hlt2).1
          have d1 := bcell hb hbw2 (HT2.out k hlt2).2
          have hok := HM1.out _ (getD_mem l1 i (0, 0) hlt)
          have hok2 := H2.out _ (getD_mem l2 k (0, 0) hlt2)
          have hrl := (HBD.out i k hlt hk).1
          have HBR : Hid (∀ t ∈ rowTo (prodTo l1 l2 i) l2 (l1.getD i (0, 0)) k, -1000000000000000 ≤ t.2 ∧ t.2 ≤ 1000000000000000) := (HBD.out i k hlt hk).2
          have hstep : Hid (rowTo (prodTo l1 l2 i) l2 (l1.getD i (0, 0)) (k + 1) = putL (rowTo (prodTo l1 l2 i) l2 (l1.getD i (0, 0)) k) ((l1.getD i (0, 0)).1 + (l2.getD k (0, 0)).1) ((l1.getD i (0, 0)).2 * (l2.getD k (0, 0)).2)) := rfl
          generalize hR : rowTo (prodTo l1 l2 i) l2 (l1.getD i (0, 0)) k = R at hP hrl HBR hstep
          generalize hR2 : rowTo (prodTo l1 l2 i) l2 (l1.getD i (0, 0)) (k + 1) = R2 at hstep
          generalize he : (l1.getD i (0, 0)).1 = e at c0 hok hstep
          generalize hc : (l1.getD i (0, 0)).2 = c at c1 hok hstep
          generalize he2 : (l2.getD k (0, 0)).1 = e2 at d0 hok2 hstep
          generalize hc2 : (l2.getD k (0, 0)).2 = c2 at d1 hok2 hstep
          have HR2 : Hid (rowTo (prodTo l1 l2 i) l2 (l1.getD i (0, 0)) (k + 1) = R2) := hR2
          clear he hc he2 hc2 hR hR2
          obtain ⟨o1, o2, o3, o4⟩ := hok
          obtain ⟨p1, p2, p3, p4⟩ := hok2
          have hmul := mul_100 p3 p4 o3 o4
          rw [Int.mul_comm] at hmul
          have hw1 : IntKind.i64.wrap (e + e2) = e + e2 := IntWalk.i64_in _ (by omega)
          have hw2 : IntKind.i64.wrap (c * c2) = c * c2 := IntWalk.i64_in _ (by omega)
          have hbr1 : b1 < wr.heap.size := Nat.lt_of_lt_of_le hbw1 hb.size
          have hbr2 : b2 < wr.heap.size := Nat.lt_of_lt_of_le hbw2 hb.size
          go_wp2
          go_region_with (go_at_call 142; refine (put_poly _ R (e + e2) (c * c2) _ (by omega) (by omega) (by omega) HBR.out (hP.out.up (Below.refl _ _).drew)).mono ?_; rintro r w1 ⟨v', rfl, hP1', hb1⟩)
          all_goals go_wp2
          all_goals go_roundw
          all_goals first | (simp only [intOf]; omega) | skip
          all_goals refine ⟨k + 1, by omega, by go_num, ?_, hb.drew.trans (hb1.mono hb.size)⟩
          all_goals
            show PolyC _ _ _ _
            rw [HR2.out, hstep.out]
            exact hP1'
        · go_wp2
          go_roundw
          case rel =>
            obtain rfl : k = l2.length := by omega
            exact ⟨i + 1, by omega, by go_num, hP, hb⟩
          case measure => simp [intOf]; omega
    · go_wp2
      go_ret
      obtain rfl : i = l1.length := by omega
      exact ⟨_, rfl, hP.out, hb⟩

/-- ref.Product of a small polynomial and another one in form. -/
theorem prod_gen (v1 v2 : Value) (l1 l2 : List (Int × Int)) (f : Int → Int) (w : World) (hm1 : mayB l1 = true) (hs1 : sizeL l1 ≤ 4) (c2 : Canon l2 f) (H K : Nat) (hH : H ≤ 2000000000000) (hK : K ≤ 20000) (hf : ∀ x, (f x).natAbs ≤ H) (hx : ∀ x, f x ≠ 0 → -(K : Int) ≤ x ∧ x ≤ K)
    (hP1 : Poly w w.heap.size v1 l1) (hP2 : Poly w w.heap.size v2 l2) :
    Calls Try.prog 144 #[v1, v2] w fun e w' => ∃ v l, e = .returned v ∧ PolyC w' w'.heap.size v l ∧ Canon l (prodL l1 f) ∧ Below w.heap.size w w' := by
  obtain ⟨a1, cap1, rfl, hp1⟩ := hP1.slice
  obtain ⟨a2, cap2, rfl, hp2⟩ := hP2.slice
  have hco : coefL l2 = f := funext (canon_coef c2)
  have hcan : Canon (prodTo l1 l2 l1.length) (prodL l1 f) := by
    have := prodTo_canon l1 l2 l1.length (Nat.le_refl _)
    rw [List.take_length, hco] at this
    exact this
  rcases Nat.eq_zero_or_pos l1.length with h0 | h0
  · have e0 : l1 = [] := List.length_eq_zero_iff.1 h0
    subst e0
    refine (prod_none1 a1 cap1 _ w).mono ?_
    rintro e w' ⟨rfl, hb⟩
    exact ⟨_, [], rfl, ⟨Or.inl ⟨rfl, rfl⟩, none, 0, 0, rfl, Nat.le_refl _, Nat.zero_le _⟩, hcan, hb⟩
  · rcases Nat.eq_zero_or_pos l2.length with h2 | h2
    · have e0 : l2 = [] := List.length_eq_zero_iff.1 h2
      subst e0
      refine (prod_none2 a1 a2 l1.length cap1 cap2 w ((may_iff l1).1 hm1).1).mono ?_
      rintro e w' ⟨rfl, hb⟩
      rw [prodTo_nil] at hcan
      exact ⟨_, [], rfl, ⟨Or.inl ⟨rfl, rfl⟩, none, 0, 0, rfl, Nat.le_refl _, Nat.zero_le _⟩, hcan, hb⟩
    · obtain ⟨b1, off1, rfl, hlt1, hT1⟩ := hp1 h0
      obtain ⟨b2, off2, rfl, hlt2, hT2⟩ := hp2 h2
      have hl := canon_len c2 K hx
      refine (prod_gen_some b1 off1 cap1 b2 off2 cap2 l1 l2 w hm1 hs1 (by omega) (fun t ht => ?_) (fun i k hi hk => row_gen hm1 hs1 c2 H K hH hK hf hx i k hi hk) hlt1 hT1 hlt2 hT2).mono ?_
      · have h1 := (c2.2 t.1 t.2).1 ht
        have h3 := hf t.1
        have h4 := hx t.1 (by rw [h1.1]; exact h1.2)
        rw [h1.1] at h3
        omega
      · rintro e w' ⟨v, rfl, hP, hb⟩
        exact ⟨v, _, rfl, hP, hcan, hb⟩
end Go.Proofs.Ytajmogojekichaa.Poly
/- Tables whose rows have their lengths within their capacities; rows that a call itself owns. -/
namespace Go.Proofs.Ytajmogojekichaa.Poly
open Go.RowKit Go.Maps

theorem infoPoly : (Try.prog.info? 63).map (fun i => (i.zero, i.size, i.bytes)) = some (some (.slice none 0 0), 1, 24) := by kernel_rfl
theorem infoRow : (Try.prog.info? 130).map (fun i => (i.zero, i.size, i.bytes)) = some (some (.slice none 0 0), 1, 24) := by kernel_rfl

/-- A table of polynomials, the rows' lengths within their capacities. -/
def TableC (w : World) (B : Nat) (v : Value) (T : List (List (List (Int × Int)))) : Prop :=
  ∃ (rs : List Value) (pss : Nat → List Value), rs.length = T.length ∧ Slots w B v rs ∧
    ∀ i, i < T.length → (pss i).length = (T.getD i []).length ∧ Slots w B (rs.getD i (.bool false)) (pss i) ∧ (∃ a n c, rs.getD i (.bool false) = .slice a n c ∧ n ≤ c ∧ c ≤ maxLen) ∧
      ∀ j, j < (T.getD i []).length → Poly w B ((pss i).getD j (.bool false)) ((T.getD i []).getD j [])

theorem TableC.table {w : World} {B : Nat} {v : Value} {T : List (List (List (Int × Int)))} (h : TableC w B v T) : Table w B v T := by
  obtain ⟨rs, pss, h1, h2, h3⟩ := h
  exact ⟨rs, h1, h2, fun i hi => ⟨pss i, (h3 i hi).1, (h3 i hi).2.1, (h3 i hi).2.2.2⟩⟩
theorem TableC.on {w w' : World} {B : Nat} {v : Value} {T : List (List (List (Int × Int)))} (h : TableC w B v T) (hb : Below B w w') : TableC w' B v T := by
  obtain ⟨rs, pss, h1, h2, h3⟩ := h
  exact ⟨rs, pss, h1, h2.on hb, fun i hi => ⟨(h3 i hi).1, (h3 i hi).2.1.on hb, (h3 i hi).2.2.1, fun j hj => ((h3 i hi).2.2.2 j hj).on hb⟩⟩
theorem TableC.mono {w : World} {B B' : Nat} {v : Value} {T : List (List (List (Int × Int)))} (h : TableC w B v T) (hB : B ≤ B') : TableC w B' v T := by
  obtain ⟨rs, pss, h1, h2, h3⟩ := h
  exact ⟨rs, pss, h1, h2.mono hB, fun i hi => ⟨(h3 i hi).1, (h3 i hi).2.1.mono hB, (h3 i hi).2.2.1, fun j hj => ((h3 i hi).2.2.2 j hj).mono hB⟩⟩
theorem TableC.up {w w' : World} {v : Value} {T : List (List (List (Int × Int)))} (h : TableC w w.heap.size v T) (hb : Below w.heap.size w w') : TableC w' w'.heap.size v T := (h.on hb).mono hb.size

theorem slots_of_own {w : World} {B e n : Nat} {v : Value} {xs : List Value} (h : w.ownsRow B e 1 v n xs) : Slots w w.heap.size v xs := by
  have hl : xs.length = n := by simpa using h.1
  rcases h.2 with ⟨rfl, h0⟩ | ⟨g, cap, cur, rfl, _, hg, _, _, _, _⟩
  · refine ⟨none, 0, by rw [hl, h0], fun hp => by omega⟩
  · refine ⟨some ⟨g, 0, none⟩, cap, by rw [hl], fun _ => ⟨g, 0, rfl, (h.lt g rfl).2, fun i hi => ?_⟩⟩
    rw [Nat.zero_add, h.cellAt i (by omega), List.getD, List.getElem?_eq_getElem hi]
    rfl
theorem own_cap {w : World} {B e n : Nat} {v : Value} {xs : List Value} (h : w.ownsRow B e 1 v n xs) : ∃ a n c, v = .slice a n c ∧ n ≤ c ∧ c ≤ maxLen := by
  rcases h.2 with ⟨rfl, h0⟩ | ⟨g, cap, cur, rfl, _, _, h1, h2, _⟩
  · exact ⟨none, 0, 0, rfl, Nat.le_refl _, Nat.zero_le _⟩
  · exact ⟨_, _, _, rfl, h1, h2⟩
theorem own_one {w : World} {B e n : Nat} {v : Value} {xs : List Value} (h : w.ownsRow B e 1 v n xs) : ∀ u ∈ [v], u.oneCell' = true := by
  obtain ⟨a, n, c, rfl, _⟩ := own_cap h
  intro u hu
  simp only [List.mem_singleton] at hu
  subst hu
  rfl
theorem own_low {w : World} {B B' e s n : Nat} {v : Value} {xs : List Value} (h : w.ownsRow B e s v n xs) (hB : B' ≤ B) : w.ownsRow B' e s v n xs := by
  refine ⟨h.1, ?_⟩
  rcases h.2 with h1 | ⟨g, cap, cur, h1, h2, h3⟩
  · exact Or.inl h1
  · exact Or.inr ⟨g, cap, cur, h1, Nat.le_trans hB h2, h3⟩
/-- Rows of different element types lie in different blocks. -/
theorem own_ne {w : World} {B B' e e' s s' n n' : Nat} {v v' : Value} {xs xs' : List Value} (h : w.ownsRow B e s v n xs) (h' : w.ownsRow B' e' s' v' n' xs') (he : e ≠ e') : v.ownBlock = none ∨ v.ownBlock ≠ v'.ownBlock := by
  rcases h.2 with ⟨rfl, _⟩ | ⟨g, cap, cur, rfl, _, hg, _⟩
  · exact Or.inl rfl
  · right
    rcases h'.2 with ⟨rfl, _⟩ | ⟨g', cap', cur', rfl, _, hg', _⟩
    · simp [Value.ownBlock]
    · simp only [Value.ownBlock]
      intro e0
      have e1 := Option.some.inj e0
      subst e1
      rw [hg] at hg'
      injection hg' with h1
      injection h1 with h2 h3
      exact he h3
theorem new_cell1 (W : World) (x : Value) (e : TypeId) : ∀ j u, [x][j]? = some u → (W.alloc (.cells #[x] e)).cell? ((⟨W.heap.size, 0, none⟩ : Addr).add j) = some u := by
  intro j u hj
  rw [Addr.add_lit, Nat.zero_add]
  have hh : (W.alloc (.cells #[x] e)).heap[W.heap.size]? = some (.cells #[x] e (0, 0)) := Array.getElem?_push_size
  match j, hj with
  | 0, hj => simp at hj; subst hj; unfold World.cell?; rw [hh]; rfl

theorem slots_take {w : World} {b off n : Nat} {ps : List Value} (h : ∀ i, i < n → w.cell? ⟨b, off + i, none⟩ = some (ps.getD i (.bool false))) (hl : ps.length = n) (c : Nat) : ∀ j u, (ps.take c)[j]? = some u → w.cell? ((⟨b, off, none⟩ : Addr).add j) = some u := by
  intro j u hu
  rw [List.getElem?_take] at hu
  split at hu
  · have hj : j < ps.length := by
      rcases Nat.lt_or_ge j ps.length with h1 | h1
      · exact h1
      · rw [List.getElem?_eq_none h1] at hu; cases hu
    have := h j (by omega)
    rw [List.getD, hu] at this
    rw [Addr.add_lit]
    exact this
  · cases hu
theorem slots_drop {w : World} {b off n : Nat} {ps : List Value} (h : ∀ i, i < n → w.cell? ⟨b, off + i, none⟩ = some (ps.getD i (.bool false))) (hl : ps.length = n) (c : Nat) : ∀ j u, (ps.drop c)[j]? = some u → w.cell? ((⟨b, off + c, none⟩ : Addr).add j) = some u := by
  intro j u hu
  rw [List.getElem?_drop] at hu
  have hj : c + j < ps.length := by
    rcases Nat.lt_or_ge (c + j) ps.length with h1 | h1
    · exact h1
    · rw [List.getElem?_eq_none h1] at hu; cases hu
  have := h (c + j) (by omega)
  rw [List.getD, hu] at this
  rw [← Nat.add_assoc] at this
  rw [Addr.add_lit]
  exact this

theorem good_less' {T : List (List (List (Int × Int)))} {n c : Nat} (h : GoodT T (n + 1)) (hc : c < n + 1) : GoodT (lessOf T c) n := by
  cases T with
  | nil => have := h.1; simp at this
  | cons R T => exact good_less h hc
theorem part_all' {T : List (List (List (Int × Int)))} {n : Nat} (h : T.length = n + 1) (y : Int) : partOf T (n + 1) y = detOf T y := by
  cases T with
  | nil => simp at h
  | cons R T =>
    have e : T.length = n := by simpa using h
    subst e
    exact part_all R T y
theorem less_at {T : List (List (List (Int × Int)))} (c i : Nat) (hi : i + 1 < T.length) : (lessOf T c).getD i [] = (T.getD (i + 1) []).eraseIdx c := by
  cases T with
  | nil => simp at hi
  | cons R T =>
    simp only [List.length_cons] at hi
    have hi2 : i < T.length := by omega
    simp [lessOf, List.getD, hi2]
theorem part_next (T : List (List (List (Int × Int)))) (m : Nat) (y : Int) : partOf T (m + 1) y = partOf T m y + sgn m * prodL ((T.getD 0 []).getD m []) (detOf (lessOf T m)) y := rfl
theorem canon_one : Canon [((0 : Int), (1 : Int))] (detOf []) := by
  refine ⟨List.pairwise_singleton _ _, fun x c => ?_⟩
  have e : detOf [] x = oneF x := rfl
  rw [e]
  unfold oneF
  simp only [List.mem_singleton, Prod.mk.injEq]
  constructor
  · rintro ⟨rfl, rfl⟩; simp
  · rintro ⟨h1, h2⟩
    by_cases h0 : x = 0
    · rw [if_pos h0] at h1; exact ⟨h0, h1.symm⟩
    · rw [if_neg h0] at h1; exact absurd h1.symm h2
theorem canon_zero : Canon [] (fun _ => 0) := ⟨List.Pairwise.nil, fun x c => by simp; omega⟩

/-- What the loop has built is the table without the first row and the column. -/
theorem less_table {w w' : World} {T : List (List (List (Int × Int)))} {n c B : Nat} {v : Value} {zs : List Value} {pss : Nat → List Value} (hT : GoodT T (n + 1)) (hc : c < n + 1) (hz : zs.length = n) (hown : w'.ownsRow B 130 1 v zs.length zs)
    (hps : ∀ i, i < n + 1 → (pss i).length = n + 1 ∧ ∀ j, j < n + 1 → Poly w w.heap.size ((pss i).getD j (.bool false)) ((T.getD i []).getD j []))
    (hrows : ∀ i, i < zs.length → w'.ownsRow B 63 1 (zs.getD i (.bool false)) n ((pss (i + 1)).eraseIdx c)) (hb : Below w.heap.size w w') : TableC w' w'.heap.size v (lessOf T c) := by
  have hg := good_less' hT hc
  refine ⟨zs, fun i => (pss (i + 1)).eraseIdx c, by rw [hz, hg.1], slots_of_own hown, fun i hi => ?_⟩
  rw [hg.1] at hi
  have hr := hrows i (by omega)
  have hTl := hT.1
  have e := less_at (T := T) c i (by omega)
  have hle : ((T.getD (i + 1) []).eraseIdx c).length = n := by
    have := (hT.2 _ (getD_mem T (i + 1) [] (by omega))).1
    rw [List.length_eraseIdx, if_pos (by omega)]
    omega
  have hpl : ((pss (i + 1)).eraseIdx c).length = n := by simpa using hr.1
  rw [e]
  refine ⟨by rw [hpl, hle], slots_of_own hr, own_cap hr, fun j hj => ?_⟩
  rw [hle] at hj
  rw [erase_skip, erase_skip]
  have hs : skip c j < n + 1 := by unfold skip; split <;> omega
  exact (((hps (i + 1) (by omega)).2 _ hs).on hb).mono hb.size
end Go.Proofs.Ytajmogojekichaa.Poly
/- The walk of ref.Determinant, by recursion on the table's side. -/
namespace Go.Proofs.Ytajmogojekichaa.Poly
open Go.RowKit Go.Maps

set_option maxHeartbeats 1000000 in
set_option maxRecDepth 100000 in
theorem det21_zero (a : Option Addr) (cap : Nat) (w : World) :
    Calls Try.prog 96 #[.slice a 0 cap] w fun e w' => ∃ v l, e = .returned v ∧ PolyC w' w'.heap.size v l ∧ Canon l (detOf []) ∧ Below w.heap.size w w' := by
  go_enter Try.func96, Try.ntmps96
  go_wp2
  go_ret
  exact ⟨.slice (some ⟨w.heap.size, 0, none⟩) 1 1, [(0, 1)], rfl, PolyC.ofRow (base := w.heap.size) (World.ownsRow_lit w #[.int .i64 0, .int .i64 1] 1 (Nat.le_refl _) (by unfold maxLen; omega) rfl), canon_one, ((Below.refl _ _).alloc (Nat.le_refl _) _)⟩

/-- What the contract says of a table of side n. -/
def Det21 (n : Nat) : Prop := ∀ (v : Value) (T : List (List (List (Int × Int)))) (w : World), GoodT T n → TableC w w.heap.size v T →
  Calls Try.prog 96 #[v] w fun e w' => ∃ v' l, e = .returned v' ∧ PolyC w' w'.heap.size v' l ∧ Canon l (detOf T) ∧ Below w.heap.size w w'

set_option maxHeartbeats 8000000 in
set_option maxRecDepth 100000 in
theorem det21_next (n : Nat) (hn : n < 10) (ih : Det21 n) : Det21 (n + 1) := by
  intro v T w hT h
  obtain ⟨i1, hi, hz0, hz1, hz2⟩ := info_parts infoPoly
  obtain ⟨i2, hj, hy0, hy1, hy2⟩ := info_parts infoRow
  obtain ⟨rs, pss, hrl, ⟨a, cap, rfl, g⟩, hR⟩ := h
  have hTl := hT.1
  rw [hTl] at hrl
  rw [hrl] at g ⊢
  obtain ⟨b, off, rfl, hbw, hc⟩ := g (by omega)
  have HIH : Hid (Det21 n) := ih
  have HGT : Hid (GoodT T (n + 1)) := hT
  have HC : Hid (∀ i, i < n + 1 → w.cell? ⟨b, off + i, none⟩ = some (rs.getD i (.bool false))) := hc
  have HRW : Hid (∀ i, i < n + 1 → ∃ br offr capr, rs.getD i (.bool false) = .slice (some ⟨br, offr, none⟩) (n + 1) capr ∧ n + 1 ≤ capr ∧ capr ≤ maxLen ∧ br < w.heap.size ∧ (pss i).length = n + 1 ∧ ∀ j, j < n + 1 → w.cell? ⟨br, offr + j, none⟩ = some ((pss i).getD j (.bool false))) := fun i hi => by
    obtain ⟨h1, ⟨a2, cap2, hv2, g2⟩, ⟨a3, n3, c3, hv3, h3, h4⟩, h5⟩ := hR i (by omega)
    have hTi : (T.getD i []).length = n + 1 := (hT.2 _ (getD_mem T i [] (by omega))).1
    rw [hTi] at h1
    rw [h1] at hv2 g2
    obtain ⟨b2, off2, rfl, hb2, hc2⟩ := g2 (by omega)
    rw [hv2] at hv3
    injection hv3 with e1 e2 e3
    exact ⟨b2, off2, cap2, hv2, by omega, by omega, hb2, h1, hc2⟩
  have HPS : Hid (∀ i, i < n + 1 → (pss i).length = n + 1 ∧ ∀ j, j < n + 1 → Poly w w.heap.size ((pss i).getD j (.bool false)) ((T.getD i []).getD j [])) := fun i hi => by
    obtain ⟨h1, _, _, h5⟩ := hR i (by omega)
    have hTi : (T.getD i []).length = n + 1 := (hT.2 _ (getD_mem T i [] (by omega))).1
    rw [hTi] at h1 h5
    exact ⟨h1, h5⟩
  clear hR hc g hT hTl hrl ih
  have h11 : ((n : Int) + 1 == 0) = false := by rw [beq_eq_false_iff_ne]; omega
  go_enter Try.func96, Try.ntmps96
  go_wp2
  go_loopw [3, 4, 5] (fun vo s i wr => ∃ (c : Nat) (lo : List (Int × Int)), c ≤ n + 1 ∧ i = .int .i64 c ∧ s = .int .i64 (sgn c) ∧ Hid (PolyC wr wr.heap.size vo lo) ∧ Hid (Canon lo (partOf T c)) ∧ Below w.heap.size w wr) (fun _ _ i _ => n + 1 - (intOf i).toNat)
  case atStart => exact ⟨0, [], Nat.zero_le _, rfl, rfl, ⟨Or.inl ⟨rfl, rfl⟩, none, 0, 0, rfl, Nat.le_refl _, Nat.zero_le _⟩, canon_zero, Below.refl _ _⟩
  case round =>
    rename World => W1
    obtain ⟨c, lo, hc, rfl, rfl, hP, hCan, hb⟩ := hrel
    by_cases hlt : c < n + 1
    · have hszW := hb.size
      obtain ⟨b0, off0, cap0, hv0, hcp0, hcm0, hb0, hpl0, hcl0⟩ := HRW.out 0 (by omega)
      have c0 := bcell hb hbw (HC.out 0 (by omega))
      rw [hv0, Nat.add_zero] at c0
      have c1 := bcell hb hb0 (hcl0 c hlt)
      have hbr : b < W1.heap.size := Nat.lt_of_lt_of_le hbw hszW
      have hbr0 : b0 < W1.heap.size := Nat.lt_of_lt_of_le hb0 hszW
      have HCL0 : Hid (w.cell? ⟨b0, off0 + c, none⟩ = some ((pss 0).getD c (.bool false))) := hcl0 c hlt
      have HC0 : Hid (w.cell? ⟨b, off, none⟩ = some (.slice (some ⟨b0, off0, none⟩) (n + 1) cap0)) := (by have := HC.out 0 (by omega); rw [hv0, Nat.add_zero] at this; exact this : w.cell? ⟨b, off, none⟩ = some (.slice (some ⟨b0, off0, none⟩) (n + 1) cap0))
      have HQ : Hid (Poly w w.heap.size ((pss 0).getD c (.bool false)) ((T.getD 0 []).getD c [])) := (HPS.out 0 (by omega)).2 c hlt
      have HGD : Hid (mayB ((T.getD 0 []).getD c []) = true ∧ sizeL ((T.getD 0 []).getD c []) ≤ 4) := good_at HGT.out (by omega) hlt
      have HPN : Hid (∀ y, partOf T (c + 1) y = partOf T c y + sgn c * prodL ((T.getD 0 []).getD c []) (detOf (lessOf T c)) y) := fun y => part_next T c y
      clear hv0 hcp0 hcm0 hpl0 hcl0
      generalize (pss 0).getD c (.bool false) = pv at c1 HQ HCL0
      generalize (T.getD 0 []).getD c [] = l at HQ HGD HPN
      have hsg := sgn_one c
      have hsw : IntKind.i64.wrap (-sgn c) = -sgn c := IntWalk.i64_in _ (by omega)
      have HSG : Hid (sgn c = 1 ∨ sgn c = -1) := hsg
      have HSN : Hid (sgn (c + 1) = -sgn c) := (rfl : sgn (c + 1) = -sgn c)
      generalize sgn c = sg at hsg hsw HSG HSN HPN
      obtain ⟨al, capl, rfl, hal⟩ := HQ.out.slice
      have hl64 := ((may_iff l).1 HGD.out.1).1
      clear hal hsg
      by_cases hl0 : l.length = 0
      · have e0 : l = [] := List.length_eq_zero_iff.1 hl0
        subst e0
        have hd : decide (0 < (([] : List (Int × Int)).length : Int)) = false := by simp
        go_wp2
        go_roundw
        case rel =>
          refine ⟨c + 1, lo, by omega, by go_num, by rw [HSN.out], hP, ?_, hb⟩
          exact canon_congr hCan.out fun y => by rw [HPN.out]; simp [prodL]
        case measure => simp only [intOf]; omega
      · have hd : decide (0 < (l.length : Int)) = true := by simp; omega
        have hd2 : decide (0 < l.length) = true := by simp; omega
        have hd3 : decide ((c : Int) < (n : Int) + 1) = true := by simp; omega
        have HP : Hid (PolyC W1 W1.heap.size _ lo) := hP
        have HCN : Hid (Canon lo (partOf T c)) := hCan
        have HBW : Hid (Below w.heap.size w W1) := hb
        go_wp2
        clear c0 c1 hP hCan
        go_loopw [6, 7] (fun vl i ws => ∃ (r : Nat) (zs : List Value), 1 ≤ r ∧ r ≤ n + 1 ∧ i = .int .i64 r ∧ zs.length + 1 = r ∧ ws.ownsRow W1.heap.size 130 1 vl zs.length zs ∧
            Hid (∀ i, i < zs.length → ws.ownsRow W1.heap.size 63 1 (zs.getD i (.bool false)) n ((pss (i + 1)).eraseIdx c)) ∧ Below W1.heap.size W1 ws) (fun _ i _ => n + 1 - (intOf i).toNat)
        case atStart => exact ⟨1, [], Nat.le_refl _, by omega, rfl, rfl, World.ownsRow_nil _ _ _ _, fun i hi => absurd hi (Nat.not_lt_zero _), Below.refl _ _⟩
        case round =>
          clear hb
          rename World => W2
          obtain ⟨r, zs, hr1, hrn, rfl, hzl, hown, hrows, hb⟩ := hrel
          by_cases hrl : r < n + 1
          · obtain ⟨br, offr, capr, hvr, hcpr, hcmr, hbrw, hplr, hclr⟩ := HRW.out r hrl
            have hszX := hb.size
            have HB2 : Hid (Below w.heap.size w W2) := HBW.out.trans (hb.mono hszW)
            have c0 := bcell HB2.out hbw (HC.out r hrl)
            rw [hvr] at c0
            have hbr2 : b < W2.heap.size := by omega
            have HSL : Hid (∀ j, j < n + 1 → W2.cell? ⟨br, offr + j, none⟩ = some ((pss r).getD j (.bool false))) := fun j hj => bcell HB2.out hbrw (hclr j hj)
            have HPL : Hid ((pss r).length = n + 1) := hplr
            have HTL : Hid (((pss r).take c).length = c * 1) := (by rw [List.length_take, HPL.out]; omega : ((pss r).take c).length = c * 1)
            have HDL : Hid (((pss r).drop (c + 1)).length = (n - c) * 1) := (by rw [List.length_drop, HPL.out]; omega : ((pss r).drop (c + 1)).length = (n - c) * 1)
            have HON : Hid (∀ u ∈ pss r, u.oneCell' = true) := fun u hu => by
              obtain ⟨q, hq, rfl⟩ := List.getElem_of_mem hu
              have h1 := (HPS.out r hrl).2 q (by omega)
              obtain ⟨a9, c9, e9, _⟩ := h1.slice
              have e : (pss r).getD q (.bool false) = (pss r)[q] := by simp [List.getD, hq]
              rw [← e, e9]
              rfl
            have hcapr : capr ≤ 9223372036854775807 := hcmr
            clear hvr hplr hclr hcmr
            go_wp2_with (first
              | (at_builtin; refine wpList_append_own _ rfl _ _ 130 rfl W2.heap.size 63 i1 (.slice none 0 0) 1 24 Try.underlying130 hi hz0 hz1 hz2 rfl (by decide) _ 0 [] rfl (World.ownsRow_nil _ _ _ _) ⟨br, offr, none⟩ c _ ((pss r).take c) rfl HTL.out (slots_take HSL.out HPL.out c) (fun u hu => HON.out u (List.mem_of_mem_take hu)) (by unfold maxLen; omega) (by omega) (Nat.le_refl _) ?_; intro v1 w1 hown1 hg1 _; refine Hid.out ?_))
            refine Lib.hid ?_
            rw [Nat.zero_add, List.nil_append] at hown1
            have hnx1 : Below W2.heap.size W2 w1 := (Below.refl _ _).grown hg1 (Nat.le_refl _) (fun q hq => by cases hq)
            have hs1 := hnx1.size
            have HB3 : Hid (Below w.heap.size w w1) := HB2.out.trans (hnx1.mono (by omega))
            have c2 : w1.cell? ⟨b, off + r, none⟩ = some (.slice (some ⟨br, offr, none⟩) (n + 1) capr) := bcell hnx1 hbr2 c0
            have hbr3 : b < w1.heap.size := by omega
            have HSL3 : Hid (∀ j, j < n + 1 → w1.cell? ⟨br, offr + j, none⟩ = some ((pss r).getD j (.bool false))) := fun j hj => bcell hnx1 (by omega) (HSL.out j hj)
            have HNX1 : Hid (Below W2.heap.size W2 w1) := hnx1
            clear hg1 hnx1 c0
            by_cases hkc : capr = c + 1
            · have hlk : n - c = 0 := by omega
              have hdr : Hid ((pss r).drop (c + 1) = []) := List.drop_eq_nil_of_le (by rw [HPL.out]; omega)
              go_wp2_with (first
                | (at_builtin; refine wpList_append_own _ rfl _ _ 130 rfl W2.heap.size 63 i1 (.slice none 0 0) 1 24 Try.underlying130 hi hz0 hz1 hz2 rfl (by decide) _ _ _ rfl hown1 ⟨br, offr, none⟩ 0 _ [] rfl rfl (fun j u h => by simp at h) (fun u h => by simp at h) (by unfold maxLen; omega) (by omega) (by omega) ?_; intro v2 w2 hown2 hg2 _; refine Hid.out ?_))
              refine Lib.hid ?_
              have hown2' : w2.ownsRow W2.heap.size 63 1 v2 n ((pss r).eraseIdx c) := by
                rw [List.eraseIdx_eq_take_drop_succ, hdr.out]
                exact (by omega : c + 0 = n) ▸ hown2
              have hnx2 : Below W2.heap.size W2 w2 := HNX1.out.grown hg2 hs1 (fun q hq => (hown1.lt q hq).1)
              have hs2 := hnx2.size
              have hgx : W2.grownBy w2 none := grown_below hnx2 none
              have hown6 := hown.kept hgx (by cases hv : Value.ownBlock _ with | none => exact Or.inl rfl | some q => exact Or.inr (by simp))
              have hrows6 : ∀ i, i < zs.length → w2.ownsRow W1.heap.size 63 1 (zs.getD i (.bool false)) n ((pss (i + 1)).eraseIdx c) := fun i hi => (hrows.out i hi).kept hgx (by cases hv : Value.ownBlock _ with | none => exact Or.inl rfl | some q => exact Or.inr (by simp))
              have HR6 : Hid (∀ i, i < zs.length → w2.ownsRow W1.heap.size 63 1 (zs.getD i (.bool false)) n ((pss (i + 1)).eraseIdx c)) := hrows6
              have HO2 : Hid (w2.ownsRow W1.heap.size 63 1 v2 n ((pss r).eraseIdx c)) := own_low hown2' hszX
              have HON2 : Hid (∀ u ∈ [v2], u.oneCell' = true) := own_one hown2'
              obtain ⟨a5, n5, c5, hv5, -, -⟩ := own_cap hown2'
              subst hv5
              have HBX : Hid (Below W1.heap.size W1 w2) := hb.trans (hnx2.mono hszX)
              clear hrows hrows6 hown2 hown2' hg2 hnx2 hgx hown hown1 c2
              go_wp2_with (first
                | (at_builtin; refine wpList_append_own _ rfl _ _ 120 rfl W1.heap.size 130 i2 (.slice none 0 0) 1 24 Try.underlying120 hj hy0 hy1 hy2 rfl (by decide) _ _ _ rfl (hown6.alloc _) ⟨w2.heap.size, 0, none⟩ 1 1 [Value.slice a5 n5 c5] rfl rfl (new_cell1 _ _ _) HON2.out (by unfold maxLen; omega) (by omega) (by simp; omega) ?_; intro v3 w3 hown3 hg3 _; go_frame))
              go_roundw
              case rel =>
                have hO2a := HO2.out.alloc (.cells #[Value.slice a5 n5 c5] 130)
                refine ⟨r + 1, zs ++ [Value.slice a5 n5 c5], by omega, by omega, by go_num, by simp; omega, by rw [List.length_append]; exact hown3, fun i hi => ?_, (HBX.out.alloc (by omega) _).grown hg3 (by simp; omega) (fun q hq => (hown6.lt q hq).1)⟩
                rw [List.length_append, List.length_singleton] at hi
                by_cases hiz : i < zs.length
                · have e : (zs ++ [Value.slice a5 n5 c5]).getD i (.bool false) = zs.getD i (.bool false) := by simp [List.getD, List.getElem?_append_left hiz]
                  rw [e]
                  have h1 := (HR6.out i hiz).alloc (.cells #[Value.slice a5 n5 c5] 130)
                  exact h1.kept hg3 (own_ne h1 (hown6.alloc _) (by decide))
                · obtain rfl : i = zs.length := by omega
                  have e : (zs ++ [Value.slice a5 n5 c5]).getD zs.length (.bool false) = Value.slice a5 n5 c5 := by simp [List.getD]
                  rw [e, hzl]
                  exact hO2a.kept hg3 (own_ne hO2a (hown6.alloc _) (by decide))
              case measure => simp only [intOf]; omega
            · go_wp2_with (first
                | (at_builtin; refine wpList_append_own _ rfl _ _ 130 rfl W2.heap.size 63 i1 (.slice none 0 0) 1 24 Try.underlying130 hi hz0 hz1 hz2 rfl (by decide) _ _ _ rfl hown1 ⟨br, offr + (c + 1), none⟩ (n - c) _ ((pss r).drop (c + 1)) rfl HDL.out (slots_drop HSL3.out HPL.out (c + 1)) (fun u hu => HON.out u (List.mem_of_mem_drop hu)) (by unfold maxLen; omega) (by omega) (by omega) ?_; intro v2 w2 hown2 hg2 _; refine Hid.out ?_))
              refine Lib.hid ?_
              have hown2' : w2.ownsRow W2.heap.size 63 1 v2 n ((pss r).eraseIdx c) := by
                rw [List.eraseIdx_eq_take_drop_succ]
                exact (by omega : c + (n - c) = n) ▸ hown2
              have hnx2 : Below W2.heap.size W2 w2 := HNX1.out.grown hg2 hs1 (fun q hq => (hown1.lt q hq).1)
              have hs2 := hnx2.size
              have hgx : W2.grownBy w2 none := grown_below hnx2 none
              have hown6 := hown.kept hgx (by cases hv : Value.ownBlock _ with | none => exact Or.inl rfl | some q => exact Or.inr (by simp))
              have hrows6 : ∀ i, i < zs.length → w2.ownsRow W1.heap.size 63 1 (zs.getD i (.bool false)) n ((pss (i + 1)).eraseIdx c) := fun i hi => (hrows.out i hi).kept hgx (by cases hv : Value.ownBlock _ with | none => exact Or.inl rfl | some q => exact Or.inr (by simp))
              have HR6 : Hid (∀ i, i < zs.length → w2.ownsRow W1.heap.size 63 1 (zs.getD i (.bool false)) n ((pss (i + 1)).eraseIdx c)) := hrows6
              have HO2 : Hid (w2.ownsRow W1.heap.size 63 1 v2 n ((pss r).eraseIdx c)) := own_low hown2' hszX
              have HON2 : Hid (∀ u ∈ [v2], u.oneCell' = true) := own_one hown2'
              obtain ⟨a5, n5, c5, hv5, -, -⟩ := own_cap hown2'
              subst hv5
              have HBX : Hid (Below W1.heap.size W1 w2) := hb.trans (hnx2.mono hszX)
              clear hrows hrows6 hown2 hown2' hg2 hnx2 hgx hown hown1 c2
              go_wp2_with (first
                | (at_builtin; refine wpList_append_own _ rfl _ _ 120 rfl W1.heap.size 130 i2 (.slice none 0 0) 1 24 Try.underlying120 hj hy0 hy1 hy2 rfl (by decide) _ _ _ rfl (hown6.alloc _) ⟨w2.heap.size, 0, none⟩ 1 1 [Value.slice a5 n5 c5] rfl rfl (new_cell1 _ _ _) HON2.out (by unfold maxLen; omega) (by omega) (by simp; omega) ?_; intro v3 w3 hown3 hg3 _; go_frame))
              go_roundw
              case rel =>
                have hO2a := HO2.out.alloc (.cells #[Value.slice a5 n5 c5] 130)
                refine ⟨r + 1, zs ++ [Value.slice a5 n5 c5], by omega, by omega, by go_num, by simp; omega, by rw [List.length_append]; exact hown3, fun i hi => ?_, (HBX.out.alloc (by omega) _).grown hg3 (by simp; omega) (fun q hq => (hown6.lt q hq).1)⟩
                rw [List.length_append, List.length_singleton] at hi
                by_cases hiz : i < zs.length
                · have e : (zs ++ [Value.slice a5 n5 c5]).getD i (.bool false) = zs.getD i (.bool false) := by simp [List.getD, List.getElem?_append_left hiz]
                  rw [e]
                  have h1 := (HR6.out i hiz).alloc (.cells #[Value.slice a5 n5 c5] 130)
                  exact h1.kept hg3 (own_ne h1 (hown6.alloc _) (by decide))
                · obtain rfl : i = zs.length := by omega
                  have e : (zs ++ [Value.slice a5 n5 c5]).getD zs.length (.bool false) = Value.slice a5 n5 c5 := by simp [List.getD]
                  rw [e, hzl]
                  exact hO2a.kept hg3 (own_ne hO2a (hown6.alloc _) (by decide))
              case measure => simp only [intOf]; omega
          · obtain rfl : r = n + 1 := by omega
            have hszX := hb.size
            have HB2 : Hid (Below w.heap.size w W2) := HBW.out.trans (hb.mono hszW)
            have HLT := less_table HGT.out hlt (by omega) hown HPS.out hrows.out HB2.out
            have HLT2 : Hid (TableC W2 W2.heap.size _ (lessOf T c)) := HLT
            have c0 := bcell HB2.out hbw HC0.out
            have c1 := bcell HB2.out hb0 HCL0.out
            have hbr2 : b < W2.heap.size := by omega
            have hb02 : b0 < W2.heap.size := by omega
            have HP2 : Hid (PolyC W2 W2.heap.size u3 lo) := HP.out.up hb
            have HGL : Hid (GoodT (lessOf T c) n) := good_less' HGT.out hlt
            have HDA : Hid (∀ x, (detOf (lessOf T c) x).natAbs ≤ bd n) := fun x => det_abs HGL.out (by omega) x
            have HDS : Hid (∀ x, detOf (lessOf T c) x ≠ 0 → -((1000 * n : Nat) : Int) ≤ x ∧ x ≤ ((1000 * n : Nat) : Int)) := fun x hx => by have := det_supp n _ HGL.out x hx; omega
            have HBD : Hid (bd n ≤ 2000000000000) := (bd_le n (by omega)).2 (by omega)
            have HMN : Hid ((((c * (4 * bd n) : Nat) : Int)) + ((4 * bd n : Nat) : Int) ≤ 1000000000000000) := (by
              have h1 := (bd_le (n + 1) (by omega)).1
              have h2 : (c + 1) * (4 * bd n) ≤ (n + 1) * (4 * bd n) := Nat.mul_le_mul_right _ (by omega)
              have h3 : bd (n + 1) = (n + 1) * (4 * bd n) := rfl
              rw [Nat.add_mul c] at h2
              omega : (((c * (4 * bd n) : Nat) : Int)) + ((4 * bd n : Nat) : Int) ≤ 1000000000000000)
            have HFA : Hid (∀ x, -((c * (4 * bd n) : Nat) : Int) ≤ partOf T c x ∧ partOf T c x ≤ ((c * (4 * bd n) : Nat) : Int)) := fun x => by
              have := detPart_abs HGT.out (by omega) c (by omega) x
              omega
            have HFS : Hid (∀ x, partOf T c x ≠ 0 → -((1000 * (n + 1) : Nat) : Int) ≤ x ∧ x ≤ ((1000 * (n + 1) : Nat) : Int)) := fun x hx => by
              have := detPart_supp HGT.out c (by omega) x hx
              omega
            have HGA : Hid (∀ x, -((4 * bd n : Nat) : Int) ≤ prodL l (detOf (lessOf T c)) x ∧ prodL l (detOf (lessOf T c)) x ≤ ((4 * bd n : Nat) : Int)) := fun x => by
              have := prodL_100 l HGD.out.2 (detOf (lessOf T c)) (bd n) HDA.out x
              omega
            have HGS : Hid (∀ x, prodL l (detOf (lessOf T c)) x ≠ 0 → -((1000 * (n + 1) : Nat) : Int) ≤ x ∧ x ≤ ((1000 * (n + 1) : Nat) : Int)) := fun x hx => by
              have := prodL_supp l _ _ x (may_exps HGD.out.1) HDS.out hx
              omega
            clear HLT hown hrows
            go_wp2
            go_region_with (first
              | (go_at_call 96; refine (HIH.out _ (lessOf T c) _ HGL.out (HLT2.out.up (Below.refl _ _).drew)).mono ?_; rintro r1 w3 ⟨vd, ld, rfl, hPd, hcd, hb3⟩
                 have hs3 : W2.heap.size ≤ w3.heap.size := hb3.size
                 have HB3 : Hid (Below w.heap.size w w3) := HB2.out.drew.trans (hb3.mono (Nat.le_trans hszW hszX))
                 have c03 := bcell HB3.out hbw HC0.out
                 have c13 := bcell HB3.out hb0 HCL0.out
                 have HPd : Hid (PolyC w3 w3.heap.size vd ld) := hPd
                 have HCd : Hid (Canon ld (detOf (lessOf T c))) := hcd
                 have HP3 : Hid (PolyC w3 w3.heap.size u3 lo) := (HP2.out.up (Below.refl _ _).drew).up hb3
                 have HQ3 : Hid (Poly w3 w3.heap.size (.slice al l.length capl) l) := (HQ.out.on HB3.out).mono HB3.out.size
                 clear hPd hcd hb3)
              | (go_at_call 144; refine (prod_gen _ vd l ld (detOf (lessOf T c)) _ HGD.out.1 HGD.out.2 HCd.out (bd n) (1000 * n) HBD.out (by omega) HDA.out HDS.out HQ3.out HPd.out.1).mono ?_; rintro r1 w4 ⟨vp, lp, rfl, hPp, hcp, hb4⟩
                 have hs4 : w3.heap.size ≤ w4.heap.size := hb4.size
                 have HPp : Hid (PolyC w4 w4.heap.size vp lp) := hPp
                 have HCp : Hid (Canon lp (prodL l (detOf (lessOf T c)))) := hcp
                 have HP4 : Hid (PolyC w4 w4.heap.size u3 lo) := HP3.out.up hb4
                 have HB4 : Hid (Below w.heap.size w w4) := HB3.out.trans (hb4.mono HB3.out.size)
                 clear hPp hcp hb4)
              | (go_at_call 143; refine (sum_gen u3 vp lo lp (partOf T c) (prodL l (detOf (lessOf T c))) sg _ HSG.out HCN.out HCp.out _ _ (by omega) (by omega) HMN.out (1000 * (n + 1)) (by omega) HFA.out HGA.out HFS.out HGS.out HP4.out HPp.out).mono ?_; rintro r1 w5 ⟨vs, ls, rfl, hPs, hcs, hb5⟩))
            all_goals go_wp2
            all_goals go_roundw
            all_goals first | (simp only [intOf]; omega) | skip
            all_goals refine ⟨c + 1, ls, by omega, by go_num, by rw [HSN.out], hPs, canon_congr hcs fun y => (HPN.out y).symm, HB4.out.trans (hb5.mono HB4.out.size)⟩
    · obtain rfl : c = n + 1 := by omega
      go_wp2
      go_ret
      exact ⟨_, lo, rfl, hP.out, canon_congr hCan.out (part_all' HGT.out.1), hb⟩

theorem det21 : ∀ n, n ≤ 10 → Det21 n := by
  intro n
  induction n with
  | zero =>
    intro _ v T w hT h
    have e : T = [] := List.length_eq_zero_iff.1 hT.1
    subst e
    obtain ⟨rs, pss, hrl, ⟨a, cap, rfl, g⟩, hR⟩ := h
    have hr0 : rs.length = 0 := by simpa using hrl
    rw [hr0]
    exact det21_zero a cap w
  | succ n ih =>
    intro hn
    exact det21_next n (by omega) (ih (by omega))
end Go.Proofs.Ytajmogojekichaa.Poly

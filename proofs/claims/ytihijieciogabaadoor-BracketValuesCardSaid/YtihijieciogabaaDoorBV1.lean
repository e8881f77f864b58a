/- The walks of bracket.powerOfI and knotworkref.AtPower. -/
import Derived.Test.YtihijieciogabaaDoorBV0
namespace Go.Proofs.YtihijieciogabaaDoor.Poly
open Go.RowKit Go.Maps

/-- The bits of a power of i. -/
def pRe (n : Int) : Nat := if n = 0 then 4607182418800017408 else if n = 2 then 13830554455654793216 else 0
def pIm (n : Int) : Nat := if n = 1 then 4607182418800017408 else if n = 3 then 13830554455654793216 else 0
theorem p_re (n : Int) : Fl (pRe n) (rp n) := by
  unfold pRe rp
  split
  · exact fl_one
  · split
    · exact fl_mone
    · exact fl_zero
theorem p_im (n : Int) : Fl (pIm n) (ip n) := by
  unfold pIm ip
  split
  · exact fl_one
  · split
    · exact fl_mone
    · exact fl_zero
theorem bd_i (w : World) : (Instr.build 102 #[(0, .complex .f64 4607182418800017408 0), (1, .complex .f64 0 4607182418800017408), (2, .complex .f64 13830554455654793216 0), (3, .complex .f64 0 13830554455654793216)]).run Tryd.prog w = .ok (.agg #[.complex .f64 4607182418800017408 0, .complex .f64 0 4607182418800017408, .complex .f64 13830554455654793216 0, .complex .f64 0 13830554455654793216]) w := run_build w 102 _ _ (by kernel_rfl)
theorem ix_i (w : World) (n : Int) (h : n = 0 ∨ n = 1 ∨ n = 2 ∨ n = 3) : (Instr.index 102 (.agg #[.complex .f64 4607182418800017408 0, .complex .f64 0 4607182418800017408, .complex .f64 13830554455654793216 0, .complex .f64 0 13830554455654793216]) (.int .i64 n)).run Tryd.prog w = .ok (.complex .f64 (pRe n) (pIm n)) w := by
  rcases h with rfl | rfl | rfl | rfl <;> kernel_rfl
set_option maxHeartbeats 1000000 in
set_option maxRecDepth 100000 in
theorem powerOfI_any (n : Int) (w : World) : Calls Tryd.prog 41 #[.int .i64 n] w fun e w' => e = .returned (.complex .f64 (pRe (n % 4)) (pIm (n % 4))) ∧ w' = w := by
  have hb := bits_three n
  have h4 : n % 4 = 0 ∨ n % 4 = 1 ∨ n % 4 = 2 ∨ n % 4 = 3 := by omega
  have hbd := bd_i
  have hix := fun w => ix_i w (n % 4) h4
  clear h4
  go_enter Tryd.func41, Tryd.ntmps41
  go_wp2
  go_ret
  exact ⟨rfl, rfl⟩
theorem tmod4 (e : Int) : (e.tmod 4 != 0) = !decide (e % 4 = 0) := by
  show (!(e.tmod 4 == 0)) = _
  congr 1
  rw [Bool.eq_iff_iff]
  simp only [beq_iff_eq, decide_eq_true_eq]
  exact ⟨fun h => Int.emod_eq_zero_of_dvd (Int.dvd_of_tmod_eq_zero h), fun h => Int.tmod_eq_zero_of_dvd (Int.dvd_of_emod_eq_zero h)⟩
theorem tdiv4 {e : Int} (h : e % 4 = 0) : (-e).tdiv 4 = -(e / 4) := by
  obtain ⟨m, rfl⟩ := Int.dvd_of_emod_eq_zero h
  rw [show -(4 * m) = 4 * (-m) by omega, Int.mul_tdiv_cancel_left _ (by decide)]
  omega
theorem tdivm4 {e : Int} (h : e % 4 = 0) : e.tdiv (-4) = -(e / 4) := by
  obtain ⟨m, rfl⟩ := Int.dvd_of_emod_eq_zero h
  rw [show 4 * m = (-4) * (-m) by omega, Int.mul_tdiv_cancel_left _ (by decide)]
  omega
theorem tmod_seven (q : Int) : (q.tmod 4 = 0 ∧ q % 4 = 0) ∨ (q.tmod 4 = 1 ∧ q % 4 = 1) ∨ (q.tmod 4 = 2 ∧ q % 4 = 2) ∨ (q.tmod 4 = 3 ∧ q % 4 = 3) ∨ (q.tmod 4 = -1 ∧ q % 4 = 3) ∨ (q.tmod 4 = -2 ∧ q % 4 = 2) ∨ (q.tmod 4 = -3 ∧ q % 4 = 1) := by
  have h1 := Int.tmod_add_mul_tdiv q 4
  have h2 : q.tmod 4 < 4 ∧ -4 < q.tmod 4 := ⟨Int.tmod_lt_of_pos q (by decide), Int.lt_tmod_of_pos q (by decide)⟩
  rcases Int.le_total 0 q with h | h
  · have := Int.tmod_nonneg 4 h
    omega
  · have : q.tmod 4 ≤ 0 := by
      have := Int.tmod_nonneg 4 (show 0 ≤ -q by omega)
      rw [Int.neg_tmod] at this
      omega
    omega
/-- The exponents so far are multiples of 4. -/
theorem ok_more {l : List (Int × Int)} {j : Nat} (hj : j < l.length) (h : okV (l.take j) = true) (h4 : (l.getD j (0, 0)).1 % 4 = 0) : okV (l.take (j + 1)) = true := by
  unfold okV at h ⊢
  rw [List.take_add_one, List.getElem?_eq_getElem hj, List.all_append, h]
  rw [List.getD_eq_getElem?_getD, List.getElem?_eq_getElem hj] at h4
  simpa using h4
theorem ok_not {l : List (Int × Int)} {j : Nat} (hj : j < l.length) (h4 : (l.getD j (0, 0)).1 % 4 ≠ 0) : okV l = false := by
  unfold okV
  rw [List.all_eq_false]
  exact ⟨l.getD j (0, 0), by rw [List.getD_eq_getElem?_getD, List.getElem?_eq_getElem hj]; exact List.getElem_mem hj, by simpa using h4⟩
theorem ok_all {l : List (Int × Int)} (h : okV (l.take l.length) = true) : okV l = true := by rwa [List.take_of_length_le (Nat.le_refl _)] at h
theorem mul_rng {k d : Int} (h0 : 0 ≤ k) (h3 : k ≤ 3) (h1 : -1000 ≤ d) (h2 : d ≤ 1000) : -3000 ≤ d * k ∧ d * k ≤ 3000 := by
  have : k = 0 ∨ k = 1 ∨ k = 2 ∨ k = 3 := by omega
  rcases this with rfl | rfl | rfl | rfl <;> omega

set_option maxHeartbeats 4000000 in
set_option maxRecDepth 100000 in
theorem atPower_some (b off cap : Nat) (l : List (Int × Int)) (k : Int) (w : World) (hk0 : 0 ≤ k) (hk3 : k ≤ 3) (hs : SmV l) (hbw : b < w.heap.size) (hT : TermsAt w b off l) :
    Calls Tryd.prog 13 #[.slice (some ⟨b, off, none⟩) l.length cap, .int .i64 k] w fun e w' => ((okV l = true ∧ e = .returned (.tuple #[.int .i64 (reTo k l l.length), .int .i64 (imTo k l l.length), .bool true])) ∨ (okV l = false ∧ e = .returned (.tuple #[.int .i64 0, .int .i64 0, .bool false]))) ∧ Below w.heap.size w w' := by
  have hl := hs.len
  have HS : Hid (SmV l) := hs
  have HT : Hid (TermsAt w b off l) := hT
  clear hs hT
  go_enter Tryd.func13, Tryd.ntmps13
  go_wp2
  go_loopw [7, 8, 9] (fun x y i wr => ∃ j : Nat, j ≤ l.length ∧ i = .int .i64 j ∧ x = .int .i64 (reTo k l j) ∧ y = .int .i64 (imTo k l j) ∧ Hid (okV (l.take j) = true) ∧ Below w.heap.size w wr) (fun _ _ i _ => l.length - (intOf i).toNat)
  case atStart => exact ⟨0, Nat.zero_le _, rfl, rfl, rfl, (rfl : okV (l.take 0) = true), Below.refl _ _⟩
  case round =>
    obtain ⟨j, hj, rfl, rfl, rfl, hok, hb⟩ := hrel
    by_cases hlt : j < l.length
    · have c0 := bcell hb hbw (HT.out j hlt).1
      have c1 := bcell hb hbw (HT.out j hlt).2
      have hex := HS.out.exps j hlt
      have hco := HS.out.coef j hlt
      have hre := HS.out.re k j hj
      have him := HS.out.im k j hj
      have hr1 : Hid (reTo k l (j + 1) = reTo k l j + (l.getD j (0, 0)).2 * rp (ixV k (l.getD j (0, 0)).1)) := (rfl : reTo k l (j + 1) = _)
      have hi1 : Hid (imTo k l (j + 1) = imTo k l j + (l.getD j (0, 0)).2 * ip (ixV k (l.getD j (0, 0)).1)) := (rfl : imTo k l (j + 1) = _)
      have HOM : Hid ((l.getD j (0, 0)).1 % 4 = 0 → okV (l.take (j + 1)) = true) := fun h => ok_more hlt hok.out h
      have HON : Hid ((l.getD j (0, 0)).1 % 4 ≠ 0 → okV l = false) := fun h => ok_not hlt h
      generalize he : (l.getD j (0, 0)).1 = e at c0 hex hr1 hi1 HOM HON
      generalize hc : (l.getD j (0, 0)).2 = c at c1 hco hr1 hi1
      clear he hc
      by_cases h4 : e % 4 = 0
      · have hm0 : (e.tmod 4 != 0) = false := by rw [tmod4]; simp [h4]
        have hdv := tdiv4 h4
        have HO := hid_mkP (HOM.out h4)
        have hix : Hid (ixV k e = (-(e / 4) * k) % 4) := (by unfold ixV; rw [Int.mul_comm] : ixV k e = (-(e / 4) * k) % 4)
        have hdr : -1000 ≤ -(e / 4) ∧ -(e / 4) ≤ 1000 := by omega
        have hmr := mul_rng hk0 hk3 hdr.1 hdr.2
        clear h4 HOM HON
        generalize -(e / 4) = d at hdv hix hdr hmr
        generalize hq : d * k = q at hix hmr
        have h7 := tmod_seven q
        rcases h7 with ⟨h7, h8⟩ | ⟨h7, h8⟩ | ⟨h7, h8⟩ | ⟨h7, h8⟩ | ⟨h7, h8⟩ | ⟨h7, h8⟩ | ⟨h7, h8⟩
        all_goals
          have HX := hid_mkP (hix.out.trans h8)
          clear h8
          go_wp2
          go_roundw
        all_goals first | (simp only [intOf]; omega) | skip
        all_goals
          refine ⟨j + 1, by omega, by go_num, ?_, ?_, HO.out, hb⟩
          · first
              | (rw [hr1.out, HX.out]; simp [rp]; done)
              | (rw [hr1.out, HX.out]; simp only [rp]; congr 1; simp; omega)
          · first
              | (rw [hi1.out, HX.out]; simp [ip]; done)
              | (rw [hi1.out, HX.out]; simp only [ip]; congr 1; simp; omega)
      · have hm0 : (e.tmod 4 != 0) = true := by rw [tmod4]; simp [h4]
        have HO := hid_mkP (HON.out h4)
        clear h4 HOM HON
        go_wp2
        go_ret3
        exact ⟨Or.inr ⟨HO.out, rfl⟩, hb⟩
    · have e : j = l.length := by omega
      subst e
      go_wp2
      go_ret3
      exact ⟨Or.inl ⟨ok_all hok.out, rfl⟩, hb⟩

set_option maxHeartbeats 1000000 in
set_option maxRecDepth 100000 in
theorem atPower_none (a : Option Addr) (cap : Nat) (k : Int) (w : World) :
    Calls Tryd.prog 13 #[.slice a 0 cap, .int .i64 k] w fun e w' => e = .returned (.tuple #[.int .i64 0, .int .i64 0, .bool true]) ∧ Below w.heap.size w w' := by
  go_enter Tryd.func13, Tryd.ntmps13
  go_wp2
  go_loopw [7, 8, 9] (fun x y i wr => i = .int .i64 0 ∧ x = .int .i64 0 ∧ y = .int .i64 0 ∧ Below w.heap.size w wr) (fun _ _ _ _ => 0)
  case atStart => exact ⟨rfl, rfl, rfl, Below.refl _ _⟩
  case round =>
    obtain ⟨rfl, rfl, rfl, hb⟩ := hrel
    go_wp2
    go_ret3
    exact ⟨rfl, hb⟩
theorem atPower_poly (v : Value) (l : List (Int × Int)) (k : Int) (w : World) (hk0 : 0 ≤ k) (hk3 : k ≤ 3) (hs : SmV l) (hP : Poly w w.heap.size v l) :
    Calls Tryd.prog 13 #[v, .int .i64 k] w fun e w' => ((okV l = true ∧ e = .returned (.tuple #[.int .i64 (reTo k l l.length), .int .i64 (imTo k l l.length), .bool true])) ∨ (okV l = false ∧ e = .returned (.tuple #[.int .i64 0, .int .i64 0, .bool false]))) ∧ Below w.heap.size w w' := by
  rcases hP with ⟨rfl, rfl⟩ | ⟨a, cap, rfl, rfl⟩ | ⟨b, off, cap, rfl, hlt, hT⟩
  · exact (atPower_none none 0 k w).mono fun e w' h => ⟨Or.inl ⟨rfl, h.1⟩, h.2⟩
  · exact (atPower_none (some a) cap k w).mono fun e w' h => ⟨Or.inl ⟨rfl, h.1⟩, h.2⟩
  · exact atPower_some b off cap l k w hk0 hk3 hs hlt hT
end Go.Proofs.YtihijieciogabaaDoor.Poly

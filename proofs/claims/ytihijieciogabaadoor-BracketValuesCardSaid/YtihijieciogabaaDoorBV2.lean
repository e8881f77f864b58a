/- The walk of bracket.valueAt. -/
import Derived.Test.YtihijieciogabaaDoorBV1
import Derived.Test.YtihijieciogabaaDoorR1P
namespace Go.Proofs.YtihijieciogabaaDoor.Poly
open Go.RowKit Go.Maps

def VaOut (k : Int) (l : List (Int × Int)) (e : Ending) : Prop := (okV l = true ∧ ∃ a b, e = .returned (.tuple #[.complex .f64 a b, .int .i64 0]) ∧ Fl a (reTo k l l.length) ∧ Fl b (imTo k l l.length)) ∨ (okV l = false ∧ e = .returned (.tuple #[.complex .f64 0 0, .int .i64 6]))

set_option maxHeartbeats 4000000 in
set_option maxRecDepth 100000 in
theorem valueAt_some (b off cap : Nat) (l : List (Int × Int)) (k : Int) (w : World) (hk0 : 0 ≤ k) (hk3 : k ≤ 3) (hs : SmV l) (hbw : b < w.heap.size) (hT : TermsAt w b off l) :
    Calls Tryd.prog 25 #[.slice (some ⟨b, off, none⟩) l.length cap, .int .i64 k] w fun e w' => VaOut k l e ∧ Below w.heap.size w w' := by
  have hl := hs.len
  have HS : Hid (SmV l) := hs
  have HT : Hid (TermsAt w b off l) := hT
  clear hs hT
  go_enter Tryd.func25, Tryd.ntmps25
  go_wp2
  go_loopw [6, 11] (fun s i wr => ∃ (j x y : Nat), j ≤ l.length ∧ i = .int .i64 j ∧ s = .complex .f64 x y ∧ Hid (Fl x (reTo k l j)) ∧ Hid (Fl y (imTo k l j)) ∧ Hid (okV (l.take j) = true) ∧ Below w.heap.size w wr) (fun _ i _ => l.length - (intOf i).toNat)
  case atStart => exact ⟨0, 0, 0, Nat.zero_le _, rfl, rfl, fl_zero, fl_zero, (rfl : okV (l.take 0) = true), Below.refl _ _⟩
  case round =>
    obtain ⟨j, x, y, hj, rfl, rfl, hx, hy, hok, hb⟩ := hrel
    by_cases hlt : j < l.length
    · have c0 := bcell hb hbw (HT.out j hlt).1
      have c1 := bcell hb hbw (HT.out j hlt).2
      have hex := HS.out.exps j hlt
      have hco := HS.out.coef j hlt
      have hre := HS.out.re k (j + 1) (by omega)
      have him := HS.out.im k (j + 1) (by omega)
      have hr1 : reTo k l (j + 1) = reTo k l j + (l.getD j (0, 0)).2 * rp (ixV k (l.getD j (0, 0)).1) := rfl
      have hi1 : imTo k l (j + 1) = imTo k l j + (l.getD j (0, 0)).2 * ip (ixV k (l.getD j (0, 0)).1) := rfl
      have HOM : Hid ((l.getD j (0, 0)).1 % 4 = 0 → okV (l.take (j + 1)) = true) := fun h => ok_more hlt hok.out h
      have HON : Hid ((l.getD j (0, 0)).1 % 4 ≠ 0 → okV l = false) := fun h => ok_not hlt h
      generalize he : (l.getD j (0, 0)).1 = e at c0 hex hr1 hi1 HOM HON
      generalize hc : (l.getD j (0, 0)).2 = c at c1 hco hr1 hi1
      clear he hc
      have hsz := hb.size
      have hbr : b < wr.heap.size := Nat.lt_of_lt_of_le hbw hsz
      by_cases h4 : e % 4 = 0
      · have hm0 : (e.tmod 4 != 0) = false := by rw [tmod4]; simp [h4]
        have hdv := tdivm4 h4
        have HO := hid_mkP (HOM.out h4)
        have hix : ixV k e = (k * -(e / 4)) % 4 := rfl
        have hdr : -1000 ≤ -(e / 4) ∧ -(e / 4) ≤ 1000 := by omega
        have hmr := mul_rng hk0 hk3 hdr.1 hdr.2
        rw [Int.mul_comm] at hmr
        clear h4 HOM HON
        generalize -(e / 4) = d at hdv hix hdr hmr
        generalize hq : k * d = q at hix hmr
        rw [hix] at hr1 hi1
        have HPI := powerOfI_any q
        have hpr := p_re (q % 4)
        have hpi := p_im (q % 4)
        generalize pRe (q % 4) = P at HPI hpr
        generalize pIm (q % 4) = Q at HPI hpi
        have hcr := rp_le c (q % 4)
        have hci := ip_le c (q % 4)
        obtain ⟨re, im, e1, f1, f2⟩ := cx_mul (fl_int c (by omega)) hpr hpi (by omega) (by omega)
        obtain ⟨re2, im2, e2, g1, g2⟩ := cx_add hx.out hy.out f1 f2 (by rw [← hr1]; omega) (by rw [← hi1]; omega)
        rw [← hr1] at g1
        rw [← hi1] at g2
        have HG1 := hid_mkP g1
        have HG2 := hid_mkP g2
        generalize hA : floatOfInt .f64 c = A at e1
        have hM := fun w => run_complex_mul (P := Tryd.prog) w 34 A 0 P Q re im e1
        have hS := fun w => run_complex_sum (P := Tryd.prog) w .add (Or.inl rfl) 34 .f64 x y re im re2 im2 e2
        have HPI2 := hid_mkP HPI
        clear hpr hpi hcr hci f1 f2 g1 g2 hr1 hi1 hre him hix e1 e2 hx hy HPI
        go_wp2
        obtain ⟨W, hW⟩ : ∃ W, W = wr.alloc (.cells #[.int .i64 e, .int .i64 c] 56) := ⟨_, rfl⟩
        rw [← hW]
        have t0 : W.cell? ⟨wr.heap.size, 0, none⟩ = some (.int .i64 e) := by rw [hW]; exact block_cell (alloc_at rfl) rfl
        have t1 : W.cell? ⟨wr.heap.size, 1, none⟩ = some (.int .i64 c) := by rw [hW]; exact block_cell (alloc_at rfl) rfl
        have HBW : Hid (Below w.heap.size w W) := (by rw [hW]; exact hb.alloc hsz _ : Below w.heap.size w W)
        have ed : IntKind.i64.wrap d = d := IntWalk.i64_in _ (by omega)
        have eq : IntKind.i64.wrap q = q := IntWalk.i64_in _ (by omega)
        clear hW c0 c1
        go_region_held3 (fun w' => w'.cell? ⟨wr.heap.size, 0, none⟩ = some (.int .i64 e) ∧ w'.cell? ⟨wr.heap.size, 1, none⟩ = some (.int .i64 c)) (exact ⟨t0, t1⟩) (first
          | (go_at_call 41; refine (HPI2.out _).mono ?_; rintro e9 w9 ⟨rfl, rfl⟩))
        all_goals
          go_wp2
          go_roundw
        all_goals first
          | (simp only [intOf]; omega)
          | exact ⟨j + 1, re2, im2, by omega, by go_num, rfl, HG1.out, HG2.out, HO.out, HBW.out.drew⟩
      · have hm0 : (e.tmod 4 != 0) = true := by rw [tmod4]; simp [h4]
        have HO := hid_mkP (HON.out h4)
        clear h4 HOM HON hre him hr1 hi1 hx hy
        go_wp2
        go_ret2
        exact ⟨Or.inr ⟨HO.out, rfl⟩, hb.alloc hsz _⟩
    · have e : j = l.length := by omega
      subst e
      go_wp2
      go_ret2
      exact ⟨Or.inl ⟨ok_all hok.out, x, y, rfl, hx.out, hy.out⟩, hb⟩

set_option maxHeartbeats 1000000 in
set_option maxRecDepth 100000 in
theorem valueAt_none (a : Option Addr) (cap : Nat) (k : Int) (w : World) :
    Calls Tryd.prog 25 #[.slice a 0 cap, .int .i64 k] w fun e w' => VaOut k [] e ∧ Below w.heap.size w w' := by
  go_enter Tryd.func25, Tryd.ntmps25
  go_wp2
  go_loopw [6, 11] (fun s i wr => i = .int .i64 0 ∧ s = .complex .f64 0 0 ∧ Below w.heap.size w wr) (fun _ _ _ => 0)
  case atStart => exact ⟨rfl, rfl, Below.refl _ _⟩
  case round =>
    obtain ⟨rfl, rfl, hb⟩ := hrel
    go_wp2
    go_ret2
    exact ⟨Or.inl ⟨rfl, 0, 0, rfl, fl_zero, fl_zero⟩, hb⟩
theorem valueAt_poly (v : Value) (l : List (Int × Int)) (k : Int) (w : World) (hk0 : 0 ≤ k) (hk3 : k ≤ 3) (hs : SmV l) (hP : Poly w w.heap.size v l) :
    Calls Tryd.prog 25 #[v, .int .i64 k] w fun e w' => VaOut k l e ∧ Below w.heap.size w w' := by
  rcases hP with ⟨rfl, rfl⟩ | ⟨a, cap, rfl, rfl⟩ | ⟨b, off, cap, rfl, hlt, hT⟩
  · exact valueAt_none none 0 k w
  · exact valueAt_none (some a) cap k w
  · exact valueAt_some b off cap l k w hk0 hk3 hs hlt hT
end Go.Proofs.YtihijieciogabaaDoor.Poly

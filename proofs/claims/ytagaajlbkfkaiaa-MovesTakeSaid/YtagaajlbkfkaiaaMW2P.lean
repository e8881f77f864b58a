/- Several texts of the proof, one behind the other. -/
import Derived.Test.YtagaajlbkfkaiaaMV5P
import Derived.Test.YtagaajlbkfkaiaaMVc
import Derived.Test.YtagaajlbkfkaiaaME1P
import Derived.Test.YtagaajlbkfkaiaaMW1
import Derived.Test.YtagaajlbkfkaiaaME5P
import Derived.Test.YtagaajlbkfkaiaaW11P
import Derived.Deep.RegionHeld
import Derived.Test.YtagaajlbkfkaiaaTKaP
import Derived.Test.YtagaajlbkfkaiaaME2
/- Moves: the walk of bench.uncurl. Made by genmw2.py. -/
namespace Go.Proofs.Ytagaajlbkfkaiaa
open Go.RowKit

/-- Can the crossing be uncurled? -/
def cuB (C : List Cr) (k : Nat) : Bool := (List.range (2 * C.length + 1)).any fun x => decide (1 ≤ x) && crlB C k x
theorem cuB_iff (C : List Cr) (k : Nat) : cuB C k = true ↔ ∃ x, 1 ≤ x ∧ x ≤ 2 * C.length ∧ crlB C k x = true := by
  unfold cuB
  rw [List.any_eq_true]
  constructor
  · rintro ⟨x, h1, h2⟩
    rw [Bool.and_eq_true, decide_eq_true_eq] at h2
    exact ⟨x, h2.1, by have := List.mem_range.1 h1; omega, h2.2⟩
  · rintro ⟨x, h1, h2, h3⟩
    exact ⟨x, List.mem_range.2 (by omega), by rw [h3, decide_eq_true h1]; rfl⟩
theorem curled_is (a : Option Addr) (cap : Nat) (C : List Cr) (loops : Int) (gF cF gT cT : Nat) (k : Nat) (w : World) (hm : mayD C loops = true) (hd : Dr w a cap C gF gT) :
    Calls Try.prog 108 #[drV a cap C loops gF cF gT cT, .int .i64 (k : Nat)] w fun e w' => e = .returned (.bool (cuB C k)) ∧ Below w.heap.size w w' := curled_any a cap C loops gF cF gT cT k (cuB C k) w hm hd (cuB_iff C k)

set_option maxHeartbeats 4000000 in
set_option maxRecDepth 100000 in
theorem uncurl_no2 (a : Option Addr) (cap : Nat) (C : List Cr) (loops : Int) (gF cF gT cT : Nat) (k y ua va : Int) (x : Nat) (ub vb ov : Bool) (w : World) (hm : mayD C loops = true) (hd : Dr w a cap C gF gT) (hx : x < C.length) (h : cuB C x = false) :
    Calls Try.prog 89 #[drV a cap C loops gF cF gT cT, mvV k (x : Nat) y ua ub va vb ov] w fun e w' => e = .panicked (gaveUp 8) ∧ Below w.heap.size w w' := by
  unfold mvV
  obtain ⟨Y, hY, hBY, hTY, hsY⟩ := bm_ex w a cap C loops gF cF gT cT k (x : Nat) y ua va ub vb ov
  have HBY := hid_of hBY
  have HCE := hid_of (bm_ce hTY)
  clear hBY hTY
  have HHC := hid_of (hasCross_any a cap C loops gF cF gT cT (x : Nat) Y)
  have hc : crB C (x : Nat) = true := by unfold crB; simp; omega
  rw [hc] at HHC
  have HCU : Hid (∀ W, Below Y.heap.size Y W → Calls Try.prog 108 #[drV a cap C loops gF cF gT cT, .int .i64 (x : Nat)] W fun e w' => e = .returned (.bool false) ∧ Below W.heap.size W w') := fun W hW => by
    have := curled_is a cap C loops gF cF gT cT x W hm (hd.on (HBY.out.trans (hW.mono (by omega))))
    rw [h] at this
    exact this
  unfold drV at HHC HCU ⊢
  obtain ⟨pl0, pl1, pl2, pb0, pb1, pb2, pb3, pm0, pm1, pm2, pm3, pm4, pm5, pm6, pm7, pr0, pr1, pf0, pf1⟩ := bm_cells (HCE.out Y (Below.refl _ _))
  have pZ := hid_of (HCE.out Y (Below.refl _ _)).1.2.2
  clear h hc hm hd
  go_enter Try.func89, Try.ntmps89
  go_upto_region 2 with (first
    | (go_at_call 41; refine (need_ok 3 _).mono ?_; rintro e9 w4 ⟨rfl, e4⟩; obtain rfl := e4.symm)
    | (go_at_call 107; refine HHC.out.mono ?_; rintro e9 w3 ⟨rfl, hb3⟩
       have HB3 := hid_of hb3
       obtain ⟨ql0, ql1, ql2, qb0, qb1, qb2, qb3, qm0, qm1, qm2, qm3, qm4, qm5, qm6, qm7, qr0, qr1, qf0, qf1⟩ := bm_cells (HCE.out w3 (hb3))
       have qZ := hid_of (HCE.out w3 (hb3)).1.2.2
       clear hb3))
  go_wp2_with (first
    | (go_at_call 41; refine (need_no 8 _).mono ?_; rintro e9 w4 ⟨rfl, e4⟩; obtain rfl := e4.symm)
    | (go_at_call 108; refine (HCU.out _ HB3.out).mono ?_; rintro e9 w5 ⟨rfl, hb5⟩
       have HB5 := hid_of (HB3.out.trans (hb5.mono HB3.out.size))
       clear hb5))
  exact ⟨rfl, rfl, HBY.out.trans (HB5.out.mono (by omega))⟩

set_option maxHeartbeats 4000000 in
set_option maxRecDepth 100000 in
theorem uncurl_no3 (a : Option Addr) (cap : Nat) (C : List Cr) (loops : Int) (gF cF gT cT : Nat) (k y ua va : Int) (x : Nat) (ub vb ov : Bool) (w : World) (hm : mayD C loops = true) (hd : Dr w a cap C gF gT) (hx : x < C.length) (h : cuB C x = true) (hL : 16 < takL C loops [x]) :
    Calls Try.prog 89 #[drV a cap C loops gF cF gT cT, mvV k (x : Nat) y ua ub va vb ov] w fun e w' => e = .panicked (gaveUp 2) ∧ Below w.heap.size w w' := by
  unfold mvV
  obtain ⟨Y, hY, hBY, hTY, hsY⟩ := bm_ex w a cap C loops gF cF gT cT k (x : Nat) y ua va ub vb ov
  have HBY := hid_of hBY
  have HCE := hid_of (bm_ce hTY)
  clear hBY hTY
  have HHC := hid_of (hasCross_any a cap C loops gF cF gT cT (x : Nat) Y)
  have hc : crB C (x : Nat) = true := by unfold crB; simp; omega
  rw [hc] at HHC
  have HCU : Hid (∀ W, Below Y.heap.size Y W → Calls Try.prog 108 #[drV a cap C loops gF cF gT cT, .int .i64 (x : Nat)] W fun e w' => e = .returned (.bool true) ∧ Below W.heap.size W w') := fun W hW => by
    have := curled_is a cap C loops gF cF gT cT x W hm (hd.on (HBY.out.trans (hW.mono (by omega))))
    rw [h] at this
    exact this
  have HWI : Hid (∀ (W : World) (g cG : Nat), Below Y.heap.size Y W → GonAt W g [x] → Calls Try.prog 109 #[drV a cap C loops gF cF gT cT, .slice (some ⟨g, 0, none⟩) 1 cG] W fun e w' => e = .panicked (gaveUp 2) ∧ Below W.heap.size W w') := fun W g cG hW hg => by
    have := without_no a cap C loops gF cF gT cT g cG [x] W hm (hd.on (HBY.out.trans (hW.mono (by omega)))) (by simp) hg hL
    exact this
  unfold drV at HHC HCU HWI ⊢
  obtain ⟨pl0, pl1, pl2, pb0, pb1, pb2, pb3, pm0, pm1, pm2, pm3, pm4, pm5, pm6, pm7, pr0, pr1, pf0, pf1⟩ := bm_cells (HCE.out Y (Below.refl _ _))
  have pZ := hid_of (HCE.out Y (Below.refl _ _)).1.2.2
  clear h hc hm hd hL
  go_enter Try.func89, Try.ntmps89
  go_upto_region 2 with (first
    | (go_at_call 41; refine (need_ok 3 _).mono ?_; rintro e9 w4 ⟨rfl, e4⟩; obtain rfl := e4.symm)
    | (go_at_call 107; refine HHC.out.mono ?_; rintro e9 w3 ⟨rfl, hb3⟩
       have HB3 := hid_of hb3
       obtain ⟨ql0, ql1, ql2, qb0, qb1, qb2, qb3, qm0, qm1, qm2, qm3, qm4, qm5, qm6, qm7, qr0, qr1, qf0, qf1⟩ := bm_cells (HCE.out w3 (hb3))
       have qZ := hid_of (HCE.out w3 (hb3)).1.2.2
       clear hb3))
  go_upto_region 3 with (first
    | (go_at_call 41; refine (need_ok 8 _).mono ?_; rintro e9 w4 ⟨rfl, e4⟩; obtain rfl := e4.symm)
    | (go_at_call 108; refine (HCU.out _ HB3.out).mono ?_; rintro e9 w5 ⟨rfl, hb5⟩
       have HB5 := hid_of (HB3.out.trans (hb5.mono HB3.out.size))
       obtain ⟨sl0, sl1, sl2, sb0, sb1, sb2, sb3, sm0, sm1, sm2, sm3, sm4, sm5, sm6, sm7, sr0, sr1, sf0, sf1⟩ := bm_cells (HCE.out w5 (HB5.out))
       have sZ := hid_of (HCE.out w5 (HB5.out)).1.2.2
       clear hb5))
  have hs5 := HB5.out.size
  have HG6 : Hid (GonAt (w5.alloc (.cells #[.int .i64 (x : Nat)] 3)) w5.heap.size [x]) := ⟨by simp, fun i hi => by
    obtain rfl : i = 0 := by simpa using hi
    exact block_cell (alloc_at rfl) rfl⟩
  have HB6 : Hid (Below Y.heap.size Y (w5.alloc (.cells #[.int .i64 (x : Nat)] 3))) := HB5.out.alloc hs5 _
  go_wp2_with (go_at_call 109; refine (HWI.out _ _ _ HB6.out HG6.out).mono ?_; rintro e9 w7 ⟨rfl, hb7⟩)
  exact ⟨rfl, rfl, HBY.out.trans ((HB6.out.trans (hb7.mono HB6.out.size)).mono (by omega))⟩

set_option maxHeartbeats 4000000 in
set_option maxRecDepth 100000 in
theorem uncurl_yes (a : Option Addr) (cap : Nat) (C : List Cr) (loops : Int) (gF cF gT cT : Nat) (k y ua va : Int) (x : Nat) (ub vb ov : Bool) (w : World) (hm : mayD C loops = true) (hd : Dr w a cap C gF gT) (hx : x < C.length) (h : cuB C x = true) (hL : takL C loops [x] ≤ 16) :
    Calls Try.prog 89 #[drV a cap C loops gF cF gT cT, mvV k (x : Nat) y ua ub va vb ov] w fun e w' => ∃ a2 c2, e = .returned (.agg #[.slice a2 (takC C [x]).length c2, .int .i64 (takL C loops [x])]) ∧ w'.ownsRow w.heap.size 71 5 (.slice a2 (takC C [x]).length c2) (takC C [x]).length (crossCells (takC C [x])) ∧ Below w.heap.size w w' := by
  unfold mvV
  obtain ⟨Y, hY, hBY, hTY, hsY⟩ := bm_ex w a cap C loops gF cF gT cT k (x : Nat) y ua va ub vb ov
  have HBY := hid_of hBY
  have HCE := hid_of (bm_ce hTY)
  clear hBY hTY
  have HHC := hid_of (hasCross_any a cap C loops gF cF gT cT (x : Nat) Y)
  have hc : crB C (x : Nat) = true := by unfold crB; simp; omega
  rw [hc] at HHC
  have HCU : Hid (∀ W, Below Y.heap.size Y W → Calls Try.prog 108 #[drV a cap C loops gF cF gT cT, .int .i64 (x : Nat)] W fun e w' => e = .returned (.bool true) ∧ Below W.heap.size W w') := fun W hW => by
    have := curled_is a cap C loops gF cF gT cT x W hm (hd.on (HBY.out.trans (hW.mono (by omega))))
    rw [h] at this
    exact this
  obtain ⟨D, hD⟩ : ∃ D, takC C [x] = D := ⟨_, rfl⟩
  obtain ⟨lo, hlo⟩ : ∃ l, takL C loops [x] = l := ⟨_, rfl⟩
  have HWI : Hid (∀ (W : World) (g cG : Nat), Below Y.heap.size Y W → GonAt W g [x] → Calls Try.prog 109 #[drV a cap C loops gF cF gT cT, .slice (some ⟨g, 0, none⟩) 1 cG] W fun e w' => ∃ a2 c2, e = .returned (.agg #[.slice a2 D.length c2, .int .i64 lo]) ∧ w'.ownsRow W.heap.size 71 5 (.slice a2 D.length c2) D.length (crossCells D) ∧ Below W.heap.size W w') := fun W g cG hW hg => by
    have := without_yes a cap C loops gF cF gT cT g cG [x] W hm (hd.on (HBY.out.trans (hW.mono (by omega)))) (by simp) hg hL
    rw [hD, hlo] at this
    exact this
  rw [hD, hlo]
  unfold drV at HHC HCU HWI ⊢
  obtain ⟨pl0, pl1, pl2, pb0, pb1, pb2, pb3, pm0, pm1, pm2, pm3, pm4, pm5, pm6, pm7, pr0, pr1, pf0, pf1⟩ := bm_cells (HCE.out Y (Below.refl _ _))
  have pZ := hid_of (HCE.out Y (Below.refl _ _)).1.2.2
  clear h hc hm hd hL
  go_enter Try.func89, Try.ntmps89
  go_upto_region 2 with (first
    | (go_at_call 41; refine (need_ok 3 _).mono ?_; rintro e9 w4 ⟨rfl, e4⟩; obtain rfl := e4.symm)
    | (go_at_call 107; refine HHC.out.mono ?_; rintro e9 w3 ⟨rfl, hb3⟩
       have HB3 := hid_of hb3
       obtain ⟨ql0, ql1, ql2, qb0, qb1, qb2, qb3, qm0, qm1, qm2, qm3, qm4, qm5, qm6, qm7, qr0, qr1, qf0, qf1⟩ := bm_cells (HCE.out w3 (hb3))
       have qZ := hid_of (HCE.out w3 (hb3)).1.2.2
       clear hb3))
  go_upto_region 3 with (first
    | (go_at_call 41; refine (need_ok 8 _).mono ?_; rintro e9 w4 ⟨rfl, e4⟩; obtain rfl := e4.symm)
    | (go_at_call 108; refine (HCU.out _ HB3.out).mono ?_; rintro e9 w5 ⟨rfl, hb5⟩
       have HB5 := hid_of (HB3.out.trans (hb5.mono HB3.out.size))
       obtain ⟨sl0, sl1, sl2, sb0, sb1, sb2, sb3, sm0, sm1, sm2, sm3, sm4, sm5, sm6, sm7, sr0, sr1, sf0, sf1⟩ := bm_cells (HCE.out w5 (HB5.out))
       have sZ := hid_of (HCE.out w5 (HB5.out)).1.2.2
       clear hb5))
  have hs5 := HB5.out.size
  have HG6 : Hid (GonAt (w5.alloc (.cells #[.int .i64 (x : Nat)] 3)) w5.heap.size [x]) := ⟨by simp, fun i hi => by
    obtain rfl : i = 0 := by simpa using hi
    exact block_cell (alloc_at rfl) rfl⟩
  have HB6 : Hid (Below Y.heap.size Y (w5.alloc (.cells #[.int .i64 (x : Nat)] 3))) := HB5.out.alloc hs5 _
  go_wp2_with (go_at_call 109; refine (HWI.out _ _ _ HB6.out HG6.out).mono ?_; rintro e9 w7 ⟨a2, c2, rfl, ho7, hb7⟩
               have HO7 := hid_of ho7
               have HB7 := hid_of (HB6.out.trans (hb7.mono HB6.out.size))
               have hs7 := hb7.size
               obtain ⟨tl0, tl1, tl2, tb0, tb1, tb2, tb3, tm0, tm1, tm2, tm3, tm4, tm5, tm6, tm7, tr0, tr1, tf0, tf1⟩ := bm_cells (HCE.out w7 (HB7.out))
               have tZ := hid_of (HCE.out w7 (HB7.out)).1.2.2
               clear ho7 hb7)
  have hZ := st2D (a := .slice a2 D.length c2) (b := .int .i64 lo) tZ.out
  have x0 := block_cell (i := 0) (v := .slice a2 D.length c2) hZ rfl
  have x1 := block_cell (i := 1) (v := .int .i64 lo) hZ rfl
  refine bodyPost_ret (v := .agg #[.slice a2 D.length c2, .int .i64 lo]) (by simp [results, Try.results89, go_sem, x0, x1]) rfl ⟨a2, c2, rfl, ?_, ?_⟩
  · exact own_low (own_two HO7.out (by have := HB6.out.size; simp at this ⊢; omega) _ _) (by have := HB6.out.size; simp at this ⊢; omega)
  · exact ((HBY.out.trans (HB7.out.mono (by omega))).setCell (p := ⟨w.heap.size + 1 + 1, 0, none⟩) (by simp only; omega) _).setCell (p := ⟨w.heap.size + 1 + 1, 1, none⟩) (by simp only; omega) _
end Go.Proofs.Ytagaajlbkfkaiaa
/- Moves: mathematics between the program and the document's answer: curls, layers of a triangle, darts on one face, the crossings of a push. -/
namespace Go.Proofs.Ytagaajlbkfkaiaa

theorem en_spot {C : List Cr} {loops : Int} (hm : mayD C loops = true) (k s : Nat) (hk : k < C.length) (hs : s < 4) : ∃ x : Nat, 1 ≤ x ∧ x ≤ 2 * C.length ∧ (C.getD k Cr.none).arc s = (x : Int) ∧ enC C x ((C.getD k Cr.none).comes s) = k ∧ enS C x ((C.getD k Cr.none).comes s) = s := by
  obtain ⟨h1, h2, -⟩ := en_one hm k s hk hs
  have e : (C.getD k Cr.none).arc s = ((((C.getD k Cr.none).arc s).toNat : Nat) : Int) := by omega
  have h := end_one hm _ h1 h2 _ k s hk hs e rfl
  refine ⟨_, h1, h2, e, ?_, ?_⟩
  · unfold enC
    rw [h]
    simp
  · unfold enS
    rw [h]
    simp

/-- Both ways of telling a curl agree. -/
theorem curl_same {C : List Cr} {loops : Int} (hm : mayD C loops = true) (k : Nat) (hk : k < C.length) : caB C k = cuB C k := by
  rw [Bool.eq_iff_iff, cuB_iff]
  constructor
  · intro h
    unfold caB at h
    rw [List.any_eq_true] at h
    obtain ⟨s, hs, e⟩ := h
    have hs4 : s < 4 := List.mem_range.1 hs
    have e := of_decide_eq_true e
    obtain ⟨x, h1, h2, e1, e2, e3⟩ := en_spot hm k s hk hs4
    obtain ⟨y, -, -, f1, f2, f3⟩ := en_spot hm k ((s + 1) % 4) hk (by omega)
    have hxy : y = x := by omega
    rw [hxy] at f2 f3
    refine ⟨x, h1, h2, ?_⟩
    unfold crlB
    simp only [Bool.and_eq_true, decide_eq_true_eq, Bool.not_eq_true', decide_eq_false_iff_not]
    cases p : (C.getD k Cr.none).comes s <;> cases q : (C.getD k Cr.none).comes ((s + 1) % 4) <;> rw [p] at e2 e3 <;> rw [q] at f2 f3
    · exfalso
      omega
    · exact ⟨⟨e2, f2⟩, by omega⟩
    · exact ⟨⟨f2, e2⟩, by omega⟩
    · exfalso
      omega
  · rintro ⟨x, h1, h2, h⟩
    unfold crlB at h
    simp only [Bool.and_eq_true, decide_eq_true_eq, Bool.not_eq_true', decide_eq_false_iff_not] at h
    obtain ⟨⟨a1, a2⟩, a3⟩ := h
    obtain ⟨-, -, b3, b4, b5⟩ := en_may hm x false h1 h2
    obtain ⟨-, -, c3, c4, c5⟩ := en_may hm x true h1 h2
    rw [a1] at b4 b5
    rw [a2] at c4 c5
    unfold caB
    rw [List.any_eq_true]
    have hne : enS C x false ≠ enS C x true := fun e => by
      rw [e, c5] at b5
      exact absurd b5 (by simp)
    have hor : enS C x true = (enS C x false + 1) % 4 ∨ enS C x false = (enS C x true + 1) % 4 := by omega
    rcases hor with e | e
    · exact ⟨enS C x false, List.mem_range.2 b3, decide_eq_true (by rw [← e, b4, c4])⟩
    · exact ⟨enS C x true, List.mem_range.2 c3, decide_eq_true (by rw [← e, b4, c4])⟩

end Go.Proofs.Ytagaajlbkfkaiaa
/- Moves: the walks of means and of bench.moved. Made by genmw5.py. -/
namespace Go.Proofs.Ytagaajlbkfkaiaa
open Go.RowKit

/-- The function of a kind of move. -/
def KF (k : Int) (fn : Nat) : Prop := (k = 1 ∧ fn = 88) ∨ (k = 2 ∧ fn = 89) ∨ (k = 3 ∧ fn = 90) ∨ (k = 4 ∧ fn = 91) ∨ (k = 5 ∧ fn = 92)
theorem kf2 : KF 2 89 := by unfold KF; simp
theorem kf4 : KF 4 91 := by unfold KF; simp
set_option maxHeartbeats 2000000 in
theorem means_of {k : Int} {fn : Nat} (hk : KF k fn) (w : World) : Calls Try.prog 59 #[.int .i64 k] w fun e w' => e = .returned (.func (.func fn) #[] #[]) ∧ w' = w := by
  rcases hk with ⟨rfl, rfl⟩ | ⟨rfl, rfl⟩ | ⟨rfl, rfl⟩ | ⟨rfl, rfl⟩ | ⟨rfl, rfl⟩
  all_goals
    go_enter Try.func59, Try.ntmps59
    go_wp2
    go_ret
    exact ⟨rfl, rfl⟩

set_option maxHeartbeats 4000000 in
set_option maxRecDepth 100000 in
theorem moved_no {k : Int} {fn : Nat} (hk : KF k fn) (a : Option Addr) (cap : Nat) (C : List Cr) (loops : Int) (gF cF gT cT : Nat) (why x y ua va : Int) (ub vb ov : Bool) (w : World) (hF : ∀ W, Below w.heap.size w W → Calls Try.prog fn #[drV a cap C loops gF cF gT cT, mvV k x y ua ub va vb ov] W fun e w' => e = .panicked (gaveUp why) ∧ Below W.heap.size W w') :
    Calls Try.prog 30 #[drV a cap C loops gF cF gT cT, mvV k x y ua ub va vb ov] w fun e w' => e = .panicked (gaveUp why) ∧ Below w.heap.size w w' := by
  have HF := hid_of hF
  have HMN := hid_of (means_of hk)
  have HKF := hid_of hk
  clear hF hk
  unfold mvV at HF ⊢
  obtain ⟨Y, hY, hBY, hTY, hsY⟩ := bm_ex w a cap C loops gF cF gT cT k x y ua va ub vb ov
  have HBY := hid_of hBY
  have HCE := hid_of (bm_ce hTY)
  clear hBY hTY
  unfold drV at HF ⊢
  have HDY : Hid (Below Y.heap.size Y Y.drew) := (Below.refl _ _).drew
  have HSV : Hid (∀ W, Below Y.heap.size Y W → (fun X : World => X.cell? ⟨w.heap.size, 0, none⟩ = some (.slice a C.length cap) ∧ X.cell? ⟨w.heap.size, 1, none⟩ = some (.int .i64 loops) ∧ X.cell? ⟨w.heap.size, 2, none⟩ = some (.slice (some ⟨gF, 0, none⟩) (2 * C.length + 1) cF) ∧ X.cell? ⟨w.heap.size, 3, none⟩ = some (.slice (some ⟨gT, 0, none⟩) (2 * C.length + 1) cT) ∧ X.cell? ⟨w.heap.size + 1, 0, none⟩ = some (.int .i64 k) ∧ X.cell? ⟨w.heap.size + 1, 1, none⟩ = some (.int .i64 x) ∧ X.cell? ⟨w.heap.size + 1, 2, none⟩ = some (.int .i64 y) ∧ X.cell? ⟨w.heap.size + 1, 3, none⟩ = some (.int .i64 ua) ∧ X.cell? ⟨w.heap.size + 1, 4, none⟩ = some (.bool ub) ∧ X.cell? ⟨w.heap.size + 1, 5, none⟩ = some (.int .i64 va) ∧ X.cell? ⟨w.heap.size + 1, 6, none⟩ = some (.bool vb) ∧ X.cell? ⟨w.heap.size + 1, 7, none⟩ = some (.bool ov)) W) := fun W hW => by
    obtain ⟨⟨px, py, -⟩, -⟩ := HCE.out W hW
    exact ⟨block_cell px rfl, block_cell px rfl, block_cell px rfl, block_cell px rfl, block_cell py rfl, block_cell py rfl, block_cell py rfl, block_cell py rfl, block_cell py rfl, block_cell py rfl, block_cell py rfl, block_cell py rfl⟩
  have HY := hid_of hY
  clear hY
  go_enter Try.func30, Try.ntmps30
  go_wp2
  rw [HY.out]
  refine wp_region_held_drew (S := fun X : World => X.cell? ⟨w.heap.size, 0, none⟩ = some (.slice a C.length cap) ∧ X.cell? ⟨w.heap.size, 1, none⟩ = some (.int .i64 loops) ∧ X.cell? ⟨w.heap.size, 2, none⟩ = some (.slice (some ⟨gF, 0, none⟩) (2 * C.length + 1) cF) ∧ X.cell? ⟨w.heap.size, 3, none⟩ = some (.slice (some ⟨gT, 0, none⟩) (2 * C.length + 1) cT) ∧ X.cell? ⟨w.heap.size + 1, 0, none⟩ = some (.int .i64 k) ∧ X.cell? ⟨w.heap.size + 1, 1, none⟩ = some (.int .i64 x) ∧ X.cell? ⟨w.heap.size + 1, 2, none⟩ = some (.int .i64 y) ∧ X.cell? ⟨w.heap.size + 1, 3, none⟩ = some (.int .i64 ua) ∧ X.cell? ⟨w.heap.size + 1, 4, none⟩ = some (.bool ub) ∧ X.cell? ⟨w.heap.size + 1, 5, none⟩ = some (.int .i64 va) ∧ X.cell? ⟨w.heap.size + 1, 6, none⟩ = some (.bool vb) ∧ X.cell? ⟨w.heap.size + 1, 7, none⟩ = some (.bool ov)) (by kernel_rfl) (HSV.out _ HDY.out) (fun hHeld => ?_)
  refine wpAnyH_take (i := 0) (v := ?vvu5) rfl (by kernel_rfl) (by kernel_rfl) (by kernel_rfl) (fun _ _ _ h => h) (Or.inl ⟨by rfl, ?yyu5⟩) (by assumption) ?rru5
  case yyu5 => (intro w hSw; (try dsimp only at hSw); go_simp; (try with_reducible rfl))
  try simp only [Act.put]
  refine wpAnyH_take (i := 1) (v := ?vvu6) rfl (by kernel_rfl) (by kernel_rfl) (by kernel_rfl) (fun _ _ _ h => h) (Or.inl ⟨by rfl, ?yyu6⟩) (by assumption) ?rru6
  case yyu6 => (intro w hSw; (try dsimp only at hSw); go_simp; (try with_reducible rfl))
  try simp only [Act.put]
  refine wpAnyH_take (i := 3) (v := ?vvu7) rfl (by kernel_rfl) (by kernel_rfl) (by kernel_rfl) (fun _ _ _ h => h) (Or.inl ⟨by rfl, ?yyu7⟩) (by assumption) ?rru7
  case yyu7 => (intro w hSw; (try dsimp only at hSw); go_simp; (try with_reducible rfl))
  try simp only [Act.put]
  refine wpAnyH_take (i := 4) (v := ?vvu8) rfl (by kernel_rfl) (by kernel_rfl) (by kernel_rfl) (fun _ _ _ h => h) (Or.inl ⟨by rfl, ?yyu8⟩) (by assumption) ?rru8
  case yyu8 => (intro w hSw; (try dsimp only at hSw); go_simp; (try with_reducible rfl))
  try simp only [Act.put]
  refine wpAnyH_ready (rs := [2]) (by kernel_rfl) (by simp) ?_
  refine AllReadyH.cons rfl (fun K hK => ?_) AllReadyH.nil
  go_simp
  go_wp2_with (go_at_call 59; refine (HMN.out _).mono ?_; rintro e9 w4 ⟨rfl, e4⟩; obtain rfl := e4.symm)
  refine hK.out _ _ (HSV.out _ HDY.out) (fun hHeld => ?_)
  clear hK K
  try simp only [Act.put]
  have hk := HKF.out
  clear HKF
  rcases hk with ⟨rfl, rfl⟩ | ⟨rfl, rfl⟩ | ⟨rfl, rfl⟩ | ⟨rfl, rfl⟩ | ⟨rfl, rfl⟩
  all_goals
    refine wpAnyH_ready (rs := [5]) (by kernel_rfl) (by simp) ?_
    refine AllReadyH.cons rfl (fun K hK => ?_) AllReadyH.nil
    go_simp
    go_wp2_with ((first | go_at_call 88 | go_at_call 89 | go_at_call 90 | go_at_call 91 | go_at_call 92); refine (HF.out _ HBY.out.drew).mono ?_; rintro e9 w5 ⟨rfl, hb5⟩)
    exact ⟨rfl, rfl, HBY.out.drew.trans (hb5.mono HBY.out.drew.size)⟩

set_option maxHeartbeats 4000000 in
set_option maxRecDepth 100000 in
theorem moved_yes {k : Int} {fn : Nat} (hk : KF k fn) (a : Option Addr) (cap : Nat) (C : List Cr) (loops : Int) (gF cF gT cT : Nat) (x y ua va : Int) (ub vb ov : Bool) (w : World) (lo : Int) (D : List Cr) (hF : ∀ W, Below w.heap.size w W → Calls Try.prog fn #[drV a cap C loops gF cF gT cT, mvV k x y ua ub va vb ov] W fun e w' => ∃ a2 c2, e = .returned (.agg #[.slice a2 D.length c2, .int .i64 lo]) ∧ w'.ownsRow W.heap.size 71 5 (.slice a2 D.length c2) D.length (crossCells D) ∧ Below W.heap.size W w') :
    Calls Try.prog 30 #[drV a cap C loops gF cF gT cT, mvV k x y ua ub va vb ov] w fun e w' => ∃ a2 c2, e = .returned (.agg #[.slice a2 D.length c2, .int .i64 lo]) ∧ w'.ownsRow w.heap.size 71 5 (.slice a2 D.length c2) D.length (crossCells D) ∧ Below w.heap.size w w' := by
  have HF := hid_of hF
  have HMN := hid_of (means_of hk)
  have HKF := hid_of hk
  clear hF hk
  unfold mvV at HF ⊢
  obtain ⟨Y, hY, hBY, hTY, hsY⟩ := bm_ex w a cap C loops gF cF gT cT k x y ua va ub vb ov
  have HBY := hid_of hBY
  have HCE := hid_of (bm_ce hTY)
  clear hBY hTY
  unfold drV at HF ⊢
  have HDY : Hid (Below Y.heap.size Y Y.drew) := (Below.refl _ _).drew
  have HSV : Hid (∀ W, Below Y.heap.size Y W → (fun X : World => X.cell? ⟨w.heap.size, 0, none⟩ = some (.slice a C.length cap) ∧ X.cell? ⟨w.heap.size, 1, none⟩ = some (.int .i64 loops) ∧ X.cell? ⟨w.heap.size, 2, none⟩ = some (.slice (some ⟨gF, 0, none⟩) (2 * C.length + 1) cF) ∧ X.cell? ⟨w.heap.size, 3, none⟩ = some (.slice (some ⟨gT, 0, none⟩) (2 * C.length + 1) cT) ∧ X.cell? ⟨w.heap.size + 1, 0, none⟩ = some (.int .i64 k) ∧ X.cell? ⟨w.heap.size + 1, 1, none⟩ = some (.int .i64 x) ∧ X.cell? ⟨w.heap.size + 1, 2, none⟩ = some (.int .i64 y) ∧ X.cell? ⟨w.heap.size + 1, 3, none⟩ = some (.int .i64 ua) ∧ X.cell? ⟨w.heap.size + 1, 4, none⟩ = some (.bool ub) ∧ X.cell? ⟨w.heap.size + 1, 5, none⟩ = some (.int .i64 va) ∧ X.cell? ⟨w.heap.size + 1, 6, none⟩ = some (.bool vb) ∧ X.cell? ⟨w.heap.size + 1, 7, none⟩ = some (.bool ov)) W) := fun W hW => by
    obtain ⟨⟨px, py, -⟩, -⟩ := HCE.out W hW
    exact ⟨block_cell px rfl, block_cell px rfl, block_cell px rfl, block_cell px rfl, block_cell py rfl, block_cell py rfl, block_cell py rfl, block_cell py rfl, block_cell py rfl, block_cell py rfl, block_cell py rfl, block_cell py rfl⟩
  have HY := hid_of hY
  clear hY
  go_enter Try.func30, Try.ntmps30
  go_wp2
  rw [HY.out]
  refine wp_region_held_drew (S := fun X : World => X.cell? ⟨w.heap.size, 0, none⟩ = some (.slice a C.length cap) ∧ X.cell? ⟨w.heap.size, 1, none⟩ = some (.int .i64 loops) ∧ X.cell? ⟨w.heap.size, 2, none⟩ = some (.slice (some ⟨gF, 0, none⟩) (2 * C.length + 1) cF) ∧ X.cell? ⟨w.heap.size, 3, none⟩ = some (.slice (some ⟨gT, 0, none⟩) (2 * C.length + 1) cT) ∧ X.cell? ⟨w.heap.size + 1, 0, none⟩ = some (.int .i64 k) ∧ X.cell? ⟨w.heap.size + 1, 1, none⟩ = some (.int .i64 x) ∧ X.cell? ⟨w.heap.size + 1, 2, none⟩ = some (.int .i64 y) ∧ X.cell? ⟨w.heap.size + 1, 3, none⟩ = some (.int .i64 ua) ∧ X.cell? ⟨w.heap.size + 1, 4, none⟩ = some (.bool ub) ∧ X.cell? ⟨w.heap.size + 1, 5, none⟩ = some (.int .i64 va) ∧ X.cell? ⟨w.heap.size + 1, 6, none⟩ = some (.bool vb) ∧ X.cell? ⟨w.heap.size + 1, 7, none⟩ = some (.bool ov)) (by kernel_rfl) (HSV.out _ HDY.out) (fun hHeld => ?_)
  refine wpAnyH_take (i := 0) (v := ?vvu9) rfl (by kernel_rfl) (by kernel_rfl) (by kernel_rfl) (fun _ _ _ h => h) (Or.inl ⟨by rfl, ?yyu9⟩) (by assumption) ?rru9
  case yyu9 => (intro w hSw; (try dsimp only at hSw); go_simp; (try with_reducible rfl))
  try simp only [Act.put]
  refine wpAnyH_take (i := 1) (v := ?vvu10) rfl (by kernel_rfl) (by kernel_rfl) (by kernel_rfl) (fun _ _ _ h => h) (Or.inl ⟨by rfl, ?yyu10⟩) (by assumption) ?rru10
  case yyu10 => (intro w hSw; (try dsimp only at hSw); go_simp; (try with_reducible rfl))
  try simp only [Act.put]
  refine wpAnyH_take (i := 3) (v := ?vvu11) rfl (by kernel_rfl) (by kernel_rfl) (by kernel_rfl) (fun _ _ _ h => h) (Or.inl ⟨by rfl, ?yyu11⟩) (by assumption) ?rru11
  case yyu11 => (intro w hSw; (try dsimp only at hSw); go_simp; (try with_reducible rfl))
  try simp only [Act.put]
  refine wpAnyH_take (i := 4) (v := ?vvu12) rfl (by kernel_rfl) (by kernel_rfl) (by kernel_rfl) (fun _ _ _ h => h) (Or.inl ⟨by rfl, ?yyu12⟩) (by assumption) ?rru12
  case yyu12 => (intro w hSw; (try dsimp only at hSw); go_simp; (try with_reducible rfl))
  try simp only [Act.put]
  refine wpAnyH_ready (rs := [2]) (by kernel_rfl) (by simp) ?_
  refine AllReadyH.cons rfl (fun K hK => ?_) AllReadyH.nil
  go_simp
  go_wp2_with (go_at_call 59; refine (HMN.out _).mono ?_; rintro e9 w4 ⟨rfl, e4⟩; obtain rfl := e4.symm)
  refine hK.out _ _ (HSV.out _ HDY.out) (fun hHeld => ?_)
  clear hK K
  try simp only [Act.put]
  have HZS := hid_of (fun (w5 : World) (v0 v1 : Value) (hB5 : Below Y.heap.size Y w5) => show (fun X : World => X.cell? ⟨w.heap.size, 0, none⟩ = some (.slice a C.length cap) ∧ X.cell? ⟨w.heap.size, 1, none⟩ = some (.int .i64 loops) ∧ X.cell? ⟨w.heap.size, 2, none⟩ = some (.slice (some ⟨gF, 0, none⟩) (2 * C.length + 1) cF) ∧ X.cell? ⟨w.heap.size, 3, none⟩ = some (.slice (some ⟨gT, 0, none⟩) (2 * C.length + 1) cT) ∧ X.cell? ⟨w.heap.size + 1, 0, none⟩ = some (.int .i64 k) ∧ X.cell? ⟨w.heap.size + 1, 1, none⟩ = some (.int .i64 x) ∧ X.cell? ⟨w.heap.size + 1, 2, none⟩ = some (.int .i64 y) ∧ X.cell? ⟨w.heap.size + 1, 3, none⟩ = some (.int .i64 ua) ∧ X.cell? ⟨w.heap.size + 1, 4, none⟩ = some (.bool ub) ∧ X.cell? ⟨w.heap.size + 1, 5, none⟩ = some (.int .i64 va) ∧ X.cell? ⟨w.heap.size + 1, 6, none⟩ = some (.bool vb) ∧ X.cell? ⟨w.heap.size + 1, 7, none⟩ = some (.bool ov)) ((w5.setCell ⟨w.heap.size + 1 + 1, 0, none⟩ v0).setCell ⟨w.heap.size + 1 + 1, 1, none⟩ v1) by
    have hg := grown_trans (set_grown w5 (w.heap.size + 1 + 1) 0 v0) (set_grown (w5.setCell ⟨w.heap.size + 1 + 1, 0, none⟩ v0) (w.heap.size + 1 + 1) 1 v1)
    obtain ⟨⟨px, py, -⟩, -⟩ := HCE.out w5 hB5
    have px' := (hg.block _ (Array.getElem?_eq_some_iff.1 px).1 (fun e => by have := Option.some.inj e; omega)).trans px
    have py' := (hg.block _ (Array.getElem?_eq_some_iff.1 py).1 (fun e => by have := Option.some.inj e; omega)).trans py
    exact ⟨block_cell px' rfl, block_cell px' rfl, block_cell px' rfl, block_cell px' rfl, block_cell py' rfl, block_cell py' rfl, block_cell py' rfl, block_cell py' rfl, block_cell py' rfl, block_cell py' rfl, block_cell py' rfl, block_cell py' rfl⟩)
  have hk := HKF.out
  clear HKF
  rcases hk with ⟨rfl, rfl⟩ | ⟨rfl, rfl⟩ | ⟨rfl, rfl⟩ | ⟨rfl, rfl⟩ | ⟨rfl, rfl⟩
  all_goals
    refine wpAnyH_ready (rs := [5]) (by kernel_rfl) (by simp) ?_
    refine AllReadyH.cons rfl (fun K hK => ?_) AllReadyH.nil
    go_simp
    go_wp2_with ((first | go_at_call 88 | go_at_call 89 | go_at_call 90 | go_at_call 91 | go_at_call 92); refine (HF.out _ HBY.out.drew).mono ?_; rintro e9 w5 ⟨a2, c2, rfl, ho5, hb5⟩)
    have HO5 := hid_of ho5
    have HB5 := hid_of (HDY.out.trans (hb5.mono HDY.out.size))
    have hs5 := hb5.size
    refine hK.out _ _ (HSV.out _ HB5.out) (fun hHeld => ?_)
    clear hK K ho5 hb5
    try simp only [Act.put]
    refine wpAnyH_ready (rs := [6]) (by kernel_rfl) (by simp) ?_
    refine AllReadyH.cons rfl (fun K hK => ?_) AllReadyH.nil
    obtain ⟨ql0, ql1, ql2, qb0, qb1, qb2, qb3, qm0, qm1, qm2, qm3, qm4, qm5, qm6, qm7, qr0, qr1, qf0, qf1⟩ := bm_cells (HCE.out w5 (HB5.out))
    have qZ := hid_of (HCE.out w5 (HB5.out)).1.2.2
    have HZ := hid_of (st2D (a := .slice a2 D.length c2) (b := .int .i64 lo) qZ.out)
    go_simp
    refine hK.out _ _ (HZS.out _ _ _ HB5.out) (fun hHeld => ?_)
    clear hK K HZS
    try simp only [Act.put]
    refine wpAnyH_done (by kernel_rfl) ?_ _
    clear hHeld
    go_wp2
    have x0 := block_cell (i := 0) (v := .slice a2 D.length c2) HZ.out rfl
    have x1 := block_cell (i := 1) (v := .int .i64 lo) HZ.out rfl
    refine bodyPost_ret (v := .agg #[.slice a2 D.length c2, .int .i64 lo]) (by simp [results, Try.results30, go_sem, x0, x1]) rfl ⟨a2, c2, rfl, ?_, ?_⟩
    · exact own_low (own_two HO5.out (by show w.heap.size + 1 + 1 < Y.heap.size; omega) _ _) (by show w.heap.size ≤ Y.heap.size; omega)
    · exact ((HBY.out.trans (HB5.out.mono (by omega))).setCell (p := ⟨w.heap.size + 1 + 1, 0, none⟩) (by simp only; omega) _).setCell (p := ⟨w.heap.size + 1 + 1, 1, none⟩) (by simp only; omega) _
end Go.Proofs.Ytagaajlbkfkaiaa
/- Takings: what may be taken out of a diagram, in their order, and the road of a diagram to a simple one: plain mathematics. -/
namespace Go.Proofs.Ytagaajlbkfkaiaa
open Go.RowKit

/-- May these crossings be taken out: one as a curl, two by a pull? -/
def okG (C : List Cr) (lo : Int) : List Nat → Bool
  | [x] => caB C x && decide (takL C lo [x] ≤ 16)
  | [x, y] => (facesM C).any (jlR C x y) && decide (takL C lo [x, y] ≤ 16)
  | _ => false
def tkU (n : Nat) : List (List Nat) := (List.range n).map fun x => [x]
def tkR (x m : Nat) : List (List Nat) := (List.range m).map fun j => [x, x + 1 + j]
def tkP (n x : Nat) : List (List Nat) := (List.range x).flatMap fun i => tkR i (n - (i + 1))
/-- All that is tried, in its order. -/
def tkA (n : Nat) : List (List Nat) := tkU n ++ tkP n n
def nextG (C : List Cr) (lo : Int) : Option (List Nat) := (tkA C.length).find? (okG C lo)

theorem tkU_next (n : Nat) : tkU (n + 1) = tkU n ++ [[n]] := by simp [tkU, List.range_succ]
theorem tkR_next (x m : Nat) : tkR x (m + 1) = tkR x m ++ [[x, x + 1 + m]] := by simp [tkR, List.range_succ]
theorem tkP_next (n x : Nat) : tkP n (x + 1) = tkP n x ++ tkR x (n - (x + 1)) := by simp [tkP, List.range_succ, List.flatMap_append]
theorem mem_tkU {n : Nat} {G : List Nat} : G ∈ tkU n ↔ ∃ x, x < n ∧ G = [x] := by
  simp only [tkU, List.mem_map, List.mem_range]
  exact ⟨fun ⟨x, h, e⟩ => ⟨x, h, e.symm⟩, fun ⟨x, h, e⟩ => ⟨x, h, e.symm⟩⟩
theorem mem_tkR {x m : Nat} {G : List Nat} : G ∈ tkR x m ↔ ∃ y, x < y ∧ y < x + 1 + m ∧ G = [x, y] := by
  simp only [tkR, List.mem_map, List.mem_range]
  constructor
  · rintro ⟨j, h, rfl⟩
    exact ⟨x + 1 + j, by omega, by omega, rfl⟩
  · rintro ⟨y, h1, h2, rfl⟩
    exact ⟨y - (x + 1), by omega, by rw [show x + 1 + (y - (x + 1)) = y by omega]⟩
theorem mem_tkP {n i : Nat} {G : List Nat} : G ∈ tkP n i ↔ ∃ x y, x < i ∧ x < y ∧ y < n ∧ G = [x, y] := by
  simp only [tkP, List.mem_flatMap, List.mem_range, mem_tkR]
  constructor
  · rintro ⟨x, h, y, h1, h2, rfl⟩
    exact ⟨x, y, h, h1, by omega, rfl⟩
  · rintro ⟨x, y, h, h1, h2, rfl⟩
    exact ⟨x, h, y, h1, by omega, rfl⟩
theorem mem_tkA {n : Nat} {G : List Nat} : G ∈ tkA n ↔ (∃ x, x < n ∧ G = [x]) ∨ ∃ x y, x < y ∧ y < n ∧ G = [x, y] := by
  simp only [tkA, List.mem_append, mem_tkU, mem_tkP]
  constructor
  · rintro (h | ⟨x, y, h, h1, h2, rfl⟩)
    · exact Or.inl h
    · exact Or.inr ⟨x, y, h1, h2, rfl⟩
  · rintro (h | ⟨x, y, h1, h2, rfl⟩)
    · exact Or.inl h
    · exact Or.inr ⟨x, y, by omega, h1, h2, rfl⟩
theorem find_mid {α : Type} (p : α → Bool) (l r : List α) (x : α) (hl : ∀ y, y ∈ l → p y = false) (hx : p x = true) : (l ++ x :: r).find? p = some x := by
  induction l with
  | nil => simp [hx]
  | cons a l ih =>
    rw [List.cons_append, List.find?_cons, hl a (by simp)]
    exact ih fun y hy => hl y (by simp [hy])
theorem find_all {α : Type} (p : α → Bool) (l : List α) (hl : ∀ y, y ∈ l → p y = false) : l.find? p = none := by
  rw [List.find?_eq_none]
  exact fun y hy => by rw [hl y hy]; decide
/-- What comes ahead of a place, as a list. -/
theorem next_at (C : List Cr) (lo : Int) (i : Nat) (G : List Nat) (hi : (tkA C.length)[i]? = some G) (hb : ∀ (j : Nat) (G' : List Nat), j < i → (tkA C.length)[j]? = some G' → okG C lo G' = false) (hG : okG C lo G = true) : nextG C lo = some G := by
  obtain ⟨h1, h2⟩ := List.getElem?_eq_some_iff.1 hi
  have e : tkA C.length = (tkA C.length).take i ++ G :: (tkA C.length).drop (i + 1) := by
    rw [← h2, List.getElem_cons_drop, List.take_append_drop]
  unfold nextG
  rw [e]
  refine find_mid _ _ _ _ (fun y hy => ?_) hG
  obtain ⟨j, hj, e2⟩ := List.mem_iff_getElem.1 hy
  have hj2 : j < i := by
    have := hj
    rw [List.length_take] at this
    omega
  refine hb j y hj2 ?_
  rw [← e2, List.getElem_take]
  exact List.getElem?_eq_getElem _
theorem next_no (C : List Cr) (lo : Int) (hb : ∀ (j : Nat) (G' : List Nat), (tkA C.length)[j]? = some G' → okG C lo G' = false) : nextG C lo = none := by
  refine find_all _ _ fun y hy => ?_
  obtain ⟨j, hj, e2⟩ := List.mem_iff_getElem.1 hy
  exact hb j y (by rw [← e2]; exact List.getElem?_eq_getElem _)
theorem next_u (C : List Cr) (lo : Int) (c : Nat) (hc : c < C.length) (hb : ∀ x, x < c → okG C lo [x] = false) (h : okG C lo [c] = true) : nextG C lo = some [c] := by
  have e : tkA C.length = tkU c ++ [c] :: (((List.range (C.length - (c + 1))).map fun j => [c + 1 + j]) ++ tkP C.length C.length) := by
    unfold tkA
    rw [← List.cons_append, ← List.append_assoc]
    congr 1
    have : C.length = c + (1 + (C.length - (c + 1))) := by omega
    unfold tkU
    conv => lhs; rw [this]
    rw [List.range_add, List.map_append, List.range_add]
    simp [Nat.add_assoc]
  unfold nextG
  rw [e]
  refine find_mid _ _ _ _ (fun y hy => ?_) h
  obtain ⟨x, hx, rfl⟩ := mem_tkU.1 hy
  exact hb x hx
theorem next_p (C : List Cr) (lo : Int) (i j : Nat) (hij : i < j) (hj : j < C.length) (hu : ∀ x, x < C.length → okG C lo [x] = false) (hb : ∀ x y, x < y → y < C.length → (x < i ∨ x = i ∧ y < j) → okG C lo [x, y] = false) (h : okG C lo [i, j] = true) : nextG C lo = some [i, j] := by
  have e : ∃ r, tkA C.length = (tkU C.length ++ tkP C.length i ++ tkR i (j - (i + 1))) ++ [i, j] :: r := by
    refine ⟨((List.range (C.length - (j + 1))).map fun k => [i, j + 1 + k]) ++ ((List.range (C.length - (i + 1))).flatMap fun k => tkR (i + 1 + k) (C.length - (i + 1 + k + 1))), ?_⟩
    unfold tkA
    rw [List.append_assoc, List.append_assoc]
    congr 1
    have e1 : C.length = i + (1 + (C.length - (i + 1))) := by omega
    have e2 : tkR i (C.length - (i + 1)) = tkR i (j - (i + 1)) ++ [i, j] :: ((List.range (C.length - (j + 1))).map fun k => [i, j + 1 + k]) := by
      have e3 : C.length - (i + 1) = (j - (i + 1)) + (1 + (C.length - (j + 1))) := by omega
      unfold tkR
      rw [e3, List.range_add, List.map_append, List.range_add]
      simp
      refine ⟨by omega, fun a _ => by omega⟩
    unfold tkP
    have e4 : List.range C.length = List.range i ++ i :: (List.range (C.length - (i + 1))).map (fun k => i + 1 + k) := by
      conv => lhs; rw [e1]
      rw [List.range_add, List.range_add]
      simp [Nat.add_assoc]
    rw [e4, List.flatMap_append, List.flatMap_cons, e2]
    simp [List.flatMap_map]
  obtain ⟨r, e⟩ := e
  unfold nextG
  rw [e]
  refine find_mid _ _ _ _ (fun y hy => ?_) h
  rcases List.mem_append.1 hy with hy | hy
  · rcases List.mem_append.1 hy with hy | hy
    · obtain ⟨x, hx, rfl⟩ := mem_tkU.1 hy
      exact hu x hx
    · obtain ⟨x, z, h1, h2, h3, rfl⟩ := mem_tkP.1 hy
      exact hb x z h2 h3 (Or.inl h1)
  · obtain ⟨z, h2, h3, rfl⟩ := mem_tkR.1 hy
    exact hb i z h2 (by omega) (Or.inr ⟨rfl, by omega⟩)
theorem next_end (C : List Cr) (lo : Int) (hu : ∀ x, x < C.length → okG C lo [x] = false) (hb : ∀ x y, x < y → y < C.length → okG C lo [x, y] = false) : nextG C lo = none := by
  refine find_all _ _ fun y hy => ?_
  rcases mem_tkA.1 hy with ⟨x, hx, rfl⟩ | ⟨x, z, h1, h2, rfl⟩
  · exact hu x hx
  · exact hb x z h1 h2
theorem reTo_less {C : List Cr} {G : List Nat} {h : Nat → Nat} {g : Nat} (hg : g ∈ G) : ∀ i, g < i → (reTo C G h i).length < i
  | 0, hi => absurd hi (Nat.not_lt_zero _)
  | i + 1, hi => by
    rw [reTo_next]
    by_cases hm : i ∈ G
    · rw [if_pos hm]
      have := reTo_len C G h i
      omega
    · rw [if_neg hm]
      have h1 : g ≠ i := fun e => hm (e ▸ hg)
      have := reTo_less (C := C) (h := h) hg i (by omega)
      simp
      omega
theorem next_mem {C : List Cr} {lo : Int} {G : List Nat} (h : nextG C lo = some G) : G ∈ tkA C.length ∧ okG C lo G = true := ⟨List.mem_of_find?_eq_some h, List.find?_some h⟩
/-- What is taken out leaves a planar diagram of fewer crossings. -/
theorem next_step {C : List Cr} {lo : Int} {G : List Nat} (hm : mayD C lo = true) (hp : planarB C = true) (h : nextG C lo = some G) : mayD (takC C G) (takL C lo G) = true ∧ planarB (takC C G) = true ∧ (takC C G).length < C.length := by
  obtain ⟨h1, h2⟩ := next_mem h
  rcases mem_tkA.1 h1 with ⟨x, hx, rfl⟩ | ⟨x, y, hxy, hy, rfl⟩
  · have h3 : caB C x = true ∧ takL C lo [x] ≤ 16 := by simpa [okG] using h2
    have h4 := curl_one hm hp hx h3.1 rfl h3.2
    exact ⟨h4.1, h4.2, reTo_less (g := x) (by simp) _ hx⟩
  · have h3 : (facesM C).any (jlR C x y) = true ∧ takL C lo [x, y] ≤ 16 := by
      have h4 : ((facesM C).any (jlR C x y) && decide (takL C lo [x, y] ≤ 16)) = true := h2
      rw [Bool.and_eq_true] at h4
      exact ⟨h4.1, of_decide_eq_true h4.2⟩
    obtain ⟨l, hl, hj⟩ := List.any_eq_true.1 h3.1
    unfold jlR at hj
    simp only [Bool.and_eq_true, Bool.or_eq_true, decide_eq_true_eq] at hj
    have h4 := pull_two hm hp hl hj.1 (by omega : x ≠ y) hj.2.1 rfl h3.2
    exact ⟨h4.1, h4.2, reTo_less (g := y) (by simp) _ hy⟩
/-- The road of a diagram to a simple one. -/
structure Road (N : Nat) (S : Nat → List Cr) (L : Nat → Int) (G : Nat → List Nat) : Prop where
  may : ∀ i, i ≤ N → mayD (S i) (L i) = true
  flat : ∀ i, i ≤ N → planarB (S i) = true
  goes : ∀ i, i < N → nextG (S i) (L i) = some (G i)
  next : ∀ i, i < N → S (i + 1) = takC (S i) (G i) ∧ L (i + 1) = takL (S i) (L i) (G i)
  fewer : ∀ i, i ≤ N → (S i).length + i ≤ (S 0).length
  ends : nextG (S N) (L N) = none
theorem road_tk : ∀ (n : Nat) (C : List Cr) (lo : Int), C.length ≤ n → mayD C lo = true → planarB C = true → ∃ N S L G, S 0 = C ∧ L 0 = lo ∧ Road N S L G := by
  intro n
  induction n with
  | zero =>
    intro C lo hn hm hp
    refine ⟨0, fun _ => C, fun _ => lo, fun _ => [], rfl, rfl, fun _ _ => hm, fun _ _ => hp, fun i hi => absurd hi (Nat.not_lt_zero _), fun i hi => absurd hi (Nat.not_lt_zero _), fun i hi => by omega, ?_⟩
    exact next_end C lo (fun x hx => by omega) (fun x y _ hy => by omega)
  | succ n ih =>
    intro C lo hn hm hp
    cases h : nextG C lo with
    | none => exact ⟨0, fun _ => C, fun _ => lo, fun _ => [], rfl, rfl, fun _ _ => hm, fun _ _ => hp, fun i hi => absurd hi (Nat.not_lt_zero _), fun i hi => absurd hi (Nat.not_lt_zero _), fun i hi => by omega, h⟩
    | some G0 =>
      obtain ⟨h1, h2, h3⟩ := next_step hm hp h
      obtain ⟨N, S, L, G, e1, e2, hR⟩ := ih (takC C G0) (takL C lo G0) (by omega) h1 h2
      refine ⟨N + 1, fun i => if i = 0 then C else S (i - 1), fun i => if i = 0 then lo else L (i - 1), fun i => if i = 0 then G0 else G (i - 1), rfl, rfl, fun i hi => ?_, fun i hi => ?_, fun i hi => ?_, fun i hi => ?_, fun i hi => ?_, ?_⟩
      · rcases i with _ | i
        · exact hm
        · exact hR.may i (by omega)
      · rcases i with _ | i
        · exact hp
        · exact hR.flat i (by omega)
      · rcases i with _ | i
        · exact h
        · exact hR.goes i (by omega)
      · rcases i with _ | i
        · exact ⟨e1, e2⟩
        · exact hR.next i (by omega)
      · rcases i with _ | i
        · exact Nat.le_refl _
        · have h4 := hR.fewer i (by omega)
          rw [e1] at h4
          show (S i).length + (i + 1) ≤ C.length
          omega
      · exact hR.ends
end Go.Proofs.Ytagaajlbkfkaiaa

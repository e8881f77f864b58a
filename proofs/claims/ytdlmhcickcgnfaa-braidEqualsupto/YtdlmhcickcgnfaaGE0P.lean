/- Several texts of the proof, one behind the other. -/
import Derived.Test.YtdlmhcickcgnfaaGB8
import Derived.Test.YtdlmhcickcgnfaaBR11
import Derived.Test.YtdlmhcickcgnfaaGD3P
import Derived.Test.YtdlmhcickcgnfaaIlP
/- The walk of SameActs: whether two words do the same. -/
namespace Go.Proofs.Ytdlmhcickcgnfaa
open Go.RowKit

theorem gdI_ext {l r : List Int} (h : l.length = r.length) (he : ∀ m, m < l.length → l.getD m 0 = r.getD m 0) : l = r := by
  refine List.ext_getElem h fun m h1 h2 => ?_
  have := he m h1
  simpa [List.getD_eq_getElem?_getD, h1, h2] using this
theorem gdL_ext {l r : List (List Int)} (h : l.length = r.length) (he : ∀ m, m < l.length → l.getD m [] = r.getD m []) : l = r := by
  refine List.ext_getElem h fun m h1 h2 => ?_
  have := he m h1
  simpa [List.getD_eq_getElem?_getD, h1, h2] using this

set_option maxHeartbeats 8000000 in
set_option maxRecDepth 100000 in
theorem sameActs_any (n c1 c2 : Nat) (a1 a2 : Option Addr) (u v : List Int) (w : World) (hu : wordN (n : Int) u = 0) (hv : wordN (n : Int) v = 0) (h1 : RdAt w w.heap.size 1 (.slice a1 u.length c1) u.length (intsV u)) (h2 : RdAt w w.heap.size 1 (.slice a2 v.length c2) v.length (intsV v)) :
    Calls Try.prog 9 #[.int .i64 (n : Nat), .slice a1 u.length c1, .slice a2 v.length c2] w fun e w' => e = .returned (.bool (decide (actT n u u.length = actT n v v.length))) ∧ Below w.heap.size w w' := by
  obtain ⟨n2, n6, -, hu20⟩ := wordN_ok hu
  obtain ⟨-, -, -, hv20⟩ := wordN_ok hv
  have HA1 := hid_g (fun W (hW : Below w.heap.size w W) => actOf_any a1 c1 n u W hu ((h1.on hW).mono hW.size))
  have HA2 := hid_g (fun W (hW : Below w.heap.size w W) => actOf_any a2 c2 n v W hv ((h2.on hW).mono hW.size))
  have hoku := actT_ok n (by omega) u u.length (Nat.le_refl _)
  have hokv := actT_ok n (by omega) v v.length (Nat.le_refl _)
  have HTU : Hid ((actT n u u.length).length = n ∧ ∀ j, ((actT n u u.length).getD j []).length ≤ 20000000000) := (⟨hoku.ln, fun j => by have h1 := hoku.len j; have h2 := three_pow u.length hu20; omega⟩ : (actT n u u.length).length = n ∧ ∀ j, ((actT n u u.length).getD j []).length ≤ 20000000000)
  have HTV : Hid ((actT n v v.length).length = n) := hokv.ln
  obtain ⟨q1, hq1⟩ : ∃ q1, u.length = q1 := ⟨_, rfl⟩
  obtain ⟨q2, hq2⟩ : ∃ q2, v.length = q2 := ⟨_, rfl⟩
  rw [hq1] at HA1 HTU ⊢
  rw [hq2] at HA2 HTV ⊢
  obtain ⟨X, hX⟩ : ∃ X, actT n u q1 = X := ⟨_, rfl⟩
  obtain ⟨Y, hY⟩ : ∃ Y, actT n v q2 = Y := ⟨_, rfl⟩
  rw [hX] at HA1 HTU ⊢
  rw [hY] at HA2 HTV ⊢
  have hn6 : n ≤ 6 := by omega
  clear h1 h2 hu hv hoku hokv hq1 hq2 hX hY hu20 hv20
  go_enter Try.func9, Try.ntmps9
  have HC1 := hid_g (HA1.out w (Below.refl _ _))
  clear HA1
  go_wp2_with (first | (go_at_call 19; refine HC1.out.mono ?_; rintro e9 w1 ⟨a3, c3, rfl, hx3, hb1⟩; refine Hid.out ?_))
  refine Lib.hid ?_
  have HB1 := hid_g hb1
  have HX3 := hid_g hx3
  have HC2 := hid_g (HA2.out w1 HB1.out)
  clear hb1 hx3 HC1 HA2
  go_wp2_with (first | (go_at_call 19; refine HC2.out.mono ?_; rintro e9 w2 ⟨a4, c4, rfl, hx4, hb2⟩; refine Hid.out ?_))
  refine Lib.hid ?_
  have HB2 := hid_g (HB1.out.trans (hb2.mono HB1.out.size))
  have HX4 := hid_g hx4
  have HX3b := hid_g (HX3.out.up hb2)
  clear hb2 hx4 HC2 HX3 HB1
  go_wp2
  go_loopw [9] (fun v9 wr => ∃ i : Nat, i ≤ n ∧ v9 = .int .i64 (i : Nat) ∧ Hid (∀ j, j < i → X.getD j [] = Y.getD j []) ∧ Hid (Below w2.heap.size w2 wr)) (fun v9 _ => n - (intOf v9).toNat)
  case atStart => exact ⟨0, Nat.zero_le _, rfl, fun i hi => by omega, Below.refl _ _⟩
  case round =>
    rename World => W1
    obtain ⟨i, hin, rfl, hq, hb⟩ := hrel
    by_cases hil : i < n
    · obtain ⟨b1, o1, r1, s1, e1, l1, p1, x1⟩ := (show IntsRd w2 w2.heap.size (.slice a3 X.length c3) X by rw [HTU.out.1]; exact HX3b.out).row i (by rw [HTU.out.1]; exact hil)
      obtain ⟨b2, o2, r2, s2, e2, l2, p2, x2⟩ := (show IntsRd w2 w2.heap.size (.slice a4 Y.length c4) Y by rw [HTV.out]; exact HX4.out).row i (by rw [HTV.out]; exact hil)
      obtain rfl := e1
      obtain rfl := e2
      have g1 := bcell hb.out l1 p1
      have g2 := bcell hb.out l2 p2
      have hii : (i : Int) < (n : Int) := by omega
      have hk1 : b1 < W1.heap.size := Nat.lt_of_lt_of_le l1 hb.out.size
      have hk2 : b2 < W1.heap.size := Nat.lt_of_lt_of_le l2 hb.out.size
      obtain ⟨N1, hN1⟩ : ∃ N1, (X.getD i []).length = N1 := ⟨_, rfl⟩
      obtain ⟨N2, hN2⟩ : ∃ N2, (Y.getD i []).length = N2 := ⟨_, rfl⟩
      rw [hN1] at g1 x1 p1
      rw [hN2] at g2 x2 p2
      have HR1 := hid_g (fun W (hW : Below w2.heap.size w2 W) => x1.on hW)
      have HR2 := hid_g (fun W (hW : Below w2.heap.size w2 W) => x2.on hW)
      have HN1 := hid_g hN1
      have HN2 := hid_g hN2
      have hNB : N1 ≤ 20000000000 := by rw [← hN1]; exact HTU.out.2 i
      have HP1 := hid_g p1
      have HP2 := hid_g p2
      clear x1 x2 p1 p2 hN1 hN2
      by_cases hNN : N1 = N2
      · subst hNN
        have hne : ((N1 : Int) != (N1 : Int)) = false := by simp
        go_wp2
        go_quiet (fail)
        have HBD : Hid (Below w2.heap.size w2 (W1.drewN nq)) := below_drewN hb.out nq
        generalize W1.drewN nq = W2 at HBD ⊢
        clear g1 g2 hb hk1 hk2
        go_wp2
        go_loopw [10] (fun v10 wr => ∃ k : Nat, k ≤ N1 ∧ v10 = .int .i64 (k : Nat) ∧ Hid (∀ j, j < k → (X.getD i []).getD j 0 = (Y.getD i []).getD j 0) ∧ Hid (Below w2.heap.size w2 wr)) (fun v10 _ => N1 - (intOf v10).toNat)
        case atStart => exact ⟨0, Nat.zero_le _, rfl, fun i hi => by omega, HBD.out⟩
        case round =>
          rename World => W3
          obtain ⟨k, hkn, rfl, hqk, hb3⟩ := hrel
          have g1 := bcell hb3.out l1 HP1.out
          have g2 := bcell hb3.out l2 HP2.out
          have hk1 : b1 < W3.heap.size := Nat.lt_of_lt_of_le l1 hb3.out.size
          have hk2 : b2 < W3.heap.size := Nat.lt_of_lt_of_le l2 hb3.out.size
          by_cases hk : k < N1
          · have hkI : (k : Int) < (N1 : Int) := by omega
            obtain ⟨d1, p1, ea1, hlt1, hc1⟩ := (show RdAt W3 w2.heap.size 1 (.slice r1 (X.getD i []).length s1) (X.getD i []).length (intsV (X.getD i [])) by rw [HN1.out]; exact HR1.out _ hb3.out).intAt k (by rw [HN1.out]; exact hk)
            obtain ⟨d2, p2, ea2, hlt2, hc2⟩ := (show RdAt W3 w2.heap.size 1 (.slice r2 (Y.getD i []).length s2) (Y.getD i []).length (intsV (Y.getD i [])) by rw [HN2.out]; exact HR2.out _ hb3.out).intAt k (by rw [HN2.out]; exact hk)
            obtain ⟨x, hx⟩ : ∃ x, (X.getD i []).getD k 0 = x := ⟨_, rfl⟩
            obtain ⟨y, hy⟩ : ∃ y, (Y.getD i []).getD k 0 = y := ⟨_, rfl⟩
            rw [hx] at hc1
            rw [hy] at hc2
            have HXY := hid_g (And.intro hx hy)
            have lb1 : d1 < W3.heap.size := Nat.lt_of_lt_of_le hlt1 hb3.out.size
            have lb2 : d2 < W3.heap.size := Nat.lt_of_lt_of_le hlt2 hb3.out.size
            clear hx hy
            subst ea1 ea2
            by_cases e : x = y
            · subst e
              have hd : (x != x) = false := by simp
              have HNX : Hid (∀ j, j < k + 1 → (X.getD i []).getD j 0 = (Y.getD i []).getD j 0) := fun j hj => by
                by_cases e : j = k
                · rw [e, HXY.out.1, HXY.out.2]
                · exact hqk.out j (by omega)
              go_wp2
              go_quiet (fail)
              have HBE : Hid (Below w2.heap.size w2 (W3.drewN nq)) := below_drewN hb3.out nq
              generalize W3.drewN nq = W4 at HBE ⊢
              go_wp2
              go_roundw
              case rel => exact ⟨k + 1, by omega, by go_num, HNX, HBE⟩
              case measure => simp only [intOf]; omega
            · have hd : (x != y) = true := by simpa using e
              have HNE : decide (X = Y) = false := decide_eq_false (fun h => e (by rw [← HXY.out.1, ← HXY.out.2, h]))
              go_wp2
              go_quiet (fail)
              have HBE : Hid (Below w2.heap.size w2 (W3.drewN nq)) := below_drewN hb3.out nq
              generalize W3.drewN nq = W4 at HBE ⊢
              go_wp2
              go_ret
              exact ⟨by rw [HNE]; rfl, HB2.out.trans (HBE.out.mono HB2.out.size)⟩
          · obtain rfl : k = N1 := by omega
            have HNX : Hid (∀ j, j < i + 1 → X.getD j [] = Y.getD j []) := fun j hj => by
              by_cases e : j = i
              · rw [e]
                exact gdI_ext (HN1.out.trans HN2.out.symm) (fun m hm => hqk.out m (by rw [HN1.out] at hm; exact hm))
              · exact hq.out j (by omega)
            go_wp2
            go_roundw
            case rel => exact ⟨i + 1, by omega, by go_num, HNX, hb3⟩
            case measure => simp only [intOf]; omega
      · have hne : ((N1 : Int) != (N2 : Int)) = true := by simp; omega
        have HNE : decide (X = Y) = false := decide_eq_false (fun h => hNN (by rw [← HN1.out, ← HN2.out, h]))
        go_wp2
        go_quiet (fail)
        have HBD : Hid (Below w2.heap.size w2 (W1.drewN nq)) := below_drewN hb.out nq
        generalize W1.drewN nq = W2 at HBD ⊢
        go_wp2
        go_ret
        exact ⟨by rw [HNE]; rfl, HB2.out.trans (HBD.out.mono HB2.out.size)⟩
    · obtain rfl : i = n := by omega
      have HYE : decide (X = Y) = true := decide_eq_true (gdL_ext (HTU.out.1.trans HTV.out.symm) (fun m hm => hq.out m (by rw [HTU.out.1] at hm; exact hm)))
      go_wp2
      go_ret
      exact ⟨by rw [HYE]; rfl, HB2.out.trans (hb.out.mono HB2.out.size)⟩
end Go.Proofs.Ytdlmhcickcgnfaa
/- The law BraidEquals: its walk. -/
namespace Go.Proofs.Ytdlmhcickcgnfaa
open Go.RowKit

set_option maxHeartbeats 8000000 in
set_option maxRecDepth 100000 in
theorem braidEquals_any (n : Int) (a a' : Option Addr) (c c' : Nat) (l l' : List Int) (w : World) (hl : l.length * 8 ≤ 140737488355328) (hl' : l'.length * 8 ≤ 140737488355328) (hll : (l.length + l'.length) * 8 ≤ 140737488355328) (h : InAt w w.heap.size 1 (.slice a l.length c) l.length (intsV l)) (h' : InAt w w.heap.size 1 (.slice a' l'.length c') l'.length (intsV l')) :
    Calls Try.prog 3 #[.int .i64 n, .slice a l.length c, .slice a' l'.length c'] w fun e w' => e = .returned (.bool true) ∧ Below w.heap.size w w' := by
  have HI : Hid (∀ W, Below w.heap.size w W → InAt W W.heap.size 1 (.slice a l.length c) l.length (intsV l)) := fun W hW => h.up hW
  have HI' : Hid (∀ W, Below w.heap.size w W → InAt W W.heap.size 1 (.slice a' l'.length c') l'.length (intsV l')) := fun W hW => h'.up hW
  have HC : Hid (∀ W, Below w.heap.size w W → Calls Try.prog 7 #[.slice a l.length c] W fun e w' => ∃ a' c', e = .returned (.slice a' l.length c') ∧ RdAt w' w'.heap.size 1 (.slice a' l.length c') l.length (intsV l) ∧ Below W.heap.size W w') := fun W hW => intsL_copy a c l W hl (HI.out W hW)
  have HD : Hid (∀ W, Below w.heap.size w W → Calls Try.prog 7 #[.slice a' l'.length c'] W fun e w' => ∃ a2 c2, e = .returned (.slice a2 l'.length c2) ∧ RdAt w' w'.heap.size 1 (.slice a2 l'.length c2) l'.length (intsV l') ∧ Below W.heap.size W w') := fun W hW => intsL_copy a' c' l' W hl' (HI'.out W hW)
  have HM : Hid (∀ W, Below w.heap.size w W → Calls Try.prog 8 #[.int .i64 n, .slice a l.length c, .slice a' l'.length c'] W fun e w' => e = .returned (.int .i64 (wordsN n [l, l'])) ∧ Below W.heap.size W w') := fun W hW => wordsMay_any a a' c c' l l' n W hl hl' hll (HI.out W hW) (HI'.out W hW)
  clear h h' hll
  by_cases hn : wordsN n [l, l'] = 0
  · obtain ⟨hu, hv⟩ := wordsN_ok hn
    obtain ⟨n2, n6, -, hl20⟩ := wordN_ok hu
    obtain ⟨m, rfl⟩ : ∃ m : Nat, n = (m : Int) := ⟨n.toNat, by omega⟩
    have hm6 : m ≤ 6 := by omega
    have hm2 : 2 ≤ m := by omega
    have hact : decide (actT m l l.length = actT m l' l'.length) = decide (nfW m l = nfW m l') := decide_eq_decide.2 (faith hm2 hm6 (wordN_mem hu) (wordN_mem hv)).symm
    have HE : Hid (∀ a1 c1 a2 c2 W, RdAt W W.heap.size 1 (.slice a1 l.length c1) l.length (intsV l) → RdAt W W.heap.size 1 (.slice a2 l'.length c2) l'.length (intsV l') → Calls Try.prog 6 #[.int .i64 (m : Nat), .slice a1 l.length c1, .slice a2 l'.length c2] W fun e w' => e = .returned (.tuple #[.bool (decide (nfW m l = nfW m l')), .int .i64 0]) ∧ Below W.heap.size W w') := fun a1 c1 a2 c2 W h1 h2 => equal_yes m c1 c2 a1 a2 l l' W hu hv h1 h2
    have HS : Hid (∀ W, Below w.heap.size w W → Calls Try.prog 9 #[.int .i64 (m : Nat), .slice a l.length c, .slice a' l'.length c'] W fun e w' => e = .returned (.bool (decide (nfW m l = nfW m l'))) ∧ Below W.heap.size W w') := fun W hW => by
      have := sameActs_any m c c' a a' l l' W hu hv (HI.out W hW).rdI (HI'.out W hW).rdI
      rw [hact] at this
      exact this
    rw [hn] at HM
    obtain ⟨q, hq⟩ : ∃ q, decide (nfW m l = nfW m l') = q := ⟨_, rfl⟩
    rw [hq] at HE HS
    have hqq : (q == q) = true := by simp
    have h00 : ((0 : Int) == 0) = true := rfl
    have h01 : ((0 : Int) != 0) = false := rfl
    clear hl hl' HI HI' hu hv n2 n6 hl20 hact hn hq
    generalize l.length = N0 at HC HM HE HS ⊢
    generalize l'.length = N1 at HD HM HE HS ⊢
    go_enter Try.func3, Try.ntmps3
    go_wp2_with (go_at_call 7; refine (HC.out _ (Below.refl _ _)).mono ?_; rintro e9 w1 ⟨a1, c1, rfl, hr1, hb1⟩; refine Hid.out ?_)
    refine Lib.hid ?_
    have HB1 := hid_g hb1
    have HR1 := hid_g hr1
    clear hb1 hr1 HC
    go_wp2_with (go_at_call 7; refine (HD.out _ HB1.out).mono ?_; rintro e9 w2 ⟨a2, c2, rfl, hr2, hb2⟩; refine Hid.out ?_)
    refine Lib.hid ?_
    have HB2 := hid_g (HB1.out.trans (hb2.mono HB1.out.size))
    have HF2 := hid_g (HE.out a1 c1 a2 c2 w2 ((HR1.out.on hb2).mono hb2.size) hr2)
    clear hb2 hr2 HD HR1 HE
    go_wp2_with (go_at_call 6; refine HF2.out.mono ?_; rintro e9 w3 ⟨rfl, hb3⟩; refine Hid.out ?_)
    refine Lib.hid ?_
    have HB3 := hid_g (HB2.out.trans (hb3.mono HB2.out.size))
    clear hb3 HF2
    go_wp2_with (go_at_call 8; refine (HM.out _ HB3.out).mono ?_; rintro e9 w4 ⟨rfl, hb4⟩; refine Hid.out ?_)
    refine Lib.hid ?_
    have HB4 := hid_g (HB3.out.trans (hb4.mono HB3.out.size))
    have HF4 := hid_g (HS.out w4 HB4.out)
    clear hb4 HM HS
    go_wp2_with (go_at_call 9; refine HF4.out.mono ?_; rintro e9 w5 ⟨rfl, hb5⟩; refine Hid.out ?_)
    refine Lib.hid ?_
    have HB5 := hid_g (HB4.out.trans (hb5.mono HB4.out.size))
    clear hb5 HF4
    go_wp2
    go_ret
    exact ⟨rfl, HB5.out⟩
  · obtain ⟨z, hz⟩ : ∃ z, wordsN n [l, l'] = z := ⟨_, rfl⟩
    have HE : Hid (∀ a1 c1 a2 c2 W, RdAt W W.heap.size 1 (.slice a1 l.length c1) l.length (intsV l) → RdAt W W.heap.size 1 (.slice a2 l'.length c2) l'.length (intsV l') → Calls Try.prog 6 #[.int .i64 n, .slice a1 l.length c1, .slice a2 l'.length c2] W fun e w' => e = .returned (.tuple #[.bool false, .int .i64 (wordsN n [l, l'])]) ∧ Below W.heap.size W w') := fun a1 c1 a2 c2 W h1 h2 => equal_no c1 c2 a1 a2 n l l' W hl hl' hn h1 h2
    rw [hz] at HM HE hn
    have hzz : (z == z) = true := by simp
    have hzn : (z != 0) = true := by simpa using hn
    clear hl hl' HI HI' hz
    generalize l.length = N0 at HC HM HE ⊢
    generalize l'.length = N1 at HD HM HE ⊢
    go_enter Try.func3, Try.ntmps3
    go_wp2_with (go_at_call 7; refine (HC.out _ (Below.refl _ _)).mono ?_; rintro e9 w1 ⟨a1, c1, rfl, hr1, hb1⟩; refine Hid.out ?_)
    refine Lib.hid ?_
    have HB1 := hid_g hb1
    have HR1 := hid_g hr1
    clear hb1 hr1 HC
    go_wp2_with (go_at_call 7; refine (HD.out _ HB1.out).mono ?_; rintro e9 w2 ⟨a2, c2, rfl, hr2, hb2⟩; refine Hid.out ?_)
    refine Lib.hid ?_
    have HB2 := hid_g (HB1.out.trans (hb2.mono HB1.out.size))
    have HF2 := hid_g (HE.out a1 c1 a2 c2 w2 ((HR1.out.on hb2).mono hb2.size) hr2)
    clear hb2 hr2 HD HR1 HE
    go_wp2_with (go_at_call 6; refine HF2.out.mono ?_; rintro e9 w3 ⟨rfl, hb3⟩; refine Hid.out ?_)
    refine Lib.hid ?_
    have HB3 := hid_g (HB2.out.trans (hb3.mono HB2.out.size))
    clear hb3 HF2
    go_wp2_with (go_at_call 8; refine (HM.out _ HB3.out).mono ?_; rintro e9 w4 ⟨rfl, hb4⟩; refine Hid.out ?_)
    refine Lib.hid ?_
    have HB4 := hid_g (HB3.out.trans (hb4.mono HB3.out.size))
    clear hb4 HM
    go_wp2
    go_ret
    exact ⟨rfl, HB4.out⟩
end Go.Proofs.Ytdlmhcickcgnfaa

/- The walk of ref.SquaresOf. Made by gensyw.py. -/
import Derived.Test.YtlcogbcpmneknaaSYvP
import Derived.Test.YtlcogbcpmneknaaTkh
import Derived.Test.YtlcogbcpmneknaaW6P
import Derived.Deep.CutBlock
import Derived.Deep.RegionHeld3
namespace Go.Proofs.Ytlcogbcpmneknaa
open Go.RowKit Go.Maps

theorem hidY {P : Prop} (h : P) : Hid P := h
theorem int_oneY (l : List Int) : ∀ u ∈ intsV l, u.oneCell' = true := by
  intro u hu
  unfold intsV at hu
  obtain ⟨x, -, rfl⟩ := List.mem_map.1 hu
  rfl
set_option maxHeartbeats 16000000 in
set_option maxRecDepth 100000 in
theorem squaresOf_any (B gt ct n m0 : Nat) (gs : Nat → Nat) (T : Nat → Nat → Int) (wt : Nat → Int) (U0 : Nat → Nat → Int) (w : World) (hn : n ≤ 17) (hm : m0 ≤ 16) (hw : ∀ c, wt c = 1 ∨ wt c = -1) (hg : Gd m0 0 U0) (hU : ∀ c, ((List.range n).map fun x => (U0 c x).natAbs).sum ≤ 2)
    (hT : ∀ i j, i < n → j < n → T (i + 1) (j + 1) = tU wt U0 m0 i j) (h : TabO B gt ct (n + 1) (n + 1) gs T w) :
    Calls Try.prog 9 #[.slice (some ⟨gt, 0, none⟩) (n + 1) ct] w fun e w' => ∃ sg d : Int, e = .returned (.tuple #[.int .i64 sg, .int .i64 d]) ∧ (sg = sgV (sqC (tU wt U0 m0) n) (n + 1) ∧ (sqC (tU wt U0 m0) n n).natAbs = d.natAbs) ∧ Below w.heap.size w w' := by
  obtain ⟨i1, hj, hy0, hy1, hy2⟩ := info_parts infoInts
  obtain ⟨i2, hk, hx0, hx1, hx2⟩ := info_parts infoInt
  have HGT := (h.outer.lt gt rfl).2
  have HTW : Hid (∀ W, Below w.heap.size w W → (∀ i, i < n → W.cell? ⟨gt, i + 1, none⟩ = some (.slice (some ⟨gs (i + 1), 0, none⟩) (n + 1) (n + 1)) ∧ InAt W W.heap.size 1 (.slice (some ⟨gs (i + 1), 1, none⟩) n n) n (intsV (mapI n (tU wt U0 m0 i))))) := fun W hW i hi => by
    refine ⟨bcell hW HGT (h.cellO (i + 1) (by omega)), Or.inr (Or.inr ⟨gs (i + 1), 1, n, rfl, Nat.lt_of_lt_of_le ((h.rows (i + 1) (by omega)).lt (gs (i + 1)) rfl).2 hW.size, fun j hj => ?_⟩)⟩
    have hj' : j < n := by omega
    rw [show (⟨gs (i + 1), 1 + j, none⟩ : Addr) = ⟨gs (i + 1), j + 1, none⟩ by rw [Nat.add_comm 1 j]]
    rw [bcell hW ((h.rows (i + 1) (by omega)).lt (gs (i + 1)) rfl).2 (h.cellR (i + 1) (j + 1) (by omega) (by omega)), hT i j hi hj', intsV_get _ j (by rw [mapI_len]; exact hj'), mapI_at _ _ _ hj']
  have HGD := hidY hg
  have HUU := hidY hU
  have HWW := hidY hw
  have HB0 : Hid (Below w.heap.size w w) := Below.refl _ _
  have HP0 : Hid (TabV w.heap.size 0 n gs (fun _ => 0) (tU wt U0 m0) (.slice none 0 0) w) := TabV.nil _ _ _ _ _ _
  have hmI : ∀ k : Nat, ((1 : Int) < ((n + 1 : Nat) : Int)) = ((0 : Int) < (n : Int)) := fun _ => by
    apply propext; constructor <;> intro _ <;> omega
  obtain ⟨N1, hN1⟩ : ∃ N1, n + 1 = N1 := ⟨_, rfl⟩
  have HN1 := hidY hN1
  rw [hN1] at HTW ⊢
  clear h hT hg hU hw hmI hN1
  go_enter Try.func9, Try.ntmps9
  go_wp2
  go_loopw [4, 5] (fun v4 v5 wr => ∃ (k : Nat) (a3 : Option Addr) (c3 : Nat) (gs3 cs3 : Nat → Nat), k ≤ n ∧ v5 = .int .i64 ((k + 1 : Nat) : Int) ∧ v4 = .slice a3 k c3 ∧ Hid (TabV w.heap.size k n gs3 cs3 (tU wt U0 m0) (.slice a3 k c3) wr ∧ ∀ i, i < k → gs3 i < wr.heap.size) ∧ Hid (Below w.heap.size w wr)) (fun _ v5 _ => n + 1 - (intOf v5).toNat)
  case atStart => exact ⟨0, none, 0, gs, fun _ => 0, Nat.zero_le _, rfl, rfl, ⟨HP0.out, fun i hi => by omega⟩, HB0.out⟩
  case round =>
    clear HP0 HB0
    rename World => W1
    obtain ⟨k, a3, c3, gs3, cs3, hkn, rfl, rfl, hP, hb⟩ := hrel
    by_cases hkl : k < n
    · as_aux_lemma =>
      obtain ⟨e0, hin⟩ := HTW.out W1 hb.out k hkl
      have HIN := hidY hin
      have n0 : (0 : Int) ≤ ((k + 1 : Nat) : Int) := by omega
      have n1 : ((k + 1 : Nat) : Int) < (N1 : Int) := by have := HN1.out; omega
      have nN : ¬ N1 = 0 ∧ 1 ≤ N1 := by have := HN1.out; omega
      have eN : N1 - 1 = n := by have := HN1.out; omega
      have HM : Hid (n ≤ 17) := hn
      obtain ⟨g, hg⟩ : ∃ g, gs (k + 1) = g := ⟨_, rfl⟩
      rw [hg] at e0 HIN
      clear hin hg
      go_wp2_with (first
        | (at_builtin; refine wpList_append_copy rfl _ _ 41 rfl W1.heap.size 3 i2 (.int .i64 0) 1 8 Try.underlying41 hk hx0 hx1 hx2 rfl (by decide) rfl _ W1.heap.size n (intsV (mapI n (tU wt U0 m0 k))) rfl HIN.out (by simp [intsV, mapI]) (int_oneY _) (by unfold maxLen; omega) (by omega) (Nat.le_refl _) ?_; intro v7 w7 hown7 hg7; refine Hid.out ?_))
      refine Lib.hid ?_
      have hsW := hb.out.size
      obtain ⟨g7, c7, rfl, hg7b, hg7s⟩ := own_someQ hown7 (by omega)
      have HO7 := hidY (own_low hown7 hsW)
      have HP7 := hidY (hP.out.1.any hg7)
      have HB7 := hidY (hb.out.grown hg7 hb.out.size (fun z hz => by cases hz))
      have HNE : Hid (∀ i, i < k → gs3 i ≠ g7 ∧ gs3 i < w7.heap.size) := fun i hi => by have := hP.out.2 i hi; have := hg7.size; omega
      have HS7 : Hid (g7 < w7.heap.size) := hg7s
      have hs7 := HB7.out.size
      have HON : Hid (∀ u ∈ [Value.slice (some ⟨g7, 0, none⟩) n c7], u.oneCell' = true) := own_oneS hown7
      clear hown7 hg7 hg7s hg7b
      go_wp2_with (first
        | (at_builtin; refine wpList_append_own _ rfl _ _ 30 rfl w.heap.size 41 i1 (.slice none 0 0) 1 24 Try.underlying30 hj hy0 hy1 hy2 rfl (by decide) _ _ _ rfl (HP7.out.outer.alloc _) ⟨w7.heap.size, 0, none⟩ 1 1 [Value.slice (some ⟨g7, 0, none⟩) n c7] rfl rfl (new_cell1 _ _ _) HON.out (by unfold maxLen; omega) (by omega) (by simp; omega) ?_; intro v8 w8 hown8 hg8 _; refine Hid.out ?_))
      refine Lib.hid ?_
      have hP8 := TabV.more (g := g7) (c := c7) (v' := v8) ⟨HP7.out.outer.alloc _, fun i hi => (HP7.out.rows i hi).alloc _, HP7.out.inj⟩ (HO7.out.alloc _) (fun i hi => (HNE.out i hi).1) hg8 (by simpa using hown8)
      obtain ⟨a8, c8, e8⟩ := own_capS hP8.outer
      subst e8
      have HP8 := hidY hP8
      have HB8 := hidY ((HB7.out.alloc HB7.out.size _).grown hg8 (by simp; omega) (fun z hz => (HP7.out.outer.lt z hz).1))
      have HL8 : Hid (∀ i, i < k + 1 → (if i = k then g7 else gs3 i) < w8.heap.size) := fun i hi => by
        have z := hg8.size
        have z2 := HS7.out
        simp at z
        split
        · omega
        · have := (HNE.out i (by omega)).2; omega
      clear hown8 hg8 hP8
      go_wp2
      go_roundw
      case rel => exact ⟨k + 1, a8, c8, _, _, by omega, by go_num, rfl, ⟨HP8.out, HL8.out⟩, HB8.out⟩
      case measure => simp only [intOf]; omega
    · obtain rfl : n = k := by omega
      have k1N : ¬ ((n + 1 : Nat) : Int) < (N1 : Int) := by have := HN1.out; omega
      have HP1 := hidY hP.out.1
      have HB1 := hidY hb.out
      obtain ⟨A, hA⟩ : ∃ A, tU wt U0 m0 = A := ⟨_, rfl⟩
      have HA := hidY hA
      have HE0 : Hid (∃ π Y X, Elm n m0 wt U0 0 0 A 1 0 U0 π Y X) := ⟨_, _, _, by rw [← hA]; exact elm_start HGD.out⟩
      rw [hA] at HP1
      clear hP hb HTW hA hkn hkl
      have HM : Hid (n ≤ 17) := hn
      go_wp2
      go_loopw [9, 6, 7] (fun v9 v6 v7 wr => ∃ (k t : Nat) (sg b : Int) (M : Nat → Nat → Int) (gs3 cs3 : Nat → Nat) (U : Nat → Nat → Int), k ≤ n ∧ v9 = .int .i64 (k : Nat) ∧ v6 = .int .i64 sg ∧ v7 = .int .i64 b ∧ Hid (TabV w.heap.size n n gs3 cs3 M (.slice a3 n c3) wr) ∧ Hid (∃ π Y X, Elm n m0 wt U0 k t M b sg U π Y X) ∧ Hid (2 * t ≤ k + 1 ∧ (2 * t = k + 1 → k = n ∨ ∃ x, k ≤ x ∧ x < n ∧ M x x ≠ 0)) ∧ Hid (Below w.heap.size w wr)) (fun v9 _ _ _ => n - (intOf v9).toNat)
      case atStart => exact ⟨0, 0, 0, 1, A, gs3, cs3, U0, Nat.zero_le _, rfl, rfl, rfl, HP1.out, HE0.out, ⟨by omega, fun q => by omega⟩, HB1.out⟩
      case round =>
        clear HP1 HE0 HB1
        rename World => W1
        obtain ⟨k, t, sg, b, M, gs4, cs4, U, hkn, rfl, rfl, rfl, hP, hE, hF, hb⟩ := hrel
        by_cases hkl : k < n
        · obtain ⟨g4, c4, e4⟩ := TabV.whole hP.out (by omega)
          injection e4 with e41 e42 e43
          subst e41
          subst e43
          clear e42
          have hkI : (k : Int) < (n : Int) := by omega
          have HK : Hid (k < n) := hkl
          go_wp2
          go_loopw [10, 11] (fun v10 v11 wr => ∃ (i : Nat) (at_ : Int), k ≤ i ∧ i ≤ n ∧ v11 = .int .i64 (i : Nat) ∧ v10 = .int .i64 at_ ∧ Hid (wr = W1) ∧ Hid ((at_ = -1 ∧ ∀ q, k ≤ q → q < i → M q q = 0) ∨ ∃ p : Nat, at_ = (p : Nat) ∧ k ≤ p ∧ p < i ∧ M p p ≠ 0)) (fun _ v11 _ => n - (intOf v11).toNat)
          case atStart => exact ⟨k, -1, Nat.le_refl _, hkn, rfl, rfl, (rfl : W1 = W1), Or.inl ⟨rfl, fun q h1 h2 => by omega⟩⟩
          case round =>
            rename World => W2
            obtain ⟨i, at_, hki, hin, rfl, rfl, hw2, hD⟩ := hrel
            have e9 : W2 = W1 := hw2.out
            subst e9
            by_cases hil : i < n
            · as_aux_lemma =>
              have t1 := hP.out.cellO i hil
              have t2 := hP.out.cellR i i hil hil
              have n0 : (0 : Int) ≤ (i : Int) := by omega
              have n1 : (i : Int) < (n : Int) := by omega
              obtain ⟨x, hx⟩ : ∃ x, M i i = x := ⟨_, rfl⟩
              have HX := hidY hx
              rw [hx] at t2
              have hg4 := (hP.out.outer.lt g4 rfl).2
              have hg5 := ((hP.out.rows i hil).lt (gs4 i) rfl).2
              clear hx
              by_cases hx0 : x = 0
              · have hxz : (x != 0) = false := by simp [hx0]
                have HX0 := hidY hx0
                clear hx0
                go_wp2
                go_roundw
                case rel => exact ⟨i + 1, at_, by omega, by omega, by go_num, rfl, by first | rfl | trivial, by
                  rcases hD.out with ⟨d1, d2⟩ | ⟨p, d1, d2, d3, d4⟩
                  · exact Or.inl ⟨d1, fun q h1 h2 => by
                      by_cases e : q = i
                      · rw [e, HX.out, HX0.out]
                      · exact d2 q h1 (by omega)⟩
                  · exact Or.inr ⟨p, d1, d2, by omega, d4⟩⟩
                case measure => simp only [intOf]; omega
              · have hxz : (x != 0) = true := by simp [hx0]
                have HX0 := hidY hx0
                clear hx0
                rcases hD.out with ⟨d1, d2⟩ | ⟨p, d1, d2, d3, d4⟩
                · subst d1
                  clear d2 hD
                  go_wp2
                  go_roundw
                  case rel => exact ⟨i + 1, (i : Nat), by omega, by omega, by go_num, rfl, by first | rfl | trivial, Or.inr ⟨i, rfl, by omega, by omega, by rw [HX.out]; exact HX0.out⟩⟩
                  case measure => simp only [intOf]; omega
                · subst d1
                  have np : ¬ (p : Int) < 0 := by omega
                  clear hD
                  have HD4 := hidY d4
                  clear d4
                  go_wp2
                  go_roundw
                  case rel => exact ⟨i + 1, (p : Nat), by omega, by omega, by go_num, rfl, by first | rfl | trivial, Or.inr ⟨p, rfl, d2, by omega, HD4.out⟩⟩
                  case measure => simp only [intOf]; omega
            · obtain rfl : n = i := by omega
              rename World => W1
              have ni : ¬ (n : Int) < (n : Int) := by omega
              go_upto_block 6 with (fail)
              have HD := hidY hD.out
              have HT8 : Hid (t ≤ 8) := (by have := hF.out; omega : t ≤ 8)
              clear hD ni
              go_cut [10] from 60 to 132 (fun v10 wx => ∃ at_ : Int, v10 = .int .i64 at_ ∧ Hid ((at_ = -1 ∧ ∀ a c, k ≤ a → a < n → k ≤ c → c < n → M a c = 0) ∨ ∃ p : Nat, at_ = (p : Nat) ∧ BsT w.heap.size n m0 wt U0 g4 c3 gs4 cs4 k b sg p wx) ∧ Hid (Below w.heap.size w wx))
              case first =>
                as_aux_lemma =>
                go_wp2_with (fail)
                go_loopw [10, 12] (fun v10 v12 wr => ∃ (i : Nat) (at_ : Int), k ≤ i ∧ i ≤ n ∧ v12 = .int .i64 (i : Nat) ∧ v10 = .int .i64 at_ ∧ Hid ((at_ = -1 ∧ W1 = wr ∧ (∀ q, k ≤ q → q < n → M q q = 0) ∧ ∀ a c, k ≤ a → a < i → k ≤ c → c < n → M a c = 0) ∨ ∃ p : Nat, at_ = (p : Nat) ∧ BsT w.heap.size n m0 wt U0 g4 c3 gs4 cs4 k b sg p wr) ∧ Hid (Below w.heap.size w wr)) (fun _ v12 _ => n - (intOf v12).toNat)
                case atStart => exact ⟨k, at_, Nat.le_refl _, hkn, rfl, rfl, (by
                  rcases HD.out with ⟨d1, d2⟩ | ⟨p, d1, d2, d3, d4⟩
                  · exact Or.inl ⟨d1, rfl, d2, fun a c h1 h2 => by omega⟩
                  · exact Or.inr ⟨p, d1, t, M, U, d2, d3, d4, hP.out, hE.out, Or.inl hF.out.1⟩ : _ ∨ _), hb.out⟩
                case round =>
                  clear HD
                  rename World => W3
                  obtain ⟨i, at2, hki, hin, rfl, rfl, hD, hb3⟩ := hrel
                  by_cases hil : i < n
                  · as_aux_lemma =>
                    have n1 : (i : Int) < (n : Int) := by omega
                    rcases hD.out with ⟨d1, d2, d3, d4⟩ | ⟨p, d1, d2⟩
                    · subst d1
                      subst d2
                      have HD3 := hidY d3
                      have HD4 := hidY d4
                      clear hD d3 d4
                      go_wp2
                      go_loopw [10, 13] (fun v10 v13 wr => ∃ (j : Nat) (at_ : Int), k ≤ j ∧ j ≤ n ∧ v13 = .int .i64 (j : Nat) ∧ v10 = .int .i64 at_ ∧ Hid ((at_ = -1 ∧ W1 = wr ∧ ∀ c, k ≤ c → c < j → M i c = 0) ∨ ∃ p : Nat, at_ = (p : Nat) ∧ BsT w.heap.size n m0 wt U0 g4 c3 gs4 cs4 k b sg p wr) ∧ Hid (Below w.heap.size w wr)) (fun _ v13 _ => n - (intOf v13).toNat)
                      case atStart => exact ⟨k, -1, Nat.le_refl _, hkn, rfl, rfl, (Or.inl ⟨rfl, rfl, fun c h1 h2 => by omega⟩ : _ ∨ _), hb3.out⟩
                      case round =>
                        rename World => W4
                        obtain ⟨j, at3, hkj, hjn, rfl, rfl, hD', hb4⟩ := hrel
                        by_cases hjl : j < n
                        · have j1 : (j : Int) < (n : Int) := by omega
                          rcases hD'.out with ⟨d1, d2, d5⟩ | ⟨p, d1, d2⟩
                          · subst d1
                            subst d2
                            have HD5 := hidY d5
                            clear hD' d5
                            have t1 := hP.out.cellO i hil
                            have t2 := hP.out.cellR i j hil hjl
                            have n0 : (0 : Int) ≤ (i : Int) := by omega
                            have j0 : (0 : Int) ≤ (j : Int) := by omega
                            have hg4 := (hP.out.outer.lt g4 rfl).2
                            have hg5 := ((hP.out.rows i hil).lt (gs4 i) rfl).2
                            obtain ⟨x, hx⟩ : ∃ x, M i j = x := ⟨_, rfl⟩
                            have HX := hidY hx
                            rw [hx] at t2
                            clear hx
                            by_cases hx0 : x = 0
                            · have hxz : (x != 0) = false := by simp [hx0]
                              have HX0 := hidY hx0
                              clear hx0
                              go_wp2
                              go_roundw
                              case rel => exact ⟨j + 1, -1, by omega, by omega, by go_num, rfl, (Or.inl ⟨by first | rfl | trivial, by first | rfl | trivial, fun c h1 h2 => by
                                by_cases e : c = j
                                · rw [e, HX.out, HX0.out]
                                · exact HD5.out c h1 (by omega)⟩ : _ ∨ _), hb4.out⟩
                              case measure => simp only [intOf]; omega
                            · as_aux_lemma =>
                              have hxz : (x != 0) = true := by simp [hx0]
                              have HX0 := hidY hx0
                              have hij : i ≠ j := fun e => hx0 (by rw [← HX.out, ← e]; exact HD3.out i hki hil)
                              have HP6 : Hid (TabV w.heap.size n n gs4 cs4 (T6 M k i j k) (.slice (some ⟨g4, 0, none⟩) n c3) W1) := hP.out.congr (fun a c _ _ => by unfold T6; rw [if_neg (by omega)])
                              have HB6 := hidY hb4.out
                              obtain ⟨πE, YE, XE, hE1⟩ := hE.out
                              have HSM := hidY (hE1.small HWW.out hm HT8.out).1
                              clear hx0 hE1 πE YE XE
                              go_wp2
                              clear t1 t2
                              go_loopw [14] (fun v14 wr => ∃ x : Nat, k ≤ x ∧ x ≤ n ∧ v14 = .int .i64 (x : Nat) ∧ Hid (TabV w.heap.size n n gs4 cs4 (T6 M k i j x) (.slice (some ⟨g4, 0, none⟩) n c3) wr) ∧ Hid (Below w.heap.size w wr)) (fun v14 _ => n - (intOf v14).toNat)
                              case atStart => exact ⟨k, Nat.le_refl _, hkn, rfl, HP6.out, HB6.out⟩
                              case round =>
                                clear HP6 HB6
                                rename World => W5
                                obtain ⟨y, hky, hyn, rfl, hq, hb5⟩ := hrel
                                by_cases hyl : y < n
                                · as_aux_lemma =>
                                  have y0 : (0 : Int) ≤ (y : Int) := by omega
                                  have y1 : (y : Int) < (n : Int) := by omega
                                  have HQD := hidY (hq.out.any (grown_below ((Below.refl W5.heap.size W5).drew) none))
                                  have HBD := hidY (Below.drew hb5.out)
                                  have cc3 := HQD.out.cellR i y hil hyl
                                  have e3 : T6 M k i j y i y = M i y := by unfold T6; rw [if_neg (by omega)]
                                  have e4 : T6 M k i j y j y = M j y := by unfold T6; rw [if_neg (by omega)]
                                  rw [e3] at cc3
                                  have b1 := HSM.out i y hki hil hky hyl
                                  have b2 := HSM.out j y hkj hjl hky hyl
                                  obtain ⟨u, hu⟩ : ∃ u, M i y = u := ⟨_, rfl⟩
                                  obtain ⟨v, hv⟩ : ∃ v, M j y = v := ⟨_, rfl⟩
                                  have hset := HQD.out.set (T' := T6 M k i j (y + 1)) i y (u + v) hil (fun a c ha hc => by
                                    unfold T6
                                    by_cases h1 : a = i ∧ c = y
                                    · rw [if_pos ⟨h1.1, by omega, by omega⟩, if_pos h1, h1.2, hu, hv]
                                    · rw [if_neg h1]
                                      by_cases h2 : a = i ∧ k ≤ c ∧ c < y
                                      · rw [if_pos ⟨h2.1, h2.2.1, by omega⟩, if_pos h2]
                                      · rw [if_neg (fun z => h2 ⟨z.1, z.2.1, by have : c ≠ y := fun e => h1 ⟨z.1, e⟩; omega⟩), if_neg h2])
                                  have HST := hidY hset.1
                                  have HBT := hidY (HBD.out.grown hset.2 HBD.out.size (fun z hz => by have := Option.some.inj hz; have := ((HQD.out.rows i hil).lt (gs4 i) rfl).1; omega))
                                  have HSx : Hid (∀ W, (∃ T9, TabV w.heap.size n n gs4 cs4 T9 (.slice (some ⟨g4, 0, none⟩) n c3) W ∧ T9 j y = v) → (fun X' : World => X'.cell? ⟨g4, i, none⟩ = some (.slice (some ⟨gs4 i, 0, none⟩) n (cs4 i)) ∧ X'.cell? ⟨g4, j, none⟩ = some (.slice (some ⟨gs4 j, 0, none⟩) n (cs4 j)) ∧ X'.cell? ⟨gs4 j, y, none⟩ = some (.int .i64 v)) W) := fun W ⟨T9, h9, h8⟩ => ⟨h9.cellO i hil, h9.cellO j hjl, by rw [h9.cellR j y hjl hyl, h8]⟩
                                  have hw5 : IntKind.i64.wrap (u + v) = u + v := IntWalk.i64_in _ (by omega)
                                  have z0 : W5.drew.frozen? ⟨gs4 i, y, none⟩ = false := (HQD.out.rows i hil).frozenAt y
                                  have hl5 := ((HQD.out.rows i hil).lt (gs4 i) rfl).2
                                  rw [hu] at cc3
                                  have HV4 : Hid (T6 M k i j y j y = v ∧ T6 M k i j (y + 1) j y = v) := ⟨by rw [e4, hv], by unfold T6; rw [if_neg (by omega), hv]⟩
                                  clear hu hv e3 e4 b1 b2 hset
                                  go_upto_region 27 with (fail)
                                  refine rhd HSx ⟨_, HQD.out, HV4.out.1⟩ (fun hHeld => ?_)
                                  refine tq 94 0 (h := ?_)
                                  simp only [List.setIfInBounds_toArray, List.set_cons_succ, List.set_cons_zero]
                                  refine tq 95 1 (h := ?_)
                                  simp only [List.setIfInBounds_toArray, List.set_cons_succ, List.set_cons_zero]
                                  refine tq 96 2 (h := ?_)
                                  simp only [List.setIfInBounds_toArray, List.set_cons_succ, List.set_cons_zero]
                                  refine tq 97 3 (h := ?_)
                                  simp only [List.setIfInBounds_toArray, List.set_cons_succ, List.set_cons_zero]
                                  refine tq 98 4 (h := ?_)
                                  simp only [List.setIfInBounds_toArray, List.set_cons_succ, List.set_cons_zero]
                                  refine tq 99 5 (h := ?_)
                                  simp only [List.setIfInBounds_toArray, List.set_cons_succ, List.set_cons_zero]
                                  refine tq 101 7 (h := ?_)
                                  simp only [List.setIfInBounds_toArray, List.set_cons_succ, List.set_cons_zero]
                                  refine tq 102 8 (h := ?_)
                                  simp only [List.setIfInBounds_toArray, List.set_cons_succ, List.set_cons_zero]
                                  refine tq 103 9 (h := ?_)
                                  simp only [List.setIfInBounds_toArray, List.set_cons_succ, List.set_cons_zero]
                                  refine tq 104 10 (h := ?_)
                                  simp only [List.setIfInBounds_toArray, List.set_cons_succ, List.set_cons_zero]
                                  refine tq 105 11 (h := ?_)
                                  simp only [List.setIfInBounds_toArray, List.set_cons_succ, List.set_cons_zero]
                                  refine tq 106 12 (h := ?_)
                                  simp only [List.setIfInBounds_toArray, List.set_cons_succ, List.set_cons_zero]
                                  refine tq 107 13 (h := ?_)
                                  simp only [List.setIfInBounds_toArray, List.set_cons_succ, List.set_cons_zero]
                                  refine rd1 6 ?_
                                  intro K0 hK0
                                  go_simp
                                  refine hK0.out _ _ (hHeld) (fun hHeld => ?_)
                                  clear hK0 K0
                                  try simp only [Act.put]
                                  try simp only [List.getElem_toArray]
                                  try simp only [List.getElem_cons_succ]
                                  try simp only [List.getElem_cons_zero]
                                  try simp only [List.setIfInBounds_toArray, List.set_cons_succ, List.set_cons_zero]
                                  refine tq 108 14 (h := ?_)
                                  simp only [List.setIfInBounds_toArray, List.set_cons_succ, List.set_cons_zero]
                                  refine tq 109 15 (h := ?_)
                                  simp only [List.setIfInBounds_toArray, List.set_cons_succ, List.set_cons_zero]
                                  refine rd1 16 ?_
                                  intro K0 hK0
                                  go_simp
                                  refine hK0.out _ _ (HSx.out _ ⟨_, HST.out, HV4.out.2⟩) (fun hHeld => ?_)
                                  clear hK0 K0
                                  try simp only [Act.put]
                                  try simp only [List.getElem_toArray]
                                  try simp only [List.getElem_cons_succ]
                                  try simp only [List.getElem_cons_zero]
                                  try simp only [List.setIfInBounds_toArray, List.set_cons_succ, List.set_cons_zero]
                                  refine wpAnyH_done (by kernel_rfl) ?_ _
                                  clear hHeld
                                  go_wp2
                                  go_roundw
                                  case rel => exact ⟨y + 1, by omega, by omega, by go_num, HST.out, HBT.out⟩
                                  case measure => simp only [intOf]; omega
                                · as_aux_lemma =>
                                  obtain rfl : n = y := by omega
                                  have yN : ¬ (n : Int) < (n : Int) := by omega
                                  have HP7 : Hid (TabV w.heap.size n n gs4 cs4 (T7 M k i j n k) (.slice (some ⟨g4, 0, none⟩) n c3) W5) := hq.out.congr (fun a c _ _ => by unfold T7; rw [if_neg (by omega)])
                                  have HB7 := hidY hb5.out
                                  have HS6 : Hid (∀ a c, k ≤ a → a < n → k ≤ c → c < n → -4294967296 ≤ T6 M k i j n a c ∧ T6 M k i j n a c ≤ 4294967296) := fun a c a1 a2 a3 a4 => by
                                    have b1 := HSM.out a c a1 a2 a3 a4
                                    have b2 := HSM.out i c hki hil a3 a4
                                    have b3 := HSM.out j c hkj hjl a3 a4
                                    unfold T6
                                    split <;> omega
                                  clear hq hb5
                                  go_wp2
                                  go_loopw [15] (fun v15 wr => ∃ x : Nat, k ≤ x ∧ x ≤ n ∧ v15 = .int .i64 (x : Nat) ∧ Hid (TabV w.heap.size n n gs4 cs4 (T7 M k i j n x) (.slice (some ⟨g4, 0, none⟩) n c3) wr) ∧ Hid (Below w.heap.size w wr)) (fun v15 _ => n - (intOf v15).toNat)
                                  case atStart => exact ⟨k, Nat.le_refl _, hkn, rfl, HP7.out, HB7.out⟩
                                  case round =>
                                    clear HP7 HB7
                                    rename World => W6
                                    obtain ⟨y, hky, hyn, rfl, hq, hb5⟩ := hrel
                                    by_cases hyl : y < n
                                    · as_aux_lemma =>
                                      have y0 : (0 : Int) ≤ (y : Int) := by omega
                                      have y1 : (y : Int) < (n : Int) := by omega
                                      have HQD := hidY (hq.out.any (grown_below ((Below.refl W6.heap.size W6).drew) none))
                                      have HBD := hidY (Below.drew hb5.out)
                                      have cc3 := HQD.out.cellR y i hyl hil
                                      have e3 : T7 M k i j n y y i = T6 M k i j n y i := by unfold T7; rw [if_neg (by omega)]
                                      have e4 : ∀ z, T7 M k i j n z y j = T6 M k i j n y j := fun z => by unfold T7; rw [if_neg (fun q => hij q.1.symm)]
                                      rw [e3] at cc3
                                      have b1 := HS6.out y i hky hyl hki hil
                                      have b2 := HS6.out y j hky hyl hkj hjl
                                      obtain ⟨u, hu⟩ : ∃ u, T6 M k i j n y i = u := ⟨_, rfl⟩
                                      obtain ⟨v, hv⟩ : ∃ v, T6 M k i j n y j = v := ⟨_, rfl⟩
                                      have hset := HQD.out.set (T' := T7 M k i j n (y + 1)) y i (u + v) hyl (fun a c ha hc => by
                                        unfold T7
                                        by_cases h1 : a = y ∧ c = i
                                        · rw [if_pos ⟨h1.2, by omega, by omega⟩, if_pos h1, h1.1, hu, hv]
                                        · rw [if_neg h1]
                                          by_cases h2 : c = i ∧ k ≤ a ∧ a < y
                                          · rw [if_pos ⟨h2.1, h2.2.1, by omega⟩, if_pos h2]
                                          · rw [if_neg (fun z => h2 ⟨z.1, z.2.1, by have : a ≠ y := fun e => h1 ⟨e, z.1⟩; omega⟩), if_neg h2])
                                      have HST := hidY hset.1
                                      have HBT := hidY (HBD.out.grown hset.2 HBD.out.size (fun z hz => by have := Option.some.inj hz; have := ((HQD.out.rows y hyl).lt (gs4 y) rfl).1; omega))
                                      have HSx : Hid (∀ W, (∃ z, TabV w.heap.size n n gs4 cs4 (T7 M k i j n z) (.slice (some ⟨g4, 0, none⟩) n c3) W) → (fun X' : World => X'.cell? ⟨g4, y, none⟩ = some (.slice (some ⟨gs4 y, 0, none⟩) n (cs4 y)) ∧ X'.cell? ⟨gs4 y, j, none⟩ = some (.int .i64 v)) W) := fun W ⟨z, h9⟩ => ⟨h9.cellO y hyl, by rw [h9.cellR y j hyl hjl, e4, hv]⟩
                                      have hw5 : IntKind.i64.wrap (u + v) = u + v := IntWalk.i64_in _ (by omega)
                                      have z0 : W6.drew.frozen? ⟨gs4 y, i, none⟩ = false := (HQD.out.rows y hyl).frozenAt i
                                      have hl5 := ((HQD.out.rows y hyl).lt (gs4 y) rfl).2
                                      rw [hu] at cc3
                                      clear hu hv e3 e4 b1 b2 hset
                                      go_upto_region 31 with (fail)
                                      refine rhd HSx ⟨_, HQD.out⟩ (fun hHeld => ?_)
                                      refine tq 116 0 (h := ?_)
                                      simp only [List.setIfInBounds_toArray, List.set_cons_succ, List.set_cons_zero]
                                      refine tq 117 1 (h := ?_)
                                      simp only [List.setIfInBounds_toArray, List.set_cons_succ, List.set_cons_zero]
                                      refine tq 118 2 (h := ?_)
                                      simp only [List.setIfInBounds_toArray, List.set_cons_succ, List.set_cons_zero]
                                      refine tq 119 3 (h := ?_)
                                      simp only [List.setIfInBounds_toArray, List.set_cons_succ, List.set_cons_zero]
                                      refine tq 120 4 (h := ?_)
                                      simp only [List.setIfInBounds_toArray, List.set_cons_succ, List.set_cons_zero]
                                      refine tq 121 5 (h := ?_)
                                      simp only [List.setIfInBounds_toArray, List.set_cons_succ, List.set_cons_zero]
                                      refine tq 123 7 (h := ?_)
                                      simp only [List.setIfInBounds_toArray, List.set_cons_succ, List.set_cons_zero]
                                      refine tq 124 8 (h := ?_)
                                      simp only [List.setIfInBounds_toArray, List.set_cons_succ, List.set_cons_zero]
                                      refine tq 125 9 (h := ?_)
                                      simp only [List.setIfInBounds_toArray, List.set_cons_succ, List.set_cons_zero]
                                      refine tq 126 10 (h := ?_)
                                      simp only [List.setIfInBounds_toArray, List.set_cons_succ, List.set_cons_zero]
                                      refine tq 127 11 (h := ?_)
                                      simp only [List.setIfInBounds_toArray, List.set_cons_succ, List.set_cons_zero]
                                      refine tq 128 12 (h := ?_)
                                      simp only [List.setIfInBounds_toArray, List.set_cons_succ, List.set_cons_zero]
                                      refine tq 129 13 (h := ?_)
                                      simp only [List.setIfInBounds_toArray, List.set_cons_succ, List.set_cons_zero]
                                      refine rd1 6 ?_
                                      intro K0 hK0
                                      go_simp
                                      refine hK0.out _ _ (hHeld) (fun hHeld => ?_)
                                      clear hK0 K0
                                      try simp only [Act.put]
                                      try simp only [List.getElem_toArray]
                                      try simp only [List.getElem_cons_succ]
                                      try simp only [List.getElem_cons_zero]
                                      try simp only [List.setIfInBounds_toArray, List.set_cons_succ, List.set_cons_zero]
                                      refine tq 130 14 (h := ?_)
                                      simp only [List.setIfInBounds_toArray, List.set_cons_succ, List.set_cons_zero]
                                      refine tq 131 15 (h := ?_)
                                      simp only [List.setIfInBounds_toArray, List.set_cons_succ, List.set_cons_zero]
                                      refine rd1 16 ?_
                                      intro K0 hK0
                                      go_simp
                                      refine hK0.out _ _ (HSx.out _ ⟨_, HST.out⟩) (fun hHeld => ?_)
                                      clear hK0 K0
                                      try simp only [Act.put]
                                      try simp only [List.getElem_toArray]
                                      try simp only [List.getElem_cons_succ]
                                      try simp only [List.getElem_cons_zero]
                                      try simp only [List.setIfInBounds_toArray, List.set_cons_succ, List.set_cons_zero]
                                      refine wpAnyH_done (by kernel_rfl) ?_ _
                                      clear hHeld
                                      go_wp2
                                      go_roundw
                                      case rel => exact ⟨y + 1, by omega, by omega, by go_num, HST.out, HBT.out⟩
                                      case measure => simp only [intOf]; omega
                                    · obtain rfl : n = y := by omega
                                      have yN : ¬ (n : Int) < (n : Int) := by omega
                                      have HBS := hidY (bst_add hkl hq.out hE.out hF.out HD3.out hij ⟨hki, hil⟩ ⟨hkj, hjl⟩ (by rw [HX.out]; exact HX0.out))
                                      clear hq
                                      go_wp2
                                      go_roundw
                                      case rel => exact ⟨j + 1, (i : Nat), by omega, by omega, by go_num, rfl, (Or.inr ⟨i, rfl, HBS.out⟩ : _ ∨ _), hb5.out⟩
                                      case measure => simp only [intOf]; omega
                          · subst d1
                            have np : ¬ (p : Int) < 0 := by omega
                            have HD2 := hidY d2
                            clear d2 hD'
                            go_wp2
                            go_roundw
                            case rel => exact ⟨i + 1, (p : Nat), by omega, by omega, by go_num, rfl, (Or.inr ⟨p, rfl, HD2.out⟩ : _ ∨ _), hb4.out⟩
                            case measure => simp only [intOf]; omega
                        · obtain rfl : n = j := by omega
                          have jN : ¬ (n : Int) < (n : Int) := by omega
                          have HD' := hidY hD'.out
                          clear hD'
                          go_wp2
                          go_roundw
                          case rel => exact ⟨i + 1, at3, by omega, by omega, by go_num, rfl, (by
                            rcases HD'.out with ⟨d1, d2, d5⟩ | ⟨p, d1, d2⟩
                            · exact Or.inl ⟨d1, d2, HD3.out, fun a c h1 h2 h3 h4 => by
                                by_cases e : a = i
                                · rw [e]; exact d5 c h3 h4
                                · exact HD4.out a c h1 (by omega) h3 h4⟩
                            · exact Or.inr ⟨p, d1, d2⟩ : _ ∨ _), hb4.out⟩
                          case measure => simp only [intOf]; omega
                    · subst d1
                      have np : ¬ (p : Int) < 0 := by omega
                      have HD2 := hidY d2
                      clear d2 hD
                      go_wp2
                      go_meet
                      exact ⟨(p : Nat), rfl, (Or.inr ⟨p, rfl, HD2.out⟩ : _ ∨ _), hb3.out⟩
                  · obtain rfl : n = i := by omega
                    have iN : ¬ (n : Int) < (n : Int) := by omega
                    have HD2 := hidY hD.out
                    clear hD
                    go_wp2
                    go_meet
                    exact ⟨at2, rfl, (by
                      rcases HD2.out with ⟨d1, d2, d3, d4⟩ | ⟨p, d1, d2⟩
                      · exact Or.inl ⟨d1, d4⟩
                      · exact Or.inr ⟨p, d1, d2⟩ : _ ∨ _), hb3.out⟩
              case rest =>
                clear HD
                obtain ⟨at4, rfl, hD, hb6⟩ := hcut
                rename World => W6
                rcases hD.out with ⟨d1, d2⟩ | ⟨p, d1, d2⟩
                · as_aux_lemma =>
                  subst d1
                  have HEN : Hid (sg = sgV (sqC (tU wt U0 m0) n) N1 ∧ (sqC (tU wt U0 m0) n n).natAbs = (0 : Int).natAbs) := (by
                    obtain ⟨π, Y, X, hE1⟩ := hE.out
                    have z := hE1.ends HWW.out HUU.out hm (by omega) d2
                    rw [if_neg (by omega), HN1.out] at z
                    exact z : _ ∧ _)
                  clear hD d2 hE hF hP
                  go_wp2
                  go_ret2
                  exact ⟨sg, 0, rfl, HEN.out, hb6.out⟩
                · as_aux_lemma =>
                  subst d1
                  obtain ⟨t2, M2, U2, p1, p2, p3, hP6, hE6, hF6⟩ := d2
                  obtain ⟨s1, s2, s3, s4, s5, s6⟩ := bst_step hkl hn hm HWW.out hE6 ⟨p1, p2⟩ p3 hF6
                  have HS1 := hidY s1
                  have HS2 := hidY s2
                  have HS3 := hidY s3
                  have HS6 := hidY s6
                  have np : ¬ (p : Int) < 0 := by omega
                  have p0 : (0 : Int) ≤ (p : Int) := by omega
                  have pn : (p : Int) < (n : Int) := by omega
                  have k0 : (0 : Int) ≤ (k : Int) := by omega
                  have HPD := hidY (hP6.any (grown_below ((Below.refl W6.heap.size W6).drew) none))
                  have HBD := hidY (Below.drew hb6.out)
                  clear hD hP hE hF hP6 hE6 hF6 hb6 p3 s1 s2 s3 s6 hb
                  have ta := HPD.out.cellO k hkl
                  have tb := HPD.out.cellO p p2
                  have hsw := HPD.out.swap k p hkl p2
                  have z1 : W6.drew.frozen? ⟨g4, k, none⟩ = false := HPD.out.outer.frozenAt k
                  have z2 : W6.drew.frozen? ⟨g4, p, none⟩ = false := HPD.out.outer.frozenAt p
                  have hl4 := (HPD.out.outer.lt g4 rfl).2
                  have HBX := hidY (HBD.out.grown hsw.2 HBD.out.size (fun z hz => by have := Option.some.inj hz; have := (HPD.out.outer.lt g4 rfl).1; omega))
                  have HPX := hidY hsw.1
                  have hst1 := HPD.out.outer.stored k (rwV n gs4 cs4 p)
                  have z3 : (W6.setCell ⟨g4, k, none⟩ (.slice (some ⟨gs4 p, 0, none⟩) n (cs4 p))).drew.frozen? ⟨g4, p, none⟩ = false := hst1.1.frozenAt p
                  have hl5 : g4 < (W6.setCell ⟨g4, k, none⟩ (.slice (some ⟨gs4 p, 0, none⟩) n (cs4 p))).drew.heap.size := (hst1.1.lt g4 rfl).2
                  obtain ⟨vst, cst⟩ : ∃ vst, (W6.setCell ⟨g4, k, none⟩ (.slice (some ⟨gs4 p, 0, none⟩) n (cs4 p))).cell? ⟨g4, p, none⟩ = some vst := ⟨_, (hst1.1.cellAt p (by omega)).trans (by
                    rw [List.getElem?_set]
                    split
                    · rw [if_pos (by rw [hdV_len]; exact hkl)]
                    · exact hdV_get n n gs4 cs4 p p2)⟩
                  clear hst1
                  have HSw : Hid (∀ W : World, (fun _ : World => True) W → (fun _ : World => True) W) := fun _ h => h
                  clear hsw
                  go_upto_region 35 with (fail)
                  apply cut_one
                  case h =>
                    intro key
                    refine rhd HSw trivial (fun hHeld => ?_)
                    refine tq 136 0 (h := ?_)
                    simp only [List.setIfInBounds_toArray, List.set_cons_succ, List.set_cons_zero]
                    refine tq 137 1 (h := ?_)
                    simp only [List.setIfInBounds_toArray, List.set_cons_succ, List.set_cons_zero]
                    refine tq 138 2 (h := ?_)
                    simp only [List.setIfInBounds_toArray, List.set_cons_succ, List.set_cons_zero]
                    refine tq 139 3 (h := ?_)
                    simp only [List.setIfInBounds_toArray, List.set_cons_succ, List.set_cons_zero]
                    refine tq 140 4 (h := ?_)
                    simp only [List.setIfInBounds_toArray, List.set_cons_succ, List.set_cons_zero]
                    refine tq 141 5 (h := ?_)
                    simp only [List.setIfInBounds_toArray, List.set_cons_succ, List.set_cons_zero]
                    refine tq 142 6 (h := ?_)
                    simp only [List.setIfInBounds_toArray, List.set_cons_succ, List.set_cons_zero]
                    refine tq 144 8 (h := ?_)
                    simp only [List.setIfInBounds_toArray, List.set_cons_succ, List.set_cons_zero]
                    refine tq 145 9 (h := ?_)
                    simp only [List.setIfInBounds_toArray, List.set_cons_succ, List.set_cons_zero]
                    refine tq 146 10 (h := ?_)
                    simp only [List.setIfInBounds_toArray, List.set_cons_succ, List.set_cons_zero]
                    refine rd2 7 11 ?_ ?_
                    · intro K0 hK0
                      go_simp
                      refine hK0.out _ _ (trivial) (fun hHeld => ?_)
                      clear hK0 K0
                      try simp only [Act.put]
                      try simp only [List.getElem_toArray]
                      try simp only [List.getElem_cons_succ]
                      try simp only [List.getElem_cons_zero]
                      try simp only [List.setIfInBounds_toArray, List.set_cons_succ, List.set_cons_zero]
                      refine rd1 11 ?_
                      intro K0 hK0
                      go_simp
                      refine hK0.out _ _ (trivial) (fun hHeld => ?_)
                      clear hK0 K0
                      try simp only [Act.put]
                      try simp only [List.getElem_toArray]
                      try simp only [List.getElem_cons_succ]
                      try simp only [List.getElem_cons_zero]
                      try simp only [List.setIfInBounds_toArray, List.set_cons_succ, List.set_cons_zero]
                      refine tq 148 12 (h := ?_)
                      simp only [List.setIfInBounds_toArray, List.set_cons_succ, List.set_cons_zero]
                      refine rd1 13 ?_
                      intro K0 hK0
                      go_simp
                      refine hK0.out _ _ (trivial) (fun hHeld => ?_)
                      clear hK0 K0
                      try simp only [Act.put]
                      try simp only [List.getElem_toArray]
                      try simp only [List.getElem_cons_succ]
                      try simp only [List.getElem_cons_zero]
                      try simp only [List.setIfInBounds_toArray, List.set_cons_succ, List.set_cons_zero]
                      refine tq 149 14 (h := ?_)
                      simp only [List.setIfInBounds_toArray, List.set_cons_succ, List.set_cons_zero]
                      refine rd1 15 ?_
                      intro K0 hK0
                      go_simp
                      refine hK0.out _ _ (trivial) (fun hHeld => ?_)
                      clear hK0 K0
                      try simp only [Act.put]
                      try simp only [List.getElem_toArray]
                      try simp only [List.getElem_cons_succ]
                      try simp only [List.getElem_cons_zero]
                      try simp only [List.setIfInBounds_toArray, List.set_cons_succ, List.set_cons_zero]
                      refine wpAnyH_done (by kernel_rfl) ?_ _
                      clear hHeld
                      exact key.out
                    · intro K0 hK0
                      go_simp
                      refine hK0.out _ _ (trivial) (fun hHeld => ?_)
                      clear hK0 K0
                      try simp only [Act.put]
                      try simp only [List.getElem_toArray]
                      try simp only [List.getElem_cons_succ]
                      try simp only [List.getElem_cons_zero]
                      try simp only [List.setIfInBounds_toArray, List.set_cons_succ, List.set_cons_zero]
                      refine rd1 7 ?_
                      intro K0 hK0
                      go_simp
                      refine hK0.out _ _ (trivial) (fun hHeld => ?_)
                      clear hK0 K0
                      try simp only [Act.put]
                      try simp only [List.getElem_toArray]
                      try simp only [List.getElem_cons_succ]
                      try simp only [List.getElem_cons_zero]
                      try simp only [List.setIfInBounds_toArray, List.set_cons_succ, List.set_cons_zero]
                      refine tq 148 12 (h := ?_)
                      simp only [List.setIfInBounds_toArray, List.set_cons_succ, List.set_cons_zero]
                      refine rd1 13 ?_
                      intro K0 hK0
                      go_simp
                      refine hK0.out _ _ (trivial) (fun hHeld => ?_)
                      clear hK0 K0
                      try simp only [Act.put]
                      try simp only [List.getElem_toArray]
                      try simp only [List.getElem_cons_succ]
                      try simp only [List.getElem_cons_zero]
                      try simp only [List.setIfInBounds_toArray, List.set_cons_succ, List.set_cons_zero]
                      refine tq 149 14 (h := ?_)
                      simp only [List.setIfInBounds_toArray, List.set_cons_succ, List.set_cons_zero]
                      refine rd1 15 ?_
                      intro K0 hK0
                      go_simp
                      refine hK0.out _ _ (trivial) (fun hHeld => ?_)
                      clear hK0 K0
                      try simp only [Act.put]
                      try simp only [List.getElem_toArray]
                      try simp only [List.getElem_cons_succ]
                      try simp only [List.getElem_cons_zero]
                      try simp only [List.setIfInBounds_toArray, List.set_cons_succ, List.set_cons_zero]
                      refine wpAnyH_done (by kernel_rfl) ?_ _
                      clear hHeld
                      exact key.out
                  obtain ⟨X, hX⟩ : ∃ X, X = ((W6.setCell ⟨g4, k, none⟩ (.slice (some ⟨gs4 p, 0, none⟩) n (cs4 p))).setCell ⟨g4, p, none⟩ (.slice (some ⟨gs4 k, 0, none⟩) n (cs4 k))).drew := ⟨_, rfl⟩
                  have HPY : Hid (TabV w.heap.size n n (fun i => gs4 (tw k p i)) (fun i => cs4 (tw k p i)) (fun i => M2 (tw k p i)) (.slice (some ⟨g4, 0, none⟩) n c3) X) := (by rw [hX]; exact HPX.out : TabV w.heap.size n n (fun i => gs4 (tw k p i)) (fun i => cs4 (tw k p i)) (fun i => M2 (tw k p i)) (.slice (some ⟨g4, 0, none⟩) n c3) X)
                  have HBY : Hid (Below w.heap.size w X) := (by rw [hX]; exact HBX.out : Below w.heap.size w X)
                  rw [← hX]
                  clear hX z1 z2 z3 hl4 hl5 ta tb cst vst HPX HBX HPD HBD HSw
                  obtain ⟨gs5, hgs5⟩ : ∃ gs5 : Nat → Nat, (fun i => gs4 (tw k p i)) = gs5 := ⟨_, rfl⟩
                  obtain ⟨cs5, hcs5⟩ : ∃ cs5 : Nat → Nat, (fun i => cs4 (tw k p i)) = cs5 := ⟨_, rfl⟩
                  rw [hgs5, hcs5] at HPY
                  clear hgs5 hcs5
                  have HPZ : Hid (TabV w.heap.size n n gs5 cs5 (fun a c => if a < 0 then M2 (tw k p a) (tw k p c) else M2 (tw k p a) c) (.slice (some ⟨g4, 0, none⟩) n c3) X) := HPY.out.congr (fun a c _ _ => if_neg (Nat.not_lt_zero a))
                  clear HPY
                  go_wp2
                  go_loopw [16] (fun v16 wr => ∃ x : Nat, x ≤ n ∧ v16 = .int .i64 (x : Nat) ∧ Hid (TabV w.heap.size n n gs5 cs5 (fun a c => if a < x then M2 (tw k p a) (tw k p c) else M2 (tw k p a) c) (.slice (some ⟨g4, 0, none⟩) n c3) wr) ∧ Hid (Below w.heap.size w wr)) (fun v16 _ => n - (intOf v16).toNat)
                  case atStart => exact ⟨0, Nat.zero_le _, rfl, HPZ.out, HBY.out⟩
                  case round =>
                    clear HPZ HBY
                    rename World => W7
                    obtain ⟨y, hyn, rfl, hq, hb7⟩ := hrel
                    by_cases hyl : y < n
                    · as_aux_lemma =>
                      have y0 : (0 : Int) ≤ (y : Int) := by omega
                      have y1 : (y : Int) < (n : Int) := by omega
                      have HQD := hidY (hq.out.any (grown_below ((Below.refl W7.heap.size W7).drew) none))
                      have HBD := hidY (Below.drew hb7.out)
                      have ca := HQD.out.cellR y k hyl hkl
                      have cb := HQD.out.cellR y p hyl p2
                      rw [if_neg (Nat.lt_irrefl y)] at ca cb
                      obtain ⟨u, hu⟩ : ∃ u, M2 (tw k p y) p = u := ⟨_, rfl⟩
                      obtain ⟨v, hv⟩ : ∃ v, M2 (tw k p y) k = v := ⟨_, rfl⟩
                      rw [hv] at ca
                      rw [hu] at cb
                      have hA := HQD.out.set (T' := fun a c => if a = y ∧ c = k then u else if a < y then M2 (tw k p a) (tw k p c) else M2 (tw k p a) c) y k u hyl (fun a c _ _ => rfl)
                      have hB := hA.1.set (T' := fun a c => if a < y + 1 then M2 (tw k p a) (tw k p c) else M2 (tw k p a) c) y p v hyl (fun a c _ _ => by
                        by_cases h1 : a = y
                        · rw [if_pos (by omega), h1]
                          by_cases h2 : c = p
                          · rw [if_pos ⟨rfl, h2⟩, h2, tw_q, hv]
                          · rw [if_neg (fun z => h2 z.2)]
                            by_cases h3 : c = k
                            · rw [if_pos ⟨rfl, h3⟩, h3, tw_p, hu]
                            · rw [if_neg (fun z => h3 z.2), if_neg (Nat.lt_irrefl y), tw_else h3 h2]
                        · rw [if_neg (show ¬ (a = y ∧ c = p) from fun z => h1 z.1), if_neg (show ¬ (a = y ∧ c = k) from fun z => h1 z.1)]
                          by_cases h2 : a < y
                          · rw [if_pos (by omega), if_pos h2]
                          · rw [if_neg (by omega), if_neg h2])
                      have HSA := hidY hA.1
                      have HSB := hidY hB.1
                      have hbs : ∀ z, some (gs5 y) = some z → w.heap.size ≤ z := fun z hz => by have := Option.some.inj hz; have := ((HQD.out.rows y hyl).lt (gs5 y) rfl).1; omega
                      have HBB := hidY ((HBD.out.grown hA.2 HBD.out.size hbs).grown hB.2 (HBD.out.grown hA.2 HBD.out.size hbs).size hbs)
                      have HSy : Hid (∀ W, (∃ T9, TabV w.heap.size n n gs5 cs5 T9 (.slice (some ⟨g4, 0, none⟩) n c3) W) → (fun X' : World => X'.cell? ⟨g4, y, none⟩ = some (.slice (some ⟨gs5 y, 0, none⟩) n (cs5 y))) W) := fun W ⟨T9, h9⟩ => h9.cellO y hyl
                      have z1 : W7.drew.frozen? ⟨gs5 y, k, none⟩ = false := (HQD.out.rows y hyl).frozenAt k
                      have z3 : (W7.setCell ⟨gs5 y, k, none⟩ (.int .i64 u)).drew.frozen? ⟨gs5 y, p, none⟩ = false := (hA.1.rows y hyl).frozenAt p
                      have hl5 := ((HQD.out.rows y hyl).lt (gs5 y) rfl).2
                      have hl6 : gs5 y < (W7.setCell ⟨gs5 y, k, none⟩ (.int .i64 u)).drew.heap.size := ((hA.1.rows y hyl).lt (gs5 y) rfl).2
                      obtain ⟨vst, cst⟩ : ∃ vst, (W7.setCell ⟨gs5 y, k, none⟩ (.int .i64 u)).cell? ⟨gs5 y, p, none⟩ = some vst := ⟨_, hA.1.cellR y p hyl p2⟩
                      clear hu hv hA hB hbs hq hb7
                      go_upto_region 39 with (fail)
                      apply cut_one
                      case h =>
                        intro key
                        refine rhd HSy ⟨_, HQD.out⟩ (fun hHeld => ?_)
                        refine tq 155 0 (h := ?_)
                        simp only [List.setIfInBounds_toArray, List.set_cons_succ, List.set_cons_zero]
                        refine tq 156 1 (h := ?_)
                        simp only [List.setIfInBounds_toArray, List.set_cons_succ, List.set_cons_zero]
                        refine tq 157 2 (h := ?_)
                        simp only [List.setIfInBounds_toArray, List.set_cons_succ, List.set_cons_zero]
                        refine tq 158 3 (h := ?_)
                        simp only [List.setIfInBounds_toArray, List.set_cons_succ, List.set_cons_zero]
                        refine tq 159 4 (h := ?_)
                        simp only [List.setIfInBounds_toArray, List.set_cons_succ, List.set_cons_zero]
                        refine tq 160 5 (h := ?_)
                        simp only [List.setIfInBounds_toArray, List.set_cons_succ, List.set_cons_zero]
                        refine tq 161 6 (h := ?_)
                        simp only [List.setIfInBounds_toArray, List.set_cons_succ, List.set_cons_zero]
                        refine tq 162 7 (h := ?_)
                        simp only [List.setIfInBounds_toArray, List.set_cons_succ, List.set_cons_zero]
                        refine tq 163 8 (h := ?_)
                        simp only [List.setIfInBounds_toArray, List.set_cons_succ, List.set_cons_zero]
                        refine tq 164 9 (h := ?_)
                        simp only [List.setIfInBounds_toArray, List.set_cons_succ, List.set_cons_zero]
                        refine tq 165 10 (h := ?_)
                        simp only [List.setIfInBounds_toArray, List.set_cons_succ, List.set_cons_zero]
                        refine tq 166 11 (h := ?_)
                        simp only [List.setIfInBounds_toArray, List.set_cons_succ, List.set_cons_zero]
                        refine tq 167 12 (h := ?_)
                        simp only [List.setIfInBounds_toArray, List.set_cons_succ, List.set_cons_zero]
                        refine tq 168 13 (h := ?_)
                        simp only [List.setIfInBounds_toArray, List.set_cons_succ, List.set_cons_zero]
                        refine tq 169 14 (h := ?_)
                        simp only [List.setIfInBounds_toArray, List.set_cons_succ, List.set_cons_zero]
                        refine tq 170 15 (h := ?_)
                        simp only [List.setIfInBounds_toArray, List.set_cons_succ, List.set_cons_zero]
                        refine tq 172 17 (h := ?_)
                        simp only [List.setIfInBounds_toArray, List.set_cons_succ, List.set_cons_zero]
                        refine tq 173 18 (h := ?_)
                        simp only [List.setIfInBounds_toArray, List.set_cons_succ, List.set_cons_zero]
                        refine tq 174 19 (h := ?_)
                        simp only [List.setIfInBounds_toArray, List.set_cons_succ, List.set_cons_zero]
                        refine tq 175 20 (h := ?_)
                        simp only [List.setIfInBounds_toArray, List.set_cons_succ, List.set_cons_zero]
                        refine tq 176 21 (h := ?_)
                        simp only [List.setIfInBounds_toArray, List.set_cons_succ, List.set_cons_zero]
                        refine tq 177 22 (h := ?_)
                        simp only [List.setIfInBounds_toArray, List.set_cons_succ, List.set_cons_zero]
                        refine rd2 16 23 ?_ ?_
                        · intro K0 hK0
                          go_simp
                          refine hK0.out _ _ (hHeld) (fun hHeld => ?_)
                          clear hK0 K0
                          try simp only [Act.put]
                          try simp only [List.getElem_toArray]
                          try simp only [List.getElem_cons_succ]
                          try simp only [List.getElem_cons_zero]
                          try simp only [List.setIfInBounds_toArray, List.set_cons_succ, List.set_cons_zero]
                          refine rd1 23 ?_
                          intro K0 hK0
                          go_simp
                          refine hK0.out _ _ (hHeld) (fun hHeld => ?_)
                          clear hK0 K0
                          try simp only [Act.put]
                          try simp only [List.getElem_toArray]
                          try simp only [List.getElem_cons_succ]
                          try simp only [List.getElem_cons_zero]
                          try simp only [List.setIfInBounds_toArray, List.set_cons_succ, List.set_cons_zero]
                          refine tq 179 24 (h := ?_)
                          simp only [List.setIfInBounds_toArray, List.set_cons_succ, List.set_cons_zero]
                          refine rd1 25 ?_
                          intro K0 hK0
                          go_simp
                          refine hK0.out _ _ (HSy.out _ ⟨_, HSA.out⟩) (fun hHeld => ?_)
                          clear hK0 K0
                          try simp only [Act.put]
                          try simp only [List.getElem_toArray]
                          try simp only [List.getElem_cons_succ]
                          try simp only [List.getElem_cons_zero]
                          try simp only [List.setIfInBounds_toArray, List.set_cons_succ, List.set_cons_zero]
                          refine tq 180 26 (h := ?_)
                          simp only [List.setIfInBounds_toArray, List.set_cons_succ, List.set_cons_zero]
                          refine rd1 27 ?_
                          intro K0 hK0
                          go_simp
                          refine hK0.out _ _ (HSy.out _ ⟨_, HSB.out⟩) (fun hHeld => ?_)
                          clear hK0 K0
                          try simp only [Act.put]
                          try simp only [List.getElem_toArray]
                          try simp only [List.getElem_cons_succ]
                          try simp only [List.getElem_cons_zero]
                          try simp only [List.setIfInBounds_toArray, List.set_cons_succ, List.set_cons_zero]
                          refine wpAnyH_done (by kernel_rfl) ?_ _
                          clear hHeld
                          exact key.out
                        · intro K0 hK0
                          go_simp
                          refine hK0.out _ _ (hHeld) (fun hHeld => ?_)
                          clear hK0 K0
                          try simp only [Act.put]
                          try simp only [List.getElem_toArray]
                          try simp only [List.getElem_cons_succ]
                          try simp only [List.getElem_cons_zero]
                          try simp only [List.setIfInBounds_toArray, List.set_cons_succ, List.set_cons_zero]
                          refine rd1 16 ?_
                          intro K0 hK0
                          go_simp
                          refine hK0.out _ _ (hHeld) (fun hHeld => ?_)
                          clear hK0 K0
                          try simp only [Act.put]
                          try simp only [List.getElem_toArray]
                          try simp only [List.getElem_cons_succ]
                          try simp only [List.getElem_cons_zero]
                          try simp only [List.setIfInBounds_toArray, List.set_cons_succ, List.set_cons_zero]
                          refine tq 179 24 (h := ?_)
                          simp only [List.setIfInBounds_toArray, List.set_cons_succ, List.set_cons_zero]
                          refine rd1 25 ?_
                          intro K0 hK0
                          go_simp
                          refine hK0.out _ _ (HSy.out _ ⟨_, HSA.out⟩) (fun hHeld => ?_)
                          clear hK0 K0
                          try simp only [Act.put]
                          try simp only [List.getElem_toArray]
                          try simp only [List.getElem_cons_succ]
                          try simp only [List.getElem_cons_zero]
                          try simp only [List.setIfInBounds_toArray, List.set_cons_succ, List.set_cons_zero]
                          refine tq 180 26 (h := ?_)
                          simp only [List.setIfInBounds_toArray, List.set_cons_succ, List.set_cons_zero]
                          refine rd1 27 ?_
                          intro K0 hK0
                          go_simp
                          refine hK0.out _ _ (HSy.out _ ⟨_, HSB.out⟩) (fun hHeld => ?_)
                          clear hK0 K0
                          try simp only [Act.put]
                          try simp only [List.getElem_toArray]
                          try simp only [List.getElem_cons_succ]
                          try simp only [List.getElem_cons_zero]
                          try simp only [List.setIfInBounds_toArray, List.set_cons_succ, List.set_cons_zero]
                          refine wpAnyH_done (by kernel_rfl) ?_ _
                          clear hHeld
                          exact key.out
                      go_wp2
                      go_roundw
                      case rel => exact ⟨y + 1, by omega, by go_num, HSB.out, HBB.out⟩
                      case measure => simp only [intOf]; omega
                    · as_aux_lemma =>
                      obtain rfl : n = y := by omega
                      have yN : ¬ (n : Int) < (n : Int) := by omega
                      obtain ⟨N, hN⟩ : ∃ N : Nat → Nat → Int, (fun i j => M2 (tw k p i) (tw k p j)) = N := ⟨_, rfl⟩
                      have hNa : ∀ i j, M2 (tw k p i) (tw k p j) = N i j := fun i j => by rw [← hN]
                      have HQN : Hid (TabV w.heap.size n n gs5 cs5 N (.slice (some ⟨g4, 0, none⟩) n c3) W7) := hq.out.congr (fun a c ha _ => by rw [if_pos ha, hNa])
                      simp only [hNa] at HS1 HS2 HS3 HS6
                      clear hq hN hNa
                      obtain ⟨pv, hpv⟩ : ∃ pv, N k k = pv := ⟨_, rfl⟩
                      have HPV := hidY hpv
                      obtain ⟨sg2, hsg2⟩ : ∃ sg2 : Int, (if decide (0 < pv) = decide (0 < b) then sg + 1 else sg - 1) = sg2 := ⟨_, rfl⟩
                      have HSG := hidY hsg2
                      rw [hpv] at HS1 HS2 HS6
                      rw [hsg2] at HS2
                      have ta := HQN.out.cellO k hkl
                      have tb := HQN.out.cellR k k hkl hkl
                      rw [hpv] at tb
                      have hg4 := (HQN.out.outer.lt g4 rfl).2
                      have hg5 := ((HQN.out.rows k hkl).lt (gs5 k) rfl).2
                      obtain ⟨bb, hbb⟩ : ∃ bb : Bool, (decide (0 < pv) == decide (0 < b)) = bb := ⟨_, rfl⟩
                      have HBB := hidY hbb
                      have hsw1 : IntKind.i64.wrap (sg + 1) = sg + 1 := IntWalk.i64_in _ (by omega)
                      have hsw2 : IntKind.i64.wrap (sg - 1) = sg - 1 := IntWalk.i64_in _ (by omega)
                      clear hpv hsg2 hbb
                      go_upto_region 40 with (fail)
                      go_cut [191] from 181 to 191 (fun v191 wx => v191 = .bool bb ∧ wx = W7)
                      case first =>
                        by_cases q1 : 0 < pv <;> by_cases q2 : 0 < b
                        · have E : Hid (true = bb) := (by rw [← HBB.out, decide_eq_true q1, decide_eq_true q2]; rfl : true = bb)
                          go_wp2
                          go_meet
                          exact ⟨by rw [← E.out], rfl⟩
                        · have E : Hid (false = bb) := (by rw [← HBB.out, decide_eq_true q1, decide_eq_false q2]; rfl : false = bb)
                          go_wp2
                          go_meet
                          exact ⟨by rw [← E.out], rfl⟩
                        · have E : Hid (false = bb) := (by rw [← HBB.out, decide_eq_false q1, decide_eq_true q2]; rfl : false = bb)
                          go_wp2
                          go_meet
                          exact ⟨by rw [← E.out], rfl⟩
                        · have E : Hid (true = bb) := (by rw [← HBB.out, decide_eq_false q1, decide_eq_false q2]; rfl : true = bb)
                          go_wp2
                          go_meet
                          exact ⟨by rw [← E.out], rfl⟩
                      case rest =>
                      obtain ⟨rfl, hwe⟩ := hcut
                      subst hwe
                      rename World => W7
                      clear ta tb
                      go_upto_if 191 with (fail)
                      go_cut [6] from 192 to 195 (fun v6 wx => v6 = .int .i64 sg2 ∧ wx = W7)
                      case first =>
                        cases bb with
                        | true =>
                          have E : Hid (sg + 1 = sg2) := (by rw [← HSG.out, if_pos (beq_iff_eq.1 HBB.out)] : sg + 1 = sg2)
                          go_wp2
                          go_meet
                          exact ⟨by rw [← E.out], rfl⟩
                        | false =>
                          have E : Hid (sg - 1 = sg2) := (by rw [← HSG.out, if_neg (beq_eq_false_iff_ne.1 HBB.out)] : sg - 1 = sg2)
                          go_wp2
                          go_meet
                          exact ⟨by rw [← E.out], rfl⟩
                      case rest =>
                      obtain ⟨rfl, hwe⟩ := hcut
                      subst hwe
                      rename World => W7
                      have HT0 : Hid (TabV w.heap.size n n gs5 cs5 (T9 N k b (k + 1) (k + 1)) (.slice (some ⟨g4, 0, none⟩) n c3) W7) := HQN.out.congr (fun a c _ _ => by unfold T9; rw [if_neg (by omega)])
                      have HBW := hidY hb7.out
                      have hbz : (b == 0) = false := beq_eq_false_iff_ne.2 s4
                      have ewk : IntKind.i64.wrap ((k : Int) + 1) = ((k + 1 : Nat) : Int) := (IntWalk.i64_in _ (by omega)).trans (by omega)
                      clear HQN hb7 hg4 hg5 hsw1 hsw2
                      go_wp2
                      go_loopw [17] (fun v17 wr => ∃ i : Nat, k + 1 ≤ i ∧ i ≤ n ∧ v17 = .int .i64 (i : Nat) ∧ Hid (TabV w.heap.size n n gs5 cs5 (T9 N k b i (k + 1)) (.slice (some ⟨g4, 0, none⟩) n c3) wr) ∧ Hid (Below w.heap.size w wr)) (fun v17 _ => n - (intOf v17).toNat)
                      case atStart => exact ⟨k + 1, Nat.le_refl _, by omega, rfl, HT0.out, HBW.out⟩
                      case round =>
                        clear HT0 HBW
                        rename World => W8
                        obtain ⟨i, hki, hin, rfl, hq8, hb8⟩ := hrel
                        by_cases hil : i < n
                        · as_aux_lemma =>
                          have i0 : (0 : Int) ≤ (i : Int) := by omega
                          have i1n : (i : Int) < (n : Int) := by omega
                          have HT0 := hidY hq8.out
                          have HBW := hidY hb8.out
                          clear hq8 hb8
                          go_wp2
                          go_loopw [18] (fun v18 wr => ∃ j : Nat, k + 1 ≤ j ∧ j ≤ n ∧ v18 = .int .i64 (j : Nat) ∧ Hid (TabV w.heap.size n n gs5 cs5 (T9 N k b i j) (.slice (some ⟨g4, 0, none⟩) n c3) wr) ∧ Hid (Below w.heap.size w wr)) (fun v18 _ => n - (intOf v18).toNat)
                          case atStart => exact ⟨k + 1, Nat.le_refl _, by omega, rfl, HT0.out, HBW.out⟩
                          case round =>
                            clear HT0 HBW
                            rename World => W9
                            obtain ⟨j, hkj, hjn, rfl, hq9, hb9⟩ := hrel
                            by_cases hjl : j < n
                            · as_aux_lemma =>
                              have j0 : (0 : Int) ≤ (j : Int) := by omega
                              have j1n : (j : Int) < (n : Int) := by omega
                              have HQD := hidY (hq9.out.any (grown_below ((Below.refl W9.heap.size W9).drew) none))
                              have HBD := hidY (Below.drew hb9.out)
                              have cc3 := HQD.out.cellR i j hil hjl
                              have e3 : T9 N k b i j i j = N i j := by unfold T9; rw [if_neg (by omega)]
                              rw [e3] at cc3
                              obtain ⟨⟨q1, q2, q3, q4⟩, q5, q6⟩ := HS6.out i j hki hil hkj hjl
                              obtain ⟨r, hr⟩ : ∃ r, elM k b N i j = r := ⟨_, rfl⟩
                              have hr2 : (N i j * pv - N i k * N k j).tdiv b = r := by rw [← hr, ← HPV.out]; rfl
                              rw [hr] at q6
                              obtain ⟨u, hu⟩ : ∃ u, N i j = u := ⟨_, rfl⟩
                              obtain ⟨v, hv⟩ : ∃ v, N i k = v := ⟨_, rfl⟩
                              obtain ⟨z, hz⟩ : ∃ z, N k j = z := ⟨_, rfl⟩
                              rw [hu] at cc3 q1
                              rw [hu, hv, hz] at hr2 q5
                              rw [hv] at q3
                              rw [hz] at q4
                              obtain ⟨m1, hm1⟩ : ∃ m1, u * pv = m1 := ⟨_, rfl⟩
                              obtain ⟨m2, hm2⟩ : ∃ m2, v * z = m2 := ⟨_, rfl⟩
                              have hb1 : m1.natAbs ≤ 4611686018427387904 := by rw [← hm1, Int.natAbs_mul]; exact Nat.mul_le_mul q1 q2
                              have hb2 : m2.natAbs ≤ 4611686018427387904 := by rw [← hm2, Int.natAbs_mul]; exact Nat.mul_le_mul q3 q4
                              rw [hm1, hm2] at hr2 q5
                              have ew1 : IntKind.i64.wrap (u * pv) = m1 := by rw [hm1]; exact IntWalk.i64_in _ (by omega)
                              have ew2 : IntKind.i64.wrap (v * z) = m2 := by rw [hm2]; exact IntWalk.i64_in _ (by omega)
                              have ew3 : IntKind.i64.wrap (m1 - m2) = m1 - m2 := IntWalk.i64_in _ (by omega)
                              have ew4 : IntKind.i64.wrap ((m1 - m2).tdiv b) = r := by rw [hr2]; exact IntWalk.i64_in _ (by omega)
                              have hset := HQD.out.set (T' := T9 N k b i (j + 1)) i j r hil (fun a c _ _ => by
                                unfold T9
                                by_cases h1 : a = i ∧ c = j
                                · rw [if_pos ⟨by omega, by omega, Or.inr ⟨h1.1, by omega⟩⟩, if_pos h1, h1.1, h1.2, hr]
                                · rw [if_neg h1]
                                  by_cases h2 : k + 1 ≤ a ∧ k + 1 ≤ c ∧ (a < i ∨ (a = i ∧ c < j))
                                  · rw [if_pos ⟨h2.1, h2.2.1, by omega⟩, if_pos h2]
                                  · rw [if_neg (fun y => h2 ⟨y.1, y.2.1, by rcases y.2.2 with y1 | y1; exact Or.inl y1; exact Or.inr ⟨y1.1, by have : c ≠ j := fun e => h1 ⟨y1.1, e⟩; omega⟩⟩), if_neg h2])
                              have HST := hidY hset.1
                              have HBT := hidY (HBD.out.grown hset.2 HBD.out.size (fun y hy => by have := Option.some.inj hy; have := ((HQD.out.rows i hil).lt (gs5 i) rfl).1; omega))
                              have HSz : Hid (∀ W, (∃ j9, TabV w.heap.size n n gs5 cs5 (T9 N k b i j9) (.slice (some ⟨g4, 0, none⟩) n c3) W) → (fun X' : World => X'.cell? ⟨g4, i, none⟩ = some (.slice (some ⟨gs5 i, 0, none⟩) n (cs5 i)) ∧ X'.cell? ⟨g4, k, none⟩ = some (.slice (some ⟨gs5 k, 0, none⟩) n (cs5 k)) ∧ X'.cell? ⟨gs5 k, k, none⟩ = some (.int .i64 pv) ∧ X'.cell? ⟨gs5 i, k, none⟩ = some (.int .i64 v) ∧ X'.cell? ⟨gs5 k, j, none⟩ = some (.int .i64 z)) W) := fun W ⟨j9, h9⟩ => by
                                have a1 := h9.cellR k k hkl hkl
                                have a2 := h9.cellR i k hil hkl
                                have a3 := h9.cellR k j hkl hjl
                                have b1 : ∀ x, T9 N k b i j9 k x = N k x := fun x => by unfold T9; rw [if_neg (by omega)]
                                have b2 : ∀ x, T9 N k b i j9 x k = N x k := fun x => by unfold T9; rw [if_neg (by omega)]
                                rw [b1, HPV.out] at a1
                                rw [b2, hv] at a2
                                rw [b1, hz] at a3
                                exact ⟨h9.cellO i hil, h9.cellO k hkl, a1, a2, a3⟩
                              have z0 : W9.drew.frozen? ⟨gs5 i, j, none⟩ = false := (HQD.out.rows i hil).frozenAt j
                              have hl5 := ((HQD.out.rows i hil).lt (gs5 i) rfl).2
                              clear hu hv hz hm1 hm2 hb1 hb2 hr hr2 q1 q2 q3 q4 q5 q6 e3 hset hq9 hb9
                              go_upto_region 49 with (fail)
                              refine rhd HSz ⟨_, HQD.out⟩ (fun hHeld => ?_)
                              refine tq 210 0 (h := ?_)
                              simp only [List.setIfInBounds_toArray, List.set_cons_succ, List.set_cons_zero]
                              refine tq 211 1 (h := ?_)
                              simp only [List.setIfInBounds_toArray, List.set_cons_succ, List.set_cons_zero]
                              refine tq 212 2 (h := ?_)
                              simp only [List.setIfInBounds_toArray, List.set_cons_succ, List.set_cons_zero]
                              refine tq 213 3 (h := ?_)
                              simp only [List.setIfInBounds_toArray, List.set_cons_succ, List.set_cons_zero]
                              refine tq 214 4 (h := ?_)
                              simp only [List.setIfInBounds_toArray, List.set_cons_succ, List.set_cons_zero]
                              refine tq 215 5 (h := ?_)
                              simp only [List.setIfInBounds_toArray, List.set_cons_succ, List.set_cons_zero]
                              refine tq 216 6 (h := ?_)
                              simp only [List.setIfInBounds_toArray, List.set_cons_succ, List.set_cons_zero]
                              refine tq 217 7 (h := ?_)
                              simp only [List.setIfInBounds_toArray, List.set_cons_succ, List.set_cons_zero]
                              refine tq 218 8 (h := ?_)
                              simp only [List.setIfInBounds_toArray, List.set_cons_succ, List.set_cons_zero]
                              refine tq 219 9 (h := ?_)
                              simp only [List.setIfInBounds_toArray, List.set_cons_succ, List.set_cons_zero]
                              refine tq 220 10 (h := ?_)
                              simp only [List.setIfInBounds_toArray, List.set_cons_succ, List.set_cons_zero]
                              refine tq 222 12 (h := ?_)
                              simp only [List.setIfInBounds_toArray, List.set_cons_succ, List.set_cons_zero]
                              refine tq 223 13 (h := ?_)
                              simp only [List.setIfInBounds_toArray, List.set_cons_succ, List.set_cons_zero]
                              refine tq 224 14 (h := ?_)
                              simp only [List.setIfInBounds_toArray, List.set_cons_succ, List.set_cons_zero]
                              refine tq 225 15 (h := ?_)
                              simp only [List.setIfInBounds_toArray, List.set_cons_succ, List.set_cons_zero]
                              refine tq 226 16 (h := ?_)
                              simp only [List.setIfInBounds_toArray, List.set_cons_succ, List.set_cons_zero]
                              refine tq 227 17 (h := ?_)
                              simp only [List.setIfInBounds_toArray, List.set_cons_succ, List.set_cons_zero]
                              refine tq 228 18 (h := ?_)
                              simp only [List.setIfInBounds_toArray, List.set_cons_succ, List.set_cons_zero]
                              refine tq 230 20 (h := ?_)
                              simp only [List.setIfInBounds_toArray, List.set_cons_succ, List.set_cons_zero]
                              refine tq 231 21 (h := ?_)
                              simp only [List.setIfInBounds_toArray, List.set_cons_succ, List.set_cons_zero]
                              refine tq 232 22 (h := ?_)
                              simp only [List.setIfInBounds_toArray, List.set_cons_succ, List.set_cons_zero]
                              refine tq 233 23 (h := ?_)
                              simp only [List.setIfInBounds_toArray, List.set_cons_succ, List.set_cons_zero]
                              refine tq 234 24 (h := ?_)
                              simp only [List.setIfInBounds_toArray, List.set_cons_succ, List.set_cons_zero]
                              refine tq 235 25 (h := ?_)
                              simp only [List.setIfInBounds_toArray, List.set_cons_succ, List.set_cons_zero]
                              refine tq 236 26 (h := ?_)
                              simp only [List.setIfInBounds_toArray, List.set_cons_succ, List.set_cons_zero]
                              refine tq 237 27 (h := ?_)
                              simp only [List.setIfInBounds_toArray, List.set_cons_succ, List.set_cons_zero]
                              refine tq 238 28 (h := ?_)
                              simp only [List.setIfInBounds_toArray, List.set_cons_succ, List.set_cons_zero]
                              refine tq 239 29 (h := ?_)
                              simp only [List.setIfInBounds_toArray, List.set_cons_succ, List.set_cons_zero]
                              refine tq 240 30 (h := ?_)
                              simp only [List.setIfInBounds_toArray, List.set_cons_succ, List.set_cons_zero]
                              refine tq 241 31 (h := ?_)
                              simp only [List.setIfInBounds_toArray, List.set_cons_succ, List.set_cons_zero]
                              refine tq 242 32 (h := ?_)
                              simp only [List.setIfInBounds_toArray, List.set_cons_succ, List.set_cons_zero]
                              refine tq 243 33 (h := ?_)
                              simp only [List.setIfInBounds_toArray, List.set_cons_succ, List.set_cons_zero]
                              refine tq 244 34 (h := ?_)
                              simp only [List.setIfInBounds_toArray, List.set_cons_succ, List.set_cons_zero]
                              refine tq 246 36 (h := ?_)
                              simp only [List.setIfInBounds_toArray, List.set_cons_succ, List.set_cons_zero]
                              refine rd1 11 ?_
                              intro K0 hK0
                              go_simp
                              refine hK0.out _ _ (hHeld) (fun hHeld => ?_)
                              clear hK0 K0
                              try simp only [Act.put]
                              try simp only [List.getElem_toArray]
                              try simp only [List.getElem_cons_succ]
                              try simp only [List.getElem_cons_zero]
                              try simp only [List.setIfInBounds_toArray, List.set_cons_succ, List.set_cons_zero]
                              refine tq 229 19 (h := ?_)
                              simp only [List.setIfInBounds_toArray, List.set_cons_succ, List.set_cons_zero]
                              refine tq 245 35 (h := ?_)
                              simp only [List.setIfInBounds_toArray, List.set_cons_succ, List.set_cons_zero]
                              refine tq 247 37 (h := ?_)
                              simp only [List.setIfInBounds_toArray, List.set_cons_succ, List.set_cons_zero]
                              refine tq 248 38 (h := ?_)
                              simp only [List.setIfInBounds_toArray, List.set_cons_succ, List.set_cons_zero]
                              refine rd1 39 ?_
                              intro K0 hK0
                              go_simp
                              refine hK0.out _ _ (HSz.out _ ⟨_, HST.out⟩) (fun hHeld => ?_)
                              clear hK0 K0
                              try simp only [Act.put]
                              try simp only [List.getElem_toArray]
                              try simp only [List.getElem_cons_succ]
                              try simp only [List.getElem_cons_zero]
                              try simp only [List.setIfInBounds_toArray, List.set_cons_succ, List.set_cons_zero]
                              refine wpAnyH_done (by kernel_rfl) ?_ _
                              clear hHeld
                              go_wp2
                              go_roundw
                              case rel => exact ⟨j + 1, by omega, by omega, by go_num, HST.out, HBT.out⟩
                              case measure => simp only [intOf]; omega
                            · obtain rfl : n = j := by omega
                              have jN : ¬ (n : Int) < (n : Int) := by omega
                              have HTN : Hid (TabV w.heap.size n n gs5 cs5 (T9 N k b (i + 1) (k + 1)) (.slice (some ⟨g4, 0, none⟩) n c3) W9) := hq9.out.congr (fun a c ha hc => by
                                unfold T9
                                by_cases h2 : k + 1 ≤ a ∧ k + 1 ≤ c ∧ a < i + 1
                                · rw [if_pos ⟨h2.1, h2.2.1, Or.inl h2.2.2⟩, if_pos ⟨h2.1, h2.2.1, by omega⟩]
                                · rw [if_neg (by omega), if_neg (by omega)])
                              have HBN := hidY hb9.out
                              clear hq9 hb9
                              go_wp2
                              go_roundw
                              case rel => exact ⟨i + 1, by omega, by omega, by go_num, HTN.out, HBN.out⟩
                              case measure => simp only [intOf]; omega
                        · as_aux_lemma =>
                          obtain rfl : n = i := by omega
                          have iN : ¬ (n : Int) < (n : Int) := by omega
                          have ta := hq8.out.cellO k hkl
                          have tb := hq8.out.cellR k k hkl hkl
                          have e9 : T9 N k b n (k + 1) k k = pv := by unfold T9; rw [if_neg (by omega)]; exact HPV.out
                          rw [e9] at tb
                          have hg4 := (hq8.out.outer.lt g4 rfl).2
                          have hg5 := ((hq8.out.rows k hkl).lt (gs5 k) rfl).2
                          have HQ8 := hidY hq8.out
                          have HB8 := hidY hb8.out
                          have heq : ∀ a c, k + 1 ≤ a → a < n → k + 1 ≤ c → c < n → T9 N k b n (k + 1) a c = elM k b N a c := fun a c a1 a2 a3 a4 => by unfold T9; rw [if_pos ⟨a1, a3, Or.inl a2⟩]
                          have HE9 : Hid (∃ U9, (∃ π Y X, Elm n m0 wt U0 (k + 1) t2 (T9 N k b n (k + 1)) pv sg2 U9 π Y X)) := (by
                            obtain ⟨U9, π, Y, X, hE9⟩ := HS2.out
                            exact ⟨U9, π, Y, X, hE9.congr heq⟩ : ∃ U9, (∃ π Y X, Elm n m0 wt U0 (k + 1) t2 (T9 N k b n (k + 1)) pv sg2 U9 π Y X))
                          have HF9 : Hid (2 * t2 ≤ k + 1 + 1 ∧ (2 * t2 = k + 1 + 1 → k + 1 = n ∨ ∃ x, k + 1 ≤ x ∧ x < n ∧ T9 N k b n (k + 1) x x ≠ 0)) := ⟨HS3.out.1, fun e => by
                            rcases HS3.out.2 e with y | ⟨x, y1, y2, y3⟩
                            · exact Or.inl y
                            · exact Or.inr ⟨x, y1, y2, by rw [heq x x y1 y2 y1 y2]; exact y3⟩⟩
                          clear hq8 hb8 e9 heq
                          go_wp2
                          go_roundw
                          case rel =>
                            obtain ⟨U9, hE9⟩ := HE9.out
                            exact ⟨k + 1, t2, sg2, pv, _, gs5, cs5, U9, by omega, by go_num, rfl, rfl, HQ8.out, hE9, HF9.out, HB8.out⟩
                          case measure => simp only [intOf]; omega
        · obtain rfl : n = k := by omega
          have kN : ¬ (n : Int) < (n : Int) := by omega
          have HEN : Hid (sg = sgV (sqC (tU wt U0 m0) n) N1 ∧ (sqC (tU wt U0 m0) n n).natAbs = b.natAbs) := (by
            obtain ⟨π, Y, X, hE1⟩ := hE.out
            have z := hE1.ends HWW.out HUU.out hm (by omega) (fun a c h1 h2 => by omega)
            rw [if_pos rfl, HN1.out] at z
            exact z : _ ∧ _)
          clear hE hF hP
          go_wp2
          go_ret2
          exact ⟨sg, b, rfl, HEN.out, hb.out⟩
end Go.Proofs.Ytlcogbcpmneknaa

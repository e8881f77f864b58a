/- The walk of ref.pairing.walked. -/
import Derived.Test.YtphhlflcghffbaaTM12b
import Derived.Test.YtphhlflcghffbaaTM8
import Derived.Test.YtphhlflcghffbaaW3
import Derived.Test.YtphhlflcghffbaaW6P
import Derived.Deep.Cut
namespace Go.Proofs.Ytphhlflcghffbaa
open Go.RowKit Go.Maps

theorem other_at (B : Nat) (P : List (Nat × Nat)) (gX gY cX cY N n : Nat) (U : Nat → Nat) (w : World) (hP : PrAt w B P (.slice (some ⟨gX, 0, none⟩) N cX) (.slice (some ⟨gY, 0, none⟩) N cY)) (hN : P.length = N) (hN2 : N ≤ 1000) (hp : Prs n U P) (hn : n ≤ 16) (hb : ∀ i, i < N → (P.getD i (0, 0)).1 < 100 ∧ (P.getD i (0, 0)).2 < 100) (W : World) (hW : Below w.heap.size w W) (x : Nat) (hx : Sp n x) :
    Calls Try.prog 143 #[.agg #[.slice (some ⟨gX, 0, none⟩) N cX, .slice (some ⟨gY, 0, none⟩) N cY], spV x] W fun e w' => e = .returned (spV (U x)) ∧ Below W.heap.size W w' := by
  subst hN
  have h := other_any B P gX gY cX cY x W (hP.any (grown_below hW none)) hN2 hx.1 (hp.has x hx.2) (fun h4 => ⟨hp.has _ (by have := xr_lt (mt P x); omega), hp.two x hx h4⟩) hb (by have := hx.2; omega)
  rw [hp.oth x hx] at h
  exact h
/-- The walks from crossing c's first k strands. -/
def gk (n : Nat) (U : Nat → Nat) (L : List Nat) (c k : Nat) : List Nat := if k = 0 then L else if k = 1 then goS n U L (4 * c + 4) else goS n U (goS n U L (4 * c + 4)) (4 * c + 5)
theorem gk_next (n : Nat) (U : Nat → Nat) (L : List Nat) (c k : Nat) (hk : k < 2) : gk n U L c (k + 1) = goS n U (gk n U L c k) (4 * c + 4 + k) := by
  have : k = 0 ∨ k = 1 := by omega
  rcases this with rfl | rfl <;> rfl
theorem gk_rest {n : Nat} {U : Nat → Nat} (hU : Ties n U) {L : List Nat} (h : Rest n U L) (c k : Nat) (hc : c < n) : Rest n U (gk n U L c k) := by
  have s1 : Sp n (4 * c + 4) := by unfold Sp; omega
  have s2 : Sp n (4 * c + 5) := by unfold Sp; omega
  unfold gk
  split
  · exact h
  · split
    · exact (goS_rest hU h s1).1
    · exact (goS_rest hU (goS_rest hU h s1).1 s2).1
theorem made_four : (madeCells (Value.int .i64 0).cells (4 * 1)).toList = intsV (mapI 4 fun _ => 0) := by rw [made_zero 4, mapI_zero 4 (fun _ => 0) (fun _ _ => rfl)]

set_option maxHeartbeats 16000000 in
set_option maxRecDepth 100000 in
theorem walkedR_any (B : Nat) (P : List (Nat × Nat)) (gX gY cX cY N n : Nat) (U : Nat → Nat) (w : World) (hP : PrAt w B P (.slice (some ⟨gX, 0, none⟩) N cX) (.slice (some ⟨gY, 0, none⟩) N cY)) (hN : P.length = N) (hN2 : N ≤ 1000) (hp : Prs n U P) (hU : Ties n U) (hn : n ≤ 16) (hb : ∀ i, i < N → (P.getD i (0, 0)).1 < 100 ∧ (P.getD i (0, 0)).2 < 100) :
    Calls Try.prog 90 #[.agg #[.slice (some ⟨gX, 0, none⟩) N cX, .slice (some ⟨gY, 0, none⟩) N cY], .int .i64 (n : Nat)] w fun e w' => ∃ a2 c2, e = .returned (.agg #[.slice a2 n c2, .int .i64 (loP P : Nat)]) ∧ w'.ownsRow w.heap.size 105 5 (.slice a2 n c2) n (crossCells (lkC n U)) ∧ Below w.heap.size w w' := by
  have HO : Hid (∀ W, Below w.heap.size w W → ∀ x, Sp n x → Calls Try.prog 143 #[.agg #[.slice (some ⟨gX, 0, none⟩) N cX, .slice (some ⟨gY, 0, none⟩) N cY], spV x] W fun e w' => e = .returned (spV (U x)) ∧ Below W.heap.size W w') := fun W hW x hx => other_at B P gX gY cX cY N n U w hP hN hN2 hp hn hb W hW x hx
  have HP : Hid (PrAt w B P (.slice (some ⟨gX, 0, none⟩) N cX) (.slice (some ⟨gY, 0, none⟩) N cY)) := hP
  have HN : Hid (P.length = N) := hN
  have HPR : Hid (Prs n U P) := hp
  have HU : Hid (Ties n U) := hU
  obtain ⟨i0, hi, hz0, hz1, hz2⟩ := info_parts infoInt
  obtain ⟨i1, hj, hy0, hy1, hy2⟩ := info_parts infoInts
  obtain ⟨Y, hY⟩ : ∃ Y, Y = (w.alloc (.cells #[.slice (some ⟨gX, 0, none⟩) N cX, .slice (some ⟨gY, 0, none⟩) N cY] 129)).alloc (.cells #[.slice none 0 0, .int .i64 0] 24) := ⟨_, rfl⟩
  have HY : Hid (Y = (w.alloc (.cells #[.slice (some ⟨gX, 0, none⟩) N cX, .slice (some ⟨gY, 0, none⟩) N cY] 129)).alloc (.cells #[.slice none 0 0, .int .i64 0] 24)) := hY
  have hsY : Y.heap.size = w.heap.size + 2 := by rw [hY]; simp
  have HSY : Hid (Y.heap.size = w.heap.size + 2) := hsY
  have HBY : Hid (Below w.heap.size w Y) := (by rw [hY]; exact ((Below.refl _ _).alloc (Nat.le_refl _) _).alloc (by simp) _ : Below w.heap.size w Y)
  have HT0 : Hid (Y.heap[w.heap.size]? = some (.cells #[.slice (some ⟨gX, 0, none⟩) N cX, .slice (some ⟨gY, 0, none⟩) N cY] 129 (0, 0))) := (by rw [hY, box_low _ _ (by simp)]; exact box_at _ _ : Y.heap[w.heap.size]? = some (.cells #[.slice (some ⟨gX, 0, none⟩) N cX, .slice (some ⟨gY, 0, none⟩) N cY] 129 (0, 0)))
  have HT1 : Hid (Y.heap[w.heap.size + 1]? = some (.cells #[.slice none 0 0, .int .i64 0] 24 (0, 0))) := (by
    have := box_at (w.alloc (.cells #[.slice (some ⟨gX, 0, none⟩) N cX, .slice (some ⟨gY, 0, none⟩) N cY] 129)) (.cells #[.slice none 0 0, .int .i64 0] 24)
    rw [sz_alloc] at this
    rw [hY]
    exact this)
  have HBXY : Hid (∀ W, Below Y.heap.size Y W → Below w.heap.size w W ∧ W.heap[w.heap.size]? = some (.cells #[.slice (some ⟨gX, 0, none⟩) N cX, .slice (some ⟨gY, 0, none⟩) N cY] 129 (0, 0)) ∧ W.heap[w.heap.size + 1]? = some (.cells #[.slice none 0 0, .int .i64 0] 24 (0, 0))) := fun W hb => ⟨HBY.out.trans (hb.mono HBY.out.size), (hb.block _ (by have := HSY.out; omega)).trans HT0.out, (hb.block _ (by have := HSY.out; omega)).trans HT1.out⟩
  have H27 : Hid (∀ (ga gi : Nat) (gA gI : Nat → Nat) (W2 : World) (_ : Hid (Tw (w.heap.size + 2) n ga gi gA gI n n (fun i j => FL U (goC n U n) (4 * i + 4 + j)) (fun i j => iF (goC n U n) i j) W2)) (_ : Hid (Below Y.heap.size Y W2)) (u3 u7 u8 u9 u10 u11 u12 u13 u14 u15 u16 u17 u18 u19 u20 u21 u22 u23 u24 u25 u26 u27 u28 u29 u30 u31 u32 u33 u34 u35 u36 u37 u38 u39 u40 u41 u42 u43 u44 u45 u46 u47 u48 u49 u50 u51 u52 u53 u54 u55 u56 u57 u58 u59 u60 u61 u62 u63 u64 u65 u66 u67 u68 u69 u70 u71 u72 u73 u74 u75 u76 u77 u78 u79 u80 u81 u82 u83 u84 u85 u86 u87 u88 u89 u90 u91 u92 u93 u94 u95 u96 u97 u98 u99 u100 u101 u102 u103 u104 u105 u106 u107 u108 u109 u110 u111 u112 u113 u114 u115 u116 u117 u118 u119 u120 u121 u122 u123 u124 u125 u126 u127 u128 u129 u130 u131 u132 u133 u134 u135 u136 u137 u138 u139 u140 u141 u142 u143 u144 u145 u146 u147 u148 u149 u150 u151 u152 u153 u154 u155 u156 u157 u158 u159 u160 u161 u162 u163 u164 u165 u166 u167 u168 u169 u170 u171 u172 u173 u174 u175 u176 u177 u178 u179 u180 u181 u182 u183 u184 u185 u186 u187 u188 u189 u190 u191 u192 u193 u194 u195 u196 u197 u198 u199 u200 u201 u202 u203 u204 u205 u206 u207 u208 u209 u210 u211 u212 u213 u214 u215 u216 u217 u218 u219 u220 u221 u222 u223 u224 u225 u226 u227 u228 u229 u230 u231 u232 u233 u234 u235 u236 u237 u238 u239 u240 u241 u242 u243 u244 u245 u246 u247 u248 u249 u250 u251 u252 u253 u254 u255 u256 u257 u258 u259 : Value), Code.wp Try.prog (tailAt 27 (Try.f90.body.getD .skip)) (bodyPost Try.prog Try.f90 (fun e w' => ∃ a2 c2, e = .returned (.agg #[.slice a2 n c2, .int .i64 (loP P : Nat)]) ∧ w'.ownsRow w.heap.size 105 5 (.slice a2 n c2) n (crossCells (lkC n U)) ∧ Below w.heap.size w w')) { tmps := #[.agg #[.slice (some ⟨gX, 0, none⟩) N cX, .slice (some ⟨gY, 0, none⟩) N cY], .int .i64 (n : Nat), .pointer (some ⟨w.heap.size, 0, none⟩), u3, .pointer (some ⟨w.heap.size + 1, 0, none⟩), .slice (some ⟨ga, 0, none⟩) n n, .slice (some ⟨gi, 0, none⟩) n n, u7, u8, u9, u10, u11, u12, u13, u14, u15, u16, u17, u18, u19, u20, u21, u22, u23, u24, u25, u26, u27, u28, u29, u30, u31, u32, u33, u34, u35, u36, u37, u38, u39, u40, u41, u42, u43, u44, u45, u46, u47, u48, u49, u50, u51, u52, u53, u54, u55, u56, u57, u58, u59, u60, u61, u62, u63, u64, u65, u66, u67, u68, u69, u70, u71, u72, u73, u74, u75, u76, u77, u78, u79, u80, u81, u82, u83, u84, u85, u86, u87, u88, u89, u90, u91, u92, u93, u94, u95, u96, u97, u98, u99, u100, u101, u102, u103, u104, u105, u106, u107, u108, u109, u110, u111, u112, u113, u114, u115, u116, u117, u118, u119, u120, u121, u122, u123, u124, u125, u126, u127, u128, u129, u130, u131, u132, u133, u134, u135, u136, u137, u138, u139, u140, u141, u142, u143, u144, u145, u146, u147, u148, u149, u150, u151, u152, u153, u154, u155, u156, u157, u158, u159, u160, u161, u162, u163, u164, u165, u166, u167, u168, u169, u170, u171, u172, u173, u174, u175, u176, u177, u178, u179, u180, u181, u182, u183, u184, u185, u186, u187, u188, u189, u190, u191, u192, u193, u194, u195, u196, u197, u198, u199, u200, u201, u202, u203, u204, u205, u206, u207, u208, u209, u210, u211, u212, u213, u214, u215, u216, u217, u218, u219, u220, u221, u222, u223, u224, u225, u226, u227, u228, u229, u230, u231, u232, u233, u234, u235, u236, u237, u238, u239, u240, u241, u242, u243, u244, u245, u246, u247, u248, u249, u250, u251, u252, u253, u254, u255, u256, u257, u258, u259], defers := [] } W2) := walked27 B P gX gY cX cY N n U w Y HP HN hN2 HPR hn HSY HBXY HU
  clear hP hN hp hU hb hY hsY
  go_enter Try.func90, Try.ntmps90
  go_wp2_with (first | (at_make; rw [← HY.out]; refine wpList_make_full _ rfl _ _ 33 rfl Y.heap.size 53 i1 (.slice none 0 0) 1 Try.underlying33 hj hy0 hy1 .i64 .i64 _ _ n rfl rfl rfl rfl (by rw [hy2]; omega) (by unfold maxLen; omega) (by simp) ?_; intro w1 hrow1 hg1; refine Hid.out ?_))
  refine Lib.hid ?_
  rw [made_nilsT n 4] at hrow1
  obtain ⟨ga, hga⟩ : ∃ ga, Y.heap.size = ga := ⟨_, rfl⟩
  rw [hga] at hrow1 ⊢
  have HA1 : Hid (Tb (w.heap.size + 2) ga n 4 (fun _ => 0) 0 (fun _ _ => 0) w1) := ⟨own_low hrow1 (by have := HSY.out; omega), fun i hi => absurd hi (Nat.not_lt_zero _), fun i j hi => absurd hi (Nat.not_lt_zero _)⟩
  have HB1 : Hid (Below Y.heap.size Y w1) := (Below.refl _ _).grown hg1 (Nat.le_refl _) (fun k hk => by cases hk)
  have HGA : Hid (Y.heap.size = ga) := hga
  have hlg : ga < w1.heap.size := HA1.out.lt.1.2
  clear hrow1 hg1 hga
  go_wp2_with (first | (at_make; refine wpList_make_full _ rfl _ _ 33 rfl w1.heap.size 53 i1 (.slice none 0 0) 1 Try.underlying33 hj hy0 hy1 .i64 .i64 _ _ n rfl rfl rfl rfl (by rw [hy2]; omega) (by unfold maxLen; omega) (by simp) ?_; intro w2 hrow2 hg2; refine Hid.out ?_))
  refine Lib.hid ?_
  rw [made_nilsT n 2] at hrow2
  obtain ⟨gi, hgi⟩ : ∃ gi, w1.heap.size = gi := ⟨_, rfl⟩
  rw [hgi] at hrow2 hlg ⊢
  have hs1 := HB1.out.size
  have HT2 : Hid (Tw (w.heap.size + 2) n ga gi (fun _ => 0) (fun _ => 0) 0 0 (fun _ _ => 0) (fun _ _ => -1) w2) := ⟨HA1.out.any hg2, ⟨own_low hrow2 (by have := HSY.out; omega), fun i hi => absurd hi (Nat.not_lt_zero _), fun i j hi => absurd hi (Nat.not_lt_zero _)⟩, by omega, fun i j hi => absurd hi (Nat.not_lt_zero _)⟩
  have HB2 : Hid (Below Y.heap.size Y w2) := HB1.out.grown hg2 HB1.out.size (fun k hk => by cases hk)
  have HBX : Hid (∀ W, Below Y.heap.size Y W → Below w.heap.size w W ∧ W.heap[w.heap.size]? = some (.cells #[.slice (some ⟨gX, 0, none⟩) N cX, .slice (some ⟨gY, 0, none⟩) N cY] 129 (0, 0)) ∧ W.heap[w.heap.size + 1]? = some (.cells #[.slice none 0 0, .int .i64 0] 24 (0, 0))) := fun W hb => ⟨HBY.out.trans (hb.mono HBY.out.size), (hb.block _ (by have := HSY.out; omega)).trans HT0.out, (hb.block _ (by have := HSY.out; omega)).trans HT1.out⟩
  have HBXX := HBX
  have HYG : Hid (Y.heap.size ≤ ga ∧ Y.heap.size ≤ gi) := (⟨by have := HGA.out; omega, by omega⟩ : Y.heap.size ≤ ga ∧ Y.heap.size ≤ gi)
  clear hrow2 hg2 hgi hs1 hlg HA1 HB1 HY
  go_wp2
  go_loopw [7] (fun v7 wr => ∃ (c : Nat) (gA gI : Nat → Nat), c ≤ n ∧ v7 = .int .i64 (c : Nat) ∧ Hid (Tw (w.heap.size + 2) n ga gi gA gI c c (fun _ _ => 0) (fun _ _ => -1) wr) ∧ Hid (Below Y.heap.size Y wr)) (fun v7 _ => n - (intOf v7).toNat)
  case atStart => exact ⟨0, fun _ => 0, fun _ => 0, Nat.zero_le _, rfl, HT2.out, HB2.out⟩
  case round =>
    clear HT2 HB2
    rename World => W1
    obtain ⟨c, gA, gI, hcn, rfl, htw, hbl⟩ := hrel
    by_cases hcl : c < n
    · have hci : (c : Int) < (n : Int) := by omega
      go_wp2_with (first | (at_make; refine wpList_make_full _ rfl _ _ 53 rfl (w.heap.size + 2) 3 i0 (.int .i64 0) 1 Try.underlying53 hi hz0 hz1 .i64 .i64 _ _ 4 rfl rfl rfl rfl (by rw [hz2]; omega) (by unfold maxLen; omega) (by have := htw.out.A.lt.1; omega) ?_; intro w4 hrow4 hg4; refine Hid.out ?_))
      refine Lib.hid ?_
      obtain ⟨g, hg⟩ : ∃ g, W1.heap.size = g := ⟨_, rfl⟩
      rw [made_four, hg] at hrow4
      rw [hg]
      have hmore := htw.out.moreA hg4 hrow4 (by omega)
      have ho4 := own_any htw.out.A.outer hg4
      have e0 := ho4.cellAt c (by omega)
      rw [outT_get n 4 gA c c hcl, if_neg (by omega)] at e0
      have z0 := ho4.frozenAt c
      have hl4 := (ho4.lt ga rfl).2
      obtain ⟨X, hX⟩ : ∃ X, X = w4.setCell ⟨ga, c, none⟩ (.slice (some ⟨g, 0, none⟩) 4 4) := ⟨_, rfl⟩
      have HX : Hid (X = w4.setCell ⟨ga, c, none⟩ (.slice (some ⟨g, 0, none⟩) 4 4)) := hX
      rw [← hX] at hmore
      have HMO : Hid (Tw (w.heap.size + 2) n ga gi (fun j => if j = c then g else gA j) gI (c + 1) c (fun _ _ => 0) (fun _ _ => -1) X) := hmore.1
      have HBN : Hid (Below Y.heap.size Y X) := (hbl.out.grown hg4 hbl.out.size (fun k hk => by cases hk)).grown hmore.2 (Nat.le_trans hbl.out.size hg4.size) (fun k hk => by have h1 : ga = k := Option.some.inj hk; have := HYG.out; omega)
      clear hrow4 hg4 hmore ho4 hg hX
      go_upto_region 7 with (fail)
      rw [← HX.out]
      clear e0 z0 hl4 HX
      obtain ⟨V, hV⟩ : ∃ V, V = X.alloc (.cells #[.int .i64 (-1), .int .i64 (-1)] 3) := ⟨_, rfl⟩
      have HV : Hid (V = X.alloc (.cells #[.int .i64 (-1), .int .i64 (-1)] 3)) := hV
      have hgV : X.grownBy V none := by rw [hV]; exact World.grownBy_alloc _ _ _
      have hrV : V.ownsRow (w.heap.size + 2) 3 1 (.slice (some ⟨X.heap.size, 0, none⟩) 2 2) 2 (intsV (mapI 2 fun _ => -1)) := ⟨by decide, Or.inr ⟨X.heap.size, 2, #[.int .i64 (-1), .int .i64 (-1)], rfl, by have := HMO.out.A.lt.1; omega, by rw [hV]; exact box_at _ _, by decide, by decide, by decide, rfl⟩⟩
      have hmore := HMO.out.moreI hgV hrV (Nat.le_refl _)
      have ho4 := own_any HMO.out.I.outer hgV
      have e0 := ho4.cellAt c (by omega)
      rw [outT_get n 2 gI c c hcl, if_neg (by omega)] at e0
      have z0 := ho4.frozenAt c
      have hl4 := (ho4.lt gi rfl).2
      have HM2 : Hid (Tw (w.heap.size + 2) n ga gi (fun j => if j = c then g else gA j) (fun j => if j = c then X.heap.size else gI j) (c + 1) (c + 1) (fun _ _ => 0) (fun _ _ => -1) (V.setCell ⟨gi, c, none⟩ (.slice (some ⟨X.heap.size, 0, none⟩) 2 2))) := hmore.1
      have HBV : Hid (Below Y.heap.size Y (V.setCell ⟨gi, c, none⟩ (.slice (some ⟨X.heap.size, 0, none⟩) 2 2))) := (HBN.out.grown hgV HBN.out.size (fun k hk => by cases hk)).grown hmore.2 (Nat.le_trans HBN.out.size hgV.size) (fun k hk => by have h1 : gi = k := Option.some.inj hk; have := HYG.out; omega)
      clear hgV hrV hmore ho4
      rw [hV] at e0 z0 hl4 HM2 HBV
      clear hV HV
      go_wp2
      go_roundw
      case rel => exact ⟨c + 1, _, _, by omega, by go_num, HM2.out, HBV.out⟩
      case measure => simp only [intOf]; omega
    · obtain rfl : n = c := by omega
      have HTW0 : Hid (Tw (w.heap.size + 2) n ga gi gA gI n n (fun i j => FL U (goC n U 0) (4 * i + 4 + j)) (fun i j => iF (goC n U 0) i j) W1) := (htw.out.congr (fun i j _ _ => by simp [goC, FL]) (fun i j _ _ => by simp [goC, iF]))
      have HRS : Hid (∀ k, k ≤ n → Rest n U (goC n U k)) := fun k hk => (goC_rest HU.out k hk).1
      have HL2 : Hid (∀ i, i < n → (gA i < W1.heap.size ∧ gI i < W1.heap.size) ∧ Y.heap.size ≤ W1.heap.size) := fun i hi => ⟨⟨(htw.out.A.lt.2 i hi).2, (htw.out.I.lt.2 i hi).2⟩, hbl.out.size⟩
      have HLG : Hid (ga < W1.heap.size ∧ gi < W1.heap.size) := ⟨htw.out.A.lt.1.2, htw.out.I.lt.1.2⟩
      have HBW : Hid (Below Y.heap.size Y W1) := hbl.out
      have HSM : Hid (∀ i, i < n → w.heap.size + 2 ≤ gA i ∧ w.heap.size + 2 ≤ gI i) := fun i hi => ⟨(htw.out.A.lt.2 i hi).1, (htw.out.I.lt.2 i hi).1⟩
      clear htw hbl hcl hcn
      go_wp2
      rename (∀ (a : Act) (w : World), Code.wp _ _ _ a w → _) => hK2
      have HK2 := hid_mk hK2
      clear hK2
      go_loopw [8, 9] (fun v8 v9 wr => ∃ (c a : Nat), c ≤ n ∧ v9 = .int .i64 (c : Nat) ∧ v8 = .int .i64 (a : Nat) ∧ Hid (a = (goC n U c).length) ∧ Hid (Tw (w.heap.size + 2) n ga gi gA gI n n (fun i j => FL U (goC n U c) (4 * i + 4 + j)) (fun i j => iF (goC n U c) i j) wr) ∧ Hid (Below Y.heap.size Y wr)) (fun _ v9 _ => n - (intOf v9).toNat)
      case atStart => exact ⟨0, 0, Nat.zero_le _, rfl, rfl, rfl, HTW0.out, HBW.out⟩
      case round =>
        clear HTW0 HBW
        rename World => W2
        obtain ⟨c, a, hcn, rfl, rfl, ha, htw, hbl⟩ := hrel
        by_cases hcl : c < n
        · clear HK2 H27 HBXY
          have HCR := HRS.out c hcn
          have HGN : Hid (goC n U (c + 1) = gk n U (goC n U c) c 2) := (rfl : goC n U (c + 1) = gk n U (goC n U c) c 2)
          have HLR : Hid (∀ k, Rest n U (gk n U (goC n U c) c k)) := fun k => gk_rest HU.out HCR c k hcl
          have HG0 : Hid (goC n U c = gk n U (goC n U c) c 0) := (rfl : goC n U c = gk n U (goC n U c) c 0)
          have HGX : Hid (∀ k, k < 2 → gk n U (goC n U c) c (k + 1) = goS n U (gk n U (goC n U c) c k) (4 * c + 4 + k)) := fun k hk => gk_next n U _ c k hk
          have HAA : Hid (a = (gk n U (goC n U c) c 0).length) := ha.out
          have HTT : Hid (Tw (w.heap.size + 2) n ga gi gA gI n n (fun i j => FL U (gk n U (goC n U c) c 0) (4 * i + 4 + j)) (fun i j => iF (gk n U (goC n U c) c 0) i j) W2) := htw.out
          clear ha htw HCR
          generalize goC n U c = Lc at HGN HLR HGX HAA HTT HG0
          go_wp2
          go_loopw [8, 10] (fun v8 v10 wr => ∃ (k a : Nat), k ≤ 2 ∧ v10 = .int .i64 (k : Nat) ∧ v8 = .int .i64 (a : Nat) ∧ Hid (a = (gk n U Lc c k).length) ∧ Hid (Tw (w.heap.size + 2) n ga gi gA gI n n (fun i j => FL U (gk n U Lc c k) (4 * i + 4 + j)) (fun i j => iF (gk n U Lc c k) i j) wr) ∧ Hid (Below Y.heap.size Y wr)) (fun _ v10 _ => 2 - (intOf v10).toNat)
          case atStart => exact ⟨0, a, by omega, rfl, rfl, HAA.out, HTT.out, hbl.out⟩
          case round =>
            clear HAA HTT hbl
            rename World => W3
            obtain ⟨k, a3, hk2, rfl, rfl, ha, htw, hbl⟩ := hrel
            by_cases hkl : k < 2
            · have hkd : decide ((k : Int) < 2) = true := decide_eq_true (by omega)
              have hkd2 : decide (k < 2) = true := decide_eq_true hkl
              have HGK := HGX.out k hkl
              have hL := HLR.out k
              have HGE : Hid (gk n U Lc c (k + 1) = goS n U (gk n U Lc c k) (4 * c + 4 + k)) := HGK
              generalize gk n U Lc c k = L at ha htw hL HGE
              have HRL : Hid (Rest n U L) := hL
              have hss : Sp n (4 * c + 4 + k) := by unfold Sp; omega
              have esa : acr (4 * c + 4 + k) = 4 * c + 4 + k + 2 := by unfold acr; omega
              have i1 := htw.out.I.cellO c hcl hcl
              have i2 := htw.out.I.cellR c k hcl hkl
              have li := htw.out.I.lt.1.2
              have li2 := (htw.out.I.lt.2 c hcl).2
              by_cases hin : iF L c k < 0
              · obtain ⟨hs1, hs2⟩ := iF_neg.1 hin
                generalize iF L c k = v at hin i2
                have hvd : decide (0 ≤ v) = false := decide_eq_false (by omega)
                obtain ⟨s0, hs0⟩ : ∃ s0, 4 * c + 4 + k = s0 := ⟨_, rfl⟩
                have HS0 : Hid (s0 = 4 * c + 4 + k) := hs0.symm
                rw [esa, hs0] at esa
                rw [hs0] at hss hs1 HGE
                have hsa : acr s0 ∉ L := by rw [← hs0, show acr (4 * c + 4 + k) = 4 * c + 4 + k + 2 by unfold acr; omega]; exact hs2
                have HRF0 : Hid (RfW n U L s0 L s0 0) := RfW.start hL hss hs1 hsa
                have HTB0 : Hid (Tw (w.heap.size + 2) n ga gi gA gI n n (fun i j => aW U s0 0 L s0 (4 * i + 4 + j)) (fun i j => iF L i j) W3) := htw.out.congr (fun i j _ _ => HRF0.out.table HU.out hs1 _) (fun _ _ _ _ => rfl)
                have HSS : Hid (Sp n s0) := hss
                have HAL : Hid (a3 = L.length) := ha.out
                obtain ⟨gs, hgs⟩ : ∃ gs, W3.heap.size = gs := ⟨_, rfl⟩
                obtain ⟨V, hV⟩ : ∃ V, V = W3.alloc (.cells #[.int .i64 (c : Nat), .int .i64 (k : Nat)] 120) := ⟨_, rfl⟩
                have HV : Hid (V = W3.alloc (.cells #[.int .i64 (c : Nat), .int .i64 (k : Nat)] 120)) := hV
                have hgV : W3.grownBy V none := by rw [hV]; exact World.grownBy_alloc _ _ _
                have HBX0 : Hid (V.heap[gs]? = some (.cells #[.int .i64 (s0 / 4 - 1 : Nat), .int .i64 (s0 % 4 : Nat)] 120 (0, 0))) := (by rw [hV, ← hgs, show s0 / 4 - 1 = c by omega, show s0 % 4 = k by omega]; exact box_at _ _)
                have HTV : Hid (Tw (w.heap.size + 2) n ga gi gA gI n n (fun i j => aW U s0 0 L s0 (4 * i + 4 + j)) (fun i j => iF L i j) V) := HTB0.out.any hgV
                have HBV : Hid (Below Y.heap.size Y V) := hbl.out.grown hgV hbl.out.size (fun q hq => by cases hq)
                have HGN2 : Hid ((∀ i, i < n → gA i < gs ∧ gI i < gs) ∧ ga < gs ∧ gi < gs ∧ Y.heap.size ≤ gs) := (⟨fun i hi => ⟨by have := (htw.out.A.lt.2 i hi).2; omega, by have := (htw.out.I.lt.2 i hi).2; omega⟩, by have := htw.out.A.lt.1.2; omega, by have := htw.out.I.lt.1.2; omega, by have := hbl.out.size; omega⟩ : (∀ i, i < n → gA i < gs ∧ gI i < gs) ∧ ga < gs ∧ gi < gs ∧ Y.heap.size ≤ gs)
                have HAN : Hid (a3 ≤ 4 * n + 4) := (by have := HRF0.out.way.short; have := ha.out; omega : a3 ≤ 4 * n + 4)
                have han := HAN.out
                clear hV hgV hL HGK HRL esa hs0 hs1 hs2 hsa hss ha htw hbl HTB0
                go_wp2
                rw [← HV.out]
                clear hgs i1 i2 li li2 HV
                go_loopw [8] (fun v8 wr => ∃ (a1 : Nat) (L1 : List Nat) (x : Nat) (e : Int), a1 ≤ 4 * n + 4 ∧ v8 = .int .i64 (a1 : Nat) ∧ Hid (a1 = L1.length) ∧ Hid (RfW n U L s0 L1 x e) ∧ Hid (Tw (w.heap.size + 2) n ga gi gA gI n n (fun i j => aW U s0 e L1 x (4 * i + 4 + j)) (fun i j => iF L1 i j) wr) ∧ Hid (wr.heap[gs]? = some (.cells #[.int .i64 (x / 4 - 1 : Nat), .int .i64 (x % 4 : Nat)] 120 (0, 0))) ∧ Hid (Below Y.heap.size Y wr)) (fun v8 _ => 4 * n + 4 - (intOf v8).toNat)
                case atStart => exact ⟨a3, L, s0, 0, han, rfl, HAL.out, HRF0.out, HTV.out, HBX0.out, HBV.out⟩
                case round =>
                  clear HTV HBX0 HBV HRF0
                  rename World => W4
                  obtain ⟨a1, L1, x, e, ha1, rfl, hal, hrf, htw, hbx, hbl⟩ := hrel
                  have hxs := hrf.out.way.xs
                  have hgo := hrf.out.goes HU.out
                  obtain ⟨cx, hcx⟩ : ∃ cx, x / 4 - 1 = cx := ⟨_, rfl⟩
                  obtain ⟨px, hpx⟩ : ∃ px, x % 4 = px := ⟨_, rfl⟩
                  have HXE : Hid (x = 4 * cx + 4 + px ∧ x / 4 - 1 = cx ∧ x % 4 = px) := (⟨by unfold Sp at hxs; omega, hcx, hpx⟩ : x = 4 * cx + 4 + px ∧ x / 4 - 1 = cx ∧ x % 4 = px)
                  have hcn2 : cx < n := by unfold Sp at hxs; omega
                  have hp4 : px < 4 := by omega
                  obtain ⟨r2, hr2⟩ : ∃ r2, px % 2 = r2 := ⟨_, rfl⟩
                  rw [hcx, hpx, hr2] at hgo
                  rw [hcx, hpx] at hbx
                  have hr22 : r2 < 2 := by omega
                  have hr2I : (r2 : Int) < 2 := by omega
                  have hp4I : (px : Int) < 4 := by omega
                  have hcnI : (cx : Int) < (n : Int) := by omega
                  have er2 : (px : Int).tmod 2 = (r2 : Int) := by rw [← hr2]; rfl
                  have HR2 : Hid (px % 2 = r2) := hr2
                  have HBX : Hid (W4.heap[gs]? = some (.cells #[.int .i64 (cx : Nat), .int .i64 (px : Nat)] 120 (0, 0))) := hbx.out
                  have HTX : Hid (Tw (w.heap.size + 2) n ga gi gA gI n n (fun i j => aW U s0 e L1 x (4 * i + 4 + j)) (fun i j => iF L1 i j) W4) := htw.out
                  have HBL : Hid (Below Y.heap.size Y W4) := hbl.out
                  have HC18 : Hid (∀ W, W.heap[gs]? = some (.cells #[.int .i64 (cx : Nat), .int .i64 (px : Nat)] 120 (0, 0)) → Tw (w.heap.size + 2) n ga gi gA gI n n (fun i j => aW U s0 e L1 x (4 * i + 4 + j)) (fun i j => iF L1 i j) W → ∀ v1, iF L1 cx r2 = v1 → (fun w' : World => w'.cell? ⟨gs, 0, none⟩ = some (.int .i64 (cx : Nat)) ∧ w'.cell? ⟨gs, 1, none⟩ = some (.int .i64 (px : Nat)) ∧ w'.cell? ⟨gi, cx, none⟩ = some (.slice (some ⟨gI cx, 0, none⟩) 2 2) ∧ w'.cell? ⟨gI cx, r2, none⟩ = some (.int .i64 v1)) W) := fun W h1 h2 v1 h3 => ⟨block_cell h1 rfl, block_cell h1 rfl, h2.I.cellO cx hcn2 hcn2, by rw [← h3]; exact h2.I.cellR cx r2 hcn2 hr22⟩
                  clear hcx hpx hr2 hbx htw hbl hxs
                  by_cases hxL : x ∈ L1
                  · have hin2 : ¬ iF L1 cx r2 < 0 := fun h0 => hgo.1 h0 hxL
                    obtain ⟨v1, hv1⟩ : ∃ v1, iF L1 cx r2 = v1 := ⟨_, rfl⟩
                    obtain ⟨t0, t1, t2, t3⟩ := HC18.out W4 HBX.out HTX.out v1 hv1
                    rw [hv1] at hin2
                    have hin3 : 0 ≤ v1 := by omega
                    have HXL : Hid (x ∈ L1) := hxL
                    clear hgo hv1 HC18 hin2 hxL
                    have lgs : gs < W4.heap.size := (Array.getElem?_eq_some_iff.1 HBX.out).1
                    have lgi : gi < W4.heap.size := HTX.out.I.lt.1.2
                    have lgI : gI cx < W4.heap.size := (HTX.out.I.lt.2 cx hcn2).2
                    go_wp2
                    go_quiet (fail)
                    have DT : Hid (Tw (w.heap.size + 2) n ga gi gA gI n n (fun i j => aW U s0 e L1 x (4 * i + 4 + j)) (fun i j => iF L1 i j) (W4.drewN nq)) := HTX.out.any (drewN_grown2 _ _ none)
                    have DB : Hid (Below Y.heap.size Y (W4.drewN nq)) := HBL.out.grown (drewN_grown2 W4 nq none) HBL.out.size (fun q hq => by cases hq)
                    clear t0 t1 t2 t3 lgs lgi lgI HBX HTX HBL
                    generalize W4.drewN nq = D at DT DB ⊢
                    obtain ⟨ob, ob0, -⟩ := HBXX.out D DB.out
                    have p0 : D.cell? ⟨w.heap.size, 0, none⟩ = some (.slice (some ⟨gX, 0, none⟩) N cX) := block_cell ob0 rfl
                    have p1 : D.cell? ⟨w.heap.size, 1, none⟩ = some (.slice (some ⟨gY, 0, none⟩) N cY) := block_cell ob0 rfl
                    have lb0 := (Array.getElem?_eq_some_iff.1 ob0).1
                    have hoc := HO.out D ob s0 HSS.out
                    have hus : Sp n (U s0) := HU.out.sp s0 HSS.out
                    have esp : spV s0 = .agg #[.int .i64 (c : Nat), .int .i64 (k : Nat)] := by rw [spV_at HSS.out, show s0 / 4 - 1 = c by have := HS0.out; omega, show s0 % 4 = k by have := HS0.out; omega]
                    rw [esp, spV_at hus] at hoc
                    obtain ⟨cy, hcy⟩ : ∃ cy, U s0 / 4 - 1 = cy := ⟨_, rfl⟩
                    obtain ⟨py, hpy⟩ : ∃ py, U s0 % 4 = py := ⟨_, rfl⟩
                    have HCY : Hid (U s0 = 4 * cy + 4 + py ∧ cy < n ∧ py < 4) := (⟨by unfold Sp at hus; omega, by unfold Sp at hus; omega, by omega⟩ : U s0 = 4 * cy + 4 + py ∧ cy < n ∧ py < 4)
                    rw [hcy, hpy] at hoc
                    have HOC : Hid (Calls Try.prog 143 #[.agg #[.slice (some ⟨gX, 0, none⟩) N cX, .slice (some ⟨gY, 0, none⟩) N cY], .agg #[.int .i64 (c : Nat), .int .i64 (k : Nat)]] D fun e w' => e = .returned (.agg #[.int .i64 (cy : Nat), .int .i64 (py : Nat)]) ∧ Below D.heap.size D w') := hoc
                    clear hoc esp hcy hpy ob ob0 hus
                    go_wp2_with (go_at_call 143; refine HOC.out.mono ?_; rintro e9 w6 ⟨rfl, hb6⟩; refine Hid.out ?_)
                    refine Lib.hid ?_
                    obtain ⟨gl, hgl⟩ : ∃ gl, w6.heap.size = gl := ⟨_, rfl⟩
                    have T6 : Hid (Tw (w.heap.size + 2) n ga gi gA gI n n (fun i j => aW U s0 e L1 x (4 * i + 4 + j)) (fun i j => iF L1 i j) w6) := DT.out.any (grown_below hb6 none)
                    have B6 : Hid (Below Y.heap.size Y w6) := DB.out.trans (hb6.mono DB.out.size)
                    obtain ⟨E, hE⟩ : ∃ E, E = w6.alloc (.cells #[.int .i64 (cy : Nat), .int .i64 (py : Nat)] 120) := ⟨_, rfl⟩
                    have HEE : Hid (E = w6.alloc (.cells #[.int .i64 (cy : Nat), .int .i64 (py : Nat)] 120)) := hE
                    have hgE : w6.grownBy E none := by rw [hE]; exact World.grownBy_alloc _ _ _
                    have XE : Hid (E.heap[gl]? = some (.cells #[.int .i64 (cy : Nat), .int .i64 (py : Nat)] 120 (0, 0))) := (by rw [hE, ← hgl]; exact box_at _ _)
                    have TE : Hid (Tw (w.heap.size + 2) n ga gi gA gI n n (fun i j => aW U s0 e L1 x (4 * i + 4 + j)) (fun i j => iF L1 i j) E) := T6.out.any hgE
                    have BE : Hid (Below Y.heap.size Y E) := B6.out.grown hgE B6.out.size (fun q hq => by cases hq)
                    have HGL : Hid (∀ i, i < n → gA i < gl) := fun i hi => by have := (T6.out.A.lt.2 i hi).2; omega
                    clear hE hgE hb6 p0 p1 lb0 DT DB T6 B6 HOC
                    go_upto_region 26 with (fail)
                    rw [← HEE.out]
                    clear hgl HEE
                    have hyn := HCY.out.2.1
                    have hy4 := HCY.out.2.2
                    have hynI : (cy : Int) < (n : Int) := by omega
                    have hy4I : (py : Int) < 4 := by omega
                    obtain ⟨D3, hD3⟩ : ∃ D3, D3 = E.drew := ⟨_, rfl⟩
                    have HDE3 : Hid (E.drew = D3) := hD3.symm
                    have DX3 : Hid (D3.heap[gl]? = some (.cells #[.int .i64 (cy : Nat), .int .i64 (py : Nat)] 120 (0, 0))) := (by rw [hD3]; exact XE.out)
                    have DT3 : Hid (Tw (w.heap.size + 2) n ga gi gA gI n n (fun i j => aW U s0 e L1 x (4 * i + 4 + j)) (fun i j => iF L1 i j) D3) := (by rw [hD3]; exact TE.out.any (grown_below ((Below.refl _ _).drew) none))
                    have DB3 : Hid (Below Y.heap.size Y D3) := (by rw [hD3]; exact BE.out.trans ((Below.refl _ _).drew.mono BE.out.size))
                    have HS26 : Hid (∀ W TA TI, W.heap[gl]? = some (.cells #[.int .i64 (cy : Nat), .int .i64 (py : Nat)] 120 (0, 0)) → Tw (w.heap.size + 2) n ga gi gA gI n n TA TI W → (fun w' : World => w'.cell? ⟨gl, 0, none⟩ = some (.int .i64 (cy : Nat)) ∧ w'.cell? ⟨gl, 1, none⟩ = some (.int .i64 (py : Nat)) ∧ w'.cell? ⟨ga, cy, none⟩ = some (.slice (some ⟨gA cy, 0, none⟩) 4 4)) W) := fun W TA TI h1 h2 => ⟨block_cell h1 rfl, block_cell h1 rfl, h2.A.cellO cy hyn hyn⟩
                    have lgs2 : gl < D3.heap.size := (Array.getElem?_eq_some_iff.1 DX3.out).1
                    have lgi2 : ga < D3.heap.size := DT3.out.A.lt.1.2
                    have lgI2 : gA cy < D3.heap.size := (DT3.out.A.lt.2 cy hyn).2
                    have k26 : D3.cell? ⟨gA cy, py, none⟩ = some (.int .i64 (aW U s0 e L1 x (4 * cy + 4 + py))) := DT3.out.A.cellR cy py hyn hy4
                    have z26 : D3.frozen? ⟨gA cy, py, none⟩ = false := (DT3.out.A.rows cy hyn).frozenAt py
                    have hset := DT3.out.setA (TA' := (fun i j => if i = cy ∧ j = py then (a3 : Int) + 1 else aW U s0 e L1 x (4 * i + 4 + j))) cy py ((a3 : Int) + 1) hyn (fun _ _ _ _ => rfl)
                    have QT : Hid (Tw (w.heap.size + 2) n ga gi gA gI n n (fun i j => if i = cy ∧ j = py then (a3 : Int) + 1 else aW U s0 e L1 x (4 * i + 4 + j)) (fun i j => iF L1 i j) (D3.setCell ⟨gA cy, py, none⟩ (.int .i64 ((a3 : Int) + 1)))) := hset.1
                    have QX : Hid ((D3.setCell ⟨gA cy, py, none⟩ (.int .i64 ((a3 : Int) + 1))).heap[gl]? = some (.cells #[.int .i64 (cy : Nat), .int .i64 (py : Nat)] 120 (0, 0))) := (hset.2.block gl lgs2 (fun e => by have h1 : gl = gA cy := Option.some.inj e; have := HGL.out cy hyn; omega)).trans DX3.out
                    have QB : Hid (Below Y.heap.size Y (D3.setCell ⟨gA cy, py, none⟩ (.int .i64 ((a3 : Int) + 1)))) := DB3.out.grown hset.2 DB3.out.size (fun q hq => by have h1 : gA cy = q := Option.some.inj hq; have := (HSM.out cy hyn).1; have := HSY.out; omega)
                    clear hD3 hset
                    refine wp_region_held_drew (S := fun w' => w'.cell? ⟨gl, 0, none⟩ = some (.int .i64 (cy : Nat)) ∧ w'.cell? ⟨gl, 1, none⟩ = some (.int .i64 (py : Nat)) ∧ w'.cell? ⟨ga, cy, none⟩ = some (.slice (some ⟨gA cy, 0, none⟩) 4 4)) (by kernel_rfl) (by rw [HDE3.out]; exact HS26.out D3 _ _ DX3.out DT3.out) (fun hHeld => ?_)
                    rw [HDE3.out] at hHeld ⊢
                    refine wpAnyH_take (i := 0) (v := ?vv0r26) rfl (by kernel_rfl) (by kernel_rfl) (by kernel_rfl) (fun _ _ _ h => h) (Or.inl ⟨by rfl, ?yy0r26⟩) (by assumption) ?rr0r26
                    case yy0r26 => (intro w hSw; (try dsimp only at hSw); go_simp; (try with_reducible rfl))
                    try simp only [Act.put]
                    refine wpAnyH_take (i := 1) (v := ?vv1r26) rfl (by kernel_rfl) (by kernel_rfl) (by kernel_rfl) (fun _ _ _ h => h) (Or.inl ⟨by rfl, ?yy1r26⟩) (by assumption) ?rr1r26
                    case yy1r26 => (intro w hSw; (try dsimp only at hSw); go_simp; (try with_reducible rfl))
                    try simp only [Act.put]
                    refine wpAnyH_take (i := 2) (v := ?vv2r26) rfl (by kernel_rfl) (by kernel_rfl) (by kernel_rfl) (fun _ _ _ h => h) (Or.inl ⟨by rfl, ?yy2r26⟩) (by assumption) ?rr2r26
                    case yy2r26 => (intro w hSw; (try dsimp only at hSw); go_simp; (try with_reducible rfl))
                    try simp only [Act.put]
                    refine wpAnyH_take (i := 3) (v := ?vv3r26) rfl (by kernel_rfl) (by kernel_rfl) (by kernel_rfl) (fun _ _ _ h => h) (Or.inl ⟨by rfl, ?yy3r26⟩) (by assumption) ?rr3r26
                    case yy3r26 => (intro w hSw; (try dsimp only at hSw); go_simp; (try with_reducible rfl))
                    try simp only [Act.put]
                    refine wpAnyH_take (i := 4) (v := ?vv4r26) rfl (by kernel_rfl) (by kernel_rfl) (by kernel_rfl) (fun _ _ _ h => h) (Or.inl ⟨by rfl, ?yy4r26⟩) (by assumption) ?rr4r26
                    case yy4r26 => (intro w hSw; (try dsimp only at hSw); go_simp; (try with_reducible rfl))
                    try simp only [Act.put]
                    refine wpAnyH_take (i := 5) (v := ?vv5r26) rfl (by kernel_rfl) (by kernel_rfl) (by kernel_rfl) (fun _ _ _ h => h) (Or.inl ⟨by rfl, ?yy5r26⟩) (by assumption) ?rr5r26
                    case yy5r26 => (intro w hSw; (try dsimp only at hSw); go_simp; (try with_reducible rfl))
                    try simp only [Act.put]
                    refine wpAnyH_take (i := 6) (v := ?vv6r26) rfl (by kernel_rfl) (by kernel_rfl) (by kernel_rfl) (fun _ _ _ h => h) (Or.inl ⟨by rfl, ?yy6r26⟩) (by assumption) ?rr6r26
                    case yy6r26 => (intro w hSw; (try dsimp only at hSw); go_simp; (try with_reducible rfl))
                    try simp only [Act.put]
                    refine wpAnyH_take (i := 7) (v := ?vv7r26) rfl (by kernel_rfl) (by kernel_rfl) (by kernel_rfl) (fun _ _ _ h => h) (Or.inl ⟨by rfl, ?yy7r26⟩) (by assumption) ?rr7r26
                    case yy7r26 => (intro w hSw; (try dsimp only at hSw); go_simp; (try with_reducible rfl))
                    try simp only [Act.put]
                    refine wpAnyH_take (i := 8) (v := ?vv8r26) rfl (by kernel_rfl) (by kernel_rfl) (by kernel_rfl) (fun _ _ _ h => h) (Or.inl ⟨by rfl, ?yy8r26⟩) (by assumption) ?rr8r26
                    case yy8r26 => (intro w hSw; (try dsimp only at hSw); go_simp; (try with_reducible rfl))
                    try simp only [Act.put]
                    refine wpAnyH_ready (rs := [9]) (by kernel_rfl) (by simp) ?_
                    refine AllReadyH.cons rfl (fun K hK => ?_) AllReadyH.nil
                    go_simp
                    refine hK.out _ _ (HS26.out _ _ _ QX.out QT.out) (fun hHeld => ?_)
                    clear hK K
                    try simp only [Act.put]
                    refine wpAnyH_done (by kernel_rfl) ?_ _
                    obtain ⟨R, hR⟩ : ∃ R, R = D3.setCell ⟨gA cy, py, none⟩ (.int .i64 ((a3 : Int) + 1)) := ⟨_, rfl⟩
                    rw [← hR] at QT QX QB ⊢
                    clear hHeld hR k26 z26 DX3 DT3 DB3 lgs2 lgi2 lgI2 HDE3 TE XE BE HS26
                    have HLN : Hid (gk n U Lc c (k + 1) = L1) := (HGE.out.trans (hrf.out.done HU.out HXL.out).2.1.symm : gk n U Lc c (k + 1) = L1)
                    have FT : Hid (Tw (w.heap.size + 2) n ga gi gA gI n n (fun i j => FL U (gk n U Lc c (k + 1)) (4 * i + 4 + j)) (fun i j => iF (gk n U Lc c (k + 1)) i j) R) := (by
                      rw [HLN.out]
                      refine QT.out.congr (fun i j hi hj => ?_) (fun _ _ _ _ => rfl)
                      have h3 := (hrf.out.done HU.out HXL.out).2.2 (4 * i + 4 + j)
                      have h4 := HCY.out.1
                      have h5 := HAL.out
                      rw [← h3]
                      by_cases q : i = cy ∧ j = py
                      · rw [if_pos q, if_pos (by rw [h4]; omega), h5]
                      · rw [if_neg q, if_neg (by rw [h4]; omega)])
                    clear QT QX
                    go_wp2
                    go_roundw
                    case rel => exact ⟨k + 1, a1, by omega, by go_num, rfl, by rw [HLN.out]; exact hal.out, FT.out, QB.out⟩
                    case measure => simp only [intOf]; omega
                  · have hin2 := hgo.2 hxL
                    obtain ⟨v1, hv1⟩ : ∃ v1, iF L1 cx r2 = v1 := ⟨_, rfl⟩
                    have HS18 : Hid (∀ W, W.heap[gs]? = some (.cells #[.int .i64 (cx : Nat), .int .i64 (px : Nat)] 120 (0, 0)) → Tw (w.heap.size + 2) n ga gi gA gI n n (fun i j => aW U s0 e L1 x (4 * i + 4 + j)) (fun i j => iF L1 i j) W → (fun w' : World => w'.cell? ⟨gs, 0, none⟩ = some (.int .i64 (cx : Nat)) ∧ w'.cell? ⟨gs, 1, none⟩ = some (.int .i64 (px : Nat)) ∧ w'.cell? ⟨gi, cx, none⟩ = some (.slice (some ⟨gI cx, 0, none⟩) 2 2) ∧ w'.cell? ⟨gI cx, r2, none⟩ = some (.int .i64 v1)) W) := fun W h1 h2 => HC18.out W h1 h2 v1 hv1
                    rw [hv1] at hin2
                    clear hgo hv1 HC18
                    obtain ⟨t0, t1, t2, t3⟩ := HS18.out W4 HBX.out HTX.out
                    have lgs : gs < W4.heap.size := (Array.getElem?_eq_some_iff.1 HBX.out).1
                    have lgi : gi < W4.heap.size := HTX.out.I.lt.1.2
                    have lgI : gI cx < W4.heap.size := (HTX.out.I.lt.2 cx hcn2).2
                    go_wp2
                    go_quiet (fail)
                    have DX : Hid ((W4.drewN nq).heap[gs]? = some (.cells #[.int .i64 (cx : Nat), .int .i64 (px : Nat)] 120 (0, 0))) := HBX.out
                    have DT : Hid (Tw (w.heap.size + 2) n ga gi gA gI n n (fun i j => aW U s0 e L1 x (4 * i + 4 + j)) (fun i j => iF L1 i j) (W4.drewN nq)) := HTX.out.any (drewN_grown2 _ _ none)
                    have DB : Hid (Below Y.heap.size Y (W4.drewN nq)) := HBL.out.grown (drewN_grown2 W4 nq none) HBL.out.size (fun q hq => by cases hq)
                    clear t0 t1 t2 t3 lgs lgi lgI HBX HTX HBL
                    generalize W4.drewN nq = D at DX DT DB ⊢
                    have lgs : gs < D.heap.size := (Array.getElem?_eq_some_iff.1 DX.out).1
                    have lgi : gi < D.heap.size := DT.out.I.lt.1.2
                    have lgI : gI cx < D.heap.size := (DT.out.I.lt.2 cx hcn2).2
                    obtain ⟨hn1, hn2⟩ := hrf.out.way.new HU.out hxL
                    have hxs := hrf.out.way.xs
                    obtain ⟨o4, ho4⟩ : ∃ o4, (px + 2) % 4 = o4 := ⟨_, rfl⟩
                    have ho44 : o4 < 4 := by omega
                    have ho4I : (o4 : Int) < 4 := by omega
                    have eo4 : ((px : Int) + 2).tmod 4 = (o4 : Int) := by
                      rw [← ho4]
                      have h9 : px = 0 ∨ px = 1 ∨ px = 2 ∨ px = 3 := by omega
                      rcases h9 with h9 | h9 | h9 | h9 <;> rw [h9] <;> rfl
                    have HAX : Hid (acr x = 4 * cx + 4 + o4) := (by have := HXE.out; unfold acr; omega : acr x = 4 * cx + 4 + o4)
                    have HNX := hrf.out.step HU.out hxL
                    have HRN : Hid (RfW n U L s0 (L1 ++ [x]) (nxt U x) ((L1.length : Int) + 1 + 1)) := HNX
                    have HUX : Hid (U (acr x) = nxt U x ∧ Sp n (acr x) ∧ Sp n (nxt U x)) := (⟨rfl, acr_sp hxs, HNX.way.xs⟩ : U (acr x) = nxt U x ∧ Sp n (acr x) ∧ Sp n (nxt U x))
                    have HLN2 : Hid (a1 + 1 = (L1 ++ [x]).length) := (by have := hal.out; simp; omega : a1 + 1 = (L1 ++ [x]).length)
                    have ha2 : a1 + 1 ≤ 4 * n + 4 := by have := HNX.way.short; have := HLN2.out; omega
                    have HIS : Hid (∀ i j, i < n → j < 2 → iF (L1 ++ [x]) i j = if i = cx ∧ j = r2 then (px : Int) else iF L1 i j) := fun i j _ hj => by
                      have h9 := iF_step hxs hn1 i j hj
                      rw [HXE.out.2.1, HXE.out.2.2, HR2.out] at h9
                      exact h9
                    have HAS : Hid (∀ i j, i < n → j < 4 → aW U s0 ((L1.length : Int) + 1 + 1) (L1 ++ [x]) (nxt U x) (4 * i + 4 + j) = if i = cx ∧ j = o4 then (a1 : Int) + 1 + 1 else if i = cx ∧ j = px then (a1 : Int) + 1 else aW U s0 e L1 x (4 * i + 4 + j)) := fun i j hi hj => by
                      have h9 := aW_step HU.out hrf.out hxL HSS.out (y := 4 * i + 4 + j) (by unfold Sp; omega)
                      rw [← h9, hal.out]
                      have q1 : (4 * i + 4 + j = acr x) ↔ (i = cx ∧ j = o4) := by rw [HAX.out]; omega
                      have q2 : (4 * i + 4 + j = x) ↔ (i = cx ∧ j = px) := by have := HXE.out.1; omega
                      simp only [q1, q2]
                    clear hn1 hn2 hxs HNX ho4
                    go_upto_region 20 with (fail)
                    obtain ⟨D2, hD2⟩ : ∃ D2, D2 = D.drew := ⟨_, rfl⟩
                    have HDE2 : Hid (D.drew = D2) := hD2.symm
                    have DX2 : Hid (D2.heap[gs]? = some (.cells #[.int .i64 (cx : Nat), .int .i64 (px : Nat)] 120 (0, 0))) := (by rw [hD2]; exact DX.out)
                    have DT2 : Hid (Tw (w.heap.size + 2) n ga gi gA gI n n (fun i j => aW U s0 e L1 x (4 * i + 4 + j)) (fun i j => iF L1 i j) D2) := (by rw [hD2]; exact DT.out.any (grown_below ((Below.refl _ _).drew) none))
                    have DB2 : Hid (Below Y.heap.size Y D2) := (by rw [hD2]; exact DB.out.trans ((Below.refl _ _).drew.mono DB.out.size))
                    have HS20 : Hid (∀ W TA TI, W.heap[gs]? = some (.cells #[.int .i64 (cx : Nat), .int .i64 (px : Nat)] 120 (0, 0)) → Tw (w.heap.size + 2) n ga gi gA gI n n TA TI W → (fun w' : World => w'.cell? ⟨gs, 0, none⟩ = some (.int .i64 (cx : Nat)) ∧ w'.cell? ⟨gs, 1, none⟩ = some (.int .i64 (px : Nat)) ∧ w'.cell? ⟨gi, cx, none⟩ = some (.slice (some ⟨gI cx, 0, none⟩) 2 2)) W) := fun W TA TI h1 h2 => ⟨block_cell h1 rfl, block_cell h1 rfl, h2.I.cellO cx hcn2 hcn2⟩
                    have lgs2 : gs < D2.heap.size := (Array.getElem?_eq_some_iff.1 DX2.out).1
                    have lgi2 : gi < D2.heap.size := DT2.out.I.lt.1.2
                    have lgI2 : gI cx < D2.heap.size := (DT2.out.I.lt.2 cx hcn2).2
                    have k20 : D2.cell? ⟨gI cx, r2, none⟩ = some (.int .i64 (iF L1 cx r2)) := DT2.out.I.cellR cx r2 hcn2 hr22
                    have z20 : D2.frozen? ⟨gI cx, r2, none⟩ = false := (DT2.out.I.rows cx hcn2).frozenAt r2
                    have hset := DT2.out.setI (TI' := (fun i j => iF (L1 ++ [x]) i j)) cx r2 (px : Int) hcn2 HIS.out
                    have ZT : Hid (Tw (w.heap.size + 2) n ga gi gA gI n n (fun i j => aW U s0 e L1 x (4 * i + 4 + j)) (fun i j => iF (L1 ++ [x]) i j) (D2.setCell ⟨gI cx, r2, none⟩ (.int .i64 (px : Nat)))) := hset.1
                    have ZX : Hid ((D2.setCell ⟨gI cx, r2, none⟩ (.int .i64 (px : Nat))).heap[gs]? = some (.cells #[.int .i64 (cx : Nat), .int .i64 (px : Nat)] 120 (0, 0))) := (hset.2.block gs lgs2 (fun e => by have h1 : gs = gI cx := Option.some.inj e; have := (HGN2.out.1 cx hcn2).2; omega)).trans DX2.out
                    have ZB : Hid (Below Y.heap.size Y (D2.setCell ⟨gI cx, r2, none⟩ (.int .i64 (px : Nat)))) := DB2.out.grown hset.2 DB2.out.size (fun q hq => by have h1 : gI cx = q := Option.some.inj hq; have := (HSM.out cx hcn2).2; have := HSY.out; omega)
                    clear hD2 hset DX DT DB lgs lgi lgI
                    refine wp_region_held_drew (S := fun w' => w'.cell? ⟨gs, 0, none⟩ = some (.int .i64 (cx : Nat)) ∧ w'.cell? ⟨gs, 1, none⟩ = some (.int .i64 (px : Nat)) ∧ w'.cell? ⟨gi, cx, none⟩ = some (.slice (some ⟨gI cx, 0, none⟩) 2 2)) (by kernel_rfl) (by rw [HDE2.out]; exact HS20.out D2 _ _ DX2.out DT2.out) (fun hHeld => ?_)
                    rw [HDE2.out] at hHeld ⊢
                    refine wpAnyH_take (i := 0) (v := ?vv0r20) rfl (by kernel_rfl) (by kernel_rfl) (by kernel_rfl) (fun _ _ _ h => h) (Or.inl ⟨by rfl, ?yy0r20⟩) (by assumption) ?rr0r20
                    case yy0r20 => (intro w hSw; (try dsimp only at hSw); go_simp; (try with_reducible rfl))
                    try simp only [Act.put]
                    refine wpAnyH_take (i := 1) (v := ?vv1r20) rfl (by kernel_rfl) (by kernel_rfl) (by kernel_rfl) (fun _ _ _ h => h) (Or.inl ⟨by rfl, ?yy1r20⟩) (by assumption) ?rr1r20
                    case yy1r20 => (intro w hSw; (try dsimp only at hSw); go_simp; (try with_reducible rfl))
                    try simp only [Act.put]
                    refine wpAnyH_take (i := 2) (v := ?vv2r20) rfl (by kernel_rfl) (by kernel_rfl) (by kernel_rfl) (fun _ _ _ h => h) (Or.inl ⟨by rfl, ?yy2r20⟩) (by assumption) ?rr2r20
                    case yy2r20 => (intro w hSw; (try dsimp only at hSw); go_simp; (try with_reducible rfl))
                    try simp only [Act.put]
                    refine wpAnyH_take (i := 3) (v := ?vv3r20) rfl (by kernel_rfl) (by kernel_rfl) (by kernel_rfl) (fun _ _ _ h => h) (Or.inl ⟨by rfl, ?yy3r20⟩) (by assumption) ?rr3r20
                    case yy3r20 => (intro w hSw; (try dsimp only at hSw); go_simp; (try with_reducible rfl))
                    try simp only [Act.put]
                    refine wpAnyH_take (i := 4) (v := ?vv4r20) rfl (by kernel_rfl) (by kernel_rfl) (by kernel_rfl) (fun _ _ _ h => h) (Or.inl ⟨by rfl, ?yy4r20⟩) (by assumption) ?rr4r20
                    case yy4r20 => (intro w hSw; (try dsimp only at hSw); go_simp; (try with_reducible rfl))
                    try simp only [Act.put]
                    refine wpAnyH_take (i := 5) (v := ?vv5r20) rfl (by kernel_rfl) (by kernel_rfl) (by kernel_rfl) (fun _ _ _ h => h) (Or.inl ⟨by rfl, ?yy5r20⟩) (by assumption) ?rr5r20
                    case yy5r20 => (intro w hSw; (try dsimp only at hSw); go_simp; (try with_reducible rfl))
                    try simp only [Act.put]
                    refine wpAnyH_take (i := 6) (v := ?vv6r20) rfl (by kernel_rfl) (by kernel_rfl) (by kernel_rfl) (fun _ _ _ h => h) (Or.inl ⟨by rfl, ?yy6r20⟩) (by assumption) ?rr6r20
                    case yy6r20 => (intro w hSw; (try dsimp only at hSw); go_simp; (try with_reducible rfl))
                    try simp only [Act.put]
                    refine wpAnyH_take (i := 7) (v := ?vv7r20) rfl (by kernel_rfl) (by kernel_rfl) (by kernel_rfl) (fun _ _ _ h => h) (Or.inl ⟨by rfl, ?yy7r20⟩) (by assumption) ?rr7r20
                    case yy7r20 => (intro w hSw; (try dsimp only at hSw); go_simp; (try with_reducible rfl))
                    try simp only [Act.put]
                    refine wpAnyH_take (i := 8) (v := ?vv8r20) rfl (by kernel_rfl) (by kernel_rfl) (by kernel_rfl) (fun _ _ _ h => h) (Or.inl ⟨by rfl, ?yy8r20⟩) (by assumption) ?rr8r20
                    case yy8r20 => (intro w hSw; (try dsimp only at hSw); go_simp; (try with_reducible rfl))
                    try simp only [Act.put]
                    refine wpAnyH_take (i := 9) (v := ?vv9r20) rfl (by kernel_rfl) (by kernel_rfl) (by kernel_rfl) (fun _ _ _ h => h) (Or.inl ⟨by rfl, ?yy9r20⟩) (by assumption) ?rr9r20
                    case yy9r20 => (intro w hSw; (try dsimp only at hSw); go_simp; (try with_reducible rfl))
                    try simp only [Act.put]
                    refine wpAnyH_take (i := 10) (v := ?vv10r20) rfl (by kernel_rfl) (by kernel_rfl) (by kernel_rfl) (fun _ _ _ h => h) (Or.inl ⟨by rfl, ?yy10r20⟩) (by assumption) ?rr10r20
                    case yy10r20 => (intro w hSw; (try dsimp only at hSw); go_simp; (try with_reducible rfl))
                    try simp only [Act.put]
                    refine wpAnyH_ready (rs := [11]) (by kernel_rfl) (by simp) ?_
                    refine AllReadyH.cons rfl (fun K hK => ?_) AllReadyH.nil
                    go_simp
                    refine hK.out _ _ (HS20.out _ _ _ ZX.out ZT.out) (fun hHeld => ?_)
                    clear hK K
                    try simp only [Act.put]
                    refine wpAnyH_done (by kernel_rfl) ?_ _
                    obtain ⟨Z, hZ⟩ : ∃ Z, Z = D2.setCell ⟨gI cx, r2, none⟩ (.int .i64 (px : Nat)) := ⟨_, rfl⟩
                    rw [← hZ] at ZT ZX ZB ⊢
                    clear hHeld hZ k20 z20 DX2 DT2 DB2 lgs2 lgi2 lgI2 HDE2 HS18
                    obtain ⟨D3, hD3⟩ : ∃ D3, D3 = Z.drew := ⟨_, rfl⟩
                    have HDE3 : Hid (Z.drew = D3) := hD3.symm
                    have DX3 : Hid (D3.heap[gs]? = some (.cells #[.int .i64 (cx : Nat), .int .i64 (px : Nat)] 120 (0, 0))) := (by rw [hD3]; exact ZX.out)
                    have DT3 : Hid (Tw (w.heap.size + 2) n ga gi gA gI n n (fun i j => aW U s0 e L1 x (4 * i + 4 + j)) (fun i j => iF (L1 ++ [x]) i j) D3) := (by rw [hD3]; exact ZT.out.any (grown_below ((Below.refl _ _).drew) none))
                    have DB3 : Hid (Below Y.heap.size Y D3) := (by rw [hD3]; exact ZB.out.trans ((Below.refl _ _).drew.mono ZB.out.size))
                    have HS21 : Hid (∀ W TA TI, W.heap[gs]? = some (.cells #[.int .i64 (cx : Nat), .int .i64 (px : Nat)] 120 (0, 0)) → Tw (w.heap.size + 2) n ga gi gA gI n n TA TI W → (fun w' : World => w'.cell? ⟨gs, 0, none⟩ = some (.int .i64 (cx : Nat)) ∧ w'.cell? ⟨gs, 1, none⟩ = some (.int .i64 (px : Nat)) ∧ w'.cell? ⟨ga, cx, none⟩ = some (.slice (some ⟨gA cx, 0, none⟩) 4 4)) W) := fun W TA TI h1 h2 => ⟨block_cell h1 rfl, block_cell h1 rfl, h2.A.cellO cx hcn2 hcn2⟩
                    have lgs2 : gs < D3.heap.size := (Array.getElem?_eq_some_iff.1 DX3.out).1
                    have lgi2 : ga < D3.heap.size := DT3.out.A.lt.1.2
                    have lgI2 : gA cx < D3.heap.size := (DT3.out.A.lt.2 cx hcn2).2
                    have k21 : D3.cell? ⟨gA cx, px, none⟩ = some (.int .i64 (aW U s0 e L1 x (4 * cx + 4 + px))) := DT3.out.A.cellR cx px hcn2 hp4
                    have z21 : D3.frozen? ⟨gA cx, px, none⟩ = false := (DT3.out.A.rows cx hcn2).frozenAt px
                    have hset := DT3.out.setA (TA' := (fun i j => if i = cx ∧ j = px then (a1 : Int) + 1 else aW U s0 e L1 x (4 * i + 4 + j))) cx px ((a1 : Int) + 1) hcn2 (fun _ _ _ _ => rfl)
                    have QT : Hid (Tw (w.heap.size + 2) n ga gi gA gI n n (fun i j => if i = cx ∧ j = px then (a1 : Int) + 1 else aW U s0 e L1 x (4 * i + 4 + j)) (fun i j => iF (L1 ++ [x]) i j) (D3.setCell ⟨gA cx, px, none⟩ (.int .i64 ((a1 : Int) + 1)))) := hset.1
                    have QX : Hid ((D3.setCell ⟨gA cx, px, none⟩ (.int .i64 ((a1 : Int) + 1))).heap[gs]? = some (.cells #[.int .i64 (cx : Nat), .int .i64 (px : Nat)] 120 (0, 0))) := (hset.2.block gs lgs2 (fun e => by have h1 : gs = gA cx := Option.some.inj e; have := (HGN2.out.1 cx hcn2).1; omega)).trans DX3.out
                    have QB : Hid (Below Y.heap.size Y (D3.setCell ⟨gA cx, px, none⟩ (.int .i64 ((a1 : Int) + 1)))) := DB3.out.grown hset.2 DB3.out.size (fun q hq => by have h1 : gA cx = q := Option.some.inj hq; have := (HSM.out cx hcn2).1; have := HSY.out; omega)
                    clear hD3 hset
                    go_upto_region 21 with (fail)
                    refine wp_region_held_drew (S := fun w' => w'.cell? ⟨gs, 0, none⟩ = some (.int .i64 (cx : Nat)) ∧ w'.cell? ⟨gs, 1, none⟩ = some (.int .i64 (px : Nat)) ∧ w'.cell? ⟨ga, cx, none⟩ = some (.slice (some ⟨gA cx, 0, none⟩) 4 4)) (by kernel_rfl) (by rw [HDE3.out]; exact HS21.out D3 _ _ DX3.out DT3.out) (fun hHeld => ?_)
                    rw [HDE3.out] at hHeld ⊢
                    refine wpAnyH_take (i := 0) (v := ?vv0r21) rfl (by kernel_rfl) (by kernel_rfl) (by kernel_rfl) (fun _ _ _ h => h) (Or.inl ⟨by rfl, ?yy0r21⟩) (by assumption) ?rr0r21
                    case yy0r21 => (intro w hSw; (try dsimp only at hSw); go_simp; (try with_reducible rfl))
                    try simp only [Act.put]
                    refine wpAnyH_take (i := 1) (v := ?vv1r21) rfl (by kernel_rfl) (by kernel_rfl) (by kernel_rfl) (fun _ _ _ h => h) (Or.inl ⟨by rfl, ?yy1r21⟩) (by assumption) ?rr1r21
                    case yy1r21 => (intro w hSw; (try dsimp only at hSw); go_simp; (try with_reducible rfl))
                    try simp only [Act.put]
                    refine wpAnyH_take (i := 2) (v := ?vv2r21) rfl (by kernel_rfl) (by kernel_rfl) (by kernel_rfl) (fun _ _ _ h => h) (Or.inl ⟨by rfl, ?yy2r21⟩) (by assumption) ?rr2r21
                    case yy2r21 => (intro w hSw; (try dsimp only at hSw); go_simp; (try with_reducible rfl))
                    try simp only [Act.put]
                    refine wpAnyH_take (i := 3) (v := ?vv3r21) rfl (by kernel_rfl) (by kernel_rfl) (by kernel_rfl) (fun _ _ _ h => h) (Or.inl ⟨by rfl, ?yy3r21⟩) (by assumption) ?rr3r21
                    case yy3r21 => (intro w hSw; (try dsimp only at hSw); go_simp; (try with_reducible rfl))
                    try simp only [Act.put]
                    refine wpAnyH_take (i := 4) (v := ?vv4r21) rfl (by kernel_rfl) (by kernel_rfl) (by kernel_rfl) (fun _ _ _ h => h) (Or.inl ⟨by rfl, ?yy4r21⟩) (by assumption) ?rr4r21
                    case yy4r21 => (intro w hSw; (try dsimp only at hSw); go_simp; (try with_reducible rfl))
                    try simp only [Act.put]
                    refine wpAnyH_take (i := 5) (v := ?vv5r21) rfl (by kernel_rfl) (by kernel_rfl) (by kernel_rfl) (fun _ _ _ h => h) (Or.inl ⟨by rfl, ?yy5r21⟩) (by assumption) ?rr5r21
                    case yy5r21 => (intro w hSw; (try dsimp only at hSw); go_simp; (try with_reducible rfl))
                    try simp only [Act.put]
                    refine wpAnyH_take (i := 6) (v := ?vv6r21) rfl (by kernel_rfl) (by kernel_rfl) (by kernel_rfl) (fun _ _ _ h => h) (Or.inl ⟨by rfl, ?yy6r21⟩) (by assumption) ?rr6r21
                    case yy6r21 => (intro w hSw; (try dsimp only at hSw); go_simp; (try with_reducible rfl))
                    try simp only [Act.put]
                    refine wpAnyH_take (i := 7) (v := ?vv7r21) rfl (by kernel_rfl) (by kernel_rfl) (by kernel_rfl) (fun _ _ _ h => h) (Or.inl ⟨by rfl, ?yy7r21⟩) (by assumption) ?rr7r21
                    case yy7r21 => (intro w hSw; (try dsimp only at hSw); go_simp; (try with_reducible rfl))
                    try simp only [Act.put]
                    refine wpAnyH_take (i := 8) (v := ?vv8r21) rfl (by kernel_rfl) (by kernel_rfl) (by kernel_rfl) (fun _ _ _ h => h) (Or.inl ⟨by rfl, ?yy8r21⟩) (by assumption) ?rr8r21
                    case yy8r21 => (intro w hSw; (try dsimp only at hSw); go_simp; (try with_reducible rfl))
                    try simp only [Act.put]
                    refine wpAnyH_ready (rs := [9]) (by kernel_rfl) (by simp) ?_
                    refine AllReadyH.cons rfl (fun K hK => ?_) AllReadyH.nil
                    go_simp
                    refine hK.out _ _ (HS21.out _ _ _ QX.out QT.out) (fun hHeld => ?_)
                    clear hK K
                    try simp only [Act.put]
                    refine wpAnyH_done (by kernel_rfl) ?_ _
                    obtain ⟨R, hR⟩ : ∃ R, R = D3.setCell ⟨gA cx, px, none⟩ (.int .i64 ((a1 : Int) + 1)) := ⟨_, rfl⟩
                    rw [← hR] at QT QX QB ⊢
                    clear hHeld hR k21 z21 DX3 DT3 DB3 lgs2 lgi2 lgI2 HDE3 ZT ZX ZB
                    have g0 : R.cell? ⟨gs, 0, none⟩ = some (.int .i64 (cx : Nat)) := block_cell QX.out rfl
                    have g1 : R.cell? ⟨gs, 1, none⟩ = some (.int .i64 (px : Nat)) := block_cell QX.out rfl
                    have g2 := QT.out.A.cellO cx hcn2 hcn2
                    have g3 := QT.out.A.cellR cx o4 hcn2 ho44
                    have g4 : R.frozen? ⟨gA cx, o4, none⟩ = false := (QT.out.A.rows cx hcn2).frozenAt o4
                    have lgs2 : gs < R.heap.size := (Array.getElem?_eq_some_iff.1 QX.out).1
                    have lgi2 : ga < R.heap.size := QT.out.A.lt.1.2
                    have lgI2 : gA cx < R.heap.size := (QT.out.A.lt.2 cx hcn2).2
                    have hset := QT.out.setA (TA' := (fun i j => aW U s0 ((L1.length : Int) + 1 + 1) (L1 ++ [x]) (nxt U x) (4 * i + 4 + j))) cx o4 ((a1 : Int) + 1 + 1) hcn2 HAS.out
                    obtain ⟨O, hO⟩ : ∃ O, O = R.setCell ⟨gA cx, o4, none⟩ (.int .i64 ((a1 : Int) + 1 + 1)) := ⟨_, rfl⟩
                    have HOE : Hid (O = R.setCell ⟨gA cx, o4, none⟩ (.int .i64 ((a1 : Int) + 1 + 1))) := hO
                    have OT : Hid (Tw (w.heap.size + 2) n ga gi gA gI n n (fun i j => aW U s0 ((L1.length : Int) + 1 + 1) (L1 ++ [x]) (nxt U x) (4 * i + 4 + j)) (fun i j => iF (L1 ++ [x]) i j) O) := (by rw [hO]; exact hset.1)
                    have OX : Hid (O.heap[gs]? = some (.cells #[.int .i64 (cx : Nat), .int .i64 (px : Nat)] 120 (0, 0))) := (by rw [hO]; exact (hset.2.block gs lgs2 (fun e => by have h1 : gs = gA cx := Option.some.inj e; have := (HGN2.out.1 cx hcn2).1; omega)).trans QX.out)
                    have OB : Hid (Below Y.heap.size Y O) := (by rw [hO]; exact QB.out.grown hset.2 QB.out.size (fun q hq => by have h1 : gA cx = q := Option.some.inj hq; have := (HSM.out cx hcn2).1; have := HSY.out; omega))
                    clear hO hset
                    go_upto_region 24 with (fail)
                    rw [← HOE.out]
                    clear g0 g1 g2 g3 g4 lgs2 lgi2 lgI2 HOE QT QX QB
                    obtain ⟨ob, ob0, -⟩ := HBXX.out O OB.out
                    have g0 : O.cell? ⟨gs, 0, none⟩ = some (.int .i64 (cx : Nat)) := block_cell OX.out rfl
                    have p0 : O.cell? ⟨w.heap.size, 0, none⟩ = some (.slice (some ⟨gX, 0, none⟩) N cX) := block_cell ob0 rfl
                    have p1 : O.cell? ⟨w.heap.size, 1, none⟩ = some (.slice (some ⟨gY, 0, none⟩) N cY) := block_cell ob0 rfl
                    have lgs2 : gs < O.heap.size := (Array.getElem?_eq_some_iff.1 OX.out).1
                    have lb0 := (Array.getElem?_eq_some_iff.1 ob0).1
                    have hoc := HO.out O ob (acr x) HUX.out.2.1
                    have esp : spV (acr x) = .agg #[.int .i64 (cx : Nat), .int .i64 (o4 : Nat)] := by rw [spV_at HUX.out.2.1, show acr x / 4 - 1 = cx by have := HAX.out; omega, show acr x % 4 = o4 by have := HAX.out; omega]
                    rw [esp, HUX.out.1, spV_at HUX.out.2.2] at hoc
                    obtain ⟨cy, hcy⟩ : ∃ cy, nxt U x / 4 - 1 = cy := ⟨_, rfl⟩
                    obtain ⟨py, hpy⟩ : ∃ py, nxt U x % 4 = py := ⟨_, rfl⟩
                    have HCY : Hid (nxt U x / 4 - 1 = cy ∧ nxt U x % 4 = py) := ⟨hcy, hpy⟩
                    rw [hcy, hpy] at hoc
                    have HOC : Hid (Calls Try.prog 143 #[.agg #[.slice (some ⟨gX, 0, none⟩) N cX, .slice (some ⟨gY, 0, none⟩) N cY], .agg #[.int .i64 (cx : Nat), .int .i64 (o4 : Nat)]] O fun e w' => e = .returned (.agg #[.int .i64 (cy : Nat), .int .i64 (py : Nat)]) ∧ Below O.heap.size O w') := hoc
                    clear hoc esp hcy hpy ob ob0
                    go_wp2_with (go_at_call 143; refine HOC.out.mono ?_; rintro e9 w6 ⟨rfl, hb6⟩; refine Hid.out ?_)
                    refine Lib.hid ?_
                    have X6 : Hid (w6.heap[gs]? = some (.cells #[.int .i64 (cx : Nat), .int .i64 (px : Nat)] 120 (0, 0))) := (hb6.block _ lgs2).trans OX.out
                    have T6 : Hid (Tw (w.heap.size + 2) n ga gi gA gI n n (fun i j => aW U s0 ((L1.length : Int) + 1 + 1) (L1 ++ [x]) (nxt U x) (4 * i + 4 + j)) (fun i j => iF (L1 ++ [x]) i j) w6) := OT.out.any (grown_below hb6 none)
                    have B6 : Hid (Below Y.heap.size Y w6) := OB.out.trans (hb6.mono OB.out.size)
                    have q0 : w6.cell? ⟨gs, 0, none⟩ = some (.int .i64 (cx : Nat)) := block_cell X6.out rfl
                    have q1 : w6.cell? ⟨gs, 1, none⟩ = some (.int .i64 (px : Nat)) := block_cell X6.out rfl
                    have f0 : w6.frozen? ⟨gs, 0, none⟩ = false := froz X6.out
                    have f1 : w6.frozen? ⟨gs, 1, none⟩ = false := froz X6.out
                    have l6 : gs < w6.heap.size := (Array.getElem?_eq_some_iff.1 X6.out).1
                    obtain ⟨E, hE⟩ : ∃ E, E = (w6.setCell ⟨gs, 0, none⟩ (.int .i64 (cy : Nat))).setCell ⟨gs, 1, none⟩ (.int .i64 (py : Nat)) := ⟨_, rfl⟩
                    have HEE : Hid (E = (w6.setCell ⟨gs, 0, none⟩ (.int .i64 (cy : Nat))).setCell ⟨gs, 1, none⟩ (.int .i64 (py : Nat))) := hE
                    have hgE : w6.grownBy E (some gs) := by rw [hE]; exact grown_two (set_grown _ _ _ _) (set_grown _ _ _ _)
                    have XE : Hid (E.heap[gs]? = some (.cells #[.int .i64 (nxt U x / 4 - 1 : Nat), .int .i64 (nxt U x % 4 : Nat)] 120 (0, 0))) := (by rw [hE, HCY.out.1, HCY.out.2]; exact st2_eq X6.out _ _)
                    have TE : Hid (Tw (w.heap.size + 2) n ga gi gA gI n n (fun i j => aW U s0 ((L1.length : Int) + 1 + 1) (L1 ++ [x]) (nxt U x) (4 * i + 4 + j)) (fun i j => iF (L1 ++ [x]) i j) E) := ⟨T6.out.A.kept hgE (by have := HGN2.out; omega) (fun i hi => by have := (HGN2.out.1 i hi).1; omega), T6.out.I.kept hgE (by have := HGN2.out; omega) (fun i hi => by have := (HGN2.out.1 i hi).2; omega), T6.out.oo, T6.out.rr⟩
                    have BE : Hid (Below Y.heap.size Y E) := B6.out.grown hgE B6.out.size (fun q hq => by have h1 : gs = q := Option.some.inj hq; have := HGN2.out; omega)
                    clear hE hgE hb6 g0 p0 p1 lgs2 lb0
                    go_wp2
                    rw [← HEE.out]
                    go_roundw
                    case rel => exact ⟨a1 + 1, L1 ++ [x], nxt U x, (L1.length : Int) + 1 + 1, by omega, by go_num, HLN2.out, HRN.out, TE.out, XE.out, BE.out⟩
                    case measure => simp only [intOf]; omega
              · have HGS : Hid (gk n U Lc c (k + 1) = L) := (by
                  rw [HGE.out]
                  unfold goS
                  rw [if_pos]
                  rw [esa]
                  by_cases h1 : 4 * c + 4 + k ∈ L
                  · exact Or.inl h1
                  · by_cases h2 : 4 * c + 4 + k + 2 ∈ L
                    · exact Or.inr h2
                    · exact absurd (iF_neg.2 ⟨h1, h2⟩) hin : gk n U Lc c (k + 1) = L)
                have hin0 : 0 ≤ iF L c k := by omega
                clear hin esa hL HGK
                generalize iF L c k = v at hin0 i2
                go_wp2
                go_roundw
                case rel => exact ⟨k + 1, a3, by omega, by go_num, rfl, by rw [HGS.out]; exact ha.out, by rw [HGS.out]; exact htw.out, hbl.out⟩
                case measure => simp only [intOf]; omega
            · obtain rfl : k = 2 := by omega
              go_wp2
              go_roundw
              case rel => exact ⟨c + 1, a3, by omega, by go_num, rfl, by rw [HGN.out]; exact ha.out, by rw [HGN.out]; exact htw.out, hbl.out⟩
              case measure => simp only [intOf]; omega
        · obtain rfl : n = c := by omega
          have HT9 : Hid (Tw (w.heap.size + 2) n ga gi gA gI n n (fun i j => FL U (goC n U n) (4 * i + 4 + j)) (fun i j => iF (goC n U n) i j) W2) := htw.out
          clear htw ha
          go_wp2
          refine HK2.out _ _ ?_
          exact H27.out ga gi gA gI W2 HT9.out hbl.out _ _ _ _ _ _ _ _ _ _ _ _ _ _ _ _ _ _ _ _ _ _ _ _ _ _ _ _ _ _ _ _ _ _ _ _ _ _ _ _ _ _ _ _ _ _ _ _ _ _ _ _ _ _ _ _ _ _ _ _ _ _ _ _ _ _ _ _ _ _ _ _ _ _ _ _ _ _ _ _ _ _ _ _ _ _ _ _ _ _ _ _ _ _ _ _ _ _ _ _ _ _ _ _ _ _ _ _ _ _ _ _ _ _ _ _ _ _ _ _ _ _ _ _ _ _ _ _ _ _ _ _ _ _ _ _ _ _ _ _ _ _ _ _ _ _ _ _ _ _ _ _ _ _ _ _ _ _ _ _ _ _ _ _ _ _ _ _ _ _ _ _ _ _ _ _ _ _ _ _ _ _ _ _ _ _ _ _ _ _ _ _ _ _ _ _ _ _ _ _ _ _ _ _ _ _ _ _ _ _ _ _ _ _ _ _ _ _ _ _ _ _ _ _ _ _ _ _ _ _ _ _ _ _ _ _ _ _ _ _ _ _ _ _ _ _ _ _ _ _ _ _ _ _
end Go.Proofs.Ytphhlflcghffbaa

/- The walk of ref.pairing.walked, from its crossings on. -/
import Derived.Test.YtphhlflcghffbaaTM12c
namespace Go.Proofs.Ytphhlflcghffbaa
open Go.RowKit Go.Maps

theorem Tw.congr {B n ga gi k q : Nat} {gA gI : Nat → Nat} {TA TA' TI TI' : Nat → Nat → Int} {W : World} (h : Tw B n ga gi gA gI k q TA TI W) (e1 : ∀ x y, x < k → y < 4 → TA' x y = TA x y) (e2 : ∀ x y, x < q → y < 2 → TI' x y = TI x y) : Tw B n ga gi gA gI k q TA' TI' W := ⟨h.A.congr e1, h.I.congr e2, h.oo, h.rr⟩
set_option maxHeartbeats 16000000 in
set_option maxRecDepth 100000 in
theorem walked27 (B : Nat) (P : List (Nat × Nat)) (gX gY cX cY N n : Nat) (U : Nat → Nat) (w Y : World) (HP : Hid (PrAt w B P (.slice (some ⟨gX, 0, none⟩) N cX) (.slice (some ⟨gY, 0, none⟩) N cY))) (HN : Hid (P.length = N)) (hN2 : N ≤ 1000) (HPR : Hid (Prs n U P)) (hn : n ≤ 16) (HSY : Hid (Y.heap.size = w.heap.size + 2)) (HBXX : Hid (∀ W, Below Y.heap.size Y W → Below w.heap.size w W ∧ W.heap[w.heap.size]? = some (.cells #[.slice (some ⟨gX, 0, none⟩) N cX, .slice (some ⟨gY, 0, none⟩) N cY] 129 (0, 0)) ∧ W.heap[w.heap.size + 1]? = some (.cells #[.slice none 0 0, .int .i64 0] 24 (0, 0)))) (HU : Hid (Ties n U)) (ga gi : Nat) (gA gI : Nat → Nat) (W2 : World) (htw : Hid (Tw (w.heap.size + 2) n ga gi gA gI n n (fun i j => FL U (goC n U n) (4 * i + 4 + j)) (fun i j => iF (goC n U n) i j) W2)) (hbl : Hid (Below Y.heap.size Y W2)) (u3 u7 u8 u9 u10 u11 u12 u13 u14 u15 u16 u17 u18 u19 u20 u21 u22 u23 u24 u25 u26 u27 u28 u29 u30 u31 u32 u33 u34 u35 u36 u37 u38 u39 u40 u41 u42 u43 u44 u45 u46 u47 u48 u49 u50 u51 u52 u53 u54 u55 u56 u57 u58 u59 u60 u61 u62 u63 u64 u65 u66 u67 u68 u69 u70 u71 u72 u73 u74 u75 u76 u77 u78 u79 u80 u81 u82 u83 u84 u85 u86 u87 u88 u89 u90 u91 u92 u93 u94 u95 u96 u97 u98 u99 u100 u101 u102 u103 u104 u105 u106 u107 u108 u109 u110 u111 u112 u113 u114 u115 u116 u117 u118 u119 u120 u121 u122 u123 u124 u125 u126 u127 u128 u129 u130 u131 u132 u133 u134 u135 u136 u137 u138 u139 u140 u141 u142 u143 u144 u145 u146 u147 u148 u149 u150 u151 u152 u153 u154 u155 u156 u157 u158 u159 u160 u161 u162 u163 u164 u165 u166 u167 u168 u169 u170 u171 u172 u173 u174 u175 u176 u177 u178 u179 u180 u181 u182 u183 u184 u185 u186 u187 u188 u189 u190 u191 u192 u193 u194 u195 u196 u197 u198 u199 u200 u201 u202 u203 u204 u205 u206 u207 u208 u209 u210 u211 u212 u213 u214 u215 u216 u217 u218 u219 u220 u221 u222 u223 u224 u225 u226 u227 u228 u229 u230 u231 u232 u233 u234 u235 u236 u237 u238 u239 u240 u241 u242 u243 u244 u245 u246 u247 u248 u249 u250 u251 u252 u253 u254 u255 u256 u257 u258 u259 : Value) :
    Code.wp Try.prog (tailAt 27 (Try.f90.body.getD .skip)) (bodyPost Try.prog Try.f90 fun e w' => ∃ a2 c2, e = .returned (.agg #[.slice a2 n c2, .int .i64 (loP P : Nat)]) ∧ w'.ownsRow w.heap.size 105 5 (.slice a2 n c2) n (crossCells (lkC n U)) ∧ Below w.heap.size w w') { tmps := #[.agg #[.slice (some ⟨gX, 0, none⟩) N cX, .slice (some ⟨gY, 0, none⟩) N cY], .int .i64 (n : Nat), .pointer (some ⟨w.heap.size, 0, none⟩), u3, .pointer (some ⟨w.heap.size + 1, 0, none⟩), .slice (some ⟨ga, 0, none⟩) n n, .slice (some ⟨gi, 0, none⟩) n n, u7, u8, u9, u10, u11, u12, u13, u14, u15, u16, u17, u18, u19, u20, u21, u22, u23, u24, u25, u26, u27, u28, u29, u30, u31, u32, u33, u34, u35, u36, u37, u38, u39, u40, u41, u42, u43, u44, u45, u46, u47, u48, u49, u50, u51, u52, u53, u54, u55, u56, u57, u58, u59, u60, u61, u62, u63, u64, u65, u66, u67, u68, u69, u70, u71, u72, u73, u74, u75, u76, u77, u78, u79, u80, u81, u82, u83, u84, u85, u86, u87, u88, u89, u90, u91, u92, u93, u94, u95, u96, u97, u98, u99, u100, u101, u102, u103, u104, u105, u106, u107, u108, u109, u110, u111, u112, u113, u114, u115, u116, u117, u118, u119, u120, u121, u122, u123, u124, u125, u126, u127, u128, u129, u130, u131, u132, u133, u134, u135, u136, u137, u138, u139, u140, u141, u142, u143, u144, u145, u146, u147, u148, u149, u150, u151, u152, u153, u154, u155, u156, u157, u158, u159, u160, u161, u162, u163, u164, u165, u166, u167, u168, u169, u170, u171, u172, u173, u174, u175, u176, u177, u178, u179, u180, u181, u182, u183, u184, u185, u186, u187, u188, u189, u190, u191, u192, u193, u194, u195, u196, u197, u198, u199, u200, u201, u202, u203, u204, u205, u206, u207, u208, u209, u210, u211, u212, u213, u214, u215, u216, u217, u218, u219, u220, u221, u222, u223, u224, u225, u226, u227, u228, u229, u230, u231, u232, u233, u234, u235, u236, u237, u238, u239, u240, u241, u242, u243, u244, u245, u246, u247, u248, u249, u250, u251, u252, u253, u254, u255, u256, u257, u258, u259], defers := [] } W2 := by
  have H34 : Hid (∀ (gd : Nat) (_ : Hid (Y.heap.size ≤ gd)) (W5 : World) (a2 : Option Addr) (c2 : Nat) (_ : Hid (OutAt W5 (gd + 1) gd (.slice a2 n c2) 0 (lkC n U))) (_ : Hid (gd + 1 ≤ W5.heap.size)) (_ : Hid (Below Y.heap.size Y W5)) (u3 u5 u6 u7 u8 u9 u10 u11 u12 u13 u14 u16 u17 u18 u19 u20 u21 u22 u23 u24 u25 u26 u27 u28 u29 u30 u31 u32 u33 u34 u35 u36 u37 u38 u39 u40 u41 u42 u43 u44 u45 u46 u47 u48 u49 u50 u51 u52 u53 u54 u55 u56 u57 u58 u59 u60 u61 u62 u63 u64 u65 u66 u67 u68 u69 u70 u71 u72 u73 u74 u75 u76 u77 u78 u79 u80 u81 u82 u83 u84 u85 u86 u87 u88 u89 u90 u91 u92 u93 u94 u95 u96 u97 u98 u99 u100 u101 u102 u103 u104 u105 u106 u107 u108 u109 u110 u111 u112 u113 u114 u115 u116 u117 u118 u119 u120 u121 u122 u123 u124 u125 u126 u127 u128 u129 u130 u131 u132 u133 u134 u135 u136 u137 u138 u139 u140 u141 u142 u143 u144 u145 u146 u147 u148 u149 u150 u151 u152 u153 u154 u155 u156 u157 u158 u159 u160 u161 u162 u163 u164 u165 u166 u167 u168 u169 u170 u171 u172 u173 u174 u175 u176 u177 u178 u179 u180 u181 u182 u183 u184 u185 u186 u187 u188 u189 u190 u191 u192 u193 u194 u195 u196 u197 u198 u199 u200 u201 u202 u203 u204 u205 u206 u207 u208 u209 u210 u211 u212 u213 u214 u215 u216 u217 u218 u219 u220 u221 u222 u223 u224 u225 u226 u227 u228 u229 u230 u231 u232 u233 u234 u235 u236 u237 u238 u239 u240 u241 u242 u243 u244 u245 u246 u247 u248 u249 u250 u251 u252 u253 u254 u255 u256 u257 u258 u259 : Value), Code.wp Try.prog (tailAt 34 (Try.f90.body.getD .skip)) (bodyPost Try.prog Try.f90 (fun e w' => ∃ a2 c2, e = .returned (.agg #[.slice a2 n c2, .int .i64 (loP P : Nat)]) ∧ w'.ownsRow w.heap.size 105 5 (.slice a2 n c2) n (crossCells (lkC n U)) ∧ Below w.heap.size w w')) { tmps := #[.agg #[.slice (some ⟨gX, 0, none⟩) N cX, .slice (some ⟨gY, 0, none⟩) N cY], .int .i64 (n : Nat), .pointer (some ⟨w.heap.size, 0, none⟩), u3, .pointer (some ⟨w.heap.size + 1, 0, none⟩), u5, u6, u7, u8, u9, u10, u11, u12, u13, u14, .pointer (some ⟨gd, 0, none⟩), u16, u17, u18, u19, u20, u21, u22, u23, u24, u25, u26, u27, u28, u29, u30, u31, u32, u33, u34, u35, u36, u37, u38, u39, u40, u41, u42, u43, u44, u45, u46, u47, u48, u49, u50, u51, u52, u53, u54, u55, u56, u57, u58, u59, u60, u61, u62, u63, u64, u65, u66, u67, u68, u69, u70, u71, u72, u73, u74, u75, u76, u77, u78, u79, u80, u81, u82, u83, u84, u85, u86, u87, u88, u89, u90, u91, u92, u93, u94, u95, u96, u97, u98, u99, u100, u101, u102, u103, u104, u105, u106, u107, u108, u109, u110, u111, u112, u113, u114, u115, u116, u117, u118, u119, u120, u121, u122, u123, u124, u125, u126, u127, u128, u129, u130, u131, u132, u133, u134, u135, u136, u137, u138, u139, u140, u141, u142, u143, u144, u145, u146, u147, u148, u149, u150, u151, u152, u153, u154, u155, u156, u157, u158, u159, u160, u161, u162, u163, u164, u165, u166, u167, u168, u169, u170, u171, u172, u173, u174, u175, u176, u177, u178, u179, u180, u181, u182, u183, u184, u185, u186, u187, u188, u189, u190, u191, u192, u193, u194, u195, u196, u197, u198, u199, u200, u201, u202, u203, u204, u205, u206, u207, u208, u209, u210, u211, u212, u213, u214, u215, u216, u217, u218, u219, u220, u221, u222, u223, u224, u225, u226, u227, u228, u229, u230, u231, u232, u233, u234, u235, u236, u237, u238, u239, u240, u241, u242, u243, u244, u245, u246, u247, u248, u249, u250, u251, u252, u253, u254, u255, u256, u257, u258, u259], defers := [] } W5) := walked34 B P gX gY cX cY N n U w Y HP HN hN2 HPR HSY HBXX
  let Q9 : Exit → Act → World → Prop := bodyPost Try.prog Try.f90 (fun e w' => ∃ a2 c2, e = .returned (.agg #[.slice a2 n c2, .int .i64 (loP P : Nat)]) ∧ w'.ownsRow w.heap.size 105 5 (.slice a2 n c2) n (crossCells (lkC n U)) ∧ Below w.heap.size w w')
  change Code.wp Try.prog (tailAt 27 (Try.f90.body.getD .skip)) Q9 { tmps := #[.agg #[.slice (some ⟨gX, 0, none⟩) N cX, .slice (some ⟨gY, 0, none⟩) N cY], .int .i64 (n : Nat), .pointer (some ⟨w.heap.size, 0, none⟩), u3, .pointer (some ⟨w.heap.size + 1, 0, none⟩), .slice (some ⟨ga, 0, none⟩) n n, .slice (some ⟨gi, 0, none⟩) n n, u7, u8, u9, u10, u11, u12, u13, u14, u15, u16, u17, u18, u19, u20, u21, u22, u23, u24, u25, u26, u27, u28, u29, u30, u31, u32, u33, u34, u35, u36, u37, u38, u39, u40, u41, u42, u43, u44, u45, u46, u47, u48, u49, u50, u51, u52, u53, u54, u55, u56, u57, u58, u59, u60, u61, u62, u63, u64, u65, u66, u67, u68, u69, u70, u71, u72, u73, u74, u75, u76, u77, u78, u79, u80, u81, u82, u83, u84, u85, u86, u87, u88, u89, u90, u91, u92, u93, u94, u95, u96, u97, u98, u99, u100, u101, u102, u103, u104, u105, u106, u107, u108, u109, u110, u111, u112, u113, u114, u115, u116, u117, u118, u119, u120, u121, u122, u123, u124, u125, u126, u127, u128, u129, u130, u131, u132, u133, u134, u135, u136, u137, u138, u139, u140, u141, u142, u143, u144, u145, u146, u147, u148, u149, u150, u151, u152, u153, u154, u155, u156, u157, u158, u159, u160, u161, u162, u163, u164, u165, u166, u167, u168, u169, u170, u171, u172, u173, u174, u175, u176, u177, u178, u179, u180, u181, u182, u183, u184, u185, u186, u187, u188, u189, u190, u191, u192, u193, u194, u195, u196, u197, u198, u199, u200, u201, u202, u203, u204, u205, u206, u207, u208, u209, u210, u211, u212, u213, u214, u215, u216, u217, u218, u219, u220, u221, u222, u223, u224, u225, u226, u227, u228, u229, u230, u231, u232, u233, u234, u235, u236, u237, u238, u239, u240, u241, u242, u243, u244, u245, u246, u247, u248, u249, u250, u251, u252, u253, u254, u255, u256, u257, u258, u259], defers := [] } W2
  simp only [tailAt, Try.f90, Option.getD_some, reduceIte, Nat.reduceEqDiff]
  have HDD : Hid (∀ c k, c < n → k < 2 → dB (goC n U n) c k = iF (goC n U n) c k) := fun c k hc hk => (iF_dB (by
    obtain ⟨h1, h2⟩ := (goC_rest HU.out n (Nat.le_refl _)).2 c hc
    have : k = 0 ∨ k = 1 := by omega
    rcases this with rfl | rfl
    · exact h1
    · exact h2)).symm
  have HLK : Hid (lkC n U = (List.range n).map (lkX U (goC n U n))) := (rfl : lkC n U = (List.range n).map (lkX U (goC n U n)))
  have HT5 : Hid (Tw (w.heap.size + 2) n ga gi gA gI n n (fun i j => FL U (goC n U n) (4 * i + 4 + j)) (fun i j => dB (goC n U n) i j) W2) := htw.out.congr (fun _ _ _ _ => rfl) (fun i j hi hj => HDD.out i j hi hj)
  generalize goC n U n = LL at HLK HT5
  obtain ⟨gd, hgd⟩ : ∃ gd, W2.heap.size = gd := ⟨_, rfl⟩
  obtain ⟨V, hV⟩ : ∃ V, V = W2.alloc (.cells #[.slice none 0 0, .int .i64 0] 24) := ⟨_, rfl⟩
  have HV : Hid (V = W2.alloc (.cells #[.slice none 0 0, .int .i64 0] 24)) := hV
  have hgV : W2.grownBy V none := by rw [hV]; exact World.grownBy_alloc _ _ _
  have OV : Hid (OutAt V (gd + 1) gd (.slice none 0 0) 0 ((List.range 0).map (lkX U LL))) := OutAt.nil (by rw [hV, ← hgd]; exact box_at _ _)
  have TV : Hid (Tw (w.heap.size + 2) n ga gi gA gI n n (fun i j => FL U LL (4 * i + 4 + j)) (fun i j => dB LL i j) V) := HT5.out.any hgV
  have BV : Hid (Below Y.heap.size Y V) := hbl.out.grown hgV hbl.out.size (fun q hq => by cases hq)
  have SV : Hid (gd + 1 ≤ V.heap.size) := (by rw [hV]; simp; omega : gd + 1 ≤ V.heap.size)
  have HGD : Hid ((∀ i, i < n → gA i < gd) ∧ (∀ i, i < n → gI i < gd) ∧ ga < gd ∧ gi < gd ∧ Y.heap.size ≤ gd) := (⟨fun i hi => by have := (HT5.out.A.lt.2 i hi).2; omega, fun i hi => by have := (HT5.out.I.lt.2 i hi).2; omega, by have := HT5.out.A.lt.1.2; omega, by have := HT5.out.I.lt.1.2; omega, by have := hbl.out.size; omega⟩ : (∀ i, i < n → gA i < gd) ∧ (∀ i, i < n → gI i < gd) ∧ ga < gd ∧ gi < gd ∧ Y.heap.size ≤ gd)
  obtain ⟨i2, hk, hx0, hx1, hx2, hx3⟩ : ∃ i2, Try.prog.info? 105 = some i2 ∧ i2.zero = some (.agg #[.int .i64 0, .int .i64 0, .int .i64 0, .int .i64 0, .bool false]) ∧ i2.size = 5 ∧ i2.bytes = 40 ∧ True := by
    obtain ⟨i2, h1, h2, h3, h4⟩ := info_parts infoCross
    exact ⟨i2, h1, h2, h3, h4, trivial⟩
  clear hV hgV htw hbl HT5 HDD hx3
  go_wp2
  rw [← HV.out]
  clear hgd HV
  rename (∀ (a : Act) (w : World), Code.wp _ _ _ a w → _) => hK5
  have HK5 := hid_mk hK5
  clear hK5
  go_loopw [16] (fun v16 wr => ∃ (c : Nat) (a2 : Option Addr) (c2 : Nat), c ≤ n ∧ v16 = .int .i64 (c : Nat) ∧ Hid (OutAt wr (gd + 1) gd (.slice a2 c c2) 0 ((List.range c).map (lkX U LL))) ∧ Hid (gd + 1 ≤ wr.heap.size) ∧ Hid (Tw (w.heap.size + 2) n ga gi gA gI n n (fun i j => FL U LL (4 * i + 4 + j)) (fun i j => dB LL i j) wr) ∧ Hid (Below Y.heap.size Y wr)) (fun v16 _ => n - (intOf v16).toNat)
  case atStart => exact ⟨0, none, 0, Nat.zero_le _, rfl, OV.out, SV.out, TV.out, BV.out⟩
  case round =>
    clear OV SV TV BV
    rename World => W5
    obtain ⟨c, a2, c2, hcn, rfl, ho, hz, htw, hbl⟩ := hrel
    by_cases hcl : c < n
    · have hcI : (c : Int) < (n : Int) := by omega
      obtain ⟨d0, hd0⟩ : ∃ d0, (dB LL c 0).toNat = d0 := ⟨_, rfl⟩
      obtain ⟨d1, hd1⟩ : ∃ d1, (dB LL c 1).toNat = d1 := ⟨_, rfl⟩
      obtain ⟨e0, l0⟩ := dB_nat LL c 0 (by decide)
      obtain ⟨e1, l1⟩ := dB_nat LL c 1 (by decide)
      have HLX := lkX_at U LL c d0 d1 hd0 hd1 (by omega) (by omega)
      rw [hd0] at e0 l0
      rw [hd1] at e1 l1
      have l0I : (d0 : Int) < 4 := by omega
      obtain ⟨q1, hq1⟩ : ∃ q1, (d0 + 1) % 4 = q1 := ⟨_, rfl⟩
      obtain ⟨q2, hq2⟩ : ∃ q2, (d0 + 2) % 4 = q2 := ⟨_, rfl⟩
      obtain ⟨q3, hq3⟩ : ∃ q3, (d0 + 3) % 4 = q3 := ⟨_, rfl⟩
      have m1 : ((d0 : Int) + 1).tmod 4 = (q1 : Int) := tmod4 d0 1 q1 l0 hq1 (by decide)
      have m2 : ((d0 : Int) + 2).tmod 4 = (q2 : Int) := tmod4 d0 2 q2 l0 hq2 (by decide)
      have m3 : ((d0 : Int) + 3).tmod 4 = (q3 : Int) := tmod4 d0 3 q3 l0 hq3 (by decide)
      have y1 : IntKind.i64.wrap ((d0 : Int) + 1) = (d0 : Int) + 1 := IntWalk.i64_in _ (by omega)
      have y2 : IntKind.i64.wrap ((d0 : Int) + 2) = (d0 : Int) + 2 := IntWalk.i64_in _ (by omega)
      have y3 : IntKind.i64.wrap ((d0 : Int) + 3) = (d0 : Int) + 3 := IntWalk.i64_in _ (by omega)
      have y4 : IntKind.i64.wrap (q1 : Int) = (q1 : Int) := IntWalk.i64_in _ (by omega)
      have y5 : IntKind.i64.wrap (q2 : Int) = (q2 : Int) := IntWalk.i64_in _ (by omega)
      have y6 : IntKind.i64.wrap (q3 : Int) = (q3 : Int) := IntWalk.i64_in _ (by omega)
      have b1 : q1 < 4 := by omega
      have b2 : q2 < 4 := by omega
      have b3 : q3 < 4 := by omega
      have b1I : (q1 : Int) < 4 := by omega
      have b2I : (q2 : Int) < 4 := by omega
      have b3I : (q3 : Int) < 4 := by omega
      rw [hq1, hq2, hq3] at HLX
      obtain ⟨z0, hz0'⟩ : ∃ z, FL U LL (4 * c + 4 + d0) = z := ⟨_, rfl⟩
      obtain ⟨z1, hz1'⟩ : ∃ z, FL U LL (4 * c + 4 + q1) = z := ⟨_, rfl⟩
      obtain ⟨z2, hz2'⟩ : ∃ z, FL U LL (4 * c + 4 + q2) = z := ⟨_, rfl⟩
      obtain ⟨z3, hz3'⟩ : ∃ z, FL U LL (4 * c + 4 + q3) = z := ⟨_, rfl⟩
      obtain ⟨pb, hpb⟩ : ∃ pb, decide (d1 = q3) = pb := ⟨_, rfl⟩
      rw [hz0', hz1', hz2', hz3', hpb] at HLX
      have HRN : Hid ((List.range (c + 1)).map (lkX U LL) = (List.range c).map (lkX U LL) ++ [(⟨z0, z1, z2, z3, pb⟩ : Cr)]) := (by rw [List.range_succ, List.map_append, List.map_singleton, HLX] : (List.range (c + 1)).map (lkX U LL) = (List.range c).map (lkX U LL) ++ [(⟨z0, z1, z2, z3, pb⟩ : Cr)])
      have hpI : ((d1 : Int) == (q3 : Int)) = pb := by rw [← hpb]; by_cases h : d1 = q3 <;> simp [h]; omega
      have HCL : Hid (∀ W, Tw (w.heap.size + 2) n ga gi gA gI n n (fun i j => FL U LL (4 * i + 4 + j)) (fun i j => dB LL i j) W → W.cell? ⟨gA c, d0, none⟩ = some (.int .i64 z0) ∧ W.cell? ⟨gA c, q1, none⟩ = some (.int .i64 z1) ∧ W.cell? ⟨gA c, q2, none⟩ = some (.int .i64 z2) ∧ W.cell? ⟨gA c, q3, none⟩ = some (.int .i64 z3) ∧ W.cell? ⟨gi, c, none⟩ = some (.slice (some ⟨gI c, 0, none⟩) 2 2) ∧ W.cell? ⟨gI c, 1, none⟩ = some (.int .i64 (d1 : Nat)) ∧ W.cell? ⟨gI c, 0, none⟩ = some (.int .i64 (d0 : Nat)) ∧ W.cell? ⟨ga, c, none⟩ = some (.slice (some ⟨gA c, 0, none⟩) 4 4)) := fun W h => ⟨by rw [h.A.cellR c d0 hcl l0, hz0'], by rw [h.A.cellR c q1 hcl b1, hz1'], by rw [h.A.cellR c q2 hcl b2, hz2'], by rw [h.A.cellR c q3 hcl b3, hz3'], h.I.cellO c hcl hcl, by rw [h.I.cellR c 1 hcl (by decide), e1], by rw [h.I.cellR c 0 hcl (by decide), e0], h.A.cellO c hcl hcl⟩
      obtain ⟨D, hD⟩ : ∃ D, (List.range c).map (lkX U LL) = D := ⟨_, rfl⟩
      have HDL : Hid (D.length = c) := (by rw [← hD]; simp : D.length = c)
      rw [hD] at ho HRN
      have HO5 : Hid (OutAt W5 (gd + 1) gd (.slice a2 c c2) 0 D) := ho.out
      have HT5 : Hid (Tw (w.heap.size + 2) n ga gi gA gI n n (fun i j => FL U LL (4 * i + 4 + j)) (fun i j => dB LL i j) W5) := htw.out
      have HB5 : Hid (Below Y.heap.size Y W5) := hbl.out
      have HZ5 : Hid (gd + 1 ≤ W5.heap.size) := hz.out
      obtain ⟨x0, x1, x2, x3, x4, x5, x6, x7⟩ := HCL.out W5 htw.out
      have g1 : ga < W5.heap.size := HT5.out.A.lt.1.2
      have g2 : gi < W5.heap.size := HT5.out.I.lt.1.2
      have g3 : gA c < W5.heap.size := (HT5.out.A.lt.2 c hcl).2
      have g4 : gI c < W5.heap.size := (HT5.out.I.lt.2 c hcl).2
      have g5 : gd < W5.heap.size := by have := HZ5.out; omega
      have t0 : W5.cell? ⟨gd, 0, none⟩ = some (.slice a2 c c2) := block_cell HO5.out.box rfl
      clear hd0 hd1 e0 e1 HLX hq1 hq2 hq3 hz0' hz1' hz2' hz3' hpb hD ho hz htw hbl
      have HOD : Hid (OutAt W5.drew (gd + 1) gd (.slice a2 c c2) 0 D) := HO5.out.on ((Below.refl _ _).drew)
      have HTD : Hid (Tw (w.heap.size + 2) n ga gi gA gI n n (fun i j => FL U LL (4 * i + 4 + j)) (fun i j => dB LL i j) W5.drew) := HT5.out.any (grown_below ((Below.refl _ _).drew) none)
      have HBD : Hid (Below Y.heap.size Y W5.drew) := HB5.out.trans ((Below.refl _ _).drew.mono HB5.out.size)
      have HVB : Hid (∀ q, (Value.slice a2 c c2).ownBlock = some q → gd + 1 ≤ q ∧ q < W5.heap.size) := fun q e => HO5.out.row.lt q e
      -- what holds in every world of the region
      have HKT : Hid (∀ w8 o, (W5.drew.alloc o).grownBy w8 (Value.slice a2 c c2).ownBlock → Tw (w.heap.size + 2) n ga gi gA gI n n (fun i j => FL U LL (4 * i + 4 + j)) (fun i j => dB LL i j) w8) := fun w8 o h8 => HTD.out.keptO (g := gd) (grown_two (World.grownBy_alloc _ _ _) h8) (fun x hx => by have := HVB.out x hx; omega) HGD.out.2.2.1 HGD.out.2.2.2.1 HGD.out.1 HGD.out.2.1
      have HKU : Hid (∀ (w8 : World) (u : Value), Tw (w.heap.size + 2) n ga gi gA gI n n (fun i j => FL U LL (4 * i + 4 + j)) (fun i j => dB LL i j) w8 → Tw (w.heap.size + 2) n ga gi gA gI n n (fun i j => FL U LL (4 * i + 4 + j)) (fun i j => dB LL i j) (w8.setCell ⟨gd, 0, none⟩ u)) := fun w8 u h8 => h8.keptO (g := gd) (set_grown w8 gd 0 u) (fun x hx => by have := Option.some.inj hx; omega) HGD.out.2.2.1 HGD.out.2.2.2.1 HGD.out.1 HGD.out.2.1
      have HKS : Hid (∀ W, Tw (w.heap.size + 2) n ga gi gA gI n n (fun i j => FL U LL (4 * i + 4 + j)) (fun i j => dB LL i j) W → (fun w' : World => w'.cell? ⟨gA c, d0, none⟩ = some (.int .i64 z0) ∧ w'.cell? ⟨gA c, q1, none⟩ = some (.int .i64 z1) ∧ w'.cell? ⟨gA c, q2, none⟩ = some (.int .i64 z2) ∧ w'.cell? ⟨gA c, q3, none⟩ = some (.int .i64 z3) ∧ w'.cell? ⟨gi, c, none⟩ = some (.slice (some ⟨gI c, 0, none⟩) 2 2) ∧ w'.cell? ⟨gI c, 1, none⟩ = some (.int .i64 (d1 : Nat))) W) := fun W h => by
        obtain ⟨k0, k1, k2, k3, k4, k5, -, -⟩ := HCL.out W h
        exact ⟨k0, k1, k2, k3, k4, k5⟩
      go_upto_region 33 with (fail)
      clear x0 x1 x2 x3 x4 x5 x6 x7
      refine wp_region_held_drew (S := fun w' => w'.cell? ⟨gA c, d0, none⟩ = some (.int .i64 z0) ∧ w'.cell? ⟨gA c, q1, none⟩ = some (.int .i64 z1) ∧ w'.cell? ⟨gA c, q2, none⟩ = some (.int .i64 z2) ∧ w'.cell? ⟨gA c, q3, none⟩ = some (.int .i64 z3) ∧ w'.cell? ⟨gi, c, none⟩ = some (.slice (some ⟨gI c, 0, none⟩) 2 2) ∧ w'.cell? ⟨gI c, 1, none⟩ = some (.int .i64 (d1 : Nat))) (by kernel_rfl) (HKS.out _ HTD.out) (fun hHeld => ?_)
      refine take_q 147 (i := 0) (v := ?vv0m) rfl rfl (by kernel_rfl) (by kernel_rfl) (by kernel_rfl) (fun _ _ _ h => h) (Or.inl ⟨by rfl, ?yy0m⟩) (by assumption) ?rr0m
      case yy0m => (intro w9 hSw; (try dsimp only at hSw); go_simp; (try with_reducible rfl))
      simp only [List.setIfInBounds_toArray, List.set_cons_succ, List.set_cons_zero]
      refine take_q 149 (i := 2) (v := ?vv2m) rfl rfl (by kernel_rfl) (by kernel_rfl) (by kernel_rfl) (fun _ _ _ h => h) (Or.inl ⟨by rfl, ?yy2m⟩) (by assumption) ?rr2m
      case yy2m => (intro w9 hSw; (try dsimp only at hSw); go_simp; (try with_reducible rfl))
      simp only [List.setIfInBounds_toArray, List.set_cons_succ, List.set_cons_zero]
      refine take_q 150 (i := 3) (v := ?vv3m) rfl rfl (by kernel_rfl) (by kernel_rfl) (by kernel_rfl) (fun _ _ _ h => h) (Or.inl ⟨by rfl, ?yy3m⟩) (by assumption) ?rr3m
      case yy3m => (intro w9 hSw; (try dsimp only at hSw); go_simp; (try with_reducible rfl))
      simp only [List.setIfInBounds_toArray, List.set_cons_succ, List.set_cons_zero]
      refine take_q 151 (i := 4) (v := ?vv4m) rfl rfl (by kernel_rfl) (by kernel_rfl) (by kernel_rfl) (fun _ _ _ h => h) (Or.inl ⟨by rfl, ?yy4m⟩) (by assumption) ?rr4m
      case yy4m => (intro w9 hSw; (try dsimp only at hSw); go_simp; (try with_reducible rfl))
      simp only [List.setIfInBounds_toArray, List.set_cons_succ, List.set_cons_zero]
      refine take_q 152 (i := 5) (v := ?vv5m) rfl rfl (by kernel_rfl) (by kernel_rfl) (by kernel_rfl) (fun _ _ _ h => h) (Or.inl ⟨by rfl, ?yy5m⟩) (by assumption) ?rr5m
      case yy5m => (intro w9 hSw; (try dsimp only at hSw); go_simp; (try with_reducible rfl))
      simp only [List.setIfInBounds_toArray, List.set_cons_succ, List.set_cons_zero]
      refine take_q 153 (i := 6) (v := ?vv6m) rfl rfl (by kernel_rfl) (by kernel_rfl) (by kernel_rfl) (fun _ _ _ h => h) (Or.inl ⟨by rfl, ?yy6m⟩) (by assumption) ?rr6m
      case yy6m => (intro w9 hSw; (try dsimp only at hSw); go_simp; (try with_reducible rfl))
      simp only [List.setIfInBounds_toArray, List.set_cons_succ, List.set_cons_zero]
      refine take_q 154 (i := 7) (v := ?vv7m) rfl rfl (by kernel_rfl) (by kernel_rfl) (by kernel_rfl) (fun _ _ _ h => h) (Or.inl ⟨by rfl, ?yy7m⟩) (by assumption) ?rr7m
      case yy7m => (intro w9 hSw; (try dsimp only at hSw); go_simp; (try with_reducible rfl))
      simp only [List.setIfInBounds_toArray, List.set_cons_succ, List.set_cons_zero]
      refine take_q 155 (i := 8) (v := ?vv8m) rfl rfl (by kernel_rfl) (by kernel_rfl) (by kernel_rfl) (fun _ _ _ h => h) (Or.inl ⟨by rfl, ?yy8m⟩) (by assumption) ?rr8m
      case yy8m => (intro w9 hSw; (try dsimp only at hSw); go_simp; (try with_reducible rfl))
      simp only [List.setIfInBounds_toArray, List.set_cons_succ, List.set_cons_zero]
      refine take_q 156 (i := 9) (v := ?vv9m) rfl rfl (by kernel_rfl) (by kernel_rfl) (by kernel_rfl) (fun _ _ _ h => h) (Or.inl ⟨by rfl, ?yy9m⟩) (by assumption) ?rr9m
      case yy9m => (intro w9 hSw; (try dsimp only at hSw); go_simp; (try with_reducible rfl))
      simp only [List.setIfInBounds_toArray, List.set_cons_succ, List.set_cons_zero]
      refine take_q 157 (i := 10) (v := ?vv10m) rfl rfl (by kernel_rfl) (by kernel_rfl) (by kernel_rfl) (fun _ _ _ h => h) (Or.inl ⟨by rfl, ?yy10m⟩) (by assumption) ?rr10m
      case yy10m => (intro w9 hSw; (try dsimp only at hSw); go_simp; (try with_reducible rfl))
      simp only [List.setIfInBounds_toArray, List.set_cons_succ, List.set_cons_zero]
      refine take_q 158 (i := 11) (v := ?vv11m) rfl rfl (by kernel_rfl) (by kernel_rfl) (by kernel_rfl) (fun _ _ _ h => h) (Or.inl ⟨by rfl, ?yy11m⟩) (by assumption) ?rr11m
      case yy11m => (intro w9 hSw; (try dsimp only at hSw); go_simp; (try with_reducible rfl))
      simp only [List.setIfInBounds_toArray, List.set_cons_succ, List.set_cons_zero]
      refine take_q 159 (i := 12) (v := ?vv12m) rfl rfl (by kernel_rfl) (by kernel_rfl) (by kernel_rfl) (fun _ _ _ h => h) (Or.inl ⟨by rfl, ?yy12m⟩) (by assumption) ?rr12m
      case yy12m => (intro w9 hSw; (try dsimp only at hSw); go_simp; (try with_reducible rfl))
      simp only [List.setIfInBounds_toArray, List.set_cons_succ, List.set_cons_zero]
      refine take_q 160 (i := 13) (v := ?vv13m) rfl rfl (by kernel_rfl) (by kernel_rfl) (by kernel_rfl) (fun _ _ _ h => h) (Or.inl ⟨by rfl, ?yy13m⟩) (by assumption) ?rr13m
      case yy13m => (intro w9 hSw; (try dsimp only at hSw); go_simp; (try with_reducible rfl))
      simp only [List.setIfInBounds_toArray, List.set_cons_succ, List.set_cons_zero]
      refine take_q 161 (i := 14) (v := ?vv14m) rfl rfl (by kernel_rfl) (by kernel_rfl) (by kernel_rfl) (fun _ _ _ h => h) (Or.inl ⟨by rfl, ?yy14m⟩) (by assumption) ?rr14m
      case yy14m => (intro w9 hSw; (try dsimp only at hSw); go_simp; (try with_reducible rfl))
      simp only [List.setIfInBounds_toArray, List.set_cons_succ, List.set_cons_zero]
      refine take_q 162 (i := 15) (v := ?vv15m) rfl rfl (by kernel_rfl) (by kernel_rfl) (by kernel_rfl) (fun _ _ _ h => h) (Or.inl ⟨by rfl, ?yy15m⟩) (by assumption) ?rr15m
      case yy15m => (intro w9 hSw; (try dsimp only at hSw); go_simp; (try with_reducible rfl))
      simp only [List.setIfInBounds_toArray, List.set_cons_succ, List.set_cons_zero]
      refine take_q 163 (i := 16) (v := ?vv16m) rfl rfl (by kernel_rfl) (by kernel_rfl) (by kernel_rfl) (fun _ _ _ h => h) (Or.inl ⟨by rfl, ?yy16m⟩) (by assumption) ?rr16m
      case yy16m => (intro w9 hSw; (try dsimp only at hSw); go_simp; (try with_reducible rfl))
      simp only [List.setIfInBounds_toArray, List.set_cons_succ, List.set_cons_zero]
      refine take_q 164 (i := 17) (v := ?vv17m) rfl rfl (by kernel_rfl) (by kernel_rfl) (by kernel_rfl) (fun _ _ _ h => h) (Or.inl ⟨by rfl, ?yy17m⟩) (by assumption) ?rr17m
      case yy17m => (intro w9 hSw; (try dsimp only at hSw); go_simp; (try with_reducible rfl))
      simp only [List.setIfInBounds_toArray, List.set_cons_succ, List.set_cons_zero]
      refine take_q 165 (i := 18) (v := ?vv18m) rfl rfl (by kernel_rfl) (by kernel_rfl) (by kernel_rfl) (fun _ _ _ h => h) (Or.inl ⟨by rfl, ?yy18m⟩) (by assumption) ?rr18m
      case yy18m => (intro w9 hSw; (try dsimp only at hSw); go_simp; (try with_reducible rfl))
      simp only [List.setIfInBounds_toArray, List.set_cons_succ, List.set_cons_zero]
      refine take_q 166 (i := 19) (v := ?vv19m) rfl rfl (by kernel_rfl) (by kernel_rfl) (by kernel_rfl) (fun _ _ _ h => h) (Or.inl ⟨by rfl, ?yy19m⟩) (by assumption) ?rr19m
      case yy19m => (intro w9 hSw; (try dsimp only at hSw); go_simp; (try with_reducible rfl))
      simp only [List.setIfInBounds_toArray, List.set_cons_succ, List.set_cons_zero]
      refine take_q 167 (i := 20) (v := ?vv20m) rfl rfl (by kernel_rfl) (by kernel_rfl) (by kernel_rfl) (fun _ _ _ h => h) (Or.inl ⟨by rfl, ?yy20m⟩) (by assumption) ?rr20m
      case yy20m => (intro w9 hSw; (try dsimp only at hSw); go_simp; (try with_reducible rfl))
      simp only [List.setIfInBounds_toArray, List.set_cons_succ, List.set_cons_zero]
      refine take_q 168 (i := 21) (v := ?vv21m) rfl rfl (by kernel_rfl) (by kernel_rfl) (by kernel_rfl) (fun _ _ _ h => h) (Or.inl ⟨by rfl, ?yy21m⟩) (by assumption) ?rr21m
      case yy21m => (intro w9 hSw; (try dsimp only at hSw); go_simp; (try with_reducible rfl))
      simp only [List.setIfInBounds_toArray, List.set_cons_succ, List.set_cons_zero]
      refine take_q 169 (i := 22) (v := ?vv22m) rfl rfl (by kernel_rfl) (by kernel_rfl) (by kernel_rfl) (fun _ _ _ h => h) (Or.inl ⟨by rfl, ?yy22m⟩) (by assumption) ?rr22m
      case yy22m => (intro w9 hSw; (try dsimp only at hSw); go_simp; (try with_reducible rfl))
      simp only [List.setIfInBounds_toArray, List.set_cons_succ, List.set_cons_zero]
      refine take_q 170 (i := 23) (v := ?vv23m) rfl rfl (by kernel_rfl) (by kernel_rfl) (by kernel_rfl) (fun _ _ _ h => h) (Or.inl ⟨by rfl, ?yy23m⟩) (by assumption) ?rr23m
      case yy23m => (intro w9 hSw; (try dsimp only at hSw); go_simp; (try with_reducible rfl))
      simp only [List.setIfInBounds_toArray, List.set_cons_succ, List.set_cons_zero]
      refine take_q 171 (i := 24) (v := ?vv24m) rfl rfl (by kernel_rfl) (by kernel_rfl) (by kernel_rfl) (fun _ _ _ h => h) (Or.inl ⟨by rfl, ?yy24m⟩) (by assumption) ?rr24m
      case yy24m => (intro w9 hSw; (try dsimp only at hSw); go_simp; (try with_reducible rfl))
      simp only [List.setIfInBounds_toArray, List.set_cons_succ, List.set_cons_zero]
      refine take_q 172 (i := 25) (v := ?vv25m) rfl rfl (by kernel_rfl) (by kernel_rfl) (by kernel_rfl) (fun _ _ _ h => h) (Or.inl ⟨by rfl, ?yy25m⟩) (by assumption) ?rr25m
      case yy25m => (intro w9 hSw; (try dsimp only at hSw); go_simp; (try with_reducible rfl))
      simp only [List.setIfInBounds_toArray, List.set_cons_succ, List.set_cons_zero]
      refine take_q 173 (i := 26) (v := ?vv26m) rfl rfl (by kernel_rfl) (by kernel_rfl) (by kernel_rfl) (fun _ _ _ h => h) (Or.inl ⟨by rfl, ?yy26m⟩) (by assumption) ?rr26m
      case yy26m => (intro w9 hSw; (try dsimp only at hSw); go_simp; (try with_reducible rfl))
      simp only [List.setIfInBounds_toArray, List.set_cons_succ, List.set_cons_zero]
      refine take_q 174 (i := 27) (v := ?vv27m) rfl rfl (by kernel_rfl) (by kernel_rfl) (by kernel_rfl) (fun _ _ _ h => h) (Or.inl ⟨by rfl, ?yy27m⟩) (by assumption) ?rr27m
      case yy27m => (intro w9 hSw; (try dsimp only at hSw); go_simp; (try with_reducible rfl))
      simp only [List.setIfInBounds_toArray, List.set_cons_succ, List.set_cons_zero]
      refine take_q 175 (i := 28) (v := ?vv28m) rfl rfl (by kernel_rfl) (by kernel_rfl) (by kernel_rfl) (fun _ _ _ h => h) (Or.inl ⟨by rfl, ?yy28m⟩) (by assumption) ?rr28m
      case yy28m => (intro w9 hSw; (try dsimp only at hSw); go_simp; (try with_reducible rfl))
      simp only [List.setIfInBounds_toArray, List.set_cons_succ, List.set_cons_zero]
      refine take_q 176 (i := 29) (v := ?vv29m) rfl rfl (by kernel_rfl) (by kernel_rfl) (by kernel_rfl) (fun _ _ _ h => h) (Or.inl ⟨by rfl, ?yy29m⟩) (by assumption) ?rr29m
      case yy29m => (intro w9 hSw; (try dsimp only at hSw); go_simp; (try with_reducible rfl))
      simp only [List.setIfInBounds_toArray, List.set_cons_succ, List.set_cons_zero]
      refine take_q 177 (i := 30) (v := ?vv30m) rfl rfl (by kernel_rfl) (by kernel_rfl) (by kernel_rfl) (fun _ _ _ h => h) (Or.inl ⟨by rfl, ?yy30m⟩) (by assumption) ?rr30m
      case yy30m => (intro w9 hSw; (try dsimp only at hSw); go_simp; (try with_reducible rfl))
      simp only [List.setIfInBounds_toArray, List.set_cons_succ, List.set_cons_zero]
      refine take_q 178 (i := 31) (v := ?vv31m) rfl rfl (by kernel_rfl) (by kernel_rfl) (by kernel_rfl) (fun _ _ _ h => h) (Or.inl ⟨by rfl, ?yy31m⟩) (by assumption) ?rr31m
      case yy31m => (intro w9 hSw; (try dsimp only at hSw); go_simp; (try with_reducible rfl))
      simp only [List.setIfInBounds_toArray, List.set_cons_succ, List.set_cons_zero]
      refine take_q 179 (i := 32) (v := ?vv32m) rfl rfl (by kernel_rfl) (by kernel_rfl) (by kernel_rfl) (fun _ _ _ h => h) (Or.inl ⟨by rfl, ?yy32m⟩) (by assumption) ?rr32m
      case yy32m => (intro w9 hSw; (try dsimp only at hSw); go_simp; (try with_reducible rfl))
      simp only [List.setIfInBounds_toArray, List.set_cons_succ, List.set_cons_zero]
      refine take_q 180 (i := 33) (v := ?vv33m) rfl rfl (by kernel_rfl) (by kernel_rfl) (by kernel_rfl) (fun _ _ _ h => h) (Or.inl ⟨by rfl, ?yy33m⟩) (by assumption) ?rr33m
      case yy33m => (intro w9 hSw; (try dsimp only at hSw); go_simp; (try with_reducible rfl))
      simp only [List.setIfInBounds_toArray, List.set_cons_succ, List.set_cons_zero]
      refine take_q 181 (i := 34) (v := ?vv34m) rfl rfl (by kernel_rfl) (by kernel_rfl) (by kernel_rfl) (fun _ _ _ h => h) (Or.inl ⟨by rfl, ?yy34m⟩) (by assumption) ?rr34m
      case yy34m => (intro w9 hSw; (try dsimp only at hSw); go_simp; (try with_reducible rfl))
      simp only [List.setIfInBounds_toArray, List.set_cons_succ, List.set_cons_zero]
      refine wpAnyH_ready (rs := [1, 35]) (by kernel_rfl) (by simp) ?_
      refine AllReadyH.cons (i := 1) (rs := [35]) rfl (fun K hK => ?_) (AllReadyH.cons (i := 35) (rs := []) rfl (fun K hK => ?_) AllReadyH.nil)
      · go_simp
        refine hK.out _ _ (HKS.out _ HTD.out) (fun hHeld => ?_)
        clear hK K
        refine wpAnyH_ready (rs := [35]) (by kernel_rfl) (by simp) ?_
        refine AllReadyH.cons rfl (fun K hK => ?_) AllReadyH.nil
        go_simp
        refine hK.out _ _ (HKS.out _ (HKT.out _ _ (World.grownBy.refl _ _))) (fun hHeld => ?_)
        clear hK K
        refine wpAnyH_ready (rs := [36]) (by kernel_rfl) (by simp) ?_
        refine AllReadyH.cons rfl (fun K hK => ?_) AllReadyH.nil
        refine step_append_ownT rfl (.tmp 148) (.tmp 182) 22 rfl (gd + 1) 105 i2 (.agg #[.int .i64 0, .int .i64 0, .int .i64 0, .int .i64 0, .bool false]) 5 40 Try.underlying22 hk hx0 hx1 hx2 rfl (by decide) (.slice a2 c c2) c (crossCells D) (by simp [Act.eval]) (by have h := HOD.out.row.alloc (.cells #[.int .i64 z0, .int .i64 z1, .int .i64 z2, .int .i64 z3, .bool pb] 105); rw [HDL.out] at h; exact h) ⟨W5.drew.heap.size, 0, none⟩ 1 1 [.int .i64 z0, .int .i64 z1, .int .i64 z2, .int .i64 z3, .bool pb] (by simp [Act.eval]) rfl (new_cell5 _ _ _ _ _ _ _) (cells_one [(⟨z0, z1, z2, z3, pb⟩ : Cr)]) (by unfold maxLen; omega) (by omega) (by have := HZ5.out; simp; omega) ?_
        intro v8 w8 hown8 hg8
        have HOW8 : Hid (w8.ownsRow (gd + 1) 105 5 v8 (c + 1) (crossCells D ++ crossCells [(⟨z0, z1, z2, z3, pb⟩ : Cr)])) := hown8
        have HG8 : Hid ((W5.drew.alloc (.cells #[.int .i64 z0, .int .i64 z1, .int .i64 z2, .int .i64 z3, .bool pb] 105)).grownBy w8 (Value.slice a2 c c2).ownBlock) := hg8
        obtain ⟨a8, c8, ev8⟩ := own_capS HOW8.out
        subst ev8
        have hb8 := HOD.out.box8 (Nat.lt_succ_self _) HG8.out
        have r0' : w8.cell? ⟨gd, 0, none⟩ = some (.slice a2 c c2) := block_cell hb8 rfl
        have r1' : w8.frozen? ⟨gd, 0, none⟩ = false := block_frozen hb8
        have r2' : gd < w8.heap.size := (Array.getElem?_eq_some_iff.1 hb8).1
        have HT8 : Hid (Tw (w.heap.size + 2) n ga gi gA gI n n (fun i j => FL U LL (4 * i + 4 + j)) (fun i j => dB LL i j) w8) := HKT.out _ _ HG8.out
        have HT9 : Hid (Tw (w.heap.size + 2) n ga gi gA gI n n (fun i j => FL U LL (4 * i + 4 + j)) (fun i j => dB LL i j) (w8.setCell ⟨gd, 0, none⟩ (.slice a8 (c + 1) c8))) := HKU.out _ _ HT8.out
        have HO9 : Hid (OutAt (w8.setCell ⟨gd, 0, none⟩ (.slice a8 (c + 1) c8)) (gd + 1) gd (.slice a8 (c + 1) c8) 0 (D ++ [(⟨z0, z1, z2, z3, pb⟩ : Cr)])) := HOD.out.app (Nat.lt_succ_self _) (by rw [HDL.out]) HOW8.out HG8.out
        have HB9 : Hid (Below Y.heap.size Y (w8.setCell ⟨gd, 0, none⟩ (.slice a8 (c + 1) c8))) := HOD.out.below HBD.out (by have := HGD.out; omega) HBD.out.size (by have := HGD.out; omega) HG8.out
        have HZ9 : Hid (gd + 1 ≤ (w8.setCell ⟨gd, 0, none⟩ (.slice a8 (c + 1) c8)).heap.size) := (Array.getElem?_eq_some_iff.1 HO9.out.box).1
        clear hown8 hg8 hb8
        refine hK.out _ _ (HKS.out _ HT8.out) (fun hHeld => ?_)
        clear hK K
        refine take_q 184 (i := 37) (v := ?vv37n) rfl rfl (by kernel_rfl) (by kernel_rfl) (by kernel_rfl) (fun _ _ _ h => h) (Or.inl ⟨by rfl, ?yy37n⟩) (by assumption) ?rr37n
        case yy37n => (intro w9 hSw; (try dsimp only at hSw); go_simp; (try with_reducible rfl))
        simp only [List.setIfInBounds_toArray, List.set_cons_succ, List.set_cons_zero]
        refine wpAnyH_ready (rs := [38]) (by kernel_rfl) (by simp) ?_
        refine AllReadyH.cons rfl (fun K hK => ?_) AllReadyH.nil
        go_simp
        refine hK.out _ _ (HKS.out _ HT9.out) (fun hHeld => ?_)
        clear hK K
        refine wpAnyH_done (by kernel_rfl) ?_ _
        clear hHeld t0 r0' r1' r2' HT8
        go_wp2
        go_roundw
        case rel => exact ⟨c + 1, a8, c8, by omega, by go_num, by rw [HRN.out]; exact HO9.out, HZ9.out, HT9.out, HB9.out⟩
        case measure => simp only [intOf]; omega
      · go_simp
        refine hK.out _ _ (HKS.out _ (HKT.out _ _ (World.grownBy.refl _ _))) (fun hHeld => ?_)
        clear hK K
        refine wpAnyH_ready (rs := [1]) (by kernel_rfl) (by simp) ?_
        refine AllReadyH.cons rfl (fun K hK => ?_) AllReadyH.nil
        go_simp
        refine hK.out _ _ (HKS.out _ (HKT.out _ _ (World.grownBy.refl _ _))) (fun hHeld => ?_)
        clear hK K
        refine wpAnyH_ready (rs := [36]) (by kernel_rfl) (by simp) ?_
        refine AllReadyH.cons rfl (fun K hK => ?_) AllReadyH.nil
        refine step_append_ownT rfl (.tmp 148) (.tmp 182) 22 rfl (gd + 1) 105 i2 (.agg #[.int .i64 0, .int .i64 0, .int .i64 0, .int .i64 0, .bool false]) 5 40 Try.underlying22 hk hx0 hx1 hx2 rfl (by decide) (.slice a2 c c2) c (crossCells D) (by simp [Act.eval]) (by have h := HOD.out.row.alloc (.cells #[.int .i64 z0, .int .i64 z1, .int .i64 z2, .int .i64 z3, .bool pb] 105); rw [HDL.out] at h; exact h) ⟨W5.drew.heap.size, 0, none⟩ 1 1 [.int .i64 z0, .int .i64 z1, .int .i64 z2, .int .i64 z3, .bool pb] (by simp [Act.eval]) rfl (new_cell5 _ _ _ _ _ _ _) (cells_one [(⟨z0, z1, z2, z3, pb⟩ : Cr)]) (by unfold maxLen; omega) (by omega) (by have := HZ5.out; simp; omega) ?_
        intro v8 w8 hown8 hg8
        have HOW8 : Hid (w8.ownsRow (gd + 1) 105 5 v8 (c + 1) (crossCells D ++ crossCells [(⟨z0, z1, z2, z3, pb⟩ : Cr)])) := hown8
        have HG8 : Hid ((W5.drew.alloc (.cells #[.int .i64 z0, .int .i64 z1, .int .i64 z2, .int .i64 z3, .bool pb] 105)).grownBy w8 (Value.slice a2 c c2).ownBlock) := hg8
        obtain ⟨a8, c8, ev8⟩ := own_capS HOW8.out
        subst ev8
        have hb8 := HOD.out.box8 (Nat.lt_succ_self _) HG8.out
        have r0' : w8.cell? ⟨gd, 0, none⟩ = some (.slice a2 c c2) := block_cell hb8 rfl
        have r1' : w8.frozen? ⟨gd, 0, none⟩ = false := block_frozen hb8
        have r2' : gd < w8.heap.size := (Array.getElem?_eq_some_iff.1 hb8).1
        have HT8 : Hid (Tw (w.heap.size + 2) n ga gi gA gI n n (fun i j => FL U LL (4 * i + 4 + j)) (fun i j => dB LL i j) w8) := HKT.out _ _ HG8.out
        have HT9 : Hid (Tw (w.heap.size + 2) n ga gi gA gI n n (fun i j => FL U LL (4 * i + 4 + j)) (fun i j => dB LL i j) (w8.setCell ⟨gd, 0, none⟩ (.slice a8 (c + 1) c8))) := HKU.out _ _ HT8.out
        have HO9 : Hid (OutAt (w8.setCell ⟨gd, 0, none⟩ (.slice a8 (c + 1) c8)) (gd + 1) gd (.slice a8 (c + 1) c8) 0 (D ++ [(⟨z0, z1, z2, z3, pb⟩ : Cr)])) := HOD.out.app (Nat.lt_succ_self _) (by rw [HDL.out]) HOW8.out HG8.out
        have HB9 : Hid (Below Y.heap.size Y (w8.setCell ⟨gd, 0, none⟩ (.slice a8 (c + 1) c8))) := HOD.out.below HBD.out (by have := HGD.out; omega) HBD.out.size (by have := HGD.out; omega) HG8.out
        have HZ9 : Hid (gd + 1 ≤ (w8.setCell ⟨gd, 0, none⟩ (.slice a8 (c + 1) c8)).heap.size) := (Array.getElem?_eq_some_iff.1 HO9.out.box).1
        clear hown8 hg8 hb8
        refine hK.out _ _ (HKS.out _ HT8.out) (fun hHeld => ?_)
        clear hK K
        refine take_q 184 (i := 37) (v := ?vv37o) rfl rfl (by kernel_rfl) (by kernel_rfl) (by kernel_rfl) (fun _ _ _ h => h) (Or.inl ⟨by rfl, ?yy37o⟩) (by assumption) ?rr37o
        case yy37o => (intro w9 hSw; (try dsimp only at hSw); go_simp; (try with_reducible rfl))
        simp only [List.setIfInBounds_toArray, List.set_cons_succ, List.set_cons_zero]
        refine wpAnyH_ready (rs := [38]) (by kernel_rfl) (by simp) ?_
        refine AllReadyH.cons rfl (fun K hK => ?_) AllReadyH.nil
        go_simp
        refine hK.out _ _ (HKS.out _ HT9.out) (fun hHeld => ?_)
        clear hK K
        refine wpAnyH_done (by kernel_rfl) ?_ _
        clear hHeld t0 r0' r1' r2' HT8
        go_wp2
        go_roundw
        case rel => exact ⟨c + 1, a8, c8, by omega, by go_num, by rw [HRN.out]; exact HO9.out, HZ9.out, HT9.out, HB9.out⟩
        case measure => simp only [intOf]; omega
    · obtain rfl : n = c := by omega
      have HLL : Hid (OutAt W5 (gd + 1) gd (.slice a2 n c2) 0 (lkC n U)) := (by rw [HLK.out]; exact ho.out)
      have HYD : Hid (Y.heap.size ≤ gd) := HGD.out.2.2.2.2
      clear ho htw
      go_wp2
      refine HK5.out _ _ ?_
      exact H34.out gd HYD.out W5 a2 c2 HLL.out hz.out hbl.out _ _ _ _ _ _ _ _ _ _ _ _ _ _ _ _ _ _ _ _ _ _ _ _ _ _ _ _ _ _ _ _ _ _ _ _ _ _ _ _ _ _ _ _ _ _ _ _ _ _ _ _ _ _ _ _ _ _ _ _ _ _ _ _ _ _ _ _ _ _ _ _ _ _ _ _ _ _ _ _ _ _ _ _ _ _ _ _ _ _ _ _ _ _ _ _ _ _ _ _ _ _ _ _ _ _ _ _ _ _ _ _ _ _ _ _ _ _ _ _ _ _ _ _ _ _ _ _ _ _ _ _ _ _ _ _ _ _ _ _ _ _ _ _ _ _ _ _ _ _ _ _ _ _ _ _ _ _ _ _ _ _ _ _ _ _ _ _ _ _ _ _ _ _ _ _ _ _ _ _ _ _ _ _ _ _ _ _ _ _ _ _ _ _ _ _ _ _ _ _ _ _ _ _ _ _ _ _ _ _ _ _ _ _ _ _ _ _ _ _ _ _ _ _ _ _ _ _ _ _ _ _ _ _ _ _ _ _ _ _ _ _ _ _ _ _ _ _ _ _ _ _ _ _ _
end Go.Proofs.Ytphhlflcghffbaa

/- The walk of ref.pairing.walked, from its rings of the first two arcs on. -/
import Derived.Test.YtphhlflcghffbaaTM11
import Derived.Test.YtphhlflcghffbaaTM8
import Derived.Test.YtphhlflcghffbaaW3
import Derived.Test.YtphhlflcghffbaaW6P
import Derived.Test.YtphhlflcghffbaaK1P
import Derived.Test.YtphhlflcghffbaaTL13
import Derived.Test.YtphhlflcghffbaaTk
import Derived.Deep.Cut
namespace Go.Proofs.Ytphhlflcghffbaa
open Go.RowKit Go.Maps

/-- The code from region n on. -/
def tailAt (n : Nat) : Code → Code
  | .seq (.region m a b) c => if m = n then .seq (.region m a b) c else tailAt n c
  | .seq _ c => tailAt n c
  | c => c
theorem hid_mk {p : Prop} (h : p) : Hid p := h
/-- Loops of the first two arcs alone. -/
def loP (P : List (Nat × Nat)) : Nat := (if mt P 1 = 0 then 1 else 0) + (if mt P 3 = 2 then 1 else 0)
/-- append onto a row of the call's own, as one step of a region that draws. -/
theorem step_append_ownT {P : Program} {ops : Array Oper} {o : Oper} {a : Act} {w : World} {K : Act → World → Prop} {Q : Exit → Act → World → Prop} {E : Prop}
    (hg : o.guard = none) (s x : Operand) (t : TypeId)
    (ho : o.op = .call { callee := .builtin .append, args := #[s, x], argTypes := #[t, t] })
    (base : Nat) (e : TypeId) (i : TypeInfo) (z : Value) (size bytes : Nat) (ht : P.underlying t = some (.slice e)) (hi : P.info? e = some i) (hz : i.zero = some z)
    (hsize : i.size = size) (hby : i.bytes = bytes) (hzs : z.cells.size = size) (hsz : 0 < size)
    (v : Value) (n : Nat) (xs : List Value) (hs : a.eval s = v) (hown : w.ownsRow base e size v n xs)
    (ad : Addr) (m c : Nat) (news : List Value) (hx : a.eval x = .slice (some ad) m c) (hl : news.length = m * size) (hnews : ∀ j u, news[j]? = some u → w.cell? (ad.add j) = some u) (h1 : ∀ u ∈ news, u.oneCell' = true)
    (h63 : n + m ≤ maxLen) (hbytes : (n + m) * bytes ≤ 140737488355328) (hbase : base ≤ w.heap.size)
    (h : ∀ v' w', w'.ownsRow base e size v' (n + m) (xs ++ news) → w.grownBy w' v.ownBlock → K (a.put o.dst v') w') :
    if Region.wanted o (yielded ops a.tmps) = true then Oper.wp P o a w K Q else E := by
  have hw : Region.wanted o (yielded ops a.tmps) = true := by simp [Region.wanted, hg]
  rw [if_pos hw]
  exact wp_append_own w s x t ho base e i z size bytes ht hi hz hsize hby hzs hsz v n xs hs hown ad m c news hx hl hnews h1 h63 hbytes hbase (fun v' w' h2 h3 _ => h v' w' h2 h3)
theorem gcellT {w w' : World} {row : Option Nat} (hg : w.grownBy w' row) {b o : Nat} {v : Option Value} (hb : b < w.heap.size) (hne : some b ≠ row) (hc : w.cell? ⟨b, o, none⟩ = v) : w'.cell? ⟨b, o, none⟩ = v := by
  rw [← hc]
  unfold World.cell?
  simp only []
  rw [hg.block b hb hne]
/-- Both tables stay where newer blocks alone change. -/
theorem Tw.keptO {B n ga gi k q : Nat} {gA gI : Nat → Nat} {TA TI : Nat → Nat → Int} {W W' : World} {r : Option Nat} {g : Nat} (h : Tw B n ga gi gA gI k q TA TI W) (hg : W.grownBy W' r) (hr : ∀ x, r = some x → g ≤ x) (h1 : ga < g) (h2 : gi < g) (h3 : ∀ i, i < k → gA i < g) (h4 : ∀ i, i < q → gI i < g) : Tw B n ga gi gA gI k q TA TI W' := by
  cases r with
  | none => exact h.any hg
  | some x =>
    have hx := hr x rfl
    exact ⟨h.A.kept hg (by omega) (fun i hi => by have := h3 i hi; omega), h.I.kept hg (by omega) (fun i hi => by have := h4 i hi; omega), h.oo, h.rr⟩
theorem OutAt.loopsT {w : World} {B g : Nat} {v : Value} {l : Int} {C : List Cr} (h : OutAt w B g v l C) (hgB : g < B) (m : Int) : OutAt (w.setCell ⟨g, 1, none⟩ (.int .i64 m)) B g v m C := by
  refine ⟨by rw [set_block h.box]; rfl, h.row.kept (set_grown w g 1 _) ?_⟩
  cases hv : v.ownBlock with
  | none => exact Or.inl rfl
  | some k => exact Or.inr (fun e => by have h1 := (h.row.lt k hv).1; have h2 := Option.some.inj e; omega)
/-- A diagram under way whose blocks all lie below K. -/
theorem OutAt.onK {w w' : World} {B g K : Nat} {v : Value} {l : Int} {C : List Cr} (h : OutAt w B g v l C) (hg : g < K) (hv : ∀ x, v.ownBlock = some x → x < K) (hb : Below K w w') : OutAt w' B g v l C := by
  refine ⟨(hb.block _ hg).trans h.box, h.row.1, ?_⟩
  rcases h.row.2 with hn | ⟨q, c, cur, rfl, hB, hq, rest⟩
  · exact .inl hn
  · exact .inr ⟨q, c, cur, rfl, hB, (hb.block q (hv q rfl)).trans hq, rest⟩
/-- A crossing of the link, turned. -/
theorem lkX_at (U : Nat → Nat) (L : List Nat) (c d0 d1 : Nat) (h0 : (dB L c 0).toNat = d0) (h1 : (dB L c 1).toNat = d1) (l0 : d0 < 4) (l1 : d1 < 4) : lkX U L c = ⟨FL U L (4 * c + 4 + d0), FL U L (4 * c + 4 + (d0 + 1) % 4), FL U L (4 * c + 4 + (d0 + 2) % 4), FL U L (4 * c + 4 + (d0 + 3) % 4), decide (d1 = (d0 + 3) % 4)⟩ := by
  unfold lkX
  rw [h0, h1]
  have e : decide ((d1 + 1) % 4 = d0) = decide (d1 = (d0 + 3) % 4) := by
    by_cases h : d1 = (d0 + 3) % 4
    · rw [decide_eq_true h, decide_eq_true (by omega)]
    · rw [decide_eq_false h, decide_eq_false (by omega)]
  rw [e]
  have h4 : d0 = 0 ∨ d0 = 1 ∨ d0 = 2 ∨ d0 = 3 := by omega
  rcases h4 with rfl | rfl | rfl | rfl <;> rfl
theorem tmod4 (d j q : Nat) (hd : d < 4) (h : (d + j) % 4 = q) (hj : j < 4) : ((d : Int) + (j : Int)).tmod 4 = (q : Int) := by
  subst h
  have e : ((d : Int) + (j : Int)) = ((d + j : Nat) : Int) := by omega
  rw [e, Int.tmod_eq_emod_of_nonneg (by omega)]
  omega
/-- Which of the first arcs' ends were seen ahead of round k. -/
def sn (k : Nat) : List Bool := [decide (1 ≤ k), decide (1 ≤ k), decide (3 ≤ k), decide (3 ≤ k)]
/-- Loops told ahead of round k. -/
def loK (P : List (Nat × Nat)) (k : Nat) : Nat := (if 1 ≤ k ∧ mt P 1 = 0 then 1 else 0) + (if 3 ≤ k ∧ mt P 3 = 2 then 1 else 0)
theorem loK_all (P : List (Nat × Nat)) : loK P 4 = loP P := by simp [loK, loP]
theorem sn_odd (P : List (Nat × Nat)) {k : Nat} (h : k = 1 ∨ k = 3) : sn k = sn (k + 1) ∧ loK P k = loK P (k + 1) ∧ (sn k).getD k true = true := by
  rcases h with rfl | rfl <;> simp [sn, loK]
theorem sn_even {k : Nat} (h : k = 0 ∨ k = 2) : (sn k).length = 4 ∧ (sn (k + 1)).length = 4 ∧ (sn k).getD k true = false ∧ (sn (k + 1)).getD k true = true ∧ (sn k).getD (k + 1) true = false ∧ ((sn k).set k true).set (k + 1) true = sn (k + 1) := by
  rcases h with rfl | rfl <;> decide
theorem loK_even {n : Nat} {U : Nat → Nat} {P : List (Nat × Nat)} (hp : Prs n U P) {k : Nat} (h : k = 0 ∨ k = 2) : (mt P (k + 1) = k ∨ 4 ≤ mt P (k + 1)) ∧ loK P (k + 1) = loK P k + if mt P (k + 1) = k then 1 else 0 := by
  rcases h with rfl | rfl
  · exact ⟨hp.o1, by simp [loK]⟩
  · exact ⟨hp.o3, by simp [loK]⟩
theorem xor_even {k : Nat} (h : k = 0 ∨ k = 2) : bits .xor .i64 (k : Int) 1 = ((k + 1 : Nat) : Int) := by
  rcases h with rfl | rfl <;> rfl
/-- One road at most: an end that is not seen yet. -/
def snM (g k : Nat) (W : World) : Nat := match W.cell? ⟨g, k, none⟩ with
  | some (.bool true) => 0
  | _ => 1
theorem snM_no {g k : Nat} {W : World} (h : W.cell? ⟨g, k, none⟩ = some (.bool false)) : snM g k W = 1 := by unfold snM; rw [h]
theorem snM_yes {g k : Nat} {W : World} (h : W.cell? ⟨g, k, none⟩ = some (.bool true)) : snM g k W = 0 := by unfold snM; rw [h]
theorem spP_low {k : Nat} (h : k < 4) : spP k = (-1, (k : Int)) := by
  unfold spP
  rw [show k / 4 = 0 by omega, show k % 4 = k by omega]
  rfl
theorem spP_neQ {a q : Nat} (h : a ≠ q) (hq : q < 4) : (((spP a).1 == -1) = false) ∨ ((spP a).1 = -1 ∧ ((spP a).2 == (q : Int)) = false) := by
  have := spP_ne h
  rw [spP_low hq] at this
  exact this
theorem spP_hi {m : Nat} (h : 4 ≤ m) : 0 ≤ (spP m).1 := by unfold spP; simp; omega
theorem lmF_take (P : List (Nat × Nat)) (q i : Nat) (hi : i < P.length) : lmF (P.take (i + 1)) q = lmS q (lmF (P.take i) q) (P.getD i (0, 0)) := by
  rw [List.take_add_one]
  unfold lmF
  rw [List.foldl_append]
  simp [List.getD_eq_getElem?_getD, hi]
/-- The pairs' rows in a later world. -/
theorem PrAt.cells {w : World} {B gX gY cX cY N : Nat} {P : List (Nat × Nat)} (h : PrAt w B P (.slice (some ⟨gX, 0, none⟩) N cX) (.slice (some ⟨gY, 0, none⟩) N cY)) (hN : P.length = N) (W : World) (hW : Below w.heap.size w W) (i : Nat) (hi : i < N) :
    (W.cell? ⟨gX, i * 2, none⟩ = some (.int .i64 (spP (P.getD i (0, 0)).1).1) ∧ W.cell? ⟨gX, i * 2 + 1, none⟩ = some (.int .i64 (spP (P.getD i (0, 0)).1).2)) ∧ (W.cell? ⟨gY, i * 2, none⟩ = some (.int .i64 (spP (P.getD i (0, 0)).2).1) ∧ W.cell? ⟨gY, i * 2 + 1, none⟩ = some (.int .i64 (spP (P.getD i (0, 0)).2).2)) ∧ gX < W.heap.size ∧ gY < W.heap.size := by
  subst hN
  have lA := (h.a.lt gX rfl).2
  have lB := (h.b.lt gY rfl).2
  have h1 := flat_cellsP h.a (by simp) i hi
  have h2 := flat_cellsP h.b (by simp) i hi
  rw [map_at P (fun p => p.1) i hi] at h1
  rw [map_at P (fun p => p.2) i hi] at h2
  have := hW.size
  exact ⟨⟨bcell hW lA h1.1, bcell hW lA h1.2⟩, ⟨bcell hW lB h2.1, bcell hW lB h2.2⟩, by omega, by omega⟩

set_option maxHeartbeats 16000000 in
set_option maxRecDepth 100000 in
theorem walked34 (B : Nat) (P : List (Nat × Nat)) (gX gY cX cY N n : Nat) (U : Nat → Nat) (w Y : World) (HP : Hid (PrAt w B P (.slice (some ⟨gX, 0, none⟩) N cX) (.slice (some ⟨gY, 0, none⟩) N cY))) (HN : Hid (P.length = N)) (hN2 : N ≤ 1000) (HPR : Hid (Prs n U P)) (HSY : Hid (Y.heap.size = w.heap.size + 2)) (HBXX : Hid (∀ W, Below Y.heap.size Y W → Below w.heap.size w W ∧ W.heap[w.heap.size]? = some (.cells #[.slice (some ⟨gX, 0, none⟩) N cX, .slice (some ⟨gY, 0, none⟩) N cY] 129 (0, 0)) ∧ W.heap[w.heap.size + 1]? = some (.cells #[.slice none 0 0, .int .i64 0] 24 (0, 0)))) (gd : Nat) (HGD : Hid (Y.heap.size ≤ gd)) (W5 : World) (a2 : Option Addr) (c2 : Nat) (ho : Hid (OutAt W5 (gd + 1) gd (.slice a2 n c2) 0 (lkC n U))) (hz : Hid (gd + 1 ≤ W5.heap.size)) (hbl : Hid (Below Y.heap.size Y W5)) (u3 u5 u6 u7 u8 u9 u10 u11 u12 u13 u14 u16 u17 u18 u19 u20 u21 u22 u23 u24 u25 u26 u27 u28 u29 u30 u31 u32 u33 u34 u35 u36 u37 u38 u39 u40 u41 u42 u43 u44 u45 u46 u47 u48 u49 u50 u51 u52 u53 u54 u55 u56 u57 u58 u59 u60 u61 u62 u63 u64 u65 u66 u67 u68 u69 u70 u71 u72 u73 u74 u75 u76 u77 u78 u79 u80 u81 u82 u83 u84 u85 u86 u87 u88 u89 u90 u91 u92 u93 u94 u95 u96 u97 u98 u99 u100 u101 u102 u103 u104 u105 u106 u107 u108 u109 u110 u111 u112 u113 u114 u115 u116 u117 u118 u119 u120 u121 u122 u123 u124 u125 u126 u127 u128 u129 u130 u131 u132 u133 u134 u135 u136 u137 u138 u139 u140 u141 u142 u143 u144 u145 u146 u147 u148 u149 u150 u151 u152 u153 u154 u155 u156 u157 u158 u159 u160 u161 u162 u163 u164 u165 u166 u167 u168 u169 u170 u171 u172 u173 u174 u175 u176 u177 u178 u179 u180 u181 u182 u183 u184 u185 u186 u187 u188 u189 u190 u191 u192 u193 u194 u195 u196 u197 u198 u199 u200 u201 u202 u203 u204 u205 u206 u207 u208 u209 u210 u211 u212 u213 u214 u215 u216 u217 u218 u219 u220 u221 u222 u223 u224 u225 u226 u227 u228 u229 u230 u231 u232 u233 u234 u235 u236 u237 u238 u239 u240 u241 u242 u243 u244 u245 u246 u247 u248 u249 u250 u251 u252 u253 u254 u255 u256 u257 u258 u259 : Value) :
    Code.wp Try.prog (tailAt 34 (Try.f90.body.getD .skip)) (bodyPost Try.prog Try.f90 fun e w' => ∃ a2 c2, e = .returned (.agg #[.slice a2 n c2, .int .i64 (loP P : Nat)]) ∧ w'.ownsRow w.heap.size 105 5 (.slice a2 n c2) n (crossCells (lkC n U)) ∧ Below w.heap.size w w') { tmps := #[.agg #[.slice (some ⟨gX, 0, none⟩) N cX, .slice (some ⟨gY, 0, none⟩) N cY], .int .i64 (n : Nat), .pointer (some ⟨w.heap.size, 0, none⟩), u3, .pointer (some ⟨w.heap.size + 1, 0, none⟩), u5, u6, u7, u8, u9, u10, u11, u12, u13, u14, .pointer (some ⟨gd, 0, none⟩), u16, u17, u18, u19, u20, u21, u22, u23, u24, u25, u26, u27, u28, u29, u30, u31, u32, u33, u34, u35, u36, u37, u38, u39, u40, u41, u42, u43, u44, u45, u46, u47, u48, u49, u50, u51, u52, u53, u54, u55, u56, u57, u58, u59, u60, u61, u62, u63, u64, u65, u66, u67, u68, u69, u70, u71, u72, u73, u74, u75, u76, u77, u78, u79, u80, u81, u82, u83, u84, u85, u86, u87, u88, u89, u90, u91, u92, u93, u94, u95, u96, u97, u98, u99, u100, u101, u102, u103, u104, u105, u106, u107, u108, u109, u110, u111, u112, u113, u114, u115, u116, u117, u118, u119, u120, u121, u122, u123, u124, u125, u126, u127, u128, u129, u130, u131, u132, u133, u134, u135, u136, u137, u138, u139, u140, u141, u142, u143, u144, u145, u146, u147, u148, u149, u150, u151, u152, u153, u154, u155, u156, u157, u158, u159, u160, u161, u162, u163, u164, u165, u166, u167, u168, u169, u170, u171, u172, u173, u174, u175, u176, u177, u178, u179, u180, u181, u182, u183, u184, u185, u186, u187, u188, u189, u190, u191, u192, u193, u194, u195, u196, u197, u198, u199, u200, u201, u202, u203, u204, u205, u206, u207, u208, u209, u210, u211, u212, u213, u214, u215, u216, u217, u218, u219, u220, u221, u222, u223, u224, u225, u226, u227, u228, u229, u230, u231, u232, u233, u234, u235, u236, u237, u238, u239, u240, u241, u242, u243, u244, u245, u246, u247, u248, u249, u250, u251, u252, u253, u254, u255, u256, u257, u258, u259], defers := [] } W5 := by
  obtain ⟨Q9, hQ9⟩ : ∃ Q9, bodyPost Try.prog Try.f90 (fun e w' => ∃ a2 c2, e = .returned (.agg #[.slice a2 n c2, .int .i64 (loP P : Nat)]) ∧ w'.ownsRow w.heap.size 105 5 (.slice a2 n c2) n (crossCells (lkC n U)) ∧ Below w.heap.size w w') = Q9 := ⟨_, rfl⟩
  have HQ9 : Hid (bodyPost Try.prog Try.f90 (fun e w' => ∃ a2 c2, e = .returned (.agg #[.slice a2 n c2, .int .i64 (loP P : Nat)]) ∧ w'.ownsRow w.heap.size 105 5 (.slice a2 n c2) n (crossCells (lkC n U)) ∧ Below w.heap.size w w') = Q9) := hQ9
  rw [hQ9]
  clear hQ9
  simp only [tailAt, Try.f90, Option.getD_some, reduceIte, Nat.reduceEqDiff]
  have HC : Hid (OutAt W5 (gd + 1) gd (.slice a2 n c2) ((loK P 0 : Nat) : Int) (lkC n U)) := ho.out
  have HVK : Hid (∀ x, (Value.slice a2 n c2).ownBlock = some x → x < W5.heap.size) := fun x hx => (ho.out.row.lt x hx).2
  have HGV : Hid (gd + 1 ≤ W5.heap.size ∧ Y.heap.size ≤ W5.heap.size ∧ gd < W5.heap.size) := (⟨hz.out, hbl.out.size, by have := hz.out; omega⟩ : gd + 1 ≤ W5.heap.size ∧ Y.heap.size ≤ W5.heap.size ∧ gd < W5.heap.size)
  have HBL5 : Hid (Below Y.heap.size Y W5) := hbl.out
  obtain ⟨ib, hbk, hb0, hb1, hb2⟩ := info_parts infoBool
  clear ho hz hbl
  have HCC : Hid ((lkC n U).length = n) := (by simp [lkC] : (lkC n U).length = n)
  obtain ⟨CC, hCC⟩ : ∃ CC, lkC n U = CC := ⟨_, rfl⟩
  rw [hCC] at HC HCC
  have HCE : Hid (lkC n U = CC) := hCC
  clear hCC
  go_wp2_with (first | (at_make; refine wpList_make_full _ rfl _ _ 165 rfl W5.heap.size 4 ib (.bool false) 1 Try.underlying165 hbk hb0 hb1 .i64 .i64 _ _ 4 rfl rfl rfl rfl (by rw [hb2]; omega) (by unfold maxLen; omega) (by simp) ?_; intro w7 hrow7 hg7; refine Hid.out ?_))
  refine Lib.hid ?_
  have HB7 : Hid (Below W5.heap.size W5 w7) := (Below.refl _ _).grown hg7 (Nat.le_refl _) (fun k hk => by cases hk)
  have HO7 : Hid (OutAt w7 (gd + 1) gd (.slice a2 n c2) ((loK P 0 : Nat) : Int) CC) := HC.out.onK HGV.out.2.2 HVK.out HB7.out
  have HBY7 : Hid (Below Y.heap.size Y w7) := HBL5.out.trans (HB7.out.mono HGV.out.2.1)
  rw [made_false] at hrow7
  clear hg7 HB7 HC HBL5
  generalize W5.heap.size = gv at hrow7 HVK HGV ⊢
  have HR7 : Hid (w7.ownsRow gv 4 1 (.slice (some ⟨gv, 0, none⟩) 4 4) 4 (bools (sn 0))) := hrow7
  clear hrow7
  go_wp2
  go_loopw [20] (fun v20 wr => ∃ k : Nat, k ≤ 4 ∧ v20 = .int .i64 (k : Nat) ∧ Hid (OutAt wr (gd + 1) gd (.slice a2 n c2) ((loK P k : Nat) : Int) CC) ∧ Hid (wr.ownsRow gv 4 1 (.slice (some ⟨gv, 0, none⟩) 4 4) 4 (bools (sn k))) ∧ Hid (Below Y.heap.size Y wr)) (fun v20 _ => 4 - (intOf v20).toNat)
  case atStart => exact ⟨0, by omega, rfl, HO7.out, HR7.out, HBY7.out⟩
  case round =>
    clear HO7 HR7 HBY7
    rename World => W6
    obtain ⟨k, hk4, rfl, ho6, hr6, hb6⟩ := hrel
    by_cases hkl : k < 4
    · have hkI : (k : Int) < 4 := by omega
      have lgv : gv < W6.heap.size := (hr6.out.lt gv rfl).2
      have hcases : (k = 1 ∨ k = 3) ∨ (k = 0 ∨ k = 2) := by omega
      rcases hcases with hodd | hev
      · obtain ⟨q1, q2, q3⟩ := sn_odd P hodd
        have c38 : W6.cell? ⟨gv, k, none⟩ = some (.bool true) := by rw [hr6.out.cellAt k (by omega), bools_get (sn k) k (by show k < 4; omega), q3]
        have HE1 : Hid (sn k = sn (k + 1) ∧ loK P k = loK P (k + 1)) := ⟨q1, q2⟩
        clear hodd q1 q2 q3
        go_wp2
        go_roundw
        case rel => exact ⟨k + 1, by omega, by go_num, by rw [← HE1.out.2]; exact ho6.out, by rw [← HE1.out.1]; exact hr6.out, hb6.out⟩
        case measure => simp only [intOf]; omega
      · obtain ⟨hM, hL⟩ := loK_even HPR.out hev
        obtain ⟨j1, j2, j3, j4, j5, j6⟩ := sn_even hev
        have hxo := xor_even hev
        have hq4 : k + 1 < 4 := by omega
        have c38 : W6.cell? ⟨gv, k, none⟩ = some (.bool false) := by rw [hr6.out.cellAt k (by omega), bools_get (sn k) k (by omega), j3]
        obtain ⟨q, hq⟩ : ∃ q, k + 1 = q := ⟨_, rfl⟩
        rw [hq] at hM hL j2 j4 j5 j6 hxo hq4
        have HQ : Hid (q = k + 1) := hq.symm
        have hqI : (q : Int) < 4 := by omega
        have HLM : Hid (lmF P q = mt P q) := HPR.out.lm q
        have HLO : Hid (loK P q = loK P k + if mt P q = k then 1 else 0) := hL
        have HO6 : Hid (OutAt W6 (gd + 1) gd (.slice a2 n c2) ((loK P k : Nat) : Int) CC) := ho6.out
        obtain ⟨lk, hlk⟩ : ∃ lk, loK P k = lk := ⟨_, rfl⟩
        have hlk9 : lk ≤ 9 := by rw [← hlk]; unfold loK; (repeat' split) <;> omega
        rw [hlk] at HLO HO6
        obtain ⟨m, hm⟩ : ∃ m, mt P q = m := ⟨_, rfl⟩
        rw [hm] at hM HLM HLO
        have HM : Hid (m = k ∨ 4 ≤ m) := hM
        obtain ⟨f0, hf0⟩ : ∃ f0, sn k = f0 := ⟨_, rfl⟩
        obtain ⟨f1, hf1⟩ : ∃ f1, sn q = f1 := ⟨_, rfl⟩
        have HF1 : Hid (sn (k + 1) = f1 ∧ loK P (k + 1) = loK P q) := (by rw [hq]; exact ⟨hf1, rfl⟩ : sn (k + 1) = f1 ∧ loK P (k + 1) = loK P q)
        rw [hf0] at j1 j3 j5 j6 hr6
        rw [hf1] at j2 j4 j6
        have HF : Hid (f0.length = 4 ∧ f1.length = 4 ∧ f0.getD k true = false ∧ f1.getD k true = true ∧ f0.getD q true = false ∧ (f0.set k true).set q true = f1) := ⟨j1, j2, j3, j4, j5, j6⟩
        have HRD : Hid (∀ W, Below gv W6 W → W.cell? ⟨w.heap.size, 0, none⟩ = some (.slice (some ⟨gX, 0, none⟩) N cX) ∧ W.cell? ⟨w.heap.size, 1, none⟩ = some (.slice (some ⟨gY, 0, none⟩) N cY) ∧ w.heap.size < W.heap.size ∧ ∀ i, i < N → (W.cell? ⟨gX, i * 2, none⟩ = some (.int .i64 (spP (P.getD i (0, 0)).1).1) ∧ W.cell? ⟨gX, i * 2 + 1, none⟩ = some (.int .i64 (spP (P.getD i (0, 0)).1).2)) ∧ (W.cell? ⟨gY, i * 2, none⟩ = some (.int .i64 (spP (P.getD i (0, 0)).2).1) ∧ W.cell? ⟨gY, i * 2 + 1, none⟩ = some (.int .i64 (spP (P.getD i (0, 0)).2).2)) ∧ gX < W.heap.size ∧ gY < W.heap.size) := fun W hW => by
          obtain ⟨r1, r2, -⟩ := HBXX.out W (hb6.out.trans (hW.mono HGV.out.2.1))
          exact ⟨block_cell r2 rfl, block_cell r2 rfl, (Array.getElem?_eq_some_iff.1 r2).1, fun i hi => HP.out.cells HN.out W r1 i hi⟩
        obtain ⟨g7, hg7⟩ : ∃ g7, W6.heap.size = g7 := ⟨_, rfl⟩
        obtain ⟨V7, hV7⟩ : ∃ V7, V7 = W6.alloc (.cells #[.int .i64 (-1), .int .i64 (k : Nat)] 120) := ⟨_, rfl⟩
        have HV7 : Hid (V7 = W6.alloc (.cells #[.int .i64 (-1), .int .i64 (k : Nat)] 120)) := hV7
        have XV7 : Hid (V7.heap[g7]? = some (.cells #[.int .i64 (spP k).1, .int .i64 (spP k).2] 120 (0, 0))) := (by rw [hV7, ← hg7, spP_low hkl]; exact box_at _ _)
        have RV7 : Hid (V7.ownsRow gv 4 1 (.slice (some ⟨gv, 0, none⟩) 4 4) 4 (bools f0)) := (by rw [hV7]; exact own_any hr6.out (World.grownBy_alloc _ _ _))
        have BV7 : Hid (Below gv W6 V7) := (by rw [hV7]; exact (Below.refl _ _).alloc (by omega) _ : Below gv W6 V7)
        have HG7 : Hid (gv < g7) := (by omega : gv < g7)
        clear hM hL j1 j2 j3 j4 j5 j6 hq hev hlk hm hf0 hf1 hV7 ho6
        go_wp2
        rw [← HV7.out]
        clear hg7 HV7 c38
        go_loopw [21] (fun v21 wr => ∃ (rg : Bool) (y : Nat) (f : List Bool), v21 = .bool rg ∧ Hid ((f = f0 ∧ rg = true ∧ y = k) ∨ (f = f1 ∧ y = m ∧ rg = decide (m < 4))) ∧ Hid (wr.ownsRow gv 4 1 (.slice (some ⟨gv, 0, none⟩) 4 4) 4 (bools f)) ∧ Hid (wr.heap[g7]? = some (.cells #[.int .i64 (spP y).1, .int .i64 (spP y).2] 120 (0, 0))) ∧ Hid (Below gv W6 wr)) (fun _ wr => snM gv k wr)
        case atStart => exact ⟨true, k, f0, rfl, Or.inl ⟨rfl, rfl, rfl⟩, RV7.out, XV7.out, BV7.out⟩
        case round =>
          clear RV7 XV7 BV7
          rename World => W7
          obtain ⟨rg, y, f, rfl, hph, hr7, hx7, hb7⟩ := hrel
          have lg7 : g7 < W7.heap.size := (Array.getElem?_eq_some_iff.1 hx7.out).1
          have lgv7 : gv < W7.heap.size := (hr7.out.lt gv rfl).2
          rcases hph.out with ⟨e1, e2, e3⟩ | ⟨e1, e2, e3⟩
          · rw [e1] at hr7
            rw [e3, spP_low hkl] at hx7
            rw [e2]
            clear e1 e2 e3 hph
            have a0 : W7.cell? ⟨g7, 0, none⟩ = some (.int .i64 (-1)) := block_cell hx7.out rfl
            have a1 : W7.cell? ⟨g7, 1, none⟩ = some (.int .i64 (k : Nat)) := block_cell hx7.out rfl
            have s0 : W7.cell? ⟨gv, k, none⟩ = some (.bool false) := by rw [hr7.out.cellAt k (by omega), bools_get f0 k (by rw [HF.out.1]; omega), HF.out.2.2.1]
            have z0 : W7.frozen? ⟨gv, k, none⟩ = false := hr7.out.frozenAt k
            have HSM0 : Hid (snM gv k W7 = 1) := snM_no s0
            have hst1 := hr7.out.stored k (.bool true)
            rw [bools_set] at hst1
            obtain ⟨X1, hX1⟩ : ∃ X1, X1 = W7.setCell ⟨gv, k, none⟩ (.bool true) := ⟨_, rfl⟩
            rw [← hX1] at hst1
            have HX1 : Hid (X1 = W7.setCell ⟨gv, k, none⟩ (.bool true)) := hX1
            have R1 : Hid (X1.ownsRow gv 4 1 (.slice (some ⟨gv, 0, none⟩) 4 4) 4 (bools (f0.set k true))) := hst1.1
            have G1 : Hid (W7.grownBy X1 (some gv)) := hst1.2
            have N7 : Hid (g7 ≠ gv) := (by have := HG7.out; omega : g7 ≠ gv)
            have K1 : Hid (X1.heap[g7]? = some (.cells #[.int .i64 (-1), .int .i64 (k : Nat)] 120 (0, 0))) := (G1.out.block g7 lg7 (fun e => N7.out (Option.some.inj e))).trans hx7.out
            have B1 : Hid (Below gv W6 X1) := hb7.out.grown G1.out (by omega) (fun x hx => by have h1 : gv = x := Option.some.inj hx; omega)
            clear hst1 hX1
            go_upto_region 43 with (fail)
            rw [← HX1.out]
            clear a0 a1 s0 z0 HX1 hr7 hx7 lg7 lgv7
            have a1 : X1.cell? ⟨g7, 1, none⟩ = some (.int .i64 (k : Nat)) := block_cell K1.out rfl
            have lg7 : g7 < X1.heap.size := (Array.getElem?_eq_some_iff.1 K1.out).1
            have lgv7 : gv < X1.heap.size := (R1.out.lt gv rfl).2
            have s0 := R1.out.cellAt q (by omega)
            rw [bools_get _ q (by rw [List.length_set, HF.out.1]; omega)] at s0
            have z0 : X1.frozen? ⟨gv, q, none⟩ = false := R1.out.frozenAt q
            have hst1 := R1.out.stored q (.bool true)
            rw [bools_set, HF.out.2.2.2.2.2] at hst1
            obtain ⟨X2, hX2⟩ : ∃ X2, X2 = X1.setCell ⟨gv, q, none⟩ (.bool true) := ⟨_, rfl⟩
            rw [← hX2] at hst1
            have HX2 : Hid (X2 = X1.setCell ⟨gv, q, none⟩ (.bool true)) := hX2
            have R2 : Hid (X2.ownsRow gv 4 1 (.slice (some ⟨gv, 0, none⟩) 4 4) 4 (bools f1)) := hst1.1
            have G2 : Hid (X1.grownBy X2 (some gv)) := hst1.2
            have K2 : Hid (X2.heap[g7]? = some (.cells #[.int .i64 (-1), .int .i64 (k : Nat)] 120 (0, 0))) := (G2.out.block g7 lg7 (fun e => N7.out (Option.some.inj e))).trans K1.out
            have B2 : Hid (Below gv W6 X2) := B1.out.grown G2.out (by omega) (fun x hx => by have h1 : gv = x := Option.some.inj hx; omega)
            clear hst1 hX2
            go_upto_region 44 with (fail)
            rw [← HX2.out]
            clear a1 s0 z0 HX2 R1 K1 B1 G1 G2 lg7 lgv7
            have a1 : X2.cell? ⟨g7, 1, none⟩ = some (.int .i64 (k : Nat)) := block_cell K2.out rfl
            have lg7 : g7 < X2.heap.size := (Array.getElem?_eq_some_iff.1 K2.out).1
            have lgv7 : gv < X2.heap.size := (R2.out.lt gv rfl).2
            obtain ⟨gt, hgt⟩ : ∃ gt, X2.heap.size = gt := ⟨_, rfl⟩
            obtain ⟨gn, hgn⟩ : ∃ gn, gt + 1 = gn := ⟨_, rfl⟩
            obtain ⟨V8, hV8⟩ : ∃ V8, V8 = (X2.alloc (.cells #[.int .i64 (-1), .int .i64 (q : Nat)] 120)).alloc (.cells #[.int .i64 (-1), .int .i64 (q : Nat)] 120) := ⟨_, rfl⟩
            have HV8 : Hid (V8 = (X2.alloc (.cells #[.int .i64 (-1), .int .i64 (q : Nat)] 120)).alloc (.cells #[.int .i64 (-1), .int .i64 (q : Nat)] 120)) := hV8
            have hgV8 : X2.grownBy V8 none := by rw [hV8]; exact grown_two (World.grownBy_alloc _ _ _) (World.grownBy_alloc _ _ _)
            have T8 : Hid (V8.heap[gt]? = some (.cells #[.int .i64 (-1), .int .i64 (q : Nat)] 120 (0, 0))) := (by rw [hV8, box_low _ _ (by rw [sz_alloc]; omega), ← hgt]; exact box_at _ _)
            have N8 : Hid (V8.heap[gn]? = some (.cells #[.int .i64 (-1), .int .i64 (q : Nat)] 120 (0, 0))) := (by
              have := box_at (X2.alloc (.cells #[.int .i64 (-1), .int .i64 (q : Nat)] 120)) (.cells #[.int .i64 (-1), .int .i64 (q : Nat)] 120)
              rw [sz_alloc, hgt, hgn] at this
              rw [hV8]
              exact this)
            have K8 : Hid (V8.heap[g7]? = some (.cells #[.int .i64 (-1), .int .i64 (k : Nat)] 120 (0, 0))) := (hgV8.block g7 lg7 (by simp)).trans K2.out
            have R8 : Hid (V8.ownsRow gv 4 1 (.slice (some ⟨gv, 0, none⟩) 4 4) 4 (bools f1)) := own_any R2.out hgV8
            have B8 : Hid (Below gv W6 V8) := B2.out.grown hgV8 (by omega) (fun x hx => by cases hx)
            have HGN8 : Hid (gv < g7 ∧ g7 < gt ∧ gt < gn ∧ gn < V8.heap.size) := (⟨HG7.out, by omega, by omega, (Array.getElem?_eq_some_iff.1 N8.out).1⟩ : gv < g7 ∧ g7 < gt ∧ gt < gn ∧ gn < V8.heap.size)
            -- what holds in every world of loop 8
            have HF8 : Hid (∀ W, V8.grownBy W (some gn) → Below gv W6 W ∧ W.heap[gt]? = some (.cells #[.int .i64 (-1), .int .i64 (q : Nat)] 120 (0, 0)) ∧ W.heap[g7]? = some (.cells #[.int .i64 (-1), .int .i64 (k : Nat)] 120 (0, 0)) ∧ W.ownsRow gv 4 1 (.slice (some ⟨gv, 0, none⟩) 4 4) 4 (bools f1)) := fun W hW => by
              have hl := HGN8.out
              exact ⟨B8.out.grown hW (by omega) (fun x hx => by have h1 : gn = x := Option.some.inj hx; omega), (hW.block gt (by omega) (fun e => by have h1 : gt = gn := Option.some.inj e; omega)).trans T8.out, (hW.block g7 (by omega) (fun e => by have h1 : g7 = gn := Option.some.inj e; omega)).trans K8.out, R8.out.kept hW (Or.inr fun e => by have h1 : gv = gn := Option.some.inj e; omega)⟩
            have B8pre : Hid (Below gv W6 X2) := B2.out
            clear hV8 hgV8 R2 K2 B2
            have hN0 : (0 : Int) ≤ (N : Int) := by omega
            obtain ⟨pb1, pb2, lpb, -⟩ := HRD.out X2 B8pre.out
            go_wp2
            rw [← HV8.out]
            clear hgt hgn HV8 a1 lg7 lgv7 pb1 pb2 lpb
            go_loopw [25] (fun v25 wr => ∃ i : Nat, i ≤ N ∧ v25 = .int .i64 (i : Nat) ∧ Hid (wr.heap[gn]? = some (.cells #[.int .i64 (spP (lmF (P.take i) q)).1, .int .i64 (spP (lmF (P.take i) q)).2] 120 (0, 0))) ∧ Hid (V8.grownBy wr (some gn))) (fun v25 _ => N - (intOf v25).toNat)
            case atStart => exact ⟨0, Nat.zero_le _, rfl, (by rw [List.take_zero, show lmF [] q = q from rfl, spP_low hq4]; exact N8.out), World.grownBy.refl _ _⟩
            case round =>
              clear N8 T8 K8 R8 B8
              rename World => W8
              obtain ⟨i, hiN, rfl, hx8, hg8⟩ := hrel
              obtain ⟨h8, ht8, h78, hr8⟩ := HF8.out W8 hg8.out
              obtain ⟨pb1, pb2, lpb, hcel⟩ := HRD.out W8 h8
              have lgn : gn < W8.heap.size := (Array.getElem?_eq_some_iff.1 hx8.out).1
              have lgt : gt < W8.heap.size := (Array.getElem?_eq_some_iff.1 ht8).1
              by_cases hil : i < N
              · have hiI : (i : Int) < (N : Int) := by omega
                obtain ⟨⟨u0, u1⟩, ⟨v0, v1⟩, lX, lY⟩ := hcel i hil
                have HLT := lmF_take P q i (by rw [HN.out]; exact hil)
                clear u0 u1 v0 v1 pb1 pb2 lpb lX lY lgt hr8 h78 ht8 h8 lgn
                obtain ⟨p1, hp1⟩ : ∃ p1, (P.getD i (0, 0)).1 = p1 := ⟨_, rfl⟩
                obtain ⟨p2, hp2⟩ : ∃ p2, (P.getD i (0, 0)).2 = p2 := ⟨_, rfl⟩
                unfold lmS at HLT
                rw [hp1, hp2] at HLT
                obtain ⟨ac, hac⟩ : ∃ ac, lmF (P.take i) q = ac := ⟨_, rfl⟩
                rw [hac] at HLT hx8
                obtain ⟨AA, hA⟩ : ∃ AA, spP p1 = AA := ⟨_, rfl⟩
                obtain ⟨BB, hB⟩ : ∃ BB, spP p2 = BB := ⟨_, rfl⟩
                obtain ⟨CCc, hC⟩ : ∃ CCc, spP ac = CCc := ⟨_, rfl⟩
                obtain ⟨A1, A2⟩ := AA
                obtain ⟨B1, B2⟩ := BB
                obtain ⟨C1, C2⟩ := CCc
                have HNX : Hid (lmF (P.take (i + 1)) q = if p2 = q then p1 else if p1 = q then p2 else ac) := HLT
                have HA : Hid (spP p1 = (A1, A2) ∧ spP p2 = (B1, B2) ∧ spP ac = (C1, C2)) := ⟨hA, hB, hC⟩
                have HC8 : Hid (∀ W, V8.grownBy W (some gn) → W.cell? ⟨w.heap.size, 0, none⟩ = some (.slice (some ⟨gX, 0, none⟩) N cX) ∧ W.cell? ⟨w.heap.size, 1, none⟩ = some (.slice (some ⟨gY, 0, none⟩) N cY) ∧ W.cell? ⟨gt, 0, none⟩ = some (.int .i64 (-1)) ∧ W.cell? ⟨gt, 1, none⟩ = some (.int .i64 (q : Nat)) ∧ W.cell? ⟨gX, i * 2, none⟩ = some (.int .i64 A1) ∧ W.cell? ⟨gX, i * 2 + 1, none⟩ = some (.int .i64 A2) ∧ W.cell? ⟨gY, i * 2, none⟩ = some (.int .i64 B1) ∧ W.cell? ⟨gY, i * 2 + 1, none⟩ = some (.int .i64 B2) ∧ w.heap.size < W.heap.size ∧ gt < W.heap.size ∧ gX < W.heap.size ∧ gY < W.heap.size) := fun W hW => by
                  obtain ⟨h8, ht8, -, -⟩ := HF8.out W hW
                  obtain ⟨y1, y2, y3, y4⟩ := HRD.out W h8
                  obtain ⟨⟨u0, u1⟩, ⟨v0, v1⟩, lX, lY⟩ := y4 i hil
                  rw [hp1, hA] at u0 u1
                  rw [hp2, hB] at v0 v1
                  exact ⟨y1, y2, block_cell ht8 rfl, block_cell ht8 rfl, u0, u1, v0, v1, y3, (Array.getElem?_eq_some_iff.1 ht8).1, lX, lY⟩
                have HB8 : Hid (W8.heap[gn]? = some (.cells #[.int .i64 C1, .int .i64 C2] 120 (0, 0))) := (by have := hx8.out; rw [hC] at this; exact this)
                have HG8 : Hid (V8.grownBy W8 (some gn)) := hg8.out
                clear HLT hac hp1 hp2 hx8 hg8 hA hB hC hcel
                obtain ⟨k0, k1, k2, k3, k4, k5, k6, k7, m0, m1, m2, m3⟩ := HC8.out W8 HG8.out
                by_cases e2 : p2 = q
                · by_cases e1 : p1 = q
                  · have HR9 : Hid (spP (lmF (P.take (i + 1)) q) = (A1, A2)) := (by rw [HNX.out, if_pos e2]; exact HA.out.1 : spP (lmF (P.take (i + 1)) q) = (A1, A2))
                    have x1 := HA.out.1
                    have x2 := HA.out.2.1
                    rw [e1, spP_low hq4] at x1
                    rw [e2, spP_low hq4] at x2
                    injection x1 with x1 x3
                    injection x2 with x2 x4
                    subst x1 x2 x3 x4
                    clear e1 e2
                    go_wp2
                    go_quiet (fail)
                    have HGa : Hid (V8.grownBy (W8.drewN nq) (some gn)) := grown_two HG8.out (drewN_grown2 _ _ _)
                    have HBa : Hid ((W8.drewN nq).heap[gn]? = some (.cells #[.int .i64 C1, .int .i64 C2] 120 (0, 0))) := ((drewN_grown2 W8 nq none).block gn (Array.getElem?_eq_some_iff.1 HB8.out).1 (by simp)).trans HB8.out
                    clear k0 k1 k2 k3 k4 k5 k6 k7 m0 m1 m2 m3 HG8 HB8
                    generalize W8.drewN nq = Wa at HGa HBa ⊢
                    clear nq
                    obtain ⟨k0, k1, k2, k3, k4, k5, k6, k7, m0, m1, m2, m3⟩ := HC8.out Wa HGa.out
                    have n0 : Wa.cell? ⟨gn, 0, none⟩ = some (.int .i64 C1) := block_cell HBa.out rfl
                    have n1 : Wa.cell? ⟨gn, 1, none⟩ = some (.int .i64 C2) := block_cell HBa.out rfl
                    have z0 : Wa.frozen? ⟨gn, 0, none⟩ = false := block_frozen HBa.out
                    have z1 : Wa.frozen? ⟨gn, 1, none⟩ = false := block_frozen HBa.out
                    have lgn : gn < Wa.heap.size := (Array.getElem?_eq_some_iff.1 HBa.out).1
                    obtain ⟨Wb, hE⟩ : ∃ E, E = (Wa.setCell ⟨gn, 0, none⟩ (.int .i64 (-1))).setCell ⟨gn, 1, none⟩ (.int .i64 (q : Nat)) := ⟨_, rfl⟩
                    have HE : Hid (Wb = (Wa.setCell ⟨gn, 0, none⟩ (.int .i64 (-1))).setCell ⟨gn, 1, none⟩ (.int .i64 (q : Nat))) := hE
                    have HGb : Hid (V8.grownBy Wb (some gn)) := (by rw [hE]; exact grown_two HGa.out (grown_two (set_grown _ _ _ _) (set_grown _ _ _ _)))
                    have HBb : Hid (Wb.heap[gn]? = some (.cells #[.int .i64 (-1), .int .i64 (q : Nat)] 120 (0, 0))) := (by rw [hE]; exact st2_eq HBa.out _ _)
                    clear hE
                    go_upto_region 51 with (fail)
                    rw [← HE.out]
                    clear n0 n1 z0 z1 lgn HE k0 k1 k2 k3 k4 k5 k6 k7 m0 m1 m2 m3 HGa HBa
                    obtain ⟨k0, k1, k2, k3, k4, k5, k6, k7, m0, m1, m2, m3⟩ := HC8.out Wb HGb.out
                    go_wp2
                    go_quiet (fail)
                    have HGc : Hid (V8.grownBy (Wb.drewN nq) (some gn)) := grown_two HGb.out (drewN_grown2 _ _ _)
                    have HBc : Hid ((Wb.drewN nq).heap[gn]? = some (.cells #[.int .i64 (-1), .int .i64 (q : Nat)] 120 (0, 0))) := ((drewN_grown2 Wb nq none).block gn (Array.getElem?_eq_some_iff.1 HBb.out).1 (by simp)).trans HBb.out
                    clear k0 k1 k2 k3 k4 k5 k6 k7 m0 m1 m2 m3 HGb HBb
                    generalize Wb.drewN nq = Wc at HGc HBc ⊢
                    clear nq
                    obtain ⟨k0, k1, k2, k3, k4, k5, k6, k7, m0, m1, m2, m3⟩ := HC8.out Wc HGc.out
                    have n0 : Wc.cell? ⟨gn, 0, none⟩ = some (.int .i64 (-1)) := block_cell HBc.out rfl
                    have n1 : Wc.cell? ⟨gn, 1, none⟩ = some (.int .i64 (q : Nat)) := block_cell HBc.out rfl
                    have z0 : Wc.frozen? ⟨gn, 0, none⟩ = false := block_frozen HBc.out
                    have z1 : Wc.frozen? ⟨gn, 1, none⟩ = false := block_frozen HBc.out
                    have lgn : gn < Wc.heap.size := (Array.getElem?_eq_some_iff.1 HBc.out).1
                    obtain ⟨Wd, hE⟩ : ∃ E, E = (Wc.setCell ⟨gn, 0, none⟩ (.int .i64 (-1))).setCell ⟨gn, 1, none⟩ (.int .i64 (q : Nat)) := ⟨_, rfl⟩
                    have HE : Hid (Wd = (Wc.setCell ⟨gn, 0, none⟩ (.int .i64 (-1))).setCell ⟨gn, 1, none⟩ (.int .i64 (q : Nat))) := hE
                    have HGd : Hid (V8.grownBy Wd (some gn)) := (by rw [hE]; exact grown_two HGc.out (grown_two (set_grown _ _ _ _) (set_grown _ _ _ _)))
                    have HBd : Hid (Wd.heap[gn]? = some (.cells #[.int .i64 (-1), .int .i64 (q : Nat)] 120 (0, 0))) := (by rw [hE]; exact st2_eq HBc.out _ _)
                    clear hE
                    go_wp2
                    rw [← HE.out]
                    clear n0 n1 z0 z1 lgn HE k0 k1 k2 k3 k4 k5 k6 k7 m0 m1 m2 m3 HGc HBc
                    obtain ⟨k0, k1, k2, k3, k4, k5, k6, k7, m0, m1, m2, m3⟩ := HC8.out Wd HGd.out
                    go_roundw
                    case rel => exact ⟨i + 1, by omega, by go_num, (by rw [HR9.out]; exact HBd.out), HGd.out⟩
                    case measure => simp only [intOf]; omega
                  · have HR9 : Hid (spP (lmF (P.take (i + 1)) q) = (A1, A2)) := (by rw [HNX.out, if_pos e2]; exact HA.out.1 : spP (lmF (P.take (i + 1)) q) = (A1, A2))
                    have h1 := spP_neQ e1 hq4
                    rw [HA.out.1] at h1
                    simp only at h1
                    have x2 := HA.out.2.1
                    rw [e2, spP_low hq4] at x2
                    injection x2 with x2 x4
                    subst x2 x4
                    clear e1 e2
                    rcases h1 with h1 | ⟨h0, h1⟩
                    · skip
                      go_wp2
                      go_quiet (fail)
                      have HGa : Hid (V8.grownBy (W8.drewN nq) (some gn)) := grown_two HG8.out (drewN_grown2 _ _ _)
                      have HBa : Hid ((W8.drewN nq).heap[gn]? = some (.cells #[.int .i64 C1, .int .i64 C2] 120 (0, 0))) := ((drewN_grown2 W8 nq none).block gn (Array.getElem?_eq_some_iff.1 HB8.out).1 (by simp)).trans HB8.out
                      clear k0 k1 k2 k3 k4 k5 k6 k7 m0 m1 m2 m3 HG8 HB8
                      generalize W8.drewN nq = Wa at HGa HBa ⊢
                      clear nq
                      obtain ⟨k0, k1, k2, k3, k4, k5, k6, k7, m0, m1, m2, m3⟩ := HC8.out Wa HGa.out
                      go_wp2
                      go_quiet (fail)
                      have HGc : Hid (V8.grownBy (Wa.drewN nq) (some gn)) := grown_two HGa.out (drewN_grown2 _ _ _)
                      have HBc : Hid ((Wa.drewN nq).heap[gn]? = some (.cells #[.int .i64 C1, .int .i64 C2] 120 (0, 0))) := ((drewN_grown2 Wa nq none).block gn (Array.getElem?_eq_some_iff.1 HBa.out).1 (by simp)).trans HBa.out
                      clear k0 k1 k2 k3 k4 k5 k6 k7 m0 m1 m2 m3 HGa HBa
                      generalize Wa.drewN nq = Wc at HGc HBc ⊢
                      clear nq
                      obtain ⟨k0, k1, k2, k3, k4, k5, k6, k7, m0, m1, m2, m3⟩ := HC8.out Wc HGc.out
                      have n0 : Wc.cell? ⟨gn, 0, none⟩ = some (.int .i64 C1) := block_cell HBc.out rfl
                      have n1 : Wc.cell? ⟨gn, 1, none⟩ = some (.int .i64 C2) := block_cell HBc.out rfl
                      have z0 : Wc.frozen? ⟨gn, 0, none⟩ = false := block_frozen HBc.out
                      have z1 : Wc.frozen? ⟨gn, 1, none⟩ = false := block_frozen HBc.out
                      have lgn : gn < Wc.heap.size := (Array.getElem?_eq_some_iff.1 HBc.out).1
                      obtain ⟨Wd, hE⟩ : ∃ E, E = (Wc.setCell ⟨gn, 0, none⟩ (.int .i64 A1)).setCell ⟨gn, 1, none⟩ (.int .i64 A2) := ⟨_, rfl⟩
                      have HE : Hid (Wd = (Wc.setCell ⟨gn, 0, none⟩ (.int .i64 A1)).setCell ⟨gn, 1, none⟩ (.int .i64 A2)) := hE
                      have HGd : Hid (V8.grownBy Wd (some gn)) := (by rw [hE]; exact grown_two HGc.out (grown_two (set_grown _ _ _ _) (set_grown _ _ _ _)))
                      have HBd : Hid (Wd.heap[gn]? = some (.cells #[.int .i64 A1, .int .i64 A2] 120 (0, 0))) := (by rw [hE]; exact st2_eq HBc.out _ _)
                      clear hE
                      go_wp2
                      rw [← HE.out]
                      clear n0 n1 z0 z1 lgn HE k0 k1 k2 k3 k4 k5 k6 k7 m0 m1 m2 m3 HGc HBc
                      obtain ⟨k0, k1, k2, k3, k4, k5, k6, k7, m0, m1, m2, m3⟩ := HC8.out Wd HGd.out
                      go_roundw
                      case rel => exact ⟨i + 1, by omega, by go_num, (by rw [HR9.out]; exact HBd.out), HGd.out⟩
                      case measure => simp only [intOf]; omega
                    · have HA1 : Hid (A1 = -1) := h0
                      subst h0
                      go_wp2
                      go_quiet (fail)
                      have HGa : Hid (V8.grownBy (W8.drewN nq) (some gn)) := grown_two HG8.out (drewN_grown2 _ _ _)
                      have HBa : Hid ((W8.drewN nq).heap[gn]? = some (.cells #[.int .i64 C1, .int .i64 C2] 120 (0, 0))) := ((drewN_grown2 W8 nq none).block gn (Array.getElem?_eq_some_iff.1 HB8.out).1 (by simp)).trans HB8.out
                      clear k0 k1 k2 k3 k4 k5 k6 k7 m0 m1 m2 m3 HG8 HB8
                      generalize W8.drewN nq = Wa at HGa HBa ⊢
                      clear nq
                      obtain ⟨k0, k1, k2, k3, k4, k5, k6, k7, m0, m1, m2, m3⟩ := HC8.out Wa HGa.out
                      go_wp2
                      go_quiet (fail)
                      have HGc : Hid (V8.grownBy (Wa.drewN nq) (some gn)) := grown_two HGa.out (drewN_grown2 _ _ _)
                      have HBc : Hid ((Wa.drewN nq).heap[gn]? = some (.cells #[.int .i64 C1, .int .i64 C2] 120 (0, 0))) := ((drewN_grown2 Wa nq none).block gn (Array.getElem?_eq_some_iff.1 HBa.out).1 (by simp)).trans HBa.out
                      clear k0 k1 k2 k3 k4 k5 k6 k7 m0 m1 m2 m3 HGa HBa
                      generalize Wa.drewN nq = Wc at HGc HBc ⊢
                      clear nq
                      obtain ⟨k0, k1, k2, k3, k4, k5, k6, k7, m0, m1, m2, m3⟩ := HC8.out Wc HGc.out
                      have n0 : Wc.cell? ⟨gn, 0, none⟩ = some (.int .i64 C1) := block_cell HBc.out rfl
                      have n1 : Wc.cell? ⟨gn, 1, none⟩ = some (.int .i64 C2) := block_cell HBc.out rfl
                      have z0 : Wc.frozen? ⟨gn, 0, none⟩ = false := block_frozen HBc.out
                      have z1 : Wc.frozen? ⟨gn, 1, none⟩ = false := block_frozen HBc.out
                      have lgn : gn < Wc.heap.size := (Array.getElem?_eq_some_iff.1 HBc.out).1
                      obtain ⟨Wd, hE⟩ : ∃ E, E = (Wc.setCell ⟨gn, 0, none⟩ (.int .i64 (-1))).setCell ⟨gn, 1, none⟩ (.int .i64 A2) := ⟨_, rfl⟩
                      have HE : Hid (Wd = (Wc.setCell ⟨gn, 0, none⟩ (.int .i64 (-1))).setCell ⟨gn, 1, none⟩ (.int .i64 A2)) := hE
                      have HGd : Hid (V8.grownBy Wd (some gn)) := (by rw [hE]; exact grown_two HGc.out (grown_two (set_grown _ _ _ _) (set_grown _ _ _ _)))
                      have HBd : Hid (Wd.heap[gn]? = some (.cells #[.int .i64 (-1), .int .i64 A2] 120 (0, 0))) := (by rw [hE]; exact st2_eq HBc.out _ _)
                      clear hE
                      go_wp2
                      rw [← HE.out]
                      clear n0 n1 z0 z1 lgn HE k0 k1 k2 k3 k4 k5 k6 k7 m0 m1 m2 m3 HGc HBc
                      obtain ⟨k0, k1, k2, k3, k4, k5, k6, k7, m0, m1, m2, m3⟩ := HC8.out Wd HGd.out
                      go_roundw
                      case rel => exact ⟨i + 1, by omega, by go_num, (by rw [HR9.out]; exact HBd.out), HGd.out⟩
                      case measure => simp only [intOf]; omega
                · by_cases e1 : p1 = q
                  · have HR9 : Hid (spP (lmF (P.take (i + 1)) q) = (B1, B2)) := (by rw [HNX.out, if_neg e2, if_pos e1]; exact HA.out.2.1 : spP (lmF (P.take (i + 1)) q) = (B1, B2))
                    have h2 := spP_neQ e2 hq4
                    rw [HA.out.2.1] at h2
                    simp only at h2
                    have x1 := HA.out.1
                    rw [e1, spP_low hq4] at x1
                    injection x1 with x1 x3
                    subst x1 x3
                    clear e1 e2
                    rcases h2 with h2 | ⟨h0, h2⟩
                    · skip
                      go_wp2
                      go_quiet (fail)
                      have HGa : Hid (V8.grownBy (W8.drewN nq) (some gn)) := grown_two HG8.out (drewN_grown2 _ _ _)
                      have HBa : Hid ((W8.drewN nq).heap[gn]? = some (.cells #[.int .i64 C1, .int .i64 C2] 120 (0, 0))) := ((drewN_grown2 W8 nq none).block gn (Array.getElem?_eq_some_iff.1 HB8.out).1 (by simp)).trans HB8.out
                      clear k0 k1 k2 k3 k4 k5 k6 k7 m0 m1 m2 m3 HG8 HB8
                      generalize W8.drewN nq = Wa at HGa HBa ⊢
                      clear nq
                      obtain ⟨k0, k1, k2, k3, k4, k5, k6, k7, m0, m1, m2, m3⟩ := HC8.out Wa HGa.out
                      have n0 : Wa.cell? ⟨gn, 0, none⟩ = some (.int .i64 C1) := block_cell HBa.out rfl
                      have n1 : Wa.cell? ⟨gn, 1, none⟩ = some (.int .i64 C2) := block_cell HBa.out rfl
                      have z0 : Wa.frozen? ⟨gn, 0, none⟩ = false := block_frozen HBa.out
                      have z1 : Wa.frozen? ⟨gn, 1, none⟩ = false := block_frozen HBa.out
                      have lgn : gn < Wa.heap.size := (Array.getElem?_eq_some_iff.1 HBa.out).1
                      obtain ⟨Wb, hE⟩ : ∃ E, E = (Wa.setCell ⟨gn, 0, none⟩ (.int .i64 B1)).setCell ⟨gn, 1, none⟩ (.int .i64 B2) := ⟨_, rfl⟩
                      have HE : Hid (Wb = (Wa.setCell ⟨gn, 0, none⟩ (.int .i64 B1)).setCell ⟨gn, 1, none⟩ (.int .i64 B2)) := hE
                      have HGb : Hid (V8.grownBy Wb (some gn)) := (by rw [hE]; exact grown_two HGa.out (grown_two (set_grown _ _ _ _) (set_grown _ _ _ _)))
                      have HBb : Hid (Wb.heap[gn]? = some (.cells #[.int .i64 B1, .int .i64 B2] 120 (0, 0))) := (by rw [hE]; exact st2_eq HBa.out _ _)
                      clear hE
                      go_upto_region 51 with (fail)
                      rw [← HE.out]
                      clear n0 n1 z0 z1 lgn HE k0 k1 k2 k3 k4 k5 k6 k7 m0 m1 m2 m3 HGa HBa
                      obtain ⟨k0, k1, k2, k3, k4, k5, k6, k7, m0, m1, m2, m3⟩ := HC8.out Wb HGb.out
                      go_wp2
                      go_quiet (fail)
                      have HGc : Hid (V8.grownBy (Wb.drewN nq) (some gn)) := grown_two HGb.out (drewN_grown2 _ _ _)
                      have HBc : Hid ((Wb.drewN nq).heap[gn]? = some (.cells #[.int .i64 B1, .int .i64 B2] 120 (0, 0))) := ((drewN_grown2 Wb nq none).block gn (Array.getElem?_eq_some_iff.1 HBb.out).1 (by simp)).trans HBb.out
                      clear k0 k1 k2 k3 k4 k5 k6 k7 m0 m1 m2 m3 HGb HBb
                      generalize Wb.drewN nq = Wc at HGc HBc ⊢
                      clear nq
                      obtain ⟨k0, k1, k2, k3, k4, k5, k6, k7, m0, m1, m2, m3⟩ := HC8.out Wc HGc.out
                      go_wp2
                      go_roundw
                      case rel => exact ⟨i + 1, by omega, by go_num, (by rw [HR9.out]; exact HBc.out), HGc.out⟩
                      case measure => simp only [intOf]; omega
                    · skip
                      subst h0
                      go_wp2
                      go_quiet (fail)
                      have HGa : Hid (V8.grownBy (W8.drewN nq) (some gn)) := grown_two HG8.out (drewN_grown2 _ _ _)
                      have HBa : Hid ((W8.drewN nq).heap[gn]? = some (.cells #[.int .i64 C1, .int .i64 C2] 120 (0, 0))) := ((drewN_grown2 W8 nq none).block gn (Array.getElem?_eq_some_iff.1 HB8.out).1 (by simp)).trans HB8.out
                      clear k0 k1 k2 k3 k4 k5 k6 k7 m0 m1 m2 m3 HG8 HB8
                      generalize W8.drewN nq = Wa at HGa HBa ⊢
                      clear nq
                      obtain ⟨k0, k1, k2, k3, k4, k5, k6, k7, m0, m1, m2, m3⟩ := HC8.out Wa HGa.out
                      have n0 : Wa.cell? ⟨gn, 0, none⟩ = some (.int .i64 C1) := block_cell HBa.out rfl
                      have n1 : Wa.cell? ⟨gn, 1, none⟩ = some (.int .i64 C2) := block_cell HBa.out rfl
                      have z0 : Wa.frozen? ⟨gn, 0, none⟩ = false := block_frozen HBa.out
                      have z1 : Wa.frozen? ⟨gn, 1, none⟩ = false := block_frozen HBa.out
                      have lgn : gn < Wa.heap.size := (Array.getElem?_eq_some_iff.1 HBa.out).1
                      obtain ⟨Wb, hE⟩ : ∃ E, E = (Wa.setCell ⟨gn, 0, none⟩ (.int .i64 (-1))).setCell ⟨gn, 1, none⟩ (.int .i64 B2) := ⟨_, rfl⟩
                      have HE : Hid (Wb = (Wa.setCell ⟨gn, 0, none⟩ (.int .i64 (-1))).setCell ⟨gn, 1, none⟩ (.int .i64 B2)) := hE
                      have HGb : Hid (V8.grownBy Wb (some gn)) := (by rw [hE]; exact grown_two HGa.out (grown_two (set_grown _ _ _ _) (set_grown _ _ _ _)))
                      have HBb : Hid (Wb.heap[gn]? = some (.cells #[.int .i64 (-1), .int .i64 B2] 120 (0, 0))) := (by rw [hE]; exact st2_eq HBa.out _ _)
                      clear hE
                      go_upto_region 51 with (fail)
                      rw [← HE.out]
                      clear n0 n1 z0 z1 lgn HE k0 k1 k2 k3 k4 k5 k6 k7 m0 m1 m2 m3 HGa HBa
                      obtain ⟨k0, k1, k2, k3, k4, k5, k6, k7, m0, m1, m2, m3⟩ := HC8.out Wb HGb.out
                      go_wp2
                      go_quiet (fail)
                      have HGc : Hid (V8.grownBy (Wb.drewN nq) (some gn)) := grown_two HGb.out (drewN_grown2 _ _ _)
                      have HBc : Hid ((Wb.drewN nq).heap[gn]? = some (.cells #[.int .i64 (-1), .int .i64 B2] 120 (0, 0))) := ((drewN_grown2 Wb nq none).block gn (Array.getElem?_eq_some_iff.1 HBb.out).1 (by simp)).trans HBb.out
                      clear k0 k1 k2 k3 k4 k5 k6 k7 m0 m1 m2 m3 HGb HBb
                      generalize Wb.drewN nq = Wc at HGc HBc ⊢
                      clear nq
                      obtain ⟨k0, k1, k2, k3, k4, k5, k6, k7, m0, m1, m2, m3⟩ := HC8.out Wc HGc.out
                      go_wp2
                      go_roundw
                      case rel => exact ⟨i + 1, by omega, by go_num, (by rw [HR9.out]; exact HBc.out), HGc.out⟩
                      case measure => simp only [intOf]; omega
                  · have HR9 : Hid (spP (lmF (P.take (i + 1)) q) = (C1, C2)) := (by rw [HNX.out, if_neg e2, if_neg e1]; exact HA.out.2.2 : spP (lmF (P.take (i + 1)) q) = (C1, C2))
                    have h1 := spP_neQ e1 hq4
                    rw [HA.out.1] at h1
                    simp only at h1
                    have h2 := spP_neQ e2 hq4
                    rw [HA.out.2.1] at h2
                    simp only at h2
                    clear e1 e2
                    rcases h1 with h1 | ⟨h0, h1⟩ <;> rcases h2 with h2 | ⟨h3, h2⟩ <;> (try subst h0) <;> (try subst h3) <;>
                    · skip
                      go_wp2
                      go_quiet (fail)
                      have HGa : Hid (V8.grownBy (W8.drewN nq) (some gn)) := grown_two HG8.out (drewN_grown2 _ _ _)
                      have HBa : Hid ((W8.drewN nq).heap[gn]? = some (.cells #[.int .i64 C1, .int .i64 C2] 120 (0, 0))) := ((drewN_grown2 W8 nq none).block gn (Array.getElem?_eq_some_iff.1 HB8.out).1 (by simp)).trans HB8.out
                      clear k0 k1 k2 k3 k4 k5 k6 k7 m0 m1 m2 m3 HG8 HB8
                      generalize W8.drewN nq = Wa at HGa HBa ⊢
                      clear nq
                      obtain ⟨k0, k1, k2, k3, k4, k5, k6, k7, m0, m1, m2, m3⟩ := HC8.out Wa HGa.out
                      go_wp2
                      go_quiet (fail)
                      have HGc : Hid (V8.grownBy (Wa.drewN nq) (some gn)) := grown_two HGa.out (drewN_grown2 _ _ _)
                      have HBc : Hid ((Wa.drewN nq).heap[gn]? = some (.cells #[.int .i64 C1, .int .i64 C2] 120 (0, 0))) := ((drewN_grown2 Wa nq none).block gn (Array.getElem?_eq_some_iff.1 HBa.out).1 (by simp)).trans HBa.out
                      clear k0 k1 k2 k3 k4 k5 k6 k7 m0 m1 m2 m3 HGa HBa
                      generalize Wa.drewN nq = Wc at HGc HBc ⊢
                      clear nq
                      obtain ⟨k0, k1, k2, k3, k4, k5, k6, k7, m0, m1, m2, m3⟩ := HC8.out Wc HGc.out
                      go_wp2
                      go_roundw
                      case rel => exact ⟨i + 1, by omega, by go_num, (by rw [HR9.out]; exact HBc.out), HGc.out⟩
                      case measure => simp only [intOf]; omega
              · obtain rfl : N = i := by omega
                have hall : lmF (P.take N) q = m := by rw [List.take_of_length_le (by rw [HN.out]; exact Nat.le_refl _)]; exact HLM.out
                rw [hall] at hx8
                have n0 : W8.cell? ⟨gn, 0, none⟩ = some (.int .i64 (spP m).1) := block_cell hx8.out rfl
                have n1 : W8.cell? ⟨gn, 1, none⟩ = some (.int .i64 (spP m).2) := block_cell hx8.out rfl
                have a0 : W8.cell? ⟨g7, 0, none⟩ = some (.int .i64 (-1)) := block_cell h78 rfl
                have a1 : W8.cell? ⟨g7, 1, none⟩ = some (.int .i64 (k : Nat)) := block_cell h78 rfl
                have z0 : W8.frozen? ⟨g7, 0, none⟩ = false := block_frozen h78
                have z1 : W8.frozen? ⟨g7, 1, none⟩ = false := block_frozen h78
                have lg7 : g7 < W8.heap.size := (Array.getElem?_eq_some_iff.1 h78).1
                obtain ⟨M, hM⟩ : ∃ M, spP m = M := ⟨_, rfl⟩
                have HX9 : Hid (((W8.setCell ⟨g7, 0, none⟩ (.int .i64 M.1)).setCell ⟨g7, 1, none⟩ (.int .i64 M.2)).heap[g7]? = some (.cells #[.int .i64 (spP m).1, .int .i64 (spP m).2] 120 (0, 0))) := (by rw [hM]; exact st2_eq h78 _ _)
                have HR9 : Hid (((W8.setCell ⟨g7, 0, none⟩ (.int .i64 M.1)).setCell ⟨g7, 1, none⟩ (.int .i64 M.2)).ownsRow gv 4 1 (.slice (some ⟨gv, 0, none⟩) 4 4) 4 (bools f1)) := hr8.kept (grown_two (set_grown _ g7 _ _) (set_grown _ _ _ _)) (Or.inr fun e => by have h1 : gv = g7 := Option.some.inj e; have := HGN8.out; omega)
                have HB9 : Hid (Below gv W6 ((W8.setCell ⟨g7, 0, none⟩ (.int .i64 M.1)).setCell ⟨g7, 1, none⟩ (.int .i64 M.2))) := h8.grown (grown_two (set_grown _ g7 _ _) (set_grown _ _ _ _)) (by have := HGN8.out; omega) (fun x hx => by have h1 : g7 = x := Option.some.inj hx; have := HGN8.out; omega)
                have HS9 : Hid (snM gv k ((W8.setCell ⟨g7, 0, none⟩ (.int .i64 M.1)).setCell ⟨g7, 1, none⟩ (.int .i64 M.2)) = 0) := snM_yes (by rw [HR9.out.cellAt k (by omega), bools_get f1 k (by rw [HF.out.2.1]; omega), HF.out.2.2.2.1])
                have hsg : (m < 4 ∧ M.1 < 0) ∨ (¬ m < 4 ∧ 0 ≤ M.1) := by
                  by_cases h : m < 4
                  · exact Or.inl ⟨h, by rw [← hM, spP_low h]; show (-1 : Int) < 0; decide⟩
                  · exact Or.inr ⟨h, by rw [← hM]; exact spP_hi (by omega)⟩
                rw [hM] at n0 n1
                obtain ⟨M1, M2⟩ := M
                simp only at n0 n1 hsg HX9 HR9 HB9 HS9
                clear hM hall hx8 hr8 h78 ht8 hcel h8
                rcases hsg with ⟨hs1, hs2⟩ | ⟨hs1, hs2⟩
                · have HDT : Hid (true = decide (m < 4)) := (decide_eq_true hs1).symm
                  clear hs1
                  go_wp2
                  go_roundw
                  case rel => exact ⟨true, m, f1, rfl, Or.inr ⟨rfl, rfl, HDT.out⟩, HR9.out, HX9.out, HB9.out⟩
                  case measure =>
                    show snM gv k _ < snM gv k W7
                    rw [HSM0.out, HS9.out]
                    omega
                · have HDT : Hid (false = decide (m < 4)) := (decide_eq_false hs1).symm
                  clear hs1
                  go_wp2
                  go_roundw
                  case rel => exact ⟨false, m, f1, congrArg Value.bool (decide_eq_false (by omega)), Or.inr ⟨rfl, rfl, HDT.out⟩, HR9.out, HX9.out, HB9.out⟩
                  case measure =>
                    show snM gv k _ < snM gv k W7
                    rw [HSM0.out, HS9.out]
                    omega
          · rw [e1] at hr7
            rw [e2] at hx7
            have s1 : W7.cell? ⟨gv, k, none⟩ = some (.bool true) := by rw [hr7.out.cellAt k (by omega), bools_get f1 k (by rw [HF.out.2.1]; omega), HF.out.2.2.2.1]
            by_cases hm4 : m < 4
            · have hmk : m = k := by have := HM.out; omega
              rw [decide_eq_true hm4] at e3
              rw [e3]
              rw [hmk, spP_low hkl] at hx7
              have a1 : W7.cell? ⟨g7, 1, none⟩ = some (.int .i64 (k : Nat)) := block_cell hx7.out rfl
              have HOX : Hid (OutAt W7 (gd + 1) gd (.slice a2 n c2) ((lk : Nat) : Int) CC) := HO6.out.onK HGV.out.2.2 HVK.out hb7.out
              have d1 : W7.cell? ⟨gd, 1, none⟩ = some (.int .i64 (lk : Nat)) := block_cell HOX.out.box rfl
              have d2 : W7.frozen? ⟨gd, 1, none⟩ = false := block_frozen HOX.out.box
              have d3 : gd < W7.heap.size := (Array.getElem?_eq_some_iff.1 HOX.out.box).1
              have HOZ : Hid (OutAt (W7.setCell ⟨gd, 1, none⟩ (.int .i64 ((lk : Int) + 1))) (gd + 1) gd (.slice a2 n c2) ((lk : Int) + 1) CC) := HOX.out.loopsT (Nat.lt_succ_self _) _
              have HRZ : Hid ((W7.setCell ⟨gd, 1, none⟩ (.int .i64 ((lk : Int) + 1))).ownsRow gv 4 1 (.slice (some ⟨gv, 0, none⟩) 4 4) 4 (bools f1)) := hr7.out.kept (set_grown _ _ _ _) (Or.inr fun e => by have h1 : gv = gd := Option.some.inj e; have := HGV.out; omega)
              have HBZ : Hid (Below Y.heap.size Y (W7.setCell ⟨gd, 1, none⟩ (.int .i64 ((lk : Int) + 1)))) := (hb6.out.trans (hb7.out.mono HGV.out.2.1)).grown (set_grown _ _ _ _) (by have := HGV.out; omega) (fun x hx => by have h1 : gd = x := Option.some.inj hx; have := HGD.out; omega)
              have HLZ : Hid (((loK P (k + 1) : Nat) : Int) = (lk : Int) + 1) := (by rw [HF1.out.2, HLO.out, if_pos hmk]; rfl : ((loK P (k + 1) : Nat) : Int) = (lk : Int) + 1)
              clear e1 e2 e3 hph hmk hm4
              go_wp2
              go_roundw
              case rel => exact ⟨k + 1, by omega, by go_num, by rw [HLZ.out]; exact HOZ.out, by rw [HF1.out.1]; exact HRZ.out, HBZ.out⟩
              case measure => simp only [intOf]; omega
            · rw [decide_eq_false hm4] at e3
              rw [e3]
              have HOX : Hid (OutAt W7 (gd + 1) gd (.slice a2 n c2) ((lk : Nat) : Int) CC) := HO6.out.onK HGV.out.2.2 HVK.out hb7.out
              have HLZ : Hid (loK P (k + 1) = lk) := (by rw [HF1.out.2, HLO.out, if_neg (by omega)]; rfl : loK P (k + 1) = lk)
              have HBZ : Hid (Below Y.heap.size Y W7) := hb6.out.trans (hb7.out.mono HGV.out.2.1)
              clear e1 e2 e3 hph hm4
              go_wp2
              go_roundw
              case rel => exact ⟨k + 1, by omega, by go_num, by rw [HLZ.out]; exact HOX.out, by rw [HF1.out.1]; exact hr7.out, HBZ.out⟩
              case measure => simp only [intOf]; omega
    · obtain rfl : k = 4 := by omega
      rw [loK_all] at ho6
      obtain ⟨lp, hlp⟩ : ∃ lp, loP P = lp := ⟨_, rfl⟩
      rw [hlp] at ho6
      have HLP : Hid (loP P = lp) := hlp
      obtain ⟨r1, -, r2⟩ := HBXX.out W6 hb6.out
      have t0 : W6.cell? ⟨gd, 0, none⟩ = some (.slice a2 n c2) := block_cell ho6.out.box rfl
      have t1 : W6.cell? ⟨gd, 1, none⟩ = some (.int .i64 (lp : Nat)) := block_cell ho6.out.box rfl
      have t2 : W6.cell? ⟨w.heap.size + 1, 0, none⟩ = some (.slice none 0 0) := block_cell r2 rfl
      have t3 : W6.cell? ⟨w.heap.size + 1, 1, none⟩ = some (.int .i64 0) := block_cell r2 rfl
      have f0 : W6.frozen? ⟨w.heap.size + 1, 0, none⟩ = false := block_frozen r2
      have f1 : W6.frozen? ⟨w.heap.size + 1, 1, none⟩ = false := block_frozen r2
      have l7 : gd < W6.heap.size := (Array.getElem?_eq_some_iff.1 ho6.out.box).1
      have l8 : w.heap.size + 1 < W6.heap.size := (Array.getElem?_eq_some_iff.1 r2).1
      have HBE : Hid (Below w.heap.size w W6) := r1
      have HRE : Hid (W6.heap[w.heap.size + 1]? = some (.cells #[.slice none 0 0, .int .i64 0] 24 (0, 0))) := r2
      have HOE : Hid (W6.ownsRow (gd + 1) 105 5 (.slice a2 n c2) CC.length (crossCells CC)) := ho6.out.row
      have HGW : Hid (w.heap.size + 2 ≤ gd) := (by have := HGD.out; have := HSY.out; omega : w.heap.size + 2 ≤ gd)
      clear r1 r2 hlp ho6 hr6 hb6
      go_wp2
      have hX := set_block (i := 1) (u := .int .i64 (lp : Nat)) (set_block (i := 0) (u := .slice a2 n c2) HRE.out)
      have x0 := block_cell (i := 0) (v := .slice a2 n c2) hX rfl
      have x1 := block_cell (i := 1) (v := .int .i64 (lp : Nat)) hX rfl
      have hgg := st2_grown W6 (w.heap.size + 1) 0 (.slice a2 n c2) (.int .i64 (lp : Nat))
      have hk' := HOE.out.kept hgg (by
        cases hv : (Value.slice a2 n c2).ownBlock with
        | none => exact Or.inl rfl
        | some k => exact Or.inr (fun e => by have h1 := (HOE.out.lt k hv).1; have h2 := Option.some.inj e; have := HGW.out; omega))
      rw [← HQ9.out]
      refine bodyPost_ret (v := .agg #[.slice a2 n c2, .int .i64 (lp : Nat)]) (by simp [results, Try.results90, go_sem, x0, x1]) rfl ?_
      have hlen : CC.length = n := HCC.out
      rw [hlen] at hk'
      rw [HCE.out, HLP.out]
      exact ⟨_, _, rfl, own_low hk' (by have := HGW.out; omega), HBE.out.grown hgg (by omega) (fun q hq => by have := Option.some.inj hq; omega)⟩
end Go.Proofs.Ytphhlflcghffbaa

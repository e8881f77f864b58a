/- Texts of a braid: the walks of braid.act and braid.Act. -/
import Derived.Test.YtdlmhcickcgnfaaBR7
namespace Go.Proofs.Ytdlmhcickcgnfaa
open Go.RowKit

/-- A list of numbers to be read, which does not lie in block g. -/
def RdX (W : World) (g : Nat) (v : Value) (n : Nat) (xs : List Value) : Prop := ∃ a c, v = .slice a n c ∧ (a = none → c = 0) ∧ (0 < n → ∃ b off, a = some ⟨b, off, none⟩ ∧ b < W.heap.size ∧ b ≠ g ∧ (∃ cs fz, W.heap[b]? = some (.cells cs 3 fz)) ∧ ∀ j, j < n → W.cell? ⟨b, off + j, none⟩ = xs[j]?)
theorem RdX.rd {W : World} {g n : Nat} {v : Value} {xs : List Value} (h : RdX W g v n xs) : RdAt W W.heap.size 1 v n xs := by
  obtain ⟨a, c, rfl, -, f⟩ := h
  refine ⟨a, c, rfl, fun h0 => ?_⟩
  obtain ⟨b, off, rfl, h1, -, -, h3⟩ := f h0
  exact ⟨b, off, rfl, h1, fun j hj => h3 j (by omega)⟩
theorem RdX.inn {W : World} {g n : Nat} {v : Value} {xs : List Value} (h : RdX W g v n xs) : InAt W W.heap.size 1 v n xs := by
  obtain ⟨a, c, rfl, h0, f⟩ := h
  cases n with
  | zero =>
    cases a with
    | none => rw [h0 rfl]; exact Or.inl ⟨rfl, rfl⟩
    | some ad => exact Or.inr (Or.inl ⟨ad, c, rfl, rfl⟩)
  | succ n =>
    obtain ⟨b, off, rfl, h1, -, -, h3⟩ := f (by omega)
    exact Or.inr (Or.inr ⟨b, off, c, rfl, h1, fun j hj => h3 j (by omega)⟩)
theorem RdX.grown {W W' : World} {g n : Nat} {v : Value} {xs : List Value} (h : RdX W g v n xs) (hg : W.grownBy W' (some g)) : RdX W' g v n xs := by
  obtain ⟨a, c, rfl, h0, f⟩ := h
  refine ⟨a, c, rfl, h0, fun h0 => ?_⟩
  obtain ⟨b, off, rfl, h1, h2, ⟨cs, fz, h4⟩, h3⟩ := f h0
  have hb := hg.block b h1 (fun e => h2 (Option.some.inj e))
  refine ⟨b, off, rfl, Nat.lt_of_lt_of_le h1 hg.size, h2, ⟨cs, fz, hb.trans h4⟩, fun j hj => ?_⟩
  rw [← h3 j hj]
  unfold World.cell?
  simp only []
  rw [hb]
theorem RdX.any {W W' : World} {g n : Nat} {v : Value} {xs : List Value} (h : RdX W g v n xs) (hg : W.grownBy W' none) : RdX W' g v n xs :=
  h.grown ⟨hg.os, hg.tape, hg.output, hg.size, fun k hk _ => hg.block k hk (by simp)⟩
/-- The list of texts has moved to another block. -/
theorem RdX.move {W : World} {g g' n : Nat} {v : Value} {xs : List Value} {cs : Array Value} {fz : Nat × Nat} (h : RdX W g v n xs) (hg : W.heap[g']? = some (.cells cs 22 fz)) : RdX W g' v n xs := by
  obtain ⟨a, c, rfl, h0, f⟩ := h
  refine ⟨a, c, rfl, h0, fun h0 => ?_⟩
  obtain ⟨b, off, rfl, h1, h2, ⟨cs', fz', h4⟩, h3⟩ := f h0
  refine ⟨b, off, rfl, h1, fun e => ?_, ⟨cs', fz', h4⟩, h3⟩
  rw [e, hg] at h4
  injection h4 with h5
  injection h5 with h6 h7
  exact absurd h7 (by decide)
theorem RdX.of_own {W : World} {B g n : Nat} {v : Value} {xs : List Value} (h : W.ownsRow B 3 1 v n xs) (hg : g < B) : RdX W g v n xs := by
  have h0 := h
  rcases h.2 with ⟨rfl, h1⟩ | ⟨q, cap, cur, rfl, hB, hq, _⟩
  · exact ⟨none, 0, by rw [h1], fun _ => rfl, fun hp => by omega⟩
  · exact ⟨some ⟨q, 0, none⟩, cap, rfl, (fun e => by cases e), fun _ => ⟨q, 0, rfl, (h0.lt q rfl).2, by omega, ⟨_, _, hq⟩, fun j hj => by rw [Nat.zero_add]; exact h0.cellAt j (by omega)⟩⟩
theorem RdX.of_box {W : World} {g q : Nat} {x : Int} (h : W.heap[q]? = some (.cells #[.int .i64 x] 3 (0, 0))) (hq : q ≠ g) : RdX W g (.slice (some ⟨q, 0, none⟩) 1 1) 1 (intsV [x]) := by
  refine ⟨_, _, rfl, (fun e => by cases e), fun _ => ⟨q, 0, rfl, (Array.getElem?_eq_some_iff.1 h).1, hq, ⟨_, _, h⟩, fun j hj => ?_⟩⟩
  obtain rfl : j = 0 := by omega
  exact block_cell h rfl
/-- Texts, the list of them a row of the call's own. -/
structure TxAt (W : World) (B g cap n : Nat) (T : List (List Int)) : Prop where
  ln : T.length = n
  out : ∃ ys : List Value, W.ownsRow B 22 1 (.slice (some ⟨g, 0, none⟩) n cap) n ys ∧ ∀ j, j < n → RdX W g (ys.getD j (.bool false)) (T.getD j []).length (intsV (T.getD j []))
theorem TxAt.any {W W' : World} {B g cap n : Nat} {T : List (List Int)} (h : TxAt W B g cap n T) (hg : W.grownBy W' none) : TxAt W' B g cap n T := by
  obtain ⟨ys, h1, h2⟩ := h.out
  exact ⟨h.ln, ys, own_any h1 hg, fun j hj => (h2 j hj).any hg⟩
theorem TxAt.lt {W : World} {B g cap n : Nat} {T : List (List Int)} (h : TxAt W B g cap n T) : B ≤ g ∧ g < W.heap.size := by
  obtain ⟨ys, h1, -⟩ := h.out
  exact h1.lt g rfl
theorem TxAt.frozen {W : World} {B g cap n : Nat} {T : List (List Int)} (h : TxAt W B g cap n T) (j : Nat) : W.frozen? ⟨g, j, none⟩ = false := by
  obtain ⟨ys, h1, -⟩ := h.out
  exact h1.frozenAt j
theorem TxAt.row {W : World} {B g cap n : Nat} {T : List (List Int)} (h : TxAt W B g cap n T) (j : Nat) (hj : j < n) : ∃ a c, W.cell? ⟨g, j, none⟩ = some (.slice a (T.getD j []).length c) ∧ RdX W g (.slice a (T.getD j []).length c) (T.getD j []).length (intsV (T.getD j [])) := by
  obtain ⟨ys, h1, h2⟩ := h.out
  have hr := h2 j hj
  obtain ⟨a, c, e, -⟩ := hr
  have hr := h2 j hj
  rw [e] at hr
  refine ⟨a, c, ?_, hr⟩
  rw [h1.cellAt j (by omega), ← e]
  have hl : j < ys.length := by rw [h1.1]; omega
  simp [List.getD, hl]
theorem getD_setV (ys : List Value) (i j : Nat) (v : Value) (h : i < ys.length) : (ys.set i v).getD j (.bool false) = if j = i then v else ys.getD j (.bool false) := by
  rw [List.getD_eq_getElem?_getD, List.getElem?_set]
  by_cases e : i = j
  · subst e; rw [if_pos rfl, if_pos h, if_pos rfl]; rfl
  · rw [if_neg e, if_neg (fun q => e q.symm), List.getD_eq_getElem?_getD]
/-- One text laid anew. -/
theorem TxAt.one {W : World} {B g cap n : Nat} {T : List (List Int)} (h : TxAt W B g cap n T) {i : Nat} (hi : i < n) {v : Value} {r : List Int} (hr : RdX W g v r.length (intsV r)) : TxAt (W.setCell ⟨g, i, none⟩ v) B g cap n (T.set i r) ∧ W.grownBy (W.setCell ⟨g, i, none⟩ v) (some g) := by
  obtain ⟨ys, h1, h2⟩ := h.out
  have hst := h1.stored i v
  have hl : i < ys.length := by rw [h1.1]; omega
  refine ⟨⟨by rw [List.length_set]; exact h.ln, ys.set i v, hst.1, fun j hj => ?_⟩, hst.2⟩
  rw [getD_setV _ _ _ _ hl, getD_setL]
  by_cases e : j = i
  · rw [if_pos e, if_pos ⟨e, by rw [h.ln]; exact hi⟩]; exact hr.grown hst.2
  · rw [if_neg e, if_neg (fun q => e q.1)]; exact (h2 j hj).grown hst.2
theorem TxAt.two {W : World} {B g cap n : Nat} {T : List (List Int)} (h : TxAt W B g cap n T) {i j : Nat} (hi : i < n) (hj : j < n) {u v : Value} {r s : List Int} (hr : RdX W g u r.length (intsV r)) (hs : RdX W g v s.length (intsV s)) : TxAt ((W.setCell ⟨g, j, none⟩ u).setCell ⟨g, i, none⟩ v) B g cap n ((T.set j r).set i s) ∧ W.grownBy ((W.setCell ⟨g, j, none⟩ u).setCell ⟨g, i, none⟩ v) (some g) := by
  obtain ⟨h1, h2⟩ := h.one hj hr
  obtain ⟨h3, h4⟩ := h1.one hi (hs.grown h2)
  exact ⟨h3, grown_trans h2 h4⟩
theorem TxAt.ints {W : World} {B g cap n : Nat} {T : List (List Int)} (h : TxAt W B g cap n T) : IntsRd W W.heap.size (.slice (some ⟨g, 0, none⟩) n cap) T := by
  obtain ⟨ys, h1, h2⟩ := h.out
  refine ⟨ys, by rw [h1.1, h.ln, Nat.mul_one], by rw [h.ln]; exact own_rd h1, fun j hj => (h2 j (by rw [← h.ln]; exact hj)).rd⟩
/-- Three texts in a row of their own. -/
theorem ints_three {W : World} {q : Nat} {va vb vc : Value} {a b c : List Int} (hq : W.heap[q]? = some (.cells #[va, vb, vc] 22 (0, 0))) (ha : RdAt W W.heap.size 1 va a.length (intsV a)) (hb : RdAt W W.heap.size 1 vb b.length (intsV b)) (hc : RdAt W W.heap.size 1 vc c.length (intsV c)) : IntsRd W W.heap.size (.slice (some ⟨q, 0, none⟩) 3 3) [a, b, c] := by
  refine ⟨[va, vb, vc], rfl, ⟨_, _, rfl, fun _ => ⟨q, 0, rfl, (Array.getElem?_eq_some_iff.1 hq).1, fun j hj => ?_⟩⟩, fun j hj => ?_⟩
  · have h3 : j = 0 ∨ j = 1 ∨ j = 2 := by simp at hj; omega
    rcases h3 with rfl | rfl | rfl
    · exact block_cell hq rfl
    · exact block_cell hq rfl
    · exact block_cell hq rfl
  · have h3 : j = 0 ∨ j = 1 ∨ j = 2 := by simp at hj; omega
    rcases h3 with rfl | rfl | rfl
    · exact ha
    · exact hb
    · exact hc
theorem three_all {p : List Int → Prop} {a b c : List Int} (ha : p a) (hb : p b) (hc : p c) (h0 : p []) : ∀ j, p ([a, b, c].getD j []) := by
  intro j
  match j with
  | 0 => exact ha
  | 1 => exact hb
  | 2 => exact hc
  | j + 3 => exact h0
/-- braid.product at three texts. -/
theorem product_three (q : Nat) (va vb vc : Value) (a b c : List Int) (w : World) (hq : w.heap[q]? = some (.cells #[va, vb, vc] 22 (0, 0))) (ha : RdAt w w.heap.size 1 va a.length (intsV a)) (hb : RdAt w w.heap.size 1 vb b.length (intsV b)) (hc : RdAt w w.heap.size 1 vc c.length (intsV c)) (M : Nat) (hM : M ≤ 3486784401) (la : a.length ≤ M) (lb : b.length ≤ M) (lc : c.length ≤ M) (sa : SmI a) (sb : SmI b) (sc : SmI c) (hr : RedP a) :
    Calls Try.prog 38 #[.slice (some ⟨q, 0, none⟩) 3 3] w fun e w' => ∃ a2 c2, e = .returned (.slice a2 (gl (gl a b) c).length c2) ∧ w'.ownsRow w.heap.size 3 1 (.slice a2 (gl (gl a b) c).length c2) (gl (gl a b) c).length (intsV (gl (gl a b) c)) ∧ Below w.heap.size w w' := by
  have h := product_any (.slice (some ⟨q, 0, none⟩) 3 3) [a, b, c] M w (by simp) hM (three_all (p := fun r => r.length ≤ M) la lb lc (Nat.zero_le _)) (three_all sa sb sc (fun i => by show -6 ≤ ([] : List Int).getD i 0 ∧ _; simp)) (ints_three hq ha hb hc)
  have e : prT [a, b, c] [a, b, c].length = gl (gl a b) c := by
    show gl (gl (gl [] a) b) c = _
    rw [gl_own hr]
  rw [e] at h
  refine h.mono fun e' w' => ?_
  rintro ⟨a2, n2, c2, h1, rfl, h3, h4⟩
  exact ⟨a2, c2, h1, h3, h4⟩
theorem grown_some {w w' : World} (g : Nat) (h : w.grownBy w' none) : w.grownBy w' (some g) := ⟨h.os, h.tape, h.output, h.size, fun k hk _ => h.block k hk (by simp)⟩

set_option maxHeartbeats 8000000 in
set_option maxRecDepth 100000 in
theorem brOne_any (B g cap n M : Nat) (T : List (List Int)) (x : Int) (w : World) (hn : n ≤ 6) (hM : M ≤ 3486784401) (hT : TxOk n M T) (hx0 : x ≠ 0) (hx : x.natAbs < n) (h : TxAt w B g cap n T) :
    Calls Try.prog 29 #[.slice (some ⟨g, 0, none⟩) n cap, .int .i64 x] w fun e w' => e = .returned (.tuple #[]) ∧ TxAt w' B g cap n (stp T x) ∧ w.grownBy w' (some g) := by
  have HSZ : Hid (∀ W, Calls Try.prog 35 #[.int .i64 x] W fun e w' => e = .returned (.int .i64 (x.natAbs : Int)) ∧ w' = W) := fun W => brSize_any x W (by omega) (by omega)
  obtain ⟨i, hi⟩ : ∃ i, x.natAbs = i := ⟨_, rfl⟩
  obtain ⟨j, hij⟩ : ∃ j, i = j + 1 := ⟨i - 1, by omega⟩
  rw [hi] at HSZ hx
  have HST : Hid (stp T x = if 0 < x then (T.set j (gl (gl (T.getD j []) (T.getD i [])) (rc (T.getD j [])))).set i (T.getD j []) else (T.set j (T.getD i [])).set i (gl (gl (rc (T.getD i [])) (T.getD j [])) (T.getD i []))) := (by unfold stp; rw [hi, show i - 1 = j by omega] : stp T x = if 0 < x then (T.set j (gl (gl (T.getD j []) (T.getD i [])) (rc (T.getD j [])))).set i (T.getD j []) else (T.set j (T.getD i [])).set i (gl (gl (rc (T.getD i [])) (T.getD j [])) (T.getD i [])))
  have HTX : Hid (TxAt w B g cap n T) := h
  obtain ⟨aa, ca, ea, ra⟩ := h.row j (by omega)
  obtain ⟨ab, cb, eb, rb⟩ := h.row i hx
  have HRA : Hid (RdX w g (.slice aa (T.getD j []).length ca) (T.getD j []).length (intsV (T.getD j []))) := ra
  have HRB : Hid (RdX w g (.slice ab (T.getD i []).length cb) (T.getD i []).length (intsV (T.getD i []))) := rb
  have HDA : Hid (RedP (T.getD j []) ∧ (T.getD j []).length ≤ M ∧ SmI (T.getD j [])) := ⟨hT.red j, hT.len j, hT.sm j⟩
  have HDB : Hid (RedP (T.getD i []) ∧ (T.getD i []).length ≤ M ∧ SmI (T.getD i [])) := ⟨hT.red i, hT.len i, hT.sm i⟩
  obtain ⟨a, hA⟩ : ∃ a, T.getD j [] = a := ⟨_, rfl⟩
  obtain ⟨b, hB⟩ : ∃ b, T.getD i [] = b := ⟨_, rfl⟩
  rw [hA] at HRA HDA HST ea
  rw [hB] at HRB HDB HST eb
  obtain ⟨lg1, lg2⟩ := h.lt
  have hiI : (i : Int) < (n : Int) := by omega
  have hjI : (j : Int) < (n : Int) := by omega
  have hjn : j < n := by omega
  have hne : j ≠ i := by omega
  have ew : IntKind.i64.wrap ((i : Int) - 1) = (j : Int) := by rw [IntWalk.i64_in _ (by omega)]; omega
  obtain ⟨la, hla⟩ : ∃ la, a.length = la := ⟨_, rfl⟩
  obtain ⟨lb, hlb⟩ : ∃ lb, b.length = lb := ⟨_, rfl⟩
  have HLA : Hid (a.length = la ∧ b.length = lb) := ⟨hla, hlb⟩
  rw [hla] at HRA ea
  rw [hlb] at HRB eb
  clear h ra rb hT hi hij hA hB hla hlb
  by_cases hp : 0 < x
  · rw [if_pos hp] at HST
    go_enter Try.func29, Try.ntmps29
    go_wp2_with (go_at_call 35; refine (HSZ.out _).mono ?_; rintro e9 w5 ⟨rfl, rfl⟩; refine Hid.out ?_)
    refine Lib.hid ?_
    clear HSZ
    go_wp2
    go_quiet (fail)
    have HGD : Hid (w5.grownBy (w5.drewN nq) none) := grown_below (below_drewN (Below.refl _ _) nq) none
    generalize w5.drewN nq = D at HGD ⊢
    have HTD : Hid (TxAt D B g cap n T) := HTX.out.any HGD.out
    have HAD : Hid (RdX D g (.slice aa la ca) la (intsV a)) := HRA.out.any HGD.out
    have HBD : Hid (RdX D g (.slice ab lb cb) lb (intsV b)) := HRB.out.any HGD.out
    clear ea eb HTX HRA HRB
    have HRC : Hid (Calls Try.prog 39 #[.slice aa la ca] D fun e w' => ∃ a2 c2, e = .returned (.slice a2 la c2) ∧ w'.ownsRow D.heap.size 3 1 (.slice a2 la c2) la (intsV (rc a)) ∧ Below D.heap.size D w') := (by
      have h1 := HLA.out.1
      have h2 := HAD.out.rd
      rw [← h1] at h2 ⊢
      exact reciprocal_any aa ca a D (by have := HDA.out.2.1; omega) HDA.out.2.2 h2)
    go_wp2_with (go_at_call 39; refine HRC.out.mono ?_; rintro e9 w7 ⟨a7, c7, rfl, hr7, hb7⟩; refine Hid.out ?_)
    refine Lib.hid ?_
    have HR7 : Hid (RdAt w7 w7.heap.size 1 (.slice a7 la c7) la (intsV (rc a))) := own_rd hr7
    have HG7 : Hid (D.grownBy w7 none) := grown_below hb7 none
    obtain ⟨q, hq⟩ : ∃ q, w7.heap.size = q := ⟨_, rfl⟩
    obtain ⟨V, hV⟩ : ∃ V, V = w7.alloc (.cells #[.slice aa la ca, .slice ab lb cb, .slice a7 la c7] 22) := ⟨_, rfl⟩
    have HV : Hid (V = w7.alloc (.cells #[.slice aa la ca, .slice ab lb cb, .slice a7 la c7] 22)) := hV
    have hgV : w7.grownBy V none := by rw [hV]; exact World.grownBy_alloc _ _ _
    have hbV : Below w7.heap.size w7 V := by rw [hV]; exact (Below.refl _ _).alloc (Nat.le_refl _) _
    have hqV : V.heap[q]? = some (.cells #[.slice aa la ca, .slice ab lb cb, .slice a7 la c7] 22 (0, 0)) := by rw [hV, ← hq]; exact alloc_at rfl
    have HTV : Hid (TxAt V B g cap n T) := (HTD.out.any HG7.out).any hgV
    have HAV : Hid (RdX V g (.slice aa la ca) la (intsV a)) := (HAD.out.any HG7.out).any hgV
    have HBV : Hid (RdX V g (.slice ab lb cb) lb (intsV b)) := (HBD.out.any HG7.out).any hgV
    have HDV : Hid (D.grownBy V none) := grown_trans HG7.out hgV
    obtain ⟨N, hN⟩ : ∃ N, (gl (gl a b) (rc a)).length = N := ⟨_, rfl⟩
    have HPV : Hid (Calls Try.prog 38 #[.slice (some ⟨q, 0, none⟩) 3 3] V fun e w' => ∃ a2 c2, e = .returned (.slice a2 N c2) ∧ w'.ownsRow V.heap.size 3 1 (.slice a2 N c2) N (intsV (gl (gl a b) (rc a))) ∧ Below V.heap.size V w') := (by
      have h1 := HLA.out
      have h2 : RdAt V V.heap.size 1 (.slice a7 la c7) la (intsV (rc a)) := (HR7.out.on hbV).mono hbV.size
      have h3 := HAV.out.rd
      have h4 := HBV.out.rd
      rw [← hN]
      exact product_three q _ _ _ a b (rc a) V hqV (by rw [h1.1]; exact h3) (by rw [h1.2]; exact h4) (by rw [rc_len, h1.1]; exact h2) M hM HDA.out.2.1 HDB.out.2.1 (by rw [rc_len]; exact HDA.out.2.1) HDA.out.2.2 HDB.out.2.2 (rc_sm HDA.out.2.2) HDA.out.1)
    have HNE : Hid ((gl (gl a b) (rc a)).length = N) := hN
    clear hV hgV hbV hqV hr7 hb7 HR7 HTD HAD HBD hN
    go_wp2_with (first | (rw [← HV.out]; go_at_call 38; refine HPV.out.mono ?_; rintro e9 w8 ⟨a8, c8, rfl, hr8, hb8⟩; refine Hid.out ?_))
    refine Lib.hid ?_
    have HG8 : Hid (V.grownBy w8 none) := grown_below hb8 none
    have HT8 : Hid (TxAt w8 B g cap n T) := HTV.out.any HG8.out
    have hR8 : RdX w8 g (.slice a8 N c8) N (intsV (gl (gl a b) (rc a))) := RdX.of_own hr8 HTV.out.lt.2
    have hA8 : RdX w8 g (.slice aa la ca) la (intsV a) := HAV.out.any HG8.out
    have hB8 : RdX w8 g (.slice ab lb cb) lb (intsV b) := HBV.out.any HG8.out
    obtain ⟨x1, x2, x3, -⟩ := HT8.out.row j hjn
    obtain ⟨y1, y2, y3, -⟩ := HT8.out.row i hx
    have z1 := HT8.out.frozen j
    have z2 := HT8.out.frozen i
    have lg8 := HT8.out.lt.2
    have HFN : Hid (TxAt ((w8.setCell ⟨g, j, none⟩ (.slice a8 N c8)).setCell ⟨g, i, none⟩ (.slice aa la ca)) B g cap n (stp T x) ∧ w8.grownBy ((w8.setCell ⟨g, j, none⟩ (.slice a8 N c8)).setCell ⟨g, i, none⟩ (.slice aa la ca)) (some g)) := (by
      rw [HST.out]
      have h1 := HLA.out
      exact HT8.out.two hx hjn (by rw [HNE.out]; exact hR8) (by rw [h1.1]; exact hA8))
    have HGG : Hid (w5.grownBy w8 (some g)) := grown_some g (grown_trans HGD.out (grown_trans HDV.out HG8.out))
    clear hr8 hb8 hR8 hA8 hB8 HTV HAV HBV HPV HRC
    generalize (T.getD j []).length = e1 at x3
    generalize (T.getD i []).length = e2 at y3
    go_wp2
    exact bodyPost_end (v := .tuple #[]) (results_none rfl _ _ _) rfl ⟨rfl, HFN.out.1, grown_trans HGG.out HFN.out.2⟩
  · rw [if_neg hp] at HST
    go_enter Try.func29, Try.ntmps29
    go_wp2_with (go_at_call 35; refine (HSZ.out _).mono ?_; rintro e9 w5 ⟨rfl, rfl⟩; refine Hid.out ?_)
    refine Lib.hid ?_
    clear HSZ
    go_wp2
    go_quiet (fail)
    have HGD : Hid (w5.grownBy (w5.drewN nq) none) := grown_below (below_drewN (Below.refl _ _) nq) none
    generalize w5.drewN nq = D at HGD ⊢
    have HTD : Hid (TxAt D B g cap n T) := HTX.out.any HGD.out
    have HAD : Hid (RdX D g (.slice aa la ca) la (intsV a)) := HRA.out.any HGD.out
    have HBD : Hid (RdX D g (.slice ab lb cb) lb (intsV b)) := HRB.out.any HGD.out
    clear ea eb HTX HRA HRB
    have HRC : Hid (Calls Try.prog 39 #[.slice ab lb cb] D fun e w' => ∃ a2 c2, e = .returned (.slice a2 lb c2) ∧ w'.ownsRow D.heap.size 3 1 (.slice a2 lb c2) lb (intsV (rc b)) ∧ Below D.heap.size D w') := (by
      have h1 := HLA.out.2
      have h2 := HBD.out.rd
      rw [← h1] at h2 ⊢
      exact reciprocal_any ab cb b D (by have := HDB.out.2.1; omega) HDB.out.2.2 h2)
    go_wp2_with (go_at_call 39; refine HRC.out.mono ?_; rintro e9 w7 ⟨a7, c7, rfl, hr7, hb7⟩; refine Hid.out ?_)
    refine Lib.hid ?_
    have HR7 : Hid (RdAt w7 w7.heap.size 1 (.slice a7 lb c7) lb (intsV (rc b))) := own_rd hr7
    have HG7 : Hid (D.grownBy w7 none) := grown_below hb7 none
    obtain ⟨q, hq⟩ : ∃ q, w7.heap.size = q := ⟨_, rfl⟩
    obtain ⟨V, hV⟩ : ∃ V, V = w7.alloc (.cells #[.slice a7 lb c7, .slice aa la ca, .slice ab lb cb] 22) := ⟨_, rfl⟩
    have HV : Hid (V = w7.alloc (.cells #[.slice a7 lb c7, .slice aa la ca, .slice ab lb cb] 22)) := hV
    have hgV : w7.grownBy V none := by rw [hV]; exact World.grownBy_alloc _ _ _
    have hbV : Below w7.heap.size w7 V := by rw [hV]; exact (Below.refl _ _).alloc (Nat.le_refl _) _
    have hqV : V.heap[q]? = some (.cells #[.slice a7 lb c7, .slice aa la ca, .slice ab lb cb] 22 (0, 0)) := by rw [hV, ← hq]; exact alloc_at rfl
    have HTV : Hid (TxAt V B g cap n T) := (HTD.out.any HG7.out).any hgV
    have HAV : Hid (RdX V g (.slice aa la ca) la (intsV a)) := (HAD.out.any HG7.out).any hgV
    have HBV : Hid (RdX V g (.slice ab lb cb) lb (intsV b)) := (HBD.out.any HG7.out).any hgV
    have HDV : Hid (D.grownBy V none) := grown_trans HG7.out hgV
    obtain ⟨N, hN⟩ : ∃ N, (gl (gl (rc b) a) b).length = N := ⟨_, rfl⟩
    have HPV : Hid (Calls Try.prog 38 #[.slice (some ⟨q, 0, none⟩) 3 3] V fun e w' => ∃ a2 c2, e = .returned (.slice a2 N c2) ∧ w'.ownsRow V.heap.size 3 1 (.slice a2 N c2) N (intsV (gl (gl (rc b) a) b)) ∧ Below V.heap.size V w') := (by
      have h1 := HLA.out
      have h2 : RdAt V V.heap.size 1 (.slice a7 lb c7) lb (intsV (rc b)) := (HR7.out.on hbV).mono hbV.size
      have h3 := HAV.out.rd
      have h4 := HBV.out.rd
      rw [← hN]
      exact product_three q _ _ _ (rc b) a b V hqV (by rw [rc_len, h1.2]; exact h2) (by rw [h1.1]; exact h3) (by rw [h1.2]; exact h4) M hM (by rw [rc_len]; exact HDB.out.2.1) HDA.out.2.1 HDB.out.2.1 (rc_sm HDB.out.2.2) HDA.out.2.2 HDB.out.2.2 (rc_red HDB.out.1))
    have HNE : Hid ((gl (gl (rc b) a) b).length = N) := hN
    clear hV hgV hbV hqV hr7 hb7 HR7 HTD HAD HBD hN
    go_wp2_with (first | (rw [← HV.out]; go_at_call 38; refine HPV.out.mono ?_; rintro e9 w8 ⟨a8, c8, rfl, hr8, hb8⟩; refine Hid.out ?_))
    refine Lib.hid ?_
    have HG8 : Hid (V.grownBy w8 none) := grown_below hb8 none
    have HT8 : Hid (TxAt w8 B g cap n T) := HTV.out.any HG8.out
    have hR8 : RdX w8 g (.slice a8 N c8) N (intsV (gl (gl (rc b) a) b)) := RdX.of_own hr8 HTV.out.lt.2
    have hA8 : RdX w8 g (.slice aa la ca) la (intsV a) := HAV.out.any HG8.out
    have hB8 : RdX w8 g (.slice ab lb cb) lb (intsV b) := HBV.out.any HG8.out
    obtain ⟨x1, x2, x3, -⟩ := HT8.out.row j hjn
    obtain ⟨y1, y2, y3, -⟩ := HT8.out.row i hx
    have z1 := HT8.out.frozen j
    have z2 := HT8.out.frozen i
    have lg8 := HT8.out.lt.2
    have HFN : Hid (TxAt ((w8.setCell ⟨g, j, none⟩ (.slice ab lb cb)).setCell ⟨g, i, none⟩ (.slice a8 N c8)) B g cap n (stp T x) ∧ w8.grownBy ((w8.setCell ⟨g, j, none⟩ (.slice ab lb cb)).setCell ⟨g, i, none⟩ (.slice a8 N c8)) (some g)) := (by
      rw [HST.out]
      have h1 := HLA.out
      exact HT8.out.two hx hjn (by rw [h1.2]; exact hB8) (by rw [HNE.out]; exact hR8))
    have HGG : Hid (w5.grownBy w8 (some g)) := grown_some g (grown_trans HGD.out (grown_trans HDV.out HG8.out))
    clear hr8 hb8 hR8 hA8 hB8 HTV HAV HBV HPV HRC
    generalize (T.getD j []).length = e1 at x3
    generalize (T.getD i []).length = e2 at y3
    go_wp2
    exact bodyPost_end (v := .tuple #[]) (results_none rfl _ _ _) rfl ⟨rfl, HFN.out.1, grown_trans HGG.out HFN.out.2⟩
end Go.Proofs.Ytdlmhcickcgnfaa

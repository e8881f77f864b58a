/- Several texts of the proof, one behind the other. -/
import Derived.Test.YtlimfajjmhfnaaaGreatDoorC8
import Derived.Test.YtlimfajjmhfnaaaGreatDoorC10
import Derived.Test.YtlimfajjmhfnaaaGreatDoorS2
/- Where canon.canonical stands. -/
namespace Go.Proofs.YtlimfajjmhfnaaaGreatDoor
open Go.RowKit Go.Maps

/-- The crossings of a list, their arcs numbered as they come. -/
def canGo (C : List Cr) : List Nat → List Nat → List Cr
  | _, [] => []
  | F, c :: os => canX F (C.getD c Cr.none) :: canGo C (addN F (C.getD c Cr.none) 4) os
def canF (C : List Cr) : List Nat → List Nat → List Nat
  | F, [] => F
  | F, c :: os => canF C (addN F (C.getD c Cr.none) 4) os
theorem canGo_len (C : List Cr) (F os : List Nat) : (canGo C F os).length = os.length := by
  induction os generalizing F with
  | nil => rfl
  | cons c os ih => simp [canGo, ih]
theorem canF_len (C : List Cr) (F os : List Nat) : (canF C F os).length ≤ F.length + 4 * os.length := by
  induction os generalizing F with
  | nil => simp [canF]
  | cons c os ih =>
    have h1 := ih (addN F (C.getD c Cr.none) 4)
    have h2 := addN_len F (C.getD c Cr.none) 4
    simp only [canF, List.length_cons]
    omega
theorem canGo_snoc (C : List Cr) (F os : List Nat) (c : Nat) : canGo C F (os ++ [c]) = canGo C F os ++ [canX (canF C F os) (C.getD c Cr.none)] := by
  induction os generalizing F with
  | nil => rfl
  | cons d os ih => simp [canGo, canF, ih]
theorem canF_snoc (C : List Cr) (F os : List Nat) (c : Nat) : canF C F (os ++ [c]) = addN (canF C F os) (C.getD c Cr.none) 4 := by
  induction os generalizing F with
  | nil => rfl
  | cons d os ih => simp [canF, ih]
structure CaAt (w : World) (D0 : Array Value) (loops : Int) (gL n : Nat) (vals : Nat → Value × Value) (L : Nat → List Nat) (σ F : List Nat) (acc : List Cr) (v : Value) (W : World) : Prop where
  out : OutAt W (w.heap.size + 5) (w.heap.size + 2) v loops acc
  map : MapA W (w.heap.size + 3) F
  dra : W.heap[w.heap.size]? = some (.cells D0 48 (0, 0))
  res : W.heap[w.heap.size + 1]? = some (.cells #[.slice none 0 0, .int .i64 0] 24 (0, 0))
  var : W.heap[w.heap.size + 4]? = some (.cells #[.map (some (w.heap.size + 3))] 86 (0, 0))
  row : W.ownsRow (w.heap.size + 5) 91 2 (.slice (some ⟨gL, 0, none⟩) n n) n (tvs vals σ)
  ord : ∀ p, W.ownsRow (w.heap.size + 5) 3 1 (vals p).1 (L p).length (nats (L p))
  bel : Below w.heap.size w W
section
variable {w : World} {D0 : Array Value} {loops : Int} {gL n : Nat} {vals : Nat → Value × Value} {L : Nat → List Nat} {σ F : List Nat} {acc : List Cr} {v : Value} {W : World}
theorem CaAt.sz (h : CaAt w D0 loops gL n vals L σ F acc v W) : w.heap.size + 5 ≤ W.heap.size := (Array.getElem?_eq_some_iff.1 h.var).1
theorem CaAt.any {W' : World} (h : CaAt w D0 loops gL n vals L σ F acc v W) (hg : W.grownBy W' none) : CaAt w D0 loops gL n vals L σ F acc v W' := by
  have hs := h.sz
  exact ⟨⟨(hg.block _ (by omega) (by simp)).trans h.out.box, own_any h.out.row hg⟩, h.map.kept hg (by simp), (hg.block _ (by omega) (by simp)).trans h.dra, (hg.block _ (by omega) (by simp)).trans h.res, (hg.block _ (by omega) (by simp)).trans h.var, own_any h.row hg, fun p => own_any (h.ord p) hg, h.bel.grown hg h.bel.size (fun q hq => by cases hq)⟩
theorem CaAt.call {W' : World} {F' : List Nat} (h : CaAt w D0 loops gL n vals L σ F acc v W) (hg : W.grownBy W' (some (w.heap.size + 3))) (hM : MapA W' (w.heap.size + 3) F') : CaAt w D0 loops gL n vals L σ F' acc v W' := by
  have hs := h.sz
  have hlow : ∀ {e s k : Nat} {u : Value} {xs : List Value}, W.ownsRow (w.heap.size + 5) e s u k xs → u.ownBlock = none ∨ u.ownBlock ≠ some (w.heap.size + 3) := fun ho => Or.inr (fun e => by have := (ho.lt _ e).1; omega)
  exact ⟨⟨(hg.block _ (by omega) (fun e => by have := Option.some.inj e; omega)).trans h.out.box, h.out.row.kept hg (hlow h.out.row)⟩, hM, (hg.block _ (by omega) (fun e => by have := Option.some.inj e; omega)).trans h.dra, (hg.block _ (by omega) (fun e => by have := Option.some.inj e; omega)).trans h.res, (hg.block _ (by omega) (fun e => by have := Option.some.inj e; omega)).trans h.var, h.row.kept hg (hlow h.row), fun p => (h.ord p).kept hg (hlow (h.ord p)), h.bel.grown hg h.bel.size (fun q hq => by have := Option.some.inj hq; omega)⟩
theorem CaAt.app {w8 : World} {v8 : Value} {x : Cr} {o : Obj} (h : CaAt w D0 loops gL n vals L σ F acc v W) (hown8 : w8.ownsRow (w.heap.size + 5) 33 5 v8 (acc.length + 1) (crossCells acc ++ crossCells [x])) (hg8 : (W.alloc o).grownBy w8 v.ownBlock) :
    CaAt w D0 loops gL n vals L σ F (acc ++ [x]) v8 (w8.setCell ⟨w.heap.size + 2, 0, none⟩ v8) := by
  have hs := h.sz
  have hS := set_grown w8 (w.heap.size + 2) 0 v8
  have hs8 := hg8.size
  simp only [World.size_alloc] at hs8
  have hvne : ∀ k, k < w.heap.size + 5 → some k ≠ v.ownBlock := fun k hk e => by have := (h.out.row.lt k e.symm).1; omega
  have hnone : W.grownBy (W.alloc o) none := World.grownBy_alloc _ _ _
  have hrow : ∀ {e s k : Nat} {u : Value} {xs : List Value}, W.ownsRow (w.heap.size + 5) e s u k xs → e ≠ 33 → (w8.setCell ⟨w.heap.size + 2, 0, none⟩ v8).ownsRow (w.heap.size + 5) e s u k xs := fun ho he => by
    have h1 := own_any ho hnone
    have h2 := h1.kept hg8 (own_ne h1 (own_any h.out.row hnone) he)
    exact h2.kept hS (Or.inr (fun e => by have := (h2.lt _ e).1; omega))
  exact ⟨h.out.app (by omega) rfl hown8 hg8, (((h.map.kept hnone (by simp)).kept hg8 (fun e => hvne _ (by omega) e.symm))).kept hS (fun e => by have := Option.some.inj e; omega), h.out.other h.dra (by omega) (by omega) hg8, h.out.other h.res (by omega) (by omega) hg8, h.out.other h.var (by omega) (by omega) hg8, hrow h.row (by decide), fun p => hrow (h.ord p) (by decide), h.out.below h.bel (by omega) (by omega) (by omega) hg8⟩
end
end Go.Proofs.YtlimfajjmhfnaaaGreatDoor
/- The walk of canon.canonical. -/
namespace Go.Proofs.YtlimfajjmhfnaaaGreatDoor
open Go.RowKit Go.Maps

/-- The crossings of the first j lists, and of the next one the first i. -/
def preO (L : Nat → List Nat) (σ : List Nat) (j i : Nat) : List Nat := ((σ.take j).map L).flatten ++ (L (σ.getD j 0)).take i
theorem preO_next (L : Nat → List Nat) (σ : List Nat) (j i : Nat) (hi : i < (L (σ.getD j 0)).length) : preO L σ j (i + 1) = preO L σ j i ++ [(L (σ.getD j 0)).getD i 0] := by
  unfold preO
  generalize L (σ.getD j 0) = l at hi
  rw [List.append_assoc, List.take_add_one, List.getD_eq_getElem?_getD, List.getElem?_eq_getElem hi]
  rfl
theorem preO_row (L : Nat → List Nat) (σ : List Nat) (j : Nat) (hj : j < σ.length) : preO L σ j (L (σ.getD j 0)).length = preO L σ (j + 1) 0 := by
  unfold preO
  rw [List.take_length, List.take_zero, List.append_nil, List.take_add_one, List.getElem?_eq_getElem hj, List.map_append, List.flatten_append]
  simp [List.getD, hj]
theorem preO_len (L : Nat → List Nat) (σ : List Nat) (m j i : Nat) (h : ∀ p, (L p).length ≤ m) : (preO L σ j i).length ≤ m * j + m := by
  unfold preO
  have h1 : ∀ l : List Nat, ((l.map L).flatten).length ≤ m * l.length := fun l => by
    induction l with
    | nil => simp
    | cons x l ih => simp only [List.map_cons, List.flatten_cons, List.length_append, List.length_cons, Nat.mul_add]; have := h x; omega
  have h2 := h1 (σ.take j)
  have h3 := h (σ.getD j 0)
  have h4 : (σ.take j).length ≤ j := by simp; omega
  have h5 := Nat.mul_le_mul_left m h4
  simp only [List.length_append, List.length_take]
  omega
theorem leT_few {C : List Cr} {loops : Int} (hm : mayD C loops = true) (P : List Int) (p k : Nat) (hk : k ≤ C.length) : (leT C P p k).1.length ≤ 16 ∧ ∀ x ∈ (leT C P p k).1, x < C.length := by
  obtain ⟨s1, -, -, -⟩ := sizeB_iff (may_size hm)
  induction k with
  | zero => simp [leT]
  | succ k ih =>
    rw [leT]
    split
    · have h := teI_ok (C := C) hm (first := k) (by omega) C.length
      exact ⟨by have := h.few; unfold te; omega, h.lt⟩
    · exact ih (by omega)
/-- What canon.canonical hands back. -/
def CanonOut (C : List Cr) (loops : Int) (w : World) (e : Ending) (w' : World) : Prop := ∃ (v : Value) (n : Nat) (P : List Int) (σ : List Nat), e = .returned (.agg #[v, .int .i64 loops]) ∧ PcsAll C P n ∧ σ.Perm (List.range n) ∧ SortedT (fun p => leT C P p C.length) σ ∧ w'.ownsRow w.heap.size 33 5 v (canGo C [] ((σ.map fun p => (leT C P p C.length).1).flatten)).length (crossCells (canGo C [] ((σ.map fun p => (leT C P p C.length).1).flatten))) ∧ Below w.heap.size w w'

set_option maxHeartbeats 8000000 in
set_option maxRecDepth 100000 in
theorem canonical_any (a : Option Addr) (cap : Nat) (C : List Cr) (loops : Int) (gF cF gT cT : Nat) (w : World) (hm : mayD C loops = true) (hD : Dr w a cap C gF gT) :
    Calls Tryz.prog 19 #[drV a cap C loops gF cF gT cT] w fun e w' => CanonOut C loops w e w' := by
  obtain ⟨s1, -, -, -⟩ := sizeB_iff (may_size hm)
  obtain ⟨i0, hi, hz0, hz1, hz2⟩ := info_parts infoCross
  have HM : Hid (mayD C loops = true) := hm
  have HLT : Hid (∀ W, Below w.heap.size w W → Calls Tryz.prog 36 #[.agg #[.slice a C.length cap, .int .i64 loops, .slice (some ⟨gF, 0, none⟩) (2 * C.length + 1) cF, .slice (some ⟨gT, 0, none⟩) (2 * C.length + 1) cT]] W fun e w' => LeastOut C W e w') := fun W hW => leastT_any a cap C loops gF cF gT cT W hm (hD.on hW)
  have HCR : Hid (∀ W, Below w.heap.size w W → 0 < C.length → ∃ b off, a = some ⟨b, off, none⟩ ∧ b < W.heap.size ∧ CrossAt W b off C) := fun W hW h0 => by
    obtain ⟨b, off, ea, hbw, hC⟩ := hD.cross h0
    exact ⟨b, off, ea, Nat.lt_of_lt_of_le hbw hW.size, hC.on hW hbw⟩
  unfold drV
  obtain ⟨w1, hw1⟩ : ∃ w1, w1 = ((((w.alloc (.cells #[.slice a C.length cap, .int .i64 loops, .slice (some ⟨gF, 0, none⟩) (2 * C.length + 1) cF, .slice (some ⟨gT, 0, none⟩) (2 * C.length + 1) cT] 48)).alloc (.cells #[.slice none 0 0, .int .i64 0] 24)).alloc (.cells #[.slice none 0 0, .int .i64 loops] 24)).alloc (.map #[] 0)).alloc (.cells #[.map (some (w.heap.size + 3))] 86) := ⟨_, rfl⟩
  have hmm := makeMapN
  have HW1 : Hid (w1 = ((((w.alloc (.cells #[.slice a C.length cap, .int .i64 loops, .slice (some ⟨gF, 0, none⟩) (2 * C.length + 1) cF, .slice (some ⟨gT, 0, none⟩) (2 * C.length + 1) cT] 48)).alloc (.cells #[.slice none 0 0, .int .i64 0] 24)).alloc (.cells #[.slice none 0 0, .int .i64 loops] 24)).alloc (.map #[] 0)).alloc (.cells #[.map (some (w.heap.size + 3))] 86)) := hw1
  have hs1 : w1.heap.size = w.heap.size + 5 := by rw [hw1]; simp
  have HB1 : Hid (Below w.heap.size w w1) := (by rw [hw1]; exact ((below3 _ _ _ _).alloc (by simp; omega) _).alloc (by simp; omega) _ : Below w.heap.size w w1)
  have k0 : w1.heap[w.heap.size]? = some (.cells #[.slice a C.length cap, .int .i64 loops, .slice (some ⟨gF, 0, none⟩) (2 * C.length + 1) cF, .slice (some ⟨gT, 0, none⟩) (2 * C.length + 1) cT] 48 (0, 0)) := by rw [hw1]; exact alloc_old (alloc_old (alloc_old (alloc_old (alloc_at rfl))))
  have k1 : w1.heap[w.heap.size + 1]? = some (.cells #[.slice none 0 0, .int .i64 0] 24 (0, 0)) := by rw [hw1]; exact alloc_old (alloc_old (alloc_old (alloc_at (by simp))))
  have k2 : w1.heap[w.heap.size + 2]? = some (.cells #[.slice none 0 0, .int .i64 loops] 24 (0, 0)) := by rw [hw1]; exact alloc_old (alloc_old (alloc_at (by simp)))
  have k4 : w1.heap[w.heap.size + 4]? = some (.cells #[.map (some (w.heap.size + 3))] 86 (0, 0)) := by rw [hw1]; exact alloc_at (by simp)
  have hM0 : MapA w1 (w.heap.size + 3) [] := by
    rw [hw1]
    have h0 : OwnM ((((w.alloc (.cells #[.slice a C.length cap, .int .i64 loops, .slice (some ⟨gF, 0, none⟩) (2 * C.length + 1) cF, .slice (some ⟨gT, 0, none⟩) (2 * C.length + 1) cT] 48)).alloc (.cells #[.slice none 0 0, .int .i64 0] 24)).alloc (.cells #[.slice none 0 0, .int .i64 loops] 24)).alloc (.map #[] 0)) (w.heap.size + 3) 0 (.map [] : DataW Unit) := by
      have := World.ownsMap_made (H := Unit) ((((w.alloc (.cells #[.slice a C.length cap, .int .i64 loops, .slice (some ⟨gF, 0, none⟩) (2 * C.length + 1) cF, .slice (some ⟨gT, 0, none⟩) (2 * C.length + 1) cT] 48)).alloc (.cells #[.slice none 0 0, .int .i64 0] 24)).alloc (.cells #[.slice none 0 0, .int .i64 loops] 24))) Tryz.prog 3 (plainElem Tryz.prog 3)
      simp only [World.size_alloc] at this
      exact this
    exact MapA.kept ⟨0, _, h0, Nat.le_refl _, ⟨rfl, fun x => ⟨by simp [Maps.has], fun h => by cases h⟩⟩⟩ (World.grownBy_alloc _ _ none) (by simp)
  have HCA1 : Hid (OutAt w1 (w.heap.size + 5) (w.heap.size + 2) (.slice none 0 0) loops [] ∧ MapA w1 (w.heap.size + 3) [] ∧ w1.heap[w.heap.size]? = some (.cells #[.slice a C.length cap, .int .i64 loops, .slice (some ⟨gF, 0, none⟩) (2 * C.length + 1) cF, .slice (some ⟨gT, 0, none⟩) (2 * C.length + 1) cT] 48 (0, 0)) ∧ w1.heap[w.heap.size + 1]? = some (.cells #[.slice none 0 0, .int .i64 0] 24 (0, 0)) ∧ w1.heap[w.heap.size + 4]? = some (.cells #[.map (some (w.heap.size + 3))] 86 (0, 0))) := ⟨OutAt.nil k2, hM0, k0, k1, k4⟩
  have t0 : w1.cell? ⟨w.heap.size, 0, none⟩ = some (.slice a C.length cap) := block_cell k0 rfl
  have t1 : w1.cell? ⟨w.heap.size, 1, none⟩ = some (.int .i64 loops) := block_cell k0 rfl
  have t2 : w1.cell? ⟨w.heap.size, 2, none⟩ = some (.slice (some ⟨gF, 0, none⟩) (2 * C.length + 1) cF) := block_cell k0 rfl
  have t3 : w1.cell? ⟨w.heap.size, 3, none⟩ = some (.slice (some ⟨gT, 0, none⟩) (2 * C.length + 1) cT) := block_cell k0 rfl
  have HS1 : Hid (w1.heap.size = w.heap.size + 5) := hs1
  have hl1 : w.heap.size < w1.heap.size := by omega
  clear hm hD hw1 hs1 k0 k1 k2 k4 hM0
  go_enter Tryz.func19, Tryz.ntmps19
  go_upto_region 4 with (fail)
  rw [show w.heap.size + 1 + 1 + 1 + 1 = w.heap.size + 4 from rfl, show w.heap.size + 1 + 1 + 1 = w.heap.size + 3 from rfl, show w.heap.size + 1 + 1 = w.heap.size + 2 from rfl, ← HW1.out]
  clear hmm
  go_wp2_with (go_at_call 36; refine (HLT.out _ HB1.out).mono ?_; rintro e9 w2 ⟨gL, n, P, vals, σ, rfl, hpc, hσ1, hσ2, hrow, hord, hsh, hb2⟩; refine Hid.out ?_)
  refine Lib.hid ?_
  have hs1 := HS1.out
  have hs2 := hb2.size
  have HPC : Hid (PcsAll C P n) := hpc
  have HS : Hid (σ.Perm (List.range n) ∧ SortedT (fun p => leT C P p C.length) σ) := ⟨hσ1, hσ2⟩
  have HSH : Hid (∀ p, ∃ a k c, (vals p).2 = .slice a k c) := hsh
  have hnC := hpc.few
  have hσl : σ.length = n := by have := hσ1.length_eq; simpa using this
  have HSL : Hid (σ.length = n) := hσl
  have HFW : Hid (∀ p, (leT C P p C.length).1.length ≤ 16 ∧ ∀ x ∈ (leT C P p C.length).1, x < C.length) := fun p => leT_few HM.out P p C.length (Nat.le_refl _)
  have HPL : Hid (∀ j i, j ≤ n → ((preO (fun p => (leT C P p C.length).1) σ j i)).length ≤ 16 * j + 16) := fun j i _ => preO_len _ _ _ _ _ (fun p => (HFW.out p).1)
  have HC2 : Hid (CaAt w #[.slice a C.length cap, .int .i64 loops, .slice (some ⟨gF, 0, none⟩) (2 * C.length + 1) cF, .slice (some ⟨gT, 0, none⟩) (2 * C.length + 1) cT] loops gL n vals (fun p => (leT C P p C.length).1) σ (canF C [] (preO (fun p => (leT C P p C.length).1) σ 0 0)) (canGo C [] (preO (fun p => (leT C P p C.length).1) σ 0 0)) (.slice none 0 0) w2) := ⟨HCA1.out.1.on hb2, HCA1.out.2.1.kept (grown_below hb2 none) (by simp), (hb2.block _ (by omega)).trans HCA1.out.2.2.1, (hb2.block _ (by omega)).trans HCA1.out.2.2.2.1, (hb2.block _ (by omega)).trans HCA1.out.2.2.2.2, own_low hrow (by omega), fun p => own_low (hord p) (by omega), HB1.out.trans (hb2.mono (by omega))⟩
  clear hpc hσ1 hσ2 hrow hord hsh hb2 HCA1 HB1 HW1 t0 t1 t2 t3 hσl hs1 HS1 hs2 hl1
  go_wp2
  go_loopw [19] (fun v19 wr => ∃ (j : Nat) (v : Value), j ≤ n ∧ v19 = .int .i64 (j : Nat) ∧ Hid (CaAt w #[.slice a C.length cap, .int .i64 loops, .slice (some ⟨gF, 0, none⟩) (2 * C.length + 1) cF, .slice (some ⟨gT, 0, none⟩) (2 * C.length + 1) cT] loops gL n vals (fun p => (leT C P p C.length).1) σ (canF C [] (preO (fun p => (leT C P p C.length).1) σ j 0)) (canGo C [] (preO (fun p => (leT C P p C.length).1) σ j 0)) v wr)) (fun v19 _ => n - (intOf v19).toNat)
  case atStart => exact ⟨0, _, Nat.zero_le _, rfl, HC2.out⟩
  case round =>
    clear HC2
    rename World => W3
    obtain ⟨j, v, hjn, rfl, hca⟩ := hrel
    have hsz := hca.out.sz
    have hgL := hca.out.row.lt gL rfl
    by_cases hjl : j < n
    · have hg := tvs_get vals σ j (by rw [HSL.out]; exact hjl)
      have e0 := (hca.out.row.cellAt (j * 2) (by omega)).trans hg.1
      have e1 := (hca.out.row.cellAt (j * 2 + 1) (by omega)).trans hg.2
      obtain ⟨p, hp⟩ : ∃ p, σ.getD j 0 = p := ⟨_, rfl⟩
      have HPJ : Hid (σ.getD j 0 = p) := hp
      rw [hp] at e0 e1
      obtain ⟨ao, co, eo⟩ := own_capS (hca.out.ord p)
      obtain ⟨ac, nc, cc, ec⟩ := HSH.out p
      rw [eo] at e0
      rw [ec] at e1
      have HOR : Hid (∀ W, CaAt w #[.slice a C.length cap, .int .i64 loops, .slice (some ⟨gF, 0, none⟩) (2 * C.length + 1) cF, .slice (some ⟨gT, 0, none⟩) (2 * C.length + 1) cT] loops gL n vals (fun p => (leT C P p C.length).1) σ (canF C [] (preO (fun p => (leT C P p C.length).1) σ j 0)) (canGo C [] (preO (fun p => (leT C P p C.length).1) σ j 0)) v W → True) := fun _ _ => trivial
      obtain ⟨O, hO⟩ : ∃ O, (leT C P p C.length).1 = O := ⟨_, rfl⟩
      have HO : Hid ((leT C P p C.length).1 = O) := hO
      simp only [hO] at e0 eo
      have hOl : O.length ≤ 16 ∧ ∀ x ∈ O, x < C.length := by rw [← hO]; exact HFW.out p
      have hOl1 := hOl.1
      have HOL : Hid (∀ x ∈ O, x < C.length) := hOl.2
      have hji : (j : Int) < (n : Int) := by omega
      have hgL2 := hgL.2
      have HOW : Hid ((vals p).1 = .slice ao O.length co) := eo
      obtain ⟨W4, hW4⟩ : ∃ W4, W4 = W3.alloc (.cells #[.slice ao O.length co, .slice ac nc cc] 91) := ⟨_, rfl⟩
      have HW4 : Hid (W4 = W3.alloc (.cells #[.slice ao O.length co, .slice ac nc cc] 91)) := hW4
      have hT4 : W4.heap[W3.heap.size]? = some (.cells #[.slice ao O.length co, .slice ac nc cc] 91 (0, 0)) := by rw [hW4]; exact alloc_at rfl
      have HC4 : Hid (CaAt w #[.slice a C.length cap, .int .i64 loops, .slice (some ⟨gF, 0, none⟩) (2 * C.length + 1) cF, .slice (some ⟨gT, 0, none⟩) (2 * C.length + 1) cT] loops gL n vals (fun p => (leT C P p C.length).1) σ (canF C [] (preO (fun p => (leT C P p C.length).1) σ j 0)) (canGo C [] (preO (fun p => (leT C P p C.length).1) σ j 0)) v W4) := (by rw [hW4]; exact hca.out.any (World.grownBy_alloc _ _ none) : CaAt w #[.slice a C.length cap, .int .i64 loops, .slice (some ⟨gF, 0, none⟩) (2 * C.length + 1) cF, .slice (some ⟨gT, 0, none⟩) (2 * C.length + 1) cT] loops gL n vals (fun p => (leT C P p C.length).1) σ (canF C [] (preO (fun p => (leT C P p C.length).1) σ j 0)) (canGo C [] (preO (fun p => (leT C P p C.length).1) σ j 0)) v W4)
      have b0 : W4.cell? ⟨W3.heap.size, 0, none⟩ = some (.slice ao O.length co) := block_cell hT4 rfl
      have b1 : W3.heap.size < W4.heap.size := (Array.getElem?_eq_some_iff.1 hT4).1
      clear hp hO eo ec hOl hW4 hg HOR hgL hT4
      go_upto_region 7 with (fail)
      rw [← HW4.out]
      clear HW4 e0 e1
      go_wp2
      have hdj : decide ((j : Int) < (n : Int)) = true := decide_eq_true hji
      go_loopw [26] (fun v26 wr => ∃ (i : Nat) (v : Value), i ≤ O.length ∧ v26 = .int .i64 (i : Nat) ∧ Hid (CaAt w #[.slice a C.length cap, .int .i64 loops, .slice (some ⟨gF, 0, none⟩) (2 * C.length + 1) cF, .slice (some ⟨gT, 0, none⟩) (2 * C.length + 1) cT] loops gL n vals (fun p => (leT C P p C.length).1) σ (canF C [] (preO (fun p => (leT C P p C.length).1) σ j i)) (canGo C [] (preO (fun p => (leT C P p C.length).1) σ j i)) v wr)) (fun v26 _ => O.length - (intOf v26).toNat)
      case atStart => exact ⟨0, _, Nat.zero_le _, rfl, HC4.out⟩
      case round =>
        clear HC4 b0 b1
        rename World => W5
        obtain ⟨i, v, hin, rfl, hcb⟩ := hrel
        have hsz5 := hcb.out.sz
        by_cases hil : i < O.length
        · obtain ⟨g, c', eg, hg1, hg2⟩ := own_block (hcb.out.ord p) (by rw [HO.out]; omega)
          rw [HOW.out] at eg
          injection eg with eg1 eg2 eg3
          clear eg2 eg3
          subst eg1
          have q0 : W5.cell? ⟨g, i, none⟩ = some (.int .i64 (O.getD i 0 : Nat)) := by
            have h := hcb.out.ord p
            rw [HOW.out, HO.out] at h
            exact (h.cellAt i (by omega)).trans (nats_get O i hil)
          have hcl : O.getD i 0 < C.length := HOL.out _ (by rw [List.getD_eq_getElem?_getD, List.getElem?_eq_getElem hil]; exact List.getElem_mem hil)
          have HPN : Hid (preO (fun p => (leT C P p C.length).1) σ j (i + 1) = preO (fun p => (leT C P p C.length).1) σ j i ++ [O.getD i 0]) := (by
            have h := preO_next (fun p => (leT C P p C.length).1) σ j i
            simp only [HPJ.out, HO.out] at h
            exact h hil : preO (fun p => (leT C P p C.length).1) σ j (i + 1) = preO (fun p => (leT C P p C.length).1) σ j i ++ [O.getD i 0])
          obtain ⟨c, hc⟩ : ∃ c, O.getD i 0 = c := ⟨_, rfl⟩
          rw [hc] at q0 hcl HPN
          have hpl := HPL.out j i hjn
          have hFl := canF_len C [] (preO (fun p => (leT C P p C.length).1) σ j i)
          have hAl := canGo_len C [] (preO (fun p => (leT C P p C.length).1) σ j i)
          have HGN := canGo_snoc C [] (preO (fun p => (leT C P p C.length).1) σ j i) c
          have HFN := canF_snoc C [] (preO (fun p => (leT C P p C.length).1) σ j i) c
          rw [← HPN.out] at HGN HFN
          obtain ⟨F, hF⟩ : ∃ F, canF C [] (preO (fun p => (leT C P p C.length).1) σ j i) = F := ⟨_, rfl⟩
          obtain ⟨acc, hacc⟩ : ∃ acc, canGo C [] (preO (fun p => (leT C P p C.length).1) σ j i) = acc := ⟨_, rfl⟩
          rw [hF] at hcb hFl HFN
          rw [hacc] at hcb hAl
          rw [hF, hacc] at HGN
          obtain ⟨b, off, ea, hbw, hC⟩ := HCR.out W5 hcb.out.bel (by omega)
          subst ea
          obtain ⟨x0, x1, x2, x3, x4⟩ := hC c hcl
          have HRG : Hid (∀ k, k < 4 → 0 ≤ (C.getD c Cr.none).arc k ∧ (C.getD c Cr.none).arc k ≤ 1000) := fun k hk => by have h := may_fit HM.out c k hcl hk; have := h.1; have := h.2.1; omega
          obtain ⟨x, hx⟩ : ∃ x, C.getD c Cr.none = x := ⟨_, rfl⟩
          rw [hx] at x0 x1 x2 x3 x4 HRG HGN HFN
          have HGN' : Hid (canGo C [] (preO (fun p => (leT C P p C.length).1) σ j (i + 1)) = acc ++ [canX F x]) := HGN
          have HFN' : Hid (canF C [] (preO (fun p => (leT C P p C.length).1) σ j (i + 1)) = addN F x 4) := HFN
          have hF9 : F.length ≤ 9000 := by simp only [List.length_nil] at hFl; omega
          have ha9 : acc.length ≤ 1000 := by omega
          clear hc hF hacc hx HGN HFN hFl hAl hpl hC
          obtain ⟨a3, c3, ev3⟩ := own_capS hcb.out.out.row
          subst ev3
          have t0 : W5.cell? ⟨w.heap.size, 0, none⟩ = some (.slice (some ⟨b, off, none⟩) C.length cap) := block_cell hcb.out.dra rfl
          have u0 : W5.cell? ⟨w.heap.size + 2, 0, none⟩ = some (.slice a3 acc.length c3) := block_cell hcb.out.out.box rfl
          have hli : (i : Int) < (O.length : Int) := by omega
          have hlc : (c : Int) < (C.length : Int) := by omega
          have hl0 : w.heap.size < W5.heap.size := by omega
          have hl2 : w.heap.size + 2 < W5.heap.size := by omega
          have hdi : decide ((i : Int) < (O.length : Int)) = true := decide_eq_true hli
          have hdi2 : decide (i < O.length) = true := decide_eq_true hil
          have HVD : Hid (W5.drew.heap[w.heap.size + 4]? = some (.cells #[.map (some (w.heap.size + 3))] 86 (0, 0)) ∧ MapA W5.drew (w.heap.size + 3) F) := ⟨hcb.out.var, hcb.out.map.kept (grown_below ((Below.refl _ _).drew) none) (by simp)⟩
          go_upto_region 10 with (fail)
          clear q0
          obtain ⟨y, hy⟩ : ∃ y, canX F x = y := ⟨_, rfl⟩
          have HYY : Hid (canX F x = y) := hy
          have HYP : Hid (y.plus = x.plus) := (by rw [← hy]; rfl : y.plus = x.plus)
          clear hy
          apply cut_told
          case h =>
            intro key
            go_region_law (first
              | (refine step_append_own rfl (.tmp 31) (.tmp 40) 22 rfl (w.heap.size + 5) 33 i0 (.agg #[.int .i64 0, .int .i64 0, .int .i64 0, .int .i64 0, .bool false]) 5 40 Tryz.underlying22 hi hz0 hz1 hz2 rfl (by decide) _ acc.length _ (by simp [Act.eval]) (HCA.out.out.row.alloc _) ⟨wA.heap.size, 0, none⟩ 1 1 [.int .i64 y.a, .int .i64 y.b, .int .i64 y.c, .int .i64 y.d, .bool x.plus] (by simp [Act.eval]) rfl (new_cell5 _ _ _ _ _ _ _) (cells_one [⟨y.a, y.b, y.c, y.d, x.plus⟩]) (by unfold maxLen; omega) (by omega) (by simp; omega) ?_; intro v8 w8 hown8 hg8
                 have HOW8 : Hid (w8.ownsRow (w.heap.size + 5) 33 5 v8 (acc.length + 1) (crossCells acc ++ crossCells [⟨y.a, y.b, y.c, y.d, x.plus⟩])) := hown8
                 have HG8 : Hid ((wA.alloc (.cells #[.int .i64 y.a, .int .i64 y.b, .int .i64 y.c, .int .i64 y.d, .bool x.plus] 33)).grownBy w8 (Value.slice a3 acc.length c3).ownBlock) := hg8
                 obtain ⟨a8, c8, ev8⟩ := own_capS HOW8.out
                 subst ev8
                 have hb8 := HCA.out.out.box8 (by omega) HG8.out
                 have r0 : w8.cell? ⟨w.heap.size + 2, 0, none⟩ = some (.slice a3 acc.length c3) := block_cell hb8 rfl
                 have r1 : w8.frozen? ⟨w.heap.size + 2, 0, none⟩ = false := block_frozen hb8
                 have r2 : w.heap.size + 2 < w8.heap.size := (Array.getElem?_eq_some_iff.1 hb8).1
                 clear hown8 hg8 hb8)
              | (go_simp; go_at_call 37; refine (renumbered_can x (w.heap.size + 4) (w.heap.size + 3) F _ HRG.out hF9 HVD.out.1 HVD.out.2).mono ?_; rw [HYY.out]; rintro e9 wA ⟨rfl, hmA, hgA⟩
                 have HCA : Hid (CaAt w #[.slice (some ⟨b, off, none⟩) C.length cap, .int .i64 loops, .slice (some ⟨gF, 0, none⟩) (2 * C.length + 1) cF, .slice (some ⟨gT, 0, none⟩) (2 * C.length + 1) cT] loops gL n vals (fun p => (leT C P p C.length).1) σ (addN F x 4) acc (.slice a3 acc.length c3) wA) := (hcb.out.any (grown_below ((Below.refl _ _).drew) none)).call hgA hmA
                 have a0 : wA.cell? ⟨w.heap.size + 2, 0, none⟩ = some (.slice a3 acc.length c3) := block_cell HCA.out.out.box rfl
                 have a1 : w.heap.size + 2 < wA.heap.size := (Array.getElem?_eq_some_iff.1 HCA.out.out.box).1
                 have a2 : w.heap.size + 5 ≤ wA.heap.size := HCA.out.sz
                 clear hmA hgA))
            all_goals
              have HNX : Hid (CaAt w #[.slice (some ⟨b, off, none⟩) C.length cap, .int .i64 loops, .slice (some ⟨gF, 0, none⟩) (2 * C.length + 1) cF, .slice (some ⟨gT, 0, none⟩) (2 * C.length + 1) cT] loops gL n vals (fun p => (leT C P p C.length).1) σ (addN F x 4) (acc ++ [(⟨y.a, y.b, y.c, y.d, x.plus⟩ : Cr)]) (.slice a8 (acc.length + 1) c8) (w8.setCell ⟨w.heap.size + 2, 0, none⟩ (.slice a8 (acc.length + 1) c8))) := HCA.out.app HOW8.out HG8.out
              clear r0 r1 r2 a0 a1 a2 HCA HOW8 HG8
              generalize w8.setCell ⟨w.heap.size + 2, 0, none⟩ (.slice a8 (acc.length + 1) c8) = W9 at HNX ⊢
              generalize wA.heap.size = zA
              revert a8 c8 W9 zA
              exact key.out
          intro a8 c8 W9 HNX zA
          have HYE : Hid ((⟨y.a, y.b, y.c, y.d, x.plus⟩ : Cr) = canX F x) := (by rw [← HYP.out, HYY.out] : (⟨y.a, y.b, y.c, y.d, x.plus⟩ : Cr) = canX F x)
          have HNN : Hid (CaAt w #[.slice (some ⟨b, off, none⟩) C.length cap, .int .i64 loops, .slice (some ⟨gF, 0, none⟩) (2 * C.length + 1) cF, .slice (some ⟨gT, 0, none⟩) (2 * C.length + 1) cT] loops gL n vals (fun p => (leT C P p C.length).1) σ (canF C [] (preO (fun p => (leT C P p C.length).1) σ j (i + 1))) (canGo C [] (preO (fun p => (leT C P p C.length).1) σ j (i + 1))) (.slice a8 (acc.length + 1) c8) W9) := (by rw [HGN'.out, HFN'.out, ← HYE.out]; exact HNX.out : CaAt w #[.slice (some ⟨b, off, none⟩) C.length cap, .int .i64 loops, .slice (some ⟨gF, 0, none⟩) (2 * C.length + 1) cF, .slice (some ⟨gT, 0, none⟩) (2 * C.length + 1) cT] loops gL n vals (fun p => (leT C P p C.length).1) σ (canF C [] (preO (fun p => (leT C P p C.length).1) σ j (i + 1))) (canGo C [] (preO (fun p => (leT C P p C.length).1) σ j (i + 1))) (.slice a8 (acc.length + 1) c8) W9)
          clear x0 x1 x2 x3 x4 t0 u0
          go_wp2
          go_roundw
          case rel => exact ⟨i + 1, _, by omega, by go_num, HNN.out⟩
          case measure => simp only [intOf]; omega
        · obtain rfl : i = O.length := by omega
          have HPR : Hid (preO (fun p => (leT C P p C.length).1) σ j O.length = preO (fun p => (leT C P p C.length).1) σ (j + 1) 0) := (by
            have h := preO_row (fun p => (leT C P p C.length).1) σ j (by rw [HSL.out]; exact hjl)
            simp only [HPJ.out, HO.out] at h
            exact h : preO (fun p => (leT C P p C.length).1) σ j O.length = preO (fun p => (leT C P p C.length).1) σ (j + 1) 0)
          have HCN : Hid (CaAt w #[.slice a C.length cap, .int .i64 loops, .slice (some ⟨gF, 0, none⟩) (2 * C.length + 1) cF, .slice (some ⟨gT, 0, none⟩) (2 * C.length + 1) cT] loops gL n vals (fun p => (leT C P p C.length).1) σ (canF C [] (preO (fun p => (leT C P p C.length).1) σ (j + 1) 0)) (canGo C [] (preO (fun p => (leT C P p C.length).1) σ (j + 1) 0)) v W5) := (by rw [← HPR.out]; exact hcb.out : CaAt w #[.slice a C.length cap, .int .i64 loops, .slice (some ⟨gF, 0, none⟩) (2 * C.length + 1) cF, .slice (some ⟨gT, 0, none⟩) (2 * C.length + 1) cT] loops gL n vals (fun p => (leT C P p C.length).1) σ (canF C [] (preO (fun p => (leT C P p C.length).1) σ (j + 1) 0)) (canGo C [] (preO (fun p => (leT C P p C.length).1) σ (j + 1) 0)) v W5)
          go_wp2
          go_roundw
          case rel => exact ⟨j + 1, _, by omega, by go_num, HCN.out⟩
          case measure => simp only [intOf]; omega
    · obtain rfl : j = n := by omega
      have HPE : Hid (preO (fun p => (leT C P p C.length).1) σ j 0 = ((σ.map fun p => (leT C P p C.length).1).flatten)) := (by unfold preO; rw [List.take_zero, List.append_nil, ← HSL.out, List.take_length] : preO (fun p => (leT C P p C.length).1) σ j 0 = ((σ.map fun p => (leT C P p C.length).1).flatten))
      rw [HPE.out] at hca
      obtain ⟨acc, hacc⟩ : ∃ acc, canGo C [] ((σ.map fun p => (leT C P p C.length).1).flatten) = acc := ⟨_, rfl⟩
      have HAC : Hid (canGo C [] ((σ.map fun p => (leT C P p C.length).1).flatten) = acc) := hacc
      rw [hacc] at hca
      clear hacc
      obtain ⟨a3, c3, ev3⟩ := own_capS hca.out.out.row
      subst ev3
      have u0 : W3.cell? ⟨w.heap.size + 2, 0, none⟩ = some (.slice a3 acc.length c3) := block_cell hca.out.out.box rfl
      have u1 : W3.cell? ⟨w.heap.size + 2, 1, none⟩ = some (.int .i64 loops) := block_cell hca.out.out.box rfl
      have r0 : W3.cell? ⟨w.heap.size + 1, 0, none⟩ = some (.slice none 0 0) := block_cell hca.out.res rfl
      have r1 : W3.cell? ⟨w.heap.size + 1, 1, none⟩ = some (.int .i64 0) := block_cell hca.out.res rfl
      have r2 : W3.frozen? ⟨w.heap.size + 1, 0, none⟩ = false := block_frozen hca.out.res
      have r3 : W3.frozen? ⟨w.heap.size + 1, 1, none⟩ = false := block_frozen hca.out.res
      have hl1 : w.heap.size + 1 < W3.heap.size := by omega
      have hl2 : w.heap.size + 2 < W3.heap.size := by omega
      clear hgL
      go_wp2
      have hX := st_block (a := .slice a3 acc.length c3) (b := .int .i64 loops) hca.out.res
      have x0 := block_cell (i := 0) (v := .slice a3 acc.length c3) hX rfl
      have x1 := block_cell (i := 1) (v := .int .i64 loops) hX rfl
      have hG : W3.grownBy ((W3.setCell ⟨w.heap.size + 1, 0, none⟩ (.slice a3 acc.length c3)).setCell ⟨w.heap.size + 1, 1, none⟩ (.int .i64 loops)) (some (w.heap.size + 1)) := grown_trans (set_grown _ _ _ _) (set_grown _ _ _ _)
      refine bodyPost_ret (v := .agg #[.slice a3 acc.length c3, .int .i64 loops]) (by simp [results, Tryz.results19, go_sem, x0, x1]) rfl ⟨_, j, P, σ, rfl, HPC.out, HS.out.1, HS.out.2, ?_, ?_⟩
      · rw [HAC.out]
        exact own_low (hca.out.out.row.kept hG (Or.inr (fun e => by have := (hca.out.out.row.lt _ e).1; omega))) (by omega)
      · exact hca.out.bel.grown hG hca.out.bel.size (fun q hq => by have := Option.some.inj hq; omega)
end Go.Proofs.YtlimfajjmhfnaaaGreatDoor

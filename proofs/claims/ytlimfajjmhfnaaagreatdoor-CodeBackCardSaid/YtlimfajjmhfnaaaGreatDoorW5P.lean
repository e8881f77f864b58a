/- Several texts of the proof, one behind the other. -/
import Derived.Test.YtlimfajjmhfnaaaGreatDoorW3
import Derived.Test.YtlimfajjmhfnaaaGreatDoorH7
/- The walks of ref.DiagramOf and gauss.Strands; rows that are the same. -/
namespace Go.Proofs.YtlimfajjmhfnaaaGreatDoor
open Go.RowKit

/-- The crossings as cells, one behind the other. -/
def crossCells (C : List Cr) : List Value := C.flatMap fun x => [.int .i64 x.a, .int .i64 x.b, .int .i64 x.c, .int .i64 x.d, .bool x.plus]
theorem cells_length (C : List Cr) : (crossCells C).length = C.length * 5 := by
  induction C with
  | nil => rfl
  | cons t l ih => simp [crossCells] at *; omega
theorem cells_get (C : List Cr) (i : Nat) (hi : i < C.length) : (crossCells C)[i * 5]? = some (.int .i64 (C.getD i Cr.none).a) ∧ (crossCells C)[i * 5 + 1]? = some (.int .i64 (C.getD i Cr.none).b) ∧ (crossCells C)[i * 5 + 2]? = some (.int .i64 (C.getD i Cr.none).c) ∧ (crossCells C)[i * 5 + 3]? = some (.int .i64 (C.getD i Cr.none).d) ∧ (crossCells C)[i * 5 + 4]? = some (.bool (C.getD i Cr.none).plus) := by
  induction C generalizing i with
  | nil => simp at hi
  | cons t l ih =>
    have e : crossCells (t :: l) = .int .i64 t.a :: .int .i64 t.b :: .int .i64 t.c :: .int .i64 t.d :: .bool t.plus :: crossCells l := rfl
    cases i with
    | zero => rw [e]; exact ⟨rfl, rfl, rfl, rfl, rfl⟩
    | succ i =>
      have := ih i (by simpa using hi)
      have e1 : (i + 1) * 5 = i * 5 + 1 + 1 + 1 + 1 + 1 := by omega
      rw [e, e1]
      exact this
theorem cells_one (C : List Cr) : ∀ u ∈ crossCells C, u.oneCell' = true := by
  intro u hu
  simp only [crossCells, List.mem_flatMap] at hu
  obtain ⟨t, _, ht⟩ := hu
  simp at ht
  rcases ht with rfl | rfl | rfl | rfl | rfl <;> rfl
theorem cells_at {w : World} {b off : Nat} {C : List Cr} (h : CrossAt w b off C) : ∀ j u, (crossCells C)[j]? = some u → w.cell? ((⟨b, off, none⟩ : Addr).add j) = some u := by
  intro j u hj
  have hlt : j < (crossCells C).length := by
    rcases Nat.lt_or_ge j (crossCells C).length with h | h
    · exact h
    · rw [List.getElem?_eq_none h] at hj; cases hj
  rw [cells_length] at hlt
  have hi : j / 5 < C.length := by omega
  have g := cells_get C (j / 5) hi
  have c := h (j / 5) hi
  rw [Addr.add_lit]
  have h5 : j % 5 = 0 ∨ j % 5 = 1 ∨ j % 5 = 2 ∨ j % 5 = 3 ∨ j % 5 = 4 := by omega
  rcases h5 with e | e | e | e | e
  · rw [show j / 5 * 5 = j by omega] at g c
    rw [g.1] at hj
    rw [← hj]
    exact c.1
  · rw [show j / 5 * 5 + 1 = j by omega] at g
    rw [show off + j / 5 * 5 + 1 = off + j by omega] at c
    rw [g.2.1] at hj
    rw [← hj]
    exact c.2.1
  · rw [show j / 5 * 5 + 2 = j by omega] at g
    rw [show off + j / 5 * 5 + 2 = off + j by omega] at c
    rw [g.2.2.1] at hj
    rw [← hj]
    exact c.2.2.1
  · rw [show j / 5 * 5 + 3 = j by omega] at g
    rw [show off + j / 5 * 5 + 3 = off + j by omega] at c
    rw [g.2.2.2.1] at hj
    rw [← hj]
    exact c.2.2.2.1
  · rw [show j / 5 * 5 + 4 = j by omega] at g
    rw [show off + j / 5 * 5 + 4 = off + j by omega] at c
    rw [g.2.2.2.2] at hj
    rw [← hj]
    exact c.2.2.2.2
theorem crs_own {w : World} {B e : Nat} {v : Value} {C : List Cr} (h : w.ownsRow B e 5 v C.length (crossCells C)) (hn : C.length ≤ maxLen) : Crs w w.heap.size v C := by
  have h0 := h
  rcases h.2 with ⟨rfl, h1⟩ | ⟨g, cap, cur, rfl, _, _, _⟩
  · exact ⟨none, 0, by rw [h1], hn, fun hp => by omega⟩
  · refine ⟨some ⟨g, 0, none⟩, cap, rfl, hn, fun _ => ⟨g, 0, rfl, (h0.lt g rfl).2, fun i hi => ?_⟩⟩
    have g0 := cells_get C i hi
    rw [Nat.zero_add]
    exact ⟨(h0.cellAt (i * 5) (by omega)).trans g0.1, (h0.cellAt (i * 5 + 1) (by omega)).trans g0.2.1, (h0.cellAt (i * 5 + 2) (by omega)).trans g0.2.2.1, (h0.cellAt (i * 5 + 3) (by omega)).trans g0.2.2.2.1, (h0.cellAt (i * 5 + 4) (by omega)).trans g0.2.2.2.2⟩
/-- A slice of crossings as it is handed in. -/
def CrsW (w : World) (B : Nat) (v : Value) (C : List Cr) : Prop :=
  (v = .slice none 0 0 ∧ C = []) ∨ (∃ ad cap, v = .slice (some ad) 0 cap ∧ C = []) ∨ ∃ b off cap, v = .slice (some ⟨b, off, none⟩) C.length cap ∧ b < B ∧ CrossAt w b off C
theorem CrsW.crs {w : World} {B : Nat} {v : Value} {C : List Cr} (h : CrsW w B v C) (hn : C.length ≤ maxLen) : Crs w B v C := by
  rcases h with ⟨rfl, rfl⟩ | ⟨ad, cap, rfl, rfl⟩ | ⟨b, off, cap, rfl, hlt, hC⟩
  · exact ⟨none, 0, rfl, hn, fun hp => by simp at hp⟩
  · exact ⟨some ad, cap, rfl, hn, fun hp => by simp at hp⟩
  · exact ⟨some ⟨b, off, none⟩, cap, rfl, hn, fun _ => ⟨b, off, rfl, hlt, hC⟩⟩
theorem CrsW.up {w w' : World} {v : Value} {C : List Cr} (h : CrsW w w.heap.size v C) (hb : Below w.heap.size w w') : CrsW w' w'.heap.size v C := by
  rcases h with h | h | ⟨b, off, cap, hv, hlt, hC⟩
  · exact Or.inl h
  · exact Or.inr (Or.inl h)
  · exact Or.inr (Or.inr ⟨b, off, cap, hv, Nat.lt_of_lt_of_le hlt hb.size, hC.on hb hlt⟩)
theorem infoCross : (Tryz.prog.info? 33).map (fun i => (i.zero, i.size, i.bytes)) = some (some (.agg #[.int .i64 0, .int .i64 0, .int .i64 0, .int .i64 0, .bool false]), 5, 40) := by kernel_rfl

theorem own_terms {w : World} {B e n g c : Nat} {l : List (Int × Int)} (h : w.ownsRow B e 2 (.slice (some ⟨g, 0, none⟩) n c) n (flat l)) (hl : l.length = n) : TermsAt w g 0 l := by
  intro i hi
  have g0 := flat_get l i hi
  rw [Nat.zero_add]
  exact ⟨(h.cellAt (i * 2) (by omega)).trans g0.1, (h.cellAt (i * 2 + 1) (by omega)).trans g0.2⟩
/-- What drawing.Of answered is a drawing. -/
theorem Drawn.dr {w w' : World} {a : Option Addr} {cap : Nat} {loops : Int} {C : List Cr} {D : Value} (h : Drawn w w' w.heap.size (.slice a C.length cap) loops C D) (hm : mayD C loops = true) (hb : Below w.heap.size w w') (hC : Crs w w.heap.size (.slice a C.length cap) C) :
    ∃ gF cF gT cT, D = drV a cap C loops gF cF gT cT ∧ Dr w' a cap C gF gT := by
  obtain ⟨gF, cF, gT, cT, rfl, h1, h2⟩ := h.yes hm
  exact ⟨gF, cF, gT, cT, rfl, hC.up hb, (h1.lt gF rfl).2, (h2.lt gT rfl).2, own_terms h1 (ends_length _ _ _ _), own_terms h2 (ends_length _ _ _ _)⟩

set_option maxHeartbeats 2000000 in
set_option maxRecDepth 100000 in
theorem strands_no (v : Value) (C : List Cr) (loops : Int) (w : World) (hm : mayD C loops = false) (h : Crs w w.heap.size v C) :
    Calls Tryz.prog 11 #[.agg #[v, .int .i64 loops]] w fun e w' => e = .returned (.tuple #[.slice none 0 0, .int .i64 7]) ∧ Below w.heap.size w w' := by
  have HC : Hid (Crs w w.heap.size v C) := h
  obtain ⟨a, cap, rfl, hn, -⟩ := h
  have HB1 : Hid (Below w.heap.size w (w.alloc (.cells #[.slice a C.length cap, .int .i64 loops] 24))) := (Below.refl _ _).alloc (Nat.le_refl _) _
  go_enter Tryz.func11, Tryz.ntmps11
  go_wp2_with (go_at_call 14; refine (of_any _ C loops _ (HC.out.up HB1.out)).mono ?_; rw [hm]; rintro e9 w2 ⟨d, rfl, hb2, hd⟩; rw [hd.no hm]; refine Hid.out ?_)
  refine Lib.hid ?_
  unfold noDrawing
  have HB2 : Hid (Below w.heap.size w w2) := HB1.out.trans (hb2.mono HB1.out.size)
  clear hb2 hd
  go_wp2
  go_ret2
  exact ⟨rfl, HB2.out.alloc HB2.out.size _⟩

set_option maxHeartbeats 2000000 in
set_option maxRecDepth 100000 in
theorem strands_yes (v : Value) (C : List Cr) (loops : Int) (w : World) (hm : mayD C loops = true) (h : Crs w w.heap.size v C) :
    Calls Tryz.prog 11 #[.agg #[v, .int .i64 loops]] w fun e w' => ∃ r, e = .returned (.tuple #[r, .int .i64 0]) ∧ NatsOwn w' w.heap.size r (walksM C) ∧ Below w.heap.size w w' := by
  have HC : Hid (Crs w w.heap.size v C) := h
  have HM : Hid (mayD C loops = true) := hm
  obtain ⟨a, cap, rfl, hn, -⟩ := h
  have HB1 : Hid (Below w.heap.size w (w.alloc (.cells #[.slice a C.length cap, .int .i64 loops] 24))) := (Below.refl _ _).alloc (Nat.le_refl _) _
  go_enter Tryz.func11, Tryz.ntmps11
  go_wp2_with (go_at_call 14; refine (of_any _ C loops _ (HC.out.up HB1.out)).mono ?_; rw [hm]; rintro e9 w2 ⟨d, rfl, hb2, hd⟩; obtain ⟨gF, cF, gT, cT, rfl, hdr⟩ := hd.dr HM.out hb2 (HC.out.up HB1.out); refine Hid.out ?_)
  refine Lib.hid ?_
  have HDR : Hid (Dr w2 a cap C gF gT) := hdr
  unfold drV
  have HB2 : Hid (Below w.heap.size w w2) := HB1.out.trans (hb2.mono HB1.out.size)
  have HBA : Hid (Below w2.heap.size w2 (w2.alloc (.cells #[.slice a C.length cap, .int .i64 loops, .slice (some ⟨gF, 0, none⟩) (2 * C.length + 1) cF, .slice (some ⟨gT, 0, none⟩) (2 * C.length + 1) cT] 48))) := (Below.refl _ _).alloc (Nat.le_refl _) _
  clear hb2 hd hdr hm
  go_wp2_with (go_at_call 18; refine (walks_any a cap C loops gF cF gT cT _ HM.out (HDR.out.on HBA.out)).mono ?_; rintro e9 w3 ⟨r, rfl, hr, hb3⟩; refine Hid.out ?_)
  refine Lib.hid ?_
  have HR : Hid (NatsOwn w3 w.heap.size r (walksM C)) := hr.low (by have := HB2.out.size; simp; omega)
  have HB3 : Hid (Below w.heap.size w w3) := (HB2.out.trans (HBA.out.mono HB2.out.size)).trans (hb3.mono (by have := HB2.out.size; simp; omega))
  clear hr hb3
  go_wp2
  go_ret2
  exact ⟨_, rfl, HR.out, HB3.out⟩
end Go.Proofs.YtlimfajjmhfnaaaGreatDoor
/- Visits: lists of them that a call owns; the walks of gauss.visits and gauss.signs. -/
namespace Go.Proofs.YtlimfajjmhfnaaaGreatDoor
open Go.RowKit

/-- The visit to which arc a leads. -/
def vis (C : List Cr) (a : Nat) : Nat × Bool := (toC C a, !decide (toS C a = 0))
def visL (C : List Cr) (l : List Nat) : List (Nat × Bool) := l.map (vis C)
def visM (C : List Cr) : List (List (Nat × Bool)) := (walksM C).map (visL C)
/-- Visits as cells. -/
def vflat (V : List (Nat × Bool)) : List Value := V.flatMap fun t => [.int .i64 (t.1 : Nat), .bool t.2]
theorem vflat_length (l : List (Nat × Bool)) : (vflat l).length = l.length * 2 := by
  induction l with
  | nil => rfl
  | cons t l ih => simp [vflat] at *; omega
theorem vflat_append (l m : List (Nat × Bool)) : vflat (l ++ m) = vflat l ++ vflat m := by simp [vflat]
theorem vflat_get (l : List (Nat × Bool)) (i : Nat) (hi : i < l.length) : (vflat l)[i * 2]? = some (.int .i64 ((l.getD i (0, false)).1 : Nat)) ∧ (vflat l)[i * 2 + 1]? = some (.bool (l.getD i (0, false)).2) := by
  induction l generalizing i with
  | nil => simp at hi
  | cons t l ih =>
    have e : vflat (t :: l) = .int .i64 (t.1 : Nat) :: .bool t.2 :: vflat l := rfl
    cases i with
    | zero => rw [e]; exact ⟨rfl, rfl⟩
    | succ i =>
      have := ih i (by simpa using hi)
      rw [e, show (i + 1) * 2 = i * 2 + 1 + 1 by omega]
      exact this
theorem vflat_set (l : List (Nat × Bool)) (i : Nat) (hi : i < l.length) (t : Nat × Bool) : ((vflat l).set (i * 2) (.int .i64 (t.1 : Nat))).set (i * 2 + 1) (.bool t.2) = vflat (l.set i t) := by
  induction l generalizing i with
  | nil => simp at hi
  | cons s l ih =>
    have e : vflat (s :: l) = .int .i64 (s.1 : Nat) :: .bool s.2 :: vflat l := rfl
    cases i with
    | zero => rw [e]; rfl
    | succ i =>
      have := ih i (by simpa using hi)
      have e2 : vflat ((s :: l).set (i + 1) t) = .int .i64 (s.1 : Nat) :: .bool s.2 :: vflat (l.set i t) := rfl
      rw [e, e2, show (i + 1) * 2 = i * 2 + 1 + 1 by omega, List.set_cons_succ, List.set_cons_succ, List.set_cons_succ, List.set_cons_succ, this]
theorem vflat_one (l : List (Nat × Bool)) : ∀ u ∈ vflat l, u.oneCell' = true := by
  intro u hu
  simp only [vflat, List.mem_flatMap] at hu
  obtain ⟨t, _, ht⟩ := hu
  simp at ht
  rcases ht with rfl | rfl <;> rfl
theorem vflat_zeros (n : Nat) : (madeCells #[Value.int .i64 0, .bool false] (n * 2)).toList = vflat (List.replicate n (0, false)) := by
  apply List.ext_getElem?
  intro j
  by_cases hj : j < n * 2
  · have g := vflat_get (List.replicate n (0, false)) (j / 2) (by simp; omega)
    have e : (List.replicate n ((0 : Nat), false)).getD (j / 2) (0, false) = (0, false) := by
      rw [List.getD_eq_getElem?_getD, List.getElem?_replicate]
      split <;> rfl
    rw [e] at g
    simp only [madeCells]
    rcases Nat.mod_two_eq_zero_or_one j with h | h
    · rw [show j / 2 * 2 = j by omega] at g
      rw [g.1]
      simp [hj, h]
    · rw [show j / 2 * 2 + 1 = j by omega] at g
      rw [g.2]
      simp [hj, h]
  · rw [List.getElem?_eq_none (by simp [madeCells]; omega), List.getElem?_eq_none (by rw [vflat_length]; simp; omega)]
/-- What the loop has done behind i visits. -/
def partTo (C : List Cr) (l : List Nat) (i : Nat) : List (Nat × Bool) := visL C (l.take i) ++ List.replicate (l.length - i) (0, false)
theorem part_len (C : List Cr) (l : List Nat) (i : Nat) (h : i ≤ l.length) : (partTo C l i).length = l.length := by simp [partTo, visL]; omega
theorem part_next (C : List Cr) (l : List Nat) (i : Nat) (h : i < l.length) : (partTo C l i).set i (vis C (l.getD i 0)) = partTo C l (i + 1) := by
  unfold partTo visL
  rw [List.set_append_right _ _ (by simp; omega)]
  have e : l.length - i = (l.length - (i + 1)) + 1 := by omega
  have e2 : l.take (i + 1) = l.take i ++ [l.getD i 0] := by
    rw [List.take_add_one, List.getD_eq_getElem?_getD, List.getElem?_eq_getElem h]
    rfl
  rw [e2, List.map_append, e, List.replicate_succ]
  simp [Nat.min_eq_left (Nat.le_of_lt h)]
theorem part_all (C : List Cr) (l : List Nat) : partTo C l l.length = visL C l := by simp [partTo]
theorem own_stv {w : World} {B e n g cap i : Nat} {l : List (Nat × Bool)} {t : Nat × Bool} (h : w.ownsRow B e 2 (.slice (some ⟨g, 0, none⟩) n cap) n (vflat l)) (hi : i < l.length) : (st2 w g (i * 2) (.int .i64 (t.1 : Nat)) (.bool t.2)).ownsRow B e 2 (.slice (some ⟨g, 0, none⟩) n cap) n (vflat (l.set i t)) := by
  have h1 := (h.stored (i * 2) (.int .i64 (t.1 : Nat))).1
  have h2 := (h1.stored (i * 2 + 1) (.bool t.2)).1
  rw [vflat_set l i hi t] at h2
  exact h2
/-- The walks as one looks at them. -/
def WksAt (w : World) (v : Value) (L : List (List Nat)) : Prop := ∃ ys : List Value, ys.length = L.length ∧ Slots w w.heap.size v ys ∧ ∀ j, j < L.length → Slots w w.heap.size (ys.getD j (.bool false)) (nats (L.getD j []))
theorem NatsOwn.wks {w : World} {B : Nat} {v : Value} {L : List (List Nat)} (h : NatsOwn w B v L) : WksAt w v L := by
  obtain ⟨ys, h1, h2, h3⟩ := h
  exact ⟨ys, h1, slots_of_own h2, fun j hj => slots_of_own (h3 j hj)⟩
theorem WksAt.on {w w' : World} {v : Value} {L : List (List Nat)} (h : WksAt w v L) (hb : Below w.heap.size w w') : WksAt w' v L := by
  obtain ⟨ys, h1, h2, h3⟩ := h
  exact ⟨ys, h1, (h2.on hb).mono hb.size, fun j hj => ((h3 j hj).on hb).mono hb.size⟩
theorem walksM_facts {C : List Cr} {loops : Int} (hm : mayD C loops = true) : (walksM C).length ≤ 2 * C.length ∧ ∀ j, j < (walksM C).length → 0 < ((walksM C).getD j []).length ∧ ((walksM C).getD j []).length ≤ 2 * C.length + 1 ∧ ∀ i, i < ((walksM C).getD j []).length → 1 ≤ ((walksM C).getD j []).getD i 0 ∧ ((walksM C).getD j []).getD i 0 ≤ 2 * C.length := by
  refine ⟨walksTo_count _ _ _, fun j hj => ?_⟩
  have hmem : (walksM C).getD j [] ∈ walksM C := by
    rw [List.getD_eq_getElem?_getD, List.getElem?_eq_getElem hj]
    exact List.getElem_mem hj
  have h := walksTo_mem (nx_closed hm) (2 * C.length) (Nat.le_refl _) _ hmem
  clear hmem
  generalize (walksM C).getD j [] = l at h
  refine ⟨List.length_pos_iff.2 h.1, h.2.1, fun i hi => h.2.2 _ ?_⟩
  rw [List.getD_eq_getElem?_getD, List.getElem?_eq_getElem hi]
  exact List.getElem_mem hi

end Go.Proofs.YtlimfajjmhfnaaaGreatDoor
/- The walk of gauss.signs; rows of visits and of signs that are the same. -/
namespace Go.Proofs.YtlimfajjmhfnaaaGreatDoor
open Go.RowKit

/-- The signs of the crossings. -/
def plusM (C : List Cr) : List Bool := C.map Cr.plus
def plusTo (C : List Cr) (i : Nat) : List Bool := plusM (C.take i) ++ List.replicate (C.length - i) false
theorem plus_len (C : List Cr) (i : Nat) (h : i ≤ C.length) : (plusTo C i).length = C.length := by simp [plusTo, plusM]; omega
theorem plus_next (C : List Cr) (i : Nat) (h : i < C.length) : (plusTo C i).set i (C.getD i Cr.none).plus = plusTo C (i + 1) := by
  unfold plusTo plusM
  rw [List.set_append_right _ _ (by simp; omega)]
  have e : C.length - i = (C.length - (i + 1)) + 1 := by omega
  have e2 : C.take (i + 1) = C.take i ++ [C.getD i Cr.none] := by
    rw [List.take_add_one, List.getD_eq_getElem?_getD, List.getElem?_eq_getElem h]
    rfl
  rw [e2, List.map_append, e, List.replicate_succ]
  simp [Nat.min_eq_left (Nat.le_of_lt h)]
theorem plus_all (C : List Cr) : plusTo C C.length = plusM C := by simp [plusTo]

/-- A list of visits as one looks at it. -/
def VS (w : World) (v : Value) (V : List (Nat × Bool)) : Prop := ∃ a cap, v = .slice a V.length cap ∧ (0 < V.length → ∃ b off, a = some ⟨b, off, none⟩ ∧ b < w.heap.size ∧ ∀ i, i < V.length → w.cell? ⟨b, off + i * 2, none⟩ = some (.int .i64 ((V.getD i (0, false)).1 : Nat)) ∧ w.cell? ⟨b, off + i * 2 + 1, none⟩ = some (.bool (V.getD i (0, false)).2))
def VsAt (w : World) (v : Value) (L : List (List (Nat × Bool))) : Prop := ∃ ys : List Value, ys.length = L.length ∧ Slots w w.heap.size v ys ∧ ∀ j, j < L.length → VS w (ys.getD j (.bool false)) (L.getD j [])
theorem vs_own {w : World} {B e : Nat} {v : Value} {V : List (Nat × Bool)} (h : w.ownsRow B e 2 v V.length (vflat V)) : VS w v V := by
  have h0 := h
  rcases h.2 with ⟨rfl, h1⟩ | ⟨g, cap, cur, rfl, _, _, _⟩
  · exact ⟨none, 0, by rw [h1], fun hp => by omega⟩
  · refine ⟨some ⟨g, 0, none⟩, cap, rfl, fun _ => ⟨g, 0, rfl, (h0.lt g rfl).2, fun i hi => ?_⟩⟩
    have g0 := vflat_get V i hi
    rw [Nat.zero_add]
    exact ⟨(h0.cellAt (i * 2) (by omega)).trans g0.1, (h0.cellAt (i * 2 + 1) (by omega)).trans g0.2⟩
theorem VS.on {w w' : World} {v : Value} {V : List (Nat × Bool)} (h : VS w v V) (hb : Below w.heap.size w w') : VS w' v V := by
  obtain ⟨a, cap, rfl, g⟩ := h
  refine ⟨a, cap, rfl, fun hp => ?_⟩
  obtain ⟨b, off, rfl, hlt, hc⟩ := g hp
  exact ⟨b, off, rfl, Nat.lt_of_lt_of_le hlt hb.size, fun i hi => ⟨bcell hb hlt (hc i hi).1, bcell hb hlt (hc i hi).2⟩⟩
theorem VsAt.on {w w' : World} {v : Value} {L : List (List (Nat × Bool))} (h : VsAt w v L) (hb : Below w.heap.size w w') : VsAt w' v L := by
  obtain ⟨ys, h1, h2, h3⟩ := h
  exact ⟨ys, h1, (h2.on hb).mono hb.size, fun j hj => (h3 j hj).on hb⟩

end Go.Proofs.YtlimfajjmhfnaaaGreatDoor
/- Lists of whole numbers that a call owns; the walk of gauss.evenNumbers. -/
namespace Go.Proofs.YtlimfajjmhfnaaaGreatDoor
open Go.RowKit

def intsV (l : List Int) : List Value := l.map fun x => .int .i64 x
theorem intsV_len (l : List Int) : (intsV l).length = l.length := by simp [intsV]
theorem intsV_get (l : List Int) (i : Nat) (h : i < l.length) : (intsV l)[i]? = some (.int .i64 (l.getD i 0)) := by simp [intsV, List.getD, h]
theorem intsV_set (l : List Int) (i : Nat) (x : Int) : (intsV l).set i (.int .i64 x) = intsV (l.set i x) := by simp [intsV, List.map_set]
theorem intsV_app (l : List Int) (x : Int) : intsV (l ++ [x]) = intsV l ++ [.int .i64 x] := by simp [intsV]
theorem made_zero (n : Nat) : (madeCells (Value.int .i64 0).cells (n * 1)).toList = intsV (List.replicate n 0) := by
  have e : (Value.int .i64 0).cells = #[Value.int .i64 0] := rfl
  rw [e, toList_madeCells_one, Nat.mul_one]
  simp [intsV]
/-- The even numbers of all crossings, behind j even visits. -/
def evL (x : Nat → Nat) (o : Nat → Bool) (n j : Nat) : List Int := (List.range n).map fun c => evTo x o c j
theorem evL_len (x : Nat → Nat) (o : Nat → Bool) (n j : Nat) : (evL x o n j).length = n := by simp [evL]
theorem evL_at (x : Nat → Nat) (o : Nat → Bool) (n j c : Nat) (h : c < n) : (evL x o n j).getD c 0 = evTo x o c j := by simp [evL, List.getD, h]
theorem evL_zero (x : Nat → Nat) (o : Nat → Bool) (n : Nat) : evL x o n 0 = List.replicate n 0 := by
  unfold evL
  simp only [evTo]
  rw [List.map_const', List.length_range]
theorem evL_next (x : Nat → Nat) (o : Nat → Bool) (n j c : Nat) (h : x (2 * j + 1) = c) (hc : c < n) : (evL x o n j).set c (evN o j) = evL x o n (j + 1) := by
  apply List.ext_getElem?
  intro i
  rw [List.getElem?_set]
  by_cases hi : i < n
  · by_cases e : c = i
    · subst e
      simp [evL, evTo, h, hc]
    · rw [if_neg e]
      simp [evL, hi, evTo, h, e]
  · rw [List.getElem?_eq_none (by rw [evL_len]; omega), List.getElem?_eq_none (by rw [evL_len]; omega)]
    split
    · split
      · next h1 => rw [evL_len] at h1; omega
      · rfl
    · rfl
theorem evTo_le (x : Nat → Nat) (o : Nat → Bool) (c j : Nat) : -(2 * (j : Int)) ≤ evTo x o c j ∧ evTo x o c j ≤ 2 * (j : Int) := by
  induction j with
  | zero => simp [evTo]
  | succ j ih =>
    simp only [evTo, evN]
    split
    · split <;> omega
    · omega
/-- The visits of a list, place by place. -/
def vX (V : List (Nat × Bool)) (p : Nat) : Nat := (V.getD p (0, false)).1
def vO (V : List (Nat × Bool)) (p : Nat) : Bool := (V.getD p (0, false)).2

end Go.Proofs.YtlimfajjmhfnaaaGreatDoor
/- Slices that are read; lists of numbers that stand in a function's values; which walk an arc lies in. -/
namespace Go.Proofs.YtlimfajjmhfnaaaGreatDoor
open Go.RowKit

/-- A slice to be read: nil; with no element; or its cells lie there, below B. -/
def RdAt (w : World) (B size : Nat) (v : Value) (n : Nat) (xs : List Value) : Prop := ∃ a cap, v = .slice a n cap ∧ (0 < n → ∃ b off, a = some ⟨b, off, none⟩ ∧ b < B ∧ ∀ j, j < n * size → w.cell? ⟨b, off + j, none⟩ = xs[j]?)
theorem RdAt.on {w w' : World} {B size n : Nat} {v : Value} {xs : List Value} (h : RdAt w B size v n xs) (hb : Below B w w') : RdAt w' B size v n xs := by
  obtain ⟨a, cap, rfl, f⟩ := h
  refine ⟨a, cap, rfl, fun h0 => ?_⟩
  obtain ⟨b, off, rfl, hlt, hc⟩ := f h0
  exact ⟨b, off, rfl, hlt, fun j hj => bcell hb hlt (hc j hj)⟩
theorem RdAt.mono {w : World} {B B' size n : Nat} {v : Value} {xs : List Value} (h : RdAt w B size v n xs) (hB : B ≤ B') : RdAt w B' size v n xs := by
  obtain ⟨a, cap, rfl, f⟩ := h
  refine ⟨a, cap, rfl, fun h0 => ?_⟩
  obtain ⟨b, off, rfl, hlt, hc⟩ := f h0
  exact ⟨b, off, rfl, Nat.lt_of_lt_of_le hlt hB, hc⟩
theorem own_rd {w : World} {B e size n : Nat} {v : Value} {xs : List Value} (h : w.ownsRow B e size v n xs) : RdAt w w.heap.size size v n xs := by
  have h0 := h
  rcases h.2 with ⟨rfl, h1⟩ | ⟨g, cap, cur, rfl, _, _, _⟩
  · exact ⟨none, 0, by rw [h1], fun hp => by omega⟩
  · exact ⟨some ⟨g, 0, none⟩, cap, rfl, fun _ => ⟨g, 0, rfl, (h0.lt g rfl).2, fun j hj => by rw [Nat.zero_add]; exact h0.cellAt j hj⟩⟩
/-- Lists of numbers to be read. -/
def NatsRd (w : World) (B : Nat) (v : Value) (L : List (List Nat)) : Prop := ∃ ys : List Value, ys.length = L.length ∧ RdAt w B 1 v L.length ys ∧ ∀ j, j < L.length → RdAt w B 1 (ys.getD j (.bool false)) (L.getD j []).length (nats (L.getD j []))
theorem NatsRd.on {w w' : World} {B : Nat} {v : Value} {L : List (List Nat)} (h : NatsRd w B v L) (hb : Below B w w') : NatsRd w' B v L := by
  obtain ⟨ys, hy, h1, h2⟩ := h
  exact ⟨ys, hy, h1.on hb, fun j hj => (h2 j hj).on hb⟩
theorem NatsRd.mono {w : World} {B B' : Nat} {v : Value} {L : List (List Nat)} (h : NatsRd w B v L) (hB : B ≤ B') : NatsRd w B' v L := by
  obtain ⟨ys, hy, h1, h2⟩ := h
  exact ⟨ys, hy, h1.mono hB, fun j hj => (h2 j hj).mono hB⟩
theorem NatsRd.up {w w' : World} {v : Value} {L : List (List Nat)} (h : NatsRd w w.heap.size v L) (hb : Below w.heap.size w w') : NatsRd w' w'.heap.size v L := (h.on hb).mono hb.size
theorem NatsOwn.rd {w : World} {B : Nat} {v : Value} {L : List (List Nat)} (h : NatsOwn w B v L) : NatsRd w w.heap.size v L := by
  obtain ⟨ys, hy, h1, h2⟩ := h
  exact ⟨ys, hy, by rw [← hy]; exact own_rd h1, fun j hj => own_rd (h2 j hj)⟩
theorem NatsRd.len {w : World} {B : Nat} {v : Value} {L : List (List Nat)} (h : NatsRd w B v L) : ∃ a cap, v = .slice a L.length cap := by
  obtain ⟨ys, hy, ⟨a, cap, e, -⟩, h2⟩ := h
  exact ⟨a, cap, e⟩
/-- The row j, and where it stands. -/
theorem NatsRd.row {w : World} {B : Nat} {a : Option Addr} {cap : Nat} {L : List (List Nat)} (h : NatsRd w B (.slice a L.length cap) L) (j : Nat) (hj : j < L.length) :
    ∃ b off ar cr, a = some ⟨b, off, none⟩ ∧ b < B ∧ w.cell? ⟨b, off + j, none⟩ = some (.slice ar (L.getD j []).length cr) ∧ RdAt w B 1 (.slice ar (L.getD j []).length cr) (L.getD j []).length (nats (L.getD j [])) := by
  obtain ⟨ys, hy, ⟨a', cap', e, f⟩, h2⟩ := h
  injection e with e1 e2 e3
  obtain ⟨b, off, eb, hlt, hc⟩ := f (by omega)
  have hr := h2 j hj
  obtain ⟨ar, cr, er, -⟩ := hr
  have hr := h2 j hj
  rw [er] at hr
  refine ⟨b, off, ar, cr, e1.trans eb, hlt, ?_, hr⟩
  rw [hc j (by omega), ← er]
  simp [List.getD, hy, hj]
theorem RdAt.nat {w : World} {B : Nat} {a : Option Addr} {cap : Nat} {l : List Nat} (h : RdAt w B 1 (.slice a l.length cap) l.length (nats l)) (k : Nat) (hk : k < l.length) :
    ∃ b off, a = some ⟨b, off, none⟩ ∧ b < B ∧ w.cell? ⟨b, off + k, none⟩ = some (.int .i64 (l.getD k 0 : Nat)) := by
  obtain ⟨a', cap', e, f⟩ := h
  injection e with e1 e2 e3
  obtain ⟨b, off, eb, hlt, hc⟩ := f (by omega)
  exact ⟨b, off, e1.trans eb, hlt, (hc k (by omega)).trans (nats_get l k hk)⟩

/-- A function's values, as a list. -/
def mapI (m : Nat) (f : Nat → Int) : List Int := (List.range m).map f
theorem mapI_len (m : Nat) (f : Nat → Int) : (mapI m f).length = m := by simp [mapI]
theorem mapI_get (m : Nat) (f : Nat → Int) (i : Nat) (h : i < m) : (mapI m f)[i]? = some (f i) := by simp [mapI, h]
theorem mapI_at (m : Nat) (f : Nat → Int) (i : Nat) (h : i < m) : (mapI m f).getD i 0 = f i := by rw [List.getD_eq_getElem?_getD, mapI_get m f i h]; rfl
theorem mapI_set (m : Nat) (f g : Nat → Int) (i : Nat) (x : Int) (h : ∀ j, j < m → g j = if j = i then x else f j) : (mapI m f).set i x = mapI m g := by
  apply List.ext_getElem?
  intro j
  by_cases hj : j < m
  · rw [mapI_get m g j hj, h j hj, List.getElem?_set]
    by_cases e : i = j
    · subst e; simp [mapI_len, hj]
    · rw [if_neg e, if_neg (fun h => e h.symm), mapI_get m f j hj]
  · rw [List.getElem?_eq_none (by simp [mapI_len]; omega), List.getElem?_eq_none (by simp [mapI_len]; omega)]
theorem mapI_zero (m : Nat) (f : Nat → Int) (h : ∀ j, j < m → f j = 0) : mapI m f = List.replicate m 0 := by
  apply List.ext_getElem?
  intro j
  by_cases hj : j < m
  · rw [mapI_get m f j hj, h j hj]; simp [hj]
  · rw [List.getElem?_eq_none (by simp [mapI_len]; omega), List.getElem?_eq_none (by simp; omega)]
theorem mapI_congr (m : Nat) (f g : Nat → Int) (h : ∀ j, j < m → f j = g j) : mapI m f = mapI m g := List.map_congr_left fun j hj => h j (List.mem_range.1 hj)

/-- All numbers of the first i rows, and the first k of row i. -/
def upN (L : List (List Nat)) (i k : Nat) : List Nat := (L.take i).flatten ++ (L.getD i []).take k
theorem upN_zero (L : List (List Nat)) : upN L 0 0 = [] := by simp [upN]
theorem upN_row (L : List (List Nat)) (j : Nat) (h : j < L.length) : upN L j (L.getD j []).length = upN L (j + 1) 0 := by
  unfold upN
  rw [List.take_length, List.take_succ_eq_append_getElem h, List.flatten_append, List.getD_eq_getElem?_getD]
  simp [h]
theorem upN_next (L : List (List Nat)) (j k : Nat) (h : k < (L.getD j []).length) : upN L j (k + 1) = upN L j k ++ [(L.getD j []).getD k 0] := by
  unfold upN
  rw [List.take_succ_eq_append_getElem h, ← List.append_assoc]
  congr 2
  rw [List.getD_eq_getElem?_getD (l := L.getD j []), List.getElem?_eq_getElem h]
  rfl
theorem upN_all (L : List (List Nat)) : upN L L.length 0 = L.flatten := by simp [upN]
/-- In which row a number lies. -/
def pt (L : List (List Nat)) (a : Nat) : Nat := L.findIdx fun l => decide (a ∈ l)
theorem two_rows (a : Nat) : ∀ (L : List (List Nat)) (i j : Nat), i < j → j < L.length → a ∈ L.getD i [] → a ∈ L.getD j [] → 2 ≤ L.flatten.count a
  | [], i, j, _, h, _, _ => absurd h (by simp)
  | x :: t, 0, j + 1, _, hj, h1, h2 => by
    have h3 : 1 ≤ x.count a := List.one_le_count_iff.2 (by simpa using h1)
    have hj' : j < t.length := by simpa using hj
    have h4 : a ∈ t.flatten := by
      refine List.mem_flatten.2 ⟨t.getD j [], ?_, by simpa using h2⟩
      rw [List.getD_eq_getElem?_getD, List.getElem?_eq_getElem hj']
      exact List.getElem_mem hj'
    have h5 : 1 ≤ t.flatten.count a := List.one_le_count_iff.2 h4
    rw [List.flatten_cons, List.count_append]
    omega
  | x :: t, i + 1, j + 1, hij, hj, h1, h2 => by
    have := two_rows a t i j (by omega) (by simpa using hj) (by simpa using h1) (by simpa using h2)
    rw [List.flatten_cons, List.count_append]
    omega
theorem pt_is {L : List (List Nat)} {a i : Nat} (h1 : L.flatten.count a = 1) (hi : i < L.length) (ha : a ∈ L.getD i []) : pt L a = i := by
  have hle : pt L a ≤ i := by
    refine Classical.byContradiction fun hc => ?_
    have := List.not_of_lt_findIdx (p := fun l => decide (a ∈ l)) (xs := L) (i := i) (by unfold pt at hc; omega)
    rw [List.getD_eq_getElem?_getD, List.getElem?_eq_getElem hi] at ha
    simp at this
    exact this (by simpa using ha)
  rcases Nat.lt_or_ge (pt L a) i with h | h
  · have hl : pt L a < L.length := by omega
    have hm := List.findIdx_getElem (p := fun l => decide (a ∈ l)) (xs := L) (w := hl)
    have hm2 : a ∈ L.getD (pt L a) [] := by
      rw [List.getD_eq_getElem?_getD, List.getElem?_eq_getElem hl]
      exact of_decide_eq_true hm
    have := two_rows a L (pt L a) i h hi hm2 ha
    omega
  · omega
theorem pt_lt {L : List (List Nat)} {a : Nat} (h1 : L.flatten.count a = 1) : pt L a < L.length := by
  have : a ∈ L.flatten := List.one_le_count_iff.1 (by omega)
  obtain ⟨l, hl, ha⟩ := List.mem_flatten.1 this
  exact List.findIdx_lt_length_of_exists ⟨l, hl, by simpa using ha⟩
theorem pt_mem {L : List (List Nat)} {a i : Nat} (h1 : L.flatten.count a = 1) (hi : i < L.length) : a ∈ L.getD i [] ↔ pt L a = i := by
  constructor
  · exact pt_is h1 hi
  · intro e
    have hl : pt L a < L.length := by omega
    have hm := List.findIdx_getElem (p := fun l => decide (a ∈ l)) (xs := L) (w := hl)
    rw [← e, List.getD_eq_getElem?_getD, List.getElem?_eq_getElem hl]
    exact of_decide_eq_true hm
/-- The rows' numbers, painted so far. -/
def paint (L : List (List Nat)) (i k a : Nat) : Int := if a ∈ upN L i k then (pt L a : Int) else 0
theorem paint_next (L : List (List Nat)) (m i k : Nat) (h1 : ∀ a, a ∈ L.flatten → L.flatten.count a = 1) (hi : i < L.length) (hk : k < (L.getD i []).length) : (mapI m (paint L i k)).set ((L.getD i []).getD k 0) (i : Int) = mapI m (paint L i (k + 1)) := by
  have hmem : (L.getD i []).getD k 0 ∈ L.getD i [] := by
    rw [List.getD_eq_getElem?_getD (l := L.getD i []), List.getElem?_eq_getElem hk]
    exact List.getElem_mem hk
  have hfl : (L.getD i []).getD k 0 ∈ L.flatten := by
    refine List.mem_flatten.2 ⟨L.getD i [], ?_, hmem⟩
    rw [List.getD_eq_getElem?_getD, List.getElem?_eq_getElem hi]
    exact List.getElem_mem hi
  have hp := pt_is (h1 _ hfl) hi hmem
  refine mapI_set _ _ _ _ _ fun j _ => ?_
  unfold paint
  rw [upN_next L i k hk]
  by_cases e : j = (L.getD i []).getD k 0
  · rw [if_pos e, e, if_pos (by simp), hp]
  · rw [if_neg e]
    simp only [List.mem_append, List.mem_singleton]
    by_cases h : j ∈ upN L i k
    · rw [if_pos h, if_pos (Or.inl h)]
    · rw [if_neg h, if_neg (fun hh => hh.elim h e)]
end Go.Proofs.YtlimfajjmhfnaaaGreatDoor

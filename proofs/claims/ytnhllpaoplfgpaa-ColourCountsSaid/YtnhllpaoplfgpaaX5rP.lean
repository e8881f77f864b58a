/- Several texts of the proof, one behind the other. -/
import Derived.Test.YtnhllpaoplfgpaaIn
/- Tables of numbers that are read. -/
namespace Go.Proofs.Ytnhllpaoplfgpaa
open Go.RowKit

theorem RdAt.slots {w : World} {B n : Nat} {v : Value} {xs : List Value} (h : RdAt w B 1 v n xs) (hl : xs.length = n) : Slots w B v xs := by
  obtain ⟨a, cap, rfl, f⟩ := h
  subst hl
  refine ⟨a, cap, rfl, fun h0 => ?_⟩
  obtain ⟨b, off, rfl, hlt, hc⟩ := f h0
  refine ⟨b, off, rfl, hlt, fun i hi => ?_⟩
  rw [hc i (by omega)]
  simp [List.getD, hi]
/-- Lists of numbers, to be read. -/
def IntsRd (w : World) (B : Nat) (v : Value) (L : List (List Int)) : Prop := ∃ ys : List Value, ys.length = L.length ∧ RdAt w B 1 v L.length ys ∧ ∀ j, j < L.length → RdAt w B 1 (ys.getD j (.bool false)) (L.getD j []).length (intsV (L.getD j []))
theorem IntsRd.on {w w' : World} {B : Nat} {v : Value} {L : List (List Int)} (h : IntsRd w B v L) (hb : Below B w w') : IntsRd w' B v L := by
  obtain ⟨ys, hy, h1, h2⟩ := h
  exact ⟨ys, hy, h1.on hb, fun j hj => (h2 j hj).on hb⟩
theorem IntsRd.up {w w' : World} {v : Value} {L : List (List Int)} (h : IntsRd w w.heap.size v L) (hb : Below w.heap.size w w') : IntsRd w' w'.heap.size v L := by
  obtain ⟨ys, hy, h1, h2⟩ := h
  exact ⟨ys, hy, (h1.on hb).mono hb.size, fun j hj => ((h2 j hj).on hb).mono hb.size⟩
theorem IntsRd.len {w : World} {B : Nat} {v : Value} {L : List (List Int)} (h : IntsRd w B v L) : ∃ a cap, v = .slice a L.length cap := by
  obtain ⟨ys, hy, ⟨a, cap, e, -⟩, h2⟩ := h
  exact ⟨a, cap, e⟩
theorem IntsRd.row {w : World} {B : Nat} {a : Option Addr} {cap : Nat} {L : List (List Int)} (h : IntsRd w B (.slice a L.length cap) L) (j : Nat) (hj : j < L.length) :
    ∃ b off ar cr, a = some ⟨b, off, none⟩ ∧ b < B ∧ w.cell? ⟨b, off + j, none⟩ = some (.slice ar (L.getD j []).length cr) ∧ RdAt w B 1 (.slice ar (L.getD j []).length cr) (L.getD j []).length (intsV (L.getD j [])) := by
  obtain ⟨ys, hy, ⟨a', cap', e, f⟩, h2⟩ := h
  injection e with e1 e2 e3
  obtain ⟨b, off, eb, hlt, hc⟩ := f (by omega)
  have hr := h2 j hj
  obtain ⟨ar, cr, er, -⟩ := hr
  have hr := h2 j hj
  rw [er] at hr
  refine ⟨b, off, ar, cr, e1.trans eb, hlt, ?_, hr⟩
  rw [hc j (by omega), ← er]
  simp [List.getD, hy, hj]
theorem NatsRd.ints {w : World} {B : Nat} {v : Value} {L : List (List Nat)} (h : NatsRd w B v L) : IntsRd w B v (L.map fun l => l.map fun (x : Nat) => (x : Int)) := by
  obtain ⟨ys, hy, h1, h2⟩ := h
  have hg : ∀ j, j < L.length → (L.map fun l => l.map fun (x : Nat) => (x : Int)).getD j [] = (L.getD j []).map fun (x : Nat) => (x : Int) := fun j hj => by simp [List.getD, hj]
  refine ⟨ys, by simpa using hy, by simpa using h1, fun j hj => ?_⟩
  have hj' : j < L.length := by simpa using hj
  rw [hg j hj']
  have e : intsV ((L.getD j []).map fun (x : Nat) => (x : Int)) = nats (L.getD j []) := by simp [intsV, nats]
  rw [e, List.length_map]
  exact h2 j hj'

end Go.Proofs.Ytnhllpaoplfgpaa
/- Tables of colours: which may be, which are quandles; a square table that is read. -/
namespace Go.Proofs.Ytnhllpaoplfgpaa
open Go.RowKit

theorem belowSet {B : Nat} {W w : World} (h : Below B W w) {s : Nat} (hs : B ≤ s) (i : Nat) (u : Value) : Below B W (w.setCell ⟨s, i, none⟩ u) := by
  refine ⟨h.os, h.tape, h.output, ?_, fun k hk => ?_⟩
  · have := h.size
    simpa using this
  · exact (heap_setCell_other w ⟨s, i, none⟩ k u (fun e => by simp only at e; omega)).trans (h.block k hk)
/-- A call answers whether P holds. -/
def SaysB (w : World) (P : Prop) (e : Ending) (w' : World) : Prop := ∃ r : Bool, e = .returned (.bool r) ∧ (r = true ↔ P) ∧ Below w.heap.size w w'
theorem SaysB.no {w w' : World} {P : Prop} (h : ¬ P) (hb : Below w.heap.size w w') : SaysB w P (.returned (.bool false)) w' := ⟨false, rfl, ⟨(fun e => by cases e), fun p => absurd p h⟩, hb⟩
theorem SaysB.yes {w w' : World} {P : Prop} (h : P) (hb : Below w.heap.size w w') : SaysB w P (.returned (.bool true)) w' := ⟨true, rfl, ⟨fun _ => h, fun _ => rfl⟩, hb⟩
/-- A square table of one to four rows, of colours alone. -/
def RowOk (n : Nat) (r : List Int) : Prop := r.length = n ∧ ∀ x, x ∈ r → 0 ≤ x ∧ x < n
def TabQ (L : List (List Int)) : Prop := 1 ≤ L.length ∧ L.length ≤ 4 ∧ ∀ r, r ∈ L → RowOk L.length r
/-- What stands at a place. -/
def qe (L : List (List Int)) (i j : Nat) : Nat := ((L.getD i []).getD j 0).toNat
theorem getD_memL {α : Type} (l : List α) (i : Nat) (d : α) (h : i < l.length) : l.getD i d ∈ l := by
  rw [List.getD_eq_getElem?_getD, List.getElem?_eq_getElem h]; exact List.getElem_mem h
theorem mem_getDL {α : Type} {l : List α} {x : α} (d : α) (h : x ∈ l) : ∃ i, i < l.length ∧ l.getD i d = x := by
  obtain ⟨i, hi, e⟩ := List.mem_iff_getElem.1 h
  exact ⟨i, hi, by rw [List.getD_eq_getElem?_getD, List.getElem?_eq_getElem hi]; exact e⟩
theorem TabQ.len {L : List (List Int)} (h : TabQ L) (i : Nat) (hi : i < L.length) : (L.getD i []).length = L.length := (h.2.2 _ (getD_memL L i [] hi)).1
theorem TabQ.int {L : List (List Int)} (h : TabQ L) (i j : Nat) (hi : i < L.length) (hj : j < L.length) : (L.getD i []).getD j 0 = (qe L i j : Nat) ∧ qe L i j < L.length := by
  have h1 := (h.2.2 _ (getD_memL L i [] hi)).2 ((L.getD i []).getD j 0) (getD_memL _ j 0 (by rw [h.len i hi]; exact hj))
  unfold qe
  omega
/-- A quandle of n colours. -/
def cntQ (n : Nat) (p : Nat → Bool) : Nat := ((List.range n).filter p).length
structure Qdl (n : Nat) (q : Nat → Nat → Nat) : Prop where
  self : ∀ a, a < n → q a a = a
  once : ∀ b c, b < n → c < n → cntQ n (fun a => decide (q a b = c)) = 1
  law : ∀ a b c, a < n → b < n → c < n → q (q a b) c = q (q a c) (q b c)
/-- No colour is hit twice: then each is hit once. -/
def qcol (x0 x1 x2 x3 : Nat) (i : Nat) : Nat := match i with | 0 => x0 | 1 => x1 | 2 => x2 | _ => x3
theorem hit_all : ((List.range 5).all fun n => (List.range 4).all fun x0 => (List.range 4).all fun x1 => (List.range 4).all fun x2 => (List.range 4).all fun x3 =>
    !((List.range n).all fun a => decide (qcol x0 x1 x2 x3 a < n)) || (((List.range n).all fun a => (List.range a).all fun b => !decide (qcol x0 x1 x2 x3 b = qcol x0 x1 x2 x3 a)) == ((List.range n).all fun c => decide (cntQ n (fun a => decide (qcol x0 x1 x2 x3 a = c)) = 1)))) = true := by decide +kernel
theorem cntQ_congr {n : Nat} {p q : Nat → Bool} (h : ∀ a, a < n → p a = q a) : cntQ n p = cntQ n q := by
  unfold cntQ
  congr 1
  exact List.filter_congr fun a ha => h a (List.mem_range.1 ha)
theorem hits_once {n : Nat} (hn : n ≤ 4) (f : Nat → Nat) (hf : ∀ a, a < n → f a < n) : (∀ a b, a < n → b < a → f b ≠ f a) ↔ ∀ c, c < n → cntQ n (fun a => decide (f a = c)) = 1 := by
  have e : ∀ a, a < n → qcol (if 0 < n then f 0 else 0) (if 1 < n then f 1 else 0) (if 2 < n then f 2 else 0) (if 3 < n then f 3 else 0) a = f a := fun a ha => by
    match a, ha with
    | 0, ha => simp [qcol, ha]
    | 1, ha => simp [qcol, ha]
    | 2, ha => simp [qcol, ha]
    | 3, ha => simp [qcol, ha]
    | a + 4, ha => omega
  have m : ∀ k, (if k < n then f k else 0) ∈ List.range 4 := fun k => by
    split
    · rename_i h; have := hf k h; exact List.mem_range.2 (by omega)
    · exact List.mem_range.2 (by omega)
  have H := List.all_eq_true.1 (List.all_eq_true.1 (List.all_eq_true.1 (List.all_eq_true.1 (List.all_eq_true.1 hit_all n (List.mem_range.2 (by omega))) _ (m 0)) _ (m 1)) _ (m 2)) _ (m 3)
  generalize qcol (if 0 < n then f 0 else 0) (if 1 < n then f 1 else 0) (if 2 < n then f 2 else 0) (if 3 < n then f 3 else 0) = g at H e
  have hg : ((List.range n).all fun a => decide (g a < n)) = true := List.all_eq_true.2 fun a ha => by
    rw [e a (List.mem_range.1 ha)]
    exact decide_eq_true (hf a (List.mem_range.1 ha))
  rw [hg] at H
  have H2 : ((List.range n).all fun a => (List.range a).all fun b => !decide (g b = g a)) = ((List.range n).all fun c => decide (cntQ n (fun a => decide (g a = c)) = 1)) := by simpa using H
  have l1 : (∀ a b, a < n → b < a → f b ≠ f a) ↔ ((List.range n).all fun a => (List.range a).all fun b => !decide (g b = g a)) = true := by
    simp only [List.all_eq_true, List.mem_range, Bool.not_eq_true', decide_eq_false_iff_not]
    constructor
    · intro h a ha b hb; rw [e a ha, e b (by omega)]; exact h a b ha hb
    · intro h a b ha hb; have := h a ha b hb; rwa [e a ha, e b (by omega)] at this
  have l2 : (∀ c, c < n → cntQ n (fun a => decide (f a = c)) = 1) ↔ ((List.range n).all fun c => decide (cntQ n (fun a => decide (g a = c)) = 1)) = true := by
    simp only [List.all_eq_true, List.mem_range, decide_eq_true_eq]
    have e2 : ∀ c, cntQ n (fun a => decide (g a = c)) = cntQ n (fun a => decide (f a = c)) := fun c => cntQ_congr fun a ha => by rw [e a ha]
    constructor
    · intro h c hc; rw [e2]; exact h c hc
    · intro h c hc; rw [← e2]; exact h c hc
  rw [l1, l2, H2]
/-- A square table to be read: where its rows lie. -/
structure QT (w : World) (B b off n : Nat) (rb ro rc : Nat → Nat) (q : Nat → Nat → Nat) : Prop where
  lt : b < B
  rlt : ∀ i, i < n → rb i < B
  row : ∀ i, i < n → w.cell? ⟨b, off + i, none⟩ = some (.slice (some ⟨rb i, ro i, none⟩) n (rc i))
  cell : ∀ i j, i < n → j < n → w.cell? ⟨rb i, ro i + j, none⟩ = some (.int .i64 (q i j : Nat))
theorem QT.on {w w' : World} {B b off n : Nat} {rb ro rc : Nat → Nat} {q : Nat → Nat → Nat} (h : QT w B b off n rb ro rc q) (hb : Below B w w') : QT w' B b off n rb ro rc q :=
  ⟨h.lt, h.rlt, fun i hi => bcell hb h.lt (h.row i hi), fun i j hi hj => bcell hb (h.rlt i hi) (h.cell i j hi hj)⟩
theorem QT.mono {w : World} {B B' b off n : Nat} {rb ro rc : Nat → Nat} {q : Nat → Nat → Nat} (h : QT w B b off n rb ro rc q) (hB : B ≤ B') : QT w B' b off n rb ro rc q :=
  ⟨Nat.lt_of_lt_of_le h.lt hB, fun i hi => Nat.lt_of_lt_of_le (h.rlt i hi) hB, h.row, h.cell⟩
theorem QT.up {w w' : World} {b off n : Nat} {rb ro rc : Nat → Nat} {q : Nat → Nat → Nat} (h : QT w w.heap.size b off n rb ro rc q) (hb : Below w.heap.size w w') : QT w' w'.heap.size b off n rb ro rc q := (h.on hb).mono hb.size
theorem IntsRd.qt {w : World} {B : Nat} {v : Value} {L : List (List Int)} (h : IntsRd w B v L) (hT : TabQ L) : ∃ b off cap rb ro rc, v = .slice (some ⟨b, off, none⟩) L.length cap ∧ QT w B b off L.length rb ro rc (qe L) := by
  obtain ⟨a, cap, rfl⟩ := h.len
  have hex : ∀ i, ∃ x : Nat × Nat × Nat, i < L.length → ∃ b off, a = some ⟨b, off, none⟩ ∧ b < B ∧ x.1 < B ∧ w.cell? ⟨b, off + i, none⟩ = some (.slice (some ⟨x.1, x.2.1, none⟩) L.length x.2.2) ∧ ∀ j, j < L.length → w.cell? ⟨x.1, x.2.1 + j, none⟩ = some (.int .i64 (qe L i j : Nat)) := fun i => by
    by_cases hi : i < L.length
    · obtain ⟨b, off, ar, cr, e, hlt, hc, hr⟩ := h.row i hi
      obtain ⟨a', cap', e', f⟩ := hr
      injection e' with e1 e2 e3
      have hl := hT.len i hi
      obtain ⟨br, fr, er, hltr, hcr⟩ := f (by rw [hl]; have := hT.1; omega)
      refine ⟨(br, fr, cr), fun _ => ⟨b, off, e, hlt, hltr, ?_, fun j hj => ?_⟩⟩
      · rw [hc, e1, er, hl]
      · rw [hcr j (by rw [hl]; omega)]
        have h2 := intsV_get (L.getD i []) j (by rw [hl]; exact hj)
        rw [h2, (hT.int i j hi hj).1]
    · exact ⟨(0, 0, 0), fun h => absurd h hi⟩
  have hc := fun i => Classical.choose_spec (hex i)
  generalize hx : (fun i => Classical.choose (hex i)) = x at hc
  have hx' : ∀ i, Classical.choose (hex i) = x i := fun i => by rw [← hx]
  obtain ⟨b, off, e, hlt, -⟩ := hc 0 (by have := hT.1; omega)
  subst e
  refine ⟨b, off, cap, fun i => (x i).1, fun i => (x i).2.1, fun i => (x i).2.2, rfl, hlt, fun i hi => ?_, fun i hi => ?_, fun i j hi hj => ?_⟩
  all_goals
    obtain ⟨b', off', e', -, h3, h4, h5⟩ := hc i hi
    rw [hx'] at h3 h4 h5
    have e2 : b' = b ∧ off' = off := by
      have := Option.some.inj e'
      injection this with q1 q2 q3
      exact ⟨q1.symm, q2.symm⟩
    rw [e2.1, e2.2] at h4
  · exact h3
  · exact h4
  · exact h5 j hj
end Go.Proofs.Ytnhllpaoplfgpaa
/- The walks of colour.tableOfColours, hitsAll and quandle. -/
namespace Go.Proofs.Ytnhllpaoplfgpaa
open Go.RowKit

set_option maxHeartbeats 4000000 in
set_option maxRecDepth 100000 in
theorem tableOfColours_any (v : Value) (L : List (List Int)) (w : World) (h : IntsRd w w.heap.size v L) :
    Calls Try.prog 125 #[v] w (SaysB w (TabQ L)) := by
  have HI : Hid (IntsRd w w.heap.size v L) := h
  obtain ⟨a, cap, rfl⟩ := h.len
  have HB : Hid (Below w.heap.size w w) := Below.refl _ _
  clear h
  by_cases h0 : 1 ≤ L.length ∧ L.length ≤ 4
  · obtain ⟨h1, h4⟩ := h0
    obtain ⟨b, off, -, -, ea, hbw, -, -⟩ := HI.out.row 0 (by omega)
    subst ea
    have hz0 : ((L.length : Int) == 0) = false := beq_eq_false_iff_ne.2 (by omega)
    have hz1 : decide ((4 : Int) < (L.length : Int)) = false := by simp; omega
    go_enter Try.func125, Try.ntmps125
    go_wp2
    go_loopw [17] (fun v17 wr => ∃ i : Nat, i ≤ L.length ∧ v17 = .int .i64 (i : Nat) ∧ Hid ((∀ k, k < i → RowOk L.length (L.getD k [])) ∧ Below w.heap.size w wr)) (fun v17 _ => L.length - (intOf v17).toNat)
    case atStart => exact ⟨0, Nat.zero_le _, rfl, ⟨fun k hk => absurd hk (Nat.not_lt_zero _), HB.out⟩⟩
    case round =>
      clear HB
      rename World => W1
      obtain ⟨i, hin, rfl, hp⟩ := hrel
      by_cases hil : i < L.length
      · obtain ⟨b', off', ar, cr, ea, hbw', hc, hr⟩ := HI.out.row i hil
        have e2 : b' = b ∧ off' = off := by
          have := Option.some.inj ea
          injection this with q1 q2 q3
          exact ⟨q1.symm, q2.symm⟩
        rw [e2.1, e2.2] at hc
        obtain ⟨V, hV⟩ : ∃ V, L.getD i [] = V := ⟨_, rfl⟩
        have HV : Hid (L.getD i [] = V) := hV
        rw [hV] at hc hr
        have c0 : W1.cell? ⟨b, off + i, none⟩ = some (.slice ar V.length cr) := bcell hp.out.2 hbw hc
        have HR : Hid (RdAt w w.heap.size 1 (.slice ar V.length cr) V.length (intsV V)) := hr
        clear ea e2 hbw' hc hr hV
        by_cases hvl : V.length = L.length
        · have hne : ((V.length : Int) != (L.length : Int)) = false := by simp [hvl]
          have HVL : Hid (V.length = L.length) := hvl
          have hv1 : 1 ≤ V.length := by omega
          have hv4 : V.length ≤ 4 := by omega
          clear hvl
          go_wp2
          obtain ⟨br, fr, er, hbr, hcr⟩ : ∃ br fr, ar = some ⟨br, fr, none⟩ ∧ br < w.heap.size ∧ ∀ j, j < V.length → w.cell? ⟨br, fr + j, none⟩ = some (.int .i64 (V.getD j 0)) := by
            obtain ⟨a', cap', e', f⟩ := HR.out
            injection e' with e1 e2 e3
            obtain ⟨br, fr, er, hbr, hc⟩ := f (by omega)
            exact ⟨br, fr, e1.trans er, hbr, fun j hj => by rw [hc j (by omega), intsV_get V j hj]⟩
          subst er
          have HC : Hid (∀ j, j < V.length → w.cell? ⟨br, fr + j, none⟩ = some (.int .i64 (V.getD j 0))) := hcr
          clear hcr
          go_loopw [28] (fun v28 wr => ∃ j : Nat, j ≤ V.length ∧ v28 = .int .i64 (j : Nat) ∧ Hid ((∀ k, k < j → 0 ≤ V.getD k 0 ∧ V.getD k 0 < L.length) ∧ Below w.heap.size w wr)) (fun v28 _ => V.length - (intOf v28).toNat)
          case atStart => exact ⟨0, Nat.zero_le _, rfl, ⟨fun k hk => absurd hk (Nat.not_lt_zero _), hp.out.2⟩⟩
          case round =>
            rename World => W2
            obtain ⟨j, hjn, rfl, hp2⟩ := hrel
            by_cases hjl : j < V.length
            · obtain ⟨x, hx⟩ : ∃ x, V.getD j 0 = x := ⟨_, rfl⟩
              have HX : Hid (V.getD j 0 = x) := hx
              have e1 : W2.cell? ⟨br, fr + j, none⟩ = some (.int .i64 x) := by rw [← hx]; exact bcell hp2.out.2 hbr (HC.out j hjl)
              clear hx
              by_cases hx0 : x < 0
              · have hd0 : decide (x < 0) = true := by simp; omega
                have HF : Hid (¬ TabQ L) := fun h => by
                  have := (h.2.2 _ (getD_memL L i [] hil)).2 x (by rw [← HX.out, HV.out]; exact getD_memL V j 0 hjl)
                  omega
                go_wp2
                go_ret
                exact SaysB.no HF.out hp2.out.2
              · have hd0 : decide (x < 0) = false := by simp; omega
                by_cases hx1 : (L.length : Int) ≤ x
                · have hd1 : decide ((L.length : Int) ≤ x) = true := by simp; omega
                  have HF : Hid (¬ TabQ L) := fun h => by
                    have := (h.2.2 _ (getD_memL L i [] hil)).2 x (by rw [← HX.out, HV.out]; exact getD_memL V j 0 hjl)
                    omega
                  go_wp2
                  go_ret
                  exact SaysB.no HF.out hp2.out.2
                · have hd1 : decide ((L.length : Int) ≤ x) = false := by simp; omega
                  go_wp2
                  go_roundw
                  case rel => exact ⟨j + 1, by omega, by go_num, ⟨fun k hk => by
                    by_cases e : k = j
                    · rw [e, HX.out]; omega
                    · exact hp2.out.1 k (by omega), hp2.out.2⟩⟩
                  case measure => simp only [intOf]; omega
            · obtain rfl : j = V.length := by omega
              go_wp2
              go_roundw
              case rel => exact ⟨i + 1, by omega, by go_num, ⟨fun k hk => by
                by_cases e : k = i
                · rw [e, HV.out]
                  exact ⟨HVL.out, fun x hx => by obtain ⟨m, hm, em⟩ := mem_getDL 0 hx; rw [← em]; exact hp2.out.1 m hm⟩
                · exact hp.out.1 k (by omega), hp2.out.2⟩⟩
              case measure => simp only [intOf]; omega
        · have hne : ((V.length : Int) != (L.length : Int)) = true := by simp; omega
          have HF : Hid (¬ TabQ L) := fun h => hvl (by rw [← HV.out]; exact h.len i hil)
          clear hvl
          go_wp2
          go_ret
          exact SaysB.no HF.out hp.out.2
      · obtain rfl : i = L.length := by omega
        go_wp2
        go_ret
        exact SaysB.yes ⟨h1, h4, fun r hr => by obtain ⟨k, hk, e⟩ := mem_getDL [] hr; rw [← e]; exact hp.out.1 k hk⟩ hp.out.2
  · have hcl : L.length = 0 ∨ 4 < L.length := by omega
    have HN : Hid (¬ TabQ L) := fun h => h0 ⟨h.1, h.2.1⟩
    rcases hcl with h0 | h0
    · have hz0 : ((L.length : Int) == 0) = true := by simp [List.length_eq_zero_iff.1 h0]
      go_enter Try.func125, Try.ntmps125
      go_wp2
      go_ret
      exact SaysB.no HN.out HB.out
    · have hz0 : ((L.length : Int) == 0) = false := beq_eq_false_iff_ne.2 (by omega)
      have hz1 : decide ((4 : Int) < (L.length : Int)) = true := by simp; omega
      go_enter Try.func125, Try.ntmps125
      go_wp2
      go_ret
      exact SaysB.no HN.out HB.out

/-- Which colours are hit by the first i. -/
def hitB (q : Nat → Nat → Nat) (y i x : Nat) : Bool := (List.range i).any fun d => decide (q d y = x)
theorem hitB_iff (q : Nat → Nat → Nat) (y i x : Nat) : hitB q y i x = true ↔ ∃ d, d < i ∧ q d y = x := by simp [hitB]
theorem hitB_next (q : Nat → Nat → Nat) (y i x : Nat) : hitB q y (i + 1) x = (hitB q y i x || decide (q i y = x)) := by simp [hitB, List.range_succ]
structure HitAt (w : World) (q : Nat → Nat → Nat) (y i : Nat) (wr : World) : Prop where
  box : wr.heap[w.heap.size]? = some (.cells #[.bool (hitB q y i 0), .bool (hitB q y i 1), .bool (hitB q y i 2), .bool (hitB q y i 3)] 247 (0, 0))
  sep : ∀ c d, c < i → d < c → q d y ≠ q c y
  bel : Below w.heap.size w wr
theorem HitAt.start (w : World) (q : Nat → Nat → Nat) (y : Nat) : HitAt w q y 0 (w.alloc (.cells #[.bool false, .bool false, .bool false, .bool false] 247)) :=
  ⟨alloc_at rfl, fun _ _ h => absurd h (Nat.not_lt_zero _), (Below.refl _ _).alloc (Nat.le_refl _) _⟩
theorem HitAt.cell {w : World} {q : Nat → Nat → Nat} {y i : Nat} {wr : World} (h : HitAt w q y i wr) (x : Nat) (hx : x < 4) : wr.cell? ⟨w.heap.size, x, none⟩ = some (.bool (hitB q y i x)) := by
  refine block_cell h.box ?_
  match x, hx with
  | 0, _ => rfl
  | 1, _ => rfl
  | 2, _ => rfl
  | 3, _ => rfl
theorem HitAt.free {w : World} {q : Nat → Nat → Nat} {y i : Nat} {wr : World} (h : HitAt w q y i wr) (x : Nat) : wr.frozen? ⟨w.heap.size, x, none⟩ = false := block_frozen h.box
theorem HitAt.lt {w : World} {q : Nat → Nat → Nat} {y i : Nat} {wr : World} (h : HitAt w q y i wr) : w.heap.size < wr.heap.size := by
  rcases Nat.lt_or_ge w.heap.size wr.heap.size with k | k
  · exact k
  · have := h.box
    rw [Array.getElem?_eq_none k] at this
    cases this
theorem HitAt.set {w : World} {q : Nat → Nat → Nat} {y i : Nat} {wr : World} (h : HitAt w q y i wr) (x : Nat) (hx : x < 4) (hf : hitB q y i x = false) (e : q i y = x) : HitAt w q y (i + 1) (wr.setCell ⟨w.heap.size, x, none⟩ (.bool true)) := by
  refine ⟨?_, fun c d hc hd => ?_, belowSet h.bel (Nat.le_refl _) _ _⟩
  · rw [set_block h.box, hitB_next, hitB_next, hitB_next, hitB_next, e]
    match x, hx with
    | 0, _ => simp
    | 1, _ => simp
    | 2, _ => simp
    | 3, _ => simp
  · by_cases hci : c = i
    · subst hci
      intro he
      have : hitB q y c x = true := (hitB_iff q y c x).2 ⟨d, hd, he.trans e⟩
      rw [hf] at this
      cases this
    · exact h.sep c d (by omega) hd

set_option maxHeartbeats 4000000 in
set_option maxRecDepth 100000 in
theorem hitsAll_any (b off cap n : Nat) (rb ro rc : Nat → Nat) (q : Nat → Nat → Nat) (y : Nat) (w : World) (hn : n ≤ 4) (hy : y < n) (hq : ∀ i j, i < n → j < n → q i j < n) (h : QT w w.heap.size b off n rb ro rc q) :
    Calls Try.prog 176 #[.slice (some ⟨b, off, none⟩) n cap, .int .i64 (y : Nat)] w (SaysB w (∀ c d, c < n → d < c → q d y ≠ q c y)) := by
  have HI : Hid (QT w w.heap.size b off n rb ro rc q) := h
  have HB : Hid (Below w.heap.size w w) := Below.refl _ _
  clear h
  have hq4 : ∀ i j, i < n → j < n → q i j < 4 := fun i j hi hj => by have := hq i j hi hj; omega
  have HQ : Hid (∀ i j, i < n → j < n → q i j < 4) := hq4
  obtain ⟨X0, hX0⟩ : ∃ X, X = w.alloc (.cells #[.bool false, .bool false, .bool false, .bool false] 247) := ⟨_, rfl⟩
  have HX0 : Hid (HitAt w q y 0 X0) := (by rw [hX0]; exact HitAt.start w q y : HitAt w q y 0 X0)
  have HX1 : Hid (X0 = w.alloc (.cells #[.bool false, .bool false, .bool false, .bool false] 247)) := hX0
  clear hq hq4 hX0
  go_enter Try.func176, Try.ntmps176
  go_wp2
  rw [← HX1.out]
  clear HX1
  go_loopw [9] (fun v9 wr => ∃ i : Nat, i ≤ n ∧ v9 = .int .i64 (i : Nat) ∧ Hid (HitAt w q y i wr)) (fun v9 _ => n - (intOf v9).toNat)
  case atStart => exact ⟨0, Nat.zero_le _, rfl, HX0.out⟩
  case round =>
    clear HX0 HB
    rename World => W1
    obtain ⟨i, hin, rfl, hp⟩ := hrel
    by_cases hil : i < n
    · have hI := HI.out.on hp.out.bel
      have c0 := hI.row i hil
      have c1 := hI.cell i y hil hy
      have hx := HQ.out i y hil hy
      obtain ⟨x, ex⟩ : ∃ x, q i y = x := ⟨_, rfl⟩
      have HE : Hid (q i y = x) := ex
      rw [ex] at c1 hx
      have c2 := hp.out.cell x hx
      have z2 := hp.out.free x
      have hbW : b < W1.heap.size := Nat.lt_of_lt_of_le hI.lt hp.out.bel.size
      have hrW : rb i < W1.heap.size := Nat.lt_of_lt_of_le (hI.rlt i hil) hp.out.bel.size
      have hlW := hp.out.lt
      have hbw := hI.lt
      have hrw := hI.rlt i hil
      clear ex
      cases hh : hitB q y i x with
      | true =>
        rw [hh] at c2
        have HF : Hid (¬ ∀ c d, c < n → d < c → q d y ≠ q c y) := fun h => by
          obtain ⟨d, hd, e⟩ := (hitB_iff q y i x).1 hh
          exact h i d hil hd (by rw [e, HE.out])
        clear hh hI
        go_wp2
        go_ret
        exact SaysB.no HF.out hp.out.bel
      | false =>
        rw [hh] at c2
        have HS : Hid (HitAt w q y (i + 1) (W1.setCell ⟨w.heap.size, x, none⟩ (.bool true))) := hp.out.set x hx hh HE.out
        clear hh hI
        go_wp2
        go_roundw
        case rel => exact ⟨i + 1, by omega, by go_num, HS.out⟩
        case measure => simp only [intOf]; omega
    · obtain rfl : i = n := by omega
      go_wp2
      go_ret
      exact SaysB.yes hp.out.sep hp.out.bel

set_option maxHeartbeats 4000000 in
set_option maxRecDepth 100000 in
theorem quandle_any (b off cap n : Nat) (rb ro rc : Nat → Nat) (q : Nat → Nat → Nat) (w : World) (hn : n ≤ 4) (hq : ∀ i j, i < n → j < n → q i j < n) (h : QT w w.heap.size b off n rb ro rc q) :
    Calls Try.prog 126 #[.slice (some ⟨b, off, none⟩) n cap] w (SaysB w (Qdl n q)) := by
  have HI : Hid (QT w w.heap.size b off n rb ro rc q) := h
  have HB : Hid (Below w.heap.size w w) := Below.refl _ _
  clear h
  have HQ : Hid (∀ i j, i < n → j < n → q i j < n) := hq
  clear hq
  go_enter Try.func126, Try.ntmps126
  go_wp2
  go_loopw [9] (fun v9 wr => ∃ i : Nat, i ≤ n ∧ v9 = .int .i64 (i : Nat) ∧ Hid ((∀ a, a < i → q a a = a ∧ ∀ c d, c < n → d < c → q d a ≠ q c a) ∧ Below w.heap.size w wr)) (fun v9 _ => n - (intOf v9).toNat)
  case atStart => exact ⟨0, Nat.zero_le _, rfl, ⟨fun a h => absurd h (Nat.not_lt_zero _), HB.out⟩⟩
  case round =>
    clear HB
    rename World => W1
    obtain ⟨i, hin, rfl, hp⟩ := hrel
    by_cases hil : i < n
    · have hI := HI.out.on hp.out.2
      have c0 := hI.row i hil
      have c1 := hI.cell i i hil hil
      obtain ⟨x, ex⟩ : ∃ x, q i i = x := ⟨_, rfl⟩
      have HE : Hid (q i i = x) := ex
      rw [ex] at c1
      have hbW : b < W1.heap.size := Nat.lt_of_lt_of_le hI.lt hp.out.2.size
      have hrW : rb i < W1.heap.size := Nat.lt_of_lt_of_le (hI.rlt i hil) hp.out.2.size
      have hbw := hI.lt
      have hrw := hI.rlt i hil
      have HU : Hid (QT W1 W1.heap.size b off n rb ro rc q) := HI.out.up hp.out.2
      clear ex hI
      by_cases hx : x = i
      · have hne : ((x : Int) != (i : Int)) = false := by simp [hx]
        have HXI : Hid (x = i) := hx
        clear hx
        go_wp2_with (go_at_call 176; refine (hitsAll_any b off cap n rb ro rc q i W1 hn hil HQ.out HU.out).mono ?_; rintro e9 w2 ⟨r, rfl, hr, hb2⟩; refine Hid.out ?_)
        refine Lib.hid ?_
        have HB2 : Hid (Below w.heap.size w w2) := hp.out.2.trans (hb2.mono hp.out.2.size)
        have HRR : Hid (r = true ↔ ∀ c d, c < n → d < c → q d i ≠ q c i) := hr
        clear hb2 hr
        cases r with
        | true =>
          go_wp2
          go_roundw
          case rel => exact ⟨i + 1, by omega, by go_num, ⟨fun a ha => by
            by_cases e : a = i
            · rw [e]; exact ⟨HE.out.trans HXI.out, HRR.out.1 rfl⟩
            · exact hp.out.1 a (by omega), HB2.out⟩⟩
          case measure => simp only [intOf]; omega
        | false =>
          have HF : Hid (¬ Qdl n q) := fun h => by
            have h3 := HRR.out.2 ((hits_once hn (fun a => q a i) (fun a ha => HQ.out a i ha hil)).2 (fun c hc => h.once i c hil hc))
            cases h3
          go_wp2
          go_ret
          exact SaysB.no HF.out HB2.out
      · have hne : ((x : Int) != (i : Int)) = true := by simp; omega
        have HF : Hid (¬ Qdl n q) := fun h => hx (by rw [← HE.out]; exact h.self i hil)
        clear hx
        go_wp2
        go_ret
        exact SaysB.no HF.out hp.out.2
    · obtain rfl : i = n := by omega
      go_wp2
      go_loopw [30] (fun v30 wr => ∃ x : Nat, x ≤ i ∧ v30 = .int .i64 (x : Nat) ∧ Hid ((∀ a b c, a < x → b < i → c < i → q (q a b) c = q (q a c) (q b c)) ∧ Below w.heap.size w wr)) (fun v30 _ => i - (intOf v30).toNat)
      case atStart => exact ⟨0, Nat.zero_le _, rfl, ⟨fun a b c h => absurd h (Nat.not_lt_zero _), hp.out.2⟩⟩
      case round =>
        rename World => W2
        obtain ⟨x, hxn, rfl, hp2⟩ := hrel
        by_cases hxl : x < i
        · go_wp2
          go_loopw [35] (fun v35 wr => ∃ y : Nat, y ≤ i ∧ v35 = .int .i64 (y : Nat) ∧ Hid ((∀ b c, b < y → c < i → q (q x b) c = q (q x c) (q b c)) ∧ Below w.heap.size w wr)) (fun v35 _ => i - (intOf v35).toNat)
          case atStart => exact ⟨0, Nat.zero_le _, rfl, ⟨fun b c h => absurd h (Nat.not_lt_zero _), hp2.out.2⟩⟩
          case round =>
            rename World => W3
            obtain ⟨y, hyn, rfl, hp3⟩ := hrel
            by_cases hyl : y < i
            · go_wp2
              go_loopw [40] (fun v40 wr => ∃ z : Nat, z ≤ i ∧ v40 = .int .i64 (z : Nat) ∧ Hid ((∀ c, c < z → q (q x y) c = q (q x c) (q y c)) ∧ Below w.heap.size w wr)) (fun v40 _ => i - (intOf v40).toNat)
              case atStart => exact ⟨0, Nat.zero_le _, rfl, ⟨fun c h => absurd h (Nat.not_lt_zero _), hp3.out.2⟩⟩
              case round =>
                rename World => W4
                obtain ⟨z, hzn, rfl, hp4⟩ := hrel
                by_cases hzl : z < i
                · have hI := HI.out.on hp4.out.2
                  obtain ⟨p1, hp1⟩ : ∃ p, q x y = p := ⟨_, rfl⟩
                  obtain ⟨p2, hp2'⟩ : ∃ p, q x z = p := ⟨_, rfl⟩
                  obtain ⟨p3, hp3'⟩ : ∃ p, q y z = p := ⟨_, rfl⟩
                  obtain ⟨p4, hp4'⟩ : ∃ p, q p1 z = p := ⟨_, rfl⟩
                  obtain ⟨p5, hp5'⟩ : ∃ p, q p2 p3 = p := ⟨_, rfl⟩
                  have HP : Hid (q x y = p1 ∧ q x z = p2 ∧ q y z = p3 ∧ q p1 z = p4 ∧ q p2 p3 = p5) := ⟨hp1, hp2', hp3', hp4', hp5'⟩
                  have l1 : p1 < i := by rw [← hp1]; exact HQ.out x y hxl hyl
                  have l2 : p2 < i := by rw [← hp2']; exact HQ.out x z hxl hzl
                  have l3 : p3 < i := by rw [← hp3']; exact HQ.out y z hyl hzl
                  have r1 := hI.row x hxl
                  have r2 := hI.row y hyl
                  have r3 := hI.row p1 l1
                  have r4 := hI.row p2 l2
                  have c1 := hI.cell x y hxl hyl
                  have c2 := hI.cell x z hxl hzl
                  have c3 := hI.cell y z hyl hzl
                  have c4 := hI.cell p1 z l1 hzl
                  have c5 := hI.cell p2 p3 l2 l3
                  rw [hp1] at c1
                  rw [hp2'] at c2
                  rw [hp3'] at c3
                  rw [hp4'] at c4
                  rw [hp5'] at c5
                  clear hp1 hp2' hp3' hp4' hp5' hI
                  by_cases he : p4 = p5
                  · have hne : ((p4 : Int) != (p5 : Int)) = false := by simp [he]
                    have HE : Hid (p4 = p5) := he
                    clear he
                    go_wp2
                    go_quiet (fail)
                    go_wp2
                    go_roundw
                    case rel => exact ⟨z + 1, by omega, by go_num, ⟨fun c hc => by
                      by_cases e : c = z
                      · rw [e, HP.out.1, HP.out.2.1, HP.out.2.2.1, HP.out.2.2.2.1, HP.out.2.2.2.2]; exact HE.out
                      · exact hp4.out.1 c (by omega), below_drewN hp4.out.2 _⟩⟩
                    case measure => simp only [intOf]; omega
                  · have hne : ((p4 : Int) != (p5 : Int)) = true := by simp; omega
                    have HF : Hid (¬ Qdl i q) := fun h => he (by
                      have := h.law x y z hxl hyl hzl
                      rw [HP.out.1, HP.out.2.1, HP.out.2.2.1, HP.out.2.2.2.1, HP.out.2.2.2.2] at this
                      exact this)
                    clear he
                    go_wp2
                    go_quiet (fail)
                    go_wp2
                    go_ret
                    exact SaysB.no HF.out (below_drewN hp4.out.2 _)
                · obtain rfl : z = i := by omega
                  go_wp2
                  go_roundw
                  case rel => exact ⟨y + 1, by omega, by go_num, ⟨fun b c hb hc => by
                    by_cases e : b = y
                    · rw [e]; exact hp4.out.1 c hc
                    · exact hp3.out.1 b c (by omega) hc, hp4.out.2⟩⟩
                  case measure => simp only [intOf]; omega
            · obtain rfl : y = i := by omega
              go_wp2
              go_roundw
              case rel => exact ⟨x + 1, by omega, by go_num, ⟨fun a b c ha hb hc => by
                by_cases e : a = x
                · rw [e]; exact hp3.out.1 b c hb hc
                · exact hp2.out.1 a b c (by omega) hb hc, hp3.out.2⟩⟩
              case measure => simp only [intOf]; omega
        · obtain rfl : x = i := by omega
          go_wp2
          go_ret
          exact SaysB.yes ⟨fun a ha => (hp.out.1 a ha).1, fun b c hb hc => (hits_once hn (fun a => q a b) (fun a ha => HQ.out a b ha hb)).1 (hp.out.1 b hb).2 c hc, fun a b c ha hb hc => hp2.out.1 a b c ha hb hc⟩ hp2.out.2
end Go.Proofs.Ytnhllpaoplfgpaa
/- The walk of ref.QuandleMay. -/
namespace Go.Proofs.Ytnhllpaoplfgpaa
open Go.RowKit

theorem cntQ_next (u : Nat) (p : Nat → Bool) : cntQ (u + 1) p = cntQ u p + if p u = true then 1 else 0 := by
  unfold cntQ
  rw [List.range_succ, List.filter_append, List.length_append]
  cases h : p u <;> simp [h]
theorem cntQ_le (u : Nat) (p : Nat → Bool) : cntQ u p ≤ u := by
  have := List.length_filter_le p (List.range u)
  simpa [cntQ] using this
/-- What is said of a table. -/
structure SaysQ (w : World) (L : List (List Int)) (e : Ending) (w' : World) : Prop where
  ex : ∃ r : Nat, e = .returned (.int .i64 (r : Nat)) ∧ (r = 0 ∧ TabQ L ∧ Qdl L.length (qe L) ∨ r = 1 ∧ ¬ TabQ L ∨ r = 6 ∧ TabQ L ∧ ¬ Qdl L.length (qe L))
  bel : Below w.heap.size w w'

set_option maxHeartbeats 4000000 in
set_option maxRecDepth 100000 in
theorem quandleMay_any (v : Value) (L : List (List Int)) (w : World) (h : IntsRd w w.heap.size v L) :
    Calls Try.prog 64 #[v] w (SaysQ w L) := by
  have HI : Hid (IntsRd w w.heap.size v L) := h
  obtain ⟨a, cap, rfl⟩ := h.len
  have HB : Hid (Below w.heap.size w w) := Below.refl _ _
  clear h
  by_cases h0 : 1 ≤ L.length ∧ L.length ≤ 4
  · obtain ⟨h1, h4⟩ := h0
    obtain ⟨b, off, -, -, ea, hbw, -, -⟩ := HI.out.row 0 (by omega)
    subst ea
    have hz0 : decide ((L.length : Int) < 1) = false := by simp; omega
    have hz1 : decide ((4 : Int) < (L.length : Int)) = false := by simp; omega
    go_enter Try.func64, Try.ntmps64
    go_wp2
    go_loopw [4] (fun v4 wr => ∃ i : Nat, i ≤ L.length ∧ v4 = .int .i64 (i : Nat) ∧ Hid ((∀ k, k < i → RowOk L.length (L.getD k [])) ∧ Below w.heap.size w wr)) (fun v4 _ => L.length - (intOf v4).toNat)
    case atStart => exact ⟨0, Nat.zero_le _, rfl, ⟨fun k hk => absurd hk (Nat.not_lt_zero _), HB.out⟩⟩
    case round =>
      clear HB
      rename World => W1
      obtain ⟨i, hin, rfl, hp⟩ := hrel
      by_cases hil : i < L.length
      · obtain ⟨b', off', ar, cr, ea, hbw', hc, hr⟩ := HI.out.row i hil
        have e2 : b' = b ∧ off' = off := by
          have := Option.some.inj ea
          injection this with q1 q2 q3
          exact ⟨q1.symm, q2.symm⟩
        rw [e2.1, e2.2] at hc
        obtain ⟨V, hV⟩ : ∃ V, L.getD i [] = V := ⟨_, rfl⟩
        have HV : Hid (L.getD i [] = V) := hV
        rw [hV] at hc hr
        have HCW : Hid (w.cell? ⟨b, off + i, none⟩ = some (.slice ar V.length cr)) := hc
        have c0 : W1.cell? ⟨b, off + i, none⟩ = some (.slice ar V.length cr) := bcell hp.out.2 hbw hc
        have HR : Hid (RdAt w w.heap.size 1 (.slice ar V.length cr) V.length (intsV V)) := hr
        clear ea e2 hbw' hc hr hV
        by_cases hvl : V.length = L.length
        · have hne : ((V.length : Int) != (L.length : Int)) = false := by simp [hvl]
          have HVL : Hid (V.length = L.length) := hvl
          obtain ⟨br, fr, er, hbr, hcr⟩ : ∃ br fr, ar = some ⟨br, fr, none⟩ ∧ br < w.heap.size ∧ ∀ j, j < V.length → w.cell? ⟨br, fr + j, none⟩ = some (.int .i64 (V.getD j 0)) := by
            obtain ⟨a', cap', e', f⟩ := HR.out
            injection e' with e1 e2 e3
            obtain ⟨br, fr, er, hbr, hc⟩ := f (by omega)
            exact ⟨br, fr, e1.trans er, hbr, fun j hj => by rw [hc j (by omega), intsV_get V j hj]⟩
          subst er
          have HC : Hid (∀ j, j < V.length → w.cell? ⟨br, fr + j, none⟩ = some (.int .i64 (V.getD j 0))) := hcr
          clear hvl hcr
          go_wp2
          go_loopw [5] (fun v5 wr => ∃ j : Nat, j ≤ L.length ∧ v5 = .int .i64 (j : Nat) ∧ Hid ((∀ k, k < j → 0 ≤ V.getD k 0 ∧ V.getD k 0 < L.length) ∧ Below w.heap.size w wr)) (fun v5 _ => L.length - (intOf v5).toNat)
          case atStart => exact ⟨0, Nat.zero_le _, rfl, ⟨fun k hk => absurd hk (Nat.not_lt_zero _), hp.out.2⟩⟩
          case round =>
            rename World => W2
            obtain ⟨j, hjn, rfl, hp2⟩ := hrel
            by_cases hjl : j < L.length
            · obtain ⟨x, hx⟩ : ∃ x, V.getD j 0 = x := ⟨_, rfl⟩
              have HX : Hid (V.getD j 0 = x) := hx
              have hjv : j < V.length := by have := HVL.out; omega
              have e0 : W2.cell? ⟨b, off + i, none⟩ = some (.slice (some ⟨br, fr, none⟩) V.length cr) := bcell hp2.out.2 hbw HCW.out
              have e1 : W2.cell? ⟨br, fr + j, none⟩ = some (.int .i64 x) := by rw [← hx]; exact bcell hp2.out.2 hbr (HC.out j hjv)
              clear hx
              by_cases hx0 : x < 0
              · have hd0 : decide (x < 0) = true := by simp; omega
                have HF : Hid (¬ TabQ L) := fun h => by
                  have := (h.2.2 _ (getD_memL L i [] hil)).2 x (by rw [← HX.out, HV.out]; exact getD_memL V j 0 hjv)
                  omega
                go_wp2
                go_ret
                exact ⟨⟨1, rfl, Or.inr (Or.inl ⟨rfl, HF.out⟩)⟩, hp2.out.2⟩
              · have hd0 : decide (x < 0) = false := by simp; omega
                by_cases hx1 : (L.length : Int) ≤ x
                · have hd1 : decide ((L.length : Int) ≤ x) = true := by simp; omega
                  have HF : Hid (¬ TabQ L) := fun h => by
                    have := (h.2.2 _ (getD_memL L i [] hil)).2 x (by rw [← HX.out, HV.out]; exact getD_memL V j 0 hjv)
                    omega
                  go_wp2
                  go_ret
                  exact ⟨⟨1, rfl, Or.inr (Or.inl ⟨rfl, HF.out⟩)⟩, hp2.out.2⟩
                · have hd1 : decide ((L.length : Int) ≤ x) = false := by simp; omega
                  go_wp2
                  go_roundw
                  case rel => exact ⟨j + 1, by omega, by go_num, ⟨fun k hk => by
                    by_cases e : k = j
                    · rw [e, HX.out]; omega
                    · exact hp2.out.1 k (by omega), hp2.out.2⟩⟩
                  case measure => simp only [intOf]; omega
            · obtain rfl : j = L.length := by omega
              go_wp2
              go_roundw
              case rel => exact ⟨i + 1, by omega, by go_num, ⟨fun k hk => by
                by_cases e : k = i
                · rw [e, HV.out]
                  exact ⟨HVL.out, fun x hx => by obtain ⟨m, hm, em⟩ := mem_getDL 0 hx; rw [← em]; exact hp2.out.1 m (by rw [← HVL.out]; exact hm)⟩
                · exact hp.out.1 k (by omega), hp2.out.2⟩⟩
              case measure => simp only [intOf]; omega
        · have hne : ((V.length : Int) != (L.length : Int)) = true := by simp; omega
          have HF : Hid (¬ TabQ L) := fun h => hvl (by rw [← HV.out]; exact h.len i hil)
          clear hvl
          go_wp2
          go_ret
          exact ⟨⟨1, rfl, Or.inr (Or.inl ⟨rfl, HF.out⟩)⟩, hp.out.2⟩
      · have HT : Hid (TabQ L) := ⟨h1, h4, fun r hr => by obtain ⟨k, hk, e⟩ := mem_getDL [] hr; rw [← e]; exact hp.out.1 k (by omega)⟩
        have HB1 : Hid (Below w.heap.size w W1) := hp.out.2
        obtain ⟨b', off', cap', rb, ro, rc, e', hQT⟩ := HI.out.qt HT.out
        have e2 : b' = b ∧ off' = off := by
          injection e' with q1
          have := Option.some.inj q1
          injection this with q1 q2 q3
          exact ⟨q1.symm, q2.symm⟩
        rw [e2.1, e2.2] at hQT
        have HQT : Hid (QT w w.heap.size b off L.length rb ro rc (qe L)) := hQT
        have HQ : Hid (∀ i j, i < L.length → j < L.length → qe L i j < L.length) := fun i j hi hj => (HT.out.int i j hi hj).2
        clear e' e2 hQT hp HI
        obtain rfl : i = L.length := by omega
        obtain ⟨q, hq⟩ : ∃ q, qe L = q := ⟨_, rfl⟩
        have HQL : Hid (qe L = q) := hq
        rw [hq] at HQT HQ
        clear hq
        go_wp2
        obtain ⟨n, hn⟩ : ∃ n, L.length = n := ⟨_, rfl⟩
        have HN : Hid (L.length = n) := hn
        rw [hn] at h1 h4 HQT HQ ⊢
        clear hn hz0 hz1 hil hin
        go_loopw [6] (fun v6 wr => ∃ y : Nat, y ≤ n ∧ v6 = .int .i64 (y : Nat) ∧ Hid ((∀ b, b < y → q b b = b ∧ ∀ c, c < n → cntQ n (fun a => decide (q a b = c)) = 1 ∧ ∀ a, a < n → q (q a b) c = q (q a c) (q b c)) ∧ Below w.heap.size w wr)) (fun v6 _ => n - (intOf v6).toNat)
        case atStart => exact ⟨0, Nat.zero_le _, rfl, ⟨fun a h => absurd h (Nat.not_lt_zero _), HB1.out⟩⟩
        case round =>
          clear HB1
          rename World => W2
          obtain ⟨y, hyn, rfl, hp2⟩ := hrel
          by_cases hyl : y < n
          · have hI := HQT.out.on hp2.out.2
            have c0 := hI.row y hyl
            have c1 := hI.cell y y hyl hyl
            obtain ⟨x, ex⟩ : ∃ x, q y y = x := ⟨_, rfl⟩
            have HE : Hid (q y y = x) := ex
            rw [ex] at c1
            clear ex hI
            by_cases hx : x = y
            · have hne : ((x : Int) != (y : Int)) = false := by simp [hx]
              have HXI : Hid (x = y) := hx
              clear hx
              go_wp2
              go_loopw [7] (fun v7 wr => ∃ z : Nat, z ≤ n ∧ v7 = .int .i64 (z : Nat) ∧ Hid ((∀ c, c < z → cntQ n (fun a => decide (q a y = c)) = 1 ∧ ∀ a, a < n → q (q a y) c = q (q a c) (q y c)) ∧ Below w.heap.size w wr)) (fun v7 _ => n - (intOf v7).toNat)
              case atStart => exact ⟨0, Nat.zero_le _, rfl, ⟨fun c h => absurd h (Nat.not_lt_zero _), hp2.out.2⟩⟩
              case round =>
                rename World => W3
                obtain ⟨z, hzn, rfl, hp3⟩ := hrel
                by_cases hzl : z < n
                · go_wp2
                  go_loopw [8, 9] (fun v8 v9 wr => ∃ u : Nat, u ≤ n ∧ v9 = .int .i64 (u : Nat) ∧ v8 = .int .i64 (cntQ u (fun a => decide (q a y = z)) : Nat) ∧ Hid ((∀ a, a < u → q (q a y) z = q (q a z) (q y z)) ∧ Below w.heap.size w wr)) (fun _ v9 _ => n - (intOf v9).toNat)
                  case atStart => exact ⟨0, Nat.zero_le _, rfl, rfl, ⟨fun c h => absurd h (Nat.not_lt_zero _), hp3.out.2⟩⟩
                  case round =>
                    rename World => W4
                    obtain ⟨u, hun, rfl, rfl, hp4⟩ := hrel
                    have hcn : cntQ u (fun a => decide (q a y = z)) ≤ u := cntQ_le u _
                    by_cases hul : u < n
                    · have hI := HQT.out.on hp4.out.2
                      obtain ⟨p1, hp1⟩ : ∃ p, q u y = p := ⟨_, rfl⟩
                      obtain ⟨p2, hp2'⟩ : ∃ p, q u z = p := ⟨_, rfl⟩
                      obtain ⟨p3, hp3'⟩ : ∃ p, q y z = p := ⟨_, rfl⟩
                      obtain ⟨p4, hp4'⟩ : ∃ p, q p1 z = p := ⟨_, rfl⟩
                      obtain ⟨p5, hp5'⟩ : ∃ p, q p2 p3 = p := ⟨_, rfl⟩
                      have HP : Hid (q u y = p1 ∧ q u z = p2 ∧ q y z = p3 ∧ q p1 z = p4 ∧ q p2 p3 = p5) := ⟨hp1, hp2', hp3', hp4', hp5'⟩
                      have l1 : p1 < n := by rw [← hp1]; exact HQ.out u y hul hyl
                      have l2 : p2 < n := by rw [← hp2']; exact HQ.out u z hul hzl
                      have l3 : p3 < n := by rw [← hp3']; exact HQ.out y z hyl hzl
                      have r1 := hI.row u hul
                      have r2 := hI.row y hyl
                      have r3 := hI.row p1 l1
                      have r4 := hI.row p2 l2
                      have c1 := hI.cell u y hul hyl
                      have c2 := hI.cell u z hul hzl
                      have c3 := hI.cell y z hyl hzl
                      have c4 := hI.cell p1 z l1 hzl
                      have c5 := hI.cell p2 p3 l2 l3
                      rw [hp1] at c1
                      rw [hp2'] at c2
                      rw [hp3'] at c3
                      rw [hp4'] at c4
                      rw [hp5'] at c5
                      clear hp1 hp2' hp3' hp4' hp5' hI
                      obtain ⟨m, hm⟩ : ∃ m, cntQ u (fun a => decide (q a y = z)) = m := ⟨_, rfl⟩
                      have HM : Hid (cntQ (u + 1) (fun a => decide (q a y = z)) = m + if p1 = z then 1 else 0) := (by rw [cntQ_next, hm, HP.out.1]; by_cases e : p1 = z <;> simp [e] : cntQ (u + 1) (fun a => decide (q a y = z)) = m + if p1 = z then 1 else 0)
                      rw [hm] at hcn ⊢
                      clear hm
                      by_cases he : p4 = p5
                      · have hne : ((p4 : Int) != (p5 : Int)) = false := by simp [he]
                        have HNX : Hid (∀ a, a < u + 1 → q (q a y) z = q (q a z) (q y z)) := fun a ha => by
                          by_cases e : a = u
                          · rw [e, HP.out.1, HP.out.2.1, HP.out.2.2.1, HP.out.2.2.2.1, HP.out.2.2.2.2]; exact he
                          · exact hp4.out.1 a (by omega)
                        clear he
                        by_cases hz : p1 = z
                        · have heq : ((p1 : Int) == (z : Int)) = true := by simp [hz]
                          have HM2 : Hid (cntQ (u + 1) (fun a => decide (q a y = z)) = m + 1) := (by rw [HM.out, if_pos hz] : cntQ (u + 1) (fun a => decide (q a y = z)) = m + 1)
                          clear hz
                          go_wp2
                          go_quiet (fail)
                          go_wp2
                          go_roundw
                          case rel => exact ⟨u + 1, by omega, by go_num, by rw [HM2.out]; go_num, ⟨HNX.out, below_drewN hp4.out.2 _⟩⟩
                          case measure => simp only [intOf]; omega
                        · have heq : ((p1 : Int) == (z : Int)) = false := by simp; omega
                          have HM2 : Hid (cntQ (u + 1) (fun a => decide (q a y = z)) = m) := (by rw [HM.out, if_neg hz, Nat.add_zero] : cntQ (u + 1) (fun a => decide (q a y = z)) = m)
                          clear hz
                          go_wp2
                          go_quiet (fail)
                          go_wp2
                          go_roundw
                          case rel => exact ⟨u + 1, by omega, by go_num, by rw [HM2.out], ⟨HNX.out, below_drewN hp4.out.2 _⟩⟩
                          case measure => simp only [intOf]; omega
                      · have hne : ((p4 : Int) != (p5 : Int)) = true := by simp; omega
                        have HF : Hid (¬ Qdl L.length (qe L)) := fun h => he (by
                          rw [HQL.out, HN.out] at h
                          have := h.law u y z hul hyl hzl
                          rw [HP.out.1, HP.out.2.1, HP.out.2.2.1, HP.out.2.2.2.1, HP.out.2.2.2.2] at this
                          exact this)
                        clear he
                        by_cases hz : p1 = z
                        · have heq : ((p1 : Int) == (z : Int)) = true := by simp [hz]
                          clear hz
                          go_wp2
                          go_quiet (fail)
                          go_wp2
                          go_ret
                          exact ⟨⟨6, rfl, Or.inr (Or.inr ⟨rfl, HT.out, HF.out⟩)⟩, below_drewN hp4.out.2 _⟩
                        · have heq : ((p1 : Int) == (z : Int)) = false := by simp; omega
                          clear hz
                          go_wp2
                          go_quiet (fail)
                          go_wp2
                          go_ret
                          exact ⟨⟨6, rfl, Or.inr (Or.inr ⟨rfl, HT.out, HF.out⟩)⟩, below_drewN hp4.out.2 _⟩
                    · obtain rfl : u = n := by omega
                      obtain ⟨m, hm⟩ : ∃ m, cntQ u (fun a => decide (q a y = z)) = m := ⟨_, rfl⟩
                      have HM : Hid (cntQ u (fun a => decide (q a y = z)) = m) := hm
                      rw [hm] at hcn ⊢
                      clear hm
                      by_cases hm1 : m = 1
                      · have hne : ((m : Int) != 1) = false := by simp [hm1]
                        have HM1 : Hid (m = 1) := hm1
                        clear hm1
                        go_wp2
                        go_roundw
                        case rel => exact ⟨z + 1, by omega, by go_num, ⟨fun c hc => by
                          by_cases e : c = z
                          · rw [e]; exact ⟨HM.out.trans HM1.out, hp4.out.1⟩
                          · exact hp3.out.1 c (by omega), hp4.out.2⟩⟩
                        case measure => simp only [intOf]; omega
                      · have hne : ((m : Int) != 1) = true := by simp; omega
                        have HF : Hid (¬ Qdl L.length (qe L)) := fun h => hm1 (by
                          rw [HQL.out, HN.out] at h
                          rw [← HM.out]
                          exact h.once y z hyl hzl)
                        clear hm1
                        go_wp2
                        go_ret
                        exact ⟨⟨6, rfl, Or.inr (Or.inr ⟨rfl, HT.out, HF.out⟩)⟩, hp4.out.2⟩
                · obtain rfl : z = n := by omega
                  go_wp2
                  go_roundw
                  case rel => exact ⟨y + 1, by omega, by go_num, ⟨fun b hb => by
                    by_cases e : b = y
                    · rw [e]; exact ⟨HE.out.trans HXI.out, hp3.out.1⟩
                    · exact hp2.out.1 b (by omega), hp3.out.2⟩⟩
                  case measure => simp only [intOf]; omega
            · have hne : ((x : Int) != (y : Int)) = true := by simp; omega
              have HF : Hid (¬ Qdl L.length (qe L)) := fun h => hx (by rw [HQL.out, HN.out] at h; rw [← HE.out]; exact h.self y hyl)
              clear hx
              go_wp2
              go_ret
              exact ⟨⟨6, rfl, Or.inr (Or.inr ⟨rfl, HT.out, HF.out⟩)⟩, hp2.out.2⟩
          · obtain rfl : y = n := by omega
            have HY : Hid (Qdl L.length (qe L)) := (by rw [HQL.out, HN.out]; exact ⟨fun a ha => (hp2.out.1 a ha).1, fun b c hb hc => ((hp2.out.1 b hb).2 c hc).1, fun a b c ha hb hc => ((hp2.out.1 b hb).2 c hc).2 a ha⟩ : Qdl L.length (qe L))
            go_wp2
            go_ret
            exact ⟨⟨0, rfl, Or.inl ⟨rfl, HT.out, HY.out⟩⟩, hp2.out.2⟩
  · have HN : Hid (¬ TabQ L) := fun h => h0 ⟨h.1, h.2.1⟩
    have hcl : L.length = 0 ∨ 4 < L.length := by omega
    rcases hcl with h0 | h0
    · have hz0 : decide ((L.length : Int) < 1) = true := by simp [List.length_eq_zero_iff.1 h0]
      go_enter Try.func64, Try.ntmps64
      go_wp2
      go_ret
      exact ⟨⟨1, rfl, Or.inr (Or.inl ⟨rfl, HN.out⟩)⟩, HB.out⟩
    · have hz0 : decide ((L.length : Int) < 1) = false := by simp; omega
      have hz1 : decide ((4 : Int) < (L.length : Int)) = true := by simp; omega
      go_enter Try.func64, Try.ntmps64
      go_wp2
      go_ret
      exact ⟨⟨1, rfl, Or.inr (Or.inl ⟨rfl, HN.out⟩)⟩, HB.out⟩
end Go.Proofs.Ytnhllpaoplfgpaa

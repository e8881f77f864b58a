/- Several texts of the proof, one behind the other. -/
import Derived.Test.YtkbapnjlnnggaaaW5P
/- Diagrams under way: crossings that are appended to one; the walks of drawing.crossOf and drawing.Turned. -/
namespace Go.Proofs.Ytkbapnjlnnggaaa
open Go.RowKit

theorem cells_append (C D : List Cr) : crossCells (C ++ D) = crossCells C ++ crossCells D := by simp [crossCells]
theorem new_cell5 (W : World) (a b c d p : Value) (e : TypeId) : ∀ j u, [a, b, c, d, p][j]? = some u → (W.alloc (.cells #[a, b, c, d, p] e)).cell? ((⟨W.heap.size, 0, none⟩ : Addr).add j) = some u := by
  intro j u hj
  rw [Addr.add_lit, Nat.zero_add]
  have hh : (W.alloc (.cells #[a, b, c, d, p] e)).heap[W.heap.size]? = some (.cells #[a, b, c, d, p] e (0, 0)) := Array.getElem?_push_size
  match j, hj with
  | 0, hj => simp at hj; subst hj; exact block_cell hh rfl
  | 1, hj => simp at hj; subst hj; exact block_cell hh rfl
  | 2, hj => simp at hj; subst hj; exact block_cell hh rfl
  | 3, hj => simp at hj; subst hj; exact block_cell hh rfl
  | 4, hj => simp at hj; subst hj; exact block_cell hh rfl
theorem new_cell5' {W : World} {s : Nat} (hs : s = W.heap.size) (a b c d p : Value) (e : TypeId) : ∀ j u, [a, b, c, d, p][j]? = some u → (W.alloc (.cells #[a, b, c, d, p] e)).cell? ((⟨s, 0, none⟩ : Addr).add j) = some u := by
  subst hs
  exact new_cell5 W a b c d p e
/-- A diagram under way: its box at block g, its crossings a row of the call's own. -/
structure OutAt (w : World) (B g : Nat) (v : Value) (loops : Int) (C : List Cr) : Prop where
  box : w.heap[g]? = some (.cells #[v, .int .i64 loops] 24 (0, 0))
  row : w.ownsRow B 89 5 v C.length (crossCells C)
theorem OutAt.nil {w : World} {B g : Nat} {loops : Int} (h : w.heap[g]? = some (.cells #[.slice none 0 0, .int .i64 loops] 24 (0, 0))) : OutAt w B g (.slice none 0 0) loops [] := ⟨h, World.ownsRow_nil _ _ _ _⟩
theorem OutAt.on {w w' : World} {B g : Nat} {v : Value} {loops : Int} {C : List Cr} (h : OutAt w B g v loops C) (hb : Below w.heap.size w w') : OutAt w' B g v loops C :=
  ⟨(hb.block _ (Array.getElem?_eq_some_iff.1 h.box).1).trans h.box, own_any h.row (grown_below hb none)⟩
theorem OutAt.kept {w w' : World} {B g q : Nat} {v : Value} {loops : Int} {C : List Cr} (h : OutAt w B g v loops C) (hg : w.grownBy w' (some q)) (hq : q ≠ g) (hB : q < B) : OutAt w' B g v loops C := by
  refine ⟨(hg.block _ (Array.getElem?_eq_some_iff.1 h.box).1 (fun e => hq (Option.some.inj e).symm)).trans h.box, h.row.kept hg ?_⟩
  cases hv : v.ownBlock with
  | none => exact Or.inl rfl
  | some k => exact Or.inr (fun e => by have h1 := (h.row.lt k hv).1; have h2 := Option.some.inj e; omega)
theorem OutAt.app {w w8 : World} {B g : Nat} {v v8 : Value} {loops : Int} {C : List Cr} {x : Cr} {o : Obj} {m : Nat} (h : OutAt w B g v loops C) (hgB : g < B) (hm : m = C.length + 1) (hown8 : w8.ownsRow B 89 5 v8 m (crossCells C ++ crossCells [x])) (hg8 : (w.alloc o).grownBy w8 v.ownBlock) : OutAt (w8.setCell ⟨g, 0, none⟩ v8) B g v8 loops (C ++ [x]) := by
  have hlt := (Array.getElem?_eq_some_iff.1 h.box).1
  have hb8 : w8.heap[g]? = some (.cells #[v, .int .i64 loops] 24 (0, 0)) :=
    (hg8.block _ (by simp; omega) (fun e => by have := (h.row.lt g e.symm).1; omega)).trans (alloc_old h.box)
  refine ⟨set_block hb8, ?_⟩
  have hl : (C ++ [x]).length = m := by rw [hm]; simp
  rw [hl, cells_append]
  refine hown8.kept (set_grown w8 g 0 v8) ?_
  cases hv : v8.ownBlock with
  | none => exact Or.inl rfl
  | some k => exact Or.inr (fun e => by have h1 := (hown8.lt k hv).1; have h2 := Option.some.inj e; omega)
theorem OutAt.below {w w8 W : World} {B B0 g : Nat} {v v8 : Value} {loops : Int} {C : List Cr} {o : Obj} (h : OutAt w B g v loops C) (hb : Below B0 W w) (hB : B0 ≤ B) (hs : B0 ≤ w.heap.size) (h0 : B0 ≤ g) (hg8 : (w.alloc o).grownBy w8 v.ownBlock) : Below B0 W (w8.setCell ⟨g, 0, none⟩ v8) :=
  ((hb.alloc hs _).grown hg8 (by simp; omega) (fun q hq => Nat.le_trans hB (h.row.lt q hq).1)).grown (set_grown w8 g 0 v8) (by have := hg8.size; simp at this; omega) (fun q hq => by have := Option.some.inj hq; omega)
theorem OutAt.other {w w8 : World} {B g k : Nat} {v v8 : Value} {loops : Int} {C : List Cr} {o p : Obj} (h : OutAt w B g v loops C) (hk : w.heap[k]? = some p) (hkB : k < B) (hkg : k ≠ g) (hg8 : (w.alloc o).grownBy w8 v.ownBlock) : (w8.setCell ⟨g, 0, none⟩ v8).heap[k]? = some p := by
  have hlt := (Array.getElem?_eq_some_iff.1 hk).1
  have hs := hg8.size
  simp only [World.size_alloc] at hs
  have hb8 : w8.heap[k]? = some p := (hg8.block _ (by simp; omega) (fun e => by have := (h.row.lt k e.symm).1; omega)).trans (alloc_old hk)
  exact ((set_grown w8 g 0 v8).block k (by omega) (fun e => hkg (Option.some.inj e))).trans hb8
theorem OutAt.box8 {w w8 : World} {B g : Nat} {v : Value} {loops : Int} {C : List Cr} {o : Obj} (h : OutAt w B g v loops C) (hgB : g < B) (hg8 : (w.alloc o).grownBy w8 v.ownBlock) : w8.heap[g]? = some (.cells #[v, .int .i64 loops] 24 (0, 0)) := by
  have hlt := (Array.getElem?_eq_some_iff.1 h.box).1
  exact (hg8.block _ (by simp; omega) (fun e => by have := (h.row.lt g e.symm).1; omega)).trans (alloc_old h.box)

/-- The crossing told from side f on. -/
def turn (x : Cr) (f : Nat) : Cr := ⟨x.arc (f % 4), x.arc ((f + 1) % 4), x.arc ((f + 2) % 4), x.arc ((f + 3) % 4), x.plus⟩

set_option maxHeartbeats 2000000 in
set_option maxRecDepth 100000 in
theorem crossOf_any (x : Cr) (w : World) :
    Calls Try.prog 105 #[.agg #[.int .i64 x.a, .int .i64 x.b, .int .i64 x.c, .int .i64 x.d], .bool x.plus] w fun e w' => e = .returned (.agg #[.int .i64 x.a, .int .i64 x.b, .int .i64 x.c, .int .i64 x.d, .bool x.plus]) ∧ Below w.heap.size w w' := by
  go_enter Try.func105, Try.ntmps105
  go_wp2
  exact bodyPost_ret (v := .agg #[.int .i64 x.a, .int .i64 x.b, .int .i64 x.c, .int .i64 x.d, .bool x.plus]) (by simp [results, Try.results105, go_sem]) rfl ⟨rfl, below2 _ _ _⟩

/-- Four numbers as cells. -/
def intArr (l : List Int) : Array Value := (l.map fun x => Value.int .i64 x).toArray
theorem intArr_set (l : List Int) (p : Nat) (z : Int) : (intArr l).setIfInBounds p (.int .i64 z) = intArr (l.set p z) := by
  simp [intArr, List.map_set]
theorem intArr_get (l : List Int) (p : Nat) (h : p < l.length) : (intArr l)[p]? = some (.int .i64 (l.getD p 0)) := by
  simp [intArr, List.getD, h]
/-- The turned crossing's arcs behind k sides. -/
def arrTo (x : Cr) (f k : Nat) : List Int := (List.range 4).map fun j => if (j + f) % 4 < k then x.arc ((j + f) % 4) else 0
theorem arrTo_len (x : Cr) (f k : Nat) : (arrTo x f k).length = 4 := by simp [arrTo]
theorem arrTo_next (x : Cr) (f k p : Nat) (hp : p < 4) (h : (p + f) % 4 = k) : (arrTo x f k).set p (x.arc k) = arrTo x f (k + 1) := by
  apply List.ext_getElem?
  intro i
  rw [List.getElem?_set]
  by_cases hi : i < 4
  · by_cases e : p = i
    · subst e
      simp [arrTo, hi, h]
    · rw [if_neg e]
      have hne : (i + f) % 4 ≠ k := by omega
      simp only [arrTo, List.getElem?_map, List.getElem?_range hi, Option.map_some]
      congr 1
      by_cases h2 : (i + f) % 4 < k
      · rw [if_pos h2, if_pos (by omega)]
      · rw [if_neg h2, if_neg (by omega)]
  · rw [List.getElem?_eq_none (by rw [arrTo_len]; omega), List.getElem?_eq_none (by rw [arrTo_len]; omega)]
    split
    · next e => rw [if_neg (by rw [arrTo_len]; omega)]
    · rfl
theorem arrTo_zero (x : Cr) (f : Nat) : arrTo x f 0 = [0, 0, 0, 0] := by simp [arrTo, List.range_succ]
theorem arrTo_four (x : Cr) (f : Nat) : intArr (arrTo x f 4) = #[.int .i64 (turn x f).a, .int .i64 (turn x f).b, .int .i64 (turn x f).c, .int .i64 (turn x f).d] := by
  have h0 : f % 4 < 4 := Nat.mod_lt _ (by omega)
  simp [arrTo, intArr, turn, List.range_succ, h0, Nat.add_comm]
  exact ⟨fun h => by omega, fun h => by omega, fun h => by omega⟩

set_option maxHeartbeats 4000000 in
set_option maxRecDepth 100000 in
theorem turned_any (x : Cr) (f : Nat) (w : World) (hf : f < 4) :
    Calls Try.prog 72 #[.agg #[.int .i64 x.a, .int .i64 x.b, .int .i64 x.c, .int .i64 x.d, .bool x.plus], .int .i64 (f : Nat)] w fun e w' => e = .returned (.agg #[.int .i64 (turn x f).a, .int .i64 (turn x f).b, .int .i64 (turn x f).c, .int .i64 (turn x f).d, .bool x.plus]) ∧ Below w.heap.size w w' := by
  obtain ⟨w0, hw0⟩ : ∃ w0, w0 = ((w.alloc (.cells #[.int .i64 x.a, .int .i64 x.b, .int .i64 x.c, .int .i64 x.d, .bool x.plus] 89)).alloc (.cells #[.int .i64 0, .int .i64 0, .int .i64 0, .int .i64 0, .bool false] 89)).alloc (.cells #[.int .i64 0, .int .i64 0, .int .i64 0, .int .i64 0] 107) := ⟨_, rfl⟩
  have HW0 : Hid (w0 = ((w.alloc (.cells #[.int .i64 x.a, .int .i64 x.b, .int .i64 x.c, .int .i64 x.d, .bool x.plus] 89)).alloc (.cells #[.int .i64 0, .int .i64 0, .int .i64 0, .int .i64 0, .bool false] 89)).alloc (.cells #[.int .i64 0, .int .i64 0, .int .i64 0, .int .i64 0] 107)) := hw0
  have hs0 : w0.heap.size = w.heap.size + 3 := by rw [hw0]; simp
  have HB0 : Hid (Below w.heap.size w w0) := (by rw [hw0]; exact below3 _ _ _ _ : Below w.heap.size w w0)
  have HT0 : Hid (w0.heap[w.heap.size]? = some (.cells #[.int .i64 x.a, .int .i64 x.b, .int .i64 x.c, .int .i64 x.d, .bool x.plus] 89 (0, 0))) := (by rw [hw0]; exact alloc_old (alloc_old (alloc_at rfl)) : w0.heap[w.heap.size]? = some (.cells #[.int .i64 x.a, .int .i64 x.b, .int .i64 x.c, .int .i64 x.d, .bool x.plus] 89 (0, 0)))
  have HT1 : Hid (w0.heap[w.heap.size + 1]? = some (.cells #[.int .i64 0, .int .i64 0, .int .i64 0, .int .i64 0, .bool false] 89 (0, 0))) := (by rw [hw0]; exact alloc_old (alloc_at (by simp)) : w0.heap[w.heap.size + 1]? = some (.cells #[.int .i64 0, .int .i64 0, .int .i64 0, .int .i64 0, .bool false] 89 (0, 0)))
  have HT2 : Hid (w0.heap[w.heap.size + 1 + 1]? = some (.cells (intArr (arrTo x f 0)) 107 (0, 0))) := (by rw [hw0, arrTo_zero]; exact alloc_at (by simp) : w0.heap[w.heap.size + 1 + 1]? = some (.cells (intArr (arrTo x f 0)) 107 (0, 0)))
  clear hw0
  go_enter Try.func72, Try.ntmps72
  go_wp2_with (go_at_call 70; rw [← HW0.out]; refine (arcs_any x _).mono ?_; rintro e9 w1 ⟨rfl, hb1⟩; refine Hid.out ?_)
  refine Lib.hid ?_
  have HB1 : Hid (Below w0.heap.size w0 w1) := hb1
  have hs1 := hb1.size
  have HA1 : Hid (w1.heap[w.heap.size + 1 + 1]? = some (.cells (intArr (arrTo x f 0)) 107 (0, 0))) := (hb1.block _ (by omega)).trans HT2.out
  have HC1 : Hid (w1.heap[w.heap.size]? = some (.cells #[.int .i64 x.a, .int .i64 x.b, .int .i64 x.c, .int .i64 x.d, .bool x.plus] 89 (0, 0))) := (hb1.block _ (by omega)).trans HT0.out
  have HR1 : Hid (w1.heap[w.heap.size + 1]? = some (.cells #[.int .i64 0, .int .i64 0, .int .i64 0, .int .i64 0, .bool false] 89 (0, 0))) := (hb1.block _ (by omega)).trans HT1.out
  clear hb1
  go_wp2
  go_loopw [10] (fun v10 wr => ∃ k : Nat, k ≤ 4 ∧ v10 = .int .i64 (k : Nat) ∧ Hid (wr.heap[w.heap.size + 1 + 1]? = some (.cells (intArr (arrTo x f k)) 107 (0, 0))) ∧ w1.grownBy wr (some (w.heap.size + 1 + 1))) (fun v10 _ => 4 - (intOf v10).toNat)
  case atStart => exact ⟨0, Nat.zero_le _, rfl, HA1.out, World.grownBy.refl _ _⟩
  case round =>
    rename World => W1
    obtain ⟨k, hk, rfl, hA, hg⟩ := hrel
    have hsz := hg.size
    by_cases hkl : k < 4
    · have hix := index_arr x k hkl
      obtain ⟨p, hp⟩ : ∃ p : Nat, p = (k + 4 - f) % 4 := ⟨_, rfl⟩
      have hp4 : p < 4 := by omega
      have HPK : Hid ((p + f) % 4 = k) := (by omega : (p + f) % 4 = k)
      have q1 : IntKind.i64.wrap ((k : Int) + 4) = (k : Int) + 4 := IntWalk.i64_in _ (by omega)
      have q2 : IntKind.i64.wrap ((k : Int) + 4 - (f : Int)) = (k : Int) + 4 - (f : Int) := IntWalk.i64_in _ (by omega)
      have q3 : ((k : Int) + 4 - (f : Int)).tmod 4 = (p : Int) := by rw [Int.tmod_eq_emod_of_nonneg (by omega)]; omega
      clear hp
      have hl : p < (arrTo x f k).length := by rw [arrTo_len]; exact hp4
      have e0 : W1.cell? ⟨w.heap.size + 1 + 1, p, none⟩ = some (.int .i64 ((arrTo x f k).getD p 0)) := block_cell hA.out (intArr_get _ p hl)
      have z0 : W1.frozen? ⟨w.heap.size + 1 + 1, p, none⟩ = false := block_frozen hA.out
      have hlt : w.heap.size + 1 + 1 < W1.heap.size := by omega
      have HNX : Hid ((W1.setCell ⟨w.heap.size + 1 + 1, p, none⟩ (.int .i64 (x.arc k))).heap[w.heap.size + 1 + 1]? = some (.cells (intArr (arrTo x f (k + 1))) 107 (0, 0))) := (by
        rw [← arrTo_next x f k p hp4 HPK.out, ← intArr_set]
        exact set_block hA.out : (W1.setCell ⟨w.heap.size + 1 + 1, p, none⟩ (.int .i64 (x.arc k))).heap[w.heap.size + 1 + 1]? = some (.cells (intArr (arrTo x f (k + 1))) 107 (0, 0)))
      generalize (arrTo x f k).getD p 0 = u at e0
      clear hl
      go_wp2
      go_roundw
      case rel => exact ⟨k + 1, by omega, by go_num, HNX.out, grown_trans hg (set_grown _ _ _ _)⟩
      case measure => simp only [intOf]; omega
    · obtain rfl : k = 4 := by omega
      have hA4 := hA.out
      rw [arrTo_four] at hA4
      have hC := (hg.block _ (by omega) (fun e => by have := Option.some.inj e; omega)).trans HC1.out
      have hR := (hg.block _ (by omega) (fun e => by have := Option.some.inj e; omega)).trans HR1.out
      have HR : Hid (W1.heap[w.heap.size + 1]? = some (.cells #[.int .i64 0, .int .i64 0, .int .i64 0, .int .i64 0, .bool false] 89 (0, 0))) := hR
      have a0 : W1.cell? ⟨w.heap.size + 1 + 1, 0, none⟩ = some (.int .i64 (turn x f).a) := block_cell hA4 rfl
      have a1 : W1.cell? ⟨w.heap.size + 1 + 1, 1, none⟩ = some (.int .i64 (turn x f).b) := block_cell hA4 rfl
      have a2 : W1.cell? ⟨w.heap.size + 1 + 1, 2, none⟩ = some (.int .i64 (turn x f).c) := block_cell hA4 rfl
      have a3 : W1.cell? ⟨w.heap.size + 1 + 1, 3, none⟩ = some (.int .i64 (turn x f).d) := block_cell hA4 rfl
      have a4 : W1.cell? ⟨w.heap.size, 4, none⟩ = some (.bool x.plus) := block_cell hC rfl
      have hlt : w.heap.size + 1 + 1 < W1.heap.size := by omega
      have HG : Hid (w1.grownBy W1 (some (w.heap.size + 1 + 1))) := hg
      have hpl : (turn x f).plus = x.plus := rfl
      clear hA4 hC hR hA hg
      go_wp2_with (go_at_call 105; refine (crossOf_any (turn x f) _).mono ?_; rintro e9 w4 ⟨rfl, hb4⟩; refine Hid.out ?_)
      refine Lib.hid ?_
      have HR4 : Hid (w4.heap[w.heap.size + 1]? = some (.cells #[.int .i64 0, .int .i64 0, .int .i64 0, .int .i64 0, .bool false] 89 (0, 0))) := (hb4.block _ (by omega)).trans HR.out
      have HB4 : Hid (Below w.heap.size w w4) := ((HB0.out.trans (HB1.out.mono (by omega))).grown HG.out (by omega) (fun q hq => by have := Option.some.inj hq; omega)).trans (hb4.mono (by omega))
      have hs4 := hb4.size
      clear hb4 a0 a1 a2 a3 a4
      have r0 : w4.cell? ⟨w.heap.size + 1, 0, none⟩ = some (.int .i64 0) := block_cell HR4.out rfl
      have r1 : w4.cell? ⟨w.heap.size + 1, 1, none⟩ = some (.int .i64 0) := block_cell HR4.out rfl
      have r2 : w4.cell? ⟨w.heap.size + 1, 2, none⟩ = some (.int .i64 0) := block_cell HR4.out rfl
      have r3 : w4.cell? ⟨w.heap.size + 1, 3, none⟩ = some (.int .i64 0) := block_cell HR4.out rfl
      have r4 : w4.cell? ⟨w.heap.size + 1, 4, none⟩ = some (.bool false) := block_cell HR4.out rfl
      have f0 : w4.frozen? ⟨w.heap.size + 1, 0, none⟩ = false := block_frozen HR4.out
      have f1 : w4.frozen? ⟨w.heap.size + 1, 1, none⟩ = false := block_frozen HR4.out
      have f2 : w4.frozen? ⟨w.heap.size + 1, 2, none⟩ = false := block_frozen HR4.out
      have f3 : w4.frozen? ⟨w.heap.size + 1, 3, none⟩ = false := block_frozen HR4.out
      have f4 : w4.frozen? ⟨w.heap.size + 1, 4, none⟩ = false := block_frozen HR4.out
      go_wp2
      have hX := set_block (i := 4) (u := .bool x.plus) (set_block (i := 3) (u := .int .i64 (turn x f).d) (set_block (i := 2) (u := .int .i64 (turn x f).c) (set_block (i := 1) (u := .int .i64 (turn x f).b) (set_block (i := 0) (u := .int .i64 (turn x f).a) HR4.out))))
      have x0 := block_cell (i := 0) (v := .int .i64 (turn x f).a) hX rfl
      have x1 := block_cell (i := 1) (v := .int .i64 (turn x f).b) hX rfl
      have x2 := block_cell (i := 2) (v := .int .i64 (turn x f).c) hX rfl
      have x3 := block_cell (i := 3) (v := .int .i64 (turn x f).d) hX rfl
      have x4 := block_cell (i := 4) (v := .bool x.plus) hX rfl
      refine bodyPost_ret (v := .agg #[.int .i64 (turn x f).a, .int .i64 (turn x f).b, .int .i64 (turn x f).c, .int .i64 (turn x f).d, .bool x.plus]) (by simp [results, Try.results72, go_sem, x0, x1, x2, x3, x4]) rfl ⟨rfl, ?_⟩
      have hst : ∀ (W : World) (u : Value) (i : Nat), Below w.heap.size w W → Below w.heap.size w (W.setCell ⟨w.heap.size + 1, i, none⟩ u) := fun W u i h => h.grown (set_grown W (w.heap.size + 1) i u) h.size (fun q hq => by have := Option.some.inj hq; omega)
      exact hst _ _ _ (hst _ _ _ (hst _ _ _ (hst _ _ _ (hst _ _ _ HB4.out))))
end Go.Proofs.Ytkbapnjlnnggaaa
/- The walks of canon.mirrored, canon.Mirror and ref.MirrorOf. -/
namespace Go.Proofs.Ytkbapnjlnnggaaa
open Go.RowKit

/-- A crossing mirrored. -/
def mirX (x : Cr) : Cr := if x.plus = true then ⟨x.d, x.a, x.b, x.c, false⟩ else ⟨x.b, x.c, x.d, x.a, true⟩
theorem take_map_next (f : Cr → Cr) (C : List Cr) (i : Nat) (h : i < C.length) : (C.take (i + 1)).map f = (C.take i).map f ++ [f (C.getD i Cr.none)] := by
  have e2 : C.take (i + 1) = C.take i ++ [C.getD i Cr.none] := by
    rw [List.take_add_one, List.getD_eq_getElem?_getD, List.getElem?_eq_getElem h]
    rfl
  rw [e2]
  simp

set_option maxHeartbeats 8000000 in
set_option maxRecDepth 100000 in
theorem mirrored_any (a : Option Addr) (cap : Nat) (C : List Cr) (loops : Int) (gF cF gT cT : Nat) (w : World) (hl : C.length ≤ 16) (hD : Crs w w.heap.size (.slice a C.length cap) C) :
    Calls Try.prog 36 #[drV a cap C loops gF cF gT cT] w fun e w' => ∃ v, e = .returned (.agg #[v, .int .i64 loops]) ∧ w'.ownsRow w.heap.size 89 5 v (C.map mirX).length (crossCells (C.map mirX)) ∧ Below w.heap.size w w' := by
  obtain ⟨i0, hi, hz0, hz1, hz2⟩ := info_parts infoCross
  unfold drV
  have HD : Hid (Crs w w.heap.size (.slice a C.length cap) C) := hD
  clear hD
  obtain ⟨w0, hw0⟩ : ∃ w0, w0 = ((w.alloc (.cells #[.slice a C.length cap, .int .i64 loops, .slice (some ⟨gF, 0, none⟩) (2 * C.length + 1) cF, .slice (some ⟨gT, 0, none⟩) (2 * C.length + 1) cT] 71)).alloc (.cells #[.slice none 0 0, .int .i64 0] 24)).alloc (.cells #[.slice none 0 0, .int .i64 loops] 24) := ⟨_, rfl⟩
  have HW0 : Hid (w0 = ((w.alloc (.cells #[.slice a C.length cap, .int .i64 loops, .slice (some ⟨gF, 0, none⟩) (2 * C.length + 1) cF, .slice (some ⟨gT, 0, none⟩) (2 * C.length + 1) cT] 71)).alloc (.cells #[.slice none 0 0, .int .i64 0] 24)).alloc (.cells #[.slice none 0 0, .int .i64 loops] 24)) := hw0
  have hs0 : w0.heap.size = w.heap.size + 3 := by rw [hw0]; simp
  have HB0 : Hid (Below w.heap.size w w0) := (by rw [hw0]; exact below3 _ _ _ _ : Below w.heap.size w w0)
  have HT1 : Hid (w0.heap[w.heap.size + 1]? = some (.cells #[.slice none 0 0, .int .i64 0] 24 (0, 0))) := (by rw [hw0]; exact alloc_old (alloc_at (by simp)) : w0.heap[w.heap.size + 1]? = some (.cells #[.slice none 0 0, .int .i64 0] 24 (0, 0)))
  have HT2 : Hid (w0.heap[w.heap.size + 1 + 1]? = some (.cells #[.slice none 0 0, .int .i64 loops] 24 (0, 0))) := (by rw [hw0]; exact alloc_at (by simp) : w0.heap[w.heap.size + 1 + 1]? = some (.cells #[.slice none 0 0, .int .i64 loops] 24 (0, 0)))
  clear hw0
  go_enter Try.func36, Try.ntmps36
  go_wp2
  rw [← HW0.out]
  go_loopw [16] (fun v16 wr => ∃ (i : Nat) (v3 : Value) (acc : List Cr), i ≤ C.length ∧ v16 = .int .i64 (i : Nat) ∧ Hid (acc.length = i) ∧ Hid (acc = (C.take i).map mirX) ∧ OutAt wr (w.heap.size + 3) (w.heap.size + 1 + 1) v3 loops acc ∧ wr.heap[w.heap.size + 1]? = some (.cells #[.slice none 0 0, .int .i64 0] 24 (0, 0)) ∧ Below w.heap.size w wr) (fun v16 _ => C.length - (intOf v16).toNat)
  case atStart => exact ⟨0, .slice none 0 0, [], Nat.zero_le _, rfl, (rfl : ([] : List Cr).length = 0), (rfl : [] = (C.take 0).map mirX), OutAt.nil HT2.out, HT1.out, HB0.out⟩
  case round =>
    rename World => W1
    obtain ⟨i, v3, acc, hin, rfl, hal, hacc, hout, hres, hb⟩ := hrel
    have hszW := hb.size
    have hal16 : acc.length ≤ 16 := by have := hal.out; omega
    have hlt1 := (Array.getElem?_eq_some_iff.1 hout.box).1
    by_cases hil : i < C.length
    · obtain ⟨b, off, ea, hbq, hC⟩ := crs_some HD.out (by omega)
      subst ea
      obtain ⟨c0, c1, c2, c3, c4⟩ := (hC.on hb hbq) i hil
      have HNX : Hid ((C.take (i + 1)).map mirX = (C.take i).map mirX ++ [mirX (C.getD i Cr.none)]) := take_map_next mirX C i hil
      clear hC
      generalize C.getD i Cr.none = x at c0 c1 c2 c3 c4 HNX
      obtain ⟨xa, xb, xc, xd, xp⟩ := x
      have hb1 : b < W1.heap.size := by omega
      have HOUT : Hid (OutAt W1 (w.heap.size + 3) (w.heap.size + 1 + 1) v3 loops acc) := hout
      have HRES : Hid (W1.heap[w.heap.size + 1]? = some (.cells #[.slice none 0 0, .int .i64 0] 24 (0, 0))) := hres
      clear hout hres
      obtain ⟨a3, c3', ev3⟩ := own_capS HOUT.out.row
      subst ev3
      obtain ⟨Y, hY⟩ : ∃ Y, Y = W1.alloc (.cells #[.int .i64 xa, .int .i64 xb, .int .i64 xc, .int .i64 xd, .bool xp] 89) := ⟨_, rfl⟩
      have HY : Hid (Y = W1.alloc (.cells #[.int .i64 xa, .int .i64 xb, .int .i64 xc, .int .i64 xd, .bool xp] 89)) := hY
      have hsY : Y.heap.size = W1.heap.size + 1 := by rw [hY]; simp
      have HBY : Hid (Below W1.heap.size W1 Y) := (by rw [hY]; exact (Below.refl _ _).alloc (Nat.le_refl _) _ : Below W1.heap.size W1 Y)
      have HTY : Hid (Y.heap[W1.heap.size]? = some (.cells #[.int .i64 xa, .int .i64 xb, .int .i64 xc, .int .i64 xd, .bool xp] 89 (0, 0))) := (by rw [hY]; exact alloc_at rfl : Y.heap[W1.heap.size]? = some (.cells #[.int .i64 xa, .int .i64 xb, .int .i64 xc, .int .i64 xd, .bool xp] 89 (0, 0)))
      clear hY
      cases xp with
      | true =>
        go_wp2_with (go_at_call 72; rw [← HY.out]; refine (turned_any ⟨xa, xb, xc, xd, true⟩ 3 _ (by omega)).mono ?_; rintro e9 w4 ⟨rfl, hb4⟩; refine Hid.out ?_)
        refine Lib.hid ?_
        have HB4 : Hid (Below W1.heap.size W1 w4) := HBY.out.trans (hb4.mono (by omega))
        have HO4 : Hid (OutAt w4 (w.heap.size + 3) (w.heap.size + 1 + 1) (.slice a3 acc.length c3') loops acc) := HOUT.out.on HB4.out
        have HR4 : Hid (w4.heap[w.heap.size + 1]? = some (.cells #[.slice none 0 0, .int .i64 0] 24 (0, 0))) := (HB4.out.block _ (by omega)).trans HRES.out
        have ht4 := (hb4.block _ (by omega)).trans HTY.out
        have p0 : w4.cell? ⟨W1.heap.size, 4, none⟩ = some (.bool true) := block_cell ht4 rfl
        have q0 : w4.cell? ⟨w.heap.size + 1 + 1, 0, none⟩ = some (.slice a3 acc.length c3') := block_cell HO4.out.box rfl
        have hs4 := hb4.size
        have hl4 : w.heap.size + 1 + 1 < w4.heap.size := by omega
        have hl5 : W1.heap.size < w4.heap.size := by omega
        obtain ⟨y, hy⟩ : ∃ y, turn ⟨xa, xb, xc, xd, true⟩ 3 = y := ⟨_, rfl⟩
        have HMX : Hid (mirX ⟨xa, xb, xc, xd, true⟩ = ⟨y.a, y.b, y.c, y.d, false⟩) := (by rw [← hy]; rfl : mirX ⟨xa, xb, xc, xd, true⟩ = ⟨y.a, y.b, y.c, y.d, false⟩)
        rw [hy]
        have HOX : Hid (OutAt (w4.alloc (.cells #[.int .i64 y.a, .int .i64 y.b, .int .i64 y.c, .int .i64 y.d, .bool false] 89)) (w.heap.size + 3) (w.heap.size + 1 + 1) (.slice a3 acc.length c3') loops acc) := HO4.out.on ((Below.refl _ _).alloc (Nat.le_refl _) _)
        clear hb4 ht4 c0 c1 c2 c3 c4 hy
        have hsX : W1.heap.size < (w4.alloc (.cells #[.int .i64 y.a, .int .i64 y.b, .int .i64 y.c, .int .i64 y.d, .bool false] 89)).heap.size := by simp; omega
        go_wp2_with (first
          | (at_builtin; refine wpList_append_own _ rfl _ _ 22 rfl (w.heap.size + 3) 89 i0 (.agg #[.int .i64 0, .int .i64 0, .int .i64 0, .int .i64 0, .bool false]) 5 40 Try.underlying22 hi hz0 hz1 hz2 rfl (by decide) _ _ _ rfl (HOX.out.row.alloc _) ⟨w4.heap.size + 1, 0, none⟩ 1 1 [.int .i64 y.a, .int .i64 y.b, .int .i64 y.c, .int .i64 y.d, .bool false] rfl rfl (new_cell5' (by simp) _ _ _ _ _ _) (cells_one [⟨y.a, y.b, y.c, y.d, false⟩]) (by unfold maxLen; omega) (by omega) (by simp; omega) ?_; intro v8 w8 hown8 hg8 _; refine Hid.out ?_))
        refine Lib.hid ?_
        have HOW8 : Hid (w8.ownsRow (w.heap.size + 3) 89 5 v8 (acc.length + 1) (crossCells acc ++ crossCells [⟨y.a, y.b, y.c, y.d, false⟩])) := hown8
        have HG8 : Hid (((w4.alloc (.cells #[.int .i64 y.a, .int .i64 y.b, .int .i64 y.c, .int .i64 y.d, .bool false] 89)).alloc (.cells #[.int .i64 y.a, .int .i64 y.b, .int .i64 y.c, .int .i64 y.d, .bool false] 89)).grownBy w8 (Value.slice a3 acc.length c3').ownBlock) := hg8
        obtain ⟨a8, c8, ev8⟩ := own_capS HOW8.out
        subst ev8
        have hb8 := HOX.out.box8 (by omega) HG8.out
        have r0 : w8.cell? ⟨w.heap.size + 1 + 1, 0, none⟩ = some (.slice a3 acc.length c3') := block_cell hb8 rfl
        have r1 : w8.frozen? ⟨w.heap.size + 1 + 1, 0, none⟩ = false := block_frozen hb8
        have r2 : w.heap.size + 1 + 1 < w8.heap.size := (Array.getElem?_eq_some_iff.1 hb8).1
        clear hown8 hg8 hb8 p0 q0
        go_wp2
        go_roundw
        case rel =>
          refine ⟨i + 1, .slice a8 (acc.length + 1) c8, acc ++ [(⟨y.a, y.b, y.c, y.d, false⟩ : Cr)], by omega, by go_num, (by have := hal.out; simp; omega : (acc ++ [(⟨y.a, y.b, y.c, y.d, false⟩ : Cr)]).length = i + 1), (by rw [HNX.out, HMX.out, hacc.out] : acc ++ [(⟨y.a, y.b, y.c, y.d, false⟩ : Cr)] = (C.take (i + 1)).map mirX), HOX.out.app (by omega) rfl HOW8.out HG8.out, HOX.out.other (alloc_old HR4.out) (by omega) (by omega) HG8.out, HOX.out.below ((hb.trans (HB4.out.mono hszW)).alloc (by omega) _) (by omega) (by simp; omega) (by omega) HG8.out⟩
        case measure => simp only [intOf]; omega
      | false =>
        go_wp2_with (go_at_call 72; rw [← HY.out]; refine (turned_any ⟨xa, xb, xc, xd, false⟩ 1 _ (by omega)).mono ?_; rintro e9 w4 ⟨rfl, hb4⟩; refine Hid.out ?_)
        refine Lib.hid ?_
        have HB4 : Hid (Below W1.heap.size W1 w4) := HBY.out.trans (hb4.mono (by omega))
        have HO4 : Hid (OutAt w4 (w.heap.size + 3) (w.heap.size + 1 + 1) (.slice a3 acc.length c3') loops acc) := HOUT.out.on HB4.out
        have HR4 : Hid (w4.heap[w.heap.size + 1]? = some (.cells #[.slice none 0 0, .int .i64 0] 24 (0, 0))) := (HB4.out.block _ (by omega)).trans HRES.out
        have ht4 := (hb4.block _ (by omega)).trans HTY.out
        have p0 : w4.cell? ⟨W1.heap.size, 4, none⟩ = some (.bool false) := block_cell ht4 rfl
        have q0 : w4.cell? ⟨w.heap.size + 1 + 1, 0, none⟩ = some (.slice a3 acc.length c3') := block_cell HO4.out.box rfl
        have hs4 := hb4.size
        have hl4 : w.heap.size + 1 + 1 < w4.heap.size := by omega
        have hl5 : W1.heap.size < w4.heap.size := by omega
        obtain ⟨y, hy⟩ : ∃ y, turn ⟨xa, xb, xc, xd, false⟩ 1 = y := ⟨_, rfl⟩
        have HMX : Hid (mirX ⟨xa, xb, xc, xd, false⟩ = ⟨y.a, y.b, y.c, y.d, true⟩) := (by rw [← hy]; rfl : mirX ⟨xa, xb, xc, xd, false⟩ = ⟨y.a, y.b, y.c, y.d, true⟩)
        rw [hy]
        have HOX : Hid (OutAt (w4.alloc (.cells #[.int .i64 y.a, .int .i64 y.b, .int .i64 y.c, .int .i64 y.d, .bool true] 89)) (w.heap.size + 3) (w.heap.size + 1 + 1) (.slice a3 acc.length c3') loops acc) := HO4.out.on ((Below.refl _ _).alloc (Nat.le_refl _) _)
        clear hb4 ht4 c0 c1 c2 c3 c4 hy
        have hsX : W1.heap.size < (w4.alloc (.cells #[.int .i64 y.a, .int .i64 y.b, .int .i64 y.c, .int .i64 y.d, .bool true] 89)).heap.size := by simp; omega
        go_wp2_with (first
          | (at_builtin; refine wpList_append_own _ rfl _ _ 22 rfl (w.heap.size + 3) 89 i0 (.agg #[.int .i64 0, .int .i64 0, .int .i64 0, .int .i64 0, .bool false]) 5 40 Try.underlying22 hi hz0 hz1 hz2 rfl (by decide) _ _ _ rfl (HOX.out.row.alloc _) ⟨w4.heap.size + 1, 0, none⟩ 1 1 [.int .i64 y.a, .int .i64 y.b, .int .i64 y.c, .int .i64 y.d, .bool true] rfl rfl (new_cell5' (by simp) _ _ _ _ _ _) (cells_one [⟨y.a, y.b, y.c, y.d, true⟩]) (by unfold maxLen; omega) (by omega) (by simp; omega) ?_; intro v8 w8 hown8 hg8 _; refine Hid.out ?_))
        refine Lib.hid ?_
        have HOW8 : Hid (w8.ownsRow (w.heap.size + 3) 89 5 v8 (acc.length + 1) (crossCells acc ++ crossCells [⟨y.a, y.b, y.c, y.d, true⟩])) := hown8
        have HG8 : Hid (((w4.alloc (.cells #[.int .i64 y.a, .int .i64 y.b, .int .i64 y.c, .int .i64 y.d, .bool true] 89)).alloc (.cells #[.int .i64 y.a, .int .i64 y.b, .int .i64 y.c, .int .i64 y.d, .bool true] 89)).grownBy w8 (Value.slice a3 acc.length c3').ownBlock) := hg8
        obtain ⟨a8, c8, ev8⟩ := own_capS HOW8.out
        subst ev8
        have hb8 := HOX.out.box8 (by omega) HG8.out
        have r0 : w8.cell? ⟨w.heap.size + 1 + 1, 0, none⟩ = some (.slice a3 acc.length c3') := block_cell hb8 rfl
        have r1 : w8.frozen? ⟨w.heap.size + 1 + 1, 0, none⟩ = false := block_frozen hb8
        have r2 : w.heap.size + 1 + 1 < w8.heap.size := (Array.getElem?_eq_some_iff.1 hb8).1
        clear hown8 hg8 hb8 p0 q0
        go_wp2
        go_roundw
        case rel =>
          refine ⟨i + 1, .slice a8 (acc.length + 1) c8, acc ++ [(⟨y.a, y.b, y.c, y.d, true⟩ : Cr)], by omega, by go_num, (by have := hal.out; simp; omega : (acc ++ [(⟨y.a, y.b, y.c, y.d, true⟩ : Cr)]).length = i + 1), (by rw [HNX.out, HMX.out, hacc.out] : acc ++ [(⟨y.a, y.b, y.c, y.d, true⟩ : Cr)] = (C.take (i + 1)).map mirX), HOX.out.app (by omega) rfl HOW8.out HG8.out, HOX.out.other (alloc_old HR4.out) (by omega) (by omega) HG8.out, HOX.out.below ((hb.trans (HB4.out.mono hszW)).alloc (by omega) _) (by omega) (by simp; omega) (by omega) HG8.out⟩
        case measure => simp only [intOf]; omega
    · obtain rfl : i = C.length := by omega
      have e : acc = C.map mirX := by rw [hacc.out, List.take_length]
      have HOUT : Hid (OutAt W1 (w.heap.size + 3) (w.heap.size + 1 + 1) v3 loops (C.map mirX)) := (by rw [← e]; exact hout : OutAt W1 (w.heap.size + 3) (w.heap.size + 1 + 1) v3 loops (C.map mirX))
      have HRES : Hid (W1.heap[w.heap.size + 1]? = some (.cells #[.slice none 0 0, .int .i64 0] 24 (0, 0))) := hres
      have q0 : W1.cell? ⟨w.heap.size + 1 + 1, 0, none⟩ = some v3 := block_cell hout.box rfl
      have q1 : W1.cell? ⟨w.heap.size + 1 + 1, 1, none⟩ = some (.int .i64 loops) := block_cell hout.box rfl
      have r0 : W1.cell? ⟨w.heap.size + 1, 0, none⟩ = some (.slice none 0 0) := block_cell hres rfl
      have r1 : W1.cell? ⟨w.heap.size + 1, 1, none⟩ = some (.int .i64 0) := block_cell hres rfl
      have f0 : W1.frozen? ⟨w.heap.size + 1, 0, none⟩ = false := block_frozen hres
      have f1 : W1.frozen? ⟨w.heap.size + 1, 1, none⟩ = false := block_frozen hres
      clear hout hres hacc e
      obtain ⟨a3, c3', ev3⟩ := own_capS HOUT.out.row
      rw [List.length_map] at ev3
      subst ev3
      go_wp2
      have hX := set_block (i := 1) (u := .int .i64 loops) (set_block (i := 0) (u := .slice a3 C.length c3') HRES.out)
      have x0 := block_cell (i := 0) (v := .slice a3 C.length c3') hX rfl
      have x1 := block_cell (i := 1) (v := .int .i64 loops) hX rfl
      have hk := HOUT.out.kept (st2_grown W1 (w.heap.size + 1) 0 (.slice a3 C.length c3') (.int .i64 loops)) (by omega) (by omega)
      exact bodyPost_ret (v := .agg #[.slice a3 C.length c3', .int .i64 loops]) (by simp [results, Try.results36, go_sem, x0, x1]) rfl ⟨_, rfl, own_low hk.row (by omega), hb.grown (st2_grown W1 (w.heap.size + 1) 0 (.slice a3 C.length c3') (.int .i64 loops)) hszW (fun q hq => by have := Option.some.inj hq; omega)⟩
end Go.Proofs.Ytkbapnjlnnggaaa
/- Crossings compared; the walks of ref.SameDiagram and ref.MirrorOf, and of canon.Mirror. -/
namespace Go.Proofs.Ytkbapnjlnnggaaa
open Go.RowKit

/-- Are two crossings the same? -/
def crEq (x y : Cr) : Bool := x.a == y.a && x.b == y.b && x.c == y.c && x.d == y.d && x.plus == y.plus
theorem crEq_refl (x : Cr) : crEq x x = true := by simp [crEq]
theorem crEq_eq {x y : Cr} (h : crEq x y = true) : x = y := by
  obtain ⟨a, b, c, d, p⟩ := x
  obtain ⟨a', b', c', d', p'⟩ := y
  simp [crEq] at h
  obtain ⟨⟨⟨⟨h1, h2⟩, h3⟩, h4⟩, h5⟩ := h
  rw [h1, h2, h3, h4, h5]
/-- Are two lists of crossings the same? -/
def crsEq (C D : List Cr) : Bool := decide (C.length = D.length) && (List.range C.length).all fun i => crEq (C.getD i Cr.none) (D.getD i Cr.none)
theorem crsEq_refl (C : List Cr) : crsEq C C = true := by simp [crsEq, crEq_refl]
theorem crsEq_eq {C D : List Cr} (h : crsEq C D = true) : C = D := by
  simp only [crsEq, Bool.and_eq_true, decide_eq_true_eq, List.all_eq_true, List.mem_range] at h
  apply List.ext_getElem?
  intro i
  by_cases hi : i < C.length
  · have e := crEq_eq (h.2 i hi)
    rw [List.getD_eq_getElem?_getD, List.getD_eq_getElem?_getD, List.getElem?_eq_getElem hi, List.getElem?_eq_getElem (by omega)] at e
    rw [List.getElem?_eq_getElem hi, List.getElem?_eq_getElem (by omega)]
    exact congrArg some e
  · rw [List.getElem?_eq_none (by omega), List.getElem?_eq_none (by omega)]

/-- Are two diagrams the same? -/
def sameD (l1 l2 : Int) (C D : List Cr) : Bool := decide (l1 = l2) && crsEq C D
theorem sameD_iff (l1 l2 : Int) (C D : List Cr) : sameD l1 l2 C D = true ↔ l1 = l2 ∧ C.length = D.length ∧ ∀ i, i < C.length → crEq (C.getD i Cr.none) (D.getD i Cr.none) = true := by
  simp only [sameD, crsEq, Bool.and_eq_true, decide_eq_true_eq, List.all_eq_true, List.mem_range]
theorem sameD_no {l1 l2 : Int} {C D : List Cr} (h : ¬ (l1 = l2 ∧ C.length = D.length ∧ ∀ i, i < C.length → crEq (C.getD i Cr.none) (D.getD i Cr.none) = true)) : sameD l1 l2 C D = false := by
  cases hs : sameD l1 l2 C D with
  | false => rfl
  | true => exact absurd ((sameD_iff l1 l2 C D).1 hs) h
theorem eqCross (x y : Cr) (w : World) : (Op.equalIn 10000 89 (.agg #[.int .i64 x.a, .int .i64 x.b, .int .i64 x.c, .int .i64 x.d, .bool x.plus]) (.agg #[.int .i64 y.a, .int .i64 y.b, .int .i64 y.c, .int .i64 y.d, .bool y.plus])).run Try.prog w = .ok (crEq x y) w := by
  have u3 := Try.underlying3
  have a3 := Try.isAgg3
  have z3 := Try.sizeOf3
  have u4 := Try.underlying4
  have a4 := Try.isAgg4
  have z4 := Try.sizeOf4
  have hS : Try.prog.underlying 89 = some (.struct (Try.prog.fieldsOf 89)) := by kernel_rfl
  have hp : Try.prog.stoodInHeld 89 = false := by kernel_rfl
  rw [show (10000 : Nat) = 9999 + 1 from rfl, run_equalIn_agg w 9999 89 _ _ hS hp]
  simp only [Program.fieldsOf, Try.underlying89]
  go_simp
  unfold crEq
  by_cases h1 : x.a = y.a <;> by_cases h2 : x.b = y.b <;> by_cases h3 : x.c = y.c <;> by_cases h4 : x.d = y.d <;> by_cases h5 : x.plus = y.plus <;> simp [h1, h2, h3, h4, h5]
theorem neqCross (x y : Cr) (w : World) : (binOp .neq 89 (.agg #[.int .i64 x.a, .int .i64 x.b, .int .i64 x.c, .int .i64 x.d, .bool x.plus]) (.agg #[.int .i64 y.a, .int .i64 y.b, .int .i64 y.c, .int .i64 y.d, .bool y.plus])).run Try.prog w = .ok (.bool (!crEq x y)) w := by
  rw [run_neq_struct, eqCross]
  simp [Result.andThen]

set_option maxHeartbeats 4000000 in
set_option maxRecDepth 100000 in
theorem sameDiagram_any (v1 v2 : Value) (C D : List Cr) (l1 l2 : Int) (w : World) (h1 : Crs w w.heap.size v1 C) (h2 : Crs w w.heap.size v2 D) :
    Calls Try.prog 20 #[.agg #[v1, .int .i64 l1], .agg #[v2, .int .i64 l2]] w fun e w' => e = .returned (.bool (sameD l1 l2 C D)) ∧ Below w.heap.size w w' := by
  have HC1 : Hid (Crs w w.heap.size v1 C) := h1
  have HC2 : Hid (Crs w w.heap.size v2 D) := h2
  obtain ⟨a1, c1, rfl, hn1, -⟩ := h1
  obtain ⟨a2, c2, rfl, hn2, -⟩ := h2
  have hn1' : C.length ≤ 9223372036854775807 := hn1
  have hn2' : D.length ≤ 9223372036854775807 := hn2
  clear hn1 hn2
  have HB0 : Hid (Below w.heap.size w ((w.alloc (.cells #[.slice a1 C.length c1, .int .i64 l1] 24)).alloc (.cells #[.slice a2 D.length c2, .int .i64 l2] 24))) := below2 _ _ _
  by_cases hll : l1 = l2
  · subst hll
    have hd1 : (l1 != l1) = false := by simp
    by_cases hlen : C.length = D.length
    · have HLEN : Hid (C.length = D.length) := hlen
      have e2 : D.length = C.length := hlen.symm
      rw [e2]
      clear hlen e2 hn2'
      have hd2 : ((C.length : Int) != (C.length : Int)) = false := by simp
      obtain ⟨w0, hw0⟩ : ∃ w0, w0 = (w.alloc (.cells #[.slice a1 C.length c1, .int .i64 l1] 24)).alloc (.cells #[.slice a2 C.length c2, .int .i64 l1] 24) := ⟨_, rfl⟩
      have HW0 : Hid (w0 = (w.alloc (.cells #[.slice a1 C.length c1, .int .i64 l1] 24)).alloc (.cells #[.slice a2 C.length c2, .int .i64 l1] 24)) := hw0
      have hs0 : w0.heap.size = w.heap.size + 2 := by rw [hw0]; simp
      have HBW : Hid (Below w.heap.size w w0) := (by rw [hw0]; exact below2 _ _ _ : Below w.heap.size w w0)
      have HT1 : Hid (w0.heap[w.heap.size]? = some (.cells #[.slice a1 C.length c1, .int .i64 l1] 24 (0, 0))) := (by rw [hw0]; exact alloc_old (alloc_at rfl) : w0.heap[w.heap.size]? = some (.cells #[.slice a1 C.length c1, .int .i64 l1] 24 (0, 0)))
      have HT2 : Hid (w0.heap[w.heap.size + 1]? = some (.cells #[.slice a2 C.length c2, .int .i64 l1] 24 (0, 0))) := (by rw [hw0]; exact alloc_at (by simp) : w0.heap[w.heap.size + 1]? = some (.cells #[.slice a2 C.length c2, .int .i64 l1] 24 (0, 0)))
      clear hw0
      go_enter Try.func20, Try.ntmps20
      go_wp2
      rw [← HW0.out]
      go_loopw [5] (fun v5 wr => ∃ i : Nat, i ≤ C.length ∧ v5 = .int .i64 (i : Nat) ∧ Hid (∀ j, j < i → crEq (C.getD j Cr.none) (D.getD j Cr.none) = true) ∧ Below w0.heap.size w0 wr) (fun v5 _ => C.length - (intOf v5).toNat)
      case atStart => exact ⟨0, Nat.zero_le _, rfl, fun j hj => absurd hj (Nat.not_lt_zero _), Below.refl _ _⟩
      case round =>
        rename World => W1
        obtain ⟨i, hin, rfl, hall, hb⟩ := hrel
        have hszW := hb.size
        have g1 := (hb.block _ (by omega)).trans HT1.out
        have g2 := (hb.block _ (by omega)).trans HT2.out
        have p1 : W1.cell? ⟨w.heap.size, 0, none⟩ = some (.slice a1 C.length c1) := block_cell g1 rfl
        have p2 : W1.cell? ⟨w.heap.size + 1, 0, none⟩ = some (.slice a2 C.length c2) := block_cell g2 rfl
        have hl1 : w.heap.size < W1.heap.size := by omega
        have hl2 : w.heap.size + 1 < W1.heap.size := by omega
        have HBB : Hid (Below w.heap.size w W1) := HBW.out.trans (hb.mono HBW.out.size)
        clear g1 g2
        by_cases hil : i < C.length
        · have hdi : decide ((i : Int) < (C.length : Int)) = true := by simp; omega
          have hdi2 : decide (i < C.length) = true := by simp; omega
          obtain ⟨b1, o1, ea1, hb1, hC1⟩ := crs_some HC1.out (by omega)
          subst ea1
          obtain ⟨x0, x1, x2, x3, x4⟩ := (hC1.on HBB.out hb1) i hil
          have hl := HLEN.out
          obtain ⟨b2, o2, ea2, hb2, hC2⟩ : ∃ b off, a2 = some ⟨b, off, none⟩ ∧ b < w.heap.size ∧ CrossAt w b off D := by
            obtain ⟨a', cap', e, _, g⟩ := HC2.out
            injection e with e1 e2 e3
            obtain ⟨b, off, h1, h2, h3⟩ := g (by omega)
            exact ⟨b, off, by rw [e1, h1], h2, h3⟩
          subst ea2
          obtain ⟨y0, y1, y2, y3, y4⟩ := (hC2.on HBB.out hb2) i (by omega)
          clear hC1 hC2 hl
          have HCI : Hid (∀ q, crEq (C.getD i Cr.none) (D.getD i Cr.none) = q → crEq (C.getD i Cr.none) (D.getD i Cr.none) = q) := fun _ h => h
          obtain ⟨x, hx⟩ : ∃ x, C.getD i Cr.none = x := ⟨_, rfl⟩
          obtain ⟨y, hy⟩ : ∃ y, D.getD i Cr.none = y := ⟨_, rfl⟩
          rw [hx] at x0 x1 x2 x3 x4
          rw [hy] at y0 y1 y2 y3 y4
          have HXY : Hid (crEq (C.getD i Cr.none) (D.getD i Cr.none) = crEq x y) := (by rw [hx, hy] : crEq (C.getD i Cr.none) (D.getD i Cr.none) = crEq x y)
          clear hx hy HCI
          have hb1w : b1 < W1.heap.size := by omega
          have hb2w : b2 < W1.heap.size := by omega
          have n0 : (0 : Int) ≤ (i : Int) := by omega
          have n1 : (i : Int) < (C.length : Int) := by omega
          have hcmp := neqCross x y
          cases hq : crEq x y with
          | true =>
            rw [hq] at hcmp
            simp only [Bool.not_true] at hcmp
            go_wp2
            go_quiet (fail)
            go_wp2
            go_roundw
            case rel =>
              refine ⟨i + 1, by omega, by go_num, fun j hj => ?_, below_drewN hb _⟩
              by_cases e : j = i
              · rw [e, HXY.out]; exact hq
              · exact hall.out j (by omega)
            case measure => simp only [intOf]; omega
          | false =>
            rw [hq] at hcmp
            simp only [Bool.not_false] at hcmp
            have HNO : Hid (sameD l1 l1 C D = false) := sameD_no (fun h => by
              have := h.2.2 i hil
              rw [HXY.out, hq] at this
              exact absurd this (by simp))
            go_wp2
            go_quiet (fail)
            go_wp2
            go_ret
            exact ⟨ret_bool HNO.out, HBW.out.trans ((below_drewN hb _).mono HBW.out.size)⟩
        · obtain rfl : i = C.length := by omega
          have HYES : Hid (sameD l1 l1 C D = true) := (sameD_iff l1 l1 C D).2 ⟨rfl, HLEN.out, fun j hj => hall.out j hj⟩
          have hdi : decide ((C.length : Int) < (C.length : Int)) = false := by simp
          go_wp2
          go_ret
          exact ⟨ret_bool HYES.out, HBB.out⟩
    · have hd2 : ((C.length : Int) != (D.length : Int)) = true := by rw [bne_iff_ne]; omega
      have HNO : Hid (sameD l1 l1 C D = false) := sameD_no (fun h => hlen h.2.1)
      go_enter Try.func20, Try.ntmps20
      go_wp2
      go_ret
      exact ⟨ret_bool HNO.out, HB0.out⟩
  · have hd1 : (l1 != l2) = true := by rw [bne_iff_ne]; exact hll
    have HNO : Hid (sameD l1 l2 C D = false) := sameD_no (fun h => hll h.1)
    go_enter Try.func20, Try.ntmps20
    go_wp2
    go_ret
    exact ⟨ret_bool HNO.out, HB0.out⟩
theorem sameDiagram_eq (v1 v2 : Value) (C : List Cr) (l : Int) (w : World) (h1 : Crs w w.heap.size v1 C) (h2 : Crs w w.heap.size v2 C) :
    Calls Try.prog 20 #[.agg #[v1, .int .i64 l], .agg #[v2, .int .i64 l]] w fun e w' => e = .returned (.bool true) ∧ Below w.heap.size w w' := by
  refine (sameDiagram_any v1 v2 C C l l w h1 h2).mono fun e w' ⟨he, hb⟩ => ⟨?_, hb⟩
  rw [he, (sameD_iff l l C C).2 ⟨rfl, rfl, fun i _ => crEq_refl _⟩]
end Go.Proofs.Ytkbapnjlnnggaaa
/- Sums: the walks of Drawing.Has and of the closure that numbers arcs anew, and of drawing.Renumbered with it. -/
namespace Go.Proofs.Ytkbapnjlnnggaaa
open Go.RowKit

/-- The number of an arc of a summand: more of it; where it is the one that is cut and comes in, another. -/
def tnum (x : Cr) (more cut other : Int) (k : Nat) : Int := if x.arc k = cut ∧ x.comes k = true then other else x.arc k + more
/-- A crossing of a summand. -/
def tieX (more cut other : Int) (x : Cr) : Cr := ⟨tnum x more cut other 0, tnum x more cut other 1, tnum x more cut other 2, tnum x more cut other 3, x.plus⟩

set_option maxHeartbeats 2000000 in
set_option maxRecDepth 100000 in
theorem tiedNum_any (x : Cr) (k : Nat) (more cut other : Int) (pc px po pm : Nat) (w : World) (hk : k < 4) (h1 : -1000 ≤ x.arc k ∧ x.arc k ≤ 1000) (h2 : -1000 ≤ more ∧ more ≤ 1000) (_l1 : pc < w.heap.size) (_l2 : px < w.heap.size) (l3 : po < w.heap.size) (l4 : pm < w.heap.size)
    (c0 : w.cell? ⟨pc, 0, none⟩ = some (.int .i64 cut)) (c1 : w.cell? ⟨px, 0, none⟩ = some (.int .i64 x.a)) (c2 : w.cell? ⟨px, 1, none⟩ = some (.int .i64 x.b)) (c3 : w.cell? ⟨px, 2, none⟩ = some (.int .i64 x.c)) (c4 : w.cell? ⟨px, 3, none⟩ = some (.int .i64 x.d)) (c5 : w.cell? ⟨px, 4, none⟩ = some (.bool x.plus))
    (c6 : w.cell? ⟨po, 0, none⟩ = some (.int .i64 other)) (c7 : w.cell? ⟨pm, 0, none⟩ = some (.int .i64 more)) :
    Calls Try.prog 80 #[.int .i64 (k : Nat), .int .i64 (x.arc k), .pointer (some ⟨pc, 0, none⟩), .pointer (some ⟨px, 0, none⟩), .pointer (some ⟨po, 0, none⟩), .pointer (some ⟨pm, 0, none⟩)] w fun e w' => e = .returned (.int .i64 (tnum x more cut other k)) ∧ Below w.heap.size w w' := by
  have HT : Hid (tnum x more cut other k = if x.arc k = cut ∧ x.comes k = true then other else x.arc k + more) := (rfl : tnum x more cut other k = if x.arc k = cut ∧ x.comes k = true then other else x.arc k + more)
  generalize tnum x more cut other k = r at HT
  by_cases he : x.arc k = cut
  · have hd : (x.arc k == cut) = true := by simpa using he
    cases hcm : x.comes k with
    | true =>
      rw [if_pos ⟨he, hcm⟩] at HT
      generalize x.arc k = z at hd h1 he
      go_enter Try.func80, Try.ntmps80
      go_wp2_with (go_at_call 71; refine (comesIn_any x k _ hk).mono ?_; rw [hcm]; rintro e9 w1 ⟨rfl, hb1⟩; refine Hid.out ?_)
      refine Lib.hid ?_
      have d6 := bcell hb1 l3 c6
      have hs := hb1.size
      have l5 : po < w1.heap.size := by omega
      clear c0 c1 c2 c3 c4 c5 c6 c7
      go_wp2
      go_ret
      exact ⟨ret_int HT.out.symm, hb1⟩
    | false =>
      rw [if_neg (fun h => by rw [hcm] at h; cases h.2)] at HT
      generalize x.arc k = z at hd h1 he HT
      have hw : IntKind.i64.wrap (z + more) = z + more := IntWalk.i64_in _ (by omega)
      go_enter Try.func80, Try.ntmps80
      go_wp2_with (go_at_call 71; refine (comesIn_any x k _ hk).mono ?_; rw [hcm]; rintro e9 w1 ⟨rfl, hb1⟩; refine Hid.out ?_)
      refine Lib.hid ?_
      have d7 := bcell hb1 l4 c7
      have hs := hb1.size
      have l5 : pm < w1.heap.size := by omega
      clear c0 c1 c2 c3 c4 c5 c6 c7
      go_wp2
      go_ret
      exact ⟨ret_int (by have := HT.out; omega), hb1⟩
  · have hd : (x.arc k == cut) = false := by rw [beq_eq_false_iff_ne]; exact he
    rw [if_neg (fun h => he h.1)] at HT
    generalize x.arc k = z at hd h1 he HT
    have hw : IntKind.i64.wrap (z + more) = z + more := IntWalk.i64_in _ (by omega)
    go_enter Try.func80, Try.ntmps80
    go_wp2
    go_ret
    exact ⟨ret_int (by have := HT.out; omega), Below.refl _ _⟩

/-- The numbers behind k sides. -/
def numTo (g : Nat → Int) (k : Nat) : List Int := (List.range 4).map fun j => if j < k then g j else 0
theorem numTo_len (g : Nat → Int) (k : Nat) : (numTo g k).length = 4 := by simp [numTo]
theorem numTo_next (g : Nat → Int) (k : Nat) (hk : k < 4) : (numTo g k).set k (g k) = numTo g (k + 1) := by
  apply List.ext_getElem?
  intro i
  rw [List.getElem?_set]
  by_cases hi : i < 4
  · by_cases e : k = i
    · subst e
      simp [numTo, hi]
    · rw [if_neg e]
      simp only [numTo, List.getElem?_map, List.getElem?_range hi, Option.map_some]
      congr 1
      by_cases h2 : i < k
      · rw [if_pos h2, if_pos (by omega)]
      · rw [if_neg h2, if_neg (by omega)]
  · rw [List.getElem?_eq_none (by rw [numTo_len]; omega), List.getElem?_eq_none (by rw [numTo_len]; omega)]
    split
    · next e => rw [if_neg (by rw [numTo_len]; omega)]
    · rfl
theorem numTo_zero (g : Nat → Int) : numTo g 0 = [0, 0, 0, 0] := by simp [numTo, List.range_succ]
theorem numTo_four (g : Nat → Int) : intArr (numTo g 4) = #[.int .i64 (g 0), .int .i64 (g 1), .int .i64 (g 2), .int .i64 (g 3)] := by
  simp [numTo, intArr, List.range_succ]
/-- The four boxes that the closure holds. -/
def Boxes (w : World) (x : Cr) (more cut other : Int) (pc px po pm : Nat) : Prop := (pc < w.heap.size ∧ px < w.heap.size ∧ po < w.heap.size ∧ pm < w.heap.size) ∧ w.cell? ⟨pc, 0, none⟩ = some (.int .i64 cut) ∧ w.cell? ⟨px, 0, none⟩ = some (.int .i64 x.a) ∧ w.cell? ⟨px, 1, none⟩ = some (.int .i64 x.b) ∧ w.cell? ⟨px, 2, none⟩ = some (.int .i64 x.c) ∧ w.cell? ⟨px, 3, none⟩ = some (.int .i64 x.d) ∧ w.cell? ⟨px, 4, none⟩ = some (.bool x.plus) ∧ w.cell? ⟨po, 0, none⟩ = some (.int .i64 other) ∧ w.cell? ⟨pm, 0, none⟩ = some (.int .i64 more)
theorem Boxes.kept {B : Nat} {w w' : World} {x : Cr} {more cut other : Int} {pc px po pm : Nat} (h : Boxes w x more cut other pc px po pm) (hb : Below B w w') (l1 : pc < B) (l2 : px < B) (l3 : po < B) (l4 : pm < B) : Boxes w' x more cut other pc px po pm := by
  obtain ⟨⟨a1, a2, a3, a4⟩, c0, c1, c2, c3, c4, c5, c6, c7⟩ := h
  have hs := hb.size
  exact ⟨⟨by omega, by omega, by omega, by omega⟩, bcell hb l1 c0, bcell hb l2 c1, bcell hb l2 c2, bcell hb l2 c3, bcell hb l2 c4, bcell hb l2 c5, bcell hb l3 c6, bcell hb l4 c7⟩

set_option maxHeartbeats 4000000 in
set_option maxRecDepth 100000 in
theorem renumbered_any (x : Cr) (more cut other : Int) (pc px po pm : Nat) (w : World) (h1 : ∀ k, k < 4 → -1000 ≤ x.arc k ∧ x.arc k ≤ 1000) (h2 : -1000 ≤ more ∧ more ≤ 1000) (hX : Boxes w x more cut other pc px po pm) :
    Calls Try.prog 79 #[.agg #[.int .i64 x.a, .int .i64 x.b, .int .i64 x.c, .int .i64 x.d, .bool x.plus], .func (.func 80) #[] #[.pointer (some ⟨pc, 0, none⟩), .pointer (some ⟨px, 0, none⟩), .pointer (some ⟨po, 0, none⟩), .pointer (some ⟨pm, 0, none⟩)]] w fun e w' => e = .returned (.agg #[.int .i64 (tieX more cut other x).a, .int .i64 (tieX more cut other x).b, .int .i64 (tieX more cut other x).c, .int .i64 (tieX more cut other x).d, .bool x.plus]) ∧ Below w.heap.size w w' := by
  have HX : Hid (Boxes w x more cut other pc px po pm) := hX
  have H1 : Hid (∀ k, k < 4 → -1000 ≤ x.arc k ∧ x.arc k ≤ 1000) := h1
  obtain ⟨⟨l1, l2, l3, l4⟩, -⟩ := hX
  clear h1
  obtain ⟨w0, hw0⟩ : ∃ w0, w0 = ((w.alloc (.cells #[.int .i64 x.a, .int .i64 x.b, .int .i64 x.c, .int .i64 x.d, .bool x.plus] 89)).alloc (.cells #[.int .i64 0, .int .i64 0, .int .i64 0, .int .i64 0, .bool false] 89)).alloc (.cells #[.int .i64 0, .int .i64 0, .int .i64 0, .int .i64 0] 107) := ⟨_, rfl⟩
  have HW0 : Hid (w0 = ((w.alloc (.cells #[.int .i64 x.a, .int .i64 x.b, .int .i64 x.c, .int .i64 x.d, .bool x.plus] 89)).alloc (.cells #[.int .i64 0, .int .i64 0, .int .i64 0, .int .i64 0, .bool false] 89)).alloc (.cells #[.int .i64 0, .int .i64 0, .int .i64 0, .int .i64 0] 107)) := hw0
  have hs0 : w0.heap.size = w.heap.size + 3 := by rw [hw0]; simp
  have HB0 : Hid (Below w.heap.size w w0) := (by rw [hw0]; exact below3 _ _ _ _ : Below w.heap.size w w0)
  have HT0 : Hid (w0.heap[w.heap.size]? = some (.cells #[.int .i64 x.a, .int .i64 x.b, .int .i64 x.c, .int .i64 x.d, .bool x.plus] 89 (0, 0))) := (by rw [hw0]; exact alloc_old (alloc_old (alloc_at rfl)) : w0.heap[w.heap.size]? = some (.cells #[.int .i64 x.a, .int .i64 x.b, .int .i64 x.c, .int .i64 x.d, .bool x.plus] 89 (0, 0)))
  have HT1 : Hid (w0.heap[w.heap.size + 1]? = some (.cells #[.int .i64 0, .int .i64 0, .int .i64 0, .int .i64 0, .bool false] 89 (0, 0))) := (by rw [hw0]; exact alloc_old (alloc_at (by simp)) : w0.heap[w.heap.size + 1]? = some (.cells #[.int .i64 0, .int .i64 0, .int .i64 0, .int .i64 0, .bool false] 89 (0, 0)))
  obtain ⟨g, hg⟩ : ∃ g : Nat → Int, g = tnum x more cut other := ⟨_, rfl⟩
  have HG : Hid (g = tnum x more cut other) := hg
  clear hg
  have HT2 : Hid (w0.heap[w.heap.size + 1 + 1]? = some (.cells (intArr (numTo g 0)) 107 (0, 0))) := (by rw [hw0, numTo_zero]; exact alloc_at (by simp) : w0.heap[w.heap.size + 1 + 1]? = some (.cells (intArr (numTo g 0)) 107 (0, 0)))
  have HTI : Hid (tieX more cut other x = ⟨g 0, g 1, g 2, g 3, x.plus⟩) := (by rw [HG.out]; rfl : tieX more cut other x = ⟨g 0, g 1, g 2, g 3, x.plus⟩)
  clear hw0
  generalize tieX more cut other x = t at HTI
  obtain rfl : t = ⟨g 0, g 1, g 2, g 3, x.plus⟩ := HTI.out
  clear HTI
  go_enter Try.func79, Try.ntmps79
  go_wp2_with (go_at_call 70; rw [← HW0.out]; refine (arcs_any x _).mono ?_; rintro e9 w1 ⟨rfl, hb1⟩; refine Hid.out ?_)
  refine Lib.hid ?_
  have HB1 : Hid (Below w.heap.size w w1) := HB0.out.trans (hb1.mono (by omega))
  have hs1 := hb1.size
  have HA1 : Hid (w1.heap[w.heap.size + 1 + 1]? = some (.cells (intArr (numTo g 0)) 107 (0, 0))) := (hb1.block _ (by omega)).trans HT2.out
  have HC1 : Hid (w1.heap[w.heap.size]? = some (.cells #[.int .i64 x.a, .int .i64 x.b, .int .i64 x.c, .int .i64 x.d, .bool x.plus] 89 (0, 0))) := (hb1.block _ (by omega)).trans HT0.out
  have HR1 : Hid (w1.heap[w.heap.size + 1]? = some (.cells #[.int .i64 0, .int .i64 0, .int .i64 0, .int .i64 0, .bool false] 89 (0, 0))) := (hb1.block _ (by omega)).trans HT1.out
  clear hb1
  go_wp2
  go_loopw [10] (fun v10 wr => ∃ k : Nat, k ≤ 4 ∧ v10 = .int .i64 (k : Nat) ∧ Hid (wr.heap[w.heap.size + 1 + 1]? = some (.cells (intArr (numTo g k)) 107 (0, 0))) ∧ Below (w.heap.size + 1 + 1) w1 wr) (fun v10 _ => 4 - (intOf v10).toNat)
  case atStart => exact ⟨0, Nat.zero_le _, rfl, HA1.out, Below.refl _ _⟩
  case round =>
    rename World => W1
    obtain ⟨k, hk, rfl, hA, hb⟩ := hrel
    have hsz := hb.size
    by_cases hkl : k < 4
    · have hix := index_arr x k hkl
      have HBX : Hid (Boxes W1 x more cut other pc px po pm) := HX.out.kept (HB1.out.trans (hb.mono (by omega))) l1 l2 l3 l4
      obtain ⟨⟨m1, m2, m3, m4⟩, d0, d1, d2, d3, d4, d5, d6, d7⟩ := HBX.out
      have HGK : Hid (tnum x more cut other k = g k) := (by rw [HG.out] : tnum x more cut other k = g k)
      have HN : Hid (numTo g (k + 1) = (numTo g k).set k (g k)) := (numTo_next g k hkl).symm
      have D0 : Hid (Boxes W1 x more cut other pc px po pm) := HBX.out
      clear d0 d1 d2 d3 d4 d5 d6 d7
      go_wp2_with (go_at_call 80; refine (tiedNum_any x k more cut other pc px po pm _ hkl (H1.out k hkl) h2 m1 m2 m3 m4 D0.out.2.1 D0.out.2.2.1 D0.out.2.2.2.1 D0.out.2.2.2.2.1 D0.out.2.2.2.2.2.1 D0.out.2.2.2.2.2.2.1 D0.out.2.2.2.2.2.2.2.1 D0.out.2.2.2.2.2.2.2.2).mono ?_; rw [HGK.out]; rintro e9 w2 ⟨rfl, hb2⟩; refine Hid.out ?_)
      refine Lib.hid ?_
      have HB2 : Hid (Below W1.heap.size W1 w2) := hb2
      have hs2 := hb2.size
      have hA2 : w2.heap[w.heap.size + 1 + 1]? = some (.cells (intArr (numTo g k)) 107 (0, 0)) := (hb2.block _ (by omega)).trans hA.out
      have HA2 : Hid (w2.heap[w.heap.size + 1 + 1]? = some (.cells (intArr (numTo g k)) 107 (0, 0))) := hA2
      have e0 : w2.cell? ⟨w.heap.size + 1 + 1, k, none⟩ = some (.int .i64 ((numTo g k).getD k 0)) := block_cell hA2 (intArr_get _ k (by rw [numTo_len]; exact hkl))
      have z0 : w2.frozen? ⟨w.heap.size + 1 + 1, k, none⟩ = false := block_frozen hA2
      have hlt : w.heap.size + 1 + 1 < w2.heap.size := by omega
      generalize (numTo g k).getD k 0 = u at e0
      clear hb2 hA2
      go_wp2
      go_roundw
      case rel => exact ⟨k + 1, by omega, by go_num, (by rw [HN.out, ← intArr_set]; exact set_block HA2.out : (w2.setCell ⟨w.heap.size + 1 + 1, k, none⟩ (.int .i64 (g k))).heap[w.heap.size + 1 + 1]? = some (.cells (intArr (numTo g (k + 1))) 107 (0, 0))), (hb.trans (HB2.out.mono (by omega))).grown (set_grown w2 (w.heap.size + 1 + 1) k (.int .i64 (g k))) (by omega) (fun q hq => by have := Option.some.inj hq; omega)⟩
      case measure => simp only [intOf]; omega
    · obtain rfl : k = 4 := by omega
      have hA4 := hA.out
      rw [numTo_four] at hA4
      have hC := (hb.block _ (by omega)).trans HC1.out
      have hR := (hb.block _ (by omega)).trans HR1.out
      have HR : Hid (W1.heap[w.heap.size + 1]? = some (.cells #[.int .i64 0, .int .i64 0, .int .i64 0, .int .i64 0, .bool false] 89 (0, 0))) := hR
      have a0 : W1.cell? ⟨w.heap.size + 1 + 1, 0, none⟩ = some (.int .i64 (g 0)) := block_cell hA4 rfl
      have a1 : W1.cell? ⟨w.heap.size + 1 + 1, 1, none⟩ = some (.int .i64 (g 1)) := block_cell hA4 rfl
      have a2 : W1.cell? ⟨w.heap.size + 1 + 1, 2, none⟩ = some (.int .i64 (g 2)) := block_cell hA4 rfl
      have a3 : W1.cell? ⟨w.heap.size + 1 + 1, 3, none⟩ = some (.int .i64 (g 3)) := block_cell hA4 rfl
      have a4 : W1.cell? ⟨w.heap.size, 4, none⟩ = some (.bool x.plus) := block_cell hC rfl
      have hlt : w.heap.size + 1 + 1 < W1.heap.size := by omega
      have HBW : Hid (Below w.heap.size w W1) := HB1.out.trans (hb.mono (by omega))
      clear hA4 hC hR hA hb
      go_wp2_with (go_at_call 105; refine (crossOf_any ⟨(g 0), (g 1), (g 2), (g 3), x.plus⟩ _).mono ?_; rintro e9 w4 ⟨rfl, hb4⟩; refine Hid.out ?_)
      refine Lib.hid ?_
      have HR4 : Hid (w4.heap[w.heap.size + 1]? = some (.cells #[.int .i64 0, .int .i64 0, .int .i64 0, .int .i64 0, .bool false] 89 (0, 0))) := (hb4.block _ (by omega)).trans HR.out
      have HB4 : Hid (Below w.heap.size w w4) := HBW.out.trans (hb4.mono (by omega))
      have hs4 := hb4.size
      clear hb4 a0 a1 a2 a3 a4
      have r0 : w4.cell? ⟨w.heap.size + 1, 0, none⟩ = some (.int .i64 0) := block_cell HR4.out rfl
      have r1 : w4.cell? ⟨w.heap.size + 1, 1, none⟩ = some (.int .i64 0) := block_cell HR4.out rfl
      have r2 : w4.cell? ⟨w.heap.size + 1, 2, none⟩ = some (.int .i64 0) := block_cell HR4.out rfl
      have r3 : w4.cell? ⟨w.heap.size + 1, 3, none⟩ = some (.int .i64 0) := block_cell HR4.out rfl
      have r4 : w4.cell? ⟨w.heap.size + 1, 4, none⟩ = some (.bool false) := block_cell HR4.out rfl
      have f0 : w4.frozen? ⟨w.heap.size + 1, 0, none⟩ = false := block_frozen HR4.out
      have f1 : w4.frozen? ⟨w.heap.size + 1, 1, none⟩ = false := block_frozen HR4.out
      have f2 : w4.frozen? ⟨w.heap.size + 1, 2, none⟩ = false := block_frozen HR4.out
      have f3 : w4.frozen? ⟨w.heap.size + 1, 3, none⟩ = false := block_frozen HR4.out
      have f4 : w4.frozen? ⟨w.heap.size + 1, 4, none⟩ = false := block_frozen HR4.out
      go_wp2
      have hX := set_block (i := 4) (u := .bool x.plus) (set_block (i := 3) (u := .int .i64 (g 3)) (set_block (i := 2) (u := .int .i64 (g 2)) (set_block (i := 1) (u := .int .i64 (g 1)) (set_block (i := 0) (u := .int .i64 (g 0)) HR4.out))))
      have x0 := block_cell (i := 0) (v := .int .i64 (g 0)) hX rfl
      have x1 := block_cell (i := 1) (v := .int .i64 (g 1)) hX rfl
      have x2 := block_cell (i := 2) (v := .int .i64 (g 2)) hX rfl
      have x3 := block_cell (i := 3) (v := .int .i64 (g 3)) hX rfl
      have x4 := block_cell (i := 4) (v := .bool x.plus) hX rfl
      refine bodyPost_ret (v := .agg #[.int .i64 (g 0), .int .i64 (g 1), .int .i64 (g 2), .int .i64 (g 3), .bool x.plus]) (by simp [results, Try.results79, go_sem, x0, x1, x2, x3, x4]) rfl ⟨rfl, ?_⟩
      have hst : ∀ (W : World) (u : Value) (i : Nat), Below w.heap.size w W → Below w.heap.size w (W.setCell ⟨w.heap.size + 1, i, none⟩ u) := fun W u i h => h.grown (set_grown W (w.heap.size + 1) i u) h.size (fun q hq => by have := Option.some.inj hq; omega)
      exact hst _ _ _ (hst _ _ _ (hst _ _ _ (hst _ _ _ (hst _ _ _ HB4.out))))
end Go.Proofs.Ytkbapnjlnnggaaa
/- The walks of ref.MirrorOf and canon.Mirror. -/
namespace Go.Proofs.Ytkbapnjlnnggaaa
open Go.RowKit

set_option maxHeartbeats 2000000 in
set_option maxRecDepth 100000 in
theorem mirror_no (v : Value) (C : List Cr) (loops : Int) (w : World) (hm : mayD C loops = false) (h : Crs w w.heap.size v C) :
    Calls Try.prog 10 #[.agg #[v, .int .i64 loops]] w fun e w' => e = .returned (.tuple #[.agg #[.slice none 0 0, .int .i64 0], .int .i64 7]) ∧ Below w.heap.size w w' := by
  have HC : Hid (Crs w w.heap.size v C) := h
  obtain ⟨a, cap, rfl, hn, -⟩ := h
  have HB1 : Hid (Below w.heap.size w ((w.alloc (.cells #[.slice a C.length cap, .int .i64 loops] 24)).alloc (.cells #[.slice none 0 0, .int .i64 0] 24))) := below2 _ _ _
  have HT1 : Hid (((w.alloc (.cells #[.slice a C.length cap, .int .i64 loops] 24)).alloc (.cells #[.slice none 0 0, .int .i64 0] 24)).heap[w.heap.size + 1]? = some (.cells #[.slice none 0 0, .int .i64 0] 24 (0, 0))) := alloc_at (by simp)
  go_enter Try.func10, Try.ntmps10
  go_wp2_with (go_at_call 35; refine (of_any _ C loops _ (HC.out.up HB1.out)).mono ?_; rw [hm]; rintro e9 w2 ⟨d, rfl, hb2, hd⟩; rw [hd.no hm]; refine Hid.out ?_)
  refine Lib.hid ?_
  unfold noDrawing
  have HB2 : Hid (Below w.heap.size w w2) := HB1.out.trans (hb2.mono HB1.out.size)
  have HT2 : Hid (w2.heap[w.heap.size + 1]? = some (.cells #[.slice none 0 0, .int .i64 0] 24 (0, 0))) := (hb2.block _ (by simp)).trans HT1.out
  have hs2 : w.heap.size + 2 ≤ w2.heap.size := by have := hb2.size; simpa using this
  clear hb2 hd
  have r0 : w2.cell? ⟨w.heap.size + 1, 0, none⟩ = some (.slice none 0 0) := block_cell HT2.out rfl
  have r1 : w2.cell? ⟨w.heap.size + 1, 1, none⟩ = some (.int .i64 0) := block_cell HT2.out rfl
  have f0 : w2.frozen? ⟨w.heap.size + 1, 0, none⟩ = false := block_frozen HT2.out
  have f1 : w2.frozen? ⟨w.heap.size + 1, 1, none⟩ = false := block_frozen HT2.out
  have hl : w.heap.size + 1 < w2.heap.size := by omega
  go_wp2
  have hX := alloc_old (o := .cells #[.slice none 0 0, .int .i64 0, .slice none 0 0, .slice none 0 0] 71) (set_block (i := 1) (u := .int .i64 0) (set_block (i := 0) (u := .slice none 0 0) HT2.out))
  have x0 := block_cell (i := 0) (v := .slice none 0 0) hX rfl
  have x1 := block_cell (i := 1) (v := .int .i64 0) hX rfl
  refine bodyPost_ret (v := .tuple #[.agg #[.slice none 0 0, .int .i64 0], .int .i64 7]) (by simp [results, Try.results10, go_sem, x0, x1]) rfl ⟨rfl, ?_⟩
  exact (HB2.out.grown (st2_grown w2 (w.heap.size + 1) 0 (.slice none 0 0) (.int .i64 0)) (by omega) (fun q hq => by have := Option.some.inj hq; omega)).alloc (by have := (st2_grown w2 (w.heap.size + 1) 0 (.slice none 0 0) (.int .i64 0)).size; omega) _

set_option maxHeartbeats 4000000 in
set_option maxRecDepth 100000 in
theorem mirror_yes (v : Value) (C : List Cr) (loops : Int) (w : World) (hm : mayD C loops = true) (h : Crs w w.heap.size v C) :
    Calls Try.prog 10 #[.agg #[v, .int .i64 loops]] w fun e w' => ∃ r, e = .returned (.tuple #[.agg #[r, .int .i64 loops], .int .i64 0]) ∧ Crs w' w'.heap.size r (C.map mirX) ∧ Below w.heap.size w w' := by
  obtain ⟨s1, -, -, -⟩ := sizeB_iff (may_size hm)
  have HC : Hid (Crs w w.heap.size v C) := h
  have HM : Hid (mayD C loops = true) := hm
  obtain ⟨a, cap, rfl, hn, -⟩ := h
  have HB1 : Hid (Below w.heap.size w ((w.alloc (.cells #[.slice a C.length cap, .int .i64 loops] 24)).alloc (.cells #[.slice none 0 0, .int .i64 0] 24))) := below2 _ _ _
  have HT1 : Hid (((w.alloc (.cells #[.slice a C.length cap, .int .i64 loops] 24)).alloc (.cells #[.slice none 0 0, .int .i64 0] 24)).heap[w.heap.size + 1]? = some (.cells #[.slice none 0 0, .int .i64 0] 24 (0, 0))) := alloc_at (by simp)
  go_enter Try.func10, Try.ntmps10
  go_wp2_with (go_at_call 35; refine (of_any _ C loops _ (HC.out.up HB1.out)).mono ?_; rw [hm]; rintro e9 w2 ⟨d, rfl, hb2, hd⟩; obtain ⟨gF, cF, gT, cT, rfl, hdr⟩ := hd.dr HM.out hb2 (HC.out.up HB1.out); refine Hid.out ?_)
  refine Lib.hid ?_
  have HDR : Hid (Dr w2 a cap C gF gT) := hdr
  unfold drV
  have HB2 : Hid (Below w.heap.size w w2) := HB1.out.trans (hb2.mono HB1.out.size)
  have HT2 : Hid (w2.heap[w.heap.size + 1]? = some (.cells #[.slice none 0 0, .int .i64 0] 24 (0, 0))) := (hb2.block _ (by simp)).trans HT1.out
  have hs2 : w.heap.size + 2 ≤ w2.heap.size := by have := hb2.size; simpa using this
  have HBA : Hid (Below w2.heap.size w2 (w2.alloc (.cells #[.slice a C.length cap, .int .i64 loops, .slice (some ⟨gF, 0, none⟩) (2 * C.length + 1) cF, .slice (some ⟨gT, 0, none⟩) (2 * C.length + 1) cT] 71))) := (Below.refl _ _).alloc (Nat.le_refl _) _
  clear hb2 hd hdr hm
  go_wp2_with (go_at_call 36; refine (mirrored_any a cap C loops gF cF gT cT _ s1 (HDR.out.crs.up HBA.out)).mono ?_; rintro e9 w3 ⟨r, rfl, hr, hb3⟩; refine Hid.out ?_)
  refine Lib.hid ?_
  have HR : Hid (w3.ownsRow (w.heap.size + 2) 89 5 r (C.map mirX).length (crossCells (C.map mirX))) := own_low hr (by simp; omega)
  have HB3 : Hid (Below w.heap.size w w3) := (HB2.out.trans (HBA.out.mono HB2.out.size)).trans (hb3.mono (by simp; omega))
  have HT3 : Hid (w3.heap[w.heap.size + 1]? = some (.cells #[.slice none 0 0, .int .i64 0] 24 (0, 0))) := (hb3.block _ (by simp; omega)).trans (alloc_old HT2.out)
  have hs3 : w.heap.size + 2 ≤ w3.heap.size := by have := hb3.size; simp at this; omega
  clear hr hb3
  obtain ⟨a3, c3', ev3⟩ := own_capS HR.out
  rw [List.length_map] at ev3
  subst ev3
  have r0 : w3.cell? ⟨w.heap.size + 1, 0, none⟩ = some (.slice none 0 0) := block_cell HT3.out rfl
  have r1 : w3.cell? ⟨w.heap.size + 1, 1, none⟩ = some (.int .i64 0) := block_cell HT3.out rfl
  have f0 : w3.frozen? ⟨w.heap.size + 1, 0, none⟩ = false := block_frozen HT3.out
  have f1 : w3.frozen? ⟨w.heap.size + 1, 1, none⟩ = false := block_frozen HT3.out
  have hl : w.heap.size + 1 < w3.heap.size := by omega
  go_wp2
  have hX := set_block (i := 1) (u := .int .i64 loops) (set_block (i := 0) (u := .slice a3 C.length c3') HT3.out)
  have x0 := block_cell (i := 0) (v := .slice a3 C.length c3') hX rfl
  have x1 := block_cell (i := 1) (v := .int .i64 loops) hX rfl
  have hk := HR.out.kept (st2_grown w3 (w.heap.size + 1) 0 (.slice a3 C.length c3') (.int .i64 loops)) (by
    cases hv : (Value.slice a3 C.length c3').ownBlock with
    | none => exact Or.inl rfl
    | some k => exact Or.inr (fun e => by have h1 := (HR.out.lt k hv).1; have h2 := Option.some.inj e; omega))
  exact bodyPost_ret (v := .tuple #[.agg #[.slice a3 C.length c3', .int .i64 loops], .int .i64 0]) (by simp [results, Try.results10, go_sem, x0, x1]) rfl ⟨_, rfl, crs_own hk (by unfold maxLen; simp; omega), HB3.out.grown (st2_grown w3 (w.heap.size + 1) 0 (.slice a3 C.length c3') (.int .i64 loops)) (by omega) (fun q hq => by have := Option.some.inj hq; omega)⟩
end Go.Proofs.Ytkbapnjlnnggaaa

/- Diagrams under way: crossings that are appended to one; the walks of drawing.crossOf and drawing.Turned. -/
import Derived.Test.YtfceigcjonlhkaaW5
namespace Go.Proofs.Ytfceigcjonlhkaa
open Go.RowKit

theorem cells_append (C D : List Cr) : crossCells (C ++ D) = crossCells C ++ crossCells D := by simp [crossCells]
theorem new_cell5 (W : World) (a b c d p : Value) (e : TypeId) : ∀ j u, [a, b, c, d, p][j]? = some u → (W.alloc (.cells #[a, b, c, d, p] e)).cell? ((⟨W.heap.size, 0, none⟩ : Addr).add j) = some u := by
  intro j u hj
  rw [Addr.add_lit, Nat.zero_add]
  have hh : (W.alloc (.cells #[a, b, c, d, p] e)).heap[W.heap.size]? = some (.cells #[a, b, c, d, p] e (0, 0)) := Array.getElem?_push_size
  match j, hj with
  | 0, hj => simp at hj; subst hj; exact block_cell hh rfl
  | 1, hj => simp at hj; subst hj; exact block_cell hh rfl
  | 2, hj => simp at hj; subst hj; exact block_cell hh rfl
  | 3, hj => simp at hj; subst hj; exact block_cell hh rfl
  | 4, hj => simp at hj; subst hj; exact block_cell hh rfl
theorem new_cell5' {W : World} {s : Nat} (hs : s = W.heap.size) (a b c d p : Value) (e : TypeId) : ∀ j u, [a, b, c, d, p][j]? = some u → (W.alloc (.cells #[a, b, c, d, p] e)).cell? ((⟨s, 0, none⟩ : Addr).add j) = some u := by
  subst hs
  exact new_cell5 W a b c d p e
/-- A diagram under way: its box at block g, its crossings a row of the call's own. -/
structure OutAt (w : World) (B g : Nat) (v : Value) (loops : Int) (C : List Cr) : Prop where
  box : w.heap[g]? = some (.cells #[v, .int .i64 loops] 24 (0, 0))
  row : w.ownsRow B 101 5 v C.length (crossCells C)
theorem OutAt.nil {w : World} {B g : Nat} {loops : Int} (h : w.heap[g]? = some (.cells #[.slice none 0 0, .int .i64 loops] 24 (0, 0))) : OutAt w B g (.slice none 0 0) loops [] := ⟨h, World.ownsRow_nil _ _ _ _⟩
theorem OutAt.on {w w' : World} {B g : Nat} {v : Value} {loops : Int} {C : List Cr} (h : OutAt w B g v loops C) (hb : Below w.heap.size w w') : OutAt w' B g v loops C :=
  ⟨(hb.block _ (Array.getElem?_eq_some_iff.1 h.box).1).trans h.box, own_any h.row (grown_below hb none)⟩
theorem OutAt.kept {w w' : World} {B g q : Nat} {v : Value} {loops : Int} {C : List Cr} (h : OutAt w B g v loops C) (hg : w.grownBy w' (some q)) (hq : q ≠ g) (hB : q < B) : OutAt w' B g v loops C := by
  refine ⟨(hg.block _ (Array.getElem?_eq_some_iff.1 h.box).1 (fun e => hq (Option.some.inj e).symm)).trans h.box, h.row.kept hg ?_⟩
  cases hv : v.ownBlock with
  | none => exact Or.inl rfl
  | some k => exact Or.inr (fun e => by have h1 := (h.row.lt k hv).1; have h2 := Option.some.inj e; omega)
theorem OutAt.app {w w8 : World} {B g : Nat} {v v8 : Value} {loops : Int} {C : List Cr} {x : Cr} {o : Obj} {m : Nat} (h : OutAt w B g v loops C) (hgB : g < B) (hm : m = C.length + 1) (hown8 : w8.ownsRow B 101 5 v8 m (crossCells C ++ crossCells [x])) (hg8 : (w.alloc o).grownBy w8 v.ownBlock) : OutAt (w8.setCell ⟨g, 0, none⟩ v8) B g v8 loops (C ++ [x]) := by
  have hlt := (Array.getElem?_eq_some_iff.1 h.box).1
  have hb8 : w8.heap[g]? = some (.cells #[v, .int .i64 loops] 24 (0, 0)) :=
    (hg8.block _ (by simp; omega) (fun e => by have := (h.row.lt g e.symm).1; omega)).trans (alloc_old h.box)
  refine ⟨set_block hb8, ?_⟩
  have hl : (C ++ [x]).length = m := by rw [hm]; simp
  rw [hl, cells_append]
  refine hown8.kept (set_grown w8 g 0 v8) ?_
  cases hv : v8.ownBlock with
  | none => exact Or.inl rfl
  | some k => exact Or.inr (fun e => by have h1 := (hown8.lt k hv).1; have h2 := Option.some.inj e; omega)
theorem OutAt.below {w w8 W : World} {B B0 g : Nat} {v v8 : Value} {loops : Int} {C : List Cr} {o : Obj} (h : OutAt w B g v loops C) (hb : Below B0 W w) (hB : B0 ≤ B) (hs : B0 ≤ w.heap.size) (h0 : B0 ≤ g) (hg8 : (w.alloc o).grownBy w8 v.ownBlock) : Below B0 W (w8.setCell ⟨g, 0, none⟩ v8) :=
  ((hb.alloc hs _).grown hg8 (by simp; omega) (fun q hq => Nat.le_trans hB (h.row.lt q hq).1)).grown (set_grown w8 g 0 v8) (by have := hg8.size; simp at this; omega) (fun q hq => by have := Option.some.inj hq; omega)
theorem OutAt.other {w w8 : World} {B g k : Nat} {v v8 : Value} {loops : Int} {C : List Cr} {o p : Obj} (h : OutAt w B g v loops C) (hk : w.heap[k]? = some p) (hkB : k < B) (hkg : k ≠ g) (hg8 : (w.alloc o).grownBy w8 v.ownBlock) : (w8.setCell ⟨g, 0, none⟩ v8).heap[k]? = some p := by
  have hlt := (Array.getElem?_eq_some_iff.1 hk).1
  have hs := hg8.size
  simp only [World.size_alloc] at hs
  have hb8 : w8.heap[k]? = some p := (hg8.block _ (by simp; omega) (fun e => by have := (h.row.lt k e.symm).1; omega)).trans (alloc_old hk)
  exact ((set_grown w8 g 0 v8).block k (by omega) (fun e => hkg (Option.some.inj e))).trans hb8
theorem OutAt.box8 {w w8 : World} {B g : Nat} {v : Value} {loops : Int} {C : List Cr} {o : Obj} (h : OutAt w B g v loops C) (hgB : g < B) (hg8 : (w.alloc o).grownBy w8 v.ownBlock) : w8.heap[g]? = some (.cells #[v, .int .i64 loops] 24 (0, 0)) := by
  have hlt := (Array.getElem?_eq_some_iff.1 h.box).1
  exact (hg8.block _ (by simp; omega) (fun e => by have := (h.row.lt g e.symm).1; omega)).trans (alloc_old h.box)

/-- The crossing told from side f on. -/
def turn (x : Cr) (f : Nat) : Cr := ⟨x.arc (f % 4), x.arc ((f + 1) % 4), x.arc ((f + 2) % 4), x.arc ((f + 3) % 4), x.plus⟩

set_option maxHeartbeats 2000000 in
set_option maxRecDepth 100000 in
theorem crossOf_any (x : Cr) (w : World) :
    Calls Try.prog 137 #[.agg #[.int .i64 x.a, .int .i64 x.b, .int .i64 x.c, .int .i64 x.d], .bool x.plus] w fun e w' => e = .returned (.agg #[.int .i64 x.a, .int .i64 x.b, .int .i64 x.c, .int .i64 x.d, .bool x.plus]) ∧ Below w.heap.size w w' := by
  go_enter Try.func137, Try.ntmps137
  go_wp2
  exact bodyPost_ret (v := .agg #[.int .i64 x.a, .int .i64 x.b, .int .i64 x.c, .int .i64 x.d, .bool x.plus]) (by simp [results, Try.results137, go_sem]) rfl ⟨rfl, below2 _ _ _⟩

/-- Four numbers as cells. -/
def intArr (l : List Int) : Array Value := (l.map fun x => Value.int .i64 x).toArray
theorem intArr_set (l : List Int) (p : Nat) (z : Int) : (intArr l).setIfInBounds p (.int .i64 z) = intArr (l.set p z) := by
  simp [intArr, List.map_set]
theorem intArr_get (l : List Int) (p : Nat) (h : p < l.length) : (intArr l)[p]? = some (.int .i64 (l.getD p 0)) := by
  simp [intArr, List.getD, h]
/-- The turned crossing's arcs behind k sides. -/
def arrTo (x : Cr) (f k : Nat) : List Int := (List.range 4).map fun j => if (j + f) % 4 < k then x.arc ((j + f) % 4) else 0
theorem arrTo_len (x : Cr) (f k : Nat) : (arrTo x f k).length = 4 := by simp [arrTo]
theorem arrTo_next (x : Cr) (f k p : Nat) (hp : p < 4) (h : (p + f) % 4 = k) : (arrTo x f k).set p (x.arc k) = arrTo x f (k + 1) := by
  apply List.ext_getElem?
  intro i
  rw [List.getElem?_set]
  by_cases hi : i < 4
  · by_cases e : p = i
    · subst e
      simp [arrTo, hi, h]
    · rw [if_neg e]
      have hne : (i + f) % 4 ≠ k := by omega
      simp only [arrTo, List.getElem?_map, List.getElem?_range hi, Option.map_some]
      congr 1
      by_cases h2 : (i + f) % 4 < k
      · rw [if_pos h2, if_pos (by omega)]
      · rw [if_neg h2, if_neg (by omega)]
  · rw [List.getElem?_eq_none (by rw [arrTo_len]; omega), List.getElem?_eq_none (by rw [arrTo_len]; omega)]
    split
    · next e => rw [if_neg (by rw [arrTo_len]; omega)]
    · rfl
theorem arrTo_zero (x : Cr) (f : Nat) : arrTo x f 0 = [0, 0, 0, 0] := by simp [arrTo, List.range_succ]
theorem arrTo_four (x : Cr) (f : Nat) : intArr (arrTo x f 4) = #[.int .i64 (turn x f).a, .int .i64 (turn x f).b, .int .i64 (turn x f).c, .int .i64 (turn x f).d] := by
  have h0 : f % 4 < 4 := Nat.mod_lt _ (by omega)
  simp [arrTo, intArr, turn, List.range_succ, h0, Nat.add_comm]
  exact ⟨fun h => by omega, fun h => by omega, fun h => by omega⟩

set_option maxHeartbeats 4000000 in
set_option maxRecDepth 100000 in
theorem turned_any (x : Cr) (f : Nat) (w : World) (hf : f < 4) :
    Calls Try.prog 89 #[.agg #[.int .i64 x.a, .int .i64 x.b, .int .i64 x.c, .int .i64 x.d, .bool x.plus], .int .i64 (f : Nat)] w fun e w' => e = .returned (.agg #[.int .i64 (turn x f).a, .int .i64 (turn x f).b, .int .i64 (turn x f).c, .int .i64 (turn x f).d, .bool x.plus]) ∧ Below w.heap.size w w' := by
  obtain ⟨w0, hw0⟩ : ∃ w0, w0 = ((w.alloc (.cells #[.int .i64 x.a, .int .i64 x.b, .int .i64 x.c, .int .i64 x.d, .bool x.plus] 101)).alloc (.cells #[.int .i64 0, .int .i64 0, .int .i64 0, .int .i64 0, .bool false] 101)).alloc (.cells #[.int .i64 0, .int .i64 0, .int .i64 0, .int .i64 0] 132) := ⟨_, rfl⟩
  have HW0 : Hid (w0 = ((w.alloc (.cells #[.int .i64 x.a, .int .i64 x.b, .int .i64 x.c, .int .i64 x.d, .bool x.plus] 101)).alloc (.cells #[.int .i64 0, .int .i64 0, .int .i64 0, .int .i64 0, .bool false] 101)).alloc (.cells #[.int .i64 0, .int .i64 0, .int .i64 0, .int .i64 0] 132)) := hw0
  have hs0 : w0.heap.size = w.heap.size + 3 := by rw [hw0]; simp
  have HB0 : Hid (Below w.heap.size w w0) := (by rw [hw0]; exact below3 _ _ _ _ : Below w.heap.size w w0)
  have HT0 : Hid (w0.heap[w.heap.size]? = some (.cells #[.int .i64 x.a, .int .i64 x.b, .int .i64 x.c, .int .i64 x.d, .bool x.plus] 101 (0, 0))) := (by rw [hw0]; exact alloc_old (alloc_old (alloc_at rfl)) : w0.heap[w.heap.size]? = some (.cells #[.int .i64 x.a, .int .i64 x.b, .int .i64 x.c, .int .i64 x.d, .bool x.plus] 101 (0, 0)))
  have HT1 : Hid (w0.heap[w.heap.size + 1]? = some (.cells #[.int .i64 0, .int .i64 0, .int .i64 0, .int .i64 0, .bool false] 101 (0, 0))) := (by rw [hw0]; exact alloc_old (alloc_at (by simp)) : w0.heap[w.heap.size + 1]? = some (.cells #[.int .i64 0, .int .i64 0, .int .i64 0, .int .i64 0, .bool false] 101 (0, 0)))
  have HT2 : Hid (w0.heap[w.heap.size + 1 + 1]? = some (.cells (intArr (arrTo x f 0)) 132 (0, 0))) := (by rw [hw0, arrTo_zero]; exact alloc_at (by simp) : w0.heap[w.heap.size + 1 + 1]? = some (.cells (intArr (arrTo x f 0)) 132 (0, 0)))
  clear hw0
  go_enter Try.func89, Try.ntmps89
  go_wp2_with (go_at_call 87; rw [← HW0.out]; refine (arcs_any x _).mono ?_; rintro e9 w1 ⟨rfl, hb1⟩; refine Hid.out ?_)
  refine Lib.hid ?_
  have HB1 : Hid (Below w0.heap.size w0 w1) := hb1
  have hs1 := hb1.size
  have HA1 : Hid (w1.heap[w.heap.size + 1 + 1]? = some (.cells (intArr (arrTo x f 0)) 132 (0, 0))) := (hb1.block _ (by omega)).trans HT2.out
  have HC1 : Hid (w1.heap[w.heap.size]? = some (.cells #[.int .i64 x.a, .int .i64 x.b, .int .i64 x.c, .int .i64 x.d, .bool x.plus] 101 (0, 0))) := (hb1.block _ (by omega)).trans HT0.out
  have HR1 : Hid (w1.heap[w.heap.size + 1]? = some (.cells #[.int .i64 0, .int .i64 0, .int .i64 0, .int .i64 0, .bool false] 101 (0, 0))) := (hb1.block _ (by omega)).trans HT1.out
  clear hb1
  go_wp2
  go_loopw [10] (fun v10 wr => ∃ k : Nat, k ≤ 4 ∧ v10 = .int .i64 (k : Nat) ∧ Hid (wr.heap[w.heap.size + 1 + 1]? = some (.cells (intArr (arrTo x f k)) 132 (0, 0))) ∧ w1.grownBy wr (some (w.heap.size + 1 + 1))) (fun v10 _ => 4 - (intOf v10).toNat)
  case atStart => exact ⟨0, Nat.zero_le _, rfl, HA1.out, World.grownBy.refl _ _⟩
  case round =>
    rename World => W1
    obtain ⟨k, hk, rfl, hA, hg⟩ := hrel
    have hsz := hg.size
    by_cases hkl : k < 4
    · have hix := index_arr x k hkl
      obtain ⟨p, hp⟩ : ∃ p : Nat, p = (k + 4 - f) % 4 := ⟨_, rfl⟩
      have hp4 : p < 4 := by omega
      have HPK : Hid ((p + f) % 4 = k) := (by omega : (p + f) % 4 = k)
      have q1 : IntKind.i64.wrap ((k : Int) + 4) = (k : Int) + 4 := IntWalk.i64_in _ (by omega)
      have q2 : IntKind.i64.wrap ((k : Int) + 4 - (f : Int)) = (k : Int) + 4 - (f : Int) := IntWalk.i64_in _ (by omega)
      have q3 : ((k : Int) + 4 - (f : Int)).tmod 4 = (p : Int) := by rw [Int.tmod_eq_emod_of_nonneg (by omega)]; omega
      clear hp
      have hl : p < (arrTo x f k).length := by rw [arrTo_len]; exact hp4
      have e0 : W1.cell? ⟨w.heap.size + 1 + 1, p, none⟩ = some (.int .i64 ((arrTo x f k).getD p 0)) := block_cell hA.out (intArr_get _ p hl)
      have z0 : W1.frozen? ⟨w.heap.size + 1 + 1, p, none⟩ = false := block_frozen hA.out
      have hlt : w.heap.size + 1 + 1 < W1.heap.size := by omega
      have HNX : Hid ((W1.setCell ⟨w.heap.size + 1 + 1, p, none⟩ (.int .i64 (x.arc k))).heap[w.heap.size + 1 + 1]? = some (.cells (intArr (arrTo x f (k + 1))) 132 (0, 0))) := (by
        rw [← arrTo_next x f k p hp4 HPK.out, ← intArr_set]
        exact set_block hA.out : (W1.setCell ⟨w.heap.size + 1 + 1, p, none⟩ (.int .i64 (x.arc k))).heap[w.heap.size + 1 + 1]? = some (.cells (intArr (arrTo x f (k + 1))) 132 (0, 0)))
      generalize (arrTo x f k).getD p 0 = u at e0
      clear hl
      go_wp2
      go_roundw
      case rel => exact ⟨k + 1, by omega, by go_num, HNX.out, grown_trans hg (set_grown _ _ _ _)⟩
      case measure => simp only [intOf]; omega
    · obtain rfl : k = 4 := by omega
      have hA4 := hA.out
      rw [arrTo_four] at hA4
      have hC := (hg.block _ (by omega) (fun e => by have := Option.some.inj e; omega)).trans HC1.out
      have hR := (hg.block _ (by omega) (fun e => by have := Option.some.inj e; omega)).trans HR1.out
      have HR : Hid (W1.heap[w.heap.size + 1]? = some (.cells #[.int .i64 0, .int .i64 0, .int .i64 0, .int .i64 0, .bool false] 101 (0, 0))) := hR
      have a0 : W1.cell? ⟨w.heap.size + 1 + 1, 0, none⟩ = some (.int .i64 (turn x f).a) := block_cell hA4 rfl
      have a1 : W1.cell? ⟨w.heap.size + 1 + 1, 1, none⟩ = some (.int .i64 (turn x f).b) := block_cell hA4 rfl
      have a2 : W1.cell? ⟨w.heap.size + 1 + 1, 2, none⟩ = some (.int .i64 (turn x f).c) := block_cell hA4 rfl
      have a3 : W1.cell? ⟨w.heap.size + 1 + 1, 3, none⟩ = some (.int .i64 (turn x f).d) := block_cell hA4 rfl
      have a4 : W1.cell? ⟨w.heap.size, 4, none⟩ = some (.bool x.plus) := block_cell hC rfl
      have hlt : w.heap.size + 1 + 1 < W1.heap.size := by omega
      have HG : Hid (w1.grownBy W1 (some (w.heap.size + 1 + 1))) := hg
      have hpl : (turn x f).plus = x.plus := rfl
      clear hA4 hC hR hA hg
      go_wp2_with (go_at_call 137; refine (crossOf_any (turn x f) _).mono ?_; rintro e9 w4 ⟨rfl, hb4⟩; refine Hid.out ?_)
      refine Lib.hid ?_
      have HR4 : Hid (w4.heap[w.heap.size + 1]? = some (.cells #[.int .i64 0, .int .i64 0, .int .i64 0, .int .i64 0, .bool false] 101 (0, 0))) := (hb4.block _ (by omega)).trans HR.out
      have HB4 : Hid (Below w.heap.size w w4) := ((HB0.out.trans (HB1.out.mono (by omega))).grown HG.out (by omega) (fun q hq => by have := Option.some.inj hq; omega)).trans (hb4.mono (by omega))
      have hs4 := hb4.size
      clear hb4 a0 a1 a2 a3 a4
      have r0 : w4.cell? ⟨w.heap.size + 1, 0, none⟩ = some (.int .i64 0) := block_cell HR4.out rfl
      have r1 : w4.cell? ⟨w.heap.size + 1, 1, none⟩ = some (.int .i64 0) := block_cell HR4.out rfl
      have r2 : w4.cell? ⟨w.heap.size + 1, 2, none⟩ = some (.int .i64 0) := block_cell HR4.out rfl
      have r3 : w4.cell? ⟨w.heap.size + 1, 3, none⟩ = some (.int .i64 0) := block_cell HR4.out rfl
      have r4 : w4.cell? ⟨w.heap.size + 1, 4, none⟩ = some (.bool false) := block_cell HR4.out rfl
      have f0 : w4.frozen? ⟨w.heap.size + 1, 0, none⟩ = false := block_frozen HR4.out
      have f1 : w4.frozen? ⟨w.heap.size + 1, 1, none⟩ = false := block_frozen HR4.out
      have f2 : w4.frozen? ⟨w.heap.size + 1, 2, none⟩ = false := block_frozen HR4.out
      have f3 : w4.frozen? ⟨w.heap.size + 1, 3, none⟩ = false := block_frozen HR4.out
      have f4 : w4.frozen? ⟨w.heap.size + 1, 4, none⟩ = false := block_frozen HR4.out
      go_wp2
      have hX := set_block (i := 4) (u := .bool x.plus) (set_block (i := 3) (u := .int .i64 (turn x f).d) (set_block (i := 2) (u := .int .i64 (turn x f).c) (set_block (i := 1) (u := .int .i64 (turn x f).b) (set_block (i := 0) (u := .int .i64 (turn x f).a) HR4.out))))
      have x0 := block_cell (i := 0) (v := .int .i64 (turn x f).a) hX rfl
      have x1 := block_cell (i := 1) (v := .int .i64 (turn x f).b) hX rfl
      have x2 := block_cell (i := 2) (v := .int .i64 (turn x f).c) hX rfl
      have x3 := block_cell (i := 3) (v := .int .i64 (turn x f).d) hX rfl
      have x4 := block_cell (i := 4) (v := .bool x.plus) hX rfl
      refine bodyPost_ret (v := .agg #[.int .i64 (turn x f).a, .int .i64 (turn x f).b, .int .i64 (turn x f).c, .int .i64 (turn x f).d, .bool x.plus]) (by simp [results, Try.results89, go_sem, x0, x1, x2, x3, x4]) rfl ⟨rfl, ?_⟩
      have hst : ∀ (W : World) (u : Value) (i : Nat), Below w.heap.size w W → Below w.heap.size w (W.setCell ⟨w.heap.size + 1, i, none⟩ u) := fun W u i h => h.grown (set_grown W (w.heap.size + 1) i u) h.size (fun q hq => by have := Option.some.inj hq; omega)
      exact hst _ _ _ (hst _ _ _ (hst _ _ _ (hst _ _ _ (hst _ _ _ HB4.out))))
end Go.Proofs.Ytfceigcjonlhkaa

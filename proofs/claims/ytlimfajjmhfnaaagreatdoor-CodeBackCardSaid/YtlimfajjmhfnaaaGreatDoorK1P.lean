/- Several texts of the proof, one behind the other. -/
import Derived.Test.YtlimfajjmhfnaaaGreatDoorW5P
/- Diagrams under way: crossings that are appended to one; the walks of drawing.crossOf and drawing.Turned. -/
namespace Go.Proofs.YtlimfajjmhfnaaaGreatDoor
open Go.RowKit

theorem cells_append (C D : List Cr) : crossCells (C ++ D) = crossCells C ++ crossCells D := by simp [crossCells]
theorem new_cell5 (W : World) (a b c d p : Value) (e : TypeId) : ∀ j u, [a, b, c, d, p][j]? = some u → (W.alloc (.cells #[a, b, c, d, p] e)).cell? ((⟨W.heap.size, 0, none⟩ : Addr).add j) = some u := by
  intro j u hj
  rw [Addr.add_lit, Nat.zero_add]
  have hh : (W.alloc (.cells #[a, b, c, d, p] e)).heap[W.heap.size]? = some (.cells #[a, b, c, d, p] e (0, 0)) := Array.getElem?_push_size
  match j, hj with
  | 0, hj => simp at hj; subst hj; exact block_cell hh rfl
  | 1, hj => simp at hj; subst hj; exact block_cell hh rfl
  | 2, hj => simp at hj; subst hj; exact block_cell hh rfl
  | 3, hj => simp at hj; subst hj; exact block_cell hh rfl
  | 4, hj => simp at hj; subst hj; exact block_cell hh rfl
theorem new_cell5' {W : World} {s : Nat} (hs : s = W.heap.size) (a b c d p : Value) (e : TypeId) : ∀ j u, [a, b, c, d, p][j]? = some u → (W.alloc (.cells #[a, b, c, d, p] e)).cell? ((⟨s, 0, none⟩ : Addr).add j) = some u := by
  subst hs
  exact new_cell5 W a b c d p e
/-- A diagram under way: its box at block g, its crossings a row of the call's own. -/
structure OutAt (w : World) (B g : Nat) (v : Value) (loops : Int) (C : List Cr) : Prop where
  box : w.heap[g]? = some (.cells #[v, .int .i64 loops] 24 (0, 0))
  row : w.ownsRow B 33 5 v C.length (crossCells C)
theorem OutAt.nil {w : World} {B g : Nat} {loops : Int} (h : w.heap[g]? = some (.cells #[.slice none 0 0, .int .i64 loops] 24 (0, 0))) : OutAt w B g (.slice none 0 0) loops [] := ⟨h, World.ownsRow_nil _ _ _ _⟩
theorem OutAt.on {w w' : World} {B g : Nat} {v : Value} {loops : Int} {C : List Cr} (h : OutAt w B g v loops C) (hb : Below w.heap.size w w') : OutAt w' B g v loops C :=
  ⟨(hb.block _ (Array.getElem?_eq_some_iff.1 h.box).1).trans h.box, own_any h.row (grown_below hb none)⟩
theorem OutAt.kept {w w' : World} {B g q : Nat} {v : Value} {loops : Int} {C : List Cr} (h : OutAt w B g v loops C) (hg : w.grownBy w' (some q)) (hq : q ≠ g) (hB : q < B) : OutAt w' B g v loops C := by
  refine ⟨(hg.block _ (Array.getElem?_eq_some_iff.1 h.box).1 (fun e => hq (Option.some.inj e).symm)).trans h.box, h.row.kept hg ?_⟩
  cases hv : v.ownBlock with
  | none => exact Or.inl rfl
  | some k => exact Or.inr (fun e => by have h1 := (h.row.lt k hv).1; have h2 := Option.some.inj e; omega)
theorem OutAt.app {w w8 : World} {B g : Nat} {v v8 : Value} {loops : Int} {C : List Cr} {x : Cr} {o : Obj} {m : Nat} (h : OutAt w B g v loops C) (hgB : g < B) (hm : m = C.length + 1) (hown8 : w8.ownsRow B 33 5 v8 m (crossCells C ++ crossCells [x])) (hg8 : (w.alloc o).grownBy w8 v.ownBlock) : OutAt (w8.setCell ⟨g, 0, none⟩ v8) B g v8 loops (C ++ [x]) := by
  have hlt := (Array.getElem?_eq_some_iff.1 h.box).1
  have hb8 : w8.heap[g]? = some (.cells #[v, .int .i64 loops] 24 (0, 0)) :=
    (hg8.block _ (by simp; omega) (fun e => by have := (h.row.lt g e.symm).1; omega)).trans (alloc_old h.box)
  refine ⟨set_block hb8, ?_⟩
  have hl : (C ++ [x]).length = m := by rw [hm]; simp
  rw [hl, cells_append]
  refine hown8.kept (set_grown w8 g 0 v8) ?_
  cases hv : v8.ownBlock with
  | none => exact Or.inl rfl
  | some k => exact Or.inr (fun e => by have h1 := (hown8.lt k hv).1; have h2 := Option.some.inj e; omega)
theorem OutAt.below {w w8 W : World} {B B0 g : Nat} {v v8 : Value} {loops : Int} {C : List Cr} {o : Obj} (h : OutAt w B g v loops C) (hb : Below B0 W w) (hB : B0 ≤ B) (hs : B0 ≤ w.heap.size) (h0 : B0 ≤ g) (hg8 : (w.alloc o).grownBy w8 v.ownBlock) : Below B0 W (w8.setCell ⟨g, 0, none⟩ v8) :=
  ((hb.alloc hs _).grown hg8 (by simp; omega) (fun q hq => Nat.le_trans hB (h.row.lt q hq).1)).grown (set_grown w8 g 0 v8) (by have := hg8.size; simp at this; omega) (fun q hq => by have := Option.some.inj hq; omega)
theorem OutAt.other {w w8 : World} {B g k : Nat} {v v8 : Value} {loops : Int} {C : List Cr} {o p : Obj} (h : OutAt w B g v loops C) (hk : w.heap[k]? = some p) (hkB : k < B) (hkg : k ≠ g) (hg8 : (w.alloc o).grownBy w8 v.ownBlock) : (w8.setCell ⟨g, 0, none⟩ v8).heap[k]? = some p := by
  have hlt := (Array.getElem?_eq_some_iff.1 hk).1
  have hs := hg8.size
  simp only [World.size_alloc] at hs
  have hb8 : w8.heap[k]? = some p := (hg8.block _ (by simp; omega) (fun e => by have := (h.row.lt k e.symm).1; omega)).trans (alloc_old hk)
  exact ((set_grown w8 g 0 v8).block k (by omega) (fun e => hkg (Option.some.inj e))).trans hb8
theorem OutAt.box8 {w w8 : World} {B g : Nat} {v : Value} {loops : Int} {C : List Cr} {o : Obj} (h : OutAt w B g v loops C) (hgB : g < B) (hg8 : (w.alloc o).grownBy w8 v.ownBlock) : w8.heap[g]? = some (.cells #[v, .int .i64 loops] 24 (0, 0)) := by
  have hlt := (Array.getElem?_eq_some_iff.1 h.box).1
  exact (hg8.block _ (by simp; omega) (fun e => by have := (h.row.lt g e.symm).1; omega)).trans (alloc_old h.box)

/-- The crossing told from side f on. -/
def turn (x : Cr) (f : Nat) : Cr := ⟨x.arc (f % 4), x.arc ((f + 1) % 4), x.arc ((f + 2) % 4), x.arc ((f + 3) % 4), x.plus⟩

set_option maxHeartbeats 2000000 in
set_option maxRecDepth 100000 in
theorem crossOf_any (x : Cr) (w : World) :
    Calls Tryz.prog 55 #[.agg #[.int .i64 x.a, .int .i64 x.b, .int .i64 x.c, .int .i64 x.d], .bool x.plus] w fun e w' => e = .returned (.agg #[.int .i64 x.a, .int .i64 x.b, .int .i64 x.c, .int .i64 x.d, .bool x.plus]) ∧ Below w.heap.size w w' := by
  go_enter Tryz.func55, Tryz.ntmps55
  go_wp2
  exact bodyPost_ret (v := .agg #[.int .i64 x.a, .int .i64 x.b, .int .i64 x.c, .int .i64 x.d, .bool x.plus]) (by simp [results, Tryz.results55, go_sem]) rfl ⟨rfl, below2 _ _ _⟩

/-- Four numbers as cells. -/
def intArr (l : List Int) : Array Value := (l.map fun x => Value.int .i64 x).toArray
theorem intArr_set (l : List Int) (p : Nat) (z : Int) : (intArr l).setIfInBounds p (.int .i64 z) = intArr (l.set p z) := by
  simp [intArr, List.map_set]
theorem intArr_get (l : List Int) (p : Nat) (h : p < l.length) : (intArr l)[p]? = some (.int .i64 (l.getD p 0)) := by
  simp [intArr, List.getD, h]
/-- The turned crossing's arcs behind k sides. -/
def arrTo (x : Cr) (f k : Nat) : List Int := (List.range 4).map fun j => if (j + f) % 4 < k then x.arc ((j + f) % 4) else 0
theorem arrTo_len (x : Cr) (f k : Nat) : (arrTo x f k).length = 4 := by simp [arrTo]
theorem arrTo_next (x : Cr) (f k p : Nat) (hp : p < 4) (h : (p + f) % 4 = k) : (arrTo x f k).set p (x.arc k) = arrTo x f (k + 1) := by
  apply List.ext_getElem?
  intro i
  rw [List.getElem?_set]
  by_cases hi : i < 4
  · by_cases e : p = i
    · subst e
      simp [arrTo, hi, h]
    · rw [if_neg e]
      have hne : (i + f) % 4 ≠ k := by omega
      simp only [arrTo, List.getElem?_map, List.getElem?_range hi, Option.map_some]
      congr 1
      by_cases h2 : (i + f) % 4 < k
      · rw [if_pos h2, if_pos (by omega)]
      · rw [if_neg h2, if_neg (by omega)]
  · rw [List.getElem?_eq_none (by rw [arrTo_len]; omega), List.getElem?_eq_none (by rw [arrTo_len]; omega)]
    split
    · next e => rw [if_neg (by rw [arrTo_len]; omega)]
    · rfl
theorem arrTo_zero (x : Cr) (f : Nat) : arrTo x f 0 = [0, 0, 0, 0] := by simp [arrTo, List.range_succ]
theorem arrTo_four (x : Cr) (f : Nat) : intArr (arrTo x f 4) = #[.int .i64 (turn x f).a, .int .i64 (turn x f).b, .int .i64 (turn x f).c, .int .i64 (turn x f).d] := by
  have h0 : f % 4 < 4 := Nat.mod_lt _ (by omega)
  simp [arrTo, intArr, turn, List.range_succ, h0, Nat.add_comm]
  exact ⟨fun h => by omega, fun h => by omega, fun h => by omega⟩

end Go.Proofs.YtlimfajjmhfnaaaGreatDoor
/- The walks of canon.mirrored, canon.Mirror and ref.MirrorOf. -/
namespace Go.Proofs.YtlimfajjmhfnaaaGreatDoor
open Go.RowKit

/-- A crossing mirrored. -/
def mirX (x : Cr) : Cr := if x.plus = true then ⟨x.d, x.a, x.b, x.c, false⟩ else ⟨x.b, x.c, x.d, x.a, true⟩
theorem take_map_next (f : Cr → Cr) (C : List Cr) (i : Nat) (h : i < C.length) : (C.take (i + 1)).map f = (C.take i).map f ++ [f (C.getD i Cr.none)] := by
  have e2 : C.take (i + 1) = C.take i ++ [C.getD i Cr.none] := by
    rw [List.take_add_one, List.getD_eq_getElem?_getD, List.getElem?_eq_getElem h]
    rfl
  rw [e2]
  simp

end Go.Proofs.YtlimfajjmhfnaaaGreatDoor
/- Crossings compared; the walks of ref.SameDiagram and ref.MirrorOf, and of canon.Mirror. -/
namespace Go.Proofs.YtlimfajjmhfnaaaGreatDoor
open Go.RowKit

/-- Are two crossings the same? -/
def crEq (x y : Cr) : Bool := x.a == y.a && x.b == y.b && x.c == y.c && x.d == y.d && x.plus == y.plus
theorem crEq_refl (x : Cr) : crEq x x = true := by simp [crEq]
theorem crEq_eq {x y : Cr} (h : crEq x y = true) : x = y := by
  obtain ⟨a, b, c, d, p⟩ := x
  obtain ⟨a', b', c', d', p'⟩ := y
  simp [crEq] at h
  obtain ⟨⟨⟨⟨h1, h2⟩, h3⟩, h4⟩, h5⟩ := h
  rw [h1, h2, h3, h4, h5]
/-- Are two lists of crossings the same? -/
def crsEq (C D : List Cr) : Bool := decide (C.length = D.length) && (List.range C.length).all fun i => crEq (C.getD i Cr.none) (D.getD i Cr.none)
theorem crsEq_refl (C : List Cr) : crsEq C C = true := by simp [crsEq, crEq_refl]
theorem crsEq_eq {C D : List Cr} (h : crsEq C D = true) : C = D := by
  simp only [crsEq, Bool.and_eq_true, decide_eq_true_eq, List.all_eq_true, List.mem_range] at h
  apply List.ext_getElem?
  intro i
  by_cases hi : i < C.length
  · have e := crEq_eq (h.2 i hi)
    rw [List.getD_eq_getElem?_getD, List.getD_eq_getElem?_getD, List.getElem?_eq_getElem hi, List.getElem?_eq_getElem (by omega)] at e
    rw [List.getElem?_eq_getElem hi, List.getElem?_eq_getElem (by omega)]
    exact congrArg some e
  · rw [List.getElem?_eq_none (by omega), List.getElem?_eq_none (by omega)]

/-- Are two diagrams the same? -/
def sameD (l1 l2 : Int) (C D : List Cr) : Bool := decide (l1 = l2) && crsEq C D
theorem sameD_iff (l1 l2 : Int) (C D : List Cr) : sameD l1 l2 C D = true ↔ l1 = l2 ∧ C.length = D.length ∧ ∀ i, i < C.length → crEq (C.getD i Cr.none) (D.getD i Cr.none) = true := by
  simp only [sameD, crsEq, Bool.and_eq_true, decide_eq_true_eq, List.all_eq_true, List.mem_range]
theorem sameD_no {l1 l2 : Int} {C D : List Cr} (h : ¬ (l1 = l2 ∧ C.length = D.length ∧ ∀ i, i < C.length → crEq (C.getD i Cr.none) (D.getD i Cr.none) = true)) : sameD l1 l2 C D = false := by
  cases hs : sameD l1 l2 C D with
  | false => rfl
  | true => exact absurd ((sameD_iff l1 l2 C D).1 hs) h
theorem eqCross (x y : Cr) (w : World) : (Op.equalIn 10000 33 (.agg #[.int .i64 x.a, .int .i64 x.b, .int .i64 x.c, .int .i64 x.d, .bool x.plus]) (.agg #[.int .i64 y.a, .int .i64 y.b, .int .i64 y.c, .int .i64 y.d, .bool y.plus])).run Tryz.prog w = .ok (crEq x y) w := by
  have u3 := Tryz.underlying3
  have a3 := Tryz.isAgg3
  have z3 := Tryz.sizeOf3
  have u4 := Tryz.underlying4
  have a4 := Tryz.isAgg4
  have z4 := Tryz.sizeOf4
  have hS : Tryz.prog.underlying 33 = some (.struct (Tryz.prog.fieldsOf 33)) := by kernel_rfl
  have hp : Tryz.prog.stoodInHeld 33 = false := by kernel_rfl
  rw [show (10000 : Nat) = 9999 + 1 from rfl, run_equalIn_agg w 9999 33 _ _ hS hp]
  simp only [Program.fieldsOf, Tryz.underlying33]
  go_simp
  unfold crEq
  by_cases h1 : x.a = y.a <;> by_cases h2 : x.b = y.b <;> by_cases h3 : x.c = y.c <;> by_cases h4 : x.d = y.d <;> by_cases h5 : x.plus = y.plus <;> simp [h1, h2, h3, h4, h5]
theorem neqCross (x y : Cr) (w : World) : (binOp .neq 33 (.agg #[.int .i64 x.a, .int .i64 x.b, .int .i64 x.c, .int .i64 x.d, .bool x.plus]) (.agg #[.int .i64 y.a, .int .i64 y.b, .int .i64 y.c, .int .i64 y.d, .bool y.plus])).run Tryz.prog w = .ok (.bool (!crEq x y)) w := by
  rw [run_neq_struct, eqCross]
  simp [Result.andThen]

end Go.Proofs.YtlimfajjmhfnaaaGreatDoor
/- Sums: the walks of Drawing.Has and of the closure that numbers arcs anew, and of drawing.Renumbered with it. -/
namespace Go.Proofs.YtlimfajjmhfnaaaGreatDoor
open Go.RowKit

/-- The number of an arc of a summand: more of it; where it is the one that is cut and comes in, another. -/
def tnum (x : Cr) (more cut other : Int) (k : Nat) : Int := if x.arc k = cut ∧ x.comes k = true then other else x.arc k + more
/-- A crossing of a summand. -/
def tieX (more cut other : Int) (x : Cr) : Cr := ⟨tnum x more cut other 0, tnum x more cut other 1, tnum x more cut other 2, tnum x more cut other 3, x.plus⟩

/-- The numbers behind k sides. -/
def numTo (g : Nat → Int) (k : Nat) : List Int := (List.range 4).map fun j => if j < k then g j else 0
theorem numTo_len (g : Nat → Int) (k : Nat) : (numTo g k).length = 4 := by simp [numTo]
theorem numTo_next (g : Nat → Int) (k : Nat) (hk : k < 4) : (numTo g k).set k (g k) = numTo g (k + 1) := by
  apply List.ext_getElem?
  intro i
  rw [List.getElem?_set]
  by_cases hi : i < 4
  · by_cases e : k = i
    · subst e
      simp [numTo, hi]
    · rw [if_neg e]
      simp only [numTo, List.getElem?_map, List.getElem?_range hi, Option.map_some]
      congr 1
      by_cases h2 : i < k
      · rw [if_pos h2, if_pos (by omega)]
      · rw [if_neg h2, if_neg (by omega)]
  · rw [List.getElem?_eq_none (by rw [numTo_len]; omega), List.getElem?_eq_none (by rw [numTo_len]; omega)]
    split
    · next e => rw [if_neg (by rw [numTo_len]; omega)]
    · rfl
theorem numTo_zero (g : Nat → Int) : numTo g 0 = [0, 0, 0, 0] := by simp [numTo, List.range_succ]
theorem numTo_four (g : Nat → Int) : intArr (numTo g 4) = #[.int .i64 (g 0), .int .i64 (g 1), .int .i64 (g 2), .int .i64 (g 3)] := by
  simp [numTo, intArr, List.range_succ]
/-- The four boxes that the closure holds. -/
def Boxes (w : World) (x : Cr) (more cut other : Int) (pc px po pm : Nat) : Prop := (pc < w.heap.size ∧ px < w.heap.size ∧ po < w.heap.size ∧ pm < w.heap.size) ∧ w.cell? ⟨pc, 0, none⟩ = some (.int .i64 cut) ∧ w.cell? ⟨px, 0, none⟩ = some (.int .i64 x.a) ∧ w.cell? ⟨px, 1, none⟩ = some (.int .i64 x.b) ∧ w.cell? ⟨px, 2, none⟩ = some (.int .i64 x.c) ∧ w.cell? ⟨px, 3, none⟩ = some (.int .i64 x.d) ∧ w.cell? ⟨px, 4, none⟩ = some (.bool x.plus) ∧ w.cell? ⟨po, 0, none⟩ = some (.int .i64 other) ∧ w.cell? ⟨pm, 0, none⟩ = some (.int .i64 more)
theorem Boxes.kept {B : Nat} {w w' : World} {x : Cr} {more cut other : Int} {pc px po pm : Nat} (h : Boxes w x more cut other pc px po pm) (hb : Below B w w') (l1 : pc < B) (l2 : px < B) (l3 : po < B) (l4 : pm < B) : Boxes w' x more cut other pc px po pm := by
  obtain ⟨⟨a1, a2, a3, a4⟩, c0, c1, c2, c3, c4, c5, c6, c7⟩ := h
  have hs := hb.size
  exact ⟨⟨by omega, by omega, by omega, by omega⟩, bcell hb l1 c0, bcell hb l2 c1, bcell hb l2 c2, bcell hb l2 c3, bcell hb l2 c4, bcell hb l2 c5, bcell hb l3 c6, bcell hb l4 c7⟩

end Go.Proofs.YtlimfajjmhfnaaaGreatDoor
/- The walks of ref.MirrorOf and canon.Mirror. -/
namespace Go.Proofs.YtlimfajjmhfnaaaGreatDoor
open Go.RowKit

end Go.Proofs.YtlimfajjmhfnaaaGreatDoor

/- Several texts of the proof, one behind the other. -/
import Derived.Test.YtagaajlbkfkaiaaRows
import Derived.WalkKit
import Derived.WalkSpells
import Derived.WalkLawsBesides
import Derived.Deep.QuietTactic
import Derived.BigQuiet
import Derived.Deep.RegionWith
import Derived.Deep.RegionHeld3
import Derived.Laws.AppendOwnNone
import Derived.OwnWalk
import Derived.Lib.Hide
import Derived.Laws.StructEq
/- What is said of worlds, rows and lists of pairs without naming the program. -/
namespace Go.Proofs.Ytagaajlbkfkaiaa
open Go.RowKit

theorem bcell {B : Nat} {W w1 : World} (hb : Below B W w1) {b o : Nat} {v : Option Value} (h : b < B) (hc : W.cell? ⟨b, o, none⟩ = v) : w1.cell? ⟨b, o, none⟩ = v := by
  rw [← hc]; exact hb.cell (p := ⟨b, o, none⟩) h
theorem below_drewN {B : Nat} {w w1 : World} (h : Below B w w1) : ∀ n, Below B w (w1.drewN n) := fun n => by
  induction n with
  | zero => exact h
  | succ n ih => exact ih.drew
theorem ret_bool {a b : Bool} (h : b = a) : Ending.returned (.bool a) = .returned (.bool b) := by rw [h]
/-- The cells of the terms l, from address ⟨b, off⟩ on. -/
def TermsAt (w : World) (b off : Nat) (l : List (Int × Int)) : Prop :=
  ∀ i, i < l.length → w.cell? ⟨b, off + i * 2, none⟩ = some (.int .i64 (l.getD i (0, 0)).1) ∧ w.cell? ⟨b, off + i * 2 + 1, none⟩ = some (.int .i64 (l.getD i (0, 0)).2)
theorem TermsAt.on {B : Nat} {W w1 : World} {b off : Nat} {l : List (Int × Int)} (h : TermsAt W b off l) (hb : Below B W w1) (hlt : b < B) : TermsAt w1 b off l :=
  fun i hi => ⟨bcell hb hlt (h i hi).1, bcell hb hlt (h i hi).2⟩
/-- The terms as cells, one behind the other. -/
def flat (l : List (Int × Int)) : List Value := l.flatMap fun t => [.int .i64 t.1, .int .i64 t.2]
theorem flat_length (l : List (Int × Int)) : (flat l).length = l.length * 2 := by
  induction l with
  | nil => rfl
  | cons t l ih => simp [flat] at *; omega
theorem flat_get (l : List (Int × Int)) (i : Nat) (hi : i < l.length) :
    (flat l)[i * 2]? = some (.int .i64 (l.getD i (0, 0)).1) ∧ (flat l)[i * 2 + 1]? = some (.int .i64 (l.getD i (0, 0)).2) := by
  induction l generalizing i with
  | nil => simp at hi
  | cons t l ih =>
    cases i with
    | zero => simp [flat]
    | succ i =>
      have := ih i (by simpa using hi)
      simp only [flat, List.flatMap_cons] at this ⊢
      rw [List.getElem?_append_right (by simp; omega), List.getElem?_append_right (by simp; omega)]
      simpa [show (i + 1) * 2 - 2 = i * 2 by omega, show (i + 1) * 2 + 1 - 2 = i * 2 + 1 by omega] using this
theorem grown_below {w w' : World} (h : Below w.heap.size w w') (row : Option Nat) : w.grownBy w' row := ⟨h.os, h.tape, h.output, h.size, fun k hk _ => h.block k hk⟩
/-- The slice v holds these values, a cell each, in blocks below B. -/
def Slots (w : World) (B : Nat) (v : Value) (xs : List Value) : Prop :=
  ∃ a cap, v = .slice a xs.length cap ∧ (0 < xs.length → ∃ b off, a = some ⟨b, off, none⟩ ∧ b < B ∧ ∀ i, i < xs.length → w.cell? ⟨b, off + i, none⟩ = some (xs.getD i (.bool false)))
theorem Slots.on {w w' : World} {B : Nat} {v : Value} {xs : List Value} (h : Slots w B v xs) (hb : Below B w w') : Slots w' B v xs := by
  obtain ⟨a, cap, rfl, g⟩ := h
  refine ⟨a, cap, rfl, fun h0 => ?_⟩
  obtain ⟨b, off, rfl, hlt, hc⟩ := g h0
  exact ⟨b, off, rfl, hlt, fun i hi => bcell hb hlt (hc i hi)⟩
theorem Slots.mono {w : World} {B B' : Nat} {v : Value} {xs : List Value} (h : Slots w B v xs) (hB : B ≤ B') : Slots w B' v xs := by
  obtain ⟨a, cap, rfl, g⟩ := h
  refine ⟨a, cap, rfl, fun h0 => ?_⟩
  obtain ⟨b, off, rfl, hlt, hc⟩ := g h0
  exact ⟨b, off, rfl, Nat.lt_of_lt_of_le hlt hB, hc⟩
theorem slots_of_own {w : World} {B e n : Nat} {v : Value} {xs : List Value} (h : w.ownsRow B e 1 v n xs) : Slots w w.heap.size v xs := by
  have hl : xs.length = n := by simpa using h.1
  rcases h.2 with ⟨rfl, h0⟩ | ⟨g, cap, cur, rfl, _, hg, _, _, _, _⟩
  · refine ⟨none, 0, by rw [hl, h0], fun hp => by omega⟩
  · refine ⟨some ⟨g, 0, none⟩, cap, by rw [hl], fun _ => ⟨g, 0, rfl, (h.lt g rfl).2, fun i hi => ?_⟩⟩
    rw [Nat.zero_add, h.cellAt i (by omega), List.getD, List.getElem?_eq_getElem hi]
    rfl
theorem own_low {w : World} {B B' e s n : Nat} {v : Value} {xs : List Value} (h : w.ownsRow B e s v n xs) (hB : B' ≤ B) : w.ownsRow B' e s v n xs := by
  refine ⟨h.1, ?_⟩
  rcases h.2 with h1 | ⟨g, cap, cur, h1, h2, h3⟩
  · exact Or.inl h1
  · exact Or.inr ⟨g, cap, cur, h1, Nat.le_trans hB h2, h3⟩
/-- Rows of different element types lie in different blocks. -/
theorem own_ne {w : World} {B B' e e' s s' n n' : Nat} {v v' : Value} {xs xs' : List Value} (h : w.ownsRow B e s v n xs) (h' : w.ownsRow B' e' s' v' n' xs') (he : e ≠ e') : v.ownBlock = none ∨ v.ownBlock ≠ v'.ownBlock := by
  rcases h.2 with ⟨rfl, _⟩ | ⟨g, cap, cur, rfl, _, hg, _⟩
  · exact Or.inl rfl
  · right
    rcases h'.2 with ⟨rfl, _⟩ | ⟨g', cap', cur', rfl, _, hg', _⟩
    · simp [Value.ownBlock]
    · simp only [Value.ownBlock]
      intro e0
      have e1 := Option.some.inj e0
      subst e1
      rw [hg] at hg'
      injection hg' with h1
      injection h1 with h2 h3
      exact he h3
theorem new_cell1 (W : World) (x : Value) (e : TypeId) : ∀ j u, [x][j]? = some u → (W.alloc (.cells #[x] e)).cell? ((⟨W.heap.size, 0, none⟩ : Addr).add j) = some u := by
  intro j u hj
  rw [Addr.add_lit, Nat.zero_add]
  have hh : (W.alloc (.cells #[x] e)).heap[W.heap.size]? = some (.cells #[x] e (0, 0)) := Array.getElem?_push_size
  match j, hj with
  | 0, hj => simp at hj; subst hj; unfold World.cell?; rw [hh]; rfl
theorem own_capS {w : World} {B e s n : Nat} {v : Value} {xs : List Value} (h : w.ownsRow B e s v n xs) : ∃ a c, v = .slice a n c := by
  rcases h.2 with ⟨rfl, h0⟩ | ⟨g, cap, cur, rfl, _, _, h1, h2, _⟩
  · exact ⟨none, 0, by rw [h0]⟩
  · exact ⟨_, _, rfl⟩
theorem own_oneS {w : World} {B e s n : Nat} {v : Value} {xs : List Value} (h : w.ownsRow B e s v n xs) : ∀ u ∈ [v], u.oneCell' = true := by
  obtain ⟨a, c, rfl⟩ := own_capS h
  intro u hu
  simp only [List.mem_singleton] at hu
  subst hu
  rfl
theorem own_any {w w' : World} {B e s n : Nat} {v : Value} {xs : List Value} (h : w.ownsRow B e s v n xs) (hg : w.grownBy w' none) : w'.ownsRow B e s v n xs :=
  h.kept hg (by cases v.ownBlock with | none => exact Or.inl rfl | some q => exact Or.inr (by simp))
theorem getD_left (zs : List Value) (x : Value) (i : Nat) (h : i < zs.length) : (zs ++ [x]).getD i (.bool false) = zs.getD i (.bool false) := by simp [List.getD, List.getElem?_append_left h]
theorem getD_last (zs : List Value) (x : Value) : (zs ++ [x]).getD zs.length (.bool false) = x := by simp [List.getD]
/-- Another coefficient at place i. -/
def setC (l : List (Int × Int)) (i : Nat) (c : Int) : List (Int × Int) := l.set i ((l.getD i (0, 0)).1, c)
theorem flat_setC (l : List (Int × Int)) (i : Nat) (c : Int) (hi : i < l.length) : (flat l).set (i * 2 + 1) (.int .i64 c) = flat (setC l i c) := by
  induction l generalizing i with
  | nil => simp at hi
  | cons t l ih =>
    have e : flat (t :: l) = .int .i64 t.1 :: .int .i64 t.2 :: flat l := rfl
    cases i with
    | zero =>
      have e2 : setC (t :: l) 0 c = (t.1, c) :: l := rfl
      rw [e, e2]
      rfl
    | succ i =>
      have e2 : setC (t :: l) (i + 1) c = t :: setC l i c := rfl
      have e3 : flat (t :: setC l i c) = .int .i64 t.1 :: .int .i64 t.2 :: flat (setC l i c) := rfl
      rw [e, e2, e3, show (i + 1) * 2 + 1 = i * 2 + 1 + 1 + 1 by omega, List.set_cons_succ, List.set_cons_succ, ih i (by simpa using hi)]
theorem flat_cellC (l : List (Int × Int)) (i : Nat) (hi : i < l.length) : (flat l)[i * 2 + 1]? = some (.int .i64 (l.getD i (0, 0)).2) := by
  induction l generalizing i with
  | nil => simp at hi
  | cons t l ih =>
    have e : flat (t :: l) = .int .i64 t.1 :: .int .i64 t.2 :: flat l := rfl
    cases i with
    | zero => rw [e]; rfl
    | succ i =>
      have := ih i (by simpa using hi)
      rw [e, show (i + 1) * 2 + 1 = i * 2 + 1 + 1 + 1 by omega, List.getElem?_cons_succ, List.getElem?_cons_succ, this]
      rfl
/-- Another first number at place i. -/
def setE (l : List (Int × Int)) (i : Nat) (e : Int) : List (Int × Int) := l.set i (e, (l.getD i (0, 0)).2)
theorem setE_length (l : List (Int × Int)) (i : Nat) (c : Int) : (setE l i c).length = l.length := by simp [setE]
theorem flat_setE (l : List (Int × Int)) (i : Nat) (c : Int) (hi : i < l.length) : (flat l).set (i * 2) (.int .i64 c) = flat (setE l i c) := by
  induction l generalizing i with
  | nil => simp at hi
  | cons t l ih =>
    have e : flat (t :: l) = .int .i64 t.1 :: .int .i64 t.2 :: flat l := rfl
    cases i with
    | zero =>
      have e2 : setE (t :: l) 0 c = (c, t.2) :: l := rfl
      rw [e, e2]
      rfl
    | succ i =>
      have e2 : setE (t :: l) (i + 1) c = t :: setE l i c := rfl
      have e3 : flat (t :: setE l i c) = .int .i64 t.1 :: .int .i64 t.2 :: flat (setE l i c) := rfl
      rw [e, e2, e3, show (i + 1) * 2 = i * 2 + 1 + 1 by omega, List.set_cons_succ, List.set_cons_succ, ih i (by simpa using hi)]
theorem flat_cellE (l : List (Int × Int)) (i : Nat) (hi : i < l.length) : (flat l)[i * 2]? = some (.int .i64 (l.getD i (0, 0)).1) := by
  induction l generalizing i with
  | nil => simp at hi
  | cons t l ih =>
    have e : flat (t :: l) = .int .i64 t.1 :: .int .i64 t.2 :: flat l := rfl
    cases i with
    | zero => rw [e]; rfl
    | succ i =>
      have := ih i (by simpa using hi)
      rw [e, show (i + 1) * 2 = i * 2 + 1 + 1 by omega, List.getElem?_cons_succ, List.getElem?_cons_succ, this]
      rfl
theorem flat_zeros (n : Nat) : (madeCells #[Value.int .i64 0, .int .i64 0] (n * 2)).toList = flat (List.replicate n (0, 0)) := by
  apply List.ext_getElem?
  intro j
  by_cases hj : j < n * 2
  · have hlen : (flat (List.replicate n ((0 : Int), (0 : Int)))).length = n * 2 := by rw [flat_length]; simp
    have h1 : ∀ (m k : Nat), k < m * 2 → (flat (List.replicate m ((0 : Int), (0 : Int))))[k]? = some (.int .i64 0) := by
      intro m
      induction m with
      | zero => intro k hk; omega
      | succ m ih =>
        intro k hk
        have e : flat (List.replicate (m + 1) ((0 : Int), (0 : Int))) = .int .i64 0 :: .int .i64 0 :: flat (List.replicate m ((0 : Int), (0 : Int))) := rfl
        rw [e]
        match k with
        | 0 => rfl
        | 1 => rfl
        | k + 2 =>
          rw [List.getElem?_cons_succ, List.getElem?_cons_succ]
          exact ih k (by omega)
    rw [h1 n j hj]
    simp only [madeCells]
    rcases Nat.mod_two_eq_zero_or_one j with h | h <;> simp [hj, h]
  · rw [List.getElem?_eq_none (by simp [madeCells]; omega), List.getElem?_eq_none (by rw [flat_length]; simp; omega)]
/-- What the loop has done behind i spots. -/
def unkTo (n i : Nat) : List (Int × Int) := List.replicate i (-1, 0) ++ List.replicate (n - i) (0, 0)
theorem unk_next (n i : Nat) (h : i < n) : setE (unkTo n i) i (-1) = unkTo n (i + 1) := by
  obtain ⟨m, hm⟩ : ∃ m, n - i = m + 1 := ⟨n - i - 1, by omega⟩
  have hm2 : n - (i + 1) = m := by omega
  unfold setE unkTo
  rw [hm, hm2, List.replicate_succ, List.replicate_succ' (n := i)]
  have hg : (List.replicate i ((-1 : Int), (0 : Int)) ++ (0, 0) :: List.replicate m (0, 0)).getD i (0, 0) = (0, 0) := by simp [List.getD]
  rw [hg, List.set_append_right _ _ (by simp)]
  simp
end Go.Proofs.Ytagaajlbkfkaiaa
/- Diagrams in a world; the walks of ref.ArcAt, ref.Entry, drawing.Arcs and drawing.ComesIn. -/
namespace Go.Proofs.Ytagaajlbkfkaiaa
open Go.RowKit

/-- A crossing: its four arcs, and whether it is Plus. -/
structure Cr where
  a : Int
  b : Int
  c : Int
  d : Int
  plus : Bool
/-- No crossing at all. -/
def Cr.none : Cr := ⟨0, 0, 0, 0, false⟩
/-- The arc at side k. -/
def Cr.arc (x : Cr) (k : Nat) : Int := if k = 0 then x.a else if k = 1 then x.b else if k = 2 then x.c else x.d
/-- Does a strand come in at side k? -/
def Cr.comes (x : Cr) (k : Nat) : Bool := k == 0 || (k == 1 && !x.plus) || (k == 3 && x.plus)

/-- These crossings lie there, five cells each. -/
def CrossAt (w : World) (b off : Nat) (C : List Cr) : Prop := ∀ i, i < C.length →
  w.cell? ⟨b, off + i * 5, none⟩ = some (.int .i64 (C.getD i Cr.none).a) ∧ w.cell? ⟨b, off + i * 5 + 1, none⟩ = some (.int .i64 (C.getD i Cr.none).b) ∧ w.cell? ⟨b, off + i * 5 + 2, none⟩ = some (.int .i64 (C.getD i Cr.none).c) ∧
  w.cell? ⟨b, off + i * 5 + 3, none⟩ = some (.int .i64 (C.getD i Cr.none).d) ∧ w.cell? ⟨b, off + i * 5 + 4, none⟩ = some (.bool (C.getD i Cr.none).plus)
theorem CrossAt.on {w w' : World} {B b off : Nat} {C : List Cr} (h : CrossAt w b off C) (hb : Below B w w') (hlt : b < B) : CrossAt w' b off C := fun i hi =>
  ⟨bcell hb hlt (h i hi).1, bcell hb hlt (h i hi).2.1, bcell hb hlt (h i hi).2.2.1, bcell hb hlt (h i hi).2.2.2.1, bcell hb hlt (h i hi).2.2.2.2⟩

theorem below2 (w : World) (o1 o2 : Obj) : Below w.heap.size w ((w.alloc o1).alloc o2) := ((Below.refl _ _).alloc (Nat.le_refl _) _).alloc (by simp) _
theorem below3 (w : World) (o1 o2 o3 : Obj) : Below w.heap.size w (((w.alloc o1).alloc o2).alloc o3) := (below2 w o1 o2).alloc (by simp; omega) _

set_option maxHeartbeats 2000000 in
set_option maxRecDepth 100000 in
theorem arcAt_any (b off cap : Nat) (loops : Int) (C : List Cr) (i k : Nat) (w : World) (hi : i < C.length) (hk : k < 4) (hbw : b < w.heap.size) (hC : CrossAt w b off C) :
    Calls Try.prog 60 #[.agg #[.slice (some ⟨b, off, none⟩) C.length cap, .int .i64 loops], .agg #[.int .i64 i, .int .i64 k]] w fun e w' => e = .returned (.int .i64 ((C.getD i Cr.none).arc k)) ∧ Below w.heap.size w w' := by
  obtain ⟨c0, c1, c2, c3, c4⟩ := hC i hi
  clear hC
  generalize C.getD i Cr.none = x at c0 c1 c2 c3 c4
  have hk4 : k = 0 ∨ k = 1 ∨ k = 2 ∨ k = 3 := by omega
  rcases hk4 with rfl | rfl | rfl | rfl
  · go_enter Try.func60, Try.ntmps60
    go_wp2
    go_ret
    exact ⟨rfl, below3 _ _ _ _⟩
  · go_enter Try.func60, Try.ntmps60
    go_wp2
    go_ret
    exact ⟨rfl, below3 _ _ _ _⟩
  · go_enter Try.func60, Try.ntmps60
    go_wp2
    go_ret
    exact ⟨rfl, below3 _ _ _ _⟩
  · go_enter Try.func60, Try.ntmps60
    go_wp2
    go_ret
    exact ⟨rfl, below3 _ _ _ _⟩

set_option maxHeartbeats 2000000 in
set_option maxRecDepth 100000 in
theorem entry_any (b off cap : Nat) (loops : Int) (C : List Cr) (i k : Nat) (w : World) (hi : i < C.length) (hk : k < 4) (hbw : b < w.heap.size) (hC : CrossAt w b off C) :
    Calls Try.prog 61 #[.agg #[.slice (some ⟨b, off, none⟩) C.length cap, .int .i64 loops], .agg #[.int .i64 i, .int .i64 k]] w fun e w' => e = .returned (.bool ((C.getD i Cr.none).comes k)) ∧ Below w.heap.size w w' := by
  obtain ⟨c0, c1, c2, c3, c4⟩ := hC i hi
  clear hC c0 c1 c2 c3
  generalize C.getD i Cr.none = x at c4
  obtain ⟨xa, xb, xc, xd, xp⟩ := x
  have hk4 : k = 0 ∨ k = 1 ∨ k = 2 ∨ k = 3 := by omega
  rcases hk4 with rfl | rfl | rfl | rfl
  · go_enter Try.func61, Try.ntmps61
    go_wp2
    go_ret
    exact ⟨rfl, below2 _ _ _⟩
  · cases xp
    · go_enter Try.func61, Try.ntmps61
      go_wp2
      go_ret
      exact ⟨rfl, below2 _ _ _⟩
    · go_enter Try.func61, Try.ntmps61
      go_wp2
      go_ret
      exact ⟨rfl, below2 _ _ _⟩
  · go_enter Try.func61, Try.ntmps61
    go_wp2
    go_ret
    exact ⟨rfl, below2 _ _ _⟩
  · cases xp
    · go_enter Try.func61, Try.ntmps61
      go_wp2
      go_ret
      exact ⟨rfl, below2 _ _ _⟩
    · go_enter Try.func61, Try.ntmps61
      go_wp2
      go_ret
      exact ⟨rfl, below2 _ _ _⟩

set_option maxHeartbeats 1000000 in
set_option maxRecDepth 100000 in
theorem comesIn_any (x : Cr) (k : Nat) (w : World) (hk : k < 4) :
    Calls Try.prog 76 #[.agg #[.int .i64 x.a, .int .i64 x.b, .int .i64 x.c, .int .i64 x.d, .bool x.plus], .int .i64 k] w fun e w' => e = .returned (.bool (x.comes k)) ∧ Below w.heap.size w w' := by
  obtain ⟨xa, xb, xc, xd, xp⟩ := x
  have hk4 : k = 0 ∨ k = 1 ∨ k = 2 ∨ k = 3 := by omega
  rcases hk4 with rfl | rfl | rfl | rfl
  · go_enter Try.func76, Try.ntmps76
    go_wp2
    go_ret
    exact ⟨rfl, (Below.refl _ _).alloc (Nat.le_refl _) _⟩
  · cases xp
    · go_enter Try.func76, Try.ntmps76
      go_wp2
      go_ret
      exact ⟨rfl, (Below.refl _ _).alloc (Nat.le_refl _) _⟩
    · go_enter Try.func76, Try.ntmps76
      go_wp2
      go_ret
      exact ⟨rfl, (Below.refl _ _).alloc (Nat.le_refl _) _⟩
  · go_enter Try.func76, Try.ntmps76
    go_wp2
    go_ret
    exact ⟨rfl, (Below.refl _ _).alloc (Nat.le_refl _) _⟩
  · cases xp
    · go_enter Try.func76, Try.ntmps76
      go_wp2
      go_ret
      exact ⟨rfl, (Below.refl _ _).alloc (Nat.le_refl _) _⟩
    · go_enter Try.func76, Try.ntmps76
      go_wp2
      go_ret
      exact ⟨rfl, (Below.refl _ _).alloc (Nat.le_refl _) _⟩

set_option maxHeartbeats 1000000 in
set_option maxRecDepth 100000 in
theorem arcs_any (x : Cr) (w : World) :
    Calls Try.prog 75 #[.agg #[.int .i64 x.a, .int .i64 x.b, .int .i64 x.c, .int .i64 x.d, .bool x.plus]] w fun e w' => e = .returned (.agg #[.int .i64 x.a, .int .i64 x.b, .int .i64 x.c, .int .i64 x.d]) ∧ Below w.heap.size w w' := by
  go_enter Try.func75, Try.ntmps75
  go_wp2
  exact bodyPost_ret (v := .agg #[.int .i64 x.a, .int .i64 x.b, .int .i64 x.c, .int .i64 x.d]) (by simp [results, Try.results75, go_sem]) rfl ⟨rfl, below2 _ _ _⟩
end Go.Proofs.Ytagaajlbkfkaiaa
/- The walk of ref.DiagramMay: which diagrams may be, by counting. -/
namespace Go.Proofs.Ytagaajlbkfkaiaa
open Go.RowKit

/-- At how many of the first k sides a comes in. -/
def sideIn (x : Cr) (a : Int) : Nat → Nat
  | 0 => 0
  | k + 1 => sideIn x a k + (if x.arc k = a ∧ x.comes k = true then 1 else 0)
/-- At how many of the first k sides a goes out. -/
def sideOut (x : Cr) (a : Int) : Nat → Nat
  | 0 => 0
  | k + 1 => sideOut x a k + (if x.arc k = a ∧ x.comes k = false then 1 else 0)
def inTo (C : List Cr) (a : Int) : Nat → Nat
  | 0 => 0
  | i + 1 => inTo C a i + sideIn (C.getD i Cr.none) a 4
def outTo (C : List Cr) (a : Int) : Nat → Nat
  | 0 => 0
  | i + 1 => outTo C a i + sideOut (C.getD i Cr.none) a 4
/-- Arc a comes in once and goes out once. -/
def onceB (C : List Cr) (a : Nat) : Bool := decide (inTo C a C.length = 1) && decide (outTo C a C.length = 1)
/-- Crossings and loops are not too many, and not none. -/
def sizeB (C : List Cr) (loops : Int) : Bool := decide (C.length ≤ 16) && decide (0 ≤ loops) && decide (loops ≤ 16) && !(decide (C.length = 0) && decide (loops = 0))
/-- The diagram may be. -/
def mayD (C : List Cr) (loops : Int) : Bool := sizeB C loops && (List.range (2 * C.length)).all fun j => onceB C (j + 1)

theorem sideIn_le (x : Cr) (a : Int) (k : Nat) : sideIn x a k ≤ k := by
  induction k with
  | zero => exact Nat.le_refl _
  | succ k ih => simp only [sideIn]; split <;> omega
theorem sideOut_le (x : Cr) (a : Int) (k : Nat) : sideOut x a k ≤ k := by
  induction k with
  | zero => exact Nat.le_refl _
  | succ k ih => simp only [sideOut]; split <;> omega
theorem inTo_le (C : List Cr) (a : Int) (i : Nat) : inTo C a i ≤ 4 * i := by
  induction i with
  | zero => exact Nat.le_refl _
  | succ i ih => have := sideIn_le (C.getD i Cr.none) a 4; simp only [inTo]; omega
theorem outTo_le (C : List Cr) (a : Int) (i : Nat) : outTo C a i ≤ 4 * i := by
  induction i with
  | zero => exact Nat.le_refl _
  | succ i ih => have := sideOut_le (C.getD i Cr.none) a 4; simp only [outTo]; omega
theorem mayD_no {C : List Cr} {loops : Int} {a : Nat} (h0 : 1 ≤ a) (h1 : a ≤ 2 * C.length) (h : onceB C a = false) : mayD C loops = false := by
  cases hm : mayD C loops with
  | false => rfl
  | true =>
    simp only [mayD, Bool.and_eq_true, List.all_eq_true, List.mem_range] at hm
    have := hm.2 (a - 1) (by omega)
    rw [show a - 1 + 1 = a by omega, h] at this
    cases this
theorem mayD_yes {C : List Cr} {loops : Int} (hs : sizeB C loops = true) (h : ∀ a : Nat, 1 ≤ a → a ≤ 2 * C.length → onceB C a = true) : mayD C loops = true := by
  simp only [mayD, Bool.and_eq_true, List.all_eq_true, List.mem_range]
  exact ⟨hs, fun j hj => h (j + 1) (by omega) (by omega)⟩
theorem mayD_size {C : List Cr} {loops : Int} (hs : sizeB C loops = false) : mayD C loops = false := by
  simp [mayD, hs]

/-- A slice of crossings. -/
def Crs (w : World) (B : Nat) (v : Value) (C : List Cr) : Prop := ∃ a cap, v = .slice a C.length cap ∧ C.length ≤ maxLen ∧ (0 < C.length → ∃ b off, a = some ⟨b, off, none⟩ ∧ b < B ∧ CrossAt w b off C)

set_option maxHeartbeats 4000000 in
set_option maxRecDepth 100000 in
theorem may17_size (v : Value) (C : List Cr) (loops : Int) (w : World) (h : Crs w w.heap.size v C) (hs : sizeB C loops = false) :
    Calls Try.prog 31 #[.agg #[v, .int .i64 loops]] w fun e w' => e = .returned (.bool false) ∧ Below w.heap.size w w' := by
  obtain ⟨a, cap, rfl, hn, _⟩ := h
  have hn' : C.length ≤ 9223372036854775807 := hn
  have hb1 : ∀ o, Below w.heap.size w (w.alloc o) := fun o => (Below.refl _ _).alloc (Nat.le_refl _) o
  by_cases h1 : 16 < C.length
  · have d1 : decide (16 < (C.length : Int)) = true := by simp; omega
    have d2 : decide (16 < C.length) = true := by simp; omega
    go_enter Try.func31, Try.ntmps31
    go_wp2
    go_ret
    exact ⟨rfl, hb1 _⟩
  · by_cases h2 : loops < 0
    · have d2 : decide (loops < 0) = true := by simpa using h2
      go_enter Try.func31, Try.ntmps31
      go_wp2
      go_ret
      exact ⟨rfl, hb1 _⟩
    · by_cases h3 : 16 < loops
      · have d3 : decide (16 < loops) = true := by simpa using h3
        go_enter Try.func31, Try.ntmps31
        go_wp2
        go_ret
        exact ⟨rfl, hb1 _⟩
      · have h4 : C.length = 0 ∧ loops = 0 := by
          simp only [sizeB, Bool.and_eq_false_iff, decide_eq_false_iff_not, Bool.not_eq_false', Bool.and_eq_true, decide_eq_true_eq] at hs
          omega
        obtain ⟨h4, rfl⟩ := h4
        rw [h4]
        go_enter Try.func31, Try.ntmps31
        go_wp2
        go_ret
        exact ⟨rfl, hb1 _⟩
end Go.Proofs.Ytagaajlbkfkaiaa
/- The walk of ref.DiagramMay where crossings and loops are not too many. -/
namespace Go.Proofs.Ytagaajlbkfkaiaa
open Go.RowKit

theorem sizeB_iff {C : List Cr} {loops : Int} (h : sizeB C loops = true) : C.length ≤ 16 ∧ 0 ≤ loops ∧ loops ≤ 16 ∧ ¬(C.length = 0 ∧ loops = 0) := by
  simp only [sizeB, Bool.and_eq_true, decide_eq_true_eq, Bool.not_eq_true', Bool.and_eq_false_iff, decide_eq_false_iff_not] at h
  omega

set_option maxHeartbeats 8000000 in
set_option maxRecDepth 100000 in
theorem may17_some (b off cap : Nat) (C : List Cr) (loops : Int) (w : World) (hs : sizeB C loops = true) (hp : 0 < C.length) (hbw : b < w.heap.size) (hC : CrossAt w b off C) :
    Calls Try.prog 31 #[.agg #[.slice (some ⟨b, off, none⟩) C.length cap, .int .i64 loops]] w fun e w' => e = .returned (.bool (mayD C loops)) ∧ Below w.heap.size w w' := by
  obtain ⟨s1, s2, s3, s4⟩ := sizeB_iff hs
  have HC : Hid (CrossAt w b off C) := hC
  have HS : Hid (sizeB C loops = true) := hs
  clear hC hs s4
  obtain ⟨w1, hw1⟩ : ∃ w1, w1 = w.alloc (.cells #[.slice (some ⟨b, off, none⟩) C.length cap, .int .i64 loops] 24) := ⟨_, rfl⟩
  have hsz1 : w1.heap.size = w.heap.size + 1 := by rw [hw1]; simp
  have HT1 : Hid (w1.heap[w.heap.size]? = some (.cells #[.slice (some ⟨b, off, none⟩) C.length cap, .int .i64 loops] 24 (0, 0))) := (by rw [hw1]; exact Array.getElem?_push_size : w1.heap[w.heap.size]? = some (.cells #[.slice (some ⟨b, off, none⟩) C.length cap, .int .i64 loops] 24 (0, 0)))
  have HE0 : Hid (w1.cell? ⟨w.heap.size, 0, none⟩ = some (.slice (some ⟨b, off, none⟩) C.length cap)) := (by unfold World.cell?; rw [HT1.out]; rfl : w1.cell? ⟨w.heap.size, 0, none⟩ = some (.slice (some ⟨b, off, none⟩) C.length cap))
  have HE1 : Hid (w1.cell? ⟨w.heap.size, 1, none⟩ = some (.int .i64 loops)) := (by unfold World.cell?; rw [HT1.out]; rfl : w1.cell? ⟨w.heap.size, 1, none⟩ = some (.int .i64 loops))
  have HB1 : Hid (Below w.heap.size w w1) := (by rw [hw1]; exact (Below.refl _ _).alloc (Nat.le_refl _) _ : Below w.heap.size w w1)
  have HC1 : Hid (CrossAt w1 b off C) := HC.out.on HB1.out hbw
  have HW1 : Hid (w1 = w.alloc (.cells #[.slice (some ⟨b, off, none⟩) C.length cap, .int .i64 loops] 24)) := hw1
  clear hw1
  have dA : decide (16 < (C.length : Int)) = false := by simp; omega
  have dA2 : decide (16 < C.length) = false := by simp; omega
  have dB : decide (loops < 0) = false := by simp; omega
  have dC : decide (16 < loops) = false := by simp; omega
  have dD : ((C.length : Int) == 0) = false := by rw [beq_eq_false_iff_ne]; omega
  go_enter Try.func31, Try.ntmps31
  go_wp2
  go_loopw [4] (fun va wr => ∃ a : Nat, 1 ≤ a ∧ a ≤ 2 * C.length + 1 ∧ va = .int .i64 a ∧ Hid (∀ j : Nat, 1 ≤ j → j < a → onceB C j = true) ∧ Below w1.heap.size w1 wr) (fun va _ => 2 * C.length + 1 - (intOf va).toNat)
  case atStart => exact ⟨1, Nat.le_refl _, by omega, rfl, fun j h0 h1 => by omega, by rw [← HW1.out]; exact Below.refl _ _⟩
  case round =>
    rename World => W1
    obtain ⟨a, ha1, ha2, rfl, hall, hb⟩ := hrel
    have hszW := hb.size
    have c0 := bcell hb (by omega) HE0.out
    have c1 := bcell hb (by omega) HE1.out
    by_cases hlt : a ≤ 2 * C.length
    · have hda : decide ((a : Int) ≤ 2 * (C.length : Int)) = true := by simp; omega
      go_wp2
      clear c0 c1
      go_loopw [5, 6, 7] (fun vi vo v7 ws => ∃ i : Nat, i ≤ C.length ∧ v7 = .int .i64 i ∧ vi = .int .i64 (inTo C a i : Nat) ∧ vo = .int .i64 (outTo C a i : Nat) ∧ Below w1.heap.size w1 ws) (fun _ _ v7 _ => C.length - (intOf v7).toNat)
      case atStart => exact ⟨0, Nat.zero_le _, rfl, rfl, rfl, hb⟩
      case round =>
        clear hb
        rename World => W2
        obtain ⟨i, hi, rfl, rfl, rfl, hb⟩ := hrel
        have hszX := hb.size
        have c0 := bcell hb (by omega) HE0.out
        have c1 := bcell hb (by omega) HE1.out
        by_cases hil : i < C.length
        · have HNI : Hid (inTo C a (i + 1) = inTo C a i + sideIn (C.getD i Cr.none) a 4) := (rfl : inTo C a (i + 1) = inTo C a i + sideIn (C.getD i Cr.none) a 4)
          have HNO : Hid (outTo C a (i + 1) = outTo C a i + sideOut (C.getD i Cr.none) a 4) := (rfl : outTo C a (i + 1) = outTo C a i + sideOut (C.getD i Cr.none) a 4)
          have hli := inTo_le C a i
          have hlo := outTo_le C a i
          generalize inTo C a i = ni at HNI hli
          generalize outTo C a i = no at HNO hlo
          have hdi : decide ((i : Int) < (C.length : Int)) = true := by simp; omega
          have hdi2 : decide (i < C.length) = true := by simp; omega
          go_wp2
          clear c0 c1
          go_loopw [5, 6, 8] (fun vi vo v8 ws => ∃ k : Nat, k ≤ 4 ∧ v8 = .int .i64 k ∧ vi = .int .i64 (ni + sideIn (C.getD i Cr.none) a k : Nat) ∧ vo = .int .i64 (no + sideOut (C.getD i Cr.none) a k : Nat) ∧ Below w1.heap.size w1 ws) (fun _ _ v8 _ => 4 - (intOf v8).toNat)
          case atStart => exact ⟨0, Nat.zero_le _, rfl, rfl, rfl, hb⟩
          case round =>
            clear hb
            rename World => W3
            obtain ⟨k, hk, rfl, rfl, rfl, hb⟩ := hrel
            have hszY := hb.size
            by_cases hkl : k < 4
            · have hsi := sideIn_le (C.getD i Cr.none) a k
              have hso := sideOut_le (C.getD i Cr.none) a k
              have HSI : Hid (sideIn (C.getD i Cr.none) a (k + 1) = sideIn (C.getD i Cr.none) a k + (if (C.getD i Cr.none).arc k = a ∧ (C.getD i Cr.none).comes k = true then 1 else 0)) := (rfl : sideIn (C.getD i Cr.none) a (k + 1) = sideIn (C.getD i Cr.none) a k + (if (C.getD i Cr.none).arc k = a ∧ (C.getD i Cr.none).comes k = true then 1 else 0))
              have HSO : Hid (sideOut (C.getD i Cr.none) a (k + 1) = sideOut (C.getD i Cr.none) a k + (if (C.getD i Cr.none).arc k = a ∧ (C.getD i Cr.none).comes k = false then 1 else 0)) := (rfl : sideOut (C.getD i Cr.none) a (k + 1) = sideOut (C.getD i Cr.none) a k + (if (C.getD i Cr.none).arc k = a ∧ (C.getD i Cr.none).comes k = false then 1 else 0))
              generalize sideIn (C.getD i Cr.none) a k = si at HSI hsi
              generalize sideOut (C.getD i Cr.none) a k = so at HSO hso
              have HF : Hid (∀ wX, Below (W3.alloc (.cells #[.int .i64 i, .int .i64 k] 96)).heap.size (W3.alloc (.cells #[.int .i64 i, .int .i64 k] 96)) wX → wX.cell? ⟨w.heap.size, 0, none⟩ = some (.slice (some ⟨b, off, none⟩) C.length cap) ∧ wX.cell? ⟨w.heap.size, 1, none⟩ = some (.int .i64 loops) ∧
                  wX.cell? ⟨W3.heap.size, 0, none⟩ = some (.int .i64 i) ∧ wX.cell? ⟨W3.heap.size, 1, none⟩ = some (.int .i64 k) ∧ w.heap.size < wX.heap.size ∧ W3.heap.size < wX.heap.size ∧ b < wX.heap.size ∧ CrossAt wX b off C) := fun wX hX => by
                have hB : Below w1.heap.size w1 wX := (hb.alloc hszY _).trans (hX.mono (by simp; omega))
                have hsX := hX.size
                simp only [World.size_alloc] at hsX
                have hT : wX.heap[W3.heap.size]? = some (.cells #[.int .i64 i, .int .i64 k] 96 (0, 0)) := (hX.block _ (by simp)).trans Array.getElem?_push_size
                exact ⟨bcell hB (by omega) HE0.out, bcell hB (by omega) HE1.out, by unfold World.cell?; rw [hT]; rfl, by unfold World.cell?; rw [hT]; rfl, by omega, by omega, by omega, HC1.out.on hB (by omega)⟩
              have c0 := bcell hb (by omega) HE0.out
              have c1 := bcell hb (by omega) HE1.out
              have hbs : w.heap.size < W3.heap.size := by omega
              have HB0 : Hid (Below (W3.alloc (.cells #[.int .i64 i, .int .i64 k] 96)).heap.size (W3.alloc (.cells #[.int .i64 i, .int .i64 k] 96)) (W3.alloc (.cells #[.int .i64 i, .int .i64 k] 96))) := Below.refl _ _
              have HBN : Hid (∀ wX, Below (W3.alloc (.cells #[.int .i64 i, .int .i64 k] 96)).heap.size (W3.alloc (.cells #[.int .i64 i, .int .i64 k] 96)) wX → Below w1.heap.size w1 wX) := fun wX hX => (hb.alloc hszY _).trans (hX.mono (by simp; omega))
              obtain ⟨av, hav⟩ : ∃ av, (C.getD i Cr.none).arc k = av := ⟨_, rfl⟩
              obtain ⟨cv, hcv⟩ : ∃ cv, (C.getD i Cr.none).comes k = cv := ⟨_, rfl⟩
              rw [hav, hcv] at HSI HSO
              have HAR : Hid ((C.getD i Cr.none).arc k = av) := hav
              have HCO : Hid ((C.getD i Cr.none).comes k = cv) := hcv
              clear hav hcv hb
              by_cases heq : av = (a : Int)
              · subst heq
                cases cv with
                | true =>
                  rw [if_pos ⟨rfl, rfl⟩] at HSI
                  rw [if_neg (fun h => by cases h.2)] at HSO
                  go_wp2_with (go_at_call 60; refine (arcAt_any b off cap loops C i k _ hil hkl (HF.out _ HB0.out).2.2.2.2.2.2.1 (HF.out _ HB0.out).2.2.2.2.2.2.2).mono ?_; rw [HAR.out]; rintro e9 w4 ⟨rfl, hb4⟩; refine Hid.out ?_)
                  refine Lib.hid ?_
                  have HB4 : Hid (Below (W3.alloc (.cells #[.int .i64 i, .int .i64 k] 96)).heap.size (W3.alloc (.cells #[.int .i64 i, .int .i64 k] 96)) w4) := hb4
                  obtain ⟨p0, p1, q0, q1, r0, r1, -, -⟩ := HF.out w4 HB4.out
                  clear hb4
                  clear c0 c1
                  go_wp2_with (go_at_call 61; refine (entry_any b off cap loops C i k _ hil hkl (HF.out _ HB4.out).2.2.2.2.2.2.1 (HF.out _ HB4.out).2.2.2.2.2.2.2).mono ?_; rw [HCO.out]; rintro e9 w5 ⟨rfl, hb5⟩; refine Hid.out ?_)
                  refine Lib.hid ?_
                  clear p0 p1 q0 q1 r0 r1
                  have HB5 : Hid (Below (W3.alloc (.cells #[.int .i64 i, .int .i64 k] 96)).heap.size (W3.alloc (.cells #[.int .i64 i, .int .i64 k] 96)) w5) := HB4.out.trans (hb5.mono HB4.out.size)
                  obtain ⟨p0, p1, q0, q1, r0, r1, -, -⟩ := HF.out w5 HB5.out
                  clear hb5
                  go_wp2_with (go_at_call 60; refine (arcAt_any b off cap loops C i k _ hil hkl (HF.out _ HB5.out).2.2.2.2.2.2.1 (HF.out _ HB5.out).2.2.2.2.2.2.2).mono ?_; rw [HAR.out]; rintro e9 w6 ⟨rfl, hb6⟩; refine Hid.out ?_)
                  refine Lib.hid ?_
                  clear p0 p1 q0 q1 r0 r1
                  have HB6 : Hid (Below (W3.alloc (.cells #[.int .i64 i, .int .i64 k] 96)).heap.size (W3.alloc (.cells #[.int .i64 i, .int .i64 k] 96)) w6) := HB5.out.trans (hb6.mono HB5.out.size)
                  obtain ⟨p0, p1, q0, q1, r0, r1, -, -⟩ := HF.out w6 HB6.out
                  clear hb6
                  go_wp2_with (go_at_call 61; refine (entry_any b off cap loops C i k _ hil hkl (HF.out _ HB6.out).2.2.2.2.2.2.1 (HF.out _ HB6.out).2.2.2.2.2.2.2).mono ?_; rw [HCO.out]; rintro e9 w7 ⟨rfl, hb7⟩; refine Hid.out ?_)
                  refine Lib.hid ?_
                  clear p0 p1 q0 q1 r0 r1
                  have HB7 : Hid (Below (W3.alloc (.cells #[.int .i64 i, .int .i64 k] 96)).heap.size (W3.alloc (.cells #[.int .i64 i, .int .i64 k] 96)) w7) := HB6.out.trans (hb7.mono HB6.out.size)
                  obtain ⟨p0, p1, q0, q1, r0, r1, -, -⟩ := HF.out w7 HB7.out
                  clear hb7
                  go_wp2
                  go_roundw
                  case rel => exact ⟨k + 1, by omega, by go_num, by rw [HSI.out]; go_num, by rw [HSO.out]; go_num, HBN.out _ HB7.out⟩
                  case measure => simp only [intOf]; omega
                | false =>
                  rw [if_neg (fun h => by cases h.2)] at HSI
                  rw [if_pos ⟨rfl, rfl⟩] at HSO
                  go_wp2_with (go_at_call 60; refine (arcAt_any b off cap loops C i k _ hil hkl (HF.out _ HB0.out).2.2.2.2.2.2.1 (HF.out _ HB0.out).2.2.2.2.2.2.2).mono ?_; rw [HAR.out]; rintro e9 w4 ⟨rfl, hb4⟩; refine Hid.out ?_)
                  refine Lib.hid ?_
                  have HB4 : Hid (Below (W3.alloc (.cells #[.int .i64 i, .int .i64 k] 96)).heap.size (W3.alloc (.cells #[.int .i64 i, .int .i64 k] 96)) w4) := hb4
                  obtain ⟨p0, p1, q0, q1, r0, r1, -, -⟩ := HF.out w4 HB4.out
                  clear hb4
                  clear c0 c1
                  go_wp2_with (go_at_call 61; refine (entry_any b off cap loops C i k _ hil hkl (HF.out _ HB4.out).2.2.2.2.2.2.1 (HF.out _ HB4.out).2.2.2.2.2.2.2).mono ?_; rw [HCO.out]; rintro e9 w5 ⟨rfl, hb5⟩; refine Hid.out ?_)
                  refine Lib.hid ?_
                  clear p0 p1 q0 q1 r0 r1
                  have HB5 : Hid (Below (W3.alloc (.cells #[.int .i64 i, .int .i64 k] 96)).heap.size (W3.alloc (.cells #[.int .i64 i, .int .i64 k] 96)) w5) := HB4.out.trans (hb5.mono HB4.out.size)
                  obtain ⟨p0, p1, q0, q1, r0, r1, -, -⟩ := HF.out w5 HB5.out
                  clear hb5
                  go_wp2_with (go_at_call 60; refine (arcAt_any b off cap loops C i k _ hil hkl (HF.out _ HB5.out).2.2.2.2.2.2.1 (HF.out _ HB5.out).2.2.2.2.2.2.2).mono ?_; rw [HAR.out]; rintro e9 w6 ⟨rfl, hb6⟩; refine Hid.out ?_)
                  refine Lib.hid ?_
                  clear p0 p1 q0 q1 r0 r1
                  have HB6 : Hid (Below (W3.alloc (.cells #[.int .i64 i, .int .i64 k] 96)).heap.size (W3.alloc (.cells #[.int .i64 i, .int .i64 k] 96)) w6) := HB5.out.trans (hb6.mono HB5.out.size)
                  obtain ⟨p0, p1, q0, q1, r0, r1, -, -⟩ := HF.out w6 HB6.out
                  clear hb6
                  go_wp2_with (go_at_call 61; refine (entry_any b off cap loops C i k _ hil hkl (HF.out _ HB6.out).2.2.2.2.2.2.1 (HF.out _ HB6.out).2.2.2.2.2.2.2).mono ?_; rw [HCO.out]; rintro e9 w7 ⟨rfl, hb7⟩; refine Hid.out ?_)
                  refine Lib.hid ?_
                  clear p0 p1 q0 q1 r0 r1
                  have HB7 : Hid (Below (W3.alloc (.cells #[.int .i64 i, .int .i64 k] 96)).heap.size (W3.alloc (.cells #[.int .i64 i, .int .i64 k] 96)) w7) := HB6.out.trans (hb7.mono HB6.out.size)
                  obtain ⟨p0, p1, q0, q1, r0, r1, -, -⟩ := HF.out w7 HB7.out
                  clear hb7
                  go_wp2
                  go_roundw
                  case rel => exact ⟨k + 1, by omega, by go_num, by rw [HSI.out]; go_num, by rw [HSO.out]; go_num, HBN.out _ HB7.out⟩
                  case measure => simp only [intOf]; omega
              · have dA1 : (av == (a : Int)) = false := by rw [beq_eq_false_iff_ne]; exact heq
                rw [if_neg (fun h => heq h.1)] at HSI HSO
                go_wp2_with (go_at_call 60; refine (arcAt_any b off cap loops C i k _ hil hkl (HF.out _ HB0.out).2.2.2.2.2.2.1 (HF.out _ HB0.out).2.2.2.2.2.2.2).mono ?_; rw [HAR.out]; rintro e9 w4 ⟨rfl, hb4⟩; refine Hid.out ?_)
                refine Lib.hid ?_
                have HB4 : Hid (Below (W3.alloc (.cells #[.int .i64 i, .int .i64 k] 96)).heap.size (W3.alloc (.cells #[.int .i64 i, .int .i64 k] 96)) w4) := hb4
                obtain ⟨p0, p1, q0, q1, r0, r1, -, -⟩ := HF.out w4 HB4.out
                clear hb4
                clear c0 c1
                go_wp2_with (go_at_call 60; refine (arcAt_any b off cap loops C i k _ hil hkl (HF.out _ HB4.out).2.2.2.2.2.2.1 (HF.out _ HB4.out).2.2.2.2.2.2.2).mono ?_; rw [HAR.out]; rintro e9 w5 ⟨rfl, hb5⟩; refine Hid.out ?_)
                refine Lib.hid ?_
                clear p0 p1 q0 q1 r0 r1
                have HB5 : Hid (Below (W3.alloc (.cells #[.int .i64 i, .int .i64 k] 96)).heap.size (W3.alloc (.cells #[.int .i64 i, .int .i64 k] 96)) w5) := HB4.out.trans (hb5.mono HB4.out.size)
                obtain ⟨p0, p1, q0, q1, r0, r1, -, -⟩ := HF.out w5 HB5.out
                clear hb5
                go_wp2
                go_roundw
                case rel => exact ⟨k + 1, by omega, by go_num, by rw [HSI.out]; go_num, by rw [HSO.out]; go_num, HBN.out _ HB5.out⟩
                case measure => simp only [intOf]; omega
            · obtain rfl : k = 4 := by omega
              go_wp2
              go_roundw
              case rel => exact ⟨i + 1, by omega, by go_num, by rw [HNI.out], by rw [HNO.out], hb⟩
              case measure => simp only [intOf]; omega
        · obtain rfl : i = C.length := by omega
          have HON : Hid (onceB C a = (decide (inTo C a C.length = 1) && decide (outTo C a C.length = 1))) := (rfl : onceB C a = (decide (inTo C a C.length = 1) && decide (outTo C a C.length = 1)))
          have hli := inTo_le C a C.length
          have hlo := outTo_le C a C.length
          generalize inTo C a C.length = ni at HON hli
          generalize outTo C a C.length = no at HON hlo
          by_cases h1 : ni = 1
          · subst h1
            by_cases h2 : no = 1
            · subst h2
              have HO : Hid (onceB C a = true) := (by rw [HON.out]; rfl : onceB C a = true)
              go_wp2
              go_roundw
              case rel =>
                refine ⟨a + 1, by omega, by omega, by go_num, fun j h0 h1 => ?_, hb⟩
                by_cases hj : j = a
                · rw [hj]; exact HO.out
                · exact hall.out j h0 (by omega)
              case measure => simp only [intOf]; omega
            · have HN : Hid (mayD C loops = false) := mayD_no ha1 hlt (by rw [HON.out]; simp [h2])
              have d2 : ((no : Int) != 1) = true := by rw [bne_iff_ne]; omega
              go_wp2
              go_ret
              exact ⟨ret_bool HN.out, HB1.out.trans (hb.mono HB1.out.size)⟩
          · have HN : Hid (mayD C loops = false) := mayD_no ha1 hlt (by rw [HON.out]; simp [h1])
            have d2 : ((ni : Int) != 1) = true := by rw [bne_iff_ne]; omega
            go_wp2
            go_ret
            exact ⟨ret_bool HN.out, HB1.out.trans (hb.mono HB1.out.size)⟩
    · have HY : Hid (mayD C loops = true) := mayD_yes HS.out (fun j h0 h1 => hall.out j h0 (by omega))
      go_wp2
      go_ret
      exact ⟨ret_bool HY.out, HB1.out.trans (hb.mono HB1.out.size)⟩
end Go.Proofs.Ytagaajlbkfkaiaa

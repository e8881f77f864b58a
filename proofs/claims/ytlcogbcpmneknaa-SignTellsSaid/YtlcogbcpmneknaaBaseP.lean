/- Several texts of the proof, one behind the other. -/
import Derived.Test.YtlcogbcpmneknaaRows
import Derived.WalkKit
import Derived.WalkSpells
import Derived.WalkLawsBesides
import Derived.Deep.QuietTactic
import Derived.BigQuiet
import Derived.Deep.RegionWith
import Derived.Deep.RegionHeld3
import Derived.Laws.AppendOwnNone
import Derived.OwnWalk
import Derived.Lib.Hide
import Derived.Laws.StructEq
/- What is said of worlds, rows and lists of pairs without naming the program. -/
namespace Go.Proofs.Ytlcogbcpmneknaa
open Go.RowKit

theorem bcell {B : Nat} {W w1 : World} (hb : Below B W w1) {b o : Nat} {v : Option Value} (h : b < B) (hc : W.cell? ⟨b, o, none⟩ = v) : w1.cell? ⟨b, o, none⟩ = v := by
  rw [← hc]; exact hb.cell (p := ⟨b, o, none⟩) h
theorem below_drewN {B : Nat} {w w1 : World} (h : Below B w w1) : ∀ n, Below B w (w1.drewN n) := fun n => by
  induction n with
  | zero => exact h
  | succ n ih => exact ih.drew
theorem ret_bool {a b : Bool} (h : b = a) : Ending.returned (.bool a) = .returned (.bool b) := by rw [h]
/-- The cells of the terms l, from address ⟨b, off⟩ on. -/
def TermsAt (w : World) (b off : Nat) (l : List (Int × Int)) : Prop :=
  ∀ i, i < l.length → w.cell? ⟨b, off + i * 2, none⟩ = some (.int .i64 (l.getD i (0, 0)).1) ∧ w.cell? ⟨b, off + i * 2 + 1, none⟩ = some (.int .i64 (l.getD i (0, 0)).2)
theorem TermsAt.on {B : Nat} {W w1 : World} {b off : Nat} {l : List (Int × Int)} (h : TermsAt W b off l) (hb : Below B W w1) (hlt : b < B) : TermsAt w1 b off l :=
  fun i hi => ⟨bcell hb hlt (h i hi).1, bcell hb hlt (h i hi).2⟩
/-- The terms as cells, one behind the other. -/
def flat (l : List (Int × Int)) : List Value := l.flatMap fun t => [.int .i64 t.1, .int .i64 t.2]
theorem flat_length (l : List (Int × Int)) : (flat l).length = l.length * 2 := by
  induction l with
  | nil => rfl
  | cons t l ih => simp [flat] at *; omega
theorem flat_get (l : List (Int × Int)) (i : Nat) (hi : i < l.length) :
    (flat l)[i * 2]? = some (.int .i64 (l.getD i (0, 0)).1) ∧ (flat l)[i * 2 + 1]? = some (.int .i64 (l.getD i (0, 0)).2) := by
  induction l generalizing i with
  | nil => simp at hi
  | cons t l ih =>
    cases i with
    | zero => simp [flat]
    | succ i =>
      have := ih i (by simpa using hi)
      simp only [flat, List.flatMap_cons] at this ⊢
      rw [List.getElem?_append_right (by simp; omega), List.getElem?_append_right (by simp; omega)]
      simpa [show (i + 1) * 2 - 2 = i * 2 by omega, show (i + 1) * 2 + 1 - 2 = i * 2 + 1 by omega] using this
theorem grown_below {w w' : World} (h : Below w.heap.size w w') (row : Option Nat) : w.grownBy w' row := ⟨h.os, h.tape, h.output, h.size, fun k hk _ => h.block k hk⟩
/-- The slice v holds these values, a cell each, in blocks below B. -/
def Slots (w : World) (B : Nat) (v : Value) (xs : List Value) : Prop :=
  ∃ a cap, v = .slice a xs.length cap ∧ (0 < xs.length → ∃ b off, a = some ⟨b, off, none⟩ ∧ b < B ∧ ∀ i, i < xs.length → w.cell? ⟨b, off + i, none⟩ = some (xs.getD i (.bool false)))
theorem Slots.on {w w' : World} {B : Nat} {v : Value} {xs : List Value} (h : Slots w B v xs) (hb : Below B w w') : Slots w' B v xs := by
  obtain ⟨a, cap, rfl, g⟩ := h
  refine ⟨a, cap, rfl, fun h0 => ?_⟩
  obtain ⟨b, off, rfl, hlt, hc⟩ := g h0
  exact ⟨b, off, rfl, hlt, fun i hi => bcell hb hlt (hc i hi)⟩
theorem Slots.mono {w : World} {B B' : Nat} {v : Value} {xs : List Value} (h : Slots w B v xs) (hB : B ≤ B') : Slots w B' v xs := by
  obtain ⟨a, cap, rfl, g⟩ := h
  refine ⟨a, cap, rfl, fun h0 => ?_⟩
  obtain ⟨b, off, rfl, hlt, hc⟩ := g h0
  exact ⟨b, off, rfl, Nat.lt_of_lt_of_le hlt hB, hc⟩
theorem slots_of_own {w : World} {B e n : Nat} {v : Value} {xs : List Value} (h : w.ownsRow B e 1 v n xs) : Slots w w.heap.size v xs := by
  have hl : xs.length = n := by simpa using h.1
  rcases h.2 with ⟨rfl, h0⟩ | ⟨g, cap, cur, rfl, _, hg, _, _, _, _⟩
  · refine ⟨none, 0, by rw [hl, h0], fun hp => by omega⟩
  · refine ⟨some ⟨g, 0, none⟩, cap, by rw [hl], fun _ => ⟨g, 0, rfl, (h.lt g rfl).2, fun i hi => ?_⟩⟩
    rw [Nat.zero_add, h.cellAt i (by omega), List.getD, List.getElem?_eq_getElem hi]
    rfl
theorem own_low {w : World} {B B' e s n : Nat} {v : Value} {xs : List Value} (h : w.ownsRow B e s v n xs) (hB : B' ≤ B) : w.ownsRow B' e s v n xs := by
  refine ⟨h.1, ?_⟩
  rcases h.2 with h1 | ⟨g, cap, cur, h1, h2, h3⟩
  · exact Or.inl h1
  · exact Or.inr ⟨g, cap, cur, h1, Nat.le_trans hB h2, h3⟩
/-- Rows of different element types lie in different blocks. -/
theorem own_ne {w : World} {B B' e e' s s' n n' : Nat} {v v' : Value} {xs xs' : List Value} (h : w.ownsRow B e s v n xs) (h' : w.ownsRow B' e' s' v' n' xs') (he : e ≠ e') : v.ownBlock = none ∨ v.ownBlock ≠ v'.ownBlock := by
  rcases h.2 with ⟨rfl, _⟩ | ⟨g, cap, cur, rfl, _, hg, _⟩
  · exact Or.inl rfl
  · right
    rcases h'.2 with ⟨rfl, _⟩ | ⟨g', cap', cur', rfl, _, hg', _⟩
    · simp [Value.ownBlock]
    · simp only [Value.ownBlock]
      intro e0
      have e1 := Option.some.inj e0
      subst e1
      rw [hg] at hg'
      injection hg' with h1
      injection h1 with h2 h3
      exact he h3
theorem new_cell1 (W : World) (x : Value) (e : TypeId) : ∀ j u, [x][j]? = some u → (W.alloc (.cells #[x] e)).cell? ((⟨W.heap.size, 0, none⟩ : Addr).add j) = some u := by
  intro j u hj
  rw [Addr.add_lit, Nat.zero_add]
  have hh : (W.alloc (.cells #[x] e)).heap[W.heap.size]? = some (.cells #[x] e (0, 0)) := Array.getElem?_push_size
  match j, hj with
  | 0, hj => simp at hj; subst hj; unfold World.cell?; rw [hh]; rfl
theorem own_capS {w : World} {B e s n : Nat} {v : Value} {xs : List Value} (h : w.ownsRow B e s v n xs) : ∃ a c, v = .slice a n c := by
  rcases h.2 with ⟨rfl, h0⟩ | ⟨g, cap, cur, rfl, _, _, h1, h2, _⟩
  · exact ⟨none, 0, by rw [h0]⟩
  · exact ⟨_, _, rfl⟩
theorem own_oneS {w : World} {B e s n : Nat} {v : Value} {xs : List Value} (h : w.ownsRow B e s v n xs) : ∀ u ∈ [v], u.oneCell' = true := by
  obtain ⟨a, c, rfl⟩ := own_capS h
  intro u hu
  simp only [List.mem_singleton] at hu
  subst hu
  rfl
theorem own_any {w w' : World} {B e s n : Nat} {v : Value} {xs : List Value} (h : w.ownsRow B e s v n xs) (hg : w.grownBy w' none) : w'.ownsRow B e s v n xs :=
  h.kept hg (by cases v.ownBlock with | none => exact Or.inl rfl | some q => exact Or.inr (by simp))
theorem getD_left (zs : List Value) (x : Value) (i : Nat) (h : i < zs.length) : (zs ++ [x]).getD i (.bool false) = zs.getD i (.bool false) := by simp [List.getD, List.getElem?_append_left h]
theorem getD_last (zs : List Value) (x : Value) : (zs ++ [x]).getD zs.length (.bool false) = x := by simp [List.getD]
/-- Another coefficient at place i. -/
def setC (l : List (Int × Int)) (i : Nat) (c : Int) : List (Int × Int) := l.set i ((l.getD i (0, 0)).1, c)
theorem flat_setC (l : List (Int × Int)) (i : Nat) (c : Int) (hi : i < l.length) : (flat l).set (i * 2 + 1) (.int .i64 c) = flat (setC l i c) := by
  induction l generalizing i with
  | nil => simp at hi
  | cons t l ih =>
    have e : flat (t :: l) = .int .i64 t.1 :: .int .i64 t.2 :: flat l := rfl
    cases i with
    | zero =>
      have e2 : setC (t :: l) 0 c = (t.1, c) :: l := rfl
      rw [e, e2]
      rfl
    | succ i =>
      have e2 : setC (t :: l) (i + 1) c = t :: setC l i c := rfl
      have e3 : flat (t :: setC l i c) = .int .i64 t.1 :: .int .i64 t.2 :: flat (setC l i c) := rfl
      rw [e, e2, e3, show (i + 1) * 2 + 1 = i * 2 + 1 + 1 + 1 by omega, List.set_cons_succ, List.set_cons_succ, ih i (by simpa using hi)]
theorem flat_cellC (l : List (Int × Int)) (i : Nat) (hi : i < l.length) : (flat l)[i * 2 + 1]? = some (.int .i64 (l.getD i (0, 0)).2) := by
  induction l generalizing i with
  | nil => simp at hi
  | cons t l ih =>
    have e : flat (t :: l) = .int .i64 t.1 :: .int .i64 t.2 :: flat l := rfl
    cases i with
    | zero => rw [e]; rfl
    | succ i =>
      have := ih i (by simpa using hi)
      rw [e, show (i + 1) * 2 + 1 = i * 2 + 1 + 1 + 1 by omega, List.getElem?_cons_succ, List.getElem?_cons_succ, this]
      rfl
/-- Another first number at place i. -/
def setE (l : List (Int × Int)) (i : Nat) (e : Int) : List (Int × Int) := l.set i (e, (l.getD i (0, 0)).2)
theorem setE_length (l : List (Int × Int)) (i : Nat) (c : Int) : (setE l i c).length = l.length := by simp [setE]
theorem flat_setE (l : List (Int × Int)) (i : Nat) (c : Int) (hi : i < l.length) : (flat l).set (i * 2) (.int .i64 c) = flat (setE l i c) := by
  induction l generalizing i with
  | nil => simp at hi
  | cons t l ih =>
    have e : flat (t :: l) = .int .i64 t.1 :: .int .i64 t.2 :: flat l := rfl
    cases i with
    | zero =>
      have e2 : setE (t :: l) 0 c = (c, t.2) :: l := rfl
      rw [e, e2]
      rfl
    | succ i =>
      have e2 : setE (t :: l) (i + 1) c = t :: setE l i c := rfl
      have e3 : flat (t :: setE l i c) = .int .i64 t.1 :: .int .i64 t.2 :: flat (setE l i c) := rfl
      rw [e, e2, e3, show (i + 1) * 2 = i * 2 + 1 + 1 by omega, List.set_cons_succ, List.set_cons_succ, ih i (by simpa using hi)]
theorem flat_cellE (l : List (Int × Int)) (i : Nat) (hi : i < l.length) : (flat l)[i * 2]? = some (.int .i64 (l.getD i (0, 0)).1) := by
  induction l generalizing i with
  | nil => simp at hi
  | cons t l ih =>
    have e : flat (t :: l) = .int .i64 t.1 :: .int .i64 t.2 :: flat l := rfl
    cases i with
    | zero => rw [e]; rfl
    | succ i =>
      have := ih i (by simpa using hi)
      rw [e, show (i + 1) * 2 = i * 2 + 1 + 1 by omega, List.getElem?_cons_succ, List.getElem?_cons_succ, this]
      rfl
theorem flat_zeros (n : Nat) : (madeCells #[Value.int .i64 0, .int .i64 0] (n * 2)).toList = flat (List.replicate n (0, 0)) := by
  apply List.ext_getElem?
  intro j
  by_cases hj : j < n * 2
  · have hlen : (flat (List.replicate n ((0 : Int), (0 : Int)))).length = n * 2 := by rw [flat_length]; simp
    have h1 : ∀ (m k : Nat), k < m * 2 → (flat (List.replicate m ((0 : Int), (0 : Int))))[k]? = some (.int .i64 0) := by
      intro m
      induction m with
      | zero => intro k hk; omega
      | succ m ih =>
        intro k hk
        have e : flat (List.replicate (m + 1) ((0 : Int), (0 : Int))) = .int .i64 0 :: .int .i64 0 :: flat (List.replicate m ((0 : Int), (0 : Int))) := rfl
        rw [e]
        match k with
        | 0 => rfl
        | 1 => rfl
        | k + 2 =>
          rw [List.getElem?_cons_succ, List.getElem?_cons_succ]
          exact ih k (by omega)
    rw [h1 n j hj]
    simp only [madeCells]
    rcases Nat.mod_two_eq_zero_or_one j with h | h <;> simp [hj, h]
  · rw [List.getElem?_eq_none (by simp [madeCells]; omega), List.getElem?_eq_none (by rw [flat_length]; simp; omega)]
/-- What the loop has done behind i spots. -/
def unkTo (n i : Nat) : List (Int × Int) := List.replicate i (-1, 0) ++ List.replicate (n - i) (0, 0)
theorem unk_next (n i : Nat) (h : i < n) : setE (unkTo n i) i (-1) = unkTo n (i + 1) := by
  obtain ⟨m, hm⟩ : ∃ m, n - i = m + 1 := ⟨n - i - 1, by omega⟩
  have hm2 : n - (i + 1) = m := by omega
  unfold setE unkTo
  rw [hm, hm2, List.replicate_succ, List.replicate_succ' (n := i)]
  have hg : (List.replicate i ((-1 : Int), (0 : Int)) ++ (0, 0) :: List.replicate m (0, 0)).getD i (0, 0) = (0, 0) := by simp [List.getD]
  rw [hg, List.set_append_right _ _ (by simp)]
  simp
end Go.Proofs.Ytlcogbcpmneknaa
/- Diagrams in a world; the walks of ref.ArcAt, ref.Entry, drawing.Arcs and drawing.ComesIn. -/
namespace Go.Proofs.Ytlcogbcpmneknaa
open Go.RowKit

/-- A crossing: its four arcs, and whether it is Plus. -/
structure Cr where
  a : Int
  b : Int
  c : Int
  d : Int
  plus : Bool
/-- No crossing at all. -/
def Cr.none : Cr := ⟨0, 0, 0, 0, false⟩
/-- The arc at side k. -/
def Cr.arc (x : Cr) (k : Nat) : Int := if k = 0 then x.a else if k = 1 then x.b else if k = 2 then x.c else x.d
/-- Does a strand come in at side k? -/
def Cr.comes (x : Cr) (k : Nat) : Bool := k == 0 || (k == 1 && !x.plus) || (k == 3 && x.plus)

/-- These crossings lie there, five cells each. -/
def CrossAt (w : World) (b off : Nat) (C : List Cr) : Prop := ∀ i, i < C.length →
  w.cell? ⟨b, off + i * 5, none⟩ = some (.int .i64 (C.getD i Cr.none).a) ∧ w.cell? ⟨b, off + i * 5 + 1, none⟩ = some (.int .i64 (C.getD i Cr.none).b) ∧ w.cell? ⟨b, off + i * 5 + 2, none⟩ = some (.int .i64 (C.getD i Cr.none).c) ∧
  w.cell? ⟨b, off + i * 5 + 3, none⟩ = some (.int .i64 (C.getD i Cr.none).d) ∧ w.cell? ⟨b, off + i * 5 + 4, none⟩ = some (.bool (C.getD i Cr.none).plus)
theorem CrossAt.on {w w' : World} {B b off : Nat} {C : List Cr} (h : CrossAt w b off C) (hb : Below B w w') (hlt : b < B) : CrossAt w' b off C := fun i hi =>
  ⟨bcell hb hlt (h i hi).1, bcell hb hlt (h i hi).2.1, bcell hb hlt (h i hi).2.2.1, bcell hb hlt (h i hi).2.2.2.1, bcell hb hlt (h i hi).2.2.2.2⟩

theorem below2 (w : World) (o1 o2 : Obj) : Below w.heap.size w ((w.alloc o1).alloc o2) := ((Below.refl _ _).alloc (Nat.le_refl _) _).alloc (by simp) _
theorem below3 (w : World) (o1 o2 o3 : Obj) : Below w.heap.size w (((w.alloc o1).alloc o2).alloc o3) := (below2 w o1 o2).alloc (by simp; omega) _

set_option maxHeartbeats 2000000 in
set_option maxRecDepth 100000 in
theorem arcAt_any (b off cap : Nat) (loops : Int) (C : List Cr) (i k : Nat) (w : World) (hi : i < C.length) (hk : k < 4) (hbw : b < w.heap.size) (hC : CrossAt w b off C) :
    Calls Try.prog 24 #[.agg #[.slice (some ⟨b, off, none⟩) C.length cap, .int .i64 loops], .agg #[.int .i64 i, .int .i64 k]] w fun e w' => e = .returned (.int .i64 ((C.getD i Cr.none).arc k)) ∧ Below w.heap.size w w' := by
  obtain ⟨c0, c1, c2, c3, c4⟩ := hC i hi
  clear hC
  generalize C.getD i Cr.none = x at c0 c1 c2 c3 c4
  have hk4 : k = 0 ∨ k = 1 ∨ k = 2 ∨ k = 3 := by omega
  rcases hk4 with rfl | rfl | rfl | rfl
  · go_enter Try.func24, Try.ntmps24
    go_wp2
    go_ret
    exact ⟨rfl, below3 _ _ _ _⟩
  · go_enter Try.func24, Try.ntmps24
    go_wp2
    go_ret
    exact ⟨rfl, below3 _ _ _ _⟩
  · go_enter Try.func24, Try.ntmps24
    go_wp2
    go_ret
    exact ⟨rfl, below3 _ _ _ _⟩
  · go_enter Try.func24, Try.ntmps24
    go_wp2
    go_ret
    exact ⟨rfl, below3 _ _ _ _⟩

set_option maxHeartbeats 2000000 in
set_option maxRecDepth 100000 in
theorem entry_any (b off cap : Nat) (loops : Int) (C : List Cr) (i k : Nat) (w : World) (hi : i < C.length) (hk : k < 4) (hbw : b < w.heap.size) (hC : CrossAt w b off C) :
    Calls Try.prog 39 #[.agg #[.slice (some ⟨b, off, none⟩) C.length cap, .int .i64 loops], .agg #[.int .i64 i, .int .i64 k]] w fun e w' => e = .returned (.bool ((C.getD i Cr.none).comes k)) ∧ Below w.heap.size w w' := by
  obtain ⟨c0, c1, c2, c3, c4⟩ := hC i hi
  clear hC c0 c1 c2 c3
  generalize C.getD i Cr.none = x at c4
  obtain ⟨xa, xb, xc, xd, xp⟩ := x
  have hk4 : k = 0 ∨ k = 1 ∨ k = 2 ∨ k = 3 := by omega
  rcases hk4 with rfl | rfl | rfl | rfl
  · go_enter Try.func39, Try.ntmps39
    go_wp2
    go_ret
    exact ⟨rfl, below2 _ _ _⟩
  · cases xp
    · go_enter Try.func39, Try.ntmps39
      go_wp2
      go_ret
      exact ⟨rfl, below2 _ _ _⟩
    · go_enter Try.func39, Try.ntmps39
      go_wp2
      go_ret
      exact ⟨rfl, below2 _ _ _⟩
  · go_enter Try.func39, Try.ntmps39
    go_wp2
    go_ret
    exact ⟨rfl, below2 _ _ _⟩
  · cases xp
    · go_enter Try.func39, Try.ntmps39
      go_wp2
      go_ret
      exact ⟨rfl, below2 _ _ _⟩
    · go_enter Try.func39, Try.ntmps39
      go_wp2
      go_ret
      exact ⟨rfl, below2 _ _ _⟩

set_option maxHeartbeats 1000000 in
set_option maxRecDepth 100000 in
theorem comesIn_any (x : Cr) (k : Nat) (w : World) (hk : k < 4) :
    Calls Try.prog 54 #[.agg #[.int .i64 x.a, .int .i64 x.b, .int .i64 x.c, .int .i64 x.d, .bool x.plus], .int .i64 k] w fun e w' => e = .returned (.bool (x.comes k)) ∧ Below w.heap.size w w' := by
  obtain ⟨xa, xb, xc, xd, xp⟩ := x
  have hk4 : k = 0 ∨ k = 1 ∨ k = 2 ∨ k = 3 := by omega
  rcases hk4 with rfl | rfl | rfl | rfl
  · go_enter Try.func54, Try.ntmps54
    go_wp2
    go_ret
    exact ⟨rfl, (Below.refl _ _).alloc (Nat.le_refl _) _⟩
  · cases xp
    · go_enter Try.func54, Try.ntmps54
      go_wp2
      go_ret
      exact ⟨rfl, (Below.refl _ _).alloc (Nat.le_refl _) _⟩
    · go_enter Try.func54, Try.ntmps54
      go_wp2
      go_ret
      exact ⟨rfl, (Below.refl _ _).alloc (Nat.le_refl _) _⟩
  · go_enter Try.func54, Try.ntmps54
    go_wp2
    go_ret
    exact ⟨rfl, (Below.refl _ _).alloc (Nat.le_refl _) _⟩
  · cases xp
    · go_enter Try.func54, Try.ntmps54
      go_wp2
      go_ret
      exact ⟨rfl, (Below.refl _ _).alloc (Nat.le_refl _) _⟩
    · go_enter Try.func54, Try.ntmps54
      go_wp2
      go_ret
      exact ⟨rfl, (Below.refl _ _).alloc (Nat.le_refl _) _⟩

set_option maxHeartbeats 1000000 in
set_option maxRecDepth 100000 in
theorem arcs_any (x : Cr) (w : World) :
    Calls Try.prog 53 #[.agg #[.int .i64 x.a, .int .i64 x.b, .int .i64 x.c, .int .i64 x.d, .bool x.plus]] w fun e w' => e = .returned (.agg #[.int .i64 x.a, .int .i64 x.b, .int .i64 x.c, .int .i64 x.d]) ∧ Below w.heap.size w w' := by
  go_enter Try.func53, Try.ntmps53
  go_wp2
  exact bodyPost_ret (v := .agg #[.int .i64 x.a, .int .i64 x.b, .int .i64 x.c, .int .i64 x.d]) (by simp [results, Try.results53, go_sem]) rfl ⟨rfl, below2 _ _ _⟩
end Go.Proofs.Ytlcogbcpmneknaa

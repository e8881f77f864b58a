/- Several texts of the proof, one behind the other. -/
import Derived.Test.YtlcogbcpmneknaaQ0P
import Derived.Test.YtlcogbcpmneknaaW6P
/- Determinants of whole numbers, nought where rows and columns are not as many: rows and columns may be traded; rows and columns that are sums. -/
namespace Go.Proofs.Ytlcogbcpmneknaa

def dZ : List (Nat → Int) → List Nat → Int
  | [], cs => if cs = [] then 1 else 0
  | r :: rs, cs => rowZ r cs (dZ rs)
theorem rowZ_ext (a b : Nat → Int) : ∀ (cs : List Nat) (h h' : List Nat → Int), (∀ c ∈ cs, a c = b c) → (∀ rest, rest.length + 1 = cs.length → (∀ c ∈ rest, c ∈ cs) → h rest = h' rest) → rowZ a cs h = rowZ b cs h'
  | [], _, _, _, _ => rfl
  | c :: cs, h, h', e, e2 => by
    show a c * h cs - rowZ a cs _ = b c * h' cs - rowZ b cs _
    rw [e c (.head _), e2 cs rfl (fun x hx => .tail _ hx), rowZ_ext a b cs _ (fun rest => h' (c :: rest)) (fun x hx => e x (.tail _ hx)) (fun rest hr hr2 => e2 (c :: rest) (by simp; omega) (fun x hx => by
      cases hx with
      | head => exact .head _
      | tail _ hx => exact .tail _ (hr2 x hx)))]
theorem dZ_ext {α : Type} (f g : α → Nat → Int) : ∀ (R : List α) (cs : List Nat), (∀ i ∈ R, ∀ c ∈ cs, f i c = g i c) → dZ (R.map f) cs = dZ (R.map g) cs
  | [], _, _ => rfl
  | i :: R, cs, h => rowZ_ext (f i) (g i) cs _ _ (fun c hc => h i (.head _) c hc) (fun rest _ hr => dZ_ext f g R rest fun j hj c hc => h j (.tail _ hj) c (hr c hc))
theorem rowZ_map (a : Nat → Int) (p : Nat → Nat) : ∀ (cs : List Nat) (h : List Nat → Int), rowZ a (cs.map p) h = rowZ (fun c => a (p c)) cs (fun rest => h (rest.map p))
  | [], _ => rfl
  | c :: cs, h => by
    show a (p c) * h (cs.map p) - rowZ a (cs.map p) _ = _
    rw [rowZ_map a p cs]
    rfl
theorem dZ_map (p : Nat → Nat) : ∀ (R : List (Nat → Int)) (cs : List Nat), dZ R (cs.map p) = dZ (R.map fun r c => r (p c)) cs
  | [], cs => by
    show (if cs.map p = [] then (1 : Int) else 0) = if cs = [] then 1 else 0
    simp
  | r :: R, cs => by
    show rowZ r (cs.map p) (dZ R) = rowZ (fun c => r (p c)) cs (dZ (R.map fun r c => r (p c)))
    rw [rowZ_map]
    congr 1
    funext rest
    exact dZ_map p R rest
/-- Rows. -/
theorem dZ_lin (X Y : List (Nat → Int)) (r a : Nat → Int) (k : Int) (cs : List Nat) : dZ (X ++ (fun c => r c + k * a c) :: Y) cs = dZ (X ++ r :: Y) cs + k * dZ (X ++ a :: Y) cs := by
  induction X generalizing cs with
  | nil => exact rowZ_lin r a k cs (dZ Y)
  | cons x X ih =>
    show rowZ x cs (dZ (X ++ _ :: Y)) = rowZ x cs (dZ (X ++ r :: Y)) + k * rowZ x cs (dZ (X ++ a :: Y))
    rw [← rowZ_lin2]
    congr 1
    funext rest
    exact ih rest
theorem dZ_front (X Y : List (Nat → Int)) (a : Nat → Int) (cs : List Nat) : dZ (X ++ a :: Y) cs = sgZ X.length * dZ (a :: (X ++ Y)) cs := by
  induction X generalizing cs with
  | nil => show _ = 1 * _; rw [Int.one_mul]; rfl
  | cons x X ih =>
    have e : dZ (X ++ a :: Y) = fun rest => sgZ X.length * rowZ a rest (dZ (X ++ Y)) := funext fun rest => ih rest
    show rowZ x cs (dZ (X ++ a :: Y)) = -sgZ X.length * rowZ a cs (fun rest => rowZ x rest (dZ (X ++ Y)))
    rw [e, rowZ_mul, rowZ_swap, Int.mul_neg, Int.neg_mul]
theorem abs_sg (n : Nat) (x : Int) : (sgZ n * x).natAbs = x.natAbs := by rcases sgZ_two n with q | q <;> rw [q] <;> omega
theorem dZ_same (X Y : List (Nat → Int)) (a : Nat → Int) (cs : List Nat) : dZ (a :: (X ++ a :: Y)) cs = 0 := by
  have e : dZ (X ++ a :: Y) = fun rest => sgZ X.length * rowZ a rest (dZ (X ++ Y)) := funext fun rest => dZ_front X Y a rest
  show rowZ a cs (dZ (X ++ a :: Y)) = 0
  rw [e, rowZ_mul, rowZ_twice, Int.mul_zero]
theorem rowZ_nil (a : Nat → Int) : ∀ cs : List Nat, rowZ a cs (fun _ => 0) = 0
  | [] => rfl
  | c :: cs => by show a c * 0 - rowZ a cs (fun _ => 0) = 0; rw [rowZ_nil a cs]; omega
/-- Columns. -/
theorem rowZ_trade (a : Nat → Int) (c d : Nat) (z : List Nat) : ∀ (x : List Nat) (h : List Nat → Int), (∀ x z, h (x ++ c :: d :: z) = -h (x ++ d :: c :: z)) → rowZ a (x ++ c :: d :: z) h = -rowZ a (x ++ d :: c :: z) h
  | [], h, hh => by
    have e : rowZ a z (fun rest => h (c :: d :: rest)) + rowZ a z (fun rest => h (d :: c :: rest)) = 0 := by
      have e1 := rowZ_lin2 a 1 z (fun rest => h (c :: d :: rest)) (fun rest => h (d :: c :: rest))
      rw [show (fun rest => h (c :: d :: rest) + 1 * h (d :: c :: rest)) = fun _ => (0 : Int) from funext fun rest => by
        have := hh [] rest
        simp only [List.nil_append] at this
        omega, rowZ_nil] at e1
      omega
    show a c * h (d :: z) - (a d * h (c :: z) - rowZ a z (fun rest => h (c :: d :: rest))) = -(a d * h (c :: z) - (a c * h (d :: z) - rowZ a z (fun rest => h (d :: c :: rest))))
    omega
  | y :: x, h, hh => by
    show a y * h (x ++ c :: d :: z) - rowZ a (x ++ c :: d :: z) (fun rest => h (y :: rest)) = -(a y * h (x ++ d :: c :: z) - rowZ a (x ++ d :: c :: z) (fun rest => h (y :: rest)))
    rw [rowZ_trade a c d z x (fun rest => h (y :: rest)) (fun x' z' => hh (y :: x') z'), hh x z, Int.mul_neg]
    omega
theorem dZ_trade (c d : Nat) : ∀ (R : List (Nat → Int)) (x z : List Nat), dZ R (x ++ c :: d :: z) = -dZ R (x ++ d :: c :: z)
  | [], x, z => by
    show (if x ++ c :: d :: z = [] then (1 : Int) else 0) = -(if x ++ d :: c :: z = [] then (1 : Int) else 0)
    rw [if_neg (by simp), if_neg (by simp)]; rfl
  | r :: R, x, z => rowZ_trade r c d z x (dZ R) fun x z => dZ_trade c d R x z
theorem dZ_perm (R : List (Nat → Int)) {l l' : List Nat} (h : l.Perm l') : (dZ R l).natAbs = (dZ R l').natAbs := by
  have key : ∀ {l l' : List Nat}, l.Perm l' → ∀ x : List Nat, (dZ R (x ++ l)).natAbs = (dZ R (x ++ l')).natAbs := fun h => by
    induction h with
    | nil => intro x; rfl
    | cons c _ ih =>
      intro x
      have := ih (x ++ [c])
      simpa using this
    | swap c d l =>
      intro x
      rw [dZ_trade, Int.natAbs_neg]
    | trans _ _ ih1 ih2 => intro x; rw [ih1 x, ih2 x]
  exact key h []
theorem dZ_dup (R : List (Nat → Int)) (c : Nat) (l : List Nat) (h : c ∈ l) : dZ R (c :: l) = 0 := by
  obtain ⟨x, y, rfl⟩ := List.append_of_mem h
  have hp : (c :: (x ++ c :: y)).Perm (c :: c :: (x ++ y)) := List.Perm.cons c List.perm_middle
  have h1 := dZ_perm R hp
  have h2 := dZ_trade c c R [] (x ++ y)
  simp only [List.nil_append] at h2
  omega
end Go.Proofs.Ytlcogbcpmneknaa
/- Tables of numbers that a call owns. -/
namespace Go.Proofs.Ytlcogbcpmneknaa
open Go.RowKit

/-- The cells of a table's outer slice, its first k rows being laid. -/
def outC0 (m : Nat) (gs : Nat → Nat) (k : Nat) : List Value := (List.range m).map fun i => if i < k then .slice (some ⟨gs i, 0, none⟩) m m else .slice none 0 0
theorem outC0_len (m : Nat) (gs : Nat → Nat) (k : Nat) : (outC0 m gs k).length = m := by simp [outC0]
theorem outC0_get (m : Nat) (gs : Nat → Nat) (k i : Nat) (h : i < m) : (outC0 m gs k)[i]? = some (if i < k then .slice (some ⟨gs i, 0, none⟩) m m else .slice none 0 0) := by simp [outC0, h]
/-- A table of numbers, m by m, that a call owns: its first k rows. -/
structure TabAt (B gt m : Nat) (gs : Nat → Nat) (k : Nat) (T : Nat → Nat → Int) (W : World) : Prop where
  outer : W.ownsRow B 41 1 (.slice (some ⟨gt, 0, none⟩) m m) m (outC0 m gs k)
  rows : ∀ i, i < k → W.ownsRow B 3 1 (.slice (some ⟨gs i, 0, none⟩) m m) m (intsV (mapI m (T i)))
  inj : ∀ i j, i < k → j < k → gs i = gs j → i = j
theorem TabAt.any {B gt m k : Nat} {gs : Nat → Nat} {T : Nat → Nat → Int} {W W' : World} (h : TabAt B gt m gs k T W) (hg : W.grownBy W' none) : TabAt B gt m gs k T W' :=
  ⟨own_any h.outer hg, fun i hi => own_any (h.rows i hi) hg, h.inj⟩
theorem TabAt.cellO {B gt m k : Nat} {gs : Nat → Nat} {T : Nat → Nat → Int} {W : World} (h : TabAt B gt m gs k T W) (i : Nat) (hi : i < k) (hm : i < m) : W.cell? ⟨gt, i, none⟩ = some (.slice (some ⟨gs i, 0, none⟩) m m) := by
  rw [h.outer.cellAt i (by omega), outC0_get m gs k i hm, if_pos hi]
theorem TabAt.cellR {B gt m k : Nat} {gs : Nat → Nat} {T : Nat → Nat → Int} {W : World} (h : TabAt B gt m gs k T W) (i j : Nat) (hi : i < k) (hj : j < m) : W.cell? ⟨gs i, j, none⟩ = some (.int .i64 (T i j)) := by
  rw [(h.rows i hi).cellAt j (by omega), intsV_get _ j (by rw [mapI_len]; exact hj), mapI_at _ _ _ hj]
theorem TabAt.set {B gt m k : Nat} {gs : Nat → Nat} {T T' : Nat → Nat → Int} {W : World} (h : TabAt B gt m gs k T W) (i j : Nat) (x : Int) (hi : i < k) (hT : ∀ a b, a < k → b < m → T' a b = if a = i ∧ b = j then x else T a b) : TabAt B gt m gs k T' (W.setCell ⟨gs i, j, none⟩ (.int .i64 x)) ∧ W.grownBy (W.setCell ⟨gs i, j, none⟩ (.int .i64 x)) (some (gs i)) := by
  have hst := (h.rows i hi).stored j (.int .i64 x)
  rw [intsV_set] at hst
  refine ⟨⟨h.outer.kept hst.2 (own_ne h.outer (h.rows i hi) (by decide)), fun a ha => ?_, h.inj⟩, hst.2⟩
  by_cases e : a = i
  · subst e
    rw [mapI_set m (T a) (T' a) j x (fun b hb => by rw [hT a b ha hb]; by_cases e : b = j <;> simp [e])] at hst
    exact hst.1
  · have hr := (h.rows a ha).kept hst.2 (Or.inr (fun q => e (h.inj a i ha hi (Option.some.inj q))))
    rw [mapI_congr m (T' a) (T a) (fun b hb => by rw [hT a b ha hb, if_neg (fun q => e q.1)])]
    exact hr
/-- A row more. -/
theorem TabAt.more {B gt m k g : Nat} {gs : Nat → Nat} {T : Nat → Nat → Int} {W W1 : World} (h : TabAt B gt m gs k T W) (hg : W.grownBy W1 none) (hrow : W1.ownsRow B 3 1 (.slice (some ⟨g, 0, none⟩) m m) m (intsV (mapI m (T k)))) (hnew : W.heap.size ≤ g) :
    TabAt B gt m (fun i => if i = k then g else gs i) (k + 1) T (W1.setCell ⟨gt, k, none⟩ (.slice (some ⟨g, 0, none⟩) m m)) ∧ W1.grownBy (W1.setCell ⟨gt, k, none⟩ (.slice (some ⟨g, 0, none⟩) m m)) (some gt) := by
  have h1 := h.any hg
  have hst := h1.outer.stored k (.slice (some ⟨g, 0, none⟩) m m)
  have hlt : ∀ i, i < k → gs i < g := fun i hi => by have := ((h.rows i hi).lt (gs i) rfl).2; omega
  refine ⟨⟨?_, fun i hi => ?_, fun i j hi hj e => ?_⟩, hst.2⟩
  · have e : (outC0 m gs k).set k (.slice (some ⟨g, 0, none⟩) m m) = outC0 m (fun i => if i = k then g else gs i) (k + 1) := by
      apply List.ext_getElem?
      intro j
      by_cases hj : j < m
      · rw [outC0_get _ _ _ _ hj, List.getElem?_set, outC0_len]
        by_cases e : k = j
        · subst e; simp [hj]
        · rw [if_neg e, outC0_get _ _ _ _ hj]
          by_cases h2 : j < k
          · rw [if_pos h2, if_pos (by omega), if_neg (by omega)]
          · rw [if_neg h2, if_neg (by omega)]
      · rw [List.getElem?_eq_none (by simp [outC0_len]; omega), List.getElem?_eq_none (by simp [outC0_len]; omega)]
    rw [← e]
    exact hst.1
  · by_cases e : i = k
    · subst e
      simp only [if_true]
      exact hrow.kept hst.2 (own_ne hrow h1.outer (by decide))
    · simp only [if_neg e]
      have hr := h1.rows i (by omega)
      exact hr.kept hst.2 (own_ne hr h1.outer (by decide))
  · have e : (if i = k then g else gs i) = (if j = k then g else gs j) := e
    by_cases e1 : i = k
    · by_cases e2 : j = k
      · omega
      · rw [if_pos e1, if_neg e2] at e
        have := hlt j (by omega)
        omega
    · by_cases e2 : j = k
      · rw [if_neg e1, if_pos e2] at e
        have := hlt i (by omega)
        omega
      · rw [if_neg e1, if_neg e2] at e
        exact h.inj i j (by omega) (by omega) e
theorem made_nils (n : Nat) : (madeCells (Value.slice none 0 0).cells (n * 1)).toList = outC0 n (fun _ => 0) 0 := by
  have e : (Value.slice none 0 0).cells = #[Value.slice none 0 0] := rfl
  rw [e, toList_madeCells_one, Nat.mul_one]
  apply List.ext_getElem?
  intro j
  by_cases hj : j < n
  · rw [outC0_get _ _ _ _ hj, if_neg (by omega)]; simp [hj]
  · rw [List.getElem?_eq_none (by simp; omega), List.getElem?_eq_none (by simp [outC0_len]; omega)]
theorem TabAt.congr {B gt m k : Nat} {gs : Nat → Nat} {T T' : Nat → Nat → Int} {W : World} (h : TabAt B gt m gs k T W) (e : ∀ x y, x < k → y < m → T' x y = T x y) : TabAt B gt m gs k T' W :=
  ⟨h.outer, fun i hi => by rw [mapI_congr m (T' i) (T i) (fun y hy => e i y hi hy)]; exact h.rows i hi, h.inj⟩
theorem TabAt.low {B B' gt m k : Nat} {gs : Nat → Nat} {T : Nat → Nat → Int} {W : World} (h : TabAt B gt m gs k T W) (hB : B' ≤ B) : TabAt B' gt m gs k T W :=
  ⟨own_low h.outer hB, fun i hi => own_low (h.rows i hi) hB, h.inj⟩
end Go.Proofs.Ytlcogbcpmneknaa

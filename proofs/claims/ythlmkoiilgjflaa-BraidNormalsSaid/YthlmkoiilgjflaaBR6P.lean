/- Several texts of the proof, one behind the other. -/
import Derived.Test.YthlmkoiilgjflaaGB1P
/- Texts: the walks of braid.reciprocal and braid.product. -/
namespace Go.Proofs.Ythlmkoiilgjflaa
open Go.RowKit

/-- The last k places of the reciprocal. -/
def rcTo (l : List Int) (k i : Nat) : Int := if l.length ≤ i + k then -l.getD (l.length - 1 - i) 0 else 0
theorem rcTo_zero (l : List Int) : List.replicate l.length 0 = mapI l.length (rcTo l 0) := (mapI_zero _ _ (fun j hj => by unfold rcTo; rw [if_neg (by omega)])).symm
theorem rcTo_next (l : List Int) (k : Nat) (h : k < l.length) : (mapI l.length (rcTo l k)).set (l.length - 1 - k) (-l.getD k 0) = mapI l.length (rcTo l (k + 1)) := by
  refine mapI_set _ _ _ _ _ fun j hj => ?_
  unfold rcTo
  by_cases e : j = l.length - 1 - k
  · rw [if_pos (by omega), if_pos e, show l.length - 1 - j = k by omega]
  · rw [if_neg e]
    by_cases q : l.length ≤ j + k
    · rw [if_pos q, if_pos (by omega)]
    · rw [if_neg q, if_neg (by omega)]
theorem rcTo_all (l : List Int) : mapI l.length (rcTo l l.length) = rc l := mapI_congr _ _ _ fun j _ => by unfold rcTo; rw [if_pos (by omega)]
theorem own_shrink {W : World} {B e n m g cap : Nat} {xs : List Value} (h : W.ownsRow B e 1 (.slice (some ⟨g, 0, none⟩) n cap) n xs) (hm : m ≤ n) : W.ownsRow B e 1 (.slice (some ⟨g, 0, none⟩) m cap) m (xs.take m) := by
  obtain ⟨h1, h2⟩ := h
  refine ⟨by rw [List.length_take]; omega, ?_⟩
  rcases h2 with ⟨h3, -⟩ | ⟨g', cap', cur, h3, h4, h5, h6, h7, h8, h9⟩
  · cases h3
  · injection h3 with e1 e2 e3
    injection e1 with e1
    injection e1 with e1
    subst e1 e3
    refine Or.inr ⟨g, cap, cur, rfl, h4, h5, by omega, h7, h8, ?_⟩
    rw [← h9, List.take_take, Nat.mul_one, Nat.mul_one, Nat.min_eq_left hm]
theorem own_cap {W : World} {B e n g cap : Nat} {xs : List Value} (h : W.ownsRow B e 1 (.slice (some ⟨g, 0, none⟩) n cap) n xs) : n ≤ cap ∧ cap ≤ maxLen := by
  rcases h.2 with ⟨h3, -⟩ | ⟨g', cap', cur, h3, h4, h5, h6, h7, h8, h9⟩
  · cases h3
  · injection h3 with e1 e2 e3
    subst e3
    exact ⟨h6, h7⟩

/-- Texts, one behind the other. -/
def prT (L : List (List Int)) (i : Nat) : List Int := (L.take i).foldl gl []
theorem prT_next (L : List (List Int)) (i : Nat) (h : i < L.length) : prT L (i + 1) = gl (prT L i) (L.getD i []) := by
  unfold prT
  rw [List.take_succ_eq_append_getElem h, List.foldl_append, List.getD_eq_getElem?_getD, List.getElem?_eq_getElem h]
  rfl
/-- The lengths' sum. -/
def lnT (L : List (List Int)) (i : Nat) : Nat := ((L.take i).map List.length).sum
theorem lnT_next (L : List (List Int)) (i : Nat) (h : i < L.length) : lnT L (i + 1) = lnT L i + (L.getD i []).length := by
  unfold lnT
  rw [List.take_succ_eq_append_getElem h, List.map_append, List.sum_append, List.getD_eq_getElem?_getD, List.getElem?_eq_getElem h]
  simp
theorem prT_len (L : List (List Int)) (i : Nat) (hi : i ≤ L.length) : (prT L i).length ≤ lnT L i := by
  induction i with
  | zero => simp [prT, lnT]
  | succ i ih =>
    rw [prT_next L i (by omega), lnT_next L i (by omega)]
    have h1 := gl_len (prT L i) (L.getD i [])
    have h2 := ih (by omega)
    omega
theorem lnT_le (L : List (List Int)) (M : Nat) (h : ∀ j, (L.getD j []).length ≤ M) (i : Nat) (hi : i ≤ L.length) : lnT L i ≤ i * M := by
  induction i with
  | zero => simp [lnT]
  | succ i ih =>
    rw [lnT_next L i (by omega), Nat.add_mul, Nat.one_mul]
    have h1 := h i
    have h2 := ih (by omega)
    omega
theorem intsV_take (l : List Int) (k : Nat) : (intsV l).take k = intsV (l.take k) := by simp [intsV, List.map_take]
/-- A row that append has grown. -/
theorem push_row {w W1 w8 : World} {B : Nat} {v v8 : Value} {l : List Int} {n : Nat} {x : Int} {e : TypeId} (hs : B ≤ W1.heap.size) (hb : Below B w W1) (hO : W1.ownsRow B 3 1 v n (intsV l)) (hown : w8.ownsRow B 3 1 v8 (n + 1) (intsV l ++ [.int .i64 x])) (hg : (W1.alloc (.cells #[.int .i64 x] e)).grownBy w8 v.ownBlock) :
    w8.ownsRow B 3 1 v8 (n + 1) (intsV (l ++ [x])) ∧ Below B w w8 := by
  refine ⟨?_, (hb.alloc hs _).grown hg (by simp; omega) (fun q hq => (hO.lt q hq).1)⟩
  have e : intsV (l ++ [x]) = intsV l ++ [.int .i64 x] := by simp [intsV]
  rw [e]
  exact hown
theorem new_one (W : World) (x : Value) (e : TypeId) : ∀ j u, [x][j]? = some u → (W.alloc (.cells #[x] e)).cell? ((⟨W.heap.size, 0, none⟩ : Addr).add j) = some u := by
  intro j u hj
  rw [Addr.add_lit, Nat.zero_add]
  have hh : (W.alloc (.cells #[x] e)).heap[W.heap.size]? = some (.cells #[x] e (0, 0)) := Array.getElem?_push_size
  match j, hj with
  | 0, hj => simp at hj; subst hj; exact block_cell hh rfl
end Go.Proofs.Ythlmkoiilgjflaa
/- Texts: the walk of braid.product. -/
namespace Go.Proofs.Ythlmkoiilgjflaa
open Go.RowKit

theorem one_intB (x : Int) : ∀ u ∈ [Value.int .i64 x], u.oneCell' = true := by
  intro u hu
  simp only [List.mem_singleton] at hu
  subst hu
  rfl
theorem push_none {O : List Int} {x : Int} (h : ¬ (0 < O.length ∧ O.getD (O.length - 1) 0 = -x)) : push O x = O ++ [x] := by unfold push; rw [if_neg h]
theorem push_some {O : List Int} {x : Int} (h : 0 < O.length ∧ O.getD (O.length - 1) 0 = -x) : push O x = O.take (O.length - 1) := by unfold push; rw [if_pos h]

end Go.Proofs.Ythlmkoiilgjflaa

/- A form of a braid in memory. -/
import Derived.Test.YthlmkoiilgjflaaGB2P
import Derived.Test.YthlmkoiilgjflaaGA4
import Derived.Test.YthlmkoiilgjflaaTkh
namespace Go.Proofs.Ythlmkoiilgjflaa
open Go.RowKit

/-- A list of numbers to be read, in a block of numbers. -/
def RdT (W : World) (v : Value) (n : Nat) (xs : List Value) : Prop := ∃ a c, v = .slice a n c ∧ (a = none → c = 0) ∧ (0 < n → ∃ b off, a = some ⟨b, off, none⟩ ∧ b < W.heap.size ∧ (∃ cs fz, W.heap[b]? = some (.cells cs 3 fz)) ∧ ∀ j, j < n → W.cell? ⟨b, off + j, none⟩ = xs[j]?)
/-- What is written lies in no block of numbers. -/
def NoInt (W : World) (r : Option Nat) : Prop := ∀ q, r = some q → ∃ cs t fz, W.heap[q]? = some (.cells cs t fz) ∧ t ≠ 3
theorem noInt_at {W : World} {q : Nat} {cs : Array Value} {t : TypeId} {fz : Nat × Nat} (h : W.heap[q]? = some (.cells cs t fz)) (ht : t ≠ 3) : NoInt W (some q) := fun q' hq => by
  obtain rfl : q = q' := Option.some.inj hq
  exact ⟨cs, t, fz, h, ht⟩
theorem noInt_none (W : World) : NoInt W none := fun q h => by cases h
theorem RdT.grow {W W' : World} {v : Value} {n : Nat} {xs : List Value} {r : Option Nat} (h : RdT W v n xs) (hg : W.grownBy W' r) (hr : NoInt W r) : RdT W' v n xs := by
  obtain ⟨a, c, rfl, h0, f⟩ := h
  refine ⟨a, c, rfl, h0, fun h0 => ?_⟩
  obtain ⟨b, off, rfl, h1, ⟨cs, fz, h4⟩, h3⟩ := f h0
  have hb := hg.block b h1 (fun e => by
    obtain ⟨cs', t, fz', h5, h6⟩ := hr b e.symm
    rw [h4] at h5
    injection h5 with h5
    injection h5 with h7 h8
    exact h6 h8.symm)
  refine ⟨b, off, rfl, Nat.lt_of_lt_of_le h1 hg.size, ⟨cs, fz, hb.trans h4⟩, fun j hj => ?_⟩
  rw [← h3 j hj]
  unfold World.cell?
  simp only []
  rw [hb]
theorem RdT.rd {W : World} {v : Value} {n : Nat} {xs : List Value} (h : RdT W v n xs) : RdAt W W.heap.size 1 v n xs := by
  obtain ⟨a, c, rfl, -, f⟩ := h
  refine ⟨a, c, rfl, fun h0 => ?_⟩
  obtain ⟨b, off, rfl, h1, -, h3⟩ := f h0
  exact ⟨b, off, rfl, h1, fun j hj => h3 j (by omega)⟩
theorem RdT.of_own {W : World} {B n : Nat} {v : Value} {xs : List Value} (h : W.ownsRow B 3 1 v n xs) : RdT W v n xs := by
  have h0 := h
  rcases h.2 with ⟨rfl, h1⟩ | ⟨q, cap, cur, rfl, hB, hq, _⟩
  · exact ⟨none, 0, by rw [h1], fun _ => rfl, fun hp => by omega⟩
  · exact ⟨some ⟨q, 0, none⟩, cap, rfl, (fun e => by cases e), fun _ => ⟨q, 0, rfl, (h0.lt q rfl).2, ⟨_, _, hq⟩, fun j hj => by rw [Nat.zero_add]; exact h0.cellAt j (by omega)⟩⟩
theorem row_blockF {W : World} {B e s n g cap : Nat} {xs : List Value} (h : W.ownsRow B e s (.slice (some ⟨g, 0, none⟩) n cap) n xs) : ∃ cs, W.heap[g]? = some (.cells cs e (0, 0)) := by
  rcases h.2 with ⟨h1, _⟩ | ⟨g', cap', cur, h1, _, hg, _⟩
  · cases h1
  · injection h1 with e1
    injection e1 with e1
    injection e1 with e1
    subst e1
    exact ⟨_, hg⟩
theorem own_noInt {W : World} {B s n : Nat} {v : Value} {xs : List Value} (h : W.ownsRow B 22 s v n xs) : NoInt W v.ownBlock := by
  intro q hq
  rcases h.2 with ⟨rfl, _⟩ | ⟨g', cap', cur, rfl, _, hg, _⟩
  · cases hq
  · have e : g' = q := Option.some.inj hq
    subst e
    exact ⟨_, _, _, hg, by decide⟩

/-- A form: its box, and the row of its permutations. -/
structure FmAt (W : World) (B hb n : Nat) (p : Int) (a : Option Addr) (cap : Nat) (X : List (List Nat)) : Prop where
  box : W.heap[hb]? = some (.cells #[.int .i64 (n : Nat), .int .i64 p, .slice a X.length cap] 33 (0, 0))
  own : ∃ ys : List Value, W.ownsRow B 22 1 (.slice a X.length cap) X.length ys ∧ ∀ j, j < X.length → RdT W (ys.getD j (.bool false)) n (intsV (eI n (X.getD j [])))
  lt : hb < B
  le : B ≤ W.heap.size
theorem FmAt.boxlt {W : World} {B hb n : Nat} {p : Int} {a : Option Addr} {cap : Nat} {X : List (List Nat)} (h : FmAt W B hb n p a cap X) : hb < W.heap.size := Nat.lt_of_lt_of_le h.lt h.le
theorem FmAt.any {W W' : World} {B hb n : Nat} {p : Int} {a : Option Addr} {cap : Nat} {X : List (List Nat)} (h : FmAt W B hb n p a cap X) (hg : W.grownBy W' none) : FmAt W' B hb n p a cap X := by
  obtain ⟨ys, h1, h2⟩ := h.own
  exact ⟨(hg.block hb h.boxlt (by simp)).trans h.box, ⟨ys, own_any h1 hg, fun j hj => (h2 j hj).grow hg (noInt_none _)⟩, h.lt, Nat.le_trans h.le hg.size⟩
theorem FmAt.row {W : World} {B hb n : Nat} {p : Int} {a : Option Addr} {cap : Nat} {X : List (List Nat)} (h : FmAt W B hb n p a cap X) {k : Nat} (hk : k < X.length) :
    ∃ g, a = some ⟨g, 0, none⟩ ∧ B ≤ g ∧ g < W.heap.size ∧ (∀ j, W.frozen? ⟨g, j, none⟩ = false) ∧ ∀ j, j < X.length → ∃ a2 c2, W.cell? ⟨g, j, none⟩ = some (.slice a2 n c2) ∧ RdAt W W.heap.size 1 (.slice a2 n c2) n (intsV (eI n (X.getD j []))) := by
  obtain ⟨ys, h1, h2⟩ := h.own
  obtain ⟨g, c, e, hB, hg⟩ := own_block h1 (by omega)
  injection e with e1 e2 e3
  subst e1 e3
  refine ⟨g, rfl, hB, hg, fun j => h1.frozenAt j, fun j hj => ?_⟩
  have hr := h2 j hj
  obtain ⟨a2, c2, e, -⟩ := hr
  have hr := (h2 j hj).rd
  rw [e] at hr
  refine ⟨a2, c2, ?_, hr⟩
  rw [h1.cellAt j (by omega), ← e]
  have hl : j < ys.length := by rw [h1.1]; omega
  simp [List.getD, hl]
theorem FmAt.set1 {W : World} {B hb n g : Nat} {p : Int} {cap : Nat} {X : List (List Nat)} (h : FmAt W B hb n p (some ⟨g, 0, none⟩) cap X) {k : Nat} (hk : k < X.length) {v : Value} {r : List Nat} (hr : RdT W v n (intsV (eI n r))) :
    FmAt (W.setCell ⟨g, k, none⟩ v) B hb n p (some ⟨g, 0, none⟩) cap (X.set k r) ∧ W.grownBy (W.setCell ⟨g, k, none⟩ v) (some g) := by
  obtain ⟨ys, h1, h2⟩ := h.own
  have hst := h1.stored k v
  have hl : k < ys.length := by rw [h1.1]; omega
  have hgB := (h1.lt g rfl).1
  have hni : NoInt W (some g) := own_noInt h1
  refine ⟨⟨?_, ⟨ys.set k v, by rw [List.length_set]; exact hst.1, fun j hj => ?_⟩, h.lt, Nat.le_trans h.le hst.2.size⟩, hst.2⟩
  · rw [List.length_set]
    exact (hst.2.block hb h.boxlt (fun e => by have h3 := Option.some.inj e; have := h.lt; omega)).trans h.box
  · rw [List.length_set] at hj
    rw [getD_setV _ _ _ _ hl]
    by_cases e : j = k
    · have e1 : (X.set k r).getD k [] = r := by rw [List.getD_eq_getElem?_getD, List.getElem?_set, if_pos rfl, if_pos hk]; rfl
      rw [if_pos e, e, e1]
      exact hr.grow hst.2 hni
    · have e1 : (X.set k r).getD j [] = X.getD j [] := by rw [List.getD_eq_getElem?_getD, List.getElem?_set, if_neg (fun q => e q.symm), ← List.getD_eq_getElem?_getD]
      rw [if_neg e, e1]
      exact (h2 j hj).grow hst.2 hni
theorem FmAt.setP {W : World} {B hb n : Nat} {p : Int} {a : Option Addr} {cap : Nat} {X : List (List Nat)} (h : FmAt W B hb n p a cap X) (p' : Int) :
    FmAt (W.setCell ⟨hb, 1, none⟩ (.int .i64 p')) B hb n p' a cap X ∧ W.grownBy (W.setCell ⟨hb, 1, none⟩ (.int .i64 p')) (some hb) := by
  obtain ⟨ys, h1, h2⟩ := h.own
  have hg := set_grown W hb 1 (.int .i64 p')
  have hni : NoInt W (some hb) := noInt_at h.box (by decide)
  refine ⟨⟨by rw [set_block h.box]; rfl, ⟨ys, h1.kept hg ?_, fun j hj => (h2 j hj).grow hg hni⟩, h.lt, Nat.le_trans h.le hg.size⟩, hg⟩
  cases e : (Value.slice a X.length cap).ownBlock with
  | none => exact Or.inl rfl
  | some q => exact Or.inr (fun e2 => by have h3 := h1.lt q e; have h4 := h.lt; have h5 : q = hb := Option.some.inj e2; omega)
theorem FmAt.cells {W : World} {B hb n : Nat} {p : Int} {a : Option Addr} {cap : Nat} {X : List (List Nat)} (h : FmAt W B hb n p a cap X) : W.cell? ⟨hb, 0, none⟩ = some (.int .i64 (n : Nat)) ∧ W.cell? ⟨hb, 1, none⟩ = some (.int .i64 p) ∧ W.cell? ⟨hb, 2, none⟩ = some (.slice a X.length cap) ∧ W.frozen? ⟨hb, 1, none⟩ = false ∧ W.frozen? ⟨hb, 2, none⟩ = false :=
  ⟨block_cell h.box rfl, block_cell h.box rfl, block_cell h.box rfl, block_frozen h.box, block_frozen h.box⟩
/-- One more behind all others. -/
theorem FmAt.push {W w8 : World} {B hb n : Nat} {p : Int} {a : Option Addr} {cap : Nat} {X : List (List Nat)} {ys : List Value} {v v8 : Value} {r : List Nat} (h : FmAt W B hb n p a cap X) (hy : W.ownsRow B 22 1 (.slice a X.length cap) X.length ys) (hz : ∀ j, j < X.length → RdT W (ys.getD j (.bool false)) n (intsV (eI n (X.getD j [])))) (hr : RdT W v n (intsV (eI n r)))
    (ho : w8.ownsRow B 22 1 v8 (X.length + 1) (ys ++ [v])) (hg : (W.alloc (.cells #[v] 22)).grownBy w8 (Value.slice a X.length cap).ownBlock) :
    ∃ a8 cap8, v8 = .slice a8 (X.length + 1) cap8 ∧ FmAt (w8.setCell ⟨hb, 2, none⟩ (.slice a8 (X.length + 1) cap8)) B hb n p a8 cap8 (X ++ [r]) ∧ w8.frozen? ⟨hb, 2, none⟩ = false ∧ hb < w8.heap.size ∧ (∃ u, w8.cell? ⟨hb, 2, none⟩ = some u) ∧ Below hb W (w8.setCell ⟨hb, 2, none⟩ (.slice a8 (X.length + 1) cap8)) := by
  obtain ⟨a8, cap8, rfl⟩ := own_capS ho
  have hA : W.grownBy (W.alloc (.cells #[v] 22)) none := World.grownBy_alloc _ _ _
  have hbx : (W.alloc (.cells #[v] 22)).heap[hb]? = _ := (hA.block hb h.boxlt (by simp)).trans h.box
  have hni : NoInt (W.alloc (.cells #[v] 22)) (Value.slice a X.length cap).ownBlock := own_noInt (own_any hy hA)
  have hnb : some hb ≠ (Value.slice a X.length cap).ownBlock := fun e => by have h3 := hy.lt hb e.symm; have := h.lt; omega
  have hl2 : hb < (W.alloc (.cells #[v] 22)).heap.size := by have := h.boxlt; simp; omega
  have hb8 := (hg.block hb hl2 hnb).trans hbx
  have hs := set_grown w8 hb 2 (.slice a8 (X.length + 1) cap8)
  have hni2 : NoInt w8 (some hb) := noInt_at hb8 (by decide)
  have hlen : ys.length = X.length := by rw [hy.1, Nat.mul_one]
  refine ⟨a8, cap8, rfl, ⟨?_, ⟨ys ++ [v], ?_, fun j hj => ?_⟩, h.lt, ?_⟩, block_frozen hb8, Nat.lt_of_lt_of_le hl2 hg.size, ⟨_, block_cell hb8 rfl⟩, ?_⟩
  · rw [set_block hb8, List.length_append, List.length_singleton]; rfl
  · rw [List.length_append, List.length_singleton]
    refine ho.kept hs ?_
    cases e : (Value.slice a8 (X.length + 1) cap8).ownBlock with
    | none => exact Or.inl rfl
    | some q => exact Or.inr (fun e2 => by have h3 := ho.lt q e; have h4 := h.lt; have h5 : q = hb := Option.some.inj e2; omega)
  · rw [List.length_append, List.length_singleton] at hj
    by_cases e : j < X.length
    · rw [List.getD_eq_getElem?_getD, List.getElem?_append_left (by omega), ← List.getD_eq_getElem?_getD, List.getD_eq_getElem?_getD (l := X ++ [r]), List.getElem?_append_left e, ← List.getD_eq_getElem?_getD]
      exact (((hz j e).grow hA (noInt_none _)).grow hg hni).grow hs hni2
    · obtain rfl : j = X.length := by omega
      rw [List.getD_eq_getElem?_getD, List.getElem?_append_right (by omega), List.getD_eq_getElem?_getD (l := X ++ [r]), List.getElem?_append_right (by omega), hlen, Nat.sub_self]
      exact ((hr.grow hA (noInt_none _)).grow hg hni).grow hs hni2
  · have h1 := h.le
    have h2 := hA.size
    have h3 := hg.size
    have h4 := hs.size
    omega
  · have e1 : Below hb W (W.alloc (.cells #[v] 22)) := (Below.refl _ _).alloc (Nat.le_of_lt h.boxlt) _
    have e2 : Below hb W w8 := e1.grown hg (by omega) (fun k hk => by have h3 := hy.lt k hk; have := h.lt; omega)
    exact e2.grown hs (by have := e2.size; have := h.boxlt; omega) (fun k hk => by have := Option.some.inj hk; omega)
theorem FmAt.ints {W : World} {B hb n : Nat} {p : Int} {a : Option Addr} {cap : Nat} {X : List (List Nat)} (h : FmAt W B hb n p a cap X) : IntsRd W W.heap.size (.slice a X.length cap) (X.map (eI n)) := by
  obtain ⟨ys, h1, h2⟩ := h.own
  refine ⟨ys, by rw [h1.1, List.length_map, Nat.mul_one], by rw [List.length_map]; exact own_rd h1, fun j hj => ?_⟩
  rw [List.length_map] at hj
  have e : (X.map (eI n)).getD j [] = eI n (X.getD j []) := by simp [List.getD_eq_getElem?_getD, hj]
  rw [e, eI_len]
  exact (h2 j hj).rd
end Go.Proofs.Ythlmkoiilgjflaa

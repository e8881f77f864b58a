/- Slices as they are handed in, and copies of them. -/
import Derived.Test.YtdlmhcickcgnfaaBase
import Derived.Laws.AppendOwnNone
namespace Go.Proofs.Ytdlmhcickcgnfaa
open Go.RowKit

/-- A slice that is handed in: nil; with no element; or its cells lie there. -/
def InAt (w : World) (B size : Nat) (v : Value) (n : Nat) (xs : List Value) : Prop :=
  (v = .slice none 0 0 ∧ n = 0) ∨ (∃ ad cap, v = .slice (some ad) 0 cap ∧ n = 0) ∨ ∃ b off cap, v = .slice (some ⟨b, off, none⟩) n cap ∧ b < B ∧ ∀ j, j < n * size → w.cell? ⟨b, off + j, none⟩ = xs[j]?
theorem InAt.on {w w' : World} {B size n : Nat} {v : Value} {xs : List Value} (h : InAt w B size v n xs) (hb : Below B w w') : InAt w' B size v n xs := by
  rcases h with h | h | ⟨b, off, cap, rfl, hlt, hc⟩
  · exact Or.inl h
  · exact Or.inr (Or.inl h)
  · exact Or.inr (Or.inr ⟨b, off, cap, rfl, hlt, fun j hj => bcell hb hlt (hc j hj)⟩)
/-- What a call owns lies there too. -/
theorem own_in {w : World} {B e size n : Nat} {v : Value} {xs : List Value} (h : w.ownsRow B e size v n xs) : InAt w w.heap.size size v n xs := by
  have h0 := h
  rcases h.2 with ⟨rfl, h1⟩ | ⟨g, cap, cur, rfl, _, _, _⟩
  · exact Or.inl ⟨rfl, h1⟩
  · exact Or.inr (Or.inr ⟨g, 0, cap, rfl, (h0.lt g rfl).2, fun j hj => by rw [Nat.zero_add]; exact h0.cellAt j hj⟩)
/-- append onto nil: a copy. -/
theorem wpList_append_copy {P : Program} {w : World} {ops : Array Oper} {rest : List Oper} {o : Oper} {a : Act} {Q : Exit → Act → World → Prop} (hgd : o.guard = none) (s x : Operand) (t : TypeId)
    (ho : o.op = .call { callee := .builtin .append, args := #[s, x], argTypes := #[t, t] })
    (base : Nat) (e : TypeId) (i : TypeInfo) (z : Value) (size bytes : Nat) (ht : P.underlying t = some (.slice e)) (hi : P.info? e = some i) (hz : i.zero = some z)
    (hsize : i.size = size) (hby : i.bytes = bytes) (hzs : z.cells.size = size) (hsz : 0 < size) (hs : a.eval s = .slice none 0 0)
    (v : Value) (B n : Nat) (xs : List Value) (hx : a.eval x = v) (hin : InAt w B size v n xs) (hl : xs.length = n * size) (h1 : ∀ u ∈ xs, u.oneCell' = true)
    (h63 : n ≤ maxLen) (hbytes : n * bytes ≤ 140737488355328) (hbase : base ≤ w.heap.size)
    (h : ∀ v' w', w'.ownsRow base e size v' n xs → w.grownBy w' none → wpList P ops Q rest (a.put o.dst v') w') : wpList P ops Q (o :: rest) a w := by
  rcases hin with ⟨rfl, rfl⟩ | ⟨ad, cap, rfl, rfl⟩ | ⟨b, off, cap, rfl, hlt, hc⟩
  · obtain rfl : xs = [] := List.length_eq_zero_iff.1 (by omega)
    exact wpList_append_own_none hgd s x t ho base e i size ht hi _ 0 [] hs (World.ownsRow_nil _ _ _ _) hx (h _ _ (World.ownsRow_nil _ _ _ _) (World.grownBy.refl _ _))
  · obtain rfl : xs = [] := List.length_eq_zero_iff.1 (by omega)
    exact wpList_append_own _ hgd s x t ho base e i z size bytes ht hi hz hsize hby hzs hsz _ 0 [] hs (World.ownsRow_nil _ _ _ _) ad 0 cap [] hx (by simp) (fun j u h => by simp at h) (fun u h => by simp at h) (by simp [maxLen]) (by simp) hbase
      fun v' w' g1 g2 _ => h v' w' g1 g2
  · refine wpList_append_own _ hgd s x t ho base e i z size bytes ht hi hz hsize hby hzs hsz _ 0 [] hs (World.ownsRow_nil _ _ _ _) ⟨b, off, none⟩ n cap xs hx hl (fun j u hj => ?_) h1 (by omega) (by rw [Nat.zero_add]; exact hbytes) hbase
      fun v' w' g1 g2 _ => h v' w' (by rw [Nat.zero_add, List.nil_append] at g1; exact g1) g2
    have hlt2 : j < xs.length := (List.getElem?_eq_some_iff.1 hj).1
    have := hc j (by omega)
    rw [hj] at this
    unfold Addr.add
    split
    · rename_i h0; subst h0; exact this
    · exact this
theorem InAt.up {w w' : World} {size n : Nat} {v : Value} {xs : List Value} (h : InAt w w.heap.size size v n xs) (hb : Below w.heap.size w w') : InAt w' w'.heap.size size v n xs := by
  rcases h.on hb with h | h | ⟨b, off, cap, e, hlt, hc⟩
  · exact Or.inl h
  · exact Or.inr (Or.inl h)
  · exact Or.inr (Or.inr ⟨b, off, cap, e, Nat.lt_of_lt_of_le hlt hb.size, hc⟩)
end Go.Proofs.Ytdlmhcickcgnfaa

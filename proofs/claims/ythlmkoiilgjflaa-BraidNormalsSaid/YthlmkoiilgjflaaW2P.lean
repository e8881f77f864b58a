/- Several texts of the proof, one behind the other. -/
import Derived.Test.YthlmkoiilgjflaaG7P
import Derived.Test.YthlmkoiilgjflaaBase
import Derived.Laws.AppendOwnNone
/- A drawing in a world; the walks of Drawing.Above, Drawing.Leaving and Drawing.Ahead. -/
namespace Go.Proofs.Ythlmkoiilgjflaa
open Go.RowKit

theorem alloc_at {w : World} {o : Obj} {k : Nat} (h : k = w.heap.size) : (w.alloc o).heap[k]? = some o := by
  rw [h]
  exact Array.getElem?_push_size
theorem alloc_old {w : World} {o p : Obj} {k : Nat} (h : w.heap[k]? = some p) : (w.alloc o).heap[k]? = some p := by
  have hk : k < w.heap.size := (Array.getElem?_eq_some_iff.1 h).1
  exact ((World.grownBy_alloc w o none).block k hk (by simp)).trans h
/-- A drawing of the crossings C in a world: its crossings, and its two lists of spots. -/
structure Dr (w : World) (a : Option Addr) (cap : Nat) (C : List Cr) (gF gT : Nat) : Prop where
  crs : Crs w w.heap.size (.slice a C.length cap) C
  ltF : gF < w.heap.size
  ltT : gT < w.heap.size
  from_ : TermsAt w gF 0 (ends C false C.length 0)
  to : TermsAt w gT 0 (ends C true C.length 0)
theorem Crs.on {w w' : World} {B : Nat} {v : Value} {C : List Cr} (h : Crs w B v C) (hb : Below B w w') : Crs w' B v C := by
  obtain ⟨a, cap, rfl, hn, g⟩ := h
  refine ⟨a, cap, rfl, hn, fun h0 => ?_⟩
  obtain ⟨b, off, rfl, hlt, hC⟩ := g h0
  exact ⟨b, off, rfl, hlt, hC.on hb hlt⟩
theorem Crs.mono {w : World} {B B' : Nat} {v : Value} {C : List Cr} (h : Crs w B v C) (hB : B ≤ B') : Crs w B' v C := by
  obtain ⟨a, cap, rfl, hn, g⟩ := h
  refine ⟨a, cap, rfl, hn, fun h0 => ?_⟩
  obtain ⟨b, off, rfl, hlt, hC⟩ := g h0
  exact ⟨b, off, rfl, Nat.lt_of_lt_of_le hlt hB, hC⟩
theorem Crs.up {w w' : World} {v : Value} {C : List Cr} (h : Crs w w.heap.size v C) (hb : Below w.heap.size w w') : Crs w' w'.heap.size v C := (h.on hb).mono hb.size
theorem Dr.on {w w' : World} {a : Option Addr} {cap : Nat} {C : List Cr} {gF gT : Nat} (h : Dr w a cap C gF gT) (hb : Below w.heap.size w w') : Dr w' a cap C gF gT :=
  ⟨h.crs.up hb, Nat.lt_of_lt_of_le h.ltF hb.size, Nat.lt_of_lt_of_le h.ltT hb.size, h.from_.on hb h.ltF, h.to.on hb h.ltT⟩
theorem Dr.cross {w : World} {a : Option Addr} {cap : Nat} {C : List Cr} {gF gT : Nat} (h : Dr w a cap C gF gT) (hp : 0 < C.length) : ∃ b off, a = some ⟨b, off, none⟩ ∧ b < w.heap.size ∧ CrossAt w b off C := by
  obtain ⟨a', cap', e, _, g⟩ := h.crs
  injection e with e1 e2 e3
  obtain ⟨b, off, h1, h2, h3⟩ := g hp
  exact ⟨b, off, by rw [e1, h1], h2, h3⟩
theorem Dr.toAt {w : World} {a : Option Addr} {cap : Nat} {C : List Cr} {gF gT : Nat} {loops : Int} (h : Dr w a cap C gF gT) (hm : mayD C loops = true) (x : Nat) (h1 : 1 ≤ x) (h2 : x ≤ 2 * C.length) :
    w.cell? ⟨gT, x * 2, none⟩ = some (.int .i64 (toC C x : Nat)) ∧ w.cell? ⟨gT, x * 2 + 1, none⟩ = some (.int .i64 (toS C x : Nat)) := by
  have hT := h.to x (by rw [ends_length]; omega)
  rw [ends_at C true C.length 0 x h1 h2, Nat.zero_add] at hT
  have e : endAh C x true C.length 0 = endTo C x true C.length := rfl
  rw [e, (to_may hm x h1 h2).1] at hT
  exact hT
/-- The drawing as a value. -/
def drV (a : Option Addr) (cap : Nat) (C : List Cr) (loops : Int) (gF cF gT cT : Nat) : Value := .agg #[.slice a C.length cap, .int .i64 loops, .slice (some ⟨gF, 0, none⟩) (2 * C.length + 1) cF, .slice (some ⟨gT, 0, none⟩) (2 * C.length + 1) cT]

end Go.Proofs.Ythlmkoiilgjflaa
/- Slices as they are handed in, and copies of them. -/
namespace Go.Proofs.Ythlmkoiilgjflaa
open Go.RowKit

/-- A slice that is handed in: nil; with no element; or its cells lie there. -/
def InAt (w : World) (B size : Nat) (v : Value) (n : Nat) (xs : List Value) : Prop :=
  (v = .slice none 0 0 ∧ n = 0) ∨ (∃ ad cap, v = .slice (some ad) 0 cap ∧ n = 0) ∨ ∃ b off cap, v = .slice (some ⟨b, off, none⟩) n cap ∧ b < B ∧ ∀ j, j < n * size → w.cell? ⟨b, off + j, none⟩ = xs[j]?
theorem InAt.on {w w' : World} {B size n : Nat} {v : Value} {xs : List Value} (h : InAt w B size v n xs) (hb : Below B w w') : InAt w' B size v n xs := by
  rcases h with h | h | ⟨b, off, cap, rfl, hlt, hc⟩
  · exact Or.inl h
  · exact Or.inr (Or.inl h)
  · exact Or.inr (Or.inr ⟨b, off, cap, rfl, hlt, fun j hj => bcell hb hlt (hc j hj)⟩)
/-- What a call owns lies there too. -/
theorem own_in {w : World} {B e size n : Nat} {v : Value} {xs : List Value} (h : w.ownsRow B e size v n xs) : InAt w w.heap.size size v n xs := by
  have h0 := h
  rcases h.2 with ⟨rfl, h1⟩ | ⟨g, cap, cur, rfl, _, _, _⟩
  · exact Or.inl ⟨rfl, h1⟩
  · exact Or.inr (Or.inr ⟨g, 0, cap, rfl, (h0.lt g rfl).2, fun j hj => by rw [Nat.zero_add]; exact h0.cellAt j hj⟩)
/-- append onto nil: a copy. -/
theorem wpList_append_copy {P : Program} {w : World} {ops : Array Oper} {rest : List Oper} {o : Oper} {a : Act} {Q : Exit → Act → World → Prop} (hgd : o.guard = none) (s x : Operand) (t : TypeId)
    (ho : o.op = .call { callee := .builtin .append, args := #[s, x], argTypes := #[t, t] })
    (base : Nat) (e : TypeId) (i : TypeInfo) (z : Value) (size bytes : Nat) (ht : P.underlying t = some (.slice e)) (hi : P.info? e = some i) (hz : i.zero = some z)
    (hsize : i.size = size) (hby : i.bytes = bytes) (hzs : z.cells.size = size) (hsz : 0 < size) (hs : a.eval s = .slice none 0 0)
    (v : Value) (B n : Nat) (xs : List Value) (hx : a.eval x = v) (hin : InAt w B size v n xs) (hl : xs.length = n * size) (h1 : ∀ u ∈ xs, u.oneCell' = true)
    (h63 : n ≤ maxLen) (hbytes : n * bytes ≤ 140737488355328) (hbase : base ≤ w.heap.size)
    (h : ∀ v' w', w'.ownsRow base e size v' n xs → w.grownBy w' none → wpList P ops Q rest (a.put o.dst v') w') : wpList P ops Q (o :: rest) a w := by
  rcases hin with ⟨rfl, rfl⟩ | ⟨ad, cap, rfl, rfl⟩ | ⟨b, off, cap, rfl, hlt, hc⟩
  · obtain rfl : xs = [] := List.length_eq_zero_iff.1 (by omega)
    exact wpList_append_own_none hgd s x t ho base e i size ht hi _ 0 [] hs (World.ownsRow_nil _ _ _ _) hx (h _ _ (World.ownsRow_nil _ _ _ _) (World.grownBy.refl _ _))
  · obtain rfl : xs = [] := List.length_eq_zero_iff.1 (by omega)
    exact wpList_append_own _ hgd s x t ho base e i z size bytes ht hi hz hsize hby hzs hsz _ 0 [] hs (World.ownsRow_nil _ _ _ _) ad 0 cap [] hx (by simp) (fun j u h => by simp at h) (fun u h => by simp at h) (by simp [maxLen]) (by simp) hbase
      fun v' w' g1 g2 _ => h v' w' g1 g2
  · refine wpList_append_own _ hgd s x t ho base e i z size bytes ht hi hz hsize hby hzs hsz _ 0 [] hs (World.ownsRow_nil _ _ _ _) ⟨b, off, none⟩ n cap xs hx hl (fun j u hj => ?_) h1 (by omega) (by rw [Nat.zero_add]; exact hbytes) hbase
      fun v' w' g1 g2 _ => h v' w' (by rw [Nat.zero_add, List.nil_append] at g1; exact g1) g2
    have hlt2 : j < xs.length := (List.getElem?_eq_some_iff.1 hj).1
    have := hc j (by omega)
    rw [hj] at this
    unfold Addr.add
    split
    · rename_i h0; subst h0; exact this
    · exact this
theorem InAt.up {w w' : World} {size n : Nat} {v : Value} {xs : List Value} (h : InAt w w.heap.size size v n xs) (hb : Below w.heap.size w w') : InAt w' w'.heap.size size v n xs := by
  rcases h.on hb with h | h | ⟨b, off, cap, e, hlt, hc⟩
  · exact Or.inl h
  · exact Or.inr (Or.inl h)
  · exact Or.inr (Or.inr ⟨b, off, cap, e, Nat.lt_of_lt_of_le hlt hb.size, hc⟩)
end Go.Proofs.Ythlmkoiilgjflaa

/- Several texts of the proof, one behind the other. -/
import Derived.Test.YtlimfajjmhfnaaaGreatDoorC1
import Derived.Test.YtlimfajjmhfnaaaGreatDoorW5P
import Derived.Deep.AppendLies
import Derived.Deep.RegionLaw
/- Where ref.codeFrom stands: three lists of numbers that the call owns, each in a block of its own. -/
namespace Go.Proofs.YtlimfajjmhfnaaaGreatDoor
open Go.RowKit

/-- The crossings' numbers, -1 where there is none yet. -/
def nuM (p : List Nat) (x : Nat) : Int := if x ∈ p then (p.idxOf x : Int) else -1
theorem nuM_new (n : Nat) (p : List Nat) (x : Nat) (hx : x ∉ p) : (mapI n (nuM p)).set x (p.length : Int) = mapI n (nuM (p ++ [x])) := by
  refine mapI_set _ _ _ _ _ fun y _ => ?_
  unfold nuM
  by_cases e : y = x
  · subst e
    rw [if_pos rfl, if_pos (by simp), List.idxOf_append, if_neg hx]
    simp
  · rw [if_neg e]
    by_cases h : y ∈ p
    · rw [if_pos h, if_pos (List.mem_append_left _ h), List.idxOf_append, if_pos h]
    · rw [if_neg h, if_neg (fun h2 => by rcases List.mem_append.1 h2 with h2 | h2; exact h h2; exact e (by simpa using h2))]
structure CdAt (B gN n : Nat) (p : List Nat × List Int) (vo vc : Value) (W : World) : Prop where
  num : W.ownsRow B 3 1 (.slice (some ⟨gN, 0, none⟩) n n) n (intsV (mapI n (nuM p.1)))
  ord : W.ownsRow B 3 1 vo p.1.length (nats p.1)
  cod : W.ownsRow B 3 1 vc p.2.length (intsV p.2)
  oN : vo.ownBlock ≠ some gN
  cN : vc.ownBlock ≠ some gN
  oc : vo.ownBlock = none ∨ vo.ownBlock ≠ vc.ownBlock
theorem CdAt.any {B gN n : Nat} {p : List Nat × List Int} {vo vc : Value} {W W' : World} (h : CdAt B gN n p vo vc W) (hg : W.grownBy W' none) : CdAt B gN n p vo vc W' :=
  ⟨own_any h.num hg, own_any h.ord hg, own_any h.cod hg, h.oN, h.cN, h.oc⟩
/-- The code grows. -/
theorem CdAt.code {B gN n g k cap H : Nat} {p : List Nat × List Int} {xs : List Int} {vo vc : Value} {W W8 : World} (h : CdAt B gN n p vo vc W) (hk : k = (p.2 ++ xs).length) (hown : W8.ownsRow B 3 1 (.slice (some ⟨g, 0, none⟩) k cap) k (intsV (p.2 ++ xs))) (hg : W.grownBy W8 vc.ownBlock) (hl : vc.ownBlock = some g ∨ g = H) (hH : W.heap.size = H) :
    CdAt B gN n (p.1, p.2 ++ xs) vo (.slice (some ⟨g, 0, none⟩) k cap) W8 := by
  have hn := (h.num.lt gN rfl).2
  subst hk
  refine ⟨h.num.kept hg (Or.inr (fun e => h.cN e.symm)), h.ord.kept hg h.oc, hown, h.oN, fun e => ?_, ?_⟩
  · have e2 : g = gN := Option.some.inj e
    rcases hl with hl | hl
    · rw [e2] at hl; exact h.cN hl
    · omega
  · rcases hl with hl | hl
    · rcases h.oc with h1 | h1
      · exact Or.inl h1
      · refine Or.inr (fun e => h1 ?_)
        rw [hl]
        exact e
    · cases hv : vo.ownBlock with
      | none => exact Or.inl rfl
      | some q =>
        refine Or.inr (fun e => ?_)
        have h1 := (h.ord.lt q hv).2
        have h2 : q = g := Option.some.inj e
        omega
/-- A crossing gets its number. -/
theorem CdAt.put {B gN n x : Nat} {p : List Nat × List Int} {vo vc : Value} {W : World} (h : CdAt B gN n p vo vc W) :
    (W.setCell ⟨gN, x, none⟩ (.int .i64 (p.1.length : Nat))).ownsRow B 3 1 (.slice (some ⟨gN, 0, none⟩) n n) n (intsV ((mapI n (nuM p.1)).set x (p.1.length : Int))) ∧ (W.setCell ⟨gN, x, none⟩ (.int .i64 (p.1.length : Nat))).ownsRow B 3 1 vo p.1.length (nats p.1) ∧ (W.setCell ⟨gN, x, none⟩ (.int .i64 (p.1.length : Nat))).ownsRow B 3 1 vc p.2.length (intsV p.2) ∧ W.grownBy (W.setCell ⟨gN, x, none⟩ (.int .i64 (p.1.length : Nat))) (some gN) := by
  have hst := h.num.stored x (.int .i64 (p.1.length : Nat))
  rw [intsV_set] at hst
  exact ⟨hst.1, h.ord.kept hst.2 (Or.inr h.oN), h.cod.kept hst.2 (Or.inr h.cN), hst.2⟩
/-- And stands in the order. -/
theorem CdAt.order {B gN n g k cap x H : Nat} {p : List Nat × List Int} {vo vc : Value} {W W8 : World} (hx : x ∉ p.1) (hk : k = (p.1 ++ [x]).length)
    (hnum : W.ownsRow B 3 1 (.slice (some ⟨gN, 0, none⟩) n n) n (intsV ((mapI n (nuM p.1)).set x (p.1.length : Int)))) (hcod : W.ownsRow B 3 1 vc p.2.length (intsV p.2)) (oN : vo.ownBlock ≠ some gN) (cN : vc.ownBlock ≠ some gN) (oc : vo.ownBlock = none ∨ vo.ownBlock ≠ vc.ownBlock)
    (hown : W8.ownsRow B 3 1 (.slice (some ⟨g, 0, none⟩) k cap) k (nats (p.1 ++ [x]))) (hg : W.grownBy W8 vo.ownBlock) (hl : vo.ownBlock = some g ∨ g = H) (hH : W.heap.size = H) :
    CdAt B gN n (p.1 ++ [x], p.2) (.slice (some ⟨g, 0, none⟩) k cap) vc W8 := by
  have hn := (hnum.lt gN rfl).2
  subst hk
  rw [nuM_new n p.1 x hx] at hnum
  have hc : vc.ownBlock = none ∨ vc.ownBlock ≠ vo.ownBlock := by
    cases hv : vc.ownBlock with
    | none => exact Or.inl rfl
    | some q =>
      refine Or.inr (fun e => ?_)
      rw [hv] at oc
      rcases oc with h1 | h1
      · rw [h1] at e; cases e
      · exact h1 e.symm
  refine ⟨hnum.kept hg (Or.inr (fun e => oN e.symm)), hown, hcod.kept hg hc, fun e => ?_, cN, ?_⟩
  · have e2 : g = gN := Option.some.inj e
    rcases hl with hl | hl
    · rw [e2] at hl; exact oN hl
    · omega
  · refine Or.inr (fun e => ?_)
    have e' : some g = vc.ownBlock := e
    rcases hl with hl | hl
    · rcases hc with h1 | h1
      · rw [h1] at e'; cases e'
      · exact h1 (by rw [hl, ← e'])
    · have h1 := (hcod.lt g e'.symm).2
      omega
end Go.Proofs.YtlimfajjmhfnaaaGreatDoor
/- Tellings: mathematics, and what the walks of ref.codeFrom and canon.toldFrom share. -/
namespace Go.Proofs.YtlimfajjmhfnaaaGreatDoor
open Go.RowKit

theorem teK_ok {C : List Cr} {loops : Int} (hm : mayD C loops = true) {i : Nat} {p : List Nat × List Int} (hi : i < p.1.length) (h : TeOk C p) {k : Nat} (hk : k ≤ 4) : TeOk C (teK C i p k) := by
  have hc : p.1.getD i 0 < C.length := h.lt _ (by rw [List.getD_eq_getElem?_getD, List.getElem?_eq_getElem hi]; exact List.getElem_mem hi)
  induction k with
  | zero => exact ⟨h.lt, h.nd⟩
  | succ k ih => exact teS_ok hm hc (ih (by omega)) (by omega)
theorem teI_ok {C : List Cr} {loops : Int} (hm : mayD C loops = true) {first : Nat} (hf : first < C.length) (i : Nat) : TeOk C (teI C first i) := by
  induction i with
  | zero => exact ⟨fun x hx => by simp only [teI, List.mem_singleton] at hx; omega, by simp [teI]⟩
  | succ i ih =>
    rw [teI]
    split
    · rename_i h; exact teK_ok hm h ih (Nat.le_refl _)
    · exact ih
theorem teI_stop {C : List Cr} {first i : Nat} (h : (teI C first i).1.length ≤ i) (d : Nat) : teI C first (i + d) = teI C first i := by
  induction d with
  | zero => rfl
  | succ d ih =>
    rw [← Nat.add_assoc, teI, ih, if_neg (by omega)]
theorem teK_len (C : List Cr) (i : Nat) (p : List Nat × List Int) (k : Nat) : (teK C i p k).2.length = p.2.length + 1 + 2 * k := by
  induction k with
  | zero => simp [teK]
  | succ k ih =>
    rw [teK]
    simp only [teS, List.length_append, List.length_cons, List.length_nil, ih]
    omega
theorem teI_len (C : List Cr) (first i : Nat) : (teI C first i).2.length ≤ 9 * i := by
  induction i with
  | zero => simp [teI]
  | succ i ih =>
    rw [teI]
    split
    · rw [teK_len]; omega
    · omega
theorem cells_two (W : World) (a b : Value) (e : TypeId) : ∀ j u, [a, b][j]? = some u → (W.alloc (.cells #[a, b] e)).cell? ((⟨W.heap.size, 0, none⟩ : Addr).add j) = some u := by
  intro j u hj
  have hb : (W.alloc (.cells #[a, b] e)).heap[W.heap.size]? = some (.cells #[a, b] e (0, 0)) := alloc_at rfl
  match j, hj with
  | 0, hj => injection hj with h; subst h; exact block_cell hb rfl
  | 1, hj => injection hj with h; subst h; exact block_cell hb rfl
  | j + 2, hj => simp at hj
theorem ints_two (a b : Int) : ∀ u ∈ [Value.int .i64 a, .int .i64 b], u.oneCell' = true := by
  intro u hu
  simp only [List.mem_cons, List.not_mem_nil, or_false] at hu
  rcases hu with rfl | rfl <;> rfl
theorem CdAt.drew {B gN n : Nat} {p : List Nat × List Int} {vo vc : Value} {W : World} (h : CdAt B gN n p vo vc W) : CdAt B gN n p vo vc W.drew := ⟨h.num, h.ord, h.cod, h.oN, h.cN, h.oc⟩
theorem one_row {w : World} {B g : Nat} {e : TypeId} {x : Value} (hB : B ≤ g) (h : w.heap[g]? = some (.cells #[x] e (0, 0))) : w.ownsRow B e 1 (.slice (some ⟨g, 0, none⟩) 1 1) 1 [x] :=
  ⟨rfl, Or.inr ⟨g, 1, #[x], rfl, hB, h, Nat.le_refl _, by simp [maxLen], rfl, rfl⟩⟩

end Go.Proofs.YtlimfajjmhfnaaaGreatDoor

/- A list of terms in memory, and the walk of the copy (knotworklaw.terms). -/
import Derived.Test.YthbhllomikfbhaaDoorPT3
import Derived.Laws.AppendOwnNone
import Derived.OwnWalk
namespace Go.Proofs.YthbhllomikfbhaaDoor.Poly
open Go.RowKit

/-- The terms as cells, one behind the other. -/
def flat (l : List (Int × Int)) : List Value := l.flatMap fun t => [.int .i64 t.1, .int .i64 t.2]

theorem flat_length (l : List (Int × Int)) : (flat l).length = l.length * 2 := by
  induction l with
  | nil => rfl
  | cons t l ih => simp [flat] at *; omega

theorem flat_append (l m : List (Int × Int)) : flat (l ++ m) = flat l ++ flat m := by simp [flat]

theorem flat_get (l : List (Int × Int)) (i : Nat) (hi : i < l.length) :
    (flat l)[i * 2]? = some (.int .i64 (l.getD i (0, 0)).1) ∧ (flat l)[i * 2 + 1]? = some (.int .i64 (l.getD i (0, 0)).2) := by
  induction l generalizing i with
  | nil => simp at hi
  | cons t l ih =>
    cases i with
    | zero => simp [flat]
    | succ i =>
      have := ih i (by simpa using hi)
      simp only [flat, List.flatMap_cons] at this ⊢
      rw [List.getElem?_append_right (by simp; omega), List.getElem?_append_right (by simp; omega)]
      simpa [show (i + 1) * 2 - 2 = i * 2 by omega, show (i + 1) * 2 + 1 - 2 = i * 2 + 1 by omega] using this

theorem flat_one (l : List (Int × Int)) : ∀ u ∈ flat l, u.oneCell' = true := by
  intro u hu
  simp only [flat, List.mem_flatMap] at hu
  obtain ⟨t, _, ht⟩ := hu
  simp at ht
  rcases ht with rfl | rfl <;> rfl

/-- The cells of the row, asked by their place. -/
theorem flat_at {w : World} {b off : Nat} {l : List (Int × Int)} (h : TermsAt w b off l) : ∀ j u, (flat l)[j]? = some u → w.cell? ((⟨b, off, none⟩ : Addr).add j) = some u := by
  intro j u hj
  have hlt : j < (flat l).length := by
    rcases Nat.lt_or_ge j (flat l).length with h | h
    · exact h
    · rw [List.getElem?_eq_none h] at hj; cases hj
  rw [flat_length] at hlt
  have hi : j / 2 < l.length := by omega
  have g := flat_get l (j / 2) hi
  have c := h (j / 2) hi
  rcases Nat.mod_two_eq_zero_or_one j with e | e
  · have e2 : j / 2 * 2 = j := by omega
    rw [e2] at g c
    rw [g.1] at hj
    rw [← hj, Addr.add_lit]
    exact c.1
  · have e2 : j / 2 * 2 + 1 = j := by omega
    have e3 : off + j / 2 * 2 + 1 = off + j := by omega
    rw [e2] at g
    rw [e3] at c
    rw [g.2] at hj
    rw [← hj, Addr.add_lit]
    exact c.2

/-- A slice value that holds the terms l, below block B. -/
def Poly (w : World) (B : Nat) (v : Value) (l : List (Int × Int)) : Prop :=
  (v = .slice none 0 0 ∧ l = []) ∨ (∃ a cap, v = .slice (some a) 0 cap ∧ l = []) ∨ ∃ b off cap, v = .slice (some ⟨b, off, none⟩) l.length cap ∧ b < B ∧ TermsAt w b off l

theorem Poly.on {w w' : World} {B : Nat} {v : Value} {l : List (Int × Int)} (h : Poly w B v l) (hb : Below B w w') : Poly w' B v l := by
  rcases h with h | h | ⟨b, off, cap, hv, hlt, hT⟩
  · exact Or.inl h
  · exact Or.inr (Or.inl h)
  · exact Or.inr (Or.inr ⟨b, off, cap, hv, hlt, hT.on hb hlt⟩)

theorem Poly.mono {w : World} {B B' : Nat} {v : Value} {l : List (Int × Int)} (h : Poly w B v l) (hB : B ≤ B') : Poly w B' v l := by
  rcases h with h | h | ⟨b, off, cap, hv, hlt, hT⟩
  · exact Or.inl h
  · exact Or.inr (Or.inl h)
  · exact Or.inr (Or.inr ⟨b, off, cap, hv, by omega, hT⟩)

theorem Poly.ofRow {w : World} {base : Nat} {e : TypeId} {v : Value} {l : List (Int × Int)} (h : w.ownsRow base e 2 v l.length (flat l)) : Poly w w.heap.size v l := by
  have h0 := h
  rcases h.2 with ⟨hv, hn⟩ | ⟨g, cap, cur, hv, hg, hh, _⟩
  · exact Or.inl ⟨hv, List.length_eq_zero_iff.1 hn⟩
  · subst hv
    refine Or.inr (Or.inr ⟨g, 0, cap, rfl, ?_, ?_⟩)
    · rcases Nat.lt_or_ge g w.heap.size with h | h
      · exact h
      · rw [Array.getElem?_eq_none h] at hh; cases hh
    · intro i hi
      have g0 := flat_get l i hi
      rw [Nat.zero_add]
      exact ⟨(h0.cellAt (i * 2) (by omega)).trans g0.1, (h0.cellAt (i * 2 + 1) (by omega)).trans g0.2⟩

theorem infoTerm : (Tryd.prog.info? 36).map (fun i => (i.zero, i.size, i.bytes)) = some (some (.agg #[.int .i64 0, .int .i64 0]), 2, 16) := by kernel_rfl

set_option maxHeartbeats 400000 in
set_option maxRecDepth 100000 in
theorem terms_any (v : Value) (l : List (Int × Int)) (w : World) (hl : l.length * 16 ≤ 140737488355328) (hT : Poly w w.heap.size v l) :
    Calls Tryd.prog 9 #[v] w fun e w' => ∃ v', e = .returned v' ∧ w'.ownsRow w.heap.size 36 2 v' l.length (flat l) ∧ Below w.heap.size w w' := by
  obtain ⟨i0, hi, hz0, hz1, hz2⟩ := info_parts infoTerm
  rcases hT with ⟨rfl, rfl⟩ | ⟨a, cap, rfl, rfl⟩ | ⟨b, off, cap, rfl, hlt, hT⟩
  · go_enter Tryd.func9, Tryd.ntmps9
    go_wp2_with (at_builtin; refine wpList_append_own_none rfl _ _ 22 rfl w.heap.size 36 i0 2 Tryd.underlying22 hi _ 0 [] rfl (World.ownsRow_nil _ _ _ _) rfl ?_)
    go_ret
    exact ⟨_, rfl, World.ownsRow_nil _ _ _ _, Below.refl _ _⟩
  · clear hl
    go_enter Tryd.func9, Tryd.ntmps9
    go_wp2_with (at_builtin; refine wpList_append_own _ rfl _ _ 22 rfl w.heap.size 36 i0 (.agg #[.int .i64 0, .int .i64 0]) 2 16 Tryd.underlying22 hi hz0 hz1 hz2 rfl (by decide) _ 0 [] rfl (World.ownsRow_nil _ _ _ _) a 0 cap [] rfl rfl (fun j u h => by simp at h) (fun u h => by simp at h) (by decide) (by decide) (Nat.le_refl _) ?_; intro v' w' hown hgr _)
    go_ret
    exact ⟨_, rfl, hown, (Below.refl _ _).grown hgr (Nat.le_refl _) (fun k hk => by cases hk)⟩
  · have hm : 0 + l.length ≤ maxLen := by unfold maxLen; omega
    have hby : (0 + l.length) * 16 ≤ 140737488355328 := by omega
    have HT : Hid (TermsAt w b off l) := hT
    clear hT hl
    go_enter Tryd.func9, Tryd.ntmps9
    go_wp2_with (at_builtin; refine wpList_append_own _ rfl _ _ 22 rfl w.heap.size 36 i0 (.agg #[.int .i64 0, .int .i64 0]) 2 16 Tryd.underlying22 hi hz0 hz1 hz2 rfl (by decide) _ 0 [] rfl (World.ownsRow_nil _ _ _ _) ⟨b, off, none⟩ l.length cap (flat l) rfl (flat_length l) (flat_at HT.out) (flat_one l) hm hby (Nat.le_refl _) ?_; intro v' w' hown hgr _)
    go_ret
    rw [Nat.zero_add, List.nil_append] at hown
    exact ⟨_, rfl, hown, (Below.refl _ _).grown hgr (Nat.le_refl _) (fun k hk => by cases hk)⟩
end Go.Proofs.YthbhllomikfbhaaDoor.Poly

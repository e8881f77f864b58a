/- Several texts of the proof, one behind the other. -/
import Derived.Test.YthlmkoiilgjflaaNB1P
import Derived.Test.YthlmkoiilgjflaaGC0P
/- BraidNormals: all texts together. -/
namespace Go.Proofs.Ythlmkoiilgjflaa

/-- Six texts together. -/
def tot (T : List (List Int)) : Nat := (T.getD 0 []).length + (T.getD 1 []).length + (T.getD 2 []).length + (T.getD 3 []).length + (T.getD 4 []).length + (T.getD 5 []).length
theorem stp_one (T : List (List Int)) (x : Int) (j : Nat) : j = x.natAbs - 1 ∨ j = x.natAbs ∨ ((stp T x).getD j []).length = (T.getD j []).length := by
  by_cases h0 : j = x.natAbs - 1
  · exact Or.inl h0
  · by_cases h1 : j = x.natAbs
    · exact Or.inr (Or.inl h1)
    · exact Or.inr (Or.inr (by rw [stp_rows T x j h0 h1]))
theorem tot_stp {p : Nat} {T : List (List Int)} (h : ∀ i, (T.getD i []).length ≤ p) (x : Int) (hx : x ≠ 0) (h5 : x.natAbs ≤ 5) : tot (stp T x) ≤ tot T + 2 * p := by
  have ht := stp_two T x hx
  have r0 := stp_one T x 0
  have r1 := stp_one T x 1
  have r2 := stp_one T x 2
  have r3 := stp_one T x 3
  have r4 := stp_one T x 4
  have r5 := stp_one T x 5
  have ha := h (x.natAbs - 1)
  have hb := h x.natAbs
  have hc : x.natAbs = 1 ∨ x.natAbs = 2 ∨ x.natAbs = 3 ∨ x.natAbs = 4 ∨ x.natAbs = 5 := by omega
  unfold tot
  rcases hc with e | e | e | e | e <;> rw [e] at ht r0 r1 r2 r3 r4 r5 ha hb <;> simp only [Nat.reduceSub] at ht r0 r1 r2 r3 r4 r5 ha hb <;> omega
theorem act_tot (n : Nat) (hn : n ≤ 6) (w : List Int) (hw : ∀ x ∈ w, x ≠ 0 ∧ x.natAbs < n) (k : Nat) (hk : k ≤ w.length) : tot (actT n w k) ≤ pellS k := by
  induction k with
  | zero =>
    have h := (act_pell n w (fun x hx => (hw x hx).1) 0 (Nat.zero_le _)).one
    have e : (pell 0).1 = 1 := rfl
    rw [e] at h
    have h0 := h 0
    have h1 := h 1
    have h2 := h 2
    have h3 := h 3
    have h4 := h 4
    have h5 := h 5
    have e2 : pellS 0 = 6 := rfl
    unfold tot
    omega
  | succ k ih =>
    rw [actT_next n w k (by omega)]
    have hm : w.getD k 0 ∈ w := by rw [List.getD_eq_getElem?_getD, List.getElem?_eq_getElem (by omega)]; exact List.getElem_mem _
    have hh := hw _ hm
    have h1 := tot_stp (act_pell n w (fun x hx => (hw x hx).1) k (by omega)).one (w.getD k 0) hh.1 (by omega)
    have h2 := ih (by omega)
    have e : pellS (k + 1) = pellS k + 2 * (pell k).1 := rfl
    omega
theorem pell_up (k : Nat) : (pell k).1 ≤ (pell (k + 1)).1 ∧ pellS k ≤ pellS (k + 1) := by
  have h := pell_pos k
  simp only [pell, pellS]
  omega
theorem pell_le {k : Nat} (h : k ≤ 20) : (pell k).1 ≤ 54608393 ∧ pellS k ≤ 77227934 := by
  have key : ∀ d k, k + d = 20 → (pell k).1 ≤ (pell 20).1 ∧ pellS k ≤ pellS 20 := by
    intro d
    induction d with
    | zero => intro k hk; obtain rfl : k = 20 := by omega
              exact ⟨Nat.le_refl _, Nat.le_refl _⟩
    | succ d ih =>
      intro k hk
      have h1 := ih (k + 1) (by omega)
      have h2 := pell_up k
      exact ⟨Nat.le_trans h2.1 h1.1, Nat.le_trans h2.2 h1.2⟩
  have := key (20 - k) k (by omega)
  rw [pell_last.1, pell_last.2] at this
  exact this
/-- Behind a word of at most 20 letters: what the reckoning from the right begins with. -/
theorem act_lens (n : Nat) (hn : n ≤ 6) (w : List Int) (hw : ∀ x ∈ w, x ≠ 0 ∧ x.natAbs < n) (h20 : w.length ≤ 20) : (∀ i, ((actT n w w.length).getD i []).length ≤ 54608393) ∧ tot (actT n w w.length) ≤ 77227934 := by
  have h1 := (act_pell n w (fun x hx => (hw x hx).1) w.length (Nat.le_refl _)).one
  have h2 := act_tot n hn w hw w.length (Nat.le_refl _)
  have h3 := pell_le h20
  exact ⟨fun i => Nat.le_trans (h1 i) h3.1, Nat.le_trans h2 h3.2⟩
end Go.Proofs.Ythlmkoiilgjflaa
/- Ends of strands: the walks of braid.Ends and of ref.EndsOf. -/
namespace Go.Proofs.Ythlmkoiilgjflaa
open Go.RowKit

theorem own_someB {w : World} {B e s n : Nat} {v : Value} {xs : List Value} (h : w.ownsRow B e s v n xs) (hn : 1 ≤ n) : ∃ g c, v = .slice (some ⟨g, 0, none⟩) n c ∧ B ≤ g ∧ g < w.heap.size := by
  have h0 := h
  rcases h.2 with ⟨rfl, h1⟩ | ⟨g, cap, cur, rfl, h2, _⟩
  · omega
  · exact ⟨g, cap, rfl, (h0.lt g rfl).1, (h0.lt g rfl).2⟩

end Go.Proofs.Ythlmkoiilgjflaa

/- Rows of moves: the walk of ref.RowOf. Made by genmq2.py. -/
import Derived.Test.YtagaajlbkfkaiaaMV2P
import Derived.Test.YtagaajlbkfkaiaaF6P
import Derived.Test.YtagaajlbkfkaiaaTkhP
import Derived.Test.YtagaajlbkfkaiaaW3P
import Derived.Deep.RegionHeld3
namespace Go.Proofs.Ytagaajlbkfkaiaa
open Go.RowKit

theorem own_crsW {w : World} {B e : Nat} {v : Value} {C : List Cr} (h : w.ownsRow B e 5 v C.length (crossCells C)) : CrsW w w.heap.size v C := by
  have h0 := h
  have h1 := crs_own h (own_fewQ h)
  rcases h.2 with ⟨rfl, h2⟩ | ⟨g, cap, cur, rfl, _, _, _⟩
  · exact Or.inl ⟨rfl, List.eq_nil_of_length_eq_zero h2⟩
  · by_cases hp : 0 < C.length
    · obtain ⟨a, c, e, -, k⟩ := h1
      injection e with e1 e2 e3
      obtain ⟨b, off, h3, h4, h5⟩ := k hp
      rw [← e1] at h3
      rw [h3]
      exact Or.inr (Or.inr ⟨b, off, cap, rfl, h4, h5⟩)
    · have hz : C.length = 0 := by omega
      exact Or.inr (Or.inl ⟨_, _, by rw [hz], List.eq_nil_of_length_eq_zero hz⟩)
/-- Crossings that lie in none of some blocks. -/
structure CrG (w : World) (x y : Nat) (a : Option Addr) (c : Nat) (C : List Cr) : Prop where
  crs : CrsW w w.heap.size (.slice a C.length c) C
  far : 0 < C.length → ∀ ad, a = some ad → ad.block < x ∨ y ≤ ad.block
theorem CrG.up {w w' : World} {x y : Nat} {a : Option Addr} {c : Nat} {C : List Cr} (h : CrG w x y a c C) (hb : Below w.heap.size w w') : CrG w' x y a c C := ⟨h.crs.up hb, h.far⟩
theorem CrG.put {w w' : World} {x y g : Nat} {a : Option Addr} {c : Nat} {C : List Cr} (h : CrG w x y a c C) (hg : w.grownBy w' (some g)) (h1 : x ≤ g) (h2 : g < y) : CrG w' x y a c C := by
  refine ⟨?_, h.far⟩
  by_cases hp : 0 < C.length
  · rcases h.crs with ⟨_, e⟩ | ⟨ad, cap, e, e2⟩ | ⟨b, off, cap, e, hlt, hC⟩
    · rw [e] at hp; cases hp
    · rw [e2] at hp; cases hp
    · injection e with e1 e2 e3
      refine Or.inr (Or.inr ⟨b, off, cap, by rw [e1, e3], Nat.lt_of_lt_of_le hlt hg.size, fun i hi => ?_⟩)
      have hf : b < x ∨ y ≤ b := h.far hp _ e1
      have hbk := hg.block b hlt (fun e => by have := Option.some.inj e; omega)
      have hc : ∀ j u, w.cell? ⟨b, j, none⟩ = some u → w'.cell? ⟨b, j, none⟩ = some u := fun j u hu => by
        simp only [World.cell?] at hu ⊢
        rw [hbk]
        exact hu
      obtain ⟨q0, q1, q2, q3, q4⟩ := hC i hi
      exact ⟨hc _ _ q0, hc _ _ q1, hc _ _ q2, hc _ _ q3, hc _ _ q4⟩
  · have hz : C = [] := List.eq_nil_of_length_eq_zero (by omega)
    subst hz
    cases a with
    | none => 
      rcases h.crs with ⟨e, _⟩ | ⟨ad, cap, e, _⟩ | ⟨b, off, cap, e, _, _⟩
      · exact Or.inl ⟨e, rfl⟩
      · cases e
      · cases e
    | some ad => exact Or.inr (Or.inl ⟨ad, c, rfl, rfl⟩)
end Go.Proofs.Ytagaajlbkfkaiaa

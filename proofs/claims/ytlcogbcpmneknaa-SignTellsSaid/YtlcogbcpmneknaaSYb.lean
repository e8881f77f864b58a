/- Minors: Sylvester's rule, rows and columns that are added, and Cauchy and Binet's sum; plain mathematics. -/
import Derived.Test.YtlcogbcpmneknaaSY8
namespace Go.Proofs.Ytlcogbcpmneknaa

def dn : Nat → List Nat
  | 0 => []
  | k + 1 => k :: dn k
theorem dn_mem {k x : Nat} : x ∈ dn k ↔ x < k := by
  induction k with
  | zero => simp [dn]
  | succ k ih => simp only [dn, List.mem_cons, ih]; omega
theorem dn_nodup : ∀ k, (dn k).Nodup
  | 0 => List.nodup_nil
  | k + 1 => List.nodup_cons.2 ⟨fun h => by have := dn_mem.1 h; omega, dn_nodup k⟩
theorem dn_len : ∀ k, (dn k).length = k
  | 0 => rfl
  | k + 1 => by show (dn k).length + 1 = k + 1; rw [dn_len]
/-- The minor of the first k rows and columns and one more of each; the first k alone. -/
def mn (T : Nat → Nat → Int) (k i j : Nat) : Int := dZ (T i :: (dn k).map T) (j :: dn k)
def ld (T : Nat → Nat → Int) (k : Nat) : Int := dZ ((dn k).map T) (dn k)
theorem ld_next (T : Nat → Nat → Int) (k : Nat) : ld T (k + 1) = mn T k k k := rfl
theorem mn_low {T : Nat → Nat → Int} {k i j : Nat} (h : j < k) : mn T k i j = 0 := dZ_dup _ j _ (dn_mem.2 h)
/-- Along the first column. -/
theorem dZ_col : ∀ (I : List Nat) (f : Nat → Nat → Int) (rest : List Nat), I.Nodup → ∃ γ : Nat → Int, (∀ u, dZ (I.map f) (u :: rest) = (I.map fun l => γ l * f l u).sum) ∧ ∀ i J, I = i :: J → γ i = dZ (J.map f) rest
  | [], f, rest, _ => ⟨fun _ => 0, fun u => by show (if u :: rest = [] then (1 : Int) else 0) = 0; rw [if_neg (by simp)], fun i J h => by simp at h⟩
  | l :: I, f, rest, hn => by
    obtain ⟨h1, h2⟩ := List.nodup_cons.1 hn
    let γ : List Nat → Nat → Int := fun r => Classical.choose (dZ_col I f r h2)
    have hγ : ∀ r u, dZ (I.map f) (u :: r) = (I.map fun l => γ r l * f l u).sum := fun r => (Classical.choose_spec (dZ_col I f r h2)).1
    refine ⟨fun x => if x = l then dZ (I.map f) rest else -(rowZ (f l) rest fun r => γ r x), fun u => ?_, fun i J h => by
      obtain ⟨rfl, rfl⟩ := List.cons.inj h
      exact if_pos rfl⟩
    show f l u * dZ (I.map f) rest - rowZ (f l) rest (fun r => dZ (I.map f) (u :: r)) = _
    rw [List.map_cons, List.sum_cons]
    show _ = (if l = l then dZ (I.map f) rest else -(rowZ (f l) rest fun r => γ r l)) * f l u + (I.map fun x => (if x = l then dZ (I.map f) rest else -(rowZ (f l) rest fun r => γ r x)) * f x u).sum
    rw [if_pos rfl, show (fun r => dZ (I.map f) (u :: r)) = fun r => (I.map fun l' => γ r l' * f l' u).sum from funext fun r => hγ r u, rowZ_si (f l) rest I fun l' r => γ r l' * f l' u]
    have e : (I.map fun l' => rowZ (f l) rest fun r => γ r l' * f l' u) = I.map fun l' => (rowZ (f l) rest fun r => γ r l') * f l' u := List.map_congr_left fun l' _ => by
      have := rowZ_mul (f l) (f l' u) rest fun r => γ r l'
      rw [show (fun r => γ r l' * f l' u) = fun r => f l' u * γ r l' from funext fun r => Int.mul_comm _ _, this, Int.mul_comm]
    have e2 : (I.map fun x => (if x = l then dZ (I.map f) rest else -(rowZ (f l) rest fun r => γ r x)) * f x u) = I.map fun x => -1 * ((rowZ (f l) rest fun r => γ r x) * f x u) := List.map_congr_left fun x hx => by
      rw [if_neg fun (q : x = l) => h1 (by rw [← q]; exact hx)]; grind
    have e3 : ∀ (L : List Nat) (h : Nat → Int), (L.map fun x => -1 * h x).sum = -(L.map h).sum := fun L h => by
      induction L with
      | nil => rfl
      | cons a L ih => rw [List.map_cons, List.sum_cons, List.map_cons, List.sum_cons, ih]; omega
    rw [e, e2, e3]
    grind
/-- A minor, as a row, is the row times the leading one, and rows above. -/
theorem mn_span {T : Nat → Nat → Int} {k i : Nat} (h : k ≤ i) : ∃ γ : Nat → Int, ∀ u, mn T k i u = ld T k * T i u + ((dn k).map fun l => γ l * T l u).sum := by
  obtain ⟨γ, h1, h2⟩ := dZ_col (i :: dn k) T (dn k) (List.nodup_cons.2 ⟨fun q => by have := dn_mem.1 q; omega, dn_nodup k⟩)
  refine ⟨γ, fun u => ?_⟩
  have := h1 u
  rw [List.map_cons, List.map_cons, List.sum_cons, h2 i (dn k) rfl] at this
  exact this
/-- A row that is a sum of rows which stand below. -/
theorem dZ_head (R : List (Nat → Int)) (cs : List Nat) (T : Nat → Nat → Int) (γ : Nat → Int) : ∀ (L : List Nat), (∀ l ∈ L, T l ∈ R) → dZ ((fun u => (L.map fun l => γ l * T l u).sum) :: R) cs = 0
  | [], _ => rowZ_no _ _ _ fun _ _ => rfl
  | l :: L, h => by
    have e : (fun u => ((l :: L).map fun l => γ l * T l u).sum) = fun u => (L.map fun l => γ l * T l u).sum + γ l * T l u := funext fun u => by rw [List.map_cons, List.sum_cons]; omega
    have h1 := dZ_lin [] R (fun u => (L.map fun l => γ l * T l u).sum) (T l) (γ l) cs
    rw [List.nil_append, List.nil_append, List.nil_append] at h1
    rw [e, h1, dZ_head R cs T γ L fun l hl => h l (List.mem_cons_of_mem _ hl)]
    obtain ⟨X, Y, hR⟩ := List.append_of_mem (h l List.mem_cons_self)
    rw [hR, dZ_same]; omega
/-- SYLVESTER'S RULE. -/
theorem mn_syl {T : Nat → Nat → Int} {k i j : Nat} (hi : k < i) (hp : mn T k k k ≠ 0) : ld T k * mn T (k + 1) i j = mn T k k k * mn T k i j - mn T k i k * mn T k k j := by
  obtain ⟨γ, g⟩ := mn_span (T := T) (Nat.le_of_lt hi)
  obtain ⟨δ, d⟩ := mn_span (T := T) (Nat.le_refl k)
  obtain ⟨p, hpp⟩ : ∃ p, mn T k k k = p := ⟨_, rfl⟩
  obtain ⟨q, hq⟩ : ∃ q, mn T k i k = q := ⟨_, rfl⟩
  let w : Nat → Int := fun u => p * mn T k i u + -q * mn T k k u
  have w0 : ∀ u ∈ dn (k + 1), w u = 0 := fun u hu => by
    show p * mn T k i u + -q * mn T k k u = 0
    rcases Nat.lt_or_ge u k with r | r
    · rw [mn_low r, mn_low r]; omega
    · obtain rfl : u = k := by have := dn_mem.1 hu; omega
      rw [hpp, hq]; grind
  have a1 : dZ (w :: (dn (k + 1)).map T) (j :: dn (k + 1)) = w j * p := by
    show w j * dZ ((dn (k + 1)).map T) (dn (k + 1)) - rowZ w (dn (k + 1)) _ = _
    rw [rowZ_no w _ _ w0, ← hpp]
    exact Int.sub_zero _
  have ws : ∀ u, w u = ((p * ld T k) * T i u + -q * ld T k * T k u) + ((dn k).map fun l => (p * γ l + -q * δ l) * T l u).sum := fun u => by
    show p * mn T k i u + -q * mn T k k u = _
    rw [g, d]
    have e : ∀ L : List Nat, (L.map fun l => (p * γ l + -q * δ l) * T l u).sum = p * (L.map fun l => γ l * T l u).sum + -q * (L.map fun l => δ l * T l u).sum := fun L => by
      induction L with
      | nil => rw [List.map_nil, List.map_nil, List.map_nil, List.sum_nil]; omega
      | cons a L ih => rw [List.map_cons, List.sum_cons, List.map_cons, List.sum_cons, List.map_cons, List.sum_cons, ih]; grind
    rw [e]; grind
  have a2 : dZ (w :: (dn (k + 1)).map T) (j :: dn (k + 1)) = p * ld T k * mn T (k + 1) i j := by
    have e1 : w = fun u => ((fun u => (-q * ld T k) * T k u + ((dn k).map fun l => (p * γ l + -q * δ l) * T l u).sum) u) + (p * ld T k) * T i u := funext fun u => by rw [ws]; dsimp only; omega
    have h1 := dZ_lin [] ((dn (k + 1)).map T) (fun u => (-q * ld T k) * T k u + ((dn k).map fun l => (p * γ l + -q * δ l) * T l u).sum) (T i) (p * ld T k) (j :: dn (k + 1))
    rw [List.nil_append, List.nil_append, List.nil_append] at h1
    rw [e1, h1]
    have e2 : (fun u => (-q * ld T k) * T k u + ((dn k).map fun l => (p * γ l + -q * δ l) * T l u).sum) = fun u => ((dn (k + 1)).map fun l => (if l = k then -q * ld T k else p * γ l + -q * δ l) * T l u).sum := funext fun u => by
      show _ = ((k :: dn k).map _).sum
      rw [List.map_cons, List.sum_cons, if_pos rfl]
      congr 2
      exact List.map_congr_left fun l hl => by rw [if_neg (by have := dn_mem.1 hl; omega)]
    rw [e2, dZ_head _ _ T _ (dn (k + 1)) fun l hl => List.mem_map_of_mem hl]
    exact Int.zero_add _
  rw [hpp] at hp
  have a3 : p * (ld T k * mn T (k + 1) i j) = p * w j := by
    rw [← Int.mul_assoc, ← a2, a1, Int.mul_comm]
  have a4 := Int.eq_of_mul_eq_mul_left hp a3
  rw [a4, hpp]
  show p * mn T k i j + -q * mn T k k j = p * mn T k i j - mn T k i k * mn T k k j
  rw [hq]; grind
/-- Columns: added, and by another name. -/
theorem dZ_cadd {α : Type} (f g h : α → Nat → Int) (z : Nat) : ∀ (L : List α) (I : List Nat), (∀ l ∈ L, h l z = f l z + g l z) → (∀ l ∈ L, ∀ x ∈ I, h l x = f l x ∧ h l x = g l x) → dZ (L.map h) (z :: I) = dZ (L.map f) (z :: I) + dZ (L.map g) (z :: I)
  | [], I, _, _ => by
    show (if z :: I = [] then (1 : Int) else 0) = (if z :: I = [] then (1 : Int) else 0) + (if z :: I = [] then (1 : Int) else 0)
    rw [if_neg (by simp)]; rfl
  | l :: L, I, h1, h2 => by
    show h l z * dZ (L.map h) I - rowZ (h l) I (fun r => dZ (L.map h) (z :: r)) = f l z * dZ (L.map f) I - rowZ (f l) I (fun r => dZ (L.map f) (z :: r)) + (g l z * dZ (L.map g) I - rowZ (g l) I (fun r => dZ (L.map g) (z :: r)))
    have m1 : ∀ l ∈ L, ∀ x ∈ I, h l x = f l x := fun l hl x hx => (h2 l (List.mem_cons_of_mem _ hl) x hx).1
    have m2 : ∀ l ∈ L, ∀ x ∈ I, h l x = g l x := fun l hl x hx => (h2 l (List.mem_cons_of_mem _ hl) x hx).2
    have e1 : rowZ (h l) I (fun r => dZ (L.map h) (z :: r)) = rowZ (h l) I (fun r => dZ (L.map f) (z :: r) + 1 * dZ (L.map g) (z :: r)) := rowZ_ext _ _ _ _ _ (fun _ _ => rfl) fun r _ hr => by
      rw [dZ_cadd f g h z L r (fun l hl => h1 l (List.mem_cons_of_mem _ hl)) fun l hl x hx => h2 l (List.mem_cons_of_mem _ hl) x (hr x hx)]; omega
    rw [e1, rowZ_lin2, rowZ_ext (h l) (f l) I _ _ (fun x hx => (h2 l List.mem_cons_self x hx).1) (fun _ _ _ => rfl), rowZ_ext (h l) (g l) I _ _ (fun x hx => (h2 l List.mem_cons_self x hx).2) (fun _ _ _ => rfl), h1 l List.mem_cons_self, dZ_ext h f L I m1, ← dZ_ext h g L I m2, dZ_ext h f L I m1]
    grind
theorem dZ_cname {α : Type} (f g : α → Nat → Int) (z y : Nat) : ∀ (L : List α) (I : List Nat), (∀ l ∈ L, g l z = f l y) → (∀ l ∈ L, ∀ x ∈ I, g l x = f l x) → dZ (L.map g) (z :: I) = dZ (L.map f) (y :: I)
  | [], I, _, _ => by
    show (if z :: I = [] then (1 : Int) else 0) = (if y :: I = [] then (1 : Int) else 0)
    rw [if_neg (by simp), if_neg (by simp)]
  | l :: L, I, h1, h2 => by
    show g l z * dZ (L.map g) I - rowZ (g l) I (fun r => dZ (L.map g) (z :: r)) = f l y * dZ (L.map f) I - rowZ (f l) I (fun r => dZ (L.map f) (y :: r))
    rw [h1 l List.mem_cons_self, dZ_ext g f L I fun l hl x hx => h2 l (List.mem_cons_of_mem _ hl) x hx]
    congr 1
    exact rowZ_ext _ _ _ _ _ (fun x hx => h2 l List.mem_cons_self x hx) fun r _ hr => dZ_cname f g z y L r (fun l hl => h1 l (List.mem_cons_of_mem _ hl)) fun l hl x hx => h2 l (List.mem_cons_of_mem _ hl) x (hr x hx)
end Go.Proofs.Ytlcogbcpmneknaa

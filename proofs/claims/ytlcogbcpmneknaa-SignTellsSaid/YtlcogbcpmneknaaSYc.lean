/- CAUCHY AND BINET, and how great minors are; plain mathematics. -/
import Derived.Test.YtlcogbcpmneknaaSYb
namespace Go.Proofs.Ytlcogbcpmneknaa

/-- A table that is a sum of squares with signs. -/
def tU (w : Nat → Int) (U : Nat → Nat → Int) (m a b : Nat) : Int := si m fun c => w c * (U c a * U c b)
/-- A sum over choices of k of the first m. -/
def sS : Nat → Nat → (List Nat → Int) → Int
  | _, 0, f => f []
  | 0, _ + 1, _ => 0
  | m + 1, k + 1, f => sS m (k + 1) f + sS m k fun S => f (m :: S)
def ch : Nat → Nat → Nat
  | _, 0 => 1
  | 0, _ + 1 => 0
  | m + 1, k + 1 => ch m (k + 1) + ch m k
def wS (w : Nat → Int) : List Nat → Int
  | [] => 1
  | c :: S => w c * wS w S
theorem sS_nil (m : Nat) (f : List Nat → Int) : sS m 0 f = f [] := by cases m <;> rfl
theorem ch_nil (m : Nat) : ch m 0 = 1 := by cases m <;> rfl
theorem sS_ext : ∀ (m k : Nat) (f g : List Nat → Int), (∀ S, S.length = k → (∀ c ∈ S, c < m) → f S = g S) → sS m k f = sS m k g
  | m, 0, f, g, h => by rw [sS_nil, sS_nil]; exact h [] rfl fun c hc => by cases hc
  | 0, k + 1, _, _, _ => rfl
  | m + 1, k + 1, f, g, h => by
    show sS m (k + 1) f + sS m k _ = sS m (k + 1) g + sS m k _
    rw [sS_ext m (k + 1) f g fun S hS hc => h S hS fun c q => by have := hc c q; omega, sS_ext m k _ (fun S => g (m :: S)) fun S hS hc => h (m :: S) (by simp [hS]) fun c q => by
      rcases List.mem_cons.1 q with q | q
      · omega
      · have := hc c q; omega]
theorem sS_mul (k0 : Int) : ∀ (m k : Nat) (f : List Nat → Int), sS m k (fun S => k0 * f S) = k0 * sS m k f
  | m, 0, f => by rw [sS_nil, sS_nil]
  | 0, k + 1, _ => (Int.mul_zero k0).symm
  | m + 1, k + 1, f => by
    show sS m (k + 1) (fun S => k0 * f S) + sS m k (fun S => k0 * f (m :: S)) = k0 * (sS m (k + 1) f + sS m k fun S => f (m :: S))
    rw [sS_mul k0 m (k + 1) f, sS_mul k0 m k fun S => f (m :: S), Int.mul_add]
theorem sS_bd {B : Nat} : ∀ (m k : Nat) (f : List Nat → Int), (∀ S, S.length = k → (∀ c ∈ S, c < m) → (f S).natAbs ≤ B) → (sS m k f).natAbs ≤ ch m k * B
  | m, 0, f, h => by rw [sS_nil, ch_nil, Nat.one_mul]; exact h [] rfl fun c hc => by cases hc
  | 0, k + 1, _, _ => Nat.zero_le _
  | m + 1, k + 1, f, h => by
    have h1 := sS_bd m (k + 1) f fun S hS hc => h S hS fun c q => by have := hc c q; omega
    have h2 := sS_bd m k (fun S => f (m :: S)) fun S hS hc => h (m :: S) (by simp [hS]) fun c q => by
      rcases List.mem_cons.1 q with q | q
      · omega
      · have := hc c q; omega
    show (sS m (k + 1) f + sS m k _).natAbs ≤ (ch m (k + 1) + ch m k) * B
    rw [Nat.add_mul]
    omega
theorem ch_two : ∀ m k, ch m k + ch m (k + 1) ≤ 2 ^ m
  | 0, 0 => Nat.le_refl _
  | 0, k + 1 => Nat.zero_le _
  | m + 1, 0 => by
    have := ch_two m 0
    rw [ch_nil] at this
    show 1 + (ch m (0 + 1) + ch m 0) ≤ 2 ^ (m + 1)
    rw [ch_nil, Nat.pow_succ]
    have h1 : 1 ≤ 2 ^ m := Nat.one_le_two_pow
    omega
  | m + 1, k + 1 => by
    have h1 := ch_two m k
    have h2 := ch_two m (k + 1)
    show ch m (k + 1) + ch m k + (ch m (k + 1 + 1) + ch m (k + 1)) ≤ 2 ^ (m + 1)
    rw [Nat.pow_succ]; omega
theorem ch_le {m k : Nat} (h : m ≤ 16) : ch m k ≤ 32768 := by
  cases k with
  | zero => rw [ch_nil]; omega
  | succ k =>
    cases m with
    | zero => exact Nat.zero_le _
    | succ m =>
      have h1 := ch_two m k
      have h2 : 2 ^ m ≤ 2 ^ 15 := Nat.pow_le_pow_right (by omega) (by omega)
      show ch m (k + 1) + ch m k ≤ _
      omega
/-- Sums over places of both, in either order. -/
theorem rowZ_comm (x y : Nat → Int) (J : List Nat) : ∀ (I : List Nat) (g : List Nat → List Nat → Int), rowZ x I (fun I' => rowZ y J (fun J' => g I' J')) = rowZ y J (fun J' => rowZ x I (fun I' => g I' J'))
  | [], g => by
    show (0 : Int) = rowZ y J fun _ => 0
    have := rowZ_mul y 0 J (fun _ => 0)
    rw [show (fun _ : List Nat => (0 : Int) * 0) = fun _ => 0 from rfl] at this
    omega
  | a :: I, g => by
    show x a * rowZ y J (fun J' => g I J') - rowZ x I (fun I' => rowZ y J fun J' => g (a :: I') J') = rowZ y J fun J' => x a * g I J' - rowZ x I fun I' => g (a :: I') J'
    rw [rowZ_comm x y J I fun I' J' => g (a :: I') J']
    have e : (fun J' => x a * g I J' - rowZ x I fun I' => g (a :: I') J') = fun J' => x a * g I J' + -1 * rowZ x I fun I' => g (a :: I') J' := funext fun _ => by omega
    have h1 := rowZ_lin2 y (-1) J (fun J' => x a * g I J') (fun J' => rowZ x I fun I' => g (a :: I') J')
    have e0 : rowZ y J (g I) = rowZ y J fun J' => g I J' := rfl
    rw [e, h1, rowZ_mul, e0]
    omega
/-- One square more. -/
theorem dZ_rank (f : Nat → Nat → Int) (x y : Nat → Int) : ∀ (I J : List Nat), dZ (I.map fun a b => f a b + x a * y b) J = dZ (I.map f) J + rowZ x I (fun I' => rowZ y J (fun J' => dZ (I'.map f) J'))
  | [], J => by show (if J = [] then (1 : Int) else 0) = (if J = [] then (1 : Int) else 0) + 0; omega
  | a :: I, J => by
    have ih : dZ (I.map fun a b => f a b + x a * y b) = fun J' => dZ (I.map f) J' + 1 * rowZ x I (fun I' => rowZ y J' (fun J'' => dZ (I'.map f) J'')) := funext fun J' => by rw [dZ_rank f x y I J']; omega
    show rowZ (fun b => f a b + x a * y b) J (dZ (I.map fun a b => f a b + x a * y b)) = rowZ (f a) J (dZ (I.map f)) + (x a * rowZ y J (fun J' => dZ (I.map f) J') - rowZ x I fun I' => rowZ y J fun J' => rowZ (f a) J' (dZ (I'.map f)))
    rw [rowZ_lin, ih, rowZ_lin2, rowZ_lin2]
    have z : rowZ y J (fun J' => rowZ x I fun I' => rowZ y J' fun J'' => dZ (I'.map f) J'') = 0 := by
      rw [← rowZ_comm x y J I fun I' J' => rowZ y J' fun J'' => dZ (I'.map f) J'']
      have e : (fun I' => rowZ y J fun J' => rowZ y J' fun J'' => dZ (List.map f I') J'') = fun _ => 0 := funext fun I' => rowZ_twice y J _
      rw [e]
      have := rowZ_mul x 0 I (fun _ => 0)
      rw [show (fun _ : List Nat => (0 : Int) * 0) = fun _ => 0 from rfl] at this
      omega
    have s : (rowZ x I fun I' => rowZ y J fun J' => rowZ (f a) J' (dZ (I'.map f))) = -(rowZ (f a) J fun J' => rowZ x I fun I' => rowZ y J' fun J'' => dZ (I'.map f) J'') := by
      rw [← rowZ_comm x (f a) J I fun I' J' => rowZ y J' fun J'' => dZ (I'.map f) J'']
      have e : (fun I' => rowZ y J fun J' => rowZ (f a) J' (dZ (List.map f I'))) = fun I' => -1 * rowZ (f a) J fun J' => rowZ y J' fun J'' => dZ (I'.map f) J'' := funext fun I' => by
        rw [rowZ_swap]; show _ = -1 * (rowZ (f a) J fun rest => rowZ y rest (dZ (List.map f I'))); omega
      rw [e, rowZ_mul]; omega
    have e0 : (rowZ y J fun J' => dZ (I.map f) J') = rowZ y J (dZ (I.map f)) := rfl
    rw [z, s, e0]
    grind
theorem rowZ_sS (x : Nat → Int) (I : List Nat) : ∀ (m k : Nat) (g : List Nat → List Nat → Int), rowZ x I (fun I' => sS m k fun S => g I' S) = sS m k fun S => rowZ x I fun I' => g I' S
  | m, 0, g => by rw [sS_nil]; congr 1; funext I'; rw [sS_nil]
  | 0, k + 1, g => by
    show rowZ x I (fun _ => 0) = 0
    have := rowZ_mul x 0 I (fun _ => 0)
    rw [show (fun _ : List Nat => (0 : Int) * 0) = fun _ => 0 from rfl] at this
    omega
  | m + 1, k + 1, g => by
    show rowZ x I (fun I' => sS m (k + 1) (fun S => g I' S) + sS m k fun S => g I' (m :: S)) = (sS m (k + 1) fun S => rowZ x I fun I' => g I' S) + sS m k fun S => rowZ x I fun I' => g I' (m :: S)
    have e : (fun I' => sS m (k + 1) (fun S => g I' S) + sS m k fun S => g I' (m :: S)) = fun I' => sS m (k + 1) (fun S => g I' S) + 1 * sS m k fun S => g I' (m :: S) := funext fun _ => by omega
    rw [e, rowZ_lin2, rowZ_sS x I m (k + 1) g, rowZ_sS x I m k fun I' S => g I' (m :: S)]; omega
/-- CAUCHY, BINET. -/
theorem cauchy (w : Nat → Int) (U : Nat → Nat → Int) : ∀ (m : Nat) (I J : List Nat), dZ (I.map (tU w U m)) J = sS m I.length fun S => wS w S * (dZ (S.map U) I * dZ (S.map U) J)
  | m, [], J => by
    rw [List.length_nil, sS_nil]
    show (if J = [] then (1 : Int) else 0) = 1 * (1 * if J = [] then (1 : Int) else 0)
    omega
  | 0, a :: I, J => rowZ_no _ _ _ fun _ _ => rfl
  | m + 1, a :: I, J => by
    have e1 : dZ ((a :: I).map (tU w U (m + 1))) J = dZ ((a :: I).map fun a b => tU w U m a b + (w m * U m a) * U m b) J := by
      congr 1
      exact List.map_congr_left fun i _ => funext fun b => by show tU w U m i b + w m * (U m i * U m b) = _; rw [Int.mul_assoc]
    rw [e1, dZ_rank, cauchy w U m (a :: I) J]
    show _ = sS m (I.length + 1) _ + sS m I.length _
    congr 1
    have e2 : (rowZ (fun i => w m * U m i) (a :: I) fun I' => rowZ (U m) J fun J' => dZ (I'.map (tU w U m)) J') = rowZ (fun i => w m * U m i) (a :: I) fun I' => rowZ (U m) J fun J' => sS m I.length fun S => wS w S * (dZ (S.map U) I' * dZ (S.map U) J') := rowZ_ext _ _ _ _ _ (fun _ _ => rfl) fun I' hI' _ => by
      have hl : I'.length = I.length := by simp at hI'; omega
      congr 1
      funext J'
      rw [cauchy w U m I' J', hl]
    rw [e2]
    have e3 : (fun I' => rowZ (U m) J fun J' => sS m I.length fun S => wS w S * (dZ (S.map U) I' * dZ (S.map U) J')) = fun I' => sS m I.length fun S => (wS w S * dZ (S.map U) I') * rowZ (U m) J (dZ (S.map U)) := funext fun I' => by
      rw [rowZ_sS (U m) J m I.length fun J' S => wS w S * (dZ (S.map U) I' * dZ (S.map U) J')]
      congr 1
      funext S
      rw [← rowZ_mul]
      congr 1
      funext J'
      rw [Int.mul_assoc]
    rw [e3, rowZ_sS _ (a :: I) m I.length fun I' S => (wS w S * dZ (S.map U) I') * rowZ (U m) J (dZ (S.map U))]
    congr 1
    funext S
    have e4 : (fun I' => wS w S * dZ (S.map U) I' * rowZ (U m) J (dZ (S.map U))) = fun I' => (wS w S * rowZ (U m) J (dZ (S.map U))) * dZ (S.map U) I' := funext fun I' => by grind
    have e5 : rowZ (fun i => w m * U m i) (a :: I) (dZ (S.map U)) = w m * rowZ (U m) (a :: I) (dZ (S.map U)) := by
      have h := rowZ_lin (fun _ => 0) (U m) (w m) (a :: I) (dZ (S.map U))
      rw [rowZ_no (fun _ => 0) _ _ fun _ _ => rfl] at h
      rw [show (fun i => w m * U m i) = fun c => (0 : Int) + w m * U m c from funext fun _ => by omega, h]; omega
    rw [e4, rowZ_mul, e5]
    show _ = w m * wS w S * (rowZ (U m) (a :: I) (dZ (S.map U)) * rowZ (U m) J (dZ (S.map U)))
    grind
theorem wS_one {w : Nat → Int} (h : ∀ c, w c = 1 ∨ w c = -1) : ∀ S, (wS w S).natAbs = 1
  | [] => rfl
  | c :: S => by
    show (w c * wS w S).natAbs = 1
    rw [Int.natAbs_mul, wS_one h S]
    rcases h c with q | q <;> rw [q] <;> rfl
/-- Determinants of chosen squares are no greater than a power of two. -/
def Gd (m t : Nat) (U : Nat → Nat → Int) : Prop := ∀ S I : List Nat, (∀ c ∈ S, c < m) → I.Nodup → (dZ (S.map U) I).natAbs ≤ 2 ^ t
theorem gd_bd {w : Nat → Int} {U : Nat → Nat → Int} {m t : Nat} (hw : ∀ c, w c = 1 ∨ w c = -1) (h : Gd m t U) (hm : m ≤ 16) {I J : List Nat} (hI : I.Nodup) (hJ : J.Nodup) : (dZ (I.map (tU w U m)) J).natAbs ≤ 32768 * (2 ^ t * 2 ^ t) := by
  rw [cauchy]
  refine Nat.le_trans (sS_bd (B := 2 ^ t * 2 ^ t) m I.length _ fun S _ hc => ?_) (Nat.mul_le_mul_right _ (ch_le hm))
  rw [Int.natAbs_mul, wS_one hw, Nat.one_mul, Int.natAbs_mul]
  exact Nat.mul_le_mul (h S I hc hI) (h S J hc hJ)
/-- Columns traded, and one added to another. -/
def swC (p q : Nat) (U : Nat → Nat → Int) (c a : Nat) : Int := U c (if a = p then q else if a = q then p else a)
def adC (p q : Nat) (U : Nat → Nat → Int) (c a : Nat) : Int := if a = p then U c p + U c q else U c a
theorem gd_sw {m t p q : Nat} {U : Nat → Nat → Int} (h : Gd m t U) : Gd m t (swC p q U) := fun S I hc hI => by
  have e := dZ_map (fun a => if a = p then q else if a = q then p else a) (S.map U) I
  rw [List.map_map] at e
  have e2 : S.map (swC p q U) = S.map ((fun r c => r (if c = p then q else if c = q then p else c)) ∘ U) := rfl
  rw [e2, ← e]
  refine h S _ hc (List.pairwise_map.2 (hI.imp fun hab e => hab ?_))
  split at e <;> split at e <;> (try split at e) <;> (try split at e) <;> omega
theorem gd_ad {m t p q : Nat} {U : Nat → Nat → Int} (h : Gd m t U) : Gd m (t + 1) (adC p q U) := fun S I hc hI => by
  have h2 : 2 ^ (t + 1) = 2 ^ t + 2 ^ t := by rw [Nat.pow_succ]; omega
  by_cases hp : p ∈ I
  · obtain ⟨X, Y, rfl⟩ := List.append_of_mem hp
    have hperm : (X ++ p :: Y).Perm (p :: (X ++ Y)) := List.perm_middle
    have hn := hperm.nodup hI
    obtain ⟨n1, n2⟩ := List.nodup_cons.1 hn
    rw [dZ_perm _ hperm]
    have e1 := dZ_cadd U (fun c a => if a = p then U c q else U c a) (adC p q U) p S (X ++ Y) (fun c _ => by unfold adC; rw [if_pos rfl, if_pos rfl]) fun c _ x hx => by
      have : x ≠ p := fun e => n1 (e ▸ hx)
      unfold adC
      rw [if_neg this, if_neg this]; exact ⟨rfl, rfl⟩
    have e2 := dZ_cname U (fun c a => if a = p then U c q else U c a) p q S (X ++ Y) (fun c _ => if_pos rfl) fun c _ x hx => if_neg fun e => n1 (by rw [← e]; exact hx)
    have b1 := h S (p :: (X ++ Y)) hc hn
    rw [e1, e2]
    by_cases hq : q ∈ X ++ Y
    · rw [dZ_dup _ q _ hq]; omega
    · have b2 := h S (q :: (X ++ Y)) hc (List.nodup_cons.2 ⟨hq, n2⟩)
      omega
  · have e : dZ (S.map (adC p q U)) I = dZ (S.map U) I := dZ_ext _ _ _ _ fun c _ x hx => by unfold adC; rw [if_neg fun e => hp (by rw [← e]; exact hx)]
    rw [e]
    have := h S I hc hI
    omega
/-- Rows with one place up and one place down at most. -/
def dlU (ab : Nat × Nat) (x : Nat) : Int := (if x = ab.1 then 1 else 0) - (if x = ab.2 then 1 else 0)
theorem rowZ_ev (p : Nat) (s : Int) : ∀ (I : List Nat) (h : List Nat → Int) (B : Nat), I.Nodup → (∀ J, J.Sublist I → (h J).natAbs ≤ B) → (rowZ (fun x => if x = p then s else 0) I h).natAbs ≤ s.natAbs * B
  | [], _, _, _, _ => Nat.zero_le _
  | x :: I, h, B, hn, hh => by
    obtain ⟨h1, h2⟩ := List.nodup_cons.1 hn
    show ((if x = p then s else 0) * h I - rowZ _ I fun r => h (x :: r)).natAbs ≤ _
    by_cases q : x = p
    · rw [if_pos q, rowZ_no _ I _ fun y hy => if_neg fun e => h1 (by rw [q, ← e]; exact hy), Int.sub_zero, Int.natAbs_mul]
      exact Nat.mul_le_mul_left _ (hh I (List.sublist_cons_self x I))
    · rw [if_neg q, Int.zero_mul, Int.zero_sub, Int.natAbs_neg]
      exact rowZ_ev p s I (fun r => h (x :: r)) B h2 fun J hJ => hh (x :: J) (hJ.cons_cons x)
theorem tu_one : ∀ (L : List (Nat × Nat)) (I : List Nat), I.Nodup → (dZ (L.map dlU) I).natAbs ≤ 1
  | [], I, _ => by show (if I = [] then (1 : Int) else 0).natAbs ≤ 1; split <;> decide
  | (p, q) :: L, I, hI => by
    have ih := fun J (hJ : J.Sublist I) => tu_one L J (hJ.nodup hI)
    by_cases hpq : p = q
    · have e : dZ (((p, q) :: L).map dlU) I = 0 := rowZ_no _ _ _ fun c _ => by show (if c = p then (1 : Int) else 0) - (if c = q then 1 else 0) = 0; rw [hpq]; omega
      rw [e]; exact Nat.zero_le _
    · by_cases hp : p ∈ I
      · by_cases hq : q ∈ I
        · -- both: the columns as one
          obtain ⟨X, Y, rfl⟩ := List.append_of_mem hp
          have hperm : (X ++ p :: Y).Perm (p :: (X ++ Y)) := List.perm_middle
          have hq2 : q ∈ X ++ Y := by
            rcases List.mem_append.1 hq with r | r
            · exact List.mem_append_left _ r
            · rcases List.mem_cons.1 r with r | r
              · exact absurd r.symm hpq
              · exact List.mem_append_right _ r
          obtain ⟨Z, V, hZ⟩ := List.append_of_mem hq2
          have hperm2 : (X ++ p :: Y).Perm (p :: q :: (Z ++ V)) := hperm.trans (by rw [hZ]; exact List.Perm.cons p List.perm_middle)
          have hn := hperm2.nodup hI
          obtain ⟨n1, n2⟩ := List.nodup_cons.1 hn
          obtain ⟨n3, n4⟩ := List.nodup_cons.1 n2
          rw [dZ_perm _ hperm2]
          have n5 : ∀ x ∈ Z ++ V, x ≠ p := fun x hx e => n1 (by rw [← e]; exact List.mem_cons_of_mem _ hx)
          have n6 : ∀ x ∈ Z ++ V, x ≠ q := fun x hx e => n3 (by rw [← e]; exact hx)
          have e0 : dZ (((p, q) :: L).map dlU) (p :: q :: (Z ++ V)) = dZ (L.map dlU) (q :: (Z ++ V)) + dZ (L.map dlU) (p :: (Z ++ V)) := by
            show dlU (p, q) p * dZ (L.map dlU) (q :: (Z ++ V)) - (dlU (p, q) q * dZ (L.map dlU) (p :: (Z ++ V)) - rowZ (dlU (p, q)) (Z ++ V) _) = _
            rw [rowZ_no (dlU (p, q)) (Z ++ V) _ fun x hx => by show (if x = p then (1 : Int) else 0) - (if x = q then 1 else 0) = 0; rw [if_neg (n5 x hx), if_neg (n6 x hx)]; rfl]
            have d1 : dlU (p, q) p = 1 := by show (if p = p then (1 : Int) else 0) - (if p = q then 1 else 0) = 1; rw [if_pos rfl, if_neg hpq]; rfl
            have d2 : dlU (p, q) q = -1 := by show (if q = p then (1 : Int) else 0) - (if q = q then 1 else 0) = -1; rw [if_pos rfl, if_neg (Ne.symm hpq)]; rfl
            rw [d1, d2]; omega
          -- q named p
          let mg : Nat → Nat := fun a => if a = q then p else a
          let L' : List (Nat × Nat) := L.map fun ab => (mg ab.1, mg ab.2)
          have e1 : dZ (L'.map dlU) (p :: (Z ++ V)) = dZ (L.map dlU) (p :: (Z ++ V)) + dZ (L.map fun ab x => if x = p then dlU ab q else dlU ab x) (p :: (Z ++ V)) := by
            rw [show L'.map dlU = L.map (dlU ∘ fun ab => (mg ab.1, mg ab.2)) from List.map_map]
            refine dZ_cadd dlU (fun ab x => if x = p then dlU ab q else dlU ab x) (dlU ∘ fun ab => (mg ab.1, mg ab.2)) p L (Z ++ V) (fun ab _ => ?_) fun ab _ x hx => ?_
            · show (if p = mg ab.1 then (1 : Int) else 0) - (if p = mg ab.2 then 1 else 0) = (if p = ab.1 then (1 : Int) else 0) - (if p = ab.2 then 1 else 0) + if p = p then (if q = ab.1 then (1 : Int) else 0) - (if q = ab.2 then 1 else 0) else _
              rw [if_pos rfl]
              show (if p = (if ab.1 = q then p else ab.1) then (1 : Int) else 0) - (if p = (if ab.2 = q then p else ab.2) then 1 else 0) = _
              have k : ∀ a : Nat, (if p = (if a = q then p else a) then (1 : Int) else 0) = (if p = a then 1 else 0) + if q = a then 1 else 0 := fun a => by
                by_cases a1 : a = q
                · subst a1; rw [if_pos rfl, if_pos rfl, if_neg hpq, if_pos rfl]; rfl
                · rw [if_neg a1, if_neg (Ne.symm a1)]; omega
              rw [k, k]; omega
            · have x1 := n5 x hx
              have x2 := n6 x hx
              have e : (dlU ∘ fun ab => (mg ab.1, mg ab.2)) ab x = dlU ab x := by
                show (if x = (if ab.1 = q then p else ab.1) then (1 : Int) else 0) - (if x = (if ab.2 = q then p else ab.2) then 1 else 0) = (if x = ab.1 then (1 : Int) else 0) - (if x = ab.2 then 1 else 0)
                by_cases a1 : ab.1 = q <;> by_cases a2 : ab.2 = q <;> simp [a1, a2, x1, x2]
              exact ⟨e, e.trans (if_neg x1).symm⟩
          have e2 := dZ_cname dlU (fun ab x => if x = p then dlU ab q else dlU ab x) p q L (Z ++ V) (fun ab _ => if_pos rfl) fun ab _ x hx => if_neg (n5 x hx)
          rw [e0, Int.add_comm, ← e2, ← e1]
          exact tu_one L' (p :: (Z ++ V)) (List.nodup_cons.2 ⟨fun h => n1 (List.mem_cons_of_mem _ h), n4⟩)
        · have e : dZ (((p, q) :: L).map dlU) I = rowZ (fun x => if x = p then 1 else 0) I (dZ (L.map dlU)) := rowZ_ext _ _ _ _ _ (fun c hc => by show (if c = p then (1 : Int) else 0) - (if c = q then 1 else 0) = _; rw [if_neg fun (e : c = q) => hq (by rw [← e]; exact hc)]; omega) fun _ _ _ => rfl
          rw [e]
          exact rowZ_ev p 1 I _ 1 hI ih
      · have e : dZ (((p, q) :: L).map dlU) I = rowZ (fun x => if x = q then -1 else 0) I (dZ (L.map dlU)) := rowZ_ext _ _ _ _ _ (fun c hc => by show (if c = p then (1 : Int) else 0) - (if c = q then 1 else 0) = _; rw [if_neg fun (e : c = p) => hp (by rw [← e]; exact hc)]; split <;> rfl) fun _ _ _ => rfl
        rw [e]
        exact rowZ_ev q (-1) I _ 1 hI ih
termination_by L => L.length
end Go.Proofs.Ytlcogbcpmneknaa

/- Determinants of three rows of small polynomials; the product of two such tables. Plain mathematics: no program is named here. -/
import Derived.Test.YthbhllomikfbhaaDoorXF4
import Derived.Test.YthbhllomikfbhaaDoorXF3
namespace Go.Proofs.YthbhllomikfbhaaDoor.Poly

/-- The sizes of all coefficients. -/
def size1 : List (Int × Int) → Nat
  | [] => 0
  | t :: l => t.2.natAbs + size1 l
theorem size1_append (a b : List (Int × Int)) : size1 (a ++ b) = size1 a + size1 b := by
  induction a with
  | nil => simp [size1]
  | cons t a ih => simp only [List.cons_append, size1, ih]; omega
theorem sizeTo_one (l : List (Int × Int)) (k : Nat) (hk : k ≤ l.length) : sizeTo l k = (size1 (l.take k) : Int) := by
  induction k with
  | zero => simp [sizeTo, size1]
  | succ k ih =>
    have hk' : k < l.length := by omega
    have e : l.getD k (0, 0) = l[k] := by simp [List.getD, hk']
    rw [List.take_succ_eq_append_getElem hk', size1_append, sizeTo, ih (by omega), e]
    simp only [size1, absI]
    split <;> omega
theorem sizeL_one (l : List (Int × Int)) : sizeL l = (size1 l : Int) := by
  have := sizeTo_one l l.length (Nat.le_refl _)
  rw [List.take_length] at this
  exact this
theorem size1_put (l : List (Int × Int)) (e c : Int) : size1 (putL l e c) ≤ size1 l + c.natAbs := by
  unfold putL
  split
  · omega
  · split
    · next h =>
      have hs := take_drop_split l (ahead l e) h.1
      have e1 : size1 l = size1 (l.take (ahead l e)) + ((l.getD (ahead l e) (0, 0)).2.natAbs + size1 (l.drop (ahead l e + 1))) := by
        have := congrArg size1 hs
        rw [size1_append] at this
        simp only [size1] at this
        exact this
      split
      · rw [size1_append]; omega
      · rw [size1_append, size1_append]
        simp only [size1]
        omega
    · have e1 : size1 l = size1 (l.take (ahead l e)) + size1 (l.drop (ahead l e)) := by
        rw [← size1_append, List.take_append_drop]
      rw [size1_append, size1_append]
      simp only [size1]
      omega
theorem size1_norm (l : List (Int × Int)) : size1 (normL l) ≤ size1 l := by
  induction l with
  | nil => simp [normL, size1]
  | cons t l ih =>
    have := size1_put (normL l) t.1 t.2
    simp only [normL, size1]
    omega
theorem size1_shift (s : Int × Int) (b : List (Int × Int)) : size1 (b.map fun u => (s.1 + u.1, s.2 * u.2)) = s.2.natAbs * size1 b := by
  induction b with
  | nil => simp [size1]
  | cons u b ih => simp only [List.map_cons, size1, ih, Int.natAbs_mul, Nat.mul_add]
theorem size1_conv (a b : List (Int × Int)) : size1 (convL a b) = size1 a * size1 b := by
  induction a with
  | nil => simp [convL, size1]
  | cons s a ih => simp only [convL, size1_append, size1_shift, ih, size1, Nat.add_mul]
theorem size1_add (a b : List (Int × Int)) : size1 (addL a b) ≤ size1 a + size1 b := by
  have := size1_norm (a ++ b)
  rw [size1_append] at this
  exact this
theorem size1_mul (a b : List (Int × Int)) : size1 (mulL a b) ≤ size1 a * size1 b := by
  have := size1_norm (convL a b)
  rw [size1_conv] at this
  exact this
theorem two_size {l : List (Int × Int)} (h : Two l) : size1 l ≤ 4 := by
  obtain ⟨hf, hl⟩ := h
  match l, hf, hl with
  | [], _, _ => simp [size1]
  | [t], hf, _ =>
    have := hf.2 t (by simp)
    simp only [size1]
    omega
  | [t, u], hf, _ =>
    have h1 := hf.2 t (by simp)
    have h2 := hf.2 u (by simp)
    simp only [size1]
    omega

/-- A list as a polynomial in form. -/
def pol (l : List (Int × Int)) : Pol := ⟨normL l, norm_norm l⟩
theorem coef_pol (l : List (Int × Int)) (x : Int) : coefL (pol l).l x = coefL l x := coef_norm l x
theorem prod_pol (l : List (Int × Int)) (q : Pol) (y : Int) : prodL l (coefL q.l) y = coefL (pol l * q).l y := by
  rw [coef_mulP, prodL_comm, prodL_comm (pol l).l]
  exact prodL_congr _ (fun x => (coef_pol l x).symm) y

theorem det_one (x : Nat → List (Int × Int)) (d : Nat) : detF [x] [d] = coefL (pol (x d)).l := by
  funext y
  have e : detF [x] [d] y = prodL (x d) oneF y - 0 := rfl
  have e2 : oneF = fun z => if 0 = z then 1 else 0 := funext fun z => by
    unfold oneF
    by_cases h : z = 0
    · rw [if_pos h, if_pos h.symm]
    · rw [if_neg h, if_neg (fun e => h e.symm)]
  rw [e, e2, prodL_one, coef_pol]
  simp
theorem det_two (x z : Nat → List (Int × Int)) (c d : Nat) : detF [x, z] [c, d] = coefL (pol (x c) * pol (z d) + -(pol (x d) * pol (z c))).l := by
  funext y
  have e : detF [x, z] [c, d] y = prodL (x c) (detF [z] [d]) y - (prodL (x d) (detF [z] [c]) y - 0) := rfl
  rw [e, det_one, det_one, prod_pol, prod_pol, coef_addP, coef_negP]
  omega
theorem det_three (x : Nat → Nat → List (Int × Int)) (y : Int) : detF [x 0, x 1, x 2] [0, 1, 2] y = coefL (det3 fun i j => pol (x i j)).l y := by
  have e : detF [x 0, x 1, x 2] [0, 1, 2] y = prodL (x 0 0) (detF [x 1, x 2] [1, 2]) y - (prodL (x 0 1) (detF [x 1, x 2] [0, 2]) y - (prodL (x 0 2) (detF [x 1, x 2] [0, 1]) y - 0)) := rfl
  rw [e, det_two, det_two, det_two, prod_pol, prod_pol, prod_pol]
  simp only [det3]
  rw [coef_addP, coef_addP, coef_negP]
  omega
theorem detOf_three {T : List (List (List (Int × Int)))} (h : T.length = 3) (y : Int) : detOf T y = coefL (det3 fun i j => pol ((T.getD i []).getD j [])).l y := by
  match T, h with
  | [R0, R1, R2], _ =>
    have e : detOf [R0, R1, R2] y = detF [fun c => R0.getD c [], fun c => R1.getD c [], fun c => R2.getD c []] [0, 1, 2] y := rfl
    have e2 := det_three (fun i j => ([R0, R1, R2].getD i []).getD j []) y
    rw [e]
    exact e2

/-- The entries of the product of two tables, summed up to k. -/
def sumK (A B : List (List (List (Int × Int)))) (r c : Nat) : Nat → List (Int × Int)
  | 0 => []
  | k + 1 => addL (sumK A B r c k) (mulL ((A.getD r []).getD k []) ((B.getD k []).getD c []))
theorem pol_sum (A B : List (List (List (Int × Int)))) (r c : Nat) : pol (sumK A B r c 3) = pol ((A.getD r []).getD 0 []) * pol ((B.getD 0 []).getD c []) + pol ((A.getD r []).getD 1 []) * pol ((B.getD 1 []).getD c []) + pol ((A.getD r []).getD 2 []) * pol ((B.getD 2 []).getD c []) := by
  refine Pol.same fun x => ?_
  have key : ∀ a b : List (Int × Int), coefL (mulL a b) x = coefL (pol a * pol b).l x := fun a b => by
    rw [← prod_pol, coef_mul]
    exact prodL_congr _ (fun z => (coef_pol b z).symm) x
  rw [coef_addP, coef_addP, coef_pol]
  simp only [sumK, coef_add, key]
  simp [coefL]

theorem fine_neg {l : List (Int × Int)} {E C : Int} (h : Fine l E C) (hC : 0 ≤ C) : Fine (normL (negL l)) E C :=
  fine_norm fun x => by
    have := fine_coef h hC x
    rw [coef_neg]
    refine ⟨by omega, by omega, fun h0 => this.2.2 (by omega)⟩

/-- Tables of small polynomials may be handed in. -/
theorem two_good {T : List (List (List (Int × Int)))} (h : TwoT T) : GoodT T 3 := by
  refine ⟨h.1, fun R hR => ?_⟩
  obtain ⟨i, hi, rfl⟩ := List.getElem_of_mem hR
  have e : T.getD i [] = T[i] := by simp [List.getD, hi]
  have h1 := h.2 i (by have := h.1; omega)
  rw [e] at h1
  refine ⟨h1.1, fun l hl => ?_⟩
  obtain ⟨j, hj, rfl⟩ := List.getElem_of_mem hl
  have e2 : T[i].getD j [] = T[i][j] := by simp [List.getD, hj]
  have h2 := h1.2 j (by have := h1.1; omega)
  rw [e2] at h2
  refine ⟨fine_may h2.1 (by decide) (by decide) (by decide), ?_⟩
  rw [sizeL_one]
  have := two_size h2
  omega

theorem two_mul {a b : List (Int × Int)} (ha : Two a) (hb : Two b) : Fine (mulL a b) 8 36 := by
  have := fine_mul 36 ha.1 hb.1 (by decide) (by decide) (by decide) (by decide)
  exact this
theorem sumK_fine {A B : List (List (List (Int × Int)))} (hA : TwoT A) (hB : TwoT B) (r c k : Nat) (hr : r < 3) (hc : c < 3) (hk : k ≤ 3) : Fine (sumK A B r c k) 8 (36 * (k : Int)) ∧ size1 (sumK A B r c k) ≤ 16 * k := by
  induction k with
  | zero => exact ⟨⟨canon_self List.Pairwise.nil (fun t h => by cases h), fun t h => by cases h⟩, by simp [sumK, size1]⟩
  | succ k ih =>
    have ih := ih (by omega)
    have h1 := (hA.2 r hr).2 k (by omega)
    have h2 := (hB.2 k (by omega)).2 c hc
    have h3 := two_mul h1 h2
    have h4 := fine_add ih.1 h3 (by omega) (by decide)
    have e : 36 * (k : Int) + 36 = 36 * ((k + 1 : Nat) : Int) := by omega
    rw [e] at h4
    refine ⟨h4, ?_⟩
    have h5 := size1_add (sumK A B r c k) (mulL ((A.getD r []).getD k []) ((B.getD k []).getD c []))
    have h6 := size1_mul ((A.getD r []).getD k []) ((B.getD k []).getD c [])
    have h7 : size1 ((A.getD r []).getD k []) * size1 ((B.getD k []).getD c []) ≤ 4 * 4 := Nat.mul_le_mul (two_size h1) (two_size h2)
    have e2 : sumK A B r c (k + 1) = addL (sumK A B r c k) (mulL ((A.getD r []).getD k []) ((B.getD k []).getD c [])) := rfl
    rw [e2]
    omega
theorem sumK_may {A B : List (List (List (Int × Int)))} (hA : TwoT A) (hB : TwoT B) (r c k : Nat) (hr : r < 3) (hc : c < 3) (hk : k ≤ 3) : mayB (sumK A B r c k) = true := by
  have h := (sumK_fine hA hB r c k hr hc hk).1
  exact fine_may h (by decide) (by decide) (by omega)
theorem mul_may {a b : List (Int × Int)} (ha : Two a) (hb : Two b) : mayB (mulL a b) = true := fine_may (two_mul ha hb) (by decide) (by decide) (by decide)

/-- The table of the product. -/
def ProdT (A B P : List (List (List (Int × Int)))) : Prop := P.length = 3 ∧ ∀ i, i < 3 → (P.getD i []).length = 3 ∧ ∀ j, j < 3 → (P.getD i []).getD j [] = sumK A B i j 3
theorem prod_good {A B P : List (List (List (Int × Int)))} (hA : TwoT A) (hB : TwoT B) (h : ProdT A B P) : GoodT P 3 := by
  refine ⟨h.1, fun R hR => ?_⟩
  obtain ⟨i, hi, rfl⟩ := List.getElem_of_mem hR
  have e : P.getD i [] = P[i] := by simp [List.getD, hi]
  have hi3 : i < 3 := by have := h.1; omega
  have h1 := h.2 i hi3
  rw [e] at h1
  refine ⟨h1.1, fun l hl => ?_⟩
  obtain ⟨j, hj, rfl⟩ := List.getElem_of_mem hl
  have e2 : P[i].getD j [] = P[i][j] := by simp [List.getD, hj]
  have hj3 : j < 3 := by have := h1.1; omega
  have h2 := h1.2 j hj3
  rw [e2] at h2
  rw [h2]
  refine ⟨sumK_may hA hB i j 3 hi3 hj3 (Nat.le_refl _), ?_⟩
  rw [sizeL_one]
  have := (sumK_fine hA hB i j 3 hi3 hj3 (Nat.le_refl _)).2
  omega

theorem two_pol {l : List (Int × Int)} (h : Two l) : Fine (pol l).l 4 2 := by
  have e : (pol l).l = l := norm_self h.1.1
  rw [e]
  exact h.1
theorem det3_fine {T : List (List (List (Int × Int)))} (h : TwoT T) : Fine (det3 fun i j => pol ((T.getD i []).getD j [])).l 12 3888 := by
  have hp : ∀ i j, i < 3 → j < 3 → Fine (pol ((T.getD i []).getD j [])).l 4 2 := fun i j hi hj => two_pol ((h.2 i hi).2 j hj)
  have h2 : ∀ c d, c < 3 → d < 3 → Fine (pol ((T.getD 1 []).getD c []) * pol ((T.getD 2 []).getD d []) + -(pol ((T.getD 1 []).getD d []) * pol ((T.getD 2 []).getD c []))).l 8 72 := fun c d hc hd => by
    have m1 := fine_mul 36 (hp 1 c (by decide) hc) (hp 2 d (by decide) hd) (by decide) (by decide) (by decide) (by decide)
    have m2 := fine_neg (fine_mul 36 (hp 1 d (by decide) hd) (hp 2 c (by decide) hc) (by decide) (by decide) (by decide) (by decide)) (by decide)
    exact fine_add m1 m2 (by decide) (by decide)
  have m0 := fine_mul 1296 (hp 0 0 (by decide) (by decide)) (h2 1 2 (by decide) (by decide)) (by decide) (by decide) (by decide) (by decide)
  have m1 := fine_neg (fine_mul 1296 (hp 0 1 (by decide) (by decide)) (h2 0 2 (by decide) (by decide)) (by decide) (by decide) (by decide) (by decide)) (by decide)
  have m2 := fine_mul 1296 (hp 0 2 (by decide) (by decide)) (h2 0 1 (by decide) (by decide)) (by decide) (by decide) (by decide) (by decide)
  exact fine_add m0 (fine_add m1 m2 (by decide) (by decide)) (by decide) (by decide)

theorem det_may {T : List (List (List (Int × Int)))} (h : TwoT T) {l : List (Int × Int)} (hl : Canon l (detOf T)) : mayB l = true ∧ l = (det3 fun i j => pol ((T.getD i []).getD j [])).l := by
  have e : l = (det3 fun i j => pol ((T.getD i []).getD j [])).l := canon_unique hl (canon_congr (det3_fine h).1 fun y => (detOf_three h.1 y).symm)
  refine ⟨?_, e⟩
  rw [e]
  exact fine_may (det3_fine h) (by decide) (by decide) (by decide)

/-- The determinant of the product is the product of the determinants. -/
theorem det_prod {A B P : List (List (List (Int × Int)))} (hA : TwoT A) (hB : TwoT B) (hP : ProdT A B P) {a b p : List (Int × Int)} (ha : Canon a (detOf A)) (hb : Canon b (detOf B)) (hp : Canon p (detOf P)) : p = mulL a b := by
  refine canon_unique hp (canon_congr (canon_norm (convL a b)) fun y => ?_)
  rw [detOf_three hP.1, coef_conv, (det_may hA ha).2, (det_may hB hb).2, ← coef_mulP, ← det3_mul]
  have e : ∀ i j, i < 3 → j < 3 → pol ((P.getD i []).getD j []) = pol ((A.getD i []).getD 0 []) * pol ((B.getD 0 []).getD j []) + pol ((A.getD i []).getD 1 []) * pol ((B.getD 1 []).getD j []) + pol ((A.getD i []).getD 2 []) * pol ((B.getD 2 []).getD j []) := fun i j hi hj => by
    rw [(hP.2 i hi).2 j hj]
    exact pol_sum A B i j
  simp only [det3]
  rw [e 0 0 (by decide) (by decide), e 0 1 (by decide) (by decide), e 0 2 (by decide) (by decide), e 1 0 (by decide) (by decide), e 1 1 (by decide) (by decide), e 1 2 (by decide) (by decide), e 2 0 (by decide) (by decide), e 2 1 (by decide) (by decide), e 2 2 (by decide) (by decide)]
end Go.Proofs.YthbhllomikfbhaaDoor.Poly

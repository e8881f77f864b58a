/- Polynomials in form are a ring: expressions of which the difference cancels are the same; so the determinant of a product of three rows is the product of the determinants. Plain mathematics: no program is named here. -/
import Derived.Test.YthbhllomikfbhaaDoorXVals
import Derived.Test.YthbhllomikfbhaaDoorPE0
namespace Go.Proofs.YthbhllomikfbhaaDoor.Poly

theorem norm_norm (l : List (Int × Int)) : normL (normL l) = normL l := norm_eq fun x => coef_norm l x
theorem norm_self {l : List (Int × Int)} (h : Canon l (coefL l)) : normL l = l := canon_unique (canon_norm l) h

/-- A polynomial in form. -/
structure Pol where
  l : List (Int × Int)
  h : normL l = l

theorem Pol.same {a b : Pol} (h : ∀ x, coefL a.l x = coefL b.l x) : a = b := by
  have e : a.l = b.l := by rw [← a.h, ← b.h]; exact norm_eq h
  cases a; cases b; simp only at e; subst e; rfl
theorem Pol.eqL {a b : Pol} (h : a.l = b.l) : a = b := by cases a; cases b; simp only at h; subst h; rfl
def Pol.con (c : Int) : Pol := ⟨normL [(0, c)], norm_norm _⟩
instance : Add Pol := ⟨fun a b => ⟨addL a.l b.l, norm_norm _⟩⟩
instance : Mul Pol := ⟨fun a b => ⟨mulL a.l b.l, norm_norm _⟩⟩
instance : Neg Pol := ⟨fun a => ⟨normL (negL a.l), norm_norm _⟩⟩
theorem coef_con (c x : Int) : coefL (Pol.con c).l x = if 0 = x then c else 0 := by
  show coefL (normL _) x = _
  rw [coef_norm]
  simp [coefL]
theorem coef_addP (a b : Pol) (x : Int) : coefL (a + b).l x = coefL a.l x + coefL b.l x := coef_add _ _ _
theorem coef_mulP (a b : Pol) (x : Int) : coefL (a * b).l x = prodL a.l (coefL b.l) x := coef_mul _ _ _
theorem coef_negP (a : Pol) (x : Int) : coefL (-a).l x = -coefL a.l x := by
  show coefL (normL _) x = _
  rw [coef_norm, coef_neg]
theorem p_add_comm (a b : Pol) : a + b = b + a := Pol.eqL (addL_comm _ _)
theorem p_add_assoc (a b c : Pol) : a + b + c = a + (b + c) := Pol.eqL (addL_assoc _ _ _)
theorem p_mul_comm (a b : Pol) : a * b = b * a := Pol.eqL (mulL_comm _ _)
theorem p_mul_assoc (a b c : Pol) : a * b * c = a * (b * c) := Pol.eqL (mulL_assoc _ _ _)
theorem p_mul_add (a b c : Pol) : a * (b + c) = a * b + a * c := Pol.eqL (mulL_add _ _ _)
theorem p_add_mul (a b c : Pol) : (a + b) * c = a * c + b * c := by rw [p_mul_comm, p_mul_add, p_mul_comm c a, p_mul_comm c b]
theorem p_zero_add (a : Pol) : Pol.con 0 + a = a := Pol.same fun x => by rw [coef_addP, coef_con]; split <;> omega
theorem p_mul_zero (a : Pol) : a * Pol.con 0 = Pol.con 0 := Pol.same fun x => by
  have e : coefL (Pol.con 0).l = fun _ => 0 := funext fun y => by rw [coef_con]; split <;> rfl
  rw [coef_mulP, e, prodL_zero]
theorem p_mul_one (a : Pol) : a * Pol.con 1 = a := Pol.same fun x => by
  have e : coefL (Pol.con 1).l = fun y => if 0 = y then 1 else 0 := funext fun y => coef_con 1 y
  rw [coef_mulP, e, prodL_one]
  simp
theorem p_neg_add (a : Pol) : -a + a = Pol.con 0 := Pol.same fun x => by rw [coef_addP, coef_negP, coef_con]; split <;> omega
theorem p_neg_neg (a : Pol) : - -a = a := Pol.same fun x => by rw [coef_negP, coef_negP]; omega
theorem p_neg_sum (a b : Pol) : -(a + b) = -a + -b := Pol.same fun x => by simp only [coef_negP, coef_addP]; omega
theorem p_neg_zero : -Pol.con 0 = Pol.con 0 := Pol.same fun x => by rw [coef_negP, coef_con]; split <;> omega
theorem p_mul_neg (a b : Pol) : a * -b = -(a * b) := Pol.same fun x => by
  have e : coefL (-b).l = fun y => (-1) * coefL b.l (y - 0) := funext fun y => by rw [coef_negP]; simp
  rw [coef_mulP, coef_negP, coef_mulP, e, prodL_shift]
  simp
theorem p_neg_mul (a b : Pol) : -a * b = -(a * b) := by rw [p_mul_comm, p_mul_neg, p_mul_comm]

/-- An expression in letters. -/
inductive Ex where
  | v (i : Nat)
  | add (a b : Ex)
  | mul (a b : Ex)
  | neg (a : Ex)
def Ex.eval (r : Nat → Pol) : Ex → Pol
  | .v i => r i
  | .add a b => a.eval r + b.eval r
  | .mul a b => a.eval r * b.eval r
  | .neg a => -(a.eval r)

def monE (r : Nat → Pol) : List Nat → Pol
  | [] => Pol.con 1
  | i :: m => r i * monE r m
def insM (i : Nat) : List Nat → List Nat
  | [] => [i]
  | j :: m => if i ≤ j then i :: j :: m else j :: insM i m
def mulM : List Nat → List Nat → List Nat
  | [], m => m
  | i :: k, m => insM i (mulM k m)
theorem ins_eval (r : Nat → Pol) (i : Nat) (m : List Nat) : monE r (insM i m) = r i * monE r m := by
  induction m with
  | nil => rfl
  | cons j m ih =>
    simp only [insM]
    split
    · rfl
    · simp only [monE, ih]
      rw [← p_mul_assoc, ← p_mul_assoc, p_mul_comm (r j)]
theorem mulM_eval (r : Nat → Pol) (a b : List Nat) : monE r (mulM a b) = monE r a * monE r b := by
  induction a with
  | nil => simp only [mulM, monE]; rw [p_mul_comm, p_mul_one]
  | cons i a ih => simp only [mulM, ins_eval, ih, monE, p_mul_assoc]

def signE (s : Bool) (a : Pol) : Pol := if s then -a else a
def sumP (r : Nat → Pol) : List (Bool × List Nat) → Pol
  | [] => Pol.con 0
  | t :: l => signE t.1 (monE r t.2) + sumP r l
theorem sumP_append (r : Nat → Pol) (a b : List (Bool × List Nat)) : sumP r (a ++ b) = sumP r a + sumP r b := by
  induction a with
  | nil => simp only [List.nil_append, sumP, p_zero_add]
  | cons t a ih => simp only [List.cons_append, sumP, ih, p_add_assoc]
theorem sign_not (s : Bool) (a : Pol) : signE (!s) a = -signE s a := by
  cases s
  · rfl
  · simp only [signE, Bool.not_true, Bool.false_eq_true, if_false, if_true, p_neg_neg]
theorem sign_mul (s t : Bool) (a b : Pol) : signE (s != t) (a * b) = signE s a * signE t b := by
  cases s <;> cases t <;> simp [signE, p_mul_neg, p_neg_mul, p_neg_neg]
def negN (l : List (Bool × List Nat)) : List (Bool × List Nat) := l.map fun t => (!t.1, t.2)
theorem negN_eval (r : Nat → Pol) (l : List (Bool × List Nat)) : sumP r (negN l) = -sumP r l := by
  induction l with
  | nil => exact p_neg_zero.symm
  | cons t l ih =>
    have e : negN (t :: l) = (!t.1, t.2) :: negN l := rfl
    rw [e]
    simp only [sumP, ih, sign_not, p_neg_sum]
def rowN (t : Bool × List Nat) (l : List (Bool × List Nat)) : List (Bool × List Nat) := l.map fun u => (t.1 != u.1, mulM t.2 u.2)
theorem rowN_eval (r : Nat → Pol) (t : Bool × List Nat) (l : List (Bool × List Nat)) : sumP r (rowN t l) = signE t.1 (monE r t.2) * sumP r l := by
  induction l with
  | nil => exact (p_mul_zero _).symm
  | cons u l ih =>
    have e : rowN t (u :: l) = (t.1 != u.1, mulM t.2 u.2) :: rowN t l := rfl
    rw [e]
    simp only [sumP, ih, mulM_eval, sign_mul, p_mul_add]
def mulN : List (Bool × List Nat) → List (Bool × List Nat) → List (Bool × List Nat)
  | [], _ => []
  | t :: a, b => rowN t b ++ mulN a b
theorem mulN_eval (r : Nat → Pol) (a b : List (Bool × List Nat)) : sumP r (mulN a b) = sumP r a * sumP r b := by
  induction a with
  | nil => simp only [mulN, sumP]; rw [p_mul_comm, p_mul_zero]
  | cons t a ih => simp only [mulN, sumP_append, rowN_eval, ih, sumP, p_add_mul]
def Ex.norm : Ex → List (Bool × List Nat)
  | .v i => [(false, [i])]
  | .add a b => a.norm ++ b.norm
  | .mul a b => mulN a.norm b.norm
  | .neg a => negN a.norm
theorem norm_eval (r : Nat → Pol) (e : Ex) : sumP r e.norm = e.eval r := by
  induction e with
  | v i =>
    simp only [Ex.norm, sumP, signE, monE, Ex.eval, p_mul_one]
    rw [p_add_comm, p_zero_add]
    rfl
  | add a b ha hb => simp only [Ex.norm, sumP_append, ha, hb, Ex.eval]
  | mul a b ha hb => simp only [Ex.norm, mulN_eval, ha, hb, Ex.eval]
  | neg a ha => simp only [Ex.norm, negN_eval, ha, Ex.eval]

/-- Take one such term out. -/
def takeN (t : Bool × List Nat) : List (Bool × List Nat) → Option (List (Bool × List Nat))
  | [] => none
  | u :: l => if u.1 == t.1 && u.2 == t.2 then some l else (takeN t l).map (u :: ·)
theorem takeN_eval (r : Nat → Pol) (t : Bool × List Nat) (l m : List (Bool × List Nat)) (h : takeN t l = some m) : sumP r l = signE t.1 (monE r t.2) + sumP r m := by
  induction l generalizing m with
  | nil => cases h
  | cons u l ih =>
    simp only [takeN] at h
    split at h
    · next e =>
      simp only [Bool.and_eq_true, beq_iff_eq] at e
      have h := Option.some.inj h
      subst h
      simp only [sumP, e.1, e.2]
    · obtain ⟨m', h1, h2⟩ := Option.map_eq_some_iff.1 h
      subst h2
      simp only [sumP, ih m' h1]
      rw [← p_add_assoc, ← p_add_assoc, p_add_comm (signE u.1 _)]
/-- All terms cancel. -/
def voidN : Nat → List (Bool × List Nat) → Bool
  | _, [] => true
  | 0, _ :: _ => false
  | n + 1, t :: l => match takeN (!t.1, t.2) l with
    | some m => voidN n m
    | none => false
theorem voidN_eval (r : Nat → Pol) (n : Nat) (l : List (Bool × List Nat)) (h : voidN n l = true) : sumP r l = Pol.con 0 := by
  induction n generalizing l with
  | zero =>
    cases l with
    | nil => rfl
    | cons t l => cases h
  | succ n ih =>
    cases l with
    | nil => rfl
    | cons t l =>
      simp only [voidN] at h
      split at h
      · next m hm =>
        simp only [sumP, takeN_eval r _ _ _ hm, sign_not, ih m h]
        rw [← p_add_assoc, p_add_comm (signE t.1 _), p_neg_add, p_zero_add]
      · cases h

/-- Two expressions of which the difference cancels are the same. -/
theorem ex_same (r : Nat → Pol) (a b : Ex) (h : voidN 1000 ((Ex.add a (.neg b)).norm) = true) : a.eval r = b.eval r := by
  have h1 := voidN_eval r _ _ h
  rw [norm_eval] at h1
  have h2 : a.eval r + -b.eval r = Pol.con 0 := h1
  calc a.eval r = Pol.con 0 + a.eval r := (p_zero_add _).symm
    _ = (-b.eval r + b.eval r) + a.eval r := by rw [p_neg_add]
    _ = (a.eval r + -b.eval r) + b.eval r := by rw [p_add_comm, ← p_add_assoc]
    _ = b.eval r := by rw [h2, p_zero_add]

/-- The determinant of three rows. -/
def det3 {α : Type} [Add α] [Mul α] [Neg α] (x : Nat → Nat → α) : α :=
  x 0 0 * (x 1 1 * x 2 2 + -(x 1 2 * x 2 1)) + (-(x 0 1 * (x 1 0 * x 2 2 + -(x 1 2 * x 2 0))) + x 0 2 * (x 1 0 * x 2 1 + -(x 1 1 * x 2 0)))
instance : Add Ex := ⟨Ex.add⟩
instance : Mul Ex := ⟨Ex.mul⟩
instance : Neg Ex := ⟨Ex.neg⟩
theorem det3_same : voidN 1000 ((Ex.add (det3 fun i j => Ex.v (3 * i) * Ex.v (9 + j) + Ex.v (3 * i + 1) * Ex.v (12 + j) + Ex.v (3 * i + 2) * Ex.v (15 + j)) (.neg (det3 (fun i j => Ex.v (3 * i + j)) * det3 (fun i j => Ex.v (9 + 3 * i + j))))).norm) = true := by decide +kernel

theorem eval_add (r : Nat → Pol) (a b : Ex) : (a + b).eval r = a.eval r + b.eval r := rfl
theorem eval_mul (r : Nat → Pol) (a b : Ex) : (a * b).eval r = a.eval r * b.eval r := rfl
theorem eval_neg (r : Nat → Pol) (a : Ex) : (-a).eval r = -a.eval r := rfl
theorem eval_v (r : Nat → Pol) (i : Nat) : (Ex.v i).eval r = r i := rfl
/-- The determinant of a product. -/
theorem det3_mul (a b : Nat → Nat → Pol) : det3 (fun i j => a i 0 * b 0 j + a i 1 * b 1 j + a i 2 * b 2 j) = det3 a * det3 b := by
  have h := ex_same (fun k => if k < 9 then a (k / 3) (k % 3) else b ((k - 9) / 3) ((k - 9) % 3)) _ _ det3_same
  simp only [det3, eval_add, eval_mul, eval_neg, eval_v] at h ⊢
  simpa using h
end Go.Proofs.YthbhllomikfbhaaDoor.Poly

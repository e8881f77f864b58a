/- Several texts of the proof, one behind the other. -/
import Derived.Test.YtnlcknlodjjdbaaDoorBKaP
import Derived.Test.YtnlcknlodjjdbaaDoorTG4P
/- Brackets and Jones's polynomials reckoned: the ties one behind the other, as lists. -/
namespace Go.Proofs.YtnlcknlodjjdbaaDoor.Poly

def ins (e c : Int) : List (Int × Int) → List (Int × Int)
  | [] => [(e, c)]
  | t :: r => if t.1 = e then (e, t.2 + c) :: r else if e < t.1 then (e, c) :: t :: r else t :: ins e c r
theorem ins_coef (e c : Int) (l : List (Int × Int)) (y : Int) : coefL (ins e c l) y = coefL l y + (if e = y then c else 0) := by
  induction l with
  | nil => simp [ins, coefL]
  | cons t r ih =>
    unfold ins
    split
    · rename_i h
      simp only [coefL, h]
      split <;> omega
    · split
      · simp only [coefL]; omega
      · simp only [coefL, ih]; omega
def addP (p q : List (Int × Int)) : List (Int × Int) := q.foldl (fun r t => ins t.1 t.2 r) p
theorem addP_coef (p q : List (Int × Int)) (y : Int) : coefL (addP p q) y = coefL p y + coefL q y := by
  unfold addP
  induction q generalizing p with
  | nil => simp [coefL]
  | cons t r ih => rw [List.foldl_cons, ih, ins_coef]; simp only [coefL]; omega
def mpP (e g : Int) (p : List (Int × Int)) : List (Int × Int) := p.map fun t => (t.1 + e, g * t.2)
theorem mpP_coef (e g : Int) (p : List (Int × Int)) (y : Int) : coefL (mpP e g p) y = g * coefL p (y - e) := by
  unfold mpP
  induction p with
  | nil => simp [coefL]
  | cons t r ih =>
    simp only [List.map_cons, coefL, ih, Int.mul_add]
    by_cases h : t.1 = y - e
    · rw [if_pos (by omega), if_pos h]
    · rw [if_neg (by omega), if_neg h, Int.mul_zero]
def dlP (p : List (Int × Int)) : List (Int × Int) := addP (mpP (-2) (-1) p) (mpP 2 (-1) p)
theorem dlP_coef (p : List (Int × Int)) : coefL (dlP p) = dlA (coefL p) := by
  funext y
  unfold dlP dlA
  rw [addP_coef, mpP_coef, mpP_coef, show y - -2 = y + 2 by omega]
  omega
def dlPN : Nat → List (Int × Int) → List (Int × Int)
  | 0, p => p
  | n + 1, p => dlP (dlPN n p)
theorem dlPN_coef (n : Nat) (p : List (Int × Int)) : coefL (dlPN n p) = dlN n (coefL p) := by
  induction n with
  | zero => rfl
  | succ n ih => show coefL (dlP (dlPN n p)) = dlA (dlN n (coefL p)); rw [dlP_coef, ih]
theorem shP_coef (e : Int) (p : List (Int × Int)) : coefL (mpP e 1 p) = shA e (coefL p) := by
  funext y
  rw [mpP_coef, Int.one_mul]; rfl
/-- Ties, and what they are worth. -/
abbrev TSt := List (List Nat × List (Int × Int))
def putS (T : List Nat) (p : List (Int × Int)) : TSt → TSt
  | [] => [(T, p)]
  | x :: r => if x.1 = T then (T, addP x.2 p) :: r else x :: putS T p r
def valS : TSt → List Nat → Int → Int
  | [], _, _ => 0
  | x :: r, T, y => (if x.1 = T then coefL x.2 y else 0) + valS r T y
theorem putS_val (T : List Nat) (p : List (Int × Int)) (S : TSt) (U : List Nat) (y : Int) : valS (putS T p S) U y = valS S U y + (if T = U then coefL p y else 0) := by
  induction S with
  | nil => simp [putS, valS]
  | cons x r ih =>
    unfold putS
    split
    · rename_i h
      simp only [valS, h, addP_coef]
      split <;> omega
    · simp only [valS, ih]; omega
theorem putS_keys (T : List Nat) (p : List (Int × Int)) (S : TSt) (U : List Nat) : (∃ x ∈ putS T p S, x.1 = U) ↔ (U = T ∨ ∃ x ∈ S, x.1 = U) := by
  induction S with
  | nil => simp [putS, eq_comm]
  | cons x r ih =>
    unfold putS
    split
    · rename_i h
      simp only [List.mem_cons, exists_eq_or_imp, h]
      constructor
      · rintro (e | e)
        · exact Or.inl e.symm
        · exact Or.inr (Or.inr e)
      · rintro (e | e | e)
        · exact Or.inl e.symm
        · exact Or.inl e
        · exact Or.inr e
    · simp only [List.mem_cons, exists_eq_or_imp, ih]
      constructor
      · rintro (e | e | e)
        · exact Or.inr (Or.inl e)
        · exact Or.inl e
        · exact Or.inr (Or.inr e)
      · rintro (e | e | e)
        · exact Or.inr (Or.inl e)
        · exact Or.inl e
        · exact Or.inr (Or.inr e)
def KeyD (S : TSt) : Prop := S.Pairwise fun a b => a.1 ≠ b.1
theorem putS_d {T : List Nat} {p : List (Int × Int)} {S : TSt} (h : KeyD S) : KeyD (putS T p S) := by
  induction S with
  | nil => simp [putS, KeyD]
  | cons x r ih =>
    unfold KeyD at h ih ⊢
    rw [List.pairwise_cons] at h
    unfold putS
    split
    · rename_i e
      rw [List.pairwise_cons]
      exact ⟨fun b hb => by rw [← e]; exact h.1 b hb, h.2⟩
    · rename_i e
      rw [List.pairwise_cons]
      refine ⟨fun b hb hbe => ?_, ih h.2⟩
      rcases (putS_keys T p r b.1).1 ⟨b, hb, rfl⟩ with q | ⟨x', hx', q⟩
      · exact e (hbe.trans q)
      · exact h.1 x' hx' (hbe.trans q.symm)
theorem valS_none {S : TSt} {T : List Nat} (h : ∀ x ∈ S, x.1 ≠ T) (y : Int) : valS S T y = 0 := by
  induction S with
  | nil => rfl
  | cons x r ih =>
    unfold valS
    rw [if_neg (h x (.head _)), ih fun z hz => h z (List.mem_cons_of_mem _ hz)]; rfl
theorem valS_at {S : TSt} (h : KeyD S) {x : List Nat × List (Int × Int)} (hx : x ∈ S) (y : Int) : coefL x.2 y = valS S x.1 y := by
  induction S with
  | nil => cases hx
  | cons z r ih =>
    unfold KeyD at h ih
    rw [List.pairwise_cons] at h
    unfold valS
    rcases List.mem_cons.1 hx with rfl | hm
    · rw [if_pos rfl, valS_none fun b hb => (h.1 b hb).symm]; omega
    · rw [if_neg (h.1 x hm), ih h.2 hm]; omega
def stpS (C : List Cr) (k : Nat) (R : TSt) (x : List Nat × List (Int × Int)) : TSt := putS (tB C k x.1) (dlPN (cB C k x.1) (mpP (-1) 1 x.2)) (putS (tA C k x.1) (dlPN (cA C k x.1) (mpP 1 1 x.2)) R)
def runS (C : List Cr) (c0 : Nat) : Nat → TSt
  | 0 => [(List.range 26, dlPN c0 [(0, 1)])]
  | k + 1 => (runS C c0 k).foldl (stpS C k) []
structure RunAt (C : List Cr) (c0 k : Nat) (S : TSt) : Prop where
  dist : KeyD S
  worth : ∀ T y, valS S T y = mS C c0 k T y
  all : ∀ s, s < 2 ^ k → ∃ x ∈ S, x.1 = kyS C s k
theorem fold_go (C : List Cr) (c0 k : Nat) (S : TSt) (h : RunAt C c0 k S) : ∀ (L D : TSt) (R : TSt), D ++ L = S → KeyD R → (∀ U y, valS R U y = undG C c0 k (fun T => decide (∃ x ∈ D, x.1 = T)) U y) → (∀ x ∈ D, (∃ z ∈ R, z.1 = tA C k x.1) ∧ (∃ z ∈ R, z.1 = tB C k x.1)) →
    KeyD (L.foldl (stpS C k) R) ∧ (∀ U y, valS (L.foldl (stpS C k) R) U y = undG C c0 k (fun T => decide (∃ x ∈ S, x.1 = T)) U y) ∧ (∀ x ∈ S, (∃ z ∈ L.foldl (stpS C k) R, z.1 = tA C k x.1) ∧ (∃ z ∈ L.foldl (stpS C k) R, z.1 = tB C k x.1))
  | [], D, R, e, h1, h2, h3 => by
    rw [List.append_nil] at e
    subst e
    exact ⟨h1, h2, h3⟩
  | x :: L, D, R, e, h1, h2, h3 => by
    rw [List.foldl_cons]
    have hxS : x ∈ S := by rw [← e]; simp
    have hdS := h.dist
    rw [← e] at hdS
    unfold KeyD at hdS
    have hn : ∀ z ∈ D, z.1 ≠ x.1 := fun z hz => (List.pairwise_append.1 hdS).2.2 z hz x (.head _)
    refine fold_go C c0 k S h L (D ++ [x]) (stpS C k R x) (by rw [List.append_assoc]; exact e) (putS_d (putS_d h1)) (fun U y => ?_) (fun z hz => ?_)
    · unfold stpS
      rw [putS_val, putS_val, h2]
      have hw : coefL x.2 = mS C c0 k x.1 := by funext y; rw [valS_at h.dist hxS, h.worth]
      rw [dlPN_coef, dlPN_coef, shP_coef, shP_coef, hw]
      rw [undG_step C c0 k U x.1 (dn := fun T => decide (∃ z ∈ D, z.1 = T)) (dn' := fun T => decide (∃ z ∈ D ++ [x], z.1 = T)) (decide_eq_false fun ⟨z, hz, q⟩ => hn z hz q) (fun s => by
        simp only [decide_eq_true_eq, List.mem_append, List.mem_singleton]
        constructor
        · rintro ⟨z, hz | rfl, q⟩
          · exact Or.inl ⟨z, hz, q⟩
          · exact Or.inr q.symm
        · rintro (⟨z, hz, q⟩ | q)
          · exact ⟨z, Or.inl hz, q⟩
          · exact ⟨x, Or.inr rfl, q.symm⟩) y]
    · unfold stpS
      rw [putS_keys, putS_keys, putS_keys, putS_keys]
      rcases List.mem_append.1 hz with hz | hz
      · have := h3 z hz
        exact ⟨Or.inr (Or.inr this.1), Or.inr (Or.inr this.2)⟩
      · obtain rfl := List.mem_singleton.1 hz
        exact ⟨Or.inr (Or.inl rfl), Or.inl rfl⟩
theorem run_at (C : List Cr) (c0 : Nat) : ∀ k, RunAt C c0 k (runS C c0 k)
  | 0 => by
    refine ⟨by simp [runS, KeyD], fun T y => ?_, fun s _ => ⟨_, .head _, rfl⟩⟩
    have e1 : coefL [((0 : Int), (1 : Int))] = oneA := by funext y; exact one_coef y
    show (if List.range 26 = T then coefL (dlPN c0 [(0, 1)]) y else 0) + 0 = (0 : Int) + (if List.range 26 = T then shA 0 (dlN (c0 + 0) oneA) y else 0)
    rw [dlPN_coef, e1, sh_zero]
    simp
  | k + 1 => by
    have h := run_at C c0 k
    obtain ⟨h1, h2, h3⟩ := fold_go C c0 k _ h (runS C c0 k) [] [] rfl (by simp [KeyD]) (fun U y => by rw [undG_none C c0 k U (fun s _ => by simp)]; rfl) (fun x hx => by cases hx)
    refine ⟨h1, fun T y => ?_, fun s hs => ?_⟩
    · show valS ((runS C c0 k).foldl (stpS C k) []) T y = _
      rw [h2, undG_all C c0 k T fun s hs => decide_eq_true (h.all s hs)]
    · show ∃ x ∈ (runS C c0 k).foldl (stpS C k) [], _
      have hk : ∃ x ∈ runS C c0 k, x.1 = kyS C s k := by
        by_cases hlt : s < 2 ^ k
        · exact h.all s hlt
        · rw [Nat.pow_succ] at hs
          have e : s = 2 ^ k + (s - 2 ^ k) := by omega
          rw [e, ky_low C (Nat.le_refl k)]
          exact h.all _ (by omega)
      obtain ⟨x, hx, q⟩ := hk
      rw [ky_next, ← q]
      split
      · exact (h3 x hx).1
      · exact (h3 x hx).2
def sumP (S : TSt) : List (Int × Int) := S.foldl (fun r x => addP r x.2) []
theorem sum_go (C : List Cr) (c0 k : Nat) (S : TSt) (h : RunAt C c0 k S) : ∀ (L D : TSt) (p : List (Int × Int)), D ++ L = S → (∀ y, coefL p y = allG C c0 k (fun T => decide (∃ x ∈ D, x.1 = T)) y) →
    ∀ y, coefL (L.foldl (fun r x => addP r x.2) p) y = allG C c0 k (fun T => decide (∃ x ∈ S, x.1 = T)) y
  | [], D, p, e, h1 => by
    rw [List.append_nil] at e
    subst e
    exact h1
  | x :: L, D, p, e, h1 => by
    intro y
    rw [List.foldl_cons]
    have hxS : x ∈ S := by rw [← e]; simp
    have hdS := h.dist
    rw [← e] at hdS
    unfold KeyD at hdS
    have hn : ∀ z ∈ D, z.1 ≠ x.1 := fun z hz => (List.pairwise_append.1 hdS).2.2 z hz x (.head _)
    refine sum_go C c0 k S h L (D ++ [x]) _ (by rw [List.append_assoc]; exact e) (fun y => ?_) y
    rw [addP_coef, h1, valS_at h.dist hxS, h.worth]
    rw [allG_step C c0 k x.1 (dn := fun T => decide (∃ z ∈ D, z.1 = T)) (dn' := fun T => decide (∃ z ∈ D ++ [x], z.1 = T)) (decide_eq_false fun ⟨z, hz, q⟩ => hn z hz q) (fun s => by
      simp only [decide_eq_true_eq, List.mem_append, List.mem_singleton]
      constructor
      · rintro ⟨z, hz | rfl, q⟩
        · exact Or.inl ⟨z, hz, q⟩
        · exact Or.inr q.symm
      · rintro (⟨z, hz, q⟩ | q)
        · exact ⟨z, Or.inl hz, q⟩
        · exact ⟨x, Or.inr rfl, q.symm⟩) y]
/-- Jones's polynomial, reckoned. -/
def jnE (C : List Cr) (lo : Nat) : List (Int × Int) := (mpP (-(3 * wrM C C.length)) (sgJ (wrM C C.length)) (sumP (runS C (if C.length = 0 then lo - 1 else lo) C.length))).filter fun t => t.2 != 0
theorem filt_coef (l : List (Int × Int)) (y : Int) : coefL (l.filter fun t => t.2 != 0) y = coefL l y := by
  induction l with
  | nil => rfl
  | cons t r ih =>
    rw [List.filter_cons]
    split
    · simp only [coefL, ih]
    · rename_i h
      have h0 : t.2 = 0 := by simpa using h
      simp only [coefL, ih, h0]
      split <;> omega
theorem jnE_is {C : List Cr} {lo : Nat} (hm : mayD C (lo : Nat) = true) (h12 : C.length ≤ 12) : jnF C lo = coefL (jnE C lo) := by
  funext y
  unfold jnE jnF
  rw [filt_coef, mpP_coef, ← br_same hm rfl h12]
  have h := sum_go C (if C.length = 0 then lo - 1 else lo) C.length _ (run_at C _ C.length) _ [] [] rfl (fun y => by rw [allG_none C _ _ (fun s _ => by simp)]; rfl)
  have h2 := h (y - -(3 * wrM C C.length))
  rw [allG_all C _ _ fun s hs => decide_eq_true ((run_at C _ C.length).all s hs)] at h2
  unfold sumP
  rw [h2, show y - -(3 * wrM C C.length) = y + 3 * wrM C C.length by omega]
end Go.Proofs.YtnlcknlodjjdbaaDoor.Poly
/- The walk of knotworkkeep.total: numbers that are not below nought. -/
namespace Go.Proofs.YtnlcknlodjjdbaaDoor
open Go.RowKit Go.Maps

theorem szTo_bd (l : List Int) (h : ∀ j, j < l.length → 0 ≤ l.getD j 0 ∧ l.getD j 0 ≤ 1000) : ∀ i, i ≤ l.length → szTo l i ≤ 1000 * i
  | 0, _ => Nat.zero_le _
  | i + 1, hi => by
    have a := szTo_bd l h i (by omega)
    have b := h i (by omega)
    unfold szTo
    omega
set_option maxHeartbeats 1000000 in
set_option maxRecDepth 100000 in
theorem total_any (a : Option Addr) (cap : Nat) (l : List Int) (w : World) (hl : l.length ≤ 1000) (hv : ∀ j, j < l.length → 0 ≤ l.getD j 0 ∧ l.getD j 0 ≤ 1000) (h : RdAt w w.heap.size 1 (.slice a l.length cap) l.length (intsV l)) :
    Calls Tryd.prog 7 #[.slice a l.length cap] w fun e w' => e = .returned (.int .i64 (szTo l l.length : Nat)) ∧ Below w.heap.size w w' := by
  have HR : Hid (RdAt w w.heap.size 1 (.slice a l.length cap) l.length (intsV l)) := h
  have HB : Hid (Below w.heap.size w w) := Below.refl _ _
  have HV := Poly.hid_mkP hv
  have HZ := Poly.hid_mkP (szTo_bd l hv)
  obtain ⟨n, hN⟩ : ∃ n, l.length = n := ⟨_, rfl⟩
  have HN : Hid (l.length = n) := hN
  rw [hN] at hl ⊢
  clear h hN hv
  go_enter Tryd.func7, Tryd.ntmps7
  go_wp2
  go_loopw [3, 4] (fun v3 v8 wr => ∃ i : Nat, i ≤ n ∧ v8 = .int .i64 (i : Nat) ∧ v3 = .int .i64 (szTo l i : Nat) ∧ Hid (Below w.heap.size w wr)) (fun _ v8 _ => n - (intOf v8).toNat)
  case atStart => exact ⟨0, Nat.zero_le _, rfl, rfl, HB.out⟩
  case round =>
    clear HB
    rename World => W1
    obtain ⟨i, hin, rfl, rfl, hb⟩ := hrel
    have hsz := HZ.out i (by rw [HN.out]; exact hin)
    by_cases hil : i < n
    · obtain ⟨b, off, ea, hbw, hc⟩ := HR.out.intAt i (by rw [HN.out]; exact hil)
      have e0 := bcell hb.out hbw hc
      have hsW := hb.out.size
      have hbW : b < W1.heap.size := by omega
      have hx2 := HV.out i (by rw [HN.out]; exact hil)
      have HS : Hid (szTo l (i + 1) = szTo l i + (l.getD i 0).natAbs) := (rfl : szTo l (i + 1) = szTo l i + (l.getD i 0).natAbs)
      obtain ⟨x, hx⟩ : ∃ x, l.getD i 0 = x := ⟨_, rfl⟩
      obtain ⟨y, hy⟩ : ∃ y, szTo l i = y := ⟨_, rfl⟩
      rw [hx] at e0 HS hx2
      rw [hy] at HS hsz ⊢
      subst ea
      clear hx hy hc
      go_wp2
      go_roundw
      case rel => exact ⟨i + 1, by omega, by go_num, by rw [HS.out]; congr 1; omega, hb.out⟩
      case measure => simp only [intOf]; omega
    · have e : i = n := by omega
      subst e
      go_wp2
      go_ret
      exact ⟨rfl, hb.out⟩
end Go.Proofs.YtnlcknlodjjdbaaDoor
/- The walk of knotworkkeep.same. -/
namespace Go.Proofs.YtnlcknlodjjdbaaDoor.Poly
open Go.RowKit Go.Maps

set_option maxHeartbeats 400000 in
theorem same_lenK (a1 a2 : Option Addr) (n1 n2 c1 c2 : Nat) (w : World) (h : n1 ≠ n2) :
    Calls Tryd.prog 10 #[.slice a1 n1 c1, .slice a2 n2 c2] w fun e w' => e = .returned (.bool false) ∧ Below w.heap.size w w' := by
  have hb : ((n1 : Int) != (n2 : Int)) = true := by rw [bne_iff_ne]; omega
  go_enter Tryd.func10, Tryd.ntmps10
  go_wp2
  go_ret
  exact ⟨rfl, Below.refl _ _⟩

set_option maxHeartbeats 400000 in
theorem same_noneK (a1 a2 : Option Addr) (c1 c2 : Nat) (w : World) :
    Calls Tryd.prog 10 #[.slice a1 0 c1, .slice a2 0 c2] w fun e w' => e = .returned (.bool true) ∧ Below w.heap.size w w' := by
  go_enter Tryd.func10, Tryd.ntmps10
  go_wp2
  go_loopw [5] (fun i wr => i = .int .i64 0 ∧ Below w.heap.size w wr) (fun _ _ => 0)
  case atStart => exact ⟨rfl, Below.refl _ _⟩
  case round =>
    obtain ⟨rfl, hb⟩ := hrel
    go_wp2
    go_ret
    exact ⟨rfl, hb⟩

set_option maxHeartbeats 1000000 in
theorem same_someK (b1 off1 c1 b2 off2 c2 n : Nat) (E1 C1 E2 C2 : Nat → Int) (w : World) (hn : n ≤ maxLen) (hb1 : b1 < w.heap.size) (hb2 : b2 < w.heap.size)
    (h1 : ∀ i, i < n → w.cell? ⟨b1, off1 + i * 2, none⟩ = some (.int .i64 (E1 i)) ∧ w.cell? ⟨b1, off1 + i * 2 + 1, none⟩ = some (.int .i64 (C1 i)))
    (h2 : ∀ i, i < n → w.cell? ⟨b2, off2 + i * 2, none⟩ = some (.int .i64 (E2 i)) ∧ w.cell? ⟨b2, off2 + i * 2 + 1, none⟩ = some (.int .i64 (C2 i))) :
    Calls Tryd.prog 10 #[.slice (some ⟨b1, off1, none⟩) n c1, .slice (some ⟨b2, off2, none⟩) n c2] w fun e w' => ∃ r : Bool, e = .returned (.bool r) ∧ (r = true ↔ ∀ i, i < n → E1 i = E2 i ∧ C1 i = C2 i) ∧ Below w.heap.size w w' := by
  unfold maxLen at hn
  have H1 : Hid _ := h1
  have H2 : Hid _ := h2
  clear h1 h2
  have hne : ((n : Int) != (n : Int)) = false := by simp
  go_enter Tryd.func10, Tryd.ntmps10
  go_wp2
  go_loopw [5] (fun i wr => ∃ k : Nat, k ≤ n ∧ i = .int .i64 k ∧ Below w.heap.size w wr ∧ Hid (∀ i, i < k → E1 i = E2 i ∧ C1 i = C2 i)) (fun i _ => n - (intOf i).toNat)
  case atStart => exact ⟨0, Nat.zero_le _, rfl, Below.refl _ _, fun i hi => absurd hi (Nat.not_lt_zero _)⟩
  case round =>
    obtain ⟨k, hk, rfl, hb, hall⟩ := hrel
    by_cases hlt : k < n
    · have q0 := bcell hb hb1 (H1.out k hlt).1
      have q1 := bcell hb hb1 (H1.out k hlt).2
      have q2 := bcell hb hb2 (H2.out k hlt).1
      have q3 := bcell hb hb2 (H2.out k hlt).2
      generalize he1 : E1 k = e1 at q0
      generalize hc1 : C1 k = f1 at q1
      generalize he2 : E2 k = e2 at q2
      generalize hc2 : C2 k = f2 at q3
      have HH : Hid (E1 k = e1 ∧ C1 k = f1 ∧ E2 k = e2 ∧ C2 k = f2) := ⟨he1, hc1, he2, hc2⟩
      clear he1 hc1 he2 hc2
      have hcmp := fun W => neq48 e1 f1 e2 f2 W
      by_cases hsame : e1 = e2 ∧ f1 = f2
      · have hv : (!(e1 == e2 && f1 == f2)) = false := by simp [hsame]
        rw [hv] at hcmp
        have HS : Hid (e1 = e2 ∧ f1 = f2) := hsame
        clear hsame hv
        go_wp2
        go_quiet (fail)
        go_wp2
        go_roundw
        case rel => exact ⟨k + 1, by omega, by go_num, below_drewN hb _, fun i hi => by
          by_cases hik : i = k
          · subst hik
            obtain ⟨r1, r2, r3, r4⟩ := HH.out
            exact ⟨by rw [r1, r3]; exact HS.out.1, by rw [r2, r4]; exact HS.out.2⟩
          · exact hall.out i (by omega)⟩
        case measure => simp [intOf]; omega
      · have hv : (!(e1 == e2 && f1 == f2)) = true := by
          cases hh : (e1 == e2 && f1 == f2) with
          | false => rfl
          | true => exact absurd (by simpa using hh) hsame
        rw [hv] at hcmp
        have HS : Hid (¬ (e1 = e2 ∧ f1 = f2)) := hsame
        clear hsame hv
        go_wp2
        go_quiet (fail)
        go_wp2
        go_ret
        refine ⟨false, rfl, ⟨fun h => (by cases h), fun h => ?_⟩, below_drewN hb _⟩
        exfalso
        obtain ⟨r1, r2, r3, r4⟩ := HH.out
        have := h k hlt
        rw [r1, r2, r3, r4] at this
        exact HS.out this
    · go_wp2
      go_ret
      obtain rfl : k = n := by omega
      exact ⟨true, rfl, ⟨fun _ => hall.out, fun _ => rfl⟩, hb⟩

theorem same_polyK (v1 v2 : Value) (l1 l2 : List (Int × Int)) (w : World) (hl : l1.length ≤ maxLen) (h1 : Poly w w.heap.size v1 l1) (h2 : Poly w w.heap.size v2 l2) :
    Calls Tryd.prog 10 #[v1, v2] w fun e w' => e = .returned (.bool (decide (l1 = l2))) ∧ Below w.heap.size w w' := by
  obtain ⟨a1, c1, rfl, g1⟩ := h1.slice
  obtain ⟨a2, c2, rfl, g2⟩ := h2.slice
  by_cases hne : l1.length = l2.length
  · rcases Nat.eq_zero_or_pos l1.length with h0 | h0
    · have e1 : l1 = [] := List.length_eq_zero_iff.1 h0
      have e2 : l2 = [] := List.length_eq_zero_iff.1 (by omega)
      subst e1 e2
      exact same_noneK a1 a2 c1 c2 w
    · obtain ⟨b1, off1, rfl, hb1, hT1⟩ := g1 h0
      obtain ⟨b2, off2, rfl, hb2, hT2⟩ := g2 (by omega)
      rw [← hne]
      refine (same_someK b1 off1 c1 b2 off2 c2 l1.length _ _ _ _ w hl hb1 hb2 hT1 (fun i hi => hT2 i (by omega))).mono ?_
      rintro e w' ⟨r, rfl, hr, hb⟩
      refine ⟨ret_bool ?_, hb⟩
      by_cases h : l1 = l2
      · rw [decide_eq_true h]; exact (hr.2 (fun i _ => by rw [h]; exact ⟨rfl, rfl⟩)).symm
      · rw [decide_eq_false h]
        cases r
        · rfl
        · exact absurd (list_ext_getD hne (hr.1 rfl)) h
  · refine (same_lenK a1 a2 l1.length l2.length c1 c2 w hne).mono ?_
    rintro e w' ⟨rfl, hb⟩
    refine ⟨ret_bool ?_, hb⟩
    exact decide_eq_false (fun h => hne (by rw [h]))

end Go.Proofs.YtnlcknlodjjdbaaDoor.Poly

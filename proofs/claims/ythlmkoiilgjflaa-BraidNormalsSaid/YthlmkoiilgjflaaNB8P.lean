/- Several texts of the proof, one behind the other. -/
import Derived.Test.YthlmkoiilgjflaaNB7
import Derived.Test.YthlmkoiilgjflaaNB6
/- BraidNormals: the walks of ref.within and ref.PermIs over a permutation. -/
namespace Go.Proofs.Ythlmkoiilgjflaa
open Go.RowKit

set_option maxHeartbeats 2000000 in
set_option maxRecDepth 100000 in
theorem withinP_any (n c j : Nat) (a : Option Addr) (p : List Nat) (z : Int) (w : World) (hn : n ≤ 6) (hz : z = (j : Int) + 1) (hj : j < n) (hp : IsP n p) (h : RdAt w w.heap.size 1 (.slice a n c) n (intsV (eI n p))) :
    Calls Try.prog 19 #[.slice a n c, .int .i64 z] w fun e w' => e = .returned (.bool true) ∧ Below w.heap.size w w' := by
  have HR := hid_g h
  have HS : Hid (∃ i, i < n ∧ (eI n p).getD i 0 = z) := (by
    obtain ⟨i, hi, e⟩ := hp.sur j hj
    exact ⟨i, hi, by rw [eI_at hi, e, hz]⟩ : ∃ i, i < n ∧ (eI n p).getD i 0 = z)
  have HL : Hid ((eI n p).length = n) := eI_len n p
  generalize eI n p = l at HR HS HL
  clear h hz
  go_enter Try.func19, Try.ntmps19
  go_wp2
  go_loopw [5] (fun v5 wr => ∃ k : Nat, k ≤ n ∧ v5 = .int .i64 k ∧ Hid (∀ i, i < k → l.getD i 0 ≠ z) ∧ Hid (Below w.heap.size w wr)) (fun v5 _ => n - (intOf v5).toNat)
  case atStart => exact ⟨0, Nat.zero_le _, rfl, fun j hj => absurd hj (Nat.not_lt_zero _), Below.refl _ _⟩
  case round =>
    rename World => W1
    obtain ⟨k, hk, rfl, hno, hb⟩ := hrel
    by_cases hlt : k < n
    · have hrd : RdAt W1 W1.heap.size 1 (.slice a l.length c) l.length (intsV l) := by rw [HL.out]; exact (HR.out.on hb.out).mono hb.out.size
      obtain ⟨b1, o1, ea, hl1, p1⟩ := hrd.intAt k (by rw [HL.out]; exact hlt)
      obtain ⟨y, hy⟩ : ∃ y, l.getD k 0 = y := ⟨_, rfl⟩
      rw [hy] at p1
      have HY : Hid (l.getD k 0 = y) := hy
      subst ea
      clear hy hrd
      by_cases hz : y = z
      · have hd : (y == z) = true := by simpa using hz
        go_wp2
        go_ret
        exact ⟨rfl, hb.out⟩
      · have hd : (y == z) = false := by rw [beq_eq_false_iff_ne]; exact hz
        go_wp2
        go_roundw
        case rel =>
          refine ⟨k + 1, by omega, by go_num, fun j hj => ?_, hb.out⟩
          by_cases e : j = k
          · rw [e, HY.out]; exact hz
          · exact hno.out j (by omega)
        case measure => simp [intOf]; omega
    · exfalso
      obtain ⟨i, hi, e⟩ := HS.out
      exact hno.out i (by omega) e

set_option maxHeartbeats 2000000 in
set_option maxRecDepth 100000 in
theorem permIs_any (n c : Nat) (a : Option Addr) (p : List Nat) (w : World) (hn : n ≤ 6) (hp : IsP n p) (h : RdAt w w.heap.size 1 (.slice a n c) n (intsV (eI n p))) :
    Calls Try.prog 13 #[.int .i64 (n : Nat), .slice a n c] w fun e w' => e = .returned (.bool true) ∧ Below w.heap.size w w' := by
  have HW := hid_g (fun W (hW : Below w.heap.size w W) k (hk : k < n) => withinP_any n c k a p ((k : Int) + 1) W hn rfl hk hp ((h.on hW).mono hW.size))
  have hd : ((n : Int) != (n : Int)) = false := by simp
  clear h hp
  go_enter Try.func13, Try.ntmps13
  go_wp2
  go_loopw [5] (fun v5 wr => ∃ k : Nat, k ≤ n ∧ v5 = .int .i64 ((k : Int) + 1) ∧ Hid (Below w.heap.size w wr)) (fun v5 _ => n + 1 - (intOf v5).toNat)
  case atStart => exact ⟨0, Nat.zero_le _, rfl, Below.refl _ _⟩
  case round =>
    rename World => W1
    obtain ⟨k, hk, rfl, hb⟩ := hrel
    by_cases hlt : k < n
    · have hkI : (k : Int) + 1 ≤ (n : Int) := by omega
      have HC := hid_g (HW.out W1 hb.out k hlt)
      go_wp2_with (first | (go_at_call 19; refine HC.out.mono ?_; rintro e9 w5 ⟨rfl, hb5⟩; refine Hid.out ?_))
      refine Lib.hid ?_
      have HB5 := hid_g (hb.out.trans (hb5.mono hb.out.size))
      clear hb5 HC hb
      go_wp2
      go_roundw
      case rel => exact ⟨k + 1, by omega, by go_num, HB5.out⟩
      case measure => simp only [intOf]; omega
    · obtain rfl : n = k := by omega
      have hd : decide ((n : Int) + 1 ≤ (n : Int)) = false := by simp; omega
      go_wp2
      go_ret
      exact ⟨rfl, hb.out⟩
end Go.Proofs.Ythlmkoiilgjflaa
/- BraidNormals: what ref.NormalIs asks of factors: mathematics. -/
namespace Go.Proofs.Ythlmkoiilgjflaa

/-- Only nothing has no letters; only Delta has as many as it. -/
def chkN (n : Nat) : Bool := (pms n n).all fun p => decide (p = pid n) || decide (p = pdl n) || (decide ((bub n p n).2.length ≠ 0) && decide ((bub n p n).2.length ≠ (bub n (pdl n) n).2.length))
theorem chkN_2 : chkN 2 = true := by decide +kernel
theorem chkN_3 : chkN 3 = true := by decide +kernel
theorem chkN_4 : chkN 4 = true := by decide +kernel
theorem chkN_5 : chkN 5 = true := by decide +kernel
theorem chkN_6 : chkN 6 = true := by decide +kernel
theorem bubW_len {n : Nat} (h2 : 2 ≤ n) (h6 : n ≤ 6) {p : List Nat} (hp : IsP n p) (h : p ≠ pdl n ∧ p ≠ pid n) : (bubW n p).length ≠ 0 ∧ (bubW n p).length ≠ (bubW n (pdl n)).length := by
  have hA : chkN n = true := by
    have hn : n = 2 ∨ n = 3 ∨ n = 4 ∨ n = 5 ∨ n = 6 := by omega
    rcases hn with e | e | e | e | e <;> subst e
    · exact chkN_2
    · exact chkN_3
    · exact chkN_4
    · exact chkN_5
    · exact chkN_6
  unfold chkN at hA
  have := List.all_eq_true.1 hA p (isP_mem hp)
  simp only [Bool.or_eq_true, Bool.and_eq_true, decide_eq_true_eq] at this
  rcases this with (e | e) | e
  · exact (h.2 e).elim
  · exact (h.1 e).elim
  · exact e
theorem bubW_short {n : Nat} (h6 : n ≤ 6) (p : List Nat) : (bubW n p).length ≤ 30 := by
  have h1 := bub_len n p n
  have h3 : n * (n - 1) ≤ 6 * 5 := Nat.mul_le_mul (by omega) (by omega)
  unfold bubW
  omega
theorem lw_len (a : List Nat) : (lw a).length = a.length := by unfold lw; simp
theorem pw1_len {n : Nat} (h6 : n ≤ 6) (p : List Nat) : (pw1 n p).length ≤ 30 := by unfold pw1; rw [lw_len]; exact bubW_short h6 p
theorem rep_len (v : List Int) : ∀ k, (rep v k).length = k * v.length
  | 0 => (Nat.zero_mul _).symm
  | k + 1 => by show (rep v k ++ v).length = _; rw [List.length_append, rep_len v k, Nat.add_mul, Nat.one_mul]
/-- The words of the first so many factors. -/
def wTo (n : Nat) (L : List (List Nat)) : Nat → List Int
  | 0 => []
  | i + 1 => wTo n L i ++ pw1 n (L.getD i [])
theorem wTo_len {n : Nat} (h6 : n ≤ 6) (L : List (List Nat)) : ∀ i, (wTo n L i).length ≤ 30 * i
  | 0 => Nat.le_refl _
  | i + 1 => by
    have h1 := wTo_len h6 L i
    have h2 := pw1_len h6 (L.getD i [])
    show (wTo n L i ++ pw1 n (L.getD i [])).length ≤ _
    rw [List.length_append]
    omega
theorem wTo_cong (n : Nat) (L M : List (List Nat)) : ∀ i, (∀ j, j < i → L.getD j [] = M.getD j []) → wTo n L i = wTo n M i
  | 0, _ => rfl
  | i + 1, h => by
    show wTo n L i ++ pw1 n (L.getD i []) = wTo n M i ++ pw1 n (M.getD i [])
    rw [wTo_cong n L M i (fun j hj => h j (by omega)), h i (by omega)]
theorem wTo_all (n : Nat) : ∀ F : List (List Nat), wTo n F.reverse F.length = wrd n F
  | [] => rfl
  | x :: F => by
    show wTo n (x :: F).reverse F.length ++ pw1 n ((x :: F).reverse.getD F.length []) = wrd n F ++ pw1 n x
    have e1 : (x :: F).reverse = F.reverse ++ [x] := List.reverse_cons
    rw [e1]
    have e2 : (F.reverse ++ [x]).getD F.length [] = x := by
      rw [List.getD_eq_getElem?_getD, List.getElem?_append_right (by rw [List.length_reverse]; exact Nat.le_refl _), List.length_reverse, Nat.sub_self]; rfl
    rw [e2, ← wTo_all n F]
    congr 1
    refine wTo_cong n _ _ _ (fun j hj => ?_)
    rw [List.getD_eq_getElem?_getD, List.getElem?_append_left (by rw [List.length_reverse]; exact hj), ← List.getD_eq_getElem?_getD]
theorem setL_at {n : Nat} : ∀ {F : List (List Nat)}, SetL n F → ∀ j, j + 1 < F.length → Sd n (F.getD (j + 1) []) (F.getD j [])
  | [], _, j, h => by cases h
  | [f], _, j, h => by simp at h
  | f :: e :: F, hs, 0, _ => hs.1 e rfl
  | f :: e :: F, hs, j + 1, h => setL_at hs.2 j (by simpa using h)
theorem rev_at (F : List (List Nat)) (i : Nat) (hi : i < F.length) : F.reverse.getD i [] = F.getD (F.length - 1 - i) [] := by
  rw [List.getD_eq_getElem?_getD, List.getD_eq_getElem?_getD, List.getElem?_reverse hi]
theorem setL_rev {n : Nat} {F : List (List Nat)} (h : SetL n F) (i : Nat) (hi : i + 1 < F.length) : Sd n (F.reverse.getD i []) (F.reverse.getD (i + 1) []) := by
  have := setL_at h (F.length - 1 - (i + 1)) (by omega)
  rw [rev_at F i (by omega), rev_at F (i + 1) hi]
  rwa [show F.length - 1 - (i + 1) + 1 = F.length - 1 - i by omega] at this
/-- Who ends there, of the first k. -/
def frT (n : Nat) (p : List Nat) (k : Nat) : List Int := mapI n fun j => if pa (pv n p) j < k then (pa (pv n p) j : Int) else 0
theorem frT_zero (n : Nat) (p : List Nat) : frT n p 0 = List.replicate n 0 := mapI_zero _ _ (fun j _ => by rw [if_neg (by omega)])
theorem frT_len (n : Nat) (p : List Nat) (k : Nat) : (frT n p k).length = n := mapI_len _ _
theorem frT_next {n : Nat} {p : List Nat} (hp : IsP n p) {k : Nat} (hk : k < n) : (frT n p k).set (pa p k) (k : Int) = frT n p (k + 1) := by
  refine mapI_set n _ _ _ _ (fun j hj => ?_)
  obtain ⟨h1, h2⟩ := pv_lt hp hj
  by_cases e : j = pa p k
  · rw [if_pos e]
    have : pa (pv n p) j = k := by rw [e, pv_at hp hk]
    rw [this, if_pos (by omega)]
  · rw [if_neg e]
    by_cases q : pa (pv n p) j < k
    · rw [if_pos q, if_pos (by omega)]
    · have : pa (pv n p) j ≠ k := fun h => e (by rw [← h2, h])
      rw [if_neg q, if_neg (by omega)]
theorem frT_at {n : Nat} {p : List Nat} (hp : IsP n p) {j : Nat} (hj : j < n) : (frT n p n).getD j 0 = (pa (pv n p) j : Int) := by
  unfold frT
  rw [mapI_at _ _ _ hj, if_pos (pv_lt hp hj).1]
/-- Delta's ends. -/
def hfT (n k : Nat) : List Int := (eI n (pdl n)).take k
theorem hfT_next {n k : Nat} (hk : k < n) : hfT n (k + 1) = hfT n k ++ [(n : Int) - (k : Int)] := by
  unfold hfT
  rw [List.take_succ_eq_append_getElem (by rw [eI_len]; exact hk)]
  congr 2
  have := eI_at (n := n) (p := pdl n) hk
  rw [List.getD_eq_getElem?_getD, List.getElem?_eq_getElem (by rw [eI_len]; exact hk)] at this
  rw [show (eI n (pdl n))[k]'(by rw [eI_len]; exact hk) = _ from this, pdl_at hk]
  omega
theorem hfT_len {n k : Nat} (hk : k ≤ n) : (hfT n k).length = k := by
  unfold hfT
  rw [List.length_take, eI_len]
  omega
theorem hfT_all (n : Nat) : hfT n n = eI n (pdl n) := by
  unfold hfT
  rw [List.take_of_length_le (by rw [eI_len]; exact Nat.le_refl _)]
end Go.Proofs.Ythlmkoiilgjflaa

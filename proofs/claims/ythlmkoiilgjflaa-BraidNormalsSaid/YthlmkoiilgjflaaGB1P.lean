/- Several texts of the proof, one behind the other. -/
import Derived.Test.YthlmkoiilgjflaaGA1
import Derived.Test.YthlmkoiilgjflaaGC0P
import Derived.Test.YthlmkoiilgjflaaBR2P
import Derived.Test.YthlmkoiilgjflaaW2P
import Derived.Deep.Cut
import Derived.BigQuiet
import Derived.Test.YthlmkoiilgjflaaNB2P
/- Permutations in memory: the walks of braid.traded, loose, delta, passed and slices.Clone. -/
namespace Go.Proofs.Ythlmkoiilgjflaa
open Go.RowKit

/-- A permutation as the program has it. -/
def eI (n : Nat) (p : List Nat) : List Int := mapI n fun i => (pa p i : Int) + 1
theorem eI_len (n : Nat) (p : List Nat) : (eI n p).length = n := mapI_len _ _
theorem eI_at {n i : Nat} {p : List Nat} (h : i < n) : (eI n p).getD i 0 = (pa p i : Int) + 1 := mapI_at _ _ _ h
theorem eI_ok {n : Nat} {p : List Nat} (hp : IsP n p) : PlOk n (eI n p) := ⟨eI_len _ _, fun i hi => by rw [eI_at hi]; have := hp.lt i hi; omega⟩
theorem eI_trd {n i : Nat} {p : List Nat} (hi : i + 1 < n) : trd (eI n p) (i + 1) = eI n (psw n p i) := by
  unfold trd
  rw [Nat.add_sub_cancel, eI_at hi, eI_at (show i < n by omega)]
  unfold eI
  rw [mapI_set _ _ (fun j => if j = i then (pa p (i + 1) : Int) + 1 else (pa p j : Int) + 1) i _ (fun j _ => rfl)]
  refine mapI_set _ _ _ _ _ fun j hj => ?_
  rw [psw_at hj]
  unfold swp
  by_cases e1 : j = i + 1
  · rw [if_pos e1, if_neg (by omega), if_pos e1]
  · by_cases e2 : j = i
    · simp [e2]
    · simp [e1, e2]
theorem eI_endT {n : Nat} {p : List Nat} (hp : IsP n p) : endT (eI n p) n = eI n (pv n p) := by
  have key : ∀ k, k ≤ n → endT (eI n p) k = mapI n fun j => if pa (pv n p) j < k then (pa (pv n p) j : Int) + 1 else 0 := by
    intro k
    induction k with
    | zero => intro _; show List.replicate (eI n p).length 0 = _; rw [eI_len]; exact (mapI_zero _ _ (fun j _ => by rw [if_neg (by omega)])).symm
    | succ k ih =>
      intro hk
      rw [endT_next, ih (by omega), eI_at (show k < n by omega), show ((pa p k : Int) + 1 - 1).toNat = pa p k by omega]
      refine mapI_set _ _ _ _ _ fun j hj => ?_
      obtain ⟨h1, h2⟩ := pv_lt hp hj
      by_cases e : j = pa p k
      · have h3 := pv_at hp (show k < n by omega)
        rw [← e] at h3
        rw [if_pos e, h3, if_pos (by omega)]
      · rw [if_neg e]
        have h3 : pa (pv n p) j ≠ k := fun e2 => e (by rw [← e2, h2])
        by_cases e3 : pa (pv n p) j < k
        · rw [if_pos e3, if_pos (by omega)]
        · rw [if_neg e3, if_neg (by omega)]
  rw [key n (Nat.le_refl _)]
  exact mapI_congr _ _ _ fun j hj => by rw [if_pos (pv_lt hp hj).1]
theorem eI_pid (n : Nat) : (mapI n fun i => (i : Int) + 1) = eI n (pid n) := mapI_congr _ _ _ fun j hj => by rw [pid_at hj]
theorem eI_pdl (n : Nat) : (eI n (pid n)).reverse = eI n (pdl n) := by
  apply List.ext_getElem?
  intro j
  by_cases hj : j < n
  · rw [List.getElem?_reverse (by rw [eI_len]; exact hj), eI_len]
    unfold eI
    rw [mapI_get _ _ _ (by omega), mapI_get _ _ _ hj, pid_at (by omega), pdl_at hj]
  · rw [List.getElem?_eq_none (by rw [List.length_reverse, eI_len]; omega), List.getElem?_eq_none (by rw [eI_len]; omega)]
theorem eI_inj {n : Nat} {p q : List Nat} (hp : IsP n p) (hq : IsP n q) (h : eI n p = eI n q) : p = q := pa_ext hp.len hq.len fun i hi => by
  have := congrArg (fun l => l.getD i 0) h
  simp only [eI_at hi] at this
  omega

set_option maxHeartbeats 4000000 in
set_option maxRecDepth 100000 in
theorem traded_any (n j : Nat) (a : Option Addr) (c : Nat) (l : List Int) (w : World) (hl : l.length = n) (hj : j + 1 < n) (hn : n ≤ 1000) (h : RdAt w w.heap.size 1 (.slice a n c) n (intsV l)) :
    Calls Try.prog 34 #[.slice a n c, .int .i64 ((j : Int) + 1)] w fun e w' => e = .returned (.bool (decide (l.getD (j + 1) 0 < l.getD j 0))) ∧ ∃ k, w' = w.drewN k := by
  rw [← hl] at h
  obtain ⟨b, off, ea, hlt, hc⟩ := h.intAt j (by omega)
  obtain ⟨b2, off2, ea2, hlt2, hc2⟩ := h.intAt (j + 1) (by omega)
  rw [ea] at ea2
  injection ea2 with ea2
  injection ea2 with e1 e2
  subst e1 e2 ea
  have hjI : (j : Int) < (n : Int) := by omega
  have hjI2 : (j : Int) + 1 < (n : Int) := by omega
  have hj2 : j < n := by omega
  have ew : IntKind.i64.wrap ((j : Int) + 1 - 1) = (j : Int) := by rw [IntWalk.i64_in _ (by omega)]; omega
  generalize l.getD j 0 = x at hc ⊢
  generalize l.getD (j + 1) 0 = y at hc2 ⊢
  clear h hl
  go_enter Try.func34, Try.ntmps34
  go_wp2
  go_quiet (fail)
  go_wp2
  go_ret
  exact ⟨rfl, _, rfl⟩
theorem lsM_is {n k : Nat} {b y : List Nat} (hk : k + 1 < n) (hy : pa y (k + 1) < pa y k) (hb : ¬ pa b (k + 1) < pa b k) (hn : ∀ i, i < k → ¬ (pa y (i + 1) < pa y i ∧ ¬ pa b (i + 1) < pa b i)) : lsM n b y = some k := by
  unfold lsM
  rw [List.find?_range_eq_some]
  refine ⟨by simp [hy, hb], List.mem_range.2 (by omega), fun i hi => ?_⟩
  have := hn i hi
  by_cases h1 : pa y (i + 1) < pa y i
  · have h2 : pa b (i + 1) < pa b i := Classical.byContradiction fun q => this ⟨h1, q⟩
    simp [h2]
  · simp [h1]
theorem lsM_no {n : Nat} {b y : List Nat} (hn : ∀ i, i + 1 < n → ¬ (pa y (i + 1) < pa y i ∧ ¬ pa b (i + 1) < pa b i)) : lsM n b y = none := by
  cases e : lsM n b y with
  | none => rfl
  | some i =>
    obtain ⟨h1, h2, h3⟩ := lsM_some e
    exact (hn i h1 ⟨h2, h3⟩).elim
/-- What loose answers. -/
def lsV (n : Nat) (b y : List Nat) : Nat := match lsM n b y with
  | none => 0
  | some i => i + 1
theorem eI_dec {n j : Nat} {p : List Nat} (hj : j + 1 < n) : decide ((eI n p).getD (j + 1) 0 < (eI n p).getD j 0) = decide (pa p (j + 1) < pa p j) := by
  rw [eI_at hj, eI_at (show j < n by omega)]
  exact decide_eq_decide.2 ⟨fun h => by omega, fun h => by omega⟩

set_option maxHeartbeats 4000000 in
set_option maxRecDepth 100000 in
theorem loose_any (n : Nat) (a1 a2 : Option Addr) (c1 c2 : Nat) (b y : List Nat) (w : World) (hn : n ≤ 1000) (h2 : 2 ≤ n) (hb : RdAt w w.heap.size 1 (.slice a1 n c1) n (intsV (eI n b))) (hy : RdAt w w.heap.size 1 (.slice a2 n c2) n (intsV (eI n y))) :
    Calls Try.prog 33 #[.slice a1 n c1, .slice a2 n c2] w fun e w' => e = .returned (.int .i64 (lsV n b y : Nat)) ∧ Below w.heap.size w w' := by
  have HT1 : Hid (∀ W j, Below w.heap.size w W → j + 1 < n → Calls Try.prog 34 #[.slice a2 n c2, .int .i64 ((j : Int) + 1)] W fun e w' => e = .returned (.bool (decide (pa y (j + 1) < pa y j))) ∧ ∃ k, w' = W.drewN k) := fun W j hW hj => by
    rw [← eI_dec hj]
    exact traded_any n j a2 c2 (eI n y) W (eI_len _ _) hj hn ((hy.on hW).mono hW.size)
  have HT2 : Hid (∀ W j, Below w.heap.size w W → j + 1 < n → Calls Try.prog 34 #[.slice a1 n c1, .int .i64 ((j : Int) + 1)] W fun e w' => e = .returned (.bool (decide (pa b (j + 1) < pa b j))) ∧ ∃ k, w' = W.drewN k) := fun W j hW hj => by
    rw [← eI_dec hj]
    exact traded_any n j a1 c1 (eI n b) W (eI_len _ _) hj hn ((hb.on hW).mono hW.size)
  clear hb hy
  go_enter Try.func33, Try.ntmps33
  go_wp2
  go_loopw [5] (fun v5 wr => ∃ k : Nat, k + 1 ≤ n ∧ v5 = .int .i64 ((k : Int) + 1) ∧ Hid (∀ i, i < k → ¬ (pa y (i + 1) < pa y i ∧ ¬ pa b (i + 1) < pa b i)) ∧ Hid (Below w.heap.size w wr)) (fun v5 _ => n - (intOf v5).toNat)
  case atStart => exact ⟨0, by omega, by go_num, fun i hi => by omega, Below.refl _ _⟩
  case round =>
    rename World => W1
    obtain ⟨k, hkn, rfl, hno, hbw⟩ := hrel
    by_cases hk : k + 1 < n
    · have hd : decide ((k : Int) + 1 < (n : Int)) = true := decide_eq_true (by omega)
      have hkI : (k : Int) + 1 < (n : Int) := by omega
      by_cases g1 : pa y (k + 1) < pa y k
      · have H1 := HT1.out W1 k hbw.out hk
        rw [decide_eq_true g1] at H1
        have HC1 : Hid (Calls Try.prog 34 #[.slice a2 n c2, .int .i64 ((k : Int) + 1)] W1 fun e w' => e = .returned (.bool true) ∧ ∃ k, w' = W1.drewN k) := H1
        clear H1
        go_wp2_with (first | (go_at_call 34; refine HC1.out.mono ?_; rintro e9 w5 ⟨rfl, m5, rfl⟩; refine Hid.out ?_))
        refine Lib.hid ?_
        have hb5 := below_drewN hbw.out m5
        have HB5 : Hid (Below w.heap.size w (W1.drewN m5)) := hb5
        generalize W1.drewN m5 = W5 at HB5 hb5 ⊢
        by_cases g2 : pa b (k + 1) < pa b k
        · have H2 := HT2.out W5 k hb5 hk
          rw [decide_eq_true g2] at H2
          have HC2 : Hid (Calls Try.prog 34 #[.slice a1 n c1, .int .i64 ((k : Int) + 1)] W5 fun e w' => e = .returned (.bool true) ∧ ∃ k, w' = W5.drewN k) := H2
          have HNO : Hid (∀ i, i < k + 1 → ¬ (pa y (i + 1) < pa y i ∧ ¬ pa b (i + 1) < pa b i)) := fun i hi q => by
            by_cases e : i = k
            · subst e; exact q.2 g2
            · exact hno.out i (by omega) q
          clear H2 HC1 hb5
          go_wp2_with (first | (go_at_call 34; refine HC2.out.mono ?_; rintro e9 w6 ⟨rfl, m6, rfl⟩; refine Hid.out ?_))
          refine Lib.hid ?_
          have HB6 : Hid (Below w.heap.size w (W5.drewN m6)) := below_drewN HB5.out m6
          generalize W5.drewN m6 = W6 at HB6 ⊢
          go_wp2
          go_roundw
          case rel => exact ⟨k + 1, by omega, by go_num, HNO.out, HB6.out⟩
          case measure => simp only [intOf]; omega
        · have H2 := HT2.out W5 k hb5 hk
          rw [decide_eq_false g2] at H2
          have HC2 : Hid (Calls Try.prog 34 #[.slice a1 n c1, .int .i64 ((k : Int) + 1)] W5 fun e w' => e = .returned (.bool false) ∧ ∃ k, w' = W5.drewN k) := H2
          have HV : Hid (lsV n b y = k + 1) := (by unfold lsV; rw [lsM_is hk g1 g2 hno.out] : lsV n b y = k + 1)
          clear H2 HC1 hb5
          go_wp2_with (first | (go_at_call 34; refine HC2.out.mono ?_; rintro e9 w6 ⟨rfl, m6, rfl⟩; refine Hid.out ?_))
          refine Lib.hid ?_
          have HB6 : Hid (Below w.heap.size w (W5.drewN m6)) := below_drewN HB5.out m6
          generalize W5.drewN m6 = W6 at HB6 ⊢
          go_wp2
          go_ret
          exact ⟨by rw [HV.out]; rfl, HB6.out⟩
      · have H1 := HT1.out W1 k hbw.out hk
        rw [decide_eq_false g1] at H1
        have HC1 : Hid (Calls Try.prog 34 #[.slice a2 n c2, .int .i64 ((k : Int) + 1)] W1 fun e w' => e = .returned (.bool false) ∧ ∃ k, w' = W1.drewN k) := H1
        have HNO : Hid (∀ i, i < k + 1 → ¬ (pa y (i + 1) < pa y i ∧ ¬ pa b (i + 1) < pa b i)) := fun i hi q => by
          by_cases e : i = k
          · subst e; exact g1 q.1
          · exact hno.out i (by omega) q
        clear H1
        go_wp2_with (first | (go_at_call 34; refine HC1.out.mono ?_; rintro e9 w5 ⟨rfl, m5, rfl⟩; refine Hid.out ?_))
        refine Lib.hid ?_
        have HB5 : Hid (Below w.heap.size w (W1.drewN m5)) := below_drewN hbw.out m5
        generalize W1.drewN m5 = W5 at HB5 ⊢
        go_wp2
        go_roundw
        case rel => exact ⟨k + 1, by omega, by go_num, HNO.out, HB5.out⟩
        case measure => simp only [intOf]; omega
    · have hd : decide ((k : Int) + 1 < (n : Int)) = false := decide_eq_false (by omega)
      have HV : Hid (lsV n b y = 0) := (by unfold lsV; rw [lsM_no (fun i hi => hno.out i (by omega))] : lsV n b y = 0)
      go_wp2
      go_ret
      exact ⟨by rw [HV.out]; rfl, hbw.out⟩
end Go.Proofs.Ythlmkoiilgjflaa
/- Ends of strands: the walk of ref.EndsOf. -/
namespace Go.Proofs.Ythlmkoiilgjflaa
open Go.RowKit

/-- Places from 0 on. -/
def subl (L : List Int) : List Int := mapI L.length fun i => L.getD i 0 - 1
theorem subl_len (L : List Int) : (subl L).length = L.length := mapI_len _ _
theorem subl_at (L : List Int) (i : Nat) (h : i < L.length) : (subl L).getD i 0 = L.getD i 0 - 1 := mapI_at _ _ _ h
theorem trd_len (L : List Int) (i : Nat) : (trd L i).length = L.length := by unfold trd; simp
theorem subl_trd (L : List Int) (i : Nat) (h : i < L.length) : trd (subl L) i = subl (trd L i) := by
  apply List.ext_getElem?
  intro j
  by_cases hj : j < L.length
  · have h1 : (trd (subl L) i)[j]? = some ((trd (subl L) i).getD j 0) := by
      rw [List.getD_eq_getElem?_getD, List.getElem?_eq_getElem (by rw [trd_len, subl_len]; exact hj)]; rfl
    have h2 : (subl (trd L i))[j]? = some ((subl (trd L i)).getD j 0) := by
      rw [List.getD_eq_getElem?_getD, List.getElem?_eq_getElem (by rw [subl_len, trd_len]; exact hj)]; rfl
    rw [h1, h2, subl_at _ _ (by rw [trd_len]; exact hj)]
    unfold trd
    rw [getD_setI, getD_setI, getD_setI, getD_setI, List.length_set, List.length_set, subl_len, subl_at _ _ h, subl_at _ _ (show i - 1 < L.length by omega), subl_at _ _ hj]
    congr 1
    split
    · rfl
    · split <;> rfl
  · rw [List.getElem?_eq_none (by rw [trd_len, subl_len]; omega), List.getElem?_eq_none (by rw [subl_len, trd_len]; omega)]
theorem subl_first (n : Nat) (l : List Int) : (mapI n fun i => (i : Int) + 0) = subl (begT n l 0) := by
  have e : begT n l 0 = mapI n fun i => (i : Int) + 1 := rfl
  rw [e]
  unfold subl
  rw [mapI_len]
  exact mapI_congr _ _ _ fun j hj => by rw [mapI_at _ _ _ hj]; omega

end Go.Proofs.Ythlmkoiilgjflaa

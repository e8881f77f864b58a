/- The walks of braid.delta and passed, and of slices.Equal. -/
import Derived.Test.YtdlmhcickcgnfaaGB2
namespace Go.Proofs.Ytdlmhcickcgnfaa
open Go.RowKit

set_option maxHeartbeats 4000000 in
set_option maxRecDepth 100000 in
theorem delta_any (n : Nat) (w : World) (h2 : 2 ≤ n) (hn : n ≤ 6) :
    Calls Try.prog 33 #[.int .i64 (n : Nat)] w fun e w' => ∃ g c, e = .returned (.slice (some ⟨g, 0, none⟩) n c) ∧ w'.ownsRow w.heap.size 3 1 (.slice (some ⟨g, 0, none⟩) n c) n (intsV (eI n (pdl n))) ∧ Below w.heap.size w w' := by
  have HC1 := hid_g (places_any n w hn)
  go_enter Try.func33, Try.ntmps33
  go_wp2_with (first
    | (go_at_call 31; refine HC1.out.mono ?_; rintro e9 w5 ⟨a5, c5, rfl, hr5, hg5⟩; refine Hid.out ?_))
  refine Lib.hid ?_
  obtain ⟨g5, c5', e5, -⟩ := own_block hr5 (by omega)
  injection e5 with e51 e52 e53
  subst e51 e53
  rw [eI_pid] at hr5
  have HB5 : Hid (Below w.heap.size w w5) := (Below.refl _ _).grown hg5 (Nat.le_refl _) (fun q hq => by cases hq)
  have HLT := hid_g (hr5.lt g5 rfl)
  have HRV : Hid (Calls Try.prog 40 #[.slice (some ⟨g5, 0, none⟩) n c5] w5 fun e w' => e = .returned (.tuple #[]) ∧ w'.ownsRow w.heap.size 3 1 (.slice (some ⟨g5, 0, none⟩) n c5) n (intsV (eI n (pdl n))) ∧ w5.grownBy w' (some g5)) := (by
    have h := reverse_any w.heap.size g5 c5 (eI n (pid n)) w5 (by rw [eI_len]; omega) (by rw [eI_len]; omega) (by rw [eI_len]; exact hr5)
    rw [eI_pdl, eI_len] at h
    exact h)
  clear hr5 hg5 HC1
  go_wp2_with (first
    | (go_at_call 40; refine HRV.out.mono ?_; rintro e9 w6 ⟨rfl, hr6, hg6⟩; refine Hid.out ?_))
  refine Lib.hid ?_
  have HFN : Hid (w6.ownsRow w.heap.size 3 1 (.slice (some ⟨g5, 0, none⟩) n c5) n (intsV (eI n (pdl n))) ∧ Below w.heap.size w w6) := ⟨hr6, HB5.out.grown hg6 HB5.out.size (fun q hq => by have h1 : g5 = q := Option.some.inj hq; have := HLT.out.1; omega)⟩
  clear hr6 hg6 HRV
  go_wp2
  go_ret
  exact ⟨g5, c5, rfl, HFN.out⟩

/-- The first k laid. -/
def psT (n : Nat) (p : List Nat) (k : Nat) : List Int := mapI n fun j => if n ≤ j + k then (pa (pta n p) j : Int) + 1 else 0
theorem psT_zero (n : Nat) (p : List Nat) : List.replicate n 0 = psT n p 0 := (mapI_zero _ _ (fun j hj => by rw [if_neg (by omega)])).symm
theorem psT_all (n : Nat) (p : List Nat) : psT n p n = eI n (pta n p) := mapI_congr _ _ _ fun j hj => by rw [if_pos (by omega)]
theorem psT_next {n k : Nat} {p : List Nat} (hp : IsP n p) (hk : k < n) : (psT n p k).set (n - 1 - k) ((n : Int) + 1 - ((pa p k : Int) + 1)) = psT n p (k + 1) := by
  refine mapI_set _ _ _ _ _ fun j hj => ?_
  have hl := hp.lt k hk
  by_cases e : j = n - 1 - k
  · rw [if_pos e, if_pos (by omega), e, pta_at (by omega), show n - 1 - (n - 1 - k) = k by omega]
    omega
  · rw [if_neg e]
    by_cases e2 : n ≤ j + k
    · rw [if_pos e2, if_pos (by omega)]
    · rw [if_neg e2, if_neg (by omega)]
theorem psT_len (n : Nat) (p : List Nat) (k : Nat) : (psT n p k).length = n := mapI_len _ _

set_option maxHeartbeats 8000000 in
set_option maxRecDepth 100000 in
theorem passed_any (n c : Nat) (a : Option Addr) (p : List Nat) (w : World) (h1 : 1 ≤ n) (hn : n ≤ 1000) (hp : IsP n p) (h : RdAt w w.heap.size 1 (.slice a n c) n (intsV (eI n p))) :
    Calls Try.prog 32 #[.slice a n c] w fun e w' => ∃ g c2, e = .returned (.slice (some ⟨g, 0, none⟩) n c2) ∧ w'.ownsRow w.heap.size 3 1 (.slice (some ⟨g, 0, none⟩) n c2) n (intsV (eI n (pta n p))) ∧ Below w.heap.size w w' := by
  obtain ⟨i0, hi, hz0, hz1, hz2⟩ := info_parts infoInt
  have HRD : Hid (RdAt w w.heap.size 1 (.slice a (eI n p).length c) (eI n p).length (intsV (eI n p))) := (by rw [eI_len]; exact h : RdAt w w.heap.size 1 (.slice a (eI n p).length c) (eI n p).length (intsV (eI n p)))
  have HP := hid_g hp
  have ew0 : IntKind.i64.wrap ((n : Int) - 1) = (n : Int) - 1 := IntWalk.i64_in _ (by omega)
  have ew1 : IntKind.i64.wrap ((n : Int) + 1) = (n : Int) + 1 := IntWalk.i64_in _ (by omega)
  clear h hp
  go_enter Try.func32, Try.ntmps32
  go_wp2_with (first | (at_make; refine wpList_make_full _ rfl _ _ 22 rfl w.heap.size 3 i0 (.int .i64 0) 1 Try.underlying22 hi hz0 hz1 .i64 .i64 _ _ n rfl rfl rfl rfl (by rw [hz2]; omega) (by unfold maxLen; omega) (by simp) ?_; intro w1 hrow1 hg1; refine Hid.out ?_))
  refine Lib.hid ?_
  rw [made_zero, psT_zero n p] at hrow1
  obtain ⟨g, hg⟩ : ∃ g, w.heap.size = g := ⟨_, rfl⟩
  have HG : Hid (w.heap.size = g) := hg
  have HB1 : Hid (Below w.heap.size w w1) := (Below.refl _ _).grown hg1 (Nat.le_refl _) (fun k hk => by cases hk)
  rw [hg] at hrow1
  rw [hg]
  have HR1 := hid_g hrow1
  clear hrow1 hg1 hg
  go_wp2
  go_loopw [5, 6, 13] (fun v5 v6 v13 wr => ∃ k : Nat, k ≤ n ∧ v13 = .int .i64 (k : Nat) ∧ Hid (wr.ownsRow g 3 1 (.slice (some ⟨g, 0, none⟩) n n) n (intsV (psT n p k))) ∧ Hid (Below w.heap.size w wr)) (fun _ _ v13 _ => n - (intOf v13).toNat)
  case atStart => exact ⟨0, Nat.zero_le _, rfl, HR1.out, HB1.out⟩
  case round =>
    clear HR1 HB1
    rename World => W1
    obtain ⟨k, hkn, rfl, hq, hb⟩ := hrel
    by_cases hk : k < n
    · have hkI : (k : Int) < (n : Int) := by omega
      obtain ⟨b, off, ea, hlt, hc⟩ := (HRD.out.on hb.out).intAt k (by rw [eI_len]; exact hk)
      rw [eI_at hk] at hc
      have hl := HP.out.lt k hk
      obtain ⟨j, hj⟩ : ∃ j : Nat, n - 1 - k = j := ⟨_, rfl⟩
      have hjI : IntKind.i64.wrap ((n : Int) - 1 - (k : Int)) = (j : Int) := by rw [IntWalk.i64_in _ (by omega)]; omega
      have hjn : j < n := by omega
      have hjI2 : (j : Int) < (n : Int) := by omega
      have e0 := hq.out.cellAt j (by omega)
      rw [intsV_get _ j (by rw [psT_len]; exact hjn)] at e0
      generalize (psT n p k).getD j 0 = z at e0
      have f0 := hq.out.frozenAt j
      have lg := (hq.out.lt g rfl).2
      have lb : b < W1.heap.size := Nat.lt_of_lt_of_le hlt hb.out.size
      have hst := hq.out.stored j (.int .i64 ((n : Int) + 1 - ((pa p k : Int) + 1)))
      have hnx := psT_next HP.out hk
      rw [hj] at hnx
      rw [intsV_set, hnx] at hst
      generalize pa p k = x at hc hl hst
      have ew2 : IntKind.i64.wrap ((n : Int) + 1 - ((x : Int) + 1)) = (n : Int) + 1 - ((x : Int) + 1) := IntWalk.i64_in _ (by omega)
      have HST : Hid ((W1.setCell ⟨g, j, none⟩ (.int .i64 ((n : Int) + 1 - ((x : Int) + 1)))).ownsRow g 3 1 (.slice (some ⟨g, 0, none⟩) n n) n (intsV (psT n p (k + 1)))) := hst.1
      have HBS : Hid (Below w.heap.size w (W1.setCell ⟨g, j, none⟩ (.int .i64 ((n : Int) + 1 - ((x : Int) + 1))))) := hb.out.grown hst.2 hb.out.size (fun x hx => by have h1 : g = x := Option.some.inj hx; have := HG.out; omega)
      clear hst hnx hj
      subst ea
      go_wp2
      go_roundw
      case rel => exact ⟨k + 1, by omega, by go_num, HST.out, HBS.out⟩
      case measure => simp only [intOf]; omega
    · obtain rfl : k = n := by omega
      rw [psT_all] at hq
      go_wp2
      go_ret
      exact ⟨g, k, rfl, by rw [HG.out]; exact hq.out, hb.out⟩

theorem list_eqI {l1 l2 : List Int} {n : Nat} (h1 : l1.length = n) (h2 : l2.length = n) (h : ∀ i, i < n → l1.getD i 0 = l2.getD i 0) : l1 = l2 := by
  apply List.ext_getElem (by omega)
  intro i g1 g2
  have := h i (by omega)
  rw [List.getD_eq_getElem?_getD, List.getD_eq_getElem?_getD, List.getElem?_eq_getElem g1, List.getElem?_eq_getElem g2] at this
  exact this
set_option maxHeartbeats 4000000 in
set_option maxRecDepth 100000 in
theorem equalI_any (n c1 c2 : Nat) (a1 a2 : Option Addr) (l1 l2 : List Int) (w : World) (hl1 : l1.length = n) (hl2 : l2.length = n) (hn : n ≤ 100000) (h1 : RdAt w w.heap.size 1 (.slice a1 n c1) n (intsV l1)) (h2 : RdAt w w.heap.size 1 (.slice a2 n c2) n (intsV l2)) :
    Calls Try.prog 18 #[.slice a1 n c1, .slice a2 n c2] w fun e w' => e = .returned (.bool (decide (l1 = l2))) ∧ Below w.heap.size w w' := by
  have H1 : Hid (RdAt w w.heap.size 1 (.slice a1 l1.length c1) l1.length (intsV l1)) := (by rw [hl1]; exact h1 : RdAt w w.heap.size 1 (.slice a1 l1.length c1) l1.length (intsV l1))
  have H2 : Hid (RdAt w w.heap.size 1 (.slice a2 l2.length c2) l2.length (intsV l2)) := (by rw [hl2]; exact h2 : RdAt w w.heap.size 1 (.slice a2 l2.length c2) l2.length (intsV l2))
  have HL : Hid (l1.length = n ∧ l2.length = n) := ⟨hl1, hl2⟩
  have hne : ((n : Int) != (n : Int)) = false := by simp
  clear h1 h2 hl1 hl2
  go_enter Try.func18, Try.ntmps18
  go_wp2
  go_loopw [5, 13] (fun v5 v13 wr => ∃ k : Nat, k ≤ n ∧ v13 = .int .i64 (k : Nat) ∧ Hid (∀ i, i < k → l1.getD i 0 = l2.getD i 0) ∧ Hid (Below w.heap.size w wr)) (fun _ v13 _ => n - (intOf v13).toNat)
  case atStart => exact ⟨0, Nat.zero_le _, rfl, fun i hi => by omega, Below.refl _ _⟩
  case round =>
    rename World => W1
    obtain ⟨k, hkn, rfl, hq, hb⟩ := hrel
    by_cases hk : k < n
    · have hkI : (k : Int) < (n : Int) := by omega
      obtain ⟨b1, o1, ea1, hlt1, hc1⟩ := (H1.out.on hb.out).intAt k (by rw [HL.out.1]; exact hk)
      obtain ⟨b2, o2, ea2, hlt2, hc2⟩ := (H2.out.on hb.out).intAt k (by rw [HL.out.2]; exact hk)
      obtain ⟨x, hx⟩ : ∃ x, l1.getD k 0 = x := ⟨_, rfl⟩
      obtain ⟨y, hy⟩ : ∃ y, l2.getD k 0 = y := ⟨_, rfl⟩
      rw [hx] at hc1
      rw [hy] at hc2
      have HXY : Hid (l1.getD k 0 = x ∧ l2.getD k 0 = y) := ⟨hx, hy⟩
      have lb1 : b1 < W1.heap.size := Nat.lt_of_lt_of_le hlt1 hb.out.size
      have lb2 : b2 < W1.heap.size := Nat.lt_of_lt_of_le hlt2 hb.out.size
      clear hx hy
      subst ea1 ea2
      by_cases e : x = y
      · subst e
        have hd : (x != x) = false := by simp
        have HNX : Hid (∀ i, i < k + 1 → l1.getD i 0 = l2.getD i 0) := fun i hi => by
          by_cases e : i = k
          · rw [e, HXY.out.1, HXY.out.2]
          · exact hq.out i (by omega)
        go_wp2
        go_quiet (fail)
        have HBD : Hid (Below w.heap.size w (W1.drewN nq)) := below_drewN hb.out nq
        generalize W1.drewN nq = W2 at HBD ⊢
        go_wp2
        go_roundw
        case rel => exact ⟨k + 1, by omega, by go_num, HNX.out, HBD.out⟩
        case measure => simp only [intOf]; omega
      · have hd : (x != y) = true := by simp [e]
        have HF : Hid (decide (l1 = l2) = false) := (decide_eq_false (fun q => e (by rw [← HXY.out.1, ← HXY.out.2, q])) : decide (l1 = l2) = false)
        go_wp2
        go_quiet (fail)
        have HBD : Hid (Below w.heap.size w (W1.drewN nq)) := below_drewN hb.out nq
        generalize W1.drewN nq = W2 at HBD ⊢
        go_wp2
        go_ret
        exact ⟨ret_bool HF.out, HBD.out⟩
    · obtain rfl : k = n := by omega
      have HF : Hid (decide (l1 = l2) = true) := (decide_eq_true (list_eqI HL.out.1 HL.out.2 hq.out) : decide (l1 = l2) = true)
      go_wp2
      go_ret
      exact ⟨ret_bool HF.out, hb.out⟩

/-- Rows of permutations to be read. -/
def FacRd (W : World) (n : Nat) (v : Value) (T : List (List Int)) : Prop := IntsRd W W.heap.size v T ∧ ∀ x ∈ T, x.length = n
theorem list_eqL {l1 l2 : List (List Int)} {n : Nat} (h1 : l1.length = n) (h2 : l2.length = n) (h : ∀ i, i < n → l1.getD i [] = l2.getD i []) : l1 = l2 := by
  apply List.ext_getElem (by omega)
  intro i g1 g2
  have := h i (by omega)
  rw [List.getD_eq_getElem?_getD, List.getD_eq_getElem?_getD, List.getElem?_eq_getElem g1, List.getElem?_eq_getElem g2] at this
  exact this
theorem IntsRd.rowG {W w : World} {B : Nat} {a : Option Addr} {c : Nat} {L : List (List Int)} (h : IntsRd w B (.slice a L.length c) L) (hW : Below B w W) (k : Nat) (hk : k < L.length) :
    ∃ b off a2 c2, a = some ⟨b, off, none⟩ ∧ b < B ∧ W.cell? ⟨b, off + k, none⟩ = some (.slice a2 (L.getD k []).length c2) ∧ RdAt W B 1 (.slice a2 (L.getD k []).length c2) (L.getD k []).length (intsV (L.getD k [])) := by
  obtain ⟨ys, hy, h1, h2⟩ := h
  obtain ⟨a', cap', e, f⟩ := h1
  injection e with e1 e2 e3
  subst e1
  obtain ⟨b, off, rfl, hlt, hc⟩ := f (by omega)
  have h3 := h2 k hk
  obtain ⟨a2, c2, e2, -⟩ := h3
  have h3 := h2 k hk
  rw [e2] at h3
  refine ⟨b, off, a2, c2, rfl, hlt, ?_, h3.on hW⟩
  have h4 := hc k (by omega)
  have h5 : ys[k]? = some (ys.getD k (.bool false)) := by rw [List.getD_eq_getElem?_getD, List.getElem?_eq_getElem (by omega)]; rfl
  rw [h5, e2] at h4
  exact bcell hW hlt h4
set_option maxHeartbeats 8000000 in
set_option maxRecDepth 100000 in
theorem equalF_any (n m1 m2 c1 c2 : Nat) (a1 a2 : Option Addr) (T1 T2 : List (List Int)) (w : World) (hm1 : T1.length = m1) (hm2 : T2.length = m2) (hn : n ≤ 100000) (hm : m1 ≤ 100000) (h1 : IntsRd w w.heap.size (.slice a1 m1 c1) T1) (h2 : IntsRd w w.heap.size (.slice a2 m2 c2) T2) (g1 : ∀ j, j < T1.length → (T1.getD j []).length = n) (g2 : ∀ j, j < T2.length → (T2.getD j []).length = n) :
    Calls Try.prog 17 #[.slice a1 m1 c1, .slice a2 m2 c2, .func (.func 18) #[] #[]] w fun e w' => e = .returned (.bool (decide (T1 = T2))) ∧ Below w.heap.size w w' := by
  by_cases hmm : m1 = m2
  · subst hmm
    have H1 : Hid (IntsRd w w.heap.size (.slice a1 T1.length c1) T1) := (by rw [hm1]; exact h1 : IntsRd w w.heap.size (.slice a1 T1.length c1) T1)
    have H2 : Hid (IntsRd w w.heap.size (.slice a2 T2.length c2) T2) := (by rw [hm2]; exact h2 : IntsRd w w.heap.size (.slice a2 T2.length c2) T2)
    have HL : Hid (T1.length = m1 ∧ T2.length = m1) := ⟨hm1, hm2⟩
    have HG : Hid ((∀ j, j < T1.length → (T1.getD j []).length = n) ∧ ∀ j, j < T2.length → (T2.getD j []).length = n) := ⟨g1, g2⟩
    have hne : ((m1 : Int) != (m1 : Int)) = false := by simp
    clear h1 h2 hm1 hm2 g1 g2
    go_enter Try.func17, Try.ntmps17
    go_wp2
    go_loopw [7, 8, 9, 17] (fun v7 v8 v9 v17 wr => ∃ k : Nat, k ≤ m1 ∧ v17 = .int .i64 (k : Nat) ∧ Hid (∀ i, i < k → T1.getD i [] = T2.getD i []) ∧ Hid (Below w.heap.size w wr)) (fun _ _ _ v17 _ => m1 - (intOf v17).toNat)
    case atStart => exact ⟨0, Nat.zero_le _, rfl, fun i hi => by omega, Below.refl _ _⟩
    case round =>
      rename World => W1
      obtain ⟨k, hkn, rfl, hq, hb⟩ := hrel
      by_cases hk : k < m1
      · have hkI : (k : Int) < (m1 : Int) := by omega
        obtain ⟨b1, o1, a3, c3, ea1, hlt1, hc1, hr1⟩ := H1.out.rowG hb.out k (by rw [HL.out.1]; exact hk)
        obtain ⟨b2, o2, a4, c4, ea2, hlt2, hc2, hr2⟩ := H2.out.rowG hb.out k (by rw [HL.out.2]; exact hk)
        have l1 := HG.out.1 k (by rw [HL.out.1]; exact hk)
        have l2 := HG.out.2 k (by rw [HL.out.2]; exact hk)
        rw [l1] at hc1 hr1
        rw [l2] at hc2 hr2
        have lb1 : b1 < W1.heap.size := Nat.lt_of_lt_of_le hlt1 hb.out.size
        have lb2 : b2 < W1.heap.size := Nat.lt_of_lt_of_le hlt2 hb.out.size
        have HEQ := hid_g (equalI_any n c3 c4 a3 a4 _ _ W1 l1 l2 hn (hr1.mono hb.out.size) (hr2.mono hb.out.size))
        subst ea1 ea2
        clear l1 l2 hr1 hr2
        by_cases e : T1.getD k [] = T2.getD k []
        · rw [decide_eq_true e] at HEQ
          have HNX : Hid (∀ i, i < k + 1 → T1.getD i [] = T2.getD i []) := fun i hi => by
            by_cases e2 : i = k
            · rw [e2]; exact e
            · exact hq.out i (by omega)
          clear e
          go_wp2_with (first
            | (go_at_call 18; refine HEQ.out.mono ?_; rintro e9 w5 ⟨rfl, hb5⟩; refine Hid.out ?_))
          refine Lib.hid ?_
          have HB5 : Hid (Below w.heap.size w w5) := hb.out.grown (grown_below hb5 none) hb.out.size (fun q hq => by cases hq)
          clear hb5 HEQ
          go_wp2
          go_roundw
          case rel => exact ⟨k + 1, by omega, by go_num, HNX.out, HB5.out⟩
          case measure => simp only [intOf]; omega
        · rw [decide_eq_false e] at HEQ
          have HF : Hid (decide (T1 = T2) = false) := (decide_eq_false (fun q => e (by rw [q])) : decide (T1 = T2) = false)
          clear e
          go_wp2_with (first
            | (go_at_call 18; refine HEQ.out.mono ?_; rintro e9 w5 ⟨rfl, hb5⟩; refine Hid.out ?_))
          refine Lib.hid ?_
          have HB5 : Hid (Below w.heap.size w w5) := hb.out.grown (grown_below hb5 none) hb.out.size (fun q hq => by cases hq)
          clear hb5 HEQ
          go_wp2
          go_ret
          exact ⟨ret_bool HF.out, HB5.out⟩
      · obtain rfl : k = m1 := by omega
        have HF : Hid (decide (T1 = T2) = true) := (decide_eq_true (list_eqL HL.out.1 HL.out.2 hq.out) : decide (T1 = T2) = true)
        go_wp2
        go_ret
        exact ⟨ret_bool HF.out, hb.out⟩
  · have hne : ((m1 : Int) != (m2 : Int)) = true := by simp; omega
    have HF : Hid (decide (T1 = T2) = false) := (decide_eq_false (fun q => hmm (by rw [← hm1, ← hm2, q])) : decide (T1 = T2) = false)
    clear h1 h2 hm1 hm2 g1 g2
    go_enter Try.func17, Try.ntmps17
    go_wp2
    go_ret
    exact ⟨ret_bool HF.out, Below.refl _ _⟩
end Go.Proofs.Ytdlmhcickcgnfaa

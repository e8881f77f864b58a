/- Several texts of the proof, one behind the other. -/
import Derived.Test.YtnlcknlodjjdbaaDoorH4P
import Derived.Test.YtnlcknlodjjdbaaDoorF1P
/- Lists of fractions: the walks of slices.Reverse (of numbers) and tangle.expanded. -/
namespace Go.Proofs.YtnlcknlodjjdbaaDoor
open Go.RowKit

theorem list_mapI (l : List Int) : l = mapI l.length (fun i => l.getD i 0) := by
  apply List.ext_getElem?
  intro j
  by_cases hj : j < l.length
  · rw [mapI_get _ _ j hj, List.getElem?_eq_getElem hj, List.getD_eq_getElem?_getD, List.getElem?_eq_getElem hj]
    rfl
  · rw [List.getElem?_eq_none (by omega), List.getElem?_eq_none (by rw [mapI_len]; omega)]
theorem intsV_getG (l : List Int) (i : Nat) (h : i < l.length) : (intsV l)[i]? = some (.int .i64 (l.getD i 0)) := by simp [intsV, List.getD, h]
/-- The first k and the last k places turned round. -/
def rvF (l : List Int) (k i : Nat) : Int := if i < k ∨ l.length ≤ i + k then l.getD (l.length - 1 - i) 0 else l.getD i 0
theorem rvF_zero (l : List Int) : mapI l.length (rvF l 0) = l := by
  conv => rhs; rw [list_mapI l]
  exact mapI_congr _ _ _ fun j hj => by unfold rvF; rw [if_neg (by omega)]
theorem rvF_next (l : List Int) (k : Nat) (h : 2 * k + 1 < l.length) : ((mapI l.length (rvF l k)).set k (l.getD (l.length - 1 - k) 0)).set (l.length - 1 - k) (l.getD k 0) = mapI l.length (rvF l (k + 1)) := by
  rw [mapI_set _ _ (fun j => if j = k then l.getD (l.length - 1 - k) 0 else rvF l k j) k _ (fun j _ => rfl)]
  refine mapI_set _ _ _ _ _ fun j hj => ?_
  unfold rvF
  by_cases e1 : j = l.length - 1 - k
  · rw [if_pos e1, if_pos (by omega)]
    congr 1
    omega
  · rw [if_neg e1]
    by_cases e2 : j = k
    · rw [if_pos e2, if_pos (by omega), e2]
    · rw [if_neg e2]
      by_cases e3 : j < k ∨ l.length ≤ j + k
      · rw [if_pos e3, if_pos (by omega)]
      · rw [if_neg e3, if_neg (by omega)]
theorem rvF_all (l : List Int) (k : Nat) (h : l.length ≤ 2 * k + 1) : mapI l.length (rvF l k) = l.reverse := by
  apply List.ext_getElem?
  intro j
  by_cases hj : j < l.length
  · rw [mapI_get _ _ j hj, List.getElem?_reverse hj, List.getElem?_eq_getElem (by omega)]
    unfold rvF
    by_cases e : j < k ∨ l.length ≤ j + k
    · rw [if_pos e, List.getD_eq_getElem?_getD, List.getElem?_eq_getElem (by omega)]
      rfl
    · rw [if_neg e]
      have : j = l.length - 1 - j := by omega
      rw [List.getD_eq_getElem?_getD, List.getElem?_eq_getElem hj, Option.getD_some]
      congr 2
  · rw [List.getElem?_eq_none (by rw [mapI_len]; omega), List.getElem?_eq_none (by simp; omega)]

set_option maxHeartbeats 8000000 in
set_option maxRecDepth 100000 in
theorem reverse_any (B g cap : Nat) (l : List Int) (w : World) (hl : l.length ≤ 100000) (h1 : 1 ≤ l.length) (h : w.ownsRow B 3 1 (.slice (some ⟨g, 0, none⟩) l.length cap) l.length (intsV l)) :
    Calls Tryd.prog 24 #[.slice (some ⟨g, 0, none⟩) l.length cap] w fun e w' => e = .returned (.tuple #[]) ∧ w'.ownsRow B 3 1 (.slice (some ⟨g, 0, none⟩) l.length cap) l.length (intsV l.reverse) ∧ w.grownBy w' (some g) := by
  have HP0 : Hid (w.ownsRow B 3 1 (.slice (some ⟨g, 0, none⟩) l.length cap) l.length (intsV (mapI l.length (rvF l 0))) ∧ w.grownBy w (some g)) := ⟨by rw [rvF_zero]; exact h, World.grownBy.refl _ _⟩
  obtain ⟨n, hN⟩ : ∃ n, l.length = n := ⟨_, rfl⟩
  have HN : Hid (l.length = n) := hN
  have HNX : Hid (∀ k, 2 * k + 1 < n → ((mapI n (rvF l k)).set k (l.getD (n - 1 - k) 0)).set (n - 1 - k) (l.getD k 0) = mapI n (rvF l (k + 1))) := fun k hk => by
    have := rvF_next l k (by omega)
    rw [hN] at this
    exact this
  have HAL : Hid (∀ k, n ≤ 2 * k + 1 → mapI n (rvF l k) = l.reverse) := fun k hk => by
    have := rvF_all l k (by omega)
    rw [hN] at this
    exact this
  have HVA : Hid (∀ k i, 2 * k + 1 < n → k ≤ i → i + k < n → rvF l k i = l.getD i 0) := fun k i h1 h2 h3 => by
    unfold rvF
    rw [if_neg (by omega)]
  rw [hN] at hl h1 HP0 ⊢
  clear h hN
  have ew0 : IntKind.i64.wrap ((n : Int) - 1) = (n : Int) - 1 := IntWalk.i64_in _ (by omega)
  go_enter Tryd.func24, Tryd.ntmps24
  go_wp2
  go_loopw [2, 3] (fun v2 v3 wr => ∃ k : Nat, k ≤ n ∧ v2 = .int .i64 (k : Nat) ∧ v3 = .int .i64 ((n : Int) - 1 - (k : Int)) ∧ Hid (wr.ownsRow B 3 1 (.slice (some ⟨g, 0, none⟩) n cap) n (intsV (mapI n (rvF l k))) ∧ w.grownBy wr (some g))) (fun v2 _ _ => n - (intOf v2).toNat)
  case atStart => exact ⟨0, Nat.zero_le _, rfl, by congr 1; omega, HP0.out⟩
  case round =>
    clear HP0 ew0
    rename World => W1
    obtain ⟨k, hkn, rfl, rfl, hp⟩ := hrel
    by_cases hk : 2 * k + 1 < n
    · obtain ⟨j, hj⟩ : ∃ j : Nat, n - 1 - k = j := ⟨_, rfl⟩
      have HJ : Hid (n - 1 - k = j) := hj
      have hjI : (n : Int) - 1 - (k : Int) = (j : Int) := by omega
      rw [hjI]
      have hkj : k < j := by omega
      have hjn : j < n := by omega
      have e0 : W1.cell? ⟨g, k, none⟩ = some (.int .i64 (l.getD k 0)) := by
        rw [hp.out.1.cellAt k (by omega), intsV_getG _ k (by rw [mapI_len]; omega), mapI_at _ _ k (by omega), HVA.out k k hk (Nat.le_refl _) (by omega)]
      have e1 : W1.cell? ⟨g, j, none⟩ = some (.int .i64 (l.getD j 0)) := by
        rw [hp.out.1.cellAt j (by omega), intsV_getG _ j (by rw [mapI_len]; omega), mapI_at _ _ j (by omega), HVA.out k j hk (by omega) (by omega)]
      have f0 : W1.frozen? ⟨g, k, none⟩ = false := hp.out.1.frozenAt k
      have f1 : W1.frozen? ⟨g, j, none⟩ = false := hp.out.1.frozenAt j
      have hst := hp.out.1.stored k (.int .i64 (l.getD j 0))
      have hst2 := hst.1.stored j (.int .i64 (l.getD k 0))
      have hnx := HNX.out k hk
      rw [hj] at hnx
      rw [intsV_set, intsV_set, hnx] at hst2
      obtain ⟨x, hx⟩ : ∃ x, l.getD k 0 = x := ⟨_, rfl⟩
      obtain ⟨y, hy⟩ : ∃ y, l.getD j 0 = y := ⟨_, rfl⟩
      rw [hx] at e0 hst2
      rw [hy] at e1 hst hst2
      have HST : Hid (((W1.setCell ⟨g, k, none⟩ (.int .i64 y)).setCell ⟨g, j, none⟩ (.int .i64 x)).ownsRow B 3 1 (.slice (some ⟨g, 0, none⟩) n cap) n (intsV (mapI n (rvF l (k + 1)))) ∧ w.grownBy ((W1.setCell ⟨g, k, none⟩ (.int .i64 y)).setCell ⟨g, j, none⟩ (.int .i64 x)) (some g)) := ⟨hst2.1, grown_trans hp.out.2 (grown_trans hst.2 hst2.2)⟩
      have hgw := (hp.out.1.lt g rfl).2
      have hkI : (k : Int) < (n : Int) := by omega
      have hjI2 : (j : Int) < (n : Int) := by omega
      have hkjn : k ≠ j := by omega
      have ew1 : IntKind.i64.wrap ((j : Int) - 1) = (j : Int) - 1 := IntWalk.i64_in _ (by omega)
      clear hst hst2 hnx hx hy hj hjI
      go_wp2
      apply cut_one
      case h =>
        intro key
        go_region_with (fail)
        all_goals exact key.out
      obtain ⟨X, hX⟩ : ∃ X, X = ((W1.setCell ⟨g, k, none⟩ (.int .i64 y)).setCell ⟨g, j, none⟩ (.int .i64 x)).drew := ⟨_, rfl⟩
      have HX : Hid (X.ownsRow B 3 1 (.slice (some ⟨g, 0, none⟩) n cap) n (intsV (mapI n (rvF l (k + 1)))) ∧ w.grownBy X (some g)) := (by
        rw [hX]
        exact ⟨own_any HST.out.1 (grown_below ((Below.refl _ _).drew) none), grown_trans HST.out.2 (grown_below ((Below.refl _ _).drew) _)⟩ : X.ownsRow B 3 1 (.slice (some ⟨g, 0, none⟩) n cap) n (intsV (mapI n (rvF l (k + 1)))) ∧ w.grownBy X (some g))
      rw [← hX]
      clear hX HST e0 e1 f0 f1
      go_wp2
      go_roundw
      case rel => exact ⟨k + 1, by omega, by go_num, by congr 1; have := HJ.out; omega, HX.out⟩
      case measure => simp only [intOf]; omega
    · have HA : Hid (mapI n (rvF l k) = l.reverse) := HAL.out k (by omega)
      rw [HA.out] at hp
      have hd : decide ((k : Int) < (n : Int) - 1 - (k : Int)) = false := by simp; omega
      go_wp2
      exact bodyPost_end (v := .tuple #[]) (results_none rfl _ _ _) rfl ⟨rfl, hp.out⟩
end Go.Proofs.YtnlcknlodjjdbaaDoor
/- Lists of twists: which may be; the walks of tangle.size, ref.abs, tangle.refusal and ref.ListMay. -/
namespace Go.Proofs.YtnlcknlodjjdbaaDoor
open Go.RowKit

/-- The first k numbers' sizes, together. -/
def szTo (l : List Int) : Nat → Nat
  | 0 => 0
  | k + 1 => szTo l k + (l.getD k 0).natAbs
/-- Is a number too great? -/
def wide (x : Int) : Bool := decide (x < -16) || decide (16 < x)
/-- What is wrong with a list of twists. -/
def listN (l : List Int) : Int := if l.any wide = true then 3 else if l.length % 2 = 0 ∨ 16 < szTo l l.length then 2 else 0
theorem wide_no {x : Int} (h : wide x = false) : -16 ≤ x ∧ x ≤ 16 := by
  simp only [wide, Bool.or_eq_false_iff, decide_eq_false_iff_not] at h
  omega
theorem wide_yes {x : Int} (h : x < -16 ∨ 16 < x) : wide x = true := by
  simp only [wide, Bool.or_eq_true, decide_eq_true_eq]
  exact h
theorem getD_mem {l : List Int} {i : Nat} (h : i < l.length) : l.getD i 0 ∈ l := by
  rw [List.getD_eq_getElem?_getD, List.getElem?_eq_getElem h]
  exact List.getElem_mem h
theorem szTo_le (l : List Int) (k : Nat) (h : ∀ j, j < k → -16 ≤ l.getD j 0 ∧ l.getD j 0 ≤ 16) : szTo l k ≤ 16 * k := by
  induction k with
  | zero => exact Nat.le_refl _
  | succ k ih =>
    have h1 := ih fun j hj => h j (by omega)
    have h2 := h k (by omega)
    simp only [szTo]
    omega
theorem listN_bad {l : List Int} {i : Nat} (h : i < l.length) (hb : l.getD i 0 < -16 ∨ 16 < l.getD i 0) : listN l = 3 := by
  unfold listN
  rw [if_pos (List.any_eq_true.2 ⟨_, getD_mem h, wide_yes hb⟩)]
theorem listN_good {l : List Int} (h : ∀ j, j < l.length → -16 ≤ l.getD j 0 ∧ l.getD j 0 ≤ 16) : listN l = if l.length % 2 = 0 ∨ 16 < szTo l l.length then 2 else 0 := by
  unfold listN
  rw [if_neg]
  intro hc
  obtain ⟨x, hx, hw⟩ := List.any_eq_true.1 hc
  obtain ⟨j, hj, rfl⟩ := List.getElem_of_mem hx
  have := h j hj
  rw [List.getD_eq_getElem?_getD, List.getElem?_eq_getElem hj] at this
  simp only [wide, Bool.or_eq_true, decide_eq_true_eq, Option.getD_some] at hw this
  omega
theorem listN_ok {l : List Int} (h : listN l = 0) : (∀ j, j < l.length → -16 ≤ l.getD j 0 ∧ l.getD j 0 ≤ 16) ∧ l.length % 2 = 1 ∧ szTo l l.length ≤ 16 := by
  unfold listN at h
  by_cases h1 : l.any wide = true
  · rw [if_pos h1] at h; cases h
  · rw [if_neg h1] at h
    by_cases h2 : l.length % 2 = 0 ∨ 16 < szTo l l.length
    · rw [if_pos h2] at h; cases h
    · refine ⟨fun j hj => wide_no ?_, by omega, by omega⟩
      cases e : wide (l.getD j 0) with
      | false => rfl
      | true => exact absurd (List.any_eq_true.2 ⟨_, getD_mem hj, e⟩) h1
/-- The number at place k. -/
theorem RdAt.intAt {w : World} {B : Nat} {a : Option Addr} {cap : Nat} {l : List Int} (h : RdAt w B 1 (.slice a l.length cap) l.length (intsV l)) (k : Nat) (hk : k < l.length) :
    ∃ b off, a = some ⟨b, off, none⟩ ∧ b < B ∧ w.cell? ⟨b, off + k, none⟩ = some (.int .i64 (l.getD k 0)) := by
  obtain ⟨a', cap', e, f⟩ := h
  injection e with e1 e2 e3
  obtain ⟨b, off, eb, hlt, hc⟩ := f (by omega)
  refine ⟨b, off, e1.trans eb, hlt, (hc k (by omega)).trans ?_⟩
  simp [intsV, List.getD, hk]

set_option maxHeartbeats 2000000 in
set_option maxRecDepth 100000 in
theorem size_any (x : Int) (w : World) (h1 : -1000 ≤ x) (h2 : x ≤ 1000) :
    Calls Tryd.prog 25 #[.int .i64 x] w fun e w' => e = .returned (.int .i64 (x.natAbs : Int)) ∧ w' = w := by
  go_enter Tryd.func25, Tryd.ntmps25
  go_wp2
  all_goals (go_ret; exact ⟨ret_int (by omega), rfl⟩)
set_option maxHeartbeats 4000000 in
set_option maxRecDepth 100000 in
theorem tgRefusal_any (a : Option Addr) (cap : Nat) (l : List Int) (w : World) (hl : l.length ≤ 140737488355328) (h : RdAt w w.heap.size 1 (.slice a l.length cap) l.length (intsV l)) :
    Calls Tryd.prog 13 #[.slice a l.length cap] w fun e w' => e = .returned (.int .i64 (listN l)) ∧ Below w.heap.size w w' := by
  have HR : Hid (RdAt w w.heap.size 1 (.slice a l.length cap) l.length (intsV l)) := h
  have HB : Hid (Below w.heap.size w w) := Below.refl _ _
  obtain ⟨n, hN⟩ : ∃ n, l.length = n := ⟨_, rfl⟩
  have HN : Hid (l.length = n) := hN
  rw [hN] at hl ⊢
  clear h hN
  go_enter Tryd.func13, Tryd.ntmps13
  go_wp2
  go_loopw [3, 8] (fun v3 v8 wr => ∃ i : Nat, i ≤ n ∧ v8 = .int .i64 (i : Nat) ∧ v3 = .int .i64 (szTo l i : Nat) ∧ Hid (∀ j, j < i → -16 ≤ l.getD j 0 ∧ l.getD j 0 ≤ 16) ∧ Hid (Below w.heap.size w wr)) (fun _ v8 _ => n - (intOf v8).toNat)
  case atStart => exact ⟨0, Nat.zero_le _, rfl, rfl, (fun j hj => by omega), HB.out⟩
  case round =>
    clear HB
    rename World => W1
    obtain ⟨i, hin, rfl, rfl, hall, hb⟩ := hrel
    have hsz := szTo_le l i hall.out
    by_cases hil : i < n
    · obtain ⟨b, off, ea, hbw, hc⟩ := HR.out.intAt i (by rw [HN.out]; exact hil)
      have e0 := bcell hb.out hbw hc
      have hsW := hb.out.size
      have hbW : b < W1.heap.size := by omega
      have HIL : Hid (i < l.length) := (by rw [HN.out]; exact hil : i < l.length)
      have HS : Hid (szTo l (i + 1) = szTo l i + (l.getD i 0).natAbs) := (rfl : szTo l (i + 1) = szTo l i + (l.getD i 0).natAbs)
      obtain ⟨x, hx⟩ : ∃ x, l.getD i 0 = x := ⟨_, rfl⟩
      have HX : Hid (l.getD i 0 = x) := hx
      obtain ⟨y, hy⟩ : ∃ y, szTo l i = y := ⟨_, rfl⟩
      rw [hx] at e0 HS
      rw [hy] at HS hsz ⊢
      have HEA : Hid (a = some ⟨b, off, none⟩) := ea
      subst ea
      clear hx hy hc
      by_cases h1 : x < -16
      · have HL : Hid (listN l = 3) := listN_bad HIL.out (by rw [HX.out]; exact Or.inl h1)
        go_wp2
        go_ret
        exact ⟨ret_int HL.out.symm, hb.out⟩
      · by_cases h2 : 16 < x
        · have HL : Hid (listN l = 3) := listN_bad HIL.out (by rw [HX.out]; exact Or.inr h2)
          go_wp2
          go_ret
          exact ⟨ret_int HL.out.symm, hb.out⟩
        · go_wp2_with (go_at_call 25; refine (size_any x _ (by omega) (by omega)).mono ?_; rintro e9 w9 ⟨rfl, rfl⟩; refine Hid.out ?_)
          refine Lib.hid ?_
          have hna : x.natAbs ≤ 16 := by omega
          obtain ⟨z, hz⟩ : ∃ z, x.natAbs = z := ⟨_, rfl⟩
          rw [hz] at hna HS ⊢
          clear hz
          go_wp2
          go_roundw
          case rel => exact ⟨i + 1, by omega, by go_num, by rw [HS.out]; go_num, (fun j hj => by
            by_cases e : j = i
            · rw [e, HX.out]; omega
            · exact hall.out j (by omega) : ∀ j, j < i + 1 → -16 ≤ l.getD j 0 ∧ l.getD j 0 ≤ 16), hb.out⟩
          case measure => simp only [intOf]; omega
    · obtain rfl : i = n := by omega
      have HL : Hid (listN l = if i % 2 = 0 ∨ 16 < szTo l i then 2 else 0) := (by rw [listN_good (by rw [HN.out]; exact hall.out), HN.out] : listN l = if i % 2 = 0 ∨ 16 < szTo l i then 2 else 0)
      obtain ⟨y, hy⟩ : ∃ y, szTo l i = y := ⟨_, rfl⟩
      rw [hy] at HL hsz ⊢
      clear hy
      have er : (i : Int).tmod 2 = ((i % 2 : Nat) : Int) := rfl
      obtain ⟨r, hr⟩ : ∃ r, i % 2 = r := ⟨_, rfl⟩
      have hr2 : r < 2 := by omega
      rw [hr] at er HL
      clear hr
      by_cases hr0 : r = 0
      · have HL2 : Hid (listN l = 2) := (by rw [HL.out, if_pos (Or.inl hr0)] : listN l = 2)
        subst hr0
        go_wp2
        go_ret
        exact ⟨ret_int HL2.out.symm, hb.out⟩
      · have hrz : ((r : Int) == 0) = false := by simp; omega
        by_cases hy : 16 < y
        · have HL2 : Hid (listN l = 2) := (by rw [HL.out, if_pos (Or.inr hy)] : listN l = 2)
          go_wp2
          go_ret
          exact ⟨ret_int HL2.out.symm, hb.out⟩
        · have HL2 : Hid (listN l = 0) := (by rw [HL.out, if_neg (by omega)] : listN l = 0)
          go_wp2
          go_ret
          exact ⟨ret_int HL2.out.symm, hb.out⟩
end Go.Proofs.YtnlcknlodjjdbaaDoor

/- Lists of fractions: the walks of slices.Reverse (of numbers) and tangle.expanded. -/
import Derived.Test.YtdlmhcickcgnfaaTG3
import Derived.Test.YtdlmhcickcgnfaaIn
import Derived.Test.YtdlmhcickcgnfaaIlP
namespace Go.Proofs.Ytdlmhcickcgnfaa
open Go.RowKit

theorem list_mapI (l : List Int) : l = mapI l.length (fun i => l.getD i 0) := by
  apply List.ext_getElem?
  intro j
  by_cases hj : j < l.length
  · rw [mapI_get _ _ j hj, List.getElem?_eq_getElem hj, List.getD_eq_getElem?_getD, List.getElem?_eq_getElem hj]
    rfl
  · rw [List.getElem?_eq_none (by omega), List.getElem?_eq_none (by rw [mapI_len]; omega)]
theorem intsV_lenG (l : List Int) : (intsV l).length = l.length := by simp [intsV]
theorem intsV_getG (l : List Int) (i : Nat) (h : i < l.length) : (intsV l)[i]? = some (.int .i64 (l.getD i 0)) := by simp [intsV, List.getD, h]
/-- The first k and the last k places turned round. -/
def rvF (l : List Int) (k i : Nat) : Int := if i < k ∨ l.length ≤ i + k then l.getD (l.length - 1 - i) 0 else l.getD i 0
theorem rvF_zero (l : List Int) : mapI l.length (rvF l 0) = l := by
  conv => rhs; rw [list_mapI l]
  exact mapI_congr _ _ _ fun j hj => by unfold rvF; rw [if_neg (by omega)]
theorem rvF_next (l : List Int) (k : Nat) (h : 2 * k + 1 < l.length) : ((mapI l.length (rvF l k)).set k (l.getD (l.length - 1 - k) 0)).set (l.length - 1 - k) (l.getD k 0) = mapI l.length (rvF l (k + 1)) := by
  rw [mapI_set _ _ (fun j => if j = k then l.getD (l.length - 1 - k) 0 else rvF l k j) k _ (fun j _ => rfl)]
  refine mapI_set _ _ _ _ _ fun j hj => ?_
  unfold rvF
  by_cases e1 : j = l.length - 1 - k
  · rw [if_pos e1, if_pos (by omega)]
    congr 1
    omega
  · rw [if_neg e1]
    by_cases e2 : j = k
    · rw [if_pos e2, if_pos (by omega), e2]
    · rw [if_neg e2]
      by_cases e3 : j < k ∨ l.length ≤ j + k
      · rw [if_pos e3, if_pos (by omega)]
      · rw [if_neg e3, if_neg (by omega)]
theorem rvF_all (l : List Int) (k : Nat) (h : l.length ≤ 2 * k + 1) : mapI l.length (rvF l k) = l.reverse := by
  apply List.ext_getElem?
  intro j
  by_cases hj : j < l.length
  · rw [mapI_get _ _ j hj, List.getElem?_reverse hj, List.getElem?_eq_getElem (by omega)]
    unfold rvF
    by_cases e : j < k ∨ l.length ≤ j + k
    · rw [if_pos e, List.getD_eq_getElem?_getD, List.getElem?_eq_getElem (by omega)]
      rfl
    · rw [if_neg e]
      have : j = l.length - 1 - j := by omega
      rw [List.getD_eq_getElem?_getD, List.getElem?_eq_getElem hj, Option.getD_some]
      congr 2
  · rw [List.getElem?_eq_none (by rw [mapI_len]; omega), List.getElem?_eq_none (by simp; omega)]

set_option maxHeartbeats 8000000 in
set_option maxRecDepth 100000 in
theorem reverse_any (B g cap : Nat) (l : List Int) (w : World) (hl : l.length ≤ 100000) (h1 : 1 ≤ l.length) (h : w.ownsRow B 3 1 (.slice (some ⟨g, 0, none⟩) l.length cap) l.length (intsV l)) :
    Calls Try.prog 40 #[.slice (some ⟨g, 0, none⟩) l.length cap] w fun e w' => e = .returned (.tuple #[]) ∧ w'.ownsRow B 3 1 (.slice (some ⟨g, 0, none⟩) l.length cap) l.length (intsV l.reverse) ∧ w.grownBy w' (some g) := by
  have HP0 : Hid (w.ownsRow B 3 1 (.slice (some ⟨g, 0, none⟩) l.length cap) l.length (intsV (mapI l.length (rvF l 0))) ∧ w.grownBy w (some g)) := ⟨by rw [rvF_zero]; exact h, World.grownBy.refl _ _⟩
  obtain ⟨n, hN⟩ : ∃ n, l.length = n := ⟨_, rfl⟩
  have HN : Hid (l.length = n) := hN
  have HNX : Hid (∀ k, 2 * k + 1 < n → ((mapI n (rvF l k)).set k (l.getD (n - 1 - k) 0)).set (n - 1 - k) (l.getD k 0) = mapI n (rvF l (k + 1))) := fun k hk => by
    have := rvF_next l k (by omega)
    rw [hN] at this
    exact this
  have HAL : Hid (∀ k, n ≤ 2 * k + 1 → mapI n (rvF l k) = l.reverse) := fun k hk => by
    have := rvF_all l k (by omega)
    rw [hN] at this
    exact this
  have HVA : Hid (∀ k i, 2 * k + 1 < n → k ≤ i → i + k < n → rvF l k i = l.getD i 0) := fun k i h1 h2 h3 => by
    unfold rvF
    rw [if_neg (by omega)]
  rw [hN] at hl h1 HP0 ⊢
  clear h hN
  have ew0 : IntKind.i64.wrap ((n : Int) - 1) = (n : Int) - 1 := IntWalk.i64_in _ (by omega)
  go_enter Try.func40, Try.ntmps40
  go_wp2
  go_loopw [2, 3] (fun v2 v3 wr => ∃ k : Nat, k ≤ n ∧ v2 = .int .i64 (k : Nat) ∧ v3 = .int .i64 ((n : Int) - 1 - (k : Int)) ∧ Hid (wr.ownsRow B 3 1 (.slice (some ⟨g, 0, none⟩) n cap) n (intsV (mapI n (rvF l k))) ∧ w.grownBy wr (some g))) (fun v2 _ _ => n - (intOf v2).toNat)
  case atStart => exact ⟨0, Nat.zero_le _, rfl, by congr 1; omega, HP0.out⟩
  case round =>
    clear HP0 ew0
    rename World => W1
    obtain ⟨k, hkn, rfl, rfl, hp⟩ := hrel
    by_cases hk : 2 * k + 1 < n
    · obtain ⟨j, hj⟩ : ∃ j : Nat, n - 1 - k = j := ⟨_, rfl⟩
      have HJ : Hid (n - 1 - k = j) := hj
      have hjI : (n : Int) - 1 - (k : Int) = (j : Int) := by omega
      rw [hjI]
      have hkj : k < j := by omega
      have hjn : j < n := by omega
      have e0 : W1.cell? ⟨g, k, none⟩ = some (.int .i64 (l.getD k 0)) := by
        rw [hp.out.1.cellAt k (by omega), intsV_getG _ k (by rw [mapI_len]; omega), mapI_at _ _ k (by omega), HVA.out k k hk (Nat.le_refl _) (by omega)]
      have e1 : W1.cell? ⟨g, j, none⟩ = some (.int .i64 (l.getD j 0)) := by
        rw [hp.out.1.cellAt j (by omega), intsV_getG _ j (by rw [mapI_len]; omega), mapI_at _ _ j (by omega), HVA.out k j hk (by omega) (by omega)]
      have f0 : W1.frozen? ⟨g, k, none⟩ = false := hp.out.1.frozenAt k
      have f1 : W1.frozen? ⟨g, j, none⟩ = false := hp.out.1.frozenAt j
      have hst := hp.out.1.stored k (.int .i64 (l.getD j 0))
      have hst2 := hst.1.stored j (.int .i64 (l.getD k 0))
      have hnx := HNX.out k hk
      rw [hj] at hnx
      rw [intsV_set, intsV_set, hnx] at hst2
      obtain ⟨x, hx⟩ : ∃ x, l.getD k 0 = x := ⟨_, rfl⟩
      obtain ⟨y, hy⟩ : ∃ y, l.getD j 0 = y := ⟨_, rfl⟩
      rw [hx] at e0 hst2
      rw [hy] at e1 hst hst2
      have HST : Hid (((W1.setCell ⟨g, k, none⟩ (.int .i64 y)).setCell ⟨g, j, none⟩ (.int .i64 x)).ownsRow B 3 1 (.slice (some ⟨g, 0, none⟩) n cap) n (intsV (mapI n (rvF l (k + 1)))) ∧ w.grownBy ((W1.setCell ⟨g, k, none⟩ (.int .i64 y)).setCell ⟨g, j, none⟩ (.int .i64 x)) (some g)) := ⟨hst2.1, grown_trans hp.out.2 (grown_trans hst.2 hst2.2)⟩
      have hgw := (hp.out.1.lt g rfl).2
      have hkI : (k : Int) < (n : Int) := by omega
      have hjI2 : (j : Int) < (n : Int) := by omega
      have hkjn : k ≠ j := by omega
      have ew1 : IntKind.i64.wrap ((j : Int) - 1) = (j : Int) - 1 := IntWalk.i64_in _ (by omega)
      clear hst hst2 hnx hx hy hj hjI
      go_wp2
      apply cut_one
      case h =>
        intro key
        go_region_with (fail)
        all_goals exact key.out
      obtain ⟨X, hX⟩ : ∃ X, X = ((W1.setCell ⟨g, k, none⟩ (.int .i64 y)).setCell ⟨g, j, none⟩ (.int .i64 x)).drew := ⟨_, rfl⟩
      have HX : Hid (X.ownsRow B 3 1 (.slice (some ⟨g, 0, none⟩) n cap) n (intsV (mapI n (rvF l (k + 1)))) ∧ w.grownBy X (some g)) := (by
        rw [hX]
        exact ⟨own_any HST.out.1 (grown_below ((Below.refl _ _).drew) none), grown_trans HST.out.2 (grown_below ((Below.refl _ _).drew) _)⟩ : X.ownsRow B 3 1 (.slice (some ⟨g, 0, none⟩) n cap) n (intsV (mapI n (rvF l (k + 1)))) ∧ w.grownBy X (some g))
      rw [← hX]
      clear hX HST e0 e1 f0 f1
      go_wp2
      go_roundw
      case rel => exact ⟨k + 1, by omega, by go_num, by congr 1; have := HJ.out; omega, HX.out⟩
      case measure => simp only [intOf]; omega
    · have HA : Hid (mapI n (rvF l k) = l.reverse) := HAL.out k (by omega)
      rw [HA.out] at hp
      have hd : decide ((k : Int) < (n : Int) - 1 - (k : Int)) = false := by simp; omega
      go_wp2
      exact bodyPost_end (v := .tuple #[]) (results_none rfl _ _ _) rfl ⟨rfl, hp.out⟩
end Go.Proofs.Ytdlmhcickcgnfaa

/- Braids closed: the walk of closure.number. -/
import Derived.Test.YtfceigcjonlhkaaCL1
namespace Go.Proofs.Ytfceigcjonlhkaa
open Go.RowKit

/-- A side of a crossing, as closure has them, and as the document's walk has them. -/
def sw (j : Nat) : Nat := if j % 4 = 2 then j + 1 else if j % 4 = 3 then j - 1 else j
theorem sw_inj {i j : Nat} (h : sw i = sw j) : i = j := by
  unfold sw at h
  split at h <;> split at h <;> (try split at h) <;> (try split at h) <;> omega
theorem sw_in (k s : Nat) (h : s < 2) : sw (4 * k + s) = 4 * k + s := by
  unfold sw
  rw [if_neg (by omega), if_neg (by omega)]
theorem sw_out (k s : Nat) (h : s < 2) : sw (4 * k + (3 - s)) = 4 * k + 2 + s := by
  unfold sw
  split
  · omega
  · split <;> omega
/-- The cells of crossings under way. -/
def crV (m : Nat) (G : Nat → Int) : List Value := intsV (mapI (4 * m) fun j => G (sw j))
theorem crV_set (m : Nat) (G : Nat → Int) (i c : Nat) (x : Int) (h : sw i = c) : (crV m G).set i (.int .i64 x) = crV m (up G c x) := by
  unfold crV
  rw [intsV_set, mapI_set (4 * m) (fun j => G (sw j)) (fun j => up G c x (sw j)) i x]
  intro j _
  unfold up
  subst h
  by_cases e : j = i
  · rw [if_pos e, if_pos (by rw [e])]
  · rw [if_neg e, if_neg (fun q => e (sw_inj q))]
theorem crV_get (m : Nat) (G : Nat → Int) (i : Nat) (h : i < 4 * m) : (crV m G)[i]? = some (.int .i64 (G (sw i))) := by
  unfold crV
  rw [intsV_get _ i (by rw [mapI_len]; exact h), mapI_at _ _ _ h]

theorem hid_mkC {P : Prop} (h : P) : Hid P := h
set_option maxHeartbeats 8000000 in
set_option maxRecDepth 100000 in
theorem number_any (B B2 g cx m b : Nat) (a2 : Option Addr) (c2 : Nat) (W : List (Nat × Nat)) (G : Nat → Int) (w : World) (hb : b ≤ 100000) (hW : W.length ≤ 1000) (hmem : ∀ q ∈ W, q.1 < m ∧ q.2 < 2)
    (hR : w.ownsRow B 177 4 (.slice (some ⟨g, 0, none⟩) m cx) m (crV m G)) (hP : w.ownsRow B2 203 3 (.slice a2 W.length c2) W.length (psV W)) :
    Calls Try.prog 124 #[.slice (some ⟨g, 0, none⟩) m cx, .slice a2 W.length c2, .int .i64 (b : Nat)] w fun e w' => e = .returned (.tuple #[]) ∧ w'.ownsRow B 177 4 (.slice (some ⟨g, 0, none⟩) m cx) m (crV m (nG G b W)) ∧ w.grownBy w' (some g) := by
  have HMM : Hid (∀ i, i < W.length → (W.getD i (0, 0)).1 < m ∧ (W.getD i (0, 0)).2 < 2) := fun i hi => hmem _ (by rw [List.getD_eq_getElem?_getD, List.getElem?_eq_getElem hi]; exact List.getElem_mem hi)
  have HNX : Hid (∀ i, i < W.length → nuTo G b W (i + 1) = up (up (nuTo G b W i) (4 * (W.getD i (0, 0)).1 + (W.getD i (0, 0)).2) ((b + i + 1 : Nat) : Int)) (4 * (W.getD i (0, 0)).1 + 2 + (W.getD i (0, 0)).2) ((b + (i + 1) % W.length + 1 : Nat) : Int)) := fun i hi => nuTo_next G b W i hi
  have HRW : Hid (w.ownsRow B 177 4 (.slice (some ⟨g, 0, none⟩) m cx) m (crV m (nuTo G b W 0))) := (by rw [nuTo_zero]; exact hR : w.ownsRow B 177 4 (.slice (some ⟨g, 0, none⟩) m cx) m (crV m (nuTo G b W 0)))
  have HPW : Hid (w.ownsRow B2 203 3 (.slice a2 W.length c2) W.length (psV W)) := hP
  have HAL : Hid (nuTo G b W W.length = nG G b W) := nuTo_all G b W
  have hgw := (hR.lt g rfl).2
  have HPG : Hid (∀ i, i < W.length → (psV W)[i * 3]? = some (.int .i64 ((W.getD i (0, 0)).1 : Nat)) ∧ (psV W)[i * 3 + 1]? = some (.int .i64 ((W.getD i (0, 0)).2 : Nat)) ∧ (psV W)[i * 3 + 2]? = some (.int .i64 ((3 - (W.getD i (0, 0)).2 : Nat) : Nat))) := fun i hi => psV_get W i hi
  clear hR hP hmem
  obtain ⟨n, hn⟩ : ∃ n, W.length = n := ⟨_, rfl⟩
  have HN : Hid (W.length = n) := hn
  rw [hn] at HMM HNX HPW HAL HPG hW ⊢
  clear hn
  go_enter Try.func124, Try.ntmps124
  go_wp2
  go_loopw [11] (fun v11 wr => ∃ i : Nat, i ≤ n ∧ v11 = .int .i64 (i : Nat) ∧ Hid (wr.ownsRow B 177 4 (.slice (some ⟨g, 0, none⟩) m cx) m (crV m (nuTo G b W i))) ∧ Hid (wr.ownsRow B2 203 3 (.slice a2 n c2) n (psV W)) ∧ Hid (w.grownBy wr (some g))) (fun v11 _ => n - (intOf v11).toNat)
  case atStart => exact ⟨0, Nat.zero_le _, rfl, HRW.out, HPW.out, World.grownBy.refl _ _⟩
  case round =>
    rename World => W1
    obtain ⟨i, hin, rfl, hr, hp, hg⟩ := hrel
    by_cases hil : i < n
    · have hiI : (i : Int) < (n : Int) := by omega
      obtain ⟨q, c3, e3, -, hqw⟩ := own_someB hp.out (by omega)
      injection e3 with e4 e5 e6
      subst e4 e6
      clear e5
      obtain ⟨p0, p1, p2⟩ := HPG.out i hil
      have x0 := hp.out.cellAt (i * 3) (by omega)
      have x1 := hp.out.cellAt (i * 3 + 1) (by omega)
      have x2 := hp.out.cellAt (i * 3 + 2) (by omega)
      rw [p0] at x0
      rw [p1] at x1
      rw [p2] at x2
      obtain ⟨m0, m1⟩ := HMM.out i hil
      have HNN := HNX.out i hil
      obtain ⟨k, hk⟩ : ∃ k, (W.getD i (0, 0)).1 = k := ⟨_, rfl⟩
      obtain ⟨s, hs⟩ : ∃ s, (W.getD i (0, 0)).2 = s := ⟨_, rfl⟩
      rw [hk] at x0 m0 HNN
      rw [hs] at x1 x2 m1 HNN
      obtain ⟨o, ho⟩ : ∃ o, 3 - s = o := ⟨_, rfl⟩
      rw [ho] at x2
      have HSO : Hid (sw (4 * k + s) = 4 * k + s ∧ sw (4 * k + o) = 4 * k + 2 + s) := (⟨sw_in k s m1, by rw [← ho]; exact sw_out k s m1⟩ : sw (4 * k + s) = 4 * k + s ∧ sw (4 * k + o) = 4 * k + 2 + s)
      have ho4 : o < 4 := by omega
      clear hk hs ho p0 p1 p2
      obtain ⟨t, ht⟩ : ∃ t, (i + 1) % n = t := ⟨_, rfl⟩
      have htn : t < n := by rw [← ht]; exact Nat.mod_lt _ (by omega)
      have htI : ((i : Int) + 1) % (n : Int) = (t : Int) := by rw [← ht]; simp
      rw [ht] at HNN
      have HTI : Hid (((i : Int) + 1) % (n : Int) = (t : Int)) := htI
      have HNS := hid_mkC HNN
      have hmI : (k : Int) < (m : Int) := by omega
      have hs4 : (s : Int) < 4 := by omega
      have ho4I : (o : Int) < 4 := by omega
      clear HNN htI ht
      go_wp2
      rw [HTI.out]
      obtain ⟨X, hX⟩ : ∃ X, X = W1.alloc (Obj.cells #[.int .i64 (k : Nat), .int .i64 (s : Nat), .int .i64 (o : Nat)] 203) := ⟨_, rfl⟩
      have HX : Hid (X = W1.alloc (Obj.cells #[.int .i64 (k : Nat), .int .i64 (s : Nat), .int .i64 (o : Nat)] 203)) := hX
      have hsX : X.heap.size = W1.heap.size + 1 := by rw [hX]; simp
      have hT : X.heap[W1.heap.size]? = some (.cells #[.int .i64 (k : Nat), .int .i64 (s : Nat), .int .i64 (o : Nat)] 203 (0, 0)) := by rw [hX]; exact alloc_at rfl
      rw [← hX]
      have HRX : Hid (X.ownsRow B 177 4 (.slice (some ⟨g, 0, none⟩) m cx) m (crV m (nuTo G b W i))) := (by rw [hX]; exact hr.out.alloc _ : X.ownsRow B 177 4 (.slice (some ⟨g, 0, none⟩) m cx) m (crV m (nuTo G b W i)))
      have HPX : Hid (X.ownsRow B2 203 3 (.slice (some ⟨q, 0, none⟩) n c2) n (psV W)) := (by rw [hX]; exact hp.out.alloc _ : X.ownsRow B2 203 3 (.slice (some ⟨q, 0, none⟩) n c2) n (psV W))
      have HGX : Hid (w.grownBy X (some g)) := (by rw [hX]; exact grown_new hg.out (grown_below ((Below.refl W1.heap.size W1).alloc (Nat.le_refl _) _) none) (fun k hk => by cases hk) : w.grownBy X (some g))
      obtain ⟨W1s, hW1s⟩ : ∃ z, W1.heap.size = z := ⟨_, rfl⟩
      rw [hW1s] at hT hsX hqw ⊢
      have HST0 : Hid (X.heap[W1s]? = some (.cells #[.int .i64 (k : Nat), .int .i64 (s : Nat), .int .i64 (o : Nat)] 203 (0, 0))) := hT
      have y0 : X.cell? ⟨W1s, 0, none⟩ = some (.int .i64 (k : Nat)) := block_cell hT rfl
      have y1 : X.cell? ⟨W1s, 1, none⟩ = some (.int .i64 (s : Nat)) := block_cell hT rfl
      have e0 := HRX.out.cellAt (k * 4 + s) (by omega)
      rw [crV_get _ _ _ (by omega)] at e0
      generalize nuTo G b W i (sw (k * 4 + s)) = z0 at e0
      have f0 := HRX.out.frozenAt (k * 4 + s)
      have lg : g < X.heap.size := (HRX.out.lt g rfl).2
      have lq : W1s < X.heap.size := by omega
      have hgW : g ≠ W1s := by have := (hr.out.lt g rfl).2; omega
      have HGW : Hid (g ≠ W1s) := hgW
      clear hX hT hW1s hsX x0 x1 x2
      go_region
      obtain ⟨Y, hY⟩ : ∃ Y, Y = (X.setCell ⟨g, k * 4 + s, none⟩ (.int .i64 ((b : Int) + (i : Int) + 1))).drew := ⟨_, rfl⟩
      rw [← hY]
      have hst := HRX.out.stored (k * 4 + s) (.int .i64 ((b : Int) + (i : Int) + 1))
      rw [crV_set m (nuTo G b W i) (k * 4 + s) (4 * k + s) _ (by rw [Nat.mul_comm k 4]; exact HSO.out.1)] at hst
      have hdY : ∀ (U : World) (r : Option Nat), U.grownBy U.drew r := fun U r => grown_below (below_drewN (Below.refl _ _) 1) r
      have HRY : Hid (Y.ownsRow B 177 4 (.slice (some ⟨g, 0, none⟩) m cx) m (crV m (up (nuTo G b W i) (4 * k + s) ((b : Int) + (i : Int) + 1)))) := (by rw [hY]; exact own_any hst.1 (hdY _ _) : Y.ownsRow B 177 4 (.slice (some ⟨g, 0, none⟩) m cx) m (crV m (up (nuTo G b W i) (4 * k + s) ((b : Int) + (i : Int) + 1))))
      have HXY : Hid (X.grownBy Y (some g)) := (by rw [hY]; exact grown_new hst.2 (hdY _ none) (fun k hk => by cases hk) : X.grownBy Y (some g))
      have hT : Y.heap[W1s]? = some (.cells #[.int .i64 (k : Nat), .int .i64 (s : Nat), .int .i64 (o : Nat)] 203 (0, 0)) := (HXY.out.block _ lq (fun e => HGW.out (Option.some.inj e).symm)).trans HST0.out
      have lg : g < Y.heap.size := (HRY.out.lt g rfl).2
      have lq : W1s < Y.heap.size := Nat.lt_of_lt_of_le lq HXY.out.size
      have y0 : Y.cell? ⟨W1s, 0, none⟩ = some (.int .i64 (k : Nat)) := block_cell hT rfl
      have y2 : Y.cell? ⟨W1s, 2, none⟩ = some (.int .i64 (o : Nat)) := block_cell hT rfl
      have e0 := HRY.out.cellAt (k * 4 + o) (by omega)
      rw [crV_get _ _ _ (by omega)] at e0
      generalize up (nuTo G b W i) (4 * k + s) ((b : Int) + (i : Int) + 1) (sw (k * 4 + o)) = z1 at e0
      have f0 := HRY.out.frozenAt (k * 4 + o)
      clear hst hY hT hdY
      go_wp2
      go_region
      obtain ⟨Z, hZ⟩ : ∃ Z, Z = (Y.setCell ⟨g, k * 4 + o, none⟩ (.int .i64 ((b : Int) + (t : Int) + 1))).drew := ⟨_, rfl⟩
      rw [← hZ]
      have hst := HRY.out.stored (k * 4 + o) (.int .i64 ((b : Int) + (t : Int) + 1))
      rw [crV_set m _ (k * 4 + o) (4 * k + 2 + s) _ (by rw [Nat.mul_comm k 4]; exact HSO.out.2)] at hst
      have hdY : ∀ (U : World) (r : Option Nat), U.grownBy U.drew r := fun U r => grown_below (below_drewN (Below.refl _ _) 1) r
      have HRZ : Hid (Z.ownsRow B 177 4 (.slice (some ⟨g, 0, none⟩) m cx) m (crV m (nuTo G b W (i + 1)))) := (by rw [hZ, HNS.out]; exact own_any hst.1 (hdY _ _) : Z.ownsRow B 177 4 (.slice (some ⟨g, 0, none⟩) m cx) m (crV m (nuTo G b W (i + 1))))
      have HYZ : Hid (Y.grownBy Z (some g)) := (by rw [hZ]; exact grown_new hst.2 (hdY _ none) (fun k hk => by cases hk) : Y.grownBy Z (some g))
      have HPZ : Hid (Z.ownsRow B2 203 3 (.slice (some ⟨q, 0, none⟩) n c2) n (psV W)) := (HPX.out.kept HXY.out (own_ne HPX.out HRX.out (by decide))).kept HYZ.out (own_ne (HPX.out.kept HXY.out (own_ne HPX.out HRX.out (by decide))) HRY.out (by decide))
      have HGZ : Hid (w.grownBy Z (some g)) := (HGX.out.trans HXY.out).trans HYZ.out
      clear hst hZ hdY
      go_wp2
      go_roundw
      case rel => exact ⟨i + 1, by omega, by go_num, HRZ.out, HPZ.out, HGZ.out⟩
      case measure => simp only [intOf]; omega
    · obtain rfl : i = n := by omega
      have HFN : Hid (W1.ownsRow B 177 4 (.slice (some ⟨g, 0, none⟩) m cx) m (crV m (nG G b W)) ∧ w.grownBy W1 (some g)) := (⟨by rw [← HAL.out]; exact hr.out, hg.out⟩ : W1.ownsRow B 177 4 (.slice (some ⟨g, 0, none⟩) m cx) m (crV m (nG G b W)) ∧ w.grownBy W1 (some g))
      go_wp2
      exact bodyPost_end (v := .tuple #[]) (by simp [results, Try.results124, go_sem]) rfl ⟨rfl, HFN.out⟩
end Go.Proofs.Ytfceigcjonlhkaa

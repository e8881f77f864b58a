/- The walk of homfly.Smooth. -/
import Derived.Test.YtajmogojekichaaJ5
namespace Go.Proofs.Ytajmogojekichaa
open Go.RowKit

/-- What is left of a diagram where crossing k is smoothed: its crossings, its loops. -/
def smD (C : List Cr) (k : Nat) : List Cr := reTo C [k] (numM (uniM C (sx C) [k]) (ltB (uniM C (sx C) [k]) (stB C [k] (uniM C (sx C) [k]) (2 * C.length + 1)))) C.length
def smL (C : List Cr) (k : Nat) : Nat := cntB (lfB (uniM C (sx C) [k]) (stB C [k] (uniM C (sx C) [k]) (2 * C.length + 1))) (2 * C.length + 1)
/-- What Smooth answers. -/
def SmoothOut (C : List Cr) (loops : Int) (k : Nat) (w : World) (e : Ending) (w' : World) : Prop :=
  ((16 < loops + (smL C k : Nat) ∧ e = .returned (.tuple #[.agg #[.slice none 0 0, .int .i64 0], .int .i64 2])) ∨ (loops + (smL C k : Nat) ≤ 16 ∧ ∃ v, e = .returned (.tuple #[.agg #[v, .int .i64 (loops + (smL C k : Nat))], .int .i64 0]) ∧ w'.ownsRow w.heap.size 99 5 v (smD C k).length (crossCells (smD C k)))) ∧ Below w.heap.size w w'

set_option maxHeartbeats 8000000 in
set_option maxRecDepth 100000 in
theorem smooth_yes (hFR : FaceRingsOk) (a : Option Addr) (cap : Nat) (C : List Cr) (loops : Int) (k : Nat) (w : World) (hn : dN C loops k = 0) (h : Crs w w.heap.size (.slice a C.length cap) C) :
    Calls Try.prog 49 #[.agg #[.slice a C.length cap, .int .i64 loops], .int .i64 (k : Nat)] w fun e w' => SmoothOut C loops k w e w' := by
  obtain ⟨hz, k0, k1, k8⟩ := dN_zero hn
  have hk : k < C.length := by omega
  have HM : Hid (mayD C loops = true) := (noN_zero hz).1
  obtain ⟨s1, l0, l16, -⟩ := sizeB_iff (may_size HM.out)
  have HC : Hid (Crs w w.heap.size (.slice a C.length cap) C) := h
  have HF : Hid (∀ W bk, bk < W.heap.size → W.cell? ⟨bk, 0, none⟩ = some (.int .i64 (k : Nat)) → Crs W W.heap.size (.slice a C.length cap) C → Calls Try.prog 102 #[.agg #[.slice a C.length cap, .int .i64 loops], .slice (some ⟨bk, 0, none⟩) 1 1] W fun e w' => (∃ gF cF gT cT, e = .returned (.tuple #[drV a cap C loops gF cF gT cT, .int .i64 0]) ∧ Dr w' a cap C gF gT) ∧ Below W.heap.size W w') := fun W bk h1 h2 hW => drawn_yes hFR a cap C loops k bk W hn h1 h2 hW
  have HB1 : Hid (Below w.heap.size w (((w.alloc (.cells #[.slice a C.length cap, .int .i64 loops] 24)).alloc (.cells #[.slice none 0 0, .int .i64 0] 24)).alloc (.cells #[.int .i64 (k : Nat)] 3))) := below3 _ _ _ _
  have HT0 : Hid ((((w.alloc (.cells #[.slice a C.length cap, .int .i64 loops] 24)).alloc (.cells #[.slice none 0 0, .int .i64 0] 24)).alloc (.cells #[.int .i64 (k : Nat)] 3)).heap[w.heap.size]? = some (.cells #[.slice a C.length cap, .int .i64 loops] 24 (0, 0))) := alloc_old (alloc_old (alloc_at rfl))
  have HT1 : Hid ((((w.alloc (.cells #[.slice a C.length cap, .int .i64 loops] 24)).alloc (.cells #[.slice none 0 0, .int .i64 0] 24)).alloc (.cells #[.int .i64 (k : Nat)] 3)).heap[w.heap.size + 1]? = some (.cells #[.slice none 0 0, .int .i64 0] 24 (0, 0))) := alloc_old (alloc_at (by simp))
  have HT2 : Hid ((((w.alloc (.cells #[.slice a C.length cap, .int .i64 loops] 24)).alloc (.cells #[.slice none 0 0, .int .i64 0] 24)).alloc (.cells #[.int .i64 (k : Nat)] 3)).cell? ⟨w.heap.size + 1 + 1, 0, none⟩ = some (.int .i64 (k : Nat))) := block_cell (alloc_at (by simp)) rfl
  clear h hn hz
  go_enter Try.func49, Try.ntmps49
  go_wp2_with (go_at_call 102; refine (HF.out _ (w.heap.size + 1 + 1) (by simp) HT2.out (HC.out.up HB1.out)).mono ?_; rintro e9 w2 ⟨⟨gF, cF, gT, cT, rfl, hd2⟩, hb2⟩; refine Hid.out ?_)
  refine Lib.hid ?_
  unfold drV
  have HB2 : Hid (Below w.heap.size w w2) := HB1.out.trans (hb2.mono (by simp; omega))
  have HR0 : Hid (w2.heap[w.heap.size]? = some (.cells #[.slice a C.length cap, .int .i64 loops] 24 (0, 0))) := (hb2.block _ (by simp; omega)).trans HT0.out
  have HR : Hid (w2.heap[w.heap.size + 1]? = some (.cells #[.slice none 0 0, .int .i64 0] 24 (0, 0))) := (hb2.block _ (by simp)).trans HT1.out
  have hs2 : w.heap.size + 3 ≤ w2.heap.size := by have := hb2.size; simpa using this
  obtain ⟨X, hX0⟩ : ∃ X, X = w2.alloc (.cells #[.slice a C.length cap, .int .i64 loops, .slice (some ⟨gF, 0, none⟩) (2 * C.length + 1) cF, .slice (some ⟨gT, 0, none⟩) (2 * C.length + 1) cT] 88) := ⟨_, rfl⟩
  have HX : Hid (X = w2.alloc (.cells #[.slice a C.length cap, .int .i64 loops, .slice (some ⟨gF, 0, none⟩) (2 * C.length + 1) cF, .slice (some ⟨gT, 0, none⟩) (2 * C.length + 1) cT] 88)) := hX0
  have HBX : Hid (Below w2.heap.size w2 X) := (by rw [hX0]; exact (Below.refl _ _).alloc (Nat.le_refl _) _ : Below w2.heap.size w2 X)
  have HTX : Hid (X.heap[w2.heap.size]? = some (.cells #[.slice a C.length cap, .int .i64 loops, .slice (some ⟨gF, 0, none⟩) (2 * C.length + 1) cF, .slice (some ⟨gT, 0, none⟩) (2 * C.length + 1) cT] 88 (0, 0))) := (by rw [hX0]; exact alloc_at rfl : X.heap[w2.heap.size]? = some (.cells #[.slice a C.length cap, .int .i64 loops, .slice (some ⟨gF, 0, none⟩) (2 * C.length + 1) cF, .slice (some ⟨gT, 0, none⟩) (2 * C.length + 1) cT] 88 (0, 0)))
  have hsX : w2.heap.size < X.heap.size := by rw [hX0]; simp
  have HDX : Hid (Dr X a cap C gF gT) := hd2.on HBX.out
  have HBW : Hid (Below w.heap.size w X) := HB2.out.trans (HBX.out.mono HB2.out.size)
  have y0 : w2.cell? ⟨w.heap.size, 0, none⟩ = some (.slice a C.length cap) := block_cell HR0.out rfl
  have y1 : w2.cell? ⟨w.heap.size, 1, none⟩ = some (.int .i64 loops) := block_cell HR0.out rfl
  have ly : w.heap.size < w2.heap.size := by omega
  clear hb2 hd2 hX0
  have HWO : Hid (∀ W bG, Dr W a cap C gF gT → GonAt W bG [k] → Calls Try.prog 103 #[drV a cap C loops gF cF gT cT, .func (.func 104) #[drV a cap C loops gF cF gT cT] #[], .slice (some ⟨bG, 0, none⟩) 1 1] W fun e w' => ∃ v, e = .returned (.agg #[v, .int .i64 (loops + (smL C k : Nat))]) ∧ w'.ownsRow W.heap.size 99 5 v (smD C k).length (crossCells (smD C k)) ∧ Below W.heap.size W w') := fun W bG hW hG => without_aside a cap C loops gF cF gT cT bG 1 [k] W HM.out hW (by simp) hG
  have hsl : smL C k ≤ 33 := Nat.le_trans (cntB_le _ _) (by omega)
  have HOS : Hid (∀ W e w', SmoothOut C loops k W e w' ↔ (((16 < loops + (smL C k : Nat) ∧ e = .returned (.tuple #[.agg #[.slice none 0 0, .int .i64 0], .int .i64 2])) ∨ (loops + (smL C k : Nat) ≤ 16 ∧ ∃ v, e = .returned (.tuple #[.agg #[v, .int .i64 (loops + (smL C k : Nat))], .int .i64 0]) ∧ w'.ownsRow W.heap.size 99 5 v (smD C k).length (crossCells (smD C k)))) ∧ Below W.heap.size W w')) := fun _ _ _ => Iff.rfl
  unfold drV at HWO
  obtain ⟨D, hDe⟩ : ∃ D, smD C k = D := ⟨_, rfl⟩
  obtain ⟨q, hqe⟩ : ∃ q, smL C k = q := ⟨_, rfl⟩
  rw [hDe, hqe] at HWO HOS
  rw [hqe] at hsl
  clear hDe hqe
  have v0 : X.cell? ⟨w2.heap.size, 0, none⟩ = some (.slice a C.length cap) := block_cell HTX.out rfl
  have v1 : X.cell? ⟨w2.heap.size, 1, none⟩ = some (.int .i64 loops) := block_cell HTX.out rfl
  have v2 : X.cell? ⟨w2.heap.size, 2, none⟩ = some (.slice (some ⟨gF, 0, none⟩) (2 * C.length + 1) cF) := block_cell HTX.out rfl
  have v3 : X.cell? ⟨w2.heap.size, 3, none⟩ = some (.slice (some ⟨gT, 0, none⟩) (2 * C.length + 1) cT) := block_cell HTX.out rfl
  have HBZ : Hid (Below X.heap.size X (X.alloc (.cells #[.int .i64 (k : Nat)] 3))) := (Below.refl _ _).alloc (Nat.le_refl _) _
  have HGN : Hid (GonAt (X.alloc (.cells #[.int .i64 (k : Nat)] 3)) X.heap.size [k]) := ⟨by simp, fun i hi => by
    obtain rfl : i = 0 := by simpa using hi
    exact block_cell (alloc_at rfl) rfl⟩
  have HRX : Hid (X.heap[w.heap.size + 1]? = some (.cells #[.slice none 0 0, .int .i64 0] 24 (0, 0))) := (HBX.out.block _ (by omega)).trans HR.out
  go_upto_region 4 with (fail)
  rw [← HX.out]
  clear y0 y1
  go_wp2_with (go_at_call 103; refine (HWO.out _ X.heap.size (HDX.out.on HBZ.out) HGN.out).mono ?_; rintro e9 w3 ⟨v, rfl, hr3, hb3⟩; refine Hid.out ?_)
  refine Lib.hid ?_
  obtain ⟨a3, c3, ev3⟩ := own_capS hr3
  subst ev3
  have HR3 : Hid (w3.ownsRow X.heap.size 99 5 (.slice a3 D.length c3) D.length (crossCells D)) := own_low hr3 (by simp)
  have HB3 : Hid (Below X.heap.size X w3) := HBZ.out.trans (hb3.mono (by simp))
  have hs3 := HB3.out.size
  have HWB : Hid (Below w.heap.size w w3) := HBW.out.trans (HB3.out.mono HBW.out.size)
  have HRS : Hid (w3.heap[w.heap.size + 1]? = some (.cells #[.slice none 0 0, .int .i64 0] 24 (0, 0))) := (HB3.out.block _ (by omega)).trans HRX.out
  clear hr3 hb3 v0 v1 v2 v3
  obtain ⟨V, hV0⟩ : ∃ V, V = w3.alloc (.cells #[.slice a3 D.length c3, .int .i64 (loops + (q : Nat))] 24) := ⟨_, rfl⟩
  have HV : Hid (V = w3.alloc (.cells #[.slice a3 D.length c3, .int .i64 (loops + (q : Nat))] 24)) := hV0
  have HBV : Hid (Below w3.heap.size w3 V) := (by rw [hV0]; exact (Below.refl _ _).alloc (Nat.le_refl _) _ : Below w3.heap.size w3 V)
  have HTV : Hid (V.heap[w3.heap.size]? = some (.cells #[.slice a3 D.length c3, .int .i64 (loops + (q : Nat))] 24 (0, 0))) := (by rw [hV0]; exact alloc_at rfl : V.heap[w3.heap.size]? = some (.cells #[.slice a3 D.length c3, .int .i64 (loops + (q : Nat))] 24 (0, 0)))
  have hsV : w3.heap.size < V.heap.size := by rw [hV0]; simp
  have HVS : Hid (V.heap[w.heap.size + 1]? = some (.cells #[.slice none 0 0, .int .i64 0] 24 (0, 0))) := (HBV.out.block _ (by omega)).trans HRS.out
  have HVB : Hid (Below w.heap.size w V) := HWB.out.trans (HBV.out.mono HWB.out.size)
  have HVR : Hid (V.ownsRow X.heap.size 99 5 (.slice a3 D.length c3) D.length (crossCells D)) := own_any HR3.out (grown_below HBV.out none)
  clear hV0
  have d0 : V.cell? ⟨w3.heap.size, 0, none⟩ = some (.slice a3 D.length c3) := block_cell HTV.out rfl
  have d1 : V.cell? ⟨w3.heap.size, 1, none⟩ = some (.int .i64 (loops + (q : Int))) := block_cell HTV.out rfl
  have r0 : V.cell? ⟨w.heap.size + 1, 0, none⟩ = some (.slice none 0 0) := block_cell HVS.out rfl
  have r1 : V.cell? ⟨w.heap.size + 1, 1, none⟩ = some (.int .i64 0) := block_cell HVS.out rfl
  have f0 : V.frozen? ⟨w.heap.size + 1, 0, none⟩ = false := block_frozen HVS.out
  have f1 : V.frozen? ⟨w.heap.size + 1, 1, none⟩ = false := block_frozen HVS.out
  have q1 : w3.heap.size < V.heap.size := by omega
  have q2 : w.heap.size + 1 < V.heap.size := by omega
  go_upto_region 5 with (fail)
  rw [← HV.out]
  by_cases h16 : 16 < loops + (q : Int)
  · have dd : decide (16 < loops + (q : Int)) = true := by simpa using h16
    go_wp2
    have hX := set_block (i := 1) (u := .int .i64 0) (set_block (i := 0) (u := .slice none 0 0) HVS.out)
    have x0 := block_cell (i := 0) (v := .slice none 0 0) hX rfl
    have x1 := block_cell (i := 1) (v := .int .i64 0) hX rfl
    have hgg := st2_grown V (w.heap.size + 1) 0 (.slice none 0 0) (.int .i64 0)
    exact bodyPost_ret (v := .tuple #[.agg #[.slice none 0 0, .int .i64 0], .int .i64 2]) (by simp [results, Try.results49, go_sem, x0, x1]) rfl ((HOS.out _ _ _).2 ⟨Or.inl ⟨h16, rfl⟩, HVB.out.grown hgg HVB.out.size (fun q hq => by have := Option.some.inj hq; omega)⟩)
  · have dd : decide (16 < loops + (q : Int)) = false := by simpa using h16
    have HLE : Hid (loops + (q : Int) ≤ 16) := (by omega : loops + (q : Int) ≤ 16)
    clear h16
    go_wp2
    have hX := set_block (i := 1) (u := .int .i64 (loops + (q : Int))) (set_block (i := 0) (u := .slice a3 D.length c3) HVS.out)
    have x0 := block_cell (i := 0) (v := .slice a3 D.length c3) hX rfl
    have x1 := block_cell (i := 1) (v := .int .i64 (loops + (q : Int))) hX rfl
    have hgg := st2_grown V (w.heap.size + 1) 0 (.slice a3 D.length c3) (.int .i64 (loops + (q : Int)))
    refine bodyPost_ret (v := .tuple #[.agg #[.slice a3 D.length c3, .int .i64 (loops + (q : Int))], .int .i64 0]) (by simp [results, Try.results49, go_sem, x0, x1]) rfl ((HOS.out _ _ _).2 ⟨Or.inr ⟨HLE.out, _, rfl, own_low (HVR.out.kept hgg ?_) (by omega)⟩, HVB.out.grown hgg HVB.out.size (fun q hq => by have := Option.some.inj hq; omega)⟩)
    cases hv : (Value.slice a3 D.length c3).ownBlock with
    | none => exact Or.inl rfl
    | some k => exact Or.inr (fun e => by have h1 := (HVR.out.lt k hv).1; have h2 := Option.some.inj e; omega)

end Go.Proofs.Ytajmogojekichaa

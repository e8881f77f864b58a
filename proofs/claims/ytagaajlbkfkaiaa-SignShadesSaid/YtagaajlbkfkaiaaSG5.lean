/- The walks of sign.chart.corner, worth and places, and of sign.square. -/
import Derived.Test.YtagaajlbkfkaiaaSG4
import Derived.Test.YtagaajlbkfkaiaaTkh
namespace Go.Proofs.Ytagaajlbkfkaiaa
open Go.RowKit Go.Maps

theorem arc_at {C : List Cr} {loops : Int} (hm : mayD C loops = true) (k s : Nat) (hk : k < C.length) (hs : s < 4) : (C.getD k Cr.none).arc s = ((aAt C k s : Nat) : Int) := by
  have h := (en_side hm k s hk hs).2.2.1
  unfold aAt at h ⊢
  omega
theorem cor_lt {C : List Cr} {loops : Int} (hm : mayD C loops = true) (k s : Nat) (hk : k < C.length) (hs : s < 4) : cor C k s < (facesM C).length := by
  have h := en_side hm k s hk hs
  have u := mk_le (p := (C.getD k Cr.none).comes s) h.2.2.1 h.2.2.2
  exact fo_lt _ u.1 u.2

set_option maxHeartbeats 8000000 in
set_option maxRecDepth 100000 in
theorem corner_any (a : Option Addr) (cap : Nat) (C : List Cr) (loops : Int) (gF cF gT cT gM gS : Nat) (L : List Int) (c t : Nat) (w : World) (hm : mayD C loops = true) (hc : c < C.length) (ht : t < 4) (h : Ch w a cap C gF gT gM gS L) :
    Calls Try.prog 103 #[chV a cap C loops gF cF gT cT gM gS, .int .i64 (c : Nat), .int .i64 (t : Nat)] w fun e w' => e = .returned (.int .i64 (cor C c t : Nat)) ∧ Below w.heap.size w w' := by
  obtain ⟨s1, -, -, -⟩ := sizeB_iff (may_size hm)
  have hes := en_side hm c t hc ht
  have har := arc_at hm c t hc ht
  have hmk := mk_le (p := (C.getD c Cr.none).comes t) hes.2.2.1 hes.2.2.2
  obtain ⟨b, off, rfl, hbw, hCA⟩ := h.dr.cross (by omega)
  have HCH := hidS h
  have HCR := hidS hCA
  obtain ⟨x, hx⟩ : ∃ x, mkD (aAt C c t) ((C.getD c Cr.none).comes t) = x := ⟨_, rfl⟩
  obtain ⟨xA, hxA⟩ : ∃ q, aAt C c t = q := ⟨_, rfl⟩
  obtain ⟨xB, hxB⟩ : ∃ q, (C.getD c Cr.none).comes t = q := ⟨_, rfl⟩
  have hdt : dtV x = .agg #[.int .i64 (xA : Nat), .bool xB] := by unfold dtV; rw [← hx, dA_mk hes.2.2.1, dB_mk hes.2.2.1, hxA, hxB]
  have hco : cor C c t = fo C x := by unfold cor; rw [hx]
  obtain ⟨q, hq⟩ : ∃ q, cor C c t = q := ⟨_, rfl⟩
  rw [hx] at hmk
  have HLV := hidS (fun (vF vT : Value) (W : World) (hW : Below w.heap.size w W) => leaving_any b off cap C loops vF vT c t W hc ht (Nat.lt_of_lt_of_le hbw hW.size) (hCA.on hW hbw))
  rw [har, hxA, hxB] at HLV
  have HLK : Hid (∀ W, Below w.heap.size w W → (Instr.lookup 87 (.map (some gM)) (.agg #[.int .i64 (xA : Nat), .bool xB]) false).run Try.prog W = .ok (.int .i64 (q : Nat)) W) := fun W hW => by
    have l := (h.on hW).mp.look x hmk.1 hmk.2 (by omega)
    rw [hdt, ← hco, hq] at l
    exact l
  rw [hq]
  unfold chV
  obtain ⟨F, hF⟩ : ∃ F, (facesM C).length = F := ⟨_, rfl⟩
  rw [hF]
  obtain ⟨V, hV⟩ : ∃ V, w.alloc (.cells #[.slice (some ⟨b, off, none⟩) C.length cap, .int .i64 loops, .slice (some ⟨gF, 0, none⟩) (2 * C.length + 1) cF, .slice (some ⟨gT, 0, none⟩) (2 * C.length + 1) cT, .map (some gM), .slice (some ⟨gS, 0, none⟩) F F] 89) = V := ⟨_, rfl⟩
  have hB : Below w.heap.size w V := by rw [← hV]; exact (Below.refl _ _).alloc (Nat.le_refl _) _
  have k0 : V.heap[w.heap.size]? = some (.cells #[.slice (some ⟨b, off, none⟩) C.length cap, .int .i64 loops, .slice (some ⟨gF, 0, none⟩) (2 * C.length + 1) cF, .slice (some ⟨gT, 0, none⟩) (2 * C.length + 1) cT, .map (some gM), .slice (some ⟨gS, 0, none⟩) F F] 89 (0, 0)) := by rw [← hV]; exact alloc_at rfl
  have lV : w.heap.size < V.heap.size := by rw [← hV]; simp
  have HV := hidS hV
  have HB := hidS hB
  have HSV : Hid (∀ W, Below V.heap.size V W → (fun X : World => X.cell? ⟨w.heap.size, 0, none⟩ = some (.slice (some ⟨b, off, none⟩) C.length cap) ∧ X.cell? ⟨w.heap.size, 1, none⟩ = some (.int .i64 loops) ∧ X.cell? ⟨w.heap.size, 2, none⟩ = some (.slice (some ⟨gF, 0, none⟩) (2 * C.length + 1) cF) ∧ X.cell? ⟨w.heap.size, 3, none⟩ = some (.slice (some ⟨gT, 0, none⟩) (2 * C.length + 1) cT) ∧ X.cell? ⟨w.heap.size, 4, none⟩ = some (.map (some gM)) ∧ (Instr.lookup 87 (.map (some gM)) (.agg #[.int .i64 (xA : Nat), .bool xB]) false).run Try.prog X = .ok (.int .i64 (q : Nat)) X) W) := fun W hW => by
    have k := (hW.block _ lV).trans k0
    exact ⟨block_cell k rfl, block_cell k rfl, block_cell k rfl, block_cell k rfl, block_cell k rfl, HLK.out W (HB.out.trans (hW.mono (by omega)))⟩
  have HDV : Hid (Below V.heap.size V V.drew) := (Below.refl _ _).drew
  clear h hCA hx hxA hxB hdt hco hq hmk hes har hV hB k0 hF
  go_enter Try.func103, Try.ntmps103
  go_upto_region 1 with (fail)
  rw [HV.out]
  refine rhd HSV HDV.out (fun hHeld => ?_)
  refine tk 0 (h := ?_)
  try simp only [Act.put]
  refine tk 1 (h := ?_)
  refine tk 2 (h := ?_)
  try simp only [Act.put]
  refine tk 3 (h := ?_)
  refine tk 4 (h := ?_)
  refine tk 5 (h := ?_)
  try simp only [Act.put]
  refine tk 6 (h := ?_)
  try simp only [Act.put]
  clear hHeld
  refine rd1 7 (fun K hK => ?_)
  go_simp
  go_wp2_with (go_at_call 117; refine (HLV.out _ _ _ (HB.out.trans (HDV.out.mono (by omega)))).mono ?_; rintro e9 w2 ⟨rfl, hb2⟩)
  have HB2 := hidS (HDV.out.trans (hb2.mono HDV.out.size))
  clear hb2
  refine hK.out _ _ (HSV.out _ HB2.out) (fun hHeld => ?_)
  clear hK K
  try simp only [Act.put]
  refine tq 15 8 (h := ?_)
  simp only [List.setIfInBounds_toArray, List.set_cons_succ, List.set_cons_zero]
  refine tq 6 9 (h := ?_)
  simp only [List.setIfInBounds_toArray, List.set_cons_succ, List.set_cons_zero]
  refine wpAnyH_done (by kernel_rfl) ?_ _
  clear hHeld
  go_wp2
  go_ret
  exact ⟨by first | rfl | simp, HB.out.trans (HB2.out.mono (by omega))⟩
end Go.Proofs.Ytagaajlbkfkaiaa

/- Several texts of the proof, one behind the other. -/
import Derived.Test.YtlcogbcpmneknaaSG4
import Derived.Test.YtlcogbcpmneknaaTkh
/- The walks of sign.chart.corner, worth and places, and of sign.square. -/
namespace Go.Proofs.Ytlcogbcpmneknaa
open Go.RowKit Go.Maps

theorem arc_at {C : List Cr} {loops : Int} (hm : mayD C loops = true) (k s : Nat) (hk : k < C.length) (hs : s < 4) : (C.getD k Cr.none).arc s = ((aAt C k s : Nat) : Int) := by
  have h := (en_side hm k s hk hs).2.2.1
  unfold aAt at h ⊢
  omega
theorem cor_lt {C : List Cr} {loops : Int} (hm : mayD C loops = true) (k s : Nat) (hk : k < C.length) (hs : s < 4) : cor C k s < (facesM C).length := by
  have h := en_side hm k s hk hs
  have u := mk_le (p := (C.getD k Cr.none).comes s) h.2.2.1 h.2.2.2
  exact fo_lt _ u.1 u.2

set_option maxHeartbeats 8000000 in
set_option maxRecDepth 100000 in
theorem corner_any (a : Option Addr) (cap : Nat) (C : List Cr) (loops : Int) (gF cF gT cT gM gS : Nat) (L : List Int) (c t : Nat) (w : World) (hm : mayD C loops = true) (hc : c < C.length) (ht : t < 4) (h : Ch w a cap C gF gT gM gS L) :
    Calls Try.prog 45 #[chV a cap C loops gF cF gT cT gM gS, .int .i64 (c : Nat), .int .i64 (t : Nat)] w fun e w' => e = .returned (.int .i64 (cor C c t : Nat)) ∧ Below w.heap.size w w' := by
  obtain ⟨s1, -, -, -⟩ := sizeB_iff (may_size hm)
  have hes := en_side hm c t hc ht
  have har := arc_at hm c t hc ht
  have hmk := mk_le (p := (C.getD c Cr.none).comes t) hes.2.2.1 hes.2.2.2
  obtain ⟨b, off, rfl, hbw, hCA⟩ := h.dr.cross (by omega)
  have HCH := hidS h
  have HCR := hidS hCA
  obtain ⟨x, hx⟩ : ∃ x, mkD (aAt C c t) ((C.getD c Cr.none).comes t) = x := ⟨_, rfl⟩
  obtain ⟨xA, hxA⟩ : ∃ q, aAt C c t = q := ⟨_, rfl⟩
  obtain ⟨xB, hxB⟩ : ∃ q, (C.getD c Cr.none).comes t = q := ⟨_, rfl⟩
  have hdt : dtV x = .agg #[.int .i64 (xA : Nat), .bool xB] := by unfold dtV; rw [← hx, dA_mk hes.2.2.1, dB_mk hes.2.2.1, hxA, hxB]
  have hco : cor C c t = fo C x := by unfold cor; rw [hx]
  obtain ⟨q, hq⟩ : ∃ q, cor C c t = q := ⟨_, rfl⟩
  rw [hx] at hmk
  have HLV := hidS (fun (vF vT : Value) (W : World) (hW : Below w.heap.size w W) => leaving_any b off cap C loops vF vT c t W hc ht (Nat.lt_of_lt_of_le hbw hW.size) (hCA.on hW hbw))
  rw [har, hxA, hxB] at HLV
  have HLK : Hid (∀ W, Below w.heap.size w W → (Instr.lookup 40 (.map (some gM)) (.agg #[.int .i64 (xA : Nat), .bool xB]) false).run Try.prog W = .ok (.int .i64 (q : Nat)) W) := fun W hW => by
    have l := (h.on hW).mp.look x hmk.1 hmk.2 (by omega)
    rw [hdt, ← hco, hq] at l
    exact l
  rw [hq]
  unfold chV
  obtain ⟨F, hF⟩ : ∃ F, (facesM C).length = F := ⟨_, rfl⟩
  rw [hF]
  obtain ⟨V, hV⟩ : ∃ V, w.alloc (.cells #[.slice (some ⟨b, off, none⟩) C.length cap, .int .i64 loops, .slice (some ⟨gF, 0, none⟩) (2 * C.length + 1) cF, .slice (some ⟨gT, 0, none⟩) (2 * C.length + 1) cT, .map (some gM), .slice (some ⟨gS, 0, none⟩) F F] 43) = V := ⟨_, rfl⟩
  have hB : Below w.heap.size w V := by rw [← hV]; exact (Below.refl _ _).alloc (Nat.le_refl _) _
  have k0 : V.heap[w.heap.size]? = some (.cells #[.slice (some ⟨b, off, none⟩) C.length cap, .int .i64 loops, .slice (some ⟨gF, 0, none⟩) (2 * C.length + 1) cF, .slice (some ⟨gT, 0, none⟩) (2 * C.length + 1) cT, .map (some gM), .slice (some ⟨gS, 0, none⟩) F F] 43 (0, 0)) := by rw [← hV]; exact alloc_at rfl
  have lV : w.heap.size < V.heap.size := by rw [← hV]; simp
  have HV := hidS hV
  have HB := hidS hB
  have HSV : Hid (∀ W, Below V.heap.size V W → (fun X : World => X.cell? ⟨w.heap.size, 0, none⟩ = some (.slice (some ⟨b, off, none⟩) C.length cap) ∧ X.cell? ⟨w.heap.size, 1, none⟩ = some (.int .i64 loops) ∧ X.cell? ⟨w.heap.size, 2, none⟩ = some (.slice (some ⟨gF, 0, none⟩) (2 * C.length + 1) cF) ∧ X.cell? ⟨w.heap.size, 3, none⟩ = some (.slice (some ⟨gT, 0, none⟩) (2 * C.length + 1) cT) ∧ X.cell? ⟨w.heap.size, 4, none⟩ = some (.map (some gM)) ∧ (Instr.lookup 40 (.map (some gM)) (.agg #[.int .i64 (xA : Nat), .bool xB]) false).run Try.prog X = .ok (.int .i64 (q : Nat)) X) W) := fun W hW => by
    have k := (hW.block _ lV).trans k0
    exact ⟨block_cell k rfl, block_cell k rfl, block_cell k rfl, block_cell k rfl, block_cell k rfl, HLK.out W (HB.out.trans (hW.mono (by omega)))⟩
  have HDV : Hid (Below V.heap.size V V.drew) := (Below.refl _ _).drew
  clear h hCA hx hxA hxB hdt hco hq hmk hes har hV hB k0 hF
  go_enter Try.func45, Try.ntmps45
  go_upto_region 1 with (fail)
  rw [HV.out]
  refine rhd HSV HDV.out (fun hHeld => ?_)
  refine tk 0 (h := ?_)
  try simp only [Act.put]
  refine tk 1 (h := ?_)
  refine tk 2 (h := ?_)
  try simp only [Act.put]
  refine tk 3 (h := ?_)
  refine tk 4 (h := ?_)
  refine tk 5 (h := ?_)
  try simp only [Act.put]
  refine tk 6 (h := ?_)
  try simp only [Act.put]
  clear hHeld
  refine rd1 7 (fun K hK => ?_)
  go_simp
  go_wp2_with (go_at_call 46; refine (HLV.out _ _ _ (HB.out.trans (HDV.out.mono (by omega)))).mono ?_; rintro e9 w2 ⟨rfl, hb2⟩)
  have HB2 := hidS (HDV.out.trans (hb2.mono HDV.out.size))
  clear hb2
  refine hK.out _ _ (HSV.out _ HB2.out) (fun hHeld => ?_)
  clear hK K
  try simp only [Act.put]
  refine tq 15 8 (h := ?_)
  simp only [List.setIfInBounds_toArray, List.set_cons_succ, List.set_cons_zero]
  refine tq 6 9 (h := ?_)
  simp only [List.setIfInBounds_toArray, List.set_cons_succ, List.set_cons_zero]
  refine wpAnyH_done (by kernel_rfl) ?_ _
  clear hHeld
  go_wp2
  go_ret
  exact ⟨by first | rfl | simp, HB.out.trans (HB2.out.mono (by omega))⟩
end Go.Proofs.Ytlcogbcpmneknaa
/- The walk of sign.chart.worth. -/
namespace Go.Proofs.Ytlcogbcpmneknaa
open Go.RowKit Go.Maps

theorem shL_get (s : Nat → Nat) (F f : Nat) (h : f < F) : (shL s F).getD f 0 = ((s f : Nat) : Int) := by
  simp [shL, List.getD, h]
theorem shL_len (s : Nat → Nat) (F : Nat) : (shL s F).length = F := by simp [shL]
theorem Ch.shade {w : World} {a : Option Addr} {cap : Nat} {C : List Cr} {gF gT gM gS : Nat} {s : Nat → Nat} (h : Ch w a cap C gF gT gM gS (shL s (facesM C).length)) (f : Nat) (hf : f < (facesM C).length) : w.cell? ⟨gS, f, none⟩ = some (.int .i64 (s f : Nat)) := by
  rw [h.sh.cellAt f (by omega), intsV_get _ f (by rw [shL_len]; exact hf), shL_get s _ f hf]
/-- What a crossing is worth, and its two faces of the shade. -/
def woM (C : List Cr) (s : Nat → Nat) (c : Nat) (sh : Nat) : Int × Nat × Nat := if s (cor C c 1) = sh then (1, cor C c 1, cor C c 3) else (-1, cor C c 0, cor C c 2)

set_option maxHeartbeats 8000000 in
set_option maxRecDepth 100000 in
theorem worth_any (a : Option Addr) (cap : Nat) (C : List Cr) (loops : Int) (gF cF gT cT gM gS : Nat) (s : Nat → Nat) (c sh : Nat) (w : World) (hm : mayD C loops = true) (hc : c < C.length) (h : Ch w a cap C gF gT gM gS (shL s (facesM C).length)) :
    Calls Try.prog 30 #[chV a cap C loops gF cF gT cT gM gS, .int .i64 (c : Nat), .int .i64 (sh : Nat)] w fun e w' => e = .returned (.tuple #[.int .i64 (woM C s c sh).1, .int .i64 ((woM C s c sh).2.1 : Nat), .int .i64 ((woM C s c sh).2.2 : Nat)]) ∧ Below w.heap.size w w' := by
  obtain ⟨F, hF⟩ : ∃ F, (facesM C).length = F := ⟨_, rfl⟩
  have HCO := hidS (fun (t : Nat) (ht : t < 4) (W : World) (hW : Below w.heap.size w W) => corner_any a cap C loops gF cF gT cT gM gS _ c t W hm hc ht (h.on hW))
  unfold chV at HCO
  rw [hF] at HCO
  have h1 := cor_lt hm c 1 hc (by decide)
  have HSD := hidS (fun (W : World) (hW : Below w.heap.size w W) => (h.on hW).shade (cor C c 1) h1)
  obtain ⟨q0, e0⟩ : ∃ q, cor C c 0 = q := ⟨_, rfl⟩
  obtain ⟨q1, e1⟩ : ∃ q, cor C c 1 = q := ⟨_, rfl⟩
  obtain ⟨q2, e2⟩ : ∃ q, cor C c 2 = q := ⟨_, rfl⟩
  obtain ⟨q3, e3⟩ : ∃ q, cor C c 3 = q := ⟨_, rfl⟩
  have H0 := hidS (HCO.out 0 (by decide))
  have H1 := hidS (HCO.out 1 (by decide))
  have H2 := hidS (HCO.out 2 (by decide))
  have H3 := hidS (HCO.out 3 (by decide))
  rw [e0] at H0
  rw [e1] at H1
  rw [e2] at H2
  rw [e3] at H3
  have hgl := h.lt.2.2.2.1
  obtain ⟨wo, hwo⟩ : ∃ wo, woM C s c sh = wo := ⟨_, rfl⟩
  have HWO : Hid ((s q1 = sh → wo = (1, q1, q3)) ∧ (s q1 ≠ sh → wo = (-1, q0, q2))) := (by
    rw [← hwo]
    unfold woM
    rw [e0, e1, e2, e3]
    exact ⟨fun h => by rw [if_pos h], fun h => by rw [if_neg h]⟩)
  rw [hwo]
  obtain ⟨wv, f1, f2⟩ := wo
  dsimp only
  clear hwo
  rw [e1] at HSD h1
  rw [hF] at h1
  have hqi : (q1 : Int) < (F : Int) := by omega
  unfold chV
  rw [hF]
  obtain ⟨V, hV⟩ : ∃ V, w.alloc (.cells #[.slice a C.length cap, .int .i64 loops, .slice (some ⟨gF, 0, none⟩) (2 * C.length + 1) cF, .slice (some ⟨gT, 0, none⟩) (2 * C.length + 1) cT, .map (some gM), .slice (some ⟨gS, 0, none⟩) F F] 43) = V := ⟨_, rfl⟩
  have hB : Below w.heap.size w V := by rw [← hV]; exact (Below.refl _ _).alloc (Nat.le_refl _) _
  have k0 : V.heap[w.heap.size]? = some (.cells #[.slice a C.length cap, .int .i64 loops, .slice (some ⟨gF, 0, none⟩) (2 * C.length + 1) cF, .slice (some ⟨gT, 0, none⟩) (2 * C.length + 1) cT, .map (some gM), .slice (some ⟨gS, 0, none⟩) F F] 43 (0, 0)) := by rw [← hV]; exact alloc_at rfl
  have lV : w.heap.size < V.heap.size := by rw [← hV]; simp
  have HV := hidS hV
  have HB := hidS hB
  have HSV : Hid (∀ W, Below V.heap.size V W → (fun X : World => X.cell? ⟨w.heap.size, 0, none⟩ = some (.slice a C.length cap) ∧ X.cell? ⟨w.heap.size, 1, none⟩ = some (.int .i64 loops) ∧ X.cell? ⟨w.heap.size, 2, none⟩ = some (.slice (some ⟨gF, 0, none⟩) (2 * C.length + 1) cF) ∧ X.cell? ⟨w.heap.size, 3, none⟩ = some (.slice (some ⟨gT, 0, none⟩) (2 * C.length + 1) cT) ∧ X.cell? ⟨w.heap.size, 4, none⟩ = some (.map (some gM)) ∧ X.cell? ⟨w.heap.size, 5, none⟩ = some (.slice (some ⟨gS, 0, none⟩) F F)) W) := fun W hW => by
    have k := (hW.block _ lV).trans k0
    exact ⟨block_cell k rfl, block_cell k rfl, block_cell k rfl, block_cell k rfl, block_cell k rfl, block_cell k rfl⟩
  have c0 := HSV.out V (Below.refl _ _)
  clear h hV hB k0 hF HCO
  go_enter Try.func30, Try.ntmps30
  go_upto_region 1 with (fail)
  rw [HV.out]
  go_upto_region 2 with (go_at_call 45; refine (H1.out _ HB.out).mono ?_; rintro e9 w2 ⟨rfl, hb2⟩; have HB2 := hidS hb2; clear hb2 c0)
  have c0 := HSV.out w2 HB2.out
  have hw2 := HB.out.trans (HB2.out.mono (by omega))
  have c8 := HSD.out w2 hw2
  have l2 : w.heap.size < w2.heap.size := by have := HB2.out.size; omega
  have ls : gS < w2.heap.size := by omega
  have HW2 := hidS hw2
  clear hw2
  by_cases hz : s q1 = sh
  · have he := HWO.out.1 hz
    have hze : ((s q1 : Int) == (sh : Int)) = true := by rw [hz]; simp
    have HE := hidS he
    clear hz he
    go_wp2_with (go_at_call 45; refine (H3.out _ HW2.out).mono ?_; rintro e9 w3 ⟨rfl, hb3⟩; have HB3 := hidS hb3; clear hb3)
    refine bodyPost_ret (v := .tuple #[.int .i64 1, .int .i64 (q1 : Nat), .int .i64 (q3 : Nat)]) (by simp [results, Try.results30, go_sem]) rfl ?_
    obtain ⟨rfl, rfl, rfl⟩ : wv = _ ∧ f1 = _ ∧ f2 = _ := by have h := HE.out; rw [Prod.mk.injEq, Prod.mk.injEq] at h; exact h
    exact ⟨by first | rfl | simp, HW2.out.trans (HB3.out.mono HW2.out.size)⟩
  · have he := HWO.out.2 hz
    have hze : ((s q1 : Int) == (sh : Int)) = false := beq_eq_false_iff_ne.2 (by omega)
    have HE := hidS he
    clear hz he
    have HDV : Hid (Below w2.heap.size w2 w2.drew) := (Below.refl _ _).drew
    have HS2 : Hid (∀ W, Below w2.heap.size w2 W → (fun X : World => X.cell? ⟨w.heap.size, 0, none⟩ = some (.slice a C.length cap) ∧ X.cell? ⟨w.heap.size, 1, none⟩ = some (.int .i64 loops) ∧ X.cell? ⟨w.heap.size, 2, none⟩ = some (.slice (some ⟨gF, 0, none⟩) (2 * C.length + 1) cF) ∧ X.cell? ⟨w.heap.size, 3, none⟩ = some (.slice (some ⟨gT, 0, none⟩) (2 * C.length + 1) cT) ∧ X.cell? ⟨w.heap.size, 4, none⟩ = some (.map (some gM)) ∧ X.cell? ⟨w.heap.size, 5, none⟩ = some (.slice (some ⟨gS, 0, none⟩) F F)) W) := fun W hW => HSV.out W (HB2.out.trans (hW.mono HB2.out.size))
    go_upto_region 4 with (fail)
    clear c0 c8
    refine rhd HS2 HDV.out (fun hHeld => ?_)
    refine tk 0 (h := ?_)
    refine tk 1 (h := ?_)
    refine tk 3 (h := ?_)
    refine tk 4 (h := ?_)
    try simp only [Act.put]
    clear hHeld
    refine rd1 2 (fun K hK => ?_)
    go_simp
    go_wp2_with (go_at_call 45; refine (H0.out _ (HW2.out.trans (HDV.out.mono HW2.out.size))).mono ?_; rintro e9 w3 ⟨rfl, hb3⟩)
    have HB3 := hidS (HDV.out.trans (hb3.mono HDV.out.size))
    clear hb3
    refine hK.out _ _ (HS2.out _ HB3.out) (fun hHeld => ?_)
    clear hK K hHeld
    try simp only [Act.put]
    refine rd1 5 (fun K hK => ?_)
    go_simp
    go_wp2_with (go_at_call 45; refine (H2.out _ (HW2.out.trans (HB3.out.mono HW2.out.size))).mono ?_; rintro e9 w4 ⟨rfl, hb4⟩)
    have HB4 := hidS (HB3.out.trans (hb4.mono HB3.out.size))
    clear hb4
    refine hK.out _ _ (HS2.out _ HB4.out) (fun hHeld => ?_)
    clear hK K
    try simp only [Act.put]
    refine tq 6 6 (h := ?_)
    simp only [List.setIfInBounds_toArray, List.set_cons_succ, List.set_cons_zero]
    refine tq 7 7 (h := ?_)
    simp only [List.setIfInBounds_toArray, List.set_cons_succ, List.set_cons_zero]
    refine tq 8 8 (h := ?_)
    simp only [List.setIfInBounds_toArray, List.set_cons_succ, List.set_cons_zero]
    refine wpAnyH_done (by kernel_rfl) ?_ _
    clear hHeld
    go_wp2
    refine bodyPost_ret (v := .tuple #[.int .i64 (-1), .int .i64 (q0 : Nat), .int .i64 (q2 : Nat)]) (by simp [results, Try.results30, go_sem]) rfl ?_
    obtain ⟨rfl, rfl, rfl⟩ : wv = _ ∧ f1 = _ ∧ f2 = _ := by have h := HE.out; rw [Prod.mk.injEq, Prod.mk.injEq] at h; exact h
    exact ⟨by first | rfl | simp, HW2.out.trans (HB4.out.mono HW2.out.size)⟩
end Go.Proofs.Ytlcogbcpmneknaa

/- The walk of bracket.bracketOf. -/
import Derived.Test.YtihijieciogabaaDoorBKpP
import Derived.Test.YtihijieciogabaaDoorF12P
import Derived.Deep.CutRange
namespace Go.Proofs.YtihijieciogabaaDoor.Poly
open Go.RowKit Go.Maps

theorem m_zero (C : List Cr) (c0 : Nat) (T : List Nat) : (if T = List.range 26 then dlN c0 oneA else fun _ => 0) = mS C c0 0 T := by
  funext y
  show _ = 0 + (if List.range 26 = T then shA 0 (dlN (c0 + 0) oneA) y else 0)
  by_cases e : T = List.range 26
  · rw [if_pos e, if_pos e.symm, sh_zero]; simp
  · rw [if_neg e, if_neg (fun h => e h.symm)]; rfl
/-- What a drawing's loops count. -/
def lpN (C : List Cr) (lo : Nat) : Nat := if C.length = 0 then lo - 1 else lo
theorem ar_arc {C : List Cr} {l : Int} (hm : mayD C l = true) {k s : Nat} (hk : k < C.length) (hs : s < 4) : (C.getD k Cr.none).arc s = (arN C k s : Nat) := by
  have := ar_range hm hk hs
  unfold arN; omega

set_option maxHeartbeats 8000000 in
set_option maxRecDepth 100000 in
theorem bracketOf_any (a : Option Addr) (cap : Nat) (C : List Cr) (loops : Int) (lo gF cF gT cT : Nat) (w : World) (hm : mayD C loops = true) (hlo : loops = (lo : Nat)) (h12 : C.length ≤ 12) (hC : Crs w w.heap.size (.slice a C.length cap) C) (hR : RingAt w) :
    Calls Tryd.prog 15 #[drV a cap C loops gF cF gT cT] w fun e w' => ∃ c : Nat, e = .returned (.map (some c)) ∧ WkV w' w'.heap.size (.map (some c)) 185 92 (brS C lo) ∧ Below w.heap.size w w' := by
  obtain ⟨s1, s2, s3, s4⟩ := sizeB_iff (may_size hm)
  have HBR : Hid (allS C (lpN C lo) C.length = brS C lo) := br_same hm hlo h12
  have HM := hid_mkP hm
  have HC := hid_mkP hC
  have HR := hid_mkP hR
  have hl0 : lpN C lo ≤ 16 := by unfold lpN; split <;> omega
  have HLN : Hid (lpN C lo = if C.length = 0 then lo - 1 else lo) := (rfl : lpN C lo = if C.length = 0 then lo - 1 else lo)
  obtain ⟨c0, hc0⟩ : ∃ X, lpN C lo = X := ⟨_, rfl⟩
  rw [hc0] at HBR hl0 HLN
  clear hc0 hm hC hR
  subst hlo
  have hlo0 : C.length = 0 → 1 ≤ lo := fun h => by omega
  unfold drV
  obtain ⟨V, hV⟩ : ∃ V, w.alloc (.cells #[.slice a C.length cap, .int .i64 (lo : Nat), .slice (some ⟨gF, 0, none⟩) (2 * C.length + 1) cF, .slice (some ⟨gT, 0, none⟩) (2 * C.length + 1) cT] 43) = V := ⟨_, rfl⟩
  have BV : Hid (Below w.heap.size w V) := (by rw [← hV]; exact (Below.refl _ _).alloc (Nat.le_refl _) _ : Below w.heap.size w V)
  have kV : V.heap[w.heap.size]? = some (.cells #[.slice a C.length cap, .int .i64 (lo : Nat), .slice (some ⟨gF, 0, none⟩) (2 * C.length + 1) cF, .slice (some ⟨gT, 0, none⟩) (2 * C.length + 1) cT] 43 (0, 0)) := by rw [← hV]; exact heap_alloc_new _ _
  have sV : w.heap.size < V.heap.size := by rw [← hV]; simp
  have HV := hid_mkP hV
  have HKV := hid_mkP kV
  have d0 : V.cell? ⟨w.heap.size, 0, none⟩ = some (.slice a C.length cap) := block_cell kV rfl
  have d1 : V.cell? ⟨w.heap.size, 1, none⟩ = some (.int .i64 (lo : Nat)) := block_cell kV rfl
  have hmm : ∀ w : World, (Instr.makeMap 67 none).run Tryd.prog w = .ok (.map (some w.heap.size)) (w.alloc (.map #[] 0)) := fun _ => rfl
  clear hV kV
  go_enter Tryd.func15, Tryd.ntmps15
  go_upto_region 1 with (fail)
  rw [HV.out]

  go_upto_if 15 with (fail)
  go_cut [3] from 4 (fun v3 W => v3 = .int .i64 (c0 : Nat) ∧ Hid (W = V))
  case first =>
    by_cases h0 : C.length = 0
    · have h1 := hlo0 h0
      have hd : ((C.length : Int) == 0) = true := by rw [beq_iff_eq]; omega
      have hc : c0 = lo - 1 := by rw [HLN.out, if_pos h0]
      have hw : IntKind.i64.wrap ((lo : Int) - 1) = ((c0 : Nat) : Int) := by rw [IntWalk.i64_in _ (by omega)]; omega
      clear h0 h1 hc
      go_wp2
      go_meet
      exact ⟨rfl, (rfl : V = V)⟩
    · have hd : ((C.length : Int) == 0) = false := by rw [beq_eq_false_iff_ne]; omega
      have hc : c0 = lo := by rw [HLN.out, if_neg h0]
      subst hc
      clear h0
      go_wp2
      go_meet
      exact ⟨rfl, (rfl : V = V)⟩
  case rest =>
    obtain ⟨rfl, hcut⟩ := hcut
    obtain rfl := hcut.out
    clear hcut d1 HV hlo0 HLN
    rename World => V1
    obtain ⟨R, hRR⟩ : ∃ R, R = List.range 26 := ⟨_, rfl⟩
    have HRR := hid_mkP hRR
    have HGR : Hid (GoodK R) := (by rw [hRR]; exact GoodK.first : GoodK R)
    have HUT : Hid (∀ W, Calls Tryd.prog 27 #[] W fun e w' => e = .returned (.agg (tiA R)) ∧ Below W.heap.size W w') := fun W => by rw [hRR]; exact untied_any W
    clear hRR
    have SM := hid_mkP (SumD.made V1 (V1.heap.size + 1) (V1.heap.size + 1) (2 * c0) (2 * (2 * c0) + 1))
    have BM : Hid (Below V1.heap.size V1 (V1.alloc (.map #[] 0))) := (Below.refl _ _).alloc (Nat.le_refl _) _
    have sM : (V1.alloc (.map #[] 0)).heap.size = V1.heap.size + 1 := by simp
    have HSM := hid_mkP sM
    clear sM
    go_upto_region 5 with (first
      | (go_at_call 27; refine (HUT.out _).mono ?_; rintro e9 x2 ⟨rfl, hb2⟩
         have HX2 := hid_mkP hb2
         clear hb2)
      | (go_at_call 28; refine (rings_any c0 _ hl0 (HR.out.on (BV.out.trans ((BM.out.trans (HX2.out.mono BM.out.size)).mono BV.out.size)) HR.out.lt)).mono ?_; rintro e9 x3 ⟨c3, rfl, hc3, hw3, hb3⟩
         have HX3 := hid_mkP ((BM.out.trans (HX2.out.mono BM.out.size)).trans (hb3.mono (BM.out.trans (HX2.out.mono BM.out.size)).size))
         have h23 : V1.heap.size + 1 ≤ x2.heap.size := by have := HX2.out.size; rw [HSM.out] at this; exact this
         have hbb : Below (V1.heap.size + 1) (V1.alloc (.map #[] 0)) x3 := by rw [← HSM.out]; exact HX2.out.trans (hb3.mono HX2.out.size)
         have hS3 := (SM.out.on hbb (by omega)).mono (Nat.le_refl _) (Nat.le_trans h23 hb3.size) (Nat.le_refl _) (Nat.le_refl _) (Nat.le_refl _)
         obtain ⟨x4, D4, hrun, hS4, hg4, hk4, -⟩ := hS3.put HGR.out (by omega) (by omega) (c := c3) (f := dlN c0 oneA) (by omega) hw3
         unfold tiV at hrun
         have HS4 := hid_mkP hS4
         have HG4 := hid_mkP hg4
         have HK4 := hid_mkP hk4
         clear hS3 hS4 hg4 hk4 hw3 hb3 hbb))
    have hs4 := HG4.out.size
    have B4 : Hid (Below w.heap.size w x4) := (BV.out.trans (HX3.out.mono BV.out.size)).grown HG4.out (BV.out.trans (HX3.out.mono BV.out.size)).size (fun j hj => by cases hj; omega)
    have S4 : Hid (SumD x4 0 x4.heap.size V1.heap.size (2 ^ 0) (2 * c0 + 5 * 0) (2 * (2 * c0 + 5 * 0) + 1) (mS C c0 0) D4) := ((HS4.out.mono (Nat.zero_le _) (Nat.le_refl _) (Nat.le_refl _) (Nat.le_refl _) (Nat.le_refl _)).congr fun T _ => by rw [HRR.out]; exact m_zero C c0 T : SumD x4 0 x4.heap.size V1.heap.size (2 ^ 0) (2 * c0 + 5 * 0) (2 * (2 * c0 + 5 * 0) + 1) (mS C c0 0) D4)
    have C4 : Hid (∀ s l, s < 2 ^ 0 → keyOf Tryd.prog 64 (tiV (kyS C s 0)) = some l → Maps.has D4 l = true) := fun s l _ hl => HK4.out l (by rw [HRR.out]; exact hl)
    have d0 : x4.cell? ⟨w.heap.size, 0, none⟩ = some (.slice a C.length cap) := block_cell ((HG4.out.block _ (by have := HX3.out.size; omega) (fun e => by have := Option.some.inj e; omega)).trans ((HX3.out.block _ sV).trans HKV.out)) rfl
    have sx4 : w.heap.size < x4.heap.size := by have := HX3.out.size; omega
    clear HS4 HG4 HK4 hrun HX2 HX3 SM BM HSM HUT HGR HRR hc3 h23 hmm hs4
    go_wp2
    go_loopw [4, 5, 6, 7, 27] (fun v4 _ _ _ v27 wr => ∃ (i b : Nat) (D : DataW Unit), i ≤ C.length ∧ v27 = .int .i64 (i : Nat) ∧ v4 = .map (some b) ∧ Hid (SumD wr 0 wr.heap.size b (2 ^ i) (2 * c0 + 5 * i) (2 * (2 * c0 + 5 * i) + 1) (mS C c0 i) D) ∧ Hid (∀ s l, s < 2 ^ i → keyOf Tryd.prog 64 (tiV (kyS C s i)) = some l → Maps.has D l = true) ∧ Hid (Below w.heap.size w wr)) (fun _ _ _ _ v27 _ => C.length - (intOf v27).toNat)
    case atStart => exact ⟨0, V1.heap.size, D4, Nat.zero_le _, rfl, rfl, S4.out, C4.out, B4.out⟩
    case round =>
      clear S4 C4 B4 d0 sx4
      rename World => W1
      obtain ⟨i, b, D, hin, rfl, rfl, hSi, hCi, hb⟩ := hrel
      have hsW := hb.out.size
      by_cases hil : i < C.length
      · obtain ⟨a', cap', ea, -, kc⟩ := HC.out
        injection ea with ea1 ea2 ea3
        subst ea1 ea3
        obtain ⟨bb, off, rfl, hbw, hCA⟩ := kc (by omega)
        obtain ⟨e0, e1, e2, e3, e4⟩ := (hCA.on hb.out hbw) i hil
        have hbW : bb < W1.heap.size := by omega
        have hii : (i : Int) < (C.length : Int) := by omega
        have x0 : (C.getD i Cr.none).a = ((arN C i 0 : Nat) : Int) := ar_arc HM.out hil (s := 0) (by omega)
        have x1 : (C.getD i Cr.none).b = ((arN C i 1 : Nat) : Int) := ar_arc HM.out hil (s := 1) (by omega)
        have x2 : (C.getD i Cr.none).c = ((arN C i 2 : Nat) : Int) := ar_arc HM.out hil (s := 2) (by omega)
        have x3 : (C.getD i Cr.none).d = ((arN C i 3 : Nat) : Int) := ar_arc HM.out hil (s := 3) (by omega)
        have y0 := ar_range HM.out hil (s := 0) (by omega)
        have y1 := ar_range HM.out hil (s := 1) (by omega)
        have y2 := ar_range HM.out hil (s := 2) (by omega)
        have y3 := ar_range HM.out hil (s := 3) (by omega)
        have hq0 : arN C i 0 ≤ 24 := by omega
        have hq1 : arN C i 1 ≤ 24 := by omega
        have hq2 : arN C i 2 ≤ 24 := by omega
        have hq3 : arN C i 3 ≤ 24 := by omega
        rw [x0] at e0
        rw [x1] at e1
        rw [x2] at e2
        rw [x3] at e3
        obtain ⟨q0, z0⟩ : ∃ q, arN C i 0 = q := ⟨_, rfl⟩
        obtain ⟨q1, z1⟩ : ∃ q, arN C i 1 = q := ⟨_, rfl⟩
        obtain ⟨q2, z2⟩ : ∃ q, arN C i 2 = q := ⟨_, rfl⟩
        obtain ⟨q3, z3⟩ : ∃ q, arN C i 3 = q := ⟨_, rfl⟩
        obtain ⟨pl, zp⟩ : ∃ q, (C.getD i Cr.none).plus = q := ⟨_, rfl⟩
        have HQ : Hid (arN C i 0 = q0 ∧ arN C i 1 = q1 ∧ arN C i 2 = q2 ∧ arN C i 3 = q3) := ⟨z0, z1, z2, z3⟩
        rw [z0] at e0 hq0
        rw [z1] at e1 hq1
        rw [z2] at e2 hq2
        rw [z3] at e3 hq3
        rw [zp] at e4
        clear x0 x1 x2 x3 y0 y1 y2 y3 z0 z1 z2 z3 zp hCA kc ea2
        by_cases hi0 : i = 0
        · have hd : ((i : Int) == 0) = true := by rw [beq_iff_eq]; omega
          have HUN : Hid (∀ W, Below W1.heap.size W1 W → Calls Tryd.prog 30 #[.map (some b), .agg #[.int .i64 (25 : Nat), .int .i64 (q1 : Nat), .int .i64 (q2 : Nat), .int .i64 (q3 : Nat)]] W fun e w' => ∃ (c : Nat) (D' : DataW Unit), e = .returned (.map (some c)) ∧ SumD w' 0 w'.heap.size c (2 * 2 ^ i) (2 * c0 + 5 * i + 5) (2 * (2 * c0 + 5 * i + 5) + 1) (mS C c0 (i + 1)) D' ∧ (∀ s l, s < 2 ^ (i + 1) → keyOf Tryd.prog 64 (tiV (kyS C s (i + 1))) = some l → Maps.has D' l = true) ∧ Below W.heap.size W w') := fun W hW => undone_any C c0 i b (2 ^ i) (2 * c0 + 5 * i) D 25 q1 q2 q3 W hl0 (by omega) (Nat.le_trans (Nat.pow_le_pow_right (by omega) (by omega : i ≤ 12)) (by decide)) rfl (by unfold arQ; rw [if_pos ⟨hi0, rfl⟩]) (by rw [← HQ.out.2.1]; unfold arQ; rw [if_neg (fun h => by omega)]) (by rw [← HQ.out.2.2.1]; unfold arQ; rw [if_neg (fun h => by omega)]) (by rw [← HQ.out.2.2.2]; unfold arQ; rw [if_neg (fun h => by omega)]) (by omega) (by omega) (by omega) (by omega) (HR.out.on (hb.out.trans (hW.mono hb.out.size)) HR.out.lt) ((hSi.out.on hW hSi.out.own.lt).mono (Nat.le_refl _) hW.size (Nat.le_refl _) (Nat.le_refl _) (Nat.le_refl _)) hCi.out
          clear hi0
          go_wp2_with (first
            | (go_at_call 29; refine (arcs_any ⟨(q0 : Nat), (q1 : Nat), (q2 : Nat), (q3 : Nat), pl⟩ _).mono ?_; rintro e9 w5 ⟨rfl, hb5⟩
               have HB5 : Hid (Below W1.heap.size W1 w5) := ((Below.refl _ _).alloc (Nat.le_refl _) _).trans (hb5.mono (by simp))
               clear hb5)
            | (go_at_call 30; refine (HUN.out _ (HB5.out.alloc HB5.out.size _)).mono ?_; rintro e9 w6 ⟨c6, D6, rfl, hs6, hc6, hb6⟩
               have HS6 := hid_mkP hs6
               have HC6 := hid_mkP hc6
               have HB6 : Hid (Below w.heap.size w w6) := hb.out.trans (((HB5.out.alloc HB5.out.size _).trans (hb6.mono (HB5.out.alloc HB5.out.size _).size)).mono hb.out.size)
               clear hs6 hc6 hb6))
          go_roundw
          case rel => exact ⟨i + 1, c6, D6, by omega, by go_num, rfl, HS6.out.mono (Nat.le_refl _) (Nat.le_refl _) (by rw [Nat.pow_succ]; omega) (by omega) (by omega), HC6.out, HB6.out⟩
          case measure => simp only [intOf]; omega
        · have hd : ((i : Int) == 0) = false := by rw [beq_eq_false_iff_ne]; omega
          have HUN : Hid (∀ W, Below W1.heap.size W1 W → Calls Tryd.prog 30 #[.map (some b), .agg #[.int .i64 (q0 : Nat), .int .i64 (q1 : Nat), .int .i64 (q2 : Nat), .int .i64 (q3 : Nat)]] W fun e w' => ∃ (c : Nat) (D' : DataW Unit), e = .returned (.map (some c)) ∧ SumD w' 0 w'.heap.size c (2 * 2 ^ i) (2 * c0 + 5 * i + 5) (2 * (2 * c0 + 5 * i + 5) + 1) (mS C c0 (i + 1)) D' ∧ (∀ s l, s < 2 ^ (i + 1) → keyOf Tryd.prog 64 (tiV (kyS C s (i + 1))) = some l → Maps.has D' l = true) ∧ Below W.heap.size W w') := fun W hW => undone_any C c0 i b (2 ^ i) (2 * c0 + 5 * i) D q0 q1 q2 q3 W hl0 (by omega) (Nat.le_trans (Nat.pow_le_pow_right (by omega) (by omega : i ≤ 12)) (by decide)) rfl (by rw [← HQ.out.1]; unfold arQ; rw [if_neg (fun h => hi0 h.1)]) (by rw [← HQ.out.2.1]; unfold arQ; rw [if_neg (fun h => by omega)]) (by rw [← HQ.out.2.2.1]; unfold arQ; rw [if_neg (fun h => by omega)]) (by rw [← HQ.out.2.2.2]; unfold arQ; rw [if_neg (fun h => by omega)]) (by omega) (by omega) (by omega) (by omega) (HR.out.on (hb.out.trans (hW.mono hb.out.size)) HR.out.lt) ((hSi.out.on hW hSi.out.own.lt).mono (Nat.le_refl _) hW.size (Nat.le_refl _) (Nat.le_refl _) (Nat.le_refl _)) hCi.out
          clear hi0
          go_wp2_with (first
            | (go_at_call 29; refine (arcs_any ⟨(q0 : Nat), (q1 : Nat), (q2 : Nat), (q3 : Nat), pl⟩ _).mono ?_; rintro e9 w5 ⟨rfl, hb5⟩
               have HB5 : Hid (Below W1.heap.size W1 w5) := ((Below.refl _ _).alloc (Nat.le_refl _) _).trans (hb5.mono (by simp))
               clear hb5)
            | (go_at_call 30; refine (HUN.out _ (HB5.out.alloc HB5.out.size _)).mono ?_; rintro e9 w6 ⟨c6, D6, rfl, hs6, hc6, hb6⟩
               have HS6 := hid_mkP hs6
               have HC6 := hid_mkP hc6
               have HB6 : Hid (Below w.heap.size w w6) := hb.out.trans (((HB5.out.alloc HB5.out.size _).trans (hb6.mono (HB5.out.alloc HB5.out.size _).size)).mono hb.out.size)
               clear hs6 hc6 hb6))
          go_roundw
          case rel => exact ⟨i + 1, c6, D6, by omega, by go_num, rfl, HS6.out.mono (Nat.le_refl _) (Nat.le_refl _) (by rw [Nat.pow_succ]; omega) (by omega) (by omega), HC6.out, HB6.out⟩
          case measure => simp only [intOf]; omega
      · obtain rfl : i = C.length := by omega
        have hAL := hid_mkP (all_any C c0 C.length b (2 ^ C.length) (2 * c0 + 5 * C.length) D W1 hl0 (by omega) (by omega) hSi.out hCi.out)
        go_wp2_with (go_at_call 31; refine hAL.out.mono ?_; rintro e9 w6 ⟨c6, rfl, hw6, hb6⟩)
        go_ret
        rw [HBR.out] at hw6
        exact ⟨c6, rfl, hw6.mono (Nat.le_refl _) (by omega) (by omega), hb.out.trans (hb6.mono hsW)⟩
end Go.Proofs.YtihijieciogabaaDoor.Poly

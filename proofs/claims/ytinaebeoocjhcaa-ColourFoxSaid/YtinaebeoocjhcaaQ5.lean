/- The walk of colour.Fox. -/
import Derived.Test.YtinaebeoocjhcaaQ4
namespace Go.Proofs.Ytinaebeoocjhcaa
open Go.RowKit

theorem rk_empty {p m : Nat} {R0 : (Nat → Int) → Prop} (h : ∀ r, ¬ R0 r) (c : Nat) (hc : c ≤ m) : rkTo p m R0 c = 0 := by
  induction c with
  | zero => rfl
  | succ c ih =>
    rw [rkTo_no, ih (by omega)]
    rintro ⟨v, hv, hn⟩
    exact hn (sp_col (by omega) (fun r hr => absurd hr (h r)) hv.1)
/-- Of how many colours colourings are sums. -/
noncomputable def foxM (C : List Cr) (loops : Int) (p : Nat) : Int := (ovC C : Int) - (rkTo p (ovC C) (eqAll C) (ovC C) : Int) + loops
theorem eq_start (C : List Cr) (p : Nat) : Inv p (ovC C) (eqAll C) 0 (restR C.length 0 (fun i j => (eqR C i j + p).tmod p)) := by
  refine Inv.start ?_ ?_
  · rintro r ⟨i, _, hi, rfl⟩
    refine ⟨eqR C i, ⟨i, hi, rfl⟩, fun j _ => ?_⟩
    have h := tmod_same (eqR C i j + p) p
    have h2 := Int.dvd_sub h (Int.dvd_refl (p : Int))
    have e : eqR C i j + p - (eqR C i j + p).tmod p - p = eqR C i j - (eqR C i j + p).tmod p := by omega
    rw [e] at h2
    exact h2
  · rintro r ⟨i, hi, rfl⟩
    refine ⟨_, ⟨i, Nat.zero_le _, hi, rfl⟩, fun j _ => ?_⟩
    have h := Int.dvd_neg.2 (tmod_same (eqR C i j + p) p)
    have h2 := Int.dvd_add h (Int.dvd_refl (p : Int))
    have e : -(eqR C i j + p - (eqR C i j + p).tmod p) + p = (eqR C i j + p).tmod p - eqR C i j := by omega
    rw [e] at h2
    exact h2
theorem eq_bound (C : List Cr) {p : Nat} (hp2 : 2 ≤ p) (i j : Nat) : 0 ≤ (eqR C i j + p).tmod p ∧ (eqR C i j + p).tmod p < p := by
  have h : -2 ≤ eqR C i j := (eqF_in _ _ _ j).1
  exact tmod_in (by omega) (by omega)

set_option maxHeartbeats 4000000 in
set_option maxRecDepth 100000 in
theorem rank_nil (a : Option Addr) (c p : Nat) (w : World) : Calls Try.prog 96 #[.slice a 0 c, .int .i64 (p : Nat)] w fun e w' => e = .returned (.int .i64 0) ∧ Below w.heap.size w w' := by
  have HB : Hid (Below w.heap.size w w) := Below.refl _ _
  go_enter Try.func96, Try.ntmps96
  go_wp2
  go_ret
  exact ⟨rfl, HB.out⟩
/-- The rank of a drawing's equations. -/
theorem rankEq_any (C : List Cr) (p : Nat) (gs : Nat → Nat) (B : Nat) (v : Value) (w : World) (hp : p < 98) (hpr : primeN p = true) (hn : C.length ≤ 16) (hB : B ≤ w.heap.size) (h : TabP B C.length (ovC C) gs (fun i j => (eqR C i j + p).tmod p) v w) :
    Calls Try.prog 96 #[v, .int .i64 (p : Nat)] w fun e w' => e = .returned (.int .i64 (rkTo p (ovC C) (eqAll C) (ovC C) : Nat)) ∧ Below B w w' := by
  have hp2 : 2 ≤ p := by have := (Bool.and_eq_true_iff.1 hpr).1; simpa using this
  by_cases h0 : 0 < C.length
  · obtain ⟨gt, cap, rfl, hc, hT⟩ := h.whole h0
    exact rank_any B gt cap C.length (ovC C) gs _ p (eqAll C) w hp hpr hn h0 (by have := ovC_le C; omega) hc (fun i j _ _ => eq_bound C hp2 i j) (eq_start C p) hB hT
  · have e : C.length = 0 := by omega
    rw [e] at h
    obtain ⟨a, c, rfl⟩ := h.empty
    rw [rk_empty (fun r hr => by obtain ⟨i, hi, _⟩ := hr; omega) _ (Nat.le_refl _)]
    exact (rank_nil a c p w).mono fun e w' h => ⟨h.1, h.2.mono hB⟩

set_option maxHeartbeats 4000000 in
set_option maxRecDepth 100000 in
theorem fox_range (v : Value) (loops : Int) (C : List Cr) (p : Int) (w : World) (hlo : -9223372036854775808 ≤ p) (hp : 97 < p ∨ primeN p.toNat = false) (h : Crs w w.heap.size v C) :
    Calls Try.prog 47 #[.agg #[v, .int .i64 loops], .int .i64 p] w fun e w' => e = .returned (.tuple #[.int .i64 0, .int .i64 3]) ∧ Below w.heap.size w w' := by
  obtain ⟨a, cap, rfl, -, -⟩ := h
  have HB1 : Hid (Below w.heap.size w (w.alloc (.cells #[.slice a C.length cap, .int .i64 loops] 24))) := (Below.refl _ _).alloc (Nat.le_refl _) _
  by_cases h97 : 97 < p
  · go_enter Try.func47, Try.ntmps47
    go_wp2
    go_ret2
    exact ⟨rfl, HB1.out⟩
  · have HP : Hid (primeN p.toNat = false) := hp.resolve_left h97
    have h97' : p ≤ 97 := by omega
    go_enter Try.func47, Try.ntmps47
    go_wp2_with (go_at_call 95; refine (prime_any p _ h97' hlo).mono ?_; rw [HP.out]; rintro e9 w2 ⟨rfl, hb2⟩; refine Hid.out ?_)
    refine Lib.hid ?_
    have HB2 : Hid (Below w.heap.size w w2) := HB1.out.trans (hb2.mono HB1.out.size)
    clear hb2
    go_wp2
    go_ret2
    exact ⟨rfl, HB2.out⟩

set_option maxHeartbeats 4000000 in
set_option maxRecDepth 100000 in
theorem fox_no (hFR : FaceRingsOk) (v : Value) (C : List Cr) (loops : Int) (p : Nat) (w : World) (hp : p ≤ 97) (hpr : primeN p = true) (hn : noN C loops ≠ 0) (h : Crs w w.heap.size v C) :
    Calls Try.prog 47 #[.agg #[v, .int .i64 loops], .int .i64 (p : Nat)] w fun e w' => e = .returned (.tuple #[.int .i64 0, .int .i64 (noN C loops)]) ∧ Below w.heap.size w w' := by
  have HC : Hid (Crs w w.heap.size v C) := h
  have HPR : Hid (primeN (p : Int).toNat = true) := (by rw [Int.toNat_natCast]; exact hpr : primeN (p : Int).toNat = true)
  obtain ⟨a, cap, rfl, -, -⟩ := h
  have HF : Hid (∀ W, Crs W W.heap.size (.slice a C.length cap) C → Calls Try.prog 92 #[.agg #[.slice a C.length cap, .int .i64 loops]] W fun e w' => e = .returned (.tuple #[noDrawing, .int .i64 (noN C loops)]) ∧ Below W.heap.size W w') := fun W hW => flat_not hFR a cap C loops W hn hW
  generalize noN C loops = r at hn HF
  have hr0 : (r == 0) = false := beq_eq_false_iff_ne.2 hn
  obtain ⟨w0, hw0⟩ : ∃ w0, w0 = w.alloc (.cells #[.slice a C.length cap, .int .i64 loops] 24) := ⟨_, rfl⟩
  have HW0 : Hid (w0 = w.alloc (.cells #[.slice a C.length cap, .int .i64 loops] 24)) := hw0
  have HB1 : Hid (Below w.heap.size w w0) := (by rw [hw0]; exact (Below.refl _ _).alloc (Nat.le_refl _) _ : Below w.heap.size w w0)
  have hs0 : w0.heap.size = w.heap.size + 1 := by rw [hw0]; simp
  have HT0 : Hid (w0.heap[w.heap.size]? = some (.cells #[.slice a C.length cap, .int .i64 loops] 24 (0, 0))) := (by rw [hw0]; exact alloc_at rfl : w0.heap[w.heap.size]? = some (.cells #[.slice a C.length cap, .int .i64 loops] 24 (0, 0)))
  have hp97 : (p : Int) ≤ 97 := by omega
  clear hw0 hpr
  go_enter Try.func47, Try.ntmps47
  go_wp2_with (go_at_call 95; rw [← HW0.out]; refine (prime_any (p : Int) _ hp97 (by omega)).mono ?_; rw [HPR.out]; rintro e9 w2 ⟨rfl, hb2⟩; refine Hid.out ?_)
  refine Lib.hid ?_
  have HB2 : Hid (Below w0.heap.size w0 w2) := hb2
  have t0 : w2.cell? ⟨w.heap.size, 0, none⟩ = some (.slice a C.length cap) := block_cell ((hb2.block _ (by omega)).trans HT0.out) rfl
  have t1 : w2.cell? ⟨w.heap.size, 1, none⟩ = some (.int .i64 loops) := block_cell ((hb2.block _ (by omega)).trans HT0.out) rfl
  have HC2 : Hid (Crs w2 w2.heap.size (.slice a C.length cap) C) := (HC.out.up HB1.out).up hb2
  have hs2 := hb2.size
  clear hb2
  go_wp2_with (go_at_call 92; refine (HF.out _ HC2.out).mono ?_; rintro e9 w3 ⟨rfl, hb3⟩; refine Hid.out ?_)
  refine Lib.hid ?_
  unfold noDrawing
  have HB3 : Hid (Below w.heap.size w w3) := HB1.out.trans ((HB2.out.trans (hb3.mono HB2.out.size)).mono HB1.out.size)
  clear hb3
  go_wp2
  go_ret2
  exact ⟨rfl, HB3.out.alloc HB3.out.size _⟩

set_option maxHeartbeats 8000000 in
set_option maxRecDepth 100000 in
theorem fox_yes (hFR : FaceRingsOk) (v : Value) (C : List Cr) (loops : Int) (p : Nat) (w : World) (hp : p ≤ 97) (hpr : primeN p = true) (hn : noN C loops = 0) (h : Crs w w.heap.size v C) :
    Calls Try.prog 47 #[.agg #[v, .int .i64 loops], .int .i64 (p : Nat)] w fun e w' => e = .returned (.tuple #[.int .i64 (foxM C loops p), .int .i64 0]) ∧ Below w.heap.size w w' := by
  have HC : Hid (Crs w w.heap.size v C) := h
  obtain ⟨hm, hpl⟩ := noN_zero hn
  have HM : Hid (mayD C loops = true) := hm
  have HPL : Hid (planarB C = true) := hpl
  have HFA : Hid FaceRingsOk := hFR
  have HPR : Hid (primeN (p : Int).toNat = true) := (by rw [Int.toNat_natCast]; exact hpr : primeN (p : Int).toNat = true)
  have HPN : Hid (primeN p = true) := hpr
  have hp2 : 2 ≤ p := by have := (Bool.and_eq_true_iff.1 hpr).1; simpa using this
  obtain ⟨s1, s2, s3, s4⟩ := sizeB_iff (may_size hm)
  obtain ⟨a, cap, rfl, -, -⟩ := h
  obtain ⟨w0, hw0⟩ : ∃ w0, w0 = w.alloc (.cells #[.slice a C.length cap, .int .i64 loops] 24) := ⟨_, rfl⟩
  have HW0 : Hid (w0 = w.alloc (.cells #[.slice a C.length cap, .int .i64 loops] 24)) := hw0
  have HB1 : Hid (Below w.heap.size w w0) := (by rw [hw0]; exact (Below.refl _ _).alloc (Nat.le_refl _) _ : Below w.heap.size w w0)
  have hs0 : w0.heap.size = w.heap.size + 1 := by rw [hw0]; simp
  have HT0 : Hid (w0.heap[w.heap.size]? = some (.cells #[.slice a C.length cap, .int .i64 loops] 24 (0, 0))) := (by rw [hw0]; exact alloc_at rfl : w0.heap[w.heap.size]? = some (.cells #[.slice a C.length cap, .int .i64 loops] 24 (0, 0)))
  have hp97 : (p : Int) ≤ 97 := by omega
  have hmc := ovC_le C
  have hrk := rkTo_le p (ovC C) (eqAll C) (ovC C)
  obtain ⟨rk, hrk'⟩ : ∃ rk, rkTo p (ovC C) (eqAll C) (ovC C) = rk := ⟨_, rfl⟩
  have HFX : Hid (foxM C loops p = (ovC C : Int) - (rk : Int) + loops) := (by unfold foxM; rw [hrk'] : foxM C loops p = (ovC C : Int) - (rk : Int) + loops)
  rw [HFX.out]
  have HRA : Hid (∀ (B : Nat) (gs : Nat → Nat) (v : Value) (w : World), B ≤ w.heap.size → TabP B C.length (ovC C) gs (fun i j => (eqR C i j + p).tmod p) v w → Calls Try.prog 96 #[v, .int .i64 (p : Nat)] w fun e w' => e = .returned (.int .i64 (rk : Nat)) ∧ Below B w w') := fun B gs v w hB hT => by
    rw [← hrk']
    exact rankEq_any C p gs B v w (by omega) HPN.out s1 hB hT
  rw [hrk'] at hrk
  have HOV : Hid (∀ (W : World) (a' : Option Addr) (cap' gF cF gT cT : Nat), Dr W a' cap' C gF gT → Calls Try.prog 93 #[drV a' cap' C loops gF cF gT cT] W fun e w' => ∃ g, e = .returned (.tuple #[.slice (some ⟨g, 0, none⟩) (2 * C.length + 1) (2 * C.length + 1), .int .i64 (ovC C : Nat)]) ∧ w'.ownsRow W.heap.size 3 1 (.slice (some ⟨g, 0, none⟩) (2 * C.length + 1) (2 * C.length + 1)) (2 * C.length + 1) (nats (ovTo C (2 * C.length + 1))) ∧ Below W.heap.size W w') := fun W a' cap' gF cF gT cT hW => overpasses_any a' cap' C loops gF cF gT cT W HM.out hW
  have HEQ : Hid (∀ (W : World) (a' : Option Addr) (cap' gF cF gT cT g : Nat), Dr W a' cap' C gF gT → W.ownsRow 0 3 1 (.slice (some ⟨g, 0, none⟩) (2 * C.length + 1) (2 * C.length + 1)) (2 * C.length + 1) (nats (ovTo C (2 * C.length + 1))) → Calls Try.prog 97 #[drV a' cap' C loops gF cF gT cT, .slice (some ⟨g, 0, none⟩) (2 * C.length + 1) (2 * C.length + 1), .int .i64 (ovC C : Nat), .int .i64 (p : Nat)] W fun e w' => ∃ v gs, e = .returned v ∧ TabP W.heap.size C.length (ovC C) gs (fun i j => (eqR C i j + p).tmod p) v w' ∧ Below W.heap.size W w') := fun W a' cap' gF cF gT cT g hD hO => equations_any a' cap' C loops gF cF gT cT g p W HM.out hD (by omega) hp2 hO
  unfold drV at HOV HEQ
  obtain ⟨m, hmm⟩ : ∃ m, ovC C = m := ⟨_, rfl⟩
  rw [hmm] at HFX HRA HOV HEQ hmc hrk ⊢
  have ew1 : IntKind.i64.wrap ((m : Int) - (rk : Int)) = (m : Int) - (rk : Int) := IntWalk.i64_in _ (by omega)
  have ew2 : IntKind.i64.wrap ((m : Int) - (rk : Int) + loops) = (m : Int) - (rk : Int) + loops := IntWalk.i64_in _ (by omega)
  clear hw0 hpr hm hpl hn hFR hmm hrk'
  go_enter Try.func47, Try.ntmps47
  go_wp2_with (go_at_call 95; rw [← HW0.out]; refine (prime_any (p : Int) _ hp97 (by omega)).mono ?_; rw [HPR.out]; rintro e9 w2 ⟨rfl, hb2⟩; refine Hid.out ?_)
  refine Lib.hid ?_
  have HB2 : Hid (Below w0.heap.size w0 w2) := hb2
  have t0 : w2.cell? ⟨w.heap.size, 0, none⟩ = some (.slice a C.length cap) := block_cell ((hb2.block _ (by omega)).trans HT0.out) rfl
  have t1 : w2.cell? ⟨w.heap.size, 1, none⟩ = some (.int .i64 loops) := block_cell ((hb2.block _ (by omega)).trans HT0.out) rfl
  have HC2 : Hid (Crs w2 w2.heap.size (.slice a C.length cap) C) := (HC.out.up HB1.out).up hb2
  have hs2 := hb2.size
  clear hb2
  go_wp2_with (go_at_call 92; refine (flat_yes HFA.out _ C loops _ HM.out HPL.out HC2.out).mono ?_; rintro e9 w3 ⟨a', cap', gF, cF, gT, cT, rfl, hdr, hb3⟩; refine Hid.out ?_)
  refine Lib.hid ?_
  have HDR : Hid (Dr w3 a' cap' C gF gT) := hdr
  unfold drV
  have HB3 : Hid (Below w.heap.size w w3) := HB1.out.trans ((HB2.out.trans (hb3.mono HB2.out.size)).mono HB1.out.size)
  have hs3 := HB3.out.size
  have HBA : Hid (Below w3.heap.size w3 (w3.alloc (.cells #[.slice a' C.length cap', .int .i64 loops, .slice (some ⟨gF, 0, none⟩) (2 * C.length + 1) cF, .slice (some ⟨gT, 0, none⟩) (2 * C.length + 1) cT] 87))) := (Below.refl _ _).alloc (Nat.le_refl _) _
  clear hb3 hdr t0 t1
  go_wp2_with (go_at_call 93; refine (HOV.out _ a' cap' gF cF gT cT (HDR.out.on HBA.out)).mono ?_; rintro e9 w4 ⟨g, rfl, hr4, hb4⟩; refine Hid.out ?_)
  refine Lib.hid ?_
  have HB34 : Hid (Below w3.heap.size w3 w4) := HBA.out.trans (hb4.mono (by simp))
  have HR4 : Hid (w4.ownsRow 0 3 1 (.slice (some ⟨g, 0, none⟩) (2 * C.length + 1) (2 * C.length + 1)) (2 * C.length + 1) (nats (ovTo C (2 * C.length + 1)))) := own_low hr4 (Nat.zero_le _)
  have hQ : w4.heap[w3.heap.size]? = some (.cells #[.slice a' C.length cap', .int .i64 loops, .slice (some ⟨gF, 0, none⟩) (2 * C.length + 1) cF, .slice (some ⟨gT, 0, none⟩) (2 * C.length + 1) cT] 87 (0, 0)) := (hb4.block _ (by simp)).trans (alloc_at rfl)
  have hs4 : w3.heap.size < w4.heap.size := by have := hb4.size; simp at this; omega
  have HQ : Hid (∀ W, Below w4.heap.size w4 W → W.cell? ⟨w3.heap.size, 0, none⟩ = some (.slice a' C.length cap') ∧ W.cell? ⟨w3.heap.size, 1, none⟩ = some (.int .i64 loops) ∧ W.cell? ⟨w3.heap.size, 2, none⟩ = some (.slice (some ⟨gF, 0, none⟩) (2 * C.length + 1) cF) ∧ W.cell? ⟨w3.heap.size, 3, none⟩ = some (.slice (some ⟨gT, 0, none⟩) (2 * C.length + 1) cT)) := fun W hW => by
    have q := (hW.block _ hs4).trans hQ
    exact ⟨block_cell q rfl, block_cell q rfl, block_cell q rfl, block_cell q rfl⟩
  have HD4 : Hid (Dr w4 a' cap' C gF gT) := HDR.out.on HB34.out
  obtain ⟨q0, q1, q2, q3⟩ := HQ.out w4 (Below.refl _ _)
  clear hb4 hr4 hQ
  have HD0 : Hid (Below w4.heap.size w4 w4.drew) := (Below.refl _ _).drew
  have HRD : Hid (w4.drew.ownsRow 0 3 1 (.slice (some ⟨g, 0, none⟩) (2 * C.length + 1) (2 * C.length + 1)) (2 * C.length + 1) (nats (ovTo C (2 * C.length + 1)))) := own_any HR4.out (grown_below ((Below.refl _ _).drew) none)
  go_wp2
  go_region_held3 (fun w' => w'.cell? ⟨w3.heap.size, 0, none⟩ = some (.slice a' C.length cap') ∧ w'.cell? ⟨w3.heap.size, 1, none⟩ = some (.int .i64 loops) ∧ w'.cell? ⟨w3.heap.size, 2, none⟩ = some (.slice (some ⟨gF, 0, none⟩) (2 * C.length + 1) cF) ∧ w'.cell? ⟨w3.heap.size, 3, none⟩ = some (.slice (some ⟨gT, 0, none⟩) (2 * C.length + 1) cT)) (first | exact HQ.out _ H6.out | exact HQ.out _ H5.out | exact HQ.out _ HD0.out | exact HQ.out _ (Below.refl _ _)) (first
    | (go_at_call 96; have hAA := H5; clear hAA; refine (HRA.out w4.drew.heap.size gs v5 w5 hsz5 HT5.out).mono ?_; rintro e9 w6 ⟨rfl, hb6⟩
       have H6 : Hid (Below w4.heap.size w4 w6) := H5.out.trans hb6
       clear hb6)
    | (go_at_call 97; refine (HEQ.out w4.drew a' cap' gF cF gT cT g (HD4.out.on HD0.out) HRD.out).mono ?_; rintro e9 w5 ⟨v5, gs, rfl, ht5, hb5⟩
       have H5 : Hid (Below w4.heap.size w4 w5) := HD0.out.trans (hb5.mono HD0.out.size)
       have HT5 : Hid (TabP w4.drew.heap.size C.length m gs (fun i j => (eqR C i j + p).tmod p) v5 w5) := ht5
       have hsz5 : w4.drew.heap.size ≤ w5.heap.size := hb5.size
       clear hb5 ht5))
  all_goals
    go_wp2
    go_ret2
    exact ⟨rfl, HB3.out.trans ((HB34.out.trans (H6.out.mono HB34.out.size)).mono HB3.out.size)⟩
end Go.Proofs.Ytinaebeoocjhcaa

/- The walks of wind.sign, ref.signOf, wind.Writhe and ref.WritheOf. -/
import Derived.Test.YtmggackacaobjaaV4
namespace Go.Proofs.Ytmggackacaobjaa
open Go.RowKit

/-- A sign as a number. -/
def sgn (p : Bool) : Int := if p = true then 1 else -1
theorem sgn_bound (p : Bool) : sgn p = 1 ∨ sgn p = -1 := by cases p <;> simp [sgn]
/-- The signs of the first k crossings. -/
def wrM (C : List Cr) : Nat → Int
  | 0 => 0
  | k + 1 => wrM C k + sgn (C.getD k Cr.none).plus
theorem wrM_bound (C : List Cr) (k : Nat) : -(k : Int) ≤ wrM C k ∧ wrM C k ≤ (k : Int) := by
  induction k with
  | zero => simp [wrM]
  | succ k ih =>
    have := sgn_bound (C.getD k Cr.none).plus
    simp only [wrM]
    omega

set_option maxHeartbeats 2000000 in
set_option maxRecDepth 100000 in
theorem signW_any (x : Cr) (w : World) :
    Calls Try.prog 107 #[.agg #[.int .i64 x.a, .int .i64 x.b, .int .i64 x.c, .int .i64 x.d, .bool x.plus]] w fun e w' => e = .returned (.int .i64 (sgn x.plus)) ∧ Below w.heap.size w w' := by
  obtain ⟨xa, xb, xc, xd, xp⟩ := x
  cases xp <;>
  · go_enter Try.func107, Try.ntmps107
    go_wp2
    go_ret
    exact ⟨rfl, (Below.refl _ _).alloc (Nat.le_refl _) _⟩

set_option maxHeartbeats 2000000 in
set_option maxRecDepth 100000 in
theorem signOf_any (x : Cr) (w : World) :
    Calls Try.prog 110 #[.agg #[.int .i64 x.a, .int .i64 x.b, .int .i64 x.c, .int .i64 x.d, .bool x.plus]] w fun e w' => e = .returned (.int .i64 (sgn x.plus)) ∧ Below w.heap.size w w' := by
  obtain ⟨xa, xb, xc, xd, xp⟩ := x
  cases xp <;>
  · go_enter Try.func110, Try.ntmps110
    go_wp2
    go_ret
    exact ⟨rfl, (Below.refl _ _).alloc (Nat.le_refl _) _⟩

set_option maxHeartbeats 4000000 in
set_option maxRecDepth 100000 in
theorem writhe_no (hFR : FaceRingsOk) (v : Value) (C : List Cr) (loops : Int) (w : World) (hn : noN C loops ≠ 0) (h : Crs w w.heap.size v C) :
    Calls Try.prog 55 #[.agg #[v, .int .i64 loops]] w fun e w' => e = .returned (.tuple #[.int .i64 0, .int .i64 (noN C loops)]) ∧ Below w.heap.size w w' := by
  have HC : Hid (Crs w w.heap.size v C) := h
  obtain ⟨a, cap, rfl, -, -⟩ := h
  have HF : Hid (∀ W, Crs W W.heap.size (.slice a C.length cap) C → Calls Try.prog 106 #[.agg #[.slice a C.length cap, .int .i64 loops]] W fun e w' => e = .returned (.tuple #[noDrawing, .int .i64 (noN C loops)]) ∧ Below W.heap.size W w') := fun W hW => flat_not hFR a cap C loops W hn hW
  generalize noN C loops = r at hn HF
  have hr0 : (r == 0) = false := beq_eq_false_iff_ne.2 hn
  have HB1 : Hid (Below w.heap.size w (w.alloc (.cells #[.slice a C.length cap, .int .i64 loops] 24))) := (Below.refl _ _).alloc (Nat.le_refl _) _
  go_enter Try.func55, Try.ntmps55
  go_wp2_with (go_at_call 106; refine (HF.out _ (HC.out.up HB1.out)).mono ?_; rintro e9 w2 ⟨rfl, hb2⟩; refine Hid.out ?_)
  refine Lib.hid ?_
  unfold noDrawing
  have HB2 : Hid (Below w.heap.size w w2) := HB1.out.trans (hb2.mono HB1.out.size)
  clear hb2
  go_wp2
  go_ret2
  exact ⟨rfl, HB2.out.alloc HB2.out.size _⟩

set_option maxHeartbeats 4000000 in
set_option maxRecDepth 100000 in
theorem writhe_yes (hFR : FaceRingsOk) (v : Value) (C : List Cr) (loops : Int) (w : World) (hn : noN C loops = 0) (h : Crs w w.heap.size v C) :
    Calls Try.prog 55 #[.agg #[v, .int .i64 loops]] w fun e w' => e = .returned (.tuple #[.int .i64 (wrM C C.length), .int .i64 0]) ∧ Below w.heap.size w w' := by
  have HC : Hid (Crs w w.heap.size v C) := h
  obtain ⟨hm, hp⟩ := noN_zero hn
  have HM : Hid (mayD C loops = true) := hm
  have HP : Hid (planarB C = true) := hp
  have HFA : Hid FaceRingsOk := hFR
  obtain ⟨s1, s2, s3, s4⟩ := sizeB_iff (may_size hm)
  obtain ⟨a, cap, rfl, -, -⟩ := h
  have HB1 : Hid (Below w.heap.size w (w.alloc (.cells #[.slice a C.length cap, .int .i64 loops] 24))) := (Below.refl _ _).alloc (Nat.le_refl _) _
  clear hm hp hn hFR
  go_enter Try.func55, Try.ntmps55
  go_wp2_with (go_at_call 106; refine (flat_yes HFA.out _ C loops _ HM.out HP.out (HC.out.up HB1.out)).mono ?_; rintro e9 w2 ⟨a', cap', gF, cF, gT, cT, rfl, hdr, hb2⟩; refine Hid.out ?_)
  refine Lib.hid ?_
  have HDR : Hid (Dr w2 a' cap' C gF gT) := hdr
  unfold drV
  have HB2 : Hid (Below w.heap.size w w2) := HB1.out.trans (hb2.mono HB1.out.size)
  have hs2 := HB2.out.size
  have HBA : Hid (Below w2.heap.size w2 (w2.alloc (.cells #[.slice a' C.length cap', .int .i64 loops, .slice (some ⟨gF, 0, none⟩) (2 * C.length + 1) cF, .slice (some ⟨gT, 0, none⟩) (2 * C.length + 1) cT] 87))) := (Below.refl _ _).alloc (Nat.le_refl _) _
  clear hb2 hdr
  go_wp2
  go_loopw [6, 21] (fun v6 v21 wr => ∃ i : Nat, i ≤ C.length ∧ v21 = .int .i64 (i : Nat) ∧ v6 = .int .i64 (wrM C i) ∧ Hid (Below w2.heap.size w2 wr)) (fun _ v21 _ => C.length - (intOf v21).toNat)
  case atStart => exact ⟨0, Nat.zero_le _, rfl, rfl, HBA.out⟩
  case round =>
    rename World => W1
    obtain ⟨i, hin, rfl, rfl, hb⟩ := hrel
    have hsW := hb.out.size
    by_cases hil : i < C.length
    · obtain ⟨b, off, ea, hbw, hC⟩ := HDR.out.cross (by omega)
      obtain rfl := ea
      obtain ⟨e0, e1, e2, e3, e4⟩ := (hC.on hb.out hbw) i hil
      have hbW : b < W1.heap.size := by omega
      have hii : (i : Int) < (C.length : Int) := by omega
      have HWN : Hid (wrM C (i + 1) = wrM C i + sgn (C.getD i Cr.none).plus) := (rfl : wrM C (i + 1) = wrM C i + sgn (C.getD i Cr.none).plus)
      have hwb := wrM_bound C i
      obtain ⟨x, hx⟩ : ∃ x, C.getD i Cr.none = x := ⟨_, rfl⟩
      rw [hx] at HWN e0 e1 e2 e3 e4
      obtain ⟨z, hz⟩ : ∃ z, wrM C i = z := ⟨_, rfl⟩
      rw [hz] at HWN hwb ⊢
      obtain ⟨sg', hsg⟩ : ∃ sg', sgn x.plus = sg' := ⟨_, rfl⟩
      have HSG : Hid (sgn x.plus = sg') := hsg
      have hsb := sgn_bound x.plus
      rw [hsg] at HWN hsb
      have hsb2 : -1 ≤ sg' ∧ sg' ≤ 1 := by omega
      have ew : IntKind.i64.wrap (z + sg') = z + sg' := IntWalk.i64_in _ (by omega)
      clear hx hz hsg hsb hC
      go_wp2_with (go_at_call 107; refine (signW_any x _).mono ?_; rw [HSG.out]; rintro e9 w5 ⟨rfl, hb5⟩; have HB5 : Hid (Below W1.heap.size W1 w5) := ((Below.refl _ _).alloc (Nat.le_refl _) _).trans (hb5.mono (by simp)); clear hb5)
      go_roundw
      case rel => exact ⟨i + 1, by omega, by go_num, by rw [HWN.out], hb.out.trans (HB5.out.mono hsW)⟩
      case measure => simp only [intOf]; omega
    · obtain rfl : i = C.length := by omega
      go_wp2
      go_ret2
      exact ⟨rfl, HB2.out.trans (hb.out.mono hs2)⟩

set_option maxHeartbeats 4000000 in
set_option maxRecDepth 100000 in
theorem writheOf_any (v : Value) (C : List Cr) (loops : Int) (w : World) (hm : mayD C loops = true) (h : Crs w w.heap.size v C) :
    Calls Try.prog 59 #[.agg #[v, .int .i64 loops]] w fun e w' => e = .returned (.int .i64 (wrM C C.length)) ∧ Below w.heap.size w w' := by
  have HC : Hid (Crs w w.heap.size v C) := h
  obtain ⟨s1, s2, s3, s4⟩ := sizeB_iff (may_size hm)
  obtain ⟨a, cap, rfl, -, -⟩ := h
  have HB1 : Hid (Below w.heap.size w (w.alloc (.cells #[.slice a C.length cap, .int .i64 loops] 24))) := (Below.refl _ _).alloc (Nat.le_refl _) _
  have HT1 : Hid ((w.alloc (.cells #[.slice a C.length cap, .int .i64 loops] 24)).heap[w.heap.size]? = some (.cells #[.slice a C.length cap, .int .i64 loops] 24 (0, 0))) := alloc_at rfl
  go_enter Try.func59, Try.ntmps59
  go_wp2
  go_loopw [3, 4] (fun v6 v21 wr => ∃ i : Nat, i ≤ C.length ∧ v21 = .int .i64 (i : Nat) ∧ v6 = .int .i64 (wrM C i) ∧ Hid (Below w.heap.size w wr) ∧ Hid (wr.heap[w.heap.size]? = some (.cells #[.slice a C.length cap, .int .i64 loops] 24 (0, 0)))) (fun _ v21 _ => C.length - (intOf v21).toNat)
  case atStart => exact ⟨0, Nat.zero_le _, rfl, rfl, HB1.out, HT1.out⟩
  case round =>
    rename World => W1
    obtain ⟨i, hin, rfl, rfl, hb, ht⟩ := hrel
    have hsW := hb.out.size
    have k0 : W1.cell? ⟨w.heap.size, 0, none⟩ = some (.slice a C.length cap) := block_cell ht.out rfl
    have k1 : W1.cell? ⟨w.heap.size, 1, none⟩ = some (.int .i64 loops) := block_cell ht.out rfl
    have hlw : w.heap.size < W1.heap.size := (Array.getElem?_eq_some_iff.1 ht.out).1
    by_cases hil : i < C.length
    · obtain ⟨b, off, ea, hbw, hC⟩ := crs_some HC.out (by omega)
      obtain rfl := ea
      obtain ⟨e0, e1, e2, e3, e4⟩ := (hC.on hb.out hbw) i hil
      have hbW : b < W1.heap.size := by omega
      have hii : (i : Int) < (C.length : Int) := by omega
      have HWN : Hid (wrM C (i + 1) = wrM C i + sgn (C.getD i Cr.none).plus) := (rfl : wrM C (i + 1) = wrM C i + sgn (C.getD i Cr.none).plus)
      have hwb := wrM_bound C i
      obtain ⟨x, hx⟩ : ∃ x, C.getD i Cr.none = x := ⟨_, rfl⟩
      rw [hx] at HWN e0 e1 e2 e3 e4
      obtain ⟨z, hz⟩ : ∃ z, wrM C i = z := ⟨_, rfl⟩
      rw [hz] at HWN hwb ⊢
      obtain ⟨sg', hsg⟩ : ∃ sg', sgn x.plus = sg' := ⟨_, rfl⟩
      have HSG : Hid (sgn x.plus = sg') := hsg
      have hsb := sgn_bound x.plus
      rw [hsg] at HWN hsb
      have hsb2 : -1 ≤ sg' ∧ sg' ≤ 1 := by omega
      have ew : IntKind.i64.wrap (z + sg') = z + sg' := IntWalk.i64_in _ (by omega)
      clear hx hz hsg hsb hC
      go_wp2_with (go_at_call 110; refine (signOf_any x _).mono ?_; rw [HSG.out]; rintro e9 w5 ⟨rfl, hb5⟩; have HB5 : Hid (Below W1.heap.size W1 w5) := hb5; clear hb5)
      go_roundw
      case rel => exact ⟨i + 1, by omega, by go_num, by rw [HWN.out], hb.out.trans (HB5.out.mono hsW), (HB5.out.block _ hlw).trans ht.out⟩
      case measure => simp only [intOf]; omega
    · obtain rfl : i = C.length := by omega
      go_wp2
      go_ret
      exact ⟨rfl, hb.out⟩
end Go.Proofs.Ytmggackacaobjaa

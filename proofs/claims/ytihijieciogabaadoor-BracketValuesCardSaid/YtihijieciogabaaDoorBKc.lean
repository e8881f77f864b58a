/- The walks of ref.JonesOf, bracket.Bracket, bracket.Jones. -/
import Derived.Test.YtihijieciogabaaDoorBKo
import Derived.Test.YtihijieciogabaaDoorBKb
namespace Go.Proofs.YtihijieciogabaaDoor.Poly
open Go.RowKit Go.Maps

/-- The sign that curls leave. -/
def sgJ (z : Int) : Int := if z % 2 = 0 then 1 else -1
def jnF (C : List Cr) (lo : Nat) : Int → Int := fun y => sgJ (wrM C C.length) * brS C lo (y + 3 * wrM C C.length)
def jnL (z : Int) (l : List (Int × Int)) : List (Int × Int) := l.map fun t => (t.1 - 3 * z, sgJ z * t.2)
theorem sg_two (z : Int) : sgJ z = 1 ∨ sgJ z = -1 := by unfold sgJ; split <;> omega
theorem jnL_canon {C : List Cr} {lo : Nat} {l : List (Int × Int)} (h : Canon l (brS C lo)) : Canon (jnL (wrM C C.length) l) (jnF C lo) := by
  refine ⟨?_, fun x c => ?_⟩
  · unfold jnL
    rw [List.pairwise_map]
    exact h.1.imp fun hab => by omega
  · unfold jnL jnF
    rw [List.mem_map]
    have hs := sg_two (wrM C C.length)
    constructor
    · rintro ⟨t, ht, e⟩
      have h1 := (h.2 t.1 t.2).1 ht
      injection e with e1 e2
      rw [show x + 3 * wrM C C.length = t.1 by omega, h1.1, e2]
      refine ⟨rfl, ?_⟩
      rcases hs with q | q <;> rw [q] at e2 <;> omega
    · rintro ⟨h1, h2⟩
      refine ⟨(x + 3 * wrM C C.length, sgJ (wrM C C.length) * c), (h.2 _ _).2 ⟨?_, ?_⟩, ?_⟩
      · rcases hs with q | q <;> rw [q] at h1 ⊢ <;> omega
      · rcases hs with q | q <;> rw [q] <;> omega
      · show (x + 3 * wrM C C.length - 3 * wrM C C.length, sgJ (wrM C C.length) * (sgJ (wrM C C.length) * c)) = (x, c)
        rcases hs with q | q <;> rw [q] <;> congr 1 <;> omega
theorem br_bd {C : List Cr} {lo : Nat} (hm : mayD C (lo : Nat) = true) (h12 : C.length ≤ 12) (y : Int) : (brS C lo y).natAbs ≤ 4503599627370496 := by
  obtain ⟨s1, s2, s3, s4⟩ := sizeB_iff (may_size hm)
  rw [← br_same hm rfl h12]
  have h := allG_bd C (if C.length = 0 then lo - 1 else lo) C.length (fun _ => true) y
  rw [allG_all C _ _ fun _ _ => rfl] at h
  refine Nat.le_trans h ?_
  have : 2 ^ ((if C.length = 0 then lo - 1 else lo) + 3 * C.length) ≤ 2 ^ 52 := Nat.pow_le_pow_right (by omega) (by split <;> omega)
  exact Nat.le_trans this (by decide)
theorem br_in {C : List Cr} {lo : Nat} (hm : mayD C (lo : Nat) = true) (h12 : C.length ≤ 12) : InA (brS C lo) 92 := by
  obtain ⟨s1, s2, s3, s4⟩ := sizeB_iff (may_size hm)
  rw [← br_same hm rfl h12]
  have h := allG_in C (if C.length = 0 then lo - 1 else lo) C.length (fun _ => true)
  rw [allG_all C _ _ fun _ _ => rfl] at h
  intro y hy
  have := h y hy
  split at this <;> omega
/-- A polynomial at work, told. -/
theorem inForm_br (c n K : Nat) (f : Int → Int) (w : World) (hK : K ≤ 1000) (h : WkV w w.heap.size (.map (some c)) n K f) :
    Calls Tryd.prog 16 #[.map (some c)] w fun e w' => ∃ u l, e = .returned u ∧ PolyC w' w'.heap.size u l ∧ Canon l f ∧ Below w.heap.size w w' := by
  rcases h with ⟨e, -⟩ | ⟨b, D, e, hlt, ho, hk, hc⟩
  · cases e
  · cases e
    exact (inForm_keys c n D w ho (fun left acc hC => Nat.le_trans (coll_lenB hC K hk) (by omega))).mono fun e w' ⟨u, l, h1, h2, h3, h4⟩ => ⟨u, l, h1, PolyC.ofRow h2, canon_congr h3 hc, h4⟩

set_option maxHeartbeats 4000000 in
set_option maxRecDepth 100000 in
theorem bracket_yes (hFR : FaceRingsOk) (v : Value) (C : List Cr) (loops : Int) (lo : Nat) (w : World) (hl : loops = (lo : Nat)) (hn : noN C loops = 0) (h12 : C.length ≤ 12) (h : Crs w w.heap.size v C) (hR : RingAt w) :
    Calls Tryd.prog 5 #[.agg #[v, .int .i64 loops]] w fun e w' => ∃ v l, e = .returned (.tuple #[v, .int .i64 0]) ∧ PolyC w' w'.heap.size v l ∧ Canon l (brS C lo) ∧ Below w.heap.size w w' := by
  obtain ⟨a, cap, rfl, -, -⟩ := id h
  have hm := (noN_zero hn).1
  have HDR := hid_mkP (fun W hW => drawn_yes hFR a cap C loops W hn h12 hW)
  have HBO := hid_mkP (fun gF cF gT cT W hW hRW => bracketOf_any a cap C loops lo gF cF gT cT W hm hl h12 hW hRW)
  have HC := hid_mkP h
  have HR := hid_mkP hR
  have HB1 : Hid (Below w.heap.size w (w.alloc (.cells #[.slice a C.length cap, .int .i64 loops] 24))) := (Below.refl _ _).alloc (Nat.le_refl _) _
  clear hn hm h hR hl hFR
  unfold drV at HDR HBO
  go_enter Tryd.func5, Tryd.ntmps5
  go_wp2_with (first
    | (go_at_call 14; refine (HDR.out _ (HC.out.up HB1.out)).mono ?_; rintro e9 w2 ⟨⟨gF, cF, gT, cT, rfl⟩, hb2⟩
       have HB2 := hid_mkP (HB1.out.trans (hb2.mono HB1.out.size))
       clear hb2)
    | (go_at_call 15; refine (HBO.out _ _ _ _ _ (HC.out.up (HB2.out.alloc HB2.out.size _)) (HR.out.any (HB2.out.alloc HB2.out.size _))).mono ?_; rintro e9 w3 ⟨c3, rfl, hw3, hb3⟩
       have HB3 := hid_mkP ((HB2.out.alloc HB2.out.size _).trans (hb3.mono (HB2.out.alloc HB2.out.size _).size))
       have HW3 := hid_mkP hw3
       clear hb3 hw3)
    | (go_at_call 16; refine (inForm_br c3 185 92 (brS C lo) _ (by decide) HW3.out).mono ?_; rintro e9 w4 ⟨u4, l4, rfl, hP4, hC4, hb4⟩
       have HP4 := hid_mkP hP4
       have HC4 := hid_mkP hC4
       have HB4 := hid_mkP (HB3.out.trans (hb4.mono HB3.out.size))
       clear hb4 hP4 hC4))
  go_ret2
  exact ⟨_, l4, rfl, HP4.out, HC4.out, HB4.out⟩

set_option maxHeartbeats 4000000 in
set_option maxRecDepth 100000 in
theorem jones_yes (hFR : FaceRingsOk) (v : Value) (C : List Cr) (loops : Int) (lo : Nat) (w : World) (hl : loops = (lo : Nat)) (hn : noN C loops = 0) (h12 : C.length ≤ 12) (h : Crs w w.heap.size v C) (hR : RingAt w) :
    Calls Tryd.prog 7 #[.agg #[v, .int .i64 loops]] w fun e w' => ∃ v l, e = .returned (.tuple #[v, .int .i64 0]) ∧ PolyC w' w'.heap.size v l ∧ Canon l (jnF C lo) ∧ Below w.heap.size w w' := by
  obtain ⟨a, cap, rfl, -, -⟩ := id h
  have hm := (noN_zero hn).1
  have hm2 : mayD C (lo : Nat) = true := by rw [← hl]; exact hm
  have HDR := hid_mkP (fun W hW => drawn_yes hFR a cap C loops W hn h12 hW)
  have HBO := hid_mkP (fun gF cF gT cT W hW hRW => bracketOf_any a cap C loops lo gF cF gT cT W hm hl h12 hW hRW)
  have HWR := hid_mkP (fun W hW => writhe_yes hFR (.slice a C.length cap) C loops W hn hW)
  have HBD := hid_mkP (fun y => br_bd hm2 h12 y)
  have hwb := wrM_bound C C.length
  have HJ : Hid (jnF C lo = fun y => sgJ (wrM C C.length) * brS C lo (y + 3 * wrM C C.length)) := (rfl : jnF C lo = _)
  obtain ⟨z, hz⟩ : ∃ z, wrM C C.length = z := ⟨_, rfl⟩
  rw [hz] at HWR hwb HJ
  have HCU := hid_mkP (fun W => curls_any (-z) W (by omega))
  have en : IntKind.i64.wrap (-z) = -z := IntWalk.i64_in _ (by omega)
  have HC := hid_mkP h
  have HR := hid_mkP hR
  obtain ⟨W0, hW0⟩ : ∃ W0, w.alloc (.cells #[.slice a C.length cap, .int .i64 loops] 24) = W0 := ⟨_, rfl⟩
  have HB1 : Hid (Below w.heap.size w W0) := (by rw [← hW0]; exact (Below.refl _ _).alloc (Nat.le_refl _) _ : Below w.heap.size w W0)
  have HT0 : Hid (W0.heap[w.heap.size]? = some (.cells #[.slice a C.length cap, .int .i64 loops] 24 (0, 0))) := (by rw [← hW0]; exact heap_alloc_new _ _ : W0.heap[w.heap.size]? = some (.cells #[.slice a C.length cap, .int .i64 loops] 24 (0, 0)))
  have HW0 := hid_mkP hW0
  have HF : Hid (∀ W, Below W0.heap.size W0 W → W.cell? ⟨w.heap.size, 0, none⟩ = some (.slice a C.length cap) ∧ W.cell? ⟨w.heap.size, 1, none⟩ = some (.int .i64 loops) ∧ w.heap.size < W.heap.size) := fun W hW => by
    have g0 := (hW.block _ (Array.getElem?_eq_some_iff.1 HT0.out).1).trans HT0.out
    exact ⟨block_cell g0 rfl, block_cell g0 rfl, (Array.getElem?_eq_some_iff.1 g0).1⟩
  clear hn hm h hR hl hFR hz hW0 hm2
  unfold drV at HDR HBO
  go_enter Tryd.func7, Tryd.ntmps7
  go_upto_region 1 with (fail)
  rw [HW0.out]
  obtain ⟨p0, p1, p2⟩ := HF.out W0 (Below.refl _ _)
  go_upto_region 4 with (first
    | (go_at_call 14; refine (HDR.out _ (HC.out.up HB1.out)).mono ?_; rintro e9 w2 ⟨⟨gF, cF, gT, cT, rfl⟩, hb2⟩
       have HB02 := hid_mkP hb2
       clear hb2))
  clear p0 p1 p2
  obtain ⟨X2, hX2⟩ : ∃ X, w2.alloc (.cells #[.slice a C.length cap, .int .i64 loops, .slice (some ⟨gF, 0, none⟩) (2 * C.length + 1) cF, .slice (some ⟨gT, 0, none⟩) (2 * C.length + 1) cT] 43) = X := ⟨_, rfl⟩
  rw [hX2]
  have BX2 : Hid (Below W0.heap.size W0 X2) := (by rw [← hX2]; exact HB02.out.alloc HB02.out.size _ : Below W0.heap.size W0 X2)
  have KX2 : Hid (X2.heap[w2.heap.size]? = some (.cells #[.slice a C.length cap, .int .i64 loops, .slice (some ⟨gF, 0, none⟩) (2 * C.length + 1) cF, .slice (some ⟨gT, 0, none⟩) (2 * C.length + 1) cT] 43 (0, 0))) := (by rw [← hX2]; exact heap_alloc_new _ _ : X2.heap[w2.heap.size]? = some (.cells #[.slice a C.length cap, .int .i64 loops, .slice (some ⟨gF, 0, none⟩) (2 * C.length + 1) cF, .slice (some ⟨gT, 0, none⟩) (2 * C.length + 1) cT] 43 (0, 0)))
  clear hX2
  obtain ⟨p0, p1, p2⟩ := HF.out X2 BX2.out
  go_upto_region 7 with (first
    | (go_at_call 17; refine (HWR.out _ (HC.out.up (HB1.out.trans (BX2.out.mono HB1.out.size)))).mono ?_; rintro e9 w3 ⟨rfl, hb3⟩
       have HB23 := hid_mkP hb3
       clear hb3))
  clear p0 p1 p2
  have k3 := (HB23.out.block _ (Array.getElem?_eq_some_iff.1 KX2.out).1).trans KX2.out
  have hl3 := (Array.getElem?_eq_some_iff.1 k3).1
  have r0 : w3.cell? ⟨w2.heap.size, 0, none⟩ = some (.slice a C.length cap) := block_cell k3 rfl
  have r1 : w3.cell? ⟨w2.heap.size, 1, none⟩ = some (.int .i64 loops) := block_cell k3 rfl
  have r2 : w3.cell? ⟨w2.heap.size, 2, none⟩ = some (.slice (some ⟨gF, 0, none⟩) (2 * C.length + 1) cF) := block_cell k3 rfl
  have r3 : w3.cell? ⟨w2.heap.size, 3, none⟩ = some (.slice (some ⟨gT, 0, none⟩) (2 * C.length + 1) cT) := block_cell k3 rfl
  have HB3 : Hid (Below w.heap.size w w3) := HB1.out.trans ((BX2.out.trans (HB23.out.mono BX2.out.size)).mono HB1.out.size)
  clear k3
  go_wp2_with (first
    | (go_at_call 15; refine (HBO.out _ _ _ _ _ (HC.out.up HB3.out) (HR.out.any HB3.out)).mono ?_; rintro e9 w4 ⟨c4, rfl, hw4, hb4⟩
       have HB4 := hid_mkP (HB3.out.trans (hb4.mono HB3.out.size))
       have HW4 := hid_mkP hw4
       clear hb4 hw4)
    | (go_at_call 19; refine (HCU.out _).mono ?_; rintro e9 w5 ⟨c5, rfl, hw5, hb5⟩
       have HB5 := hid_mkP (HB4.out.trans (hb5.mono HB4.out.size))
       have HW5 := hid_mkP hw5
       have HP5 := hid_mkP ((HW4.out.on hb5).mono hb5.size (Nat.le_refl _) (Nat.le_refl _))
       clear hb5 hw5)
    | (go_at_call 18; refine (times_wkG (.map (some c4)) (.map (some c5)) 185 1 92 48 4503599627370496 1 [(3 * -z, if -z % 2 = 0 then 1 else -1)] (brS C lo) (coefL [(3 * -z, if -z % 2 = 0 then 1 else -1)]) _ (by decide) (by decide) (by decide) (by decide) HBD.out (fun y => by rw [coefL_one]; split <;> (try split) <;> decide) HP5.out HW5.out (by simp) (fun y => rfl)).mono ?_; rintro e9 w6 ⟨rfl, hw6, hb6⟩
       have HB6 := hid_mkP (HB5.out.trans (hb6.mono HB5.out.size))
       have HW6 := hid_mkP hw6
       clear hb6 hw6)
    | (go_at_call 16; refine (inForm_br _ _ _ _ _ (by decide) HW6.out).mono ?_; rintro e9 w7 ⟨u7, l7, rfl, hP7, hC7, hb7⟩
       have HP7 := hid_mkP hP7
       have HC7 := hid_mkP hC7
       have HB7 := hid_mkP (HB6.out.trans (hb7.mono HB6.out.size))
       clear hb7 hP7 hC7))
  go_ret2
  refine ⟨_, l7, rfl, HP7.out, canon_congr HC7.out fun y => ?_, HB7.out⟩
  rw [HJ.out]
  show (if -z % 2 = 0 then (1 : Int) else -1) * brS C lo (y - 3 * -z) + 0 = sgJ z * brS C lo (y + 3 * z)
  unfold sgJ
  rw [show y - 3 * -z = y + 3 * z by omega, Int.add_zero]
  congr 1
  by_cases e : z % 2 = 0
  · rw [if_pos e, if_pos (by omega)]
  · rw [if_neg e, if_neg (by omega)]

set_option maxHeartbeats 4000000 in
set_option maxRecDepth 100000 in
theorem bracket_no (hFR : FaceRingsOk) (v : Value) (C : List Cr) (loops r : Int) (w : World) (hr : r ≠ 0) (hF : fewM C loops = r) (h : Crs w w.heap.size v C) :
    Calls Tryd.prog 5 #[.agg #[v, .int .i64 loops]] w fun e w' => e = .returned (.tuple #[.slice none 0 0, .int .i64 r]) ∧ Below w.heap.size w w' := by
  obtain ⟨a, cap, rfl, -, -⟩ := id h
  have HDR : Hid (∀ W, Crs W W.heap.size (.slice a C.length cap) C → Calls Tryd.prog 14 #[.agg #[.slice a C.length cap, .int .i64 loops]] W fun e w' => (e = .returned (.tuple #[noDrawing, .int .i64 r])) ∧ Below W.heap.size W w') := fun W hW => drawn_bad hFR a cap C loops r W hr hF hW
  have HC := hid_mkP h
  have HB1 : Hid (Below w.heap.size w (w.alloc (.cells #[.slice a C.length cap, .int .i64 loops] 24))) := (Below.refl _ _).alloc (Nat.le_refl _) _
  have hr0 : (r == 0) = false := beq_eq_false_iff_ne.2 hr
  clear h hr hF hFR
  unfold noDrawing at HDR
  go_enter Tryd.func5, Tryd.ntmps5
  go_wp2_with (go_at_call 14; refine (HDR.out _ (HC.out.up HB1.out)).mono ?_; rintro e9 w2 ⟨rfl, hb2⟩; have HB2 := hid_mkP (HB1.out.trans (hb2.mono HB1.out.size)); clear hb2)
  go_ret2
  exact ⟨rfl, HB2.out.alloc HB2.out.size _⟩

set_option maxHeartbeats 4000000 in
set_option maxRecDepth 100000 in
theorem jones_no (hFR : FaceRingsOk) (v : Value) (C : List Cr) (loops r : Int) (w : World) (hr : r ≠ 0) (hF : fewM C loops = r) (h : Crs w w.heap.size v C) :
    Calls Tryd.prog 7 #[.agg #[v, .int .i64 loops]] w fun e w' => e = .returned (.tuple #[.slice none 0 0, .int .i64 r]) ∧ Below w.heap.size w w' := by
  obtain ⟨a, cap, rfl, -, -⟩ := id h
  have HDR : Hid (∀ W, Crs W W.heap.size (.slice a C.length cap) C → Calls Tryd.prog 14 #[.agg #[.slice a C.length cap, .int .i64 loops]] W fun e w' => (e = .returned (.tuple #[noDrawing, .int .i64 r])) ∧ Below W.heap.size W w') := fun W hW => drawn_bad hFR a cap C loops r W hr hF hW
  have HC := hid_mkP h
  have HB1 : Hid (Below w.heap.size w (w.alloc (.cells #[.slice a C.length cap, .int .i64 loops] 24))) := (Below.refl _ _).alloc (Nat.le_refl _) _
  have hr0 : (r == 0) = false := beq_eq_false_iff_ne.2 hr
  clear h hr hF hFR
  unfold noDrawing at HDR
  go_enter Tryd.func7, Tryd.ntmps7
  go_wp2_with (go_at_call 14; refine (HDR.out _ (HC.out.up HB1.out)).mono ?_; rintro e9 w2 ⟨rfl, hb2⟩; have HB2 := hid_mkP (HB1.out.trans (hb2.mono HB1.out.size)); clear hb2)
  go_ret2
  exact ⟨rfl, HB2.out.alloc HB2.out.size _⟩

set_option maxHeartbeats 4000000 in
set_option maxRecDepth 100000 in
theorem jonesOf_any (a : Option Addr) (cap : Nat) (C : List Cr) (lo : Nat) (w : World) (hm : mayD C (lo : Nat) = true) (h12 : C.length ≤ 12) (h : Crs w w.heap.size (.slice a C.length cap) C) :
    Calls Tryd.prog 11 #[.agg #[.slice a C.length cap, .int .i64 (lo : Nat)]] w fun e w' => ∃ v l, e = .returned v ∧ PolyC w' w'.heap.size v l ∧ Canon l (jnF C lo) ∧ Below w.heap.size w w' := by
  obtain ⟨i0, hi, hz0, hz1, hz2⟩ := info_parts infoTerm
  have HWO := hid_mkP (fun W hW => writheOf_any (.slice a C.length cap) C (lo : Nat) W hm hW)
  have HBO := hid_mkP (fun W hW => bracketOfR_any a cap C lo W hm h12 hW)
  have HBD := hid_mkP (fun y => br_bd hm h12 y)
  have HBI := hid_mkP (br_in hm h12)
  have HJC := hid_mkP (fun l hl => jnL_canon (C := C) (lo := lo) (l := l) hl)
  have hwb := wrM_bound C C.length
  obtain ⟨z, hz⟩ : ∃ z, wrM C C.length = z := ⟨_, rfl⟩
  rw [hz] at HWO hwb HJC
  have HC := hid_mkP h
  obtain ⟨W0, hW0⟩ : ∃ W0, w.alloc (.cells #[.slice a C.length cap, .int .i64 (lo : Nat)] 24) = W0 := ⟨_, rfl⟩
  have HB1 : Hid (Below w.heap.size w W0) := (by rw [← hW0]; exact (Below.refl _ _).alloc (Nat.le_refl _) _ : Below w.heap.size w W0)
  have HT0 : Hid (W0.heap[w.heap.size]? = some (.cells #[.slice a C.length cap, .int .i64 (lo : Nat)] 24 (0, 0))) := (by rw [← hW0]; exact heap_alloc_new _ _ : W0.heap[w.heap.size]? = some (.cells #[.slice a C.length cap, .int .i64 (lo : Nat)] 24 (0, 0)))
  have HW0 := hid_mkP hW0
  have HF : Hid (∀ W, Below W0.heap.size W0 W → W.cell? ⟨w.heap.size, 0, none⟩ = some (.slice a C.length cap) ∧ W.cell? ⟨w.heap.size, 1, none⟩ = some (.int .i64 (lo : Nat)) ∧ w.heap.size < W.heap.size) := fun W hW => by
    have g0 := (hW.block _ (Array.getElem?_eq_some_iff.1 HT0.out).1).trans HT0.out
    exact ⟨block_cell g0 rfl, block_cell g0 rfl, (Array.getElem?_eq_some_iff.1 g0).1⟩
  clear hm h hz hW0
  go_enter Tryd.func11, Tryd.ntmps11
  go_upto_region 1 with (fail)
  rw [HW0.out]
  obtain ⟨p0, p1, p2⟩ := HF.out W0 (Below.refl _ _)
  go_upto_region 2 with (go_at_call 24; refine (HWO.out _ (HC.out.up HB1.out)).mono ?_; rintro e9 w2 ⟨rfl, hb2⟩; have HB2 := hid_mkP hb2; clear hb2)
  clear p0 p1 p2
  obtain ⟨p0, p1, p2⟩ := HF.out w2 HB2.out
  go_upto_region 3 with (go_at_call 10; refine (HBO.out _ (HC.out.up (HB1.out.trans (HB2.out.mono HB1.out.size)))).mono ?_; rintro e9 w3 ⟨v3, l, rfl, hP3, hC3, hb3⟩; have HB23 := hid_mkP hb3; have HP3 := hid_mkP hP3; have HC3 := hid_mkP hC3; clear hb3 hP3 hC3)
  clear p0 p1 p2
  obtain ⟨ab, capb, eb, hsl⟩ := HP3.out.1.slice
  subst eb
  have HSL := hid_mkP hsl
  have hll := canon_len1 HC3.out 92 HBI.out
  have HTM := hid_mkP (canon_terms HC3.out HBI.out HBD.out)
  have HB3 : Hid (Below w.heap.size w w3) := HB1.out.trans ((HB2.out.trans (HB23.out.mono HB2.out.size)).mono HB1.out.size)
  have HSZ := hid_mkP HB3.out.size
  clear hsl
  have ew3 : IntKind.i64.wrap (3 * z) = 3 * z := IntWalk.i64_in _ (by omega)
  go_wp2
  go_loopw [5, 6, 7] (fun v5 v6 _ wr => ∃ k : Nat, k ≤ l.length ∧ v6 = .int .i64 (k : Nat) ∧ wr.ownsRow w3.heap.size 56 2 v5 k (flat ((jnL z l).take k)) ∧ Hid (Below w3.heap.size w3 wr)) (fun _ v6 _ _ => l.length - (intOf v6).toNat)
  case atStart => exact ⟨0, Nat.zero_le _, rfl, World.ownsRow_nil _ _ _ _, Below.refl _ _⟩
  case round =>
    rename World => W4
    obtain ⟨k, hk, rfl, hown, hb⟩ := hrel
    by_cases hlt : k < l.length
    · obtain ⟨bb, off, eab, hbb, hT⟩ := HSL.out (by omega)
      subst eab
      have hii : (k : Int) < (l.length : Int) := by omega
      have c0 := bcell hb.out hbb (hT k hlt).1
      have c1 := bcell hb.out hbb (hT k hlt).2
      have htm := HTM.out _ (getD_memK l k (0, 0) hlt)
      have hsz := hb.out.size
      have hbr : bb < W4.heap.size := Nat.lt_of_lt_of_le hbb hsz
      have HS : Hid (flat ((jnL z l).take (k + 1)) = flat ((jnL z l).take k) ++ [.int .i64 ((l.getD k (0, 0)).1 - 3 * z), .int .i64 (sgJ z * (l.getD k (0, 0)).2)]) := (by
        have hlj : k < (jnL z l).length := by simp [jnL]; exact hlt
        rw [List.take_succ_eq_append_getElem hlj, flat_append]
        have e : (jnL z l)[k] = ((l.getD k (0, 0)).1 - 3 * z, sgJ z * (l.getD k (0, 0)).2) := by
          simp [jnL, List.getD, hlt]
        rw [e]; rfl : flat ((jnL z l).take (k + 1)) = _)
      obtain ⟨e, he⟩ : ∃ x, (l.getD k (0, 0)).1 = x := ⟨_, rfl⟩
      obtain ⟨c, hc⟩ : ∃ x, (l.getD k (0, 0)).2 = x := ⟨_, rfl⟩
      rw [he] at c0 htm HS
      rw [hc] at c1 htm HS
      have ew1 : IntKind.i64.wrap (e - 3 * z) = e - 3 * z := IntWalk.i64_in _ (by omega)
      have ew2 : IntKind.i64.wrap (-c) = -c := IntWalk.i64_in _ (by omega)
      have hlm : k + 1 ≤ maxLen := by unfold maxLen; omega
      clear he hc hT
      by_cases hz2' : z.tmod 2 = 0
      · have hd : (z.tmod 2 != 0) = false := by rw [hz2']; rfl
        have HV : Hid (sgJ z * c = c) := (by unfold sgJ; rw [if_pos (by have := Int.tmod_def z 2; omega)]; omega : sgJ z * c = c)
        clear hz2'
        go_wp2_with (first
          | (at_builtin; refine wpList_append_own _ rfl _ _ 25 rfl w3.heap.size 56 i0 (.agg #[.int .i64 0, .int .i64 0]) 2 16 Tryd.underlying25 hi hz0 hz1 hz2 rfl (by decide) _ _ _ rfl (hown.alloc _) ⟨W4.heap.size, 0, none⟩ 1 1 [.int .i64 (e - 3 * z), .int .i64 c] rfl rfl (new_cells _ _ _) (pair_one _ _) hlm (by omega) (by simp; omega) ?_; intro v' w6 hown' hg6 _; go_frame)
          | go_in)
        go_roundw
        case rel =>
          refine ⟨k + 1, by omega, by go_num, ?_, (hb.out.alloc hsz _).grown hg6 (by simp; omega) (fun q hq => (hown.lt q hq).1)⟩
          rw [HS.out, HV.out]
          exact hown'
        case measure => simp only [intOf]; omega
      · have hd : (z.tmod 2 != 0) = true := by rw [bne_iff_ne]; exact hz2'
        have HV : Hid (sgJ z * c = -c) := (by unfold sgJ; rw [if_neg (fun h => hz2' (Int.tmod_eq_zero_of_dvd (Int.dvd_of_emod_eq_zero h)))]; omega : sgJ z * c = -c)
        clear hz2'
        go_wp2_with (first
          | (at_builtin; refine wpList_append_own _ rfl _ _ 25 rfl w3.heap.size 56 i0 (.agg #[.int .i64 0, .int .i64 0]) 2 16 Tryd.underlying25 hi hz0 hz1 hz2 rfl (by decide) _ _ _ rfl (hown.alloc _) ⟨W4.heap.size, 0, none⟩ 1 1 [.int .i64 (e - 3 * z), .int .i64 (-c)] rfl rfl (new_cells _ _ _) (pair_one _ _) hlm (by omega) (by simp; omega) ?_; intro v' w6 hown' hg6 _; go_frame)
          | go_in)
        go_roundw
        case rel =>
          refine ⟨k + 1, by omega, by go_num, ?_, (hb.out.alloc hsz _).grown hg6 (by simp; omega) (fun q hq => (hown.lt q hq).1)⟩
          rw [HS.out, HV.out]
          exact hown'
        case measure => simp only [intOf]; omega
    · obtain rfl : k = l.length := by omega
      go_wp2
      go_ret
      have e : (jnL z l).take l.length = jnL z l := List.take_of_length_le (by simp [jnL])
      rw [e] at hown
      have hlen : l.length = (jnL z l).length := by simp [jnL]
      rw [hlen] at hown
      exact ⟨_, jnL z l, rfl, PolyC.ofRow hown, HJC.out l HC3.out, HB3.out.trans (hb.out.mono HSZ.out)⟩
end Go.Proofs.YtihijieciogabaaDoor.Poly

/- Several texts of the proof, one behind the other. -/
import Derived.Test.YtbikalghmlihlaaW8P
import Derived.Test.YtbikalghmlihlaaW5P
/- The walk of ref.DowkerOf. -/
namespace Go.Proofs.Ytbikalghmlihlaa
open Go.RowKit

theorem opp_len (x : Nat → Nat) (o : Nat → Bool) (i m : Nat) : (oppTo x o i m).length ≤ m := by
  induction m with
  | zero => exact Nat.le_refl _
  | succ m ih =>
    simp only [oppTo, List.length_append]
    split <;> simp <;> omega
theorem ref_len (x : Nat → Nat) (o : Nat → Bool) (n i : Nat) : (refTo x o n i).length ≤ i * n := by
  induction i with
  | zero => simp [refTo]
  | succ i ih =>
    have := opp_len x o i n
    simp only [refTo, List.length_append]
    rw [Nat.add_mul]
    omega
theorem cp_congr {x y : Nat → Nat} (c r m : Nat) (h : ∀ p, p < m → x p = y p) : cp x c r m = cp y c r m := by
  induction m with
  | zero => rfl
  | succ m ih =>
    simp only [cp]
    rw [ih fun p hp => h p (by omega), h m (by omega)]
/-- The visits of a knot: as many as there are sides to come to; each crossing has two. -/
theorem knot_visits {C : List Cr} {loops : Int} (hm : mayD C loops = true) {wk : List Nat} (h : walksM C = [wk]) : (visL C wk).length = 2 * C.length ∧ 0 < C.length ∧ (∀ p, p < 2 * C.length → vX (visL C wk) p < C.length) ∧ ∀ c, c < C.length → cp (vX (visL C wk)) c 0 (2 * C.length) + cp (vX (visL C wk)) c 1 (2 * C.length) = 2 := by
  obtain ⟨h1, h2, h3⟩ := knot_walk hm h
  have hX : ∀ p, p < 2 * C.length → vX (visL C wk) p = toC C (wk.getD p 0) := by
    intro p hp
    unfold vX visL
    rw [List.getD_eq_getElem?_getD, List.getElem?_map, List.getD_eq_getElem?_getD, List.getElem?_eq_getElem (by omega)]
    rfl
  have hp0 : 0 < wk.length := by
    have := (walksM_facts hm).2 0 (by rw [h]; simp)
    rw [h] at this
    simpa using this.1
  refine ⟨by simp [visL, h1], by omega, fun p hp => ?_, fun c hc => ?_⟩
  · rw [hX p hp]
    exact (to_may hm _ (h2 p (by omega)).1 (h2 p (by omega)).2).2.1
  · rw [cp_congr c 0 _ hX, cp_congr c 1 _ hX]
    exact h3 c hc

/-- What ref.DowkerOf answers. -/
def DowPost (w : World) (C : List Cr) (loops : Int) (e : Ending) (w' : World) : Prop := Below w.heap.size w w' ∧
  ((((walksM C).length ≠ 1 ∨ 0 < loops) ∧ e = .returned (.tuple #[.slice none 0 0, .int .i64 9])) ∨
   (∃ wk, walksM C = [wk] ∧ loops ≤ 0 ∧ ((¬ plane (vX (visL C wk)) C.length ∧ e = .returned (.tuple #[.slice none 0 0, .int .i64 5])) ∨
     (plane (vX (visL C wk)) C.length ∧ ∃ r, e = .returned (.tuple #[r, .int .i64 0]) ∧ w'.ownsRow w.heap.size 3 1 r (refTo (vX (visL C wk)) (vO (visL C wk)) C.length C.length).length (intsV (refTo (vX (visL C wk)) (vO (visL C wk)) C.length C.length))))))

end Go.Proofs.Ytbikalghmlihlaa
/- The walk of gauss.Dowker. -/
namespace Go.Proofs.Ytbikalghmlihlaa
open Go.RowKit

set_option maxHeartbeats 2000000 in
set_option maxRecDepth 100000 in
theorem dowker_no (v : Value) (C : List Cr) (loops : Int) (w : World) (hm : mayD C loops = false) (h : Crs w w.heap.size v C) :
    Calls Try.prog 20 #[.agg #[v, .int .i64 loops]] w fun e w' => e = .returned (.tuple #[.slice none 0 0, .int .i64 7]) ∧ Below w.heap.size w w' := by
  have HC : Hid (Crs w w.heap.size v C) := h
  obtain ⟨a, cap, rfl, hn, -⟩ := h
  have HB1 : Hid (Below w.heap.size w (w.alloc (.cells #[.slice a C.length cap, .int .i64 loops] 24))) := (Below.refl _ _).alloc (Nat.le_refl _) _
  go_enter Try.func20, Try.ntmps20
  go_wp2_with (go_at_call 65; refine (of_any _ C loops _ (HC.out.up HB1.out)).mono ?_; rw [hm]; rintro e9 w2 ⟨d, rfl, hb2, hd⟩; rw [hd.no hm]; refine Hid.out ?_)
  refine Lib.hid ?_
  unfold noDrawing
  have HB2 : Hid (Below w.heap.size w w2) := HB1.out.trans (hb2.mono HB1.out.size)
  clear hb2 hd
  go_wp2
  go_ret2
  exact ⟨rfl, HB2.out.alloc HB2.out.size _⟩

set_option maxHeartbeats 4000000 in
set_option maxRecDepth 100000 in
theorem dowker_yes (v : Value) (C : List Cr) (loops : Int) (w : World) (hm : mayD C loops = true) (h : Crs w w.heap.size v C) :
    Calls Try.prog 20 #[.agg #[v, .int .i64 loops]] w fun e w' => Below w.heap.size w w' ∧
      ((((walksM C).length ≠ 1 ∨ 0 < loops) ∧ e = .returned (.tuple #[.slice none 0 0, .int .i64 9])) ∨
       (∃ wk, walksM C = [wk] ∧ loops ≤ 0 ∧ ((¬ plane (vX (visL C wk)) C.length ∧ e = .returned (.tuple #[.slice none 0 0, .int .i64 5])) ∨
         (plane (vX (visL C wk)) C.length ∧ ∃ r, e = .returned (.tuple #[r, .int .i64 0]) ∧ w'.ownsRow w.heap.size 3 1 r C.length (intsV (dowTo (vX (visL C wk)) (vO (visL C wk)) C.length C.length)))))) := by
  obtain ⟨s1, -, -, -⟩ := sizeB_iff (may_size hm)
  have HC : Hid (Crs w w.heap.size v C) := h
  have HM : Hid (mayD C loops = true) := hm
  obtain ⟨a, cap, rfl, hn, -⟩ := h
  have HB1 : Hid (Below w.heap.size w (w.alloc (.cells #[.slice a C.length cap, .int .i64 loops] 24))) := (Below.refl _ _).alloc (Nat.le_refl _) _
  go_enter Try.func20, Try.ntmps20
  go_wp2_with (go_at_call 65; refine (of_any _ C loops _ (HC.out.up HB1.out)).mono ?_; rw [hm]; rintro e9 w2 ⟨d, rfl, hb2, hd⟩; obtain ⟨gF, cF, gT, cT, rfl, hdr⟩ := hd.dr HM.out hb2 (HC.out.up HB1.out); refine Hid.out ?_)
  refine Lib.hid ?_
  have HDR : Hid (Dr w2 a cap C gF gT) := hdr
  unfold drV
  have HB2 : Hid (Below w.heap.size w w2) := HB1.out.trans (hb2.mono HB1.out.size)
  clear hb2 hd hdr hm
  obtain ⟨X, hX⟩ : ∃ X, X = w2.alloc (.cells #[.slice a C.length cap, .int .i64 loops, .slice (some ⟨gF, 0, none⟩) (2 * C.length + 1) cF, .slice (some ⟨gT, 0, none⟩) (2 * C.length + 1) cT] 103) := ⟨_, rfl⟩
  have HWX : Hid (X = w2.alloc (.cells #[.slice a C.length cap, .int .i64 loops, .slice (some ⟨gF, 0, none⟩) (2 * C.length + 1) cF, .slice (some ⟨gT, 0, none⟩) (2 * C.length + 1) cT] 103)) := hX
  have HT : Hid (X.heap[w2.heap.size]? = some (.cells #[.slice a C.length cap, .int .i64 loops, .slice (some ⟨gF, 0, none⟩) (2 * C.length + 1) cF, .slice (some ⟨gT, 0, none⟩) (2 * C.length + 1) cT] 103 (0, 0))) := (by rw [hX]; exact alloc_at rfl : X.heap[w2.heap.size]? = some (.cells #[.slice a C.length cap, .int .i64 loops, .slice (some ⟨gF, 0, none⟩) (2 * C.length + 1) cF, .slice (some ⟨gT, 0, none⟩) (2 * C.length + 1) cT] 103 (0, 0)))
  have hsX : X.heap.size = w2.heap.size + 1 := by rw [hX]; simp
  have HBX : Hid (Below w.heap.size w X) := (by rw [hX]; exact HB2.out.alloc HB2.out.size _ : Below w.heap.size w X)
  have HDX : Hid (Dr X a cap C gF gT) := (by rw [hX]; exact HDR.out.on ((Below.refl _ _).alloc (Nat.le_refl _) _) : Dr X a cap C gF gT)
  clear hX
  have hszw := HBX.out.size
  go_wp2_with (go_at_call 66; rw [← HWX.out]; refine (visits_any a cap C loops gF cF gT cT _ HM.out HDX.out).mono ?_; rintro e9 w3 ⟨r, rfl, hr, hb3⟩; refine Hid.out ?_)
  refine Lib.hid ?_
  have HR3 : Hid (VsAt w3 r (visM C)) := hr.vs
  have HB3 : Hid (Below w.heap.size w w3) := HBX.out.trans (hb3.mono hszw)
  have HT3 : Hid (w3.heap[w2.heap.size]? = some (.cells #[.slice a C.length cap, .int .i64 loops, .slice (some ⟨gF, 0, none⟩) (2 * C.length + 1) cF, .slice (some ⟨gT, 0, none⟩) (2 * C.length + 1) cT] 103 (0, 0))) := (hb3.block _ (by omega)).trans HT.out
  have p1 : w3.cell? ⟨w2.heap.size, 1, none⟩ = some (.int .i64 loops) := block_cell HT3.out rfl
  have hlt3 : w2.heap.size < w3.heap.size := (Array.getElem?_eq_some_iff.1 HT3.out).1
  clear hr hb3 HWX
  obtain ⟨ys, hyl, ⟨a1, c1, rfl, g1⟩, hvs⟩ := HR3.out
  have hvl : (visM C).length = (walksM C).length := by simp [visM]
  rw [hvl] at hyl
  rw [hyl] at g1 ⊢
  by_cases hone : (walksM C).length = 1
  · obtain ⟨wk, hwk⟩ : ∃ wk, walksM C = [wk] := by
      match h : walksM C, hone with
      | [wk], _ => exact ⟨wk, rfl⟩
    have HWK : Hid (walksM C = [wk]) := hwk
    have HKV : Hid ((visL C wk).length = 2 * C.length ∧ 0 < C.length ∧ (∀ p, p < 2 * C.length → vX (visL C wk) p < C.length) ∧ ∀ c, c < C.length → cp (vX (visL C wk)) c 0 (2 * C.length) + cp (vX (visL C wk)) c 1 (2 * C.length) = 2) := knot_visits HM.out hwk
    have hvm : visM C = [visL C wk] := by unfold visM; rw [hwk]; rfl
    have HVS : Hid (VS w3 (ys.getD 0 (.bool false)) (visL C wk)) := (by have := hvs 0 (by rw [hvm]; simp); rw [hvm] at this; exact this : VS w3 (ys.getD 0 (.bool false)) (visL C wk))
    have HG1 : Hid (∃ b off, a1 = some ⟨b, off, none⟩ ∧ b < w3.heap.size ∧ w3.cell? ⟨b, off + 0, none⟩ = some (ys.getD 0 (.bool false))) := (by
      obtain ⟨b, off, e, h1, h2⟩ := g1 (by omega)
      exact ⟨b, off, e, h1, h2 0 (by omega)⟩ : ∃ b off, a1 = some ⟨b, off, none⟩ ∧ b < w3.heap.size ∧ w3.cell? ⟨b, off + 0, none⟩ = some (ys.getD 0 (.bool false)))
    rw [hone]
    clear hvm hvs g1 hyl hvl hone hwk HR3
    by_cases hlp : 0 < loops
    · have hd : decide (0 < loops) = true := by simpa using hlp
      go_wp2
      go_ret2
      exact ⟨HB3.out, Or.inl ⟨Or.inr hlp, rfl⟩⟩
    · have hd : decide (0 < loops) = false := by simpa using hlp
      obtain ⟨b1, o1, rfl, hb1, hc1⟩ := HG1.out
      have hc1' : w3.cell? ⟨b1, o1, none⟩ = some (ys.getD 0 (.bool false)) := hc1
      obtain ⟨av, cv, hev, -⟩ := HVS.out
      rw [hev] at hc1' HVS
      clear hc1 HG1 hev
      have hpos := HKV.out.2.1
      go_wp2_with (go_at_call 73; refine (even_any _ (visL C wk) C.length _ (by omega) hpos HKV.out.1 HKV.out.2.2.1 HVS.out).mono ?_; rintro e9 w4 ⟨hb4, ⟨l, rfl, hall, hl⟩ | ⟨rfl, hex⟩⟩ <;> refine Hid.out ?_)
      · refine Lib.hid ?_
        have HB4 : Hid (Below w.heap.size w w4) := HB3.out.trans (hb4.mono HB3.out.size)
        have HPL : Hid (plane (vX (visL C wk)) C.length) := (plane_iff HKV.out.2.2.1 HKV.out.2.2.2).1 hall
        have HL : Hid (w4.ownsRow w.heap.size 3 1 l C.length (intsV (dowTo (vX (visL C wk)) (vO (visL C wk)) C.length C.length))) := own_low hl HB3.out.size
        clear hb4 hall hl p1 hc1'
        go_wp2
        go_ret2
        exact ⟨HB4.out, Or.inr ⟨wk, HWK.out, by omega, Or.inr ⟨HPL.out, _, rfl, HL.out⟩⟩⟩
      · refine Lib.hid ?_
        have HB4 : Hid (Below w.heap.size w w4) := HB3.out.trans (hb4.mono HB3.out.size)
        have HPL : Hid (¬ plane (vX (visL C wk)) C.length) := (fun hp => by
          obtain ⟨i, hi, h0⟩ := hex
          exact (plane_iff HKV.out.2.2.1 HKV.out.2.2.2).2 hp i hi h0 : ¬ plane (vX (visL C wk)) C.length)
        clear hb4 hex p1 hc1'
        go_wp2
        go_ret2
        exact ⟨HB4.out, Or.inr ⟨wk, HWK.out, by omega, Or.inl ⟨HPL.out, rfl⟩⟩⟩
  · have hd : (((walksM C).length : Int) != 1) = true := by rw [bne_iff_ne]; omega
    have HONE : Hid (¬ (walksM C).length = 1) := hone
    generalize (walksM C).length = m at hd hone
    go_wp2
    go_ret2
    exact ⟨HB3.out, Or.inl ⟨Or.inl HONE.out, rfl⟩⟩

set_option maxHeartbeats 2000000 in
set_option maxRecDepth 100000 in
theorem sameInts_eqI (v1 v2 : Value) (l : List Int) (w : World) (hl : l.length ≤ 1000) (h1 : Slots w w.heap.size v1 (intsV l)) (h2 : Slots w w.heap.size v2 (intsV l)) :
    Calls Try.prog 40 #[v1, v2] w fun e w' => e = .returned (.bool true) ∧ Below w.heap.size w w' := by
  obtain ⟨a1, c1, rfl, g1⟩ := h1
  obtain ⟨a2, c2, rfl, g2⟩ := h2
  rw [intsV_len] at g1 g2 ⊢
  have HG1 : Hid (0 < l.length → ∃ b off, a1 = some ⟨b, off, none⟩ ∧ b < w.heap.size ∧ ∀ i, i < l.length → w.cell? ⟨b, off + i, none⟩ = some ((intsV l).getD i (.bool false))) := g1
  have HG2 : Hid (0 < l.length → ∃ b off, a2 = some ⟨b, off, none⟩ ∧ b < w.heap.size ∧ ∀ i, i < l.length → w.cell? ⟨b, off + i, none⟩ = some ((intsV l).getD i (.bool false))) := g2
  have HV : Hid (∀ i, i < l.length → (intsV l).getD i (.bool false) = .int .i64 (l.getD i 0)) := fun i hi => by rw [List.getD_eq_getElem?_getD, intsV_get l i hi]; rfl
  clear g1 g2
  have hne : ((l.length : Int) != (l.length : Int)) = false := by simp
  go_enter Try.func40, Try.ntmps40
  go_wp2
  go_loopw [5] (fun v5 wr => ∃ k : Nat, k ≤ l.length ∧ v5 = .int .i64 k ∧ Below w.heap.size w wr) (fun v5 _ => l.length - (intOf v5).toNat)
  case atStart => exact ⟨0, Nat.zero_le _, rfl, Below.refl _ _⟩
  case round =>
    obtain ⟨k, hk, rfl, hb⟩ := hrel
    by_cases hlt : k < l.length
    · obtain ⟨b1, o1, rfl, hb1, q1⟩ := HG1.out (by omega)
      obtain ⟨b2, o2, rfl, hb2, q2⟩ := HG2.out (by omega)
      have p1 := bcell hb hb1 (q1 k hlt)
      have p2 := bcell hb hb2 (q2 k hlt)
      rw [HV.out k hlt] at p1 p2
      generalize l.getD k 0 = z at p1 p2
      have hd : (z != z) = false := by simp
      clear q1 q2
      go_wp2
      go_quiet (fail)
      go_wp2
      go_roundw
      case rel => exact ⟨k + 1, by omega, by go_num, below_drewN hb _⟩
      case measure => simp [intOf]; omega
    · obtain rfl : k = l.length := by omega
      go_wp2
      go_ret
      exact ⟨rfl, hb⟩
end Go.Proofs.Ytbikalghmlihlaa

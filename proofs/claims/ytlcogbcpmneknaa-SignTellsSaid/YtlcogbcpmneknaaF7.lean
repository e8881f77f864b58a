/- The walk of Drawing.spread. -/
import Derived.Test.YtlcogbcpmneknaaF2P
import Derived.Test.YtlcogbcpmneknaaW6P
import Derived.Deep.RegionHeldLaw
namespace Go.Proofs.Ytlcogbcpmneknaa
open Go.RowKit

def isM (v : Value) : Bool := match v with | .int .i64 z => decide (z = -1) | _ => false
/-- How many of a row have no number yet. -/
def unC (w : World) (g n : Nat) : Nat := match w.heap[g]? with | some (.cells cur _ _) => (cur.toList.take n).countP isM | _ => 0
def unI (P : List Int) : Nat := P.countP fun z => decide (z = -1)
theorem unC_row {w : World} {B e g n c : Nat} {P : List Int} (h : w.ownsRow B e 1 (.slice (some ⟨g, 0, none⟩) n c) n (intsV P)) : unC w g n = unI P := by
  rcases h.2 with ⟨h, _⟩ | ⟨g', c', cur, e1, _, hg, _, _, _, htk⟩
  · cases h
  · injection e1 with e1
    injection e1 with e1
    injection e1 with e1
    subst e1
    unfold unC unI
    rw [hg]
    simp only [Nat.mul_one] at htk
    simp only [htk]
    unfold intsV
    rw [List.countP_map]
    rfl
theorem unI_le (P : List Int) : unI P ≤ P.length := List.countP_le_length
theorem field_spotD (a b : Int) (w : World) : (Instr.field 90 (.agg #[.int .i64 a, .int .i64 b]) 0).run Try.prog w = .ok (.int .i64 a) w := by
  simp [Instr.field, run_underlying Try.underlying90, go_sem, asAgg]
theorem unI_set {P : List Int} {y : Nat} {z : Int} (hy : y < P.length) (h : P.getD y 0 = -1) (hz : z ≠ -1) : unI (P.set y z) + 1 = unI P := by
  induction P generalizing y with
  | nil => simp at hy
  | cons b l ih =>
    cases y with
    | zero =>
      have : b = -1 := by simpa using h
      subst this
      simp [unI, hz]
    | succ y =>
      have := ih (y := y) (by simpa using hy) (by simpa using h)
      simp only [unI, List.set_cons_succ, List.countP_cons] at this ⊢
      omega

set_option maxHeartbeats 16000000 in
set_option maxRecDepth 100000 in
theorem spread_any (a : Option Addr) (cap : Nat) (C : List Cr) (loops : Int) (gF cF gT cT gP cP B : Nat) (P0 : List Int) (f num : Nat) (w00 w : World) (hm : mayD C loops = true) (hD : Dr w00 a cap C gF gT) (hb0 : Below w00.heap.size w00 w) (hB : w00.heap.size ≤ B)
    (hP : w.ownsRow B 3 1 (.slice (some ⟨gP, 0, none⟩) C.length cP) C.length (intsV P0)) (hf : f < C.length) (h0 : P0.getD f 0 = -1) (hn : ∀ v, v < C.length → P0.getD v 0 ≠ (num : Int)) :
    Calls Try.prog 50 #[drV a cap C loops gF cF gT cT, .slice (some ⟨gP, 0, none⟩) C.length cP, .int .i64 f, .int .i64 num] w fun e w' => e = .returned (.tuple #[]) ∧ ∃ P k, Spr C P0 P f num [] k 4 ∧ w'.ownsRow B 3 1 (.slice (some ⟨gP, 0, none⟩) C.length cP) C.length (intsV P) ∧ w.grownBy w' (some gP) := by
  obtain ⟨s1, -, -, -⟩ := sizeB_iff (may_size hm)
  obtain ⟨i0, hi, hz0, hz1, hz2⟩ := info_parts infoInt
  have HM : Hid (mayD C loops = true) := hm
  have HDD : Hid (∀ w', Below w00.heap.size w00 w' → Dr w' a cap C gF gT) := fun w' hb => hD.on hb
  obtain ⟨b, ob, rfl, hbw, hCd⟩ := hD.cross (by omega)
  have HCD : Hid (∀ w', Below w00.heap.size w00 w' → CrossAt w' b ob C ∧ b < w'.heap.size) := fun w' hb => ⟨hCd.on hb hbw, Nat.lt_of_lt_of_le hbw hb.size⟩
  have hlP : P0.length = C.length := by have := hP.1; simpa [intsV_len] using this
  have hgP := hP.lt gP rfl
  have hst := hP.stored f (.int .i64 ((num : Nat) : Int))
  rw [intsV_set] at hst
  have e0 : w.cell? ⟨gP, f, none⟩ = some (.int .i64 (P0.getD f 0)) := by
    rw [hP.cellAt f (by omega)]; exact intsV_get P0 f (by omega)
  have z0 : w.frozen? ⟨gP, f, none⟩ = false := hP.frozenAt f
  have hgw := hgP.2
  have hsw : (w.setCell ⟨gP, f, none⟩ (.int .i64 ((num : Nat) : Int))).heap.size = w.heap.size := by simp
  obtain ⟨w1, hw1⟩ : ∃ w1, w1 = (w.setCell ⟨gP, f, none⟩ (.int .i64 ((num : Nat) : Int))).alloc (.cells #[.slice (some ⟨b, ob, none⟩) C.length cap, .int .i64 loops, .slice (some ⟨gF, 0, none⟩) (2 * C.length + 1) cF, .slice (some ⟨gT, 0, none⟩) (2 * C.length + 1) cT] 39) := ⟨_, rfl⟩
  have HW1 : Hid (w1 = (w.setCell ⟨gP, f, none⟩ (.int .i64 ((num : Nat) : Int))).alloc (.cells #[.slice (some ⟨b, ob, none⟩) C.length cap, .int .i64 loops, .slice (some ⟨gF, 0, none⟩) (2 * C.length + 1) cF, .slice (some ⟨gT, 0, none⟩) (2 * C.length + 1) cT] 39)) := hw1
  have hs1 : w1.heap.size = w.heap.size + 1 := by rw [hw1]; simp
  have HP1 : Hid (w1.ownsRow B 3 1 (.slice (some ⟨gP, 0, none⟩) C.length cP) C.length (intsV (P0.set f (num : Int)))) := (by rw [hw1]; exact hst.1.alloc _ : w1.ownsRow B 3 1 (.slice (some ⟨gP, 0, none⟩) C.length cP) C.length (intsV (P0.set f (num : Int))))
  have HG1 : Hid (w.grownBy w1 (some gP)) := (by rw [hw1]; exact grown_trans hst.2 (World.grownBy_alloc _ _ _) : w.grownBy w1 (some gP))
  have HT1 : Hid (w1.heap[w.heap.size]? = some (.cells #[.slice (some ⟨b, ob, none⟩) C.length cap, .int .i64 loops, .slice (some ⟨gF, 0, none⟩) (2 * C.length + 1) cF, .slice (some ⟨gT, 0, none⟩) (2 * C.length + 1) cT] 39 (0, 0))) := (by rw [hw1]; exact alloc_at hsw.symm : w1.heap[w.heap.size]? = some (.cells #[.slice (some ⟨b, ob, none⟩) C.length cap, .int .i64 loops, .slice (some ⟨gF, 0, none⟩) (2 * C.length + 1) cF, .slice (some ⟨gT, 0, none⟩) (2 * C.length + 1) cT] 39 (0, 0)))
  have HS1 : Hid (Spr C P0 (P0.set f (num : Int)) f num [f] 0 4) := Spr.start hlP hf h0 hn
  have HB0 : Hid (Below w00.heap.size w00 w) := hb0
  have HP : Hid (w.ownsRow B 3 1 (.slice (some ⟨gP, 0, none⟩) C.length cP) C.length (intsV P0)) := hP
  obtain ⟨w2, hw2⟩ : ∃ w2, w2 = w1.alloc (.cells #[.int .i64 (f : Nat)] 3) := ⟨_, rfl⟩
  have HW2 : Hid (w2 = w1.alloc (.cells #[.int .i64 (f : Nat)] 3)) := hw2
  have hs2 : w2.heap.size = w.heap.size + 2 := by rw [hw2]; simp [hs1]
  have HP2 : Hid (w2.ownsRow B 3 1 (.slice (some ⟨gP, 0, none⟩) C.length cP) C.length (intsV (P0.set f (num : Int)))) := (by rw [hw2]; exact HP1.out.alloc _ : w2.ownsRow B 3 1 (.slice (some ⟨gP, 0, none⟩) C.length cP) C.length (intsV (P0.set f (num : Int))))
  have HG2 : Hid (w.grownBy w2 (some gP)) := (by rw [hw2]; exact grown_trans HG1.out (World.grownBy_alloc _ _ _) : w.grownBy w2 (some gP))
  have HT2 : Hid (w2.heap[w.heap.size]? = some (.cells #[.slice (some ⟨b, ob, none⟩) C.length cap, .int .i64 loops, .slice (some ⟨gF, 0, none⟩) (2 * C.length + 1) cF, .slice (some ⟨gT, 0, none⟩) (2 * C.length + 1) cT] 39 (0, 0))) := (by rw [hw2]; exact alloc_old HT1.out : w2.heap[w.heap.size]? = some (.cells #[.slice (some ⟨b, ob, none⟩) C.length cap, .int .i64 loops, .slice (some ⟨gF, 0, none⟩) (2 * C.length + 1) cF, .slice (some ⟨gT, 0, none⟩) (2 * C.length + 1) cT] 39 (0, 0)))
  have HQ2 : Hid (QueAt w2 (w.heap.size + 1) 3 (.slice (some ⟨w.heap.size + 1, 0, none⟩) 1 1) (nats [f])) := (by
    rw [hw2]
    exact ⟨w.heap.size + 1, 0, 1, #[.int .i64 (f : Nat)], rfl, Nat.le_refl _, alloc_at hs1.symm, Nat.le_refl _, by unfold maxLen; omega, by simp, rfl⟩ : QueAt w2 (w.heap.size + 1) 3 (.slice (some ⟨w.heap.size + 1, 0, none⟩) 1 1) (nats [f]))
  clear hm hb0 hP hst hw1 hw2
  unfold drV
  go_enter Try.func50, Try.ntmps50
  go_wp2
  rw [← HW1.out, ← HW2.out]
  clear e0 z0
  go_loopw [8] (fun v8 wr => ∃ (todo : List Nat) (P : List Int) (k g off cq : Nat), v8 = .slice (some ⟨g, off, none⟩) todo.length cq ∧ Hid (unI P + todo.length ≤ 100) ∧ Hid (Spr C P0 P f num todo k 4) ∧ Hid (QueAt wr (w.heap.size + 1) 3 v8 (nats todo)) ∧ Hid (wr.ownsRow B 3 1 (.slice (some ⟨gP, 0, none⟩) C.length cP) C.length (intsV P)) ∧ Hid (w.grownBy wr (some gP)) ∧ Hid (wr.heap[w.heap.size]? = some (.cells #[.slice (some ⟨b, ob, none⟩) C.length cap, .int .i64 loops, .slice (some ⟨gF, 0, none⟩) (2 * C.length + 1) cF, .slice (some ⟨gT, 0, none⟩) (2 * C.length + 1) cT] 39 (0, 0))) ∧ w.heap.size + 1 ≤ wr.heap.size) (fun v8 wr => lenOf v8 + unC wr gP C.length)
  case atStart => exact ⟨[f], _, 0, w.heap.size + 1, 0, 1, rfl, (by have := unI_le (P0.set f (num : Int)); simp only [List.length_set, List.length_cons, List.length_nil] at this ⊢; omega : unI (P0.set f (num : Int)) + [f].length ≤ 100), HS1.out, HQ2.out, HP2.out, HG2.out, HT2.out, by omega⟩
  case round =>
    clear HS1 HQ2 HP2 HG2 HT2 HW1 HW2 HP1 HG1 HT1
    rename World => W1
    obtain ⟨todo, P, k0, g, off, cq, rfl, hun, hsp, hqu, hpr, hgr, hbox, hsz⟩ := hrel
    cases todo with
    | nil =>
      go_wp2
      exact bodyPost_end (v := .tuple #[]) (by simp [results, Try.results50]) rfl ⟨rfl, P, k0, hsp.out, hpr.out, hgr.out⟩
    | cons k todo =>
      have hk := hsp.out.tod k (List.Mem.head _)
      have HKC : Hid (Con (arcE C) f k) := hk.2
      have hkn := hk.1
      have HSP : Hid (Spr C P0 P f num todo k 0) := hsp.out.take
      have c0 : W1.cell? ⟨g, off, none⟩ = some (.int .i64 (k : Nat)) := hqu.out.cell 0 _ rfl
      have hcq : todo.length + 1 ≤ cq := hqu.out.size.2.1
      have HM0 : Hid (unC W1 gP C.length = unI P) := unC_row hpr.out
      clear hk
      by_cases hc1 : cq = 1
      · subst hc1
        obtain rfl : todo = [] := by simpa [nats] using hqu.out.tail1.2
        have HQT : Hid (QueAt W1 (w.heap.size + 1) 3 (.slice (some ⟨g, off, none⟩) 0 0) (nats [])) := hqu.out.tail1.1
        clear hqu hsp
        go_wp2
        simp only [List.length_cons, List.length_nil, Nat.zero_add]
        go_loopw [8, 26] (fun v8 v26 wr => ∃ (td : List Nat) (P1 : List Int) (s g1 o1 c1 : Nat), s ≤ 4 ∧ v26 = .int .i64 (s : Nat) ∧ v8 = .slice (some ⟨g1, o1, none⟩) td.length c1 ∧ Hid (unI P1 + td.length = unI P + ([] : List Nat).length) ∧ Hid (Spr C P0 P1 f num td k s) ∧ Hid (QueAt wr (w.heap.size + 1) 3 v8 (nats td)) ∧ Hid (wr.ownsRow B 3 1 (.slice (some ⟨gP, 0, none⟩) C.length cP) C.length (intsV P1)) ∧ Hid (w.grownBy wr (some gP)) ∧ Hid (wr.heap[w.heap.size]? = some (.cells #[.slice (some ⟨b, ob, none⟩) C.length cap, .int .i64 loops, .slice (some ⟨gF, 0, none⟩) (2 * C.length + 1) cF, .slice (some ⟨gT, 0, none⟩) (2 * C.length + 1) cT] 39 (0, 0))) ∧ w.heap.size + 1 ≤ wr.heap.size) (fun _ v26 _ => 4 - (intOf v26).toNat)
        case atStart => exact ⟨[], P, 0, _, _, _, Nat.zero_le _, rfl, rfl, (rfl : unI P + ([] : List Nat).length = unI P + ([] : List Nat).length), HSP.out, HQT.out, hpr.out, hgr.out, hbox.out, hsz⟩
        case round =>
          rename World => W3
          obtain ⟨td, P1, s, g1, o1, c1, hs4, rfl, rfl, hme, hsp, hqu, hpr3, hgr3, hbox3, hsz3⟩ := hrel
          by_cases hsl : s < 4
          · have hds : decide ((s : Int) < 4) = true := by simp; omega
            have HB03 : Hid (Below w00.heap.size w00 W3) := HB0.out.grown hgr3.out HB0.out.size (fun q hq => by have := Option.some.inj hq; omega)
            have hs03 := HB03.out.size
            obtain ⟨n1, n2, -⟩ := en_one HM.out k s hkn hsl
            have hnb := nb_lt HM.out k s hkn hsl
            have hfit := (may_fit HM.out k s hkn hsl).1
            obtain ⟨x, hx⟩ : ∃ x, ((C.getD k Cr.none).arc s).toNat = x := ⟨_, rfl⟩
            have harc : (C.getD k Cr.none).arc s = (x : Int) := by omega
            obtain ⟨p, hp⟩ : ∃ p, (C.getD k Cr.none).comes s = p := ⟨_, rfl⟩
            obtain ⟨y, hy⟩ : ∃ y, nbC C k s = y := ⟨_, rfl⟩
            have hey : enC C x (!p) = y := by rw [← hy]; unfold nbC; rw [hx, hp]
            obtain ⟨ys, hys⟩ : ∃ ys, enS C x (!p) = ys := ⟨_, rfl⟩
            rw [hx] at n1 n2
            have HLV : Hid (∀ V, Below w00.heap.size w00 V → Calls Try.prog 46 #[.agg #[.slice (some ⟨b, ob, none⟩) C.length cap, .int .i64 loops, .slice (some ⟨gF, 0, none⟩) (2 * C.length + 1) cF, .slice (some ⟨gT, 0, none⟩) (2 * C.length + 1) cT], .agg #[.int .i64 k, .int .i64 s]] V fun e w' => e = .returned (.agg #[.int .i64 (x : Nat), .bool p]) ∧ Below V.heap.size V w') := fun V hV => by
              have h := leaving_any b ob cap C loops (.slice (some ⟨gF, 0, none⟩) (2 * C.length + 1) cF) (.slice (some ⟨gT, 0, none⟩) (2 * C.length + 1) cT) k s V hkn hsl (HCD.out V hV).2 (HCD.out V hV).1
              rw [harc, hp] at h
              exact h
            have HEV : Hid (∀ V, Below w00.heap.size w00 V → Calls Try.prog 52 #[.agg #[.slice (some ⟨b, ob, none⟩) C.length cap, .int .i64 loops, .slice (some ⟨gF, 0, none⟩) (2 * C.length + 1) cF, .slice (some ⟨gT, 0, none⟩) (2 * C.length + 1) cT], .agg #[.int .i64 (x : Nat), .bool p]] V fun e w' => e = .returned (.agg #[.int .i64 (y : Nat), .int .i64 (ys : Nat)]) ∧ Below V.heap.size V w') := fun V hV => by
              have h := end_any (some ⟨b, ob, none⟩) cap C loops gF cF gT cT x p V HM.out n1 n2 (HDD.out V hV)
              rw [hey, hys] at h
              exact h
            rw [hy] at hnb
            have HYN : Hid (nbC C k s = y) := hy
            have HF : Hid (∀ w', Below W3.heap.size W3 w' → w'.cell? ⟨w.heap.size, 0, none⟩ = some (.slice (some ⟨b, ob, none⟩) C.length cap) ∧ w'.cell? ⟨w.heap.size, 1, none⟩ = some (.int .i64 loops) ∧ w'.cell? ⟨w.heap.size, 2, none⟩ = some (.slice (some ⟨gF, 0, none⟩) (2 * C.length + 1) cF) ∧ w'.cell? ⟨w.heap.size, 3, none⟩ = some (.slice (some ⟨gT, 0, none⟩) (2 * C.length + 1) cT)) := fun w' hb => by
              have g := (hb.block _ (by omega)).trans hbox3.out
              exact ⟨block_cell g rfl, block_cell g rfl, block_cell g rfl, block_cell g rfl⟩
            have HD3 : Hid (Below W3.heap.size W3 W3.drew) := (Below.refl _ _).drew
            have H0 : Hid (∀ w', Below W3.heap.size W3 w' → Below w00.heap.size w00 w') := fun w' hb => HB03.out.trans (hb.mono hs03)
            have hfs := field_spotD
            have hlP1 : P1.length = C.length := hsp.out.len
            have htd : td.length ≤ 100 := by have := hme.out; have := hun.out; simp only [List.length_cons] at this; omega
            have hgb := hqu.out.size.2.2.2
            have hc1b := hqu.out.size.2.1
            clear n1 n2 hfit hx harc hp hey hys hy
            go_wp2
            obtain ⟨t0, t1, t2, t3⟩ := HF.out W3 (Below.refl _ _)
            go_region_held3 (fun w' => w'.cell? ⟨w.heap.size, 0, none⟩ = some (.slice (some ⟨b, ob, none⟩) C.length cap) ∧ w'.cell? ⟨w.heap.size, 1, none⟩ = some (.int .i64 loops) ∧ w'.cell? ⟨w.heap.size, 2, none⟩ = some (.slice (some ⟨gF, 0, none⟩) (2 * C.length + 1) cF) ∧ w'.cell? ⟨w.heap.size, 3, none⟩ = some (.slice (some ⟨gT, 0, none⟩) (2 * C.length + 1) cT)) (first | exact HF.out _ H5.out | exact HF.out _ H4.out | exact HF.out _ HD3.out) (first
              | (go_at_call 46; refine (HLV.out W3.drew (H0.out _ HD3.out)).mono ?_; rintro e9 w4 ⟨rfl, hb4⟩
                 have H4 : Hid (Below W3.heap.size W3 w4) := HD3.out.trans (hb4.mono HD3.out.size)
                 clear hb4)
              | (go_at_call 52; refine (HEV.out _ (H0.out _ H4.out)).mono ?_; rintro e9 w5 ⟨rfl, hb5⟩
                 have H5 : Hid (Below W3.heap.size W3 w5) := H4.out.trans (hb5.mono H4.out.size)
                 clear hb5))
            all_goals
              clear t0 t1 t2 t3 hfs
              have hs5 := H5.out.size
              have hg5 : W3.grownBy w5 none := grown_below H5.out none
              have HR5 : Hid (w5.ownsRow B 3 1 (.slice (some ⟨gP, 0, none⟩) C.length cP) C.length (intsV P1)) := own_any hpr3.out hg5
              have HQ5 : Hid (QueAt w5 (w.heap.size + 1) 3 (.slice (some ⟨g1, o1, none⟩) td.length c1) (nats td)) := hqu.out.kept hg5 (by simp [Value.ownBlock])
              have HG5 : Hid (w.grownBy w5 (some gP)) := grown_new hgr3.out hg5 (fun q hq => by cases hq)
              have HT5 : Hid (w5.heap[w.heap.size]? = some (.cells #[.slice (some ⟨b, ob, none⟩) C.length cap, .int .i64 loops, .slice (some ⟨gF, 0, none⟩) (2 * C.length + 1) cF, .slice (some ⟨gT, 0, none⟩) (2 * C.length + 1) cT] 39 (0, 0))) := (H5.out.block _ (by omega)).trans hbox3.out
              have e0 : w5.cell? ⟨gP, y, none⟩ = some (.int .i64 (P1.getD y 0)) := by
                rw [HR5.out.cellAt y (by omega)]; exact intsV_get P1 y (by omega)
              have z0 : w5.frozen? ⟨gP, y, none⟩ = false := HR5.out.frozenAt y
              have lg : gP < w5.heap.size := by omega
              obtain ⟨q, hq⟩ : ∃ q, P1.getD y 0 = q := ⟨_, rfl⟩
              rw [hq] at e0
              have HQQ : Hid (P1.getD y 0 = q) := hq
              clear hg5 hq
              by_cases hqm : q = -1
              · have hde : (q == -1) = true := by simp [hqm]
                have HSN : Hid (Spr C P0 (P1.set y (num : Int)) f num (td ++ [y]) k (s + 1)) := (by
                  have h := hsp.out.new_side HM.out (by omega) hkn hsl HKC.out (by rw [HYN.out, HQQ.out]; exact hqm)
                  rw [HYN.out] at h
                  exact h : Spr C P0 (P1.set y (num : Int)) f num (td ++ [y]) k (s + 1))
                have HUN : Hid (unI (P1.set y (num : Int)) + 1 = unI P1) := unI_set (by omega) (by rw [HQQ.out]; exact hqm) (by omega)
                have hst := HR5.out.stored y (.int .i64 ((num : Nat) : Int))
                rw [intsV_set] at hst
                have HRV : Hid ((w5.setCell ⟨gP, y, none⟩ (.int .i64 ((num : Nat) : Int))).ownsRow B 3 1 (.slice (some ⟨gP, 0, none⟩) C.length cP) C.length (intsV (P1.set y (num : Int)))) := hst.1
                have HQV : Hid (QueAt (w5.setCell ⟨gP, y, none⟩ (.int .i64 ((num : Nat) : Int))) (w.heap.size + 1) 3 (.slice (some ⟨g1, o1, none⟩) td.length c1) (nats td)) := HQ5.out.kept hst.2 (fun e => by have : g1 = gP := Option.some.inj e; omega)
                have HGV : Hid (w.grownBy (w5.setCell ⟨gP, y, none⟩ (.int .i64 ((num : Nat) : Int))) (some gP)) := grown_trans HG5.out hst.2
                have HTV : Hid ((w5.setCell ⟨gP, y, none⟩ (.int .i64 ((num : Nat) : Int))).heap[w.heap.size]? = some (.cells #[.slice (some ⟨b, ob, none⟩) C.length cap, .int .i64 loops, .slice (some ⟨gF, 0, none⟩) (2 * C.length + 1) cF, .slice (some ⟨gT, 0, none⟩) (2 * C.length + 1) cT] 39 (0, 0))) := (hst.2.block _ (by omega) (fun e => by have : w.heap.size = gP := Option.some.inj e; omega)).trans HT5.out
                have hsV : (w5.setCell ⟨gP, y, none⟩ (.int .i64 ((num : Nat) : Int))).heap.size = w5.heap.size := by simp
                clear hst hqm
                go_wp2_with (first
                  | (at_builtin; refine wpList_append_que _ rfl _ _ 41 rfl (w.heap.size + 1) 3 i0 (.int .i64 0) 8 Try.underlying41 hi hz0 hz1 hz2 rfl _ _ rfl (HQV.out.kept (World.grownBy_alloc _ _ none) (by simp [Value.ownBlock])) ⟨w5.heap.size, 0, none⟩ 1 (.int .i64 (y : Nat)) rfl (block_cell (alloc_at hsV.symm) rfl) rfl (by rw [nats_len]; unfold maxLen; omega) (by rw [nats_len]; omega) (by simp; omega) ?_; intro v8 w8 hq8 hg8; refine Hid.out ?_))
                refine Lib.hid ?_
                have hq8' : QueAt w8 (w.heap.size + 1) 3 v8 (nats (td ++ [y])) := by rw [nats_app]; exact hq8
                have hr8 := (HRV.out.alloc (.cells #[.int .i64 (y : Nat)] 3)).kept hg8 (Or.inr (fun e => by have : gP = g1 := Option.some.inj e; omega))
                have HR8 : Hid (w8.ownsRow B 3 1 (.slice (some ⟨gP, 0, none⟩) C.length cP) C.length (intsV (P1.set y (num : Int)))) := hr8
                have HG8 : Hid (w.grownBy w8 (some gP)) := grown_new (grown_trans HGV.out (World.grownBy_alloc _ _ _)) hg8 (fun q hq => by have : g1 = q := Option.some.inj hq; omega)
                have HT8 : Hid (w8.heap[w.heap.size]? = some (.cells #[.slice (some ⟨b, ob, none⟩) C.length cap, .int .i64 loops, .slice (some ⟨gF, 0, none⟩) (2 * C.length + 1) cF, .slice (some ⟨gT, 0, none⟩) (2 * C.length + 1) cT] 39 (0, 0))) := (hg8.block _ (by simp; omega) (fun e => by have : w.heap.size = g1 := Option.some.inj e; omega)).trans (alloc_old HTV.out)
                have hs8 : w5.heap.size + 1 ≤ w8.heap.size := by have := hg8.size; simp at this; omega
                obtain ⟨g8, o8, c8, e8, -⟩ := hq8'.shape
                rw [nats_len] at e8
                subst e8
                have HQ8 : Hid (QueAt w8 (w.heap.size + 1) 3 (.slice (some ⟨g8, o8, none⟩) (td ++ [y]).length c8) (nats (td ++ [y]))) := hq8'
                clear hq8 hq8' hr8 hg8 e0 z0
                go_wp2
                go_roundw
                case rel => exact ⟨td ++ [y], P1.set y (num : Int), s + 1, g8, o8, c8, by omega, by go_num, rfl, (by have := hme.out; have := HUN.out; simp only [List.length_append, List.length_cons, List.length_nil]; omega : unI (P1.set y (num : Int)) + (td ++ [y]).length = unI P + ([] : List Nat).length), HSN.out, HQ8.out, HR8.out, HG8.out, HT8.out, by omega⟩
                case measure => simp only [intOf]; omega
              · have hde : (q == -1) = false := by simp [hqm]
                have HSO : Hid (Spr C P0 P1 f num td k (s + 1)) := hsp.out.old_side (by rw [HYN.out, HQQ.out]; exact hqm)
                go_wp2
                go_roundw
                case rel => exact ⟨td, P1, s + 1, g1, o1, c1, by omega, by go_num, rfl, hme.out, HSO.out, HQ5.out, HR5.out, HG5.out, HT5.out, by omega⟩
                case measure => simp only [intOf]; omega
          · obtain rfl : s = 4 := by omega
            go_wp2
            go_roundw
            case rel => exact ⟨td, P1, k, g1, o1, c1, rfl, (by have := hme.out; have := hun.out; simp only [List.length_cons] at this; omega : unI P1 + td.length ≤ 100), hsp.out, hqu.out, hpr3.out, hgr3.out, hbox3.out, hsz3⟩
            case measure =>
              rw [unC_row hpr3.out, HM0.out]
              have := hme.out
              simp only [lenOf, List.length_cons]
              omega
      · have HQT : Hid (QueAt W1 (w.heap.size + 1) 3 (.slice (some ⟨g, off + 1, none⟩) todo.length (cq - 1)) (nats todo)) := hqu.out.tail
        have hc2 : ¬ (cq - 1 = 0) := by omega
        clear hc1 hqu hsp
        go_wp2
        simp only [List.length_cons]
        go_loopw [8, 26] (fun v8 v26 wr => ∃ (td : List Nat) (P1 : List Int) (s g1 o1 c1 : Nat), s ≤ 4 ∧ v26 = .int .i64 (s : Nat) ∧ v8 = .slice (some ⟨g1, o1, none⟩) td.length c1 ∧ Hid (unI P1 + td.length = unI P + todo.length) ∧ Hid (Spr C P0 P1 f num td k s) ∧ Hid (QueAt wr (w.heap.size + 1) 3 v8 (nats td)) ∧ Hid (wr.ownsRow B 3 1 (.slice (some ⟨gP, 0, none⟩) C.length cP) C.length (intsV P1)) ∧ Hid (w.grownBy wr (some gP)) ∧ Hid (wr.heap[w.heap.size]? = some (.cells #[.slice (some ⟨b, ob, none⟩) C.length cap, .int .i64 loops, .slice (some ⟨gF, 0, none⟩) (2 * C.length + 1) cF, .slice (some ⟨gT, 0, none⟩) (2 * C.length + 1) cT] 39 (0, 0))) ∧ w.heap.size + 1 ≤ wr.heap.size) (fun _ v26 _ => 4 - (intOf v26).toNat)
        case atStart => exact ⟨todo, P, 0, _, _, _, Nat.zero_le _, rfl, rfl, (rfl : unI P + todo.length = unI P + todo.length), HSP.out, HQT.out, hpr.out, hgr.out, hbox.out, hsz⟩
        case round =>
          rename World => W3
          obtain ⟨td, P1, s, g1, o1, c1, hs4, rfl, rfl, hme, hsp, hqu, hpr3, hgr3, hbox3, hsz3⟩ := hrel
          by_cases hsl : s < 4
          · have hds : decide ((s : Int) < 4) = true := by simp; omega
            have HB03 : Hid (Below w00.heap.size w00 W3) := HB0.out.grown hgr3.out HB0.out.size (fun q hq => by have := Option.some.inj hq; omega)
            have hs03 := HB03.out.size
            obtain ⟨n1, n2, -⟩ := en_one HM.out k s hkn hsl
            have hnb := nb_lt HM.out k s hkn hsl
            have hfit := (may_fit HM.out k s hkn hsl).1
            obtain ⟨x, hx⟩ : ∃ x, ((C.getD k Cr.none).arc s).toNat = x := ⟨_, rfl⟩
            have harc : (C.getD k Cr.none).arc s = (x : Int) := by omega
            obtain ⟨p, hp⟩ : ∃ p, (C.getD k Cr.none).comes s = p := ⟨_, rfl⟩
            obtain ⟨y, hy⟩ : ∃ y, nbC C k s = y := ⟨_, rfl⟩
            have hey : enC C x (!p) = y := by rw [← hy]; unfold nbC; rw [hx, hp]
            obtain ⟨ys, hys⟩ : ∃ ys, enS C x (!p) = ys := ⟨_, rfl⟩
            rw [hx] at n1 n2
            have HLV : Hid (∀ V, Below w00.heap.size w00 V → Calls Try.prog 46 #[.agg #[.slice (some ⟨b, ob, none⟩) C.length cap, .int .i64 loops, .slice (some ⟨gF, 0, none⟩) (2 * C.length + 1) cF, .slice (some ⟨gT, 0, none⟩) (2 * C.length + 1) cT], .agg #[.int .i64 k, .int .i64 s]] V fun e w' => e = .returned (.agg #[.int .i64 (x : Nat), .bool p]) ∧ Below V.heap.size V w') := fun V hV => by
              have h := leaving_any b ob cap C loops (.slice (some ⟨gF, 0, none⟩) (2 * C.length + 1) cF) (.slice (some ⟨gT, 0, none⟩) (2 * C.length + 1) cT) k s V hkn hsl (HCD.out V hV).2 (HCD.out V hV).1
              rw [harc, hp] at h
              exact h
            have HEV : Hid (∀ V, Below w00.heap.size w00 V → Calls Try.prog 52 #[.agg #[.slice (some ⟨b, ob, none⟩) C.length cap, .int .i64 loops, .slice (some ⟨gF, 0, none⟩) (2 * C.length + 1) cF, .slice (some ⟨gT, 0, none⟩) (2 * C.length + 1) cT], .agg #[.int .i64 (x : Nat), .bool p]] V fun e w' => e = .returned (.agg #[.int .i64 (y : Nat), .int .i64 (ys : Nat)]) ∧ Below V.heap.size V w') := fun V hV => by
              have h := end_any (some ⟨b, ob, none⟩) cap C loops gF cF gT cT x p V HM.out n1 n2 (HDD.out V hV)
              rw [hey, hys] at h
              exact h
            rw [hy] at hnb
            have HYN : Hid (nbC C k s = y) := hy
            have HF : Hid (∀ w', Below W3.heap.size W3 w' → w'.cell? ⟨w.heap.size, 0, none⟩ = some (.slice (some ⟨b, ob, none⟩) C.length cap) ∧ w'.cell? ⟨w.heap.size, 1, none⟩ = some (.int .i64 loops) ∧ w'.cell? ⟨w.heap.size, 2, none⟩ = some (.slice (some ⟨gF, 0, none⟩) (2 * C.length + 1) cF) ∧ w'.cell? ⟨w.heap.size, 3, none⟩ = some (.slice (some ⟨gT, 0, none⟩) (2 * C.length + 1) cT)) := fun w' hb => by
              have g := (hb.block _ (by omega)).trans hbox3.out
              exact ⟨block_cell g rfl, block_cell g rfl, block_cell g rfl, block_cell g rfl⟩
            have HD3 : Hid (Below W3.heap.size W3 W3.drew) := (Below.refl _ _).drew
            have H0 : Hid (∀ w', Below W3.heap.size W3 w' → Below w00.heap.size w00 w') := fun w' hb => HB03.out.trans (hb.mono hs03)
            have hfs := field_spotD
            have hlP1 : P1.length = C.length := hsp.out.len
            have htd : td.length ≤ 100 := by have := hme.out; have := hun.out; simp only [List.length_cons] at this; omega
            have hgb := hqu.out.size.2.2.2
            have hc1b := hqu.out.size.2.1
            clear n1 n2 hfit hx harc hp hey hys hy
            go_wp2
            obtain ⟨t0, t1, t2, t3⟩ := HF.out W3 (Below.refl _ _)
            go_region_held3 (fun w' => w'.cell? ⟨w.heap.size, 0, none⟩ = some (.slice (some ⟨b, ob, none⟩) C.length cap) ∧ w'.cell? ⟨w.heap.size, 1, none⟩ = some (.int .i64 loops) ∧ w'.cell? ⟨w.heap.size, 2, none⟩ = some (.slice (some ⟨gF, 0, none⟩) (2 * C.length + 1) cF) ∧ w'.cell? ⟨w.heap.size, 3, none⟩ = some (.slice (some ⟨gT, 0, none⟩) (2 * C.length + 1) cT)) (first | exact HF.out _ H5.out | exact HF.out _ H4.out | exact HF.out _ HD3.out) (first
              | (go_at_call 46; refine (HLV.out W3.drew (H0.out _ HD3.out)).mono ?_; rintro e9 w4 ⟨rfl, hb4⟩
                 have H4 : Hid (Below W3.heap.size W3 w4) := HD3.out.trans (hb4.mono HD3.out.size)
                 clear hb4)
              | (go_at_call 52; refine (HEV.out _ (H0.out _ H4.out)).mono ?_; rintro e9 w5 ⟨rfl, hb5⟩
                 have H5 : Hid (Below W3.heap.size W3 w5) := H4.out.trans (hb5.mono H4.out.size)
                 clear hb5))
            all_goals
              clear t0 t1 t2 t3 hfs
              have hs5 := H5.out.size
              have hg5 : W3.grownBy w5 none := grown_below H5.out none
              have HR5 : Hid (w5.ownsRow B 3 1 (.slice (some ⟨gP, 0, none⟩) C.length cP) C.length (intsV P1)) := own_any hpr3.out hg5
              have HQ5 : Hid (QueAt w5 (w.heap.size + 1) 3 (.slice (some ⟨g1, o1, none⟩) td.length c1) (nats td)) := hqu.out.kept hg5 (by simp [Value.ownBlock])
              have HG5 : Hid (w.grownBy w5 (some gP)) := grown_new hgr3.out hg5 (fun q hq => by cases hq)
              have HT5 : Hid (w5.heap[w.heap.size]? = some (.cells #[.slice (some ⟨b, ob, none⟩) C.length cap, .int .i64 loops, .slice (some ⟨gF, 0, none⟩) (2 * C.length + 1) cF, .slice (some ⟨gT, 0, none⟩) (2 * C.length + 1) cT] 39 (0, 0))) := (H5.out.block _ (by omega)).trans hbox3.out
              have e0 : w5.cell? ⟨gP, y, none⟩ = some (.int .i64 (P1.getD y 0)) := by
                rw [HR5.out.cellAt y (by omega)]; exact intsV_get P1 y (by omega)
              have z0 : w5.frozen? ⟨gP, y, none⟩ = false := HR5.out.frozenAt y
              have lg : gP < w5.heap.size := by omega
              obtain ⟨q, hq⟩ : ∃ q, P1.getD y 0 = q := ⟨_, rfl⟩
              rw [hq] at e0
              have HQQ : Hid (P1.getD y 0 = q) := hq
              clear hg5 hq
              by_cases hqm : q = -1
              · have hde : (q == -1) = true := by simp [hqm]
                have HSN : Hid (Spr C P0 (P1.set y (num : Int)) f num (td ++ [y]) k (s + 1)) := (by
                  have h := hsp.out.new_side HM.out (by omega) hkn hsl HKC.out (by rw [HYN.out, HQQ.out]; exact hqm)
                  rw [HYN.out] at h
                  exact h : Spr C P0 (P1.set y (num : Int)) f num (td ++ [y]) k (s + 1))
                have HUN : Hid (unI (P1.set y (num : Int)) + 1 = unI P1) := unI_set (by omega) (by rw [HQQ.out]; exact hqm) (by omega)
                have hst := HR5.out.stored y (.int .i64 ((num : Nat) : Int))
                rw [intsV_set] at hst
                have HRV : Hid ((w5.setCell ⟨gP, y, none⟩ (.int .i64 ((num : Nat) : Int))).ownsRow B 3 1 (.slice (some ⟨gP, 0, none⟩) C.length cP) C.length (intsV (P1.set y (num : Int)))) := hst.1
                have HQV : Hid (QueAt (w5.setCell ⟨gP, y, none⟩ (.int .i64 ((num : Nat) : Int))) (w.heap.size + 1) 3 (.slice (some ⟨g1, o1, none⟩) td.length c1) (nats td)) := HQ5.out.kept hst.2 (fun e => by have : g1 = gP := Option.some.inj e; omega)
                have HGV : Hid (w.grownBy (w5.setCell ⟨gP, y, none⟩ (.int .i64 ((num : Nat) : Int))) (some gP)) := grown_trans HG5.out hst.2
                have HTV : Hid ((w5.setCell ⟨gP, y, none⟩ (.int .i64 ((num : Nat) : Int))).heap[w.heap.size]? = some (.cells #[.slice (some ⟨b, ob, none⟩) C.length cap, .int .i64 loops, .slice (some ⟨gF, 0, none⟩) (2 * C.length + 1) cF, .slice (some ⟨gT, 0, none⟩) (2 * C.length + 1) cT] 39 (0, 0))) := (hst.2.block _ (by omega) (fun e => by have : w.heap.size = gP := Option.some.inj e; omega)).trans HT5.out
                have hsV : (w5.setCell ⟨gP, y, none⟩ (.int .i64 ((num : Nat) : Int))).heap.size = w5.heap.size := by simp
                clear hst hqm
                go_wp2_with (first
                  | (at_builtin; refine wpList_append_que _ rfl _ _ 41 rfl (w.heap.size + 1) 3 i0 (.int .i64 0) 8 Try.underlying41 hi hz0 hz1 hz2 rfl _ _ rfl (HQV.out.kept (World.grownBy_alloc _ _ none) (by simp [Value.ownBlock])) ⟨w5.heap.size, 0, none⟩ 1 (.int .i64 (y : Nat)) rfl (block_cell (alloc_at hsV.symm) rfl) rfl (by rw [nats_len]; unfold maxLen; omega) (by rw [nats_len]; omega) (by simp; omega) ?_; intro v8 w8 hq8 hg8; refine Hid.out ?_))
                refine Lib.hid ?_
                have hq8' : QueAt w8 (w.heap.size + 1) 3 v8 (nats (td ++ [y])) := by rw [nats_app]; exact hq8
                have hr8 := (HRV.out.alloc (.cells #[.int .i64 (y : Nat)] 3)).kept hg8 (Or.inr (fun e => by have : gP = g1 := Option.some.inj e; omega))
                have HR8 : Hid (w8.ownsRow B 3 1 (.slice (some ⟨gP, 0, none⟩) C.length cP) C.length (intsV (P1.set y (num : Int)))) := hr8
                have HG8 : Hid (w.grownBy w8 (some gP)) := grown_new (grown_trans HGV.out (World.grownBy_alloc _ _ _)) hg8 (fun q hq => by have : g1 = q := Option.some.inj hq; omega)
                have HT8 : Hid (w8.heap[w.heap.size]? = some (.cells #[.slice (some ⟨b, ob, none⟩) C.length cap, .int .i64 loops, .slice (some ⟨gF, 0, none⟩) (2 * C.length + 1) cF, .slice (some ⟨gT, 0, none⟩) (2 * C.length + 1) cT] 39 (0, 0))) := (hg8.block _ (by simp; omega) (fun e => by have : w.heap.size = g1 := Option.some.inj e; omega)).trans (alloc_old HTV.out)
                have hs8 : w5.heap.size + 1 ≤ w8.heap.size := by have := hg8.size; simp at this; omega
                obtain ⟨g8, o8, c8, e8, -⟩ := hq8'.shape
                rw [nats_len] at e8
                subst e8
                have HQ8 : Hid (QueAt w8 (w.heap.size + 1) 3 (.slice (some ⟨g8, o8, none⟩) (td ++ [y]).length c8) (nats (td ++ [y]))) := hq8'
                clear hq8 hq8' hr8 hg8 e0 z0
                go_wp2
                go_roundw
                case rel => exact ⟨td ++ [y], P1.set y (num : Int), s + 1, g8, o8, c8, by omega, by go_num, rfl, (by have := hme.out; have := HUN.out; simp only [List.length_append, List.length_cons, List.length_nil]; omega : unI (P1.set y (num : Int)) + (td ++ [y]).length = unI P + todo.length), HSN.out, HQ8.out, HR8.out, HG8.out, HT8.out, by omega⟩
                case measure => simp only [intOf]; omega
              · have hde : (q == -1) = false := by simp [hqm]
                have HSO : Hid (Spr C P0 P1 f num td k (s + 1)) := hsp.out.old_side (by rw [HYN.out, HQQ.out]; exact hqm)
                go_wp2
                go_roundw
                case rel => exact ⟨td, P1, s + 1, g1, o1, c1, by omega, by go_num, rfl, hme.out, HSO.out, HQ5.out, HR5.out, HG5.out, HT5.out, by omega⟩
                case measure => simp only [intOf]; omega
          · obtain rfl : s = 4 := by omega
            go_wp2
            go_roundw
            case rel => exact ⟨td, P1, k, g1, o1, c1, rfl, (by have := hme.out; have := hun.out; simp only [List.length_cons] at this; omega : unI P1 + td.length ≤ 100), hsp.out, hqu.out, hpr3.out, hgr3.out, hbox3.out, hsz3⟩
            case measure =>
              rw [unC_row hpr3.out, HM0.out]
              have := hme.out
              simp only [lenOf, List.length_cons]
              omega
end Go.Proofs.Ytlcogbcpmneknaa

/- The law SignTells: its walk. -/
import Derived.Test.YtlcogbcpmneknaaSYw
import Derived.Test.YtlcogbcpmneknaaSYy
import Derived.Test.YtlcogbcpmneknaaSR3
import Derived.Test.YtlcogbcpmneknaaLSignShades
namespace Go.Proofs.Ytlcogbcpmneknaa
open Go.RowKit Go.Maps

theorem sls_crsT {w : World} {B : Nat} {v : Value} {C : List Cr} (h : CrsW w B v C) : ∃ a c, v = .slice a C.length c := by
  rcases h with ⟨rfl, rfl⟩ | ⟨ad, cap, rfl, rfl⟩ | ⟨b, off, cap, rfl, -, -⟩
  · exact ⟨_, _, rfl⟩
  · exact ⟨_, _, rfl⟩
  · exact ⟨_, _, rfl⟩
theorem walks_posS {C : List Cr} (h : 0 < C.length) : 0 < (walksM C).length := by
  rcases Nat.eq_zero_or_pos (walksM C).length with q | q
  · have e := List.length_eq_zero_iff.1 q
    have h1 := walksTo_one (nx C) (2 * C.length) (2 * C.length) 1 (Nat.le_refl _) (by omega)
    have h2 := walksTo_seen (nx C) (2 * C.length) (2 * C.length) 1 (Nat.le_refl _) (by omega)
    unfold walksM at e
    rw [e, h2] at h1
    simp at h1
  · exact q
set_option maxHeartbeats 8000000 in
set_option maxRecDepth 100000 in
theorem signTells_no (a : Option Addr) (cap : Nat) (C : List Cr) (loops r : Int) (w : World) (hl : C.length * 40 ≤ 140737488355328) (h : CrsW w w.heap.size (.slice a C.length cap) C) (hone : oneN C loops = r) (hr : r ≠ 0)
    (hSI : ∀ a cap W, Crs W W.heap.size (.slice a C.length cap) C → Calls Try.prog 4 #[.agg #[.slice a C.length cap, .int .i64 loops]] W fun e w' => e = .returned (.tuple #[.int .i64 0, .int .i64 r]) ∧ Below W.heap.size W w')
    (hAR : ∀ a cap W, Crs W W.heap.size (.slice a C.length cap) C → Calls Try.prog 6 #[.agg #[.slice a C.length cap, .int .i64 loops]] W fun e w' => e = .returned (.tuple #[.int .i64 0, .int .i64 r]) ∧ Below W.heap.size W w') :
    Calls Try.prog 3 #[.agg #[.slice a C.length cap, .int .i64 loops]] w fun e w' => e = .returned (.bool true) ∧ Below w.heap.size w w' := by
  have HSI := hidS hSI
  have HAR := hidS hAR
  have hr0 : (r != 0) = true := by simpa using hr
  have hrq : (r == r) = true := by simp
  clear hSI hAR hr
  have hmx : C.length ≤ maxLen := by unfold maxLen; omega
  obtain ⟨V, hV⟩ : ∃ V, w.alloc (.cells #[.slice a C.length cap, .int .i64 loops] 24) = V := ⟨_, rfl⟩
  have hB : Below w.heap.size w V := by rw [← hV]; exact (Below.refl _ _).alloc (Nat.le_refl _) _
  have k0 : V.heap[w.heap.size]? = some (.cells #[.slice a C.length cap, .int .i64 loops] 24 (0, 0)) := by rw [← hV]; exact alloc_at rfl
  have lV : w.heap.size < V.heap.size := by rw [← hV]; simp
  have HV := hidS hV
  have HB := hidS hB
  have HL := hidS hl
  have HCW : Hid (∀ W, Below V.heap.size V W → CrsW W W.heap.size (.slice a C.length cap) C) := fun W hW => (h.up HB.out).up hW
  have HSV : Hid (∀ W, Below V.heap.size V W → W.cell? ⟨w.heap.size, 0, none⟩ = some (.slice a C.length cap) ∧ W.cell? ⟨w.heap.size, 1, none⟩ = some (.int .i64 loops) ∧ w.heap.size < W.heap.size) := fun W hW => by
    have e := (hW.block _ lV).trans k0
    exact ⟨block_cell e rfl, block_cell e rfl, (Array.getElem?_eq_some_iff.1 e).1⟩
  have HON := hidS (fun W (hW : Below V.heap.size V W) => one_any a cap C loops W ((HCW.out W hW).crs hmx))
  rw [hone] at HON
  have c0 := HSV.out V (Below.refl _ _)
  clear h hl hV hB k0 hone
  go_enter Try.func3, Try.ntmps3
  go_upto_region 1 with (fail)
  rw [HV.out]
  go_upto_region 2 with (first
    | (go_at_call 5; refine (diagramOf_any _ C loops _ HL.out (HCW.out _ (Below.refl _ _))).mono ?_; rintro e9 w1 ⟨v1, rfl, hc1, hb1⟩
       obtain ⟨a1, cp1, rfl, hcl1, hcx1⟩ := hc1
       have HC1 : Hid (Crs w1 w1.heap.size (.slice a1 C.length cp1) C) := ⟨a1, cp1, rfl, hcl1, hcx1⟩
       have HB1 := hidS hb1
       clear hb1 hcl1 hcx1 c0)
    | (go_at_call 4; refine (HSI.out a1 cp1 _ HC1.out).mono ?_; rintro e9 w2 ⟨rfl, hb2⟩
       have HB2 := hidS (HB1.out.trans (hb2.mono HB1.out.size))
       clear hb2))
  have c0 := HSV.out w2 HB2.out
  go_upto_region 3 with (first
    | (go_at_call 5; refine (diagramOf_any _ C loops _ HL.out (HCW.out _ HB2.out)).mono ?_; rintro e9 w3 ⟨v3, rfl, hc3, hb3⟩
       obtain ⟨a3, cp3, rfl, hcl3, hcx3⟩ := hc3
       have HC3 : Hid (Crs w3 w3.heap.size (.slice a3 C.length cp3) C) := ⟨a3, cp3, rfl, hcl3, hcx3⟩
       have HB3 := hidS (HB2.out.trans (hb3.mono HB2.out.size))
       clear hb3 hcl3 hcx3 c0)
    | (go_at_call 6; refine (HAR.out a3 cp3 _ HC3.out).mono ?_; rintro e9 w4 ⟨rfl, hb4⟩
       have HB4 := hidS (HB3.out.trans (hb4.mono HB3.out.size))
       clear hb4))
  have c0 := HSV.out w4 HB4.out
  go_upto_region 4 with (go_at_call 7; refine (HON.out _ HB4.out).mono ?_; rintro e9 w5 ⟨rfl, hb5⟩
                         have HB5 := hidS (HB4.out.trans (hb5.mono HB4.out.size))
                         clear hb5 c0)
  go_wp2
  go_ret
  exact ⟨by first | rfl | simp, HB.out.trans (HB5.out.mono (by omega))⟩

set_option maxHeartbeats 8000000 in
set_option maxRecDepth 100000 in
theorem signTells_yes (a : Option Addr) (cap : Nat) (C : List Cr) (loops : Int) (m nw : Nat) (z fx sv sd ar : Int) (T : Nat → Nat → Int) (w : World) (hl : C.length * 40 ≤ 140737488355328) (h : CrsW w w.heap.size (.slice a C.length cap) C) (hone : oneN C loops = 0)
    (hz : IntKind.i64.wrap (sv - fx) = z) (hnw : 0 < nw) (har : ∀ d : Int, d.natAbs = sd.natAbs → ar = if (if d.tmod 8 < 0 then d.tmod 8 + 8 else d.tmod 8) = 1 ∨ (if d.tmod 8 < 0 then d.tmod 8 + 8 else d.tmod 8) = 7 then 0 else 1)
    (hSI : ∀ a cap W, Crs W W.heap.size (.slice a C.length cap) C → Calls Try.prog 4 #[.agg #[.slice a C.length cap, .int .i64 loops]] W fun e w' => e = .returned (.tuple #[.int .i64 z, .int .i64 0]) ∧ Below W.heap.size W w')
    (hAR : ∀ a cap W, Crs W W.heap.size (.slice a C.length cap) C → Calls Try.prog 6 #[.agg #[.slice a C.length cap, .int .i64 loops]] W fun e w' => e = .returned (.tuple (if 1 < nw then #[.int .i64 0, .int .i64 9] else #[.int .i64 ar, .int .i64 0])) ∧ Below W.heap.size W w')
    (hGO : ∀ a cap W, Crs W W.heap.size (.slice a C.length cap) C → Calls Try.prog 8 #[.agg #[.slice a C.length cap, .int .i64 loops], .int .i64 (0 : Nat)] W fun e w' => ∃ gt ct gs, e = .returned (.tuple #[.slice (some ⟨gt, 0, none⟩) m ct, .int .i64 fx]) ∧ TabO W.heap.size gt ct m m gs T w' ∧ Below W.heap.size W w')
    (hSQ : ∀ B gt ct gs W, TabO B gt ct m m gs T W → Calls Try.prog 9 #[.slice (some ⟨gt, 0, none⟩) m ct] W fun e w' => ∃ sg d : Int, e = .returned (.tuple #[.int .i64 sg, .int .i64 d]) ∧ (sg = sv ∧ sd.natAbs = d.natAbs) ∧ Below W.heap.size W w')
    (hST : ∀ a cap W, Crs W W.heap.size (.slice a C.length cap) C → Calls Try.prog 10 #[.agg #[.slice a C.length cap, .int .i64 loops]] W fun e w' => ∃ a2 c2, e = .returned (.slice a2 nw c2) ∧ Below W.heap.size W w') :
    Calls Try.prog 3 #[.agg #[.slice a C.length cap, .int .i64 loops]] w fun e w' => e = .returned (.bool true) ∧ Below w.heap.size w w' := by
  have HSI := hidS hSI
  have HGO := hidS hGO
  have HSQ := hidS hSQ
  have HST := hidS hST
  have HAN := hidS har
  have HZ := hidS hz
  have HAR : Hid (∀ a cap W, Crs W W.heap.size (.slice a C.length cap) C → Calls Try.prog 6 #[.agg #[.slice a C.length cap, .int .i64 loops]] W fun e w' => ∃ x y : Int, e = .returned (.tuple #[.int .i64 x, .int .i64 y]) ∧ Hid ((1 < nw → x = 0 ∧ y = 9) ∧ (¬ 1 < nw → x = ar ∧ y = 0)) ∧ Below W.heap.size W w') := fun a cap W hW => (hAR a cap W hW).mono (by
    rintro e w' ⟨rfl, hb⟩
    by_cases q : 1 < nw
    · rw [if_pos q]; exact ⟨_, _, rfl, ⟨fun _ => ⟨rfl, rfl⟩, fun n => absurd q n⟩, hb⟩
    · rw [if_neg q]; exact ⟨_, _, rfl, ⟨fun n => absurd n q, fun _ => ⟨rfl, rfl⟩⟩, hb⟩)
  clear hSI hAR hGO hSQ hST har
  have hmx : C.length ≤ maxLen := by unfold maxLen; omega
  obtain ⟨V, hV⟩ : ∃ V, w.alloc (.cells #[.slice a C.length cap, .int .i64 loops] 24) = V := ⟨_, rfl⟩
  have hB : Below w.heap.size w V := by rw [← hV]; exact (Below.refl _ _).alloc (Nat.le_refl _) _
  have k0 : V.heap[w.heap.size]? = some (.cells #[.slice a C.length cap, .int .i64 loops] 24 (0, 0)) := by rw [← hV]; exact alloc_at rfl
  have lV : w.heap.size < V.heap.size := by rw [← hV]; simp
  have HV := hidS hV
  have HB := hidS hB
  have HL := hidS hl
  have HCW : Hid (∀ W, Below V.heap.size V W → CrsW W W.heap.size (.slice a C.length cap) C) := fun W hW => (h.up HB.out).up hW
  have HCC : Hid (∀ W, Below V.heap.size V W → Crs W W.heap.size (.slice a C.length cap) C) := fun W hW => (HCW.out W hW).crs hmx
  have HSV : Hid (∀ W, Below V.heap.size V W → W.cell? ⟨w.heap.size, 0, none⟩ = some (.slice a C.length cap) ∧ W.cell? ⟨w.heap.size, 1, none⟩ = some (.int .i64 loops) ∧ w.heap.size < W.heap.size) := fun W hW => by
    have e := (hW.block _ lV).trans k0
    exact ⟨block_cell e rfl, block_cell e rfl, (Array.getElem?_eq_some_iff.1 e).1⟩
  have HON := hidS (fun W (hW : Below V.heap.size V W) => one_any a cap C loops W ((HCW.out W hW).crs hmx))
  rw [hone] at HON
  have c0 := HSV.out V (Below.refl _ _)
  clear h hl hV hB k0 hone hz
  go_enter Try.func3, Try.ntmps3
  go_upto_region 1 with (fail)
  rw [HV.out]
  go_upto_region 2 with (first
    | (go_at_call 5; refine (diagramOf_any _ C loops _ HL.out (HCW.out _ (Below.refl _ _))).mono ?_; rintro e9 w1 ⟨v1, rfl, hc1, hb1⟩
       obtain ⟨a1, cp1, rfl, hcl1, hcx1⟩ := hc1
       have HC1 : Hid (Crs w1 w1.heap.size (.slice a1 C.length cp1) C) := ⟨a1, cp1, rfl, hcl1, hcx1⟩
       have HB1 := hidS hb1
       clear hb1 hcl1 hcx1 c0)
    | (go_at_call 4; refine (HSI.out a1 cp1 _ HC1.out).mono ?_; rintro e9 w2 ⟨rfl, hb2⟩
       have HB2 := hidS (HB1.out.trans (hb2.mono HB1.out.size))
       clear hb2))
  have c0 := HSV.out w2 HB2.out
  go_upto_region 3 with (first
    | (go_at_call 5; refine (diagramOf_any _ C loops _ HL.out (HCW.out _ HB2.out)).mono ?_; rintro e9 w3 ⟨v3, rfl, hc3, hb3⟩
       obtain ⟨a3, cp3, rfl, hcl3, hcx3⟩ := hc3
       have HC3 : Hid (Crs w3 w3.heap.size (.slice a3 C.length cp3) C) := ⟨a3, cp3, rfl, hcl3, hcx3⟩
       have HB3 := hidS (HB2.out.trans (hb3.mono HB2.out.size))
       clear hb3 hcl3 hcx3 c0)
    | (go_at_call 6; refine (HAR.out a3 cp3 _ HC3.out).mono ?_; rintro e9 w4 ⟨fv, ff, rfl, HFV, hb4⟩
       have HB4 := hidS (HB3.out.trans (hb4.mono HB3.out.size))
       clear hb4))
  have c0 := HSV.out w4 HB4.out
  go_upto_region 4 with (go_at_call 7; refine (HON.out _ HB4.out).mono ?_; rintro e9 w5 ⟨rfl, hb5⟩
                         have HB5 := hidS (HB4.out.trans (hb5.mono HB4.out.size))
                         clear hb5 c0)
  have c0 := HSV.out w5 HB5.out
  go_wp2_with (go_at_call 8; refine (HGO.out a cap _ (HCC.out _ HB5.out)).mono ?_; rintro e9 w6 ⟨gt, ct, gs, rfl, ht6, hb6⟩; refine Hid.out ?_)
  refine Lib.hid ?_
  have HT6 := hidS ht6
  have HB6 := hidS (HB5.out.trans (hb6.mono HB5.out.size))
  clear ht6 hb6 c0
  go_wp2_with (go_at_call 9; refine (HSQ.out _ _ _ _ _ HT6.out).mono ?_; rintro e9 w7 ⟨sg, d, rfl, ⟨hsg, hd⟩, hb7⟩; refine Hid.out ?_)
  refine Lib.hid ?_
  subst hsg
  have HB7 := hidS (HB6.out.trans (hb7.mono HB6.out.size))
  have HD := hidS hd
  clear hb7 hd HT6
  have ewz := HZ.out
  have c0 := HSV.out w7 HB7.out
  have hzq : (z != z) = false := by simp
  go_wp2_with (go_at_call 10; refine (HST.out a cap _ (HCC.out _ HB7.out)).mono ?_; rintro e9 w8 ⟨a8, c8, rfl, hb8⟩; refine Hid.out ?_)
  refine Lib.hid ?_
  have HB8 := hidS (HB7.out.trans (hb8.mono HB7.out.size))
  clear hb8 c0 ewz hzq
  by_cases q : 1 < nw
  · obtain ⟨rfl, rfl⟩ := HFV.out.1 q
    have hn1 : ((nw : Int) != 1) = true := by simp; omega
    clear HFV
    go_wp2
    go_ret
    exact ⟨by first | rfl | simp, HB.out.trans (HB8.out.mono (by omega))⟩
  · obtain ⟨rfl, rfl⟩ := HFV.out.2 q
    have hn1 : ((nw : Int) != 1) = false := by simp; omega
    have HA := hidS (HAN.out d HD.out.symm)
    obtain ⟨y, hy⟩ : ∃ y, d.tmod 8 = y := ⟨_, rfl⟩
    rw [hy] at HA
    have hyb : -8 < y ∧ y < 8 := by
      have h1 := Int.tmod_lt_of_pos d (show (0 : Int) < 8 by decide)
      have h2 := Int.lt_tmod_of_pos d (show (0 : Int) < 8 by decide)
      omega
    have ewy : IntKind.i64.wrap y = y := IntWalk.i64_in _ (by omega)
    have ewy8 : IntKind.i64.wrap (y + 8) = y + 8 := IntWalk.i64_in _ (by omega)
    clear HFV
    by_cases y0 : y < 0
    · rw [if_pos y0] at HA
      obtain ⟨x, hx⟩ : ∃ x, y + 8 = x := ⟨_, rfl⟩
      rw [hx] at HA
      replace ewy8 : IntKind.i64.wrap (y + 8) = x := ewy8.trans hx
      by_cases x1 : x = 1
      · have e1 : (x == 1) = true := beq_iff_eq.2 x1
        have E : Hid (fv = 0) := (by rw [HA.out, if_pos (Or.inl x1)] : fv = 0)
        have er := E.out
        clear x1 hx
        subst er
        go_wp2
        go_ret
        exact ⟨by first | rfl | simp, HB.out.trans (HB8.out.mono (by omega))⟩
      · have e1 : (x == 1) = false := beq_eq_false_iff_ne.2 x1
        by_cases x7 : x = 7
        · have e7 : (x == 7) = true := beq_iff_eq.2 x7
          have er : fv = 0 := by rw [HA.out, if_pos (Or.inr x7)]
          clear x1 x7 hx
          subst er
          go_wp2
          go_ret
          exact ⟨by first | rfl | simp, HB.out.trans (HB8.out.mono (by omega))⟩
        · have e7 : (x == 7) = false := beq_eq_false_iff_ne.2 x7
          have er : fv = 1 := by rw [HA.out, if_neg (by omega)]
          clear x1 x7 hx
          subst er
          go_wp2
          go_ret
          exact ⟨by first | rfl | simp, HB.out.trans (HB8.out.mono (by omega))⟩
    · rw [if_neg y0] at HA
      by_cases x1 : y = 1
      · have e1 : (y == 1) = true := beq_iff_eq.2 x1
        have er : fv = 0 := by rw [HA.out, if_pos (Or.inl x1)]
        clear x1
        subst er
        go_wp2
        go_ret
        exact ⟨by first | rfl | simp, HB.out.trans (HB8.out.mono (by omega))⟩
      · have e1 : (y == 1) = false := beq_eq_false_iff_ne.2 x1
        by_cases x7 : y = 7
        · have e7 : (y == 7) = true := beq_iff_eq.2 x7
          have er : fv = 0 := by rw [HA.out, if_pos (Or.inr x7)]
          clear x1 x7
          subst er
          go_wp2
          go_ret
          exact ⟨by first | rfl | simp, HB.out.trans (HB8.out.mono (by omega))⟩
        · have e7 : (y == 7) = false := beq_eq_false_iff_ne.2 x7
          have er : fv = 1 := by rw [HA.out, if_neg (by omega)]
          clear x1 x7
          subst er
          go_wp2
          go_ret
          exact ⟨by first | rfl | simp, HB.out.trans (HB8.out.mono (by omega))⟩
theorem arf_same {x d : Int} (h : d.natAbs = x.natAbs) : arN x = if (if d.tmod 8 < 0 then d.tmod 8 + 8 else d.tmod 8) = 1 ∨ (if d.tmod 8 < 0 then d.tmod 8 + 8 else d.tmod 8) = 7 then 0 else 1 := by
  unfold arN
  have e : max x (-x) = (d.natAbs : Int) := by omega
  rw [e]
  obtain ⟨k, hk⟩ : ∃ k, d.natAbs = k := ⟨_, rfl⟩
  rw [hk]
  have hkm : ((k : Int)).tmod 8 = ((k % 8 : Nat) : Int) := rfl
  have hdm : d.tmod 8 = ((k % 8 : Nat) : Int) ∨ d.tmod 8 = -((k % 8 : Nat) : Int) := by
    rcases Int.natAbs_eq d with q | q
    · left; rw [q, hk]; rfl
    · right; rw [q, hk, Int.neg_tmod]; rfl
  rw [hkm]
  rcases hdm with q | q <;> rw [q] <;> (repeat' split) <;> omega
theorem signTells_any (v : Value) (C : List Cr) (loops : Int) (w : World) (hl : C.length * 40 ≤ 140737488355328) (h : CrsW w w.heap.size v C) :
    Calls Try.prog 3 #[.agg #[v, .int .i64 loops]] w fun e w' => e = .returned (.bool true) ∧ Below w.heap.size w w' := by
  obtain ⟨a, cap, rfl⟩ := sls_crsT h
  by_cases hr : oneN C loops = 0
  · obtain ⟨hm, hp, ho⟩ := oneN_zero hr
    obtain ⟨s, hs⟩ := shd_ex hm hp ho
    obtain ⟨h0, -, -⟩ := one_con hm ho
    have hF := faces_few hm hp ho
    obtain ⟨s1, -, -, -⟩ := sizeB_iff (may_size hm)
    have hcl := cnS_le s 0 (facesM C).length
    have hm1 : 0 < cnS s 0 (facesM C).length := by
      have hw := wo_shade hm hs 0 0 h0 (by omega)
      have := cnS_lt s 0 hw.2.2.1 hw.1
      omega
    obtain ⟨n, hn⟩ : ∃ n, cnS s 0 (facesM C).length = n + 1 := ⟨cnS s 0 (facesM C).length - 1, by omega⟩
    have hnn : n ≤ 17 := by omega
    have hU : ∀ c, ((List.range n).map fun x => (goU C s 0 c x).natAbs).sum ≤ 2 := fun c => dl_sum _ _ n
    have eT : (fun i j => goT C s 0 C.length (i + 1) (j + 1)) = tU (goW C s 0) (goU C s 0) C.length := funext fun i => funext fun j => goT_tU C s 0 C.length i j
    have hsm := sqC_small (n := n) (m := C.length) (goW_one C s 0) hU (by omega) (by omega)
    rw [← eT] at hsm
    refine signTells_yes a cap C loops (n + 1) (walksM C).length (sigN C s n) (goF C s 0 C.length) (sgV (sqC (fun i j => goT C s 0 C.length (i + 1) (j + 1)) n) (n + 1)) (sqC (fun i j => goT C s 0 C.length (i + 1) (j + 1)) n n) (arN (sqC (fun i j => goT C s 0 C.length (i + 1) (j + 1)) n n)) (goT C s 0 C.length) w hl h hr rfl (walks_posS h0) (fun d hd => arf_same hd)
      (fun a cap W hW => signature_yes _ C loops s n W hm hp ho hs hn (by omega) hW) (fun a cap W hW => arf_yes _ C loops s n W hm hp ho hs hn (by omega) hsm hW)
      (fun a cap W hW => by have := goeritzOf_any a cap C loops s 0 W hm hp ho hs (by omega) hW; rw [hn] at this; exact this)
      (fun B gt ct gs W hT => by
        have := squaresOf_any B gt ct n C.length gs (goT C s 0 C.length) (goW C s 0) (goU C s 0) W hnn (by omega) (goW_one C s 0) (goU_gd C s 0 C.length) hU (fun i j _ _ => goT_tU C s 0 C.length i j) hT
        rw [← eT] at this
        exact this)
      (fun a cap W hW => (strandsOf_any a cap C loops W hm hW).mono (by
        rintro e w' ⟨v, rfl, hN, hb⟩
        obtain ⟨ys, y1, y2, -⟩ := hN
        obtain ⟨a2, c2, e2⟩ := own_capS y2
        exact ⟨a2, c2, by rw [e2, y1], hb⟩))
  · exact signTells_no a cap C loops _ w hl h rfl hr (fun a cap W hW => signature_no _ C loops W hr hW) (fun a cap W hW => arf_no _ C loops W hr hW)
end Go.Proofs.Ytlcogbcpmneknaa

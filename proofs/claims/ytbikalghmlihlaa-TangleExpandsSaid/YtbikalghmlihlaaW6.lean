/- Visits: lists of them that a call owns; the walks of gauss.visits and gauss.signs. -/
import Derived.Test.YtbikalghmlihlaaW5
namespace Go.Proofs.Ytbikalghmlihlaa
open Go.RowKit

/-- The visit to which arc a leads. -/
def vis (C : List Cr) (a : Nat) : Nat × Bool := (toC C a, !decide (toS C a = 0))
def visL (C : List Cr) (l : List Nat) : List (Nat × Bool) := l.map (vis C)
def visM (C : List Cr) : List (List (Nat × Bool)) := (walksM C).map (visL C)
/-- Visits as cells. -/
def vflat (V : List (Nat × Bool)) : List Value := V.flatMap fun t => [.int .i64 (t.1 : Nat), .bool t.2]
theorem vflat_length (l : List (Nat × Bool)) : (vflat l).length = l.length * 2 := by
  induction l with
  | nil => rfl
  | cons t l ih => simp [vflat] at *; omega
theorem vflat_append (l m : List (Nat × Bool)) : vflat (l ++ m) = vflat l ++ vflat m := by simp [vflat]
theorem vflat_get (l : List (Nat × Bool)) (i : Nat) (hi : i < l.length) : (vflat l)[i * 2]? = some (.int .i64 ((l.getD i (0, false)).1 : Nat)) ∧ (vflat l)[i * 2 + 1]? = some (.bool (l.getD i (0, false)).2) := by
  induction l generalizing i with
  | nil => simp at hi
  | cons t l ih =>
    have e : vflat (t :: l) = .int .i64 (t.1 : Nat) :: .bool t.2 :: vflat l := rfl
    cases i with
    | zero => rw [e]; exact ⟨rfl, rfl⟩
    | succ i =>
      have := ih i (by simpa using hi)
      rw [e, show (i + 1) * 2 = i * 2 + 1 + 1 by omega]
      exact this
theorem vflat_set (l : List (Nat × Bool)) (i : Nat) (hi : i < l.length) (t : Nat × Bool) : ((vflat l).set (i * 2) (.int .i64 (t.1 : Nat))).set (i * 2 + 1) (.bool t.2) = vflat (l.set i t) := by
  induction l generalizing i with
  | nil => simp at hi
  | cons s l ih =>
    have e : vflat (s :: l) = .int .i64 (s.1 : Nat) :: .bool s.2 :: vflat l := rfl
    cases i with
    | zero => rw [e]; rfl
    | succ i =>
      have := ih i (by simpa using hi)
      have e2 : vflat ((s :: l).set (i + 1) t) = .int .i64 (s.1 : Nat) :: .bool s.2 :: vflat (l.set i t) := rfl
      rw [e, e2, show (i + 1) * 2 = i * 2 + 1 + 1 by omega, List.set_cons_succ, List.set_cons_succ, List.set_cons_succ, List.set_cons_succ, this]
theorem vflat_one (l : List (Nat × Bool)) : ∀ u ∈ vflat l, u.oneCell' = true := by
  intro u hu
  simp only [vflat, List.mem_flatMap] at hu
  obtain ⟨t, _, ht⟩ := hu
  simp at ht
  rcases ht with rfl | rfl <;> rfl
theorem vflat_zeros (n : Nat) : (madeCells #[Value.int .i64 0, .bool false] (n * 2)).toList = vflat (List.replicate n (0, false)) := by
  apply List.ext_getElem?
  intro j
  by_cases hj : j < n * 2
  · have g := vflat_get (List.replicate n (0, false)) (j / 2) (by simp; omega)
    have e : (List.replicate n ((0 : Nat), false)).getD (j / 2) (0, false) = (0, false) := by
      rw [List.getD_eq_getElem?_getD, List.getElem?_replicate]
      split <;> rfl
    rw [e] at g
    simp only [madeCells]
    rcases Nat.mod_two_eq_zero_or_one j with h | h
    · rw [show j / 2 * 2 = j by omega] at g
      rw [g.1]
      simp [hj, h]
    · rw [show j / 2 * 2 + 1 = j by omega] at g
      rw [g.2]
      simp [hj, h]
  · rw [List.getElem?_eq_none (by simp [madeCells]; omega), List.getElem?_eq_none (by rw [vflat_length]; simp; omega)]
/-- What the loop has done behind i visits. -/
def partTo (C : List Cr) (l : List Nat) (i : Nat) : List (Nat × Bool) := visL C (l.take i) ++ List.replicate (l.length - i) (0, false)
theorem part_len (C : List Cr) (l : List Nat) (i : Nat) (h : i ≤ l.length) : (partTo C l i).length = l.length := by simp [partTo, visL]; omega
theorem part_next (C : List Cr) (l : List Nat) (i : Nat) (h : i < l.length) : (partTo C l i).set i (vis C (l.getD i 0)) = partTo C l (i + 1) := by
  unfold partTo visL
  rw [List.set_append_right _ _ (by simp; omega)]
  have e : l.length - i = (l.length - (i + 1)) + 1 := by omega
  have e2 : l.take (i + 1) = l.take i ++ [l.getD i 0] := by
    rw [List.take_add_one, List.getD_eq_getElem?_getD, List.getElem?_eq_getElem h]
    rfl
  rw [e2, List.map_append, e, List.replicate_succ]
  simp [Nat.min_eq_left (Nat.le_of_lt h)]
theorem part_all (C : List Cr) (l : List Nat) : partTo C l l.length = visL C l := by simp [partTo]
/-- A list of lists of visits that a call itself owns. -/
def VisOwn (w : World) (B : Nat) (v : Value) (L : List (List (Nat × Bool))) : Prop :=
  ∃ ys : List Value, ys.length = L.length ∧ w.ownsRow B 118 1 v ys.length ys ∧ ∀ j, j < L.length → w.ownsRow B 182 2 (ys.getD j (.bool false)) (L.getD j []).length (vflat (L.getD j []))
theorem VisOwn.any {w w' : World} {B : Nat} {v : Value} {L : List (List (Nat × Bool))} (h : VisOwn w B v L) (hg : w.grownBy w' none) : VisOwn w' B v L := by
  obtain ⟨ys, h1, h2, h3⟩ := h
  exact ⟨ys, h1, own_any h2 hg, fun j hj => own_any (h3 j hj) hg⟩
theorem VisOwn.low {w : World} {B B' : Nat} {v : Value} {L : List (List (Nat × Bool))} (h : VisOwn w B v L) (hB : B' ≤ B) : VisOwn w B' v L := by
  obtain ⟨ys, h1, h2, h3⟩ := h
  exact ⟨ys, h1, own_low h2 hB, fun j hj => own_low (h3 j hj) hB⟩
theorem infoVisit : (Try.prog.info? 182).map (fun i => (i.zero, i.size, i.bytes)) = some (some (.agg #[.int .i64 0, .bool false]), 2, 16) := by kernel_rfl
theorem infoVisits : (Try.prog.info? 118).map (fun i => (i.zero, i.size, i.bytes)) = some (some (.slice none 0 0), 1, 24) := by kernel_rfl
theorem own_stv {w : World} {B e n g cap i : Nat} {l : List (Nat × Bool)} {t : Nat × Bool} (h : w.ownsRow B e 2 (.slice (some ⟨g, 0, none⟩) n cap) n (vflat l)) (hi : i < l.length) : (st2 w g (i * 2) (.int .i64 (t.1 : Nat)) (.bool t.2)).ownsRow B e 2 (.slice (some ⟨g, 0, none⟩) n cap) n (vflat (l.set i t)) := by
  have h1 := (h.stored (i * 2) (.int .i64 (t.1 : Nat))).1
  have h2 := (h1.stored (i * 2 + 1) (.bool t.2)).1
  rw [vflat_set l i hi t] at h2
  exact h2
/-- The walks as one looks at them. -/
def WksAt (w : World) (v : Value) (L : List (List Nat)) : Prop := ∃ ys : List Value, ys.length = L.length ∧ Slots w w.heap.size v ys ∧ ∀ j, j < L.length → Slots w w.heap.size (ys.getD j (.bool false)) (nats (L.getD j []))
theorem NatsOwn.wks {w : World} {B : Nat} {v : Value} {L : List (List Nat)} (h : NatsOwn w B v L) : WksAt w v L := by
  obtain ⟨ys, h1, h2, h3⟩ := h
  exact ⟨ys, h1, slots_of_own h2, fun j hj => slots_of_own (h3 j hj)⟩
theorem WksAt.on {w w' : World} {v : Value} {L : List (List Nat)} (h : WksAt w v L) (hb : Below w.heap.size w w') : WksAt w' v L := by
  obtain ⟨ys, h1, h2, h3⟩ := h
  exact ⟨ys, h1, (h2.on hb).mono hb.size, fun j hj => ((h3 j hj).on hb).mono hb.size⟩
theorem walksM_facts {C : List Cr} {loops : Int} (hm : mayD C loops = true) : (walksM C).length ≤ 2 * C.length ∧ ∀ j, j < (walksM C).length → 0 < ((walksM C).getD j []).length ∧ ((walksM C).getD j []).length ≤ 2 * C.length + 1 ∧ ∀ i, i < ((walksM C).getD j []).length → 1 ≤ ((walksM C).getD j []).getD i 0 ∧ ((walksM C).getD j []).getD i 0 ≤ 2 * C.length := by
  refine ⟨walksTo_count _ _ _, fun j hj => ?_⟩
  have hmem : (walksM C).getD j [] ∈ walksM C := by
    rw [List.getD_eq_getElem?_getD, List.getElem?_eq_getElem hj]
    exact List.getElem_mem hj
  have h := walksTo_mem (nx_closed hm) (2 * C.length) (Nat.le_refl _) _ hmem
  clear hmem
  generalize (walksM C).getD j [] = l at h
  refine ⟨List.length_pos_iff.2 h.1, h.2.1, fun i hi => h.2.2 _ ?_⟩
  rw [List.getD_eq_getElem?_getD, List.getElem?_eq_getElem hi]
  exact List.getElem_mem hi

set_option maxHeartbeats 8000000 in
set_option maxRecDepth 100000 in
theorem visits_any (a : Option Addr) (cap : Nat) (C : List Cr) (loops : Int) (gF cF gT cT : Nat) (w : World) (hm : mayD C loops = true) (hD : Dr w a cap C gF gT) :
    Calls Try.prog 66 #[drV a cap C loops gF cF gT cT] w fun e w' => ∃ v, e = .returned v ∧ VisOwn w' w.heap.size v (visM C) ∧ Below w.heap.size w w' := by
  obtain ⟨s1, -, -, -⟩ := sizeB_iff (may_size hm)
  obtain ⟨i0, hi, hz0, hz1, hz2⟩ := info_parts infoVisit
  obtain ⟨i1, hj, hy0, hy1, hy2⟩ := info_parts infoVisits
  unfold drV
  have HM : Hid (mayD C loops = true) := hm
  have HD : Hid (Dr w a cap C gF gT) := hD
  obtain ⟨hlw, hfw⟩ := walksM_facts hm
  have HFW : Hid (∀ j, j < (walksM C).length → 0 < ((walksM C).getD j []).length ∧ ((walksM C).getD j []).length ≤ 2 * C.length + 1 ∧ ∀ i, i < ((walksM C).getD j []).length → 1 ≤ ((walksM C).getD j []).getD i 0 ∧ ((walksM C).getD j []).getD i 0 ≤ 2 * C.length) := hfw
  have HVM : Hid (visM C = (walksM C).map (visL C)) := (rfl : visM C = (walksM C).map (visL C))
  clear hm hD hfw
  generalize visM C = VM at HVM
  obtain ⟨w0, hw0⟩ : ∃ w0, w0 = w.alloc (.cells #[.slice a C.length cap, .int .i64 loops, .slice (some ⟨gF, 0, none⟩) (2 * C.length + 1) cF, .slice (some ⟨gT, 0, none⟩) (2 * C.length + 1) cT] 103) := ⟨_, rfl⟩
  have HW0 : Hid (w0 = w.alloc (.cells #[.slice a C.length cap, .int .i64 loops, .slice (some ⟨gF, 0, none⟩) (2 * C.length + 1) cF, .slice (some ⟨gT, 0, none⟩) (2 * C.length + 1) cT] 103)) := hw0
  have hs0 : w0.heap.size = w.heap.size + 1 := by rw [hw0]; simp
  have HB0 : Hid (Below w.heap.size w w0) := (by rw [hw0]; exact (Below.refl _ _).alloc (Nat.le_refl _) _ : Below w.heap.size w w0)
  have HT0 : Hid (w0.heap[w.heap.size]? = some (.cells #[.slice a C.length cap, .int .i64 loops, .slice (some ⟨gF, 0, none⟩) (2 * C.length + 1) cF, .slice (some ⟨gT, 0, none⟩) (2 * C.length + 1) cT] 103 (0, 0))) := (by rw [hw0]; exact alloc_at rfl : w0.heap[w.heap.size]? = some (.cells #[.slice a C.length cap, .int .i64 loops, .slice (some ⟨gF, 0, none⟩) (2 * C.length + 1) cF, .slice (some ⟨gT, 0, none⟩) (2 * C.length + 1) cT] 103 (0, 0)))
  have HD0 : Hid (Dr w0 a cap C gF gT) := HD.out.on HB0.out
  go_enter Try.func66, Try.ntmps66
  go_wp2_with (go_at_call 76; rw [← HW0.out]; refine (walks_any a cap C loops gF cF gT cT _ HM.out HD0.out).mono ?_; rintro e9 w2 ⟨r, rfl, hr, hb2⟩; refine Hid.out ?_)
  refine Lib.hid ?_
  clear hw0
  have HWK : Hid (WksAt w2 r (walksM C)) := hr.wks
  have HB2 : Hid (Below w.heap.size w w2) := HB0.out.trans (hb2.mono HB0.out.size)
  have HT2 : Hid (w2.heap[w.heap.size]? = some (.cells #[.slice a C.length cap, .int .i64 loops, .slice (some ⟨gF, 0, none⟩) (2 * C.length + 1) cF, .slice (some ⟨gT, 0, none⟩) (2 * C.length + 1) cT] 103 (0, 0))) := (hb2.block _ (by omega)).trans HT0.out
  have HD2 : Hid (Dr w2 a cap C gF gT) := HD.out.on HB2.out
  have hs2 : w.heap.size + 1 ≤ w2.heap.size := by have := hb2.size; omega
  clear hr hb2 HT0 HB0 HD0 HW0
  obtain ⟨ys, hyl, ⟨ar, cr, rfl, gr⟩, hwk⟩ := HWK.out
  rw [hyl] at gr ⊢
  have HGR : Hid (0 < (walksM C).length → ∃ b off, ar = some ⟨b, off, none⟩ ∧ b < w2.heap.size ∧ ∀ i, i < (walksM C).length → w2.cell? ⟨b, off + i, none⟩ = some (ys.getD i (.bool false))) := gr
  have HWS : Hid (∀ j, j < (walksM C).length → Slots w2 w2.heap.size (ys.getD j (.bool false)) (nats ((walksM C).getD j []))) := hwk
  clear gr hwk HWK
  obtain ⟨L, hL⟩ : ∃ L, walksM C = L := ⟨_, rfl⟩
  rw [hL] at hyl hlw HFW HVM HGR HWS ⊢
  go_wp2
  go_loopw [3, 12] (fun v3 v12 wr => ∃ (k : Nat) (zs : List Value), k ≤ L.length ∧ v12 = .int .i64 k ∧ zs.length = k ∧ wr.ownsRow w2.heap.size 118 1 v3 zs.length zs ∧ Hid (∀ j, j < k → wr.ownsRow w2.heap.size 182 2 (zs.getD j (.bool false)) (visL C (L.getD j [])).length (vflat (visL C (L.getD j [])))) ∧ Below w2.heap.size w2 wr) (fun _ v12 _ => L.length - (intOf v12).toNat)
  case atStart => exact ⟨0, [], Nat.zero_le _, rfl, rfl, World.ownsRow_nil _ _ _ _, fun j hj => absurd hj (Nat.not_lt_zero _), Below.refl _ _⟩
  case round =>
    rename World => W1
    obtain ⟨k, zs, hkl, rfl, hzl, hown, heach, hb⟩ := hrel
    have hszW := hb.size
    by_cases hlt : k < L.length
    · obtain ⟨br, orr, rfl, hbr, hcr⟩ := HGR.out (by omega)
      obtain ⟨aw, cw, hvw, gw⟩ := HWS.out k hlt
      rw [nats_len] at hvw gw
      have c0 : W1.cell? ⟨br, orr + k, none⟩ = some (.slice aw (L.getD k []).length cw) := by rw [← hvw]; exact bcell hb hbr (hcr k hlt)
      obtain ⟨hp, hlw2, hfx⟩ := HFW.out k hlt
      have HGW : Hid (0 < (L.getD k []).length → ∃ b off, aw = some ⟨b, off, none⟩ ∧ b < w2.heap.size ∧ ∀ i, i < (L.getD k []).length → w2.cell? ⟨b, off + i, none⟩ = some ((nats (L.getD k [])).getD i (.bool false))) := gw
      have HFX : Hid (∀ i, i < (L.getD k []).length → 1 ≤ (L.getD k []).getD i 0 ∧ (L.getD k []).getD i 0 ≤ 2 * C.length) := hfx
      have HLK : Hid (∀ j, j < k + 1 → ∀ (zv : Value) (wx : World), wx.ownsRow w2.heap.size 182 2 zv (visL C (L.getD k [])).length (vflat (visL C (L.getD k []))) → j = k → wx.ownsRow w2.heap.size 182 2 zv (visL C (L.getD j [])).length (vflat (visL C (L.getD j [])))) := fun j _ zv wx hx he => by rw [he]; exact hx
      clear hcr hvw gw hfx
      generalize L.getD k [] = wk at c0 hp hlw2 HGW HFX HLK
      have HOW : Hid (W1.ownsRow w2.heap.size 118 1 _ zs.length zs) := hown
      have HEA : Hid (∀ j, j < k → W1.ownsRow w2.heap.size 182 2 (zs.getD j (.bool false)) (visL C (L.getD j [])).length (vflat (visL C (L.getD j [])))) := heach
      have HBW : Hid (Below w2.heap.size w2 W1) := hb
      have hbr1 : br < W1.heap.size := by omega
      clear hown heach
      go_wp2_with (first | (at_make; refine wpList_make_full _ rfl _ _ 118 rfl W1.heap.size 182 i0 (.agg #[.int .i64 0, .bool false]) 2 Try.underlying118 hi hz0 hz1 .i64 .i64 _ _ wk.length rfl rfl rfl rfl (by rw [hz2]; omega) (by unfold maxLen; omega) (Nat.le_refl _) ?_; intro w4 hrow hg4; refine Hid.out ?_))
      refine Lib.hid ?_
      have hrow2 : w4.ownsRow W1.heap.size 182 2 (.slice (some ⟨W1.heap.size, 0, none⟩) wk.length wk.length) wk.length (vflat (partTo C wk 0)) := by
        have e : (Value.agg #[.int .i64 0, .bool false]).cells = #[Value.int .i64 0, .bool false] := rfl
        rw [e, vflat_zeros] at hrow
        have e2 : partTo C wk 0 = List.replicate wk.length (0, false) := by simp [partTo, visL]
        rw [e2]
        exact hrow
      have hb4 : Below W1.heap.size W1 w4 := (Below.refl _ _).grown hg4 (Nat.le_refl _) (fun j hj => by cases hj)
      clear hrow hg4 c0
      go_wp2
      go_loopw [21] (fun v21 ws => ∃ i : Nat, i ≤ wk.length ∧ v21 = .int .i64 i ∧ ws.ownsRow W1.heap.size 182 2 (.slice (some ⟨W1.heap.size, 0, none⟩) wk.length wk.length) wk.length (vflat (partTo C wk i)) ∧ Below W1.heap.size W1 ws) (fun v21 _ => wk.length - (intOf v21).toNat)
      case atStart => exact ⟨0, Nat.zero_le _, rfl, hrow2, hb4⟩
      case round =>
        clear hrow2 hb4 hb
        rename World => W3
        obtain ⟨i, hin, rfl, hrow, hb⟩ := hrel
        have hszY := hb.size
        have hgl := (hrow.lt W1.heap.size rfl).2
        by_cases hil : i < wk.length
        · obtain ⟨bw, ow, rfl, hbw, hcw⟩ := HGW.out hp
          have HB23 : Hid (Below w2.heap.size w2 W3) := HBW.out.trans (hb.mono hszW)
          have e0 : W3.cell? ⟨bw, ow + i, none⟩ = some (.int .i64 (wk.getD i 0 : Nat)) := by
            have h := bcell HB23.out hbw (hcw i hil)
            rw [List.getD_eq_getElem?_getD, nats_get wk i hil] at h
            exact h
          obtain ⟨hx1, hx2⟩ := HFX.out i hil
          have HRS : Hid (∀ wx, wx.ownsRow W1.heap.size 182 2 (.slice (some ⟨W1.heap.size, 0, none⟩) wk.length wk.length) wk.length (vflat (partTo C wk i)) → (st2 wx W1.heap.size (i * 2) (.int .i64 ((vis C (wk.getD i 0)).1 : Nat)) (.bool (vis C (wk.getD i 0)).2)).ownsRow W1.heap.size 182 2 (.slice (some ⟨W1.heap.size, 0, none⟩) wk.length wk.length) wk.length (vflat (partTo C wk (i + 1)))) := fun wx hx => by
            have := own_stv (t := vis C (wk.getD i 0)) hx (by rw [part_len C wk i hin]; exact hil)
            rw [part_next C wk i hil] at this
            exact this
          have HPL : Hid ((partTo C wk i).length = wk.length) := part_len C wk i hin
          clear hcw
          obtain ⟨x, hxe⟩ : ∃ x, wk.getD i 0 = x := ⟨_, rfl⟩
          rw [hxe] at e0 hx1 hx2 HRS
          clear hxe
          have HRW : Hid (W3.ownsRow W1.heap.size 182 2 (.slice (some ⟨W1.heap.size, 0, none⟩) wk.length wk.length) wk.length (vflat (partTo C wk i))) := hrow
          have HF : Hid (∀ w', Below W3.heap.size W3 w' → w'.cell? ⟨w.heap.size, 0, none⟩ = some (.slice a C.length cap) ∧ w'.cell? ⟨w.heap.size, 1, none⟩ = some (.int .i64 loops) ∧ w'.cell? ⟨w.heap.size, 2, none⟩ = some (.slice (some ⟨gF, 0, none⟩) (2 * C.length + 1) cF) ∧ w'.cell? ⟨w.heap.size, 3, none⟩ = some (.slice (some ⟨gT, 0, none⟩) (2 * C.length + 1) cT) ∧ w'.cell? ⟨gT, x * 2, none⟩ = some (.int .i64 (toC C x : Nat))) := fun w' hw' => by
            have hB := HB23.out.trans (hw'.mono HB23.out.size)
            have g0 := (hB.block _ (by omega)).trans HT2.out
            have hT := (HD2.out.on hB).toAt HM.out x hx1 hx2
            exact ⟨block_cell g0 rfl, block_cell g0 rfl, block_cell g0 rfl, block_cell g0 rfl, hT.1⟩
          have hgT : gT < w2.heap.size := HD2.out.ltT
          have HFS : Hid (∀ wX u v, Below W3.heap.size W3 wX → (fun w' => w'.cell? ⟨w.heap.size, 0, none⟩ = some (.slice a C.length cap) ∧ w'.cell? ⟨w.heap.size, 1, none⟩ = some (.int .i64 loops) ∧ w'.cell? ⟨w.heap.size, 2, none⟩ = some (.slice (some ⟨gF, 0, none⟩) (2 * C.length + 1) cF) ∧ w'.cell? ⟨w.heap.size, 3, none⟩ = some (.slice (some ⟨gT, 0, none⟩) (2 * C.length + 1) cT) ∧ w'.cell? ⟨gT, x * 2, none⟩ = some (.int .i64 (toC C x : Nat))) (st2 wX W1.heap.size (i * 2) u v)) := fun wX u v hX => by
            obtain ⟨f0, f1, f2, f3, f4⟩ := HF.out wX hX
            have hg := st2_grown wX W1.heap.size (i * 2) u v
            exact ⟨hg.cell f0 (fun e => by have := Option.some.inj e; simp only at this; omega), hg.cell f1 (fun e => by have := Option.some.inj e; simp only at this; omega), hg.cell f2 (fun e => by have := Option.some.inj e; simp only at this; omega), hg.cell f3 (fun e => by have := Option.some.inj e; simp only at this; omega), hg.cell f4 (fun e => by have := Option.some.inj e; simp only at this; omega)⟩
          have HZ : Hid (∀ wX, Below W3.heap.size W3 wX → (∃ u1 u2, wX.cell? ⟨W1.heap.size, i * 2, none⟩ = some u1 ∧ wX.cell? ⟨W1.heap.size, i * 2 + 1, none⟩ = some u2) ∧ wX.frozen? ⟨W1.heap.size, i * 2, none⟩ = false ∧ wX.frozen? ⟨W1.heap.size, i * 2 + 1, none⟩ = false) := fun wX hX => by
            have hr := own_any HRW.out (grown_below hX none)
            have g := vflat_get (partTo C wk i) i (by rw [HPL.out]; exact hil)
            exact ⟨⟨_, _, (hr.cellAt (i * 2) (by omega)).trans g.1, (hr.cellAt (i * 2 + 1) (by omega)).trans g.2⟩, hr.frozenAt _, hr.frozenAt _⟩
          have HDW : Hid (Below W3.heap.size W3 W3.drew) := (Below.refl _ _).drew
          obtain ⟨t0, t1, t2, t3, t4⟩ := HF.out W3 (Below.refl _ _)
          have hxl : x < 2 * C.length + 1 := by omega
          have hbw3 : bw < W3.heap.size := by omega
          have hgT3 : gT < W3.heap.size := by omega
          clear hrow
          have HDD : Hid (∀ wX, Below W3.heap.size W3 wX → Dr wX a cap C gF gT) := fun wX hX => (HD2.out.on HB23.out).on hX
          have hdi : decide ((i : Int) < (wk.length : Int)) = true := by simp; omega
          have hdi2 : decide (i < wk.length) = true := by simp; omega
          have n0 : (0 : Int) ≤ (x : Int) := by omega
          have n1 : (x : Int) < 2 * (C.length : Int) + 1 := by omega
          have n2 : (x : Int) < ((2 * C.length + 1 : Nat) : Int) := by omega
          have n3 : (0 : Int) ≤ (i : Int) := by omega
          have n4 : (i : Int) < (wk.length : Int) := by omega
          go_wp2
          go_region_held3 (fun w' => w'.cell? ⟨w.heap.size, 0, none⟩ = some (.slice a C.length cap) ∧ w'.cell? ⟨w.heap.size, 1, none⟩ = some (.int .i64 loops) ∧ w'.cell? ⟨w.heap.size, 2, none⟩ = some (.slice (some ⟨gF, 0, none⟩) (2 * C.length + 1) cF) ∧ w'.cell? ⟨w.heap.size, 3, none⟩ = some (.slice (some ⟨gT, 0, none⟩) (2 * C.length + 1) cT) ∧ w'.cell? ⟨gT, x * 2, none⟩ = some (.int .i64 (toC C x : Nat))) (first | exact HF.out _ HA.out | exact HF.out _ HDW.out | exact HF.out _ (Below.refl _ _) | exact HFS.out _ _ _ HA.out) (first
            | (go_at_call 128; refine (above_any a cap C loops gF cF gT cT x _ HM.out hx1 hx2 (HDD.out _ HDW.out)).mono ?_; rintro e9 wA ⟨rfl, hbA⟩
               have HA : Hid (Below W3.heap.size W3 wA) := HDW.out.trans hbA
               obtain ⟨a0, a1, a2, a3, a4⟩ := HF.out wA HA.out
               obtain ⟨⟨u1, u2, b0, b1⟩, b2, b3⟩ := HZ.out wA HA.out
               have hgA : W1.heap.size < wA.heap.size := by have := HA.out.size; omega
               clear hbA))
          all_goals
            go_wp2
            go_roundw
          all_goals first | (simp only [intOf]; omega) | skip
          all_goals exact ⟨i + 1, by omega, by go_num, HRS.out wA (own_any HRW.out (grown_below HA.out none)), (hb.trans (HA.out.mono hszY)).grown (st2_grown wA W1.heap.size (i * 2) (.int .i64 ((vis C x).1 : Nat)) (.bool (vis C x).2)) (by have := HA.out.size; omega) (fun q hq => by have := Option.some.inj hq; omega)⟩
        · obtain rfl : i = wk.length := by omega
          rw [part_all] at hrow
          have hvl : (visL C wk).length = wk.length := by simp [visL]
          have HRW : Hid (W3.ownsRow w2.heap.size 182 2 (.slice (some ⟨W1.heap.size, 0, none⟩) wk.length wk.length) (visL C wk).length (vflat (visL C wk))) := (by rw [hvl]; exact own_low hrow hszW : W3.ownsRow w2.heap.size 182 2 (.slice (some ⟨W1.heap.size, 0, none⟩) wk.length wk.length) (visL C wk).length (vflat (visL C wk)))
          have HON : Hid (∀ u ∈ [Value.slice (some ⟨W1.heap.size, 0, none⟩) wk.length wk.length], u.oneCell' = true) := own_oneS hrow
          have HO3 : Hid (W3.ownsRow w2.heap.size 118 1 _ zs.length zs) := own_any HOW.out (grown_below hb none)
          have HE3 : Hid (∀ j, j < k → W3.ownsRow w2.heap.size 182 2 (zs.getD j (.bool false)) (visL C (L.getD j [])).length (vflat (visL C (L.getD j [])))) := fun j hj => own_any (HEA.out j hj) (grown_below hb none)
          have HB3 : Hid (Below w2.heap.size w2 W3) := HBW.out.trans (hb.mono hszW)
          clear hrow hb
          go_wp2_with (first
            | (at_builtin; refine wpList_append_own _ rfl _ _ 26 rfl w2.heap.size 118 i1 (.slice none 0 0) 1 24 Try.underlying26 hj hy0 hy1 hy2 rfl (by decide) _ _ _ rfl (HO3.out.alloc _) ⟨W3.heap.size, 0, none⟩ 1 1 [Value.slice (some ⟨W1.heap.size, 0, none⟩) wk.length wk.length] rfl rfl (new_cell1 _ _ _) HON.out (by unfold maxLen; omega) (by omega) (by simp; omega) ?_; intro v8 w8 hown8 hg8 _; go_frame))
          go_roundw
          case rel =>
            have hR := HO3.out.alloc (.cells #[Value.slice (some ⟨W1.heap.size, 0, none⟩) wk.length wk.length] 118)
            have hO := HRW.out.alloc (.cells #[Value.slice (some ⟨W1.heap.size, 0, none⟩) wk.length wk.length] 118)
            refine ⟨k + 1, zs ++ [Value.slice (some ⟨W1.heap.size, 0, none⟩) wk.length wk.length], by omega, by go_num, by simp; omega, by rw [List.length_append]; exact hown8, fun j hjl => ?_, (HB3.out.alloc (by omega) _).grown hg8 (by simp; omega) (fun q hq => (hR.lt q hq).1)⟩
            by_cases hjk : j < k
            · rw [getD_left zs _ j (by omega)]
              have h1 := (HE3.out j hjk).alloc (.cells #[Value.slice (some ⟨W1.heap.size, 0, none⟩) wk.length wk.length] 118)
              exact h1.kept hg8 (own_ne h1 hR (by decide))
            · have ej : j = zs.length := by omega
              have e2 : (zs ++ [Value.slice (some ⟨W1.heap.size, 0, none⟩) wk.length wk.length]).getD j (.bool false) = Value.slice (some ⟨W1.heap.size, 0, none⟩) wk.length wk.length := by rw [ej]; exact getD_last zs _
              rw [e2]
              exact HLK.out j hjl _ _ (hO.kept hg8 (own_ne hO hR (by decide))) (by omega)
          case measure => simp only [intOf]; omega
    · obtain rfl : k = L.length := by omega
      go_wp2
      go_ret
      refine ⟨_, rfl, ⟨zs, by rw [HVM.out, List.length_map]; exact hzl, own_low hown (by omega), fun j hjl => ?_⟩, HB2.out.trans (hb.mono HB2.out.size)⟩
      rw [HVM.out] at hjl ⊢
      rw [List.length_map] at hjl
      have e : (L.map (visL C)).getD j [] = visL C (L.getD j []) := by rw [List.getD_eq_getElem?_getD, List.getElem?_map, List.getD_eq_getElem?_getD, List.getElem?_eq_getElem hjl]; rfl
      rw [e]
      exact own_low (heach.out j hjl) (by omega)
end Go.Proofs.Ytbikalghmlihlaa

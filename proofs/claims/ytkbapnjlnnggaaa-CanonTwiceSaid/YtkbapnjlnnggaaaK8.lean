/- The walk of canon.reversed. -/
import Derived.Test.YtkbapnjlnnggaaaK6P
import Derived.Test.YtkbapnjlnnggaaaM1
import Derived.Deep.Cut
namespace Go.Proofs.Ytkbapnjlnnggaaa
open Go.RowKit Go.Maps

theorem count_two (L : List (List Nat)) (i j a : Nat) (hij : j < i) (hi : i < L.length) (h1 : a ∈ L.getD j []) (h2 : a ∈ L.getD i []) : 2 ≤ L.flatten.count a := by
  induction L generalizing i j with
  | nil => simp at hi
  | cons x L ih =>
    obtain ⟨i, rfl⟩ : ∃ k, i = k + 1 := ⟨i - 1, by omega⟩
    have e2 : (x :: L).getD (i + 1) [] = L.getD i [] := rfl
    rw [e2] at h2
    have hi' : i < L.length := by simpa using hi
    cases j with
    | zero =>
      have e1 : (x :: L).getD 0 [] = x := rfl
      rw [e1] at h1
      rw [List.flatten_cons, List.count_append]
      have c1 : 0 < x.count a := List.count_pos_iff.2 h1
      have c2 : 0 < L.flatten.count a := List.count_pos_iff.2 (List.mem_flatten.2 ⟨L.getD i [], by rw [List.getD_eq_getElem?_getD, List.getElem?_eq_getElem hi']; exact List.getElem_mem hi', h2⟩)
      omega
    | succ j =>
      have e1 : (x :: L).getD (j + 1) [] = L.getD j [] := rfl
      rw [e1] at h1
      have := ih i j (by omega) hi' h1 h2
      rw [List.flatten_cons, List.count_append]
      omega
/-- No arc stands in two walks; each stands in one. -/
theorem walks_apart {C : List Cr} {loops : Int} (hm : mayD C loops = true) (i j a : Nat) (hij : j < i) (hi : i < (walksM C).length) (h1 : a ∈ (walksM C).getD j []) : a ∉ (walksM C).getD i [] := by
  intro h2
  have hmem : (walksM C).getD i [] ∈ walksM C := by
    rw [List.getD_eq_getElem?_getD, List.getElem?_eq_getElem hi]
    exact List.getElem_mem hi
  have hr := (walksTo_mem (nx_closed hm) (2 * C.length) (Nat.le_refl _) _ hmem).2.2 a h2
  have h3 := count_two (walksM C) i j a hij hi h1 h2
  have h4 : (walksM C).flatten.count a = 1 := walks_once (nx C) (2 * C.length) a hr.1 hr.2
  omega
theorem walks_some {C : List Cr} {a : Nat} (h1 : 1 ≤ a) (h2 : a ≤ 2 * C.length) : ∃ j, j < (walksM C).length ∧ a ∈ (walksM C).getD j [] := by
  have h4 : (walksM C).flatten.count a = 1 := walks_once (nx C) (2 * C.length) a h1 h2
  have hm : a ∈ (walksM C).flatten := List.count_pos_iff.1 (by omega)
  obtain ⟨l, hl, ha⟩ := List.mem_flatten.1 hm
  obtain ⟨j, hj, rfl⟩ := List.getElem_of_mem hl
  exact ⟨j, hj, by rw [List.getD_eq_getElem?_getD, List.getElem?_eq_getElem hj]; exact ha⟩
/-- What the map holds behind k arcs of the walk i. -/
def MapTo (L : List (List Nat)) (D : DataW Unit) (i k : Nat) : Prop := (∀ j a, j < i → a ∈ L.getD j [] → coefOf D (a : Nat) = (j : Nat)) ∧ ∀ t, t < k → coefOf D ((L.getD i []).getD t 0 : Nat) = (i : Nat)
theorem MapTo.step {L : List (List Nat)} {D : DataW Unit} {i k : Nat} (h : MapTo L D i k) (hD : IsMap D) (hd : ∀ j a, j < i → a ∈ L.getD j [] → a ∉ L.getD i []) (hk : k < (L.getD i []).length) : MapTo L (D.put (.int .i64 ((L.getD i []).getD k 0 : Nat)) (.lit (.int .i64 (i : Nat)))) i (k + 1) := by
  refine ⟨fun j a hj ha => ?_, fun t ht => ?_⟩
  · rw [coefOf_put hD, if_neg]
    · exact h.1 j a hj ha
    · intro e
      have e2 : (L.getD i []).getD k 0 = a := by omega
      refine hd j a hj ha ?_
      rw [← e2]
      generalize L.getD i [] = l at hk
      rw [List.getD_eq_getElem?_getD, List.getElem?_eq_getElem hk]
      exact List.getElem_mem hk
  · rw [coefOf_put hD]
    split
    · rfl
    · next e =>
      by_cases e2 : t = k
      · subst e2; exact absurd rfl e
      · exact h.2 t (by omega)
theorem MapTo.row {L : List (List Nat)} {D : DataW Unit} {i : Nat} (h : MapTo L D i (L.getD i []).length) : MapTo L D (i + 1) 0 := by
  refine ⟨fun j a hj ha => ?_, fun t ht => absurd ht (Nat.not_lt_zero _)⟩
  by_cases e : j = i
  · subst e
    obtain ⟨t, ht, rfl⟩ := List.getElem_of_mem ha
    have := h.2 t ht
    rw [List.getD_eq_getElem?_getD, List.getElem?_eq_getElem ht] at this
    exact this
  · exact h.1 j a (by omega) ha
/-- The map tells of each arc whether it stands in the part. -/
theorem map_part {C : List Cr} {loops : Int} (hm : mayD C loops = true) {D : DataW Unit} (h : MapTo (walksM C) D (walksM C).length 0) (p a : Nat) (hp : p < (walksM C).length) (h1 : 1 ≤ a) (h2 : a ≤ 2 * C.length) : (coefOf D (a : Nat) == (p : Int)) = wi ((walksM C).getD p []) (a : Nat) := by
  obtain ⟨j, hj, ha⟩ := walks_some (C := C) h1 h2
  rw [h.1 j a hj ha]
  by_cases e : j = p
  · subst e
    rw [(wi_iff _ a).2 ha]
    simp
  · have hn : wi ((walksM C).getD p []) (a : Nat) = false := by
      cases hw : wi ((walksM C).getD p []) (a : Nat) with
      | false => rfl
      | true =>
        have hw2 := (wi_iff _ a).1 hw
        rcases Nat.lt_or_gt_of_ne e with h3 | h3
        · exact absurd hw2 (walks_apart hm p j a h3 hp ha)
        · exact absurd ha (walks_apart hm j p a h3 hj hw2)
    rw [hn, beq_eq_false_iff_ne]
    omega
theorem make_map (w : World) : (Instr.makeMap 120 none).run Try.prog w = .ok (.map (some w.heap.size)) (w.alloc (.map #[] 0)) := rfl

theorem turned2 (za zb : Nat) (xc xd : Int) (xp : Bool) (w : World) :
    Calls Try.prog 72 #[.agg #[.int .i64 (za : Nat), .int .i64 (zb : Nat), .int .i64 xc, .int .i64 xd, .bool xp], .int .i64 2] w fun e w' => e = .returned (.agg #[.int .i64 xc, .int .i64 xd, .int .i64 (za : Nat), .int .i64 (zb : Nat), .bool xp]) ∧ Below w.heap.size w w' :=
  turned_any ⟨za, zb, xc, xd, xp⟩ 2 w (by omega)

set_option maxHeartbeats 8000000 in
set_option maxRecDepth 100000 in
theorem reversed_some (a : Option Addr) (cap : Nat) (C : List Cr) (loops : Int) (gF cF gT cT : Nat) (r : Value) (p : Nat) (w : World) (hm : mayD C loops = true) (hD : Crs w w.heap.size (.slice a C.length cap) C) (hwk : WksAt w r (walksM C)) (hp : p < (walksM C).length) :
    Calls Try.prog 40 #[drV a cap C loops gF cF gT cT, r, .int .i64 (p : Nat)] w fun e w' => ∃ v, e = .returned (.agg #[v, .int .i64 loops]) ∧ w'.ownsRow w.heap.size 89 5 v (revC ((walksM C).getD p []) C).length (crossCells (revC ((walksM C).getD p []) C)) ∧ Below w.heap.size w w' := by
  obtain ⟨s16, -, -, -⟩ := sizeB_iff (may_size hm)
  obtain ⟨i0, hi, hz0, hz1, hz2⟩ := info_parts infoCross
  unfold drV
  have HD : Hid (Crs w w.heap.size (.slice a C.length cap) C) := hD
  have HM : Hid (mayD C loops = true) := hm
  obtain ⟨hlL, hfw⟩ := walksM_facts hm
  have HFW : Hid (∀ j, j < (walksM C).length → ((walksM C).getD j []).length ≤ 2 * C.length + 1 ∧ ∀ i, i < ((walksM C).getD j []).length → ((walksM C).getD j []).getD i 0 ≤ 2 * C.length) := fun j hj => ⟨(hfw j hj).2.1, fun i hi => ((hfw j hj).2.2 i hi).2⟩
  have HAP : Hid (∀ i, i < (walksM C).length → ∀ j a, j < i → a ∈ (walksM C).getD j [] → a ∉ (walksM C).getD i []) := fun i hi j a hj ha => walks_apart hm i j a hj hi ha
  have HPT : Hid (∀ D a, MapTo (walksM C) D (walksM C).length 0 → 1 ≤ a → a ≤ 2 * C.length → (coefOf D (a : Nat) == (p : Int)) = wi ((walksM C).getD p []) (a : Nat)) := fun D a h h1 h2 => map_part hm h p a hp h1 h2
  have HFT : Hid (∀ i k, i < C.length → k < 4 → ∃ z : Nat, (C.getD i Cr.none).arc k = (z : Int) ∧ 1 ≤ z ∧ z ≤ 2 * C.length) := fun i k hi hk => by
    have h := may_fit hm i k hi hk
    exact ⟨((C.getD i Cr.none).arc k).toNat, by have := h.1; omega, by have := h.1; omega, by have := h.2.1; omega⟩
  clear hD hm hfw
  obtain ⟨w0, hw0⟩ : ∃ w0, w0 = ((w.alloc (.cells #[.slice a C.length cap, .int .i64 loops, .slice (some ⟨gF, 0, none⟩) (2 * C.length + 1) cF, .slice (some ⟨gT, 0, none⟩) (2 * C.length + 1) cT] 71)).alloc (.cells #[.slice none 0 0, .int .i64 0] 24)).alloc (.map #[] 0) := ⟨_, rfl⟩
  have HW0 : Hid (w0 = ((w.alloc (.cells #[.slice a C.length cap, .int .i64 loops, .slice (some ⟨gF, 0, none⟩) (2 * C.length + 1) cF, .slice (some ⟨gT, 0, none⟩) (2 * C.length + 1) cT] 71)).alloc (.cells #[.slice none 0 0, .int .i64 0] 24)).alloc (.map #[] 0)) := hw0
  have hs0 : w0.heap.size = w.heap.size + 3 := by rw [hw0]; simp
  have HB0 : Hid (Below w.heap.size w w0) := (by rw [hw0]; exact below3 _ _ _ _ : Below w.heap.size w w0)
  have HT0 : Hid (w0.heap[w.heap.size]? = some (.cells #[.slice a C.length cap, .int .i64 loops, .slice (some ⟨gF, 0, none⟩) (2 * C.length + 1) cF, .slice (some ⟨gT, 0, none⟩) (2 * C.length + 1) cT] 71 (0, 0))) := (by rw [hw0]; exact alloc_old (alloc_old (alloc_at rfl)) : w0.heap[w.heap.size]? = some (.cells #[.slice a C.length cap, .int .i64 loops, .slice (some ⟨gF, 0, none⟩) (2 * C.length + 1) cF, .slice (some ⟨gT, 0, none⟩) (2 * C.length + 1) cT] 71 (0, 0)))
  have HT1 : Hid (w0.heap[w.heap.size + 1]? = some (.cells #[.slice none 0 0, .int .i64 0] 24 (0, 0))) := (by rw [hw0]; exact alloc_old (alloc_at (by simp)) : w0.heap[w.heap.size + 1]? = some (.cells #[.slice none 0 0, .int .i64 0] 24 (0, 0)))
  have HOM : Hid (OwnM w0 (w.heap.size + 1 + 1) 0 (.map [])) := (by
    rw [hw0]
    have e : w.heap.size + 1 + 1 = ((w.alloc (.cells #[.slice a C.length cap, .int .i64 loops, .slice (some ⟨gF, 0, none⟩) (2 * C.length + 1) cF, .slice (some ⟨gT, 0, none⟩) (2 * C.length + 1) cT] 71)).alloc (.cells #[.slice none 0 0, .int .i64 0] 24)).heap.size := by simp
    rw [e]
    exact World.ownsMap_made _ _ _ _ : OwnM w0 (w.heap.size + 1 + 1) 0 (.map []))
  clear hw0
  obtain ⟨ys, hyl, ⟨ar, cr, rfl, gr⟩, hwr⟩ := hwk
  rw [hyl] at gr ⊢
  have HGR : Hid (0 < (walksM C).length → ∃ b off, ar = some ⟨b, off, none⟩ ∧ b < w.heap.size ∧ ∀ i, i < (walksM C).length → w.cell? ⟨b, off + i, none⟩ = some (ys.getD i (.bool false))) := gr
  have HWR : Hid (∀ j, j < (walksM C).length → Slots w w.heap.size (ys.getD j (.bool false)) (nats ((walksM C).getD j []))) := hwr
  clear gr hwr hyl
  obtain ⟨L, hL⟩ : ∃ L, walksM C = L := ⟨_, rfl⟩
  rw [hL] at hp hlL HFW HAP HPT HGR HWR ⊢
  clear hL
  have hmk := make_map
  go_enter Try.func40, Try.ntmps40
  go_wp2
  rw [← HW0.out]
  clear hmk
  go_loopw [21] (fun v21 wr => ∃ (i cnt : Nat) (D : DataW Unit), i ≤ L.length ∧ v21 = .int .i64 (i : Nat) ∧ OwnM wr (w.heap.size + 1 + 1) cnt D ∧ Hid (cnt ≤ 40 * i) ∧ Hid (MapTo L D i 0) ∧ w0.grownBy wr (some (w.heap.size + 1 + 1))) (fun v21 _ => L.length - (intOf v21).toNat)
  case atStart => exact ⟨0, 0, .map [], Nat.zero_le _, rfl, HOM.out, (Nat.le_refl _ : 0 ≤ 40 * 0), (⟨fun j a hj => absurd hj (Nat.not_lt_zero _), fun t ht => absurd ht (Nat.not_lt_zero _)⟩ : MapTo L (.map []) 0 0), World.grownBy.refl _ _⟩
  case round =>
    rename World => W1
    obtain ⟨i, cnt, D, hin, rfl, hom, hcnt, hmap, hg⟩ := hrel
    have hszW := hg.size
    by_cases hil : i < L.length
    · obtain ⟨b1, o1, rfl, hb1, q1⟩ := HGR.out (by omega)
      obtain ⟨aw, cw, ew, gw⟩ := HWR.out i hil
      rw [nats_len] at ew gw
      have c0 : W1.cell? ⟨b1, o1 + i, none⟩ = some (.slice aw (L.getD i []).length cw) := by
        rw [← ew]
        exact hg.cell (a := ⟨b1, o1 + i, none⟩) (bcell HB0.out hb1 (q1 i hil)) (fun e => by have := Option.some.inj e; simp only at this; omega)
      have HGW : Hid (0 < (L.getD i []).length → ∃ b off, aw = some ⟨b, off, none⟩ ∧ b < w.heap.size ∧ ∀ k, k < (L.getD i []).length → w.cell? ⟨b, off + k, none⟩ = some ((nats (L.getD i [])).getD k (.bool false))) := gw
      obtain ⟨hlw, hxw⟩ := HFW.out i hil
      have HXW : Hid (∀ k, k < (L.getD i []).length → (L.getD i []).getD k 0 ≤ 2 * C.length) := hxw
      have HST : Hid (∀ (D : DataW Unit) (k : Nat), MapTo L D i k → IsMap D → k < (L.getD i []).length → MapTo L (D.put (.int .i64 ((L.getD i []).getD k 0 : Nat)) (.lit (.int .i64 (i : Nat)))) i (k + 1)) := fun D k h hD hk => h.step hD (HAP.out i hil) hk
      have HRO : Hid (∀ D : DataW Unit, MapTo L D i (L.getD i []).length → MapTo L D (i + 1) 0) := fun D h => h.row
      have hb1w : b1 < W1.heap.size := by omega
      clear q1 ew gw hxw
      obtain ⟨wk, hwke⟩ : ∃ wk, L.getD i [] = wk := ⟨_, rfl⟩
      rw [hwke] at c0 HGW hlw HXW HST HRO
      clear hwke
      go_wp2
      clear c0
      go_loopw [28] (fun v28 ws => ∃ (k cnt : Nat) (D : DataW Unit), k ≤ wk.length ∧ v28 = .int .i64 (k : Nat) ∧ OwnM ws (w.heap.size + 1 + 1) cnt D ∧ Hid (cnt ≤ 40 * i + k) ∧ Hid (MapTo L D i k) ∧ w0.grownBy ws (some (w.heap.size + 1 + 1))) (fun v28 _ => wk.length - (intOf v28).toNat)
      case atStart => exact ⟨0, cnt, D, Nat.zero_le _, rfl, hom, hcnt.out, hmap.out, hg⟩
      case round =>
        clear hom hcnt hmap hg
        clear D cnt
        rename World => W3
        obtain ⟨k, cnt, D, hkn, rfl, hom, hcnt, hmap, hg⟩ := hrel
        have hszY := hg.size
        by_cases hkl : k < wk.length
        · obtain ⟨b2, o2, rfl, hb2, q2⟩ := HGW.out (by omega)
          have c0 : W3.cell? ⟨b2, o2 + k, none⟩ = some (.int .i64 (wk.getD k 0 : Nat)) := by
            have h := bcell HB0.out hb2 (q2 k hkl)
            rw [List.getD_eq_getElem?_getD, nats_get wk k hkl] at h
            exact hg.cell (a := ⟨b2, o2 + k, none⟩) h (fun e => by have := Option.some.inj e; simp only at this; omega)
          have hxk := HXW.out k hkl
          have HNX : Hid (MapTo L (D.put (.int .i64 (wk.getD k 0 : Nat)) (.lit (.int .i64 (i : Nat)))) i (k + 1)) := HST.out D k hmap.out (World.ownsMap.isMap hom) hkl
          clear q2
          generalize wk.getD k 0 = y at c0 hxk HNX
          have hb2w : b2 < W3.heap.size := by omega
          have hcb : cnt ≤ 2000 := by have := hcnt.out; omega
          have HM3 : Hid (OwnM W3 (w.heap.size + 1 + 1) cnt D) := hom
          clear hom
          go_wp2_with (first
            | (at_mapUpdate; refine wpList_mapUpdate_own _ rfl _ _ _ 120 rfl 3 3 law3 Try.underlying120 _ (w.heap.size + 1 + 1) cnt _ rfl HM3.out (by unfold maxLen; omega) _ _ _ rfl rfl (keyOf_int_mk Try.underlying3 (WalkArith.wf_i64 (by omega))) _ [] (plainElem_int Try.underlying3 (WalkArith.wf_i64 (by omega))) ?_; intro w5 hown5 hg5; go_frame))
          go_roundw
          case rel => exact ⟨k + 1, cnt + 1, _, by omega, by go_num, hown5, (by have := hcnt.out; omega : cnt + 1 ≤ 40 * i + (k + 1)), HNX.out, grown_trans hg hg5⟩
          case measure => simp only [intOf]; omega
        · obtain rfl : k = wk.length := by omega
          go_wp2
          go_roundw
          case rel => exact ⟨i + 1, cnt, D, by omega, by go_num, hom, (by have := hcnt.out; omega : cnt ≤ 40 * (i + 1)), HRO.out D hmap.out, hg⟩
          case measure => simp only [intOf]; omega
    · obtain rfl : i = L.length := by omega
      have HOMW : Hid (OwnM W1 (w.heap.size + 1 + 1) cnt D) := hom
      have HBW : Hid (Below w.heap.size w W1) := HB0.out.grown hg (by omega) (fun q hq => by have := Option.some.inj hq; omega)
      have HDR : Hid (W1.heap[w.heap.size]? = some (.cells #[.slice a C.length cap, .int .i64 loops, .slice (some ⟨gF, 0, none⟩) (2 * C.length + 1) cF, .slice (some ⟨gT, 0, none⟩) (2 * C.length + 1) cT] 71 (0, 0))) := (hg.block _ (by omega) (fun e => by have := Option.some.inj e; omega)).trans HT0.out
      have HRE : Hid (W1.heap[w.heap.size + 1]? = some (.cells #[.slice none 0 0, .int .i64 0] 24 (0, 0))) := (hg.block _ (by omega) (fun e => by have := Option.some.inj e; omega)).trans HT1.out
      have HMT : Hid (MapTo L D L.length 0) := hmap.out
      clear hom hmap hg hcnt
      have p0 : W1.cell? ⟨w.heap.size, 0, none⟩ = some (.slice a C.length cap) := block_cell HDR.out rfl
      have p1 : W1.cell? ⟨w.heap.size, 1, none⟩ = some (.int .i64 loops) := block_cell HDR.out rfl
      have hl0 : w.heap.size < W1.heap.size := by omega
      have HPP : Hid (∀ z : Nat, 1 ≤ z → z ≤ 2 * C.length → (coefOf D (z : Nat) == (p : Int)) = wi (L.getD p []) (z : Nat)) := fun z h1 h2 => HPT.out D z HMT.out h1 h2
      obtain ⟨wk, hwke⟩ : ∃ wk, L.getD p [] = wk := ⟨_, rfl⟩
      have HWKE : Hid (L.getD p [] = wk) := hwke
      rw [hwke] at HPP
      clear hwke
      obtain ⟨w3, hw3⟩ : ∃ w3, w3 = W1.alloc (.cells #[.slice none 0 0, .int .i64 loops] 24) := ⟨_, rfl⟩
      have HW3 : Hid (w3 = W1.alloc (.cells #[.slice none 0 0, .int .i64 loops] 24)) := hw3
      have HO3 : Hid (OutAt w3 (W1.heap.size + 1) W1.heap.size (.slice none 0 0) loops []) := (by rw [hw3]; exact OutAt.nil (alloc_at rfl) : OutAt w3 (W1.heap.size + 1) W1.heap.size (.slice none 0 0) loops [])
      have HB3 : Hid (Below W1.heap.size W1 w3) := (by rw [hw3]; exact (Below.refl _ _).alloc (Nat.le_refl _) _ : Below W1.heap.size W1 w3)
      clear hw3
      go_wp2
      clear p0 p1
      rw [← HW3.out]
      go_loopw [45] (fun v45 wr => ∃ (i : Nat) (v3 : Value) (acc : List Cr), i ≤ C.length ∧ v45 = .int .i64 (i : Nat) ∧ Hid (acc.length = i) ∧ Hid (acc = (C.take i).map (fun x => revX (wi wk x.a) (wi wk x.b) x)) ∧ OutAt wr (W1.heap.size + 1) W1.heap.size v3 loops acc ∧ Below W1.heap.size W1 wr) (fun v45 _ => C.length - (intOf v45).toNat)
      case atStart => exact ⟨0, .slice none 0 0, [], Nat.zero_le _, rfl, (rfl : ([] : List Cr).length = 0), (rfl : [] = (C.take 0).map _), HO3.out, HB3.out⟩
      case round =>
        rename World => W3
        obtain ⟨i, v3, acc, hin, rfl, hal, hacc, hout, hb⟩ := hrel
        have hszY := hb.size
        have hal16 : acc.length ≤ 16 := by have := hal.out; omega
        have hlt1 := (Array.getElem?_eq_some_iff.1 hout.box).1
        by_cases hil : i < C.length
        · obtain ⟨b, off, ea, hbq, hC⟩ := crs_some HD.out (by omega)
          subst ea
          obtain ⟨c0, c1, c2, c3, c4⟩ := (hC.on (HBW.out.trans (hb.mono HBW.out.size)) hbq) i hil
          have HNX : Hid ((C.take (i + 1)).map (fun x => revX (wi wk x.a) (wi wk x.b) x) = (C.take i).map (fun x => revX (wi wk x.a) (wi wk x.b) x) ++ [revX (wi wk (C.getD i Cr.none).a) (wi wk (C.getD i Cr.none).b) (C.getD i Cr.none)]) := take_map_next _ C i hil
          obtain ⟨za, hza, hza1, hza2⟩ := HFT.out i 0 hil (by omega)
          obtain ⟨zb, hzb, hzb1, hzb2⟩ := HFT.out i 1 hil (by omega)
          clear hC
          generalize C.getD i Cr.none = x at c0 c1 c2 c3 c4 HNX hza hzb
          obtain ⟨xa, xb, xc, xd, xp⟩ := x
          obtain rfl : xa = (za : Int) := hza
          obtain rfl : xb = (zb : Int) := hzb
          have hb1 : b < W3.heap.size := by omega
          have HOUT : Hid (OutAt W3 (W1.heap.size + 1) W1.heap.size v3 loops acc) := hout
          clear hout
          obtain ⟨a3, c3', ev3⟩ := own_capS HOUT.out.row
          subst ev3
          obtain ⟨Y, hY⟩ : ∃ Y, Y = W3.alloc (.cells #[.int .i64 (za : Nat), .int .i64 (zb : Nat), .int .i64 xc, .int .i64 xd, .bool xp] 89) := ⟨_, rfl⟩
          have HY : Hid (Y = W3.alloc (.cells #[.int .i64 (za : Nat), .int .i64 (zb : Nat), .int .i64 xc, .int .i64 xd, .bool xp] 89)) := hY
          have hsY : Y.heap.size = W3.heap.size + 1 := by rw [hY]; simp
          have HBY : Hid (Below W3.heap.size W3 Y) := (by rw [hY]; exact (Below.refl _ _).alloc (Nat.le_refl _) _ : Below W3.heap.size W3 Y)
          have HTY : Hid (Y.heap[W3.heap.size]? = some (.cells #[.int .i64 (za : Nat), .int .i64 (zb : Nat), .int .i64 xc, .int .i64 xd, .bool xp] 89 (0, 0))) := (by rw [hY]; exact alloc_at rfl : Y.heap[W3.heap.size]? = some (.cells #[.int .i64 (za : Nat), .int .i64 (zb : Nat), .int .i64 xc, .int .i64 xd, .bool xp] 89 (0, 0)))
          clear hY
          have HMY : Hid (∀ n : Nat, OwnM (Y.drewN n) (w.heap.size + 1 + 1) cnt D) := fun n => (HOMW.out.on (hb.trans (HBY.out.mono hszY)) (by omega)).on (below_drewN (Below.refl (w.heap.size + 1 + 1 + 1) Y) n) (by omega)
          have hla : ∀ n : Nat, (Instr.lookup 120 (.map (some (w.heap.size + 1 + 1))) (.int .i64 (za : Nat)) false).run Try.prog (Y.drewN n) = .ok (.int .i64 (coefOf D (za : Nat))) (Y.drewN n) := fun n => (HMY.out n).look _ (by omega) (by omega)
          have hlb : ∀ n : Nat, (Instr.lookup 120 (.map (some (w.heap.size + 1 + 1))) (.int .i64 (zb : Nat)) false).run Try.prog (Y.drewN n) = .ok (.int .i64 (coefOf D (zb : Nat))) (Y.drewN n) := fun n => (HMY.out n).look _ (by omega) (by omega)
          obtain ⟨pb, hpb⟩ : ∃ pb, wi wk (za : Nat) = pb := ⟨_, rfl⟩
          obtain ⟨qb, hqb⟩ : ∃ qb, wi wk (zb : Nat) = qb := ⟨_, rfl⟩
          have hea := HPP.out za hza1 hza2
          have heb := HPP.out zb hzb1 hzb2
          have HRX : Hid (revX (wi wk (za : Nat)) (wi wk (zb : Nat)) ⟨za, zb, xc, xd, xp⟩ = revX pb qb ⟨za, zb, xc, xd, xp⟩) := (by rw [hpb, hqb] : revX (wi wk (za : Nat)) (wi wk (zb : Nat)) ⟨za, zb, xc, xd, xp⟩ = revX pb qb ⟨za, zb, xc, xd, xp⟩)
          rw [hpb] at hea
          rw [hqb] at heb
          clear hpb hqb hza1 hza2 hzb1 hzb2
          generalize coefOf D (za : Nat) = ka at hla hea
          generalize coefOf D (zb : Nat) = kb at hlb heb
          have s0 : Y.cell? ⟨W3.heap.size, 0, none⟩ = some (.int .i64 (za : Nat)) := block_cell HTY.out rfl
          have s1 : Y.cell? ⟨W3.heap.size, 1, none⟩ = some (.int .i64 (zb : Nat)) := block_cell HTY.out rfl
          have hlY : W3.heap.size < Y.heap.size := by omega
          go_wp2
          rw [← HY.out]
          clear c0 c1 c2 c3 c4
          go_quiet (fail)
          obtain ⟨Z, hZ⟩ : ∃ Z, Z = Y.drewN nq := ⟨_, rfl⟩
          rw [← hZ]
          have HBZ : Hid (Below Y.heap.size Y Z) := (by rw [hZ]; exact below_drewN (Below.refl _ _) _ : Below Y.heap.size Y Z)
          have hsZ : Y.heap.size ≤ Z.heap.size := HBZ.out.size
          clear hZ s0 s1 hla hlb hea heb
          have hT5 := (HBZ.out.block W3.heap.size (by omega)).trans HTY.out
          have HT5 : Hid (Z.heap[W3.heap.size]? = some (.cells #[.int .i64 (za : Nat), .int .i64 (zb : Nat), .int .i64 xc, .int .i64 xd, .bool xp] 89 (0, 0))) := hT5
          have s0 : Z.cell? ⟨W3.heap.size, 0, none⟩ = some (.int .i64 (za : Nat)) := block_cell hT5 rfl
          have s1 : Z.cell? ⟨W3.heap.size, 1, none⟩ = some (.int .i64 (zb : Nat)) := block_cell hT5 rfl
          have s2 : Z.cell? ⟨W3.heap.size, 2, none⟩ = some (.int .i64 xc) := block_cell hT5 rfl
          have s3 : Z.cell? ⟨W3.heap.size, 3, none⟩ = some (.int .i64 xd) := block_cell hT5 rfl
          have s4 : Z.cell? ⟨W3.heap.size, 4, none⟩ = some (.bool xp) := block_cell hT5 rfl
          have HOZ : Hid (OutAt Z (W1.heap.size + 1) W1.heap.size (.slice a3 acc.length c3') loops acc) := HOUT.out.on (HBY.out.trans (HBZ.out.mono (by omega)))
          have HBW3 : Hid (Below W1.heap.size W1 Z) := (hb.trans (HBY.out.mono hszY)).trans (HBZ.out.mono (by omega))
          have t0 : Z.cell? ⟨W1.heap.size, 0, none⟩ = some (.slice a3 acc.length c3') := block_cell HOZ.out.box rfl
          have t1 : W1.heap.size < Z.heap.size := (Array.getElem?_eq_some_iff.1 HOZ.out.box).1
          have hlZ : W3.heap.size < Z.heap.size := by omega
          clear hT5
          cases pb with
          | true =>
            cases qb with
            | true =>
              go_wp2_with (go_at_call 72; refine (turned2 za zb xc xd xp _).mono ?_; rintro e9 w4 ⟨rfl, hb4⟩; refine Hid.out ?_)
              refine Lib.hid ?_
              have hs4 := hb4.size
              simp only [World.size_alloc] at hs4
              have hT6 := (hb4.block Z.heap.size (by simp)).trans (alloc_at rfl)
              have r3 : w4.cell? ⟨W3.heap.size, 4, none⟩ = some (.bool xp) := block_cell ((hb4.block _ (by simp; omega)).trans (alloc_old HT5.out)) rfl
              have e0 : w4.cell? ⟨Z.heap.size, 0, none⟩ = some (.int .i64 (za : Nat)) := block_cell hT6 rfl
              have e1 : w4.cell? ⟨Z.heap.size, 1, none⟩ = some (.int .i64 (zb : Nat)) := block_cell hT6 rfl
              have e2 : w4.cell? ⟨Z.heap.size, 2, none⟩ = some (.int .i64 xc) := block_cell hT6 rfl
              have e3 : w4.cell? ⟨Z.heap.size, 3, none⟩ = some (.int .i64 xd) := block_cell hT6 rfl
              have e4 : w4.cell? ⟨Z.heap.size, 4, none⟩ = some (.bool xp) := block_cell hT6 rfl
              have y0 : w4.frozen? ⟨Z.heap.size, 0, none⟩ = false := block_frozen hT6
              have y1 : w4.frozen? ⟨Z.heap.size, 1, none⟩ = false := block_frozen hT6
              have y2 : w4.frozen? ⟨Z.heap.size, 2, none⟩ = false := block_frozen hT6
              have y3 : w4.frozen? ⟨Z.heap.size, 3, none⟩ = false := block_frozen hT6
              have y4 : w4.frozen? ⟨Z.heap.size, 4, none⟩ = false := block_frozen hT6
              have HZ4 : Hid (Below Z.heap.size Z w4) := ((Below.refl _ _).alloc (Nat.le_refl _) _).trans (hb4.mono (by simp))
              have HO4 : Hid (OutAt w4 (W1.heap.size + 1) W1.heap.size (.slice a3 acc.length c3') loops acc) := HOZ.out.on HZ4.out
              have HB4W : Hid (Below W1.heap.size W1 w4) := HBW3.out.trans (HZ4.out.mono (by omega))
              have u0 : w4.cell? ⟨W1.heap.size, 0, none⟩ = some (.slice a3 acc.length c3') := block_cell HO4.out.box rfl
              have u1 : W1.heap.size < w4.heap.size := (Array.getElem?_eq_some_iff.1 HO4.out.box).1
              have u2 : Z.heap.size < w4.heap.size := by omega
              have u3 : W3.heap.size < w4.heap.size := by omega
              clear hb4 hT6 s0 s1 s2 s3 s4 t0
              have HMX : Hid (revX true true ⟨za, zb, xc, xd, xp⟩ = (⟨xc, xd, za, zb, xp⟩ : Cr)) := (rfl : revX true true ⟨za, zb, xc, xd, xp⟩ = (⟨xc, xd, za, zb, xp⟩ : Cr))
              have HOX : Hid (OutAt (((((w4.setCell ⟨Z.heap.size, 0, none⟩ (.int .i64 xc)).setCell ⟨Z.heap.size, 1, none⟩ (.int .i64 xd)).setCell ⟨Z.heap.size, 2, none⟩ (.int .i64 (za : Nat))).setCell ⟨Z.heap.size, 3, none⟩ (.int .i64 (zb : Nat))).setCell ⟨Z.heap.size, 4, none⟩ (.bool xp)) (W1.heap.size + 1) W1.heap.size (.slice a3 acc.length c3') loops acc) := (HOUT.out.keptNew (HOUT.out.keptNew (HOUT.out.keptNew (HOUT.out.keptNew (HOUT.out.keptNew HO4.out (by omega) (set_grown w4 Z.heap.size 0 (.int .i64 xc))) (by omega) (set_grown (w4.setCell ⟨Z.heap.size, 0, none⟩ (.int .i64 xc)) Z.heap.size 1 (.int .i64 xd))) (by omega) (set_grown ((w4.setCell ⟨Z.heap.size, 0, none⟩ (.int .i64 xc)).setCell ⟨Z.heap.size, 1, none⟩ (.int .i64 xd)) Z.heap.size 2 (.int .i64 (za : Nat)))) (by omega) (set_grown (((w4.setCell ⟨Z.heap.size, 0, none⟩ (.int .i64 xc)).setCell ⟨Z.heap.size, 1, none⟩ (.int .i64 xd)).setCell ⟨Z.heap.size, 2, none⟩ (.int .i64 (za : Nat))) Z.heap.size 3 (.int .i64 (zb : Nat)))) (by omega) (set_grown ((((w4.setCell ⟨Z.heap.size, 0, none⟩ (.int .i64 xc)).setCell ⟨Z.heap.size, 1, none⟩ (.int .i64 xd)).setCell ⟨Z.heap.size, 2, none⟩ (.int .i64 (za : Nat))).setCell ⟨Z.heap.size, 3, none⟩ (.int .i64 (zb : Nat))) Z.heap.size 4 (.bool xp)))
              go_wp2_with (first
                | (at_builtin; refine wpList_append_own _ rfl _ _ 22 rfl (W1.heap.size + 1) 89 i0 (.agg #[.int .i64 0, .int .i64 0, .int .i64 0, .int .i64 0, .bool false]) 5 40 Try.underlying22 hi hz0 hz1 hz2 rfl (by decide) _ _ _ rfl (HOX.out.row.alloc _) ⟨w4.heap.size, 0, none⟩ 1 1 [.int .i64 xc, .int .i64 xd, .int .i64 (za : Nat), .int .i64 (zb : Nat), .bool xp] rfl rfl (new_cell5' (by simp) _ _ _ _ _ _) (cells_one [(⟨xc, xd, za, zb, xp⟩ : Cr)]) (by unfold maxLen; omega) (by omega) (by simp; omega) ?_; intro v8 w8 hown8 hg8 _; refine Hid.out ?_))
              refine Lib.hid ?_
              have HOW8 : Hid (w8.ownsRow (W1.heap.size + 1) 89 5 v8 (acc.length + 1) (crossCells acc ++ crossCells [(⟨xc, xd, za, zb, xp⟩ : Cr)])) := hown8
              have HG8 : Hid (((((((w4.setCell ⟨Z.heap.size, 0, none⟩ (.int .i64 xc)).setCell ⟨Z.heap.size, 1, none⟩ (.int .i64 xd)).setCell ⟨Z.heap.size, 2, none⟩ (.int .i64 (za : Nat))).setCell ⟨Z.heap.size, 3, none⟩ (.int .i64 (zb : Nat))).setCell ⟨Z.heap.size, 4, none⟩ (.bool xp)).alloc (.cells #[.int .i64 xc, .int .i64 xd, .int .i64 (za : Nat), .int .i64 (zb : Nat), .bool xp] 89)).grownBy w8 (Value.slice a3 acc.length c3').ownBlock) := hg8
              obtain ⟨a8, c8, ev8⟩ := own_capS HOW8.out
              subst ev8
              have hb8 := HOX.out.box8 (by omega) HG8.out
              have r0 : w8.cell? ⟨W1.heap.size, 0, none⟩ = some (.slice a3 acc.length c3') := block_cell hb8 rfl
              have r1 : w8.frozen? ⟨W1.heap.size, 0, none⟩ = false := block_frozen hb8
              have r2 : W1.heap.size < w8.heap.size := (Array.getElem?_eq_some_iff.1 hb8).1
              clear hown8 hg8 hb8
              clear e0 e1 e2 e3 e4 y0 y1 y2 y3 y4 r3 u0
              go_wp2
              go_roundw
              case rel => exact ⟨i + 1, .slice a8 (acc.length + 1) c8, acc ++ [(⟨xc, xd, za, zb, xp⟩ : Cr)], by omega, by go_num, (by have := hal.out; simp; omega : (acc ++ [(⟨xc, xd, za, zb, xp⟩ : Cr)]).length = i + 1), (by rw [HNX.out, HRX.out, HMX.out, hacc.out] : acc ++ [(⟨xc, xd, za, zb, xp⟩ : Cr)] = (C.take (i + 1)).map (fun x => revX (wi wk x.a) (wi wk x.b) x)), HOX.out.app (by omega) rfl HOW8.out HG8.out, HOX.out.below (below_set (below_set (below_set (below_set (below_set HB4W.out (by omega) 0 (.int .i64 xc)) (by omega) 1 (.int .i64 xd)) (by omega) 2 (.int .i64 (za : Nat))) (by omega) 3 (.int .i64 (zb : Nat))) (by omega) 4 (.bool xp)) (by omega) (by first | omega | (simp; omega)) (Nat.le_refl _) HG8.out⟩
              case measure => simp only [intOf]; omega
            | false =>
              go_wp2_with (go_at_call 72; refine (turned2 za zb xc xd xp _).mono ?_; rintro e9 w4 ⟨rfl, hb4⟩; refine Hid.out ?_)
              refine Lib.hid ?_
              have hs4 := hb4.size
              simp only [World.size_alloc] at hs4
              have hT6 := (hb4.block Z.heap.size (by simp)).trans (alloc_at rfl)
              have r3 : w4.cell? ⟨W3.heap.size, 4, none⟩ = some (.bool xp) := block_cell ((hb4.block _ (by simp; omega)).trans (alloc_old HT5.out)) rfl
              have e0 : w4.cell? ⟨Z.heap.size, 0, none⟩ = some (.int .i64 (za : Nat)) := block_cell hT6 rfl
              have e1 : w4.cell? ⟨Z.heap.size, 1, none⟩ = some (.int .i64 (zb : Nat)) := block_cell hT6 rfl
              have e2 : w4.cell? ⟨Z.heap.size, 2, none⟩ = some (.int .i64 xc) := block_cell hT6 rfl
              have e3 : w4.cell? ⟨Z.heap.size, 3, none⟩ = some (.int .i64 xd) := block_cell hT6 rfl
              have e4 : w4.cell? ⟨Z.heap.size, 4, none⟩ = some (.bool xp) := block_cell hT6 rfl
              have y0 : w4.frozen? ⟨Z.heap.size, 0, none⟩ = false := block_frozen hT6
              have y1 : w4.frozen? ⟨Z.heap.size, 1, none⟩ = false := block_frozen hT6
              have y2 : w4.frozen? ⟨Z.heap.size, 2, none⟩ = false := block_frozen hT6
              have y3 : w4.frozen? ⟨Z.heap.size, 3, none⟩ = false := block_frozen hT6
              have y4 : w4.frozen? ⟨Z.heap.size, 4, none⟩ = false := block_frozen hT6
              have HZ4 : Hid (Below Z.heap.size Z w4) := ((Below.refl _ _).alloc (Nat.le_refl _) _).trans (hb4.mono (by simp))
              have HO4 : Hid (OutAt w4 (W1.heap.size + 1) W1.heap.size (.slice a3 acc.length c3') loops acc) := HOZ.out.on HZ4.out
              have HB4W : Hid (Below W1.heap.size W1 w4) := HBW3.out.trans (HZ4.out.mono (by omega))
              have u0 : w4.cell? ⟨W1.heap.size, 0, none⟩ = some (.slice a3 acc.length c3') := block_cell HO4.out.box rfl
              have u1 : W1.heap.size < w4.heap.size := (Array.getElem?_eq_some_iff.1 HO4.out.box).1
              have u2 : Z.heap.size < w4.heap.size := by omega
              have u3 : W3.heap.size < w4.heap.size := by omega
              have HV1 : Hid (OutAt (((((w4.setCell ⟨Z.heap.size, 0, none⟩ (.int .i64 xc)).setCell ⟨Z.heap.size, 1, none⟩ (.int .i64 xd)).setCell ⟨Z.heap.size, 2, none⟩ (.int .i64 (za : Nat))).setCell ⟨Z.heap.size, 3, none⟩ (.int .i64 (zb : Nat))).setCell ⟨Z.heap.size, 4, none⟩ (.bool xp)) (W1.heap.size + 1) W1.heap.size (.slice a3 acc.length c3') loops acc) := (HOUT.out.keptNew (HOUT.out.keptNew (HOUT.out.keptNew (HOUT.out.keptNew (HOUT.out.keptNew HO4.out (by omega) (set_grown w4 Z.heap.size 0 (.int .i64 xc))) (by omega) (set_grown (w4.setCell ⟨Z.heap.size, 0, none⟩ (.int .i64 xc)) Z.heap.size 1 (.int .i64 xd))) (by omega) (set_grown ((w4.setCell ⟨Z.heap.size, 0, none⟩ (.int .i64 xc)).setCell ⟨Z.heap.size, 1, none⟩ (.int .i64 xd)) Z.heap.size 2 (.int .i64 (za : Nat)))) (by omega) (set_grown (((w4.setCell ⟨Z.heap.size, 0, none⟩ (.int .i64 xc)).setCell ⟨Z.heap.size, 1, none⟩ (.int .i64 xd)).setCell ⟨Z.heap.size, 2, none⟩ (.int .i64 (za : Nat))) Z.heap.size 3 (.int .i64 (zb : Nat)))) (by omega) (set_grown ((((w4.setCell ⟨Z.heap.size, 0, none⟩ (.int .i64 xc)).setCell ⟨Z.heap.size, 1, none⟩ (.int .i64 xd)).setCell ⟨Z.heap.size, 2, none⟩ (.int .i64 (za : Nat))).setCell ⟨Z.heap.size, 3, none⟩ (.int .i64 (zb : Nat))) Z.heap.size 4 (.bool xp)))
              have HV2 : Hid (Below W1.heap.size W1 (((((w4.setCell ⟨Z.heap.size, 0, none⟩ (.int .i64 xc)).setCell ⟨Z.heap.size, 1, none⟩ (.int .i64 xd)).setCell ⟨Z.heap.size, 2, none⟩ (.int .i64 (za : Nat))).setCell ⟨Z.heap.size, 3, none⟩ (.int .i64 (zb : Nat))).setCell ⟨Z.heap.size, 4, none⟩ (.bool xp))) := (below_set (below_set (below_set (below_set (below_set HB4W.out (by omega) 0 (.int .i64 xc)) (by omega) 1 (.int .i64 xd)) (by omega) 2 (.int .i64 (za : Nat))) (by omega) 3 (.int .i64 (zb : Nat))) (by omega) 4 (.bool xp))
              have HV3 : Hid ((((((w4.setCell ⟨Z.heap.size, 0, none⟩ (.int .i64 xc)).setCell ⟨Z.heap.size, 1, none⟩ (.int .i64 xd)).setCell ⟨Z.heap.size, 2, none⟩ (.int .i64 (za : Nat))).setCell ⟨Z.heap.size, 3, none⟩ (.int .i64 (zb : Nat))).setCell ⟨Z.heap.size, 4, none⟩ (.bool xp)).heap[Z.heap.size]? = some (.cells #[.int .i64 xc, .int .i64 xd, .int .i64 (za : Nat), .int .i64 (zb : Nat), .bool xp] 89 (0, 0))) := (set_block (i := 4) (u := .bool xp) (set_block (i := 3) (u := .int .i64 (zb : Nat)) (set_block (i := 2) (u := .int .i64 (za : Nat)) (set_block (i := 1) (u := .int .i64 xd) (set_block (i := 0) (u := .int .i64 xc) hT6)))))
              have HV4 : Hid ((((((w4.setCell ⟨Z.heap.size, 0, none⟩ (.int .i64 xc)).setCell ⟨Z.heap.size, 1, none⟩ (.int .i64 xd)).setCell ⟨Z.heap.size, 2, none⟩ (.int .i64 (za : Nat))).setCell ⟨Z.heap.size, 3, none⟩ (.int .i64 (zb : Nat))).setCell ⟨Z.heap.size, 4, none⟩ (.bool xp)).heap[W3.heap.size]? = some (.cells #[.int .i64 (za : Nat), .int .i64 (zb : Nat), .int .i64 xc, .int .i64 xd, .bool xp] 89 (0, 0))) := (((set_grown ((((w4.setCell ⟨Z.heap.size, 0, none⟩ (.int .i64 xc)).setCell ⟨Z.heap.size, 1, none⟩ (.int .i64 xd)).setCell ⟨Z.heap.size, 2, none⟩ (.int .i64 (za : Nat))).setCell ⟨Z.heap.size, 3, none⟩ (.int .i64 (zb : Nat))) Z.heap.size 4 (.bool xp)).block W3.heap.size (by first | omega | (simp; omega)) (fun e => by have := Option.some.inj e; omega)).trans (((set_grown (((w4.setCell ⟨Z.heap.size, 0, none⟩ (.int .i64 xc)).setCell ⟨Z.heap.size, 1, none⟩ (.int .i64 xd)).setCell ⟨Z.heap.size, 2, none⟩ (.int .i64 (za : Nat))) Z.heap.size 3 (.int .i64 (zb : Nat))).block W3.heap.size (by first | omega | (simp; omega)) (fun e => by have := Option.some.inj e; omega)).trans (((set_grown ((w4.setCell ⟨Z.heap.size, 0, none⟩ (.int .i64 xc)).setCell ⟨Z.heap.size, 1, none⟩ (.int .i64 xd)) Z.heap.size 2 (.int .i64 (za : Nat))).block W3.heap.size (by first | omega | (simp; omega)) (fun e => by have := Option.some.inj e; omega)).trans (((set_grown (w4.setCell ⟨Z.heap.size, 0, none⟩ (.int .i64 xc)) Z.heap.size 1 (.int .i64 xd)).block W3.heap.size (by first | omega | (simp; omega)) (fun e => by have := Option.some.inj e; omega)).trans (((set_grown w4 Z.heap.size 0 (.int .i64 xc)).block W3.heap.size (by first | omega | (simp; omega)) (fun e => by have := Option.some.inj e; omega)).trans ((hb4.block _ (by simp; omega)).trans (alloc_old HT5.out)))))))
              have HV5 : Hid ((((((w4.setCell ⟨Z.heap.size, 0, none⟩ (.int .i64 xc)).setCell ⟨Z.heap.size, 1, none⟩ (.int .i64 xd)).setCell ⟨Z.heap.size, 2, none⟩ (.int .i64 (za : Nat))).setCell ⟨Z.heap.size, 3, none⟩ (.int .i64 (zb : Nat))).setCell ⟨Z.heap.size, 4, none⟩ (.bool xp)).heap.size = w4.heap.size) := (by simp : (((((w4.setCell ⟨Z.heap.size, 0, none⟩ (.int .i64 xc)).setCell ⟨Z.heap.size, 1, none⟩ (.int .i64 xd)).setCell ⟨Z.heap.size, 2, none⟩ (.int .i64 (za : Nat))).setCell ⟨Z.heap.size, 3, none⟩ (.int .i64 (zb : Nat))).setCell ⟨Z.heap.size, 4, none⟩ (.bool xp)).heap.size = w4.heap.size)
              clear hb4 hT6 s0 s1 s2 s3 s4 t0
              go_upto_if 67 with (fail)
              obtain ⟨V, hV⟩ : ∃ V, V = (((((w4.setCell ⟨Z.heap.size, 0, none⟩ (.int .i64 xc)).setCell ⟨Z.heap.size, 1, none⟩ (.int .i64 xd)).setCell ⟨Z.heap.size, 2, none⟩ (.int .i64 (za : Nat))).setCell ⟨Z.heap.size, 3, none⟩ (.int .i64 (zb : Nat))).setCell ⟨Z.heap.size, 4, none⟩ (.bool xp)) := ⟨_, rfl⟩
              rw [← hV] at HV1 HV2 HV3 HV4 HV5 ⊢
              clear hV e0 e1 e2 e3 e4 y0 y1 y2 y3 y4 r3 u0
              have e0 : V.cell? ⟨Z.heap.size, 0, none⟩ = some (.int .i64 xc) := block_cell HV3.out rfl
              have e1 : V.cell? ⟨Z.heap.size, 1, none⟩ = some (.int .i64 xd) := block_cell HV3.out rfl
              have e2 : V.cell? ⟨Z.heap.size, 2, none⟩ = some (.int .i64 (za : Nat)) := block_cell HV3.out rfl
              have e3 : V.cell? ⟨Z.heap.size, 3, none⟩ = some (.int .i64 (zb : Nat)) := block_cell HV3.out rfl
              have e4 : V.cell? ⟨Z.heap.size, 4, none⟩ = some (.bool xp) := block_cell HV3.out rfl
              have y4 : V.frozen? ⟨Z.heap.size, 4, none⟩ = false := block_frozen HV3.out
              have r3 : V.cell? ⟨W3.heap.size, 4, none⟩ = some (.bool xp) := block_cell HV4.out rfl
              have u0 : V.cell? ⟨W1.heap.size, 0, none⟩ = some (.slice a3 acc.length c3') := block_cell HV1.out.box rfl
              have v1 : W1.heap.size < V.heap.size := by have := HV5.out; omega
              have v2 : Z.heap.size < V.heap.size := by have := HV5.out; omega
              have v3 : W3.heap.size < V.heap.size := by have := HV5.out; omega
              have HMX : Hid (revX true false ⟨za, zb, xc, xd, xp⟩ = (⟨xc, xd, za, zb, !xp⟩ : Cr)) := (rfl : revX true false ⟨za, zb, xc, xd, xp⟩ = (⟨xc, xd, za, zb, !xp⟩ : Cr))
              have HOX : Hid (OutAt (V.setCell ⟨Z.heap.size, 4, none⟩ (.bool (!xp))) (W1.heap.size + 1) W1.heap.size (.slice a3 acc.length c3') loops acc) := (HOUT.out.keptNew HV1.out (by omega) (set_grown V Z.heap.size 4 (.bool (!xp))))
              go_wp2_with (first
                | (at_builtin; refine wpList_append_own _ rfl _ _ 22 rfl (W1.heap.size + 1) 89 i0 (.agg #[.int .i64 0, .int .i64 0, .int .i64 0, .int .i64 0, .bool false]) 5 40 Try.underlying22 hi hz0 hz1 hz2 rfl (by decide) _ _ _ rfl (HOX.out.row.alloc _) ⟨V.heap.size, 0, none⟩ 1 1 [.int .i64 xc, .int .i64 xd, .int .i64 (za : Nat), .int .i64 (zb : Nat), .bool (!xp)] rfl rfl (new_cell5' (by simp) _ _ _ _ _ _) (cells_one [(⟨xc, xd, za, zb, !xp⟩ : Cr)]) (by unfold maxLen; omega) (by omega) (by simp; omega) ?_; intro v8 w8 hown8 hg8 _; refine Hid.out ?_))
              refine Lib.hid ?_
              have HOW8 : Hid (w8.ownsRow (W1.heap.size + 1) 89 5 v8 (acc.length + 1) (crossCells acc ++ crossCells [(⟨xc, xd, za, zb, !xp⟩ : Cr)])) := hown8
              have HG8 : Hid (((V.setCell ⟨Z.heap.size, 4, none⟩ (.bool (!xp))).alloc (.cells #[.int .i64 xc, .int .i64 xd, .int .i64 (za : Nat), .int .i64 (zb : Nat), .bool (!xp)] 89)).grownBy w8 (Value.slice a3 acc.length c3').ownBlock) := hg8
              obtain ⟨a8, c8, ev8⟩ := own_capS HOW8.out
              subst ev8
              have hb8 := HOX.out.box8 (by omega) HG8.out
              have r0 : w8.cell? ⟨W1.heap.size, 0, none⟩ = some (.slice a3 acc.length c3') := block_cell hb8 rfl
              have r1 : w8.frozen? ⟨W1.heap.size, 0, none⟩ = false := block_frozen hb8
              have r2 : W1.heap.size < w8.heap.size := (Array.getElem?_eq_some_iff.1 hb8).1
              clear hown8 hg8 hb8
              clear e0 e1 e2 e3 e4 y4 r3 u0
              go_wp2
              go_roundw
              case rel => exact ⟨i + 1, .slice a8 (acc.length + 1) c8, acc ++ [(⟨xc, xd, za, zb, !xp⟩ : Cr)], by omega, by go_num, (by have := hal.out; simp; omega : (acc ++ [(⟨xc, xd, za, zb, !xp⟩ : Cr)]).length = i + 1), (by rw [HNX.out, HRX.out, HMX.out, hacc.out] : acc ++ [(⟨xc, xd, za, zb, !xp⟩ : Cr)] = (C.take (i + 1)).map (fun x => revX (wi wk x.a) (wi wk x.b) x)), HOX.out.app (by omega) rfl HOW8.out HG8.out, HOX.out.below (below_set HV2.out (by omega) 4 (.bool (!xp))) (by omega) (by first | omega | (simp; omega)) (Nat.le_refl _) HG8.out⟩
              case measure => simp only [intOf]; omega
          | false =>
            cases qb with
            | true =>
              have HMX : Hid (revX false true ⟨za, zb, xc, xd, xp⟩ = (⟨za, zb, xc, xd, !xp⟩ : Cr)) := (rfl : revX false true ⟨za, zb, xc, xd, xp⟩ = (⟨za, zb, xc, xd, !xp⟩ : Cr))
              have HOX : Hid (OutAt (Z.alloc (.cells #[.int .i64 (za : Nat), .int .i64 (zb : Nat), .int .i64 xc, .int .i64 xd, .bool (!xp)] 89)) (W1.heap.size + 1) W1.heap.size (.slice a3 acc.length c3') loops acc) := HOZ.out.on ((Below.refl _ _).alloc (Nat.le_refl _) _)
              go_wp2_with (first
                | (at_builtin; refine wpList_append_own _ rfl _ _ 22 rfl (W1.heap.size + 1) 89 i0 (.agg #[.int .i64 0, .int .i64 0, .int .i64 0, .int .i64 0, .bool false]) 5 40 Try.underlying22 hi hz0 hz1 hz2 rfl (by decide) _ _ _ rfl (HOX.out.row.alloc _) ⟨Z.heap.size + 1, 0, none⟩ 1 1 [.int .i64 (za : Nat), .int .i64 (zb : Nat), .int .i64 xc, .int .i64 xd, .bool (!xp)] rfl rfl (new_cell5' (by simp) _ _ _ _ _ _) (cells_one [(⟨za, zb, xc, xd, !xp⟩ : Cr)]) (by unfold maxLen; omega) (by omega) (by simp; omega) ?_; intro v8 w8 hown8 hg8 _; refine Hid.out ?_))
              refine Lib.hid ?_
              have HOW8 : Hid (w8.ownsRow (W1.heap.size + 1) 89 5 v8 (acc.length + 1) (crossCells acc ++ crossCells [(⟨za, zb, xc, xd, !xp⟩ : Cr)])) := hown8
              have HG8 : Hid (((Z.alloc (.cells #[.int .i64 (za : Nat), .int .i64 (zb : Nat), .int .i64 xc, .int .i64 xd, .bool (!xp)] 89)).alloc (.cells #[.int .i64 (za : Nat), .int .i64 (zb : Nat), .int .i64 xc, .int .i64 xd, .bool (!xp)] 89)).grownBy w8 (Value.slice a3 acc.length c3').ownBlock) := hg8
              obtain ⟨a8, c8, ev8⟩ := own_capS HOW8.out
              subst ev8
              have hb8 := HOX.out.box8 (by omega) HG8.out
              have r0 : w8.cell? ⟨W1.heap.size, 0, none⟩ = some (.slice a3 acc.length c3') := block_cell hb8 rfl
              have r1 : w8.frozen? ⟨W1.heap.size, 0, none⟩ = false := block_frozen hb8
              have r2 : W1.heap.size < w8.heap.size := (Array.getElem?_eq_some_iff.1 hb8).1
              clear hown8 hg8 hb8
              clear s0 s1 s2 s3 s4 t0
              go_wp2
              go_roundw
              case rel => exact ⟨i + 1, .slice a8 (acc.length + 1) c8, acc ++ [(⟨za, zb, xc, xd, !xp⟩ : Cr)], by omega, by go_num, (by have := hal.out; simp; omega : (acc ++ [(⟨za, zb, xc, xd, !xp⟩ : Cr)]).length = i + 1), (by rw [HNX.out, HRX.out, HMX.out, hacc.out] : acc ++ [(⟨za, zb, xc, xd, !xp⟩ : Cr)] = (C.take (i + 1)).map (fun x => revX (wi wk x.a) (wi wk x.b) x)), HOX.out.app (by omega) rfl HOW8.out HG8.out, HOX.out.below (HBW3.out.alloc (by omega) _) (by omega) (by first | omega | (simp; omega)) (Nat.le_refl _) HG8.out⟩
              case measure => simp only [intOf]; omega
            | false =>
              have HMX : Hid (revX false false ⟨za, zb, xc, xd, xp⟩ = (⟨za, zb, xc, xd, xp⟩ : Cr)) := (rfl : revX false false ⟨za, zb, xc, xd, xp⟩ = (⟨za, zb, xc, xd, xp⟩ : Cr))
              have HOX : Hid (OutAt (Z.alloc (.cells #[.int .i64 (za : Nat), .int .i64 (zb : Nat), .int .i64 xc, .int .i64 xd, .bool xp] 89)) (W1.heap.size + 1) W1.heap.size (.slice a3 acc.length c3') loops acc) := HOZ.out.on ((Below.refl _ _).alloc (Nat.le_refl _) _)
              go_wp2_with (first
                | (at_builtin; refine wpList_append_own _ rfl _ _ 22 rfl (W1.heap.size + 1) 89 i0 (.agg #[.int .i64 0, .int .i64 0, .int .i64 0, .int .i64 0, .bool false]) 5 40 Try.underlying22 hi hz0 hz1 hz2 rfl (by decide) _ _ _ rfl (HOX.out.row.alloc _) ⟨Z.heap.size + 1, 0, none⟩ 1 1 [.int .i64 (za : Nat), .int .i64 (zb : Nat), .int .i64 xc, .int .i64 xd, .bool xp] rfl rfl (new_cell5' (by simp) _ _ _ _ _ _) (cells_one [(⟨za, zb, xc, xd, xp⟩ : Cr)]) (by unfold maxLen; omega) (by omega) (by simp; omega) ?_; intro v8 w8 hown8 hg8 _; refine Hid.out ?_))
              refine Lib.hid ?_
              have HOW8 : Hid (w8.ownsRow (W1.heap.size + 1) 89 5 v8 (acc.length + 1) (crossCells acc ++ crossCells [(⟨za, zb, xc, xd, xp⟩ : Cr)])) := hown8
              have HG8 : Hid (((Z.alloc (.cells #[.int .i64 (za : Nat), .int .i64 (zb : Nat), .int .i64 xc, .int .i64 xd, .bool xp] 89)).alloc (.cells #[.int .i64 (za : Nat), .int .i64 (zb : Nat), .int .i64 xc, .int .i64 xd, .bool xp] 89)).grownBy w8 (Value.slice a3 acc.length c3').ownBlock) := hg8
              obtain ⟨a8, c8, ev8⟩ := own_capS HOW8.out
              subst ev8
              have hb8 := HOX.out.box8 (by omega) HG8.out
              have r0 : w8.cell? ⟨W1.heap.size, 0, none⟩ = some (.slice a3 acc.length c3') := block_cell hb8 rfl
              have r1 : w8.frozen? ⟨W1.heap.size, 0, none⟩ = false := block_frozen hb8
              have r2 : W1.heap.size < w8.heap.size := (Array.getElem?_eq_some_iff.1 hb8).1
              clear hown8 hg8 hb8
              clear s0 s1 s2 s3 s4 t0
              go_wp2
              go_roundw
              case rel => exact ⟨i + 1, .slice a8 (acc.length + 1) c8, acc ++ [(⟨za, zb, xc, xd, xp⟩ : Cr)], by omega, by go_num, (by have := hal.out; simp; omega : (acc ++ [(⟨za, zb, xc, xd, xp⟩ : Cr)]).length = i + 1), (by rw [HNX.out, HRX.out, HMX.out, hacc.out] : acc ++ [(⟨za, zb, xc, xd, xp⟩ : Cr)] = (C.take (i + 1)).map (fun x => revX (wi wk x.a) (wi wk x.b) x)), HOX.out.app (by omega) rfl HOW8.out HG8.out, HOX.out.below (HBW3.out.alloc (by omega) _) (by omega) (by first | omega | (simp; omega)) (Nat.le_refl _) HG8.out⟩
              case measure => simp only [intOf]; omega
        · obtain rfl : i = C.length := by omega
          have e : acc = revC wk C := by rw [hacc.out, List.take_length]; rfl
          have HOUT : Hid (OutAt W3 (W1.heap.size + 1) W1.heap.size v3 loops (revC wk C)) := (by rw [← e]; exact hout : OutAt W3 (W1.heap.size + 1) W1.heap.size v3 loops (revC wk C))
          have hres := (hb.block _ (by omega)).trans HRE.out
          have HRES : Hid (W3.heap[w.heap.size + 1]? = some (.cells #[.slice none 0 0, .int .i64 0] 24 (0, 0))) := hres
          have q0 : W3.cell? ⟨W1.heap.size, 0, none⟩ = some v3 := block_cell hout.box rfl
          have q1 : W3.cell? ⟨W1.heap.size, 1, none⟩ = some (.int .i64 loops) := block_cell hout.box rfl
          have r0 : W3.cell? ⟨w.heap.size + 1, 0, none⟩ = some (.slice none 0 0) := block_cell hres rfl
          have r1 : W3.cell? ⟨w.heap.size + 1, 1, none⟩ = some (.int .i64 0) := block_cell hres rfl
          have f0 : W3.frozen? ⟨w.heap.size + 1, 0, none⟩ = false := block_frozen hres
          have f1 : W3.frozen? ⟨w.heap.size + 1, 1, none⟩ = false := block_frozen hres
          have hl2 : w.heap.size + 1 < W3.heap.size := by omega
          have HBF : Hid (Below w.heap.size w W3) := HBW.out.trans (hb.mono HBW.out.size)
          clear hout hres hacc e
          obtain ⟨a3, c3', ev3⟩ := own_capS HOUT.out.row
          have hrl : (revC wk C).length = C.length := by simp [revC]
          rw [hrl] at ev3
          subst ev3
          go_wp2
          have hX := set_block (i := 1) (u := .int .i64 loops) (set_block (i := 0) (u := .slice a3 C.length c3') HRES.out)
          have x0 := block_cell (i := 0) (v := .slice a3 C.length c3') hX rfl
          have x1 := block_cell (i := 1) (v := .int .i64 loops) hX rfl
          have hk := HOUT.out.kept (st2_grown W3 (w.heap.size + 1) 0 (.slice a3 C.length c3') (.int .i64 loops)) (by omega) (by omega)
          exact bodyPost_ret (v := .agg #[.slice a3 C.length c3', .int .i64 loops]) (by simp [results, Try.results40, go_sem, x0, x1]) rfl ⟨_, rfl, (by rw [HWKE.out]; exact own_low hk.row (by omega)), HBF.out.grown (st2_grown W3 (w.heap.size + 1) 0 (.slice a3 C.length c3') (.int .i64 loops)) (by omega) (fun q hq => by have := Option.some.inj hq; omega)⟩
end Go.Proofs.Ytkbapnjlnnggaaa

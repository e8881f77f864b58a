/- The walk of tangle.Link. -/
import Derived.Test.YtphhlflcghffbaaTL14
namespace Go.Proofs.Ytphhlflcghffbaa
open Go.RowKit Go.Maps

set_option maxHeartbeats 4000000 in
set_option maxRecDepth 100000 in
theorem link_no (a : Option Addr) (cap : Nat) (l : List Int) (w : World) (hl : l.length ≤ 140737488355328) (hn : listN l ≠ 0) (h : RdAt w w.heap.size 1 (.slice a l.length cap) l.length (intsV l)) :
    Calls Try.prog 36 #[.slice a l.length cap] w fun e w' => e = .returned (.tuple #[.agg #[.slice none 0 0, .int .i64 0], .int .i64 (listN l)]) ∧ Below w.heap.size w w' := by
  obtain ⟨Y, hY⟩ : ∃ Y, Y = w.alloc (.cells #[.slice none 0 0, .int .i64 0] 24) := ⟨_, rfl⟩
  have HY : Hid (Y = w.alloc (.cells #[.slice none 0 0, .int .i64 0] 24)) := hY
  have HBY : Hid (Below w.heap.size w Y) := (by rw [hY]; exact (Below.refl _ _).alloc (Nat.le_refl _) _ : Below w.heap.size w Y)
  have HT : Hid (Y.heap[w.heap.size]? = some (.cells #[.slice none 0 0, .int .i64 0] 24 (0, 0))) := (by rw [hY]; exact box_at _ _ : Y.heap[w.heap.size]? = some (.cells #[.slice none 0 0, .int .i64 0] 24 (0, 0)))
  have HF : Hid (Calls Try.prog 84 #[.slice a l.length cap] Y fun e w' => e = .returned (.int .i64 (listN l)) ∧ Below Y.heap.size Y w') := tgRefusal_any a cap l Y hl ((h.on HBY.out).mono HBY.out.size)
  generalize listN l = r at hn HF
  have hr0 : (r == 0) = false := beq_eq_false_iff_ne.2 hn
  have hsY : w.heap.size < Y.heap.size := by rw [hY]; simp
  clear h hY
  go_enter Try.func36, Try.ntmps36
  go_wp2_with (go_at_call 84; rw [← HY.out]; refine HF.out.mono ?_; rintro e9 w2 ⟨rfl, hb2⟩; refine Hid.out ?_)
  refine Lib.hid ?_
  have HB2 : Hid (Below w.heap.size w w2) := HBY.out.trans (hb2.mono HBY.out.size)
  have t2 := (hb2.block _ hsY).trans HT.out
  have HT2 : Hid (w2.heap[w.heap.size]? = some (.cells #[.slice none 0 0, .int .i64 0] 24 (0, 0))) := t2
  have c0 : w2.cell? ⟨w.heap.size, 0, none⟩ = some (.slice none 0 0) := block_cell t2 rfl
  have c1 : w2.cell? ⟨w.heap.size, 1, none⟩ = some (.int .i64 0) := block_cell t2 rfl
  have f0 : w2.frozen? ⟨w.heap.size, 0, none⟩ = false := froz t2
  have f1 : w2.frozen? ⟨w.heap.size, 1, none⟩ = false := froz t2
  have l2 := (Array.getElem?_eq_some_iff.1 t2).1
  clear hb2 t2
  go_wp2
  obtain ⟨Z, hZ⟩ : ∃ Z, Z = (w2.setCell ⟨w.heap.size, 0, none⟩ (.slice none 0 0)).setCell ⟨w.heap.size, 1, none⟩ (.int .i64 0) := ⟨_, rfl⟩
  have hzb : Z.heap[w.heap.size]? = some (.cells #[.slice none 0 0, .int .i64 0] 24 (0, 0)) := by rw [hZ, set_block (set_block HT2.out)]; rfl
  have hgZ : w2.grownBy Z (some w.heap.size) := by rw [hZ]; exact grown_two (set_grown _ _ _ _) (set_grown _ _ _ _)
  rw [← hZ]
  have x0 : Z.cell? ⟨w.heap.size, 0, none⟩ = some (.slice none 0 0) := block_cell hzb rfl
  have x1 : Z.cell? ⟨w.heap.size, 1, none⟩ = some (.int .i64 0) := block_cell hzb rfl
  exact bodyPost_ret (v := .tuple #[.agg #[.slice none 0 0, .int .i64 0], .int .i64 r]) (by simp [results, Try.results36, go_sem, x0, x1]) rfl ⟨rfl, HB2.out.grown hgZ HB2.out.size (fun q hq => by have := Option.some.inj hq; omega)⟩

set_option maxHeartbeats 8000000 in
set_option maxRecDepth 100000 in
theorem link_yes (a : Option Addr) (cap : Nat) (l : List Int) (w : World) (hl : l.length ≤ 140737488355328) (hn : listN l = 0) (h : RdAt w w.heap.size 1 (.slice a l.length cap) l.length (intsV l)) :
    Calls Try.prog 36 #[.slice a l.length cap] w fun e w' => ∃ a2 cap2, e = .returned (.tuple #[.agg #[.slice a2 (szTo l l.length) cap2, .int .i64 (lkO l : Nat)], .int .i64 0]) ∧ Crs w' w'.heap.size (.slice a2 (szTo l l.length) cap2) (lkC (szTo l l.length) (lkU l)) ∧ Below w.heap.size w w' := by
  obtain ⟨Y, hY⟩ : ∃ Y, Y = w.alloc (.cells #[.slice none 0 0, .int .i64 0] 24) := ⟨_, rfl⟩
  have HY : Hid (Y = w.alloc (.cells #[.slice none 0 0, .int .i64 0] 24)) := hY
  have HBY : Hid (Below w.heap.size w Y) := (by rw [hY]; exact (Below.refl _ _).alloc (Nat.le_refl _) _ : Below w.heap.size w Y)
  have HT : Hid (Y.heap[w.heap.size]? = some (.cells #[.slice none 0 0, .int .i64 0] 24 (0, 0))) := (by rw [hY]; exact box_at _ _ : Y.heap[w.heap.size]? = some (.cells #[.slice none 0 0, .int .i64 0] 24 (0, 0)))
  have HF : Hid (Calls Try.prog 84 #[.slice a l.length cap] Y fun e w' => e = .returned (.int .i64 (listN l)) ∧ Below Y.heap.size Y w') := tgRefusal_any a cap l Y hl ((h.on HBY.out).mono HBY.out.size)
  rw [hn] at HF
  obtain ⟨g1, g2, g3⟩ := listN_ok hn
  have HTW : Hid (∀ W, Below w.heap.size w W → Calls Try.prog 85 #[.slice a l.length cap] W fun e w' => e = .returned (.tuple #[.map (some W.heap.size), .int .i64 (szTo l l.length : Nat)]) ∧ MapT w' W.heap.size 400 (Dom (szTo l l.length)) (twL l l.length) ∧ Below W.heap.size W w') := fun W hW => twisted_any a cap l W hl g3 g1 ((h.on hW).mono hW.size)
  obtain ⟨n, hN⟩ : ∃ n, szTo l l.length = n := ⟨_, rfl⟩
  have hU := lkU_ties l
  have hIV := twL_invo l l.length
  rw [hN] at HTW hU hIV g3 ⊢
  have HOE : Hid (lkO l = (if twL l l.length 0 = 1 then 1 else 0) + (if jn (twL l l.length) 0 1 2 = 3 then 1 else 0)) := (rfl : lkO l = (if twL l l.length 0 = 1 then 1 else 0) + (if jn (twL l l.length) 0 1 2 = 3 then 1 else 0))
  have HUE : Hid (lkU l = jn (jn (twL l l.length) 0 1) 2 3) := (rfl : lkU l = jn (jn (twL l l.length) 0 1) 2 3)
  generalize twL l l.length = T at HTW hIV HOE HUE
  have hb1 : ∀ x, x < 4 * n + 4 → T x < 4 * n + 4 := fun x hx => hIV.sp x hx
  have hJ := jn_invo hIV (a := 0) (b := 1) (by unfold Dom; omega) (by unfold Dom; omega) (by decide)
  have HJ1 : Hid (∀ b W, MapT W b 400 (Dom n) T → Calls Try.prog 86 #[.map (some b), .int .i64 0, .int .i64 1] W fun r w' => r = .returned (.int .i64 (if T 0 = 1 then 1 else 0)) ∧ MapT w' b 402 (Dom n) (jn T 0 1) ∧ W.grownBy w' (some b)) := fun b W hW => join_any b 400 0 1 (Dom n) T W hW (by omega) (by omega) (by unfold Dom; omega) (by unfold Dom; omega) (by have := hb1 0 (by omega); omega) (by have := hb1 1 (by omega); omega) (by omega)
  have hb2 : jn T 0 1 2 < 80 ∧ jn T 0 1 3 < 80 := by
    have q1 : jn T 0 1 2 < 4 * n + 4 := (hJ.sp 2 ⟨by unfold Dom; omega, by decide, by decide⟩).1
    have q2 : jn T 0 1 3 < 4 * n + 4 := (hJ.sp 3 ⟨by unfold Dom; omega, by decide, by decide⟩).1
    omega
  have HJ2 : Hid (∀ b W, MapT W b 402 (Dom n) (jn T 0 1) → Calls Try.prog 86 #[.map (some b), .int .i64 2, .int .i64 3] W fun r w' => r = .returned (.int .i64 (if jn T 0 1 2 = 3 then 1 else 0)) ∧ MapT w' b 404 (Dom n) (jn (jn T 0 1) 2 3) ∧ W.grownBy w' (some b)) := fun b W hW => join_any b 402 2 3 (Dom n) (jn T 0 1) W hW (by omega) (by omega) (by unfold Dom; omega) (by unfold Dom; omega) hb2.1 hb2.2 (by omega)
  have HWK : Hid (∀ b W, MapT W b 404 (Dom n) (jn (jn T 0 1) 2 3) → Calls Try.prog 87 #[.map (some b), .int .i64 (n : Nat)] W fun e w' => ∃ g, e = .returned (.slice (some ⟨g, 0, none⟩) n n) ∧ W.heap.size ≤ g ∧ w'.ownsRow g 105 5 (.slice (some ⟨g, 0, none⟩) n n) n (crossCells (lkC n (lkU l))) ∧ Below W.heap.size W w') := fun b W hW => walked_any b 404 n (lkU l) W hU g3 (hW.congr (Nat.le_refl _) (fun x hx => ⟨by unfold Sp at hx; unfold Dom; omega, by rw [HUE.out]⟩))
  obtain ⟨o1, ho1⟩ : ∃ o1 : Nat, (if T 0 = 1 then 1 else 0) = o1 := ⟨_, rfl⟩
  obtain ⟨o2, ho2⟩ : ∃ o2 : Nat, (if jn T 0 1 2 = 3 then 1 else 0) = o2 := ⟨_, rfl⟩
  have k1 : o1 ≤ 1 := by rw [← ho1]; split <;> omega
  have k2 : o2 ≤ 1 := by rw [← ho2]; split <;> omega
  have z1 : (if T 0 = 1 then (1 : Int) else 0) = (o1 : Int) := by rw [← ho1]; split <;> rfl
  have z2 : (if jn T 0 1 2 = 3 then (1 : Int) else 0) = (o2 : Int) := by rw [← ho2]; split <;> rfl
  rw [ho1, ho2] at HOE
  rw [z1] at HJ1
  rw [z2] at HJ2
  have HOI : Hid ((lkO l : Int) = (o1 : Int) + (o2 : Int)) := (by rw [HOE.out]; simp : (lkO l : Int) = (o1 : Int) + (o2 : Int))
  have ewo : IntKind.i64.wrap ((o1 : Int) + (o2 : Int)) = (o1 : Int) + (o2 : Int) := IntWalk.i64_in _ (by omega)
  have hsY : w.heap.size < Y.heap.size := by rw [hY]; simp
  rw [HOI.out]
  clear h hY hN hU hIV hb1 hJ hb2 ho1 ho2 z1 z2 g1 g2 HOE HUE
  go_enter Try.func36, Try.ntmps36
  go_wp2_with (go_at_call 84; rw [← HY.out]; refine HF.out.mono ?_; rintro e9 w2 ⟨rfl, hb2⟩; refine Hid.out ?_)
  refine Lib.hid ?_
  have HB2 : Hid (Below w.heap.size w w2) := HBY.out.trans (hb2.mono HBY.out.size)
  have HT2 : Hid (w2.heap[w.heap.size]? = some (.cells #[.slice none 0 0, .int .i64 0] 24 (0, 0))) := (hb2.block _ hsY).trans HT.out
  have l2 := (Array.getElem?_eq_some_iff.1 HT2.out).1
  clear hb2
  go_wp2_with (go_at_call 85; refine (HTW.out _ HB2.out).mono ?_; rintro e9 w3 ⟨rfl, hm3, hb3⟩; refine Hid.out ?_)
  refine Lib.hid ?_
  obtain ⟨b, hbe⟩ : ∃ b, w2.heap.size = b := ⟨_, rfl⟩
  have HB3 : Hid (Below w.heap.size w w3) := HB2.out.trans (hb3.mono HB2.out.size)
  have HT3 : Hid (w3.heap[w.heap.size]? = some (.cells #[.slice none 0 0, .int .i64 0] 24 (0, 0))) := (hb3.block _ l2).trans HT2.out
  have HLB : Hid (w.heap.size < b) := (by rw [← hbe]; exact l2 : w.heap.size < b)
  rw [hbe] at hm3 ⊢
  have HM3 : Hid (MapT w3 b 400 (Dom n) T) := hm3
  clear hm3 hb3 hbe l2 HTW
  go_wp2_with (go_at_call 86; refine (HJ1.out b _ HM3.out).mono ?_; rintro e9 w4 ⟨rfl, hm4, hg4⟩; refine Hid.out ?_)
  refine Lib.hid ?_
  have HM4 : Hid (MapT w4 b 402 (Dom n) (jn T 0 1)) := hm4
  have HG4 : Hid (w3.grownBy w4 (some b)) := hg4
  clear hm4 hg4
  go_wp2_with (go_at_call 86; refine (HJ2.out b _ HM4.out).mono ?_; rintro e9 w5 ⟨rfl, hm5, hg5⟩; refine Hid.out ?_)
  refine Lib.hid ?_
  have HM5 : Hid (MapT w5 b 404 (Dom n) (jn (jn T 0 1) 2 3)) := hm5
  have HG5 : Hid (w3.grownBy w5 (some b)) := grown_two HG4.out hg5
  have HB5 : Hid (Below w.heap.size w w5) := below_map HB3.out (by have := HLB.out; omega) HG5.out
  have HT5 : Hid (w5.heap[w.heap.size]? = some (.cells #[.slice none 0 0, .int .i64 0] 24 (0, 0))) := (HG5.out.block _ (Array.getElem?_eq_some_iff.1 HT3.out).1 (fun e => by have h1 : w.heap.size = b := Option.some.inj e; have h2 := HLB.out; omega)).trans HT3.out
  clear hm5 hg5
  go_wp2_with (go_at_call 87; refine (HWK.out b _ HM5.out).mono ?_; rintro e9 w6 ⟨g6, rfl, hg6, hc6, hb6⟩; refine Hid.out ?_)
  refine Lib.hid ?_
  have HB6 : Hid (Below w.heap.size w w6) := HB5.out.trans (hb6.mono HB5.out.size)
  have HC6 : Hid (w6.ownsRow g6 105 5 (.slice (some ⟨g6, 0, none⟩) n n) n (crossCells (lkC n (lkU l)))) := hc6
  have HG6 : Hid (w.heap.size < g6) := (Nat.lt_of_lt_of_le (Array.getElem?_eq_some_iff.1 HT5.out).1 hg6 : w.heap.size < g6)
  have t6 := (hb6.block _ (Array.getElem?_eq_some_iff.1 HT5.out).1).trans HT5.out
  have HT6 : Hid (w6.heap[w.heap.size]? = some (.cells #[.slice none 0 0, .int .i64 0] 24 (0, 0))) := t6
  have c0 : w6.cell? ⟨w.heap.size, 0, none⟩ = some (.slice none 0 0) := block_cell t6 rfl
  have c1 : w6.cell? ⟨w.heap.size, 1, none⟩ = some (.int .i64 0) := block_cell t6 rfl
  have f0 : w6.frozen? ⟨w.heap.size, 0, none⟩ = false := froz t6
  have f1 : w6.frozen? ⟨w.heap.size, 1, none⟩ = false := froz t6
  have l6 := (Array.getElem?_eq_some_iff.1 t6).1
  clear hb6 t6 hc6 hg6
  go_wp2
  obtain ⟨Z, hZ⟩ : ∃ Z, Z = (w6.setCell ⟨w.heap.size, 0, none⟩ (.slice (some ⟨g6, 0, none⟩) n n)).setCell ⟨w.heap.size, 1, none⟩ (.int .i64 ((o1 : Int) + (o2 : Int))) := ⟨_, rfl⟩
  have hzb : Z.heap[w.heap.size]? = some (.cells #[.slice (some ⟨g6, 0, none⟩) n n, .int .i64 ((o1 : Int) + (o2 : Int))] 24 (0, 0)) := by rw [hZ, set_block (set_block HT6.out)]; rfl
  have hgZ : w6.grownBy Z (some w.heap.size) := by rw [hZ]; exact grown_two (set_grown _ _ _ _) (set_grown _ _ _ _)
  rw [← hZ]
  have x0 : Z.cell? ⟨w.heap.size, 0, none⟩ = some (.slice (some ⟨g6, 0, none⟩) n n) := block_cell hzb rfl
  have x1 : Z.cell? ⟨w.heap.size, 1, none⟩ = some (.int .i64 ((o1 : Int) + (o2 : Int))) := block_cell hzb rfl
  have hlc : (lkC n (lkU l)).length = n := by simp [lkC]
  have hrz : Z.ownsRow g6 105 5 (.slice (some ⟨g6, 0, none⟩) n n) (lkC n (lkU l)).length (crossCells (lkC n (lkU l))) := by
    rw [hlc]
    exact HC6.out.kept hgZ (Or.inr (fun e => by have h1 : g6 = w.heap.size := Option.some.inj e; have h2 := HG6.out; omega))
  exact bodyPost_ret (v := .tuple #[.agg #[.slice (some ⟨g6, 0, none⟩) n n, .int .i64 ((o1 : Int) + (o2 : Int))], .int .i64 0]) (by simp [results, Try.results36, go_sem, x0, x1]) rfl ⟨_, _, rfl, crs_own hrz (by rw [hlc]; unfold maxLen; omega), HB6.out.grown hgZ HB6.out.size (fun q hq => by have := Option.some.inj hq; omega)⟩
end Go.Proofs.Ytphhlflcghffbaa

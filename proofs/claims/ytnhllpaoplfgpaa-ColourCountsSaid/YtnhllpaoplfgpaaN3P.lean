/- Several texts of the proof, one behind the other. -/
import Derived.Test.YtnhllpaoplfgpaaY0P
import Derived.Test.YtnhllpaoplfgpaaO3
import Derived.Test.YtnhllpaoplfgpaaX5rP
/- The walk of colour.rules. -/
namespace Go.Proofs.Ytnhllpaoplfgpaa
open Go.RowKit

theorem drew_blk {w : World} {k : Nat} {o : Option Obj} (h : w.heap[k]? = o) : w.drew.heap[k]? = o := h
theorem new_cell3' {W : World} {s : Nat} (hs : s = W.heap.size) (a b c : Value) (e : TypeId) : ∀ j u, [a, b, c][j]? = some u → (W.alloc (.cells #[a, b, c] e)).cell? ((⟨s, 0, none⟩ : Addr).add j) = some u := by
  intro j u hu
  subst hs
  have hg : (W.alloc (.cells #[a, b, c] e)).heap[W.heap.size]? = some (.cells #[a, b, c] e (0, 0)) := alloc_at rfl
  have hadd : ∀ j, (⟨W.heap.size, 0, none⟩ : Addr).add j = ⟨W.heap.size, j, none⟩ := fun j => by unfold Addr.add; split <;> simp_all
  rw [hadd, cell_of_row _ _ _ _ _ _ hg]
  simpa using hu
theorem three_one (x y z : Nat) : ∀ u ∈ [Value.int .i64 (x : Nat), .int .i64 (y : Nat), .int .i64 (z : Nat)], u.oneCell' = true := by
  intro u hu
  simp only [List.mem_cons, List.not_mem_nil, or_false] at hu
  rcases hu with rfl | rfl | rfl <;> rfl
theorem grown_new2 {a b c : World} {g : Nat} (h : a.grownBy b none) (k : b.grownBy c (some g)) (hg : a.heap.size ≤ g) : a.grownBy c none :=
  ⟨k.os.trans h.os, k.tape.trans h.tape, k.output.trans h.output, Nat.le_trans h.size k.size, fun j hj _ => (k.block j (Nat.lt_of_lt_of_le hj h.size) (fun e => by have := Option.some.inj e; omega)).trans (h.block j hj (by simp))⟩
/-- Rules as cells. -/
def ruCells (R : List (Nat × Nat × Nat)) : List Value := R.flatMap fun r => [.int .i64 (r.1 : Nat), .int .i64 (r.2.1 : Nat), .int .i64 (r.2.2 : Nat)]
theorem ruCells_len (R : List (Nat × Nat × Nat)) : (ruCells R).length = R.length * 3 := by
  induction R with
  | nil => rfl
  | cons t l ih => simp [ruCells] at *; omega
theorem ruCells_app (R : List (Nat × Nat × Nat)) (r : Nat × Nat × Nat) : ruCells (R ++ [r]) = ruCells R ++ [.int .i64 (r.1 : Nat), .int .i64 (r.2.1 : Nat), .int .i64 (r.2.2 : Nat)] := by simp [ruCells]
theorem ruCells_get (R : List (Nat × Nat × Nat)) (k : Nat) (h : k < R.length) : (ruCells R)[k * 3]? = some (.int .i64 ((R.getD k (0, 0, 0)).1 : Nat)) ∧ (ruCells R)[k * 3 + 1]? = some (.int .i64 ((R.getD k (0, 0, 0)).2.1 : Nat)) ∧ (ruCells R)[k * 3 + 2]? = some (.int .i64 ((R.getD k (0, 0, 0)).2.2 : Nat)) := by
  induction R generalizing k with
  | nil => simp at h
  | cons v V ih =>
    have e : ruCells (v :: V) = .int .i64 (v.1 : Nat) :: .int .i64 (v.2.1 : Nat) :: .int .i64 (v.2.2 : Nat) :: ruCells V := by simp [ruCells]
    cases k with
    | zero => rw [e]; exact ⟨rfl, rfl, rfl⟩
    | succ k =>
      have := ih k (by simpa using h)
      rw [e, show (k + 1) * 3 = k * 3 + 1 + 1 + 1 by omega]
      simpa using this
theorem infoRule : (Try.prog.info? 231).map (fun i => (i.zero, i.size, i.bytes)) = some (some (.agg #[.int .i64 0, .int .i64 0, .int .i64 0]), 3, 24) := by kernel_rfl
/-- The rule of a crossing. -/
def ruleC (C : List Cr) (c : Cr) : Nat × Nat × Nat := if c.plus = true then (ovM C c.a.toNat, ovM C c.b.toNat, ovM C c.c.toNat) else (ovM C c.c.toNat, ovM C c.b.toNat, ovM C c.a.toNat)
theorem rulesM_eq (C : List Cr) : rulesM C = C.map (ruleC C) := rfl

set_option maxHeartbeats 8000000 in
set_option maxRecDepth 100000 in
theorem rules_any (a : Option Addr) (cap : Nat) (C : List Cr) (loops : Int) (gF cF gT cT g : Nat) (w : World) (hm : mayD C loops = true) (hD : Dr w a cap C gF gT)
    (hO : w.ownsRow 0 3 1 (.slice (some ⟨g, 0, none⟩) (2 * C.length + 1) (2 * C.length + 1)) (2 * C.length + 1) (nats (ovTo C (2 * C.length + 1)))) :
    Calls Try.prog 130 #[drV a cap C loops gF cF gT cT, .slice (some ⟨g, 0, none⟩) (2 * C.length + 1) (2 * C.length + 1)] w fun e w' => ∃ v, e = .returned v ∧ w'.ownsRow w.heap.size 231 3 v C.length (ruCells (rulesM C)) ∧ Below w.heap.size w w' := by
  obtain ⟨s1, -, -, -⟩ := sizeB_iff (may_size hm)
  obtain ⟨i1, hj, hy0, hy1, hy2⟩ := info_parts infoRule
  have HM : Hid (mayD C loops = true) := hm
  have HD : Hid (Dr w a cap C gF gT) := hD
  have HO : Hid (w.ownsRow 0 3 1 (.slice (some ⟨g, 0, none⟩) (2 * C.length + 1) (2 * C.length + 1)) (2 * C.length + 1) (nats (ovTo C (2 * C.length + 1)))) := hO
  have hgw := (hO.lt g rfl).2
  obtain ⟨N, hN⟩ : ∃ N, N = 2 * C.length + 1 := ⟨_, rfl⟩
  have HN : Hid (N = 2 * C.length + 1) := hN
  have hN1 : 1 ≤ N := by omega
  have hN2 : N ≤ 33 := by omega
  unfold drV
  rw [← hN] at HO ⊢
  clear hm hD hO hN
  have HOC : Hid (∀ b, 1 ≤ b → b < N → w.cell? ⟨g, b, none⟩ = some (.int .i64 (ovM C b : Nat))) := fun b h1 h2 => by
    rw [HO.out.cellAt b (by omega), nats_get _ b (by rw [ovTo_len]; have := HN.out; omega), ovTo_at _ _ _ (by have := HN.out; omega), if_pos ⟨h2, h1⟩]
  go_enter Try.func130, Try.ntmps130
  have HB0 : Hid (Below w.heap.size w (w.alloc (.cells #[.slice a C.length cap, .int .i64 loops, .slice (some ⟨gF, 0, none⟩) N cF, .slice (some ⟨gT, 0, none⟩) N cT] 120))) := (Below.refl _ _).alloc (Nat.le_refl _) _
  go_wp2
  go_loopw [5, 13] (fun v5 v13 wr => ∃ k : Nat, k ≤ C.length ∧ v13 = .int .i64 (k : Nat) ∧ Hid (wr.ownsRow w.heap.size 231 3 v5 k (ruCells ((rulesM C).take k)) ∧ Below w.heap.size w wr)) (fun _ v13 _ => C.length - (intOf v13).toNat)
  case atStart => exact ⟨0, Nat.zero_le _, rfl, World.ownsRow_nil _ _ _ _, HB0.out⟩
  case round =>
    clear HB0
    rename World => W1
    obtain ⟨k, hkn, rfl, hp1⟩ := hrel
    obtain ⟨av, cv, rfl⟩ := own_capS hp1.out.1
    by_cases hil : k < C.length
    · obtain ⟨b, off, ea, hbw, hC⟩ := HD.out.cross (by omega)
      have HEA : Hid (a = some ⟨b, off, none⟩) := ea
      obtain ⟨e0, e1, e2, e3, e4⟩ := (hC.on hp1.out.2 hbw) k hil
      have fa := may_fit HM.out k 0 hil (by omega)
      have fb := may_fit HM.out k 1 hil (by omega)
      have fc := may_fit HM.out k 2 hil (by omega)
      have HX : Hid ((C.getD k Cr.none).arc 0 = (C.getD k Cr.none).a ∧ (C.getD k Cr.none).arc 1 = (C.getD k Cr.none).b ∧ (C.getD k Cr.none).arc 2 = (C.getD k Cr.none).c) := ⟨rfl, rfl, rfl⟩
      have fa1 := fa.1
      have fa2 := fa.2.1
      have fb1 := fb.1
      have fb2 := fb.2.1
      have fc1 := fc.1
      have fc2 := fc.2.1
      rw [HX.out.1] at fa1 fa2
      rw [HX.out.2.1] at fb1 fb2
      rw [HX.out.2.2] at fc1 fc2
      obtain ⟨xa, hxa⟩ : ∃ x : Nat, (C.getD k Cr.none).a = (x : Int) := ⟨(C.getD k Cr.none).a.toNat, by omega⟩
      obtain ⟨xb, hxb⟩ : ∃ x : Nat, (C.getD k Cr.none).b = (x : Int) := ⟨(C.getD k Cr.none).b.toNat, by omega⟩
      obtain ⟨xc, hxc⟩ : ∃ x : Nat, (C.getD k Cr.none).c = (x : Int) := ⟨(C.getD k Cr.none).c.toNat, by omega⟩
      obtain ⟨cd, hcd⟩ : ∃ z, (C.getD k Cr.none).d = z := ⟨_, rfl⟩
      obtain ⟨cp, hcp⟩ : ∃ z, (C.getD k Cr.none).plus = z := ⟨_, rfl⟩
      have HRU : Hid ((rulesM C).take (k + 1) = (rulesM C).take k ++ [if cp = true then (ovM C xa, ovM C xb, ovM C xc) else (ovM C xc, ovM C xb, ovM C xa)]) := (by
        rw [rulesM_eq, List.take_succ_eq_append_getElem (by rw [List.length_map]; exact hil), List.getElem_map]
        have e : C[k] = C.getD k Cr.none := by rw [List.getD_eq_getElem?_getD, List.getElem?_eq_getElem hil]; rfl
        rw [e]
        unfold ruleC
        rw [hcp, hxa, hxb, hxc]
        rfl : (rulesM C).take (k + 1) = (rulesM C).take k ++ [if cp = true then (ovM C xa, ovM C xb, ovM C xc) else (ovM C xc, ovM C xb, ovM C xa)])
      rw [hxa] at e0 fa1 fa2
      rw [hxb] at e1 fb1 fb2
      rw [hxc] at e2 fc1 fc2
      rw [hcd] at e3
      rw [hcp] at e4
      have hxaN : 1 ≤ xa ∧ xa < N := by have := HN.out; omega
      have hxbN : 1 ≤ xb ∧ xb < N := by have := HN.out; omega
      have hxcN : 1 ≤ xc ∧ xc < N := by have := HN.out; omega
      have HOX : Hid (∀ W, Below w.heap.size w W → W.cell? ⟨g, xa, none⟩ = some (.int .i64 (ovM C xa : Nat)) ∧ W.cell? ⟨g, xb, none⟩ = some (.int .i64 (ovM C xb : Nat)) ∧ W.cell? ⟨g, xc, none⟩ = some (.int .i64 (ovM C xc : Nat))) := fun W hW => ⟨bcell hW hgw (HOC.out xa hxaN.1 hxaN.2), bcell hW hgw (HOC.out xb hxbN.1 hxbN.2), bcell hW hgw (HOC.out xc hxcN.1 hxcN.2)⟩
      obtain ⟨oa, hoa'⟩ : ∃ o, ovM C xa = o := ⟨_, rfl⟩
      obtain ⟨ob, hob'⟩ : ∃ o, ovM C xb = o := ⟨_, rfl⟩
      obtain ⟨oc, hoc'⟩ : ∃ o, ovM C xc = o := ⟨_, rfl⟩
      rw [hoa', hob', hoc'] at HRU HOX
      have hs1 := hp1.out.2.size
      have HROW : Hid (W1.ownsRow w.heap.size 231 3 (.slice av k cv) k (ruCells ((rulesM C).take k))) := hp1.out.1
      have HB1 : Hid (Below w.heap.size w W1) := hp1.out.2
      have hbW : b < W1.heap.size := by omega
      have hgW : g < W1.heap.size := by omega
      have hii : (k : Int) < (C.length : Int) := by omega
      have g1 := (HOX.out W1 HB1.out).1
      have g2 := (HOX.out W1 HB1.out).2.1
      have g3 := (HOX.out W1 HB1.out).2.2
      clear hC fa fb fc fa1 fa2 fb1 fb2 fc1 fc2 hxa hxb hxc hcd hcp hoa' hob' hoc' hp1
      obtain ⟨X0, hX0⟩ : ∃ X, X = W1.alloc (.cells #[.int .i64 (xa : Nat), .int .i64 (xb : Nat), .int .i64 (xc : Nat), .int .i64 cd, .bool cp] 70) := ⟨_, rfl⟩
      have HX0 : Hid (X0 = W1.alloc (.cells #[.int .i64 (xa : Nat), .int .i64 (xb : Nat), .int .i64 (xc : Nat), .int .i64 cd, .bool cp] 70)) := hX0
      have hs0 : X0.heap.size = W1.heap.size + 1 := by rw [hX0]; simp
      have HXB : Hid (X0.heap[W1.heap.size]? = some (.cells #[.int .i64 (xa : Nat), .int .i64 (xb : Nat), .int .i64 (xc : Nat), .int .i64 cd, .bool cp] 70 (0, 0)) ∧ W1.grownBy X0 none) := (by rw [hX0]; exact ⟨alloc_at rfl, World.grownBy_alloc _ _ none⟩ : X0.heap[W1.heap.size]? = some (.cells #[.int .i64 (xa : Nat), .int .i64 (xb : Nat), .int .i64 (xc : Nat), .int .i64 cd, .bool cp] 70 (0, 0)) ∧ W1.grownBy X0 none)
      have HBX : Hid (Below w.heap.size w X0) := HB1.out.grown HXB.out.2 hs1 (fun k hk => by cases hk)
      have HSS : Hid (∀ W, Below X0.heap.size X0 W → W.cell? ⟨W1.heap.size, 0, none⟩ = some (.int .i64 (xa : Nat)) ∧ W.cell? ⟨W1.heap.size, 1, none⟩ = some (.int .i64 (xb : Nat)) ∧ W.cell? ⟨W1.heap.size, 2, none⟩ = some (.int .i64 (xc : Nat)) ∧ W.cell? ⟨g, xa, none⟩ = some (.int .i64 (oa : Nat)) ∧ W.cell? ⟨g, xb, none⟩ = some (.int .i64 (ob : Nat)) ∧ W.cell? ⟨g, xc, none⟩ = some (.int .i64 (oc : Nat))) := fun W hW => ⟨bcell hW (by omega) (block_cell HXB.out.1 rfl), bcell hW (by omega) (block_cell HXB.out.1 rfl), bcell hW (by omega) (block_cell HXB.out.1 rfl), HOX.out W (HBX.out.trans (hW.mono HBX.out.size))⟩
      have HSR : Hid (Below X0.heap.size X0 X0.drew) := below_drewN (Below.refl _ _) 1
      have HSA : Hid (∀ o, Below X0.heap.size X0 (X0.alloc o)) := fun o => (Below.refl _ _).alloc (Nat.le_refl _) o
      have HSD : Hid (∀ o, Below X0.heap.size X0 (X0.alloc o).drew) := fun o => below_drewN ((Below.refl _ _).alloc (Nat.le_refl _) o) 1
      have HSE : Hid (∀ W, Below X0.heap.size X0 W → ∀ a b c, Below X0.heap.size X0 (((W.setCell ⟨X0.heap.size, 0, none⟩ a).setCell ⟨X0.heap.size, 1, none⟩ b).setCell ⟨X0.heap.size, 2, none⟩ c)) := fun W hW a b c => belowSet (belowSet (belowSet hW (Nat.le_refl _) _ _) (Nat.le_refl _) _ _) (Nat.le_refl _) _ _
      have l1 : (xa : Int) < (N : Int) := by omega
      have l2 : (xb : Int) < (N : Int) := by omega
      have l3 : (xc : Int) < (N : Int) := by omega
      go_upto_region 5 with (fail)
      rw [← HX0.out]
      clear e0 e1 e2 e3 e4 g1 g2 g3 hX0
      go_region_held3 (fun w' => w'.cell? ⟨W1.heap.size, 0, none⟩ = some (.int .i64 (xa : Nat)) ∧ w'.cell? ⟨W1.heap.size, 1, none⟩ = some (.int .i64 (xb : Nat)) ∧ w'.cell? ⟨W1.heap.size, 2, none⟩ = some (.int .i64 (xc : Nat)) ∧ w'.cell? ⟨g, xa, none⟩ = some (.int .i64 (oa : Nat)) ∧ w'.cell? ⟨g, xb, none⟩ = some (.int .i64 (ob : Nat)) ∧ w'.cell? ⟨g, xc, none⟩ = some (.int .i64 (oc : Nat))) (first | exact HSS.out _ HSR.out | exact HSS.out _ (HSA.out _) | exact HSS.out _ (HSD.out _) | exact HSS.out _ (HSE.out _ (HSD.out _) _ _ _) | (trace_state; fail)) (fail)
      obtain ⟨X1, hX1⟩ : ∃ X, X = (X0.alloc (.cells #[.int .i64 (oa : Nat), .int .i64 (ob : Nat), .int .i64 (oc : Nat)] 231)).drew := ⟨_, rfl⟩
      have HX1 : Hid (X1 = (X0.alloc (.cells #[.int .i64 (oa : Nat), .int .i64 (ob : Nat), .int .i64 (oc : Nat)] 231)).drew) := hX1
      rw [← HX1.out]
      have hs2 : X1.heap.size = W1.heap.size + 2 := by rw [hX1]; simp [hs0]
      have hbx : Below X0.heap.size X0 X1 := by rw [hX1]; exact HSD.out _
      have hc4 : X1.cell? ⟨W1.heap.size, 4, none⟩ = some (.bool cp) := bcell hbx (by omega) (block_cell HXB.out.1 rfl)
      have hbk : X1.heap[W1.heap.size + 1]? = some (.cells #[.int .i64 (oa : Nat), .int .i64 (ob : Nat), .int .i64 (oc : Nat)] 231 (0, 0)) := by rw [hX1]; exact drew_blk (alloc_at hs0.symm)
      have HBK : Hid (X1.heap[W1.heap.size + 1]? = some (.cells #[.int .i64 (oa : Nat), .int .i64 (ob : Nat), .int .i64 (oc : Nat)] 231 (0, 0))) := hbk
      have HG1 : Hid (W1.grownBy X1 none) := HXB.out.2.trans (grown_below hbx none)
      have r0 : X1.cell? ⟨W1.heap.size + 1, 0, none⟩ = some (.int .i64 (oa : Nat)) := block_cell hbk rfl
      have r1 : X1.cell? ⟨W1.heap.size + 1, 1, none⟩ = some (.int .i64 (ob : Nat)) := block_cell hbk rfl
      have r2 : X1.cell? ⟨W1.heap.size + 1, 2, none⟩ = some (.int .i64 (oc : Nat)) := block_cell hbk rfl
      have z0 : X1.frozen? ⟨W1.heap.size + 1, 0, none⟩ = false := block_frozen hbk
      have z2 : X1.frozen? ⟨W1.heap.size + 1, 2, none⟩ = false := block_frozen hbk
      clear hbx hbk hX1 HX1 HSS HSR HSA HSD HSE HX0 HXB HBX hs0 l1 l2 l3
      rw [← HEA.out]
      clear ea HEA
      cases cp with
      | true =>
        clear z0 z2
        go_upto_region 8 with (fail)
        have HRW : Hid (X1.ownsRow w.heap.size 231 3 (.slice av k cv) k (ruCells ((rulesM C).take k))) := own_any HROW.out HG1.out
        have HBB : Hid (Below w.heap.size w X1) := HB1.out.grown HG1.out hs1 (fun k hk => by cases hk)
        go_wp2_with (first | (at_builtin; refine wpList_append_own _ rfl _ _ 168 rfl w.heap.size 231 i1 (.agg #[.int .i64 0, .int .i64 0, .int .i64 0]) 3 24 Try.underlying168 hj hy0 hy1 hy2 rfl (by decide) _ k _ rfl (HRW.out.alloc _) ⟨W1.heap.size + 2, 0, none⟩ 1 1 [.int .i64 (oa : Nat), .int .i64 (ob : Nat), .int .i64 (oc : Nat)] rfl rfl (new_cell3' hs2.symm _ _ _ _) (three_one _ _ _) (by unfold maxLen; omega) (by omega) (by simp; omega) ?_; intro v8 w8 hown8 hg8 _; refine Hid.out ?_))
        refine Lib.hid ?_
        have HFIN : Hid (w8.ownsRow w.heap.size 231 3 v8 (k + 1) (ruCells ((rulesM C).take (k + 1))) ∧ Below w.heap.size w w8) := (by
          refine ⟨?_, (HBB.out.alloc HBB.out.size _).grown hg8 (by simp; omega) (fun q hq => ((HRW.out.alloc (.cells #[.int .i64 (oa : Nat), .int .i64 (ob : Nat), .int .i64 (oc : Nat)] 231)).lt q hq).1)⟩
          rw [HRU.out, ruCells_app]
          exact hown8 : w8.ownsRow w.heap.size 231 3 v8 (k + 1) (ruCells ((rulesM C).take (k + 1))) ∧ Below w.heap.size w w8)
        clear hown8 hg8
        obtain ⟨a9, c9, rfl⟩ := own_capS HFIN.out.1
        go_wp2
        go_roundw
        case rel => exact ⟨k + 1, by omega, by go_num, HFIN.out⟩
        case measure => simp only [intOf]; omega
      | false =>
        obtain ⟨X2, hX2⟩ : ∃ X, X = (X1.setCell ⟨W1.heap.size + 1, 0, none⟩ (.int .i64 (oc : Nat))).setCell ⟨W1.heap.size + 1, 2, none⟩ (.int .i64 (oa : Nat)) := ⟨_, rfl⟩
        have HX2 : Hid (X2 = (X1.setCell ⟨W1.heap.size + 1, 0, none⟩ (.int .i64 (oc : Nat))).setCell ⟨W1.heap.size + 1, 2, none⟩ (.int .i64 (oa : Nat))) := hX2
        have hs3 : X2.heap.size = W1.heap.size + 2 := by rw [hX2]; simp [hs2]
        have hbk : X2.heap[W1.heap.size + 1]? = some (.cells #[.int .i64 (oc : Nat), .int .i64 (ob : Nat), .int .i64 (oa : Nat)] 231 (0, 0)) := by rw [hX2, set_block (set_block HBK.out)]; rfl
        have HG2 : Hid (W1.grownBy X2 none) := grown_new2 HG1.out (by rw [hX2]; exact grown_trans (set_grown _ _ _ _) (set_grown _ _ _ _)) (by omega)
        have q0 : X2.cell? ⟨W1.heap.size + 1, 0, none⟩ = some (.int .i64 (oc : Nat)) := block_cell hbk rfl
        have q1 : X2.cell? ⟨W1.heap.size + 1, 1, none⟩ = some (.int .i64 (ob : Nat)) := block_cell hbk rfl
        have q2 : X2.cell? ⟨W1.heap.size + 1, 2, none⟩ = some (.int .i64 (oa : Nat)) := block_cell hbk rfl
        clear hX2 hbk
        go_upto_region 8 with (fail)
        rw [← HX2.out]
        clear HX2 r0 r1 r2 z0 z2 hc4
        have HRW : Hid (X2.ownsRow w.heap.size 231 3 (.slice av k cv) k (ruCells ((rulesM C).take k))) := own_any HROW.out HG2.out
        have HBB : Hid (Below w.heap.size w X2) := HB1.out.grown HG2.out hs1 (fun k hk => by cases hk)
        go_wp2_with (first | (at_builtin; refine wpList_append_own _ rfl _ _ 168 rfl w.heap.size 231 i1 (.agg #[.int .i64 0, .int .i64 0, .int .i64 0]) 3 24 Try.underlying168 hj hy0 hy1 hy2 rfl (by decide) _ k _ rfl (HRW.out.alloc _) ⟨W1.heap.size + 2, 0, none⟩ 1 1 [.int .i64 (oc : Nat), .int .i64 (ob : Nat), .int .i64 (oa : Nat)] rfl rfl (new_cell3' hs3.symm _ _ _ _) (three_one _ _ _) (by unfold maxLen; omega) (by omega) (by simp; omega) ?_; intro v8 w8 hown8 hg8 _; refine Hid.out ?_))
        refine Lib.hid ?_
        have HFIN : Hid (w8.ownsRow w.heap.size 231 3 v8 (k + 1) (ruCells ((rulesM C).take (k + 1))) ∧ Below w.heap.size w w8) := (by
          refine ⟨?_, (HBB.out.alloc HBB.out.size _).grown hg8 (by simp; omega) (fun q hq => ((HRW.out.alloc (.cells #[.int .i64 (oc : Nat), .int .i64 (ob : Nat), .int .i64 (oa : Nat)] 231)).lt q hq).1)⟩
          rw [HRU.out, ruCells_app]
          exact hown8 : w8.ownsRow w.heap.size 231 3 v8 (k + 1) (ruCells ((rulesM C).take (k + 1))) ∧ Below w.heap.size w w8)
        clear hown8 hg8
        obtain ⟨a9, c9, rfl⟩ := own_capS HFIN.out.1
        go_wp2
        go_roundw
        case rel => exact ⟨k + 1, by omega, by go_num, HFIN.out⟩
        case measure => simp only [intOf]; omega
    · obtain rfl : k = C.length := by omega
      go_wp2
      go_ret
      have e : (rulesM C).take C.length = rulesM C := by rw [List.take_of_length_le (by rw [rulesM_eq, List.length_map]; exact Nat.le_refl _)]
      rw [e] at hp1
      exact ⟨_, rfl, hp1.out.1, hp1.out.2⟩
end Go.Proofs.Ytnhllpaoplfgpaa
/- The walks of slices.Index of bools, slices.Contains of numbers and colour.nextOver. -/
namespace Go.Proofs.Ytnhllpaoplfgpaa
open Go.RowKit

set_option maxHeartbeats 4000000 in
set_option maxRecDepth 100000 in
theorem indexBool_any (b off cap m : Nat) (P : Nat → Bool) (w : World) (hm : m ≤ 1000) (hbw : b < w.heap.size) (h : ∀ i, i < m → w.cell? ⟨b, off + i, none⟩ = some (.bool (P i))) (hex : ∃ i, i < m ∧ P i = false) :
    Calls Try.prog 203 #[.slice (some ⟨b, off, none⟩) m cap, .bool false] w fun e w' => ∃ i : Nat, e = .returned (.int .i64 (i : Nat)) ∧ i < m ∧ P i = false ∧ Below w.heap.size w w' := by
  have HC : Hid (∀ i, i < m → w.cell? ⟨b, off + i, none⟩ = some (.bool (P i))) := h
  have HX : Hid (∃ i, i < m ∧ P i = false) := hex
  have HB : Hid (Below w.heap.size w w) := Below.refl _ _
  clear h hex
  go_enter Try.func203, Try.ntmps203
  go_wp2
  go_loopw [8] (fun v8 wr => ∃ i : Nat, i ≤ m ∧ v8 = .int .i64 (i : Nat) ∧ Hid ((∀ k, k < i → P k = true) ∧ Below w.heap.size w wr)) (fun v8 _ => m - (intOf v8).toNat)
  case atStart => exact ⟨0, Nat.zero_le _, rfl, ⟨fun k hk => absurd hk (Nat.not_lt_zero _), HB.out⟩⟩
  case round =>
    clear HB
    rename World => W1
    obtain ⟨i, hin, rfl, hp⟩ := hrel
    by_cases hil : i < m
    · have c0 := bcell hp.out.2 hbw (HC.out i hil)
      cases hP : P i with
      | false =>
        rw [hP] at c0
        have HP : Hid (P i = false) := hP
        clear hP
        go_wp2
        go_ret
        exact ⟨i, rfl, hil, HP.out, hp.out.2⟩
      | true =>
        rw [hP] at c0
        have HP : Hid (P i = true) := hP
        clear hP
        go_wp2
        go_roundw
        case rel => exact ⟨i + 1, by omega, by go_num, ⟨fun k hk => by
          by_cases e : k = i
          · rw [e]; exact HP.out
          · exact hp.out.1 k (by omega), hp.out.2⟩⟩
        case measure => simp only [intOf]; omega
    · exfalso
      obtain ⟨k, hk, e⟩ := HX.out
      have := hp.out.1 k (by omega)
      rw [e] at this
      cases this

set_option maxHeartbeats 4000000 in
set_option maxRecDepth 100000 in
theorem indexInt_any (b off cap m : Nat) (f : Nat → Nat) (v : Nat) (w : World) (hm : m ≤ 1000) (hbw : b < w.heap.size) (h : ∀ i, i < m → w.cell? ⟨b, off + i, none⟩ = some (.int .i64 (f i : Nat))) :
    Calls Try.prog 204 #[.slice (some ⟨b, off, none⟩) m cap, .int .i64 (v : Nat)] w fun e w' => ∃ r : Int, e = .returned (.int .i64 r) ∧ (r = -1 ∧ (∀ i, i < m → f i ≠ v) ∨ 0 ≤ r ∧ ∃ i, i < m ∧ f i = v) ∧ Below w.heap.size w w' := by
  have HC : Hid (∀ i, i < m → w.cell? ⟨b, off + i, none⟩ = some (.int .i64 (f i : Nat))) := h
  have HB : Hid (Below w.heap.size w w) := Below.refl _ _
  clear h
  go_enter Try.func204, Try.ntmps204
  go_wp2
  go_loopw [8] (fun v8 wr => ∃ i : Nat, i ≤ m ∧ v8 = .int .i64 (i : Nat) ∧ Hid ((∀ k, k < i → f k ≠ v) ∧ Below w.heap.size w wr)) (fun v8 _ => m - (intOf v8).toNat)
  case atStart => exact ⟨0, Nat.zero_le _, rfl, ⟨fun k hk => absurd hk (Nat.not_lt_zero _), HB.out⟩⟩
  case round =>
    clear HB
    rename World => W1
    obtain ⟨i, hin, rfl, hp⟩ := hrel
    by_cases hil : i < m
    · have c0 := bcell hp.out.2 hbw (HC.out i hil)
      obtain ⟨x, hx⟩ : ∃ x, f i = x := ⟨_, rfl⟩
      have HX : Hid (f i = x) := hx
      rw [hx] at c0
      clear hx
      by_cases he : v = x
      · have heq : ((v : Int) == (x : Int)) = true := by simp [he]
        have HE : Hid (v = x) := he
        clear he
        go_wp2
        go_ret
        exact ⟨i, rfl, Or.inr ⟨by omega, i, hil, HX.out.trans HE.out.symm⟩, hp.out.2⟩
      · have heq : ((v : Int) == (x : Int)) = false := by simp; omega
        have HE : Hid (v ≠ x) := he
        clear he
        go_wp2
        go_roundw
        case rel => exact ⟨i + 1, by omega, by go_num, ⟨fun k hk => by
          by_cases e : k = i
          · rw [e, HX.out]; exact fun q => HE.out q.symm
          · exact hp.out.1 k (by omega), hp.out.2⟩⟩
        case measure => simp only [intOf]; omega
    · obtain rfl : i = m := by omega
      go_wp2
      go_ret
      exact ⟨-1, rfl, Or.inl ⟨rfl, hp.out.1⟩, hp.out.2⟩

set_option maxHeartbeats 4000000 in
set_option maxRecDepth 100000 in
theorem containsThree_any (b : Nat) (x y z v : Nat) (w : World) (hbw : b < w.heap.size) (h0 : w.cell? ⟨b, 0, none⟩ = some (.int .i64 (x : Nat))) (h1 : w.cell? ⟨b, 1, none⟩ = some (.int .i64 (y : Nat))) (h2 : w.cell? ⟨b, 2, none⟩ = some (.int .i64 (z : Nat))) :
    Calls Try.prog 179 #[.slice (some ⟨b, 0, none⟩) 3 3, .int .i64 (v : Nat)] w fun e w' => e = .returned (.bool (hasR v (x, y, z))) ∧ Below w.heap.size w w' := by
  have HI : Hid (Calls Try.prog 204 #[.slice (some ⟨b, 0, none⟩) 3 3, .int .i64 (v : Nat)] w fun e w' => ∃ r : Int, e = .returned (.int .i64 r) ∧ (r = -1 ∧ (∀ i, i < 3 → qcol x y z 0 i ≠ v) ∨ 0 ≤ r ∧ ∃ i, i < 3 ∧ qcol x y z 0 i = v) ∧ Below w.heap.size w w') := indexInt_any b 0 3 3 (qcol x y z 0) v w (by omega) hbw (fun i hi => by
    match i, hi with
    | 0, _ => exact h0
    | 1, _ => exact h1
    | 2, _ => exact h2)
  clear h0 h1 h2
  go_enter Try.func179, Try.ntmps179
  go_wp2_with (go_at_call 204; refine HI.out.mono ?_; rintro e9 w2 ⟨r, rfl, hr, hb2⟩; refine Hid.out ?_)
  refine Lib.hid ?_
  have HR : Hid (decide (0 ≤ r) = hasR v (x, y, z)) := (by
    rcases hr with ⟨rfl, h⟩ | ⟨h, i, hi, e⟩
    · have n0 := h 0 (by omega)
      have n1 := h 1 (by omega)
      have n2 := h 2 (by omega)
      simp only [qcol] at n0 n1 n2
      simp [hasR, n0, n1, n2]
    · rw [decide_eq_true h]
      match i, hi with
      | 0, _ => simp only [qcol] at e; simp [hasR, e]
      | 1, _ => simp only [qcol] at e; simp [hasR, e]
      | 2, _ => simp only [qcol] at e; simp [hasR, e] : decide (0 ≤ r) = hasR v (x, y, z))
  have HB2 : Hid (Below w.heap.size w w2) := hb2
  clear hr hb2
  go_wp2
  go_ret
  exact ⟨ret_bool HR.out.symm, HB2.out⟩

/-- Numbers of crossings above, behind i rules. -/
def AbAt (w : World) (m i : Nat) (wr : World) : Prop := ∃ l : List Int, l.length = m ∧ (∀ x, x ∈ l → 0 ≤ x ∧ x ≤ (i : Int)) ∧ wr.ownsRow w.heap.size 3 1 (.slice (some ⟨w.heap.size, 0, none⟩) m m) m (intsV l) ∧ Below w.heap.size w wr

set_option maxHeartbeats 4000000 in
set_option maxRecDepth 100000 in
theorem nextOver_any (ar : Option Addr) (cr : Nat) (R : List (Nat × Nat × Nat)) (bp cp m : Nat) (P : Nat → Bool) (w : World) (hm1 : 1 ≤ m) (hm : m ≤ 40) (hbw : bp < w.heap.size) (hR : R.length ≤ 16) (hRd : RdAt w w.heap.size 3 (.slice ar R.length cr) R.length (ruCells R)) (hIn : ∀ r, r ∈ R → r.1 < m ∧ r.2.1 < m ∧ r.2.2 < m)
    (h : ∀ i, i < m → w.cell? ⟨bp, i, none⟩ = some (.bool (P i))) (hex : ∃ i, i < m ∧ P i = false) :
    Calls Try.prog 178 #[.slice ar R.length cr, .slice (some ⟨bp, 0, none⟩) m cp] w fun e w' => ∃ i : Nat, e = .returned (.int .i64 (i : Nat)) ∧ i < m ∧ P i = false ∧ Below w.heap.size w w' := by
  obtain ⟨i2, hk, hx0, hx1, hx2⟩ := info_parts infoInt
  have HRD : Hid (RdAt w w.heap.size 3 (.slice ar R.length cr) R.length (ruCells R)) := hRd
  have HIN : Hid (∀ r, r ∈ R → r.1 < m ∧ r.2.1 < m ∧ r.2.2 < m) := hIn
  have HC : Hid (∀ i, i < m → w.cell? ⟨bp, i, none⟩ = some (.bool (P i))) := h
  have HX : Hid (∃ i, i < m ∧ P i = false) := hex
  clear h hex hIn hRd
  go_enter Try.func178, Try.ntmps178
  go_wp2_with (first | (at_make; refine wpList_make_full _ rfl _ _ 61 rfl w.heap.size 3 i2 (.int .i64 0) 1 Try.underlying61 hk hx0 hx1 .i64 .i64 _ _ m rfl rfl rfl rfl (by rw [hx2]; omega) (by unfold maxLen; omega) (by omega) ?_; intro w2 hrow hg2; refine Hid.out ?_))
  refine Lib.hid ?_
  rw [made_zero] at hrow
  have HP0 : Hid (AbAt w m 0 w2) := ⟨List.replicate m 0, by simp, fun x hx => by have := List.eq_of_mem_replicate hx; omega, hrow, (Below.refl _ _).grown hg2 (Nat.le_refl _) (fun q hq => by cases hq)⟩
  clear hrow hg2
  go_wp2
  go_loopw [15] (fun v15 wr => ∃ i : Nat, i ≤ R.length ∧ v15 = .int .i64 (i : Nat) ∧ Hid (AbAt w m i wr)) (fun v15 _ => R.length - (intOf v15).toNat)
  case atStart => exact ⟨0, Nat.zero_le _, rfl, HP0.out⟩
  case round =>
    clear HP0
    rename World => W1
    obtain ⟨i, hin, rfl, hp⟩ := hrel
    by_cases hil : i < R.length
    · obtain ⟨l, hl, hlx, hrow, hbel⟩ := hp.out
      have HROW : Hid (W1.ownsRow w.heap.size 3 1 (.slice (some ⟨w.heap.size, 0, none⟩) m m) m (intsV l)) := hrow
      have HBEL : Hid (Below w.heap.size w W1) := hbel
      have HLX : Hid (∀ x, x ∈ l → 0 ≤ x ∧ x ≤ (i : Int)) := hlx
      have HL : Hid (l.length = m) := hl
      have hs1 := hbel.size
      have hsw := (hrow.lt w.heap.size rfl).2
      obtain ⟨br, fr, ea, hbr, f0, f1, f2⟩ : ∃ br fr, ar = some ⟨br, fr, none⟩ ∧ br < w.heap.size ∧ w.cell? ⟨br, fr + i * 3, none⟩ = some (.int .i64 ((R.getD i (0, 0, 0)).1 : Nat)) ∧ w.cell? ⟨br, fr + i * 3 + 1, none⟩ = some (.int .i64 ((R.getD i (0, 0, 0)).2.1 : Nat)) ∧ w.cell? ⟨br, fr + i * 3 + 2, none⟩ = some (.int .i64 ((R.getD i (0, 0, 0)).2.2 : Nat)) := by
        obtain ⟨a', c', e', f⟩ := HRD.out
        injection e' with e1 e2 e3
        obtain ⟨br, fr, er, hbr, hc⟩ := f (by omega)
        obtain ⟨g0, g1, g2⟩ := ruCells_get R i hil
        exact ⟨br, fr, e1.trans er, hbr, (hc _ (by omega)).trans g0, by rw [Nat.add_assoc]; exact (hc _ (by omega)).trans g1, by rw [Nat.add_assoc]; exact (hc _ (by omega)).trans g2⟩
      have HEA : Hid (ar = some ⟨br, fr, none⟩) := ea
      obtain ⟨hx, hy, hz⟩ := HIN.out _ (getD_memL R i (0, 0, 0) hil)
      obtain ⟨x, ex⟩ : ∃ x, (R.getD i (0, 0, 0)).1 = x := ⟨_, rfl⟩
      obtain ⟨y, ey⟩ : ∃ y, (R.getD i (0, 0, 0)).2.1 = y := ⟨_, rfl⟩
      obtain ⟨z, ez⟩ : ∃ z, (R.getD i (0, 0, 0)).2.2 = z := ⟨_, rfl⟩
      rw [ex] at f0 hx
      rw [ey] at f1 hy
      rw [ez] at f2 hz
      have d0 := bcell hbel hbr f0
      have d1 := bcell hbel hbr f1
      have d2 := bcell hbel hbr f2
      have hbrW : br < W1.heap.size := by omega
      clear ex ey ez f0 f1 f2 hp hlx hl
      obtain ⟨X0, hX0⟩ : ∃ X, X = W1.alloc (.cells #[.int .i64 (x : Nat), .int .i64 (y : Nat), .int .i64 (z : Nat)] 231) := ⟨_, rfl⟩
      have HX0 : Hid (X0 = W1.alloc (.cells #[.int .i64 (x : Nat), .int .i64 (y : Nat), .int .i64 (z : Nat)] 231)) := hX0
      have hbk : X0.heap[W1.heap.size]? = some (.cells #[.int .i64 (x : Nat), .int .i64 (y : Nat), .int .i64 (z : Nat)] 231 (0, 0)) := by rw [hX0]; exact alloc_at rfl
      have HBX : Hid (Below w.heap.size w X0) := (by rw [hX0]; exact hbel.alloc hs1 _ : Below w.heap.size w X0)
      have HRX : Hid (X0.ownsRow w.heap.size 3 1 (.slice (some ⟨w.heap.size, 0, none⟩) m m) m (intsV l)) := (by rw [hX0]; exact hrow.alloc _ : X0.ownsRow w.heap.size 3 1 (.slice (some ⟨w.heap.size, 0, none⟩) m m) m (intsV l))
      have k0 : X0.cell? ⟨W1.heap.size, 0, none⟩ = some (.int .i64 (x : Nat)) := block_cell hbk rfl
      have k1 : X0.cell? ⟨W1.heap.size, 1, none⟩ = some (.int .i64 (y : Nat)) := block_cell hbk rfl
      have k2 : X0.cell? ⟨W1.heap.size, 2, none⟩ = some (.int .i64 (z : Nat)) := block_cell hbk rfl
      have p0 := bcell HBX.out hbw (HC.out x hx)
      have p1 := bcell HBX.out hbw (HC.out y hy)
      have p2 := bcell HBX.out hbw (HC.out z hz)
      clear hX0 hbk hrow hbel
      go_upto_region 5 with (fail)
      rw [← HX0.out]
      have hWX : W1.heap.size < X0.heap.size := by rw [HX0.out]; simp
      clear d0 d1 d2 ea HEA HX0 HROW
      cases hPy : P y with
      | true =>
        rw [hPy] at p1
        clear hPy
        cases hPx : P x with
        | true =>
          rw [hPx] at p0
          clear hPx
          cases hPz : P z with
          | true =>
            rw [hPz] at p2
            clear hPz
            go_wp2
            go_quiet (fail)
            go_upto_region 9 with (fail)
            obtain ⟨X2, hX2⟩ : ∃ X, X = X0.drewN nq := ⟨_, rfl⟩
            rw [← hX2]
            have hb0 : Below X0.heap.size X0 X2 := by rw [hX2]; exact below_drewN (Below.refl _ _) _
            have HB2 : Hid (Below w.heap.size w X2) := HBX.out.trans (hb0.mono HBX.out.size)
            have hr2 : X2.ownsRow w.heap.size 3 1 (.slice (some ⟨w.heap.size, 0, none⟩) m m) m (intsV l) := own_any HRX.out (grown_below hb0 none)
            have q1 : X2.cell? ⟨W1.heap.size, 1, none⟩ = some (.int .i64 (y : Nat)) := bcell hb0 hWX k1
            obtain ⟨u, hu⟩ : ∃ u, l.getD y 0 = u := ⟨_, rfl⟩
            have hub : 0 ≤ u ∧ u ≤ (i : Int) := by rw [← hu]; exact HLX.out _ (getD_memL l y 0 (by rw [HL.out]; exact hy))
            have q2 : X2.cell? ⟨w.heap.size, y, none⟩ = some (.int .i64 u) := by rw [hr2.cellAt y (by omega), intsV_get l y (by rw [HL.out]; exact hy), hu]
            have q3 : X2.frozen? ⟨w.heap.size, y, none⟩ = false := hr2.frozenAt y
            have hst := hr2.stored y (.int .i64 (u + 1))
            rw [intsV_set] at hst
            have HFIN : Hid (AbAt w m (i + 1) (X2.setCell ⟨w.heap.size, y, none⟩ (.int .i64 (u + 1)))) := ⟨l.set y (u + 1), by rw [List.length_set, HL.out], fun x hx => by
              rcases List.mem_or_eq_of_mem_set hx with h | h
              · have := HLX.out x h; omega
              · omega, hst.1, HB2.out.grown hst.2 HB2.out.size (fun q hq => by have := Option.some.inj hq; omega)⟩
            have ew : IntKind.i64.wrap (u + 1) = u + 1 := IntWalk.i64_in _ (by omega)
            have hsX2 : w.heap.size < X2.heap.size := (hr2.lt w.heap.size rfl).2
            clear hX2 hb0 hst hu k0 k1 k2 p0 p1 p2
            go_wp2
            go_roundw
            case rel => exact ⟨i + 1, by omega, by go_num, HFIN.out⟩
            case measure => simp only [intOf]; omega
          | false =>
            have HPZ : Hid (P z = false) := hPz
            rw [hPz] at p2
            clear hPz
            go_wp2
            go_quiet (fail)
            go_wp2
            go_ret
            exact ⟨z, rfl, hz, HPZ.out, below_drewN HBX.out _⟩
        | false =>
          have HPX : Hid (P x = false) := hPx
          rw [hPx] at p0
          clear hPx
          cases hPz : P z with
          | true =>
            rw [hPz] at p2
            clear hPz
            go_wp2
            go_quiet (fail)
            go_wp2
            go_ret
            exact ⟨x, rfl, hx, HPX.out, below_drewN HBX.out _⟩
          | false =>
            rw [hPz] at p2
            clear hPz
            go_wp2
            go_quiet (fail)
            go_upto_region 9 with (fail)
            obtain ⟨X2, hX2⟩ : ∃ X, X = X0.drewN nq := ⟨_, rfl⟩
            rw [← hX2]
            have hb0 : Below X0.heap.size X0 X2 := by rw [hX2]; exact below_drewN (Below.refl _ _) _
            have HB2 : Hid (Below w.heap.size w X2) := HBX.out.trans (hb0.mono HBX.out.size)
            have hr2 : X2.ownsRow w.heap.size 3 1 (.slice (some ⟨w.heap.size, 0, none⟩) m m) m (intsV l) := own_any HRX.out (grown_below hb0 none)
            have q1 : X2.cell? ⟨W1.heap.size, 1, none⟩ = some (.int .i64 (y : Nat)) := bcell hb0 hWX k1
            obtain ⟨u, hu⟩ : ∃ u, l.getD y 0 = u := ⟨_, rfl⟩
            have hub : 0 ≤ u ∧ u ≤ (i : Int) := by rw [← hu]; exact HLX.out _ (getD_memL l y 0 (by rw [HL.out]; exact hy))
            have q2 : X2.cell? ⟨w.heap.size, y, none⟩ = some (.int .i64 u) := by rw [hr2.cellAt y (by omega), intsV_get l y (by rw [HL.out]; exact hy), hu]
            have q3 : X2.frozen? ⟨w.heap.size, y, none⟩ = false := hr2.frozenAt y
            have hst := hr2.stored y (.int .i64 (u + 1))
            rw [intsV_set] at hst
            have HFIN : Hid (AbAt w m (i + 1) (X2.setCell ⟨w.heap.size, y, none⟩ (.int .i64 (u + 1)))) := ⟨l.set y (u + 1), by rw [List.length_set, HL.out], fun x hx => by
              rcases List.mem_or_eq_of_mem_set hx with h | h
              · have := HLX.out x h; omega
              · omega, hst.1, HB2.out.grown hst.2 HB2.out.size (fun q hq => by have := Option.some.inj hq; omega)⟩
            have ew : IntKind.i64.wrap (u + 1) = u + 1 := IntWalk.i64_in _ (by omega)
            have hsX2 : w.heap.size < X2.heap.size := (hr2.lt w.heap.size rfl).2
            clear hX2 hb0 hst hu k0 k1 k2 p0 p1 p2
            go_wp2
            go_roundw
            case rel => exact ⟨i + 1, by omega, by go_num, HFIN.out⟩
            case measure => simp only [intOf]; omega
      | false =>
        rw [hPy] at p1
        clear hPy
        go_wp2
        go_quiet (fail)
        go_upto_region 9 with (fail)
        obtain ⟨X2, hX2⟩ : ∃ X, X = X0.drewN nq := ⟨_, rfl⟩
        rw [← hX2]
        have hb0 : Below X0.heap.size X0 X2 := by rw [hX2]; exact below_drewN (Below.refl _ _) _
        have HB2 : Hid (Below w.heap.size w X2) := HBX.out.trans (hb0.mono HBX.out.size)
        have hr2 : X2.ownsRow w.heap.size 3 1 (.slice (some ⟨w.heap.size, 0, none⟩) m m) m (intsV l) := own_any HRX.out (grown_below hb0 none)
        have q1 : X2.cell? ⟨W1.heap.size, 1, none⟩ = some (.int .i64 (y : Nat)) := bcell hb0 hWX k1
        obtain ⟨u, hu⟩ : ∃ u, l.getD y 0 = u := ⟨_, rfl⟩
        have hub : 0 ≤ u ∧ u ≤ (i : Int) := by rw [← hu]; exact HLX.out _ (getD_memL l y 0 (by rw [HL.out]; exact hy))
        have q2 : X2.cell? ⟨w.heap.size, y, none⟩ = some (.int .i64 u) := by rw [hr2.cellAt y (by omega), intsV_get l y (by rw [HL.out]; exact hy), hu]
        have q3 : X2.frozen? ⟨w.heap.size, y, none⟩ = false := hr2.frozenAt y
        have hst := hr2.stored y (.int .i64 (u + 1))
        rw [intsV_set] at hst
        have HFIN : Hid (AbAt w m (i + 1) (X2.setCell ⟨w.heap.size, y, none⟩ (.int .i64 (u + 1)))) := ⟨l.set y (u + 1), by rw [List.length_set, HL.out], fun x hx => by
          rcases List.mem_or_eq_of_mem_set hx with h | h
          · have := HLX.out x h; omega
          · omega, hst.1, HB2.out.grown hst.2 HB2.out.size (fun q hq => by have := Option.some.inj hq; omega)⟩
        have ew : IntKind.i64.wrap (u + 1) = u + 1 := IntWalk.i64_in _ (by omega)
        have hsX2 : w.heap.size < X2.heap.size := (hr2.lt w.heap.size rfl).2
        clear hX2 hb0 hst hu k0 k1 k2 p0 p1 p2
        go_wp2
        go_roundw
        case rel => exact ⟨i + 1, by omega, by go_num, HFIN.out⟩
        case measure => simp only [intOf]; omega
    · obtain rfl : i = R.length := by omega
      have HB1 : Hid (Below w.heap.size w W1) := (by obtain ⟨l, hl, hlx, hrow, hbel⟩ := hp.out; exact hbel : Below w.heap.size w W1)
      have HCI := indexBool_any bp 0 cp m P W1 (by omega) (by have := HB1.out.size; omega) (fun i hi => by rw [Nat.zero_add]; exact bcell HB1.out hbw (HC.out i hi)) HX.out
      go_wp2_with (go_at_call 203; refine HCI.mono ?_; rintro e9 w3 ⟨bst, rfl, hbl, hbP, hb3⟩; refine Hid.out ?_)
      refine Lib.hid ?_
      have HB3 : Hid (Below w.heap.size w w3) := HB1.out.trans (hb3.mono HB1.out.size)
      have HA3 : Hid (AbAt w m R.length w3) := (by
        obtain ⟨l, hl, hlx, hrow, hbel⟩ := hp.out
        exact ⟨l, hl, hlx, own_any hrow (grown_below hb3 none), HB3.out⟩ : AbAt w m R.length w3)
      have HBP : Hid (P bst = false) := hbP
      clear hb3 hbP HCI hp
      go_wp2
      go_loopw [8, 58] (fun v8 v58 wr => ∃ (o bst : Nat), o ≤ m ∧ v58 = .int .i64 (o : Nat) ∧ v8 = .int .i64 (bst : Nat) ∧ bst < m ∧ Hid (P bst = false ∧ AbAt w m R.length wr)) (fun _ v58 _ => m - (intOf v58).toNat)
      case atStart => exact ⟨0, bst, Nat.zero_le _, rfl, rfl, hbl, ⟨HBP.out, HA3.out⟩⟩
      case round =>
        clear HBP HA3 HB3 hbl
        rename World => W4
        obtain ⟨o, bst, hom, rfl, rfl, hbl, hp4⟩ := hrel
        by_cases hol : o < m
        · obtain ⟨l, hl, hlx, hrow, hbel⟩ := hp4.out.2
          have HAB : Hid (AbAt w m R.length W4) := hp4.out.2
          have HPB : Hid (P bst = false) := hp4.out.1
          have HBE : Hid (Below w.heap.size w W4) := hbel
          have c0 := bcell hbel hbw (HC.out o hol)
          obtain ⟨u1, hu1⟩ : ∃ u, l.getD o 0 = u := ⟨_, rfl⟩
          obtain ⟨u2, hu2⟩ : ∃ u, l.getD bst 0 = u := ⟨_, rfl⟩
          have c1 : W4.cell? ⟨w.heap.size, o, none⟩ = some (.int .i64 u1) := by rw [hrow.cellAt o (by omega), intsV_get l o (by rw [hl]; exact hol), hu1]
          have c2 : W4.cell? ⟨w.heap.size, bst, none⟩ = some (.int .i64 u2) := by rw [hrow.cellAt bst (by omega), intsV_get l bst (by rw [hl]; exact hbl), hu2]
          have HAD : Hid (∀ k, AbAt w m R.length (W4.drewN k)) := fun k => ⟨l, hl, hlx, own_any hrow (grown_below (below_drewN (Below.refl _ _) _) none), below_drewN hbel _⟩
          clear hl hlx hrow hbel hu1 hu2 hp4
          cases hPo : P o with
          | true =>
            rw [hPo] at c0
            clear hPo
            go_wp2
            go_quiet (fail)
            go_wp2
            go_roundw
            case rel => exact ⟨o + 1, bst, by omega, by go_num, rfl, hbl, ⟨HPB.out, HAD.out _⟩⟩
            case measure => simp only [intOf]; omega
          | false =>
            have HPO : Hid (P o = false) := hPo
            rw [hPo] at c0
            clear hPo
            by_cases hlt : u2 < u1
            · have hd : decide (u2 < u1) = true := by simp; omega
              go_wp2
              go_quiet (fail)
              go_wp2
              go_roundw
              case rel => exact ⟨o + 1, o, by omega, by go_num, rfl, hol, ⟨HPO.out, HAD.out _⟩⟩
              case measure => simp only [intOf]; omega
            · have hd : decide (u2 < u1) = false := by simp; omega
              go_wp2
              go_quiet (fail)
              go_wp2
              go_roundw
              case rel => exact ⟨o + 1, bst, by omega, by go_num, rfl, hbl, ⟨HPB.out, HAD.out _⟩⟩
              case measure => simp only [intOf]; omega
        · obtain rfl : o = m := by omega
          go_wp2
          go_ret
          obtain ⟨l, hl, hlx, hrow, hbel⟩ := hp4.out.2
          exact ⟨bst, rfl, hbl, hp4.out.1, hbel⟩
end Go.Proofs.Ytnhllpaoplfgpaa

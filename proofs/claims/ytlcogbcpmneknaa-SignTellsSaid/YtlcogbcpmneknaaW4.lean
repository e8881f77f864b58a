/- The walk of ref.StrandsOf. -/
import Derived.Test.YtlcogbcpmneknaaW3P
import Derived.Test.YtlcogbcpmneknaaH7
namespace Go.Proofs.Ytlcogbcpmneknaa
open Go.RowKit

set_option maxHeartbeats 8000000 in
set_option maxRecDepth 100000 in
theorem strandsOf_any {lm : Int} (a : Option Addr) (cap : Nat) (C : List Cr) (loops : Int) (w : World) (hm : mayD C lm = true) (hD : Crs w w.heap.size (.slice a C.length cap) C) :
    Calls Try.prog 10 #[.agg #[.slice a C.length cap, .int .i64 loops]] w fun e w' => ∃ v, e = .returned v ∧ NatsOwn w' w.heap.size v (walksM C) ∧ Below w.heap.size w w' := by
  obtain ⟨s1, -, -, -⟩ := sizeB_iff (may_size hm)
  obtain ⟨i0, hi, hz0, hz1, hz2⟩ := info_parts infoInt
  obtain ⟨i1, hj, hy0, hy1, hy2⟩ := info_parts infoInts
  obtain ⟨i2, hk, hx0, hx1, hx2⟩ := info_parts infoBool
  have HM : Hid (mayD C lm = true) := hm
  have HD : Hid (Crs w w.heap.size (.slice a C.length cap) C) := hD
  have HNX : Hid (∀ x, 1 ≤ x → x ≤ 2 * C.length → 1 ≤ nx C x ∧ nx C x ≤ 2 * C.length) := nx_closed hm
  have HWM : Hid (walksM C = (walksTo (nx C) (2 * C.length) (2 * C.length)).1) := (rfl : walksM C = (walksTo (nx C) (2 * C.length) (2 * C.length)).1)
  clear hm hD
  obtain ⟨w0, hw0⟩ : ∃ w0, w0 = w.alloc (.cells #[.slice a C.length cap, .int .i64 loops] 24) := ⟨_, rfl⟩
  have HW0 : Hid (w0 = w.alloc (.cells #[.slice a C.length cap, .int .i64 loops] 24)) := hw0
  have hs0 : w0.heap.size = w.heap.size + 1 := by rw [hw0]; simp
  have HB0 : Hid (Below w.heap.size w w0) := (by rw [hw0]; exact (Below.refl _ _).alloc (Nat.le_refl _) _ : Below w.heap.size w w0)
  have HT0 : Hid (w0.heap[w.heap.size]? = some (.cells #[.slice a C.length cap, .int .i64 loops] 24 (0, 0))) := (by rw [hw0]; exact alloc_at rfl : w0.heap[w.heap.size]? = some (.cells #[.slice a C.length cap, .int .i64 loops] 24 (0, 0)))
  clear hw0
  go_enter Try.func10, Try.ntmps10
  go_wp2_with (first | (at_make; refine wpList_make_full _ rfl _ _ 59 rfl (w.heap.size + 1) 4 i2 (.bool false) 1 Try.underlying59 hk hx0 hx1 .i64 .i64 _ _ (2 * C.length + 1) rfl rfl rfl rfl (by rw [hx2]; omega) (by unfold maxLen; omega) (by simp) ?_; intro w1 hrow hg1; refine Hid.out ?_))
  refine Lib.hid ?_
  rw [← HW0.out] at hrow hg1
  rw [made_false, hs0] at hrow
  have HK0 : Hid (WkAt w (w.heap.size + 1) (2 * C.length + 1) #[.slice a C.length cap, .int .i64 loops] 24 (2 * C.length) (walksTo (nx C) (2 * C.length) 0) (.slice none 0 0) [] w1) :=
    ⟨(hg1.block _ (by omega) (by simp)).trans HT0.out, hrow, rfl, World.ownsRow_nil _ _ _ _, fun j hj => absurd hj (Nat.not_lt_zero _), HB0.out.grown hg1 (by omega) (fun k hk => by cases hk)⟩
  clear hrow hg1 HT0 HB0 hs0 HW0
  go_wp2
  go_loopw [5, 6] (fun v3 v5 wr => ∃ (i j : Nat) (zs : List Value), i ≤ 2 * C.length ∧ Hid (j = i + 1) ∧ v5 = .int .i64 (j : Nat) ∧ WkAt w (w.heap.size + 1) (2 * C.length + 1) #[.slice a C.length cap, .int .i64 loops] 24 (2 * C.length) (walksTo (nx C) (2 * C.length) i) v3 zs wr) (fun _ v5 _ => 2 * C.length + 1 - (intOf v5).toNat)
  case atStart => exact ⟨0, 1, [], Nat.zero_le _, (rfl : 1 = 0 + 1), rfl, HK0.out⟩
  case round =>
    clear HK0
    rename World => W1
    obtain ⟨i, j0, zs, hin, hji, rfl, hk⟩ := hrel
    have HK : Hid (WkAt w (w.heap.size + 1) (2 * C.length + 1) #[.slice a C.length cap, .int .i64 loops] 24 (2 * C.length) (walksTo (nx C) (2 * C.length) i) _ zs W1) := hk
    have hgS := hk.seen.lt (w.heap.size + 1) rfl
    have HSL : Hid ((walksTo (nx C) (2 * C.length) i).2.length = 2 * C.length + 1) := walksTo_len _ _ _
    have HCT : Hid ((walksTo (nx C) (2 * C.length) i).1.length ≤ i) := walksTo_count _ _ _
    by_cases hil : i < 2 * C.length
    · have hsd := hk.seen
      have hbl := hk.bel
      have hj1 : 1 ≤ j0 := by have := hji.out; omega
      have hj2 : j0 ≤ 2 * C.length := by have := hji.out; omega
      have hdj : decide ((j0 : Int) ≤ 2 * (C.length : Int)) = true := by simp; omega
      have hdj2 : decide (j0 ≤ 2 * C.length) = true := by simp; omega
      clear hk
      go_wp2
      go_loopw [7, 8] (fun v6 v7 ws => ∃ (f : Nat) (seen : List Bool) (x : Nat) (acc : List Nat), v7 = .int .i64 (x : Nat) ∧ 1 ≤ x ∧ x ≤ 2 * C.length ∧ Hid (walkF (nx C) (2 * C.length + 1) (walksTo (nx C) (2 * C.length) i).2 j0 [] = walkF (nx C) f seen x acc) ∧ Hid (unseen seen ≤ f) ∧ seen.length = 2 * C.length + 1 ∧ Hid (acc.length + unseen seen ≤ 2 * C.length + 1) ∧
          ws.ownsRow W1.heap.size 3 1 v6 acc.length (nats acc) ∧ ws.ownsRow (w.heap.size + 1) 4 1 (.slice (some ⟨w.heap.size + 1, 0, none⟩) (2 * C.length + 1) (2 * C.length + 1)) (2 * C.length + 1) (bools seen) ∧ W1.grownBy ws (some (w.heap.size + 1)) ∧ Below w.heap.size w ws) (fun v6 _ _ => 2 * C.length + 2 - lenOf v6)
      case atStart => exact ⟨2 * C.length + 1, (walksTo (nx C) (2 * C.length) i).2, j0, [], rfl, by omega, by omega, (rfl : walkF (nx C) (2 * C.length + 1) (walksTo (nx C) (2 * C.length) i).2 j0 [] = _), (by have := unseen_le (walksTo (nx C) (2 * C.length) i).2; rw [HSL.out] at this; exact this : unseen (walksTo (nx C) (2 * C.length) i).2 ≤ 2 * C.length + 1), HSL.out, (by have := unseen_le (walksTo (nx C) (2 * C.length) i).2; rw [HSL.out] at this; simpa using this : ([] : List Nat).length + unseen (walksTo (nx C) (2 * C.length) i).2 ≤ 2 * C.length + 1), World.ownsRow_nil _ _ _ _, hsd, World.grownBy.refl _ _, hbl⟩
      case round =>
        clear hsd hbl
        rename World => W3
        obtain ⟨f, seen, x, acc, rfl, hx1, hx2, hwk, hun, hsl, hac, hown, hsd, hgr, hbl⟩ := hrel
        obtain ⟨a6, c6, rfl⟩ := own_capS hown
        have e0 : W3.cell? ⟨w.heap.size + 1, x, none⟩ = some (.bool (seen.getD x true)) := by
          rw [hsd.cellAt x (by omega)]; exact bools_get seen x (by omega)
        have z0 : W3.frozen? ⟨w.heap.size + 1, x, none⟩ = false := hsd.frozenAt x
        have hszW := hgr.size
        cases hbit : seen.getD x true with
        | false =>
          rw [hbit] at e0
          have hst := hsd.stored x (.bool true)
          rw [bools_set] at hst
          have HSD : Hid ((W3.setCell ⟨w.heap.size + 1, x, none⟩ (.bool true)).ownsRow (w.heap.size + 1) 4 1 (.slice (some ⟨w.heap.size + 1, 0, none⟩) (2 * C.length + 1) (2 * C.length + 1)) (2 * C.length + 1) (bools (seen.set x true))) := hst.1
          have HGS : Hid (W3.grownBy (W3.setCell ⟨w.heap.size + 1, x, none⟩ (.bool true)) (some (w.heap.size + 1))) := hst.2
          have HOW : Hid ((W3.setCell ⟨w.heap.size + 1, x, none⟩ (.bool true)).ownsRow W1.heap.size 3 1 (.slice a6 acc.length c6) acc.length (nats acc)) := hown.kept hst.2 (own_ne hown hsd (by decide))
          have HWK : Hid (walkF (nx C) f seen x acc = walkF (nx C) (f - 1) (seen.set x true) (nx C x) (acc ++ [x]) ∧ unseen (seen.set x true) ≤ f - 1) := walkF_more hbit hun.out
          have HUS : Hid (unseen (seen.set x true) + 1 = unseen seen) := unseen_set hbit
          have hacl : acc.length < 2 * C.length + 1 := by have := hac.out; have := HUS.out; omega
          have hs3 : (W3.setCell ⟨w.heap.size + 1, x, none⟩ (.bool true)).heap.size = W3.heap.size := by simp
          have hlt3 : w.heap.size + 1 < W3.heap.size := by omega
          have HB3 : Hid (Below w.heap.size w (W3.setCell ⟨w.heap.size + 1, x, none⟩ (.bool true))) := hbl.grown hst.2 hbl.size (fun q hq => by have := Option.some.inj hq; omega)
          have HG3 : Hid (W1.grownBy (W3.setCell ⟨w.heap.size + 1, x, none⟩ (.bool true)) (some (w.heap.size + 1))) := grown_trans hgr hst.2
          have HX : Hid (1 ≤ nx C x ∧ nx C x ≤ 2 * C.length) := HNX.out x hx1 hx2
          clear hst hsd hown hgr hbl
          go_wp2_with (first
            | (at_builtin; refine wpList_append_own _ rfl _ _ 41 rfl W1.heap.size 3 i0 (.int .i64 0) 1 8 Try.underlying41 hi hz0 hz1 hz2 rfl (by decide) _ _ _ rfl (HOW.out.alloc _) ⟨W3.heap.size, 0, none⟩ 1 1 [.int .i64 (x : Nat)] rfl rfl (by rw [← hs3]; exact new_cell1 _ _ _) (int_one _) (by unfold maxLen; omega) (by omega) (by simp; omega) ?_; intro v8 w8 hown8 hg8 _; refine Hid.out ?_))
          refine Lib.hid ?_
          have HG8 : Hid (((W3.setCell ⟨w.heap.size + 1, x, none⟩ (.bool true)).alloc (.cells #[.int .i64 (x : Nat)] 3)).grownBy w8 (Value.slice a6 acc.length c6).ownBlock) := hg8
          have HO8 : Hid (w8.ownsRow W1.heap.size 3 1 v8 (acc ++ [x]).length (nats (acc ++ [x]))) := (by rw [List.length_append, nats_app]; exact hown8 : w8.ownsRow W1.heap.size 3 1 v8 (acc ++ [x]).length (nats (acc ++ [x])))
          have hA := HOW.out.alloc (.cells #[.int .i64 (x : Nat)] 3)
          have hS := HSD.out.alloc (.cells #[.int .i64 (x : Nat)] 3)
          have HS8 : Hid (w8.ownsRow (w.heap.size + 1) 4 1 (.slice (some ⟨w.heap.size + 1, 0, none⟩) (2 * C.length + 1) (2 * C.length + 1)) (2 * C.length + 1) (bools (seen.set x true))) := hS.kept HG8.out (own_ne hS hA (by decide))
          have HG18 : Hid (W1.grownBy w8 (some (w.heap.size + 1))) := grown_new (grown_trans HG3.out (grown_none (World.grownBy_alloc _ _ none))) HG8.out (fun q hq => (hA.lt q hq).1)
          have HB8 : Hid (Below w.heap.size w w8) := (HB3.out.alloc (by rw [hs3]; omega) _).grown HG8.out (by simp; omega) (fun q hq => by have := (hA.lt q hq).1; omega)
          have HX8 : Hid (w8.heap[w.heap.size]? = some (.cells #[.slice a C.length cap, .int .i64 loops] 24 (0, 0))) := (HG18.out.block _ (by omega) (fun e => by have := Option.some.inj e; omega)).trans HK.out.box
          obtain ⟨b, off, ea, hbw, hC⟩ := crs_some HD.out (by omega)
          have HC8 : Hid (CrossAt w8 b off C) := hC.on HB8.out hbw
          have hb8 : b < w8.heap.size := by have := HB8.out.size; omega
          have HTO : Hid (endTo C x true C.length = ((toC C x : Int), (toS C x : Int))) := (to_may HM.out x hx1 hx2).1
          have HTL : Hid (toC C x < C.length ∧ toS C x < 4) := ⟨(to_may HM.out x hx1 hx2).2.1, (to_may HM.out x hx1 hx2).2.2.1⟩
          have HNA : Hid ((C.getD (toC C x) Cr.none).arc ((toS C x + 2) % 4) = (nx C x : Int)) := (nx_may HM.out x hx1 hx2).1
          have HX8' : Hid (w8.heap[w.heap.size]? = some (.cells #[.slice (some ⟨b, off, none⟩) C.length cap, .int .i64 loops] 24 (0, 0))) := (by rw [← ea]; exact HX8.out : w8.heap[w.heap.size]? = some (.cells #[.slice (some ⟨b, off, none⟩) C.length cap, .int .i64 loops] 24 (0, 0)))
          have p0 : w8.cell? ⟨w.heap.size, 0, none⟩ = some (.slice (some ⟨b, off, none⟩) C.length cap) := block_cell HX8'.out rfl
          have p1 : w8.cell? ⟨w.heap.size, 1, none⟩ = some (.int .i64 loops) := block_cell HX8'.out rfl
          have HEA : Hid (a = some ⟨b, off, none⟩) := ea
          obtain ⟨ci, hci⟩ : ∃ ci, toC C x = ci := ⟨_, rfl⟩
          obtain ⟨cs, hcs⟩ : ∃ cs, toS C x = cs := ⟨_, rfl⟩
          rw [hci, hcs] at HTO HTL HNA
          obtain ⟨t1, t2⟩ := HTL.out
          have hsz8 : w.heap.size + 1 < w8.heap.size := by have := HG18.out.size; omega
          clear hA hS hg8 hown8 e0 z0 hC ea hci hcs HTL
          go_wp2_with (go_at_call 23; refine (endOf_any b off cap C loops x false _ HM.out hx1 hx2 hb8 HC8.out).mono ?_; rw [show (!false) = true from rfl, HTO.out]; rintro e9 w9 ⟨rfl, hb9⟩; refine Hid.out ?_)
          refine Lib.hid ?_
          have HB89 : Hid (Below w8.heap.size w8 w9) := hb9
          clear hb9 p0 p1
          have hs9 := HB89.out.size
          obtain ⟨k2, hk2⟩ : ∃ k2 : Nat, k2 = (cs + 2) % 4 := ⟨_, rfl⟩
          have q1 : IntKind.i64.wrap ((cs : Int) + 2) = (cs : Int) + 2 := IntWalk.i64_in _ (by omega)
          have q2 : ((cs : Int) + 2).tmod 4 = (k2 : Int) := by rw [Int.tmod_eq_emod_of_nonneg (by omega)]; omega
          have hk24 : k2 < 4 := by omega
          rw [← hk2] at HNA
          clear hk2
          have p0 : w9.cell? ⟨w.heap.size, 0, none⟩ = some (.slice (some ⟨b, off, none⟩) C.length cap) := bcell HB89.out (by omega) (block_cell HX8'.out rfl)
          have p1 : w9.cell? ⟨w.heap.size, 1, none⟩ = some (.int .i64 loops) := bcell HB89.out (by omega) (block_cell HX8'.out rfl)
          have hlt9 : w.heap.size < w9.heap.size := by omega
          have HBA : Hid (Below w9.heap.size w9 (w9.alloc (.cells #[.int .i64 ci, .int .i64 cs] 56))) := (Below.refl _ _).alloc (Nat.le_refl _) _
          have HC9 : Hid (CrossAt (w9.alloc (.cells #[.int .i64 ci, .int .i64 cs] 56)) b off C) := (HC8.out.on HB89.out hb8).on HBA.out (by omega)
          have hb9 : b < (w9.alloc (.cells #[.int .i64 ci, .int .i64 cs] 56)).heap.size := by simp; omega
          go_wp2_with (go_at_call 24; refine (arcAt_any b off cap loops C ci k2 _ t1 hk24 hb9 HC9.out).mono ?_; rw [HNA.out]; rintro e9 wA ⟨rfl, hbA⟩; refine Hid.out ?_)
          refine Lib.hid ?_
          have HB9 : Hid (Below w8.heap.size w8 wA) := (HB89.out.trans (HBA.out.mono hs9)).trans (hbA.mono (by simp; omega))
          clear hbA p0 p1
          obtain ⟨hn1, hn2⟩ := HX.out
          obtain ⟨y, hy⟩ : ∃ y, nx C x = y := ⟨_, rfl⟩
          rw [hy] at hn1 hn2 HWK ⊢
          have hg9 : w8.grownBy wA none := grown_below HB9.out none
          go_wp2
          go_roundw
          case rel => exact ⟨f - 1, seen.set x true, y, acc ++ [x], rfl, hn1, hn2, (hwk.out.trans HWK.out.1 : walkF (nx C) (2 * C.length + 1) (walksTo (nx C) (2 * C.length) i).2 j0 [] = _), HWK.out.2, by simpa using hsl, (by have := hac.out; have := HUS.out; rw [List.length_append]; simp only [List.length_cons, List.length_nil]; omega : (acc ++ [x]).length + unseen (seen.set x true) ≤ 2 * C.length + 1), own_any HO8.out hg9, own_any HS8.out hg9, grown_new HG18.out hg9 (fun q hq => by cases hq), HB8.out.trans (HB9.out.mono HB8.out.size)⟩
          case measure =>
            obtain ⟨a8, c8, e8⟩ := own_capS HO8.out
            rw [e8]
            simp only [lenOf, List.length_append, List.length_cons, List.length_nil]
            omega
        | true =>
          rw [hbit] at e0
          have HWT : Hid (walksTo (nx C) (2 * C.length) (i + 1) = (if acc = [] then (walksTo (nx C) (2 * C.length) i).1 else (walksTo (nx C) (2 * C.length) i).1 ++ [acc], seen)) := walksTo_next (by rw [← hji.out]; exact hwk.out.trans (walkF_seen hbit))
          have hlz : zs.length ≤ i := by rw [HK.out.len]; exact HCT.out
          have HX3 : Hid (W3.heap[w.heap.size]? = some (.cells #[.slice a C.length cap, .int .i64 loops] 24 (0, 0))) := (hgr.block _ (by omega) (fun e => by have := Option.some.inj e; omega)).trans HK.out.box
          have hrows := HK.out.rows.kept hgr (own_ne HK.out.rows HK.out.seen (by decide))
          have HEA : Hid (∀ j, j < zs.length → W3.ownsRow (w.heap.size + 1) 3 1 (zs.getD j (.bool false)) ((walksTo (nx C) (2 * C.length) i).1.getD j []).length (nats ((walksTo (nx C) (2 * C.length) i).1.getD j []))) := fun j hj => (HK.out.each j hj).kept hgr (own_ne (HK.out.each j hj) HK.out.seen (by decide))
          have hlen := HK.out.len
          by_cases hz : acc = []
          · subst hz
            rw [if_pos rfl] at HWT
            go_wp2
            go_roundw
            case rel =>
              refine ⟨i + 1, j0 + 1, zs, by omega, (by have := hji.out; omega : j0 + 1 = i + 1 + 1), by go_num, ?_⟩
              rw [HWT.out]
              exact ⟨HX3.out, hsd, hlen, hrows, HEA.out, hbl⟩
            case measure => simp only [intOf]; omega
          · rw [if_neg hz] at HWT
            have hpos : 0 < acc.length := List.length_pos_iff.2 hz
            have HON : Hid (∀ u ∈ [Value.slice a6 acc.length c6], u.oneCell' = true) := own_oneS hown
            have HRW : Hid (W3.ownsRow (w.heap.size + 1) 41 1 _ zs.length zs) := hrows
            have HOW : Hid (W3.ownsRow (w.heap.size + 1) 3 1 (.slice a6 acc.length c6) acc.length (nats acc)) := own_low hown (by omega)
            have HSD : Hid (W3.ownsRow (w.heap.size + 1) 4 1 (.slice (some ⟨w.heap.size + 1, 0, none⟩) (2 * C.length + 1) (2 * C.length + 1)) (2 * C.length + 1) (bools seen)) := hsd
            have HBL : Hid (Below w.heap.size w W3) := hbl
            clear hrows hown hsd hbl
            have hdp : decide (0 < (acc.length : Int)) = true := by simp; omega
            have hdp2 : decide (0 < acc.length) = true := by simp; omega
            go_wp2_with (first
              | (at_builtin; refine wpList_append_own _ rfl _ _ 30 rfl (w.heap.size + 1) 41 i1 (.slice none 0 0) 1 24 Try.underlying30 hj hy0 hy1 hy2 rfl (by decide) _ _ _ rfl (HRW.out.alloc _) ⟨W3.heap.size, 0, none⟩ 1 1 [Value.slice a6 acc.length c6] rfl rfl (new_cell1 _ _ _) HON.out (by unfold maxLen; omega) (by omega) (by simp; omega) ?_; intro v8 w8 hown8 hg8 _; go_frame))
            go_roundw
            case rel =>
              have hR := HRW.out.alloc (.cells #[Value.slice a6 acc.length c6] 41)
              have hO := HOW.out.alloc (.cells #[Value.slice a6 acc.length c6] 41)
              have hS := HSD.out.alloc (.cells #[Value.slice a6 acc.length c6] 41)
              refine ⟨i + 1, j0 + 1, zs ++ [Value.slice a6 acc.length c6], by omega, (by have := hji.out; omega : j0 + 1 = i + 1 + 1), by go_num, ?_⟩
              rw [HWT.out]
              refine ⟨?_, hS.kept hg8 (own_ne hS hR (by decide)), by simp [hlen], by rw [List.length_append]; exact hown8, fun j hjl => ?_, (HBL.out.alloc (by omega) _).grown hg8 (by simp; omega) (fun q hq => by have := (hR.lt q hq).1; omega)⟩
              · refine (hg8.block _ (by simp; omega) (fun e => by have := (hR.lt _ e.symm).1; omega)).trans (alloc_old HX3.out)
              · by_cases hjk : j < zs.length
                · have e1 : ((walksTo (nx C) (2 * C.length) i).1 ++ [acc]).getD j [] = (walksTo (nx C) (2 * C.length) i).1.getD j [] := by rw [List.getD_eq_getElem?_getD, List.getD_eq_getElem?_getD, List.getElem?_append_left (by omega)]
                  rw [getD_left zs _ j hjk, e1]
                  have h1 := (HEA.out j hjk).alloc (.cells #[Value.slice a6 acc.length c6] 41)
                  exact h1.kept hg8 (own_ne h1 hR (by decide))
                · have ej : j = zs.length := by simp at hjl; omega
                  have e1 : ((walksTo (nx C) (2 * C.length) i).1 ++ [acc]).getD j [] = acc := by rw [ej, hlen]; simp [List.getD]
                  have e2 : (zs ++ [Value.slice a6 acc.length c6]).getD j (.bool false) = Value.slice a6 acc.length c6 := by rw [ej]; exact getD_last zs _
                  rw [e1, e2]
                  exact hO.kept hg8 (own_ne hO hR (by decide))
            case measure => simp only [intOf]; omega
    · obtain rfl : i = 2 * C.length := by omega
      obtain rfl : j0 = 2 * C.length + 1 := hji.out
      go_wp2
      go_ret
      exact ⟨_, rfl, ⟨zs, by rw [HWM.out]; exact HK.out.len, own_low HK.out.rows (by omega), fun j hj => by rw [HWM.out] at hj ⊢; exact own_low (HK.out.each j (by rw [HK.out.len]; exact hj)) (by omega)⟩, HK.out.bel⟩
end Go.Proofs.Ytlcogbcpmneknaa

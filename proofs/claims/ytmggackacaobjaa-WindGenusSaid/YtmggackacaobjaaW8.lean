/- The walk of ref.VisitsOf. -/
import Derived.Test.YtmggackacaobjaaW4
import Derived.Test.YtmggackacaobjaaW7
namespace Go.Proofs.Ytmggackacaobjaa
open Go.RowKit

theorem visL_take (C : List Cr) (l : List Nat) (i : Nat) (h : i < l.length) : visL C (l.take (i + 1)) = visL C (l.take i) ++ [vis C (l.getD i 0)] := by
  have e2 : l.take (i + 1) = l.take i ++ [l.getD i 0] := by
    rw [List.take_add_one, List.getD_eq_getElem?_getD, List.getElem?_eq_getElem h]
    rfl
  rw [e2]
  simp [visL]
theorem visL_take_len (C : List Cr) (l : List Nat) (i : Nat) (h : i ≤ l.length) : (visL C (l.take i)).length = i := by simp [visL]; omega
theorem new_cell2 (W : World) (x y : Value) (e : TypeId) : ∀ j u, [x, y][j]? = some u → (W.alloc (.cells #[x, y] e)).cell? ((⟨W.heap.size, 0, none⟩ : Addr).add j) = some u := by
  intro j u hj
  rw [Addr.add_lit, Nat.zero_add]
  have hh : (W.alloc (.cells #[x, y] e)).heap[W.heap.size]? = some (.cells #[x, y] e (0, 0)) := Array.getElem?_push_size
  match j, hj with
  | 0, hj => simp at hj; subst hj; exact block_cell hh rfl
  | 1, hj => simp at hj; subst hj; exact block_cell hh rfl
theorem vis_one (t : Nat × Bool) : ∀ u ∈ [Value.int .i64 (t.1 : Nat), .bool t.2], u.oneCell' = true := vflat_one [t]

set_option maxHeartbeats 8000000 in
set_option maxRecDepth 100000 in
theorem visitsOf_any (a : Option Addr) (cap : Nat) (C : List Cr) (loops : Int) (w : World) (hm : mayD C loops = true) (hD : Crs w w.heap.size (.slice a C.length cap) C) :
    Calls Try.prog 25 #[.agg #[.slice a C.length cap, .int .i64 loops]] w fun e w' => ∃ v1 v2, e = .returned (.tuple #[v1, v2]) ∧ VisOwn w' w.heap.size v1 (visM C) ∧ w'.ownsRow w.heap.size 4 1 v2 (plusM C).length (bools (plusM C)) ∧ Below w.heap.size w w' := by
  obtain ⟨s1, -, -, -⟩ := sizeB_iff (may_size hm)
  obtain ⟨i0, hi, hz0, hz1, hz2⟩ := info_parts infoVisit
  obtain ⟨i1, hj, hy0, hy1, hy2⟩ := info_parts infoVisits
  obtain ⟨i2, hk, hx0, hx1, hx2⟩ := info_parts infoBool
  have HM : Hid (mayD C loops = true) := hm
  have HD : Hid (Crs w w.heap.size (.slice a C.length cap) C) := hD
  obtain ⟨hlw, hfw⟩ := walksM_facts hm
  have HFW : Hid (∀ j, j < (walksM C).length → 0 < ((walksM C).getD j []).length ∧ ((walksM C).getD j []).length ≤ 2 * C.length + 1 ∧ ∀ i, i < ((walksM C).getD j []).length → 1 ≤ ((walksM C).getD j []).getD i 0 ∧ ((walksM C).getD j []).getD i 0 ≤ 2 * C.length) := hfw
  have HVM : Hid (visM C = (walksM C).map (visL C)) := (rfl : visM C = (walksM C).map (visL C))
  clear hm hD hfw
  generalize visM C = VM at HVM
  obtain ⟨w0, hw0⟩ : ∃ w0, w0 = w.alloc (.cells #[.slice a C.length cap, .int .i64 loops] 24) := ⟨_, rfl⟩
  have HW0 : Hid (w0 = w.alloc (.cells #[.slice a C.length cap, .int .i64 loops] 24)) := hw0
  have hs0 : w0.heap.size = w.heap.size + 1 := by rw [hw0]; simp
  have HB0 : Hid (Below w.heap.size w w0) := (by rw [hw0]; exact (Below.refl _ _).alloc (Nat.le_refl _) _ : Below w.heap.size w w0)
  have HT0 : Hid (w0.heap[w.heap.size]? = some (.cells #[.slice a C.length cap, .int .i64 loops] 24 (0, 0))) := (by rw [hw0]; exact alloc_at rfl : w0.heap[w.heap.size]? = some (.cells #[.slice a C.length cap, .int .i64 loops] 24 (0, 0)))
  have HD0 : Hid (Crs w0 w0.heap.size (.slice a C.length cap) C) := HD.out.up HB0.out
  go_enter Try.func25, Try.ntmps25
  go_wp2_with (go_at_call 23; rw [← HW0.out]; refine (strandsOf_any a cap C loops _ HM.out HD0.out).mono ?_; rintro e9 w2 ⟨r, rfl, hr, hb2⟩; refine Hid.out ?_)
  refine Lib.hid ?_
  clear hw0
  have HWK : Hid (WksAt w2 r (walksM C)) := hr.wks
  have HB2 : Hid (Below w.heap.size w w2) := HB0.out.trans (hb2.mono HB0.out.size)
  have HT2 : Hid (w2.heap[w.heap.size]? = some (.cells #[.slice a C.length cap, .int .i64 loops] 24 (0, 0))) := (hb2.block _ (by omega)).trans HT0.out
  have HD2 : Hid (Crs w2 w2.heap.size (.slice a C.length cap) C) := HD.out.up HB2.out
  have hs2 : w.heap.size + 1 ≤ w2.heap.size := by have := hb2.size; omega
  clear hr hb2 HT0 HB0 HD0 HW0
  obtain ⟨ys, hyl, ⟨ar, cr, rfl, gr⟩, hwk⟩ := HWK.out
  rw [hyl] at gr ⊢
  have HGR : Hid (0 < (walksM C).length → ∃ b off, ar = some ⟨b, off, none⟩ ∧ b < w2.heap.size ∧ ∀ i, i < (walksM C).length → w2.cell? ⟨b, off + i, none⟩ = some (ys.getD i (.bool false))) := gr
  have HWS : Hid (∀ j, j < (walksM C).length → Slots w2 w2.heap.size (ys.getD j (.bool false)) (nats ((walksM C).getD j []))) := hwk
  clear gr hwk HWK
  obtain ⟨L, hL⟩ : ∃ L, walksM C = L := ⟨_, rfl⟩
  rw [hL] at hyl hlw HFW HVM HGR HWS ⊢
  clear hL
  go_wp2
  go_loopw [5, 6] (fun v3 v12 wr => ∃ (k : Nat) (zs : List Value), k ≤ L.length ∧ v12 = .int .i64 k ∧ zs.length = k ∧ wr.ownsRow w2.heap.size 42 1 v3 zs.length zs ∧ Hid (∀ j, j < k → wr.ownsRow w2.heap.size 99 2 (zs.getD j (.bool false)) (visL C (L.getD j [])).length (vflat (visL C (L.getD j [])))) ∧ Below w2.heap.size w2 wr) (fun _ v12 _ => L.length - (intOf v12).toNat)
  case atStart => exact ⟨0, [], Nat.zero_le _, rfl, rfl, World.ownsRow_nil _ _ _ _, fun j hj => absurd hj (Nat.not_lt_zero _), Below.refl _ _⟩
  case round =>
    rename World => W1
    obtain ⟨k, zs, hkl, rfl, hzl, hown, heach, hb⟩ := hrel
    have hszW := hb.size
    by_cases hlt : k < L.length
    · obtain ⟨br, orr, rfl, hbr, hcr⟩ := HGR.out (by omega)
      obtain ⟨aw, cw, hvw, gw⟩ := HWS.out k hlt
      rw [nats_len] at hvw gw
      have HC0 : Hid (w2.cell? ⟨br, orr + k, none⟩ = some (.slice aw (L.getD k []).length cw)) := (by rw [← hvw]; exact hcr k hlt : w2.cell? ⟨br, orr + k, none⟩ = some (.slice aw (L.getD k []).length cw))
      obtain ⟨hp, hlw2, hfx⟩ := HFW.out k hlt
      have HGW : Hid (0 < (L.getD k []).length → ∃ b off, aw = some ⟨b, off, none⟩ ∧ b < w2.heap.size ∧ ∀ i, i < (L.getD k []).length → w2.cell? ⟨b, off + i, none⟩ = some ((nats (L.getD k [])).getD i (.bool false))) := gw
      have HFX : Hid (∀ i, i < (L.getD k []).length → 1 ≤ (L.getD k []).getD i 0 ∧ (L.getD k []).getD i 0 ≤ 2 * C.length) := hfx
      have HLK : Hid (∀ j, j < k + 1 → ∀ (zv : Value) (wx : World), wx.ownsRow w2.heap.size 99 2 zv (visL C (L.getD k [])).length (vflat (visL C (L.getD k []))) → j = k → wx.ownsRow w2.heap.size 99 2 zv (visL C (L.getD j [])).length (vflat (visL C (L.getD j [])))) := fun j _ zv wx hx he => by rw [he]; exact hx
      clear hcr hvw gw hfx
      generalize L.getD k [] = wk at HC0 hp hlw2 HGW HFX HLK
      have HOW : Hid (W1.ownsRow w2.heap.size 42 1 _ zs.length zs) := hown
      have HEA : Hid (∀ j, j < k → W1.ownsRow w2.heap.size 99 2 (zs.getD j (.bool false)) (visL C (L.getD j [])).length (vflat (visL C (L.getD j [])))) := heach
      have HBW : Hid (Below w2.heap.size w2 W1) := hb
      have hbr1 : br < W1.heap.size := by omega
      have hdk : decide ((k : Int) < (L.length : Int)) = true := by simp; omega
      have hdk2 : decide (k < L.length) = true := by simp; omega
      clear hown heach
      go_wp2
      go_loopw [7, 8] (fun v7 v8 ws => ∃ i : Nat, i ≤ wk.length ∧ v8 = .int .i64 i ∧ ws.ownsRow W1.heap.size 99 2 v7 i (vflat (visL C (wk.take i))) ∧ Below W1.heap.size W1 ws) (fun _ v8 _ => wk.length - (intOf v8).toNat)
      case atStart => exact ⟨0, Nat.zero_le _, rfl, World.ownsRow_nil _ _ _ _, Below.refl _ _⟩
      case round =>
        clear hb
        rename World => W3
        obtain ⟨i, hin, rfl, hrow, hb⟩ := hrel
        have hszY := hb.size
        obtain ⟨a7, c7, rfl⟩ := own_capS hrow
        have HB23 : Hid (Below w2.heap.size w2 W3) := HBW.out.trans (hb.mono hszW)
        have c0 := bcell HB23.out hbr HC0.out
        have hbr3 : br < W3.heap.size := by omega
        by_cases hil : i < wk.length
        · obtain ⟨bw, ow, rfl, hbw, hcw⟩ := HGW.out hp
          have e0 : w2.cell? ⟨bw, ow + i, none⟩ = some (.int .i64 (wk.getD i 0 : Nat)) := by
            have h := hcw i hil
            rw [List.getD_eq_getElem?_getD, nats_get wk i hil] at h
            exact h
          obtain ⟨hx1, hx2⟩ := HFX.out i hil
          have HTK : Hid (visL C (wk.take (i + 1)) = visL C (wk.take i) ++ [vis C (wk.getD i 0)]) := visL_take C wk i hil
          clear hcw
          obtain ⟨x, hxe⟩ : ∃ x, wk.getD i 0 = x := ⟨_, rfl⟩
          rw [hxe] at e0 hx1 hx2 HTK
          clear hxe
          obtain ⟨b, off, ea, hbq, hC⟩ := crs_some HD2.out (by omega)
          subst ea
          have HRW : Hid (W3.ownsRow W1.heap.size 99 2 (.slice a7 i c7) i (vflat (visL C (wk.take i)))) := hrow
          have HE0 : Hid (w2.cell? ⟨bw, ow + i, none⟩ = some (.int .i64 (x : Nat))) := e0
          have HF : Hid (∀ w', Below W3.heap.size W3 w' → w'.cell? ⟨w.heap.size, 0, none⟩ = some (.slice (some ⟨b, off, none⟩) C.length cap) ∧ w'.cell? ⟨w.heap.size, 1, none⟩ = some (.int .i64 loops) ∧ w'.cell? ⟨br, orr + k, none⟩ = some (.slice (some ⟨bw, ow, none⟩) wk.length cw) ∧ w'.cell? ⟨bw, ow + i, none⟩ = some (.int .i64 (x : Nat))) := fun w' hw' => by
            have hB := HB23.out.trans (hw'.mono HB23.out.size)
            have g0 := (hB.block _ (by omega)).trans HT2.out
            exact ⟨block_cell g0 rfl, block_cell g0 rfl, bcell hB hbr HC0.out, bcell hB hbw HE0.out⟩
          have HCX : Hid (∀ wX, Below W3.heap.size W3 wX → b < wX.heap.size ∧ CrossAt wX b off C) := fun wX hX => by
            have hB := HB23.out.trans (hX.mono HB23.out.size)
            exact ⟨Nat.lt_of_lt_of_le hbq hB.size, hC.on hB hbq⟩
          have HTO : Hid (endTo C x true C.length = ((toC C x : Int), (toS C x : Int))) := (to_may HM.out x hx1 hx2).1
          have HOV : Hid ((toS C x = 0 ∧ toS C x % 2 = 0) ∨ (toS C x ≠ 0 ∧ toS C x % 2 = 1)) := toS_over HM.out x hx1 hx2
          have HVI : Hid (vis C x = (toC C x, !decide (toS C x = 0))) := (rfl : vis C x = (toC C x, !decide (toS C x = 0)))
          have HTL : Hid (toS C x < 4) := (to_may HM.out x hx1 hx2).2.2.1
          obtain ⟨ci, hci⟩ : ∃ ci, toC C x = ci := ⟨_, rfl⟩
          obtain ⟨cs, hcs⟩ : ∃ cs, toS C x = cs := ⟨_, rfl⟩
          rw [hci, hcs] at HTO HVI
          rw [hcs] at HOV HTL
          have HFS : Hid (∀ wX u v, Below W3.heap.size W3 wX → (fun w' => w'.cell? ⟨w.heap.size, 0, none⟩ = some (.slice (some ⟨b, off, none⟩) C.length cap) ∧ w'.cell? ⟨w.heap.size, 1, none⟩ = some (.int .i64 loops) ∧ w'.cell? ⟨br, orr + k, none⟩ = some (.slice (some ⟨bw, ow, none⟩) wk.length cw) ∧ w'.cell? ⟨bw, ow + i, none⟩ = some (.int .i64 (x : Nat))) (st2 wX W3.heap.size 0 u v)) := fun wX u v hX => by
            obtain ⟨f0, f1, f2, f3⟩ := HF.out wX hX
            have hg := st2_grown wX W3.heap.size 0 u v
            exact ⟨hg.cell f0 (fun e => by have := Option.some.inj e; simp only at this; omega), hg.cell f1 (fun e => by have := Option.some.inj e; simp only at this; omega), hg.cell f2 (fun e => by have := Option.some.inj e; simp only at this; omega), hg.cell f3 (fun e => by have := Option.some.inj e; simp only at this; omega)⟩
          have HDW : Hid (Below W3.heap.size W3 W3.drew) := (Below.refl _ _).drew
          have HDV : Hid (Below W3.heap.size W3 (W3.drew.alloc (.cells #[.int .i64 0, .int .i64 0] 94))) := HDW.out.alloc (Nat.le_refl _) _
          obtain ⟨t0, t1, t2, t3⟩ := HF.out W3 (Below.refl _ _)
          clear e0 hC hci hcs hrow c0
          have hdi : decide ((i : Int) < (wk.length : Int)) = true := by simp; omega
          have hdi2 : decide (i < wk.length) = true := by simp; omega
          have n0 : (0 : Int) ≤ (i : Int) := by omega
          have n1 : (i : Int) < (wk.length : Int) := by omega
          have n2 : (0 : Int) ≤ (k : Int) := by omega
          have n3 : (k : Int) < (L.length : Int) := by omega
          have hbw3 : bw < W3.heap.size := by omega
          go_wp2
          go_region_held3 (fun w' => w'.cell? ⟨w.heap.size, 0, none⟩ = some (.slice (some ⟨b, off, none⟩) C.length cap) ∧ w'.cell? ⟨w.heap.size, 1, none⟩ = some (.int .i64 loops) ∧ w'.cell? ⟨br, orr + k, none⟩ = some (.slice (some ⟨bw, ow, none⟩) wk.length cw) ∧ w'.cell? ⟨bw, ow + i, none⟩ = some (.int .i64 (x : Nat))) (first | exact HF.out _ HA.out | exact HF.out _ HDW.out | exact HF.out _ HDV.out | exact HF.out _ (HA.out.alloc HA.out.size _) | exact HF.out _ (Below.refl _ _) | exact HFS.out _ _ _ HA.out) (first
            | (go_at_call 72
               first
                 | (refine (endOf_any b off cap C loops x false _ HM.out hx1 hx2 (HCX.out _ HDW.out).1 (HCX.out _ HDW.out).2).mono ?_; rw [show (!false) = true from rfl, HTO.out]; rintro e9 wA ⟨rfl, hbA⟩; have HA : Hid (Below W3.heap.size W3 wA) := HDW.out.trans hbA)
                 | (refine (endOf_any b off cap C loops x false _ HM.out hx1 hx2 (HCX.out _ HDV.out).1 (HCX.out _ HDV.out).2).mono ?_; rw [show (!false) = true from rfl, HTO.out]; rintro e9 wA ⟨rfl, hbA⟩; have HA : Hid (Below W3.heap.size W3 wA) := HDV.out.trans (hbA.mono HDV.out.size); have HTA : Hid (wA.heap[W3.heap.size]? = some (.cells #[.int .i64 0, .int .i64 0] 94 (0, 0))) := (hbA.block _ (by simp)).trans (alloc_at rfl); have d0 : wA.cell? ⟨W3.heap.size, 0, none⟩ = some (.int .i64 0) := block_cell HTA.out rfl; have d1 : wA.cell? ⟨W3.heap.size, 1, none⟩ = some (.int .i64 0) := block_cell HTA.out rfl; have d2 : wA.frozen? ⟨W3.heap.size, 0, none⟩ = false := block_frozen HTA.out; have d3 : wA.frozen? ⟨W3.heap.size, 1, none⟩ = false := block_frozen HTA.out; have d4 : W3.heap.size < wA.heap.size := by have := hbA.size; simp at this; omega)
               obtain ⟨a0, a1, a2, a3⟩ := HF.out wA HA.out
               clear hbA))
          · obtain ⟨X, hX⟩ : ∃ X, X = wA.alloc (.cells #[.int .i64 (ci : Nat), .int .i64 (cs : Nat)] 94) := ⟨_, rfl⟩
            rw [← hX]
            have HBX : Hid (Below W3.heap.size W3 X) := (by rw [hX]; exact HA.out.alloc HA.out.size _ : Below W3.heap.size W3 X)
            have hT : X.heap[wA.heap.size]? = some (.cells #[.int .i64 (ci : Nat), .int .i64 (cs : Nat)] 94 (0, 0)) := by rw [hX]; exact alloc_at rfl
            have m0 : X.cell? ⟨wA.heap.size, 0, none⟩ = some (.int .i64 (ci : Nat)) := block_cell hT rfl
            have m1 : X.cell? ⟨wA.heap.size, 1, none⟩ = some (.int .i64 (cs : Nat)) := block_cell hT rfl
            have hgl : wA.heap.size < X.heap.size := (Array.getElem?_eq_some_iff.1 hT).1
            clear hX hT
            have HRX : Hid (X.ownsRow W1.heap.size 99 2 (.slice a7 i c7) i (vflat (visL C (wk.take i)))) := own_any HRW.out (grown_below HBX.out none)
            have hszX := HBX.out.size
            clear a0 a1 a2 a3 t0 t1 t2 t3
            rcases HOV.out with ⟨ho1, ho2⟩ | ⟨ho1, ho2⟩
            · have q : ((cs : Nat) : Int).tmod 2 = 0 := by rw [Int.tmod_eq_emod_of_nonneg (by omega)]; omega
              have HV : Hid (vis C x = (ci, false)) := (by rw [HVI.out]; simp [ho1] : vis C x = (ci, false))
              clear ho1 ho2
              go_wp2_with (first
                | (at_builtin; refine wpList_append_own _ rfl _ _ 42 rfl W1.heap.size 99 i0 (.agg #[.int .i64 0, .bool false]) 2 16 Try.underlying42 hi hz0 hz1 hz2 rfl (by decide) _ _ _ rfl (HRX.out.alloc _) ⟨X.heap.size, 0, none⟩ 1 1 [.int .i64 (ci : Nat), .bool false] rfl rfl (new_cell2 _ _ _ _) (vis_one (ci, false)) (by unfold maxLen; omega) (by omega) (by simp; omega) ?_; intro v8 w8 hown8 hg8 _; go_frame))
              go_roundw
              case rel =>
                have hR := HRX.out.alloc (.cells #[.int .i64 (ci : Nat), .bool false] 99)
                exact ⟨i + 1, by omega, by go_num, by rw [HTK.out, vflat_append, HV.out]; exact hown8, ((hb.trans (HBX.out.mono hszY)).alloc (by omega) _).grown hg8 (by simp; omega) (fun q hq => (hR.lt q hq).1)⟩
              case measure => simp only [intOf]; omega
            · have q : ((cs : Nat) : Int).tmod 2 = 1 := by rw [Int.tmod_eq_emod_of_nonneg (by omega)]; omega
              have HV : Hid (vis C x = (ci, true)) := (by rw [HVI.out]; simp [ho1] : vis C x = (ci, true))
              clear ho1 ho2
              go_wp2_with (first
                | (at_builtin; refine wpList_append_own _ rfl _ _ 42 rfl W1.heap.size 99 i0 (.agg #[.int .i64 0, .bool false]) 2 16 Try.underlying42 hi hz0 hz1 hz2 rfl (by decide) _ _ _ rfl (HRX.out.alloc _) ⟨X.heap.size, 0, none⟩ 1 1 [.int .i64 (ci : Nat), .bool true] rfl rfl (new_cell2 _ _ _ _) (vis_one (ci, true)) (by unfold maxLen; omega) (by omega) (by simp; omega) ?_; intro v8 w8 hown8 hg8 _; go_frame))
              go_roundw
              case rel =>
                have hR := HRX.out.alloc (.cells #[.int .i64 (ci : Nat), .bool true] 99)
                exact ⟨i + 1, by omega, by go_num, by rw [HTK.out, vflat_append, HV.out]; exact hown8, ((hb.trans (HBX.out.mono hszY)).alloc (by omega) _).grown hg8 (by simp; omega) (fun q hq => (hR.lt q hq).1)⟩
              case measure => simp only [intOf]; omega
          · obtain ⟨X, hX⟩ : ∃ X, X = st2 wA W3.heap.size 0 (.int .i64 (ci : Nat)) (.int .i64 (cs : Nat)) := ⟨_, rfl⟩
            have HBX : Hid (Below W3.heap.size W3 X) := (by rw [hX]; exact HA.out.grown (st2_grown _ _ _ _ _) HA.out.size (fun q hq => by have := Option.some.inj hq; omega) : Below W3.heap.size W3 X)
            have hT : X.heap[W3.heap.size]? = some (.cells #[.int .i64 (ci : Nat), .int .i64 (cs : Nat)] 94 (0, 0)) := by rw [hX]; exact set_block (set_block HTA.out)
            have m0 : X.cell? ⟨W3.heap.size, 0, none⟩ = some (.int .i64 (ci : Nat)) := block_cell hT rfl
            have m1 : X.cell? ⟨W3.heap.size, 1, none⟩ = some (.int .i64 (cs : Nat)) := block_cell hT rfl
            have hgl : W3.heap.size < X.heap.size := (Array.getElem?_eq_some_iff.1 hT).1
            unfold st2 at hX
            rw [← hX]
            clear hX hT d0 d1 d2 d3 d4
            have HRX : Hid (X.ownsRow W1.heap.size 99 2 (.slice a7 i c7) i (vflat (visL C (wk.take i)))) := own_any HRW.out (grown_below HBX.out none)
            have hszX := HBX.out.size
            clear a0 a1 a2 a3 t0 t1 t2 t3
            rcases HOV.out with ⟨ho1, ho2⟩ | ⟨ho1, ho2⟩
            · have q : ((cs : Nat) : Int).tmod 2 = 0 := by rw [Int.tmod_eq_emod_of_nonneg (by omega)]; omega
              have HV : Hid (vis C x = (ci, false)) := (by rw [HVI.out]; simp [ho1] : vis C x = (ci, false))
              clear ho1 ho2
              go_wp2_with (first
                | (at_builtin; refine wpList_append_own _ rfl _ _ 42 rfl W1.heap.size 99 i0 (.agg #[.int .i64 0, .bool false]) 2 16 Try.underlying42 hi hz0 hz1 hz2 rfl (by decide) _ _ _ rfl (HRX.out.alloc _) ⟨X.heap.size, 0, none⟩ 1 1 [.int .i64 (ci : Nat), .bool false] rfl rfl (new_cell2 _ _ _ _) (vis_one (ci, false)) (by unfold maxLen; omega) (by omega) (by simp; omega) ?_; intro v8 w8 hown8 hg8 _; go_frame))
              go_roundw
              case rel =>
                have hR := HRX.out.alloc (.cells #[.int .i64 (ci : Nat), .bool false] 99)
                exact ⟨i + 1, by omega, by go_num, by rw [HTK.out, vflat_append, HV.out]; exact hown8, ((hb.trans (HBX.out.mono hszY)).alloc (by omega) _).grown hg8 (by simp; omega) (fun q hq => (hR.lt q hq).1)⟩
              case measure => simp only [intOf]; omega
            · have q : ((cs : Nat) : Int).tmod 2 = 1 := by rw [Int.tmod_eq_emod_of_nonneg (by omega)]; omega
              have HV : Hid (vis C x = (ci, true)) := (by rw [HVI.out]; simp [ho1] : vis C x = (ci, true))
              clear ho1 ho2
              go_wp2_with (first
                | (at_builtin; refine wpList_append_own _ rfl _ _ 42 rfl W1.heap.size 99 i0 (.agg #[.int .i64 0, .bool false]) 2 16 Try.underlying42 hi hz0 hz1 hz2 rfl (by decide) _ _ _ rfl (HRX.out.alloc _) ⟨X.heap.size, 0, none⟩ 1 1 [.int .i64 (ci : Nat), .bool true] rfl rfl (new_cell2 _ _ _ _) (vis_one (ci, true)) (by unfold maxLen; omega) (by omega) (by simp; omega) ?_; intro v8 w8 hown8 hg8 _; go_frame))
              go_roundw
              case rel =>
                have hR := HRX.out.alloc (.cells #[.int .i64 (ci : Nat), .bool true] 99)
                exact ⟨i + 1, by omega, by go_num, by rw [HTK.out, vflat_append, HV.out]; exact hown8, ((hb.trans (HBX.out.mono hszY)).alloc (by omega) _).grown hg8 (by simp; omega) (fun q hq => (hR.lt q hq).1)⟩
              case measure => simp only [intOf]; omega
        · obtain rfl : i = wk.length := by omega
          rw [List.take_length] at hrow
          have hvl : (visL C wk).length = wk.length := by simp [visL]
          have HRW : Hid (W3.ownsRow w2.heap.size 99 2 (.slice a7 wk.length c7) (visL C wk).length (vflat (visL C wk))) := (by rw [hvl]; exact own_low hrow hszW : W3.ownsRow w2.heap.size 99 2 (.slice a7 wk.length c7) (visL C wk).length (vflat (visL C wk)))
          have HON : Hid (∀ u ∈ [Value.slice a7 wk.length c7], u.oneCell' = true) := own_oneS hrow
          have HO3 : Hid (W3.ownsRow w2.heap.size 42 1 _ zs.length zs) := own_any HOW.out (grown_below hb none)
          have HE3 : Hid (∀ j, j < k → W3.ownsRow w2.heap.size 99 2 (zs.getD j (.bool false)) (visL C (L.getD j [])).length (vflat (visL C (L.getD j [])))) := fun j hj => own_any (HEA.out j hj) (grown_below hb none)
          have HB3 : Hid (Below w2.heap.size w2 W3) := HB23.out
          clear hrow hb
          go_wp2_with (first
            | (at_builtin; refine wpList_append_own _ rfl _ _ 30 rfl w2.heap.size 42 i1 (.slice none 0 0) 1 24 Try.underlying30 hj hy0 hy1 hy2 rfl (by decide) _ _ _ rfl (HO3.out.alloc _) ⟨W3.heap.size, 0, none⟩ 1 1 [Value.slice a7 wk.length c7] rfl rfl (new_cell1 _ _ _) HON.out (by unfold maxLen; omega) (by omega) (by simp; omega) ?_; intro v8 w8 hown8 hg8 _; go_frame))
          go_roundw
          case rel =>
            have hR := HO3.out.alloc (.cells #[Value.slice a7 wk.length c7] 42)
            have hO := HRW.out.alloc (.cells #[Value.slice a7 wk.length c7] 42)
            refine ⟨k + 1, zs ++ [Value.slice a7 wk.length c7], by omega, by go_num, by simp; omega, by rw [List.length_append]; exact hown8, fun j hjl => ?_, (HB3.out.alloc (by omega) _).grown hg8 (by simp; omega) (fun q hq => (hR.lt q hq).1)⟩
            by_cases hjk : j < k
            · rw [getD_left zs _ j (by omega)]
              have h1 := (HE3.out j hjk).alloc (.cells #[Value.slice a7 wk.length c7] 42)
              exact h1.kept hg8 (own_ne h1 hR (by decide))
            · have ej : j = zs.length := by omega
              have e2 : (zs ++ [Value.slice a7 wk.length c7]).getD j (.bool false) = Value.slice a7 wk.length c7 := by rw [ej]; exact getD_last zs _
              rw [e2]
              exact HLK.out j hjl _ _ (hO.kept hg8 (own_ne hO hR (by decide))) (by omega)
          case measure => simp only [intOf]; omega
    · obtain rfl : k = L.length := by omega
      have HVO : Hid (VisOwn W1 w2.heap.size _ VM) := ⟨zs, by rw [HVM.out, List.length_map]; exact hzl, hown, fun j hjl => by
        rw [HVM.out] at hjl ⊢
        rw [List.length_map] at hjl
        have e : (L.map (visL C)).getD j [] = visL C (L.getD j []) := by rw [List.getD_eq_getElem?_getD, List.getElem?_map, List.getD_eq_getElem?_getD, List.getElem?_eq_getElem hjl]; rfl
        rw [e]
        exact heach.out j hjl⟩
      have HBW : Hid (Below w2.heap.size w2 W1) := hb
      clear hown heach
      go_wp2
      go_loopw [10, 11] (fun v10 v11 ws => ∃ i : Nat, i ≤ C.length ∧ v11 = .int .i64 i ∧ ws.ownsRow W1.heap.size 4 1 v10 i (bools (plusM (C.take i))) ∧ Below W1.heap.size W1 ws) (fun _ v11 _ => C.length - (intOf v11).toNat)
      case atStart => exact ⟨0, Nat.zero_le _, rfl, World.ownsRow_nil _ _ _ _, Below.refl _ _⟩
      case round =>
        clear hb
        rename World => W3
        obtain ⟨i, hin, rfl, hrow, hb⟩ := hrel
        have hszY := hb.size
        have HB23 : Hid (Below w2.heap.size w2 W3) := HBW.out.trans (hb.mono hszW)
        have g0 := (HB23.out.block _ (by omega)).trans HT2.out
        have p0 : W3.cell? ⟨w.heap.size, 0, none⟩ = some (.slice a C.length cap) := block_cell g0 rfl
        have hw3 : w.heap.size < W3.heap.size := by omega
        clear g0
        obtain ⟨a7, c7, rfl⟩ := own_capS hrow
        by_cases hil : i < C.length
        · obtain ⟨b, off, ea, hbq, hC⟩ := crs_some HD2.out (by omega)
          subst ea
          obtain ⟨-, -, -, -, c4⟩ := (hC.on HB23.out hbq) i hil
          have hb3 : b < W3.heap.size := by omega
          have HTK : Hid (plusM (C.take (i + 1)) = plusM (C.take i) ++ [(C.getD i Cr.none).plus]) := (by
            have e2 : C.take (i + 1) = C.take i ++ [C.getD i Cr.none] := by
              rw [List.take_add_one, List.getD_eq_getElem?_getD, List.getElem?_eq_getElem hil]
              rfl
            rw [e2]
            simp [plusM] : plusM (C.take (i + 1)) = plusM (C.take i) ++ [(C.getD i Cr.none).plus])
          generalize (C.getD i Cr.none).plus = pb at c4 HTK
          have HRX : Hid (W3.ownsRow W1.heap.size 4 1 (.slice a7 i c7) i (bools (plusM (C.take i)))) := hrow
          clear hC hrow
          go_wp2_with (first
            | (at_builtin; refine wpList_append_own _ rfl _ _ 31 rfl W1.heap.size 4 i2 (.bool false) 1 1 Try.underlying31 hk hx0 hx1 hx2 rfl (by decide) _ _ _ rfl (HRX.out.alloc _) ⟨W3.heap.size, 0, none⟩ 1 1 [.bool pb] rfl rfl (new_cell1 _ _ _) (fun u hu => by simp only [List.mem_singleton] at hu; subst hu; rfl) (by unfold maxLen; omega) (by omega) (by simp; omega) ?_; intro v8 w8 hown8 hg8 _; go_frame))
          go_roundw
          case rel =>
            have hR := HRX.out.alloc (.cells #[.bool pb] 4)
            exact ⟨i + 1, by omega, by go_num, by rw [HTK.out]; simpa [bools] using hown8, (hb.alloc hszY _).grown hg8 (by simp; omega) (fun q hq => (hR.lt q hq).1)⟩
          case measure => simp only [intOf]; omega
        · obtain rfl : i = C.length := by omega
          rw [List.take_length] at hrow
          have hpl : (plusM C).length = C.length := by simp [plusM]
          go_wp2
          go_ret2
          exact ⟨_, _, rfl, (HVO.out.any (grown_below hb none)).low (by omega), by rw [hpl]; exact own_low hrow (by omega), HB2.out.trans (HB23.out.mono HB2.out.size)⟩
end Go.Proofs.Ytmggackacaobjaa

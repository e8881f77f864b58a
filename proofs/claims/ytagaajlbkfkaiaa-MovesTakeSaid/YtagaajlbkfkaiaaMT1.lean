/- The walk of ref.takenOut. Made by genmt1.py. -/
import Derived.Test.YtagaajlbkfkaiaaF4P
import Derived.Test.YtagaajlbkfkaiaaJ8
import Derived.Test.YtagaajlbkfkaiaaW11P
import Derived.Test.YtagaajlbkfkaiaaMV5P
import Derived.Deep.RegionHeld
namespace Go.Proofs.Ytagaajlbkfkaiaa
open Go.RowKit

theorem tkE_len (C : List Cr) (G : List Nat) : (tkE C G).length = 2 * G.length := by
  unfold tkE
  induction G with
  | nil => rfl
  | cons g r ih => simp only [List.flatMap_cons, List.length_append, List.length_cons, List.length_nil] at ih ⊢; omega
theorem tkE_at (C : List Cr) : ∀ (G : List Nat) (i k : Nat), i < G.length → k < 2 → (tkE C G)[2 * i + k]? = some (((C.getD (G.getD i 0) Cr.none).arc k).toNat, ((C.getD (G.getD i 0) Cr.none).arc (k + 2)).toNat)
  | [], i, k, hi, _ => by simp at hi
  | g :: r, 0, k, _, hk => by
    match k, hk with
    | 0, _ => rfl
    | 1, _ => rfl
  | g :: r, i + 1, k, hi, hk => by
    have h := tkE_at C r i k (by simpa using hi) hk
    have e : tkE C (g :: r) = [(((C.getD g Cr.none).arc 0).toNat, ((C.getD g Cr.none).arc 2).toNat), (((C.getD g Cr.none).arc 1).toNat, ((C.getD g Cr.none).arc 3).toNat)] ++ tkE C r := rfl
    rw [e, List.getElem?_append_right (by simp; omega)]
    have e2 : 2 * (i + 1) + k - 2 = 2 * i + k := by omega
    have e3 : (g :: r).getD (i + 1) 0 = r.getD i 0 := by simp [List.getD_eq_getElem?_getD]
    simp only [List.length_cons, List.length_nil, Nat.zero_add] at *
    rw [e2, e3]
    exact h
theorem tk_next (C : List Cr) (G V : List Nat) (i k : Nat) (hi : i < G.length) (hk : k < 2) : levs V ((tkE C G).take (2 * i + (k + 1))) = lev (levs V ((tkE C G).take (2 * i + k))) ((C.getD (G.getD i 0) Cr.none).arc k).toNat ((C.getD (G.getD i 0) Cr.none).arc (k + 2)).toNat := by
  rw [← Nat.add_assoc, List.take_add_one, tkE_at C G i k hi hk, levs_app]
  rfl
theorem within_is (bG cG : Nat) (G : List Nat) (i : Nat) (w : World) (hG1 : G.length ≤ 16) (hG : GonAt w bG G) :
    Calls Try.prog 66 #[.slice (some ⟨bG, 0, none⟩) G.length cG, .int .i64 (i : Nat)] w fun e w' => e = .returned (.bool (decide (i ∈ G))) ∧ Below w.heap.size w w' := by
  have h := within_any (.slice (some ⟨bG, 0, none⟩) G.length cG) G (i : Nat) w (by omega) ⟨some ⟨bG, 0, none⟩, cG, by rw [nats_len], fun h0 => ⟨bG, 0, rfl, hG.1, fun j hj => by
    rw [nats_len] at hj
    rw [hG.2 j hj]
    simp [nats, List.getD_eq_getElem?_getD, hj]⟩⟩
  have e : wi G (i : Int) = decide (i ∈ G) := by rw [Bool.eq_iff_iff, wi_iff]; simp
  rw [e] at h
  exact h

set_option maxHeartbeats 32000000 in
set_option maxRecDepth 100000 in
theorem takenOut_any (a : Option Addr) (cap : Nat) (C : List Cr) (loops : Int) (bG cG : Nat) (G : List Nat) (w : World) (hm : mayD C loops = true) (hC0 : 0 < C.length) (hG1 : G.length ≤ 16) (hG2 : ∀ g, g ∈ G → g < C.length) (hGA : GonAt w bG G) (hD : Crs w w.heap.size (.slice a C.length cap) C) :
    Calls Try.prog 36 #[.agg #[.slice a C.length cap, .int .i64 loops], .slice (some ⟨bG, 0, none⟩) G.length cG] w fun e w' => ∃ v, e = .returned (.agg #[v, .int .i64 (loops + (cntB (nfB (uniM C (nx C) G) (thG C G (uniM C (nx C) G) C.length 0)) (2 * C.length + 1) : Nat))]) ∧ w'.ownsRow w.heap.size 71 5 v (reTo C G (numM (uniM C (nx C) G) (thG C G (uniM C (nx C) G) C.length 0)) C.length).length (crossCells (reTo C G (numM (uniM C (nx C) G) (thG C G (uniM C (nx C) G) C.length 0)) C.length)) ∧ Below w.heap.size w w' := by
  obtain ⟨s1, l0, l16, -⟩ := sizeB_iff (may_size hm)
  obtain ⟨i2, hki, hx0, hx1, hx2⟩ := info_parts infoInt
  obtain ⟨i3, hj, hy0, hy1, hy2⟩ := info_parts infoBool
  obtain ⟨i0, hi, hz0, hz1, hz2⟩ := info_parts infoCross
  obtain ⟨b, off, ea, hbw, hC⟩ := crs_some hD (by omega)
  subst ea
  have HM : Hid (mayD C loops = true) := hm
  have HC : Hid (CrossAt w b off C) := hC
  have HGA := hid_of hGA
  have HG2 := hid_of hG2
  have HWN : Hid (∀ (i : Nat) (W : World), Below w.heap.size w W → Calls Try.prog 66 #[.slice (some ⟨bG, 0, none⟩) G.length cG, .int .i64 (i : Nat)] W fun e w' => e = .returned (.bool (decide (i ∈ G))) ∧ Below W.heap.size W w') := fun i W hW => within_is bG cG G i W hG1 (HGA.out.on hW)
  have HSL : Hid (levR (List.range (2 * C.length + 1)) (tkE C G) (2 * C.length + 1) = uniM C (nx C) G) := take_levels hm G hG2
  have HLS : Hid (Least (uTo C (nx C) G (2 * C.length)) (2 * C.length + 1) (uniM C (nx C) G)) := uni_least (nx_goes hm).closed
  have HLP : Hid (∀ v, 1 ≤ v → v < 2 * C.length + 1 → 1 ≤ (uniM C (nx C) G).getD v 0) := fun v h1 h2 => HLS.out.pos (fun e he => ⟨(uTo_lt (nx_goes HM.out).closed e he).1.1, (uTo_lt (nx_goes HM.out).closed e he).2.1⟩) h2 h1
  obtain ⟨N, hN⟩ : ∃ N, N = 2 * C.length + 1 := ⟨_, rfl⟩
  have HN : Hid (N = 2 * C.length + 1) := hN
  have hN1 : 1 ≤ N := by omega
  have hN2 : N ≤ 33 := by omega
  have qN : 2 * (C.length : Int) + 1 = (N : Int) := by omega
  have qW1 : IntKind.i64.wrap (2 * (C.length : Int)) = 2 * (C.length : Int) := IntWalk.i64_in _ (by omega)
  have qW2 : IntKind.i64.wrap (2 * (C.length : Int) + 1) = 2 * (C.length : Int) + 1 := IntWalk.i64_in _ (by omega)
  rw [← hN] at HSL HLS HLP ⊢
  obtain ⟨L, hL⟩ : ∃ L, uniM C (nx C) G = L := ⟨_, rfl⟩
  rw [hL] at HSL HLS HLP ⊢
  have HLL : Hid (L.length = N) := HLS.out.1
  clear hN hm hC hD hL hGA hG2 hC0
  obtain ⟨w0, hw0⟩ : ∃ w0, w0 = (w.alloc (.cells #[.slice (some ⟨b, off, none⟩) C.length cap, .int .i64 loops] 24)).alloc (.cells #[.slice none 0 0, .int .i64 0] 24) := ⟨_, rfl⟩
  have HW0 : Hid (w0 = (w.alloc (.cells #[.slice (some ⟨b, off, none⟩) C.length cap, .int .i64 loops] 24)).alloc (.cells #[.slice none 0 0, .int .i64 0] 24)) := hw0
  have HS0 : Hid (w0.heap.size = w.heap.size + 2) := (by rw [hw0]; simp : w0.heap.size = w.heap.size + 2)
  have HB0 : Hid (Below w.heap.size w w0) := (by rw [hw0]; exact below2 _ _ _ : Below w.heap.size w w0)
  have HT0 : Hid (w0.heap[w.heap.size]? = some (.cells #[.slice (some ⟨b, off, none⟩) C.length cap, .int .i64 loops] 24 (0, 0))) := (by rw [hw0]; exact alloc_old (alloc_at rfl) : w0.heap[w.heap.size]? = some (.cells #[.slice (some ⟨b, off, none⟩) C.length cap, .int .i64 loops] 24 (0, 0)))
  have HT1 : Hid (w0.heap[w.heap.size + 1]? = some (.cells #[.slice none 0 0, .int .i64 0] 24 (0, 0))) := (by rw [hw0]; exact alloc_at (by simp) : w0.heap[w.heap.size + 1]? = some (.cells #[.slice none 0 0, .int .i64 0] 24 (0, 0)))
  clear hw0
  have u0 : w0.cell? ⟨w.heap.size, 0, none⟩ = some (.slice (some ⟨b, off, none⟩) C.length cap) := block_cell HT0.out rfl
  have lw' : w.heap.size < w0.heap.size := by have := HS0.out; omega
  have HDW : Hid (Below w0.heap.size w0 w0) := Below.refl _ _
  go_enter Try.func36, Try.ntmps36
  go_upto_region 1 with (fail)
  rw [← HW0.out]
  go_wp2_with (first | (at_make; refine wpList_make_full _ rfl _ _ 46 rfl (w.heap.size + 2) 3 i2 (.int .i64 0) 1 Try.underlying46 hki hx0 hx1 .i64 .i64 _ _ N rfl rfl rfl rfl (by rw [hx2]; omega) (by unfold maxLen; omega) (by have := HDW.out.size; have := HS0.out; omega) ?_; intro w1 hrow hg1; refine Hid.out ?_))
  refine Lib.hid ?_
  rw [made_zeroN, labTo_zero] at hrow
  obtain ⟨gW, hgW⟩ : ∃ g, w0.heap.size = g := ⟨_, rfl⟩
  rw [hgW] at hrow ⊢
  have HP0 : Hid (SmAt w N gW #[.slice (some ⟨b, off, none⟩) C.length cap, .int .i64 loops] (labTo N 0) w1) := (by
    have h3 := HS0.out
    have h4 := HDW.out.size
    have hz := hg1.size
    exact ⟨(hg1.block _ (by omega) (by simp)).trans ((HDW.out.block _ (by omega)).trans HT0.out), (hg1.block _ (by omega) (by simp)).trans ((HDW.out.block _ (by omega)).trans HT1.out), hrow, (HB0.out.trans (HDW.out.mono (by omega))).grown hg1 (by omega) (fun q hq => by cases hq)⟩ : SmAt w N gW #[.slice (some ⟨b, off, none⟩) C.length cap, .int .i64 loops] (labTo N 0) w1)
  clear hrow hg1 hgW HDW u0 HT0 HT1 HB0 HW0 HS0
  go_wp2
  go_loopw [7] (fun v12 wr => ∃ i : Nat, i ≤ N ∧ v12 = .int .i64 (i : Nat) ∧ Hid (SmAt w N gW #[.slice (some ⟨b, off, none⟩) C.length cap, .int .i64 loops] (labTo N i) wr)) (fun v12 _ => N - (intOf v12).toNat)
  case atStart => exact ⟨0, Nat.zero_le _, rfl, HP0.out⟩
  case round =>
    clear HP0
    rename World => W1
    obtain ⟨i, hin, rfl, hp⟩ := hrel
    have hlt := hp.out.lt.2
    by_cases hil : i < N
    · have HST : Hid (SmAt w N gW #[.slice (some ⟨b, off, none⟩) C.length cap, .int .i64 loops] (labTo N (i + 1)) (W1.setCell ⟨gW, i, none⟩ (.int .i64 (i : Nat)))) := hp.out.set (labTo_next N i)
      have e0 := hp.out.at_ (by simp [labTo]) i hil
      have z0 : W1.frozen? ⟨gW, i, none⟩ = false := hp.out.row.frozenAt i
      have hdi : (i : Int) ≤ 2 * (C.length : Int) := by omega
      generalize (labTo N i).getD i 0 = u at e0
      go_wp2
      go_roundw
      case rel => exact ⟨i + 1, by omega, by go_num, HST.out⟩
      case measure => simp only [intOf]; omega
    · obtain rfl : N = i := by omega
      have HP1 : Hid (SmAt w N gW #[.slice (some ⟨b, off, none⟩) C.length cap, .int .i64 loops] (levR (List.range N) (tkE C G) 0) W1) := (by have h := hp.out; rw [labTo_all] at h; exact h : SmAt w N gW #[.slice (some ⟨b, off, none⟩) C.length cap, .int .i64 loops] (levR (List.range N) (tkE C G) 0) W1)
      have hdn : decide ((N : Int) ≤ 2 * (C.length : Int)) = false := by simp; omega
      clear hp hlt
      go_wp2
      go_loopw [8] (fun v13 wr => ∃ r : Nat, r ≤ N ∧ v13 = .int .i64 (r : Nat) ∧ Hid (SmAt w N gW #[.slice (some ⟨b, off, none⟩) C.length cap, .int .i64 loops] (levR (List.range N) (tkE C G) r) wr)) (fun v13 _ => N - (intOf v13).toNat)
      case atStart => exact ⟨0, by omega, rfl, HP1.out⟩
      case round =>
        clear HP1
        rename World => W2
        obtain ⟨r, hr3, rfl, hp⟩ := hrel
        by_cases hrl : r < N
        · have hdr : (r : Int) ≤ 2 * (C.length : Int) := by omega
          have HRN : Hid (levR (List.range N) (tkE C G) (r + 1) = levs (levR (List.range N) (tkE C G) r) (tkE C G)) := (rfl : levR (List.range N) (tkE C G) (r + 1) = _)
          generalize levR (List.range N) (tkE C G) r = V at HRN hp
          have HI0 : Hid (SmAt w N gW #[.slice (some ⟨b, off, none⟩) C.length cap, .int .i64 loops] (levs V ((tkE C G).take (2 * 0))) W2) := (by have h := hp.out; exact h : SmAt w N gW #[.slice (some ⟨b, off, none⟩) C.length cap, .int .i64 loops] (levs V ((tkE C G).take (2 * 0))) W2)
          clear hp
          go_wp2
          go_loopw [9] (fun v9 wr => ∃ i : Nat, i ≤ G.length ∧ v9 = .int .i64 (i : Nat) ∧ Hid (SmAt w N gW #[.slice (some ⟨b, off, none⟩) C.length cap, .int .i64 loops] (levs V ((tkE C G).take (2 * i))) wr)) (fun v9 _ => G.length - (intOf v9).toNat)
          case atStart => exact ⟨0, by omega, rfl, HI0.out⟩
          case round =>
            clear HI0
            rename World => W3
            obtain ⟨i, hig, rfl, hp⟩ := hrel
            by_cases hil : i < G.length
            · have hdi : (i : Int) < (G.length : Int) := by omega
              have HK0 : Hid (SmAt w N gW #[.slice (some ⟨b, off, none⟩) C.length cap, .int .i64 loops] (levs V ((tkE C G).take (2 * i + 0))) W3) := hp.out
              clear hp
              go_wp2
              go_loopw [10] (fun v10 wr => ∃ k : Nat, k ≤ 2 ∧ v10 = .int .i64 (k : Nat) ∧ Hid (SmAt w N gW #[.slice (some ⟨b, off, none⟩) C.length cap, .int .i64 loops] (levs V ((tkE C G).take (2 * i + k))) wr)) (fun v10 _ => 2 - (intOf v10).toNat)
              case atStart => exact ⟨0, by omega, rfl, HK0.out⟩
              case round =>
                clear HK0
                rename World => W4
                obtain ⟨k, hk2, rfl, hp⟩ := hrel
                by_cases hkl : k < 2
                · have hdk : (k : Int) < 2 := by omega
                  obtain ⟨g, hgi⟩ : ∃ g, G.getD i 0 = g := ⟨_, rfl⟩
                  have HGI := hid_of hgi
                  have HGL : Hid (g < C.length) := (by rw [← hgi]; exact HG2.out _ (by rw [List.getD_eq_getElem?_getD, List.getElem?_eq_getElem hil]; exact List.getElem_mem hil) : g < C.length)
                  have HTK : Hid (levs V ((tkE C G).take (2 * i + (k + 1))) = lev (levs V ((tkE C G).take (2 * i + k))) ((C.getD g Cr.none).arc k).toNat ((C.getD g Cr.none).arc (k + 2)).toNat) := (by rw [← hgi]; exact tk_next C G V i k hil hkl : levs V ((tkE C G).take (2 * i + (k + 1))) = _)
                  have hf1 := may_fit HM.out g k HGL.out (by omega)
                  have hf2 := may_fit HM.out g (k + 2) HGL.out (by omega)
                  have ff1 := hf1.1
                  have ff2 := hf1.2.1
                  have ff3 := hf2.1
                  have ff4 := hf2.2.1
                  obtain ⟨x1, hx1'⟩ : ∃ z : Nat, (C.getD g Cr.none).arc k = (z : Int) := ⟨((C.getD g Cr.none).arc k).toNat, by omega⟩
                  obtain ⟨k2, hk2'⟩ : ∃ k2, k + 2 = k2 := ⟨_, rfl⟩
                  rw [hk2'] at ff3 ff4 HTK
                  obtain ⟨x2, hx2'⟩ : ∃ z : Nat, (C.getD g Cr.none).arc k2 = (z : Int) := ⟨((C.getD g Cr.none).arc k2).toNat, by omega⟩
                  have lx1 : x1 < N := by omega
                  have lx2 : x2 < N := by omega
                  rw [hx1', hx2', Int.toNat_natCast, Int.toNat_natCast] at HTK
                  have wk2 : IntKind.i64.wrap ((k : Int) + 2) = (k2 : Int) := by rw [IntWalk.i64_in _ (by omega)]; omega
                  have HBL : Hid (Below w.heap.size w W4) := hp.out.bel
                  have HSV : Hid (∀ W, Below W4.heap.size W4 W → (fun X : World => X.cell? ⟨w.heap.size, 0, none⟩ = some (.slice (some ⟨b, off, none⟩) C.length cap) ∧ X.cell? ⟨w.heap.size, 1, none⟩ = some (.int .i64 loops) ∧ X.cell? ⟨bG, i, none⟩ = some (.int .i64 (g : Nat))) W) := fun W hW => by
                    have k0 := (hW.block _ (Array.getElem?_eq_some_iff.1 hp.out.box).1).trans hp.out.box
                    have h1 := HGA.out.on (HBL.out.trans (hW.mono HBL.out.size))
                    have h2 := h1.2 i hil
                    rw [Nat.zero_add, hgi] at h2
                    exact ⟨block_cell k0 rfl, block_cell k0 rfl, h2⟩
                  have HCV : Hid (∀ W, Below W4.heap.size W4 W → CrossAt W b off C ∧ b < W.heap.size) := fun W hW => by
                    have h := HBL.out.trans (hW.mono HBL.out.size)
                    exact ⟨HC.out.on h hbw, Nat.lt_of_lt_of_le hbw h.size⟩
                  have HA1 : Hid (∀ W, Below W4.heap.size W4 W → Calls Try.prog 60 #[.agg #[.slice (some ⟨b, off, none⟩) C.length cap, .int .i64 loops], .agg #[.int .i64 (g : Nat), .int .i64 (k : Nat)]] W fun e w' => e = .returned (.int .i64 (x1 : Nat)) ∧ Below W.heap.size W w') := fun W hW => by
                    have h := arcAt_any b off cap loops C g k W HGL.out (by omega) (HCV.out W hW).2 (HCV.out W hW).1
                    rw [hx1'] at h
                    exact h
                  have HA2 : Hid (∀ W, Below W4.heap.size W4 W → Calls Try.prog 60 #[.agg #[.slice (some ⟨b, off, none⟩) C.length cap, .int .i64 loops], .agg #[.int .i64 (g : Nat), .int .i64 (k2 : Nat)]] W fun e w' => e = .returned (.int .i64 (x2 : Nat)) ∧ Below W.heap.size W w') := fun W hW => by
                    have h := arcAt_any b off cap loops C g k2 W HGL.out (by omega) (HCV.out W hW).2 (HCV.out W hW).1
                    rw [hx2'] at h
                    exact h
                  have HDW : Hid (Below W4.heap.size W4 W4.drew) := (Below.refl _ _).drew
                  have HPV := hid_of hp.out
                  have hbG := HGA.out.1
                  have lbG : bG < W4.heap.size := Nat.lt_of_lt_of_le hbG HBL.out.size
                  have hdi0 : (0 : Int) ≤ (i : Int) := by omega
                  generalize levs V ((tkE C G).take (2 * i + k)) = V1 at HTK HPV
                  clear hp ff1 ff2 ff3 ff4 hx1' hx2' hk2' hgi hf1 hf2 hbG
                  go_wp2
                  refine wp_region_held_drew (S := fun X : World => X.cell? ⟨w.heap.size, 0, none⟩ = some (.slice (some ⟨b, off, none⟩) C.length cap) ∧ X.cell? ⟨w.heap.size, 1, none⟩ = some (.int .i64 loops) ∧ X.cell? ⟨bG, i, none⟩ = some (.int .i64 (g : Nat))) (by kernel_rfl) (HSV.out _ HDW.out) (fun hHeld => ?_)
                  refine wpAnyH_take (i := 0) (v := ?vvu1) rfl (by kernel_rfl) (by kernel_rfl) (by kernel_rfl) (fun _ _ _ h => h) (Or.inl ⟨by rfl, ?yyu1⟩) (by assumption) ?rru1
                  case yyu1 => (intro w hSw; (try dsimp only at hSw); go_simp; (try with_reducible rfl))
                  try simp only [Act.put]
                  refine wpAnyH_take (i := 1) (v := ?vvu2) rfl (by kernel_rfl) (by kernel_rfl) (by kernel_rfl) (fun _ _ _ h => h) (Or.inl ⟨by rfl, ?yyu2⟩) (by assumption) ?rru2
                  case yyu2 => (intro w hSw; (try dsimp only at hSw); go_simp; (try with_reducible rfl))
                  try simp only [Act.put]
                  refine wpAnyH_take (i := 2) (v := ?vvu3) rfl (by kernel_rfl) (by kernel_rfl) (by kernel_rfl) (fun _ _ _ h => h) (Or.inl ⟨by rfl, ?yyu3⟩) (by assumption) ?rru3
                  case yyu3 => (intro w hSw; (try dsimp only at hSw); go_simp; (try with_reducible rfl))
                  try simp only [Act.put]
                  refine wpAnyH_take (i := 3) (v := ?vvu4) rfl (by kernel_rfl) (by kernel_rfl) (by kernel_rfl) (fun _ _ _ h => h) (Or.inl ⟨by rfl, ?yyu4⟩) (by assumption) ?rru4
                  case yyu4 => (intro w hSw; (try dsimp only at hSw); go_simp; (try with_reducible rfl))
                  try simp only [Act.put]
                  refine wpAnyH_take (i := 4) (v := ?vvu5) rfl (by kernel_rfl) (by kernel_rfl) (by kernel_rfl) (fun _ _ _ h => h) (Or.inl ⟨by rfl, ?yyu5⟩) (by assumption) ?rru5
                  case yyu5 => (intro w hSw; (try dsimp only at hSw); go_simp; (try with_reducible rfl))
                  try simp only [Act.put]
                  refine wpAnyH_take (i := 5) (v := ?vvu6) rfl (by kernel_rfl) (by kernel_rfl) (by kernel_rfl) (fun _ _ _ h => h) (Or.inl ⟨by rfl, ?yyu6⟩) (by assumption) ?rru6
                  case yyu6 => (intro w hSw; (try dsimp only at hSw); go_simp; (try with_reducible rfl))
                  try simp only [Act.put]
                  refine wpAnyH_take (i := 6) (v := ?vvu7) rfl (by kernel_rfl) (by kernel_rfl) (by kernel_rfl) (fun _ _ _ h => h) (Or.inl ⟨by rfl, ?yyu7⟩) (by assumption) ?rru7
                  case yyu7 => (intro w hSw; (try dsimp only at hSw); go_simp; (try with_reducible rfl))
                  try simp only [Act.put]
                  refine wpAnyH_take (i := 7) (v := ?vvu8) rfl (by kernel_rfl) (by kernel_rfl) (by kernel_rfl) (fun _ _ _ h => h) (Or.inl ⟨by rfl, ?yyu8⟩) (by assumption) ?rru8
                  case yyu8 => (intro w hSw; (try dsimp only at hSw); go_simp; (try with_reducible rfl))
                  try simp only [Act.put]
                  refine wpAnyH_take (i := 9) (v := ?vvu9) rfl (by kernel_rfl) (by kernel_rfl) (by kernel_rfl) (fun _ _ _ h => h) (Or.inl ⟨by rfl, ?yyu9⟩) (by assumption) ?rru9
                  case yyu9 => (intro w hSw; (try dsimp only at hSw); go_simp; (try with_reducible rfl))
                  try simp only [Act.put]
                  refine wpAnyH_take (i := 10) (v := ?vvu10) rfl (by kernel_rfl) (by kernel_rfl) (by kernel_rfl) (fun _ _ _ h => h) (Or.inl ⟨by rfl, ?yyu10⟩) (by assumption) ?rru10
                  case yyu10 => (intro w hSw; (try dsimp only at hSw); go_simp; (try with_reducible rfl))
                  try simp only [Act.put]
                  refine wpAnyH_take (i := 11) (v := ?vvu11) rfl (by kernel_rfl) (by kernel_rfl) (by kernel_rfl) (fun _ _ _ h => h) (Or.inl ⟨by rfl, ?yyu11⟩) (by assumption) ?rru11
                  case yyu11 => (intro w hSw; (try dsimp only at hSw); go_simp; (try with_reducible rfl))
                  try simp only [Act.put]
                  refine wpAnyH_take (i := 12) (v := ?vvu12) rfl (by kernel_rfl) (by kernel_rfl) (by kernel_rfl) (fun _ _ _ h => h) (Or.inl ⟨by rfl, ?yyu12⟩) (by assumption) ?rru12
                  case yyu12 => (intro w hSw; (try dsimp only at hSw); go_simp; (try with_reducible rfl))
                  try simp only [Act.put]
                  refine wpAnyH_take (i := 13) (v := ?vvu13) rfl (by kernel_rfl) (by kernel_rfl) (by kernel_rfl) (fun _ _ _ h => h) (Or.inl ⟨by rfl, ?yyu13⟩) (by assumption) ?rru13
                  case yyu13 => (intro w hSw; (try dsimp only at hSw); go_simp; (try with_reducible rfl))
                  try simp only [Act.put]
                  refine wpAnyH_take (i := 14) (v := ?vvu14) rfl (by kernel_rfl) (by kernel_rfl) (by kernel_rfl) (fun _ _ _ h => h) (Or.inl ⟨by rfl, ?yyu14⟩) (by assumption) ?rru14
                  case yyu14 => (intro w hSw; (try dsimp only at hSw); go_simp; (try with_reducible rfl))
                  try simp only [Act.put]
                  refine wpAnyH_take (i := 15) (v := ?vvu15) rfl (by kernel_rfl) (by kernel_rfl) (by kernel_rfl) (fun _ _ _ h => h) (Or.inl ⟨by rfl, ?yyu15⟩) (by assumption) ?rru15
                  case yyu15 => (intro w hSw; (try dsimp only at hSw); go_simp; (try with_reducible rfl))
                  try simp only [Act.put]
                  refine wpAnyH_take (i := 16) (v := ?vvu16) rfl (by kernel_rfl) (by kernel_rfl) (by kernel_rfl) (fun _ _ _ h => h) (Or.inl ⟨by rfl, ?yyu16⟩) (by assumption) ?rru16
                  case yyu16 => (intro w hSw; (try dsimp only at hSw); go_simp; (try with_reducible rfl))
                  try simp only [Act.put]
                  refine wpAnyH_ready (rs := [8]) (by kernel_rfl) (by simp) ?_
                  refine AllReadyH.cons rfl (fun K hK => ?_) AllReadyH.nil
                  go_simp
                  go_wp2_with (go_at_call 60; refine (HA1.out _ HDW.out).mono ?_; rintro e9 w5 ⟨rfl, hb5⟩)
                  have HB5 := hid_of (HDW.out.trans (hb5.mono HDW.out.size))
                  clear hb5
                  refine hK.out _ _ (HSV.out _ HB5.out) (fun hHeld => ?_)
                  clear hK K
                  try simp only [Act.put]
                  refine wpAnyH_ready (rs := [17]) (by kernel_rfl) (by simp) ?_
                  refine AllReadyH.cons rfl (fun K hK => ?_) AllReadyH.nil
                  go_simp
                  go_wp2_with (go_at_call 60; refine (HA2.out _ HB5.out).mono ?_; rintro e9 w6 ⟨rfl, hb6⟩)
                  have HB6 := hid_of (HB5.out.trans (hb6.mono HB5.out.size))
                  clear hb6
                  refine hK.out _ _ (HSV.out _ HB6.out) (fun hHeld => ?_)
                  clear hK K
                  try simp only [Act.put]
                  have HPW : Hid (SmAt w N gW #[.slice (some ⟨b, off, none⟩) C.length cap, .int .i64 loops] V1 w6) := HPV.out.on HB6.out
                  refine wpAnyH_ready (rs := [18]) (by kernel_rfl) (by simp) ?_
                  refine AllReadyH.cons rfl (fun K hK => ?_) AllReadyH.nil
                  go_simp
                  go_wp2_with (go_at_call 65; refine (level_any (w.heap.size + 2) gW N N x1 x2 V1 _ lx1 lx2 HPW.out.row).mono ?_; rintro e9 w7 ⟨rfl, hr7, hg7⟩)
                  have HLB : Hid (SmAt w N gW #[.slice (some ⟨b, off, none⟩) C.length cap, .int .i64 loops] (lev V1 x1 x2) w7) := HPW.out.to hg7 hr7
                  have HS7 : Hid ((fun X : World => X.cell? ⟨w.heap.size, 0, none⟩ = some (.slice (some ⟨b, off, none⟩) C.length cap) ∧ X.cell? ⟨w.heap.size, 1, none⟩ = some (.int .i64 loops) ∧ X.cell? ⟨bG, i, none⟩ = some (.int .i64 (g : Nat))) w7) := (by
                    have k0 := HLB.out.box
                    have h1 := HGA.out.on HLB.out.bel
                    have h2 := h1.2 i hil
                    rw [Nat.zero_add, HGI.out] at h2
                    exact ⟨block_cell k0 rfl, block_cell k0 rfl, h2⟩ : (fun X : World => X.cell? ⟨w.heap.size, 0, none⟩ = some (.slice (some ⟨b, off, none⟩) C.length cap) ∧ X.cell? ⟨w.heap.size, 1, none⟩ = some (.int .i64 loops) ∧ X.cell? ⟨bG, i, none⟩ = some (.int .i64 (g : Nat))) w7)
                  clear hr7 hg7
                  refine hK.out _ _ (HS7.out) (fun hHeld => ?_)
                  clear hK K
                  try simp only [Act.put]
                  refine wpAnyH_done (by kernel_rfl) ?_ _
                  clear hHeld
                  have HLX : Hid (SmAt w N gW #[.slice (some ⟨b, off, none⟩) C.length cap, .int .i64 loops] (levs V ((tkE C G).take (2 * i + (k + 1)))) w7) := (by rw [HTK.out]; exact HLB.out : SmAt w N gW #[.slice (some ⟨b, off, none⟩) C.length cap, .int .i64 loops] (levs V ((tkE C G).take (2 * i + (k + 1)))) w7)
                  clear HLB HSV HCV
                  go_wp2
                  go_roundw
                  case rel => exact ⟨k + 1, by omega, by go_num, HLX.out⟩
                  case measure => simp only [intOf]; omega
                · obtain rfl : k = 2 := by omega
                  have HNX : Hid (SmAt w N gW #[.slice (some ⟨b, off, none⟩) C.length cap, .int .i64 loops] (levs V ((tkE C G).take (2 * (i + 1)))) W4) := (by have h := hp.out; rw [show 2 * (i + 1) = 2 * i + 2 by omega]; exact h : SmAt w N gW #[.slice (some ⟨b, off, none⟩) C.length cap, .int .i64 loops] (levs V ((tkE C G).take (2 * (i + 1)))) W4)
                  have hdk : decide ((2 : Int) < 2) = false := by simp
                  clear hp
                  go_wp2
                  go_roundw
                  case rel => exact ⟨i + 1, by omega, by go_num, HNX.out⟩
                  case measure => simp only [intOf]; omega
            · obtain rfl : i = G.length := by omega
              have HNX : Hid (SmAt w N gW #[.slice (some ⟨b, off, none⟩) C.length cap, .int .i64 loops] (levR (List.range N) (tkE C G) (r + 1)) W3) := (by have h := hp.out; rw [List.take_of_length_le (by rw [tkE_len]; omega)] at h; rw [HRN.out]; exact h : SmAt w N gW #[.slice (some ⟨b, off, none⟩) C.length cap, .int .i64 loops] (levR (List.range N) (tkE C G) (r + 1)) W3)
              clear hp
              go_wp2
              go_roundw
              case rel => exact ⟨r + 1, by omega, by go_num, HNX.out⟩
              case measure => simp only [intOf]; omega
        · obtain rfl : N = r := by omega
          have HP3 : Hid (SmAt w N gW #[.slice (some ⟨b, off, none⟩) C.length cap, .int .i64 loops] L W2) := (by have h := hp.out; rw [HSL.out] at h; exact h : SmAt w N gW #[.slice (some ⟨b, off, none⟩) C.length cap, .int .i64 loops] L W2)
          have hsW := HP3.out.bel.size
          have hlW := HP3.out.lt
          have hdn3 : ¬ ((N : Int) ≤ 2 * (C.length : Int)) := by omega
          clear hp
          go_wp2_with (first | (at_make; refine wpList_make_full _ rfl _ _ 104 rfl W2.heap.size 4 i3 (.bool false) 1 Try.underlying104 hj hy0 hy1 .i64 .i64 _ _ N rfl rfl rfl rfl (by rw [hy2]; omega) (by unfold maxLen; omega) (by omega) ?_; intro w3 hrow hg3; refine Hid.out ?_))
          refine Lib.hid ?_
          rw [made_false, tgTo_zero C G L] at hrow
          have HA3 : Hid (SaAt w N gW W2.heap.size #[.slice (some ⟨b, off, none⟩) C.length cap, .int .i64 loops] L (tgTo C G L N 0 0) w3) := ⟨(hg3.block _ (Array.getElem?_eq_some_iff.1 HP3.out.box).1 (by simp)).trans HP3.out.box, (hg3.block _ (Array.getElem?_eq_some_iff.1 HP3.out.res).1 (by simp)).trans HP3.out.res, own_any HP3.out.row hg3, hrow, hlW.2, HP3.out.bel.grown hg3 HP3.out.bel.size (fun q hq => by cases hq)⟩
          obtain ⟨gS, hgS⟩ : ∃ g, W2.heap.size = g := ⟨_, rfl⟩
          rw [hgS] at HA3 ⊢
          clear hrow hg3 hgS HP3 hsW hlW
          have b1 : w3.cell? ⟨w.heap.size, 1, none⟩ = some (.int .i64 loops) := block_cell HA3.out.box rfl
          have lb3 : w.heap.size < w3.heap.size := (Array.getElem?_eq_some_iff.1 HA3.out.box).1
          have HC3 : Hid (∀ gD, gD = w3.heap.size → ScAt w N gW gS gD #[.slice (some ⟨b, off, none⟩) C.length cap, .int .i64 loops] L (tgTo C G L N 0 0) loops (w3.alloc (.cells #[.slice none 0 0, .int .i64 loops] 24))) := (by
            intro gD hgD
            exact ⟨HA3.out.on ((Below.refl _ _).alloc (Nat.le_refl _) _), alloc_at hgD, by rw [hgD]; exact HA3.out.ltS.2.2⟩ : ∀ gD, gD = w3.heap.size → ScAt w N gW gS gD #[.slice (some ⟨b, off, none⟩) C.length cap, .int .i64 loops] L (tgTo C G L N 0 0) loops (w3.alloc (.cells #[.slice none 0 0, .int .i64 loops] 24)))
          go_upto_region 19 with (fail)
          obtain ⟨gD, hgD⟩ : ∃ g, w3.heap.size = g := ⟨_, rfl⟩
          have HC4 : Hid (ScAt w N gW gS gD #[.slice (some ⟨b, off, none⟩) C.length cap, .int .i64 loops] L (tgTo C G L N 0 0) loops (w3.alloc (.cells #[.slice none 0 0, .int .i64 loops] 24))) := HC3.out gD hgD.symm
          rw [hgD]
          generalize w3.alloc (.cells #[.slice none 0 0, .int .i64 loops] 24) = W3 at HC4 ⊢
          clear HC3 HA3 b1 lb3 hgD
          go_wp2
          go_loopw [13] (fun v16 wr => ∃ i : Nat, i ≤ C.length ∧ v16 = .int .i64 (i : Nat) ∧ Hid (ScAt w N gW gS gD #[.slice (some ⟨b, off, none⟩) C.length cap, .int .i64 loops] L (tgTo C G L N i 0) loops wr)) (fun v16 _ => C.length - (intOf v16).toNat)
          case atStart => exact ⟨0, Nat.zero_le _, rfl, HC4.out⟩
          case round =>
            clear HC4
            rename World => W4
            obtain ⟨i, hin, rfl, hp⟩ := hrel
            have c0 : W4.cell? ⟨w.heap.size, 0, none⟩ = some (.slice (some ⟨b, off, none⟩) C.length cap) := block_cell hp.out.sa.box rfl
            have lc4 : w.heap.size < W4.heap.size := (Array.getElem?_eq_some_iff.1 hp.out.sa.box).1
            by_cases hil : i < C.length
            · have hdi : decide ((i : Int) < (C.length : Int)) = true := by simp; omega
              have hdi2 : decide (i < C.length) = true := by simp; omega
              by_cases hik : i ∈ G
              · have HST : Hid (ScAt w N gW gS gD #[.slice (some ⟨b, off, none⟩) C.length cap, .int .i64 loops] L (tgTo C G L N (i + 1) 0) loops W4) := (by rw [← tgTo_skip C G L N i hik]; exact hp.out : ScAt w N gW gS gD #[.slice (some ⟨b, off, none⟩) C.length cap, .int .i64 loops] L (tgTo C G L N (i + 1) 0) loops W4)
                have HWI := hid_of (HWN.out i W4 hp.out.sa.bel)
                rw [decide_eq_true hik] at HWI
                clear hik hp
                go_wp2_with (go_at_call 66; refine HWI.out.mono ?_; rintro e9 w9 ⟨rfl, hb9⟩; refine Hid.out ?_)
                refine Lib.hid ?_
                have HS9 : Hid (ScAt w N gW gS gD #[.slice (some ⟨b, off, none⟩) C.length cap, .int .i64 loops] L (tgTo C G L N (i + 1) 0) loops w9) := HST.out.on hb9
                clear HST hb9
                go_wp2
                go_roundw
                case rel => exact ⟨i + 1, by omega, by go_num, HS9.out⟩
                case measure => simp only [intOf]; omega
              · have HIK : Hid (i ∉ G) := hik
                have HWI := hid_of (HWN.out i W4 hp.out.sa.bel)
                rw [decide_eq_false hik] at HWI
                go_wp2_with (go_at_call 66; refine HWI.out.mono ?_; rintro e9 w9 ⟨rfl, hb9⟩; refine Hid.out ?_)
                refine Lib.hid ?_
                have HP4 : Hid (ScAt w N gW gS gD #[.slice (some ⟨b, off, none⟩) C.length cap, .int .i64 loops] L (tgTo C G L N i 0) loops w9) := hp.out.on hb9
                clear hik hp hb9
                go_wp2
                go_loopw [14] (fun v17 wr => ∃ s : Nat, s ≤ 4 ∧ v17 = .int .i64 (s : Nat) ∧ Hid (ScAt w N gW gS gD #[.slice (some ⟨b, off, none⟩) C.length cap, .int .i64 loops] L (tgTo C G L N i s) loops wr)) (fun v17 _ => 4 - (intOf v17).toNat)
                case atStart => exact ⟨0, by omega, rfl, HP4.out⟩
                case round =>
                  clear HP4 c0 lc4
                  rename World => W5
                  obtain ⟨s, hs4, rfl, hp⟩ := hrel
                  by_cases hsl : s < 4
                  · have c0 : W5.cell? ⟨w.heap.size, 0, none⟩ = some (.slice (some ⟨b, off, none⟩) C.length cap) := block_cell hp.out.sa.box rfl
                    have c1 : W5.cell? ⟨w.heap.size, 1, none⟩ = some (.int .i64 loops) := block_cell hp.out.sa.box rfl
                    have lc5 : w.heap.size < W5.heap.size := (Array.getElem?_eq_some_iff.1 hp.out.sa.box).1
                    have HC5 : Hid (CrossAt W5 b off C ∧ b < W5.heap.size) := ⟨HC.out.on hp.out.sa.bel hbw, Nat.lt_of_lt_of_le hbw hp.out.sa.bel.size⟩
                    have hfit := may_fit HM.out i s hil hsl
                    have g1 := hfit.1
                    have g2 := hfit.2.1
                    obtain ⟨z, hz⟩ : ∃ z : Nat, (C.getD i Cr.none).arc s = (z : Int) := ⟨((C.getD i Cr.none).arc s).toNat, by omega⟩
                    have hzN : z < N := by omega
                    obtain ⟨q, hq⟩ : ∃ q, L.getD z 0 = q := ⟨_, rfl⟩
                    have hqN : q < N := by rw [← hq]; exact HLS.out.lt hzN
                    have HZ : Hid ((C.getD i Cr.none).arc s = (z : Int)) := hz
                    have HQ : Hid (L.getD ((C.getD i Cr.none).arc s).toNat 0 = q) := (by rw [hz]; exact hq : L.getD ((C.getD i Cr.none).arc s).toNat 0 = q)
                    have HQ2 : Hid (L.getD z 0 = q) := hq
                    clear hfit g1 g2 hz hq
                    go_wp2_with (go_at_call 60; refine (arcAt_any b off cap loops C i s _ hil hsl HC5.out.2 HC5.out.1).mono ?_; rw [HZ.out]; rintro e9 w6 ⟨rfl, hb6⟩; refine Hid.out ?_)
                    refine Lib.hid ?_
                    have HP6 : Hid (ScAt w N gW gS gD #[.slice (some ⟨b, off, none⟩) C.length cap, .int .i64 loops] L (tgTo C G L N i s) loops w6) := hp.out.on hb6
                    clear hb6 c0 c1 lc5
                    have d0 : w6.cell? ⟨gW, z, none⟩ = some (.int .i64 (q : Nat)) := by rw [HP6.out.sa.atL HLL.out z hzN, HQ2.out]
                    have d1 : w6.cell? ⟨gS, q, none⟩ = some (.bool ((tgTo C G L N i s).getD q true)) := HP6.out.sa.atS (tgTo_len _ _ _ _ _ _) q hqN
                    have f1 : w6.frozen? ⟨gS, q, none⟩ = false := HP6.out.sa.st.frozenAt q
                    have l6 := HP6.out.sa.ltS
                    have l7 : gW < w6.heap.size := by omega
                    have l8 : gS < w6.heap.size := by omega
                    generalize (tgTo C G L N i s).getD q true = bq at d1
                    have HST : Hid (ScAt w N gW gS gD #[.slice (some ⟨b, off, none⟩) C.length cap, .int .i64 loops] L (tgTo C G L N i (s + 1)) loops (w6.setCell ⟨gS, q, none⟩ (.bool true))) := HP6.out.set (tgTo_next C G L N i s q HIK.out HQ.out)
                    go_wp2
                    go_roundw
                    case rel => exact ⟨s + 1, by omega, by go_num, HST.out⟩
                    case measure => simp only [intOf]; omega
                  · obtain rfl : s = 4 := by omega
                    have HST : Hid (ScAt w N gW gS gD #[.slice (some ⟨b, off, none⟩) C.length cap, .int .i64 loops] L (tgTo C G L N (i + 1) 0) loops W5) := (by rw [← tgTo_row]; exact hp.out : ScAt w N gW gS gD #[.slice (some ⟨b, off, none⟩) C.length cap, .int .i64 loops] L (tgTo C G L N (i + 1) 0) loops W5)
                    clear hp
                    go_wp2
                    go_roundw
                    case rel => exact ⟨i + 1, by omega, by go_num, HST.out⟩
                    case measure => simp only [intOf]; omega
            · obtain rfl : C.length = i := by omega
              have hdi : decide ((C.length : Int) < (C.length : Int)) = false := by simp
              have hdi2 : decide (C.length < C.length) = false := by simp
              have HP5 : Hid (ScAt w N gW gS gD #[.slice (some ⟨b, off, none⟩) C.length cap, .int .i64 loops] L (tgTo C G L N C.length 0) loops W4) := hp.out
              have hsW := HP5.out.sa.bel.size
              clear hp
              go_wp2_with (first | (at_make; refine wpList_make_full _ rfl _ _ 46 rfl W4.heap.size 3 i2 (.int .i64 0) 1 Try.underlying46 hki hx0 hx1 .i64 .i64 _ _ N rfl rfl rfl rfl (by rw [hx2]; omega) (by unfold maxLen; omega) (by omega) ?_; intro w5 hrow hg5; refine Hid.out ?_))
              refine Lib.hid ?_
              obtain ⟨P, hP⟩ : ∃ P, thG C G L C.length 0 = P := ⟨_, rfl⟩
              obtain ⟨Q, hQ⟩ : ∃ Q, nfB L P = Q := ⟨_, rfl⟩
              have HPQ : Hid (thG C G L C.length 0 = P ∧ nfB L P = Q) := ⟨hP, hQ⟩
              rw [made_zeroN, rfTo_zero P] at hrow
              have HB5 : Hid (∀ gN B, gN = W4.heap.size → B = w5.heap.size → SbAt w N gW gS gN gD B #[.slice (some ⟨b, off, none⟩) C.length cap, .int .i64 loops] L (tgTo C G L N C.length 0) (rfTo P N 1) (.slice none 0 0) (loops + (cntB Q 1 : Nat)) [] w5) := (by
                intro gN B hgN hB
                have h1 := HP5.out.sa.ltS
                have h2 := HP5.out.lt
                have h3 := (Array.getElem?_eq_some_iff.1 HP5.out.od).1
                have h4 := hg5.size
                have h5 := hrow.lt W4.heap.size rfl
                have hsa : SaAt w N gW gS #[.slice (some ⟨b, off, none⟩) C.length cap, .int .i64 loops] L (tgTo C G L N C.length 0) w5 := HP5.out.sa.kept2 hg5 (fun q hq => by cases hq)
                rw [cntB_one]
                refine ⟨hsa, by rw [hgN]; exact own_low hrow (by omega), OutAt.nil (by have := (hg5.block _ h3 (by simp)).trans HP5.out.od; simpa using this), by omega⟩ : ∀ gN B, gN = W4.heap.size → B = w5.heap.size → SbAt w N gW gS gN gD B #[.slice (some ⟨b, off, none⟩) C.length cap, .int .i64 loops] L (tgTo C G L N C.length 0) (rfTo P N 1) (.slice none 0 0) (loops + (cntB Q 1 : Nat)) [] w5)
              obtain ⟨gN, hgN⟩ : ∃ g, W4.heap.size = g := ⟨_, rfl⟩
              obtain ⟨B, hB⟩ : ∃ g, w5.heap.size = g := ⟨_, rfl⟩
              have HJ0 : Hid (SbAt w N gW gS gN gD B #[.slice (some ⟨b, off, none⟩) C.length cap, .int .i64 loops] L (tgTo C G L N C.length 0) (rfTo P N 1) (.slice none 0 0) (loops + (cntB Q 1 : Nat)) [] w5) := HB5.out gN B hgN.symm hB.symm
              rw [hgN]
              clear HB5 hgN hB hrow hg5 HP5 hP hQ hsW
              go_wp2
              go_loopw [16, 17] (fun v19 v20 wr => ∃ j : Nat, 1 ≤ j ∧ j ≤ N ∧ v20 = .int .i64 (j : Nat) ∧ v19 = .int .i64 ((cntB P j + 1 : Nat) : Int) ∧ Hid (SbAt w N gW gS gN gD B #[.slice (some ⟨b, off, none⟩) C.length cap, .int .i64 loops] L (tgTo C G L N C.length 0) (rfTo P N j) (.slice none 0 0) (loops + (cntB Q j : Nat)) [] wr)) (fun _ v20 _ => N - (intOf v20).toNat)
              case atStart => exact ⟨1, Nat.le_refl _, hN1, rfl, (by rw [cntB_one]; rfl), HJ0.out⟩
              case round =>
                clear HJ0
                rename World => W5
                obtain ⟨j, hj1, hjn, rfl, rfl, hp⟩ := hrel
                have hcP := cntB_le P j
                have hcQ := cntB_le Q j
                obtain ⟨cP, hcPe⟩ : ∃ c, cntB P j = c := ⟨_, rfl⟩
                obtain ⟨cQ, hcQe⟩ : ∃ c, cntB Q j = c := ⟨_, rfl⟩
                have HCP : Hid (cntB P j = cP ∧ cntB Q j = cQ) := ⟨hcPe, hcQe⟩
                have HP5 : Hid (SbAt w N gW gS gN gD B #[.slice (some ⟨b, off, none⟩) C.length cap, .int .i64 loops] L (tgTo C G L N C.length 0) (rfTo P N j) (.slice none 0 0) (loops + (cntB Q j : Nat)) [] W5) := hp.out
                rw [hcPe] at hcP ⊢
                rw [hcQe] at hcQ HP5
                clear hp hcPe hcQe
                by_cases hjl : j < N
                · have hdj : decide ((j : Int) ≤ 2 * (C.length : Int)) = true := by simp; omega
                  obtain ⟨bp, hbp⟩ : ∃ z, P j = z := ⟨_, rfl⟩
                  have c2 : W5.cell? ⟨gS, j, none⟩ = some (.bool bp) := by rw [HP5.out.sa.atS (tgTo_len _ _ _ _ _ _) j hjl, tgTo_at _ _ _ _ _ _ _ hjl, HPQ.out.1, hbp]
                  obtain ⟨q, hq⟩ : ∃ q, L.getD j 0 = q := ⟨_, rfl⟩
                  have c0 : W5.cell? ⟨gW, j, none⟩ = some (.int .i64 (q : Nat)) := by rw [HP5.out.sa.atL HLL.out j hjl, hq]
                  have HQV : Hid (P j = bp ∧ Q j = (!bp && decide (q = j))) := ⟨hbp, by rw [← HPQ.out.2]; unfold nfB; rw [hbp, hq]⟩
                  have l1 := HP5.out.sa.ltS
                  have l2 := HP5.out.ne
                  have l3 : gW < W5.heap.size := by omega
                  have l4 : gN < W5.heap.size := by omega
                  have l5 : gD < W5.heap.size := by omega
                  have l6 : gS < W5.heap.size := by omega
                  clear hbp hq l1 l2
                  cases bp with
                  | true =>
                    have c9 : W5.cell? ⟨gN, j, none⟩ = some (.int .i64 ((rfTo P N j).getD j 0 : Nat)) := HP5.out.atM (rfTo_len _ _ _) j hjl
                    have z0 : W5.frozen? ⟨gN, j, none⟩ = false := HP5.out.num.frozenAt j
                    generalize (rfTo P N j).getD j 0 = u9 at c9
                    have HST : Hid (SbAt w N gW gS gN gD B #[.slice (some ⟨b, off, none⟩) C.length cap, .int .i64 loops] L (tgTo C G L N C.length 0) (rfTo P N (j + 1)) (.slice none 0 0) (loops + (cntB Q (j + 1) : Nat)) [] (W5.setCell ⟨gN, j, none⟩ (.int .i64 ((cP + 1 : Nat) : Int)))) := (by rw [cntB_no Q j HQV.out.2, HCP.out.2]; exact HP5.out.set (by rw [← HCP.out.1]; exact rfTo_yes P N j hj1 HQV.out.1) : SbAt w N gW gS gN gD B #[.slice (some ⟨b, off, none⟩) C.length cap, .int .i64 loops] L (tgTo C G L N C.length 0) (rfTo P N (j + 1)) (.slice none 0 0) (loops + (cntB Q (j + 1) : Nat)) [] (W5.setCell ⟨gN, j, none⟩ (.int .i64 ((cP + 1 : Nat) : Int))))
                    go_wp2
                    go_roundw
                    case rel => exact ⟨j + 1, by omega, by omega, by go_num, (by rw [cntB_yes P j hj1 HQV.out.1, HCP.out.1]; go_num), HST.out⟩
                    case measure => simp only [intOf]; omega
                  | false =>
                    by_cases hqj : q = j
                    · subst hqj
                      have hdq : ((q : Int) == (q : Int)) = true := by simp
                      have HQT : Hid (Q q = true) := (by rw [HQV.out.2]; simp : Q q = true)
                      have HST : Hid (SbAt w N gW gS gN gD B #[.slice (some ⟨b, off, none⟩) C.length cap, .int .i64 loops] L (tgTo C G L N C.length 0) (rfTo P N (q + 1)) (.slice none 0 0) (loops + (cntB Q (q + 1) : Nat)) [] (W5.setCell ⟨gD, 1, none⟩ (.int .i64 (loops + (cQ : Int) + 1)))) := (by rw [cntB_yes Q q hj1 HQT.out, HCP.out.2, ← rfTo_no P N q HQV.out.1]; have e : loops + ((cQ + 1 : Nat) : Int) = loops + (cQ : Int) + 1 := (by omega); rw [e]; exact HP5.out.loop : SbAt w N gW gS gN gD B #[.slice (some ⟨b, off, none⟩) C.length cap, .int .i64 loops] L (tgTo C G L N C.length 0) (rfTo P N (q + 1)) (.slice none 0 0) (loops + (cntB Q (q + 1) : Nat)) [] (W5.setCell ⟨gD, 1, none⟩ (.int .i64 (loops + (cQ : Int) + 1))))
                      have d1 : W5.cell? ⟨gD, 1, none⟩ = some (.int .i64 (loops + (cQ : Int))) := block_cell HP5.out.out.box rfl
                      have f1 : W5.frozen? ⟨gD, 1, none⟩ = false := block_frozen HP5.out.out.box
                      have hwr : IntKind.i64.wrap (loops + (cQ : Int) + 1) = loops + (cQ : Int) + 1 := IntWalk.i64_in _ (by omega)
                      go_wp2
                      go_roundw
                      case rel => exact ⟨q + 1, by omega, by omega, by go_num, (by rw [cntB_no P q HQV.out.1, HCP.out.1]), HST.out⟩
                      case measure => simp only [intOf]; omega
                    · have hdq : ((q : Int) == (j : Int)) = false := by simp; omega
                      have hdq2 : (q == j) = false := by simp; omega
                      have HQT : Hid (Q j = false) := (by rw [HQV.out.2, decide_eq_false hqj]; rfl : Q j = false)
                      have HST : Hid (SbAt w N gW gS gN gD B #[.slice (some ⟨b, off, none⟩) C.length cap, .int .i64 loops] L (tgTo C G L N C.length 0) (rfTo P N (j + 1)) (.slice none 0 0) (loops + (cntB Q (j + 1) : Nat)) [] W5) := (by rw [cntB_no Q j HQT.out, HCP.out.2, ← rfTo_no P N j HQV.out.1]; exact HP5.out : SbAt w N gW gS gN gD B #[.slice (some ⟨b, off, none⟩) C.length cap, .int .i64 loops] L (tgTo C G L N C.length 0) (rfTo P N (j + 1)) (.slice none 0 0) (loops + (cntB Q (j + 1) : Nat)) [] W5)
                      clear hqj
                      go_wp2
                      go_roundw
                      case rel => exact ⟨j + 1, by omega, by omega, by go_num, (by rw [cntB_no P j HQV.out.1, HCP.out.1]), HST.out⟩
                      case measure => simp only [intOf]; omega
                · obtain rfl : N = j := by omega
                  have hdj : decide ((N : Int) ≤ 2 * (C.length : Int)) = false := by simp; omega
                  generalize ((cP + 1 : Nat) : Int) = nxt
                  go_wp2
                  go_loopw [18] (fun v21 wr => ∃ (i : Nat) (v : Value) (D : List Cr), i ≤ C.length ∧ v21 = .int .i64 (i : Nat) ∧ Hid (D = reTo C G (numM L P) i) ∧ D.length ≤ 16 ∧ Hid (SbAt w N gW gS gN gD B #[.slice (some ⟨b, off, none⟩) C.length cap, .int .i64 loops] L (tgTo C G L N C.length 0) (rfTo P N N) v (loops + (cQ : Nat)) D wr)) (fun v21 _ => C.length - (intOf v21).toNat)
                  case atStart => exact ⟨0, .slice none 0 0, [], Nat.zero_le _, rfl, (rfl : [] = reTo C G (numM L P) 0), by simp, HP5.out⟩
                  case round =>
                    clear HP5
                    rename World => W6
                    obtain ⟨i, v, D, hin, rfl, hDe, hDl, hp⟩ := hrel
                    have hbel := hp.out.sa.bel
                    have c0 : W6.cell? ⟨w.heap.size, 0, none⟩ = some (.slice (some ⟨b, off, none⟩) C.length cap) := block_cell hp.out.sa.box rfl
                    have lc6 : w.heap.size < W6.heap.size := (Array.getElem?_eq_some_iff.1 hp.out.sa.box).1
                    by_cases hil : i < C.length
                    · have hdi : decide ((i : Int) < (C.length : Int)) = true := by simp; omega
                      have hdi2 : decide (i < C.length) = true := by simp; omega
                      by_cases hik : i ∈ G
                      · have HST : Hid (D = reTo C G (numM L P) (i + 1)) := (by rw [reTo_next, if_pos hik]; exact hDe.out : D = reTo C G (numM L P) (i + 1))
                        have HWI := hid_of (HWN.out i W6 hbel)
                        rw [decide_eq_true hik] at HWI
                        clear hik
                        go_wp2_with (go_at_call 66; refine HWI.out.mono ?_; rintro e9 w9 ⟨rfl, hb9⟩; refine Hid.out ?_)
                        refine Lib.hid ?_
                        have HS9 := hid_of (hp.out.on hb9)
                        clear hb9 hp
                        go_wp2
                        go_roundw
                        case rel => exact ⟨i + 1, v, D, by omega, by go_num, HST.out, hDl, HS9.out⟩
                        case measure => simp only [intOf]; omega
                      · have HDL : Hid (D.length ≤ i) := (by rw [hDe.out]; exact reTo_len _ _ _ _ : D.length ≤ i)
                        have HRN : Hid (reTo C G (numM L P) (i + 1) = D ++ [reX (numM L P) (C.getD i Cr.none)]) := (by rw [reTo_next, if_neg hik, ← hDe.out] : reTo C G (numM L P) (i + 1) = D ++ [reX (numM L P) (C.getD i Cr.none)])
                        have HWI := hid_of (HWN.out i W6 hbel)
                        rw [decide_eq_false hik] at HWI
                        clear hik
                        go_wp2_with (go_at_call 66; refine HWI.out.mono ?_; rintro e9 w9 ⟨rfl, hb9⟩; refine Hid.out ?_)
                        refine Lib.hid ?_
                        have HPN := hid_of (hp.out.on hb9)
                        clear hp hbel c0 lc6 hb9
                        have hp := HPN
                        clear HPN
                        have hbel := hp.out.sa.bel
                        have c0 : w9.cell? ⟨w.heap.size, 0, none⟩ = some (.slice (some ⟨b, off, none⟩) C.length cap) := block_cell hp.out.sa.box rfl
                        have lc6 : w.heap.size < w9.heap.size := (Array.getElem?_eq_some_iff.1 hp.out.sa.box).1
                        obtain ⟨p0, p1, p2, p3, xp, hxe, hp0, hp1, hp2, hp3⟩ := may_natsJ HM.out i hil
                        have HFP : Hid (∀ s, s < 4 → 1 ≤ (C.getD i Cr.none).arc s) := fun s hs => (may_fit HM.out i s hil hs).1
                        have g0 := HFP.out 0 (by omega)
                        have g1 := HFP.out 1 (by omega)
                        have g2 := HFP.out 2 (by omega)
                        have g3 := HFP.out 3 (by omega)
                        obtain ⟨m0, m1, m2, m3, m4⟩ := (HC.out.on hbel hbw) i hil
                        rw [hxe] at g0 g1 g2 g3 m0 m1 m2 m3 m4 HRN
                        have j0 : 1 ≤ p0 := by simp [Cr.arc] at g0; omega
                        have j1 : 1 ≤ p1 := by simp [Cr.arc] at g1; omega
                        have j2 : 1 ≤ p2 := by simp [Cr.arc] at g2; omega
                        have j3 : 1 ≤ p3 := by simp [Cr.arc] at g3; omega
                        clear g0 g1 g2 g3 HFP hxe
                        have HNU : Hid (∀ p, 1 ≤ p → p < N → (rfTo P N N).getD (L.getD p 0) 0 = numM L P p) := fun p h1 h2 => by
                          have h3 := HLP.out p h1 h2
                          have h4 := HLS.out.lt h2
                          rw [rfTo_at _ _ _ _ h4]
                          unfold numM
                          by_cases hP : P (L.getD p 0) = true
                          · rw [if_pos ⟨h4, h3, hP⟩, if_pos hP]
                          · rw [if_neg (fun q => hP q.2.2), if_neg hP]
                        have n0 : p0 < N := by omega
                        obtain ⟨r0, hr0⟩ : ∃ r, L.getD p0 0 = r := ⟨_, rfl⟩
                        have q0 : r0 < N := by rw [← hr0]; exact HLS.out.lt n0
                        obtain ⟨f0, hf0⟩ : ∃ f, numM L P p0 = f := ⟨_, rfl⟩
                        have HF0 : Hid (L.getD p0 0 = r0 ∧ (rfTo P N N).getD r0 0 = f0) := ⟨hr0, by rw [← hr0, HNU.out p0 j0 n0, hf0]⟩
                        have n1 : p1 < N := by omega
                        obtain ⟨r1, hr1⟩ : ∃ r, L.getD p1 0 = r := ⟨_, rfl⟩
                        have q1 : r1 < N := by rw [← hr1]; exact HLS.out.lt n1
                        obtain ⟨f1, hf1⟩ : ∃ f, numM L P p1 = f := ⟨_, rfl⟩
                        have HF1 : Hid (L.getD p1 0 = r1 ∧ (rfTo P N N).getD r1 0 = f1) := ⟨hr1, by rw [← hr1, HNU.out p1 j1 n1, hf1]⟩
                        have n2 : p2 < N := by omega
                        obtain ⟨r2, hr2⟩ : ∃ r, L.getD p2 0 = r := ⟨_, rfl⟩
                        have q2 : r2 < N := by rw [← hr2]; exact HLS.out.lt n2
                        obtain ⟨f2, hf2⟩ : ∃ f, numM L P p2 = f := ⟨_, rfl⟩
                        have HF2 : Hid (L.getD p2 0 = r2 ∧ (rfTo P N N).getD r2 0 = f2) := ⟨hr2, by rw [← hr2, HNU.out p2 j2 n2, hf2]⟩
                        have n3 : p3 < N := by omega
                        obtain ⟨r3, hr3⟩ : ∃ r, L.getD p3 0 = r := ⟨_, rfl⟩
                        have q3 : r3 < N := by rw [← hr3]; exact HLS.out.lt n3
                        obtain ⟨f3, hf3⟩ : ∃ f, numM L P p3 = f := ⟨_, rfl⟩
                        have HF3 : Hid (L.getD p3 0 = r3 ∧ (rfTo P N N).getD r3 0 = f3) := ⟨hr3, by rw [← hr3, HNU.out p3 j3 n3, hf3]⟩
                        have HXE : Hid (reX (numM L P) ⟨(p0 : Nat), (p1 : Nat), (p2 : Nat), (p3 : Nat), xp⟩ = ⟨(f0 : Nat), (f1 : Nat), (f2 : Nat), (f3 : Nat), xp⟩) := (by unfold reX; simp only [Int.toNat_natCast]; rw [hf0, hf1, hf2, hf3] : reX (numM L P) ⟨(p0 : Nat), (p1 : Nat), (p2 : Nat), (p3 : Nat), xp⟩ = ⟨(f0 : Nat), (f1 : Nat), (f2 : Nat), (f3 : Nat), xp⟩)
                        rw [HXE.out] at HRN
                        clear hr0 hr1 hr2 hr3 hf0 hf1 hf2 hf3 HXE
                        have lb6 : b < w9.heap.size := Nat.lt_of_lt_of_le hbw hbel.size
                        obtain ⟨Y, hY⟩ : ∃ Y, Y = w9.alloc (.cells #[.int .i64 (p0 : Nat), .int .i64 (p1 : Nat), .int .i64 (p2 : Nat), .int .i64 (p3 : Nat), .bool xp] 71) := ⟨_, rfl⟩
                        have HY : Hid (Y = w9.alloc (.cells #[.int .i64 (p0 : Nat), .int .i64 (p1 : Nat), .int .i64 (p2 : Nat), .int .i64 (p3 : Nat), .bool xp] 71)) := hY
                        have hsY : w9.heap.size < Y.heap.size := by rw [hY]; simp
                        have HBY : Hid (Below w9.heap.size w9 Y) := (by rw [hY]; exact (Below.refl _ _).alloc (Nat.le_refl _) _ : Below w9.heap.size w9 Y)
                        have HTY : Hid (Y.heap[w9.heap.size]? = some (.cells #[.int .i64 (p0 : Nat), .int .i64 (p1 : Nat), .int .i64 (p2 : Nat), .int .i64 (p3 : Nat), .bool xp] 71 (0, 0))) := (by rw [hY]; exact alloc_at rfl : Y.heap[w9.heap.size]? = some (.cells #[.int .i64 (p0 : Nat), .int .i64 (p1 : Nat), .int .i64 (p2 : Nat), .int .i64 (p3 : Nat), .bool xp] 71 (0, 0)))
                        clear hY
                        obtain ⟨a3, c3', ev3⟩ := own_capS hp.out.out.row
                        subst ev3
                        have HVB : Hid (∀ q, (Value.slice a3 D.length c3').ownBlock = some q → B ≤ q ∧ q < w9.heap.size) := fun q e => hp.out.out.row.lt q e
                        have HDY : Hid (Below Y.heap.size Y Y.drew) := (Below.refl _ _).drew
                        have HOD : Hid (SbAt w N gW gS gN gD B #[.slice (some ⟨b, off, none⟩) C.length cap, .int .i64 loops] L (tgTo C G L N C.length 0) (rfTo P N N) (.slice a3 D.length c3') (loops + (cQ : Nat)) D Y.drew) := (hp.out.on HBY.out).on HDY.out
                        have hne := HOD.out.ne
                        have hlS := HOD.out.sa.ltS
                        have hgDB : gD < B := hne.2.2.2.2.1
                        have HYY : Hid (Y.drew.heap.size = Y.heap.size) := (rfl : Y.drew.heap.size = Y.heap.size)
                        have HB6 : Hid (B ≤ w9.heap.size) := hp.out.ne.2.2.2.2.2
                        have hBY : B ≤ Y.heap.size := by have := HB6.out; omega
                        have HKP : Hid (Y.drew.cell? ⟨w9.heap.size, 0, none⟩ = some (.int .i64 (p0 : Nat)) ∧ Y.drew.cell? ⟨w9.heap.size, 1, none⟩ = some (.int .i64 (p1 : Nat)) ∧ Y.drew.cell? ⟨w9.heap.size, 2, none⟩ = some (.int .i64 (p2 : Nat)) ∧ Y.drew.cell? ⟨w9.heap.size, 3, none⟩ = some (.int .i64 (p3 : Nat)) ∧ Y.drew.cell? ⟨w9.heap.size, 4, none⟩ = some (.bool xp) ∧ Y.drew.cell? ⟨gW, p0, none⟩ = some (.int .i64 (r0 : Nat)) ∧ Y.drew.cell? ⟨gW, p1, none⟩ = some (.int .i64 (r1 : Nat)) ∧ Y.drew.cell? ⟨gW, p2, none⟩ = some (.int .i64 (r2 : Nat)) ∧ Y.drew.cell? ⟨gW, p3, none⟩ = some (.int .i64 (r3 : Nat)) ∧ Y.drew.cell? ⟨gN, r0, none⟩ = some (.int .i64 (f0 : Nat)) ∧ Y.drew.cell? ⟨gN, r1, none⟩ = some (.int .i64 (f1 : Nat)) ∧ Y.drew.cell? ⟨gN, r2, none⟩ = some (.int .i64 (f2 : Nat)) ∧ Y.drew.cell? ⟨gN, r3, none⟩ = some (.int .i64 (f3 : Nat))) := ⟨block_cell HTY.out rfl, block_cell HTY.out rfl, block_cell HTY.out rfl, block_cell HTY.out rfl, block_cell HTY.out rfl, by rw [HOD.out.sa.atL HLL.out p0 n0, HF0.out.1], by rw [HOD.out.sa.atL HLL.out p1 n1, HF1.out.1], by rw [HOD.out.sa.atL HLL.out p2 n2, HF2.out.1], by rw [HOD.out.sa.atL HLL.out p3 n3, HF3.out.1], by rw [HOD.out.atM (rfTo_len _ _ _) r0 q0, HF0.out.2], by rw [HOD.out.atM (rfTo_len _ _ _) r1 q1, HF1.out.2], by rw [HOD.out.atM (rfTo_len _ _ _) r2 q2, HF2.out.2], by rw [HOD.out.atM (rfTo_len _ _ _) r3 q3, HF3.out.2]⟩
                        have HKG : Hid (∀ w8 o, (Y.drew.alloc o).grownBy w8 (Value.slice a3 D.length c3').ownBlock → w8.cell? ⟨w9.heap.size, 0, none⟩ = some (.int .i64 (p0 : Nat)) ∧ w8.cell? ⟨w9.heap.size, 1, none⟩ = some (.int .i64 (p1 : Nat)) ∧ w8.cell? ⟨w9.heap.size, 2, none⟩ = some (.int .i64 (p2 : Nat)) ∧ w8.cell? ⟨w9.heap.size, 3, none⟩ = some (.int .i64 (p3 : Nat)) ∧ w8.cell? ⟨w9.heap.size, 4, none⟩ = some (.bool xp) ∧ w8.cell? ⟨gW, p0, none⟩ = some (.int .i64 (r0 : Nat)) ∧ w8.cell? ⟨gW, p1, none⟩ = some (.int .i64 (r1 : Nat)) ∧ w8.cell? ⟨gW, p2, none⟩ = some (.int .i64 (r2 : Nat)) ∧ w8.cell? ⟨gW, p3, none⟩ = some (.int .i64 (r3 : Nat)) ∧ w8.cell? ⟨gN, r0, none⟩ = some (.int .i64 (f0 : Nat)) ∧ w8.cell? ⟨gN, r1, none⟩ = some (.int .i64 (f1 : Nat)) ∧ w8.cell? ⟨gN, r2, none⟩ = some (.int .i64 (f2 : Nat)) ∧ w8.cell? ⟨gN, r3, none⟩ = some (.int .i64 (f3 : Nat))) := fun w8 o h8 => by
                          have hg : Y.drew.grownBy w8 (Value.slice a3 D.length c3').ownBlock := grown_trans (World.grownBy_alloc _ _ _) h8
                          have e1 : some w9.heap.size ≠ (Value.slice a3 D.length c3').ownBlock := fun e => by have := HVB.out _ e.symm; omega
                          have e2 : some gW ≠ (Value.slice a3 D.length c3').ownBlock := fun e => by have := HVB.out _ e.symm; omega
                          have e3 : some gN ≠ (Value.slice a3 D.length c3').ownBlock := fun e => by have := HVB.out _ e.symm; omega
                          have b1 : w9.heap.size < Y.drew.heap.size := by rw [HYY.out]; exact hsY
                          have b2 : gW < Y.drew.heap.size := by omega
                          have b3 : gN < Y.drew.heap.size := by omega
                          obtain ⟨k0, k1, k2, k3, k4, k5, k6, k7, k8, k9, k10, k11, k12⟩ := HKP.out
                          exact ⟨gcellS hg b1 e1 k0, gcellS hg b1 e1 k1, gcellS hg b1 e1 k2, gcellS hg b1 e1 k3, gcellS hg b1 e1 k4, gcellS hg b2 e2 k5, gcellS hg b2 e2 k6, gcellS hg b2 e2 k7, gcellS hg b2 e2 k8, gcellS hg b3 e3 k9, gcellS hg b3 e3 k10, gcellS hg b3 e3 k11, gcellS hg b3 e3 k12⟩
                        have HKA : Hid (∀ o, (Y.drew.alloc o).cell? ⟨w9.heap.size, 0, none⟩ = some (.int .i64 (p0 : Nat)) ∧ (Y.drew.alloc o).cell? ⟨w9.heap.size, 1, none⟩ = some (.int .i64 (p1 : Nat)) ∧ (Y.drew.alloc o).cell? ⟨w9.heap.size, 2, none⟩ = some (.int .i64 (p2 : Nat)) ∧ (Y.drew.alloc o).cell? ⟨w9.heap.size, 3, none⟩ = some (.int .i64 (p3 : Nat)) ∧ (Y.drew.alloc o).cell? ⟨w9.heap.size, 4, none⟩ = some (.bool xp) ∧ (Y.drew.alloc o).cell? ⟨gW, p0, none⟩ = some (.int .i64 (r0 : Nat)) ∧ (Y.drew.alloc o).cell? ⟨gW, p1, none⟩ = some (.int .i64 (r1 : Nat)) ∧ (Y.drew.alloc o).cell? ⟨gW, p2, none⟩ = some (.int .i64 (r2 : Nat)) ∧ (Y.drew.alloc o).cell? ⟨gW, p3, none⟩ = some (.int .i64 (r3 : Nat)) ∧ (Y.drew.alloc o).cell? ⟨gN, r0, none⟩ = some (.int .i64 (f0 : Nat)) ∧ (Y.drew.alloc o).cell? ⟨gN, r1, none⟩ = some (.int .i64 (f1 : Nat)) ∧ (Y.drew.alloc o).cell? ⟨gN, r2, none⟩ = some (.int .i64 (f2 : Nat)) ∧ (Y.drew.alloc o).cell? ⟨gN, r3, none⟩ = some (.int .i64 (f3 : Nat))) := fun o => HKG.out _ o ⟨rfl, rfl, rfl, Nat.le_refl _, fun _ _ _ => rfl⟩
                        have HKU : Hid (∀ (w8 : World) (u : Value), (w8.cell? ⟨w9.heap.size, 0, none⟩ = some (.int .i64 (p0 : Nat)) ∧ w8.cell? ⟨w9.heap.size, 1, none⟩ = some (.int .i64 (p1 : Nat)) ∧ w8.cell? ⟨w9.heap.size, 2, none⟩ = some (.int .i64 (p2 : Nat)) ∧ w8.cell? ⟨w9.heap.size, 3, none⟩ = some (.int .i64 (p3 : Nat)) ∧ w8.cell? ⟨w9.heap.size, 4, none⟩ = some (.bool xp) ∧ w8.cell? ⟨gW, p0, none⟩ = some (.int .i64 (r0 : Nat)) ∧ w8.cell? ⟨gW, p1, none⟩ = some (.int .i64 (r1 : Nat)) ∧ w8.cell? ⟨gW, p2, none⟩ = some (.int .i64 (r2 : Nat)) ∧ w8.cell? ⟨gW, p3, none⟩ = some (.int .i64 (r3 : Nat)) ∧ w8.cell? ⟨gN, r0, none⟩ = some (.int .i64 (f0 : Nat)) ∧ w8.cell? ⟨gN, r1, none⟩ = some (.int .i64 (f1 : Nat)) ∧ w8.cell? ⟨gN, r2, none⟩ = some (.int .i64 (f2 : Nat)) ∧ w8.cell? ⟨gN, r3, none⟩ = some (.int .i64 (f3 : Nat))) → Y.drew.heap.size ≤ w8.heap.size → (w8.setCell ⟨gD, 0, none⟩ u).cell? ⟨w9.heap.size, 0, none⟩ = some (.int .i64 (p0 : Nat)) ∧ (w8.setCell ⟨gD, 0, none⟩ u).cell? ⟨w9.heap.size, 1, none⟩ = some (.int .i64 (p1 : Nat)) ∧ (w8.setCell ⟨gD, 0, none⟩ u).cell? ⟨w9.heap.size, 2, none⟩ = some (.int .i64 (p2 : Nat)) ∧ (w8.setCell ⟨gD, 0, none⟩ u).cell? ⟨w9.heap.size, 3, none⟩ = some (.int .i64 (p3 : Nat)) ∧ (w8.setCell ⟨gD, 0, none⟩ u).cell? ⟨w9.heap.size, 4, none⟩ = some (.bool xp) ∧ (w8.setCell ⟨gD, 0, none⟩ u).cell? ⟨gW, p0, none⟩ = some (.int .i64 (r0 : Nat)) ∧ (w8.setCell ⟨gD, 0, none⟩ u).cell? ⟨gW, p1, none⟩ = some (.int .i64 (r1 : Nat)) ∧ (w8.setCell ⟨gD, 0, none⟩ u).cell? ⟨gW, p2, none⟩ = some (.int .i64 (r2 : Nat)) ∧ (w8.setCell ⟨gD, 0, none⟩ u).cell? ⟨gW, p3, none⟩ = some (.int .i64 (r3 : Nat)) ∧ (w8.setCell ⟨gD, 0, none⟩ u).cell? ⟨gN, r0, none⟩ = some (.int .i64 (f0 : Nat)) ∧ (w8.setCell ⟨gD, 0, none⟩ u).cell? ⟨gN, r1, none⟩ = some (.int .i64 (f1 : Nat)) ∧ (w8.setCell ⟨gD, 0, none⟩ u).cell? ⟨gN, r2, none⟩ = some (.int .i64 (f2 : Nat)) ∧ (w8.setCell ⟨gD, 0, none⟩ u).cell? ⟨gN, r3, none⟩ = some (.int .i64 (f3 : Nat))) := fun w8 u hk8 hz => by
                          have hg := set_grown w8 gD 0 u
                          have e1 : some w9.heap.size ≠ some gD := fun e => by have := Option.some.inj e; have := HB6.out; omega
                          have e2 : some gW ≠ some gD := fun e => by have := Option.some.inj e; omega
                          have e3 : some gN ≠ some gD := fun e => by have := Option.some.inj e; omega
                          have b1 : w9.heap.size < w8.heap.size := by have := HYY.out; omega
                          have b2 : gW < w8.heap.size := by omega
                          have b3 : gN < w8.heap.size := by omega
                          obtain ⟨k0, k1, k2, k3, k4, k5, k6, k7, k8, k9, k10, k11, k12⟩ := hk8
                          exact ⟨gcellS hg b1 e1 k0, gcellS hg b1 e1 k1, gcellS hg b1 e1 k2, gcellS hg b1 e1 k3, gcellS hg b1 e1 k4, gcellS hg b2 e2 k5, gcellS hg b2 e2 k6, gcellS hg b2 e2 k7, gcellS hg b2 e2 k8, gcellS hg b3 e3 k9, gcellS hg b3 e3 k10, gcellS hg b3 e3 k11, gcellS hg b3 e3 k12⟩
                        have t0 : Y.cell? ⟨gD, 0, none⟩ = some (.slice a3 D.length c3') := block_cell HOD.out.out.box rfl
                        have t1 : gD < Y.heap.size := by have := HYY.out; omega
                        clear hp hbel
                        go_upto_region 42 with (fail)
                        rw [← HY.out]
                        clear c0 m0 m1 m2 m3 m4
                        refine wp_region_held_drew (S := (fun w' => w'.cell? ⟨w9.heap.size, 0, none⟩ = some (.int .i64 (p0 : Nat)) ∧ w'.cell? ⟨w9.heap.size, 1, none⟩ = some (.int .i64 (p1 : Nat)) ∧ w'.cell? ⟨w9.heap.size, 2, none⟩ = some (.int .i64 (p2 : Nat)) ∧ w'.cell? ⟨w9.heap.size, 3, none⟩ = some (.int .i64 (p3 : Nat)) ∧ w'.cell? ⟨w9.heap.size, 4, none⟩ = some (.bool xp) ∧ w'.cell? ⟨gW, p0, none⟩ = some (.int .i64 (r0 : Nat)) ∧ w'.cell? ⟨gW, p1, none⟩ = some (.int .i64 (r1 : Nat)) ∧ w'.cell? ⟨gW, p2, none⟩ = some (.int .i64 (r2 : Nat)) ∧ w'.cell? ⟨gW, p3, none⟩ = some (.int .i64 (r3 : Nat)) ∧ w'.cell? ⟨gN, r0, none⟩ = some (.int .i64 (f0 : Nat)) ∧ w'.cell? ⟨gN, r1, none⟩ = some (.int .i64 (f1 : Nat)) ∧ w'.cell? ⟨gN, r2, none⟩ = some (.int .i64 (f2 : Nat)) ∧ w'.cell? ⟨gN, r3, none⟩ = some (.int .i64 (f3 : Nat)))) (by kernel_rfl) HKP.out (fun hHeld => ?_)
                        refine take_q 144 (i := 0) (v := ?vv0c) rfl rfl (by kernel_rfl) (by kernel_rfl) (by kernel_rfl) (fun _ _ _ h => h) (Or.inl ⟨by rfl, ?yy0c⟩) (by assumption) ?rr0c
                        case yy0c => (intro w9 hSw; (try dsimp only at hSw); go_simp; (try with_reducible rfl))
                        simp only [List.setIfInBounds_toArray, List.set_cons_succ, List.set_cons_zero]
                        refine take_q 146 (i := 2) (v := ?vv2c) rfl rfl (by kernel_rfl) (by kernel_rfl) (by kernel_rfl) (fun _ _ _ h => h) (Or.inl ⟨by rfl, ?yy2c⟩) (by assumption) ?rr2c
                        case yy2c => (intro w9 hSw; (try dsimp only at hSw); go_simp; (try with_reducible rfl))
                        simp only [List.setIfInBounds_toArray, List.set_cons_succ, List.set_cons_zero]
                        refine take_q 147 (i := 3) (v := ?vv3c) rfl rfl (by kernel_rfl) (by kernel_rfl) (by kernel_rfl) (fun _ _ _ h => h) (Or.inl ⟨by rfl, ?yy3c⟩) (by assumption) ?rr3c
                        case yy3c => (intro w9 hSw; (try dsimp only at hSw); go_simp; (try with_reducible rfl))
                        simp only [List.setIfInBounds_toArray, List.set_cons_succ, List.set_cons_zero]
                        refine take_q 148 (i := 4) (v := ?vv4c) rfl rfl (by kernel_rfl) (by kernel_rfl) (by kernel_rfl) (fun _ _ _ h => h) (Or.inl ⟨by rfl, ?yy4c⟩) (by assumption) ?rr4c
                        case yy4c => (intro w9 hSw; (try dsimp only at hSw); go_simp; (try with_reducible rfl))
                        simp only [List.setIfInBounds_toArray, List.set_cons_succ, List.set_cons_zero]
                        refine take_q 149 (i := 5) (v := ?vv5c) rfl rfl (by kernel_rfl) (by kernel_rfl) (by kernel_rfl) (fun _ _ _ h => h) (Or.inl ⟨by rfl, ?yy5c⟩) (by assumption) ?rr5c
                        case yy5c => (intro w9 hSw; (try dsimp only at hSw); go_simp; (try with_reducible rfl))
                        simp only [List.setIfInBounds_toArray, List.set_cons_succ, List.set_cons_zero]
                        refine take_q 150 (i := 6) (v := ?vv6c) rfl rfl (by kernel_rfl) (by kernel_rfl) (by kernel_rfl) (fun _ _ _ h => h) (Or.inl ⟨by rfl, ?yy6c⟩) (by assumption) ?rr6c
                        case yy6c => (intro w9 hSw; (try dsimp only at hSw); go_simp; (try with_reducible rfl))
                        simp only [List.setIfInBounds_toArray, List.set_cons_succ, List.set_cons_zero]
                        refine take_q 151 (i := 7) (v := ?vv7c) rfl rfl (by kernel_rfl) (by kernel_rfl) (by kernel_rfl) (fun _ _ _ h => h) (Or.inl ⟨by rfl, ?yy7c⟩) (by assumption) ?rr7c
                        case yy7c => (intro w9 hSw; (try dsimp only at hSw); go_simp; (try with_reducible rfl))
                        simp only [List.setIfInBounds_toArray, List.set_cons_succ, List.set_cons_zero]
                        refine take_q 152 (i := 8) (v := ?vv8c) rfl rfl (by kernel_rfl) (by kernel_rfl) (by kernel_rfl) (fun _ _ _ h => h) (Or.inl ⟨by rfl, ?yy8c⟩) (by assumption) ?rr8c
                        case yy8c => (intro w9 hSw; (try dsimp only at hSw); go_simp; (try with_reducible rfl))
                        simp only [List.setIfInBounds_toArray, List.set_cons_succ, List.set_cons_zero]
                        refine take_q 153 (i := 9) (v := ?vv9c) rfl rfl (by kernel_rfl) (by kernel_rfl) (by kernel_rfl) (fun _ _ _ h => h) (Or.inl ⟨by rfl, ?yy9c⟩) (by assumption) ?rr9c
                        case yy9c => (intro w9 hSw; (try dsimp only at hSw); go_simp; (try with_reducible rfl))
                        simp only [List.setIfInBounds_toArray, List.set_cons_succ, List.set_cons_zero]
                        refine take_q 154 (i := 10) (v := ?vv10c) rfl rfl (by kernel_rfl) (by kernel_rfl) (by kernel_rfl) (fun _ _ _ h => h) (Or.inl ⟨by rfl, ?yy10c⟩) (by assumption) ?rr10c
                        case yy10c => (intro w9 hSw; (try dsimp only at hSw); go_simp; (try with_reducible rfl))
                        simp only [List.setIfInBounds_toArray, List.set_cons_succ, List.set_cons_zero]
                        refine take_q 155 (i := 11) (v := ?vv11c) rfl rfl (by kernel_rfl) (by kernel_rfl) (by kernel_rfl) (fun _ _ _ h => h) (Or.inl ⟨by rfl, ?yy11c⟩) (by assumption) ?rr11c
                        case yy11c => (intro w9 hSw; (try dsimp only at hSw); go_simp; (try with_reducible rfl))
                        simp only [List.setIfInBounds_toArray, List.set_cons_succ, List.set_cons_zero]
                        refine take_q 156 (i := 12) (v := ?vv12c) rfl rfl (by kernel_rfl) (by kernel_rfl) (by kernel_rfl) (fun _ _ _ h => h) (Or.inl ⟨by rfl, ?yy12c⟩) (by assumption) ?rr12c
                        case yy12c => (intro w9 hSw; (try dsimp only at hSw); go_simp; (try with_reducible rfl))
                        simp only [List.setIfInBounds_toArray, List.set_cons_succ, List.set_cons_zero]
                        refine take_q 157 (i := 13) (v := ?vv13c) rfl rfl (by kernel_rfl) (by kernel_rfl) (by kernel_rfl) (fun _ _ _ h => h) (Or.inl ⟨by rfl, ?yy13c⟩) (by assumption) ?rr13c
                        case yy13c => (intro w9 hSw; (try dsimp only at hSw); go_simp; (try with_reducible rfl))
                        simp only [List.setIfInBounds_toArray, List.set_cons_succ, List.set_cons_zero]
                        refine take_q 158 (i := 14) (v := ?vv14c) rfl rfl (by kernel_rfl) (by kernel_rfl) (by kernel_rfl) (fun _ _ _ h => h) (Or.inl ⟨by rfl, ?yy14c⟩) (by assumption) ?rr14c
                        case yy14c => (intro w9 hSw; (try dsimp only at hSw); go_simp; (try with_reducible rfl))
                        simp only [List.setIfInBounds_toArray, List.set_cons_succ, List.set_cons_zero]
                        refine take_q 159 (i := 15) (v := ?vv15c) rfl rfl (by kernel_rfl) (by kernel_rfl) (by kernel_rfl) (fun _ _ _ h => h) (Or.inl ⟨by rfl, ?yy15c⟩) (by assumption) ?rr15c
                        case yy15c => (intro w9 hSw; (try dsimp only at hSw); go_simp; (try with_reducible rfl))
                        simp only [List.setIfInBounds_toArray, List.set_cons_succ, List.set_cons_zero]
                        refine take_q 160 (i := 16) (v := ?vv16c) rfl rfl (by kernel_rfl) (by kernel_rfl) (by kernel_rfl) (fun _ _ _ h => h) (Or.inl ⟨by rfl, ?yy16c⟩) (by assumption) ?rr16c
                        case yy16c => (intro w9 hSw; (try dsimp only at hSw); go_simp; (try with_reducible rfl))
                        simp only [List.setIfInBounds_toArray, List.set_cons_succ, List.set_cons_zero]
                        refine take_q 161 (i := 17) (v := ?vv17c) rfl rfl (by kernel_rfl) (by kernel_rfl) (by kernel_rfl) (fun _ _ _ h => h) (Or.inl ⟨by rfl, ?yy17c⟩) (by assumption) ?rr17c
                        case yy17c => (intro w9 hSw; (try dsimp only at hSw); go_simp; (try with_reducible rfl))
                        simp only [List.setIfInBounds_toArray, List.set_cons_succ, List.set_cons_zero]
                        refine take_q 162 (i := 18) (v := ?vv18c) rfl rfl (by kernel_rfl) (by kernel_rfl) (by kernel_rfl) (fun _ _ _ h => h) (Or.inl ⟨by rfl, ?yy18c⟩) (by assumption) ?rr18c
                        case yy18c => (intro w9 hSw; (try dsimp only at hSw); go_simp; (try with_reducible rfl))
                        simp only [List.setIfInBounds_toArray, List.set_cons_succ, List.set_cons_zero]
                        refine take_q 163 (i := 19) (v := ?vv19c) rfl rfl (by kernel_rfl) (by kernel_rfl) (by kernel_rfl) (fun _ _ _ h => h) (Or.inl ⟨by rfl, ?yy19c⟩) (by assumption) ?rr19c
                        case yy19c => (intro w9 hSw; (try dsimp only at hSw); go_simp; (try with_reducible rfl))
                        simp only [List.setIfInBounds_toArray, List.set_cons_succ, List.set_cons_zero]
                        refine take_q 164 (i := 20) (v := ?vv20c) rfl rfl (by kernel_rfl) (by kernel_rfl) (by kernel_rfl) (fun _ _ _ h => h) (Or.inl ⟨by rfl, ?yy20c⟩) (by assumption) ?rr20c
                        case yy20c => (intro w9 hSw; (try dsimp only at hSw); go_simp; (try with_reducible rfl))
                        simp only [List.setIfInBounds_toArray, List.set_cons_succ, List.set_cons_zero]
                        refine take_q 165 (i := 21) (v := ?vv21c) rfl rfl (by kernel_rfl) (by kernel_rfl) (by kernel_rfl) (fun _ _ _ h => h) (Or.inl ⟨by rfl, ?yy21c⟩) (by assumption) ?rr21c
                        case yy21c => (intro w9 hSw; (try dsimp only at hSw); go_simp; (try with_reducible rfl))
                        simp only [List.setIfInBounds_toArray, List.set_cons_succ, List.set_cons_zero]
                        refine take_q 166 (i := 22) (v := ?vv22c) rfl rfl (by kernel_rfl) (by kernel_rfl) (by kernel_rfl) (fun _ _ _ h => h) (Or.inl ⟨by rfl, ?yy22c⟩) (by assumption) ?rr22c
                        case yy22c => (intro w9 hSw; (try dsimp only at hSw); go_simp; (try with_reducible rfl))
                        simp only [List.setIfInBounds_toArray, List.set_cons_succ, List.set_cons_zero]
                        refine take_q 167 (i := 23) (v := ?vv23c) rfl rfl (by kernel_rfl) (by kernel_rfl) (by kernel_rfl) (fun _ _ _ h => h) (Or.inl ⟨by rfl, ?yy23c⟩) (by assumption) ?rr23c
                        case yy23c => (intro w9 hSw; (try dsimp only at hSw); go_simp; (try with_reducible rfl))
                        simp only [List.setIfInBounds_toArray, List.set_cons_succ, List.set_cons_zero]
                        refine take_q 168 (i := 24) (v := ?vv24c) rfl rfl (by kernel_rfl) (by kernel_rfl) (by kernel_rfl) (fun _ _ _ h => h) (Or.inl ⟨by rfl, ?yy24c⟩) (by assumption) ?rr24c
                        case yy24c => (intro w9 hSw; (try dsimp only at hSw); go_simp; (try with_reducible rfl))
                        simp only [List.setIfInBounds_toArray, List.set_cons_succ, List.set_cons_zero]
                        refine take_q 169 (i := 25) (v := ?vv25c) rfl rfl (by kernel_rfl) (by kernel_rfl) (by kernel_rfl) (fun _ _ _ h => h) (Or.inl ⟨by rfl, ?yy25c⟩) (by assumption) ?rr25c
                        case yy25c => (intro w9 hSw; (try dsimp only at hSw); go_simp; (try with_reducible rfl))
                        simp only [List.setIfInBounds_toArray, List.set_cons_succ, List.set_cons_zero]
                        refine take_q 170 (i := 26) (v := ?vv26c) rfl rfl (by kernel_rfl) (by kernel_rfl) (by kernel_rfl) (fun _ _ _ h => h) (Or.inl ⟨by rfl, ?yy26c⟩) (by assumption) ?rr26c
                        case yy26c => (intro w9 hSw; (try dsimp only at hSw); go_simp; (try with_reducible rfl))
                        simp only [List.setIfInBounds_toArray, List.set_cons_succ, List.set_cons_zero]
                        refine take_q 171 (i := 27) (v := ?vv27c) rfl rfl (by kernel_rfl) (by kernel_rfl) (by kernel_rfl) (fun _ _ _ h => h) (Or.inl ⟨by rfl, ?yy27c⟩) (by assumption) ?rr27c
                        case yy27c => (intro w9 hSw; (try dsimp only at hSw); go_simp; (try with_reducible rfl))
                        simp only [List.setIfInBounds_toArray, List.set_cons_succ, List.set_cons_zero]
                        refine take_q 172 (i := 28) (v := ?vv28c) rfl rfl (by kernel_rfl) (by kernel_rfl) (by kernel_rfl) (fun _ _ _ h => h) (Or.inl ⟨by rfl, ?yy28c⟩) (by assumption) ?rr28c
                        case yy28c => (intro w9 hSw; (try dsimp only at hSw); go_simp; (try with_reducible rfl))
                        simp only [List.setIfInBounds_toArray, List.set_cons_succ, List.set_cons_zero]
                        refine take_q 173 (i := 29) (v := ?vv29c) rfl rfl (by kernel_rfl) (by kernel_rfl) (by kernel_rfl) (fun _ _ _ h => h) (Or.inl ⟨by rfl, ?yy29c⟩) (by assumption) ?rr29c
                        case yy29c => (intro w9 hSw; (try dsimp only at hSw); go_simp; (try with_reducible rfl))
                        simp only [List.setIfInBounds_toArray, List.set_cons_succ, List.set_cons_zero]
                        refine take_q 174 (i := 30) (v := ?vv30c) rfl rfl (by kernel_rfl) (by kernel_rfl) (by kernel_rfl) (fun _ _ _ h => h) (Or.inl ⟨by rfl, ?yy30c⟩) (by assumption) ?rr30c
                        case yy30c => (intro w9 hSw; (try dsimp only at hSw); go_simp; (try with_reducible rfl))
                        simp only [List.setIfInBounds_toArray, List.set_cons_succ, List.set_cons_zero]
                        refine take_q 175 (i := 31) (v := ?vv31c) rfl rfl (by kernel_rfl) (by kernel_rfl) (by kernel_rfl) (fun _ _ _ h => h) (Or.inl ⟨by rfl, ?yy31c⟩) (by assumption) ?rr31c
                        case yy31c => (intro w9 hSw; (try dsimp only at hSw); go_simp; (try with_reducible rfl))
                        simp only [List.setIfInBounds_toArray, List.set_cons_succ, List.set_cons_zero]
                        refine take_q 176 (i := 32) (v := ?vv32c) rfl rfl (by kernel_rfl) (by kernel_rfl) (by kernel_rfl) (fun _ _ _ h => h) (Or.inl ⟨by rfl, ?yy32c⟩) (by assumption) ?rr32c
                        case yy32c => (intro w9 hSw; (try dsimp only at hSw); go_simp; (try with_reducible rfl))
                        simp only [List.setIfInBounds_toArray, List.set_cons_succ, List.set_cons_zero]
                        refine take_q 177 (i := 33) (v := ?vv33c) rfl rfl (by kernel_rfl) (by kernel_rfl) (by kernel_rfl) (fun _ _ _ h => h) (Or.inl ⟨by rfl, ?yy33c⟩) (by assumption) ?rr33c
                        case yy33c => (intro w9 hSw; (try dsimp only at hSw); go_simp; (try with_reducible rfl))
                        simp only [List.setIfInBounds_toArray, List.set_cons_succ, List.set_cons_zero]
                        refine take_q 178 (i := 34) (v := ?vv34c) rfl rfl (by kernel_rfl) (by kernel_rfl) (by kernel_rfl) (fun _ _ _ h => h) (Or.inl ⟨by rfl, ?yy34c⟩) (by assumption) ?rr34c
                        case yy34c => (intro w9 hSw; (try dsimp only at hSw); go_simp; (try with_reducible rfl))
                        simp only [List.setIfInBounds_toArray, List.set_cons_succ, List.set_cons_zero]
                        refine take_q 179 (i := 35) (v := ?vv35c) rfl rfl (by kernel_rfl) (by kernel_rfl) (by kernel_rfl) (fun _ _ _ h => h) (Or.inl ⟨by rfl, ?yy35c⟩) (by assumption) ?rr35c
                        case yy35c => (intro w9 hSw; (try dsimp only at hSw); go_simp; (try with_reducible rfl))
                        simp only [List.setIfInBounds_toArray, List.set_cons_succ, List.set_cons_zero]
                        refine take_q 180 (i := 36) (v := ?vv36c) rfl rfl (by kernel_rfl) (by kernel_rfl) (by kernel_rfl) (fun _ _ _ h => h) (Or.inl ⟨by rfl, ?yy36c⟩) (by assumption) ?rr36c
                        case yy36c => (intro w9 hSw; (try dsimp only at hSw); go_simp; (try with_reducible rfl))
                        simp only [List.setIfInBounds_toArray, List.set_cons_succ, List.set_cons_zero]
                        refine wpAnyH_ready (rs := [1, 37]) (by kernel_rfl) (by simp) ?_
                        refine AllReadyH.cons (i := 1) (rs := [37]) rfl (fun K hK => ?_) (AllReadyH.cons (i := 37) (rs := []) rfl (fun K hK => ?_) AllReadyH.nil)
                        · go_simp
                          refine hK.out _ _ HKP.out (fun hHeld => ?_)
                          clear hK K
                          refine wpAnyH_ready (rs := [37]) (by kernel_rfl) (by simp) ?_
                          refine AllReadyH.cons rfl (fun K hK => ?_) AllReadyH.nil
                          go_simp
                          refine hK.out _ _ (HKA.out _) (fun hHeld => ?_)
                          clear hK K
                          refine wpAnyH_ready (rs := [38]) (by kernel_rfl) (by simp) ?_
                          refine AllReadyH.cons rfl (fun K hK => ?_) AllReadyH.nil
                          refine step_append_own rfl (.tmp 145) (.tmp 181) 22 rfl B 71 i0 (.agg #[.int .i64 0, .int .i64 0, .int .i64 0, .int .i64 0, .bool false]) 5 40 Try.underlying22 hi hz0 hz1 hz2 rfl (by decide) _ D.length _ (by simp [Act.eval]) (HOD.out.out.row.alloc _) ⟨Y.drew.heap.size, 0, none⟩ 1 1 [.int .i64 (f0 : Nat), .int .i64 (f1 : Nat), .int .i64 (f2 : Nat), .int .i64 (f3 : Nat), .bool xp] (by simp [Act.eval]) rfl (new_cell5 _ _ _ _ _ _ _) (cells_one [(⟨(f0 : Nat), (f1 : Nat), (f2 : Nat), (f3 : Nat), xp⟩ : Cr)]) (by unfold maxLen; omega) (by omega) (by simp; omega) ?_
                          intro v8 w8 hown8 hg8
                          have HOW8 : Hid (w8.ownsRow B 71 5 v8 (D.length + 1) (crossCells D ++ crossCells [(⟨(f0 : Nat), (f1 : Nat), (f2 : Nat), (f3 : Nat), xp⟩ : Cr)])) := hown8
                          have HG8 : Hid ((Y.drew.alloc (.cells #[.int .i64 (f0 : Nat), .int .i64 (f1 : Nat), .int .i64 (f2 : Nat), .int .i64 (f3 : Nat), .bool xp] 71)).grownBy w8 (Value.slice a3 D.length c3').ownBlock) := hg8
                          obtain ⟨a8, c8, ev8⟩ := own_capS HOW8.out
                          subst ev8
                          have hb8 := HOD.out.out.box8 hgDB HG8.out
                          have r0' : w8.cell? ⟨gD, 0, none⟩ = some (.slice a3 D.length c3') := block_cell hb8 rfl
                          have r1' : w8.frozen? ⟨gD, 0, none⟩ = false := block_frozen hb8
                          have r2' : gD < w8.heap.size := (Array.getElem?_eq_some_iff.1 hb8).1
                          have HKW := HKG.out _ _ HG8.out
                          have HKV := HKU.out _ (.slice a8 (D.length + 1) c8) HKW (by have h := HG8.out.size; have e := HYY.out; simp only [World.size_alloc] at h; omega)
                          clear hown8 hg8 hb8
                          refine hK.out _ _ HKW (fun hHeld => ?_)
                          clear hK K
                          refine take_q 183 (i := 39) (v := ?vv39d) rfl rfl (by kernel_rfl) (by kernel_rfl) (by kernel_rfl) (fun _ _ _ h => h) (Or.inl ⟨by rfl, ?yy39d⟩) (by assumption) ?rr39d
                          case yy39d => (intro w9 hSw; (try dsimp only at hSw); go_simp; (try with_reducible rfl))
                          simp only [List.setIfInBounds_toArray, List.set_cons_succ, List.set_cons_zero]
                          refine wpAnyH_ready (rs := [40]) (by kernel_rfl) (by simp) ?_
                          refine AllReadyH.cons rfl (fun K hK => ?_) AllReadyH.nil
                          go_simp
                          refine hK.out _ _ HKV (fun hHeld => ?_)
                          clear hK K
                          refine wpAnyH_done (by kernel_rfl) ?_ _
                          have HFIN : Hid (SbAt w N gW gS gN gD B #[.slice (some ⟨b, off, none⟩) C.length cap, .int .i64 loops] L (tgTo C G L N C.length 0) (rfTo P N N) (.slice a8 (D.length + 1) c8) (loops + (cQ : Nat)) (D ++ [(⟨(f0 : Nat), (f1 : Nat), (f2 : Nat), (f3 : Nat), xp⟩ : Cr)]) (w8.setCell ⟨gD, 0, none⟩ (.slice a8 (D.length + 1) c8))) := HOD.out.app rfl HOW8.out HG8.out
                          clear hHeld t0 r0' r1' HKW HKV
                          go_wp2
                          go_roundw
                          all_goals first
                            | (simp only [intOf]; omega)
                            | exact ⟨i + 1, .slice a8 (D.length + 1) c8, D ++ [(⟨(f0 : Nat), (f1 : Nat), (f2 : Nat), (f3 : Nat), xp⟩ : Cr)], by omega, by go_num, (HRN.out.symm : D ++ [(⟨(f0 : Nat), (f1 : Nat), (f2 : Nat), (f3 : Nat), xp⟩ : Cr)] = reTo C G (numM L P) (i + 1)), (by have := HDL.out; simp; omega), HFIN.out⟩
                        · go_simp
                          refine hK.out _ _ (HKA.out _) (fun hHeld => ?_)
                          clear hK K
                          refine wpAnyH_ready (rs := [1]) (by kernel_rfl) (by simp) ?_
                          refine AllReadyH.cons rfl (fun K hK => ?_) AllReadyH.nil
                          go_simp
                          refine hK.out _ _ (HKA.out _) (fun hHeld => ?_)
                          clear hK K
                          refine wpAnyH_ready (rs := [38]) (by kernel_rfl) (by simp) ?_
                          refine AllReadyH.cons rfl (fun K hK => ?_) AllReadyH.nil
                          refine step_append_own rfl (.tmp 145) (.tmp 181) 22 rfl B 71 i0 (.agg #[.int .i64 0, .int .i64 0, .int .i64 0, .int .i64 0, .bool false]) 5 40 Try.underlying22 hi hz0 hz1 hz2 rfl (by decide) _ D.length _ (by simp [Act.eval]) (HOD.out.out.row.alloc _) ⟨Y.drew.heap.size, 0, none⟩ 1 1 [.int .i64 (f0 : Nat), .int .i64 (f1 : Nat), .int .i64 (f2 : Nat), .int .i64 (f3 : Nat), .bool xp] (by simp [Act.eval]) rfl (new_cell5 _ _ _ _ _ _ _) (cells_one [(⟨(f0 : Nat), (f1 : Nat), (f2 : Nat), (f3 : Nat), xp⟩ : Cr)]) (by unfold maxLen; omega) (by omega) (by simp; omega) ?_
                          intro v8 w8 hown8 hg8
                          have HOW8 : Hid (w8.ownsRow B 71 5 v8 (D.length + 1) (crossCells D ++ crossCells [(⟨(f0 : Nat), (f1 : Nat), (f2 : Nat), (f3 : Nat), xp⟩ : Cr)])) := hown8
                          have HG8 : Hid ((Y.drew.alloc (.cells #[.int .i64 (f0 : Nat), .int .i64 (f1 : Nat), .int .i64 (f2 : Nat), .int .i64 (f3 : Nat), .bool xp] 71)).grownBy w8 (Value.slice a3 D.length c3').ownBlock) := hg8
                          obtain ⟨a8, c8, ev8⟩ := own_capS HOW8.out
                          subst ev8
                          have hb8 := HOD.out.out.box8 hgDB HG8.out
                          have r0' : w8.cell? ⟨gD, 0, none⟩ = some (.slice a3 D.length c3') := block_cell hb8 rfl
                          have r1' : w8.frozen? ⟨gD, 0, none⟩ = false := block_frozen hb8
                          have r2' : gD < w8.heap.size := (Array.getElem?_eq_some_iff.1 hb8).1
                          have HKW := HKG.out _ _ HG8.out
                          have HKV := HKU.out _ (.slice a8 (D.length + 1) c8) HKW (by have h := HG8.out.size; have e := HYY.out; simp only [World.size_alloc] at h; omega)
                          clear hown8 hg8 hb8
                          refine hK.out _ _ HKW (fun hHeld => ?_)
                          clear hK K
                          refine take_q 183 (i := 39) (v := ?vv39e) rfl rfl (by kernel_rfl) (by kernel_rfl) (by kernel_rfl) (fun _ _ _ h => h) (Or.inl ⟨by rfl, ?yy39e⟩) (by assumption) ?rr39e
                          case yy39e => (intro w9 hSw; (try dsimp only at hSw); go_simp; (try with_reducible rfl))
                          simp only [List.setIfInBounds_toArray, List.set_cons_succ, List.set_cons_zero]
                          refine wpAnyH_ready (rs := [40]) (by kernel_rfl) (by simp) ?_
                          refine AllReadyH.cons rfl (fun K hK => ?_) AllReadyH.nil
                          go_simp
                          refine hK.out _ _ HKV (fun hHeld => ?_)
                          clear hK K
                          refine wpAnyH_done (by kernel_rfl) ?_ _
                          have HFIN : Hid (SbAt w N gW gS gN gD B #[.slice (some ⟨b, off, none⟩) C.length cap, .int .i64 loops] L (tgTo C G L N C.length 0) (rfTo P N N) (.slice a8 (D.length + 1) c8) (loops + (cQ : Nat)) (D ++ [(⟨(f0 : Nat), (f1 : Nat), (f2 : Nat), (f3 : Nat), xp⟩ : Cr)]) (w8.setCell ⟨gD, 0, none⟩ (.slice a8 (D.length + 1) c8))) := HOD.out.app rfl HOW8.out HG8.out
                          clear hHeld t0 r0' r1' HKW HKV
                          go_wp2
                          go_roundw
                          all_goals first
                            | (simp only [intOf]; omega)
                            | exact ⟨i + 1, .slice a8 (D.length + 1) c8, D ++ [(⟨(f0 : Nat), (f1 : Nat), (f2 : Nat), (f3 : Nat), xp⟩ : Cr)], by omega, by go_num, (HRN.out.symm : D ++ [(⟨(f0 : Nat), (f1 : Nat), (f2 : Nat), (f3 : Nat), xp⟩ : Cr)] = reTo C G (numM L P) (i + 1)), (by have := HDL.out; simp; omega), HFIN.out⟩
                    · obtain rfl : i = C.length := by omega
                      have hdi : decide ((C.length : Int) < (C.length : Int)) = false := by simp
                      have hdi2 : decide (C.length < C.length) = false := by simp
                      have HDE : Hid (reTo C G (numM L (thG C G L C.length 0)) C.length = D) := (by rw [HPQ.out.1]; exact hDe.out.symm : reTo C G (numM L (thG C G L C.length 0)) C.length = D)
                      have HQE : Hid (cntB (nfB L (thG C G L C.length 0)) N = cQ) := (by rw [HPQ.out.1, HPQ.out.2]; exact HCP.out.2 : cntB (nfB L (thG C G L C.length 0)) N = cQ)
                      have HP6 : Hid (SbAt w N gW gS gN gD B #[.slice (some ⟨b, off, none⟩) C.length cap, .int .i64 loops] L (tgTo C G L N C.length 0) (rfTo P N N) v (loops + (cQ : Nat)) D W6) := hp.out
                      clear hDe hp
                      obtain ⟨a3, c3', ev3⟩ := own_capS HP6.out.out.row
                      subst ev3
                      have hlS := HP6.out.sa.ltS
                      have hne := HP6.out.ne
                      have t0 : W6.cell? ⟨gD, 0, none⟩ = some (.slice a3 D.length c3') := block_cell HP6.out.out.box rfl
                      have t1 : W6.cell? ⟨gD, 1, none⟩ = some (.int .i64 (loops + (cQ : Int))) := block_cell HP6.out.out.box rfl
                      have t2 : W6.cell? ⟨w.heap.size + 1, 0, none⟩ = some (.slice none 0 0) := block_cell HP6.out.sa.res rfl
                      have t3 : W6.cell? ⟨w.heap.size + 1, 1, none⟩ = some (.int .i64 0) := block_cell HP6.out.sa.res rfl
                      have f0 : W6.frozen? ⟨w.heap.size + 1, 0, none⟩ = false := block_frozen HP6.out.sa.res
                      have f1 : W6.frozen? ⟨w.heap.size + 1, 1, none⟩ = false := block_frozen HP6.out.sa.res
                      have l7 : gD < W6.heap.size := by omega
                      have l8 : w.heap.size + 1 < W6.heap.size := by omega
                      go_wp2
                      have hX := set_block (i := 1) (u := .int .i64 (loops + (cQ : Int))) (set_block (i := 0) (u := .slice a3 D.length c3') HP6.out.sa.res)
                      have x0 := block_cell (i := 0) (v := .slice a3 D.length c3') hX rfl
                      have x1 := block_cell (i := 1) (v := .int .i64 (loops + (cQ : Int))) hX rfl
                      have hgg := st2_grown W6 (w.heap.size + 1) 0 (.slice a3 D.length c3') (.int .i64 (loops + (cQ : Int)))
                      have hk' := HP6.out.out.row.kept hgg (by
                        cases hv : (Value.slice a3 D.length c3').ownBlock with
                        | none => exact Or.inl rfl
                        | some k => exact Or.inr (fun e => by have h1 := (HP6.out.out.row.lt k hv).1; have h2 := Option.some.inj e; omega))
                      refine bodyPost_ret (v := .agg #[.slice a3 D.length c3', .int .i64 (loops + (cQ : Int))]) (by simp [results, Try.results36, go_sem, x0, x1]) rfl ?_
                      rw [HDE.out, HQE.out]
                      exact ⟨_, rfl, own_low hk' (by omega), hbel.grown hgg (by omega) (fun q hq => by have := Option.some.inj hq; omega)⟩
end Go.Proofs.Ytagaajlbkfkaiaa

/- The walks of braid.formOf, Normal and Equal. -/
import Derived.Test.YthlmkoiilgjflaaGB6
import Derived.Test.YthlmkoiilgjflaaGC0P
namespace Go.Proofs.Ythlmkoiilgjflaa
open Go.RowKit

/-- What formOf tells. -/
structure FmOut (W : World) (n : Nat) (l : List Int) (a : Option Addr) (m cap : Nat) : Prop where
  ln : (nfW n l).2.length = m
  rd : IntsRd W W.heap.size (.slice a m cap) ((nfW n l).2.reverse.map (eI n))
theorem IntsRd.onG {W W' : World} {B : Nat} {v : Value} {L : List (List Int)} (h : IntsRd W B v L) (hb : Below B W W') : IntsRd W' B v L := by
  obtain ⟨ys, h1, h2, h3⟩ := h
  exact ⟨ys, h1, h2.on hb, fun j hj => (h3 j hj).on hb⟩
theorem IntsRd.monoG {W : World} {B B' : Nat} {v : Value} {L : List (List Int)} (h : IntsRd W B v L) (hB : B ≤ B') : IntsRd W B' v L := by
  obtain ⟨ys, h1, h2, h3⟩ := h
  exact ⟨ys, h1, h2.mono hB, fun j hj => (h3 j hj).mono hB⟩
theorem FmOut.on {W W' : World} {n : Nat} {l : List Int} {a : Option Addr} {m cap : Nat} (h : FmOut W n l a m cap) (hb : Below W.heap.size W W') : FmOut W' n l a m cap := ⟨h.ln, (h.rd.onG hb).monoG hb.size⟩

set_option maxHeartbeats 8000000 in
set_option maxRecDepth 100000 in
theorem formOf_any (n c : Nat) (a : Option Addr) (l : List Int) (w : World) (h2 : 2 ≤ n) (h6 : n ≤ 6) (hl : l.length ≤ 100) (hw : ∀ j, j < l.length → LtN n (l.getD j 0)) (h : RdAt w w.heap.size 1 (.slice a l.length c) l.length (intsV l)) :
    Calls Try.prog 9 #[.int .i64 (n : Nat), .slice a l.length c] w fun e w' => ∃ a2 m cap, e = .returned (.agg #[.int .i64 (n : Nat), .int .i64 (nfW n l).1, .slice a2 m cap]) ∧ FmOut w' n l a2 m cap ∧ Below w.heap.size w w' := by
  have HRD := hid_g h
  have HW := hid_g hw
  obtain ⟨m, hm⟩ : ∃ m, l.length = m := ⟨_, rfl⟩
  have HM := hid_g hm
  rw [hm] at hl ⊢
  obtain ⟨V, hV⟩ : ∃ V, V = (w.alloc (.cells #[.int .i64 0, .int .i64 0, .slice none 0 0] 33)).alloc (.cells #[.int .i64 (n : Nat), .int .i64 0, .slice none 0 0] 33) := ⟨_, rfl⟩
  have HV := hid_g hV
  have HBV : Hid (Below w.heap.size w V) := (by rw [hV]; exact below2 _ _ _ : Below w.heap.size w V)
  have HR0 : Hid (V.heap[w.heap.size]? = some (.cells #[.int .i64 0, .int .i64 0, .slice none 0 0] 33 (0, 0))) := (by rw [hV]; exact alloc_old (alloc_at rfl) : V.heap[w.heap.size]? = some (.cells #[.int .i64 0, .int .i64 0, .slice none 0 0] 33 (0, 0)))
  have hb1 : V.heap[w.heap.size + 1]? = some (.cells #[.int .i64 (n : Nat), .int .i64 0, .slice none 0 0] 33 (0, 0)) := by rw [hV]; exact alloc_at (by simp)
  have hs1 : V.heap.size = w.heap.size + 2 := by rw [hV]; simp
  have HF0 : Hid (FmAt V (w.heap.size + 2) (w.heap.size + 1) n (rawF n l 0).1 none 0 (rawF n l 0).2) := ⟨hb1, ⟨[], World.ownsRow_nil _ _ _ _, fun j hj => by exact absurd hj (Nat.not_lt_zero _)⟩, by omega, by omega⟩
  clear h hw hm hV hb1 hs1
  go_enter Try.func9, Try.ntmps9
  go_upto_region 2 with (fail)
  rw [← HV.out]
  go_wp2
  go_loopw [7, 12] (fun v7 v12 wr => ∃ (k cap : Nat) (a : Option Addr), k ≤ m ∧ v12 = .int .i64 (k : Nat) ∧ Hid (FmAt wr (w.heap.size + 2) (w.heap.size + 1) n (rawF n l k).1 a cap (rawF n l k).2) ∧ Hid (wr.heap[w.heap.size]? = some (.cells #[.int .i64 0, .int .i64 0, .slice none 0 0] 33 (0, 0)) ∧ Below w.heap.size w wr)) (fun _ v12 _ => m - (intOf v12).toNat)
  case atStart => exact ⟨0, 0, none, Nat.zero_le _, rfl, HF0.out, HR0.out, HBV.out⟩
  case round =>
    clear HF0 HR0 HBV HV
    rename World => W1
    obtain ⟨k, cap, a1, hkm, rfl, hq, hb⟩ := hrel
    obtain ⟨bl, bp1, bp2⟩ := rawF_bound n l k (by rw [HM.out]; exact hkm)
    have hok := rawF_ok n l HW.out k (by rw [HM.out]; exact hkm)
    by_cases hk : k < m
    · have hkI : (k : Int) < (m : Int) := by omega
      obtain ⟨b, off, ea, hlt, hc⟩ := (HRD.out.on hb.out.2).intAt k (by rw [HM.out]; exact hk)
      have lb : b < W1.heap.size := Nat.lt_of_lt_of_le hlt hb.out.2.size
      have HAD := hid_g (add_any (w.heap.size + 2) (w.heap.size + 1) n cap (rawF n l k).1 (l.getD k 0) a1 (rawF n l k).2 W1 h2 h6 (by omega) (by rw [bl]; omega) hok.all (HW.out k (by rw [HM.out]; exact hk)) hq.out)
      rw [← rawF_next n l k (by rw [HM.out]; exact hk)] at HAD
      generalize l.getD k 0 = x at hc HAD
      subst ea
      clear hok bl bp1 bp2 hq
      go_wp2_with (first
        | (go_at_call 17; refine HAD.out.mono ?_; rintro e9 w5 ⟨rfl, ⟨a5, c5, hf5⟩, hb5⟩; refine Hid.out ?_))
      refine Lib.hid ?_
      have HF5 := hid_g hf5
      have HR5 : Hid (w5.heap[w.heap.size]? = some (.cells #[.int .i64 0, .int .i64 0, .slice none 0 0] 33 (0, 0)) ∧ Below w.heap.size w w5) := ⟨(hb5.block _ (by omega)).trans hb.out.1, hb.out.2.trans (hb5.mono (by omega))⟩
      clear hf5 hb5 HAD
      go_wp2
      go_roundw
      case rel => exact ⟨k + 1, c5, a5, by omega, by go_num, HF5.out, HR5.out.1, HR5.out.2⟩
      case measure => simp only [intOf]; omega
    · obtain rfl : k = m := by omega
      have HTR := hid_g (trim_any (w.heap.size + 2) (w.heap.size + 1) n cap (rawF n l k).1 a1 (rawF n l k).2 W1 h2 h6 (by omega) (by rw [bl]; omega) hok.all hq.out)
      have HIS : Hid ((rawF n l k).1 + ((nfL n (rawF n l k).2.reverse).1 : Nat) = (nfW n l).1 ∧ (nfL n (rawF n l k).2.reverse).2 = (nfW n l).2) := (by
        have h3 := hok.is
        have e : l.take k = l := by rw [← HM.out, List.take_length]
        rw [e] at h3
        exact ⟨congrArg Prod.fst h3, congrArg Prod.snd h3⟩)
      rw [HIS.out.1, HIS.out.2] at HTR
      clear hok bl bp1 bp2 hq HIS
      go_wp2_with (first
        | (go_at_call 18; refine HTR.out.mono ?_; rintro e9 w5 ⟨rfl, ⟨a5, c5, hf5⟩, hb5⟩; refine Hid.out ?_))
      refine Lib.hid ?_
      have HF5 := hid_g hf5
      have HR5 : Hid (w5.heap[w.heap.size]? = some (.cells #[.int .i64 0, .int .i64 0, .slice none 0 0] 33 (0, 0))) := ((hb5.block _ (by omega)).trans hb.out.1 : w5.heap[w.heap.size]? = some (.cells #[.int .i64 0, .int .i64 0, .slice none 0 0] 33 (0, 0)))
      have HB5 := hid_g (hb.out.2.trans (hb5.mono (show w.heap.size ≤ w.heap.size + 1 by omega)))
      obtain ⟨c0, c1, c2, -, -⟩ := HF5.out.cells
      have lb5 := HF5.out.boxlt
      have lr5 : w.heap.size < w5.heap.size := (Array.getElem?_eq_some_iff.1 HR5.out).1
      have r0 : w5.cell? ⟨w.heap.size, 0, none⟩ = some (.int .i64 0) := block_cell HR5.out rfl
      have r1 : w5.cell? ⟨w.heap.size, 1, none⟩ = some (.int .i64 0) := block_cell HR5.out rfl
      have r2 : w5.cell? ⟨w.heap.size, 2, none⟩ = some (.slice none 0 0) := block_cell HR5.out rfl
      have f0 : w5.frozen? ⟨w.heap.size, 0, none⟩ = false := block_frozen HR5.out
      have f1 : w5.frozen? ⟨w.heap.size, 1, none⟩ = false := block_frozen HR5.out
      have f2 : w5.frozen? ⟨w.heap.size, 2, none⟩ = false := block_frozen HR5.out
      obtain ⟨L, hL⟩ : ∃ L, (nfW n l).2.reverse = L := ⟨_, rfl⟩
      obtain ⟨q, hq⟩ : ∃ q, L.length = q := ⟨_, rfl⟩
      rw [hL] at c2 HF5
      rw [hq] at c2
      have HL := hid_g hL
      have HQ := hid_g hq
      obtain ⟨pp, hpp⟩ : ∃ pp, (nfW n l).1 = pp := ⟨_, rfl⟩
      rw [hpp] at c1 HF5
      have HPP := hid_g hpp
      clear hf5 hb5 HTR hb hL hq hpp
      go_wp2
      have hX := set_block (i := 2) (u := .slice a5 q c5) (set_block (i := 1) (u := .int .i64 pp) (set_block (i := 0) (u := .int .i64 (n : Nat)) HR5.out))
      have x0 := block_cell (i := 0) (v := .int .i64 (n : Nat)) hX rfl
      have x1 := block_cell (i := 1) (v := .int .i64 pp) hX rfl
      have x2 := block_cell (i := 2) (v := .slice a5 q c5) hX rfl
      have hg : w5.grownBy (((w5.setCell ⟨w.heap.size, 0, none⟩ (.int .i64 (n : Nat))).setCell ⟨w.heap.size, 1, none⟩ (.int .i64 pp)).setCell ⟨w.heap.size, 2, none⟩ (.slice a5 q c5)) (some w.heap.size) := grown_trans (grown_trans (set_grown _ _ _ _) (set_grown _ _ _ _)) (set_grown _ _ _ _)
      have hFF := HF5.out.other hg (noInt_at HR5.out (by decide)) (fun q e => by have := Option.some.inj e; omega) (fun q e e2 => by
        obtain ⟨ys, hy, -⟩ := HF5.out.own
        have h3 := (hy.lt q e2).1
        have := Option.some.inj e
        omega)
      have hin := hFF.ints
      rw [HQ.out] at hin
      refine bodyPost_ret (v := .agg #[.int .i64 (n : Nat), .int .i64 pp, .slice a5 q c5]) (by simp [results, Try.results9, go_sem, x0, x1, x2]) rfl ⟨a5, q, c5, by rw [HPP.out], ⟨?_, ?_⟩, HB5.out.grown hg HB5.out.size (fun k hk => by have := Option.some.inj hk; omega)⟩
      · rw [← HQ.out, ← HL.out, List.length_reverse]
      · rw [HL.out]
        exact hin

set_option maxHeartbeats 4000000 in
set_option maxRecDepth 100000 in
theorem normal_yes (n c : Nat) (a : Option Addr) (l : List Int) (w : World) (hn : wordN (n : Int) l = 0) (h : RdAt w w.heap.size 1 (.slice a l.length c) l.length (intsV l)) :
    Calls Try.prog 4 #[.int .i64 (n : Nat), .slice a l.length c] w fun e w' => ∃ a2 m cap, e = .returned (.tuple #[.int .i64 (nfW n l).1, .slice a2 m cap, .int .i64 0]) ∧ FmOut w' n l a2 m cap ∧ Below w.heap.size w w' := by
  obtain ⟨n2, n6, hlet, hl20⟩ := wordN_ok hn
  obtain ⟨Y, hY⟩ : ∃ Y, Y = w.alloc (.cells #[.slice a l.length c] 22) := ⟨_, rfl⟩
  have HY : Hid (Y = w.alloc (.cells #[.slice a l.length c] 22)) := hY
  have HBY : Hid (Below w.heap.size w Y) := (by rw [hY]; exact (Below.refl _ _).alloc (Nat.le_refl _) _ : Below w.heap.size w Y)
  have hqY : Y.heap[w.heap.size]? = some (.cells #[.slice a l.length c] 22 (0, 0)) := by rw [hY]; exact alloc_at rfl
  have HRF := hid_g (refusal_one (n : Int) (by omega) h HBY.out hqY)
  rw [hn] at HRF
  have HFO := hid_g (fun W (hW : Below w.heap.size w W) => formOf_any n c a l W (by omega) (by omega) (by omega) (fun j hj => by have h3 := hlet j hj; exact ⟨by omega, by omega⟩) ((h.on hW).mono hW.size))
  obtain ⟨m0, hm0⟩ : ∃ m0, l.length = m0 := ⟨_, rfl⟩
  rw [hm0] at HFO HY ⊢
  obtain ⟨pp, hpp⟩ : ∃ pp, (nfW n l).1 = pp := ⟨_, rfl⟩
  rw [hpp] at HFO ⊢
  clear hpp
  clear h hqY hY hlet
  go_enter Try.func4, Try.ntmps4
  go_wp2_with (first | (rw [← HY.out]; go_at_call 8; refine HRF.out.mono ?_; rintro e9 w5 ⟨rfl, hb5⟩; refine Hid.out ?_))
  refine Lib.hid ?_
  have HB5 := hid_g (HBY.out.trans (hb5.mono HBY.out.size))
  have HF5 := hid_g (HFO.out w5 HB5.out)
  clear hb5 HRF HFO HBY HY
  go_wp2_with (first | (go_at_call 9; refine HF5.out.mono ?_; rintro e9 w6 ⟨a6, m6, c6, rfl, ho6, hb6⟩; refine Hid.out ?_))
  refine Lib.hid ?_
  have HO6 := hid_g ho6
  have HB6 := hid_g (HB5.out.trans (hb6.mono HB5.out.size))
  have HBZ : Hid (∀ cs k, Below w6.heap.size w6 ((w6.alloc (.cells cs 33)).drewN k)) := fun cs k => below_drewN ((Below.refl _ _).alloc (Nat.le_refl _) _) k
  clear ho6 hb6 HF5
  go_wp2
  go_quiet (fail)
  have HFN : Hid (FmOut ((w6.alloc (.cells #[.int .i64 (n : Nat), .int .i64 pp, .slice a6 m6 c6] 33)).drewN nq) n l a6 m6 c6 ∧ Below w.heap.size w ((w6.alloc (.cells #[.int .i64 (n : Nat), .int .i64 pp, .slice a6 m6 c6] 33)).drewN nq)) := ⟨HO6.out.on (HBZ.out _ _), HB6.out.trans ((HBZ.out _ _).mono HB6.out.size)⟩
  go_wp2
  go_ret3
  exact ⟨a6, m6, c6, rfl, HFN.out⟩
end Go.Proofs.Ythlmkoiilgjflaa

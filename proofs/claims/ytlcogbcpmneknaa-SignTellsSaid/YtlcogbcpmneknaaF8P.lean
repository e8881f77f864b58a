/- Several texts of the proof, one behind the other. -/
import Derived.Test.YtlcogbcpmneknaaF7
import Derived.Test.YtlcogbcpmneknaaF6
import Derived.Deep.RegionWith
/- The walk of Drawing.Pieces. -/
namespace Go.Proofs.Ytlcogbcpmneknaa
open Go.RowKit

def negTo (n i : Nat) : List Int := (List.range n).map fun v => if v < i then -1 else 0
theorem negTo_zero (n : Nat) : List.replicate n (0 : Int) = negTo n 0 := by
  refine List.ext_getElem (by simp [negTo]) fun j h1 h2 => ?_
  simp [negTo]
theorem negTo_next (n i : Nat) : (negTo n i).set i (-1) = negTo n (i + 1) := by
  refine List.ext_getElem (by simp [negTo]) fun j h1 h2 => ?_
  simp only [List.getElem_set, negTo, List.getElem_map, List.getElem_range]
  split
  · rename_i h; subst h; simp
  · rename_i h
    by_cases h3 : j < i
    · rw [if_pos h3, if_pos (by omega)]
    · rw [if_neg h3, if_neg (by omega)]
theorem negTo_all (n : Nat) : negTo n n = List.replicate n (-1) := by
  refine List.ext_getElem (by simp [negTo]) fun j h1 h2 => ?_
  simp only [negTo, List.getElem_map, List.getElem_range, List.getElem_replicate]
  rw [if_pos (by simpa [negTo] using h1)]

set_option maxHeartbeats 16000000 in
set_option maxRecDepth 100000 in
theorem pieces_any (a : Option Addr) (cap : Nat) (C : List Cr) (loops : Int) (gF cF gT cT : Nat) (w : World) (hm : mayD C loops = true) (hD : Dr w a cap C gF gT) :
    Calls Try.prog 41 #[drV a cap C loops gF cF gT cT] w fun e w' => ∃ gP cP P c, e = .returned (.tuple #[.slice (some ⟨gP, 0, none⟩) C.length cP, .int .i64 (c : Nat)]) ∧ w'.ownsRow w.heap.size 3 1 (.slice (some ⟨gP, 0, none⟩) C.length cP) C.length (intsV P) ∧ PcsAll C P c ∧ Below w.heap.size w w' := by
  obtain ⟨s1, -, -, -⟩ := sizeB_iff (may_size hm)
  obtain ⟨i2, hk, hx0, hx1, hx2⟩ := info_parts infoInt
  have HM : Hid (mayD C loops = true) := hm
  have HD : Hid (Dr w a cap C gF gT) := hD
  unfold drV
  clear hm hD
  obtain ⟨w0, hw0⟩ : ∃ w0, w0 = w.alloc (.cells #[.slice a C.length cap, .int .i64 loops, .slice (some ⟨gF, 0, none⟩) (2 * C.length + 1) cF, .slice (some ⟨gT, 0, none⟩) (2 * C.length + 1) cT] 39) := ⟨_, rfl⟩
  have HW0 : Hid (w0 = w.alloc (.cells #[.slice a C.length cap, .int .i64 loops, .slice (some ⟨gF, 0, none⟩) (2 * C.length + 1) cF, .slice (some ⟨gT, 0, none⟩) (2 * C.length + 1) cT] 39)) := hw0
  have hs0 : w0.heap.size = w.heap.size + 1 := by rw [hw0]; simp
  have HB0 : Hid (Below w.heap.size w w0) := (by rw [hw0]; exact (Below.refl _ _).alloc (Nat.le_refl _) _ : Below w.heap.size w w0)
  have HT0 : Hid (w0.heap[w.heap.size]? = some (.cells #[.slice a C.length cap, .int .i64 loops, .slice (some ⟨gF, 0, none⟩) (2 * C.length + 1) cF, .slice (some ⟨gT, 0, none⟩) (2 * C.length + 1) cT] 39 (0, 0))) := (by rw [hw0]; exact alloc_at rfl : w0.heap[w.heap.size]? = some (.cells #[.slice a C.length cap, .int .i64 loops, .slice (some ⟨gF, 0, none⟩) (2 * C.length + 1) cF, .slice (some ⟨gT, 0, none⟩) (2 * C.length + 1) cT] 39 (0, 0)))
  clear hw0
  go_enter Try.func41, Try.ntmps41
  go_wp2_with (first | (at_make; refine wpList_make_full _ rfl _ _ 41 rfl (w.heap.size + 1) 3 i2 (.int .i64 0) 1 Try.underlying41 hk hx0 hx1 .i64 .i64 _ _ C.length rfl rfl rfl rfl (by rw [hx2]; omega) (by unfold maxLen; omega) (by simp) ?_; intro w1 hrow hg1; refine Hid.out ?_))
  refine Lib.hid ?_
  rw [← HW0.out] at hrow hg1
  rw [made_zero, hs0, negTo_zero] at hrow
  have HP0 : Hid (w1.heap[w.heap.size]? = some (.cells #[.slice a C.length cap, .int .i64 loops, .slice (some ⟨gF, 0, none⟩) (2 * C.length + 1) cF, .slice (some ⟨gT, 0, none⟩) (2 * C.length + 1) cT] 39 (0, 0)) ∧ w1.ownsRow (w.heap.size + 1) 3 1 (.slice (some ⟨w.heap.size + 1, 0, none⟩) C.length C.length) C.length (intsV (negTo C.length 0)) ∧ Below w.heap.size w w1) := ⟨(hg1.block _ (by omega) (by simp)).trans HT0.out, hrow, HB0.out.grown hg1 (by omega) (fun k hk => by cases hk)⟩
  clear hrow hg1 HT0 HB0 hs0 HW0
  go_wp2
  go_loopw [15] (fun v15 wr => ∃ i : Nat, i ≤ C.length ∧ v15 = .int .i64 (i : Nat) ∧ Hid (wr.heap[w.heap.size]? = some (.cells #[.slice a C.length cap, .int .i64 loops, .slice (some ⟨gF, 0, none⟩) (2 * C.length + 1) cF, .slice (some ⟨gT, 0, none⟩) (2 * C.length + 1) cT] 39 (0, 0)) ∧ wr.ownsRow (w.heap.size + 1) 3 1 (.slice (some ⟨w.heap.size + 1, 0, none⟩) C.length C.length) C.length (intsV (negTo C.length i)) ∧ Below w.heap.size w wr)) (fun v15 _ => C.length - (intOf v15).toNat)
  case atStart => exact ⟨0, Nat.zero_le _, rfl, HP0.out⟩
  case round =>
    clear HP0
    rename World => W1
    obtain ⟨i, hin, rfl, hp⟩ := hrel
    have hlt := hp.out.2.1.lt (w.heap.size + 1) rfl
    by_cases hil : i < C.length
    · have hst := hp.out.2.1.stored i (.int .i64 (-1))
      rw [intsV_set, negTo_next] at hst
      have HST : Hid ((W1.setCell ⟨w.heap.size + 1, i, none⟩ (.int .i64 (-1))).heap[w.heap.size]? = some (.cells #[.slice a C.length cap, .int .i64 loops, .slice (some ⟨gF, 0, none⟩) (2 * C.length + 1) cF, .slice (some ⟨gT, 0, none⟩) (2 * C.length + 1) cT] 39 (0, 0)) ∧ (W1.setCell ⟨w.heap.size + 1, i, none⟩ (.int .i64 (-1))).ownsRow (w.heap.size + 1) 3 1 (.slice (some ⟨w.heap.size + 1, 0, none⟩) C.length C.length) C.length (intsV (negTo C.length (i + 1))) ∧ Below w.heap.size w (W1.setCell ⟨w.heap.size + 1, i, none⟩ (.int .i64 (-1)))) := ⟨(hst.2.block _ (by omega) (fun e => by have : w.heap.size = w.heap.size + 1 := Option.some.inj e; omega)).trans hp.out.1, hst.1, hp.out.2.2.grown hst.2 hp.out.2.2.size (fun q hq => by have := Option.some.inj hq; omega)⟩
      have e0 : W1.cell? ⟨w.heap.size + 1, i, none⟩ = some (.int .i64 ((negTo C.length i).getD i 0)) := by
        rw [hp.out.2.1.cellAt i (by omega)]; exact intsV_get _ i (by simp [negTo]; omega)
      have z0 : W1.frozen? ⟨w.heap.size + 1, i, none⟩ = false := hp.out.2.1.frozenAt i
      clear hst
      go_wp2
      go_roundw
      case rel => exact ⟨i + 1, by omega, by go_num, HST.out⟩
      case measure => simp only [intOf]; omega
    · obtain rfl : i = C.length := by omega
      have HPC : Hid (Pcs C (negTo C.length C.length) 0 0) := Pcs.start C _ (negTo_all _) (arcE_lt HM.out)
      have HP1 : Hid (W1.heap[w.heap.size]? = some (.cells #[.slice a C.length cap, .int .i64 loops, .slice (some ⟨gF, 0, none⟩) (2 * C.length + 1) cF, .slice (some ⟨gT, 0, none⟩) (2 * C.length + 1) cT] 39 (0, 0)) ∧ W1.ownsRow (w.heap.size + 1) 3 1 (.slice (some ⟨w.heap.size + 1, 0, none⟩) C.length C.length) C.length (intsV (negTo C.length C.length)) ∧ Below w.heap.size w W1) := hp.out
      clear hp
      go_wp2
      go_loopw [6, 24] (fun v6 v24 wr => ∃ (k c : Nat) (P : List Int), k ≤ C.length ∧ v24 = .int .i64 (k : Nat) ∧ v6 = .int .i64 (c : Nat) ∧ Hid (Pcs C P c k) ∧ Hid (wr.heap[w.heap.size]? = some (.cells #[.slice a C.length cap, .int .i64 loops, .slice (some ⟨gF, 0, none⟩) (2 * C.length + 1) cF, .slice (some ⟨gT, 0, none⟩) (2 * C.length + 1) cT] 39 (0, 0)) ∧ wr.ownsRow (w.heap.size + 1) 3 1 (.slice (some ⟨w.heap.size + 1, 0, none⟩) C.length C.length) C.length (intsV P) ∧ Below w.heap.size w wr)) (fun _ v24 _ => C.length - (intOf v24).toNat)
      case atStart => exact ⟨0, 0, _, Nat.zero_le _, rfl, rfl, HPC.out, HP1.out⟩
      case round =>
        clear HP1 HPC hlt
        rename World => W3
        obtain ⟨k, c, P, hkn, rfl, rfl, hpc, hp⟩ := hrel
        have hlt := hp.out.2.1.lt (w.heap.size + 1) rfl
        have hck := hpc.out.few
        have hsW := hp.out.2.2.size
        by_cases hkl : k < C.length
        · have e0 : W3.cell? ⟨w.heap.size + 1, k, none⟩ = some (.int .i64 (P.getD k 0)) := by
            rw [hp.out.2.1.cellAt k (by omega)]; exact intsV_get _ k (by rw [hpc.out.len]; exact hkl)
          obtain ⟨q, hq⟩ : ∃ q, P.getD k 0 = q := ⟨_, rfl⟩
          rw [hq] at e0
          have HQ : Hid (P.getD k 0 = q) := hq
          clear hq
          by_cases hqm : q = -1
          · have HQM : Hid (P.getD k 0 = -1) := (by rw [HQ.out]; exact hqm : P.getD k 0 = -1)
            have hde : (q == -1) = true := by simp [hqm]
            have HSC : Hid (∀ V, Below W3.heap.size W3 V → V.ownsRow (w.heap.size + 1) 3 1 (.slice (some ⟨w.heap.size + 1, 0, none⟩) C.length C.length) C.length (intsV P) → Calls Try.prog 50 #[.agg #[.slice a C.length cap, .int .i64 loops, .slice (some ⟨gF, 0, none⟩) (2 * C.length + 1) cF, .slice (some ⟨gT, 0, none⟩) (2 * C.length + 1) cT], .slice (some ⟨w.heap.size + 1, 0, none⟩) C.length C.length, .int .i64 k, .int .i64 c] V fun e w' => e = .returned (.tuple #[]) ∧ ∃ P2 k2, Spr C P P2 k c [] k2 4 ∧ w'.ownsRow (w.heap.size + 1) 3 1 (.slice (some ⟨w.heap.size + 1, 0, none⟩) C.length C.length) C.length (intsV P2) ∧ V.grownBy w' (some (w.heap.size + 1))) := fun V hV hrow =>
              spread_any a cap C loops gF cF gT cT (w.heap.size + 1) C.length (w.heap.size + 1) P k c w V HM.out HD.out (hp.out.2.2.trans (hV.mono hsW)) (by omega) hrow hkl HQM.out (fun v hv => by
                rcases hpc.out.vals v hv with h | h
                · rw [h]; omega
                · omega)
            have p0 : W3.cell? ⟨w.heap.size, 0, none⟩ = some (.slice a C.length cap) := block_cell hp.out.1 rfl
            have p1 : W3.cell? ⟨w.heap.size, 1, none⟩ = some (.int .i64 loops) := block_cell hp.out.1 rfl
            have p2 : W3.cell? ⟨w.heap.size, 2, none⟩ = some (.slice (some ⟨gF, 0, none⟩) (2 * C.length + 1) cF) := block_cell hp.out.1 rfl
            have p3 : W3.cell? ⟨w.heap.size, 3, none⟩ = some (.slice (some ⟨gT, 0, none⟩) (2 * C.length + 1) cT) := block_cell hp.out.1 rfl
            clear hqm
            go_wp2_with (go_at_call 50; refine (HSC.out _ (Below.refl _ _) hp.out.2.1).mono ?_; rintro e9 w4 ⟨rfl, P2, k2, hsp, hr4, hg4⟩; refine Hid.out ?_)
            refine Lib.hid ?_
            have HPN : Hid (Pcs C P2 (c + 1) (k + 1)) := hpc.out.more HM.out hkl HQM.out hsp
            have HP4 : Hid (w4.heap[w.heap.size]? = some (.cells #[.slice a C.length cap, .int .i64 loops, .slice (some ⟨gF, 0, none⟩) (2 * C.length + 1) cF, .slice (some ⟨gT, 0, none⟩) (2 * C.length + 1) cT] 39 (0, 0)) ∧ w4.ownsRow (w.heap.size + 1) 3 1 (.slice (some ⟨w.heap.size + 1, 0, none⟩) C.length C.length) C.length (intsV P2) ∧ Below w.heap.size w w4) := ⟨(hg4.block _ (by omega) (fun e => by have : w.heap.size = w.heap.size + 1 := Option.some.inj e; omega)).trans hp.out.1, hr4, hp.out.2.2.grown hg4 hsW (fun q hq => by have := Option.some.inj hq; omega)⟩
            clear p0 p1 p2 p3 hsp hr4 hg4
            go_wp2
            go_roundw
            case rel => exact ⟨k + 1, c + 1, P2, by omega, by go_num, by go_num, HPN.out, HP4.out⟩
            case measure => simp only [intOf]; omega
          · have hde : (q == -1) = false := by simp [hqm]
            have HPN : Hid (Pcs C P c (k + 1)) := hpc.out.skip (by rw [HQ.out]; exact hqm)
            go_wp2
            go_roundw
            case rel => exact ⟨k + 1, c, P, by omega, by go_num, rfl, HPN.out, hp.out⟩
            case measure => simp only [intOf]; omega
        · obtain rfl : k = C.length := by omega
          go_wp2
          exact bodyPost_ret (v := .tuple #[.slice (some ⟨w.heap.size + 1, 0, none⟩) C.length C.length, .int .i64 (c : Nat)]) (by simp [results, Try.results41, go_sem]) rfl ⟨w.heap.size + 1, C.length, P, c, rfl, own_low hp.out.2.1 (by omega), hpc.out.all, hp.out.2.2⟩
end Go.Proofs.Ytlcogbcpmneknaa
/- The walk of Drawing.OnSphere, the rings of FaceRings being given. -/
namespace Go.Proofs.Ytlcogbcpmneknaa
open Go.RowKit

/-- What Drawing.FaceRings tells. -/
def FaceRingsOk : Prop := ∀ (a : Option Addr) (cap : Nat) (C : List Cr) (loops : Int) (gF cF gT cT : Nat) (w : World), mayD C loops = true → Dr w a cap C gF gT →
    Calls Try.prog 26 #[drV a cap C loops gF cF gT cT] w fun e w' => ∃ v, e = .returned v ∧ DartsOwn w' w.heap.size v (facesM C) ∧ Below w.heap.size w w'
def cntI (P : List Int) (p i : Nat) : Nat := (List.range i).countP fun v => decide (P.getD v 0 = (p : Int))
theorem cntI_next (P : List Int) (p i : Nat) : cntI P p (i + 1) = cntI P p i + if P.getD i 0 = (p : Int) then 1 else 0 := by
  unfold cntI
  rw [List.range_succ, List.countP_append]
  congr 1
  by_cases h : P.getD i 0 = (p : Int)
  · rw [if_pos h]; simp only [List.countP_cons, List.countP_nil, h, decide_true, if_true]
  · rw [if_neg h]; simp only [List.countP_cons, List.countP_nil, h, decide_false]; rfl
theorem cntI_le (P : List Int) (p i : Nat) : cntI P p i ≤ i := by
  have := List.countP_le_length (p := fun v => decide (P.getD v 0 = (p : Int))) (l := List.range i)
  simpa [cntI] using this
def cntH (G : List Nat) (P : List Int) (p i : Nat) : Nat := (G.take i).countP fun g => decide (P.getD g 0 = (p : Int))
theorem cntH_next (G : List Nat) (P : List Int) (p i : Nat) (hi : i < G.length) : cntH G P p (i + 1) = cntH G P p i + if P.getD (G.getD i 0) 0 = (p : Int) then 1 else 0 := by
  unfold cntH
  rw [List.take_add_one, List.countP_append]
  congr 1
  have e : G[i]? = some (G.getD i 0) := by rw [List.getD_eq_getElem?_getD, List.getElem?_eq_getElem hi]; rfl
  rw [e]
  by_cases h : P.getD (G.getD i 0) 0 = (p : Int)
  · rw [if_pos h]; simp only [Option.toList_some, List.countP_cons, List.countP_nil, h, decide_true, if_true]
  · rw [if_neg h]; simp only [Option.toList_some, List.countP_cons, List.countP_nil, h, decide_false]; rfl
theorem cntH_le (G : List Nat) (P : List Int) (p i : Nat) : cntH G P p i ≤ G.length := by
  have := List.countP_le_length (p := fun g => decide (P.getD g 0 = (p : Int))) (l := G.take i)
  unfold cntH
  have h3 : (G.take i).length ≤ G.length := by rw [List.length_take]; omega
  omega
/-- The excess of each piece under way. -/
def exL (G : List Nat) (P : List Int) (c i j : Nat) : List Int := (List.range c).map fun p => (cntH G P p j : Int) - (cntI P p i : Int)
theorem exL_len (G : List Nat) (P : List Int) (c i j : Nat) : (exL G P c i j).length = c := by simp [exL]
theorem exL_at (G : List Nat) (P : List Int) (c i j p : Nat) (hp : p < c) : (exL G P c i j).getD p 0 = (cntH G P p j : Int) - (cntI P p i : Int) := by
  simp [exL, List.getD_eq_getElem?_getD, hp]
theorem exL_zero (G : List Nat) (P : List Int) (c : Nat) : List.replicate c (0 : Int) = exL G P c 0 0 := by
  refine List.ext_getElem (by simp [exL]) fun j h1 h2 => ?_
  simp [exL, cntH, cntI]
theorem exL_less (G : List Nat) (P : List Int) (c i q : Nat) (hq : P.getD i 0 = (q : Int)) (hc : q < c) : (exL G P c i 0).set q ((exL G P c i 0).getD q 0 - 1) = exL G P c (i + 1) 0 := by
  rw [exL_at _ _ _ _ _ _ hc]
  refine List.ext_getElem (by simp [exL]) fun j h1 h2 => ?_
  rw [List.getElem_set]
  simp only [exL, List.getElem_map, List.getElem_range]
  rw [cntI_next]
  split
  · rename_i h; subst h; rw [if_pos hq]; omega
  · rename_i h; rw [if_neg (fun e => h (by rw [hq] at e; omega))]; rfl
theorem exL_more (G : List Nat) (P : List Int) (c i j q : Nat) (hj : j < G.length) (hq : P.getD (G.getD j 0) 0 = (q : Int)) (hc : q < c) : (exL G P c i j).set q ((exL G P c i j).getD q 0 + 1) = exL G P c i (j + 1) := by
  rw [exL_at _ _ _ _ _ _ hc]
  refine List.ext_getElem (by simp [exL]) fun k h1 h2 => ?_
  rw [List.getElem_set]
  simp only [exL, List.getElem_map, List.getElem_range]
  rw [cntH_next _ _ _ _ hj]
  split
  · rename_i h; subst h; rw [if_pos hq]; omega
  · rename_i h; rw [if_neg (fun e => h (by rw [hq] at e; omega))]; rfl
theorem exL_ex (n : Nat) (G : List Nat) (P : List Int) (c p : Nat) (hp : p < c) : (exL G P c n G.length).getD p 0 = exI n G P p := by
  rw [exL_at _ _ _ _ _ _ hp]
  unfold exI cntH cntI
  rw [List.take_length]
theorem planar_pieces {C : List Cr} {loops : Int} (hm : mayD C loops = true) {P : List Int} {c : Nat} (hP : PcsAll C P c) : planarB C = true ↔ ∀ p, p < c → exI C.length (headsM C) P p = 2 := by
  rw [planarB_iff]
  exact (sphere_iff hP (whoM_least hm) (headsM_lt hm)).symm
end Go.Proofs.Ytlcogbcpmneknaa
/- The walk of Drawing.OnSphere, the rings of FaceRings being given. -/
namespace Go.Proofs.Ytlcogbcpmneknaa
open Go.RowKit

set_option maxHeartbeats 16000000 in
set_option maxRecDepth 100000 in
theorem onSphere_any (hFR : FaceRingsOk) (a : Option Addr) (cap : Nat) (C : List Cr) (loops : Int) (gF cF gT cT : Nat) (w : World) (hm : mayD C loops = true) (hD : Dr w a cap C gF gT) :
    Calls Try.prog 49 #[drV a cap C loops gF cF gT cT] w fun e w' => e = .returned (.bool (planarB C)) ∧ Below w.heap.size w w' := by
  obtain ⟨s1, -, -, -⟩ := sizeB_iff (may_size hm)
  obtain ⟨i2, hk, hx0, hx1, hx2⟩ := info_parts infoInt
  have HM : Hid (mayD C loops = true) := hm
  have HD : Hid (Dr w a cap C gF gT) := hD
  have HFA : Hid FaceRingsOk := hFR
  obtain ⟨hfl, hfr⟩ := facesM_facts hm
  have HFR : Hid (∀ j, j < (facesM C).length → 0 < ((facesM C).getD j []).length ∧ ((facesM C).getD j []).length ≤ 4 * C.length + 1 ∧ ∀ k, k < ((facesM C).getD j []).length → 1 ≤ ((facesM C).getD j []).getD k 0 ∧ ((facesM C).getD j []).getD k 0 ≤ 4 * C.length) := hfr
  clear hm hD hfr hFR
  obtain ⟨w0, hw0⟩ : ∃ w0, w0 = w.alloc (.cells #[.slice a C.length cap, .int .i64 loops, .slice (some ⟨gF, 0, none⟩) (2 * C.length + 1) cF, .slice (some ⟨gT, 0, none⟩) (2 * C.length + 1) cT] 39) := ⟨_, rfl⟩
  have HW0 : Hid (w0 = w.alloc (.cells #[.slice a C.length cap, .int .i64 loops, .slice (some ⟨gF, 0, none⟩) (2 * C.length + 1) cF, .slice (some ⟨gT, 0, none⟩) (2 * C.length + 1) cT] 39)) := hw0
  have hs0 : w0.heap.size = w.heap.size + 1 := by rw [hw0]; simp
  have HB0 : Hid (Below w.heap.size w w0) := (by rw [hw0]; exact (Below.refl _ _).alloc (Nat.le_refl _) _ : Below w.heap.size w w0)
  have HT0 : Hid (w0.heap[w.heap.size]? = some (.cells #[.slice a C.length cap, .int .i64 loops, .slice (some ⟨gF, 0, none⟩) (2 * C.length + 1) cF, .slice (some ⟨gT, 0, none⟩) (2 * C.length + 1) cT] 39 (0, 0))) := (by rw [hw0]; exact alloc_at rfl : w0.heap[w.heap.size]? = some (.cells #[.slice a C.length cap, .int .i64 loops, .slice (some ⟨gF, 0, none⟩) (2 * C.length + 1) cF, .slice (some ⟨gT, 0, none⟩) (2 * C.length + 1) cT] 39 (0, 0)))
  have HPI : Hid (∀ V, Dr V a cap C gF gT → Calls Try.prog 41 #[.agg #[.slice a C.length cap, .int .i64 loops, .slice (some ⟨gF, 0, none⟩) (2 * C.length + 1) cF, .slice (some ⟨gT, 0, none⟩) (2 * C.length + 1) cT]] V fun e w' => ∃ gP cP P c, e = .returned (.tuple #[.slice (some ⟨gP, 0, none⟩) C.length cP, .int .i64 (c : Nat)]) ∧ w'.ownsRow V.heap.size 3 1 (.slice (some ⟨gP, 0, none⟩) C.length cP) C.length (intsV P) ∧ PcsAll C P c ∧ Below V.heap.size V w') := fun V hV => pieces_any a cap C loops gF cF gT cT V HM.out hV
  have HFI : Hid (∀ V, Dr V a cap C gF gT → Calls Try.prog 26 #[.agg #[.slice a C.length cap, .int .i64 loops, .slice (some ⟨gF, 0, none⟩) (2 * C.length + 1) cF, .slice (some ⟨gT, 0, none⟩) (2 * C.length + 1) cT]] V fun e w' => ∃ v, e = .returned v ∧ DartsOwn w' V.heap.size v (facesM C) ∧ Below V.heap.size V w') := fun V hV => HFA.out a cap C loops gF cF gT cT V HM.out hV
  clear hw0
  unfold drV
  go_enter Try.func49, Try.ntmps49
  go_wp2_with (go_at_call 41; rw [← HW0.out]; refine (HPI.out _ (HD.out.on HB0.out)).mono ?_; rintro e9 w1 ⟨gP, cP, P, c, rfl, hrow, hpc, hb1⟩; refine Hid.out ?_)
  refine Lib.hid ?_
  have HPC : Hid (PcsAll C P c) := hpc
  have hcn := hpc.few
  have hs1 := hb1.size
  have HB1 : Hid (Below w0.heap.size w0 w1) := hb1
  have HR1 : Hid (w1.ownsRow w0.heap.size 3 1 (.slice (some ⟨gP, 0, none⟩) C.length cP) C.length (intsV P)) := hrow
  have hgP := hrow.lt gP rfl
  clear hpc hb1 hrow
  go_wp2_with (first | (at_make; refine wpList_make_full _ rfl _ _ 41 rfl w1.heap.size 3 i2 (.int .i64 0) 1 Try.underlying41 hk hx0 hx1 .i64 .i64 _ _ c rfl rfl rfl rfl (by rw [hx2]; omega) (by unfold maxLen; omega) (by simp) ?_; intro w2 hrow2 hg2; refine Hid.out ?_))
  refine Lib.hid ?_
  rw [made_zero, exL_zero (headsM C) P c] at hrow2
  have hg2' : w1.grownBy w2 none := hg2
  have HE2 : Hid (w2.heap[w.heap.size]? = some (.cells #[.slice a C.length cap, .int .i64 loops, .slice (some ⟨gF, 0, none⟩) (2 * C.length + 1) cF, .slice (some ⟨gT, 0, none⟩) (2 * C.length + 1) cT] 39 (0, 0)) ∧ w2.ownsRow w0.heap.size 3 1 (.slice (some ⟨gP, 0, none⟩) C.length cP) C.length (intsV P) ∧ w2.ownsRow w1.heap.size 3 1 (.slice (some ⟨w1.heap.size, 0, none⟩) c c) c (intsV (exL (headsM C) P c 0 0)) ∧ Below w.heap.size w w2) := ⟨(hg2'.block _ (by omega) (by simp)).trans ((HB1.out.block _ (by omega)).trans HT0.out), own_any HR1.out hg2', hrow2, (HB0.out.trans (HB1.out.mono (by omega))).grown hg2' (by omega) (fun k hk => by cases hk)⟩
  have HVA : Hid (∀ i, i < C.length → ∃ q : Nat, P.getD i 0 = (q : Int) ∧ q < c) := fun i hi => ⟨(P.getD i 0).toNat, by have := HPC.out.vals i hi; omega, by have := HPC.out.vals i hi; omega⟩
  have HPL : Hid (P.length = C.length) := HPC.out.len
  clear hrow2 hg2 hg2' HT0 HB0 HB1 HR1
  go_wp2
  go_loopw [21] (fun v21 wr => ∃ i : Nat, i ≤ C.length ∧ v21 = .int .i64 (i : Nat) ∧ Hid (wr.heap[w.heap.size]? = some (.cells #[.slice a C.length cap, .int .i64 loops, .slice (some ⟨gF, 0, none⟩) (2 * C.length + 1) cF, .slice (some ⟨gT, 0, none⟩) (2 * C.length + 1) cT] 39 (0, 0)) ∧ wr.ownsRow w0.heap.size 3 1 (.slice (some ⟨gP, 0, none⟩) C.length cP) C.length (intsV P) ∧ wr.ownsRow w1.heap.size 3 1 (.slice (some ⟨w1.heap.size, 0, none⟩) c c) c (intsV (exL (headsM C) P c i 0)) ∧ Below w.heap.size w wr)) (fun v21 _ => C.length - (intOf v21).toNat)
  case atStart => exact ⟨0, Nat.zero_le _, rfl, HE2.out⟩
  case round =>
    clear HE2
    rename World => W1
    obtain ⟨i, hin, rfl, he⟩ := hrel
    have hlE := he.out.2.2.1.lt w1.heap.size rfl
    have hlP := he.out.2.1.lt gP rfl
    have hsW := he.out.2.2.2.size
    by_cases hil : i < C.length
    · obtain ⟨q, hq, hqc⟩ := HVA.out i hil
      have e0 : W1.cell? ⟨gP, i, none⟩ = some (.int .i64 (q : Nat)) := by
        rw [he.out.2.1.cellAt i (by omega), intsV_get P i (by rw [HPL.out]; exact hil), hq]
      obtain ⟨z, hz⟩ : ∃ z, (exL (headsM C) P c i 0).getD q 0 = z := ⟨_, rfl⟩
      have hzb : -16 ≤ z ∧ z ≤ 100 := by
        rw [← hz, exL_at _ _ _ _ _ _ hqc]
        have h1 := cntI_le P q i
        have h2 := cntH_le (headsM C) P q 0
        rw [headsM_len] at h2
        omega
      have e1 : W1.cell? ⟨w1.heap.size, q, none⟩ = some (.int .i64 z) := by
        rw [he.out.2.2.1.cellAt q (by omega), intsV_get _ q (by rw [exL_len]; exact hqc), hz]
      have z1 : W1.frozen? ⟨w1.heap.size, q, none⟩ = false := he.out.2.2.1.frozenAt q
      have hst := he.out.2.2.1.stored q (.int .i64 (z - 1))
      rw [intsV_set, ← hz, exL_less (headsM C) P c i q hq hqc, hz] at hst
      have HST : Hid ((W1.setCell ⟨w1.heap.size, q, none⟩ (.int .i64 (z - 1))).heap[w.heap.size]? = some (.cells #[.slice a C.length cap, .int .i64 loops, .slice (some ⟨gF, 0, none⟩) (2 * C.length + 1) cF, .slice (some ⟨gT, 0, none⟩) (2 * C.length + 1) cT] 39 (0, 0)) ∧ (W1.setCell ⟨w1.heap.size, q, none⟩ (.int .i64 (z - 1))).ownsRow w0.heap.size 3 1 (.slice (some ⟨gP, 0, none⟩) C.length cP) C.length (intsV P) ∧ (W1.setCell ⟨w1.heap.size, q, none⟩ (.int .i64 (z - 1))).ownsRow w1.heap.size 3 1 (.slice (some ⟨w1.heap.size, 0, none⟩) c c) c (intsV (exL (headsM C) P c (i + 1) 0)) ∧ Below w.heap.size w (W1.setCell ⟨w1.heap.size, q, none⟩ (.int .i64 (z - 1)))) := ⟨(hst.2.block _ (by omega) (fun e => by have : w.heap.size = w1.heap.size := Option.some.inj e; omega)).trans he.out.1, he.out.2.1.kept hst.2 (Or.inr (fun e => by have : gP = w1.heap.size := Option.some.inj e; omega)), hst.1, he.out.2.2.2.grown hst.2 hsW (fun k hk => by have := Option.some.inj hk; omega)⟩
      have hqI : (q : Int) < (c : Int) := by omega
      clear hst hz hq
      go_wp2
      go_roundw
      case rel => exact ⟨i + 1, by omega, by go_num, HST.out⟩
      case measure => simp only [intOf]; omega
    · obtain rfl : i = C.length := by omega
      have HE3 : Hid (W1.heap[w.heap.size]? = some (.cells #[.slice a C.length cap, .int .i64 loops, .slice (some ⟨gF, 0, none⟩) (2 * C.length + 1) cF, .slice (some ⟨gT, 0, none⟩) (2 * C.length + 1) cT] 39 (0, 0)) ∧ W1.ownsRow w0.heap.size 3 1 (.slice (some ⟨gP, 0, none⟩) C.length cP) C.length (intsV P) ∧ W1.ownsRow w1.heap.size 3 1 (.slice (some ⟨w1.heap.size, 0, none⟩) c c) c (intsV (exL (headsM C) P c C.length 0)) ∧ Below w.heap.size w W1) := he.out
      have p0 : W1.cell? ⟨w.heap.size, 0, none⟩ = some (.slice a C.length cap) := block_cell he.out.1 rfl
      have p1 : W1.cell? ⟨w.heap.size, 1, none⟩ = some (.int .i64 loops) := block_cell he.out.1 rfl
      have p2 : W1.cell? ⟨w.heap.size, 2, none⟩ = some (.slice (some ⟨gF, 0, none⟩) (2 * C.length + 1) cF) := block_cell he.out.1 rfl
      have p3 : W1.cell? ⟨w.heap.size, 3, none⟩ = some (.slice (some ⟨gT, 0, none⟩) (2 * C.length + 1) cT) := block_cell he.out.1 rfl
      clear he
      go_wp2_with (go_at_call 26; refine (HFI.out _ (HD.out.on HE3.out.2.2.2)).mono ?_; rintro e9 w4 ⟨vf, rfl, hrf, hb4⟩; refine Hid.out ?_)
      refine Lib.hid ?_
      have hs4 := hb4.size
      have hg4 : W1.grownBy w4 none := grown_below hb4 none
      have HE4 : Hid (w4.heap[w.heap.size]? = some (.cells #[.slice a C.length cap, .int .i64 loops, .slice (some ⟨gF, 0, none⟩) (2 * C.length + 1) cF, .slice (some ⟨gT, 0, none⟩) (2 * C.length + 1) cT] 39 (0, 0)) ∧ w4.ownsRow w0.heap.size 3 1 (.slice (some ⟨gP, 0, none⟩) C.length cP) C.length (intsV P) ∧ w4.ownsRow w1.heap.size 3 1 (.slice (some ⟨w1.heap.size, 0, none⟩) c c) c (intsV (exL (headsM C) P c C.length 0)) ∧ Below w.heap.size w w4) := ⟨(hb4.block _ (by omega)).trans HE3.out.1, own_any HE3.out.2.1 hg4, own_any HE3.out.2.2.1 hg4, HE3.out.2.2.2.trans (hb4.mono hsW)⟩
      have hrg := hrf.rings (fun j hj => (HFR.out j hj).1)
      obtain ⟨af, cf, rfl, ff⟩ := hrg
      have HRG : Hid (RingsAt w4 W1.heap.size (.slice af (facesM C).length cf) (facesM C)) := ⟨af, cf, rfl, ff⟩
      clear hrf ff hb4 hg4 p0 p1 p2 p3 HE3
      by_cases hz : C.length = 0
      · have HPB : Hid (planarB C = true) := ((planarB_iff C).2 fun p hp => by omega : planarB C = true)
        have hf0 : (facesM C).length = 0 := by omega
        have hc0 : c = 0 := by omega
        go_wp2
        go_loopw [35] (fun v35 wr => v35 = .int .i64 0 ∧ Below w4.heap.size w4 wr) (fun _ _ => 0)
        case atStart => exact ⟨rfl, Below.refl _ _⟩
        case round =>
          rename World => W3
          obtain ⟨rfl, hb⟩ := hrel
          have HBW : Hid (Below w.heap.size w W3) := HE4.out.2.2.2.trans (hb.mono HE4.out.2.2.2.size)
          have hfz : ((facesM C).length : Int) = 0 := by omega
          clear hb
          go_wp2
          go_loopw [56] (fun v56 wr => v56 = .int .i64 0 ∧ Below w.heap.size w wr) (fun _ _ => 0)
          case atStart => exact ⟨rfl, HBW.out⟩
          case round =>
            obtain ⟨rfl, hb⟩ := hrel
            have hcz : (c : Int) = 0 := by omega
            go_wp2
            go_ret
            exact ⟨by rw [HPB.out]; rfl, hb⟩
      · have hpos : 0 < C.length := by omega
        obtain ⟨af', cf', ef, ff⟩ := HRG.out
        injection ef with ef1 ef2 ef3
        obtain ⟨bf, of, efa, hbf, hBf, hcf⟩ := ff (facesM_pos hpos)
        rw [← ef1] at efa
        subst efa
        have HCF : Hid (∀ j, j < (facesM C).length → ∃ g c, w4.cell? ⟨bf, of + j, none⟩ = some (.slice (some ⟨g, 0, none⟩) ((facesM C).getD j []).length c) ∧ g < w4.heap.size ∧ W1.heap.size ≤ g ∧ ∀ k, k < ((facesM C).getD j []).length → w4.cell? ⟨g, k * 2, none⟩ = some (.int .i64 (dA (((facesM C).getD j []).getD k 0) : Nat)) ∧ w4.cell? ⟨g, k * 2 + 1, none⟩ = some (.bool (dB (((facesM C).getD j []).getD k 0)))) := hcf
        have HEF : Hid (af' = some ⟨bf, of, none⟩) := ef1.symm
        have hEW := hlE.2
        clear ff hcf ef1 ef2 ef3 HRG hz hlE hlP
        go_wp2
        go_loopw [35] (fun v35 wr => ∃ i : Nat, i ≤ (facesM C).length ∧ v35 = .int .i64 (i : Nat) ∧ Hid (wr.heap[w.heap.size]? = some (.cells #[.slice a C.length cap, .int .i64 loops, .slice (some ⟨gF, 0, none⟩) (2 * C.length + 1) cF, .slice (some ⟨gT, 0, none⟩) (2 * C.length + 1) cT] 39 (0, 0)) ∧ wr.ownsRow w0.heap.size 3 1 (.slice (some ⟨gP, 0, none⟩) C.length cP) C.length (intsV P) ∧ wr.ownsRow w1.heap.size 3 1 (.slice (some ⟨w1.heap.size, 0, none⟩) c c) c (intsV (exL (headsM C) P c C.length i)) ∧ Below w.heap.size w wr) ∧ Hid (w4.grownBy wr (some w1.heap.size))) (fun v35 _ => (facesM C).length - (intOf v35).toNat)
        case atStart => exact ⟨0, Nat.zero_le _, rfl, HE4.out, World.grownBy.refl _ _⟩
        case round =>
          clear HE4
          rename World => W3
          obtain ⟨i, hin, rfl, he, hgr⟩ := hrel
          have hlE := he.out.2.2.1.lt w1.heap.size rfl
          have hlP := he.out.2.1.lt gP rfl
          have hs3 := he.out.2.2.2.size
          have hsg := hgr.out.size
          by_cases hil : i < (facesM C).length
          · obtain ⟨gj, cj, k0, k1, kB, k2⟩ := HCF.out i hil
            obtain ⟨l0, l1, l2⟩ := HFR.out i hil
            have hx12 := l2 0 l0
            have k3 := k2 0 l0
            obtain ⟨nF, hnF⟩ : ∃ nF, ((facesM C).getD i []).length = nF := ⟨_, rfl⟩
            obtain ⟨x, hx⟩ : ∃ x, ((facesM C).getD i []).getD 0 0 = x := ⟨_, rfl⟩
            rw [hnF] at k0 l0
            rw [hx] at k3 hx12
            obtain ⟨-, d2, -⟩ := d_may HM.out x hx12.1 hx12.2
            have dle := dA_le hx12.1 hx12.2
            obtain ⟨y, hy⟩ : ∃ y, dC C x = y := ⟨_, rfl⟩
            obtain ⟨ys, hys⟩ : ∃ ys, dS C x = ys := ⟨_, rfl⟩
            have HEV : Hid (∀ V, Below w.heap.size w V → Calls Try.prog 52 #[.agg #[.slice a C.length cap, .int .i64 loops, .slice (some ⟨gF, 0, none⟩) (2 * C.length + 1) cF, .slice (some ⟨gT, 0, none⟩) (2 * C.length + 1) cT], .agg #[.int .i64 (dA x : Nat), .bool (dB x)]] V fun e w' => e = .returned (.agg #[.int .i64 (y : Nat), .int .i64 (ys : Nat)]) ∧ Below V.heap.size V w') := fun V hV => by
              rw [← hy, ← hys]
              exact end_any a cap C loops gF cF gT cT (dA x) (dB x) V HM.out dle.1 dle.2 (HD.out.on hV)
            rw [hy] at d2
            obtain ⟨q, hq, hqc⟩ := HVA.out y d2
            have HHD : Hid (P.getD ((headsM C).getD i 0) 0 = (q : Int)) := (by rw [headsM_at C i hil, hx, hy]; exact hq : P.getD ((headsM C).getD i 0) 0 = (q : Int))
            obtain ⟨z, hz⟩ : ∃ z, (exL (headsM C) P c C.length i).getD q 0 = z := ⟨_, rfl⟩
            have hzb : -16 ≤ z ∧ z ≤ 100 := by
              rw [← hz, exL_at _ _ _ _ _ _ hqc]
              have h1 := cntI_le P q C.length
              have h2 := cntH_le (headsM C) P q i
              rw [headsM_len] at h2
              omega
            have far : ∀ (b o : Nat) (u : Value), w4.cell? ⟨b, o, none⟩ = some u → W1.heap.size ≤ b → W3.cell? ⟨b, o, none⟩ = some u := fun b o u hu hB => hgr.out.cell hu (fun e => by have : b = w1.heap.size := Option.some.inj e; omega)
            have m0 : W3.cell? ⟨bf, of + i, none⟩ = some (.slice (some ⟨gj, 0, none⟩) nF cj) := far _ _ _ k0 hBf
            have m1 : W3.cell? ⟨gj, 0, none⟩ = some (.int .i64 (dA x : Nat)) := far _ _ _ k3.1 kB
            have m2 : W3.cell? ⟨gj, 1, none⟩ = some (.bool (dB x)) := far _ _ _ k3.2 kB
            have p0 : W3.cell? ⟨w.heap.size, 0, none⟩ = some (.slice a C.length cap) := block_cell he.out.1 rfl
            have p1 : W3.cell? ⟨w.heap.size, 1, none⟩ = some (.int .i64 loops) := block_cell he.out.1 rfl
            have p2 : W3.cell? ⟨w.heap.size, 2, none⟩ = some (.slice (some ⟨gF, 0, none⟩) (2 * C.length + 1) cF) := block_cell he.out.1 rfl
            have p3 : W3.cell? ⟨w.heap.size, 3, none⟩ = some (.slice (some ⟨gT, 0, none⟩) (2 * C.length + 1) cT) := block_cell he.out.1 rfl
            have hfs := field_spotD
            have hwz : IntKind.i64.wrap (z + 1) = z + 1 := IntWalk.i64_in _ (by omega)
            have i1 : (i : Int) < ((facesM C).length : Int) := by omega
            have i2' : (0 : Int) < (nF : Int) := by omega
            have i3 : (y : Int) < (C.length : Int) := by omega
            have i4 : (q : Int) < (c : Int) := by omega
            have HD3 : Hid (Below W3.heap.size W3 W3.drew) := (Below.refl _ _).drew
            have HQY : Hid (P.getD y 0 = (q : Int)) := hq
            have HZZ : Hid ((exL (headsM C) P c C.length i).getD q 0 = z) := hz
            clear k0 k1 kB k2 k3 l1 l2 hnF hx hy hys hq hz dle hx12 far
            generalize dA x = xA at HEV m1
            generalize dB x = xB at HEV m2
            go_wp2
            go_region_with (first
              | (go_at_call 52; refine (HEV.out _ (he.out.2.2.2.trans (HD3.out.mono hs3))).mono ?_; rintro e9 w5 ⟨rfl, hb5⟩
                 have H5 : Hid (Below W3.heap.size W3 w5) := HD3.out.trans (hb5.mono HD3.out.size)
                 have hg5 := grown_below H5.out none
                 have hs5 := H5.out.size
                 have HP5 := own_any he.out.2.1 hg5
                 have HE5 := own_any he.out.2.2.1 hg5
                 have e0 : w5.cell? ⟨gP, y, none⟩ = some (.int .i64 (q : Nat)) := by
                   rw [HP5.cellAt y (by omega), intsV_get P y (by rw [HPL.out]; exact d2), HQY.out]
                 have e1 : w5.cell? ⟨w1.heap.size, q, none⟩ = some (.int .i64 z) := by
                   rw [HE5.cellAt q (by omega), intsV_get _ q (by rw [exL_len]; exact hqc), HZZ.out]
                 have z1 : w5.frozen? ⟨w1.heap.size, q, none⟩ = false := HE5.frozenAt q
                 clear hb5 hg5 HP5 HE5))
            all_goals
              have hg5 := grown_below H5.out none
              have HE5 := own_any he.out.2.2.1 hg5
              have hst := HE5.stored q (.int .i64 (z + 1))
              rw [intsV_set, ← HZZ.out, exL_more (headsM C) P c C.length i q (by rw [headsM_len]; exact hil) HHD.out hqc, HZZ.out] at hst
              have HST : Hid ((w5.setCell ⟨w1.heap.size, q, none⟩ (.int .i64 (z + 1))).heap[w.heap.size]? = some (.cells #[.slice a C.length cap, .int .i64 loops, .slice (some ⟨gF, 0, none⟩) (2 * C.length + 1) cF, .slice (some ⟨gT, 0, none⟩) (2 * C.length + 1) cT] 39 (0, 0)) ∧ (w5.setCell ⟨w1.heap.size, q, none⟩ (.int .i64 (z + 1))).ownsRow w0.heap.size 3 1 (.slice (some ⟨gP, 0, none⟩) C.length cP) C.length (intsV P) ∧ (w5.setCell ⟨w1.heap.size, q, none⟩ (.int .i64 (z + 1))).ownsRow w1.heap.size 3 1 (.slice (some ⟨w1.heap.size, 0, none⟩) c c) c (intsV (exL (headsM C) P c C.length (i + 1))) ∧ Below w.heap.size w (w5.setCell ⟨w1.heap.size, q, none⟩ (.int .i64 (z + 1)))) := ⟨(hst.2.block _ (by omega) (fun e => by have : w.heap.size = w1.heap.size := Option.some.inj e; omega)).trans ((H5.out.block _ (by omega)).trans he.out.1), (own_any he.out.2.1 hg5).kept hst.2 (Or.inr (fun e => by have : gP = w1.heap.size := Option.some.inj e; omega)), hst.1, (he.out.2.2.2.trans (H5.out.mono hs3)).grown hst.2 (by omega) (fun k hk => by have := Option.some.inj hk; omega)⟩
              have HGG : Hid (w4.grownBy (w5.setCell ⟨w1.heap.size, q, none⟩ (.int .i64 (z + 1))) (some w1.heap.size)) := grown_trans (grown_new hgr.out hg5 (fun q hq => by cases hq)) hst.2
              clear hg5 HE5 hst e0 e1 z1 m0 m1 m2 p0 p1 p2 p3 hfs hwz
              go_wp2
              go_roundw
            all_goals first
              | (simp only [intOf]; omega)
              | exact ⟨i + 1, by omega, by go_num, HST.out, HGG.out⟩
          · obtain rfl : i = (facesM C).length := by omega
            have HL3 : Hid (W3.heap[w.heap.size]? = some (.cells #[.slice a C.length cap, .int .i64 loops, .slice (some ⟨gF, 0, none⟩) (2 * C.length + 1) cF, .slice (some ⟨gT, 0, none⟩) (2 * C.length + 1) cT] 39 (0, 0)) ∧ W3.ownsRow w0.heap.size 3 1 (.slice (some ⟨gP, 0, none⟩) C.length cP) C.length (intsV P) ∧ W3.ownsRow w1.heap.size 3 1 (.slice (some ⟨w1.heap.size, 0, none⟩) c c) c (intsV (exL (headsM C) P c C.length (headsM C).length)) ∧ Below w.heap.size w W3) := (by rw [headsM_len]; exact he.out : (W3.heap[w.heap.size]? = some (.cells #[.slice a C.length cap, .int .i64 loops, .slice (some ⟨gF, 0, none⟩) (2 * C.length + 1) cF, .slice (some ⟨gT, 0, none⟩) (2 * C.length + 1) cT] 39 (0, 0)) ∧ W3.ownsRow w0.heap.size 3 1 (.slice (some ⟨gP, 0, none⟩) C.length cP) C.length (intsV P) ∧ W3.ownsRow w1.heap.size 3 1 (.slice (some ⟨w1.heap.size, 0, none⟩) c c) c (intsV (exL (headsM C) P c C.length (headsM C).length)) ∧ Below w.heap.size w W3))
            clear he hgr
            go_wp2
            go_loopw [56] (fun v56 wr => ∃ i : Nat, i ≤ c ∧ v56 = .int .i64 (i : Nat) ∧ Hid (∀ p, p < i → exI C.length (headsM C) P p = 2) ∧ Below W3.heap.size W3 wr) (fun v56 _ => c - (intOf v56).toNat)
            case atStart => exact ⟨0, Nat.zero_le _, rfl, (fun p hp => absurd hp (Nat.not_lt_zero _) : ∀ p, p < 0 → exI C.length (headsM C) P p = 2), Below.refl _ _⟩
            case round =>
              rename World => W5
              obtain ⟨i, hic, rfl, hall, hb⟩ := hrel
              have hs5 := hb.size
              by_cases hil : i < c
              · obtain ⟨z, hz⟩ : ∃ z, exI C.length (headsM C) P i = z := ⟨_, rfl⟩
                have e0 : W5.cell? ⟨w1.heap.size, i, none⟩ = some (.int .i64 z) := by
                  have h := own_any HL3.out.2.2.1 (grown_below hb none)
                  rw [h.cellAt i (by omega), intsV_get _ i (by rw [exL_len]; exact hil), exL_ex C.length (headsM C) P c i hil, hz]
                have HZZ : Hid (exI C.length (headsM C) P i = z) := hz
                have HB5 : Hid (Below W3.heap.size W3 W5) := hb
                clear hz hb
                by_cases h2 : z = 2
                · have hde : (z != 2) = false := by simp [h2]
                  have HZ2 : Hid (z = 2) := h2
                  clear h2
                  go_wp2
                  go_roundw
                  case rel =>
                    refine ⟨i + 1, by omega, by go_num, (fun p hp => ?_ : ∀ p, p < i + 1 → exI C.length (headsM C) P p = 2), HB5.out⟩
                    by_cases e2 : p = i
                    · rw [e2, HZZ.out]; exact HZ2.out
                    · exact hall.out p (by omega)
                  case measure => simp only [intOf]; omega
                · have hde : (z != 2) = true := by simp [h2]
                  have HPB : Hid (planarB C = false) := (by
                    cases hb : planarB C with
                    | false => rfl
                    | true =>
                      have h := (planar_pieces HM.out HPC.out).1 hb i hil
                      rw [HZZ.out] at h
                      exact absurd h h2 : planarB C = false)
                  clear h2
                  go_wp2
                  go_ret
                  exact ⟨by rw [HPB.out]; rfl, HL3.out.2.2.2.trans (HB5.out.mono hs3)⟩
              · obtain rfl : i = c := by omega
                have HPB : Hid (planarB C = true) := ((planar_pieces HM.out HPC.out).2 hall.out : planarB C = true)
                go_wp2
                go_ret
                exact ⟨by rw [HPB.out]; rfl, HL3.out.2.2.2.trans (hb.mono hs3)⟩
end Go.Proofs.Ytlcogbcpmneknaa

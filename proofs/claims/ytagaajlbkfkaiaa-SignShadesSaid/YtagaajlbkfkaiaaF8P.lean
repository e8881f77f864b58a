/- Several texts of the proof, one behind the other. -/
import Derived.Test.YtagaajlbkfkaiaaF7
import Derived.Test.YtagaajlbkfkaiaaF6
/- The walk of Drawing.Pieces. -/
namespace Go.Proofs.Ytagaajlbkfkaiaa
open Go.RowKit

def negTo (n i : Nat) : List Int := (List.range n).map fun v => if v < i then -1 else 0
theorem negTo_zero (n : Nat) : List.replicate n (0 : Int) = negTo n 0 := by
  refine List.ext_getElem (by simp [negTo]) fun j h1 h2 => ?_
  simp [negTo]
theorem negTo_next (n i : Nat) : (negTo n i).set i (-1) = negTo n (i + 1) := by
  refine List.ext_getElem (by simp [negTo]) fun j h1 h2 => ?_
  simp only [List.getElem_set, negTo, List.getElem_map, List.getElem_range]
  split
  · rename_i h; subst h; simp
  · rename_i h
    by_cases h3 : j < i
    · rw [if_pos h3, if_pos (by omega)]
    · rw [if_neg h3, if_neg (by omega)]
theorem negTo_all (n : Nat) : negTo n n = List.replicate n (-1) := by
  refine List.ext_getElem (by simp [negTo]) fun j h1 h2 => ?_
  simp only [negTo, List.getElem_map, List.getElem_range, List.getElem_replicate]
  rw [if_pos (by simpa [negTo] using h1)]

set_option maxHeartbeats 16000000 in
set_option maxRecDepth 100000 in
theorem pieces_any (a : Option Addr) (cap : Nat) (C : List Cr) (loops : Int) (gF cF gT cT : Nat) (w : World) (hm : mayD C loops = true) (hD : Dr w a cap C gF gT) :
    Calls Try.prog 77 #[drV a cap C loops gF cF gT cT] w fun e w' => ∃ gP cP P c, e = .returned (.tuple #[.slice (some ⟨gP, 0, none⟩) C.length cP, .int .i64 (c : Nat)]) ∧ w'.ownsRow w.heap.size 3 1 (.slice (some ⟨gP, 0, none⟩) C.length cP) C.length (intsV P) ∧ PcsAll C P c ∧ Below w.heap.size w w' := by
  obtain ⟨s1, -, -, -⟩ := sizeB_iff (may_size hm)
  obtain ⟨i2, hk, hx0, hx1, hx2⟩ := info_parts infoInt
  have HM : Hid (mayD C loops = true) := hm
  have HD : Hid (Dr w a cap C gF gT) := hD
  unfold drV
  clear hm hD
  obtain ⟨w0, hw0⟩ : ∃ w0, w0 = w.alloc (.cells #[.slice a C.length cap, .int .i64 loops, .slice (some ⟨gF, 0, none⟩) (2 * C.length + 1) cF, .slice (some ⟨gT, 0, none⟩) (2 * C.length + 1) cT] 61) := ⟨_, rfl⟩
  have HW0 : Hid (w0 = w.alloc (.cells #[.slice a C.length cap, .int .i64 loops, .slice (some ⟨gF, 0, none⟩) (2 * C.length + 1) cF, .slice (some ⟨gT, 0, none⟩) (2 * C.length + 1) cT] 61)) := hw0
  have hs0 : w0.heap.size = w.heap.size + 1 := by rw [hw0]; simp
  have HB0 : Hid (Below w.heap.size w w0) := (by rw [hw0]; exact (Below.refl _ _).alloc (Nat.le_refl _) _ : Below w.heap.size w w0)
  have HT0 : Hid (w0.heap[w.heap.size]? = some (.cells #[.slice a C.length cap, .int .i64 loops, .slice (some ⟨gF, 0, none⟩) (2 * C.length + 1) cF, .slice (some ⟨gT, 0, none⟩) (2 * C.length + 1) cT] 61 (0, 0))) := (by rw [hw0]; exact alloc_at rfl : w0.heap[w.heap.size]? = some (.cells #[.slice a C.length cap, .int .i64 loops, .slice (some ⟨gF, 0, none⟩) (2 * C.length + 1) cF, .slice (some ⟨gT, 0, none⟩) (2 * C.length + 1) cT] 61 (0, 0)))
  clear hw0
  go_enter Try.func77, Try.ntmps77
  go_wp2_with (first | (at_make; refine wpList_make_full _ rfl _ _ 46 rfl (w.heap.size + 1) 3 i2 (.int .i64 0) 1 Try.underlying46 hk hx0 hx1 .i64 .i64 _ _ C.length rfl rfl rfl rfl (by rw [hx2]; omega) (by unfold maxLen; omega) (by simp) ?_; intro w1 hrow hg1; refine Hid.out ?_))
  refine Lib.hid ?_
  rw [← HW0.out] at hrow hg1
  rw [made_zero, hs0, negTo_zero] at hrow
  have HP0 : Hid (w1.heap[w.heap.size]? = some (.cells #[.slice a C.length cap, .int .i64 loops, .slice (some ⟨gF, 0, none⟩) (2 * C.length + 1) cF, .slice (some ⟨gT, 0, none⟩) (2 * C.length + 1) cT] 61 (0, 0)) ∧ w1.ownsRow (w.heap.size + 1) 3 1 (.slice (some ⟨w.heap.size + 1, 0, none⟩) C.length C.length) C.length (intsV (negTo C.length 0)) ∧ Below w.heap.size w w1) := ⟨(hg1.block _ (by omega) (by simp)).trans HT0.out, hrow, HB0.out.grown hg1 (by omega) (fun k hk => by cases hk)⟩
  clear hrow hg1 HT0 HB0 hs0 HW0
  go_wp2
  go_loopw [15] (fun v15 wr => ∃ i : Nat, i ≤ C.length ∧ v15 = .int .i64 (i : Nat) ∧ Hid (wr.heap[w.heap.size]? = some (.cells #[.slice a C.length cap, .int .i64 loops, .slice (some ⟨gF, 0, none⟩) (2 * C.length + 1) cF, .slice (some ⟨gT, 0, none⟩) (2 * C.length + 1) cT] 61 (0, 0)) ∧ wr.ownsRow (w.heap.size + 1) 3 1 (.slice (some ⟨w.heap.size + 1, 0, none⟩) C.length C.length) C.length (intsV (negTo C.length i)) ∧ Below w.heap.size w wr)) (fun v15 _ => C.length - (intOf v15).toNat)
  case atStart => exact ⟨0, Nat.zero_le _, rfl, HP0.out⟩
  case round =>
    clear HP0
    rename World => W1
    obtain ⟨i, hin, rfl, hp⟩ := hrel
    have hlt := hp.out.2.1.lt (w.heap.size + 1) rfl
    by_cases hil : i < C.length
    · have hst := hp.out.2.1.stored i (.int .i64 (-1))
      rw [intsV_set, negTo_next] at hst
      have HST : Hid ((W1.setCell ⟨w.heap.size + 1, i, none⟩ (.int .i64 (-1))).heap[w.heap.size]? = some (.cells #[.slice a C.length cap, .int .i64 loops, .slice (some ⟨gF, 0, none⟩) (2 * C.length + 1) cF, .slice (some ⟨gT, 0, none⟩) (2 * C.length + 1) cT] 61 (0, 0)) ∧ (W1.setCell ⟨w.heap.size + 1, i, none⟩ (.int .i64 (-1))).ownsRow (w.heap.size + 1) 3 1 (.slice (some ⟨w.heap.size + 1, 0, none⟩) C.length C.length) C.length (intsV (negTo C.length (i + 1))) ∧ Below w.heap.size w (W1.setCell ⟨w.heap.size + 1, i, none⟩ (.int .i64 (-1)))) := ⟨(hst.2.block _ (by omega) (fun e => by have : w.heap.size = w.heap.size + 1 := Option.some.inj e; omega)).trans hp.out.1, hst.1, hp.out.2.2.grown hst.2 hp.out.2.2.size (fun q hq => by have := Option.some.inj hq; omega)⟩
      have e0 : W1.cell? ⟨w.heap.size + 1, i, none⟩ = some (.int .i64 ((negTo C.length i).getD i 0)) := by
        rw [hp.out.2.1.cellAt i (by omega)]; exact intsV_get _ i (by simp [negTo]; omega)
      have z0 : W1.frozen? ⟨w.heap.size + 1, i, none⟩ = false := hp.out.2.1.frozenAt i
      clear hst
      go_wp2
      go_roundw
      case rel => exact ⟨i + 1, by omega, by go_num, HST.out⟩
      case measure => simp only [intOf]; omega
    · obtain rfl : i = C.length := by omega
      have HPC : Hid (Pcs C (negTo C.length C.length) 0 0) := Pcs.start C _ (negTo_all _) (arcE_lt HM.out)
      have HP1 : Hid (W1.heap[w.heap.size]? = some (.cells #[.slice a C.length cap, .int .i64 loops, .slice (some ⟨gF, 0, none⟩) (2 * C.length + 1) cF, .slice (some ⟨gT, 0, none⟩) (2 * C.length + 1) cT] 61 (0, 0)) ∧ W1.ownsRow (w.heap.size + 1) 3 1 (.slice (some ⟨w.heap.size + 1, 0, none⟩) C.length C.length) C.length (intsV (negTo C.length C.length)) ∧ Below w.heap.size w W1) := hp.out
      clear hp
      go_wp2
      go_loopw [6, 24] (fun v6 v24 wr => ∃ (k c : Nat) (P : List Int), k ≤ C.length ∧ v24 = .int .i64 (k : Nat) ∧ v6 = .int .i64 (c : Nat) ∧ Hid (Pcs C P c k) ∧ Hid (wr.heap[w.heap.size]? = some (.cells #[.slice a C.length cap, .int .i64 loops, .slice (some ⟨gF, 0, none⟩) (2 * C.length + 1) cF, .slice (some ⟨gT, 0, none⟩) (2 * C.length + 1) cT] 61 (0, 0)) ∧ wr.ownsRow (w.heap.size + 1) 3 1 (.slice (some ⟨w.heap.size + 1, 0, none⟩) C.length C.length) C.length (intsV P) ∧ Below w.heap.size w wr)) (fun _ v24 _ => C.length - (intOf v24).toNat)
      case atStart => exact ⟨0, 0, _, Nat.zero_le _, rfl, rfl, HPC.out, HP1.out⟩
      case round =>
        clear HP1 HPC hlt
        rename World => W3
        obtain ⟨k, c, P, hkn, rfl, rfl, hpc, hp⟩ := hrel
        have hlt := hp.out.2.1.lt (w.heap.size + 1) rfl
        have hck := hpc.out.few
        have hsW := hp.out.2.2.size
        by_cases hkl : k < C.length
        · have e0 : W3.cell? ⟨w.heap.size + 1, k, none⟩ = some (.int .i64 (P.getD k 0)) := by
            rw [hp.out.2.1.cellAt k (by omega)]; exact intsV_get _ k (by rw [hpc.out.len]; exact hkl)
          obtain ⟨q, hq⟩ : ∃ q, P.getD k 0 = q := ⟨_, rfl⟩
          rw [hq] at e0
          have HQ : Hid (P.getD k 0 = q) := hq
          clear hq
          by_cases hqm : q = -1
          · have HQM : Hid (P.getD k 0 = -1) := (by rw [HQ.out]; exact hqm : P.getD k 0 = -1)
            have hde : (q == -1) = true := by simp [hqm]
            have HSC : Hid (∀ V, Below W3.heap.size W3 V → V.ownsRow (w.heap.size + 1) 3 1 (.slice (some ⟨w.heap.size + 1, 0, none⟩) C.length C.length) C.length (intsV P) → Calls Try.prog 101 #[.agg #[.slice a C.length cap, .int .i64 loops, .slice (some ⟨gF, 0, none⟩) (2 * C.length + 1) cF, .slice (some ⟨gT, 0, none⟩) (2 * C.length + 1) cT], .slice (some ⟨w.heap.size + 1, 0, none⟩) C.length C.length, .int .i64 k, .int .i64 c] V fun e w' => e = .returned (.tuple #[]) ∧ ∃ P2 k2, Spr C P P2 k c [] k2 4 ∧ w'.ownsRow (w.heap.size + 1) 3 1 (.slice (some ⟨w.heap.size + 1, 0, none⟩) C.length C.length) C.length (intsV P2) ∧ V.grownBy w' (some (w.heap.size + 1))) := fun V hV hrow =>
              spread_any a cap C loops gF cF gT cT (w.heap.size + 1) C.length (w.heap.size + 1) P k c w V HM.out HD.out (hp.out.2.2.trans (hV.mono hsW)) (by omega) hrow hkl HQM.out (fun v hv => by
                rcases hpc.out.vals v hv with h | h
                · rw [h]; omega
                · omega)
            have p0 : W3.cell? ⟨w.heap.size, 0, none⟩ = some (.slice a C.length cap) := block_cell hp.out.1 rfl
            have p1 : W3.cell? ⟨w.heap.size, 1, none⟩ = some (.int .i64 loops) := block_cell hp.out.1 rfl
            have p2 : W3.cell? ⟨w.heap.size, 2, none⟩ = some (.slice (some ⟨gF, 0, none⟩) (2 * C.length + 1) cF) := block_cell hp.out.1 rfl
            have p3 : W3.cell? ⟨w.heap.size, 3, none⟩ = some (.slice (some ⟨gT, 0, none⟩) (2 * C.length + 1) cT) := block_cell hp.out.1 rfl
            clear hqm
            go_wp2_with (go_at_call 101; refine (HSC.out _ (Below.refl _ _) hp.out.2.1).mono ?_; rintro e9 w4 ⟨rfl, P2, k2, hsp, hr4, hg4⟩; refine Hid.out ?_)
            refine Lib.hid ?_
            have HPN : Hid (Pcs C P2 (c + 1) (k + 1)) := hpc.out.more HM.out hkl HQM.out hsp
            have HP4 : Hid (w4.heap[w.heap.size]? = some (.cells #[.slice a C.length cap, .int .i64 loops, .slice (some ⟨gF, 0, none⟩) (2 * C.length + 1) cF, .slice (some ⟨gT, 0, none⟩) (2 * C.length + 1) cT] 61 (0, 0)) ∧ w4.ownsRow (w.heap.size + 1) 3 1 (.slice (some ⟨w.heap.size + 1, 0, none⟩) C.length C.length) C.length (intsV P2) ∧ Below w.heap.size w w4) := ⟨(hg4.block _ (by omega) (fun e => by have : w.heap.size = w.heap.size + 1 := Option.some.inj e; omega)).trans hp.out.1, hr4, hp.out.2.2.grown hg4 hsW (fun q hq => by have := Option.some.inj hq; omega)⟩
            clear p0 p1 p2 p3 hsp hr4 hg4
            go_wp2
            go_roundw
            case rel => exact ⟨k + 1, c + 1, P2, by omega, by go_num, by go_num, HPN.out, HP4.out⟩
            case measure => simp only [intOf]; omega
          · have hde : (q == -1) = false := by simp [hqm]
            have HPN : Hid (Pcs C P c (k + 1)) := hpc.out.skip (by rw [HQ.out]; exact hqm)
            go_wp2
            go_roundw
            case rel => exact ⟨k + 1, c, P, by omega, by go_num, rfl, HPN.out, hp.out⟩
            case measure => simp only [intOf]; omega
        · obtain rfl : k = C.length := by omega
          go_wp2
          exact bodyPost_ret (v := .tuple #[.slice (some ⟨w.heap.size + 1, 0, none⟩) C.length C.length, .int .i64 (c : Nat)]) (by simp [results, Try.results77, go_sem]) rfl ⟨w.heap.size + 1, C.length, P, c, rfl, own_low hp.out.2.1 (by omega), hpc.out.all, hp.out.2.2⟩
end Go.Proofs.Ytagaajlbkfkaiaa
/- The walk of Drawing.OnSphere, the rings of FaceRings being given. -/
namespace Go.Proofs.Ytagaajlbkfkaiaa
open Go.RowKit

/-- What Drawing.FaceRings tells. -/
def FaceRingsOk : Prop := ∀ (a : Option Addr) (cap : Nat) (C : List Cr) (loops : Int) (gF cF gT cT : Nat) (w : World), mayD C loops = true → Dr w a cap C gF gT →
    Calls Try.prog 71 #[drV a cap C loops gF cF gT cT] w fun e w' => ∃ v, e = .returned v ∧ DartsOwn w' w.heap.size v (facesM C) ∧ Below w.heap.size w w'
def cntI (P : List Int) (p i : Nat) : Nat := (List.range i).countP fun v => decide (P.getD v 0 = (p : Int))
theorem cntI_next (P : List Int) (p i : Nat) : cntI P p (i + 1) = cntI P p i + if P.getD i 0 = (p : Int) then 1 else 0 := by
  unfold cntI
  rw [List.range_succ, List.countP_append]
  congr 1
  by_cases h : P.getD i 0 = (p : Int)
  · rw [if_pos h]; simp only [List.countP_cons, List.countP_nil, h, decide_true, if_true]
  · rw [if_neg h]; simp only [List.countP_cons, List.countP_nil, h, decide_false]; rfl
theorem cntI_le (P : List Int) (p i : Nat) : cntI P p i ≤ i := by
  have := List.countP_le_length (p := fun v => decide (P.getD v 0 = (p : Int))) (l := List.range i)
  simpa [cntI] using this
def cntH (G : List Nat) (P : List Int) (p i : Nat) : Nat := (G.take i).countP fun g => decide (P.getD g 0 = (p : Int))
theorem cntH_next (G : List Nat) (P : List Int) (p i : Nat) (hi : i < G.length) : cntH G P p (i + 1) = cntH G P p i + if P.getD (G.getD i 0) 0 = (p : Int) then 1 else 0 := by
  unfold cntH
  rw [List.take_add_one, List.countP_append]
  congr 1
  have e : G[i]? = some (G.getD i 0) := by rw [List.getD_eq_getElem?_getD, List.getElem?_eq_getElem hi]; rfl
  rw [e]
  by_cases h : P.getD (G.getD i 0) 0 = (p : Int)
  · rw [if_pos h]; simp only [Option.toList_some, List.countP_cons, List.countP_nil, h, decide_true, if_true]
  · rw [if_neg h]; simp only [Option.toList_some, List.countP_cons, List.countP_nil, h, decide_false]; rfl
theorem cntH_le (G : List Nat) (P : List Int) (p i : Nat) : cntH G P p i ≤ G.length := by
  have := List.countP_le_length (p := fun g => decide (P.getD g 0 = (p : Int))) (l := G.take i)
  unfold cntH
  have h3 : (G.take i).length ≤ G.length := by rw [List.length_take]; omega
  omega
/-- The excess of each piece under way. -/
def exL (G : List Nat) (P : List Int) (c i j : Nat) : List Int := (List.range c).map fun p => (cntH G P p j : Int) - (cntI P p i : Int)
theorem exL_len (G : List Nat) (P : List Int) (c i j : Nat) : (exL G P c i j).length = c := by simp [exL]
theorem exL_at (G : List Nat) (P : List Int) (c i j p : Nat) (hp : p < c) : (exL G P c i j).getD p 0 = (cntH G P p j : Int) - (cntI P p i : Int) := by
  simp [exL, List.getD_eq_getElem?_getD, hp]
theorem exL_zero (G : List Nat) (P : List Int) (c : Nat) : List.replicate c (0 : Int) = exL G P c 0 0 := by
  refine List.ext_getElem (by simp [exL]) fun j h1 h2 => ?_
  simp [exL, cntH, cntI]
theorem exL_less (G : List Nat) (P : List Int) (c i q : Nat) (hq : P.getD i 0 = (q : Int)) (hc : q < c) : (exL G P c i 0).set q ((exL G P c i 0).getD q 0 - 1) = exL G P c (i + 1) 0 := by
  rw [exL_at _ _ _ _ _ _ hc]
  refine List.ext_getElem (by simp [exL]) fun j h1 h2 => ?_
  rw [List.getElem_set]
  simp only [exL, List.getElem_map, List.getElem_range]
  rw [cntI_next]
  split
  · rename_i h; subst h; rw [if_pos hq]; omega
  · rename_i h; rw [if_neg (fun e => h (by rw [hq] at e; omega))]; rfl
theorem exL_more (G : List Nat) (P : List Int) (c i j q : Nat) (hj : j < G.length) (hq : P.getD (G.getD j 0) 0 = (q : Int)) (hc : q < c) : (exL G P c i j).set q ((exL G P c i j).getD q 0 + 1) = exL G P c i (j + 1) := by
  rw [exL_at _ _ _ _ _ _ hc]
  refine List.ext_getElem (by simp [exL]) fun k h1 h2 => ?_
  rw [List.getElem_set]
  simp only [exL, List.getElem_map, List.getElem_range]
  rw [cntH_next _ _ _ _ hj]
  split
  · rename_i h; subst h; rw [if_pos hq]; omega
  · rename_i h; rw [if_neg (fun e => h (by rw [hq] at e; omega))]; rfl
theorem exL_ex (n : Nat) (G : List Nat) (P : List Int) (c p : Nat) (hp : p < c) : (exL G P c n G.length).getD p 0 = exI n G P p := by
  rw [exL_at _ _ _ _ _ _ hp]
  unfold exI cntH cntI
  rw [List.take_length]
theorem planar_pieces {C : List Cr} {loops : Int} (hm : mayD C loops = true) {P : List Int} {c : Nat} (hP : PcsAll C P c) : planarB C = true ↔ ∀ p, p < c → exI C.length (headsM C) P p = 2 := by
  rw [planarB_iff]
  exact (sphere_iff hP (whoM_least hm) (headsM_lt hm)).symm
end Go.Proofs.Ytagaajlbkfkaiaa

/- The walk of braid.Equal. -/
import Derived.Test.YtdlmhcickcgnfaaGB7
namespace Go.Proofs.Ytdlmhcickcgnfaa
open Go.RowKit

theorem map_inj {n : Nat} : ∀ {F G : List (List Nat)}, AllP n F → AllP n G → F.map (eI n) = G.map (eI n) → F = G
  | [], [], _, _, _ => rfl
  | [], g :: G, _, _, h => by simp at h
  | f :: F, [], _, _, h => by simp at h
  | f :: F, g :: G, hF, hG, h => by
    rw [List.map_cons, List.map_cons] at h
    injection h with h1 h2
    rw [eI_inj (hF f (.head _)) (hG g (.head _)) h1, map_inj (fun z hz => hF z (.tail _ hz)) (fun z hz => hG z (.tail _ hz)) h2]
theorem wordN_lt {n : Nat} {l : List Int} (hn : wordN (n : Int) l = 0) : ∀ j, j < l.length → LtN n (l.getD j 0) := by
  obtain ⟨n2, n6, hlet, hl20⟩ := wordN_ok hn
  intro j hj
  have := hlet j hj
  exact ⟨by omega, by omega⟩
theorem wordN_mem {n : Nat} {l : List Int} (hn : wordN (n : Int) l = 0) : ∀ x ∈ l, LtN n x := by
  intro x hx
  obtain ⟨j, hj, rfl⟩ := List.mem_iff_getElem.1 hx
  have := wordN_lt hn j hj
  rwa [List.getD_eq_getElem?_getD, List.getElem?_eq_getElem hj] at this
theorem canS_nfW {n : Nat} {l : List Int} (h : ∀ x ∈ l, LtN n x) : CanS n (nfW n l) := (canS_nil n 0).fold h
theorem nfW_eq {n : Nat} {u v : List Int} (hu : ∀ x ∈ u, LtN n x) (hv : ∀ x ∈ v, LtN n x) : (decide (nfW n u = nfW n v)) = (decide ((nfW n u).1 = (nfW n v).1) && decide ((nfW n u).2.reverse.map (eI n) = (nfW n v).2.reverse.map (eI n))) := by
  rw [← Bool.decide_and]
  refine decide_eq_decide.2 ⟨fun h => by rw [h]; exact ⟨rfl, rfl⟩, fun h => ?_⟩
  have h2 := map_inj (allP_rev (canS_nfW hu).all) (allP_rev (canS_nfW hv).all) h.2
  have h3 := congrArg List.reverse h2
  rw [List.reverse_reverse, List.reverse_reverse] at h3
  exact Prod.ext h.1 h3
theorem rows_len {n : Nat} {l : List Int} : ∀ j, j < ((nfW n l).2.reverse.map (eI n)).length → (((nfW n l).2.reverse.map (eI n)).getD j []).length = n := by
  intro j hj
  rw [List.getD_eq_getElem?_getD, List.getElem?_eq_getElem hj]
  simp [eI_len]
theorem nfW_len {n : Nat} {l : List Int} (hl : ∀ j, j < l.length → LtN n (l.getD j 0)) : (nfW n l).2.length ≤ l.length := by
  have h := rawF_ok n l hl l.length (Nat.le_refl _)
  have h1 := rawF_bound n l l.length (Nat.le_refl _)
  have h2 := congrArg Prod.snd h.is
  rw [List.take_length] at h2
  have h3 := trF_le n (rawF n l l.length).2 (rawF n l l.length).2.length (Nat.le_refl _)
  rw [trF_all] at h3
  have h4 : (nfL n (rawF n l l.length).2.reverse).2 = (nfW n l).2 := h2
  rw [h4, h1.1] at h3
  simp at h3
  omega
/-- Two words handed in a row of their own. -/
theorem ints_two {W : World} {q : Nat} {va vb : Value} {a b : List Int} (hq : W.heap[q]? = some (.cells #[va, vb] 22 (0, 0))) (ha : RdAt W W.heap.size 1 va a.length (intsV a)) (hb : RdAt W W.heap.size 1 vb b.length (intsV b)) : IntsRd W W.heap.size (.slice (some ⟨q, 0, none⟩) 2 2) [a, b] := by
  refine ⟨[va, vb], rfl, ⟨_, _, rfl, fun _ => ⟨q, 0, rfl, (Array.getElem?_eq_some_iff.1 hq).1, fun j hj => ?_⟩⟩, fun j hj => ?_⟩
  · have h3 : j = 0 ∨ j = 1 := by simp at hj; omega
    rcases h3 with rfl | rfl
    · exact block_cell hq rfl
    · exact block_cell hq rfl
  · have h3 : j = 0 ∨ j = 1 := by simp at hj; omega
    rcases h3 with rfl | rfl
    · exact ha
    · exact hb
theorem wordsN_ok {n : Int} {u v : List Int} (h : wordsN n [u, v] = 0) : wordN n u = 0 ∧ wordN n v = 0 := by
  rw [wordsN_two] at h
  unfold wordN
  by_cases h1 : n < 2 ∨ 6 < n
  · rw [if_pos h1] at h; cases h
  · rw [if_neg h1] at h ⊢
    rw [if_neg h1]
    by_cases h2 : (u ++ v).any (badL n) = true
    · rw [if_pos h2] at h; cases h
    · rw [if_neg h2] at h
      rw [List.any_append] at h2
      have e1 : ¬ u.any (badL n) = true := fun e => h2 (by rw [e]; rfl)
      have e2 : ¬ v.any (badL n) = true := fun e => h2 (by rw [e, Bool.or_true])
      rw [if_neg e1, if_neg e2]
      by_cases h3 : 20 < u.length ∨ 20 < v.length
      · rw [if_pos h3] at h; cases h
      · rw [if_neg (by omega), if_neg (by omega)]
        exact ⟨rfl, rfl⟩
theorem wordsN_of {n : Int} {u v : List Int} (hu : wordN n u = 0) (hv : wordN n v = 0) : wordsN n [u, v] = 0 := by
  rw [wordsN_two]
  unfold wordN at hu hv
  by_cases h1 : n < 2 ∨ 6 < n
  · rw [if_pos h1] at hu; cases hu
  · rw [if_neg h1] at hu hv ⊢
    by_cases e1 : u.any (badL n) = true
    · rw [if_pos e1] at hu; cases hu
    · by_cases e2 : v.any (badL n) = true
      · rw [if_pos e2] at hv; cases hv
      · rw [if_neg e1] at hu
        rw [if_neg e2] at hv
        rw [if_neg (by rw [List.any_append]; simp only [Bool.or_eq_true]; exact fun q => q.elim e1 e2)]
        by_cases f1 : 20 < u.length
        · rw [if_pos f1] at hu; cases hu
        · by_cases f2 : 20 < v.length
          · rw [if_pos f2] at hv; cases hv
          · rw [if_neg (by omega)]

set_option maxHeartbeats 4000000 in
set_option maxRecDepth 100000 in
theorem equal_no (c1 c2 : Nat) (a1 a2 : Option Addr) (n : Int) (u v : List Int) (w : World) (hlu : u.length * 8 ≤ 140737488355328) (hlv : v.length * 8 ≤ 140737488355328) (hn : wordsN n [u, v] ≠ 0) (h1 : RdAt w w.heap.size 1 (.slice a1 u.length c1) u.length (intsV u)) (h2 : RdAt w w.heap.size 1 (.slice a2 v.length c2) v.length (intsV v)) :
    Calls Try.prog 6 #[.int .i64 n, .slice a1 u.length c1, .slice a2 v.length c2] w fun e w' => e = .returned (.tuple #[.bool false, .int .i64 (wordsN n [u, v])]) ∧ Below w.heap.size w w' := by
  obtain ⟨Y, hY⟩ : ∃ Y, Y = w.alloc (.cells #[.slice a1 u.length c1, .slice a2 v.length c2] 22) := ⟨_, rfl⟩
  have HY := hid_g hY
  have HBY : Hid (Below w.heap.size w Y) := (by rw [hY]; exact (Below.refl _ _).alloc (Nat.le_refl _) _ : Below w.heap.size w Y)
  have hqY : Y.heap[w.heap.size]? = some (.cells #[.slice a1 u.length c1, .slice a2 v.length c2] 22 (0, 0)) := by rw [hY]; exact alloc_at rfl
  have HRF := hid_g (refusal_any _ [u, v] n Y (by simp) (fun j hj => by
    have h3 : j = 0 ∨ j = 1 := by simp at hj; omega
    rcases h3 with rfl | rfl
    · show u.length ≤ _; omega
    · show v.length ≤ _; omega) (ints_two hqY ((h1.on HBY.out).mono HBY.out.size) ((h2.on HBY.out).mono HBY.out.size)))
  generalize wordsN n [u, v] = r at hn HRF ⊢
  have hr0 : (r != 0) = true := by simp [hn]
  generalize u.length = m1 at HY ⊢
  generalize v.length = m2 at HY ⊢
  clear h1 h2 hqY hY hn
  go_enter Try.func6, Try.ntmps6
  go_wp2_with (first | (rw [← HY.out]; go_at_call 15; refine HRF.out.mono ?_; rintro e9 w5 ⟨rfl, hb5⟩; refine Hid.out ?_))
  refine Lib.hid ?_
  have HB5 := hid_g (HBY.out.trans (hb5.mono HBY.out.size))
  clear hb5 HRF HBY HY
  go_wp2
  go_ret2
  exact ⟨rfl, HB5.out⟩

set_option maxHeartbeats 4000000 in
set_option maxRecDepth 100000 in
theorem equal_yes (n c1 c2 : Nat) (a1 a2 : Option Addr) (u v : List Int) (w : World) (hu : wordN (n : Int) u = 0) (hv : wordN (n : Int) v = 0) (h1 : RdAt w w.heap.size 1 (.slice a1 u.length c1) u.length (intsV u)) (h2 : RdAt w w.heap.size 1 (.slice a2 v.length c2) v.length (intsV v)) :
    Calls Try.prog 6 #[.int .i64 (n : Nat), .slice a1 u.length c1, .slice a2 v.length c2] w fun e w' => e = .returned (.tuple #[.bool (decide (nfW n u = nfW n v)), .int .i64 0]) ∧ Below w.heap.size w w' := by
  obtain ⟨n2, n6, -, hu20⟩ := wordN_ok hu
  obtain ⟨-, -, -, hv20⟩ := wordN_ok hv
  obtain ⟨Y, hY⟩ : ∃ Y, Y = w.alloc (.cells #[.slice a1 u.length c1, .slice a2 v.length c2] 22) := ⟨_, rfl⟩
  have HY := hid_g hY
  have HBY : Hid (Below w.heap.size w Y) := (by rw [hY]; exact (Below.refl _ _).alloc (Nat.le_refl _) _ : Below w.heap.size w Y)
  have hqY : Y.heap[w.heap.size]? = some (.cells #[.slice a1 u.length c1, .slice a2 v.length c2] 22 (0, 0)) := by rw [hY]; exact alloc_at rfl
  have HRF := hid_g (refusal_any _ [u, v] (n : Int) Y (by simp) (fun j hj => by
    have h3 : j = 0 ∨ j = 1 := by simp at hj; omega
    rcases h3 with rfl | rfl
    · show u.length ≤ _; omega
    · show v.length ≤ _; omega) (ints_two hqY ((h1.on HBY.out).mono HBY.out.size) ((h2.on HBY.out).mono HBY.out.size)))
  rw [wordsN_of hu hv] at HRF
  have HFU := hid_g (fun W (hW : Below w.heap.size w W) => formOf_any n c1 a1 u W (by omega) (by omega) (by omega) (wordN_lt hu) ((h1.on hW).mono hW.size))
  have HFV := hid_g (fun W (hW : Below w.heap.size w W) => formOf_any n c2 a2 v W (by omega) (by omega) (by omega) (wordN_lt hv) ((h2.on hW).mono hW.size))
  have HEQ := hid_g (nfW_eq (wordN_mem hu) (wordN_mem hv))
  have HLU : Hid ((nfW n u).2.length ≤ 20 ∧ (nfW n v).2.length ≤ 20) := ⟨Nat.le_trans (nfW_len (wordN_lt hu)) hu20, Nat.le_trans (nfW_len (wordN_lt hv)) hv20⟩
  obtain ⟨m1, hm1⟩ : ∃ m1, u.length = m1 := ⟨_, rfl⟩
  obtain ⟨m2, hm2⟩ : ∃ m2, v.length = m2 := ⟨_, rfl⟩
  rw [hm1] at HFU HY ⊢
  rw [hm2] at HFV HY ⊢
  rw [HEQ.out]
  obtain ⟨pu, hpu⟩ : ∃ pu, (nfW n u).1 = pu := ⟨_, rfl⟩
  obtain ⟨pw', hpv⟩ : ∃ pv, (nfW n v).1 = pv := ⟨_, rfl⟩
  rw [hpu] at HFU ⊢
  rw [hpv] at HFV ⊢
  obtain ⟨bq, hbq⟩ : ∃ bq, decide ((nfW n u).2.reverse.map (eI n) = (nfW n v).2.reverse.map (eI n)) = bq := ⟨_, rfl⟩
  rw [hbq]
  have HBQ := hid_g hbq
  obtain ⟨be, hbe⟩ : ∃ be, (pu == pw') = be := ⟨_, rfl⟩
  have hdd : decide (pu = pw') = be := by rw [← hbe]; rfl
  rw [hdd]
  clear h1 h2 hqY hY hu hv HEQ hpu hpv hbq hm1 hm2 hdd
  go_enter Try.func6, Try.ntmps6
  go_wp2_with (first | (rw [← HY.out]; go_at_call 15; refine HRF.out.mono ?_; rintro e9 w5 ⟨rfl, hb5⟩; refine Hid.out ?_))
  refine Lib.hid ?_
  have HB5 := hid_g (HBY.out.trans (hb5.mono HBY.out.size))
  have HF5 := hid_g (HFU.out w5 HB5.out)
  clear hb5 HRF HBY HY HFU
  go_wp2_with (first | (go_at_call 16; refine HF5.out.mono ?_; rintro e9 w6 ⟨a6, m6, c6, rfl, ho6, hb6⟩; refine Hid.out ?_))
  refine Lib.hid ?_
  have HO6 := hid_g ho6
  have HB6 := hid_g (HB5.out.trans (hb6.mono HB5.out.size))
  have HF6 := hid_g (HFV.out w6 HB6.out)
  clear ho6 hb6 HF5 HFV
  go_wp2_with (first | (go_at_call 16; refine HF6.out.mono ?_; rintro e9 w7 ⟨a7, m7, c7, rfl, ho7, hb7⟩; refine Hid.out ?_))
  refine Lib.hid ?_
  have HO67 := hid_g (HO6.out.on hb7)
  have HO7 := hid_g ho7
  have HB7 := hid_g (HB6.out.trans (hb7.mono HB6.out.size))
  clear ho7 hb7 HF6
  obtain ⟨V, hV⟩ : ∃ V, (w7.alloc (.cells #[.int .i64 (n : Nat), .int .i64 pu, .slice a6 m6 c6] 40)).alloc (.cells #[.int .i64 (n : Nat), .int .i64 pw', .slice a7 m7 c7] 40) = V := ⟨_, rfl⟩
  have HV := hid_g hV
  have HBV : Hid (Below w7.heap.size w7 V) := (by rw [← hV]; exact below2 _ _ _ : Below w7.heap.size w7 V)
  have HEF : Hid (Calls Try.prog 17 #[.slice a6 m6 c6, .slice a7 m7 c7, .func (.func 18) #[] #[]] V fun e w' => e = .returned (.bool bq) ∧ Below V.heap.size V w') := (by
    rw [← HBQ.out]
    have l1 := HO67.out.ln
    have l2 := HO7.out.ln
    have h3 := HLU.out
    exact equalF_any n m6 m7 c6 c7 a6 a7 _ _ V (by rw [List.length_map, List.length_reverse, l1]) (by rw [List.length_map, List.length_reverse, l2]) (by omega) (by omega) (HO67.out.on HBV.out).rd (HO7.out.on HBV.out).rd rows_len rows_len)
  have HFB := hid_g (HB7.out.trans (HBV.out.mono HB7.out.size))
  have hx1 : V.heap[w7.heap.size]? = some (.cells #[.int .i64 (n : Nat), .int .i64 pu, .slice a6 m6 c6] 40 (0, 0)) := by rw [← hV]; exact alloc_old (alloc_at rfl)
  have hx2 : V.heap[w7.heap.size + 1]? = some (.cells #[.int .i64 (n : Nat), .int .i64 pw', .slice a7 m7 c7] 40 (0, 0)) := by rw [← hV]; exact alloc_at (by simp)
  have HX1 := hid_g hx1
  have HX2 := hid_g hx2
  clear hV HO6 HO67 HO7 hx1 hx2
  cases be with
  | false =>
    go_upto_region 5 with (fail)
    rw [HV.out]
    have x11 : V.cell? ⟨w7.heap.size, 1, none⟩ = some (.int .i64 pu) := block_cell HX1.out rfl
    have x21 : V.cell? ⟨w7.heap.size + 1, 1, none⟩ = some (.int .i64 pw') := block_cell HX2.out rfl
    have l1 : w7.heap.size < V.heap.size := (Array.getElem?_eq_some_iff.1 HX1.out).1
    have l2 : w7.heap.size + 1 < V.heap.size := (Array.getElem?_eq_some_iff.1 HX2.out).1
    go_wp2
    go_ret2
    exact ⟨rfl, HFB.out⟩
  | true =>
    go_upto_region 5 with (fail)
    rw [HV.out]
    have x11 : V.cell? ⟨w7.heap.size, 1, none⟩ = some (.int .i64 pu) := block_cell HX1.out rfl
    have x12 : V.cell? ⟨w7.heap.size, 2, none⟩ = some (.slice a6 m6 c6) := block_cell HX1.out rfl
    have x21 : V.cell? ⟨w7.heap.size + 1, 1, none⟩ = some (.int .i64 pw') := block_cell HX2.out rfl
    have x22 : V.cell? ⟨w7.heap.size + 1, 2, none⟩ = some (.slice a7 m7 c7) := block_cell HX2.out rfl
    have l1 : w7.heap.size < V.heap.size := (Array.getElem?_eq_some_iff.1 HX1.out).1
    have l2 : w7.heap.size + 1 < V.heap.size := (Array.getElem?_eq_some_iff.1 HX2.out).1
    go_wp2_with (first | (go_at_call 17; refine HEF.out.mono ?_; rintro e9 w8 ⟨rfl, hb8⟩; refine Hid.out ?_))
    refine Lib.hid ?_
    have HB8 := hid_g (HFB.out.trans (hb8.mono HFB.out.size))
    clear hb8 HEF
    go_wp2
    go_ret2
    exact ⟨by simp, HB8.out⟩
end Go.Proofs.Ytdlmhcickcgnfaa

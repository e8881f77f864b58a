/- The law BraidRelations: its walk. -/
import Derived.Test.YtdlmhcickcgnfaaGBw
import Derived.Test.YtdlmhcickcgnfaaGC1
import Derived.Test.YtdlmhcickcgnfaaIl
namespace Go.Proofs.Ytdlmhcickcgnfaa
open Go.RowKit

theorem sliced_lit (g off l h c : Nat) : sliced (some ⟨g, off, none⟩) l h c 1 = .slice (if c = l then some ⟨g, off, none⟩ else some ⟨g, off + l, none⟩) (h - l) (c - l) := by
  unfold sliced
  by_cases e : c = l
  · rw [if_pos e, if_pos e]
  · rw [if_neg e, if_neg e, Option.map_some, Addr.add_lit, Nat.mul_one]
/-- A list of which a beginning, or what stands behind it, is taken. -/
theorem cut_in {a : Option Addr} {N c k B : Nat} {L : List Int} {w : World} (hN : L.length = N) (hk : k ≤ N) (h : w.ownsRow B 3 1 (.slice a N c) N (intsV L)) :
    InAt w w.heap.size 1 (sliced a 0 k c 1) (L.take k).length (intsV (L.take k)) ∧ InAt w w.heap.size 1 (sliced a k N c 1) (L.drop k).length (intsV (L.drop k)) ∧ k ≤ c ∧ N ≤ c := by
  have h0 := h
  have lt : (L.take k).length = k := by rw [List.length_take]; omega
  have ld : (L.drop k).length = N - k := by rw [List.length_drop]; omega
  rcases h.2 with ⟨e, hn⟩ | ⟨g, cap, cur, e, -, hg, hNc, -⟩
  · injection e with e1 e2 e3
    subst e1 e2 e3
    obtain rfl : k = 0 := by omega
    rw [lt, ld]
    exact ⟨Or.inl ⟨by unfold sliced; simp, rfl⟩, Or.inl ⟨by unfold sliced; simp, rfl⟩, Nat.le_refl _, Nat.le_refl _⟩
  · injection e with e1 e2 e3
    subst e1 e3
    rw [sliced_lit, sliced_lit, lt, ld]
    have hlt := (h0.lt g rfl).2
    refine ⟨?_, ?_, by omega, hNc⟩
    · by_cases e : k = 0
      · rw [e]
        by_cases hc : c = 0
        · rw [if_pos hc]; exact Or.inr (Or.inl ⟨_, _, rfl, rfl⟩)
        · rw [if_neg hc]; exact Or.inr (Or.inl ⟨_, _, rfl, rfl⟩)
      · refine Or.inr (Or.inr ⟨g, 0, c - 0, by rw [if_neg (by omega)]; rfl, hlt, fun j hj => ?_⟩)
        rw [Nat.zero_add, h0.cellAt j (by omega)]
        have hj2 : j < k := by omega
        unfold intsV
        rw [List.map_take, List.getElem?_take, if_pos hj2]
    · by_cases e : N - k = 0
      · rw [e]
        by_cases hc : c = k
        · rw [if_pos hc]; exact Or.inr (Or.inl ⟨_, _, rfl, rfl⟩)
        · rw [if_neg hc]; exact Or.inr (Or.inl ⟨_, _, rfl, rfl⟩)
      · refine Or.inr (Or.inr ⟨g, 0 + k, c - k, by rw [if_neg (by omega)], hlt, fun j hj => ?_⟩)
        rw [Nat.zero_add, h0.cellAt (k + j) (by omega)]
        unfold intsV
        rw [List.map_drop, List.getElem?_drop]
theorem ltOk_iff {n : Nat} {l : List Int} : LtOk n l ↔ ∀ x ∈ l, LtN n x := Iff.rfl
theorem relL_len (a b : Nat) : (relL a b).length ≤ 6 := by unfold relL; split <;> (try split) <;> simp
/-- A list of numbers written out. -/
theorem lit_in {W : World} {q m : Nat} {l : List Int} (h : W.heap[q]? = some (.cells (intsV l).toArray 3 (0, 0))) (hm : l.length = m) : InAt W W.heap.size 1 (.slice (some ⟨q, 0, none⟩) m m) l.length (intsV l) := by
  rw [hm]
  refine Or.inr (Or.inr ⟨q, 0, m, rfl, (Array.getElem?_eq_some_iff.1 h).1, fun j hj => ?_⟩)
  rw [Nat.zero_add]
  have hl : j < (intsV l).length := by rw [intsV_len]; omega
  rw [block_cell (i := j) (v := (intsV l)[j]) h (by simp [hl])]
  rw [List.getElem?_eq_getElem hl]

/-- knotworkkeep.join of two and of three lists. -/
theorem join_two {W : World} {g : Nat} {va vb : Value} {A B : List Int} (hg : W.heap[g]? = some (.cells #[va, vb] 22 (0, 0))) (ha : InAt W W.heap.size 1 va A.length (intsV A)) (hb : InAt W W.heap.size 1 vb B.length (intsV B)) (lA : A.length ≤ 40) (lB : B.length ≤ 40) :
    Calls Try.prog 13 #[.slice (some ⟨g, 0, none⟩) 2 2] W fun e w' => ∃ a2 c2, e = .returned (.slice a2 (A ++ B).length c2) ∧ w'.ownsRow W.heap.size 3 1 (.slice a2 (A ++ B).length c2) (A ++ B).length (intsV (A ++ B)) ∧ Below W.heap.size W w' := by
  refine join_any g 2 2 (fun i => match i with | 0 => va | _ => vb) (fun i => match i with | 0 => A | _ => B) W (by decide) (fun i hi => ?_) (fun i hi => ?_) (Array.getElem?_eq_some_iff.1 hg).1
  · have c : i = 0 ∨ i = 1 ∨ i = 2 := by omega
    rcases c with rfl | rfl | rfl <;> simp only [catF, List.length_append, List.length_nil] <;> omega
  · have c : i = 0 ∨ i = 1 := by omega
    rcases c with rfl | rfl
    · exact ⟨block_cell hg rfl, ha⟩
    · exact ⟨block_cell hg rfl, hb⟩
theorem join_three {W : World} {g : Nat} {va vb vc : Value} {A B C : List Int} (hg : W.heap[g]? = some (.cells #[va, vb, vc] 22 (0, 0))) (ha : InAt W W.heap.size 1 va A.length (intsV A)) (hb : InAt W W.heap.size 1 vb B.length (intsV B)) (hc : InAt W W.heap.size 1 vc C.length (intsV C)) (lA : A.length ≤ 30) (lB : B.length ≤ 30) (lC : C.length ≤ 30) :
    Calls Try.prog 13 #[.slice (some ⟨g, 0, none⟩) 3 3] W fun e w' => ∃ a2 c2, e = .returned (.slice a2 (A ++ B ++ C).length c2) ∧ w'.ownsRow W.heap.size 3 1 (.slice a2 (A ++ B ++ C).length c2) (A ++ B ++ C).length (intsV (A ++ B ++ C)) ∧ Below W.heap.size W w' := by
  refine join_any g 3 3 (fun i => match i with | 0 => va | 1 => vb | _ => vc) (fun i => match i with | 0 => A | 1 => B | _ => C) W (by decide) (fun i hi => ?_) (fun i hi => ?_) (Array.getElem?_eq_some_iff.1 hg).1
  · have c : i = 0 ∨ i = 1 ∨ i = 2 ∨ i = 3 := by omega
    rcases c with rfl | rfl | rfl | rfl <;> simp only [catF, List.length_append, List.length_nil] <;> omega
  · have c : i = 0 ∨ i = 1 ∨ i = 2 := by omega
    rcases c with rfl | rfl | rfl
    · exact ⟨block_cell hg rfl, ha⟩
    · exact ⟨block_cell hg rfl, hb⟩
    · exact ⟨block_cell hg rfl, hc⟩
theorem hfD_len {n p : Nat} (hp : n = p + 1) (h3 : 3 ≤ n) (h5 : n ≤ 5) : ((n = 3 ∨ n = 4) ∧ (hfD n p).length ≤ 6) ∨ (hfD n p).length = 10 := by
  have : n = 3 ∨ n = 4 ∨ n = 5 := by omega
  rcases this with rfl | rfl | rfl
  · obtain rfl : p = 2 := by omega
    exact Or.inl ⟨Or.inl rfl, by decide⟩
  · obtain rfl : p = 3 := by omega
    exact Or.inl ⟨Or.inr rfl, by decide⟩
  · obtain rfl : p = 4 := by omega
    exact Or.inr (by decide)
theorem hfD_le {n p : Nat} (hp : n = p + 1) (h5 : n ≤ 5) : ∀ d, d ≤ p → (hfD n d).length ≤ 4 * d
  | 0, _ => Nat.le_refl _
  | d + 1, h => by
    have := hfD_le hp h5 d (by omega)
    show (hfD n d ++ mapI (n - 1 - d) _).length ≤ _
    rw [List.length_append, mapI_len]
    omega

set_option maxHeartbeats 16000000 in
set_option maxRecDepth 100000 in
theorem braidRelations_any (s at' i j : Int) (a : Option Addr) (c : Nat) (l : List Int) (w : World) (hs : -9223372036854775808 ≤ s ∧ s ≤ 9223372036854775807) (hat : -9223372036854775808 ≤ at' ∧ at' ≤ 9223372036854775807) (hi : -9223372036854775808 ≤ i ∧ i ≤ 9223372036854775807) (hj : -9223372036854775808 ≤ j ∧ j ≤ 9223372036854775807) (hl : ∀ x ∈ l, -9223372036854775808 ≤ x ∧ x ≤ 9223372036854775807) (h : RdAt w w.heap.size 1 (.slice a l.length c) l.length (intsV l)) :
    Calls Try.prog 5 #[.int .i64 s, .slice a l.length c, .int .i64 at', .int .i64 i, .int .i64 j] w fun e w' => e = .returned (.bool true) ∧ Below w.heap.size w w' := by
  have HPK : Hid (∀ W, Calls Try.prog 10 #[.int .i64 s, .int .i64 3] W fun e w' => ∃ r : Nat, e = .returned (.int .i64 (r : Nat)) ∧ r < 3 ∧ w' = W) := fun W => pickedB_any s 3 W hs (by decide) (by decide)
  have HPA : Hid (∀ W (m : Nat), 0 < m → m ≤ 1000 → Calls Try.prog 10 #[.int .i64 at', .int .i64 (m : Nat)] W fun e w' => ∃ r : Nat, e = .returned (.int .i64 (r : Nat)) ∧ r < m ∧ w' = W) := fun W m h0 h1 => pickedB_any at' m W hat h0 h1
  have HPI : Hid (∀ W (m : Nat), 0 < m → m ≤ 1000 → Calls Try.prog 10 #[.int .i64 i, .int .i64 (m : Nat)] W fun e w' => ∃ r : Nat, e = .returned (.int .i64 (r : Nat)) ∧ r < m ∧ w' = W) := fun W m h0 h1 => pickedB_any i m W hi h0 h1
  have HPJ : Hid (∀ W (m : Nat), 0 < m → m ≤ 1000 → Calls Try.prog 10 #[.int .i64 j, .int .i64 (m : Nat)] W fun e w' => ∃ r : Nat, e = .returned (.int .i64 (r : Nat)) ∧ r < m ∧ w' = W) := fun W m h0 h1 => pickedB_any j m W hj h0 h1
  have HWD : Hid (∀ p n : Nat, n = p + 1 → 1 ≤ p → p ≤ 5 → Calls Try.prog 11 #[.int .i64 (n : Nat), .slice a l.length c, .int .i64 12] w fun e w' => ∃ a2 c2 L, e = .returned (.slice a2 L.length c2) ∧ w'.ownsRow w.heap.size 3 1 (.slice a2 L.length c2) L.length (intsV L) ∧ Hid (LtOk n L ∧ L.length ≤ 12) ∧ Below w.heap.size w w') := fun p n hnp h1 h5 => word_any n p 12 a c l w hnp h1 h5 (by decide) hl h
  obtain ⟨i1, hk1, hx0, hx1, hx2⟩ := info_parts infoInt
  generalize l.length = N0 at HWD ⊢
  clear hs hat hi hj hl h
  go_enter Try.func5, Try.ntmps5
  go_wp2_with (go_at_call 10; refine (HPK.out _).mono ?_; rintro e9 w5 ⟨r, rfl, hr, e4⟩; obtain rfl := e4.symm; refine Hid.out ?_)
  refine Lib.hid ?_
  clear HPK
  obtain ⟨p, hp⟩ : ∃ p, p = r + 2 := ⟨_, rfl⟩
  obtain ⟨n, hn⟩ : ∃ n, n = p + 1 := ⟨_, rfl⟩
  have ew0 : IntKind.i64.wrap (3 + (r : Int)) = (n : Int) := by rw [show 3 + (r : Int) = n by omega]; exact IntWalk.i64_in _ (by omega)
  have HW := hid_g (HWD.out p n hn (by omega) (by omega))
  have hn3 : 3 ≤ n := by omega
  have hn5 : n ≤ 5 := by omega
  have HNP := hid_g hn
  clear HWD hn hr hp
  go_wp2_with (go_at_call 11; refine HW.out.mono ?_; rintro e9 w1 ⟨a2, c2, L, rfl, ho1, hL1, hb1⟩; refine Hid.out ?_)
  refine Lib.hid ?_
  have HB1 := hid_g hb1
  have HO1 := hid_g ho1
  have HLT := hid_g hL1.out.1
  obtain ⟨N, hN⟩ : ∃ N, L.length = N := ⟨_, rfl⟩
  have HN := hid_g hN
  have hN12 : N ≤ 12 := by have := hL1.out.2; omega
  rw [hN] at HO1 ⊢
  have ewN : IntKind.i64.wrap ((N : Int) + 1) = ((N + 1 : Nat) : Int) := by rw [IntWalk.i64_in _ (by omega)]; omega
  have HP1 := hid_g (HPA.out w1 (N + 1) (by omega) (by omega))
  clear ew0 hb1 ho1 hL1 hN HW HPA
  go_wp2_with (go_at_call 10; refine HP1.out.mono ?_; rintro e9 w5 ⟨k, rfl, hk, e4⟩; obtain rfl := e4.symm; refine Hid.out ?_)
  refine Lib.hid ?_
  clear HP1 ewN
  have HKN : Hid (k ≤ N) := (by omega : k ≤ N)
  have ewn : IntKind.i64.wrap ((n : Int) - 1) = (p : Int) := by rw [IntWalk.i64_in _ (by omega)]; have := HNP.out; omega
  have HP2 := hid_g (HPI.out w1 p (by have := HNP.out; omega) (by have := HNP.out; omega))
  clear HPI hk
  go_wp2_with (go_at_call 10; refine HP2.out.mono ?_; rintro e9 w5 ⟨ra, rfl, hra, e4⟩; obtain rfl := e4.symm; refine Hid.out ?_)
  refine Lib.hid ?_
  have HP3 := hid_g (HPJ.out w1 p (by have := HNP.out; omega) (by have := HNP.out; omega))
  obtain ⟨A, hA⟩ : ∃ A : Int, A = ((ra + 1 : Nat) : Int) := ⟨_, rfl⟩
  have HA := hid_g hA
  have ewA : IntKind.i64.wrap (1 + (ra : Int)) = A := by rw [show 1 + (ra : Int) = A by omega]; exact IntWalk.i64_in _ (by have := HNP.out; omega)
  have HRA : Hid (ra + 1 < n) := (by have := HNP.out; omega : ra + 1 < n)
  have hAb : 1 ≤ A ∧ A ≤ 5 := by have := HNP.out; omega
  clear HPJ HP2 hA hra
  go_wp2_with (go_at_call 10; refine HP3.out.mono ?_; rintro e9 w5 ⟨rb, rfl, hrb, e4⟩; obtain rfl := e4.symm; refine Hid.out ?_)
  refine Lib.hid ?_
  obtain ⟨Bb, hB⟩ : ∃ B : Int, B = ((rb + 1 : Nat) : Int) := ⟨_, rfl⟩
  have HBb := hid_g hB
  have ewB : IntKind.i64.wrap (1 + (rb : Int)) = Bb := by rw [show 1 + (rb : Int) = Bb by omega]; exact IntWalk.i64_in _ (by have := HNP.out; omega)
  have HRB : Hid (rb + 1 < n) := (by have := HNP.out; omega : rb + 1 < n)
  have hBb : 1 ≤ Bb ∧ Bb ≤ 5 := by have := HNP.out; omega
  have ewA2 : IntKind.i64.wrap (-A) = -A := IntWalk.i64_in _ (by omega)
  have ewB2 : IntKind.i64.wrap (-Bb) = -Bb := IntWalk.i64_in _ (by omega)
  have ewAB : IntKind.i64.wrap (A - Bb) = A - Bb := IntWalk.i64_in _ (by omega)
  clear HP3 hB hrb ewn
  go_upto_region 7 with (fail)
  obtain ⟨V5, hV5⟩ : ∃ V, w1.alloc (.cells #[.int .i64 A, .int .i64 (-A)] 3) = V := ⟨_, rfl⟩
  rw [hV5]
  have HBV5 : Hid (Below w1.heap.size w1 V5) := (by rw [← hV5]; exact (Below.refl _ _).alloc (Nat.le_refl _) _ : Below w1.heap.size w1 V5)
  have HV5 : Hid (V5.heap[w1.heap.size]? = some (.cells #[.int .i64 A, .int .i64 (-A)] 3 (0, 0))) := (by rw [← hV5]; exact alloc_at rfl : V5.heap[w1.heap.size]? = some (.cells #[.int .i64 A, .int .i64 (-A)] 3 (0, 0)))
  obtain ⟨nb, hnb⟩ : ∃ nb, decide (A - Bb = 1 ∨ A - Bb = -1) = nb := ⟨_, rfl⟩
  have HNB := hid_g hnb
  clear hV5 hnb
  go_cut [64] from 59 to 64 (fun s64 wx => s64 = .bool nb ∧ wx = V5)
  case first =>
    by_cases g1 : A - Bb = 1
    · have e1 : (A - Bb == 1) = true := beq_iff_eq.2 g1
      have E : Hid (true = nb) := (by rw [← HNB.out]; exact (decide_eq_true (Or.inl g1)).symm : true = nb)
      clear g1
      go_wp2
      go_meet
      exact ⟨by rw [← E.out], rfl⟩
    · have e1 : (A - Bb == 1) = false := beq_eq_false_iff_ne.2 g1
      by_cases g2 : A - Bb = -1
      · have e2 : (A - Bb == -1) = true := beq_iff_eq.2 g2
        have E : Hid (true = nb) := (by rw [← HNB.out]; exact (decide_eq_true (Or.inr g2)).symm : true = nb)
        clear g1 g2
        go_wp2
        go_meet
        exact ⟨by rw [← E.out], rfl⟩
      · have e2 : (A - Bb == -1) = false := beq_eq_false_iff_ne.2 g2
        have E : Hid (false = nb) := (by rw [← HNB.out]; exact (decide_eq_false (fun q => q.elim g1 g2)).symm : false = nb)
        clear g1 g2
        go_wp2
        go_meet
        exact ⟨by rw [← E.out], rfl⟩
  case rest =>
  rename World => wq
  obtain ⟨rfl, rfl⟩ := hcut
  go_upto_if 64 with (fail)
  go_cut [16] from 65 to 83 (fun s16 wx => ∃ q m : Nat, s16 = .slice (some ⟨q, 0, none⟩) m m ∧ Hid (wx.heap[q]? = some (.cells (intsV (relL ra rb)).toArray 3 (0, 0)) ∧ (relL ra rb).length = m) ∧ Hid (Below w1.heap.size w1 wx))
  case first =>
    cases nb with
    | true =>
      have E : Hid (relL ra rb = [A, Bb, A, -Bb, -A, -Bb]) := (by
        have h3 := of_decide_eq_true HNB.out
        have h4 := HA.out
        have h5 := HBb.out
        unfold relL
        rw [if_pos (by omega), ← h4, ← h5] : relL ra rb = [A, Bb, A, -Bb, -A, -Bb])
      have HX : Hid (((wq.alloc (.cells #[.int .i64 A, .int .i64 Bb, .int .i64 A, .int .i64 (-Bb), .int .i64 (-A), .int .i64 (-Bb)] 3)).heap[wq.heap.size]? = some (.cells (intsV (relL ra rb)).toArray 3 (0, 0)) ∧ (relL ra rb).length = 6) ∧ Below w1.heap.size w1 (wq.alloc (.cells #[.int .i64 A, .int .i64 Bb, .int .i64 A, .int .i64 (-Bb), .int .i64 (-A), .int .i64 (-Bb)] 3))) := (by
        rw [E.out]
        exact ⟨⟨alloc_at rfl, rfl⟩, HBV5.out.alloc HBV5.out.size _⟩)
      go_wp2
      go_meet
      exact ⟨wq.heap.size, 6, rfl, HX.out.1, HX.out.2⟩
    | false =>
      by_cases g : A = Bb
      · have e1 : (A - Bb != 0) = false := by simp; omega
        have E : Hid (relL ra rb = [A, -A]) := (by
          have h4 := HA.out
          have h5 := HBb.out
          unfold relL
          rw [if_neg (by omega), if_pos (by omega), ← h4] : relL ra rb = [A, -A])
        have HX : Hid ((wq.heap[w1.heap.size]? = some (.cells (intsV (relL ra rb)).toArray 3 (0, 0)) ∧ (relL ra rb).length = 2) ∧ Below w1.heap.size w1 wq) := (by
          rw [E.out]
          exact ⟨⟨HV5.out, rfl⟩, HBV5.out⟩)
        clear g
        go_wp2
        go_meet
        exact ⟨w1.heap.size, 2, rfl, HX.out.1, HX.out.2⟩
      · have e1 : (A - Bb != 0) = true := by simp; omega
        have E : Hid (relL ra rb = [A, Bb, -A, -Bb]) := (by
          have h3 := of_decide_eq_false HNB.out
          have h4 := HA.out
          have h5 := HBb.out
          unfold relL
          rw [if_neg (by omega), if_neg (by omega), ← h4, ← h5] : relL ra rb = [A, Bb, -A, -Bb])
        have HX : Hid (((wq.alloc (.cells #[.int .i64 A, .int .i64 Bb, .int .i64 (-A), .int .i64 (-Bb)] 3)).heap[wq.heap.size]? = some (.cells (intsV (relL ra rb)).toArray 3 (0, 0)) ∧ (relL ra rb).length = 4) ∧ Below w1.heap.size w1 (wq.alloc (.cells #[.int .i64 A, .int .i64 Bb, .int .i64 (-A), .int .i64 (-Bb)] 3))) := (by
          rw [E.out]
          exact ⟨⟨alloc_at rfl, rfl⟩, HBV5.out.alloc HBV5.out.size _⟩)
        clear g
        go_wp2
        go_meet
        exact ⟨wq.heap.size, 4, rfl, HX.out.1, HX.out.2⟩
  case rest =>
  rename World => w6
  obtain ⟨q6, m6, rfl, HR6, HB6⟩ := hcut
  clear HNB HV5 HBV5 ewA2 ewB2 ewAB ewA ewB
  obtain ⟨hcA, hcB, hkc, hNc⟩ := cut_in (k := k) HN.out HKN.out HO1.out
  obtain ⟨aB, haB⟩ : ∃ aB, (if c2 = k then a2 else Option.map (fun x => x.add k) a2) = aB := ⟨_, rfl⟩
  obtain ⟨nB, hnB⟩ : ∃ nB, N - k = nB := ⟨_, rfl⟩
  obtain ⟨cB, hcB2⟩ : ∃ cB, c2 - k = cB := ⟨_, rfl⟩
  have hsA : sliced a2 0 k c2 1 = .slice a2 k c2 := by
    unfold sliced
    cases a2 with
    | none => simp
    | some ad => simp [Addr.add]
  have hsB : sliced a2 k N c2 1 = .slice aB nB cB := by
    unfold sliced
    rw [← haB, ← hnB, ← hcB2, Nat.mul_one]
  rw [hsA] at hcA
  rw [hsB] at hcB
  have HAB := hid_g haB
  have HNCB : Hid (N - k = nB ∧ c2 - k = cB) := ⟨hnB, hcB2⟩
  have HCA := hid_g (hcA.up HB6.out)
  have HCB := hid_g (hcB.up HB6.out)
  have HCU := hid_g ((own_in HO1.out).up HB6.out)
  have hkN := HKN.out
  have hkI1 : (0 : Int) ≤ (k : Int) := by omega
  have hkI2 : (k : Int) ≤ (c2 : Int) := by omega
  have hkI3 : (k : Int) ≤ (N : Int) := by omega
  have hkI4 : (N : Int) ≤ (c2 : Int) := by omega
  clear hcA hcB hsA hsB haB hnB hcB2
  go_upto_region 11 with (fail)
  refine rhd (S := fun _ => True) (R := fun _ => True) (fun _ _ => trivial) trivial (fun hHeld => ?_)
  have HBD : Hid (Below w6.heap.size w6 w6.drew) := (Below.refl _ _).drew
  generalize w6.drew = D at HBD ⊢
  refine tq 84 0 (h := ?_)
  simp only [List.setIfInBounds_toArray, List.set_cons_succ, List.set_cons_zero]
  refine tq 85 1 (h := ?_)
  simp only [List.setIfInBounds_toArray, List.set_cons_succ, List.set_cons_zero]
  refine tq 86 2 (h := ?_)
  simp only [List.setIfInBounds_toArray, List.set_cons_succ, List.set_cons_zero]
  refine tq 87 3 (h := ?_)
  simp only [List.setIfInBounds_toArray, List.set_cons_succ, List.set_cons_zero]
  refine tq 88 4 (h := ?_)
  simp only [List.setIfInBounds_toArray, List.set_cons_succ, List.set_cons_zero]
  refine tq 89 5 (h := ?_)
  simp only [List.setIfInBounds_toArray, List.set_cons_succ, List.set_cons_zero]
  refine tq 90 6 (v := .slice aB nB cB) (hy := ?_) (h := ?_)
  · intro w hSw
    go_simp
    rw [HAB.out, HNCB.out.1, HNCB.out.2]
    exact ⟨rfl, rfl, rfl⟩
  simp only [List.setIfInBounds_toArray, List.set_cons_succ, List.set_cons_zero]
  obtain ⟨V7, hV7⟩ : ∃ V, D.alloc (.cells #[.slice a2 k c2, .slice (some ⟨q6, 0, none⟩) m6 m6, .slice aB nB cB] 22) = V := ⟨_, rfl⟩
  have HV7 := hid_g hV7
  have HBV7 : Hid (Below D.heap.size D V7) := (by rw [← hV7]; exact (Below.refl _ _).alloc (Nat.le_refl _) _ : Below D.heap.size D V7)
  have HJ : Hid (Calls Try.prog 13 #[.slice (some ⟨D.heap.size, 0, none⟩) 3 3] V7 fun e w' => ∃ a2 c2, e = .returned (.slice a2 (L.take k ++ relL ra rb ++ L.drop k).length c2) ∧ w'.ownsRow V7.heap.size 3 1 (.slice a2 (L.take k ++ relL ra rb ++ L.drop k).length c2) (L.take k ++ relL ra rb ++ L.drop k).length (intsV (L.take k ++ relL ra rb ++ L.drop k)) ∧ Below V7.heap.size V7 w') := (by
    have hb6 : Below w6.heap.size w6 V7 := HBD.out.trans (HBV7.out.mono HBD.out.size)
    refine join_three (by rw [← hV7]; exact alloc_at rfl) (HCA.out.up hb6) ?_ (HCB.out.up hb6) ?_ ?_ ?_
    · exact (lit_in HR6.out.1 HR6.out.2).up hb6
    · have := HN.out; simp; omega
    · have := relL_len ra rb; omega
    · have := HN.out; simp; omega)
  have HBX : Hid (Below w6.heap.size w6 V7) := HBD.out.trans (HBV7.out.mono HBD.out.size)
  clear hV7
  refine rd1 7 ?_
  intro K0 hK0
  go_simp
  rw [HV7.out]
  refine hK0.out _ _ trivial (fun hHeld => ?_)
  clear hK0 K0
  (try simp only [Act.put])
  (try simp only [List.getElem_toArray])
  (try simp only [List.getElem_cons_succ])
  (try simp only [List.getElem_cons_zero])
  (try simp only [List.setIfInBounds_toArray, List.set_cons_succ, List.set_cons_zero])
  obtain ⟨vw, hvw⟩ : ∃ vw, L.take k ++ relL ra rb ++ L.drop k = vw := ⟨_, rfl⟩
  rw [hvw] at HJ
  obtain ⟨M, hM⟩ : ∃ M, vw.length = M := ⟨_, rfl⟩
  rw [hM] at HJ
  have HVW := hid_g hvw
  have HM := hid_g hM
  have hM18 : M ≤ 18 := by
    have h1 := relL_len ra rb
    have h2 := HN.out
    rw [← hM, ← hvw, List.length_append, List.length_append, List.length_take, List.length_drop]
    omega
  clear hvw hM
  refine rd1 8 ?_
  intro K0 hK0
  go_simp
  go_wp2_with (first | (go_at_call 13; refine HJ.out.mono ?_; rintro e9 w7 ⟨a7, c7, rfl, ho7, hb7⟩))
  have HO7 := hid_g ho7
  have HB7 := hid_g (HBX.out.trans (hb7.mono HBX.out.size))
  refine hK0.out _ _ trivial (fun hHeld => ?_)
  clear hK0 K0 ho7 hb7 HJ
  (try simp only [Act.put])
  (try simp only [List.getElem_toArray])
  (try simp only [List.getElem_cons_succ])
  (try simp only [List.getElem_cons_zero])
  (try simp only [List.setIfInBounds_toArray, List.set_cons_succ, List.set_cons_zero])
  refine tq 18 9 (h := ?_)
  simp only [List.setIfInBounds_toArray, List.set_cons_succ, List.set_cons_zero]
  refine wpAnyH_done (by kernel_rfl) ?_ _
  clear hHeld HV7 HBV7 HBX HBD
  have HIU := hid_g (HCU.out.up HB7.out)
  have HBW7 : Hid (Below w.heap.size w w7) := HB1.out.trans (HB6.out.mono HB1.out.size |>.trans (HB7.out.mono (Nat.le_trans HB1.out.size HB6.out.size)))
  have hvL : ∀ x ∈ vw, LtN n x := by
    rw [← HVW.out]
    intro x hx
    rcases List.mem_append.1 hx with hx | hx
    · rcases List.mem_append.1 hx with hx | hx
      · exact HLT.out x (List.mem_of_mem_take hx)
      · exact relL_lt HRA.out HRB.out x hx
    · exact HLT.out x (List.mem_of_mem_drop hx)
  have HWU : Hid (wordN (n : Int) L = 0 ∧ wordN (n : Int) vw = 0) := ⟨wordN_of (by omega) (by omega) (by rw [HN.out]; omega) HLT.out, wordN_of (by omega) (by omega) (by rw [HM.out]; omega) hvL⟩
  have HNF : Hid (decide (nfW n L = nfW n vw) = true) := (decide_eq_true (by rw [← HVW.out]; exact (rel_nf (by omega) HLT.out k HRA.out HRB.out).symm) : decide (nfW n L = nfW n vw) = true)
  have HAC : Hid (decide (actT n L N = actT n vw M) = true) := (decide_eq_true (by rw [← HN.out, ← HM.out, ← HVW.out]; exact (rel_act HLT.out k HRA.out HRB.out).symm) : decide (actT n L N = actT n vw M) = true)
  have HEQ : Hid (Calls Try.prog 6 #[.int .i64 (n : Nat), .slice a2 N c2, .slice a7 M c7] w7 fun e w' => e = .returned (.tuple #[.bool true, .int .i64 0]) ∧ Below w7.heap.size w7 w') := (by
    have h3 := equal_yes n c2 c7 a2 a7 L vw w7 HWU.out.1 HWU.out.2 (by rw [HN.out]; exact HIU.out.rdI) (by rw [HM.out]; exact own_rd HO7.out)
    rw [HNF.out, HN.out, HM.out] at h3
    exact h3)
  clear hvL HCA HCB HCU HAB HNCB HR6
  go_wp2_with (first | (go_at_call 6; refine HEQ.out.mono ?_; rintro e9 w8 ⟨rfl, hb8⟩; refine Hid.out ?_))
  refine Lib.hid ?_
  have HB8 := hid_g (HBW7.out.trans (hb8.mono HBW7.out.size))
  have HTD : Hid (Calls Try.prog 12 #[.int .i64 (n : Nat), .slice a2 N c2, .slice a7 M c7] w8 fun e w' => e = .returned (.tuple #[.bool true, .bool true, .bool true]) ∧ Below w8.heap.size w8 w') := (by
    have h3 := told_any n c2 c7 a2 a7 L vw w8 HWU.out.1 HWU.out.2 (by rw [HN.out]; exact (HIU.out.up hb8).rdI) (by rw [HM.out]; exact ((own_rd HO7.out).on hb8).mono hb8.size)
    rw [HNF.out, HN.out, HM.out, HAC.out] at h3
    exact h3)
  clear hb8 HEQ HIU HO7
  go_wp2_with (first | (go_at_call 12; refine HTD.out.mono ?_; rintro e9 w9 ⟨rfl, hb9⟩; refine Hid.out ?_))
  refine Lib.hid ?_
  have HB9 := hid_g (HB8.out.trans (hb9.mono HB8.out.size))
  clear hb9 HTD HB8 HNF HAC HWU HBW7 HB7 HB6 HVW HM
  obtain ⟨b0, hb0⟩ : ∃ b0, b0 = w9.heap.size := ⟨_, rfl⟩
  have ewp : IntKind.i64.wrap ((n : Int) - 1) = (p : Int) := by rw [IntWalk.i64_in _ (by omega)]; have := HNP.out; omega
  have hp4 : p ≤ 4 := by have := HNP.out; omega
  go_wp2
  go_loopw [24, 25, 26] (fun v24 v25 v26 wr => ∃ (d m c : Nat) (a : Option Addr), m ≤ 4 ∧ v25 = .int .i64 (m : Nat) ∧ Hid (m + d = p) ∧ ∃ h : Nat, v24 = .slice a h c ∧ h ≤ 20 ∧ Hid ((hfD n d).length = h ∧ wr.ownsRow w9.heap.size 3 1 (.slice a h c) h (intsV (hfD n d))) ∧ Hid (Below w9.heap.size w9 wr)) (fun _ v25 _ _ => (intOf v25).toNat)
  case atStart => exact ⟨0, p, 0, none, hp4, rfl, (by omega : p + 0 = p), 0, rfl, by omega, ⟨rfl, World.ownsRow_nil _ _ _ _⟩, Below.refl _ _⟩
  case round =>
    rename World => W1
    obtain ⟨d, m, c4, a4, hm4, rfl, hmd, h, rfl, hh, hrow, hbw⟩ := hrel
    cases m with
    | succ m =>
      have hd1 : decide ((0 : Int) < ((m + 1 : Nat) : Int)) = true := decide_eq_true (by omega)
      have hcast : ((m + 1 : Nat) : Int) = (m : Int) + 1 := by omega
      have ewm : IntKind.i64.wrap ((m : Int) + 1 - 1) = (m : Int) := by rw [IntWalk.i64_in _ (by omega)]; omega
      have HH4 : Hid (h ≤ 4 * d) := (by rw [← hrow.out.1]; exact hfD_le HNP.out hn5 d (by have := hmd.out; omega) : h ≤ 4 * d)
      have HIN : Hid ((hfD n d ++ mapI 0 (fun i => (i : Int) + 1)).length = h + 0 ∧ W1.ownsRow w9.heap.size 3 1 (.slice a4 (h + 0) c4) (h + 0) (intsV (hfD n d ++ mapI 0 (fun i => (i : Int) + 1)))) := (by
        have e : hfD n d ++ mapI 0 (fun i => (i : Int) + 1) = hfD n d := by unfold mapI; simp
        rw [e]
        exact hrow.out)
      rw [hcast] at hd1 ⊢
      clear hcast hrow
      go_wp2
      go_loopw [24, 26] (fun v24 v26 wr => ∃ (t c : Nat) (a : Option Addr) (g : Nat), t ≤ m + 1 ∧ v26 = .int .i64 ((t : Int) + 1) ∧ v24 = .slice a g c ∧ Hid (g = h + t) ∧ Hid ((hfD n d ++ mapI t (fun i => (i : Int) + 1)).length = g ∧ wr.ownsRow w9.heap.size 3 1 (.slice a g c) g (intsV (hfD n d ++ mapI t (fun i => (i : Int) + 1)))) ∧ Hid (Below w9.heap.size w9 wr)) (fun _ v26 _ => m + 2 - (intOf v26).toNat)
      case atStart => exact ⟨0, c4, a4, h, by omega, rfl, rfl, (rfl : h = h + 0), HIN.out, hbw.out⟩
      case round =>
        clear HIN
        rename World => W2
        obtain ⟨t, c5, a5, g, htm, rfl, rfl, hg, hrow, hbw2⟩ := hrel
        by_cases ht : t < m + 1
        · have hdt : decide ((t : Int) + 1 ≤ (m : Int) + 1) = true := decide_eq_true (by omega)
          have hg20 : g ≤ 20 := by have h1 := HH4.out; have h2 := hmd.out; have h3 := hg.out; omega
          have HOV : Hid ((W2.alloc (.cells #[.int .i64 ((t : Int) + 1)] 3)).ownsRow w9.heap.size 3 1 (.slice a5 g c5) g (intsV (hfD n d ++ mapI t (fun i => (i : Int) + 1)))) := own_any hrow.out.2 (World.grownBy_alloc _ _ _)
          have hle9 : w9.heap.size ≤ (W2.alloc (.cells #[.int .i64 ((t : Int) + 1)] 3)).heap.size := by have := hbw2.out.size; simp; omega
          have HNE : Hid (hfD n d ++ mapI (t + 1) (fun i => (i : Int) + 1) = hfD n d ++ mapI t (fun i => (i : Int) + 1) ++ [(t : Int) + 1]) := (by unfold mapI; rw [List.range_succ, List.map_append, List.append_assoc]; rfl : hfD n d ++ mapI (t + 1) (fun i => (i : Int) + 1) = hfD n d ++ mapI t (fun i => (i : Int) + 1) ++ [(t : Int) + 1])
          have hlt9 : hbw2 = hbw2 := rfl
          go_wp2_with (first
            | (at_builtin; refine wpList_append_own _ rfl _ _ 22 rfl w9.heap.size 3 i1 (.int .i64 0) 1 8 Try.underlying22 hk1 hx0 hx1 hx2 rfl (by decide) _ g _ rfl HOV.out ⟨W2.heap.size, 0, none⟩ 1 1 [.int .i64 ((t : Int) + 1)] rfl rfl (new_cell1 _ _ _) (one_intB _) (by unfold maxLen; omega) (by omega) hle9 ?_; intro v8 w8 hown8 hg8 _; refine Hid.out ?_))
          refine Lib.hid ?_
          obtain ⟨a8, c8, rfl⟩ := own_capS hown8
          have HO8 : Hid ((hfD n d ++ mapI (t + 1) (fun i => (i : Int) + 1)).length = g + 1 ∧ w8.ownsRow w9.heap.size 3 1 (.slice a8 (g + 1) c8) (g + 1) (intsV (hfD n d ++ mapI (t + 1) (fun i => (i : Int) + 1)))) := (by
            rw [HNE.out]
            refine ⟨by rw [List.length_append, hrow.out.1]; rfl, ?_⟩
            have e : intsV (hfD n d ++ mapI t (fun i => (i : Int) + 1) ++ [(t : Int) + 1]) = intsV (hfD n d ++ mapI t (fun i => (i : Int) + 1)) ++ [.int .i64 ((t : Int) + 1)] := by unfold intsV; rw [List.map_append]; rfl
            rw [e]
            exact hown8)
          have HB8 : Hid (Below w9.heap.size w9 w8) := (hbw2.out.alloc hbw2.out.size _).grown hg8 (by have := hbw2.out.size; simp; omega) (fun q hq => (hrow.out.2.lt q hq).1)
          have HG8 : Hid (g + 1 = h + (t + 1)) := (by have := hg.out; omega : g + 1 = h + (t + 1))
          clear hown8 hg8 HOV HNE hle9 hlt9 hrow hg
          go_wp2
          go_roundw
          case rel => exact ⟨t + 1, c8, a8, g + 1, by omega, by go_num, rfl, HG8.out, HO8.out, HB8.out⟩
          case measure => simp only [intOf]; omega
        · obtain rfl : t = m + 1 := by omega
          have hdt : decide ((((m + 1 : Nat) : Int)) + 1 ≤ (m : Int) + 1) = false := decide_eq_false (by omega)
          have HO8 : Hid ((hfD n (d + 1)).length = g ∧ W2.ownsRow w9.heap.size 3 1 (.slice a5 g c5) g (intsV (hfD n (d + 1)))) := (by
            have e : hfD n (d + 1) = hfD n d ++ mapI (m + 1) (fun i => (i : Int) + 1) := by
              show hfD n d ++ mapI (n - 1 - d) _ = _
              rw [show n - 1 - d = m + 1 by have h1 := HNP.out; have h2 := hmd.out; omega]
            rw [e]
            exact hrow.out)
          have HMD : Hid (m + (d + 1) = p) := (by have := hmd.out; omega : m + (d + 1) = p)
          have hg20 : g ≤ 20 := by have h1 := HH4.out; have h2 := hmd.out; have h3 := hg.out; omega
          clear hrow hg
          go_wp2
          go_roundw
          case rel => exact ⟨d + 1, m, c5, a5, by omega, by go_num, HMD.out, g, rfl, hg20, HO8.out, hbw2.out⟩
          case measure => simp only [intOf]; omega
    | zero =>
      obtain rfl : d = p := by have := hmd.out; omega
      have hd0 : decide ((0 : Int) < ((0 : Nat) : Int)) = false := rfl
      have ew2h : IntKind.i64.wrap (2 * (h : Int)) = 2 * (h : Int) := IntWalk.i64_in _ (by omega)
      have ew2h1 : IntKind.i64.wrap (2 * (h : Int) + 1) = 2 * (h : Int) + 1 := IntWalk.i64_in _ (by omega)
      have HBF := hid_g (HB9.out.trans (hbw.out.mono HB9.out.size))
      rcases hfD_len HNP.out hn3 hn5 with ⟨hn34, hlen⟩ | hlen
      · have hh6 : h ≤ 6 := by rw [← hrow.out.1]; exact hlen
        have hd2 : decide ((20 : Int) < 2 * (h : Int) + 1) = false := decide_eq_false (by omega)
        have HAL := hid_g (hf_all hn34 HRB.out)
        have hn1 : n - 1 = d := by have := HNP.out; omega
        rw [hn1] at HAL
        obtain ⟨Hf, hHf⟩ : ∃ Hf, hfD n d = Hf := ⟨_, rfl⟩
        have HLTH : Hid (∀ x ∈ Hf, LtN n x) := (by rw [← hHf]; exact hfD_lt d (by omega) : ∀ x ∈ Hf, LtN n x)
        rw [hHf] at HAL hrow
        have HLEN := hid_g hrow.out.1
        have HOH := hid_g hrow.out.2
        have HIH : Hid (∀ W, Below W1.heap.size W1 W → InAt W W.heap.size 1 (.slice a4 h c4) Hf.length (intsV Hf)) := fun W hW => by rw [HLEN.out]; exact (own_in HOH.out).up hW
        obtain ⟨F2, hF2⟩ : ∃ F2, Hf ++ Hf = F2 := ⟨_, rfl⟩
        obtain ⟨f2, hf2⟩ : ∃ f2, F2.length = f2 := ⟨_, rfl⟩
        have hf12 : f2 ≤ 12 := by rw [← hf2, ← hF2, List.length_append, HLEN.out]; omega
        have HJ1 : Hid (Calls Try.prog 13 #[.slice (some ⟨W1.heap.size, 0, none⟩) 2 2] (W1.alloc (.cells #[.slice a4 h c4, .slice a4 h c4] 22)) fun e w' => ∃ a2 c2, e = .returned (.slice a2 f2 c2) ∧ w'.ownsRow (W1.alloc (.cells #[.slice a4 h c4, .slice a4 h c4] 22)).heap.size 3 1 (.slice a2 f2 c2) f2 (intsV F2) ∧ Below (W1.alloc (.cells #[.slice a4 h c4, .slice a4 h c4] 22)).heap.size (W1.alloc (.cells #[.slice a4 h c4, .slice a4 h c4] 22)) w') := (by
          have hb := (Below.refl W1.heap.size W1).alloc (Nat.le_refl _) (.cells #[.slice a4 h c4, .slice a4 h c4] 22)
          rw [← hf2, ← hF2]
          exact join_two (alloc_at rfl) (HIH.out _ hb) (HIH.out _ hb) (by rw [HLEN.out]; omega) (by rw [HLEN.out]; omega))
        have HBA : Hid (Below W1.heap.size W1 (W1.alloc (.cells #[.slice a4 h c4, .slice a4 h c4] 22))) := (Below.refl W1.heap.size W1).alloc (Nat.le_refl _) _
        have HWH : Hid (wordN (n : Int) Hf = 0) := wordN_of (by omega) (by omega) (by rw [HLEN.out]; omega) HLTH.out
        have HF2L : Hid (∀ x ∈ F2, LtN n x) := (by rw [← hF2]; intro x hx; rcases List.mem_append.1 hx with q | q <;> exact HLTH.out x q : ∀ x ∈ F2, LtN n x)
        have HFF := hid_g hf2
        rw [hF2] at HAL
        rw [← HBb.out] at HAL
        have HBL : Hid (LtN n Bb) := (by rw [HBb.out]; exact ltN_pos HRB.out : LtN n Bb)
        clear hF2 hf2 hHf hn1 hrow hlen
        go_wp2_with (first | (go_at_call 13; refine HJ1.out.mono ?_; rintro e9 w10 ⟨a10, c10, rfl, ho10, hb10⟩; refine Hid.out ?_))
        refine Lib.hid ?_
        have HB10 := hid_g (HBA.out.trans (hb10.mono HBA.out.size))
        have HO10 := hid_g (own_lowG ho10 HBA.out.size)
        have HIF : Hid (∀ W, Below w10.heap.size w10 W → InAt W W.heap.size 1 (.slice a10 f2 c10) F2.length (intsV F2)) := fun W hW => by rw [HFF.out]; exact (own_in HO10.out).up hW
        have HNR : Hid (Calls Try.prog 14 #[.int .i64 (n : Nat), .slice a4 h c4] w10 fun e w' => ∃ a2 m cap, e = .returned (.tuple #[.int .i64 1, .slice a2 m cap, .int .i64 0]) ∧ Below w10.heap.size w10 w') := (by
          have h3 := normal_yes n c4 a4 Hf w10 HWH.out (by have q := (HIH.out _ HB10.out).rdI; rw [HLEN.out] at q ⊢; exact q)
          rw [HAL.out.1, HLEN.out] at h3
          exact h3.mono fun e w' ⟨x1, x2, x3, x4, _, x6⟩ => ⟨x1, x2, x3, x4, x6⟩)
        clear hb10 ho10 HJ1 HBA
        go_wp2_with (first | (go_at_call 14; refine HNR.out.mono ?_; rintro e9 w11 ⟨a11, m11, c11, rfl, hb11⟩; refine Hid.out ?_))
        refine Lib.hid ?_
        have HB11 := hid_g (HB10.out.trans (hb11.mono HB10.out.size))
        have HB11b := hid_g hb11
        have HJ2 : Hid (Calls Try.prog 13 #[.slice (some ⟨w11.heap.size + 1, 0, none⟩) 2 2] ((w11.alloc (.cells #[.int .i64 Bb] 3)).alloc (.cells #[.slice a10 f2 c10, .slice (some ⟨w11.heap.size, 0, none⟩) 1 1] 22)) fun e w' => ∃ a2 c2, e = .returned (.slice a2 (f2 + 1) c2) ∧ InAt w' w'.heap.size 1 (.slice a2 (f2 + 1) c2) (f2 + 1) (intsV (F2 ++ [Bb])) ∧ Below w11.heap.size w11 w') := (by
          have hb1 := (Below.refl w11.heap.size w11).alloc (Nat.le_refl _) (.cells #[.int .i64 Bb] 3)
          have hb2 := hb1.alloc (by simp) (.cells #[.slice a10 f2 c10, .slice (some ⟨w11.heap.size, 0, none⟩) 1 1] 22)
          have hc := alloc_old (o := .cells #[.slice a10 f2 c10, .slice (some ⟨w11.heap.size, 0, none⟩) 1 1] 22) (alloc_at (w := w11) (o := (.cells #[.int .i64 Bb] 3)) rfl)
          have h3 := join_two (A := F2) (B := [Bb]) (alloc_at (w := w11.alloc (.cells #[.int .i64 Bb] 3)) (k := w11.heap.size + 1) (by simp)) (HIF.out _ (HB11b.out.trans (hb2.mono HB11b.out.size))) (lit_in (l := [Bb]) hc rfl) (by rw [HFF.out]; omega) (by simp)
          have e : (F2 ++ [Bb]).length = f2 + 1 := by rw [List.length_append, HFF.out]; rfl
          rw [e] at h3
          exact h3.mono fun e w' ⟨x1, x2, x3, x4, x5⟩ => ⟨x1, x2, x3, own_in x4, hb2.trans (x5.mono hb2.size)⟩)
        clear hb11 HNR
        go_wp2_with (first | (go_at_call 13; refine HJ2.out.mono ?_; rintro e9 w12 ⟨a12, c12, rfl, hi12, hb12⟩; refine Hid.out ?_))
        refine Lib.hid ?_
        have HB12 := hid_g (HB11.out.trans (hb12.mono HB11.out.size))
        have HB12b := hid_g (HB11b.out.trans (hb12.mono HB11b.out.size))
        have HI12 := hid_g hi12
        have HJ3 : Hid (Calls Try.prog 13 #[.slice (some ⟨w12.heap.size + 1, 0, none⟩) 2 2] ((w12.alloc (.cells #[.int .i64 Bb] 3)).alloc (.cells #[.slice (some ⟨w12.heap.size, 0, none⟩) 1 1, .slice a10 f2 c10] 22)) fun e w' => ∃ a2 c2, e = .returned (.slice a2 (f2 + 1) c2) ∧ InAt w' w'.heap.size 1 (.slice a2 (f2 + 1) c2) (f2 + 1) (intsV ([Bb] ++ F2)) ∧ Below w12.heap.size w12 w') := (by
          have hb1 := (Below.refl w12.heap.size w12).alloc (Nat.le_refl _) (.cells #[.int .i64 Bb] 3)
          have hb2 := hb1.alloc (by simp) (.cells #[.slice (some ⟨w12.heap.size, 0, none⟩) 1 1, .slice a10 f2 c10] 22)
          have hc := alloc_old (o := .cells #[.slice (some ⟨w12.heap.size, 0, none⟩) 1 1, .slice a10 f2 c10] 22) (alloc_at (w := w12) (o := (.cells #[.int .i64 Bb] 3)) rfl)
          have h3 := join_two (A := [Bb]) (B := F2) (alloc_at (w := w12.alloc (.cells #[.int .i64 Bb] 3)) (k := w12.heap.size + 1) (by simp)) (lit_in (l := [Bb]) hc rfl) (HIF.out _ (HB12b.out.trans (hb2.mono HB12b.out.size))) (by simp) (by rw [HFF.out]; omega)
          have e : ([Bb] ++ F2).length = f2 + 1 := by rw [List.length_append, HFF.out]; simp; omega
          rw [e] at h3
          exact h3.mono fun e w' ⟨x1, x2, x3, x4, x5⟩ => ⟨x1, x2, x3, own_in x4, hb2.trans (x5.mono hb2.size)⟩)
        clear hb12 hi12 HJ2
        go_wp2_with (first | (go_at_call 13; refine HJ3.out.mono ?_; rintro e9 w13 ⟨a13, c13, rfl, hi13, hb13⟩; refine Hid.out ?_))
        refine Lib.hid ?_
        have HB13 := hid_g (HB12.out.trans (hb13.mono HB12.out.size))
        have HEQ2 : Hid (Calls Try.prog 6 #[.int .i64 (n : Nat), .slice a12 (f2 + 1) c12, .slice a13 (f2 + 1) c13] w13 fun e w' => e = .returned (.tuple #[.bool true, .int .i64 0]) ∧ Below w13.heap.size w13 w') := (by
          have e1 : (F2 ++ [Bb]).length = f2 + 1 := by rw [List.length_append, HFF.out]; rfl
          have e2 : ([Bb] ++ F2).length = f2 + 1 := by rw [List.length_append, HFF.out]; simp; omega
          have l1 : ∀ x ∈ F2 ++ [Bb], LtN n x := fun x hx => by
            rcases List.mem_append.1 hx with q | q
            · exact HF2L.out x q
            · rw [List.mem_singleton.1 q]; exact HBL.out
          have l2 : ∀ x ∈ [Bb] ++ F2, LtN n x := fun x hx => by
            rcases List.mem_append.1 hx with q | q
            · rw [List.mem_singleton.1 q]; exact HBL.out
            · exact HF2L.out x q
          have h3 := equal_yes n c12 c13 a12 a13 (F2 ++ [Bb]) ([Bb] ++ F2) w13 (wordN_of (by omega) (by omega) (by rw [e1]; omega) l1) (wordN_of (by omega) (by omega) (by rw [e2]; omega) l2) (by rw [e1]; exact ((HI12.out.up hb13)).rdI) (by rw [e2]; exact hi13.rdI)
          rw [e1, e2, decide_eq_true HAL.out.2] at h3
          exact h3)
        clear hb13 hi13 HJ3
        go_wp2_with (first | (go_at_call 6; refine HEQ2.out.mono ?_; rintro e9 w14 ⟨rfl, hb14⟩; refine Hid.out ?_))
        refine Lib.hid ?_
        have HFN : Hid (Below w.heap.size w w14) := HBF.out.trans ((HB13.out.trans (hb14.mono HB13.out.size)).mono HBF.out.size)
        clear hb14 HEQ2
        go_wp2
        go_ret
        exact ⟨rfl, HFN.out⟩
      · have hh10 : h = 10 := by rw [← hrow.out.1]; exact hlen
        have hd2 : decide ((20 : Int) < 2 * (h : Int) + 1) = true := decide_eq_true (by omega)
        clear hh10 hlen hrow
        go_wp2
        go_ret
        exact ⟨rfl, HBF.out⟩
end Go.Proofs.Ytdlmhcickcgnfaa

/- Several texts of the proof, one behind the other. -/
import Derived.Test.YtbikalghmlihlaaZ2P
import Derived.Test.YtbikalghmlihlaaZB
import Derived.Test.YtbikalghmlihlaaA0
import Derived.Test.YtbikalghmlihlaaW8P
import Derived.Test.YtbikalghmlihlaaW12P
import Derived.Test.YtbikalghmlihlaaF5P
/- Plain mathematics: Dowker's numbers are just the even numbers, each once. -/
namespace Go.Proofs.Ytbikalghmlihlaa

theorem dow_at (x : Nat → Nat) (o : Nat → Bool) (n i m : Nat) (hi : i < m) : (dowTo x o n m).getD i 0 = evTo x o (x (2 * i)) n := by
  induction m with
  | zero => omega
  | succ m ih =>
    simp only [dowTo]
    by_cases e : i = m
    · subst e
      have hl : (dowTo x o n i).length = i := dow_len x o n i
      rw [List.getD_eq_getElem?_getD, List.getElem?_append_right (by omega), hl]
      simp
    · rw [← ih (by omega), List.getD_eq_getElem?_getD, List.getElem?_append_left (by rw [dow_len]; omega), ← List.getD_eq_getElem?_getD]
theorem ev_some (x : Nat → Nat) (o : Nat → Bool) (c n : Nat) (h : evTo x o c n ≠ 0) : ∃ j, j < n ∧ x (2 * j + 1) = c ∧ evTo x o c n = evN o j := by
  induction n with
  | zero => exact absurd rfl h
  | succ n ih =>
    simp only [evTo] at h ⊢
    by_cases e : x (2 * n + 1) = c
    · rw [if_pos e]
      exact ⟨n, by omega, e, rfl⟩
    · rw [if_neg e] at h ⊢
      obtain ⟨j, hj, h1, h2⟩ := ih h
      exact ⟨j, by omega, h1, h2⟩
theorem evN_abs (o : Nat → Bool) (j : Nat) : (evN o j).natAbs = 2 * j + 2 := by
  unfold evN
  split <;> omega
/-- Each number is even, from 2 on, and stands once. -/
theorem dow_nums {x : Nat → Nat} {o : Nat → Bool} {n : Nat} (hx : ∀ p, p < 2 * n → x p < n) (h2 : ∀ c, c < n → cp x c 0 (2 * n) + cp x c 1 (2 * n) = 2) (h : plane x n) :
    (∀ i, i < n → 2 ≤ ((dowTo x o n n).getD i 0).natAbs ∧ ((dowTo x o n n).getD i 0).natAbs ≤ 2 * n ∧ ((dowTo x o n n).getD i 0).natAbs % 2 = 0) ∧
    (∀ i k, i < n → k < n → i ≠ k → ((dowTo x o n n).getD i 0).natAbs ≠ ((dowTo x o n n).getD k 0).natAbs) := by
  have key : ∀ i, i < n → ∃ j, j < n ∧ x (2 * j + 1) = x (2 * i) ∧ ((dowTo x o n n).getD i 0).natAbs = 2 * j + 2 := fun i hi => by
    obtain ⟨j, h1, h3, h4⟩ := ev_some x o (x (2 * i)) n ((plane_iff hx h2).2 h i hi)
    refine ⟨j, h1, h3, ?_⟩
    rw [dow_at x o n i n hi, h4, evN_abs]
  refine ⟨fun i hi => ?_, fun i k hi hk hne e => ?_⟩
  · obtain ⟨j, h1, -, h4⟩ := key i hi
    omega
  · obtain ⟨j, h1, h3, h4⟩ := key i hi
    obtain ⟨j', h5, h6, h7⟩ := key k hk
    have ej : j = j' := by omega
    subst ej
    have := h (2 * i) (2 * k) (by omega) (by omega) (by omega) (by rw [← h6, h3])
    omega
end Go.Proofs.Ytbikalghmlihlaa
/- The law GaussBack (a keeper's): its walk, the rings of FaceRings being given. -/
namespace Go.Proofs.Ytbikalghmlihlaa
open Go.RowKit

set_option maxHeartbeats 4000000 in
set_option maxRecDepth 100000 in
theorem gaussBack_no (v : Value) (C : List Cr) (loops : Int) (w : World) (hm : mayD C loops = false) (h : Crs w w.heap.size v C) :
    Calls Try.prog 3 #[.agg #[v, .int .i64 loops]] w fun e w' => e = .returned (.bool true) ∧ Below w.heap.size w w' := by
  have HM : Hid (mayD C loops = false) := hm
  obtain ⟨a, cap, rfl⟩ : ∃ a cap, v = .slice a C.length cap := by obtain ⟨a, cap, e, -, -⟩ := h; exact ⟨a, cap, e⟩
  obtain ⟨X, hX⟩ : ∃ X, X = w.alloc (.cells #[.slice a C.length cap, .int .i64 loops] 24) := ⟨_, rfl⟩
  have HX : Hid (X = w.alloc (.cells #[.slice a C.length cap, .int .i64 loops] 24)) := hX
  have hsX : w.heap.size < X.heap.size := by rw [hX]; simp
  have HBW : Hid (Below w.heap.size w X) := (by rw [hX]; exact (Below.refl _ _).alloc (Nat.le_refl _) _ : Below w.heap.size w X)
  have HT : Hid (X.heap[w.heap.size]? = some (.cells #[.slice a C.length cap, .int .i64 loops] 24 (0, 0))) := (by rw [hX]; exact alloc_at rfl : X.heap[w.heap.size]? = some (.cells #[.slice a C.length cap, .int .i64 loops] 24 (0, 0)))
  have HC : Hid (∀ w', Below X.heap.size X w' → Crs w' w'.heap.size (.slice a C.length cap) C) := fun w' hb => (h.up HBW.out).up hb
  have HF : Hid (∀ w', Below X.heap.size X w' → w'.cell? ⟨w.heap.size, 0, none⟩ = some (.slice a C.length cap) ∧ w'.cell? ⟨w.heap.size, 1, none⟩ = some (.int .i64 loops) ∧ w.heap.size < w'.heap.size) := fun w' hb => by
    have g := (hb.block _ hsX).trans HT.out
    exact ⟨block_cell g rfl, block_cell g rfl, (Array.getElem?_eq_some_iff.1 g).1⟩
  clear hX hm h
  go_enter Try.func3, Try.ntmps3
  go_upto_region 3 with (go_at_call 15; rw [← HX.out]; refine (awake_any _).mono ?_; rintro e9 w1 ⟨rfl, hb1⟩)
  have H1 : Hid (Below X.heap.size X w1) := hb1
  clear hb1
  obtain ⟨p0, p1, p2⟩ := HF.out w1 H1.out
  go_upto_region 4 with (go_at_call 16; refine (gauss_no _ C loops _ HM.out (HC.out _ H1.out)).mono ?_; rintro e9 w2 ⟨rfl, hb2⟩)
  have H2 : Hid (Below X.heap.size X w2) := H1.out.trans (hb2.mono H1.out.size)
  clear hb2 p0 p1 p2
  obtain ⟨p0, p1, p2⟩ := HF.out w2 H2.out
  go_upto_region 5 with (go_at_call 17; refine (codeMay_any _ C loops _ (HC.out _ H2.out)).mono ?_; rw [HM.out]; rintro e9 w3 ⟨rfl, hb3⟩)
  have H3 : Hid (Below X.heap.size X w3) := H2.out.trans (hb3.mono H2.out.size)
  clear hb3 p0 p1 p2
  go_wp2
  go_ret
  exact ⟨by first | rfl | simp, HBW.out.trans (H3.out.mono HBW.out.size)⟩

end Go.Proofs.Ytbikalghmlihlaa
/- What gauss.Dowker answers, case by case. -/
namespace Go.Proofs.Ytbikalghmlihlaa
open Go.RowKit

/-- Both tell: it is no knot. -/
def CaseKnot (C : List Cr) (loops : Int) : Prop := (walksM C).length ≠ 1 ∨ 0 < loops
theorem dowker_9 {v : Value} {C : List Cr} {loops : Int} {w : World} (hm : mayD C loops = true) (h : Crs w w.heap.size v C) (hA : CaseKnot C loops) :
    Calls Try.prog 20 #[.agg #[v, .int .i64 loops]] w fun e w' => e = .returned (.tuple #[.slice none 0 0, .int .i64 9]) ∧ Below w.heap.size w w' := by
  refine (dowker_yes v C loops w hm h).mono fun e w' ⟨hb, hc⟩ => ?_
  rcases hc with ⟨_, rfl⟩ | ⟨wk, h1, h2, _⟩
  · exact ⟨rfl, hb⟩
  · rcases hA with h3 | h3
    · rw [h1] at h3; simp at h3
    · omega
theorem dowker_5 {v : Value} {C : List Cr} {loops : Int} {w : World} {wk : List Nat} (hm : mayD C loops = true) (h : Crs w w.heap.size v C) (hA : ¬ CaseKnot C loops) (hwk : walksM C = [wk]) (hp : ¬ plane (vX (visL C wk)) C.length) :
    Calls Try.prog 20 #[.agg #[v, .int .i64 loops]] w fun e w' => e = .returned (.tuple #[.slice none 0 0, .int .i64 5]) ∧ Below w.heap.size w w' := by
  refine (dowker_yes v C loops w hm h).mono fun e w' ⟨hb, hc⟩ => ?_
  rcases hc with ⟨h1, _⟩ | ⟨wk', h1, h2, ⟨_, rfl⟩ | ⟨h3, _⟩⟩
  · exact absurd h1 hA
  · exact ⟨rfl, hb⟩
  · rw [hwk] at h1
    injection h1 with h4 _
    rw [← h4] at h3
    exact absurd h3 hp
theorem dowker_0 {v : Value} {C : List Cr} {loops : Int} {w : World} {wk : List Nat} (hm : mayD C loops = true) (h : Crs w w.heap.size v C) (hA : ¬ CaseKnot C loops) (hwk : walksM C = [wk]) (hp : plane (vX (visL C wk)) C.length) :
    Calls Try.prog 20 #[.agg #[v, .int .i64 loops]] w fun e w' => ∃ r, e = .returned (.tuple #[r, .int .i64 0]) ∧ Slots w' w'.heap.size r (intsV (dowTo (vX (visL C wk)) (vO (visL C wk)) C.length C.length)) ∧ Below w.heap.size w w' := by
  refine (dowker_yes v C loops w hm h).mono fun e w' ⟨hb, hc⟩ => ?_
  rcases hc with ⟨h1, _⟩ | ⟨wk', h1, h2, ⟨h3, _⟩ | ⟨h3, r, rfl, hr⟩⟩
  · exact absurd h1 hA
  · rw [hwk] at h1
    injection h1 with h4 _
    rw [← h4] at h3
    exact absurd hp h3
  · rw [hwk] at h1
    injection h1 with h4 _
    rw [← h4] at hr
    exact ⟨r, rfl, slots_of_own hr, hb⟩
end Go.Proofs.Ytbikalghmlihlaa
/- The law GaussBack where the diagram may be: its walk, the rings of FaceRings being given. -/
namespace Go.Proofs.Ytbikalghmlihlaa
open Go.RowKit

/-- Which numbers stood among the first j. -/
def seenL (K : List Int) (m j : Nat) : List Bool := (List.range m).map fun x => (K.take j).any fun z => z.natAbs == x
theorem seenL_len (K : List Int) (m j : Nat) : (seenL K m j).length = m := by simp [seenL]
theorem seenL_zero (K : List Int) (m : Nat) : List.replicate m false = seenL K m 0 := by
  apply List.ext_getElem?
  intro i
  by_cases hi : i < m
  · simp [seenL, hi]
  · rw [List.getElem?_eq_none (by simp; omega), List.getElem?_eq_none (by rw [seenL_len]; omega)]
theorem seenL_get (K : List Int) (m j i : Nat) (hi : i < m) : (seenL K m j)[i]? = some ((K.take j).any fun z => z.natAbs == i) := by simp [seenL, hi]
theorem seenL_next (K : List Int) (m j : Nat) (hj : j < K.length) : (seenL K m j).set (K.getD j 0).natAbs true = seenL K m (j + 1) := by
  apply List.ext_getElem?
  intro i
  by_cases hi : i < m
  · rw [List.getElem?_set, seenL_get _ _ _ _ hi, seenL_get _ _ _ _ hi, seenL_len, List.take_succ_eq_append_getElem hj, List.any_append]
    rw [List.getD_eq_getElem?_getD, List.getElem?_eq_getElem hj, Option.getD_some]
    by_cases e : K[j].natAbs = i
    · simp [e, hi]
    · simp [e]
  · rw [List.getElem?_eq_none (by simp [seenL_len]; omega), List.getElem?_eq_none (by rw [seenL_len]; omega)]
theorem seenL_no {K : List Int} {n j : Nat} (hK : K.length = n) (h : ∀ i k, i < n → k < n → i ≠ k → (K.getD i 0).natAbs ≠ (K.getD k 0).natAbs) (hj : j < n) : ((K.take j).any fun z => z.natAbs == (K.getD j 0).natAbs) = false := by
  rw [Bool.eq_false_iff]
  intro hc
  obtain ⟨z, hz, he⟩ := List.any_eq_true.1 hc
  obtain ⟨i, hi, rfl⟩ := List.getElem_of_mem hz
  have hi2 : i < j := by simp at hi; omega
  rw [List.getElem_take] at he
  have := h i j (by omega) hj (by omega)
  rw [List.getD_eq_getElem?_getD, List.getElem?_eq_getElem (by omega), Option.getD_some] at this
  exact this (by simpa using he)

set_option maxHeartbeats 8000000 in
set_option maxRecDepth 100000 in
theorem gaussBack_yes (hFR : FaceRingsOk) (v : Value) (C : List Cr) (loops : Int) (w : World) (hm : mayD C loops = true) (h : Crs w w.heap.size v C) :
    Calls Try.prog 3 #[.agg #[v, .int .i64 loops]] w fun e w' => e = .returned (.bool true) ∧ Below w.heap.size w w' := by
  have HM : Hid (mayD C loops = true) := hm
  have HFA : Hid FaceRingsOk := hFR
  have h16 := may_16 hm
  obtain ⟨a, cap, rfl⟩ : ∃ a cap, v = .slice a C.length cap := by obtain ⟨a, cap, e, -, -⟩ := h; exact ⟨a, cap, e⟩
  obtain ⟨X, hX⟩ : ∃ X, X = w.alloc (.cells #[.slice a C.length cap, .int .i64 loops] 24) := ⟨_, rfl⟩
  have HX : Hid (X = w.alloc (.cells #[.slice a C.length cap, .int .i64 loops] 24)) := hX
  have hsX : w.heap.size < X.heap.size := by rw [hX]; simp
  have HBW : Hid (Below w.heap.size w X) := (by rw [hX]; exact (Below.refl _ _).alloc (Nat.le_refl _) _ : Below w.heap.size w X)
  have HT : Hid (X.heap[w.heap.size]? = some (.cells #[.slice a C.length cap, .int .i64 loops] 24 (0, 0))) := (by rw [hX]; exact alloc_at rfl : X.heap[w.heap.size]? = some (.cells #[.slice a C.length cap, .int .i64 loops] 24 (0, 0)))
  have HC : Hid (∀ w', Below X.heap.size X w' → Crs w' w'.heap.size (.slice a C.length cap) C) := fun w' hb => (h.up HBW.out).up hb
  have HF : Hid (∀ w', Below X.heap.size X w' → w'.cell? ⟨w.heap.size, 0, none⟩ = some (.slice a C.length cap) ∧ w'.cell? ⟨w.heap.size, 1, none⟩ = some (.int .i64 loops) ∧ w.heap.size < w'.heap.size) := fun w' hb => by
    have g := (hb.block _ hsX).trans HT.out
    exact ⟨block_cell g rfl, block_cell g rfl, (Array.getElem?_eq_some_iff.1 g).1⟩
  clear hX hm h hFR
  go_enter Try.func3, Try.ntmps3
  go_upto_region 3 with (go_at_call 15; rw [← HX.out]; refine (awake_any _).mono ?_; rintro e9 w1 ⟨rfl, hb1⟩)
  have H1 : Hid (Below X.heap.size X w1) := hb1
  clear hb1
  obtain ⟨p0, p1, p2⟩ := HF.out w1 H1.out
  go_upto_region 4 with (go_at_call 16; refine (gauss_yes _ C loops _ HM.out (HC.out _ H1.out)).mono ?_; rintro e9 w2 ⟨r, s, rfl, hV, hS, hb2⟩)
  have H2 : Hid (Below X.heap.size X w2) := H1.out.trans (hb2.mono H1.out.size)
  have HVR : Hid (VRows w2 w2.heap.size r ((visM C).map viL)) := vis_rows hV
  have HPR : Hid (PlusAt w2 w2.heap.size s (plusM C)) := plus_rd (by rw [show (plusM C).length = C.length by simp [plusM]]; exact hS)
  clear hb2 p0 p1 p2 hV hS
  obtain ⟨ar, cr, er⟩ : ∃ ar cr, r = .slice ar ((visM C).map viL).length cr := by obtain ⟨a, c, e, -⟩ := HVR.out; exact ⟨a, c, e⟩
  obtain ⟨aq, cs, es⟩ : ∃ aq cs, s = .slice aq (plusM C).length cs := by obtain ⟨a, c, e, -⟩ := HPR.out; exact ⟨a, c, e⟩
  obtain ⟨nL, hnL⟩ : ∃ nL, ((visM C).map viL).length = nL := ⟨_, rfl⟩
  obtain ⟨nP, hnP⟩ : ∃ nP, (plusM C).length = nP := ⟨_, rfl⟩
  have HNL : Hid (((visM C).map viL).length = nL) := hnL
  have HNP : Hid ((plusM C).length = nP) := hnP
  have HER : Hid (r = .slice ar ((visM C).map viL).length cr) := er
  have HES : Hid (s = .slice aq (plusM C).length cs) := es
  rw [hnL] at er
  rw [hnP] at es
  rw [HER.out] at HVR
  rw [HES.out] at HPR
  clear hnL hnP HER HES
  subst er es
  have HLO : Hid (LensOk ((visM C).map viL)) := (by
    have hn := flat_len HM.out
    have hlen : ∀ (L : List (List Nat)), (∀ l, l ∈ L → l ≠ []) → L.length ≤ L.flatten.length := fun L => by
      induction L with
      | nil => intro _; simp
      | cons l L ih =>
        intro hne
        have h1 := ih fun l hl => hne l (List.Mem.tail _ hl)
        have h2 : 0 < l.length := by
          have := hne l (List.Mem.head _)
          cases l with
          | nil => exact absurd rfl this
          | cons => simp
        rw [List.flatten_cons, List.length_append, List.length_cons]
        omega
    have hw := walksTo_mem (nx_closed HM.out) (2 * C.length) (Nat.le_refl _)
    have h1 := hlen (walksM C) fun l hl => (hw l hl).1
    refine ⟨by simp [visM]; omega, fun j hj => ?_⟩
    have hj2 : j < (walksM C).length := by simpa [visM] using hj
    have e : ((visM C).map viL).getD j [] = viL (visL C ((walksM C).getD j [])) := by simp [visM, List.getD_eq_getElem?_getD, hj2]
    rw [e, viL_len]
    have hin : (walksM C).getD j [] ∈ walksM C := by
      rw [List.getD_eq_getElem?_getD, List.getElem?_eq_getElem hj2]
      exact List.getElem_mem hj2
    have := (hw _ hin).2.1
    omega : LensOk ((visM C).map viL))
  obtain ⟨p0, p1, p2⟩ := HF.out w2 H2.out
  go_upto_region 6 with (go_at_call 17; refine (codeMay_any _ C loops _ (HC.out _ H2.out)).mono ?_; rw [HM.out]; rintro e9 w3 ⟨rfl, hb3⟩)
  have H3 : Hid (Below X.heap.size X w3) := H2.out.trans (hb3.mono H2.out.size)
  have HVR3 : Hid (VRows w3 w3.heap.size (.slice ar ((visM C).map viL).length cr) ((visM C).map viL)) := (by
    obtain ⟨a', c', e', f⟩ := HVR.out.on hb3
    exact ⟨a', c', e', fun h0 => by
      obtain ⟨b, off, h1, h2, h3⟩ := f h0
      refine ⟨b, off, h1, Nat.lt_of_lt_of_le h2 hb3.size, fun j hj => ?_⟩
      obtain ⟨u, hu, a2, c2, e2, f2⟩ := h3 j hj
      exact ⟨u, hu, a2, c2, e2, fun h0 => by
        obtain ⟨b, off, h1, h2, h3⟩ := f2 h0
        exact ⟨b, off, h1, Nat.lt_of_lt_of_le h2 hb3.size, h3⟩⟩⟩ : VRows w3 w3.heap.size (.slice ar ((visM C).map viL).length cr) ((visM C).map viL))
  have HPR3 : Hid (PlusAt w3 w3.heap.size (.slice aq (plusM C).length cs) (plusM C)) := (by
    obtain ⟨a', c', e', f⟩ := HPR.out.on hb3
    exact ⟨a', c', e', fun h0 => by
      obtain ⟨b, off, h1, h2, h3⟩ := f h0
      exact ⟨b, off, h1, Nat.lt_of_lt_of_le h2 hb3.size, h3⟩⟩ : PlusAt w3 w3.heap.size (.slice aq (plusM C).length cs) (plusM C))
  clear hb3 p0 p1 p2
  obtain ⟨D, hDD⟩ : ∃ D, outC (plusM C) ((visM C).map viL) loops = D := ⟨_, rfl⟩
  have HSM : Hid (∀ e, SameOut D C loops loops e → e = .returned (.tuple #[.bool true, .int .i64 0])) := fun e he => built_form HM.out (by rw [hDD]; exact he)
  have HMD : Hid (mayD D loops = true) := (by rw [← hDD]; exact built_may HM.out : mayD D loops = true)
  have HBLD : Hid (Calls Try.prog 18 #[.slice ar ((visM C).map viL).length cr, .slice aq (plusM C).length cs, .int .i64 loops] w3 fun e w' => ∃ a3 cap3, e = .returned (.tuple #[.agg #[.slice a3 D.length cap3, .int .i64 loops], .int .i64 0]) ∧ Crs w' w'.heap.size (.slice a3 D.length cap3) D ∧ Below w3.heap.size w3 w') := (by
    have hb := build_any ar cr ((visM C).map viL) aq cs (plusM C) loops w3 (by simp [plusM]; omega) HLO.out HVR3.out HPR3.out
    rw [ref_walk HM.out, (out_walk HM.out).2, hDD] at hb
    refine hb.mono ?_
    rintro e w' ⟨vb, rfl, hc, hb⟩
    obtain ⟨a, cap, e, -, -⟩ := id hc
    subst e
    exact ⟨a, cap, rfl, hc, hb⟩)
  rw [HNL.out, HNP.out] at HBLD
  clear hDD HVR HPR HVR3 HPR3 HLO
  obtain ⟨p0, p1, p2⟩ := HF.out w3 H3.out
  go_upto_region 7 with (go_at_call 18; refine HBLD.out.mono ?_; rintro e9 w4 ⟨a3, cap3, rfl, hc3, hb4⟩)
  obtain ⟨Y, hY⟩ : ∃ Y, Y = w4.alloc (.cells #[.slice a3 D.length cap3, .int .i64 loops] 24) := ⟨_, rfl⟩
  have hs4 : w4.heap.size < Y.heap.size := by rw [hY]; simp
  have HY4 : Hid (Below w4.heap.size w4 Y) := (by rw [hY]; exact (Below.refl _ _).alloc (Nat.le_refl _) _ : Below w4.heap.size w4 Y)
  have H4 : Hid (Below X.heap.size X w4) := H3.out.trans (hb4.mono H3.out.size)
  have H5 : Hid (Below X.heap.size X Y) := H4.out.trans (HY4.out.mono H4.out.size)
  have HTY : Hid (Y.heap[w4.heap.size]? = some (.cells #[.slice a3 D.length cap3, .int .i64 loops] 24 (0, 0))) := (by rw [hY]; exact alloc_at rfl : Y.heap[w4.heap.size]? = some (.cells #[.slice a3 D.length cap3, .int .i64 loops] 24 (0, 0)))
  have HCD : Hid (Crs Y Y.heap.size (.slice a3 D.length cap3) D) := hc3.up HY4.out
  have q0 : Y.cell? ⟨w4.heap.size, 0, none⟩ = some (.slice a3 D.length cap3) := block_cell HTY.out rfl
  have q1 : Y.cell? ⟨w4.heap.size, 1, none⟩ = some (.int .i64 loops) := block_cell HTY.out rfl
  rw [← hY]
  have hsY := H5.out.size
  clear hY hc3 hb4 p0 p1 p2 HBLD
  obtain ⟨p0, p1, p2⟩ := HF.out Y H5.out
  go_upto_region 10 with (go_at_call 19; refine (same_yes _ _ D C loops loops _ HMD.out HM.out HCD.out (HC.out _ H5.out)).mono ?_; rintro e9 w5 ⟨hs, hb5⟩; obtain rfl := HSM.out _ hs; clear hs)
  have H6 : Hid (Below X.heap.size X w5) := H5.out.trans (hb5.mono H5.out.size)
  clear hb5 p0 p1 p2 q0 q1 HCD HTY HSM HMD
  obtain ⟨p0, p1, p2⟩ := HF.out w5 H6.out
  obtain ⟨s1, s2, s3, s4⟩ := sizeB_iff (may_size HM.out)
  have HWL : Hid ((walksM C).length = nL) := (by rw [← HNL.out]; simp [visM] : (walksM C).length = nL)
  by_cases hA : CaseKnot C loops
  · have HA : Hid (CaseKnot C loops) := hA
    have hA2 : nL ≠ 1 ∨ 0 < loops := by
      rcases hA with h | h
      · exact Or.inl (by rw [← HWL.out]; exact h)
      · exact Or.inr h
    clear hA
    go_upto_region 11 with (go_at_call 20; refine (dowker_9 HM.out (HC.out _ H6.out) HA.out).mono ?_; rintro e9 w6 ⟨rfl, hb6⟩)
    have H7 : Hid (Below X.heap.size X w6) := H6.out.trans (hb6.mono H6.out.size)
    clear hb6 p0 p1 p2
    obtain ⟨p0, p1, p2⟩ := HF.out w6 H7.out
    go_upto_region 12 with (go_at_call 21; refine (planar_yes HFA.out _ C loops _ HM.out (HC.out _ H7.out)).mono ?_; rintro e9 w7 ⟨rfl, hb7⟩)
    have H8 : Hid (Below X.heap.size X w7) := H7.out.trans (hb7.mono H7.out.size)
    clear hb7 p0 p1 p2
    obtain ⟨p0, p1, p2⟩ := HF.out w7 H8.out
    generalize planarB C = pl
    by_cases h1 : nL = 1
    · have h2 : 0 < loops := hA2.resolve_left (fun h => h h1)
      subst h1
      clear hA2 HNL HWL HFA
      go_wp2
      go_ret
      exact ⟨by first | rfl | simp, HBW.out.trans (H8.out.mono HBW.out.size)⟩
    · have h1z : ((nL : Int) == 1) = false := by simp; omega
      have h1y : ((nL : Int) != 1) = true := by simp; omega
      clear hA2 HNL HWL HFA
      go_wp2
      go_ret
      exact ⟨by first | rfl | simp, HBW.out.trans (H8.out.mono HBW.out.size)⟩
  · have HA : Hid (¬ CaseKnot C loops) := hA
    have hn1 : nL = 1 := by
      rcases Nat.decEq nL 1 with h | h
      · exact absurd (Or.inl (by rw [HWL.out]; exact h)) hA
      · exact h
    have hl0 : loops = 0 := by
      rcases Int.lt_or_le 0 loops with h | h
      · exact absurd (Or.inr h) hA
      · omega
    obtain ⟨wk, hwk⟩ : ∃ wk, walksM C = [wk] := List.length_eq_one_iff.1 (by rw [HWL.out]; exact hn1)
    have HWK : Hid (walksM C = [wk]) := hwk
    have HKV : Hid ((visL C wk).length = 2 * C.length ∧ 0 < C.length ∧ (∀ p, p < 2 * C.length → vX (visL C wk) p < C.length) ∧ ∀ c, c < C.length → cp (vX (visL C wk)) c 0 (2 * C.length) + cp (vX (visL C wk)) c 1 (2 * C.length) = 2) := knot_visits HM.out hwk
    subst hn1
    subst hl0
    clear hA hwk HWL HNL
    by_cases hp : plane (vX (visL C wk)) C.length
    · obtain ⟨K, hK⟩ : ∃ K, dowTo (vX (visL C wk)) (vO (visL C wk)) C.length C.length = K := ⟨_, rfl⟩
      have HDW : Hid (∀ W, Crs W W.heap.size (.slice a C.length cap) C → Calls Try.prog 20 #[.agg #[.slice a C.length cap, .int .i64 0]] W fun e w' => ∃ r, e = .returned (.tuple #[r, .int .i64 0]) ∧ Slots w' w'.heap.size r (intsV K) ∧ Below W.heap.size W w') := fun W hW => by rw [← hK]; exact dowker_0 HM.out hW HA.out HWK.out hp
      have hKl : K.length = C.length := by rw [← hK]; exact dow_len _ _ _ _
      have HKL : Hid (K.length = C.length) := hKl
      obtain ⟨hd1, hd2⟩ := dow_nums (o := vO (visL C wk)) HKV.out.2.2.1 HKV.out.2.2.2 hp
      rw [hK] at hd1 hd2
      have HD1 : Hid (∀ i, i < C.length → 2 ≤ (K.getD i 0).natAbs ∧ (K.getD i 0).natAbs ≤ 2 * C.length ∧ (K.getD i 0).natAbs % 2 = 0) := hd1
      have HD2 : Hid (∀ j, j < C.length → ((K.take j).any fun z => z.natAbs == (K.getD j 0).natAbs) = false) := fun j hj => seenL_no hKl hd2 hj
      clear hK hKl hd1 hd2 HKV hp
      go_upto_region 11 with (go_at_call 20; refine (HDW.out _ (HC.out _ H6.out)).mono ?_; rintro e9 w6 ⟨r6, rfl, hs6, hb6⟩)
      have H7 : Hid (Below X.heap.size X w6) := H6.out.trans (hb6.mono H6.out.size)
      have HS6 : Hid (Slots w6 w6.heap.size r6 (intsV K)) := hs6
      clear hb6 p0 p1 p2 hs6
      obtain ⟨p0, p1, p2⟩ := HF.out w6 H7.out
      go_upto_region 12 with (go_at_call 21; refine (planar_yes HFA.out _ C 0 _ HM.out (HC.out _ H7.out)).mono ?_; rintro e9 w7 ⟨rfl, hb7⟩)
      have H8 : Hid (Below X.heap.size X w7) := H7.out.trans (hb7.mono H7.out.size)
      have HS7 : Hid (Slots w7 w7.heap.size r6 (intsV K)) := (HS6.out.on hb7).mono hb7.size
      clear hb7 p0 p1 p2 HS6
      obtain ⟨p0, p1, p2⟩ := HF.out w7 H8.out
      generalize planarB C = pl
      obtain ⟨i2, hk, hx0, hx1, hx2⟩ := info_parts infoBool
      obtain ⟨a6, c6, e6, g6⟩ := HS7.out
      rw [show (intsV K).length = C.length by simp [intsV, HKL.out]] at e6 g6
      have HG6 : Hid (0 < C.length → ∃ b off, a6 = some ⟨b, off, none⟩ ∧ b < w7.heap.size ∧ ∀ i, i < C.length → w7.cell? ⟨b, off + i, none⟩ = some ((intsV K).getD i (.bool false))) := g6
      have HKG : Hid (∀ i, i < C.length → (intsV K).getD i (.bool false) = .int .i64 (K.getD i 0)) := fun i hi => by
        have : i < K.length := by rw [HKL.out]; exact hi
        simp [intsV, List.getD_eq_getElem?_getD, this]
      subst e6
      clear g6 HS7
      have HNX : Hid (∀ j, j < C.length → (seenL K (2 * C.length + 1) j).set (K.getD j 0).natAbs true = seenL K (2 * C.length + 1) (j + 1)) := fun j hj => seenL_next K _ j (by rw [HKL.out]; exact hj)
      obtain ⟨n, hn⟩ : ∃ n, C.length = n := ⟨_, rfl⟩
      rw [hn] at h16 s1 HF p0 HKG HD1 HD2 HG6 HNX ⊢
      clear hn HKL HDW HC HM HX HT HA HWK HFA HNP
      go_wp2_with (first | (at_make; refine wpList_make_full _ rfl _ _ 27 rfl w7.heap.size 4 i2 (.bool false) 1 Try.underlying27 hk hx0 hx1 .i64 .i64 _ _ (2 * n + 1) rfl rfl rfl rfl (by rw [hx2]; omega) (by unfold maxLen; omega) (by simp) ?_; intro w8 hrow hg8; refine Hid.out ?_))
      refine Lib.hid ?_
      rw [made_false, seenL_zero K] at hrow
      have H9 : Hid (Below w7.heap.size w7 w8) := (Below.refl _ _).grown hg8 (Nat.le_refl _) (fun q hq => by cases hq)
      have HR8 : Hid (w8.ownsRow w7.heap.size 4 1 (.slice (some ⟨w7.heap.size, 0, none⟩) (2 * n + 1) (2 * n + 1)) (2 * n + 1) (bools (seenL K (2 * n + 1) 0))) := hrow
      have HX7 : Hid (∀ W, Below w7.heap.size w7 W → Below X.heap.size X W) := fun W hW => H8.out.trans (hW.mono H8.out.size)
      have hx7 : w.heap.size < w7.heap.size := p2
      clear hrow hg8 p0 p1 p2
      go_wp2
      go_loopw [15] (fun v15 wr => ∃ j : Nat, j ≤ n ∧ v15 = .int .i64 (j : Nat) ∧ Hid (wr.ownsRow w7.heap.size 4 1 (.slice (some ⟨w7.heap.size, 0, none⟩) (2 * n + 1) (2 * n + 1)) (2 * n + 1) (bools (seenL K (2 * n + 1) j))) ∧ Hid (Below w7.heap.size w7 wr)) (fun v15 _ => n - (intOf v15).toNat)
      case atStart => exact ⟨0, Nat.zero_le _, rfl, HR8.out, H9.out⟩
      case round =>
        clear HR8 H9
        rename World => W1
        obtain ⟨j, hjn, rfl, hr, hb⟩ := hrel
        obtain ⟨p0, p1, p2⟩ := HF.out W1 (HX7.out W1 hb.out)
        have hlt := (hr.out.lt w7.heap.size rfl).2
        by_cases hjl : j < n
        · obtain ⟨b, off, ea, hbw, hc⟩ := HG6.out (by omega)
          have e0 := bcell hb.out hbw (hc j hjl)
          rw [HKG.out j hjl] at e0
          obtain ⟨d1, d2, d3⟩ := HD1.out j hjl
          have hnx := HNX.out j hjl
          have hno := HD2.out j hjl
          obtain ⟨z, hz⟩ : ∃ z, K.getD j 0 = z := ⟨_, rfl⟩
          rw [hz] at e0 d1 d2 d3 hnx hno
          obtain ⟨x, hx⟩ : ∃ x, z.natAbs = x := ⟨_, rfl⟩
          have HX9 : Hid (z.natAbs = x) := hx
          rw [hx] at d1 d2 d3 hnx hno
          have hxm : x < 2 * n + 1 := by omega
          have e1 : W1.cell? ⟨w7.heap.size, x, none⟩ = some (.bool false) := by
            rw [hr.out.cellAt x (by omega)]
            have : (bools (seenL K (2 * n + 1) j))[x]? = some (.bool false) := by
              simp only [bools, List.getElem?_map, seenL_get _ _ _ _ hxm]
              rw [hno]
              rfl
            exact this
          have z0 : W1.frozen? ⟨w7.heap.size, x, none⟩ = false := hr.out.frozenAt x
          have hst := hr.out.stored x (.bool true)
          rw [bools_set, hnx] at hst
          have HST : Hid ((W1.setCell ⟨w7.heap.size, x, none⟩ (.bool true)).ownsRow w7.heap.size 4 1 (.slice (some ⟨w7.heap.size, 0, none⟩) (2 * n + 1) (2 * n + 1)) (2 * n + 1) (bools (seenL K (2 * n + 1) (j + 1))) ∧ Below w7.heap.size w7 (W1.setCell ⟨w7.heap.size, x, none⟩ (.bool true))) := ⟨hst.1, hb.out.grown hst.2 hb.out.size (fun q hq => by have := Option.some.inj hq; omega)⟩
          have hbW : b < W1.heap.size := by have := hb.out.size; omega
          have er : (x : Int).tmod 2 = 0 := by
            have : (x : Int).tmod 2 = ((x % 2 : Nat) : Int) := rfl
            rw [this, d3]
            rfl
          subst ea
          clear hst hnx hno hz hx hc
          by_cases hz0 : z < 0
          · have hzx : -z = (x : Int) := by have := HX9.out; omega
            have ewz : IntKind.i64.wrap (-z) = (x : Int) := by rw [hzx]; exact IntWalk.i64_in _ (by omega)
            go_wp2
            go_roundw
            case rel => exact ⟨j + 1, by omega, by go_num, HST.out.1, HST.out.2⟩
            case measure => simp only [intOf]; omega
          · obtain rfl : z = (x : Int) := by have := HX9.out; omega
            go_wp2
            go_roundw
            case rel => exact ⟨j + 1, by omega, by go_num, HST.out.1, HST.out.2⟩
            case measure => simp only [intOf]; omega
        · obtain rfl : j = n := by omega
          go_wp2
          go_ret
          exact ⟨by first | rfl | simp, HBW.out.trans ((HX7.out _ hb.out).mono HBW.out.size)⟩
    · have HPF : Hid (planarB C = false) := (by
        cases e : planarB C with
        | false => rfl
        | true => exact absurd (planar_plane HM.out e HWK.out) hp : planarB C = false)
      have HNP2 : Hid (¬ plane (vX (visL C wk)) C.length) := hp
      clear hp HKV
      go_upto_region 11 with (go_at_call 20; refine (dowker_5 HM.out (HC.out _ H6.out) HA.out HWK.out HNP2.out).mono ?_; rintro e9 w6 ⟨rfl, hb6⟩)
      have H7 : Hid (Below X.heap.size X w6) := H6.out.trans (hb6.mono H6.out.size)
      clear hb6 p0 p1 p2
      obtain ⟨p0, p1, p2⟩ := HF.out w6 H7.out
      go_upto_region 12 with (go_at_call 21; refine (planar_yes HFA.out _ C 0 _ HM.out (HC.out _ H7.out)).mono ?_; rw [HPF.out]; rintro e9 w7 ⟨rfl, hb7⟩)
      have H8 : Hid (Below X.heap.size X w7) := H7.out.trans (hb7.mono H7.out.size)
      clear hb7 p0 p1 p2
      obtain ⟨p0, p1, p2⟩ := HF.out w7 H8.out
      go_wp2
      go_ret
      exact ⟨by first | rfl | simp, HBW.out.trans (H8.out.mono HBW.out.size)⟩
theorem gaussBack_any (v : Value) (C : List Cr) (loops : Int) (w : World) (h : Crs w w.heap.size v C) :
    Calls Try.prog 3 #[.agg #[v, .int .i64 loops]] w fun e w' => e = .returned (.bool true) ∧ Below w.heap.size w w' := by
  cases hm : mayD C loops with
  | false => exact gaussBack_no v C loops w hm h
  | true => exact gaussBack_yes faceRingsA v C loops w hm h
end Go.Proofs.Ytbikalghmlihlaa

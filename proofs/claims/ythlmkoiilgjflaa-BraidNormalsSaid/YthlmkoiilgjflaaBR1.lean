/- What is wrong with words: the walks of braid.refusal and of what it calls. -/
import Derived.Test.YthlmkoiilgjflaaBR0
import Derived.Test.YthlmkoiilgjflaaTG1P
namespace Go.Proofs.Ythlmkoiilgjflaa
open Go.RowKit

/-- What is wrong with words. -/
def wordsN (n : Int) (L : List (List Int)) : Int := if n < 2 ∨ 6 < n then 3 else if L.any (fun w => w.any (badL n)) then 3 else if L.any (fun w => decide (20 < w.length)) then 2 else 0
theorem wordsN_one (n : Int) (w : List Int) : wordsN n [w] = wordN n w := by
  unfold wordsN wordN
  simp
theorem any_take_next (l : List Int) (p : Int → Bool) (i : Nat) (hi : i < l.length) : (l.take (i + 1)).any p = ((l.take i).any p || p (l.getD i 0)) := by
  rw [List.take_succ_eq_append_getElem hi, List.any_append, List.getD_eq_getElem?_getD, List.getElem?_eq_getElem hi]
  simp
theorem any_some (l : List Int) (p : Int → Bool) (i : Nat) (hi : i < l.length) (h : p (l.getD i 0) = true) : l.any p = true :=
  List.any_eq_true.2 ⟨l.getD i 0, by rw [List.getD_eq_getElem?_getD, List.getElem?_eq_getElem hi]; exact List.getElem_mem hi, h⟩
theorem anyL_take_next (L : List (List Int)) (p : List Int → Bool) (i : Nat) (hi : i < L.length) : (L.take (i + 1)).any p = ((L.take i).any p || p (L.getD i [])) := by
  rw [List.take_succ_eq_append_getElem hi, List.any_append, List.getD_eq_getElem?_getD, List.getElem?_eq_getElem hi]
  simp
theorem anyL_some (L : List (List Int)) (p : List Int → Bool) (i : Nat) (hi : i < L.length) (h : p (L.getD i []) = true) : L.any p = true :=
  List.any_eq_true.2 ⟨L.getD i [], by rw [List.getD_eq_getElem?_getD, List.getElem?_eq_getElem hi]; exact List.getElem_mem hi, h⟩

set_option maxHeartbeats 2000000 in
set_option maxRecDepth 100000 in
theorem none_any (x n : Int) (g : Nat) (w : World) (h2 : 2 ≤ n) (h6 : n ≤ 6) (hg : w.heap[g]? = some (.cells #[.int .i64 n] 3 (0, 0))) :
    Calls Try.prog 15 #[.int .i64 x, .pointer (some ⟨g, 0, none⟩)] w fun e w' => e = .returned (.bool (badL n x)) ∧ w' = w := by
  have c0 : w.cell? ⟨g, 0, none⟩ = some (.int .i64 n) := block_cell hg rfl
  have l0 : g < w.heap.size := (Array.getElem?_eq_some_iff.1 hg).1
  clear hg
  by_cases e0 : x = 0
  · have HR : Hid (badL n x = true) := (by unfold badL; simp [e0] : badL n x = true)
    go_enter Try.func15, Try.ntmps15
    go_wp2
    go_ret
    exact ⟨by rw [HR.out]; rfl, rfl⟩
  · have e0b : (x == 0) = false := beq_eq_false_iff_ne.2 e0
    by_cases e1 : x ≤ -n
    · have HR : Hid (badL n x = true) := (by unfold badL; simp [e1] : badL n x = true)
      go_enter Try.func15, Try.ntmps15
      go_wp2
      go_ret
      exact ⟨by rw [HR.out]; rfl, rfl⟩
    · by_cases e2 : n ≤ x
      · have HR : Hid (badL n x = true) := (by unfold badL; simp [e2] : badL n x = true)
        go_enter Try.func15, Try.ntmps15
        go_wp2
        go_ret
        exact ⟨by rw [HR.out]; rfl, rfl⟩
      · have HR : Hid (badL n x = false) := (by unfold badL; simp [e0, e1, e2] : badL n x = false)
        go_enter Try.func15, Try.ntmps15
        go_wp2
        go_ret
        exact ⟨by rw [HR.out]; rfl, rfl⟩

set_option maxHeartbeats 4000000 in
set_option maxRecDepth 100000 in
theorem indexBad_any (a : Option Addr) (cap : Nat) (l : List Int) (n : Int) (g : Nat) (w : World) (h2 : 2 ≤ n) (h6 : n ≤ 6) (hl : l.length ≤ 140737488355328) (hg : w.heap[g]? = some (.cells #[.int .i64 n] 3 (0, 0))) (h : RdAt w w.heap.size 1 (.slice a l.length cap) l.length (intsV l)) :
    Calls Try.prog 21 #[.slice a l.length cap, .func (.func 15) #[] #[.pointer (some ⟨g, 0, none⟩)]] w fun e w' => ∃ r : Int, e = .returned (.int .i64 r) ∧ decide (0 ≤ r) = l.any (badL n) ∧ w' = w := by
  have HR : Hid (RdAt w w.heap.size 1 (.slice a l.length cap) l.length (intsV l)) := h
  have HG : Hid (w.heap[g]? = some (.cells #[.int .i64 n] 3 (0, 0))) := hg
  obtain ⟨m, hm⟩ : ∃ m, l.length = m := ⟨_, rfl⟩
  have HM : Hid (l.length = m) := hm
  rw [hm] at hl ⊢
  clear h hg hm
  go_enter Try.func21, Try.ntmps21
  go_wp2
  go_loopw [8] (fun v8 wr => ∃ i : Nat, i ≤ m ∧ v8 = .int .i64 (i : Nat) ∧ Hid ((l.take i).any (badL n) = false) ∧ wr = w) (fun v8 _ => m - (intOf v8).toNat)
  case atStart => exact ⟨0, Nat.zero_le _, rfl, rfl, rfl⟩
  case round =>
    obtain ⟨i, him, rfl, hno, rfl⟩ := hrel
    by_cases hil : i < m
    · have hiI : (i : Int) < (m : Int) := by omega
      have hr := HR.out
      rw [HM.out] at hr
      obtain ⟨b, off, ea, hb, hc⟩ := HR.out.intAt i (by rw [HM.out]; exact hil)
      have HX : Hid ((l.take (i + 1)).any (badL n) = ((l.take i).any (badL n) || badL n (l.getD i 0))) := any_take_next l _ i (by rw [HM.out]; exact hil)
      have HS : Hid (badL n (l.getD i 0) = true → l.any (badL n) = true) := fun q => any_some l _ i (by rw [HM.out]; exact hil) q
      generalize l.getD i 0 = x at hc HX HS
      subst ea
      have HN : Hid (Calls Try.prog 15 #[.int .i64 x, .pointer (some ⟨g, 0, none⟩)] wr fun e w' => e = .returned (.bool (badL n x)) ∧ w' = wr) := none_any x n g wr h2 h6 HG.out
      clear hr
      cases hb0 : badL n x with
      | true =>
        have HA : Hid (l.any (badL n) = true) := HS.out hb0
        rw [hb0] at HN
        clear hb0 HS HX
        go_wp2_with (go_at_call 15; refine HN.out.mono ?_; rintro e9 w9 ⟨rfl, rfl⟩; refine Hid.out ?_)
        refine Lib.hid ?_
        go_wp2
        go_ret
        exact ⟨_, rfl, by rw [HA.out]; exact decide_eq_true (by omega), rfl⟩
      | false =>
        have HA : Hid ((l.take (i + 1)).any (badL n) = false) := (by rw [HX.out, hno.out, hb0]; rfl : (l.take (i + 1)).any (badL n) = false)
        rw [hb0] at HN
        clear hb0 HS HX
        go_wp2_with (go_at_call 15; refine HN.out.mono ?_; rintro e9 w9 ⟨rfl, rfl⟩; refine Hid.out ?_)
        refine Lib.hid ?_
        go_wp2
        go_roundw
        case rel => exact ⟨i + 1, by omega, by go_num, HA.out, by first | trivial | rfl⟩
        case measure => simp only [intOf]; omega
    · obtain rfl : i = m := by omega
      have HA : Hid (l.any (badL n) = false) := (by have := hno.out; rw [← HM.out, List.take_length] at this; exact this : l.any (badL n) = false)
      go_wp2
      go_ret
      exact ⟨_, rfl, by rw [HA.out]; rfl, rfl⟩

set_option maxHeartbeats 4000000 in
set_option maxRecDepth 100000 in
theorem containsBad_any (a : Option Addr) (cap : Nat) (l : List Int) (n : Int) (g : Nat) (w : World) (h2 : 2 ≤ n) (h6 : n ≤ 6) (hl : l.length ≤ 140737488355328) (hg : w.heap[g]? = some (.cells #[.int .i64 n] 3 (0, 0))) (h : RdAt w w.heap.size 1 (.slice a l.length cap) l.length (intsV l)) :
    Calls Try.prog 16 #[.slice a l.length cap, .func (.func 15) #[] #[.pointer (some ⟨g, 0, none⟩)]] w fun e w' => e = .returned (.bool (l.any (badL n))) ∧ w' = w := by
  have HI : Hid (Calls Try.prog 21 #[.slice a l.length cap, .func (.func 15) #[] #[.pointer (some ⟨g, 0, none⟩)]] w fun e w' => ∃ r : Int, e = .returned (.int .i64 r) ∧ decide (0 ≤ r) = l.any (badL n) ∧ w' = w) := indexBad_any a cap l n g w h2 h6 hl hg h
  clear h hg
  generalize l.any (badL n) = bb at HI ⊢
  generalize l.length = m at HI hl ⊢
  go_enter Try.func16, Try.ntmps16
  go_wp2_with (go_at_call 21; refine HI.out.mono ?_; rintro e9 w2 ⟨r, rfl, hr, rfl⟩; refine Hid.out ?_)
  refine Lib.hid ?_
  have HR : Hid (decide (0 ≤ r) = bb) := hr
  clear hr
  go_wp2
  go_ret
  exact ⟨by rw [← HR.out]; rfl, rfl⟩

set_option maxHeartbeats 4000000 in
set_option maxRecDepth 100000 in
theorem refusal_any (v : Value) (L : List (List Int)) (n : Int) (w : World) (hL : L.length ≤ 1000) (hl : ∀ j, j < L.length → (L.getD j []).length ≤ 140737488355328) (h : IntsRd w w.heap.size v L) :
    Calls Try.prog 8 #[.int .i64 n, v] w fun e w' => e = .returned (.int .i64 (wordsN n L)) ∧ Below w.heap.size w w' := by
  obtain ⟨a, cap, rfl⟩ := h.len
  have HI : Hid (IntsRd w w.heap.size (.slice a L.length cap) L) := h
  have HLL : Hid (∀ j, j < L.length → (L.getD j []).length ≤ 140737488355328) := hl
  obtain ⟨Y, hY⟩ : ∃ Y, Y = w.alloc (.cells #[.int .i64 n] 3) := ⟨_, rfl⟩
  have HY : Hid (Y = w.alloc (.cells #[.int .i64 n] 3)) := hY
  have HBY : Hid (Below w.heap.size w Y) := (by rw [hY]; exact (Below.refl _ _).alloc (Nat.le_refl _) _ : Below w.heap.size w Y)
  have HT : Hid (Y.heap[w.heap.size]? = some (.cells #[.int .i64 n] 3 (0, 0))) := (by rw [hY]; exact alloc_at rfl : Y.heap[w.heap.size]? = some (.cells #[.int .i64 n] 3 (0, 0)))
  have HIY : Hid (IntsRd Y Y.heap.size (.slice a L.length cap) L) := HI.out.up HBY.out
  have c0 : Y.cell? ⟨w.heap.size, 0, none⟩ = some (.int .i64 n) := block_cell HT.out rfl
  have l0 : w.heap.size < Y.heap.size := (Array.getElem?_eq_some_iff.1 HT.out).1
  obtain ⟨m, hm⟩ : ∃ m, L.length = m := ⟨_, rfl⟩
  have HM : Hid (L.length = m) := hm
  rw [hm] at hL ⊢
  clear h hl hY hm
  by_cases hn : n < 2 ∨ 6 < n
  · have HW : Hid (wordsN n L = 3) := (by unfold wordsN; rw [if_pos hn] : wordsN n L = 3)
    rcases hn with h1 | h1
    · go_enter Try.func8, Try.ntmps8
      go_wp2
      rw [← HY.out]
      go_ret
      exact ⟨by rw [HW.out]; rfl, HBY.out⟩
    · have h1' : ¬ n < 2 := by omega
      go_enter Try.func8, Try.ntmps8
      go_wp2
      rw [← HY.out]
      go_ret
      exact ⟨by rw [HW.out]; rfl, HBY.out⟩
  · have h2 : 2 ≤ n := by omega
    have h6 : n ≤ 6 := by omega
    have HW : Hid (wordsN n L = if L.any (fun w => w.any (badL n)) then 3 else if L.any (fun w => decide (20 < w.length)) then 2 else 0) := (by unfold wordsN; rw [if_neg hn] : wordsN n L = if L.any (fun w => w.any (badL n)) then 3 else if L.any (fun w => decide (20 < w.length)) then 2 else 0)
    clear hn
    go_enter Try.func8, Try.ntmps8
    go_wp2
    rw [← HY.out]
    clear c0
    go_loopw [19] (fun v19 wr => ∃ i : Nat, i ≤ m ∧ v19 = .int .i64 (i : Nat) ∧ Hid ((L.take i).any (fun w => w.any (badL n)) = false) ∧ wr = Y) (fun v19 _ => m - (intOf v19).toNat)
    case atStart => exact ⟨0, Nat.zero_le _, rfl, rfl, rfl⟩
    case round =>
      obtain ⟨i, him, rfl, hno, rfl⟩ := hrel
      by_cases hil : i < m
      · have hiI : (i : Int) < (m : Int) := by omega
        have hiL : i < L.length := by rw [HM.out]; exact hil
        obtain ⟨b, off, ar, cr, ea, hb, hc, hrd⟩ := HIY.out.row i hiL
        have HX : Hid ((L.take (i + 1)).any (fun w => w.any (badL n)) = ((L.take i).any (fun w => w.any (badL n)) || (L.getD i []).any (badL n))) := anyL_take_next L _ i hiL
        have HS : Hid ((L.getD i []).any (badL n) = true → L.any (fun w => w.any (badL n)) = true) := fun q => anyL_some L _ i hiL q
        have HC : Hid (Calls Try.prog 16 #[.slice ar (L.getD i []).length cr, .func (.func 15) #[] #[.pointer (some ⟨w.heap.size, 0, none⟩)]] wr fun e w' => e = .returned (.bool ((L.getD i []).any (badL n))) ∧ w' = wr) := containsBad_any ar cr (L.getD i []) n w.heap.size wr h2 h6 (HLL.out i hiL) HT.out hrd
        subst ea
        clear hrd hiL
        generalize (L.getD i []).length = q at hc HC
        cases hb0 : (L.getD i []).any (badL n) with
        | true =>
          have HA : Hid (L.any (fun w => w.any (badL n)) = true) := HS.out hb0
          rw [hb0] at HC
          clear hb0 HS HX
          go_wp2_with (go_at_call 16; refine HC.out.mono ?_; rintro e9 w9 ⟨rfl, rfl⟩; refine Hid.out ?_)
          refine Lib.hid ?_
          go_wp2
          go_ret
          exact ⟨by rw [HW.out, HA.out]; rfl, HBY.out⟩
        | false =>
          have HA : Hid ((L.take (i + 1)).any (fun w => w.any (badL n)) = false) := (by rw [HX.out, hno.out, hb0]; rfl : (L.take (i + 1)).any (fun w => w.any (badL n)) = false)
          rw [hb0] at HC
          clear hb0 HS HX
          go_wp2_with (go_at_call 16; refine HC.out.mono ?_; rintro e9 w9 ⟨rfl, rfl⟩; refine Hid.out ?_)
          refine Lib.hid ?_
          go_wp2
          go_roundw
          case rel => exact ⟨i + 1, by omega, by go_num, HA.out, by first | trivial | rfl⟩
          case measure => simp only [intOf]; omega
      · obtain rfl : i = m := by omega
        have HA : Hid (L.any (fun w => w.any (badL n)) = false) := (by have := hno.out; rw [← HM.out, List.take_length] at this; exact this : L.any (fun w => w.any (badL n)) = false)
        clear hno hil
        go_wp2
        go_loopw [29] (fun v29 w' => ∃ k : Nat, k ≤ i ∧ v29 = .int .i64 (k : Nat) ∧ Hid ((L.take k).any (fun w => decide (20 < w.length)) = false) ∧ w' = wr) (fun v29 _ => i - (intOf v29).toNat)
        case atStart => exact ⟨0, Nat.zero_le _, rfl, rfl, rfl⟩
        case round =>
          obtain ⟨k, hkm, rfl, hno2, rfl⟩ := hrel
          by_cases hkl : k < i
          · have hkI : (k : Int) < (i : Int) := by omega
            have hkL : k < L.length := by rw [HM.out]; exact hkl
            obtain ⟨b, off, ar, cr, ea, hb, hc, -⟩ := HIY.out.row k hkL
            have HX : Hid ((L.take (k + 1)).any (fun w => decide (20 < w.length)) = ((L.take k).any (fun w => decide (20 < w.length)) || decide (20 < (L.getD k []).length))) := anyL_take_next L _ k hkL
            have HS : Hid (decide (20 < (L.getD k []).length) = true → L.any (fun w => decide (20 < w.length)) = true) := fun q => anyL_some L _ k hkL q
            have hql := HLL.out k hkL
            subst ea
            clear hkL
            generalize (L.getD k []).length = q at hc HX HS hql
            by_cases hq : 20 < q
            · have HAA : Hid (L.any (fun w => decide (20 < w.length)) = true) := HS.out (decide_eq_true hq)
              have hqI : (20 : Int) < (q : Int) := by omega
              clear HS HX
              go_wp2
              go_ret
              exact ⟨by rw [HW.out, HA.out, HAA.out]; rfl, HBY.out⟩
            · have HAA : Hid ((L.take (k + 1)).any (fun w => decide (20 < w.length)) = false) := (by rw [HX.out, hno2.out, decide_eq_false hq]; rfl : (L.take (k + 1)).any (fun w => decide (20 < w.length)) = false)
              have hqI : ¬ (20 : Int) < (q : Int) := by omega
              clear HS HX
              go_wp2
              go_roundw
              case rel => exact ⟨k + 1, by omega, by go_num, HAA.out, by first | trivial | rfl⟩
              case measure => simp only [intOf]; omega
          · obtain rfl : k = i := by omega
            have HAA : Hid (L.any (fun w => decide (20 < w.length)) = false) := (by have := hno2.out; rw [← HM.out, List.take_length] at this; exact this : L.any (fun w => decide (20 < w.length)) = false)
            go_wp2
            go_ret
            exact ⟨by rw [HW.out, HA.out, HAA.out]; rfl, HBY.out⟩
end Go.Proofs.Ythlmkoiilgjflaa

/- Lists of twists: which may be; the walks of tangle.size, ref.abs, tangle.refusal and ref.ListMay. -/
import Derived.Test.YtphhlflcghffbaaW6P
namespace Go.Proofs.Ytphhlflcghffbaa
open Go.RowKit

/-- The first k numbers' sizes, together. -/
def szTo (l : List Int) : Nat → Nat
  | 0 => 0
  | k + 1 => szTo l k + (l.getD k 0).natAbs
/-- Is a number too great? -/
def wide (x : Int) : Bool := decide (x < -16) || decide (16 < x)
/-- What is wrong with a list of twists. -/
def listN (l : List Int) : Int := if l.any wide = true then 3 else if l.length % 2 = 0 ∨ 16 < szTo l l.length then 2 else 0
theorem wide_no {x : Int} (h : wide x = false) : -16 ≤ x ∧ x ≤ 16 := by
  simp only [wide, Bool.or_eq_false_iff, decide_eq_false_iff_not] at h
  omega
theorem wide_yes {x : Int} (h : x < -16 ∨ 16 < x) : wide x = true := by
  simp only [wide, Bool.or_eq_true, decide_eq_true_eq]
  exact h
theorem getD_mem {l : List Int} {i : Nat} (h : i < l.length) : l.getD i 0 ∈ l := by
  rw [List.getD_eq_getElem?_getD, List.getElem?_eq_getElem h]
  exact List.getElem_mem h
theorem szTo_le (l : List Int) (k : Nat) (h : ∀ j, j < k → -16 ≤ l.getD j 0 ∧ l.getD j 0 ≤ 16) : szTo l k ≤ 16 * k := by
  induction k with
  | zero => exact Nat.le_refl _
  | succ k ih =>
    have h1 := ih fun j hj => h j (by omega)
    have h2 := h k (by omega)
    simp only [szTo]
    omega
theorem listN_bad {l : List Int} {i : Nat} (h : i < l.length) (hb : l.getD i 0 < -16 ∨ 16 < l.getD i 0) : listN l = 3 := by
  unfold listN
  rw [if_pos (List.any_eq_true.2 ⟨_, getD_mem h, wide_yes hb⟩)]
theorem listN_good {l : List Int} (h : ∀ j, j < l.length → -16 ≤ l.getD j 0 ∧ l.getD j 0 ≤ 16) : listN l = if l.length % 2 = 0 ∨ 16 < szTo l l.length then 2 else 0 := by
  unfold listN
  rw [if_neg]
  intro hc
  obtain ⟨x, hx, hw⟩ := List.any_eq_true.1 hc
  obtain ⟨j, hj, rfl⟩ := List.getElem_of_mem hx
  have := h j hj
  rw [List.getD_eq_getElem?_getD, List.getElem?_eq_getElem hj] at this
  simp only [wide, Bool.or_eq_true, decide_eq_true_eq, Option.getD_some] at hw this
  omega
theorem listN_ok {l : List Int} (h : listN l = 0) : (∀ j, j < l.length → -16 ≤ l.getD j 0 ∧ l.getD j 0 ≤ 16) ∧ l.length % 2 = 1 ∧ szTo l l.length ≤ 16 := by
  unfold listN at h
  by_cases h1 : l.any wide = true
  · rw [if_pos h1] at h; cases h
  · rw [if_neg h1] at h
    by_cases h2 : l.length % 2 = 0 ∨ 16 < szTo l l.length
    · rw [if_pos h2] at h; cases h
    · refine ⟨fun j hj => wide_no ?_, by omega, by omega⟩
      cases e : wide (l.getD j 0) with
      | false => rfl
      | true => exact absurd (List.any_eq_true.2 ⟨_, getD_mem hj, e⟩) h1
/-- The number at place k. -/
theorem RdAt.intAt {w : World} {B : Nat} {a : Option Addr} {cap : Nat} {l : List Int} (h : RdAt w B 1 (.slice a l.length cap) l.length (intsV l)) (k : Nat) (hk : k < l.length) :
    ∃ b off, a = some ⟨b, off, none⟩ ∧ b < B ∧ w.cell? ⟨b, off + k, none⟩ = some (.int .i64 (l.getD k 0)) := by
  obtain ⟨a', cap', e, f⟩ := h
  injection e with e1 e2 e3
  obtain ⟨b, off, eb, hlt, hc⟩ := f (by omega)
  refine ⟨b, off, e1.trans eb, hlt, (hc k (by omega)).trans ?_⟩
  simp [intsV, List.getD, hk]

set_option maxHeartbeats 2000000 in
set_option maxRecDepth 100000 in
theorem size_any (x : Int) (w : World) (h1 : -1000 ≤ x) (h2 : x ≤ 1000) :
    Calls Try.prog 137 #[.int .i64 x] w fun e w' => e = .returned (.int .i64 (x.natAbs : Int)) ∧ w' = w := by
  go_enter Try.func137, Try.ntmps137
  go_wp2
  all_goals (go_ret; exact ⟨ret_int (by omega), rfl⟩)
set_option maxHeartbeats 2000000 in
set_option maxRecDepth 100000 in
theorem absR_any (x : Int) (w : World) (h1 : -1000 ≤ x) (h2 : x ≤ 1000) :
    Calls Try.prog 88 #[.int .i64 x] w fun e w' => e = .returned (.int .i64 (x.natAbs : Int)) ∧ w' = w := by
  by_cases h0 : x < 0
  · have HE : Hid (-x = (x.natAbs : Int)) := (by omega : -x = (x.natAbs : Int))
    go_enter Try.func88, Try.ntmps88
    go_wp2
    go_ret
    exact ⟨ret_int HE.out, rfl⟩
  · have HE : Hid (x = (x.natAbs : Int)) := (by omega : x = (x.natAbs : Int))
    go_enter Try.func88, Try.ntmps88
    go_wp2
    go_ret
    exact ⟨ret_int HE.out, rfl⟩

set_option maxHeartbeats 4000000 in
set_option maxRecDepth 100000 in
theorem tgRefusal_any (a : Option Addr) (cap : Nat) (l : List Int) (w : World) (hl : l.length ≤ 140737488355328) (h : RdAt w w.heap.size 1 (.slice a l.length cap) l.length (intsV l)) :
    Calls Try.prog 84 #[.slice a l.length cap] w fun e w' => e = .returned (.int .i64 (listN l)) ∧ Below w.heap.size w w' := by
  have HR : Hid (RdAt w w.heap.size 1 (.slice a l.length cap) l.length (intsV l)) := h
  have HB : Hid (Below w.heap.size w w) := Below.refl _ _
  obtain ⟨n, hN⟩ : ∃ n, l.length = n := ⟨_, rfl⟩
  have HN : Hid (l.length = n) := hN
  rw [hN] at hl ⊢
  clear h hN
  go_enter Try.func84, Try.ntmps84
  go_wp2
  go_loopw [3, 8] (fun v3 v8 wr => ∃ i : Nat, i ≤ n ∧ v8 = .int .i64 (i : Nat) ∧ v3 = .int .i64 (szTo l i : Nat) ∧ Hid (∀ j, j < i → -16 ≤ l.getD j 0 ∧ l.getD j 0 ≤ 16) ∧ Hid (Below w.heap.size w wr)) (fun _ v8 _ => n - (intOf v8).toNat)
  case atStart => exact ⟨0, Nat.zero_le _, rfl, rfl, (fun j hj => by omega), HB.out⟩
  case round =>
    clear HB
    rename World => W1
    obtain ⟨i, hin, rfl, rfl, hall, hb⟩ := hrel
    have hsz := szTo_le l i hall.out
    by_cases hil : i < n
    · obtain ⟨b, off, ea, hbw, hc⟩ := HR.out.intAt i (by rw [HN.out]; exact hil)
      have e0 := bcell hb.out hbw hc
      have hsW := hb.out.size
      have hbW : b < W1.heap.size := by omega
      have HIL : Hid (i < l.length) := (by rw [HN.out]; exact hil : i < l.length)
      have HS : Hid (szTo l (i + 1) = szTo l i + (l.getD i 0).natAbs) := (rfl : szTo l (i + 1) = szTo l i + (l.getD i 0).natAbs)
      obtain ⟨x, hx⟩ : ∃ x, l.getD i 0 = x := ⟨_, rfl⟩
      have HX : Hid (l.getD i 0 = x) := hx
      obtain ⟨y, hy⟩ : ∃ y, szTo l i = y := ⟨_, rfl⟩
      rw [hx] at e0 HS
      rw [hy] at HS hsz ⊢
      have HEA : Hid (a = some ⟨b, off, none⟩) := ea
      subst ea
      clear hx hy hc
      by_cases h1 : x < -16
      · have HL : Hid (listN l = 3) := listN_bad HIL.out (by rw [HX.out]; exact Or.inl h1)
        go_wp2
        go_ret
        exact ⟨ret_int HL.out.symm, hb.out⟩
      · by_cases h2 : 16 < x
        · have HL : Hid (listN l = 3) := listN_bad HIL.out (by rw [HX.out]; exact Or.inr h2)
          go_wp2
          go_ret
          exact ⟨ret_int HL.out.symm, hb.out⟩
        · go_wp2_with (go_at_call 137; refine (size_any x _ (by omega) (by omega)).mono ?_; rintro e9 w9 ⟨rfl, rfl⟩; refine Hid.out ?_)
          refine Lib.hid ?_
          have hna : x.natAbs ≤ 16 := by omega
          obtain ⟨z, hz⟩ : ∃ z, x.natAbs = z := ⟨_, rfl⟩
          rw [hz] at hna HS ⊢
          clear hz
          go_wp2
          go_roundw
          case rel => exact ⟨i + 1, by omega, by go_num, by rw [HS.out]; go_num, (fun j hj => by
            by_cases e : j = i
            · rw [e, HX.out]; omega
            · exact hall.out j (by omega) : ∀ j, j < i + 1 → -16 ≤ l.getD j 0 ∧ l.getD j 0 ≤ 16), hb.out⟩
          case measure => simp only [intOf]; omega
    · obtain rfl : i = n := by omega
      have HL : Hid (listN l = if i % 2 = 0 ∨ 16 < szTo l i then 2 else 0) := (by rw [listN_good (by rw [HN.out]; exact hall.out), HN.out] : listN l = if i % 2 = 0 ∨ 16 < szTo l i then 2 else 0)
      obtain ⟨y, hy⟩ : ∃ y, szTo l i = y := ⟨_, rfl⟩
      rw [hy] at HL hsz ⊢
      clear hy
      have er : (i : Int).tmod 2 = ((i % 2 : Nat) : Int) := rfl
      obtain ⟨r, hr⟩ : ∃ r, i % 2 = r := ⟨_, rfl⟩
      have hr2 : r < 2 := by omega
      rw [hr] at er HL
      clear hr
      by_cases hr0 : r = 0
      · have HL2 : Hid (listN l = 2) := (by rw [HL.out, if_pos (Or.inl hr0)] : listN l = 2)
        subst hr0
        go_wp2
        go_ret
        exact ⟨ret_int HL2.out.symm, hb.out⟩
      · have hrz : ((r : Int) == 0) = false := by simp; omega
        by_cases hy : 16 < y
        · have HL2 : Hid (listN l = 2) := (by rw [HL.out, if_pos (Or.inr hy)] : listN l = 2)
          go_wp2
          go_ret
          exact ⟨ret_int HL2.out.symm, hb.out⟩
        · have HL2 : Hid (listN l = 0) := (by rw [HL.out, if_neg (by omega)] : listN l = 0)
          go_wp2
          go_ret
          exact ⟨ret_int HL2.out.symm, hb.out⟩
set_option maxHeartbeats 4000000 in
set_option maxRecDepth 100000 in
theorem listMay_any (a : Option Addr) (cap : Nat) (l : List Int) (w : World) (hl : l.length ≤ 140737488355328) (h : RdAt w w.heap.size 1 (.slice a l.length cap) l.length (intsV l)) :
    Calls Try.prog 38 #[.slice a l.length cap] w fun e w' => e = .returned (.int .i64 (listN l)) ∧ Below w.heap.size w w' := by
  have HR : Hid (RdAt w w.heap.size 1 (.slice a l.length cap) l.length (intsV l)) := h
  have HB : Hid (Below w.heap.size w w) := Below.refl _ _
  obtain ⟨n, hN⟩ : ∃ n, l.length = n := ⟨_, rfl⟩
  have HN : Hid (l.length = n) := hN
  rw [hN] at hl ⊢
  clear h hN
  go_enter Try.func38, Try.ntmps38
  go_wp2
  go_loopw [3, 4] (fun v3 v8 wr => ∃ i : Nat, i ≤ n ∧ v8 = .int .i64 (i : Nat) ∧ v3 = .int .i64 (szTo l i : Nat) ∧ Hid (∀ j, j < i → -16 ≤ l.getD j 0 ∧ l.getD j 0 ≤ 16) ∧ Hid (Below w.heap.size w wr)) (fun _ v8 _ => n - (intOf v8).toNat)
  case atStart => exact ⟨0, Nat.zero_le _, rfl, rfl, (fun j hj => by omega), HB.out⟩
  case round =>
    clear HB
    rename World => W1
    obtain ⟨i, hin, rfl, rfl, hall, hb⟩ := hrel
    have hsz := szTo_le l i hall.out
    by_cases hil : i < n
    · obtain ⟨b, off, ea, hbw, hc⟩ := HR.out.intAt i (by rw [HN.out]; exact hil)
      have e0 := bcell hb.out hbw hc
      have hsW := hb.out.size
      have hbW : b < W1.heap.size := by omega
      have HIL : Hid (i < l.length) := (by rw [HN.out]; exact hil : i < l.length)
      have HS : Hid (szTo l (i + 1) = szTo l i + (l.getD i 0).natAbs) := (rfl : szTo l (i + 1) = szTo l i + (l.getD i 0).natAbs)
      obtain ⟨x, hx⟩ : ∃ x, l.getD i 0 = x := ⟨_, rfl⟩
      have HX : Hid (l.getD i 0 = x) := hx
      obtain ⟨y, hy⟩ : ∃ y, szTo l i = y := ⟨_, rfl⟩
      rw [hx] at e0 HS
      rw [hy] at HS hsz ⊢
      have HEA : Hid (a = some ⟨b, off, none⟩) := ea
      subst ea
      clear hx hy hc
      by_cases h1 : x < -16
      · have HL : Hid (listN l = 3) := listN_bad HIL.out (by rw [HX.out]; exact Or.inl h1)
        go_wp2
        go_ret
        exact ⟨ret_int HL.out.symm, hb.out⟩
      · by_cases h2 : 16 < x
        · have HL : Hid (listN l = 3) := listN_bad HIL.out (by rw [HX.out]; exact Or.inr h2)
          go_wp2
          go_ret
          exact ⟨ret_int HL.out.symm, hb.out⟩
        · go_wp2_with (go_at_call 88; refine (absR_any x _ (by omega) (by omega)).mono ?_; rintro e9 w9 ⟨rfl, rfl⟩; refine Hid.out ?_)
          refine Lib.hid ?_
          have hna : x.natAbs ≤ 16 := by omega
          obtain ⟨z, hz⟩ : ∃ z, x.natAbs = z := ⟨_, rfl⟩
          rw [hz] at hna HS ⊢
          clear hz
          go_wp2
          go_roundw
          case rel => exact ⟨i + 1, by omega, by go_num, by rw [HS.out]; go_num, (fun j hj => by
            by_cases e : j = i
            · rw [e, HX.out]; omega
            · exact hall.out j (by omega) : ∀ j, j < i + 1 → -16 ≤ l.getD j 0 ∧ l.getD j 0 ≤ 16), hb.out⟩
          case measure => simp only [intOf]; omega
    · obtain rfl : i = n := by omega
      have HL : Hid (listN l = if i % 2 = 0 ∨ 16 < szTo l i then 2 else 0) := (by rw [listN_good (by rw [HN.out]; exact hall.out), HN.out] : listN l = if i % 2 = 0 ∨ 16 < szTo l i then 2 else 0)
      obtain ⟨y, hy⟩ : ∃ y, szTo l i = y := ⟨_, rfl⟩
      rw [hy] at HL hsz ⊢
      clear hy
      have er : (i : Int).tmod 2 = ((i % 2 : Nat) : Int) := rfl
      obtain ⟨r, hr⟩ : ∃ r, i % 2 = r := ⟨_, rfl⟩
      have hr2 : r < 2 := by omega
      rw [hr] at er HL
      clear hr
      by_cases hr0 : r = 0
      · have HL2 : Hid (listN l = 2) := (by rw [HL.out, if_pos (Or.inl hr0)] : listN l = 2)
        subst hr0
        go_wp2
        go_ret
        exact ⟨ret_int HL2.out.symm, hb.out⟩
      · have hrz : ((r : Int) == 0) = false := by simp; omega
        by_cases hy : 16 < y
        · have HL2 : Hid (listN l = 2) := (by rw [HL.out, if_pos (Or.inr hy)] : listN l = 2)
          go_wp2
          go_ret
          exact ⟨ret_int HL2.out.symm, hb.out⟩
        · have HL2 : Hid (listN l = 0) := (by rw [HL.out, if_neg (by omega)] : listN l = 0)
          go_wp2
          go_ret
          exact ⟨ret_int HL2.out.symm, hb.out⟩
end Go.Proofs.Ytphhlflcghffbaa

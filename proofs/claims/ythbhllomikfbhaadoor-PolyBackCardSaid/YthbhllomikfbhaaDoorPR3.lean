/- The walk of poly.parsed. -/
import Derived.Test.YthbhllomikfbhaaDoorPR2
import Derived.Test.YthbhllomikfbhaaDoorPA7
import Derived.Laws.RangeAny
namespace Go.Proofs.YthbhllomikfbhaaDoor.Poly
open Go.RowKit

theorem grown_belowR {w w' : World} (h : Below w.heap.size w w') (row : Option Nat) : w.grownBy w' row := ⟨h.os, h.tape, h.output, h.size, fun k hk _ => h.block k hk⟩
theorem split_lib (n : Nat) : ∀ l : List UInt8, l.length ≤ n → Lib.splitK [32] 0 (Lib.count l [32]) l = splitS l := by
  induction n with
  | zero =>
    intro l hl
    have : l = [] := List.length_eq_zero_iff.1 (by omega)
    subst this
    rfl
  | succ n ih =>
    intro l hl
    by_cases hi : Lib.index l [32] = -1
    · rw [Lib.count_miss hi]
      have hno : ∀ b ∈ l, b ≠ 32 := fun b hb e => by
        rw [Lib.index_one] at hi
        obtain ⟨k, hk⟩ := List.mem_iff_getElem?.1 hb
        exact Lib.indexByte_none hi k (by rw [hk, e])
      rw [split_none l hno]
      rfl
    · obtain ⟨i, hI⟩ : ∃ i : Nat, Lib.index l [32] = i := ⟨(Lib.index l [32]).toNat, by have := Lib.index_ge l [32]; omega⟩
      have hb := hI
      rw [Lib.index_one] at hb
      obtain ⟨h1, h2⟩ := Lib.indexByte_some hb
      have hil : i < l.length := (List.getElem?_eq_some_iff.1 h1).1
      have hcut : l = l.take i ++ 32 :: l.drop (i + 1) := by
        have h3 : l.drop i = 32 :: l.drop (i + 1) := by
          rw [List.drop_eq_getElem_cons hil]
          congr 1
          have := List.getElem?_eq_getElem hil
          rw [h1] at this
          exact (Option.some.inj this).symm
        rw [← h3, List.take_append_drop]
      have hno : ∀ b ∈ l.take i, b ≠ 32 := fun b hb e => by
        obtain ⟨k, hk⟩ := List.mem_iff_getElem?.1 hb
        have hki : k < i := by
          have := (List.getElem?_eq_some_iff.1 hk).1
          rw [List.length_take] at this
          omega
        rw [List.getElem?_take_of_lt hki] at hk
        exact h2 k hki (by rw [hk, e])
      rw [Lib.count_hit (by simp) hI, Nat.add_comm 1]
      unfold Lib.splitK
      rw [if_neg (by rw [hI]; simp), hI]
      simp only [Int.toNat_natCast, Nat.add_zero, List.length_cons, List.length_nil, Nat.zero_add]
      rw [ih (l.drop (i + 1)) (by rw [List.length_drop]; omega)]
      conv => rhs; rw [hcut]
      rw [split_cons _ _ hno]
/-- Texts as values. -/
def strW (l : List (List UInt8)) : List Value := l.map fun x => .string ⟨x.toArray⟩
theorem strs_of (B : List ByteArray) (X : List (List UInt8)) (h : B.map (·.data.toList) = X) : B.map Value.string = strW X := by
  subst h
  unfold strW
  rw [List.map_map]
  rfl
theorem split_any (l : List UInt8) (w : World) (hl : l.length ≤ 10000) (hV : RdVars w) :
    Calls Tryd.prog 46 #[.string ⟨l.toArray⟩, .string ⟨#[32]⟩] w fun e w' => e = .returned (.slice (some ⟨w.heap.size, 0, none⟩) (splitS l).length (splitS l).length) ∧ w' = w.alloc (.cells (strW (splitS l)).toArray 9) := by
  obtain ⟨⟨m, hm⟩, -, -⟩ := hV
  have hz : (⟨l.toArray⟩ : ByteArray).size = l.length := by simp [ByteArray.size]
  refine (Tryd.strings_Split ⟨l.toArray⟩ ⟨#[32]⟩ m w (by rw [hz]; omega) hm (by decide)).mono ?_
  rintro e w' ⟨rfl, rfl⟩
  have h1 := Lib.splitB_data ⟨#[32]⟩ 0 (Lib.countB ⟨l.toArray⟩ ⟨#[32]⟩) ⟨l.toArray⟩
  have h2 : Lib.splitK [32] 0 (Lib.count l [32]) l = splitS l := split_lib l.length l (Nat.le_refl _)
  have h3 : (Lib.splitB ⟨#[32]⟩ 0 (Lib.countB ⟨l.toArray⟩ ⟨#[32]⟩) ⟨l.toArray⟩).map (·.data.toList) = splitS l := h1.trans h2
  have h4 := Lib.splitB_all ⟨#[32]⟩ (by decide) 0 _ ⟨l.toArray⟩ rfl
  have h5 : Lib.countB ⟨l.toArray⟩ ⟨#[32]⟩ + 1 = (splitS l).length := by
    rw [← h3, List.length_map]
    exact h4.symm
  rw [h5, strs_of _ _ h3]
  exact ⟨rfl, rfl⟩
theorem split_len (l : List UInt8) : (splitS l).length ≤ l.length + 1 := by
  induction l with
  | nil => simp [splitS]
  | cons b r ih =>
    unfold splitS
    split
    · simp; omega
    · split
      · simp
      · rename_i p q hq
        rw [hq] at ih
        simp at ih ⊢
        omega
theorem split_part (l : List UInt8) : ∀ x ∈ splitS l, x.length ≤ l.length := by
  induction l with
  | nil => intro x hx; simp [splitS] at hx; rw [hx]; simp
  | cons b r ih =>
    intro x hx
    unfold splitS at hx
    split at hx
    · rcases List.mem_cons.1 hx with h | h
      · rw [h]; simp
      · have := ih x h; simp; omega
    · split at hx
      · have : x = [b] := by simpa using hx
        rw [this]; simp
      · rename_i p q hq
        rcases List.mem_cons.1 hx with h | h
        · have := ih p (by rw [hq]; exact List.mem_cons_self)
          rw [h]; simp; omega
        · have := ih x (by rw [hq]; exact List.mem_cons_of_mem _ h)
          simp; omega
theorem words_sign (x : List UInt8) (r : List (List UInt8)) (k : Nat) (bl : Bool) (acc : List (Int × Int)) (h : k % 2 = 1) (hx : x = [43] ∨ x = [45]) : wordsP (x :: r) k bl acc = wordsP r (k + 1) (decide (x = [45])) acc := by
  conv => lhs; unfold wordsP
  rw [if_pos h, if_pos hx]
theorem words_nosign (x : List UInt8) (r : List (List UInt8)) (k : Nat) (bl : Bool) (acc : List (Int × Int)) (h : k % 2 = 1) (hx : ¬ (x = [43] ∨ x = [45])) : wordsP (x :: r) k bl acc = none := by
  conv => lhs; unfold wordsP
  rw [if_pos h, if_neg hx]
theorem words_no (x : List UInt8) (r : List (List UInt8)) (k : Nat) (bl : Bool) (acc : List (Int × Int)) (h : ¬ k % 2 = 1) (hx : termP x = none) : wordsP (x :: r) k bl acc = none := by
  conv => lhs; unfold wordsP
  rw [if_neg h, hx]
theorem words_yes (x : List UInt8) (r : List (List UInt8)) (k : Nat) (bl : Bool) (acc : List (Int × Int)) (y z : Int) (h : ¬ k % 2 = 1) (hx : termP x = some (y, z)) : wordsP (x :: r) k bl acc = wordsP r (k + 1) bl (acc ++ [(y, if bl then IntKind.i64.wrap (-z) else z)]) := by
  conv => lhs; unfold wordsP
  rw [if_neg h, hx]
theorem new_two (W : World) (k : Nat) (hk : k = W.heap.size) (x y : Value) : ∀ j u, [x, y][j]? = some u → (W.alloc (.cells #[x, y] 36)).cell? ((⟨k, 0, none⟩ : Addr).add j) = some u := by
  intro j u hj
  subst hk
  rw [Addr.add_lit, Nat.zero_add]
  refine block_at (alloc_at rfl) ?_
  simpa using hj
/-- What poly.parsed answers. -/
def PaOut (o : Option (List (Int × Int))) (e : Ending) (w : World) : Prop := match o with
  | some l => ∃ v, e = .returned (.tuple #[v, .bool true]) ∧ Poly w w.heap.size v l ∧ l.length ≤ 10001
  | none => e = .returned (.tuple #[.slice none 0 0, .bool false])

set_option maxHeartbeats 8000000 in
set_option maxRecDepth 100000 in
theorem parsed_any (s : List UInt8) (w : World) (hl : s.length ≤ 10000) (hV : RdVars w) :
    Calls Tryd.prog 27 #[.string ⟨s.toArray⟩] w fun e w' => PaOut (parseP s) e w' ∧ Below w.heap.size w w' := by
  unfold parseP
  by_cases h0 : s = [48]
  · rw [if_pos h0]
    subst h0
    go_enter Tryd.func27, Tryd.ntmps27
    go_wp2
    go_ret2
    exact ⟨⟨_, rfl, Or.inl ⟨rfl, rfl⟩, by simp⟩, Below.refl _ _⟩
  · rw [if_neg h0]
    obtain ⟨i0, hi, hz0, hz1, hz2⟩ := info_parts infoTerm
    have he : (s == [48]) = false := beq_eq_false_iff_ne.2 h0
    have HC := hid_of (cutPre s [45] w)
    have hq := Nat.le_trans (trim_len s [45]) hl
    generalize Lib.trimPrefix s [45] = q at HC hq ⊢
    generalize Lib.hasPrefix s [45] = bl0 at HC ⊢
    have HS := hid_of (split_any q w hq hV)
    have hpart := split_part q
    have hmany := split_len q
    generalize splitS q = Wd at HS hpart hmany ⊢
    obtain ⟨n, hn⟩ : ∃ n, Wd.length = n := ⟨_, rfl⟩
    rw [hn] at HS hmany
    obtain ⟨w2, hw2⟩ : ∃ w2, w.alloc (.cells (strW Wd).toArray 9) = w2 := ⟨_, rfl⟩
    rw [hw2] at HS
    have hB2 : Below w.heap.size w w2 := by rw [← hw2]; exact (Below.refl _ _).alloc (Nat.le_refl _) _
    have hlt2 : w.heap.size < w2.heap.size := by rw [← hw2]; simp
    have HV2 : Hid (∀ W, Below w2.heap.size w2 W → RdVars W) := fun W hW => (hV.on hB2).on hW
    have HB2 := hid_of hB2
    have HWD : Hid (∀ k x, Wd[k]? = some x → w2.cell? ⟨w.heap.size, k, none⟩ = some (.string ⟨x.toArray⟩) ∧ x.length ≤ 10000) := by
      intro k x hx
      refine ⟨?_, Nat.le_trans (hpart x (List.mem_of_getElem? hx)) hq⟩
      rw [← hw2]
      refine block_at (alloc_at rfl) ?_
      simp [strW, hx]
    have HN := hid_of hn
    have hn1 : n ≤ 10001 := by omega
    clear hn hw2 hpart hq hB2 hV h0 hl hmany
    go_enter Tryd.func27, Tryd.ntmps27
    go_wp2_with (first
      | (go_at_call 45; refine HC.out.mono ?_; rintro e w' ⟨rfl, e2⟩; obtain rfl := e2.symm)
      | (go_at_call 46; refine HS.out.mono ?_; rintro e w' ⟨rfl, e2⟩; obtain rfl := e2.symm))
    go_loopw [2, 4, 19] (fun v b i wr => ∃ (k : Nat) (acc : List (Int × Int)) (bl : Bool), k ≤ n ∧ acc.length ≤ k ∧ b = .bool bl ∧ i = .int .i64 k ∧ wr.ownsRow w2.heap.size 36 2 v acc.length (flat acc) ∧ Hid (wordsP (Wd.drop k) k bl acc = wordsP Wd 0 bl0 []) ∧ Below w2.heap.size w2 wr) (fun _ _ i _ => n - (intOf i).toNat)
    case atStart => exact ⟨0, [], bl0, Nat.zero_le _, Nat.le_refl _, rfl, rfl, World.ownsRow_nil _ _ _ _, (by rw [List.drop_zero] : wordsP (Wd.drop 0) 0 bl0 [] = wordsP Wd 0 bl0 []), Below.refl _ _⟩
    case round =>
      obtain ⟨k, acc, bl, hk, hak, rfl, rfl, hrow, HW, hb⟩ := hrel
      have hsz := hb.size
      by_cases hlt : k < n
      · have d1 : decide ((k : Int) < (n : Int)) = true := by simpa using hlt
        obtain ⟨x, hx⟩ : ∃ x, Wd[k]? = some x := ⟨_, List.getElem?_eq_getElem (by rw [HN.out]; exact hlt)⟩
        obtain ⟨hc0, hxl⟩ := HWD.out k x hx
        have c0 := bcell hb hlt2 hc0
        have hbr : w.heap.size < wr.heap.size := Nat.lt_of_lt_of_le hlt2 hsz
        have hd : Wd.drop k = x :: Wd.drop (k + 1) := by
          have hkl : k < Wd.length := by rw [HN.out]; exact hlt
          rw [List.drop_eq_getElem_cons hkl]
          congr 1
          have := List.getElem?_eq_getElem hkl
          rw [hx] at this
          exact (Option.some.inj this).symm
        rw [hd] at HW
        have HXL := hid_of hxl
        have w1 : IntKind.i64.wrap ((k : Int) + 1) = (k : Int) + 1 := IntWalk.i64_in _ (by omega)
        have hkI : (0 : Int) ≤ (k : Int) := by omega
        clear hc0 hd hx hxl
        by_cases hodd : k % 2 = 1
        · have hr : (k : Int).tmod 2 = 1 := by rw [Int.tmod_eq_emod_of_nonneg (by omega)]; omega
          by_cases hp : x = [43]
          · subst hp
            have HW2 : Hid (wordsP (Wd.drop (k + 1)) (k + 1) false acc = wordsP Wd 0 bl0 []) := (words_sign [43] _ k bl acc hodd (Or.inl rfl)).symm.trans HW.out
            clear HW
            go_wp2
            go_roundw
            case rel => exact ⟨k + 1, acc, false, by omega, by omega, rfl, by go_num, hrow, HW2, hb⟩
            case measure => simp only [intOf]; omega
          · by_cases hm : x = [45]
            · subst hm
              have HW2 : Hid (wordsP (Wd.drop (k + 1)) (k + 1) true acc = wordsP Wd 0 bl0 []) := (words_sign [45] _ k bl acc hodd (Or.inr rfl)).symm.trans HW.out
              clear HW
              go_wp2
              go_roundw
              case rel => exact ⟨k + 1, acc, true, by omega, by omega, rfl, by go_num, hrow, HW2, hb⟩
              case measure => simp only [intOf]; omega
            · have HW2 : Hid (wordsP Wd 0 bl0 [] = none) := HW.out.symm.trans (words_nosign x _ k bl acc hodd (by rintro (h | h); exact hp h; exact hm h))
              have e1 : (x == [43]) = false := beq_eq_false_iff_ne.2 hp
              have e2 : (x == [45]) = false := beq_eq_false_iff_ne.2 hm
              clear HW
              go_wp2
              go_ret2
              rw [HW2.out]
              exact ⟨rfl, HB2.out.trans (hb.mono (by omega))⟩
        · have hr : (k : Int).tmod 2 = 0 := by rw [Int.tmod_eq_emod_of_nonneg (by omega)]; omega
          have HT := hid_of (parsedTerm_any x wr HXL.out (HV2.out wr hb))
          cases ht : termP x with
          | none =>
            rw [ht] at HT
            have HT2 : Hid (Calls Tryd.prog 47 #[.string ⟨x.toArray⟩] wr fun e w' => ∃ y z : Int, e = .returned (.tuple #[.agg #[.int .i64 y, .int .i64 z], .bool false]) ∧ Below wr.heap.size wr w') := HT.out.mono fun e w' h => by
              obtain ⟨⟨y, z, h1⟩, h2⟩ := h
              exact ⟨y, z, h1, h2⟩
            have HW2 : Hid (wordsP Wd 0 bl0 [] = none) := HW.out.symm.trans (words_no x _ k bl acc hodd ht)
            clear HW HT ht
            go_wp2_with (go_at_call 47; refine HT2.out.mono ?_; rintro e W1 ⟨y, z, rfl, hb1⟩)
            go_ret2
            rw [HW2.out]
            exact ⟨rfl, ((HB2.out.trans (hb.mono (by omega))).trans (hb1.mono (by omega))).alloc (by have := hb1.size; omega) _⟩
          | some t =>
            rw [ht] at HT
            obtain ⟨y, z⟩ := t
            have HT2 : Hid (Calls Tryd.prog 47 #[.string ⟨x.toArray⟩] wr fun e w' => e = .returned (.tuple #[.agg #[.int .i64 y, .int .i64 z], .bool true]) ∧ Below wr.heap.size wr w') := HT.out
            have HW2 : Hid (wordsP (Wd.drop (k + 1)) (k + 1) bl (acc ++ [(y, if bl then IntKind.i64.wrap (-z) else z)]) = wordsP Wd 0 bl0 []) := (words_yes x _ k bl acc y z hodd ht).symm.trans HW.out
            clear HW HT ht
            cases bl with
            | false =>
              go_wp2_with (first
                | (go_at_call 47; refine HT2.out.mono ?_; rintro e W1 ⟨rfl, hb1⟩; have hrow1 := hrow.kept (grown_belowR hb1 none) (Classical.em _); have hb2 := hb.trans (hb1.mono hsz); have hsz1 := hb2.size)
                | (at_builtin; refine wpList_append_own _ rfl _ _ 22 rfl w2.heap.size 36 i0 (.agg #[.int .i64 0, .int .i64 0]) 2 16 Tryd.underlying22 hi hz0 hz1 hz2 rfl (by decide) _ _ _ rfl ((hrow1.alloc _).alloc _) ⟨W1.heap.size + 1, 0, none⟩ 1 1 [.int .i64 y, .int .i64 z] rfl rfl (new_two (W1.alloc _) _ (by simp) _ _) (pair_one _ _) (by unfold maxLen; omega) (by omega) (by simp; omega) ?_; intro v' w3 hown' hg3 _; go_frame)
                | go_in)
              go_roundw
              case rel =>
                refine ⟨k + 1, acc ++ [(y, z)], _, by omega, by simp; omega, rfl, by go_num, ?_, HW2, (((hb2.alloc hsz1 _).alloc (by simp; omega) _).grown hg3 (by simp; omega) (fun j hj => (hrow1.lt j hj).1))⟩
                rw [flat_append, List.length_append]
                exact hown'
              case measure => simp only [intOf]; omega
            | true =>
              rw [if_pos rfl] at HW2
              obtain ⟨z', wz⟩ : ∃ z', IntKind.i64.wrap (-z) = z' := ⟨_, rfl⟩
              rw [wz] at HW2
              go_wp2_with (first
                | (go_at_call 47; refine HT2.out.mono ?_; rintro e W1 ⟨rfl, hb1⟩; have hrow1 := hrow.kept (grown_belowR hb1 none) (Classical.em _); have hb2 := hb.trans (hb1.mono hsz); have hsz1 := hb2.size)
                | (at_builtin; refine wpList_append_own _ rfl _ _ 22 rfl w2.heap.size 36 i0 (.agg #[.int .i64 0, .int .i64 0]) 2 16 Tryd.underlying22 hi hz0 hz1 hz2 rfl (by decide) _ _ _ rfl ((hrow1.alloc _).alloc _) ⟨W1.heap.size + 1, 0, none⟩ 1 1 [.int .i64 y, .int .i64 z'] rfl rfl (new_two (W1.alloc _) _ (by simp) _ _) (pair_one _ _) (by unfold maxLen; omega) (by omega) (by simp; omega) ?_; intro v' w3 hown' hg3 _; go_frame)
                | go_in)
              go_roundw
              case rel =>
                refine ⟨k + 1, acc ++ [(y, z')], _, by omega, by simp; omega, rfl, by go_num, ?_, HW2, (((hb2.alloc hsz1 _).alloc (by simp; omega) _).grown hg3 (by simp; omega) (fun j hj => (hrow1.lt j hj).1))⟩
                rw [flat_append, List.length_append]
                exact hown'
              case measure => simp only [intOf]; omega
      · obtain rfl : k = n := by omega
        have HW2 : Hid (wordsP Wd 0 bl0 [] = some acc) := by
          rw [← HW.out, List.drop_of_length_le (by rw [HN.out]; omega)]
          rfl
        clear HW
        go_wp2
        go_ret2
        rw [HW2.out]
        exact ⟨⟨_, rfl, Poly.ofRow hrow, by omega⟩, HB2.out.trans (hb.mono (by omega))⟩
end Go.Proofs.YthbhllomikfbhaaDoor.Poly

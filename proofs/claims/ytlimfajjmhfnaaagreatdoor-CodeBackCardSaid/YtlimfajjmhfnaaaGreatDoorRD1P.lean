/- Several texts of the proof, one behind the other. -/
import Derived.Test.YtlimfajjmhfnaaaGreatDoorDShelfP
import Derived.Test.YtlimfajjmhfnaaaGreatDoorRD0P
import Derived.Test.YtlimfajjmhfnaaaGreatDoorW5dP
import Derived.Laws.RangeAny
import Derived.Deep.Cut
import Derived.Lib.IndexMore
import Derived.Lib.Split
/- The walks of code.number and code.parsedCross. -/
namespace Go.Proofs.YtlimfajjmhfnaaaGreatDoor
open Go.RowKit

theorem hid_of {p : Prop} (h : p) : Hid p := h
theorem arr_size (l : List UInt8) : (⟨l.toArray⟩ : ByteArray).size = l.length := by simp [ByteArray.size]
theorem arr_get (l : List UInt8) (i : Nat) (h : i < (⟨l.toArray⟩ : ByteArray).size) : (⟨l.toArray⟩ : ByteArray)[i]'h = l[i]'(by rw [arr_size] at h; exact h) := rfl
theorem numOf_snoc (l : List UInt8) (b : UInt8) : numOf (l ++ [b]) = 10 * numOf l + (b.toNat - 48) := by
  unfold numOf
  rw [List.foldl_append]
  rfl
theorem take_snoc {l : List UInt8} {i : Nat} {b : UInt8} (h : l[i]? = some b) : l.take (i + 1) = l.take i ++ [b] := by
  rw [List.take_add_one, h]
  rfl
/-- What code.number answers. -/
def numV (l : List UInt8) : Value := match numP l with
  | some n => .tuple #[.int .i64 (n : Nat), .bool true]
  | none => .tuple #[.int .i64 0, .bool false]
theorem numV_bad {l : List UInt8} {i : Nat} {b : UInt8} (h : l[i]? = some b) (hb : dgB b = false) : numV l = .tuple #[.int .i64 0, .bool false] := by
  unfold numV
  cases hn : numP l with
  | none => rfl
  | some n =>
    have h1 := (numP_some hn).2.2.1 b (List.mem_of_getElem? h)
    rw [hb] at h1
    cases h1

set_option maxHeartbeats 4000000 in
set_option maxRecDepth 100000 in
theorem number_any (l : List UInt8) (w : World) (hl : l.length ≤ 10000) :
    Calls Tryz.prog 47 #[.string ⟨l.toArray⟩] w fun e w' => e = .returned (numV l) ∧ Below w.heap.size w w' := by
  obtain ⟨s, hs⟩ : ∃ s : ByteArray, (⟨l.toArray⟩ : ByteArray) = s := ⟨_, rfl⟩
  have hsz : s.size = l.length := by rw [← hs, arr_size]
  have HS := hid_of hs
  rw [hs]
  clear hs
  by_cases h1 : l.length < 1
  · have hv : numV l = .tuple #[.int .i64 0, .bool false] := by
      unfold numV numP
      rw [if_neg (by omega)]
    rw [hv]
    have hI : (s.size : Int) < 1 := by omega
    clear hv
    go_enter Tryz.func47, Tryz.ntmps47
    go_wp2
    go_ret2
    exact ⟨rfl, Below.refl _ _⟩
  · by_cases h3 : 3 < l.length
    · have hv : numV l = .tuple #[.int .i64 0, .bool false] := by
        unfold numV numP
        rw [if_neg (by omega)]
      rw [hv]
      have hI : ¬ (s.size : Int) < 1 := by omega
      have hI3 : (3 : Int) < (s.size : Int) := by omega
      clear hv
      go_enter Tryz.func47, Tryz.ntmps47
      go_wp2
      go_ret2
      exact ⟨rfl, Below.refl _ _⟩
    · have hI : ¬ (s.size : Int) < 1 := by omega
      have hI3 : ¬ (3 : Int) < (s.size : Int) := by omega
      have HBI : Hid (∀ p, Below w.heap.size w (w.iter s p)) := fun p => (Below.refl w.heap.size w).alloc (Nat.le_refl _) _
      have HE := fun W : World => run_next_end (P := Tryz.prog) W s l.length
      have hz0 : numOf (l.take 0) = 0 := rfl
      have HZ0 : Hid (numOf (l.take 0) = 0 ∧ ∀ b ∈ l.take 0, dgB b = true) := ⟨hz0, fun b hb => by simp at hb⟩
      have HSZ := hid_of hsz
      obtain ⟨n, hn⟩ : ∃ n, l.length = n := ⟨_, rfl⟩
      have HN := hid_of hn
      rw [hn] at hsz h1 h3
      rw [hsz] at hI hI3
      clear hn hz0 HE
      go_enter Tryz.func47, Tryz.ntmps47
      go_wp2
      go_loopw [4] (fun v4 wr => ∃ (pos A : Nat), pos ≤ n ∧ wr = w.iter s pos ∧ v4 = .int .i64 (A : Nat) ∧ (pos = 0 → A = 0) ∧ (pos ≤ 1 → A ≤ 9) ∧ (pos ≤ 2 → A ≤ 99) ∧ A ≤ 999 ∧ Hid (numOf (l.take pos) = A ∧ ∀ b ∈ l.take pos, dgB b = true)) (fun _ wr => n - wr.iterPos w.heap.size)
      case atStart => exact ⟨0, 0, Nat.zero_le _, rfl, rfl, fun _ => rfl, fun _ => by omega, fun _ => by omega, by omega, HZ0⟩
      case round =>
        rename World => wr
        obtain ⟨pos, A, hp, rfl, rfl, a0, a1, a2, a3, HA⟩ := hrel
        by_cases hpn : pos < n
        · have hps : pos < s.size := by rw [hsz]; exact hpn
          have hlp : pos < l.length := by rw [HN.out]; exact hpn
          have hgb : s[pos]'hps = l[pos]'hlp := by
            have := HS.out
            subst this
            rfl
          have hgo : l[pos]? = some (l[pos]'hlp) := List.getElem?_eq_getElem hlp
          obtain ⟨b, hb⟩ : ∃ b, l[pos]'hlp = b := ⟨_, rfl⟩
          rw [hb] at hgb hgo
          have HGO := hid_of hgo
          by_cases hlow : b.toNat < 128
          · have hnx := fun ty => run_next_ascii (P := Tryz.prog) w s pos ty hps (by rw [hgb]; exact hlow)
            rw [hgb] at hnx
            clear hgb hb hgo
            by_cases hd : 48 ≤ b.toNat ∧ b.toNat ≤ 57
            · have hdb : dgB b = true := by unfold dgB; simp; exact hd
              have HNW : Hid (numOf (l.take (pos + 1)) = 10 * A + (b.toNat - 48) ∧ ∀ x ∈ l.take (pos + 1), dgB x = true) := by
                refine ⟨?_, fun x hx => ?_⟩
                · rw [take_snoc HGO.out, numOf_snoc, HA.out.1]
                · rw [take_snoc HGO.out] at hx
                  rcases List.mem_append.1 hx with h | h
                  · exact HA.out.2 x h
                  · rw [List.mem_singleton.1 h]; exact hdb
              obtain ⟨c, hc⟩ : ∃ c, b.toNat = c := ⟨_, rfl⟩
              rw [hc] at hnx hd HNW
              have d1 : ¬ (c : Int) < 48 := by omega
              have d2 : ¬ (57 : Int) < (c : Int) := by omega
              have e1 : IntKind.i64.wrap (10 * (A : Int)) = 10 * (A : Int) := IntWalk.i64_in _ (by omega)
              have e2 : IntKind.i32.wrap ((c : Int) - 48) = (c : Int) - 48 := by simp [IntKind.wrap, IntKind.signed, IntKind.bits]; omega
              have e3 : IntKind.i64.wrap ((c : Int) - 48) = (c : Int) - 48 := IntWalk.i64_in _ (by omega)
              have e4 : IntKind.i64.wrap (10 * (A : Int) + ((c : Int) - 48)) = ((10 * A + (c - 48) : Nat) : Int) := by rw [IntWalk.i64_in _ (by omega)]; omega
              clear hc hdb hlow
              go_wp2
              go_roundw
              case rel => exact ⟨pos + 1, 10 * A + (c - 48), by omega, rfl, by rfl, fun h => by omega, fun h => by omega, fun h => by omega, by omega, HNW⟩
              case measure => simp; omega
            · have hdb : dgB b = false := by unfold dgB; simp; omega
              have HV := hid_of (numV_bad HGO.out hdb)
              obtain ⟨c, hc⟩ : ∃ c, b.toNat = c := ⟨_, rfl⟩
              rw [hc] at hnx hd
              clear hc hdb hlow
              by_cases d1 : (c : Int) < 48
              · go_wp2
                go_ret2
                exact ⟨by rw [HV.out]; rfl, HBI.out _⟩
              · have d2 : (57 : Int) < (c : Int) := by omega
                go_wp2
                go_ret2
                exact ⟨by rw [HV.out]; rfl, HBI.out _⟩
          · have hnx := fun ty => run_next_any (P := Tryz.prog) w s pos ty hps
            have hhi := decode_high s pos hps (by rw [hgb]; omega)
            have hdb : dgB b = false := by unfold dgB; simp; omega
            have HV := hid_of (numV_bad HGO.out hdb)
            obtain ⟨D, hD⟩ : ∃ D, Utf8.decode s pos = D := ⟨_, rfl⟩
            obtain ⟨c, k⟩ := D
            rw [hD] at hnx hhi
            simp only at hnx hhi
            have d1 : ¬ (c : Int) < 48 := by omega
            have d2 : (57 : Int) < (c : Int) := by omega
            clear hgb hb hgo hdb hD
            go_wp2
            go_ret2
            exact ⟨by rw [HV.out]; rfl, HBI.out _⟩
        · obtain rfl : pos = n := by omega
          have hps : ¬ pos < s.size := by rw [hsz]; omega
          have hnx := fun ty => run_next_end (P := Tryz.prog) w s pos ty hps
          have hv : numV l = .tuple #[.int .i64 (A : Nat), .bool true] := by
            have h := HA.out
            rw [List.take_of_length_le (by rw [HN.out]; omega)] at h
            unfold numV
            rw [numP_mk (by rw [HN.out]; omega) (by rw [HN.out]; omega) h.2, h.1]
          have HV := hid_of hv
          clear hv
          go_wp2
          go_ret2
          exact ⟨by rw [HV.out]; rfl, HBI.out _⟩
end Go.Proofs.YtlimfajjmhfnaaaGreatDoor
/- strings.Split, CutPrefix, CutSuffix over lists of bytes: the library's words and our own are one. -/
namespace Go.Proofs.YtlimfajjmhfnaaaGreatDoor
open Go.RowKit

theorem split_lib (n : Nat) : ∀ l : List UInt8, l.length ≤ n → Lib.splitK [44] 0 (Lib.count l [44]) l = splitC l := by
  induction n with
  | zero =>
    intro l hl
    have : l = [] := List.length_eq_zero_iff.1 (by omega)
    subst this
    rfl
  | succ n ih =>
    intro l hl
    by_cases hi : Lib.index l [44] = -1
    · rw [Lib.count_miss hi]
      have hno : ∀ b ∈ l, b ≠ 44 := fun b hb e => by
        rw [Lib.index_one] at hi
        obtain ⟨k, hk⟩ := List.mem_iff_getElem?.1 hb
        exact Lib.indexByte_none hi k (by rw [hk, e])
      rw [split_none l hno]
      rfl
    · obtain ⟨i, hI⟩ : ∃ i : Nat, Lib.index l [44] = i := ⟨(Lib.index l [44]).toNat, by have := Lib.index_ge l [44]; omega⟩
      have hb := hI
      rw [Lib.index_one] at hb
      obtain ⟨h1, h2⟩ := Lib.indexByte_some hb
      have hil : i < l.length := (List.getElem?_eq_some_iff.1 h1).1
      have hcut : l = l.take i ++ 44 :: l.drop (i + 1) := by
        have h3 : l.drop i = 44 :: l.drop (i + 1) := by
          rw [List.drop_eq_getElem_cons hil]
          congr 1
          have := List.getElem?_eq_getElem hil
          rw [h1] at this
          exact (Option.some.inj this).symm
        rw [← h3, List.take_append_drop]
      have hno : ∀ b ∈ l.take i, b ≠ 44 := fun b hb e => by
        obtain ⟨k, hk⟩ := List.mem_iff_getElem?.1 hb
        have hki : k < i := by
          have := (List.getElem?_eq_some_iff.1 hk).1
          rw [List.length_take] at this
          omega
        rw [List.getElem?_take_of_lt hki] at hk
        exact h2 k hki (by rw [hk, e])
      rw [Lib.count_hit (by simp) hI, Nat.add_comm 1]
      unfold Lib.splitK
      rw [if_neg (by rw [hI]; simp), hI]
      simp only [Int.toNat_natCast, Nat.add_zero, List.length_cons, List.length_nil, Nat.zero_add]
      rw [ih (l.drop (i + 1)) (by rw [List.length_drop]; omega)]
      conv => rhs; rw [hcut]
      rw [split_cons _ _ hno]
/-- Texts as values. -/
def strW (l : List (List UInt8)) : List Value := l.map fun x => .string ⟨x.toArray⟩
theorem strs_of (B : List ByteArray) (X : List (List UInt8)) (h : B.map (·.data.toList) = X) : B.map Value.string = strW X := by
  subst h
  unfold strW
  rw [List.map_map]
  rfl
/-- The variable that strings.Index reads lies there. -/
def MaxAt (w : World) : Prop := ∃ m, w.cell? ⟨2, 0, none⟩ = some (.int .i64 m)
theorem MaxAt.on {w w' : World} (h : MaxAt w) (hb : Below w.heap.size w w') : MaxAt w' := by
  obtain ⟨m, hm⟩ := h
  have hlt : 2 < w.heap.size := by
    rcases Nat.lt_or_ge 2 w.heap.size with h | h
    · exact h
    · simp [World.cell?, Array.getElem?_eq_none h] at hm
  exact ⟨m, (hb.cell (p := ⟨2, 0, none⟩) hlt).trans hm⟩
theorem split_any (l : List UInt8) (w : World) (hl : l.length ≤ 10000) (hm : MaxAt w) :
    Calls Tryz.prog 46 #[.string ⟨l.toArray⟩, .string ⟨#[44]⟩] w fun e w' => e = .returned (.slice (some ⟨w.heap.size, 0, none⟩) (splitC l).length (splitC l).length) ∧ w' = w.alloc (.cells (strW (splitC l)).toArray 9) := by
  obtain ⟨m, hm⟩ := hm
  have hz : (⟨l.toArray⟩ : ByteArray).size = l.length := by simp [ByteArray.size]
  refine (Tryz.strings_Split ⟨l.toArray⟩ ⟨#[44]⟩ m w (by rw [hz]; omega) hm (by decide)).mono ?_
  rintro e w' ⟨rfl, rfl⟩
  have h1 := Lib.splitB_data ⟨#[44]⟩ 0 (Lib.countB ⟨l.toArray⟩ ⟨#[44]⟩) ⟨l.toArray⟩
  have h2 : Lib.splitK [44] 0 (Lib.count l [44]) l = splitC l := split_lib l.length l (Nat.le_refl _)
  have h3 : (Lib.splitB ⟨#[44]⟩ 0 (Lib.countB ⟨l.toArray⟩ ⟨#[44]⟩) ⟨l.toArray⟩).map (·.data.toList) = splitC l := h1.trans h2
  have h4 := Lib.splitB_all ⟨#[44]⟩ (by decide) 0 _ ⟨l.toArray⟩ rfl
  have h5 : Lib.countB ⟨l.toArray⟩ ⟨#[44]⟩ + 1 = (splitC l).length := by
    rw [← h3, List.length_map]
    exact h4.symm
  rw [h5, strs_of _ _ h3]
  exact ⟨rfl, rfl⟩
theorem head_lib (l : List UInt8) : headP l = if Lib.hasPrefix l [88, 43, 91] then some (true, l.drop 3) else if Lib.hasPrefix l [88, 45, 91] then some (false, l.drop 3) else none := by
  unfold Lib.hasPrefix
  match l with
  | [] => rfl
  | [a] => simp [headP, List.isPrefixOf]
  | [a, b] => simp [headP, List.isPrefixOf]
  | a :: b :: c :: r =>
    unfold headP
    simp only [List.isPrefixOf, Bool.and_true, List.drop_succ_cons, List.drop_zero, Bool.and_eq_true, beq_iff_eq]
    by_cases h1 : a = 88
    · by_cases h3 : c = 91
      · by_cases h2 : b = 43
        · simp [h1, h2, h3]
        · by_cases h4 : b = 45
          · simp [h1, h3, h4]
          · have h5 : ¬ (43 : UInt8) = b := fun e => h2 e.symm
            have h6 : ¬ (45 : UInt8) = b := fun e => h4 e.symm
            simp [h1, h2, h3, h4, h5, h6]
      · have h5 : ¬ (91 : UInt8) = c := fun e => h3 e.symm
        simp [h1, h3, h5]
    · have h5 : ¬ (88 : UInt8) = a := fun e => h1 e.symm
      simp [h1, h5]
theorem last_lib (r : List UInt8) : Lib.hasSuffix r [93] = decide (r.getLast? = some 93) := by
  unfold Lib.hasSuffix
  rw [Bool.eq_iff_iff, List.isSuffixOf_iff_suffix, decide_eq_true_eq, List.getLast?_eq_some_iff]
  constructor
  · rintro ⟨t, ht⟩
    exact ⟨t, ht.symm⟩
  · rintro ⟨t, ht⟩
    exact ⟨t, ht.symm⟩
theorem trim_lib (r : List UInt8) (h : r.getLast? = some 93) : Lib.trimSuffix r [93] = r.dropLast := by
  unfold Lib.trimSuffix
  rw [last_lib, decide_eq_true h, if_pos rfl, List.dropLast_eq_take]
  rfl
end Go.Proofs.YtlimfajjmhfnaaaGreatDoor

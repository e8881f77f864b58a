/- The walks of code.number and code.parsedCross. -/
import Derived.Test.YtlimfajjmhfnaaaDoorRShelf
import Derived.Test.YtlimfajjmhfnaaaDoorRD0
import Derived.Test.YtlimfajjmhfnaaaDoorW5d
import Derived.Laws.RangeAny
import Derived.Deep.Cut
namespace Go.Proofs.YtlimfajjmhfnaaaDoor
open Go.RowKit

theorem hid_of {p : Prop} (h : p) : Hid p := h
theorem arr_size (l : List UInt8) : (⟨l.toArray⟩ : ByteArray).size = l.length := by simp [ByteArray.size]
theorem arr_get (l : List UInt8) (i : Nat) (h : i < (⟨l.toArray⟩ : ByteArray).size) : (⟨l.toArray⟩ : ByteArray)[i]'h = l[i]'(by rw [arr_size] at h; exact h) := rfl
theorem numOf_snoc (l : List UInt8) (b : UInt8) : numOf (l ++ [b]) = 10 * numOf l + (b.toNat - 48) := by
  unfold numOf
  rw [List.foldl_append]
  rfl
theorem take_snoc {l : List UInt8} {i : Nat} {b : UInt8} (h : l[i]? = some b) : l.take (i + 1) = l.take i ++ [b] := by
  rw [List.take_add_one, h]
  rfl
/-- What code.number answers. -/
def numV (l : List UInt8) : Value := match numP l with
  | some n => .tuple #[.int .i64 (n : Nat), .bool true]
  | none => .tuple #[.int .i64 0, .bool false]
theorem numV_bad {l : List UInt8} {i : Nat} {b : UInt8} (h : l[i]? = some b) (hb : dgB b = false) : numV l = .tuple #[.int .i64 0, .bool false] := by
  unfold numV
  cases hn : numP l with
  | none => rfl
  | some n =>
    have h1 := (numP_some hn).2.2.1 b (List.mem_of_getElem? h)
    rw [hb] at h1
    cases h1

set_option maxHeartbeats 4000000 in
set_option maxRecDepth 100000 in
theorem number_any (l : List UInt8) (w : World) (hl : l.length ≤ 10000) :
    Calls Tryd.prog 56 #[.string ⟨l.toArray⟩] w fun e w' => e = .returned (numV l) ∧ Below w.heap.size w w' := by
  obtain ⟨s, hs⟩ : ∃ s : ByteArray, (⟨l.toArray⟩ : ByteArray) = s := ⟨_, rfl⟩
  have hsz : s.size = l.length := by rw [← hs, arr_size]
  have HS := hid_of hs
  rw [hs]
  clear hs
  by_cases h1 : l.length < 1
  · have hv : numV l = .tuple #[.int .i64 0, .bool false] := by
      unfold numV numP
      rw [if_neg (by omega)]
    rw [hv]
    have hI : (s.size : Int) < 1 := by omega
    clear hv
    go_enter Tryd.func56, Tryd.ntmps56
    go_wp2
    go_ret2
    exact ⟨rfl, Below.refl _ _⟩
  · by_cases h3 : 3 < l.length
    · have hv : numV l = .tuple #[.int .i64 0, .bool false] := by
        unfold numV numP
        rw [if_neg (by omega)]
      rw [hv]
      have hI : ¬ (s.size : Int) < 1 := by omega
      have hI3 : (3 : Int) < (s.size : Int) := by omega
      clear hv
      go_enter Tryd.func56, Tryd.ntmps56
      go_wp2
      go_ret2
      exact ⟨rfl, Below.refl _ _⟩
    · have hI : ¬ (s.size : Int) < 1 := by omega
      have hI3 : ¬ (3 : Int) < (s.size : Int) := by omega
      have HBI : Hid (∀ p, Below w.heap.size w (w.iter s p)) := fun p => (Below.refl w.heap.size w).alloc (Nat.le_refl _) _
      have HE := fun W : World => run_next_end (P := Tryd.prog) W s l.length
      have hz0 : numOf (l.take 0) = 0 := rfl
      have HZ0 : Hid (numOf (l.take 0) = 0 ∧ ∀ b ∈ l.take 0, dgB b = true) := ⟨hz0, fun b hb => by simp at hb⟩
      have HSZ := hid_of hsz
      obtain ⟨n, hn⟩ : ∃ n, l.length = n := ⟨_, rfl⟩
      have HN := hid_of hn
      rw [hn] at hsz h1 h3
      rw [hsz] at hI hI3
      clear hn hz0 HE
      go_enter Tryd.func56, Tryd.ntmps56
      go_wp2
      go_loopw [4] (fun v4 wr => ∃ (pos A : Nat), pos ≤ n ∧ wr = w.iter s pos ∧ v4 = .int .i64 (A : Nat) ∧ (pos = 0 → A = 0) ∧ (pos ≤ 1 → A ≤ 9) ∧ (pos ≤ 2 → A ≤ 99) ∧ A ≤ 999 ∧ Hid (numOf (l.take pos) = A ∧ ∀ b ∈ l.take pos, dgB b = true)) (fun _ wr => n - wr.iterPos w.heap.size)
      case atStart => exact ⟨0, 0, Nat.zero_le _, rfl, rfl, fun _ => rfl, fun _ => by omega, fun _ => by omega, by omega, HZ0⟩
      case round =>
        rename World => wr
        obtain ⟨pos, A, hp, rfl, rfl, a0, a1, a2, a3, HA⟩ := hrel
        by_cases hpn : pos < n
        · have hps : pos < s.size := by rw [hsz]; exact hpn
          have hlp : pos < l.length := by rw [HN.out]; exact hpn
          have hgb : s[pos]'hps = l[pos]'hlp := by
            have := HS.out
            subst this
            rfl
          have hgo : l[pos]? = some (l[pos]'hlp) := List.getElem?_eq_getElem hlp
          obtain ⟨b, hb⟩ : ∃ b, l[pos]'hlp = b := ⟨_, rfl⟩
          rw [hb] at hgb hgo
          have HGO := hid_of hgo
          by_cases hlow : b.toNat < 128
          · have hnx := fun ty => run_next_ascii (P := Tryd.prog) w s pos ty hps (by rw [hgb]; exact hlow)
            rw [hgb] at hnx
            clear hgb hb hgo
            by_cases hd : 48 ≤ b.toNat ∧ b.toNat ≤ 57
            · have hdb : dgB b = true := by unfold dgB; simp; exact hd
              have HNW : Hid (numOf (l.take (pos + 1)) = 10 * A + (b.toNat - 48) ∧ ∀ x ∈ l.take (pos + 1), dgB x = true) := by
                refine ⟨?_, fun x hx => ?_⟩
                · rw [take_snoc HGO.out, numOf_snoc, HA.out.1]
                · rw [take_snoc HGO.out] at hx
                  rcases List.mem_append.1 hx with h | h
                  · exact HA.out.2 x h
                  · rw [List.mem_singleton.1 h]; exact hdb
              obtain ⟨c, hc⟩ : ∃ c, b.toNat = c := ⟨_, rfl⟩
              rw [hc] at hnx hd HNW
              have d1 : ¬ (c : Int) < 48 := by omega
              have d2 : ¬ (57 : Int) < (c : Int) := by omega
              have e1 : IntKind.i64.wrap (10 * (A : Int)) = 10 * (A : Int) := IntWalk.i64_in _ (by omega)
              have e2 : IntKind.i32.wrap ((c : Int) - 48) = (c : Int) - 48 := by simp [IntKind.wrap, IntKind.signed, IntKind.bits]; omega
              have e3 : IntKind.i64.wrap ((c : Int) - 48) = (c : Int) - 48 := IntWalk.i64_in _ (by omega)
              have e4 : IntKind.i64.wrap (10 * (A : Int) + ((c : Int) - 48)) = ((10 * A + (c - 48) : Nat) : Int) := by rw [IntWalk.i64_in _ (by omega)]; omega
              clear hc hdb hlow
              go_wp2
              go_roundw
              case rel => exact ⟨pos + 1, 10 * A + (c - 48), by omega, rfl, by rfl, fun h => by omega, fun h => by omega, fun h => by omega, by omega, HNW⟩
              case measure => simp; omega
            · have hdb : dgB b = false := by unfold dgB; simp; omega
              have HV := hid_of (numV_bad HGO.out hdb)
              obtain ⟨c, hc⟩ : ∃ c, b.toNat = c := ⟨_, rfl⟩
              rw [hc] at hnx hd
              clear hc hdb hlow
              by_cases d1 : (c : Int) < 48
              · go_wp2
                go_ret2
                exact ⟨by rw [HV.out]; rfl, HBI.out _⟩
              · have d2 : (57 : Int) < (c : Int) := by omega
                go_wp2
                go_ret2
                exact ⟨by rw [HV.out]; rfl, HBI.out _⟩
          · have hnx := fun ty => run_next_any (P := Tryd.prog) w s pos ty hps
            have hhi := decode_high s pos hps (by rw [hgb]; omega)
            have hdb : dgB b = false := by unfold dgB; simp; omega
            have HV := hid_of (numV_bad HGO.out hdb)
            obtain ⟨D, hD⟩ : ∃ D, Utf8.decode s pos = D := ⟨_, rfl⟩
            obtain ⟨c, k⟩ := D
            rw [hD] at hnx hhi
            simp only at hnx hhi
            have d1 : ¬ (c : Int) < 48 := by omega
            have d2 : (57 : Int) < (c : Int) := by omega
            clear hgb hb hgo hdb hD
            go_wp2
            go_ret2
            exact ⟨by rw [HV.out]; rfl, HBI.out _⟩
        · obtain rfl : pos = n := by omega
          have hps : ¬ pos < s.size := by rw [hsz]; omega
          have hnx := fun ty => run_next_end (P := Tryd.prog) w s pos ty hps
          have hv : numV l = .tuple #[.int .i64 (A : Nat), .bool true] := by
            have h := HA.out
            rw [List.take_of_length_le (by rw [HN.out]; omega)] at h
            unfold numV
            rw [numP_mk (by rw [HN.out]; omega) (by rw [HN.out]; omega) h.2, h.1]
          have HV := hid_of hv
          clear hv
          go_wp2
          go_ret2
          exact ⟨by rw [HV.out]; rfl, HBI.out _⟩
end Go.Proofs.YtlimfajjmhfnaaaDoor

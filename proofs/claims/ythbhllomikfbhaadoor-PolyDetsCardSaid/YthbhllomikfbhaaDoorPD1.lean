/- The walks of poly.size, knotworkref.abs and poly.small: the sum of the coefficients' sizes. -/
import Derived.Test.YthbhllomikfbhaaDoorPDet
import Derived.Test.YthbhllomikfbhaaDoorPB4
namespace Go.Proofs.YthbhllomikfbhaaDoor.Poly
open Go.RowKit Go.Maps

/-- A number's size. -/
def absI (c : Int) : Int := if c < 0 then -c else c
/-- The sizes of the first k coefficients, together. -/
def sizeTo (l : List (Int × Int)) : Nat → Int
  | 0 => 0
  | k + 1 => sizeTo l k + absI (l.getD k (0, 0)).2
/-- The sizes of all. -/
def sizeL (l : List (Int × Int)) : Int := sizeTo l l.length

theorem sizeTo_le {l : List (Int × Int)} (hm : mayB l = true) (k : Nat) (hk : k ≤ l.length) : 0 ≤ sizeTo l k ∧ sizeTo l k ≤ 1000000 * (k : Int) := by
  induction k with
  | zero => simp [sizeTo]
  | succ k ih =>
    have h := (okB_iff l k).1 (((may_iff l).1 hm).2 k (by omega))
    have := ih (by omega)
    rw [sizeTo]
    unfold absI
    split <;> omega

set_option maxHeartbeats 400000 in
theorem size_any (c : Int) (w : World) (h0 : -1000000 ≤ c) (h1 : c ≤ 1000000) :
    Calls Tryd.prog 43 #[.int .i64 c] w fun e w' => e = .returned (.int .i64 (absI c)) ∧ Below w.heap.size w w' := by
  by_cases hn : c < 0
  · have hw : IntKind.i64.wrap (-c) = -c := IntWalk.i64_in _ (by omega)
    have hd : absI c = -c := if_pos hn
    rw [hd]
    clear hd
    go_enter Tryd.func43, Tryd.ntmps43
    go_wp2
    go_ret
    exact ⟨rfl, Below.refl _ _⟩
  · have hd : absI c = c := if_neg hn
    rw [hd]
    clear hd
    go_enter Tryd.func43, Tryd.ntmps43
    go_wp2
    go_ret
    exact ⟨rfl, Below.refl _ _⟩

set_option maxHeartbeats 400000 in
theorem abs_any (c : Int) (w : World) (h0 : -1000000 ≤ c) (h1 : c ≤ 1000000) :
    Calls Tryd.prog 26 #[.int .i64 c] w fun e w' => e = .returned (.int .i64 (absI c)) ∧ Below w.heap.size w w' := by
  by_cases hn : c < 0
  · have hw : IntKind.i64.wrap (-c) = -c := IntWalk.i64_in _ (by omega)
    have hd : absI c = -c := if_pos hn
    rw [hd]
    clear hd
    go_enter Tryd.func26, Tryd.ntmps26
    go_wp2
    go_ret
    exact ⟨rfl, Below.refl _ _⟩
  · have hd : absI c = c := if_neg hn
    rw [hd]
    clear hd
    go_enter Tryd.func26, Tryd.ntmps26
    go_wp2
    go_ret
    exact ⟨rfl, Below.refl _ _⟩

set_option maxHeartbeats 1000000 in
set_option maxRecDepth 100000 in
theorem small_some (b off cap : Nat) (l : List (Int × Int)) (w : World) (hm : mayB l = true) (hbw : b < w.heap.size) (hT : TermsAt w b off l) :
    Calls Tryd.prog 36 #[.slice (some ⟨b, off, none⟩) l.length cap] w fun e w' => e = .returned (.bool (decide (sizeL l ≤ 100))) ∧ Below w.heap.size w w' := by
  have hl64 := ((may_iff l).1 hm).1
  have HM : Hid (mayB l = true) := hm
  have HT : Hid (TermsAt w b off l) := hT
  clear hm hT
  go_enter Tryd.func36, Tryd.ntmps36
  go_wp2
  go_loopw [3, 8] (fun s i wr => ∃ k : Nat, k ≤ l.length ∧ i = .int .i64 k ∧ s = .int .i64 (sizeTo l k) ∧ Below w.heap.size w wr) (fun _ i _ => l.length - (intOf i).toNat)
  case atStart => exact ⟨0, Nat.zero_le _, rfl, rfl, Below.refl _ _⟩
  case round =>
    obtain ⟨k, hk, rfl, rfl, hb⟩ := hrel
    have hsz := hb.size
    have hbr : b < wr.heap.size := Nat.lt_of_lt_of_le hbw hsz
    by_cases hlt : k < l.length
    · have c0 := bcell hb hbw (HT.out k hlt).1
      have c1 := bcell hb hbw (HT.out k hlt).2
      have hok := (okB_iff l k).1 (((may_iff l).1 HM.out).2 k hlt)
      have hs1 := sizeTo_le HM.out (k + 1) (by omega)
      have HS : Hid (sizeTo l (k + 1) = sizeTo l k + absI (l.getD k (0, 0)).2) := (rfl : sizeTo l (k + 1) = sizeTo l k + absI (l.getD k (0, 0)).2)
      have hs2 : sizeTo l (k + 1) = sizeTo l k + absI (l.getD k (0, 0)).2 := rfl
      generalize he : (l.getD k (0, 0)).1 = e at c0
      generalize hc : (l.getD k (0, 0)).2 = c at c1 hok HS hs2
      have H0 : Hid (-1000000 ≤ c) := hok.2.2.1
      have H1 : Hid (c ≤ 1000000) := hok.2.2.2.1
      have hw1 : IntKind.i64.wrap (sizeTo l k + absI c) = sizeTo l k + absI c := IntWalk.i64_in _ (by omega)
      clear hok he hc hs1 hs2
      generalize sizeTo l k = s at *
      go_wp2_with (go_at_call 43; refine (size_any c _ H0.out H1.out).mono ?_; rintro r w1 ⟨rfl, hb1⟩)
      go_roundw
      case rel => exact ⟨k + 1, by omega, by go_num, by rw [HS.out], (hb.alloc hsz _).trans (hb1.mono (by simp; omega))⟩
      case measure => simp only [intOf]; omega
    · obtain rfl : k = l.length := by omega
      go_wp2
      go_ret
      exact ⟨rfl, hb⟩
end Go.Proofs.YthbhllomikfbhaaDoor.Poly

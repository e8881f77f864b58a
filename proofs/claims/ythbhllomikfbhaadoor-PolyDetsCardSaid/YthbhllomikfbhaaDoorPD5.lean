/- The walk of (poly.work).addProduct at any polynomial that may be handed in. -/
import Derived.Test.YthbhllomikfbhaaDoorPD4
namespace Go.Proofs.YthbhllomikfbhaaDoor.Poly
open Go.RowKit Go.Maps

set_option maxHeartbeats 4000000 in
set_option maxRecDepth 100000 in
theorem addp_none (sg : Int) (bp bq nq cap : Nat) (a : Option Addr) (Dq : DataW Unit) (w : World) (hq : w.ownsMap Tryd.prog 3 (plainElem Tryd.prog 3) bq nq Dq) :
    Calls Tryd.prog 52 #[.map (some bp), .map (some bq), .slice a 0 cap, .int .i64 sg] w fun e w' => e = .returned (.tuple #[]) ∧ w.grownBy w' none := by
  have hlq := hq.lt
  go_enter Tryd.func52, Tryd.ntmps52
  go_wp2_with (first
    | (at_range; refine wpList_range_own _ rfl _ 62 rfl 3 3 law3 Tryd.underlying62 _ bq nq _ rfl hq ?_; intro w0 hrg0 hg0 hs0))
  go_frame
  go_loopw [8, 9, 11] (fun _ _ _ wr => ∃ (left : Lit → Bool) (cnt : Nat), wr.ranges Tryd.prog 3 (plainElem Tryd.prog 3) bq w.heap.size nq Dq left cnt ∧ w.grownBy wr none)
    (fun _ _ _ wr => wr.rangeLeft bq w.heap.size)
  case atStart => exact ⟨_, _, hrg0, hg0⟩
  case round =>
    clear hrg0 hg0 hs0
    rename World => W1
    obtain ⟨left, cnt, hrg, hgr⟩ := hrel
    go_wp2_with (first
      | (at_next; refine wpList_next_ranges_ii _ rfl _ rfl 3 3 .i64 .i64 law3 Tryd.underlying3 Tryd.underlying3 bq w.heap.size nq _ _ _ rfl hrg ?_ ?_)
      | go_in)
    · intro hc0 hl0
      go_wp2
      exact bodyPost_end (v := .tuple #[]) (by simp [results, Tryd.results52, go_sem]) rfl ⟨rfl, hgr⟩
    · intro x c w1 cnt1 hwx hwc hlx hat hrg1 hlt hg1 hs1 hen
      have hgr1 := grown_new hgr hg1 (Nat.le_refl _)
      clear hat hlx hs1 hg1 hgr
      go_wp2
      clear hen
      go_loopw [11, 21] (fun _ i ws => i = .int .i64 0 ∧ ws.ranges Tryd.prog 3 (plainElem Tryd.prog 3) bq w.heap.size nq Dq (fun z => left z && !z.sameKey (.int .i64 x)) cnt1 ∧ w.grownBy ws none) (fun _ _ _ => 0)
      case atStart => exact ⟨rfl, hrg1, hgr1⟩
      case round =>
        rename World => W2
        obtain ⟨rfl, hrq, hgr⟩ := hrel
        go_wp2
        go_roundw
        case rel => exact ⟨_, cnt1, hrq, hgr⟩
        case measure => rw [hrq.left_eq, hrg.left_eq]; exact hlt

theorem not_map {w : World} {bp np b o : Nat} {D : DataW Unit} {v : Value} (hp : w.ownsMap Tryd.prog 3 (plainElem Tryd.prog 3) bp np D) (hc : w.cell? ⟨b, o, none⟩ = some v) : b ≠ bp := by
  rintro rfl
  obtain ⟨es, clock, hw, _⟩ := hp
  simp [World.cell?, hw] at hc

theorem addp_poly (sg : Int) (hsg : sg = 1 ∨ sg = -1) (bp np bq nq : Nat) (Dp Dq : DataW Unit) (v : Value) (l : List (Int × Int)) (w : World) (hp : w.ownsMap Tryd.prog 3 (plainElem Tryd.prog 3) bp np Dp) (hq : w.ownsMap Tryd.prog 3 (plainElem Tryd.prog 3) bq nq Dq) (hpq : bp ≠ bq)
    (hm : mayB l = true) (hS : sizeL l ≤ 100) (hP : Poly w w.heap.size v l) (hnp : np ≤ 1000000000000000) (hnq : nq ≤ 10000000000000) (K N : Int) (hKN : K + 1000 ≤ N) (hN : N ≤ 100000) (hK : 0 ≤ K)
    (hkp : KeysIn Dp N) (hkq : KeysIn Dq K) (hvp : ∀ x, -1000000000000000 ≤ coefOf Dp x ∧ coefOf Dp x ≤ 1000000000000000) (hvq : ∀ x, -2000000000000 ≤ coefOf Dq x ∧ coefOf Dq x ≤ 2000000000000) :
    Calls Tryd.prog 52 #[.map (some bp), .map (some bq), v, .int .i64 sg] w fun e w' => ∃ D : DataW Unit, e = .returned (.tuple #[]) ∧ w'.ownsMap Tryd.prog 3 (plainElem Tryd.prog 3) bp (np + 64 * nq) D ∧
      (∀ y, coefOf D y = coefOf Dp y + sg * prodL l (coefOf Dq) y) ∧ KeysIn D N ∧ w.grownBy w' (some bp) := by
  obtain ⟨a, cap, rfl, g⟩ := hP.slice
  rcases Nat.eq_zero_or_pos l.length with h0 | h0
  · have e0 : l = [] := List.length_eq_zero_iff.1 h0
    subst e0
    refine (addp_none sg bp bq nq cap a Dq w hq).mono ?_
    rintro e w' ⟨rfl, hg⟩
    exact ⟨Dp, rfl, (hp.kept hg (by simp)).mono (by omega), fun y => by simp [prodL], hkp, grown_none hg _⟩
  · obtain ⟨b, off, rfl, hlt, hT⟩ := g h0
    exact addp_some sg hsg bp np bq nq b off cap Dp Dq l w hp hq hpq hm hS hlt (not_map hp (hT 0 h0).1) hT hnp hnq K N hKN hN hK hkp hkq hvp hvq
end Go.Proofs.YthbhllomikfbhaaDoor.Poly

/- The arc on which the other strand goes on; the walk of Drawing.Aside. -/
import Derived.Test.YtajmogojekichaaW3
namespace Go.Proofs.Ytajmogojekichaa
open Go.RowKit

/-- The side by which the other strand leaves, behind the crossing to which arc a leads. -/
def sxS (C : List Cr) (a : Nat) : Nat := if toS C a ≠ 0 then 2 else if (C.getD (toC C a) Cr.none).plus = true then 1 else 3
/-- The arc there. -/
def sx (C : List Cr) (a : Nat) : Nat := ((C.getD (toC C a) Cr.none).arc (sxS C a)).toNat
theorem sxS_lt (C : List Cr) (a : Nat) : sxS C a < 4 := by
  unfold sxS
  split
  · omega
  · split <;> omega
theorem sx_may {C : List Cr} {loops : Int} (hm : mayD C loops = true) (a : Nat) (h1 : 1 ≤ a) (h2 : a ≤ 2 * C.length) : (C.getD (toC C a) Cr.none).arc (sxS C a) = (sx C a : Int) ∧ 1 ≤ sx C a ∧ sx C a ≤ 2 * C.length := by
  obtain ⟨h3, h4, h5, h6, h7⟩ := to_may hm a h1 h2
  have hf := may_fit hm (toC C a) (sxS C a) h4 (sxS_lt C a)
  have g1 := hf.1
  have g2 := hf.2.1
  unfold sx
  omega
theorem sx_closed {C : List Cr} {loops : Int} (hm : mayD C loops = true) : ∀ a, 1 ≤ a → a ≤ 2 * C.length → 1 ≤ sx C a ∧ sx C a ≤ 2 * C.length := fun a h1 h2 => (sx_may hm a h1 h2).2
/-- The circles. -/
def circM (C : List Cr) : List (List Nat) := (walksTo (sx C) (2 * C.length) (2 * C.length)).1

set_option maxHeartbeats 4000000 in
set_option maxRecDepth 100000 in
theorem aside_any (a : Option Addr) (cap : Nat) (C : List Cr) (loops : Int) (gF cF gT cT : Nat) (x : Nat) (w : World) (hm : mayD C loops = true) (h1 : 1 ≤ x) (h2 : x ≤ 2 * C.length) (hD : Dr w a cap C gF gT) :
    Calls Try.prog 104 #[drV a cap C loops gF cF gT cT, .int .i64 x] w fun e w' => e = .returned (.int .i64 (sx C x : Nat)) ∧ Below w.heap.size w w' := by
  obtain ⟨b, off, rfl, hbw, hC⟩ := hD.cross (by omega)
  unfold drV
  have hT := hD.toAt hm x h1 h2
  have c0 := hT.1
  have c1 := hT.2
  have hlt := hD.ltT
  obtain ⟨-, hi, hk, -, -⟩ := to_may hm x h1 h2
  have hov := toS_over hm x h1 h2
  have HSX : Hid ((C.getD (toC C x) Cr.none).arc (if toS C x ≠ 0 then 2 else if (C.getD (toC C x) Cr.none).plus = true then 1 else 3) = (sx C x : Int)) := (sx_may hm x h1 h2).1
  have HC : Hid (CrossAt w b off C) := hC
  clear hT hD hm hC
  generalize toS C x = k at c1 hk HSX hov
  generalize toC C x = i at c0 hi HSX
  generalize sx C x = z at HSX
  have hx : x < 2 * C.length + 1 := by omega
  have hfd := field_dart (z : Int)
  have hx0 : (0 : Int) ≤ (x : Int) := by omega
  have hx9 : (x : Int) < 2 * (C.length : Int) + 1 := by omega
  go_enter Try.func104, Try.ntmps104
  go_wp2_with (go_at_call 156; refine (spotAbove_any i k _ hk).mono ?_; rintro e9 w4 ⟨rfl, hb4⟩; refine Hid.out ?_)
  refine Lib.hid ?_
  have HBX : Hid (Below w.heap.size w ((w.alloc (.cells #[.slice (some ⟨b, off, none⟩) C.length cap, .int .i64 loops, .slice (some ⟨gF, 0, none⟩) (2 * C.length + 1) cF, .slice (some ⟨gT, 0, none⟩) (2 * C.length + 1) cT] 88)).alloc (.cells #[.int .i64 i, .int .i64 k] 154))) := below2 _ _ _
  have HB4 : Hid (Below w.heap.size w w4) := HBX.out.trans (hb4.mono (by simp; omega))
  have HP4 : Hid (w4.heap[w.heap.size]? = some (.cells #[.slice (some ⟨b, off, none⟩) C.length cap, .int .i64 loops, .slice (some ⟨gF, 0, none⟩) (2 * C.length + 1) cF, .slice (some ⟨gT, 0, none⟩) (2 * C.length + 1) cT] 88 (0, 0))) := (hb4.block _ (by simp; omega)).trans (alloc_old (alloc_at rfl))
  have HS4 : Hid (w4.heap[w.heap.size + 1]? = some (.cells #[.int .i64 i, .int .i64 k] 154 (0, 0))) := (hb4.block _ (by simp)).trans (alloc_at (by simp))
  have hs4 : w.heap.size + 2 ≤ w4.heap.size := by have := hb4.size; simpa using this
  have HK : Hid (∀ w', Below w4.heap.size w4 w' → w'.cell? ⟨w.heap.size, 0, none⟩ = some (.slice (some ⟨b, off, none⟩) C.length cap) ∧ w'.cell? ⟨w.heap.size, 1, none⟩ = some (.int .i64 loops) ∧ w'.cell? ⟨w.heap.size, 2, none⟩ = some (.slice (some ⟨gF, 0, none⟩) (2 * C.length + 1) cF) ∧ w'.cell? ⟨w.heap.size, 3, none⟩ = some (.slice (some ⟨gT, 0, none⟩) (2 * C.length + 1) cT) ∧ w'.cell? ⟨w.heap.size + 1, 0, none⟩ = some (.int .i64 i)) := fun w' hb => by
    have g := (hb.block _ (by omega)).trans HP4.out
    have g2 := (hb.block _ (by omega)).trans HS4.out
    exact ⟨block_cell g rfl, block_cell g rfl, block_cell g rfl, block_cell g rfl, block_cell g2 rfl⟩
  have HC4 : Hid (∀ w', Below w4.heap.size w4 w' → CrossAt w' b off C ∧ b < w'.heap.size) := fun w' hb => by
    have hb2 := HB4.out.trans (hb.mono (by omega))
    exact ⟨HC.out.on hb2 hbw, Nat.lt_of_lt_of_le hbw hb2.size⟩
  have HD0 : Hid (Below w4.heap.size w4 w4.drew) := (Below.refl _ _).drew
  clear hb4 c0 c1 HBX
  obtain ⟨t0, t1, t2, t3, t4⟩ := HK.out w4 (Below.refl _ _)
  have hii : (i : Int) < (C.length : Int) := by omega
  obtain ⟨e0, e1, e2, e3, e4⟩ := (HC4.out w4 (Below.refl _ _)).1 i hi
  obtain ⟨c, hc⟩ : ∃ c, C.getD i Cr.none = c := ⟨_, rfl⟩
  rw [hc] at HSX e0 e1 e2 e3 e4
  have HCC : Hid (C.getD i Cr.none = c) := hc
  clear hc
  have hb4 : b < w4.heap.size := (HC4.out w4 (Below.refl _ _)).2
  rcases hov with ⟨rfl, -⟩ | ⟨hk0, hk1⟩
  · rw [if_neg (by omega)] at HSX
    have hdk : decide (0 % 2 = 1) = false := by decide
    rw [hdk]
    obtain ⟨ca, cb, cc, cd, cp⟩ := c
    cases cp with
    | true =>
      have hc1 : (Cr.mk ca cb cc cd true).comes 1 = false := rfl
      have HSX2 : Hid ((Cr.mk ca cb cc cd true).arc 1 = (z : Int)) := HSX.out
      go_wp2_with (first
        | (go_at_call 111; refine (comesIn_any (Cr.mk ca cb cc cd true) 1 _ (by omega)).mono ?_; rw [hc1]; rintro e9 w5 ⟨rfl, hb5⟩; have HB5 : Hid (Below w4.heap.size w4 w5) := hb5; obtain ⟨u0, u1, u2, u3, u4⟩ := HK.out w5 HB5.out; clear hb5)
        | (go_at_call 157; refine (leaving_any b off cap C loops _ _ i 1 _ hi (by omega) (HC4.out _ HB5.out).2 (HC4.out _ HB5.out).1).mono ?_; rw [HCC.out, HSX2.out]; rintro e9 w6 ⟨rfl, hb6⟩; have HL : Hid (Below w4.heap.size w4 w6) := HB5.out.trans (hb6.mono HB5.out.size)))
      go_ret
      exact ⟨rfl, HB4.out.trans (HL.out.mono (by omega))⟩
    | false =>
      have hc1 : (Cr.mk ca cb cc cd false).comes 1 = true := rfl
      have HSX2 : Hid ((Cr.mk ca cb cc cd false).arc 3 = (z : Int)) := HSX.out
      go_wp2_with (first
        | (go_at_call 111; refine (comesIn_any (Cr.mk ca cb cc cd false) 1 _ (by omega)).mono ?_; rw [hc1]; rintro e9 w5 ⟨rfl, hb5⟩; have HB5 : Hid (Below w4.heap.size w4 w5) := hb5; obtain ⟨u0, u1, u2, u3, u4⟩ := HK.out w5 HB5.out; clear hb5)
        | (go_at_call 157; refine (leaving_any b off cap C loops _ _ i 3 _ hi (by omega) (HC4.out _ HB5.out).2 (HC4.out _ HB5.out).1).mono ?_; rw [HCC.out, HSX2.out]; rintro e9 w6 ⟨rfl, hb6⟩; have HL : Hid (Below w4.heap.size w4 w6) := HB5.out.trans (hb6.mono HB5.out.size)))
      go_ret
      exact ⟨rfl, HB4.out.trans (HL.out.mono (by omega))⟩
  · rw [if_pos hk0] at HSX
    rw [decide_eq_true hk1]
    go_wp2_with (go_at_call 157; refine (leaving_any b off cap C loops _ _ i 2 _ hi (by omega) (HC4.out _ (Below.refl _ _)).2 (HC4.out _ (Below.refl _ _)).1).mono ?_; rw [HCC.out, HSX.out]; rintro e9 w5 ⟨rfl, hb5⟩)
    go_ret
    exact ⟨rfl, HB4.out.trans (hb5.mono (by omega))⟩
end Go.Proofs.Ytajmogojekichaa

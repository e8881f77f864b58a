/- The walk of the law knotworkkeep.PolyBack itself: it answers true. -/
import Derived.Test.YthbhllomikfbhaaDoorPR4
import Derived.Test.YthbhllomikfbhaaDoorXG3
import Derived.Test.YthbhllomikfbhaaDoorXR5
import Derived.Lib.Hide
namespace Go.Proofs.YthbhllomikfbhaaDoor.Poly
open Go.RowKit

/-- The polynomial of the document's example. -/
def exP : List (Int × Int) := [(-2, -1), (0, 3), (1, -2), (5, 1)]
theorem ex_may : mayB exP = true := by decide +kernel
theorem ex_text : textL exP = [45, 116, 94, 45, 50, 32, 43, 32, 51, 32, 45, 32, 50, 42, 116, 32, 43, 32, 116, 94, 53] := by decide +kernel
theorem ex_poly (W : World) : Poly (W.alloc (.cells #[.int .i64 (-2), .int .i64 (-1), .int .i64 0, .int .i64 3, .int .i64 1, .int .i64 (-2), .int .i64 5, .int .i64 1] 36)) (W.alloc (.cells #[.int .i64 (-2), .int .i64 (-1), .int .i64 0, .int .i64 3, .int .i64 1, .int .i64 (-2), .int .i64 5, .int .i64 1] 36)).heap.size (.slice (some ⟨W.heap.size, 0, none⟩) 4 4) exP := by
  refine Or.inr (Or.inr ⟨W.heap.size, 0, 4, rfl, by simp, ?_⟩)
  intro i hi
  have hi' : i < 4 := hi
  rcases (by omega : i = 0 ∨ i = 1 ∨ i = 2 ∨ i = 3) with rfl | rfl | rfl | rfl
  · exact ⟨block_at (alloc_at rfl) rfl, block_at (alloc_at rfl) rfl⟩
  · exact ⟨block_at (alloc_at rfl) rfl, block_at (alloc_at rfl) rfl⟩
  · exact ⟨block_at (alloc_at rfl) rfl, block_at (alloc_at rfl) rfl⟩
  · exact ⟨block_at (alloc_at rfl) rfl, block_at (alloc_at rfl) rfl⟩

set_option maxHeartbeats 4000000 in
set_option maxRecDepth 100000 in
theorem polyBack_any (v : Value) (w : World) (hR : Raw w v) (hV : RdVars w) (hT : Tab w) :
    Calls Tryd.prog 7 #[v] w fun e w' => e = .returned (.bool true) ∧ Below w.heap.size w w' := by
  have HS := hid_of (small_raw v w hR)
  have HV : Hid (∀ W, Below w.heap.size w W → RdVars W ∧ Tab W) := fun W hW => ⟨hV.on hW, hT.on hW⟩
  have HEX : Hid (∀ (v9 : Value) (W : World), Poly W W.heap.size v9 exP → Tab W → Calls Tryd.prog 8 #[v9] W fun e w' => e = .returned (.tuple #[.string ⟨#[45, 116, 94, 45, 50, 32, 43, 32, 51, 32, 45, 32, 50, 42, 116, 32, 43, 32, 116, 94, 53]⟩, .int .i64 0]) ∧ Below W.heap.size W w') := fun v9 W h1 h2 => by
    have := text_yes v9 exP W (by unfold maxLen; decide) ex_may h1 h2
    rw [ex_text] at this
    exact this
  clear hR hV hT
  go_enter Tryd.func7, Tryd.ntmps7
  go_wp2_with (go_at_call 15; refine HS.out.mono ?_; rintro e W1 ⟨v1, l, rfl, hp1, hf1, hb1⟩; refine Hid.out ?_)
  refine Lib.hid ?_
  have hm := fine_may hf1 (by decide) (by decide) (by decide)
  have hlen := Fine.len hf1 (by decide)
  have HM := hid_of hm
  have hl1 : l.length ≤ maxLen := by unfold maxLen; omega
  have htl : (textL l).length ≤ 2000 := by
    have h1 := text_len l hm l.length (Nat.le_refl _)
    unfold textL
    split
    · simp
    · omega
  have HTX : Hid (∀ (v9 : Value) (W : World), Poly W W.heap.size v9 l → Tab W → Calls Tryd.prog 8 #[v9] W fun e w' => e = .returned (.tuple #[.string ⟨(textL l).toArray⟩, .int .i64 0]) ∧ Below W.heap.size W w') := fun v9 W h1 h2 => text_yes v9 l W hl1 hm h1 h2
  have HRD : Hid (∀ W, Below w.heap.size w W → Calls Tryd.prog 12 #[.string ⟨(textL l).toArray⟩] W fun e w' => ∃ v, e = .returned (.tuple #[v, .int .i64 0]) ∧ Poly w' w'.heap.size v l ∧ Below W.heap.size W w') := fun W hW => read_yes l W hm htl (HV.out W hW).1 (HV.out W hW).2
  have HSM : Hid (∀ (v1 v2 : Value) (W : World), Poly W W.heap.size v1 l → Poly W W.heap.size v2 l → Calls Tryd.prog 16 #[v1, v2] W fun e w' => e = .returned (.bool true) ∧ Below W.heap.size W w') := fun v1 v2 W h1 h2 => (ksame_poly v1 v2 l l W hl1 h1 h2).mono fun e w' h => by simpa using h
  generalize textL l = s at HTX HRD htl
  have HP1 := hid_of hp1
  clear hm hlen hl1 htl hp1 hf1 HM
  go_wp2_with (go_at_call 8; refine (HTX.out _ _ HP1.out (HV.out _ hb1).2).mono ?_; rintro e W2 ⟨rfl, hb2⟩; refine Hid.out ?_)
  refine Lib.hid ?_
  have HP2 := hid_of ((HP1.out.on hb2).mono hb2.size)
  have hb3 := hb1.trans (hb2.mono hb1.size)
  go_wp2_with (go_at_call 12; refine (HRD.out _ hb3).mono ?_; rintro e W3 ⟨v3, rfl, hp3, hb4⟩; refine Hid.out ?_)
  refine Lib.hid ?_
  have HP3 := hid_of hp3
  have HP4 := hid_of ((HP2.out.on hb4).mono hb4.size)
  have hb5 := hb3.trans (hb4.mono hb3.size)
  have hs5 := hb5.size
  clear hp3
  obtain ⟨W4, hW4⟩ : ∃ W4, W3.alloc (.cells #[.int .i64 (-2), .int .i64 (-1), .int .i64 0, .int .i64 3, .int .i64 1, .int .i64 (-2), .int .i64 5, .int .i64 1] 36) = W4 := ⟨_, rfl⟩
  have HXP := hid_of (ex_poly W3)
  rw [hW4] at HXP
  have hB4 : Below W3.heap.size W3 W4 := by rw [← hW4]; exact (Below.refl _ _).alloc (Nat.le_refl _) _
  have HP5 := hid_of ((HP3.out.on hB4).mono hB4.size)
  have HP6 := hid_of ((HP4.out.on hB4).mono hB4.size)
  have hb6 := hb5.trans (hB4.mono hs5)
  go_wp2_with (go_at_call 8; refine (HEX.out _ _ HXP.out (HV.out _ hb6).2).mono ?_; rintro e W5 ⟨rfl, hb7⟩; refine Hid.out ?_)
  refine Lib.hid ?_
  have HP7 := hid_of ((HP5.out.on hb7).mono hb7.size)
  have HP8 := hid_of ((HP6.out.on hb7).mono hb7.size)
  have hb8 := hb6.trans (hb7.mono hb6.size)
  clear hW4
  go_wp2_with (go_at_call 16; refine (HSM.out _ _ _ HP8.out HP7.out).mono ?_; rintro e W6 ⟨rfl, hb9⟩)
  go_ret
  exact ⟨rfl, hb8.trans (hb9.mono hb8.size)⟩
end Go.Proofs.YthbhllomikfbhaaDoor.Poly

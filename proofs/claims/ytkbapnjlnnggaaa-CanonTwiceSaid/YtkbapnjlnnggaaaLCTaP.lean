/- Several texts of the proof, one behind the other. -/
import Derived.Test.YtkbapnjlnnggaaaA0
import Derived.Test.YtkbapnjlnnggaaaC19
import Derived.Test.YtkbapnjlnnggaaaCyR
import Derived.Test.YtkbapnjlnnggaaaS4P
import Derived.Test.YtkbapnjlnnggaaaI5
import Derived.Test.YtkbapnjlnnggaaaK9
import Derived.BigRegion
/- The statement CanonTwice: its walk. -/
namespace Go.Proofs.Ytkbapnjlnnggaaa
open Go.RowKit

/-- What holds from here on. -/
def Good (w : World) (P : World → Prop) : Prop := ∀ w', Below w.heap.size w w' → P w'
theorem Good.on {w w2 : World} {P : World → Prop} (h : Good w P) (hb : Below w.heap.size w w2) : Good w2 P := fun w' h' => h w' (hb.trans (h'.mono hb.size))
theorem Good.now {w : World} {P : World → Prop} (h : Good w P) : P w := h w (Below.refl _ _)
/-- A diagram in a box. -/
def BoxP (g : Nat) (a : Option Addr) (cap : Nat) (C : List Cr) (l : Int) (w : World) : Prop := Crs w w.heap.size (.slice a C.length cap) C ∧ w.cell? ⟨g, 0, none⟩ = some (.slice a C.length cap) ∧ w.cell? ⟨g, 1, none⟩ = some (.int .i64 l) ∧ g < w.heap.size
theorem boxed {w Y : World} {a : Option Addr} {cap : Nat} {C : List Cr} {l : Int} (hc : Crs w w.heap.size (.slice a C.length cap) C) (hY : Y = w.alloc (.cells #[.slice a C.length cap, .int .i64 l] 24)) : Good Y (BoxP w.heap.size a cap C l) ∧ Below w.heap.size w Y := by
  have hb : Below w.heap.size w Y := by rw [hY]; exact (Below.refl _ _).alloc (Nat.le_refl _) _
  have hT : Y.heap[w.heap.size]? = some (.cells #[.slice a C.length cap, .int .i64 l] 24 (0, 0)) := by rw [hY]; exact alloc_at rfl
  have hs : w.heap.size < Y.heap.size := (Array.getElem?_eq_some_iff.1 hT).1
  refine ⟨fun w' h' => ?_, hb⟩
  have g := (h'.block _ hs).trans hT
  exact ⟨(hc.up hb).up h', block_cell g rfl, block_cell g rfl, (Array.getElem?_eq_some_iff.1 g).1⟩
theorem crs_slice {w : World} {B : Nat} {v : Value} {C : List Cr} (h : Crs w B v C) : ∃ a cap, v = .slice a C.length cap := by obtain ⟨a, cap, e, -, -⟩ := h; exact ⟨a, cap, e⟩

set_option maxHeartbeats 4000000 in
set_option maxRecDepth 100000 in
theorem alike_yes (v1 v2 : Value) (C : List Cr) (loops : Int) (w : World) (hm : mayD C loops = true) (h1 : Crs w w.heap.size v1 C) (h2 : Crs w w.heap.size v2 C) :
    Calls Try.prog 12 #[.agg #[v1, .int .i64 loops], .agg #[v2, .int .i64 loops]] w fun e w' => e = .returned (.bool true) ∧ Below w.heap.size w w' := by
  have HM : Hid (mayD C loops = true) := hm
  obtain ⟨a, cap, rfl⟩ := crs_slice h1
  obtain ⟨a', cap', rfl⟩ := crs_slice h2
  obtain ⟨X, hX⟩ : ∃ X, X = w.alloc (.cells #[.slice a C.length cap, .int .i64 loops] 24) := ⟨_, rfl⟩
  obtain ⟨Y, hY⟩ : ∃ Y, Y = X.alloc (.cells #[.slice a' C.length cap', .int .i64 loops] 24) := ⟨_, rfl⟩
  obtain ⟨g1, b1⟩ := boxed h1 hX
  obtain ⟨g2, b2⟩ := boxed (h2.up b1) hY
  have g1' := g1.on b2
  have hsX : X.heap.size = w.heap.size + 1 := by rw [hX]; simp
  have HX : Hid (Y = (w.alloc (.cells #[.slice a C.length cap, .int .i64 loops] 24)).alloc (.cells #[.slice a' C.length cap', .int .i64 loops] 24)) := (by rw [hY, hX] : Y = (w.alloc (.cells #[.slice a C.length cap, .int .i64 loops] 24)).alloc (.cells #[.slice a' C.length cap', .int .i64 loops] 24))
  have HBW : Hid (Below w.heap.size w Y) := b1.trans (b2.mono b1.size)
  obtain ⟨c1, p0, p1, p2⟩ := g1'.now
  obtain ⟨c2, q0, q1, q2⟩ := g2.now
  have HC1 : Hid (Crs Y Y.heap.size (.slice a C.length cap) C) := c1
  have HC2 : Hid (Crs Y Y.heap.size (.slice a' C.length cap') C) := c2
  rw [hsX] at q0 q1 q2
  rw [HX.out] at p0 p1 p2 q0 q1 q2
  clear hX hY g1 g2 g1' b1 b2 hsX h1 h2 hm c1 c2
  go_enter Try.func12, Try.ntmps12
  go_upto_region 2 with (go_at_call 38; rw [← HX.out]; refine (same_yes _ _ C C loops loops _ HM.out HM.out HC1.out HC2.out).mono ?_; rintro e9 w4 ⟨⟨b, rfl, -, hsame⟩, hb4⟩; obtain ⟨K1, K2, f1, f2, rfl⟩ := hsame rfl; rw [form_two HM.out f1 f2, (sameD_iff 0 0 K2 K2).2 ⟨rfl, rfl, fun j _ => crEq_refl _⟩])
  have H4 : Hid (Below w.heap.size w w4) := HBW.out.trans (hb4.mono HBW.out.size)
  clear hb4 hsame f1 f2
  go_wp2
  go_ret
  exact ⟨rfl, H4.out⟩

set_option maxHeartbeats 4000000 in
set_option maxRecDepth 100000 in
theorem canonTwice_no (v : Value) (C : List Cr) (loops part x y : Int) (w : World) (hm : mayD C loops = false) (h : Crs w w.heap.size v C) :
    Calls Try.prog 3 #[.agg #[v, .int .i64 loops], .int .i64 part, .int .i64 x, .int .i64 y] w fun e w' => e = .returned (.bool true) ∧ Below w.heap.size w w' := by
  have HM : Hid (mayD C loops = false) := hm
  obtain ⟨a, cap, rfl⟩ := crs_slice h
  obtain ⟨X, hX⟩ : ∃ X, X = w.alloc (.cells #[.slice a C.length cap, .int .i64 loops] 24) := ⟨_, rfl⟩
  have HX : Hid (X = w.alloc (.cells #[.slice a C.length cap, .int .i64 loops] 24)) := hX
  obtain ⟨g1, b1⟩ := boxed h hX
  have HG : Hid (Good X (BoxP w.heap.size a cap C loops)) := g1
  have HBW : Hid (Below w.heap.size w X) := b1
  clear hX hm h g1 b1
  go_enter Try.func3, Try.ntmps3
  go_upto_region 3 with (go_at_call 8; rw [← HX.out]; refine (awake_any _).mono ?_; rintro e9 w1 ⟨rfl, hb1⟩)
  have HG1 : Hid (Good w1 (BoxP w.heap.size a cap C loops)) := HG.out.on hb1
  have H1 : Hid (Below w.heap.size w w1) := HBW.out.trans (hb1.mono HBW.out.size)
  clear hb1
  obtain ⟨-, p0, p1, p2⟩ := HG1.out.now
  go_upto_region 4 with (go_at_call 9; refine (codeMay_any _ C loops _ HG1.out.now.1).mono ?_; rw [HM.out]; rintro e9 w2 ⟨rfl, hb2⟩)
  have HG2 : Hid (Good w2 (BoxP w.heap.size a cap C loops)) := HG1.out.on hb2
  have H2 : Hid (Below w.heap.size w w2) := H1.out.trans (hb2.mono H1.out.size)
  clear hb2 p0 p1 p2
  obtain ⟨-, p0, p1, p2⟩ := HG2.out.now
  go_upto_region 5 with (go_at_call 10; refine (mirror_no _ C loops _ HM.out HG2.out.now.1).mono ?_; rintro e9 w3 ⟨rfl, hb3⟩)
  have H3 : Hid (Below w.heap.size w w3) := H2.out.trans (hb3.mono H2.out.size)
  clear hb3 p0 p1 p2
  go_wp2
  go_ret
  exact ⟨rfl, H3.out.alloc H3.out.size _⟩

end Go.Proofs.Ytkbapnjlnnggaaa
/- CanonTwice: a diagram that is stored in a box. -/
namespace Go.Proofs.Ytkbapnjlnnggaaa
open Go.RowKit

theorem crs_set {W W2 : World} {g : Nat} {c d : Value} {v : Value} {T : List Cr} (hT : W.heap[g]? = some (.cells #[c, d] 24 (0, 0))) (hc : Crs W W.heap.size v T) (hg : W.grownBy W2 (some g)) : Crs W2 W2.heap.size v T := by
  obtain ⟨a, cap, e, hl, hr⟩ := hc
  refine ⟨a, cap, e, hl, fun h0 => ?_⟩
  obtain ⟨b, off, e1, hb, hx⟩ := hr h0
  have hne : b ≠ g := fun q => by
    have h5 := (hx 0 h0).2.2.2.2
    rw [q] at h5
    have h6 : W.cell? ⟨g, off + 0 * 5 + 4, none⟩ = none := by simp [World.cell?, hT]
    rw [h6] at h5
    cases h5
  have hk : W2.heap[b]? = W.heap[b]? := hg.block b hb (fun q => hne (Option.some.inj q))
  have hcell : ∀ k, W2.cell? ⟨b, k, none⟩ = W.cell? ⟨b, k, none⟩ := fun k => by simp [World.cell?, hk]
  refine ⟨b, off, e1, ?_, fun i hi => ?_⟩
  · have hb2 : b < W.heap.size := hb
    have : W2.heap[b]? = some W.heap[b] := by rw [hk]; exact Array.getElem?_eq_getElem hb2
    exact (Array.getElem?_eq_some_iff.1 this).1
  · have h := hx i hi
    simp only [hcell]
    exact h
theorem stored {W : World} {g : Nat} {c d : Value} {a : Option Addr} {cap : Nat} {T : List Cr} {l : Int} (hT : W.heap[g]? = some (.cells #[c, d] 24 (0, 0))) (hc : Crs W W.heap.size (.slice a T.length cap) T) : Good ((W.setCell ⟨g, 0, none⟩ (.slice a T.length cap)).setCell ⟨g, 1, none⟩ (.int .i64 l)) (BoxP g a cap T l) := by
  have h2 := st_block (a := .slice a T.length cap) (b := .int .i64 l) hT
  have hc2 := crs_set hT hc (grown_trans (set_grown W g 0 (.slice a T.length cap)) (set_grown (W.setCell ⟨g, 0, none⟩ (.slice a T.length cap)) g 1 (.int .i64 l)))
  intro w' h'
  have k := (h'.block _ (Array.getElem?_eq_some_iff.1 h2).1).trans h2
  exact ⟨hc2.up h', block_cell k rfl, block_cell k rfl, (Array.getElem?_eq_some_iff.1 k).1⟩
theorem sizeB_two {C : List Cr} {x y loops : Int} (h1 : C.length ≤ 8) (h0 : 0 < C.length) (h2 : 0 ≤ loops) (h3 : loops ≤ 8) : sizeB (tieC C C x y) (loops + loops) = true := by
  unfold sizeB
  rw [tie_len, decide_eq_true (show C.length + C.length ≤ 16 by omega), decide_eq_true (show 0 ≤ loops + loops by omega), decide_eq_true (show loops + loops ≤ 16 by omega), decide_eq_false (show ¬ C.length + C.length = 0 by omega)]
  rfl
end Go.Proofs.Ytkbapnjlnnggaaa

/- The walk of sign.Goeritz. -/
import Derived.Test.YtagaajlbkfkaiaaSGa
namespace Go.Proofs.Ytagaajlbkfkaiaa
open Go.RowKit Go.Maps

set_option maxHeartbeats 4000000 in
set_option maxRecDepth 100000 in
theorem goer_range (a : Option Addr) (n cap : Nat) (loops sh : Int) (w : World) (h0 : sh ≠ 0) (h1 : sh ≠ 1) :
    Calls Try.prog 22 #[.agg #[.slice a n cap, .int .i64 loops], .int .i64 sh] w fun e w' => e = .returned (.tuple #[.slice none 0 0, .int .i64 0, .int .i64 3]) ∧ Below w.heap.size w w' := by
  have e0 : (sh != 0) = true := by simpa using h0
  have e1 : (sh != 1) = true := by simpa using h1
  clear h0 h1
  go_enter Try.func22, Try.ntmps22
  go_wp2
  exact bodyPost_ret (v := .tuple #[.slice none 0 0, .int .i64 0, .int .i64 3]) (by simp [results, Try.results22, go_sem]) rfl ⟨rfl, (Below.refl _ _).alloc (Nat.le_refl _) _⟩

set_option maxHeartbeats 4000000 in
set_option maxRecDepth 100000 in
theorem goer_no (v : Value) (C : List Cr) (loops : Int) (sh : Nat) (w : World) (hsh : sh < 2) (hr : oneN C loops ≠ 0) (h : Crs w w.heap.size v C) :
    Calls Try.prog 22 #[.agg #[v, .int .i64 loops], .int .i64 (sh : Nat)] w fun e w' => e = .returned (.tuple #[.slice none 0 0, .int .i64 0, .int .i64 (oneN C loops)]) ∧ Below w.heap.size w w' := by
  obtain ⟨a, cap, rfl, hn, hx⟩ := h
  have HC : Hid (Crs w w.heap.size (.slice a C.length cap) C) := ⟨a, cap, rfl, hn, hx⟩
  have hK := fun W (hW : Crs W W.heap.size (.slice a C.length cap) C) => chart_bad (.slice a C.length cap) C loops W hr hW
  unfold noChart at hK
  have HK := hidS hK
  generalize oneN C loops = r at HK hr
  have hr0 : (r != 0) = true := by simpa using hr
  have HB1 := hidS ((Below.refl w.heap.size w).alloc (Nat.le_refl _) (.cells #[.slice a C.length cap, .int .i64 loops] 24))
  clear hK hx hr
  have : sh = 0 ∨ sh = 1 := by omega
  rcases this with rfl | rfl
  all_goals
    go_enter Try.func22, Try.ntmps22
    go_wp2_with (go_at_call 53; refine (HK.out _ (HC.out.up HB1.out)).mono ?_; rintro e9 w2 ⟨rfl, hb2⟩; have HB2 := hidS (HB1.out.trans (hb2.mono (by simp))); clear hb2)
    exact bodyPost_ret (v := .tuple #[.slice none 0 0, .int .i64 0, .int .i64 r]) (by simp [results, Try.results22, go_sem]) rfl ⟨rfl, HB2.out.alloc HB2.out.size _⟩

set_option maxHeartbeats 4000000 in
set_option maxRecDepth 100000 in
theorem goer_yes (v : Value) (C : List Cr) (loops : Int) (s : Nat → Nat) (sh : Nat) (w : World) (hsh : sh < 2) (hm : mayD C loops = true) (hp : planarB C = true) (ho : oneB C loops = true) (hs : Shd C s) (h : Crs w w.heap.size v C) :
    Calls Try.prog 22 #[.agg #[v, .int .i64 loops], .int .i64 (sh : Nat)] w fun e w' => ∃ gt gs, e = .returned (.tuple #[.slice (some ⟨gt, 0, none⟩) (cnS s sh (facesM C).length) (cnS s sh (facesM C).length), .int .i64 (goF C s sh C.length), .int .i64 0]) ∧ TabAt w.heap.size gt (cnS s sh (facesM C).length) gs (cnS s sh (facesM C).length) (goT C s sh C.length) w' ∧ Below w.heap.size w w' := by
  obtain ⟨a0, cap0, rfl, hn, hx⟩ := h
  have HC : Hid (Crs w w.heap.size (.slice a0 C.length cap0) C) := ⟨a0, cap0, rfl, hn, hx⟩
  have hK := fun W (hW : Crs W W.heap.size (.slice a0 C.length cap0) C) => chart_yes (.slice a0 C.length cap0) C loops s W hm hp ho hs hW
  have hG := fun a cap gF cF gT cT gM gS W (hW : Ch W a cap C gF gT gM gS (shL s (facesM C).length)) => goeritz_any a cap C loops gF cF gT cT gM gS s sh W hm hp ho hs hsh hW
  unfold chV at hK hG
  obtain ⟨F, hF⟩ : ∃ F, (facesM C).length = F := ⟨_, rfl⟩
  rw [hF] at hK hG ⊢
  obtain ⟨m, hmm⟩ : ∃ m, cnS s sh F = m := ⟨_, rfl⟩
  rw [hmm] at hG ⊢
  obtain ⟨fx, hfx⟩ : ∃ fx, goF C s sh C.length = fx := ⟨_, rfl⟩
  rw [hfx] at hG ⊢
  have HK := hidS hK
  have HG := hidS hG
  have HB1 := hidS ((Below.refl w.heap.size w).alloc (Nat.le_refl _) (.cells #[.slice a0 C.length cap0, .int .i64 loops] 24))
  have e0 : ((sh : Int) != 0) = true ∧ ((sh : Int) != 1) = false ∨ ((sh : Int) != 0) = false := by
    have : sh = 0 ∨ sh = 1 := by omega
    rcases this with rfl | rfl
    · exact Or.inr rfl
    · exact Or.inl ⟨rfl, rfl⟩
  clear hK hG hx hF hmm hfx
  rcases e0 with ⟨e0, e1⟩ | e0
  all_goals
    go_enter Try.func22, Try.ntmps22
    go_upto_region 6 with (go_at_call 53; refine (HK.out _ (HC.out.up HB1.out)).mono ?_; rintro e9 w2 ⟨a, cap, gF, cF, gT, cT, gM, gS, rfl, hch, -, -, hb2⟩
                           have HB2 := hidS (HB1.out.trans (hb2.mono (by simp)))
                           have HCH := hidS hch
                           clear hb2 hch)
    obtain ⟨X, hX⟩ : ∃ X, w2.alloc (.cells #[.slice a C.length cap, .int .i64 loops, .slice (some ⟨gF, 0, none⟩) (2 * C.length + 1) cF, .slice (some ⟨gT, 0, none⟩) (2 * C.length + 1) cT, .map (some gM), .slice (some ⟨gS, 0, none⟩) F F] 89) = X := ⟨_, rfl⟩
    have hbX : Below w2.heap.size w2 X := by rw [← hX]; exact (Below.refl _ _).alloc (Nat.le_refl _) _
    have kX : X.heap[w2.heap.size]? = some (.cells #[.slice a C.length cap, .int .i64 loops, .slice (some ⟨gF, 0, none⟩) (2 * C.length + 1) cF, .slice (some ⟨gT, 0, none⟩) (2 * C.length + 1) cT, .map (some gM), .slice (some ⟨gS, 0, none⟩) F F] 89 (0, 0)) := by rw [← hX]; exact alloc_at rfl
    have x0 : X.cell? ⟨w2.heap.size, 0, none⟩ = some (.slice a C.length cap) := block_cell kX rfl
    have x1 : X.cell? ⟨w2.heap.size, 1, none⟩ = some (.int .i64 loops) := block_cell kX rfl
    have x2 : X.cell? ⟨w2.heap.size, 2, none⟩ = some (.slice (some ⟨gF, 0, none⟩) (2 * C.length + 1) cF) := block_cell kX rfl
    have x3 : X.cell? ⟨w2.heap.size, 3, none⟩ = some (.slice (some ⟨gT, 0, none⟩) (2 * C.length + 1) cT) := block_cell kX rfl
    have x4 : X.cell? ⟨w2.heap.size, 4, none⟩ = some (.map (some gM)) := block_cell kX rfl
    have x5 : X.cell? ⟨w2.heap.size, 5, none⟩ = some (.slice (some ⟨gS, 0, none⟩) F F) := block_cell kX rfl
    have lX : w2.heap.size < X.heap.size := (Array.getElem?_eq_some_iff.1 kX).1
    have HBX := hidS (HB2.out.trans (hbX.mono HB2.out.size))
    have HCX := hidS (HCH.out.on hbX)
    have sX := HBX.out.size
    rw [hX]
    clear hX hbX kX
    go_wp2_with (go_at_call 54; refine (HG.out _ _ _ _ _ _ _ _ _ HCX.out).mono ?_; rintro e9 w3 ⟨gt, gs, rfl, ht3, hb3⟩; have HT3 := hidS ht3; have HB3 := hidS hb3; clear ht3 hb3)
    exact bodyPost_ret (v := .tuple #[.slice (some ⟨gt, 0, none⟩) m m, .int .i64 fx, .int .i64 0]) (by simp [results, Try.results22, go_sem]) rfl ⟨gt, gs, rfl, ⟨own_low HT3.out.outer sX, fun q hq => own_low (HT3.out.rows q hq) sX, HT3.out.inj⟩, HBX.out.trans (HB3.out.mono sX)⟩
end Go.Proofs.Ytagaajlbkfkaiaa

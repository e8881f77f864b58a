/- The walks of sign.Shades and sign.Goeritz. -/
import Derived.Test.YtagaajlbkfkaiaaSG9
namespace Go.Proofs.Ytagaajlbkfkaiaa
open Go.RowKit Go.Maps

theorem own_raise {w : World} {B e s n g c : Nat} {xs : List Value} (h : w.ownsRow 0 e s (.slice (some ⟨g, 0, none⟩) n c) n xs) (hB : B ≤ g) : w.ownsRow B e s (.slice (some ⟨g, 0, none⟩) n c) n xs := by
  obtain ⟨h1, h2⟩ := h
  refine ⟨h1, ?_⟩
  rcases h2 with ⟨h3, h4⟩ | ⟨g', cap, cur, hv, hb, rest⟩
  · exact Or.inl ⟨h3, h4⟩
  · have e : g = g' := by injection hv with e1; injection e1 with e2; injection e2
    exact Or.inr ⟨g', cap, cur, hv, by omega, rest⟩
/-- What is wrong with a diagram whose faces are to be shaded: 0, nothing. -/
def oneN (C : List Cr) (loops : Int) : Int := if noN C loops ≠ 0 then noN C loops else if oneB C loops = true then 0 else 6
theorem chart_bad (v : Value) (C : List Cr) (loops : Int) (w : World) (hr : oneN C loops ≠ 0) (h : Crs w w.heap.size v C) :
    Calls Try.prog 53 #[.agg #[v, .int .i64 loops]] w fun e w' => e = .returned (.tuple #[noChart, .int .i64 (oneN C loops)]) ∧ Below w.heap.size w w' := by
  refine chart_no v C loops _ w hr h (fun W hW => ?_)
  by_cases hn : noN C loops ≠ 0
  · have e : oneN C loops = noN C loops := by unfold oneN; rw [if_pos hn]
    rw [e]
    exact single_no faceRingsS v C loops W hn hW
  · have hn0 : noN C loops = 0 := Decidable.not_not.1 hn
    have hb : oneB C loops = false := by
      cases hb : oneB C loops with
      | false => rfl
      | true => exact absurd (by unfold oneN; rw [if_neg hn, if_pos hb]) hr
    have e : oneN C loops = 6 := by unfold oneN; rw [if_neg hn, hb]; rfl
    rw [e]
    have h6 := single_some faceRingsS v C loops W hn0 hW
    rw [hb] at h6
    exact h6
theorem oneN_zero {C : List Cr} {loops : Int} (h : oneN C loops = 0) : mayD C loops = true ∧ planarB C = true ∧ oneB C loops = true := by
  unfold oneN at h
  by_cases hn : noN C loops ≠ 0
  · rw [if_pos hn] at h; exact absurd h hn
  · rw [if_neg hn] at h
    obtain ⟨h1, h2⟩ := noN_zero (Decidable.not_not.1 hn)
    refine ⟨h1, h2, ?_⟩
    cases hb : oneB C loops with
    | true => rfl
    | false => rw [hb] at h; simp at h

set_option maxHeartbeats 4000000 in
set_option maxRecDepth 100000 in
theorem shades_no (v : Value) (C : List Cr) (loops : Int) (w : World) (hr : oneN C loops ≠ 0) (h : Crs w w.heap.size v C) :
    Calls Try.prog 21 #[.agg #[v, .int .i64 loops]] w fun e w' => e = .returned (.tuple #[.slice none 0 0, .int .i64 (oneN C loops)]) ∧ Below w.heap.size w w' := by
  obtain ⟨a, cap, rfl, hn, hx⟩ := h
  have HC : Hid (Crs w w.heap.size (.slice a C.length cap) C) := ⟨a, cap, rfl, hn, hx⟩
  have hK := fun W (hW : Crs W W.heap.size (.slice a C.length cap) C) => chart_bad (.slice a C.length cap) C loops W hr hW
  unfold noChart at hK
  have HK := hidS hK
  generalize oneN C loops = r at HK
  have HB1 := hidS ((Below.refl w.heap.size w).alloc (Nat.le_refl _) (.cells #[.slice a C.length cap, .int .i64 loops] 24))
  clear hK hx hr
  go_enter Try.func21, Try.ntmps21
  go_wp2_with (go_at_call 53; refine (HK.out _ (HC.out.up HB1.out)).mono ?_; rintro e9 w2 ⟨rfl, hb2⟩; have HB2 := hidS (HB1.out.trans (hb2.mono (by simp))); clear hb2)
  refine bodyPost_ret (v := .tuple #[.slice none 0 0, .int .i64 r]) (by simp [results, Try.results21, go_sem]) rfl ⟨rfl, HB2.out.alloc HB2.out.size _⟩

set_option maxHeartbeats 4000000 in
set_option maxRecDepth 100000 in
theorem shades_yes (v : Value) (C : List Cr) (loops : Int) (s : Nat → Nat) (w : World) (hm : mayD C loops = true) (hp : planarB C = true) (ho : oneB C loops = true) (hs : Shd C s) (h : Crs w w.heap.size v C) :
    Calls Try.prog 21 #[.agg #[v, .int .i64 loops]] w fun e w' => ∃ gS, e = .returned (.tuple #[.slice (some ⟨gS, 0, none⟩) (facesM C).length (facesM C).length, .int .i64 0]) ∧ w'.ownsRow w.heap.size 3 1 (.slice (some ⟨gS, 0, none⟩) (facesM C).length (facesM C).length) (facesM C).length (intsV (shL s (facesM C).length)) ∧ Below w.heap.size w w' := by
  obtain ⟨a0, cap0, rfl, hn, hx⟩ := h
  have HC : Hid (Crs w w.heap.size (.slice a0 C.length cap0) C) := ⟨a0, cap0, rfl, hn, hx⟩
  have hK := fun W (hW : Crs W W.heap.size (.slice a0 C.length cap0) C) => chart_yes (.slice a0 C.length cap0) C loops s W hm hp ho hs hW
  unfold chV at hK
  obtain ⟨F, hF⟩ : ∃ F, (facesM C).length = F := ⟨_, rfl⟩
  have HF := hidS hF
  rw [hF] at hK ⊢
  have HK := hidS hK
  have HB1 := hidS ((Below.refl w.heap.size w).alloc (Nat.le_refl _) (.cells #[.slice a0 C.length cap0, .int .i64 loops] 24))
  clear hK hx hF
  go_enter Try.func21, Try.ntmps21
  go_wp2_with (go_at_call 53; refine (HK.out _ (HC.out.up HB1.out)).mono ?_; rintro e9 w2 ⟨a, cap, gF, cF, gT, cT, gM, gS, rfl, hch, hgs, -, hb2⟩
               have HB2 := hidS (HB1.out.trans (hb2.mono (by simp)))
               have HCH := hidS hch.sh
               have HGS : Hid (w.heap.size ≤ gS) := (by simp at hgs; omega : w.heap.size ≤ gS)
               clear hb2 hch hgs)
  refine bodyPost_ret (v := .tuple #[.slice (some ⟨gS, 0, none⟩) F F, .int .i64 0]) (by simp [results, Try.results21, go_sem]) rfl ⟨gS, rfl, ?_, HB2.out.alloc HB2.out.size _⟩
  have h1 := HCH.out
  rw [HF.out] at h1
  exact own_raise (h1.alloc _) HGS.out
end Go.Proofs.Ytagaajlbkfkaiaa

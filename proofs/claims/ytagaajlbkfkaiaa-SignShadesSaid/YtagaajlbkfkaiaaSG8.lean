/- The walk of sign.square; Goeritz's table as it grows. -/
import Derived.Test.YtagaajlbkfkaiaaSG7
namespace Go.Proofs.Ytagaajlbkfkaiaa
open Go.RowKit Go.Maps

set_option maxHeartbeats 8000000 in
set_option maxRecDepth 100000 in
theorem square_any (m : Nat) (w : World) (hm : m ≤ 100) :
    Calls Try.prog 84 #[.int .i64 (m : Nat)] w fun e w' => ∃ gt gs, e = .returned (.slice (some ⟨gt, 0, none⟩) m m) ∧ TabAt w.heap.size gt m gs m (fun _ _ => 0) w' ∧ Below w.heap.size w w' := by
  obtain ⟨i0, hi, hz0, hz1, hz2⟩ := info_parts infoIntS
  obtain ⟨i1, hj, hy0, hy1, hy2⟩ := info_parts infoInts
  go_enter Try.func84, Try.ntmps84
  go_wp2_with (first | (at_make; refine wpList_make_full _ rfl _ _ 49 rfl w.heap.size 46 i1 (.slice none 0 0) 1 Try.underlying49 hj hy0 hy1 .i64 .i64 _ _ m rfl rfl rfl rfl (by rw [hy2]; omega) (by unfold maxLen; omega) (by simp) ?_; intro w2 hrow2 hg2; refine Hid.out ?_))
  refine Lib.hid ?_
  rw [made_nils] at hrow2
  obtain ⟨gt, hgt⟩ : ∃ gt, w.heap.size = gt := ⟨_, rfl⟩
  have HT2 : Hid (TabAt w.heap.size gt m (fun _ => 0) 0 (fun _ _ => 0) w2) := ⟨by rw [← hgt]; exact hrow2, fun i hi => absurd hi (Nat.not_lt_zero _), fun i j hi => absurd hi (Nat.not_lt_zero _)⟩
  have HB2 := hidS ((Below.refl w.heap.size w).grown hg2 (Nat.le_refl _) (fun k hk => by cases hk))
  have HGT := hidS hgt
  have hgt2 : w.heap.size ≤ gt := by omega
  rw [hgt]
  clear hrow2 hg2 hgt
  go_wp2
  go_loopw [9] (fun v9 wr => ∃ (i : Nat) (gs : Nat → Nat), i ≤ m ∧ v9 = .int .i64 (i : Nat) ∧ Hid (TabAt w.heap.size gt m gs i (fun _ _ => 0) wr) ∧ Hid (Below w.heap.size w wr)) (fun v9 _ => m - (intOf v9).toNat)
  case atStart => exact ⟨0, fun _ => 0, Nat.zero_le _, rfl, HT2.out, HB2.out⟩
  case round =>
    clear HT2 HB2
    rename World => W1
    obtain ⟨i, gs, hin, rfl, htab, hbW⟩ := hrel
    have hsW := hbW.out.size
    by_cases hil : i < m
    · have hii : (i : Int) < (m : Int) := by omega
      go_wp2_with (first | (at_make; refine wpList_make_full _ rfl _ _ 46 rfl w.heap.size 3 i0 (.int .i64 0) 1 Try.underlying46 hi hz0 hz1 .i64 .i64 _ _ m rfl rfl rfl rfl (by rw [hz2]; omega) (by unfold maxLen; omega) (by omega) ?_; intro w4 hrow4 hg4; refine Hid.out ?_))
      refine Lib.hid ?_
      obtain ⟨g, hg⟩ : ∃ g, W1.heap.size = g := ⟨_, rfl⟩
      rw [made_zero, hg] at hrow4
      rw [hg]
      have hmore := htab.out.more hg4 (by rw [mapI_zero m (fun _ => 0) (fun _ _ => rfl)]; exact hrow4) (by omega)
      have HMO : Hid (TabAt w.heap.size gt m (fun j => if j = i then g else gs j) (i + 1) (fun _ _ => 0) (w4.setCell ⟨gt, i, none⟩ (.slice (some ⟨g, 0, none⟩) m m))) := hmore.1
      have ho4 := own_any htab.out.outer hg4
      have e0 := ho4.cellAt i (by omega)
      rw [outC0_get m gs i i hil, if_neg (by omega)] at e0
      have z0 := ho4.frozenAt i
      have hl4 := (ho4.lt gt rfl).2
      have HBN : Hid (Below w.heap.size w (w4.setCell ⟨gt, i, none⟩ (.slice (some ⟨g, 0, none⟩) m m))) := (hbW.out.grown hg4 hsW (fun k hk => by cases hk)).grown hmore.2 (Nat.le_trans hsW hg4.size) (fun k hk => by have : gt = k := Option.some.inj hk; omega)
      clear hrow4 hg4 hmore ho4 hg
      go_wp2
      go_roundw
      all_goals first
        | (simp only [intOf]; omega)
        | exact ⟨i + 1, _, by omega, by go_num, HMO.out, HBN.out⟩
    · obtain rfl : i = m := by omega
      have HTB := hidS htab.out
      have HBB := hidS hbW.out
      clear htab hbW
      go_wp2
      go_ret
      exact ⟨gt, gs, rfl, HTB.out, HBB.out⟩

def up1 (T : Nat → Nat → Int) (i j : Nat) (x : Int) : Nat → Nat → Int := fun a b => if a = i ∧ b = j then x else T a b
/-- What a crossing adds to the table. -/
def goA (T : Nat → Nat → Int) (i j : Nat) (v : Int) : Nat → Nat → Int := up1 T i j (T i j - v)
def goB (T : Nat → Nat → Int) (i j : Nat) (v : Int) : Nat → Nat → Int := up1 (goA T i j v) j i (goA T i j v j i - v)
def goC (T : Nat → Nat → Int) (i j : Nat) (v : Int) : Nat → Nat → Int := up1 (goB T i j v) i i (goB T i j v i i + v)
def goD (T : Nat → Nat → Int) (i j : Nat) (v : Int) : Nat → Nat → Int := up1 (goC T i j v) j j (goC T i j v j j + v)
def goS (T : Nat → Nat → Int) (i j : Nat) (v : Int) : Nat → Nat → Int := if i = j then T else goD T i j v
/-- The table behind c crossings, and the correction. -/
def goT (C : List Cr) (s : Nat → Nat) (sh : Nat) : Nat → Nat → Nat → Int
  | 0 => fun _ _ => 0
  | c + 1 => goS (goT C s sh c) (cnS s sh (woM C s c sh).2.1) (cnS s sh (woM C s c sh).2.2) (woM C s c sh).1
def goF (C : List Cr) (s : Nat → Nat) (sh : Nat) : Nat → Int
  | 0 => 0
  | c + 1 => goF C s sh c + (if (C.getD c Cr.none).plus = decide ((woM C s c sh).1 < 0) then (woM C s c sh).1 else 0)
theorem up1_le {T : Nat → Nat → Int} {i j : Nat} {x B : Int} (h : ∀ a b, -B ≤ T a b ∧ T a b ≤ B) (hx : -B - 1 ≤ x ∧ x ≤ B + 1) : ∀ a b, -(B + 1) ≤ up1 T i j x a b ∧ up1 T i j x a b ≤ B + 1 := fun a b => by
  unfold up1
  have := h a b
  split <;> omega
theorem woM_one (C : List Cr) (s : Nat → Nat) (c sh : Nat) : (woM C s c sh).1 = 1 ∨ (woM C s c sh).1 = -1 := by
  unfold woM
  split
  · exact Or.inl rfl
  · exact Or.inr rfl
theorem goD_le {T : Nat → Nat → Int} {i j : Nat} {v B : Int} (h : ∀ a b, -B ≤ T a b ∧ T a b ≤ B) (hv : v = 1 ∨ v = -1) : (∀ a b, -(B + 1) ≤ goA T i j v a b ∧ goA T i j v a b ≤ B + 1) ∧ (∀ a b, -(B + 2) ≤ goB T i j v a b ∧ goB T i j v a b ≤ B + 2) ∧ (∀ a b, -(B + 3) ≤ goC T i j v a b ∧ goC T i j v a b ≤ B + 3) ∧ (∀ a b, -(B + 4) ≤ goD T i j v a b ∧ goD T i j v a b ≤ B + 4) := by
  have h1 : ∀ a b, -(B + 1) ≤ goA T i j v a b ∧ goA T i j v a b ≤ B + 1 := up1_le h (by have := h i j; omega)
  have h2 : ∀ a b, -(B + 1 + 1) ≤ goB T i j v a b ∧ goB T i j v a b ≤ B + 1 + 1 := up1_le h1 (by have := h1 j i; omega)
  have h3 : ∀ a b, -(B + 1 + 1 + 1) ≤ goC T i j v a b ∧ goC T i j v a b ≤ B + 1 + 1 + 1 := up1_le h2 (by have := h2 i i; omega)
  have h4 : ∀ a b, -(B + 1 + 1 + 1 + 1) ≤ goD T i j v a b ∧ goD T i j v a b ≤ B + 1 + 1 + 1 + 1 := up1_le h3 (by have := h3 j j; omega)
  exact ⟨h1, fun a b => by have := h2 a b; omega, fun a b => by have := h3 a b; omega, fun a b => by have := h4 a b; omega⟩
theorem goT_le (C : List Cr) (s : Nat → Nat) (sh : Nat) : ∀ (c a b : Nat), -(4 * (c : Int)) ≤ goT C s sh c a b ∧ goT C s sh c a b ≤ 4 * (c : Int)
  | 0, a, b => by simp [goT]
  | c + 1, a, b => by
    have ih := goT_le C s sh c
    have h := (goD_le (i := cnS s sh (woM C s c sh).2.1) (j := cnS s sh (woM C s c sh).2.2) ih (woM_one C s c sh)).2.2.2 a b
    show _ ≤ goS _ _ _ _ a b ∧ goS _ _ _ _ a b ≤ _
    unfold goS
    have i2 := ih a b
    split
    · omega
    · omega
theorem goF_le (C : List Cr) (s : Nat → Nat) (sh : Nat) : ∀ c : Nat, -(c : Int) ≤ goF C s sh c ∧ goF C s sh c ≤ (c : Int)
  | 0 => by simp [goF]
  | c + 1 => by
    have ih := goF_le C s sh c
    have h := woM_one C s c sh
    show _ ≤ goF C s sh c + _ ∧ goF C s sh c + _ ≤ _
    split <;> omega
/-- Across a crossing's arcs the shade changes. -/
theorem cor_turn {C : List Cr} {loops : Int} {s : Nat → Nat} (hm : mayD C loops = true) (hs : Shd C s) (c t : Nat) (hc : c < C.length) (ht : t < 4) : s (cor C c ((t + 3) % 4)) = 1 - s (cor C c t) := by
  have h := en_side hm c t hc ht
  have u := mk_le (p := (C.getD c Cr.none).comes t) h.2.2.1 h.2.2.2
  have hb := cor_back hm c t hc ht
  have ha := hs.arc _ u.1 u.2
  have e : tn (mkD (aAt C c t) ((C.getD c Cr.none).comes t)) = mkD (aAt C c t) (!(C.getD c Cr.none).comes t) := by
    unfold tn
    rw [dA_mk h.2.2.1, dB_mk h.2.2.1]
  rw [e, hb] at ha
  exact ha
theorem wo_shade {C : List Cr} {loops : Int} {s : Nat → Nat} (hm : mayD C loops = true) (hs : Shd C s) (c sh : Nat) (hc : c < C.length) (hsh : sh < 2) : s (woM C s c sh).2.1 = sh ∧ s (woM C s c sh).2.2 = sh ∧ (woM C s c sh).2.1 < (facesM C).length ∧ (woM C s c sh).2.2 < (facesM C).length := by
  have t1 := cor_turn hm hs c 1 hc (by decide)
  have t2 := cor_turn hm hs c 2 hc (by decide)
  have t3 := cor_turn hm hs c 3 hc (by decide)
  simp only [Nat.reduceAdd, Nat.reduceMod] at t1 t2 t3
  have a0 := hs.two (cor C c 0)
  have a1 := hs.two (cor C c 1)
  have a2 := hs.two (cor C c 2)
  have a3 := hs.two (cor C c 3)
  have l0 := cor_lt hm c 0 hc (by decide)
  have l1 := cor_lt hm c 1 hc (by decide)
  have l2 := cor_lt hm c 2 hc (by decide)
  have l3 := cor_lt hm c 3 hc (by decide)
  unfold woM
  split
  · exact ⟨by assumption, by simp only; omega, l1, l3⟩
  · exact ⟨by simp only; omega, by simp only; omega, l0, l2⟩
end Go.Proofs.Ytagaajlbkfkaiaa

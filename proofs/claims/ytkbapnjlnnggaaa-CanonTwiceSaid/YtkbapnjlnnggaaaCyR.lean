/- Plain mathematics: a diagram with a part reversed: it may be, its parts are those of before, and reversed twice it is what it was. -/
import Derived.Test.YtkbapnjlnnggaaaCySP
import Derived.Test.YtkbapnjlnnggaaaK5
namespace Go.Proofs.Ytkbapnjlnnggaaa

theorem getD_in {L : List (List Nat)} {i : Nat} (h : i < L.length) : L.getD i [] ∈ L := by
  rw [List.getD_eq_getElem?_getD, List.getElem?_eq_getElem h]
  exact List.getElem_mem h
section
variable {f : Nat → Nat} {n : Nat} (hf : ∀ a, 1 ≤ a → a ≤ n → 1 ≤ f a ∧ f a ≤ n) (hi : ∀ a b, 1 ≤ a → a ≤ n → 1 ≤ b → b ≤ n → f a = f b → a = b)
include hf hi
theorem ring_iff {l : List Nat} (hl : l ∈ (walksTo f n n).1) {y : Nat} (h1 : 1 ≤ y) (h2 : y ≤ n) : f y ∈ l ↔ y ∈ l := by
  obtain ⟨r1, -, r3⟩ := rings_closed hf hi n (Nat.le_refl _)
  have hm := (walksTo_mem hf n (Nat.le_refl _) l hl).2.2
  refine ⟨fun h => ?_, r1 l hl y⟩
  obtain ⟨i, hil, e⟩ := mem_atZ h
  cases i with
  | zero =>
    have hlast := at_mem (l := l) (i := l.length - 1) (by omega)
    have hb := hm _ hlast
    have := hi y _ h1 h2 hb.1 hb.2 (by rw [(r3 l hl).2, e])
    rw [this]; exact hlast
  | succ i =>
    have hx := at_mem (l := l) (i := i) (by omega)
    have hb := hm _ hx
    have := hi y _ h1 h2 hb.1 hb.2 (by rw [← (r3 l hl).1 i hil, e])
    rw [this]; exact hx
theorem walk_mem {l : List Nat} (hl : l ∈ (walksTo f n n).1) (y : Nat) : y ∈ l ↔ 1 ≤ y ∧ y ≤ n ∧ Con (eds (up0 f) (n + 1)) (l.getD 0 0) y := by
  obtain ⟨-, -, r3⟩ := rings_closed hf hi n (Nat.le_refl _)
  obtain ⟨hne, -, hm⟩ := walksTo_mem hf n (Nat.le_refl _) l hl
  have h0 : 0 < l.length := List.length_pos_iff.2 hne
  constructor
  · intro hy
    obtain ⟨i, hil, e⟩ := mem_atZ hy
    have := ring_con (f := f) (n := n) hm (r3 l hl).1 i hil
    rw [e] at this
    exact ⟨(hm y hy).1, (hm y hy).2, this⟩
  · rintro ⟨-, -, hc⟩
    refine hc (fun z => z ∈ l) (closed_eds.2 fun z hz => ?_) (at_mem h0)
    by_cases hz0 : z = 0
    · rw [hz0]; exact Iff.rfl
    · rw [up0_pos _ (by omega)]
      exact (ring_iff hf hi hl (by omega) (by omega)).symm
/-- The lowest of the rings, in their order. -/
theorem heads_list : ∀ a, a ≤ n → (walksTo f n a).1.map (fun l => l.getD 0 0) = (List.range (a + 1)).filter fun v => decide (1 ≤ v) && decide ((cyW (up0 f) (n + 1)).getD v 0 = v) := by
  intro a
  induction a with
  | zero => intro _; simp [walksTo]
  | succ a ih =>
    intro ha
    have h1 := (heads_roots hf hi a (by omega)).2 (fun v => decide (1 ≤ v)) rfl
    have h2 := (heads_roots hf hi (a + 1) ha).2 (fun v => decide (1 ≤ v)) rfl
    have h3 : rq (cyW (up0 f) (n + 1)) (fun v => decide (1 ≤ v)) (a + 1 + 1) = rq (cyW (up0 f) (n + 1)) (fun v => decide (1 ≤ v)) (a + 1) + (if (cyW (up0 f) (n + 1)).getD (a + 1) 0 = a + 1 ∧ decide (1 ≤ a + 1) = true then 1 else 0) := rfl
    rw [h3, ← h1] at h2
    rw [List.range_succ, List.filter_append, ← ih (by omega), List.filter_cons, List.filter_nil]
    by_cases hs : un (walksTo f n a).2 (a + 1) = 0
    · have e : walksTo f n (a + 1) = walksTo f n a := by
        simp only [walksTo]
        rw [walkF_seen (un_seen hs)]
        rfl
      rw [e] at h2 ⊢
      have hn : ¬ (cyW (up0 f) (n + 1)).getD (a + 1) 0 = a + 1 := fun q => by
        rw [if_pos ⟨q, decide_eq_true (by omega)⟩] at h2
        omega
      rw [decide_eq_false hn, Bool.and_false]
      simp
    · have hs1 : un (walksTo f n a).2 (a + 1) = 1 := by have := un_le (walksTo f n a).2 (a + 1); omega
      obtain ⟨hh, hne⟩ := walkF_new f n (walksTo f n a).2 (a + 1) hs1
      have e : (walksTo f n (a + 1)).1 = (walksTo f n a).1 ++ [(walkF f (n + 1) (walksTo f n a).2 (a + 1) []).1] := by
        simp only [walksTo]
        rw [if_neg hne]
      rw [e, List.countP_append, List.countP_singleton, hh, decide_eq_true (show 1 ≤ a + 1 by omega), if_pos rfl] at h2
      have hr : (cyW (up0 f) (n + 1)).getD (a + 1) 0 = a + 1 := Classical.byContradiction fun q => by
        rw [if_neg fun r => q r.1] at h2
        omega
      rw [e, List.map_append, List.map_singleton, hh, decide_eq_true hr, decide_eq_true (show 1 ≤ a + 1 by omega)]
      rfl
end
/-- The same rings: as many walks, each with the same arcs. -/
theorem same_walks {f g : Nat → Nat} {n : Nat} (hf : ∀ a, 1 ≤ a → a ≤ n → 1 ≤ f a ∧ f a ≤ n) (hi : ∀ a b, 1 ≤ a → a ≤ n → 1 ≤ b → b ≤ n → f a = f b → a = b) (hg : ∀ a, 1 ≤ a → a ≤ n → 1 ≤ g a ∧ g a ≤ n) (hj : ∀ a b, 1 ≤ a → a ≤ n → 1 ≤ b → b ≤ n → g a = g b → a = b)
    (hc : ∀ x y, Con (eds (up0 f) (n + 1)) x y ↔ Con (eds (up0 g) (n + 1)) x y) : (walksTo f n n).1.length = (walksTo g n n).1.length ∧ ∀ i, i < (walksTo f n n).1.length → ∀ y, y ∈ (walksTo f n n).1.getD i [] ↔ y ∈ (walksTo g n n).1.getD i [] := by
  have eW : cyW (up0 f) (n + 1) = cyW (up0 g) (n + 1) := (least_congr (cyW_least (bij_up0 hf hi).lt) hc).eq (cyW_least (bij_up0 hg hj).lt)
  have e1 := heads_list hf hi n (Nat.le_refl _)
  have e2 := heads_list hg hj n (Nat.le_refl _)
  rw [eW, ← e2] at e1
  have hl : (walksTo f n n).1.length = (walksTo g n n).1.length := by have := congrArg List.length e1; simpa using this
  refine ⟨hl, fun i hil y => ?_⟩
  have hh : ((walksTo f n n).1.getD i []).getD 0 0 = ((walksTo g n n).1.getD i []).getD 0 0 := by
    have e3 := congrArg (fun l => l.getD i 0) e1
    simp only [List.getD_eq_getElem?_getD, List.getElem?_map, List.getElem?_eq_getElem hil, List.getElem?_eq_getElem (show i < (walksTo g n n).1.length by omega), Option.map_some, Option.getD_some] at e3 ⊢
    exact e3
  rw [walk_mem hf hi (getD_in hil), walk_mem hg hj (getD_in (by omega)), hh, hc]
theorem wi_congr {l m : List Nat} (h : ∀ y, y ∈ l ↔ y ∈ m) (z : Int) : wi l z = wi m z := by
  refine bool_iff ?_
  simp only [wi, List.any_eq_true, h]
theorem rev_rev {l : List Nat} {x : Cr} (h1 : wi l x.a = wi l x.c) (h2 : wi l x.b = wi l x.d) : revX (wi l (revX (wi l x.a) (wi l x.b) x).a) (wi l (revX (wi l x.a) (wi l x.b) x).b) (revX (wi l x.a) (wi l x.b) x) = x := by
  obtain ⟨a, b, c, d, p⟩ := x
  simp only at h1 h2
  cases ha : wi l a <;> cases hb : wi l b <;> rw [ha] at h1 <;> rw [hb] at h2 <;> cases p <;> simp [revX, ha, hb, ← h1, ← h2]
def revT (l : List Nat) (x : Cr) : Nat := if wi l x.a = true then 2 else 0
theorem revT_or (l : List Nat) (x : Cr) : revT l x = 2 ∨ revT l x = 0 := by unfold revT; split <;> simp
theorem rev_arc {l : List Nat} {x : Cr} (h1 : wi l x.a = wi l x.c) (h2 : wi l x.b = wi l x.d) {s : Nat} (hs : s < 4) : (revX (wi l x.a) (wi l x.b) x).arc s = x.arc ((s + revT l x) % 4) ∧ (revX (wi l x.a) (wi l x.b) x).comes s = xor (x.comes ((s + revT l x) % 4)) (wi l (x.arc ((s + revT l x) % 4))) := by
  obtain ⟨a, b, c, d, p⟩ := x
  simp only at h1 h2
  have : s = 0 ∨ s = 1 ∨ s = 2 ∨ s = 3 := by omega
  rcases this with rfl | rfl | rfl | rfl <;> cases ha : wi l a <;> cases hb : wi l b <;> rw [ha] at h1 <;> rw [hb] at h2 <;> cases p <;> simp [revX, revT, Cr.arc, Cr.comes, ha, hb, ← h1, ← h2]
theorem nx_at {C : List Cr} {loops : Int} (hm : mayD C loops = true) {k s : Nat} (hk : k < C.length) (hs : s < 4) (hc : (C.getD k Cr.none).comes s = true) : nx C (aAt C k s) = aAt C k ((s + 2) % 4) := by
  have h := en_side hm k s hk hs
  rw [hc] at h
  have e1 : toC C (aAt C k s) = k := h.1
  have e2 : toS C (aAt C k s) = s := h.2.1
  unfold nx
  rw [e1, e2]
  rfl
set_option linter.unusedSectionVars false
section
variable {C : List Cr} {loops : Int} (hm : mayD C loops = true) {p : Nat} (hp : p < (walksM C).length)
include hm hp
theorem part_in : (walksM C).getD p [] ∈ (walksTo (nx C) (2 * C.length) (2 * C.length)).1 := getD_in hp
theorem part_over {k s : Nat} (hk : k < C.length) (hs : s < 4) : aAt C k ((s + 2) % 4) ∈ (walksM C).getD p [] ↔ aAt C k s ∈ (walksM C).getD p [] := by
  have key : ∀ t, t < 4 → (C.getD k Cr.none).comes t = true → (aAt C k ((t + 2) % 4) ∈ (walksM C).getD p [] ↔ aAt C k t ∈ (walksM C).getD p []) := fun t ht hc => by
    have h := en_side hm k t hk ht
    rw [← nx_at hm hk ht hc]
    exact ring_iff (nx_closed hm) (fun a b p q r s t => nx_inj hm a b p q r s t) (part_in hm hp) h.2.2.1 h.2.2.2
  cases hc : (C.getD k Cr.none).comes s with
  | true => exact key s hs hc
  | false =>
    have hc2 := comes_over (C.getD k Cr.none) s hs
    rw [hc] at hc2
    have := key ((s + 2) % 4) (Nat.mod_lt _ (by decide)) hc2
    rw [show ((s + 2) % 4 + 2) % 4 = s by omega] at this
    exact this.symm
theorem wi_at {k s : Nat} (hk : k < C.length) (hs : s < 4) : wi ((walksM C).getD p []) ((C.getD k Cr.none).arc s) = true ↔ aAt C k s ∈ (walksM C).getD p [] := by
  rw [aAt_int hm k s hk hs]
  exact wi_iff _ _
theorem wi_sides {k : Nat} (hk : k < C.length) : wi ((walksM C).getD p []) (C.getD k Cr.none).a = wi ((walksM C).getD p []) (C.getD k Cr.none).c ∧ wi ((walksM C).getD p []) (C.getD k Cr.none).b = wi ((walksM C).getD p []) (C.getD k Cr.none).d := by
  constructor
  · have h := part_over hm hp hk (s := 0) (by decide)
    exact bool_iff (((wi_at hm hp hk (s := 0) (by decide)).trans h.symm).trans (wi_at hm hp hk (s := 2) (by decide)).symm)
  · have h := part_over hm hp hk (s := 1) (by decide)
    exact bool_iff (((wi_at hm hp hk (s := 1) (by decide)).trans h.symm).trans (wi_at hm hp hk (s := 3) (by decide)).symm)
theorem rev_getD {k : Nat} (hk : k < C.length) : (revC ((walksM C).getD p []) C).getD k Cr.none = revX (wi ((walksM C).getD p []) (C.getD k Cr.none).a) (wi ((walksM C).getD p []) (C.getD k Cr.none).b) (C.getD k Cr.none) := map_getD _ C hk
theorem rev_at {k s : Nat} (hk : k < C.length) (hs : s < 4) : aAt (revC ((walksM C).getD p []) C) k s = aAt C k ((s + revT ((walksM C).getD p []) (C.getD k Cr.none)) % 4) ∧ ((revC ((walksM C).getD p []) C).getD k Cr.none).comes s = xor ((C.getD k Cr.none).comes ((s + revT ((walksM C).getD p []) (C.getD k Cr.none)) % 4)) (decide (aAt C k ((s + revT ((walksM C).getD p []) (C.getD k Cr.none)) % 4) ∈ (walksM C).getD p [])) := by
  obtain ⟨w1, w2⟩ := wi_sides hm hp hk
  obtain ⟨a1, a2⟩ := rev_arc w1 w2 hs
  constructor
  · unfold aAt
    rw [rev_getD hm hp hk, a1]
  · rw [rev_getD hm hp hk, a2]
    congr 1
    refine bool_iff ?_
    rw [wi_at hm hp hk (Nat.mod_lt _ (by decide)), decide_eq_true_eq]
theorem rev_may : mayD (revC ((walksM C).getD p []) C) loops = true := by
  have hl : (revC ((walksM C).getD p []) C).length = C.length := List.length_map ..
  have hs : sizeB (revC ((walksM C).getD p []) C) loops = true := by
    have := may_size hm
    unfold sizeB at this ⊢
    rw [hl]
    exact this
  refine may_inj hs (fun k s hk hs' => ?_) fun i k j t hi hk hj ht ha hc => ?_
  · rw [hl] at hk ⊢
    obtain ⟨w1, w2⟩ := wi_sides hm hp hk
    rw [rev_getD hm hp hk, (rev_arc w1 w2 hs').1]
    have := may_fit hm k ((s + revT ((walksM C).getD p []) (C.getD k Cr.none)) % 4) hk (Nat.mod_lt _ (by decide))
    exact ⟨this.1, this.2.1⟩
  · rw [hl] at hi hj
    have ha' : aAt (revC ((walksM C).getD p []) C) j t = aAt (revC ((walksM C).getD p []) C) i k := by unfold aAt; rw [ha]
    obtain ⟨x1, x2⟩ := rev_at hm hp hj ht
    obtain ⟨y1, y2⟩ := rev_at hm hp hi hk
    have t1 : (t + revT ((walksM C).getD p []) (C.getD j Cr.none)) % 4 < 4 := Nat.mod_lt _ (by decide)
    have t2 : (k + revT ((walksM C).getD p []) (C.getD i Cr.none)) % 4 < 4 := Nat.mod_lt _ (by decide)
    have o1 := revT_or ((walksM C).getD p []) (C.getD j Cr.none)
    have o2 := revT_or ((walksM C).getD p []) (C.getD i Cr.none)
    rw [x2, y2, ← x1, ← y1, ha'] at hc
    rw [x1, y1] at ha'
    have hcc : (C.getD j Cr.none).comes ((t + revT ((walksM C).getD p []) (C.getD j Cr.none)) % 4) = (C.getD i Cr.none).comes ((k + revT ((walksM C).getD p []) (C.getD i Cr.none)) % 4) := by
      revert hc
      generalize decide (aAt (revC ((walksM C).getD p []) C) i k ∈ (walksM C).getD p []) = b
      cases (C.getD j Cr.none).comes ((t + revT ((walksM C).getD p []) (C.getD j Cr.none)) % 4) <;> cases (C.getD i Cr.none).comes ((k + revT ((walksM C).getD p []) (C.getD i Cr.none)) % 4) <;> cases b <;> simp
    have u1 := en_side hm j _ hj t1
    have u2 := en_side hm i _ hi t2
    rw [ha', hcc] at u1
    have hij : j = i := by rw [← u1.1, u2.1]
    have htt : (t + revT ((walksM C).getD p []) (C.getD j Cr.none)) % 4 = (k + revT ((walksM C).getD p []) (C.getD i Cr.none)) % 4 := by rw [← u1.2.1, u2.2.1]
    rw [hij] at htt o1
    exact ⟨hij, by omega⟩
theorem rev_nx {a : Nat} (h1 : 1 ≤ a) (h2 : a ≤ 2 * C.length) : (a ∉ (walksM C).getD p [] → nx (revC ((walksM C).getD p []) C) a = nx C a) ∧ (a ∈ (walksM C).getD p [] → nx C (nx (revC ((walksM C).getD p []) C) a) = a) := by
  have hl : (revC ((walksM C).getD p []) C).length = C.length := List.length_map ..
  have hR := rev_may hm hp
  have key : ∀ (b : Bool), (decide (a ∈ (walksM C).getD p []) = !b) → ∃ k t, k < C.length ∧ t < 4 ∧ aAt C k t = a ∧ (C.getD k Cr.none).comes t = b ∧ nx (revC ((walksM C).getD p []) C) a = aAt C k ((t + 2) % 4) := fun b hb => by
    have g := en_may hm a b h1 h2
    refine ⟨enC C a b, enS C a b, g.2.1, g.2.2.1, ?_, g.2.2.2.2, ?_⟩
    · unfold aAt; rw [g.2.2.2.1]; exact Int.toNat_natCast _
    · have ea : aAt C (enC C a b) (enS C a b) = a := by unfold aAt; rw [g.2.2.2.1]; exact Int.toNat_natCast _
      generalize enC C a b = k at g ea
      generalize enS C a b = t at g ea
      obtain ⟨-, hk, ht, -, hc⟩ := g
      have o := revT_or ((walksM C).getD p []) (C.getD k Cr.none)
      have hs4 : (t + revT ((walksM C).getD p []) (C.getD k Cr.none)) % 4 < 4 := Nat.mod_lt _ (by decide)
      obtain ⟨x1, x2⟩ := rev_at hm hp hk hs4
      rw [show ((t + revT ((walksM C).getD p []) (C.getD k Cr.none)) % 4 + revT ((walksM C).getD p []) (C.getD k Cr.none)) % 4 = t by omega] at x1 x2
      rw [ea] at x1
      rw [ea, hb, hc] at x2
      have hn := nx_at hR (k := k) (by rw [hl]; exact hk) hs4 (by rw [x2]; cases b <;> rfl)
      rw [x1] at hn
      rw [hn, (rev_at hm hp hk (Nat.mod_lt _ (by decide))).1]
      congr 1
      omega
  constructor
  · intro hn
    obtain ⟨k, t, hk, ht, e1, e2, e3⟩ := key true (decide_eq_false hn)
    rw [e3, ← e1, nx_at hm hk ht e2]
  · intro hn
    obtain ⟨k, t, hk, ht, e1, e2, e3⟩ := key false (decide_eq_true hn)
    have hc := comes_over (C.getD k Cr.none) t ht
    rw [e2] at hc
    rw [e3, nx_at hm hk (Nat.mod_lt _ (by decide)) hc, show ((t + 2) % 4 + 2) % 4 = t by omega, e1]
theorem rev_con (u v : Nat) : Con (eds (up0 (nx C)) (2 * C.length + 1)) u v ↔ Con (eds (up0 (nx (revC ((walksM C).getD p []) C))) (2 * C.length + 1)) u v := by
  have hl : (revC ((walksM C).getD p []) C).length = C.length := List.length_map ..
  have hR := rev_may hm hp
  have hcl : ∀ a, 1 ≤ a → a ≤ 2 * C.length → 1 ≤ nx (revC ((walksM C).getD p []) C) a ∧ nx (revC ((walksM C).getD p []) C) a ≤ 2 * C.length := fun a h1 h2 => by
    have := nx_closed hR a h1 (by omega)
    rw [hl] at this
    exact this
  have key : ∀ S : Nat → Prop, Closed (eds (up0 (nx C)) (2 * C.length + 1)) S ↔ Closed (eds (up0 (nx (revC ((walksM C).getD p []) C))) (2 * C.length + 1)) S := fun S => by
    rw [closed_eds, closed_eds]
    constructor
    · intro h i hi
      by_cases h0 : i = 0
      · rw [h0]; exact Iff.rfl
      · rw [up0_pos _ (by omega)]
        obtain ⟨n1, n2⟩ := rev_nx hm hp (a := i) (by omega) (by omega)
        by_cases hin : i ∈ (walksM C).getD p []
        · have hb := hcl i (by omega) (by omega)
          have := h _ (show nx (revC ((walksM C).getD p []) C) i < 2 * C.length + 1 by omega)
          rw [up0_pos _ hb.1, n2 hin] at this
          exact this.symm
        · rw [n1 hin]
          have := h i hi
          rwa [up0_pos _ (by omega)] at this
    · intro h i hi
      by_cases h0 : i = 0
      · rw [h0]; exact Iff.rfl
      · rw [up0_pos _ (by omega)]
        have hnb := nx_closed hm i (by omega) (by omega)
        by_cases hin : i ∈ (walksM C).getD p []
        · have hin2 := (ring_iff (nx_closed hm) (fun a b p q r s t => nx_inj hm a b p q r s t) (part_in hm hp) (show 1 ≤ i by omega) (by omega)).2 hin
          have e := (rev_nx hm hp hnb.1 hnb.2).2 hin2
          have hb := hcl _ hnb.1 hnb.2
          have e2 := nx_inj hm _ _ hb.1 hb.2 (show 1 ≤ i by omega) (by omega) e
          have := h _ (show nx C i < 2 * C.length + 1 by omega)
          rw [up0_pos _ hnb.1, e2] at this
          exact this.symm
        · have := h i hi
          rw [up0_pos _ (by omega), (rev_nx hm hp (a := i) (by omega) (by omega)).1 hin] at this
          exact this
  exact ⟨fun h S hS => h S ((key S).2 hS), fun h S hS => h S ((key S).1 hS)⟩
theorem rev_walks : (walksM (revC ((walksM C).getD p []) C)).length = (walksM C).length ∧ ∀ y, y ∈ (walksM (revC ((walksM C).getD p []) C)).getD p [] ↔ y ∈ (walksM C).getD p [] := by
  have hl : (revC ((walksM C).getD p []) C).length = C.length := List.length_map ..
  have hR := rev_may hm hp
  have hcl : ∀ a, 1 ≤ a → a ≤ 2 * C.length → 1 ≤ nx (revC ((walksM C).getD p []) C) a ∧ nx (revC ((walksM C).getD p []) C) a ≤ 2 * C.length := fun a h1 h2 => by
    have := nx_closed hR a h1 (by omega)
    rw [hl] at this
    exact this
  obtain ⟨h1, h2⟩ := same_walks (nx_closed hm) (fun a b p q r s t => nx_inj hm a b p q r s t) hcl (fun a b p q r s t => nx_inj hR a b p (by omega) r (by omega) t) (rev_con hm hp)
  have e : walksM (revC ((walksM C).getD p []) C) = (walksTo (nx (revC ((walksM C).getD p []) C)) (2 * C.length) (2 * C.length)).1 := by
    show (walksTo (nx (revC ((walksM C).getD p []) C)) (2 * (revC ((walksM C).getD p []) C).length) (2 * (revC ((walksM C).getD p []) C).length)).1 = _
    rw [hl]
  rw [e]
  exact ⟨h1.symm, fun y => (h2 p hp y).symm⟩
theorem rev_back : revC ((walksM (revC ((walksM C).getD p []) C)).getD p []) (revC ((walksM C).getD p []) C) = C := by
  have hw := wi_congr (rev_walks hm hp).2
  unfold revC
  rw [List.map_map]
  conv => rhs; rw [← List.map_id C]
  refine List.map_congr_left fun x hx => ?_
  obtain ⟨k, hk, rfl⟩ := List.getElem_of_mem hx
  have e : C[k] = C.getD k Cr.none := by rw [List.getD_eq_getElem?_getD, List.getElem?_eq_getElem hk]; rfl
  rw [e]
  obtain ⟨w1, w2⟩ := wi_sides hm hp hk
  have hw' : ∀ z, wi ((walksM (C.map fun x => revX (wi ((walksM C).getD p []) x.a) (wi ((walksM C).getD p []) x.b) x)).getD p []) z = wi ((walksM C).getD p []) z := hw
  simp only [Function.comp, hw', id]
  exact rev_rev w1 w2
end
end Go.Proofs.Ytkbapnjlnnggaaa

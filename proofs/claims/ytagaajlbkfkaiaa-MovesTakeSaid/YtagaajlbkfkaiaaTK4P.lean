/- Several texts of the proof, one behind the other. -/
import Derived.Test.YtagaajlbkfkaiaaTK1P
import Derived.Test.YtagaajlbkfkaiaaW11P
/- Plain mathematics: what a planar diagram's rings and pieces are where some crossings are passed straight. -/
namespace Go.Proofs.Ytagaajlbkfkaiaa

/-- Counting by laying the ones into the others. -/
theorem inj_cnt {n M : Nat} {P Q : Nat → Bool} (m : Nat → Nat) (hl : ∀ v, v < n → P v = true → m v < M ∧ Q (m v) = true) (hi : ∀ u v, u < n → v < n → P u = true → P v = true → m u = m v → u = v) : (List.range n).countP P ≤ (List.range M).countP Q := by
  rw [List.countP_eq_length_filter, List.countP_eq_length_filter, ← List.length_map (f := m)]
  have hnd : (((List.range n).filter P).map m).Nodup := by
    unfold List.Nodup
    rw [List.pairwise_map]
    refine List.Pairwise.imp_of_mem ?_ (List.Pairwise.filter _ List.nodup_range)
    intro u v hu hv huv e
    obtain ⟨hu, ru⟩ := List.mem_filter.1 hu
    obtain ⟨hv, rv⟩ := List.mem_filter.1 hv
    exact huv (hi u v (List.mem_range.1 hu) (List.mem_range.1 hv) ru rv e)
  refine hnd.length_le_of_subset fun x hx => ?_
  obtain ⟨v, hv, rfl⟩ := List.mem_map.1 hx
  obtain ⟨hv, rv⟩ := List.mem_filter.1 hv
  have := hl v (List.mem_range.1 hv) rv
  exact List.mem_filter.2 ⟨List.mem_range.2 this.1, this.2⟩
theorem cnt_zero (P : Nat → Bool) (m : Nat) (h : P 0 = true) : (List.range (m + 1)).countP P = (List.range (m + 1)).countP (fun v => P v && decide (1 ≤ v)) + 1 := by
  rw [cnt_up1 (fun v => P v && decide (1 ≤ v)) m (by simp), List.range_succ_eq_map, List.countP_cons, List.countP_map, if_pos h]
  congr 1
  refine List.countP_congr fun v _ => ?_
  show P (v + 1) = true ↔ (P (v + 1) && decide (1 ≤ v + 1)) = true
  rw [decide_eq_true (by omega), Bool.and_true]
theorem rq_pos {E : List (Nat × Nat)} {W : List Nat} {m : Nat} (h : Least E (m + 1) W) : rq W (fun _ => true) (m + 1) = rq W (fun v => decide (1 ≤ v)) (m + 1) + 1 := by
  rw [rq_eq, rq_eq]
  have h0 := h.le (v := 0) (by omega)
  rw [cnt_zero _ m (by rw [Bool.and_true]; exact decide_eq_true (by omega))]
  congr 1
  refine List.countP_congr fun v _ => ?_
  rw [Bool.and_true]
/-- The rings of fd. -/
theorem cyA_fd {C : List Cr} {loops : Int} (hm : mayD C loops = true) : cyA (up0 (fd C)) (4 * C.length + 1) = (facesM C).length + 1 := by
  have h := walks_cyN (fd_closed hm) (fun a b h1 h2 h3 h4 e => fd_inj hm a b h1 h2 h3 h4 e) (fun v => decide (1 ≤ v)) (by simp)
  have hb := (heads_roots (fd_closed hm) (fun a b h1 h2 h3 h4 e => fd_inj hm a b h1 h2 h3 h4 e) (4 * C.length) (Nat.le_refl _)).1
  have e : (walksTo (fd C) (4 * C.length) (4 * C.length)).1.countP (fun l => decide (1 ≤ l.getD 0 0)) = (facesM C).length := List.countP_eq_length.2 fun l hl => decide_eq_true (hb l hl).1
  unfold cyA cyN
  rw [rq_pos (cyW_least (fd_bij hm).lt), ← e, h]
  rfl
/-- A set that fd and al keep, by crossings. -/
theorem set_lv {C : List Cr} {loops : Int} (hm : mayD C loops = true) {S : Nat → Prop} (hS : Closed (edb (up0 (fd C)) al (4 * C.length + 1)) S) {j : Nat} (h1 : 1 ≤ j) (h2 : j ≤ 4 * C.length) : S j ↔ S (pd C (4 * lvC C j)) := by
  obtain ⟨s1, s2⟩ := closed_edb.1 hS
  have step : ∀ k s, k < C.length → s < 4 → (S (pd C (4 * k + s)) ↔ S (pd C (4 * k + (s + 3) % 4))) := fun k s hk hs => by
    obtain ⟨e0, e1, -, -, e4, e5⟩ := ein_at hm k s hk hs
    have a := s2 (ein C k s) (by omega)
    have b := s1 (ein C k s) (by omega)
    rw [e4] at a
    rw [up0_pos _ e0, e5] at b
    exact a.symm.trans b
  obtain ⟨ha1, ha2, -, -⟩ := al_may h1 h2
  obtain ⟨g1, g2, g3⟩ := ein_onto hm ha1 ha2
  have e : j = pd C (4 * dC C (al j) + dS C (al j)) := by rw [← (ein_at hm _ _ g1 g2).2.2.2.2.1, ← g3, al_back]
  rw [(dC_al (C := C) h1 h2).1] at e g1
  generalize lvC C j = k at e g1 ⊢
  generalize dS C (al j) = s at e g2
  rw [e]
  have q1 := step k 1 g1 (by decide)
  have q2 := step k 2 g1 (by decide)
  have q3 := step k 3 g1 (by decide)
  match s, g2 with
  | 0, _ => exact Iff.rfl
  | 1, _ => exact q1
  | 2, _ => exact q2.trans q1
  | 3, _ => exact q3.trans (q2.trans q1)
/-- The pieces by darts: no more than by crossings. -/
theorem kN_fd {C : List Cr} {loops : Int} (hm : mayD C loops = true) : kN (edb (up0 (fd C)) al (4 * C.length + 1)) (4 * C.length + 1) ≤ pcN C + 1 := by
  have hE := edb_lt (M := 4 * C.length + 1) (fd_bij hm).lt (fun x hx => al_lt (n := C.length) hx)
  have lE := levR_least hE (4 * C.length + 1) (Nat.le_refl _)
  have hW := whoM_least hm
  unfold kN
  rw [rq_pos lE, rq_eq, pcN_eq]
  refine Nat.add_le_add_right (inj_cnt (fun j => (whoM C).getD (lvC C j) 0) (fun v hv hP => ?_) fun u v hu hv hPu hPv e => ?_) 1
  · simp only [Bool.and_eq_true, decide_eq_true_eq] at hP
    have hl := lv_lt hm hP.2 (by omega)
    exact ⟨hW.lt hl, decide_eq_true (hW.root hl)⟩
  · simp only [Bool.and_eq_true, decide_eq_true_eq] at hPu hPv
    have hlu := lv_lt hm hPu.2 (by omega)
    have hlv := lv_lt hm hPv.2 (by omega)
    have hc : Con (edb (up0 (fd C)) al (4 * C.length + 1)) u v := fun S hS hSu => by
      refine (set_lv hm hS hPv.2 (by omega)).2 ?_
      refine (hW.same hlu hlv).1 e (fun k => S (pd C (4 * k))) (fun ed he => ?_) ((set_lv hm hS hPu.2 (by omega)).1 hSu)
      obtain ⟨i, hi, rfl⟩ := List.mem_map.1 he
      have hi := List.mem_range.1 hi
      have m1 := mk_le (a := i + 1) (n := C.length) (p := true) (by omega) (by omega)
      have m2 := mk_le (a := i + 1) (n := C.length) (p := false) (by omega) (by omega)
      have l1 := set_lv hm hS m1.1 m1.2
      have l2 := set_lv hm hS m2.1 m2.2
      have a1 : al (mkD (i + 1) true) = mkD (i + 1) false := by unfold al; rw [dA_mk (by omega), dB_mk (by omega)]; rfl
      have sa := (closed_edb.1 hS).2 (mkD (i + 1) true) (by omega)
      rw [a1] at sa
      unfold lvC at l1 l2
      rw [dA_mk (by omega), dB_mk (by omega)] at l1 l2
      exact l1.symm.trans (sa.trans l2)
    have := (lE.same hu hv).2 hc
    rw [hPu.1, hPv.1] at this
    exact this
/-- Behind a curl. -/
theorem curl_euler {C : List Cr} {loops : Int} (hm : mayD C loops = true) (hp : planarB C = true) {k s : Nat} (hk : k < C.length) (hs : s < 4) (e : (C.getD k Cr.none).arc s = (C.getD k Cr.none).arc ((s + 1) % 4)) :
    C.length + 2 * kN (edb (up0 (fs C [k])) al (4 * C.length + 1)) (4 * C.length + 1) ≤ cyA (up0 (fs C [k])) (4 * C.length + 1) + 1 + 1 := by
  have h := curl_g hm hk hs e
  have c := h.count
  have kk := kN_le (F := edb (up0 (fs C [k])) al (4 * C.length + 1)) (edb_lt h.bf.lt h.la) (edb_lt (fun x hx => fs_lt hm [k] hx) h.la) h.con
  have p := (planar_sum hm).2.1 hp
  have a := cyA_fd hm
  have b := kN_fd hm
  omega
/-- Behind a pull. -/
theorem pull_euler {C : List Cr} {loops : Int} (hm : mayD C loops = true) (hpl : planarB C = true) {p q r t : Nat} (hp : p < C.length) (hq : q < C.length) (hpq : p ≠ q) (hr : r < 4) (ht : t < 4) (fX : fd C (ein C q t) = ein C p r) (fY : fd C (ein C p r) = ein C q t) (G : List Nat) (hG : ∀ k, k ∈ G ↔ k = p ∨ k = q) :
    C.length + 2 * kN (edb (up0 (fs C G)) al (4 * C.length + 1)) (4 * C.length + 1) ≤ cyA (up0 (fs C G)) (4 * C.length + 1) + 2 + 1 := by
  have h := pull_g hm hp hq hpq hr ht fX fY G hG
  have c := h.euler fun x hx => fs_lt hm G hx
  have pl := (planar_sum hm).2.1 hpl
  have a := cyA_fd hm
  have b := kN_fd hm
  omega
end Go.Proofs.Ytagaajlbkfkaiaa
/- Plain mathematics: the crossings that are left, and their numbers. -/
namespace Go.Proofs.Ytagaajlbkfkaiaa

/-- How many of the first ones are left. -/
def posG (G : List Nat) (k : Nat) : Nat := (List.range k).countP fun j => decide (j ∉ G)
theorem posG_next (G : List Nat) (k : Nat) : posG G (k + 1) = posG G k + if k ∈ G then 0 else 1 := by
  unfold posG
  rw [List.range_succ, List.countP_append, List.countP_singleton]
  by_cases h : k ∈ G
  · rw [if_pos h, if_neg (by simpa using h)]
  · rw [if_neg h, if_pos (by simpa using h)]
theorem posG_mono (G : List Nat) {k i : Nat} (h : k ≤ i) : posG G k ≤ posG G i := by
  induction i with
  | zero => rw [show k = 0 by omega]; exact Nat.le_refl _
  | succ i ih =>
    by_cases e : k = i + 1
    · rw [e]; exact Nat.le_refl _
    · have := ih (by omega)
      rw [posG_next]
      omega
theorem posG_lt {G : List Nat} {k i : Nat} (h : k < i) (hk : k ∉ G) : posG G k < posG G i := by
  have := posG_mono G (show k + 1 ≤ i from h)
  rw [posG_next, if_neg hk] at this
  omega
theorem posG_inj {G : List Nat} {k j : Nat} (hk : k ∉ G) (hj : j ∉ G) (e : posG G k = posG G j) : k = j := by
  rcases Nat.lt_trichotomy k j with h | h | h
  · have := posG_lt h hk; omega
  · exact h
  · have := posG_lt h hj; omega
theorem posG_onto {G : List Nat} : ∀ {n i : Nat}, i < posG G n → ∃ k, k < n ∧ k ∉ G ∧ posG G k = i := by
  intro n
  induction n with
  | zero => intro i h; exact absurd h (Nat.not_lt_zero _)
  | succ n ih =>
    intro i h
    by_cases hl : i < posG G n
    · obtain ⟨k, h1, h2, h3⟩ := ih hl
      exact ⟨k, by omega, h2, h3⟩
    · rw [posG_next] at h
      by_cases hg : n ∈ G
      · rw [if_pos hg] at h; omega
      · rw [if_neg hg] at h; exact ⟨n, by omega, hg, by omega⟩
theorem reTo_pos (C : List Cr) (G : List Nat) (h : Nat → Nat) (i : Nat) : (reTo C G h i).length = posG G i := by
  induction i with
  | zero => rfl
  | succ i ih =>
    rw [posG_next]
    simp only [reTo, List.length_append]
    rw [ih]
    split <;> simp
theorem reTo_at {C : List Cr} {G : List Nat} {h : Nat → Nat} {k : Nat} (hk : k ∉ G) : ∀ i, k < i → (reTo C G h i).getD (posG G k) Cr.none = reX h (C.getD k Cr.none) := by
  intro i
  induction i with
  | zero => intro h; exact absurd h (Nat.not_lt_zero _)
  | succ i ih =>
    intro hi
    simp only [reTo]
    by_cases e : k = i
    · subst e
      rw [if_neg hk, List.getD_eq_getElem?_getD, List.getElem?_append_right (by rw [reTo_pos]; exact Nat.le_refl _), reTo_pos, Nat.sub_self]
      rfl
    · have hlt := posG_lt (G := G) (show k < i by omega) hk
      rw [List.getD_eq_getElem?_getD, List.getElem?_append_left (by rw [reTo_pos]; exact hlt), ← List.getD_eq_getElem?_getD]
      exact ih (by omega)
theorem reX_arc (h : Nat → Nat) (X : Cr) {s : Nat} (hs : s < 4) : (reX h X).arc s = (h (X.arc s).toNat : Int) := by
  match s, hs with
  | 0, _ => rfl
  | 1, _ => rfl
  | 2, _ => rfl
  | 3, _ => rfl
theorem reX_comes (h : Nat → Nat) (X : Cr) (s : Nat) : (reX h X).comes s = X.comes s := rfl

/-- Of the arcs that are one with each other one alone leads to a crossing that is left. -/
theorem ends_one {C : List Cr} {f : Nat → Nat} (hf : Goes C f) (G : List Nat) {a b : Nat} (_a1 : 1 ≤ a) (a2 : a ≤ 2 * C.length) (_b1 : 1 ≤ b) (b2 : b ≤ 2 * C.length) (ha : toC C a ∉ G) (hb : toC C b ∉ G) (e : (uniM C f G).getD a 0 = (uniM C f G).getD b 0) : a = b := by
  have hL := uni_least (G := G) hf.closed
  have hc := (hL.same (by omega) (by omega)).1 e
  have hS : Closed (uTo C f G (2 * C.length)) fun z => ∃ i, it f i z = a ∧ ∀ j, j < i → toC C (it f j z) ∈ G := fun ed he => by
    obtain ⟨x, x1, x2, x3, rfl⟩ := mem_uTo.1 he
    have sh : ∀ i, it f i (f x) = it f (i + 1) x := fun i => by have := it_add f x i 1; exact this.symm
    constructor
    · rintro ⟨i, h1, h2⟩
      match i, h1, h2 with
      | 0, h1, _ => exact absurd x3 (by have h1 : x = a := h1; rw [h1]; exact ha)
      | i + 1, h1, h2 => exact ⟨i, (sh i).trans h1, fun j hj => by have := h2 (j + 1) (by omega); show toC C (it f j (f x)) ∈ G; rw [sh j]; exact this⟩
    · rintro ⟨i, h1, h2⟩
      refine ⟨i + 1, (sh i).symm.trans h1, fun j hj => ?_⟩
      match j with
      | 0 => exact x3
      | j + 1 => have := h2 j (by omega); have e2 : it f (j + 1) x = it f j (f x) := (sh j).symm; show toC C (it f (j + 1) x) ∈ G; rw [e2]; exact this
  obtain ⟨i, h1, h2⟩ := hc _ hS ⟨0, rfl, fun j hj => absurd hj (Nat.not_lt_zero _)⟩
  match i, h1, h2 with
  | 0, h1, _ => exact h1.symm
  | i + 1, _, h2 => exact absurd (h2 0 (by omega)) hb
/-- And one alone comes from there. -/
theorem starts_one {C : List Cr} {f : Nat → Nat} (hf : Goes C f) (G : List Nat) {a b : Nat} (a1 : 1 ≤ a) (a2 : a ≤ 2 * C.length) (_b1 : 1 ≤ b) (b2 : b ≤ 2 * C.length) (ha : enC C a false ∉ G) (hb : enC C b false ∉ G) (e : (uniM C f G).getD a 0 = (uniM C f G).getD b 0) : a = b := by
  have hL := uni_least (G := G) hf.closed
  have hc := (hL.same (by omega) (by omega)).1 e
  have hit : ∀ i, 1 ≤ it f i a ∧ it f i a ≤ 2 * C.length := fun i => by
    induction i with
    | zero => exact ⟨a1, a2⟩
    | succ i ih => exact hf.closed _ ih.1 ih.2
  have hS : Closed (uTo C f G (2 * C.length)) fun z => ∃ i, z = it f i a ∧ ∀ j, j < i → toC C (it f j a) ∈ G := fun ed he => by
    obtain ⟨x, x1, x2, x3, rfl⟩ := mem_uTo.1 he
    constructor
    · rintro ⟨i, h1, h2⟩
      have h1 : x = it f i a := h1
      refine ⟨i + 1, by show f x = f (it f i a); rw [h1], fun j hj => ?_⟩
      by_cases q : j = i
      · rw [q, ← h1]; exact x3
      · exact h2 j (by omega)
    · rintro ⟨i, h1, h2⟩
      match i, h1, h2 with
      | 0, h1, _ =>
        have h1 : f x = a := h1
        exact absurd x3 (by rw [← hf.out x x1 x2, h1]; exact ha)
      | i + 1, h1, h2 => exact ⟨i, hf.inj x _ x1 x2 (hit i).1 (hit i).2 h1, fun j hj => h2 j (by omega)⟩
  obtain ⟨i, h1, h2⟩ := hc _ hS ⟨0, rfl, fun j hj => absurd hj (Nat.not_lt_zero _)⟩
  match i, h1, h2 with
  | 0, h1, _ => exact h1.symm
  | i + 1, h1, h2 =>
    have h1 : b = f (it f i a) := h1
    have := hf.out _ (hit i).1 (hit i).2
    rw [← h1] at this
    exact absurd (this ▸ h2 i (by omega)) hb
theorem cntB_lt {P : Nat → Bool} {u v : Nat} (h1 : 1 ≤ u) (hP : P u = true) (h : u < v) : cntB P u < cntB P v := by
  induction v with
  | zero => omega
  | succ v ih =>
    show cntB P u < cntB P v + (if 1 ≤ v ∧ P v = true then 1 else 0)
    by_cases e : u = v
    · rw [← e, if_pos ⟨h1, hP⟩]; omega
    · have := ih (by omega); omega
theorem cntB_inj {P : Nat → Bool} {u v : Nat} (hu : 1 ≤ u) (hPu : P u = true) (hv : 1 ≤ v) (hPv : P v = true) (e : cntB P u = cntB P v) : u = v := by
  rcases Nat.lt_trichotomy u v with h | h | h
  · have := cntB_lt hu hPu h; omega
  · exact h
  · have := cntB_lt hv hPv h; omega
end Go.Proofs.Ytagaajlbkfkaiaa
/- Plain mathematics: what is left of a diagram when crossings are taken out may be one. -/
namespace Go.Proofs.Ytagaajlbkfkaiaa

/-- How arcs that are one, and their numbers, are told. -/
structure Lft (C : List Cr) (loops : Int) (G L : List Nat) (P : Nat → Bool) : Prop where
  hm : mayD C loops = true
  go : Goes C (nx C)
  hL : uniM C (nx C) G = L
  hP : ∀ v, 1 ≤ v → (P v = true ↔ thP C G L v)
def lft (C : List Cr) (G L : List Nat) (P : Nat → Bool) : List Cr := reTo C G (numM L P) C.length
theorem Lft.least {C : List Cr} {loops : Int} {G L : List Nat} {P : Nat → Bool} (h : Lft C loops G L P) : Least (uTo C (nx C) G (2 * C.length)) (2 * C.length + 1) L := h.hL ▸ uni_least (G := G) h.go.closed
theorem Lft.pos {C : List Cr} {loops : Int} {G L : List Nat} {P : Nat → Bool} (h : Lft C loops G L P) {a : Nat} (h1 : 1 ≤ a) (h2 : a ≤ 2 * C.length) : 1 ≤ L.getD a 0 :=
  (h.least.2 a (by omega)).1 (fun z => 1 ≤ z) (fun e he => by have := uTo_lt h.go.closed e he; exact ⟨fun _ => this.2.1, fun _ => this.1.1⟩) h1
/-- At a side that is left. -/
theorem Lft.at {C : List Cr} {loops : Int} {G L : List Nat} {P : Nat → Bool} (h : Lft C loops G L P) {k s : Nat} (hk : k < C.length) (hG : k ∉ G) (hs : s < 4) :
    ((lft C G L P).getD (posG G k) Cr.none).arc s = ((cntB P (L.getD (aAt C k s) 0) + 1 : Nat) : Int) ∧ P (L.getD (aAt C k s) 0) = true ∧ 1 ≤ L.getD (aAt C k s) 0 ∧ ((lft C G L P).getD (posG G k) Cr.none).comes s = (C.getD k Cr.none).comes s := by
  obtain ⟨-, -, a1, a2⟩ := en_side h.hm k s hk hs
  have hp := h.pos a1 a2
  have hP : P (L.getD (aAt C k s) 0) = true := (h.hP _ hp).2 ⟨k, s, hk, hG, hs, rfl⟩
  unfold lft
  rw [reTo_at hG _ hk, reX_comes, reX_arc _ _ hs]
  refine ⟨?_, hP, hp, rfl⟩
  show ((numM L P (aAt C k s) : Nat) : Int) = _
  unfold numM
  rw [if_pos hP]
/-- The same number and the same way: the same side. -/
theorem Lft.one {C : List Cr} {loops : Int} {G L : List Nat} {P : Nat → Bool} (h : Lft C loops G L P) {k s j t : Nat} (hk : k < C.length) (hG : k ∉ G) (hs : s < 4) (hj : j < C.length) (hH : j ∉ G) (ht : t < 4)
    (e : L.getD (aAt C k s) 0 = L.getD (aAt C j t) 0) (ec : (C.getD k Cr.none).comes s = (C.getD j Cr.none).comes t) : k = j ∧ s = t := by
  obtain ⟨k1, k2, k3, k4⟩ := en_side h.hm k s hk hs
  obtain ⟨j1, j2, j3, j4⟩ := en_side h.hm j t hj ht
  have ea : aAt C k s = aAt C j t := by
    rw [← h.hL] at e
    cases hc : (C.getD k Cr.none).comes s with
    | true =>
      rw [hc] at k1
      rw [← ec, hc] at j1
      exact ends_one h.go G k3 k4 j3 j4 (by have q : toC C (aAt C k s) = k := k1; rw [q]; exact hG) (by have q : toC C (aAt C j t) = j := j1; rw [q]; exact hH) e
    | false =>
      rw [hc] at k1
      rw [← ec, hc] at j1
      exact starts_one h.go G k3 k4 j3 j4 (by rw [k1]; exact hG) (by rw [j1]; exact hH) e
  rw [ec, ea] at k1 k2
  exact ⟨k1.symm.trans j1, k2.symm.trans j2⟩
theorem cntB_cnt (P : Nat → Bool) (n : Nat) : cntB P n = (List.range n).countP fun v => decide (1 ≤ v) && P v := by
  induction n with
  | zero => rfl
  | succ n ih =>
    show cntB P n + (if 1 ≤ n ∧ P n = true then 1 else 0) = _
    rw [ih, List.range_succ, List.countP_append, List.countP_singleton]
    congr 1
    by_cases q : 1 ≤ n ∧ P n = true
    · rw [if_pos q, if_pos (by simpa using q)]
    · rw [if_neg q, if_neg (by simpa using q)]
theorem comes_dec : ∀ p : Bool, ∀ s, s < 4 → ∀ t, t < 4 → (s == 0 || (s == 1 && !p) || (s == 3 && p)) = true → (t == 0 || (t == 1 && !p) || (t == 3 && p)) = true → s % 2 = t % 2 → s = t := by decide
theorem comes_par {X : Cr} {s t : Nat} (hs : s < 4) (ht : t < 4) (e1 : X.comes s = true) (e2 : X.comes t = true) (e : s % 2 = t % 2) : s = t := by
  exact comes_dec X.plus s hs t ht e1 e2 e
/-- There are no more numbers than sides that come in. -/
theorem Lft.many {C : List Cr} {loops : Int} {G L : List Nat} {P : Nat → Bool} (h : Lft C loops G L P) : cntB P (2 * C.length + 1) ≤ 2 * posG G C.length := by
  have hw : ∀ v, ∃ a, v < 2 * C.length + 1 → 1 ≤ v → P v = true → 1 ≤ a ∧ a ≤ 2 * C.length ∧ L.getD a 0 = v ∧ toC C a ∉ G := fun v => by
    by_cases q : v < 2 * C.length + 1 ∧ 1 ≤ v ∧ P v = true
    · obtain ⟨q1, q2, q3⟩ := q
      have th := (h.hP v q2).1 q3
      rw [← h.hL] at th
      obtain ⟨-, a, ha, e, hg⟩ := (st_th h.hm h.go G v q2).1 th
      rw [h.hL] at e
      have a1 : 1 ≤ a := by
        rcases Nat.eq_zero_or_pos a with rfl | hp
        · have := h.least.le (v := 0) (by omega); omega
        · exact hp
      unfold goneB at hg
      rw [if_neg (by omega)] at hg
      exact ⟨a, fun _ _ _ => ⟨a1, by omega, e, by simpa using hg⟩⟩
    · exact ⟨0, fun q1 q2 q3 => absurd ⟨q1, q2, q3⟩ q⟩
  obtain ⟨w, hw⟩ := Classical.axiomOfChoice hw
  have hr := cntB_cnt P (2 * C.length + 1)
  have hc : (List.range (2 * posG G C.length)).countP (fun _ => true) = 2 * posG G C.length := by
    rw [List.countP_eq_length.2 fun _ _ => rfl, List.length_range]
  rw [hr, ← hc]
  refine inj_cnt (fun v => 2 * posG G (toC C (w v)) + toS C (w v) % 2) (fun v hv hP => ?_) fun u v hu hv hPu hPv e => ?_
  · simp only [Bool.and_eq_true, decide_eq_true_eq] at hP
    obtain ⟨a1, a2, a3, a4⟩ := hw v hv hP.1 hP.2
    have t := (to_may h.hm _ a1 a2).2.1
    have := posG_lt t a4
    exact ⟨by show 2 * posG G (toC C (w v)) + toS C (w v) % 2 < _; omega, rfl⟩
  · simp only [Bool.and_eq_true, decide_eq_true_eq] at hPu hPv
    obtain ⟨a1, a2, a3, a4⟩ := hw u hu hPu.1 hPu.2
    obtain ⟨b1, b2, b3, b4⟩ := hw v hv hPv.1 hPv.2
    obtain ⟨-, t1, t2, t3, t4⟩ := to_may h.hm _ a1 a2
    obtain ⟨-, u1, u2, u3, u4⟩ := to_may h.hm _ b1 b2
    have e : 2 * posG G (toC C (w u)) + toS C (w u) % 2 = 2 * posG G (toC C (w v)) + toS C (w v) % 2 := e
    have ek := posG_inj a4 b4 (by omega)
    rw [ek] at t3 t4
    have es := comes_par t2 u2 t4 u4 (by omega)
    rw [es, u3] at t3
    rw [← a3, ← b3, show w u = w v by omega]
end Go.Proofs.Ytagaajlbkfkaiaa
/- Plain mathematics: what is left may be a diagram; its darts; strands passed straight. -/
namespace Go.Proofs.Ytagaajlbkfkaiaa

theorem sd_zeroT {x : Cr} {a : Int} {p : Bool} : ∀ k, (∀ t, t < k → ¬(x.arc t = a ∧ x.comes t = p)) → sd x a p k = 0
  | 0, _ => rfl
  | k + 1, h => by rw [sd, sd_zeroT k (fun t ht => h t (by omega)), if_neg (h k (by omega))]
theorem sdTo_zeroT {C : List Cr} {a : Int} {p : Bool} : ∀ i, (∀ j t, j < i → t < 4 → ¬((C.getD j Cr.none).arc t = a ∧ (C.getD j Cr.none).comes t = p)) → sdTo C a p i = 0
  | 0, _ => rfl
  | i + 1, h => by rw [sdTo, sdTo_zeroT i (fun j t hj ht => h j t (by omega) ht), sd_zeroT 4 (fun t ht => h i t (by omega) ht)]
theorem may_one {D : List Cr} {l : Int} (hs : sizeB D l = true) (hr : ∀ k s, k < D.length → s < 4 → 1 ≤ (D.getD k Cr.none).arc s ∧ (D.getD k Cr.none).arc s ≤ 2 * (D.length : Int))
    (one : ∀ i k j t, i < D.length → k < 4 → j < D.length → t < 4 → (D.getD j Cr.none).arc t = (D.getD i Cr.none).arc k → (D.getD j Cr.none).comes t = (D.getD i Cr.none).comes k → j = i ∧ t = k) : mayD D l = true := by
  refine fit_yes hs fun i k hi hk => ?_
  obtain ⟨h1, h2⟩ := hr i k hi hk
  refine ⟨h1, h2, ?_⟩
  unfold ahd
  rw [sdTo_zeroT i (fun j t hj ht h => by have := (one i k j t hi hk (by omega) ht h.1 h.2).1; omega), sd_zeroT k (fun t ht h => by have := (one i k i t hi hk hi (by omega) h.1 h.2).2; omega)]
theorem Lft.len {C : List Cr} {G L : List Nat} {P : Nat → Bool} : (lft C G L P).length = posG G C.length := reTo_pos ..
/-- What is left may be a diagram, where the sizes allow it. -/
theorem Lft.may {C : List Cr} {loops lo : Int} {G L : List Nat} {P : Nat → Bool} (h : Lft C loops G L P) (hs : sizeB (lft C G L P) lo = true) : mayD (lft C G L P) lo = true := by
  refine may_one hs (fun i s hi hs => ?_) fun i s j t hi hs hj ht ea ec => ?_
  · rw [Lft.len] at hi ⊢
    obtain ⟨k, k1, k2, rfl⟩ := posG_onto hi
    obtain ⟨e1, e2, e3, -⟩ := h.at k1 k2 hs
    obtain ⟨-, -, a1, a2⟩ := en_side h.hm k s k1 hs
    have hlt := h.least.lt (v := aAt C k s) (by omega)
    have h1 := cntB_lt e3 e2 hlt
    have h2 := h.many
    rw [e1]
    omega
  · rw [Lft.len] at hi hj
    obtain ⟨k, k1, k2, rfl⟩ := posG_onto hi
    obtain ⟨m, m1, m2, rfl⟩ := posG_onto hj
    obtain ⟨e1, e2, e3, e4⟩ := h.at k1 k2 hs
    obtain ⟨f1, f2, f3, f4⟩ := h.at m1 m2 ht
    rw [e1, f1] at ea
    rw [e4, f4] at ec
    have el := cntB_inj f3 f2 e3 e2 (by omega)
    obtain ⟨q1, q2⟩ := h.one m1 m2 ht k1 k2 hs el ec
    exact ⟨by rw [q1], q2⟩
/-- The number of an arc of which there is something left. -/
theorem Lft.arc {C : List Cr} {loops : Int} {G L : List Nat} {P : Nat → Bool} (h : Lft C loops G L P) {k s : Nat} (hk : k < C.length) (hG : k ∉ G) (hs : s < 4) : aAt (lft C G L P) (posG G k) s = cntB P (L.getD (aAt C k s) 0) + 1 := by
  have := (h.at hk hG hs).1
  show (((lft C G L P).getD (posG G k) Cr.none).arc s).toNat = _
  rw [this, Int.toNat_natCast]
theorem comes_opp (X : Cr) {s : Nat} (hs : s < 4) : X.comes ((s + 2) % 4) = !X.comes s := by
  have : ∀ p : Bool, ∀ s, s < 4 → ((s + 2) % 4 == 0 || ((s + 2) % 4 == 1 && !p) || ((s + 2) % 4 == 3 && p)) = !(s == 0 || (s == 1 && !p) || (s == 3 && p)) := by decide
  exact this X.plus s hs
theorem ein_arc {C : List Cr} {loops : Int} (hm : mayD C loops = true) {k s : Nat} (hk : k < C.length) (hs : s < 4) : dA (ein C k s) = aAt C k s ∧ dB (ein C k s) = !(C.getD k Cr.none).comes s := by
  obtain ⟨e, -, -, h1, h2⟩ := pd_at hm k s hk hs
  obtain ⟨-, -, a3, a4⟩ := al_may h1 h2
  have p := (en_side hm k s hk hs).2.2.1
  unfold ein
  rw [a3, a4, e, dA_mk p, dB_mk p]
  exact ⟨rfl, rfl⟩
/-- Straight on, the strand and the way are the same. -/
theorem Lft.straight {C : List Cr} {loops : Int} {G L : List Nat} {P : Nat → Bool} (h : Lft C loops G L P) {z : Nat} (z1 : 1 ≤ z) (z2 : z ≤ 4 * C.length) (hz : dC C z ∈ G) : L.getD (dA (fs C G z)) 0 = L.getD (dA z) 0 ∧ dB (fs C G z) = dB z := by
  obtain ⟨g1, g2, g3⟩ := ein_onto h.hm z1 z2
  generalize dC C z = k at g1 g3 hz
  generalize dS C z = s at g2 g3
  subst g3
  have s2 : (s + 2) % 4 < 4 := by omega
  obtain ⟨e1, e2⟩ := ein_arc h.hm g1 g2
  obtain ⟨p1, p2, p3, p4⟩ := en_side h.hm k s g1 g2
  obtain ⟨q1, q2, q3, q4⟩ := en_side h.hm k ((s + 2) % 4) g1 s2
  rw [fs_in h.hm g1 g2 hz, (pd_at h.hm k ((s + 2) % 4) g1 s2).1, dA_mk q3, dB_mk q3, e1, e2]
  refine ⟨?_, comes_opp _ g2⟩
  rw [comes_opp _ g2] at q1 q2
  refine (h.least.same (by omega) (by omega)).2 ?_
  cases hc : (C.getD k Cr.none).comes s with
  | true =>
    rw [hc] at p1 p2
    refine (Con.edge (mem_uTo.2 ⟨aAt C k s, p3, p4, by have q : toC C (aAt C k s) = k := p1; rw [q]; exact hz, ?_⟩)).symm
    have t1 : toC C (aAt C k s) = k := p1
    have t2 : toS C (aAt C k s) = s := p2
    unfold nx
    rw [t1, t2]
    rfl
  | false =>
    rw [hc] at q1 q2
    refine Con.edge (mem_uTo.2 ⟨aAt C k ((s + 2) % 4), q3, q4, by have q : toC C (aAt C k ((s + 2) % 4)) = k := q1; rw [q]; exact hz, ?_⟩)
    have t1 : toC C (aAt C k ((s + 2) % 4)) = k := q1
    have t2 : toS C (aAt C k ((s + 2) % 4)) = (s + 2) % 4 := q2
    unfold nx
    rw [t1, t2, show ((s + 2) % 4 + 2) % 4 = s by omega]
    rfl
end Go.Proofs.Ytagaajlbkfkaiaa

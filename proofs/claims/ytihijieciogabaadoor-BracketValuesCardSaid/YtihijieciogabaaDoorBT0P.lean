/- Several texts of the proof, one behind the other. -/
import Derived.Test.YtihijieciogabaaDoorPB6P
/- Burau's tables: plain mathematics of polynomials as functions. -/
namespace Go.Proofs.YtihijieciogabaaDoor.Poly
open Go.RowKit Go.Maps

theorem few_natsB : ∀ (n : Nat) (l : List Nat), l.Pairwise (· ≠ ·) → (∀ x ∈ l, x < n) → l.length ≤ n := by
  intro n
  induction n with
  | zero =>
    intro l _ h
    cases l with
    | nil => simp
    | cons x l => exact absurd (h x (by simp)) (by omega)
  | succ n ih =>
    intro l hp h
    have h1 := ih (l.filter fun x => x != n) (hp.sublist List.filter_sublist) (fun x hx => by
      simp only [List.mem_filter, bne_iff_ne, ne_eq] at hx
      have := h x hx.1
      omega)
    have h2 : ∀ (l : List Nat), l.Pairwise (· ≠ ·) → l.length ≤ (l.filter fun x => x != n).length + 1 := by
      intro l hp
      induction l with
      | nil => simp
      | cons x l ihl =>
        rw [List.pairwise_cons] at hp
        by_cases hx : x = n
        · have e : (l.filter fun x => x != n) = l := by
            rw [List.filter_eq_self]
            intro y hy
            have := hp.1 y hy
            simp only [bne_iff_ne, ne_eq]
            omega
          simp [hx, e]
        · have := ihl hp.2
          simp [hx]
          omega
    have := h2 l hp
    omega


theorem few_intsB (K : Nat) (l : List Int) (hp : l.Pairwise (· ≠ ·)) (h : ∀ x ∈ l, -(K : Int) ≤ x ∧ x ≤ K) : l.length ≤ 2 * K + 1 := by
  have := few_natsB (2 * K + 1) (l.map fun x : Int => (x + (K : Int)).toNat) (by
    rw [List.pairwise_map]
    refine List.Pairwise.imp_of_mem ?_ hp
    intro a b ha hb hab e
    have := h a ha
    have := h b hb
    omega) (fun x hx => by
    simp only [List.mem_map] at hx
    obtain ⟨y, hy, rfl⟩ := hx
    have := h y hy
    omega)
  simpa using this


theorem canon_lenB {l : List (Int × Int)} {f : Int → Int} (h : Canon l f) (K : Nat) (hf : ∀ x, f x ≠ 0 → -(K : Int) ≤ x ∧ x ≤ K) : l.length ≤ 2 * K + 1 := by
  have := few_intsB K (l.map Prod.fst) (by
    rw [List.pairwise_map]
    exact h.1.imp fun hab => by omega) (fun x hx => by
    simp only [List.mem_map] at hx
    obtain ⟨t, ht, rfl⟩ := hx
    have := (h.2 t.1 t.2).1 ht
    exact hf t.1 (by rw [this.1]; exact this.2))
  simpa using this


theorem canon_coefB {l : List (Int × Int)} {f : Int → Int} (h : Canon l f) (x : Int) : coefL l x = f x := by
  have hn : l.Pairwise (fun a b => a.1 ≠ b.1) := h.1.imp fun hab => by omega
  have hz : ∀ t ∈ l, t.2 ≠ 0 := fun t ht => ((h.2 t.1 t.2).1 ht).2
  by_cases h0 : f x = 0
  · rw [h0]
    by_cases h1 : coefL l x = 0
    · exact h1
    · have := (coefL_mem hn hz x (coefL l x)).2 ⟨rfl, h1⟩
      have := ((h.2 x (coefL l x)).1 this).1
      rw [h0] at this
      exact this.symm
  · have := (h.2 x (f x)).2 ⟨rfl, h0⟩
    exact ((coefL_mem hn hz x (f x)).1 this).1


theorem take_bdB {l : List (Int × Int)} {f : Int → Int} (h : Canon l f) (M : Int) (hM : 0 ≤ M) (hf : ∀ x, -M ≤ f x ∧ f x ≤ M) (k : Nat) (x : Int) : -M ≤ coefL (l.take k) x ∧ coefL (l.take k) x ≤ M := by
  by_cases h0 : coefL (l.take k) x = 0
  · rw [h0]; omega
  · have hr : (l.take k).Pairwise (fun s t => s.1 ≠ t.1) := ((h.1.imp fun hab => by omega : l.Pairwise (fun s t => s.1 ≠ t.1))).sublist (List.take_sublist _ _)
    have h1 := (coefL_mem hr (fun t ht => ((h.2 t.1 t.2).1 (List.mem_of_mem_take ht)).2) x (coefL (l.take k) x)).2 ⟨rfl, h0⟩
    have h2 := ((h.2 _ _).1 (List.mem_of_mem_take h1)).1
    rw [← h2]
    exact hf x

theorem take_suppB {l : List (Int × Int)} {f : Int → Int} (h : Canon l f) (K : Int) (hf : ∀ x, f x ≠ 0 → -K ≤ x ∧ x ≤ K) (k : Nat) (x : Int) (hx : coefL (l.take k) x ≠ 0) : -K ≤ x ∧ x ≤ K := by
  have hr : (l.take k).Pairwise (fun s t => s.1 ≠ t.1) := ((h.1.imp fun hab => by omega : l.Pairwise (fun s t => s.1 ≠ t.1))).sublist (List.take_sublist _ _)
  have h1 := (coefL_mem hr (fun t ht => ((h.2 t.1 t.2).1 (List.mem_of_mem_take ht)).2) x (coefL (l.take k) x)).2 ⟨rfl, hx⟩
  have h2 := (h.2 _ _).1 (List.mem_of_mem_take h1)
  exact hf x (by rw [h2.1]; exact h2.2)

theorem coll_lenB {D : DataW Unit} {left : Lit → Bool} {acc : List (Int × Int)} (h : Coll D left acc) (N : Nat) (hK : KeysIn D (N : Int)) : acc.length ≤ 2 * N + 1 := by
  have := few_intsB N (acc.map Prod.fst) (by
    rw [List.pairwise_map]
    exact h.once) (fun x hx => by
    simp only [List.mem_map] at hx
    obtain ⟨t, ht, rfl⟩ := hx
    have h1 := (h.mem t.1 t.2).1 ht
    refine hK t.1 ?_
    cases hh : Maps.has D (.int .i64 t.1) with
    | true => rfl
    | false => rw [coefOf_none hh] at h1; exact absurd h1.2.1.symm h1.2.2)
  simpa using this


theorem prodL_point (a : List (Int × Int)) (z d y : Int) : prodL a (fun u => if z = u then d else 0) y = d * coefL a (y - z) := by
  induction a with
  | nil => simp [prodL, coefL]
  | cons t a ih =>
    simp only [prodL, coefL, ih, Int.mul_add]
    congr 1
    by_cases e : t.1 = y - z
    · rw [if_pos (by omega), if_pos e, Int.mul_comm]
    · rw [if_neg (by omega), if_neg e]; simp
theorem prodL_sum (a : List (Int × Int)) (f g : Int → Int) (y : Int) : prodL a (fun u => f u + g u) y = prodL a f y + prodL a g y := by
  induction a with
  | nil => simp [prodL]
  | cons t a ih => simp only [prodL, ih, Int.mul_add]; omega
/-- The product may be told from either side. -/
theorem prodL_comm (a b : List (Int × Int)) (y : Int) : prodL a (coefL b) y = prodL b (coefL a) y := by
  induction b with
  | nil =>
    have : ∀ a : List (Int × Int), prodL a (coefL []) y = 0 := fun a => by
      induction a with
      | nil => rfl
      | cons t a ih =>
        show t.2 * coefL [] (y - t.1) + prodL a (coefL []) y = 0
        rw [ih]
        show t.2 * 0 + 0 = 0
        omega
    rw [this]
    rfl
  | cons t b ih =>
    have e : coefL (t :: b) = fun u => (if t.1 = u then t.2 else 0) + coefL b u := rfl
    rw [e, prodL_sum, prodL_point, ih]
    rfl
theorem prodL_congr (a : List (Int × Int)) (f g : Int → Int) (h : ∀ u, f u = g u) (y : Int) : prodL a f y = prodL a g y := by rw [show f = g from funext h]
/-- What a list of different terms tells is what the function tells that it lists. -/
theorem coefL_of {acc : List (Int × Int)} {f : Int → Int} (h : ∀ x c, (x, c) ∈ acc ↔ (f x = c ∧ c ≠ 0)) (hp : acc.Pairwise (fun a b => a.1 ≠ b.1)) (x : Int) : coefL acc x = f x := by
  have hz : ∀ t ∈ acc, t.2 ≠ 0 := fun t ht => ((h t.1 t.2).1 ht).2
  by_cases h0 : f x = 0
  · by_cases h1 : coefL acc x = 0
    · rw [h0, h1]
    · have := (coefL_mem hp hz x (coefL acc x)).2 ⟨rfl, h1⟩
      exact ((h x _).1 this).1.symm
  · have := (h x (f x)).2 ⟨rfl, h0⟩
    exact ((coefL_mem hp hz x (f x)).1 this).1

/-- Burau's table: one row behind one letter more, at its two places. -/
def buL (x : Int) (L R : Int → Int) (y : Int) : Int := if 0 < x then L y - L (y - 1) + R y else R (y + 1)
def buR (x : Int) (L R : Int → Int) (y : Int) : Int := if 0 < x then L (y - 1) else L y + R y - R (y + 1)
/-- A row behind a letter. -/
def buS (x : Int) (F : Nat → Int → Int) (c : Nat) : Int → Int := if c + 1 = x.natAbs then buL x (F (x.natAbs - 1)) (F x.natAbs) else if c = x.natAbs then buR x (F (x.natAbs - 1)) (F x.natAbs) else F c
/-- Burau's table behind k letters. -/
def buT (l : List Int) : Nat → Nat → Nat → Int → Int
  | 0, r, c, y => if r = c ∧ y = 0 then 1 else 0
  | k + 1, r, c, y => buS (l.getD k 0) (buT l k r) c y
theorem buT_next (l : List Int) (k r c : Nat) : buT l (k + 1) r c = buS (l.getD k 0) (buT l k r) c := rfl
/-- Coefficients and exponents are not too great. -/
structure BuOk (H K : Nat) (f : Int → Int) : Prop where
  bd : ∀ y, -(H : Int) ≤ f y ∧ f y ≤ H
  sp : ∀ y, f y ≠ 0 → -(K : Int) ≤ y ∧ y ≤ K
theorem BuOk.mono {H K H' K' : Nat} {f : Int → Int} (h : BuOk H K f) (h1 : H ≤ H') (h2 : K ≤ K') : BuOk H' K' f := ⟨fun y => by have := h.bd y; omega, fun y hy => by have := h.sp y hy; omega⟩
theorem buL_ok {H K : Nat} {L R : Int → Int} (x : Int) (h1 : BuOk H K L) (h2 : BuOk H K R) : BuOk (3 * H) (K + 1) (buL x L R) := by
  refine ⟨fun y => ?_, fun y hy => ?_⟩
  · unfold buL
    have a := h1.bd y
    have b := h1.bd (y - 1)
    have c := h2.bd y
    have d := h2.bd (y + 1)
    split <;> omega
  · by_cases e1 : L y = 0
    · by_cases e2 : L (y - 1) = 0
      · by_cases e3 : R y = 0
        · by_cases e4 : R (y + 1) = 0
          · exfalso
            apply hy
            unfold buL
            split <;> omega
          · have := h2.sp _ e4; omega
        · have := h2.sp _ e3; omega
      · have := h1.sp _ e2; omega
    · have := h1.sp _ e1; omega
theorem buR_ok {H K : Nat} {L R : Int → Int} (x : Int) (h1 : BuOk H K L) (h2 : BuOk H K R) : BuOk (3 * H) (K + 1) (buR x L R) := by
  refine ⟨fun y => ?_, fun y hy => ?_⟩
  · unfold buR
    have a := h1.bd y
    have b := h1.bd (y - 1)
    have c := h2.bd y
    have d := h2.bd (y + 1)
    split <;> omega
  · by_cases e1 : L y = 0
    · by_cases e2 : L (y - 1) = 0
      · by_cases e3 : R y = 0
        · by_cases e4 : R (y + 1) = 0
          · exfalso
            apply hy
            unfold buR
            split <;> omega
          · have := h2.sp _ e4; omega
        · have := h2.sp _ e3; omega
      · have := h1.sp _ e2; omega
    · have := h1.sp _ e1; omega
theorem buT_ok (l : List Int) (k r c : Nat) : BuOk (3 ^ k) k (buT l k r c) := by
  induction k generalizing c with
  | zero =>
    refine ⟨fun y => ?_, fun y hy => ?_⟩
    · show -((3 ^ 0 : Nat) : Int) ≤ (if r = c ∧ y = 0 then 1 else 0) ∧ (if r = c ∧ y = 0 then 1 else 0) ≤ ((3 ^ 0 : Nat) : Int)
      rw [Nat.pow_zero]
      split <;> omega
    · have h0 : (if r = c ∧ y = 0 then (1 : Int) else 0) ≠ 0 := hy
      by_cases e : r = c ∧ y = 0
      · omega
      · rw [if_neg e] at h0; exact absurd rfl h0
  | succ k ih =>
    rw [buT_next]
    have e3 : 3 ^ (k + 1) = 3 * 3 ^ k := by rw [Nat.pow_succ, Nat.mul_comm]
    rw [e3]
    unfold buS
    split
    · exact buL_ok _ (ih _) (ih _)
    · split
      · exact buR_ok _ (ih _) (ih _)
      · exact (ih c).mono (by omega) (by omega)
theorem buT_big (l : List Int) (k r c : Nat) (hk : k ≤ 20) : BuOk 3486784401 20 (buT l k r c) := (buT_ok l k r c).mono (Nat.le_trans (Nat.pow_le_pow_right (by decide) hk) (by decide)) hk
/-- The four products of a letter. -/
theorem pos_L (x : Int) (hx : 0 < x) (L R : Int → Int) (y : Int) : prodL [(0, 1), (1, -1)] L y + prodL [(0, 1)] R y = buL x L R y := by
  unfold buL
  rw [if_pos hx]
  simp only [prodL, Int.sub_zero]
  omega
theorem pos_R (x : Int) (hx : 0 < x) (L R : Int → Int) (y : Int) : prodL [(1, 1)] L y + prodL [] R y = buR x L R y := by
  unfold buR
  rw [if_pos hx]
  simp only [prodL]
  omega
theorem neg_L (x : Int) (hx : ¬ 0 < x) (L R : Int → Int) (y : Int) : prodL [] L y + prodL [(-1, 1)] R y = buL x L R y := by
  unfold buL
  rw [if_neg hx]
  simp only [prodL]
  rw [show y - -1 = y + 1 by omega]
  omega
theorem neg_R (x : Int) (hx : ¬ 0 < x) (L R : Int → Int) (y : Int) : prodL [(0, 1)] L y + prodL [(-1, -1), (0, 1)] R y = buR x L R y := by
  unfold buR
  rw [if_neg hx]
  simp only [prodL, Int.sub_zero]
  rw [show y - -1 = y + 1 by omega]
  omega
end Go.Proofs.YtihijieciogabaaDoor.Poly
/- Burau's tables: the walks of terms.Work's Plus and Times with greater coefficients and bounded keys. -/
namespace Go.Proofs.YtihijieciogabaaDoor.Poly
open Go.RowKit Go.Maps

theorem mul_bdB {c g : Int} (h0 : -10000000000 ≤ c) (h1 : c ≤ 10000000000) (h2 : -100 ≤ g) (h3 : g ≤ 100) : -1000000000000 ≤ c * g ∧ c * g ≤ 1000000000000 := by
  have e1 : (c * g).natAbs ≤ 10000000000 * 100 := by
    rw [Int.natAbs_mul]
    exact Nat.mul_le_mul (by omega) (by omega)
  omega
theorem prodL_bdB (a : List (Int × Int)) (g : Int → Int) (y : Int) (ha : ∀ t ∈ a, -10000000000 ≤ t.2 ∧ t.2 ≤ 10000000000) (hg : ∀ x, -100 ≤ g x ∧ g x ≤ 100) :
    -(1000000000000 * (a.length : Int)) ≤ prodL a g y ∧ prodL a g y ≤ 1000000000000 * (a.length : Int) := by
  induction a with
  | nil => simp [prodL]
  | cons t a ih =>
    have h1 := ih (fun s hs => ha s (List.mem_cons_of_mem _ hs))
    have h2 := ha t List.mem_cons_self
    have h3 := hg (y - t.1)
    have h4 := mul_bdB h2.1 h2.2 h3.1 h3.2
    simp only [prodL, List.length_cons]
    omega
theorem prodL_leB (a : List (Int × Int)) (g : Int → Int) (y : Int) {K : Nat} (hl : a.length ≤ 2 * K + 1) (hK : K ≤ 900) (ha : ∀ t ∈ a, -10000000000 ≤ t.2 ∧ t.2 ≤ 10000000000) (hg : ∀ x, -100 ≤ g x ∧ g x ≤ 100) :
    -1000000000000000000 ≤ prodL a g y ∧ prodL a g y ≤ 1000000000000000000 := by
  have := prodL_bdB a g y ha hg
  omega
theorem coll_bdB {D : DataW Unit} {left : Lit → Bool} {acc : List (Int × Int)} (h : Coll D left acc) (hb : ∀ x, -10000000000 ≤ coefOf D x ∧ coefOf D x ≤ 10000000000) : ∀ t ∈ acc, -10000000000 ≤ t.2 ∧ t.2 ≤ 10000000000 := by
  intro t ht
  have := (h.mem t.1 t.2).1 ht
  rw [← this.2.1]
  exact hb t.1

set_option maxHeartbeats 4000000 in
set_option maxRecDepth 100000 in
theorem plusB (bp np bq nq K : Nat) (Dp Dq : DataW Unit) (w : World) (hp : w.ownsMap Tryd.prog 3 (plainElem Tryd.prog 3) bp np Dp) (hq : w.ownsMap Tryd.prog 3 (plainElem Tryd.prog 3) bq nq Dq) (hnp : np ≤ 10000000000000000) (hnq : nq ≤ 10000000000000000) (hK : K ≤ 900)
    (hkp : KeysIn Dp (K : Int)) (hkq : KeysIn Dq (K : Int)) (hbp : ∀ x, -1000000000000 ≤ coefOf Dp x ∧ coefOf Dp x ≤ 1000000000000) (hbq : ∀ x, -1000000000000 ≤ coefOf Dq x ∧ coefOf Dq x ≤ 1000000000000) :
    Calls Tryd.prog 46 #[.map (some bp), .map (some bq)] w fun e w' => ∃ D : DataW Unit, e = .returned (.map (some w.heap.size)) ∧ w'.ownsMap Tryd.prog 3 (plainElem Tryd.prog 3) w.heap.size (np + nq) D ∧ (∀ x, coefOf D x = coefOf Dp x + coefOf Dq x) ∧ KeysIn D (K : Int) ∧ Below w.heap.size w w' := by
  have hmm := fun n => make46i n
  have hlp := hp.lt
  have hlq := hq.lt
  have hsp := size_le hp
  have hsq := size_le hq
  have HKP : Hid (KeysIn Dp (K : Int)) := hkp
  have HKQ : Hid (KeysIn Dq (K : Int)) := hkq
  have HBP : Hid _ := hbp
  have HBQ : Hid _ := hbq
  clear hkp hkq hbp hbq
  have e1 : (w.alloc (.map #[] 0)).heap.size = w.heap.size + 1 := by simp
  go_enter Tryd.func46, Tryd.ntmps46
  go_wp2_with (first
    | (at_len; refine wpList_len_own _ rfl _ 47 rfl 3 3 Tryd.underlying47 _ bp np _ rfl hp ?_)
    | (at_len; refine wpList_len_own _ rfl _ 47 rfl 3 3 Tryd.underlying47 _ bq nq _ rfl hq ?_)
    | (at_range; refine wpList_range_own _ rfl _ 47 rfl 3 3 law3 Tryd.underlying47 _ bp np _ rfl (hp.alloc _) ?_; intro w0 hrg0 hg0 hs0))
  go_frame
  rw [e1] at hrg0 hs0 ⊢
  go_loopw [6, 7] (fun _ _ wr => ∃ (left : Lit → Bool) (cnt k : Nat) (D : DataW Unit), wr.ranges Tryd.prog 3 (plainElem Tryd.prog 3) bp (w.heap.size + 1) np Dp left cnt ∧ k + cnt ≤ np ∧
      wr.ownsMap Tryd.prog 3 (plainElem Tryd.prog 3) w.heap.size k D ∧ Hid (∀ x, coefOf D x = part left (coefOf Dp) x) ∧ Hid (KeysIn D (K : Int)) ∧ Below w.heap.size w wr)
    (fun _ _ wr => wr.rangeLeft bp (w.heap.size + 1))
  case atStart =>
    exact ⟨_, _, 0, .map [], hrg0, by omega, (World.ownsMap_made _ _ _ _).kept hg0 (by simp), fun x => by rw [part_start]; exact coefOf_none rfl, (fun x hx => by cases hx), ((Below.refl _ _).alloc (Nat.le_refl _) _).grown hg0 (by simp) (fun j hj => by cases hj)⟩
  case round =>
    clear hrg0 hg0 hs0
    rename World => W1
    obtain ⟨left, cnt, k, D, hrg, hcs, hout, hD, hKD, hnx⟩ := hrel
    go_wp2_with (first
      | (at_next; refine wpList_next_ranges_ii _ rfl _ rfl 3 3 .i64 .i64 law3 Tryd.underlying3 Tryd.underlying3 bp (w.heap.size + 1) np _ _ _ rfl hrg ?_ ?_)
      | go_in)
    · intro hc0 hl0
      have hD2 : Hid (∀ x, coefOf D x = coefOf Dp x) := fun x => by rw [hD.out, part_end hl0]
      have hq2 := map_on hq hnx hlq
      have hlr := hq2.lt
      have hsz := hnx.size
      have hol := hout.lt
      clear hD hc0 hl0
      go_wp2_with (first
        | (at_range; refine wpList_range_own _ rfl _ 47 rfl 3 3 law3 Tryd.underlying47 _ bq nq _ rfl hq2 ?_; intro w2 hrg2 hg2 hs2))
      go_frame
      go_loopw [8, 9] (fun _ _ ws => ∃ (left : Lit → Bool) (cnt k : Nat) (D : DataW Unit), ws.ranges Tryd.prog 3 (plainElem Tryd.prog 3) bq W1.heap.size nq Dq left cnt ∧ k + cnt ≤ np + nq ∧
          ws.ownsMap Tryd.prog 3 (plainElem Tryd.prog 3) w.heap.size k D ∧ Hid (∀ x, coefOf D x = coefOf Dp x + part left (coefOf Dq) x) ∧ Hid (KeysIn D (K : Int)) ∧ Below w.heap.size w ws)
        (fun _ _ ws => ws.rangeLeft bq W1.heap.size)
      case atStart =>
        exact ⟨_, _, k, D, hrg2, by omega, hout.kept hg2 (by simp), fun x => by rw [part_start, hD2.out]; omega, hKD.out, hnx.grown hg2 hsz (fun j hj => by cases hj)⟩
      case round =>
        clear hrg2 hg2 hs2 hout hnx hrg hKD
        obtain ⟨left, cnt, k, D, hrg, hcs, hout, hD, hKD, hnx⟩ := hrel
        go_wp2_with (first
          | (at_next; refine wpList_next_ranges_ii _ rfl _ rfl 3 3 .i64 .i64 law3 Tryd.underlying3 Tryd.underlying3 bq W1.heap.size nq _ _ _ rfl hrg ?_ ?_)
          | go_in)
        · intro hc0 hl0
          go_wp2
          go_ret
          exact ⟨D, rfl, hout.mono (by omega), fun x => by rw [hD.out, part_end hl0], hKD.out, hnx⟩
        · intro x c w1 cnt1 hwx hwc hlx hat hrg1 hlt hg1 hs1 hen
          have hout1 := hout.kept hg1 (by intro e; have := Option.some.inj e; omega)
          have hnx1 : Below w.heap.size w w1 := hnx.grown hg1 hnx.size (fun j hj => by cases hj; exact hsz)
          have hx := HKQ.out x (has_at hat)
          have hcq := HBQ.out x
          have hcp := HBP.out x
          rw [coefOf_at hat] at hcq
          have HX : Hid (coefOf Dq x = c ∧ coefOf D x = coefOf Dp x) := ⟨coefOf_at hat, by rw [hD.out, part_at hlx]; omega⟩
          have HL : Hid _ := hlx
          have hdm := hout.isMap
          clear hat hlx
          go_wp2_with (first
            | (at_lookup; refine wpList_lookup_own_int _ rfl _ _ 47 rfl 3 3 .i64 law3 Tryd.underlying47 Tryd.underlying3 (zero3 _) w.heap.size k _ rfl hout1 _ _ rfl (keyOf_int_mk Tryd.underlying3 (WalkArith.wf_i64 (by omega))) ?_; intro c' hat hwc; refine Hid.out ?_))
          refine Lib.hid ?_
          have hc' : coefOf D x = c' := coefOf_look hat
          have hbd : -1000000000000 ≤ c' ∧ c' ≤ 1000000000000 := by rw [← hc', HX.out.2]; exact hcp
          have HC' : Hid (coefOf D x = c') := hc'
          clear hat hwc hc'
          go_wp2_with (first
            | (at_mapUpdate; refine wpList_mapUpdate_own _ rfl _ _ _ 47 rfl 3 3 law3 Tryd.underlying47 _ w.heap.size k _ rfl hout1 (by unfold maxLen; omega) _ _ _ rfl rfl (keyOf_int_mk Tryd.underlying3 (WalkArith.wf_i64 (by omega))) _ [] (plainElem_int Tryd.underlying3 (WalkArith.wf_i64 (by omega))) ?_; intro w3 hown3 hg3; go_frame))
          have hrg3 := hrg1.kept hg3 (fun e => by have := Option.some.inj e; omega) (fun e => by have := Option.some.inj e; omega)
          go_roundw
          case rel =>
            refine ⟨_, cnt1, k + 1, _, hrg3, by omega, hown3, fun y => ?_, keysIn_put hKD.out hx.1 hx.2 _, hnx1.grown hg3 hnx1.size (fun j hj => by cases hj; exact Nat.le_refl _)⟩
            rw [coefOf_put hdm, part_step]
            by_cases hxy : x = y
            · rw [if_pos hxy, if_pos hxy, ← HC'.out, HX.out.1, HX.out.2, hxy]
            · rw [if_neg hxy, if_neg hxy, hD.out]
          case measure => rw [hrg3.left_eq, hrg.left_eq]; exact hlt
    · intro x c w1 cnt1 hwx hwc hlx hat hrg1 hlt hg1 hs1 hen
      have hout1 := hout.kept hg1 (by simp)
      have hnx1 : Below w.heap.size w w1 := hnx.grown hg1 hnx.size (fun j hj => by cases hj; omega)
      have hx := HKP.out x (has_at hat)
      have HX : Hid (coefOf Dp x = c) := coefOf_at hat
      have HL : Hid _ := hlx
      have hdm := hout.isMap
      clear hat hlx
      go_wp2_with (first
        | (at_mapUpdate; refine wpList_mapUpdate_own _ rfl _ _ _ 47 rfl 3 3 law3 Tryd.underlying47 _ w.heap.size k _ rfl hout1 (by unfold maxLen; omega) _ _ _ rfl rfl (keyOf_int_mk Tryd.underlying3 hwx) _ [] (plainElem_int Tryd.underlying3 hwc) ?_; intro w2 hout2 hg2; go_frame))
      have hrg2 := hrg1.kept hg2 (fun e => by have := Option.some.inj e; omega) (fun e => by have := Option.some.inj e; omega)
      go_roundw
      case rel =>
        refine ⟨_, cnt1, k + 1, _, hrg2, by omega, hout2, fun y => ?_, keysIn_put hKD.out hx.1 hx.2 _, hnx1.grown hg2 hnx1.size (fun j hj => by cases hj; exact Nat.le_refl _)⟩
        rw [coefOf_put hdm, part_step]
        by_cases hxy : x = y
        · rw [if_pos hxy, if_pos hxy, HX.out]
        · rw [if_neg hxy, if_neg hxy, hD.out]
      case measure => rw [hrg2.left_eq, hrg.left_eq]; exact hlt
set_option maxHeartbeats 4000000 in
set_option maxRecDepth 100000 in
theorem timesB (bp np bq nq K : Nat) (Dp Dq : DataW Unit) (w : World) (hp : w.ownsMap Tryd.prog 3 (plainElem Tryd.prog 3) bp np Dp) (hq : w.ownsMap Tryd.prog 3 (plainElem Tryd.prog 3) bq nq Dq) (hnp : np ≤ 1000000000000000) (hnq : nq ≤ 2) (hK : K ≤ 900)
    (hkp : KeysIn Dp (K : Int)) (hkq : KeysIn Dq 1) (hbp : ∀ x, -10000000000 ≤ coefOf Dp x ∧ coefOf Dp x ≤ 10000000000) (hbq : ∀ x, -100 ≤ coefOf Dq x ∧ coefOf Dq x ≤ 100) :
    Calls Tryd.prog 18 #[.map (some bp), .map (some bq)] w fun e w' => ∃ (D : DataW Unit) (acc : List (Int × Int)), e = .returned (.map (some w.heap.size)) ∧ w'.ownsMap Tryd.prog 3 (plainElem Tryd.prog 3) w.heap.size (2 * np) D ∧ KeysIn D ((K : Int) + 1) ∧ (∀ y, coefOf D y = prodL acc (coefOf Dq) y) ∧
      (∀ x c, (x, c) ∈ acc ↔ (coefOf Dp x = c ∧ c ≠ 0)) ∧ acc.Pairwise (fun a b => a.1 ≠ b.1) ∧ Below w.heap.size w w' := by
  have hmm := @run_makeMap Tryd.prog
  have hlp := hp.lt
  have hlq := hq.lt
  have hsp := size_le hp
  have hsq := size_le hq
  have HKP : Hid (KeysIn Dp (K : Int)) := hkp
  have HKQ : Hid (KeysIn Dq 1) := hkq
  have HBP : Hid _ := hbp
  have HBQ : Hid _ := hbq
  clear hkp hkq hbp hbq
  have e1 : (w.alloc (.map #[] 0)).heap.size = w.heap.size + 1 := by simp
  go_enter Tryd.func18, Tryd.ntmps18
  go_wp2_with (first
    | (at_range; refine wpList_range_own _ rfl _ 47 rfl 3 3 law3 Tryd.underlying47 _ bp np _ rfl (hp.alloc _) ?_; intro w0 hrg0 hg0 hs0))
  go_frame
  rw [e1] at hrg0 hs0 ⊢
  go_loopw [6, 7, 8, 9] (fun _ _ _ _ wr => ∃ (left : Lit → Bool) (cnt k j : Nat) (D : DataW Unit) (acc : List (Int × Int)), wr.ranges Tryd.prog 3 (plainElem Tryd.prog 3) bp (w.heap.size + 1) np Dp left cnt ∧ j + cnt ≤ np ∧ k ≤ 2 * j ∧
      wr.ownsMap Tryd.prog 3 (plainElem Tryd.prog 3) w.heap.size k D ∧ Hid (Coll Dp left acc) ∧ Hid (∀ y, coefOf D y = prodL acc (coefOf Dq) y) ∧ Hid (KeysIn D ((K : Int) + 1)) ∧ Below w.heap.size w wr)
    (fun _ _ _ _ wr => wr.rangeLeft bp (w.heap.size + 1))
  case atStart =>
    exact ⟨_, _, 0, 0, .map [], [], hrg0, by omega, by omega, (World.ownsMap_made _ _ _ _).kept hg0 (by simp), coll_start Dp, fun y => coefOf_none rfl, (fun x hx => by cases hx), ((Below.refl _ _).alloc (Nat.le_refl _) _).grown hg0 (by simp) (fun j hj => by cases hj)⟩
  case round =>
    clear hrg0 hg0 hs0
    rename World => W1
    obtain ⟨left, cnt, k, j, D, acc, hrg, hcs, hkj, hout, hC, hD, hKD, hnx⟩ := hrel
    go_wp2_with (first
      | (at_next; refine wpList_next_ranges_ii _ rfl _ rfl 3 3 .i64 .i64 law3 Tryd.underlying3 Tryd.underlying3 bp (w.heap.size + 1) np _ _ _ rfl hrg ?_ ?_)
      | go_in)
    · intro hc0 hl0
      go_wp2
      go_ret
      exact ⟨D, acc, rfl, hout.mono (by omega), hKD.out, hD.out, fun x c => by rw [hC.out.mem]; simp [hl0], hC.out.once, hnx⟩
    · intro x c w1 cnt1 hwx hwc hlx hat hrg1 hlt hg1 hs1 hen
      have hx := HKP.out x (has_at hat)
      have hcp := HBP.out x
      rw [coefOf_at hat] at hcp
      have hout1 := hout.kept hg1 (by simp)
      have hnx1 : Below w.heap.size w w1 := hnx.grown hg1 hnx.size (fun j hj => by cases hj; omega)
      have hq1 := map_on hq hnx1 hlq
      have hsz1 := hnx1.size
      have hHB : Hid (∀ y, -1000000000000000000 ≤ prodL acc (coefOf Dq) y ∧ prodL acc (coefOf Dq) y ≤ 1000000000000000000) := fun y => prodL_leB acc (coefOf Dq) y (coll_lenB hC.out K HKP.out) hK (coll_bdB hC.out HBP.out) HBQ.out
      have HAT : Hid _ := hat
      have HL : Hid _ := hlx
      have hr1 : w.heap.size + 1 < w1.heap.size := hrg1.lt
      clear hat hlx hs1 hout hnx
      go_wp2_with (first
        | (at_range; refine wpList_range_own _ rfl _ 47 rfl 3 3 law3 Tryd.underlying47 _ bq nq _ rfl hq1 ?_; intro w2 hrg2 hg2 hs2))
      go_frame
      go_loopw [8, 9] (fun _ _ ws => ∃ (left2 : Lit → Bool) (cnt2 k2 : Nat) (D2 : DataW Unit), ws.ranges Tryd.prog 3 (plainElem Tryd.prog 3) bq w1.heap.size nq Dq left2 cnt2 ∧ k2 + cnt2 ≤ k + nq ∧
          ws.ranges Tryd.prog 3 (plainElem Tryd.prog 3) bp (w.heap.size + 1) np Dp (fun z => left z && !z.sameKey (.int .i64 x)) cnt1 ∧
          ws.ownsMap Tryd.prog 3 (plainElem Tryd.prog 3) w.heap.size k2 D2 ∧ Hid (∀ y, coefOf D2 y = prodL acc (coefOf Dq) y + part left2 (fun z => c * coefOf Dq z) (y - x)) ∧ Hid (KeysIn D2 ((K : Int) + 1)) ∧ Below w.heap.size w ws)
        (fun _ _ ws => ws.rangeLeft bq w1.heap.size)
      case atStart =>
        exact ⟨_, _, k, D, hrg2, by omega, hrg1.kept hg2 (by simp) (by simp), hout1.kept hg2 (by simp), fun y => by
          have : part (Maps.has Dq) (fun z => c * coefOf Dq z) (y - x) = 0 := by
            unfold part
            split
            · rfl
            · rename_i h
              show c * coefOf Dq (y - x) = 0
              rw [coefOf_none (by simpa using h)]; simp
          rw [this, hD.out]; omega, hKD.out, hnx1.grown hg2 hsz1 (fun j hj => by cases hj)⟩
      case round =>
        clear hrg2 hg2 hs2 hrg1 hg1 hen hout1 hnx1 hq1
        obtain ⟨left2, cnt2, k2, D2, hrq, hcs2, hrp, hout, hD2, hKD2, hnx⟩ := hrel
        go_wp2_with (first
          | (at_next; refine wpList_next_ranges_ii _ rfl _ rfl 3 3 .i64 .i64 law3 Tryd.underlying3 Tryd.underlying3 bq w1.heap.size nq _ _ _ rfl hrq ?_ ?_)
          | go_in)
        · intro hc0 hl0
          go_wp2
          go_roundw
          case rel =>
            have hfin : ∀ y, coefOf D2 y = prodL acc (coefOf Dq) y + c * coefOf Dq (y - x) := fun y => by rw [hD2.out, part_end hl0]
            by_cases hcz : c = 0
            · subst hcz
              exact ⟨_, cnt1, k2, j + 1, D2, acc, hrp, by omega, by omega, hout, coll_zero hC.out HAT.out, fun y => by rw [hfin]; simp, hKD2.out, hnx⟩
            · refine ⟨_, cnt1, k2, j + 1, D2, acc ++ [(x, c)], hrp, by omega, by omega, hout, coll_more hC.out HL.out hcz HAT.out, fun y => ?_, hKD2.out, hnx⟩
              rw [hfin, prodL_append]
              simp [prodL]
          case measure => rw [hrp.left_eq, hrg.left_eq]; exact hlt
        · intro x2 c2 w3 cnt3 hwx2 hwc2 hlx2 hat2 hrq3 hlt3 hg3 hs3 hen3
          have hx2 := HKQ.out x2 (has_at hat2)
          have hcq := HBQ.out x2
          rw [coefOf_at hat2] at hcq
          have hmul := mul_bdB hcp.1 hcp.2 hcq.1 hcq.2
          have hne1 : w.heap.size ≠ w1.heap.size := by omega
          have hout3 := hout.kept hg3 (by intro e; exact hne1 (Option.some.inj e))
          have hrp3 := hrp.kept hg3 (by intro e; have := Option.some.inj e; omega) (by intro e; have := Option.some.inj e; omega)
          have hnx3 : Below w.heap.size w w3 := hnx.grown hg3 hnx.size (fun j hj => by cases hj; exact hsz1)
          have HX : Hid (coefOf Dq x2 = c2 ∧ coefOf D2 (x + x2) = prodL acc (coefOf Dq) (x + x2)) := ⟨coefOf_at hat2, by
            rw [hD2.out, show x + x2 - x = x2 by omega, part_at hlx2]; omega⟩
          have hbd0 := hHB.out (x + x2)
          have hdm := hout.isMap
          have HH2 : Hid _ := hlx2
          clear hat2 hlx2 hs3
          go_wp2_with (first
            | (at_lookup; refine wpList_lookup_own_int _ rfl _ _ 47 rfl 3 3 .i64 law3 Tryd.underlying47 Tryd.underlying3 (zero3 _) w.heap.size k2 _ rfl hout3 _ _ rfl (keyOf_int_mk Tryd.underlying3 (WalkArith.wf_i64 (by omega))) ?_; intro c' hat hwc; refine Hid.out ?_))
          refine Lib.hid ?_
          have hc' : coefOf D2 (x + x2) = c' := coefOf_look hat
          have hbd : -1000000000000000000 ≤ c' ∧ c' ≤ 1000000000000000000 := by rw [← hc', HX.out.2]; exact hbd0
          have HC' : Hid (coefOf D2 (x + x2) = c') := hc'
          clear hat hwc hc' hbd0
          go_wp2_with (first
            | (at_mapUpdate; refine wpList_mapUpdate_own _ rfl _ _ _ 47 rfl 3 3 law3 Tryd.underlying47 _ w.heap.size k2 _ rfl hout3 (by unfold maxLen; omega) _ _ _ rfl rfl (keyOf_int_mk Tryd.underlying3 (WalkArith.wf_i64 (by omega))) _ [] (plainElem_int Tryd.underlying3 (WalkArith.wf_i64 (by omega))) ?_; intro w4 hown4 hg4; go_frame))
          have hrq4 := hrq3.kept hg4 (fun e => by have := Option.some.inj e; omega) (fun e => by have := Option.some.inj e; omega)
          have hrp4 := hrp3.kept hg4 (fun e => by have := Option.some.inj e; omega) (fun e => by have := Option.some.inj e; omega)
          go_roundw
          case rel =>
            refine ⟨_, cnt3, k2 + 1, _, hrq4, by omega, hrp4, hown4, fun y => ?_, keysIn_put hKD2.out (by omega) (by omega) _, hnx3.grown hg4 hnx3.size (fun j hj => by cases hj; exact Nat.le_refl _)⟩
            rw [coefOf_put hdm, part_step]
            by_cases hxy : x + x2 = y
            · have hyx : x2 = y - x := by omega
              rw [if_pos hxy, if_pos hyx, ← HC'.out, HX.out.2, HX.out.1, hxy]
            · have hyx : ¬ x2 = y - x := by omega
              rw [if_neg hxy, if_neg hyx, hD2.out]
          case measure => rw [hrq4.left_eq, hrq.left_eq]; exact hlt3
end Go.Proofs.YtihijieciogabaaDoor.Poly

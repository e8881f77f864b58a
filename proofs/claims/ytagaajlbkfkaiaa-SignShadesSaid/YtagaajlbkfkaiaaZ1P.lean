/- Several texts of the proof, one behind the other. -/
import Derived.Test.YtagaajlbkfkaiaaZ0
import Derived.Test.YtagaajlbkfkaiaaDart
import Derived.Test.YtagaajlbkfkaiaaInP
import Derived.Test.YtagaajlbkfkaiaaW2
import Derived.Test.YtagaajlbkfkaiaaW1
import Derived.Test.YtagaajlbkfkaiaaQueP
/- Plain mathematics: rings of a renaming are closed; in which face a dart lies. -/
namespace Go.Proofs.Ytagaajlbkfkaiaa

theorem un_le (l : List Bool) (y : Nat) : un l y ≤ 1 := by unfold un; split <;> omega
theorem unseen_none {l : List Bool} (h : unseen l = 0) (x : Nat) : l.getD x true = true := by
  cases e : l.getD x true with
  | true => rfl
  | false => have := unseen_pos e; omega
theorem walkF_chain (f : Nat → Nat) : ∀ (m : Nat) (seen : List Bool) (x : Nat) (acc : List Nat), unseen seen ≤ m → (∀ i, i + 1 < acc.length → acc.getD (i + 1) 0 = f (acc.getD i 0)) → (0 < acc.length → x = f (acc.getD (acc.length - 1) 0)) →
    (∀ i, i + 1 < (walkF f m seen x acc).1.length → (walkF f m seen x acc).1.getD (i + 1) 0 = f ((walkF f m seen x acc).1.getD i 0)) ∧ (0 < (walkF f m seen x acc).1.length → un (walkF f m seen x acc).2 (f ((walkF f m seen x acc).1.getD ((walkF f m seen x acc).1.length - 1) 0)) = 0) := by
  intro m
  induction m with
  | zero =>
    intro seen x acc hu hc hx
    refine ⟨hc, fun h0 => ?_⟩
    show un seen (f (acc.getD (acc.length - 1) 0)) = 0
    rw [← hx h0]
    unfold un
    rw [if_pos (unseen_none (by omega) x)]
  | succ m ih =>
    intro seen x acc hu hc hx
    by_cases hs : seen.getD x true = true
    · rw [walkF_seen hs]
      refine ⟨hc, fun h0 => ?_⟩
      show un seen (f (acc.getD (acc.length - 1) 0)) = 0
      rw [← hx h0]
      unfold un
      rw [if_pos hs]
    · have hs' : seen.getD x true = false := by simpa using hs
      obtain ⟨e, hu2⟩ := walkF_more (f := f) (acc := acc) hs' hu
      rw [e]
      refine ih _ _ _ hu2 (fun i hi => ?_) (fun _ => ?_)
      · rw [List.length_append, List.length_singleton] at hi
        by_cases hi2 : i + 1 < acc.length
        · have e1 : (acc ++ [x]).getD (i + 1) 0 = acc.getD (i + 1) 0 := by simp [List.getD_eq_getElem?_getD, List.getElem?_append_left hi2]
          have e2 : (acc ++ [x]).getD i 0 = acc.getD i 0 := by simp [List.getD_eq_getElem?_getD, List.getElem?_append_left (show i < acc.length by omega)]
          rw [e1, e2]
          exact hc i hi2
        · have hl : acc.length = i + 1 := by omega
          have e1 : (acc ++ [x]).getD (i + 1) 0 = x := by rw [← hl]; simp [List.getD_eq_getElem?_getD]
          have e2 : (acc ++ [x]).getD i 0 = acc.getD i 0 := by simp [List.getD_eq_getElem?_getD, List.getElem?_append_left (show i < acc.length by omega)]
          rw [e1, e2, hx (by omega), hl]
          rfl
      · have e1 : (acc ++ [x]).getD ((acc ++ [x]).length - 1) 0 = x := by simp [List.getD_eq_getElem?_getD]
        rw [e1]
theorem mem_atZ {l : List Nat} {y : Nat} (h : y ∈ l) : ∃ i, i < l.length ∧ l.getD i 0 = y := by
  obtain ⟨i, hi, e⟩ := List.getElem_of_mem h
  exact ⟨i, hi, by rw [List.getD_eq_getElem?_getD, List.getElem?_eq_getElem hi]; exact e⟩
theorem at_mem {l : List Nat} {i : Nat} (h : i < l.length) : l.getD i 0 ∈ l := by
  rw [List.getD_eq_getElem?_getD, List.getElem?_eq_getElem h]
  exact List.getElem_mem h
theorem at_ne {l : List Nat} (h : ∀ y, l.count y ≤ 1) {i j : Nat} (hij : i < j) (hj : j < l.length) : l.getD i 0 ≠ l.getD j 0 := by
  have hn : l.Nodup := List.nodup_iff_count.2 h
  have := List.pairwise_iff_getElem.1 hn i j (by omega) hj hij
  rw [List.getD_eq_getElem?_getD, List.getElem?_eq_getElem (by omega), List.getD_eq_getElem?_getD, List.getElem?_eq_getElem hj]
  exact this
/-- Rings of a renaming are closed, and nothing that is not in them goes into them. -/
theorem rings_closed {f : Nat → Nat} {n : Nat} (hf : ∀ a, 1 ≤ a → a ≤ n → 1 ≤ f a ∧ f a ≤ n) (hi : ∀ a b, 1 ≤ a → a ≤ n → 1 ≤ b → b ≤ n → f a = f b → a = b) : ∀ a, a ≤ n →
    (∀ l, l ∈ (walksTo f n a).1 → ∀ y, y ∈ l → f y ∈ l) ∧ (∀ y, 1 ≤ y → y ≤ n → un (walksTo f n a).2 (f y) = 0 → un (walksTo f n a).2 y = 0) ∧
    (∀ l, l ∈ (walksTo f n a).1 → (∀ i, i + 1 < l.length → l.getD (i + 1) 0 = f (l.getD i 0)) ∧ f (l.getD (l.length - 1) 0) = l.getD 0 0) := by
  intro a
  induction a with
  | zero =>
    intro _
    refine ⟨fun l hl => absurd hl (by simp [walksTo]), fun y h1 h2 h3 => ?_, fun l hl => absurd hl (by simp [walksTo])⟩
    have h4 := hf y h1 h2
    exfalso
    have : un (walksTo f n 0).2 (f y) = 1 := by
      simp [walksTo, un, List.getD_eq_getElem?_getD, show f y < n + 1 by omega]
    omega
  | succ a ih =>
    intro ha
    obtain ⟨i1, i2, i3⟩ := ih (by omega)
    have hin := walksTo_mem hf a (by omega)
    generalize hr : walksTo f n a = r at i1 i2 i3 hin
    have hlen : r.2.length = n + 1 := by rw [← hr]; exact walksTo_len f n a
    have hch := walkF_chain f (n + 1) r.2 (a + 1) [] (by have := unseen_le r.2; omega) (fun i hi => by simp at hi) (fun h0 => by simp at h0)
    have hmem := walkF_mem hf (n + 1) r.2 (a + 1) [] (by omega) ha (fun y hy => by cases hy)
    have hcnt := walkF_count f (n + 1) r.2 (a + 1) []
    have hkeep := walkF_keep f (n + 1) r.2 (a + 1) []
    have e : walksTo f n (a + 1) = (if (walkF f (n + 1) r.2 (a + 1) []).1 = [] then r.1 else r.1 ++ [(walkF f (n + 1) r.2 (a + 1) []).1], (walkF f (n + 1) r.2 (a + 1) []).2) := by simp only [walksTo, hr]
    rw [e]
    generalize walkF f (n + 1) r.2 (a + 1) [] = s at hch hmem hcnt hkeep
    obtain ⟨l, sn⟩ := s
    simp only [List.count_nil, Nat.zero_add] at hch hmem hcnt hkeep ⊢
    have hc1 : ∀ y, l.count y ≤ 1 := fun y => by have := hcnt y; have := un_le r.2 y; omega
    have hin1 : ∀ y, y ∈ l → un r.2 y = 1 ∧ un sn y = 0 := fun y hy => by
      have h1 : 1 ≤ l.count y := List.one_le_count_iff.2 hy
      have h2 := hcnt y
      have h3 := un_le r.2 y
      omega
    -- what stands behind the last is the first
    have hend : 0 < l.length → f (l.getD (l.length - 1) 0) = l.getD 0 0 := fun h0 => by
      have hlast := at_mem (l := l) (i := l.length - 1) (by omega)
      have hb := hmem _ hlast
      have hz := hch.2 h0
      have hnz : un r.2 (f (l.getD (l.length - 1) 0)) ≠ 0 := fun q => by
        have := i2 _ hb.1 hb.2 q
        have := (hin1 _ hlast).1
        omega
      have hz1 : f (l.getD (l.length - 1) 0) ∈ l := by
        have h2 := hcnt (f (l.getD (l.length - 1) 0))
        refine List.one_le_count_iff.1 ?_
        omega
      obtain ⟨j, hj, ej⟩ := mem_atZ hz1
      cases j with
      | zero => exact ej.symm
      | succ j =>
        exfalso
        have h5 := hch.1 j hj
        rw [ej] at h5
        have hbj := hmem _ (at_mem (l := l) (i := j) (by omega))
        have h6 := hi _ _ hb.1 hb.2 hbj.1 hbj.2 h5
        exact at_ne hc1 (i := j) (j := l.length - 1) (by omega) (by omega) h6.symm
    refine ⟨?_, fun y h1 h2 h3 => ?_, fun l' hl' => ?_⟩
    · intro l' hl' y hy
      by_cases hnil : l = []
      · rw [if_pos hnil] at hl'
        exact i1 l' hl' y hy
      · rw [if_neg hnil] at hl'
        rcases List.mem_append.1 hl' with h | h
        · exact i1 l' h y hy
        · obtain rfl := List.mem_singleton.1 h
          obtain ⟨i, hil, rfl⟩ := mem_atZ hy
          by_cases hlast : i + 1 < l'.length
          · rw [← hch.1 i hlast]
            exact at_mem hlast
          · have hi1 : i = l'.length - 1 := by omega
            rw [hi1, hend (by omega)]
            exact at_mem (by omega)
    · by_cases hq : un r.2 (f y) = 0
      · exact hkeep y (i2 y h1 h2 hq)
      · have hmy : f y ∈ l := List.one_le_count_iff.1 (by have := hcnt (f y); omega)
        obtain ⟨j, hj, ej⟩ := mem_atZ hmy
        cases j with
        | zero =>
          have hlast := at_mem (l := l) (i := l.length - 1) (by omega)
          have hb := hmem _ hlast
          have := hi y _ h1 h2 hb.1 hb.2 (by rw [hend (by omega), ej])
          rw [this]
          exact (hin1 _ hlast).2
        | succ j =>
          have h5 := hch.1 j hj
          rw [ej] at h5
          have hbj := hmem _ (at_mem (l := l) (i := j) (by omega))
          have := hi y _ h1 h2 hbj.1 hbj.2 h5
          rw [this]
          exact (hin1 _ (at_mem (by omega))).2
    · by_cases hnil : l = []
      · rw [if_pos hnil] at hl'
        exact i3 l' hl'
      · rw [if_neg hnil] at hl'
        rcases List.mem_append.1 hl' with h | h
        · exact i3 l' h
        · obtain rfl := List.mem_singleton.1 h
          have h0 : 0 < l'.length := by
            cases l' with
            | nil => exact absurd rfl hnil
            | cons => simp
          exact ⟨hch.1, hend h0⟩
theorem fd_inj {C : List Cr} {loops : Int} (hm : mayD C loops = true) (i j : Nat) (h1 : 1 ≤ i) (h2 : i ≤ 4 * C.length) (h3 : 1 ≤ j) (h4 : j ≤ 4 * C.length) (e : fd C i = fd C j) : i = j := by
  obtain ⟨p1, p2, p3⟩ := d_may hm i h1 h2
  obtain ⟨q1, q2, q3⟩ := d_may hm j h3 h4
  obtain ⟨a1, a2, a3, a4⟩ := fd_may hm i h1 h2
  obtain ⟨b1, b2, b3, b4⟩ := fd_may hm j h3 h4
  rw [e] at a1 a2
  have hA := dA_le b3 b4
  have e1 := end_one hm _ hA.1 hA.2 _ _ _ p2 (Nat.mod_lt _ (by decide)) a1 a2
  have e2 := end_one hm _ hA.1 hA.2 _ _ _ q2 (Nat.mod_lt _ (by decide)) b1 b2
  rw [e1] at e2
  have hcc : dC C i = dC C j := by have := congrArg Prod.fst e2; simp only at this; omega
  have hss : dS C i = dS C j := by have := congrArg Prod.snd e2; simp only at this; omega
  have u := en_may hm (dA i) (!dB i) (dA_le h1 h2).1 (dA_le h1 h2).2
  have v := en_may hm (dA j) (!dB j) (dA_le h3 h4).1 (dA_le h3 h4).2
  have u1 : (C.getD (dC C i) Cr.none).arc (dS C i) = (dA i : Int) := u.2.2.2.1
  have v1 : (C.getD (dC C j) Cr.none).arc (dS C j) = (dA j : Int) := v.2.2.2.1
  have u2 : (C.getD (dC C i) Cr.none).comes (dS C i) = (!dB i) := u.2.2.2.2
  have v2 : (C.getD (dC C j) Cr.none).comes (dS C j) = (!dB j) := v.2.2.2.2
  rw [hcc, hss] at u1 u2
  have h5 : dA i = dA j := by omega
  have h6 : dB i = dB j := by
    rw [u2] at v2
    revert v2
    cases dB i <;> cases dB j <;> simp
  rw [← mk_d h1, ← mk_d h3, h5, h6]
/-- The face of a dart. -/
def fo (C : List Cr) (j : Nat) : Nat := pt (facesM C) j
theorem fo_lt {C : List Cr} (j : Nat) (h1 : 1 ≤ j) (h2 : j ≤ 4 * C.length) : fo C j < (facesM C).length := pt_lt (walks_once (fd C) (4 * C.length) j h1 h2)
theorem fo_fd {C : List Cr} {loops : Int} (hm : mayD C loops = true) (j : Nat) (h1 : 1 ≤ j) (h2 : j ≤ 4 * C.length) : fo C (fd C j) = fo C j := by
  have hc := fd_closed hm j h1 h2
  have hl := fo_lt j h1 h2
  have hj : j ∈ (facesM C).getD (fo C j) [] := (pt_mem (walks_once (fd C) (4 * C.length) j h1 h2) hl).2 rfl
  have hin : (facesM C).getD (fo C j) [] ∈ facesM C := by
    rw [List.getD_eq_getElem?_getD, List.getElem?_eq_getElem hl]
    exact List.getElem_mem hl
  have h3 := (rings_closed (fd_closed hm) (fun a b p q r s t => fd_inj hm a b p q r s t) (4 * C.length) (Nat.le_refl _)).1 _ hin j hj
  exact pt_is (walks_once (fd C) (4 * C.length) _ hc.1 hc.2) hl h3
end Go.Proofs.Ytagaajlbkfkaiaa
/- The walks of Drawing.End, Drawing.Onward, way; ref.dartCode, ref.NextDart. -/
namespace Go.Proofs.Ytagaajlbkfkaiaa
open Go.RowKit

theorem Dr.endAt {w : World} {a : Option Addr} {cap : Nat} {C : List Cr} {gF gT : Nat} {loops : Int} (h : Dr w a cap C gF gT) (hm : mayD C loops = true) (x : Nat) (h1 : 1 ≤ x) (h2 : x ≤ 2 * C.length) :
    w.cell? ⟨gT, x * 2, none⟩ = some (.int .i64 (enC C x true : Nat)) ∧ w.cell? ⟨gT, x * 2 + 1, none⟩ = some (.int .i64 (enS C x true : Nat)) ∧ w.cell? ⟨gF, x * 2, none⟩ = some (.int .i64 (enC C x false : Nat)) ∧ w.cell? ⟨gF, x * 2 + 1, none⟩ = some (.int .i64 (enS C x false : Nat)) := by
  have hT := h.to x (by rw [ends_length]; omega)
  have hF := h.from_ x (by rw [ends_length]; omega)
  rw [ends_at C true C.length 0 x h1 h2, Nat.zero_add] at hT
  rw [ends_at C false C.length 0 x h1 h2, Nat.zero_add] at hF
  have e : endAh C x true C.length 0 = endTo C x true C.length := rfl
  have e2 : endAh C x false C.length 0 = endTo C x false C.length := rfl
  rw [e, (en_may hm x true h1 h2).1] at hT
  rw [e2, (en_may hm x false h1 h2).1] at hF
  exact ⟨hT.1, hT.2, hF.1, hF.2⟩

set_option maxHeartbeats 2000000 in
set_option maxRecDepth 100000 in
theorem end_any (a : Option Addr) (cap : Nat) (C : List Cr) (loops : Int) (gF cF gT cT : Nat) (x : Nat) (p : Bool) (w : World) (hm : mayD C loops = true) (h1 : 1 ≤ x) (h2 : x ≤ 2 * C.length) (hD : Dr w a cap C gF gT) :
    Calls Try.prog 78 #[drV a cap C loops gF cF gT cT, .agg #[.int .i64 x, .bool p]] w fun e w' => e = .returned (.agg #[.int .i64 (enC C x (!p) : Nat), .int .i64 (enS C x (!p) : Nat)]) ∧ Below w.heap.size w w' := by
  unfold drV
  obtain ⟨c0, c1, c2, c3⟩ := hD.endAt hm x h1 h2
  have l1 := hD.ltT
  have l2 := hD.ltF
  clear hD
  have hB3 : Below w.heap.size w (((w.alloc (.cells #[.slice a C.length cap, .int .i64 loops, .slice (some ⟨gF, 0, none⟩) (2 * C.length + 1) cF, .slice (some ⟨gT, 0, none⟩) (2 * C.length + 1) cT] 61)).alloc (.cells #[.int .i64 x, .bool p] 26)).alloc (.cells #[.int .i64 0, .int .i64 0] 120)) := below3 _ _ _ _
  have d0 := bcell hB3 l1 c0
  have d1 := bcell hB3 l1 c1
  have d2 := bcell hB3 l2 c2
  have d3 := bcell hB3 l2 c3
  clear hB3 c0 c1 c2 c3
  obtain ⟨t0, ht0⟩ : ∃ t0, enC C x true = t0 := ⟨_, rfl⟩
  obtain ⟨t1, ht1⟩ : ∃ t1, enS C x true = t1 := ⟨_, rfl⟩
  obtain ⟨f0, hf0⟩ : ∃ f0, enC C x false = f0 := ⟨_, rfl⟩
  obtain ⟨f1, hf1⟩ : ∃ f1, enS C x false = f1 := ⟨_, rfl⟩
  rw [ht0] at d0
  rw [ht1] at d1
  rw [hf0] at d2
  rw [hf1] at d3
  have hx : x < 2 * C.length + 1 := by omega
  cases p with
  | true =>
    have hG : (((w.alloc (.cells #[.slice a C.length cap, .int .i64 loops, .slice (some ⟨gF, 0, none⟩) (2 * C.length + 1) cF, .slice (some ⟨gT, 0, none⟩) (2 * C.length + 1) cT] 61)).alloc (.cells #[.int .i64 x, .bool true] 26)).alloc (.cells #[.int .i64 f0, .int .i64 f1] 120)).heap[w.heap.size + 1 + 1]? = some (.cells #[.int .i64 f0, .int .i64 f1] 120 (0, 0)) := alloc_at (by simp)
    have x0 := block_cell (i := 0) (v := .int .i64 f0) hG rfl
    have x1 := block_cell (i := 1) (v := .int .i64 f1) hG rfl
    have HB : Hid (Below w.heap.size w (((w.alloc (.cells #[.slice a C.length cap, .int .i64 loops, .slice (some ⟨gF, 0, none⟩) (2 * C.length + 1) cF, .slice (some ⟨gT, 0, none⟩) (2 * C.length + 1) cT] 61)).alloc (.cells #[.int .i64 x, .bool true] 26)).alloc (.cells #[.int .i64 f0, .int .i64 f1] 120))) := below3 _ _ _ _
    clear hG
    go_enter Try.func78, Try.ntmps78
    go_wp2
    exact bodyPost_ret (v := .agg #[.int .i64 f0, .int .i64 f1]) (by simp [results, Try.results78, go_sem, x0, x1]) rfl ⟨by simp [hf0, hf1], HB.out⟩
  | false =>
    have hG : (((w.alloc (.cells #[.slice a C.length cap, .int .i64 loops, .slice (some ⟨gF, 0, none⟩) (2 * C.length + 1) cF, .slice (some ⟨gT, 0, none⟩) (2 * C.length + 1) cT] 61)).alloc (.cells #[.int .i64 x, .bool false] 26)).alloc (.cells #[.int .i64 t0, .int .i64 t1] 120)).heap[w.heap.size + 1 + 1]? = some (.cells #[.int .i64 t0, .int .i64 t1] 120 (0, 0)) := alloc_at (by simp)
    have x0 := block_cell (i := 0) (v := .int .i64 t0) hG rfl
    have x1 := block_cell (i := 1) (v := .int .i64 t1) hG rfl
    have HB : Hid (Below w.heap.size w (((w.alloc (.cells #[.slice a C.length cap, .int .i64 loops, .slice (some ⟨gF, 0, none⟩) (2 * C.length + 1) cF, .slice (some ⟨gT, 0, none⟩) (2 * C.length + 1) cT] 61)).alloc (.cells #[.int .i64 x, .bool false] 26)).alloc (.cells #[.int .i64 t0, .int .i64 t1] 120))) := below3 _ _ _ _
    clear hG
    go_enter Try.func78, Try.ntmps78
    go_wp2
    exact bodyPost_ret (v := .agg #[.int .i64 t0, .int .i64 t1]) (by simp [results, Try.results78, go_sem, x0, x1]) rfl ⟨by simp [ht0, ht1], HB.out⟩

set_option maxHeartbeats 2000000 in
set_option maxRecDepth 100000 in
theorem way_any (x : Int) (p : Bool) (w : World) :
    Calls Try.prog 94 #[.agg #[.int .i64 x, .bool p]] w fun e w' => e = .returned (.int .i64 (if p = true then 1 else 0)) ∧ Below w.heap.size w w' := by
  go_enter Try.func94, Try.ntmps94
  cases p with
  | true =>
    go_wp2
    go_ret
    exact ⟨rfl, (Below.refl _ _).alloc (Nat.le_refl _) _⟩
  | false =>
    go_wp2
    go_ret
    exact ⟨rfl, (Below.refl _ _).alloc (Nat.le_refl _) _⟩

set_option maxHeartbeats 2000000 in
set_option maxRecDepth 100000 in
theorem dartCode_any (x : Nat) (p : Bool) (w : World) (hx : x ≤ 1000) :
    Calls Try.prog 86 #[.agg #[.int .i64 x, .bool p]] w fun e w' => e = .returned (.int .i64 ((if p = true then 2 * x + 1 else 2 * x : Nat) : Int)) ∧ Below w.heap.size w w' := by
  have e1 : IntKind.i64.wrap (2 * (x : Int)) = 2 * (x : Int) := IntWalk.i64_in _ (by omega)
  have e2 : IntKind.i64.wrap (2 * (x : Int) + 1) = 2 * (x : Int) + 1 := IntWalk.i64_in _ (by omega)
  go_enter Try.func86, Try.ntmps86
  cases p with
  | true =>
    go_wp2
    go_ret
    exact ⟨by simp, (Below.refl _ _).alloc (Nat.le_refl _) _⟩
  | false =>
    go_wp2
    go_ret
    exact ⟨by simp, (Below.refl _ _).alloc (Nat.le_refl _) _⟩
end Go.Proofs.Ytagaajlbkfkaiaa

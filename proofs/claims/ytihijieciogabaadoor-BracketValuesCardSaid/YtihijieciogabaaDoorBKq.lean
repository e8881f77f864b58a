/- ref.Product with what a ring is worth; the walk of ref.ringPower. -/
import Derived.Test.YtihijieciogabaaDoorBK7
import Derived.Test.YtihijieciogabaaDoorPB6P
namespace Go.Proofs.YtihijieciogabaaDoor.Poly
open Go.RowKit Go.Maps

theorem getD_memK {α : Type} (l : List α) (i : Nat) (d : α) (h : i < l.length) : l.getD i d ∈ l := by
  rw [List.getD_eq_getElem?_getD, List.getElem?_eq_getElem h]; exact List.getElem_mem h
/-- What m rings are worth is at most this. -/
theorem dl_sup (m : Nat) (hm : m ≤ 39) (y : Int) : (dlN m oneA y).natAbs ≤ 206158430208 := by
  by_cases h3 : m < 3
  · exact Nat.le_trans (rgL_bd (by omega) y) (by decide)
  · obtain ⟨k, rfl⟩ : ∃ k, m = k + 3 := ⟨m - 3, by omega⟩
    have hb : ∀ y, (dlN 3 oneA y).natAbs ≤ 3 := by
      intro y
      show (dlA (dlN 2 oneA) y).natAbs ≤ 3
      unfold dlA
      rw [rgL_coef (Nat.le_refl 2), rgL_coef (Nat.le_refl 2)]
      show (-((if (-4 : Int) = y + 2 then (1 : Int) else 0) + ((if (0 : Int) = y + 2 then (2 : Int) else 0) + ((if (4 : Int) = y + 2 then (1 : Int) else 0) + 0))) - ((if (-4 : Int) = y - 2 then (1 : Int) else 0) + ((if (0 : Int) = y - 2 then (2 : Int) else 0) + ((if (4 : Int) = y - 2 then (1 : Int) else 0) + 0)))).natAbs ≤ 3
      split <;> split <;> split <;> split <;> split <;> split <;> omega
    rw [← dlN_add k 3]
    have h := dlN_bd hb k y
    have h2 : 2 ^ k ≤ 2 ^ 36 := Nat.pow_le_pow_right (by omega) (by omega)
    exact Nat.le_trans h (Nat.le_trans (Nat.mul_le_mul_right 3 h2) (by decide))
def rgT : List (Int × Int) := [(-2, -1), (2, -1)]
theorem canon_len1 {l : List (Int × Int)} {f : Int → Int} (h : Canon l f) (K : Nat) (hf : InA f K) : l.length ≤ 2 * K + 1 := canon_lenB h K hf
theorem canon_terms {l : List (Int × Int)} {f : Int → Int} {K H : Nat} (h : Canon l f) (hf : InA f K) (hb : ∀ y, (f y).natAbs ≤ H) : ∀ t ∈ l, -(K : Int) ≤ t.1 ∧ t.1 ≤ K ∧ -(H : Int) ≤ t.2 ∧ t.2 ≤ H := by
  intro t ht
  have h1 := (h.2 t.1 t.2).1 ht
  have h3 := hb t.1
  have h4 := hf t.1 (by rw [h1.1]; exact h1.2)
  rw [h1.1] at h3
  omega
theorem rows_bd {l : List (Int × Int)} {f : Int → Int} {K H : Nat} (h : Canon l f) (hf : InA f K) (hK : K ≤ 100) (hb : ∀ y, (f y).natAbs ≤ H) (hH : H ≤ 1000000000000) (i k : Nat) (hi : i < l.length) (hk : k ≤ rgT.length) :
    (rowTo (prodTo l rgT i) rgT (l.getD i (0, 0)) k).length ≤ 100000 ∧ ∀ t ∈ rowTo (prodTo l rgT i) rgT (l.getD i (0, 0)) k, -1000000000000000 ≤ t.2 ∧ t.2 ≤ 1000000000000000 := by
  have hl := canon_len1 h K hf
  have hp := prodTo_canon l rgT i (by omega)
  have hr := rowTo_canon hp (l.getD i (0, 0)) k hk
  have hk2 : k ≤ 2 := hk
  have hin : ∀ n, (prodTo l rgT n).length ≤ 2 * n := by
    intro n
    induction n with
    | zero => exact Nat.le_refl _
    | succ n ih =>
      have := rowTo_length (prodTo l rgT n) rgT (l.getD n (0, 0)) rgT.length
      have e2 : rgT.length = 2 := rfl
      show (rowTo (prodTo l rgT n) rgT (l.getD n (0, 0)) rgT.length).length ≤ 2 * (n + 1)
      omega
  refine ⟨?_, ?_⟩
  · have := rowTo_length (prodTo l rgT i) rgT (l.getD i (0, 0)) k
    have := hin i
    omega
  · have hc : ∀ y, (coefL rgT y).natAbs ≤ 1 := two_ring
    have hck : ∀ y, (coefL (rgT.take k) y).natAbs ≤ 1 := by
      intro y
      match k, hk2 with
      | 0, _ => exact Nat.zero_le _
      | 1, _ => show ((if (-2 : Int) = y then (-1 : Int) else 0) + 0).natAbs ≤ 1; split <;> decide
      | 2, _ => exact hc y
    have ht := canon_terms h hf hb
    have hbd : ∀ y, (prodL (l.take i) (coefL rgT) y + (l.getD i (0, 0)).2 * coefL (rgT.take k) (y - (l.getD i (0, 0)).1)).natAbs ≤ 1000000000000000 := by
      intro y
      have b1 := prodL_bdG (l.take i) (coefL rgT) y (Hp := H) (Hq := 1) (fun t ht' => by have := ht t (List.mem_of_mem_take ht'); omega) hc
      have b2 : ((l.getD i (0, 0)).2 * coefL (rgT.take k) (y - (l.getD i (0, 0)).1)).natAbs ≤ H * 1 := by
        rw [Int.natAbs_mul]
        exact Nat.mul_le_mul (by have := ht _ (getD_memK l i (0, 0) hi); omega) (hck _)
      have b3 : (l.take i).length ≤ 201 := by rw [List.length_take]; omega
      have b4 : (l.take i).length * (H * 1) ≤ 201 * (1000000000000 * 1) := Nat.mul_le_mul b3 (by omega)
      have b5 := Int.natAbs_add_le (prodL (l.take i) (coefL rgT) y) ((l.getD i (0, 0)).2 * coefL (rgT.take k) (y - (l.getD i (0, 0)).1))
      omega
    intro t ht'
    have h1 := (hr.2 t.1 t.2).1 ht'
    have h2 : (t.2).natAbs ≤ 1000000000000000 := by rw [← h1.1]; exact hbd t.1
    omega

set_option maxHeartbeats 4000000 in
set_option maxRecDepth 100000 in
theorem prodR_some (b1 off1 cap1 b2 off2 cap2 : Nat) (l1 l2 : List (Int × Int)) (w : World) (hl1 : l1.length ≤ 1000) (hm1 : ∀ t ∈ l1, -1000 ≤ t.1 ∧ t.1 ≤ 1000 ∧ -1000000000000 ≤ t.2 ∧ t.2 ≤ 1000000000000) (h2l : l2.length ≤ 100000) (h2 : ∀ t ∈ l2, -20000 ≤ t.1 ∧ t.1 ≤ 20000 ∧ t.2 = -1)
    (hbd : ∀ i k, i < l1.length → k ≤ l2.length → (rowTo (prodTo l1 l2 i) l2 (l1.getD i (0, 0)) k).length ≤ 100000 ∧ ∀ t ∈ rowTo (prodTo l1 l2 i) l2 (l1.getD i (0, 0)) k, -1000000000000000 ≤ t.2 ∧ t.2 ≤ 1000000000000000)
    (hbw1 : b1 < w.heap.size) (hT1 : TermsAt w b1 off1 l1) (hbw2 : b2 < w.heap.size) (hT2 : TermsAt w b2 off2 l2) :
    Calls Tryd.prog 39 #[.slice (some ⟨b1, off1, none⟩) l1.length cap1, .slice (some ⟨b2, off2, none⟩) l2.length cap2] w fun e w' => ∃ v, e = .returned v ∧ PolyC w' w'.heap.size v (prodTo l1 l2 l1.length) ∧ Below w.heap.size w w' := by
  have h164 : l1.length ≤ 1000 := hl1
  have HM1 : Hid (∀ t ∈ l1, -1000 ≤ t.1 ∧ t.1 ≤ 1000 ∧ -1000000000000 ≤ t.2 ∧ t.2 ≤ 1000000000000) := hm1
  have H2 : Hid (∀ t ∈ l2, -20000 ≤ t.1 ∧ t.1 ≤ 20000 ∧ t.2 = -1) := h2
  have HBD : Hid (∀ i k, i < l1.length → k ≤ l2.length → (rowTo (prodTo l1 l2 i) l2 (l1.getD i (0, 0)) k).length ≤ 100000 ∧ ∀ t ∈ rowTo (prodTo l1 l2 i) l2 (l1.getD i (0, 0)) k, -1000000000000000 ≤ t.2 ∧ t.2 ≤ 1000000000000000) := hbd
  have HT1 : Hid (TermsAt w b1 off1 l1) := hT1
  have HT2 : Hid (TermsAt w b2 off2 l2) := hT2
  clear hm1 hl1 h2 hbd hT1 hT2
  go_enter Tryd.func39, Tryd.ntmps39
  go_wp2
  go_loopw [5, 6, 7] (fun v i _ wr => ∃ k : Nat, k ≤ l1.length ∧ i = .int .i64 k ∧ Hid (PolyC wr wr.heap.size v (prodTo l1 l2 k)) ∧ Below w.heap.size w wr) (fun _ i _ _ => l1.length - (intOf i).toNat)
  case atStart => exact ⟨0, Nat.zero_le _, rfl, ⟨Or.inl ⟨rfl, rfl⟩, none, 0, 0, rfl, Nat.le_refl _, Nat.zero_le _⟩, Below.refl _ _⟩
  case round =>
    rename World => W1
    obtain ⟨i, hi, rfl, hP, hb⟩ := hrel
    by_cases hlt : i < l1.length
    · go_wp2
      go_loopw [5, 7] (fun v j wr => ∃ k : Nat, k ≤ l2.length ∧ j = .int .i64 k ∧ Hid (PolyC wr wr.heap.size v (rowTo (prodTo l1 l2 i) l2 (l1.getD i (0, 0)) k)) ∧ Below w.heap.size w wr) (fun _ j _ => l2.length - (intOf j).toNat)
      case atStart => exact ⟨0, Nat.zero_le _, rfl, hP, hb⟩
      case round =>
        clear hb hP
        obtain ⟨k, hk, rfl, hP, hb⟩ := hrel
        by_cases hlt2 : k < l2.length
        · have c0 := bcell hb hbw1 (HT1.out i hlt).1
          have c1 := bcell hb hbw1 (HT1.out i hlt).2
          have d0 := bcell hb hbw2 (HT2.out k hlt2).1
          have d1 := bcell hb hbw2 (HT2.out k hlt2).2
          have hok := HM1.out _ (getD_memK l1 i (0, 0) hlt)
          have hok2 := H2.out _ (getD_memK l2 k (0, 0) hlt2)
          have hrl := (HBD.out i k hlt hk).1
          have HBR : Hid (∀ t ∈ rowTo (prodTo l1 l2 i) l2 (l1.getD i (0, 0)) k, -1000000000000000 ≤ t.2 ∧ t.2 ≤ 1000000000000000) := (HBD.out i k hlt hk).2
          have hstep : Hid (rowTo (prodTo l1 l2 i) l2 (l1.getD i (0, 0)) (k + 1) = putL (rowTo (prodTo l1 l2 i) l2 (l1.getD i (0, 0)) k) ((l1.getD i (0, 0)).1 + (l2.getD k (0, 0)).1) ((l1.getD i (0, 0)).2 * (l2.getD k (0, 0)).2)) := rfl
          generalize hR : rowTo (prodTo l1 l2 i) l2 (l1.getD i (0, 0)) k = R at hP hrl HBR hstep
          generalize hR2 : rowTo (prodTo l1 l2 i) l2 (l1.getD i (0, 0)) (k + 1) = R2 at hstep
          generalize he : (l1.getD i (0, 0)).1 = e at c0 hok hstep
          generalize hc : (l1.getD i (0, 0)).2 = c at c1 hok hstep
          generalize he2 : (l2.getD k (0, 0)).1 = e2 at d0 hok2 hstep
          generalize hc2 : (l2.getD k (0, 0)).2 = c2 at d1 hok2 hstep
          have HR2 : Hid (rowTo (prodTo l1 l2 i) l2 (l1.getD i (0, 0)) (k + 1) = R2) := hR2
          clear he hc he2 hc2 hR hR2
          obtain ⟨o1, o2, o3, o4⟩ := hok
          obtain ⟨p1, p2, p3⟩ := hok2
          have hmul : -1000000000000 ≤ c * c2 ∧ c * c2 ≤ 1000000000000 := by rw [p3]; omega
          clear p3
          have hw1 : IntKind.i64.wrap (e + e2) = e + e2 := IntWalk.i64_in _ (by omega)
          have hw2 : IntKind.i64.wrap (c * c2) = c * c2 := IntWalk.i64_in _ (by omega)
          have hbr1 : b1 < wr.heap.size := Nat.lt_of_lt_of_le hbw1 hb.size
          have hbr2 : b2 < wr.heap.size := Nat.lt_of_lt_of_le hbw2 hb.size
          go_wp2
          go_region_with (go_at_call 23; refine (put_poly _ R (e + e2) (c * c2) _ (by omega) (by omega) (by omega) HBR.out (hP.out.up (Below.refl _ _).drew)).mono ?_; rintro r w1 ⟨v', rfl, hP1', hb1⟩)
          all_goals go_wp2
          all_goals go_roundw
          all_goals first | (simp only [intOf]; omega) | skip
          all_goals refine ⟨k + 1, by omega, by go_num, ?_, hb.drew.trans (hb1.mono hb.size)⟩
          all_goals
            show PolyC _ _ _ _
            rw [HR2.out, hstep.out]
            exact hP1'
        · go_wp2
          go_roundw
          case rel =>
            obtain rfl : k = l2.length := by omega
            exact ⟨i + 1, by omega, by go_num, hP, hb⟩
          case measure => simp [intOf]; omega
    · go_wp2
      go_ret
      obtain rfl : i = l1.length := by omega
      exact ⟨_, rfl, hP.out, hb⟩

end Go.Proofs.YtihijieciogabaaDoor.Poly

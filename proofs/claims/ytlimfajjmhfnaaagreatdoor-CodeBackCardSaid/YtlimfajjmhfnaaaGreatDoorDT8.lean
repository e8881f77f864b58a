/- The walk of strings.Join, over texts that are few and short. -/
import Derived.Test.YtlimfajjmhfnaaaGreatDoorDT7
import Derived.Test.YtlimfajjmhfnaaaGreatDoorRD0P
import Derived.Deep.Cut
namespace Go.Proofs.YtlimfajjmhfnaaaGreatDoor
open Go.RowKit

/-- Texts that lie in a row. -/
def StrsAt (w : World) (g : Nat) (xs : List (List UInt8)) : Prop := g < w.heap.size ∧ ∀ (j : Nat) x, xs[j]? = some x → w.cell? ⟨g, j, none⟩ = some (.string ⟨x.toArray⟩)
theorem StrsAt.on {w w' : World} {g : Nat} {xs : List (List UInt8)} (h : StrsAt w g xs) (hb : Below w.heap.size w w') : StrsAt w' g xs :=
  ⟨Nat.lt_of_lt_of_le h.1 hb.size, fun j x hx => (hb.cell (p := ⟨g, j, none⟩) h.1).trans (h.2 j x hx)⟩

theorem lens_le (xs : List (List UInt8)) (m : Nat) (h : ∀ x ∈ xs, x.length ≤ m) : Lib.lens xs ≤ xs.length * m := by
  induction xs with
  | nil => simp [Lib.lens]
  | cons x r ih =>
    have h1 := ih (fun y hy => h y (List.mem_cons_of_mem _ hy))
    have h2 := h x List.mem_cons_self
    unfold Lib.lens at h1 ⊢
    simp only [List.map_cons, List.sum_cons, List.length_cons]
    rw [Nat.add_mul]
    omega
theorem tail_len (sep : UInt8) (r : List (List UInt8)) (m : Nat) (h : ∀ x ∈ r, x.length ≤ m) : (Lib.joinTail [sep] r).length ≤ r.length * (m + 1) := by
  induction r with
  | nil => simp [Lib.joinTail]
  | cons x r ih =>
    have h1 := ih (fun y hy => h y (List.mem_cons_of_mem _ hy))
    have h2 := h x List.mem_cons_self
    unfold Lib.joinTail at h1 ⊢
    simp only [List.map_cons, List.flatten_cons, List.length_append, List.length_cons, List.length_nil]
    rw [Nat.add_mul]
    omega

theorem writeB (B b : Nat) (acc s : List UInt8) (w : World) (h : Lib.IsBuilderF 97 5 B b (Lib.byteCells acc) w) (hlen : acc.length + s.length ≤ 140737488355328) (hBw : B ≤ w.heap.size) :
    Calls Tryz.prog 40 #[.pointer (some ⟨b, 0, none⟩), .string ⟨s.toArray⟩] w fun e w' => e = .returned (.tuple #[.int .i64 (s.length : Nat), .nilIface]) ∧ Lib.IsBuilderF 97 5 B b (Lib.byteCells (acc ++ s)) w' ∧ Below B w w' := by
  have hz : (⟨s.toArray⟩ : ByteArray).size = s.length := by simp [ByteArray.size]
  refine (writeString_any B b (Lib.byteCells acc) ⟨s.toArray⟩ w h (by rw [hz, Lib.byteCells_length]; exact hlen) hBw).mono ?_
  rintro e w' ⟨rfl, h1, h2, -⟩
  rw [Lib.strCells_toArray, ← Lib.byteCells_append] at h1
  exact ⟨by rw [hz], h1, h2⟩

set_option maxHeartbeats 4000000 in
set_option maxRecDepth 100000 in
theorem join_one (g c : Nat) (x : List UInt8) (s : UInt8) (w : World) (h : StrsAt w g [x]) :
    Calls Tryz.prog 21 #[.slice (some ⟨g, 0, none⟩) 1 c, .string ⟨#[s]⟩] w fun e w' => e = .returned (.string ⟨x.toArray⟩) ∧ Below w.heap.size w w' := by
  have h0 := h.2 0 x rfl
  go_enter Tryz.func21, Tryz.ntmps21
  go_wp2
  go_ret
  exact ⟨rfl, Below.refl _ _⟩

set_option maxHeartbeats 8000000 in
set_option maxRecDepth 100000 in
theorem join_many (g c : Nat) (xs : List (List UInt8)) (s : UInt8) (w : World) (h : StrsAt w g xs) (h2 : 2 ≤ xs.length) (hN : xs.length ≤ 1000) (hc : xs.length ≤ c) (hl : ∀ x ∈ xs, x.length ≤ 1000) :
    Calls Tryz.prog 21 #[.slice (some ⟨g, 0, none⟩) xs.length c, .string ⟨#[s]⟩] w fun e w' => e = .returned (.string ⟨(Lib.join xs [s]).toArray⟩) ∧ Below w.heap.size w w' := by
  obtain ⟨x0, r, hxs⟩ : ∃ x0 r, xs = x0 :: r := by
    cases xs with
    | nil => simp at h2
    | cons a t => exact ⟨a, t, rfl⟩
  have HC : Hid (StrsAt w g xs) := h
  have HL : Hid (∀ x ∈ xs, x.length ≤ 1000) := hl
  have HXS : Hid (xs = x0 :: r) := hxs
  have hT0 := lens_le xs 1000 hl
  have HWH : Hid (Lib.join xs [s] = x0 ++ Lib.joinTail [s] r) := (by rw [hxs, Lib.join_cons] : Lib.join xs [s] = x0 ++ Lib.joinTail [s] r)
  have HRL : Hid (r.length = xs.length - 1) := (by rw [hxs]; simp : r.length = xs.length - 1)
  have HX0 : Hid (xs[0]? = some x0) := (by rw [hxs]; rfl : xs[0]? = some x0)
  have HXR : Hid (∀ k y, r[k]? = some y → xs[k + 1]? = some y) := (fun k y hy => by rw [hxs]; simpa using hy : ∀ k y, r[k]? = some y → xs[k + 1]? = some y)
  have HTL : Hid (∀ k, (x0 ++ Lib.joinTail [s] (r.take k)).length ≤ 10000000) := (fun k => by
    have e1 := tail_len s (r.take k) 1000 (fun y hy => hl y (by rw [hxs]; exact List.mem_cons_of_mem _ (List.mem_of_mem_take hy)))
    have e2 := hl x0 (by rw [hxs]; exact List.mem_cons_self)
    have e3 : (r.take k).length ≤ 1000 := by rw [List.length_take]; have : r.length ≤ 1000 := by rw [HRL.out]; omega
                                             omega
    have e4 : (r.take k).length * 1001 ≤ 1000 * 1001 := Nat.mul_le_mul_right _ e3
    rw [List.length_append]
    omega : ∀ k, (x0 ++ Lib.joinTail [s] (r.take k)).length ≤ 10000000)
  have HHX : Hid (∀ (k : Nat) (x : List UInt8), xs[k]? = some x → x.length ≤ 1000) := fun k x hx => hl x (List.mem_of_getElem? hx)
  obtain ⟨n, hn⟩ : ∃ n, xs.length = n := ⟨_, rfl⟩
  have HNN : Hid (xs.length = n) := hn
  have hT1 : xs.length * 1000 ≤ 1000000 := by omega
  have HT : Hid (Lib.lens xs ≤ 1000000) := Nat.le_trans hT0 hT1
  rw [hn] at h2 hN hc HRL ⊢
  clear hn h hl hxs hT0 hT1
  have hne0 : ((n : Int) == 0) = false := beq_eq_false_iff_ne.2 (by omega)
  have hne1 : ((n : Int) == 1) = false := beq_eq_false_iff_ne.2 (by omega)
  have hw1 : IntKind.i64.wrap ((n : Int) - 1) = (n : Int) - 1 := IntWalk.i64_in _ (by omega)
  have hz1 : ((n : Int) - 1 == 0) = false := beq_eq_false_iff_ne.2 (by omega)
  have hq1 : ¬ (n : Int) - 1 = 0 := by omega
  obtain ⟨q, hq⟩ : ∃ q : Int, (9223372036854775807 : Int).tdiv ((n : Int) - 1) = q := ⟨_, rfl⟩
  have hq0 : 1000 ≤ q := by
    rw [← hq, Int.tdiv_eq_ediv_of_nonneg (by omega)]
    exact (Int.le_ediv_iff_mul_le (by omega)).2 (by omega)
  have hq2 : q ≤ 9223372036854775807 := by
    rw [← hq, Int.tdiv_eq_ediv_of_nonneg (by omega)]
    exact Int.ediv_le_self _ (by omega)
  have hwq : IntKind.i64.wrap q = q := IntWalk.i64_in _ (by omega)
  have hw2 : IntKind.i64.wrap (1 * ((n : Int) - 1)) = (n : Int) - 1 := by rw [Int.one_mul]; exact hw1
  have hgl : g < w.heap.size := HC.out.1
  have hdq : decide (q ≤ 1) = false := decide_eq_false (by omega)
  have hdq2 : ¬ q ≤ 1 := by omega
  have hz0 : Lib.lens (xs.take 0) = 0 := by simp [Lib.lens]
  have HZ0 : Hid (Lib.lens (xs.take 0) = 0) := hz0
  clear hz0
  go_enter Tryz.func21, Tryz.ntmps21
  go_wp2
  clear hq hq0 hq2 hwq hw2 hz1 hq1 hdq hdq2
  go_loop [5, 41] (fun v5 v41 => ∃ (k L : Nat), k ≤ n ∧ v41 = .int .i64 (k : Nat) ∧ v5 = .int .i64 ((n : Int) - 1 + (L : Nat)) ∧ L ≤ 1000000 ∧ Hid (Lib.lens (xs.take k) = L)) (fun _ i => n - (intOf i).toNat)
  case atStart => exact ⟨0, 0, Nat.zero_le _, rfl, by simp, by omega, HZ0⟩
  case round =>
    obtain ⟨k, L, hk, rfl, rfl, hL, HLL⟩ := hrel
    by_cases hkn : k < n
    · obtain ⟨x, hx⟩ : ∃ x, xs[k]? = some x := ⟨xs[k]'(by rw [HNN.out]; exact hkn), List.getElem?_eq_getElem (by rw [HNN.out]; exact hkn)⟩
      have hc := HC.out.2 k x hx
      have hx1 := HHX.out k x hx
      have hstep := Lib.lens_take_succ xs k x hx
      have hbound : Lib.lens (xs.take (k + 1)) ≤ Lib.lens xs := Lib.lens_take_le _ _
      have hT := HT.out
      rw [HLL.out] at hstep
      have HST : Hid (Lib.lens (xs.take (k + 1)) = L + x.length) := hstep
      have hb2 : L + x.length ≤ 1000000 := by omega
      clear hstep hbound hT hx
      have hz : (⟨x.toArray⟩ : ByteArray).size = x.length := by simp [ByteArray.size]
      have hkI : (k : Int) < (n : Int) := by omega
      have e1 : IntKind.i64.wrap (9223372036854775807 - ((n : Int) - 1 + (L : Int))) = 9223372036854775807 - ((n : Int) - 1 + (L : Int)) := IntWalk.i64_in _ (by omega)
      have e2 : IntKind.i64.wrap ((n : Int) - 1 + (L : Int) + (x.length : Int)) = (n : Int) - 1 + (L : Int) + (x.length : Int) := IntWalk.i64_in _ (by omega)
      have e3 : IntKind.i64.wrap ((k : Int) + 1) = (k : Int) + 1 := IntWalk.i64_in _ (by omega)
      go_wp2
      exact ⟨⟨k + 1, L + x.length, by omega, by go_num, by go_num, hb2, HST⟩, by simp [intOf]; omega⟩
    · obtain rfl : k = n := by omega
      have hall : xs.take k = xs := List.take_of_length_le (by rw [HNN.out]; omega)
      have HM : Hid (((k : Int) - 1 + (L : Int)) = ((k - 1 + L : Nat) : Int)) := (by omega : ((k : Int) - 1 + (L : Int)) = ((k - 1 + L : Nat) : Int))
      have hkI : ¬ (k : Int) < (k : Int) := by omega
      clear hall
      go_upto_region 20 with (go_at_call 39; (rw [HM.out]; refine (bGrow_fresh w.heap.size w.heap.size (k - 1 + L) _ (Nat.le_refl _) (alloc_at rfl) (by simp) (by omega)).mono ?_; rintro e9 w1 ⟨rfl, h1, hb1⟩))
      have HB1 : Hid (Below w.heap.size w w1) := ((Below.refl w.heap.size w).alloc (Nat.le_refl _) _).trans hb1
      have H1 : Hid (Lib.IsBuilderF 97 5 w.heap.size w.heap.size (Lib.byteCells []) w1) := h1
      have hc0 : w1.cell? ⟨g, 0, none⟩ = some (.string ⟨x0.toArray⟩) := (HB1.out.cell (p := ⟨g, 0, none⟩) hgl).trans (HC.out.2 0 x0 HX0.out)
      have hg1 : g < w1.heap.size := Nat.lt_of_lt_of_le hgl HB1.out.size
      have hBw1 : w.heap.size ≤ w1.heap.size := HB1.out.size
      have hx0l := HHX.out 0 x0 HX0.out
      clear h1 hb1
      go_upto_region 21 with (go_at_call 40; refine (writeB w.heap.size w.heap.size [] x0 w1 H1.out (by simp; omega) hBw1).mono ?_; rintro e9 w2 ⟨rfl, h2', hb2⟩)
      have H2 : Hid (Lib.IsBuilderF 97 5 w.heap.size w.heap.size (Lib.byteCells (x0 ++ Lib.joinTail [s] (r.take 0))) w2) := (by simpa [Lib.joinTail] using h2' : Lib.IsBuilderF 97 5 w.heap.size w.heap.size (Lib.byteCells (x0 ++ Lib.joinTail [s] (r.take 0))) w2)
      have HB2 : Hid (Below w.heap.size w w2) := HB1.out.trans hb2
      clear h2' hb2 hc0 hg1 hBw1
      go_wp2
      go_loopw [65] (fun v65 wr => ∃ i : Nat, i ≤ k - 1 ∧ v65 = .int .i64 (i : Nat) ∧ Hid (Lib.IsBuilderF 97 5 w.heap.size w.heap.size (Lib.byteCells (x0 ++ Lib.joinTail [s] (r.take i))) wr) ∧ Hid (Below w.heap.size w wr)) (fun i _ => k - (intOf i).toNat)
      case atStart => exact ⟨0, Nat.zero_le _, rfl, H2, HB2⟩
      case round =>
        clear H2 HB2 H1 HB1
        obtain ⟨i, hi, rfl, HB, HW⟩ := hrel
        rename World => wr
        by_cases hir : i < k - 1
        · obtain ⟨y, hy⟩ : ∃ y, r[i]? = some y := ⟨r[i]'(by rw [HRL.out]; exact hir), List.getElem?_eq_getElem (by rw [HRL.out]; exact hir)⟩
          have hxy := HXR.out i y hy
          have hcy : wr.cell? ⟨g, 1 + i, none⟩ = some (.string ⟨y.toArray⟩) := by
            rw [HW.out.cell (p := ⟨g, 1 + i, none⟩) hgl, Nat.add_comm 1 i]
            exact HC.out.2 (i + 1) y hxy
          have hy1 := HHX.out (i + 1) y hxy
          have hgw : g < wr.heap.size := Nat.lt_of_lt_of_le hgl HW.out.size
          have hBw : w.heap.size ≤ wr.heap.size := HW.out.size
          have hl1 := HTL.out i
          have HNX : Hid ((x0 ++ Lib.joinTail [s] (r.take i)) ++ [s] ++ y = x0 ++ Lib.joinTail [s] (r.take (i + 1))) := (by rw [Lib.joinTail_take_succ [s] r i y hy]; simp [List.append_assoc] : (x0 ++ Lib.joinTail [s] (r.take i)) ++ [s] ++ y = x0 ++ Lib.joinTail [s] (r.take (i + 1)))
          obtain ⟨Z, hZ⟩ : ∃ Z, x0 ++ Lib.joinTail [s] (r.take i) = Z := ⟨_, rfl⟩
          rw [hZ] at hl1 HNX HB
          have hiI : (i : Int) < (k : Int) - 1 := by omega
          clear hZ hy hxy
          go_upto_region 25 with (go_at_call 40; refine (writeB w.heap.size w.heap.size Z [s] wr HB.out (by simp; omega) hBw).mono ?_; rintro e9 w3 ⟨rfl, h3, hb3⟩; have H3 : Hid (Lib.IsBuilderF 97 5 w.heap.size w.heap.size (Lib.byteCells (Z ++ [s])) w3) := h3; have HB3 : Hid (Below w.heap.size w w3) := HW.out.trans hb3; clear h3 hb3)
          clear HB
          go_wp2_with (go_at_call 40; refine (writeB w.heap.size w.heap.size (Z ++ [s]) y w3 H3.out (by simp; omega) HB3.out.size).mono ?_; rintro e9 w4 ⟨rfl, h4, hb4⟩; rw [HNX.out] at h4; have H4 : Hid (Lib.IsBuilderF 97 5 w.heap.size w.heap.size (Lib.byteCells (x0 ++ Lib.joinTail [s] (r.take (i + 1)))) w4) := h4; have HB4 : Hid (Below w.heap.size w w4) := HB3.out.trans hb4; clear h4 hb4)
          go_roundw
          case rel => exact ⟨i + 1, by omega, by go_num, H4, HB4⟩
          case measure => simp only [intOf]; omega
        · obtain rfl : i = k - 1 := by omega
          have hall : r.take (k - 1) = r := List.take_of_length_le (by rw [HRL.out]; omega)
          rw [hall, ← HWH.out] at HB
          clear hall
          have hiI : ¬ ((k - 1 : Nat) : Int) < (k : Int) - 1 := by omega
          go_wp2_with (go_at_call 41; refine (Tryz.Builder_String_any_k w.heap.size w.heap.size _ wr HB.out HW.out.size).mono ?_; rintro e9 w5 ⟨rfl, -, hb5, -⟩; have HB5 : Hid (Below w.heap.size w w5) := HW.out.trans hb5; clear hb5)
          go_ret
          exact ⟨rfl, HB5.out⟩

/-- strings.Join of few short texts. -/
theorem join_any (g c : Nat) (xs : List (List UInt8)) (s : UInt8) (w : World) (h : StrsAt w g xs) (h1 : 1 ≤ xs.length) (hN : xs.length ≤ 1000) (hc : xs.length ≤ c) (hl : ∀ x ∈ xs, x.length ≤ 1000) :
    Calls Tryz.prog 21 #[.slice (some ⟨g, 0, none⟩) xs.length c, .string ⟨#[s]⟩] w fun e w' => e = .returned (.string ⟨(Lib.join xs [s]).toArray⟩) ∧ Below w.heap.size w w' := by
  by_cases h2 : 2 ≤ xs.length
  · exact join_many g c xs s w h h2 hN hc hl
  · match xs, h, h1, h2 with
    | [x], h, _, _ => exact (Lib.join_one x [s]).symm ▸ join_one g c x s w h
    | x :: y :: r, _, _, h2 => exact absurd (by simp) h2
end Go.Proofs.YtlimfajjmhfnaaaGreatDoor

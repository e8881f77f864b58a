/- The law BraidNormals: its walk. -/
import Derived.Test.YthlmkoiilgjflaaNBa
namespace Go.Proofs.Ythlmkoiilgjflaa
open Go.RowKit

set_option maxHeartbeats 4000000 in
set_option maxRecDepth 100000 in
theorem normal_no (a : Option Addr) (c : Nat) (l : List Int) (n : Int) (w : World) (hl : l.length * 8 ≤ 140737488355328) (hn : wordN n l ≠ 0) (h : RdAt w w.heap.size 1 (.slice a l.length c) l.length (intsV l)) :
    Calls Try.prog 4 #[.int .i64 n, .slice a l.length c] w fun e w' => e = .returned (.tuple #[.int .i64 0, .slice none 0 0, .int .i64 (wordN n l)]) ∧ Below w.heap.size w w' := by
  obtain ⟨Y, hY⟩ : ∃ Y, Y = w.alloc (.cells #[.slice a l.length c] 22) := ⟨_, rfl⟩
  have HY : Hid (Y = w.alloc (.cells #[.slice a l.length c] 22)) := hY
  have HBY : Hid (Below w.heap.size w Y) := (by rw [hY]; exact (Below.refl _ _).alloc (Nat.le_refl _) _ : Below w.heap.size w Y)
  have hT : Y.heap[w.heap.size]? = some (.cells #[.slice a l.length c] 22 (0, 0)) := by rw [hY]; exact alloc_at rfl
  have HF : Hid (Calls Try.prog 8 #[.int .i64 n, .slice (some ⟨w.heap.size, 0, none⟩) 1 1] Y fun e w' => e = .returned (.int .i64 (wordN n l)) ∧ Below Y.heap.size Y w') := refusal_one n hl h HBY.out hT
  clear hY hT h
  generalize wordN n l = r at hn HF ⊢
  have hr0 : (r == 0) = false := beq_eq_false_iff_ne.2 hn
  generalize l.length = m at HY hl ⊢
  go_enter Try.func4, Try.ntmps4
  go_wp2_with (rw [← HY.out]; go_at_call 8; refine HF.out.mono ?_; rintro e9 w2 ⟨rfl, hb2⟩; refine Hid.out ?_)
  refine Lib.hid ?_
  have HB2 : Hid (Below w.heap.size w w2) := HBY.out.trans (hb2.mono HBY.out.size)
  clear hb2
  go_wp2
  go_ret3
  exact ⟨rfl, HB2.out⟩

set_option maxHeartbeats 8000000 in
set_option maxRecDepth 100000 in
theorem braidNormals_any (n : Int) (a : Option Addr) (c : Nat) (l : List Int) (w : World) (hl : l.length * 8 ≤ 140737488355328) (h : InAt w w.heap.size 1 (.slice a l.length c) l.length (intsV l)) :
    Calls Try.prog 3 #[.int .i64 n, .slice a l.length c] w fun e w' => e = .returned (.bool true) ∧ Below w.heap.size w w' := by
  have HI : Hid (∀ W, Below w.heap.size w W → InAt W W.heap.size 1 (.slice a l.length c) l.length (intsV l)) := fun W hW => h.up hW
  have HC : Hid (∀ W, Below w.heap.size w W → Calls Try.prog 5 #[.slice a l.length c] W fun e w' => ∃ a' c', e = .returned (.slice a' l.length c') ∧ RdAt w' w'.heap.size 1 (.slice a' l.length c') l.length (intsV l) ∧ Below W.heap.size W w') := fun W hW => intsL_copy a c l W hl (HI.out W hW)
  have HM : Hid (∀ W, Below w.heap.size w W → Calls Try.prog 6 #[.int .i64 n, .slice a l.length c, .slice none 0 0] W fun e w' => e = .returned (.int .i64 (wordN n l)) ∧ Below W.heap.size W w') := fun W hW => by
    have := wordsMay_any a none c 0 l [] n W hl (by simp) (by simpa using hl) (HI.out W hW) (Or.inl ⟨rfl, rfl⟩)
    rw [wordsN_nil] at this
    exact this
  clear h
  by_cases hn : wordN n l = 0
  · obtain ⟨n2, n6, -, hl20⟩ := wordN_ok hn
    obtain ⟨m, rfl⟩ : ∃ m : Nat, n = (m : Int) := ⟨n.toNat, by omega⟩
    have hm6 : m ≤ 6 := by omega
    have hm2 : 2 ≤ m := by omega
    have hv : Vl m l := wordN_mem hn
    have HE : Hid (∀ a' c' W, RdAt W W.heap.size 1 (.slice a' l.length c') l.length (intsV l) → Calls Try.prog 4 #[.int .i64 (m : Nat), .slice a' l.length c'] W fun e w' => ∃ a2 m2 cap, e = .returned (.tuple #[.int .i64 (nfW m l).1, .slice a2 m2 cap, .int .i64 0]) ∧ FmOut w' m l a2 m2 cap ∧ Below W.heap.size W w') := fun a' c' W hW => normal_yes m c' a' l W hn hW
    obtain ⟨b1, b2, b3⟩ := nf_bound m l
    have HN : Hid (∀ W a3 m3 c3, Below w.heap.size w W → FmOut W m l a3 m3 c3 → Calls Try.prog 7 #[.int .i64 (m : Nat), .slice a l.length c, .int .i64 (nfW m l).1, .slice a3 m3 c3] W fun e w' => e = .returned (.bool true) ∧ Below W.heap.size W w') := fun W a3 m3 c3 hW hf => by
      have hub : ∀ t, t ≤ l.length → ∀ j, ((actT m l t).getD j []).length ≤ 5801565999000 := fun t ht j => by
        have h1 := (actT_ok m hm6 l t ht).len j
        have h2 := three_pow t (by omega)
        omega
      have hact := nf_sm hm2 hm6 hv _ _ _ bact_act _ (act0_red m)
      exact normalIs_any m c c3 m3 a a3 l (nfW m l).1 (nfW m l).2 W hm2 hm6 (CanS.fold (canS_nil m 0) hv) hf.ln (by have := hf.ln; omega) (by omega) (by omega) hv hl20 hub (nf_short hm2 hm6 hv hl20) hact (HI.out W hW).rdI hf.rd
    have HLN : Hid (∀ W a3 m3 c3, FmOut W m l a3 m3 c3 → m3 ≤ 20) := fun W a3 m3 c3 hf => by have := hf.ln; omega
    rw [hn] at HM
    obtain ⟨K, hK⟩ : ∃ K, (nfW m l).1 = K := ⟨_, rfl⟩
    rw [hK] at HE HN b1 b3
    have hk1 : decide ((-20 : Int) ≤ K) = true := decide_eq_true (by omega)
    have hk2 : decide (K ≤ (20 : Int)) = true := decide_eq_true (by omega)
    have h00 : ((0 : Int) == 0) = true := rfl
    have h01 : ((0 : Int) != 0) = false := rfl
    clear hl HI hv hn hK b1 b2 b3 n2 n6 hl20
    generalize l.length = N0 at HC HM HE HN ⊢
    go_enter Try.func3, Try.ntmps3
    go_wp2_with (go_at_call 5; refine (HC.out _ (Below.refl _ _)).mono ?_; rintro e9 w1 ⟨a1, c1, rfl, hr1, hb1⟩; refine Hid.out ?_)
    refine Lib.hid ?_
    have HB1 := hid_g hb1
    have HF1 := hid_g (HE.out a1 c1 w1 hr1)
    clear hb1 hr1 HC HE
    go_wp2_with (go_at_call 4; refine HF1.out.mono ?_; rintro e9 w2 ⟨a2, m2, c2, rfl, ho2, hb2⟩; refine Hid.out ?_)
    refine Lib.hid ?_
    have HB2 := hid_g (HB1.out.trans (hb2.mono HB1.out.size))
    have hm20 := HLN.out w2 a2 m2 c2 ho2
    have HO2 := hid_g ho2
    clear hb2 HF1 ho2 HLN
    go_wp2_with (go_at_call 6; refine (HM.out _ HB2.out).mono ?_; rintro e9 w3 ⟨rfl, hb3⟩; refine Hid.out ?_)
    refine Lib.hid ?_
    have HB3 := hid_g (HB2.out.trans (hb3.mono HB2.out.size))
    have HF3 := hid_g (HN.out w3 a2 m2 c2 HB3.out (HO2.out.on hb3))
    clear hb3 HM HN HO2
    have hm3 : decide ((m2 : Int) ≤ (20 : Int)) = true := decide_eq_true (by omega)
    go_wp2_with (go_at_call 7; refine HF3.out.mono ?_; rintro e9 w4 ⟨rfl, hb4⟩; refine Hid.out ?_)
    refine Lib.hid ?_
    have HB4 := hid_g (HB3.out.trans (hb4.mono HB3.out.size))
    clear hb4 HF3
    go_wp2
    go_ret
    exact ⟨rfl, HB4.out⟩
  · obtain ⟨z, hz⟩ : ∃ z, wordN n l = z := ⟨_, rfl⟩
    have HE : Hid (∀ a1 c1 W, RdAt W W.heap.size 1 (.slice a1 l.length c1) l.length (intsV l) → Calls Try.prog 4 #[.int .i64 n, .slice a1 l.length c1] W fun e w' => e = .returned (.tuple #[.int .i64 0, .slice none 0 0, .int .i64 (wordN n l)]) ∧ Below W.heap.size W w') := fun a1 c1 W h1 => normal_no a1 c1 l n W hl hn h1
    rw [hz] at HM HE hn
    have hzz : (z == z) = true := by simp
    have hzn : (z != 0) = true := by simpa using hn
    have h00 : ((0 : Int) == 0) = true := rfl
    clear hl HI hz
    generalize l.length = N0 at HC HM HE ⊢
    go_enter Try.func3, Try.ntmps3
    go_wp2_with (go_at_call 5; refine (HC.out _ (Below.refl _ _)).mono ?_; rintro e9 w1 ⟨a1, c1, rfl, hr1, hb1⟩; refine Hid.out ?_)
    refine Lib.hid ?_
    have HB1 := hid_g hb1
    have HF1 := hid_g (HE.out a1 c1 w1 hr1)
    clear hb1 hr1 HC HE
    go_wp2_with (go_at_call 4; refine HF1.out.mono ?_; rintro e9 w2 ⟨rfl, hb2⟩; refine Hid.out ?_)
    refine Lib.hid ?_
    have HB2 := hid_g (HB1.out.trans (hb2.mono HB1.out.size))
    clear hb2 HF1
    go_wp2_with (go_at_call 6; refine (HM.out _ HB2.out).mono ?_; rintro e9 w3 ⟨rfl, hb3⟩; refine Hid.out ?_)
    refine Lib.hid ?_
    have HB3 := hid_g (HB2.out.trans (hb3.mono HB2.out.size))
    clear hb3 HM
    go_wp2
    go_ret
    exact ⟨rfl, HB3.out⟩
end Go.Proofs.Ythlmkoiilgjflaa

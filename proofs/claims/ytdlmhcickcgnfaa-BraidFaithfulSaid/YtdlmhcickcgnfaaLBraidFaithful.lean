/- The law BraidFaithful: its walk. -/
import Derived.Test.YtdlmhcickcgnfaaGBw
import Derived.Test.YtdlmhcickcgnfaaGD3P
import Derived.Test.YtdlmhcickcgnfaaIlP
namespace Go.Proofs.Ytdlmhcickcgnfaa
open Go.RowKit

set_option maxHeartbeats 8000000 in
set_option maxRecDepth 100000 in
theorem braidFaithful_any (s : Int) (a a' : Option Addr) (c c' : Nat) (l l' : List Int) (w : World) (hs : -9223372036854775808 ≤ s ∧ s ≤ 9223372036854775807) (hl : ∀ x ∈ l, -9223372036854775808 ≤ x ∧ x ≤ 9223372036854775807) (hl' : ∀ x ∈ l', -9223372036854775808 ≤ x ∧ x ≤ 9223372036854775807) (h : RdAt w w.heap.size 1 (.slice a l.length c) l.length (intsV l)) (h' : RdAt w w.heap.size 1 (.slice a' l'.length c') l'.length (intsV l')) :
    Calls Try.prog 4 #[.int .i64 s, .slice a l.length c, .slice a' l'.length c'] w fun e w' => e = .returned (.bool true) ∧ Below w.heap.size w w' := by
  have HPK : Hid (∀ W, Calls Try.prog 10 #[.int .i64 s, .int .i64 4] W fun e w' => ∃ r : Nat, e = .returned (.int .i64 (r : Nat)) ∧ r < 4 ∧ w' = W) := fun W => pickedB_any s 4 W hs (by decide) (by decide)
  have HWD : Hid (∀ p n : Nat, n = p + 1 → 1 ≤ p → p ≤ 5 → Calls Try.prog 11 #[.int .i64 (n : Nat), .slice a l.length c, .int .i64 12] w fun e w' => ∃ a2 c2 L, e = .returned (.slice a2 L.length c2) ∧ w'.ownsRow w.heap.size 3 1 (.slice a2 L.length c2) L.length (intsV L) ∧ Hid (LtOk n L ∧ L.length ≤ 12) ∧ Below w.heap.size w w') := fun p n hnp h1 h5 => word_any n p 12 a c l w hnp h1 h5 (by decide) hl h
  have HWE : Hid (∀ W, Below w.heap.size w W → ∀ p n : Nat, n = p + 1 → 1 ≤ p → p ≤ 5 → Calls Try.prog 11 #[.int .i64 (n : Nat), .slice a' l'.length c', .int .i64 12] W fun e w' => ∃ a2 c2 L, e = .returned (.slice a2 L.length c2) ∧ w'.ownsRow W.heap.size 3 1 (.slice a2 L.length c2) L.length (intsV L) ∧ Hid (LtOk n L ∧ L.length ≤ 12) ∧ Below W.heap.size W w') := fun W hW p n hnp h1 h5 => word_any n p 12 a' c' l' W hnp h1 h5 (by decide) hl' ((h'.on hW).mono hW.size)
  generalize l.length = N0 at HWD ⊢
  generalize l'.length = N1 at HWE ⊢
  clear hs hl hl' h h'
  go_enter Try.func4, Try.ntmps4
  go_wp2_with (go_at_call 10; refine (HPK.out _).mono ?_; rintro e9 w5 ⟨r, rfl, hr, e4⟩; obtain rfl := e4.symm; refine Hid.out ?_)
  refine Lib.hid ?_
  clear HPK
  obtain ⟨p, hp⟩ : ∃ p, p = r + 1 := ⟨_, rfl⟩
  obtain ⟨n, hn⟩ : ∃ n, n = p + 1 := ⟨_, rfl⟩
  have ew0 : IntKind.i64.wrap (2 + (r : Int)) = (n : Int) := by rw [show 2 + (r : Int) = n by omega]; exact IntWalk.i64_in _ (by omega)
  have HW := hid_g (HWD.out p n hn (by omega) (by omega))
  have HV := hid_g (fun W hW => HWE.out W hW p n hn (by omega) (by omega))
  have hn2 : 2 ≤ n := by omega
  have hn5 : n ≤ 5 := by omega
  clear HWD HWE hn hr hp
  go_wp2_with (go_at_call 11; refine HW.out.mono ?_; rintro e9 w1 ⟨a2, c2, L, rfl, ho1, hL1, hb1⟩; refine Hid.out ?_)
  refine Lib.hid ?_
  have HB1 := hid_g hb1
  have HV1 := hid_g (HV.out w1 hb1)
  have HI1 := hid_g (own_in ho1)
  clear ew0 hb1 ho1 HW HV
  go_wp2_with (go_at_call 11; refine HV1.out.mono ?_; rintro e9 w2 ⟨a3, c3, V, rfl, ho2, hL2, hb2⟩; refine Hid.out ?_)
  refine Lib.hid ?_
  have HB2 := hid_g (HB1.out.trans (hb2.mono HB1.out.size))
  have HU2 := hid_g (HI1.out.up hb2)
  have HV2 := hid_g (own_in ho2)
  have HWU : Hid (wordN (n : Int) L = 0) := wordN_of hn2 (by omega) (by have := hL1.out.2; omega) hL1.out.1
  have HWV : Hid (wordN (n : Int) V = 0) := wordN_of hn2 (by omega) (by have := hL2.out.2; omega) hL2.out.1
  have HFA := hid_g (faith hn2 (by omega) hL1.out.1 hL2.out.1)
  have HE1 := hid_g (fun W (hW : Below w2.heap.size w2 W) => equal_yes n c2 c3 a2 a3 L V W HWU.out HWV.out ((HU2.out.up hW).rdI) ((HV2.out.up hW).rdI))
  have HT1 := hid_g (fun W (hW : Below w2.heap.size w2 W) => told_any n c2 c3 a2 a3 L V W HWU.out HWV.out ((HU2.out.up hW).rdI) ((HV2.out.up hW).rdI))
  have HE2 := hid_g (fun W (hW : Below w2.heap.size w2 W) => equal_yes n c2 c2 a2 a2 L L W HWU.out HWU.out ((HU2.out.up hW).rdI) ((HU2.out.up hW).rdI))
  have hact : decide (actT n L L.length = actT n V V.length) = decide (nfW n L = nfW n V) := decide_eq_decide.2 HFA.out.symm
  rw [hact] at HT1
  rw [decide_eq_true (rfl : nfW n L = nfW n L)] at HE2
  obtain ⟨q, hq⟩ : ∃ q, decide (nfW n L = nfW n V) = q := ⟨_, rfl⟩
  rw [hq] at HE1 HT1
  generalize L.length = M1 at HE1 HT1 HE2 ⊢
  generalize V.length = M2 at HE1 HT1 ⊢
  clear hb2 ho2 hL1 hL2 HV1 HI1 HU2 HV2 HWU HWV HFA hact hq
  have HC1 := hid_g (HE1.out w2 (Below.refl _ _))
  clear HE1
  go_wp2_with (go_at_call 6; refine HC1.out.mono ?_; rintro e9 w3 ⟨rfl, hb3⟩; refine Hid.out ?_)
  refine Lib.hid ?_
  have HB3 := hid_g hb3
  have HC2 := hid_g (HT1.out w3 hb3)
  clear hb3 HC1 HT1
  go_wp2_with (go_at_call 12; refine HC2.out.mono ?_; rintro e9 w4 ⟨rfl, hb4⟩; refine Hid.out ?_)
  refine Lib.hid ?_
  have HB4 := hid_g (HB3.out.trans (hb4.mono HB3.out.size))
  have HC3 := hid_g (HE2.out w4 HB4.out)
  clear hb4 HC2 HE2
  go_wp2_with (go_at_call 6; refine HC3.out.mono ?_; rintro e9 w5 ⟨rfl, hb5⟩; refine Hid.out ?_)
  refine Lib.hid ?_
  have HFN : Hid (Below w.heap.size w w5) := HB2.out.trans ((HB4.out.trans (hb5.mono HB4.out.size)).mono HB2.out.size)
  have hqq : (q == q) = true := by simp
  clear hb5 HC3
  go_wp2
  go_ret
  exact ⟨rfl, HFN.out⟩
end Go.Proofs.Ytdlmhcickcgnfaa

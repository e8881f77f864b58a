/- BraidNormals: the walk of ref.PermWord. -/
import Derived.Test.YthlmkoiilgjflaaNB3P
import Derived.Test.YthlmkoiilgjflaaNB5P
namespace Go.Proofs.Ythlmkoiilgjflaa
open Go.RowKit

/-- On the way: what is left to do, the letters so far. -/
structure PwAt (w : World) (n B ga ca : Nat) (v : Value) (s : List Nat × List Nat) (W : World) : Prop where
  one : W.ownsRow w.heap.size 3 1 (.slice (some ⟨ga, 0, none⟩) n ca) n (intsV (eI n s.1))
  two : W.ownsRow B 3 1 v s.2.length (intsV (lw s.2))
  lt : ga < B
  ge : w.heap.size ≤ B
  bel : Below w.heap.size w W
  top : B ≤ W.heap.size
theorem PwAt.any {w : World} {n B ga ca : Nat} {v : Value} {s : List Nat × List Nat} {W W' : World} (h : PwAt w n B ga ca v s W) (hg : W.grownBy W' none) : PwAt w n B ga ca v s W' :=
  ⟨own_any h.one hg, own_any h.two hg, h.lt, h.ge, h.bel.grown hg h.bel.size (fun q hq => by cases hq), Nat.le_trans h.top hg.size⟩
theorem PwAt.swap {w : World} {n B ga ca : Nat} {v : Value} {s : List Nat × List Nat} {x : List Nat} {W W' : World} (h : PwAt w n B ga ca v s W) (ho : W'.ownsRow w.heap.size 3 1 (.slice (some ⟨ga, 0, none⟩) n ca) n (intsV (eI n x))) (hg : W.grownBy W' (some ga)) : PwAt w n B ga ca v (x, s.2) W' :=
  ⟨ho, h.two.kept hg (by
    cases hv : v.ownBlock with
    | none => exact Or.inl rfl
    | some k => exact Or.inr (fun e => by have h1 := (h.two.lt k hv).1; have h2 := Option.some.inj e; have := h.lt; omega)), h.lt, h.ge, h.bel.grown hg h.bel.size (fun q hq => by have h1 : ga = q := Option.some.inj hq; have := (h.one.lt ga rfl).1; omega), Nat.le_trans h.top hg.size⟩
theorem lw_snoc (a : List Nat) (i : Nat) : intsV (lw a) ++ [.int .i64 ((i : Int) + 1)] = intsV (lw (a ++ [i])) := by
  unfold intsV lw
  simp
theorem PwAt.app {w : World} {n B ga ca i m i1 : Nat} {v v8 : Value} {s : List Nat × List Nat} {W w8 : World} (hi : i + 1 = i1) (hm : m = s.2.length) (h : PwAt w n B ga ca v s W) (hown : w8.ownsRow B 3 1 v8 (m + 1) (intsV (lw s.2) ++ [.int .i64 (i1 : Int)])) (hg : (W.alloc (.cells #[.int .i64 (i1 : Int)] 3)).grownBy w8 v.ownBlock) : PwAt w n B ga ca v8 (s.1, s.2 ++ [i]) w8 := by
  have gA : W.grownBy (W.alloc (.cells #[.int .i64 (i1 : Int)] 3)) none := World.grownBy_alloc _ _ _
  have h1 := own_any h.one gA
  refine ⟨h1.kept hg (Or.inr (fun e => ?_)), ?_, h.lt, h.ge, (h.bel.alloc h.bel.size _).grown hg (by have := h.bel.size; simp; omega) (fun q hq => by have := (h.two.lt q hq).1; have := h.ge; omega), ?_⟩
  · have h2 := (h.two.lt ga e.symm).1
    have := h.lt
    omega
  · rw [show ((i1 : Nat) : Int) = (i : Int) + 1 by omega, lw_snoc, hm] at hown
    show w8.ownsRow B 3 1 v8 (s.2 ++ [i]).length _
    rw [List.length_append]
    exact hown
  · have := hg.size
    have := h.top
    simp at *
    omega
theorem bst_len (n i : Nat) (s : List Nat × List Nat) : (bst n i s).2.length ≤ s.2.length + 1 := by
  unfold bst
  split <;> simp
theorem bps_len (n : Nat) (s : List Nat × List Nat) : ∀ k, (bps n s k).2.length ≤ s.2.length + k
  | 0 => Nat.le_refl _
  | k + 1 => by
    have h1 := bst_len n k (bps n s k)
    have h2 := bps_len n s k
    show (bst n k (bps n s k)).2.length ≤ _
    omega
theorem bub_len (n : Nat) (x : List Nat) : ∀ k, (bub n x k).2.length ≤ k * (n - 1)
  | 0 => Nat.zero_le _
  | k + 1 => by
    have h1 := bps_len n (bub n x k) (n - 1)
    have h2 := bub_len n x k
    show (bps n (bub n x k) (n - 1)).2.length ≤ _
    rw [Nat.add_mul]
    omega
theorem bub_short {n : Nat} (h6 : n ≤ 6) (x : List Nat) (k i : Nat) (hk : k ≤ n) (hi : i ≤ n - 1) : (bps n (bub n x k) i).2.length ≤ 100 := by
  have h1 := bps_len n (bub n x k) i
  have h2 := bub_len n x k
  have h3 : k * (n - 1) ≤ 6 * 5 := Nat.mul_le_mul (by omega) (by omega)
  omega

set_option maxHeartbeats 8000000 in
set_option maxRecDepth 100000 in
theorem permWord_any (n c : Nat) (a : Option Addr) (p : List Nat) (w : World) (h2 : 2 ≤ n) (h6 : n ≤ 6) (hp : IsP n p) (h : RdAt w w.heap.size 1 (.slice a n c) n (intsV (eI n p))) :
    Calls Try.prog 10 #[.slice a n c] w fun e w' => ∃ a3 c3, e = .returned (.slice a3 (bubW n p).length c3) ∧ w'.ownsRow w.heap.size 3 1 (.slice a3 (bubW n p).length c3) (bubW n p).length (intsV (lw (bubW n p))) ∧ Below w.heap.size w w' := by
  obtain ⟨i2, hk, hx0, hx1, hx2⟩ := info_parts infoInt
  obtain ⟨a', c', e, f⟩ := h
  injection e with e1 e2 e3
  subst e1 e3
  obtain ⟨b, off, rfl, hbw, hc⟩ := f (by omega)
  have HIN : Hid (InAt w w.heap.size 1 (.slice (some ⟨b, off, none⟩) n c) n (intsV (eI n p))) := Or.inr (Or.inr ⟨b, off, c, rfl, hbw, hc⟩)
  have HL1 : Hid ((intsV (eI n p)).length = n) := (by rw [intsV_len, eI_len] : (intsV (eI n p)).length = n)
  have HO1 := intsV_oneI (eI n p)
  have HPP : Hid (∀ k i, k ≤ n → i ≤ n - 1 → IsP n (bps n (bub n p k) i).1 ∧ (bps n (bub n p k) i).2.length ≤ 100) := fun k i hk hi => ⟨((RwI.bub (by omega) hp k).bps i (by omega)).isp, bub_short h6 p k i hk hi⟩
  clear hc f
  go_enter Try.func10, Try.ntmps10
  go_wp2_with (first
    | (at_builtin; refine wpList_append_copy rfl _ _ 22 rfl w.heap.size 3 i2 (.int .i64 0) 1 8 Try.underlying22 hk hx0 hx1 hx2 rfl (by decide) rfl _ w.heap.size n (intsV (eI n p)) rfl HIN.out (by rw [HL1.out, Nat.mul_one]) HO1 (by unfold maxLen; omega) (by omega) (Nat.le_refl _) ?_; intro v8 w8 hown8 hg8; refine Hid.out ?_))
  refine Lib.hid ?_
  obtain ⟨g, c8, rfl, hgb, hgl⟩ := own_block hown8 (by omega)
  obtain ⟨B, hB⟩ : ∃ B, w8.heap.size = B := ⟨_, rfl⟩
  have HP8 : Hid (PwAt w n B g c8 (.slice none 0 0) (p, []) w8) := ⟨hown8, World.ownsRow_nil _ _ _ _, by omega, by have := hg8.size; omega, (Below.refl _ _).grown hg8 (Nat.le_refl _) (fun q hq => by cases hq), by omega⟩
  clear hown8 hg8 hgb hgl hB HIN HL1 HO1
  go_wp2
  go_loopw [4, 5] (fun v4 v5 wr => ∃ (k m : Nat) (a4 : Option Addr) (c4 : Nat), k ≤ n ∧ v5 = .int .i64 (k : Nat) ∧ v4 = .slice a4 m c4 ∧ Hid (m = (bub n p k).2.length) ∧ Hid (PwAt w n B g c8 (.slice a4 m c4) (bub n p k) wr)) (fun _ v5 _ => n - (intOf v5).toNat)
  case atStart => exact ⟨0, 0, none, 0, Nat.zero_le _, rfl, rfl, rfl, HP8.out⟩
  case round =>
    clear HP8
    rename World => W1
    obtain ⟨k, m, a4, c4, hkn, rfl, rfl, hm, hA⟩ := hrel
    by_cases hkl : k < n
    · have hkI : (k : Int) < (n : Int) := by omega
      have HPK : Hid (∀ i, i ≤ n - 1 → IsP n (bps n (bub n p k) i).1 ∧ (bps n (bub n p k) i).2.length ≤ 100) := fun i hi => HPP.out k i (by omega) hi
      have HSS : Hid (bps n (bub n p k) (n - 1) = bub n p (k + 1)) := rfl
      obtain ⟨s, hs⟩ : ∃ s, bub n p k = s := ⟨_, rfl⟩
      rw [hs] at hm hA HPK HSS
      clear hs
      go_wp2
      go_loopw [4, 6] (fun v4 v6 wr => ∃ (i m : Nat) (a4 : Option Addr) (c4 : Nat), i ≤ n - 1 ∧ v6 = .int .i64 (i : Nat) ∧ v4 = .slice a4 m c4 ∧ Hid (m = (bps n s i).2.length) ∧ Hid (PwAt w n B g c8 (.slice a4 m c4) (bps n s i) wr)) (fun _ v6 _ => n - (intOf v6).toNat)
      case atStart => exact ⟨0, m, a4, c4, Nat.zero_le _, rfl, rfl, hm.out, hA.out⟩
      case round =>
        clear hm hA
        rename World => W2
        obtain ⟨i, m, a4, c4, hin, rfl, rfl, hm, hA⟩ := hrel
        obtain ⟨i1, hi1⟩ : ∃ i1, i + 1 = i1 := ⟨_, rfl⟩
        have ewi : IntKind.i64.wrap ((i : Int) + 1) = (i1 : Int) := by rw [IntWalk.i64_in _ (by omega)]; omega
        by_cases hil : i1 < n
        · have hiI : (i1 : Int) < (n : Int) := by omega
          obtain ⟨hpi, hpl⟩ := HPK.out i hin
          obtain ⟨t, ht⟩ : ∃ t, bps n s i = t := ⟨_, rfl⟩
          have HNX : Hid (bps n s (i + 1) = bst n i t) := (by rw [← ht]; rfl : bps n s (i + 1) = bst n i t)
          rw [ht] at hm hA hpi hpl
          clear ht
          have hiN : i < n := by omega
          have e0 : W2.cell? ⟨g, i, none⟩ = some (.int .i64 ((pa t.1 i : Int) + 1)) := by rw [hA.out.one.cellAt i (by omega), intsV_get _ i (by rw [eI_len]; exact hiN), eI_at hiN]
          have e1 : W2.cell? ⟨g, i1, none⟩ = some (.int .i64 ((pa t.1 i1 : Int) + 1)) := by rw [hA.out.one.cellAt i1 (by omega), intsV_get _ i1 (by rw [eI_len]; exact hil), eI_at hil]
          have hgw := (hA.out.one.lt g rfl).2
          have hiI0 : (i : Int) < (n : Int) := by omega
          have HA := hid_g hA.out
          have HM := hid_g hm.out
          have HI1 := hid_g hi1
          clear hA hm
          by_cases hlt : pa t.1 i1 < pa t.1 i
          · have HBT : Hid (bps n s i1 = (psw n t.1 i, t.2 ++ [i])) := (by
              rw [← hi1, HNX.out]
              unfold bst
              rw [hi1, if_pos hlt] : bps n s i1 = (psw n t.1 i, t.2 ++ [i]))
            have hd : (((pa t.1 i1 : Int) + 1) < ((pa t.1 i : Int) + 1)) := by omega
            have hne : i ≠ i1 := by omega
            obtain ⟨y1, hy1⟩ : ∃ y1, (pa t.1 i1 : Int) + 1 = y1 := ⟨_, rfl⟩
            obtain ⟨y0, hy0⟩ : ∃ y0, (pa t.1 i : Int) + 1 = y0 := ⟨_, rfl⟩
            have HY := hid_g (And.intro hy0 hy1)
            rw [hy0, hy1] at hd
            rw [hy0] at e0
            rw [hy1] at e1
            clear hy0 hy1 hlt hi1
            go_wp2
            go_quiet (fail)
            have HAD : Hid (PwAt w n B g c8 (.slice a4 m c4) t (W2.drewN nq)) := HA.out.any (grown_below (below_drewN (Below.refl _ _) nq) none)
            generalize W2.drewN nq = D at HAD ⊢
            have hst := HAD.out.one.stored i (.int .i64 y1)
            have hst2 := hst.1.stored i1 (.int .i64 y0)
            have etr : ((eI n t.1).set i y1).set i1 y0 = eI n (psw n t.1 i) := by
              have hi1 := HI1.out
              rw [← eI_trd (show i + 1 < n by omega)]
              unfold trd
              rw [Nat.add_sub_cancel, hi1, eI_at hil, eI_at hiN, HY.out.1, HY.out.2]
            rw [intsV_set, intsV_set, etr] at hst2
            have e0 : D.cell? ⟨g, i, none⟩ = some (.int .i64 y0) := by rw [HAD.out.one.cellAt i (by omega), intsV_get _ i (by rw [eI_len]; exact hiN), eI_at hiN, HY.out.1]
            have e1 : D.cell? ⟨g, i1, none⟩ = some (.int .i64 y1) := by rw [HAD.out.one.cellAt i1 (by omega), intsV_get _ i1 (by rw [eI_len]; exact hil), eI_at hil, HY.out.2]
            have hgw := (HAD.out.one.lt g rfl).2
            have f0 : D.frozen? ⟨g, i, none⟩ = false := HAD.out.one.frozenAt i
            have f1 : D.frozen? ⟨g, i1, none⟩ = false := HAD.out.one.frozenAt i1
            have HST : Hid (PwAt w n B g c8 (.slice a4 m c4) (psw n t.1 i, t.2) ((D.setCell ⟨g, i, none⟩ (.int .i64 y1)).setCell ⟨g, i1, none⟩ (.int .i64 y0))) := HAD.out.swap hst2.1 (grown_trans hst.2 hst2.2)
            clear hst hst2 etr
            go_upto_region 10 with (fail)
            apply cut_one
            case h =>
              intro key
              go_region_with (fail)
              all_goals exact key.out
            obtain ⟨X, hX⟩ : ∃ X, X = ((D.setCell ⟨g, i, none⟩ (.int .i64 y1)).setCell ⟨g, i1, none⟩ (.int .i64 y0)).drew := ⟨_, rfl⟩
            have HX : Hid (PwAt w n B g c8 (.slice a4 m c4) (psw n t.1 i, t.2) X) := (by rw [hX]; exact HST.out.any (grown_below ((Below.refl _ _).drew) none))
            rw [← hX]
            clear hX HST e0 e1 f0 f1 HAD HA
            have HM8 := HM.out
            have hpl2 : m ≤ 100 := by omega
            have HXT : Hid (X.ownsRow B 3 1 (.slice a4 m c4) m (intsV (lw t.2))) := (by have := HX.out.two; rw [show (psw n t.1 i, t.2).2.length = m from HM8.symm] at this; exact this)
            clear HM8
            go_wp2_with (first
              | (at_builtin; refine wpList_append_own _ rfl _ _ 22 rfl B 3 i2 (.int .i64 0) 1 8 Try.underlying22 hk hx0 hx1 hx2 rfl (by decide) _ m (intsV (lw t.2)) rfl (HXT.out.alloc _) ⟨X.heap.size, 0, none⟩ 1 1 [.int .i64 (i1 : Int)] rfl rfl (new_cell1 _ _ _) (one_intB _) (by unfold maxLen; omega) (by omega) (by have := HX.out.top; simp; omega) ?_; intro v8 w8 hown8 hg8 _; refine Hid.out ?_))
            refine Lib.hid ?_
            have hA8 := PwAt.app (s := (psw n t.1 i, t.2)) (v := .slice a4 m c4) HI1.out HM.out HX.out hown8 hg8
            obtain ⟨a8, c9, rfl⟩ := own_capS hown8
            have HA8 : Hid (PwAt w n B g c8 (.slice a8 (m + 1) c9) (bps n s i1) w8) := (by rw [HBT.out]; exact hA8)
            have HM8 : Hid (m + 1 = (bps n s i1).2.length) := (by rw [HBT.out, HM.out]; simp : m + 1 = (bps n s i1).2.length)
            clear hA8 hown8 hg8 HX HXT
            go_wp2
            go_roundw
            case rel => exact ⟨i1, m + 1, a8, c9, by have := HI1.out; omega, by have := HI1.out; go_num, rfl, HM8.out, HA8.out⟩
            case measure => simp only [intOf]; have := HI1.out; omega
          · have HBT : Hid (bps n s i1 = t) := (by
              rw [← hi1, HNX.out]
              unfold bst
              rw [hi1, if_neg hlt] : bps n s i1 = t)
            have hd : ¬ (((pa t.1 i1 : Int) + 1) < ((pa t.1 i : Int) + 1)) := by omega
            generalize (pa t.1 i1 : Int) + 1 = y1 at e1 hd
            generalize (pa t.1 i : Int) + 1 = y0 at e0 hd
            clear hlt
            go_wp2
            go_quiet (fail)
            have HQ : Hid (PwAt w n B g c8 (.slice a4 m c4) (bps n s i1) (W2.drewN nq)) := (by rw [HBT.out]; exact HA.out.any (grown_below (below_drewN (Below.refl _ _) nq) none))
            have HMM : Hid (m = (bps n s i1).2.length) := (by rw [HBT.out]; exact HM.out)
            generalize W2.drewN nq = W3 at HQ ⊢
            clear e0 e1
            go_wp2
            go_roundw
            case rel => exact ⟨i1, m, a4, c4, by have := HI1.out; omega, by have := HI1.out; go_num, rfl, HMM.out, HQ.out⟩
            case measure => simp only [intOf]; have := HI1.out; omega
        · obtain rfl : i = n - 1 := by omega
          rw [HSS.out] at hm hA
          have hnl : ¬ (i1 : Int) < (n : Int) := by omega
          go_wp2
          go_roundw
          case rel => exact ⟨k + 1, m, a4, c4, by omega, by go_num, rfl, hm.out, hA.out⟩
          case measure => simp only [intOf]; omega
    · obtain rfl : n = k := by omega
      have HFN : Hid (W1.ownsRow w.heap.size 3 1 (.slice a4 m c4) m (intsV (lw (bubW n p))) ∧ Below w.heap.size w W1 ∧ m = (bubW n p).length) := ⟨by have h3 := own_low hA.out.two hA.out.ge; rw [← hm.out] at h3; exact h3, hA.out.bel, hm.out⟩
      clear hm hA
      go_wp2
      go_ret
      exact ⟨a4, c4, by rw [← HFN.out.2.2]; rfl, by rw [← HFN.out.2.2]; exact HFN.out.1, HFN.out.2.1⟩
end Go.Proofs.Ythlmkoiilgjflaa

/- Texts of a braid: the walks of ref.glue and ref.recip. -/
import Derived.Test.YthlmkoiilgjflaaBR8P
import Derived.Deep.Cut
namespace Go.Proofs.Ythlmkoiilgjflaa
open Go.RowKit

set_option maxHeartbeats 8000000 in
set_option maxRecDepth 100000 in
theorem glue_any (a1 a2 : Option Addr) (c1 c2 : Nat) (a b : List Int) (w : World) (la : a.length ≤ 17500000000000) (lb : b.length ≤ 17500000000000) (lab : a.length + b.length ≤ 17500000000000) (sa : SmI a) (sb : SmI b) (h1 : InAt w w.heap.size 1 (.slice a1 a.length c1) a.length (intsV a)) (h2 : RdAt w w.heap.size 1 (.slice a2 b.length c2) b.length (intsV b)) :
    Calls Try.prog 30 #[.slice a1 a.length c1, .slice a2 b.length c2] w fun e w' => ∃ a3 c3, e = .returned (.slice a3 (gl a b).length c3) ∧ w'.ownsRow w.heap.size 3 1 (.slice a3 (gl a b).length c3) (gl a b).length (intsV (gl a b)) ∧ Below w.heap.size w w' := by
  obtain ⟨i2, hk, hx0, hx1, hx2⟩ := info_parts infoInt
  have H1 : Hid (InAt w w.heap.size 1 (.slice a1 a.length c1) a.length (intsV a)) := h1
  have H2 : Hid (RdAt w w.heap.size 1 (.slice a2 b.length c2) b.length (intsV b)) := h2
  have HSA : Hid (SmI b ∧ ∀ k, SmI (gl a (b.take k))) := ⟨sb, fun k => gl_sm sa (fun i => by
    by_cases hi : i < k
    · rw [getD_takeI _ _ _ hi]; exact sb i
    · rw [List.getD_eq_getElem?_getD, List.getElem?_eq_none (by rw [List.length_take]; omega)]
      show -6 ≤ (0 : Int) ∧ (0 : Int) ≤ 6
      omega)⟩
  have HL1 : Hid ((intsV a).length = a.length) := intsV_len a
  have HO1 := intsV_oneI a
  have HGL : Hid (∀ k, (gl a (b.take k)).length ≤ a.length + b.length) := fun k => by
    have h1 := gl_len a (b.take k)
    have h2 : (b.take k).length ≤ b.length := by rw [List.length_take]; omega
    omega
  have HGN : Hid (∀ k, k < b.length → gl a (b.take (k + 1)) = push (gl a (b.take k)) (b.getD k 0)) := fun k hk => gl_take a b k hk
  have HGA : Hid (gl a (b.take b.length) = gl a b) := gl_all a b
  obtain ⟨na, hna⟩ : ∃ na, a.length = na := ⟨_, rfl⟩
  obtain ⟨nb, hnb⟩ : ∃ nb, b.length = nb := ⟨_, rfl⟩
  have HNA : Hid (a.length = na ∧ b.length = nb) := ⟨hna, hnb⟩
  rw [hna] at la lab H1 HL1 HGL ⊢
  rw [hnb] at lb lab H2 HGL HGN HGA ⊢
  clear h1 h2 sa sb hna hnb
  go_enter Try.func30, Try.ntmps30
  go_wp2_with (first
    | (at_builtin; refine wpList_append_copy rfl _ _ 22 rfl w.heap.size 3 i2 (.int .i64 0) 1 8 Try.underlying22 hk hx0 hx1 hx2 rfl (by decide) rfl _ w.heap.size na (intsV a) rfl H1.out (by rw [HL1.out, Nat.mul_one]) HO1 (by unfold maxLen; omega) (by omega) (Nat.le_refl _) ?_; intro v8 w8 hown8 hg8; refine Hid.out ?_))
  refine Lib.hid ?_
  obtain ⟨a8, c8, rfl⟩ := own_capS hown8
  have HB8 : Hid (Below w.heap.size w w8) := (Below.refl _ _).grown hg8 (Nat.le_refl _) (fun k hk => by cases hk)
  have HO8 : Hid (w8.ownsRow w.heap.size 3 1 (.slice a8 na c8) na (intsV (gl a (b.take 0)))) := hown8
  have HE8 : Hid (na = (gl a (b.take 0)).length) := HNA.out.1.symm
  clear hown8 hg8
  go_wp2
  go_loopw [5, 6] (fun v5 v6 wr => ∃ (k : Nat) (a3 : Option Addr) (o c3 : Nat), k ≤ nb ∧ v6 = .int .i64 (k : Nat) ∧ v5 = .slice a3 o c3 ∧ Hid (o = (gl a (b.take k)).length) ∧ Hid (wr.ownsRow w.heap.size 3 1 (.slice a3 o c3) o (intsV (gl a (b.take k)))) ∧ Hid (Below w.heap.size w wr)) (fun _ v6 _ => nb - (intOf v6).toNat)
  case atStart => exact ⟨0, a8, na, c8, Nat.zero_le _, rfl, rfl, HE8.out, HO8.out, HB8.out⟩
  case round =>
    clear HE8 HO8 HB8
    rename World => W2
    obtain ⟨k, a3, o, c3, hkr, rfl, rfl, ho, hp, hb⟩ := hrel
    by_cases hkl : k < nb
    · have hkI : (k : Int) < (nb : Int) := by omega
      have hrd2 := H2.out
      rw [← HNA.out.2] at hrd2
      obtain ⟨b2, off2, ea2, hlt2, hc2⟩ := (hrd2.on hb.out).intAt k (by rw [HNA.out.2]; exact hkl)
      have lb2 : b2 < W2.heap.size := Nat.lt_of_lt_of_le hlt2 hb.out.size
      have HRC : Hid (∀ W, Below W2.heap.size W2 W → W.cell? ⟨b2, off2 + k, none⟩ = some (.int .i64 (b.getD k 0)) ∧ b2 < W.heap.size) := fun W hW => ⟨bcell hW lb2 hc2, Nat.lt_of_lt_of_le lb2 hW.size⟩
      have hx6 := HSA.out.1 k
      have hnx := HGN.out k hkl
      have hgl := HGL.out k
      have hgs := HSA.out.2 k
      obtain ⟨O, hO⟩ : ∃ O, gl a (b.take k) = O := ⟨_, rfl⟩
      rw [hO] at hnx hgl ho hp hgs
      generalize b.getD k 0 = x at hc2 hx6 hnx HRC
      have HNN : Hid (gl a (b.take (k + 1)) = push O x) := hnx
      have HOO : Hid (o = O.length) := ho.out
      have HOW : Hid (W2.ownsRow w.heap.size 3 1 (.slice a3 o c3) o (intsV O)) := hp.out
      have HBW : Hid (Below w.heap.size w W2) := hb.out
      have HGS : Hid (SmI O) := hgs
      subst ea2
      have hol : o ≤ 17500000000000 := by have := HOO.out; omega
      have HBD : Hid (∀ q, Below W2.heap.size W2 (W2.drewN q)) := fun q => below_drewN (Below.refl _ _) q
      clear hrd2 hlt2 hO ho hp hb hnx hgl hgs
      by_cases ho0 : o = 0
      · subst ho0
        have HPU : Hid (push O x = O ++ [x]) := push_none (fun q => by have := HOO.out; omega)
        go_wp2
        go_quiet (fail)
        have HGQ := HBD.out nq
        generalize W2.drewN nq = D at HGQ ⊢
        have HOD : Hid (D.ownsRow w.heap.size 3 1 (.slice a3 0 c3) 0 (intsV O)) := own_any HOW.out (grown_below HGQ none)
        have HBD2 : Hid (Below w.heap.size w D) := HBW.out.trans (HGQ.mono HBW.out.size)
        obtain ⟨hc3, lb3⟩ := HRC.out D HGQ
        clear HGQ hc2 lb2
        go_wp2_with (first
          | (at_builtin; refine wpList_append_own _ rfl _ _ 22 rfl w.heap.size 3 i2 (.int .i64 0) 1 8 Try.underlying22 hk hx0 hx1 hx2 rfl (by decide) _ 0 (intsV O) rfl (HOD.out.alloc _) ⟨D.heap.size, 0, none⟩ 1 1 [.int .i64 x] rfl rfl (new_one _ _ _) (one_intB x) (by unfold maxLen; omega) (by omega) (by have := HBD2.out.size; simp; omega) ?_; intro v8 w8 hown8 hg8 _; refine Hid.out ?_))
        refine Lib.hid ?_
        obtain ⟨q1, q2⟩ := push_row HBD2.out.size HBD2.out HOD.out hown8 hg8
        obtain ⟨a8, c8, rfl⟩ := own_capS hown8
        have HF1 : Hid (w8.ownsRow w.heap.size 3 1 (.slice a8 (0 + 1) c8) (0 + 1) (intsV (gl a (b.take (k + 1))))) := (by rw [HNN.out, HPU.out]; exact q1)
        have HF2 : Hid (Below w.heap.size w w8) := q2
        have HF3 : Hid (0 + 1 = (gl a (b.take (k + 1))).length) := (by rw [HNN.out, HPU.out, List.length_append, ← HOO.out]; rfl : 0 + 1 = (gl a (b.take (k + 1))).length)
        clear q1 q2 hown8 hg8
        go_wp2
        go_roundw
        case rel => exact ⟨k + 1, a8, 0 + 1, c8, by omega, by go_num, rfl, HF3.out, HF1.out, HF2.out⟩
        case measure => simp only [intOf]; omega
      · obtain ⟨p, rfl⟩ : ∃ p, o = p + 1 := ⟨o - 1, by omega⟩
        obtain ⟨g, c4, e4, hgb, hgl⟩ := own_someB HOW.out (by omega)
        injection e4 with e5 e6 e7
        subst e5 e7
        have hcp : W2.cell? ⟨g, p, none⟩ = some (.int .i64 (O.getD p 0)) := by rw [HOW.out.cellAt p (by omega), intsV_get _ p (by have := HOO.out; omega)]
        have HPP : Hid (O.length = p + 1) := HOO.out.symm
        obtain ⟨hcap, -⟩ := own_cap HOW.out
        have hz6 := HGS.out p
        have hpp : (0 : Int) < (p : Int) + 1 := by omega
        have hpI : (p : Int) < (p : Int) + 1 := by omega
        have ew0 : IntKind.i64.wrap ((p : Int) + 1 - 1) = (p : Int) := by rw [IntWalk.i64_in _ (by omega)]; omega
        clear e6
        by_cases he : O.getD p 0 = -x
        · have HPU : Hid (push O x = O.take p) := (by have h1 := HPP.out; rw [push_some ⟨by omega, by rw [h1]; exact he⟩, h1]; rfl : push O x = O.take p)
          generalize O.getD p 0 = z at hcp he hz6
          have hzx : z + x = 0 := by omega
          have ew1 : IntKind.i64.wrap (z + x) = 0 := by rw [hzx]; rfl
          have hpc : p ≤ c3 := by omega
          have hpcI : (p : Int) ≤ (c3 : Int) := by omega
          have HF1 : Hid (∀ q, (W2.drewN q).ownsRow w.heap.size 3 1 (.slice (some ⟨g, 0, none⟩) p c3) p (intsV (gl a (b.take (k + 1))))) := fun q => by rw [HNN.out, HPU.out, ← intsV_take]; exact own_any (own_shrink HOW.out (by omega)) (grown_below (HBD.out q) none)
          have HF3 : Hid (p = (gl a (b.take (k + 1))).length) := (by rw [HNN.out, HPU.out, List.length_take, HPP.out]; omega : p = (gl a (b.take (k + 1))).length)
          have HF2 : Hid (∀ q, Below w.heap.size w (W2.drewN q)) := fun q => HBW.out.trans ((HBD.out q).mono HBW.out.size)
          clear he hzx
          go_wp2
          go_quiet (fail)
          go_wp2
          go_roundw
          case rel => exact ⟨k + 1, some ⟨g, 0, none⟩, p, c3, by omega, by go_num, rfl, HF3.out, HF1.out _, HF2.out _⟩
          case measure => simp only [intOf]; omega
        · have HPU : Hid (push O x = O ++ [x]) := push_none (fun q => by have h1 := HPP.out; rw [h1] at q; exact he q.2)
          generalize O.getD p 0 = z at hcp he hz6
          have ew1 : IntKind.i64.wrap (z + x) = z + x := IntWalk.i64_in _ (by omega)
          have heb : ((z + x) == 0) = false := beq_eq_false_iff_ne.2 (by omega)
          clear he
          go_wp2
          go_quiet (fail)
          have HGQ := HBD.out nq
          generalize W2.drewN nq = D at HGQ ⊢
          have HOD : Hid (D.ownsRow w.heap.size 3 1 (.slice (some ⟨g, 0, none⟩) (p + 1) c3) (p + 1) (intsV O)) := own_any HOW.out (grown_below HGQ none)
          have HBD2 : Hid (Below w.heap.size w D) := HBW.out.trans (HGQ.mono HBW.out.size)
          obtain ⟨hc3, lb3⟩ := HRC.out D HGQ
          clear HGQ hc2 lb2 hcp
          go_wp2_with (first
            | (at_builtin; refine wpList_append_own _ rfl _ _ 22 rfl w.heap.size 3 i2 (.int .i64 0) 1 8 Try.underlying22 hk hx0 hx1 hx2 rfl (by decide) _ (p + 1) (intsV O) rfl (HOD.out.alloc _) ⟨D.heap.size, 0, none⟩ 1 1 [.int .i64 x] rfl rfl (new_one _ _ _) (one_intB x) (by unfold maxLen; omega) (by omega) (by have := HBD2.out.size; simp; omega) ?_; intro v8 w8 hown8 hg8 _; refine Hid.out ?_))
          refine Lib.hid ?_
          obtain ⟨q1, q2⟩ := push_row HBD2.out.size HBD2.out HOD.out hown8 hg8
          obtain ⟨a8, c8, rfl⟩ := own_capS hown8
          have HF1 : Hid (w8.ownsRow w.heap.size 3 1 (.slice a8 (p + 1 + 1) c8) (p + 1 + 1) (intsV (gl a (b.take (k + 1))))) := (by rw [HNN.out, HPU.out]; exact q1)
          have HF2 : Hid (Below w.heap.size w w8) := q2
          have HF3 : Hid (p + 1 + 1 = (gl a (b.take (k + 1))).length) := (by rw [HNN.out, HPU.out, List.length_append, HPP.out]; rfl : p + 1 + 1 = (gl a (b.take (k + 1))).length)
          clear q1 q2 hown8 hg8
          go_wp2
          go_roundw
          case rel => exact ⟨k + 1, a8, p + 1 + 1, c8, by omega, by go_num, rfl, HF3.out, HF1.out, HF2.out⟩
          case measure => simp only [intOf]; omega
    · obtain rfl : nb = k := by omega
      rw [HGA.out] at ho hp
      have HFN : Hid (W2.ownsRow w.heap.size 3 1 (.slice a3 (gl a b).length c3) (gl a b).length (intsV (gl a b))) := (by have := hp.out; rw [ho.out] at this; exact this)
      have HEO : Hid (o = (gl a b).length) := ho.out
      clear ho hp
      go_wp2
      go_ret
      exact ⟨a3, c3, by rw [← HEO.out]; rfl, HFN.out, hb.out⟩

theorem rc_take (a : List Int) (k : Nat) (h : k < a.length) : (rc a).take (k + 1) = (rc a).take k ++ [-a.getD (a.length - 1 - k) 0] := by
  rw [List.take_succ_eq_append_getElem (by rw [rc_len]; exact h)]
  congr 2
  have := rc_at a k h
  rw [List.getD_eq_getElem?_getD, List.getElem?_eq_getElem (by rw [rc_len]; exact h)] at this
  exact this

set_option maxHeartbeats 8000000 in
set_option maxRecDepth 100000 in
theorem recip_any (a1 : Option Addr) (c1 : Nat) (a : List Int) (w : World) (la : a.length ≤ 17500000000000) (sa : SmI a) (h : RdAt w w.heap.size 1 (.slice a1 a.length c1) a.length (intsV a)) :
    Calls Try.prog 12 #[.slice a1 a.length c1] w fun e w' => ∃ a3 c3, e = .returned (.slice a3 a.length c3) ∧ w'.ownsRow w.heap.size 3 1 (.slice a3 a.length c3) a.length (intsV (rc a)) ∧ Below w.heap.size w w' := by
  obtain ⟨i2, hk, hx0, hx1, hx2⟩ := info_parts infoInt
  have H1 : Hid (RdAt w w.heap.size 1 (.slice a1 a.length c1) a.length (intsV a)) := h
  have HSA : Hid (SmI a) := sa
  have HNX : Hid (∀ k, k < a.length → (rc a).take (k + 1) = (rc a).take k ++ [-a.getD (a.length - 1 - k) 0]) := fun k hk => rc_take a k hk
  have HLN : Hid (∀ k, k ≤ a.length → ((rc a).take k).length = k) := fun k hk => by rw [List.length_take, rc_len]; omega
  have HAL : Hid ((rc a).take a.length = rc a) := (by rw [← rc_len a, List.take_length] : (rc a).take a.length = rc a)
  obtain ⟨n, hn⟩ : ∃ n, a.length = n := ⟨_, rfl⟩
  have HN : Hid (a.length = n) := hn
  rw [hn] at la HNX HLN HAL ⊢
  clear h sa hn
  have ew0 : IntKind.i64.wrap ((n : Int) - 1) = (n : Int) - 1 := IntWalk.i64_in _ (by omega)
  go_enter Try.func12, Try.ntmps12
  go_wp2
  go_loopw [3, 4] (fun v3 v4 wr => ∃ (k : Nat) (a3 : Option Addr) (c3 : Nat), k ≤ n ∧ v4 = .int .i64 ((n : Int) - 1 - (k : Int)) ∧ v3 = .slice a3 k c3 ∧ Hid (wr.ownsRow w.heap.size 3 1 (.slice a3 k c3) k (intsV ((rc a).take k))) ∧ Hid (Below w.heap.size w wr)) (fun _ v4 _ => (intOf v4 + 1).toNat)
  case atStart => exact ⟨0, none, 0, Nat.zero_le _, by congr 1; omega, rfl, World.ownsRow_nil _ _ _ _, Below.refl _ _⟩
  case round =>
    rename World => W2
    obtain ⟨k, a3, c3, hkn, rfl, rfl, hp, hb⟩ := hrel
    by_cases hkl : k < n
    · obtain ⟨j, hj⟩ : ∃ j : Nat, n - 1 - k = j := ⟨_, rfl⟩
      have HJ : Hid (n - 1 - k = j) := hj
      have hjI : (n : Int) - 1 - (k : Int) = (j : Int) := by omega
      rw [hjI]
      have hjn : j < n := by omega
      have hjI2 : (j : Int) < (n : Int) := by omega
      obtain ⟨b2, off2, ea2, hlt2, hc2⟩ := (H1.out.on hb.out).intAt j (by rw [HN.out]; exact hjn)
      have lb2 : b2 < W2.heap.size := Nat.lt_of_lt_of_le hlt2 hb.out.size
      have hx6 := HSA.out j
      have hnx := HNX.out k hkl
      rw [hj] at hnx
      generalize a.getD j 0 = x at hc2 hx6 hnx
      have HNN : Hid ((rc a).take (k + 1) = (rc a).take k ++ [-x]) := hnx
      have HOW : Hid (W2.ownsRow w.heap.size 3 1 (.slice a3 k c3) k (intsV ((rc a).take k))) := hp.out
      have HBW : Hid (Below w.heap.size w W2) := hb.out
      subst ea2
      have ew1 : IntKind.i64.wrap ((j : Int) - 1) = (j : Int) - 1 := IntWalk.i64_in _ (by omega)
      clear hp hb hnx hj hjI hlt2 ew0
      go_wp2_with (first
        | (at_builtin; refine wpList_append_own _ rfl _ _ 22 rfl w.heap.size 3 i2 (.int .i64 0) 1 8 Try.underlying22 hk hx0 hx1 hx2 rfl (by decide) _ k (intsV ((rc a).take k)) rfl (HOW.out.alloc _) ⟨W2.heap.size, 0, none⟩ 1 1 [.int .i64 (-x)] rfl rfl (new_one _ _ _) (one_intB (-x)) (by unfold maxLen; omega) (by omega) (by have := HBW.out.size; simp; omega) ?_; intro v8 w8 hown8 hg8 _; refine Hid.out ?_))
      refine Lib.hid ?_
      obtain ⟨q1, q2⟩ := push_row HBW.out.size HBW.out HOW.out hown8 hg8
      obtain ⟨a8, c8, rfl⟩ := own_capS hown8
      have HF1 : Hid (w8.ownsRow w.heap.size 3 1 (.slice a8 (k + 1) c8) (k + 1) (intsV ((rc a).take (k + 1)))) := (by rw [HNN.out]; exact q1)
      have HF2 : Hid (Below w.heap.size w w8) := q2
      clear q1 q2 hown8 hg8
      go_wp2
      go_roundw
      case rel => exact ⟨k + 1, a8, c8, by omega, by congr 1; have := HJ.out; omega, rfl, HF1.out, HF2.out⟩
      case measure => simp only [intOf]; omega
    · obtain rfl : n = k := by omega
      rw [HAL.out] at hp
      have hd : decide (0 ≤ (n : Int) - 1 - (n : Int)) = false := by simp; omega
      go_wp2
      go_ret
      exact ⟨_, _, rfl, hp.out, hb.out⟩
end Go.Proofs.Ythlmkoiilgjflaa

/- Texts: the walk of braid.product. -/
import Derived.Test.YtdlmhcickcgnfaaBR5P
namespace Go.Proofs.Ytdlmhcickcgnfaa
open Go.RowKit

theorem one_intB (x : Int) : ∀ u ∈ [Value.int .i64 x], u.oneCell' = true := by
  intro u hu
  simp only [List.mem_singleton] at hu
  subst hu
  rfl
theorem push_none {O : List Int} {x : Int} (h : ¬ (0 < O.length ∧ O.getD (O.length - 1) 0 = -x)) : push O x = O ++ [x] := by unfold push; rw [if_neg h]
theorem push_some {O : List Int} {x : Int} (h : 0 < O.length ∧ O.getD (O.length - 1) 0 = -x) : push O x = O.take (O.length - 1) := by unfold push; rw [if_pos h]

set_option maxHeartbeats 8000000 in
set_option maxRecDepth 100000 in
theorem product_any (v : Value) (L : List (List Int)) (M : Nat) (w : World) (hL : L.length ≤ 3) (hM : M ≤ 3486784401) (hl : ∀ j, (L.getD j []).length ≤ M) (hs : ∀ j, SmI (L.getD j [])) (h : IntsRd w w.heap.size v L) :
    Calls Try.prog 38 #[v] w fun e w' => ∃ a2 n2 c2, e = .returned (.slice a2 n2 c2) ∧ n2 = (prT L L.length).length ∧ w'.ownsRow w.heap.size 3 1 (.slice a2 n2 c2) n2 (intsV (prT L L.length)) ∧ Below w.heap.size w w' := by
  obtain ⟨a, cap, rfl⟩ := h.len
  obtain ⟨i2, hk, hx0, hx1, hx2⟩ := info_parts infoInt
  have HI : Hid (IntsRd w w.heap.size (.slice a L.length cap) L) := h
  have HLL : Hid (∀ j, (L.getD j []).length ≤ M) := hl
  have HSS : Hid (∀ j, SmI (L.getD j [])) := hs
  have HPR : Hid (∀ i, i < L.length → prT L (i + 1) = gl (prT L i) (L.getD i [])) := fun i hi => prT_next L i hi
  have HPL : Hid (∀ i, i ≤ L.length → (prT L i).length ≤ i * M) := fun i hi => Nat.le_trans (prT_len L i hi) (lnT_le L M hl i hi)
  obtain ⟨m, hm⟩ : ∃ m, L.length = m := ⟨_, rfl⟩
  have HM : Hid (L.length = m) := hm
  rw [hm] at hL HPR HPL ⊢
  clear h hl hs hm
  go_enter Try.func38, Try.ntmps38
  go_wp2
  go_loopw [3, 11] (fun v3 v11 wr => ∃ (i : Nat) (a3 : Option Addr) (o c3 : Nat), i ≤ m ∧ v11 = .int .i64 (i : Nat) ∧ v3 = .slice a3 o c3 ∧ Hid (o = (prT L i).length) ∧ Hid (wr.ownsRow w.heap.size 3 1 (.slice a3 o c3) o (intsV (prT L i))) ∧ Hid (Below w.heap.size w wr)) (fun _ v11 _ => m - (intOf v11).toNat)
  case atStart => exact ⟨0, none, 0, 0, Nat.zero_le _, rfl, rfl, rfl, World.ownsRow_nil _ _ _ _, Below.refl _ _⟩
  case round =>
    rename World => W1
    obtain ⟨i, a3, o, c3, him, rfl, rfl, ho, hp, hb⟩ := hrel
    by_cases hil : i < m
    · have hiI : (i : Int) < (m : Int) := by omega
      obtain ⟨b, off, ar, cr, ea, hlt, hc, hrd⟩ := (HI.out.on hb.out).row i (by rw [HM.out]; exact hil)
      have HPI := HPR.out i hil
      have hpl := HPL.out i (by omega)
      have hrl := HLL.out i
      have HSR : Hid (SmI (L.getD i [])) := HSS.out i
      have lb : b < W1.heap.size := Nat.lt_of_lt_of_le hlt hb.out.size
      have him2 : i * M ≤ 2 * M := Nat.mul_le_mul_right M (by omega)
      obtain ⟨R, hR⟩ : ∃ R, L.getD i [] = R := ⟨_, rfl⟩
      rw [hR] at hc hrd HPI hrl HSR
      have HRR : Hid (RdAt W1 w.heap.size 1 (.slice ar R.length cr) R.length (intsV R)) := hrd
      obtain ⟨G, hG⟩ : ∃ G, prT L i = G := ⟨_, rfl⟩
      rw [hG] at ho hp HPI hpl
      have HPX : Hid (prT L (i + 1) = gl G R) := HPI
      have HGL : Hid (∀ k, (gl G (R.take k)).length ≤ 3 * M) := fun k => by
        have h1 := gl_len G (R.take k)
        have h2 : (R.take k).length ≤ R.length := by rw [List.length_take]; omega
        omega
      have HGN : Hid (∀ k, k < R.length → gl G (R.take (k + 1)) = push (gl G (R.take k)) (R.getD k 0)) := fun k hk => gl_take G R k hk
      have HGA : Hid (gl G (R.take R.length) = gl G R) := gl_all G R
      obtain ⟨r, hr⟩ : ∃ r, R.length = r := ⟨_, rfl⟩
      have HRN : Hid (R.length = r) := hr
      rw [hr] at hc hrl HRR HGN HGA
      have HO0 : Hid (o = (gl G (R.take 0)).length) := ho.out
      have HP0 : Hid (W1.ownsRow w.heap.size 3 1 (.slice a3 o c3) o (intsV (gl G (R.take 0)))) := hp.out
      have HB0 : Hid (Below w.heap.size w W1) := hb.out
      subst ea
      clear hrd HPI hR hG hr ho hp hb hlt hpl him2
      go_wp2
      go_loopw [3, 17] (fun v3 v17 wr => ∃ (k : Nat) (a3 : Option Addr) (o c3 : Nat), k ≤ r ∧ v17 = .int .i64 (k : Nat) ∧ v3 = .slice a3 o c3 ∧ Hid (o = (gl G (R.take k)).length) ∧ Hid (wr.ownsRow w.heap.size 3 1 (.slice a3 o c3) o (intsV (gl G (R.take k)))) ∧ Hid (Below w.heap.size w wr)) (fun _ v17 _ => r - (intOf v17).toNat)
      case atStart => exact ⟨0, a3, o, c3, Nat.zero_le _, rfl, rfl, HO0.out, HP0.out, HB0.out⟩
      case round =>
        clear HO0 HP0
        rename World => W2
        obtain ⟨k, a3, o, c3, hkr, rfl, rfl, ho, hp, hb⟩ := hrel
        by_cases hkl : k < r
        · have hkI : (k : Int) < (r : Int) := by omega
          have hrd2 := HRR.out
          rw [← HRN.out] at hrd2
          obtain ⟨b2, off2, ea2, hlt2, hc2⟩ := hrd2.intAt k (by rw [HRN.out]; exact hkl)
          have hc3 : W2.cell? ⟨b2, off2 + k, none⟩ = some (.int .i64 (R.getD k 0)) := by
            have h0 := HB0.out
            rw [← hc2]
            unfold World.cell?
            simp only []
            rw [hb.out.block b2 hlt2, h0.block b2 hlt2]
          have lb2 : b2 < W2.heap.size := Nat.lt_of_lt_of_le hlt2 hb.out.size
          have hx6 := HSR.out k
          have hnx := HGN.out k hkl
          have hgl := HGL.out k
          obtain ⟨O, hO⟩ : ∃ O, gl G (R.take k) = O := ⟨_, rfl⟩
          rw [hO] at hnx hgl ho hp
          generalize R.getD k 0 = x at hc3 hx6 hnx
          have HNN : Hid (gl G (R.take (k + 1)) = push O x) := hnx
          have HOO : Hid (o = O.length) := ho.out
          have HOW : Hid (W2.ownsRow w.heap.size 3 1 (.slice a3 o c3) o (intsV O)) := hp.out
          have HBW : Hid (Below w.heap.size w W2) := hb.out
          subst ea2
          have hol : o ≤ 3 * M := by have := HOO.out; omega
          clear hrd2 hc2 hlt2 hO ho hp hb hnx hgl hc
          by_cases ho0 : o = 0
          · subst ho0
            have HPU : Hid (push O x = O ++ [x]) := push_none (fun q => by have := HOO.out; omega)
            go_wp2_with (first
              | (at_builtin; refine wpList_append_own _ rfl _ _ 22 rfl w.heap.size 3 i2 (.int .i64 0) 1 8 Try.underlying22 hk hx0 hx1 hx2 rfl (by decide) _ 0 (intsV O) rfl (HOW.out.alloc _) ⟨W2.heap.size, 0, none⟩ 1 1 [.int .i64 x] rfl rfl (new_one _ _ _) (one_intB x) (by unfold maxLen; omega) (by omega) (by have := HBW.out.size; simp; omega) ?_; intro v8 w8 hown8 hg8 _; refine Hid.out ?_))
            refine Lib.hid ?_
            obtain ⟨q1, q2⟩ := push_row HBW.out.size HBW.out HOW.out hown8 hg8
            obtain ⟨a8, c8, rfl⟩ := own_capS hown8
            have HF1 : Hid (w8.ownsRow w.heap.size 3 1 (.slice a8 (0 + 1) c8) (0 + 1) (intsV (gl G (R.take (k + 1))))) := (by rw [HNN.out, HPU.out]; exact q1)
            have HF2 : Hid (Below w.heap.size w w8) := q2
            have HF3 : Hid (0 + 1 = (gl G (R.take (k + 1))).length) := (by rw [HNN.out, HPU.out, List.length_append, ← HOO.out]; rfl : 0 + 1 = (gl G (R.take (k + 1))).length)
            clear q1 q2 hown8 hg8
            go_wp2
            go_roundw
            case rel => exact ⟨k + 1, a8, 0 + 1, c8, by omega, by go_num, rfl, HF3.out, HF1.out, HF2.out⟩
            case measure => simp only [intOf]; omega
          · obtain ⟨p, rfl⟩ : ∃ p, o = p + 1 := ⟨o - 1, by omega⟩
            obtain ⟨g, c4, e4, hgb, hgl⟩ := own_someB HOW.out (by omega)
            injection e4 with e5 e6 e7
            subst e5 e7
            have hcp : W2.cell? ⟨g, p, none⟩ = some (.int .i64 (O.getD p 0)) := by rw [HOW.out.cellAt p (by omega), intsV_get _ p (by have := HOO.out; omega)]
            have HPP : Hid (O.length = p + 1) := HOO.out.symm
            obtain ⟨hcap, -⟩ := own_cap HOW.out
            clear e6
            by_cases he : O.getD p 0 = -x
            · have HPU : Hid (push O x = O.take p) := (by have h1 := HPP.out; rw [push_some ⟨by omega, by rw [h1]; exact he⟩, h1]; rfl : push O x = O.take p)
              rw [he] at hcp
              have hpc : p ≤ c3 := by omega
              have hpcI : (p : Int) ≤ (c3 : Int) := by omega
              have hee : (-x == -x) = true := beq_self_eq_true _
              have HF1 : Hid (W2.ownsRow w.heap.size 3 1 (.slice (some ⟨g, 0, none⟩) p c3) p (intsV (gl G (R.take (k + 1))))) := (by rw [HNN.out, HPU.out, ← intsV_take]; exact own_shrink HOW.out (by omega))
              have HF3 : Hid (p = (gl G (R.take (k + 1))).length) := (by rw [HNN.out, HPU.out, List.length_take, HPP.out]; omega : p = (gl G (R.take (k + 1))).length)
              clear he
              go_wp2
              go_roundw
              case rel => exact ⟨k + 1, some ⟨g, 0, none⟩, p, c3, by omega, by go_num, rfl, HF3.out, HF1.out, HBW.out⟩
              case measure => simp only [intOf]; omega
            · have HPU : Hid (push O x = O ++ [x]) := push_none (fun q => by have h1 := HPP.out; rw [h1] at q; exact he q.2)
              generalize O.getD p 0 = z at hcp he
              have heb : (z == -x) = false := beq_eq_false_iff_ne.2 he
              clear he
              go_wp2_with (first
                | (at_builtin; refine wpList_append_own _ rfl _ _ 22 rfl w.heap.size 3 i2 (.int .i64 0) 1 8 Try.underlying22 hk hx0 hx1 hx2 rfl (by decide) _ (p + 1) (intsV O) rfl (HOW.out.alloc _) ⟨W2.heap.size, 0, none⟩ 1 1 [.int .i64 x] rfl rfl (new_one _ _ _) (one_intB x) (by unfold maxLen; omega) (by omega) (by have := HBW.out.size; simp; omega) ?_; intro v8 w8 hown8 hg8 _; refine Hid.out ?_))
              refine Lib.hid ?_
              obtain ⟨q1, q2⟩ := push_row HBW.out.size HBW.out HOW.out hown8 hg8
              obtain ⟨a8, c8, rfl⟩ := own_capS hown8
              have HF1 : Hid (w8.ownsRow w.heap.size 3 1 (.slice a8 (p + 1 + 1) c8) (p + 1 + 1) (intsV (gl G (R.take (k + 1))))) := (by rw [HNN.out, HPU.out]; exact q1)
              have HF2 : Hid (Below w.heap.size w w8) := q2
              have HF3 : Hid (p + 1 + 1 = (gl G (R.take (k + 1))).length) := (by rw [HNN.out, HPU.out, List.length_append, HPP.out]; rfl : p + 1 + 1 = (gl G (R.take (k + 1))).length)
              clear q1 q2 hown8 hg8
              go_wp2
              go_roundw
              case rel => exact ⟨k + 1, a8, p + 1 + 1, c8, by omega, by go_num, rfl, HF3.out, HF1.out, HF2.out⟩
              case measure => simp only [intOf]; omega
        · obtain rfl : r = k := by omega
          rw [HGA.out, ← HPX.out] at ho hp
          go_wp2
          go_roundw
          case rel => exact ⟨i + 1, a3, o, c3, by omega, by go_num, rfl, ho.out, hp.out, hb.out⟩
          case measure => simp only [intOf]; omega
    · obtain rfl : m = i := by omega
      go_wp2
      go_ret
      exact ⟨_, _, _, rfl, ho.out, hp.out, hb.out⟩
end Go.Proofs.Ytdlmhcickcgnfaa

/- The walks of ref.ExpandOf, tangle.Expand and the law TangleExpands. -/
import Derived.Test.YtbikalghmlihlaaTG5
import Derived.Test.YtbikalghmlihlaaX5
namespace Go.Proofs.Ytbikalghmlihlaa
open Go.RowKit

set_option maxHeartbeats 8000000 in
set_option maxRecDepth 100000 in
theorem expandOf_any (p q : Nat) (w : World) (hp : p ≤ 1000) (hq1 : 1 ≤ q) (hq : q ≤ 1000) :
    Calls Try.prog 59 #[.int .i64 (p : Nat), .int .i64 (q : Nat)] w fun e w' => ∃ v, e = .returned v ∧ w'.ownsRow w.heap.size 3 1 v (fixL (exL p q)).reverse.length (intsV (fixL (exL p q)).reverse) ∧ Below w.heap.size w w' := by
  obtain ⟨i2, hk, hx0, hx1, hx2⟩ := info_parts infoInt
  obtain ⟨L, hL⟩ : ∃ L, exL p q = L := ⟨_, rfl⟩
  have HL : Hid (exF (q + 1) p q = L) := hL
  have HL1 : Hid (1 ≤ L.length) := (by rw [← hL]; exact exL_some hq1 : 1 ≤ L.length)
  have HLB : Hid (∀ x ∈ L, 0 ≤ x ∧ x ≤ 1000) := (by rw [← hL]; exact exF_bd _ _ _ hp hq : ∀ x ∈ L, 0 ≤ x ∧ x ≤ 1000)
  have HB : Hid (Below w.heap.size w w) := Below.refl _ _
  have HO0 : Hid (w.ownsRow w.heap.size 3 1 (.slice none 0 0) ([] : List Int).length (intsV [])) := World.ownsRow_nil _ _ _ _
  rw [hL]
  clear hL
  go_enter Try.func59, Try.ntmps59
  go_wp2
  go_loopw [0, 1, 5] (fun v0 v1 v5 wr => ∃ (f a b : Nat) (acc : List Int) (a5 : Option Addr) (c5 : Nat), b < f ∧ a ≤ 1000 ∧ b ≤ 1000 ∧ acc.length + b ≤ 1000 ∧ v0 = .int .i64 (a : Nat) ∧ v1 = .int .i64 (b : Nat) ∧ v5 = .slice a5 acc.length c5 ∧ Hid (acc ++ exF f a b = L) ∧ Hid (wr.ownsRow w.heap.size 3 1 (.slice a5 acc.length c5) acc.length (intsV acc)) ∧ Hid (Below w.heap.size w wr)) (fun _ v1 _ _ => (intOf v1).toNat)
  case atStart => exact ⟨q + 1, p, q, [], none, 0, by omega, hp, hq, by simpa using hq, rfl, rfl, rfl, HL.out, HO0.out, HB.out⟩
  case round =>
    clear HB HO0 HL
    rename World => W1
    obtain ⟨f, a, b, acc, a5, c5, hbf, ha, hbb, hac, rfl, rfl, rfl, heq, hO, hb⟩ := hrel
    by_cases h0 : b = 0
    · obtain rfl : acc = L := by
        have h := heq.out
        cases f with
        | zero => omega
        | succ f =>
          unfold exF at h
          rw [if_pos h0, List.append_nil] at h
          exact h
      subst h0
      rw [show ((0 : Nat) : Int) = 0 from rfl]
      obtain ⟨n, hn⟩ : ∃ n, acc.length = n := ⟨_, rfl⟩
      have HN : Hid (acc.length = n) := hn
      have hn1 : 1 ≤ n := by rw [← hn]; exact HL1.out
      rw [hn] at hac hO ⊢
      obtain ⟨g, c, e5, hg1, hg2⟩ := own_some hO.out hn1
      injection e5 with e1 e2 e3
      subst e1
      clear e2 e3 hn heq hbf hbb
      have er : (n : Int).tmod 2 = ((n % 2 : Nat) : Int) := rfl
      obtain ⟨r, hr⟩ : ∃ r, n % 2 = r := ⟨_, rfl⟩
      have HR : Hid (n % 2 = r) := hr
      have hr2 : r < 2 := by omega
      rw [hr] at er
      clear hr
      by_cases hr0 : r = 0
      · subst hr0
        obtain ⟨m, hm⟩ : ∃ m, n - 1 = m := ⟨_, rfl⟩
        have hmn : m < n := by omega
        have hmI : (n : Int) - 1 = (m : Int) := by omega
        have ew0 : IntKind.i64.wrap ((n : Int) - 1) = (m : Int) := by rw [hmI]; exact IntWalk.i64_in _ (by omega)
        have hxb := HLB.out (acc.getD m 0) (by rw [List.getD_eq_getElem?_getD, List.getElem?_eq_getElem (by rw [HN.out]; exact hmn)]; exact List.getElem_mem _)
        have e0 : W1.cell? ⟨g, m, none⟩ = some (.int .i64 (acc.getD m 0)) := by
          rw [hO.out.cellAt m (by omega), intsV_getG _ m (by rw [HN.out]; exact hmn)]
        have f0 : W1.frozen? ⟨g, m, none⟩ = false := hO.out.frozenAt m
        have HFX : Hid (fixL acc = acc.set m (acc.getD m 0 - 1) ++ [1]) := (by unfold fixL; rw [HN.out, HR.out, if_pos rfl, hm] : fixL acc = acc.set m (acc.getD m 0 - 1) ++ [1])
        have hst := hO.out.stored m (.int .i64 (acc.getD m 0 - 1))
        rw [intsV_set] at hst
        obtain ⟨x, hx⟩ : ∃ x, acc.getD m 0 = x := ⟨_, rfl⟩
        rw [hx] at hxb e0 HFX hst
        have ew1 : IntKind.i64.wrap (x - 1) = x - 1 := IntWalk.i64_in _ (by omega)
        obtain ⟨A, hA⟩ : ∃ A, acc.set m (x - 1) = A := ⟨_, rfl⟩
        have hAl : A.length = n := by rw [← hA, List.length_set, HN.out]
        have HAL : Hid (A.length = n) := hAl
        rw [hA] at HFX hst
        obtain ⟨X, hX⟩ : ∃ X, X = W1.setCell ⟨g, m, none⟩ (.int .i64 (x - 1)) := ⟨_, rfl⟩
        have HX : Hid (X = W1.setCell ⟨g, m, none⟩ (.int .i64 (x - 1))) := hX
        have HOX : Hid (X.ownsRow w.heap.size 3 1 (.slice (some ⟨g, 0, none⟩) A.length c5) A.length (intsV A)) := (by rw [hX, hAl]; exact hst.1 : X.ownsRow w.heap.size 3 1 (.slice (some ⟨g, 0, none⟩) A.length c5) A.length (intsV A))
        have HBX : Hid (Below w.heap.size w X) := (by rw [hX]; exact hb.out.grown hst.2 hb.out.size (fun q hq => by have := Option.some.inj hq; omega) : Below w.heap.size w X)
        clear hm hx hA hst hX hAl
        go_upto_region 9 with (fail)
        rw [← HX.out]
        clear HX e0 f0 ew1 ew0 hmI
        rw [← HAL.out] at hac hn1 ⊢
        go_wp2_with (first
          | (at_builtin; refine wpList_append_own _ rfl _ _ 36 rfl w.heap.size 3 i2 (.int .i64 0) 1 8 Try.underlying36 hk hx0 hx1 hx2 rfl (by decide) _ _ _ rfl (HOX.out.alloc _) ⟨X.heap.size, 0, none⟩ 1 1 [.int .i64 1] rfl rfl (new_cell1 _ _ _) (one_int 1) (by unfold maxLen; omega) (by omega) (by have := HBX.out.size; simp; omega) ?_; intro v8 w8 hown8 hg8 _; refine Hid.out ?_))
        refine Lib.hid ?_
        have hpu := push_int HBX.out HOX.out hown8 hg8
        obtain ⟨F, hF⟩ : ∃ F, fixL acc = F := ⟨_, rfl⟩
        have HF : Hid (fixL acc = F) := hF
        rw [← HFX.out, hF] at hpu
        have hF1 : F.length = A.length + 1 := by rw [← hF, HFX.out]; simp
        obtain ⟨g8, c8, rfl, hg81, hg82⟩ := own_some hpu.1 (by omega)
        have HP8 : Hid (w8.ownsRow w.heap.size 3 1 (.slice (some ⟨g8, 0, none⟩) F.length c8) F.length (intsV F)) := hpu.1
        have HB8 : Hid (Below w.heap.size w w8) := hpu.2
        clear hown8 hg8 hpu hF
        obtain ⟨n9, hn9⟩ : ∃ n9, F.length = n9 := ⟨_, rfl⟩
        have HN9 : Hid (F.length = n9) := hn9
        have HB9 : Hid (Below w8.heap.size w8 w8) := Below.refl _ _
        have HR9 : Hid (w8.ownsRow w.heap.size 3 1 (.slice (some ⟨g8, 0, none⟩) n9 c8) n9 (intsV F)) := (by rw [← hn9]; exact HP8.out : w8.ownsRow w.heap.size 3 1 (.slice (some ⟨g8, 0, none⟩) n9 c8) n9 (intsV F))
        have HO9 : Hid (w8.ownsRow w8.heap.size 3 1 (.slice none 0 0) ((F.drop n9).reverse).length (intsV (F.drop n9).reverse)) := (by rw [List.drop_of_length_le (by omega)]; exact World.ownsRow_nil _ _ _ _ : w8.ownsRow w8.heap.size 3 1 (.slice none 0 0) ((F.drop n9).reverse).length (intsV (F.drop n9).reverse))
        have HDL : Hid (∀ k, k ≤ n9 → (F.drop k).reverse.length = n9 - k) := fun k _ => by rw [List.length_reverse, List.length_drop, HN9.out]
        have HD0 : Hid ((F.drop n9).reverse.length = 0) := (by rw [HDL.out n9 (Nat.le_refl _)]; omega : (F.drop n9).reverse.length = 0)
        have HDS : Hid (∀ j, j < n9 → (F.drop j).reverse = (F.drop (j + 1)).reverse ++ [F.getD j 0]) := fun j hj => by
          rw [List.drop_eq_getElem_cons (by rw [HN9.out]; exact hj), List.reverse_cons, List.getD_eq_getElem?_getD, List.getElem?_eq_getElem (by rw [HN9.out]; exact hj)]
          rfl
        have hb9 : n9 ≤ 2000 := by omega
        have ewN : IntKind.i64.wrap ((n9 : Int) - 1) = (n9 : Int) - 1 := IntWalk.i64_in _ (by omega)
        rw [hn9]
        clear hn9
        go_wp2
        go_loopw [7, 8] (fun v7 v8 wr => ∃ (k : Nat) (a7 : Option Addr) (c7 : Nat), k ≤ n9 ∧ v8 = .int .i64 ((k : Int) - 1) ∧ v7 = .slice a7 (n9 - k) c7 ∧ Hid (wr.ownsRow w8.heap.size 3 1 (.slice a7 (n9 - k) c7) (F.drop k).reverse.length (intsV (F.drop k).reverse)) ∧ Hid (Below w8.heap.size w8 wr)) (fun _ v8 _ => (intOf v8 + 1).toNat)
        case atStart => exact ⟨n9, none, 0, Nat.le_refl _, rfl, by rw [Nat.sub_self], by rw [Nat.sub_self]; exact HO9.out, HB9.out⟩
        case round =>
          clear HB9 HO9 ewN
          rename World => W2
          obtain ⟨k, a7, c7, hkn, rfl, rfl, hO7, hb7⟩ := hrel
          by_cases hk0 : k = 0
          · subst hk0
            have HFN : Hid (W2.ownsRow w.heap.size 3 1 (.slice a7 (n9 - 0) c7) (F).reverse.length (intsV (F).reverse) ∧ Below w.heap.size w W2) := ⟨own_low (by have := hO7.out; rw [List.drop_zero] at this; exact this) HB8.out.size, HB8.out.trans (hb7.out.mono HB8.out.size)⟩
            go_wp2
            go_ret
            exact ⟨_, rfl, by rw [HF.out]; exact HFN.out.1, HFN.out.2⟩
          · obtain ⟨j, hj⟩ : ∃ j, k = j + 1 := ⟨k - 1, by omega⟩
            subst hj
            have hjI : ((j + 1 : Nat) : Int) - 1 = (j : Int) := by omega
            rw [hjI]
            have e0 : W2.cell? ⟨g8, j, none⟩ = some (.int .i64 (F.getD j 0)) := by
              refine bcell hb7.out (by omega) ?_
              rw [HR9.out.cellAt j (by omega), intsV_getG _ j (by rw [HN9.out]; omega)]
            have HLN : Hid (n9 - (j + 1) + 1 = n9 - j) := (by omega : n9 - (j + 1) + 1 = n9 - j)
            have HDJ : Hid ((F.drop j).reverse = (F.drop (j + 1)).reverse ++ [F.getD j 0]) := HDS.out j (by omega)
            have HLJ : Hid ((F.drop (j + 1)).reverse.length = n9 - (j + 1)) := HDL.out _ hkn
            obtain ⟨x, hx⟩ : ∃ x, F.getD j 0 = x := ⟨_, rfl⟩
            rw [hx] at e0 HDJ
            obtain ⟨G, hG⟩ : ∃ G, (F.drop (j + 1)).reverse = G := ⟨_, rfl⟩
            rw [hG] at HDJ HLJ hO7
            have hGl : n9 - (j + 1) = G.length := HLJ.out.symm
            have hGb : G.length ≤ 2000 := by omega
            rw [hGl] at hO7 HLN ⊢
            have hjn : (j : Int) < (n9 : Int) := by omega
            have hgl : g8 < W2.heap.size := by have := hb7.out.size; omega
            have ew9 : IntKind.i64.wrap ((j : Int) - 1) = (j : Int) - 1 := IntWalk.i64_in _ (by omega)
            have hj2 : (0 : Int) ≤ (j : Int) := by omega
            clear hx hG hGl hk0 hjI
            go_wp2_with (first
              | (at_builtin; refine wpList_append_own _ rfl _ _ 36 rfl w8.heap.size 3 i2 (.int .i64 0) 1 8 Try.underlying36 hk hx0 hx1 hx2 rfl (by decide) _ _ _ rfl (hO7.out.alloc _) ⟨W2.heap.size, 0, none⟩ 1 1 [.int .i64 x] rfl rfl (new_cell1 _ _ _) (one_int _) (by unfold maxLen; omega) (by omega) (by have := hb7.out.size; simp; omega) ?_; intro v8 wz hown8 hg8 _; refine Hid.out ?_))
            refine Lib.hid ?_
            have hpu := push_int hb7.out hO7.out hown8 hg8
            rw [← HDJ.out] at hpu
            obtain ⟨a8, c8', rfl⟩ := own_capS hown8
            rw [HLN.out] at hpu ⊢
            have HPU : Hid (wz.ownsRow w8.heap.size 3 1 (.slice a8 (n9 - j) c8') (F.drop j).reverse.length (intsV (F.drop j).reverse) ∧ Below w8.heap.size w8 wz) := hpu
            clear hown8 hg8 hpu
            go_wp2
            go_roundw
            case rel => exact ⟨j, a8, c8', by omega, rfl, rfl, HPU.out.1, HPU.out.2⟩
            case measure => simp only [intOf]; omega
      · have hrz : ((r : Int) == 0) = false := by simp; omega
        have HFX : Hid (fixL acc = acc) := (by unfold fixL; rw [HN.out, HR.out, if_neg hr0] : fixL acc = acc)
        have HP8 : Hid (W1.ownsRow w.heap.size 3 1 (.slice (some ⟨g, 0, none⟩) acc.length c5) acc.length (intsV acc)) := (by rw [HN.out]; exact hO.out : W1.ownsRow w.heap.size 3 1 (.slice (some ⟨g, 0, none⟩) acc.length c5) acc.length (intsV acc))
        obtain ⟨n9, hn9⟩ : ∃ n9, acc.length = n9 := ⟨_, rfl⟩
        have HN9 : Hid (acc.length = n9) := hn9
        have HB9 : Hid (Below W1.heap.size W1 W1) := Below.refl _ _
        have HR9 : Hid (W1.ownsRow w.heap.size 3 1 (.slice (some ⟨g, 0, none⟩) n9 c5) n9 (intsV acc)) := (by rw [← hn9]; exact HP8.out : W1.ownsRow w.heap.size 3 1 (.slice (some ⟨g, 0, none⟩) n9 c5) n9 (intsV acc))
        have HO9 : Hid (W1.ownsRow W1.heap.size 3 1 (.slice none 0 0) ((acc.drop n9).reverse).length (intsV (acc.drop n9).reverse)) := (by rw [List.drop_of_length_le (by omega)]; exact World.ownsRow_nil _ _ _ _ : W1.ownsRow W1.heap.size 3 1 (.slice none 0 0) ((acc.drop n9).reverse).length (intsV (acc.drop n9).reverse))
        have HDL : Hid (∀ k, k ≤ n9 → (acc.drop k).reverse.length = n9 - k) := fun k _ => by rw [List.length_reverse, List.length_drop, HN9.out]
        have HD0 : Hid ((acc.drop n9).reverse.length = 0) := (by rw [HDL.out n9 (Nat.le_refl _)]; omega : (acc.drop n9).reverse.length = 0)
        have HDS : Hid (∀ j, j < n9 → (acc.drop j).reverse = (acc.drop (j + 1)).reverse ++ [acc.getD j 0]) := fun j hj => by
          rw [List.drop_eq_getElem_cons (by rw [HN9.out]; exact hj), List.reverse_cons, List.getD_eq_getElem?_getD, List.getElem?_eq_getElem (by rw [HN9.out]; exact hj)]
          rfl
        have hb9 : n9 ≤ 2000 := by have := HN.out; omega
        have ewN : IntKind.i64.wrap ((n9 : Int) - 1) = (n9 : Int) - 1 := IntWalk.i64_in _ (by omega)
        obtain rfl : n9 = n := by rw [← hn9, HN.out]
        clear hn9
        go_wp2
        go_loopw [7, 8] (fun v7 v8 wr => ∃ (k : Nat) (a7 : Option Addr) (c7 : Nat), k ≤ n9 ∧ v8 = .int .i64 ((k : Int) - 1) ∧ v7 = .slice a7 (n9 - k) c7 ∧ Hid (wr.ownsRow W1.heap.size 3 1 (.slice a7 (n9 - k) c7) (acc.drop k).reverse.length (intsV (acc.drop k).reverse)) ∧ Hid (Below W1.heap.size W1 wr)) (fun _ v8 _ => (intOf v8 + 1).toNat)
        case atStart => exact ⟨n9, none, 0, Nat.le_refl _, rfl, by rw [Nat.sub_self], by rw [Nat.sub_self]; exact HO9.out, HB9.out⟩
        case round =>
          clear HB9 HO9 ewN
          rename World => W2
          obtain ⟨k, a7, c7, hkn, rfl, rfl, hO7, hb7⟩ := hrel
          by_cases hk0 : k = 0
          · subst hk0
            have HFN : Hid (W2.ownsRow w.heap.size 3 1 (.slice a7 (n9 - 0) c7) (acc).reverse.length (intsV (acc).reverse) ∧ Below w.heap.size w W2) := ⟨own_low (by have := hO7.out; rw [List.drop_zero] at this; exact this) hb.out.size, hb.out.trans (hb7.out.mono hb.out.size)⟩
            go_wp2
            go_ret
            exact ⟨_, rfl, by rw [HFX.out]; exact HFN.out.1, HFN.out.2⟩
          · obtain ⟨j, hj⟩ : ∃ j, k = j + 1 := ⟨k - 1, by omega⟩
            subst hj
            have hjI : ((j + 1 : Nat) : Int) - 1 = (j : Int) := by omega
            rw [hjI]
            have e0 : W2.cell? ⟨g, j, none⟩ = some (.int .i64 (acc.getD j 0)) := by
              refine bcell hb7.out (by omega) ?_
              rw [HR9.out.cellAt j (by omega), intsV_getG _ j (by rw [HN9.out]; omega)]
            have HLN : Hid (n9 - (j + 1) + 1 = n9 - j) := (by omega : n9 - (j + 1) + 1 = n9 - j)
            have HDJ : Hid ((acc.drop j).reverse = (acc.drop (j + 1)).reverse ++ [acc.getD j 0]) := HDS.out j (by omega)
            have HLJ : Hid ((acc.drop (j + 1)).reverse.length = n9 - (j + 1)) := HDL.out _ hkn
            obtain ⟨x, hx⟩ : ∃ x, acc.getD j 0 = x := ⟨_, rfl⟩
            rw [hx] at e0 HDJ
            obtain ⟨G, hG⟩ : ∃ G, (acc.drop (j + 1)).reverse = G := ⟨_, rfl⟩
            rw [hG] at HDJ HLJ hO7
            have hGl : n9 - (j + 1) = G.length := HLJ.out.symm
            have hGb : G.length ≤ 2000 := by omega
            rw [hGl] at hO7 HLN ⊢
            have hjn : (j : Int) < (n9 : Int) := by omega
            have hgl : g < W2.heap.size := by have := hb7.out.size; omega
            have ew9 : IntKind.i64.wrap ((j : Int) - 1) = (j : Int) - 1 := IntWalk.i64_in _ (by omega)
            have hj2 : (0 : Int) ≤ (j : Int) := by omega
            clear hx hG hGl hk0 hjI
            go_wp2_with (first
              | (at_builtin; refine wpList_append_own _ rfl _ _ 36 rfl W1.heap.size 3 i2 (.int .i64 0) 1 8 Try.underlying36 hk hx0 hx1 hx2 rfl (by decide) _ _ _ rfl (hO7.out.alloc _) ⟨W2.heap.size, 0, none⟩ 1 1 [.int .i64 x] rfl rfl (new_cell1 _ _ _) (one_int _) (by unfold maxLen; omega) (by omega) (by have := hb7.out.size; simp; omega) ?_; intro v8 wz hown8 hg8 _; refine Hid.out ?_))
            refine Lib.hid ?_
            have hpu := push_int hb7.out hO7.out hown8 hg8
            rw [← HDJ.out] at hpu
            obtain ⟨a8, c8', rfl⟩ := own_capS hown8
            rw [HLN.out] at hpu ⊢
            have HPU : Hid (wz.ownsRow W1.heap.size 3 1 (.slice a8 (n9 - j) c8') (acc.drop j).reverse.length (intsV (acc.drop j).reverse) ∧ Below W1.heap.size W1 wz) := hpu
            clear hown8 hg8 hpu
            go_wp2
            go_roundw
            case rel => exact ⟨j, a8, c8', by omega, rfl, rfl, HPU.out.1, HPU.out.2⟩
            case measure => simp only [intOf]; omega
    · have eq : (a : Int).tdiv (b : Int) = ((a / b : Nat) : Int) := rfl
      have er : (a : Int).tmod (b : Int) = ((a % b : Nat) : Int) := rfl
      have hf0 : ((b : Int) == 0) = false := by simp; omega
      have hfn : (b : Int) ≠ 0 := by omega
      have hlt : a % b < b := Nat.mod_lt _ (by omega)
      have hdl := Nat.div_le_self a b
      have HST : Hid (∃ f', (acc ++ [((a / b : Nat) : Int)]) ++ exF f' b (a % b) = L ∧ a % b < f') := (by
        have h := heq.out
        cases f with
        | zero => omega
        | succ f =>
          unfold exF at h
          rw [if_neg h0] at h
          exact ⟨f, by rw [List.append_assoc]; exact h, by omega⟩ : ∃ f', (acc ++ [((a / b : Nat) : Int)]) ++ exF f' b (a % b) = L ∧ a % b < f')
      obtain ⟨d, hd⟩ : ∃ d, a / b = d := ⟨_, rfl⟩
      obtain ⟨r, hr⟩ : ∃ r, a % b = r := ⟨_, rfl⟩
      rw [hd] at eq HST hdl
      rw [hr] at er HST hlt
      clear hd hr heq
      go_wp2_with (first
        | (at_builtin; refine wpList_append_own _ rfl _ _ 36 rfl w.heap.size 3 i2 (.int .i64 0) 1 8 Try.underlying36 hk hx0 hx1 hx2 rfl (by decide) _ _ _ rfl (hO.out.alloc _) ⟨W1.heap.size, 0, none⟩ 1 1 [.int .i64 (d : Nat)] rfl rfl (new_cell1 _ _ _) (one_int _) (by unfold maxLen; omega) (by omega) (by have := hb.out.size; simp; omega) ?_; intro v8 w8 hown8 hg8 _; refine Hid.out ?_))
      refine Lib.hid ?_
      have hpu := push_int hb.out hO.out hown8 hg8
      obtain ⟨a8, c8, rfl⟩ := own_capS hown8
      have hl8 : (acc ++ [(d : Int)]).length = acc.length + 1 := by simp
      have HP8 : Hid (∀ n, (w8.drewN n).ownsRow w.heap.size 3 1 (.slice a8 (acc ++ [(d : Int)]).length c8) (acc ++ [(d : Int)]).length (intsV (acc ++ [(d : Int)])) ∧ Below w.heap.size w (w8.drewN n)) := fun n => ⟨own_any (by rw [hl8]; have := hpu.1; rw [hl8] at this; exact this) (grown_below (below_drewN (Below.refl _ _) n) none), below_drewN hpu.2 n⟩
      have HL8 : Hid ((acc ++ [(d : Int)]).length = acc.length + 1) := hl8
      clear hown8 hg8 hpu hl8
      go_wp2
      go_roundw
      case rel =>
        obtain ⟨f', h1, h2⟩ := HST.out
        exact ⟨f', b, r, acc ++ [(d : Int)], a8, c8, h2, hbb, by omega, by rw [HL8.out]; omega, rfl, rfl, by rw [HL8.out], h1, (HP8.out 0).1, (HP8.out 0).2⟩
      case measure => simp only [intOf]; omega

set_option maxHeartbeats 4000000 in
set_option maxRecDepth 100000 in
theorem expand_no (p q : Int) (w : World) (h : lowB p q = false) :
    Calls Try.prog 57 #[.int .i64 p, .int .i64 q] w fun e w' => e = .returned (.tuple #[.slice none 0 0, .int .i64 3]) ∧ Below w.heap.size w w' := by
  have HP : Hid (∀ W, Calls Try.prog 121 #[.int .i64 p, .int .i64 q] W fun e w' => e = .returned (.bool false) ∧ Below W.heap.size W w') := fun W => by rw [← h]; exact proper_any p q W
  clear h
  go_enter Try.func57, Try.ntmps57
  go_wp2_with (go_at_call 121; refine (HP.out _).mono ?_; rintro e9 w2 ⟨rfl, hb2⟩; refine Hid.out ?_)
  refine Lib.hid ?_
  have HB2 : Hid (Below w.heap.size w w2) := hb2
  clear hb2
  go_wp2
  go_ret2
  exact ⟨rfl, HB2.out⟩
set_option maxHeartbeats 4000000 in
set_option maxRecDepth 100000 in
theorem expand_yes (p q : Int) (w : World) (h : lowB p q = true) :
    Calls Try.prog 57 #[.int .i64 p, .int .i64 q] w fun e w' => ∃ a c, e = .returned (.tuple #[.slice a (fixL (exL p.toNat q.toNat)).reverse.length c, .int .i64 0]) ∧ w'.ownsRow w.heap.size 3 1 (.slice a (fixL (exL p.toNat q.toNat)).reverse.length c) (fixL (exL p.toNat q.toNat)).reverse.length (intsV (fixL (exL p.toNat q.toNat)).reverse) ∧ Below w.heap.size w w' := by
  have HP : Hid (∀ W, Calls Try.prog 121 #[.int .i64 p, .int .i64 q] W fun e w' => e = .returned (.bool true) ∧ Below W.heap.size W w') := fun W => by rw [← h]; exact proper_any p q W
  obtain ⟨a1, a2, a3, a4, -⟩ := lowB_yes h
  obtain ⟨m, rfl⟩ : ∃ m : Nat, p = (m : Int) := ⟨p.toNat, by omega⟩
  obtain ⟨n, rfl⟩ : ∃ n : Nat, q = (n : Int) := ⟨q.toNat, by omega⟩
  rw [Int.toNat_natCast, Int.toNat_natCast]
  have HE : Hid (∀ W, Calls Try.prog 122 #[.int .i64 (m : Nat), .int .i64 (n : Nat)] W fun e w' => ∃ v, e = .returned v ∧ w'.ownsRow W.heap.size 3 1 v (fixL (exL m n)).reverse.length (intsV (fixL (exL m n)).reverse) ∧ Below W.heap.size W w') := fun W => expanded_any m n W (by omega) (by omega) (by omega)
  generalize (fixL (exL m n)).reverse = F at HE
  clear h
  go_enter Try.func57, Try.ntmps57
  go_wp2_with (go_at_call 121; refine (HP.out _).mono ?_; rintro e9 w2 ⟨rfl, hb2⟩; refine Hid.out ?_)
  refine Lib.hid ?_
  have HB2 : Hid (Below w.heap.size w w2) := hb2
  clear hb2
  go_wp2_with (go_at_call 122; refine (HE.out _).mono ?_; rintro e9 w3 ⟨v3, rfl, hr3, hb3⟩; refine Hid.out ?_)
  refine Lib.hid ?_
  obtain ⟨a3', c3', rfl⟩ := own_capS hr3
  have HFN : Hid (w3.ownsRow w.heap.size 3 1 (.slice a3' F.length c3') F.length (intsV F) ∧ Below w.heap.size w w3) := ⟨own_low hr3 HB2.out.size, HB2.out.trans (hb3.mono HB2.out.size)⟩
  clear hb3 hr3
  go_wp2
  go_ret2
  exact ⟨_, _, rfl, HFN.out⟩
end Go.Proofs.Ytbikalghmlihlaa

/- Lists of fractions: their mathematics; the walks of tangle.expanded, tangle.Expand and ref.ExpandOf. -/
import Derived.Test.YtbikalghmlihlaaTG4
import Derived.Deep.Cut
namespace Go.Proofs.Ytbikalghmlihlaa
open Go.RowKit

/-- Whole parts, the last number of the list first. -/
def exF : Nat → Nat → Nat → List Int
  | 0, _, _ => []
  | f + 1, a, b => if b = 0 then [] else ((a / b : Nat) : Int) :: exF f b (a % b)
theorem exF_bd : ∀ (f a b : Nat), a ≤ 1000 → b ≤ 1000 → ∀ x ∈ exF f a b, 0 ≤ x ∧ x ≤ 1000
  | 0, _, _, _, _, x, hx => by simp [exF] at hx
  | f + 1, a, b, ha, hb, x, hx => by
    unfold exF at hx
    by_cases h0 : b = 0
    · rw [if_pos h0] at hx; simp at hx
    · rw [if_neg h0] at hx
      rcases List.mem_cons.1 hx with rfl | h
      · have h2 := Nat.div_le_self a b
        generalize a / b = d at h2
        omega
      · exact exF_bd f b (a % b) hb (Nat.le_trans (Nat.mod_le _ _) ha) x h
/-- Of odd length, then. -/
def fixL (L : List Int) : List Int := if L.length % 2 = 0 then L.set (L.length - 1) (L.getD (L.length - 1) 0 - 1) ++ [1] else L
def exL (p q : Nat) : List Int := exF (q + 1) p q
theorem exL_some {p q : Nat} (hq : 1 ≤ q) : 1 ≤ (exL p q).length := by
  unfold exL exF
  rw [if_neg (by omega)]
  simp
theorem one_int (x : Int) : ∀ u ∈ [Value.int .i64 x], u.oneCell' = true := by
  intro u hu
  simp only [List.mem_singleton] at hu
  subst hu
  rfl
theorem own_some {w : World} {B e s n : Nat} {v : Value} {xs : List Value} (h : w.ownsRow B e s v n xs) (hn : 1 ≤ n) : ∃ g c, v = .slice (some ⟨g, 0, none⟩) n c ∧ B ≤ g ∧ g < w.heap.size := by
  have h0 := h
  rcases h.2 with ⟨rfl, h1⟩ | ⟨g, cap, cur, rfl, h2, _⟩
  · omega
  · exact ⟨g, cap, rfl, (h0.lt g rfl).1, (h0.lt g rfl).2⟩
theorem intsV_snoc (l : List Int) (x : Int) : intsV l ++ [.int .i64 x] = intsV (l ++ [x]) := by simp [intsV]
/-- What append leaves. -/
theorem push_int {w W1 w8 : World} {v v8 : Value} {l : List Int} {x : Int} {e : TypeId} (hb : Below w.heap.size w W1) (hO : W1.ownsRow w.heap.size 3 1 v l.length (intsV l)) (hown : w8.ownsRow w.heap.size 3 1 v8 (l.length + 1) (intsV l ++ [.int .i64 x])) (hg : (W1.alloc (.cells #[.int .i64 x] e)).grownBy w8 v.ownBlock) :
    w8.ownsRow w.heap.size 3 1 v8 (l ++ [x]).length (intsV (l ++ [x])) ∧ Below w.heap.size w w8 := by
  refine ⟨?_, (hb.alloc hb.size _).grown hg (by have := hb.size; simp; omega) (fun q hq => (hO.lt q hq).1)⟩
  rw [← intsV_snoc]
  simpa using hown

set_option maxHeartbeats 8000000 in
set_option maxRecDepth 100000 in
theorem expanded_any (p q : Nat) (w : World) (hp : p ≤ 1000) (hq1 : 1 ≤ q) (hq : q ≤ 1000) :
    Calls Try.prog 122 #[.int .i64 (p : Nat), .int .i64 (q : Nat)] w fun e w' => ∃ v, e = .returned v ∧ w'.ownsRow w.heap.size 3 1 v (fixL (exL p q)).reverse.length (intsV (fixL (exL p q)).reverse) ∧ Below w.heap.size w w' := by
  obtain ⟨i2, hk, hx0, hx1, hx2⟩ := info_parts infoInt
  obtain ⟨L, hL⟩ : ∃ L, exL p q = L := ⟨_, rfl⟩
  have HL : Hid (exF (q + 1) p q = L) := hL
  have HL1 : Hid (1 ≤ L.length) := (by rw [← hL]; exact exL_some hq1 : 1 ≤ L.length)
  have HLB : Hid (∀ x ∈ L, 0 ≤ x ∧ x ≤ 1000) := (by rw [← hL]; exact exF_bd _ _ _ hp hq : ∀ x ∈ L, 0 ≤ x ∧ x ≤ 1000)
  have HB : Hid (Below w.heap.size w w) := Below.refl _ _
  have HO0 : Hid (w.ownsRow w.heap.size 3 1 (.slice none 0 0) ([] : List Int).length (intsV [])) := World.ownsRow_nil _ _ _ _
  rw [hL]
  clear hL
  go_enter Try.func122, Try.ntmps122
  go_wp2
  go_loopw [0, 1, 5] (fun v0 v1 v5 wr => ∃ (f a b : Nat) (acc : List Int) (a5 : Option Addr) (c5 : Nat), b < f ∧ a ≤ 1000 ∧ b ≤ 1000 ∧ acc.length + b ≤ 1000 ∧ v0 = .int .i64 (a : Nat) ∧ v1 = .int .i64 (b : Nat) ∧ v5 = .slice a5 acc.length c5 ∧ Hid (acc ++ exF f a b = L) ∧ Hid (wr.ownsRow w.heap.size 3 1 (.slice a5 acc.length c5) acc.length (intsV acc)) ∧ Hid (Below w.heap.size w wr)) (fun _ v1 _ _ => (intOf v1).toNat)
  case atStart => exact ⟨q + 1, p, q, [], none, 0, by omega, hp, hq, by simpa using hq, rfl, rfl, rfl, HL.out, HO0.out, HB.out⟩
  case round =>
    clear HB HO0 HL
    rename World => W1
    obtain ⟨f, a, b, acc, a5, c5, hbf, ha, hbb, hac, rfl, rfl, rfl, heq, hO, hb⟩ := hrel
    by_cases h0 : b = 0
    · obtain rfl : acc = L := by
        have h := heq.out
        cases f with
        | zero => omega
        | succ f =>
          unfold exF at h
          rw [if_pos h0, List.append_nil] at h
          exact h
      subst h0
      obtain ⟨n, hn⟩ : ∃ n, acc.length = n := ⟨_, rfl⟩
      have HN : Hid (acc.length = n) := hn
      have hn1 : 1 ≤ n := by rw [← hn]; exact HL1.out
      rw [hn] at hac hO ⊢
      obtain ⟨g, c, e5, hg1, hg2⟩ := own_some hO.out hn1
      injection e5 with e1 e2 e3
      subst e1
      clear e2 e3 hn heq hbf hbb
      have er : (n : Int).tmod 2 = ((n % 2 : Nat) : Int) := rfl
      obtain ⟨r, hr⟩ : ∃ r, n % 2 = r := ⟨_, rfl⟩
      have HR : Hid (n % 2 = r) := hr
      have hr2 : r < 2 := by omega
      rw [hr] at er
      clear hr
      by_cases hr0 : r = 0
      · subst hr0
        obtain ⟨m, hm⟩ : ∃ m, n - 1 = m := ⟨_, rfl⟩
        have hmn : m < n := by omega
        have hmI : (n : Int) - 1 = (m : Int) := by omega
        have ew0 : IntKind.i64.wrap ((n : Int) - 1) = (m : Int) := by rw [hmI]; exact IntWalk.i64_in _ (by omega)
        have hxb := HLB.out (acc.getD m 0) (by rw [List.getD_eq_getElem?_getD, List.getElem?_eq_getElem (by rw [HN.out]; exact hmn)]; exact List.getElem_mem _)
        have e0 : W1.cell? ⟨g, m, none⟩ = some (.int .i64 (acc.getD m 0)) := by
          rw [hO.out.cellAt m (by omega), intsV_getG _ m (by rw [HN.out]; exact hmn)]
        have f0 : W1.frozen? ⟨g, m, none⟩ = false := hO.out.frozenAt m
        have HFX : Hid (fixL acc = acc.set m (acc.getD m 0 - 1) ++ [1]) := (by unfold fixL; rw [HN.out, HR.out, if_pos rfl, hm] : fixL acc = acc.set m (acc.getD m 0 - 1) ++ [1])
        have hst := hO.out.stored m (.int .i64 (acc.getD m 0 - 1))
        rw [intsV_set] at hst
        obtain ⟨x, hx⟩ : ∃ x, acc.getD m 0 = x := ⟨_, rfl⟩
        rw [hx] at hxb e0 HFX hst
        have ew1 : IntKind.i64.wrap (x - 1) = x - 1 := IntWalk.i64_in _ (by omega)
        obtain ⟨A, hA⟩ : ∃ A, acc.set m (x - 1) = A := ⟨_, rfl⟩
        have hAl : A.length = n := by rw [← hA, List.length_set, HN.out]
        have HAL : Hid (A.length = n) := hAl
        rw [hA] at HFX hst
        obtain ⟨X, hX⟩ : ∃ X, X = W1.setCell ⟨g, m, none⟩ (.int .i64 (x - 1)) := ⟨_, rfl⟩
        have HX : Hid (X = W1.setCell ⟨g, m, none⟩ (.int .i64 (x - 1))) := hX
        have HOX : Hid (X.ownsRow w.heap.size 3 1 (.slice (some ⟨g, 0, none⟩) A.length c5) A.length (intsV A)) := (by rw [hX, hAl]; exact hst.1 : X.ownsRow w.heap.size 3 1 (.slice (some ⟨g, 0, none⟩) A.length c5) A.length (intsV A))
        have HBX : Hid (Below w.heap.size w X) := (by rw [hX]; exact hb.out.grown hst.2 hb.out.size (fun q hq => by have := Option.some.inj hq; omega) : Below w.heap.size w X)
        clear hm hx hA hst hX hAl
        go_upto_region 7 with (fail)
        rw [← HX.out]
        clear HX e0 f0 ew1 ew0 hmI
        rw [← HAL.out] at hac hn1 ⊢
        go_wp2_with (first
          | (at_builtin; refine wpList_append_own _ rfl _ _ 36 rfl w.heap.size 3 i2 (.int .i64 0) 1 8 Try.underlying36 hk hx0 hx1 hx2 rfl (by decide) _ _ _ rfl (HOX.out.alloc _) ⟨X.heap.size, 0, none⟩ 1 1 [.int .i64 1] rfl rfl (new_cell1 _ _ _) (one_int 1) (by unfold maxLen; omega) (by omega) (by have := HBX.out.size; simp; omega) ?_; intro v8 w8 hown8 hg8 _; refine Hid.out ?_))
        refine Lib.hid ?_
        have hpu := push_int HBX.out HOX.out hown8 hg8
        obtain ⟨F, hF⟩ : ∃ F, fixL acc = F := ⟨_, rfl⟩
        have HF : Hid (fixL acc = F) := hF
        rw [← HFX.out, hF] at hpu
        have hF1 : F.length = A.length + 1 := by rw [← hF, HFX.out]; simp
        obtain ⟨g8, c8, rfl, hg81, hg82⟩ := own_some hpu.1 (by omega)
        have HP8 : Hid (w8.ownsRow w.heap.size 3 1 (.slice (some ⟨g8, 0, none⟩) F.length c8) F.length (intsV F)) := hpu.1
        have HB8 : Hid (Below w.heap.size w w8) := hpu.2
        have HRV : Hid (Calls Try.prog 177 #[.slice (some ⟨g8, 0, none⟩) F.length c8] w8 fun e w' => e = .returned (.tuple #[]) ∧ w'.ownsRow w.heap.size 3 1 (.slice (some ⟨g8, 0, none⟩) F.length c8) F.length (intsV F.reverse) ∧ w8.grownBy w' (some g8)) := reverse_any w.heap.size g8 c8 F w8 (by omega) (by omega) HP8.out
        clear hown8 hg8 hpu hF hF1
        go_wp2_with (go_at_call 177; refine HRV.out.mono ?_; rintro e9 w9 ⟨rfl, hr9, hg9⟩; refine Hid.out ?_)
        refine Lib.hid ?_
        have HFN : Hid (w9.ownsRow w.heap.size 3 1 (.slice (some ⟨g8, 0, none⟩) F.length c8) F.reverse.length (intsV F.reverse) ∧ Below w.heap.size w w9) := ⟨by rw [List.length_reverse]; exact hr9, HB8.out.grown hg9 HB8.out.size (fun q hq => by have := Option.some.inj hq; omega)⟩
        clear hr9 hg9
        go_wp2
        go_ret
        exact ⟨_, rfl, by rw [HF.out]; exact HFN.out.1, HFN.out.2⟩
      · have hrz : ((r : Int) == 0) = false := by simp; omega
        have HFX : Hid (fixL acc = acc) := (by unfold fixL; rw [HN.out, HR.out, if_neg hr0] : fixL acc = acc)
        have HP8 : Hid (W1.ownsRow w.heap.size 3 1 (.slice (some ⟨g, 0, none⟩) acc.length c5) acc.length (intsV acc)) := (by rw [HN.out]; exact hO.out : W1.ownsRow w.heap.size 3 1 (.slice (some ⟨g, 0, none⟩) acc.length c5) acc.length (intsV acc))
        have HRV : Hid (Calls Try.prog 177 #[.slice (some ⟨g, 0, none⟩) acc.length c5] W1 fun e w' => e = .returned (.tuple #[]) ∧ w'.ownsRow w.heap.size 3 1 (.slice (some ⟨g, 0, none⟩) acc.length c5) acc.length (intsV acc.reverse) ∧ W1.grownBy w' (some g)) := reverse_any w.heap.size g c5 acc W1 (by rw [HN.out]; omega) (by rw [HN.out]; omega) HP8.out
        rw [HN.out] at HRV
        go_wp2_with (go_at_call 177; refine HRV.out.mono ?_; rintro e9 w9 ⟨rfl, hr9, hg9⟩; refine Hid.out ?_)
        refine Lib.hid ?_
        have HFN : Hid (w9.ownsRow w.heap.size 3 1 (.slice (some ⟨g, 0, none⟩) n c5) acc.reverse.length (intsV acc.reverse) ∧ Below w.heap.size w w9) := ⟨by rw [List.length_reverse, HN.out]; exact hr9, hb.out.grown hg9 hb.out.size (fun q hq => by have := Option.some.inj hq; omega)⟩
        clear hr9 hg9
        go_wp2
        go_ret
        exact ⟨_, rfl, by rw [HFX.out]; exact HFN.out.1, HFN.out.2⟩
    · have eq : (a : Int).tdiv (b : Int) = ((a / b : Nat) : Int) := rfl
      have er : (a : Int).tmod (b : Int) = ((a % b : Nat) : Int) := rfl
      have hf0 : ((b : Int) == 0) = false := by simp; omega
      have hfn : (b : Int) ≠ 0 := by omega
      have hlt : a % b < b := Nat.mod_lt _ (by omega)
      have hdl := Nat.div_le_self a b
      have HST : Hid (∃ f', (acc ++ [((a / b : Nat) : Int)]) ++ exF f' b (a % b) = L ∧ a % b < f') := (by
        have h := heq.out
        cases f with
        | zero => omega
        | succ f =>
          unfold exF at h
          rw [if_neg h0] at h
          exact ⟨f, by rw [List.append_assoc]; exact h, by omega⟩ : ∃ f', (acc ++ [((a / b : Nat) : Int)]) ++ exF f' b (a % b) = L ∧ a % b < f')
      obtain ⟨d, hd⟩ : ∃ d, a / b = d := ⟨_, rfl⟩
      obtain ⟨r, hr⟩ : ∃ r, a % b = r := ⟨_, rfl⟩
      rw [hd] at eq HST hdl
      rw [hr] at er HST hlt
      clear hd hr heq
      go_wp2_with (first
        | (at_builtin; refine wpList_append_own _ rfl _ _ 36 rfl w.heap.size 3 i2 (.int .i64 0) 1 8 Try.underlying36 hk hx0 hx1 hx2 rfl (by decide) _ _ _ rfl (hO.out.alloc _) ⟨W1.heap.size, 0, none⟩ 1 1 [.int .i64 (d : Nat)] rfl rfl (new_cell1 _ _ _) (one_int _) (by unfold maxLen; omega) (by omega) (by have := hb.out.size; simp; omega) ?_; intro v8 w8 hown8 hg8 _; refine Hid.out ?_))
      refine Lib.hid ?_
      have hpu := push_int hb.out hO.out hown8 hg8
      obtain ⟨a8, c8, rfl⟩ := own_capS hown8
      have hl8 : (acc ++ [(d : Int)]).length = acc.length + 1 := by simp
      have HP8 : Hid (∀ n, (w8.drewN n).ownsRow w.heap.size 3 1 (.slice a8 (acc ++ [(d : Int)]).length c8) (acc ++ [(d : Int)]).length (intsV (acc ++ [(d : Int)])) ∧ Below w.heap.size w (w8.drewN n)) := fun n => ⟨own_any (by rw [hl8]; have := hpu.1; rw [hl8] at this; exact this) (grown_below (below_drewN (Below.refl _ _) n) none), below_drewN hpu.2 n⟩
      have HL8 : Hid ((acc ++ [(d : Int)]).length = acc.length + 1) := hl8
      clear hown8 hg8 hpu hl8
      go_wp2
      go_quiet (fail)
      go_wp2
      go_roundw
      case rel =>
        obtain ⟨f', h1, h2⟩ := HST.out
        exact ⟨f', b, r, acc ++ [(d : Int)], a8, c8, h2, hbb, by omega, by rw [HL8.out]; omega, rfl, rfl, by rw [HL8.out], h1, (HP8.out _).1, (HP8.out _).2⟩
      case measure => simp only [intOf]; omega
end Go.Proofs.Ytbikalghmlihlaa

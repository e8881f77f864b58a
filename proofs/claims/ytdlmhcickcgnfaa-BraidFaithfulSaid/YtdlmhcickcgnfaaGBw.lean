/- The walks of knotworkkeep.picked, word and join. -/
import Derived.Test.YtdlmhcickcgnfaaGB9
import Derived.Test.YtdlmhcickcgnfaaTG1
import Derived.Test.YtdlmhcickcgnfaaW3
namespace Go.Proofs.Ytdlmhcickcgnfaa
open Go.RowKit

set_option maxHeartbeats 1000000 in
theorem pickedB_any (x : Int) (n : Nat) (w : World) (hx : -9223372036854775808 ≤ x ∧ x ≤ 9223372036854775807) (h0 : 0 < n) (h1 : n ≤ 1000) :
    Calls Try.prog 10 #[.int .i64 x, .int .i64 (n : Nat)] w fun e w' => ∃ r : Nat, e = .returned (.int .i64 (r : Nat)) ∧ r < n ∧ w' = w := by
  have hz : ((n : Int) == 0) = false := beq_eq_false_iff_ne.2 (by omega)
  by_cases hn : x < 0
  · have hd : decide (x < 0) = true := decide_eq_true hn
    have e1 : IntKind.i64.wrap (x + 1) = x + 1 := IntWalk.i64_in _ (by omega)
    have e2 : IntKind.i64.wrap (-(x + 1)) = -(x + 1) := IntWalk.i64_in _ (by omega)
    obtain ⟨q, hq⟩ : ∃ q : Nat, -(x + 1) = (q : Int) := ⟨(-(x + 1)).toNat, by omega⟩
    have er : (q : Int).tmod (n : Int) = ((q % n : Nat) : Int) := rfl
    have hlt := Nat.mod_lt q h0
    have e3 : IntKind.i64.wrap ((q % n : Nat) : Int) = ((q % n : Nat) : Int) := IntWalk.i64_in _ (by omega)
    go_enter Try.func10, Try.ntmps10
    go_wp2
    go_ret
    exact ⟨q % n, by simp, hlt, rfl⟩
  · have hd : decide (x < 0) = false := decide_eq_false hn
    obtain ⟨q, hq⟩ : ∃ q : Nat, x = (q : Int) := ⟨x.toNat, by omega⟩
    subst hq
    have er : (q : Int).tmod (n : Int) = ((q % n : Nat) : Int) := rfl
    have hlt := Nat.mod_lt q h0
    have e3 : IntKind.i64.wrap ((q % n : Nat) : Int) = ((q % n : Nat) : Int) := IntWalk.i64_in _ (by omega)
    go_enter Try.func10, Try.ntmps10
    go_wp2
    go_ret
    exact ⟨q % n, by simp, hlt, rfl⟩
theorem push_intB {w W1 w8 : World} {v v8 : Value} {l : List Int} {x : Int} {e : TypeId} (hb : Below w.heap.size w W1) (hO : W1.ownsRow w.heap.size 3 1 v l.length (intsV l)) (hown : w8.ownsRow w.heap.size 3 1 v8 (l.length + 1) (intsV l ++ [.int .i64 x])) (hg : (W1.alloc (.cells #[.int .i64 x] e)).grownBy w8 v.ownBlock) :
    w8.ownsRow w.heap.size 3 1 v8 (l ++ [x]).length (intsV (l ++ [x])) ∧ Below w.heap.size w w8 := by
  refine ⟨?_, (hb.alloc hb.size _).grown hg (by have := hb.size; simp; omega) (fun q hq => (hO.lt q hq).1)⟩
  have e1 : intsV l ++ [.int .i64 x] = intsV (l ++ [x]) := by simp [intsV]
  rw [← e1]
  simpa using hown
/-- A letter of n strands. -/
def LtOk (n : Nat) (l : List Int) : Prop := ∀ x ∈ l, 1 ≤ x.natAbs ∧ x.natAbs < n
theorem LtOk.snoc {n : Nat} {l : List Int} (h : LtOk n l) {x : Int} (hx : 1 ≤ x.natAbs ∧ x.natAbs < n) : LtOk n (l ++ [x]) := fun y hy => by
  rcases List.mem_append.1 hy with g | g
  · exact h y g
  · rw [List.mem_singleton.1 g]; exact hx
theorem LtOk.word {n : Nat} {l : List Int} (h : LtOk n l) (h2 : 2 ≤ n) (h6 : n ≤ 6) (hl : l.length ≤ 20) : wordN (n : Int) l = 0 := by
  unfold wordN
  rw [if_neg (by omega), if_neg, if_neg (by omega)]
  intro q
  obtain ⟨x, hx, hb⟩ := List.any_eq_true.1 q
  have := h x hx
  unfold badL at hb
  rw [decide_eq_false (show ¬ x = 0 by omega), decide_eq_false (show ¬ x ≤ -(n : Int) by omega), decide_eq_false (show ¬ (n : Int) ≤ x by omega)] at hb
  cases hb

set_option maxHeartbeats 8000000 in
set_option maxRecDepth 100000 in
theorem word_any (n p q : Nat) (a : Option Addr) (c : Nat) (l : List Int) (w : World) (hnp : n = p + 1) (h1 : 1 ≤ p) (h5 : p ≤ 5) (hq : q ≤ 20) (hl : ∀ x ∈ l, -9223372036854775808 ≤ x ∧ x ≤ 9223372036854775807) (h : RdAt w w.heap.size 1 (.slice a l.length c) l.length (intsV l)) :
    Calls Try.prog 11 #[.int .i64 (n : Nat), .slice a l.length c, .int .i64 (q : Nat)] w fun e w' => ∃ a2 c2 L, e = .returned (.slice a2 L.length c2) ∧ w'.ownsRow w.heap.size 3 1 (.slice a2 L.length c2) L.length (intsV L) ∧ Hid (LtOk n L ∧ L.length ≤ q) ∧ Below w.heap.size w w' := by
  obtain ⟨i2, hk, hx0, hx1, hx2⟩ := info_parts infoInt
  have HRD : Hid (∀ W, Below w.heap.size w W → RdAt W W.heap.size 1 (.slice a l.length c) l.length (intsV l)) := fun W hW => (h.on hW).mono hW.size
  have HL : Hid (∀ x ∈ l, -9223372036854775808 ≤ x ∧ x ≤ 9223372036854775807) := hl
  have HNP : Hid (n = p + 1) := hnp
  have ew1 : IntKind.i64.wrap ((n : Int) - 1) = (p : Int) := by rw [show (n : Int) - 1 = p by omega]; exact IntWalk.i64_in _ (by omega)
  obtain ⟨d, hd⟩ : ∃ d, d = 2 * p := ⟨_, rfl⟩
  have HD : Hid (d = 2 * p) := hd
  have ew2 : IntKind.i64.wrap (2 * (p : Int)) = (d : Int) := by rw [show 2 * (p : Int) = d by omega]; exact IntWalk.i64_in _ (by omega)
  obtain ⟨p2, hp2⟩ : ∃ p2 : Int, p2 = (p : Int) - 1 := ⟨_, rfl⟩
  have ew3 : IntKind.i64.wrap ((n : Int) - 2) = p2 := by rw [show (n : Int) - 2 = p2 by omega]; exact IntWalk.i64_in _ (by omega)
  have hp2b : p2 ≤ 5 ∧ 0 ≤ p2 := by omega
  have HP2 : Hid (p2 = (p : Int) - 1) := hp2
  have HO0 : Hid (w.ownsRow w.heap.size 3 1 (.slice none 0 0) ([] : List Int).length (intsV [])) := World.ownsRow_nil _ _ _ _
  have hd1 : 0 < d := by omega
  have hd2 : d ≤ 1000 := by omega
  clear h hl hnp hd hp2
  go_enter Try.func11, Try.ntmps11
  go_wp2
  go_loopw [7, 8] (fun v7 v8 wr => ∃ (i : Nat) (L : List Int) (a7 : Option Addr) (c7 : Nat), i ≤ l.length ∧ i ≤ q ∧ v8 = .int .i64 (i : Nat) ∧ v7 = .slice a7 L.length c7 ∧ Hid (L.length = i ∧ LtOk n L) ∧ Hid (wr.ownsRow w.heap.size 3 1 (.slice a7 L.length c7) L.length (intsV L)) ∧ Hid (Below w.heap.size w wr)) (fun _ v8 _ => q - (intOf v8).toNat)
  case atStart => exact ⟨0, [], none, 0, Nat.zero_le _, Nat.zero_le _, rfl, rfl, ⟨rfl, fun x hx => by cases hx⟩, HO0.out, Below.refl _ _⟩
  case round =>
    clear HO0
    rename World => W1
    obtain ⟨i, L, a7, c7, hil, hiq, rfl, rfl, hLL, hO, hB⟩ := hrel
    by_cases hi1 : i < l.length
    · by_cases hi2 : i < q
      · have hd3 : decide ((i : Int) < (l.length : Int)) = true := decide_eq_true (by omega)
        have hd4 : decide ((i : Int) < (q : Int)) = true := decide_eq_true (by omega)
        obtain ⟨b, off, ea, hlt, hc⟩ := (HRD.out W1 hB.out).intAt i hi1
        have hxr := HL.out (l.getD i 0) (by rw [List.getD_eq_getElem?_getD, List.getElem?_eq_getElem hi1]; exact List.getElem_mem _)
        have HPK : Hid (∀ W, Calls Try.prog 10 #[.int .i64 (l.getD i 0), .int .i64 (d : Nat)] W fun e w' => ∃ r : Nat, e = .returned (.int .i64 (r : Nat)) ∧ r < d ∧ w' = W) := fun W => pickedB_any _ d W hxr hd1 hd2
        generalize l.getD i 0 = x at hc hxr HPK
        generalize l.length = N at hil hi1 hd3 ea HRD ⊢
        subst ea
        have hiI : (i : Int) < (N : Int) := by omega
        clear hxr
        go_wp2_with (go_at_call 10; refine (HPK.out _).mono ?_; rintro e9 w5 ⟨r, rfl, hr, e4⟩; obtain rfl := e4.symm; refine Hid.out ?_)
        refine Lib.hid ?_
        clear HPK hc
        have hLi := hLL.out.1
        have HLL : Hid (LtOk n L) := hLL.out.2
        have HLI : Hid (L.length = i) := hLi
        clear hLL hLi
        by_cases hrp : r < p
        · have hd5 : decide ((r : Int) < (p : Int)) = true := decide_eq_true (by omega)
          have ew4 : IntKind.i64.wrap ((r : Int) + 1) = (r : Int) + 1 := IntWalk.i64_in _ (by omega)
          have HY : Hid (1 ≤ ((r : Int) + 1).natAbs ∧ ((r : Int) + 1).natAbs < n) := (by have := HNP.out; omega : 1 ≤ ((r : Int) + 1).natAbs ∧ ((r : Int) + 1).natAbs < n)
          have hLm : L.length ≤ 20 := by have := HLI.out; omega
          go_wp2_with (first
            | (at_builtin; refine wpList_append_own _ rfl _ _ 22 rfl w.heap.size 3 i2 (.int .i64 0) 1 8 Try.underlying22 hk hx0 hx1 hx2 rfl (by decide) _ _ _ rfl (hO.out.alloc _) ⟨W1.heap.size, 0, none⟩ 1 1 [.int .i64 ((r : Int) + 1)] rfl rfl (new_cell1 _ _ _) (one_intB _) (by unfold maxLen; omega) (by omega) (by have := hB.out.size; simp; omega) ?_; intro v8 w8 hown8 hg8 _; refine Hid.out ?_))
          refine Lib.hid ?_
          have hpu := push_intB hB.out hO.out hown8 hg8
          obtain ⟨a8, c8, rfl⟩ := own_capS hpu.1
          have HO8 : Hid (w8.ownsRow w.heap.size 3 1 (.slice a8 (L ++ [(r : Int) + 1]).length c8) (L ++ [(r : Int) + 1]).length (intsV (L ++ [(r : Int) + 1]))) := hpu.1
          have HB8 : Hid (Below w.heap.size w w8) := hpu.2
          have HLL8 : Hid ((L ++ [(r : Int) + 1]).length = i + 1 ∧ LtOk n (L ++ [(r : Int) + 1])) := (⟨by rw [List.length_append, HLI.out]; rfl, HLL.out.snoc HY.out⟩ : (L ++ [(r : Int) + 1]).length = i + 1 ∧ LtOk n (L ++ [(r : Int) + 1]))
          clear hpu hown8 hg8 hO hB hLm
          generalize L ++ [(r : Int) + 1] = L8 at *
          go_wp2
          go_roundw
          case rel => exact ⟨i + 1, L8, a8, c8, by omega, by omega, by go_num, rfl, HLL8.out, HO8.out, HB8.out⟩
          case measure => simp only [intOf]; omega
        · have hd5 : decide ((r : Int) < (p : Int)) = false := decide_eq_false (by omega)
          have ew4 : IntKind.i64.wrap (p2 - (r : Int)) = p2 - (r : Int) := IntWalk.i64_in _ (by have := HD.out; omega)
          have HY : Hid (1 ≤ (p2 - (r : Int)).natAbs ∧ (p2 - (r : Int)).natAbs < n) := (by have := HNP.out; have := HP2.out; have := HD.out; omega : 1 ≤ (p2 - (r : Int)).natAbs ∧ (p2 - (r : Int)).natAbs < n)
          have hLm : L.length ≤ 20 := by have := HLI.out; omega
          go_wp2_with (first
            | (at_builtin; refine wpList_append_own _ rfl _ _ 22 rfl w.heap.size 3 i2 (.int .i64 0) 1 8 Try.underlying22 hk hx0 hx1 hx2 rfl (by decide) _ _ _ rfl (hO.out.alloc _) ⟨W1.heap.size, 0, none⟩ 1 1 [.int .i64 (p2 - (r : Int))] rfl rfl (new_cell1 _ _ _) (one_intB _) (by unfold maxLen; omega) (by omega) (by have := hB.out.size; simp; omega) ?_; intro v8 w8 hown8 hg8 _; refine Hid.out ?_))
          refine Lib.hid ?_
          have hpu := push_intB hB.out hO.out hown8 hg8
          obtain ⟨a8, c8, rfl⟩ := own_capS hpu.1
          have HO8 : Hid (w8.ownsRow w.heap.size 3 1 (.slice a8 (L ++ [p2 - (r : Int)]).length c8) (L ++ [p2 - (r : Int)]).length (intsV (L ++ [p2 - (r : Int)]))) := hpu.1
          have HB8 : Hid (Below w.heap.size w w8) := hpu.2
          have HLL8 : Hid ((L ++ [p2 - (r : Int)]).length = i + 1 ∧ LtOk n (L ++ [p2 - (r : Int)])) := (⟨by rw [List.length_append, HLI.out]; rfl, HLL.out.snoc HY.out⟩ : (L ++ [p2 - (r : Int)]).length = i + 1 ∧ LtOk n (L ++ [p2 - (r : Int)]))
          clear hpu hown8 hg8 hO hB hLm
          generalize L ++ [p2 - (r : Int)] = L8 at *
          go_wp2
          go_roundw
          case rel => exact ⟨i + 1, L8, a8, c8, by omega, by omega, by go_num, rfl, HLL8.out, HO8.out, HB8.out⟩
          case measure => simp only [intOf]; omega
      · have hd3 : decide ((i : Int) < (l.length : Int)) = true := decide_eq_true (by omega)
        have hd4 : decide ((i : Int) < (q : Int)) = false := decide_eq_false (by omega)
        go_wp2
        go_ret
        exact ⟨a7, c7, L, rfl, hO.out, ⟨hLL.out.2, by have := hLL.out.1; omega⟩, hB.out⟩
    · have hd3 : decide ((i : Int) < (l.length : Int)) = false := decide_eq_false (by omega)
      go_wp2
      go_ret
      exact ⟨a7, c7, L, rfl, hO.out, ⟨hLL.out.2, by have := hLL.out.1; omega⟩, hB.out⟩
def catF (T : Nat → List Int) : Nat → List Int
  | 0 => []
  | i + 1 => catF T i ++ T i
theorem intsV_joinK (a b : List Int) : intsV a ++ intsV b = intsV (a ++ b) := by unfold intsV; simp
set_option maxHeartbeats 8000000 in
set_option maxRecDepth 100000 in
theorem join_any (g c k : Nat) (V : Nat → Value) (T : Nat → List Int) (w : World) (hk3 : k ≤ 3) (hT : ∀ i, i ≤ k → (catF T i).length ≤ 100 ∧ (T i).length ≤ 100) (h : ∀ i, i < k → w.cell? ⟨g, i, none⟩ = some (V i) ∧ InAt w w.heap.size 1 (V i) (T i).length (intsV (T i))) (hg : g < w.heap.size) :
    Calls Try.prog 13 #[.slice (some ⟨g, 0, none⟩) k c] w fun e w' => ∃ a2 c2, e = .returned (.slice a2 (catF T k).length c2) ∧ w'.ownsRow w.heap.size 3 1 (.slice a2 (catF T k).length c2) (catF T k).length (intsV (catF T k)) ∧ Below w.heap.size w w' := by
  obtain ⟨i2, hk, hx0, hx1, hx2⟩ := info_parts infoInt
  have HV : Hid (∀ W i, Below w.heap.size w W → i < k → W.cell? ⟨g, i, none⟩ = some (V i) ∧ InAt W w.heap.size 1 (V i) (T i).length (intsV (T i))) := fun W i hW hi => ⟨bcell hW hg (h i hi).1, (h i hi).2.on hW⟩
  have HG : Hid (g < w.heap.size) := hg
  have HTL : Hid (∀ i, i ≤ k → (catF T i).length ≤ 100 ∧ (T i).length ≤ 100) := hT
  clear h hg hT
  go_enter Try.func13, Try.ntmps13
  go_wp2
  go_loopw [3, 4] (fun v3 v4 wr => ∃ (i : Nat) (a3 : Option Addr) (n c3 : Nat), i ≤ k ∧ v4 = .int .i64 (i : Nat) ∧ v3 = .slice a3 n c3 ∧ Hid (n = (catF T i).length) ∧ Hid (wr.ownsRow w.heap.size 3 1 (.slice a3 n c3) n (intsV (catF T i))) ∧ Hid (Below w.heap.size w wr)) (fun _ v4 _ => k - (intOf v4).toNat)
  case atStart => exact ⟨0, none, 0, 0, Nat.zero_le _, rfl, rfl, rfl, World.ownsRow_nil _ _ _ _, Below.refl _ _⟩
  case round =>
    rename World => W2
    obtain ⟨i, a3, n, c3, hik, rfl, rfl, hn, hp, hb⟩ := hrel
    by_cases hkl : i < k
    · have hdI : decide ((i : Int) < (k : Int)) = true := decide_eq_true (by omega)
      have hiI : (i : Int) < (k : Int) := by omega
      obtain ⟨hc, hin⟩ := HV.out W2 i hb.out hkl
      have HIN : Hid (InAt W2 w.heap.size 1 (V i) (T i).length (intsV (T i))) := hin
      have hlg : g < W2.heap.size := Nat.lt_of_lt_of_le HG.out hb.out.size
      have htl := (HTL.out i hik).2
      have hcl := (HTL.out i hik).1
      have HON := intsV_oneI (T i)
      have HLN : Hid ((intsV (T i)).length = (T i).length) := intsV_len (T i)
      have HC1 : Hid (intsV (catF T i) ++ intsV (T i) = intsV (catF T (i + 1))) := intsV_joinK _ _
      have HC2 : Hid (n + (T i).length = (catF T (i + 1)).length) := (by rw [hn.out]; show _ = (catF T i ++ T i).length; rw [List.length_append] : n + (T i).length = (catF T (i + 1)).length)
      have hn100 : n ≤ 100 := by rw [hn.out]; exact hcl
      generalize V i = v at hc HIN
      generalize (T i).length = m at *
      clear hin hn hcl
      go_wp2_with (first
        | (at_builtin; refine wpList_append_in rfl _ _ 22 rfl w.heap.size 3 i2 (.int .i64 0) 1 8 Try.underlying22 hk hx0 hx1 hx2 rfl (by decide) _ n (intsV (catF T i)) rfl hp.out _ w.heap.size m (intsV (T i)) rfl HIN.out (by rw [HLN.out, Nat.mul_one]) HON (by unfold maxLen; omega) (by omega) hb.out.size ?_; intro v8 w8 hown8 hg8; refine Hid.out ?_))
      refine Lib.hid ?_
      have hbl := hb.out.grown hg8 hb.out.size (fun q hq => (hp.out.lt q hq).1)
      rw [HC1.out] at hown8
      obtain ⟨a8, c8, rfl⟩ := own_capS hown8
      have HF1 : Hid (w8.ownsRow w.heap.size 3 1 (.slice a8 (n + m) c8) (n + m) (intsV (catF T (i + 1)))) := hown8
      have HF2 : Hid (Below w.heap.size w w8) := hbl
      clear hown8 hg8 hbl
      go_wp2
      go_roundw
      case rel => exact ⟨i + 1, a8, n + m, c8, by omega, by go_num, rfl, HC2.out, HF1.out, HF2.out⟩
      case measure => simp only [intOf]; omega
    · obtain rfl : k = i := by omega
      have hdI : decide ((k : Int) < (k : Int)) = false := decide_eq_false (by omega)
      have HFN : Hid (W2.ownsRow w.heap.size 3 1 (.slice a3 (catF T k).length c3) (catF T k).length (intsV (catF T k))) := (by have := hp.out; rw [hn.out] at this; exact this)
      go_wp2
      go_ret
      exact ⟨a3, c3, by rw [← hn.out]; rfl, HFN.out, hb.out⟩
end Go.Proofs.Ytdlmhcickcgnfaa

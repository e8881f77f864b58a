/- Several texts of the proof, one behind the other. -/
import Derived.Test.YthlmkoiilgjflaaInP
import Derived.Test.YthlmkoiilgjflaaW2P
import Derived.Test.YthlmkoiilgjflaaW3P
import Derived.Test.YthlmkoiilgjflaaNB1P
import Derived.Lib.Hide
/- The walk of the law's ints: a copy of a list of numbers. -/
namespace Go.Proofs.Ythlmkoiilgjflaa
open Go.RowKit

theorem intsV_oneI (l : List Int) : ∀ u ∈ intsV l, u.oneCell' = true := by
  intro u hu
  simp only [intsV, List.mem_map] at hu
  obtain ⟨x, -, rfl⟩ := hu
  rfl
theorem InAt.rdI {w : World} {B size n : Nat} {v : Value} {xs : List Value} (h : InAt w B size v n xs) : RdAt w B size v n xs := by
  rcases h with ⟨rfl, rfl⟩ | ⟨ad, cap, rfl, rfl⟩ | ⟨b, off, cap, rfl, hlt, hc⟩
  · exact ⟨none, 0, rfl, fun h => absurd h (Nat.lt_irrefl 0)⟩
  · exact ⟨some ad, cap, rfl, fun h => absurd h (Nat.lt_irrefl 0)⟩
  · exact ⟨_, cap, rfl, fun _ => ⟨b, off, rfl, hlt, hc⟩⟩

set_option maxHeartbeats 4000000 in
set_option maxRecDepth 100000 in
theorem intsL_copy (a : Option Addr) (c : Nat) (l : List Int) (w : World) (hl : l.length * 8 ≤ 140737488355328) (h : InAt w w.heap.size 1 (.slice a l.length c) l.length (intsV l)) :
    Calls Try.prog 5 #[.slice a l.length c] w fun e w' => ∃ a' c', e = .returned (.slice a' l.length c') ∧ RdAt w' w'.heap.size 1 (.slice a' l.length c') l.length (intsV l) ∧ Below w.heap.size w w' := by
  obtain ⟨i2, hk, hx0, hx1, hx2⟩ := info_parts infoInt
  have HI : Hid (InAt w w.heap.size 1 (.slice a l.length c) l.length (intsV l)) := h
  clear h
  go_enter Try.func5, Try.ntmps5
  go_wp2_with (first
    | (at_builtin; refine wpList_append_copy rfl _ _ 22 rfl w.heap.size 3 i2 (.int .i64 0) 1 8 Try.underlying22 hk hx0 hx1 hx2 rfl (by decide) rfl _ w.heap.size l.length (intsV l) rfl HI.out (by rw [intsV_len, Nat.mul_one]) (intsV_oneI l) (by unfold maxLen; omega) hl (Nat.le_refl _) ?_; intro v8 w8 hown8 hg8; refine Hid.out ?_))
  refine Lib.hid ?_
  obtain ⟨a8, c8, rfl⟩ := own_capS hown8
  have HFN : Hid (RdAt w8 w8.heap.size 1 (.slice a8 l.length c8) l.length (intsV l) ∧ Below w.heap.size w w8) := ⟨own_rd hown8, (Below.refl _ _).grown hg8 (Nat.le_refl _) (fun k hk => by cases hk)⟩
  clear hown8 hg8
  go_wp2
  go_ret
  exact ⟨_, _, rfl, HFN.out⟩
end Go.Proofs.Ythlmkoiilgjflaa
/- Plain mathematics: labels merged place by place. -/
namespace Go.Proofs.Ythlmkoiilgjflaa
open Go.RowKit

theorem cut_one {T G : Prop} (h : Hid T → G) (hT : T) : G := h hT
/-- Merged in the first k places. -/
def merTo (W : List Nat) (x y k : Nat) : List Nat := (List.range W.length).map fun v => if v < k then (mer W x y).getD v 0 else W.getD v 0
theorem merTo_len (W : List Nat) (x y k : Nat) : (merTo W x y k).length = W.length := by simp [merTo]
theorem merTo_at (W : List Nat) (x y k v : Nat) (hv : v < W.length) : (merTo W x y k).getD v 0 = if v < k then (mer W x y).getD v 0 else W.getD v 0 := by simp [merTo, List.getD_eq_getElem?_getD, hv]
theorem getD_ext {l m : List Nat} (h : l.length = m.length) (g : ∀ v, v < l.length → l.getD v 0 = m.getD v 0) : l = m := by
  refine List.ext_getElem h fun i h1 h2 => ?_
  have := g i h1
  simpa [List.getD_eq_getElem?_getD, h1, h2] using this
theorem merTo_zero (W : List Nat) (x y : Nat) : merTo W x y 0 = W := getD_ext (merTo_len _ _ _ _) fun v hv => by
  rw [merTo_len] at hv; rw [merTo_at _ _ _ _ _ hv, if_neg (by omega)]
theorem merTo_all (W : List Nat) (x y : Nat) : merTo W x y W.length = mer W x y := getD_ext (by rw [merTo_len, mer_len]) fun v hv => by
  rw [merTo_len] at hv; rw [merTo_at _ _ _ _ _ hv, if_pos hv]
theorem merTo_next (W : List Nat) (x y k z : Nat) (hk : k < W.length) (hz : (mer W x y).getD k 0 = z) : (merTo W x y k).set k z = merTo W x y (k + 1) := getD_ext (by simp [merTo_len]) fun v hv => by
  have hv' : v < W.length := by simpa [merTo_len] using hv
  rw [getD_set _ _ _ _ (by rw [merTo_len]; exact hk), merTo_at _ _ _ _ _ hv', merTo_at _ _ _ _ _ hv']
  by_cases e : v = k
  · subst e; rw [if_pos rfl, if_pos (by omega), hz]
  · rw [if_neg e]
    by_cases h2 : v < k
    · rw [if_pos h2, if_pos (by omega)]
    · rw [if_neg h2, if_neg (by omega)]
theorem merTo_same (W : List Nat) (x y k : Nat) (hk : k < W.length) (hz : (mer W x y).getD k 0 = W.getD k 0) : merTo W x y k = merTo W x y (k + 1) := getD_ext (by simp [merTo_len]) fun v hv => by
  have hv' : v < W.length := by simpa [merTo_len] using hv
  rw [merTo_at _ _ _ _ _ hv', merTo_at _ _ _ _ _ hv']
  by_cases e : v = k
  · subst e; rw [if_neg (by omega), if_pos (by omega), hz]
  · by_cases h2 : v < k
    · rw [if_pos h2, if_pos (by omega)]
    · rw [if_neg h2, if_neg (by omega)]
theorem mers_len (E : List (Nat × Nat)) : ∀ W : List Nat, (mers W E).length = W.length := by
  induction E with
  | nil => intro W; rfl
  | cons e E ih => intro W; rw [mers, ih, mer_len]
end Go.Proofs.Ythlmkoiilgjflaa

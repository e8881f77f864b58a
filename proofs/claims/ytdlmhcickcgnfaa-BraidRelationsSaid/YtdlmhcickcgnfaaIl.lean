/- The walk of the law's ints: a copy of a list of numbers. -/
import Derived.Test.YtdlmhcickcgnfaaIn
import Derived.Test.YtdlmhcickcgnfaaCp
import Derived.Test.YtdlmhcickcgnfaaW3
namespace Go.Proofs.Ytdlmhcickcgnfaa
open Go.RowKit

theorem intsV_oneI (l : List Int) : ∀ u ∈ intsV l, u.oneCell' = true := by
  intro u hu
  simp only [intsV, List.mem_map] at hu
  obtain ⟨x, -, rfl⟩ := hu
  rfl
theorem InAt.rdI {w : World} {B size n : Nat} {v : Value} {xs : List Value} (h : InAt w B size v n xs) : RdAt w B size v n xs := by
  rcases h with ⟨rfl, rfl⟩ | ⟨ad, cap, rfl, rfl⟩ | ⟨b, off, cap, rfl, hlt, hc⟩
  · exact ⟨none, 0, rfl, fun h => absurd h (Nat.lt_irrefl 0)⟩
  · exact ⟨some ad, cap, rfl, fun h => absurd h (Nat.lt_irrefl 0)⟩
  · exact ⟨_, cap, rfl, fun _ => ⟨b, off, rfl, hlt, hc⟩⟩

set_option maxHeartbeats 4000000 in
set_option maxRecDepth 100000 in
theorem intsL_copy (a : Option Addr) (c : Nat) (l : List Int) (w : World) (hl : l.length * 8 ≤ 140737488355328) (h : InAt w w.heap.size 1 (.slice a l.length c) l.length (intsV l)) :
    Calls Try.prog 7 #[.slice a l.length c] w fun e w' => ∃ a' c', e = .returned (.slice a' l.length c') ∧ RdAt w' w'.heap.size 1 (.slice a' l.length c') l.length (intsV l) ∧ Below w.heap.size w w' := by
  obtain ⟨i2, hk, hx0, hx1, hx2⟩ := info_parts infoInt
  have HI : Hid (InAt w w.heap.size 1 (.slice a l.length c) l.length (intsV l)) := h
  clear h
  go_enter Try.func7, Try.ntmps7
  go_wp2_with (first
    | (at_builtin; refine wpList_append_copy rfl _ _ 22 rfl w.heap.size 3 i2 (.int .i64 0) 1 8 Try.underlying22 hk hx0 hx1 hx2 rfl (by decide) rfl _ w.heap.size l.length (intsV l) rfl HI.out (by rw [intsV_len, Nat.mul_one]) (intsV_oneI l) (by unfold maxLen; omega) hl (Nat.le_refl _) ?_; intro v8 w8 hown8 hg8; refine Hid.out ?_))
  refine Lib.hid ?_
  obtain ⟨a8, c8, rfl⟩ := own_capS hown8
  have HFN : Hid (RdAt w8 w8.heap.size 1 (.slice a8 l.length c8) l.length (intsV l) ∧ Below w.heap.size w w8) := ⟨own_rd hown8, (Below.refl _ _).grown hg8 (Nat.le_refl _) (fun k hk => by cases hk)⟩
  clear hown8 hg8
  go_wp2
  go_ret
  exact ⟨_, _, rfl, HFN.out⟩
end Go.Proofs.Ytdlmhcickcgnfaa

/- The walk of moves.takings: the moves that are tried, in their order. -/
import Derived.Test.YtagaajlbkfkaiaaMPaP
import Derived.Test.YtagaajlbkfkaiaaMQ4
namespace Go.Proofs.Ytagaajlbkfkaiaa
open Go.RowKit

theorem moCells_append (l m : List Mo) : moCells (l ++ m) = moCells l ++ moCells m := by simp [moCells]
theorem new_cell8 (W : World) (a b c d e f g h : Value) (t : TypeId) : ∀ j u, [a, b, c, d, e, f, g, h][j]? = some u → (W.alloc (.cells #[a, b, c, d, e, f, g, h] t)).cell? ((⟨W.heap.size, 0, none⟩ : Addr).add j) = some u := by
  intro j u hj
  rw [Addr.add_lit, Nat.zero_add]
  have hh : (W.alloc (.cells #[a, b, c, d, e, f, g, h] t)).heap[W.heap.size]? = some (.cells #[a, b, c, d, e, f, g, h] t (0, 0)) := Array.getElem?_push_size
  match j, hj with
  | 0, hj => simp at hj; subst hj; exact block_cell hh rfl
  | 1, hj => simp at hj; subst hj; exact block_cell hh rfl
  | 2, hj => simp at hj; subst hj; exact block_cell hh rfl
  | 3, hj => simp at hj; subst hj; exact block_cell hh rfl
  | 4, hj => simp at hj; subst hj; exact block_cell hh rfl
  | 5, hj => simp at hj; subst hj; exact block_cell hh rfl
  | 6, hj => simp at hj; subst hj; exact block_cell hh rfl
  | 7, hj => simp at hj; subst hj; exact block_cell hh rfl
/-- A row of moves that a call owns: what is taken out, one behind the other. -/
structure TkO (W : World) (B : Nat) (a : Option Addr) (k c : Nat) (L : List (List Nat)) : Prop where
  len : L.length = k
  own : W.ownsRow B 28 8 (.slice a k c) k (moCells (L.map moG))
theorem TkO.nil (W : World) (B : Nat) : TkO W B none 0 0 [] := ⟨rfl, World.ownsRow_nil _ _ _ _⟩
theorem TkO.any {W W' : World} {B : Nat} {a : Option Addr} {k c : Nat} {L : List (List Nat)} (h : TkO W B a k c L) (hg : W.grownBy W' none) : TkO W' B a k c L := ⟨h.len, own_any h.own hg⟩
theorem TkO.app {W W' : World} {B : Nat} {a : Option Addr} {k c : Nat} {L : List (List Nat)} {G : List Nat} {v : Value} (h : TkO W B a k c L) (ho : W'.ownsRow B 28 8 v (k + 1) (moCells (L.map moG) ++ (moG G).cells)) : ∃ a' c', v = .slice a' (k + 1) c' ∧ TkO W' B a' (k + 1) c' (L ++ [G]) := by
  obtain ⟨a', c', rfl⟩ := own_capS ho
  refine ⟨a', c', rfl, by rw [List.length_append, h.len]; rfl, ?_⟩
  rw [List.map_append, moCells_append]
  have e : moCells (List.map moG [G]) = (moG G).cells := by simp [moCells]
  rw [e]
  exact ho

set_option maxHeartbeats 8000000 in
set_option maxRecDepth 100000 in
theorem takings_any (n : Nat) (w : World) (hn : n ≤ 16) :
    Calls Try.prog 43 #[.int .i64 (n : Nat)] w fun e w' => ∃ a k c, e = .returned (.slice a k c) ∧ k ≤ 400 ∧ TkO w' w.heap.size a k c (tkA n) ∧ Below w.heap.size w w' := by
  obtain ⟨i0, hi, hz0, hz1, hz2⟩ := info_parts infoMove
  have HB0 : Hid (Below w.heap.size w w) := Below.refl _ _
  go_enter Try.func43, Try.ntmps43
  go_wp2
  go_loopw [3, 8] (fun v3 v8 wr => ∃ (i : Nat) (a3 : Option Addr) (c3 : Nat), i ≤ n ∧ v8 = .int .i64 (i : Nat) ∧ v3 = .slice a3 i c3 ∧ Hid (TkO wr w.heap.size a3 i c3 (tkU i)) ∧ Hid (Below w.heap.size w wr)) (fun _ v8 _ => n - (intOf v8).toNat)
  case atStart => exact ⟨0, none, 0, Nat.zero_le _, rfl, rfl, TkO.nil _ _, Below.refl _ _⟩
  case round =>
    rename World => W1
    obtain ⟨i, a3, c3, hin, rfl, rfl, hp, hb⟩ := hrel
    have hsW := hb.out.size
    by_cases hil : i < n
    · go_wp2_with (at_builtin; refine wpList_append_own _ rfl _ _ 35 rfl w.heap.size 28 i0 (.agg #[.int .i64 0, .int .i64 0, .int .i64 0, .int .i64 0, .bool false, .int .i64 0, .bool false, .bool false]) 8 64 Try.underlying35 hi hz0 hz1 hz2 rfl (by decide) _ i (moCells ((tkU i).map moG)) rfl (hp.out.own.alloc _) ⟨W1.heap.size, 0, none⟩ 1 1 (moG [i]).cells rfl rfl (new_cell8 _ _ _ _ _ _ _ _ _ _) (moCells_one [moG [i]]) (by unfold maxLen; omega) (by omega) (by simp; omega) ?_; intro v8 w8 hown8 hg8 _; refine Hid.out ?_)
      refine Lib.hid ?_
      have HF2 : Hid (Below w.heap.size w w8) := (hb.out.alloc hsW _).grown hg8 (by simp; omega) (fun q hq => (hp.out.own.lt q hq).1)
      obtain ⟨a8, c8, rfl, h8⟩ := hp.out.app hown8
      have HF1 : Hid (TkO w8 w.heap.size a8 (i + 1) c8 (tkU (i + 1))) := (by rw [tkU_next]; exact h8 : TkO w8 w.heap.size a8 (i + 1) c8 (tkU (i + 1)))
      clear hown8 hg8 h8 hp hb
      go_wp2
      go_roundw
      case rel => exact ⟨i + 1, a8, c8, by omega, by go_num, rfl, HF1.out, HF2.out⟩
      case measure => simp only [intOf]; omega
    · obtain rfl : i = n := by omega
      go_wp2
      go_loopw [3, 18] (fun v3 v18 wr => ∃ (x k : Nat) (a3 : Option Addr) (c3 : Nat), x ≤ i ∧ k ≤ 16 + 16 * x ∧ v18 = .int .i64 (x : Nat) ∧ v3 = .slice a3 k c3 ∧ Hid (TkO wr w.heap.size a3 k c3 (tkU i ++ tkP i x)) ∧ Hid (Below w.heap.size w wr)) (fun _ v18 _ => i - (intOf v18).toNat)
      case atStart => exact ⟨0, i, a3, c3, Nat.zero_le _, by omega, rfl, rfl, (by rw [show tkP i 0 = [] from rfl, List.append_nil]; exact hp.out : TkO _ _ _ _ _ (tkU i ++ tkP i 0)), hb.out⟩
      case round =>
        rename World => W2
        obtain ⟨x, k, a4, c4, hxi, hk, rfl, rfl, hp2, hb2⟩ := hrel
        by_cases hxl : x < i
        · go_wp2
          go_loopw [3, 6] (fun v3 v6 wr => ∃ (y k : Nat) (a3 : Option Addr) (c3 : Nat), x + 1 ≤ y ∧ y ≤ i ∧ k ≤ 16 + 16 * x + (y - (x + 1)) ∧ v6 = .int .i64 (y : Nat) ∧ v3 = .slice a3 k c3 ∧ Hid (TkO wr w.heap.size a3 k c3 (tkU i ++ (tkP i x ++ tkR x (y - (x + 1))))) ∧ Hid (Below w.heap.size w wr)) (fun _ v6 _ => i - (intOf v6).toNat)
          case atStart => exact ⟨x + 1, k, a4, c4, Nat.le_refl _, by omega, by omega, by go_num, rfl, (by rw [Nat.sub_self, show tkR x 0 = [] from rfl, List.append_nil]; exact hp2.out), hb2.out⟩
          case round =>
            rename World => W3
            obtain ⟨y, k5, a5, c5, hy1, hy2, hk5, rfl, rfl, hp3, hb3⟩ := hrel
            have hs3 := hb3.out.size
            by_cases hyl : y < i
            · go_wp2_with (at_builtin; refine wpList_append_own _ rfl _ _ 35 rfl w.heap.size 28 i0 (.agg #[.int .i64 0, .int .i64 0, .int .i64 0, .int .i64 0, .bool false, .int .i64 0, .bool false, .bool false]) 8 64 Try.underlying35 hi hz0 hz1 hz2 rfl (by decide) _ k5 (moCells ((tkU i ++ (tkP i x ++ tkR x (y - (x + 1)))).map moG)) rfl (hp3.out.own.alloc _) ⟨W3.heap.size, 0, none⟩ 1 1 (moG [x, y]).cells rfl rfl (new_cell8 _ _ _ _ _ _ _ _ _ _) (moCells_one [moG [x, y]]) (by unfold maxLen; omega) (by omega) (by simp; omega) ?_; intro v8 w8 hown8 hg8 _; refine Hid.out ?_)
              refine Lib.hid ?_
              have HF2 : Hid (Below w.heap.size w w8) := (hb3.out.alloc hs3 _).grown hg8 (by simp; omega) (fun q hq => (hp3.out.own.lt q hq).1)
              obtain ⟨a8, c8, rfl, h8⟩ := hp3.out.app hown8
              have HF1 : Hid (TkO w8 w.heap.size a8 (k5 + 1) c8 (tkU i ++ (tkP i x ++ tkR x (y + 1 - (x + 1))))) := (by
                rw [show y + 1 - (x + 1) = (y - (x + 1)) + 1 by omega, tkR_next, show x + 1 + (y - (x + 1)) = y by omega, ← List.append_assoc (tkP i x), ← List.append_assoc (tkU i)]
                exact h8)
              clear hown8 hg8 h8 hp3 hb3
              go_wp2
              go_roundw
              case rel => exact ⟨y + 1, k5 + 1, a8, c8, by omega, by omega, by omega, by go_num, rfl, HF1.out, HF2.out⟩
              case measure => simp only [intOf]; omega
            · obtain rfl : y = i := by omega
              go_wp2
              go_roundw
              case rel => exact ⟨x + 1, k5, a5, c5, by omega, by omega, by go_num, rfl, (by rw [tkP_next]; exact hp3.out), hb3.out⟩
              case measure => simp only [intOf]; omega
        · obtain rfl : x = i := by omega
          go_wp2
          go_ret
          exact ⟨a4, k, c4, rfl, by omega, hp2.out, hb2.out⟩
end Go.Proofs.Ytagaajlbkfkaiaa

/- Several texts of the proof, one behind the other. -/
import Derived.Test.YtagaajlbkfkaiaaMPaP
import Derived.Test.YtagaajlbkfkaiaaMQ4
/- The walk of moves.takings: the moves that are tried, in their order. -/
namespace Go.Proofs.Ytagaajlbkfkaiaa
open Go.RowKit

theorem moCells_append (l m : List Mo) : moCells (l ++ m) = moCells l ++ moCells m := by simp [moCells]
theorem new_cell8 (W : World) (a b c d e f g h : Value) (t : TypeId) : ∀ j u, [a, b, c, d, e, f, g, h][j]? = some u → (W.alloc (.cells #[a, b, c, d, e, f, g, h] t)).cell? ((⟨W.heap.size, 0, none⟩ : Addr).add j) = some u := by
  intro j u hj
  rw [Addr.add_lit, Nat.zero_add]
  have hh : (W.alloc (.cells #[a, b, c, d, e, f, g, h] t)).heap[W.heap.size]? = some (.cells #[a, b, c, d, e, f, g, h] t (0, 0)) := Array.getElem?_push_size
  match j, hj with
  | 0, hj => simp at hj; subst hj; exact block_cell hh rfl
  | 1, hj => simp at hj; subst hj; exact block_cell hh rfl
  | 2, hj => simp at hj; subst hj; exact block_cell hh rfl
  | 3, hj => simp at hj; subst hj; exact block_cell hh rfl
  | 4, hj => simp at hj; subst hj; exact block_cell hh rfl
  | 5, hj => simp at hj; subst hj; exact block_cell hh rfl
  | 6, hj => simp at hj; subst hj; exact block_cell hh rfl
  | 7, hj => simp at hj; subst hj; exact block_cell hh rfl
/-- A row of moves that a call owns: what is taken out, one behind the other. -/
structure TkO (W : World) (B : Nat) (a : Option Addr) (k c : Nat) (L : List (List Nat)) : Prop where
  len : L.length = k
  own : W.ownsRow B 28 8 (.slice a k c) k (moCells (L.map moG))
theorem TkO.nil (W : World) (B : Nat) : TkO W B none 0 0 [] := ⟨rfl, World.ownsRow_nil _ _ _ _⟩
theorem TkO.any {W W' : World} {B : Nat} {a : Option Addr} {k c : Nat} {L : List (List Nat)} (h : TkO W B a k c L) (hg : W.grownBy W' none) : TkO W' B a k c L := ⟨h.len, own_any h.own hg⟩
theorem TkO.app {W W' : World} {B : Nat} {a : Option Addr} {k c : Nat} {L : List (List Nat)} {G : List Nat} {v : Value} (h : TkO W B a k c L) (ho : W'.ownsRow B 28 8 v (k + 1) (moCells (L.map moG) ++ (moG G).cells)) : ∃ a' c', v = .slice a' (k + 1) c' ∧ TkO W' B a' (k + 1) c' (L ++ [G]) := by
  obtain ⟨a', c', rfl⟩ := own_capS ho
  refine ⟨a', c', rfl, by rw [List.length_append, h.len]; rfl, ?_⟩
  rw [List.map_append, moCells_append]
  have e : moCells (List.map moG [G]) = (moG G).cells := by simp [moCells]
  rw [e]
  exact ho

set_option maxHeartbeats 8000000 in
set_option maxRecDepth 100000 in
theorem takings_any (n : Nat) (w : World) (hn : n ≤ 16) :
    Calls Try.prog 43 #[.int .i64 (n : Nat)] w fun e w' => ∃ a k c, e = .returned (.slice a k c) ∧ k ≤ 400 ∧ TkO w' w.heap.size a k c (tkA n) ∧ Below w.heap.size w w' := by
  obtain ⟨i0, hi, hz0, hz1, hz2⟩ := info_parts infoMove
  have HB0 : Hid (Below w.heap.size w w) := Below.refl _ _
  go_enter Try.func43, Try.ntmps43
  go_wp2
  go_loopw [3, 8] (fun v3 v8 wr => ∃ (i : Nat) (a3 : Option Addr) (c3 : Nat), i ≤ n ∧ v8 = .int .i64 (i : Nat) ∧ v3 = .slice a3 i c3 ∧ Hid (TkO wr w.heap.size a3 i c3 (tkU i)) ∧ Hid (Below w.heap.size w wr)) (fun _ v8 _ => n - (intOf v8).toNat)
  case atStart => exact ⟨0, none, 0, Nat.zero_le _, rfl, rfl, TkO.nil _ _, Below.refl _ _⟩
  case round =>
    rename World => W1
    obtain ⟨i, a3, c3, hin, rfl, rfl, hp, hb⟩ := hrel
    have hsW := hb.out.size
    by_cases hil : i < n
    · go_wp2_with (at_builtin; refine wpList_append_own _ rfl _ _ 35 rfl w.heap.size 28 i0 (.agg #[.int .i64 0, .int .i64 0, .int .i64 0, .int .i64 0, .bool false, .int .i64 0, .bool false, .bool false]) 8 64 Try.underlying35 hi hz0 hz1 hz2 rfl (by decide) _ i (moCells ((tkU i).map moG)) rfl (hp.out.own.alloc _) ⟨W1.heap.size, 0, none⟩ 1 1 (moG [i]).cells rfl rfl (new_cell8 _ _ _ _ _ _ _ _ _ _) (moCells_one [moG [i]]) (by unfold maxLen; omega) (by omega) (by simp; omega) ?_; intro v8 w8 hown8 hg8 _; refine Hid.out ?_)
      refine Lib.hid ?_
      have HF2 : Hid (Below w.heap.size w w8) := (hb.out.alloc hsW _).grown hg8 (by simp; omega) (fun q hq => (hp.out.own.lt q hq).1)
      obtain ⟨a8, c8, rfl, h8⟩ := hp.out.app hown8
      have HF1 : Hid (TkO w8 w.heap.size a8 (i + 1) c8 (tkU (i + 1))) := (by rw [tkU_next]; exact h8 : TkO w8 w.heap.size a8 (i + 1) c8 (tkU (i + 1)))
      clear hown8 hg8 h8 hp hb
      go_wp2
      go_roundw
      case rel => exact ⟨i + 1, a8, c8, by omega, by go_num, rfl, HF1.out, HF2.out⟩
      case measure => simp only [intOf]; omega
    · obtain rfl : i = n := by omega
      go_wp2
      go_loopw [3, 18] (fun v3 v18 wr => ∃ (x k : Nat) (a3 : Option Addr) (c3 : Nat), x ≤ i ∧ k ≤ 16 + 16 * x ∧ v18 = .int .i64 (x : Nat) ∧ v3 = .slice a3 k c3 ∧ Hid (TkO wr w.heap.size a3 k c3 (tkU i ++ tkP i x)) ∧ Hid (Below w.heap.size w wr)) (fun _ v18 _ => i - (intOf v18).toNat)
      case atStart => exact ⟨0, i, a3, c3, Nat.zero_le _, by omega, rfl, rfl, (by rw [show tkP i 0 = [] from rfl, List.append_nil]; exact hp.out : TkO _ _ _ _ _ (tkU i ++ tkP i 0)), hb.out⟩
      case round =>
        rename World => W2
        obtain ⟨x, k, a4, c4, hxi, hk, rfl, rfl, hp2, hb2⟩ := hrel
        by_cases hxl : x < i
        · go_wp2
          go_loopw [3, 6] (fun v3 v6 wr => ∃ (y k : Nat) (a3 : Option Addr) (c3 : Nat), x + 1 ≤ y ∧ y ≤ i ∧ k ≤ 16 + 16 * x + (y - (x + 1)) ∧ v6 = .int .i64 (y : Nat) ∧ v3 = .slice a3 k c3 ∧ Hid (TkO wr w.heap.size a3 k c3 (tkU i ++ (tkP i x ++ tkR x (y - (x + 1))))) ∧ Hid (Below w.heap.size w wr)) (fun _ v6 _ => i - (intOf v6).toNat)
          case atStart => exact ⟨x + 1, k, a4, c4, Nat.le_refl _, by omega, by omega, by go_num, rfl, (by rw [Nat.sub_self, show tkR x 0 = [] from rfl, List.append_nil]; exact hp2.out), hb2.out⟩
          case round =>
            rename World => W3
            obtain ⟨y, k5, a5, c5, hy1, hy2, hk5, rfl, rfl, hp3, hb3⟩ := hrel
            have hs3 := hb3.out.size
            by_cases hyl : y < i
            · go_wp2_with (at_builtin; refine wpList_append_own _ rfl _ _ 35 rfl w.heap.size 28 i0 (.agg #[.int .i64 0, .int .i64 0, .int .i64 0, .int .i64 0, .bool false, .int .i64 0, .bool false, .bool false]) 8 64 Try.underlying35 hi hz0 hz1 hz2 rfl (by decide) _ k5 (moCells ((tkU i ++ (tkP i x ++ tkR x (y - (x + 1)))).map moG)) rfl (hp3.out.own.alloc _) ⟨W3.heap.size, 0, none⟩ 1 1 (moG [x, y]).cells rfl rfl (new_cell8 _ _ _ _ _ _ _ _ _ _) (moCells_one [moG [x, y]]) (by unfold maxLen; omega) (by omega) (by simp; omega) ?_; intro v8 w8 hown8 hg8 _; refine Hid.out ?_)
              refine Lib.hid ?_
              have HF2 : Hid (Below w.heap.size w w8) := (hb3.out.alloc hs3 _).grown hg8 (by simp; omega) (fun q hq => (hp3.out.own.lt q hq).1)
              obtain ⟨a8, c8, rfl, h8⟩ := hp3.out.app hown8
              have HF1 : Hid (TkO w8 w.heap.size a8 (k5 + 1) c8 (tkU i ++ (tkP i x ++ tkR x (y + 1 - (x + 1))))) := (by
                rw [show y + 1 - (x + 1) = (y - (x + 1)) + 1 by omega, tkR_next, show x + 1 + (y - (x + 1)) = y by omega, ← List.append_assoc (tkP i x), ← List.append_assoc (tkU i)]
                exact h8)
              clear hown8 hg8 h8 hp3 hb3
              go_wp2
              go_roundw
              case rel => exact ⟨y + 1, k5 + 1, a8, c8, by omega, by omega, by omega, by go_num, rfl, HF1.out, HF2.out⟩
              case measure => simp only [intOf]; omega
            · obtain rfl : y = i := by omega
              go_wp2
              go_roundw
              case rel => exact ⟨x + 1, k5, a5, c5, by omega, by omega, by go_num, rfl, (by rw [tkP_next]; exact hp3.out), hb3.out⟩
              case measure => simp only [intOf]; omega
        · obtain rfl : x = i := by omega
          go_wp2
          go_ret
          exact ⟨a4, k, c4, rfl, by omega, hp2.out, hb2.out⟩
end Go.Proofs.Ytagaajlbkfkaiaa
/- The walk of ref.takes. Made by genta5.py. -/
namespace Go.Proofs.Ytagaajlbkfkaiaa
open Go.RowKit

theorem st8 {W : World} {g : Nat} {x0 x1 x2 x3 x4 x5 x6 x7 a0 a1 a2 a3 a4 a5 a6 a7 : Value} {t : TypeId} (h : W.heap[g]? = some (.cells #[x0, x1, x2, x3, x4, x5, x6, x7] t (0, 0))) : ((((((((W.setCell ⟨g, 0, none⟩ (a0)).setCell ⟨g, 1, none⟩ (a1)).setCell ⟨g, 2, none⟩ (a2)).setCell ⟨g, 3, none⟩ (a3)).setCell ⟨g, 4, none⟩ (a4)).setCell ⟨g, 5, none⟩ (a5)).setCell ⟨g, 6, none⟩ (a6)).setCell ⟨g, 7, none⟩ (a7)).heap[g]? = some (.cells #[a0, a1, a2, a3, a4, a5, a6, a7] t (0, 0)) ∧ W.grownBy ((((((((W.setCell ⟨g, 0, none⟩ (a0)).setCell ⟨g, 1, none⟩ (a1)).setCell ⟨g, 2, none⟩ (a2)).setCell ⟨g, 3, none⟩ (a3)).setCell ⟨g, 4, none⟩ (a4)).setCell ⟨g, 5, none⟩ (a5)).setCell ⟨g, 6, none⟩ (a6)).setCell ⟨g, 7, none⟩ (a7)) (some g) := by
  have h1 : (W.setCell ⟨g, 0, none⟩ a0).heap[g]? = some (.cells #[a0, x1, x2, x3, x4, x5, x6, x7] t (0, 0)) := set_block h
  have h2 : ((W.setCell ⟨g, 0, none⟩ a0).setCell ⟨g, 1, none⟩ a1).heap[g]? = some (.cells #[a0, a1, x2, x3, x4, x5, x6, x7] t (0, 0)) := set_block h1
  have h3 : (((W.setCell ⟨g, 0, none⟩ a0).setCell ⟨g, 1, none⟩ a1).setCell ⟨g, 2, none⟩ a2).heap[g]? = some (.cells #[a0, a1, a2, x3, x4, x5, x6, x7] t (0, 0)) := set_block h2
  have h4 : ((((W.setCell ⟨g, 0, none⟩ a0).setCell ⟨g, 1, none⟩ a1).setCell ⟨g, 2, none⟩ a2).setCell ⟨g, 3, none⟩ a3).heap[g]? = some (.cells #[a0, a1, a2, a3, x4, x5, x6, x7] t (0, 0)) := set_block h3
  have h5 : (((((W.setCell ⟨g, 0, none⟩ a0).setCell ⟨g, 1, none⟩ a1).setCell ⟨g, 2, none⟩ a2).setCell ⟨g, 3, none⟩ a3).setCell ⟨g, 4, none⟩ a4).heap[g]? = some (.cells #[a0, a1, a2, a3, a4, x5, x6, x7] t (0, 0)) := set_block h4
  have h6 : ((((((W.setCell ⟨g, 0, none⟩ a0).setCell ⟨g, 1, none⟩ a1).setCell ⟨g, 2, none⟩ a2).setCell ⟨g, 3, none⟩ a3).setCell ⟨g, 4, none⟩ a4).setCell ⟨g, 5, none⟩ a5).heap[g]? = some (.cells #[a0, a1, a2, a3, a4, a5, x6, x7] t (0, 0)) := set_block h5
  have h7 : (((((((W.setCell ⟨g, 0, none⟩ a0).setCell ⟨g, 1, none⟩ a1).setCell ⟨g, 2, none⟩ a2).setCell ⟨g, 3, none⟩ a3).setCell ⟨g, 4, none⟩ a4).setCell ⟨g, 5, none⟩ a5).setCell ⟨g, 6, none⟩ a6).heap[g]? = some (.cells #[a0, a1, a2, a3, a4, a5, a6, x7] t (0, 0)) := set_block h6
  have h8 : ((((((((W.setCell ⟨g, 0, none⟩ a0).setCell ⟨g, 1, none⟩ a1).setCell ⟨g, 2, none⟩ a2).setCell ⟨g, 3, none⟩ a3).setCell ⟨g, 4, none⟩ a4).setCell ⟨g, 5, none⟩ a5).setCell ⟨g, 6, none⟩ a6).setCell ⟨g, 7, none⟩ a7).heap[g]? = some (.cells #[a0, a1, a2, a3, a4, a5, a6, a7] t (0, 0)) := set_block h7
  refine ⟨h8, ?_⟩
  have g0 := set_grown W g 0 a0
  have g1 := grown_trans g0 (set_grown (W.setCell ⟨g, 0, none⟩ a0) g 1 a1)
  have g2 := grown_trans g1 (set_grown ((W.setCell ⟨g, 0, none⟩ a0).setCell ⟨g, 1, none⟩ a1) g 2 a2)
  have g3 := grown_trans g2 (set_grown (((W.setCell ⟨g, 0, none⟩ a0).setCell ⟨g, 1, none⟩ a1).setCell ⟨g, 2, none⟩ a2) g 3 a3)
  have g4 := grown_trans g3 (set_grown ((((W.setCell ⟨g, 0, none⟩ a0).setCell ⟨g, 1, none⟩ a1).setCell ⟨g, 2, none⟩ a2).setCell ⟨g, 3, none⟩ a3) g 4 a4)
  have g5 := grown_trans g4 (set_grown (((((W.setCell ⟨g, 0, none⟩ a0).setCell ⟨g, 1, none⟩ a1).setCell ⟨g, 2, none⟩ a2).setCell ⟨g, 3, none⟩ a3).setCell ⟨g, 4, none⟩ a4) g 5 a5)
  have g6 := grown_trans g5 (set_grown ((((((W.setCell ⟨g, 0, none⟩ a0).setCell ⟨g, 1, none⟩ a1).setCell ⟨g, 2, none⟩ a2).setCell ⟨g, 3, none⟩ a3).setCell ⟨g, 4, none⟩ a4).setCell ⟨g, 5, none⟩ a5) g 6 a6)
  have g7 := grown_trans g6 (set_grown (((((((W.setCell ⟨g, 0, none⟩ a0).setCell ⟨g, 1, none⟩ a1).setCell ⟨g, 2, none⟩ a2).setCell ⟨g, 3, none⟩ a3).setCell ⟨g, 4, none⟩ a4).setCell ⟨g, 5, none⟩ a5).setCell ⟨g, 6, none⟩ a6) g 7 a7)
  exact g7
theorem res_tk {W : World} {g : Nat} {a0 a1 a2 a3 a4 a5 a6 a7 : Value} {x : Bool} {tm : Array Value} (h : W.heap[g]? = some (.cells #[a0, a1, a2, a3, a4, a5, a6, a7] 28 (0, 0))) (h2 : tm[2]? = some (.pointer (some ⟨g, 0, none⟩))) (h3 : tm[3]? = some (.bool x)) : (results Try.f44 tm).run Try.prog W = .ok (.tuple #[.agg #[a0, a1, a2, a3, a4, a5, a6, a7], .bool x]) W := by
  have e0 : W.cell? ⟨g, 0, none⟩ = some a0 := block_cell h rfl
  have e1 : W.cell? ⟨g, 1, none⟩ = some a1 := block_cell h rfl
  have e2 : W.cell? ⟨g, 2, none⟩ = some a2 := block_cell h rfl
  have e3 : W.cell? ⟨g, 3, none⟩ = some a3 := block_cell h rfl
  have e4 : W.cell? ⟨g, 4, none⟩ = some a4 := block_cell h rfl
  have e5 : W.cell? ⟨g, 5, none⟩ = some a5 := block_cell h rfl
  have e6 : W.cell? ⟨g, 6, none⟩ = some a6 := block_cell h rfl
  have e7 : W.cell? ⟨g, 7, none⟩ = some a7 := block_cell h rfl
  simp [results, Try.results44, go_sem, h2, h3, e0, e1, e2, e3, e4, e5, e6, e7]
theorem field_lo (r : Value) (l : Int) (w : World) : (Instr.field 24 (.agg #[r, .int .i64 l]) 1).run Try.prog w = .ok (.int .i64 l) w := by
  simp [Instr.field, run_underlying Try.underlying24, go_sem, asAgg]
/-- What takes answers. -/
def TkAns (C : List Cr) (lo : Int) (w : World) (e : Ending) (w' : World) : Prop :=
  (∃ G, nextG C lo = some G ∧ e = .returned (.tuple #[(moG G).val, .bool true]) ∧ Below w.heap.size w w') ∨ (nextG C lo = none ∧ e = .returned (.tuple #[Mo.none.val, .bool false]) ∧ Below w.heap.size w w')

set_option maxHeartbeats 16000000 in
set_option maxRecDepth 100000 in
theorem takes_any (a : Option Addr) (cap : Nat) (C : List Cr) (lo : Int) (w : World) (hm : mayD C lo = true) (h : Crs w w.heap.size (.slice a C.length cap) C) :
    Calls Try.prog 44 #[.agg #[.slice a C.length cap, .int .i64 lo]] w fun e w' => TkAns C lo w e w' := by
  have hl16 := may_len hm
  obtain ⟨V, hV⟩ : ∃ V, (w.alloc (.cells #[.slice a C.length cap, .int .i64 lo] 24)).alloc (.cells #[.int .i64 0, .int .i64 0, .int .i64 0, .int .i64 0, .bool false, .int .i64 0, .bool false, .bool false] 28) = V := ⟨_, rfl⟩
  have hB : Below w.heap.size w V := by rw [← hV]; exact below2 _ _ _
  have b1 : V.heap[w.heap.size]? = some (.cells #[.slice a C.length cap, .int .i64 lo] 24 (0, 0)) := by rw [← hV]; exact alloc_old (alloc_at rfl)
  have b2 : V.heap[w.heap.size + 1]? = some (.cells #[.int .i64 0, .int .i64 0, .int .i64 0, .int .i64 0, .bool false, .int .i64 0, .bool false, .bool false] 28 (0, 0)) := by rw [← hV]; exact alloc_at (by simp)
  have hcr : ∀ W, Below V.heap.size V W → Crs W W.heap.size (.slice a C.length cap) C := fun W hW => (h.up hB).up hW
  have hxa : ∀ W, Below V.heap.size V W → 0 < C.length → ∃ b off, a = some ⟨b, off, none⟩ ∧ b < W.heap.size ∧ CrossAt W b off C := fun W hW h0 => by
    obtain ⟨aa, cp, e1, -, h5⟩ := hcr W hW
    obtain ⟨b, off, e2, hb, hC⟩ := h5 h0
    injection e1 with e3 e4 e5
    exact ⟨b, off, e3.trans e2, hb, hC⟩
  have hca : ∀ (W : World) (x : Nat), Below V.heap.size V W → x < C.length → Calls Try.prog 34 #[.agg #[.slice a C.length cap, .int .i64 lo], .int .i64 (x : Nat)] W fun e w' => e = .returned (.bool (caB C x)) ∧ Below W.heap.size W w' := fun W x hW hx => by
    obtain ⟨b, off, rfl, hb, hC⟩ := hxa W hW (by omega)
    exact curlAt_any b off cap C lo x W hx hb hC
  have hpu : ∀ (W : World) (x y : Nat), Below V.heap.size V W → x < C.length → Calls Try.prog 38 #[.agg #[.slice a C.length cap, .int .i64 lo], .int .i64 (x : Nat), .int .i64 (y : Nat)] W fun e w' => e = .returned (.bool ((facesM C).any (jlR C x y))) ∧ Below W.heap.size W w' := fun W x y hW hx => by
    obtain ⟨b, off, rfl, hb, hC⟩ := hxa W hW (by omega)
    exact pullable_any b off cap C lo x y W hm hb hC
  have hto : ∀ (W : World) (bG cG : Nat) (G : List Nat) (k : Nat), Below V.heap.size V W → G.length = k → k ≤ 16 → 0 < k → (∀ g, g ∈ G → g < C.length) → GonAt W bG G → Calls Try.prog 36 #[.agg #[.slice a C.length cap, .int .i64 lo], .slice (some ⟨bG, 0, none⟩) k cG] W fun e w' => ∃ v, e = .returned (.agg #[v, .int .i64 (takL C lo G)]) ∧ Below W.heap.size W w' := fun W bG cG G k hW hk h16 h0 hg hG => by
    subst hk
    have hC0 : 0 < C.length := by
      have := hg (G[0]) (List.getElem_mem h0)
      omega
    have h1 := takenOut_any a cap C lo bG cG G W hm hC0 h16 hg hG (hcr W hW)
    rw [(take_twoT hm G).2] at h1
    exact h1.mono fun e w' ⟨v, h2, _, h3⟩ => ⟨v, h2, h3⟩
  have hnu := next_u C lo
  have hnp := next_p C lo
  have hne := next_end C lo
  obtain ⟨n, hN⟩ : ∃ n, C.length = n := ⟨_, rfl⟩
  rw [hN] at hca hpu hto b1 hV hl16 hnu hnp hne
  rw [hN]
  have HCA := hidQ hca
  have HPU := hidQ hpu
  have HTO := hidQ hto
  have HNU := hidQ hnu
  have HNP := hidQ hnp
  have HNE := hidQ hne
  have HV := hidQ hV
  have HB := hidQ hB
  have HK1 := hidQ b1
  have HK2 := hidQ b2
  have l2 : w.heap.size + 1 < V.heap.size := (Array.getElem?_eq_some_iff.1 b2).1
  have hfl := fun (r : Value) (l : Int) (W : World) => field_lo r l W
  clear hV hB b1 b2 hcr hxa hca hpu hto hnu hnp hne h hm hN
  go_enter Try.func44, Try.ntmps44
  go_upto_region 1 with (fail)
  rw [HV.out]
  go_wp2
  go_loopw [4] (fun v4 wr => ∃ (c : Nat), c ≤ n ∧ v4 = .int .i64 (c : Nat) ∧ Hid (∀ x, x < c → okG C lo [x] = false) ∧ Hid (Below V.heap.size V wr)) (fun v4 _ => n - (intOf v4).toNat)
  case atStart => exact ⟨0, Nat.zero_le _, rfl, fun x h => absurd h (Nat.not_lt_zero _), Below.refl _ _⟩
  case round =>
    rename World => W1
    obtain ⟨c, hcn, rfl, hf, hb⟩ := hrel
    have HF := hidQ hf.out
    have HB1 := hidQ hb.out
    have hs1 := hb.out.size
    have d1 := (HB1.out.block _ (by omega)).trans HK1.out
    have c0 : W1.cell? ⟨w.heap.size, 0, none⟩ = some (.slice a n cap) := block_cell d1 rfl
    have c1 : W1.cell? ⟨w.heap.size, 1, none⟩ = some (.int .i64 lo) := block_cell d1 rfl
    clear hf hb d1
    by_cases hcl : c < n
    · cases hok : okG C lo [c] with
      | true =>
        have hca : caB C c = true ∧ takL C lo [c] ≤ 16 := by simpa [okG] using hok
        have hde : decide (takL C lo [c] ≤ 16) = true := decide_eq_true hca.2
        obtain ⟨tl, htl⟩ : ∃ tl, takL C lo [c] = tl := ⟨_, rfl⟩
        have HTL := hidQ htl
        rw [htl] at hde
        have HCB := hidQ hca.1
        have HOK := hidQ hok
        clear hca htl hok
        go_upto_region 5 with (first
          | (go_at_call 34; refine (HCA.out _ _ HB1.out hcl).mono ?_; rw [HCB.out]; rintro e9 w5 ⟨rfl, hb5⟩
             have H5 := hidQ (HB1.out.trans (hb5.mono hs1))
             have hs5 := H5.out.size
             clear hb5 c0 c1
             have d5 := (H5.out.block _ (by omega)).trans HK1.out
             have c0 : w5.cell? ⟨w.heap.size, 0, none⟩ = some (.slice a n cap) := block_cell d5 rfl
             have c1 : w5.cell? ⟨w.heap.size, 1, none⟩ = some (.int .i64 lo) := block_cell d5 rfl
             have HG8 : Hid (GonAt (w5.alloc (.cells #[.int .i64 (c : Nat)] 3)) w5.heap.size [c]) := ⟨by simp, fun i hi => by
               have hi' : i < 1 := hi
               obtain rfl : i = 0 := by omega
               exact block_cell (alloc_at rfl) rfl⟩
             have H8 := hidQ (H5.out.alloc hs5 (.cells #[.int .i64 (c : Nat)] 3))
             clear d5)
          | (go_at_call 36; refine (HTO.out _ _ _ [c] 1 H8.out rfl (by decide) (by decide) (fun g hg => by rcases List.mem_singleton.1 hg with rfl; exact hcl) HG8.out).mono ?_; rw [HTL.out]; rintro e9 w9 ⟨v9, rfl, hb9⟩
             have H9 := hidQ (H8.out.trans (hb9.mono H8.out.size))
             clear hb9 c0 c1))
        have HM9 := hidQ ((H9.out.block _ l2).trans HK2.out)
        have HB9 := hidQ (HB.out.trans (H9.out.mono HB.out.size))
        have k0 : w9.cell? ⟨w.heap.size + 1, 0, none⟩ = some (.int .i64 0) := block_cell HM9.out rfl
        have k1 : w9.cell? ⟨w.heap.size + 1, 1, none⟩ = some (.int .i64 0) := block_cell HM9.out rfl
        have k2 : w9.cell? ⟨w.heap.size + 1, 2, none⟩ = some (.int .i64 0) := block_cell HM9.out rfl
        have k3 : w9.cell? ⟨w.heap.size + 1, 3, none⟩ = some (.int .i64 0) := block_cell HM9.out rfl
        have k4 : w9.cell? ⟨w.heap.size + 1, 4, none⟩ = some (.bool false) := block_cell HM9.out rfl
        have k5 : w9.cell? ⟨w.heap.size + 1, 5, none⟩ = some (.int .i64 0) := block_cell HM9.out rfl
        have k6 : w9.cell? ⟨w.heap.size + 1, 6, none⟩ = some (.bool false) := block_cell HM9.out rfl
        have k7 : w9.cell? ⟨w.heap.size + 1, 7, none⟩ = some (.bool false) := block_cell HM9.out rfl
        have f0 : w9.frozen? ⟨w.heap.size + 1, 0, none⟩ = false := block_frozen HM9.out
        have f1 : w9.frozen? ⟨w.heap.size + 1, 1, none⟩ = false := block_frozen HM9.out
        have f2 : w9.frozen? ⟨w.heap.size + 1, 2, none⟩ = false := block_frozen HM9.out
        have f3 : w9.frozen? ⟨w.heap.size + 1, 3, none⟩ = false := block_frozen HM9.out
        have f4 : w9.frozen? ⟨w.heap.size + 1, 4, none⟩ = false := block_frozen HM9.out
        have f5 : w9.frozen? ⟨w.heap.size + 1, 5, none⟩ = false := block_frozen HM9.out
        have f6 : w9.frozen? ⟨w.heap.size + 1, 6, none⟩ = false := block_frozen HM9.out
        have f7 : w9.frozen? ⟨w.heap.size + 1, 7, none⟩ = false := block_frozen HM9.out
        go_wp2
        obtain ⟨hq, hg⟩ := st8 (a0 := .int .i64 2) (a1 := .int .i64 (c : Nat)) (a2 := .int .i64 0) (a3 := .int .i64 0) (a4 := .bool false) (a5 := .int .i64 0) (a6 := .bool false) (a7 := .bool false) HM9.out
        exact bodyPost_ret (res_tk hq rfl rfl) rfl (Or.inl ⟨[c], HNU.out c hcl HF.out HOK.out, rfl, HB9.out.grown hg HB9.out.size (fun q hq => by have := Option.some.inj hq; omega)⟩)
      | false =>
        have HOK := hidQ hok
        cases hcb : caB C c with
        | false =>
          have HCB := hidQ hcb
          clear hok hcb
          go_wp2_with (go_at_call 34; refine (HCA.out _ _ HB1.out hcl).mono ?_; rw [HCB.out]; rintro e9 w9 ⟨rfl, hb9⟩; have H9 := hidQ (HB1.out.trans (hb9.mono hs1)); clear hb9 c0 c1)
          go_roundw
          case rel =>
            refine ⟨c + 1, by omega, by go_num, fun x hx => ?_, H9.out⟩
            rcases Nat.lt_or_ge x c with q | q
            · exact HF.out x q
            · obtain rfl : x = c := by omega
              exact HOK.out
          case measure => simp only [intOf]; omega
        | true =>
          have hde : decide (takL C lo [c] ≤ 16) = false := by
            have h2 : (caB C c && decide (takL C lo [c] ≤ 16)) = false := hok
            rw [hcb, Bool.true_and] at h2
            exact h2
          obtain ⟨tl, htl⟩ : ∃ tl, takL C lo [c] = tl := ⟨_, rfl⟩
          have HTL := hidQ htl
          rw [htl] at hde
          have HCB := hidQ hcb
          clear hok hcb htl
          go_upto_region 3 with (first
            | (go_at_call 34; refine (HCA.out _ _ HB1.out hcl).mono ?_; rw [HCB.out]; rintro e9 w5 ⟨rfl, hb5⟩
               have H5 := hidQ (HB1.out.trans (hb5.mono hs1))
               have hs5 := H5.out.size
               clear hb5 c0 c1
               have d5 := (H5.out.block _ (by omega)).trans HK1.out
               have c0 : w5.cell? ⟨w.heap.size, 0, none⟩ = some (.slice a n cap) := block_cell d5 rfl
               have c1 : w5.cell? ⟨w.heap.size, 1, none⟩ = some (.int .i64 lo) := block_cell d5 rfl
               have HG8 : Hid (GonAt (w5.alloc (.cells #[.int .i64 (c : Nat)] 3)) w5.heap.size [c]) := ⟨by simp, fun i hi => by
                 have hi' : i < 1 := hi
                 obtain rfl : i = 0 := by omega
                 exact block_cell (alloc_at rfl) rfl⟩
               have H8 := hidQ (H5.out.alloc hs5 (.cells #[.int .i64 (c : Nat)] 3))
               clear d5)
            | (go_at_call 36; refine (HTO.out _ _ _ [c] 1 H8.out rfl (by decide) (by decide) (fun g hg => by rcases List.mem_singleton.1 hg with rfl; exact hcl) HG8.out).mono ?_; rw [HTL.out]; rintro e9 w9 ⟨v9, rfl, hb9⟩
               have H9 := hidQ (H8.out.trans (hb9.mono H8.out.size))
               clear hb9 c0 c1))
          go_wp2
          go_roundw
          case rel =>
            refine ⟨c + 1, by omega, by go_num, fun x hx => ?_, H9.out⟩
            rcases Nat.lt_or_ge x c with q | q
            · exact HF.out x q
            · obtain rfl : x = c := by omega
              exact HOK.out
          case measure => simp only [intOf]; omega
    · obtain rfl : c = n := by omega
      have HFU := hidQ HF.out
      clear HF
      go_wp2
      go_loopw [5] (fun v5 wr => ∃ (i : Nat), i ≤ c ∧ v5 = .int .i64 (i : Nat) ∧ Hid (∀ x y, x < y → y < c → x < i → okG C lo [x, y] = false) ∧ Hid (Below V.heap.size V wr)) (fun v5 _ => c - (intOf v5).toNat)
      case atStart => exact ⟨0, Nat.zero_le _, rfl, fun x y _ _ h => absurd h (Nat.not_lt_zero _), HB1.out⟩
      case round =>
        rename World => W2
        obtain ⟨i, hic, rfl, hf, hb⟩ := hrel
        have HF := hidQ hf.out
        have HB2 := hidQ hb.out
        have hs2 := hb.out.size
        have d1 := (HB2.out.block _ (by omega)).trans HK1.out
        clear c0 c1
        have c0 : W2.cell? ⟨w.heap.size, 0, none⟩ = some (.slice a c cap) := block_cell d1 rfl
        clear hf hb d1
        by_cases hil : i < c
        · go_wp2
          go_loopw [6] (fun v6 wr => ∃ (j : Nat), i + 1 ≤ j ∧ j ≤ c ∧ v6 = .int .i64 (j : Nat) ∧ Hid (∀ x y, x < y → y < c → x < i ∨ x = i ∧ y < j → okG C lo [x, y] = false) ∧ Hid (Below V.heap.size V wr)) (fun v6 _ => c - (intOf v6).toNat)
          case atStart => exact ⟨i + 1, Nat.le_refl _, hil, by go_num, fun x y h1 h2 h3 => HF.out x y h1 h2 (by omega), HB2.out⟩
          case round =>
            rename World => W3
            obtain ⟨j, hij, hjc, rfl, hf, hb⟩ := hrel
            have HF3 := hidQ hf.out
            have HB3 := hidQ hb.out
            have hs3 := hb.out.size
            have d1 := (HB3.out.block _ (by omega)).trans HK1.out
            clear c0
            have c0 : W3.cell? ⟨w.heap.size, 0, none⟩ = some (.slice a c cap) := block_cell d1 rfl
            have c1 : W3.cell? ⟨w.heap.size, 1, none⟩ = some (.int .i64 lo) := block_cell d1 rfl
            clear hf hb d1
            by_cases hjl : j < c
            · cases hok : okG C lo [i, j] with
              | true =>
                have hca : (facesM C).any (jlR C i j) = true ∧ takL C lo [i, j] ≤ 16 := by
                  have h4 : ((facesM C).any (jlR C i j) && decide (takL C lo [i, j] ≤ 16)) = true := hok
                  rw [Bool.and_eq_true] at h4
                  exact ⟨h4.1, of_decide_eq_true h4.2⟩
                have hde : decide (takL C lo [i, j] ≤ 16) = true := decide_eq_true hca.2
                obtain ⟨tl, htl⟩ : ∃ tl, takL C lo [i, j] = tl := ⟨_, rfl⟩
                have HTL := hidQ htl
                rw [htl] at hde
                have HCB := hidQ hca.1
                have HOK := hidQ hok
                clear hca htl hok
                go_upto_region 13 with (first
                  | (go_at_call 38; refine (HPU.out _ _ _ HB3.out hil).mono ?_; rw [HCB.out]; rintro e9 w5 ⟨rfl, hb5⟩
                     have H5 := hidQ (HB3.out.trans (hb5.mono hs3))
                     have hs5 := H5.out.size
                     clear hb5 c0 c1
                     have d5 := (H5.out.block _ (by omega)).trans HK1.out
                     have c0 : w5.cell? ⟨w.heap.size, 0, none⟩ = some (.slice a c cap) := block_cell d5 rfl
                     have c1 : w5.cell? ⟨w.heap.size, 1, none⟩ = some (.int .i64 lo) := block_cell d5 rfl
                     have HG8 : Hid (GonAt (w5.alloc (.cells #[.int .i64 (i : Nat), .int .i64 (j : Nat)] 3)) w5.heap.size [i, j]) := ⟨by simp, fun i' hi' => by
                       have hi2 : i' < 2 := hi'
                       obtain rfl | rfl : i' = 0 ∨ i' = 1 := by omega
                       · exact block_cell (alloc_at rfl) rfl
                       · exact block_cell (alloc_at rfl) rfl⟩
                     have H8 := hidQ (H5.out.alloc hs5 (.cells #[.int .i64 (i : Nat), .int .i64 (j : Nat)] 3))
                     clear d5)
                  | (go_at_call 36; refine (HTO.out _ _ _ [i, j] 2 H8.out rfl (by decide) (by decide) (fun g hg => by simp only [List.mem_cons, List.not_mem_nil, or_false] at hg; omega) HG8.out).mono ?_; rw [HTL.out]; rintro e9 w9 ⟨v9, rfl, hb9⟩
                     have H9 := hidQ (H8.out.trans (hb9.mono H8.out.size))
                     clear hb9 c0 c1))
                have HM9 := hidQ ((H9.out.block _ l2).trans HK2.out)
                have HB9 := hidQ (HB.out.trans (H9.out.mono HB.out.size))
                have k0 : w9.cell? ⟨w.heap.size + 1, 0, none⟩ = some (.int .i64 0) := block_cell HM9.out rfl
                have k1 : w9.cell? ⟨w.heap.size + 1, 1, none⟩ = some (.int .i64 0) := block_cell HM9.out rfl
                have k2 : w9.cell? ⟨w.heap.size + 1, 2, none⟩ = some (.int .i64 0) := block_cell HM9.out rfl
                have k3 : w9.cell? ⟨w.heap.size + 1, 3, none⟩ = some (.int .i64 0) := block_cell HM9.out rfl
                have k4 : w9.cell? ⟨w.heap.size + 1, 4, none⟩ = some (.bool false) := block_cell HM9.out rfl
                have k5 : w9.cell? ⟨w.heap.size + 1, 5, none⟩ = some (.int .i64 0) := block_cell HM9.out rfl
                have k6 : w9.cell? ⟨w.heap.size + 1, 6, none⟩ = some (.bool false) := block_cell HM9.out rfl
                have k7 : w9.cell? ⟨w.heap.size + 1, 7, none⟩ = some (.bool false) := block_cell HM9.out rfl
                have f0 : w9.frozen? ⟨w.heap.size + 1, 0, none⟩ = false := block_frozen HM9.out
                have f1 : w9.frozen? ⟨w.heap.size + 1, 1, none⟩ = false := block_frozen HM9.out
                have f2 : w9.frozen? ⟨w.heap.size + 1, 2, none⟩ = false := block_frozen HM9.out
                have f3 : w9.frozen? ⟨w.heap.size + 1, 3, none⟩ = false := block_frozen HM9.out
                have f4 : w9.frozen? ⟨w.heap.size + 1, 4, none⟩ = false := block_frozen HM9.out
                have f5 : w9.frozen? ⟨w.heap.size + 1, 5, none⟩ = false := block_frozen HM9.out
                have f6 : w9.frozen? ⟨w.heap.size + 1, 6, none⟩ = false := block_frozen HM9.out
                have f7 : w9.frozen? ⟨w.heap.size + 1, 7, none⟩ = false := block_frozen HM9.out
                go_wp2
                obtain ⟨hq, hg⟩ := st8 (a0 := .int .i64 4) (a1 := .int .i64 (i : Nat)) (a2 := .int .i64 (j : Nat)) (a3 := .int .i64 0) (a4 := .bool false) (a5 := .int .i64 0) (a6 := .bool false) (a7 := .bool false) HM9.out
                exact bodyPost_ret (res_tk hq rfl rfl) rfl (Or.inl ⟨[i, j], HNP.out i j (by omega) hjl HFU.out HF3.out HOK.out, rfl, HB9.out.grown hg HB9.out.size (fun q hq => by have := Option.some.inj hq; omega)⟩)
              | false =>
                have HOK := hidQ hok
                cases hcb : (facesM C).any (jlR C i j) with
                | false =>
                  have HCB := hidQ hcb
                  clear hok hcb
                  go_wp2_with (go_at_call 38; refine (HPU.out _ _ _ HB3.out hil).mono ?_; rw [HCB.out]; rintro e9 w9 ⟨rfl, hb9⟩; have H9 := hidQ (HB3.out.trans (hb9.mono hs3)); clear hb9 c0 c1)
                  go_roundw
                  case rel =>
                    refine ⟨j + 1, by omega, by omega, by go_num, fun x y h1 h2 h3 => ?_, H9.out⟩
                    by_cases hq : x = i ∧ y = j
                    · rw [hq.1, hq.2]
                      exact HOK.out
                    · exact HF3.out x y h1 h2 (by omega)
                  case measure => simp only [intOf]; omega
                | true =>
                  have hde : decide (takL C lo [i, j] ≤ 16) = false := by
                    have h2 : ((facesM C).any (jlR C i j) && decide (takL C lo [i, j] ≤ 16)) = false := hok
                    rw [hcb, Bool.true_and] at h2
                    exact h2
                  obtain ⟨tl, htl⟩ : ∃ tl, takL C lo [i, j] = tl := ⟨_, rfl⟩
                  have HTL := hidQ htl
                  rw [htl] at hde
                  have HCB := hidQ hcb
                  clear hok hcb htl
                  go_upto_region 11 with (first
                    | (go_at_call 38; refine (HPU.out _ _ _ HB3.out hil).mono ?_; rw [HCB.out]; rintro e9 w5 ⟨rfl, hb5⟩
                       have H5 := hidQ (HB3.out.trans (hb5.mono hs3))
                       have hs5 := H5.out.size
                       clear hb5 c0 c1
                       have d5 := (H5.out.block _ (by omega)).trans HK1.out
                       have c0 : w5.cell? ⟨w.heap.size, 0, none⟩ = some (.slice a c cap) := block_cell d5 rfl
                       have c1 : w5.cell? ⟨w.heap.size, 1, none⟩ = some (.int .i64 lo) := block_cell d5 rfl
                       have HG8 : Hid (GonAt (w5.alloc (.cells #[.int .i64 (i : Nat), .int .i64 (j : Nat)] 3)) w5.heap.size [i, j]) := ⟨by simp, fun i' hi' => by
                         have hi2 : i' < 2 := hi'
                         obtain rfl | rfl : i' = 0 ∨ i' = 1 := by omega
                         · exact block_cell (alloc_at rfl) rfl
                         · exact block_cell (alloc_at rfl) rfl⟩
                       have H8 := hidQ (H5.out.alloc hs5 (.cells #[.int .i64 (i : Nat), .int .i64 (j : Nat)] 3))
                       clear d5)
                    | (go_at_call 36; refine (HTO.out _ _ _ [i, j] 2 H8.out rfl (by decide) (by decide) (fun g hg => by simp only [List.mem_cons, List.not_mem_nil, or_false] at hg; omega) HG8.out).mono ?_; rw [HTL.out]; rintro e9 w9 ⟨v9, rfl, hb9⟩
                       have H9 := hidQ (H8.out.trans (hb9.mono H8.out.size))
                       clear hb9 c0 c1))
                  go_wp2
                  go_roundw
                  case rel =>
                    refine ⟨j + 1, by omega, by omega, by go_num, fun x y h1 h2 h3 => ?_, H9.out⟩
                    by_cases hq : x = i ∧ y = j
                    · rw [hq.1, hq.2]
                      exact HOK.out
                    · exact HF3.out x y h1 h2 (by omega)
                  case measure => simp only [intOf]; omega
            · obtain rfl : j = c := by omega
              go_wp2
              go_roundw
              case rel => exact ⟨i + 1, by omega, by go_num, fun x y h1 h2 h3 => HF3.out x y h1 h2 (by omega), HB3.out⟩
              case measure => simp only [intOf]; omega
        · obtain rfl : i = c := by omega
          have HM9 := hidQ ((HB2.out.block _ l2).trans HK2.out)
          have HB9 := hidQ (HB.out.trans (HB2.out.mono HB.out.size))
          have k0 : W2.cell? ⟨w.heap.size + 1, 0, none⟩ = some (.int .i64 0) := block_cell HM9.out rfl
          have k1 : W2.cell? ⟨w.heap.size + 1, 1, none⟩ = some (.int .i64 0) := block_cell HM9.out rfl
          have k2 : W2.cell? ⟨w.heap.size + 1, 2, none⟩ = some (.int .i64 0) := block_cell HM9.out rfl
          have k3 : W2.cell? ⟨w.heap.size + 1, 3, none⟩ = some (.int .i64 0) := block_cell HM9.out rfl
          have k4 : W2.cell? ⟨w.heap.size + 1, 4, none⟩ = some (.bool false) := block_cell HM9.out rfl
          have k5 : W2.cell? ⟨w.heap.size + 1, 5, none⟩ = some (.int .i64 0) := block_cell HM9.out rfl
          have k6 : W2.cell? ⟨w.heap.size + 1, 6, none⟩ = some (.bool false) := block_cell HM9.out rfl
          have k7 : W2.cell? ⟨w.heap.size + 1, 7, none⟩ = some (.bool false) := block_cell HM9.out rfl
          have f0 : W2.frozen? ⟨w.heap.size + 1, 0, none⟩ = false := block_frozen HM9.out
          have f1 : W2.frozen? ⟨w.heap.size + 1, 1, none⟩ = false := block_frozen HM9.out
          have f2 : W2.frozen? ⟨w.heap.size + 1, 2, none⟩ = false := block_frozen HM9.out
          have f3 : W2.frozen? ⟨w.heap.size + 1, 3, none⟩ = false := block_frozen HM9.out
          have f4 : W2.frozen? ⟨w.heap.size + 1, 4, none⟩ = false := block_frozen HM9.out
          have f5 : W2.frozen? ⟨w.heap.size + 1, 5, none⟩ = false := block_frozen HM9.out
          have f6 : W2.frozen? ⟨w.heap.size + 1, 6, none⟩ = false := block_frozen HM9.out
          have f7 : W2.frozen? ⟨w.heap.size + 1, 7, none⟩ = false := block_frozen HM9.out
          go_wp2
          obtain ⟨hq, hg⟩ := st8 (a0 := .int .i64 0) (a1 := .int .i64 0) (a2 := .int .i64 0) (a3 := .int .i64 0) (a4 := .bool false) (a5 := .int .i64 0) (a6 := .bool false) (a7 := .bool false) HM9.out
          exact bodyPost_ret (res_tk hq rfl rfl) rfl (Or.inr ⟨HNE.out HFU.out (fun x y h1 h2 => HF.out x y h1 h2 (by omega)), rfl, HB9.out.grown hg HB9.out.size (fun q hq => by have := Option.some.inj hq; omega)⟩)
end Go.Proofs.Ytagaajlbkfkaiaa

/- The walks of code.toldCross, code.told. -/
import Derived.Test.YtlimfajjmhfnaaaGreatDoorDT8
import Derived.Test.YtlimfajjmhfnaaaGreatDoorW5dP
import Derived.Laws.Concat
namespace Go.Proofs.YtlimfajjmhfnaaaGreatDoor
open Go.RowKit

theorem infoStr : (Tryz.prog.info? 9).map (fun i => (i.zero, i.size, i.bytes)) = some (some (.string ⟨#[]⟩), 1, 16) := by kernel_rfl
/-- Texts as values. -/
def strV (l : List (List UInt8)) : List Value := l.map fun x => .string ⟨x.toArray⟩
theorem strV_len (l : List (List UInt8)) : (strV l).length = l.length := by simp [strV]
theorem strV_snoc (l : List (List UInt8)) (x : List UInt8) : strV (l ++ [x]) = strV l ++ [.string ⟨x.toArray⟩] := by simp [strV]
theorem one_str (x : List UInt8) : ∀ u ∈ [Value.string ⟨x.toArray⟩], u.oneCell' = true := by
  intro u hu
  simp only [List.mem_singleton] at hu
  subst hu
  rfl
/-- A row of texts that a call owns. -/
def StrsOwn (w : World) (B : Nat) (v : Value) (l : List (List UInt8)) : Prop := w.ownsRow B 9 1 v l.length (strV l)
theorem StrsOwn.nil (w : World) (B : Nat) : StrsOwn w B (.slice none 0 0) [] := World.ownsRow_nil _ _ _ _
theorem StrsOwn.on {w w' : World} {B : Nat} {v : Value} {l : List (List UInt8)} (h : StrsOwn w B v l) (hb : Below w.heap.size w w') : StrsOwn w' B v l := own_any h (grown_below hb none)
theorem StrsOwn.put {w W1 w8 : World} {v v8 : Value} {l : List (List UInt8)} {x : List UInt8} {e : TypeId} (hb : Below w.heap.size w W1) (hO : StrsOwn W1 w.heap.size v l) (hown : w8.ownsRow w.heap.size 9 1 v8 (l.length + 1) (strV l ++ [.string ⟨x.toArray⟩])) (hg : (W1.alloc (.cells #[.string ⟨x.toArray⟩] e)).grownBy w8 v.ownBlock) :
    StrsOwn w8 w.heap.size v8 (l ++ [x]) ∧ Below w.heap.size w w8 := by
  refine ⟨?_, (hb.alloc hb.size _).grown hg (by have := hb.size; simp; omega) (fun q hq => (hO.lt q hq).1)⟩
  unfold StrsOwn
  rw [strV_snoc]
  simpa using hown
theorem StrsOwn.at {w : World} {B : Nat} {v : Value} {l : List (List UInt8)} (h : StrsOwn w B v l) (h0 : 0 < l.length) : ∃ g c, v = .slice (some ⟨g, 0, none⟩) l.length c ∧ l.length ≤ c ∧ StrsAt w g l := by
  rcases h.2 with ⟨-, hn⟩ | ⟨g, c, cur, rfl, hB, hb, h1, h2, h3, h4⟩
  · omega
  · refine ⟨g, c, rfl, by simpa using h1, (Array.getElem?_eq_some_iff.1 hb).1, fun j x hx => ?_⟩
    have hj : j < l.length := (List.getElem?_eq_some_iff.1 hx).1
    have h5 : w.ownsRow B 9 1 (.slice (some ⟨g, 0, none⟩) l.length c) l.length (strV l) := h
    have h6 := h5.cellAt j (by omega)
    rw [h6]
    simp [strV, hx]

/-- The first texts of four numbers. -/
def numsL4 (a b c d : Int) : Nat → List (List UInt8)
  | 0 => []
  | 1 => [Lib.itoa a]
  | 2 => [Lib.itoa a, Lib.itoa b]
  | 3 => [Lib.itoa a, Lib.itoa b, Lib.itoa c]
  | _ => [Lib.itoa a, Lib.itoa b, Lib.itoa c, Lib.itoa d]

set_option maxHeartbeats 8000000 in
set_option maxRecDepth 100000 in
theorem toldCross_any (a b c d : Int) (p : Bool) (w : World) (hs : Small ⟨a, b, c, d, p⟩) (hT : Tab w) :
    Calls Tryz.prog 20 #[.agg #[.int .i64 a, .int .i64 b, .int .i64 c, .int .i64 d, .bool p]] w fun e w' => e = .returned (.string ⟨(crossL ⟨a, b, c, d, p⟩).toArray⟩) ∧ Below w.heap.size w w' := by
  obtain ⟨i2, hk, hx0, hx1, hx2⟩ := info_parts infoStr
  have HAR : Hid (∀ W, Calls Tryz.prog 23 #[.agg #[.int .i64 a, .int .i64 b, .int .i64 c, .int .i64 d, .bool p]] W fun e w' => e = .returned (.agg #[.int .i64 a, .int .i64 b, .int .i64 c, .int .i64 d]) ∧ Below W.heap.size W w') := fun W => arcs_any ⟨a, b, c, d, p⟩ W
  have HIT : Hid (∀ (n : Int) (W : World), (-1000000 ≤ n ∧ n ≤ 1000000) → Below w.heap.size w W → Calls Tryz.prog 38 #[.int .i64 n] W fun e w' => e = .returned (.string ⟨(Lib.itoa n).toArray⟩) ∧ Below W.heap.size W w') := fun n W h hb => itoa_any n W h.1 h.2 (hT.on hb)
  have hl21 := nums_len hs
  have HJO : Hid (∀ (g c0 : Nat) (W : World), StrsAt W g [Lib.itoa a, Lib.itoa b, Lib.itoa c, Lib.itoa d] → 4 ≤ c0 → Calls Tryz.prog 21 #[.slice (some ⟨g, 0, none⟩) 4 c0, .string ⟨#[44]⟩] W fun e w' => e = .returned (.string ⟨(Lib.join (numsL ⟨a, b, c, d, p⟩) [44]).toArray⟩) ∧ Below W.heap.size W w') := fun g c0 W h h4 => join_any g c0 [Lib.itoa a, Lib.itoa b, Lib.itoa c, Lib.itoa d] 44 W h (by simp) (by simp) (by simpa using h4) (fun x hx => Nat.le_trans (hl21 x hx) (by omega))
  have hcl := cross_len hs
  obtain ⟨J, hJ⟩ : ∃ J, Lib.join (numsL ⟨a, b, c, d, p⟩) [44] = J := ⟨_, rfl⟩
  have hJl : J.length ≤ 100 := by
    rw [← hJ]
    unfold crossL at hcl
    simp only [List.length_append] at hcl
    omega
  rw [hJ] at HJO
  have hadd := fun W => run_string_add_lists (P := Tryz.prog) (w := W) (openL p) J (by cases p <;> decide) (by omega)
  have hadd2 := fun W => run_string_add_lists (P := Tryz.prog) (w := W) (openL p ++ J) [93] (by rw [List.length_append, show (openL p).length = 3 by cases p <;> rfl]; omega) (by decide)
  have hre : Ending.returned (.string ⟨((openL p ++ J) ++ [93]).toArray⟩) = Ending.returned (.string ⟨(crossL ⟨a, b, c, d, p⟩).toArray⟩) := by unfold crossL; rw [hJ]
  have HRE : Hid (Ending.returned (.string ⟨((openL p ++ J) ++ [93]).toArray⟩) = Ending.returned (.string ⟨(crossL ⟨a, b, c, d, p⟩).toArray⟩)) := hre
  clear hre
  obtain ⟨hs1, hs2, hs3, hs4⟩ := hs
  have hix0 : ∀ W : World, (Instr.index 60 (.agg #[.int .i64 a, .int .i64 b, .int .i64 c, .int .i64 d]) (.int .i64 0)).run Tryz.prog W = .ok (.int .i64 a) W := fun W => rfl
  have hix1 : ∀ W : World, (Instr.index 60 (.agg #[.int .i64 a, .int .i64 b, .int .i64 c, .int .i64 d]) (.int .i64 1)).run Tryz.prog W = .ok (.int .i64 b) W := fun W => rfl
  have hix2 : ∀ W : World, (Instr.index 60 (.agg #[.int .i64 a, .int .i64 b, .int .i64 c, .int .i64 d]) (.int .i64 2)).run Tryz.prog W = .ok (.int .i64 c) W := fun W => rfl
  have hix3 : ∀ W : World, (Instr.index 60 (.agg #[.int .i64 a, .int .i64 b, .int .i64 c, .int .i64 d]) (.int .i64 3)).run Tryz.prog W = .ok (.int .i64 d) W := fun W => rfl
  clear hT hJ hcl hl21
  cases p
  · go_enter Tryz.func20, Tryz.ntmps20
    go_upto_region 6 with (go_at_call 23; refine (HAR.out _).mono ?_; rintro e9 w1 ⟨rfl, hb1⟩)
    have HB1 : Hid (Below w.heap.size w w1) := ((Below.refl w.heap.size w).alloc (Nat.le_refl _) _).trans (hb1.mono (by simp))
    clear hb1
    go_loopw [4, 11] (fun v4 v11 wr => ∃ (k : Nat) (a4 : Option Addr) (c4 : Nat) (L : List (List UInt8)), k ≤ 4 ∧ 0 ≤ k ∧ v4 = .slice a4 k c4 ∧ v11 = .int .i64 (k : Nat) ∧ Hid (L = numsL4 a b c d k ∧ StrsOwn wr w.heap.size (.slice a4 k c4) L) ∧ Hid (Below w.heap.size w wr)) (fun _ i _ => 4 - (intOf i).toNat)
    case atStart => exact ⟨0, none, 0, [], by omega, by omega, rfl, rfl, ⟨rfl, StrsOwn.nil _ _⟩, HB1⟩
    case round =>
      clear HB1
      rename World => wr
      obtain ⟨k, a4, c4, L, hk4, -, rfl, rfl, hL, HB⟩ := hrel
      obtain ⟨hL1, hO⟩ := hL.out
      have h5 : k = 0 ∨ k = 1 ∨ k = 2 ∨ k = 3 ∨ k = 4 := by omega
      clear hL
      rcases h5 with rfl | rfl | rfl | rfl | rfl
      all_goals (simp only [numsL4] at hL1; subst hL1)
      · have HO : Hid (StrsOwn wr w.heap.size (.slice a4 0 c4) []) := hO
        clear hO
        go_wp2_with (first
          | (at_builtin; refine wpList_append_own _ rfl _ _ 56 rfl w.heap.size 9 i2 (.string ⟨#[]⟩) 1 16 Tryz.underlying56 hk hx0 hx1 hx2 rfl (by decide) _ _ _ rfl (HO2.out.alloc _) ⟨w2.heap.size, 0, none⟩ 1 1 [.string ⟨(Lib.itoa a).toArray⟩] rfl rfl (new_cell1 _ _ _) (one_str _) (by unfold maxLen; simp) (by simp) (by have := HB2.out.size; simp; omega) ?_; intro v8 w8 hown8 hg8 _; refine Hid.out ?_)
          | (go_at_call 38; (refine (HIT.out a wr hs1 HB.out).mono ?_); rintro e9 w2 ⟨rfl, hb2⟩; have HB2 : Hid (Below w.heap.size w w2) := HB.out.trans (hb2.mono HB.out.size); have HO2 : Hid (w2.ownsRow w.heap.size 9 1 (.slice a4 0 c4) 0 (strV [])) := StrsOwn.on (l := []) HO.out hb2; clear hb2))
        refine Lib.hid ?_
        have hpu := StrsOwn.put (l := []) (x := Lib.itoa a) HB2.out HO2.out hown8 hg8
        obtain ⟨a8, c8, rfl⟩ := own_capS hown8
        have HP8 : Hid (StrsOwn w8 w.heap.size (.slice a8 1 c8) [Lib.itoa a]) := hpu.1
        have HB8 : Hid (Below w.heap.size w w8) := hpu.2
        clear hown8 hg8 hpu HO2 HB2 HO HB
        go_wp2
        go_roundw
        case rel => exact ⟨1, a8, c8, [Lib.itoa a], by omega, by omega, rfl, rfl, ⟨rfl, HP8.out⟩, HB8⟩
        case measure => simp only [intOf]; omega
      · have HO : Hid (StrsOwn wr w.heap.size (.slice a4 1 c4) [Lib.itoa a]) := hO
        clear hO
        go_wp2_with (first
          | (at_builtin; refine wpList_append_own _ rfl _ _ 56 rfl w.heap.size 9 i2 (.string ⟨#[]⟩) 1 16 Tryz.underlying56 hk hx0 hx1 hx2 rfl (by decide) _ _ _ rfl (HO2.out.alloc _) ⟨w2.heap.size, 0, none⟩ 1 1 [.string ⟨(Lib.itoa b).toArray⟩] rfl rfl (new_cell1 _ _ _) (one_str _) (by unfold maxLen; simp) (by simp) (by have := HB2.out.size; simp; omega) ?_; intro v8 w8 hown8 hg8 _; refine Hid.out ?_)
          | (go_at_call 38; (refine (HIT.out b wr hs2 HB.out).mono ?_); rintro e9 w2 ⟨rfl, hb2⟩; have HB2 : Hid (Below w.heap.size w w2) := HB.out.trans (hb2.mono HB.out.size); have HO2 : Hid (w2.ownsRow w.heap.size 9 1 (.slice a4 1 c4) 1 (strV [Lib.itoa a])) := StrsOwn.on (l := [Lib.itoa a]) HO.out hb2; clear hb2))
        refine Lib.hid ?_
        have hpu := StrsOwn.put (l := [Lib.itoa a]) (x := Lib.itoa b) HB2.out HO2.out hown8 hg8
        obtain ⟨a8, c8, rfl⟩ := own_capS hown8
        have HP8 : Hid (StrsOwn w8 w.heap.size (.slice a8 2 c8) [Lib.itoa a, Lib.itoa b]) := hpu.1
        have HB8 : Hid (Below w.heap.size w w8) := hpu.2
        clear hown8 hg8 hpu HO2 HB2 HO HB
        go_wp2
        go_roundw
        case rel => exact ⟨2, a8, c8, [Lib.itoa a, Lib.itoa b], by omega, by omega, rfl, rfl, ⟨rfl, HP8.out⟩, HB8⟩
        case measure => simp only [intOf]; omega
      · have HO : Hid (StrsOwn wr w.heap.size (.slice a4 2 c4) [Lib.itoa a, Lib.itoa b]) := hO
        clear hO
        go_wp2_with (first
          | (at_builtin; refine wpList_append_own _ rfl _ _ 56 rfl w.heap.size 9 i2 (.string ⟨#[]⟩) 1 16 Tryz.underlying56 hk hx0 hx1 hx2 rfl (by decide) _ _ _ rfl (HO2.out.alloc _) ⟨w2.heap.size, 0, none⟩ 1 1 [.string ⟨(Lib.itoa c).toArray⟩] rfl rfl (new_cell1 _ _ _) (one_str _) (by unfold maxLen; simp) (by simp) (by have := HB2.out.size; simp; omega) ?_; intro v8 w8 hown8 hg8 _; refine Hid.out ?_)
          | (go_at_call 38; (refine (HIT.out c wr hs3 HB.out).mono ?_); rintro e9 w2 ⟨rfl, hb2⟩; have HB2 : Hid (Below w.heap.size w w2) := HB.out.trans (hb2.mono HB.out.size); have HO2 : Hid (w2.ownsRow w.heap.size 9 1 (.slice a4 2 c4) 2 (strV [Lib.itoa a, Lib.itoa b])) := StrsOwn.on (l := [Lib.itoa a, Lib.itoa b]) HO.out hb2; clear hb2))
        refine Lib.hid ?_
        have hpu := StrsOwn.put (l := [Lib.itoa a, Lib.itoa b]) (x := Lib.itoa c) HB2.out HO2.out hown8 hg8
        obtain ⟨a8, c8, rfl⟩ := own_capS hown8
        have HP8 : Hid (StrsOwn w8 w.heap.size (.slice a8 3 c8) [Lib.itoa a, Lib.itoa b, Lib.itoa c]) := hpu.1
        have HB8 : Hid (Below w.heap.size w w8) := hpu.2
        clear hown8 hg8 hpu HO2 HB2 HO HB
        go_wp2
        go_roundw
        case rel => exact ⟨3, a8, c8, [Lib.itoa a, Lib.itoa b, Lib.itoa c], by omega, by omega, rfl, rfl, ⟨rfl, HP8.out⟩, HB8⟩
        case measure => simp only [intOf]; omega
      · have HO : Hid (StrsOwn wr w.heap.size (.slice a4 3 c4) [Lib.itoa a, Lib.itoa b, Lib.itoa c]) := hO
        clear hO
        go_wp2_with (first
          | (at_builtin; refine wpList_append_own _ rfl _ _ 56 rfl w.heap.size 9 i2 (.string ⟨#[]⟩) 1 16 Tryz.underlying56 hk hx0 hx1 hx2 rfl (by decide) _ _ _ rfl (HO2.out.alloc _) ⟨w2.heap.size, 0, none⟩ 1 1 [.string ⟨(Lib.itoa d).toArray⟩] rfl rfl (new_cell1 _ _ _) (one_str _) (by unfold maxLen; simp) (by simp) (by have := HB2.out.size; simp; omega) ?_; intro v8 w8 hown8 hg8 _; refine Hid.out ?_)
          | (go_at_call 38; (refine (HIT.out d wr hs4 HB.out).mono ?_); rintro e9 w2 ⟨rfl, hb2⟩; have HB2 : Hid (Below w.heap.size w w2) := HB.out.trans (hb2.mono HB.out.size); have HO2 : Hid (w2.ownsRow w.heap.size 9 1 (.slice a4 3 c4) 3 (strV [Lib.itoa a, Lib.itoa b, Lib.itoa c])) := StrsOwn.on (l := [Lib.itoa a, Lib.itoa b, Lib.itoa c]) HO.out hb2; clear hb2))
        refine Lib.hid ?_
        have hpu := StrsOwn.put (l := [Lib.itoa a, Lib.itoa b, Lib.itoa c]) (x := Lib.itoa d) HB2.out HO2.out hown8 hg8
        obtain ⟨a8, c8, rfl⟩ := own_capS hown8
        have HP8 : Hid (StrsOwn w8 w.heap.size (.slice a8 4 c8) [Lib.itoa a, Lib.itoa b, Lib.itoa c, Lib.itoa d]) := hpu.1
        have HB8 : Hid (Below w.heap.size w w8) := hpu.2
        clear hown8 hg8 hpu HO2 HB2 HO HB
        go_wp2
        go_roundw
        case rel => exact ⟨4, a8, c8, [Lib.itoa a, Lib.itoa b, Lib.itoa c, Lib.itoa d], by omega, by omega, rfl, rfl, ⟨rfl, HP8.out⟩, HB8⟩
        case measure => simp only [intOf]; omega
      · have HO : Hid (StrsOwn wr w.heap.size (.slice a4 4 c4) [Lib.itoa a, Lib.itoa b, Lib.itoa c, Lib.itoa d]) := hO
        clear hO
        obtain ⟨g, c5, e5, hc5, hat⟩ := StrsOwn.at HO.out (by simp)
        injection e5 with e6 e7 e8
        subst e6 e8
        have HAT : Hid (StrsAt wr g [Lib.itoa a, Lib.itoa b, Lib.itoa c, Lib.itoa d]) := hat
        clear hat e7 HO
        go_wp2_with (go_at_call 21; refine (HJO.out g c4 wr HAT.out hc5).mono ?_; rintro e9 w6 ⟨rfl, hb6⟩; have HB6 : Hid (Below w.heap.size w w6) := HB.out.trans (hb6.mono HB.out.size); clear hb6)
        go_ret
        exact ⟨HRE.out, HB6.out⟩
  · go_enter Tryz.func20, Tryz.ntmps20
    go_upto_region 6 with (go_at_call 23; refine (HAR.out _).mono ?_; rintro e9 w1 ⟨rfl, hb1⟩)
    have HB1 : Hid (Below w.heap.size w w1) := ((Below.refl w.heap.size w).alloc (Nat.le_refl _) _).trans (hb1.mono (by simp))
    clear hb1
    go_loopw [4, 11] (fun v4 v11 wr => ∃ (k : Nat) (a4 : Option Addr) (c4 : Nat) (L : List (List UInt8)), k ≤ 4 ∧ 0 ≤ k ∧ v4 = .slice a4 k c4 ∧ v11 = .int .i64 (k : Nat) ∧ Hid (L = numsL4 a b c d k ∧ StrsOwn wr w.heap.size (.slice a4 k c4) L) ∧ Hid (Below w.heap.size w wr)) (fun _ i _ => 4 - (intOf i).toNat)
    case atStart => exact ⟨0, none, 0, [], by omega, by omega, rfl, rfl, ⟨rfl, StrsOwn.nil _ _⟩, HB1⟩
    case round =>
      clear HB1
      rename World => wr
      obtain ⟨k, a4, c4, L, hk4, -, rfl, rfl, hL, HB⟩ := hrel
      obtain ⟨hL1, hO⟩ := hL.out
      have h5 : k = 0 ∨ k = 1 ∨ k = 2 ∨ k = 3 ∨ k = 4 := by omega
      clear hL
      rcases h5 with rfl | rfl | rfl | rfl | rfl
      all_goals (simp only [numsL4] at hL1; subst hL1)
      · have HO : Hid (StrsOwn wr w.heap.size (.slice a4 0 c4) []) := hO
        clear hO
        go_wp2_with (first
          | (at_builtin; refine wpList_append_own _ rfl _ _ 56 rfl w.heap.size 9 i2 (.string ⟨#[]⟩) 1 16 Tryz.underlying56 hk hx0 hx1 hx2 rfl (by decide) _ _ _ rfl (HO2.out.alloc _) ⟨w2.heap.size, 0, none⟩ 1 1 [.string ⟨(Lib.itoa a).toArray⟩] rfl rfl (new_cell1 _ _ _) (one_str _) (by unfold maxLen; simp) (by simp) (by have := HB2.out.size; simp; omega) ?_; intro v8 w8 hown8 hg8 _; refine Hid.out ?_)
          | (go_at_call 38; (refine (HIT.out a wr hs1 HB.out).mono ?_); rintro e9 w2 ⟨rfl, hb2⟩; have HB2 : Hid (Below w.heap.size w w2) := HB.out.trans (hb2.mono HB.out.size); have HO2 : Hid (w2.ownsRow w.heap.size 9 1 (.slice a4 0 c4) 0 (strV [])) := StrsOwn.on (l := []) HO.out hb2; clear hb2))
        refine Lib.hid ?_
        have hpu := StrsOwn.put (l := []) (x := Lib.itoa a) HB2.out HO2.out hown8 hg8
        obtain ⟨a8, c8, rfl⟩ := own_capS hown8
        have HP8 : Hid (StrsOwn w8 w.heap.size (.slice a8 1 c8) [Lib.itoa a]) := hpu.1
        have HB8 : Hid (Below w.heap.size w w8) := hpu.2
        clear hown8 hg8 hpu HO2 HB2 HO HB
        go_wp2
        go_roundw
        case rel => exact ⟨1, a8, c8, [Lib.itoa a], by omega, by omega, rfl, rfl, ⟨rfl, HP8.out⟩, HB8⟩
        case measure => simp only [intOf]; omega
      · have HO : Hid (StrsOwn wr w.heap.size (.slice a4 1 c4) [Lib.itoa a]) := hO
        clear hO
        go_wp2_with (first
          | (at_builtin; refine wpList_append_own _ rfl _ _ 56 rfl w.heap.size 9 i2 (.string ⟨#[]⟩) 1 16 Tryz.underlying56 hk hx0 hx1 hx2 rfl (by decide) _ _ _ rfl (HO2.out.alloc _) ⟨w2.heap.size, 0, none⟩ 1 1 [.string ⟨(Lib.itoa b).toArray⟩] rfl rfl (new_cell1 _ _ _) (one_str _) (by unfold maxLen; simp) (by simp) (by have := HB2.out.size; simp; omega) ?_; intro v8 w8 hown8 hg8 _; refine Hid.out ?_)
          | (go_at_call 38; (refine (HIT.out b wr hs2 HB.out).mono ?_); rintro e9 w2 ⟨rfl, hb2⟩; have HB2 : Hid (Below w.heap.size w w2) := HB.out.trans (hb2.mono HB.out.size); have HO2 : Hid (w2.ownsRow w.heap.size 9 1 (.slice a4 1 c4) 1 (strV [Lib.itoa a])) := StrsOwn.on (l := [Lib.itoa a]) HO.out hb2; clear hb2))
        refine Lib.hid ?_
        have hpu := StrsOwn.put (l := [Lib.itoa a]) (x := Lib.itoa b) HB2.out HO2.out hown8 hg8
        obtain ⟨a8, c8, rfl⟩ := own_capS hown8
        have HP8 : Hid (StrsOwn w8 w.heap.size (.slice a8 2 c8) [Lib.itoa a, Lib.itoa b]) := hpu.1
        have HB8 : Hid (Below w.heap.size w w8) := hpu.2
        clear hown8 hg8 hpu HO2 HB2 HO HB
        go_wp2
        go_roundw
        case rel => exact ⟨2, a8, c8, [Lib.itoa a, Lib.itoa b], by omega, by omega, rfl, rfl, ⟨rfl, HP8.out⟩, HB8⟩
        case measure => simp only [intOf]; omega
      · have HO : Hid (StrsOwn wr w.heap.size (.slice a4 2 c4) [Lib.itoa a, Lib.itoa b]) := hO
        clear hO
        go_wp2_with (first
          | (at_builtin; refine wpList_append_own _ rfl _ _ 56 rfl w.heap.size 9 i2 (.string ⟨#[]⟩) 1 16 Tryz.underlying56 hk hx0 hx1 hx2 rfl (by decide) _ _ _ rfl (HO2.out.alloc _) ⟨w2.heap.size, 0, none⟩ 1 1 [.string ⟨(Lib.itoa c).toArray⟩] rfl rfl (new_cell1 _ _ _) (one_str _) (by unfold maxLen; simp) (by simp) (by have := HB2.out.size; simp; omega) ?_; intro v8 w8 hown8 hg8 _; refine Hid.out ?_)
          | (go_at_call 38; (refine (HIT.out c wr hs3 HB.out).mono ?_); rintro e9 w2 ⟨rfl, hb2⟩; have HB2 : Hid (Below w.heap.size w w2) := HB.out.trans (hb2.mono HB.out.size); have HO2 : Hid (w2.ownsRow w.heap.size 9 1 (.slice a4 2 c4) 2 (strV [Lib.itoa a, Lib.itoa b])) := StrsOwn.on (l := [Lib.itoa a, Lib.itoa b]) HO.out hb2; clear hb2))
        refine Lib.hid ?_
        have hpu := StrsOwn.put (l := [Lib.itoa a, Lib.itoa b]) (x := Lib.itoa c) HB2.out HO2.out hown8 hg8
        obtain ⟨a8, c8, rfl⟩ := own_capS hown8
        have HP8 : Hid (StrsOwn w8 w.heap.size (.slice a8 3 c8) [Lib.itoa a, Lib.itoa b, Lib.itoa c]) := hpu.1
        have HB8 : Hid (Below w.heap.size w w8) := hpu.2
        clear hown8 hg8 hpu HO2 HB2 HO HB
        go_wp2
        go_roundw
        case rel => exact ⟨3, a8, c8, [Lib.itoa a, Lib.itoa b, Lib.itoa c], by omega, by omega, rfl, rfl, ⟨rfl, HP8.out⟩, HB8⟩
        case measure => simp only [intOf]; omega
      · have HO : Hid (StrsOwn wr w.heap.size (.slice a4 3 c4) [Lib.itoa a, Lib.itoa b, Lib.itoa c]) := hO
        clear hO
        go_wp2_with (first
          | (at_builtin; refine wpList_append_own _ rfl _ _ 56 rfl w.heap.size 9 i2 (.string ⟨#[]⟩) 1 16 Tryz.underlying56 hk hx0 hx1 hx2 rfl (by decide) _ _ _ rfl (HO2.out.alloc _) ⟨w2.heap.size, 0, none⟩ 1 1 [.string ⟨(Lib.itoa d).toArray⟩] rfl rfl (new_cell1 _ _ _) (one_str _) (by unfold maxLen; simp) (by simp) (by have := HB2.out.size; simp; omega) ?_; intro v8 w8 hown8 hg8 _; refine Hid.out ?_)
          | (go_at_call 38; (refine (HIT.out d wr hs4 HB.out).mono ?_); rintro e9 w2 ⟨rfl, hb2⟩; have HB2 : Hid (Below w.heap.size w w2) := HB.out.trans (hb2.mono HB.out.size); have HO2 : Hid (w2.ownsRow w.heap.size 9 1 (.slice a4 3 c4) 3 (strV [Lib.itoa a, Lib.itoa b, Lib.itoa c])) := StrsOwn.on (l := [Lib.itoa a, Lib.itoa b, Lib.itoa c]) HO.out hb2; clear hb2))
        refine Lib.hid ?_
        have hpu := StrsOwn.put (l := [Lib.itoa a, Lib.itoa b, Lib.itoa c]) (x := Lib.itoa d) HB2.out HO2.out hown8 hg8
        obtain ⟨a8, c8, rfl⟩ := own_capS hown8
        have HP8 : Hid (StrsOwn w8 w.heap.size (.slice a8 4 c8) [Lib.itoa a, Lib.itoa b, Lib.itoa c, Lib.itoa d]) := hpu.1
        have HB8 : Hid (Below w.heap.size w w8) := hpu.2
        clear hown8 hg8 hpu HO2 HB2 HO HB
        go_wp2
        go_roundw
        case rel => exact ⟨4, a8, c8, [Lib.itoa a, Lib.itoa b, Lib.itoa c, Lib.itoa d], by omega, by omega, rfl, rfl, ⟨rfl, HP8.out⟩, HB8⟩
        case measure => simp only [intOf]; omega
      · have HO : Hid (StrsOwn wr w.heap.size (.slice a4 4 c4) [Lib.itoa a, Lib.itoa b, Lib.itoa c, Lib.itoa d]) := hO
        clear hO
        obtain ⟨g, c5, e5, hc5, hat⟩ := StrsOwn.at HO.out (by simp)
        injection e5 with e6 e7 e8
        subst e6 e8
        have HAT : Hid (StrsAt wr g [Lib.itoa a, Lib.itoa b, Lib.itoa c, Lib.itoa d]) := hat
        clear hat e7 HO
        go_wp2_with (go_at_call 21; refine (HJO.out g c4 wr HAT.out hc5).mono ?_; rintro e9 w6 ⟨rfl, hb6⟩; have HB6 : Hid (Below w.heap.size w w6) := HB.out.trans (hb6.mono HB.out.size); clear hb6)
        go_ret
        exact ⟨HRE.out, HB6.out⟩
end Go.Proofs.YtlimfajjmhfnaaaGreatDoor

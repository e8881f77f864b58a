/- Several texts of the proof, one behind the other. -/
import Derived.Test.YtlcogbcpmneknaaG7P
import Derived.Test.YtlcogbcpmneknaaW2P
import Derived.Test.YtlcogbcpmneknaaH7
/- Lists of numbers that a call owns; the walk of Drawing.Walks. -/
namespace Go.Proofs.Ytlcogbcpmneknaa
open Go.RowKit

/-- Numbers as cells. -/
def nats (l : List Nat) : List Value := l.map fun x => .int .i64 (x : Nat)
def bools (l : List Bool) : List Value := l.map fun x => .bool x
theorem nats_len (l : List Nat) : (nats l).length = l.length := by simp [nats]
theorem nats_get (l : List Nat) (i : Nat) (h : i < l.length) : (nats l)[i]? = some (.int .i64 (l.getD i 0 : Nat)) := by simp [nats, List.getD, h]
theorem bools_get (l : List Bool) (i : Nat) (h : i < l.length) : (bools l)[i]? = some (.bool (l.getD i true)) := by simp [bools, List.getD, h]
theorem bools_set (l : List Bool) (i : Nat) (b : Bool) : (bools l).set i (.bool b) = bools (l.set i b) := by simp [bools, List.map_set]
theorem nats_app (l : List Nat) (x : Nat) : nats (l ++ [x]) = nats l ++ [.int .i64 (x : Nat)] := by simp [nats]
/-- A list of lists of numbers that a call itself owns. -/
def NatsOwn (w : World) (B : Nat) (v : Value) (L : List (List Nat)) : Prop :=
  ∃ ys : List Value, ys.length = L.length ∧ w.ownsRow B 41 1 v ys.length ys ∧ ∀ j, j < L.length → w.ownsRow B 3 1 (ys.getD j (.bool false)) (L.getD j []).length (nats (L.getD j []))
theorem NatsOwn.any {w w' : World} {B : Nat} {v : Value} {L : List (List Nat)} (h : NatsOwn w B v L) (hg : w.grownBy w' none) : NatsOwn w' B v L := by
  obtain ⟨ys, h1, h2, h3⟩ := h
  exact ⟨ys, h1, own_any h2 hg, fun j hj => own_any (h3 j hj) hg⟩
theorem NatsOwn.low {w : World} {B B' : Nat} {v : Value} {L : List (List Nat)} (h : NatsOwn w B v L) (hB : B' ≤ B) : NatsOwn w B' v L := by
  obtain ⟨ys, h1, h2, h3⟩ := h
  exact ⟨ys, h1, own_low h2 hB, fun j hj => own_low (h3 j hj) hB⟩
theorem grown_none {w w' : World} {row : Option Nat} (h : w.grownBy w' none) : w.grownBy w' row := ⟨h.os, h.tape, h.output, h.size, fun k hk _ => h.block k hk (by simp)⟩
theorem grown_new {W X Y : World} {row r2 : Option Nat} (h : W.grownBy X row) (g : X.grownBy Y r2) (hr : ∀ k, r2 = some k → W.heap.size ≤ k) : W.grownBy Y row :=
  ⟨g.os.trans h.os, g.tape.trans h.tape, g.output.trans h.output, Nat.le_trans h.size g.size, fun k hk hn => (g.block k (Nat.lt_of_lt_of_le hk h.size) (fun e => by have := hr k e.symm; omega)).trans (h.block k hk hn)⟩
def lenOf : Value → Nat
  | .slice _ n _ => n
  | _ => 0
theorem infoInt : (Try.prog.info? 3).map (fun i => (i.zero, i.size, i.bytes)) = some (some (.int .i64 0), 1, 8) := by kernel_rfl
theorem infoBool : (Try.prog.info? 4).map (fun i => (i.zero, i.size, i.bytes)) = some (some (.bool false), 1, 1) := by kernel_rfl
theorem infoInts : (Try.prog.info? 41).map (fun i => (i.zero, i.size, i.bytes)) = some (some (.slice none 0 0), 1, 24) := by kernel_rfl
theorem int_one (x : Int) : ∀ u ∈ [Value.int .i64 x], u.oneCell' = true := by
  intro u hu
  simp only [List.mem_singleton] at hu
  subst hu
  rfl
theorem made_false (n : Nat) : (madeCells (Value.bool false).cells (n * 1)).toList = bools (List.replicate n false) := by
  have e : (Value.bool false).cells = #[Value.bool false] := rfl
  rw [e, toList_madeCells_one, Nat.mul_one]
  simp [bools]

/-- Where the walk of Walks stands behind the arcs below i. -/
structure WkAt (w : World) (gS cS : Nat) (box : Array Value) (tb : TypeId) (n : Nat) (R : List (List Nat) × List Bool) (v3 : Value) (zs : List Value) (wr : World) : Prop where
  box : wr.heap[w.heap.size]? = some (.cells box tb (0, 0))
  seen : wr.ownsRow (w.heap.size + 1) 4 1 (.slice (some ⟨gS, 0, none⟩) (n + 1) cS) (n + 1) (bools R.2)
  len : zs.length = R.1.length
  rows : wr.ownsRow (w.heap.size + 1) 41 1 v3 zs.length zs
  each : ∀ j, j < zs.length → wr.ownsRow (w.heap.size + 1) 3 1 (zs.getD j (.bool false)) (R.1.getD j []).length (nats (R.1.getD j []))
  bel : Below w.heap.size w wr

theorem walksTo_next {f : Nat → Nat} {n i : Nat} {acc : List Nat} {seen : List Bool} (h : walkF f (n + 1) (walksTo f n i).2 (i + 1) [] = (acc, seen)) : walksTo f n (i + 1) = (if acc = [] then (walksTo f n i).1 else (walksTo f n i).1 ++ [acc], seen) := by
  simp only [walksTo]
  rw [h]

set_option maxHeartbeats 8000000 in
set_option maxRecDepth 100000 in
theorem arcRings_ahead (a : Option Addr) (cap : Nat) (C : List Cr) (loops : Int) (gF cF gT cT : Nat) (w : World) (hm : mayD C loops = true) (hD : Dr w a cap C gF gT) :
    Calls Try.prog 32 #[drV a cap C loops gF cF gT cT, .func (.func 33) #[drV a cap C loops gF cF gT cT] #[]] w fun e w' => ∃ v, e = .returned v ∧ NatsOwn w' w.heap.size v (walksM C) ∧ Below w.heap.size w w' := by
  obtain ⟨s1, -, -, -⟩ := sizeB_iff (may_size hm)
  obtain ⟨i0, hi, hz0, hz1, hz2⟩ := info_parts infoInt
  obtain ⟨i1, hj, hy0, hy1, hy2⟩ := info_parts infoInts
  obtain ⟨i2, hk, hx0, hx1, hx2⟩ := info_parts infoBool
  unfold drV
  have HM : Hid (mayD C loops = true) := hm
  have HD : Hid (Dr w a cap C gF gT) := hD
  have HNX : Hid (∀ x, 1 ≤ x → x ≤ 2 * C.length → 1 ≤ nx C x ∧ nx C x ≤ 2 * C.length) := nx_closed hm
  have HWM : Hid (walksM C = (walksTo (nx C) (2 * C.length) (2 * C.length)).1) := (rfl : walksM C = (walksTo (nx C) (2 * C.length) (2 * C.length)).1)
  clear hm hD
  obtain ⟨w0, hw0⟩ : ∃ w0, w0 = w.alloc (.cells #[.slice a C.length cap, .int .i64 loops, .slice (some ⟨gF, 0, none⟩) (2 * C.length + 1) cF, .slice (some ⟨gT, 0, none⟩) (2 * C.length + 1) cT] 39) := ⟨_, rfl⟩
  have HW0 : Hid (w0 = w.alloc (.cells #[.slice a C.length cap, .int .i64 loops, .slice (some ⟨gF, 0, none⟩) (2 * C.length + 1) cF, .slice (some ⟨gT, 0, none⟩) (2 * C.length + 1) cT] 39)) := hw0
  have hs0 : w0.heap.size = w.heap.size + 1 := by rw [hw0]; simp
  have HB0 : Hid (Below w.heap.size w w0) := (by rw [hw0]; exact (Below.refl _ _).alloc (Nat.le_refl _) _ : Below w.heap.size w w0)
  have HT0 : Hid (w0.heap[w.heap.size]? = some (.cells #[.slice a C.length cap, .int .i64 loops, .slice (some ⟨gF, 0, none⟩) (2 * C.length + 1) cF, .slice (some ⟨gT, 0, none⟩) (2 * C.length + 1) cT] 39 (0, 0))) := (by rw [hw0]; exact alloc_at rfl : w0.heap[w.heap.size]? = some (.cells #[.slice a C.length cap, .int .i64 loops, .slice (some ⟨gF, 0, none⟩) (2 * C.length + 1) cF, .slice (some ⟨gT, 0, none⟩) (2 * C.length + 1) cT] 39 (0, 0)))
  clear hw0
  go_enter Try.func32, Try.ntmps32
  go_wp2_with (first | (at_make; refine wpList_make_full _ rfl _ _ 59 rfl (w.heap.size + 1) 4 i2 (.bool false) 1 Try.underlying59 hk hx0 hx1 .i64 .i64 _ _ (2 * C.length + 1) rfl rfl rfl rfl (by rw [hx2]; omega) (by unfold maxLen; omega) (by simp) ?_; intro w1 hrow hg1; refine Hid.out ?_))
  refine Lib.hid ?_
  rw [← HW0.out] at hrow hg1
  rw [made_false, hs0] at hrow
  have HK0 : Hid (WkAt w (w.heap.size + 1) (2 * C.length + 1) #[.slice a C.length cap, .int .i64 loops, .slice (some ⟨gF, 0, none⟩) (2 * C.length + 1) cF, .slice (some ⟨gT, 0, none⟩) (2 * C.length + 1) cT] 39 (2 * C.length) (walksTo (nx C) (2 * C.length) 0) (.slice none 0 0) [] w1) :=
    ⟨(hg1.block _ (by omega) (by simp)).trans HT0.out, hrow, rfl, World.ownsRow_nil _ _ _ _, fun j hj => absurd hj (Nat.not_lt_zero _), HB0.out.grown hg1 (by omega) (fun k hk => by cases hk)⟩
  clear hrow hg1 HT0 HB0 hs0 HW0
  go_wp2
  go_loopw [5, 7] (fun v3 v5 wr => ∃ (i j : Nat) (zs : List Value), i ≤ 2 * C.length ∧ Hid (j = i + 1) ∧ v5 = .int .i64 (j : Nat) ∧ WkAt w (w.heap.size + 1) (2 * C.length + 1) #[.slice a C.length cap, .int .i64 loops, .slice (some ⟨gF, 0, none⟩) (2 * C.length + 1) cF, .slice (some ⟨gT, 0, none⟩) (2 * C.length + 1) cT] 39 (2 * C.length) (walksTo (nx C) (2 * C.length) i) v3 zs wr) (fun _ v5 _ => 2 * C.length + 1 - (intOf v5).toNat)
  case atStart => exact ⟨0, 1, [], Nat.zero_le _, (rfl : 1 = 0 + 1), rfl, HK0.out⟩
  case round =>
    clear HK0
    rename World => W1
    obtain ⟨i, j0, zs, hin, hji, rfl, hk⟩ := hrel
    have b3 : W1.cell? ⟨w.heap.size, 3, none⟩ = some (.slice (some ⟨gT, 0, none⟩) (2 * C.length + 1) cT) := block_cell hk.box rfl
    have HK : Hid (WkAt w (w.heap.size + 1) (2 * C.length + 1) #[.slice a C.length cap, .int .i64 loops, .slice (some ⟨gF, 0, none⟩) (2 * C.length + 1) cF, .slice (some ⟨gT, 0, none⟩) (2 * C.length + 1) cT] 39 (2 * C.length) (walksTo (nx C) (2 * C.length) i) _ zs W1) := hk
    have hgS := hk.seen.lt (w.heap.size + 1) rfl
    have HSL : Hid ((walksTo (nx C) (2 * C.length) i).2.length = 2 * C.length + 1) := walksTo_len _ _ _
    have HCT : Hid ((walksTo (nx C) (2 * C.length) i).1.length ≤ i) := walksTo_count _ _ _
    by_cases hil : i < 2 * C.length
    · have hsd := hk.seen
      have hbl := hk.bel
      have hj1 : 1 ≤ j0 := by have := hji.out; omega
      have hj2 : j0 ≤ 2 * C.length := by have := hji.out; omega
      have hdj : decide ((j0 : Int) < 2 * (C.length : Int) + 1) = true := by simp; omega
      have hdj2 : decide (j0 < 2 * C.length + 1) = true := by simp; omega
      clear hk
      go_wp2
      go_loopw [8, 9] (fun v6 v7 ws => ∃ (f : Nat) (seen : List Bool) (x : Nat) (acc : List Nat), v7 = .int .i64 (x : Nat) ∧ 1 ≤ x ∧ x ≤ 2 * C.length ∧ Hid (walkF (nx C) (2 * C.length + 1) (walksTo (nx C) (2 * C.length) i).2 j0 [] = walkF (nx C) f seen x acc) ∧ Hid (unseen seen ≤ f) ∧ seen.length = 2 * C.length + 1 ∧ Hid (acc.length + unseen seen ≤ 2 * C.length + 1) ∧
          ws.ownsRow W1.heap.size 3 1 v6 acc.length (nats acc) ∧ ws.ownsRow (w.heap.size + 1) 4 1 (.slice (some ⟨w.heap.size + 1, 0, none⟩) (2 * C.length + 1) (2 * C.length + 1)) (2 * C.length + 1) (bools seen) ∧ W1.grownBy ws (some (w.heap.size + 1)) ∧ Below w.heap.size w ws) (fun v6 _ _ => 2 * C.length + 2 - lenOf v6)
      case atStart => exact ⟨2 * C.length + 1, (walksTo (nx C) (2 * C.length) i).2, j0, [], rfl, by omega, by omega, (rfl : walkF (nx C) (2 * C.length + 1) (walksTo (nx C) (2 * C.length) i).2 j0 [] = _), (by have := unseen_le (walksTo (nx C) (2 * C.length) i).2; rw [HSL.out] at this; exact this : unseen (walksTo (nx C) (2 * C.length) i).2 ≤ 2 * C.length + 1), HSL.out, (by have := unseen_le (walksTo (nx C) (2 * C.length) i).2; rw [HSL.out] at this; simpa using this : ([] : List Nat).length + unseen (walksTo (nx C) (2 * C.length) i).2 ≤ 2 * C.length + 1), World.ownsRow_nil _ _ _ _, hsd, World.grownBy.refl _ _, hbl⟩
      case round =>
        clear hsd hbl b3
        rename World => W3
        obtain ⟨f, seen, x, acc, rfl, hx1, hx2, hwk, hun, hsl, hac, hown, hsd, hgr, hbl⟩ := hrel
        obtain ⟨a6, c6, rfl⟩ := own_capS hown
        have e0 : W3.cell? ⟨w.heap.size + 1, x, none⟩ = some (.bool (seen.getD x true)) := by
          rw [hsd.cellAt x (by omega)]; exact bools_get seen x (by omega)
        have z0 : W3.frozen? ⟨w.heap.size + 1, x, none⟩ = false := hsd.frozenAt x
        have hszW := hgr.size
        cases hbit : seen.getD x true with
        | false =>
          rw [hbit] at e0
          have hst := hsd.stored x (.bool true)
          rw [bools_set] at hst
          have HSD : Hid ((W3.setCell ⟨w.heap.size + 1, x, none⟩ (.bool true)).ownsRow (w.heap.size + 1) 4 1 (.slice (some ⟨w.heap.size + 1, 0, none⟩) (2 * C.length + 1) (2 * C.length + 1)) (2 * C.length + 1) (bools (seen.set x true))) := hst.1
          have HGS : Hid (W3.grownBy (W3.setCell ⟨w.heap.size + 1, x, none⟩ (.bool true)) (some (w.heap.size + 1))) := hst.2
          have HOW : Hid ((W3.setCell ⟨w.heap.size + 1, x, none⟩ (.bool true)).ownsRow W1.heap.size 3 1 (.slice a6 acc.length c6) acc.length (nats acc)) := hown.kept hst.2 (own_ne hown hsd (by decide))
          have HWK : Hid (walkF (nx C) f seen x acc = walkF (nx C) (f - 1) (seen.set x true) (nx C x) (acc ++ [x]) ∧ unseen (seen.set x true) ≤ f - 1) := walkF_more hbit hun.out
          have HUS : Hid (unseen (seen.set x true) + 1 = unseen seen) := unseen_set hbit
          have hacl : acc.length < 2 * C.length + 1 := by have := hac.out; have := HUS.out; omega
          have hs3 : (W3.setCell ⟨w.heap.size + 1, x, none⟩ (.bool true)).heap.size = W3.heap.size := by simp
          have hlt3 : w.heap.size + 1 < W3.heap.size := by omega
          have HB3 : Hid (Below w.heap.size w (W3.setCell ⟨w.heap.size + 1, x, none⟩ (.bool true))) := hbl.grown hst.2 hbl.size (fun q hq => by have := Option.some.inj hq; omega)
          have HG3 : Hid (W1.grownBy (W3.setCell ⟨w.heap.size + 1, x, none⟩ (.bool true)) (some (w.heap.size + 1))) := grown_trans hgr hst.2
          have HX : Hid (1 ≤ nx C x ∧ nx C x ≤ 2 * C.length) := HNX.out x hx1 hx2
          clear hst hsd hown hgr hbl
          go_wp2_with (first
            | (at_builtin; refine wpList_append_own _ rfl _ _ 41 rfl W1.heap.size 3 i0 (.int .i64 0) 1 8 Try.underlying41 hi hz0 hz1 hz2 rfl (by decide) _ _ _ rfl (HOW.out.alloc _) ⟨W3.heap.size, 0, none⟩ 1 1 [.int .i64 (x : Nat)] rfl rfl (by rw [← hs3]; exact new_cell1 _ _ _) (int_one _) (by unfold maxLen; omega) (by omega) (by simp; omega) ?_; intro v8 w8 hown8 hg8 _; refine Hid.out ?_))
          refine Lib.hid ?_
          have HG8 : Hid (((W3.setCell ⟨w.heap.size + 1, x, none⟩ (.bool true)).alloc (.cells #[.int .i64 (x : Nat)] 3)).grownBy w8 (Value.slice a6 acc.length c6).ownBlock) := hg8
          have HO8 : Hid (w8.ownsRow W1.heap.size 3 1 v8 (acc ++ [x]).length (nats (acc ++ [x]))) := (by rw [List.length_append, nats_app]; exact hown8 : w8.ownsRow W1.heap.size 3 1 v8 (acc ++ [x]).length (nats (acc ++ [x])))
          have hA := HOW.out.alloc (.cells #[.int .i64 (x : Nat)] 3)
          have hS := HSD.out.alloc (.cells #[.int .i64 (x : Nat)] 3)
          have HS8 : Hid (w8.ownsRow (w.heap.size + 1) 4 1 (.slice (some ⟨w.heap.size + 1, 0, none⟩) (2 * C.length + 1) (2 * C.length + 1)) (2 * C.length + 1) (bools (seen.set x true))) := hS.kept HG8.out (own_ne hS hA (by decide))
          have HG18 : Hid (W1.grownBy w8 (some (w.heap.size + 1))) := grown_new (grown_trans HG3.out (grown_none (World.grownBy_alloc _ _ none))) HG8.out (fun q hq => (hA.lt q hq).1)
          have HB8 : Hid (Below w.heap.size w w8) := (HB3.out.alloc (by rw [hs3]; omega) _).grown HG8.out (by simp; omega) (fun q hq => by have := (hA.lt q hq).1; omega)
          have HX8 : Hid (w8.heap[w.heap.size]? = some (.cells #[.slice a C.length cap, .int .i64 loops, .slice (some ⟨gF, 0, none⟩) (2 * C.length + 1) cF, .slice (some ⟨gT, 0, none⟩) (2 * C.length + 1) cT] 39 (0, 0))) := (HG18.out.block _ (by omega) (fun e => by have := Option.some.inj e; omega)).trans HK.out.box
          have HD8 : Hid (Dr w8 a cap C gF gT) := HD.out.on HB8.out
          clear hA hS hg8 hown8 e0 z0
          go_wp2_with (go_at_call 33; refine (ahead_any a cap C loops gF cF gT cT x _ HM.out hx1 hx2 HD8.out).mono ?_; rintro e9 w9 ⟨rfl, hb9⟩; refine Hid.out ?_)
          refine Lib.hid ?_
          have HB9 : Hid (Below w8.heap.size w8 w9) := hb9
          clear hb9
          obtain ⟨hn1, hn2⟩ := HX.out
          obtain ⟨y, hy⟩ : ∃ y, nx C x = y := ⟨_, rfl⟩
          rw [hy] at hn1 hn2 HWK ⊢
          have hg9 : w8.grownBy w9 none := grown_below HB9.out none
          go_wp2
          go_roundw
          case rel => exact ⟨f - 1, seen.set x true, y, acc ++ [x], rfl, hn1, hn2, (hwk.out.trans HWK.out.1 : walkF (nx C) (2 * C.length + 1) (walksTo (nx C) (2 * C.length) i).2 j0 [] = _), HWK.out.2, by simpa using hsl, (by have := hac.out; have := HUS.out; rw [List.length_append]; simp only [List.length_cons, List.length_nil]; omega : (acc ++ [x]).length + unseen (seen.set x true) ≤ 2 * C.length + 1), own_any HO8.out hg9, own_any HS8.out hg9, grown_new HG18.out hg9 (fun q hq => by cases hq), HB8.out.trans (HB9.out.mono HB8.out.size)⟩
          case measure =>
            obtain ⟨a8, c8, e8⟩ := own_capS HO8.out
            rw [e8]
            simp only [lenOf, List.length_append, List.length_cons, List.length_nil]
            omega
        | true =>
          rw [hbit] at e0
          have HWT : Hid (walksTo (nx C) (2 * C.length) (i + 1) = (if acc = [] then (walksTo (nx C) (2 * C.length) i).1 else (walksTo (nx C) (2 * C.length) i).1 ++ [acc], seen)) := walksTo_next (by rw [← hji.out]; exact hwk.out.trans (walkF_seen hbit))
          have hlz : zs.length ≤ i := by rw [HK.out.len]; exact HCT.out
          have HX3 : Hid (W3.heap[w.heap.size]? = some (.cells #[.slice a C.length cap, .int .i64 loops, .slice (some ⟨gF, 0, none⟩) (2 * C.length + 1) cF, .slice (some ⟨gT, 0, none⟩) (2 * C.length + 1) cT] 39 (0, 0))) := (hgr.block _ (by omega) (fun e => by have := Option.some.inj e; omega)).trans HK.out.box
          have hrows := HK.out.rows.kept hgr (own_ne HK.out.rows HK.out.seen (by decide))
          have HEA : Hid (∀ j, j < zs.length → W3.ownsRow (w.heap.size + 1) 3 1 (zs.getD j (.bool false)) ((walksTo (nx C) (2 * C.length) i).1.getD j []).length (nats ((walksTo (nx C) (2 * C.length) i).1.getD j []))) := fun j hj => (HK.out.each j hj).kept hgr (own_ne (HK.out.each j hj) HK.out.seen (by decide))
          have hlen := HK.out.len
          by_cases hz : acc = []
          · subst hz
            rw [if_pos rfl] at HWT
            go_wp2
            go_roundw
            case rel =>
              refine ⟨i + 1, j0 + 1, zs, by omega, (by have := hji.out; omega : j0 + 1 = i + 1 + 1), by go_num, ?_⟩
              rw [HWT.out]
              exact ⟨HX3.out, hsd, hlen, hrows, HEA.out, hbl⟩
            case measure => simp only [intOf]; omega
          · rw [if_neg hz] at HWT
            have hpos : 0 < acc.length := List.length_pos_iff.2 hz
            have HON : Hid (∀ u ∈ [Value.slice a6 acc.length c6], u.oneCell' = true) := own_oneS hown
            have HRW : Hid (W3.ownsRow (w.heap.size + 1) 41 1 _ zs.length zs) := hrows
            have HOW : Hid (W3.ownsRow (w.heap.size + 1) 3 1 (.slice a6 acc.length c6) acc.length (nats acc)) := own_low hown (by omega)
            have HSD : Hid (W3.ownsRow (w.heap.size + 1) 4 1 (.slice (some ⟨w.heap.size + 1, 0, none⟩) (2 * C.length + 1) (2 * C.length + 1)) (2 * C.length + 1) (bools seen)) := hsd
            have HBL : Hid (Below w.heap.size w W3) := hbl
            clear hrows hown hsd hbl
            have hdp : decide (0 < (acc.length : Int)) = true := by simp; omega
            have hdp2 : decide (0 < acc.length) = true := by simp; omega
            go_wp2_with (first
              | (at_builtin; refine wpList_append_own _ rfl _ _ 30 rfl (w.heap.size + 1) 41 i1 (.slice none 0 0) 1 24 Try.underlying30 hj hy0 hy1 hy2 rfl (by decide) _ _ _ rfl (HRW.out.alloc _) ⟨W3.heap.size, 0, none⟩ 1 1 [Value.slice a6 acc.length c6] rfl rfl (new_cell1 _ _ _) HON.out (by unfold maxLen; omega) (by omega) (by simp; omega) ?_; intro v8 w8 hown8 hg8 _; go_frame))
            go_roundw
            case rel =>
              have hR := HRW.out.alloc (.cells #[Value.slice a6 acc.length c6] 41)
              have hO := HOW.out.alloc (.cells #[Value.slice a6 acc.length c6] 41)
              have hS := HSD.out.alloc (.cells #[Value.slice a6 acc.length c6] 41)
              refine ⟨i + 1, j0 + 1, zs ++ [Value.slice a6 acc.length c6], by omega, (by have := hji.out; omega : j0 + 1 = i + 1 + 1), by go_num, ?_⟩
              rw [HWT.out]
              refine ⟨?_, hS.kept hg8 (own_ne hS hR (by decide)), by simp [hlen], by rw [List.length_append]; exact hown8, fun j hjl => ?_, (HBL.out.alloc (by omega) _).grown hg8 (by simp; omega) (fun q hq => by have := (hR.lt q hq).1; omega)⟩
              · refine (hg8.block _ (by simp; omega) (fun e => by have := (hR.lt _ e.symm).1; omega)).trans (alloc_old HX3.out)
              · by_cases hjk : j < zs.length
                · have e1 : ((walksTo (nx C) (2 * C.length) i).1 ++ [acc]).getD j [] = (walksTo (nx C) (2 * C.length) i).1.getD j [] := by rw [List.getD_eq_getElem?_getD, List.getD_eq_getElem?_getD, List.getElem?_append_left (by omega)]
                  rw [getD_left zs _ j hjk, e1]
                  have h1 := (HEA.out j hjk).alloc (.cells #[Value.slice a6 acc.length c6] 41)
                  exact h1.kept hg8 (own_ne h1 hR (by decide))
                · have ej : j = zs.length := by simp at hjl; omega
                  have e1 : ((walksTo (nx C) (2 * C.length) i).1 ++ [acc]).getD j [] = acc := by rw [ej, hlen]; simp [List.getD]
                  have e2 : (zs ++ [Value.slice a6 acc.length c6]).getD j (.bool false) = Value.slice a6 acc.length c6 := by rw [ej]; exact getD_last zs _
                  rw [e1, e2]
                  exact hO.kept hg8 (own_ne hO hR (by decide))
            case measure => simp only [intOf]; omega
    · obtain rfl : i = 2 * C.length := by omega
      obtain rfl : j0 = 2 * C.length + 1 := hji.out
      go_wp2
      go_ret
      exact ⟨_, rfl, ⟨zs, by rw [HWM.out]; exact HK.out.len, own_low HK.out.rows (by omega), fun j hj => by rw [HWM.out] at hj ⊢; exact own_low (HK.out.each j (by rw [HK.out.len]; exact hj)) (by omega)⟩, HK.out.bel⟩

set_option maxHeartbeats 4000000 in
set_option maxRecDepth 100000 in
theorem walks_any (a : Option Addr) (cap : Nat) (C : List Cr) (loops : Int) (gF cF gT cT : Nat) (w : World) (hm : mayD C loops = true) (hD : Dr w a cap C gF gT) :
    Calls Try.prog 16 #[drV a cap C loops gF cF gT cT] w fun e w' => ∃ v, e = .returned v ∧ NatsOwn w' w.heap.size v (walksM C) ∧ Below w.heap.size w w' := by
  have hmf : ∀ (fn : Fn) (first cap : Array Value) (w : World), (Instr.makeFunc fn first cap).run Try.prog w = .ok (.func fn first cap) w := fun _ _ _ _ => rfl
  have HM : Hid (mayD C loops = true) := hm
  have HB0 : Hid (Below w.heap.size w (w.alloc (.cells #[.slice a C.length cap, .int .i64 loops, .slice (some ⟨gF, 0, none⟩) (2 * C.length + 1) cF, .slice (some ⟨gT, 0, none⟩) (2 * C.length + 1) cT] 39))) := (Below.refl _ _).alloc (Nat.le_refl _) _
  have HD : Hid (Dr (w.alloc (.cells #[.slice a C.length cap, .int .i64 loops, .slice (some ⟨gF, 0, none⟩) (2 * C.length + 1) cF, .slice (some ⟨gT, 0, none⟩) (2 * C.length + 1) cT] 39)) a cap C gF gT) := hD.on HB0.out
  clear hm hD
  unfold drV
  go_enter Try.func16, Try.ntmps16
  go_wp2_with (go_at_call 32; refine (arcRings_ahead a cap C loops gF cF gT cT _ HM.out HD.out).mono ?_; rintro e9 w4 ⟨v, rfl, hn4, hb4⟩)
  go_ret
  exact ⟨v, rfl, hn4.low (by simp), HB0.out.trans (hb4.mono (by simp))⟩
end Go.Proofs.Ytlcogbcpmneknaa
/- The walks of ref.DiagramOf and gauss.Strands; rows that are the same. -/
namespace Go.Proofs.Ytlcogbcpmneknaa
open Go.RowKit

/-- The crossings as cells, one behind the other. -/
def crossCells (C : List Cr) : List Value := C.flatMap fun x => [.int .i64 x.a, .int .i64 x.b, .int .i64 x.c, .int .i64 x.d, .bool x.plus]
theorem cells_length (C : List Cr) : (crossCells C).length = C.length * 5 := by
  induction C with
  | nil => rfl
  | cons t l ih => simp [crossCells] at *; omega
theorem cells_get (C : List Cr) (i : Nat) (hi : i < C.length) : (crossCells C)[i * 5]? = some (.int .i64 (C.getD i Cr.none).a) ∧ (crossCells C)[i * 5 + 1]? = some (.int .i64 (C.getD i Cr.none).b) ∧ (crossCells C)[i * 5 + 2]? = some (.int .i64 (C.getD i Cr.none).c) ∧ (crossCells C)[i * 5 + 3]? = some (.int .i64 (C.getD i Cr.none).d) ∧ (crossCells C)[i * 5 + 4]? = some (.bool (C.getD i Cr.none).plus) := by
  induction C generalizing i with
  | nil => simp at hi
  | cons t l ih =>
    have e : crossCells (t :: l) = .int .i64 t.a :: .int .i64 t.b :: .int .i64 t.c :: .int .i64 t.d :: .bool t.plus :: crossCells l := rfl
    cases i with
    | zero => rw [e]; exact ⟨rfl, rfl, rfl, rfl, rfl⟩
    | succ i =>
      have := ih i (by simpa using hi)
      have e1 : (i + 1) * 5 = i * 5 + 1 + 1 + 1 + 1 + 1 := by omega
      rw [e, e1]
      exact this
theorem cells_one (C : List Cr) : ∀ u ∈ crossCells C, u.oneCell' = true := by
  intro u hu
  simp only [crossCells, List.mem_flatMap] at hu
  obtain ⟨t, _, ht⟩ := hu
  simp at ht
  rcases ht with rfl | rfl | rfl | rfl | rfl <;> rfl
theorem cells_at {w : World} {b off : Nat} {C : List Cr} (h : CrossAt w b off C) : ∀ j u, (crossCells C)[j]? = some u → w.cell? ((⟨b, off, none⟩ : Addr).add j) = some u := by
  intro j u hj
  have hlt : j < (crossCells C).length := by
    rcases Nat.lt_or_ge j (crossCells C).length with h | h
    · exact h
    · rw [List.getElem?_eq_none h] at hj; cases hj
  rw [cells_length] at hlt
  have hi : j / 5 < C.length := by omega
  have g := cells_get C (j / 5) hi
  have c := h (j / 5) hi
  rw [Addr.add_lit]
  have h5 : j % 5 = 0 ∨ j % 5 = 1 ∨ j % 5 = 2 ∨ j % 5 = 3 ∨ j % 5 = 4 := by omega
  rcases h5 with e | e | e | e | e
  · rw [show j / 5 * 5 = j by omega] at g c
    rw [g.1] at hj
    rw [← hj]
    exact c.1
  · rw [show j / 5 * 5 + 1 = j by omega] at g
    rw [show off + j / 5 * 5 + 1 = off + j by omega] at c
    rw [g.2.1] at hj
    rw [← hj]
    exact c.2.1
  · rw [show j / 5 * 5 + 2 = j by omega] at g
    rw [show off + j / 5 * 5 + 2 = off + j by omega] at c
    rw [g.2.2.1] at hj
    rw [← hj]
    exact c.2.2.1
  · rw [show j / 5 * 5 + 3 = j by omega] at g
    rw [show off + j / 5 * 5 + 3 = off + j by omega] at c
    rw [g.2.2.2.1] at hj
    rw [← hj]
    exact c.2.2.2.1
  · rw [show j / 5 * 5 + 4 = j by omega] at g
    rw [show off + j / 5 * 5 + 4 = off + j by omega] at c
    rw [g.2.2.2.2] at hj
    rw [← hj]
    exact c.2.2.2.2
theorem crs_own {w : World} {B e : Nat} {v : Value} {C : List Cr} (h : w.ownsRow B e 5 v C.length (crossCells C)) (hn : C.length ≤ maxLen) : Crs w w.heap.size v C := by
  have h0 := h
  rcases h.2 with ⟨rfl, h1⟩ | ⟨g, cap, cur, rfl, _, _, _⟩
  · exact ⟨none, 0, by rw [h1], hn, fun hp => by omega⟩
  · refine ⟨some ⟨g, 0, none⟩, cap, rfl, hn, fun _ => ⟨g, 0, rfl, (h0.lt g rfl).2, fun i hi => ?_⟩⟩
    have g0 := cells_get C i hi
    rw [Nat.zero_add]
    exact ⟨(h0.cellAt (i * 5) (by omega)).trans g0.1, (h0.cellAt (i * 5 + 1) (by omega)).trans g0.2.1, (h0.cellAt (i * 5 + 2) (by omega)).trans g0.2.2.1, (h0.cellAt (i * 5 + 3) (by omega)).trans g0.2.2.2.1, (h0.cellAt (i * 5 + 4) (by omega)).trans g0.2.2.2.2⟩
/-- A slice of crossings as it is handed in. -/
def CrsW (w : World) (B : Nat) (v : Value) (C : List Cr) : Prop :=
  (v = .slice none 0 0 ∧ C = []) ∨ (∃ ad cap, v = .slice (some ad) 0 cap ∧ C = []) ∨ ∃ b off cap, v = .slice (some ⟨b, off, none⟩) C.length cap ∧ b < B ∧ CrossAt w b off C
theorem CrsW.crs {w : World} {B : Nat} {v : Value} {C : List Cr} (h : CrsW w B v C) (hn : C.length ≤ maxLen) : Crs w B v C := by
  rcases h with ⟨rfl, rfl⟩ | ⟨ad, cap, rfl, rfl⟩ | ⟨b, off, cap, rfl, hlt, hC⟩
  · exact ⟨none, 0, rfl, hn, fun hp => by simp at hp⟩
  · exact ⟨some ad, cap, rfl, hn, fun hp => by simp at hp⟩
  · exact ⟨some ⟨b, off, none⟩, cap, rfl, hn, fun _ => ⟨b, off, rfl, hlt, hC⟩⟩
theorem CrsW.up {w w' : World} {v : Value} {C : List Cr} (h : CrsW w w.heap.size v C) (hb : Below w.heap.size w w') : CrsW w' w'.heap.size v C := by
  rcases h with h | h | ⟨b, off, cap, hv, hlt, hC⟩
  · exact Or.inl h
  · exact Or.inr (Or.inl h)
  · exact Or.inr (Or.inr ⟨b, off, cap, hv, Nat.lt_of_lt_of_le hlt hb.size, hC.on hb hlt⟩)
theorem infoCross : (Try.prog.info? 58).map (fun i => (i.zero, i.size, i.bytes)) = some (some (.agg #[.int .i64 0, .int .i64 0, .int .i64 0, .int .i64 0, .bool false]), 5, 40) := by kernel_rfl

set_option maxHeartbeats 2000000 in
set_option maxRecDepth 100000 in
theorem diagramOf_any (v : Value) (C : List Cr) (loops : Int) (w : World) (hl : C.length * 40 ≤ 140737488355328) (h : CrsW w w.heap.size v C) :
    Calls Try.prog 5 #[.agg #[v, .int .i64 loops]] w fun e w' => ∃ v', e = .returned (.agg #[v', .int .i64 loops]) ∧ Crs w' w'.heap.size v' C ∧ Below w.heap.size w w' := by
  obtain ⟨i0, hi, hz0, hz1, hz2⟩ := info_parts infoCross
  have hm : C.length ≤ maxLen := by unfold maxLen; omega
  obtain ⟨w0, hw0⟩ : ∃ w0, w0 = (w.alloc (.cells #[v, .int .i64 loops] 24)).alloc (.cells #[.slice none 0 0, .int .i64 0] 24) := ⟨_, rfl⟩
  have HW0 : Hid (w0 = (w.alloc (.cells #[v, .int .i64 loops] 24)).alloc (.cells #[.slice none 0 0, .int .i64 0] 24)) := hw0
  have hs0 : w0.heap.size = w.heap.size + 2 := by rw [hw0]; simp
  have HB0 : Hid (Below w.heap.size w w0) := (by rw [hw0]; exact below2 _ _ _ : Below w.heap.size w w0)
  clear hw0
  rcases h with ⟨rfl, rfl⟩ | ⟨ad, cap, rfl, rfl⟩ | ⟨b, off, cap, rfl, hlt, hC⟩
  · go_enter Try.func5, Try.ntmps5
    go_wp2_with (at_builtin; refine wpList_append_own_none rfl _ _ 22 rfl w.heap.size 58 i0 5 Try.underlying22 hi _ 0 [] rfl (World.ownsRow_nil _ _ _ _) rfl ?_)
    exact bodyPost_ret (v := .agg #[.slice none 0 0, .int .i64 loops]) (by simp [results, Try.results5, go_sem]) rfl ⟨_, rfl, ⟨none, 0, rfl, hm, fun hp => by simp at hp⟩, below2 _ _ _⟩
  · have c0 : w0.heap[w.heap.size]? = some (.cells #[.slice (some ad) 0 cap, .int .i64 loops] 24 (0, 0)) := by rw [HW0.out]; exact alloc_old (alloc_at rfl)
    have c1 : w0.heap[w.heap.size + 1]? = some (.cells #[.slice none 0 0, .int .i64 0] 24 (0, 0)) := by rw [HW0.out]; exact alloc_at (by simp)
    have HC0 : Hid (w0.heap[w.heap.size]? = some (.cells #[.slice (some ad) 0 cap, .int .i64 loops] 24 (0, 0))) := c0
    have HC1 : Hid (w0.heap[w.heap.size + 1]? = some (.cells #[.slice none 0 0, .int .i64 0] 24 (0, 0))) := c1
    clear c0 c1
    go_enter Try.func5, Try.ntmps5
    go_wp2_with (at_builtin; refine wpList_append_own _ rfl _ _ 22 rfl (w.heap.size + 2) 58 i0 (.agg #[.int .i64 0, .int .i64 0, .int .i64 0, .int .i64 0, .bool false]) 5 40 Try.underlying22 hi hz0 hz1 hz2 rfl (by decide) _ 0 [] rfl (World.ownsRow_nil _ _ _ _) ad 0 cap [] rfl rfl (fun j u h => by simp at h) (fun u h => by simp at h) (by decide) (by decide) (by simp) ?_; intro v' w1 hown hgr _; refine Hid.out ?_)
    refine Lib.hid ?_
    rw [← HW0.out] at hgr
    have HGR : Hid (w0.grownBy w1 none) := hgr
    have HOW : Hid (w1.ownsRow (w.heap.size + 2) 58 5 v' (0 + 0) ([] ++ [])) := hown
    obtain ⟨a', c', rfl⟩ := own_capS hown
    have hs1 := hgr.size
    clear hown hgr
    have hg0 := (HGR.out.block _ (by omega) (by simp)).trans HC0.out
    have hg1 := (HGR.out.block _ (by omega) (by simp)).trans HC1.out
    have p0 : w1.cell? ⟨w.heap.size, 0, none⟩ = some (.slice (some ad) 0 cap) := block_cell hg0 rfl
    have p1 : w1.cell? ⟨w.heap.size, 1, none⟩ = some (.int .i64 loops) := block_cell hg0 rfl
    have p2 : w1.cell? ⟨w.heap.size + 1, 0, none⟩ = some (.slice none 0 0) := block_cell hg1 rfl
    have p3 : w1.cell? ⟨w.heap.size + 1, 1, none⟩ = some (.int .i64 0) := block_cell hg1 rfl
    have f0 : w1.frozen? ⟨w.heap.size, 0, none⟩ = false := block_frozen hg0
    have f2 : w1.frozen? ⟨w.heap.size + 1, 0, none⟩ = false := block_frozen hg1
    have f3 : w1.frozen? ⟨w.heap.size + 1, 1, none⟩ = false := block_frozen hg1
    have HG1 : Hid (w1.heap[w.heap.size + 1]? = some (.cells #[.slice none 0 0, .int .i64 0] 24 (0, 0))) := hg1
    clear hg0 hg1
    go_wp2
    have hq0 := ((set_grown w1 w.heap.size 0 (.slice a' 0 c')).block (w.heap.size + 1) (by omega) (fun e => by have := Option.some.inj e; omega)).trans HG1.out
    have hq := set_block (i := 1) (u := .int .i64 loops) (set_block (i := 0) (u := .slice a' 0 c') hq0)
    have x0 := block_cell (i := 0) (v := .slice a' 0 c') hq rfl
    have x1 := block_cell (i := 1) (v := .int .i64 loops) hq rfl
    have hk1 := HOW.out.kept (set_grown w1 w.heap.size 0 (.slice a' 0 c')) (by rcases HOW.out.2 with ⟨e, _⟩ | ⟨g, cp, cu, e, hg, _⟩ <;> injection e with e1 e2 e3 <;> subst e1 <;> first | exact Or.inl rfl | (refine Or.inr (fun e => ?_); have : g = w.heap.size := Option.some.inj e; omega))
    have hk2 := hk1.kept (st2_grown (w1.setCell ⟨w.heap.size, 0, none⟩ (.slice a' 0 c')) (w.heap.size + 1) 0 (.slice a' 0 c') (.int .i64 loops)) (by rcases HOW.out.2 with ⟨e, _⟩ | ⟨g, cp, cu, e, hg, _⟩ <;> injection e with e1 e2 e3 <;> subst e1 <;> first | exact Or.inl rfl | (refine Or.inr (fun e => ?_); have : g = w.heap.size + 1 := Option.some.inj e; omega))
    refine bodyPost_ret (v := .agg #[.slice a' 0 c', .int .i64 loops]) (by simp [results, Try.results5, go_sem, x0, x1]) rfl ⟨_, rfl, ?_, ?_⟩
    · rw [Nat.zero_add, List.nil_append] at hk2
      exact crs_own (C := []) hk2 hm
    · exact ((HB0.out.grown HGR.out (by omega) (fun k hk => by cases hk)).grown (set_grown w1 w.heap.size 0 (.slice a' 0 c')) (by omega) (fun k hk => by have := Option.some.inj hk; omega)).grown (st2_grown (w1.setCell ⟨w.heap.size, 0, none⟩ (.slice a' 0 c')) (w.heap.size + 1) 0 (.slice a' 0 c') (.int .i64 loops)) (by simp; omega) (fun k hk => by have := Option.some.inj hk; omega)
  · have c0 : w0.heap[w.heap.size]? = some (.cells #[.slice (some ⟨b, off, none⟩) C.length cap, .int .i64 loops] 24 (0, 0)) := by rw [HW0.out]; exact alloc_old (alloc_at rfl)
    have c1 : w0.heap[w.heap.size + 1]? = some (.cells #[.slice none 0 0, .int .i64 0] 24 (0, 0)) := by rw [HW0.out]; exact alloc_at (by simp)
    have HC0 : Hid (w0.heap[w.heap.size]? = some (.cells #[.slice (some ⟨b, off, none⟩) C.length cap, .int .i64 loops] 24 (0, 0))) := c0
    have HC1 : Hid (w0.heap[w.heap.size + 1]? = some (.cells #[.slice none 0 0, .int .i64 0] 24 (0, 0))) := c1
    clear c0 c1
    have HCA : Hid (CrossAt ((w.alloc (.cells #[.slice (some ⟨b, off, none⟩) C.length cap, .int .i64 loops] 24)).alloc (.cells #[.slice none 0 0, .int .i64 0] 24)) b off C) := hC.on (below2 _ _ _) hlt
    clear hC
    go_enter Try.func5, Try.ntmps5
    go_wp2_with (at_builtin; refine wpList_append_own _ rfl _ _ 22 rfl (w.heap.size + 2) 58 i0 (.agg #[.int .i64 0, .int .i64 0, .int .i64 0, .int .i64 0, .bool false]) 5 40 Try.underlying22 hi hz0 hz1 hz2 rfl (by decide) _ 0 [] rfl (World.ownsRow_nil _ _ _ _) ⟨b, off, none⟩ C.length cap (crossCells C) rfl (cells_length C) (cells_at HCA.out) (cells_one C) (by unfold maxLen; omega) (by omega) (by simp) ?_; intro v' w1 hown hgr _; refine Hid.out ?_)
    refine Lib.hid ?_
    rw [← HW0.out] at hgr
    have HGR : Hid (w0.grownBy w1 none) := hgr
    have HOW : Hid (w1.ownsRow (w.heap.size + 2) 58 5 v' (0 + C.length) ([] ++ (crossCells C))) := hown
    obtain ⟨a', c', rfl⟩ := own_capS hown
    have hs1 := hgr.size
    clear hown hgr
    have hg0 := (HGR.out.block _ (by omega) (by simp)).trans HC0.out
    have hg1 := (HGR.out.block _ (by omega) (by simp)).trans HC1.out
    have p0 : w1.cell? ⟨w.heap.size, 0, none⟩ = some (.slice (some ⟨b, off, none⟩) C.length cap) := block_cell hg0 rfl
    have p1 : w1.cell? ⟨w.heap.size, 1, none⟩ = some (.int .i64 loops) := block_cell hg0 rfl
    have p2 : w1.cell? ⟨w.heap.size + 1, 0, none⟩ = some (.slice none 0 0) := block_cell hg1 rfl
    have p3 : w1.cell? ⟨w.heap.size + 1, 1, none⟩ = some (.int .i64 0) := block_cell hg1 rfl
    have f0 : w1.frozen? ⟨w.heap.size, 0, none⟩ = false := block_frozen hg0
    have f2 : w1.frozen? ⟨w.heap.size + 1, 0, none⟩ = false := block_frozen hg1
    have f3 : w1.frozen? ⟨w.heap.size + 1, 1, none⟩ = false := block_frozen hg1
    have HG1 : Hid (w1.heap[w.heap.size + 1]? = some (.cells #[.slice none 0 0, .int .i64 0] 24 (0, 0))) := hg1
    clear hg0 hg1
    go_wp2
    have hq0 := ((set_grown w1 w.heap.size 0 (.slice a' C.length c')).block (w.heap.size + 1) (by omega) (fun e => by have := Option.some.inj e; omega)).trans HG1.out
    have hq := set_block (i := 1) (u := .int .i64 loops) (set_block (i := 0) (u := .slice a' C.length c') hq0)
    have x0 := block_cell (i := 0) (v := .slice a' C.length c') hq rfl
    have x1 := block_cell (i := 1) (v := .int .i64 loops) hq rfl
    have hk1 := HOW.out.kept (set_grown w1 w.heap.size 0 (.slice a' C.length c')) (by rcases HOW.out.2 with ⟨e, _⟩ | ⟨g, cp, cu, e, hg, _⟩ <;> injection e with e1 e2 e3 <;> subst e1 <;> first | exact Or.inl rfl | (refine Or.inr (fun e => ?_); have : g = w.heap.size := Option.some.inj e; omega))
    have hk2 := hk1.kept (st2_grown (w1.setCell ⟨w.heap.size, 0, none⟩ (.slice a' C.length c')) (w.heap.size + 1) 0 (.slice a' C.length c') (.int .i64 loops)) (by rcases HOW.out.2 with ⟨e, _⟩ | ⟨g, cp, cu, e, hg, _⟩ <;> injection e with e1 e2 e3 <;> subst e1 <;> first | exact Or.inl rfl | (refine Or.inr (fun e => ?_); have : g = w.heap.size + 1 := Option.some.inj e; omega))
    refine bodyPost_ret (v := .agg #[.slice a' C.length c', .int .i64 loops]) (by simp [results, Try.results5, go_sem, x0, x1]) rfl ⟨_, rfl, ?_, ?_⟩
    · rw [Nat.zero_add, List.nil_append] at hk2
      exact crs_own (C := C) hk2 hm
    · exact ((HB0.out.grown HGR.out (by omega) (fun k hk => by cases hk)).grown (set_grown w1 w.heap.size 0 (.slice a' C.length c')) (by omega) (fun k hk => by have := Option.some.inj hk; omega)).grown (st2_grown (w1.setCell ⟨w.heap.size, 0, none⟩ (.slice a' C.length c')) (w.heap.size + 1) 0 (.slice a' C.length c') (.int .i64 loops)) (by simp; omega) (fun k hk => by have := Option.some.inj hk; omega)

theorem own_terms {w : World} {B e n g c : Nat} {l : List (Int × Int)} (h : w.ownsRow B e 2 (.slice (some ⟨g, 0, none⟩) n c) n (flat l)) (hl : l.length = n) : TermsAt w g 0 l := by
  intro i hi
  have g0 := flat_get l i hi
  rw [Nat.zero_add]
  exact ⟨(h.cellAt (i * 2) (by omega)).trans g0.1, (h.cellAt (i * 2 + 1) (by omega)).trans g0.2⟩
/-- What drawing.Of answered is a drawing. -/
theorem Drawn.dr {w w' : World} {a : Option Addr} {cap : Nat} {loops : Int} {C : List Cr} {D : Value} (h : Drawn w w' w.heap.size (.slice a C.length cap) loops C D) (hm : mayD C loops = true) (hb : Below w.heap.size w w') (hC : Crs w w.heap.size (.slice a C.length cap) C) :
    ∃ gF cF gT cT, D = drV a cap C loops gF cF gT cT ∧ Dr w' a cap C gF gT := by
  obtain ⟨gF, cF, gT, cT, rfl, h1, h2⟩ := h.yes hm
  exact ⟨gF, cF, gT, cT, rfl, hC.up hb, (h1.lt gF rfl).2, (h2.lt gT rfl).2, own_terms h1 (ends_length _ _ _ _), own_terms h2 (ends_length _ _ _ _)⟩

end Go.Proofs.Ytlcogbcpmneknaa

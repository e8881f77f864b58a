/- Several texts of the proof, one behind the other. -/
import Derived.RangeFuncNested
import Derived.RangeFuncBound
import Derived.RangeFuncCalls
import Derived.RangeFuncLeaves
import Derived.Shelf.Abstract
import Derived.Shelf.RegionOpen
import Derived.WalkKit
import Derived.OwnWalkIn
import Derived.TacticsInMore
import Derived.LoopNIn
import Derived.LoopIn
import Derived.Test.YtlcogbcpmneknaaF2P
import Derived.Deep.RegionHeld3
/- The iterator of Drawing.Darts. -/
namespace Go.Proofs.Ytlcogbcpmneknaa
open Go.RowKit Go.Shelf
attribute [local go_sem] Oper.semAt_some

/-- The darts of a drawing of m crossings. -/
abbrev DN (m : Nat) := { j : Nat // 1 ≤ j ∧ j ≤ 4 * m }
def dl (m k : Nat) : List (DN m) := (List.range (2 * k)).filterMap fun i => if h : i + 1 ≤ 4 * m then some ⟨i + 1, by omega, h⟩ else none
theorem dl_next (m k : Nat) (h1 : 1 ≤ 2 * k + 1 ∧ 2 * k + 1 ≤ 4 * m) (h2 : 1 ≤ 2 * k + 2 ∧ 2 * k + 2 ≤ 4 * m) : dl m (k + 1) = (dl m k ++ [⟨2 * k + 1, h1⟩]) ++ [⟨2 * k + 2, h2⟩] := by
  unfold dl
  rw [show 2 * (k + 1) = 2 * k + 1 + 1 by omega, List.range_succ, List.range_succ, List.filterMap_append, List.filterMap_append]
  congr 1
  · congr 1
    simp only [List.filterMap_cons, List.filterMap_nil]
    rw [dif_pos h1.2]
  · simp only [List.filterMap_cons, List.filterMap_nil]
    rw [dif_pos h2.2]
theorem dl_len (m k : Nat) (hk : k ≤ 2 * m) : (dl m k).length = 2 * k := by
  induction k with
  | zero => rfl
  | succ k ih => rw [dl_next m k (by omega) (by omega)]; simp [ih (by omega)]; omega
theorem dl_val (m k : Nat) (hk : k ≤ 2 * m) : (dl m k).map (fun x => x.1) = (List.range (2 * k)).map (· + 1) := by
  induction k with
  | zero => rfl
  | succ k ih =>
    rw [dl_next m k (by omega) (by omega), show 2 * (k + 1) = 2 * k + 1 + 1 by omega, List.range_succ, List.range_succ]
    simp [ih (by omega)]
def encD {m : Nat} (x : DN m) : Array Value := #[.agg #[.int .i64 (dA x.1 : Nat), .bool (dB x.1)]]
theorem enc1 {m k : Nat} (h : 1 ≤ 2 * k + 1 ∧ 2 * k + 1 ≤ 4 * m) : encD (⟨2 * k + 1, h⟩ : DN m) = #[.agg #[.int .i64 ((k : Int) + 1), .bool false]] := by
  have e1 : dA (2 * k + 1) = k + 1 := by unfold dA; omega
  have e2 : dB (2 * k + 1) = false := by unfold dB; simp
  simp only [encD, e1, e2]
  simp
theorem enc2 {m k : Nat} (h : 1 ≤ 2 * k + 2 ∧ 2 * k + 2 ≤ 4 * m) : encD (⟨2 * k + 2, h⟩ : DN m) = #[.agg #[.int .i64 ((k : Int) + 1), .bool true]] := by
  have e1 : dA (2 * k + 2) = k + 1 := by unfold dA; omega
  have e2 : dB (2 * k + 2) = true := by unfold dB; simp
  simp only [encD, e1, e2]
  simp

set_option maxRecDepth 100000 in
set_option maxHeartbeats 4000000 in
theorem darts1_in (m : Nat) (hm16 : m ≤ 16) (n : Nat) (hn : 1 ≤ n) (l Bn gT cT : Nat) (J Jx : List (DN m) → World → Prop)
    (hY : ∀ pre x W, J pre W → pre.length < 4 * m → YieldAt Fence.wide (n - 1) Try.prog l (encD x) W fun e W' =>
      (e = .returned (.bool true) ∧ J (pre ++ [x]) W' ∧ W'.heap[Bn]? = W.heap[Bn]?) ∨ (e = .returned (.bool false) ∧ Jx (pre ++ [x]) W'))
    (W : World) (hc : W.cell? ⟨Bn, 3, none⟩ = some (.slice (some ⟨gT, 0, none⟩) (2 * m + 1) cT)) (h0 : J [] W) :
    CallsIn Fence.wide n Try.prog 51 #[.func (.yield l) #[] #[], .pointer (some ⟨Bn, 0, none⟩)] W fun e W' => (∃ v, e = .returned v) ∧
      ((∃ ys, ys = dl m (2 * m) ∧ J ys W') ∨ (∃ pre : List (DN m), True ∧ Jx pre W')) := by
  refine callsIn_of_wp Try.func51 rfl trivial ?_ rfl
  simp only [Try.ntmps51, List.size_toArray, List.length_cons, List.length_nil, Nat.reduceAdd, Nat.reduceSub, Array.replicate_succ, Array.replicate_zero, List.push_toArray, List.append_toArray, List.nil_append, List.cons_append]
  gi_wp2
  gi_loopw [3] (fun i wr => ∃ k : Nat, k ≤ 2 * m ∧ i = .int .i64 ((k : Int) + 1) ∧ J (dl m k) wr ∧ wr.heap[Bn]? = W.heap[Bn]?) (fun i _ => 2 * m + 1 - (intOf i).toNat)
  case atStart => exact ⟨0, Nat.zero_le _, rfl, h0, rfl⟩
  case round =>
    obtain ⟨k, hk, rfl, hJs, hnx⟩ := hrel
    have hcx : wr.cell? ⟨Bn, 3, none⟩ = some (.slice (some ⟨gT, 0, none⟩) (2 * m + 1) cT) := (World.cell?_of_block (a := ⟨Bn, 3, none⟩) hnx).trans hc
    by_cases hlt : k < 2 * m
    · have hA : 1 ≤ 2 * k + 1 ∧ 2 * k + 1 ≤ 4 * m := by omega
      have hB : 1 ≤ 2 * k + 2 ∧ 2 * k + 2 ≤ 4 * m := by omega
      obtain ⟨fn, tmps, assign, body, hy, hR⟩ := hY _ ⟨2 * k + 1, hA⟩ wr hJs (by rw [dl_len m k hk]; omega)
      rw [enc1] at hy
      have hdk : decide ((k : Int) < 2 * (m : Int)) = true := by simp; omega
      gi_wp2
      refine hR.mono ?_
      rintro e W3 (⟨rfl, hJ3, hk3⟩ | ⟨rfl, hJx3⟩)
      · obtain ⟨fn2, tmps2, assign2, body2, hy2, hR2⟩ := hY _ ⟨2 * k + 2, hB⟩ W3 hJ3 (by rw [List.length_append, dl_len m k hk]; simp; omega)
        rw [enc2] at hy2
        clear hy hR
        gi_wp2
        refine hR2.mono ?_
        rintro e W4 (⟨rfl, hJ4, hk4⟩ | ⟨rfl, hJx4⟩)
        · have hwk : IntKind.i64.wrap ((k : Int) + 1 + 1) = (k : Int) + 1 + 1 := IntWalk.i64_in _ (by omega)
          gi_wp2
          go_roundw
          case rel => exact ⟨k + 1, by omega, by simp, by rw [dl_next m k hA hB]; exact hJ4, hk4.trans (hk3.trans hnx)⟩
          case measure => simp [intOf]; omega
        · gi_wp2
          refine bodyPost_ret (results_none rfl _ _ _) rfl ?_
          exact ⟨⟨_, rfl⟩, .inr ⟨_, trivial, hJx4⟩⟩
      · gi_wp2
        refine ⟨fun _ h => (by cases h), ?_⟩
        gi_wp2
        refine bodyPost_ret (results_none rfl _ _ _) rfl ?_
        exact ⟨⟨_, rfl⟩, .inr ⟨_, trivial, hJx3⟩⟩
    · obtain rfl : k = 2 * m := by omega
      gi_wp2
      go_end0
      exact ⟨⟨_, rfl⟩, .inl ⟨_, rfl, hJs⟩⟩

set_option maxHeartbeats 1000000 in
theorem darts_in (n : Nat) (a : Option Addr) (cap : Nat) (C : List Cr) (loops : Int) (gF cF gT cT : Nat) (w : World) :
    CallsIn Fence.wide n Try.prog 42 #[drV a cap C loops gF cF gT cT] w fun e w' => e = .returned (.func (.func 51) #[] #[.pointer (some ⟨w.heap.size, 0, none⟩)]) ∧ w' = w.alloc (.cells #[.slice a C.length cap, .int .i64 loops, .slice (some ⟨gF, 0, none⟩) (2 * C.length + 1) cF, .slice (some ⟨gT, 0, none⟩) (2 * C.length + 1) cT] 39) := by
  unfold drV
  refine callsIn_of_wp Try.func42 rfl trivial ?_ rfl
  simp only [Try.ntmps42, List.size_toArray, List.length_cons, List.length_nil, Nat.reduceAdd, Nat.reduceSub, Array.replicate_succ, Array.replicate_zero, List.push_toArray, List.append_toArray, List.nil_append, List.cons_append]
  gi_wp2
  go_ret
  exact ⟨rfl, rfl⟩
/-- All darts come, in their order. -/
theorem darts_stops (m : Nat) (hm16 : m ≤ 16) (n : Nat) (hn : 1 ≤ n) (Bn gT cT : Nat) (w : World) (hBn : Bn < w.heap.size) (hc : w.cell? ⟨Bn, 3, none⟩ = some (.slice (some ⟨gT, 0, none⟩) (2 * m + 1) cT)) :
    SeqStopsK Fence.wide n Try.prog 51 #[.pointer (some ⟨Bn, 0, none⟩)] (fun x : DN m => #[Value.agg #[.int .i64 (dA x.1 : Nat), .bool (dB x.1)]]) (fun W W' => W'.heap[Bn]? = W.heap[Bn]?) (fun ys => ys = dl m (2 * m)) (fun _ => True) (4 * m) w := fun l J Jx W hW _ _ hY h0 =>
  darts1_in m hm16 n hn l Bn gT cT J Jx hY W ((hW.cell (p := ⟨Bn, 3, none⟩) (show Bn < w.heap.size by omega)).trans hc) h0
theorem keepB_b {Bn : Nat} {w : World} (hB : Bn < w.heap.size) (W : World) (l : Nat) (o o' : Obj) (hl : w.heap.size ≤ l) (h : W.heap[l]? = some o) (_ : o.isCells = false) (_ : o.isWalk = false) : (W.putObj l o').heap[Bn]? = W.heap[Bn]? :=
  (grownBy_putObj' W l o').block Bn (by have := (Array.getElem?_eq_some_iff.1 h).1; omega) (fun e => by have := Option.some.inj e; omega)
end Go.Proofs.Ytlcogbcpmneknaa
/- Rings along any row of darts. -/
namespace Go.Proofs.Ytlcogbcpmneknaa
open Go.RowKit

def ringStep (f : Nat → Nat) (n : Nat) (r : List (List Nat) × List Bool) (x : Nat) : List (List Nat) × List Bool := (if (walkF f (n + 1) r.2 x []).1 = [] then r.1 else r.1 ++ [(walkF f (n + 1) r.2 x []).1], (walkF f (n + 1) r.2 x []).2)
def ringsL (f : Nat → Nat) (n : Nat) (l : List Nat) : List (List Nat) × List Bool := l.foldl (ringStep f n) ([], List.replicate (n + 1) false)
theorem ringsL_snoc (f : Nat → Nat) (n : Nat) (l : List Nat) (x : Nat) : ringsL f n (l ++ [x]) = ringStep f n (ringsL f n l) x := by simp [ringsL]
theorem ringsL_walks (f : Nat → Nat) (n a : Nat) : ringsL f n ((List.range a).map (· + 1)) = walksTo f n a := by
  induction a with
  | zero => rfl
  | succ a ih =>
    rw [List.range_succ, List.map_append, List.map_cons, List.map_nil, ringsL_snoc, ih]
    rfl
theorem ringsF_len (f : Nat → Nat) (n : Nat) (l : List Nat) : ∀ r, (l.foldl (ringStep f n) r).2.length = r.2.length ∧ (l.foldl (ringStep f n) r).1.length ≤ r.1.length + l.length := by
  induction l with
  | nil => intro r; simp
  | cons x l ih =>
    intro r
    have h := ih (ringStep f n r x)
    have h2 : (ringStep f n r x).2.length = r.2.length := by unfold ringStep; rw [walkF_len]
    have h1 : (ringStep f n r x).1.length ≤ r.1.length + 1 := by
      unfold ringStep
      split
      · exact Nat.le_succ _
      · simp
    simp only [List.foldl_cons, List.length_cons]
    omega
theorem ringsL_len (f : Nat → Nat) (n : Nat) (l : List Nat) : (ringsL f n l).2.length = n + 1 ∧ (ringsL f n l).1.length ≤ l.length := by
  have h := ringsF_len f n l ([], List.replicate (n + 1) false)
  simp only [List.length_replicate, List.length_nil, Nat.zero_add] at h
  exact h
theorem ringStep_next {f : Nat → Nat} {n : Nat} {r : List (List Nat) × List Bool} {x : Nat} {acc : List Nat} {seen : List Bool} (h : walkF f (n + 1) r.2 x [] = (acc, seen)) : ringStep f n r x = (if acc = [] then r.1 else r.1 ++ [acc], seen) := by
  unfold ringStep
  rw [h]
theorem faces_rings (C : List Cr) (l : List (DN C.length)) (h : l = dl C.length (2 * C.length)) : (ringsL (fd C) (4 * C.length) (l.map fun x => x.1)).1 = facesM C := by
  rw [h, dl_val _ _ (Nat.le_refl _), show 2 * (2 * C.length) = 4 * C.length by omega, ringsL_walks]
  rfl
end Go.Proofs.Ytlcogbcpmneknaa
/- A region that draws its order, within a round: by what holds of it outside. -/
namespace Go.Proofs.Ytlcogbcpmneknaa
open Go.RowKit

/-- What is said of the normal way alone. -/
def OnlyN (Q : Exit → Act → World → Prop) : Exit → Act → World → Prop
  | .normal, a, w => Q .normal a w
  | _, _, _ => False
theorem OnlyN.imp {Q : Exit → Act → World → Prop} : ∀ e a w, OnlyN Q e a w → Q e a w := fun e a w h => by
  cases e <;> first | exact h | exact (h : False).elim
theorem onlyN_out {Q : Exit → Act → World → Prop} : ¬ LetsOut (OnlyN Q) := fun h => by
  obtain ⟨a, w, h⟩ := h
  exact h
theorem rows_in {n : Nat} {P : Program} {l : Nat} {row : String} {args : Array Value} {w : World} {R : Value → World → Prop} (h : Rows P row args w R) : RowsIn (Fence.wide.inRound l) n P row args w R := fun c cs _ =>
  let ⟨v, w', r, s⟩ := h c cs
  ⟨v, w', r, stepsIn_wide.2 s⟩
theorem oper_in {n : Nat} {P : Program} {l : Nat} {o : Oper} {a : Act} {w : World} {K : Act → World → Prop} {Q : Exit → Act → World → Prop} (hd : ∀ c, o.op ≠ .defer c) (h : o.wp P a w K Q) : o.wpIn (Fence.wide.inRound l) n P a w K Q := by
  refine ⟨fun _ _ => trivial, ?_⟩
  rw [Oper.semAt_eq _ _ _ hd]
  unfold Oper.wp at h
  generalize (execOp a.eval o).run P w = res at h
  match res, h with
  | .ok (.value v) w', h => exact h
  | .ok .skip w', h => exact h
  | .ok (.defer d) w', h => exact h
  | .ok (.enter f args) w', h => exact ⟨fun hh => (by cases hh), CallsIn.inRound l (callsIn_wide.2 h)⟩
  | .ok (.row row args) w', h => exact ⟨fun hh => (by cases hh), rows_in h⟩
  | .halt (.panic v) w', h => exact h
theorem any_in {n : Nat} {P : Program} {l : Nat} {md : Region.Mode} {ops : Array Oper} {Q : Exit → Act → World → Prop} {S : World → Prop} (hd : ∀ o, o ∈ ops.toList → ∀ c, o.op ≠ .defer c) (hQ : ¬ LetsOut Q) : ∀ (fuel : Nat) (listed : Array Bool) (a : Act) (w : World), wpAnyH P md ops Q S fuel listed a w → wpAnyIn (Fence.wide.inRound l) n P md ops Q fuel listed a w
  | 0, _, _, _, h => h
  | fuel + 1, listed, a, w, h => ⟨h.1, fun i hi => by
    have h2 := h.2 i hi
    unfold wpOp at h2
    unfold wpOpIn
    cases ho : ops[i]? with
    | none => rw [ho] at h2; exact any_in hd hQ fuel _ a w h2.2
    | some o =>
      rw [ho] at h2
      simp only at h2 ⊢
      have hdo := hd o (by rw [← Array.getElem?_toList] at ho; exact List.mem_of_getElem? ho)
      split
      · rename_i hw
        rw [if_pos hw] at h2
        rcases h2 with h2 | h2
        · exact oper_in hdo (Oper.wp_mono (fun a w h3 => any_in hd hQ fuel _ a w h3.2) h2)
        · exact absurd h2.2 hQ
      · rename_i hw
        rw [if_neg hw] at h2
        exact ⟨fun _ _ => trivial, any_in hd hQ fuel _ _ w h2.2⟩⟩
def noDefer (o : Oper) : Bool := match o.op with | .defer _ => false | _ => true
theorem noDefer_ne {o : Oper} (h : noDefer o = true) : ∀ c, o.op ≠ .defer c := fun c e => by
  unfold noDefer at h
  rw [e] at h
  cases h
theorem region_held_in {n : Nat} {P : Program} {l id : Nat} {ops : Array Oper} {Q : Exit → Act → World → Prop} {S : World → Prop} {a : Act} {w : World} (hm : P.follows .mixedOrders = true) (hd : ops.toList.all noDefer = true) (hS : S w.drew)
    (h : S w.drew → wpAnyH P .any ops (OnlyN Q) S ops.size (Array.replicate ops.size false) a w.drew) : (Code.region id ops true).wpIn (Fence.wide.inRound l) n P Q a w :=
  wpIn_mono (wpIn_region_any hm (any_in (fun o ho => noDefer_ne (List.all_eq_true.1 hd o ho)) onlyN_out _ _ _ _ (h hS))) OnlyN.imp
/-- An operation is taken first; its slot is named. -/
theorem take_d {P : Program} {md : Region.Mode} {ops : Array Oper} {Q : Exit → Act → World → Prop} {S : World → Prop} {i : Nat} (d : Nat) {oi : Oper} {v : Value} {fuel : Nat} {listed : Array Bool} {ts : Array Value} {ds : List Deferred} {w : World} (hi : ops[i]? = some oi) (hdst : oi.dst = some d)
    (hs : Region.noSelect ops = true) (hf : Region.free md ops listed i = true) (hr : (Region.ready md ops listed).contains i = true) (hy : YieldsIf P ops S oi v { tmps := ts, defers := ds }) (hS : S w)
    (h : wpAnyH P md ops (OnlyN Q) S fuel (listed.setIfInBounds i true) { tmps := ts.setIfInBounds d v, defers := ds } w) : wpAnyH P md ops (OnlyN Q) S (fuel + 1) listed { tmps := ts, defers := ds } w := by
  refine wpAnyH_take hi hs hf hr (fun _ _ _ h => h) hy hS ?_
  rw [hdst]
  exact h
end Go.Proofs.Ytlcogbcpmneknaa

/- The walk of code.parsedCross. Made by genrd2.py. -/
import Derived.Test.YtlimfajjmhfnaaaGreatDoorRD1P
namespace Go.Proofs.YtlimfajjmhfnaaaGreatDoor
open Go.RowKit

/-- What code.parsedCross answers. -/
def crV (o : Option Cr) : Value := match o with
  | some c => .tuple #[.agg #[.int .i64 c.a, .int .i64 c.b, .int .i64 c.c, .int .i64 c.d, .bool c.plus], .bool true]
  | none => .tuple #[.agg #[.int .i64 0, .int .i64 0, .int .i64 0, .int .i64 0, .bool false], .bool false]
theorem crossN_mk {plus : Bool} {x y z u : List UInt8} {a b c d : Nat} (hx : numP x = some a) (hy : numP y = some b) (hz : numP z = some c) (hu : numP u = some d) : crossN plus [x, y, z, u] = some ⟨a, b, c, d, plus⟩ := by
  unfold crossN
  simp [hx, hy, hz, hu]
theorem crossN_len {plus : Bool} {Q : List (List UInt8)} (h : ¬ Q.length = 4) : crossN plus Q = none := by
  unfold crossN
  split
  · simp at h
  · rfl
/-- Numbers read so far. -/
def St (x y z u : List UInt8) (k c0 c1 c2 c3 : Nat) : Prop := (1 ≤ k → numP x = some c0) ∧ (2 ≤ k → numP y = some c1) ∧ (3 ≤ k → numP z = some c2) ∧ (4 ≤ k → numP u = some c3)
theorem st_step0 {x y z u : List UInt8} {c0 c1 c2 c3 n : Nat} (_h : St x y z u 0 c0 c1 c2 c3) (hn : numP x = some n) : St x y z u 1 n c1 c2 c3 := ⟨fun _ => hn, fun h => by omega, fun h => by omega, fun h => by omega⟩
theorem st_step1 {x y z u : List UInt8} {c0 c1 c2 c3 n : Nat} (h : St x y z u 1 c0 c1 c2 c3) (hn : numP y = some n) : St x y z u 2 c0 n c2 c3 := ⟨fun _ => h.1 (by omega), fun _ => hn, fun h => by omega, fun h => by omega⟩
theorem st_step2 {x y z u : List UInt8} {c0 c1 c2 c3 n : Nat} (h : St x y z u 2 c0 c1 c2 c3) (hn : numP z = some n) : St x y z u 3 c0 c1 n c3 := ⟨fun _ => h.1 (by omega), fun _ => h.2.1 (by omega), fun _ => hn, fun h => by omega⟩
theorem st_step3 {x y z u : List UInt8} {c0 c1 c2 c3 n : Nat} (h : St x y z u 3 c0 c1 c2 c3) (hn : numP u = some n) : St x y z u 4 c0 c1 c2 n := ⟨fun _ => h.1 (by omega), fun _ => h.2.1 (by omega), fun _ => h.2.2.1 (by omega), fun _ => hn⟩
/-- Five cells stored into a box. -/
def st5 (W : World) (g : Nat) (a b c d p : Value) : World := ((((W.setCell ⟨g, 0, none⟩ a).setCell ⟨g, 1, none⟩ b).setCell ⟨g, 2, none⟩ c).setCell ⟨g, 3, none⟩ d).setCell ⟨g, 4, none⟩ p
theorem st5_block {W : World} {g : Nat} {t : TypeId} {a b c d p a' b' c' d' p' : Value} (h : W.heap[g]? = some (.cells #[a', b', c', d', p'] t (0, 0))) : (st5 W g a b c d p).heap[g]? = some (.cells #[a, b, c, d, p] t (0, 0)) := by
  unfold st5
  exact set_block (set_block (set_block (set_block (set_block h))))
theorem st5_below {W w : World} {B g : Nat} {a b c d p : Value} (h : Below B w W) (hg : B ≤ g := by omega) : Below B w (st5 W g a b c d p) := by
  unfold st5
  exact ((((h.setCell (p := ⟨g, 0, none⟩) hg _).setCell (p := ⟨g, 1, none⟩) hg _).setCell (p := ⟨g, 2, none⟩) hg _).setCell (p := ⟨g, 3, none⟩) hg _).setCell (p := ⟨g, 4, none⟩) hg _
theorem set_other {W : World} {g h i : Nat} {v : Value} {o : Obj} (hk : W.heap[g]? = some o) (hne : g ≠ h) : (W.setCell ⟨h, i, none⟩ v).heap[g]? = some o :=
  ((set_grown W h i v).block g (Array.getElem?_eq_some_iff.1 hk).1 (fun e => hne (Option.some.inj e))).trans hk

set_option maxHeartbeats 8000000 in
set_option maxRecDepth 100000 in
theorem parsedCross_no (l : List UInt8) (w : World) (h1 : Lib.hasPrefix l [88, 43, 91] = false) (h2 : Lib.hasPrefix l [88, 45, 91] = false) :
    Calls Tryz.prog 27 #[.string ⟨l.toArray⟩] w fun e w' => e = .returned (crV none) ∧ Below w.heap.size w w' := by
  have HP : Hid (∀ (p : List UInt8) (W : World), Calls Tryz.prog 44 #[.string ⟨l.toArray⟩, .string ⟨p.toArray⟩] W fun e w' => e = .returned (.tuple #[.string ⟨(Lib.trimPrefix l p).toArray⟩, .bool (Lib.hasPrefix l p)]) ∧ w' = W) := fun p W => Tryz.strings_CutPrefix ⟨l.toArray⟩ ⟨p.toArray⟩ W
  have H1 := hid_of h1
  have H2 := hid_of h2
  clear h1 h2
  go_enter Tryz.func27, Tryz.ntmps27
  go_upto_region 3 with (go_at_call 44; refine (HP.out [88, 43, 91] _).mono ?_; rw [H1.out]; rintro e9 w9 ⟨rfl, e99⟩; obtain rfl := e99.symm; clear e99)
  go_wp2_with (go_at_call 44; refine (HP.out [88, 45, 91] _).mono ?_; rw [H2.out]; rintro e9 w9 ⟨rfl, e99⟩; obtain rfl := e99.symm; clear e99)
  exact bodyPost_ret (v := crV none) (by simp [results, Tryz.results27, go_sem, crV]) rfl ⟨rfl, (Below.refl _ _).alloc (Nat.le_refl _) _⟩

theorem res_cells {W : World} {g : Nat} {a b c d p : Value} {ok : Bool} {tm : Array Value} (h : W.heap[g]? = some (.cells #[a, b, c, d, p] 33 (0, 0))) (h2 : tm[2]? = some (.pointer (some ⟨g, 0, none⟩))) (h3 : tm[3]? = some (.bool ok)) : (results Tryz.f27 tm).run Tryz.prog W = .ok (.tuple #[.agg #[a, b, c, d, p], .bool ok]) W := by
  have e0 : W.cell? ⟨g, 0, none⟩ = some a := block_cell h rfl
  have e1 : W.cell? ⟨g, 1, none⟩ = some b := block_cell h rfl
  have e2 : W.cell? ⟨g, 2, none⟩ = some c := block_cell h rfl
  have e3 : W.cell? ⟨g, 3, none⟩ = some d := block_cell h rfl
  have e4 : W.cell? ⟨g, 4, none⟩ = some p := block_cell h rfl
  simp [results, Tryz.results27, go_sem, h2, h3, e0, e1, e2, e3, e4]

theorem split_len (t : List UInt8) {n : Nat} (h : t.length ≤ n) : (splitC t).length ≤ n + 1 := by
  induction t generalizing n with
  | nil => simp [splitC]
  | cons b r ih =>
    rw [List.length_cons] at h
    have := ih (n := n - 1) (by omega)
    unfold splitC
    split
    · simp; omega
    · cases hs : splitC r with
      | nil => simp
      | cons p q => rw [hs] at this; simp at this ⊢; omega
theorem split_mem (t : List UInt8) {n : Nat} (h : t.length ≤ n) : ∀ q ∈ splitC t, q.length ≤ n := by
  induction t generalizing n with
  | nil => simp [splitC]
  | cons b r ih =>
    rw [List.length_cons] at h
    have h1 := ih (n := n - 1) (by omega)
    intro q hq
    unfold splitC at hq
    split at hq
    · rcases List.mem_cons.1 hq with e | e
      · rw [e]; simp
      · have := h1 q e; omega
    · cases hs : splitC r with
      | nil => rw [hs] at hq; simp at hq; rw [hq]; simp; omega
      | cons p s =>
        rw [hs] at hq h1
        rcases List.mem_cons.1 hq with e | e
        · have := h1 p List.mem_cons_self
          rw [e, List.length_cons]; omega
        · have := h1 q (List.mem_cons_of_mem _ e); omega

set_option maxHeartbeats 16000000 in
set_option maxRecDepth 100000 in
theorem parsedCross_plus (l : List UInt8) (w : World) (hl : l.length ≤ 10000) (h1 : Lib.hasPrefix l [88, 43, 91] = true) (hmax : MaxAt w) :
    Calls Tryz.prog 27 #[.string ⟨l.toArray⟩] w fun e w' => e = .returned (crV (crossP l)) ∧ Below w.heap.size w w' := by
  have HP : Hid (∀ (p : List UInt8) (W : World), Calls Tryz.prog 44 #[.string ⟨l.toArray⟩, .string ⟨p.toArray⟩] W fun e w' => e = .returned (.tuple #[.string ⟨(Lib.trimPrefix l p).toArray⟩, .bool (Lib.hasPrefix l p)]) ∧ w' = W) := fun p W => Tryz.strings_CutPrefix ⟨l.toArray⟩ ⟨p.toArray⟩ W
  obtain ⟨r, hr⟩ : ∃ r, l.drop 3 = r := ⟨_, rfl⟩
  have hrl : r.length ≤ 10000 := by rw [← hr, List.length_drop]; omega
  have HCP : Hid (crossP l = if r.getLast? = some 93 then crossN true (splitC r.dropLast) else none) := (by unfold crossP; rw [head_lib]; rw [h1, hr]; rfl : crossP l = if r.getLast? = some 93 then crossN true (splitC r.dropLast) else none)
  have HP1 : Hid (∀ W : World, Calls Tryz.prog 44 #[.string ⟨l.toArray⟩, .string ⟨#[88, 43, 91]⟩] W fun e w' => e = .returned (.tuple #[.string ⟨r.toArray⟩, .bool true]) ∧ w' = W) := (fun W => by have h5 := HP.out [88, 43, 91] W; unfold Lib.trimPrefix at h5; rw [h1, if_pos rfl] at h5; rw [← hr]; exact h5 : ∀ W : World, Calls Tryz.prog 44 #[.string ⟨l.toArray⟩, .string ⟨#[88, 43, 91]⟩] W fun e w' => e = .returned (.tuple #[.string ⟨r.toArray⟩, .bool true]) ∧ w' = W)
  clear HP h1
  have HCS : Hid (∀ W : World, Calls Tryz.prog 45 #[.string ⟨r.toArray⟩, .string ⟨#[93]⟩] W fun e w' => e = .returned (.tuple #[.string ⟨(Lib.trimSuffix r [93]).toArray⟩, .bool (Lib.hasSuffix r [93])]) ∧ w' = W) := fun W => Tryz.strings_CutSuffix ⟨r.toArray⟩ ⟨#[93]⟩ W (by rw [arr_size]; omega)
  obtain ⟨t, ht⟩ : ∃ t, Lib.trimSuffix r [93] = t := ⟨_, rfl⟩
  have htl : t.length ≤ 10000 := by
    rw [← ht]
    unfold Lib.trimSuffix
    split
    · rw [List.length_take]; omega
    · exact hrl
  rw [ht] at HCS
  have HTT := hid_of ht
  obtain ⟨Q, hQ⟩ : ∃ Q, splitC t = Q := ⟨_, rfl⟩
  have HSP : Hid (∀ W : World, Below w.heap.size w W → Calls Tryz.prog 46 #[.string ⟨t.toArray⟩, .string ⟨#[44]⟩] W fun e w' => e = .returned (.slice (some ⟨W.heap.size, 0, none⟩) Q.length Q.length) ∧ w' = W.alloc (.cells (strW Q).toArray 9)) := fun W hb => by rw [← hQ]; exact split_any t W htl (hmax.on hb)
  have HQQ := hid_of hQ
  have HB1 : Hid (Below w.heap.size w (w.alloc (.cells #[.int .i64 0, .int .i64 0, .int .i64 0, .int .i64 0, .bool false] 33))) := (Below.refl _ _).alloc (Nat.le_refl _) _
  have hQl : Q.length ≤ 10001 := by rw [← hQ]; exact split_len t htl
  have HLQ : Hid (∀ q ∈ Q, q.length ≤ 10000) := (fun q hq => by rw [← hQ] at hq; exact split_mem t htl q hq : ∀ q ∈ Q, q.length ≤ 10000)
  clear hr ht hQ hmax hrl htl
  by_cases hc : r.getLast? = some 93
  · have hcs : Lib.hasSuffix r [93] = true := by rw [last_lib, decide_eq_true hc]
    have HTD : Hid (t = r.dropLast) := (by rw [← HTT.out]; exact trim_lib r hc : t = r.dropLast)
    rw [hcs] at HCS
    have HC2 : Hid (crossP l = crossN true Q) := (by rw [HCP.out, if_pos hc, ← HTD.out, HQQ.out] : crossP l = crossN true Q)
    rw [HC2.out]
    clear hcs hc HTD HC2 HCP HTT HQQ
    by_cases h4 : Q.length = 4
    · obtain ⟨x, y, z, u, rfl⟩ : ∃ x y z u, Q = [x, y, z, u] := by
        match Q, h4 with
        | [x, y, z, u], _ => exact ⟨x, y, z, u, rfl⟩
      have HLL : Hid (∀ q ∈ [x, y, z, u], q.length ≤ 10000) := HLQ.out
      clear HLQ h4 hQl
      go_enter Tryz.func27, Tryz.ntmps27
      go_upto_region 7 with (go_at_call 44; refine (HP1.out _).mono ?_; rintro e9 w9 ⟨rfl, e99⟩; obtain rfl := e99.symm; clear e99)
      go_upto_region 13 with (first
        | (go_at_call 45; refine (HCS.out _).mono ?_; rintro e9 w9 ⟨rfl, e99⟩; obtain rfl := e99.symm; clear e99)
        | (go_at_call 46; refine (HSP.out _ HB1.out).mono ?_; rintro e9 w9 ⟨rfl, rfl⟩))
      simp only [strW, List.map_cons, List.map_nil]
      go_loopw [48] (fun v48 wr => ∃ (k c0 c1 c2 c3 : Nat), k ≤ 4 ∧ v48 = .int .i64 (k : Nat) ∧ Hid (St x y z u k c0 c1 c2 c3) ∧ Hid (Below w.heap.size w wr) ∧ Hid (wr.heap[w.heap.size]? = some (.cells #[.int .i64 0, .int .i64 0, .int .i64 0, .int .i64 0, .bool false] 33 (0, 0))) ∧ Hid (wr.heap[w.heap.size + 1]? = some (.cells #[.string ⟨x.toArray⟩, .string ⟨y.toArray⟩, .string ⟨z.toArray⟩, .string ⟨u.toArray⟩] 9 (0, 0))) ∧ Hid (wr.heap[w.heap.size + 1 + 1]? = some (.cells #[.int .i64 (c0 : Nat), .int .i64 (c1 : Nat), .int .i64 (c2 : Nat), .int .i64 (c3 : Nat)] 60 (0, 0)))) (fun i _ => 4 - (intOf i).toNat)
      case atStart => exact ⟨0, 0, 0, 0, 0, by omega, rfl, ⟨fun h => by omega, fun h => by omega, fun h => by omega, fun h => by omega⟩, ((((Below.refl w.heap.size w).alloc (Nat.le_refl _) _).alloc (by simp) _).alloc (by simp; omega) _), alloc_old (alloc_old (alloc_at rfl)), alloc_old (alloc_at (by simp)), alloc_at (by simp)⟩
      case round =>
        rename World => wr
        obtain ⟨k, c0, c1, c2, c3, hk, rfl, hS, hb, hR, hQ, hA⟩ := hrel
        have lR := (Array.getElem?_eq_some_iff.1 hR.out).1
        have lQ := (Array.getElem?_eq_some_iff.1 hQ.out).1
        have lA := (Array.getElem?_eq_some_iff.1 hA.out).1
        have h5 : k = 0 ∨ k = 1 ∨ k = 2 ∨ k = 3 ∨ k = 4 := by omega
        rcases h5 with rfl | rfl | rfl | rfl | rfl
        · have hcl : wr.cell? ⟨w.heap.size + 1, 0, none⟩ = some (.string ⟨x.toArray⟩) := block_cell hQ.out rfl
          cases hn : numP x with
          | none =>
            have HV : Hid (numV x = .tuple #[.int .i64 0, .bool false]) := (by unfold numV; rw [hn] : numV x = .tuple #[.int .i64 0, .bool false])
            have HRN : Hid (crossN true [x, y, z, u] = none) := (by unfold crossN; simp [hn] : crossN true [x, y, z, u] = none)
            clear hn
            go_wp2_with (go_at_call 47; refine (number_any x _ (HLL.out x (by simp))).mono ?_; rw [HV.out]; rintro e9 w5 ⟨rfl, hb5⟩; have HB5 : Hid (Below w.heap.size w w5) := hb.out.trans (hb5.mono hb.out.size); have HR5 : Hid (w5.heap[w.heap.size]? = some (.cells #[.int .i64 0, .int .i64 0, .int .i64 0, .int .i64 0, .bool false] 33 (0, 0))) := (hb5.block _ lR).trans hR.out; have lR5 := (Array.getElem?_eq_some_iff.1 HR5.out).1; have f0 : w5.frozen? ⟨w.heap.size, 0, none⟩ = false := block_frozen HR5.out; have f1 : w5.frozen? ⟨w.heap.size, 1, none⟩ = false := block_frozen HR5.out; have f2 : w5.frozen? ⟨w.heap.size, 2, none⟩ = false := block_frozen HR5.out; have f3 : w5.frozen? ⟨w.heap.size, 3, none⟩ = false := block_frozen HR5.out; have f4 : w5.frozen? ⟨w.heap.size, 4, none⟩ = false := block_frozen HR5.out; have d0 : w5.cell? ⟨w.heap.size, 0, none⟩ = some (.int .i64 0) := block_cell HR5.out rfl; have d1 : w5.cell? ⟨w.heap.size, 1, none⟩ = some (.int .i64 0) := block_cell HR5.out rfl; have d2 : w5.cell? ⟨w.heap.size, 2, none⟩ = some (.int .i64 0) := block_cell HR5.out rfl; have d3 : w5.cell? ⟨w.heap.size, 3, none⟩ = some (.int .i64 0) := block_cell HR5.out rfl; have d4 : w5.cell? ⟨w.heap.size, 4, none⟩ = some (.bool false) := block_cell HR5.out rfl; clear hb5)
            rw [HRN.out]
            have hst := st5_block (a := .int .i64 0) (b := .int .i64 0) (c := .int .i64 0) (d := .int .i64 0) (p := .bool false) HR5.out
            exact bodyPost_ret (v := crV none) (res_cells hst rfl rfl) rfl ⟨rfl, st5_below HB5.out⟩
          | some n =>
            have HV : Hid (numV x = .tuple #[.int .i64 (n : Nat), .bool true]) := (by unfold numV; rw [hn] : numV x = .tuple #[.int .i64 (n : Nat), .bool true])
            have HNQ := hid_of hn
            clear hn
            go_wp2_with (go_at_call 47; refine (number_any x _ (HLL.out x (by simp))).mono ?_; rw [HV.out]; rintro e9 w5 ⟨rfl, hb5⟩; have HB5 : Hid (Below w.heap.size w w5) := hb.out.trans (hb5.mono hb.out.size); have HR5 : Hid (w5.heap[w.heap.size]? = some (.cells #[.int .i64 0, .int .i64 0, .int .i64 0, .int .i64 0, .bool false] 33 (0, 0))) := (hb5.block _ lR).trans hR.out; have HA5 : Hid (w5.heap[w.heap.size + 1 + 1]? = some (.cells #[.int .i64 (c0 : Nat), .int .i64 (c1 : Nat), .int .i64 (c2 : Nat), .int .i64 (c3 : Nat)] 60 (0, 0))) := (hb5.block _ lA).trans hA.out; have HQ5 : Hid (w5.heap[w.heap.size + 1]? = some (.cells #[.string ⟨x.toArray⟩, .string ⟨y.toArray⟩, .string ⟨z.toArray⟩, .string ⟨u.toArray⟩] 9 (0, 0))) := (hb5.block _ lQ).trans hQ.out; have t2 : w5.cell? ⟨w.heap.size + 1 + 1, 0, none⟩ = some (.int .i64 (c0 : Nat)) := block_cell HA5.out rfl; have t3 : w5.frozen? ⟨w.heap.size + 1 + 1, 0, none⟩ = false := block_frozen HA5.out; have lA5 := (Array.getElem?_eq_some_iff.1 HA5.out).1; clear hb5)
            go_roundw
            case rel => exact ⟨1, n, c1, c2, c3, by omega, rfl, st_step0 hS.out HNQ.out, HB5.out.setCell (p := ⟨w.heap.size + 1 + 1, 0, none⟩) (by simp; omega) _, set_other HR5.out (by omega), set_other HQ5.out (by omega), set_block HA5.out⟩
            case measure => simp only [intOf]; omega
        · have hcl : wr.cell? ⟨w.heap.size + 1, 1, none⟩ = some (.string ⟨y.toArray⟩) := block_cell hQ.out rfl
          cases hn : numP y with
          | none =>
            have HV : Hid (numV y = .tuple #[.int .i64 0, .bool false]) := (by unfold numV; rw [hn] : numV y = .tuple #[.int .i64 0, .bool false])
            have HRN : Hid (crossN true [x, y, z, u] = none) := (by unfold crossN; simp [hn] : crossN true [x, y, z, u] = none)
            clear hn
            go_wp2_with (go_at_call 47; refine (number_any y _ (HLL.out y (by simp))).mono ?_; rw [HV.out]; rintro e9 w5 ⟨rfl, hb5⟩; have HB5 : Hid (Below w.heap.size w w5) := hb.out.trans (hb5.mono hb.out.size); have HR5 : Hid (w5.heap[w.heap.size]? = some (.cells #[.int .i64 0, .int .i64 0, .int .i64 0, .int .i64 0, .bool false] 33 (0, 0))) := (hb5.block _ lR).trans hR.out; have lR5 := (Array.getElem?_eq_some_iff.1 HR5.out).1; have f0 : w5.frozen? ⟨w.heap.size, 0, none⟩ = false := block_frozen HR5.out; have f1 : w5.frozen? ⟨w.heap.size, 1, none⟩ = false := block_frozen HR5.out; have f2 : w5.frozen? ⟨w.heap.size, 2, none⟩ = false := block_frozen HR5.out; have f3 : w5.frozen? ⟨w.heap.size, 3, none⟩ = false := block_frozen HR5.out; have f4 : w5.frozen? ⟨w.heap.size, 4, none⟩ = false := block_frozen HR5.out; have d0 : w5.cell? ⟨w.heap.size, 0, none⟩ = some (.int .i64 0) := block_cell HR5.out rfl; have d1 : w5.cell? ⟨w.heap.size, 1, none⟩ = some (.int .i64 0) := block_cell HR5.out rfl; have d2 : w5.cell? ⟨w.heap.size, 2, none⟩ = some (.int .i64 0) := block_cell HR5.out rfl; have d3 : w5.cell? ⟨w.heap.size, 3, none⟩ = some (.int .i64 0) := block_cell HR5.out rfl; have d4 : w5.cell? ⟨w.heap.size, 4, none⟩ = some (.bool false) := block_cell HR5.out rfl; clear hb5)
            rw [HRN.out]
            have hst := st5_block (a := .int .i64 0) (b := .int .i64 0) (c := .int .i64 0) (d := .int .i64 0) (p := .bool false) HR5.out
            exact bodyPost_ret (v := crV none) (res_cells hst rfl rfl) rfl ⟨rfl, st5_below HB5.out⟩
          | some n =>
            have HV : Hid (numV y = .tuple #[.int .i64 (n : Nat), .bool true]) := (by unfold numV; rw [hn] : numV y = .tuple #[.int .i64 (n : Nat), .bool true])
            have HNQ := hid_of hn
            clear hn
            go_wp2_with (go_at_call 47; refine (number_any y _ (HLL.out y (by simp))).mono ?_; rw [HV.out]; rintro e9 w5 ⟨rfl, hb5⟩; have HB5 : Hid (Below w.heap.size w w5) := hb.out.trans (hb5.mono hb.out.size); have HR5 : Hid (w5.heap[w.heap.size]? = some (.cells #[.int .i64 0, .int .i64 0, .int .i64 0, .int .i64 0, .bool false] 33 (0, 0))) := (hb5.block _ lR).trans hR.out; have HA5 : Hid (w5.heap[w.heap.size + 1 + 1]? = some (.cells #[.int .i64 (c0 : Nat), .int .i64 (c1 : Nat), .int .i64 (c2 : Nat), .int .i64 (c3 : Nat)] 60 (0, 0))) := (hb5.block _ lA).trans hA.out; have HQ5 : Hid (w5.heap[w.heap.size + 1]? = some (.cells #[.string ⟨x.toArray⟩, .string ⟨y.toArray⟩, .string ⟨z.toArray⟩, .string ⟨u.toArray⟩] 9 (0, 0))) := (hb5.block _ lQ).trans hQ.out; have t2 : w5.cell? ⟨w.heap.size + 1 + 1, 1, none⟩ = some (.int .i64 (c1 : Nat)) := block_cell HA5.out rfl; have t3 : w5.frozen? ⟨w.heap.size + 1 + 1, 1, none⟩ = false := block_frozen HA5.out; have lA5 := (Array.getElem?_eq_some_iff.1 HA5.out).1; clear hb5)
            go_roundw
            case rel => exact ⟨2, c0, n, c2, c3, by omega, rfl, st_step1 hS.out HNQ.out, HB5.out.setCell (p := ⟨w.heap.size + 1 + 1, 1, none⟩) (by simp; omega) _, set_other HR5.out (by omega), set_other HQ5.out (by omega), set_block HA5.out⟩
            case measure => simp only [intOf]; omega
        · have hcl : wr.cell? ⟨w.heap.size + 1, 2, none⟩ = some (.string ⟨z.toArray⟩) := block_cell hQ.out rfl
          cases hn : numP z with
          | none =>
            have HV : Hid (numV z = .tuple #[.int .i64 0, .bool false]) := (by unfold numV; rw [hn] : numV z = .tuple #[.int .i64 0, .bool false])
            have HRN : Hid (crossN true [x, y, z, u] = none) := (by unfold crossN; simp [hn] : crossN true [x, y, z, u] = none)
            clear hn
            go_wp2_with (go_at_call 47; refine (number_any z _ (HLL.out z (by simp))).mono ?_; rw [HV.out]; rintro e9 w5 ⟨rfl, hb5⟩; have HB5 : Hid (Below w.heap.size w w5) := hb.out.trans (hb5.mono hb.out.size); have HR5 : Hid (w5.heap[w.heap.size]? = some (.cells #[.int .i64 0, .int .i64 0, .int .i64 0, .int .i64 0, .bool false] 33 (0, 0))) := (hb5.block _ lR).trans hR.out; have lR5 := (Array.getElem?_eq_some_iff.1 HR5.out).1; have f0 : w5.frozen? ⟨w.heap.size, 0, none⟩ = false := block_frozen HR5.out; have f1 : w5.frozen? ⟨w.heap.size, 1, none⟩ = false := block_frozen HR5.out; have f2 : w5.frozen? ⟨w.heap.size, 2, none⟩ = false := block_frozen HR5.out; have f3 : w5.frozen? ⟨w.heap.size, 3, none⟩ = false := block_frozen HR5.out; have f4 : w5.frozen? ⟨w.heap.size, 4, none⟩ = false := block_frozen HR5.out; have d0 : w5.cell? ⟨w.heap.size, 0, none⟩ = some (.int .i64 0) := block_cell HR5.out rfl; have d1 : w5.cell? ⟨w.heap.size, 1, none⟩ = some (.int .i64 0) := block_cell HR5.out rfl; have d2 : w5.cell? ⟨w.heap.size, 2, none⟩ = some (.int .i64 0) := block_cell HR5.out rfl; have d3 : w5.cell? ⟨w.heap.size, 3, none⟩ = some (.int .i64 0) := block_cell HR5.out rfl; have d4 : w5.cell? ⟨w.heap.size, 4, none⟩ = some (.bool false) := block_cell HR5.out rfl; clear hb5)
            rw [HRN.out]
            have hst := st5_block (a := .int .i64 0) (b := .int .i64 0) (c := .int .i64 0) (d := .int .i64 0) (p := .bool false) HR5.out
            exact bodyPost_ret (v := crV none) (res_cells hst rfl rfl) rfl ⟨rfl, st5_below HB5.out⟩
          | some n =>
            have HV : Hid (numV z = .tuple #[.int .i64 (n : Nat), .bool true]) := (by unfold numV; rw [hn] : numV z = .tuple #[.int .i64 (n : Nat), .bool true])
            have HNQ := hid_of hn
            clear hn
            go_wp2_with (go_at_call 47; refine (number_any z _ (HLL.out z (by simp))).mono ?_; rw [HV.out]; rintro e9 w5 ⟨rfl, hb5⟩; have HB5 : Hid (Below w.heap.size w w5) := hb.out.trans (hb5.mono hb.out.size); have HR5 : Hid (w5.heap[w.heap.size]? = some (.cells #[.int .i64 0, .int .i64 0, .int .i64 0, .int .i64 0, .bool false] 33 (0, 0))) := (hb5.block _ lR).trans hR.out; have HA5 : Hid (w5.heap[w.heap.size + 1 + 1]? = some (.cells #[.int .i64 (c0 : Nat), .int .i64 (c1 : Nat), .int .i64 (c2 : Nat), .int .i64 (c3 : Nat)] 60 (0, 0))) := (hb5.block _ lA).trans hA.out; have HQ5 : Hid (w5.heap[w.heap.size + 1]? = some (.cells #[.string ⟨x.toArray⟩, .string ⟨y.toArray⟩, .string ⟨z.toArray⟩, .string ⟨u.toArray⟩] 9 (0, 0))) := (hb5.block _ lQ).trans hQ.out; have t2 : w5.cell? ⟨w.heap.size + 1 + 1, 2, none⟩ = some (.int .i64 (c2 : Nat)) := block_cell HA5.out rfl; have t3 : w5.frozen? ⟨w.heap.size + 1 + 1, 2, none⟩ = false := block_frozen HA5.out; have lA5 := (Array.getElem?_eq_some_iff.1 HA5.out).1; clear hb5)
            go_roundw
            case rel => exact ⟨3, c0, c1, n, c3, by omega, rfl, st_step2 hS.out HNQ.out, HB5.out.setCell (p := ⟨w.heap.size + 1 + 1, 2, none⟩) (by simp; omega) _, set_other HR5.out (by omega), set_other HQ5.out (by omega), set_block HA5.out⟩
            case measure => simp only [intOf]; omega
        · have hcl : wr.cell? ⟨w.heap.size + 1, 3, none⟩ = some (.string ⟨u.toArray⟩) := block_cell hQ.out rfl
          cases hn : numP u with
          | none =>
            have HV : Hid (numV u = .tuple #[.int .i64 0, .bool false]) := (by unfold numV; rw [hn] : numV u = .tuple #[.int .i64 0, .bool false])
            have HRN : Hid (crossN true [x, y, z, u] = none) := (by unfold crossN; simp [hn] : crossN true [x, y, z, u] = none)
            clear hn
            go_wp2_with (go_at_call 47; refine (number_any u _ (HLL.out u (by simp))).mono ?_; rw [HV.out]; rintro e9 w5 ⟨rfl, hb5⟩; have HB5 : Hid (Below w.heap.size w w5) := hb.out.trans (hb5.mono hb.out.size); have HR5 : Hid (w5.heap[w.heap.size]? = some (.cells #[.int .i64 0, .int .i64 0, .int .i64 0, .int .i64 0, .bool false] 33 (0, 0))) := (hb5.block _ lR).trans hR.out; have lR5 := (Array.getElem?_eq_some_iff.1 HR5.out).1; have f0 : w5.frozen? ⟨w.heap.size, 0, none⟩ = false := block_frozen HR5.out; have f1 : w5.frozen? ⟨w.heap.size, 1, none⟩ = false := block_frozen HR5.out; have f2 : w5.frozen? ⟨w.heap.size, 2, none⟩ = false := block_frozen HR5.out; have f3 : w5.frozen? ⟨w.heap.size, 3, none⟩ = false := block_frozen HR5.out; have f4 : w5.frozen? ⟨w.heap.size, 4, none⟩ = false := block_frozen HR5.out; have d0 : w5.cell? ⟨w.heap.size, 0, none⟩ = some (.int .i64 0) := block_cell HR5.out rfl; have d1 : w5.cell? ⟨w.heap.size, 1, none⟩ = some (.int .i64 0) := block_cell HR5.out rfl; have d2 : w5.cell? ⟨w.heap.size, 2, none⟩ = some (.int .i64 0) := block_cell HR5.out rfl; have d3 : w5.cell? ⟨w.heap.size, 3, none⟩ = some (.int .i64 0) := block_cell HR5.out rfl; have d4 : w5.cell? ⟨w.heap.size, 4, none⟩ = some (.bool false) := block_cell HR5.out rfl; clear hb5)
            rw [HRN.out]
            have hst := st5_block (a := .int .i64 0) (b := .int .i64 0) (c := .int .i64 0) (d := .int .i64 0) (p := .bool false) HR5.out
            exact bodyPost_ret (v := crV none) (res_cells hst rfl rfl) rfl ⟨rfl, st5_below HB5.out⟩
          | some n =>
            have HV : Hid (numV u = .tuple #[.int .i64 (n : Nat), .bool true]) := (by unfold numV; rw [hn] : numV u = .tuple #[.int .i64 (n : Nat), .bool true])
            have HNQ := hid_of hn
            clear hn
            go_wp2_with (go_at_call 47; refine (number_any u _ (HLL.out u (by simp))).mono ?_; rw [HV.out]; rintro e9 w5 ⟨rfl, hb5⟩; have HB5 : Hid (Below w.heap.size w w5) := hb.out.trans (hb5.mono hb.out.size); have HR5 : Hid (w5.heap[w.heap.size]? = some (.cells #[.int .i64 0, .int .i64 0, .int .i64 0, .int .i64 0, .bool false] 33 (0, 0))) := (hb5.block _ lR).trans hR.out; have HA5 : Hid (w5.heap[w.heap.size + 1 + 1]? = some (.cells #[.int .i64 (c0 : Nat), .int .i64 (c1 : Nat), .int .i64 (c2 : Nat), .int .i64 (c3 : Nat)] 60 (0, 0))) := (hb5.block _ lA).trans hA.out; have HQ5 : Hid (w5.heap[w.heap.size + 1]? = some (.cells #[.string ⟨x.toArray⟩, .string ⟨y.toArray⟩, .string ⟨z.toArray⟩, .string ⟨u.toArray⟩] 9 (0, 0))) := (hb5.block _ lQ).trans hQ.out; have t2 : w5.cell? ⟨w.heap.size + 1 + 1, 3, none⟩ = some (.int .i64 (c3 : Nat)) := block_cell HA5.out rfl; have t3 : w5.frozen? ⟨w.heap.size + 1 + 1, 3, none⟩ = false := block_frozen HA5.out; have lA5 := (Array.getElem?_eq_some_iff.1 HA5.out).1; clear hb5)
            go_roundw
            case rel => exact ⟨4, c0, c1, c2, n, by omega, rfl, st_step3 hS.out HNQ.out, HB5.out.setCell (p := ⟨w.heap.size + 1 + 1, 3, none⟩) (by simp; omega) _, set_other HR5.out (by omega), set_other HQ5.out (by omega), set_block HA5.out⟩
            case measure => simp only [intOf]; omega
        · have a0 : wr.cell? ⟨w.heap.size + 1 + 1, 0, none⟩ = some (.int .i64 (c0 : Nat)) := block_cell hA.out rfl
          have a1 : wr.cell? ⟨w.heap.size + 1 + 1, 1, none⟩ = some (.int .i64 (c1 : Nat)) := block_cell hA.out rfl
          have a2 : wr.cell? ⟨w.heap.size + 1 + 1, 2, none⟩ = some (.int .i64 (c2 : Nat)) := block_cell hA.out rfl
          have a3 : wr.cell? ⟨w.heap.size + 1 + 1, 3, none⟩ = some (.int .i64 (c3 : Nat)) := block_cell hA.out rfl
          have d0 : wr.cell? ⟨w.heap.size, 0, none⟩ = some (.int .i64 0) := block_cell hR.out rfl
          have d1 : wr.cell? ⟨w.heap.size, 1, none⟩ = some (.int .i64 0) := block_cell hR.out rfl
          have d2 : wr.cell? ⟨w.heap.size, 2, none⟩ = some (.int .i64 0) := block_cell hR.out rfl
          have d3 : wr.cell? ⟨w.heap.size, 3, none⟩ = some (.int .i64 0) := block_cell hR.out rfl
          have d4 : wr.cell? ⟨w.heap.size, 4, none⟩ = some (.bool false) := block_cell hR.out rfl
          have f0 : wr.frozen? ⟨w.heap.size, 0, none⟩ = false := block_frozen hR.out
          have f1 : wr.frozen? ⟨w.heap.size, 1, none⟩ = false := block_frozen hR.out
          have f2 : wr.frozen? ⟨w.heap.size, 2, none⟩ = false := block_frozen hR.out
          have f3 : wr.frozen? ⟨w.heap.size, 3, none⟩ = false := block_frozen hR.out
          have f4 : wr.frozen? ⟨w.heap.size, 4, none⟩ = false := block_frozen hR.out
          have HRN : Hid (crossN true [x, y, z, u] = some ⟨c0, c1, c2, c3, true⟩) := crossN_mk (hS.out.1 (by omega)) (hS.out.2.1 (by omega)) (hS.out.2.2.1 (by omega)) (hS.out.2.2.2 (by omega))
          go_wp2
          rw [HRN.out]
          have hst := st5_block (a := .int .i64 (c0 : Nat)) (b := .int .i64 (c1 : Nat)) (c := .int .i64 (c2 : Nat)) (d := .int .i64 (c3 : Nat)) (p := .bool true) hR.out
          exact bodyPost_ret (v := crV (some ⟨c0, c1, c2, c3, true⟩)) (res_cells hst rfl rfl) rfl ⟨rfl, st5_below hb.out⟩
    · have HRN : Hid (crossN true Q = none) := crossN_len h4
      have hd4 : ((Q.length : Int) != 4) = true := by simp; omega
      rw [HRN.out]
      clear HLQ h4
      go_enter Tryz.func27, Tryz.ntmps27
      go_upto_region 7 with (go_at_call 44; refine (HP1.out _).mono ?_; rintro e9 w9 ⟨rfl, e99⟩; obtain rfl := e99.symm; clear e99)
      go_wp2_with (first
        | (go_at_call 45; refine (HCS.out _).mono ?_; rintro e9 w9 ⟨rfl, e99⟩; obtain rfl := e99.symm; clear e99)
        | (go_at_call 46; refine (HSP.out _ HB1.out).mono ?_; rintro e9 w9 ⟨rfl, rfl⟩))
      exact bodyPost_ret (v := crV none) (res_cells (alloc_old (alloc_at rfl)) rfl rfl) rfl ⟨rfl, HB1.out.alloc (by simp) _⟩
  · have hcs : Lib.hasSuffix r [93] = false := by rw [last_lib, decide_eq_false hc]
    rw [hcs] at HCS
    have HC2 : Hid (crossP l = none) := (by rw [HCP.out, if_neg hc] : crossP l = none)
    rw [HC2.out]
    clear hcs hc HC2 HCP HTT HQQ HLQ
    go_enter Tryz.func27, Tryz.ntmps27
    go_upto_region 7 with (go_at_call 44; refine (HP1.out _).mono ?_; rintro e9 w9 ⟨rfl, e99⟩; obtain rfl := e99.symm; clear e99)
    go_wp2_with (first
      | (go_at_call 45; refine (HCS.out _).mono ?_; rintro e9 w9 ⟨rfl, e99⟩; obtain rfl := e99.symm; clear e99)
      | (go_at_call 46; refine (HSP.out _ HB1.out).mono ?_; rintro e9 w9 ⟨rfl, rfl⟩))
    exact bodyPost_ret (v := crV none) (res_cells (alloc_old (alloc_at rfl)) rfl rfl) rfl ⟨rfl, HB1.out.alloc (by simp) _⟩

set_option maxHeartbeats 16000000 in
set_option maxRecDepth 100000 in
theorem parsedCross_minus (l : List UInt8) (w : World) (hl : l.length ≤ 10000) (h1 : Lib.hasPrefix l [88, 43, 91] = false) (h2 : Lib.hasPrefix l [88, 45, 91] = true) (hmax : MaxAt w) :
    Calls Tryz.prog 27 #[.string ⟨l.toArray⟩] w fun e w' => e = .returned (crV (crossP l)) ∧ Below w.heap.size w w' := by
  have HP : Hid (∀ (p : List UInt8) (W : World), Calls Tryz.prog 44 #[.string ⟨l.toArray⟩, .string ⟨p.toArray⟩] W fun e w' => e = .returned (.tuple #[.string ⟨(Lib.trimPrefix l p).toArray⟩, .bool (Lib.hasPrefix l p)]) ∧ w' = W) := fun p W => Tryz.strings_CutPrefix ⟨l.toArray⟩ ⟨p.toArray⟩ W
  obtain ⟨r, hr⟩ : ∃ r, l.drop 3 = r := ⟨_, rfl⟩
  have hrl : r.length ≤ 10000 := by rw [← hr, List.length_drop]; omega
  have HCP : Hid (crossP l = if r.getLast? = some 93 then crossN false (splitC r.dropLast) else none) := (by unfold crossP; rw [head_lib]; rw [h1, h2, hr]; rfl : crossP l = if r.getLast? = some 93 then crossN false (splitC r.dropLast) else none)
  have HP1 : Hid (∀ W : World, Calls Tryz.prog 44 #[.string ⟨l.toArray⟩, .string ⟨#[88, 43, 91]⟩] W fun e w' => e = .returned (.tuple #[.string ⟨l.toArray⟩, .bool false]) ∧ w' = W) := (fun W => by have h5 := HP.out [88, 43, 91] W; unfold Lib.trimPrefix at h5; rw [h1, if_neg (by simp)] at h5; exact h5 : ∀ W : World, Calls Tryz.prog 44 #[.string ⟨l.toArray⟩, .string ⟨#[88, 43, 91]⟩] W fun e w' => e = .returned (.tuple #[.string ⟨l.toArray⟩, .bool false]) ∧ w' = W)
  have HP2 : Hid (∀ W : World, Calls Tryz.prog 44 #[.string ⟨l.toArray⟩, .string ⟨#[88, 45, 91]⟩] W fun e w' => e = .returned (.tuple #[.string ⟨r.toArray⟩, .bool true]) ∧ w' = W) := (fun W => by have h5 := HP.out [88, 45, 91] W; unfold Lib.trimPrefix at h5; rw [h2, if_pos rfl] at h5; rw [← hr]; exact h5 : ∀ W : World, Calls Tryz.prog 44 #[.string ⟨l.toArray⟩, .string ⟨#[88, 45, 91]⟩] W fun e w' => e = .returned (.tuple #[.string ⟨r.toArray⟩, .bool true]) ∧ w' = W)
  clear HP h1 h2
  have HCS : Hid (∀ W : World, Calls Tryz.prog 45 #[.string ⟨r.toArray⟩, .string ⟨#[93]⟩] W fun e w' => e = .returned (.tuple #[.string ⟨(Lib.trimSuffix r [93]).toArray⟩, .bool (Lib.hasSuffix r [93])]) ∧ w' = W) := fun W => Tryz.strings_CutSuffix ⟨r.toArray⟩ ⟨#[93]⟩ W (by rw [arr_size]; omega)
  obtain ⟨t, ht⟩ : ∃ t, Lib.trimSuffix r [93] = t := ⟨_, rfl⟩
  have htl : t.length ≤ 10000 := by
    rw [← ht]
    unfold Lib.trimSuffix
    split
    · rw [List.length_take]; omega
    · exact hrl
  rw [ht] at HCS
  have HTT := hid_of ht
  obtain ⟨Q, hQ⟩ : ∃ Q, splitC t = Q := ⟨_, rfl⟩
  have HSP : Hid (∀ W : World, Below w.heap.size w W → Calls Tryz.prog 46 #[.string ⟨t.toArray⟩, .string ⟨#[44]⟩] W fun e w' => e = .returned (.slice (some ⟨W.heap.size, 0, none⟩) Q.length Q.length) ∧ w' = W.alloc (.cells (strW Q).toArray 9)) := fun W hb => by rw [← hQ]; exact split_any t W htl (hmax.on hb)
  have HQQ := hid_of hQ
  have HB1 : Hid (Below w.heap.size w (w.alloc (.cells #[.int .i64 0, .int .i64 0, .int .i64 0, .int .i64 0, .bool false] 33))) := (Below.refl _ _).alloc (Nat.le_refl _) _
  have hQl : Q.length ≤ 10001 := by rw [← hQ]; exact split_len t htl
  have HLQ : Hid (∀ q ∈ Q, q.length ≤ 10000) := (fun q hq => by rw [← hQ] at hq; exact split_mem t htl q hq : ∀ q ∈ Q, q.length ≤ 10000)
  clear hr ht hQ hmax hrl htl
  by_cases hc : r.getLast? = some 93
  · have hcs : Lib.hasSuffix r [93] = true := by rw [last_lib, decide_eq_true hc]
    have HTD : Hid (t = r.dropLast) := (by rw [← HTT.out]; exact trim_lib r hc : t = r.dropLast)
    rw [hcs] at HCS
    have HC2 : Hid (crossP l = crossN false Q) := (by rw [HCP.out, if_pos hc, ← HTD.out, HQQ.out] : crossP l = crossN false Q)
    rw [HC2.out]
    clear hcs hc HTD HC2 HCP HTT HQQ
    by_cases h4 : Q.length = 4
    · obtain ⟨x, y, z, u, rfl⟩ : ∃ x y z u, Q = [x, y, z, u] := by
        match Q, h4 with
        | [x, y, z, u], _ => exact ⟨x, y, z, u, rfl⟩
      have HLL : Hid (∀ q ∈ [x, y, z, u], q.length ≤ 10000) := HLQ.out
      clear HLQ h4 hQl
      go_enter Tryz.func27, Tryz.ntmps27
      go_upto_region 3 with (go_at_call 44; refine (HP1.out _).mono ?_; rintro e9 w9 ⟨rfl, e99⟩; obtain rfl := e99.symm; clear e99)
      go_upto_region 7 with (go_at_call 44; refine (HP2.out _).mono ?_; rintro e9 w9 ⟨rfl, e99⟩; obtain rfl := e99.symm; clear e99)
      go_upto_region 13 with (first
        | (go_at_call 45; refine (HCS.out _).mono ?_; rintro e9 w9 ⟨rfl, e99⟩; obtain rfl := e99.symm; clear e99)
        | (go_at_call 46; refine (HSP.out _ HB1.out).mono ?_; rintro e9 w9 ⟨rfl, rfl⟩))
      simp only [strW, List.map_cons, List.map_nil]
      go_loopw [48] (fun v48 wr => ∃ (k c0 c1 c2 c3 : Nat), k ≤ 4 ∧ v48 = .int .i64 (k : Nat) ∧ Hid (St x y z u k c0 c1 c2 c3) ∧ Hid (Below w.heap.size w wr) ∧ Hid (wr.heap[w.heap.size]? = some (.cells #[.int .i64 0, .int .i64 0, .int .i64 0, .int .i64 0, .bool false] 33 (0, 0))) ∧ Hid (wr.heap[w.heap.size + 1]? = some (.cells #[.string ⟨x.toArray⟩, .string ⟨y.toArray⟩, .string ⟨z.toArray⟩, .string ⟨u.toArray⟩] 9 (0, 0))) ∧ Hid (wr.heap[w.heap.size + 1 + 1]? = some (.cells #[.int .i64 (c0 : Nat), .int .i64 (c1 : Nat), .int .i64 (c2 : Nat), .int .i64 (c3 : Nat)] 60 (0, 0)))) (fun i _ => 4 - (intOf i).toNat)
      case atStart => exact ⟨0, 0, 0, 0, 0, by omega, rfl, ⟨fun h => by omega, fun h => by omega, fun h => by omega, fun h => by omega⟩, ((((Below.refl w.heap.size w).alloc (Nat.le_refl _) _).alloc (by simp) _).alloc (by simp; omega) _), alloc_old (alloc_old (alloc_at rfl)), alloc_old (alloc_at (by simp)), alloc_at (by simp)⟩
      case round =>
        rename World => wr
        obtain ⟨k, c0, c1, c2, c3, hk, rfl, hS, hb, hR, hQ, hA⟩ := hrel
        have lR := (Array.getElem?_eq_some_iff.1 hR.out).1
        have lQ := (Array.getElem?_eq_some_iff.1 hQ.out).1
        have lA := (Array.getElem?_eq_some_iff.1 hA.out).1
        have h5 : k = 0 ∨ k = 1 ∨ k = 2 ∨ k = 3 ∨ k = 4 := by omega
        rcases h5 with rfl | rfl | rfl | rfl | rfl
        · have hcl : wr.cell? ⟨w.heap.size + 1, 0, none⟩ = some (.string ⟨x.toArray⟩) := block_cell hQ.out rfl
          cases hn : numP x with
          | none =>
            have HV : Hid (numV x = .tuple #[.int .i64 0, .bool false]) := (by unfold numV; rw [hn] : numV x = .tuple #[.int .i64 0, .bool false])
            have HRN : Hid (crossN false [x, y, z, u] = none) := (by unfold crossN; simp [hn] : crossN false [x, y, z, u] = none)
            clear hn
            go_wp2_with (go_at_call 47; refine (number_any x _ (HLL.out x (by simp))).mono ?_; rw [HV.out]; rintro e9 w5 ⟨rfl, hb5⟩; have HB5 : Hid (Below w.heap.size w w5) := hb.out.trans (hb5.mono hb.out.size); have HR5 : Hid (w5.heap[w.heap.size]? = some (.cells #[.int .i64 0, .int .i64 0, .int .i64 0, .int .i64 0, .bool false] 33 (0, 0))) := (hb5.block _ lR).trans hR.out; have lR5 := (Array.getElem?_eq_some_iff.1 HR5.out).1; have f0 : w5.frozen? ⟨w.heap.size, 0, none⟩ = false := block_frozen HR5.out; have f1 : w5.frozen? ⟨w.heap.size, 1, none⟩ = false := block_frozen HR5.out; have f2 : w5.frozen? ⟨w.heap.size, 2, none⟩ = false := block_frozen HR5.out; have f3 : w5.frozen? ⟨w.heap.size, 3, none⟩ = false := block_frozen HR5.out; have f4 : w5.frozen? ⟨w.heap.size, 4, none⟩ = false := block_frozen HR5.out; have d0 : w5.cell? ⟨w.heap.size, 0, none⟩ = some (.int .i64 0) := block_cell HR5.out rfl; have d1 : w5.cell? ⟨w.heap.size, 1, none⟩ = some (.int .i64 0) := block_cell HR5.out rfl; have d2 : w5.cell? ⟨w.heap.size, 2, none⟩ = some (.int .i64 0) := block_cell HR5.out rfl; have d3 : w5.cell? ⟨w.heap.size, 3, none⟩ = some (.int .i64 0) := block_cell HR5.out rfl; have d4 : w5.cell? ⟨w.heap.size, 4, none⟩ = some (.bool false) := block_cell HR5.out rfl; clear hb5)
            rw [HRN.out]
            have hst := st5_block (a := .int .i64 0) (b := .int .i64 0) (c := .int .i64 0) (d := .int .i64 0) (p := .bool false) HR5.out
            exact bodyPost_ret (v := crV none) (res_cells hst rfl rfl) rfl ⟨rfl, st5_below HB5.out⟩
          | some n =>
            have HV : Hid (numV x = .tuple #[.int .i64 (n : Nat), .bool true]) := (by unfold numV; rw [hn] : numV x = .tuple #[.int .i64 (n : Nat), .bool true])
            have HNQ := hid_of hn
            clear hn
            go_wp2_with (go_at_call 47; refine (number_any x _ (HLL.out x (by simp))).mono ?_; rw [HV.out]; rintro e9 w5 ⟨rfl, hb5⟩; have HB5 : Hid (Below w.heap.size w w5) := hb.out.trans (hb5.mono hb.out.size); have HR5 : Hid (w5.heap[w.heap.size]? = some (.cells #[.int .i64 0, .int .i64 0, .int .i64 0, .int .i64 0, .bool false] 33 (0, 0))) := (hb5.block _ lR).trans hR.out; have HA5 : Hid (w5.heap[w.heap.size + 1 + 1]? = some (.cells #[.int .i64 (c0 : Nat), .int .i64 (c1 : Nat), .int .i64 (c2 : Nat), .int .i64 (c3 : Nat)] 60 (0, 0))) := (hb5.block _ lA).trans hA.out; have HQ5 : Hid (w5.heap[w.heap.size + 1]? = some (.cells #[.string ⟨x.toArray⟩, .string ⟨y.toArray⟩, .string ⟨z.toArray⟩, .string ⟨u.toArray⟩] 9 (0, 0))) := (hb5.block _ lQ).trans hQ.out; have t2 : w5.cell? ⟨w.heap.size + 1 + 1, 0, none⟩ = some (.int .i64 (c0 : Nat)) := block_cell HA5.out rfl; have t3 : w5.frozen? ⟨w.heap.size + 1 + 1, 0, none⟩ = false := block_frozen HA5.out; have lA5 := (Array.getElem?_eq_some_iff.1 HA5.out).1; clear hb5)
            go_roundw
            case rel => exact ⟨1, n, c1, c2, c3, by omega, rfl, st_step0 hS.out HNQ.out, HB5.out.setCell (p := ⟨w.heap.size + 1 + 1, 0, none⟩) (by simp; omega) _, set_other HR5.out (by omega), set_other HQ5.out (by omega), set_block HA5.out⟩
            case measure => simp only [intOf]; omega
        · have hcl : wr.cell? ⟨w.heap.size + 1, 1, none⟩ = some (.string ⟨y.toArray⟩) := block_cell hQ.out rfl
          cases hn : numP y with
          | none =>
            have HV : Hid (numV y = .tuple #[.int .i64 0, .bool false]) := (by unfold numV; rw [hn] : numV y = .tuple #[.int .i64 0, .bool false])
            have HRN : Hid (crossN false [x, y, z, u] = none) := (by unfold crossN; simp [hn] : crossN false [x, y, z, u] = none)
            clear hn
            go_wp2_with (go_at_call 47; refine (number_any y _ (HLL.out y (by simp))).mono ?_; rw [HV.out]; rintro e9 w5 ⟨rfl, hb5⟩; have HB5 : Hid (Below w.heap.size w w5) := hb.out.trans (hb5.mono hb.out.size); have HR5 : Hid (w5.heap[w.heap.size]? = some (.cells #[.int .i64 0, .int .i64 0, .int .i64 0, .int .i64 0, .bool false] 33 (0, 0))) := (hb5.block _ lR).trans hR.out; have lR5 := (Array.getElem?_eq_some_iff.1 HR5.out).1; have f0 : w5.frozen? ⟨w.heap.size, 0, none⟩ = false := block_frozen HR5.out; have f1 : w5.frozen? ⟨w.heap.size, 1, none⟩ = false := block_frozen HR5.out; have f2 : w5.frozen? ⟨w.heap.size, 2, none⟩ = false := block_frozen HR5.out; have f3 : w5.frozen? ⟨w.heap.size, 3, none⟩ = false := block_frozen HR5.out; have f4 : w5.frozen? ⟨w.heap.size, 4, none⟩ = false := block_frozen HR5.out; have d0 : w5.cell? ⟨w.heap.size, 0, none⟩ = some (.int .i64 0) := block_cell HR5.out rfl; have d1 : w5.cell? ⟨w.heap.size, 1, none⟩ = some (.int .i64 0) := block_cell HR5.out rfl; have d2 : w5.cell? ⟨w.heap.size, 2, none⟩ = some (.int .i64 0) := block_cell HR5.out rfl; have d3 : w5.cell? ⟨w.heap.size, 3, none⟩ = some (.int .i64 0) := block_cell HR5.out rfl; have d4 : w5.cell? ⟨w.heap.size, 4, none⟩ = some (.bool false) := block_cell HR5.out rfl; clear hb5)
            rw [HRN.out]
            have hst := st5_block (a := .int .i64 0) (b := .int .i64 0) (c := .int .i64 0) (d := .int .i64 0) (p := .bool false) HR5.out
            exact bodyPost_ret (v := crV none) (res_cells hst rfl rfl) rfl ⟨rfl, st5_below HB5.out⟩
          | some n =>
            have HV : Hid (numV y = .tuple #[.int .i64 (n : Nat), .bool true]) := (by unfold numV; rw [hn] : numV y = .tuple #[.int .i64 (n : Nat), .bool true])
            have HNQ := hid_of hn
            clear hn
            go_wp2_with (go_at_call 47; refine (number_any y _ (HLL.out y (by simp))).mono ?_; rw [HV.out]; rintro e9 w5 ⟨rfl, hb5⟩; have HB5 : Hid (Below w.heap.size w w5) := hb.out.trans (hb5.mono hb.out.size); have HR5 : Hid (w5.heap[w.heap.size]? = some (.cells #[.int .i64 0, .int .i64 0, .int .i64 0, .int .i64 0, .bool false] 33 (0, 0))) := (hb5.block _ lR).trans hR.out; have HA5 : Hid (w5.heap[w.heap.size + 1 + 1]? = some (.cells #[.int .i64 (c0 : Nat), .int .i64 (c1 : Nat), .int .i64 (c2 : Nat), .int .i64 (c3 : Nat)] 60 (0, 0))) := (hb5.block _ lA).trans hA.out; have HQ5 : Hid (w5.heap[w.heap.size + 1]? = some (.cells #[.string ⟨x.toArray⟩, .string ⟨y.toArray⟩, .string ⟨z.toArray⟩, .string ⟨u.toArray⟩] 9 (0, 0))) := (hb5.block _ lQ).trans hQ.out; have t2 : w5.cell? ⟨w.heap.size + 1 + 1, 1, none⟩ = some (.int .i64 (c1 : Nat)) := block_cell HA5.out rfl; have t3 : w5.frozen? ⟨w.heap.size + 1 + 1, 1, none⟩ = false := block_frozen HA5.out; have lA5 := (Array.getElem?_eq_some_iff.1 HA5.out).1; clear hb5)
            go_roundw
            case rel => exact ⟨2, c0, n, c2, c3, by omega, rfl, st_step1 hS.out HNQ.out, HB5.out.setCell (p := ⟨w.heap.size + 1 + 1, 1, none⟩) (by simp; omega) _, set_other HR5.out (by omega), set_other HQ5.out (by omega), set_block HA5.out⟩
            case measure => simp only [intOf]; omega
        · have hcl : wr.cell? ⟨w.heap.size + 1, 2, none⟩ = some (.string ⟨z.toArray⟩) := block_cell hQ.out rfl
          cases hn : numP z with
          | none =>
            have HV : Hid (numV z = .tuple #[.int .i64 0, .bool false]) := (by unfold numV; rw [hn] : numV z = .tuple #[.int .i64 0, .bool false])
            have HRN : Hid (crossN false [x, y, z, u] = none) := (by unfold crossN; simp [hn] : crossN false [x, y, z, u] = none)
            clear hn
            go_wp2_with (go_at_call 47; refine (number_any z _ (HLL.out z (by simp))).mono ?_; rw [HV.out]; rintro e9 w5 ⟨rfl, hb5⟩; have HB5 : Hid (Below w.heap.size w w5) := hb.out.trans (hb5.mono hb.out.size); have HR5 : Hid (w5.heap[w.heap.size]? = some (.cells #[.int .i64 0, .int .i64 0, .int .i64 0, .int .i64 0, .bool false] 33 (0, 0))) := (hb5.block _ lR).trans hR.out; have lR5 := (Array.getElem?_eq_some_iff.1 HR5.out).1; have f0 : w5.frozen? ⟨w.heap.size, 0, none⟩ = false := block_frozen HR5.out; have f1 : w5.frozen? ⟨w.heap.size, 1, none⟩ = false := block_frozen HR5.out; have f2 : w5.frozen? ⟨w.heap.size, 2, none⟩ = false := block_frozen HR5.out; have f3 : w5.frozen? ⟨w.heap.size, 3, none⟩ = false := block_frozen HR5.out; have f4 : w5.frozen? ⟨w.heap.size, 4, none⟩ = false := block_frozen HR5.out; have d0 : w5.cell? ⟨w.heap.size, 0, none⟩ = some (.int .i64 0) := block_cell HR5.out rfl; have d1 : w5.cell? ⟨w.heap.size, 1, none⟩ = some (.int .i64 0) := block_cell HR5.out rfl; have d2 : w5.cell? ⟨w.heap.size, 2, none⟩ = some (.int .i64 0) := block_cell HR5.out rfl; have d3 : w5.cell? ⟨w.heap.size, 3, none⟩ = some (.int .i64 0) := block_cell HR5.out rfl; have d4 : w5.cell? ⟨w.heap.size, 4, none⟩ = some (.bool false) := block_cell HR5.out rfl; clear hb5)
            rw [HRN.out]
            have hst := st5_block (a := .int .i64 0) (b := .int .i64 0) (c := .int .i64 0) (d := .int .i64 0) (p := .bool false) HR5.out
            exact bodyPost_ret (v := crV none) (res_cells hst rfl rfl) rfl ⟨rfl, st5_below HB5.out⟩
          | some n =>
            have HV : Hid (numV z = .tuple #[.int .i64 (n : Nat), .bool true]) := (by unfold numV; rw [hn] : numV z = .tuple #[.int .i64 (n : Nat), .bool true])
            have HNQ := hid_of hn
            clear hn
            go_wp2_with (go_at_call 47; refine (number_any z _ (HLL.out z (by simp))).mono ?_; rw [HV.out]; rintro e9 w5 ⟨rfl, hb5⟩; have HB5 : Hid (Below w.heap.size w w5) := hb.out.trans (hb5.mono hb.out.size); have HR5 : Hid (w5.heap[w.heap.size]? = some (.cells #[.int .i64 0, .int .i64 0, .int .i64 0, .int .i64 0, .bool false] 33 (0, 0))) := (hb5.block _ lR).trans hR.out; have HA5 : Hid (w5.heap[w.heap.size + 1 + 1]? = some (.cells #[.int .i64 (c0 : Nat), .int .i64 (c1 : Nat), .int .i64 (c2 : Nat), .int .i64 (c3 : Nat)] 60 (0, 0))) := (hb5.block _ lA).trans hA.out; have HQ5 : Hid (w5.heap[w.heap.size + 1]? = some (.cells #[.string ⟨x.toArray⟩, .string ⟨y.toArray⟩, .string ⟨z.toArray⟩, .string ⟨u.toArray⟩] 9 (0, 0))) := (hb5.block _ lQ).trans hQ.out; have t2 : w5.cell? ⟨w.heap.size + 1 + 1, 2, none⟩ = some (.int .i64 (c2 : Nat)) := block_cell HA5.out rfl; have t3 : w5.frozen? ⟨w.heap.size + 1 + 1, 2, none⟩ = false := block_frozen HA5.out; have lA5 := (Array.getElem?_eq_some_iff.1 HA5.out).1; clear hb5)
            go_roundw
            case rel => exact ⟨3, c0, c1, n, c3, by omega, rfl, st_step2 hS.out HNQ.out, HB5.out.setCell (p := ⟨w.heap.size + 1 + 1, 2, none⟩) (by simp; omega) _, set_other HR5.out (by omega), set_other HQ5.out (by omega), set_block HA5.out⟩
            case measure => simp only [intOf]; omega
        · have hcl : wr.cell? ⟨w.heap.size + 1, 3, none⟩ = some (.string ⟨u.toArray⟩) := block_cell hQ.out rfl
          cases hn : numP u with
          | none =>
            have HV : Hid (numV u = .tuple #[.int .i64 0, .bool false]) := (by unfold numV; rw [hn] : numV u = .tuple #[.int .i64 0, .bool false])
            have HRN : Hid (crossN false [x, y, z, u] = none) := (by unfold crossN; simp [hn] : crossN false [x, y, z, u] = none)
            clear hn
            go_wp2_with (go_at_call 47; refine (number_any u _ (HLL.out u (by simp))).mono ?_; rw [HV.out]; rintro e9 w5 ⟨rfl, hb5⟩; have HB5 : Hid (Below w.heap.size w w5) := hb.out.trans (hb5.mono hb.out.size); have HR5 : Hid (w5.heap[w.heap.size]? = some (.cells #[.int .i64 0, .int .i64 0, .int .i64 0, .int .i64 0, .bool false] 33 (0, 0))) := (hb5.block _ lR).trans hR.out; have lR5 := (Array.getElem?_eq_some_iff.1 HR5.out).1; have f0 : w5.frozen? ⟨w.heap.size, 0, none⟩ = false := block_frozen HR5.out; have f1 : w5.frozen? ⟨w.heap.size, 1, none⟩ = false := block_frozen HR5.out; have f2 : w5.frozen? ⟨w.heap.size, 2, none⟩ = false := block_frozen HR5.out; have f3 : w5.frozen? ⟨w.heap.size, 3, none⟩ = false := block_frozen HR5.out; have f4 : w5.frozen? ⟨w.heap.size, 4, none⟩ = false := block_frozen HR5.out; have d0 : w5.cell? ⟨w.heap.size, 0, none⟩ = some (.int .i64 0) := block_cell HR5.out rfl; have d1 : w5.cell? ⟨w.heap.size, 1, none⟩ = some (.int .i64 0) := block_cell HR5.out rfl; have d2 : w5.cell? ⟨w.heap.size, 2, none⟩ = some (.int .i64 0) := block_cell HR5.out rfl; have d3 : w5.cell? ⟨w.heap.size, 3, none⟩ = some (.int .i64 0) := block_cell HR5.out rfl; have d4 : w5.cell? ⟨w.heap.size, 4, none⟩ = some (.bool false) := block_cell HR5.out rfl; clear hb5)
            rw [HRN.out]
            have hst := st5_block (a := .int .i64 0) (b := .int .i64 0) (c := .int .i64 0) (d := .int .i64 0) (p := .bool false) HR5.out
            exact bodyPost_ret (v := crV none) (res_cells hst rfl rfl) rfl ⟨rfl, st5_below HB5.out⟩
          | some n =>
            have HV : Hid (numV u = .tuple #[.int .i64 (n : Nat), .bool true]) := (by unfold numV; rw [hn] : numV u = .tuple #[.int .i64 (n : Nat), .bool true])
            have HNQ := hid_of hn
            clear hn
            go_wp2_with (go_at_call 47; refine (number_any u _ (HLL.out u (by simp))).mono ?_; rw [HV.out]; rintro e9 w5 ⟨rfl, hb5⟩; have HB5 : Hid (Below w.heap.size w w5) := hb.out.trans (hb5.mono hb.out.size); have HR5 : Hid (w5.heap[w.heap.size]? = some (.cells #[.int .i64 0, .int .i64 0, .int .i64 0, .int .i64 0, .bool false] 33 (0, 0))) := (hb5.block _ lR).trans hR.out; have HA5 : Hid (w5.heap[w.heap.size + 1 + 1]? = some (.cells #[.int .i64 (c0 : Nat), .int .i64 (c1 : Nat), .int .i64 (c2 : Nat), .int .i64 (c3 : Nat)] 60 (0, 0))) := (hb5.block _ lA).trans hA.out; have HQ5 : Hid (w5.heap[w.heap.size + 1]? = some (.cells #[.string ⟨x.toArray⟩, .string ⟨y.toArray⟩, .string ⟨z.toArray⟩, .string ⟨u.toArray⟩] 9 (0, 0))) := (hb5.block _ lQ).trans hQ.out; have t2 : w5.cell? ⟨w.heap.size + 1 + 1, 3, none⟩ = some (.int .i64 (c3 : Nat)) := block_cell HA5.out rfl; have t3 : w5.frozen? ⟨w.heap.size + 1 + 1, 3, none⟩ = false := block_frozen HA5.out; have lA5 := (Array.getElem?_eq_some_iff.1 HA5.out).1; clear hb5)
            go_roundw
            case rel => exact ⟨4, c0, c1, c2, n, by omega, rfl, st_step3 hS.out HNQ.out, HB5.out.setCell (p := ⟨w.heap.size + 1 + 1, 3, none⟩) (by simp; omega) _, set_other HR5.out (by omega), set_other HQ5.out (by omega), set_block HA5.out⟩
            case measure => simp only [intOf]; omega
        · have a0 : wr.cell? ⟨w.heap.size + 1 + 1, 0, none⟩ = some (.int .i64 (c0 : Nat)) := block_cell hA.out rfl
          have a1 : wr.cell? ⟨w.heap.size + 1 + 1, 1, none⟩ = some (.int .i64 (c1 : Nat)) := block_cell hA.out rfl
          have a2 : wr.cell? ⟨w.heap.size + 1 + 1, 2, none⟩ = some (.int .i64 (c2 : Nat)) := block_cell hA.out rfl
          have a3 : wr.cell? ⟨w.heap.size + 1 + 1, 3, none⟩ = some (.int .i64 (c3 : Nat)) := block_cell hA.out rfl
          have d0 : wr.cell? ⟨w.heap.size, 0, none⟩ = some (.int .i64 0) := block_cell hR.out rfl
          have d1 : wr.cell? ⟨w.heap.size, 1, none⟩ = some (.int .i64 0) := block_cell hR.out rfl
          have d2 : wr.cell? ⟨w.heap.size, 2, none⟩ = some (.int .i64 0) := block_cell hR.out rfl
          have d3 : wr.cell? ⟨w.heap.size, 3, none⟩ = some (.int .i64 0) := block_cell hR.out rfl
          have d4 : wr.cell? ⟨w.heap.size, 4, none⟩ = some (.bool false) := block_cell hR.out rfl
          have f0 : wr.frozen? ⟨w.heap.size, 0, none⟩ = false := block_frozen hR.out
          have f1 : wr.frozen? ⟨w.heap.size, 1, none⟩ = false := block_frozen hR.out
          have f2 : wr.frozen? ⟨w.heap.size, 2, none⟩ = false := block_frozen hR.out
          have f3 : wr.frozen? ⟨w.heap.size, 3, none⟩ = false := block_frozen hR.out
          have f4 : wr.frozen? ⟨w.heap.size, 4, none⟩ = false := block_frozen hR.out
          have HRN : Hid (crossN false [x, y, z, u] = some ⟨c0, c1, c2, c3, false⟩) := crossN_mk (hS.out.1 (by omega)) (hS.out.2.1 (by omega)) (hS.out.2.2.1 (by omega)) (hS.out.2.2.2 (by omega))
          go_wp2
          rw [HRN.out]
          have hst := st5_block (a := .int .i64 (c0 : Nat)) (b := .int .i64 (c1 : Nat)) (c := .int .i64 (c2 : Nat)) (d := .int .i64 (c3 : Nat)) (p := .bool false) hR.out
          exact bodyPost_ret (v := crV (some ⟨c0, c1, c2, c3, false⟩)) (res_cells hst rfl rfl) rfl ⟨rfl, st5_below hb.out⟩
    · have HRN : Hid (crossN false Q = none) := crossN_len h4
      have hd4 : ((Q.length : Int) != 4) = true := by simp; omega
      rw [HRN.out]
      clear HLQ h4
      go_enter Tryz.func27, Tryz.ntmps27
      go_upto_region 3 with (go_at_call 44; refine (HP1.out _).mono ?_; rintro e9 w9 ⟨rfl, e99⟩; obtain rfl := e99.symm; clear e99)
      go_upto_region 7 with (go_at_call 44; refine (HP2.out _).mono ?_; rintro e9 w9 ⟨rfl, e99⟩; obtain rfl := e99.symm; clear e99)
      go_wp2_with (first
        | (go_at_call 45; refine (HCS.out _).mono ?_; rintro e9 w9 ⟨rfl, e99⟩; obtain rfl := e99.symm; clear e99)
        | (go_at_call 46; refine (HSP.out _ HB1.out).mono ?_; rintro e9 w9 ⟨rfl, rfl⟩))
      exact bodyPost_ret (v := crV none) (res_cells (alloc_old (alloc_at rfl)) rfl rfl) rfl ⟨rfl, HB1.out.alloc (by simp) _⟩
  · have hcs : Lib.hasSuffix r [93] = false := by rw [last_lib, decide_eq_false hc]
    rw [hcs] at HCS
    have HC2 : Hid (crossP l = none) := (by rw [HCP.out, if_neg hc] : crossP l = none)
    rw [HC2.out]
    clear hcs hc HC2 HCP HTT HQQ HLQ
    go_enter Tryz.func27, Tryz.ntmps27
    go_upto_region 3 with (go_at_call 44; refine (HP1.out _).mono ?_; rintro e9 w9 ⟨rfl, e99⟩; obtain rfl := e99.symm; clear e99)
    go_upto_region 7 with (go_at_call 44; refine (HP2.out _).mono ?_; rintro e9 w9 ⟨rfl, e99⟩; obtain rfl := e99.symm; clear e99)
    go_wp2_with (first
      | (go_at_call 45; refine (HCS.out _).mono ?_; rintro e9 w9 ⟨rfl, e99⟩; obtain rfl := e99.symm; clear e99)
      | (go_at_call 46; refine (HSP.out _ HB1.out).mono ?_; rintro e9 w9 ⟨rfl, rfl⟩))
    exact bodyPost_ret (v := crV none) (res_cells (alloc_old (alloc_at rfl)) rfl rfl) rfl ⟨rfl, HB1.out.alloc (by simp) _⟩

theorem parsedCross_any (l : List UInt8) (w : World) (hl : l.length ≤ 10000) (hmax : MaxAt w) :
    Calls Tryz.prog 27 #[.string ⟨l.toArray⟩] w fun e w' => e = .returned (crV (crossP l)) ∧ Below w.heap.size w w' := by
  cases h1 : Lib.hasPrefix l [88, 43, 91] with
  | true => exact parsedCross_plus l w hl h1 hmax
  | false =>
    cases h2 : Lib.hasPrefix l [88, 45, 91] with
    | true => exact parsedCross_minus l w hl h1 h2 hmax
    | false =>
      have h3 : crossP l = none := by unfold crossP; rw [head_lib, h1, h2]; rfl
      rw [h3]
      exact parsedCross_no l w h1 h2
end Go.Proofs.YtlimfajjmhfnaaaGreatDoor

/- Ends of strands: the walks of braid.Ends and of ref.EndsOf. -/
import Derived.Test.YtdlmhcickcgnfaaBR2
namespace Go.Proofs.Ytdlmhcickcgnfaa
open Go.RowKit

/-- The first k places. -/
def plTo (d : Int) (k i : Nat) : Int := if i < k then (i : Int) + d else 0
theorem plTo_zero (n : Nat) (d : Int) : List.replicate n 0 = mapI n (plTo d 0) := (mapI_zero _ _ (fun j _ => by unfold plTo; rw [if_neg (by omega)])).symm
theorem plTo_next (n : Nat) (d : Int) (k : Nat) : (mapI n (plTo d k)).set k ((k : Int) + d) = mapI n (plTo d (k + 1)) := by
  refine mapI_set _ _ _ _ _ fun j _ => ?_
  unfold plTo
  by_cases e : j = k
  · subst e; rw [if_pos (by omega), if_pos rfl]
  · rw [if_neg e]
    by_cases h : j < k
    · rw [if_pos h, if_pos (by omega)]
    · rw [if_neg h, if_neg (by omega)]
theorem plTo_all (n : Nat) (d : Int) : mapI n (plTo d n) = mapI n fun i => (i : Int) + d := mapI_congr _ _ _ fun j hj => by unfold plTo; rw [if_pos hj]

set_option maxHeartbeats 2000000 in
set_option maxRecDepth 100000 in
theorem brSize_any (x : Int) (w : World) (h1 : -1000 ≤ x) (h2 : x ≤ 1000) :
    Calls Try.prog 35 #[.int .i64 x] w fun e w' => e = .returned (.int .i64 (x.natAbs : Int)) ∧ w' = w := by
  by_cases h0 : x < 0
  · have HE : Hid (-x = (x.natAbs : Int)) := (by omega : -x = (x.natAbs : Int))
    have hc : x < -x := by omega
    go_enter Try.func35, Try.ntmps35
    go_wp2
    go_ret
    exact ⟨by rw [← HE.out]; rfl, rfl⟩
  · have HE : Hid (x = (x.natAbs : Int)) := (by omega : x = (x.natAbs : Int))
    have hc : ¬ x < -x := by omega
    go_enter Try.func35, Try.ntmps35
    go_wp2
    go_ret
    exact ⟨by rw [← HE.out]; rfl, rfl⟩

set_option maxHeartbeats 4000000 in
set_option maxRecDepth 100000 in
theorem places_any (n : Nat) (w : World) (hn : n ≤ 6) :
    Calls Try.prog 31 #[.int .i64 (n : Nat)] w fun e w' => ∃ a c, e = .returned (.slice a n c) ∧ w'.ownsRow w.heap.size 3 1 (.slice a n c) n (intsV (mapI n fun i => (i : Int) + 1)) ∧ w.grownBy w' none := by
  obtain ⟨i0, hi, hz0, hz1, hz2⟩ := info_parts infoInt
  go_enter Try.func31, Try.ntmps31
  go_wp2_with (first | (at_make; refine wpList_make_full _ rfl _ _ 22 rfl w.heap.size 3 i0 (.int .i64 0) 1 Try.underlying22 hi hz0 hz1 .i64 .i64 _ _ n rfl rfl rfl rfl (by rw [hz2]; omega) (by unfold maxLen; omega) (by simp) ?_; intro w1 hrow1 hg1; refine Hid.out ?_))
  refine Lib.hid ?_
  rw [made_zero, plTo_zero n 1] at hrow1
  obtain ⟨g, hg⟩ : ∃ g, w.heap.size = g := ⟨_, rfl⟩
  have HG : Hid (w.heap.size = g) := hg
  rw [hg] at hrow1 ⊢
  have HR1 : Hid (w1.ownsRow g 3 1 (.slice (some ⟨g, 0, none⟩) n n) n (intsV (mapI n (plTo 1 0))) ∧ w.grownBy w1 none) := ⟨hrow1, hg1⟩
  clear hrow1 hg1 hg
  go_wp2
  go_loopw [8] (fun v8 wr => ∃ k : Nat, k ≤ n ∧ v8 = .int .i64 (k : Nat) ∧ Hid (wr.ownsRow g 3 1 (.slice (some ⟨g, 0, none⟩) n n) n (intsV (mapI n (plTo 1 k))) ∧ w.grownBy wr none)) (fun v8 _ => n - (intOf v8).toNat)
  case atStart => exact ⟨0, Nat.zero_le _, rfl, HR1.out⟩
  case round =>
    clear HR1
    rename World => W1
    obtain ⟨k, hkn, rfl, hp⟩ := hrel
    by_cases hk : k < n
    · have hkI : (k : Int) < (n : Int) := by omega
      have e0 := hp.out.1.cellAt k (by omega)
      rw [intsV_get _ k (by rw [mapI_len]; exact hk)] at e0
      have f0 := hp.out.1.frozenAt k
      have lg := (hp.out.1.lt g rfl).2
      have hst := hp.out.1.stored k (.int .i64 ((k : Int) + 1))
      rw [intsV_set, plTo_next] at hst
      have HST : Hid ((W1.setCell ⟨g, k, none⟩ (.int .i64 ((k : Int) + 1))).ownsRow g 3 1 (.slice (some ⟨g, 0, none⟩) n n) n (intsV (mapI n (plTo 1 (k + 1)))) ∧ w.grownBy (W1.setCell ⟨g, k, none⟩ (.int .i64 ((k : Int) + 1))) none) := ⟨hst.1, ⟨hst.2.os.trans hp.out.2.os, hst.2.tape.trans hp.out.2.tape, hst.2.output.trans hp.out.2.output, Nat.le_trans hp.out.2.size hst.2.size, fun q hq _ => (hst.2.block q (Nat.lt_of_lt_of_le hq hp.out.2.size) (fun e => by have h1 : q = g := Option.some.inj e; have := HG.out; omega)).trans (hp.out.2.block q hq (by simp))⟩⟩
      clear hst
      generalize (mapI n (plTo 1 k)).getD k 0 = z at e0
      go_wp2
      go_roundw
      case rel => exact ⟨k + 1, by omega, by go_num, HST.out⟩
      case measure => simp only [intOf]; omega
    · obtain rfl : k = n := by omega
      rw [plTo_all] at hp
      go_wp2
      go_ret
      exact ⟨_, _, rfl, by rw [HG.out]; exact hp.out.1, hp.out.2⟩

set_option maxHeartbeats 8000000 in
set_option maxRecDepth 100000 in
theorem trade_any (B g cap n i j : Nat) (l : List Int) (w : World) (hl : l.length = n) (hn : n ≤ 1000) (hi : i < n) (hij : i = j + 1) (h : w.ownsRow B 3 1 (.slice (some ⟨g, 0, none⟩) n cap) n (intsV l)) :
    Calls Try.prog 34 #[.slice (some ⟨g, 0, none⟩) n cap, .int .i64 (i : Nat)] w fun e w' => e = .returned (.tuple #[]) ∧ w'.ownsRow B 3 1 (.slice (some ⟨g, 0, none⟩) n cap) n (intsV (trd l i)) ∧ w.grownBy w' (some g) := by
  have e0 : w.cell? ⟨g, j, none⟩ = some (.int .i64 (l.getD j 0)) := by rw [h.cellAt j (by omega), intsV_get _ j (by omega)]
  have e1 : w.cell? ⟨g, i, none⟩ = some (.int .i64 (l.getD i 0)) := by rw [h.cellAt i (by omega), intsV_get _ i (by omega)]
  have f0 : w.frozen? ⟨g, j, none⟩ = false := h.frozenAt j
  have f1 : w.frozen? ⟨g, i, none⟩ = false := h.frozenAt i
  have hst := h.stored j (.int .i64 (l.getD i 0))
  have hst2 := hst.1.stored i (.int .i64 (l.getD j 0))
  have etr : (l.set j (l.getD i 0)).set i (l.getD j 0) = trd l i := by unfold trd; rw [show i - 1 = j by omega]
  rw [intsV_set, intsV_set, etr] at hst2
  obtain ⟨x, hx⟩ : ∃ x, l.getD j 0 = x := ⟨_, rfl⟩
  obtain ⟨y, hy⟩ : ∃ y, l.getD i 0 = y := ⟨_, rfl⟩
  rw [hx] at e0 hst2
  rw [hy] at e1 hst hst2
  have HST : Hid (((w.setCell ⟨g, j, none⟩ (.int .i64 y)).setCell ⟨g, i, none⟩ (.int .i64 x)).ownsRow B 3 1 (.slice (some ⟨g, 0, none⟩) n cap) n (intsV (trd l i)) ∧ w.grownBy ((w.setCell ⟨g, j, none⟩ (.int .i64 y)).setCell ⟨g, i, none⟩ (.int .i64 x)) (some g)) := ⟨hst2.1, grown_trans hst.2 hst2.2⟩
  have hgw := (h.lt g rfl).2
  have hiI : (i : Int) < (n : Int) := by omega
  have hjI : (j : Int) < (n : Int) := by omega
  have hne : j ≠ i := by omega
  have hjn : j < n := by omega
  have ew : IntKind.i64.wrap ((i : Int) - 1) = (j : Int) := by rw [IntWalk.i64_in _ (by omega)]; omega
  clear hst hst2 etr hx hy hij h hl
  go_enter Try.func34, Try.ntmps34
  go_wp2
  apply cut_one
  case h =>
    intro key
    go_region_with (fail)
    all_goals exact key.out
  obtain ⟨X, hX⟩ : ∃ X, X = ((w.setCell ⟨g, j, none⟩ (.int .i64 y)).setCell ⟨g, i, none⟩ (.int .i64 x)).drew := ⟨_, rfl⟩
  have HX : Hid (X.ownsRow B 3 1 (.slice (some ⟨g, 0, none⟩) n cap) n (intsV (trd l i)) ∧ w.grownBy X (some g)) := (by
    rw [hX]
    exact ⟨own_any HST.out.1 (grown_below ((Below.refl _ _).drew) none), grown_trans HST.out.2 (grown_below ((Below.refl _ _).drew) _)⟩)
  rw [← hX]
  clear hX HST e0 e1 f0 f1
  go_wp2
  exact bodyPost_end (v := .tuple #[]) (results_none rfl _ _ _) rfl ⟨rfl, HX.out⟩

set_option maxHeartbeats 4000000 in
set_option maxRecDepth 100000 in
theorem turnedRound_any (v : Value) (n : Nat) (l : List Int) (w : World) (hn : n ≤ 1000) (hp : PlOk n l) (h : RdAt w w.heap.size 1 v n (intsV l)) :
    Calls Try.prog 36 #[v] w fun e w' => ∃ a c, e = .returned (.slice a n c) ∧ w'.ownsRow w.heap.size 3 1 (.slice a n c) n (intsV (endT l n)) ∧ Below w.heap.size w w' := by
  obtain ⟨i0, hi, hz0, hz1, hz2⟩ := info_parts infoInt
  obtain ⟨a, cap, rfl⟩ : ∃ a cap, v = .slice a n cap := by obtain ⟨a, cap, e, -⟩ := h; exact ⟨a, cap, e⟩
  have HRD : Hid (RdAt w w.heap.size 1 (.slice a n cap) n (intsV l)) := h
  have HP : Hid (PlOk n l) := hp
  clear h hp
  go_enter Try.func36, Try.ntmps36
  go_wp2_with (first | (at_make; refine wpList_make_full _ rfl _ _ 22 rfl w.heap.size 3 i0 (.int .i64 0) 1 Try.underlying22 hi hz0 hz1 .i64 .i64 _ _ n rfl rfl rfl rfl (by rw [hz2]; omega) (by unfold maxLen; omega) (by simp) ?_; intro w1 hrow1 hg1; refine Hid.out ?_))
  refine Lib.hid ?_
  rw [made_zero] at hrow1
  obtain ⟨g, hg⟩ : ∃ g, w.heap.size = g := ⟨_, rfl⟩
  have HG : Hid (w.heap.size = g) := hg
  have HB1 : Hid (Below w.heap.size w w1) := (Below.refl _ _).grown hg1 (Nat.le_refl _) (fun k hk => by cases hk)
  rw [hg] at hrow1
  rw [hg]
  have HR1 : Hid (w1.ownsRow g 3 1 (.slice (some ⟨g, 0, none⟩) n n) n (intsV (endT l 0))) := (by
    have e : endT l 0 = List.replicate n 0 := by show List.replicate l.length 0 = _; rw [HP.out.ln]
    rw [e]
    exact hrow1)
  clear hrow1 hg1 hg
  go_wp2
  go_loopw [11] (fun v11 wr => ∃ k : Nat, k ≤ n ∧ v11 = .int .i64 (k : Nat) ∧ Hid (wr.ownsRow g 3 1 (.slice (some ⟨g, 0, none⟩) n n) n (intsV (endT l k))) ∧ Hid (Below w.heap.size w wr)) (fun v11 _ => n - (intOf v11).toNat)
  case atStart => exact ⟨0, Nat.zero_le _, rfl, HR1.out, HB1.out⟩
  case round =>
    clear HR1 HB1
    rename World => W1
    obtain ⟨k, hkn, rfl, hp, hb⟩ := hrel
    by_cases hk : k < n
    · have hkI : (k : Int) < (n : Int) := by omega
      have hll := HP.out.ln
      have hrd := HRD.out.on hb.out
      have hrr : RdAt W1 w.heap.size 1 (.slice a l.length cap) l.length (intsV l) := by rw [hll]; exact hrd
      obtain ⟨b, off, ea, hlt, hc⟩ := hrr.intAt k (by omega)
      obtain ⟨r1, r2⟩ := HP.out.rng k hk
      have HEN : Hid (endT l (k + 1) = (endT l k).set (l.getD k 0 - 1).toNat ((k : Int) + 1)) := endT_next l k
      obtain ⟨q, hq⟩ : ∃ q : Nat, l.getD k 0 = (q : Int) + 1 := ⟨(l.getD k 0 - 1).toNat, by omega⟩
      rw [hq] at hc r2 HEN
      have hqn : q < n := by omega
      have hqI : (q : Int) < (n : Int) := by omega
      have HEN2 : Hid (endT l (k + 1) = (endT l k).set q ((k : Int) + 1)) := (by rw [HEN.out, show ((q : Int) + 1 - 1).toNat = q by omega] : endT l (k + 1) = (endT l k).set q ((k : Int) + 1))
      have e0 := hp.out.cellAt q (by omega)
      rw [intsV_get _ q (by rw [endT_len, hll]; exact hqn)] at e0
      generalize (endT l k).getD q 0 = z at e0
      have f0 := hp.out.frozenAt q
      have lg := (hp.out.lt g rfl).2
      have lb : b < W1.heap.size := Nat.lt_of_lt_of_le hlt hb.out.size
      have hst := hp.out.stored q (.int .i64 ((k : Int) + 1))
      rw [intsV_set, ← HEN2.out] at hst
      have HST : Hid ((W1.setCell ⟨g, q, none⟩ (.int .i64 ((k : Int) + 1))).ownsRow g 3 1 (.slice (some ⟨g, 0, none⟩) n n) n (intsV (endT l (k + 1)))) := hst.1
      have HBS : Hid (Below w.heap.size w (W1.setCell ⟨g, q, none⟩ (.int .i64 ((k : Int) + 1)))) := hb.out.grown hst.2 hb.out.size (fun x hx => by have h1 : g = x := Option.some.inj hx; have := HG.out; omega)
      clear hst HEN HEN2 hrd hrr hll r1 r2 hq
      subst ea
      go_wp2
      go_roundw
      case rel => exact ⟨k + 1, by omega, by go_num, HST.out, HBS.out⟩
      case measure => simp only [intOf]; omega
    · obtain rfl : k = n := by omega
      go_wp2
      go_ret
      exact ⟨_, _, rfl, by rw [HG.out]; exact hp.out, hb.out⟩

/-- A list of one word. -/
theorem ints_one {w W : World} {a : Option Addr} {c g : Nat} {l : List Int} (h : RdAt w w.heap.size 1 (.slice a l.length c) l.length (intsV l)) (hW : Below w.heap.size w W) (hg : W.heap[g]? = some (.cells #[.slice a l.length c] 22 (0, 0))) : IntsRd W W.heap.size (.slice (some ⟨g, 0, none⟩) 1 1) [l] := by
  refine ⟨[.slice a l.length c], rfl, ⟨_, _, rfl, fun _ => ⟨g, 0, rfl, (Array.getElem?_eq_some_iff.1 hg).1, fun j hj => ?_⟩⟩, fun j hj => ?_⟩
  · obtain rfl : j = 0 := by simp at hj; omega
    exact block_cell hg rfl
  · obtain rfl : j = 0 := by simp at hj; omega
    exact (h.on hW).mono hW.size

theorem refusal_one {w W : World} {a : Option Addr} {c g : Nat} {l : List Int} (n : Int) (hl : l.length * 8 ≤ 140737488355328) (h : RdAt w w.heap.size 1 (.slice a l.length c) l.length (intsV l)) (hW : Below w.heap.size w W) (hg : W.heap[g]? = some (.cells #[.slice a l.length c] 22 (0, 0))) :
    Calls Try.prog 15 #[.int .i64 n, .slice (some ⟨g, 0, none⟩) 1 1] W fun e w' => e = .returned (.int .i64 (wordN n l)) ∧ Below W.heap.size W w' := by
  have := refusal_any (.slice (some ⟨g, 0, none⟩) 1 1) [l] n W (by simp) (fun j hj => by
    obtain rfl : j = 0 := by simp at hj; omega
    show l.length ≤ _
    omega) (ints_one h hW hg)
  rw [wordsN_one] at this
  exact this
end Go.Proofs.Ytdlmhcickcgnfaa

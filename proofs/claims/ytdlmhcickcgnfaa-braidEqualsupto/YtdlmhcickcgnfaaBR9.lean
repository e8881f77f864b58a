/- Texts of a braid: the walk of braid.Act. -/
import Derived.Test.YtdlmhcickcgnfaaBR8
namespace Go.Proofs.Ytdlmhcickcgnfaa
open Go.RowKit

/-- The first k texts at first. -/
def acTo (n k : Nat) : List (List Int) := (List.range n).map fun (i : Nat) => if i < k then [(i : Int) + 1] else []
theorem acTo_len (n k : Nat) : (acTo n k).length = n := by simp [acTo]
theorem acTo_at (n k i : Nat) : (acTo n k).getD i [] = if i < n ∧ i < k then [(i : Int) + 1] else [] := by
  unfold acTo
  by_cases h : i < n
  · simp only [List.getD_eq_getElem?_getD, List.getElem?_map, List.getElem?_range h, Option.map_some, Option.getD_some]
    by_cases q : i < k
    · rw [if_pos q, if_pos ⟨h, q⟩]
    · rw [if_neg q, if_neg (fun r => q r.2)]
  · rw [if_neg (fun r => h r.1), List.getD_eq_getElem?_getD, List.getElem?_eq_none (by simp; omega)]; rfl
theorem acTo_next (n k : Nat) : (acTo n k).set k [(k : Int) + 1] = acTo n (k + 1) := by
  apply List.ext_getElem?
  intro j
  by_cases hj : j < n
  · have h1 : ((acTo n k).set k [(k : Int) + 1])[j]? = some (((acTo n k).set k [(k : Int) + 1]).getD j []) := by
      rw [List.getD_eq_getElem?_getD, List.getElem?_eq_getElem (by rw [List.length_set, acTo_len]; exact hj)]; rfl
    have h2 : (acTo n (k + 1))[j]? = some ((acTo n (k + 1)).getD j []) := by
      rw [List.getD_eq_getElem?_getD, List.getElem?_eq_getElem (by rw [acTo_len]; exact hj)]; rfl
    rw [h1, h2, getD_setL, acTo_at, acTo_at, acTo_len]
    by_cases e : j = k
    · subst e; rw [if_pos ⟨rfl, hj⟩, if_pos ⟨hj, by omega⟩]
    · rw [if_neg (fun q => e q.1)]
      by_cases q : j < k
      · rw [if_pos ⟨hj, q⟩, if_pos ⟨hj, by omega⟩]
      · rw [if_neg (fun r => q r.2), if_neg (fun r => by omega)]
  · rw [List.getElem?_eq_none (by rw [List.length_set, acTo_len]; omega), List.getElem?_eq_none (by rw [acTo_len]; omega)]
theorem acTo_all (n : Nat) : acTo n n = act0 n := by
  unfold acTo act0
  exact List.map_congr_left fun i hi => by rw [if_pos (List.mem_range.1 hi)]
/-- The list of texts that was just made: nothing in it. -/
theorem TxAt.made {W : World} {B g n : Nat} (h : W.ownsRow B 22 1 (.slice (some ⟨g, 0, none⟩) n n) n (List.replicate n (.slice none 0 0))) : TxAt W B g n n (acTo n 0) := by
  refine ⟨acTo_len _ _, _, h, fun j hj => ?_⟩
  rw [acTo_at, if_neg (fun q => by omega)]
  refine ⟨none, 0, ?_, fun _ => rfl, fun h0 => by simp at h0⟩
  simp [List.getD_eq_getElem?_getD, hj]
theorem made_nilsB (n : Nat) : (madeCells (Value.slice none 0 0).cells (n * 1)).toList = List.replicate n (.slice none 0 0) := by
  have e : (Value.slice none 0 0).cells = #[Value.slice none 0 0] := rfl
  rw [e, toList_madeCells_one, Nat.mul_one]
theorem infoIntsB : (Try.prog.info? 22).map (fun i => (i.zero, i.size, i.bytes)) = some (some (.slice none 0 0), 1, 24) := by kernel_rfl

set_option maxHeartbeats 4000000 in
set_option maxRecDepth 100000 in
theorem act_no (a : Option Addr) (c : Nat) (l : List Int) (n : Int) (w : World) (hl : l.length * 8 ≤ 140737488355328) (hn : wordN n l ≠ 0) (h : RdAt w w.heap.size 1 (.slice a l.length c) l.length (intsV l)) :
    Calls Try.prog 20 #[.int .i64 n, .slice a l.length c] w fun e w' => e = .returned (.tuple #[.slice none 0 0, .int .i64 (wordN n l)]) ∧ Below w.heap.size w w' := by
  obtain ⟨Y, hY⟩ : ∃ Y, Y = w.alloc (.cells #[.slice a l.length c] 22) := ⟨_, rfl⟩
  have HY : Hid (Y = w.alloc (.cells #[.slice a l.length c] 22)) := hY
  have HBY : Hid (Below w.heap.size w Y) := (by rw [hY]; exact (Below.refl _ _).alloc (Nat.le_refl _) _ : Below w.heap.size w Y)
  have hT : Y.heap[w.heap.size]? = some (.cells #[.slice a l.length c] 22 (0, 0)) := by rw [hY]; exact alloc_at rfl
  have HF : Hid (Calls Try.prog 15 #[.int .i64 n, .slice (some ⟨w.heap.size, 0, none⟩) 1 1] Y fun e w' => e = .returned (.int .i64 (wordN n l)) ∧ Below Y.heap.size Y w') := refusal_one n hl h HBY.out hT
  clear hY hT h
  generalize wordN n l = r at hn HF ⊢
  have hr0 : (r == 0) = false := beq_eq_false_iff_ne.2 hn
  generalize l.length = m at HY hl ⊢
  go_enter Try.func20, Try.ntmps20
  go_wp2_with (rw [← HY.out]; go_at_call 15; refine HF.out.mono ?_; rintro e9 w2 ⟨rfl, hb2⟩; refine Hid.out ?_)
  refine Lib.hid ?_
  have HB2 : Hid (Below w.heap.size w w2) := HBY.out.trans (hb2.mono HBY.out.size)
  clear hb2
  go_wp2
  go_ret2
  exact ⟨rfl, HB2.out⟩

set_option maxHeartbeats 8000000 in
set_option maxRecDepth 100000 in
theorem act_yes (a : Option Addr) (c n : Nat) (l : List Int) (w : World) (hl : l.length * 8 ≤ 140737488355328) (hn : wordN (n : Int) l = 0) (h : RdAt w w.heap.size 1 (.slice a l.length c) l.length (intsV l)) :
    Calls Try.prog 20 #[.int .i64 (n : Nat), .slice a l.length c] w fun e w' => ∃ a2 c2, e = .returned (.tuple #[.slice a2 n c2, .int .i64 0]) ∧ IntsRd w' w'.heap.size (.slice a2 n c2) (actT n l l.length) ∧ Below w.heap.size w w' := by
  obtain ⟨n2, n6, hlet, hl20⟩ := wordN_ok hn
  have hn6 : n ≤ 6 := by omega
  have HLT : Hid (∀ j, j < l.length → l.getD j 0 ≠ 0 ∧ -(n : Int) < l.getD j 0 ∧ l.getD j 0 < (n : Int)) := hlet
  have HAB : Hid (∀ j, j < l.length → (l.getD j 0).natAbs < n) := fun j hj => by have := hlet j hj; omega
  have HOK : Hid (∀ k, k ≤ l.length → TxOk n (3 ^ k) (actT n l k) ∧ 3 ^ k ≤ 3486784401) := fun k hk => ⟨actT_ok n hn6 l k hk, three_pow k (by omega)⟩
  have HNX : Hid (∀ k, k < l.length → actT n l (k + 1) = stp (actT n l k) (l.getD k 0)) := fun k hk => actT_next n l k hk
  obtain ⟨i1, hj, hy0, hy1, hy2⟩ := info_parts infoIntsB
  obtain ⟨Y, hY⟩ : ∃ Y, Y = w.alloc (.cells #[.slice a l.length c] 22) := ⟨_, rfl⟩
  have HY : Hid (Y = w.alloc (.cells #[.slice a l.length c] 22)) := hY
  have HBY : Hid (Below w.heap.size w Y) := (by rw [hY]; exact (Below.refl _ _).alloc (Nat.le_refl _) _ : Below w.heap.size w Y)
  have hT : Y.heap[w.heap.size]? = some (.cells #[.slice a l.length c] 22 (0, 0)) := by rw [hY]; exact alloc_at rfl
  have HF : Hid (Calls Try.prog 15 #[.int .i64 (n : Nat), .slice (some ⟨w.heap.size, 0, none⟩) 1 1] Y fun e w' => e = .returned (.int .i64 0) ∧ Below Y.heap.size Y w') := (by have := refusal_one (n : Int) hl h HBY.out hT; rw [hn] at this; exact this)
  have HRD : Hid (RdAt w w.heap.size 1 (.slice a l.length c) l.length (intsV l)) := h
  clear hY hT h hn hlet
  obtain ⟨m, hm⟩ : ∃ m, l.length = m := ⟨_, rfl⟩
  have HM : Hid (l.length = m) := hm
  rw [hm] at HY hl hl20 HLT HAB HOK HNX ⊢
  clear hm
  go_enter Try.func20, Try.ntmps20
  go_wp2_with (rw [← HY.out]; go_at_call 15; refine HF.out.mono ?_; rintro e9 w2 ⟨rfl, hb2⟩; refine Hid.out ?_)
  refine Lib.hid ?_
  have HB2 : Hid (Below w.heap.size w w2) := HBY.out.trans (hb2.mono HBY.out.size)
  clear hb2
  go_wp2_with (first | (at_make; refine wpList_make_full _ rfl _ _ 34 rfl w2.heap.size 22 i1 (.slice none 0 0) 1 Try.underlying34 hj hy0 hy1 .i64 .i64 _ _ n rfl rfl rfl rfl (by rw [hy2]; omega) (by unfold maxLen; omega) (by simp) ?_; intro w3 hrow3 hg3; refine Hid.out ?_))
  refine Lib.hid ?_
  rw [made_nilsB] at hrow3
  obtain ⟨g, hg⟩ : ∃ g, w2.heap.size = g := ⟨_, rfl⟩
  have HB3 : Hid (Below w.heap.size w w3) := HB2.out.grown hg3 HB2.out.size (fun k hk => by cases hk)
  have HWG : Hid (w.heap.size ≤ g) := (by have := HB2.out.size; omega : w.heap.size ≤ g)
  rw [hg] at hrow3
  rw [hg]
  have HT3 : Hid (TxAt w3 g g n n (acTo n 0)) := TxAt.made hrow3
  clear hrow3 hg3 hg HB2
  go_wp2
  go_loopw [22] (fun v22 wr => ∃ k : Nat, k ≤ n ∧ v22 = .int .i64 (k : Nat) ∧ Hid (TxAt wr g g n n (acTo n k)) ∧ Hid (Below w.heap.size w wr)) (fun v22 _ => n - (intOf v22).toNat)
  case atStart => exact ⟨0, Nat.zero_le _, rfl, HT3.out, HB3.out⟩
  case round =>
    clear HT3 HB3
    rename World => W1
    obtain ⟨k, hkn, rfl, hp, hb⟩ := hrel
    by_cases hk : k < n
    · have hkI : (k : Int) < (n : Int) := by omega
      obtain ⟨q, hq⟩ : ∃ q, W1.heap.size = q := ⟨_, rfl⟩
      obtain ⟨V, hV⟩ : ∃ V, V = W1.alloc (.cells #[.int .i64 ((k : Int) + 1)] 3) := ⟨_, rfl⟩
      have lg := hp.out.lt.2
      have hgV : W1.grownBy V none := by rw [hV]; exact World.grownBy_alloc _ _ _
      have hqV : V.heap[q]? = some (.cells #[.int .i64 ((k : Int) + 1)] 3 (0, 0)) := by rw [hV, ← hq]; exact alloc_at rfl
      obtain ⟨x1, x2, x3, -⟩ := (hp.out.any hgV).row k hk
      have z1 := (hp.out.any hgV).frozen k
      have lgV := (hp.out.any hgV).lt.2
      have hone := (hp.out.any hgV).one (r := [(k : Int) + 1]) hk (RdX.of_box (g := g) hqV (by omega))
      rw [acTo_next] at hone
      have HO : Hid (TxAt (V.setCell ⟨g, k, none⟩ (.slice (some ⟨q, 0, none⟩) 1 1)) g g n n (acTo n (k + 1))) := hone.1
      have HBO : Hid (Below w.heap.size w (V.setCell ⟨g, k, none⟩ (.slice (some ⟨q, 0, none⟩) 1 1))) := (hb.out.grown hgV hb.out.size (fun x hx => by cases hx)).grown hone.2 (Nat.le_trans hb.out.size hgV.size) (fun x hx => by have h1 : g = x := Option.some.inj hx; have := HWG.out; omega)
      generalize ((acTo n k).getD k []).length = e1 at x3
      rw [hV] at x3 z1 lgV HO HBO
      clear hone hgV hqV hV
      go_wp2
      go_roundw
      case rel => exact ⟨k + 1, by omega, by go_num, HO.out, HBO.out⟩
      case measure => simp only [intOf]; omega
    · obtain rfl : n = k := by omega
      have HT4 : Hid (TxAt W1 g g n n (actT n l 0)) := (by have := hp.out; rw [acTo_all] at this; exact this)
      have HB4 : Hid (Below w.heap.size w W1) := hb.out
      clear hp hb hk hkn
      go_wp2
      go_loopw [34] (fun v34 wr => ∃ k : Nat, k ≤ m ∧ v34 = .int .i64 (k : Nat) ∧ Hid (TxAt wr g g n n (actT n l k)) ∧ Hid (Below w.heap.size w wr)) (fun v34 _ => m - (intOf v34).toNat)
      case atStart => exact ⟨0, Nat.zero_le _, rfl, HT4.out, HB4.out⟩
      case round =>
        clear HT4 HB4
        rename World => W2
        obtain ⟨k, hkm, rfl, hp, hb⟩ := hrel
        by_cases hk : k < m
        · have hkI : (k : Int) < (m : Int) := by omega
          obtain ⟨b, off, ea, hlt, hc⟩ := (HRD.out.on hb.out).intAt k (by rw [HM.out]; exact hk)
          obtain ⟨q1, -, -⟩ := HLT.out k hk
          have hq := HAB.out k hk
          have HN := HNX.out k hk
          obtain ⟨ok1, ok2⟩ := HOK.out k (by omega)
          generalize l.getD k 0 = x at hc q1 hq HN
          have HTR : Hid (Calls Try.prog 29 #[.slice (some ⟨g, 0, none⟩) n n, .int .i64 x] W2 fun e w' => e = .returned (.tuple #[]) ∧ TxAt w' g g n n (stp (actT n l k) x) ∧ W2.grownBy w' (some g)) := brOne_any g g n n (3 ^ k) (actT n l k) x W2 hn6 ok2 ok1 q1 hq hp.out
          have HNN : Hid (actT n l (k + 1) = stp (actT n l k) x) := HN
          have lb : b < W2.heap.size := Nat.lt_of_lt_of_le hlt hb.out.size
          subst ea
          clear HN ok1 ok2 q1 hq
          go_wp2_with (go_at_call 29; refine HTR.out.mono ?_; rintro e9 w5 ⟨rfl, hr5, hg5⟩; refine Hid.out ?_)
          refine Lib.hid ?_
          have HR5 : Hid (TxAt w5 g g n n (actT n l (k + 1))) := (by rw [HNN.out]; exact hr5)
          have HB5 : Hid (Below w.heap.size w w5) := hb.out.grown hg5 hb.out.size (fun q hq => by have h1 : g = q := Option.some.inj hq; have := HWG.out; omega)
          clear hr5 hg5
          go_wp2
          go_roundw
          case rel => exact ⟨k + 1, by omega, by go_num, HR5.out, HB5.out⟩
          case measure => simp only [intOf]; omega
        · obtain rfl : m = k := by omega
          have HFN : Hid (IntsRd W2 W2.heap.size (.slice (some ⟨g, 0, none⟩) n n) (actT n l m) ∧ Below w.heap.size w W2) := ⟨hp.out.ints, hb.out⟩
          go_wp2
          go_ret2
          exact ⟨_, _, rfl, HFN.out⟩
end Go.Proofs.Ytdlmhcickcgnfaa

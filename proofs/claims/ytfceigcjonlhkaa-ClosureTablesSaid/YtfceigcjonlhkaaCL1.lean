/- Braids closed: the walks of closure.size, crossing.told and climbed. -/
import Derived.Test.YtfceigcjonlhkaaBR0P
import Derived.Test.YtfceigcjonlhkaaBR3P
namespace Go.Proofs.Ytfceigcjonlhkaa
open Go.RowKit

set_option maxHeartbeats 2000000 in
set_option maxRecDepth 100000 in
theorem clSize_any (x : Int) (w : World) (h1 : -1000 ≤ x) (h2 : x ≤ 1000) :
    Calls Try.prog 126 #[.int .i64 x] w fun e w' => e = .returned (.int .i64 (x.natAbs : Int)) ∧ w' = w := by
  by_cases h0 : x < 0
  · have HE : Hid (-x = (x.natAbs : Int)) := (by omega : -x = (x.natAbs : Int))
    have hc : x < -x := by omega
    go_enter Try.func126, Try.ntmps126
    go_wp2
    go_ret
    exact ⟨by rw [← HE.out]; rfl, rfl⟩
  · have HE : Hid (x = (x.natAbs : Int)) := (by omega : x = (x.natAbs : Int))
    have hc : ¬ x < -x := by omega
    go_enter Try.func126, Try.ntmps126
    go_wp2
    go_ret
    exact ⟨by rw [← HE.out]; rfl, rfl⟩

/-- The crossing that closure.told tells. -/
def toX (x g0 g1 g2 g3 : Int) : Cr := if 0 < x then ⟨g1, g3, g2, g0, true⟩ else ⟨g0, g1, g3, g2, false⟩
set_option maxHeartbeats 4000000 in
set_option maxRecDepth 100000 in
theorem clTold_any (x g0 g1 g2 g3 : Int) (w : World) :
    Calls Try.prog 125 #[.agg #[.int .i64 g0, .int .i64 g1, .int .i64 g2, .int .i64 g3], .int .i64 x] w fun e w' => e = .returned (.agg #[.int .i64 (toX x g0 g1 g2 g3).a, .int .i64 (toX x g0 g1 g2 g3).b, .int .i64 (toX x g0 g1 g2 g3).c, .int .i64 (toX x g0 g1 g2 g3).d, .bool (toX x g0 g1 g2 g3).plus]) ∧ Below w.heap.size w w' := by
  by_cases h0 : 0 < x
  · have e : toX x g0 g1 g2 g3 = ⟨g1, g3, g2, g0, true⟩ := if_pos h0
    rw [e]
    go_enter Try.func125, Try.ntmps125
    go_wp2
    exact bodyPost_ret (v := .agg #[.int .i64 g1, .int .i64 g3, .int .i64 g2, .int .i64 g0, .bool true]) (by simp [results, Try.results125, go_sem]) rfl ⟨rfl, below2 _ _ _⟩
  · have e : toX x g0 g1 g2 g3 = ⟨g0, g1, g3, g2, false⟩ := if_neg h0
    rw [e]
    go_enter Try.func125, Try.ntmps125
    go_wp2
    exact bodyPost_ret (v := .agg #[.int .i64 g0, .int .i64 g1, .int .i64 g3, .int .i64 g2, .bool false]) (by simp [results, Try.results125, go_sem]) rfl ⟨rfl, below2 _ _ _⟩

/-- Crossings that a strand comes to, as cells. -/
def psV (W : List (Nat × Nat)) : List Value := W.flatMap fun p => [.int .i64 (p.1 : Nat), .int .i64 (p.2 : Nat), .int .i64 ((3 - p.2 : Nat) : Nat)]
theorem psV_len (W : List (Nat × Nat)) : (psV W).length = W.length * 3 := by
  induction W with
  | nil => rfl
  | cons t l ih => simp [psV] at *; omega
theorem psV_app (W V : List (Nat × Nat)) : psV (W ++ V) = psV W ++ psV V := by simp [psV]
theorem psV_get (R : List (Nat × Nat)) (k : Nat) (h : k < R.length) : (psV R)[k * 3]? = some (.int .i64 ((R.getD k (0, 0)).1 : Nat)) ∧ (psV R)[k * 3 + 1]? = some (.int .i64 ((R.getD k (0, 0)).2 : Nat)) ∧ (psV R)[k * 3 + 2]? = some (.int .i64 ((3 - (R.getD k (0, 0)).2 : Nat) : Nat)) := by
  induction R generalizing k with
  | nil => simp at h
  | cons v V ih =>
    have e : psV (v :: V) = .int .i64 (v.1 : Nat) :: .int .i64 (v.2 : Nat) :: .int .i64 ((3 - v.2 : Nat) : Nat) :: psV V := by simp [psV]
    cases k with
    | zero => rw [e]; exact ⟨rfl, rfl, rfl⟩
    | succ k =>
      have := ih k (by simpa using h)
      rw [e, show (k + 1) * 3 = k * 3 + 1 + 1 + 1 by omega]
      simpa using this
theorem psV_one (W : List (Nat × Nat)) : ∀ u ∈ psV W, u.oneCell' = true := by
  intro u hu
  obtain ⟨p, -, h⟩ := List.mem_flatMap.1 hu
  simp only [List.mem_cons, List.not_mem_nil, or_false] at h
  rcases h with rfl | rfl | rfl <;> rfl
theorem new_cell3c (W : World) (a b c : Value) (e : TypeId) : ∀ j u, [a, b, c][j]? = some u → (W.alloc (.cells #[a, b, c] e)).cell? ((⟨W.heap.size, 0, none⟩ : Addr).add j) = some u := by
  intro j u hj
  rw [Addr.add_lit, Nat.zero_add]
  have hh : (W.alloc (.cells #[a, b, c] e)).heap[W.heap.size]? = some (.cells #[a, b, c] e (0, 0)) := Array.getElem?_push_size
  match j, hj with
  | 0, hj => simp at hj; subst hj; exact block_cell hh rfl
  | 1, hj => simp at hj; subst hj; exact block_cell hh rfl
  | 2, hj => simp at hj; subst hj; exact block_cell hh rfl
theorem three_oneI (x : Nat) (y z : Int) : ∀ u ∈ [Value.int .i64 (x : Nat), .int .i64 y, .int .i64 z], u.oneCell' = true := by
  intro u hu
  simp only [List.mem_cons, List.not_mem_nil, or_false] at hu
  rcases hu with rfl | rfl | rfl <;> rfl
theorem infoPs : (Try.prog.info? 203).map (fun i => (i.zero, i.size, i.bytes)) = some (some (.agg #[.int .i64 0, .int .i64 0, .int .i64 0]), 3, 24) := by kernel_rfl

set_option maxHeartbeats 8000000 in
set_option maxRecDepth 100000 in
theorem climbed_any (a : Option Addr) (c n p : Nat) (l : List Int) (w : World) (hw : ∀ j, j < l.length → 1 ≤ (l.getD j 0).natAbs ∧ (l.getD j 0).natAbs < n) (hn : n ≤ 6) (h1 : 1 ≤ p) (h2 : p ≤ n) (hl : l.length ≤ 20) (h : RdAt w w.heap.size 1 (.slice a l.length c) l.length (intsV l)) :
    Calls Try.prog 123 #[.slice a l.length c, .int .i64 (p : Nat)] w fun e w' => ∃ a2 c2, e = .returned (.slice a2 (cl l p l.length).length c2) ∧ w'.ownsRow w.heap.size 203 3 (.slice a2 (cl l p l.length).length c2) (cl l p l.length).length (psV (cl l p l.length)) ∧ Below w.heap.size w w' := by
  have HLT : Hid (∀ j, j < l.length → 1 ≤ (l.getD j 0).natAbs ∧ (l.getD j 0).natAbs < n) := hw
  have HPR : Hid (∀ k, k ≤ l.length → 1 ≤ pl l p k ∧ pl l p k ≤ n) := fun k hk => pl_rng hw h1 h2 k hk
  have HCL : Hid (∀ k, (cl l p k).length ≤ k) := cl_len l p
  have HRD : Hid (RdAt w w.heap.size 1 (.slice a l.length c) l.length (intsV l)) := h
  obtain ⟨i1, hj, hy0, hy1, hy2⟩ := info_parts infoPs
  clear h hw
  obtain ⟨m, hm⟩ : ∃ m, l.length = m := ⟨_, rfl⟩
  have HM : Hid (l.length = m) := hm
  rw [hm] at hl HLT HPR ⊢
  clear hm
  go_enter Try.func123, Try.ntmps123
  go_wp2
  go_loopw [1, 5, 10] (fun v1 v5 v10 wr => ∃ (k q n5 c5 : Nat) (a5 : Option Addr), k ≤ m ∧ n5 ≤ k ∧ 1 ≤ q ∧ q ≤ n ∧ v10 = .int .i64 (k : Nat) ∧ v1 = .int .i64 (q : Nat) ∧ v5 = .slice a5 n5 c5 ∧ Hid (pl l p k = q) ∧ Hid ((cl l p k).length = n5) ∧ Hid (wr.ownsRow w.heap.size 203 3 (.slice a5 n5 c5) n5 (psV (cl l p k))) ∧ Hid (Below w.heap.size w wr)) (fun _ _ v10 _ => m - (intOf v10).toNat)
  case atStart => exact ⟨0, p, 0, 0, none, Nat.zero_le _, Nat.le_refl _, h1, h2, rfl, rfl, rfl, rfl, rfl, World.ownsRow_nil _ _ _ _, Below.refl _ _⟩
  case round =>
    rename World => W1
    obtain ⟨k, q, n5, c5, a5, hkm, hn5, hq1, hq2, rfl, rfl, rfl, HQ, HN5, hO, hb⟩ := hrel
    by_cases hk : k < m
    · have hkI : (k : Int) < (m : Int) := by omega
      obtain ⟨b, off, ea, hlt, hc⟩ := (HRD.out.on hb.out).intAt k (by rw [HM.out]; exact hk)
      have hx := HLT.out k hk
      have HNX : Hid (pl l p (k + 1) = plc q (l.getD k 0).natAbs ∧ cl l p (k + 1) = cl l p k ++ (if q = (l.getD k 0).natAbs then [(k, 0)] else if q = (l.getD k 0).natAbs + 1 then [(k, 1)] else [])) := (⟨by rw [← HQ.out]; rfl, by rw [← HQ.out]; rfl⟩ : pl l p (k + 1) = plc q (l.getD k 0).natAbs ∧ cl l p (k + 1) = cl l p k ++ (if q = (l.getD k 0).natAbs then [(k, 0)] else if q = (l.getD k 0).natAbs + 1 then [(k, 1)] else []))
      generalize l.getD k 0 = x at hc hx HNX
      have HSZ : Hid (∀ W, Calls Try.prog 126 #[.int .i64 x] W fun e w' => e = .returned (.int .i64 (x.natAbs : Int)) ∧ w' = W) := fun W => clSize_any x W (by omega) (by omega)
      obtain ⟨i, hi⟩ : ∃ i, x.natAbs = i := ⟨_, rfl⟩
      rw [hi] at HSZ HNX hx
      have lb : b < W1.heap.size := Nat.lt_of_lt_of_le hlt hb.out.size
      subst ea
      clear hi
      have hx1 := hx.1
      have hx2 := hx.2
      clear hx
      by_cases e1 : q = i
      · have t1 : ((i : Int) == (q : Int)) = true := by rw [e1]; exact beq_self_eq_true _
        have HN1 : Hid (pl l p (k + 1) = q + 1 ∧ cl l p (k + 1) = cl l p k ++ [(k, 0)]) := (by rw [HNX.out.1, HNX.out.2, if_pos e1]; unfold plc; rw [if_pos e1, e1]; exact ⟨rfl, rfl⟩ : pl l p (k + 1) = q + 1 ∧ cl l p (k + 1) = cl l p k ++ [(k, 0)])
        have hqn : q + 1 ≤ n := by omega
        clear HNX e1
        go_wp2_with (first
          | (at_builtin; refine wpList_append_own _ rfl _ _ 174 rfl w.heap.size 203 i1 (.agg #[.int .i64 0, .int .i64 0, .int .i64 0]) 3 24 Try.underlying174 hj hy0 hy1 hy2 rfl (by decide) _ _ _ rfl (hO.out.alloc _) ⟨W1.heap.size, 0, none⟩ 1 1 [.int .i64 (k : Nat), .int .i64 0, .int .i64 3] rfl rfl (new_cell3c _ _ _ _ _) (three_oneI _ _ _) (by unfold maxLen; omega) (by omega) (by have := hb.out.size; simp; omega) ?_; intro v8 w8 hown8 hg8 _; refine Hid.out ?_)
          | (go_at_call 126; refine (HSZ.out _).mono ?_; rintro e9 w5 ⟨rfl, e5⟩; obtain rfl := e5.symm))
        refine Lib.hid ?_
        obtain ⟨a8, c8, rfl⟩ := own_capS hown8
        have HO8 : Hid (w8.ownsRow w.heap.size 203 3 (.slice a8 (n5 + 1) c8) (n5 + 1) (psV (cl l p (k + 1)))) := (by rw [HN1.out.2, psV_app]; exact hown8 : w8.ownsRow w.heap.size 203 3 (.slice a8 (n5 + 1) c8) (n5 + 1) (psV (cl l p (k + 1))))
        have HB8 : Hid (Below w.heap.size w w8) := (hb.out.alloc hb.out.size _).grown hg8 (by have := hb.out.size; simp; omega) (fun q hq => (hO.out.lt q hq).1)
        have HL8 : Hid ((cl l p (k + 1)).length = n5 + 1) := (by rw [HN1.out.2, List.length_append, HN5.out]; rfl : (cl l p (k + 1)).length = n5 + 1)
        clear hown8 hg8
        go_wp2
        go_roundw
        case rel => exact ⟨k + 1, q + 1, n5 + 1, c8, a8, by omega, by omega, by omega, hqn, by go_num, by go_num, rfl, HN1.out.1, HL8.out, HO8.out, HB8.out⟩
        case measure => simp only [intOf]; omega
      · have t1 : ((i : Int) == (q : Int)) = false := by rw [beq_eq_false_iff_ne]; omega
        by_cases e2 : q = i + 1
        · have t2 : ((i : Int) == (q : Int) - 1) = true := by rw [beq_iff_eq]; omega
          have HN1 : Hid (pl l p (k + 1) = i ∧ cl l p (k + 1) = cl l p k ++ [(k, 1)]) := (by rw [HNX.out.1, HNX.out.2, if_neg e1, if_pos e2]; unfold plc; rw [if_neg e1, if_pos e2]; exact ⟨rfl, rfl⟩ : pl l p (k + 1) = i ∧ cl l p (k + 1) = cl l p k ++ [(k, 1)])
          have HQI : Hid ((q : Int) - 1 = (i : Int)) := (by omega : (q : Int) - 1 = (i : Int))
          clear HNX e1 e2
          go_wp2_with (first
            | (at_builtin; refine wpList_append_own _ rfl _ _ 174 rfl w.heap.size 203 i1 (.agg #[.int .i64 0, .int .i64 0, .int .i64 0]) 3 24 Try.underlying174 hj hy0 hy1 hy2 rfl (by decide) _ _ _ rfl (hO.out.alloc _) ⟨W1.heap.size, 0, none⟩ 1 1 [.int .i64 (k : Nat), .int .i64 1, .int .i64 2] rfl rfl (new_cell3c _ _ _ _ _) (three_oneI _ _ _) (by unfold maxLen; omega) (by omega) (by have := hb.out.size; simp; omega) ?_; intro v8 w8 hown8 hg8 _; refine Hid.out ?_)
            | (go_at_call 126; refine (HSZ.out _).mono ?_; rintro e9 w5 ⟨rfl, e5⟩; obtain rfl := e5.symm))
          refine Lib.hid ?_
          obtain ⟨a8, c8, rfl⟩ := own_capS hown8
          have HO8 : Hid (w8.ownsRow w.heap.size 203 3 (.slice a8 (n5 + 1) c8) (n5 + 1) (psV (cl l p (k + 1)))) := (by rw [HN1.out.2, psV_app]; exact hown8 : w8.ownsRow w.heap.size 203 3 (.slice a8 (n5 + 1) c8) (n5 + 1) (psV (cl l p (k + 1))))
          have HB8 : Hid (Below w.heap.size w w8) := (hb.out.alloc hb.out.size _).grown hg8 (by have := hb.out.size; simp; omega) (fun q hq => (hO.out.lt q hq).1)
          have HL8 : Hid ((cl l p (k + 1)).length = n5 + 1) := (by rw [HN1.out.2, List.length_append, HN5.out]; rfl : (cl l p (k + 1)).length = n5 + 1)
          clear hown8 hg8
          go_wp2
          go_roundw
          case rel => exact ⟨k + 1, i, n5 + 1, c8, a8, by omega, by omega, by omega, by omega, by go_num, congrArg (Value.int .i64) HQI.out, rfl, HN1.out.1, HL8.out, HO8.out, HB8.out⟩
          case measure => simp only [intOf]; omega
        · have t2 : ((i : Int) == (q : Int) - 1) = false := by rw [beq_eq_false_iff_ne]; omega
          have HN1 : Hid (pl l p (k + 1) = q ∧ cl l p (k + 1) = cl l p k) := (by rw [HNX.out.1, HNX.out.2, if_neg e1, if_neg e2, List.append_nil]; unfold plc; rw [if_neg e1, if_neg e2]; exact ⟨rfl, rfl⟩ : pl l p (k + 1) = q ∧ cl l p (k + 1) = cl l p k)
          clear HNX e1 e2
          go_wp2_with (go_at_call 126; refine (HSZ.out _).mono ?_; rintro e9 w5 ⟨rfl, e5⟩; obtain rfl := e5.symm)
          go_roundw
          case rel => exact ⟨k + 1, q, n5, c5, a5, by omega, by omega, hq1, hq2, by go_num, rfl, rfl, HN1.out.1, by rw [HN1.out.2]; exact HN5.out, by rw [HN1.out.2]; exact hO.out, hb.out⟩
          case measure => simp only [intOf]; omega
    · obtain rfl : k = m := by omega
      have HFN : Hid (W1.ownsRow w.heap.size 203 3 (.slice a5 (cl l p k).length c5) (cl l p k).length (psV (cl l p k)) ∧ Below w.heap.size w W1) := (⟨by rw [HN5.out]; exact hO.out, hb.out⟩ : W1.ownsRow w.heap.size 203 3 (.slice a5 (cl l p k).length c5) (cl l p k).length (psV (cl l p k)) ∧ Below w.heap.size w W1)
      have HN6 : Hid (n5 = (cl l p k).length) := HN5.out.symm
      go_wp2
      go_ret
      exact ⟨a5, c5, by rw [HN5.out]; rfl, HFN.out⟩
end Go.Proofs.Ytfceigcjonlhkaa

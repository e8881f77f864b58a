/- Several texts of the proof, one behind the other. -/
import Derived.Test.YtajmogojekichaaPA10P
import Derived.Test.YtajmogojekichaaPPut
/- The walk of knotworkref.Put: a term put into a list in form. -/
namespace Go.Proofs.Ytajmogojekichaa.Poly
open Go.RowKit Go.Maps

theorem termsAt_take {w : World} {b off : Nat} {l : List (Int × Int)} (h : TermsAt w b off l) (k : Nat) : TermsAt w b off (l.take k) := by
  intro i hi
  have h1 : i < l.length := by simp at hi; omega
  have h2 : i < k := by simp at hi; omega
  have g : (l.take k).getD i (0, 0) = l.getD i (0, 0) := by simp [List.getD, h2]
  rw [g]
  exact h i h1

theorem termsAt_drop {w : World} {b off : Nat} {l : List (Int × Int)} (h : TermsAt w b off l) (k : Nat) : TermsAt w b (off + k * 2) (l.drop k) := by
  intro i hi
  have h1 : k + i < l.length := by simp at hi; omega
  have g : (l.drop k).getD i (0, 0) = l.getD (k + i) (0, 0) := by simp [List.getD, List.getElem?_drop]
  rw [g]
  have := h (k + i) h1
  rw [show off + (k + i) * 2 = off + k * 2 + i * 2 by omega] at this
  exact this

theorem own_len {w : World} {B : Nat} {v : Value} {n m : Nat} {xs : List Value} (h : w.ownsRow B 124 2 v n xs) (e : m = n) : w.ownsRow B 124 2 v m xs := by rw [e]; exact h

theorem flat_len_take (l : List (Int × Int)) (k : Nat) (h : k ≤ l.length) : (flat (l.take k)).length = k * 2 := by rw [flat_length, List.length_take, Nat.min_eq_left h]
theorem flat_len_drop (l : List (Int × Int)) (k : Nat) : (flat (l.drop k)).length = (l.length - k) * 2 := by rw [flat_length, List.length_drop]

set_option maxHeartbeats 2000000 in
set_option maxRecDepth 100000 in
theorem put_some (b off cap : Nat) (l : List (Int × Int)) (e c : Int) (w : World) (hpos : 0 < l.length) (hl : l.length ≤ 100000) (hcap : l.length ≤ cap) (hcap2 : cap ≤ maxLen) (hc0 : c ≠ 0) (hc1 : -1000000000000000 ≤ c) (hc2 : c ≤ 1000000000000000) (hbl : ∀ t ∈ l, -1000000000000000 ≤ t.2 ∧ t.2 ≤ 1000000000000000) (hbw : b < w.heap.size) (hT : TermsAt w b off l) :
    Calls Try.prog 142 #[.slice (some ⟨b, off, none⟩) l.length cap, .int .i64 e, .int .i64 c] w fun r w' => ∃ v, r = .returned v ∧ w'.ownsRow w.heap.size 124 2 v (putL l e c).length (flat (putL l e c)) ∧ Below w.heap.size w w' := by
  obtain ⟨i0, hi, hz0, hz1, hz2⟩ := info_parts infoTerm
  have hcb : (c == 0) = false := by simpa using hc0
  have HT : Hid (TermsAt w b off l) := hT
  have HBL : Hid _ := hbl
  have hak := ahead_le l e
  have HLT : Hid (∀ i, i < ahead l e → (l.getD i (0, 0)).1 < e) := fun i hi => ahead_lt l e i hi
  have HGE : Hid (ahead l e < l.length → e ≤ (l.getD (ahead l e) (0, 0)).1) := fun h => ahead_ge l e h
  have HPUT : Hid (putL l e c = if ahead l e < l.length ∧ (l.getD (ahead l e) (0, 0)).1 = e then
    (if (l.getD (ahead l e) (0, 0)).2 + c = 0 then l.take (ahead l e) ++ l.drop (ahead l e + 1) else l.take (ahead l e) ++ [(e, (l.getD (ahead l e) (0, 0)).2 + c)] ++ l.drop (ahead l e + 1))
  else l.take (ahead l e) ++ [(e, c)] ++ l.drop (ahead l e)) := by show _ = _; unfold putL; rw [if_neg hc0]
  generalize hK : ahead l e = K at hak HLT HGE HPUT
  clear hT hbl hK hc0
  unfold maxLen at hcap2
  go_enter Try.func142, Try.ntmps142
  go_wp2
  go_loopw [7] (fun i wr => ∃ k : Nat, k ≤ K ∧ i = .int .i64 k ∧ Below w.heap.size w wr) (fun i _ => K - (intOf i).toNat)
  case atStart => exact ⟨0, Nat.zero_le _, rfl, Below.refl _ _⟩
  case round =>
    obtain ⟨k, hk, rfl, hb⟩ := hrel
    by_cases hlt : k < K
    · have hkl : k < l.length := by omega
      have c0 := bcell hb hbw (HT.out k hkl).1
      have hlt2 := HLT.out k hlt
      generalize (l.getD k (0, 0)).1 = ek at c0 hlt2
      go_wp2
      go_roundw
      case rel => exact ⟨k + 1, by omega, by go_num, hb⟩
      case measure => simp [intOf]; omega
    · obtain rfl : k = K := by omega
      have hsz := hb.size
      have hTr : Hid (TermsAt wr b off l) := HT.out.on hb hbw
      by_cases hend : k < l.length
      · have hge := HGE.out hend
        obtain ⟨c0, c1⟩ := hTr.out k hend
        generalize hek : (l.getD k (0, 0)).1 = ek at c0 hge HPUT
        generalize hck : (l.getD k (0, 0)).2 = ck at c1 HPUT
        go_wp2_with (first
          | (at_builtin; refine wpList_append_own _ rfl _ _ 63 rfl w.heap.size 124 i0 (.agg #[.int .i64 0, .int .i64 0]) 2 16 Try.underlying63 hi hz0 hz1 hz2 rfl (by decide) _ 0 [] rfl (World.ownsRow_nil _ _ _ _) ⟨b, off, none⟩ k cap (flat (l.take k)) rfl (flat_len_take l k (by omega)) (flat_at (termsAt_take hTr.out k)) (flat_one _) (by unfold maxLen; omega) (by omega) hsz ?_; intro v1 w1 hown1 hg1 _; refine Hid.out ?_))
        refine Lib.hid ?_
        rw [Nat.zero_add, List.nil_append] at hown1
        have hnx1 : Below w.heap.size w w1 := hb.grown hg1 hsz (fun q hq => by cases hq)
        have hT1 : Hid (TermsAt w1 b off l) := HT.out.on hnx1 hbw
        have q0 : w1.cell? ⟨b, off + k * 2, none⟩ = some (.int .i64 ek) := by rw [← hek]; exact (hT1.out k hend).1
        have q1 : w1.cell? ⟨b, off + k * 2 + 1, none⟩ = some (.int .i64 ck) := by rw [← hck]; exact (hT1.out k hend).2
        have hbk := HBL.out (l.getD k (0, 0)) (by have g : l.getD k (0, 0) = l[k] := by simp [List.getD, hend]
                                                  rw [g]; exact List.getElem_mem hend)
        rw [hck] at hbk
        have hs1 := hnx1.size
        clear hb hg1 hek hck c0 c1 hTr hsz
        by_cases heq : ek = e
        · have heb : (ek == e) = true := by simpa using heq
          have HEQ : Hid (ek = e) := heq
          clear heq
          have hw1 : w1.heap.size ≥ w.heap.size := hs1
          by_cases hz : ck + c = 0
          · have hzb : (ck + c != 0) = false := by simp [hz]
            have HPUT2 : Hid (putL l e c = l.take k ++ l.drop (k + 1)) := by show _ = _; rw [HPUT.out, if_pos ⟨hend, HEQ.out⟩, if_pos hz]
            clear hz
            by_cases hkc : cap = k + 1
            · have hlk : l.length - (k + 1) = 0 := by omega
              have hdr : l.drop (k + 1) = [] := List.drop_eq_nil_of_le (by omega)
              go_wp2_with (first
                | (at_builtin; refine wpList_append_own _ rfl _ _ 63 rfl w.heap.size 124 i0 (.agg #[.int .i64 0, .int .i64 0]) 2 16 Try.underlying63 hi hz0 hz1 hz2 rfl (by decide) _ _ _ rfl hown1 ⟨b, off, none⟩ 0 _ [] rfl rfl (fun j u h => by simp at h) (fun u h => by simp at h) (by unfold maxLen; omega) (by omega) (by omega) ?_; intro v3 w3 hown3 hg3 _))
              go_ret
              refine ⟨v3, rfl, ?_, hnx1.grown hg3 (by omega) (fun q hq => (hown1.lt q hq).1)⟩
              rw [HPUT2.out, hdr, flat_append]
              exact own_len hown3 (by simp; omega)
            · go_wp2_with (first
                | (at_builtin; refine wpList_append_own _ rfl _ _ 63 rfl w.heap.size 124 i0 (.agg #[.int .i64 0, .int .i64 0]) 2 16 Try.underlying63 hi hz0 hz1 hz2 rfl (by decide) _ _ _ rfl hown1 ⟨b, off + (k + 1) * 2, none⟩ (l.length - (k + 1)) _ (flat (l.drop (k + 1))) rfl (flat_len_drop l (k + 1)) (flat_at (termsAt_drop hT1.out (k + 1))) (flat_one _) (by unfold maxLen; omega) (by omega) (by omega) ?_; intro v3 w3 hown3 hg3 _))
              go_ret
              refine ⟨v3, rfl, ?_, hnx1.grown hg3 (by omega) (fun q hq => (hown1.lt q hq).1)⟩
              rw [HPUT2.out, flat_append]
              exact own_len hown3 (by simp; omega)
          · have hzb : (ck + c != 0) = true := by simpa using hz
            have HPUT2 : Hid (putL l e c = l.take k ++ [(e, ck + c)] ++ l.drop (k + 1)) := by show _ = _; rw [HPUT.out, if_pos ⟨hend, HEQ.out⟩, if_neg hz]
            clear hz
            go_wp2_with (first
              | (at_builtin; refine wpList_append_own _ rfl _ _ 63 rfl w.heap.size 124 i0 (.agg #[.int .i64 0, .int .i64 0]) 2 16 Try.underlying63 hi hz0 hz1 hz2 rfl (by decide) _ _ _ rfl (hown1.alloc _) ⟨w1.heap.size, 0, none⟩ 1 1 [.int .i64 e, .int .i64 (ck + c)] rfl rfl (new_cells _ _ _) (pair_one _ _) (by unfold maxLen; omega) (by omega) (by simp; omega) ?_; intro v2 w2 hown2 hg2 _; refine Hid.out ?_))
            refine Lib.hid ?_
            have hnx2 : Below w.heap.size w w2 := (hnx1.alloc hs1 _).grown hg2 (by simp; omega) (fun q hq => (hown1.lt q hq).1)
            have hT2 : Hid (TermsAt w2 b off l) := HT.out.on hnx2 hbw
            have hs2 := hnx2.size
            clear hown1 hg2 hT1 q0 q1
            by_cases hkc : cap = k + 1
            · have hlk : l.length - (k + 1) = 0 := by omega
              have hdr : l.drop (k + 1) = [] := List.drop_eq_nil_of_le (by omega)
              go_wp2_with (first
                | (at_builtin; refine wpList_append_own _ rfl _ _ 63 rfl w.heap.size 124 i0 (.agg #[.int .i64 0, .int .i64 0]) 2 16 Try.underlying63 hi hz0 hz1 hz2 rfl (by decide) _ _ _ rfl hown2 ⟨b, off, none⟩ 0 _ [] rfl rfl (fun j u h => by simp at h) (fun u h => by simp at h) (by unfold maxLen; omega) (by omega) (by omega) ?_; intro v3 w3 hown3 hg3 _))
              go_ret
              refine ⟨v3, rfl, ?_, hnx2.grown hg3 (by omega) (fun q hq => (hown2.lt q hq).1)⟩
              rw [HPUT2.out, hdr, flat_append, flat_append]
              exact own_len hown3 (by simp; omega)
            · go_wp2_with (first
                | (at_builtin; refine wpList_append_own _ rfl _ _ 63 rfl w.heap.size 124 i0 (.agg #[.int .i64 0, .int .i64 0]) 2 16 Try.underlying63 hi hz0 hz1 hz2 rfl (by decide) _ _ _ rfl hown2 ⟨b, off + (k + 1) * 2, none⟩ (l.length - (k + 1)) _ (flat (l.drop (k + 1))) rfl (flat_len_drop l (k + 1)) (flat_at (termsAt_drop hT2.out (k + 1))) (flat_one _) (by unfold maxLen; omega) (by omega) (by omega) ?_; intro v3 w3 hown3 hg3 _))
              go_ret
              refine ⟨v3, rfl, ?_, hnx2.grown hg3 (by omega) (fun q hq => (hown2.lt q hq).1)⟩
              rw [HPUT2.out, flat_append, flat_append]
              exact own_len hown3 (by simp; omega)
        · have heb : (ek == e) = false := by simpa using heq
          have HPUT2 : Hid (putL l e c = l.take k ++ [(e, c)] ++ l.drop k) := by show _ = _; rw [HPUT.out, if_neg (fun h => heq h.2)]
          go_wp2_with (first
            | (at_builtin; refine wpList_append_own _ rfl _ _ 63 rfl w.heap.size 124 i0 (.agg #[.int .i64 0, .int .i64 0]) 2 16 Try.underlying63 hi hz0 hz1 hz2 rfl (by decide) _ _ _ rfl (hown1.alloc _) ⟨w1.heap.size, 0, none⟩ 1 1 [.int .i64 e, .int .i64 (c)] rfl rfl (new_cells _ _ _) (pair_one _ _) (by unfold maxLen; omega) (by omega) (by simp; omega) ?_; intro v2 w2 hown2 hg2 _; refine Hid.out ?_))
          refine Lib.hid ?_
          have hnx2 : Below w.heap.size w w2 := (hnx1.alloc hs1 _).grown hg2 (by simp; omega) (fun q hq => (hown1.lt q hq).1)
          have hT2 : Hid (TermsAt w2 b off l) := HT.out.on hnx2 hbw
          have hs2 := hnx2.size
          clear hown1 hg2 hT1 q0 q1
          go_wp2_with (first
            | (at_builtin; refine wpList_append_own _ rfl _ _ 63 rfl w.heap.size 124 i0 (.agg #[.int .i64 0, .int .i64 0]) 2 16 Try.underlying63 hi hz0 hz1 hz2 rfl (by decide) _ _ _ rfl hown2 ⟨b, off + k * 2, none⟩ (l.length - k) _ (flat (l.drop k)) rfl (flat_len_drop l k) (flat_at (termsAt_drop hT2.out k)) (flat_one _) (by unfold maxLen; omega) (by omega) (by omega) ?_; intro v3 w3 hown3 hg3 _))
          go_ret
          refine ⟨v3, rfl, ?_, hnx2.grown hg3 (by omega) (fun q hq => (hown2.lt q hq).1)⟩
          rw [HPUT2.out, flat_append, flat_append]
          exact own_len hown3 (by simp; omega)
      · have hkl : k = l.length := by omega
        have HPUT2 : Hid (putL l e c = l ++ [(e, c)]) := by
          show _ = _
          rw [HPUT.out, if_neg (fun h => hend h.1), hkl, List.take_of_length_le (Nat.le_refl _), List.drop_eq_nil_of_le (Nat.le_refl _), List.append_nil]
        have htk : l.take k = l := List.take_of_length_le (by omega)
        have hlk : l.length - k = 0 := by omega
        have HKL : Hid (k = l.length) := hkl
        clear hkl
        go_wp2_with (first
          | (at_builtin; refine wpList_append_own _ rfl _ _ 63 rfl w.heap.size 124 i0 (.agg #[.int .i64 0, .int .i64 0]) 2 16 Try.underlying63 hi hz0 hz1 hz2 rfl (by decide) _ 0 [] rfl (World.ownsRow_nil _ _ _ _) ⟨b, off, none⟩ k cap (flat (l.take k)) rfl (flat_len_take l k (by omega)) (flat_at (termsAt_take hTr.out k)) (flat_one _) (by unfold maxLen; omega) (by omega) hsz ?_; intro v1 w1 hown1 hg1 _; refine Hid.out ?_))
        refine Lib.hid ?_
        rw [Nat.zero_add, List.nil_append] at hown1
        have hnx1 : Below w.heap.size w w1 := hb.grown hg1 hsz (fun q hq => by cases hq)
        have hs1 := hnx1.size
        clear hb hg1 hTr hsz
        go_wp2_with (first
          | (at_builtin; refine wpList_append_own _ rfl _ _ 63 rfl w.heap.size 124 i0 (.agg #[.int .i64 0, .int .i64 0]) 2 16 Try.underlying63 hi hz0 hz1 hz2 rfl (by decide) _ _ _ rfl (hown1.alloc _) ⟨w1.heap.size, 0, none⟩ 1 1 [.int .i64 e, .int .i64 (c)] rfl rfl (new_cells _ _ _) (pair_one _ _) (by unfold maxLen; omega) (by omega) (by simp; omega) ?_; intro v2 w2 hown2 hg2 _; refine Hid.out ?_))
        refine Lib.hid ?_
        have hnx2 : Below w.heap.size w w2 := (hnx1.alloc hs1 _).grown hg2 (by simp; omega) (fun q hq => (hown1.lt q hq).1)
        have hs2 := hnx2.size
        clear hown1 hg2
        rw [htk] at hown2
        by_cases hkc : cap = k
        · go_wp2_with (first
            | (at_builtin; refine wpList_append_own _ rfl _ _ 63 rfl w.heap.size 124 i0 (.agg #[.int .i64 0, .int .i64 0]) 2 16 Try.underlying63 hi hz0 hz1 hz2 rfl (by decide) _ _ _ rfl hown2 ⟨b, off, none⟩ 0 _ [] rfl rfl (fun j u h => by simp at h) (fun u h => by simp at h) (by unfold maxLen; omega) (by omega) (by omega) ?_; intro v3 w3 hown3 hg3 _))
          go_ret
          refine ⟨v3, rfl, ?_, hnx2.grown hg3 (by omega) (fun q hq => (hown2.lt q hq).1)⟩
          rw [HPUT2.out, flat_append]
          rw [List.append_nil] at hown3
          exact own_len hown3 (by simp; have := HKL.out; omega)
        · go_wp2_with (first
            | (at_builtin; refine wpList_append_own _ rfl _ _ 63 rfl w.heap.size 124 i0 (.agg #[.int .i64 0, .int .i64 0]) 2 16 Try.underlying63 hi hz0 hz1 hz2 rfl (by decide) _ _ _ rfl hown2 ⟨b, off + k * 2, none⟩ 0 _ [] rfl rfl (fun j u h => by simp at h) (fun u h => by simp at h) (by unfold maxLen; omega) (by omega) (by omega) ?_; intro v3 w3 hown3 hg3 _))
          go_ret
          refine ⟨v3, rfl, ?_, hnx2.grown hg3 (by omega) (fun q hq => (hown2.lt q hq).1)⟩
          rw [HPUT2.out, flat_append]
          rw [List.append_nil] at hown3
          exact own_len hown3 (by simp; have := HKL.out; omega)

set_option maxHeartbeats 400000 in
theorem put_zero (v : Value) (e : Int) (w : World) :
    Calls Try.prog 142 #[v, .int .i64 e, .int .i64 0] w fun r w' => r = .returned v ∧ w' = w := by
  go_enter Try.func142, Try.ntmps142
  go_wp2
  go_ret
  exact ⟨rfl, rfl⟩

set_option maxHeartbeats 1000000 in
set_option maxRecDepth 100000 in
theorem put_nil (e c : Int) (w : World) (hc0 : c ≠ 0) :
    Calls Try.prog 142 #[.slice none 0 0, .int .i64 e, .int .i64 c] w fun r w' => ∃ v, r = .returned v ∧ w'.ownsRow w.heap.size 124 2 v 1 (flat [(e, c)]) ∧ Below w.heap.size w w' := by
  obtain ⟨i0, hi, hz0, hz1, hz2⟩ := info_parts infoTerm
  have hcb : (c == 0) = false := by simpa using hc0
  clear hc0
  go_enter Try.func142, Try.ntmps142
  go_wp2
  go_loopw [7] (fun i wr => i = .int .i64 0 ∧ wr = w) (fun _ _ => 0)
  case atStart => exact ⟨rfl, rfl⟩
  case round =>
    obtain ⟨rfl, rfl⟩ := hrel
    go_wp2_with (at_builtin; refine wpList_append_own_none rfl _ _ 63 rfl wr.heap.size 124 i0 2 Try.underlying63 hi _ 0 [] rfl (World.ownsRow_nil _ _ _ _) rfl ?_; refine Hid.out ?_)
    refine Lib.hid ?_
    go_wp2_with (at_builtin; refine wpList_append_own _ rfl _ _ 63 rfl wr.heap.size 124 i0 (.agg #[.int .i64 0, .int .i64 0]) 2 16 Try.underlying63 hi hz0 hz1 hz2 rfl (by decide) _ 0 [] rfl (World.ownsRow_nil _ _ _ _) ⟨wr.heap.size, 0, none⟩ 1 1 [.int .i64 e, .int .i64 c] rfl rfl (new_cells _ _ _) (pair_one _ _) (by unfold maxLen; omega) (by omega) (by simp) ?_; intro v2 w2 hown2 hg2 _; refine Hid.out ?_)
    refine Lib.hid ?_
    have hnx2 : Below wr.heap.size wr w2 := ((Below.refl _ _).alloc (Nat.le_refl _) _).grown hg2 (by simp) (fun q hq => by cases hq)
    go_wp2_with (at_builtin; refine wpList_append_own_none rfl _ _ 63 rfl wr.heap.size 124 i0 2 Try.underlying63 hi _ _ _ rfl hown2 rfl ?_)
    go_ret
    exact ⟨v2, rfl, hown2, hnx2⟩

set_option maxHeartbeats 1000000 in
set_option maxRecDepth 100000 in
theorem put_empty (a : Addr) (cap : Nat) (e c : Int) (w : World) (hc0 : c ≠ 0) :
    Calls Try.prog 142 #[.slice (some a) 0 cap, .int .i64 e, .int .i64 c] w fun r w' => ∃ v, r = .returned v ∧ w'.ownsRow w.heap.size 124 2 v 1 (flat [(e, c)]) ∧ Below w.heap.size w w' := by
  obtain ⟨i0, hi, hz0, hz1, hz2⟩ := info_parts infoTerm
  have hcb : (c == 0) = false := by simpa using hc0
  clear hc0
  go_enter Try.func142, Try.ntmps142
  go_wp2
  go_loopw [7] (fun i wr => i = .int .i64 0 ∧ wr = w) (fun _ _ => 0)
  case atStart => exact ⟨rfl, rfl⟩
  case round =>
    obtain ⟨rfl, rfl⟩ := hrel
    go_wp2_with (at_builtin; refine wpList_append_own _ rfl _ _ 63 rfl wr.heap.size 124 i0 (.agg #[.int .i64 0, .int .i64 0]) 2 16 Try.underlying63 hi hz0 hz1 hz2 rfl (by decide) _ 0 [] rfl (World.ownsRow_nil _ _ _ _) _ 0 _ [] rfl rfl (fun j u h => by simp at h) (fun u h => by simp at h) (by decide) (by decide) (Nat.le_refl _) ?_; intro v1 w1 hown1 hg1 _; refine Hid.out ?_)
    refine Lib.hid ?_
    have hnx1 : Below wr.heap.size wr w1 := (Below.refl _ _).grown hg1 (Nat.le_refl _) (fun q hq => by cases hq)
    have hs1 := hnx1.size
    go_wp2_with (at_builtin; refine wpList_append_own _ rfl _ _ 63 rfl wr.heap.size 124 i0 (.agg #[.int .i64 0, .int .i64 0]) 2 16 Try.underlying63 hi hz0 hz1 hz2 rfl (by decide) _ _ _ rfl (hown1.alloc _) ⟨w1.heap.size, 0, none⟩ 1 1 [.int .i64 e, .int .i64 c] rfl rfl (new_cells _ _ _) (pair_one _ _) (by unfold maxLen; omega) (by omega) (by simp; omega) ?_; intro v2 w2 hown2 hg2 _; refine Hid.out ?_)
    refine Lib.hid ?_
    have hnx2 : Below wr.heap.size wr w2 := (hnx1.alloc hs1 _).grown hg2 (by simp; omega) (fun q hq => (hown1.lt q hq).1)
    have hs2 := hnx2.size
    by_cases hk : cap = 0
    · go_wp2_with (at_builtin; refine wpList_append_own _ rfl _ _ 63 rfl wr.heap.size 124 i0 (.agg #[.int .i64 0, .int .i64 0]) 2 16 Try.underlying63 hi hz0 hz1 hz2 rfl (by decide) _ _ _ rfl hown2 _ 0 _ [] rfl rfl (fun j u h => by simp at h) (fun u h => by simp at h) (by unfold maxLen; omega) (by omega) hs2 ?_; intro v3 w3 hown3 hg3 _)
      go_ret
      exact ⟨v3, rfl, by simpa [flat] using hown3, hnx2.grown hg3 hs2 (fun q hq => (hown2.lt q hq).1)⟩
    · go_wp2_with (at_builtin; refine wpList_append_own _ rfl _ _ 63 rfl wr.heap.size 124 i0 (.agg #[.int .i64 0, .int .i64 0]) 2 16 Try.underlying63 hi hz0 hz1 hz2 rfl (by decide) _ _ _ rfl hown2 _ 0 _ [] rfl rfl (fun j u h => by simp at h) (fun u h => by simp at h) (by unfold maxLen; omega) (by omega) hs2 ?_; intro v3 w3 hown3 hg3 _)
      go_ret
      exact ⟨v3, rfl, by simpa [flat] using hown3, hnx2.grown hg3 hs2 (fun q hq => (hown2.lt q hq).1)⟩

/-- A slice of terms, its length within its capacity. -/
def PolyC (w : World) (B : Nat) (v : Value) (l : List (Int × Int)) : Prop := Poly w B v l ∧ ∃ a n c, v = .slice a n c ∧ n ≤ c ∧ c ≤ maxLen

theorem PolyC.ofRow {w : World} {base : Nat} {v : Value} {l : List (Int × Int)} (h : w.ownsRow base 124 2 v l.length (flat l)) : PolyC w w.heap.size v l := by
  refine ⟨Poly.ofRow h, ?_⟩
  rcases h.2 with ⟨rfl, h0⟩ | ⟨g, cap, cur, rfl, _, _, h1, h2, _⟩
  · exact ⟨none, 0, 0, rfl, Nat.le_refl _, Nat.zero_le _⟩
  · exact ⟨_, _, _, rfl, h1, h2⟩

theorem PolyC.up {w w' : World} {v : Value} {l : List (Int × Int)} (h : PolyC w w.heap.size v l) (hb : Below w.heap.size w w') : PolyC w' w'.heap.size v l := ⟨h.1.up hb, h.2⟩

theorem put_poly (v : Value) (l : List (Int × Int)) (e c : Int) (w : World) (hl : l.length ≤ 100000) (hc1 : -1000000000000000 ≤ c) (hc2 : c ≤ 1000000000000000) (hbl : ∀ t ∈ l, -1000000000000000 ≤ t.2 ∧ t.2 ≤ 1000000000000000) (hP : PolyC w w.heap.size v l) :
    Calls Try.prog 142 #[v, .int .i64 e, .int .i64 c] w fun r w' => ∃ v', r = .returned v' ∧ PolyC w' w'.heap.size v' (putL l e c) ∧ Below w.heap.size w w' := by
  by_cases hc0 : c = 0
  · subst hc0
    refine (put_zero v e w).mono ?_
    rintro r w' ⟨rfl, rfl⟩
    exact ⟨v, rfl, by rw [show putL l e 0 = l from if_pos rfl]; exact hP, Below.refl _ _⟩
  · obtain ⟨hP, a', n', c', hv, hnc, hcm⟩ := hP
    rcases hP with ⟨rfl, rfl⟩ | ⟨a, cap, rfl, rfl⟩ | ⟨b, off, cap, rfl, hlt, hT⟩
    · have hp : putL [] e c = [(e, c)] := by unfold putL; rw [if_neg hc0]; rfl
      refine (put_nil e c w hc0).mono ?_
      rintro r w' ⟨v, rfl, hrow, hb⟩
      exact ⟨v, rfl, by rw [hp]; exact PolyC.ofRow hrow, hb⟩
    · have hp : putL [] e c = [(e, c)] := by unfold putL; rw [if_neg hc0]; rfl
      refine (put_empty a cap e c w hc0).mono ?_
      rintro r w' ⟨v, rfl, hrow, hb⟩
      exact ⟨v, rfl, by rw [hp]; exact PolyC.ofRow hrow, hb⟩
    · have hnc' : l.length ≤ cap := by cases hv; exact hnc
      have hcm' : cap ≤ maxLen := by cases hv; exact hcm
      rcases Nat.eq_zero_or_pos l.length with h0 | h0
      · have e0 : l = [] := List.length_eq_zero_iff.1 h0
        subst e0
        have hp : putL [] e c = [(e, c)] := by unfold putL; rw [if_neg hc0]; rfl
        refine (put_empty ⟨b, off, none⟩ cap e c w hc0).mono ?_
        rintro r w' ⟨v, rfl, hrow, hb⟩
        exact ⟨v, rfl, by rw [hp]; exact PolyC.ofRow hrow, hb⟩
      · refine (put_some b off cap l e c w h0 hl hnc' hcm' hc0 hc1 hc2 hbl hlt hT).mono ?_
        rintro r w' ⟨v, rfl, hrow, hb⟩
        exact ⟨v, rfl, PolyC.ofRow hrow, hb⟩
end Go.Proofs.Ytajmogojekichaa.Poly
/- The walks of knotworkref.Sum and knotworkref.Product. -/
namespace Go.Proofs.Ytajmogojekichaa.Poly
open Go.RowKit Go.Maps

/-- The first k terms of b, s times each, put into a. -/
def sumTo (a b : List (Int × Int)) (s : Int) : Nat → List (Int × Int)
  | 0 => a
  | k + 1 => putL (sumTo a b s k) (b.getD k (0, 0)).1 (s * (b.getD k (0, 0)).2)

theorem sumTo_length (a b : List (Int × Int)) (s : Int) (k : Nat) : (sumTo a b s k).length ≤ a.length + k := by
  induction k with
  | zero => simp [sumTo]
  | succ k ih =>
    have := put_length (sumTo a b s k) (b.getD k (0, 0)).1 (s * (b.getD k (0, 0)).2)
    simp only [sumTo]
    omega

theorem sumTo_canon {a b : List (Int × Int)} {f : Int → Int} (ha : Canon a f) (s : Int) (k : Nat) (hk : k ≤ b.length) : Canon (sumTo a b s k) (fun x => f x + s * coefL (b.take k) x) := by
  induction k with
  | zero => exact canon_congr ha fun x => by simp [coefL]
  | succ k ih =>
    refine canon_congr (canon_put (ih (by omega)) _ _) fun x => ?_
    rw [coefL_take b k (by omega), Int.mul_add]
    split
    · omega
    · simp

theorem canon_bd {l : List (Int × Int)} {f : Int → Int} {M : Int} (h : Canon l f) (hf : ∀ x, -M ≤ f x ∧ f x ≤ M) : ∀ t ∈ l, -M ≤ t.2 ∧ t.2 ≤ M := by
  intro t ht
  have := ((h.2 t.1 t.2).1 ht).1
  rw [← this]
  exact hf t.1

set_option maxHeartbeats 2000000 in
set_option maxRecDepth 100000 in
theorem sum_some (v1 : Value) (b off cap : Nat) (l1 l2 : List (Int × Int)) (w : World) (hm1 : mayB l1 = true) (hm2 : mayB l2 = true) (hP1 : PolyC w w.heap.size v1 l1) (hbw : b < w.heap.size) (hT : TermsAt w b off l2) :
    Calls Try.prog 143 #[v1, .slice (some ⟨b, off, none⟩) l2.length cap, .int .i64 1] w fun e w' => ∃ v, e = .returned v ∧ PolyC w' w'.heap.size v (sumTo l1 l2 1 l2.length) ∧ Below w.heap.size w w' := by
  have h164 := ((may_iff l1).1 hm1).1
  have h264 := ((may_iff l2).1 hm2).1
  have HM2 : Hid (mayB l2 = true) := hm2
  have HT : Hid (TermsAt w b off l2) := hT
  have HP1 : Hid (PolyC w w.heap.size v1 l1) := hP1
  have HBD : Hid (∀ k, k ≤ l2.length → ∀ t ∈ sumTo l1 l2 1 k, -1000000000000000 ≤ t.2 ∧ t.2 ≤ 1000000000000000) := fun k hk => by
    refine canon_bd (M := 1000000000000000) (sumTo_canon (canon_self (may_rising hm1) (may_nonzero hm1)) 1 k hk) fun x => ?_
    have h1 := coefL_le l1 1000000 x (fun t ht => (may_coef hm1 t ht).2.2) (by decide)
    have h2 := coefL_le (l2.take k) 1000000 x (fun t ht => (may_coef hm2 t (List.mem_of_mem_take ht)).2.2) (by decide)
    have h3 : (l2.take k).length ≤ 64 := by simp; omega
    omega
  clear hm1 hm2 hT hP1
  go_enter Try.func143, Try.ntmps143
  go_wp2
  go_loopw [7, 8] (fun v i wr => ∃ k : Nat, k ≤ l2.length ∧ i = .int .i64 k ∧ Hid (PolyC wr wr.heap.size v (sumTo l1 l2 1 k)) ∧ Below w.heap.size w wr) (fun _ i _ => l2.length - (intOf i).toNat)
  case atStart => exact ⟨0, Nat.zero_le _, rfl, HP1.out, Below.refl _ _⟩
  case round =>
    obtain ⟨k, hk, rfl, hP, hb⟩ := hrel
    by_cases hlt : k < l2.length
    · have c0 := bcell hb hbw (HT.out k hlt).1
      have c1 := bcell hb hbw (HT.out k hlt).2
      have hok := (okB_iff l2 k).1 (((may_iff l2).1 HM2.out).2 k hlt)
      have hlen := sumTo_length l1 l2 1 k
      have hstep : Hid (sumTo l1 l2 1 (k + 1) = putL (sumTo l1 l2 1 k) (l2.getD k (0, 0)).1 (1 * (l2.getD k (0, 0)).2)) := rfl
      generalize he : (l2.getD k (0, 0)).1 = e at c0 hok hstep
      generalize hc : (l2.getD k (0, 0)).2 = c at c1 hok hstep
      clear he hc
      obtain ⟨o1, o2, o3, o4, o5, -⟩ := hok
      clear o5
      have hw1 : IntKind.i64.wrap (1 * c) = c := by rw [Int.one_mul]; exact IntWalk.i64_in _ (by omega)
      have hw2 : IntKind.i64.wrap c = c := IntWalk.i64_in _ (by omega)
      have hbr : b < wr.heap.size := Nat.lt_of_lt_of_le hbw hb.size
      go_wp2
      go_region_with (go_at_call 142; refine (put_poly _ (sumTo l1 l2 1 k) e c _ (by omega) (by omega) (by omega) (HBD.out k hk) (hP.out.up (Below.refl _ _).drew)).mono ?_; rintro r w1 ⟨v', rfl, hP1', hb1⟩)
      all_goals go_wp2
      all_goals go_roundw
      all_goals first | (simp only [intOf]; omega) | skip
      all_goals refine ⟨k + 1, by omega, by go_num, ?_, hb.drew.trans (hb1.mono hb.size)⟩
      all_goals
        show PolyC _ _ _ _
        rw [hstep.out, Int.one_mul]
        exact hP1'
    · go_wp2
      go_ret
      obtain rfl : k = l2.length := by omega
      exact ⟨_, rfl, hP.out, hb⟩

set_option maxHeartbeats 400000 in
theorem sum_none (v1 : Value) (a : Option Addr) (cap : Nat) (w : World) :
    Calls Try.prog 143 #[v1, .slice a 0 cap, .int .i64 1] w fun e w' => e = .returned v1 ∧ Below w.heap.size w w' := by
  go_enter Try.func143, Try.ntmps143
  go_wp2
  go_loopw [7, 8] (fun v i wr => v = v1 ∧ i = .int .i64 0 ∧ Below w.heap.size w wr) (fun _ _ _ => 0)
  case atStart => exact ⟨rfl, rfl, Below.refl _ _⟩
  case round =>
    obtain ⟨rfl, rfl, hb⟩ := hrel
    go_wp2
    go_ret
    exact ⟨rfl, hb⟩

theorem sum_poly (v1 v2 : Value) (l1 l2 : List (Int × Int)) (w : World) (hm1 : mayB l1 = true) (hm2 : mayB l2 = true) (hP1 : PolyC w w.heap.size v1 l1) (hP2 : PolyC w w.heap.size v2 l2) :
    Calls Try.prog 143 #[v1, v2, .int .i64 1] w fun e w' => ∃ v, e = .returned v ∧ PolyC w' w'.heap.size v (sumTo l1 l2 1 l2.length) ∧ Below w.heap.size w w' := by
  obtain ⟨a, cap, rfl, hp⟩ := hP2.1.slice
  rcases Nat.eq_zero_or_pos l2.length with h0 | h0
  · have e0 : l2 = [] := List.length_eq_zero_iff.1 h0
    subst e0
    refine (sum_none v1 a cap w).mono ?_
    rintro e w' ⟨rfl, hb⟩
    exact ⟨_, rfl, hP1.up hb, hb⟩
  · obtain ⟨b, off, rfl, hlt, hT⟩ := hp h0
    exact sum_some v1 b off cap l1 l2 w hm1 hm2 hP1 hlt hT

/-- One term times the first k terms of b, put into out. -/
def rowTo (out b : List (Int × Int)) (t : Int × Int) : Nat → List (Int × Int)
  | 0 => out
  | k + 1 => putL (rowTo out b t k) (t.1 + (b.getD k (0, 0)).1) (t.2 * (b.getD k (0, 0)).2)
/-- The first i terms of a times b. -/
def prodTo (a b : List (Int × Int)) : Nat → List (Int × Int)
  | 0 => []
  | i + 1 => rowTo (prodTo a b i) b (a.getD i (0, 0)) b.length

theorem rowTo_length (out b : List (Int × Int)) (t : Int × Int) (k : Nat) : (rowTo out b t k).length ≤ out.length + k := by
  induction k with
  | zero => simp [rowTo]
  | succ k ih =>
    have := put_length (rowTo out b t k) (t.1 + (b.getD k (0, 0)).1) (t.2 * (b.getD k (0, 0)).2)
    simp only [rowTo]
    omega
theorem prodTo_length (a b : List (Int × Int)) (hb : b.length ≤ 64) (i : Nat) : (prodTo a b i).length ≤ 64 * i := by
  induction i with
  | zero => simp [prodTo]
  | succ i ih =>
    have := rowTo_length (prodTo a b i) b (a.getD i (0, 0)) b.length
    simp only [prodTo]
    omega

theorem rowTo_canon {out b : List (Int × Int)} {f : Int → Int} (ho : Canon out f) (t : Int × Int) (k : Nat) (hk : k ≤ b.length) : Canon (rowTo out b t k) (fun y => f y + t.2 * coefL (b.take k) (y - t.1)) := by
  induction k with
  | zero => exact canon_congr ho fun y => by simp [coefL]
  | succ k ih =>
    refine canon_congr (canon_put (ih (by omega)) _ _) fun y => ?_
    rw [coefL_take b k (by omega), Int.mul_add]
    by_cases h : t.1 + (b.getD k (0, 0)).1 = y
    · rw [if_pos h, if_pos (by omega)]; omega
    · rw [if_neg h, if_neg (by omega)]; simp

theorem prodL_take (a : List (Int × Int)) (i : Nat) (hi : i < a.length) (g : Int → Int) (y : Int) : prodL (a.take (i + 1)) g y = prodL (a.take i) g y + (a.getD i (0, 0)).2 * g (y - (a.getD i (0, 0)).1) := by
  rw [List.take_succ_eq_append_getElem hi, prodL_append]
  have e : a.getD i (0, 0) = a[i] := by simp [List.getD, hi]
  rw [e]
  simp [prodL]

theorem prodTo_canon (a b : List (Int × Int)) (i : Nat) (hi : i ≤ a.length) : Canon (prodTo a b i) (fun y => prodL (a.take i) (coefL b) y) := by
  induction i with
  | zero => exact ⟨List.Pairwise.nil, fun x c => by simp only [prodTo, List.not_mem_nil, false_iff, List.take_zero, prodL]; rintro ⟨rfl, h⟩; exact h rfl⟩
  | succ i ih =>
    refine canon_congr (rowTo_canon (ih (by omega)) _ b.length (Nat.le_refl _)) fun y => ?_
    rw [prodL_take a i (by omega), List.take_of_length_le (Nat.le_refl _)]

theorem row_bd {a b : List (Int × Int)} (hm1 : mayB a = true) (hm2 : mayB b = true) (i k : Nat) (hi : i < a.length) (hk : k ≤ b.length) : ∀ t ∈ rowTo (prodTo a b i) b (a.getD i (0, 0)) k, -1000000000000000 ≤ t.2 ∧ t.2 ≤ 1000000000000000 := by
  have h164 := ((may_iff a).1 hm1).1
  have hcb : ∀ x, -1000000 ≤ coefL b x ∧ coefL b x ≤ 1000000 := fun x => by
    by_cases h0 : coefL b x = 0
    · rw [h0]; omega
    · have := (coefL_mem ((may_rising hm2).imp fun h => by omega) (may_nonzero hm2) x (coefL b x)).2 ⟨rfl, h0⟩
      exact (may_coef hm2 _ this).2.2
  have hcbt : ∀ x, -1000000 ≤ coefL (b.take k) x ∧ coefL (b.take k) x ≤ 1000000 := fun x => by
    by_cases h0 : coefL (b.take k) x = 0
    · rw [h0]; omega
    · have hr : (b.take k).Pairwise (fun s t => s.1 ≠ t.1) := ((may_rising hm2).imp fun h => by omega : b.Pairwise (fun s t => s.1 ≠ t.1)).sublist (List.take_sublist _ _)
      have := (coefL_mem hr (fun t ht => may_nonzero hm2 t (List.mem_of_mem_take ht)) x (coefL (b.take k) x)).2 ⟨rfl, h0⟩
      exact (may_coef hm2 _ (List.mem_of_mem_take this)).2.2
  refine canon_bd (M := 1000000000000000) (rowTo_canon (prodTo_canon a b i (by omega)) _ k hk) fun y => ?_
  have h1 := prodL_le (a.take i) (coefL b) y (fun t ht => (may_coef hm1 t (List.mem_of_mem_take ht)).2.2) hcb
  have h2 : (a.take i).length ≤ 64 := by simp; omega
  have g : a.getD i (0, 0) = a[i] := by simp [List.getD, hi]
  have h3 := (may_coef hm1 a[i] (List.getElem_mem hi)).2.2
  have h4 := hcbt (y - (a.getD i (0, 0)).1)
  have h5 := mul_bd (c := (a.getD i (0, 0)).2) (by rw [g]; exact h3.1) (by rw [g]; exact h3.2) h4.1 h4.2
  omega

set_option maxHeartbeats 4000000 in
set_option maxRecDepth 100000 in
theorem prod_some (b1 off1 cap1 b2 off2 cap2 : Nat) (l1 l2 : List (Int × Int)) (w : World) (hm1 : mayB l1 = true) (hm2 : mayB l2 = true) (hbw1 : b1 < w.heap.size) (hT1 : TermsAt w b1 off1 l1) (hbw2 : b2 < w.heap.size) (hT2 : TermsAt w b2 off2 l2) :
    Calls Try.prog 144 #[.slice (some ⟨b1, off1, none⟩) l1.length cap1, .slice (some ⟨b2, off2, none⟩) l2.length cap2] w fun e w' => ∃ v, e = .returned v ∧ PolyC w' w'.heap.size v (prodTo l1 l2 l1.length) ∧ Below w.heap.size w w' := by
  have h164 := ((may_iff l1).1 hm1).1
  have h264 := ((may_iff l2).1 hm2).1
  have HM1 : Hid (mayB l1 = true) := hm1
  have HM2 : Hid (mayB l2 = true) := hm2
  have HT1 : Hid (TermsAt w b1 off1 l1) := hT1
  have HT2 : Hid (TermsAt w b2 off2 l2) := hT2
  clear hm1 hm2 hT1 hT2
  go_enter Try.func144, Try.ntmps144
  go_wp2
  go_loopw [5, 6, 7] (fun v i _ wr => ∃ k : Nat, k ≤ l1.length ∧ i = .int .i64 k ∧ Hid (PolyC wr wr.heap.size v (prodTo l1 l2 k)) ∧ Below w.heap.size w wr) (fun _ i _ _ => l1.length - (intOf i).toNat)
  case atStart => exact ⟨0, Nat.zero_le _, rfl, ⟨Or.inl ⟨rfl, rfl⟩, none, 0, 0, rfl, Nat.le_refl _, Nat.zero_le _⟩, Below.refl _ _⟩
  case round =>
    rename World => W1
    obtain ⟨i, hi, rfl, hP, hb⟩ := hrel
    by_cases hlt : i < l1.length
    · have hlen := prodTo_length l1 l2 h264 i
      go_wp2
      go_loopw [5, 7] (fun v j wr => ∃ k : Nat, k ≤ l2.length ∧ j = .int .i64 k ∧ Hid (PolyC wr wr.heap.size v (rowTo (prodTo l1 l2 i) l2 (l1.getD i (0, 0)) k)) ∧ Below w.heap.size w wr) (fun _ j _ => l2.length - (intOf j).toNat)
      case atStart => exact ⟨0, Nat.zero_le _, rfl, hP, hb⟩
      case round =>
        clear hb hP
        obtain ⟨k, hk, rfl, hP, hb⟩ := hrel
        by_cases hlt2 : k < l2.length
        · have c0 := bcell hb hbw1 (HT1.out i hlt).1
          have c1 := bcell hb hbw1 (HT1.out i hlt).2
          have d0 := bcell hb hbw2 (HT2.out k hlt2).1
          have d1 := bcell hb hbw2 (HT2.out k hlt2).2
          have hok := (okB_iff l1 i).1 (((may_iff l1).1 HM1.out).2 i hlt)
          have hok2 := (okB_iff l2 k).1 (((may_iff l2).1 HM2.out).2 k hlt2)
          have hrl := rowTo_length (prodTo l1 l2 i) l2 (l1.getD i (0, 0)) k
          have HBD : Hid _ := row_bd HM1.out HM2.out i k hlt hk
          have hstep : Hid (rowTo (prodTo l1 l2 i) l2 (l1.getD i (0, 0)) (k + 1) = putL (rowTo (prodTo l1 l2 i) l2 (l1.getD i (0, 0)) k) ((l1.getD i (0, 0)).1 + (l2.getD k (0, 0)).1) ((l1.getD i (0, 0)).2 * (l2.getD k (0, 0)).2)) := rfl
          generalize hR : rowTo (prodTo l1 l2 i) l2 (l1.getD i (0, 0)) k = R at hP hrl HBD hstep
          generalize hR2 : rowTo (prodTo l1 l2 i) l2 (l1.getD i (0, 0)) (k + 1) = R2 at hstep
          generalize he : (l1.getD i (0, 0)).1 = e at c0 hok hstep
          generalize hc : (l1.getD i (0, 0)).2 = c at c1 hok hstep
          generalize he2 : (l2.getD k (0, 0)).1 = e2 at d0 hok2 hstep
          generalize hc2 : (l2.getD k (0, 0)).2 = c2 at d1 hok2 hstep
          have HR2 : Hid (rowTo (prodTo l1 l2 i) l2 (l1.getD i (0, 0)) (k + 1) = R2) := hR2
          clear he hc he2 hc2 hR hR2
          obtain ⟨o1, o2, o3, o4, o5, -⟩ := hok
          obtain ⟨p1, p2, p3, p4, p5, -⟩ := hok2
          clear o5 p5
          have hmul := mul_bd o3 o4 p3 p4
          have hw1 : IntKind.i64.wrap (e + e2) = e + e2 := IntWalk.i64_in _ (by omega)
          have hw2 : IntKind.i64.wrap (c * c2) = c * c2 := IntWalk.i64_in _ (by omega)
          have hbr1 : b1 < wr.heap.size := Nat.lt_of_lt_of_le hbw1 hb.size
          have hbr2 : b2 < wr.heap.size := Nat.lt_of_lt_of_le hbw2 hb.size
          go_wp2
          go_region_with (go_at_call 142; refine (put_poly _ R (e + e2) (c * c2) _ (by omega) (by omega) (by omega) HBD.out (hP.out.up (Below.refl _ _).drew)).mono ?_; rintro r w1 ⟨v', rfl, hP1', hb1⟩)
          all_goals go_wp2
          all_goals go_roundw
          all_goals first | (simp only [intOf]; omega) | skip
          all_goals refine ⟨k + 1, by omega, by go_num, ?_, hb.drew.trans (hb1.mono hb.size)⟩
          all_goals
            show PolyC _ _ _ _
            rw [HR2.out, hstep.out]
            exact hP1'
        · go_wp2
          go_roundw
          case rel =>
            obtain rfl : k = l2.length := by omega
            exact ⟨i + 1, by omega, by go_num, hP, hb⟩
          case measure => simp [intOf]; omega
    · go_wp2
      go_ret
      obtain rfl : i = l1.length := by omega
      exact ⟨_, rfl, hP.out, hb⟩
end Go.Proofs.Ytajmogojekichaa.Poly

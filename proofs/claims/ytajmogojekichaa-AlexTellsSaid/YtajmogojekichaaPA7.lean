/- The walks of knotworkref.UnitOf and knotworkref.FlipOf. -/
import Derived.Test.YtajmogojekichaaPA6
import Derived.Deep.RegionLaw
namespace Go.Proofs.Ytajmogojekichaa.Poly
open Go.RowKit

/-- append onto a row of the call's own, as one step of a region that draws. -/
theorem step_append_own {P : Program} {ops : Array Oper} {o : Oper} {a : Act} {w : World} {K : Act → World → Prop} {Q : Exit → Act → World → Prop} {E : Prop}
    (hg : o.guard = none) (s x : Operand) (t : TypeId)
    (ho : o.op = .call { callee := .builtin .append, args := #[s, x], argTypes := #[t, t] })
    (base : Nat) (e : TypeId) (i : TypeInfo) (z : Value) (size bytes : Nat) (ht : P.underlying t = some (.slice e)) (hi : P.info? e = some i) (hz : i.zero = some z)
    (hsize : i.size = size) (hby : i.bytes = bytes) (hzs : z.cells.size = size) (hsz : 0 < size)
    (v : Value) (n : Nat) (xs : List Value) (hs : a.eval s = v) (hown : w.ownsRow base e size v n xs)
    (ad : Addr) (m c : Nat) (news : List Value) (hx : a.eval x = .slice (some ad) m c) (hl : news.length = m * size) (hnews : ∀ j u, news[j]? = some u → w.cell? (ad.add j) = some u) (h1 : ∀ u ∈ news, u.oneCell' = true)
    (h63 : n + m ≤ maxLen) (hbytes : (n + m) * bytes ≤ 140737488355328) (hbase : base ≤ w.heap.size)
    (h : ∀ v' w', w'.ownsRow base e size v' (n + m) (xs ++ news) → w.grownBy w' v.ownBlock → K (a.put o.dst v') w') :
    if Region.wanted o (yielded ops a.tmps) = true then Oper.wp P o a w K Q else E := by
  have hw : Region.wanted o (yielded ops a.tmps) = true := by simp [Region.wanted, hg]
  rw [if_pos hw]
  exact wp_append_own w s x t ho base e i z size bytes ht hi hz hsize hby hzs hsz v n xs hs hown ad m c news hx hl hnews h1 h63 hbytes hbase (fun v' w' h2 h3 _ => h v' w' h2 h3)

theorem new_cells (W : World) (x y : Value) : ∀ j u, [x, y][j]? = some u → (W.alloc (.cells #[x, y] 124)).drew.cell? ((⟨W.heap.size, 0, none⟩ : Addr).add j) = some u := by
  intro j u hj
  rw [Addr.add_lit, Nat.zero_add]
  have hh : (W.alloc (.cells #[x, y] 124)).drew.heap[W.heap.size]? = some (.cells #[x, y] 124 (0, 0)) := Array.getElem?_push_size
  match j, hj with
  | 0, hj => simp at hj; subst hj; unfold World.cell?; rw [hh]; rfl
  | 1, hj => simp at hj; subst hj; unfold World.cell?; rw [hh]; rfl

theorem pair_one (a b : Int) : ∀ u ∈ [Value.int .i64 a, Value.int .i64 b], u.oneCell' = true := by
  intro u hu
  simp at hu
  rcases hu with rfl | rfl <;> rfl

/-- Times a power, and perhaps -1. -/
def unitL (l : List (Int × Int)) : List (Int × Int) := l.map fun t => (t.1 - (l.getD 0 (0, 0)).1, if (l.getD 0 (0, 0)).2 < 0 then -t.2 else t.2)

theorem unit_take (l : List (Int × Int)) (k : Nat) (hk : k < l.length) {e c e0 c0 : Int} (he : (l.getD k (0, 0)).1 = e) (hc : (l.getD k (0, 0)).2 = c) (he0 : (l.getD 0 (0, 0)).1 = e0) (hc0 : (l.getD 0 (0, 0)).2 = c0) :
    (unitL l).take (k + 1) = (unitL l).take k ++ [(e - e0, if c0 < 0 then -c else c)] := by
  rw [List.take_succ_eq_append_getElem (by simpa [unitL] using hk)]
  congr 2
  have g : l.getD k (0, 0) = l[k] := by simp [List.getD, hk]
  rw [g] at he hc
  subst he hc he0 hc0
  simp only [unitL, List.getElem_map]

set_option maxHeartbeats 1000000 in
set_option maxRecDepth 100000 in
theorem unitOf_some (b off cap : Nat) (l : List (Int × Int)) (w : World) (hm : mayB l = true) (hbw : b < w.heap.size) (hT : TermsAt w b off l) :
    Calls Try.prog 95 #[.slice (some ⟨b, off, none⟩) l.length cap] w fun e w' => ∃ v, e = .returned v ∧ w'.ownsRow w.heap.size 124 2 v l.length (flat (unitL l)) ∧ Below w.heap.size w w' := by
  obtain ⟨i0, hi, hz0, hz1, hz2⟩ := info_parts infoTerm
  have hl64 := ((may_iff l).1 hm).1
  have HM : Hid (mayB l = true) := hm
  have HT : Hid (TermsAt w b off l) := hT
  clear hm hT
  go_enter Try.func95, Try.ntmps95
  go_wp2
  go_loopw [3, 4, 5] (fun v i _ wr => ∃ k : Nat, k ≤ l.length ∧ i = .int .i64 k ∧ wr.ownsRow w.heap.size 124 2 v k (flat ((unitL l).take k)) ∧ Below w.heap.size w wr) (fun _ i _ _ => l.length - (intOf i).toNat)
  case atStart => exact ⟨0, Nat.zero_le _, rfl, World.ownsRow_nil _ _ _ _, Below.refl _ _⟩
  case round =>
    rename_i v _
    obtain ⟨k, hk, rfl, hown, hb⟩ := hrel
    by_cases hlt : k < l.length
    · have c0 := bcell hb hbw (HT.out k hlt).1
      have c1 := bcell hb hbw (HT.out k hlt).2
      have z0 := bcell hb hbw (HT.out 0 (by omega)).1
      have z1 := bcell hb hbw (HT.out 0 (by omega)).2
      simp only [Nat.zero_mul, Nat.add_zero] at z0 z1
      have hok := (okB_iff l k).1 (((may_iff l).1 HM.out).2 k hlt)
      have hok0 := (okB_iff l 0).1 (((may_iff l).1 HM.out).2 0 (by omega))
      have hstep : Hid _ := fun e c e0 c0 he hc he0 hc0 => @unit_take l k hlt e c e0 c0 he hc he0 hc0
      generalize he : (l.getD k (0, 0)).1 = e at c0 hok
      generalize hc : (l.getD k (0, 0)).2 = c at c1 hok
      generalize he0 : (l.getD 0 (0, 0)).1 = e0 at z0 hok0
      generalize hc0 : (l.getD 0 (0, 0)).2 = c0' at z1 hok0
      have HS : Hid (flat ((unitL l).take (k + 1)) = flat ((unitL l).take k) ++ [.int .i64 (e - e0), .int .i64 (if c0' < 0 then -c else c)]) := by
        show _ = _
        rw [hstep.out e c e0 c0' he hc he0 hc0, flat_append]
        rfl
      clear he hc he0 hc0 hstep
      obtain ⟨o1, o2, o3, o4, o5, -⟩ := hok
      obtain ⟨p1, p2, p3, p4, p5, -⟩ := hok0
      clear o5 p5
      have hsz := hb.size
      have hbr : b < wr.heap.size := Nat.lt_of_lt_of_le hbw hsz
      have hpos : 0 < l.length := by omega
      have hw1 : IntKind.i64.wrap (e - e0) = e - e0 := IntWalk.i64_in _ (by omega)
      have hlm : k + 1 ≤ maxLen := by unfold maxLen; omega
      by_cases hneg : c0' < 0
      · have HV : Hid ((if c0' < 0 then -c else c) = -c) := if_pos hneg
        go_wp2
        go_region_law (refine step_append_own rfl (.tmp 24) (.tmp 37) 63 rfl w.heap.size 124 i0 (.agg #[.int .i64 0, .int .i64 0]) 2 16 Try.underlying63 hi hz0 hz1 hz2 rfl (by decide) _ k _ (by simp [Act.eval]) (hown.alloc _) ⟨wr.heap.size, 0, none⟩ 1 1 [.int .i64 (e - e0), .int .i64 (-c)] (by simp [Act.eval]) rfl (new_cells _ _ _) (pair_one _ _) hlm (by omega) (by simp; omega) ?_; intro v' w' hown' hgr)
        all_goals go_wp2
        all_goals go_roundw
        all_goals first | (simp only [intOf]; omega) | skip
        all_goals refine ⟨k + 1, by omega, by go_num, ?_, (hb.alloc hsz _).drew.grown hgr (by simp; omega) (fun q hq => (hown.lt q hq).1)⟩
        all_goals rw [HS.out, HV.out]
        all_goals exact hown'
      · have HV : Hid ((if c0' < 0 then -c else c) = c) := if_neg hneg
        go_wp2
        go_region_law (refine step_append_own rfl (.tmp 24) (.tmp 37) 63 rfl w.heap.size 124 i0 (.agg #[.int .i64 0, .int .i64 0]) 2 16 Try.underlying63 hi hz0 hz1 hz2 rfl (by decide) _ k _ (by simp [Act.eval]) (hown.alloc _) ⟨wr.heap.size, 0, none⟩ 1 1 [.int .i64 (e - e0), .int .i64 (c)] (by simp [Act.eval]) rfl (new_cells _ _ _) (pair_one _ _) hlm (by omega) (by simp; omega) ?_; intro v' w' hown' hgr)
        all_goals go_wp2
        all_goals go_roundw
        all_goals first | (simp only [intOf]; omega) | skip
        all_goals refine ⟨k + 1, by omega, by go_num, ?_, (hb.alloc hsz _).drew.grown hgr (by simp; omega) (fun q hq => (hown.lt q hq).1)⟩
        all_goals rw [HS.out, HV.out]
        all_goals exact hown'
    · go_wp2
      go_ret
      obtain rfl : k = l.length := by omega
      refine ⟨_, rfl, ?_, hb⟩
      have : (unitL l).take l.length = unitL l := List.take_of_length_le (by simp [unitL])
      rw [this] at hown
      exact hown

/-- All exponents' signs changed. -/
def flipL (l : List (Int × Int)) : List (Int × Int) := (l.map fun t => (-t.1, t.2)).reverse

theorem flip_take (l : List (Int × Int)) (k : Nat) (hk : k < l.length) {e c : Int} (he : (l.getD (l.length - 1 - k) (0, 0)).1 = e) (hc : (l.getD (l.length - 1 - k) (0, 0)).2 = c) :
    (flipL l).take (k + 1) = (flipL l).take k ++ [(-e, c)] := by
  rw [List.take_succ_eq_append_getElem (by simpa [flipL] using hk)]
  congr 2
  have g : l.getD (l.length - 1 - k) (0, 0) = l[l.length - 1 - k]'(by omega) := by simp [List.getD, show l.length - 1 - k < l.length by omega]
  rw [g] at he hc
  simp only [flipL, List.getElem_reverse, List.getElem_map, List.length_map]
  rw [he, hc]

set_option maxHeartbeats 400000 in
theorem unitOf_none (a : Option Addr) (cap : Nat) (w : World) :
    Calls Try.prog 95 #[.slice a 0 cap] w fun e w' => e = .returned (.slice none 0 0) ∧ Below w.heap.size w w' := by
  go_enter Try.func95, Try.ntmps95
  go_wp2
  go_loopw [3, 4, 5] (fun v i _ wr => i = .int .i64 0 ∧ v = .slice none 0 0 ∧ Below w.heap.size w wr) (fun _ _ _ _ => 0)
  case atStart => exact ⟨rfl, rfl, Below.refl _ _⟩
  case round =>
    obtain ⟨rfl, rfl, hb⟩ := hrel
    go_wp2
    go_ret
    exact ⟨rfl, hb⟩

theorem unitOf_poly (v : Value) (l : List (Int × Int)) (w : World) (hm : mayB l = true) (hP : Poly w w.heap.size v l) :
    Calls Try.prog 95 #[v] w fun e w' => ∃ v, e = .returned v ∧ Poly w' w'.heap.size v (unitL l) ∧ Below w.heap.size w w' := by
  rcases hP with ⟨rfl, rfl⟩ | ⟨a, cap, rfl, rfl⟩ | ⟨b, off, cap, rfl, hlt, hT⟩
  · exact (unitOf_none none 0 w).mono fun e w' ⟨h1, h2⟩ => ⟨_, h1, Or.inl ⟨rfl, rfl⟩, h2⟩
  · exact (unitOf_none (some a) cap w).mono fun e w' ⟨h1, h2⟩ => ⟨_, h1, Or.inl ⟨rfl, rfl⟩, h2⟩
  · refine (unitOf_some b off cap l w hm hlt hT).mono fun e w' ⟨v, h1, h2, h3⟩ => ⟨v, h1, Poly.ofRow (l := unitL l) (e := 124) (base := w.heap.size) ?_, h3⟩
    rw [show (unitL l).length = l.length by simp [unitL]]
    exact h2

end Go.Proofs.Ytajmogojekichaa.Poly

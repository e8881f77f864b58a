/- Sums: the walks of Drawing.Has and of the closure that numbers arcs anew, and of drawing.Renumbered with it. -/
import Derived.Test.YtajmogojekichaaK1P
namespace Go.Proofs.Ytajmogojekichaa
open Go.RowKit

/-- The number of an arc of a summand: more of it; where it is the one that is cut and comes in, another. -/
def tnum (x : Cr) (more cut other : Int) (k : Nat) : Int := if x.arc k = cut ∧ x.comes k = true then other else x.arc k + more
/-- A crossing of a summand. -/
def tieX (more cut other : Int) (x : Cr) : Cr := ⟨tnum x more cut other 0, tnum x more cut other 1, tnum x more cut other 2, tnum x more cut other 3, x.plus⟩

set_option maxHeartbeats 2000000 in
set_option maxRecDepth 100000 in
theorem tiedNum_any (x : Cr) (k : Nat) (more cut other : Int) (pc px po pm : Nat) (w : World) (hk : k < 4) (h1 : -1000 ≤ x.arc k ∧ x.arc k ≤ 1000) (h2 : -1000 ≤ more ∧ more ≤ 1000) (_l1 : pc < w.heap.size) (_l2 : px < w.heap.size) (l3 : po < w.heap.size) (l4 : pm < w.heap.size)
    (c0 : w.cell? ⟨pc, 0, none⟩ = some (.int .i64 cut)) (c1 : w.cell? ⟨px, 0, none⟩ = some (.int .i64 x.a)) (c2 : w.cell? ⟨px, 1, none⟩ = some (.int .i64 x.b)) (c3 : w.cell? ⟨px, 2, none⟩ = some (.int .i64 x.c)) (c4 : w.cell? ⟨px, 3, none⟩ = some (.int .i64 x.d)) (c5 : w.cell? ⟨px, 4, none⟩ = some (.bool x.plus))
    (c6 : w.cell? ⟨po, 0, none⟩ = some (.int .i64 other)) (c7 : w.cell? ⟨pm, 0, none⟩ = some (.int .i64 more)) :
    Calls Try.prog 124 #[.int .i64 (k : Nat), .int .i64 (x.arc k), .pointer (some ⟨pc, 0, none⟩), .pointer (some ⟨px, 0, none⟩), .pointer (some ⟨po, 0, none⟩), .pointer (some ⟨pm, 0, none⟩)] w fun e w' => e = .returned (.int .i64 (tnum x more cut other k)) ∧ Below w.heap.size w w' := by
  have HT : Hid (tnum x more cut other k = if x.arc k = cut ∧ x.comes k = true then other else x.arc k + more) := (rfl : tnum x more cut other k = if x.arc k = cut ∧ x.comes k = true then other else x.arc k + more)
  generalize tnum x more cut other k = r at HT
  by_cases he : x.arc k = cut
  · have hd : (x.arc k == cut) = true := by simpa using he
    cases hcm : x.comes k with
    | true =>
      rw [if_pos ⟨he, hcm⟩] at HT
      generalize x.arc k = z at hd h1 he
      go_enter Try.func124, Try.ntmps124
      go_wp2_with (go_at_call 111; refine (comesIn_any x k _ hk).mono ?_; rw [hcm]; rintro e9 w1 ⟨rfl, hb1⟩; refine Hid.out ?_)
      refine Lib.hid ?_
      have d6 := bcell hb1 l3 c6
      have hs := hb1.size
      have l5 : po < w1.heap.size := by omega
      clear c0 c1 c2 c3 c4 c5 c6 c7
      go_wp2
      go_ret
      exact ⟨ret_int HT.out.symm, hb1⟩
    | false =>
      rw [if_neg (fun h => by rw [hcm] at h; cases h.2)] at HT
      generalize x.arc k = z at hd h1 he HT
      have hw : IntKind.i64.wrap (z + more) = z + more := IntWalk.i64_in _ (by omega)
      go_enter Try.func124, Try.ntmps124
      go_wp2_with (go_at_call 111; refine (comesIn_any x k _ hk).mono ?_; rw [hcm]; rintro e9 w1 ⟨rfl, hb1⟩; refine Hid.out ?_)
      refine Lib.hid ?_
      have d7 := bcell hb1 l4 c7
      have hs := hb1.size
      have l5 : pm < w1.heap.size := by omega
      clear c0 c1 c2 c3 c4 c5 c6 c7
      go_wp2
      go_ret
      exact ⟨ret_int (by have := HT.out; omega), hb1⟩
  · have hd : (x.arc k == cut) = false := by rw [beq_eq_false_iff_ne]; exact he
    rw [if_neg (fun h => he h.1)] at HT
    generalize x.arc k = z at hd h1 he HT
    have hw : IntKind.i64.wrap (z + more) = z + more := IntWalk.i64_in _ (by omega)
    go_enter Try.func124, Try.ntmps124
    go_wp2
    go_ret
    exact ⟨ret_int (by have := HT.out; omega), Below.refl _ _⟩

/-- The numbers behind k sides. -/
def numTo (g : Nat → Int) (k : Nat) : List Int := (List.range 4).map fun j => if j < k then g j else 0
theorem numTo_len (g : Nat → Int) (k : Nat) : (numTo g k).length = 4 := by simp [numTo]
theorem numTo_next (g : Nat → Int) (k : Nat) (hk : k < 4) : (numTo g k).set k (g k) = numTo g (k + 1) := by
  apply List.ext_getElem?
  intro i
  rw [List.getElem?_set]
  by_cases hi : i < 4
  · by_cases e : k = i
    · subst e
      simp [numTo, hi]
    · rw [if_neg e]
      simp only [numTo, List.getElem?_map, List.getElem?_range hi, Option.map_some]
      congr 1
      by_cases h2 : i < k
      · rw [if_pos h2, if_pos (by omega)]
      · rw [if_neg h2, if_neg (by omega)]
  · rw [List.getElem?_eq_none (by rw [numTo_len]; omega), List.getElem?_eq_none (by rw [numTo_len]; omega)]
    split
    · next e => rw [if_neg (by rw [numTo_len]; omega)]
    · rfl
theorem numTo_zero (g : Nat → Int) : numTo g 0 = [0, 0, 0, 0] := by simp [numTo, List.range_succ]
theorem numTo_four (g : Nat → Int) : intArr (numTo g 4) = #[.int .i64 (g 0), .int .i64 (g 1), .int .i64 (g 2), .int .i64 (g 3)] := by
  simp [numTo, intArr, List.range_succ]
/-- The four boxes that the closure holds. -/
def Boxes (w : World) (x : Cr) (more cut other : Int) (pc px po pm : Nat) : Prop := (pc < w.heap.size ∧ px < w.heap.size ∧ po < w.heap.size ∧ pm < w.heap.size) ∧ w.cell? ⟨pc, 0, none⟩ = some (.int .i64 cut) ∧ w.cell? ⟨px, 0, none⟩ = some (.int .i64 x.a) ∧ w.cell? ⟨px, 1, none⟩ = some (.int .i64 x.b) ∧ w.cell? ⟨px, 2, none⟩ = some (.int .i64 x.c) ∧ w.cell? ⟨px, 3, none⟩ = some (.int .i64 x.d) ∧ w.cell? ⟨px, 4, none⟩ = some (.bool x.plus) ∧ w.cell? ⟨po, 0, none⟩ = some (.int .i64 other) ∧ w.cell? ⟨pm, 0, none⟩ = some (.int .i64 more)
theorem Boxes.kept {B : Nat} {w w' : World} {x : Cr} {more cut other : Int} {pc px po pm : Nat} (h : Boxes w x more cut other pc px po pm) (hb : Below B w w') (l1 : pc < B) (l2 : px < B) (l3 : po < B) (l4 : pm < B) : Boxes w' x more cut other pc px po pm := by
  obtain ⟨⟨a1, a2, a3, a4⟩, c0, c1, c2, c3, c4, c5, c6, c7⟩ := h
  have hs := hb.size
  exact ⟨⟨by omega, by omega, by omega, by omega⟩, bcell hb l1 c0, bcell hb l2 c1, bcell hb l2 c2, bcell hb l2 c3, bcell hb l2 c4, bcell hb l2 c5, bcell hb l3 c6, bcell hb l4 c7⟩

set_option maxHeartbeats 4000000 in
set_option maxRecDepth 100000 in
theorem renumbered_any (x : Cr) (more cut other : Int) (pc px po pm : Nat) (w : World) (h1 : ∀ k, k < 4 → -1000 ≤ x.arc k ∧ x.arc k ≤ 1000) (h2 : -1000 ≤ more ∧ more ≤ 1000) (hX : Boxes w x more cut other pc px po pm) :
    Calls Try.prog 117 #[.agg #[.int .i64 x.a, .int .i64 x.b, .int .i64 x.c, .int .i64 x.d, .bool x.plus], .func (.func 124) #[] #[.pointer (some ⟨pc, 0, none⟩), .pointer (some ⟨px, 0, none⟩), .pointer (some ⟨po, 0, none⟩), .pointer (some ⟨pm, 0, none⟩)]] w fun e w' => e = .returned (.agg #[.int .i64 (tieX more cut other x).a, .int .i64 (tieX more cut other x).b, .int .i64 (tieX more cut other x).c, .int .i64 (tieX more cut other x).d, .bool x.plus]) ∧ Below w.heap.size w w' := by
  have HX : Hid (Boxes w x more cut other pc px po pm) := hX
  have H1 : Hid (∀ k, k < 4 → -1000 ≤ x.arc k ∧ x.arc k ≤ 1000) := h1
  obtain ⟨⟨l1, l2, l3, l4⟩, -⟩ := hX
  clear h1
  obtain ⟨w0, hw0⟩ : ∃ w0, w0 = ((w.alloc (.cells #[.int .i64 x.a, .int .i64 x.b, .int .i64 x.c, .int .i64 x.d, .bool x.plus] 99)).alloc (.cells #[.int .i64 0, .int .i64 0, .int .i64 0, .int .i64 0, .bool false] 99)).alloc (.cells #[.int .i64 0, .int .i64 0, .int .i64 0, .int .i64 0] 150) := ⟨_, rfl⟩
  have HW0 : Hid (w0 = ((w.alloc (.cells #[.int .i64 x.a, .int .i64 x.b, .int .i64 x.c, .int .i64 x.d, .bool x.plus] 99)).alloc (.cells #[.int .i64 0, .int .i64 0, .int .i64 0, .int .i64 0, .bool false] 99)).alloc (.cells #[.int .i64 0, .int .i64 0, .int .i64 0, .int .i64 0] 150)) := hw0
  have hs0 : w0.heap.size = w.heap.size + 3 := by rw [hw0]; simp
  have HB0 : Hid (Below w.heap.size w w0) := (by rw [hw0]; exact below3 _ _ _ _ : Below w.heap.size w w0)
  have HT0 : Hid (w0.heap[w.heap.size]? = some (.cells #[.int .i64 x.a, .int .i64 x.b, .int .i64 x.c, .int .i64 x.d, .bool x.plus] 99 (0, 0))) := (by rw [hw0]; exact alloc_old (alloc_old (alloc_at rfl)) : w0.heap[w.heap.size]? = some (.cells #[.int .i64 x.a, .int .i64 x.b, .int .i64 x.c, .int .i64 x.d, .bool x.plus] 99 (0, 0)))
  have HT1 : Hid (w0.heap[w.heap.size + 1]? = some (.cells #[.int .i64 0, .int .i64 0, .int .i64 0, .int .i64 0, .bool false] 99 (0, 0))) := (by rw [hw0]; exact alloc_old (alloc_at (by simp)) : w0.heap[w.heap.size + 1]? = some (.cells #[.int .i64 0, .int .i64 0, .int .i64 0, .int .i64 0, .bool false] 99 (0, 0)))
  obtain ⟨g, hg⟩ : ∃ g : Nat → Int, g = tnum x more cut other := ⟨_, rfl⟩
  have HG : Hid (g = tnum x more cut other) := hg
  clear hg
  have HT2 : Hid (w0.heap[w.heap.size + 1 + 1]? = some (.cells (intArr (numTo g 0)) 150 (0, 0))) := (by rw [hw0, numTo_zero]; exact alloc_at (by simp) : w0.heap[w.heap.size + 1 + 1]? = some (.cells (intArr (numTo g 0)) 150 (0, 0)))
  have HTI : Hid (tieX more cut other x = ⟨g 0, g 1, g 2, g 3, x.plus⟩) := (by rw [HG.out]; rfl : tieX more cut other x = ⟨g 0, g 1, g 2, g 3, x.plus⟩)
  clear hw0
  generalize tieX more cut other x = t at HTI
  obtain rfl : t = ⟨g 0, g 1, g 2, g 3, x.plus⟩ := HTI.out
  clear HTI
  go_enter Try.func117, Try.ntmps117
  go_wp2_with (go_at_call 110; rw [← HW0.out]; refine (arcs_any x _).mono ?_; rintro e9 w1 ⟨rfl, hb1⟩; refine Hid.out ?_)
  refine Lib.hid ?_
  have HB1 : Hid (Below w.heap.size w w1) := HB0.out.trans (hb1.mono (by omega))
  have hs1 := hb1.size
  have HA1 : Hid (w1.heap[w.heap.size + 1 + 1]? = some (.cells (intArr (numTo g 0)) 150 (0, 0))) := (hb1.block _ (by omega)).trans HT2.out
  have HC1 : Hid (w1.heap[w.heap.size]? = some (.cells #[.int .i64 x.a, .int .i64 x.b, .int .i64 x.c, .int .i64 x.d, .bool x.plus] 99 (0, 0))) := (hb1.block _ (by omega)).trans HT0.out
  have HR1 : Hid (w1.heap[w.heap.size + 1]? = some (.cells #[.int .i64 0, .int .i64 0, .int .i64 0, .int .i64 0, .bool false] 99 (0, 0))) := (hb1.block _ (by omega)).trans HT1.out
  clear hb1
  go_wp2
  go_loopw [10] (fun v10 wr => ∃ k : Nat, k ≤ 4 ∧ v10 = .int .i64 (k : Nat) ∧ Hid (wr.heap[w.heap.size + 1 + 1]? = some (.cells (intArr (numTo g k)) 150 (0, 0))) ∧ Below (w.heap.size + 1 + 1) w1 wr) (fun v10 _ => 4 - (intOf v10).toNat)
  case atStart => exact ⟨0, Nat.zero_le _, rfl, HA1.out, Below.refl _ _⟩
  case round =>
    rename World => W1
    obtain ⟨k, hk, rfl, hA, hb⟩ := hrel
    have hsz := hb.size
    by_cases hkl : k < 4
    · have hix := index_arr x k hkl
      have HBX : Hid (Boxes W1 x more cut other pc px po pm) := HX.out.kept (HB1.out.trans (hb.mono (by omega))) l1 l2 l3 l4
      obtain ⟨⟨m1, m2, m3, m4⟩, d0, d1, d2, d3, d4, d5, d6, d7⟩ := HBX.out
      have HGK : Hid (tnum x more cut other k = g k) := (by rw [HG.out] : tnum x more cut other k = g k)
      have HN : Hid (numTo g (k + 1) = (numTo g k).set k (g k)) := (numTo_next g k hkl).symm
      have D0 : Hid (Boxes W1 x more cut other pc px po pm) := HBX.out
      clear d0 d1 d2 d3 d4 d5 d6 d7
      go_wp2_with (go_at_call 124; refine (tiedNum_any x k more cut other pc px po pm _ hkl (H1.out k hkl) h2 m1 m2 m3 m4 D0.out.2.1 D0.out.2.2.1 D0.out.2.2.2.1 D0.out.2.2.2.2.1 D0.out.2.2.2.2.2.1 D0.out.2.2.2.2.2.2.1 D0.out.2.2.2.2.2.2.2.1 D0.out.2.2.2.2.2.2.2.2).mono ?_; rw [HGK.out]; rintro e9 w2 ⟨rfl, hb2⟩; refine Hid.out ?_)
      refine Lib.hid ?_
      have HB2 : Hid (Below W1.heap.size W1 w2) := hb2
      have hs2 := hb2.size
      have hA2 : w2.heap[w.heap.size + 1 + 1]? = some (.cells (intArr (numTo g k)) 150 (0, 0)) := (hb2.block _ (by omega)).trans hA.out
      have HA2 : Hid (w2.heap[w.heap.size + 1 + 1]? = some (.cells (intArr (numTo g k)) 150 (0, 0))) := hA2
      have e0 : w2.cell? ⟨w.heap.size + 1 + 1, k, none⟩ = some (.int .i64 ((numTo g k).getD k 0)) := block_cell hA2 (intArr_get _ k (by rw [numTo_len]; exact hkl))
      have z0 : w2.frozen? ⟨w.heap.size + 1 + 1, k, none⟩ = false := block_frozen hA2
      have hlt : w.heap.size + 1 + 1 < w2.heap.size := by omega
      generalize (numTo g k).getD k 0 = u at e0
      clear hb2 hA2
      go_wp2
      go_roundw
      case rel => exact ⟨k + 1, by omega, by go_num, (by rw [HN.out, ← intArr_set]; exact set_block HA2.out : (w2.setCell ⟨w.heap.size + 1 + 1, k, none⟩ (.int .i64 (g k))).heap[w.heap.size + 1 + 1]? = some (.cells (intArr (numTo g (k + 1))) 150 (0, 0))), (hb.trans (HB2.out.mono (by omega))).grown (set_grown w2 (w.heap.size + 1 + 1) k (.int .i64 (g k))) (by omega) (fun q hq => by have := Option.some.inj hq; omega)⟩
      case measure => simp only [intOf]; omega
    · obtain rfl : k = 4 := by omega
      have hA4 := hA.out
      rw [numTo_four] at hA4
      have hC := (hb.block _ (by omega)).trans HC1.out
      have hR := (hb.block _ (by omega)).trans HR1.out
      have HR : Hid (W1.heap[w.heap.size + 1]? = some (.cells #[.int .i64 0, .int .i64 0, .int .i64 0, .int .i64 0, .bool false] 99 (0, 0))) := hR
      have a0 : W1.cell? ⟨w.heap.size + 1 + 1, 0, none⟩ = some (.int .i64 (g 0)) := block_cell hA4 rfl
      have a1 : W1.cell? ⟨w.heap.size + 1 + 1, 1, none⟩ = some (.int .i64 (g 1)) := block_cell hA4 rfl
      have a2 : W1.cell? ⟨w.heap.size + 1 + 1, 2, none⟩ = some (.int .i64 (g 2)) := block_cell hA4 rfl
      have a3 : W1.cell? ⟨w.heap.size + 1 + 1, 3, none⟩ = some (.int .i64 (g 3)) := block_cell hA4 rfl
      have a4 : W1.cell? ⟨w.heap.size, 4, none⟩ = some (.bool x.plus) := block_cell hC rfl
      have hlt : w.heap.size + 1 + 1 < W1.heap.size := by omega
      have HBW : Hid (Below w.heap.size w W1) := HB1.out.trans (hb.mono (by omega))
      clear hA4 hC hR hA hb
      go_wp2_with (go_at_call 164; refine (crossOf_any ⟨(g 0), (g 1), (g 2), (g 3), x.plus⟩ _).mono ?_; rintro e9 w4 ⟨rfl, hb4⟩; refine Hid.out ?_)
      refine Lib.hid ?_
      have HR4 : Hid (w4.heap[w.heap.size + 1]? = some (.cells #[.int .i64 0, .int .i64 0, .int .i64 0, .int .i64 0, .bool false] 99 (0, 0))) := (hb4.block _ (by omega)).trans HR.out
      have HB4 : Hid (Below w.heap.size w w4) := HBW.out.trans (hb4.mono (by omega))
      have hs4 := hb4.size
      clear hb4 a0 a1 a2 a3 a4
      have r0 : w4.cell? ⟨w.heap.size + 1, 0, none⟩ = some (.int .i64 0) := block_cell HR4.out rfl
      have r1 : w4.cell? ⟨w.heap.size + 1, 1, none⟩ = some (.int .i64 0) := block_cell HR4.out rfl
      have r2 : w4.cell? ⟨w.heap.size + 1, 2, none⟩ = some (.int .i64 0) := block_cell HR4.out rfl
      have r3 : w4.cell? ⟨w.heap.size + 1, 3, none⟩ = some (.int .i64 0) := block_cell HR4.out rfl
      have r4 : w4.cell? ⟨w.heap.size + 1, 4, none⟩ = some (.bool false) := block_cell HR4.out rfl
      have f0 : w4.frozen? ⟨w.heap.size + 1, 0, none⟩ = false := block_frozen HR4.out
      have f1 : w4.frozen? ⟨w.heap.size + 1, 1, none⟩ = false := block_frozen HR4.out
      have f2 : w4.frozen? ⟨w.heap.size + 1, 2, none⟩ = false := block_frozen HR4.out
      have f3 : w4.frozen? ⟨w.heap.size + 1, 3, none⟩ = false := block_frozen HR4.out
      have f4 : w4.frozen? ⟨w.heap.size + 1, 4, none⟩ = false := block_frozen HR4.out
      go_wp2
      have hX := set_block (i := 4) (u := .bool x.plus) (set_block (i := 3) (u := .int .i64 (g 3)) (set_block (i := 2) (u := .int .i64 (g 2)) (set_block (i := 1) (u := .int .i64 (g 1)) (set_block (i := 0) (u := .int .i64 (g 0)) HR4.out))))
      have x0 := block_cell (i := 0) (v := .int .i64 (g 0)) hX rfl
      have x1 := block_cell (i := 1) (v := .int .i64 (g 1)) hX rfl
      have x2 := block_cell (i := 2) (v := .int .i64 (g 2)) hX rfl
      have x3 := block_cell (i := 3) (v := .int .i64 (g 3)) hX rfl
      have x4 := block_cell (i := 4) (v := .bool x.plus) hX rfl
      refine bodyPost_ret (v := .agg #[.int .i64 (g 0), .int .i64 (g 1), .int .i64 (g 2), .int .i64 (g 3), .bool x.plus]) (by simp [results, Try.results117, go_sem, x0, x1, x2, x3, x4]) rfl ⟨rfl, ?_⟩
      have hst : ∀ (W : World) (u : Value) (i : Nat), Below w.heap.size w W → Below w.heap.size w (W.setCell ⟨w.heap.size + 1, i, none⟩ u) := fun W u i h => h.grown (set_grown W (w.heap.size + 1) i u) h.size (fun q hq => by have := Option.some.inj hq; omega)
      exact hst _ _ _ (hst _ _ _ (hst _ _ _ (hst _ _ _ (hst _ _ _ HB4.out))))
end Go.Proofs.Ytajmogojekichaa

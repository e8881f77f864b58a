/- Several texts of the proof, one behind the other. -/
import Derived.Test.YtagaajlbkfkaiaaTA2
import Derived.Test.YtagaajlbkfkaiaaMQ1
import Derived.Test.YtagaajlbkfkaiaaS2P
import Derived.ScopeJumps
import Derived.WalkMore
/- The walk of moves.Simple, from its label on. Made by genta3.py. -/
namespace Go.Proofs.Ytagaajlbkfkaiaa
open Go.RowKit

/-- A function's code from its label on. -/
def tailOf (f : Func) : Code := match f.body with
  | some (.seq _ (.scope c)) => (match findLabel c 0 with
    | some (.seq _ b) => b
    | _ => .skip)
  | _ => .skip
/-- Crossings lie in no box of two cells. -/
theorem cross_box {W : World} {b off z : Nat} {C : List Cr} {x y : Value} {t : TypeId} (h : CrossAt W b off C) (h0 : 0 < C.length) (hz : W.heap[z]? = some (.cells #[x, y] t (0, 0))) : b ≠ z := by
  rintro rfl
  have h4 := (h 0 h0).2.2.2.2
  simp [World.cell?, hz] at h4
structure TkS (w W : World) (g : Nat) (aS : Option Addr) (cS : Nat) (C : List Cr) (lo : Int) (a8 : Option Addr) (k c8 : Nat) (L : List (List Nat)) : Prop where
  b0 : W.heap[w.heap.size + 1]? = some (.cells #[.slice none 0 0, .int .i64 0] 24 (0, 0))
  b1 : W.heap[g]? = some (.cells #[.slice aS C.length cS, .int .i64 lo] 24 (0, 0))
  hg : w.heap.size + 2 ≤ g
  crs : Crs W W.heap.size (.slice aS C.length cS) C
  row : TkO W (g + 1) a8 k c8 L
  low : Below w.heap.size w W
theorem TkS.on {w W W' : World} {g : Nat} {aS : Option Addr} {cS : Nat} {C : List Cr} {lo : Int} {a8 : Option Addr} {k c8 : Nat} {L : List (List Nat)} (h : TkS w W g aS cS C lo a8 k c8 L) (hb : Below W.heap.size W W') : TkS w W' g aS cS C lo a8 k c8 L :=
  ⟨(hb.block _ (Array.getElem?_eq_some_iff.1 h.b0).1).trans h.b0, (hb.block _ (Array.getElem?_eq_some_iff.1 h.b1).1).trans h.b1, h.hg, h.crs.up hb, h.row.any (grown_below hb none), h.low.trans (hb.mono h.low.size)⟩
/-- What is stored: another diagram into the box, a move more in the row. -/
theorem TkS.put {w W X : World} {g : Nat} {aS : Option Addr} {cS : Nat} {C D : List Cr} {lo lo2 : Int} {a8 a9 a2 : Option Addr} {k c8 c9 c2 B : Nat} {L : List (List Nat)} {G : List Nat} (h : TkS w W g aS cS C lo a8 k c8 L) (hX0 : X.heap[w.heap.size + 1]? = some (.cells #[.slice none 0 0, .int .i64 0] 24 (0, 0))) (hXg : X.heap[g]? = some (.cells #[.slice aS C.length cS, .int .i64 lo] 24 (0, 0))) (hl : Below w.heap.size w X)
    (hD : X.ownsRow B 71 5 (.slice a2 D.length c2) D.length (crossCells D)) (hB : g + 1 ≤ B) (hr : TkO X (g + 1) a9 (k + 1) c9 (L ++ [G])) :
    TkS w ((X.setCell ⟨g, 0, none⟩ (.slice a2 D.length c2)).setCell ⟨g, 1, none⟩ (.int .i64 lo2)) g a2 c2 D lo2 a9 (k + 1) c9 (L ++ [G]) := by
  have hg := grown_trans (set_grown X g 0 (.slice a2 D.length c2)) (set_grown (X.setCell ⟨g, 0, none⟩ (.slice a2 D.length c2)) g 1 (.int .i64 lo2))
  have hgs := (Array.getElem?_eq_some_iff.1 hXg).1
  have hsz : w.heap.size + 1 < X.heap.size := (Array.getElem?_eq_some_iff.1 hX0).1
  have h2 := h.hg
  have hD2 : ((X.setCell ⟨g, 0, none⟩ (.slice a2 D.length c2)).setCell ⟨g, 1, none⟩ (.int .i64 lo2)).ownsRow B 71 5 (.slice a2 D.length c2) D.length (crossCells D) := own_two hD (by omega) _ _
  refine ⟨(hg.block _ hsz (fun e => by have := Option.some.inj e; omega)).trans hX0, by rw [set_block (set_block hXg)]; rfl, h2, crs_own hD2 (own_fewQ hD2), ⟨hr.len, own_two hr.own (by omega) _ _⟩, hl.grown hg hl.size (fun q hq => by have := Option.some.inj hq; omega)⟩

set_option maxHeartbeats 16000000 in
set_option maxRecDepth 100000 in
theorem simple_pass (v0 z6 z7 z9 z10 z11 z12 z13 z14 z15 z16 z17 z18 z19 z20 z21 z22 z23 z24 z25 z26 z27 z28 z29 z30 z31 z32 z33 z34 z35 z36 z37 z38 z39 z40 z41 z42 z43 z44 z45 z46 z47 : Value) (w W : World) (g : Nat) (aS : Option Addr) (cS : Nat) (C : List Cr) (lo : Int) (a8 : Option Addr) (k c8 : Nat) (L : List (List Nat)) (J : Act → World → Prop) (R : Ending → World → Prop) (hm : mayD C lo = true) (hp : planarB C = true) (hk : k ≤ 16) (hS : TkS w W g aS cS C lo a8 k c8 L)
    (hJ : ∀ (G : List Nat) (D : List Cr) (lo2 : Int), nextG C lo = some G → D = takC C G → lo2 = takL C lo G → ∀ (z6 z7 z9 z10 z11 z12 z13 z14 z15 z16 z17 z18 z19 z20 z21 z22 z23 z24 z25 z26 z27 z28 z29 z30 z31 z32 z33 z34 z35 z36 z37 z38 z39 z40 z41 z42 z43 z44 z45 z46 z47 : Value) (W' : World) (aS' a8' : Option Addr) (cS' c8' : Nat), TkS w W' g aS' cS' D lo2 a8' (k + 1) c8' (L ++ [G]) → J { tmps := #[v0, .pointer (some ⟨w.heap.size, 0, none⟩), .pointer (some ⟨w.heap.size + 1, 0, none⟩), .slice none 0 0, .int .i64 0, .pointer (some ⟨g, 0, none⟩), z6, z7, .slice a8' (k + 1 : Nat) c8', z9, z10, z11, z12, z13, z14, z15, z16, z17, z18, z19, z20, z21, z22, z23, z24, z25, z26, z27, z28, z29, z30, z31, z32, z33, z34, z35, z36, z37, z38, z39, z40, z41, z42, z43, z44, z45, z46, z47], defers := [] } W')
    (hR : nextG C lo = none → ∀ W', TkS w W' g aS cS C lo a8 k c8 L → R (.returned (.tuple #[.agg #[.slice aS C.length cS, .int .i64 lo], .slice a8 k c8, .int .i64 0])) ((W'.setCell ⟨w.heap.size + 1, 0, none⟩ (.slice aS C.length cS)).setCell ⟨w.heap.size + 1, 1, none⟩ (.int .i64 lo))) :
    Code.wp Try.prog (tailOf Try.f15) (Exit.jump 0 J (bodyPost Try.prog Try.f15 R)) { tmps := #[v0, .pointer (some ⟨w.heap.size, 0, none⟩), .pointer (some ⟨w.heap.size + 1, 0, none⟩), .slice none 0 0, .int .i64 0, .pointer (some ⟨g, 0, none⟩), z6, z7, .slice a8 k c8, z9, z10, z11, z12, z13, z14, z15, z16, z17, z18, z19, z20, z21, z22, z23, z24, z25, z26, z27, z28, z29, z30, z31, z32, z33, z34, z35, z36, z37, z38, z39, z40, z41, z42, z43, z44, z45, z46, z47], defers := [] } W := by
  have hl16 := may_len hm
  have hpair := fun (G : List Nat) (hG : G ∈ tkA C.length) => take_ways (C := C) (loops := lo) hm hp hG
  have hnx := fun (j : Nat) (G : List Nat) => next_at C lo j G
  have hno := next_no C lo
  obtain ⟨n, hN⟩ : ∃ n, C.length = n := ⟨_, rfl⟩
  have HN := hidQ hN
  have HP : Hid (∀ G, G ∈ tkA n → (okG C lo G = true → Wyq C lo (moG G) (takC C G) (takL C lo G) 0) ∧ (okG C lo G = false → ∃ ce, (ce = 8 ∨ ce = 2) ∧ Wyq C lo (moG G) [] 0 ce)) := (by rw [← hN]; exact hpair)
  have HNX : Hid (∀ (j : Nat) (G : List Nat), (tkA n)[j]? = some G → (∀ (j' : Nat) (G' : List Nat), j' < j → (tkA n)[j']? = some G' → okG C lo G' = false) → okG C lo G = true → nextG C lo = some G) := (by rw [← hN]; exact hnx)
  have HNO : Hid ((∀ (j' : Nat) (G' : List Nat), (tkA n)[j']? = some G' → okG C lo G' = false) → nextG C lo = none) := (by rw [← hN]; exact hno)
  have HJ := hidQ hJ
  have HR := hidQ hR
  have HS := hidQ hS
  obtain ⟨i0, hi, hz0, hz1, hz2⟩ := info_parts infoMove
  have hb1 := hS.b1
  rw [hN] at hb1
  have c0 : W.cell? ⟨g, 0, none⟩ = some (.slice aS n cS) := block_cell hb1 rfl
  have c1 : W.cell? ⟨g, 1, none⟩ = some (.int .i64 lo) := block_cell hb1 rfl
  have hn16 : n ≤ 16 := by omega
  have hgl : g < W.heap.size := (Array.getElem?_eq_some_iff.1 hb1).1
  clear hJ hR hS hpair hnx hno hb1 hN hl16
  simp only [tailOf, Try.f15, findLabel, beq_self_eq_true, if_true]
  go_wp2_with (go_at_call 43; refine (takings_any n W hn16).mono ?_; rintro e9 W1 ⟨a1, k1, c1', rfl, hk1, hT, hb1⟩; have HT := hidQ hT; have HB1 := hidQ hb1; have hs1 := hb1.size; clear hT hb1 c0 c1)
  go_loopw [8, 28] (fun v8 v28 wr => ∃ (j : Nat), j ≤ k1 ∧ v28 = .int .i64 (j : Nat) ∧ v8 = .slice a8 k c8 ∧ Hid (∀ (j' : Nat) (G' : List Nat), j' < j → (tkA n)[j']? = some G' → okG C lo G' = false) ∧ Hid (Below W1.heap.size W1 wr)) (fun _ v28 _ => k1 - (intOf v28).toNat)
  case atStart => exact ⟨0, Nat.zero_le _, rfl, rfl, fun j' G' h => absurd h (Nat.not_lt_zero _), Below.refl _ _⟩
  case round =>
    rename World => W2
    obtain ⟨j, hjk, rfl, rfl, hf, hb⟩ := hrel
    have HF := hidQ hf.out
    have HB := hidQ hb.out
    have hs2 := hb.out.size
    clear hf hb
    have HW2 := hidQ (HB1.out.trans (HB.out.mono hs1))
    have HS2 := hidQ (HS.out.on HW2.out)
    have hk1' := HT.out.len
    by_cases hjl : j < k1
    · obtain ⟨G, hG⟩ : ∃ G, (tkA n)[j]? = some G := ⟨_, List.getElem?_eq_getElem (by omega)⟩
      have HG := hidQ hG
      have hmv : Mvs W2 W2.heap.size (.slice a1 ((tkA n).map moG).length c1') ((tkA n).map moG) := (by
        have h8 := own_in (own_any HT.out.own (grown_below HB.out none))
        have hl8 : ((tkA n).map moG).length = k1 := by rw [List.length_map]; exact hk1'
        rw [hl8]
        rw [← hl8] at h8
        have h9 := h8.mvs (by rw [hl8]; unfold maxLen; omega)
        rw [hl8] at h9
        exact h9)
      obtain ⟨m, hm8⟩ : ∃ m, moG G = m := ⟨_, rfl⟩
      have HM8 := hidQ hm8
      obtain ⟨aa, cc, e1, -, hmq⟩ := hmv
      injection e1 with e2 e3 e4
      subst e2 e4
      obtain ⟨bm, om, e5, hbm, hmo⟩ := hmq (by rw [List.length_map]; omega)
      subst e5
      have h8 := hmo j (by rw [List.length_map]; omega)
      have e6 : ((tkA n).map moG).getD j Mo.none = m := by rw [List.getD_eq_getElem?_getD, List.getElem?_map, hG, ← hm8]; rfl
      rw [e6] at h8
      obtain ⟨m0, m1, m2, m3, m4, m5, m6, m7⟩ := h8
      obtain ⟨Y, hY⟩ : ∃ Y, W2.alloc (.cells #[.int .i64 m.k, .int .i64 m.x, .int .i64 m.y, .int .i64 m.u, .bool m.ub, .int .i64 m.v, .bool m.vb, .bool m.ov] 28) = Y := ⟨_, rfl⟩
      have HY := hidQ hY
      have HBY := hidQ (show Below W2.heap.size W2 Y by rw [← hY]; exact (Below.refl _ _).alloc (Nat.le_refl _) _)
      have HKY := hidQ (show Y.heap[W2.heap.size]? = some (.cells #[.int .i64 m.k, .int .i64 m.x, .int .i64 m.y, .int .i64 m.u, .bool m.ub, .int .i64 m.v, .bool m.vb, .bool m.ov] 28 (0, 0)) by rw [← hY]; exact alloc_at rfl)
      have lY : W2.heap.size < Y.heap.size := by rw [← hY]; simp
      have HSY := hidQ (HS2.out.on HBY.out)
      clear hmo hmq e6 e3 hY hm8 hG hk1'
      go_upto_region 8 with (fail)
      rw [HY.out]
      clear m0 m1 m2 m3 m4 m5 m6 m7
      have y0 := HSY.out.b1
      rw [HN.out] at y0
      have p0 : Y.cell? ⟨g, 0, none⟩ = some (.slice aS n cS) := block_cell y0 rfl
      have p1 : Y.cell? ⟨g, 1, none⟩ = some (.int .i64 lo) := block_cell y0 rfl
      have hgY : g < Y.heap.size := (Array.getElem?_eq_some_iff.1 y0).1
      have p2 : Y.cell? ⟨W2.heap.size, 0, none⟩ = some (.int .i64 m.k) := block_cell HKY.out rfl
      have p3 : Y.cell? ⟨W2.heap.size, 1, none⟩ = some (.int .i64 m.x) := block_cell HKY.out rfl
      have p4 : Y.cell? ⟨W2.heap.size, 2, none⟩ = some (.int .i64 m.y) := block_cell HKY.out rfl
      have p5 : Y.cell? ⟨W2.heap.size, 3, none⟩ = some (.int .i64 m.u) := block_cell HKY.out rfl
      have p6 : Y.cell? ⟨W2.heap.size, 4, none⟩ = some (.bool m.ub) := block_cell HKY.out rfl
      have p7 : Y.cell? ⟨W2.heap.size, 5, none⟩ = some (.int .i64 m.v) := block_cell HKY.out rfl
      have p8 : Y.cell? ⟨W2.heap.size, 6, none⟩ = some (.bool m.vb) := block_cell HKY.out rfl
      have p9 : Y.cell? ⟨W2.heap.size, 7, none⟩ = some (.bool m.ov) := block_cell HKY.out rfl
      clear y0
      have hin : G ∈ tkA n := List.mem_of_getElem? HG.out
      have HD : Hid (∃ (D : List Cr) (lo2 ce : Int), (okG C lo G = true ∧ D = takC C G ∧ lo2 = takL C lo G ∧ ce = 0 ∨ okG C lo G = false ∧ D = [] ∧ (ce = 8 ∨ ce = 2)) ∧ Calls Try.prog 9 #[.agg #[.slice aS n cS, .int .i64 lo], .agg #[.int .i64 m.k, .int .i64 m.x, .int .i64 m.y, .int .i64 m.u, .bool m.ub, .int .i64 m.v, .bool m.vb, .bool m.ov]] Y fun e w' => RsAt Y D lo2 ce e w') := (by
        have hc := HSY.out.crs
        have h1 := HP.out G hin
        rw [HM8.out] at h1
        rw [← HN.out]
        cases ho : okG C lo G with
        | true => exact ⟨_, _, _, Or.inl ⟨rfl, rfl, rfl, rfl⟩, do_ways _ _ _ _ m _ _ _ _ (h1.1 ho _ _ _ hc)⟩
        | false =>
          obtain ⟨ce, hce, h2⟩ := h1.2 ho
          exact ⟨_, _, _, Or.inr ⟨rfl, rfl, hce⟩, do_ways _ _ _ _ m _ _ _ _ (h2 _ _ _ hc)⟩)
      obtain ⟨D, lo2, ce, hD, hDo⟩ := HD.out
      have HDO := hidQ hDo
      have HDD := hidQ hD
      obtain ⟨nD, hnD⟩ : ∃ nD, D.length = nD := ⟨_, rfl⟩
      have HND := hidQ hnD
      clear HD hD hDo hin hnD
      go_upto_region 9 with (go_at_call 9; refine HDO.out.mono ?_; rintro e9 w9 ⟨a2, c2, rfl, ho9, hb9⟩; rw [HND.out] at ho9 ⊢; have HO9 := hidQ ho9; have HB9 := hidQ hb9; have hs9 := hb9.size; clear ho9 hb9 p0 p1 p2 p3 p4 p5 p6 p7 p8 p9)
      obtain ⟨X, hX⟩ : ∃ X, w9.alloc (.cells #[.slice a2 nD c2, .int .i64 lo2] 24) = X := ⟨_, rfl⟩
      have HBX := hidQ (show Below w9.heap.size w9 X by rw [← hX]; exact (Below.refl _ _).alloc (Nat.le_refl _) _)
      have HKX := hidQ (show X.heap[w9.heap.size]? = some (.cells #[.slice a2 nD c2, .int .i64 lo2] 24 (0, 0)) by rw [← hX]; exact alloc_at rfl)
      have lX : w9.heap.size < X.heap.size := by rw [← hX]; simp
      have HYX := hidQ (HB9.out.trans (HBX.out.mono hs9))
      rw [hX]
      clear hX
      rcases HDD.out with ⟨hok, hD1, hD2, rfl⟩ | ⟨hok, rfl, hce⟩
      · have HNXT := hidQ (HNX.out j G HG.out HF.out hok)
        have HSX := hidQ (HSY.out.on HYX.out)
        have HKM := hidQ ((HYX.out.block _ lY).trans HKY.out)
        have HSV : Hid (∀ W', Below X.heap.size X W' → W'.cell? ⟨w9.heap.size, 0, none⟩ = some (.slice a2 nD c2) ∧ W'.cell? ⟨w9.heap.size, 1, none⟩ = some (.int .i64 lo2) ∧ W'.cell? ⟨W2.heap.size, 0, none⟩ = some (.int .i64 m.k) ∧ W'.cell? ⟨W2.heap.size, 1, none⟩ = some (.int .i64 m.x) ∧ W'.cell? ⟨W2.heap.size, 2, none⟩ = some (.int .i64 m.y) ∧ W'.cell? ⟨W2.heap.size, 3, none⟩ = some (.int .i64 m.u) ∧ W'.cell? ⟨W2.heap.size, 4, none⟩ = some (.bool m.ub) ∧ W'.cell? ⟨W2.heap.size, 5, none⟩ = some (.int .i64 m.v) ∧ W'.cell? ⟨W2.heap.size, 6, none⟩ = some (.bool m.vb) ∧ W'.cell? ⟨W2.heap.size, 7, none⟩ = some (.bool m.ov)) := (fun W' hW => by
          have q1 := (hW.block _ lX).trans HKX.out
          have q2 := (hW.block _ (Nat.lt_of_lt_of_le lY HYX.out.size)).trans HKM.out
          exact ⟨block_cell q1 rfl, block_cell q1 rfl, block_cell q2 rfl, block_cell q2 rfl, block_cell q2 rfl, block_cell q2 rfl, block_cell q2 rfl, block_cell q2 rfl, block_cell q2 rfl, block_cell q2 rfl⟩)
        have l2 : W2.heap.size < X.heap.size := Nat.lt_of_lt_of_le lY HYX.out.size
        have hgX : g < X.heap.size := Nat.lt_of_lt_of_le hgY HYX.out.size
        have HD1 := hidQ hD1
        have HD2 := hidQ hD2
        have HQ : Hid (∀ q, (Value.slice a8 k c8).ownBlock = some q → g + 1 ≤ q ∧ q < W.heap.size) := fun q hq => HS.out.row.own.lt q hq
        clear hok hD1 hD2
        go_upto_region 10 with (fail)
        refine wp_region_held_drew (S := fun w' => w'.cell? ⟨w9.heap.size, 0, none⟩ = some (.slice a2 nD c2) ∧ w'.cell? ⟨w9.heap.size, 1, none⟩ = some (.int .i64 lo2) ∧ w'.cell? ⟨W2.heap.size, 0, none⟩ = some (.int .i64 m.k) ∧ w'.cell? ⟨W2.heap.size, 1, none⟩ = some (.int .i64 m.x) ∧ w'.cell? ⟨W2.heap.size, 2, none⟩ = some (.int .i64 m.y) ∧ w'.cell? ⟨W2.heap.size, 3, none⟩ = some (.int .i64 m.u) ∧ w'.cell? ⟨W2.heap.size, 4, none⟩ = some (.bool m.ub) ∧ w'.cell? ⟨W2.heap.size, 5, none⟩ = some (.int .i64 m.v) ∧ w'.cell? ⟨W2.heap.size, 6, none⟩ = some (.bool m.vb) ∧ w'.cell? ⟨W2.heap.size, 7, none⟩ = some (.bool m.ov)) (by kernel_rfl) (HSV.out _ (Below.refl _ _).drew) (fun hHeld => ?_)
        refine tk 0 (h := ?_)
        simp only [Act.put]
        refine tk 1 (h := ?_)
        simp only [Act.put]
        refine tk 2 (h := ?_)
        simp only [Act.put]
        refine rd1 3 (fun K hK => ?_)
        have HX3 : Hid (Below X.heap.size X (X.drew.alloc (.cells #[.int .i64 m.k, .int .i64 m.x, .int .i64 m.y, .int .i64 m.u, .bool m.ub, .int .i64 m.v, .bool m.vb, .bool m.ov] 28))) := (Below.refl _ _).drew.alloc (Nat.le_refl _) _
        have HO3 := hidQ ((HSX.out.row.any (grown_below (Below.refl X.heap.size X).drew none)).own.alloc (.cells #[.int .i64 m.k, .int .i64 m.x, .int .i64 m.y, .int .i64 m.u, .bool m.ub, .int .i64 m.v, .bool m.vb, .bool m.ov] 28))
        go_simp
        refine hK.out _ _ (HSV.out _ HX3.out) (fun hHeld => ?_)
        clear hK K
        try simp only [Act.put]
        refine rd1 4 (fun K hK => ?_)
        refine step_append_own rfl (.tmp 41) (.tmp 43) 35 rfl (g + 1) 28 i0 (.agg #[.int .i64 0, .int .i64 0, .int .i64 0, .int .i64 0, .bool false, .int .i64 0, .bool false, .bool false]) 8 64 Try.underlying35 hi hz0 hz1 hz2 rfl (by decide) _ k (moCells (L.map moG)) (by simp [Act.eval]) HO3.out ⟨X.heap.size, 0, none⟩ 1 1 m.cells (by simp [Act.eval]) rfl (new_cell8 X.drew _ _ _ _ _ _ _ _ _) (fun u hu => moCells_one [m] u (by simpa [moCells] using hu)) (by unfold maxLen; omega) (by omega) (by simp; omega) ?_
        intro v8 w8 hown8 hg8
        have H8 : Hid (∀ z, z < X.heap.size → (z ≤ g ∨ W.heap.size ≤ z) → w8.heap[z]? = X.heap[z]?) := (fun z hz ho => (hg8.block z (by simp; omega) (fun e => by have := HQ.out z e.symm; omega)).trans (HX3.out.block z hz))
        have H8S : Hid (w8.cell? ⟨w9.heap.size, 0, none⟩ = some (.slice a2 nD c2) ∧ w8.cell? ⟨w9.heap.size, 1, none⟩ = some (.int .i64 lo2) ∧ w8.cell? ⟨W2.heap.size, 0, none⟩ = some (.int .i64 m.k) ∧ w8.cell? ⟨W2.heap.size, 1, none⟩ = some (.int .i64 m.x) ∧ w8.cell? ⟨W2.heap.size, 2, none⟩ = some (.int .i64 m.y) ∧ w8.cell? ⟨W2.heap.size, 3, none⟩ = some (.int .i64 m.u) ∧ w8.cell? ⟨W2.heap.size, 4, none⟩ = some (.bool m.ub) ∧ w8.cell? ⟨W2.heap.size, 5, none⟩ = some (.int .i64 m.v) ∧ w8.cell? ⟨W2.heap.size, 6, none⟩ = some (.bool m.vb) ∧ w8.cell? ⟨W2.heap.size, 7, none⟩ = some (.bool m.ov)) := (by
          have q1 := (H8.out _ lX (by omega)).trans HKX.out
          have q2 := (H8.out _ l2 (by omega)).trans HKM.out
          exact ⟨block_cell q1 rfl, block_cell q1 rfl, block_cell q2 rfl, block_cell q2 rfl, block_cell q2 rfl, block_cell q2 rfl, block_cell q2 rfl, block_cell q2 rfl, block_cell q2 rfl, block_cell q2 rfl⟩)
        have HL8 := hidQ ((HSX.out.low.trans (HX3.out.mono HSX.out.low.size)).grown hg8 (Nat.le_trans HSX.out.low.size HX3.out.size) (fun q hq => by have := HQ.out q hq; have := HS.out.hg; omega))
        have HD8 : Hid (w8.ownsRow Y.heap.size 71 5 (.slice a2 nD c2) nD (crossCells D)) := (by
          refine (own_any (own_any HO9.out (grown_below HBX.out none)) (grown_below HX3.out none)).kept hg8 ?_
          cases hv : (Value.slice a2 nD c2).ownBlock with
          | none => exact Or.inl rfl
          | some q => exact Or.inr (fun e => by have h1 := (HO9.out.lt q hv).1; have h2 := HQ.out q e.symm; omega))
        have h0 := HM8.out
        subst h0
        obtain ⟨a9, c9, rfl, h9⟩ := HSX.out.row.app hown8
        have H9 := hidQ h9
        clear hown8 hg8 h9
        refine hK.out _ _ H8S.out (fun hHeld => ?_)
        clear hK K
        try simp only [Act.put]
        have y8 := (H8.out g hgX (by omega)).trans HSX.out.b1
        have y9 := (H8.out _ (Array.getElem?_eq_some_iff.1 HSX.out.b0).1 (by have := HS.out.hg; omega)).trans HSX.out.b0
        have HEND := hidQ (HSX.out.put (lo2 := lo2) y9 y8 HL8.out (by rw [HND.out]; exact HD8.out) (by omega) H9.out)
        rw [HN.out] at y8
        have g0 : w8.cell? ⟨g, 0, none⟩ = some (.slice aS n cS) := block_cell y8 rfl
        have g1 : w8.cell? ⟨g, 1, none⟩ = some (.int .i64 lo) := block_cell y8 rfl
        have gz0 : w8.frozen? ⟨g, 0, none⟩ = false := block_frozen y8
        have gz1 : w8.frozen? ⟨g, 1, none⟩ = false := block_frozen y8
        have lg8 : g < w8.heap.size := (Array.getElem?_eq_some_iff.1 y8).1
        rw [HND.out] at HEND
        have hgz := grown_trans (set_grown w8 g 0 (.slice a2 nD c2)) (set_grown (w8.setCell ⟨g, 0, none⟩ (.slice a2 nD c2)) g 1 (.int .i64 lo2))
        have l9 : w9.heap.size < w8.heap.size := by have := (Array.getElem?_eq_some_iff.1 ((H8.out _ lX (by omega)).trans HKX.out)).1; omega
        have q1 := (hgz.block _ l9 (fun e => by have := Option.some.inj e; omega)).trans ((H8.out _ lX (by omega)).trans HKX.out)
        have q2 := (hgz.block _ (by omega) (fun e => by have := Option.some.inj e; omega)).trans ((H8.out _ l2 (by omega)).trans HKM.out)
        have HQ1 := hidQ q1
        have HQ2 := hidQ q2
        clear hgz q1 q2
        refine rd1 5 (fun K hK => ?_)
        clear y8 y9
        go_simp
        refine hK.out _ _ ?_ (fun hHeld => ?_)
        · exact ⟨block_cell HQ1.out rfl, block_cell HQ1.out rfl, block_cell HQ2.out rfl, block_cell HQ2.out rfl, block_cell HQ2.out rfl, block_cell HQ2.out rfl, block_cell HQ2.out rfl, block_cell HQ2.out rfl, block_cell HQ2.out rfl, block_cell HQ2.out rfl⟩
        clear hK K g0 g1 gz0 gz1 lg8
        try simp only [Act.put]
        refine rd1 6 (fun K hK => ?_)
        go_simp
        refine hK.out _ _ (by assumption) (fun hHeld => ?_)
        clear hK K
        try simp only [Act.put]
        refine wpAnyH_done (by kernel_rfl) ?_ _
        clear hHeld
        go_wp2
        go_step3
        exact (⟨rfl, HJ.out G D lo2 HNXT.out HD1.out HD2.out _ _ _ _ _ _ _ _ _ _ _ _ _ _ _ _ _ _ _ _ _ _ _ _ _ _ _ _ _ _ _ _ _ _ _ _ _ _ _ _ _ _ _ _ _ _ HEND.out⟩ : (0 : Nat) = 0 ∧ J _ _)
      · have hce0 : (ce == 0) = false := by rcases hce with rfl | rfl <;> rfl
        have HOK := hidQ hok
        clear hok hce
        go_wp2
        go_roundw
        case rel =>
          refine ⟨j + 1, by omega, by go_num, rfl, fun j' G' h1 h2 => ?_, HB.out.trans ((HBY.out.trans (HYX.out.mono HBY.out.size)).mono hs2)⟩
          rcases Nat.lt_or_ge j' j with q | q
          · exact HF.out j' G' q h2
          · have e : j' = j := by omega
            subst e
            have e2 := HG.out.symm.trans h2
            injection e2 with e2
            rw [← e2]
            exact HOK.out
        case measure => simp only [intOf]; omega
    · obtain rfl : j = k1 := by omega
      have y0 := HS2.out.b1
      rw [HN.out] at y0
      have y1 := HS2.out.b0
      have p0 : W2.cell? ⟨g, 0, none⟩ = some (.slice aS n cS) := block_cell y0 rfl
      have p1 : W2.cell? ⟨g, 1, none⟩ = some (.int .i64 lo) := block_cell y0 rfl
      have q0 : W2.cell? ⟨w.heap.size + 1, 0, none⟩ = some (.slice none 0 0) := block_cell y1 rfl
      have q1 : W2.cell? ⟨w.heap.size + 1, 1, none⟩ = some (.int .i64 0) := block_cell y1 rfl
      have f0 : W2.frozen? ⟨w.heap.size + 1, 0, none⟩ = false := block_frozen y1
      have f1 : W2.frozen? ⟨w.heap.size + 1, 1, none⟩ = false := block_frozen y1
      have hnone := hidQ (HNO.out fun j' G' h2 => HF.out j' G' (by have := (List.getElem?_eq_some_iff.1 h2).1; omega) h2)
      have HY1 := hidQ y1
      clear y0 y1 hk1'
      go_wp2
      simp only [Exit.jump]
      have hres := HR.out hnone.out W2 HS2.out
      rw [HN.out] at hres
      have hq := set_block (i := 1) (u := .int .i64 lo) (set_block (i := 0) (u := .slice aS n cS) HY1.out)
      have x0 := block_cell (i := 0) (v := .slice aS n cS) hq rfl
      have x1 := block_cell (i := 1) (v := .int .i64 lo) hq rfl
      exact bodyPost_ret (v := .tuple #[.agg #[.slice aS n cS, .int .i64 lo], .slice a8 k c8, .int .i64 0]) (by simp [results, go_sem, x0, x1]) rfl hres
end Go.Proofs.Ytagaajlbkfkaiaa
/- moves.Simple whole. Made by genta4.py. -/
namespace Go.Proofs.Ytagaajlbkfkaiaa
open Go.RowKit

def lenV : Value → Nat
  | .slice _ n _ => n
  | _ => 0
/-- What Simple answers. -/
def SimOut (w : World) (D : List Cr) (lo : Int) (N : Nat) (L : List (List Nat)) (ce : Int) (e : Ending) (w' : World) : Prop :=
  ∃ aS cS a8 c8, e = .returned (.tuple #[.agg #[.slice aS D.length cS, .int .i64 lo], .slice a8 N c8, .int .i64 ce]) ∧ Crs w' w'.heap.size (.slice aS D.length cS) D ∧ TkO w' w.heap.size a8 N c8 L ∧ Below w.heap.size w w'
theorem SimOut.no {w w' : World} {ce : Int} (hb : Below w.heap.size w w') : SimOut w [] 0 0 [] ce (.returned (.tuple #[.agg #[.slice none 0 0, .int .i64 0], .slice none 0 0, .int .i64 ce])) w' := ⟨none, 0, none, 0, rfl, ⟨none, 0, rfl, by simp, fun h => by simp at h⟩, TkO.nil _ _, hb⟩
/-- A row of no moves. -/
theorem row_nil (a : Option Addr) (cap : Nat) (C : List Cr) (loops : Int) (w : World) (hm : mayD C loops = true) (hp : planarB C = true) (h : Crs w w.heap.size (.slice a C.length cap) C) : Calls Try.prog 13 #[.agg #[.slice a C.length cap, .int .i64 loops], .slice none 0 0] w fun e w' => ∃ a2 c2, e = .returned (.tuple #[.agg #[.slice a2 C.length c2, .int .i64 loops], .int .i64 0, .int .i64 0]) ∧ Crs w' w'.heap.size (.slice a2 C.length c2) C ∧ Below w.heap.size w w' := by
  have h1 := mvRow_go a cap C loops none 0 [] w (fun _ => C) (fun _ => loops) (fun _ => 0) 0 rfl rfl (by have := may_len hm; omega) (by simp) (Nat.le_refl _) (fun i hi => absurd hi (Nat.not_lt_zero _)) (fun hi => absurd hi (by simp)) h ⟨none, 0, rfl, by simp, fun h => by simp at h⟩ (laid_all a cap C loops w hm hp h) (fun i _ hi => absurd hi (by simp))
  refine h1.mono fun e w' hh => ?_
  obtain ⟨a2, c2, h2, h3, h4⟩ := hh
  exact ⟨a2, c2, h2, h3, h4⟩

set_option maxHeartbeats 16000000 in
set_option maxRecDepth 100000 in
theorem simple_no (a : Option Addr) (cap : Nat) (C : List Cr) (loops : Int) (w : World) (h : Crs w w.heap.size (.slice a C.length cap) C) (hn : (mayD C loops && planarB C) = false) :
    Calls Try.prog 15 #[.agg #[.slice a C.length cap, .int .i64 loops]] w fun e w' => SimOut w [] 0 0 [] 7 e w' := by
  obtain ⟨V, hV⟩ : ∃ V, (w.alloc (.cells #[.slice a C.length cap, .int .i64 loops] 24)).alloc (.cells #[.slice none 0 0, .int .i64 0] 24) = V := ⟨_, rfl⟩
  have hB : Below w.heap.size w V := by rw [← hV]; exact below2 _ _ _
  have b1 : V.heap[w.heap.size]? = some (.cells #[.slice a C.length cap, .int .i64 loops] 24 (0, 0)) := by rw [← hV]; exact alloc_old (alloc_at rfl)
  have b2 : V.heap[w.heap.size + 1]? = some (.cells #[.slice none 0 0, .int .i64 0] 24 (0, 0)) := by rw [← hV]; exact alloc_at (by simp)
  have hRow : Calls Try.prog 13 #[.agg #[.slice a C.length cap, .int .i64 loops], .slice none 0 0] V fun e w' => e = .returned (.tuple #[.agg #[.slice none 0 0, .int .i64 0], .int .i64 0, .int .i64 7]) ∧ Below V.heap.size V w' := by
    refine mvRow_state a C.length cap loops _ V (fun W hW => ?_)
    cases hm : mayD C loops with
    | false => exact laid_no _ C loops W hm ((h.up hB).up hW)
    | true =>
      rw [hm, Bool.true_and] at hn
      exact laid_bad faceRingsM _ C loops W hm hn ((h.up hB).up hW)
  have HV := hidQ hV
  have HB := hidQ hB
  have HR := hidQ hRow
  have HB2 := hidQ b2
  have c0 : V.cell? ⟨w.heap.size, 0, none⟩ = some (.slice a C.length cap) := block_cell b1 rfl
  have c1 : V.cell? ⟨w.heap.size, 1, none⟩ = some (.int .i64 loops) := block_cell b1 rfl
  have l1 : w.heap.size + 1 < V.heap.size := (Array.getElem?_eq_some_iff.1 b2).1
  clear hV hB hRow b1 b2 h hn
  go_enter Try.func15, Try.ntmps15
  go_wp2
  go_step3
  rw [HV.out]
  go_upto_region 2 with (go_at_call 13; refine HR.out.mono ?_; rintro e9 w5 ⟨rfl, hb5⟩; have H5 := hidQ hb5; have hs5 := hb5.size; clear hb5 c0 c1)
  obtain ⟨X, hX⟩ : ∃ X, w5.alloc (.cells #[.slice none 0 0, .int .i64 0] 24) = X := ⟨_, rfl⟩
  have HBX := hidQ (show Below V.heap.size V X by rw [← hX]; exact H5.out.trans ((Below.refl _ _).alloc hs5 _))
  rw [hX]
  clear hX
  have y1 := (HBX.out.block _ l1).trans HB2.out
  have q0 : X.cell? ⟨w.heap.size + 1, 0, none⟩ = some (.slice none 0 0) := block_cell y1 rfl
  have q1 : X.cell? ⟨w.heap.size + 1, 1, none⟩ = some (.int .i64 0) := block_cell y1 rfl
  have f0 : X.frozen? ⟨w.heap.size + 1, 0, none⟩ = false := block_frozen y1
  have f1 : X.frozen? ⟨w.heap.size + 1, 1, none⟩ = false := block_frozen y1
  have HY1 := hidQ y1
  clear y1
  go_wp2
  rw [Exit.noGoto_ret]
  have hg := grown_trans (set_grown X (w.heap.size + 1) 0 (.slice none 0 0)) (set_grown (X.setCell ⟨w.heap.size + 1, 0, none⟩ (.slice none 0 0)) (w.heap.size + 1) 1 (.int .i64 0))
  have hq := set_block (i := 1) (u := .int .i64 0) (set_block (i := 0) (u := .slice none 0 0) HY1.out)
  have x0 := block_cell (i := 0) (v := .slice none 0 0) hq rfl
  have x1 := block_cell (i := 1) (v := .int .i64 0) hq rfl
  have hl := HB.out.trans (HBX.out.mono HB.out.size)
  exact bodyPost_ret (v := .tuple #[.agg #[.slice none 0 0, .int .i64 0], .slice none 0 0, .int .i64 7]) (by simp [results, Try.results15, go_sem, x0, x1]) rfl (SimOut.no (hl.grown hg hl.size (fun q hq => by have := Option.some.inj hq; omega)))

set_option maxHeartbeats 16000000 in
set_option maxRecDepth 100000 in
theorem simple_yes (a : Option Addr) (cap : Nat) (w : World) (N : Nat) (S : Nat → List Cr) (L : Nat → Int) (G : Nat → List Nat) (hR : Road N S L G) (h : Crs w w.heap.size (.slice a (S 0).length cap) (S 0)) :
    Calls Try.prog 15 #[.agg #[.slice a (S 0).length cap, .int .i64 (L 0)]] w fun e w' => SimOut w (S N) (L N) N ((List.range N).map G) 0 e w' := by
  have hm0 := hR.may 0 (Nat.zero_le _)
  have hp0 := hR.flat 0 (Nat.zero_le _)
  have hl16 := may_len hm0
  have hN16 : N ≤ 16 := by have := hR.fewer N (Nat.le_refl _); omega
  obtain ⟨n, hn⟩ : ∃ n, (S 0).length = n := ⟨_, rfl⟩
  obtain ⟨lo, hlo⟩ : ∃ lo, L 0 = lo := ⟨_, rfl⟩
  rw [hn, hlo]
  rw [hn] at h
  obtain ⟨V, hV⟩ : ∃ V, (w.alloc (.cells #[.slice a n cap, .int .i64 lo] 24)).alloc (.cells #[.slice none 0 0, .int .i64 0] 24) = V := ⟨_, rfl⟩
  have hB : Below w.heap.size w V := by rw [← hV]; exact below2 _ _ _
  have b1 : V.heap[w.heap.size]? = some (.cells #[.slice a n cap, .int .i64 lo] 24 (0, 0)) := by rw [← hV]; exact alloc_old (alloc_at rfl)
  have b2 : V.heap[w.heap.size + 1]? = some (.cells #[.slice none 0 0, .int .i64 0] 24 (0, 0)) := by rw [← hV]; exact alloc_at (by simp)
  have hRow := row_nil a cap (S 0) lo V (by rw [← hlo]; exact hm0) hp0 (by rw [hn]; exact h.up hB)
  rw [hn] at hRow
  have HV := hidQ hV
  have HB := hidQ hB
  have HRW := hidQ hRow
  have HB2 := hidQ b2
  have HRD := hidQ hR
  have HNN := hidQ hn
  have HLO := hidQ hlo
  have c0 : V.cell? ⟨w.heap.size, 0, none⟩ = some (.slice a n cap) := block_cell b1 rfl
  have c1 : V.cell? ⟨w.heap.size, 1, none⟩ = some (.int .i64 lo) := block_cell b1 rfl
  have l1 : w.heap.size + 1 < V.heap.size := (Array.getElem?_eq_some_iff.1 b2).1
  obtain ⟨v0, hv0⟩ : ∃ v0 : Value, .agg #[.slice a n cap, .int .i64 lo] = v0 := ⟨_, rfl⟩
  have HV0 := hidQ hv0
  have HOUT : Hid (∀ (W' : World) (g : Nat) (aS a8 : Option Addr) (cS c8 : Nat), TkS w W' g aS cS (S N) (L N) a8 N c8 ((List.range N).map G) → SimOut w (S N) (L N) N ((List.range N).map G) 0 (.returned (.tuple #[.agg #[.slice aS (S N).length cS, .int .i64 (L N)], .slice a8 N c8, .int .i64 0])) ((W'.setCell ⟨w.heap.size + 1, 0, none⟩ (.slice aS (S N).length cS)).setCell ⟨w.heap.size + 1, 1, none⟩ (.int .i64 (L N)))) := (fun W' g aS a8 cS c8 hT => by
    have hg := grown_trans (set_grown W' (w.heap.size + 1) 0 (.slice aS (S N).length cS)) (set_grown (W'.setCell ⟨w.heap.size + 1, 0, none⟩ (.slice aS (S N).length cS)) (w.heap.size + 1) 1 (.int .i64 (L N)))
    have hgg := hT.hg
    refine ⟨aS, cS, a8, c8, rfl, ?_, ⟨hT.row.len, own_low (own_two hT.row.own (by omega) _ _) (by omega)⟩, hT.low.grown hg hT.low.size (fun q hq => by have := Option.some.inj hq; omega)⟩
    obtain ⟨aa, cc, e1, h2, h3⟩ := hT.crs
    refine ⟨aa, cc, e1, h2, fun h0 => ?_⟩
    obtain ⟨b, off, e2, h4, h5⟩ := h3 h0
    have hne := cross_box h5 h0 hT.b0
    refine ⟨b, off, e2, Nat.lt_of_lt_of_le h4 hg.size, fun i hi => ?_⟩
    have hbk := hg.block b h4 (fun e => hne (Option.some.inj e))
    have hc : ∀ j u, W'.cell? ⟨b, j, none⟩ = some u → ((W'.setCell ⟨w.heap.size + 1, 0, none⟩ (.slice aS (S N).length cS)).setCell ⟨w.heap.size + 1, 1, none⟩ (.int .i64 (L N))).cell? ⟨b, j, none⟩ = some u := fun j u hu => by
      simp only [World.cell?] at hu ⊢
      rw [hbk]
      exact hu
    obtain ⟨q0, q1, q2, q3, q4⟩ := h5 i hi
    exact ⟨hc _ _ q0, hc _ _ q1, hc _ _ q2, hc _ _ q3, hc _ _ q4⟩)
  have HPASS : Hid (∀ (i : Nat) (J : Act → World → Prop), i ≤ N → (∀ (z6 z7 z9 z10 z11 z12 z13 z14 z15 z16 z17 z18 z19 z20 z21 z22 z23 z24 z25 z26 z27 z28 z29 z30 z31 z32 z33 z34 z35 z36 z37 z38 z39 z40 z41 z42 z43 z44 z45 z46 z47 : Value) (W' : World) (g : Nat) (aS' a8' : Option Addr) (cS' c8' : Nat), i < N → TkS w W' g aS' cS' (S (i + 1)) (L (i + 1)) a8' (i + 1) c8' ((List.range (i + 1)).map G) → J { tmps := #[v0, .pointer (some ⟨w.heap.size, 0, none⟩), .pointer (some ⟨w.heap.size + 1, 0, none⟩), .slice none 0 0, .int .i64 0, .pointer (some ⟨g, 0, none⟩), z6, z7, .slice a8' (i + 1 : Nat) c8', z9, z10, z11, z12, z13, z14, z15, z16, z17, z18, z19, z20, z21, z22, z23, z24, z25, z26, z27, z28, z29, z30, z31, z32, z33, z34, z35, z36, z37, z38, z39, z40, z41, z42, z43, z44, z45, z46, z47], defers := [] } W') → ∀ (z6 z7 z9 z10 z11 z12 z13 z14 z15 z16 z17 z18 z19 z20 z21 z22 z23 z24 z25 z26 z27 z28 z29 z30 z31 z32 z33 z34 z35 z36 z37 z38 z39 z40 z41 z42 z43 z44 z45 z46 z47 : Value) (W : World) (g : Nat) (aS a8 : Option Addr) (cS c8 : Nat), TkS w W g aS cS (S i) (L i) a8 i c8 ((List.range i).map G) → Code.wp Try.prog (tailOf Try.f15) (Exit.jump 0 J (bodyPost Try.prog Try.f15 fun e w' => SimOut w (S N) (L N) N ((List.range N).map G) 0 e w')) { tmps := #[v0, .pointer (some ⟨w.heap.size, 0, none⟩), .pointer (some ⟨w.heap.size + 1, 0, none⟩), .slice none 0 0, .int .i64 0, .pointer (some ⟨g, 0, none⟩), z6, z7, .slice a8 i c8, z9, z10, z11, z12, z13, z14, z15, z16, z17, z18, z19, z20, z21, z22, z23, z24, z25, z26, z27, z28, z29, z30, z31, z32, z33, z34, z35, z36, z37, z38, z39, z40, z41, z42, z43, z44, z45, z46, z47], defers := [] } W) := (fun i J hi hJ z6 z7 z9 z10 z11 z12 z13 z14 z15 z16 z17 z18 z19 z20 z21 z22 z23 z24 z25 z26 z27 z28 z29 z30 z31 z32 z33 z34 z35 z36 z37 z38 z39 z40 z41 z42 z43 z44 z45 z46 z47 W g aS a8 cS c8 hT => by
    refine simple_pass v0 z6 z7 z9 z10 z11 z12 z13 z14 z15 z16 z17 z18 z19 z20 z21 z22 z23 z24 z25 z26 z27 z28 z29 z30 z31 z32 z33 z34 z35 z36 z37 z38 z39 z40 z41 z42 z43 z44 z45 z46 z47 w W g aS cS (S i) (L i) a8 i c8 ((List.range i).map G) J _ (hR.may i hi) (hR.flat i hi) (by omega) hT (fun G' D lo2 h1 h2 h3 y6 y7 y9 y10 y11 y12 y13 y14 y15 y16 y17 y18 y19 y20 y21 y22 y23 y24 y25 y26 y27 y28 y29 y30 y31 y32 y33 y34 y35 y36 y37 y38 y39 y40 y41 y42 y43 y44 y45 y46 y47 W' aS' a8' cS' c8' h4 => ?_) (fun h1 W' h4 => ?_)
    · have hlt : i < N := by
        rcases Nat.lt_or_ge i N with q | q
        · exact q
        · have e : i = N := by omega
          rw [e, hR.ends] at h1
          cases h1
      have hg := hR.goes i hlt
      rw [hg] at h1
      injection h1 with h1
      obtain ⟨e1, e2⟩ := hR.next i hlt
      rw [h1] at e1 e2
      rw [← e1] at h2
      rw [← e2] at h3
      rw [h2, h3] at h4
      rw [← h1] at h4
      refine hJ y6 y7 y9 y10 y11 y12 y13 y14 y15 y16 y17 y18 y19 y20 y21 y22 y23 y24 y25 y26 y27 y28 y29 y30 y31 y32 y33 y34 y35 y36 y37 y38 y39 y40 y41 y42 y43 y44 y45 y46 y47 W' g aS' a8' cS' c8' hlt ?_
      rw [List.range_succ, List.map_append]
      exact h4
    · have e : i = N := by
        rcases Nat.lt_or_ge i N with q | q
        · have hg := hR.goes i q
          rw [hg] at h1
          cases h1
        · omega
      subst e
      exact HOUT.out W' g aS a8 cS c8 h4)
  clear hV hB hRow b1 b2 h hR hm0 hp0 hl16 hn hlo hv0
  go_enter Try.func15, Try.ntmps15
  go_wp2
  rw [HV.out, HV0.out]
  refine wp_scope_jumps 0 (fun a' w' => ∃ (i g : Nat) (aS a8 : Option Addr) (cS c8 : Nat), i ≤ N ∧ TkS w w' g aS cS (S i) (L i) a8 i c8 ((List.range i).map G) ∧ ∃ z6 z7 z9 z10 z11 z12 z13 z14 z15 z16 z17 z18 z19 z20 z21 z22 z23 z24 z25 z26 z27 z28 z29 z30 z31 z32 z33 z34 z35 z36 z37 z38 z39 z40 z41 z42 z43 z44 z45 z46 z47 : Value, a' = { tmps := #[v0, .pointer (some ⟨w.heap.size, 0, none⟩), .pointer (some ⟨w.heap.size + 1, 0, none⟩), .slice none 0 0, .int .i64 0, .pointer (some ⟨g, 0, none⟩), z6, z7, .slice a8 i c8, z9, z10, z11, z12, z13, z14, z15, z16, z17, z18, z19, z20, z21, z22, z23, z24, z25, z26, z27, z28, z29, z30, z31, z32, z33, z34, z35, z36, z37, z38, z39, z40, z41, z42, z43, z44, z45, z46, z47], defers := [] }) (fun a' _ => N - lenV (a'.tmps.getD 8 undef)) rfl ?_ ?_
  · go_upto_region 2 with (go_at_call 13; refine HRW.out.mono ?_; rintro e9 w5 ⟨a5, c5, rfl, hc5, hb5⟩; have HC5 := hidQ hc5; have H5 := hidQ hb5; have hs5 := hb5.size; clear hb5 hc5 c0 c1)
    obtain ⟨X, hX⟩ : ∃ X, w5.alloc (.cells #[.slice a5 n c5, .int .i64 lo] 24) = X := ⟨_, rfl⟩
    have h5X : Below w5.heap.size w5 X := by rw [← hX]; exact (Below.refl _ _).alloc (Nat.le_refl _) _
    have HBX := hidQ (H5.out.trans (h5X.mono hs5))
    have hT : TkS w X w5.heap.size a5 c5 (S 0) (L 0) none 0 0 ((List.range 0).map G) := by
      refine ⟨(HBX.out.block _ l1).trans HB2.out, ?_, by omega, ?_, TkO.nil _ _, HB.out.trans (HBX.out.mono HB.out.size)⟩
      · rw [HNN.out, HLO.out, ← hX]
        exact alloc_at rfl
      · have hc := HC5.out.up h5X
        rw [HNN.out]
        exact hc
    have HT := hidQ hT
    rw [hX]
    clear hX h5X hT
    go_wp2
    go_step3
    rename (∀ (a : Act) (w : World), Code.wp _ _ _ a w → _) => hK
    refine hK _ _ ?_
    refine HPASS.out 0 _ (Nat.zero_le _) (fun y6 y7 y9 y10 y11 y12 y13 y14 y15 y16 y17 y18 y19 y20 y21 y22 y23 y24 y25 y26 y27 y28 y29 y30 y31 y32 y33 y34 y35 y36 y37 y38 y39 y40 y41 y42 y43 y44 y45 y46 y47 W' g' aS' a8' cS' c8' hlt hT' => ?_) _ _ _ _ _ _ _ _ _ _ _ _ _ _ _ _ _ _ _ _ _ _ _ _ _ _ _ _ _ _ _ _ _ _ _ _ _ _ _ _ _ X w5.heap.size a5 none c5 0 HT.out
    exact ⟨0 + 1, g', aS', a8', cS', c8', hlt, hT', y6, y7, y9, y10, y11, y12, y13, y14, y15, y16, y17, y18, y19, y20, y21, y22, y23, y24, y25, y26, y27, y28, y29, y30, y31, y32, y33, y34, y35, y36, y37, y38, y39, y40, y41, y42, y43, y44, y45, y46, y47, rfl⟩
  · rintro a' w' ⟨i, g, aS, a8, cS, c8, hi, hT, z6, z7, z9, z10, z11, z12, z13, z14, z15, z16, z17, z18, z19, z20, z21, z22, z23, z24, z25, z26, z27, z28, z29, z30, z31, z32, z33, z34, z35, z36, z37, z38, z39, z40, z41, z42, z43, z44, z45, z46, z47, rfl⟩
    apply wp_seq
    apply wp_skip
    refine HPASS.out i _ hi (fun y6 y7 y9 y10 y11 y12 y13 y14 y15 y16 y17 y18 y19 y20 y21 y22 y23 y24 y25 y26 y27 y28 y29 y30 y31 y32 y33 y34 y35 y36 y37 y38 y39 y40 y41 y42 y43 y44 y45 y46 y47 W' g' aS' a8' cS' c8' hlt hT' => ?_) z6 z7 z9 z10 z11 z12 z13 z14 z15 z16 z17 z18 z19 z20 z21 z22 z23 z24 z25 z26 z27 z28 z29 z30 z31 z32 z33 z34 z35 z36 z37 z38 z39 z40 z41 z42 z43 z44 z45 z46 z47 w' g aS a8 cS c8 hT
    refine ⟨⟨i + 1, g', aS', a8', cS', c8', hlt, hT', y6, y7, y9, y10, y11, y12, y13, y14, y15, y16, y17, y18, y19, y20, y21, y22, y23, y24, y25, y26, y27, y28, y29, y30, y31, y32, y33, y34, y35, y36, y37, y38, y39, y40, y41, y42, y43, y44, y45, y46, y47, rfl⟩, ?_⟩
    show N - (i + 1) < N - i
    omega
end Go.Proofs.Ytagaajlbkfkaiaa

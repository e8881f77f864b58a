/- Several texts of the proof, one behind the other. -/
import Derived.Test.YtagaajlbkfkaiaaBaseP
import Derived.Lib.Hide
import Derived.Test.YtagaajlbkfkaiaaH7
import Derived.Deep.RegionHeld3
import Derived.Laws.AppendOwnNone
/- A drawing in a world; the walks of Drawing.Above, Drawing.Leaving and Drawing.Ahead. -/
namespace Go.Proofs.Ytagaajlbkfkaiaa
open Go.RowKit

theorem alloc_at {w : World} {o : Obj} {k : Nat} (h : k = w.heap.size) : (w.alloc o).heap[k]? = some o := by
  rw [h]
  exact Array.getElem?_push_size
theorem alloc_old {w : World} {o p : Obj} {k : Nat} (h : w.heap[k]? = some p) : (w.alloc o).heap[k]? = some p := by
  have hk : k < w.heap.size := (Array.getElem?_eq_some_iff.1 h).1
  exact ((World.grownBy_alloc w o none).block k hk (by simp)).trans h
/-- A drawing of the crossings C in a world: its crossings, and its two lists of spots. -/
structure Dr (w : World) (a : Option Addr) (cap : Nat) (C : List Cr) (gF gT : Nat) : Prop where
  crs : Crs w w.heap.size (.slice a C.length cap) C
  ltF : gF < w.heap.size
  ltT : gT < w.heap.size
  from_ : TermsAt w gF 0 (ends C false C.length 0)
  to : TermsAt w gT 0 (ends C true C.length 0)
theorem Crs.on {w w' : World} {B : Nat} {v : Value} {C : List Cr} (h : Crs w B v C) (hb : Below B w w') : Crs w' B v C := by
  obtain ⟨a, cap, rfl, hn, g⟩ := h
  refine ⟨a, cap, rfl, hn, fun h0 => ?_⟩
  obtain ⟨b, off, rfl, hlt, hC⟩ := g h0
  exact ⟨b, off, rfl, hlt, hC.on hb hlt⟩
theorem Crs.mono {w : World} {B B' : Nat} {v : Value} {C : List Cr} (h : Crs w B v C) (hB : B ≤ B') : Crs w B' v C := by
  obtain ⟨a, cap, rfl, hn, g⟩ := h
  refine ⟨a, cap, rfl, hn, fun h0 => ?_⟩
  obtain ⟨b, off, rfl, hlt, hC⟩ := g h0
  exact ⟨b, off, rfl, Nat.lt_of_lt_of_le hlt hB, hC⟩
theorem Crs.up {w w' : World} {v : Value} {C : List Cr} (h : Crs w w.heap.size v C) (hb : Below w.heap.size w w') : Crs w' w'.heap.size v C := (h.on hb).mono hb.size
theorem Dr.on {w w' : World} {a : Option Addr} {cap : Nat} {C : List Cr} {gF gT : Nat} (h : Dr w a cap C gF gT) (hb : Below w.heap.size w w') : Dr w' a cap C gF gT :=
  ⟨h.crs.up hb, Nat.lt_of_lt_of_le h.ltF hb.size, Nat.lt_of_lt_of_le h.ltT hb.size, h.from_.on hb h.ltF, h.to.on hb h.ltT⟩
theorem Dr.cross {w : World} {a : Option Addr} {cap : Nat} {C : List Cr} {gF gT : Nat} (h : Dr w a cap C gF gT) (hp : 0 < C.length) : ∃ b off, a = some ⟨b, off, none⟩ ∧ b < w.heap.size ∧ CrossAt w b off C := by
  obtain ⟨a', cap', e, _, g⟩ := h.crs
  injection e with e1 e2 e3
  obtain ⟨b, off, h1, h2, h3⟩ := g hp
  exact ⟨b, off, by rw [e1, h1], h2, h3⟩
theorem Dr.toAt {w : World} {a : Option Addr} {cap : Nat} {C : List Cr} {gF gT : Nat} {loops : Int} (h : Dr w a cap C gF gT) (hm : mayD C loops = true) (x : Nat) (h1 : 1 ≤ x) (h2 : x ≤ 2 * C.length) :
    w.cell? ⟨gT, x * 2, none⟩ = some (.int .i64 (toC C x : Nat)) ∧ w.cell? ⟨gT, x * 2 + 1, none⟩ = some (.int .i64 (toS C x : Nat)) := by
  have hT := h.to x (by rw [ends_length]; omega)
  rw [ends_at C true C.length 0 x h1 h2, Nat.zero_add] at hT
  have e : endAh C x true C.length 0 = endTo C x true C.length := rfl
  rw [e, (to_may hm x h1 h2).1] at hT
  exact hT
/-- The drawing as a value. -/
def drV (a : Option Addr) (cap : Nat) (C : List Cr) (loops : Int) (gF cF gT cT : Nat) : Value := .agg #[.slice a C.length cap, .int .i64 loops, .slice (some ⟨gF, 0, none⟩) (2 * C.length + 1) cF, .slice (some ⟨gT, 0, none⟩) (2 * C.length + 1) cT]

set_option maxHeartbeats 1000000 in
set_option maxRecDepth 100000 in
theorem across_any (i : Int) (k : Nat) (w : World) (hk : k < 4) :
    Calls Try.prog 116 #[.agg #[.int .i64 i, .int .i64 k]] w fun e w' => e = .returned (.agg #[.int .i64 i, .int .i64 ((k + 2) % 4 : Nat)]) ∧ Below w.heap.size w w' := by
  obtain ⟨k2, hk2⟩ : ∃ k2 : Nat, k2 = (k + 2) % 4 := ⟨_, rfl⟩
  have e1 : IntKind.i64.wrap ((k : Int) + 2) = (k : Int) + 2 := IntWalk.i64_in _ (by omega)
  have e2 : ((k : Int) + 2).tmod 4 = (k2 : Int) := by rw [Int.tmod_eq_emod_of_nonneg (by omega)]; omega
  rw [← hk2]
  clear hk2
  have hB : Below w.heap.size w ((w.alloc (.cells #[.int .i64 i, .int .i64 k] 120)).alloc (.cells #[.int .i64 i, .int .i64 k2] 120)) := below2 _ _ _
  have hG : ((w.alloc (.cells #[.int .i64 i, .int .i64 k] 120)).alloc (.cells #[.int .i64 i, .int .i64 k2] 120)).heap[w.heap.size + 1]? = some (.cells #[.int .i64 i, .int .i64 k2] 120 (0, 0)) := alloc_at (by simp)
  have x0 := block_cell (i := 0) (v := .int .i64 i) hG rfl
  have x1 := block_cell (i := 1) (v := .int .i64 k2) hG rfl
  have HB : Hid (Below w.heap.size w ((w.alloc (.cells #[.int .i64 i, .int .i64 k] 120)).alloc (.cells #[.int .i64 i, .int .i64 k2] 120))) := hB
  clear hB hG
  go_enter Try.func116, Try.ntmps116
  go_wp2
  exact bodyPost_ret (v := .agg #[.int .i64 i, .int .i64 k2]) (by simp [results, Try.results116, go_sem, x0, x1]) rfl ⟨rfl, HB.out⟩

set_option maxHeartbeats 1000000 in
set_option maxRecDepth 100000 in
theorem spotAbove_any (i : Int) (k : Nat) (w : World) (hk : k < 4) :
    Calls Try.prog 126 #[.agg #[.int .i64 i, .int .i64 k]] w fun e w' => e = .returned (.bool (decide (k % 2 = 1))) ∧ Below w.heap.size w w' := by
  go_enter Try.func126, Try.ntmps126
  go_wp2
  · go_ret
    have hk1 : k = 1 := by omega
    subst hk1
    exact ⟨rfl, (Below.refl _ _).alloc (Nat.le_refl _) _⟩
  · go_ret
    refine ⟨?_, (Below.refl _ _).alloc (Nat.le_refl _) _⟩
    have hk5 : k = 0 ∨ k = 1 ∨ k = 2 ∨ k = 3 := by omega
    rcases hk5 with rfl | rfl | rfl | rfl <;> rfl

set_option maxHeartbeats 4000000 in
set_option maxRecDepth 100000 in
theorem leaving_any (b off cap : Nat) (C : List Cr) (loops : Int) (vF vT : Value) (i k : Nat) (w : World) (hi : i < C.length) (hk : k < 4) (hbw : b < w.heap.size) (hC : CrossAt w b off C) :
    Calls Try.prog 117 #[.agg #[.slice (some ⟨b, off, none⟩) C.length cap, .int .i64 loops, vF, vT], .agg #[.int .i64 i, .int .i64 k]] w fun e w' => e = .returned (.agg #[.int .i64 ((C.getD i Cr.none).arc k), .bool ((C.getD i Cr.none).comes k)]) ∧ Below w.heap.size w w' := by
  obtain ⟨c0, c1, c2, c3, c4⟩ := hC i hi
  clear hC
  generalize C.getD i Cr.none = x at c0 c1 c2 c3 c4
  have hB3 : Below w.heap.size w (((w.alloc (.cells #[.slice (some ⟨b, off, none⟩) C.length cap, .int .i64 loops, vF, vT] 61)).alloc (.cells #[.int .i64 i, .int .i64 k] 120)).alloc (.cells #[.int .i64 0, .bool false] 26)) := below3 _ _ _ _
  have e0 := bcell hB3 hbw c0
  have e1 := bcell hB3 hbw c1
  have e2 := bcell hB3 hbw c2
  have e3 := bcell hB3 hbw c3
  have e4 := bcell hB3 hbw c4
  clear hB3 c0 c1 c2 c3 c4
  go_enter Try.func117, Try.ntmps117
  go_wp2
  clear e0 e1 e2 e3 e4
  obtain ⟨W0, hW0⟩ : ∃ W0, W0 = (((w.alloc (.cells #[.slice (some ⟨b, off, none⟩) C.length cap, .int .i64 loops, vF, vT] 61)).alloc (.cells #[.int .i64 i, .int .i64 k] 120)).alloc (.cells #[.int .i64 0, .bool false] 26)).alloc (.cells #[.int .i64 x.a, .int .i64 x.b, .int .i64 x.c, .int .i64 x.d, .bool x.plus] 71) := ⟨_, rfl⟩
  rw [← hW0]
  have hs0 : W0.heap.size = w.heap.size + 4 := by rw [hW0]; simp
  have HB0 : Hid (Below w.heap.size w W0) := (by rw [hW0]; exact (below3 _ _ _ _).alloc (by simp; omega) _ : Below w.heap.size w W0)
  have HT1 : Hid (W0.heap[w.heap.size + 1]? = some (.cells #[.int .i64 i, .int .i64 k] 120 (0, 0))) := (by rw [hW0]; exact alloc_old (alloc_old (alloc_at (by simp))) : W0.heap[w.heap.size + 1]? = some (.cells #[.int .i64 i, .int .i64 k] 120 (0, 0)))
  have HT2 : Hid (W0.heap[w.heap.size + 1 + 1]? = some (.cells #[.int .i64 0, .bool false] 26 (0, 0))) := (by rw [hW0]; exact alloc_old (alloc_at (by simp)) : W0.heap[w.heap.size + 1 + 1]? = some (.cells #[.int .i64 0, .bool false] 26 (0, 0)))
  have HT3 : Hid (W0.heap[w.heap.size + 1 + 1 + 1]? = some (.cells #[.int .i64 x.a, .int .i64 x.b, .int .i64 x.c, .int .i64 x.d, .bool x.plus] 71 (0, 0))) := (by rw [hW0]; exact alloc_at (by simp) : W0.heap[w.heap.size + 1 + 1 + 1]? = some (.cells #[.int .i64 x.a, .int .i64 x.b, .int .i64 x.c, .int .i64 x.d, .bool x.plus] 71 (0, 0)))
  clear hW0
  have HF : Hid (∀ w', Below W0.heap.size W0 w' → w'.cell? ⟨w.heap.size + 1 + 1 + 1, 0, none⟩ = some (.int .i64 x.a) ∧ w'.cell? ⟨w.heap.size + 1 + 1 + 1, 1, none⟩ = some (.int .i64 x.b) ∧ w'.cell? ⟨w.heap.size + 1 + 1 + 1, 2, none⟩ = some (.int .i64 x.c) ∧ w'.cell? ⟨w.heap.size + 1 + 1 + 1, 3, none⟩ = some (.int .i64 x.d) ∧ w'.cell? ⟨w.heap.size + 1 + 1 + 1, 4, none⟩ = some (.bool x.plus) ∧ w'.cell? ⟨w.heap.size + 1, 1, none⟩ = some (.int .i64 k)) := fun w' hb => by
    have g3 := (hb.block _ (by omega)).trans HT3.out
    have g1 := (hb.block _ (by omega)).trans HT1.out
    exact ⟨block_cell g3 rfl, block_cell g3 rfl, block_cell g3 rfl, block_cell g3 rfl, block_cell g3 rfl, block_cell g1 rfl⟩
  have HFS : Hid (∀ wX u v, Below W0.heap.size W0 wX → (fun w' => w'.cell? ⟨w.heap.size + 1 + 1 + 1, 0, none⟩ = some (.int .i64 x.a) ∧ w'.cell? ⟨w.heap.size + 1 + 1 + 1, 1, none⟩ = some (.int .i64 x.b) ∧ w'.cell? ⟨w.heap.size + 1 + 1 + 1, 2, none⟩ = some (.int .i64 x.c) ∧ w'.cell? ⟨w.heap.size + 1 + 1 + 1, 3, none⟩ = some (.int .i64 x.d) ∧ w'.cell? ⟨w.heap.size + 1 + 1 + 1, 4, none⟩ = some (.bool x.plus) ∧ w'.cell? ⟨w.heap.size + 1, 1, none⟩ = some (.int .i64 k)) (st2 wX (w.heap.size + 1 + 1) 0 u v)) := fun wX u v hb => by
    have hg := st2_grown wX (w.heap.size + 1 + 1) 0 u v
    have hsz := hb.size
    have g3 := (hg.block (w.heap.size + 1 + 1 + 1) (by omega) (fun e => by have := Option.some.inj e; omega)).trans ((hb.block _ (by omega)).trans HT3.out)
    have g1 := (hg.block (w.heap.size + 1) (by omega) (fun e => by have := Option.some.inj e; omega)).trans ((hb.block _ (by omega)).trans HT1.out)
    exact ⟨block_cell g3 rfl, block_cell g3 rfl, block_cell g3 rfl, block_cell g3 rfl, block_cell g3 rfl, block_cell g1 rfl⟩
  have HZ : Hid (∀ wX, Below W0.heap.size W0 wX → wX.cell? ⟨w.heap.size + 1 + 1, 0, none⟩ = some (.int .i64 0) ∧ wX.cell? ⟨w.heap.size + 1 + 1, 1, none⟩ = some (.bool false) ∧ wX.frozen? ⟨w.heap.size + 1 + 1, 0, none⟩ = false ∧ wX.frozen? ⟨w.heap.size + 1 + 1, 1, none⟩ = false) := fun wX hb => by
    have g2 := (hb.block _ (by omega)).trans HT2.out
    exact ⟨block_cell g2 rfl, block_cell g2 rfl, block_frozen g2, block_frozen g2⟩
  have HD0 : Hid (Below W0.heap.size W0 W0.drew) := (Below.refl _ _).drew
  obtain ⟨t0, t1, t2, t3, t4, t5⟩ := HF.out W0 (Below.refl _ _)
  have hix := index_arr x k hk
  go_region_held3 (fun w' => w'.cell? ⟨w.heap.size + 1 + 1 + 1, 0, none⟩ = some (.int .i64 x.a) ∧ w'.cell? ⟨w.heap.size + 1 + 1 + 1, 1, none⟩ = some (.int .i64 x.b) ∧ w'.cell? ⟨w.heap.size + 1 + 1 + 1, 2, none⟩ = some (.int .i64 x.c) ∧ w'.cell? ⟨w.heap.size + 1 + 1 + 1, 3, none⟩ = some (.int .i64 x.d) ∧ w'.cell? ⟨w.heap.size + 1 + 1 + 1, 4, none⟩ = some (.bool x.plus) ∧ w'.cell? ⟨w.heap.size + 1, 1, none⟩ = some (.int .i64 k)) (first | exact HF.out _ HY.out | exact HF.out _ HA.out | exact HF.out _ HD0.out | exact HF.out _ (Below.refl _ _) | exact HFS.out _ _ _ HY.out | exact HFS.out _ _ _ HA.out) (first
    | (go_at_call 75; refine (arcs_any x _).mono ?_; rintro e9 wA ⟨rfl, hbA⟩
       first
         | have HA : Hid (Below W0.heap.size W0 wA) := HY.out.trans (hbA.mono HY.out.size)
         | have HA : Hid (Below W0.heap.size W0 wA) := HD0.out.trans hbA
       obtain ⟨a0, a1, a2, a3, a4, a5⟩ := HF.out wA HA.out
       obtain ⟨b0, b1, b2, b3⟩ := HZ.out wA HA.out
       clear hbA)
    | (go_at_call 76; refine (comesIn_any x k _ hk).mono ?_; rintro e9 wC ⟨rfl, hbC⟩
       first
         | have HY : Hid (Below W0.heap.size W0 wC) := HA.out.trans (hbC.mono HA.out.size)
         | have HY : Hid (Below W0.heap.size W0 wC) := HD0.out.trans hbC
       obtain ⟨p0, p1, p2, p3, p4, p5⟩ := HF.out wC HY.out
       obtain ⟨q0, q1, q2, q3⟩ := HZ.out wC HY.out
       clear hbC))
  all_goals first
    | (have hX := set_block (i := 1) (u := .bool (x.comes k)) (set_block (i := 0) (u := .int .i64 (x.arc k)) ((HY.out.block _ (by omega)).trans HT2.out))
       have x0 := block_cell (i := 0) (v := .int .i64 (x.arc k)) hX rfl
       have x1 := block_cell (i := 1) (v := .bool (x.comes k)) hX rfl
       go_wp2
       exact bodyPost_ret (v := .agg #[.int .i64 (x.arc k), .bool (x.comes k)]) (by simp [results, Try.results117, go_sem, x0, x1]) rfl ⟨rfl, (HB0.out.trans (HY.out.mono (by omega))).grown (st2_grown wC (w.heap.size + 1 + 1) 0 (.int .i64 (x.arc k)) (.bool (x.comes k))) (by have := HY.out.size; omega) (fun q hq => by have := Option.some.inj hq; omega)⟩)
    | (have hX := set_block (i := 1) (u := .bool (x.comes k)) (set_block (i := 0) (u := .int .i64 (x.arc k)) ((HA.out.block _ (by omega)).trans HT2.out))
       have x0 := block_cell (i := 0) (v := .int .i64 (x.arc k)) hX rfl
       have x1 := block_cell (i := 1) (v := .bool (x.comes k)) hX rfl
       go_wp2
       exact bodyPost_ret (v := .agg #[.int .i64 (x.arc k), .bool (x.comes k)]) (by simp [results, Try.results117, go_sem, x0, x1]) rfl ⟨rfl, (HB0.out.trans (HA.out.mono (by omega))).grown (st2_grown wA (w.heap.size + 1 + 1) 0 (.int .i64 (x.arc k)) (.bool (x.comes k))) (by have := HA.out.size; omega) (fun q hq => by have := Option.some.inj hq; omega)⟩)

theorem field_dart (a : Int) (p : Bool) (w : World) : (Instr.field 26 (.agg #[.int .i64 a, .bool p]) 0).run Try.prog w = .ok (.int .i64 a) w := by
  simp [Instr.field, run_underlying Try.underlying26, go_sem, asAgg]

set_option maxHeartbeats 2000000 in
set_option maxRecDepth 100000 in
theorem ahead_any (a : Option Addr) (cap : Nat) (C : List Cr) (loops : Int) (gF cF gT cT : Nat) (x : Nat) (w : World) (hm : mayD C loops = true) (h1 : 1 ≤ x) (h2 : x ≤ 2 * C.length) (hD : Dr w a cap C gF gT) :
    Calls Try.prog 97 #[drV a cap C loops gF cF gT cT, .int .i64 x] w fun e w' => e = .returned (.int .i64 (nx C x : Nat)) ∧ Below w.heap.size w w' := by
  obtain ⟨b, off, rfl, hbw, hC⟩ := hD.cross (by omega)
  unfold drV
  have hT := hD.toAt hm x h1 h2
  have c0 := hT.1
  have c1 := hT.2
  have hlt := hD.ltT
  obtain ⟨-, hi, hk, -, -⟩ := to_may hm x h1 h2
  have HNX : Hid ((C.getD (toC C x) Cr.none).arc ((toS C x + 2) % 4) = (nx C x : Int)) := (nx_may hm x h1 h2).1
  have HC : Hid (CrossAt w b off C) := hC
  clear hT hD hm hC
  generalize toS C x = k at c1 hk HNX
  generalize toC C x = i at c0 hi HNX
  generalize nx C x = z at HNX
  have hx : x < 2 * C.length + 1 := by omega
  obtain ⟨k2, hk2⟩ : ∃ k2 : Nat, k2 = (k + 2) % 4 := ⟨_, rfl⟩
  have e1 : IntKind.i64.wrap ((k : Int) + 2) = (k : Int) + 2 := IntWalk.i64_in _ (by omega)
  have e2 : ((k : Int) + 2).tmod 4 = (k2 : Int) := by rw [Int.tmod_eq_emod_of_nonneg (by omega)]; omega
  have hk24 : k2 < 4 := by omega
  rw [← hk2] at HNX
  have hfd := field_dart (z : Int)
  obtain ⟨X, hX⟩ : ∃ X, X = w.alloc (.cells #[.slice (some ⟨b, off, none⟩) C.length cap, .int .i64 loops, .slice (some ⟨gF, 0, none⟩) (2 * C.length + 1) cF, .slice (some ⟨gT, 0, none⟩) (2 * C.length + 1) cT] 61) := ⟨_, rfl⟩
  have HX : Hid (X = w.alloc (.cells #[.slice (some ⟨b, off, none⟩) C.length cap, .int .i64 loops, .slice (some ⟨gF, 0, none⟩) (2 * C.length + 1) cF, .slice (some ⟨gT, 0, none⟩) (2 * C.length + 1) cT] 61)) := hX
  have hsX : X.heap.size = w.heap.size + 1 := by rw [hX]; simp
  have HB1 : Hid (Below w.heap.size w X) := (by rw [hX]; exact (Below.refl _ _).alloc (Nat.le_refl _) _ : Below w.heap.size w X)
  have HG1 : Hid (X.heap[w.heap.size]? = some (.cells #[.slice (some ⟨b, off, none⟩) C.length cap, .int .i64 loops, .slice (some ⟨gF, 0, none⟩) (2 * C.length + 1) cF, .slice (some ⟨gT, 0, none⟩) (2 * C.length + 1) cT] 61 (0, 0))) := (by rw [hX]; exact alloc_at rfl : X.heap[w.heap.size]? = some (.cells #[.slice (some ⟨b, off, none⟩) C.length cap, .int .i64 loops, .slice (some ⟨gF, 0, none⟩) (2 * C.length + 1) cF, .slice (some ⟨gT, 0, none⟩) (2 * C.length + 1) cT] 61 (0, 0)))
  clear hX
  have HK : Hid (∀ w', Below X.heap.size X w' → w'.cell? ⟨w.heap.size, 0, none⟩ = some (.slice (some ⟨b, off, none⟩) C.length cap) ∧ w'.cell? ⟨w.heap.size, 1, none⟩ = some (.int .i64 loops) ∧ w'.cell? ⟨w.heap.size, 2, none⟩ = some (.slice (some ⟨gF, 0, none⟩) (2 * C.length + 1) cF) ∧ w'.cell? ⟨w.heap.size, 3, none⟩ = some (.slice (some ⟨gT, 0, none⟩) (2 * C.length + 1) cT) ∧ w'.cell? ⟨gT, x * 2, none⟩ = some (.int .i64 i) ∧ w'.cell? ⟨gT, x * 2 + 1, none⟩ = some (.int .i64 k)) := fun w' hb => by
    have g := (hb.block _ (by omega)).trans HG1.out
    have hb2 := HB1.out.trans (hb.mono (by omega))
    exact ⟨block_cell g rfl, block_cell g rfl, block_cell g rfl, block_cell g rfl, bcell hb2 hlt c0, bcell hb2 hlt c1⟩
  have HD0 : Hid (Below X.heap.size X X.drew) := (Below.refl _ _).drew
  have HAC : Hid (∀ W : World, Calls Try.prog 116 #[.agg #[.int .i64 i, .int .i64 k]] W fun e w' => e = .returned (.agg #[.int .i64 i, .int .i64 (k2 : Nat)]) ∧ Below W.heap.size W w') := fun W => (by rw [hk2]; exact across_any i k W hk)
  clear hk2 c0 c1
  obtain ⟨t0, t1, t2, t3, t4, t5⟩ := HK.out X (Below.refl _ _)
  have hx0 : (0 : Int) ≤ (x : Int) := by omega
  have hx9 : (x : Int) < 2 * (C.length : Int) + 1 := by omega
  go_enter Try.func97, Try.ntmps97
  go_wp2
  rw [← HX.out]
  go_region_held3 (fun w' => w'.cell? ⟨w.heap.size, 0, none⟩ = some (.slice (some ⟨b, off, none⟩) C.length cap) ∧ w'.cell? ⟨w.heap.size, 1, none⟩ = some (.int .i64 loops) ∧ w'.cell? ⟨w.heap.size, 2, none⟩ = some (.slice (some ⟨gF, 0, none⟩) (2 * C.length + 1) cF) ∧ w'.cell? ⟨w.heap.size, 3, none⟩ = some (.slice (some ⟨gT, 0, none⟩) (2 * C.length + 1) cT) ∧ w'.cell? ⟨gT, x * 2, none⟩ = some (.int .i64 i) ∧ w'.cell? ⟨gT, x * 2 + 1, none⟩ = some (.int .i64 k)) (first | exact HK.out _ HD0.out | exact HK.out _ HL.out | exact HK.out _ HA.out) (first
    | (go_at_call 117; refine (leaving_any b off cap C loops _ _ i k2 _ hi hk24 hb9 HC3.out).mono ?_; rw [HNX.out]; rintro e9 w4 ⟨rfl, hb4⟩
       have HL : Hid (Below X.heap.size X w4) := HA.out.trans (hb4.mono HA.out.size))
    | (go_at_call 116; refine (HAC.out _).mono ?_; rintro e9 w3 ⟨rfl, hb3⟩
       have HA : Hid (Below X.heap.size X w3) := HD0.out.trans (hb3.mono HD0.out.size)
       have HC3 : Hid (CrossAt w3 b off C) := HC.out.on (HB1.out.trans (HA.out.mono (by omega))) hbw
       have hb9 : b < w3.heap.size := Nat.lt_of_lt_of_le hbw (HB1.out.trans (HA.out.mono (by omega))).size
       clear hb3))
  all_goals
    go_wp2
    go_ret
    exact ⟨rfl, HB1.out.trans (HL.out.mono (by omega))⟩
end Go.Proofs.Ytagaajlbkfkaiaa
/- Lists of numbers that a call owns; the walk of Drawing.Walks. -/
namespace Go.Proofs.Ytagaajlbkfkaiaa
open Go.RowKit

/-- Numbers as cells. -/
def nats (l : List Nat) : List Value := l.map fun x => .int .i64 (x : Nat)
def bools (l : List Bool) : List Value := l.map fun x => .bool x
theorem nats_len (l : List Nat) : (nats l).length = l.length := by simp [nats]
theorem nats_get (l : List Nat) (i : Nat) (h : i < l.length) : (nats l)[i]? = some (.int .i64 (l.getD i 0 : Nat)) := by simp [nats, List.getD, h]
theorem bools_get (l : List Bool) (i : Nat) (h : i < l.length) : (bools l)[i]? = some (.bool (l.getD i true)) := by simp [bools, List.getD, h]
theorem bools_set (l : List Bool) (i : Nat) (b : Bool) : (bools l).set i (.bool b) = bools (l.set i b) := by simp [bools, List.map_set]
theorem nats_app (l : List Nat) (x : Nat) : nats (l ++ [x]) = nats l ++ [.int .i64 (x : Nat)] := by simp [nats]
/-- A list of lists of numbers that a call itself owns. -/
def NatsOwn (w : World) (B : Nat) (v : Value) (L : List (List Nat)) : Prop :=
  ∃ ys : List Value, ys.length = L.length ∧ w.ownsRow B 46 1 v ys.length ys ∧ ∀ j, j < L.length → w.ownsRow B 3 1 (ys.getD j (.bool false)) (L.getD j []).length (nats (L.getD j []))
theorem NatsOwn.any {w w' : World} {B : Nat} {v : Value} {L : List (List Nat)} (h : NatsOwn w B v L) (hg : w.grownBy w' none) : NatsOwn w' B v L := by
  obtain ⟨ys, h1, h2, h3⟩ := h
  exact ⟨ys, h1, own_any h2 hg, fun j hj => own_any (h3 j hj) hg⟩
theorem NatsOwn.low {w : World} {B B' : Nat} {v : Value} {L : List (List Nat)} (h : NatsOwn w B v L) (hB : B' ≤ B) : NatsOwn w B' v L := by
  obtain ⟨ys, h1, h2, h3⟩ := h
  exact ⟨ys, h1, own_low h2 hB, fun j hj => own_low (h3 j hj) hB⟩
theorem grown_none {w w' : World} {row : Option Nat} (h : w.grownBy w' none) : w.grownBy w' row := ⟨h.os, h.tape, h.output, h.size, fun k hk _ => h.block k hk (by simp)⟩
theorem grown_new {W X Y : World} {row r2 : Option Nat} (h : W.grownBy X row) (g : X.grownBy Y r2) (hr : ∀ k, r2 = some k → W.heap.size ≤ k) : W.grownBy Y row :=
  ⟨g.os.trans h.os, g.tape.trans h.tape, g.output.trans h.output, Nat.le_trans h.size g.size, fun k hk hn => (g.block k (Nat.lt_of_lt_of_le hk h.size) (fun e => by have := hr k e.symm; omega)).trans (h.block k hk hn)⟩
def lenOf : Value → Nat
  | .slice _ n _ => n
  | _ => 0
theorem infoInt : (Try.prog.info? 3).map (fun i => (i.zero, i.size, i.bytes)) = some (some (.int .i64 0), 1, 8) := by kernel_rfl
theorem infoBool : (Try.prog.info? 4).map (fun i => (i.zero, i.size, i.bytes)) = some (some (.bool false), 1, 1) := by kernel_rfl
theorem infoInts : (Try.prog.info? 46).map (fun i => (i.zero, i.size, i.bytes)) = some (some (.slice none 0 0), 1, 24) := by kernel_rfl
theorem int_one (x : Int) : ∀ u ∈ [Value.int .i64 x], u.oneCell' = true := by
  intro u hu
  simp only [List.mem_singleton] at hu
  subst hu
  rfl
theorem made_false (n : Nat) : (madeCells (Value.bool false).cells (n * 1)).toList = bools (List.replicate n false) := by
  have e : (Value.bool false).cells = #[Value.bool false] := rfl
  rw [e, toList_madeCells_one, Nat.mul_one]
  simp [bools]

/-- Where the walk of Walks stands behind the arcs below i. -/
structure WkAt (w : World) (gS cS : Nat) (box : Array Value) (tb : TypeId) (n : Nat) (R : List (List Nat) × List Bool) (v3 : Value) (zs : List Value) (wr : World) : Prop where
  box : wr.heap[w.heap.size]? = some (.cells box tb (0, 0))
  seen : wr.ownsRow (w.heap.size + 1) 4 1 (.slice (some ⟨gS, 0, none⟩) (n + 1) cS) (n + 1) (bools R.2)
  len : zs.length = R.1.length
  rows : wr.ownsRow (w.heap.size + 1) 46 1 v3 zs.length zs
  each : ∀ j, j < zs.length → wr.ownsRow (w.heap.size + 1) 3 1 (zs.getD j (.bool false)) (R.1.getD j []).length (nats (R.1.getD j []))
  bel : Below w.heap.size w wr

theorem walksTo_next {f : Nat → Nat} {n i : Nat} {acc : List Nat} {seen : List Bool} (h : walkF f (n + 1) (walksTo f n i).2 (i + 1) [] = (acc, seen)) : walksTo f n (i + 1) = (if acc = [] then (walksTo f n i).1 else (walksTo f n i).1 ++ [acc], seen) := by
  simp only [walksTo]
  rw [h]

set_option maxHeartbeats 8000000 in
set_option maxRecDepth 100000 in
theorem arcRings_ahead (a : Option Addr) (cap : Nat) (C : List Cr) (loops : Int) (gF cF gT cT : Nat) (w : World) (hm : mayD C loops = true) (hD : Dr w a cap C gF gT) :
    Calls Try.prog 96 #[drV a cap C loops gF cF gT cT, .func (.func 97) #[drV a cap C loops gF cF gT cT] #[]] w fun e w' => ∃ v, e = .returned v ∧ NatsOwn w' w.heap.size v (walksM C) ∧ Below w.heap.size w w' := by
  obtain ⟨s1, -, -, -⟩ := sizeB_iff (may_size hm)
  obtain ⟨i0, hi, hz0, hz1, hz2⟩ := info_parts infoInt
  obtain ⟨i1, hj, hy0, hy1, hy2⟩ := info_parts infoInts
  obtain ⟨i2, hk, hx0, hx1, hx2⟩ := info_parts infoBool
  unfold drV
  have HM : Hid (mayD C loops = true) := hm
  have HD : Hid (Dr w a cap C gF gT) := hD
  have HNX : Hid (∀ x, 1 ≤ x → x ≤ 2 * C.length → 1 ≤ nx C x ∧ nx C x ≤ 2 * C.length) := nx_closed hm
  have HWM : Hid (walksM C = (walksTo (nx C) (2 * C.length) (2 * C.length)).1) := (rfl : walksM C = (walksTo (nx C) (2 * C.length) (2 * C.length)).1)
  clear hm hD
  obtain ⟨w0, hw0⟩ : ∃ w0, w0 = w.alloc (.cells #[.slice a C.length cap, .int .i64 loops, .slice (some ⟨gF, 0, none⟩) (2 * C.length + 1) cF, .slice (some ⟨gT, 0, none⟩) (2 * C.length + 1) cT] 61) := ⟨_, rfl⟩
  have HW0 : Hid (w0 = w.alloc (.cells #[.slice a C.length cap, .int .i64 loops, .slice (some ⟨gF, 0, none⟩) (2 * C.length + 1) cF, .slice (some ⟨gT, 0, none⟩) (2 * C.length + 1) cT] 61)) := hw0
  have hs0 : w0.heap.size = w.heap.size + 1 := by rw [hw0]; simp
  have HB0 : Hid (Below w.heap.size w w0) := (by rw [hw0]; exact (Below.refl _ _).alloc (Nat.le_refl _) _ : Below w.heap.size w w0)
  have HT0 : Hid (w0.heap[w.heap.size]? = some (.cells #[.slice a C.length cap, .int .i64 loops, .slice (some ⟨gF, 0, none⟩) (2 * C.length + 1) cF, .slice (some ⟨gT, 0, none⟩) (2 * C.length + 1) cT] 61 (0, 0))) := (by rw [hw0]; exact alloc_at rfl : w0.heap[w.heap.size]? = some (.cells #[.slice a C.length cap, .int .i64 loops, .slice (some ⟨gF, 0, none⟩) (2 * C.length + 1) cF, .slice (some ⟨gT, 0, none⟩) (2 * C.length + 1) cT] 61 (0, 0)))
  clear hw0
  go_enter Try.func96, Try.ntmps96
  go_wp2_with (first | (at_make; refine wpList_make_full _ rfl _ _ 104 rfl (w.heap.size + 1) 4 i2 (.bool false) 1 Try.underlying104 hk hx0 hx1 .i64 .i64 _ _ (2 * C.length + 1) rfl rfl rfl rfl (by rw [hx2]; omega) (by unfold maxLen; omega) (by simp) ?_; intro w1 hrow hg1; refine Hid.out ?_))
  refine Lib.hid ?_
  rw [← HW0.out] at hrow hg1
  rw [made_false, hs0] at hrow
  have HK0 : Hid (WkAt w (w.heap.size + 1) (2 * C.length + 1) #[.slice a C.length cap, .int .i64 loops, .slice (some ⟨gF, 0, none⟩) (2 * C.length + 1) cF, .slice (some ⟨gT, 0, none⟩) (2 * C.length + 1) cT] 61 (2 * C.length) (walksTo (nx C) (2 * C.length) 0) (.slice none 0 0) [] w1) :=
    ⟨(hg1.block _ (by omega) (by simp)).trans HT0.out, hrow, rfl, World.ownsRow_nil _ _ _ _, fun j hj => absurd hj (Nat.not_lt_zero _), HB0.out.grown hg1 (by omega) (fun k hk => by cases hk)⟩
  clear hrow hg1 HT0 HB0 hs0 HW0
  go_wp2
  go_loopw [5, 7] (fun v3 v5 wr => ∃ (i j : Nat) (zs : List Value), i ≤ 2 * C.length ∧ Hid (j = i + 1) ∧ v5 = .int .i64 (j : Nat) ∧ WkAt w (w.heap.size + 1) (2 * C.length + 1) #[.slice a C.length cap, .int .i64 loops, .slice (some ⟨gF, 0, none⟩) (2 * C.length + 1) cF, .slice (some ⟨gT, 0, none⟩) (2 * C.length + 1) cT] 61 (2 * C.length) (walksTo (nx C) (2 * C.length) i) v3 zs wr) (fun _ v5 _ => 2 * C.length + 1 - (intOf v5).toNat)
  case atStart => exact ⟨0, 1, [], Nat.zero_le _, (rfl : 1 = 0 + 1), rfl, HK0.out⟩
  case round =>
    clear HK0
    rename World => W1
    obtain ⟨i, j0, zs, hin, hji, rfl, hk⟩ := hrel
    have b3 : W1.cell? ⟨w.heap.size, 3, none⟩ = some (.slice (some ⟨gT, 0, none⟩) (2 * C.length + 1) cT) := block_cell hk.box rfl
    have HK : Hid (WkAt w (w.heap.size + 1) (2 * C.length + 1) #[.slice a C.length cap, .int .i64 loops, .slice (some ⟨gF, 0, none⟩) (2 * C.length + 1) cF, .slice (some ⟨gT, 0, none⟩) (2 * C.length + 1) cT] 61 (2 * C.length) (walksTo (nx C) (2 * C.length) i) _ zs W1) := hk
    have hgS := hk.seen.lt (w.heap.size + 1) rfl
    have HSL : Hid ((walksTo (nx C) (2 * C.length) i).2.length = 2 * C.length + 1) := walksTo_len _ _ _
    have HCT : Hid ((walksTo (nx C) (2 * C.length) i).1.length ≤ i) := walksTo_count _ _ _
    by_cases hil : i < 2 * C.length
    · have hsd := hk.seen
      have hbl := hk.bel
      have hj1 : 1 ≤ j0 := by have := hji.out; omega
      have hj2 : j0 ≤ 2 * C.length := by have := hji.out; omega
      have hdj : decide ((j0 : Int) < 2 * (C.length : Int) + 1) = true := by simp; omega
      have hdj2 : decide (j0 < 2 * C.length + 1) = true := by simp; omega
      clear hk
      go_wp2
      go_loopw [8, 9] (fun v6 v7 ws => ∃ (f : Nat) (seen : List Bool) (x : Nat) (acc : List Nat), v7 = .int .i64 (x : Nat) ∧ 1 ≤ x ∧ x ≤ 2 * C.length ∧ Hid (walkF (nx C) (2 * C.length + 1) (walksTo (nx C) (2 * C.length) i).2 j0 [] = walkF (nx C) f seen x acc) ∧ Hid (unseen seen ≤ f) ∧ seen.length = 2 * C.length + 1 ∧ Hid (acc.length + unseen seen ≤ 2 * C.length + 1) ∧
          ws.ownsRow W1.heap.size 3 1 v6 acc.length (nats acc) ∧ ws.ownsRow (w.heap.size + 1) 4 1 (.slice (some ⟨w.heap.size + 1, 0, none⟩) (2 * C.length + 1) (2 * C.length + 1)) (2 * C.length + 1) (bools seen) ∧ W1.grownBy ws (some (w.heap.size + 1)) ∧ Below w.heap.size w ws) (fun v6 _ _ => 2 * C.length + 2 - lenOf v6)
      case atStart => exact ⟨2 * C.length + 1, (walksTo (nx C) (2 * C.length) i).2, j0, [], rfl, by omega, by omega, (rfl : walkF (nx C) (2 * C.length + 1) (walksTo (nx C) (2 * C.length) i).2 j0 [] = _), (by have := unseen_le (walksTo (nx C) (2 * C.length) i).2; rw [HSL.out] at this; exact this : unseen (walksTo (nx C) (2 * C.length) i).2 ≤ 2 * C.length + 1), HSL.out, (by have := unseen_le (walksTo (nx C) (2 * C.length) i).2; rw [HSL.out] at this; simpa using this : ([] : List Nat).length + unseen (walksTo (nx C) (2 * C.length) i).2 ≤ 2 * C.length + 1), World.ownsRow_nil _ _ _ _, hsd, World.grownBy.refl _ _, hbl⟩
      case round =>
        clear hsd hbl b3
        rename World => W3
        obtain ⟨f, seen, x, acc, rfl, hx1, hx2, hwk, hun, hsl, hac, hown, hsd, hgr, hbl⟩ := hrel
        obtain ⟨a6, c6, rfl⟩ := own_capS hown
        have e0 : W3.cell? ⟨w.heap.size + 1, x, none⟩ = some (.bool (seen.getD x true)) := by
          rw [hsd.cellAt x (by omega)]; exact bools_get seen x (by omega)
        have z0 : W3.frozen? ⟨w.heap.size + 1, x, none⟩ = false := hsd.frozenAt x
        have hszW := hgr.size
        cases hbit : seen.getD x true with
        | false =>
          rw [hbit] at e0
          have hst := hsd.stored x (.bool true)
          rw [bools_set] at hst
          have HSD : Hid ((W3.setCell ⟨w.heap.size + 1, x, none⟩ (.bool true)).ownsRow (w.heap.size + 1) 4 1 (.slice (some ⟨w.heap.size + 1, 0, none⟩) (2 * C.length + 1) (2 * C.length + 1)) (2 * C.length + 1) (bools (seen.set x true))) := hst.1
          have HGS : Hid (W3.grownBy (W3.setCell ⟨w.heap.size + 1, x, none⟩ (.bool true)) (some (w.heap.size + 1))) := hst.2
          have HOW : Hid ((W3.setCell ⟨w.heap.size + 1, x, none⟩ (.bool true)).ownsRow W1.heap.size 3 1 (.slice a6 acc.length c6) acc.length (nats acc)) := hown.kept hst.2 (own_ne hown hsd (by decide))
          have HWK : Hid (walkF (nx C) f seen x acc = walkF (nx C) (f - 1) (seen.set x true) (nx C x) (acc ++ [x]) ∧ unseen (seen.set x true) ≤ f - 1) := walkF_more hbit hun.out
          have HUS : Hid (unseen (seen.set x true) + 1 = unseen seen) := unseen_set hbit
          have hacl : acc.length < 2 * C.length + 1 := by have := hac.out; have := HUS.out; omega
          have hs3 : (W3.setCell ⟨w.heap.size + 1, x, none⟩ (.bool true)).heap.size = W3.heap.size := by simp
          have hlt3 : w.heap.size + 1 < W3.heap.size := by omega
          have HB3 : Hid (Below w.heap.size w (W3.setCell ⟨w.heap.size + 1, x, none⟩ (.bool true))) := hbl.grown hst.2 hbl.size (fun q hq => by have := Option.some.inj hq; omega)
          have HG3 : Hid (W1.grownBy (W3.setCell ⟨w.heap.size + 1, x, none⟩ (.bool true)) (some (w.heap.size + 1))) := grown_trans hgr hst.2
          have HX : Hid (1 ≤ nx C x ∧ nx C x ≤ 2 * C.length) := HNX.out x hx1 hx2
          clear hst hsd hown hgr hbl
          go_wp2_with (first
            | (at_builtin; refine wpList_append_own _ rfl _ _ 46 rfl W1.heap.size 3 i0 (.int .i64 0) 1 8 Try.underlying46 hi hz0 hz1 hz2 rfl (by decide) _ _ _ rfl (HOW.out.alloc _) ⟨W3.heap.size, 0, none⟩ 1 1 [.int .i64 (x : Nat)] rfl rfl (by rw [← hs3]; exact new_cell1 _ _ _) (int_one _) (by unfold maxLen; omega) (by omega) (by simp; omega) ?_; intro v8 w8 hown8 hg8 _; refine Hid.out ?_))
          refine Lib.hid ?_
          have HG8 : Hid (((W3.setCell ⟨w.heap.size + 1, x, none⟩ (.bool true)).alloc (.cells #[.int .i64 (x : Nat)] 3)).grownBy w8 (Value.slice a6 acc.length c6).ownBlock) := hg8
          have HO8 : Hid (w8.ownsRow W1.heap.size 3 1 v8 (acc ++ [x]).length (nats (acc ++ [x]))) := (by rw [List.length_append, nats_app]; exact hown8 : w8.ownsRow W1.heap.size 3 1 v8 (acc ++ [x]).length (nats (acc ++ [x])))
          have hA := HOW.out.alloc (.cells #[.int .i64 (x : Nat)] 3)
          have hS := HSD.out.alloc (.cells #[.int .i64 (x : Nat)] 3)
          have HS8 : Hid (w8.ownsRow (w.heap.size + 1) 4 1 (.slice (some ⟨w.heap.size + 1, 0, none⟩) (2 * C.length + 1) (2 * C.length + 1)) (2 * C.length + 1) (bools (seen.set x true))) := hS.kept HG8.out (own_ne hS hA (by decide))
          have HG18 : Hid (W1.grownBy w8 (some (w.heap.size + 1))) := grown_new (grown_trans HG3.out (grown_none (World.grownBy_alloc _ _ none))) HG8.out (fun q hq => (hA.lt q hq).1)
          have HB8 : Hid (Below w.heap.size w w8) := (HB3.out.alloc (by rw [hs3]; omega) _).grown HG8.out (by simp; omega) (fun q hq => by have := (hA.lt q hq).1; omega)
          have HX8 : Hid (w8.heap[w.heap.size]? = some (.cells #[.slice a C.length cap, .int .i64 loops, .slice (some ⟨gF, 0, none⟩) (2 * C.length + 1) cF, .slice (some ⟨gT, 0, none⟩) (2 * C.length + 1) cT] 61 (0, 0))) := (HG18.out.block _ (by omega) (fun e => by have := Option.some.inj e; omega)).trans HK.out.box
          have HD8 : Hid (Dr w8 a cap C gF gT) := HD.out.on HB8.out
          clear hA hS hg8 hown8 e0 z0
          go_wp2_with (go_at_call 97; refine (ahead_any a cap C loops gF cF gT cT x _ HM.out hx1 hx2 HD8.out).mono ?_; rintro e9 w9 ⟨rfl, hb9⟩; refine Hid.out ?_)
          refine Lib.hid ?_
          have HB9 : Hid (Below w8.heap.size w8 w9) := hb9
          clear hb9
          obtain ⟨hn1, hn2⟩ := HX.out
          obtain ⟨y, hy⟩ : ∃ y, nx C x = y := ⟨_, rfl⟩
          rw [hy] at hn1 hn2 HWK ⊢
          have hg9 : w8.grownBy w9 none := grown_below HB9.out none
          go_wp2
          go_roundw
          case rel => exact ⟨f - 1, seen.set x true, y, acc ++ [x], rfl, hn1, hn2, (hwk.out.trans HWK.out.1 : walkF (nx C) (2 * C.length + 1) (walksTo (nx C) (2 * C.length) i).2 j0 [] = _), HWK.out.2, by simpa using hsl, (by have := hac.out; have := HUS.out; rw [List.length_append]; simp only [List.length_cons, List.length_nil]; omega : (acc ++ [x]).length + unseen (seen.set x true) ≤ 2 * C.length + 1), own_any HO8.out hg9, own_any HS8.out hg9, grown_new HG18.out hg9 (fun q hq => by cases hq), HB8.out.trans (HB9.out.mono HB8.out.size)⟩
          case measure =>
            obtain ⟨a8, c8, e8⟩ := own_capS HO8.out
            rw [e8]
            simp only [lenOf, List.length_append, List.length_cons, List.length_nil]
            omega
        | true =>
          rw [hbit] at e0
          have HWT : Hid (walksTo (nx C) (2 * C.length) (i + 1) = (if acc = [] then (walksTo (nx C) (2 * C.length) i).1 else (walksTo (nx C) (2 * C.length) i).1 ++ [acc], seen)) := walksTo_next (by rw [← hji.out]; exact hwk.out.trans (walkF_seen hbit))
          have hlz : zs.length ≤ i := by rw [HK.out.len]; exact HCT.out
          have HX3 : Hid (W3.heap[w.heap.size]? = some (.cells #[.slice a C.length cap, .int .i64 loops, .slice (some ⟨gF, 0, none⟩) (2 * C.length + 1) cF, .slice (some ⟨gT, 0, none⟩) (2 * C.length + 1) cT] 61 (0, 0))) := (hgr.block _ (by omega) (fun e => by have := Option.some.inj e; omega)).trans HK.out.box
          have hrows := HK.out.rows.kept hgr (own_ne HK.out.rows HK.out.seen (by decide))
          have HEA : Hid (∀ j, j < zs.length → W3.ownsRow (w.heap.size + 1) 3 1 (zs.getD j (.bool false)) ((walksTo (nx C) (2 * C.length) i).1.getD j []).length (nats ((walksTo (nx C) (2 * C.length) i).1.getD j []))) := fun j hj => (HK.out.each j hj).kept hgr (own_ne (HK.out.each j hj) HK.out.seen (by decide))
          have hlen := HK.out.len
          by_cases hz : acc = []
          · subst hz
            rw [if_pos rfl] at HWT
            go_wp2
            go_roundw
            case rel =>
              refine ⟨i + 1, j0 + 1, zs, by omega, (by have := hji.out; omega : j0 + 1 = i + 1 + 1), by go_num, ?_⟩
              rw [HWT.out]
              exact ⟨HX3.out, hsd, hlen, hrows, HEA.out, hbl⟩
            case measure => simp only [intOf]; omega
          · rw [if_neg hz] at HWT
            have hpos : 0 < acc.length := List.length_pos_iff.2 hz
            have HON : Hid (∀ u ∈ [Value.slice a6 acc.length c6], u.oneCell' = true) := own_oneS hown
            have HRW : Hid (W3.ownsRow (w.heap.size + 1) 46 1 _ zs.length zs) := hrows
            have HOW : Hid (W3.ownsRow (w.heap.size + 1) 3 1 (.slice a6 acc.length c6) acc.length (nats acc)) := own_low hown (by omega)
            have HSD : Hid (W3.ownsRow (w.heap.size + 1) 4 1 (.slice (some ⟨w.heap.size + 1, 0, none⟩) (2 * C.length + 1) (2 * C.length + 1)) (2 * C.length + 1) (bools seen)) := hsd
            have HBL : Hid (Below w.heap.size w W3) := hbl
            clear hrows hown hsd hbl
            have hdp : decide (0 < (acc.length : Int)) = true := by simp; omega
            have hdp2 : decide (0 < acc.length) = true := by simp; omega
            go_wp2_with (first
              | (at_builtin; refine wpList_append_own _ rfl _ _ 49 rfl (w.heap.size + 1) 46 i1 (.slice none 0 0) 1 24 Try.underlying49 hj hy0 hy1 hy2 rfl (by decide) _ _ _ rfl (HRW.out.alloc _) ⟨W3.heap.size, 0, none⟩ 1 1 [Value.slice a6 acc.length c6] rfl rfl (new_cell1 _ _ _) HON.out (by unfold maxLen; omega) (by omega) (by simp; omega) ?_; intro v8 w8 hown8 hg8 _; go_frame))
            go_roundw
            case rel =>
              have hR := HRW.out.alloc (.cells #[Value.slice a6 acc.length c6] 46)
              have hO := HOW.out.alloc (.cells #[Value.slice a6 acc.length c6] 46)
              have hS := HSD.out.alloc (.cells #[Value.slice a6 acc.length c6] 46)
              refine ⟨i + 1, j0 + 1, zs ++ [Value.slice a6 acc.length c6], by omega, (by have := hji.out; omega : j0 + 1 = i + 1 + 1), by go_num, ?_⟩
              rw [HWT.out]
              refine ⟨?_, hS.kept hg8 (own_ne hS hR (by decide)), by simp [hlen], by rw [List.length_append]; exact hown8, fun j hjl => ?_, (HBL.out.alloc (by omega) _).grown hg8 (by simp; omega) (fun q hq => by have := (hR.lt q hq).1; omega)⟩
              · refine (hg8.block _ (by simp; omega) (fun e => by have := (hR.lt _ e.symm).1; omega)).trans (alloc_old HX3.out)
              · by_cases hjk : j < zs.length
                · have e1 : ((walksTo (nx C) (2 * C.length) i).1 ++ [acc]).getD j [] = (walksTo (nx C) (2 * C.length) i).1.getD j [] := by rw [List.getD_eq_getElem?_getD, List.getD_eq_getElem?_getD, List.getElem?_append_left (by omega)]
                  rw [getD_left zs _ j hjk, e1]
                  have h1 := (HEA.out j hjk).alloc (.cells #[Value.slice a6 acc.length c6] 46)
                  exact h1.kept hg8 (own_ne h1 hR (by decide))
                · have ej : j = zs.length := by simp at hjl; omega
                  have e1 : ((walksTo (nx C) (2 * C.length) i).1 ++ [acc]).getD j [] = acc := by rw [ej, hlen]; simp [List.getD]
                  have e2 : (zs ++ [Value.slice a6 acc.length c6]).getD j (.bool false) = Value.slice a6 acc.length c6 := by rw [ej]; exact getD_last zs _
                  rw [e1, e2]
                  exact hO.kept hg8 (own_ne hO hR (by decide))
            case measure => simp only [intOf]; omega
    · obtain rfl : i = 2 * C.length := by omega
      obtain rfl : j0 = 2 * C.length + 1 := hji.out
      go_wp2
      go_ret
      exact ⟨_, rfl, ⟨zs, by rw [HWM.out]; exact HK.out.len, own_low HK.out.rows (by omega), fun j hj => by rw [HWM.out] at hj ⊢; exact own_low (HK.out.each j (by rw [HK.out.len]; exact hj)) (by omega)⟩, HK.out.bel⟩

set_option maxHeartbeats 4000000 in
set_option maxRecDepth 100000 in
theorem walks_any (a : Option Addr) (cap : Nat) (C : List Cr) (loops : Int) (gF cF gT cT : Nat) (w : World) (hm : mayD C loops = true) (hD : Dr w a cap C gF gT) :
    Calls Try.prog 72 #[drV a cap C loops gF cF gT cT] w fun e w' => ∃ v, e = .returned v ∧ NatsOwn w' w.heap.size v (walksM C) ∧ Below w.heap.size w w' := by
  have hmf : ∀ (fn : Fn) (first cap : Array Value) (w : World), (Instr.makeFunc fn first cap).run Try.prog w = .ok (.func fn first cap) w := fun _ _ _ _ => rfl
  have HM : Hid (mayD C loops = true) := hm
  have HB0 : Hid (Below w.heap.size w (w.alloc (.cells #[.slice a C.length cap, .int .i64 loops, .slice (some ⟨gF, 0, none⟩) (2 * C.length + 1) cF, .slice (some ⟨gT, 0, none⟩) (2 * C.length + 1) cT] 61))) := (Below.refl _ _).alloc (Nat.le_refl _) _
  have HD : Hid (Dr (w.alloc (.cells #[.slice a C.length cap, .int .i64 loops, .slice (some ⟨gF, 0, none⟩) (2 * C.length + 1) cF, .slice (some ⟨gT, 0, none⟩) (2 * C.length + 1) cT] 61)) a cap C gF gT) := hD.on HB0.out
  clear hm hD
  unfold drV
  go_enter Try.func72, Try.ntmps72
  go_wp2_with (go_at_call 96; refine (arcRings_ahead a cap C loops gF cF gT cT _ HM.out HD.out).mono ?_; rintro e9 w4 ⟨v, rfl, hn4, hb4⟩)
  go_ret
  exact ⟨v, rfl, hn4.low (by simp), HB0.out.trans (hb4.mono (by simp))⟩
end Go.Proofs.Ytagaajlbkfkaiaa
/- Plain mathematics: overpasses; labels that are merged edge by edge come to the least of what is joined. -/
namespace Go.Proofs.Ytagaajlbkfkaiaa

/-- Two labels made one: the higher is called as the lower. -/
def mer (W : List Nat) (x y : Nat) : List Nat := W.map fun z => if z = max (W.getD x 0) (W.getD y 0) then min (W.getD x 0) (W.getD y 0) else z
theorem mer_len (W : List Nat) (x y : Nat) : (mer W x y).length = W.length := by simp [mer]
theorem mer_at (W : List Nat) (x y v : Nat) (hv : v < W.length) : (mer W x y).getD v 0 = if W.getD v 0 = max (W.getD x 0) (W.getD y 0) then min (W.getD x 0) (W.getD y 0) else W.getD v 0 := by
  simp [mer, List.getD_eq_getElem?_getD, hv]
theorem mer_least {F : List (Nat × Nat)} {n : Nat} {W : List Nat} (h : Least F n W) (x y : Nat) (hx : x < n) (hy : y < n) (hF : ∀ e, e ∈ F → e.1 < n ∧ e.2 < n) : Least (F ++ [(x, y)]) n (mer W x y) := by
  obtain ⟨hl, h2⟩ := h
  have up : ∀ {u v : Nat}, Con F u v → Con (F ++ [(x, y)]) u v := fun hc S hS hu => hc S (fun e he => hS e (List.mem_append_left _ he)) hu
  have hxy : Con (F ++ [(x, y)]) x y := Con.edge (List.mem_append_right _ (List.Mem.head _))
  have lx := up (h2 x hx).1
  have ly := up (h2 y hy).1
  have hWW : Con (F ++ [(x, y)]) (W.getD x 0) (W.getD y 0) := lx.symm.trans (hxy.trans ly)
  have hmm : Con (F ++ [(x, y)]) (max (W.getD x 0) (W.getD y 0)) (min (W.getD x 0) (W.getD y 0)) := by
    rcases Nat.le_total (W.getD x 0) (W.getD y 0) with hle | hle
    · rw [Nat.max_eq_right hle, Nat.min_eq_left hle]; exact hWW.symm
    · rw [Nat.max_eq_left hle, Nat.min_eq_right hle]; exact hWW
  have hcon : ∀ v, v < n → Con (F ++ [(x, y)]) v ((mer W x y).getD v 0) := fun v hv => by
    rw [mer_at W x y v (by omega)]
    split
    · rename_i he
      have := up (h2 v hv).1
      rw [he] at this
      exact this.trans hmm
    · exact up (h2 v hv).1
  have hle : ∀ v, v < n → (mer W x y).getD v 0 ≤ v := fun v hv => by
    have h3 := (h2 v hv).2 v (Con.refl F v)
    rw [mer_at W x y v (by omega)]
    split
    · rename_i he; omega
    · exact h3
  refine ⟨by rw [mer_len]; exact hl, fun v hv => ⟨hcon v hv, fun u hu => ?_⟩⟩
  have hcl : Closed (F ++ [(x, y)]) (fun z => z < n ∧ (mer W x y).getD z 0 = (mer W x y).getD v 0) := fun e he => by
    rcases List.mem_append.1 he with h4 | h4
    · obtain ⟨e1, e2⟩ := hF e h4
      have hs : W.getD e.1 0 = W.getD e.2 0 := by
        have c : Con F e.1 e.2 := Con.edge (by cases e; exact h4)
        exact Nat.le_antisymm ((h2 _ e1).2 _ (c.trans (h2 _ e2).1)) ((h2 _ e2).2 _ (c.symm.trans (h2 _ e1).1))
      have hm : (mer W x y).getD e.1 0 = (mer W x y).getD e.2 0 := by
        rw [mer_at W x y _ (by omega), mer_at W x y _ (by omega), hs]
      show (e.1 < n ∧ (mer W x y).getD e.1 0 = _) ↔ (e.2 < n ∧ (mer W x y).getD e.2 0 = _)
      rw [hm]; exact ⟨fun q => ⟨e2, q.2⟩, fun q => ⟨e1, q.2⟩⟩
    · have : e = (x, y) := by simpa using h4
      subst this
      have hm : (mer W x y).getD x 0 = (mer W x y).getD y 0 := by
        rw [mer_at W x y _ (by omega), mer_at W x y _ (by omega)]
        split <;> split <;> omega
      show (x < n ∧ (mer W x y).getD x 0 = _) ↔ (y < n ∧ (mer W x y).getD y 0 = _)
      rw [hm]; exact ⟨fun q => ⟨hy, q.2⟩, fun q => ⟨hx, q.2⟩⟩
  obtain ⟨a1, a2⟩ := hu _ hcl ⟨hv, rfl⟩
  rw [← a2]
  exact hle u a1
def mers (W : List Nat) : List (Nat × Nat) → List Nat
  | [] => W
  | e :: E => mers (mer W e.1 e.2) E
theorem mers_app (W : List Nat) (E F : List (Nat × Nat)) : mers W (E ++ F) = mers (mers W E) F := by
  induction E generalizing W with
  | nil => rfl
  | cons e E ih => exact ih _
theorem least_nil (n : Nat) : Least [] n (List.range n) := by
  refine ⟨by simp, fun v hv => ?_⟩
  have e : (List.range n).getD v 0 = v := by simp [List.getD_eq_getElem?_getD, hv]
  rw [e]
  exact ⟨Con.refl _ v, fun u hu => by
    have := hu (fun z => z = v) (fun e he => by cases he) rfl
    omega⟩
theorem mers_least (n : Nat) : ∀ (E F : List (Nat × Nat)) (W : List Nat), (∀ e, e ∈ F ++ E → e.1 < n ∧ e.2 < n) → Least F n W → Least (F ++ E) n (mers W E) := by
  intro E
  induction E with
  | nil => intro F W _ h; simpa [mers] using h
  | cons e E ih =>
    intro F W hE h
    obtain ⟨e1, e2⟩ := hE e (by simp)
    have h' := mer_least h e.1 e.2 e1 e2 (fun f hf => hE f (List.mem_append_left _ hf))
    have := ih (F ++ [(e.1, e.2)]) _ (fun f hf => hE f (by simpa using hf)) h'
    simpa [mers] using this

/-- The lowest of an overpass is the lowest of its own. -/
theorem Least.root {E : List (Nat × Nat)} {n : Nat} {W : List Nat} (h : Least E n W) {v : Nat} (hv : v < n) : W.getD (W.getD v 0) 0 = W.getD v 0 := (h.same (h.lt hv) hv).2 (h.2 v hv).1.symm
theorem Least.le {E : List (Nat × Nat)} {n : Nat} {W : List Nat} (h : Least E n W) {v : Nat} (hv : v < n) : W.getD v 0 ≤ v := (h.2 v hv).2 v (Con.refl E v)
theorem Least.pos {E : List (Nat × Nat)} {n : Nat} {W : List Nat} (h : Least E n W) (hE : ∀ e, e ∈ E → 1 ≤ e.1 ∧ 1 ≤ e.2) {v : Nat} (hv : v < n) (h1 : 1 ≤ v) : 1 ≤ W.getD v 0 := by
  have := (h.2 v hv).1 (fun z => 1 ≤ z) (fun e he => by simp [hE e he]) h1
  exact this
end Go.Proofs.Ytagaajlbkfkaiaa
/- Plain mathematics: labels merged place by place. -/
namespace Go.Proofs.Ytagaajlbkfkaiaa
open Go.RowKit

theorem cut_one {T G : Prop} (h : Hid T → G) (hT : T) : G := h hT
/-- Merged in the first k places. -/
def merTo (W : List Nat) (x y k : Nat) : List Nat := (List.range W.length).map fun v => if v < k then (mer W x y).getD v 0 else W.getD v 0
theorem merTo_len (W : List Nat) (x y k : Nat) : (merTo W x y k).length = W.length := by simp [merTo]
theorem merTo_at (W : List Nat) (x y k v : Nat) (hv : v < W.length) : (merTo W x y k).getD v 0 = if v < k then (mer W x y).getD v 0 else W.getD v 0 := by simp [merTo, List.getD_eq_getElem?_getD, hv]
theorem getD_ext {l m : List Nat} (h : l.length = m.length) (g : ∀ v, v < l.length → l.getD v 0 = m.getD v 0) : l = m := by
  refine List.ext_getElem h fun i h1 h2 => ?_
  have := g i h1
  simpa [List.getD_eq_getElem?_getD, h1, h2] using this
theorem merTo_zero (W : List Nat) (x y : Nat) : merTo W x y 0 = W := getD_ext (merTo_len _ _ _ _) fun v hv => by
  rw [merTo_len] at hv; rw [merTo_at _ _ _ _ _ hv, if_neg (by omega)]
theorem merTo_all (W : List Nat) (x y : Nat) : merTo W x y W.length = mer W x y := getD_ext (by rw [merTo_len, mer_len]) fun v hv => by
  rw [merTo_len] at hv; rw [merTo_at _ _ _ _ _ hv, if_pos hv]
theorem merTo_next (W : List Nat) (x y k z : Nat) (hk : k < W.length) (hz : (mer W x y).getD k 0 = z) : (merTo W x y k).set k z = merTo W x y (k + 1) := getD_ext (by simp [merTo_len]) fun v hv => by
  have hv' : v < W.length := by simpa [merTo_len] using hv
  rw [getD_set _ _ _ _ (by rw [merTo_len]; exact hk), merTo_at _ _ _ _ _ hv', merTo_at _ _ _ _ _ hv']
  by_cases e : v = k
  · subst e; rw [if_pos rfl, if_pos (by omega), hz]
  · rw [if_neg e]
    by_cases h2 : v < k
    · rw [if_pos h2, if_pos (by omega)]
    · rw [if_neg h2, if_neg (by omega)]
theorem merTo_same (W : List Nat) (x y k : Nat) (hk : k < W.length) (hz : (mer W x y).getD k 0 = W.getD k 0) : merTo W x y k = merTo W x y (k + 1) := getD_ext (by simp [merTo_len]) fun v hv => by
  have hv' : v < W.length := by simpa [merTo_len] using hv
  rw [merTo_at _ _ _ _ _ hv', merTo_at _ _ _ _ _ hv']
  by_cases e : v = k
  · subst e; rw [if_neg (by omega), if_pos (by omega), hz]
  · by_cases h2 : v < k
    · rw [if_pos h2, if_pos (by omega)]
    · rw [if_neg h2, if_neg (by omega)]
theorem mers_len (E : List (Nat × Nat)) : ∀ W : List Nat, (mers W E).length = W.length := by
  induction E with
  | nil => intro W; rfl
  | cons e E ih => intro W; rw [mers, ih, mer_len]
end Go.Proofs.Ytagaajlbkfkaiaa
/- The walks of ref.DiagramOf and gauss.Strands; rows that are the same. -/
namespace Go.Proofs.Ytagaajlbkfkaiaa
open Go.RowKit

/-- The crossings as cells, one behind the other. -/
def crossCells (C : List Cr) : List Value := C.flatMap fun x => [.int .i64 x.a, .int .i64 x.b, .int .i64 x.c, .int .i64 x.d, .bool x.plus]
theorem cells_length (C : List Cr) : (crossCells C).length = C.length * 5 := by
  induction C with
  | nil => rfl
  | cons t l ih => simp [crossCells] at *; omega
theorem cells_get (C : List Cr) (i : Nat) (hi : i < C.length) : (crossCells C)[i * 5]? = some (.int .i64 (C.getD i Cr.none).a) ∧ (crossCells C)[i * 5 + 1]? = some (.int .i64 (C.getD i Cr.none).b) ∧ (crossCells C)[i * 5 + 2]? = some (.int .i64 (C.getD i Cr.none).c) ∧ (crossCells C)[i * 5 + 3]? = some (.int .i64 (C.getD i Cr.none).d) ∧ (crossCells C)[i * 5 + 4]? = some (.bool (C.getD i Cr.none).plus) := by
  induction C generalizing i with
  | nil => simp at hi
  | cons t l ih =>
    have e : crossCells (t :: l) = .int .i64 t.a :: .int .i64 t.b :: .int .i64 t.c :: .int .i64 t.d :: .bool t.plus :: crossCells l := rfl
    cases i with
    | zero => rw [e]; exact ⟨rfl, rfl, rfl, rfl, rfl⟩
    | succ i =>
      have := ih i (by simpa using hi)
      have e1 : (i + 1) * 5 = i * 5 + 1 + 1 + 1 + 1 + 1 := by omega
      rw [e, e1]
      exact this
theorem cells_one (C : List Cr) : ∀ u ∈ crossCells C, u.oneCell' = true := by
  intro u hu
  simp only [crossCells, List.mem_flatMap] at hu
  obtain ⟨t, _, ht⟩ := hu
  simp at ht
  rcases ht with rfl | rfl | rfl | rfl | rfl <;> rfl
theorem crs_own {w : World} {B e : Nat} {v : Value} {C : List Cr} (h : w.ownsRow B e 5 v C.length (crossCells C)) (hn : C.length ≤ maxLen) : Crs w w.heap.size v C := by
  have h0 := h
  rcases h.2 with ⟨rfl, h1⟩ | ⟨g, cap, cur, rfl, _, _, _⟩
  · exact ⟨none, 0, by rw [h1], hn, fun hp => by omega⟩
  · refine ⟨some ⟨g, 0, none⟩, cap, rfl, hn, fun _ => ⟨g, 0, rfl, (h0.lt g rfl).2, fun i hi => ?_⟩⟩
    have g0 := cells_get C i hi
    rw [Nat.zero_add]
    exact ⟨(h0.cellAt (i * 5) (by omega)).trans g0.1, (h0.cellAt (i * 5 + 1) (by omega)).trans g0.2.1, (h0.cellAt (i * 5 + 2) (by omega)).trans g0.2.2.1, (h0.cellAt (i * 5 + 3) (by omega)).trans g0.2.2.2.1, (h0.cellAt (i * 5 + 4) (by omega)).trans g0.2.2.2.2⟩
/-- A slice of crossings as it is handed in. -/
def CrsW (w : World) (B : Nat) (v : Value) (C : List Cr) : Prop :=
  (v = .slice none 0 0 ∧ C = []) ∨ (∃ ad cap, v = .slice (some ad) 0 cap ∧ C = []) ∨ ∃ b off cap, v = .slice (some ⟨b, off, none⟩) C.length cap ∧ b < B ∧ CrossAt w b off C
theorem CrsW.crs {w : World} {B : Nat} {v : Value} {C : List Cr} (h : CrsW w B v C) (hn : C.length ≤ maxLen) : Crs w B v C := by
  rcases h with ⟨rfl, rfl⟩ | ⟨ad, cap, rfl, rfl⟩ | ⟨b, off, cap, rfl, hlt, hC⟩
  · exact ⟨none, 0, rfl, hn, fun hp => by simp at hp⟩
  · exact ⟨some ad, cap, rfl, hn, fun hp => by simp at hp⟩
  · exact ⟨some ⟨b, off, none⟩, cap, rfl, hn, fun _ => ⟨b, off, rfl, hlt, hC⟩⟩
theorem CrsW.up {w w' : World} {v : Value} {C : List Cr} (h : CrsW w w.heap.size v C) (hb : Below w.heap.size w w') : CrsW w' w'.heap.size v C := by
  rcases h with h | h | ⟨b, off, cap, hv, hlt, hC⟩
  · exact Or.inl h
  · exact Or.inr (Or.inl h)
  · exact Or.inr (Or.inr ⟨b, off, cap, hv, Nat.lt_of_lt_of_le hlt hb.size, hC.on hb hlt⟩)
theorem infoCross : (Try.prog.info? 71).map (fun i => (i.zero, i.size, i.bytes)) = some (some (.agg #[.int .i64 0, .int .i64 0, .int .i64 0, .int .i64 0, .bool false]), 5, 40) := by kernel_rfl

theorem own_terms {w : World} {B e n g c : Nat} {l : List (Int × Int)} (h : w.ownsRow B e 2 (.slice (some ⟨g, 0, none⟩) n c) n (flat l)) (hl : l.length = n) : TermsAt w g 0 l := by
  intro i hi
  have g0 := flat_get l i hi
  rw [Nat.zero_add]
  exact ⟨(h.cellAt (i * 2) (by omega)).trans g0.1, (h.cellAt (i * 2 + 1) (by omega)).trans g0.2⟩
/-- What drawing.Of answered is a drawing. -/
theorem Drawn.dr {w w' : World} {a : Option Addr} {cap : Nat} {loops : Int} {C : List Cr} {D : Value} (h : Drawn w w' w.heap.size (.slice a C.length cap) loops C D) (hm : mayD C loops = true) (hb : Below w.heap.size w w') (hC : Crs w w.heap.size (.slice a C.length cap) C) :
    ∃ gF cF gT cT, D = drV a cap C loops gF cF gT cT ∧ Dr w' a cap C gF gT := by
  obtain ⟨gF, cF, gT, cT, rfl, h1, h2⟩ := h.yes hm
  exact ⟨gF, cF, gT, cT, rfl, hC.up hb, (h1.lt gF rfl).2, (h2.lt gT rfl).2, own_terms h1 (ends_length _ _ _ _), own_terms h2 (ends_length _ _ _ _)⟩

set_option maxHeartbeats 2000000 in
set_option maxRecDepth 100000 in
theorem strands_yes (v : Value) (C : List Cr) (loops : Int) (w : World) (hm : mayD C loops = true) (h : Crs w w.heap.size v C) :
    Calls Try.prog 47 #[.agg #[v, .int .i64 loops]] w fun e w' => ∃ r, e = .returned (.tuple #[r, .int .i64 0]) ∧ NatsOwn w' w.heap.size r (walksM C) ∧ Below w.heap.size w w' := by
  have HC : Hid (Crs w w.heap.size v C) := h
  have HM : Hid (mayD C loops = true) := hm
  obtain ⟨a, cap, rfl, hn, -⟩ := h
  have HB1 : Hid (Below w.heap.size w (w.alloc (.cells #[.slice a C.length cap, .int .i64 loops] 24))) := (Below.refl _ _).alloc (Nat.le_refl _) _
  go_enter Try.func47, Try.ntmps47
  go_wp2_with (go_at_call 50; refine (of_any _ C loops _ (HC.out.up HB1.out)).mono ?_; rw [hm]; rintro e9 w2 ⟨d, rfl, hb2, hd⟩; obtain ⟨gF, cF, gT, cT, rfl, hdr⟩ := hd.dr HM.out hb2 (HC.out.up HB1.out); refine Hid.out ?_)
  refine Lib.hid ?_
  have HDR : Hid (Dr w2 a cap C gF gT) := hdr
  unfold drV
  have HB2 : Hid (Below w.heap.size w w2) := HB1.out.trans (hb2.mono HB1.out.size)
  have HBA : Hid (Below w2.heap.size w2 (w2.alloc (.cells #[.slice a C.length cap, .int .i64 loops, .slice (some ⟨gF, 0, none⟩) (2 * C.length + 1) cF, .slice (some ⟨gT, 0, none⟩) (2 * C.length + 1) cT] 61))) := (Below.refl _ _).alloc (Nat.le_refl _) _
  clear hb2 hd hdr hm
  go_wp2_with (go_at_call 72; refine (walks_any a cap C loops gF cF gT cT _ HM.out (HDR.out.on HBA.out)).mono ?_; rintro e9 w3 ⟨r, rfl, hr, hb3⟩; refine Hid.out ?_)
  refine Lib.hid ?_
  have HR : Hid (NatsOwn w3 w.heap.size r (walksM C)) := hr.low (by have := HB2.out.size; simp; omega)
  have HB3 : Hid (Below w.heap.size w w3) := (HB2.out.trans (HBA.out.mono HB2.out.size)).trans (hb3.mono (by have := HB2.out.size; simp; omega))
  clear hr hb3
  go_wp2
  go_ret2
  exact ⟨_, rfl, HR.out, HB3.out⟩
end Go.Proofs.Ytagaajlbkfkaiaa
/- A row that is taken from at its head and appended to at its end: in the world, and the step of append upon it. -/
namespace Go.Proofs.Ytagaajlbkfkaiaa
open Go.RowKit

/-- A row of one-celled values of the call's own, that begins somewhere in its block. -/
def QueAt (w : World) (base : Nat) (e : TypeId) (v : Value) (xs : List Value) : Prop :=
  ∃ g off cap cur, v = .slice (some ⟨g, off, none⟩) xs.length cap ∧ base ≤ g ∧ w.heap[g]? = some (.cells cur e (0, 0)) ∧ xs.length ≤ cap ∧ cap ≤ maxLen ∧ off + cap ≤ cur.size ∧ (cur.toList.drop off).take xs.length = xs
theorem QueAt.kept {w w' : World} {base : Nat} {e : TypeId} {v : Value} {xs : List Value} {row : Option Nat} (h : QueAt w base e v xs) (hg : w.grownBy w' row) (hne : v.ownBlock ≠ row) : QueAt w' base e v xs := by
  obtain ⟨g, off, cap, cur, rfl, hb, hgg, rest⟩ := h
  refine ⟨g, off, cap, cur, rfl, hb, ?_, rest⟩
  rw [hg.block g (Array.getElem?_eq_some_iff.1 hgg).1 (by simpa [Value.ownBlock] using hne)]
  exact hgg
theorem QueAt.lt {w : World} {base : Nat} {e : TypeId} {v : Value} {xs : List Value} (h : QueAt w base e v xs) : ∀ k, v.ownBlock = some k → base ≤ k ∧ k < w.heap.size := by
  intro k hk
  obtain ⟨g, off, cap, cur, rfl, hb, hgg, rest⟩ := h
  have e := Option.some.inj hk
  have e2 : g = k := e
  subst e2
  exact ⟨hb, (Array.getElem?_eq_some_iff.1 hgg).1⟩
theorem QueAt.shape {w : World} {base : Nat} {e : TypeId} {v : Value} {xs : List Value} (h : QueAt w base e v xs) : ∃ g off cap, v = .slice (some ⟨g, off, none⟩) xs.length cap ∧ xs.length ≤ cap := by
  obtain ⟨g, off, cap, cur, rfl, _, _, h2, _⟩ := h
  exact ⟨g, off, cap, rfl, h2⟩
theorem QueAt.size {w : World} {base g off n cap : Nat} {e : TypeId} {xs : List Value} (h : QueAt w base e (.slice (some ⟨g, off, none⟩) n cap) xs) : n = xs.length ∧ n ≤ cap ∧ cap ≤ maxLen ∧ base ≤ g ∧ g < w.heap.size := by
  obtain ⟨g', off', cap', cur, ev, hb, hgg, h1, h2, _⟩ := h
  injection ev with e1 e2 e3
  injection e1 with e1
  injection e1 with e4 e5
  subst e4 e2 e3
  exact ⟨rfl, h1, h2, hb, (Array.getElem?_eq_some_iff.1 hgg).1⟩
theorem QueAt.cell {w : World} {base g off n cap : Nat} {e : TypeId} {xs : List Value} (h : QueAt w base e (.slice (some ⟨g, off, none⟩) n cap) xs) (j : Nat) (u : Value) (hj : xs[j]? = some u) : w.cell? ⟨g, off + j, none⟩ = some u := by
  obtain ⟨g', off', cap', cur, ev, hb, hgg, h1, h2, h3, h4⟩ := h
  injection ev with e1 e2 e3
  injection e1 with e1
  injection e1 with e4 e5
  subst e4 e5
  rw [cell_of_row w g _ cur e (0, 0) hgg]
  rw [← h4, List.getElem?_take] at hj
  split at hj
  · rw [List.getElem?_drop] at hj
    simpa using hj
  · cases hj
/-- Its first is taken away. -/
theorem QueAt.tail {w : World} {base g off n cap : Nat} {e : TypeId} {x : Value} {xs : List Value} (h : QueAt w base e (.slice (some ⟨g, off, none⟩) n cap) (x :: xs)) : QueAt w base e (.slice (some ⟨g, off + 1, none⟩) (n - 1) (cap - 1)) xs := by
  obtain ⟨g', off', cap', cur, ev, hb, hgg, h1, h2, h3, h4⟩ := h
  injection ev with e1 e2 e3
  injection e1 with e1
  injection e1 with e4 e5
  subst e4 e5 e3
  simp only [List.length_cons] at e2 h1 h4
  refine ⟨g, off + 1, cap - 1, cur, by rw [e2]; simp, hb, hgg, by omega, by omega, by omega, ?_⟩
  have h5 : ((cur.toList.drop off).take (xs.length + 1)).drop 1 = xs := by rw [h4]; rfl
  rw [List.drop_take, List.drop_drop] at h5
  simpa using h5
/-- Its only one is taken away, and there is no room behind it. -/
theorem QueAt.tail1 {w : World} {base g off n : Nat} {e : TypeId} {x : Value} {xs : List Value} (h : QueAt w base e (.slice (some ⟨g, off, none⟩) n 1) (x :: xs)) : QueAt w base e (.slice (some ⟨g, off, none⟩) (n - 1) 0) xs ∧ xs = [] := by
  obtain ⟨g', off', cap', cur, ev, hb, hgg, h1, h2, h3, h4⟩ := h
  injection ev with e1 e2 e3
  injection e1 with e1
  injection e1 with e4 e5
  subst e4 e5 e3
  simp only [List.length_cons] at e2 h1 h4
  have hx : xs = [] := List.length_eq_zero_iff.1 (by omega)
  subst hx
  exact ⟨⟨g, off, 0, cur, by rw [e2]; simp, hb, hgg, Nat.zero_le _, Nat.zero_le _, by omega, by simp⟩, rfl⟩
theorem QueAt.made {w : World} {base g n cap : Nat} {e : TypeId} {xs : List Value} (h : w.ownsRow base e 1 (.slice (some ⟨g, 0, none⟩) n cap) n xs) : QueAt w base e (.slice (some ⟨g, 0, none⟩) n cap) xs := by
  obtain ⟨hl, h⟩ := h
  rcases h with ⟨h, _⟩ | ⟨g', cap', cur, ev, hb, hgg, h1, h2, h3, h4⟩
  · cases h
  · injection ev with e1 e2 e3
    injection e1 with e1
    injection e1 with e4
    subst e4 e3
    rw [Nat.mul_one] at hl h3 h4
    exact ⟨g, 0, cap, cur, by rw [hl], hb, hgg, by omega, h2, by omega, by rw [hl]; simpa using h4⟩

theorem run_append_que {P : Program} (w : World) (base : Nat) (t ty e : TypeId) (i : TypeInfo) (z : Value) (bytes : Nat) (ht : P.underlying t = some (.slice e)) (hi : P.info? e = some i) (hz : i.zero = some z)
    (hsize : i.size = 1) (hby : i.bytes = bytes) (hzs : z.cells.size = 1)
    (v : Value) (xs : List Value) (hown : QueAt w base e v xs)
    (a : Addr) (c : Nat) (u : Value) (hnews : w.cell? a = some u) (h1 : u.oneCell' = true)
    (h63 : xs.length + 1 ≤ maxLen) (hbytes : (xs.length + 1) * bytes ≤ 140737488355328) (hbase : base ≤ w.heap.size) :
    ∃ v' w', (Builtin.append_ #[t, t] ty #[v, .slice (some a) 1 c]).run P w = .ok v' w' ∧ QueAt w' base e v' (xs ++ [u]) ∧ w.grownBy w' v.ownBlock := by
  subst hby
  have hsmall : xs.length + 1 ≤ 9223372036854775807 := by simp only [maxLen] at h63; omega
  have hl : [u].length = 1 * i.size := by rw [hsize]; rfl
  have hcells : ∀ j v, [u][j]? = some v → w.cell? (a.add j) = some v := by
    intro j v hj
    cases j with
    | zero =>
      have e : v = u := by simpa using hj.symm
      subst e
      have ha : a.add 0 = a := by unfold Addr.add; split <;> simp_all
      rw [ha]
      exact hnews
    | succ j => simp at hj
  obtain ⟨g, off, cap, cur, rfl, hb, hgg, hnc, hcm, hcs, htake⟩ := hown
  by_cases hroom : xs.length + 1 ≤ cap
  · have hf := run_firstCells_some (P := P) w i.size 1 a 1 c [u] hl hcells
    have hst := run_storeCells_at P g (off + xs.length) e [u] 0 cur w hgg (by simp; omega) (by simpa using h1)
    simp only [Nat.add_zero] at hst
    refine ⟨.slice (some ⟨g, off, none⟩) (xs.length + 1) cap, w.setRow g (cur.toList.take (off + xs.length) ++ [u] ++ cur.toList.drop (off + xs.length + [u].length)).toArray, ?_, ⟨g, off, cap, _, by simp, hb, setRow_heap w g cur _ e _ hgg, by simpa using hroom, hcm, ?_, ?_⟩, ⟨rfl, rfl, rfl, by simp, fun k _ hk => setRow_other w g k _ (fun e => hk (by simp [Value.ownBlock, e]))⟩⟩
    · rw [hsize] at hf
      simp [Builtin.append_, run_underlying ht, sizeOf, typeInfo, hi, hsize, Builtin.lenOf, hroom, hf, Addr.add_lit]
      simp at hst
      simp [hst]
    · simp only [List.size_toArray, List.length_append, List.length_take, List.length_drop, Array.length_toList, List.length_cons, List.length_nil]
      omega
    · have h5 : (cur.toList.take (off + xs.length)).drop off = xs := by rw [List.drop_take, Nat.add_sub_cancel_left]; exact htake
      simp only [List.append_assoc]
      rw [List.drop_append_of_le_length (by simp; omega), h5, ← List.append_assoc]
      exact List.take_left
  · have holds : ∀ j v, xs[j]? = some v → w.cell? ((⟨g, off, none⟩ : Addr).add j) = some v := fun j v hj => by
      have hadd : (⟨g, off, none⟩ : Addr).add j = ⟨g, off + j, none⟩ := by unfold Addr.add; split <;> simp_all
      rw [hadd]
      exact QueAt.cell (⟨g, off, cap, cur, rfl, hb, hgg, hnc, hcm, hcs, htake⟩ : QueAt w base e (.slice (some ⟨g, off, none⟩) xs.length cap) xs) j v hj
    have hr := run_append_grow (P := P) w t ty e i z ht hi hz ⟨g, off, none⟩ xs.length cap xs (by rw [hsize, Nat.mul_one]) holds a 1 c [u] hl hcells (by omega) (by omega) (growslice_fits (by omega) hbytes)
    have hge := grownCap_ge w (xs.length + 1) cap e
    refine ⟨_, _, hr, ⟨w.heap.size, 0, _, _, by simp, hbase, heap_alloc_new w.drew _, by simpa using hge, grownCap_le_maxLen w (xs.length + 1) cap e h63, ?_, ?_⟩, ⟨rfl, rfl, rfl, by simp, fun k hk _ => Array.getElem?_push_lt hk ▸ (Array.getElem?_eq_getElem hk).symm⟩⟩
    · simp only [Array.size_append, List.size_toArray, size_zeroCells, hzs, List.length_cons, List.length_nil]
      omega
    · simp only [Array.toList_append, List.drop_zero]
      exact List.take_left

theorem wpList_append_que {P : Program} (w : World) {ops : Array Oper} {rest : List Oper} {o : Oper} {a : Act} {Q : Exit → Act → World → Prop} (hgd : o.guard = none) (s x : Operand) (t : TypeId)
    (ho : o.op = .call { callee := .builtin .append, args := #[s, x], argTypes := #[t, t] })
    (base : Nat) (e : TypeId) (i : TypeInfo) (z : Value) (bytes : Nat) (ht : P.underlying t = some (.slice e)) (hi : P.info? e = some i) (hz : i.zero = some z)
    (hsize : i.size = 1) (hby : i.bytes = bytes) (hzs : z.cells.size = 1)
    (v : Value) (xs : List Value) (hs : a.eval s = v) (hown : QueAt w base e v xs)
    (ad : Addr) (c : Nat) (u : Value) (hx : a.eval x = .slice (some ad) 1 c) (hnews : w.cell? ad = some u) (h1 : u.oneCell' = true)
    (h63 : xs.length + 1 ≤ maxLen) (hbytes : (xs.length + 1) * bytes ≤ 140737488355328) (hbase : base ≤ w.heap.size)
    (h : ∀ v' w', QueAt w' base e v' (xs ++ [u]) → w.grownBy w' v.ownBlock → wpList P ops Q rest (a.put o.dst v') w') : wpList P ops Q (o :: rest) a w := by
  refine wpList_plain hgd fun _ hK => ?_
  obtain ⟨v', w', hr, h2, h3⟩ := run_append_que (P := P) w base t o.type e i z bytes ht hi hz hsize hby hzs v xs hown ad c u hnews h1 h63 hbytes hbase
  unfold Oper.wp execOp
  simp only [ho, resolve, invoke, builtin, Sem.run_bind, Sem.run_pure, Result.andThen_ok, List.map_toArray, List.map_cons, List.map_nil, hs, hx, hr]
  exact hK _ _ (h v' w' h2 h3)
end Go.Proofs.Ytagaajlbkfkaiaa
/- The walks of Drawing.End, Drawing.Onward, way; ref.dartCode, ref.NextDart. -/
namespace Go.Proofs.Ytagaajlbkfkaiaa
open Go.RowKit

theorem Dr.endAt {w : World} {a : Option Addr} {cap : Nat} {C : List Cr} {gF gT : Nat} {loops : Int} (h : Dr w a cap C gF gT) (hm : mayD C loops = true) (x : Nat) (h1 : 1 ≤ x) (h2 : x ≤ 2 * C.length) :
    w.cell? ⟨gT, x * 2, none⟩ = some (.int .i64 (enC C x true : Nat)) ∧ w.cell? ⟨gT, x * 2 + 1, none⟩ = some (.int .i64 (enS C x true : Nat)) ∧ w.cell? ⟨gF, x * 2, none⟩ = some (.int .i64 (enC C x false : Nat)) ∧ w.cell? ⟨gF, x * 2 + 1, none⟩ = some (.int .i64 (enS C x false : Nat)) := by
  have hT := h.to x (by rw [ends_length]; omega)
  have hF := h.from_ x (by rw [ends_length]; omega)
  rw [ends_at C true C.length 0 x h1 h2, Nat.zero_add] at hT
  rw [ends_at C false C.length 0 x h1 h2, Nat.zero_add] at hF
  have e : endAh C x true C.length 0 = endTo C x true C.length := rfl
  have e2 : endAh C x false C.length 0 = endTo C x false C.length := rfl
  rw [e, (en_may hm x true h1 h2).1] at hT
  rw [e2, (en_may hm x false h1 h2).1] at hF
  exact ⟨hT.1, hT.2, hF.1, hF.2⟩

set_option maxHeartbeats 2000000 in
set_option maxRecDepth 100000 in
theorem end_any (a : Option Addr) (cap : Nat) (C : List Cr) (loops : Int) (gF cF gT cT : Nat) (x : Nat) (p : Bool) (w : World) (hm : mayD C loops = true) (h1 : 1 ≤ x) (h2 : x ≤ 2 * C.length) (hD : Dr w a cap C gF gT) :
    Calls Try.prog 78 #[drV a cap C loops gF cF gT cT, .agg #[.int .i64 x, .bool p]] w fun e w' => e = .returned (.agg #[.int .i64 (enC C x (!p) : Nat), .int .i64 (enS C x (!p) : Nat)]) ∧ Below w.heap.size w w' := by
  unfold drV
  obtain ⟨c0, c1, c2, c3⟩ := hD.endAt hm x h1 h2
  have l1 := hD.ltT
  have l2 := hD.ltF
  clear hD
  have hB3 : Below w.heap.size w (((w.alloc (.cells #[.slice a C.length cap, .int .i64 loops, .slice (some ⟨gF, 0, none⟩) (2 * C.length + 1) cF, .slice (some ⟨gT, 0, none⟩) (2 * C.length + 1) cT] 61)).alloc (.cells #[.int .i64 x, .bool p] 26)).alloc (.cells #[.int .i64 0, .int .i64 0] 120)) := below3 _ _ _ _
  have d0 := bcell hB3 l1 c0
  have d1 := bcell hB3 l1 c1
  have d2 := bcell hB3 l2 c2
  have d3 := bcell hB3 l2 c3
  clear hB3 c0 c1 c2 c3
  obtain ⟨t0, ht0⟩ : ∃ t0, enC C x true = t0 := ⟨_, rfl⟩
  obtain ⟨t1, ht1⟩ : ∃ t1, enS C x true = t1 := ⟨_, rfl⟩
  obtain ⟨f0, hf0⟩ : ∃ f0, enC C x false = f0 := ⟨_, rfl⟩
  obtain ⟨f1, hf1⟩ : ∃ f1, enS C x false = f1 := ⟨_, rfl⟩
  rw [ht0] at d0
  rw [ht1] at d1
  rw [hf0] at d2
  rw [hf1] at d3
  have hx : x < 2 * C.length + 1 := by omega
  cases p with
  | true =>
    have hG : (((w.alloc (.cells #[.slice a C.length cap, .int .i64 loops, .slice (some ⟨gF, 0, none⟩) (2 * C.length + 1) cF, .slice (some ⟨gT, 0, none⟩) (2 * C.length + 1) cT] 61)).alloc (.cells #[.int .i64 x, .bool true] 26)).alloc (.cells #[.int .i64 f0, .int .i64 f1] 120)).heap[w.heap.size + 1 + 1]? = some (.cells #[.int .i64 f0, .int .i64 f1] 120 (0, 0)) := alloc_at (by simp)
    have x0 := block_cell (i := 0) (v := .int .i64 f0) hG rfl
    have x1 := block_cell (i := 1) (v := .int .i64 f1) hG rfl
    have HB : Hid (Below w.heap.size w (((w.alloc (.cells #[.slice a C.length cap, .int .i64 loops, .slice (some ⟨gF, 0, none⟩) (2 * C.length + 1) cF, .slice (some ⟨gT, 0, none⟩) (2 * C.length + 1) cT] 61)).alloc (.cells #[.int .i64 x, .bool true] 26)).alloc (.cells #[.int .i64 f0, .int .i64 f1] 120))) := below3 _ _ _ _
    clear hG
    go_enter Try.func78, Try.ntmps78
    go_wp2
    exact bodyPost_ret (v := .agg #[.int .i64 f0, .int .i64 f1]) (by simp [results, Try.results78, go_sem, x0, x1]) rfl ⟨by simp [hf0, hf1], HB.out⟩
  | false =>
    have hG : (((w.alloc (.cells #[.slice a C.length cap, .int .i64 loops, .slice (some ⟨gF, 0, none⟩) (2 * C.length + 1) cF, .slice (some ⟨gT, 0, none⟩) (2 * C.length + 1) cT] 61)).alloc (.cells #[.int .i64 x, .bool false] 26)).alloc (.cells #[.int .i64 t0, .int .i64 t1] 120)).heap[w.heap.size + 1 + 1]? = some (.cells #[.int .i64 t0, .int .i64 t1] 120 (0, 0)) := alloc_at (by simp)
    have x0 := block_cell (i := 0) (v := .int .i64 t0) hG rfl
    have x1 := block_cell (i := 1) (v := .int .i64 t1) hG rfl
    have HB : Hid (Below w.heap.size w (((w.alloc (.cells #[.slice a C.length cap, .int .i64 loops, .slice (some ⟨gF, 0, none⟩) (2 * C.length + 1) cF, .slice (some ⟨gT, 0, none⟩) (2 * C.length + 1) cT] 61)).alloc (.cells #[.int .i64 x, .bool false] 26)).alloc (.cells #[.int .i64 t0, .int .i64 t1] 120))) := below3 _ _ _ _
    clear hG
    go_enter Try.func78, Try.ntmps78
    go_wp2
    exact bodyPost_ret (v := .agg #[.int .i64 t0, .int .i64 t1]) (by simp [results, Try.results78, go_sem, x0, x1]) rfl ⟨by simp [ht0, ht1], HB.out⟩

set_option maxHeartbeats 2000000 in
set_option maxRecDepth 100000 in
theorem way_any (x : Int) (p : Bool) (w : World) :
    Calls Try.prog 94 #[.agg #[.int .i64 x, .bool p]] w fun e w' => e = .returned (.int .i64 (if p = true then 1 else 0)) ∧ Below w.heap.size w w' := by
  go_enter Try.func94, Try.ntmps94
  cases p with
  | true =>
    go_wp2
    go_ret
    exact ⟨rfl, (Below.refl _ _).alloc (Nat.le_refl _) _⟩
  | false =>
    go_wp2
    go_ret
    exact ⟨rfl, (Below.refl _ _).alloc (Nat.le_refl _) _⟩

end Go.Proofs.Ytagaajlbkfkaiaa
/- Visits: lists of them that a call owns; the walks of gauss.visits and gauss.signs. -/
namespace Go.Proofs.Ytagaajlbkfkaiaa
open Go.RowKit

/-- Visits as cells. -/
def vflat (V : List (Nat × Bool)) : List Value := V.flatMap fun t => [.int .i64 (t.1 : Nat), .bool t.2]
theorem vflat_append (l m : List (Nat × Bool)) : vflat (l ++ m) = vflat l ++ vflat m := by simp [vflat]
theorem vflat_get (l : List (Nat × Bool)) (i : Nat) (hi : i < l.length) : (vflat l)[i * 2]? = some (.int .i64 ((l.getD i (0, false)).1 : Nat)) ∧ (vflat l)[i * 2 + 1]? = some (.bool (l.getD i (0, false)).2) := by
  induction l generalizing i with
  | nil => simp at hi
  | cons t l ih =>
    have e : vflat (t :: l) = .int .i64 (t.1 : Nat) :: .bool t.2 :: vflat l := rfl
    cases i with
    | zero => rw [e]; exact ⟨rfl, rfl⟩
    | succ i =>
      have := ih i (by simpa using hi)
      rw [e, show (i + 1) * 2 = i * 2 + 1 + 1 by omega]
      exact this
theorem vflat_one (l : List (Nat × Bool)) : ∀ u ∈ vflat l, u.oneCell' = true := by
  intro u hu
  simp only [vflat, List.mem_flatMap] at hu
  obtain ⟨t, _, ht⟩ := hu
  simp at ht
  rcases ht with rfl | rfl <;> rfl
/-- The walks as one looks at them. -/
def WksAt (w : World) (v : Value) (L : List (List Nat)) : Prop := ∃ ys : List Value, ys.length = L.length ∧ Slots w w.heap.size v ys ∧ ∀ j, j < L.length → Slots w w.heap.size (ys.getD j (.bool false)) (nats (L.getD j []))
theorem WksAt.on {w w' : World} {v : Value} {L : List (List Nat)} (h : WksAt w v L) (hb : Below w.heap.size w w') : WksAt w' v L := by
  obtain ⟨ys, h1, h2, h3⟩ := h
  exact ⟨ys, h1, (h2.on hb).mono hb.size, fun j hj => ((h3 j hj).on hb).mono hb.size⟩
end Go.Proofs.Ytagaajlbkfkaiaa
/- The walk of gauss.signs; rows of visits and of signs that are the same. -/
namespace Go.Proofs.Ytagaajlbkfkaiaa
open Go.RowKit

/-- A list of visits as one looks at it. -/
def VS (w : World) (v : Value) (V : List (Nat × Bool)) : Prop := ∃ a cap, v = .slice a V.length cap ∧ (0 < V.length → ∃ b off, a = some ⟨b, off, none⟩ ∧ b < w.heap.size ∧ ∀ i, i < V.length → w.cell? ⟨b, off + i * 2, none⟩ = some (.int .i64 ((V.getD i (0, false)).1 : Nat)) ∧ w.cell? ⟨b, off + i * 2 + 1, none⟩ = some (.bool (V.getD i (0, false)).2))
def VsAt (w : World) (v : Value) (L : List (List (Nat × Bool))) : Prop := ∃ ys : List Value, ys.length = L.length ∧ Slots w w.heap.size v ys ∧ ∀ j, j < L.length → VS w (ys.getD j (.bool false)) (L.getD j [])
theorem vs_own {w : World} {B e : Nat} {v : Value} {V : List (Nat × Bool)} (h : w.ownsRow B e 2 v V.length (vflat V)) : VS w v V := by
  have h0 := h
  rcases h.2 with ⟨rfl, h1⟩ | ⟨g, cap, cur, rfl, _, _, _⟩
  · exact ⟨none, 0, by rw [h1], fun hp => by omega⟩
  · refine ⟨some ⟨g, 0, none⟩, cap, rfl, fun _ => ⟨g, 0, rfl, (h0.lt g rfl).2, fun i hi => ?_⟩⟩
    have g0 := vflat_get V i hi
    rw [Nat.zero_add]
    exact ⟨(h0.cellAt (i * 2) (by omega)).trans g0.1, (h0.cellAt (i * 2 + 1) (by omega)).trans g0.2⟩
theorem VS.on {w w' : World} {v : Value} {V : List (Nat × Bool)} (h : VS w v V) (hb : Below w.heap.size w w') : VS w' v V := by
  obtain ⟨a, cap, rfl, g⟩ := h
  refine ⟨a, cap, rfl, fun hp => ?_⟩
  obtain ⟨b, off, rfl, hlt, hc⟩ := g hp
  exact ⟨b, off, rfl, Nat.lt_of_lt_of_le hlt hb.size, fun i hi => ⟨bcell hb hlt (hc i hi).1, bcell hb hlt (hc i hi).2⟩⟩
theorem VsAt.on {w w' : World} {v : Value} {L : List (List (Nat × Bool))} (h : VsAt w v L) (hb : Below w.heap.size w w') : VsAt w' v L := by
  obtain ⟨ys, h1, h2, h3⟩ := h
  exact ⟨ys, h1, (h2.on hb).mono hb.size, fun j hj => (h3 j hj).on hb⟩

end Go.Proofs.Ytagaajlbkfkaiaa
/- Lists of whole numbers that a call owns; the walk of gauss.evenNumbers. -/
namespace Go.Proofs.Ytagaajlbkfkaiaa
open Go.RowKit

def intsV (l : List Int) : List Value := l.map fun x => .int .i64 x
theorem intsV_len (l : List Int) : (intsV l).length = l.length := by simp [intsV]
theorem intsV_get (l : List Int) (i : Nat) (h : i < l.length) : (intsV l)[i]? = some (.int .i64 (l.getD i 0)) := by simp [intsV, List.getD, h]
theorem intsV_set (l : List Int) (i : Nat) (x : Int) : (intsV l).set i (.int .i64 x) = intsV (l.set i x) := by simp [intsV, List.map_set]
theorem made_zero (n : Nat) : (madeCells (Value.int .i64 0).cells (n * 1)).toList = intsV (List.replicate n 0) := by
  have e : (Value.int .i64 0).cells = #[Value.int .i64 0] := rfl
  rw [e, toList_madeCells_one, Nat.mul_one]
  simp [intsV]
end Go.Proofs.Ytagaajlbkfkaiaa
/- Diagrams under way: crossings that are appended to one; the walks of drawing.crossOf and drawing.Turned. -/
namespace Go.Proofs.Ytagaajlbkfkaiaa
open Go.RowKit

theorem cells_append (C D : List Cr) : crossCells (C ++ D) = crossCells C ++ crossCells D := by simp [crossCells]
theorem new_cell5 (W : World) (a b c d p : Value) (e : TypeId) : ∀ j u, [a, b, c, d, p][j]? = some u → (W.alloc (.cells #[a, b, c, d, p] e)).cell? ((⟨W.heap.size, 0, none⟩ : Addr).add j) = some u := by
  intro j u hj
  rw [Addr.add_lit, Nat.zero_add]
  have hh : (W.alloc (.cells #[a, b, c, d, p] e)).heap[W.heap.size]? = some (.cells #[a, b, c, d, p] e (0, 0)) := Array.getElem?_push_size
  match j, hj with
  | 0, hj => simp at hj; subst hj; exact block_cell hh rfl
  | 1, hj => simp at hj; subst hj; exact block_cell hh rfl
  | 2, hj => simp at hj; subst hj; exact block_cell hh rfl
  | 3, hj => simp at hj; subst hj; exact block_cell hh rfl
  | 4, hj => simp at hj; subst hj; exact block_cell hh rfl
/-- A diagram under way: its box at block g, its crossings a row of the call's own. -/
structure OutAt (w : World) (B g : Nat) (v : Value) (loops : Int) (C : List Cr) : Prop where
  box : w.heap[g]? = some (.cells #[v, .int .i64 loops] 24 (0, 0))
  row : w.ownsRow B 71 5 v C.length (crossCells C)
theorem OutAt.nil {w : World} {B g : Nat} {loops : Int} (h : w.heap[g]? = some (.cells #[.slice none 0 0, .int .i64 loops] 24 (0, 0))) : OutAt w B g (.slice none 0 0) loops [] := ⟨h, World.ownsRow_nil _ _ _ _⟩
theorem OutAt.on {w w' : World} {B g : Nat} {v : Value} {loops : Int} {C : List Cr} (h : OutAt w B g v loops C) (hb : Below w.heap.size w w') : OutAt w' B g v loops C :=
  ⟨(hb.block _ (Array.getElem?_eq_some_iff.1 h.box).1).trans h.box, own_any h.row (grown_below hb none)⟩
theorem OutAt.kept {w w' : World} {B g q : Nat} {v : Value} {loops : Int} {C : List Cr} (h : OutAt w B g v loops C) (hg : w.grownBy w' (some q)) (hq : q ≠ g) (hB : q < B) : OutAt w' B g v loops C := by
  refine ⟨(hg.block _ (Array.getElem?_eq_some_iff.1 h.box).1 (fun e => hq (Option.some.inj e).symm)).trans h.box, h.row.kept hg ?_⟩
  cases hv : v.ownBlock with
  | none => exact Or.inl rfl
  | some k => exact Or.inr (fun e => by have h1 := (h.row.lt k hv).1; have h2 := Option.some.inj e; omega)
theorem OutAt.app {w w8 : World} {B g : Nat} {v v8 : Value} {loops : Int} {C : List Cr} {x : Cr} {o : Obj} {m : Nat} (h : OutAt w B g v loops C) (hgB : g < B) (hm : m = C.length + 1) (hown8 : w8.ownsRow B 71 5 v8 m (crossCells C ++ crossCells [x])) (hg8 : (w.alloc o).grownBy w8 v.ownBlock) : OutAt (w8.setCell ⟨g, 0, none⟩ v8) B g v8 loops (C ++ [x]) := by
  have hlt := (Array.getElem?_eq_some_iff.1 h.box).1
  have hb8 : w8.heap[g]? = some (.cells #[v, .int .i64 loops] 24 (0, 0)) :=
    (hg8.block _ (by simp; omega) (fun e => by have := (h.row.lt g e.symm).1; omega)).trans (alloc_old h.box)
  refine ⟨set_block hb8, ?_⟩
  have hl : (C ++ [x]).length = m := by rw [hm]; simp
  rw [hl, cells_append]
  refine hown8.kept (set_grown w8 g 0 v8) ?_
  cases hv : v8.ownBlock with
  | none => exact Or.inl rfl
  | some k => exact Or.inr (fun e => by have h1 := (hown8.lt k hv).1; have h2 := Option.some.inj e; omega)
theorem OutAt.below {w w8 W : World} {B B0 g : Nat} {v v8 : Value} {loops : Int} {C : List Cr} {o : Obj} (h : OutAt w B g v loops C) (hb : Below B0 W w) (hB : B0 ≤ B) (hs : B0 ≤ w.heap.size) (h0 : B0 ≤ g) (hg8 : (w.alloc o).grownBy w8 v.ownBlock) : Below B0 W (w8.setCell ⟨g, 0, none⟩ v8) :=
  ((hb.alloc hs _).grown hg8 (by simp; omega) (fun q hq => Nat.le_trans hB (h.row.lt q hq).1)).grown (set_grown w8 g 0 v8) (by have := hg8.size; simp at this; omega) (fun q hq => by have := Option.some.inj hq; omega)
theorem OutAt.other {w w8 : World} {B g k : Nat} {v v8 : Value} {loops : Int} {C : List Cr} {o p : Obj} (h : OutAt w B g v loops C) (hk : w.heap[k]? = some p) (hkB : k < B) (hkg : k ≠ g) (hg8 : (w.alloc o).grownBy w8 v.ownBlock) : (w8.setCell ⟨g, 0, none⟩ v8).heap[k]? = some p := by
  have hlt := (Array.getElem?_eq_some_iff.1 hk).1
  have hs := hg8.size
  simp only [World.size_alloc] at hs
  have hb8 : w8.heap[k]? = some p := (hg8.block _ (by simp; omega) (fun e => by have := (h.row.lt k e.symm).1; omega)).trans (alloc_old hk)
  exact ((set_grown w8 g 0 v8).block k (by omega) (fun e => hkg (Option.some.inj e))).trans hb8
theorem OutAt.box8 {w w8 : World} {B g : Nat} {v : Value} {loops : Int} {C : List Cr} {o : Obj} (h : OutAt w B g v loops C) (hgB : g < B) (hg8 : (w.alloc o).grownBy w8 v.ownBlock) : w8.heap[g]? = some (.cells #[v, .int .i64 loops] 24 (0, 0)) := by
  have hlt := (Array.getElem?_eq_some_iff.1 h.box).1
  exact (hg8.block _ (by simp; omega) (fun e => by have := (h.row.lt g e.symm).1; omega)).trans (alloc_old h.box)

/-- The crossing told from side f on. -/
def turn (x : Cr) (f : Nat) : Cr := ⟨x.arc (f % 4), x.arc ((f + 1) % 4), x.arc ((f + 2) % 4), x.arc ((f + 3) % 4), x.plus⟩

set_option maxHeartbeats 2000000 in
set_option maxRecDepth 100000 in
theorem crossOf_any (x : Cr) (w : World) :
    Calls Try.prog 122 #[.agg #[.int .i64 x.a, .int .i64 x.b, .int .i64 x.c, .int .i64 x.d], .bool x.plus] w fun e w' => e = .returned (.agg #[.int .i64 x.a, .int .i64 x.b, .int .i64 x.c, .int .i64 x.d, .bool x.plus]) ∧ Below w.heap.size w w' := by
  go_enter Try.func122, Try.ntmps122
  go_wp2
  exact bodyPost_ret (v := .agg #[.int .i64 x.a, .int .i64 x.b, .int .i64 x.c, .int .i64 x.d, .bool x.plus]) (by simp [results, Try.results122, go_sem]) rfl ⟨rfl, below2 _ _ _⟩

/-- Four numbers as cells. -/
def intArr (l : List Int) : Array Value := (l.map fun x => Value.int .i64 x).toArray
theorem intArr_set (l : List Int) (p : Nat) (z : Int) : (intArr l).setIfInBounds p (.int .i64 z) = intArr (l.set p z) := by
  simp [intArr, List.map_set]
theorem intArr_get (l : List Int) (p : Nat) (h : p < l.length) : (intArr l)[p]? = some (.int .i64 (l.getD p 0)) := by
  simp [intArr, List.getD, h]
end Go.Proofs.Ytagaajlbkfkaiaa
/- The walks of canon.mirrored, canon.Mirror and ref.MirrorOf. -/
namespace Go.Proofs.Ytagaajlbkfkaiaa
open Go.RowKit

end Go.Proofs.Ytagaajlbkfkaiaa
/- Crossings compared; the walks of ref.SameDiagram and ref.MirrorOf, and of canon.Mirror. -/
namespace Go.Proofs.Ytagaajlbkfkaiaa
open Go.RowKit

/-- Are two crossings the same? -/
def crEq (x y : Cr) : Bool := x.a == y.a && x.b == y.b && x.c == y.c && x.d == y.d && x.plus == y.plus
theorem crEq_refl (x : Cr) : crEq x x = true := by simp [crEq]
/-- Are two lists of crossings the same? -/
def crsEq (C D : List Cr) : Bool := decide (C.length = D.length) && (List.range C.length).all fun i => crEq (C.getD i Cr.none) (D.getD i Cr.none)
/-- Are two diagrams the same? -/
def sameD (l1 l2 : Int) (C D : List Cr) : Bool := decide (l1 = l2) && crsEq C D
theorem sameD_iff (l1 l2 : Int) (C D : List Cr) : sameD l1 l2 C D = true ↔ l1 = l2 ∧ C.length = D.length ∧ ∀ i, i < C.length → crEq (C.getD i Cr.none) (D.getD i Cr.none) = true := by
  simp only [sameD, crsEq, Bool.and_eq_true, decide_eq_true_eq, List.all_eq_true, List.mem_range]
theorem sameD_no {l1 l2 : Int} {C D : List Cr} (h : ¬ (l1 = l2 ∧ C.length = D.length ∧ ∀ i, i < C.length → crEq (C.getD i Cr.none) (D.getD i Cr.none) = true)) : sameD l1 l2 C D = false := by
  cases hs : sameD l1 l2 C D with
  | false => rfl
  | true => exact absurd ((sameD_iff l1 l2 C D).1 hs) h
theorem eqCross (x y : Cr) (w : World) : (Op.equalIn 10000 71 (.agg #[.int .i64 x.a, .int .i64 x.b, .int .i64 x.c, .int .i64 x.d, .bool x.plus]) (.agg #[.int .i64 y.a, .int .i64 y.b, .int .i64 y.c, .int .i64 y.d, .bool y.plus])).run Try.prog w = .ok (crEq x y) w := by
  have u3 := Try.underlying3
  have a3 := Try.isAgg3
  have z3 := Try.sizeOf3
  have u4 := Try.underlying4
  have a4 := Try.isAgg4
  have z4 := Try.sizeOf4
  have hS : Try.prog.underlying 71 = some (.struct (Try.prog.fieldsOf 71)) := by kernel_rfl
  have hp : Try.prog.stoodInHeld 71 = false := by kernel_rfl
  rw [show (10000 : Nat) = 9999 + 1 from rfl, run_equalIn_agg w 9999 71 _ _ hS hp]
  simp only [Program.fieldsOf, Try.underlying71]
  go_simp
  unfold crEq
  by_cases h1 : x.a = y.a <;> by_cases h2 : x.b = y.b <;> by_cases h3 : x.c = y.c <;> by_cases h4 : x.d = y.d <;> by_cases h5 : x.plus = y.plus <;> simp [h1, h2, h3, h4, h5]
theorem neqCross (x y : Cr) (w : World) : (binOp .neq 71 (.agg #[.int .i64 x.a, .int .i64 x.b, .int .i64 x.c, .int .i64 x.d, .bool x.plus]) (.agg #[.int .i64 y.a, .int .i64 y.b, .int .i64 y.c, .int .i64 y.d, .bool y.plus])).run Try.prog w = .ok (.bool (!crEq x y)) w := by
  rw [run_neq_struct, eqCross]
  simp [Result.andThen]

end Go.Proofs.Ytagaajlbkfkaiaa
/- Sums: the walks of Drawing.Has and of the closure that numbers arcs anew, and of drawing.Renumbered with it. -/
namespace Go.Proofs.Ytagaajlbkfkaiaa
open Go.RowKit

/-- The numbers behind k sides. -/
def numTo (g : Nat → Int) (k : Nat) : List Int := (List.range 4).map fun j => if j < k then g j else 0
theorem numTo_len (g : Nat → Int) (k : Nat) : (numTo g k).length = 4 := by simp [numTo]
theorem numTo_next (g : Nat → Int) (k : Nat) (hk : k < 4) : (numTo g k).set k (g k) = numTo g (k + 1) := by
  apply List.ext_getElem?
  intro i
  rw [List.getElem?_set]
  by_cases hi : i < 4
  · by_cases e : k = i
    · subst e
      simp [numTo, hi]
    · rw [if_neg e]
      simp only [numTo, List.getElem?_map, List.getElem?_range hi, Option.map_some]
      congr 1
      by_cases h2 : i < k
      · rw [if_pos h2, if_pos (by omega)]
      · rw [if_neg h2, if_neg (by omega)]
  · rw [List.getElem?_eq_none (by rw [numTo_len]; omega), List.getElem?_eq_none (by rw [numTo_len]; omega)]
    split
    · next e => rw [if_neg (by rw [numTo_len]; omega)]
    · rfl
theorem numTo_zero (g : Nat → Int) : numTo g 0 = [0, 0, 0, 0] := by simp [numTo, List.range_succ]
theorem numTo_four (g : Nat → Int) : intArr (numTo g 4) = #[.int .i64 (g 0), .int .i64 (g 1), .int .i64 (g 2), .int .i64 (g 3)] := by
  simp [numTo, intArr, List.range_succ]
/-- The four boxes that the closure holds. -/
def Boxes (w : World) (x : Cr) (more cut other : Int) (pc px po pm : Nat) : Prop := (pc < w.heap.size ∧ px < w.heap.size ∧ po < w.heap.size ∧ pm < w.heap.size) ∧ w.cell? ⟨pc, 0, none⟩ = some (.int .i64 cut) ∧ w.cell? ⟨px, 0, none⟩ = some (.int .i64 x.a) ∧ w.cell? ⟨px, 1, none⟩ = some (.int .i64 x.b) ∧ w.cell? ⟨px, 2, none⟩ = some (.int .i64 x.c) ∧ w.cell? ⟨px, 3, none⟩ = some (.int .i64 x.d) ∧ w.cell? ⟨px, 4, none⟩ = some (.bool x.plus) ∧ w.cell? ⟨po, 0, none⟩ = some (.int .i64 other) ∧ w.cell? ⟨pm, 0, none⟩ = some (.int .i64 more)
theorem Boxes.kept {B : Nat} {w w' : World} {x : Cr} {more cut other : Int} {pc px po pm : Nat} (h : Boxes w x more cut other pc px po pm) (hb : Below B w w') (l1 : pc < B) (l2 : px < B) (l3 : po < B) (l4 : pm < B) : Boxes w' x more cut other pc px po pm := by
  obtain ⟨⟨a1, a2, a3, a4⟩, c0, c1, c2, c3, c4, c5, c6, c7⟩ := h
  have hs := hb.size
  exact ⟨⟨by omega, by omega, by omega, by omega⟩, bcell hb l1 c0, bcell hb l2 c1, bcell hb l2 c2, bcell hb l2 c3, bcell hb l2 c4, bcell hb l2 c5, bcell hb l3 c6, bcell hb l4 c7⟩

end Go.Proofs.Ytagaajlbkfkaiaa
/- The walk of Drawing.Has. -/
namespace Go.Proofs.Ytagaajlbkfkaiaa
open Go.RowKit

/-- Is there such an arc? -/
def hasB (C : List Cr) (x : Int) : Bool := decide (1 ≤ x) && decide (x ≤ 2 * (C.length : Int))

set_option maxHeartbeats 1000000 in
set_option maxRecDepth 100000 in
theorem has_any (a : Option Addr) (cap : Nat) (C : List Cr) (loops : Int) (gF cF gT cT : Nat) (x : Int) (w : World) (hl : C.length ≤ 16) :
    Calls Try.prog 104 #[drV a cap C loops gF cF gT cT, .int .i64 x] w fun e w' => e = .returned (.bool (hasB C x)) ∧ Below w.heap.size w w' := by
  unfold drV
  have hb : ∀ o, Below w.heap.size w (w.alloc o) := fun o => (Below.refl _ _).alloc (Nat.le_refl _) o
  obtain ⟨m, hm⟩ : ∃ m, 2 * C.length + 1 = m := ⟨_, rfl⟩
  have HM : Hid (2 * C.length + 1 = m) := hm
  have hm40 : m ≤ 40 := by omega
  rw [hm]
  clear hm
  by_cases h1 : 1 ≤ x
  · have d1 : decide (1 ≤ x) = true := by simpa using h1
    by_cases h2 : x < (m : Int)
    · have d2 : decide (x < (m : Int)) = true := by simpa using h2
      have HR : Hid (hasB C x = true) := (by have := HM.out; simp [hasB, h1]; omega : hasB C x = true)
      go_enter Try.func104, Try.ntmps104
      go_wp2
      go_ret
      exact ⟨ret_bool HR.out, hb _⟩
    · have d2 : decide (x < (m : Int)) = false := by simpa using h2
      have HR : Hid (hasB C x = false) := (by have := HM.out; simp [hasB]; omega : hasB C x = false)
      go_enter Try.func104, Try.ntmps104
      go_wp2
      go_ret
      exact ⟨ret_bool HR.out, hb _⟩
  · have d1 : decide (1 ≤ x) = false := by simpa using h1
    have HR : Hid (hasB C x = false) := (by simp [hasB, h1] : hasB C x = false)
    go_enter Try.func104, Try.ntmps104
    go_wp2
    go_ret
    exact ⟨ret_bool HR.out, hb _⟩
end Go.Proofs.Ytagaajlbkfkaiaa
/- A crossing is stored whole into a row. -/
namespace Go.Proofs.Ytagaajlbkfkaiaa
open Go.RowKit

end Go.Proofs.Ytagaajlbkfkaiaa
/- The walks of ref.MirrorOf and canon.Mirror. -/
namespace Go.Proofs.Ytagaajlbkfkaiaa
open Go.RowKit

end Go.Proofs.Ytagaajlbkfkaiaa
/- The arc on which the other strand goes on; the walk of Drawing.Aside. -/
namespace Go.Proofs.Ytagaajlbkfkaiaa
open Go.RowKit

end Go.Proofs.Ytagaajlbkfkaiaa
/- Plain mathematics: arcs that are one when crossings are gone; their numbers; what is left of a diagram. -/
namespace Go.Proofs.Ytagaajlbkfkaiaa

/-- The joins of the first arcs: each that leads to a crossing that is gone goes on as f tells. -/
def uTo (C : List Cr) (f : Nat → Nat) (G : List Nat) : Nat → List (Nat × Nat)
  | 0 => []
  | a + 1 => uTo C f G a ++ (if toC C (a + 1) ∈ G then [(a + 1, f (a + 1))] else [])
theorem mem_uTo {C : List Cr} {f : Nat → Nat} {G : List Nat} {n : Nat} {e : Nat × Nat} : e ∈ uTo C f G n ↔ ∃ a, 1 ≤ a ∧ a ≤ n ∧ toC C a ∈ G ∧ e = (a, f a) := by
  induction n with
  | zero =>
    refine ⟨fun h => (by cases h), fun ⟨a, h1, h2, _⟩ => absurd h2 (by omega)⟩
  | succ n ih =>
    rw [uTo, List.mem_append, ih]
    constructor
    · rintro (⟨a, h1, h2, h3, h4⟩ | h)
      · exact ⟨a, h1, by omega, h3, h4⟩
      · split at h
        · rename_i hg
          exact ⟨n + 1, by omega, Nat.le_refl _, hg, by simpa using h⟩
        · cases h
    · rintro ⟨a, h1, h2, h3, h4⟩
      by_cases e : a = n + 1
      · subst e
        right
        rw [if_pos h3]
        simp [h4]
      · exact Or.inl ⟨a, h1, by omega, h3, h4⟩
/-- Of each arc the least one that is one with it. -/
def uniM (C : List Cr) (f : Nat → Nat) (G : List Nat) : List Nat := mers (List.range (2 * C.length + 1)) (uTo C f G (2 * C.length))
theorem uTo_lt {C : List Cr} {f : Nat → Nat} {G : List Nat} (hf : ∀ a, 1 ≤ a → a ≤ 2 * C.length → 1 ≤ f a ∧ f a ≤ 2 * C.length) : ∀ e, e ∈ uTo C f G (2 * C.length) → (1 ≤ e.1 ∧ e.1 < 2 * C.length + 1) ∧ (1 ≤ e.2 ∧ e.2 < 2 * C.length + 1) := fun e he => by
  obtain ⟨a, h1, h2, -, rfl⟩ := mem_uTo.1 he
  have := hf a h1 h2
  exact ⟨⟨h1, by dsimp only; omega⟩, this.1, by dsimp only; omega⟩
theorem uni_least {C : List Cr} {f : Nat → Nat} {G : List Nat} (hf : ∀ a, 1 ≤ a → a ≤ 2 * C.length → 1 ≤ f a ∧ f a ≤ 2 * C.length) : Least (uTo C f G (2 * C.length)) (2 * C.length + 1) (uniM C f G) := by
  have := mers_least (2 * C.length + 1) (uTo C f G (2 * C.length)) [] (List.range (2 * C.length + 1)) (fun e he => by
    have h := uTo_lt hf e (by simpa using he)
    exact ⟨h.1.2, h.2.2⟩) (least_nil _)
  simpa [uniM] using this
/-- Is the crossing to which an arc leads gone? (What stands first leads to none.) -/
def goneB (C : List Cr) (G : List Nat) (a : Nat) : Bool := if a = 0 then false else decide (toC C a ∈ G)
/-- Some arc that is one with v leads to a crossing that is left. -/
def stP (C : List Cr) (G : List Nat) (L : List Nat) (m v : Nat) : Prop := ∃ a, a < m ∧ L.getD a 0 = v ∧ goneB C G a = false
/-- Some crossing that is left has an arc that is one with v. -/
def thP (C : List Cr) (G : List Nat) (L : List Nat) (v : Nat) : Prop := ∃ i s, i < C.length ∧ i ∉ G ∧ s < 4 ∧ L.getD ((C.getD i Cr.none).arc s).toNat 0 = v

theorem nodup_sub : ∀ (l m : List Nat), l.Nodup → (∀ x, x ∈ l → x ∈ m) → l.length ≤ m.length := by
  intro l
  induction l with
  | nil => intro m _ _; exact Nat.zero_le _
  | cons x l ih =>
    intro m hn hs
    obtain ⟨h1, h2⟩ := List.nodup_cons.1 hn
    have hx : x ∈ m := hs x (List.Mem.head _)
    have := ih (m.erase x) h2 (fun y hy => by
      have hne : y ≠ x := fun e => h1 (e ▸ hy)
      exact (List.mem_erase_of_ne hne).2 (hs y (List.Mem.tail _ hy)))
    have hl := List.length_erase_of_mem hx
    have hp := List.length_pos_of_mem hx
    simp only [List.length_cons]
    omega
/-- What a one-to-one map of a finite class into itself misses: nothing. -/
theorem onto_class (f : Nat → Nat) (K : List Nat) (hn : K.Nodup) (hf : ∀ a, a ∈ K → f a ∈ K) (hi : ∀ a b, a ∈ K → b ∈ K → f a = f b → a = b) (y : Nat) (hy : y ∈ K) : ∃ x, x ∈ K ∧ f x = y := by
  refine Classical.byContradiction fun h => ?_
  have hno : y ∉ K.map f := fun hm => by
    obtain ⟨x, hx, e⟩ := List.mem_map.1 hm
    exact h ⟨x, hx, e⟩
  have hnm : (K.map f).Nodup := List.pairwise_map.2 (hn.imp_of_mem fun ha hb hab e => hab (hi _ _ ha hb e))
  have := nodup_sub (y :: K.map f) K (List.nodup_cons.2 ⟨hno, hnm⟩) (fun x hx => by
    rcases List.mem_cons.1 hx with rfl | hx
    · exact hy
    · obtain ⟨z, hz, rfl⟩ := List.mem_map.1 hx
      exact hf z hz)
  simp only [List.length_cons, List.length_map] at this
  omega
/-- What goes on: from arc to arc, one to one, out of the crossing to which the arc leads. -/
structure Goes (C : List Cr) (f : Nat → Nat) : Prop where
  closed : ∀ a, 1 ≤ a → a ≤ 2 * C.length → 1 ≤ f a ∧ f a ≤ 2 * C.length
  inj : ∀ a b, 1 ≤ a → a ≤ 2 * C.length → 1 ≤ b → b ≤ 2 * C.length → f a = f b → a = b
  out : ∀ a, 1 ≤ a → a ≤ 2 * C.length → enC C (f a) false = toC C a
theorem st_th {C : List Cr} {loops : Int} (hm : mayD C loops = true) {f : Nat → Nat} (hf : Goes C f) (G : List Nat) (v : Nat) (h1 : 1 ≤ v) :
    thP C G (uniM C f G) v ↔ ((uniM C f G).getD v 0 = v ∧ stP C G (uniM C f G) (2 * C.length + 1) v) := by
  have hL := uni_least (G := G) hf.closed
  generalize hE : uniM C f G = L at hL ⊢
  have hpos : ∀ e, e ∈ uTo C f G (2 * C.length) → 1 ≤ e.1 ∧ 1 ≤ e.2 := fun e he => ⟨(uTo_lt hf.closed e he).1.1, (uTo_lt hf.closed e he).2.1⟩
  constructor
  · rintro ⟨i, s, hi, hG, hs, e⟩
    have ho := en_one hm i s hi hs
    obtain ⟨a, ha⟩ : ∃ a, ((C.getD i Cr.none).arc s).toNat = a := ⟨_, rfl⟩
    rw [ha] at e ho
    obtain ⟨a1, a2, a3⟩ := ho
    have hroot := hL.root (v := a) (by omega)
    rw [e] at hroot
    refine ⟨hroot, ?_⟩
    cases hc : (C.getD i Cr.none).comes s with
    | true =>
      rw [hc] at a3
      refine ⟨a, by omega, e, ?_⟩
      unfold goneB
      rw [if_neg (by omega)]
      have e3 : toC C a = i := a3
      rw [e3]
      simpa using hG
    | false =>
      rw [hc] at a3
      refine Classical.byContradiction fun hno => ?_
      have hall : ∀ x, 1 ≤ x → x ≤ 2 * C.length → L.getD x 0 = v → toC C x ∈ G := fun x x1 x2 x3 => Classical.byContradiction fun hx => hno ⟨x, by omega, x3, by unfold goneB; rw [if_neg (by omega)]; simpa using hx⟩
      obtain ⟨K, hK⟩ : ∃ K, K = (List.range (2 * C.length + 1)).filter (fun x => decide (1 ≤ x) && decide (L.getD x 0 = v)) := ⟨_, rfl⟩
      have hmem : ∀ x, x ∈ K ↔ (1 ≤ x ∧ x ≤ 2 * C.length ∧ L.getD x 0 = v) := fun x => by
        rw [hK, List.mem_filter, List.mem_range]
        simp only [Bool.and_eq_true, decide_eq_true_eq]
        omega
      obtain ⟨x, hx, hfx⟩ := onto_class f K (by rw [hK]; exact List.nodup_range.filter _) (fun x hx => by
        obtain ⟨x1, x2, x3⟩ := (hmem x).1 hx
        have hc2 := hf.closed x x1 x2
        refine (hmem _).2 ⟨hc2.1, hc2.2, ?_⟩
        rw [← x3]
        exact ((hL.same (by omega) (by omega)).2 (Con.edge (mem_uTo.2 ⟨x, x1, x2, hall x x1 x2 x3, rfl⟩))).symm) (fun x y hx hy e => by
        obtain ⟨x1, x2, -⟩ := (hmem x).1 hx
        obtain ⟨y1, y2, -⟩ := (hmem y).1 hy
        exact hf.inj x y x1 x2 y1 y2 e) a ((hmem a).2 ⟨a1, a2, e⟩)
      obtain ⟨x1, x2, x3⟩ := (hmem x).1 hx
      have h5 := hf.out x x1 x2
      rw [hfx, a3] at h5
      exact hG (h5 ▸ hall x x1 x2 x3)
  · rintro ⟨hr, a, ha, e, hg⟩
    have a1 : 1 ≤ a := by
      rcases Nat.eq_zero_or_pos a with rfl | h
      · have := hL.le (v := 0) (by omega)
        omega
      · exact h
    obtain ⟨-, h4, h5, h6, h7⟩ := to_may hm a a1 (by omega)
    unfold goneB at hg
    rw [if_neg (by omega)] at hg
    exact ⟨toC C a, toS C a, h4, by simpa using hg, h5, by rw [h6]; exact e⟩

/-- How many below k are so. -/
def cntB (P : Nat → Bool) : Nat → Nat
  | 0 => 0
  | k + 1 => cntB P k + (if 1 ≤ k ∧ P k = true then 1 else 0)
theorem cntB_le (P : Nat → Bool) (k : Nat) : cntB P k ≤ k := by
  induction k with
  | zero => exact Nat.le_refl _
  | succ k ih => simp only [cntB]; split <;> omega
/-- The number of an arc: that of the least one that is one with it. -/
def numM (L : List Nat) (P : Nat → Bool) (a : Nat) : Nat := if P (L.getD a 0) = true then cntB P (L.getD a 0) + 1 else 0
/-- A crossing with other numbers. -/
def reX (h : Nat → Nat) (x : Cr) : Cr := ⟨h x.a.toNat, h x.b.toNat, h x.c.toNat, h x.d.toNat, x.plus⟩
/-- The crossings that are left of the first ones. -/
def reTo (C : List Cr) (G : List Nat) (h : Nat → Nat) : Nat → List Cr
  | 0 => []
  | i + 1 => reTo C G h i ++ (if i ∈ G then [] else [reX h (C.getD i Cr.none)])
theorem reTo_len (C : List Cr) (G : List Nat) (h : Nat → Nat) (i : Nat) : (reTo C G h i).length ≤ i := by
  induction i with
  | zero => exact Nat.le_refl _
  | succ i ih => simp only [reTo, List.length_append]; split <;> simp <;> omega
end Go.Proofs.Ytagaajlbkfkaiaa
/- Plain mathematics: which labels are left, and their numbers, place by place. -/
namespace Go.Proofs.Ytagaajlbkfkaiaa

/-- Does one of the first m arcs that are one with v lead to a crossing that is left? -/
def stB (C : List Cr) (G : List Nat) (L : List Nat) (m v : Nat) : Bool := (List.range m).any fun a => decide (L.getD a 0 = v) && !goneB C G a
theorem stB_iff {C : List Cr} {G L : List Nat} {m v : Nat} : stB C G L m v = true ↔ stP C G L m v := by
  unfold stB stP
  rw [List.any_eq_true]
  constructor
  · rintro ⟨a, ha, h⟩
    rw [Bool.and_eq_true, decide_eq_true_eq] at h
    exact ⟨a, List.mem_range.1 ha, h.1, by simpa using h.2⟩
  · rintro ⟨a, ha, h1, h2⟩
    exact ⟨a, List.mem_range.2 ha, by rw [h2, decide_eq_true h1]; rfl⟩
theorem stB_next (C : List Cr) (G L : List Nat) (m v : Nat) : stB C G L (m + 1) v = (stB C G L m v || (decide (L.getD m 0 = v) && !goneB C G m)) := by
  unfold stB
  rw [List.range_succ, List.any_append]
  simp
def stTo (C : List Cr) (G L : List Nat) (N m : Nat) : List Bool := (List.range N).map (stB C G L m)
theorem stTo_len (C : List Cr) (G L : List Nat) (N m : Nat) : (stTo C G L N m).length = N := by simp [stTo]
theorem stTo_at (C : List Cr) (G L : List Nat) (N m v : Nat) (hv : v < N) : (stTo C G L N m).getD v true = stB C G L m v := by simp [stTo, List.getD_eq_getElem?_getD, hv]
theorem stTo_zero (C : List Cr) (G L : List Nat) (N : Nat) : List.replicate N false = stTo C G L N 0 := by
  refine List.ext_getElem (by simp [stTo]) fun j h1 h2 => ?_
  simp [stTo, stB]
theorem stTo_next (C : List Cr) (G L : List Nat) (N m q : Nat) (hq : L.getD m 0 = q) (b : Bool) (hb : b = (stB C G L m q || !goneB C G m)) : (stTo C G L N m).set q b = stTo C G L N (m + 1) := by
  refine List.ext_getElem (by simp [stTo]) fun j h1 h2 => ?_
  simp only [List.getElem_set, stTo, List.getElem_map, List.getElem_range]
  rw [stB_next, hq]
  by_cases e : q = j
  · subst e; rw [if_pos rfl, hb]; simp
  · rw [if_neg e]; simp [e]
/-- Least ones that are left; least ones that are not. -/
def ltB (L : List Nat) (t : Nat → Bool) (v : Nat) : Bool := decide (L.getD v 0 = v) && t v
def lfB (L : List Nat) (t : Nat → Bool) (v : Nat) : Bool := decide (L.getD v 0 = v) && !t v
/-- The numbers of the first arcs. -/
def nmTo (L : List Nat) (P : Nat → Bool) (N j : Nat) : List Nat := (List.range N).map fun v => if v < j ∧ 1 ≤ v then numM L P v else 0
theorem nmTo_len (L : List Nat) (P : Nat → Bool) (N j : Nat) : (nmTo L P N j).length = N := by simp [nmTo]
theorem nmTo_at (L : List Nat) (P : Nat → Bool) (N j v : Nat) (hv : v < N) : (nmTo L P N j).getD v 0 = if v < j ∧ 1 ≤ v then numM L P v else 0 := by simp [nmTo, List.getD_eq_getElem?_getD, hv]
theorem nmTo_zero (L : List Nat) (P : Nat → Bool) (N : Nat) : List.replicate N 0 = nmTo L P N 1 := by
  refine List.ext_getElem (by simp [nmTo]) fun j h1 h2 => ?_
  simp only [nmTo, List.getElem_map, List.getElem_range, List.getElem_replicate]
  rw [if_neg (by omega)]
theorem nmTo_next (L : List Nat) (P : Nat → Bool) (N j z : Nat) (h1 : 1 ≤ j) (hz : numM L P j = z) : (nmTo L P N j).set j z = nmTo L P N (j + 1) := by
  refine List.ext_getElem (by simp [nmTo]) fun i h2 h3 => ?_
  simp only [List.getElem_set, nmTo, List.getElem_map, List.getElem_range]
  by_cases e : j = i
  · subst e; rw [if_pos rfl, if_pos ⟨by omega, h1⟩, hz]
  · rw [if_neg e]
    by_cases h4 : i < j ∧ 1 ≤ i
    · rw [if_pos h4, if_pos ⟨by omega, h4.2⟩]
    · rw [if_neg h4, if_neg (fun q => h4 ⟨by omega, q.2⟩)]
theorem nmTo_same (L : List Nat) (P : Nat → Bool) (N j : Nat) (hz : numM L P j = 0) : nmTo L P N j = nmTo L P N (j + 1) := by
  refine List.map_congr_left fun i _ => ?_
  by_cases h4 : i < j ∧ 1 ≤ i
  · rw [if_pos h4, if_pos ⟨by omega, h4.2⟩]
  · rw [if_neg h4]
    by_cases h5 : i < j + 1 ∧ 1 ≤ i
    · have e : i = j := by omega
      rw [if_pos h5, e, hz]
    · rw [if_neg h5]
theorem cntB_yes (P : Nat → Bool) (j : Nat) (h1 : 1 ≤ j) (h : P j = true) : cntB P (j + 1) = cntB P j + 1 := by simp only [cntB]; rw [if_pos ⟨h1, h⟩]
theorem cntB_no (P : Nat → Bool) (j : Nat) (h : P j = false) : cntB P (j + 1) = cntB P j := by simp only [cntB]; rw [if_neg (fun z => by rw [h] at z; cases z.2)]; rfl
theorem cntB_one (P : Nat → Bool) : cntB P 1 = 0 := by simp [cntB]
theorem reTo_next (C : List Cr) (G : List Nat) (h : Nat → Nat) (i : Nat) : reTo C G h (i + 1) = if i ∈ G then reTo C G h i else reTo C G h i ++ [reX h (C.getD i Cr.none)] := by
  simp only [reTo]
  split <;> simp
end Go.Proofs.Ytagaajlbkfkaiaa
/- Plain mathematics: what the reference's smoothing leaves is what the code's leaves. -/
namespace Go.Proofs.Ytagaajlbkfkaiaa

end Go.Proofs.Ytagaajlbkfkaiaa
/- Plain mathematics: edges and the edges that cross them; where Euler's number is that of spheres, a set of edges that comes to each corner an even number of times is the boundary of a set of faces. -/
namespace Go.Proofs.Ytagaajlbkfkaiaa

/-- How often, modulo two. -/
def xs (g : Nat → Bool) : Nat → Bool
  | 0 => false
  | m + 1 => xor (xs g m) (g m)
/-- The edges of a set, among the first. -/
def incl (E : Nat → Nat × Nat) (K : Nat → Bool) : Nat → List (Nat × Nat)
  | 0 => []
  | m + 1 => incl E K m ++ (if K m = true then [E m] else [])
theorem incl_mem {E : Nat → Nat × Nat} {K : Nat → Bool} {m : Nat} {e : Nat × Nat} : e ∈ incl E K m ↔ ∃ i, i < m ∧ K i = true ∧ e = E i := by
  induction m with
  | zero => simp [incl]
  | succ m ih =>
    simp only [incl, List.mem_append, ih]
    constructor
    · rintro (⟨i, h1, h2, h3⟩ | h)
      · exact ⟨i, by omega, h2, h3⟩
      · by_cases hk : K m = true
        · rw [if_pos hk] at h
          exact ⟨m, by omega, hk, List.mem_singleton.1 h⟩
        · rw [if_neg hk] at h; cases h
    · rintro ⟨i, h1, h2, h3⟩
      by_cases e2 : i = m
      · subst e2
        exact Or.inr (by rw [if_pos h2, h3]; exact List.mem_singleton.2 rfl)
      · exact Or.inl ⟨i, by omega, h2, h3⟩
/-- What the edges of a set join, each by its lowest. -/
def cls (E : Nat → Nat × Nat) (K : Nat → Bool) (n m : Nat) : List Nat := mers (List.range n) (incl E K m)
theorem cls_least {E : Nat → Nat × Nat} {K : Nat → Bool} {n m : Nat} (hE : ∀ i, i < m → (E i).1 < n ∧ (E i).2 < n) : Least (incl E K m) n (cls E K n m) := by
  have h := mers_least n (incl E K m) [] (List.range n) (fun e he => by
    obtain ⟨i, h1, -, rfl⟩ := incl_mem.1 (by simpa using he)
    exact hE i h1) (least_nil n)
  simpa [cls] using h
theorem cls_next {E : Nat → Nat × Nat} {K : Nat → Bool} {n m : Nat} (h : K m = true) : cls E K n (m + 1) = mer (cls E K n m) (E m).1 (E m).2 := by
  unfold cls
  simp only [incl]
  rw [if_pos h, mers_app]
  rfl
theorem mer_same {W : List Nat} {x y : Nat} (h : W.getD x 0 = W.getD y 0) : mer W x y = W := by
  unfold mer
  rw [h]
  have : ∀ z : Nat, (if z = max (W.getD y 0) (W.getD y 0) then min (W.getD y 0) (W.getD y 0) else z) = z := fun z => by
    split <;> omega
  simp only [this]
  exact List.map_id' W
end Go.Proofs.Ytagaajlbkfkaiaa
/- Slices that are read; lists of numbers that stand in a function's values; which walk an arc lies in. -/
namespace Go.Proofs.Ytagaajlbkfkaiaa
open Go.RowKit

/-- A slice to be read: nil; with no element; or its cells lie there, below B. -/
def RdAt (w : World) (B size : Nat) (v : Value) (n : Nat) (xs : List Value) : Prop := ∃ a cap, v = .slice a n cap ∧ (0 < n → ∃ b off, a = some ⟨b, off, none⟩ ∧ b < B ∧ ∀ j, j < n * size → w.cell? ⟨b, off + j, none⟩ = xs[j]?)
theorem RdAt.on {w w' : World} {B size n : Nat} {v : Value} {xs : List Value} (h : RdAt w B size v n xs) (hb : Below B w w') : RdAt w' B size v n xs := by
  obtain ⟨a, cap, rfl, f⟩ := h
  refine ⟨a, cap, rfl, fun h0 => ?_⟩
  obtain ⟨b, off, rfl, hlt, hc⟩ := f h0
  exact ⟨b, off, rfl, hlt, fun j hj => bcell hb hlt (hc j hj)⟩
theorem RdAt.mono {w : World} {B B' size n : Nat} {v : Value} {xs : List Value} (h : RdAt w B size v n xs) (hB : B ≤ B') : RdAt w B' size v n xs := by
  obtain ⟨a, cap, rfl, f⟩ := h
  refine ⟨a, cap, rfl, fun h0 => ?_⟩
  obtain ⟨b, off, rfl, hlt, hc⟩ := f h0
  exact ⟨b, off, rfl, Nat.lt_of_lt_of_le hlt hB, hc⟩
theorem own_rd {w : World} {B e size n : Nat} {v : Value} {xs : List Value} (h : w.ownsRow B e size v n xs) : RdAt w w.heap.size size v n xs := by
  have h0 := h
  rcases h.2 with ⟨rfl, h1⟩ | ⟨g, cap, cur, rfl, _, _, _⟩
  · exact ⟨none, 0, by rw [h1], fun hp => by omega⟩
  · exact ⟨some ⟨g, 0, none⟩, cap, rfl, fun _ => ⟨g, 0, rfl, (h0.lt g rfl).2, fun j hj => by rw [Nat.zero_add]; exact h0.cellAt j hj⟩⟩
/-- Lists of numbers to be read. -/
def NatsRd (w : World) (B : Nat) (v : Value) (L : List (List Nat)) : Prop := ∃ ys : List Value, ys.length = L.length ∧ RdAt w B 1 v L.length ys ∧ ∀ j, j < L.length → RdAt w B 1 (ys.getD j (.bool false)) (L.getD j []).length (nats (L.getD j []))
theorem NatsRd.on {w w' : World} {B : Nat} {v : Value} {L : List (List Nat)} (h : NatsRd w B v L) (hb : Below B w w') : NatsRd w' B v L := by
  obtain ⟨ys, hy, h1, h2⟩ := h
  exact ⟨ys, hy, h1.on hb, fun j hj => (h2 j hj).on hb⟩
theorem NatsRd.mono {w : World} {B B' : Nat} {v : Value} {L : List (List Nat)} (h : NatsRd w B v L) (hB : B ≤ B') : NatsRd w B' v L := by
  obtain ⟨ys, hy, h1, h2⟩ := h
  exact ⟨ys, hy, h1.mono hB, fun j hj => (h2 j hj).mono hB⟩
theorem NatsRd.up {w w' : World} {v : Value} {L : List (List Nat)} (h : NatsRd w w.heap.size v L) (hb : Below w.heap.size w w') : NatsRd w' w'.heap.size v L := (h.on hb).mono hb.size
theorem NatsOwn.rd {w : World} {B : Nat} {v : Value} {L : List (List Nat)} (h : NatsOwn w B v L) : NatsRd w w.heap.size v L := by
  obtain ⟨ys, hy, h1, h2⟩ := h
  exact ⟨ys, hy, by rw [← hy]; exact own_rd h1, fun j hj => own_rd (h2 j hj)⟩
theorem NatsRd.len {w : World} {B : Nat} {v : Value} {L : List (List Nat)} (h : NatsRd w B v L) : ∃ a cap, v = .slice a L.length cap := by
  obtain ⟨ys, hy, ⟨a, cap, e, -⟩, h2⟩ := h
  exact ⟨a, cap, e⟩
/-- The row j, and where it stands. -/
theorem NatsRd.row {w : World} {B : Nat} {a : Option Addr} {cap : Nat} {L : List (List Nat)} (h : NatsRd w B (.slice a L.length cap) L) (j : Nat) (hj : j < L.length) :
    ∃ b off ar cr, a = some ⟨b, off, none⟩ ∧ b < B ∧ w.cell? ⟨b, off + j, none⟩ = some (.slice ar (L.getD j []).length cr) ∧ RdAt w B 1 (.slice ar (L.getD j []).length cr) (L.getD j []).length (nats (L.getD j [])) := by
  obtain ⟨ys, hy, ⟨a', cap', e, f⟩, h2⟩ := h
  injection e with e1 e2 e3
  obtain ⟨b, off, eb, hlt, hc⟩ := f (by omega)
  have hr := h2 j hj
  obtain ⟨ar, cr, er, -⟩ := hr
  have hr := h2 j hj
  rw [er] at hr
  refine ⟨b, off, ar, cr, e1.trans eb, hlt, ?_, hr⟩
  rw [hc j (by omega), ← er]
  simp [List.getD, hy, hj]
/-- A function's values, as a list. -/
def mapI (m : Nat) (f : Nat → Int) : List Int := (List.range m).map f
theorem mapI_len (m : Nat) (f : Nat → Int) : (mapI m f).length = m := by simp [mapI]
theorem mapI_get (m : Nat) (f : Nat → Int) (i : Nat) (h : i < m) : (mapI m f)[i]? = some (f i) := by simp [mapI, h]
theorem mapI_set (m : Nat) (f g : Nat → Int) (i : Nat) (x : Int) (h : ∀ j, j < m → g j = if j = i then x else f j) : (mapI m f).set i x = mapI m g := by
  apply List.ext_getElem?
  intro j
  by_cases hj : j < m
  · rw [mapI_get m g j hj, h j hj, List.getElem?_set]
    by_cases e : i = j
    · subst e; simp [mapI_len, hj]
    · rw [if_neg e, if_neg (fun h => e h.symm), mapI_get m f j hj]
  · rw [List.getElem?_eq_none (by simp [mapI_len]; omega), List.getElem?_eq_none (by simp [mapI_len]; omega)]
/-- In which row a number lies. -/
def pt (L : List (List Nat)) (a : Nat) : Nat := L.findIdx fun l => decide (a ∈ l)
end Go.Proofs.Ytagaajlbkfkaiaa
/- Plain mathematics: rings of a renaming are closed; in which face a dart lies. -/
namespace Go.Proofs.Ytagaajlbkfkaiaa

theorem un_le (l : List Bool) (y : Nat) : un l y ≤ 1 := by unfold un; split <;> omega
theorem unseen_none {l : List Bool} (h : unseen l = 0) (x : Nat) : l.getD x true = true := by
  cases e : l.getD x true with
  | true => rfl
  | false => have := unseen_pos e; omega
theorem walkF_chain (f : Nat → Nat) : ∀ (m : Nat) (seen : List Bool) (x : Nat) (acc : List Nat), unseen seen ≤ m → (∀ i, i + 1 < acc.length → acc.getD (i + 1) 0 = f (acc.getD i 0)) → (0 < acc.length → x = f (acc.getD (acc.length - 1) 0)) →
    (∀ i, i + 1 < (walkF f m seen x acc).1.length → (walkF f m seen x acc).1.getD (i + 1) 0 = f ((walkF f m seen x acc).1.getD i 0)) ∧ (0 < (walkF f m seen x acc).1.length → un (walkF f m seen x acc).2 (f ((walkF f m seen x acc).1.getD ((walkF f m seen x acc).1.length - 1) 0)) = 0) := by
  intro m
  induction m with
  | zero =>
    intro seen x acc hu hc hx
    refine ⟨hc, fun h0 => ?_⟩
    show un seen (f (acc.getD (acc.length - 1) 0)) = 0
    rw [← hx h0]
    unfold un
    rw [if_pos (unseen_none (by omega) x)]
  | succ m ih =>
    intro seen x acc hu hc hx
    by_cases hs : seen.getD x true = true
    · rw [walkF_seen hs]
      refine ⟨hc, fun h0 => ?_⟩
      show un seen (f (acc.getD (acc.length - 1) 0)) = 0
      rw [← hx h0]
      unfold un
      rw [if_pos hs]
    · have hs' : seen.getD x true = false := by simpa using hs
      obtain ⟨e, hu2⟩ := walkF_more (f := f) (acc := acc) hs' hu
      rw [e]
      refine ih _ _ _ hu2 (fun i hi => ?_) (fun _ => ?_)
      · rw [List.length_append, List.length_singleton] at hi
        by_cases hi2 : i + 1 < acc.length
        · have e1 : (acc ++ [x]).getD (i + 1) 0 = acc.getD (i + 1) 0 := by simp [List.getD_eq_getElem?_getD, List.getElem?_append_left hi2]
          have e2 : (acc ++ [x]).getD i 0 = acc.getD i 0 := by simp [List.getD_eq_getElem?_getD, List.getElem?_append_left (show i < acc.length by omega)]
          rw [e1, e2]
          exact hc i hi2
        · have hl : acc.length = i + 1 := by omega
          have e1 : (acc ++ [x]).getD (i + 1) 0 = x := by rw [← hl]; simp [List.getD_eq_getElem?_getD]
          have e2 : (acc ++ [x]).getD i 0 = acc.getD i 0 := by simp [List.getD_eq_getElem?_getD, List.getElem?_append_left (show i < acc.length by omega)]
          rw [e1, e2, hx (by omega), hl]
          rfl
      · have e1 : (acc ++ [x]).getD ((acc ++ [x]).length - 1) 0 = x := by simp [List.getD_eq_getElem?_getD]
        rw [e1]
theorem mem_atZ {l : List Nat} {y : Nat} (h : y ∈ l) : ∃ i, i < l.length ∧ l.getD i 0 = y := by
  obtain ⟨i, hi, e⟩ := List.getElem_of_mem h
  exact ⟨i, hi, by rw [List.getD_eq_getElem?_getD, List.getElem?_eq_getElem hi]; exact e⟩
theorem at_mem {l : List Nat} {i : Nat} (h : i < l.length) : l.getD i 0 ∈ l := by
  rw [List.getD_eq_getElem?_getD, List.getElem?_eq_getElem h]
  exact List.getElem_mem h
theorem at_ne {l : List Nat} (h : ∀ y, l.count y ≤ 1) {i j : Nat} (hij : i < j) (hj : j < l.length) : l.getD i 0 ≠ l.getD j 0 := by
  have hn : l.Nodup := List.nodup_iff_count.2 h
  have := List.pairwise_iff_getElem.1 hn i j (by omega) hj hij
  rw [List.getD_eq_getElem?_getD, List.getElem?_eq_getElem (by omega), List.getD_eq_getElem?_getD, List.getElem?_eq_getElem hj]
  exact this
/-- Rings of a renaming are closed, and nothing that is not in them goes into them. -/
theorem rings_closed {f : Nat → Nat} {n : Nat} (hf : ∀ a, 1 ≤ a → a ≤ n → 1 ≤ f a ∧ f a ≤ n) (hi : ∀ a b, 1 ≤ a → a ≤ n → 1 ≤ b → b ≤ n → f a = f b → a = b) : ∀ a, a ≤ n →
    (∀ l, l ∈ (walksTo f n a).1 → ∀ y, y ∈ l → f y ∈ l) ∧ (∀ y, 1 ≤ y → y ≤ n → un (walksTo f n a).2 (f y) = 0 → un (walksTo f n a).2 y = 0) ∧
    (∀ l, l ∈ (walksTo f n a).1 → (∀ i, i + 1 < l.length → l.getD (i + 1) 0 = f (l.getD i 0)) ∧ f (l.getD (l.length - 1) 0) = l.getD 0 0) := by
  intro a
  induction a with
  | zero =>
    intro _
    refine ⟨fun l hl => absurd hl (by simp [walksTo]), fun y h1 h2 h3 => ?_, fun l hl => absurd hl (by simp [walksTo])⟩
    have h4 := hf y h1 h2
    exfalso
    have : un (walksTo f n 0).2 (f y) = 1 := by
      simp [walksTo, un, List.getD_eq_getElem?_getD, show f y < n + 1 by omega]
    omega
  | succ a ih =>
    intro ha
    obtain ⟨i1, i2, i3⟩ := ih (by omega)
    have hin := walksTo_mem hf a (by omega)
    generalize hr : walksTo f n a = r at i1 i2 i3 hin
    have hlen : r.2.length = n + 1 := by rw [← hr]; exact walksTo_len f n a
    have hch := walkF_chain f (n + 1) r.2 (a + 1) [] (by have := unseen_le r.2; omega) (fun i hi => by simp at hi) (fun h0 => by simp at h0)
    have hmem := walkF_mem hf (n + 1) r.2 (a + 1) [] (by omega) ha (fun y hy => by cases hy)
    have hcnt := walkF_count f (n + 1) r.2 (a + 1) []
    have hkeep := walkF_keep f (n + 1) r.2 (a + 1) []
    have e : walksTo f n (a + 1) = (if (walkF f (n + 1) r.2 (a + 1) []).1 = [] then r.1 else r.1 ++ [(walkF f (n + 1) r.2 (a + 1) []).1], (walkF f (n + 1) r.2 (a + 1) []).2) := by simp only [walksTo, hr]
    rw [e]
    generalize walkF f (n + 1) r.2 (a + 1) [] = s at hch hmem hcnt hkeep
    obtain ⟨l, sn⟩ := s
    simp only [List.count_nil, Nat.zero_add] at hch hmem hcnt hkeep ⊢
    have hc1 : ∀ y, l.count y ≤ 1 := fun y => by have := hcnt y; have := un_le r.2 y; omega
    have hin1 : ∀ y, y ∈ l → un r.2 y = 1 ∧ un sn y = 0 := fun y hy => by
      have h1 : 1 ≤ l.count y := List.one_le_count_iff.2 hy
      have h2 := hcnt y
      have h3 := un_le r.2 y
      omega
    -- what stands behind the last is the first
    have hend : 0 < l.length → f (l.getD (l.length - 1) 0) = l.getD 0 0 := fun h0 => by
      have hlast := at_mem (l := l) (i := l.length - 1) (by omega)
      have hb := hmem _ hlast
      have hz := hch.2 h0
      have hnz : un r.2 (f (l.getD (l.length - 1) 0)) ≠ 0 := fun q => by
        have := i2 _ hb.1 hb.2 q
        have := (hin1 _ hlast).1
        omega
      have hz1 : f (l.getD (l.length - 1) 0) ∈ l := by
        have h2 := hcnt (f (l.getD (l.length - 1) 0))
        refine List.one_le_count_iff.1 ?_
        omega
      obtain ⟨j, hj, ej⟩ := mem_atZ hz1
      cases j with
      | zero => exact ej.symm
      | succ j =>
        exfalso
        have h5 := hch.1 j hj
        rw [ej] at h5
        have hbj := hmem _ (at_mem (l := l) (i := j) (by omega))
        have h6 := hi _ _ hb.1 hb.2 hbj.1 hbj.2 h5
        exact at_ne hc1 (i := j) (j := l.length - 1) (by omega) (by omega) h6.symm
    refine ⟨?_, fun y h1 h2 h3 => ?_, fun l' hl' => ?_⟩
    · intro l' hl' y hy
      by_cases hnil : l = []
      · rw [if_pos hnil] at hl'
        exact i1 l' hl' y hy
      · rw [if_neg hnil] at hl'
        rcases List.mem_append.1 hl' with h | h
        · exact i1 l' h y hy
        · obtain rfl := List.mem_singleton.1 h
          obtain ⟨i, hil, rfl⟩ := mem_atZ hy
          by_cases hlast : i + 1 < l'.length
          · rw [← hch.1 i hlast]
            exact at_mem hlast
          · have hi1 : i = l'.length - 1 := by omega
            rw [hi1, hend (by omega)]
            exact at_mem (by omega)
    · by_cases hq : un r.2 (f y) = 0
      · exact hkeep y (i2 y h1 h2 hq)
      · have hmy : f y ∈ l := List.one_le_count_iff.1 (by have := hcnt (f y); omega)
        obtain ⟨j, hj, ej⟩ := mem_atZ hmy
        cases j with
        | zero =>
          have hlast := at_mem (l := l) (i := l.length - 1) (by omega)
          have hb := hmem _ hlast
          have := hi y _ h1 h2 hb.1 hb.2 (by rw [hend (by omega), ej])
          rw [this]
          exact (hin1 _ hlast).2
        | succ j =>
          have h5 := hch.1 j hj
          rw [ej] at h5
          have hbj := hmem _ (at_mem (l := l) (i := j) (by omega))
          have := hi y _ h1 h2 hbj.1 hbj.2 h5
          rw [this]
          exact (hin1 _ (at_mem (by omega))).2
    · by_cases hnil : l = []
      · rw [if_pos hnil] at hl'
        exact i3 l' hl'
      · rw [if_neg hnil] at hl'
        rcases List.mem_append.1 hl' with h | h
        · exact i3 l' h
        · obtain rfl := List.mem_singleton.1 h
          have h0 : 0 < l'.length := by
            cases l' with
            | nil => exact absurd rfl hnil
            | cons => simp
          exact ⟨hch.1, hend h0⟩
theorem fd_inj {C : List Cr} {loops : Int} (hm : mayD C loops = true) (i j : Nat) (h1 : 1 ≤ i) (h2 : i ≤ 4 * C.length) (h3 : 1 ≤ j) (h4 : j ≤ 4 * C.length) (e : fd C i = fd C j) : i = j := by
  obtain ⟨p1, p2, p3⟩ := d_may hm i h1 h2
  obtain ⟨q1, q2, q3⟩ := d_may hm j h3 h4
  obtain ⟨a1, a2, a3, a4⟩ := fd_may hm i h1 h2
  obtain ⟨b1, b2, b3, b4⟩ := fd_may hm j h3 h4
  rw [e] at a1 a2
  have hA := dA_le b3 b4
  have e1 := end_one hm _ hA.1 hA.2 _ _ _ p2 (Nat.mod_lt _ (by decide)) a1 a2
  have e2 := end_one hm _ hA.1 hA.2 _ _ _ q2 (Nat.mod_lt _ (by decide)) b1 b2
  rw [e1] at e2
  have hcc : dC C i = dC C j := by have := congrArg Prod.fst e2; simp only at this; omega
  have hss : dS C i = dS C j := by have := congrArg Prod.snd e2; simp only at this; omega
  have u := en_may hm (dA i) (!dB i) (dA_le h1 h2).1 (dA_le h1 h2).2
  have v := en_may hm (dA j) (!dB j) (dA_le h3 h4).1 (dA_le h3 h4).2
  have u1 : (C.getD (dC C i) Cr.none).arc (dS C i) = (dA i : Int) := u.2.2.2.1
  have v1 : (C.getD (dC C j) Cr.none).arc (dS C j) = (dA j : Int) := v.2.2.2.1
  have u2 : (C.getD (dC C i) Cr.none).comes (dS C i) = (!dB i) := u.2.2.2.2
  have v2 : (C.getD (dC C j) Cr.none).comes (dS C j) = (!dB j) := v.2.2.2.2
  rw [hcc, hss] at u1 u2
  have h5 : dA i = dA j := by omega
  have h6 : dB i = dB j := by
    rw [u2] at v2
    revert v2
    cases dB i <;> cases dB j <;> simp
  rw [← mk_d h1, ← mk_d h3, h5, h6]
/-- The face of a dart. -/
def fo (C : List Cr) (j : Nat) : Nat := pt (facesM C) j
end Go.Proofs.Ytagaajlbkfkaiaa
/- One operation of a region that draws its order, taken by hand. -/
namespace Go.Proofs.Ytagaajlbkfkaiaa
open Go.RowKit

theorem take_q {P : Program} {md : Region.Mode} {ops : Array Oper} {Q : Exit → Act → World → Prop} {S : World → Prop} {i : Nat} (d : Nat) {oi : Oper} {v : Value} {fuel : Nat} {listed : Array Bool} {ts : Array Value} {ds : List Deferred} {w : World} (hi : ops[i]? = some oi) (hdst : oi.dst = some d)
    (hs : Region.noSelect ops = true) (hf : Region.free md ops listed i = true) (hr : (Region.ready md ops listed).contains i = true) (hq : ∀ x a w', Q (.panic x) (Act.put a oi.dst v) w' → Q (.panic x) a w') (hy : YieldsIf P ops S oi v { tmps := ts, defers := ds }) (hS : S w)
    (h : wpAnyH P md ops Q S fuel (listed.setIfInBounds i true) { tmps := ts.setIfInBounds d v, defers := ds } w) : wpAnyH P md ops Q S (fuel + 1) listed { tmps := ts, defers := ds } w := by
  refine wpAnyH_take hi hs hf hr hq hy hS ?_
  rw [hdst]
  exact h
end Go.Proofs.Ytagaajlbkfkaiaa
/- Moves: the face along a dart, as the dart's iterates. -/
namespace Go.Proofs.Ytagaajlbkfkaiaa

end Go.Proofs.Ytagaajlbkfkaiaa
/- Parts that run the other way round; the walk of ref.within. -/
namespace Go.Proofs.Ytagaajlbkfkaiaa
open Go.RowKit

/-- Does the number stand in the list? -/
def wi (l : List Nat) (z : Int) : Bool := l.any fun y => decide ((y : Int) = z)
end Go.Proofs.Ytagaajlbkfkaiaa
/- Slices as they are handed in, and copies of them. -/
namespace Go.Proofs.Ytagaajlbkfkaiaa
open Go.RowKit

/-- A slice that is handed in: nil; with no element; or its cells lie there. -/
def InAt (w : World) (B size : Nat) (v : Value) (n : Nat) (xs : List Value) : Prop :=
  (v = .slice none 0 0 ∧ n = 0) ∨ (∃ ad cap, v = .slice (some ad) 0 cap ∧ n = 0) ∨ ∃ b off cap, v = .slice (some ⟨b, off, none⟩) n cap ∧ b < B ∧ ∀ j, j < n * size → w.cell? ⟨b, off + j, none⟩ = xs[j]?
theorem InAt.on {w w' : World} {B size n : Nat} {v : Value} {xs : List Value} (h : InAt w B size v n xs) (hb : Below B w w') : InAt w' B size v n xs := by
  rcases h with h | h | ⟨b, off, cap, rfl, hlt, hc⟩
  · exact Or.inl h
  · exact Or.inr (Or.inl h)
  · exact Or.inr (Or.inr ⟨b, off, cap, rfl, hlt, fun j hj => bcell hb hlt (hc j hj)⟩)
/-- What a call owns lies there too. -/
theorem own_in {w : World} {B e size n : Nat} {v : Value} {xs : List Value} (h : w.ownsRow B e size v n xs) : InAt w w.heap.size size v n xs := by
  have h0 := h
  rcases h.2 with ⟨rfl, h1⟩ | ⟨g, cap, cur, rfl, _, _, _⟩
  · exact Or.inl ⟨rfl, h1⟩
  · exact Or.inr (Or.inr ⟨g, 0, cap, rfl, (h0.lt g rfl).2, fun j hj => by rw [Nat.zero_add]; exact h0.cellAt j hj⟩)
theorem InAt.up {w w' : World} {size n : Nat} {v : Value} {xs : List Value} (h : InAt w w.heap.size size v n xs) (hb : Below w.heap.size w w') : InAt w' w'.heap.size size v n xs := by
  rcases h.on hb with h | h | ⟨b, off, cap, e, hlt, hc⟩
  · exact Or.inl h
  · exact Or.inr (Or.inl h)
  · exact Or.inr (Or.inr ⟨b, off, cap, e, Nat.lt_of_lt_of_le hlt hb.size, hc⟩)
end Go.Proofs.Ytagaajlbkfkaiaa

/- Several texts of the proof, one behind the other. -/
import Derived.Test.YtlcogbcpmneknaaG7P
/- A drawing in a world; the walks of Drawing.Above, Drawing.Leaving and Drawing.Ahead. -/
namespace Go.Proofs.Ytlcogbcpmneknaa
open Go.RowKit

theorem alloc_at {w : World} {o : Obj} {k : Nat} (h : k = w.heap.size) : (w.alloc o).heap[k]? = some o := by
  rw [h]
  exact Array.getElem?_push_size
theorem alloc_old {w : World} {o p : Obj} {k : Nat} (h : w.heap[k]? = some p) : (w.alloc o).heap[k]? = some p := by
  have hk : k < w.heap.size := (Array.getElem?_eq_some_iff.1 h).1
  exact ((World.grownBy_alloc w o none).block k hk (by simp)).trans h
/-- A drawing of the crossings C in a world: its crossings, and its two lists of spots. -/
structure Dr (w : World) (a : Option Addr) (cap : Nat) (C : List Cr) (gF gT : Nat) : Prop where
  crs : Crs w w.heap.size (.slice a C.length cap) C
  ltF : gF < w.heap.size
  ltT : gT < w.heap.size
  from_ : TermsAt w gF 0 (ends C false C.length 0)
  to : TermsAt w gT 0 (ends C true C.length 0)
theorem Crs.on {w w' : World} {B : Nat} {v : Value} {C : List Cr} (h : Crs w B v C) (hb : Below B w w') : Crs w' B v C := by
  obtain ⟨a, cap, rfl, hn, g⟩ := h
  refine ⟨a, cap, rfl, hn, fun h0 => ?_⟩
  obtain ⟨b, off, rfl, hlt, hC⟩ := g h0
  exact ⟨b, off, rfl, hlt, hC.on hb hlt⟩
theorem Crs.mono {w : World} {B B' : Nat} {v : Value} {C : List Cr} (h : Crs w B v C) (hB : B ≤ B') : Crs w B' v C := by
  obtain ⟨a, cap, rfl, hn, g⟩ := h
  refine ⟨a, cap, rfl, hn, fun h0 => ?_⟩
  obtain ⟨b, off, rfl, hlt, hC⟩ := g h0
  exact ⟨b, off, rfl, Nat.lt_of_lt_of_le hlt hB, hC⟩
theorem Crs.up {w w' : World} {v : Value} {C : List Cr} (h : Crs w w.heap.size v C) (hb : Below w.heap.size w w') : Crs w' w'.heap.size v C := (h.on hb).mono hb.size
theorem Dr.on {w w' : World} {a : Option Addr} {cap : Nat} {C : List Cr} {gF gT : Nat} (h : Dr w a cap C gF gT) (hb : Below w.heap.size w w') : Dr w' a cap C gF gT :=
  ⟨h.crs.up hb, Nat.lt_of_lt_of_le h.ltF hb.size, Nat.lt_of_lt_of_le h.ltT hb.size, h.from_.on hb h.ltF, h.to.on hb h.ltT⟩
theorem Dr.cross {w : World} {a : Option Addr} {cap : Nat} {C : List Cr} {gF gT : Nat} (h : Dr w a cap C gF gT) (hp : 0 < C.length) : ∃ b off, a = some ⟨b, off, none⟩ ∧ b < w.heap.size ∧ CrossAt w b off C := by
  obtain ⟨a', cap', e, _, g⟩ := h.crs
  injection e with e1 e2 e3
  obtain ⟨b, off, h1, h2, h3⟩ := g hp
  exact ⟨b, off, by rw [e1, h1], h2, h3⟩
theorem Dr.toAt {w : World} {a : Option Addr} {cap : Nat} {C : List Cr} {gF gT : Nat} {loops : Int} (h : Dr w a cap C gF gT) (hm : mayD C loops = true) (x : Nat) (h1 : 1 ≤ x) (h2 : x ≤ 2 * C.length) :
    w.cell? ⟨gT, x * 2, none⟩ = some (.int .i64 (toC C x : Nat)) ∧ w.cell? ⟨gT, x * 2 + 1, none⟩ = some (.int .i64 (toS C x : Nat)) := by
  have hT := h.to x (by rw [ends_length]; omega)
  rw [ends_at C true C.length 0 x h1 h2, Nat.zero_add] at hT
  have e : endAh C x true C.length 0 = endTo C x true C.length := rfl
  rw [e, (to_may hm x h1 h2).1] at hT
  exact hT
/-- The drawing as a value. -/
def drV (a : Option Addr) (cap : Nat) (C : List Cr) (loops : Int) (gF cF gT cT : Nat) : Value := .agg #[.slice a C.length cap, .int .i64 loops, .slice (some ⟨gF, 0, none⟩) (2 * C.length + 1) cF, .slice (some ⟨gT, 0, none⟩) (2 * C.length + 1) cT]

set_option maxHeartbeats 1000000 in
set_option maxRecDepth 100000 in
theorem across_any (i : Int) (k : Nat) (w : World) (hk : k < 4) :
    Calls Try.prog 47 #[.agg #[.int .i64 i, .int .i64 k]] w fun e w' => e = .returned (.agg #[.int .i64 i, .int .i64 ((k + 2) % 4 : Nat)]) ∧ Below w.heap.size w w' := by
  obtain ⟨k2, hk2⟩ : ∃ k2 : Nat, k2 = (k + 2) % 4 := ⟨_, rfl⟩
  have e1 : IntKind.i64.wrap ((k : Int) + 2) = (k : Int) + 2 := IntWalk.i64_in _ (by omega)
  have e2 : ((k : Int) + 2).tmod 4 = (k2 : Int) := by rw [Int.tmod_eq_emod_of_nonneg (by omega)]; omega
  rw [← hk2]
  clear hk2
  have hB : Below w.heap.size w ((w.alloc (.cells #[.int .i64 i, .int .i64 k] 90)).alloc (.cells #[.int .i64 i, .int .i64 k2] 90)) := below2 _ _ _
  have hG : ((w.alloc (.cells #[.int .i64 i, .int .i64 k] 90)).alloc (.cells #[.int .i64 i, .int .i64 k2] 90)).heap[w.heap.size + 1]? = some (.cells #[.int .i64 i, .int .i64 k2] 90 (0, 0)) := alloc_at (by simp)
  have x0 := block_cell (i := 0) (v := .int .i64 i) hG rfl
  have x1 := block_cell (i := 1) (v := .int .i64 k2) hG rfl
  have HB : Hid (Below w.heap.size w ((w.alloc (.cells #[.int .i64 i, .int .i64 k] 90)).alloc (.cells #[.int .i64 i, .int .i64 k2] 90))) := hB
  clear hB hG
  go_enter Try.func47, Try.ntmps47
  go_wp2
  exact bodyPost_ret (v := .agg #[.int .i64 i, .int .i64 k2]) (by simp [results, Try.results47, go_sem, x0, x1]) rfl ⟨rfl, HB.out⟩

set_option maxHeartbeats 4000000 in
set_option maxRecDepth 100000 in
theorem leaving_any (b off cap : Nat) (C : List Cr) (loops : Int) (vF vT : Value) (i k : Nat) (w : World) (hi : i < C.length) (hk : k < 4) (hbw : b < w.heap.size) (hC : CrossAt w b off C) :
    Calls Try.prog 46 #[.agg #[.slice (some ⟨b, off, none⟩) C.length cap, .int .i64 loops, vF, vT], .agg #[.int .i64 i, .int .i64 k]] w fun e w' => e = .returned (.agg #[.int .i64 ((C.getD i Cr.none).arc k), .bool ((C.getD i Cr.none).comes k)]) ∧ Below w.heap.size w w' := by
  obtain ⟨c0, c1, c2, c3, c4⟩ := hC i hi
  clear hC
  generalize C.getD i Cr.none = x at c0 c1 c2 c3 c4
  have hB3 : Below w.heap.size w (((w.alloc (.cells #[.slice (some ⟨b, off, none⟩) C.length cap, .int .i64 loops, vF, vT] 39)).alloc (.cells #[.int .i64 i, .int .i64 k] 90)).alloc (.cells #[.int .i64 0, .bool false] 67)) := below3 _ _ _ _
  have e0 := bcell hB3 hbw c0
  have e1 := bcell hB3 hbw c1
  have e2 := bcell hB3 hbw c2
  have e3 := bcell hB3 hbw c3
  have e4 := bcell hB3 hbw c4
  clear hB3 c0 c1 c2 c3 c4
  go_enter Try.func46, Try.ntmps46
  go_wp2
  clear e0 e1 e2 e3 e4
  obtain ⟨W0, hW0⟩ : ∃ W0, W0 = (((w.alloc (.cells #[.slice (some ⟨b, off, none⟩) C.length cap, .int .i64 loops, vF, vT] 39)).alloc (.cells #[.int .i64 i, .int .i64 k] 90)).alloc (.cells #[.int .i64 0, .bool false] 67)).alloc (.cells #[.int .i64 x.a, .int .i64 x.b, .int .i64 x.c, .int .i64 x.d, .bool x.plus] 58) := ⟨_, rfl⟩
  rw [← hW0]
  have hs0 : W0.heap.size = w.heap.size + 4 := by rw [hW0]; simp
  have HB0 : Hid (Below w.heap.size w W0) := (by rw [hW0]; exact (below3 _ _ _ _).alloc (by simp; omega) _ : Below w.heap.size w W0)
  have HT1 : Hid (W0.heap[w.heap.size + 1]? = some (.cells #[.int .i64 i, .int .i64 k] 90 (0, 0))) := (by rw [hW0]; exact alloc_old (alloc_old (alloc_at (by simp))) : W0.heap[w.heap.size + 1]? = some (.cells #[.int .i64 i, .int .i64 k] 90 (0, 0)))
  have HT2 : Hid (W0.heap[w.heap.size + 1 + 1]? = some (.cells #[.int .i64 0, .bool false] 67 (0, 0))) := (by rw [hW0]; exact alloc_old (alloc_at (by simp)) : W0.heap[w.heap.size + 1 + 1]? = some (.cells #[.int .i64 0, .bool false] 67 (0, 0)))
  have HT3 : Hid (W0.heap[w.heap.size + 1 + 1 + 1]? = some (.cells #[.int .i64 x.a, .int .i64 x.b, .int .i64 x.c, .int .i64 x.d, .bool x.plus] 58 (0, 0))) := (by rw [hW0]; exact alloc_at (by simp) : W0.heap[w.heap.size + 1 + 1 + 1]? = some (.cells #[.int .i64 x.a, .int .i64 x.b, .int .i64 x.c, .int .i64 x.d, .bool x.plus] 58 (0, 0)))
  clear hW0
  have HF : Hid (∀ w', Below W0.heap.size W0 w' → w'.cell? ⟨w.heap.size + 1 + 1 + 1, 0, none⟩ = some (.int .i64 x.a) ∧ w'.cell? ⟨w.heap.size + 1 + 1 + 1, 1, none⟩ = some (.int .i64 x.b) ∧ w'.cell? ⟨w.heap.size + 1 + 1 + 1, 2, none⟩ = some (.int .i64 x.c) ∧ w'.cell? ⟨w.heap.size + 1 + 1 + 1, 3, none⟩ = some (.int .i64 x.d) ∧ w'.cell? ⟨w.heap.size + 1 + 1 + 1, 4, none⟩ = some (.bool x.plus) ∧ w'.cell? ⟨w.heap.size + 1, 1, none⟩ = some (.int .i64 k)) := fun w' hb => by
    have g3 := (hb.block _ (by omega)).trans HT3.out
    have g1 := (hb.block _ (by omega)).trans HT1.out
    exact ⟨block_cell g3 rfl, block_cell g3 rfl, block_cell g3 rfl, block_cell g3 rfl, block_cell g3 rfl, block_cell g1 rfl⟩
  have HFS : Hid (∀ wX u v, Below W0.heap.size W0 wX → (fun w' => w'.cell? ⟨w.heap.size + 1 + 1 + 1, 0, none⟩ = some (.int .i64 x.a) ∧ w'.cell? ⟨w.heap.size + 1 + 1 + 1, 1, none⟩ = some (.int .i64 x.b) ∧ w'.cell? ⟨w.heap.size + 1 + 1 + 1, 2, none⟩ = some (.int .i64 x.c) ∧ w'.cell? ⟨w.heap.size + 1 + 1 + 1, 3, none⟩ = some (.int .i64 x.d) ∧ w'.cell? ⟨w.heap.size + 1 + 1 + 1, 4, none⟩ = some (.bool x.plus) ∧ w'.cell? ⟨w.heap.size + 1, 1, none⟩ = some (.int .i64 k)) (st2 wX (w.heap.size + 1 + 1) 0 u v)) := fun wX u v hb => by
    have hg := st2_grown wX (w.heap.size + 1 + 1) 0 u v
    have hsz := hb.size
    have g3 := (hg.block (w.heap.size + 1 + 1 + 1) (by omega) (fun e => by have := Option.some.inj e; omega)).trans ((hb.block _ (by omega)).trans HT3.out)
    have g1 := (hg.block (w.heap.size + 1) (by omega) (fun e => by have := Option.some.inj e; omega)).trans ((hb.block _ (by omega)).trans HT1.out)
    exact ⟨block_cell g3 rfl, block_cell g3 rfl, block_cell g3 rfl, block_cell g3 rfl, block_cell g3 rfl, block_cell g1 rfl⟩
  have HZ : Hid (∀ wX, Below W0.heap.size W0 wX → wX.cell? ⟨w.heap.size + 1 + 1, 0, none⟩ = some (.int .i64 0) ∧ wX.cell? ⟨w.heap.size + 1 + 1, 1, none⟩ = some (.bool false) ∧ wX.frozen? ⟨w.heap.size + 1 + 1, 0, none⟩ = false ∧ wX.frozen? ⟨w.heap.size + 1 + 1, 1, none⟩ = false) := fun wX hb => by
    have g2 := (hb.block _ (by omega)).trans HT2.out
    exact ⟨block_cell g2 rfl, block_cell g2 rfl, block_frozen g2, block_frozen g2⟩
  have HD0 : Hid (Below W0.heap.size W0 W0.drew) := (Below.refl _ _).drew
  obtain ⟨t0, t1, t2, t3, t4, t5⟩ := HF.out W0 (Below.refl _ _)
  have hix := index_arr x k hk
  go_region_held3 (fun w' => w'.cell? ⟨w.heap.size + 1 + 1 + 1, 0, none⟩ = some (.int .i64 x.a) ∧ w'.cell? ⟨w.heap.size + 1 + 1 + 1, 1, none⟩ = some (.int .i64 x.b) ∧ w'.cell? ⟨w.heap.size + 1 + 1 + 1, 2, none⟩ = some (.int .i64 x.c) ∧ w'.cell? ⟨w.heap.size + 1 + 1 + 1, 3, none⟩ = some (.int .i64 x.d) ∧ w'.cell? ⟨w.heap.size + 1 + 1 + 1, 4, none⟩ = some (.bool x.plus) ∧ w'.cell? ⟨w.heap.size + 1, 1, none⟩ = some (.int .i64 k)) (first | exact HF.out _ HY.out | exact HF.out _ HA.out | exact HF.out _ HD0.out | exact HF.out _ (Below.refl _ _) | exact HFS.out _ _ _ HY.out | exact HFS.out _ _ _ HA.out) (first
    | (go_at_call 53; refine (arcs_any x _).mono ?_; rintro e9 wA ⟨rfl, hbA⟩
       first
         | have HA : Hid (Below W0.heap.size W0 wA) := HY.out.trans (hbA.mono HY.out.size)
         | have HA : Hid (Below W0.heap.size W0 wA) := HD0.out.trans hbA
       obtain ⟨a0, a1, a2, a3, a4, a5⟩ := HF.out wA HA.out
       obtain ⟨b0, b1, b2, b3⟩ := HZ.out wA HA.out
       clear hbA)
    | (go_at_call 54; refine (comesIn_any x k _ hk).mono ?_; rintro e9 wC ⟨rfl, hbC⟩
       first
         | have HY : Hid (Below W0.heap.size W0 wC) := HA.out.trans (hbC.mono HA.out.size)
         | have HY : Hid (Below W0.heap.size W0 wC) := HD0.out.trans hbC
       obtain ⟨p0, p1, p2, p3, p4, p5⟩ := HF.out wC HY.out
       obtain ⟨q0, q1, q2, q3⟩ := HZ.out wC HY.out
       clear hbC))
  all_goals first
    | (have hX := set_block (i := 1) (u := .bool (x.comes k)) (set_block (i := 0) (u := .int .i64 (x.arc k)) ((HY.out.block _ (by omega)).trans HT2.out))
       have x0 := block_cell (i := 0) (v := .int .i64 (x.arc k)) hX rfl
       have x1 := block_cell (i := 1) (v := .bool (x.comes k)) hX rfl
       go_wp2
       exact bodyPost_ret (v := .agg #[.int .i64 (x.arc k), .bool (x.comes k)]) (by simp [results, Try.results46, go_sem, x0, x1]) rfl ⟨rfl, (HB0.out.trans (HY.out.mono (by omega))).grown (st2_grown wC (w.heap.size + 1 + 1) 0 (.int .i64 (x.arc k)) (.bool (x.comes k))) (by have := HY.out.size; omega) (fun q hq => by have := Option.some.inj hq; omega)⟩)
    | (have hX := set_block (i := 1) (u := .bool (x.comes k)) (set_block (i := 0) (u := .int .i64 (x.arc k)) ((HA.out.block _ (by omega)).trans HT2.out))
       have x0 := block_cell (i := 0) (v := .int .i64 (x.arc k)) hX rfl
       have x1 := block_cell (i := 1) (v := .bool (x.comes k)) hX rfl
       go_wp2
       exact bodyPost_ret (v := .agg #[.int .i64 (x.arc k), .bool (x.comes k)]) (by simp [results, Try.results46, go_sem, x0, x1]) rfl ⟨rfl, (HB0.out.trans (HA.out.mono (by omega))).grown (st2_grown wA (w.heap.size + 1 + 1) 0 (.int .i64 (x.arc k)) (.bool (x.comes k))) (by have := HA.out.size; omega) (fun q hq => by have := Option.some.inj hq; omega)⟩)

theorem field_dart (a : Int) (p : Bool) (w : World) : (Instr.field 67 (.agg #[.int .i64 a, .bool p]) 0).run Try.prog w = .ok (.int .i64 a) w := by
  simp [Instr.field, run_underlying Try.underlying67, go_sem, asAgg]

set_option maxHeartbeats 2000000 in
set_option maxRecDepth 100000 in
theorem ahead_any (a : Option Addr) (cap : Nat) (C : List Cr) (loops : Int) (gF cF gT cT : Nat) (x : Nat) (w : World) (hm : mayD C loops = true) (h1 : 1 ≤ x) (h2 : x ≤ 2 * C.length) (hD : Dr w a cap C gF gT) :
    Calls Try.prog 33 #[drV a cap C loops gF cF gT cT, .int .i64 x] w fun e w' => e = .returned (.int .i64 (nx C x : Nat)) ∧ Below w.heap.size w w' := by
  obtain ⟨b, off, rfl, hbw, hC⟩ := hD.cross (by omega)
  unfold drV
  have hT := hD.toAt hm x h1 h2
  have c0 := hT.1
  have c1 := hT.2
  have hlt := hD.ltT
  obtain ⟨-, hi, hk, -, -⟩ := to_may hm x h1 h2
  have HNX : Hid ((C.getD (toC C x) Cr.none).arc ((toS C x + 2) % 4) = (nx C x : Int)) := (nx_may hm x h1 h2).1
  have HC : Hid (CrossAt w b off C) := hC
  clear hT hD hm hC
  generalize toS C x = k at c1 hk HNX
  generalize toC C x = i at c0 hi HNX
  generalize nx C x = z at HNX
  have hx : x < 2 * C.length + 1 := by omega
  obtain ⟨k2, hk2⟩ : ∃ k2 : Nat, k2 = (k + 2) % 4 := ⟨_, rfl⟩
  have e1 : IntKind.i64.wrap ((k : Int) + 2) = (k : Int) + 2 := IntWalk.i64_in _ (by omega)
  have e2 : ((k : Int) + 2).tmod 4 = (k2 : Int) := by rw [Int.tmod_eq_emod_of_nonneg (by omega)]; omega
  have hk24 : k2 < 4 := by omega
  rw [← hk2] at HNX
  have hfd := field_dart (z : Int)
  obtain ⟨X, hX⟩ : ∃ X, X = w.alloc (.cells #[.slice (some ⟨b, off, none⟩) C.length cap, .int .i64 loops, .slice (some ⟨gF, 0, none⟩) (2 * C.length + 1) cF, .slice (some ⟨gT, 0, none⟩) (2 * C.length + 1) cT] 39) := ⟨_, rfl⟩
  have HX : Hid (X = w.alloc (.cells #[.slice (some ⟨b, off, none⟩) C.length cap, .int .i64 loops, .slice (some ⟨gF, 0, none⟩) (2 * C.length + 1) cF, .slice (some ⟨gT, 0, none⟩) (2 * C.length + 1) cT] 39)) := hX
  have hsX : X.heap.size = w.heap.size + 1 := by rw [hX]; simp
  have HB1 : Hid (Below w.heap.size w X) := (by rw [hX]; exact (Below.refl _ _).alloc (Nat.le_refl _) _ : Below w.heap.size w X)
  have HG1 : Hid (X.heap[w.heap.size]? = some (.cells #[.slice (some ⟨b, off, none⟩) C.length cap, .int .i64 loops, .slice (some ⟨gF, 0, none⟩) (2 * C.length + 1) cF, .slice (some ⟨gT, 0, none⟩) (2 * C.length + 1) cT] 39 (0, 0))) := (by rw [hX]; exact alloc_at rfl : X.heap[w.heap.size]? = some (.cells #[.slice (some ⟨b, off, none⟩) C.length cap, .int .i64 loops, .slice (some ⟨gF, 0, none⟩) (2 * C.length + 1) cF, .slice (some ⟨gT, 0, none⟩) (2 * C.length + 1) cT] 39 (0, 0)))
  clear hX
  have HK : Hid (∀ w', Below X.heap.size X w' → w'.cell? ⟨w.heap.size, 0, none⟩ = some (.slice (some ⟨b, off, none⟩) C.length cap) ∧ w'.cell? ⟨w.heap.size, 1, none⟩ = some (.int .i64 loops) ∧ w'.cell? ⟨w.heap.size, 2, none⟩ = some (.slice (some ⟨gF, 0, none⟩) (2 * C.length + 1) cF) ∧ w'.cell? ⟨w.heap.size, 3, none⟩ = some (.slice (some ⟨gT, 0, none⟩) (2 * C.length + 1) cT) ∧ w'.cell? ⟨gT, x * 2, none⟩ = some (.int .i64 i) ∧ w'.cell? ⟨gT, x * 2 + 1, none⟩ = some (.int .i64 k)) := fun w' hb => by
    have g := (hb.block _ (by omega)).trans HG1.out
    have hb2 := HB1.out.trans (hb.mono (by omega))
    exact ⟨block_cell g rfl, block_cell g rfl, block_cell g rfl, block_cell g rfl, bcell hb2 hlt c0, bcell hb2 hlt c1⟩
  have HD0 : Hid (Below X.heap.size X X.drew) := (Below.refl _ _).drew
  have HAC : Hid (∀ W : World, Calls Try.prog 47 #[.agg #[.int .i64 i, .int .i64 k]] W fun e w' => e = .returned (.agg #[.int .i64 i, .int .i64 (k2 : Nat)]) ∧ Below W.heap.size W w') := fun W => (by rw [hk2]; exact across_any i k W hk)
  clear hk2 c0 c1
  obtain ⟨t0, t1, t2, t3, t4, t5⟩ := HK.out X (Below.refl _ _)
  have hx0 : (0 : Int) ≤ (x : Int) := by omega
  have hx9 : (x : Int) < 2 * (C.length : Int) + 1 := by omega
  go_enter Try.func33, Try.ntmps33
  go_wp2
  rw [← HX.out]
  go_region_held3 (fun w' => w'.cell? ⟨w.heap.size, 0, none⟩ = some (.slice (some ⟨b, off, none⟩) C.length cap) ∧ w'.cell? ⟨w.heap.size, 1, none⟩ = some (.int .i64 loops) ∧ w'.cell? ⟨w.heap.size, 2, none⟩ = some (.slice (some ⟨gF, 0, none⟩) (2 * C.length + 1) cF) ∧ w'.cell? ⟨w.heap.size, 3, none⟩ = some (.slice (some ⟨gT, 0, none⟩) (2 * C.length + 1) cT) ∧ w'.cell? ⟨gT, x * 2, none⟩ = some (.int .i64 i) ∧ w'.cell? ⟨gT, x * 2 + 1, none⟩ = some (.int .i64 k)) (first | exact HK.out _ HD0.out | exact HK.out _ HL.out | exact HK.out _ HA.out) (first
    | (go_at_call 46; refine (leaving_any b off cap C loops _ _ i k2 _ hi hk24 hb9 HC3.out).mono ?_; rw [HNX.out]; rintro e9 w4 ⟨rfl, hb4⟩
       have HL : Hid (Below X.heap.size X w4) := HA.out.trans (hb4.mono HA.out.size))
    | (go_at_call 47; refine (HAC.out _).mono ?_; rintro e9 w3 ⟨rfl, hb3⟩
       have HA : Hid (Below X.heap.size X w3) := HD0.out.trans (hb3.mono HD0.out.size)
       have HC3 : Hid (CrossAt w3 b off C) := HC.out.on (HB1.out.trans (HA.out.mono (by omega))) hbw
       have hb9 : b < w3.heap.size := Nat.lt_of_lt_of_le hbw (HB1.out.trans (HA.out.mono (by omega))).size
       clear hb3))
  all_goals
    go_wp2
    go_ret
    exact ⟨rfl, HB1.out.trans (HL.out.mono (by omega))⟩
end Go.Proofs.Ytlcogbcpmneknaa
/- Plain mathematics: darts and the faces that they go around; pieces. -/
namespace Go.Proofs.Ytlcogbcpmneknaa

/-- Where arc a ends (p) or begins: the crossing, the side. -/
def enC (C : List Cr) (a : Nat) (p : Bool) : Nat := (endTo C a p C.length).1.toNat
def enS (C : List Cr) (a : Nat) (p : Bool) : Nat := (endTo C a p C.length).2.toNat
theorem en_may {C : List Cr} {loops : Int} (hm : mayD C loops = true) (a : Nat) (p : Bool) (h1 : 1 ≤ a) (h2 : a ≤ 2 * C.length) : endTo C a p C.length = ((enC C a p : Int), (enS C a p : Int)) ∧ enC C a p < C.length ∧ enS C a p < 4 ∧ (C.getD (enC C a p) Cr.none).arc (enS C a p) = (a : Int) ∧ (C.getD (enC C a p) Cr.none).comes (enS C a p) = p := by
  obtain ⟨i, k, h3, h4, h5, h6, h7⟩ := end_may hm a h1 h2 p
  have e1 : enC C a p = i := by unfold enC; rw [h7]; simp
  have e2 : enS C a p = k := by unfold enS; rw [h7]; simp
  rw [e1, e2]
  exact ⟨h7, h3, h4, h5, h6⟩
/-- Dart j: its arc, whether it goes back; the dart of an arc. They are numbered from 1 on. -/
def dA (j : Nat) : Nat := (j + 1) / 2
def dB (j : Nat) : Bool := decide (j % 2 = 0)
def mkD (a : Nat) (p : Bool) : Nat := if p = true then 2 * a else 2 * a - 1
theorem dA_mk {a : Nat} {p : Bool} (h : 1 ≤ a) : dA (mkD a p) = a := by unfold dA mkD; split <;> omega
theorem dB_mk {a : Nat} {p : Bool} (h : 1 ≤ a) : dB (mkD a p) = p := by
  unfold dB mkD
  cases p
  · simp; omega
  · simp
theorem mk_d {j : Nat} (h : 1 ≤ j) : mkD (dA j) (dB j) = j := by
  unfold mkD dA dB
  split
  · rename_i hd; simp at hd; omega
  · rename_i hd; simp at hd; omega
theorem dA_le {j n : Nat} (h1 : 1 ≤ j) (h : j ≤ 4 * n) : 1 ≤ dA j ∧ dA j ≤ 2 * n := by unfold dA; omega
theorem mk_le {a n : Nat} {p : Bool} (h1 : 1 ≤ a) (h : a ≤ 2 * n) : 1 ≤ mkD a p ∧ mkD a p ≤ 4 * n := by unfold mkD; split <;> omega
/-- Where a dart ends; the dart behind it. -/
def dC (C : List Cr) (j : Nat) : Nat := enC C (dA j) (!dB j)
def dS (C : List Cr) (j : Nat) : Nat := enS C (dA j) (!dB j)
def fd (C : List Cr) (j : Nat) : Nat := mkD ((C.getD (dC C j) Cr.none).arc ((dS C j + 3) % 4)).toNat ((C.getD (dC C j) Cr.none).comes ((dS C j + 3) % 4))
theorem d_may {C : List Cr} {loops : Int} (hm : mayD C loops = true) (j : Nat) (h1 : 1 ≤ j) (h2 : j ≤ 4 * C.length) : endTo C (dA j) (!dB j) C.length = ((dC C j : Int), (dS C j : Int)) ∧ dC C j < C.length ∧ dS C j < 4 := by
  have h := dA_le h1 h2
  have g := en_may hm (dA j) (!dB j) h.1 h.2
  exact ⟨g.1, g.2.1, g.2.2.1⟩
theorem fd_may {C : List Cr} {loops : Int} (hm : mayD C loops = true) (j : Nat) (h1 : 1 ≤ j) (h2 : j ≤ 4 * C.length) : (C.getD (dC C j) Cr.none).arc ((dS C j + 3) % 4) = (dA (fd C j) : Int) ∧ (C.getD (dC C j) Cr.none).comes ((dS C j + 3) % 4) = dB (fd C j) ∧ 1 ≤ fd C j ∧ fd C j ≤ 4 * C.length := by
  have g := d_may hm j h1 h2
  have hf := may_fit hm (dC C j) ((dS C j + 3) % 4) g.2.1 (by omega)
  have g1 := hf.1
  have g2 := hf.2.1
  unfold fd
  generalize (C.getD (dC C j) Cr.none).comes ((dS C j + 3) % 4) = p
  generalize (C.getD (dC C j) Cr.none).arc ((dS C j + 3) % 4) = x at g1 g2
  have hx : 1 ≤ x.toNat ∧ x.toNat ≤ 2 * C.length := by omega
  rw [dA_mk hx.1, dB_mk hx.1]
  have := mk_le (p := p) hx.1 hx.2
  exact ⟨by omega, rfl, this.1, this.2⟩
theorem fd_closed {C : List Cr} {loops : Int} (hm : mayD C loops = true) : ∀ j, 1 ≤ j → j ≤ 4 * C.length → 1 ≤ fd C j ∧ fd C j ≤ 4 * C.length := fun j h1 h2 => (fd_may hm j h1 h2).2.2
/-- The faces: rings of darts. -/
def facesM (C : List Cr) : List (List Nat) := (walksTo (fd C) (4 * C.length) (4 * C.length)).1

/-- The crossing at the other end of the arc on a side. -/
def nbC (C : List Cr) (k s : Nat) : Nat := enC C ((C.getD k Cr.none).arc s).toNat (!(C.getD k Cr.none).comes s)
def arcE (C : List Cr) : List (Nat × Nat) := (List.range (2 * C.length)).map fun i => (enC C (i + 1) true, enC C (i + 1) false)
theorem en_one {C : List Cr} {loops : Int} (hm : mayD C loops = true) (k s : Nat) (hk : k < C.length) (hs : s < 4) : 1 ≤ ((C.getD k Cr.none).arc s).toNat ∧ ((C.getD k Cr.none).arc s).toNat ≤ 2 * C.length ∧ enC C ((C.getD k Cr.none).arc s).toNat ((C.getD k Cr.none).comes s) = k := by
  have hf := may_fit hm k s hk hs
  have g1 := hf.1
  have g2 := hf.2.1
  have ha : 1 ≤ ((C.getD k Cr.none).arc s).toNat ∧ ((C.getD k Cr.none).arc s).toNat ≤ 2 * C.length := by omega
  refine ⟨ha.1, ha.2, ?_⟩
  have e := end_one hm _ ha.1 ha.2 ((C.getD k Cr.none).comes s) k s hk hs (by omega) rfl
  unfold enC
  rw [e]
  rfl
theorem nb_lt {C : List Cr} {loops : Int} (hm : mayD C loops = true) (k s : Nat) (hk : k < C.length) (hs : s < 4) : nbC C k s < C.length := by
  have h := en_one hm k s hk hs
  exact (en_may hm _ _ h.1 h.2.1).2.1
theorem mem_arcE {C : List Cr} {a : Nat} (h1 : 1 ≤ a) (h2 : a ≤ 2 * C.length) : (enC C a true, enC C a false) ∈ arcE C := by
  unfold arcE
  refine List.mem_map.2 ⟨a - 1, List.mem_range.2 (by omega), ?_⟩
  rw [Nat.sub_add_cancel h1]
theorem nb_con {C : List Cr} {loops : Int} (hm : mayD C loops = true) (k s : Nat) (hk : k < C.length) (hs : s < 4) : Con (arcE C) k (nbC C k s) := by
  have h := en_one hm k s hk hs
  have he := Con.edge (mem_arcE h.1 h.2.1)
  unfold nbC
  cases hc : (C.getD k Cr.none).comes s with
  | true =>
    rw [hc] at h
    rw [h.2.2] at he
    exact he
  | false =>
    rw [hc] at h
    rw [h.2.2] at he
    exact he.symm
theorem edge_nb {C : List Cr} {loops : Int} (hm : mayD C loops = true) (e : Nat × Nat) (he : e ∈ arcE C) : e.1 < C.length ∧ e.2 < C.length ∧ (∃ s, s < 4 ∧ nbC C e.1 s = e.2) ∧ ∃ s, s < 4 ∧ nbC C e.2 s = e.1 := by
  obtain ⟨i, hi, rfl⟩ := List.mem_map.1 he
  have hi' := List.mem_range.1 hi
  have h1 := en_may hm (i + 1) true (by omega) (by omega)
  have h2 := en_may hm (i + 1) false (by omega) (by omega)
  refine ⟨h1.2.1, h2.2.1, ⟨enS C (i + 1) true, h1.2.2.1, ?_⟩, ⟨enS C (i + 1) false, h2.2.2.1, ?_⟩⟩
  · unfold nbC
    rw [h1.2.2.2.1, h1.2.2.2.2]
    rfl
  · unfold nbC
    rw [h2.2.2.2.1, h2.2.2.2.2]
    rfl
theorem arcE_lt {C : List Cr} {loops : Int} (hm : mayD C loops = true) : ∀ e, e ∈ arcE C → e.1 < C.length ∧ e.2 < C.length := fun e he => ⟨(edge_nb hm e he).1, (edge_nb hm e he).2.1⟩

/-- A piece's number under way: P0 ahead of it, P now; todo: whose sides are to be looked at; of k the sides below s were. -/
structure Spr (C : List Cr) (P0 P : List Int) (f : Nat) (num : Int) (todo : List Nat) (k s : Nat) : Prop where
  len : P.length = C.length
  old : ∀ v, v < C.length → P0.getD v 0 ≠ -1 → P.getD v 0 = P0.getD v 0
  new : ∀ v, v < C.length → P0.getD v 0 = -1 → P.getD v 0 = -1 ∨ (P.getD v 0 = num ∧ Con (arcE C) f v)
  fst : P.getD f 0 = num
  tod : ∀ v, v ∈ todo → v < C.length ∧ Con (arcE C) f v
  proc : ∀ v, v < C.length → P.getD v 0 = num → v ∈ todo ∨ ∀ t, t < 4 → (v = k → t < s) → P.getD (nbC C v t) 0 ≠ -1
theorem getI_set (P : List Int) (i v : Nat) (z : Int) (hi : i < P.length) : (P.set i z).getD v 0 = if v = i then z else P.getD v 0 := by
  simp only [List.getD_eq_getElem?_getD, List.getElem?_set]
  by_cases h : i = v
  · subst h; simp [hi]
  · simp [h, Ne.symm h]
theorem Spr.start {C : List Cr} {P0 : List Int} {f : Nat} {num : Int} (hl : P0.length = C.length) (hf : f < C.length) (h0 : P0.getD f 0 = -1) (hn : ∀ v, v < C.length → P0.getD v 0 ≠ num) : Spr C P0 (P0.set f num) f num [f] 0 4 := by
  have hs : ∀ v, (P0.set f num).getD v 0 = if v = f then num else P0.getD v 0 := fun v => getI_set _ _ _ _ (by omega)
  refine ⟨by simp [hl], fun v hv h => ?_, fun v hv h => ?_, by rw [hs, if_pos rfl], fun v hv => ?_, fun v hv h => ?_⟩
  · rw [hs, if_neg (fun e => h (by rw [e, h0]))]
  · rw [hs]
    by_cases e : v = f
    · rw [if_pos e, e]; exact Or.inr ⟨rfl, Con.refl _ _⟩
    · rw [if_neg e]; exact Or.inl h
  · rw [List.mem_singleton.1 hv]; exact ⟨hf, Con.refl _ _⟩
  · rw [hs] at h
    by_cases e : v = f
    · exact Or.inl (by rw [e]; exact List.mem_singleton.2 rfl)
    · rw [if_neg e] at h
      exact absurd h (hn v hv)
/-- One is taken out of the row. -/
theorem Spr.take {C : List Cr} {P0 P : List Int} {f : Nat} {num : Int} {k : Nat} {todo : List Nat} {k0 : Nat} (h : Spr C P0 P f num (k :: todo) k0 4) : Spr C P0 P f num todo k 0 := by
  refine ⟨h.len, h.old, h.new, h.fst, fun v hv => h.tod v (List.Mem.tail _ hv), fun v hv e => ?_⟩
  by_cases hk : v = k
  · exact Or.inr fun t _ hs => absurd (hs hk) (Nat.not_lt_zero _)
  · rcases h.proc v hv e with h1 | h1
    · rcases List.mem_cons.1 h1 with h2 | h2
      · exact absurd h2 hk
      · exact Or.inl h2
    · exact Or.inr fun t ht _ => h1 t ht (fun _ => ht)
/-- A side whose other end has a number. -/
theorem Spr.old_side {C : List Cr} {P0 P : List Int} {f : Nat} {num : Int} {k s : Nat} {todo : List Nat} (h : Spr C P0 P f num todo k s) (hn : P.getD (nbC C k s) 0 ≠ -1) : Spr C P0 P f num todo k (s + 1) := by
  refine ⟨h.len, h.old, h.new, h.fst, h.tod, fun v hv e => ?_⟩
  rcases h.proc v hv e with h1 | h1
  · exact Or.inl h1
  · refine Or.inr fun t ht hs => ?_
    by_cases hvk : v = k
    · by_cases hts : t = s
      · rw [hvk, hts]; exact hn
      · exact h1 t ht (fun e => by have := hs e; omega)
    · exact h1 t ht (fun e => absurd e hvk)
/-- A side whose other end has none yet. -/
theorem Spr.new_side {C : List Cr} {loops : Int} (hm : mayD C loops = true) {P0 P : List Int} {f : Nat} {num : Int} {k s : Nat} {todo : List Nat} (h : Spr C P0 P f num todo k s) (hnum : num ≠ -1) (hk : k < C.length) (hs : s < 4) (hc : Con (arcE C) f k) (hn : P.getD (nbC C k s) 0 = -1) : Spr C P0 (P.set (nbC C k s) num) f num (todo ++ [nbC C k s]) k (s + 1) := by
  have hb := nb_lt hm k s hk hs
  have hcon := hc.trans (nb_con hm k s hk hs)
  generalize hy : nbC C k s = y at hb hcon hn ⊢
  have hg : ∀ v, (P.set y num).getD v 0 = if v = y then num else P.getD v 0 := fun v => getI_set _ _ _ _ (by rw [h.len]; exact hb)
  have hne : ∀ v, P.getD v 0 ≠ -1 → (P.set y num).getD v 0 ≠ -1 := fun v hv => by
    rw [hg]
    split
    · exact hnum
    · exact hv
  refine ⟨by simp [h.len], fun v hv e => ?_, fun v hv e => ?_, ?_, fun v hv => ?_, fun v hv e => ?_⟩
  · rw [hg, if_neg (fun e2 => by rw [e2] at e; have := h.old y hb e; rw [hn] at this; exact e this.symm)]
    exact h.old v hv e
  · rw [hg]
    by_cases e2 : v = y
    · rw [if_pos e2, e2]; exact Or.inr ⟨rfl, hcon⟩
    · rw [if_neg e2]; exact h.new v hv e
  · rw [hg, h.fst]; split <;> rfl
  · rcases List.mem_append.1 hv with h1 | h1
    · exact h.tod v h1
    · rw [List.mem_singleton.1 h1]; exact ⟨hb, hcon⟩
  · by_cases e2 : v = y
    · exact Or.inl (List.mem_append.2 (Or.inr (List.mem_singleton.2 e2)))
    · rw [hg, if_neg e2] at e
      rcases h.proc v hv e with h1 | h1
      · exact Or.inl (List.mem_append.2 (Or.inl h1))
      · refine Or.inr fun t ht hst => ?_
        by_cases hvk : v = k
        · by_cases hts : t = s
          · rw [hvk, hts, hy, hg, if_pos rfl]; exact hnum
          · exact hne _ (h1 t ht (fun e => by have := hst e; omega))
        · exact hne _ (h1 t ht (fun e => absurd e hvk))
/-- Pieces under way: the crossings below k have numbers, below c. -/
structure Pcs (C : List Cr) (P : List Int) (c k : Nat) : Prop where
  len : P.length = C.length
  few : c ≤ k
  cl : ∀ e, e ∈ arcE C → P.getD e.1 0 = P.getD e.2 0
  vals : ∀ v, v < C.length → P.getD v 0 = -1 ∨ (0 ≤ P.getD v 0 ∧ P.getD v 0 < (c : Int))
  join : ∀ u v, u < C.length → v < C.length → P.getD u 0 ≠ -1 → P.getD u 0 = P.getD v 0 → Con (arcE C) u v
  used : ∀ p, p < c → ∃ v, v < C.length ∧ P.getD v 0 = (p : Int)
  done : ∀ v, v < k → v < C.length → P.getD v 0 ≠ -1
theorem Pcs.start (C : List Cr) (P : List Int) (hP : P = List.replicate C.length (-1)) (hE : ∀ e, e ∈ arcE C → e.1 < C.length ∧ e.2 < C.length) : Pcs C P 0 0 := by
  have hg : ∀ v, v < C.length → P.getD v 0 = -1 := fun v hv => by rw [hP]; simp [List.getD_eq_getElem?_getD, hv]
  exact ⟨by rw [hP]; simp, Nat.le_refl _, fun e he => by rw [hg _ (hE e he).1, hg _ (hE e he).2], fun v hv => Or.inl (hg v hv), fun u v hu _ h _ => absurd (hg u hu) h, fun p hp => absurd hp (Nat.not_lt_zero _), fun v hv => absurd hv (Nat.not_lt_zero _)⟩
theorem Pcs.skip {C : List Cr} {P : List Int} {c k : Nat} (h : Pcs C P c k) (hk : P.getD k 0 ≠ -1) : Pcs C P c (k + 1) :=
  ⟨h.len, by have := h.few; omega, h.cl, h.vals, h.join, h.used, fun v hv hn => by
    by_cases e : v = k
    · rw [e]; exact hk
    · exact h.done v (by omega) hn⟩
theorem Pcs.more {C : List Cr} {loops : Int} (hm : mayD C loops = true) {P0 P : List Int} {c k k1 : Nat} (h : Pcs C P0 c k) (hk : k < C.length) (_h0 : P0.getD k 0 = -1) (g : Spr C P0 P k c [] k1 4) : Pcs C P (c + 1) (k + 1) := by
  have hc1 : ((c : Nat) : Int) ≠ -1 := by omega
  have hold : ∀ v, v < C.length → P.getD v 0 = (c : Int) → P0.getD v 0 = -1 := fun v hv e => Classical.byContradiction fun hne => by
    have h1 := g.old v hv hne
    rcases h.vals v hv with h2 | h2
    · exact hne h2
    · omega
  have hone : ∀ u v, u < C.length → v < C.length → P0.getD u 0 = P0.getD v 0 → (∃ t, t < 4 ∧ nbC C u t = v) → (∃ t, t < 4 ∧ nbC C v t = u) → P.getD u 0 = P.getD v 0 := by
    intro u v hu hv e ⟨t, ht, ht'⟩ ⟨t2, ht2, ht2'⟩
    by_cases h1 : P0.getD u 0 = -1
    · have h2 : P0.getD v 0 = -1 := by rw [← e]; exact h1
      rcases g.new u hu h1 with a | a
      · rcases g.new v hv h2 with b | b
        · rw [a, b]
        · rcases g.proc v hv b.1 with c1 | c1
          · cases c1
          · have := c1 t2 ht2 (fun _ => ht2)
            rw [ht2'] at this
            exact absurd a this
      · rcases g.proc u hu a.1 with c1 | c1
        · cases c1
        · have hx := c1 t ht (fun _ => ht)
          rw [ht'] at hx
          rcases g.new v hv h2 with b | b
          · exact absurd b hx
          · rw [a.1, b.1]
    · have h2 : P0.getD v 0 ≠ -1 := by rw [← e]; exact h1
      rw [g.old u hu h1, g.old v hv h2, e]
  refine ⟨g.len, by have := h.few; omega, fun e he => ?_, fun v hv => ?_, fun u v hu hv hne e => ?_, fun p hp => ?_, fun v hv hn => ?_⟩
  · obtain ⟨a1, a2, a3, a4⟩ := edge_nb hm e he
    exact hone _ _ a1 a2 (h.cl e he) a3 a4
  · by_cases h1 : P0.getD v 0 = -1
    · rcases g.new v hv h1 with a | a
      · exact Or.inl a
      · exact Or.inr (by rw [a.1]; omega)
    · rw [g.old v hv h1]
      rcases h.vals v hv with a | a
      · exact Or.inl a
      · exact Or.inr (by omega)
  · by_cases h1 : P.getD u 0 = (c : Int)
    · have hu1 := hold u hu h1
      have hv1 := hold v hv (by rw [← e]; exact h1)
      rcases g.new u hu hu1 with a | a
      · exact absurd a hne
      · rcases g.new v hv hv1 with b | b
        · exact absurd (by rw [e]; exact b) hne
        · exact a.2.symm.trans b.2
    · have hu1 : P0.getD u 0 ≠ -1 := fun hx => by
        rcases g.new u hu hx with a | a
        · exact hne a
        · exact h1 a.1
      have hv1 : P0.getD v 0 ≠ -1 := fun hx => by
        rcases g.new v hv hx with a | a
        · exact hne (by rw [e]; exact a)
        · exact h1 (by rw [e]; exact a.1)
      rw [g.old u hu hu1, g.old v hv hv1] at e
      exact h.join u v hu hv hu1 e
  · by_cases e : p = c
    · exact ⟨k, hk, by rw [g.fst, e]⟩
    · obtain ⟨v, hv, e2⟩ := h.used p (by omega)
      exact ⟨v, hv, by rw [g.old v hv (by rw [e2]; omega), e2]⟩
  · by_cases e : v = k
    · rw [e, g.fst]; exact hc1
    · have := h.done v (by omega) hn
      rw [g.old v hn this]; exact this
/-- All have their numbers. -/
structure PcsAll (C : List Cr) (P : List Int) (c : Nat) : Prop where
  len : P.length = C.length
  few : c ≤ C.length
  vals : ∀ v, v < C.length → 0 ≤ P.getD v 0 ∧ P.getD v 0 < (c : Int)
  same : ∀ u v, u < C.length → v < C.length → (P.getD u 0 = P.getD v 0 ↔ Con (arcE C) u v)
  used : ∀ p, p < c → ∃ v, v < C.length ∧ P.getD v 0 = (p : Int)
theorem Pcs.all {C : List Cr} {P : List Int} {c : Nat} (h : Pcs C P c C.length) : PcsAll C P c := by
  refine ⟨h.len, h.few, fun v hv => ?_, fun u v hu hv => ⟨fun e => h.join u v hu hv (h.done u hu hu) e, fun hc => ?_⟩, h.used⟩
  · rcases h.vals v hv with a | a
    · exact absurd a (h.done v hv hv)
    · exact a
  · exact (hc (fun z => P.getD u 0 = P.getD z 0) (fun e he => by show P.getD u 0 = P.getD e.1 0 ↔ P.getD u 0 = P.getD e.2 0; rw [h.cl e he]) rfl)
/-- Of a piece: as many faces (told by the crossings at which their first darts end) as there are, less its crossings. -/
def exI (n : Nat) (G : List Nat) (P : List Int) (p : Nat) : Int := ((G.countP fun g => decide (P.getD g 0 = (p : Int)) : Nat) : Int) - (((List.range n).countP fun v => decide (P.getD v 0 = (p : Int)) : Nat) : Int)
def exN (n : Nat) (G : List Nat) (W : List Nat) (p : Nat) : Int := ((G.countP fun g => decide (W.getD g 0 = p) : Nat) : Int) - (((List.range n).countP fun v => decide (W.getD v 0 = p) : Nat) : Int)
theorem ex_same {C : List Cr} {P : List Int} {c : Nat} {W : List Nat} {G : List Nat} (hP : PcsAll C P c) (hW : Least (arcE C) C.length W) (hG : ∀ g, g ∈ G → g < C.length) (v : Nat) (hv : v < C.length) (p : Nat) (hp : P.getD v 0 = (p : Int)) : exI C.length G P p = exN C.length G W (W.getD v 0) := by
  have key : ∀ g, g < C.length → decide (P.getD g 0 = (p : Int)) = decide (W.getD g 0 = W.getD v 0) := fun g hg => by
    rw [← hp]
    exact decide_eq_decide.2 ((hP.same g v hg hv).trans (hW.same hg hv).symm)
  unfold exI exN
  rw [List.countP_congr (p := fun g => decide (P.getD g 0 = (p : Int))) (q := fun g => decide (W.getD g 0 = W.getD v 0)) (l := G) (fun g hg => by rw [key g (hG g hg)]),
    List.countP_congr (p := fun g => decide (P.getD g 0 = (p : Int))) (q := fun g => decide (W.getD g 0 = W.getD v 0)) (l := List.range C.length) (fun g hg => by rw [key g (List.mem_range.1 hg)])]
theorem sphere_iff {C : List Cr} {P : List Int} {c : Nat} {W : List Nat} {G : List Nat} (hP : PcsAll C P c) (hW : Least (arcE C) C.length W) (hG : ∀ g, g ∈ G → g < C.length) : (∀ p, p < c → exI C.length G P p = 2) ↔ ∀ p, p < C.length → W.getD p 0 = p → exN C.length G W p = 2 := by
  constructor
  · intro h p hp e
    have hv := hP.vals p hp
    have := ex_same hP hW hG p hp (P.getD p 0).toNat (by omega)
    rw [e] at this
    rw [← this]
    exact h _ (by omega)
  · intro h p hp
    obtain ⟨v, hv, e⟩ := hP.used p hp
    rw [ex_same hP hW hG v hv p e]
    have hw := hW.lt hv
    exact h _ hw ((hW.same hw hv).2 (hW.2 v hv).1.symm)
end Go.Proofs.Ytlcogbcpmneknaa
/- A row that is taken from at its head and appended to at its end: in the world, and the step of append upon it. -/
namespace Go.Proofs.Ytlcogbcpmneknaa
open Go.RowKit

/-- A row of one-celled values of the call's own, that begins somewhere in its block. -/
def QueAt (w : World) (base : Nat) (e : TypeId) (v : Value) (xs : List Value) : Prop :=
  ∃ g off cap cur, v = .slice (some ⟨g, off, none⟩) xs.length cap ∧ base ≤ g ∧ w.heap[g]? = some (.cells cur e (0, 0)) ∧ xs.length ≤ cap ∧ cap ≤ maxLen ∧ off + cap ≤ cur.size ∧ (cur.toList.drop off).take xs.length = xs
theorem QueAt.kept {w w' : World} {base : Nat} {e : TypeId} {v : Value} {xs : List Value} {row : Option Nat} (h : QueAt w base e v xs) (hg : w.grownBy w' row) (hne : v.ownBlock ≠ row) : QueAt w' base e v xs := by
  obtain ⟨g, off, cap, cur, rfl, hb, hgg, rest⟩ := h
  refine ⟨g, off, cap, cur, rfl, hb, ?_, rest⟩
  rw [hg.block g (Array.getElem?_eq_some_iff.1 hgg).1 (by simpa [Value.ownBlock] using hne)]
  exact hgg
theorem QueAt.lt {w : World} {base : Nat} {e : TypeId} {v : Value} {xs : List Value} (h : QueAt w base e v xs) : ∀ k, v.ownBlock = some k → base ≤ k ∧ k < w.heap.size := by
  intro k hk
  obtain ⟨g, off, cap, cur, rfl, hb, hgg, rest⟩ := h
  have e := Option.some.inj hk
  have e2 : g = k := e
  subst e2
  exact ⟨hb, (Array.getElem?_eq_some_iff.1 hgg).1⟩
theorem QueAt.shape {w : World} {base : Nat} {e : TypeId} {v : Value} {xs : List Value} (h : QueAt w base e v xs) : ∃ g off cap, v = .slice (some ⟨g, off, none⟩) xs.length cap ∧ xs.length ≤ cap := by
  obtain ⟨g, off, cap, cur, rfl, _, _, h2, _⟩ := h
  exact ⟨g, off, cap, rfl, h2⟩
theorem QueAt.size {w : World} {base g off n cap : Nat} {e : TypeId} {xs : List Value} (h : QueAt w base e (.slice (some ⟨g, off, none⟩) n cap) xs) : n = xs.length ∧ n ≤ cap ∧ cap ≤ maxLen ∧ base ≤ g ∧ g < w.heap.size := by
  obtain ⟨g', off', cap', cur, ev, hb, hgg, h1, h2, _⟩ := h
  injection ev with e1 e2 e3
  injection e1 with e1
  injection e1 with e4 e5
  subst e4 e2 e3
  exact ⟨rfl, h1, h2, hb, (Array.getElem?_eq_some_iff.1 hgg).1⟩
theorem QueAt.cell {w : World} {base g off n cap : Nat} {e : TypeId} {xs : List Value} (h : QueAt w base e (.slice (some ⟨g, off, none⟩) n cap) xs) (j : Nat) (u : Value) (hj : xs[j]? = some u) : w.cell? ⟨g, off + j, none⟩ = some u := by
  obtain ⟨g', off', cap', cur, ev, hb, hgg, h1, h2, h3, h4⟩ := h
  injection ev with e1 e2 e3
  injection e1 with e1
  injection e1 with e4 e5
  subst e4 e5
  rw [cell_of_row w g _ cur e (0, 0) hgg]
  rw [← h4, List.getElem?_take] at hj
  split at hj
  · rw [List.getElem?_drop] at hj
    simpa using hj
  · cases hj
/-- Its first is taken away. -/
theorem QueAt.tail {w : World} {base g off n cap : Nat} {e : TypeId} {x : Value} {xs : List Value} (h : QueAt w base e (.slice (some ⟨g, off, none⟩) n cap) (x :: xs)) : QueAt w base e (.slice (some ⟨g, off + 1, none⟩) (n - 1) (cap - 1)) xs := by
  obtain ⟨g', off', cap', cur, ev, hb, hgg, h1, h2, h3, h4⟩ := h
  injection ev with e1 e2 e3
  injection e1 with e1
  injection e1 with e4 e5
  subst e4 e5 e3
  simp only [List.length_cons] at e2 h1 h4
  refine ⟨g, off + 1, cap - 1, cur, by rw [e2]; simp, hb, hgg, by omega, by omega, by omega, ?_⟩
  have h5 : ((cur.toList.drop off).take (xs.length + 1)).drop 1 = xs := by rw [h4]; rfl
  rw [List.drop_take, List.drop_drop] at h5
  simpa using h5
/-- Its only one is taken away, and there is no room behind it. -/
theorem QueAt.tail1 {w : World} {base g off n : Nat} {e : TypeId} {x : Value} {xs : List Value} (h : QueAt w base e (.slice (some ⟨g, off, none⟩) n 1) (x :: xs)) : QueAt w base e (.slice (some ⟨g, off, none⟩) (n - 1) 0) xs ∧ xs = [] := by
  obtain ⟨g', off', cap', cur, ev, hb, hgg, h1, h2, h3, h4⟩ := h
  injection ev with e1 e2 e3
  injection e1 with e1
  injection e1 with e4 e5
  subst e4 e5 e3
  simp only [List.length_cons] at e2 h1 h4
  have hx : xs = [] := List.length_eq_zero_iff.1 (by omega)
  subst hx
  exact ⟨⟨g, off, 0, cur, by rw [e2]; simp, hb, hgg, Nat.zero_le _, Nat.zero_le _, by omega, by simp⟩, rfl⟩
theorem QueAt.made {w : World} {base g n cap : Nat} {e : TypeId} {xs : List Value} (h : w.ownsRow base e 1 (.slice (some ⟨g, 0, none⟩) n cap) n xs) : QueAt w base e (.slice (some ⟨g, 0, none⟩) n cap) xs := by
  obtain ⟨hl, h⟩ := h
  rcases h with ⟨h, _⟩ | ⟨g', cap', cur, ev, hb, hgg, h1, h2, h3, h4⟩
  · cases h
  · injection ev with e1 e2 e3
    injection e1 with e1
    injection e1 with e4
    subst e4 e3
    rw [Nat.mul_one] at hl h3 h4
    exact ⟨g, 0, cap, cur, by rw [hl], hb, hgg, by omega, h2, by omega, by rw [hl]; simpa using h4⟩

theorem run_append_que {P : Program} (w : World) (base : Nat) (t ty e : TypeId) (i : TypeInfo) (z : Value) (bytes : Nat) (ht : P.underlying t = some (.slice e)) (hi : P.info? e = some i) (hz : i.zero = some z)
    (hsize : i.size = 1) (hby : i.bytes = bytes) (hzs : z.cells.size = 1)
    (v : Value) (xs : List Value) (hown : QueAt w base e v xs)
    (a : Addr) (c : Nat) (u : Value) (hnews : w.cell? a = some u) (h1 : u.oneCell' = true)
    (h63 : xs.length + 1 ≤ maxLen) (hbytes : (xs.length + 1) * bytes ≤ 140737488355328) (hbase : base ≤ w.heap.size) :
    ∃ v' w', (Builtin.append_ #[t, t] ty #[v, .slice (some a) 1 c]).run P w = .ok v' w' ∧ QueAt w' base e v' (xs ++ [u]) ∧ w.grownBy w' v.ownBlock := by
  subst hby
  have hsmall : xs.length + 1 ≤ 9223372036854775807 := by simp only [maxLen] at h63; omega
  have hl : [u].length = 1 * i.size := by rw [hsize]; rfl
  have hcells : ∀ j v, [u][j]? = some v → w.cell? (a.add j) = some v := by
    intro j v hj
    cases j with
    | zero =>
      have e : v = u := by simpa using hj.symm
      subst e
      have ha : a.add 0 = a := by unfold Addr.add; split <;> simp_all
      rw [ha]
      exact hnews
    | succ j => simp at hj
  obtain ⟨g, off, cap, cur, rfl, hb, hgg, hnc, hcm, hcs, htake⟩ := hown
  by_cases hroom : xs.length + 1 ≤ cap
  · have hf := run_firstCells_some (P := P) w i.size 1 a 1 c [u] hl hcells
    have hst := run_storeCells_at P g (off + xs.length) e [u] 0 cur w hgg (by simp; omega) (by simpa using h1)
    simp only [Nat.add_zero] at hst
    refine ⟨.slice (some ⟨g, off, none⟩) (xs.length + 1) cap, w.setRow g (cur.toList.take (off + xs.length) ++ [u] ++ cur.toList.drop (off + xs.length + [u].length)).toArray, ?_, ⟨g, off, cap, _, by simp, hb, setRow_heap w g cur _ e _ hgg, by simpa using hroom, hcm, ?_, ?_⟩, ⟨rfl, rfl, rfl, by simp, fun k _ hk => setRow_other w g k _ (fun e => hk (by simp [Value.ownBlock, e]))⟩⟩
    · rw [hsize] at hf
      simp [Builtin.append_, run_underlying ht, sizeOf, typeInfo, hi, hsize, Builtin.lenOf, hroom, hf, Addr.add_lit]
      simp at hst
      simp [hst]
    · simp only [List.size_toArray, List.length_append, List.length_take, List.length_drop, Array.length_toList, List.length_cons, List.length_nil]
      omega
    · have h5 : (cur.toList.take (off + xs.length)).drop off = xs := by rw [List.drop_take, Nat.add_sub_cancel_left]; exact htake
      simp only [List.append_assoc]
      rw [List.drop_append_of_le_length (by simp; omega), h5, ← List.append_assoc]
      exact List.take_left
  · have holds : ∀ j v, xs[j]? = some v → w.cell? ((⟨g, off, none⟩ : Addr).add j) = some v := fun j v hj => by
      have hadd : (⟨g, off, none⟩ : Addr).add j = ⟨g, off + j, none⟩ := by unfold Addr.add; split <;> simp_all
      rw [hadd]
      exact QueAt.cell (⟨g, off, cap, cur, rfl, hb, hgg, hnc, hcm, hcs, htake⟩ : QueAt w base e (.slice (some ⟨g, off, none⟩) xs.length cap) xs) j v hj
    have hr := run_append_grow (P := P) w t ty e i z ht hi hz ⟨g, off, none⟩ xs.length cap xs (by rw [hsize, Nat.mul_one]) holds a 1 c [u] hl hcells (by omega) (by omega) (growslice_fits (by omega) hbytes)
    have hge := grownCap_ge w (xs.length + 1) cap e
    refine ⟨_, _, hr, ⟨w.heap.size, 0, _, _, by simp, hbase, heap_alloc_new w.drew _, by simpa using hge, grownCap_le_maxLen w (xs.length + 1) cap e h63, ?_, ?_⟩, ⟨rfl, rfl, rfl, by simp, fun k hk _ => Array.getElem?_push_lt hk ▸ (Array.getElem?_eq_getElem hk).symm⟩⟩
    · simp only [Array.size_append, List.size_toArray, size_zeroCells, hzs, List.length_cons, List.length_nil]
      omega
    · simp only [Array.toList_append, List.drop_zero]
      exact List.take_left

theorem wpList_append_que {P : Program} (w : World) {ops : Array Oper} {rest : List Oper} {o : Oper} {a : Act} {Q : Exit → Act → World → Prop} (hgd : o.guard = none) (s x : Operand) (t : TypeId)
    (ho : o.op = .call { callee := .builtin .append, args := #[s, x], argTypes := #[t, t] })
    (base : Nat) (e : TypeId) (i : TypeInfo) (z : Value) (bytes : Nat) (ht : P.underlying t = some (.slice e)) (hi : P.info? e = some i) (hz : i.zero = some z)
    (hsize : i.size = 1) (hby : i.bytes = bytes) (hzs : z.cells.size = 1)
    (v : Value) (xs : List Value) (hs : a.eval s = v) (hown : QueAt w base e v xs)
    (ad : Addr) (c : Nat) (u : Value) (hx : a.eval x = .slice (some ad) 1 c) (hnews : w.cell? ad = some u) (h1 : u.oneCell' = true)
    (h63 : xs.length + 1 ≤ maxLen) (hbytes : (xs.length + 1) * bytes ≤ 140737488355328) (hbase : base ≤ w.heap.size)
    (h : ∀ v' w', QueAt w' base e v' (xs ++ [u]) → w.grownBy w' v.ownBlock → wpList P ops Q rest (a.put o.dst v') w') : wpList P ops Q (o :: rest) a w := by
  refine wpList_plain hgd fun _ hK => ?_
  obtain ⟨v', w', hr, h2, h3⟩ := run_append_que (P := P) w base t o.type e i z bytes ht hi hz hsize hby hzs v xs hown ad c u hnews h1 h63 hbytes hbase
  unfold Oper.wp execOp
  simp only [ho, resolve, invoke, builtin, Sem.run_bind, Sem.run_pure, Result.andThen_ok, List.map_toArray, List.map_cons, List.map_nil, hs, hx, hr]
  exact hK _ _ (h v' w' h2 h3)
end Go.Proofs.Ytlcogbcpmneknaa

/- Several texts of the proof, one behind the other. -/
import Derived.Test.YtagaajlbkfkaiaaH6P
/- A drawing in a world; the walks of Drawing.Above, Drawing.Leaving and Drawing.Ahead. -/
namespace Go.Proofs.Ytagaajlbkfkaiaa
open Go.RowKit
set_option maxHeartbeats 4000000
set_option maxRecDepth 100000
theorem alloc_at {w : World} {o : Obj} {k : Nat} (h : k = w.heap.size) : (w.alloc o).heap[k]? = some o := by
 rw [h]
 exact Array.getElem?_push_size
theorem alloc_old {w : World} {o p : Obj} {k : Nat} (h : w.heap[k]? = some p) : (w.alloc o).heap[k]? = some p := by
 have hk : k < w.heap.size := (Array.getElem?_eq_some_iff.1 h).1
 exact ((World.grownBy_alloc w o none).block k hk (by simp)).trans h
structure Dr (w : World) (a : Option Addr) (cap : Nat) (C : List Cr) (gF gT : Nat) : Prop where
 crs : Crs w w.heap.size (.slice a C.length cap) C
 ltF : gF < w.heap.size
 ltT : gT < w.heap.size
 from_ : TermsAt w gF 0 (ends C false C.length 0)
 to : TermsAt w gT 0 (ends C true C.length 0)
theorem Crs.on {w w' : World} {B : Nat} {v : Value} {C : List Cr} (h : Crs w B v C) (hb : Below B w w') : Crs w' B v C := by
 obtain ⟨a, cap, rfl, hn, g⟩ := h
 refine ⟨a, cap, rfl, hn, fun h0 => ?_⟩
 obtain ⟨b, off, rfl, hlt, hC⟩ := g h0
 exact ⟨b, off, rfl, hlt, hC.on hb hlt⟩
theorem Crs.mono {w : World} {B B' : Nat} {v : Value} {C : List Cr} (h : Crs w B v C) (hB : B ≤ B') : Crs w B' v C := by
 obtain ⟨a, cap, rfl, hn, g⟩ := h
 refine ⟨a, cap, rfl, hn, fun h0 => ?_⟩
 obtain ⟨b, off, rfl, hlt, hC⟩ := g h0
 exact ⟨b, off, rfl, Nat.lt_of_lt_of_le hlt hB, hC⟩
theorem Crs.up {w w' : World} {v : Value} {C : List Cr} (h : Crs w w.heap.size v C) (hb : Below w.heap.size w w') : Crs w' w'.heap.size v C := (h.on hb).mono hb.size
theorem Dr.on {w w' : World} {a : Option Addr} {cap : Nat} {C : List Cr} {gF gT : Nat} (h : Dr w a cap C gF gT) (hb : Below w.heap.size w w') : Dr w' a cap C gF gT :=
 ⟨h.crs.up hb, Nat.lt_of_lt_of_le h.ltF hb.size, Nat.lt_of_lt_of_le h.ltT hb.size, h.from_.on hb h.ltF, h.to.on hb h.ltT⟩
theorem Dr.cross {w : World} {a : Option Addr} {cap : Nat} {C : List Cr} {gF gT : Nat} (h : Dr w a cap C gF gT) (hp : 0 < C.length) : ∃ b off, a = some ⟨b, off, none⟩ ∧ b < w.heap.size ∧ CrossAt w b off C := by
 obtain ⟨a', cap', e, _, g⟩ := h.crs
 injection e with e1 e2 e3
 obtain ⟨b, off, h1, h2, h3⟩ := g hp
 exact ⟨b, off, by rw [e1, h1], h2, h3⟩
theorem Dr.toAt {w : World} {a : Option Addr} {cap : Nat} {C : List Cr} {gF gT : Nat} {loops : Int} (h : Dr w a cap C gF gT) (hm : mayD C loops = true) (x : Nat) (h1 : 1 ≤ x) (h2 : x ≤ 2 * C.length) :
    w.cell? ⟨gT, x * 2, none⟩ = some (.int .i64 (toC C x : Nat)) ∧ w.cell? ⟨gT, x * 2 + 1, none⟩ = some (.int .i64 (toS C x : Nat)) := by
 have hT := h.to x (by rw [QX9]; omega)
 rw [ends_at C true C.length 0 x h1 h2, Nat.zero_add] at hT
 have e : endAh C x true C.length 0 = endTo C x true C.length := rfl
 rw [e, (QJ0 hm x h1 h2).1] at hT
 exact hT
def drV (a : Option Addr) (cap : Nat) (C : List Cr) (loops : Int) (gF cF gT cT : Nat) : Value := .agg #[.slice a C.length cap, .int .i64 loops, .slice (some ⟨gF, 0, none⟩) (2 * C.length + 1) cF, .slice (some ⟨gT, 0, none⟩) (2 * C.length + 1) cT]
theorem across_any (i : Int) (k : Nat) (w : World) (hk : k < 4) :
    Calls Try.prog 116 #[.agg #[.int .i64 i, .int .i64 k]] w fun e w' => e = .returned (.agg #[.int .i64 i, .int .i64 ((k + 2) % 4 : Nat)]) ∧ Below w.heap.size w w' := by
 obtain ⟨k2, hk2⟩ : ∃ k2 : Nat, k2 = (k + 2) % 4 := ⟨_, rfl⟩
 have e1 : IntKind.i64.wrap ((k : Int) + 2) = (k : Int) + 2 := IntWalk.i64_in _ (by omega)
 have e2 : ((k : Int) + 2).tmod 4 = (k2 : Int) := by rw [Int.tmod_eq_emod_of_nonneg (by omega)]; omega
 rw [← hk2]
 clear hk2
 have hB : Below w.heap.size w ((w.alloc (.cells #[.int .i64 i, .int .i64 k] 120)).alloc (.cells #[.int .i64 i, .int .i64 k2] 120)) := QJ3 _ _ _
 have hG : ((w.alloc (.cells #[.int .i64 i, .int .i64 k] 120)).alloc (.cells #[.int .i64 i, .int .i64 k2] 120)).heap[w.heap.size + 1]? = some (.cells #[.int .i64 i, .int .i64 k2] 120 (0, 0)) := alloc_at (by simp)
 have x0 := QQ0 (i := 0) (v := .int .i64 i) hG rfl
 have x1 := QQ0 (i := 1) (v := .int .i64 k2) hG rfl
 have HB := hidB hB
 clear hB hG
 go_enter Try.func116, Try.ntmps116
 go_wp2
 exact bodyPost_ret (v := .agg #[.int .i64 i, .int .i64 k2]) (by simp [results, Try.results116, go_sem, x0, x1]) rfl ⟨rfl, HB.out⟩
theorem spotAbove_any (i : Int) (k : Nat) (w : World) (hk : k < 4) :
    Calls Try.prog 126 #[.agg #[.int .i64 i, .int .i64 k]] w fun e w' => e = .returned (.bool (decide (k % 2 = 1))) ∧ Below w.heap.size w w' := by
 go_enter Try.func126, Try.ntmps126
 go_wp2
 · go_ret
   have hk1 : k = 1 := by omega
   subst hk1
   exact ⟨rfl, (Below.refl _ _).alloc (Nat.le_refl _) _⟩
 · go_ret
   refine ⟨?_, (Below.refl _ _).alloc (Nat.le_refl _) _⟩
   have hk5 : k = 0 ∨ k = 1 ∨ k = 2 ∨ k = 3 := by omega
   rcases hk5 with rfl | rfl | rfl | rfl <;> rfl
theorem QU1 (b off cap : Nat) (C : List Cr) (loops : Int) (vF vT : Value) (i k : Nat) (w : World) (hi : i < C.length) (hk : k < 4) (hbw : b < w.heap.size) (hC : CrossAt w b off C) :
    Calls Try.prog 117 #[.agg #[.slice (some ⟨b, off, none⟩) C.length cap, .int .i64 loops, vF, vT], .agg #[.int .i64 i, .int .i64 k]] w fun e w' => e = .returned (.agg #[.int .i64 ((C.getD i Cr.none).arc k), .bool ((C.getD i Cr.none).comes k)]) ∧ Below w.heap.size w w' := by
 obtain ⟨c0, c1, c2, c3, c4⟩ := hC i hi
 clear hC
 generalize C.getD i Cr.none = x at c0 c1 c2 c3 c4
 have hB3 : Below w.heap.size w (((w.alloc (.cells #[.slice (some ⟨b, off, none⟩) C.length cap, .int .i64 loops, vF, vT] 61)).alloc (.cells #[.int .i64 i, .int .i64 k] 120)).alloc (.cells #[.int .i64 0, .bool false] 26)) := QV1 _ _ _ _
 have e0 := bcell hB3 hbw c0
 have e1 := bcell hB3 hbw c1
 have e2 := bcell hB3 hbw c2
 have e3 := bcell hB3 hbw c3
 have e4 := bcell hB3 hbw c4
 clear hB3 c0 c1 c2 c3 c4
 go_enter Try.func117, Try.ntmps117
 go_wp2
 clear e0 e1 e2 e3 e4
 obtain ⟨W0, hW0⟩ : ∃ W0, W0 = (((w.alloc (.cells #[.slice (some ⟨b, off, none⟩) C.length cap, .int .i64 loops, vF, vT] 61)).alloc (.cells #[.int .i64 i, .int .i64 k] 120)).alloc (.cells #[.int .i64 0, .bool false] 26)).alloc (.cells #[.int .i64 x.a, .int .i64 x.b, .int .i64 x.c, .int .i64 x.d, .bool x.plus] 71) := ⟨_, rfl⟩
 rw [← hW0]
 have hs0 : W0.heap.size = w.heap.size + 4 := by rw [hW0]; simp
 have HB0 : Hid (Below w.heap.size w W0) := (by rw [hW0]; exact (QV1 _ _ _ _).alloc (by simp; omega) _ : Below w.heap.size w W0)
 have HT1 : Hid (W0.heap[w.heap.size + 1]? = some (.cells #[.int .i64 i, .int .i64 k] 120 (0, 0))) := (by rw [hW0]; exact alloc_old (alloc_old (alloc_at (by simp))) : W0.heap[w.heap.size + 1]? = some (.cells #[.int .i64 i, .int .i64 k] 120 (0, 0)))
 have HT2 : Hid (W0.heap[w.heap.size + 1 + 1]? = some (.cells #[.int .i64 0, .bool false] 26 (0, 0))) := (by rw [hW0]; exact alloc_old (alloc_at (by simp)) : W0.heap[w.heap.size + 1 + 1]? = some (.cells #[.int .i64 0, .bool false] 26 (0, 0)))
 have HT3 : Hid (W0.heap[w.heap.size + 1 + 1 + 1]? = some (.cells #[.int .i64 x.a, .int .i64 x.b, .int .i64 x.c, .int .i64 x.d, .bool x.plus] 71 (0, 0))) := (by rw [hW0]; exact alloc_at (by simp) : W0.heap[w.heap.size + 1 + 1 + 1]? = some (.cells #[.int .i64 x.a, .int .i64 x.b, .int .i64 x.c, .int .i64 x.d, .bool x.plus] 71 (0, 0)))
 clear hW0
 have HF : Hid (∀ w', Below W0.heap.size W0 w' → w'.cell? ⟨w.heap.size + 1 + 1 + 1, 0, none⟩ = some (.int .i64 x.a) ∧ w'.cell? ⟨w.heap.size + 1 + 1 + 1, 1, none⟩ = some (.int .i64 x.b) ∧ w'.cell? ⟨w.heap.size + 1 + 1 + 1, 2, none⟩ = some (.int .i64 x.c) ∧ w'.cell? ⟨w.heap.size + 1 + 1 + 1, 3, none⟩ = some (.int .i64 x.d) ∧ w'.cell? ⟨w.heap.size + 1 + 1 + 1, 4, none⟩ = some (.bool x.plus) ∧ w'.cell? ⟨w.heap.size + 1, 1, none⟩ = some (.int .i64 k)) := fun w' hb => by
  have g3 := (hb.block _ (by omega)).trans HT3.out
  have g1 := (hb.block _ (by omega)).trans HT1.out
  exact ⟨QQ0 g3 rfl, QQ0 g3 rfl, QQ0 g3 rfl, QQ0 g3 rfl, QQ0 g3 rfl, QQ0 g1 rfl⟩
 have HFS : Hid (∀ wX u v, Below W0.heap.size W0 wX → (fun w' => w'.cell? ⟨w.heap.size + 1 + 1 + 1, 0, none⟩ = some (.int .i64 x.a) ∧ w'.cell? ⟨w.heap.size + 1 + 1 + 1, 1, none⟩ = some (.int .i64 x.b) ∧ w'.cell? ⟨w.heap.size + 1 + 1 + 1, 2, none⟩ = some (.int .i64 x.c) ∧ w'.cell? ⟨w.heap.size + 1 + 1 + 1, 3, none⟩ = some (.int .i64 x.d) ∧ w'.cell? ⟨w.heap.size + 1 + 1 + 1, 4, none⟩ = some (.bool x.plus) ∧ w'.cell? ⟨w.heap.size + 1, 1, none⟩ = some (.int .i64 k)) (st2 wX (w.heap.size + 1 + 1) 0 u v)) := fun wX u v hb => by
  have hg := QZ5 wX (w.heap.size + 1 + 1) 0 u v
  have hsz := hb.size
  have g3 := (hg.block (w.heap.size + 1 + 1 + 1) (by omega) (fun e => by have := Option.some.inj e; omega)).trans ((hb.block _ (by omega)).trans HT3.out)
  have g1 := (hg.block (w.heap.size + 1) (by omega) (fun e => by have := Option.some.inj e; omega)).trans ((hb.block _ (by omega)).trans HT1.out)
  exact ⟨QQ0 g3 rfl, QQ0 g3 rfl, QQ0 g3 rfl, QQ0 g3 rfl, QQ0 g3 rfl, QQ0 g1 rfl⟩
 have HZ : Hid (∀ wX, Below W0.heap.size W0 wX → wX.cell? ⟨w.heap.size + 1 + 1, 0, none⟩ = some (.int .i64 0) ∧ wX.cell? ⟨w.heap.size + 1 + 1, 1, none⟩ = some (.bool false) ∧ wX.frozen? ⟨w.heap.size + 1 + 1, 0, none⟩ = false ∧ wX.frozen? ⟨w.heap.size + 1 + 1, 1, none⟩ = false) := fun wX hb => by
  have g2 := (hb.block _ (by omega)).trans HT2.out
  exact ⟨QQ0 g2 rfl, QQ0 g2 rfl, QQ2 g2, QQ2 g2⟩
 have HD0 : Hid (Below W0.heap.size W0 W0.drew) := (Below.refl _ _).drew
 obtain ⟨t0, t1, t2, t3, t4, t5⟩ := HF.out W0 (Below.refl _ _)
 have hix := index_arr x k hk
 go_region_held3 (fun w' => w'.cell? ⟨w.heap.size + 1 + 1 + 1, 0, none⟩ = some (.int .i64 x.a) ∧ w'.cell? ⟨w.heap.size + 1 + 1 + 1, 1, none⟩ = some (.int .i64 x.b) ∧ w'.cell? ⟨w.heap.size + 1 + 1 + 1, 2, none⟩ = some (.int .i64 x.c) ∧ w'.cell? ⟨w.heap.size + 1 + 1 + 1, 3, none⟩ = some (.int .i64 x.d) ∧ w'.cell? ⟨w.heap.size + 1 + 1 + 1, 4, none⟩ = some (.bool x.plus) ∧ w'.cell? ⟨w.heap.size + 1, 1, none⟩ = some (.int .i64 k)) (first | exact HF.out _ HY.out | exact HF.out _ HA.out | exact HF.out _ HD0.out | exact HF.out _ (Below.refl _ _) | exact HFS.out _ _ _ HY.out | exact HFS.out _ _ _ HA.out) (first
  | (go_at_call 75; refine (arcs_any x _).mono ?_; rintro e9 wA ⟨rfl, hbA⟩
     first
      | have HA : Hid (Below W0.heap.size W0 wA) := HY.out.trans (hbA.mono HY.out.size)
      | have HA : Hid (Below W0.heap.size W0 wA) := HD0.out.trans hbA
     obtain ⟨a0, a1, a2, a3, a4, a5⟩ := HF.out wA HA.out
     obtain ⟨b0, b1, b2, b3⟩ := HZ.out wA HA.out
     clear hbA)
  | (go_at_call 76; refine (comesIn_any x k _ hk).mono ?_; rintro e9 wC ⟨rfl, hbC⟩
     first
      | have HY : Hid (Below W0.heap.size W0 wC) := HA.out.trans (hbC.mono HA.out.size)
      | have HY : Hid (Below W0.heap.size W0 wC) := HD0.out.trans hbC
     obtain ⟨p0, p1, p2, p3, p4, p5⟩ := HF.out wC HY.out
     obtain ⟨q0, q1, q2, q3⟩ := HZ.out wC HY.out
     clear hbC))
 all_goals first
  | (have hX := QQ6 (i := 1) (u := .bool (x.comes k)) (QQ6 (i := 0) (u := .int .i64 (x.arc k)) ((HY.out.block _ (by omega)).trans HT2.out))
     have x0 := QQ0 (i := 0) (v := .int .i64 (x.arc k)) hX rfl
     have x1 := QQ0 (i := 1) (v := .bool (x.comes k)) hX rfl
     go_wp2
     exact bodyPost_ret (v := .agg #[.int .i64 (x.arc k), .bool (x.comes k)]) (by simp [results, Try.results117, go_sem, x0, x1]) rfl ⟨rfl, (HB0.out.trans (HY.out.mono (by omega))).grown (QZ5 wC (w.heap.size + 1 + 1) 0 (.int .i64 (x.arc k)) (.bool (x.comes k))) (by have := HY.out.size; omega) (fun q hq => by have := Option.some.inj hq; omega)⟩)
  | (have hX := QQ6 (i := 1) (u := .bool (x.comes k)) (QQ6 (i := 0) (u := .int .i64 (x.arc k)) ((HA.out.block _ (by omega)).trans HT2.out))
     have x0 := QQ0 (i := 0) (v := .int .i64 (x.arc k)) hX rfl
     have x1 := QQ0 (i := 1) (v := .bool (x.comes k)) hX rfl
     go_wp2
     exact bodyPost_ret (v := .agg #[.int .i64 (x.arc k), .bool (x.comes k)]) (by simp [results, Try.results117, go_sem, x0, x1]) rfl ⟨rfl, (HB0.out.trans (HA.out.mono (by omega))).grown (QZ5 wA (w.heap.size + 1 + 1) 0 (.int .i64 (x.arc k)) (.bool (x.comes k))) (by have := HA.out.size; omega) (fun q hq => by have := Option.some.inj hq; omega)⟩)
theorem field_dart (a : Int) (p : Bool) (w : World) : (Instr.field 26 (.agg #[.int .i64 a, .bool p]) 0).run Try.prog w = .ok (.int .i64 a) w := by
 simp [Instr.field, run_underlying Try.underlying26, go_sem, asAgg]
theorem ahead_any (a : Option Addr) (cap : Nat) (C : List Cr) (loops : Int) (gF cF gT cT : Nat) (x : Nat) (w : World) (hm : mayD C loops = true) (h1 : 1 ≤ x) (h2 : x ≤ 2 * C.length) (hD : Dr w a cap C gF gT) :
    Calls Try.prog 97 #[drV a cap C loops gF cF gT cT, .int .i64 x] w fun e w' => e = .returned (.int .i64 (nx C x : Nat)) ∧ Below w.heap.size w w' := by
 obtain ⟨b, off, rfl, hbw, hC⟩ := hD.cross (by omega)
 unfold drV
 have hT := hD.toAt hm x h1 h2
 have c0 := hT.1
 have c1 := hT.2
 have hlt := hD.ltT
 obtain ⟨-, hi, hk, -, -⟩ := QJ0 hm x h1 h2
 have HNX : Hid ((C.getD (toC C x) Cr.none).arc ((toS C x + 2) % 4) = (nx C x : Int)) := (nx_may hm x h1 h2).1
 have HC : Hid (CrossAt w b off C) := hC
 clear hT hD hm hC
 generalize toS C x = k at c1 hk HNX
 generalize toC C x = i at c0 hi HNX
 generalize nx C x = z at HNX
 have hx : x < 2 * C.length + 1 := by omega
 obtain ⟨k2, hk2⟩ : ∃ k2 : Nat, k2 = (k + 2) % 4 := ⟨_, rfl⟩
 have e1 : IntKind.i64.wrap ((k : Int) + 2) = (k : Int) + 2 := IntWalk.i64_in _ (by omega)
 have e2 : ((k : Int) + 2).tmod 4 = (k2 : Int) := by rw [Int.tmod_eq_emod_of_nonneg (by omega)]; omega
 have hk24 : k2 < 4 := by omega
 rw [← hk2] at HNX
 have hfd := field_dart (z : Int)
 obtain ⟨X, hX⟩ : ∃ X, X = w.alloc (.cells #[.slice (some ⟨b, off, none⟩) C.length cap, .int .i64 loops, .slice (some ⟨gF, 0, none⟩) (2 * C.length + 1) cF, .slice (some ⟨gT, 0, none⟩) (2 * C.length + 1) cT] 61) := ⟨_, rfl⟩
 have HX : Hid (X = w.alloc (.cells #[.slice (some ⟨b, off, none⟩) C.length cap, .int .i64 loops, .slice (some ⟨gF, 0, none⟩) (2 * C.length + 1) cF, .slice (some ⟨gT, 0, none⟩) (2 * C.length + 1) cT] 61)) := hX
 have hsX : X.heap.size = w.heap.size + 1 := by rw [hX]; simp
 have HB1 : Hid (Below w.heap.size w X) := (by rw [hX]; exact (Below.refl _ _).alloc (Nat.le_refl _) _ : Below w.heap.size w X)
 have HG1 : Hid (X.heap[w.heap.size]? = some (.cells #[.slice (some ⟨b, off, none⟩) C.length cap, .int .i64 loops, .slice (some ⟨gF, 0, none⟩) (2 * C.length + 1) cF, .slice (some ⟨gT, 0, none⟩) (2 * C.length + 1) cT] 61 (0, 0))) := (by rw [hX]; exact alloc_at rfl : X.heap[w.heap.size]? = some (.cells #[.slice (some ⟨b, off, none⟩) C.length cap, .int .i64 loops, .slice (some ⟨gF, 0, none⟩) (2 * C.length + 1) cF, .slice (some ⟨gT, 0, none⟩) (2 * C.length + 1) cT] 61 (0, 0)))
 clear hX
 have HK : Hid (∀ w', Below X.heap.size X w' → w'.cell? ⟨w.heap.size, 0, none⟩ = some (.slice (some ⟨b, off, none⟩) C.length cap) ∧ w'.cell? ⟨w.heap.size, 1, none⟩ = some (.int .i64 loops) ∧ w'.cell? ⟨w.heap.size, 2, none⟩ = some (.slice (some ⟨gF, 0, none⟩) (2 * C.length + 1) cF) ∧ w'.cell? ⟨w.heap.size, 3, none⟩ = some (.slice (some ⟨gT, 0, none⟩) (2 * C.length + 1) cT) ∧ w'.cell? ⟨gT, x * 2, none⟩ = some (.int .i64 i) ∧ w'.cell? ⟨gT, x * 2 + 1, none⟩ = some (.int .i64 k)) := fun w' hb => by
  have g := (hb.block _ (by omega)).trans HG1.out
  have hb2 := HB1.out.trans (hb.mono (by omega))
  exact ⟨QQ0 g rfl, QQ0 g rfl, QQ0 g rfl, QQ0 g rfl, bcell hb2 hlt c0, bcell hb2 hlt c1⟩
 have HD0 : Hid (Below X.heap.size X X.drew) := (Below.refl _ _).drew
 have HAC : Hid (∀ W : World, Calls Try.prog 116 #[.agg #[.int .i64 i, .int .i64 k]] W fun e w' => e = .returned (.agg #[.int .i64 i, .int .i64 (k2 : Nat)]) ∧ Below W.heap.size W w') := fun W => (by rw [hk2]; exact across_any i k W hk)
 clear hk2 c0 c1
 obtain ⟨t0, t1, t2, t3, t4, t5⟩ := HK.out X (Below.refl _ _)
 have hx0 : (0 : Int) ≤ (x : Int) := by omega
 have hx9 : (x : Int) < 2 * (C.length : Int) + 1 := by omega
 go_enter Try.func97, Try.ntmps97
 go_wp2
 rw [← HX.out]
 go_region_held3 (fun w' => w'.cell? ⟨w.heap.size, 0, none⟩ = some (.slice (some ⟨b, off, none⟩) C.length cap) ∧ w'.cell? ⟨w.heap.size, 1, none⟩ = some (.int .i64 loops) ∧ w'.cell? ⟨w.heap.size, 2, none⟩ = some (.slice (some ⟨gF, 0, none⟩) (2 * C.length + 1) cF) ∧ w'.cell? ⟨w.heap.size, 3, none⟩ = some (.slice (some ⟨gT, 0, none⟩) (2 * C.length + 1) cT) ∧ w'.cell? ⟨gT, x * 2, none⟩ = some (.int .i64 i) ∧ w'.cell? ⟨gT, x * 2 + 1, none⟩ = some (.int .i64 k)) (first | exact HK.out _ HD0.out | exact HK.out _ HL.out | exact HK.out _ HA.out) (first
  | (go_at_call 117; refine (QU1 b off cap C loops _ _ i k2 _ hi hk24 hb9 HC3.out).mono ?_; rw [HNX.out]; rintro e9 w4 ⟨rfl, hb4⟩
     have HL : Hid (Below X.heap.size X w4) := HA.out.trans (hb4.mono HA.out.size))
  | (go_at_call 116; refine (HAC.out _).mono ?_; rintro e9 w3 ⟨rfl, hb3⟩
     have HA : Hid (Below X.heap.size X w3) := HD0.out.trans (hb3.mono HD0.out.size)
     have HC3 : Hid (CrossAt w3 b off C) := HC.out.on (HB1.out.trans (HA.out.mono (by omega))) hbw
     have hb9 : b < w3.heap.size := Nat.lt_of_lt_of_le hbw (HB1.out.trans (HA.out.mono (by omega))).size
     clear hb3))
 all_goals
  go_wp2
  go_ret
  exact ⟨rfl, HB1.out.trans (HL.out.mono (by omega))⟩
end Go.Proofs.Ytagaajlbkfkaiaa
/- Lists of numbers that a call owns; the walk of Drawing.Walks. -/
namespace Go.Proofs.Ytagaajlbkfkaiaa
open Go.RowKit
set_option maxHeartbeats 8000000
set_option maxRecDepth 100000
def nats (l:List Nat):List Value:=l.map fun x=>.int .i64 (x:Nat)
def bools (l:List Bool):List Value:=l.map fun x=>.bool x
theorem nats_len (l:List Nat):(nats l).length=l.length:=by simp[nats]
theorem nats_get (l:List Nat) (i:Nat) (h:i<l.length):(nats l)[i]?=some (.int .i64 (l.getD i 0:Nat)):=by simp[nats,List.getD,h]
theorem bools_get (l:List Bool) (i:Nat) (h:i<l.length):(bools l)[i]?=some (.bool (l.getD i true)):=by simp[bools,List.getD,h]
theorem bools_set (l:List Bool) (i:Nat) (b:Bool):(bools l).set i (.bool b)=bools (l.set i b):=by simp[bools,List.map_set]
theorem nats_app (l:List Nat) (x:Nat):nats (l++[x])=nats l++[.int .i64 (x:Nat)]:=by simp[nats]
def NatsOwn (w:World) (B:Nat) (v:Value) (L:List (List Nat)):Prop:=
 ∃ ys:List Value,ys.length=L.length/\w.ownsRow B 46 1 v ys.length ys/\∀ j,j<L.length->w.ownsRow B 3 1 (ys.getD j (.bool false)) (L.getD j []).length (nats (L.getD j []))
theorem NatsOwn.any {w w':World} {B:Nat} {v:Value} {L:List (List Nat)} (h:NatsOwn w B v L) (hg:w.grownBy w' none):NatsOwn w' B v L:=by
 obtain⟨ys,h1,h2,h3⟩:=h
 exact⟨ys,h1,QX0 h2 hg,fun j hj=>QX0 (h3 j hj) hg⟩
theorem NatsOwn.low {w:World} {B B':Nat} {v:Value} {L:List (List Nat)} (h:NatsOwn w B v L) (hB:B'<=B):NatsOwn w B' v L:=by
 obtain⟨ys,h1,h2,h3⟩:=h
 exact⟨ys,h1,QX4 h2 hB,fun j hj=>QX4 (h3 j hj) hB⟩
theorem grown_none {w w':World} {row:Option Nat} (h:w.grownBy w' none):w.grownBy w' row:=⟨h.os,h.tape,h.output,h.size,fun k hk _=>h.block k hk (by simp)⟩
theorem QJ7 {W X Y:World} {row r2:Option Nat} (h:W.grownBy X row) (g:X.grownBy Y r2) (hr:∀ k,r2=some k->W.heap.size<=k):W.grownBy Y row:=
 ⟨g.os.trans h.os,g.tape.trans h.tape,g.output.trans h.output,Nat.le_trans h.size g.size,fun k hk hn=>(g.block k (Nat.lt_of_lt_of_le hk h.size) (fun e=>by have:=hr k e.symm;omega)).trans (h.block k hk hn)⟩
def lenOf:Value->Nat
 |.slice _ n _=>n
 |_=>0
theorem infoInt:(Try.prog.info? 3).map (fun i=>(i.zero,i.size,i.bytes))=some (some (.int .i64 0),1,8):=by kernel_rfl
theorem infoBool:(Try.prog.info? 4).map (fun i=>(i.zero,i.size,i.bytes))=some (some (.bool false),1,1):=by kernel_rfl
theorem infoInts:(Try.prog.info? 46).map (fun i=>(i.zero,i.size,i.bytes))=some (some (.slice none 0 0),1,24):=by kernel_rfl
theorem int_one (x:Int):∀ u∈[Value.int .i64 x],u.oneCell'=true:=by
 intro u hu
 simp only[List.mem_singleton]at hu
 subst hu
 rfl
theorem made_false (n:Nat):(madeCells (Value.bool false).cells (n*1)).toList=bools (List.replicate n false):=by
 have e:(Value.bool false).cells=#[Value.bool false]:=rfl
 rw[e,toList_madeCells_one,Nat.mul_one]
 simp[bools]
structure WkAt (w:World) (gS cS:Nat) (box:Array Value) (tb:TypeId) (n:Nat) (R:List (List Nat)×List Bool) (v3:Value) (zs:List Value) (wr:World):Prop where
 box:wr.heap[w.heap.size]?=some (.cells box tb (0,0))
 seen:wr.ownsRow (w.heap.size+1) 4 1 (.slice (some ⟨gS,0,none⟩) (n+1) cS) (n+1) (bools R.2)
 len:zs.length=R.1.length
 rows:wr.ownsRow (w.heap.size+1) 46 1 v3 zs.length zs
 each:∀ j,j<zs.length->wr.ownsRow (w.heap.size+1) 3 1 (zs.getD j (.bool false)) (R.1.getD j []).length (nats (R.1.getD j []))
 bel:Below w.heap.size w wr
theorem walksTo_next {f:Nat->Nat} {n i:Nat} {acc:List Nat} {seen:List Bool} (h:walkF f (n+1) (QQ9 f n i).2 (i+1) []=(acc,seen)):QQ9 f n (i+1)=(if acc=[] then(QQ9 f n i).1 else(QQ9 f n i).1++[acc],seen):=by
 simp only[QQ9]
 rw[h]
theorem arcRings_ahead (a:Option Addr) (cap:Nat) (C:List Cr) (loops:Int) (gF cF gT cT:Nat) (w:World) (hm:mayD C loops=true) (hD:Dr w a cap C gF gT):
    Calls Try.prog 96 #[drV a cap C loops gF cF gT cT,.func (.func 97) #[drV a cap C loops gF cF gT cT] #[]] w fun e w'=>∃ v,e=.returned v/\NatsOwn w' w.heap.size v (walksM C)/\Below w.heap.size w w':=by
 obtain⟨s1,-,-,-⟩:=QZ2 (QK3 hm)
 obtain⟨i0,hi,hz0,hz1,hz2⟩:=info_parts infoInt
 obtain⟨i1,hj,hy0,hy1,hy2⟩:=info_parts infoInts
 obtain⟨i2,hk,hx0,hx1,hx2⟩:=info_parts infoBool
 unfold drV
 have HM:Hid (mayD C loops=true):=hm
 have HD:Hid (Dr w a cap C gF gT):=hD
 have HNX:Hid (∀ x,1<=x->x<=2*C.length->1<=nx C x/\nx C x<=2*C.length):=nx_closed hm
 have HWM:Hid (walksM C=(QQ9 (nx C) (2*C.length) (2*C.length)).1):=(rfl:walksM C=(QQ9 (nx C) (2*C.length) (2*C.length)).1)
 clear hm hD
 obtain⟨w0,hw0⟩:∃ w0,w0=w.alloc (.cells #[.slice a C.length cap,.int .i64 loops,.slice (some ⟨gF,0,none⟩) (2*C.length+1) cF,.slice (some ⟨gT,0,none⟩) (2*C.length+1) cT] 61):=⟨_,rfl⟩
 have HW0:Hid (w0=w.alloc (.cells #[.slice a C.length cap,.int .i64 loops,.slice (some ⟨gF,0,none⟩) (2*C.length+1) cF,.slice (some ⟨gT,0,none⟩) (2*C.length+1) cT] 61)):=hw0
 have hs0:w0.heap.size=w.heap.size+1:=by rw[hw0];simp
 have HB0:Hid (Below w.heap.size w w0):=(by rw[hw0];exact(Below.refl _ _).alloc (Nat.le_refl _) _:Below w.heap.size w w0)
 have HT0:Hid (w0.heap[w.heap.size]?=some (.cells #[.slice a C.length cap,.int .i64 loops,.slice (some ⟨gF,0,none⟩) (2*C.length+1) cF,.slice (some ⟨gT,0,none⟩) (2*C.length+1) cT] 61 (0,0))):=(by rw[hw0];exact alloc_at rfl:w0.heap[w.heap.size]?=some (.cells #[.slice a C.length cap,.int .i64 loops,.slice (some ⟨gF,0,none⟩) (2*C.length+1) cF,.slice (some ⟨gT,0,none⟩) (2*C.length+1) cT] 61 (0,0)))
 clear hw0
 go_enter Try.func96,Try.ntmps96
 go_wp2_with (first|(at_make;refine wpList_make_full _ rfl _ _ 104 rfl (w.heap.size+1) 4 i2 (.bool false) 1 Try.underlying104 hk hx0 hx1 .i64 .i64 _ _ (2*C.length+1) rfl rfl rfl rfl (by rw[hx2];omega) (by unfold maxLen;omega) (by simp) ?_;intro w1 hrow hg1;refine Hid.out ?_))
 refine Lib.hid ?_
 rw[<-HW0.out]at hrow hg1
 rw[made_false,hs0]at hrow
 have HK0:Hid (WkAt w (w.heap.size+1) (2*C.length+1) #[.slice a C.length cap,.int .i64 loops,.slice (some ⟨gF,0,none⟩) (2*C.length+1) cF,.slice (some ⟨gT,0,none⟩) (2*C.length+1) cT] 61 (2*C.length) (QQ9 (nx C) (2*C.length) 0) (.slice none 0 0) [] w1):=
  ⟨(hg1.block _ (by omega) (by simp)).trans HT0.out,hrow,rfl,World.ownsRow_nil _ _ _ _,fun j hj=>absurd hj (Nat.not_lt_zero _),HB0.out.grown hg1 (by omega) (fun k hk=>by cases hk)⟩
 clear hrow hg1 HT0 HB0 hs0 HW0
 go_wp2
 go_loopw [5,7] (fun v3 v5 wr=>∃ (i j:Nat) (zs:List Value),i<=2*C.length/\Hid (j=i+1)/\v5=.int .i64 (j:Nat)/\WkAt w (w.heap.size+1) (2*C.length+1) #[.slice a C.length cap,.int .i64 loops,.slice (some ⟨gF,0,none⟩) (2*C.length+1) cF,.slice (some ⟨gT,0,none⟩) (2*C.length+1) cT] 61 (2*C.length) (QQ9 (nx C) (2*C.length) i) v3 zs wr) (fun _ v5 _=>2*C.length+1-(intOf v5).toNat)
 case atStart=>exact⟨0,1,[],Nat.zero_le _,(rfl:1=0+1),rfl,HK0.out⟩
 case round=>
  clear HK0
  rename World=>W1
  obtain⟨i,j0,zs,hin,hji,rfl,hk⟩:=hrel
  have b3:W1.cell? ⟨w.heap.size,3,none⟩=some (.slice (some ⟨gT,0,none⟩) (2*C.length+1) cT):=QQ0 hk.box rfl
  have HK:Hid (WkAt w (w.heap.size+1) (2*C.length+1) #[.slice a C.length cap,.int .i64 loops,.slice (some ⟨gF,0,none⟩) (2*C.length+1) cF,.slice (some ⟨gT,0,none⟩) (2*C.length+1) cT] 61 (2*C.length) (QQ9 (nx C) (2*C.length) i) _ zs W1):=hk
  have hgS:=hk.seen.lt (w.heap.size+1) rfl
  have HSL : Hid ((QQ9 (nx C) (2 * C.length) i).2.length = 2 * C.length + 1) := walksTo_len _ _ _
  have HCT : Hid ((QQ9 (nx C) (2 * C.length) i).1.length ≤ i) := walksTo_count _ _ _
  by_cases hil:i<2*C.length
  · have hsd:=hk.seen
    have hbl:=hk.bel
    have hj1:1<=j0:=by have:=hji.out;omega
    have hj2:j0<=2*C.length:=by have:=hji.out;omega
    have hdj:decide ((j0:Int)<2*(C.length:Int)+1)=true:=by simp;omega
    have hdj2:decide (j0<2*C.length+1)=true:=by simp;omega
    clear hk
    go_wp2
    go_loopw [8,9] (fun v6 v7 ws=>∃ (f:Nat) (seen:List Bool) (x:Nat) (acc:List Nat),v7=.int .i64 (x:Nat)/\1<=x/\x<=2*C.length/\Hid (walkF (nx C) (2*C.length+1) (QQ9 (nx C) (2*C.length) i).2 j0 []=walkF (nx C) f seen x acc)/\Hid (unseen seen<=f)/\seen.length=2*C.length+1/\Hid (acc.length+unseen seen<=2*C.length+1)/\
        ws.ownsRow W1.heap.size 3 1 v6 acc.length (nats acc)/\ws.ownsRow (w.heap.size+1) 4 1 (.slice (some ⟨w.heap.size+1,0,none⟩) (2*C.length+1) (2*C.length+1)) (2*C.length+1) (bools seen)/\W1.grownBy ws (some (w.heap.size+1))/\Below w.heap.size w ws) (fun v6 _ _=>2*C.length+2-lenOf v6)
    case atStart=>exact⟨2*C.length+1,(QQ9 (nx C) (2*C.length) i).2,j0,[],rfl,by omega,by omega,(rfl:walkF (nx C) (2*C.length+1) (QQ9 (nx C) (2*C.length) i).2 j0 []=_),(by have:=unseen_le (QQ9 (nx C) (2*C.length) i).2;rw[HSL.out]at this;exact this:unseen (QQ9 (nx C) (2*C.length) i).2<=2*C.length+1),HSL.out,(by have:=unseen_le (QQ9 (nx C) (2*C.length) i).2;rw[HSL.out]at this;simpa using this:([]:List Nat).length+unseen (QQ9 (nx C) (2*C.length) i).2<=2*C.length+1),World.ownsRow_nil _ _ _ _,hsd,World.grownBy.refl _ _,hbl⟩
    case round=>
     clear hsd hbl b3
     rename World=>W3
     obtain⟨f,seen,x,acc,rfl,hx1,hx2,hwk,hun,hsl,hac,hown,hsd,hgr,hbl⟩:=hrel
     obtain⟨a6,c6,rfl⟩:=QX5 hown
     have e0:W3.cell? ⟨w.heap.size+1,x,none⟩=some (.bool (seen.getD x true)):=by
      rw[hsd.cellAt x (by omega)];exact bools_get seen x (by omega)
     have z0:W3.frozen? ⟨w.heap.size+1,x,none⟩=false:=hsd.frozenAt x
     have hszW:=hgr.size
     cases hbit:seen.getD x true with
     |false=>
      rw[hbit]at e0
      have hst:=hsd.stored x (.bool true)
      rw[bools_set]at hst
      have HSD:Hid ((W3.setCell ⟨w.heap.size+1,x,none⟩ (.bool true)).ownsRow (w.heap.size+1) 4 1 (.slice (some ⟨w.heap.size+1,0,none⟩) (2*C.length+1) (2*C.length+1)) (2*C.length+1) (bools (seen.set x true))):=hst.1
      have HGS:Hid (W3.grownBy (W3.setCell ⟨w.heap.size+1,x,none⟩ (.bool true)) (some (w.heap.size+1))):=hst.2
      have HOW:Hid ((W3.setCell ⟨w.heap.size+1,x,none⟩ (.bool true)).ownsRow W1.heap.size 3 1 (.slice a6 acc.length c6) acc.length (nats acc)):=hown.kept hst.2 (own_ne hown hsd (by decide))
      have HWK : Hid (walkF (nx C) f seen x acc = walkF (nx C) (f - 1) (seen.set x true) (nx C x) (acc ++ [x]) ∧ unseen (seen.set x true) ≤ f - 1) := walkF_more hbit hun.out
      have HUS:Hid (unseen (seen.set x true)+1=unseen seen):=unseen_set hbit
      have hacl:acc.length<2*C.length+1:=by have:=hac.out;have:=HUS.out;omega
      have hs3:(W3.setCell ⟨w.heap.size+1,x,none⟩ (.bool true)).heap.size=W3.heap.size:=by simp
      have hlt3:w.heap.size+1<W3.heap.size:=by omega
      have HB3:Hid (Below w.heap.size w (W3.setCell ⟨w.heap.size+1,x,none⟩ (.bool true))):=hbl.grown hst.2 hbl.size (fun q hq=>by have:=Option.some.inj hq;omega)
      have HG3:Hid (W1.grownBy (W3.setCell ⟨w.heap.size+1,x,none⟩ (.bool true)) (some (w.heap.size+1))):=QQ8 hgr hst.2
      have HX:Hid (1<=nx C x/\nx C x<=2*C.length):=HNX.out x hx1 hx2
      clear hst hsd hown hgr hbl
      go_wp2_with (first
       |(at_builtin;refine wpList_append_own _ rfl _ _ 46 rfl W1.heap.size 3 i0 (.int .i64 0) 1 8 Try.underlying46 hi hz0 hz1 hz2 rfl (by decide) _ _ _ rfl (HOW.out.alloc _) ⟨W3.heap.size,0,none⟩ 1 1 [.int .i64 (x:Nat)] rfl rfl (by rw[<-hs3];exact new_cell1 _ _ _) (int_one _) (by unfold maxLen;omega) (by omega) (by simp;omega) ?_;intro v8 w8 hown8 hg8 _;refine Hid.out ?_))
      refine Lib.hid ?_
      have HG8:Hid (((W3.setCell ⟨w.heap.size+1,x,none⟩ (.bool true)).alloc (.cells #[.int .i64 (x:Nat)] 3)).grownBy w8 (Value.slice a6 acc.length c6).ownBlock):=hg8
      have HO8:Hid (w8.ownsRow W1.heap.size 3 1 v8 (acc++[x]).length (nats (acc++[x]))):=(by rw[List.length_append,nats_app];exact hown8:w8.ownsRow W1.heap.size 3 1 v8 (acc++[x]).length (nats (acc++[x])))
      have hA:=HOW.out.alloc (.cells #[.int .i64 (x:Nat)] 3)
      have hS:=HSD.out.alloc (.cells #[.int .i64 (x:Nat)] 3)
      have HS8:Hid (w8.ownsRow (w.heap.size+1) 4 1 (.slice (some ⟨w.heap.size+1,0,none⟩) (2*C.length+1) (2*C.length+1)) (2*C.length+1) (bools (seen.set x true))):=hS.kept HG8.out (own_ne hS hA (by decide))
      have HG18:Hid (W1.grownBy w8 (some (w.heap.size+1))):=QJ7 (QQ8 HG3.out (grown_none (World.grownBy_alloc _ _ none))) HG8.out (fun q hq=>(hA.lt q hq).1)
      have HB8:Hid (Below w.heap.size w w8):=(HB3.out.alloc (by rw[hs3];omega) _).grown HG8.out (by simp;omega) (fun q hq=>by have:=(hA.lt q hq).1;omega)
      have HX8:Hid (w8.heap[w.heap.size]?=some (.cells #[.slice a C.length cap,.int .i64 loops,.slice (some ⟨gF,0,none⟩) (2*C.length+1) cF,.slice (some ⟨gT,0,none⟩) (2*C.length+1) cT] 61 (0,0))):=(HG18.out.block _ (by omega) (fun e=>by have:=Option.some.inj e;omega)).trans HK.out.box
      have HD8:Hid (Dr w8 a cap C gF gT):=HD.out.on HB8.out
      clear hA hS hg8 hown8 e0 z0
      go_wp2_with (go_at_call 97;refine(ahead_any a cap C loops gF cF gT cT x _ HM.out hx1 hx2 HD8.out).mono ?_;rintro e9 w9 ⟨rfl,hb9⟩;refine Hid.out ?_)
      refine Lib.hid ?_
      have HB9:Hid (Below w8.heap.size w8 w9):=hb9
      clear hb9
      obtain⟨hn1,hn2⟩:=HX.out
      obtain⟨y,hy⟩:∃ y,nx C x=y:=⟨_,rfl⟩
      rw[hy]at hn1 hn2 HWK ⊢
      have hg9:w8.grownBy w9 none:=QQ5 HB9.out none
      go_wp2
      go_roundw
      case rel=>exact⟨f - 1,seen.set x true,y,acc++[x],rfl,hn1,hn2,(hwk.out.trans HWK.out.1:walkF (nx C) (2*C.length+1) (QQ9 (nx C) (2*C.length) i).2 j0 []=_),HWK.out.2,by simpa using hsl,(by have:=hac.out;have:=HUS.out;rw[List.length_append];simp only[List.length_cons,List.length_nil];omega:(acc++[x]).length+unseen (seen.set x true)<=2*C.length+1),QX0 HO8.out hg9,QX0 HS8.out hg9,QJ7 HG18.out hg9 (fun q hq=>by cases hq),HB8.out.trans (HB9.out.mono HB8.out.size)⟩
      case measure=>
       obtain⟨a8,c8,e8⟩:=QX5 HO8.out
       rw[e8]
       simp only[lenOf,List.length_append,List.length_cons,List.length_nil]
       omega
     |true=>
      rw[hbit]at e0
      have HWT:Hid (QQ9 (nx C) (2*C.length) (i+1)=(if acc=[] then(QQ9 (nx C) (2*C.length) i).1 else(QQ9 (nx C) (2*C.length) i).1++[acc],seen)):=walksTo_next (by rw[<-hji.out];exact hwk.out.trans (walkF_seen hbit))
      have hlz:zs.length<=i:=by rw[HK.out.len];exact HCT.out
      have HX3:Hid (W3.heap[w.heap.size]?=some (.cells #[.slice a C.length cap,.int .i64 loops,.slice (some ⟨gF,0,none⟩) (2*C.length+1) cF,.slice (some ⟨gT,0,none⟩) (2*C.length+1) cT] 61 (0,0))):=(hgr.block _ (by omega) (fun e=>by have:=Option.some.inj e;omega)).trans HK.out.box
      have hrows:=HK.out.rows.kept hgr (own_ne HK.out.rows HK.out.seen (by decide))
      have HEA:Hid (∀ j,j<zs.length->W3.ownsRow (w.heap.size+1) 3 1 (zs.getD j (.bool false)) ((QQ9 (nx C) (2*C.length) i).1.getD j []).length (nats ((QQ9 (nx C) (2*C.length) i).1.getD j []))):=fun j hj=>(HK.out.each j hj).kept hgr (own_ne (HK.out.each j hj) HK.out.seen (by decide))
      have hlen:=HK.out.len
      by_cases hz:acc=[]
      · subst hz
        rw[if_pos rfl]at HWT
        go_wp2
        go_roundw
        case rel=>
         refine⟨i+1,j0+1,zs,by omega,(by have:=hji.out;omega:j0+1=i+1+1),by go_num,?_⟩
         rw[HWT.out]
         exact⟨HX3.out,hsd,hlen,hrows,HEA.out,hbl⟩
        case measure=>simp only[intOf];omega
      · rw[if_neg hz]at HWT
        have hpos:0<acc.length:=List.length_pos_iff.2 hz
        have HON:Hid (∀ u∈[Value.slice a6 acc.length c6],u.oneCell'=true):=own_oneS hown
        have HRW:Hid (W3.ownsRow (w.heap.size+1) 46 1 _ zs.length zs):=hrows
        have HOW : Hid (W3.ownsRow (w.heap.size + 1) 3 1 (.slice a6 acc.length c6) acc.length (nats acc)) := QX4 hown (by omega)
        have HSD:Hid (W3.ownsRow (w.heap.size+1) 4 1 (.slice (some ⟨w.heap.size+1,0,none⟩) (2*C.length+1) (2*C.length+1)) (2*C.length+1) (bools seen)):=hsd
        have HBL:Hid (Below w.heap.size w W3):=hbl
        clear hrows hown hsd hbl
        have hdp:decide (0<(acc.length:Int))=true:=by simp;omega
        have hdp2:decide (0<acc.length)=true:=by simp;omega
        go_wp2_with (first
         |(at_builtin;refine wpList_append_own _ rfl _ _ 49 rfl (w.heap.size+1) 46 i1 (.slice none 0 0) 1 24 Try.underlying49 hj hy0 hy1 hy2 rfl (by decide) _ _ _ rfl (HRW.out.alloc _) ⟨W3.heap.size,0,none⟩ 1 1 [Value.slice a6 acc.length c6] rfl rfl (new_cell1 _ _ _) HON.out (by unfold maxLen;omega) (by omega) (by simp;omega) ?_;intro v8 w8 hown8 hg8 _;go_frame))
        go_roundw
        case rel=>
         have hR:=HRW.out.alloc (.cells #[Value.slice a6 acc.length c6] 46)
         have hO:=HOW.out.alloc (.cells #[Value.slice a6 acc.length c6] 46)
         have hS:=HSD.out.alloc (.cells #[Value.slice a6 acc.length c6] 46)
         refine⟨i+1,j0+1,zs++[Value.slice a6 acc.length c6],by omega,(by have:=hji.out;omega:j0+1=i+1+1),by go_num,?_⟩
         rw[HWT.out]
         refine⟨?_,hS.kept hg8 (own_ne hS hR (by decide)),by simp[hlen],by rw[List.length_append];exact hown8,fun j hjl=>?_,(HBL.out.alloc (by omega) _).grown hg8 (by simp;omega) (fun q hq=>by have:=(hR.lt q hq).1;omega)⟩
         · refine(hg8.block _ (by simp;omega) (fun e=>by have:=(hR.lt _ e.symm).1;omega)).trans (alloc_old HX3.out)
         · by_cases hjk:j<zs.length
           · have e1:((QQ9 (nx C) (2*C.length) i).1++[acc]).getD j []=(QQ9 (nx C) (2*C.length) i).1.getD j []:=by rw[List.getD_eq_getElem?_getD,List.getD_eq_getElem?_getD,List.getElem?_append_left (by omega)]
             rw[getD_left zs _ j hjk,e1]
             have h1:=(HEA.out j hjk).alloc (.cells #[Value.slice a6 acc.length c6] 46)
             exact h1.kept hg8 (own_ne h1 hR (by decide))
           · have ej:j=zs.length:=by simp at hjl;omega
             have e1:((QQ9 (nx C) (2*C.length) i).1++[acc]).getD j []=acc:=by rw[ej,hlen];simp[List.getD]
             have e2:(zs++[Value.slice a6 acc.length c6]).getD j (.bool false)=Value.slice a6 acc.length c6:=by rw[ej];exact getD_last zs _
             rw[e1,e2]
             exact hO.kept hg8 (own_ne hO hR (by decide))
        case measure=>simp only[intOf];omega
  · obtain rfl:i=2*C.length:=by omega
    obtain rfl:j0=2*C.length+1:=hji.out
    go_wp2
    go_ret
    exact ⟨_, rfl, ⟨zs, by rw [HWM.out]; exact HK.out.len, QX4 HK.out.rows (by omega), fun j hj => by rw [HWM.out] at hj ⊢; exact QX4 (HK.out.each j (by rw [HK.out.len]; exact hj)) (by omega)⟩, HK.out.bel⟩
theorem walks_any (a:Option Addr) (cap:Nat) (C:List Cr) (loops:Int) (gF cF gT cT:Nat) (w:World) (hm:mayD C loops=true) (hD:Dr w a cap C gF gT):
    Calls Try.prog 72 #[drV a cap C loops gF cF gT cT] w fun e w' => ∃ v, e = .returned v ∧ NatsOwn w' w.heap.size v (walksM C) ∧ Below w.heap.size w w' := by
 have hmf:∀ (fn:Fn) (first cap:Array Value) (w:World),(Instr.makeFunc fn first cap).run Try.prog w=.ok (.func fn first cap) w:=fun _ _ _ _=>rfl
 have HM:=hidB hm
 have HB0 : Hid (Below w.heap.size w (w.alloc (.cells #[.slice a C.length cap, .int .i64 loops, .slice (some ⟨gF, 0, none⟩) (2 * C.length + 1) cF, .slice (some ⟨gT, 0, none⟩) (2 * C.length + 1) cT] 61))) := (Below.refl _ _).alloc (Nat.le_refl _) _
 have HD:=hidB (hD.on HB0.out)
 clear hm hD
 unfold drV
 go_enter Try.func72,Try.ntmps72
 go_wp2_with (go_at_call 96;refine(arcRings_ahead a cap C loops gF cF gT cT _ HM.out HD.out).mono ?_;rintro e9 w4 ⟨v,rfl,hn4,hb4⟩)
 go_ret
 exact⟨v,rfl,hn4.low (by simp),HB0.out.trans (hb4.mono (by simp))⟩
end Go.Proofs.Ytagaajlbkfkaiaa

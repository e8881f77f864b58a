/- Several texts of the proof, one behind the other. -/
import Derived.Test.YtihijieciogabaaDoorH6P
/- A drawing in a world; the walks of Drawing.Above, Drawing.Leaving and Drawing.Ahead. -/
namespace Go.Proofs.YtihijieciogabaaDoor
open Go.RowKit

theorem alloc_at {w : World} {o : Obj} {k : Nat} (h : k = w.heap.size) : (w.alloc o).heap[k]? = some o := by
  rw [h]
  exact Array.getElem?_push_size
theorem alloc_old {w : World} {o p : Obj} {k : Nat} (h : w.heap[k]? = some p) : (w.alloc o).heap[k]? = some p := by
  have hk : k < w.heap.size := (Array.getElem?_eq_some_iff.1 h).1
  exact ((World.grownBy_alloc w o none).block k hk (by simp)).trans h
/-- A drawing of the crossings C in a world: its crossings, and its two lists of spots. -/
structure Dr (w : World) (a : Option Addr) (cap : Nat) (C : List Cr) (gF gT : Nat) : Prop where
  crs : Crs w w.heap.size (.slice a C.length cap) C
  ltF : gF < w.heap.size
  ltT : gT < w.heap.size
  from_ : TermsAt w gF 0 (ends C false C.length 0)
  to : TermsAt w gT 0 (ends C true C.length 0)
theorem Crs.on {w w' : World} {B : Nat} {v : Value} {C : List Cr} (h : Crs w B v C) (hb : Below B w w') : Crs w' B v C := by
  obtain ⟨a, cap, rfl, hn, g⟩ := h
  refine ⟨a, cap, rfl, hn, fun h0 => ?_⟩
  obtain ⟨b, off, rfl, hlt, hC⟩ := g h0
  exact ⟨b, off, rfl, hlt, hC.on hb hlt⟩
theorem Crs.mono {w : World} {B B' : Nat} {v : Value} {C : List Cr} (h : Crs w B v C) (hB : B ≤ B') : Crs w B' v C := by
  obtain ⟨a, cap, rfl, hn, g⟩ := h
  refine ⟨a, cap, rfl, hn, fun h0 => ?_⟩
  obtain ⟨b, off, rfl, hlt, hC⟩ := g h0
  exact ⟨b, off, rfl, Nat.lt_of_lt_of_le hlt hB, hC⟩
theorem Crs.up {w w' : World} {v : Value} {C : List Cr} (h : Crs w w.heap.size v C) (hb : Below w.heap.size w w') : Crs w' w'.heap.size v C := (h.on hb).mono hb.size
theorem Dr.on {w w' : World} {a : Option Addr} {cap : Nat} {C : List Cr} {gF gT : Nat} (h : Dr w a cap C gF gT) (hb : Below w.heap.size w w') : Dr w' a cap C gF gT :=
  ⟨h.crs.up hb, Nat.lt_of_lt_of_le h.ltF hb.size, Nat.lt_of_lt_of_le h.ltT hb.size, h.from_.on hb h.ltF, h.to.on hb h.ltT⟩
theorem Dr.cross {w : World} {a : Option Addr} {cap : Nat} {C : List Cr} {gF gT : Nat} (h : Dr w a cap C gF gT) (hp : 0 < C.length) : ∃ b off, a = some ⟨b, off, none⟩ ∧ b < w.heap.size ∧ CrossAt w b off C := by
  obtain ⟨a', cap', e, _, g⟩ := h.crs
  injection e with e1 e2 e3
  obtain ⟨b, off, h1, h2, h3⟩ := g hp
  exact ⟨b, off, by rw [e1, h1], h2, h3⟩
theorem Dr.toAt {w : World} {a : Option Addr} {cap : Nat} {C : List Cr} {gF gT : Nat} {loops : Int} (h : Dr w a cap C gF gT) (hm : mayD C loops = true) (x : Nat) (h1 : 1 ≤ x) (h2 : x ≤ 2 * C.length) :
    w.cell? ⟨gT, x * 2, none⟩ = some (.int .i64 (toC C x : Nat)) ∧ w.cell? ⟨gT, x * 2 + 1, none⟩ = some (.int .i64 (toS C x : Nat)) := by
  have hT := h.to x (by rw [ends_length]; omega)
  rw [ends_at C true C.length 0 x h1 h2, Nat.zero_add] at hT
  have e : endAh C x true C.length 0 = endTo C x true C.length := rfl
  rw [e, (to_may hm x h1 h2).1] at hT
  exact hT
/-- The drawing as a value. -/
def drV (a : Option Addr) (cap : Nat) (C : List Cr) (loops : Int) (gF cF gT cT : Nat) : Value := .agg #[.slice a C.length cap, .int .i64 loops, .slice (some ⟨gF, 0, none⟩) (2 * C.length + 1) cF, .slice (some ⟨gT, 0, none⟩) (2 * C.length + 1) cT]

set_option maxHeartbeats 4000000 in
set_option maxRecDepth 100000 in
theorem leaving_any (b off cap : Nat) (C : List Cr) (loops : Int) (vF vT : Value) (i k : Nat) (w : World) (hi : i < C.length) (hk : k < 4) (hbw : b < w.heap.size) (hC : CrossAt w b off C) :
    Calls Tryd.prog 82 #[.agg #[.slice (some ⟨b, off, none⟩) C.length cap, .int .i64 loops, vF, vT], .agg #[.int .i64 i, .int .i64 k]] w fun e w' => e = .returned (.agg #[.int .i64 ((C.getD i Cr.none).arc k), .bool ((C.getD i Cr.none).comes k)]) ∧ Below w.heap.size w w' := by
  obtain ⟨c0, c1, c2, c3, c4⟩ := hC i hi
  clear hC
  generalize C.getD i Cr.none = x at c0 c1 c2 c3 c4
  have hB3 : Below w.heap.size w (((w.alloc (.cells #[.slice (some ⟨b, off, none⟩) C.length cap, .int .i64 loops, vF, vT] 43)).alloc (.cells #[.int .i64 i, .int .i64 k] 106)).alloc (.cells #[.int .i64 0, .bool false] 100)) := below3 _ _ _ _
  have e0 := bcell hB3 hbw c0
  have e1 := bcell hB3 hbw c1
  have e2 := bcell hB3 hbw c2
  have e3 := bcell hB3 hbw c3
  have e4 := bcell hB3 hbw c4
  clear hB3 c0 c1 c2 c3 c4
  go_enter Tryd.func82, Tryd.ntmps82
  go_wp2
  clear e0 e1 e2 e3 e4
  obtain ⟨W0, hW0⟩ : ∃ W0, W0 = (((w.alloc (.cells #[.slice (some ⟨b, off, none⟩) C.length cap, .int .i64 loops, vF, vT] 43)).alloc (.cells #[.int .i64 i, .int .i64 k] 106)).alloc (.cells #[.int .i64 0, .bool false] 100)).alloc (.cells #[.int .i64 x.a, .int .i64 x.b, .int .i64 x.c, .int .i64 x.d, .bool x.plus] 69) := ⟨_, rfl⟩
  rw [← hW0]
  have hs0 : W0.heap.size = w.heap.size + 4 := by rw [hW0]; simp
  have HB0 : Hid (Below w.heap.size w W0) := (by rw [hW0]; exact (below3 _ _ _ _).alloc (by simp; omega) _ : Below w.heap.size w W0)
  have HT1 : Hid (W0.heap[w.heap.size + 1]? = some (.cells #[.int .i64 i, .int .i64 k] 106 (0, 0))) := (by rw [hW0]; exact alloc_old (alloc_old (alloc_at (by simp))) : W0.heap[w.heap.size + 1]? = some (.cells #[.int .i64 i, .int .i64 k] 106 (0, 0)))
  have HT2 : Hid (W0.heap[w.heap.size + 1 + 1]? = some (.cells #[.int .i64 0, .bool false] 100 (0, 0))) := (by rw [hW0]; exact alloc_old (alloc_at (by simp)) : W0.heap[w.heap.size + 1 + 1]? = some (.cells #[.int .i64 0, .bool false] 100 (0, 0)))
  have HT3 : Hid (W0.heap[w.heap.size + 1 + 1 + 1]? = some (.cells #[.int .i64 x.a, .int .i64 x.b, .int .i64 x.c, .int .i64 x.d, .bool x.plus] 69 (0, 0))) := (by rw [hW0]; exact alloc_at (by simp) : W0.heap[w.heap.size + 1 + 1 + 1]? = some (.cells #[.int .i64 x.a, .int .i64 x.b, .int .i64 x.c, .int .i64 x.d, .bool x.plus] 69 (0, 0)))
  clear hW0
  have HF : Hid (∀ w', Below W0.heap.size W0 w' → w'.cell? ⟨w.heap.size + 1 + 1 + 1, 0, none⟩ = some (.int .i64 x.a) ∧ w'.cell? ⟨w.heap.size + 1 + 1 + 1, 1, none⟩ = some (.int .i64 x.b) ∧ w'.cell? ⟨w.heap.size + 1 + 1 + 1, 2, none⟩ = some (.int .i64 x.c) ∧ w'.cell? ⟨w.heap.size + 1 + 1 + 1, 3, none⟩ = some (.int .i64 x.d) ∧ w'.cell? ⟨w.heap.size + 1 + 1 + 1, 4, none⟩ = some (.bool x.plus) ∧ w'.cell? ⟨w.heap.size + 1, 1, none⟩ = some (.int .i64 k)) := fun w' hb => by
    have g3 := (hb.block _ (by omega)).trans HT3.out
    have g1 := (hb.block _ (by omega)).trans HT1.out
    exact ⟨block_cell g3 rfl, block_cell g3 rfl, block_cell g3 rfl, block_cell g3 rfl, block_cell g3 rfl, block_cell g1 rfl⟩
  have HFS : Hid (∀ wX u v, Below W0.heap.size W0 wX → (fun w' => w'.cell? ⟨w.heap.size + 1 + 1 + 1, 0, none⟩ = some (.int .i64 x.a) ∧ w'.cell? ⟨w.heap.size + 1 + 1 + 1, 1, none⟩ = some (.int .i64 x.b) ∧ w'.cell? ⟨w.heap.size + 1 + 1 + 1, 2, none⟩ = some (.int .i64 x.c) ∧ w'.cell? ⟨w.heap.size + 1 + 1 + 1, 3, none⟩ = some (.int .i64 x.d) ∧ w'.cell? ⟨w.heap.size + 1 + 1 + 1, 4, none⟩ = some (.bool x.plus) ∧ w'.cell? ⟨w.heap.size + 1, 1, none⟩ = some (.int .i64 k)) (st2 wX (w.heap.size + 1 + 1) 0 u v)) := fun wX u v hb => by
    have hg := st2_grown wX (w.heap.size + 1 + 1) 0 u v
    have hsz := hb.size
    have g3 := (hg.block (w.heap.size + 1 + 1 + 1) (by omega) (fun e => by have := Option.some.inj e; omega)).trans ((hb.block _ (by omega)).trans HT3.out)
    have g1 := (hg.block (w.heap.size + 1) (by omega) (fun e => by have := Option.some.inj e; omega)).trans ((hb.block _ (by omega)).trans HT1.out)
    exact ⟨block_cell g3 rfl, block_cell g3 rfl, block_cell g3 rfl, block_cell g3 rfl, block_cell g3 rfl, block_cell g1 rfl⟩
  have HZ : Hid (∀ wX, Below W0.heap.size W0 wX → wX.cell? ⟨w.heap.size + 1 + 1, 0, none⟩ = some (.int .i64 0) ∧ wX.cell? ⟨w.heap.size + 1 + 1, 1, none⟩ = some (.bool false) ∧ wX.frozen? ⟨w.heap.size + 1 + 1, 0, none⟩ = false ∧ wX.frozen? ⟨w.heap.size + 1 + 1, 1, none⟩ = false) := fun wX hb => by
    have g2 := (hb.block _ (by omega)).trans HT2.out
    exact ⟨block_cell g2 rfl, block_cell g2 rfl, block_frozen g2, block_frozen g2⟩
  have HD0 : Hid (Below W0.heap.size W0 W0.drew) := (Below.refl _ _).drew
  obtain ⟨t0, t1, t2, t3, t4, t5⟩ := HF.out W0 (Below.refl _ _)
  have hix := index_arr x k hk
  go_region_held3 (fun w' => w'.cell? ⟨w.heap.size + 1 + 1 + 1, 0, none⟩ = some (.int .i64 x.a) ∧ w'.cell? ⟨w.heap.size + 1 + 1 + 1, 1, none⟩ = some (.int .i64 x.b) ∧ w'.cell? ⟨w.heap.size + 1 + 1 + 1, 2, none⟩ = some (.int .i64 x.c) ∧ w'.cell? ⟨w.heap.size + 1 + 1 + 1, 3, none⟩ = some (.int .i64 x.d) ∧ w'.cell? ⟨w.heap.size + 1 + 1 + 1, 4, none⟩ = some (.bool x.plus) ∧ w'.cell? ⟨w.heap.size + 1, 1, none⟩ = some (.int .i64 k)) (first | exact HF.out _ HY.out | exact HF.out _ HA.out | exact HF.out _ HD0.out | exact HF.out _ (Below.refl _ _) | exact HFS.out _ _ _ HY.out | exact HFS.out _ _ _ HA.out) (first
    | (go_at_call 29; refine (arcs_any x _).mono ?_; rintro e9 wA ⟨rfl, hbA⟩
       first
         | have HA : Hid (Below W0.heap.size W0 wA) := HY.out.trans (hbA.mono HY.out.size)
         | have HA : Hid (Below W0.heap.size W0 wA) := HD0.out.trans hbA
       obtain ⟨a0, a1, a2, a3, a4, a5⟩ := HF.out wA HA.out
       obtain ⟨b0, b1, b2, b3⟩ := HZ.out wA HA.out
       clear hbA)
    | (go_at_call 56; refine (comesIn_any x k _ hk).mono ?_; rintro e9 wC ⟨rfl, hbC⟩
       first
         | have HY : Hid (Below W0.heap.size W0 wC) := HA.out.trans (hbC.mono HA.out.size)
         | have HY : Hid (Below W0.heap.size W0 wC) := HD0.out.trans hbC
       obtain ⟨p0, p1, p2, p3, p4, p5⟩ := HF.out wC HY.out
       obtain ⟨q0, q1, q2, q3⟩ := HZ.out wC HY.out
       clear hbC))
  all_goals first
    | (have hX := set_block (i := 1) (u := .bool (x.comes k)) (set_block (i := 0) (u := .int .i64 (x.arc k)) ((HY.out.block _ (by omega)).trans HT2.out))
       have x0 := block_cell (i := 0) (v := .int .i64 (x.arc k)) hX rfl
       have x1 := block_cell (i := 1) (v := .bool (x.comes k)) hX rfl
       go_wp2
       exact bodyPost_ret (v := .agg #[.int .i64 (x.arc k), .bool (x.comes k)]) (by simp [results, Tryd.results82, go_sem, x0, x1]) rfl ⟨rfl, (HB0.out.trans (HY.out.mono (by omega))).grown (st2_grown wC (w.heap.size + 1 + 1) 0 (.int .i64 (x.arc k)) (.bool (x.comes k))) (by have := HY.out.size; omega) (fun q hq => by have := Option.some.inj hq; omega)⟩)
    | (have hX := set_block (i := 1) (u := .bool (x.comes k)) (set_block (i := 0) (u := .int .i64 (x.arc k)) ((HA.out.block _ (by omega)).trans HT2.out))
       have x0 := block_cell (i := 0) (v := .int .i64 (x.arc k)) hX rfl
       have x1 := block_cell (i := 1) (v := .bool (x.comes k)) hX rfl
       go_wp2
       exact bodyPost_ret (v := .agg #[.int .i64 (x.arc k), .bool (x.comes k)]) (by simp [results, Tryd.results82, go_sem, x0, x1]) rfl ⟨rfl, (HB0.out.trans (HA.out.mono (by omega))).grown (st2_grown wA (w.heap.size + 1 + 1) 0 (.int .i64 (x.arc k)) (.bool (x.comes k))) (by have := HA.out.size; omega) (fun q hq => by have := Option.some.inj hq; omega)⟩)

theorem field_dart (a : Int) (p : Bool) (w : World) : (Instr.field 100 (.agg #[.int .i64 a, .bool p]) 0).run Tryd.prog w = .ok (.int .i64 a) w := by
  simp [Instr.field, run_underlying Tryd.underlying100, go_sem, asAgg]

end Go.Proofs.YtihijieciogabaaDoor
/- A row that is taken from at its head and appended to at its end: in the world, and the step of append upon it. -/
namespace Go.Proofs.YtihijieciogabaaDoor
open Go.RowKit

/-- A row of one-celled values of the call's own, that begins somewhere in its block. -/
def QueAt (w : World) (base : Nat) (e : TypeId) (v : Value) (xs : List Value) : Prop :=
  ∃ g off cap cur, v = .slice (some ⟨g, off, none⟩) xs.length cap ∧ base ≤ g ∧ w.heap[g]? = some (.cells cur e (0, 0)) ∧ xs.length ≤ cap ∧ cap ≤ maxLen ∧ off + cap ≤ cur.size ∧ (cur.toList.drop off).take xs.length = xs
theorem QueAt.kept {w w' : World} {base : Nat} {e : TypeId} {v : Value} {xs : List Value} {row : Option Nat} (h : QueAt w base e v xs) (hg : w.grownBy w' row) (hne : v.ownBlock ≠ row) : QueAt w' base e v xs := by
  obtain ⟨g, off, cap, cur, rfl, hb, hgg, rest⟩ := h
  refine ⟨g, off, cap, cur, rfl, hb, ?_, rest⟩
  rw [hg.block g (Array.getElem?_eq_some_iff.1 hgg).1 (by simpa [Value.ownBlock] using hne)]
  exact hgg
theorem QueAt.lt {w : World} {base : Nat} {e : TypeId} {v : Value} {xs : List Value} (h : QueAt w base e v xs) : ∀ k, v.ownBlock = some k → base ≤ k ∧ k < w.heap.size := by
  intro k hk
  obtain ⟨g, off, cap, cur, rfl, hb, hgg, rest⟩ := h
  have e := Option.some.inj hk
  have e2 : g = k := e
  subst e2
  exact ⟨hb, (Array.getElem?_eq_some_iff.1 hgg).1⟩
theorem QueAt.shape {w : World} {base : Nat} {e : TypeId} {v : Value} {xs : List Value} (h : QueAt w base e v xs) : ∃ g off cap, v = .slice (some ⟨g, off, none⟩) xs.length cap ∧ xs.length ≤ cap := by
  obtain ⟨g, off, cap, cur, rfl, _, _, h2, _⟩ := h
  exact ⟨g, off, cap, rfl, h2⟩
theorem QueAt.size {w : World} {base g off n cap : Nat} {e : TypeId} {xs : List Value} (h : QueAt w base e (.slice (some ⟨g, off, none⟩) n cap) xs) : n = xs.length ∧ n ≤ cap ∧ cap ≤ maxLen ∧ base ≤ g ∧ g < w.heap.size := by
  obtain ⟨g', off', cap', cur, ev, hb, hgg, h1, h2, _⟩ := h
  injection ev with e1 e2 e3
  injection e1 with e1
  injection e1 with e4 e5
  subst e4 e2 e3
  exact ⟨rfl, h1, h2, hb, (Array.getElem?_eq_some_iff.1 hgg).1⟩
theorem QueAt.cell {w : World} {base g off n cap : Nat} {e : TypeId} {xs : List Value} (h : QueAt w base e (.slice (some ⟨g, off, none⟩) n cap) xs) (j : Nat) (u : Value) (hj : xs[j]? = some u) : w.cell? ⟨g, off + j, none⟩ = some u := by
  obtain ⟨g', off', cap', cur, ev, hb, hgg, h1, h2, h3, h4⟩ := h
  injection ev with e1 e2 e3
  injection e1 with e1
  injection e1 with e4 e5
  subst e4 e5
  rw [cell_of_row w g _ cur e (0, 0) hgg]
  rw [← h4, List.getElem?_take] at hj
  split at hj
  · rw [List.getElem?_drop] at hj
    simpa using hj
  · cases hj
/-- Its first is taken away. -/
theorem QueAt.tail {w : World} {base g off n cap : Nat} {e : TypeId} {x : Value} {xs : List Value} (h : QueAt w base e (.slice (some ⟨g, off, none⟩) n cap) (x :: xs)) : QueAt w base e (.slice (some ⟨g, off + 1, none⟩) (n - 1) (cap - 1)) xs := by
  obtain ⟨g', off', cap', cur, ev, hb, hgg, h1, h2, h3, h4⟩ := h
  injection ev with e1 e2 e3
  injection e1 with e1
  injection e1 with e4 e5
  subst e4 e5 e3
  simp only [List.length_cons] at e2 h1 h4
  refine ⟨g, off + 1, cap - 1, cur, by rw [e2]; simp, hb, hgg, by omega, by omega, by omega, ?_⟩
  have h5 : ((cur.toList.drop off).take (xs.length + 1)).drop 1 = xs := by rw [h4]; rfl
  rw [List.drop_take, List.drop_drop] at h5
  simpa using h5
/-- Its only one is taken away, and there is no room behind it. -/
theorem QueAt.tail1 {w : World} {base g off n : Nat} {e : TypeId} {x : Value} {xs : List Value} (h : QueAt w base e (.slice (some ⟨g, off, none⟩) n 1) (x :: xs)) : QueAt w base e (.slice (some ⟨g, off, none⟩) (n - 1) 0) xs ∧ xs = [] := by
  obtain ⟨g', off', cap', cur, ev, hb, hgg, h1, h2, h3, h4⟩ := h
  injection ev with e1 e2 e3
  injection e1 with e1
  injection e1 with e4 e5
  subst e4 e5 e3
  simp only [List.length_cons] at e2 h1 h4
  have hx : xs = [] := List.length_eq_zero_iff.1 (by omega)
  subst hx
  exact ⟨⟨g, off, 0, cur, by rw [e2]; simp, hb, hgg, Nat.zero_le _, Nat.zero_le _, by omega, by simp⟩, rfl⟩
theorem QueAt.made {w : World} {base g n cap : Nat} {e : TypeId} {xs : List Value} (h : w.ownsRow base e 1 (.slice (some ⟨g, 0, none⟩) n cap) n xs) : QueAt w base e (.slice (some ⟨g, 0, none⟩) n cap) xs := by
  obtain ⟨hl, h⟩ := h
  rcases h with ⟨h, _⟩ | ⟨g', cap', cur, ev, hb, hgg, h1, h2, h3, h4⟩
  · cases h
  · injection ev with e1 e2 e3
    injection e1 with e1
    injection e1 with e4
    subst e4 e3
    rw [Nat.mul_one] at hl h3 h4
    exact ⟨g, 0, cap, cur, by rw [hl], hb, hgg, by omega, h2, by omega, by rw [hl]; simpa using h4⟩

theorem run_append_que {P : Program} (w : World) (base : Nat) (t ty e : TypeId) (i : TypeInfo) (z : Value) (bytes : Nat) (ht : P.underlying t = some (.slice e)) (hi : P.info? e = some i) (hz : i.zero = some z)
    (hsize : i.size = 1) (hby : i.bytes = bytes) (hzs : z.cells.size = 1)
    (v : Value) (xs : List Value) (hown : QueAt w base e v xs)
    (a : Addr) (c : Nat) (u : Value) (hnews : w.cell? a = some u) (h1 : u.oneCell' = true)
    (h63 : xs.length + 1 ≤ maxLen) (hbytes : (xs.length + 1) * bytes ≤ 140737488355328) (hbase : base ≤ w.heap.size) :
    ∃ v' w', (Builtin.append_ #[t, t] ty #[v, .slice (some a) 1 c]).run P w = .ok v' w' ∧ QueAt w' base e v' (xs ++ [u]) ∧ w.grownBy w' v.ownBlock := by
  subst hby
  have hsmall : xs.length + 1 ≤ 9223372036854775807 := by simp only [maxLen] at h63; omega
  have hl : [u].length = 1 * i.size := by rw [hsize]; rfl
  have hcells : ∀ j v, [u][j]? = some v → w.cell? (a.add j) = some v := by
    intro j v hj
    cases j with
    | zero =>
      have e : v = u := by simpa using hj.symm
      subst e
      have ha : a.add 0 = a := by unfold Addr.add; split <;> simp_all
      rw [ha]
      exact hnews
    | succ j => simp at hj
  obtain ⟨g, off, cap, cur, rfl, hb, hgg, hnc, hcm, hcs, htake⟩ := hown
  by_cases hroom : xs.length + 1 ≤ cap
  · have hf := run_firstCells_some (P := P) w i.size 1 a 1 c [u] hl hcells
    have hst := run_storeCells_at P g (off + xs.length) e [u] 0 cur w hgg (by simp; omega) (by simpa using h1)
    simp only [Nat.add_zero] at hst
    refine ⟨.slice (some ⟨g, off, none⟩) (xs.length + 1) cap, w.setRow g (cur.toList.take (off + xs.length) ++ [u] ++ cur.toList.drop (off + xs.length + [u].length)).toArray, ?_, ⟨g, off, cap, _, by simp, hb, setRow_heap w g cur _ e _ hgg, by simpa using hroom, hcm, ?_, ?_⟩, ⟨rfl, rfl, rfl, by simp, fun k _ hk => setRow_other w g k _ (fun e => hk (by simp [Value.ownBlock, e]))⟩⟩
    · rw [hsize] at hf
      simp [Builtin.append_, run_underlying ht, sizeOf, typeInfo, hi, hsize, Builtin.lenOf, hroom, hf, Addr.add_lit]
      simp at hst
      simp [hst]
    · simp only [List.size_toArray, List.length_append, List.length_take, List.length_drop, Array.length_toList, List.length_cons, List.length_nil]
      omega
    · have h5 : (cur.toList.take (off + xs.length)).drop off = xs := by rw [List.drop_take, Nat.add_sub_cancel_left]; exact htake
      simp only [List.append_assoc]
      rw [List.drop_append_of_le_length (by simp; omega), h5, ← List.append_assoc]
      exact List.take_left
  · have holds : ∀ j v, xs[j]? = some v → w.cell? ((⟨g, off, none⟩ : Addr).add j) = some v := fun j v hj => by
      have hadd : (⟨g, off, none⟩ : Addr).add j = ⟨g, off + j, none⟩ := by unfold Addr.add; split <;> simp_all
      rw [hadd]
      exact QueAt.cell (⟨g, off, cap, cur, rfl, hb, hgg, hnc, hcm, hcs, htake⟩ : QueAt w base e (.slice (some ⟨g, off, none⟩) xs.length cap) xs) j v hj
    have hr := run_append_grow (P := P) w t ty e i z ht hi hz ⟨g, off, none⟩ xs.length cap xs (by rw [hsize, Nat.mul_one]) holds a 1 c [u] hl hcells (by omega) (by omega) (growslice_fits (by omega) hbytes)
    have hge := grownCap_ge w (xs.length + 1) cap e
    refine ⟨_, _, hr, ⟨w.heap.size, 0, _, _, by simp, hbase, heap_alloc_new w.drew _, by simpa using hge, grownCap_le_maxLen w (xs.length + 1) cap e h63, ?_, ?_⟩, ⟨rfl, rfl, rfl, by simp, fun k hk _ => Array.getElem?_push_lt hk ▸ (Array.getElem?_eq_getElem hk).symm⟩⟩
    · simp only [Array.size_append, List.size_toArray, size_zeroCells, hzs, List.length_cons, List.length_nil]
      omega
    · simp only [Array.toList_append, List.drop_zero]
      exact List.take_left

theorem wpList_append_que {P : Program} (w : World) {ops : Array Oper} {rest : List Oper} {o : Oper} {a : Act} {Q : Exit → Act → World → Prop} (hgd : o.guard = none) (s x : Operand) (t : TypeId)
    (ho : o.op = .call { callee := .builtin .append, args := #[s, x], argTypes := #[t, t] })
    (base : Nat) (e : TypeId) (i : TypeInfo) (z : Value) (bytes : Nat) (ht : P.underlying t = some (.slice e)) (hi : P.info? e = some i) (hz : i.zero = some z)
    (hsize : i.size = 1) (hby : i.bytes = bytes) (hzs : z.cells.size = 1)
    (v : Value) (xs : List Value) (hs : a.eval s = v) (hown : QueAt w base e v xs)
    (ad : Addr) (c : Nat) (u : Value) (hx : a.eval x = .slice (some ad) 1 c) (hnews : w.cell? ad = some u) (h1 : u.oneCell' = true)
    (h63 : xs.length + 1 ≤ maxLen) (hbytes : (xs.length + 1) * bytes ≤ 140737488355328) (hbase : base ≤ w.heap.size)
    (h : ∀ v' w', QueAt w' base e v' (xs ++ [u]) → w.grownBy w' v.ownBlock → wpList P ops Q rest (a.put o.dst v') w') : wpList P ops Q (o :: rest) a w := by
  refine wpList_plain hgd fun _ hK => ?_
  obtain ⟨v', w', hr, h2, h3⟩ := run_append_que (P := P) w base t o.type e i z bytes ht hi hz hsize hby hzs v xs hown ad c u hnews h1 h63 hbytes hbase
  unfold Oper.wp execOp
  simp only [ho, resolve, invoke, builtin, Sem.run_bind, Sem.run_pure, Result.andThen_ok, List.map_toArray, List.map_cons, List.map_nil, hs, hx, hr]
  exact hK _ _ (h v' w' h2 h3)
end Go.Proofs.YtihijieciogabaaDoor
/- The walks of Drawing.End, Drawing.Onward, way; ref.dartCode, ref.NextDart. -/
namespace Go.Proofs.YtihijieciogabaaDoor
open Go.RowKit

theorem Dr.endAt {w : World} {a : Option Addr} {cap : Nat} {C : List Cr} {gF gT : Nat} {loops : Int} (h : Dr w a cap C gF gT) (hm : mayD C loops = true) (x : Nat) (h1 : 1 ≤ x) (h2 : x ≤ 2 * C.length) :
    w.cell? ⟨gT, x * 2, none⟩ = some (.int .i64 (enC C x true : Nat)) ∧ w.cell? ⟨gT, x * 2 + 1, none⟩ = some (.int .i64 (enS C x true : Nat)) ∧ w.cell? ⟨gF, x * 2, none⟩ = some (.int .i64 (enC C x false : Nat)) ∧ w.cell? ⟨gF, x * 2 + 1, none⟩ = some (.int .i64 (enS C x false : Nat)) := by
  have hT := h.to x (by rw [ends_length]; omega)
  have hF := h.from_ x (by rw [ends_length]; omega)
  rw [ends_at C true C.length 0 x h1 h2, Nat.zero_add] at hT
  rw [ends_at C false C.length 0 x h1 h2, Nat.zero_add] at hF
  have e : endAh C x true C.length 0 = endTo C x true C.length := rfl
  have e2 : endAh C x false C.length 0 = endTo C x false C.length := rfl
  rw [e, (en_may hm x true h1 h2).1] at hT
  rw [e2, (en_may hm x false h1 h2).1] at hF
  exact ⟨hT.1, hT.2, hF.1, hF.2⟩

set_option maxHeartbeats 2000000 in
set_option maxRecDepth 100000 in
theorem end_any (a : Option Addr) (cap : Nat) (C : List Cr) (loops : Int) (gF cF gT cT : Nat) (x : Nat) (p : Bool) (w : World) (hm : mayD C loops = true) (h1 : 1 ≤ x) (h2 : x ≤ 2 * C.length) (hD : Dr w a cap C gF gT) :
    Calls Tryd.prog 59 #[drV a cap C loops gF cF gT cT, .agg #[.int .i64 x, .bool p]] w fun e w' => e = .returned (.agg #[.int .i64 (enC C x (!p) : Nat), .int .i64 (enS C x (!p) : Nat)]) ∧ Below w.heap.size w w' := by
  unfold drV
  obtain ⟨c0, c1, c2, c3⟩ := hD.endAt hm x h1 h2
  have l1 := hD.ltT
  have l2 := hD.ltF
  clear hD
  have hB3 : Below w.heap.size w (((w.alloc (.cells #[.slice a C.length cap, .int .i64 loops, .slice (some ⟨gF, 0, none⟩) (2 * C.length + 1) cF, .slice (some ⟨gT, 0, none⟩) (2 * C.length + 1) cT] 43)).alloc (.cells #[.int .i64 x, .bool p] 100)).alloc (.cells #[.int .i64 0, .int .i64 0] 106)) := below3 _ _ _ _
  have d0 := bcell hB3 l1 c0
  have d1 := bcell hB3 l1 c1
  have d2 := bcell hB3 l2 c2
  have d3 := bcell hB3 l2 c3
  clear hB3 c0 c1 c2 c3
  obtain ⟨t0, ht0⟩ : ∃ t0, enC C x true = t0 := ⟨_, rfl⟩
  obtain ⟨t1, ht1⟩ : ∃ t1, enS C x true = t1 := ⟨_, rfl⟩
  obtain ⟨f0, hf0⟩ : ∃ f0, enC C x false = f0 := ⟨_, rfl⟩
  obtain ⟨f1, hf1⟩ : ∃ f1, enS C x false = f1 := ⟨_, rfl⟩
  rw [ht0] at d0
  rw [ht1] at d1
  rw [hf0] at d2
  rw [hf1] at d3
  have hx : x < 2 * C.length + 1 := by omega
  cases p with
  | true =>
    have hG : (((w.alloc (.cells #[.slice a C.length cap, .int .i64 loops, .slice (some ⟨gF, 0, none⟩) (2 * C.length + 1) cF, .slice (some ⟨gT, 0, none⟩) (2 * C.length + 1) cT] 43)).alloc (.cells #[.int .i64 x, .bool true] 100)).alloc (.cells #[.int .i64 f0, .int .i64 f1] 106)).heap[w.heap.size + 1 + 1]? = some (.cells #[.int .i64 f0, .int .i64 f1] 106 (0, 0)) := alloc_at (by simp)
    have x0 := block_cell (i := 0) (v := .int .i64 f0) hG rfl
    have x1 := block_cell (i := 1) (v := .int .i64 f1) hG rfl
    have HB : Hid (Below w.heap.size w (((w.alloc (.cells #[.slice a C.length cap, .int .i64 loops, .slice (some ⟨gF, 0, none⟩) (2 * C.length + 1) cF, .slice (some ⟨gT, 0, none⟩) (2 * C.length + 1) cT] 43)).alloc (.cells #[.int .i64 x, .bool true] 100)).alloc (.cells #[.int .i64 f0, .int .i64 f1] 106))) := below3 _ _ _ _
    clear hG
    go_enter Tryd.func59, Tryd.ntmps59
    go_wp2
    exact bodyPost_ret (v := .agg #[.int .i64 f0, .int .i64 f1]) (by simp [results, Tryd.results59, go_sem, x0, x1]) rfl ⟨by simp [hf0, hf1], HB.out⟩
  | false =>
    have hG : (((w.alloc (.cells #[.slice a C.length cap, .int .i64 loops, .slice (some ⟨gF, 0, none⟩) (2 * C.length + 1) cF, .slice (some ⟨gT, 0, none⟩) (2 * C.length + 1) cT] 43)).alloc (.cells #[.int .i64 x, .bool false] 100)).alloc (.cells #[.int .i64 t0, .int .i64 t1] 106)).heap[w.heap.size + 1 + 1]? = some (.cells #[.int .i64 t0, .int .i64 t1] 106 (0, 0)) := alloc_at (by simp)
    have x0 := block_cell (i := 0) (v := .int .i64 t0) hG rfl
    have x1 := block_cell (i := 1) (v := .int .i64 t1) hG rfl
    have HB : Hid (Below w.heap.size w (((w.alloc (.cells #[.slice a C.length cap, .int .i64 loops, .slice (some ⟨gF, 0, none⟩) (2 * C.length + 1) cF, .slice (some ⟨gT, 0, none⟩) (2 * C.length + 1) cT] 43)).alloc (.cells #[.int .i64 x, .bool false] 100)).alloc (.cells #[.int .i64 t0, .int .i64 t1] 106))) := below3 _ _ _ _
    clear hG
    go_enter Tryd.func59, Tryd.ntmps59
    go_wp2
    exact bodyPost_ret (v := .agg #[.int .i64 t0, .int .i64 t1]) (by simp [results, Tryd.results59, go_sem, x0, x1]) rfl ⟨by simp [ht0, ht1], HB.out⟩

set_option maxHeartbeats 2000000 in
set_option maxRecDepth 100000 in
theorem way_any (x : Int) (p : Bool) (w : World) :
    Calls Tryd.prog 75 #[.agg #[.int .i64 x, .bool p]] w fun e w' => e = .returned (.int .i64 (if p = true then 1 else 0)) ∧ Below w.heap.size w w' := by
  go_enter Tryd.func75, Tryd.ntmps75
  cases p with
  | true =>
    go_wp2
    go_ret
    exact ⟨rfl, (Below.refl _ _).alloc (Nat.le_refl _) _⟩
  | false =>
    go_wp2
    go_ret
    exact ⟨rfl, (Below.refl _ _).alloc (Nat.le_refl _) _⟩

set_option maxHeartbeats 2000000 in
set_option maxRecDepth 100000 in
theorem dartCode_any (x : Nat) (p : Bool) (w : World) (hx : x ≤ 1000) :
    Calls Tryd.prog 71 #[.agg #[.int .i64 x, .bool p]] w fun e w' => e = .returned (.int .i64 ((if p = true then 2 * x + 1 else 2 * x : Nat) : Int)) ∧ Below w.heap.size w w' := by
  have e1 : IntKind.i64.wrap (2 * (x : Int)) = 2 * (x : Int) := IntWalk.i64_in _ (by omega)
  have e2 : IntKind.i64.wrap (2 * (x : Int) + 1) = 2 * (x : Int) + 1 := IntWalk.i64_in _ (by omega)
  go_enter Tryd.func71, Tryd.ntmps71
  cases p with
  | true =>
    go_wp2
    go_ret
    exact ⟨by simp, (Below.refl _ _).alloc (Nat.le_refl _) _⟩
  | false =>
    go_wp2
    go_ret
    exact ⟨by simp, (Below.refl _ _).alloc (Nat.le_refl _) _⟩
end Go.Proofs.YtihijieciogabaaDoor
/- Lists of numbers that a call owns; the walk of Drawing.Walks. -/
namespace Go.Proofs.YtihijieciogabaaDoor
open Go.RowKit

/-- Numbers as cells. -/
def nats (l : List Nat) : List Value := l.map fun x => .int .i64 (x : Nat)
def bools (l : List Bool) : List Value := l.map fun x => .bool x
theorem nats_len (l : List Nat) : (nats l).length = l.length := by simp [nats]
theorem bools_len (l : List Bool) : (bools l).length = l.length := by simp [bools]
theorem nats_get (l : List Nat) (i : Nat) (h : i < l.length) : (nats l)[i]? = some (.int .i64 (l.getD i 0 : Nat)) := by simp [nats, List.getD, h]
theorem bools_get (l : List Bool) (i : Nat) (h : i < l.length) : (bools l)[i]? = some (.bool (l.getD i true)) := by simp [bools, List.getD, h]
theorem bools_set (l : List Bool) (i : Nat) (b : Bool) : (bools l).set i (.bool b) = bools (l.set i b) := by simp [bools, List.map_set]
theorem nats_app (l : List Nat) (x : Nat) : nats (l ++ [x]) = nats l ++ [.int .i64 (x : Nat)] := by simp [nats]
/-- A list of lists of numbers that a call itself owns. -/
def NatsOwn (w : World) (B : Nat) (v : Value) (L : List (List Nat)) : Prop :=
  ∃ ys : List Value, ys.length = L.length ∧ w.ownsRow B 57 1 v ys.length ys ∧ ∀ j, j < L.length → w.ownsRow B 3 1 (ys.getD j (.bool false)) (L.getD j []).length (nats (L.getD j []))
theorem NatsOwn.any {w w' : World} {B : Nat} {v : Value} {L : List (List Nat)} (h : NatsOwn w B v L) (hg : w.grownBy w' none) : NatsOwn w' B v L := by
  obtain ⟨ys, h1, h2, h3⟩ := h
  exact ⟨ys, h1, own_any h2 hg, fun j hj => own_any (h3 j hj) hg⟩
theorem NatsOwn.low {w : World} {B B' : Nat} {v : Value} {L : List (List Nat)} (h : NatsOwn w B v L) (hB : B' ≤ B) : NatsOwn w B' v L := by
  obtain ⟨ys, h1, h2, h3⟩ := h
  exact ⟨ys, h1, own_low h2 hB, fun j hj => own_low (h3 j hj) hB⟩
theorem grown_none {w w' : World} {row : Option Nat} (h : w.grownBy w' none) : w.grownBy w' row := ⟨h.os, h.tape, h.output, h.size, fun k hk _ => h.block k hk (by simp)⟩
theorem grown_new {W X Y : World} {row r2 : Option Nat} (h : W.grownBy X row) (g : X.grownBy Y r2) (hr : ∀ k, r2 = some k → W.heap.size ≤ k) : W.grownBy Y row :=
  ⟨g.os.trans h.os, g.tape.trans h.tape, g.output.trans h.output, Nat.le_trans h.size g.size, fun k hk hn => (g.block k (Nat.lt_of_lt_of_le hk h.size) (fun e => by have := hr k e.symm; omega)).trans (h.block k hk hn)⟩
def lenOf : Value → Nat
  | .slice _ n _ => n
  | _ => 0
theorem infoInt : (Tryd.prog.info? 3).map (fun i => (i.zero, i.size, i.bytes)) = some (some (.int .i64 0), 1, 8) := by kernel_rfl
theorem infoBool : (Tryd.prog.info? 4).map (fun i => (i.zero, i.size, i.bytes)) = some (some (.bool false), 1, 1) := by kernel_rfl
theorem infoInts : (Tryd.prog.info? 57).map (fun i => (i.zero, i.size, i.bytes)) = some (some (.slice none 0 0), 1, 24) := by kernel_rfl
theorem int_one (x : Int) : ∀ u ∈ [Value.int .i64 x], u.oneCell' = true := by
  intro u hu
  simp only [List.mem_singleton] at hu
  subst hu
  rfl
theorem made_false (n : Nat) : (madeCells (Value.bool false).cells (n * 1)).toList = bools (List.replicate n false) := by
  have e : (Value.bool false).cells = #[Value.bool false] := rfl
  rw [e, toList_madeCells_one, Nat.mul_one]
  simp [bools]

/-- Where the walk of Walks stands behind the arcs below i. -/
structure WkAt (w : World) (gS cS : Nat) (box : Array Value) (tb : TypeId) (n : Nat) (R : List (List Nat) × List Bool) (v3 : Value) (zs : List Value) (wr : World) : Prop where
  box : wr.heap[w.heap.size]? = some (.cells box tb (0, 0))
  seen : wr.ownsRow (w.heap.size + 1) 4 1 (.slice (some ⟨gS, 0, none⟩) (n + 1) cS) (n + 1) (bools R.2)
  len : zs.length = R.1.length
  rows : wr.ownsRow (w.heap.size + 1) 57 1 v3 zs.length zs
  each : ∀ j, j < zs.length → wr.ownsRow (w.heap.size + 1) 3 1 (zs.getD j (.bool false)) (R.1.getD j []).length (nats (R.1.getD j []))
  bel : Below w.heap.size w wr

theorem walksTo_next {f : Nat → Nat} {n i : Nat} {acc : List Nat} {seen : List Bool} (h : walkF f (n + 1) (walksTo f n i).2 (i + 1) [] = (acc, seen)) : walksTo f n (i + 1) = (if acc = [] then (walksTo f n i).1 else (walksTo f n i).1 ++ [acc], seen) := by
  simp only [walksTo]
  rw [h]

end Go.Proofs.YtihijieciogabaaDoor

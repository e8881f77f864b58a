/- The walk of Drawing.FaceRings. -/
import Derived.Test.YtlcogbcpmneknaaR1P
namespace Go.Proofs.Ytlcogbcpmneknaa
open Go.RowKit Go.Shelf
attribute [local go_sem] Oper.semAt_some

theorem infoSeenE : (Try.prog.info? 85).map (fun i => (i.zero, i.size, i.bytes)) = some (some (.agg #[.bool false, .bool false]), 2, 2) := by kernel_rfl

theorem made_seen (n : Nat) : (madeCells (Value.agg #[.bool false, .bool false]).cells ((2 * n + 1) * 2)).toList = bools (false :: List.replicate (4 * n + 1) false) := by
  have e : (Value.agg #[.bool false, .bool false]).cells = #[.bool false, .bool false] := rfl
  rw [e]
  apply List.ext_getElem?
  intro j
  have e2 : bools (false :: List.replicate (4 * n + 1) false) = List.replicate (4 * n + 2) (.bool false) := by
    unfold bools
    rw [← List.replicate_succ, List.map_replicate]
  rw [e2, List.getElem?_replicate]
  by_cases hj : j < (2 * n + 1) * 2
  · simp only [madeCells]
    rw [if_pos (by omega)]
    rcases Nat.mod_two_eq_zero_or_one j with h | h
    · simp [hj, h]
    · simp [hj, h]
  · rw [if_neg (by omega), List.getElem?_eq_none (by simp [madeCells]; omega)]
/-- A row of cells is as it was where what turned is no cells. -/
theorem own_keep {w w' : World} {B e s n : Nat} {v : Value} {xs : List Value} {row : Option Nat} (h : w.ownsRow B e s v n xs) (hg : w.grownBy w' row) (hr : ∀ r, row = some r → ∃ o : Obj, w.heap[r]? = some o ∧ o.isCells = false) : w'.ownsRow B e s v n xs := by
  refine h.kept hg ?_
  cases hv : v.ownBlock with
  | none => exact Or.inl rfl
  | some q =>
    refine Or.inr fun e => ?_
    obtain ⟨o, ho, hc⟩ := hr q e.symm
    rcases h.2 with ⟨h1, _⟩ | ⟨g, cp, cur, h1, _, hgg, _⟩
    · rw [h1] at hv; cases hv
    · rw [h1] at hv
      have e2 : g = q := Option.some.inj hv
      rw [e2, ho] at hgg
      rw [Option.some.inj hgg] at hc
      cases hc
theorem cells_keep {w w' : World} {k : Nat} {cs : Array Value} {t : TypeId} {fz : Nat × Nat} {row : Option Nat} (h : w.heap[k]? = some (.cells cs t fz)) (hg : w.grownBy w' row) (hr : ∀ r, row = some r → ∃ o : Obj, w.heap[r]? = some o ∧ o.isCells = false) : w'.heap[k]? = some (.cells cs t fz) := by
  refine (hg.block k (Array.getElem?_eq_some_iff.1 h).1 fun e => ?_).trans h
  obtain ⟨o, ho, hc⟩ := hr k e.symm
  rw [h] at ho
  rw [← Option.some.inj ho] at hc
  cases hc

/-- Where FaceRings stands between two rounds; w: where it began; s3: the heap's size where the loop began; v1, v2: the boxes of seen and of the drawing that is walked. -/
structure FrAt (w : World) (s3 b1 b2 : Nat) (box : Array Value) (C : List Cr) (R : List (List Nat) × List Bool) (v3 : Value) (zs : List Value) (W : World) : Prop where
  rbox : W.heap[w.heap.size + 1]? = some (.cells #[v3] 51 (0, 0))
  len : zs.length = R.1.length
  rows : W.ownsRow s3 65 1 v3 zs.length zs
  each : ∀ j, j < zs.length → W.ownsRow s3 67 2 (zs.getD j (.bool false)) (R.1.getD j []).length (vflat (dd (R.1.getD j [])))
  seen : W.ownsRow (w.heap.size + 2) 85 2 (.slice (some ⟨w.heap.size + 2, 0, none⟩) (2 * C.length + 1) (2 * C.length + 1)) (2 * C.length + 1) (bools (false :: R.2))
  sbox : W.heap[b1]? = some (.cells #[(.slice (some ⟨w.heap.size + 2, 0, none⟩) (2 * C.length + 1) (2 * C.length + 1))] 81 (0, 0))
  dbox : W.heap[w.heap.size]? = some (.cells box 39 (0, 0))
  cbox : W.heap[b2]? = some (.cells box 39 (0, 0))
  bel : Below w.heap.size w W
  size : s3 ≤ W.heap.size
theorem FrAt.keep {w : World} {s3 b1 b2 : Nat} {box : Array Value} {C : List Cr} {R : List (List Nat) × List Bool} {v3 : Value} {zs : List Value} {W W' : World} {row : Option Nat} (h : FrAt w s3 b1 b2 box C R v3 zs W) (hws : w.heap.size ≤ s3) (hg : W.grownBy W' row) (hr : ∀ r, row = some r → s3 ≤ r ∧ ∃ o : Obj, W.heap[r]? = some o ∧ o.isCells = false) : FrAt w s3 b1 b2 box C R v3 zs W' :=
  have hr' := fun r e => (hr r e).2
  ⟨cells_keep h.rbox hg hr', h.len, own_keep h.rows hg hr', fun j hj => own_keep (h.each j hj) hg hr', own_keep h.seen hg hr', cells_keep h.sbox hg hr', cells_keep h.dbox hg hr', cells_keep h.cbox hg hr', h.bel.grown hg h.bel.size (fun k e => Nat.le_trans hws (hr k e).1), Nat.le_trans h.size hg.size⟩

set_option maxRecDepth 100000 in
set_option maxHeartbeats 16000000 in
theorem faceRings_ok (a : Option Addr) (cap : Nat) (C : List Cr) (loops : Int) (gF cF gT cT : Nat) (w : World) (hm : mayD C loops = true) (hD : Dr w a cap C gF gT) :
    Calls Try.prog 26 #[drV a cap C loops gF cF gT cT] w fun e w' => ∃ v, e = .returned v ∧ DartsOwn w' w.heap.size v (facesM C) ∧ Below w.heap.size w w' := by
  obtain ⟨s1, -, -, -⟩ := sizeB_iff (may_size hm)
  obtain ⟨i0, hi, hz0, hz1, hz2⟩ := info_parts infoDart
  obtain ⟨i1, hj, hy0, hy1, hy2⟩ := info_parts infoDarts
  obtain ⟨i2, hk, hx0, hx1, hx2⟩ := info_parts infoSeenE
  unfold drV
  refine (callsIn_wide (n := 8)).1 ?_
  refine callsIn_of_wp_marks Try.func26 rfl trivial ?_ rfl
  simp only [Try.ntmps26, List.size_toArray, List.length_cons, List.length_nil, Nat.reduceAdd, Nat.reduceSub, Array.replicate_succ, Array.replicate_zero, List.push_toArray, List.append_toArray, List.nil_append, List.cons_append]
  have HM : Hid (mayD C loops = true) := hm
  have HD : Hid (Dr w a cap C gF gT) := hD
  have HNX : Hid (∀ x, 1 ≤ x → x ≤ 4 * C.length → 1 ≤ fd C x ∧ fd C x ≤ 4 * C.length) := fd_closed hm
  clear hm hD
  obtain ⟨w0, hw0⟩ : ∃ w0, w0 = (w.alloc (.cells #[.slice a C.length cap, .int .i64 loops, .slice (some ⟨gF, 0, none⟩) (2 * C.length + 1) cF, .slice (some ⟨gT, 0, none⟩) (2 * C.length + 1) cT] 39)).alloc (.cells #[.slice none 0 0] 51) := ⟨_, rfl⟩
  have HW0 : Hid (w0 = (w.alloc (.cells #[.slice a C.length cap, .int .i64 loops, .slice (some ⟨gF, 0, none⟩) (2 * C.length + 1) cF, .slice (some ⟨gT, 0, none⟩) (2 * C.length + 1) cT] 39)).alloc (.cells #[.slice none 0 0] 51)) := hw0
  have hs0 : w0.heap.size = w.heap.size + 2 := by rw [hw0]; simp
  have HB0 : Hid (Below w.heap.size w w0) := (by rw [hw0]; exact below2 _ _ _ : Below w.heap.size w w0)
  have HT0 : Hid (w0.heap[w.heap.size]? = some (.cells #[.slice a C.length cap, .int .i64 loops, .slice (some ⟨gF, 0, none⟩) (2 * C.length + 1) cF, .slice (some ⟨gT, 0, none⟩) (2 * C.length + 1) cT] 39 (0, 0))) := (by rw [hw0]; exact alloc_old (alloc_at rfl) : w0.heap[w.heap.size]? = some (.cells #[.slice a C.length cap, .int .i64 loops, .slice (some ⟨gF, 0, none⟩) (2 * C.length + 1) cF, .slice (some ⟨gT, 0, none⟩) (2 * C.length + 1) cT] 39 (0, 0)))
  have HR0 : Hid (w0.heap[w.heap.size + 1]? = some (.cells #[.slice none 0 0] 51 (0, 0))) := (by rw [hw0]; exact alloc_at (by simp) : w0.heap[w.heap.size + 1]? = some (.cells #[.slice none 0 0] 51 (0, 0)))
  clear hw0
  refine wpIn_wide.2 ?_
  go_wp2_with (first | (at_make; refine wpList_make_full _ rfl _ _ 81 rfl (w.heap.size + 2) 85 i2 (.agg #[.bool false, .bool false]) 2 Try.underlying81 hk hx0 hx1 .i64 .i64 _ _ (2 * C.length + 1) rfl rfl rfl rfl (by rw [hx2]; omega) (by unfold maxLen; omega) (by simp) ?_; intro w1 hrow hg1; refine Hid.out ?_))
  refine Lib.hid ?_
  rw [← HW0.out] at hrow hg1
  rw [hs0] at hrow
  have HS1 : Hid (w1.ownsRow (w.heap.size + 2) 85 2 (.slice (some ⟨w.heap.size + 2, 0, none⟩) (2 * C.length + 1) (2 * C.length + 1)) (2 * C.length + 1) (bools (false :: List.replicate (4 * C.length + 1) false))) := (by rw [made_seen C.length] at hrow; exact hrow : w1.ownsRow (w.heap.size + 2) 85 2 (.slice (some ⟨w.heap.size + 2, 0, none⟩) (2 * C.length + 1) (2 * C.length + 1)) (2 * C.length + 1) (bools (false :: List.replicate (4 * C.length + 1) false)))
  have hgs := hrow.lt (w.heap.size + 2) rfl
  have hg1' : w0.grownBy w1 none := hg1
  have hs1 := hg1'.size
  obtain ⟨w2, hw2⟩ : ∃ w2, w2 = w1.alloc (.cells #[(.slice (some ⟨w.heap.size + 2, 0, none⟩) (2 * C.length + 1) (2 * C.length + 1))] 81) := ⟨_, rfl⟩
  have HW2 : Hid (w2 = w1.alloc (.cells #[(.slice (some ⟨w.heap.size + 2, 0, none⟩) (2 * C.length + 1) (2 * C.length + 1))] 81)) := hw2
  have hs2 : w2.heap.size = w1.heap.size + 1 := by rw [hw2]; simp
  obtain ⟨w3, hw3⟩ : ∃ w3, w3 = w2.alloc (.cells #[.slice a C.length cap, .int .i64 loops, .slice (some ⟨gF, 0, none⟩) (2 * C.length + 1) cF, .slice (some ⟨gT, 0, none⟩) (2 * C.length + 1) cT] 39) := ⟨_, rfl⟩
  have HW3 : Hid (w3 = w2.alloc (.cells #[.slice a C.length cap, .int .i64 loops, .slice (some ⟨gF, 0, none⟩) (2 * C.length + 1) cF, .slice (some ⟨gT, 0, none⟩) (2 * C.length + 1) cT] 39)) := hw3
  have hs3 : w3.heap.size = w1.heap.size + 2 := by rw [hw3]; simp [hs2]
  have HB1 : Hid (Below w.heap.size w w1) := HB0.out.grown hg1' (by omega) (fun k hk => by cases hk)
  have HT1 : Hid (w1.heap[w.heap.size]? = some (.cells #[.slice a C.length cap, .int .i64 loops, .slice (some ⟨gF, 0, none⟩) (2 * C.length + 1) cF, .slice (some ⟨gT, 0, none⟩) (2 * C.length + 1) cT] 39 (0, 0))) := (hg1'.block _ (by omega) (by simp)).trans HT0.out
  have HR1 : Hid (w1.heap[w.heap.size + 1]? = some (.cells #[.slice none 0 0] 51 (0, 0))) := (hg1'.block _ (by omega) (by simp)).trans HR0.out
  have HB3 : Hid (Below w.heap.size w w3) := (by rw [hw3, hw2]; exact (HB1.out.alloc HB1.out.size _).alloc (by have := HB1.out.size; simp; omega) _ : Below w.heap.size w w3)
  have HT3 : Hid (w3.heap[w.heap.size]? = some (.cells #[.slice a C.length cap, .int .i64 loops, .slice (some ⟨gF, 0, none⟩) (2 * C.length + 1) cF, .slice (some ⟨gT, 0, none⟩) (2 * C.length + 1) cT] 39 (0, 0))) := (by rw [hw3, hw2]; exact alloc_old (alloc_old HT1.out) : w3.heap[w.heap.size]? = some (.cells #[.slice a C.length cap, .int .i64 loops, .slice (some ⟨gF, 0, none⟩) (2 * C.length + 1) cF, .slice (some ⟨gT, 0, none⟩) (2 * C.length + 1) cT] 39 (0, 0)))
  have HR3 : Hid (w3.heap[w.heap.size + 1]? = some (.cells #[.slice none 0 0] 51 (0, 0))) := (by rw [hw3, hw2]; exact alloc_old (alloc_old HR1.out) : w3.heap[w.heap.size + 1]? = some (.cells #[.slice none 0 0] 51 (0, 0)))
  have HV3 : Hid (w3.heap[w1.heap.size]? = some (.cells #[(.slice (some ⟨w.heap.size + 2, 0, none⟩) (2 * C.length + 1) (2 * C.length + 1))] 81 (0, 0))) := (by rw [hw3, hw2]; exact alloc_old (alloc_at rfl) : w3.heap[w1.heap.size]? = some (.cells #[(.slice (some ⟨w.heap.size + 2, 0, none⟩) (2 * C.length + 1) (2 * C.length + 1))] 81 (0, 0)))
  have HS3 : Hid (w3.ownsRow (w.heap.size + 2) 85 2 (.slice (some ⟨w.heap.size + 2, 0, none⟩) (2 * C.length + 1) (2 * C.length + 1)) (2 * C.length + 1) (bools (false :: List.replicate (4 * C.length + 1) false))) := (by rw [hw3, hw2]; exact (HS1.out.alloc _).alloc _ : w3.ownsRow (w.heap.size + 2) 85 2 (.slice (some ⟨w.heap.size + 2, 0, none⟩) (2 * C.length + 1) (2 * C.length + 1)) (2 * C.length + 1) (bools (false :: List.replicate (4 * C.length + 1) false)))
  have HC3 : Hid (w3.heap[w2.heap.size]? = some (.cells #[.slice a C.length cap, .int .i64 loops, .slice (some ⟨gF, 0, none⟩) (2 * C.length + 1) cF, .slice (some ⟨gT, 0, none⟩) (2 * C.length + 1) cT] 39 (0, 0))) := (by rw [hw3]; exact alloc_at rfl : w3.heap[w2.heap.size]? = some (.cells #[.slice a C.length cap, .int .i64 loops, .slice (some ⟨gF, 0, none⟩) (2 * C.length + 1) cF, .slice (some ⟨gT, 0, none⟩) (2 * C.length + 1) cT] 39 (0, 0)))
  have p0 : w1.cell? ⟨w.heap.size, 0, none⟩ = some (.slice a C.length cap) := block_cell HT1.out rfl
  have p1 : w1.cell? ⟨w.heap.size, 1, none⟩ = some (.int .i64 loops) := block_cell HT1.out rfl
  have p2 : w1.cell? ⟨w.heap.size, 2, none⟩ = some (.slice (some ⟨gF, 0, none⟩) (2 * C.length + 1) cF) := block_cell HT1.out rfl
  have p3 : w1.cell? ⟨w.heap.size, 3, none⟩ = some (.slice (some ⟨gT, 0, none⟩) (2 * C.length + 1) cT) := block_cell HT1.out rfl
  have l1 : w.heap.size < w1.heap.size := by omega
  have HDA : Hid (∀ V, Calls Try.prog 42 #[.agg #[.slice a C.length cap, .int .i64 loops, .slice (some ⟨gF, 0, none⟩) (2 * C.length + 1) cF, .slice (some ⟨gT, 0, none⟩) (2 * C.length + 1) cT]] V fun e w' => e = .returned (.func (.func 51) #[] #[.pointer (some ⟨V.heap.size, 0, none⟩)]) ∧ w' = V.alloc (.cells #[.slice a C.length cap, .int .i64 loops, .slice (some ⟨gF, 0, none⟩) (2 * C.length + 1) cF, .slice (some ⟨gT, 0, none⟩) (2 * C.length + 1) cT] 39)) := fun V => (callsIn_wide (n := 8)).1 (darts_in 8 a cap C loops gF cF gT cT V)
  clear hrow hg1 hg1' hw2 hw3 HT0 HR0 HB0 hs0 HW0
  go_wp2_with (go_at_call 42; rw [← HW2.out]; refine (HDA.out _).mono ?_; rintro e9 w9 ⟨rfl, rfl⟩; refine Hid.out ?_)
  refine Lib.hid ?_
  rw [← HW3.out]
  clear p0 p1 p2 p3 l1 HW2 HW3
  have hws3 : w.heap.size + 4 ≤ w3.heap.size := by omega
  have HI0 : Hid (FrAt w w3.heap.size w1.heap.size (w1.heap.size + 1) #[.slice a C.length cap, .int .i64 loops, .slice (some ⟨gF, 0, none⟩) (2 * C.length + 1) cF, .slice (some ⟨gT, 0, none⟩) (2 * C.length + 1) cT] C (ringsL (fd C) (4 * C.length) ([].map fun (x : DN C.length) => x.1)) (.slice none 0 0) [] w3) :=
    ⟨HR3.out, rfl, World.ownsRow_nil _ _ _ _, fun j hj => absurd hj (Nat.not_lt_zero _), HS3.out, HV3.out, HT3.out, (by rw [← hs2]; exact HC3.out), HB3.out, Nat.le_refl _⟩
  have HCC : Hid (w3.cell? ⟨w1.heap.size + 1, 3, none⟩ = some (.slice (some ⟨gT, 0, none⟩) (2 * C.length + 1) cT)) := block_cell (by rw [← hs2]; exact HC3.out) rfl
  clear HR3 HS3 HV3 HT3 HC3 HB3 HS1 HT1 HR1 HB1
  go_wp2
  refine (wpIn_wide (n := 8)).1 ?_
  refine wpIn_rangeFunc_ownH (n := 8) rfl (by omega) (gf := 51) (lb := #[.pointer (some ⟨w1.heap.size + 1, 0, none⟩)]) rfl trivial (enters_of Try.func51 (by kernel_rfl) rfl)
    (darts_stops C.length s1 7 (by omega) (w1.heap.size + 1) gT cT w3 (by omega) HCC.out) (fun h k => k.trans h) (keepB_b (by omega)) (Below.refl _ _) (fun _ => rfl)
    (fun (pre : List (DN C.length)) W => ∃ v3 zs, FrAt w w3.heap.size w1.heap.size (w1.heap.size + 1) #[.slice a C.length cap, .int .i64 loops, .slice (some ⟨gF, 0, none⟩) (2 * C.length + 1) cF, .slice (some ⟨gT, 0, none⟩) (2 * C.length + 1) cT] C (ringsL (fd C) (4 * C.length) (pre.map fun x => x.1)) v3 zs W)
    (fun _ _ _ => False)
    (fun pre X Y row hs hg hr => by obtain ⟨v3, zs, h⟩ := hs; exact ⟨v3, zs, h.keep (by omega) hg hr⟩)
    (fun _ _ _ _ _ hs _ _ => hs)
    ⟨_, _, HI0.out⟩
    (fun x a' W => ∃ Bx, w3.heap.size ≤ Bx ∧ W.heap[Bx]? = some (.cells #[.int .i64 (dA x.1 : Nat), .bool (dB x.1)] 67 (0, 0)) ∧ a' = { tmps := #[.agg #[.slice a C.length cap, .int .i64 loops, .slice (some ⟨gF, 0, none⟩) (2 * C.length + 1) cF, .slice (some ⟨gT, 0, none⟩) (2 * C.length + 1) cT], .pointer (some ⟨w.heap.size, 0, none⟩), .slice none 0 0, .pointer (some ⟨w.heap.size + 1, 0, none⟩), .pointer (some ⟨w1.heap.size, 0, none⟩), .pointer (some ⟨Bx, 0, none⟩), undef, undef, .pointer (some ⟨w.heap.size, 3, none⟩), .slice (some ⟨gT, 0, none⟩) (2 * C.length + 1) cT, .int .i64 (2 * (C.length : Int) + 1), .slice (some ⟨w.heap.size + 1 + 1, 0, none⟩) (2 * C.length + 1) (2 * C.length + 1), .agg #[.slice a C.length cap, .int .i64 loops, .slice (some ⟨gF, 0, none⟩) (2 * C.length + 1) cF, .slice (some ⟨gT, 0, none⟩) (2 * C.length + 1) cT], .func (.func 51) #[] #[.pointer (some ⟨w1.heap.size + 1, 0, none⟩)], .agg #[.int .i64 (dA x.1 : Nat), .bool (dB x.1)], undef, undef, undef, undef, undef, undef, undef, undef, undef, undef, undef, undef, undef, undef, undef, undef, undef, undef, undef, undef, undef, undef, undef, undef, undef, undef, undef, undef, undef, undef, undef, undef, undef], defers := [] })
    (fun x a' _ X Y row hs hg hr => by obtain ⟨Bx, h1, h2, h3⟩ := hs; exact ⟨Bx, h1, cells_keep h2 hg (fun r e => (hr r e).2), h3⟩)
    ?assign ?body ?done ?stop
  case assign =>
    rintro l pre x W K ⟨v3, zs, hfr⟩ hK
    obtain ⟨xA, hxA⟩ : ∃ xA, dA x.1 = xA := ⟨_, rfl⟩
    obtain ⟨xB, hxB⟩ : ∃ xB, dB x.1 = xB := ⟨_, rfl⟩
    rw [hxA, hxB]
    gi_wp2
    have hcl := hfr.cbox
    exact hK _ _ ((KeepsOthers.alloc _ _).from _) ((World.grownBy_alloc _ _ none).block _ (Array.getElem?_eq_some_iff.1 hcl).1 (by simp)) ⟨v3, zs, hfr.keep (by omega) (World.grownBy_alloc _ _ none) (fun r e => by cases e)⟩ ⟨W.heap.size, hfr.size, (by rw [hxA, hxB]; exact alloc_at rfl), (by rw [hxA, hxB])⟩
  case body =>
    rintro l pre x a' W hl ⟨r, hr⟩ ⟨v3, zs, hfr⟩ ⟨Bx, hBx, hbx, rfl⟩ hlt
    have c0 : W.cell? ⟨Bx, 0, none⟩ = some (.int .i64 (dA x.1 : Nat)) := block_cell hbx rfl
    have c1 : W.cell? ⟨Bx, 1, none⟩ = some (.bool (dB x.1)) := block_cell hbx rfl
    obtain ⟨x0, hx0a, hx0b⟩ := x
    obtain ⟨R, hR⟩ : ∃ R, ringsL (fd C) (4 * C.length) (pre.map fun x => x.1) = R := ⟨_, rfl⟩
    have HRS : Hid (ringsL (fd C) (4 * C.length) ((pre ++ [(⟨x0, hx0a, hx0b⟩ : DN C.length)]).map fun x => x.1) = ringStep (fd C) (4 * C.length) R x0) := (by rw [List.map_append, List.map_cons, List.map_nil, ringsL_snoc, hR] : ringsL (fd C) (4 * C.length) ((pre ++ [(⟨x0, hx0a, hx0b⟩ : DN C.length)]).map fun x => x.1) = ringStep (fd C) (4 * C.length) R x0)
    have hRL := ringsL_len (fd C) (4 * C.length) (pre.map fun x => x.1)
    rw [hR, List.length_map] at hRL
    rw [hR] at hfr
    have HFRA : Hid (FrAt w w3.heap.size w1.heap.size (w1.heap.size + 1) #[.slice a C.length cap, .int .i64 loops, .slice (some ⟨gF, 0, none⟩) (2 * C.length + 1) cF, .slice (some ⟨gT, 0, none⟩) (2 * C.length + 1) cT] C R v3 zs W) := hfr
    have hsW := hfr.size
    clear hR hfr
    simp only at c0 c1 hbx ⊢
    gi_wp2
    obtain ⟨Y, hY⟩ : ∃ Y, Y = W.alloc (.cells #[.int .i64 (dA x0 : Nat), .bool (dB x0)] 67) := ⟨_, rfl⟩
    rw [← hY]
    have HYG : Hid (W.grownBy Y (some (w.heap.size + 2))) := (by rw [hY]; exact World.grownBy_alloc _ _ _ : W.grownBy Y (some (w.heap.size + 2)))
    have HYX : Hid (Y.heap[W.heap.size]? = some (.cells #[.int .i64 (dA x0 : Nat), .bool (dB x0)] 67 (0, 0))) := (by rw [hY]; exact alloc_at rfl : Y.heap[W.heap.size]? = some (.cells #[.int .i64 (dA x0 : Nat), .bool (dB x0)] 67 (0, 0)))
    have HYS : Hid (Y.ownsRow (w.heap.size + 2) 85 2 (.slice (some ⟨w.heap.size + 2, 0, none⟩) (2 * C.length + 1) (2 * C.length + 1)) (2 * C.length + 1) (bools (false :: R.2))) := (by rw [hY]; exact HFRA.out.seen.alloc _ : Y.ownsRow (w.heap.size + 2) 85 2 (.slice (some ⟨w.heap.size + 2, 0, none⟩) (2 * C.length + 1) (2 * C.length + 1)) (2 * C.length + 1) (bools (false :: R.2)))
    clear hY c0 c1
    gi_loopw [6, 7] (fun v6 v7 ws => ∃ (f : Nat) (seen : List Bool) (y : Nat) (acc : List Nat) (Bd : Nat), v7 = .pointer (some ⟨Bd, 0, none⟩) ∧ 1 ≤ y ∧ y ≤ 4 * C.length ∧ Hid (walkF (fd C) (4 * C.length + 1) R.2 x0 [] = walkF (fd C) f seen y acc) ∧ Hid (unseen seen ≤ f) ∧ seen.length = 4 * C.length + 1 ∧ Hid (acc.length + unseen seen ≤ 4 * C.length + 1) ∧ Hid (ws.heap[Bd]? = some (.cells #[.int .i64 (dA y : Nat), .bool (dB y)] 67 (0, 0))) ∧ W.heap.size ≤ Bd ∧
        Hid (ws.ownsRow W.heap.size 67 2 v6 acc.length (vflat (dd acc))) ∧ Hid (ws.ownsRow (w.heap.size + 2) 85 2 (.slice (some ⟨w.heap.size + 2, 0, none⟩) (2 * C.length + 1) (2 * C.length + 1)) (2 * C.length + 1) (bools (false :: seen))) ∧ Hid (W.grownBy ws (some (w.heap.size + 2))) ∧ Hid (v6.ownBlock ≠ some Bd)) (fun v6 _ _ => 4 * C.length + 2 - lenOf v6)
    case atStart => exact ⟨4 * C.length + 1, R.2, x0, [], W.heap.size, rfl, hx0a, hx0b, (rfl : walkF (fd C) (4 * C.length + 1) R.2 x0 [] = _), (by have := unseen_le R.2; rw [hRL.1] at this; exact this : unseen R.2 ≤ 4 * C.length + 1), hRL.1, (by have := unseen_le R.2; rw [hRL.1] at this; simpa using this : ([] : List Nat).length + unseen R.2 ≤ 4 * C.length + 1), HYX.out, Nat.le_refl _, World.ownsRow_nil _ _ _ _, HYS.out, HYG.out, (by simp [Value.ownBlock] : (Value.slice none 0 0).ownBlock ≠ some W.heap.size)⟩
    case round =>
      clear HYX HYS HYG
      rename World => W5
      obtain ⟨f, seen, y, acc, Bd, rfl, hya, hyb, hwk, hun, hsl, hac, hbd, hBd, hown, hsd, hgr, hne⟩ := hrel
      obtain ⟨a6, c6, rfl⟩ := own_capS hown.out
      have hs5 := hgr.out.size
      have hlB : Bd < W5.heap.size := (Array.getElem?_eq_some_iff.1 hbd.out).1
      have hda := dA_le (n := C.length) hya hyb
      have HSB : Hid (∀ w', Below W5.heap.size W5 w' → w'.cell? ⟨w1.heap.size, 0, none⟩ = some (.slice (some ⟨w.heap.size + 2, 0, none⟩) (2 * C.length + 1) (2 * C.length + 1))) := fun w' hb => block_cell ((hb.block _ (by omega)).trans ((hgr.out.block _ (by omega) (fun e => by have : w1.heap.size = w.heap.size + 2 := Option.some.inj e; omega)).trans HFRA.out.sbox)) rfl
      have m0 := HSB.out W5 (Below.refl _ _)
      have m1 : W5.cell? ⟨Bd, 0, none⟩ = some (.int .i64 (dA y : Nat)) := block_cell hbd.out rfl
      have m2 : W5.cell? ⟨Bd, 1, none⟩ = some (.bool (dB y)) := block_cell hbd.out rfl
      have l1 : w1.heap.size < W5.heap.size := by omega
      obtain ⟨yw, hyw⟩ : ∃ yw : Nat, yw = if dB y = true then 1 else 0 := ⟨_, rfl⟩
      have hyw2 : yw < 2 := by rw [hyw]; split <;> omega
      have hcode : dA y * 2 + yw = y + 1 := by
        have := code_d hya
        rw [hyw]
        split <;> (rename_i hh; simp only [hh] at this; simp at this; omega)
      have HWAY : Hid (∀ V, Calls Try.prog 43 #[.agg #[.int .i64 (dA y : Nat), .bool (dB y)]] V fun e w' => e = .returned (.int .i64 (yw : Nat)) ∧ Below V.heap.size V w') := fun V => by
        refine (way_any (dA y : Nat) (dB y) V).mono fun e w' hq => ⟨?_, hq.2⟩
        rw [hq.1, hyw]
        split <;> rfl
      have HE0 : Hid (∀ w', Below W5.heap.size W5 w' → w'.cell? ⟨w.heap.size + 2, dA y * 2 + yw, none⟩ = some (.bool (seen.getD y true))) := fun w' hb => by
        refine bcell hb (hsd.out.lt (w.heap.size + 2) rfl).2 ?_
        rw [hcode]
        have h := hsd.out.cells (g := w.heap.size + 2) rfl (y + 1) _ (bools_at seen y (by omega))
        have hadd : (⟨w.heap.size + 2, 0, none⟩ : Addr).add (y + 1) = ⟨w.heap.size + 2, y + 1, none⟩ := by unfold Addr.add; split <;> simp_all
        rw [hadd] at h
        exact h
      have HD5 : Hid (Below W5.heap.size W5 W5.drew) := (Below.refl _ _).drew
      have hi1 : (dA y : Int) < 2 * (C.length : Int) + 1 := by omega
      have hi2 : (yw : Int) < 2 := by omega
      obtain ⟨bit, hbit⟩ : ∃ bit, seen.getD y true = bit := ⟨_, rfl⟩
      have HBIT : Hid (seen.getD y true = bit) := hbit
      rw [hbit] at HE0
      have HS1 : Hid (∀ w', Below W5.heap.size W5 w' → w'.cell? ⟨w1.heap.size, 0, none⟩ = some (.slice (some ⟨w.heap.size + 2, 0, none⟩) (2 * C.length + 1) (2 * C.length + 1)) ∧ w'.cell? ⟨Bd, 0, none⟩ = some (.int .i64 (dA y : Nat)) ∧ w'.cell? ⟨Bd, 1, none⟩ = some (.bool (dB y)) ∧ w'.cell? ⟨w.heap.size + 2, dA y * 2 + yw, none⟩ = some (.bool bit)) := fun w' hb => ⟨HSB.out w' hb, bcell hb hlB m1, bcell hb hlB m2, HE0.out w' hb⟩
      have HCO : Hid (dA y * 2 + yw = y + 1) := hcode
      clear hyw hbit m0 m1 m2 hcode
      gi_wp2
      refine region_held_in (S := fun w' => w'.cell? ⟨w1.heap.size, 0, none⟩ = some (.slice (some ⟨w.heap.size + 2, 0, none⟩) (2 * C.length + 1) (2 * C.length + 1)) ∧ w'.cell? ⟨Bd, 0, none⟩ = some (.int .i64 (dA y : Nat)) ∧ w'.cell? ⟨Bd, 1, none⟩ = some (.bool (dB y)) ∧ w'.cell? ⟨w.heap.size + 2, dA y * 2 + yw, none⟩ = some (.bool bit)) (by kernel_rfl) (by kernel_rfl) (HS1.out _ HD5.out) (fun hHeld => ?_)
      refine take_d 16 (i := 0) (v := ?vv0a) rfl rfl (by kernel_rfl) (by kernel_rfl) (by kernel_rfl) (Or.inl ⟨by rfl, ?yy0a⟩) (by assumption) ?rr0a
      case yy0a => (intro w hSw; (try dsimp only at hSw); go_simp; (try with_reducible rfl))
      simp only [List.setIfInBounds_toArray, List.set_cons_succ, List.set_cons_zero]
      refine take_d 17 (i := 1) (v := ?vv1a) rfl rfl (by kernel_rfl) (by kernel_rfl) (by kernel_rfl) (Or.inl ⟨by rfl, ?yy1a⟩) (by assumption) ?rr1a
      case yy1a => (intro w hSw; (try dsimp only at hSw); go_simp; (try with_reducible rfl))
      simp only [List.setIfInBounds_toArray, List.set_cons_succ, List.set_cons_zero]
      refine take_d 18 (i := 2) (v := ?vv2a) rfl rfl (by kernel_rfl) (by kernel_rfl) (by kernel_rfl) (Or.inl ⟨by rfl, ?yy2a⟩) (by assumption) ?rr2a
      case yy2a => (intro w hSw; (try dsimp only at hSw); go_simp; (try with_reducible rfl))
      simp only [List.setIfInBounds_toArray, List.set_cons_succ, List.set_cons_zero]
      refine take_d 19 (i := 3) (v := ?vv3a) rfl rfl (by kernel_rfl) (by kernel_rfl) (by kernel_rfl) (Or.inl ⟨by rfl, ?yy3a⟩) (by assumption) ?rr3a
      case yy3a => (intro w hSw; (try dsimp only at hSw); go_simp; (try with_reducible rfl))
      simp only [List.setIfInBounds_toArray, List.set_cons_succ, List.set_cons_zero]
      refine take_d 21 (i := 5) (v := ?vv5a) rfl rfl (by kernel_rfl) (by kernel_rfl) (by kernel_rfl) (Or.inl ⟨by rfl, ?yy5a⟩) (by assumption) ?rr5a
      case yy5a => (intro w hSw; (try dsimp only at hSw); go_simp; (try with_reducible rfl))
      simp only [List.setIfInBounds_toArray, List.set_cons_succ, List.set_cons_zero]
      refine wpAnyH_ready (rs := [4]) (by kernel_rfl) (by simp) ?_
      refine AllReadyH.cons rfl (fun K hK => ?_) AllReadyH.nil
      go_simp
      go_at_call 43
      refine (HWAY.out _).mono ?_
      rintro e9 wY ⟨rfl, hbY⟩
      have HY5 : Hid (Below W5.heap.size W5 wY) := HD5.out.trans (hbY.mono HD5.out.size)
      clear hbY
      refine hK.out _ _ (HS1.out _ HY5.out) (fun hHeld => ?_)
      clear hK K
      refine take_d 22 (i := 6) (v := ?vv6a) rfl rfl (by kernel_rfl) (by kernel_rfl) (by kernel_rfl) (Or.inl ⟨by rfl, ?yy6a⟩) (by assumption) ?rr6a
      case yy6a => (intro w hSw; (try dsimp only at hSw); go_simp; (try with_reducible rfl))
      simp only [List.setIfInBounds_toArray, List.set_cons_succ, List.set_cons_zero]
      refine take_d 23 (i := 7) (v := ?vv7a) rfl rfl (by kernel_rfl) (by kernel_rfl) (by kernel_rfl) (Or.inl ⟨by rfl, ?yy7a⟩) (by assumption) ?rr7a
      case yy7a => (intro w hSw; (try dsimp only at hSw); go_simp; (try with_reducible rfl))
      simp only [List.setIfInBounds_toArray, List.set_cons_succ, List.set_cons_zero]
      refine take_d 24 (i := 8) (v := ?vv8a) rfl rfl (by kernel_rfl) (by kernel_rfl) (by kernel_rfl) (Or.inl ⟨by rfl, ?yy8a⟩) (by assumption) ?rr8a
      case yy8a => (intro w hSw; (try dsimp only at hSw); go_simp; (try with_reducible rfl))
      simp only [List.setIfInBounds_toArray, List.set_cons_succ, List.set_cons_zero]
      refine wpAnyH_done (by kernel_rfl) ?_ _
      simp only [OnlyN]
      cases bit with
      | true =>
        have HWF : Hid (walkF (fd C) (4 * C.length + 1) R.2 x0 [] = (acc, seen)) := (hwk.out.trans (walkF_seen HBIT.out) : walkF (fd C) (4 * C.length + 1) R.2 x0 [] = (acc, seen))
        have HST : Hid (ringStep (fd C) (4 * C.length) R x0 = (if acc = [] then R.1 else R.1 ++ [acc], seen)) := ringStep_next HWF.out
        have hgY := grown_below HY5.out none
        have HGY : Hid (W.grownBy wY (some (w.heap.size + 2))) := grown_new hgr.out hgY (fun q hq => by cases hq)
        have hsY := HY5.out.size
        have HSY : Hid (wY.ownsRow (w.heap.size + 2) 85 2 (.slice (some ⟨w.heap.size + 2, 0, none⟩) (2 * C.length + 1) (2 * C.length + 1)) (2 * C.length + 1) (bools (false :: seen))) := own_any hsd.out hgY
        have HOY : Hid (wY.ownsRow W.heap.size 67 2 (.slice a6 acc.length c6) acc.length (vflat (dd acc))) := own_any hown.out hgY
        have HF := HFRA.out
        have far : ∀ k o, W.heap[k]? = some o → k ≠ w.heap.size + 2 → wY.heap[k]? = some o := fun k o hk hne => (HGY.out.block k (Array.getElem?_eq_some_iff.1 hk).1 (fun e => hne (Option.some.inj e))).trans hk
        have HRB : Hid (wY.heap[w.heap.size + 1]? = some (.cells #[v3] 51 (0, 0))) := far _ _ HF.rbox (by omega)
        have HSB2 : Hid (wY.heap[w1.heap.size]? = some (.cells #[(.slice (some ⟨w.heap.size + 2, 0, none⟩) (2 * C.length + 1) (2 * C.length + 1))] 81 (0, 0))) := far _ _ HF.sbox (by omega)
        have HDB : Hid (wY.heap[w.heap.size]? = some (.cells #[.slice a C.length cap, .int .i64 loops, .slice (some ⟨gF, 0, none⟩) (2 * C.length + 1) cF, .slice (some ⟨gT, 0, none⟩) (2 * C.length + 1) cT] 39 (0, 0))) := far _ _ HF.dbox (by omega)
        have HCB : Hid (wY.heap[w1.heap.size + 1]? = some (.cells #[.slice a C.length cap, .int .i64 loops, .slice (some ⟨gF, 0, none⟩) (2 * C.length + 1) cF, .slice (some ⟨gT, 0, none⟩) (2 * C.length + 1) cT] 39 (0, 0))) := far _ _ HF.cbox (by omega)
        have HRW : Hid (wY.ownsRow w3.heap.size 65 1 v3 zs.length zs) := HF.rows.kept HGY.out (own_ne HF.rows HF.seen (by decide))
        have HEA : Hid (∀ j, j < zs.length → wY.ownsRow w3.heap.size 67 2 (zs.getD j (.bool false)) (R.1.getD j []).length (vflat (dd (R.1.getD j [])))) := fun j hj => (HF.each j hj).kept HGY.out (own_ne (HF.each j hj) HF.seen (by decide))
        have HBW : Hid (Below w.heap.size w wY) := HF.bel.grown HGY.out HF.bel.size (fun q hq => by have := Option.some.inj hq; omega)
        have HLEN : Hid (zs.length = R.1.length) := HF.len
        have hlz9 : zs.length ≤ 4 * C.length := by have := HF.len; have := hRL.2; omega
        have HKF : Hid (KeepsFrom w3.heap.size W wY) := KeepsFrom.of_grownBy HGY.out (fun q hq => by have := Option.some.inj hq; omega)
        have HCW : Hid (W.heap[w1.heap.size + 1]? = some (.cells #[.slice a C.length cap, .int .i64 loops, .slice (some ⟨gF, 0, none⟩) (2 * C.length + 1) cF, .slice (some ⟨gT, 0, none⟩) (2 * C.length + 1) cT] 39 (0, 0))) := HF.cbox
        clear far hgY HF
        by_cases hz : acc = []
        · subst hz
          rw [if_pos rfl] at HST
          gi_wp2
          refine ⟨HKF.out, HCB.out.trans HCW.out.symm, v3, zs, ?_⟩
          rw [HRS.out, HST.out]
          exact ⟨HRB.out, HLEN.out, HRW.out, HEA.out, HSY.out, HSB2.out, HDB.out, HCB.out, HBW.out, by omega⟩
        · rw [if_neg hz] at HST
          have hpos : 0 < acc.length := List.length_pos_iff.2 hz
          have hdp : decide (0 < (acc.length : Int)) = true := by simp; omega
          have hdp2 : decide (0 < acc.length) = true := by simp; omega
          have HON : Hid (∀ u ∈ [Value.slice a6 acc.length c6], u.oneCell' = true) := own_oneS HOY.out
          have HOW : Hid (wY.ownsRow w3.heap.size 67 2 (.slice a6 acc.length c6) acc.length (vflat (dd acc))) := own_low HOY.out (by omega)
          have q0 : wY.cell? ⟨w.heap.size + 1, 0, none⟩ = some v3 := block_cell HRB.out rfl
          have q1 : wY.frozen? ⟨w.heap.size + 1, 0, none⟩ = false := block_frozen HRB.out
          have q2 : w.heap.size + 1 < wY.heap.size := (Array.getElem?_eq_some_iff.1 HRB.out).1
          gi_wp2_with (first
            | (gi_at_builtin; refine wpListIn_append_own _ rfl _ _ 51 rfl w3.heap.size 65 i1 (.slice none 0 0) 1 24 Try.underlying51 hj hy0 hy1 hy2 rfl (by decide) _ _ _ rfl (HRW.out.alloc _) ⟨wY.heap.size, 0, none⟩ 1 1 [Value.slice a6 acc.length c6] rfl rfl (new_cell1 _ _ _) HON.out (by unfold maxLen; omega) (by omega) (by simp; omega) ?_; intro v8 w8 hown8 hg8 _; obtain ⟨a8, c8, ev8⟩ := own_capS hown8; subst ev8
               have r0 : w8.cell? ⟨w.heap.size + 1, 0, none⟩ = some v3 := block_cell ((hg8.block _ (by simp; omega) (fun e => by have := ((HRW.out.alloc (.cells #[Value.slice a6 acc.length c6] 65)).lt _ e.symm).1; omega)).trans (alloc_old HRB.out)) rfl
               have r1 : w8.frozen? ⟨w.heap.size + 1, 0, none⟩ = false := block_frozen ((hg8.block _ (by simp; omega) (fun e => by have := ((HRW.out.alloc (.cells #[Value.slice a6 acc.length c6] 65)).lt _ e.symm).1; omega)).trans (alloc_old HRB.out))))
          have hA := HRW.out.alloc (.cells #[Value.slice a6 acc.length c6] 65)
          have hO := HOW.out.alloc (.cells #[Value.slice a6 acc.length c6] 65)
          have hS := HSY.out.alloc (.cells #[Value.slice a6 acc.length c6] 65)
          have hst := set_grown w8 (w.heap.size + 1) 0 (Value.slice a8 (zs.length + 1) c8)
          have hs8 := hg8.size
          simp only [World.size_alloc] at hs8
          have nb : ∀ q, v3.ownBlock = some q → w3.heap.size ≤ q := fun q hq => (hA.lt q hq).1
          have far2 : ∀ k o, wY.heap[k]? = some o → k < w3.heap.size → k ≠ w.heap.size + 1 → (w8.setCell ⟨w.heap.size + 1, 0, none⟩ (Value.slice a8 (zs.length + 1) c8)).heap[k]? = some o := fun k o hk hlt2 hne => by
            have hkl := (Array.getElem?_eq_some_iff.1 hk).1
            exact (hst.block k (by omega) (fun e => hne (Option.some.inj e))).trans ((hg8.block k (by simp; omega) (fun e => by have := nb k e.symm; omega)).trans (alloc_old hk))
          have kp : ∀ {v : Value} {e sz m : Nat} {xs : List Value}, w8.ownsRow w3.heap.size e sz v m xs → (w8.setCell ⟨w.heap.size + 1, 0, none⟩ (Value.slice a8 (zs.length + 1) c8)).ownsRow w3.heap.size e sz v m xs := fun h => h.kept hst (by
            cases hv : Value.ownBlock _ with
            | none => exact Or.inl rfl
            | some q => exact Or.inr (fun e => by have := (h.lt q hv).1; have := Option.some.inj e; omega))
          have hrb8 : w8.heap[w.heap.size + 1]? = some (.cells #[v3] 51 (0, 0)) := (hg8.block _ (by simp; omega) (fun e => by have := nb _ e.symm; omega)).trans (alloc_old HRB.out)
          refine ⟨?_, (far2 _ _ HCB.out (by omega) (by omega)).trans HCW.out.symm, .slice a8 (zs.length + 1) c8, zs ++ [Value.slice a6 acc.length c6], ?_⟩
          · refine ((HKF.out.trans ((KeepsOthers.alloc wY (.cells #[Value.slice a6 acc.length c6] 65)).from _)).trans ((KeepsOthers.of_grownBy hg8 (fun q o hq ho => ?_)).from _)).trans ((KeepsOthers.setCell _ _ _).from _)
            rcases hA.2 with ⟨hv, _⟩ | ⟨g, cp, cur, hv, _, hgg, _⟩
            · rw [hv] at hq; cases hq
            · rw [hv] at hq
              have e2 : g = q := Option.some.inj hq
              rw [e2, ho] at hgg
              rw [Option.some.inj hgg]
              rfl
          · rw [HRS.out, HST.out]
            refine ⟨set_block hrb8, by simp [HLEN.out], ?_, fun j hjl => ?_, (hS.kept hg8 (own_ne hS hA (by decide))).kept hst (Or.inr (fun e => by have : w.heap.size + 2 = w.heap.size + 1 := Option.some.inj e; omega)), far2 _ _ HSB2.out (by omega) (by omega), far2 _ _ HDB.out (by omega) (by omega), far2 _ _ HCB.out (by omega) (by omega), ((HBW.out.alloc (by have := HBW.out.size; omega) _).grown hg8 (by have := HBW.out.size; simp; omega) (fun q hq => by have := nb q hq; omega)).grown hst (by have := HBW.out.size; omega) (fun q hq => by have := Option.some.inj hq; omega), by simp; omega⟩
            · rw [List.length_append]
              exact kp hown8
            · by_cases hjk : j < zs.length
              · have e1 : (R.1 ++ [acc]).getD j [] = R.1.getD j [] := by rw [List.getD_eq_getElem?_getD, List.getD_eq_getElem?_getD, List.getElem?_append_left (by rw [← HLEN.out]; exact hjk)]
                rw [getD_left zs _ j hjk, e1]
                have h1 := (HEA.out j hjk).alloc (.cells #[Value.slice a6 acc.length c6] 65)
                exact kp (h1.kept hg8 (own_ne h1 hA (by decide)))
              · have ej : j = zs.length := by simp at hjl; omega
                have e1 : (R.1 ++ [acc]).getD j [] = acc := by rw [ej, HLEN.out]; simp [List.getD]
                have e2 : (zs ++ [Value.slice a6 acc.length c6]).getD j (.bool false) = Value.slice a6 acc.length c6 := by rw [ej]; exact getD_last zs _
                rw [e1, e2]
                exact kp (hO.kept hg8 (own_ne hO hA (by decide)))
      | false =>
        have HBT : Hid (seen.getD y true = false) := HBIT.out
        have hsY := HY5.out.size
        have HYD : Hid (Below W5.heap.size W5 wY.drew) := HY5.out.drew
        have HS2 : Hid (∀ w', Below W5.heap.size W5 w' → w'.cell? ⟨w1.heap.size, 0, none⟩ = some (.slice (some ⟨w.heap.size + 2, 0, none⟩) (2 * C.length + 1) (2 * C.length + 1)) ∧ w'.cell? ⟨Bd, 0, none⟩ = some (.int .i64 (dA y : Nat)) ∧ w'.cell? ⟨Bd, 1, none⟩ = some (.bool (dB y))) := fun w' hb => ⟨HSB.out w' hb, (HS1.out w' hb).2.1, (HS1.out w' hb).2.2.1⟩
        gi_wp2
        refine region_held_in (S := fun w' => w'.cell? ⟨w1.heap.size, 0, none⟩ = some (.slice (some ⟨w.heap.size + 2, 0, none⟩) (2 * C.length + 1) (2 * C.length + 1)) ∧ w'.cell? ⟨Bd, 0, none⟩ = some (.int .i64 (dA y : Nat)) ∧ w'.cell? ⟨Bd, 1, none⟩ = some (.bool (dB y))) (by kernel_rfl) (by kernel_rfl) (HS2.out _ HYD.out) (fun hHeld => ?_)
        refine take_d 28 (i := 0) (v := ?vv0b) rfl rfl (by kernel_rfl) (by kernel_rfl) (by kernel_rfl) (Or.inl ⟨by rfl, ?yy0b⟩) (by assumption) ?rr0b
        case yy0b => (intro w hSw; (try dsimp only at hSw); go_simp; (try with_reducible rfl))
        simp only [List.setIfInBounds_toArray, List.set_cons_succ, List.set_cons_zero]
        refine take_d 29 (i := 1) (v := ?vv1b) rfl rfl (by kernel_rfl) (by kernel_rfl) (by kernel_rfl) (Or.inl ⟨by rfl, ?yy1b⟩) (by assumption) ?rr1b
        case yy1b => (intro w hSw; (try dsimp only at hSw); go_simp; (try with_reducible rfl))
        simp only [List.setIfInBounds_toArray, List.set_cons_succ, List.set_cons_zero]
        refine take_d 30 (i := 2) (v := ?vv2b) rfl rfl (by kernel_rfl) (by kernel_rfl) (by kernel_rfl) (Or.inl ⟨by rfl, ?yy2b⟩) (by assumption) ?rr2b
        case yy2b => (intro w hSw; (try dsimp only at hSw); go_simp; (try with_reducible rfl))
        simp only [List.setIfInBounds_toArray, List.set_cons_succ, List.set_cons_zero]
        refine take_d 31 (i := 3) (v := ?vv3b) rfl rfl (by kernel_rfl) (by kernel_rfl) (by kernel_rfl) (Or.inl ⟨by rfl, ?yy3b⟩) (by assumption) ?rr3b
        case yy3b => (intro w hSw; (try dsimp only at hSw); go_simp; (try with_reducible rfl))
        simp only [List.setIfInBounds_toArray, List.set_cons_succ, List.set_cons_zero]
        refine take_d 33 (i := 5) (v := ?vv5b) rfl rfl (by kernel_rfl) (by kernel_rfl) (by kernel_rfl) (Or.inl ⟨by rfl, ?yy5b⟩) (by assumption) ?rr5b
        case yy5b => (intro w hSw; (try dsimp only at hSw); go_simp; (try with_reducible rfl))
        simp only [List.setIfInBounds_toArray, List.set_cons_succ, List.set_cons_zero]
        refine wpAnyH_ready (rs := [4]) (by kernel_rfl) (by simp) ?_
        refine AllReadyH.cons rfl (fun K hK => ?_) AllReadyH.nil
        go_simp
        go_at_call 43
        refine (HWAY.out _).mono ?_
        rintro e9 wZ ⟨rfl, hbZ⟩
        have HZ5 : Hid (Below W5.heap.size W5 wZ) := HYD.out.trans (hbZ.mono HYD.out.size)
        clear hbZ
        refine hK.out _ _ (HS2.out _ HZ5.out) (fun hHeld => ?_)
        clear hK K
        refine take_d 34 (i := 6) (v := ?vv6b) rfl rfl (by kernel_rfl) (by kernel_rfl) (by kernel_rfl) (Or.inl ⟨by rfl, ?yy6b⟩) (by assumption) ?rr6b
        case yy6b => (intro w hSw; (try dsimp only at hSw); go_simp; (try with_reducible rfl))
        simp only [List.setIfInBounds_toArray, List.set_cons_succ, List.set_cons_zero]
        have hsZ := HZ5.out.size
        have HSZ : Hid (wZ.ownsRow (w.heap.size + 2) 85 2 (.slice (some ⟨w.heap.size + 2, 0, none⟩) (2 * C.length + 1) (2 * C.length + 1)) (2 * C.length + 1) (bools (false :: seen))) := own_any hsd.out (grown_below HZ5.out none)
        have z0 : wZ.cell? ⟨w.heap.size + 2, dA y * 2 + yw, none⟩ = some (.bool false) := HE0.out wZ HZ5.out
        have z1 : wZ.frozen? ⟨w.heap.size + 2, dA y * 2 + yw, none⟩ = false := HSZ.out.frozenAt _
        have z2 : w.heap.size + 2 < wZ.heap.size := (HSZ.out.lt (w.heap.size + 2) rfl).2
        have hst := HSZ.out.stored (dA y * 2 + yw) (.bool true)
        have HSV : Hid ((wZ.setCell ⟨w.heap.size + 2, dA y * 2 + yw, none⟩ (.bool true)).ownsRow (w.heap.size + 2) 85 2 (.slice (some ⟨w.heap.size + 2, 0, none⟩) (2 * C.length + 1) (2 * C.length + 1)) (2 * C.length + 1) (bools (false :: (seen.set y true)))) := (by have h := hst.1; rw [HCO.out, bools_put, ← HCO.out] at h; exact h : (wZ.setCell ⟨w.heap.size + 2, dA y * 2 + yw, none⟩ (.bool true)).ownsRow (w.heap.size + 2) 85 2 (.slice (some ⟨w.heap.size + 2, 0, none⟩) (2 * C.length + 1) (2 * C.length + 1)) (2 * C.length + 1) (bools (false :: (seen.set y true))))
        have HGT : Hid (wZ.grownBy (wZ.setCell ⟨w.heap.size + 2, dA y * 2 + yw, none⟩ (.bool true)) (some (w.heap.size + 2))) := hst.2
        obtain ⟨wV, hwV⟩ : ∃ wV, wV = wZ.setCell ⟨w.heap.size + 2, dA y * 2 + yw, none⟩ (.bool true) := ⟨_, rfl⟩
        have HWV : Hid (wV = wZ.setCell ⟨w.heap.size + 2, dA y * 2 + yw, none⟩ (.bool true)) := hwV
        have hsV : wV.heap.size = wZ.heap.size := by rw [hwV]; simp
        rw [← hwV] at HSV HGT
        have HDV : Hid (wV.heap[Bd]? = some (.cells #[.int .i64 (dA y : Nat), .bool (dB y)] 67 (0, 0))) := (HGT.out.block _ (by omega) (fun e => by have : Bd = w.heap.size + 2 := Option.some.inj e; omega)).trans ((HZ5.out.block _ hlB).trans hbd.out)
        have HSVS : Hid (wV.cell? ⟨w1.heap.size, 0, none⟩ = some (.slice (some ⟨w.heap.size + 2, 0, none⟩) (2 * C.length + 1) (2 * C.length + 1)) ∧ wV.cell? ⟨Bd, 0, none⟩ = some (.int .i64 (dA y : Nat)) ∧ wV.cell? ⟨Bd, 1, none⟩ = some (.bool (dB y))) := ⟨block_cell ((HGT.out.block _ (by omega) (fun e => by have : w1.heap.size = w.heap.size + 2 := Option.some.inj e; omega)).trans ((HZ5.out.block _ (by omega)).trans ((hgr.out.block _ (by omega) (fun e => by have : w1.heap.size = w.heap.size + 2 := Option.some.inj e; omega)).trans HFRA.out.sbox))) rfl, block_cell HDV.out rfl, block_cell HDV.out rfl⟩
        clear hst hwV
        refine wpAnyH_ready (rs := [7]) (by kernel_rfl) (by simp) ?_
        refine AllReadyH.cons rfl (fun K hK => ?_) AllReadyH.nil
        go_simp
        rw [← HWV.out]
        refine hK.out _ _ HSVS.out (fun hHeld => ?_)
        clear hK K
        refine wpAnyH_done (by kernel_rfl) ?_ _
        simp only [OnlyN]
        have HOZ : Hid (wZ.ownsRow W.heap.size 67 2 (.slice a6 acc.length c6) acc.length (vflat (dd acc))) := own_any hown.out (grown_below HZ5.out none)
        have HOV : Hid (wV.ownsRow W.heap.size 67 2 (.slice a6 acc.length c6) acc.length (vflat (dd acc))) := HOZ.out.kept HGT.out (own_ne HOZ.out HSZ.out (by decide))
        have HGV : Hid (W.grownBy wV (some (w.heap.size + 2))) := grown_trans (grown_new hgr.out (grown_below HZ5.out none) (fun q hq => by cases hq)) HGT.out
        have HWK : Hid (walkF (fd C) f seen y acc = walkF (fd C) (f - 1) (seen.set y true) (fd C y) (acc ++ [y]) ∧ unseen (seen.set y true) ≤ f - 1) := walkF_more HBT.out hun.out
        have HUS : Hid (unseen (seen.set y true) + 1 = unseen seen) := unseen_set HBT.out
        have hacl : acc.length < 4 * C.length + 1 := by have := hac.out; have := HUS.out; omega
        have HFX : Hid (1 ≤ fd C y ∧ fd C y ≤ 4 * C.length) := HNX.out y hya hyb
        obtain ⟨c0, c1⟩ := HSVS.out.2
        have lB : Bd < wV.heap.size := by omega
        have HsV : Hid (wV.heap.size = wZ.heap.size) := hsV
        have hsV2 : W.heap.size + 1 ≤ wV.heap.size := by omega
        clear z0 z1 z2 hHeld HS1 HS2 HYD HE0 hsV
        gi_wp2_with (first
          | (gi_at_builtin; refine wpListIn_append_own _ rfl _ _ 65 rfl W.heap.size 67 i0 (.agg #[.int .i64 0, .bool false]) 2 16 Try.underlying65 hi hz0 hz1 hz2 rfl (by decide) _ _ _ rfl (HOV.out.alloc _) ⟨wV.heap.size, 0, none⟩ 1 1 [.int .i64 (dA y : Nat), .bool (dB y)] rfl rfl (new_cell2' rfl _ _ _) (vflat_one [(dA y, dB y)]) (by unfold maxLen; omega) (by omega) (by simp; omega) ?_; intro v8 w8 hown8 hg8 _; refine Hid.out ?_))
        refine Lib.hid ?_
        have HG8 : Hid ((wV.alloc (.cells #[.int .i64 (dA y : Nat), .bool (dB y)] 67)).grownBy w8 (Value.slice a6 acc.length c6).ownBlock) := hg8
        have HO8 : Hid (w8.ownsRow W.heap.size 67 2 v8 (acc ++ [y]).length (vflat (dd (acc ++ [y])))) := (by rw [List.length_append, dd_app, vflat_append]; exact hown8 : w8.ownsRow W.heap.size 67 2 v8 (acc ++ [y]).length (vflat (dd (acc ++ [y]))))
        have hA := HOV.out.alloc (.cells #[.int .i64 (dA y : Nat), .bool (dB y)] 67)
        have hS := HSV.out.alloc (.cells #[.int .i64 (dA y : Nat), .bool (dB y)] 67)
        have HS8 : Hid (w8.ownsRow (w.heap.size + 2) 85 2 (.slice (some ⟨w.heap.size + 2, 0, none⟩) (2 * C.length + 1) (2 * C.length + 1)) (2 * C.length + 1) (bools (false :: (seen.set y true)))) := hS.kept HG8.out (own_ne hS hA (by decide))
        have HG18 : Hid (W.grownBy w8 (some (w.heap.size + 2))) := grown_new (grown_trans HGV.out (grown_none (World.grownBy_alloc _ _ none))) HG8.out (fun q hq => by have := (hA.lt q hq).1; omega)
        have hs8 : W.heap.size + 1 ≤ w8.heap.size := by have := HG8.out.size; simp at this; omega
        have hs8B : Bd < w8.heap.size := by have := HG8.out.size; simp at this; omega
        have HX8 : Hid (w8.heap[Bd]? = some (.cells #[.int .i64 (dA y : Nat), .bool (dB y)] 67 (0, 0))) := (HG8.out.block _ (by simp; omega) (fun e => hne.out e.symm)).trans (alloc_old HDV.out)
        have d0 : w8.cell? ⟨Bd, 0, none⟩ = some (.int .i64 (dA y : Nat)) := block_cell HX8.out rfl
        have d1 : w8.cell? ⟨Bd, 1, none⟩ = some (.bool (dB y)) := block_cell HX8.out rfl
        have HDB8 : Hid (w8.heap[w.heap.size]? = some (.cells #[.slice a C.length cap, .int .i64 loops, .slice (some ⟨gF, 0, none⟩) (2 * C.length + 1) cF, .slice (some ⟨gT, 0, none⟩) (2 * C.length + 1) cT] 39 (0, 0))) := (HG18.out.block _ (by omega) (fun e => by have : w.heap.size = w.heap.size + 2 := Option.some.inj e; omega)).trans HFRA.out.dbox
        have HBW8 : Hid (Below w.heap.size w w8) := HFRA.out.bel.grown HG18.out HFRA.out.bel.size (fun q hq => by have := Option.some.inj hq; omega)
        have p0 : w8.cell? ⟨w.heap.size, 0, none⟩ = some (.slice a C.length cap) := block_cell HDB8.out rfl
        have p1 : w8.cell? ⟨w.heap.size, 1, none⟩ = some (.int .i64 loops) := block_cell HDB8.out rfl
        have p2 : w8.cell? ⟨w.heap.size, 2, none⟩ = some (.slice (some ⟨gF, 0, none⟩) (2 * C.length + 1) cF) := block_cell HDB8.out rfl
        have p3 : w8.cell? ⟨w.heap.size, 3, none⟩ = some (.slice (some ⟨gT, 0, none⟩) (2 * C.length + 1) cT) := block_cell HDB8.out rfl
        have l8 : w.heap.size < w8.heap.size := by omega
        clear hA hS hg8 hown8 c0 c1
        gi_wp2
        obtain ⟨wN, hwN⟩ : ∃ wN, wN = w8.alloc (.cells #[.int .i64 (dA y : Nat), .bool (dB y)] 67) := ⟨_, rfl⟩
        rw [← hwN]
        have hsN : wN.heap.size = w8.heap.size + 1 := by rw [hwN]; simp
        have HGN : Hid (w8.grownBy wN none) := (by rw [hwN]; exact World.grownBy_alloc _ _ _ : w8.grownBy wN none)
        have HNX8 : Hid (wN.heap[w8.heap.size]? = some (.cells #[.int .i64 (dA y : Nat), .bool (dB y)] 67 (0, 0))) := (by rw [hwN]; exact alloc_at rfl : wN.heap[w8.heap.size]? = some (.cells #[.int .i64 (dA y : Nat), .bool (dB y)] 67 (0, 0)))
        have HDR : Hid (Dr wN a cap C gF gT) := HD.out.on (by rw [hwN]; exact HBW8.out.alloc (by omega) _)
        clear hwN p0 p1 p2 p3 d0 d1
        refine ⟨trivial, ?_⟩
        refine (CallsIn.inRound l (callsIn_wide.2 (onward_any a cap C loops gF cF gT cT y _ HM.out hya hyb HDR.out))).mono ?_
        rintro e9 w9 ⟨rfl, hb9⟩
        obtain ⟨z, hz⟩ : ∃ z, fd C y = z := ⟨_, rfl⟩
        rw [hz] at HFX HWK ⊢
        have HB9 : Hid (Below wN.heap.size wN w9) := hb9
        have hs9 := hb9.size
        have HX9 : Hid (w9.heap[w8.heap.size]? = some (.cells #[.int .i64 (dA y : Nat), .bool (dB y)] 67 (0, 0))) := (hb9.block _ (by omega)).trans HNX8.out
        have c0 : w9.cell? ⟨w8.heap.size, 0, none⟩ = some (.int .i64 (dA y : Nat)) := block_cell HX9.out rfl
        have c1 : w9.cell? ⟨w8.heap.size, 1, none⟩ = some (.bool (dB y)) := block_cell HX9.out rfl
        have f0 : w9.frozen? ⟨w8.heap.size, 0, none⟩ = false := block_frozen HX9.out
        have f1 : w9.frozen? ⟨w8.heap.size, 1, none⟩ = false := block_frozen HX9.out
        have lx9 : w8.heap.size < w9.heap.size := by omega
        obtain ⟨hn1, hn2⟩ := HFX.out
        clear hb9 hz
        simp only
        gi_wp2
        go_roundw
        case rel =>
          have hg9 : w8.grownBy w9 none := grown_trans HGN.out (grown_below HB9.out none)
          have hst2 := st2_grown w9 w8.heap.size 0 (.int .i64 (dA z : Nat)) (.bool (dB z))
          have o9 := own_any HO8.out hg9
          have s9 := own_any HS8.out hg9
          refine ⟨f - 1, seen.set y true, z, acc ++ [y], w8.heap.size, rfl, hn1, hn2, (hwk.out.trans HWK.out.1 : walkF (fd C) (4 * C.length + 1) R.2 x0 [] = _), HWK.out.2, by simpa using hsl, (by have := hac.out; have := HUS.out; rw [List.length_append]; simp only [List.length_cons, List.length_nil]; omega : (acc ++ [y]).length + unseen (seen.set y true) ≤ 4 * C.length + 1), set_block (i := 1) (u := .bool (dB z)) (set_block (i := 0) (u := .int .i64 (dA z : Nat)) HX9.out), by omega, o9.kept hst2 ?_, s9.kept hst2 (Or.inr (fun e => by have : w.heap.size + 2 = w8.heap.size := Option.some.inj e; omega)), grown_new (grown_new HG18.out hg9 (fun q hq => by cases hq)) hst2 (fun q hq => by have := Option.some.inj hq; omega), (fun e => by have := (HO8.out.lt _ e).2; omega : v8.ownBlock ≠ some w8.heap.size)⟩
          cases hv : v8.ownBlock with
          | none => exact Or.inl rfl
          | some q => exact Or.inr (fun e => by have := (HO8.out.lt q hv).2; have := Option.some.inj e; omega)
        case measure =>
          obtain ⟨a8, c8, e8⟩ := own_capS HO8.out
          rw [e8]
          simp only [lenOf, List.length_append, List.length_cons, List.length_nil]
          omega
  case done =>
    rintro D ys W hD hys ⟨v3, zs, hfr⟩ hK
    have HFR : Hid (FrAt w w3.heap.size w1.heap.size (w1.heap.size + 1) #[.slice a C.length cap, .int .i64 loops, .slice (some ⟨gF, 0, none⟩) (2 * C.length + 1) cF, .slice (some ⟨gT, 0, none⟩) (2 * C.length + 1) cT] C (ringsL (fd C) (4 * C.length) (ys.map fun x => x.1)) v3 zs W) := hfr
    have HKD : Hid (W.heap[D]? = some (Obj.deferred (some []))) := hK
    have HYS : Hid (ys = dl C.length (2 * C.length)) := hys
    have hr0 : W.cell? ⟨w.heap.size + 1, 0, none⟩ = some v3 := block_cell hfr.rbox rfl
    clear hfr hK hys
    simp only
    go_wp2
    have hg := grownBy_putObj' W D (.deferred none)
    have hD0 : ∀ r, some D = some r → w3.heap.size ≤ r ∧ ∃ o : Obj, W.heap[r]? = some o ∧ o.isCells = false := fun r e => by
      have e2 : D = r := Option.some.inj e
      subst e2
      exact ⟨hD, _, HKD.out, rfl⟩
    have HF := HFR.out.keep (by omega) hg hD0
    refine ⟨by simp, .inl ⟨_, _, rfl, run_takeDeferred HKD.out, ?_⟩⟩
    have e := faces_rings C ys HYS.out
    refine ⟨_, results_tmp rfl _ _ _, v3, rfl, ⟨zs, by rw [← e]; exact HF.len, own_low HF.rows (by omega), fun j hjl => ?_⟩, HF.bel⟩
    rw [← e] at hjl ⊢
    exact own_low (HF.each j (by rw [HF.len]; exact hjl)) (by omega)
  case stop =>
    rintro D c pre W _ _ h _
    exact h.elim
end Go.Proofs.Ytlcogbcpmneknaa

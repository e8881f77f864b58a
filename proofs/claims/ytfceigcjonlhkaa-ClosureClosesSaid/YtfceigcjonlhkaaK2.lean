/- The walks of canon.mirrored, canon.Mirror and ref.MirrorOf. -/
import Derived.Test.YtfceigcjonlhkaaK1
namespace Go.Proofs.Ytfceigcjonlhkaa
open Go.RowKit

/-- A crossing mirrored. -/
def mirX (x : Cr) : Cr := if x.plus = true then ⟨x.d, x.a, x.b, x.c, false⟩ else ⟨x.b, x.c, x.d, x.a, true⟩
theorem take_map_next (f : Cr → Cr) (C : List Cr) (i : Nat) (h : i < C.length) : (C.take (i + 1)).map f = (C.take i).map f ++ [f (C.getD i Cr.none)] := by
  have e2 : C.take (i + 1) = C.take i ++ [C.getD i Cr.none] := by
    rw [List.take_add_one, List.getD_eq_getElem?_getD, List.getElem?_eq_getElem h]
    rfl
  rw [e2]
  simp

set_option maxHeartbeats 8000000 in
set_option maxRecDepth 100000 in
theorem mirrored_any (a : Option Addr) (cap : Nat) (C : List Cr) (loops : Int) (gF cF gT cT : Nat) (w : World) (hl : C.length ≤ 16) (hD : Crs w w.heap.size (.slice a C.length cap) C) :
    Calls Try.prog 45 #[drV a cap C loops gF cF gT cT] w fun e w' => ∃ v, e = .returned (.agg #[v, .int .i64 loops]) ∧ w'.ownsRow w.heap.size 101 5 v (C.map mirX).length (crossCells (C.map mirX)) ∧ Below w.heap.size w w' := by
  obtain ⟨i0, hi, hz0, hz1, hz2⟩ := info_parts infoCross
  unfold drV
  have HD : Hid (Crs w w.heap.size (.slice a C.length cap) C) := hD
  clear hD
  obtain ⟨w0, hw0⟩ : ∃ w0, w0 = ((w.alloc (.cells #[.slice a C.length cap, .int .i64 loops, .slice (some ⟨gF, 0, none⟩) (2 * C.length + 1) cF, .slice (some ⟨gT, 0, none⟩) (2 * C.length + 1) cT] 83)).alloc (.cells #[.slice none 0 0, .int .i64 0] 24)).alloc (.cells #[.slice none 0 0, .int .i64 loops] 24) := ⟨_, rfl⟩
  have HW0 : Hid (w0 = ((w.alloc (.cells #[.slice a C.length cap, .int .i64 loops, .slice (some ⟨gF, 0, none⟩) (2 * C.length + 1) cF, .slice (some ⟨gT, 0, none⟩) (2 * C.length + 1) cT] 83)).alloc (.cells #[.slice none 0 0, .int .i64 0] 24)).alloc (.cells #[.slice none 0 0, .int .i64 loops] 24)) := hw0
  have hs0 : w0.heap.size = w.heap.size + 3 := by rw [hw0]; simp
  have HB0 : Hid (Below w.heap.size w w0) := (by rw [hw0]; exact below3 _ _ _ _ : Below w.heap.size w w0)
  have HT1 : Hid (w0.heap[w.heap.size + 1]? = some (.cells #[.slice none 0 0, .int .i64 0] 24 (0, 0))) := (by rw [hw0]; exact alloc_old (alloc_at (by simp)) : w0.heap[w.heap.size + 1]? = some (.cells #[.slice none 0 0, .int .i64 0] 24 (0, 0)))
  have HT2 : Hid (w0.heap[w.heap.size + 1 + 1]? = some (.cells #[.slice none 0 0, .int .i64 loops] 24 (0, 0))) := (by rw [hw0]; exact alloc_at (by simp) : w0.heap[w.heap.size + 1 + 1]? = some (.cells #[.slice none 0 0, .int .i64 loops] 24 (0, 0)))
  clear hw0
  go_enter Try.func45, Try.ntmps45
  go_wp2
  rw [← HW0.out]
  go_loopw [16] (fun v16 wr => ∃ (i : Nat) (v3 : Value) (acc : List Cr), i ≤ C.length ∧ v16 = .int .i64 (i : Nat) ∧ Hid (acc.length = i) ∧ Hid (acc = (C.take i).map mirX) ∧ OutAt wr (w.heap.size + 3) (w.heap.size + 1 + 1) v3 loops acc ∧ wr.heap[w.heap.size + 1]? = some (.cells #[.slice none 0 0, .int .i64 0] 24 (0, 0)) ∧ Below w.heap.size w wr) (fun v16 _ => C.length - (intOf v16).toNat)
  case atStart => exact ⟨0, .slice none 0 0, [], Nat.zero_le _, rfl, (rfl : ([] : List Cr).length = 0), (rfl : [] = (C.take 0).map mirX), OutAt.nil HT2.out, HT1.out, HB0.out⟩
  case round =>
    rename World => W1
    obtain ⟨i, v3, acc, hin, rfl, hal, hacc, hout, hres, hb⟩ := hrel
    have hszW := hb.size
    have hal16 : acc.length ≤ 16 := by have := hal.out; omega
    have hlt1 := (Array.getElem?_eq_some_iff.1 hout.box).1
    by_cases hil : i < C.length
    · obtain ⟨b, off, ea, hbq, hC⟩ := crs_some HD.out (by omega)
      subst ea
      obtain ⟨c0, c1, c2, c3, c4⟩ := (hC.on hb hbq) i hil
      have HNX : Hid ((C.take (i + 1)).map mirX = (C.take i).map mirX ++ [mirX (C.getD i Cr.none)]) := take_map_next mirX C i hil
      clear hC
      generalize C.getD i Cr.none = x at c0 c1 c2 c3 c4 HNX
      obtain ⟨xa, xb, xc, xd, xp⟩ := x
      have hb1 : b < W1.heap.size := by omega
      have HOUT : Hid (OutAt W1 (w.heap.size + 3) (w.heap.size + 1 + 1) v3 loops acc) := hout
      have HRES : Hid (W1.heap[w.heap.size + 1]? = some (.cells #[.slice none 0 0, .int .i64 0] 24 (0, 0))) := hres
      clear hout hres
      obtain ⟨a3, c3', ev3⟩ := own_capS HOUT.out.row
      subst ev3
      obtain ⟨Y, hY⟩ : ∃ Y, Y = W1.alloc (.cells #[.int .i64 xa, .int .i64 xb, .int .i64 xc, .int .i64 xd, .bool xp] 101) := ⟨_, rfl⟩
      have HY : Hid (Y = W1.alloc (.cells #[.int .i64 xa, .int .i64 xb, .int .i64 xc, .int .i64 xd, .bool xp] 101)) := hY
      have hsY : Y.heap.size = W1.heap.size + 1 := by rw [hY]; simp
      have HBY : Hid (Below W1.heap.size W1 Y) := (by rw [hY]; exact (Below.refl _ _).alloc (Nat.le_refl _) _ : Below W1.heap.size W1 Y)
      have HTY : Hid (Y.heap[W1.heap.size]? = some (.cells #[.int .i64 xa, .int .i64 xb, .int .i64 xc, .int .i64 xd, .bool xp] 101 (0, 0))) := (by rw [hY]; exact alloc_at rfl : Y.heap[W1.heap.size]? = some (.cells #[.int .i64 xa, .int .i64 xb, .int .i64 xc, .int .i64 xd, .bool xp] 101 (0, 0)))
      clear hY
      cases xp with
      | true =>
        go_wp2_with (go_at_call 89; rw [← HY.out]; refine (turned_any ⟨xa, xb, xc, xd, true⟩ 3 _ (by omega)).mono ?_; rintro e9 w4 ⟨rfl, hb4⟩; refine Hid.out ?_)
        refine Lib.hid ?_
        have HB4 : Hid (Below W1.heap.size W1 w4) := HBY.out.trans (hb4.mono (by omega))
        have HO4 : Hid (OutAt w4 (w.heap.size + 3) (w.heap.size + 1 + 1) (.slice a3 acc.length c3') loops acc) := HOUT.out.on HB4.out
        have HR4 : Hid (w4.heap[w.heap.size + 1]? = some (.cells #[.slice none 0 0, .int .i64 0] 24 (0, 0))) := (HB4.out.block _ (by omega)).trans HRES.out
        have ht4 := (hb4.block _ (by omega)).trans HTY.out
        have p0 : w4.cell? ⟨W1.heap.size, 4, none⟩ = some (.bool true) := block_cell ht4 rfl
        have q0 : w4.cell? ⟨w.heap.size + 1 + 1, 0, none⟩ = some (.slice a3 acc.length c3') := block_cell HO4.out.box rfl
        have hs4 := hb4.size
        have hl4 : w.heap.size + 1 + 1 < w4.heap.size := by omega
        have hl5 : W1.heap.size < w4.heap.size := by omega
        obtain ⟨y, hy⟩ : ∃ y, turn ⟨xa, xb, xc, xd, true⟩ 3 = y := ⟨_, rfl⟩
        have HMX : Hid (mirX ⟨xa, xb, xc, xd, true⟩ = ⟨y.a, y.b, y.c, y.d, false⟩) := (by rw [← hy]; rfl : mirX ⟨xa, xb, xc, xd, true⟩ = ⟨y.a, y.b, y.c, y.d, false⟩)
        rw [hy]
        have HOX : Hid (OutAt (w4.alloc (.cells #[.int .i64 y.a, .int .i64 y.b, .int .i64 y.c, .int .i64 y.d, .bool false] 101)) (w.heap.size + 3) (w.heap.size + 1 + 1) (.slice a3 acc.length c3') loops acc) := HO4.out.on ((Below.refl _ _).alloc (Nat.le_refl _) _)
        clear hb4 ht4 c0 c1 c2 c3 c4 hy
        have hsX : W1.heap.size < (w4.alloc (.cells #[.int .i64 y.a, .int .i64 y.b, .int .i64 y.c, .int .i64 y.d, .bool false] 101)).heap.size := by simp; omega
        go_wp2_with (first
          | (at_builtin; refine wpList_append_own _ rfl _ _ 22 rfl (w.heap.size + 3) 101 i0 (.agg #[.int .i64 0, .int .i64 0, .int .i64 0, .int .i64 0, .bool false]) 5 40 Try.underlying22 hi hz0 hz1 hz2 rfl (by decide) _ _ _ rfl (HOX.out.row.alloc _) ⟨w4.heap.size + 1, 0, none⟩ 1 1 [.int .i64 y.a, .int .i64 y.b, .int .i64 y.c, .int .i64 y.d, .bool false] rfl rfl (new_cell5' (by simp) _ _ _ _ _ _) (cells_one [⟨y.a, y.b, y.c, y.d, false⟩]) (by unfold maxLen; omega) (by omega) (by simp; omega) ?_; intro v8 w8 hown8 hg8 _; refine Hid.out ?_))
        refine Lib.hid ?_
        have HOW8 : Hid (w8.ownsRow (w.heap.size + 3) 101 5 v8 (acc.length + 1) (crossCells acc ++ crossCells [⟨y.a, y.b, y.c, y.d, false⟩])) := hown8
        have HG8 : Hid (((w4.alloc (.cells #[.int .i64 y.a, .int .i64 y.b, .int .i64 y.c, .int .i64 y.d, .bool false] 101)).alloc (.cells #[.int .i64 y.a, .int .i64 y.b, .int .i64 y.c, .int .i64 y.d, .bool false] 101)).grownBy w8 (Value.slice a3 acc.length c3').ownBlock) := hg8
        obtain ⟨a8, c8, ev8⟩ := own_capS HOW8.out
        subst ev8
        have hb8 := HOX.out.box8 (by omega) HG8.out
        have r0 : w8.cell? ⟨w.heap.size + 1 + 1, 0, none⟩ = some (.slice a3 acc.length c3') := block_cell hb8 rfl
        have r1 : w8.frozen? ⟨w.heap.size + 1 + 1, 0, none⟩ = false := block_frozen hb8
        have r2 : w.heap.size + 1 + 1 < w8.heap.size := (Array.getElem?_eq_some_iff.1 hb8).1
        clear hown8 hg8 hb8 p0 q0
        go_wp2
        go_roundw
        case rel =>
          refine ⟨i + 1, .slice a8 (acc.length + 1) c8, acc ++ [(⟨y.a, y.b, y.c, y.d, false⟩ : Cr)], by omega, by go_num, (by have := hal.out; simp; omega : (acc ++ [(⟨y.a, y.b, y.c, y.d, false⟩ : Cr)]).length = i + 1), (by rw [HNX.out, HMX.out, hacc.out] : acc ++ [(⟨y.a, y.b, y.c, y.d, false⟩ : Cr)] = (C.take (i + 1)).map mirX), HOX.out.app (by omega) rfl HOW8.out HG8.out, HOX.out.other (alloc_old HR4.out) (by omega) (by omega) HG8.out, HOX.out.below ((hb.trans (HB4.out.mono hszW)).alloc (by omega) _) (by omega) (by simp; omega) (by omega) HG8.out⟩
        case measure => simp only [intOf]; omega
      | false =>
        go_wp2_with (go_at_call 89; rw [← HY.out]; refine (turned_any ⟨xa, xb, xc, xd, false⟩ 1 _ (by omega)).mono ?_; rintro e9 w4 ⟨rfl, hb4⟩; refine Hid.out ?_)
        refine Lib.hid ?_
        have HB4 : Hid (Below W1.heap.size W1 w4) := HBY.out.trans (hb4.mono (by omega))
        have HO4 : Hid (OutAt w4 (w.heap.size + 3) (w.heap.size + 1 + 1) (.slice a3 acc.length c3') loops acc) := HOUT.out.on HB4.out
        have HR4 : Hid (w4.heap[w.heap.size + 1]? = some (.cells #[.slice none 0 0, .int .i64 0] 24 (0, 0))) := (HB4.out.block _ (by omega)).trans HRES.out
        have ht4 := (hb4.block _ (by omega)).trans HTY.out
        have p0 : w4.cell? ⟨W1.heap.size, 4, none⟩ = some (.bool false) := block_cell ht4 rfl
        have q0 : w4.cell? ⟨w.heap.size + 1 + 1, 0, none⟩ = some (.slice a3 acc.length c3') := block_cell HO4.out.box rfl
        have hs4 := hb4.size
        have hl4 : w.heap.size + 1 + 1 < w4.heap.size := by omega
        have hl5 : W1.heap.size < w4.heap.size := by omega
        obtain ⟨y, hy⟩ : ∃ y, turn ⟨xa, xb, xc, xd, false⟩ 1 = y := ⟨_, rfl⟩
        have HMX : Hid (mirX ⟨xa, xb, xc, xd, false⟩ = ⟨y.a, y.b, y.c, y.d, true⟩) := (by rw [← hy]; rfl : mirX ⟨xa, xb, xc, xd, false⟩ = ⟨y.a, y.b, y.c, y.d, true⟩)
        rw [hy]
        have HOX : Hid (OutAt (w4.alloc (.cells #[.int .i64 y.a, .int .i64 y.b, .int .i64 y.c, .int .i64 y.d, .bool true] 101)) (w.heap.size + 3) (w.heap.size + 1 + 1) (.slice a3 acc.length c3') loops acc) := HO4.out.on ((Below.refl _ _).alloc (Nat.le_refl _) _)
        clear hb4 ht4 c0 c1 c2 c3 c4 hy
        have hsX : W1.heap.size < (w4.alloc (.cells #[.int .i64 y.a, .int .i64 y.b, .int .i64 y.c, .int .i64 y.d, .bool true] 101)).heap.size := by simp; omega
        go_wp2_with (first
          | (at_builtin; refine wpList_append_own _ rfl _ _ 22 rfl (w.heap.size + 3) 101 i0 (.agg #[.int .i64 0, .int .i64 0, .int .i64 0, .int .i64 0, .bool false]) 5 40 Try.underlying22 hi hz0 hz1 hz2 rfl (by decide) _ _ _ rfl (HOX.out.row.alloc _) ⟨w4.heap.size + 1, 0, none⟩ 1 1 [.int .i64 y.a, .int .i64 y.b, .int .i64 y.c, .int .i64 y.d, .bool true] rfl rfl (new_cell5' (by simp) _ _ _ _ _ _) (cells_one [⟨y.a, y.b, y.c, y.d, true⟩]) (by unfold maxLen; omega) (by omega) (by simp; omega) ?_; intro v8 w8 hown8 hg8 _; refine Hid.out ?_))
        refine Lib.hid ?_
        have HOW8 : Hid (w8.ownsRow (w.heap.size + 3) 101 5 v8 (acc.length + 1) (crossCells acc ++ crossCells [⟨y.a, y.b, y.c, y.d, true⟩])) := hown8
        have HG8 : Hid (((w4.alloc (.cells #[.int .i64 y.a, .int .i64 y.b, .int .i64 y.c, .int .i64 y.d, .bool true] 101)).alloc (.cells #[.int .i64 y.a, .int .i64 y.b, .int .i64 y.c, .int .i64 y.d, .bool true] 101)).grownBy w8 (Value.slice a3 acc.length c3').ownBlock) := hg8
        obtain ⟨a8, c8, ev8⟩ := own_capS HOW8.out
        subst ev8
        have hb8 := HOX.out.box8 (by omega) HG8.out
        have r0 : w8.cell? ⟨w.heap.size + 1 + 1, 0, none⟩ = some (.slice a3 acc.length c3') := block_cell hb8 rfl
        have r1 : w8.frozen? ⟨w.heap.size + 1 + 1, 0, none⟩ = false := block_frozen hb8
        have r2 : w.heap.size + 1 + 1 < w8.heap.size := (Array.getElem?_eq_some_iff.1 hb8).1
        clear hown8 hg8 hb8 p0 q0
        go_wp2
        go_roundw
        case rel =>
          refine ⟨i + 1, .slice a8 (acc.length + 1) c8, acc ++ [(⟨y.a, y.b, y.c, y.d, true⟩ : Cr)], by omega, by go_num, (by have := hal.out; simp; omega : (acc ++ [(⟨y.a, y.b, y.c, y.d, true⟩ : Cr)]).length = i + 1), (by rw [HNX.out, HMX.out, hacc.out] : acc ++ [(⟨y.a, y.b, y.c, y.d, true⟩ : Cr)] = (C.take (i + 1)).map mirX), HOX.out.app (by omega) rfl HOW8.out HG8.out, HOX.out.other (alloc_old HR4.out) (by omega) (by omega) HG8.out, HOX.out.below ((hb.trans (HB4.out.mono hszW)).alloc (by omega) _) (by omega) (by simp; omega) (by omega) HG8.out⟩
        case measure => simp only [intOf]; omega
    · obtain rfl : i = C.length := by omega
      have e : acc = C.map mirX := by rw [hacc.out, List.take_length]
      have HOUT : Hid (OutAt W1 (w.heap.size + 3) (w.heap.size + 1 + 1) v3 loops (C.map mirX)) := (by rw [← e]; exact hout : OutAt W1 (w.heap.size + 3) (w.heap.size + 1 + 1) v3 loops (C.map mirX))
      have HRES : Hid (W1.heap[w.heap.size + 1]? = some (.cells #[.slice none 0 0, .int .i64 0] 24 (0, 0))) := hres
      have q0 : W1.cell? ⟨w.heap.size + 1 + 1, 0, none⟩ = some v3 := block_cell hout.box rfl
      have q1 : W1.cell? ⟨w.heap.size + 1 + 1, 1, none⟩ = some (.int .i64 loops) := block_cell hout.box rfl
      have r0 : W1.cell? ⟨w.heap.size + 1, 0, none⟩ = some (.slice none 0 0) := block_cell hres rfl
      have r1 : W1.cell? ⟨w.heap.size + 1, 1, none⟩ = some (.int .i64 0) := block_cell hres rfl
      have f0 : W1.frozen? ⟨w.heap.size + 1, 0, none⟩ = false := block_frozen hres
      have f1 : W1.frozen? ⟨w.heap.size + 1, 1, none⟩ = false := block_frozen hres
      clear hout hres hacc e
      obtain ⟨a3, c3', ev3⟩ := own_capS HOUT.out.row
      rw [List.length_map] at ev3
      subst ev3
      go_wp2
      have hX := set_block (i := 1) (u := .int .i64 loops) (set_block (i := 0) (u := .slice a3 C.length c3') HRES.out)
      have x0 := block_cell (i := 0) (v := .slice a3 C.length c3') hX rfl
      have x1 := block_cell (i := 1) (v := .int .i64 loops) hX rfl
      have hk := HOUT.out.kept (st2_grown W1 (w.heap.size + 1) 0 (.slice a3 C.length c3') (.int .i64 loops)) (by omega) (by omega)
      exact bodyPost_ret (v := .agg #[.slice a3 C.length c3', .int .i64 loops]) (by simp [results, Try.results45, go_sem, x0, x1]) rfl ⟨_, rfl, own_low hk.row (by omega), hb.grown (st2_grown W1 (w.heap.size + 1) 0 (.slice a3 C.length c3') (.int .i64 loops)) hszW (fun q hq => by have := Option.some.inj hq; omega)⟩
end Go.Proofs.Ytfceigcjonlhkaa

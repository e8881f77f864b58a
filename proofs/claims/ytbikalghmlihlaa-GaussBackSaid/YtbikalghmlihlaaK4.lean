/- The walks of ref.MirrorOf and canon.Mirror. -/
import Derived.Test.YtbikalghmlihlaaK1P
namespace Go.Proofs.Ytbikalghmlihlaa
open Go.RowKit

set_option maxHeartbeats 8000000 in
set_option maxRecDepth 100000 in
theorem mirrorOf_any (a : Option Addr) (cap : Nat) (C : List Cr) (loops : Int) (w : World) (hl : C.length ≤ 16) (hD : Crs w w.heap.size (.slice a C.length cap) C) :
    Calls Try.prog 168 #[.agg #[.slice a C.length cap, .int .i64 loops]] w fun e w' => ∃ v, e = .returned (.agg #[v, .int .i64 loops]) ∧ w'.ownsRow w.heap.size 114 5 v (C.map mirX).length (crossCells (C.map mirX)) ∧ Below w.heap.size w w' := by
  obtain ⟨i0, hi, hz0, hz1, hz2⟩ := info_parts infoCross
  have HD : Hid (Crs w w.heap.size (.slice a C.length cap) C) := hD
  clear hD
  obtain ⟨w0, hw0⟩ : ∃ w0, w0 = ((w.alloc (.cells #[.slice a C.length cap, .int .i64 loops] 24)).alloc (.cells #[.slice none 0 0, .int .i64 0] 24)).alloc (.cells #[.slice none 0 0, .int .i64 loops] 24) := ⟨_, rfl⟩
  have HW0 : Hid (w0 = ((w.alloc (.cells #[.slice a C.length cap, .int .i64 loops] 24)).alloc (.cells #[.slice none 0 0, .int .i64 0] 24)).alloc (.cells #[.slice none 0 0, .int .i64 loops] 24)) := hw0
  have hs0 : w0.heap.size = w.heap.size + 3 := by rw [hw0]; simp
  have HB0 : Hid (Below w.heap.size w w0) := (by rw [hw0]; exact below3 _ _ _ _ : Below w.heap.size w w0)
  have HT0 : Hid (w0.heap[w.heap.size]? = some (.cells #[.slice a C.length cap, .int .i64 loops] 24 (0, 0))) := (by rw [hw0]; exact alloc_old (alloc_old (alloc_at rfl)) : w0.heap[w.heap.size]? = some (.cells #[.slice a C.length cap, .int .i64 loops] 24 (0, 0)))
  have HT1 : Hid (w0.heap[w.heap.size + 1]? = some (.cells #[.slice none 0 0, .int .i64 0] 24 (0, 0))) := (by rw [hw0]; exact alloc_old (alloc_at (by simp)) : w0.heap[w.heap.size + 1]? = some (.cells #[.slice none 0 0, .int .i64 0] 24 (0, 0)))
  have HT2 : Hid (w0.heap[w.heap.size + 1 + 1]? = some (.cells #[.slice none 0 0, .int .i64 loops] 24 (0, 0))) := (by rw [hw0]; exact alloc_at (by simp) : w0.heap[w.heap.size + 1 + 1]? = some (.cells #[.slice none 0 0, .int .i64 loops] 24 (0, 0)))
  clear hw0
  go_enter Try.func168, Try.ntmps168
  go_wp2
  rw [← HW0.out]
  go_loopw [4] (fun v4 wr => ∃ (i : Nat) (v3 : Value) (acc : List Cr), i ≤ C.length ∧ v4 = .int .i64 (i : Nat) ∧ Hid (acc.length = i) ∧ Hid (acc = (C.take i).map mirX) ∧ OutAt wr (w.heap.size + 3) (w.heap.size + 1 + 1) v3 loops acc ∧ wr.heap[w.heap.size + 1]? = some (.cells #[.slice none 0 0, .int .i64 0] 24 (0, 0)) ∧ wr.heap[w.heap.size]? = some (.cells #[.slice a C.length cap, .int .i64 loops] 24 (0, 0)) ∧ Below w.heap.size w wr) (fun v4 _ => C.length - (intOf v4).toNat)
  case atStart => exact ⟨0, .slice none 0 0, [], Nat.zero_le _, rfl, (rfl : ([] : List Cr).length = 0), (rfl : [] = (C.take 0).map mirX), OutAt.nil HT2.out, HT1.out, HT0.out, HB0.out⟩
  case round =>
    rename World => W1
    obtain ⟨i, v3, acc, hin, rfl, hal, hacc, hout, hres, hdia, hb⟩ := hrel
    have hszW := hb.size
    have hal16 : acc.length ≤ 16 := by have := hal.out; omega
    have hlt1 := (Array.getElem?_eq_some_iff.1 hout.box).1
    have p0 : W1.cell? ⟨w.heap.size, 0, none⟩ = some (.slice a C.length cap) := block_cell hdia rfl
    by_cases hil : i < C.length
    · have hdi : decide ((i : Int) < (C.length : Int)) = true := by simp; omega
      have hdi2 : decide (i < C.length) = true := by simp; omega
      obtain ⟨b, off, ea, hbq, hC⟩ := crs_some HD.out (by omega)
      subst ea
      obtain ⟨c0, c1, c2, c3, c4⟩ := (hC.on hb hbq) i hil
      have HNX : Hid ((C.take (i + 1)).map mirX = (C.take i).map mirX ++ [mirX (C.getD i Cr.none)]) := take_map_next mirX C i hil
      clear hC
      generalize C.getD i Cr.none = x at c0 c1 c2 c3 c4 HNX
      obtain ⟨xa, xb, xc, xd, xp⟩ := x
      have hb1 : b < W1.heap.size := by omega
      have HOUT : Hid (OutAt W1 (w.heap.size + 3) (w.heap.size + 1 + 1) v3 loops acc) := hout
      have HRES : Hid (W1.heap[w.heap.size + 1]? = some (.cells #[.slice none 0 0, .int .i64 0] 24 (0, 0))) := hres
      have HDIA : Hid (W1.heap[w.heap.size]? = some (.cells #[.slice (some ⟨b, off, none⟩) C.length cap, .int .i64 loops] 24 (0, 0))) := hdia
      clear hout hres hdia
      obtain ⟨a3, c3', ev3⟩ := own_capS HOUT.out.row
      subst ev3
      have q0 : W1.cell? ⟨w.heap.size + 1 + 1, 0, none⟩ = some (.slice a3 acc.length c3') := block_cell HOUT.out.box rfl
      cases xp with
      | true =>
        have HMX : Hid (mirX ⟨xa, xb, xc, xd, true⟩ = (⟨xd, xa, xb, xc, false⟩ : Cr)) := (rfl : mirX ⟨xa, xb, xc, xd, true⟩ = (⟨xd, xa, xb, xc, false⟩ : Cr))
        have HOX : Hid (OutAt (W1.alloc (.cells #[.int .i64 xa, .int .i64 xb, .int .i64 xc, .int .i64 xd, .bool true] 114)) (w.heap.size + 3) (w.heap.size + 1 + 1) (.slice a3 acc.length c3') loops acc) := HOUT.out.on ((Below.refl _ _).alloc (Nat.le_refl _) _)
        go_wp2_with (first
          | (at_builtin; refine wpList_append_own _ rfl _ _ 22 rfl (w.heap.size + 3) 114 i0 (.agg #[.int .i64 0, .int .i64 0, .int .i64 0, .int .i64 0, .bool false]) 5 40 Try.underlying22 hi hz0 hz1 hz2 rfl (by decide) _ _ _ rfl (HOX.out.row.alloc _) ⟨W1.heap.size + 1, 0, none⟩ 1 1 [.int .i64 (xd), .int .i64 (xa), .int .i64 (xb), .int .i64 (xc), .bool (false)] rfl rfl (new_cell5' (by simp) _ _ _ _ _ _) (cells_one [(⟨xd, xa, xb, xc, false⟩ : Cr)]) (by unfold maxLen; omega) (by omega) (by simp; omega) ?_; intro v8 w8 hown8 hg8 _; refine Hid.out ?_))
        refine Lib.hid ?_
        have HOW8 : Hid (w8.ownsRow (w.heap.size + 3) 114 5 v8 (acc.length + 1) (crossCells acc ++ crossCells [(⟨xd, xa, xb, xc, false⟩ : Cr)])) := hown8
        have HG8 : Hid (((W1.alloc (.cells #[.int .i64 xa, .int .i64 xb, .int .i64 xc, .int .i64 xd, .bool true] 114)).alloc (.cells #[.int .i64 (xd), .int .i64 (xa), .int .i64 (xb), .int .i64 (xc), .bool (false)] 114)).grownBy w8 (Value.slice a3 acc.length c3').ownBlock) := hg8
        obtain ⟨a8, c8, ev8⟩ := own_capS HOW8.out
        subst ev8
        have hb8 := HOX.out.box8 (by omega) HG8.out
        have r0 : w8.cell? ⟨w.heap.size + 1 + 1, 0, none⟩ = some (.slice a3 acc.length c3') := block_cell hb8 rfl
        have r1 : w8.frozen? ⟨w.heap.size + 1 + 1, 0, none⟩ = false := block_frozen hb8
        have r2 : w.heap.size + 1 + 1 < w8.heap.size := (Array.getElem?_eq_some_iff.1 hb8).1
        clear hown8 hg8 hb8
        clear c0 c1 c2 c3 c4 p0 q0
        go_wp2
        go_roundw
        case rel =>
          refine ⟨i + 1, .slice a8 (acc.length + 1) c8, acc ++ [(⟨xd, xa, xb, xc, false⟩ : Cr)], by omega, by go_num, (by have := hal.out; simp; omega : (acc ++ [(⟨xd, xa, xb, xc, false⟩ : Cr)]).length = i + 1), (by rw [HNX.out, HMX.out, hacc.out] : acc ++ [(⟨xd, xa, xb, xc, false⟩ : Cr)] = (C.take (i + 1)).map mirX), HOX.out.app (by omega) rfl HOW8.out HG8.out, HOX.out.other (alloc_old HRES.out) (by omega) (by omega) HG8.out, HOX.out.other (alloc_old HDIA.out) (by omega) (by omega) HG8.out, HOX.out.below (hb.alloc hszW _) (by omega) (by simp; omega) (by omega) HG8.out⟩
        case measure => simp only [intOf]; omega
      | false =>
        have HMX : Hid (mirX ⟨xa, xb, xc, xd, false⟩ = (⟨xb, xc, xd, xa, true⟩ : Cr)) := (rfl : mirX ⟨xa, xb, xc, xd, false⟩ = (⟨xb, xc, xd, xa, true⟩ : Cr))
        have HOX : Hid (OutAt (W1.alloc (.cells #[.int .i64 xa, .int .i64 xb, .int .i64 xc, .int .i64 xd, .bool false] 114)) (w.heap.size + 3) (w.heap.size + 1 + 1) (.slice a3 acc.length c3') loops acc) := HOUT.out.on ((Below.refl _ _).alloc (Nat.le_refl _) _)
        go_wp2_with (first
          | (at_builtin; refine wpList_append_own _ rfl _ _ 22 rfl (w.heap.size + 3) 114 i0 (.agg #[.int .i64 0, .int .i64 0, .int .i64 0, .int .i64 0, .bool false]) 5 40 Try.underlying22 hi hz0 hz1 hz2 rfl (by decide) _ _ _ rfl (HOX.out.row.alloc _) ⟨W1.heap.size + 1, 0, none⟩ 1 1 [.int .i64 (xb), .int .i64 (xc), .int .i64 (xd), .int .i64 (xa), .bool (true)] rfl rfl (new_cell5' (by simp) _ _ _ _ _ _) (cells_one [(⟨xb, xc, xd, xa, true⟩ : Cr)]) (by unfold maxLen; omega) (by omega) (by simp; omega) ?_; intro v8 w8 hown8 hg8 _; refine Hid.out ?_))
        refine Lib.hid ?_
        have HOW8 : Hid (w8.ownsRow (w.heap.size + 3) 114 5 v8 (acc.length + 1) (crossCells acc ++ crossCells [(⟨xb, xc, xd, xa, true⟩ : Cr)])) := hown8
        have HG8 : Hid (((W1.alloc (.cells #[.int .i64 xa, .int .i64 xb, .int .i64 xc, .int .i64 xd, .bool false] 114)).alloc (.cells #[.int .i64 (xb), .int .i64 (xc), .int .i64 (xd), .int .i64 (xa), .bool (true)] 114)).grownBy w8 (Value.slice a3 acc.length c3').ownBlock) := hg8
        obtain ⟨a8, c8, ev8⟩ := own_capS HOW8.out
        subst ev8
        have hb8 := HOX.out.box8 (by omega) HG8.out
        have r0 : w8.cell? ⟨w.heap.size + 1 + 1, 0, none⟩ = some (.slice a3 acc.length c3') := block_cell hb8 rfl
        have r1 : w8.frozen? ⟨w.heap.size + 1 + 1, 0, none⟩ = false := block_frozen hb8
        have r2 : w.heap.size + 1 + 1 < w8.heap.size := (Array.getElem?_eq_some_iff.1 hb8).1
        clear hown8 hg8 hb8
        clear c0 c1 c2 c3 c4 p0 q0
        go_wp2
        go_roundw
        case rel =>
          refine ⟨i + 1, .slice a8 (acc.length + 1) c8, acc ++ [(⟨xb, xc, xd, xa, true⟩ : Cr)], by omega, by go_num, (by have := hal.out; simp; omega : (acc ++ [(⟨xb, xc, xd, xa, true⟩ : Cr)]).length = i + 1), (by rw [HNX.out, HMX.out, hacc.out] : acc ++ [(⟨xb, xc, xd, xa, true⟩ : Cr)] = (C.take (i + 1)).map mirX), HOX.out.app (by omega) rfl HOW8.out HG8.out, HOX.out.other (alloc_old HRES.out) (by omega) (by omega) HG8.out, HOX.out.other (alloc_old HDIA.out) (by omega) (by omega) HG8.out, HOX.out.below (hb.alloc hszW _) (by omega) (by simp; omega) (by omega) HG8.out⟩
        case measure => simp only [intOf]; omega
    · obtain rfl : i = C.length := by omega
      have hdi : decide ((C.length : Int) < (C.length : Int)) = false := by simp
      have e : acc = C.map mirX := by rw [hacc.out, List.take_length]
      have HOUT : Hid (OutAt W1 (w.heap.size + 3) (w.heap.size + 1 + 1) v3 loops (C.map mirX)) := (by rw [← e]; exact hout : OutAt W1 (w.heap.size + 3) (w.heap.size + 1 + 1) v3 loops (C.map mirX))
      have HRES : Hid (W1.heap[w.heap.size + 1]? = some (.cells #[.slice none 0 0, .int .i64 0] 24 (0, 0))) := hres
      have q0 : W1.cell? ⟨w.heap.size + 1 + 1, 0, none⟩ = some v3 := block_cell hout.box rfl
      have q1 : W1.cell? ⟨w.heap.size + 1 + 1, 1, none⟩ = some (.int .i64 loops) := block_cell hout.box rfl
      have r0 : W1.cell? ⟨w.heap.size + 1, 0, none⟩ = some (.slice none 0 0) := block_cell hres rfl
      have r1 : W1.cell? ⟨w.heap.size + 1, 1, none⟩ = some (.int .i64 0) := block_cell hres rfl
      have f0 : W1.frozen? ⟨w.heap.size + 1, 0, none⟩ = false := block_frozen hres
      have f1 : W1.frozen? ⟨w.heap.size + 1, 1, none⟩ = false := block_frozen hres
      clear hout hres hacc e hdia
      obtain ⟨a3, c3', ev3⟩ := own_capS HOUT.out.row
      rw [List.length_map] at ev3
      subst ev3
      go_wp2
      have hX := set_block (i := 1) (u := .int .i64 loops) (set_block (i := 0) (u := .slice a3 C.length c3') HRES.out)
      have x0 := block_cell (i := 0) (v := .slice a3 C.length c3') hX rfl
      have x1 := block_cell (i := 1) (v := .int .i64 loops) hX rfl
      have hk := HOUT.out.kept (st2_grown W1 (w.heap.size + 1) 0 (.slice a3 C.length c3') (.int .i64 loops)) (by omega) (by omega)
      exact bodyPost_ret (v := .agg #[.slice a3 C.length c3', .int .i64 loops]) (by simp [results, Try.results168, go_sem, x0, x1]) rfl ⟨_, rfl, own_low hk.row (by omega), hb.grown (st2_grown W1 (w.heap.size + 1) 0 (.slice a3 C.length c3') (.int .i64 loops)) hszW (fun q hq => by have := Option.some.inj hq; omega)⟩

set_option maxHeartbeats 2000000 in
set_option maxRecDepth 100000 in
theorem mirror_no (v : Value) (C : List Cr) (loops : Int) (w : World) (hm : mayD C loops = false) (h : Crs w w.heap.size v C) :
    Calls Try.prog 22 #[.agg #[v, .int .i64 loops]] w fun e w' => e = .returned (.tuple #[.agg #[.slice none 0 0, .int .i64 0], .int .i64 7]) ∧ Below w.heap.size w w' := by
  have HC : Hid (Crs w w.heap.size v C) := h
  obtain ⟨a, cap, rfl, hn, -⟩ := h
  have HB1 : Hid (Below w.heap.size w ((w.alloc (.cells #[.slice a C.length cap, .int .i64 loops] 24)).alloc (.cells #[.slice none 0 0, .int .i64 0] 24))) := below2 _ _ _
  have HT1 : Hid (((w.alloc (.cells #[.slice a C.length cap, .int .i64 loops] 24)).alloc (.cells #[.slice none 0 0, .int .i64 0] 24)).heap[w.heap.size + 1]? = some (.cells #[.slice none 0 0, .int .i64 0] 24 (0, 0))) := alloc_at (by simp)
  go_enter Try.func22, Try.ntmps22
  go_wp2_with (go_at_call 65; refine (of_any _ C loops _ (HC.out.up HB1.out)).mono ?_; rw [hm]; rintro e9 w2 ⟨d, rfl, hb2, hd⟩; rw [hd.no hm]; refine Hid.out ?_)
  refine Lib.hid ?_
  unfold noDrawing
  have HB2 : Hid (Below w.heap.size w w2) := HB1.out.trans (hb2.mono HB1.out.size)
  have HT2 : Hid (w2.heap[w.heap.size + 1]? = some (.cells #[.slice none 0 0, .int .i64 0] 24 (0, 0))) := (hb2.block _ (by simp)).trans HT1.out
  have hs2 : w.heap.size + 2 ≤ w2.heap.size := by have := hb2.size; simpa using this
  clear hb2 hd
  have r0 : w2.cell? ⟨w.heap.size + 1, 0, none⟩ = some (.slice none 0 0) := block_cell HT2.out rfl
  have r1 : w2.cell? ⟨w.heap.size + 1, 1, none⟩ = some (.int .i64 0) := block_cell HT2.out rfl
  have f0 : w2.frozen? ⟨w.heap.size + 1, 0, none⟩ = false := block_frozen HT2.out
  have f1 : w2.frozen? ⟨w.heap.size + 1, 1, none⟩ = false := block_frozen HT2.out
  have hl : w.heap.size + 1 < w2.heap.size := by omega
  go_wp2
  have hX := alloc_old (o := .cells #[.slice none 0 0, .int .i64 0, .slice none 0 0, .slice none 0 0] 103) (set_block (i := 1) (u := .int .i64 0) (set_block (i := 0) (u := .slice none 0 0) HT2.out))
  have x0 := block_cell (i := 0) (v := .slice none 0 0) hX rfl
  have x1 := block_cell (i := 1) (v := .int .i64 0) hX rfl
  refine bodyPost_ret (v := .tuple #[.agg #[.slice none 0 0, .int .i64 0], .int .i64 7]) (by simp [results, Try.results22, go_sem, x0, x1]) rfl ⟨rfl, ?_⟩
  exact (HB2.out.grown (st2_grown w2 (w.heap.size + 1) 0 (.slice none 0 0) (.int .i64 0)) (by omega) (fun q hq => by have := Option.some.inj hq; omega)).alloc (by have := (st2_grown w2 (w.heap.size + 1) 0 (.slice none 0 0) (.int .i64 0)).size; omega) _

set_option maxHeartbeats 4000000 in
set_option maxRecDepth 100000 in
theorem mirror_yes (v : Value) (C : List Cr) (loops : Int) (w : World) (hm : mayD C loops = true) (h : Crs w w.heap.size v C) :
    Calls Try.prog 22 #[.agg #[v, .int .i64 loops]] w fun e w' => ∃ r, e = .returned (.tuple #[.agg #[r, .int .i64 loops], .int .i64 0]) ∧ Crs w' w'.heap.size r (C.map mirX) ∧ Below w.heap.size w w' := by
  obtain ⟨s1, -, -, -⟩ := sizeB_iff (may_size hm)
  have HC : Hid (Crs w w.heap.size v C) := h
  have HM : Hid (mayD C loops = true) := hm
  obtain ⟨a, cap, rfl, hn, -⟩ := h
  have HB1 : Hid (Below w.heap.size w ((w.alloc (.cells #[.slice a C.length cap, .int .i64 loops] 24)).alloc (.cells #[.slice none 0 0, .int .i64 0] 24))) := below2 _ _ _
  have HT1 : Hid (((w.alloc (.cells #[.slice a C.length cap, .int .i64 loops] 24)).alloc (.cells #[.slice none 0 0, .int .i64 0] 24)).heap[w.heap.size + 1]? = some (.cells #[.slice none 0 0, .int .i64 0] 24 (0, 0))) := alloc_at (by simp)
  go_enter Try.func22, Try.ntmps22
  go_wp2_with (go_at_call 65; refine (of_any _ C loops _ (HC.out.up HB1.out)).mono ?_; rw [hm]; rintro e9 w2 ⟨d, rfl, hb2, hd⟩; obtain ⟨gF, cF, gT, cT, rfl, hdr⟩ := hd.dr HM.out hb2 (HC.out.up HB1.out); refine Hid.out ?_)
  refine Lib.hid ?_
  have HDR : Hid (Dr w2 a cap C gF gT) := hdr
  unfold drV
  have HB2 : Hid (Below w.heap.size w w2) := HB1.out.trans (hb2.mono HB1.out.size)
  have HT2 : Hid (w2.heap[w.heap.size + 1]? = some (.cells #[.slice none 0 0, .int .i64 0] 24 (0, 0))) := (hb2.block _ (by simp)).trans HT1.out
  have hs2 : w.heap.size + 2 ≤ w2.heap.size := by have := hb2.size; simpa using this
  have HBA : Hid (Below w2.heap.size w2 (w2.alloc (.cells #[.slice a C.length cap, .int .i64 loops, .slice (some ⟨gF, 0, none⟩) (2 * C.length + 1) cF, .slice (some ⟨gT, 0, none⟩) (2 * C.length + 1) cT] 103))) := (Below.refl _ _).alloc (Nat.le_refl _) _
  clear hb2 hd hdr hm
  go_wp2_with (go_at_call 75; refine (mirrored_any a cap C loops gF cF gT cT _ s1 (HDR.out.crs.up HBA.out)).mono ?_; rintro e9 w3 ⟨r, rfl, hr, hb3⟩; refine Hid.out ?_)
  refine Lib.hid ?_
  have HR : Hid (w3.ownsRow (w.heap.size + 2) 114 5 r (C.map mirX).length (crossCells (C.map mirX))) := own_low hr (by simp; omega)
  have HB3 : Hid (Below w.heap.size w w3) := (HB2.out.trans (HBA.out.mono HB2.out.size)).trans (hb3.mono (by simp; omega))
  have HT3 : Hid (w3.heap[w.heap.size + 1]? = some (.cells #[.slice none 0 0, .int .i64 0] 24 (0, 0))) := (hb3.block _ (by simp; omega)).trans (alloc_old HT2.out)
  have hs3 : w.heap.size + 2 ≤ w3.heap.size := by have := hb3.size; simp at this; omega
  clear hr hb3
  obtain ⟨a3, c3', ev3⟩ := own_capS HR.out
  rw [List.length_map] at ev3
  subst ev3
  have r0 : w3.cell? ⟨w.heap.size + 1, 0, none⟩ = some (.slice none 0 0) := block_cell HT3.out rfl
  have r1 : w3.cell? ⟨w.heap.size + 1, 1, none⟩ = some (.int .i64 0) := block_cell HT3.out rfl
  have f0 : w3.frozen? ⟨w.heap.size + 1, 0, none⟩ = false := block_frozen HT3.out
  have f1 : w3.frozen? ⟨w.heap.size + 1, 1, none⟩ = false := block_frozen HT3.out
  have hl : w.heap.size + 1 < w3.heap.size := by omega
  go_wp2
  have hX := set_block (i := 1) (u := .int .i64 loops) (set_block (i := 0) (u := .slice a3 C.length c3') HT3.out)
  have x0 := block_cell (i := 0) (v := .slice a3 C.length c3') hX rfl
  have x1 := block_cell (i := 1) (v := .int .i64 loops) hX rfl
  have hk := HR.out.kept (st2_grown w3 (w.heap.size + 1) 0 (.slice a3 C.length c3') (.int .i64 loops)) (by
    cases hv : (Value.slice a3 C.length c3').ownBlock with
    | none => exact Or.inl rfl
    | some k => exact Or.inr (fun e => by have h1 := (HR.out.lt k hv).1; have h2 := Option.some.inj e; omega))
  exact bodyPost_ret (v := .tuple #[.agg #[.slice a3 C.length c3', .int .i64 loops], .int .i64 0]) (by simp [results, Try.results22, go_sem, x0, x1]) rfl ⟨_, rfl, crs_own hk (by unfold maxLen; simp; omega), HB3.out.grown (st2_grown w3 (w.heap.size + 1) 0 (.slice a3 C.length c3') (.int .i64 loops)) (by omega) (fun q hq => by have := Option.some.inj hq; omega)⟩
end Go.Proofs.Ytbikalghmlihlaa

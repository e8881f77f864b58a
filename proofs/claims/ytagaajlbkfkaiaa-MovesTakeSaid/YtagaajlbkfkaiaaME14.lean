/- The walk of ref.DoMove. Made by genme14.py. -/
import Derived.Test.YtagaajlbkfkaiaaME12P
import Derived.Test.YtagaajlbkfkaiaaMT1
import Derived.Test.YtagaajlbkfkaiaaF6P
namespace Go.Proofs.Ytagaajlbkfkaiaa
open Go.RowKit

/-- What a call answers: a diagram in memory of its own, and an error's number. -/
def RsAt (w : World) (D : List Cr) (lo ce : Int) (e : Ending) (w' : World) : Prop := ∃ a2 c2, e = .returned (.tuple #[.agg #[.slice a2 D.length c2, .int .i64 lo], .int .i64 ce]) ∧ w'.ownsRow w.heap.size 71 5 (.slice a2 D.length c2) D.length (crossCells D) ∧ Below w.heap.size w w'
theorem RsAt.no {w w' : World} {ce : Int} (hb : Below w.heap.size w w') : RsAt w [] 0 ce (.returned (.tuple #[.agg #[.slice none 0 0, .int .i64 0], .int .i64 ce])) w' := ⟨none, 0, rfl, World.ownsRow_nil _ _ _ _, hb⟩
theorem res_do {W : World} {g : Nat} {a b : Value} {x : Int} {tm : Array Value} (h : W.heap[g]? = some (.cells #[a, b] 24 (0, 0))) (h2 : tm[4]? = some (.pointer (some ⟨g, 0, none⟩))) (h3 : tm[5]? = some (.int .i64 x)) : (results Try.f11 tm).run Try.prog W = .ok (.tuple #[.agg #[a, b], .int .i64 x]) W := by
  have e0 : W.cell? ⟨g, 0, none⟩ = some a := block_cell h rfl
  have e1 : W.cell? ⟨g, 1, none⟩ = some b := block_cell h rfl
  simp [results, Try.results11, go_sem, h2, h3, e0, e1]
/-- The answer is stored into the call's own box. -/
theorem RsAt.put {w V X : World} {D : List Cr} {lo ce : Int} {a2 : Option Addr} {c2 : Nat} (ho : X.ownsRow V.heap.size 71 5 (.slice a2 D.length c2) D.length (crossCells D)) (hV : w.heap.size + 3 ≤ V.heap.size) (hb : Below w.heap.size w X) : RsAt w D lo ce (.returned (.tuple #[.agg #[.slice a2 D.length c2, .int .i64 lo], .int .i64 ce])) ((X.setCell ⟨w.heap.size + 1 + 1, 0, none⟩ (.slice a2 D.length c2)).setCell ⟨w.heap.size + 1 + 1, 1, none⟩ (.int .i64 lo)) := by
  have hg := st2_grown X (w.heap.size + 1 + 1) 0 (.slice a2 D.length c2) (.int .i64 lo)
  refine ⟨a2, c2, rfl, own_low (ho.kept hg ?_) (by omega), hb.grown hg hb.size (fun q hq => by have := Option.some.inj hq; omega)⟩
  cases hv : (Value.slice a2 D.length c2).ownBlock with
  | none => exact Or.inl rfl
  | some k => exact Or.inr (fun e => by have h1 := (ho.lt k hv).1; have h2 := Option.some.inj e; omega)

/-- The three boxes of a call with a diagram and a move. -/
structure DmAt (w W : World) (a : Option Addr) (cap : Nat) (C : List Cr) (loops k x y ua va : Int) (ub vb ov : Bool) : Prop where
  b0 : W.heap[w.heap.size]? = some (.cells #[.slice a C.length cap, .int .i64 loops] 24 (0, 0))
  b1 : W.heap[w.heap.size + 1]? = some (.cells #[.int .i64 k, .int .i64 x, .int .i64 y, .int .i64 ua, .bool ub, .int .i64 va, .bool vb, .bool ov] 28 (0, 0))
  b2 : W.heap[w.heap.size + 1 + 1]? = some (.cells #[.slice none 0 0, .int .i64 0] 24 (0, 0))
theorem DmAt.on {w V W : World} {a : Option Addr} {cap : Nat} {C : List Cr} {loops k x y ua va : Int} {ub vb ov : Bool} (h : DmAt w V a cap C loops k x y ua va ub vb ov) (hb : Below V.heap.size V W) : DmAt w W a cap C loops k x y ua va ub vb ov :=
  have hl {k : Nat} {o : Obj} (e : V.heap[k]? = some o) : W.heap[k]? = some o := (hb.block _ (Array.getElem?_eq_some_iff.1 e).1).trans e
  ⟨hl h.b0, hl h.b1, hl h.b2⟩
theorem DmAt.cells {w W : World} {a : Option Addr} {cap : Nat} {C : List Cr} {loops k x y ua va : Int} {ub vb ov : Bool} (h : DmAt w W a cap C loops k x y ua va ub vb ov) : W.cell? ⟨w.heap.size, 0, none⟩ = some (.slice a C.length cap) ∧ W.cell? ⟨w.heap.size, 1, none⟩ = some (.int .i64 loops) ∧ W.cell? ⟨w.heap.size + 1, 0, none⟩ = some (.int .i64 k) ∧ W.cell? ⟨w.heap.size + 1, 1, none⟩ = some (.int .i64 x) ∧ W.cell? ⟨w.heap.size + 1, 2, none⟩ = some (.int .i64 y) ∧ W.cell? ⟨w.heap.size + 1, 3, none⟩ = some (.int .i64 ua) ∧ W.cell? ⟨w.heap.size + 1, 4, none⟩ = some (.bool ub) ∧ W.cell? ⟨w.heap.size + 1, 5, none⟩ = some (.int .i64 va) ∧ W.cell? ⟨w.heap.size + 1, 6, none⟩ = some (.bool vb) ∧ W.cell? ⟨w.heap.size + 1, 7, none⟩ = some (.bool ov) ∧ W.cell? ⟨w.heap.size + 1 + 1, 0, none⟩ = some (.slice none 0 0) ∧ W.cell? ⟨w.heap.size + 1 + 1, 1, none⟩ = some (.int .i64 0) ∧ W.frozen? ⟨w.heap.size + 1 + 1, 0, none⟩ = false ∧ W.frozen? ⟨w.heap.size + 1 + 1, 1, none⟩ = false ∧ w.heap.size < W.heap.size ∧ w.heap.size + 1 < W.heap.size ∧ w.heap.size + 1 + 1 < W.heap.size :=
  ⟨block_cell h.b0 rfl, block_cell h.b0 rfl, block_cell h.b1 rfl, block_cell h.b1 rfl, block_cell h.b1 rfl, block_cell h.b1 rfl, block_cell h.b1 rfl, block_cell h.b1 rfl, block_cell h.b1 rfl, block_cell h.b1 rfl, block_cell h.b2 rfl, block_cell h.b2 rfl, block_frozen h.b2, block_frozen h.b2, (Array.getElem?_eq_some_iff.1 h.b0).1, (Array.getElem?_eq_some_iff.1 h.b1).1, (Array.getElem?_eq_some_iff.1 h.b2).1⟩
theorem dm_ex (w : World) (a : Option Addr) (cap : Nat) (C : List Cr) (loops k x y ua va : Int) (ub vb ov : Bool) : ∃ V, ((w.alloc (.cells #[.slice a C.length cap, .int .i64 loops] 24)).alloc (.cells #[.int .i64 k, .int .i64 x, .int .i64 y, .int .i64 ua, .bool ub, .int .i64 va, .bool vb, .bool ov] 28)).alloc (.cells #[.slice none 0 0, .int .i64 0] 24) = V ∧ Below w.heap.size w V ∧ DmAt w V a cap C loops k x y ua va ub vb ov ∧ w.heap.size + 3 ≤ V.heap.size :=
  ⟨_, rfl, below3 _ _ _ _, ⟨alloc_old (alloc_old (alloc_at rfl)), alloc_old (alloc_at (by simp)), alloc_at (by simp)⟩, by simp⟩
theorem dm_crs {w V W : World} {a : Option Addr} {cap : Nat} {C : List Cr} (hB : Below w.heap.size w V) (hD : CrsW w w.heap.size (.slice a C.length cap) C) (hl : C.length ≤ maxLen) (hW : Below V.heap.size V W) : Crs W W.heap.size (.slice a C.length cap) C := ((hD.up hB).up hW).crs hl
theorem dm_may {w V : World} {a : Option Addr} {cap : Nat} {C : List Cr} {loops : Int} {b : Bool} (hB : Below w.heap.size w V) (hD : CrsW w w.heap.size (.slice a C.length cap) C) (hl : C.length ≤ maxLen) (hm : mayD C loops = b) (W : World) (hW : Below V.heap.size V W) : Calls Try.prog 31 #[.agg #[.slice a C.length cap, .int .i64 loops]] W fun e w' => e = .returned (.bool b) ∧ Below W.heap.size W w' := by
  have h := may17_any (.slice a C.length cap) C loops W (dm_crs hB hD hl hW)
  rw [hm] at h
  exact h
theorem dm_planar {w V : World} {a : Option Addr} {cap : Nat} {C : List Cr} {loops : Int} {b : Bool} (hB : Below w.heap.size w V) (hD : CrsW w w.heap.size (.slice a C.length cap) C) (hl : C.length ≤ maxLen) (hm : mayD C loops = true) (hp : planarB C = b) (W : World) (hW : Below V.heap.size V W) : Calls Try.prog 32 #[.agg #[.slice a C.length cap, .int .i64 loops]] W fun e w' => e = .returned (.bool b) ∧ Below W.heap.size W w' := by
  have h := planarIs_any a cap C loops W hm (dm_crs hB hD hl hW)
  rw [hp] at h
  exact h
theorem dm_cross {w V W : World} {a : Option Addr} {cap : Nat} {C : List Cr} (hB : Below w.heap.size w V) (hD : CrsW w w.heap.size (.slice a C.length cap) C) (hl : C.length ≤ maxLen) (hC : 0 < C.length) (hW : Below V.heap.size V W) : ∃ b off, a = some ⟨b, off, none⟩ ∧ b < W.heap.size ∧ CrossAt W b off C := by
  obtain ⟨aa, cp, e1, -, h5⟩ := dm_crs hB hD hl hW
  obtain ⟨b, off, e2, hb, hC⟩ := h5 hC
  injection e1 with e3 e4 e5
  exact ⟨b, off, e3.trans e2, hb, hC⟩

set_option maxHeartbeats 8000000 in
set_option maxRecDepth 100000 in
theorem doMove_2c (a : Option Addr) (cap : Nat) (C : List Cr) (loops : Int) (y : Int) (x : Nat) (ua va : Int) (ub vb ov : Bool) (w : World) (hl : C.length ≤ maxLen) (hm : mayD C loops = true) (hp : planarB C = true) (hC : CrsW w w.heap.size (.slice a C.length cap) C) (hx : x < C.length) (hc : caB C x = false) :
    Calls Try.prog 11 #[.agg #[.slice a C.length cap, .int .i64 loops], .agg #[.int .i64 2, .int .i64 (x : Nat), .int .i64 y, .int .i64 ua, .bool ub, .int .i64 va, .bool vb, .bool ov]] w fun e w' => RsAt w ([]) (0) (8) e w' := by
  obtain ⟨V, hV, hB, hD, hs⟩ := dm_ex w a cap C loops 2 (x : Nat) y ua va ub vb ov
  have HMY := hid_of (dm_may hB hC hl hm)
  have HPL := hid_of (dm_planar hB hC hl hm hp)
  have hl16 : C.length ≤ 16 := may_len hm
  have HCA : Hid (∀ W, Below V.heap.size V W → Calls Try.prog 34 #[.agg #[.slice a C.length cap, .int .i64 loops], .int .i64 (x : Nat)] W fun e w' => e = .returned (.bool false) ∧ Below W.heap.size W w') := fun W hW => by
    obtain ⟨b, off, e6, hb, hC2⟩ := dm_cross hB hC hl (by omega) hW
    subst e6
    have h := curlAt_any b off cap C loops x W hx hb hC2
    rw [hc] at h
    exact h
  have c0 := hD.cells
  have HV := hid_of hV
  have HB := hid_of hB
  have HD := hid_of hD
  clear hV hB hD hC hm hp hl
  go_enter Try.func11, Try.ntmps11
  go_upto_region 1 with (fail)
  rw [HV.out]
  go_upto_region 3 with (first
    | (go_at_call 31; refine (HMY.out _ (Below.refl _ _)).mono ?_; rintro e9 w3 ⟨rfl, hb3⟩
       have H3 := hid_of hb3
       clear hb3 c0
       have c0 := (HD.out.on H3.out).cells
       have HQw3 := hid_of (HD.out.on H3.out).b2
       have HBw3 := hid_of (HB.out.trans (H3.out.mono (Nat.le_of_add_right_le hs)))
       skip)
    | (go_at_call 32; refine (HPL.out _ H3.out).mono ?_; rintro e9 w4 ⟨rfl, hb4⟩
       have H4 := hid_of (H3.out.trans (hb4.mono H3.out.size))
       clear hb4 c0
       have c0 := (HD.out.on H4.out).cells
       have HQw4 := hid_of (HD.out.on H4.out).b2
       have HBw4 := hid_of (HB.out.trans (H4.out.mono (Nat.le_of_add_right_le hs)))
       skip))
  have t0 : decide (((x : Nat) : Int) < 0) = false := decide_eq_false (by omega)
  have t1 : decide ((C.length : Int) ≤ ((x : Nat) : Int)) = false := decide_eq_false (by omega)
  have t2 : decide (C.length ≤ x) = false := decide_eq_false (by omega)
  go_wp2_with (first
    | (go_at_call 34; refine (HCA.out _ H4.out).mono ?_; rintro e9 w5 ⟨rfl, hb5⟩
       have H5 := hid_of (H4.out.trans (hb5.mono H4.out.size))
       clear hb5 c0
       have c0 := (HD.out.on H5.out).cells
       have HQw5 := hid_of (HD.out.on H5.out).b2
       have HBw5 := hid_of (HB.out.trans (H5.out.mono (Nat.le_of_add_right_le hs)))
       skip))
  exact bodyPost_ret (res_do (set_block (set_block HQw5.out)) rfl rfl) rfl (RsAt.no (HBw5.out.grown (st2_grown _ _ _ _ _) HBw5.out.size (fun q hq => by have := Option.some.inj hq; omega)))

set_option maxHeartbeats 8000000 in
set_option maxRecDepth 100000 in
theorem doMove_2e (a : Option Addr) (cap : Nat) (C : List Cr) (loops : Int) (y : Int) (x : Nat) (ua va : Int) (ub vb ov : Bool) (w : World) (hl : C.length ≤ maxLen) (hm : mayD C loops = true) (hp : planarB C = true) (hC : CrsW w w.heap.size (.slice a C.length cap) C) (hx : x < C.length) (hc : caB C x = true) (D : List Cr) (lo : Int) (hDD : reTo C [x] (numM (uniM C (nx C) [x]) (thG C [x] (uniM C (nx C) [x]) C.length 0)) C.length = D) (hlo : loops + (cntB (nfB (uniM C (nx C) [x]) (thG C [x] (uniM C (nx C) [x]) C.length 0)) (2 * C.length + 1) : Nat) = lo) (hf : lo ≤ 16) :
    Calls Try.prog 11 #[.agg #[.slice a C.length cap, .int .i64 loops], .agg #[.int .i64 2, .int .i64 (x : Nat), .int .i64 y, .int .i64 ua, .bool ub, .int .i64 va, .bool vb, .bool ov]] w fun e w' => RsAt w (D) (lo) (0) e w' := by
  obtain ⟨V, hV, hB, hD, hs⟩ := dm_ex w a cap C loops 2 (x : Nat) y ua va ub vb ov
  have HMY := hid_of (dm_may hB hC hl hm)
  have HPL := hid_of (dm_planar hB hC hl hm hp)
  have hl16 : C.length ≤ 16 := may_len hm
  have HCA : Hid (∀ W, Below V.heap.size V W → Calls Try.prog 34 #[.agg #[.slice a C.length cap, .int .i64 loops], .int .i64 (x : Nat)] W fun e w' => e = .returned (.bool true) ∧ Below W.heap.size W w') := fun W hW => by
    obtain ⟨b, off, e6, hb, hC2⟩ := dm_cross hB hC hl (by omega) hW
    subst e6
    have h := curlAt_any b off cap C loops x W hx hb hC2
    rw [hc] at h
    exact h
  have HTO : Hid (∀ (W : World) (bG cG : Nat), Below V.heap.size V W → GonAt W bG [x] → Calls Try.prog 36 #[.agg #[.slice a C.length cap, .int .i64 loops], .slice (some ⟨bG, 0, none⟩) 1 cG] W fun e w' => ∃ a2 c2, e = .returned (.agg #[.slice a2 D.length c2, .int .i64 lo]) ∧ w'.ownsRow W.heap.size 71 5 (.slice a2 D.length c2) D.length (crossCells D) ∧ Below W.heap.size W w') := fun W bG cG hW hg => by
    have h := takenOut_any a cap C loops bG cG [x] W hm (by omega) (by simp) (by simp; omega) hg (dm_crs hB hC hl hW)
    rw [hDD, hlo] at h
    refine h.mono fun e w' hh => ?_
    obtain ⟨v, h1, h2, h3⟩ := hh
    obtain ⟨a2, c2, rfl⟩ := own_capS h2
    exact ⟨a2, c2, h1, h2, h3⟩
  have c0 := hD.cells
  have HV := hid_of hV
  have HB := hid_of hB
  have HD := hid_of hD
  clear hV hB hD hC hm hp hl
  go_enter Try.func11, Try.ntmps11
  go_upto_region 1 with (fail)
  rw [HV.out]
  go_upto_region 3 with (first
    | (go_at_call 31; refine (HMY.out _ (Below.refl _ _)).mono ?_; rintro e9 w3 ⟨rfl, hb3⟩
       have H3 := hid_of hb3
       clear hb3 c0
       have c0 := (HD.out.on H3.out).cells
       have HQw3 := hid_of (HD.out.on H3.out).b2
       have HBw3 := hid_of (HB.out.trans (H3.out.mono (Nat.le_of_add_right_le hs)))
       skip)
    | (go_at_call 32; refine (HPL.out _ H3.out).mono ?_; rintro e9 w4 ⟨rfl, hb4⟩
       have H4 := hid_of (H3.out.trans (hb4.mono H3.out.size))
       clear hb4 c0
       have c0 := (HD.out.on H4.out).cells
       have HQw4 := hid_of (HD.out.on H4.out).b2
       have HBw4 := hid_of (HB.out.trans (H4.out.mono (Nat.le_of_add_right_le hs)))
       skip))
  have t0 : decide (((x : Nat) : Int) < 0) = false := decide_eq_false (by omega)
  have t1 : decide ((C.length : Int) ≤ ((x : Nat) : Int)) = false := decide_eq_false (by omega)
  have t2 : decide (C.length ≤ x) = false := decide_eq_false (by omega)
  go_upto_region 12 with (first
    | (go_at_call 34; refine (HCA.out _ H4.out).mono ?_; rintro e9 w5 ⟨rfl, hb5⟩
       have H5 := hid_of (H4.out.trans (hb5.mono H4.out.size))
       clear hb5 c0
       have c0 := (HD.out.on H5.out).cells
       have HQw5 := hid_of (HD.out.on H5.out).b2
       have HBw5 := hid_of (HB.out.trans (H5.out.mono (Nat.le_of_add_right_le hs)))
       skip))
  have HG8 : Hid (GonAt (w5.alloc (.cells #[.int .i64 (x : Nat)] 3)) w5.heap.size [x]) := ⟨by simp, fun i hi => by
    have hi' : i < 1 := hi
    obtain rfl : i = 0 := by omega
    exact block_cell (alloc_at rfl) rfl⟩
  have H8 : Hid (Below V.heap.size V (w5.alloc (.cells #[.int .i64 (x : Nat)] 3))) := H5.out.alloc H5.out.size _
  have h5s := H5.out.size
  go_wp2_with (first
    | (go_at_call 36; refine (HTO.out _ _ _ H8.out HG8.out).mono ?_; rintro e9 w6 ⟨a6, c6, rfl, ho6, hb6⟩
       have HO6 := hid_of (own_low (B' := V.heap.size) ho6 (by simp; omega))
       have H6 := hid_of (H8.out.trans (hb6.mono H8.out.size))
       clear hb6 ho6 c0
       have c0 := (HD.out.on H6.out).cells
       have HQw6 := hid_of (HD.out.on H6.out).b2
       have HBw6 := hid_of (HB.out.trans (H6.out.mono (Nat.le_of_add_right_le hs)))
       skip)
    | (go_at_call 35; refine (fewLoops_yes a6 D.length c6 lo _ hf).mono ?_; rintro e9 w7 ⟨rfl, hb7⟩
       have HO7 := hid_of (own_any HO6.out (grown_below hb7 none))
       have H7 := hid_of (H6.out.trans (hb7.mono H6.out.size))
       clear hb7 c0
       have c0 := (HD.out.on H7.out).cells
       have HQw7 := hid_of (HD.out.on H7.out).b2
       have HBw7 := hid_of (HB.out.trans (H7.out.mono (Nat.le_of_add_right_le hs)))
       skip))
  exact bodyPost_ret (res_do (set_block (set_block HQw7.out)) rfl rfl) rfl (RsAt.put (V := V) HO7.out hs HBw7.out)

set_option maxHeartbeats 8000000 in
set_option maxRecDepth 100000 in
theorem doMove_2d (a : Option Addr) (cap : Nat) (C : List Cr) (loops : Int) (y : Int) (x : Nat) (ua va : Int) (ub vb ov : Bool) (w : World) (hl : C.length ≤ maxLen) (hm : mayD C loops = true) (hp : planarB C = true) (hC : CrsW w w.heap.size (.slice a C.length cap) C) (hx : x < C.length) (hc : caB C x = true) (D : List Cr) (lo : Int) (hDD : reTo C [x] (numM (uniM C (nx C) [x]) (thG C [x] (uniM C (nx C) [x]) C.length 0)) C.length = D) (hlo : loops + (cntB (nfB (uniM C (nx C) [x]) (thG C [x] (uniM C (nx C) [x]) C.length 0)) (2 * C.length + 1) : Nat) = lo) (hf : 16 < lo) :
    Calls Try.prog 11 #[.agg #[.slice a C.length cap, .int .i64 loops], .agg #[.int .i64 2, .int .i64 (x : Nat), .int .i64 y, .int .i64 ua, .bool ub, .int .i64 va, .bool vb, .bool ov]] w fun e w' => RsAt w ([]) (0) (2) e w' := by
  obtain ⟨V, hV, hB, hD, hs⟩ := dm_ex w a cap C loops 2 (x : Nat) y ua va ub vb ov
  have HMY := hid_of (dm_may hB hC hl hm)
  have HPL := hid_of (dm_planar hB hC hl hm hp)
  have hl16 : C.length ≤ 16 := may_len hm
  have HCA : Hid (∀ W, Below V.heap.size V W → Calls Try.prog 34 #[.agg #[.slice a C.length cap, .int .i64 loops], .int .i64 (x : Nat)] W fun e w' => e = .returned (.bool true) ∧ Below W.heap.size W w') := fun W hW => by
    obtain ⟨b, off, e6, hb, hC2⟩ := dm_cross hB hC hl (by omega) hW
    subst e6
    have h := curlAt_any b off cap C loops x W hx hb hC2
    rw [hc] at h
    exact h
  have HTO : Hid (∀ (W : World) (bG cG : Nat), Below V.heap.size V W → GonAt W bG [x] → Calls Try.prog 36 #[.agg #[.slice a C.length cap, .int .i64 loops], .slice (some ⟨bG, 0, none⟩) 1 cG] W fun e w' => ∃ a2 c2, e = .returned (.agg #[.slice a2 D.length c2, .int .i64 lo]) ∧ w'.ownsRow W.heap.size 71 5 (.slice a2 D.length c2) D.length (crossCells D) ∧ Below W.heap.size W w') := fun W bG cG hW hg => by
    have h := takenOut_any a cap C loops bG cG [x] W hm (by omega) (by simp) (by simp; omega) hg (dm_crs hB hC hl hW)
    rw [hDD, hlo] at h
    refine h.mono fun e w' hh => ?_
    obtain ⟨v, h1, h2, h3⟩ := hh
    obtain ⟨a2, c2, rfl⟩ := own_capS h2
    exact ⟨a2, c2, h1, h2, h3⟩
  have c0 := hD.cells
  have HV := hid_of hV
  have HB := hid_of hB
  have HD := hid_of hD
  clear hV hB hD hC hm hp hl
  go_enter Try.func11, Try.ntmps11
  go_upto_region 1 with (fail)
  rw [HV.out]
  go_upto_region 3 with (first
    | (go_at_call 31; refine (HMY.out _ (Below.refl _ _)).mono ?_; rintro e9 w3 ⟨rfl, hb3⟩
       have H3 := hid_of hb3
       clear hb3 c0
       have c0 := (HD.out.on H3.out).cells
       have HQw3 := hid_of (HD.out.on H3.out).b2
       have HBw3 := hid_of (HB.out.trans (H3.out.mono (Nat.le_of_add_right_le hs)))
       skip)
    | (go_at_call 32; refine (HPL.out _ H3.out).mono ?_; rintro e9 w4 ⟨rfl, hb4⟩
       have H4 := hid_of (H3.out.trans (hb4.mono H3.out.size))
       clear hb4 c0
       have c0 := (HD.out.on H4.out).cells
       have HQw4 := hid_of (HD.out.on H4.out).b2
       have HBw4 := hid_of (HB.out.trans (H4.out.mono (Nat.le_of_add_right_le hs)))
       skip))
  have t0 : decide (((x : Nat) : Int) < 0) = false := decide_eq_false (by omega)
  have t1 : decide ((C.length : Int) ≤ ((x : Nat) : Int)) = false := decide_eq_false (by omega)
  have t2 : decide (C.length ≤ x) = false := decide_eq_false (by omega)
  go_upto_region 12 with (first
    | (go_at_call 34; refine (HCA.out _ H4.out).mono ?_; rintro e9 w5 ⟨rfl, hb5⟩
       have H5 := hid_of (H4.out.trans (hb5.mono H4.out.size))
       clear hb5 c0
       have c0 := (HD.out.on H5.out).cells
       have HQw5 := hid_of (HD.out.on H5.out).b2
       have HBw5 := hid_of (HB.out.trans (H5.out.mono (Nat.le_of_add_right_le hs)))
       skip))
  have HG8 : Hid (GonAt (w5.alloc (.cells #[.int .i64 (x : Nat)] 3)) w5.heap.size [x]) := ⟨by simp, fun i hi => by
    have hi' : i < 1 := hi
    obtain rfl : i = 0 := by omega
    exact block_cell (alloc_at rfl) rfl⟩
  have H8 : Hid (Below V.heap.size V (w5.alloc (.cells #[.int .i64 (x : Nat)] 3))) := H5.out.alloc H5.out.size _
  have h5s := H5.out.size
  go_wp2_with (first
    | (go_at_call 36; refine (HTO.out _ _ _ H8.out HG8.out).mono ?_; rintro e9 w6 ⟨a6, c6, rfl, ho6, hb6⟩
       have HO6 := hid_of (own_low (B' := V.heap.size) ho6 (by simp; omega))
       have H6 := hid_of (H8.out.trans (hb6.mono H8.out.size))
       clear hb6 ho6 c0
       have c0 := (HD.out.on H6.out).cells
       have HQw6 := hid_of (HD.out.on H6.out).b2
       have HBw6 := hid_of (HB.out.trans (H6.out.mono (Nat.le_of_add_right_le hs)))
       skip)
    | (go_at_call 35; refine (fewLoops_no a6 D.length c6 lo _ hf).mono ?_; rintro e9 w7 ⟨rfl, hb7⟩
       have HO7 := hid_of (own_any HO6.out (grown_below hb7 none))
       have H7 := hid_of (H6.out.trans (hb7.mono H6.out.size))
       clear hb7 c0
       have c0 := (HD.out.on H7.out).cells
       have HQw7 := hid_of (HD.out.on H7.out).b2
       have HBw7 := hid_of (HB.out.trans (H7.out.mono (Nat.le_of_add_right_le hs)))
       skip))
  exact bodyPost_ret (res_do (set_block (set_block HQw7.out)) rfl rfl) rfl (RsAt.no (HBw7.out.grown (st2_grown _ _ _ _ _) HBw7.out.size (fun q hq => by have := Option.some.inj hq; omega)))

set_option maxHeartbeats 8000000 in
set_option maxRecDepth 100000 in
theorem doMove_4c (a : Option Addr) (cap : Nat) (C : List Cr) (loops : Int) (x y : Nat) (ua va : Int) (ub vb ov : Bool) (w : World) (hl : C.length ≤ maxLen) (hm : mayD C loops = true) (hp : planarB C = true) (hC : CrsW w w.heap.size (.slice a C.length cap) C) (hx : x < C.length) (hy : y < C.length) (hxy : x ≠ y) (hc : (facesM C).any (jlR C x y) = false) :
    Calls Try.prog 11 #[.agg #[.slice a C.length cap, .int .i64 loops], .agg #[.int .i64 4, .int .i64 (x : Nat), .int .i64 (y : Nat), .int .i64 ua, .bool ub, .int .i64 va, .bool vb, .bool ov]] w fun e w' => RsAt w ([]) (0) (8) e w' := by
  obtain ⟨V, hV, hB, hD, hs⟩ := dm_ex w a cap C loops 4 (x : Nat) (y : Nat) ua va ub vb ov
  have HMY := hid_of (dm_may hB hC hl hm)
  have HPL := hid_of (dm_planar hB hC hl hm hp)
  have hl16 : C.length ≤ 16 := may_len hm
  have HPB : Hid (∀ W, Below V.heap.size V W → Calls Try.prog 38 #[.agg #[.slice a C.length cap, .int .i64 loops], .int .i64 (x : Nat), .int .i64 (y : Nat)] W fun e w' => e = .returned (.bool false) ∧ Below W.heap.size W w') := fun W hW => by
    obtain ⟨b, off, e6, hb, hC2⟩ := dm_cross hB hC hl (by omega) hW
    subst e6
    have h := pullable_any b off cap C loops x y W hm hb hC2
    rw [hc] at h
    exact h
  have c0 := hD.cells
  have HV := hid_of hV
  have HB := hid_of hB
  have HD := hid_of hD
  clear hV hB hD hC hm hp hl
  go_enter Try.func11, Try.ntmps11
  go_upto_region 1 with (fail)
  rw [HV.out]
  go_upto_region 3 with (first
    | (go_at_call 31; refine (HMY.out _ (Below.refl _ _)).mono ?_; rintro e9 w3 ⟨rfl, hb3⟩
       have H3 := hid_of hb3
       clear hb3 c0
       have c0 := (HD.out.on H3.out).cells
       have HQw3 := hid_of (HD.out.on H3.out).b2
       have HBw3 := hid_of (HB.out.trans (H3.out.mono (Nat.le_of_add_right_le hs)))
       skip)
    | (go_at_call 32; refine (HPL.out _ H3.out).mono ?_; rintro e9 w4 ⟨rfl, hb4⟩
       have H4 := hid_of (H3.out.trans (hb4.mono H3.out.size))
       clear hb4 c0
       have c0 := (HD.out.on H4.out).cells
       have HQw4 := hid_of (HD.out.on H4.out).b2
       have HBw4 := hid_of (HB.out.trans (H4.out.mono (Nat.le_of_add_right_le hs)))
       skip))
  have t0 : decide (((x : Nat) : Int) < 0) = false := decide_eq_false (by omega)
  have t1 : decide ((C.length : Int) ≤ ((x : Nat) : Int)) = false := decide_eq_false (by omega)
  have t2 : decide (C.length ≤ x) = false := decide_eq_false (by omega)
  have t3 : decide (((y : Nat) : Int) < 0) = false := decide_eq_false (by omega)
  have t4 : decide ((C.length : Int) ≤ ((y : Nat) : Int)) = false := decide_eq_false (by omega)
  have t5 : decide (C.length ≤ y) = false := decide_eq_false (by omega)
  have t6 : ((x : Int) == (y : Int)) = false := beq_eq_false_iff_ne.2 (by omega)
  have t7 : (x == y) = false := beq_eq_false_iff_ne.2 hxy
  go_wp2_with (first
    | (go_at_call 38; refine (HPB.out _ H4.out).mono ?_; rintro e9 w5 ⟨rfl, hb5⟩
       have H5 := hid_of (H4.out.trans (hb5.mono H4.out.size))
       clear hb5 c0
       have c0 := (HD.out.on H5.out).cells
       have HQw5 := hid_of (HD.out.on H5.out).b2
       have HBw5 := hid_of (HB.out.trans (H5.out.mono (Nat.le_of_add_right_le hs)))
       skip))
  exact bodyPost_ret (res_do (set_block (set_block HQw5.out)) rfl rfl) rfl (RsAt.no (HBw5.out.grown (st2_grown _ _ _ _ _) HBw5.out.size (fun q hq => by have := Option.some.inj hq; omega)))

set_option maxHeartbeats 8000000 in
set_option maxRecDepth 100000 in
theorem doMove_4e (a : Option Addr) (cap : Nat) (C : List Cr) (loops : Int) (x y : Nat) (ua va : Int) (ub vb ov : Bool) (w : World) (hl : C.length ≤ maxLen) (hm : mayD C loops = true) (hp : planarB C = true) (hC : CrsW w w.heap.size (.slice a C.length cap) C) (hx : x < C.length) (hy : y < C.length) (hxy : x ≠ y) (hc : (facesM C).any (jlR C x y) = true) (D : List Cr) (lo : Int) (hDD : reTo C [x, y] (numM (uniM C (nx C) [x, y]) (thG C [x, y] (uniM C (nx C) [x, y]) C.length 0)) C.length = D) (hlo : loops + (cntB (nfB (uniM C (nx C) [x, y]) (thG C [x, y] (uniM C (nx C) [x, y]) C.length 0)) (2 * C.length + 1) : Nat) = lo) (hf : lo ≤ 16) :
    Calls Try.prog 11 #[.agg #[.slice a C.length cap, .int .i64 loops], .agg #[.int .i64 4, .int .i64 (x : Nat), .int .i64 (y : Nat), .int .i64 ua, .bool ub, .int .i64 va, .bool vb, .bool ov]] w fun e w' => RsAt w (D) (lo) (0) e w' := by
  obtain ⟨V, hV, hB, hD, hs⟩ := dm_ex w a cap C loops 4 (x : Nat) (y : Nat) ua va ub vb ov
  have HMY := hid_of (dm_may hB hC hl hm)
  have HPL := hid_of (dm_planar hB hC hl hm hp)
  have hl16 : C.length ≤ 16 := may_len hm
  have HPB : Hid (∀ W, Below V.heap.size V W → Calls Try.prog 38 #[.agg #[.slice a C.length cap, .int .i64 loops], .int .i64 (x : Nat), .int .i64 (y : Nat)] W fun e w' => e = .returned (.bool true) ∧ Below W.heap.size W w') := fun W hW => by
    obtain ⟨b, off, e6, hb, hC2⟩ := dm_cross hB hC hl (by omega) hW
    subst e6
    have h := pullable_any b off cap C loops x y W hm hb hC2
    rw [hc] at h
    exact h
  have HTO : Hid (∀ (W : World) (bG cG : Nat), Below V.heap.size V W → GonAt W bG [x, y] → Calls Try.prog 36 #[.agg #[.slice a C.length cap, .int .i64 loops], .slice (some ⟨bG, 0, none⟩) 2 cG] W fun e w' => ∃ a2 c2, e = .returned (.agg #[.slice a2 D.length c2, .int .i64 lo]) ∧ w'.ownsRow W.heap.size 71 5 (.slice a2 D.length c2) D.length (crossCells D) ∧ Below W.heap.size W w') := fun W bG cG hW hg => by
    have h := takenOut_any a cap C loops bG cG [x, y] W hm (by omega) (by simp) (by simp; omega) hg (dm_crs hB hC hl hW)
    rw [hDD, hlo] at h
    refine h.mono fun e w' hh => ?_
    obtain ⟨v, h1, h2, h3⟩ := hh
    obtain ⟨a2, c2, rfl⟩ := own_capS h2
    exact ⟨a2, c2, h1, h2, h3⟩
  have c0 := hD.cells
  have HV := hid_of hV
  have HB := hid_of hB
  have HD := hid_of hD
  clear hV hB hD hC hm hp hl
  go_enter Try.func11, Try.ntmps11
  go_upto_region 1 with (fail)
  rw [HV.out]
  go_upto_region 3 with (first
    | (go_at_call 31; refine (HMY.out _ (Below.refl _ _)).mono ?_; rintro e9 w3 ⟨rfl, hb3⟩
       have H3 := hid_of hb3
       clear hb3 c0
       have c0 := (HD.out.on H3.out).cells
       have HQw3 := hid_of (HD.out.on H3.out).b2
       have HBw3 := hid_of (HB.out.trans (H3.out.mono (Nat.le_of_add_right_le hs)))
       skip)
    | (go_at_call 32; refine (HPL.out _ H3.out).mono ?_; rintro e9 w4 ⟨rfl, hb4⟩
       have H4 := hid_of (H3.out.trans (hb4.mono H3.out.size))
       clear hb4 c0
       have c0 := (HD.out.on H4.out).cells
       have HQw4 := hid_of (HD.out.on H4.out).b2
       have HBw4 := hid_of (HB.out.trans (H4.out.mono (Nat.le_of_add_right_le hs)))
       skip))
  have t0 : decide (((x : Nat) : Int) < 0) = false := decide_eq_false (by omega)
  have t1 : decide ((C.length : Int) ≤ ((x : Nat) : Int)) = false := decide_eq_false (by omega)
  have t2 : decide (C.length ≤ x) = false := decide_eq_false (by omega)
  have t3 : decide (((y : Nat) : Int) < 0) = false := decide_eq_false (by omega)
  have t4 : decide ((C.length : Int) ≤ ((y : Nat) : Int)) = false := decide_eq_false (by omega)
  have t5 : decide (C.length ≤ y) = false := decide_eq_false (by omega)
  have t6 : ((x : Int) == (y : Int)) = false := beq_eq_false_iff_ne.2 (by omega)
  have t7 : (x == y) = false := beq_eq_false_iff_ne.2 hxy
  go_upto_region 20 with (first
    | (go_at_call 38; refine (HPB.out _ H4.out).mono ?_; rintro e9 w5 ⟨rfl, hb5⟩
       have H5 := hid_of (H4.out.trans (hb5.mono H4.out.size))
       clear hb5 c0
       have c0 := (HD.out.on H5.out).cells
       have HQw5 := hid_of (HD.out.on H5.out).b2
       have HBw5 := hid_of (HB.out.trans (H5.out.mono (Nat.le_of_add_right_le hs)))
       skip))
  have HG8 : Hid (GonAt (w5.alloc (.cells #[.int .i64 (x : Nat), .int .i64 (y : Nat)] 3)) w5.heap.size [x, y]) := ⟨by simp, fun i hi => by
    have hi' : i < 2 := hi
    rcases (by omega : i = 0 ∨ i = 1) with rfl | rfl
    · exact block_cell (alloc_at rfl) rfl
    · exact block_cell (alloc_at rfl) rfl⟩
  have H8 : Hid (Below V.heap.size V (w5.alloc (.cells #[.int .i64 (x : Nat), .int .i64 (y : Nat)] 3))) := H5.out.alloc H5.out.size _
  have h5s := H5.out.size
  go_wp2_with (first
    | (go_at_call 36; refine (HTO.out _ _ _ H8.out HG8.out).mono ?_; rintro e9 w6 ⟨a6, c6, rfl, ho6, hb6⟩
       have HO6 := hid_of (own_low (B' := V.heap.size) ho6 (by simp; omega))
       have H6 := hid_of (H8.out.trans (hb6.mono H8.out.size))
       clear hb6 ho6 c0
       have c0 := (HD.out.on H6.out).cells
       have HQw6 := hid_of (HD.out.on H6.out).b2
       have HBw6 := hid_of (HB.out.trans (H6.out.mono (Nat.le_of_add_right_le hs)))
       skip)
    | (go_at_call 35; refine (fewLoops_yes a6 D.length c6 lo _ hf).mono ?_; rintro e9 w7 ⟨rfl, hb7⟩
       have HO7 := hid_of (own_any HO6.out (grown_below hb7 none))
       have H7 := hid_of (H6.out.trans (hb7.mono H6.out.size))
       clear hb7 c0
       have c0 := (HD.out.on H7.out).cells
       have HQw7 := hid_of (HD.out.on H7.out).b2
       have HBw7 := hid_of (HB.out.trans (H7.out.mono (Nat.le_of_add_right_le hs)))
       skip))
  exact bodyPost_ret (res_do (set_block (set_block HQw7.out)) rfl rfl) rfl (RsAt.put (V := V) HO7.out hs HBw7.out)

set_option maxHeartbeats 8000000 in
set_option maxRecDepth 100000 in
theorem doMove_4d (a : Option Addr) (cap : Nat) (C : List Cr) (loops : Int) (x y : Nat) (ua va : Int) (ub vb ov : Bool) (w : World) (hl : C.length ≤ maxLen) (hm : mayD C loops = true) (hp : planarB C = true) (hC : CrsW w w.heap.size (.slice a C.length cap) C) (hx : x < C.length) (hy : y < C.length) (hxy : x ≠ y) (hc : (facesM C).any (jlR C x y) = true) (D : List Cr) (lo : Int) (hDD : reTo C [x, y] (numM (uniM C (nx C) [x, y]) (thG C [x, y] (uniM C (nx C) [x, y]) C.length 0)) C.length = D) (hlo : loops + (cntB (nfB (uniM C (nx C) [x, y]) (thG C [x, y] (uniM C (nx C) [x, y]) C.length 0)) (2 * C.length + 1) : Nat) = lo) (hf : 16 < lo) :
    Calls Try.prog 11 #[.agg #[.slice a C.length cap, .int .i64 loops], .agg #[.int .i64 4, .int .i64 (x : Nat), .int .i64 (y : Nat), .int .i64 ua, .bool ub, .int .i64 va, .bool vb, .bool ov]] w fun e w' => RsAt w ([]) (0) (2) e w' := by
  obtain ⟨V, hV, hB, hD, hs⟩ := dm_ex w a cap C loops 4 (x : Nat) (y : Nat) ua va ub vb ov
  have HMY := hid_of (dm_may hB hC hl hm)
  have HPL := hid_of (dm_planar hB hC hl hm hp)
  have hl16 : C.length ≤ 16 := may_len hm
  have HPB : Hid (∀ W, Below V.heap.size V W → Calls Try.prog 38 #[.agg #[.slice a C.length cap, .int .i64 loops], .int .i64 (x : Nat), .int .i64 (y : Nat)] W fun e w' => e = .returned (.bool true) ∧ Below W.heap.size W w') := fun W hW => by
    obtain ⟨b, off, e6, hb, hC2⟩ := dm_cross hB hC hl (by omega) hW
    subst e6
    have h := pullable_any b off cap C loops x y W hm hb hC2
    rw [hc] at h
    exact h
  have HTO : Hid (∀ (W : World) (bG cG : Nat), Below V.heap.size V W → GonAt W bG [x, y] → Calls Try.prog 36 #[.agg #[.slice a C.length cap, .int .i64 loops], .slice (some ⟨bG, 0, none⟩) 2 cG] W fun e w' => ∃ a2 c2, e = .returned (.agg #[.slice a2 D.length c2, .int .i64 lo]) ∧ w'.ownsRow W.heap.size 71 5 (.slice a2 D.length c2) D.length (crossCells D) ∧ Below W.heap.size W w') := fun W bG cG hW hg => by
    have h := takenOut_any a cap C loops bG cG [x, y] W hm (by omega) (by simp) (by simp; omega) hg (dm_crs hB hC hl hW)
    rw [hDD, hlo] at h
    refine h.mono fun e w' hh => ?_
    obtain ⟨v, h1, h2, h3⟩ := hh
    obtain ⟨a2, c2, rfl⟩ := own_capS h2
    exact ⟨a2, c2, h1, h2, h3⟩
  have c0 := hD.cells
  have HV := hid_of hV
  have HB := hid_of hB
  have HD := hid_of hD
  clear hV hB hD hC hm hp hl
  go_enter Try.func11, Try.ntmps11
  go_upto_region 1 with (fail)
  rw [HV.out]
  go_upto_region 3 with (first
    | (go_at_call 31; refine (HMY.out _ (Below.refl _ _)).mono ?_; rintro e9 w3 ⟨rfl, hb3⟩
       have H3 := hid_of hb3
       clear hb3 c0
       have c0 := (HD.out.on H3.out).cells
       have HQw3 := hid_of (HD.out.on H3.out).b2
       have HBw3 := hid_of (HB.out.trans (H3.out.mono (Nat.le_of_add_right_le hs)))
       skip)
    | (go_at_call 32; refine (HPL.out _ H3.out).mono ?_; rintro e9 w4 ⟨rfl, hb4⟩
       have H4 := hid_of (H3.out.trans (hb4.mono H3.out.size))
       clear hb4 c0
       have c0 := (HD.out.on H4.out).cells
       have HQw4 := hid_of (HD.out.on H4.out).b2
       have HBw4 := hid_of (HB.out.trans (H4.out.mono (Nat.le_of_add_right_le hs)))
       skip))
  have t0 : decide (((x : Nat) : Int) < 0) = false := decide_eq_false (by omega)
  have t1 : decide ((C.length : Int) ≤ ((x : Nat) : Int)) = false := decide_eq_false (by omega)
  have t2 : decide (C.length ≤ x) = false := decide_eq_false (by omega)
  have t3 : decide (((y : Nat) : Int) < 0) = false := decide_eq_false (by omega)
  have t4 : decide ((C.length : Int) ≤ ((y : Nat) : Int)) = false := decide_eq_false (by omega)
  have t5 : decide (C.length ≤ y) = false := decide_eq_false (by omega)
  have t6 : ((x : Int) == (y : Int)) = false := beq_eq_false_iff_ne.2 (by omega)
  have t7 : (x == y) = false := beq_eq_false_iff_ne.2 hxy
  go_upto_region 20 with (first
    | (go_at_call 38; refine (HPB.out _ H4.out).mono ?_; rintro e9 w5 ⟨rfl, hb5⟩
       have H5 := hid_of (H4.out.trans (hb5.mono H4.out.size))
       clear hb5 c0
       have c0 := (HD.out.on H5.out).cells
       have HQw5 := hid_of (HD.out.on H5.out).b2
       have HBw5 := hid_of (HB.out.trans (H5.out.mono (Nat.le_of_add_right_le hs)))
       skip))
  have HG8 : Hid (GonAt (w5.alloc (.cells #[.int .i64 (x : Nat), .int .i64 (y : Nat)] 3)) w5.heap.size [x, y]) := ⟨by simp, fun i hi => by
    have hi' : i < 2 := hi
    rcases (by omega : i = 0 ∨ i = 1) with rfl | rfl
    · exact block_cell (alloc_at rfl) rfl
    · exact block_cell (alloc_at rfl) rfl⟩
  have H8 : Hid (Below V.heap.size V (w5.alloc (.cells #[.int .i64 (x : Nat), .int .i64 (y : Nat)] 3))) := H5.out.alloc H5.out.size _
  have h5s := H5.out.size
  go_wp2_with (first
    | (go_at_call 36; refine (HTO.out _ _ _ H8.out HG8.out).mono ?_; rintro e9 w6 ⟨a6, c6, rfl, ho6, hb6⟩
       have HO6 := hid_of (own_low (B' := V.heap.size) ho6 (by simp; omega))
       have H6 := hid_of (H8.out.trans (hb6.mono H8.out.size))
       clear hb6 ho6 c0
       have c0 := (HD.out.on H6.out).cells
       have HQw6 := hid_of (HD.out.on H6.out).b2
       have HBw6 := hid_of (HB.out.trans (H6.out.mono (Nat.le_of_add_right_le hs)))
       skip)
    | (go_at_call 35; refine (fewLoops_no a6 D.length c6 lo _ hf).mono ?_; rintro e9 w7 ⟨rfl, hb7⟩
       have HO7 := hid_of (own_any HO6.out (grown_below hb7 none))
       have H7 := hid_of (H6.out.trans (hb7.mono H6.out.size))
       clear hb7 c0
       have c0 := (HD.out.on H7.out).cells
       have HQw7 := hid_of (HD.out.on H7.out).b2
       have HBw7 := hid_of (HB.out.trans (H7.out.mono (Nat.le_of_add_right_le hs)))
       skip))
  exact bodyPost_ret (res_do (set_block (set_block HQw7.out)) rfl rfl) rfl (RsAt.no (HBw7.out.grown (st2_grown _ _ _ _ _) HBw7.out.size (fun q hq => by have := Option.some.inj hq; omega)))

end Go.Proofs.Ytagaajlbkfkaiaa

/- Burau's tables: the walk of closure.block. -/
import Derived.Test.YtfceigcjonlhkaaBT2
import Derived.Test.YtfceigcjonlhkaaG7
import Derived.Deep.Cut
namespace Go.Proofs.Ytfceigcjonlhkaa.Poly
open Go.RowKit Go.Maps

theorem lit_put {w : World} {b n : Nat} {D : DataW Unit} {k c : Int} (h : w.ownsMap Try.prog 3 (plainElem Try.prog 3) b n D) (hn : n < 1000) (hk : -1000 ≤ k ∧ k ≤ 1000) (hc : -1000 ≤ c ∧ c ≤ 1000) :
    ∃ w', (Instr.mapUpdate 180 (.map (some b)) (.int .i64 k) (.int .i64 c)).run Try.prog w = .ok () w' ∧ w'.ownsMap Try.prog 3 (plainElem Try.prog 3) b (n + 1) (D.put (.int .i64 k) (.lit (.int .i64 c))) ∧ w.grownBy w' (some b) := by
  obtain ⟨w2, h1, h2, h3⟩ := h.update law3 Try.underlying180 (by unfold maxLen; omega) (keyOf_int_mk Try.underlying3 (WalkArith.wf_i64 (by omega : -9223372036854775808 ≤ k ∧ k ≤ 9223372036854775807))) (plainElem_int Try.underlying3 (WalkArith.wf_i64 (by omega : -9223372036854775808 ≤ c ∧ c ≤ 9223372036854775807)))
  exact ⟨w2, h1, h2, h3⟩
theorem makeN (w : World) : (Instr.makeMap 180 none).run Try.prog w = .ok (.map (some w.heap.size)) (w.alloc (.map #[] 0)) := rfl
/-- A letter's map under way. -/
def LiD (D : DataW Unit) (ql : List (Int × Int)) : Prop := KeysIn D 1 ∧ ∀ y, coefOf D y = coefL ql y
theorem liD_nil : LiD (.map []) [] := ⟨fun x hx => (by cases hx), fun y => coefOf_none rfl⟩
theorem LiD.put {D : DataW Unit} {ql : List (Int × Int)} (h : LiD D ql) (hD : IsMap D) (k c : Int) (hk : -1 ≤ k ∧ k ≤ 1) (h0 : coefL ql k = 0) : LiD (D.put (.int .i64 k) (.lit (.int .i64 c))) ((k, c) :: ql) := by
  refine ⟨keysIn_put h.1 hk.1 hk.2 _, fun y => ?_⟩
  rw [coefOf_put hD]
  show _ = (if k = y then c else 0) + coefL ql y
  by_cases e : k = y
  · rw [if_pos e, if_pos e, ← e, h0]; omega
  · rw [if_neg e, if_neg e, h.2]; omega
/-- The maps of a letter. -/
structure BlV (w : World) (B a b c d : Nat) (x : Int) : Prop where
  a : LiV w B a (if 0 < x then [(0, 1), (1, -1)] else [])
  b : LiV w B b (if 0 < x then [(1, 1)] else [(0, 1)])
  c : LiV w B c (if 0 < x then [(0, 1)] else [(-1, 1)])
  d : LiV w B d (if 0 < x then [] else [(-1, -1), (0, 1)])
theorem coefL_swap (s t : Int × Int) (y : Int) : coefL [s, t] y = coefL [t, s] y := by
  simp only [coefL]
  omega

theorem grown_newP {a b c : World} {g : Nat} (h : a.grownBy b none) (k : b.grownBy c (some g)) (hg : a.heap.size ≤ g) : a.grownBy c none :=
  ⟨k.os.trans h.os, k.tape.trans h.tape, k.output.trans h.output, Nat.le_trans h.size k.size, fun j hj _ => (k.block j (Nat.lt_of_lt_of_le hj h.size) (fun e => by have := Option.some.inj e; omega)).trans (h.block j hj (by simp))⟩
theorem grown_noneP {a b c : World} (h : a.grownBy b none) (k : b.grownBy c none) : a.grownBy c none :=
  ⟨k.os.trans h.os, k.tape.trans h.tape, k.output.trans h.output, Nat.le_trans h.size k.size, fun j hj _ => (k.block j (Nat.lt_of_lt_of_le hj h.size) (by simp)).trans (h.block j hj (by simp))⟩
set_option maxHeartbeats 4000000 in
set_option maxRecDepth 100000 in
theorem block_any (x : Int) (w : World) :
    Calls Try.prog 127 #[.int .i64 x] w fun e w' => ∃ a b c d, e = .returned (.agg #[.map (some a), .map (some b), .map (some c), .map (some d)]) ∧ BlV w' w'.heap.size a b c d x ∧ Below w.heap.size w w' := by
  have hmk := makeN
  obtain ⟨Y, hY⟩ : ∃ Y, Y = w.alloc (.cells #[.map none, .map none, .map none, .map none] 182) := ⟨_, rfl⟩
  have HY := hid_mkP hY
  have HBY : Hid (Below w.heap.size w Y) := (by rw [hY]; exact (Below.refl _ _).alloc (Nat.le_refl _) _ : Below w.heap.size w Y)
  have HT : Hid (Y.heap[w.heap.size]? = some (.cells #[.map none, .map none, .map none, .map none] 182 (0, 0))) := (by rw [hY]; exact Array.getElem?_push_size : Y.heap[w.heap.size]? = some (.cells #[.map none, .map none, .map none, .map none] 182 (0, 0)))
  have hsY : w.heap.size < Y.heap.size := by rw [hY]; simp
  clear hY
  by_cases hx : 0 < x
  · have oa0 : (Y.alloc (.map #[] 0)).ownsMap Try.prog 3 (plainElem Try.prog 3) Y.heap.size 0 (.map [] : DataW Unit) := World.ownsMap_made _ _ _ _
    have la0 := liD_nil
    have ka0 : Y.grownBy (Y.alloc (.map #[] 0)) none := World.grownBy_alloc _ _ _
    obtain ⟨wa1, ra1, oa1, ga1⟩ := lit_put (k := 0) (c := 1) oa0 (by omega) (by omega) (by omega)
    have la1 := la0.put oa0.isMap (0) (1) (by omega) (by decide)
    have ka1 : Y.grownBy wa1 none := grown_newP ka0 ga1 (Nat.le_refl _)
    obtain ⟨wa2, ra2, oa2, ga2⟩ := lit_put (k := 1) (c := -1) oa1 (by omega) (by omega) (by omega)
    have la2 := la1.put oa1.isMap (1) (-1) (by omega) (by decide)
    have ka2 : Y.grownBy wa2 none := grown_newP ka1 ga2 (Nat.le_refl _)
    have ob0 : (wa2.alloc (.map #[] 0)).ownsMap Try.prog 3 (plainElem Try.prog 3) wa2.heap.size 0 (.map [] : DataW Unit) := World.ownsMap_made _ _ _ _
    have lb0 := liD_nil
    have kb0 : wa2.grownBy (wa2.alloc (.map #[] 0)) none := World.grownBy_alloc _ _ _
    obtain ⟨wb1, rb1, ob1, gb1⟩ := lit_put (k := 1) (c := 1) ob0 (by omega) (by omega) (by omega)
    have lb1 := lb0.put ob0.isMap (1) (1) (by omega) (by decide)
    have kb1 : wa2.grownBy wb1 none := grown_newP kb0 gb1 (Nat.le_refl _)
    have oc0 : (wb1.alloc (.map #[] 0)).ownsMap Try.prog 3 (plainElem Try.prog 3) wb1.heap.size 0 (.map [] : DataW Unit) := World.ownsMap_made _ _ _ _
    have lc0 := liD_nil
    have kc0 : wb1.grownBy (wb1.alloc (.map #[] 0)) none := World.grownBy_alloc _ _ _
    obtain ⟨wc1, rc1, oc1, gc1⟩ := lit_put (k := 0) (c := 1) oc0 (by omega) (by omega) (by omega)
    have lc1 := lc0.put oc0.isMap (0) (1) (by omega) (by decide)
    have kc1 : wb1.grownBy wc1 none := grown_newP kc0 gc1 (Nat.le_refl _)
    have od0 : (wc1.alloc (.map #[] 0)).ownsMap Try.prog 3 (plainElem Try.prog 3) wc1.heap.size 0 (.map [] : DataW Unit) := World.ownsMap_made _ _ _ _
    have ld0 := liD_nil
    have kd0 : wc1.grownBy (wc1.alloc (.map #[] 0)) none := World.grownBy_alloc _ _ _
    obtain ⟨wd0, hdw⟩ : ∃ z, z = (wc1.alloc (.map #[] 0)) := ⟨_, rfl⟩
    rw [← hdw] at od0 kd0
    have Hdw := hid_mkP hdw
    clear hdw
    have HOa := hid_mkP oa2
    have HGa := hid_mkP ka2
    have HLa := hid_mkP la2
    have HOb := hid_mkP ob1
    have HGb := hid_mkP kb1
    have HLb := hid_mkP lb1
    have HOc := hid_mkP oc1
    have HGc := hid_mkP kc1
    have HLc := hid_mkP lc1
    have HOd := hid_mkP od0
    have HGd := hid_mkP kd0
    have HLd := hid_mkP ld0
    have HGG := hid_mkP (grown_noneP (grown_noneP (grown_noneP HGa.out HGb.out) HGc.out) HGd.out)
    have HT2 : Hid (wd0.heap[w.heap.size]? = some (.cells #[.map none, .map none, .map none, .map none] 182 (0, 0))) := (HGG.out.block _ hsY (by simp)).trans HT.out
    have c0 : wd0.cell? ⟨w.heap.size, 0, none⟩ = some (.map none) := block_cell HT2.out rfl
    have f0 : wd0.frozen? ⟨w.heap.size, 0, none⟩ = false := block_frozen HT2.out
    have c1 : wd0.cell? ⟨w.heap.size, 1, none⟩ = some (.map none) := block_cell HT2.out rfl
    have f1 : wd0.frozen? ⟨w.heap.size, 1, none⟩ = false := block_frozen HT2.out
    have c2 : wd0.cell? ⟨w.heap.size, 2, none⟩ = some (.map none) := block_cell HT2.out rfl
    have f2 : wd0.frozen? ⟨w.heap.size, 2, none⟩ = false := block_frozen HT2.out
    have c3 : wd0.cell? ⟨w.heap.size, 3, none⟩ = some (.map none) := block_cell HT2.out rfl
    have f3 : wd0.frozen? ⟨w.heap.size, 3, none⟩ = false := block_frozen HT2.out
    have lf := (Array.getElem?_eq_some_iff.1 HT2.out).1
    clear oa2 la2 ka2
    clear ob1 lb1 kb1
    clear oc1 lc1 kc1
    clear od0 ld0 kd0
    have hwd := Hdw.out.symm
    go_enter Try.func127, Try.ntmps127
    go_upto_region 2 with (fail)
    rw [← HY.out]
    go_wp2
    have hz0 := HGa.out.size
    have hz1 := HGb.out.size
    have hz2 := HGc.out.size
    have hz3 := HGd.out.size
    obtain ⟨Z, hZ⟩ : ∃ Z, Z = (((wd0.setCell ⟨w.heap.size, 0, none⟩ (.map (some Y.heap.size))).setCell ⟨w.heap.size, 1, none⟩ (.map (some wa2.heap.size))).setCell ⟨w.heap.size, 2, none⟩ (.map (some wb1.heap.size))).setCell ⟨w.heap.size, 3, none⟩ (.map (some wc1.heap.size)) := ⟨_, rfl⟩
    have hzb : Z.heap[w.heap.size]? = some (.cells #[.map (some Y.heap.size), .map (some wa2.heap.size), .map (some wb1.heap.size), .map (some wc1.heap.size)] 182 (0, 0)) := by rw [hZ, set_block (set_block (set_block (set_block HT2.out)))]; rfl
    have hgZ : wd0.grownBy Z (some w.heap.size) := by rw [hZ]; exact grown_trans (grown_trans (grown_trans (set_grown _ _ _ _) (set_grown _ _ _ _)) (set_grown _ _ _ _)) (set_grown _ _ _ _)
    have hzz := hgZ.size
    rw [← hZ]
    have x0 : Z.cell? ⟨w.heap.size, 0, none⟩ = some (.map (some Y.heap.size)) := block_cell hzb rfl
    have x1 : Z.cell? ⟨w.heap.size, 1, none⟩ = some (.map (some wa2.heap.size)) := block_cell hzb rfl
    have x2 : Z.cell? ⟨w.heap.size, 2, none⟩ = some (.map (some wb1.heap.size)) := block_cell hzb rfl
    have x3 : Z.cell? ⟨w.heap.size, 3, none⟩ = some (.map (some wc1.heap.size)) := block_cell hzb rfl
    have hb0 : Y.heap.size < Z.heap.size := by have h1 := (((HOa.out.kept HGb.out (by simp)).kept HGc.out (by simp)).kept HGd.out (by simp)).lt; omega
    have hk0 := ((((HOa.out.kept HGb.out (by simp)).kept HGc.out (by simp)).kept HGd.out (by simp)).kept hgZ (fun e => by have := Option.some.inj e; omega)).mono (show 2 ≤ 2 by decide)
    have hb1 : wa2.heap.size < Z.heap.size := by have h1 := ((HOb.out.kept HGc.out (by simp)).kept HGd.out (by simp)).lt; omega
    have hk1 := (((HOb.out.kept HGc.out (by simp)).kept HGd.out (by simp)).kept hgZ (fun e => by have := Option.some.inj e; omega)).mono (show 1 ≤ 2 by decide)
    have hb2 : wb1.heap.size < Z.heap.size := by have h1 := (HOc.out.kept HGd.out (by simp)).lt; omega
    have hk2 := ((HOc.out.kept HGd.out (by simp)).kept hgZ (fun e => by have := Option.some.inj e; omega)).mono (show 1 ≤ 2 by decide)
    have hb3 : wc1.heap.size < Z.heap.size := by have h1 := HOd.out.lt; omega
    have hk3 := (HOd.out.kept hgZ (fun e => by have := Option.some.inj e; omega)).mono (show 0 ≤ 2 by decide)
    refine bodyPost_ret (v := .agg #[.map (some Y.heap.size), .map (some wa2.heap.size), .map (some wb1.heap.size), .map (some wc1.heap.size)]) (by simp [results, Try.results127, go_sem, x0, x1, x2, x3]) rfl ⟨_, _, _, _, rfl, ⟨?_, ?_, ?_, ?_⟩, (HBY.out.grown HGG.out HBY.out.size (fun q hq => by cases hq)).grown hgZ (Nat.le_trans HBY.out.size HGG.out.size) (fun q hq => by have := Option.some.inj hq; omega)⟩
    · rw [if_pos hx]; exact ⟨hb0, _, hk0, HLa.out.1, (fun y => (HLa.out.2 y).trans (coefL_swap _ _ y))⟩
    · rw [if_pos hx]; exact ⟨hb1, _, hk1, HLb.out.1, HLb.out.2⟩
    · rw [if_pos hx]; exact ⟨hb2, _, hk2, HLc.out.1, HLc.out.2⟩
    · rw [if_pos hx]; exact ⟨hb3, _, hk3, HLd.out.1, HLd.out.2⟩
  · have oa0 : (Y.alloc (.map #[] 0)).ownsMap Try.prog 3 (plainElem Try.prog 3) Y.heap.size 0 (.map [] : DataW Unit) := World.ownsMap_made _ _ _ _
    have la0 := liD_nil
    have ka0 : Y.grownBy (Y.alloc (.map #[] 0)) none := World.grownBy_alloc _ _ _
    obtain ⟨wa0, haw⟩ : ∃ z, z = (Y.alloc (.map #[] 0)) := ⟨_, rfl⟩
    rw [← haw] at oa0 ka0
    have Haw := hid_mkP haw
    clear haw
    have ob0 : (wa0.alloc (.map #[] 0)).ownsMap Try.prog 3 (plainElem Try.prog 3) wa0.heap.size 0 (.map [] : DataW Unit) := World.ownsMap_made _ _ _ _
    have lb0 := liD_nil
    have kb0 : wa0.grownBy (wa0.alloc (.map #[] 0)) none := World.grownBy_alloc _ _ _
    obtain ⟨wb1, rb1, ob1, gb1⟩ := lit_put (k := 0) (c := 1) ob0 (by omega) (by omega) (by omega)
    have lb1 := lb0.put ob0.isMap (0) (1) (by omega) (by decide)
    have kb1 : wa0.grownBy wb1 none := grown_newP kb0 gb1 (Nat.le_refl _)
    have oc0 : (wb1.alloc (.map #[] 0)).ownsMap Try.prog 3 (plainElem Try.prog 3) wb1.heap.size 0 (.map [] : DataW Unit) := World.ownsMap_made _ _ _ _
    have lc0 := liD_nil
    have kc0 : wb1.grownBy (wb1.alloc (.map #[] 0)) none := World.grownBy_alloc _ _ _
    obtain ⟨wc1, rc1, oc1, gc1⟩ := lit_put (k := -1) (c := 1) oc0 (by omega) (by omega) (by omega)
    have lc1 := lc0.put oc0.isMap (-1) (1) (by omega) (by decide)
    have kc1 : wb1.grownBy wc1 none := grown_newP kc0 gc1 (Nat.le_refl _)
    have od0 : (wc1.alloc (.map #[] 0)).ownsMap Try.prog 3 (plainElem Try.prog 3) wc1.heap.size 0 (.map [] : DataW Unit) := World.ownsMap_made _ _ _ _
    have ld0 := liD_nil
    have kd0 : wc1.grownBy (wc1.alloc (.map #[] 0)) none := World.grownBy_alloc _ _ _
    obtain ⟨wd1, rd1, od1, gd1⟩ := lit_put (k := -1) (c := -1) od0 (by omega) (by omega) (by omega)
    have ld1 := ld0.put od0.isMap (-1) (-1) (by omega) (by decide)
    have kd1 : wc1.grownBy wd1 none := grown_newP kd0 gd1 (Nat.le_refl _)
    obtain ⟨wd2, rd2, od2, gd2⟩ := lit_put (k := 0) (c := 1) od1 (by omega) (by omega) (by omega)
    have ld2 := ld1.put od1.isMap (0) (1) (by omega) (by decide)
    have kd2 : wc1.grownBy wd2 none := grown_newP kd1 gd2 (Nat.le_refl _)
    have HOa := hid_mkP oa0
    have HGa := hid_mkP ka0
    have HLa := hid_mkP la0
    have HOb := hid_mkP ob1
    have HGb := hid_mkP kb1
    have HLb := hid_mkP lb1
    have HOc := hid_mkP oc1
    have HGc := hid_mkP kc1
    have HLc := hid_mkP lc1
    have HOd := hid_mkP od2
    have HGd := hid_mkP kd2
    have HLd := hid_mkP ld2
    have HGG := hid_mkP (grown_noneP (grown_noneP (grown_noneP HGa.out HGb.out) HGc.out) HGd.out)
    have HT2 : Hid (wd2.heap[w.heap.size]? = some (.cells #[.map none, .map none, .map none, .map none] 182 (0, 0))) := (HGG.out.block _ hsY (by simp)).trans HT.out
    have c0 : wd2.cell? ⟨w.heap.size, 0, none⟩ = some (.map none) := block_cell HT2.out rfl
    have f0 : wd2.frozen? ⟨w.heap.size, 0, none⟩ = false := block_frozen HT2.out
    have c1 : wd2.cell? ⟨w.heap.size, 1, none⟩ = some (.map none) := block_cell HT2.out rfl
    have f1 : wd2.frozen? ⟨w.heap.size, 1, none⟩ = false := block_frozen HT2.out
    have c2 : wd2.cell? ⟨w.heap.size, 2, none⟩ = some (.map none) := block_cell HT2.out rfl
    have f2 : wd2.frozen? ⟨w.heap.size, 2, none⟩ = false := block_frozen HT2.out
    have c3 : wd2.cell? ⟨w.heap.size, 3, none⟩ = some (.map none) := block_cell HT2.out rfl
    have f3 : wd2.frozen? ⟨w.heap.size, 3, none⟩ = false := block_frozen HT2.out
    have lf := (Array.getElem?_eq_some_iff.1 HT2.out).1
    clear oa0 la0 ka0
    clear ob1 lb1 kb1
    clear oc1 lc1 kc1
    clear od2 ld2 kd2
    have hwa := Haw.out.symm
    go_enter Try.func127, Try.ntmps127
    go_upto_region 3 with (fail)
    rw [← HY.out]
    go_wp2
    have hz0 := HGa.out.size
    have hz1 := HGb.out.size
    have hz2 := HGc.out.size
    have hz3 := HGd.out.size
    obtain ⟨Z, hZ⟩ : ∃ Z, Z = (((wd2.setCell ⟨w.heap.size, 0, none⟩ (.map (some Y.heap.size))).setCell ⟨w.heap.size, 1, none⟩ (.map (some wa0.heap.size))).setCell ⟨w.heap.size, 2, none⟩ (.map (some wb1.heap.size))).setCell ⟨w.heap.size, 3, none⟩ (.map (some wc1.heap.size)) := ⟨_, rfl⟩
    have hzb : Z.heap[w.heap.size]? = some (.cells #[.map (some Y.heap.size), .map (some wa0.heap.size), .map (some wb1.heap.size), .map (some wc1.heap.size)] 182 (0, 0)) := by rw [hZ, set_block (set_block (set_block (set_block HT2.out)))]; rfl
    have hgZ : wd2.grownBy Z (some w.heap.size) := by rw [hZ]; exact grown_trans (grown_trans (grown_trans (set_grown _ _ _ _) (set_grown _ _ _ _)) (set_grown _ _ _ _)) (set_grown _ _ _ _)
    have hzz := hgZ.size
    rw [← hZ]
    have x0 : Z.cell? ⟨w.heap.size, 0, none⟩ = some (.map (some Y.heap.size)) := block_cell hzb rfl
    have x1 : Z.cell? ⟨w.heap.size, 1, none⟩ = some (.map (some wa0.heap.size)) := block_cell hzb rfl
    have x2 : Z.cell? ⟨w.heap.size, 2, none⟩ = some (.map (some wb1.heap.size)) := block_cell hzb rfl
    have x3 : Z.cell? ⟨w.heap.size, 3, none⟩ = some (.map (some wc1.heap.size)) := block_cell hzb rfl
    have hb0 : Y.heap.size < Z.heap.size := by have h1 := (((HOa.out.kept HGb.out (by simp)).kept HGc.out (by simp)).kept HGd.out (by simp)).lt; omega
    have hk0 := ((((HOa.out.kept HGb.out (by simp)).kept HGc.out (by simp)).kept HGd.out (by simp)).kept hgZ (fun e => by have := Option.some.inj e; omega)).mono (show 0 ≤ 2 by decide)
    have hb1 : wa0.heap.size < Z.heap.size := by have h1 := ((HOb.out.kept HGc.out (by simp)).kept HGd.out (by simp)).lt; omega
    have hk1 := (((HOb.out.kept HGc.out (by simp)).kept HGd.out (by simp)).kept hgZ (fun e => by have := Option.some.inj e; omega)).mono (show 1 ≤ 2 by decide)
    have hb2 : wb1.heap.size < Z.heap.size := by have h1 := (HOc.out.kept HGd.out (by simp)).lt; omega
    have hk2 := ((HOc.out.kept HGd.out (by simp)).kept hgZ (fun e => by have := Option.some.inj e; omega)).mono (show 1 ≤ 2 by decide)
    have hb3 : wc1.heap.size < Z.heap.size := by have h1 := HOd.out.lt; omega
    have hk3 := (HOd.out.kept hgZ (fun e => by have := Option.some.inj e; omega)).mono (show 2 ≤ 2 by decide)
    refine bodyPost_ret (v := .agg #[.map (some Y.heap.size), .map (some wa0.heap.size), .map (some wb1.heap.size), .map (some wc1.heap.size)]) (by simp [results, Try.results127, go_sem, x0, x1, x2, x3]) rfl ⟨_, _, _, _, rfl, ⟨?_, ?_, ?_, ?_⟩, (HBY.out.grown HGG.out HBY.out.size (fun q hq => by cases hq)).grown hgZ (Nat.le_trans HBY.out.size HGG.out.size) (fun q hq => by have := Option.some.inj hq; omega)⟩
    · rw [if_neg (by omega)]; exact ⟨hb0, _, hk0, HLa.out.1, HLa.out.2⟩
    · rw [if_neg (by omega)]; exact ⟨hb1, _, hk1, HLb.out.1, HLb.out.2⟩
    · rw [if_neg (by omega)]; exact ⟨hb2, _, hk2, HLc.out.1, HLc.out.2⟩
    · rw [if_neg (by omega)]; exact ⟨hb3, _, hk3, HLd.out.1, (fun y => (HLd.out.2 y).trans (coefL_swap _ _ y))⟩
end Go.Proofs.Ytfceigcjonlhkaa.Poly

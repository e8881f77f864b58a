/- Several texts of the proof, one behind the other. -/
import Derived.Test.YtnlcknlodjjdbaaDoorBaseP
import Derived.Maps.OwnOps
import Derived.Maps.OwnSet
import Derived.DeepKeys4
import Derived.Test.YtnlcknlodjjdbaaDoorF1P
/- Maps from spots to spots; the walks of tangle.ties.tie, lead and join. -/
namespace Go.Proofs.YtnlcknlodjjdbaaDoor
open Go.RowKit Go.Maps

/-- A spot: the tangle's own ends are 0 to 3, side s of crossing k is 4 k + 4 + s. -/
def spV (x : Nat) : Value := .agg #[.int .i64 (((x / 4 : Nat) : Int) - 1), .int .i64 ((x % 4 : Nat) : Int)]
def spD (x : Nat) : DataW Unit := .agg [.lit (.int .i64 (((x / 4 : Nat) : Int) - 1)), .lit (.int .i64 ((x % 4 : Nat) : Int))]
def spR (v : Value) : Option (DataW Unit × List MemPlace) :=
  match v with
  | .agg cs => match cs.toList with
    | [.int .i64 a, .int .i64 b] => some (.agg [.lit (.int .i64 a), .lit (.int .i64 b)], [])
    | _ => none
  | _ => none
theorem spR_mk (x : Nat) : spR (spV x) = some (spD x, []) := rfl
theorem spR_inv {v : Value} {x : Nat} {ps : List MemPlace} (h : spR v = some (spD x, ps)) : v = spV x := by
  unfold spR at h
  split at h
  · rename_i cs
    split at h
    · rename_i a b e
      simp only [Option.some.injEq, Prod.mk.injEq, spD, DataW.agg.injEq, List.cons.injEq, DataW.lit.injEq, Lit.int.injEq, and_true, true_and] at h
      obtain ⟨⟨h1, h2⟩, -⟩ := h
      have ec : cs = #[.int .i64 a, .int .i64 b] := by rw [← Array.toArray_toList (xs := cs), e]
      rw [ec, h1, h2]
      rfl
    · cases h
  · cases h
theorem spV_inj {x y : Nat} (h : spV x = spV y) : x = y := by
  unfold spV at h
  simp only [Value.agg.injEq, Array.mk.injEq, List.cons.injEq, Value.int.injEq, and_true, true_and] at h
  omega
theorem lawS : Keyed Tryd.prog 67 := Keyed.of_law (deep_law_laid (by kernel_rfl) (m := 5) (by decide) (by decide +kernel) (by kernel_rfl) (by kernel_rfl))
theorem keyS_all : ((List.range 80).all fun x => (keyOf Tryd.prog 67 (spV x)).isSome) = true := by decide +kernel
theorem keyS {x : Nat} (h : x < 80) : ∃ l, keyOf Tryd.prog 67 (spV x) = some l := by
  have := List.all_eq_true.1 keyS_all x (List.mem_range.2 h)
  exact Option.isSome_iff_exists.1 this
theorem zeroS (w : World) : (zeroValue 67).run Tryd.prog w = .ok (spV 4) w := by kernel_rfl

/-- The map holds, for each spot of S, to which it is tied. -/
def MapT (W : World) (b m : Nat) (S : Nat → Prop) (T : Nat → Nat) : Prop := ∃ D, W.ownsMap Tryd.prog 67 spR b m D ∧ ∀ x l, S x → keyOf Tryd.prog 67 (spV x) = some l → ∀ zd, D.atKey l zd = spD (T x)
theorem MapT.kept {W W' : World} {b m : Nat} {S : Nat → Prop} {T : Nat → Nat} {row : Option Nat} (h : MapT W b m S T) (hg : W.grownBy W' row) (hne : some b ≠ row) : MapT W' b m S T := by
  obtain ⟨D, h1, h2⟩ := h
  exact ⟨D, h1.kept hg hne, h2⟩
theorem MapT.lt {W : World} {b m : Nat} {S : Nat → Prop} {T : Nat → Nat} (h : MapT W b m S T) : b < W.heap.size := by
  obtain ⟨D, h1, h2⟩ := h
  exact h1.lt
theorem MapT.congr {W : World} {b m m' : Nat} {S S' : Nat → Prop} {T T' : Nat → Nat} (h : MapT W b m S T) (hm : m ≤ m') (hS : ∀ x, S' x → S x ∧ T' x = T x) : MapT W b m' S' T' := by
  obtain ⟨D, h1, h2⟩ := h
  exact ⟨D, h1.mono hm, fun x l hx hl zd => by rw [(hS x hx).2]; exact h2 x l (hS x hx).1 hl zd⟩
theorem MapT.look {W : World} {b m : Nat} {S : Nat → Prop} {T : Nat → Nat} (h : MapT W b m S T) (x : Nat) (hx : S x) (hN : x < 80) : (Instr.lookup 44 (.map (some b)) (spV x) false).run Tryd.prog W = .ok (spV (T x)) W := by
  obtain ⟨D, h1, h2⟩ := h
  obtain ⟨l, hl⟩ := keyS hN
  obtain ⟨v, ps, hrun, hv⟩ := h1.lookup lawS Tryd.underlying44 (zeroS W) (spR_mk 4) hl
  rw [h2 x l hx hl] at hv
  rw [hrun, spR_inv hv]
theorem MapT.put {W : World} {b m : Nat} {S : Nat → Prop} {T : Nat → Nat} (h : MapT W b m S T) (x y : Nat) (hx : x < 80) (hm : m ≤ 1000) :
    ∃ w', (Instr.mapUpdate 44 (.map (some b)) (spV x) (spV y)).run Tryd.prog W = .ok () w' ∧ MapT w' b (m + 1) (fun z => z = x ∨ S z) (fun z => if z = x then y else T z) ∧ W.grownBy w' (some b) := by
  obtain ⟨D, h1, h2⟩ := h
  obtain ⟨l, hl⟩ := keyS hx
  obtain ⟨w', hrun, hown, hg⟩ := h1.update lawS Tryd.underlying44 (show m < maxLen by unfold maxLen; omega) hl (spR_mk y)
  refine ⟨w', hrun, ⟨D.put l (spD y), hown, fun z lz hz hlz zd => ?_⟩, hg⟩
  show _ = spD (if z = x then y else T z)
  by_cases e : z = x
  · subst e
    rw [if_pos rfl]
    rw [hl] at hlz
    obtain rfl := Option.some.inj hlz
    exact atKey_put_same h1.isMap (lawS.key hl) _ _
  · rw [if_neg e]
    have hne : l ≠ lz := fun h0 => e (spV_inj (lawS.inj hlz (h0 ▸ hl)))
    rw [atKey_put_other (by intro h0; exact hne h0.symm)]
    rcases hz with h0 | h0
    · exact absurd h0 e
    · exact h2 z lz h0 hlz zd
end Go.Proofs.YtnlcknlodjjdbaaDoor
/- The walks of tangle.ties.tie, lead and join. -/
namespace Go.Proofs.YtnlcknlodjjdbaaDoor
open Go.RowKit Go.Maps

/-- Two ends tied to one another. -/
def tieF (T : Nat → Nat) (a b : Nat) : Nat → Nat := fun x => if x = b then a else if x = a then b else T x
theorem two_boxes (w : World) (p q r s : Value) (t : TypeId) : ((w.alloc (.cells #[p, q] t)).alloc (.cells #[r, s] t)).cell? ⟨w.heap.size, 0, none⟩ = some p ∧ ((w.alloc (.cells #[p, q] t)).alloc (.cells #[r, s] t)).cell? ⟨w.heap.size, 1, none⟩ = some q ∧ ((w.alloc (.cells #[p, q] t)).alloc (.cells #[r, s] t)).cell? ⟨w.heap.size + 1, 0, none⟩ = some r ∧ ((w.alloc (.cells #[p, q] t)).alloc (.cells #[r, s] t)).cell? ⟨w.heap.size + 1, 1, none⟩ = some s := by
  have h1 : ((w.alloc (.cells #[p, q] t)).alloc (.cells #[r, s] t)).heap[w.heap.size]? = some (.cells #[p, q] t (0, 0)) := by
    have e : ((w.alloc (.cells #[p, q] t)).alloc (.cells #[r, s] t)).heap = (w.heap.push (.cells #[p, q] t)).push (.cells #[r, s] t) := rfl
    rw [e, Array.getElem?_push_lt (by simp), Array.getElem_push_eq]
  have h2 : ((w.alloc (.cells #[p, q] t)).alloc (.cells #[r, s] t)).heap[w.heap.size + 1]? = some (.cells #[r, s] t (0, 0)) := by
    have e : ((w.alloc (.cells #[p, q] t)).alloc (.cells #[r, s] t)).heap = (w.heap.push (.cells #[p, q] t)).push (.cells #[r, s] t) := rfl
    rw [e, show w.heap.size + 1 = (w.heap.push (.cells #[p, q] t)).size by simp]
    exact Array.getElem?_push_size
  unfold World.cell?
  rw [h1, h2]
  exact ⟨rfl, rfl, rfl, rfl⟩

theorem grown_two {a b c : World} {row : Option Nat} (h : a.grownBy b row) (k : b.grownBy c row) : a.grownBy c row :=
  ⟨k.os.trans h.os, k.tape.trans h.tape, k.output.trans h.output, Nat.le_trans h.size k.size, fun i hi hr => (k.block i (Nat.lt_of_lt_of_le hi h.size) hr).trans (h.block i hi hr)⟩

set_option maxHeartbeats 4000000 in
set_option maxRecDepth 100000 in
theorem tie_any (b m : Nat) (S : Nat → Prop) (T : Nat → Nat) (x y : Nat) (w : World) (h : MapT w b m S T) (hx : x < 80) (hy : y < 80) (hm : m ≤ 900) :
    Calls Tryd.prog 26 #[.map (some b), spV x, spV y] w fun e w' => e = .returned (.tuple #[]) ∧ MapT w' b (m + 2) (fun z => z = y ∨ z = x ∨ S z) (tieF T x y) ∧ w.grownBy w' (some b) := by
  obtain ⟨W2, hW2⟩ : ∃ W2, W2 = (w.alloc (.cells #[.int .i64 (((x / 4 : Nat) : Int) - 1), .int .i64 ((x % 4 : Nat) : Int)] 67)).alloc (.cells #[.int .i64 (((y / 4 : Nat) : Int) - 1), .int .i64 ((y % 4 : Nat) : Int)] 67) := ⟨_, rfl⟩
  have HW2 : Hid (W2 = (w.alloc (.cells #[.int .i64 (((x / 4 : Nat) : Int) - 1), .int .i64 ((x % 4 : Nat) : Int)] 67)).alloc (.cells #[.int .i64 (((y / 4 : Nat) : Int) - 1), .int .i64 ((y % 4 : Nat) : Int)] 67)) := hW2
  have hg0 : w.grownBy W2 (some b) := by rw [hW2]; exact grown_two (World.grownBy_alloc _ _ _) (World.grownBy_alloc _ _ _)
  have hM2 : MapT W2 b m S T := by rw [hW2]; exact (h.kept (World.grownBy_alloc _ _ none) (by simp)).kept (World.grownBy_alloc _ _ none) (by simp)
  obtain ⟨c0, c1, c2, c3⟩ := two_boxes w (.int .i64 (((x / 4 : Nat) : Int) - 1)) (.int .i64 ((x % 4 : Nat) : Int)) (.int .i64 (((y / 4 : Nat) : Int) - 1)) (.int .i64 ((y % 4 : Nat) : Int)) 67
  rw [← hW2] at c0 c1 c2 c3
  have hM2d : MapT W2.drew b m S T := hM2.kept (grown_below ((Below.refl _ _).drew) none) (by simp)
  obtain ⟨X1, hr1, hM3, hg1⟩ := hM2d.put x y hx (by omega)
  have hbw := h.lt
  have hsz2 : W2.heap.size = w.heap.size + 2 := by rw [hW2]; simp
  have hX : ∀ k o : Nat, w.heap.size ≤ k → k < W2.heap.size → X1.cell? ⟨k, o, none⟩ = W2.cell? ⟨k, o, none⟩ := fun k o h1 h2 => by
    unfold World.cell?
    rw [hg1.block k h2 (fun e => by have := Option.some.inj e; omega)]
    rfl
  have d0 := (hX w.heap.size 0 (by omega) (by omega)).trans c0
  have d1 := (hX w.heap.size 1 (by omega) (by omega)).trans c1
  have d2 := (hX (w.heap.size + 1) 0 (by omega) (by omega)).trans c2
  have d3 := (hX (w.heap.size + 1) 1 (by omega) (by omega)).trans c3
  obtain ⟨X2, hr2, hM4, hg2⟩ := hM3.put y x hy (by omega)
  have HFN : Hid (MapT X2 b (m + 2) (fun z => z = y ∨ z = x ∨ S z) (tieF T x y) ∧ w.grownBy X2 (some b)) := ⟨hM4.congr (Nat.le_refl _) (fun z hz => ⟨hz, rfl⟩), grown_two hg0 (grown_two (grown_below ((Below.refl _ _).drew) _) (grown_two hg1 hg2))⟩
  clear hW2 hg0 hM2 hM2d hM3 hM4 hg1 hg2 h hX hsz2
  unfold spV at hr1 hr2 ⊢
  generalize (((x / 4 : Nat) : Int) - 1) = p at HW2 c0 d0 hr1 hr2 ⊢
  generalize ((x % 4 : Nat) : Int) = q at HW2 c1 d1 hr1 hr2 ⊢
  generalize (((y / 4 : Nat) : Int) - 1) = r at HW2 c2 d2 hr1 hr2 ⊢
  generalize ((y % 4 : Nat) : Int) = s at HW2 c3 d3 hr1 hr2 ⊢
  go_enter Tryd.func26, Tryd.ntmps26
  go_wp2
  rw [← HW2.out]
  apply cut_one
  case h =>
    intro key
    go_region_with (fail)
    all_goals exact key.out
  exact bodyPost_end (v := .tuple #[]) (results_none rfl _ _ _) rfl ⟨rfl, HFN.out⟩

theorem box_at (w : World) (o : Obj) : (w.alloc o).heap[w.heap.size]? = some o := Array.getElem?_push_size
theorem box_low (w : World) (o : Obj) {k : Nat} (h : k < w.heap.size) : (w.alloc o).heap[k]? = w.heap[k]? := Array.getElem?_push_lt h |>.trans (Array.getElem?_eq_getElem h).symm
theorem box_cell {w : World} {g i : Nat} {cs : Array Value} {t : TypeId} {fz : Nat × Nat} {v : Value} (h : w.heap[g]? = some (.cells cs t fz)) (hv : cs[i]? = some v) : w.cell? ⟨g, i, none⟩ = some v := by
  unfold World.cell?
  rw [h]
  exact hv
/-- An end led through a crossing. -/
def leadF (T : Nat → Nat) (e i o : Nat) : Nat → Nat := tieF (tieF T (T e) i) e o

set_option maxHeartbeats 4000000 in
set_option maxRecDepth 100000 in
theorem lead_any (b m e : Nat) (S : Nat → Prop) (T : Nat → Nat) (i o : Nat) (w : World) (h : MapT w b m S T) (he : e < 4) (hS : S e) (hT : T e < 80) (hi : i < 80) (ho : o < 80) (hm : m ≤ 800) :
    Calls Tryd.prog 28 #[.map (some b), .int .i64 (e : Nat), spV i, spV o] w fun r w' => r = .returned (.tuple #[]) ∧ MapT w' b (m + 4) (fun z => z = o ∨ z = e ∨ z = i ∨ z = T e ∨ S z) (leadF T e i o) ∧ w.grownBy w' (some b) := by
  have eE : spV e = .agg #[.int .i64 (-1), .int .i64 (e : Nat)] := by
    unfold spV
    rw [show e / 4 = 0 by omega, show e % 4 = e by omega]
    rfl
  have HI : Hid (spV i = .agg #[.int .i64 (((i / 4 : Nat) : Int) - 1), .int .i64 ((i % 4 : Nat) : Int)]) := (rfl : spV i = .agg #[.int .i64 (((i / 4 : Nat) : Int) - 1), .int .i64 ((i % 4 : Nat) : Int)])
  have HO : Hid (spV o = .agg #[.int .i64 (((o / 4 : Nat) : Int) - 1), .int .i64 ((o % 4 : Nat) : Int)]) := (rfl : spV o = .agg #[.int .i64 (((o / 4 : Nat) : Int) - 1), .int .i64 ((o % 4 : Nat) : Int)])
  rw [HI.out, HO.out]
  generalize (((i / 4 : Nat) : Int) - 1) = p at HI ⊢
  generalize ((i % 4 : Nat) : Int) = q at HI ⊢
  generalize (((o / 4 : Nat) : Int) - 1) = r at HO ⊢
  generalize ((o % 4 : Nat) : Int) = s at HO ⊢
  obtain ⟨Y, hY⟩ : ∃ Y, Y = ((w.alloc (.cells #[.int .i64 p, .int .i64 q] 67)).alloc (.cells #[.int .i64 r, .int .i64 s] 67)).alloc (.cells #[.int .i64 (-1), .int .i64 (e : Nat)] 67) := ⟨_, rfl⟩
  have HY : Hid (Y = ((w.alloc (.cells #[.int .i64 p, .int .i64 q] 67)).alloc (.cells #[.int .i64 r, .int .i64 s] 67)).alloc (.cells #[.int .i64 (-1), .int .i64 (e : Nat)] 67)) := hY
  have hgY : w.grownBy Y (some b) := by rw [hY]; exact grown_two (grown_two (World.grownBy_alloc _ _ _) (World.grownBy_alloc _ _ _)) (World.grownBy_alloc _ _ _)
  have hMY : MapT Y b m S T := h.kept (row := none) (by rw [hY]; exact grown_two (grown_two (World.grownBy_alloc _ _ _) (World.grownBy_alloc _ _ _)) (World.grownBy_alloc _ _ _)) (by simp)
  have hsY : Y.heap.size = w.heap.size + 3 := by rw [hY]; simp
  have hbw := h.lt
  have b0 : Y.heap[w.heap.size]? = some (.cells #[.int .i64 p, .int .i64 q] 67 (0, 0)) := by
    rw [hY, box_low _ _ (by simp; omega), box_low _ _ (by simp)]; exact box_at _ _
  have b1 : Y.heap[w.heap.size + 1]? = some (.cells #[.int .i64 r, .int .i64 s] 67 (0, 0)) := by
    rw [hY, box_low _ _ (by simp)]
    have := box_at (w.alloc (.cells #[.int .i64 p, .int .i64 q] 67)) (.cells #[.int .i64 r, .int .i64 s] 67)
    simpa using this
  have b2 : Y.heap[w.heap.size + 1 + 1]? = some (.cells #[.int .i64 (-1), .int .i64 (e : Nat)] 67 (0, 0)) := by
    have := box_at ((w.alloc (.cells #[.int .i64 p, .int .i64 q] 67)).alloc (.cells #[.int .i64 r, .int .i64 s] 67)) (.cells #[.int .i64 (-1), .int .i64 (e : Nat)] 67)
    rw [hY]
    simpa using this
  have HKP : Hid (∀ W, Y.grownBy W (some b) → W.cell? ⟨w.heap.size, 0, none⟩ = some (.int .i64 p) ∧ W.cell? ⟨w.heap.size, 1, none⟩ = some (.int .i64 q) ∧ W.cell? ⟨w.heap.size + 1, 0, none⟩ = some (.int .i64 r) ∧ W.cell? ⟨w.heap.size + 1, 1, none⟩ = some (.int .i64 s) ∧ W.cell? ⟨w.heap.size + 1 + 1, 0, none⟩ = some (.int .i64 (-1)) ∧ W.cell? ⟨w.heap.size + 1 + 1, 1, none⟩ = some (.int .i64 (e : Nat))) := fun W hW => by
    have g0 := (hW.block w.heap.size (by omega) (fun e => by have := Option.some.inj e; omega)).trans b0
    have g1 := (hW.block (w.heap.size + 1) (by omega) (fun e => by have := Option.some.inj e; omega)).trans b1
    have g2 := (hW.block (w.heap.size + 1 + 1) (by omega) (fun e => by have := Option.some.inj e; omega)).trans b2
    exact ⟨box_cell g0 rfl, box_cell g0 rfl, box_cell g1 rfl, box_cell g1 rfl, box_cell g2 rfl, box_cell g2 rfl⟩
  have HGD : Hid (Y.grownBy Y.drew (some b)) := grown_below ((Below.refl _ _).drew) _
  have HGY : Hid (w.grownBy Y (some b)) := hgY
  have hMD : MapT Y.drew b m S T := hMY.kept (grown_below ((Below.refl _ _).drew) none) (by simp)
  have hlk := hMD.look e hS (by omega)
  rw [eE] at hlk
  have HT1 : Hid (Calls Tryd.prog 26 #[.map (some b), spV (T e), .agg #[.int .i64 p, .int .i64 q]] Y.drew fun r w' => r = .returned (.tuple #[]) ∧ MapT w' b (m + 2) (fun z => z = i ∨ z = T e ∨ S z) (tieF T (T e) i) ∧ Y.drew.grownBy w' (some b)) := (by rw [← HI.out]; exact tie_any b m S T (T e) i Y.drew hMD hT hi (by omega) : Calls Tryd.prog 26 #[.map (some b), spV (T e), .agg #[.int .i64 p, .int .i64 q]] Y.drew fun r w' => r = .returned (.tuple #[]) ∧ MapT w' b (m + 2) (fun z => z = i ∨ z = T e ∨ S z) (tieF T (T e) i) ∧ Y.drew.grownBy w' (some b))
  have HT2 : Hid (∀ W, MapT W b (m + 2) (fun z => z = i ∨ z = T e ∨ S z) (tieF T (T e) i) → Calls Tryd.prog 26 #[.map (some b), .agg #[.int .i64 (-1), .int .i64 (e : Nat)], .agg #[.int .i64 r, .int .i64 s]] W fun r w' => r = .returned (.tuple #[]) ∧ MapT w' b (m + 2 + 2) (fun z => z = o ∨ z = e ∨ z = i ∨ z = T e ∨ S z) (leadF T e i o) ∧ W.grownBy w' (some b)) := fun W hW => by rw [← HO.out, ← eE]; exact tie_any b (m + 2) _ _ e o W hW (by omega) ho (by omega)
  obtain ⟨y0, y1, hTe⟩ : ∃ y0 y1 : Int, spV (T e) = .agg #[.int .i64 y0, .int .i64 y1] := ⟨_, _, rfl⟩
  rw [hTe] at hlk HT1
  clear hY hgY hMY b0 b1 b2 h hMD eE hTe
  go_enter Tryd.func28, Tryd.ntmps28
  go_wp2
  rw [← HY.out]
  go_region_held3 (fun W => W.cell? ⟨w.heap.size, 0, none⟩ = some (.int .i64 p) ∧ W.cell? ⟨w.heap.size, 1, none⟩ = some (.int .i64 q) ∧ W.cell? ⟨w.heap.size + 1 + 1, 0, none⟩ = some (.int .i64 (-1)) ∧ W.cell? ⟨w.heap.size + 1 + 1, 1, none⟩ = some (.int .i64 (e : Nat))) (first | (obtain ⟨k0, k1, k2, k3, k4, k5⟩ := HKP.out _ HGD.out; exact ⟨k0, k1, k4, k5⟩) | exact HK3.out) (first
    | (go_at_call 26; refine HT1.out.mono ?_; rintro e9 w3 ⟨rfl, hM3, hg3⟩
       have HG3 : Hid (Y.grownBy w3 (some b)) := grown_two HGD.out hg3
       have HK3 : Hid (w3.cell? ⟨w.heap.size, 0, none⟩ = some (.int .i64 p) ∧ w3.cell? ⟨w.heap.size, 1, none⟩ = some (.int .i64 q) ∧ w3.cell? ⟨w.heap.size + 1 + 1, 0, none⟩ = some (.int .i64 (-1)) ∧ w3.cell? ⟨w.heap.size + 1 + 1, 1, none⟩ = some (.int .i64 (e : Nat))) := (by obtain ⟨k0, k1, k2, k3, k4, k5⟩ := HKP.out _ (grown_two HGD.out hg3); exact ⟨k0, k1, k4, k5⟩)))
  obtain ⟨k0, k1, k2, k3, k4, k5⟩ := HKP.out _ HG3.out
  have HM3 : Hid (MapT w3 b (m + 2) (fun z => z = i ∨ z = T e ∨ S z) (tieF T (T e) i)) := hM3
  have hsw3 := HG3.out.size
  clear hM3 hg3 hlk
  go_wp2_with (go_at_call 26; refine (HT2.out _ HM3.out).mono ?_; rintro e9 w4 ⟨rfl, hM4, hg4⟩; refine Hid.out ?_)
  refine Lib.hid ?_
  have HFN : Hid (MapT w4 b (m + 4) (fun z => z = o ∨ z = e ∨ z = i ∨ z = T e ∨ S z) (leadF T e i o) ∧ w.grownBy w4 (some b)) := ⟨hM4, grown_two HGY.out (grown_two HG3.out hg4)⟩
  clear hM4 hg4
  go_wp2
  exact bodyPost_end (v := .tuple #[]) (results_none rfl _ _ _) rfl ⟨rfl, HFN.out⟩
end Go.Proofs.YtnlcknlodjjdbaaDoor

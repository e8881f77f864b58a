/- Several texts of the proof, one behind the other. -/
import Derived.Test.YtnhllpaoplfgpaaPPut
import Derived.Test.YtnhllpaoplfgpaaPT4
import Derived.Test.YtnhllpaoplfgpaaO0
import Derived.Test.YtnhllpaoplfgpaaIn
import Derived.Deep.RegionLaw
import Derived.Deep.Cut
import Derived.Test.YtnhllpaoplfgpaaF4
import Derived.Test.YtnhllpaoplfgpaaF10P
import Derived.Test.YtnhllpaoplfgpaaY0P
import Derived.Test.YtnhllpaoplfgpaaPB5
import Derived.Test.YtnhllpaoplfgpaaPB6
import Derived.Test.YtnhllpaoplfgpaaPA12
import Derived.Test.YtnhllpaoplfgpaaW5
/- Plain mathematics of Alexander's table: polynomials of two terms, and the places of a row. -/
namespace Go.Proofs.Ytnhllpaoplfgpaa
open Go.RowKit

/-- x + y t, in form. -/
def aPol (x y : Int) : List (Int × Int) := (if x = 0 then [] else [(0, x)]) ++ (if y = 0 then [] else [(1, y)])
def aFun (x y : Int) (e : Int) : Int := if e = 0 then x else if e = 1 then y else 0
theorem canon_aPol (x y : Int) : Poly.Canon (aPol x y) (aFun x y) := by
  unfold aPol
  constructor
  · by_cases hx : x = 0 <;> by_cases hy : y = 0 <;> simp [hx, hy]
  · intro e c
    by_cases hx : x = 0 <;> by_cases hy : y = 0 <;> by_cases h0 : e = 0 <;> by_cases h1 : e = 1 <;> simp [aFun, hx, hy, h0, h1] <;> omega
theorem aPol_len (x y : Int) : (aPol x y).length ≤ 2 := by
  unfold aPol
  by_cases hx : x = 0 <;> by_cases hy : y = 0 <;> simp [hx, hy]
theorem aPol_may (x y : Int) (hx : -100 ≤ x ∧ x ≤ 100) (hy : -100 ≤ y ∧ y ≤ 100) : Poly.mayB (aPol x y) = true := by
  refine (Poly.may_iff _).2 ⟨Nat.le_trans (aPol_len x y) (by decide), fun i hi => ?_⟩
  rw [Poly.okB_iff]
  unfold aPol at hi ⊢
  by_cases h0 : x = 0 <;> by_cases h1 : y = 0 <;> simp only [h0, h1, if_true, if_false, List.nil_append, List.append_nil, List.length_nil, List.length_cons, List.singleton_append] at hi ⊢
  · omega
  · obtain rfl : i = 0 := by omega
    simp
    omega
  · obtain rfl : i = 0 := by omega
    simp
    omega
  · have : i = 0 ∨ i = 1 := by omega
    rcases this with rfl | rfl <;> simp <;> omega
theorem coef_aPol (x y e : Int) : Poly.coefL (aPol x y) e = aFun x y e := by
  unfold aPol aFun
  by_cases hx : x = 0 <;> by_cases hy : y = 0 <;> by_cases h0 : e = 0 <;> by_cases h1 : e = 1 <;> simp [Poly.coefL, hx, hy, h0, h1] <;> omega
theorem aFun_add (x y dx dy e : Int) : aFun x y e + aFun dx dy e = aFun (x + dx) (y + dy) e := by
  unfold aFun
  by_cases h0 : e = 0
  · simp [h0]
  · by_cases h1 : e = 1
    · simp [h1]
    · simp [h0, h1]
/-- A sum that is in form. -/
theorem aPol_sum {r : List (Int × Int)} {x y dx dy : Int} (h : Poly.Canon r (fun e => Poly.coefL (aPol x y) e + Poly.coefL (aPol dx dy) e)) : r = aPol (x + dx) (y + dy) :=
  Poly.canon_unique (Poly.canon_congr h fun e => by rw [coef_aPol, coef_aPol, aFun_add]) (canon_aPol _ _)
theorem aPol_put0 (x y c : Int) : Poly.putL (aPol x y) 0 c = aPol (x + c) y :=
  Poly.canon_unique (Poly.canon_congr (Poly.canon_put (canon_aPol x y) 0 c) fun e => by
    unfold aFun
    by_cases h0 : e = 0
    · simp [h0]
    · have : ¬ (0 : Int) = e := fun q => h0 q.symm
      simp [h0, this]) (canon_aPol _ _)
theorem aPol_put1 (x y c : Int) : Poly.putL (aPol x y) 1 c = aPol x (y + c) :=
  Poly.canon_unique (Poly.canon_congr (Poly.canon_put (canon_aPol x y) 1 c) fun e => by
    unfold aFun
    by_cases h0 : e = 0
    · simp [h0]
    · by_cases h1 : e = 1
      · simp [h1]
      · have : ¬ (1 : Int) = e := fun q => h1 q.symm
        simp [h0, h1, this]) (canon_aPol _ _)
/-- The places of a row. -/
def addF (F : Nat → Int × Int) (p : Nat) (dx dy : Int) : Nat → Int × Int := fun j => if j = p then ((F j).1 + dx, (F j).2 + dy) else F j
def zeroF : Nat → Int × Int := fun _ => (0, 0)
/-- The row of a crossing: below it goes in at overpass i, out at o; v is above. -/
def rowF (o i v : Nat) : Nat → Int × Int := addF (addF (addF zeroF o 1 0) i 0 (-1)) v (-1) 1
def inC (C : List Cr) (c : Cr) : Nat := if c.plus = true then ovM C c.a.toNat else ovM C c.c.toNat
def outC' (C : List Cr) (c : Cr) : Nat := if c.plus = true then ovM C c.c.toNat else ovM C c.a.toNat
def alF (C : List Cr) (k : Nat) : Nat → Int × Int := rowF (outC' C (C.getD k Cr.none)) (inC C (C.getD k Cr.none)) (ovM C (C.getD k Cr.none).b.toNat)
/-- Small numbers. -/
def smallF (F : Nat → Int × Int) (b : Int) : Prop := ∀ j, -b ≤ (F j).1 ∧ (F j).1 ≤ b ∧ -b ≤ (F j).2 ∧ (F j).2 ≤ b
theorem small_zero : smallF zeroF 0 := fun _ => by simp [zeroF]
theorem small_add {F : Nat → Int × Int} {b : Int} (h : smallF F b) (p : Nat) {dx dy : Int} (hx : -1 ≤ dx ∧ dx ≤ 1) (hy : -1 ≤ dy ∧ dy ≤ 1) : smallF (addF F p dx dy) (b + 1) := fun j => by
  have := h j
  unfold addF
  by_cases e : j = p
  · rw [if_pos e]; simp only; omega
  · rw [if_neg e]; omega
/-- Values by their places. -/
def valsL (m : Nat) (f : Nat → Value) : List Value := (List.range m).map f
theorem valsL_len (m : Nat) (f : Nat → Value) : (valsL m f).length = m := by simp [valsL]
theorem valsL_get (m : Nat) (f : Nat → Value) (i : Nat) (h : i < m) : (valsL m f)[i]? = some (f i) := by simp [valsL, h]
theorem valsL_set (m : Nat) (f g : Nat → Value) (i : Nat) (x : Value) (h : ∀ j, j < m → g j = if j = i then x else f j) : (valsL m f).set i x = valsL m g := by
  apply List.ext_getElem?
  intro j
  by_cases hj : j < m
  · rw [valsL_get m g j hj, h j hj, List.getElem?_set]
    by_cases e : i = j
    · subst e; simp [valsL_len, hj]
    · rw [if_neg e, if_neg (fun h => e h.symm), valsL_get m f j hj]
  · rw [List.getElem?_eq_none (by simp [valsL_len]; omega), List.getElem?_eq_none (by simp [valsL_len]; omega)]
theorem made_nilsV (n : Nat) : (madeCells (Value.slice none 0 0).cells (n * 1)).toList = valsL n fun _ => .slice none 0 0 := by
  have e : (Value.slice none 0 0).cells = #[Value.slice none 0 0] := rfl
  rw [e, toList_madeCells_one, Nat.mul_one]
  apply List.ext_getElem?
  intro j
  by_cases hj : j < n
  · rw [valsL_get _ _ _ hj]; simp [hj]
  · rw [List.getElem?_eq_none (by simp; omega), List.getElem?_eq_none (by simp [valsL_len]; omega)]
/-- A row of polynomials under way: the row lies in block g, its polynomials in blocks of their own. -/
structure PlcAt (B m g : Nat) (vals : Nat → Value) (F : Nat → Int × Int) (wr : World) : Prop where
  row : wr.ownsRow B 22 1 (.slice (some ⟨g, 0, none⟩) m m) m (valsL m vals)
  each : ∀ j, j < m → wr.ownsRow B 109 2 (vals j) (aPol (F j).1 (F j).2).length (Poly.flat (aPol (F j).1 (F j).2))
theorem PlcAt.any {B m g : Nat} {vals : Nat → Value} {F : Nat → Int × Int} {w w' : World} (h : PlcAt B m g vals F w) (hg : w.grownBy w' none) : PlcAt B m g vals F w' := ⟨own_any h.row hg, fun j hj => own_any (h.each j hj) hg⟩
theorem PlcAt.set {B m g : Nat} {vals : Nat → Value} {F : Nat → Int × Int} {w w' : World} (h : PlcAt B m g vals F w) (hb : Below w.heap.size w w') (hB : B ≤ w.heap.size) (p : Nat) (dx dy : Int) (v : Value)
    (hv : w'.ownsRow w.heap.size 109 2 v (aPol ((F p).1 + dx) ((F p).2 + dy)).length (Poly.flat (aPol ((F p).1 + dx) ((F p).2 + dy)))) : PlcAt B m g (fun j => if j = p then v else vals j) (addF F p dx dy) (w'.setCell ⟨g, p, none⟩ v) := by
  have h1 := h.any (grown_below hb none)
  have hst := h1.row.stored p v
  refine ⟨?_, fun j hj => ?_⟩
  · rw [← valsL_set m vals _ p v fun j _ => rfl]
    exact hst.1
  · unfold addF
    by_cases e : j = p
    · rw [if_pos e, if_pos e, e]
      exact (own_low hv hB).kept hst.2 (own_ne (own_low hv hB) h1.row (by decide))
    · rw [if_neg e, if_neg e]
      exact (h1.each j hj).kept hst.2 (own_ne (h1.each j hj) h1.row (by decide))
end Go.Proofs.Ytnhllpaoplfgpaa
/- The walk of the closure in alex.row. -/
namespace Go.Proofs.Ytnhllpaoplfgpaa
open Go.RowKit

/-- What poly.Add does (its walk stands elsewhere). -/
def AddOk : Prop := ∀ (v1 v2 : Value) (l1 l2 : List (Int × Int)) (w : World), Poly.mayB l1 = true → Poly.mayB l2 = true → Poly.Poly w w.heap.size v1 l1 → Poly.Poly w w.heap.size v2 l2 →
  Calls Try.prog 19 #[v1, v2] w fun e w' => ∃ v r, e = .returned (.tuple #[v, .int .i64 0]) ∧ w'.ownsRow w.heap.size 109 2 v r.length (Poly.flat r) ∧ Poly.Canon r (fun x => Poly.coefL l1 x + Poly.coefL l2 x) ∧ r.length ≤ 128 ∧ Below w.heap.size w w'

set_option maxHeartbeats 4000000 in
set_option maxRecDepth 100000 in
theorem alexAdd_any (hAdd : AddOk) (B m g go gp : Nat) (vals : Nat → Value) (F : Nat → Int × Int) (ao : Option Addr) (no co bo oo arc p : Nat) (v2 : Value) (dx dy : Int) (w : World) (hB : B ≤ w.heap.size)
    (hF : smallF F 10) (hdx : -1 ≤ dx ∧ dx ≤ 1) (hdy : -1 ≤ dy ∧ dy ≤ 1) (ha : 1 ≤ arc) (han : arc ≤ no) (hno : no ≤ 40) (hp : p < m) (hao : ao = some ⟨bo, oo, none⟩)
    (cO : w.heap[go]? = some (.cells #[.slice ao no co] 61 (0, 0))) (cP : w.heap[gp]? = some (.cells #[.slice (some ⟨g, 0, none⟩) m m] 37 (0, 0))) (cA : w.cell? ⟨bo, oo + (arc - 1), none⟩ = some (.int .i64 (p : Nat)))
    (h2 : Poly.Poly w w.heap.size v2 (aPol dx dy)) (hP : PlcAt B m g vals F w) :
    Calls Try.prog 205 #[.int .i64 (arc : Nat), v2, .pointer (some ⟨go, 0, none⟩), .pointer (some ⟨gp, 0, none⟩)] w fun e w' => e = .returned (.tuple #[]) ∧ (∃ vals', PlcAt B m g vals' (addF F p dx dy) w') ∧ w.grownBy w' (some g) := by
  subst hao
  obtain ⟨k, rfl⟩ : ∃ k, arc = k + 1 := ⟨arc - 1, by omega⟩
  rw [Nat.add_sub_cancel] at cA
  have HADD : Hid AddOk := hAdd
  have H2 : Hid (Poly.Poly w w.heap.size v2 (aPol dx dy)) := h2
  have HP : Hid (PlcAt B m g vals F w) := hP
  have HF : Hid (smallF F 10) := hF
  have q0 : w.cell? ⟨go, 0, none⟩ = some (.slice (some ⟨bo, oo, none⟩) no co) := block_cell cO rfl
  have q1 : w.cell? ⟨gp, 0, none⟩ = some (.slice (some ⟨g, 0, none⟩) m m) := block_cell cP rfl
  have HBP : Hid (w.heap[gp]? = some (.cells #[.slice (some ⟨g, 0, none⟩) m m] 37 (0, 0))) := cP
  have hgo := (Array.getElem?_eq_some_iff.1 cO).1
  have hgp := (Array.getElem?_eq_some_iff.1 cP).1
  have hgl := (hP.row.lt g rfl).2
  clear hP hF h2 cO cP
  have hev := HP.out.each p hp
  obtain ⟨av, cv, ev⟩ := own_capS hev
  have HEV : Hid (vals p = .slice av (aPol (F p).1 (F p).2).length cv) := ev
  have q2 : w.cell? ⟨g, p, none⟩ = some (.slice av (aPol (F p).1 (F p).2).length cv) := by rw [HP.out.row.cellAt p (by omega), valsL_get _ _ _ hp, ev]
  have HBD : Hid (Below w.heap.size w w.drew) := below_drewN (Below.refl _ _) 1
  have hpd := own_any hev (grown_below HBD.out none)
  rw [ev] at hpd
  have HCA : Hid (Calls Try.prog 19 #[.slice av (aPol (F p).1 (F p).2).length cv, v2] w.drew fun e w' => ∃ v, e = .returned (.tuple #[v, .int .i64 0]) ∧ w'.ownsRow w.heap.size 109 2 v (aPol ((F p).1 + dx) ((F p).2 + dy)).length (Poly.flat (aPol ((F p).1 + dx) ((F p).2 + dy))) ∧ Below w.heap.size w w') := (by
    have hs := HF.out p
    refine (HADD.out _ v2 (aPol (F p).1 (F p).2) (aPol dx dy) w.drew (aPol_may _ _ (by omega) (by omega)) (aPol_may _ _ (by omega) (by omega)) (Poly.Poly.ofRow hpd) (H2.out.on HBD.out)).mono ?_
    rintro e w' ⟨v, r, e1, hr, hc, _, hb⟩
    rw [aPol_sum hc] at hr
    exact ⟨v, e1, hr, HBD.out.trans hb⟩ : Calls Try.prog 19 #[.slice av (aPol (F p).1 (F p).2).length cv, v2] w.drew fun e w' => ∃ v, e = .returned (.tuple #[v, .int .i64 0]) ∧ w'.ownsRow w.heap.size 109 2 v (aPol ((F p).1 + dx) ((F p).2 + dy)).length (Poly.flat (aPol ((F p).1 + dx) ((F p).2 + dy))) ∧ Below w.heap.size w w')
  have HRW : Hid (∀ w', Below w.heap.size w w' → w'.cell? ⟨g, p, none⟩ = some (.slice av (aPol (F p).1 (F p).2).length cv) ∧ w'.frozen? ⟨g, p, none⟩ = false ∧ g < w'.heap.size ∧ w'.cell? ⟨gp, 0, none⟩ = some (.slice (some ⟨g, 0, none⟩) m m)) := fun w' hb => by
    have h := (HP.out.any (grown_below hb none)).row
    exact ⟨by rw [h.cellAt p (by omega), valsL_get _ _ _ hp, HEV.out], h.frozenAt p, (h.lt g rfl).2, block_cell ((hb.block _ hgp).trans HBP.out) rfl⟩
  have hpi : (p : Int) < (m : Int) := by omega
  generalize (aPol (F p).1 (F p).2).length = la at *
  clear hev ev hpd
  go_enter Try.func205, Try.ntmps205
  go_wp2
  go_region_law (first
    | (go_simp; go_at_call 19; refine HCA.out.mono ?_; rintro e9 w5 ⟨v5, rfl, hr5, hb5⟩; obtain ⟨a5, c5, e5⟩ := own_capS hr5; subst e5; obtain ⟨r0, r1, r2, r3⟩ := HRW.out w5 hb5))
  all_goals
    exact bodyPost_end (v := .tuple #[]) (results_none rfl _ _ _) rfl ⟨rfl, ⟨_, HP.out.set hb5 hB p dx dy _ hr5⟩, grown_trans (grown_below hb5 _) (set_grown _ _ _ _)⟩
end Go.Proofs.Ytnhllpaoplfgpaa
/- The walk of alex.row. -/
namespace Go.Proofs.Ytnhllpaoplfgpaa
open Go.RowKit

theorem infoTerms : (Try.prog.info? 22).map (fun i => (i.zero, i.size, i.bytes)) = some (some (.slice none 0 0), 1, 24) := by kernel_rfl

theorem poly_new1 (X : World) (e c : Int) (t : TypeId) : Poly.Poly (X.alloc (.cells #[.int .i64 e, .int .i64 c] t)) (X.alloc (.cells #[.int .i64 e, .int .i64 c] t)).heap.size (.slice (some ⟨X.heap.size, 0, none⟩) 1 1) [(e, c)] := by
  have hb : (X.alloc (.cells #[.int .i64 e, .int .i64 c] t)).heap[X.heap.size]? = some (.cells #[.int .i64 e, .int .i64 c] t (0, 0)) := alloc_at rfl
  refine Or.inr (Or.inr ⟨X.heap.size, 0, 1, rfl, by simp, fun i hi => ?_⟩)
  obtain rfl : i = 0 := by simpa using hi
  exact ⟨block_cell hb rfl, block_cell hb rfl⟩
theorem poly_new2 (X : World) (e c e' c' : Int) (t : TypeId) : Poly.Poly (X.alloc (.cells #[.int .i64 e, .int .i64 c, .int .i64 e', .int .i64 c'] t)) (X.alloc (.cells #[.int .i64 e, .int .i64 c, .int .i64 e', .int .i64 c'] t)).heap.size (.slice (some ⟨X.heap.size, 0, none⟩) 2 2) [(e, c), (e', c')] := by
  have hb : (X.alloc (.cells #[.int .i64 e, .int .i64 c, .int .i64 e', .int .i64 c'] t)).heap[X.heap.size]? = some (.cells #[.int .i64 e, .int .i64 c, .int .i64 e', .int .i64 c'] t (0, 0)) := alloc_at rfl
  refine Or.inr (Or.inr ⟨X.heap.size, 0, 2, rfl, by simp, fun i hi => ?_⟩)
  have : i = 0 ∨ i = 1 := by
    have : i < 2 := by simpa using hi
    omega
  rcases this with rfl | rfl
  · exact ⟨block_cell hb rfl, block_cell hb rfl⟩
  · exact ⟨block_cell hb rfl, block_cell hb rfl⟩
/-- Where row stands. -/
structure RwSt (w : World) (m g gp : Nat) (bc bo : Array Value) (F : Nat → Int × Int) (X : World) : Prop where
  plc : ∃ vals, PlcAt w.heap.size m g vals F X
  cbx : X.heap[w.heap.size]? = some (.cells bc 70 (0, 0))
  obx : X.heap[w.heap.size + 1]? = some (.cells bo 61 (0, 0))
  pbx : X.heap[gp]? = some (.cells #[.slice (some ⟨g, 0, none⟩) m m] 37 (0, 0))
  bel : Below w.heap.size w X
  big : w.heap.size + 2 ≤ g
  ne : gp ≠ g
theorem RwSt.grow {w : World} {m g gp : Nat} {bc bo : Array Value} {F F' : Nat → Int × Int} {X Y : World} (h : RwSt w m g gp bc bo F X) (hp : ∃ vals, PlcAt w.heap.size m g vals F' Y) (hg : X.grownBy Y (some g)) : RwSt w m g gp bc bo F' Y := by
  have lt : ∀ {k : Nat} {o : Obj}, X.heap[k]? = some o → k < X.heap.size := fun h => (Array.getElem?_eq_some_iff.1 h).1
  have hb := h.big
  exact ⟨hp, (hg.block _ (lt h.cbx) (fun e => by have := Option.some.inj e; omega)).trans h.cbx, (hg.block _ (lt h.obx) (fun e => by have := Option.some.inj e; omega)).trans h.obx, (hg.block _ (lt h.pbx) (fun e => h.ne (Option.some.inj e))).trans h.pbx, h.bel.grown hg h.bel.size (fun q hq => by have := Option.some.inj hq; omega), h.big, h.ne⟩
theorem RwSt.alloc {w : World} {m g gp : Nat} {bc bo : Array Value} {F : Nat → Int × Int} {X : World} (h : RwSt w m g gp bc bo F X) (o : Obj) : RwSt w m g gp bc bo F (X.alloc o) := by
  obtain ⟨vals, hp⟩ := h.plc
  exact h.grow ⟨vals, hp.any (World.grownBy_alloc _ _ none)⟩ (World.grownBy_alloc _ _ _)
/-- One call of the closure. -/
theorem RwSt.step {w : World} {m g gp : Nat} {bc : Array Value} {F : Nat → Int × Int} {X : World} {b' o' no co arc p : Nat} {v2 : Value} {dx dy : Int} (hAdd : AddOk) (h : RwSt w m g gp bc #[.slice (some ⟨b', o', none⟩) no co] F X) (hF : smallF F 10) (hdx : -1 ≤ dx ∧ dx ≤ 1) (hdy : -1 ≤ dy ∧ dy ≤ 1) (ha : 1 ≤ arc) (han : arc ≤ no) (hno : no ≤ 40) (hp : p < m) (hb : b' < w.heap.size) (cA : w.cell? ⟨b', o' + (arc - 1), none⟩ = some (.int .i64 (p : Nat))) (h2 : Poly.Poly X X.heap.size v2 (aPol dx dy)) :
    Calls Try.prog 205 #[.int .i64 (arc : Nat), v2, .pointer (some ⟨w.heap.size + 1, 0, none⟩), .pointer (some ⟨gp, 0, none⟩)] X fun e w' => e = .returned (.tuple #[]) ∧ RwSt w m g gp bc #[.slice (some ⟨b', o', none⟩) no co] (addF F p dx dy) w' := by
  obtain ⟨vals, hpl⟩ := h.plc
  refine (alexAdd_any hAdd w.heap.size m g (w.heap.size + 1) gp vals F (some ⟨b', o', none⟩) no co b' o' arc p v2 dx dy X h.bel.size hF hdx hdy ha han hno hp rfl h.obx h.pbx (bcell h.bel hb cA) h2 hpl).mono ?_
  rintro e w' ⟨e1, hv, hg⟩
  exact ⟨e1, h.grow hv hg⟩

set_option maxHeartbeats 8000000 in
set_option maxRecDepth 100000 in
theorem alexRow_any (hAdd : AddOk) (C : List Cr) (xa xb xc xd : Nat) (P : Bool) (oa ob oc : Nat) (m : Nat) (ao : Option Addr) (co bo oo : Nat) (w : World) (hm : m ≤ 40) (hl : C.length ≤ 16) (hao : ao = some ⟨bo, oo, none⟩) (hbo : bo < w.heap.size)
    (la : 1 ≤ xa ∧ xa ≤ 2 * C.length) (lb : 1 ≤ xb ∧ xb ≤ 2 * C.length) (lc : 1 ≤ xc ∧ xc ≤ 2 * C.length) (ma : oa < m) (mb : ob < m) (mc : oc < m)
    (ca : w.cell? ⟨bo, oo + (xa - 1), none⟩ = some (.int .i64 (oa : Nat))) (cb : w.cell? ⟨bo, oo + (xb - 1), none⟩ = some (.int .i64 (ob : Nat))) (cc : w.cell? ⟨bo, oo + (xc - 1), none⟩ = some (.int .i64 (oc : Nat))) :
    Calls Try.prog 181 #[.agg #[.int .i64 (xa : Nat), .int .i64 (xb : Nat), .int .i64 (xc : Nat), .int .i64 (xd : Nat), .bool P], .slice ao (2 * C.length) co, .int .i64 (m : Nat)] w fun e w' => ∃ g vals, e = .returned (.slice (some ⟨g, 0, none⟩) m m) ∧ PlcAt w.heap.size m g vals (rowF (if P = true then oc else oa) (if P = true then oa else oc) ob) w' ∧ Below w.heap.size w w' := by
  obtain ⟨i1, hj, hy0, hy1, hy2⟩ := info_parts infoTerms
  have HADD : Hid AddOk := hAdd
  have HCA : Hid (w.cell? ⟨bo, oo + (xa - 1), none⟩ = some (.int .i64 (oa : Nat)) ∧ w.cell? ⟨bo, oo + (xb - 1), none⟩ = some (.int .i64 (ob : Nat)) ∧ w.cell? ⟨bo, oo + (xc - 1), none⟩ = some (.int .i64 (oc : Nat))) := ⟨ca, cb, cc⟩
  clear ca cb cc hAdd
  subst hao
  obtain ⟨W0, hW0⟩ : ∃ W, W = (w.alloc (.cells #[.int .i64 (xa : Nat), .int .i64 (xb : Nat), .int .i64 (xc : Nat), .int .i64 (xd : Nat), .bool P] 70)).alloc (.cells #[.slice (some ⟨bo, oo, none⟩) (2 * C.length) co] 61) := ⟨_, rfl⟩
  have HW0 : Hid (W0 = (w.alloc (.cells #[.int .i64 (xa : Nat), .int .i64 (xb : Nat), .int .i64 (xc : Nat), .int .i64 (xd : Nat), .bool P] 70)).alloc (.cells #[.slice (some ⟨bo, oo, none⟩) (2 * C.length) co] 61)) := hW0
  have HB0 : Hid (Below w.heap.size w W0) := (by rw [hW0]; exact below2 _ _ _ : Below w.heap.size w W0)
  have hs0 : W0.heap.size = w.heap.size + 2 := by rw [hW0]; simp
  have HT0 : Hid (W0.heap[w.heap.size]? = some (.cells #[.int .i64 (xa : Nat), .int .i64 (xb : Nat), .int .i64 (xc : Nat), .int .i64 (xd : Nat), .bool P] 70 (0, 0)) ∧ W0.heap[w.heap.size + 1]? = some (.cells #[.slice (some ⟨bo, oo, none⟩) (2 * C.length) co] 61 (0, 0))) := (by rw [hW0]; exact ⟨alloc_old (alloc_at rfl), alloc_at (by simp)⟩ : W0.heap[w.heap.size]? = some (.cells #[.int .i64 (xa : Nat), .int .i64 (xb : Nat), .int .i64 (xc : Nat), .int .i64 (xd : Nat), .bool P] 70 (0, 0)) ∧ W0.heap[w.heap.size + 1]? = some (.cells #[.slice (some ⟨bo, oo, none⟩) (2 * C.length) co] 61 (0, 0)))
  have HSZ : Hid (W0.heap.size = w.heap.size + 2) := hs0
  have hs0' : w.heap.size + 2 ≤ W0.heap.size := by omega
  clear hW0 hs0
  go_enter Try.func181, Try.ntmps181
  go_wp2_with (first | (at_make; rw [← HW0.out]; refine wpList_make_full _ rfl _ _ 37 rfl w.heap.size 22 i1 (.slice none 0 0) 1 Try.underlying37 hj hy0 hy1 .i64 .i64 _ _ m rfl rfl rfl rfl (by rw [hy2]; omega) (by unfold maxLen; omega) (by omega) ?_; intro w2 hrow hg2; refine Hid.out ?_))
  refine Lib.hid ?_
  rw [made_nilsV] at hrow
  obtain ⟨g, hgE⟩ : ∃ g, W0.heap.size = g := ⟨_, rfl⟩
  rw [hgE] at hrow hs0' ⊢
  have HPL : Hid (PlcAt w.heap.size m g (fun _ => .slice none 0 0) zeroF w2) := ⟨hrow, fun j _ => World.ownsRow_nil _ _ _ _⟩
  have hlt2 : g < w2.heap.size := (hrow.lt g rfl).2
  have HX : Hid (RwSt w m g w2.heap.size #[.int .i64 (xa : Nat), .int .i64 (xb : Nat), .int .i64 (xc : Nat), .int .i64 (xd : Nat), .bool P] #[.slice (some ⟨bo, oo, none⟩) (2 * C.length) co] zeroF (w2.alloc (.cells #[.slice (some ⟨g, 0, none⟩) m m] 37))) := (by
    have hga := World.grownBy_alloc w2 (.cells #[.slice (some ⟨g, 0, none⟩) m m] 37) none
    have l0 : w.heap.size < W0.heap.size := by have := HSZ.out; omega
    have l1 : w.heap.size + 1 < W0.heap.size := by have := HSZ.out; omega
    have z2 := hg2.size
    refine ⟨⟨_, HPL.out.any hga⟩, ?_, ?_, alloc_at rfl, (HB0.out.grown hg2 HB0.out.size (fun q hq => by cases hq)).alloc (by have := HB0.out.size; omega) _, hs0', by omega⟩
    · exact alloc_old ((hg2.block _ l0 (by simp)).trans HT0.out.1)
    · exact alloc_old ((hg2.block _ l1 (by simp)).trans HT0.out.2) : RwSt w m g w2.heap.size #[.int .i64 (xa : Nat), .int .i64 (xb : Nat), .int .i64 (xc : Nat), .int .i64 (xd : Nat), .bool P] #[.slice (some ⟨bo, oo, none⟩) (2 * C.length) co] zeroF (w2.alloc (.cells #[.slice (some ⟨g, 0, none⟩) m m] 37)))
  obtain ⟨X0, hX0⟩ : ∃ X, X = w2.alloc (.cells #[.slice (some ⟨g, 0, none⟩) m m] 37) := ⟨_, rfl⟩
  have HX0 : Hid (X0 = w2.alloc (.cells #[.slice (some ⟨g, 0, none⟩) m m] 37)) := hX0
  rw [← hX0] at HX
  have k0 : X0.cell? ⟨w.heap.size, 0, none⟩ = some (.int .i64 (xa : Nat)) := block_cell HX.out.cbx rfl
  have k2 : X0.cell? ⟨w.heap.size, 2, none⟩ = some (.int .i64 (xc : Nat)) := block_cell HX.out.cbx rfl
  have k4 : X0.cell? ⟨w.heap.size, 4, none⟩ = some (.bool P) := block_cell HX.out.cbx rfl
  have a1 : ([(0, 1)] : List (Int × Int)) = aPol 1 0 := by simp [aPol]
  have a2 : ([(1, -1)] : List (Int × Int)) = aPol 0 (-1) := by simp [aPol]
  have a3 : ([(0, -1), (1, 1)] : List (Int × Int)) = aPol (-1) 1 := by simp [aPol]
  have HA1 : Hid (([(0, 1)] : List (Int × Int)) = aPol 1 0 ∧ ([(1, -1)] : List (Int × Int)) = aPol 0 (-1) ∧ ([(0, -1), (1, 1)] : List (Int × Int)) = aPol (-1) 1) := ⟨a1, a2, a3⟩
  clear hrow hg2 hX0 hgE a1 a2 a3 HPL
  go_upto_region 3 with (fail)
  rw [← HX0.out]
  clear HX0
  go_quiet (fail)
  obtain ⟨X1, hX1⟩ : ∃ X, X = X0.drewN nq := ⟨_, rfl⟩
  rw [← hX1]
  have HX1 : Hid (RwSt w m g w2.heap.size #[.int .i64 (xa : Nat), .int .i64 (xb : Nat), .int .i64 (xc : Nat), .int .i64 (xd : Nat), .bool P] #[.slice (some ⟨bo, oo, none⟩) (2 * C.length) co] zeroF X1) := (by
    have hb : Below X0.heap.size X0 X1 := by rw [hX1]; exact below_drewN (Below.refl _ _) _
    obtain ⟨vals, hp⟩ := HX.out.plc
    exact HX.out.grow ⟨vals, hp.any (grown_below hb none)⟩ (grown_below hb _) : RwSt w m g w2.heap.size #[.int .i64 (xa : Nat), .int .i64 (xb : Nat), .int .i64 (xc : Nat), .int .i64 (xd : Nat), .bool P] #[.slice (some ⟨bo, oo, none⟩) (2 * C.length) co] zeroF X1)
  have hl2 : 2 * C.length ≤ 40 := by omega
  clear hX1 k0 k2 k4 HX
  have k4 : X1.cell? ⟨w.heap.size, 4, none⟩ = some (.bool P) := block_cell HX1.out.cbx rfl
  cases P with
  | true =>
    have n0 : smallF zeroF 10 := fun j => by have := small_zero j; omega
    have n1 : smallF (addF zeroF oc 1 0) 10 := fun j => by have := small_add small_zero oc (dx := 1) (dy := 0) (by omega) (by omega) j; omega
    have n2 : smallF (addF (addF zeroF oc 1 0) oa 0 (-1)) 10 := fun j => by have := small_add (small_add small_zero oc (dx := 1) (dy := 0) (by omega) (by omega)) oa (dx := 0) (dy := -1) (by omega) (by omega) j; omega
    have HN : Hid (smallF zeroF 10 ∧ smallF (addF zeroF oc 1 0) 10 ∧ smallF (addF (addF zeroF oc 1 0) oa 0 (-1)) 10) := ⟨n0, n1, n2⟩
    clear n0 n1 n2
    have HC1 : Hid (Calls Try.prog 205 #[.int .i64 (xc : Nat), .slice (some ⟨X1.heap.size, 0, none⟩) 1 1, .pointer (some ⟨w.heap.size + 1, 0, none⟩), .pointer (some ⟨w2.heap.size, 0, none⟩)] (X1.alloc (.cells #[.int .i64 0, .int .i64 1] 109)) fun e w' => e = .returned (.tuple #[]) ∧ RwSt w m g w2.heap.size #[.int .i64 (xa : Nat), .int .i64 (xb : Nat), .int .i64 (xc : Nat), .int .i64 (xd : Nat), .bool true] #[.slice (some ⟨bo, oo, none⟩) (2 * C.length) co] (addF zeroF oc 1 0) w') := RwSt.step HADD.out (HX1.out.alloc _) HN.out.1 (by omega) (by omega) lc.1 lc.2 (by omega) (by omega) hbo HCA.out.2.2 (by rw [← HA1.out.1]; exact poly_new1 X1 0 1 109)
    go_wp2_with (go_at_call 205; refine HC1.out.mono ?_; rintro e9 w3 ⟨rfl, hs3⟩; refine Hid.out ?_)
    refine Lib.hid ?_
    have HX3 : Hid (RwSt w m g w2.heap.size #[.int .i64 (xa : Nat), .int .i64 (xb : Nat), .int .i64 (xc : Nat), .int .i64 (xd : Nat), .bool true] #[.slice (some ⟨bo, oo, none⟩) (2 * C.length) co] (addF zeroF oc 1 0) w3) := hs3
    have HC3 : Hid (Calls Try.prog 205 #[.int .i64 (xa : Nat), .slice (some ⟨w3.heap.size, 0, none⟩) 1 1, .pointer (some ⟨w.heap.size + 1, 0, none⟩), .pointer (some ⟨w2.heap.size, 0, none⟩)] (w3.alloc (.cells #[.int .i64 1, .int .i64 (-1)] 109)) fun e w' => e = .returned (.tuple #[]) ∧ RwSt w m g w2.heap.size #[.int .i64 (xa : Nat), .int .i64 (xb : Nat), .int .i64 (xc : Nat), .int .i64 (xd : Nat), .bool true] #[.slice (some ⟨bo, oo, none⟩) (2 * C.length) co] (addF (addF zeroF oc 1 0) oa 0 (-1)) w') := RwSt.step HADD.out (HX3.out.alloc _) HN.out.2.1 (by omega) (by omega) la.1 la.2 (by omega) (by omega) hbo HCA.out.1 (by rw [← HA1.out.2.1]; exact poly_new1 w3 1 (-1) 109)
    clear hs3
    go_wp2_with (go_at_call 205; refine HC3.out.mono ?_; rintro e9 w4 ⟨rfl, hs4⟩; refine Hid.out ?_)
    refine Lib.hid ?_
    have HX4 : Hid (RwSt w m g w2.heap.size #[.int .i64 (xa : Nat), .int .i64 (xb : Nat), .int .i64 (xc : Nat), .int .i64 (xd : Nat), .bool true] #[.slice (some ⟨bo, oo, none⟩) (2 * C.length) co] (addF (addF zeroF oc 1 0) oa 0 (-1)) w4) := hs4
    have k1 : w4.cell? ⟨w.heap.size, 1, none⟩ = some (.int .i64 (xb : Nat)) := block_cell HX4.out.cbx rfl
    have HC4 : Hid (Calls Try.prog 205 #[.int .i64 (xb : Nat), .slice (some ⟨w4.heap.size, 0, none⟩) 2 2, .pointer (some ⟨w.heap.size + 1, 0, none⟩), .pointer (some ⟨w2.heap.size, 0, none⟩)] (w4.alloc (.cells #[.int .i64 0, .int .i64 (-1), .int .i64 1, .int .i64 1] 109)) fun e w' => e = .returned (.tuple #[]) ∧ RwSt w m g w2.heap.size #[.int .i64 (xa : Nat), .int .i64 (xb : Nat), .int .i64 (xc : Nat), .int .i64 (xd : Nat), .bool true] #[.slice (some ⟨bo, oo, none⟩) (2 * C.length) co] (addF (addF (addF zeroF oc 1 0) oa 0 (-1)) ob (-1) 1) w') := RwSt.step HADD.out (HX4.out.alloc _) HN.out.2.2 (by omega) (by omega) lb.1 lb.2 (by omega) (by omega) hbo HCA.out.2.1 (by rw [← HA1.out.2.2]; exact poly_new2 w4 0 (-1) 1 1 109)
    clear hs4
    go_wp2_with (go_at_call 205; refine HC4.out.mono ?_; rintro e9 w5 ⟨rfl, hs5⟩; refine Hid.out ?_)
    refine Lib.hid ?_
    have HX5 : Hid (RwSt w m g w2.heap.size #[.int .i64 (xa : Nat), .int .i64 (xb : Nat), .int .i64 (xc : Nat), .int .i64 (xd : Nat), .bool true] #[.slice (some ⟨bo, oo, none⟩) (2 * C.length) co] (addF (addF (addF zeroF oc 1 0) oa 0 (-1)) ob (-1) 1) w5) := hs5
    have p0 : w5.cell? ⟨w2.heap.size, 0, none⟩ = some (.slice (some ⟨g, 0, none⟩) m m) := block_cell HX5.out.pbx rfl
    clear hs5 k1
    go_wp2
    go_ret
    obtain ⟨vals, hp⟩ := HX5.out.plc
    exact ⟨g, rfl, ⟨vals, hp⟩, HX5.out.bel⟩
  | false =>
    have n0 : smallF zeroF 10 := fun j => by have := small_zero j; omega
    have n1 : smallF (addF zeroF oa 1 0) 10 := fun j => by have := small_add small_zero oa (dx := 1) (dy := 0) (by omega) (by omega) j; omega
    have n2 : smallF (addF (addF zeroF oa 1 0) oc 0 (-1)) 10 := fun j => by have := small_add (small_add small_zero oa (dx := 1) (dy := 0) (by omega) (by omega)) oc (dx := 0) (dy := -1) (by omega) (by omega) j; omega
    have HN : Hid (smallF zeroF 10 ∧ smallF (addF zeroF oa 1 0) 10 ∧ smallF (addF (addF zeroF oa 1 0) oc 0 (-1)) 10) := ⟨n0, n1, n2⟩
    clear n0 n1 n2
    have HC1 : Hid (Calls Try.prog 205 #[.int .i64 (xa : Nat), .slice (some ⟨X1.heap.size, 0, none⟩) 1 1, .pointer (some ⟨w.heap.size + 1, 0, none⟩), .pointer (some ⟨w2.heap.size, 0, none⟩)] (X1.alloc (.cells #[.int .i64 0, .int .i64 1] 109)) fun e w' => e = .returned (.tuple #[]) ∧ RwSt w m g w2.heap.size #[.int .i64 (xa : Nat), .int .i64 (xb : Nat), .int .i64 (xc : Nat), .int .i64 (xd : Nat), .bool false] #[.slice (some ⟨bo, oo, none⟩) (2 * C.length) co] (addF zeroF oa 1 0) w') := RwSt.step HADD.out (HX1.out.alloc _) HN.out.1 (by omega) (by omega) la.1 la.2 (by omega) (by omega) hbo HCA.out.1 (by rw [← HA1.out.1]; exact poly_new1 X1 0 1 109)
    go_wp2_with (go_at_call 205; refine HC1.out.mono ?_; rintro e9 w3 ⟨rfl, hs3⟩; refine Hid.out ?_)
    refine Lib.hid ?_
    have HX3 : Hid (RwSt w m g w2.heap.size #[.int .i64 (xa : Nat), .int .i64 (xb : Nat), .int .i64 (xc : Nat), .int .i64 (xd : Nat), .bool false] #[.slice (some ⟨bo, oo, none⟩) (2 * C.length) co] (addF zeroF oa 1 0) w3) := hs3
    have HC3 : Hid (Calls Try.prog 205 #[.int .i64 (xc : Nat), .slice (some ⟨w3.heap.size, 0, none⟩) 1 1, .pointer (some ⟨w.heap.size + 1, 0, none⟩), .pointer (some ⟨w2.heap.size, 0, none⟩)] (w3.alloc (.cells #[.int .i64 1, .int .i64 (-1)] 109)) fun e w' => e = .returned (.tuple #[]) ∧ RwSt w m g w2.heap.size #[.int .i64 (xa : Nat), .int .i64 (xb : Nat), .int .i64 (xc : Nat), .int .i64 (xd : Nat), .bool false] #[.slice (some ⟨bo, oo, none⟩) (2 * C.length) co] (addF (addF zeroF oa 1 0) oc 0 (-1)) w') := RwSt.step HADD.out (HX3.out.alloc _) HN.out.2.1 (by omega) (by omega) lc.1 lc.2 (by omega) (by omega) hbo HCA.out.2.2 (by rw [← HA1.out.2.1]; exact poly_new1 w3 1 (-1) 109)
    clear hs3
    go_wp2_with (go_at_call 205; refine HC3.out.mono ?_; rintro e9 w4 ⟨rfl, hs4⟩; refine Hid.out ?_)
    refine Lib.hid ?_
    have HX4 : Hid (RwSt w m g w2.heap.size #[.int .i64 (xa : Nat), .int .i64 (xb : Nat), .int .i64 (xc : Nat), .int .i64 (xd : Nat), .bool false] #[.slice (some ⟨bo, oo, none⟩) (2 * C.length) co] (addF (addF zeroF oa 1 0) oc 0 (-1)) w4) := hs4
    have k1 : w4.cell? ⟨w.heap.size, 1, none⟩ = some (.int .i64 (xb : Nat)) := block_cell HX4.out.cbx rfl
    have HC4 : Hid (Calls Try.prog 205 #[.int .i64 (xb : Nat), .slice (some ⟨w4.heap.size, 0, none⟩) 2 2, .pointer (some ⟨w.heap.size + 1, 0, none⟩), .pointer (some ⟨w2.heap.size, 0, none⟩)] (w4.alloc (.cells #[.int .i64 0, .int .i64 (-1), .int .i64 1, .int .i64 1] 109)) fun e w' => e = .returned (.tuple #[]) ∧ RwSt w m g w2.heap.size #[.int .i64 (xa : Nat), .int .i64 (xb : Nat), .int .i64 (xc : Nat), .int .i64 (xd : Nat), .bool false] #[.slice (some ⟨bo, oo, none⟩) (2 * C.length) co] (addF (addF (addF zeroF oa 1 0) oc 0 (-1)) ob (-1) 1) w') := RwSt.step HADD.out (HX4.out.alloc _) HN.out.2.2 (by omega) (by omega) lb.1 lb.2 (by omega) (by omega) hbo HCA.out.2.1 (by rw [← HA1.out.2.2]; exact poly_new2 w4 0 (-1) 1 1 109)
    clear hs4
    go_wp2_with (go_at_call 205; refine HC4.out.mono ?_; rintro e9 w5 ⟨rfl, hs5⟩; refine Hid.out ?_)
    refine Lib.hid ?_
    have HX5 : Hid (RwSt w m g w2.heap.size #[.int .i64 (xa : Nat), .int .i64 (xb : Nat), .int .i64 (xc : Nat), .int .i64 (xd : Nat), .bool false] #[.slice (some ⟨bo, oo, none⟩) (2 * C.length) co] (addF (addF (addF zeroF oa 1 0) oc 0 (-1)) ob (-1) 1) w5) := hs5
    have p0 : w5.cell? ⟨w2.heap.size, 0, none⟩ = some (.slice (some ⟨g, 0, none⟩) m m) := block_cell HX5.out.pbx rfl
    clear hs5 k1
    go_wp2
    go_ret
    obtain ⟨vals, hp⟩ := HX5.out.plc
    exact ⟨g, rfl, ⟨vals, hp⟩, HX5.out.bel⟩
end Go.Proofs.Ytnhllpaoplfgpaa
/- The walks of ref.level and ref.OversOf. -/
namespace Go.Proofs.Ytnhllpaoplfgpaa
open Go.RowKit

set_option maxHeartbeats 4000000 in
set_option maxRecDepth 100000 in
theorem level_any (B g n c x y : Nat) (L : List Nat) (w : World) (hx : x < n) (hy : y < n) (hL : w.ownsRow B 3 1 (.slice (some ⟨g, 0, none⟩) n c) n (nats L)) :
    Calls Try.prog 170 #[.slice (some ⟨g, 0, none⟩) n c, .int .i64 x, .int .i64 y] w fun e w' => e = .returned (.tuple #[]) ∧ w'.ownsRow B 3 1 (.slice (some ⟨g, 0, none⟩) n c) n (nats (lev L x y)) ∧ w.grownBy w' (some g) := by
  have HR : Hid (w.ownsRow B 3 1 (.slice (some ⟨g, 0, none⟩) n c) n (nats L)) := hL
  have hll : L.length = n := by have h := hL.1; rw [nats_len] at h; omega
  have e0 : w.cell? ⟨g, x, none⟩ = some (.int .i64 (L.getD x 0 : Nat)) := by
    rw [hL.cellAt x (by omega)]; exact nats_get _ x (by omega)
  have e1 : w.cell? ⟨g, y, none⟩ = some (.int .i64 (L.getD y 0 : Nat)) := by
    rw [hL.cellAt y (by omega)]; exact nats_get _ y (by omega)
  have hgl := (hL.lt g rfl).2
  clear hL hll
  go_enter Try.func170, Try.ntmps170
  by_cases hlt : L.getD x 0 < L.getD y 0
  · have hdx : decide (((L.getD x 0 : Nat) : Int) < ((L.getD y 0 : Nat) : Int)) = true := by simp only [decide_eq_true_eq]; omega
    have hdx2 : decide (L.getD x 0 < L.getD y 0) = true := by simp only [decide_eq_true_eq]; omega
    have hst := HR.out.stored y (.int .i64 (L.getD x 0 : Nat))
    rw [nats_set] at hst
    have HLV : Hid (lev L x y = L.set y (L.getD x 0)) := (by unfold lev; rw [if_pos hlt] : lev L x y = L.set y (L.getD x 0))
    have HST : Hid ((w.setCell ⟨g, y, none⟩ (.int .i64 (L.getD x 0 : Nat))).drew.ownsRow B 3 1 (.slice (some ⟨g, 0, none⟩) n c) n (nats (lev L x y)) ∧ w.grownBy (w.setCell ⟨g, y, none⟩ (.int .i64 (L.getD x 0 : Nat))).drew (some g)) := (by rw [HLV.out]; exact ⟨own_any hst.1 (grown_below ((Below.refl _ _).drew) none), ⟨hst.2.os, hst.2.tape, hst.2.output, hst.2.size, hst.2.block⟩⟩ : (w.setCell ⟨g, y, none⟩ (.int .i64 (L.getD x 0 : Nat))).drew.ownsRow B 3 1 (.slice (some ⟨g, 0, none⟩) n c) n (nats (lev L x y)) ∧ w.grownBy (w.setCell ⟨g, y, none⟩ (.int .i64 (L.getD x 0 : Nat))).drew (some g))
    have z0 : w.frozen? ⟨g, y, none⟩ = false := HR.out.frozenAt y
    clear hst
    go_wp2
    go_region_held3 (fun w' => w'.cell? ⟨g, x, none⟩ = some (.int .i64 (L.getD x 0 : Nat)) ∧ w'.cell? ⟨g, y, none⟩ = some (.int .i64 (L.getD y 0 : Nat))) (exact ⟨e0, e1⟩) (fail)
    go_wp2
    exact bodyPost_end (v := .tuple #[]) (by simp [results, Try.results170]) rfl ⟨rfl, HST.out⟩
  · have hdx : decide (((L.getD x 0 : Nat) : Int) < ((L.getD y 0 : Nat) : Int)) = false := by simp only [decide_eq_false_iff_not]; omega
    have hdx2 : decide (L.getD x 0 < L.getD y 0) = false := by simp only [decide_eq_false_iff_not]; omega
    have hst := HR.out.stored x (.int .i64 (L.getD y 0 : Nat))
    rw [nats_set] at hst
    have HLV : Hid (lev L x y = L.set x (L.getD y 0)) := (by unfold lev; rw [if_neg hlt] : lev L x y = L.set x (L.getD y 0))
    have HST : Hid ((w.setCell ⟨g, x, none⟩ (.int .i64 (L.getD y 0 : Nat))).drew.ownsRow B 3 1 (.slice (some ⟨g, 0, none⟩) n c) n (nats (lev L x y)) ∧ w.grownBy (w.setCell ⟨g, x, none⟩ (.int .i64 (L.getD y 0 : Nat))).drew (some g)) := (by rw [HLV.out]; exact ⟨own_any hst.1 (grown_below ((Below.refl _ _).drew) none), ⟨hst.2.os, hst.2.tape, hst.2.output, hst.2.size, hst.2.block⟩⟩ : (w.setCell ⟨g, x, none⟩ (.int .i64 (L.getD y 0 : Nat))).drew.ownsRow B 3 1 (.slice (some ⟨g, 0, none⟩) n c) n (nats (lev L x y)) ∧ w.grownBy (w.setCell ⟨g, x, none⟩ (.int .i64 (L.getD y 0 : Nat))).drew (some g))
    have z0 : w.frozen? ⟨g, x, none⟩ = false := HR.out.frozenAt x
    clear hst
    go_wp2
    go_region_held3 (fun w' => w'.cell? ⟨g, x, none⟩ = some (.int .i64 (L.getD x 0 : Nat)) ∧ w'.cell? ⟨g, y, none⟩ = some (.int .i64 (L.getD y 0 : Nat))) (exact ⟨e0, e1⟩) (fail)
    go_wp2
    exact bodyPost_end (v := .tuple #[]) (by simp [results, Try.results170]) rfl ⟨rfl, HST.out⟩
/-- The numbers of those that are the lowest of theirs, below k. -/
def numTo (L : List Nat) (n k : Nat) : List Nat := (List.range n).map fun v => if v < k ∧ 1 ≤ v ∧ L.getD v 0 = v then rootsN L v else 0
theorem numTo_len (L : List Nat) (n k : Nat) : (numTo L n k).length = n := by simp [numTo]
theorem numTo_at (L : List Nat) (n k v : Nat) (hv : v < n) : (numTo L n k).getD v 0 = if v < k ∧ 1 ≤ v ∧ L.getD v 0 = v then rootsN L v else 0 := by simp [numTo, List.getD_eq_getElem?_getD, hv]
theorem numTo_zero (L : List Nat) (n : Nat) : List.replicate n 0 = numTo L n 1 := by
  refine List.ext_getElem (by simp [numTo]) fun j h1 h2 => ?_
  simp only [numTo, List.getElem_map, List.getElem_range, List.getElem_replicate]
  rw [if_neg (by omega)]
theorem numTo_yes (L : List Nat) (n k : Nat) (hk : 1 ≤ k) (h : L.getD k 0 = k) : (numTo L n k).set k (rootsN L k) = numTo L n (k + 1) := by
  refine List.ext_getElem (by simp [numTo]) fun j h1 h2 => ?_
  simp only [List.getElem_set, numTo, List.getElem_map, List.getElem_range]
  by_cases hj : k = j
  · subst hj; rw [if_pos rfl, if_pos ⟨by omega, hk, h⟩]
  · rw [if_neg hj]
    by_cases h3 : j < k ∧ 1 ≤ j ∧ L.getD j 0 = j
    · rw [if_pos h3, if_pos ⟨by omega, h3.2⟩]
    · rw [if_neg h3, if_neg (fun q => h3 ⟨by omega, q.2⟩)]
theorem numTo_no (L : List Nat) (n k : Nat) (h : L.getD k 0 ≠ k) : numTo L n k = numTo L n (k + 1) := by
  refine List.map_congr_left fun j _ => ?_
  by_cases h3 : j < k ∧ 1 ≤ j ∧ L.getD j 0 = j
  · rw [if_pos h3, if_pos ⟨by omega, h3.2⟩]
  · rw [if_neg h3, if_neg (fun q => h3 ⟨by have := q.1; have : j ≠ k := fun e => h (by rw [← e]; exact q.2.2); omega, q.2⟩)]
/-- The overpasses of the first arcs. -/
def ovL (C : List Cr) (k : Nat) : List Nat := (List.range k).map fun i => ovM C (i + 1)
theorem ovL_len (C : List Cr) (k : Nat) : (ovL C k).length = k := by simp [ovL]
theorem ovL_next (C : List Cr) (k : Nat) : ovL C k ++ [ovM C (k + 1)] = ovL C (k + 1) := by simp [ovL, List.range_succ]
theorem ovE_next (C : List Cr) (i : Nat) (hi : i < C.length) : (ovE C).take (i + 1) = (ovE C).take i ++ [((C.getD i Cr.none).b.toNat, (C.getD i Cr.none).d.toNat)] := by
  rw [List.take_add_one]
  congr 1
  simp [ovE, hi, List.getD_eq_getElem?_getD]
theorem ovE_all (C : List Cr) : (ovE C).take C.length = ovE C := List.take_of_length_le (by simp [ovE])
theorem levs_ov (V : List Nat) (C : List Cr) (i : Nat) (hi : i < C.length) : levs V ((ovE C).take (i + 1)) = lev (levs V ((ovE C).take i)) (C.getD i Cr.none).b.toNat (C.getD i Cr.none).d.toNat := by
  rw [ovE_next C i hi, levs_app]
  rfl

set_option maxHeartbeats 16000000 in
set_option maxRecDepth 100000 in
theorem oversOf_any (a : Option Addr) (cap : Nat) (C : List Cr) (loops : Int) (w : World) (hm : mayD C loops = true) (hD : Crs w w.heap.size (.slice a C.length cap) C) :
    Calls Try.prog 135 #[.agg #[.slice a C.length cap, .int .i64 loops]] w fun e w' => ∃ v, e = .returned v ∧ w'.ownsRow w.heap.size 3 1 v (2 * C.length) (nats (ovL C (2 * C.length))) ∧ Below w.heap.size w w' := by
  obtain ⟨s1, -, -, -⟩ := sizeB_iff (may_size hm)
  obtain ⟨i2, hk, hx0, hx1, hx2⟩ := info_parts infoInt
  have HM : Hid (mayD C loops = true) := hm
  have HD : Hid (Crs w w.heap.size (.slice a C.length cap) C) := hD
  clear hm hD
  obtain ⟨w0, hw0⟩ : ∃ w0, w0 = w.alloc (.cells #[.slice a C.length cap, .int .i64 loops] 44) := ⟨_, rfl⟩
  have HW0 : Hid (w0 = w.alloc (.cells #[.slice a C.length cap, .int .i64 loops] 44)) := hw0
  have hs0 : w0.heap.size = w.heap.size + 1 := by rw [hw0]; simp
  have HB0 : Hid (Below w.heap.size w w0) := (by rw [hw0]; exact (Below.refl _ _).alloc (Nat.le_refl _) _ : Below w.heap.size w w0)
  have HT0 : Hid (w0.heap[w.heap.size]? = some (.cells #[.slice a C.length cap, .int .i64 loops] 44 (0, 0))) := (by rw [hw0]; exact alloc_at rfl : w0.heap[w.heap.size]? = some (.cells #[.slice a C.length cap, .int .i64 loops] 44 (0, 0)))
  clear hw0
  have q1 : IntKind.i64.wrap (2 * (C.length : Int)) = 2 * (C.length : Int) := IntWalk.i64_in _ (by omega)
  have q2 : IntKind.i64.wrap (2 * (C.length : Int) + 1) = 2 * (C.length : Int) + 1 := IntWalk.i64_in _ (by omega)
  obtain ⟨N, hN⟩ : ∃ N, N = 2 * C.length + 1 := ⟨_, rfl⟩
  have HN : Hid (N = 2 * C.length + 1) := hN
  have hN1 : 1 ≤ N := by omega
  have hN2 : N ≤ 33 := by omega
  have qN : 2 * (C.length : Int) + 1 = (N : Int) := by omega
  clear hN
  go_enter Try.func135, Try.ntmps135
  go_wp2_with (first | (at_make; refine wpList_make_full _ rfl _ _ 61 rfl (w.heap.size + 1) 3 i2 (.int .i64 0) 1 Try.underlying61 hk hx0 hx1 .i64 .i64 _ _ N rfl rfl rfl rfl (by rw [hx2]; omega) (by unfold maxLen; omega) (by simp) ?_; intro w1 hrow hg1; refine Hid.out ?_))
  refine Lib.hid ?_
  rw [← HW0.out] at hrow hg1
  rw [made_zeroN, hs0, labTo_zero] at hrow
  have HP0 : Hid (w1.heap[w.heap.size]? = some (.cells #[.slice a C.length cap, .int .i64 loops] 44 (0, 0)) ∧ w1.ownsRow (w.heap.size + 1) 3 1 (.slice (some ⟨w.heap.size + 1, 0, none⟩) N N) N (nats (labTo N 0)) ∧ Below w.heap.size w w1) := ⟨(hg1.block _ (by omega) (by simp)).trans HT0.out, hrow, HB0.out.grown hg1 (by omega) (fun k hk => by cases hk)⟩
  clear hrow hg1 HT0 HB0 hs0 HW0
  go_wp2
  go_loopw [5] (fun v5 wr => ∃ i : Nat, i ≤ N ∧ v5 = .int .i64 (i : Nat) ∧ Hid (wr.heap[w.heap.size]? = some (.cells #[.slice a C.length cap, .int .i64 loops] 44 (0, 0)) ∧ wr.ownsRow (w.heap.size + 1) 3 1 (.slice (some ⟨w.heap.size + 1, 0, none⟩) N N) N (nats (labTo N i)) ∧ Below w.heap.size w wr)) (fun v5 _ => N - (intOf v5).toNat)
  case atStart => exact ⟨0, Nat.zero_le _, rfl, HP0.out⟩
  case round =>
    clear HP0
    rename World => W1
    obtain ⟨i, hin, rfl, hp⟩ := hrel
    have hlt := hp.out.2.1.lt (w.heap.size + 1) rfl
    by_cases hil : i < N
    · have hst := hp.out.2.1.stored i (.int .i64 (i : Nat))
      rw [nats_set, labTo_next] at hst
      have HST : Hid ((W1.setCell ⟨w.heap.size + 1, i, none⟩ (.int .i64 (i : Nat))).heap[w.heap.size]? = some (.cells #[.slice a C.length cap, .int .i64 loops] 44 (0, 0)) ∧ (W1.setCell ⟨w.heap.size + 1, i, none⟩ (.int .i64 (i : Nat))).ownsRow (w.heap.size + 1) 3 1 (.slice (some ⟨w.heap.size + 1, 0, none⟩) N N) N (nats (labTo N (i + 1))) ∧ Below w.heap.size w (W1.setCell ⟨w.heap.size + 1, i, none⟩ (.int .i64 (i : Nat)))) := ⟨(hst.2.block _ (by omega) (fun e => by have : w.heap.size = w.heap.size + 1 := Option.some.inj e; omega)).trans hp.out.1, hst.1, hp.out.2.2.grown hst.2 hp.out.2.2.size (fun q hq => by have := Option.some.inj hq; omega)⟩
      have e0 : W1.cell? ⟨w.heap.size + 1, i, none⟩ = some (.int .i64 ((labTo N i).getD i 0 : Nat)) := by
        rw [hp.out.2.1.cellAt i (by omega)]; exact nats_get _ i (by simp [labTo]; omega)
      have z0 : W1.frozen? ⟨w.heap.size + 1, i, none⟩ = false := hp.out.2.1.frozenAt i
      have hdi : (i : Int) ≤ 2 * (C.length : Int) := by omega
      clear hst
      go_wp2
      go_roundw
      case rel => exact ⟨i + 1, by omega, by go_num, HST.out⟩
      case measure => simp only [intOf]; omega
    · obtain rfl : N = i := by omega
      have HP1 : Hid (W1.heap[w.heap.size]? = some (.cells #[.slice a C.length cap, .int .i64 loops] 44 (0, 0)) ∧ W1.ownsRow (w.heap.size + 1) 3 1 (.slice (some ⟨w.heap.size + 1, 0, none⟩) N N) N (nats (levR (List.range N) (ovE C) 0)) ∧ Below w.heap.size w W1) := (by have h := hp.out; rw [labTo_all] at h; exact h : W1.heap[w.heap.size]? = some (.cells #[.slice a C.length cap, .int .i64 loops] 44 (0, 0)) ∧ W1.ownsRow (w.heap.size + 1) 3 1 (.slice (some ⟨w.heap.size + 1, 0, none⟩) N N) N (nats (levR (List.range N) (ovE C) 0)) ∧ Below w.heap.size w W1)
      have HLN : Hid (∀ r, (levR (List.range N) (ovE C) r).length = N) := fun r => (levR_lab (fun e he => by rw [HN.out]; exact ovE_lt HM.out e he) ⟨by simp, fun v hv => by simp [List.getD_eq_getElem?_getD, hv], fun v hv => by simp [List.getD_eq_getElem?_getD, hv, Con.refl]⟩ r).len
      clear hp
      go_wp2
      go_loopw [6] (fun v6 wr => ∃ r : Nat, r ≤ N ∧ v6 = .int .i64 (r : Nat) ∧ Hid (wr.heap[w.heap.size]? = some (.cells #[.slice a C.length cap, .int .i64 loops] 44 (0, 0)) ∧ wr.ownsRow (w.heap.size + 1) 3 1 (.slice (some ⟨w.heap.size + 1, 0, none⟩) N N) N (nats (levR (List.range N) (ovE C) r)) ∧ Below w.heap.size w wr)) (fun v6 _ => N - (intOf v6).toNat)
      case atStart => exact ⟨0, Nat.zero_le _, rfl, HP1.out⟩
      case round =>
        clear HP1
        rename World => W2
        obtain ⟨r, hrn, rfl, hp⟩ := hrel
        by_cases hrl : r < N
        · have hdr : decide ((r : Int) ≤ 2 * (C.length : Int)) = true := by simp; omega
          have hdr2 : decide (r ≤ 2 * C.length) = true := by simp; omega
          obtain ⟨V, hV⟩ : ∃ V, levR (List.range N) (ovE C) r = V := ⟨_, rfl⟩
          have HV : Hid (levR (List.range N) (ovE C) r = V) := hV
          have HVL : Hid (V.length = N) := (by rw [← hV]; exact HLN.out r : V.length = N)
          have HP2 : Hid (W2.heap[w.heap.size]? = some (.cells #[.slice a C.length cap, .int .i64 loops] 44 (0, 0)) ∧ W2.ownsRow (w.heap.size + 1) 3 1 (.slice (some ⟨w.heap.size + 1, 0, none⟩) N N) N (nats (levs V ((ovE C).take 0))) ∧ Below w.heap.size w W2) := (by have h := hp.out; rw [hV] at h; exact h : W2.heap[w.heap.size]? = some (.cells #[.slice a C.length cap, .int .i64 loops] 44 (0, 0)) ∧ W2.ownsRow (w.heap.size + 1) 3 1 (.slice (some ⟨w.heap.size + 1, 0, none⟩) N N) N (nats (levs V ((ovE C).take 0))) ∧ Below w.heap.size w W2)
          clear hp hV
          go_wp2
          go_loopw [7] (fun v7 wr => ∃ i : Nat, i ≤ C.length ∧ v7 = .int .i64 (i : Nat) ∧ Hid (wr.heap[w.heap.size]? = some (.cells #[.slice a C.length cap, .int .i64 loops] 44 (0, 0)) ∧ wr.ownsRow (w.heap.size + 1) 3 1 (.slice (some ⟨w.heap.size + 1, 0, none⟩) N N) N (nats (levs V ((ovE C).take i))) ∧ Below w.heap.size w wr)) (fun v7 _ => C.length - (intOf v7).toNat)
          case atStart => exact ⟨0, Nat.zero_le _, rfl, HP2.out⟩
          case round =>
            clear HP2
            rename World => W3
            obtain ⟨i, hin, rfl, hp⟩ := hrel
            have t0 : W3.cell? ⟨w.heap.size, 0, none⟩ = some (.slice a C.length cap) := block_cell hp.out.1 rfl
            have hs3 := hp.out.2.2.size
            have hgl := (hp.out.2.1.lt (w.heap.size + 1) rfl).2
            by_cases hil : i < C.length
            · obtain ⟨b, off, ea, hbw, hC⟩ := crs_some HD.out (by omega)
              rw [ea] at t0
              have HCC : Hid (CrossAt W3 b off C) := hC.on hp.out.2.2 hbw
              have ff := may_fit HM.out i 1 hil (by omega)
              have fg := may_fit HM.out i 3 hil (by omega)
              obtain ⟨ca, cb, cc, cd, cp⟩ := HCC.out i hil
              have HX : Hid ((C.getD i Cr.none).arc 1 = (C.getD i Cr.none).b ∧ (C.getD i Cr.none).arc 3 = (C.getD i Cr.none).d) := ⟨rfl, rfl⟩
              have f1 := ff.1
              have f2 := ff.2.1
              have f3 := fg.1
              have f4 := fg.2.1
              rw [HX.out.1] at f1 f2
              rw [HX.out.2] at f3 f4
              obtain ⟨x, hx⟩ : ∃ x : Nat, (C.getD i Cr.none).b = (x : Int) := ⟨(C.getD i Cr.none).b.toNat, by omega⟩
              obtain ⟨y, hy⟩ : ∃ y : Nat, (C.getD i Cr.none).d = (y : Int) := ⟨(C.getD i Cr.none).d.toNat, by omega⟩
              have hxN : x < N := by have := HN.out; omega
              have hyN : y < N := by have := HN.out; omega
              have HLV : Hid (levs V ((ovE C).take (i + 1)) = lev (levs V ((ovE C).take i)) x y) := (by rw [levs_ov V C i hil, hx, hy]; rfl : levs V ((ovE C).take (i + 1)) = lev (levs V ((ovE C).take i)) x y)
              rw [hx] at cb
              rw [hy] at cd
              clear hC ff fg f1 f2 f3 f4 hx hy ca cc cp ea
              go_wp2
              have HU : Hid (W3.drew.ownsRow (w.heap.size + 1) 3 1 (.slice (some ⟨w.heap.size + 1, 0, none⟩) N N) N (nats (levs V ((ovE C).take i)))) := own_any hp.out.2.1 (grown_below ((Below.refl _ _).drew) none)
              go_region_held3 (fun w' => w'.cell? ⟨w.heap.size, 0, none⟩ = some (.slice (some ⟨b, off, none⟩) C.length cap) ∧ w'.cell? ⟨b, off + i * 5 + 1, none⟩ = some (.int .i64 (x : Nat)) ∧ w'.cell? ⟨b, off + i * 5 + 3, none⟩ = some (.int .i64 (y : Nat))) (first | exact HK4.out | exact ⟨t0, cb, cd⟩) (first
                | (go_at_call 170; refine (level_any _ _ _ _ x y _ _ hxN hyN HU.out).mono ?_; rintro e9 w4 ⟨rfl, hr4, hg4⟩
                   have HB4 : Hid (Below (w.heap.size + 1) W3.drew w4) := ⟨hg4.os, hg4.tape, hg4.output, hg4.size, fun q hq => hg4.block q (by show q < W3.heap.size; omega) (fun e => by have := Option.some.inj e; omega)⟩
                   have HK4 : Hid (w4.cell? ⟨w.heap.size, 0, none⟩ = some (.slice (some ⟨b, off, none⟩) C.length cap) ∧ w4.cell? ⟨b, off + i * 5 + 1, none⟩ = some (.int .i64 (x : Nat)) ∧ w4.cell? ⟨b, off + i * 5 + 3, none⟩ = some (.int .i64 (y : Nat))) := ⟨bcell HB4.out (by omega) t0, bcell HB4.out (by omega) cb, bcell HB4.out (by omega) cd⟩))
              have HST : Hid (w4.heap[w.heap.size]? = some (.cells #[.slice a C.length cap, .int .i64 loops] 44 (0, 0)) ∧ w4.ownsRow (w.heap.size + 1) 3 1 (.slice (some ⟨w.heap.size + 1, 0, none⟩) N N) N (nats (levs V ((ovE C).take (i + 1)))) ∧ Below w.heap.size w w4) := (by rw [HLV.out]; exact ⟨(hg4.block _ (by show _ < W3.heap.size; omega) (fun e => by have : w.heap.size = w.heap.size + 1 := Option.some.inj e; omega)).trans hp.out.1, hr4, (hp.out.2.2.drew).grown hg4 (by show _ ≤ W3.heap.size; omega) (fun q hq => by have := Option.some.inj hq; omega)⟩ : w4.heap[w.heap.size]? = some (.cells #[.slice a C.length cap, .int .i64 loops] 44 (0, 0)) ∧ w4.ownsRow (w.heap.size + 1) 3 1 (.slice (some ⟨w.heap.size + 1, 0, none⟩) N N) N (nats (levs V ((ovE C).take (i + 1)))) ∧ Below w.heap.size w w4)
              clear hr4 hg4
              go_wp2
              go_roundw
              case rel => exact ⟨i + 1, by omega, by go_num, HST.out⟩
              case measure => simp only [intOf]; omega
            · obtain rfl : i = C.length := by omega
              go_wp2
              go_roundw
              case rel => exact ⟨r + 1, by omega, by go_num, (by have h := hp.out; rw [ovE_all, ← HV.out] at h; exact h : W3.heap[w.heap.size]? = some (.cells #[.slice a C.length cap, .int .i64 loops] 44 (0, 0)) ∧ W3.ownsRow (w.heap.size + 1) 3 1 (.slice (some ⟨w.heap.size + 1, 0, none⟩) N N) N (nats (levR (List.range N) (ovE C) (r + 1))) ∧ Below w.heap.size w W3)⟩
              case measure => simp only [intOf]; omega
        · obtain rfl : N = r := by omega
          have HLE : Hid (levR (List.range N) (ovE C) N = lowM C) := (by rw [HN.out]; exact (levR_least (ovE_lt HM.out) _ (Nat.le_refl _)).eq (lowM_least (ovE_lt HM.out)) : levR (List.range N) (ovE C) N = lowM C)
          have HLS : Hid (Least (ovE C) N (lowM C)) := (by rw [HN.out]; exact lowM_least (ovE_lt HM.out) : Least (ovE C) N (lowM C))
          have HLP : Hid (∀ v, 1 ≤ v → v < N → 1 ≤ (lowM C).getD v 0) := fun v h1 h2 => HLS.out.pos (fun e he => ⟨(ovE_in HM.out e he).1.1, (ovE_in HM.out e he).2.1⟩) h2 h1
          have HP3 : Hid (W2.ownsRow (w.heap.size + 1) 3 1 (.slice (some ⟨w.heap.size + 1, 0, none⟩) N N) N (nats (lowM C)) ∧ Below w.heap.size w W2) := (by have h := hp.out; rw [HLE.out] at h; exact h.2 : W2.ownsRow (w.heap.size + 1) 3 1 (.slice (some ⟨w.heap.size + 1, 0, none⟩) N N) N (nats (lowM C)) ∧ Below w.heap.size w W2)
          have hs2 : w.heap.size + 2 ≤ W2.heap.size := by have := (hp.out.2.1.lt (w.heap.size + 1) rfl).2; omega
          have hdN : decide ((N : Int) ≤ 2 * (C.length : Int)) = false := by simp only [decide_eq_false_iff_not]; omega
          clear hp HLE HLN
          go_wp2_with (first | (at_make; refine wpList_make_full _ rfl _ _ 61 rfl (w.heap.size + 1) 3 i2 (.int .i64 0) 1 Try.underlying61 hk hx0 hx1 .i64 .i64 _ _ N rfl rfl rfl rfl (by rw [hx2]; omega) (by unfold maxLen; omega) (by omega) ?_; intro w3 hrow hg1; refine Hid.out ?_))
          refine Lib.hid ?_
          rw [made_zeroN, numTo_zero (lowM C)] at hrow
          have HP4 : Hid (w3.ownsRow (w.heap.size + 1) 3 1 (.slice (some ⟨w.heap.size + 1, 0, none⟩) N N) N (nats (lowM C)) ∧ w3.ownsRow (w.heap.size + 1) 3 1 (.slice (some ⟨W2.heap.size, 0, none⟩) N N) N (nats (numTo (lowM C) N (0 + 1))) ∧ w3.ownsRow (W2.heap.size + 1) 3 1 (.slice none 0 0) (0) (nats (ovL C (0))) ∧ Below w.heap.size w w3) := ⟨own_any HP3.out.1 hg1, hrow, World.ownsRow_nil _ _ _ _, HP3.out.2.grown hg1 HP3.out.2.size (fun q hq => by cases hq)⟩
          clear hrow hg1 HP3
          go_wp2
          go_loopw [8, 9, 11] (fun v8 v9 v11 wr => ∃ k j : Nat, k ≤ 2 * C.length ∧ Hid (j = k + 1) ∧ v11 = .int .i64 (j : Nat) ∧ v9 = .int .i64 (rootsN (lowM C) j : Nat) ∧ Hid (wr.ownsRow (w.heap.size + 1) 3 1 (.slice (some ⟨w.heap.size + 1, 0, none⟩) N N) N (nats (lowM C)) ∧ wr.ownsRow (w.heap.size + 1) 3 1 (.slice (some ⟨W2.heap.size, 0, none⟩) N N) N (nats (numTo (lowM C) N (k + 1))) ∧ wr.ownsRow (W2.heap.size + 1) 3 1 v8 (k) (nats (ovL C (k))) ∧ Below w.heap.size w wr)) (fun _ _ v11 _ => 2 * C.length + 1 - (intOf v11).toNat)
          case atStart => exact ⟨0, 1, Nat.zero_le _, (rfl : 1 = 0 + 1), rfl, (by simp [rootsN]), HP4.out⟩
          case round =>
            clear HP4
            rename World => W4
            obtain ⟨k, j, hkn, hjk, rfl, rfl, hp⟩ := hrel
            obtain ⟨a8, c8, rfl⟩ := own_capS hp.out.2.2.1
            by_cases hil : k < 2 * C.length
            · have hj1 : 1 ≤ j := by have := hjk.out; omega
              have hj2 : j < N := by have := hjk.out; have := HN.out; omega
              have hj3 : (j : Int) ≤ 2 * (C.length : Int) := by have := hjk.out; omega
              obtain ⟨q, hq⟩ : ∃ q, (lowM C).getD j 0 = q := ⟨_, rfl⟩
              have hqj : q ≤ j := by rw [← hq]; exact HLS.out.le hj2
              have hq1 : 1 ≤ q := by rw [← hq]; exact HLP.out j hj1 hj2
              have hqN : q < N := by omega
              have HQR : Hid ((lowM C).getD q 0 = q) := (by have h := HLS.out.root hj2; rw [hq] at h; exact h : (lowM C).getD q 0 = q)
              have e0 : W4.cell? ⟨w.heap.size + 1, j, none⟩ = some (.int .i64 (q : Nat)) := by
                rw [hp.out.1.cellAt j (by omega), nats_get _ j (by rw [HLS.out.1]; omega), hq]
              have hr1 := rootsN_le (lowM C) j
              by_cases hqe : q = j
              · subst hqe
                have HQ : Hid ((lowM C).getD q 0 = q) := hq
                have hst := hp.out.2.1.stored q (.int .i64 (rootsN (lowM C) q : Nat))
                rw [nats_set, ← hjk.out, numTo_yes (lowM C) N q hq1 hq] at hst
                have hw4 := (hp.out.2.1.lt W2.heap.size rfl).2
                have HWH : Hid ((W4.setCell ⟨W2.heap.size, q, none⟩ (.int .i64 (rootsN (lowM C) q : Nat))).ownsRow (w.heap.size + 1) 3 1 (.slice (some ⟨w.heap.size + 1, 0, none⟩) N N) N (nats (lowM C))) := hp.out.1.kept hst.2 (Or.inr (fun e => by have : w.heap.size + 1 = W2.heap.size := Option.some.inj e; omega))
                have HNU : Hid ((W4.setCell ⟨W2.heap.size, q, none⟩ (.int .i64 (rootsN (lowM C) q : Nat))).ownsRow (w.heap.size + 1) 3 1 (.slice (some ⟨W2.heap.size, 0, none⟩) N N) N (nats (numTo (lowM C) N (k + 1 + 1)))) := (by rw [← hjk.out]; exact hst.1 : (W4.setCell ⟨W2.heap.size, q, none⟩ (.int .i64 (rootsN (lowM C) q : Nat))).ownsRow (w.heap.size + 1) 3 1 (.slice (some ⟨W2.heap.size, 0, none⟩) N N) N (nats (numTo (lowM C) N (k + 1 + 1))))
                have HO : Hid ((W4.setCell ⟨W2.heap.size, q, none⟩ (.int .i64 (rootsN (lowM C) q : Nat))).ownsRow (W2.heap.size + 1) 3 1 (.slice a8 k c8) k (nats (ovL C k))) := hp.out.2.2.1.kept hst.2 (Or.inr (fun e => by have := (hp.out.2.2.1.lt W2.heap.size e).1; omega))
                have HBX : Hid (Below w.heap.size w (W4.setCell ⟨W2.heap.size, q, none⟩ (.int .i64 (rootsN (lowM C) q : Nat)))) := hp.out.2.2.2.grown hst.2 hp.out.2.2.2.size (fun z hz => by have := Option.some.inj hz; omega)
                have hsX : (W4.setCell ⟨W2.heap.size, q, none⟩ (.int .i64 (rootsN (lowM C) q : Nat))).heap.size = W4.heap.size := by simp
                have eo : W4.cell? ⟨W2.heap.size, q, none⟩ = some (.int .i64 (((numTo (lowM C) N (k + 1)).getD q 0 : Nat))) := by
                  rw [hp.out.2.1.cellAt q (by omega)]; exact nats_get _ q (by rw [numTo_len]; omega)
                have z0 : W4.frozen? ⟨W2.heap.size, q, none⟩ = false := hp.out.2.1.frozenAt q
                have HR1 : Hid (rootsN (lowM C) (q + 1) = rootsN (lowM C) q + 1) := (by simp only [rootsN]; rw [if_pos ⟨hq1, hq⟩] : rootsN (lowM C) (q + 1) = rootsN (lowM C) q + 1)
                have hqq : ((q : Int) == (q : Int)) = true := by simp
                have hws : w.heap.size + 1 ≠ W2.heap.size := by omega
                clear hst hq HQR hqj
                have hA := HO.out.alloc (.cells #[.int .i64 (rootsN (lowM C) q : Nat)] 3)
                go_wp2_with (first
                  | (at_builtin; refine wpList_append_own _ rfl _ _ 61 rfl (W2.heap.size + 1) 3 i2 (.int .i64 0) 1 8 Try.underlying61 hk hx0 hx1 hx2 rfl (by decide) _ _ _ rfl (HO.out.alloc _) ⟨W4.heap.size, 0, none⟩ 1 1 [.int .i64 (rootsN (lowM C) q : Nat)] rfl rfl (by rw [← hsX]; exact new_cell1 _ _ _) (int_one _) (by unfold maxLen; omega) (by omega) (by simp; omega) ?_; intro v8 w8 hown8 hg8 _; refine Hid.out ?_))
                refine Lib.hid ?_
                have HW8 : Hid (w8.ownsRow (w.heap.size + 1) 3 1 (.slice (some ⟨w.heap.size + 1, 0, none⟩) N N) N (nats (lowM C)) ∧ w8.ownsRow (w.heap.size + 1) 3 1 (.slice (some ⟨W2.heap.size, 0, none⟩) N N) N (nats (numTo (lowM C) N (k + 1 + 1))) ∧ w8.ownsRow (W2.heap.size + 1) 3 1 v8 (k + 1) (nats (ovL C (k + 1))) ∧ Below w.heap.size w w8) := ⟨(HWH.out.alloc _).kept hg8 (Or.inr (fun e => by have := (hA.lt (w.heap.size + 1) e.symm).1; omega)), (HNU.out.alloc _).kept hg8 (Or.inr (fun e => by have := (hA.lt W2.heap.size e.symm).1; omega)), (by have e : ovM C (k + 1) = rootsN (lowM C) q := (by rw [← hjk.out]; unfold ovM; rw [HQ.out]); rw [← ovL_next, nats_app, e]; exact hown8), (HBX.out.alloc (by have := HBX.out.size; omega) _).grown hg8 (by have := HBX.out.size; simp; omega) (fun z hz => by have := (hA.lt z hz).1; omega)⟩
                clear hg8 hown8 hA
                obtain ⟨a9, c9, rfl⟩ := own_capS HW8.out.2.2.1
                go_wp2
                go_roundw
                case rel => exact ⟨k + 1, q + 1, by omega, (by have := hjk.out; omega : q + 1 = k + 1 + 1), by go_num, (by rw [HR1.out]; go_num), HW8.out⟩
                case measure => simp only [intOf]; omega
              · have hne : ((q : Int) == (j : Int)) = false := by simp; omega
                have HQ : Hid ((lowM C).getD j 0 = q) := hq
                have hw4 := (hp.out.2.1.lt W2.heap.size rfl).2
                have e1 : W4.cell? ⟨W2.heap.size, q, none⟩ = some (.int .i64 (rootsN (lowM C) q : Nat)) := by
                  rw [hp.out.2.1.cellAt q (by omega), nats_get _ q (by rw [numTo_len]; omega), numTo_at _ _ _ _ hqN, if_pos ⟨by have := hjk.out; omega, hq1, HQR.out⟩]
                have HWH : Hid (W4.ownsRow (w.heap.size + 1) 3 1 (.slice (some ⟨w.heap.size + 1, 0, none⟩) N N) N (nats (lowM C))) := hp.out.1
                have HNU : Hid (W4.ownsRow (w.heap.size + 1) 3 1 (.slice (some ⟨W2.heap.size, 0, none⟩) N N) N (nats (numTo (lowM C) N (k + 1 + 1)))) := (by have h := hp.out.2.1; rw [← hjk.out, numTo_no (lowM C) N j (by rw [hq]; exact hqe)] at h; rw [← hjk.out]; exact h : W4.ownsRow (w.heap.size + 1) 3 1 (.slice (some ⟨W2.heap.size, 0, none⟩) N N) N (nats (numTo (lowM C) N (k + 1 + 1))))
                have HO : Hid (W4.ownsRow (W2.heap.size + 1) 3 1 (.slice a8 k c8) k (nats (ovL C k))) := hp.out.2.2.1
                have HBX : Hid (Below w.heap.size w W4) := hp.out.2.2.2
                have HR1 : Hid (rootsN (lowM C) (j + 1) = rootsN (lowM C) j) := (by simp only [rootsN]; rw [if_neg (fun z => hqe (by rw [← hq]; exact z.2))]; simp : rootsN (lowM C) (j + 1) = rootsN (lowM C) j)
                have hsX : W4.heap.size = W4.heap.size := rfl
                clear hq
                have hA := HO.out.alloc (.cells #[.int .i64 (rootsN (lowM C) q : Nat)] 3)
                go_wp2_with (first
                  | (at_builtin; refine wpList_append_own _ rfl _ _ 61 rfl (W2.heap.size + 1) 3 i2 (.int .i64 0) 1 8 Try.underlying61 hk hx0 hx1 hx2 rfl (by decide) _ _ _ rfl (HO.out.alloc _) ⟨W4.heap.size, 0, none⟩ 1 1 [.int .i64 (rootsN (lowM C) q : Nat)] rfl rfl (new_cell1 _ _ _) (int_one _) (by unfold maxLen; omega) (by omega) (by simp; omega) ?_; intro v8 w8 hown8 hg8 _; refine Hid.out ?_))
                refine Lib.hid ?_
                have HW8 : Hid (w8.ownsRow (w.heap.size + 1) 3 1 (.slice (some ⟨w.heap.size + 1, 0, none⟩) N N) N (nats (lowM C)) ∧ w8.ownsRow (w.heap.size + 1) 3 1 (.slice (some ⟨W2.heap.size, 0, none⟩) N N) N (nats (numTo (lowM C) N (k + 1 + 1))) ∧ w8.ownsRow (W2.heap.size + 1) 3 1 v8 (k + 1) (nats (ovL C (k + 1))) ∧ Below w.heap.size w w8) := ⟨(HWH.out.alloc _).kept hg8 (Or.inr (fun e => by have := (hA.lt (w.heap.size + 1) e.symm).1; omega)), (HNU.out.alloc _).kept hg8 (Or.inr (fun e => by have := (hA.lt W2.heap.size e.symm).1; omega)), (by have e : ovM C (k + 1) = rootsN (lowM C) q := (by rw [← hjk.out]; unfold ovM; rw [HQ.out]); rw [← ovL_next, nats_app, e]; exact hown8), (HBX.out.alloc (by have := HBX.out.size; omega) _).grown hg8 (by have := HBX.out.size; simp; omega) (fun z hz => by have := (hA.lt z hz).1; omega)⟩
                clear hg8 hown8 hA
                obtain ⟨a9, c9, rfl⟩ := own_capS HW8.out.2.2.1
                go_wp2
                go_roundw
                case rel => exact ⟨k + 1, j + 1, by omega, (by have := hjk.out; omega : j + 1 = k + 1 + 1), by go_num, (by rw [HR1.out]), HW8.out⟩
                case measure => simp only [intOf]; omega
            · obtain rfl : k = 2 * C.length := by omega
              obtain rfl : j = 2 * C.length + 1 := hjk.out
              go_wp2
              go_ret
              exact ⟨_, rfl, own_low hp.out.2.2.1 (by omega), hp.out.2.2.2⟩
end Go.Proofs.Ytnhllpaoplfgpaa
/- The walks of drawing.Flat and of ref.PlanarMay. -/
namespace Go.Proofs.Ytnhllpaoplfgpaa
open Go.RowKit

/-- What is wrong with a diagram that shall lie on a sphere. -/
def noN (C : List Cr) (loops : Int) : Int := if mayD C loops = true then (if planarB C = true then 0 else 5) else 7

theorem Drawn.dr2 {w w' : World} {a : Option Addr} {cap : Nat} {loops : Int} {C : List Cr} {D : Value} (h : Drawn w w' w.heap.size (.slice a C.length cap) loops C D) (hm : mayD C loops = true) (hb : Below w.heap.size w w') (hC : Crs w w.heap.size (.slice a C.length cap) C) :
    ∃ gF cF gT cT, D = drV a cap C loops gF cF gT cT ∧ Dr w' a cap C gF gT ∧ w'.ownsRow w.heap.size 186 2 (.slice (some ⟨gF, 0, none⟩) (2 * C.length + 1) cF) (2 * C.length + 1) (flat (ends C false C.length 0)) ∧
    w'.ownsRow w.heap.size 186 2 (.slice (some ⟨gT, 0, none⟩) (2 * C.length + 1) cT) (2 * C.length + 1) (flat (ends C true C.length 0)) := by
  obtain ⟨gF, cF, gT, cT, rfl, h1, h2⟩ := h.yes hm
  exact ⟨gF, cF, gT, cT, rfl, ⟨hC.up hb, (h1.lt gF rfl).2, (h2.lt gT rfl).2, own_terms h1 (ends_length _ _ _ _), own_terms h2 (ends_length _ _ _ _)⟩, h1, h2⟩

set_option maxHeartbeats 2000000 in
set_option maxRecDepth 100000 in
theorem flat_no (v : Value) (C : List Cr) (loops : Int) (w : World) (hm : mayD C loops = false) (h : Crs w w.heap.size v C) :
    Calls Try.prog 127 #[.agg #[v, .int .i64 loops]] w fun e w' => e = .returned (.tuple #[noDrawing, .int .i64 7]) ∧ Below w.heap.size w w' := by
  have HC : Hid (Crs w w.heap.size v C) := h
  obtain ⟨a, cap, rfl, hn, -⟩ := h
  have HB1 : Hid (Below w.heap.size w ((w.alloc (.cells #[.slice a C.length cap, .int .i64 loops] 44)).alloc (.cells #[.slice none 0 0, .int .i64 0, .slice none 0 0, .slice none 0 0] 120))) := below2 _ _ _
  go_enter Try.func127, Try.ntmps127
  go_wp2_with (go_at_call 88; refine (of_any _ C loops _ (HC.out.up HB1.out)).mono ?_; rw [hm]; rintro e9 w2 ⟨d, rfl, hb2, hd⟩; rw [hd.no hm]; refine Hid.out ?_)
  refine Lib.hid ?_
  unfold noDrawing
  have HB2 : Hid (Below w.heap.size w w2) := HB1.out.trans (hb2.mono (by simp; omega))
  have hR : w2.heap[w.heap.size + 1]? = some (.cells #[.slice none 0 0, .int .i64 0, .slice none 0 0, .slice none 0 0] 120 (0, 0)) := (hb2.block _ (by simp)).trans (alloc_at (by simp))
  have hs2 : w.heap.size + 2 ≤ w2.heap.size := by have := hb2.size; simpa using this
  have HR : Hid (w2.heap[w.heap.size + 1]? = some (.cells #[.slice none 0 0, .int .i64 0, .slice none 0 0, .slice none 0 0] 120 (0, 0))) := hR
  have c0 : w2.cell? ⟨w.heap.size + 1, 0, none⟩ = some (.slice none 0 0) := block_cell hR rfl
  have c1 : w2.cell? ⟨w.heap.size + 1, 1, none⟩ = some (.int .i64 0) := block_cell hR rfl
  have c2 : w2.cell? ⟨w.heap.size + 1, 2, none⟩ = some (.slice none 0 0) := block_cell hR rfl
  have c3 : w2.cell? ⟨w.heap.size + 1, 3, none⟩ = some (.slice none 0 0) := block_cell hR rfl
  have f0 : w2.frozen? ⟨w.heap.size + 1, 0, none⟩ = false := block_frozen hR
  have f1 : w2.frozen? ⟨w.heap.size + 1, 1, none⟩ = false := block_frozen hR
  have f2 : w2.frozen? ⟨w.heap.size + 1, 2, none⟩ = false := block_frozen hR
  have f3 : w2.frozen? ⟨w.heap.size + 1, 3, none⟩ = false := block_frozen hR
  have l2 : w.heap.size + 1 < w2.heap.size := by omega
  clear hb2 hd hR
  go_wp2
  have hX := alloc_old (o := .cells #[.slice none 0 0, .int .i64 0, .slice none 0 0, .slice none 0 0] 120) (st4_block (a := .slice none 0 0) (b := .int .i64 0) (c := .slice none 0 0) (d := .slice none 0 0) HR.out)
  have x0 := block_cell (i := 0) (v := .slice none 0 0) hX rfl
  have x1 := block_cell (i := 1) (v := .int .i64 0) hX rfl
  have x2 := block_cell (i := 2) (v := .slice none 0 0) hX rfl
  have x3 := block_cell (i := 3) (v := .slice none 0 0) hX rfl
  unfold st4 at x0 x1 x2 x3
  have hbb := (HB2.out.grown (st4_grown w2 (w.heap.size + 1) (.slice none 0 0) (.int .i64 0) (.slice none 0 0) (.slice none 0 0)) HB2.out.size (fun k hk => by have := Option.some.inj hk; omega)).alloc (Nat.le_trans HB2.out.size (st4_grown w2 (w.heap.size + 1) (.slice none 0 0) (.int .i64 0) (.slice none 0 0) (.slice none 0 0)).size) (.cells #[.slice none 0 0, .int .i64 0, .slice none 0 0, .slice none 0 0] 120)
  exact bodyPost_ret (v := .tuple #[.agg #[.slice none 0 0, .int .i64 0, .slice none 0 0, .slice none 0 0], .int .i64 7]) (by simp [results, Try.results127, go_sem, x0, x1, x2, x3]) rfl ⟨rfl, hbb⟩

set_option maxHeartbeats 4000000 in
set_option maxRecDepth 100000 in
theorem flat_bad (hFR : FaceRingsOk) (v : Value) (C : List Cr) (loops : Int) (w : World) (hm : mayD C loops = true) (hp : planarB C = false) (h : Crs w w.heap.size v C) :
    Calls Try.prog 127 #[.agg #[v, .int .i64 loops]] w fun e w' => e = .returned (.tuple #[noDrawing, .int .i64 5]) ∧ Below w.heap.size w w' := by
  have HC : Hid (Crs w w.heap.size v C) := h
  have HFA : Hid FaceRingsOk := hFR
  have HM : Hid (mayD C loops = true) := hm
  have HP : Hid (planarB C = false) := hp
  obtain ⟨a, cap, rfl, hn, -⟩ := h
  have HB1 : Hid (Below w.heap.size w ((w.alloc (.cells #[.slice a C.length cap, .int .i64 loops] 44)).alloc (.cells #[.slice none 0 0, .int .i64 0, .slice none 0 0, .slice none 0 0] 120))) := below2 _ _ _
  go_enter Try.func127, Try.ntmps127
  go_wp2_with (go_at_call 88; refine (of_any _ C loops _ (HC.out.up HB1.out)).mono ?_; rw [hm]; rintro e9 w2 ⟨d, rfl, hb2, hd⟩; obtain ⟨gF, cF, gT, cT, rfl, hdr⟩ := hd.dr HM.out hb2 (HC.out.up HB1.out); refine Hid.out ?_)
  refine Lib.hid ?_
  have HDR : Hid (Dr w2 a cap C gF gT) := hdr
  unfold drV
  have HB2 : Hid (Below w.heap.size w w2) := HB1.out.trans (hb2.mono (by simp; omega))
  have hR : w2.heap[w.heap.size + 1]? = some (.cells #[.slice none 0 0, .int .i64 0, .slice none 0 0, .slice none 0 0] 120 (0, 0)) := (hb2.block _ (by simp)).trans (alloc_at (by simp))
  have hs2 : w.heap.size + 2 ≤ w2.heap.size := by have := hb2.size; simpa using this
  have HR : Hid (w2.heap[w.heap.size + 1]? = some (.cells #[.slice none 0 0, .int .i64 0, .slice none 0 0, .slice none 0 0] 120 (0, 0))) := hR
  have HBA : Hid (Below w2.heap.size w2 (w2.alloc (.cells #[.slice a C.length cap, .int .i64 loops, .slice (some ⟨gF, 0, none⟩) (2 * C.length + 1) cF, .slice (some ⟨gT, 0, none⟩) (2 * C.length + 1) cT] 120))) := (Below.refl _ _).alloc (Nat.le_refl _) _
  clear hb2 hd hdr hm hR hp
  go_wp2_with (go_at_call 98; refine (onSphere_any HFA.out a cap C loops gF cF gT cT _ HM.out (HDR.out.on HBA.out)).mono ?_; rw [HP.out]; rintro e9 w3 ⟨rfl, hb3⟩; refine Hid.out ?_)
  refine Lib.hid ?_
  have HB23 : Hid (Below w2.heap.size w2 w3) := HBA.out.trans (hb3.mono (by simp))
  have HB3 : Hid (Below w.heap.size w w3) := HB2.out.trans (HB23.out.mono HB2.out.size)
  have hR : w3.heap[w.heap.size + 1]? = some (.cells #[.slice none 0 0, .int .i64 0, .slice none 0 0, .slice none 0 0] 120 (0, 0)) := (HB23.out.block _ (by omega)).trans HR.out
  have hQ : w3.heap[w2.heap.size]? = some (.cells #[.slice a C.length cap, .int .i64 loops, .slice (some ⟨gF, 0, none⟩) (2 * C.length + 1) cF, .slice (some ⟨gT, 0, none⟩) (2 * C.length + 1) cT] 120 (0, 0)) := (hb3.block _ (by simp)).trans (alloc_at rfl)
  have hs3 : w2.heap.size + 1 ≤ w3.heap.size := by have := hb3.size; simpa using this
  have HR3 : Hid (w3.heap[w.heap.size + 1]? = some (.cells #[.slice none 0 0, .int .i64 0, .slice none 0 0, .slice none 0 0] 120 (0, 0))) := hR
  have c0 : w3.cell? ⟨w.heap.size + 1, 0, none⟩ = some (.slice none 0 0) := block_cell hR rfl
  have c1 : w3.cell? ⟨w.heap.size + 1, 1, none⟩ = some (.int .i64 0) := block_cell hR rfl
  have c2 : w3.cell? ⟨w.heap.size + 1, 2, none⟩ = some (.slice none 0 0) := block_cell hR rfl
  have c3 : w3.cell? ⟨w.heap.size + 1, 3, none⟩ = some (.slice none 0 0) := block_cell hR rfl
  have f0 : w3.frozen? ⟨w.heap.size + 1, 0, none⟩ = false := block_frozen hR
  have f1 : w3.frozen? ⟨w.heap.size + 1, 1, none⟩ = false := block_frozen hR
  have f2 : w3.frozen? ⟨w.heap.size + 1, 2, none⟩ = false := block_frozen hR
  have f3 : w3.frozen? ⟨w.heap.size + 1, 3, none⟩ = false := block_frozen hR
  have d0 : w3.cell? ⟨w2.heap.size, 0, none⟩ = some (.slice a C.length cap) := block_cell hQ rfl
  have d1 : w3.cell? ⟨w2.heap.size, 1, none⟩ = some (.int .i64 loops) := block_cell hQ rfl
  have d2 : w3.cell? ⟨w2.heap.size, 2, none⟩ = some (.slice (some ⟨gF, 0, none⟩) (2 * C.length + 1) cF) := block_cell hQ rfl
  have d3 : w3.cell? ⟨w2.heap.size, 3, none⟩ = some (.slice (some ⟨gT, 0, none⟩) (2 * C.length + 1) cT) := block_cell hQ rfl
  have l2 : w.heap.size + 1 < w3.heap.size := by omega
  have l3 : w2.heap.size < w3.heap.size := by omega
  clear hb3 hR hQ
  go_wp2
  have hG := st4_grown w3 (w.heap.size + 1) (.slice none 0 0) (.int .i64 0) (.slice none 0 0) (.slice none 0 0)
  have hX := st4_block (a := .slice none 0 0) (b := .int .i64 0) (c := .slice none 0 0) (d := .slice none 0 0) HR3.out
  have x0 := block_cell (i := 0) (v := .slice none 0 0) hX rfl
  have x1 := block_cell (i := 1) (v := .int .i64 0) hX rfl
  have x2 := block_cell (i := 2) (v := .slice none 0 0) hX rfl
  have x3 := block_cell (i := 3) (v := .slice none 0 0) hX rfl
  have hbb := HB3.out.grown hG HB3.out.size (fun k hk => by have := Option.some.inj hk; omega)
  unfold st4 at x0 x1 x2 x3
  exact bodyPost_ret (v := .tuple #[.agg #[.slice none 0 0, .int .i64 0, .slice none 0 0, .slice none 0 0], .int .i64 5]) (by simp [results, Try.results127, go_sem, x0, x1, x2, x3]) rfl ⟨rfl, hbb⟩

set_option maxHeartbeats 4000000 in
set_option maxRecDepth 100000 in
theorem flat_yes (hFR : FaceRingsOk) (v : Value) (C : List Cr) (loops : Int) (w : World) (hm : mayD C loops = true) (hp : planarB C = true) (h : Crs w w.heap.size v C) :
    Calls Try.prog 127 #[.agg #[v, .int .i64 loops]] w fun e w' => ∃ a cap gF cF gT cT, e = .returned (.tuple #[drV a cap C loops gF cF gT cT, .int .i64 0]) ∧ Dr w' a cap C gF gT ∧ Below w.heap.size w w' := by
  have HC : Hid (Crs w w.heap.size v C) := h
  have HFA : Hid FaceRingsOk := hFR
  have HM : Hid (mayD C loops = true) := hm
  have HP : Hid (planarB C = true) := hp
  obtain ⟨a, cap, rfl, hn, -⟩ := h
  have HB1 : Hid (Below w.heap.size w ((w.alloc (.cells #[.slice a C.length cap, .int .i64 loops] 44)).alloc (.cells #[.slice none 0 0, .int .i64 0, .slice none 0 0, .slice none 0 0] 120))) := below2 _ _ _
  go_enter Try.func127, Try.ntmps127
  go_wp2_with (go_at_call 88; refine (of_any _ C loops _ (HC.out.up HB1.out)).mono ?_; rw [hm]; rintro e9 w2 ⟨d, rfl, hb2, hd⟩; obtain ⟨gF, cF, gT, cT, rfl, hdr, hF, hT⟩ := hd.dr2 HM.out hb2 (HC.out.up HB1.out); refine Hid.out ?_)
  refine Lib.hid ?_
  have HDR : Hid (Dr w2 a cap C gF gT) := hdr
  have HF : Hid (w2.ownsRow (w.heap.size + 2) 186 2 (.slice (some ⟨gF, 0, none⟩) (2 * C.length + 1) cF) (2 * C.length + 1) (flat (ends C false C.length 0))) := own_low hF (by simp)
  have HT : Hid (w2.ownsRow (w.heap.size + 2) 186 2 (.slice (some ⟨gT, 0, none⟩) (2 * C.length + 1) cT) (2 * C.length + 1) (flat (ends C true C.length 0))) := own_low hT (by simp)
  unfold drV
  have HB2 : Hid (Below w.heap.size w w2) := HB1.out.trans (hb2.mono (by simp; omega))
  have hR : w2.heap[w.heap.size + 1]? = some (.cells #[.slice none 0 0, .int .i64 0, .slice none 0 0, .slice none 0 0] 120 (0, 0)) := (hb2.block _ (by simp)).trans (alloc_at (by simp))
  have hs2 : w.heap.size + 2 ≤ w2.heap.size := by have := hb2.size; simpa using this
  have HR : Hid (w2.heap[w.heap.size + 1]? = some (.cells #[.slice none 0 0, .int .i64 0, .slice none 0 0, .slice none 0 0] 120 (0, 0))) := hR
  have HBA : Hid (Below w2.heap.size w2 (w2.alloc (.cells #[.slice a C.length cap, .int .i64 loops, .slice (some ⟨gF, 0, none⟩) (2 * C.length + 1) cF, .slice (some ⟨gT, 0, none⟩) (2 * C.length + 1) cT] 120))) := (Below.refl _ _).alloc (Nat.le_refl _) _
  clear hb2 hd hdr hm hR hp hF hT
  go_wp2_with (go_at_call 98; refine (onSphere_any HFA.out a cap C loops gF cF gT cT _ HM.out (HDR.out.on HBA.out)).mono ?_; rw [HP.out]; rintro e9 w3 ⟨rfl, hb3⟩; refine Hid.out ?_)
  refine Lib.hid ?_
  have HB23 : Hid (Below w2.heap.size w2 w3) := HBA.out.trans (hb3.mono (by simp))
  have HB3 : Hid (Below w.heap.size w w3) := HB2.out.trans (HB23.out.mono HB2.out.size)
  have hR : w3.heap[w.heap.size + 1]? = some (.cells #[.slice none 0 0, .int .i64 0, .slice none 0 0, .slice none 0 0] 120 (0, 0)) := (HB23.out.block _ (by omega)).trans HR.out
  have hQ : w3.heap[w2.heap.size]? = some (.cells #[.slice a C.length cap, .int .i64 loops, .slice (some ⟨gF, 0, none⟩) (2 * C.length + 1) cF, .slice (some ⟨gT, 0, none⟩) (2 * C.length + 1) cT] 120 (0, 0)) := (hb3.block _ (by simp)).trans (alloc_at rfl)
  have hs3 : w2.heap.size + 1 ≤ w3.heap.size := by have := hb3.size; simpa using this
  have HR3 : Hid (w3.heap[w.heap.size + 1]? = some (.cells #[.slice none 0 0, .int .i64 0, .slice none 0 0, .slice none 0 0] 120 (0, 0))) := hR
  have c0 : w3.cell? ⟨w.heap.size + 1, 0, none⟩ = some (.slice none 0 0) := block_cell hR rfl
  have c1 : w3.cell? ⟨w.heap.size + 1, 1, none⟩ = some (.int .i64 0) := block_cell hR rfl
  have c2 : w3.cell? ⟨w.heap.size + 1, 2, none⟩ = some (.slice none 0 0) := block_cell hR rfl
  have c3 : w3.cell? ⟨w.heap.size + 1, 3, none⟩ = some (.slice none 0 0) := block_cell hR rfl
  have f0 : w3.frozen? ⟨w.heap.size + 1, 0, none⟩ = false := block_frozen hR
  have f1 : w3.frozen? ⟨w.heap.size + 1, 1, none⟩ = false := block_frozen hR
  have f2 : w3.frozen? ⟨w.heap.size + 1, 2, none⟩ = false := block_frozen hR
  have f3 : w3.frozen? ⟨w.heap.size + 1, 3, none⟩ = false := block_frozen hR
  have d0 : w3.cell? ⟨w2.heap.size, 0, none⟩ = some (.slice a C.length cap) := block_cell hQ rfl
  have d1 : w3.cell? ⟨w2.heap.size, 1, none⟩ = some (.int .i64 loops) := block_cell hQ rfl
  have d2 : w3.cell? ⟨w2.heap.size, 2, none⟩ = some (.slice (some ⟨gF, 0, none⟩) (2 * C.length + 1) cF) := block_cell hQ rfl
  have d3 : w3.cell? ⟨w2.heap.size, 3, none⟩ = some (.slice (some ⟨gT, 0, none⟩) (2 * C.length + 1) cT) := block_cell hQ rfl
  have l2 : w.heap.size + 1 < w3.heap.size := by omega
  have l3 : w2.heap.size < w3.heap.size := by omega
  clear hb3 hR hQ
  go_wp2
  have hG := st4_grown w3 (w.heap.size + 1) (.slice a C.length cap) (.int .i64 loops) (.slice (some ⟨gF, 0, none⟩) (2 * C.length + 1) cF) (.slice (some ⟨gT, 0, none⟩) (2 * C.length + 1) cT)
  have hX := st4_block (a := .slice a C.length cap) (b := .int .i64 loops) (c := .slice (some ⟨gF, 0, none⟩) (2 * C.length + 1) cF) (d := .slice (some ⟨gT, 0, none⟩) (2 * C.length + 1) cT) HR3.out
  have x0 := block_cell (i := 0) (v := .slice a C.length cap) hX rfl
  have x1 := block_cell (i := 1) (v := .int .i64 loops) hX rfl
  have x2 := block_cell (i := 2) (v := .slice (some ⟨gF, 0, none⟩) (2 * C.length + 1) cF) hX rfl
  have x3 := block_cell (i := 3) (v := .slice (some ⟨gT, 0, none⟩) (2 * C.length + 1) cT) hX rfl
  have hbb := HB3.out.grown hG HB3.out.size (fun k hk => by have := Option.some.inj hk; omega)
  unfold st4 at x0 x1 x2 x3
  refine bodyPost_ret (v := .tuple #[.agg #[.slice a C.length cap, .int .i64 loops, .slice (some ⟨gF, 0, none⟩) (2 * C.length + 1) cF, .slice (some ⟨gT, 0, none⟩) (2 * C.length + 1) cT], .int .i64 0]) (by simp [results, Try.results127, go_sem, x0, x1, x2, x3]) rfl ⟨a, cap, gF, cF, gT, cT, rfl, ?_, hbb⟩
  have hn := grown_below HB23.out none
  have gF2 := (own_any HF.out hn).kept hG (Or.inr (fun e => by have h1 := (HF.out.lt gF rfl).1; have h2 : gF = w.heap.size + 1 := Option.some.inj e; omega))
  have gT2 := (own_any HT.out hn).kept hG (Or.inr (fun e => by have h1 := (HT.out.lt gT rfl).1; have h2 : gT = w.heap.size + 1 := Option.some.inj e; omega))
  exact ⟨HC.out.up hbb, (gF2.lt gF rfl).2, (gT2.lt gT rfl).2, own_terms gF2 (ends_length _ _ _ _), own_terms gT2 (ends_length _ _ _ _)⟩

set_option maxHeartbeats 4000000 in
set_option maxRecDepth 100000 in
theorem planarMay_any (v : Value) (C : List Cr) (loops : Int) (w : World) (h : Crs w w.heap.size v C) :
    Calls Try.prog 65 #[.agg #[v, .int .i64 loops]] w fun e w' => e = .returned (.int .i64 (noN C loops)) ∧ Below w.heap.size w w' := by
  have HC : Hid (Crs w w.heap.size v C) := h
  obtain ⟨a, cap, rfl, hn, -⟩ := h
  have HB1 : Hid (Below w.heap.size w (w.alloc (.cells #[.slice a C.length cap, .int .i64 loops] 44))) := (Below.refl _ _).alloc (Nat.le_refl _) _
  have HK : Hid (∀ w', Below (w.heap.size + 1) (w.alloc (.cells #[.slice a C.length cap, .int .i64 loops] 44)) w' → w'.cell? ⟨w.heap.size, 0, none⟩ = some (.slice a C.length cap) ∧ w'.cell? ⟨w.heap.size, 1, none⟩ = some (.int .i64 loops)) := fun w' hb => by
    have g := (hb.block w.heap.size (by omega)).trans (alloc_at rfl)
    exact ⟨block_cell g rfl, block_cell g rfl⟩
  cases hm : mayD C loops with
  | false =>
    have hN : noN C loops = 7 := by unfold noN; rw [hm]; rfl
    rw [hN]
    go_enter Try.func65, Try.ntmps65
    go_wp2_with (go_at_call 45; refine (may17_any _ C loops _ (HC.out.up HB1.out)).mono ?_; rw [hm]; rintro e9 w2 ⟨rfl, hb2⟩; have HB2 : Hid (Below w.heap.size w w2) := HB1.out.trans (hb2.mono HB1.out.size); clear hb2)
    go_ret
    exact ⟨rfl, HB2.out⟩
  | true =>
    have HM : Hid (mayD C loops = true) := hm
    cases hp : planarB C with
    | false =>
      have hN : noN C loops = 5 := by unfold noN; rw [hm, hp]; rfl
      rw [hN]
      go_enter Try.func65, Try.ntmps65
      go_wp2_with (first
        | (go_at_call 45; refine (may17_any _ C loops _ (HC.out.up HB1.out)).mono ?_; rw [hm]; rintro e9 w2 ⟨rfl, hb2⟩; have HB2 : Hid (Below w.heap.size w w2) := HB1.out.trans (hb2.mono HB1.out.size); obtain ⟨k0, k1⟩ := HK.out w2 (hb2.mono (by simp)); clear hb2)
        | (go_at_call 112; refine (planarIs_any a cap C loops _ HM.out (HC.out.up HB2.out)).mono ?_; rw [hp]; rintro e9 w3 ⟨rfl, hb3⟩; have HB3 : Hid (Below w.heap.size w w3) := HB2.out.trans (hb3.mono HB2.out.size); clear hb3))
      go_ret
      exact ⟨rfl, HB3.out⟩
    | true =>
      have hN : noN C loops = 0 := by unfold noN; rw [hm, hp]; rfl
      rw [hN]
      go_enter Try.func65, Try.ntmps65
      go_wp2_with (first
        | (go_at_call 45; refine (may17_any _ C loops _ (HC.out.up HB1.out)).mono ?_; rw [hm]; rintro e9 w2 ⟨rfl, hb2⟩; have HB2 : Hid (Below w.heap.size w w2) := HB1.out.trans (hb2.mono HB1.out.size); obtain ⟨k0, k1⟩ := HK.out w2 (hb2.mono (by simp)); clear hb2)
        | (go_at_call 112; refine (planarIs_any a cap C loops _ HM.out (HC.out.up HB2.out)).mono ?_; rw [hp]; rintro e9 w3 ⟨rfl, hb3⟩; have HB3 : Hid (Below w.heap.size w w3) := HB2.out.trans (hb3.mono HB2.out.size); clear hb3))
      go_ret
      exact ⟨rfl, HB3.out⟩
theorem noN_zero {C : List Cr} {loops : Int} (h : noN C loops = 0) : mayD C loops = true ∧ planarB C = true := by
  unfold noN at h
  by_cases hm : mayD C loops = true
  · rw [if_pos hm] at h
    by_cases hp : planarB C = true
    · exact ⟨hm, hp⟩
    · rw [if_neg hp] at h; omega
  · rw [if_neg hm] at h; omega
theorem flat_not (hFR : FaceRingsOk) (a : Option Addr) (cap : Nat) (C : List Cr) (loops : Int) (W : World) (hn : noN C loops ≠ 0) (hW : Crs W W.heap.size (.slice a C.length cap) C) :
    Calls Try.prog 127 #[.agg #[.slice a C.length cap, .int .i64 loops]] W fun e w' => e = .returned (.tuple #[noDrawing, .int .i64 (noN C loops)]) ∧ Below W.heap.size W w' := by
  unfold noN at hn ⊢
  cases hm : mayD C loops with
  | false => exact flat_no _ C loops W hm hW
  | true =>
    cases hp : planarB C with
    | false => exact flat_bad hFR _ C loops W hm hp hW
    | true => rw [hm, hp] at hn; exact absurd rfl hn
end Go.Proofs.Ytnhllpaoplfgpaa
/- The walks of colour.lowestArcs and colour.overpasses. -/
namespace Go.Proofs.Ytnhllpaoplfgpaa
open Go.RowKit

theorem cut_one {T G : Prop} (h : Hid T → G) (hT : T) : G := h hT
/-- Merged in the first k places. -/
def merTo (W : List Nat) (x y k : Nat) : List Nat := (List.range W.length).map fun v => if v < k then (mer W x y).getD v 0 else W.getD v 0
theorem merTo_len (W : List Nat) (x y k : Nat) : (merTo W x y k).length = W.length := by simp [merTo]
theorem merTo_at (W : List Nat) (x y k v : Nat) (hv : v < W.length) : (merTo W x y k).getD v 0 = if v < k then (mer W x y).getD v 0 else W.getD v 0 := by simp [merTo, List.getD_eq_getElem?_getD, hv]
theorem getD_ext {l m : List Nat} (h : l.length = m.length) (g : ∀ v, v < l.length → l.getD v 0 = m.getD v 0) : l = m := by
  refine List.ext_getElem h fun i h1 h2 => ?_
  have := g i h1
  simpa [List.getD_eq_getElem?_getD, h1, h2] using this
theorem merTo_zero (W : List Nat) (x y : Nat) : merTo W x y 0 = W := getD_ext (merTo_len _ _ _ _) fun v hv => by
  rw [merTo_len] at hv; rw [merTo_at _ _ _ _ _ hv, if_neg (by omega)]
theorem merTo_all (W : List Nat) (x y : Nat) : merTo W x y W.length = mer W x y := getD_ext (by rw [merTo_len, mer_len]) fun v hv => by
  rw [merTo_len] at hv; rw [merTo_at _ _ _ _ _ hv, if_pos hv]
theorem merTo_next (W : List Nat) (x y k z : Nat) (hk : k < W.length) (hz : (mer W x y).getD k 0 = z) : (merTo W x y k).set k z = merTo W x y (k + 1) := getD_ext (by simp [merTo_len]) fun v hv => by
  have hv' : v < W.length := by simpa [merTo_len] using hv
  rw [getD_set _ _ _ _ (by rw [merTo_len]; exact hk), merTo_at _ _ _ _ _ hv', merTo_at _ _ _ _ _ hv']
  by_cases e : v = k
  · subst e; rw [if_pos rfl, if_pos (by omega), hz]
  · rw [if_neg e]
    by_cases h2 : v < k
    · rw [if_pos h2, if_pos (by omega)]
    · rw [if_neg h2, if_neg (by omega)]
theorem merTo_same (W : List Nat) (x y k : Nat) (hk : k < W.length) (hz : (mer W x y).getD k 0 = W.getD k 0) : merTo W x y k = merTo W x y (k + 1) := getD_ext (by simp [merTo_len]) fun v hv => by
  have hv' : v < W.length := by simpa [merTo_len] using hv
  rw [merTo_at _ _ _ _ _ hv', merTo_at _ _ _ _ _ hv']
  by_cases e : v = k
  · subst e; rw [if_neg (by omega), if_pos (by omega), hz]
  · by_cases h2 : v < k
    · rw [if_pos h2, if_pos (by omega)]
    · rw [if_neg h2, if_neg (by omega)]
theorem mers_ov (V : List Nat) (C : List Cr) (i : Nat) (hi : i < C.length) : mers V ((ovE C).take (i + 1)) = mer (mers V ((ovE C).take i)) (C.getD i Cr.none).b.toNat (C.getD i Cr.none).d.toNat := by
  rw [ovE_next C i hi, mers_app]
  rfl
theorem mers_len (E : List (Nat × Nat)) : ∀ W : List Nat, (mers W E).length = W.length := by
  induction E with
  | nil => intro W; rfl
  | cons e E ih => intro W; rw [mers, ih, mer_len]

set_option maxHeartbeats 16000000 in
set_option maxRecDepth 100000 in
theorem lowestArcs_any (a : Option Addr) (cap : Nat) (C : List Cr) (loops : Int) (gF cF gT cT : Nat) (w : World) (hm : mayD C loops = true) (hD : Dr w a cap C gF gT) :
    Calls Try.prog 177 #[drV a cap C loops gF cF gT cT] w fun e w' => ∃ g, e = .returned (.slice (some ⟨g, 0, none⟩) (2 * C.length + 1) (2 * C.length + 1)) ∧ w'.ownsRow w.heap.size 3 1 (.slice (some ⟨g, 0, none⟩) (2 * C.length + 1) (2 * C.length + 1)) (2 * C.length + 1) (nats (lowM C)) ∧ Below w.heap.size w w' := by
  obtain ⟨s1, -, -, -⟩ := sizeB_iff (may_size hm)
  obtain ⟨i2, hk, hx0, hx1, hx2⟩ := info_parts infoInt
  have HM : Hid (mayD C loops = true) := hm
  have HD : Hid (Dr w a cap C gF gT) := hD
  unfold drV
  obtain ⟨N, hN⟩ : ∃ N, N = 2 * C.length + 1 := ⟨_, rfl⟩
  have HN : Hid (N = 2 * C.length + 1) := hN
  have hN1 : 1 ≤ N := by omega
  have hN2 : N ≤ 33 := by omega
  rw [← hN]
  clear hN hm hD
  obtain ⟨w0, hw0⟩ : ∃ w0, w0 = w.alloc (.cells #[.slice a C.length cap, .int .i64 loops, .slice (some ⟨gF, 0, none⟩) N cF, .slice (some ⟨gT, 0, none⟩) N cT] 120) := ⟨_, rfl⟩
  have HW0 : Hid (w0 = w.alloc (.cells #[.slice a C.length cap, .int .i64 loops, .slice (some ⟨gF, 0, none⟩) N cF, .slice (some ⟨gT, 0, none⟩) N cT] 120)) := hw0
  have hs0 : w0.heap.size = w.heap.size + 1 := by rw [hw0]; simp
  have HB0 : Hid (Below w.heap.size w w0) := (by rw [hw0]; exact (Below.refl _ _).alloc (Nat.le_refl _) _ : Below w.heap.size w w0)
  have HT0 : Hid (w0.heap[w.heap.size]? = some (.cells #[.slice a C.length cap, .int .i64 loops, .slice (some ⟨gF, 0, none⟩) N cF, .slice (some ⟨gT, 0, none⟩) N cT] 120 (0, 0))) := (by rw [hw0]; exact alloc_at rfl : w0.heap[w.heap.size]? = some (.cells #[.slice a C.length cap, .int .i64 loops, .slice (some ⟨gF, 0, none⟩) N cF, .slice (some ⟨gT, 0, none⟩) N cT] 120 (0, 0)))
  clear hw0
  go_enter Try.func177, Try.ntmps177
  go_wp2_with (first | (at_make; refine wpList_make_full _ rfl _ _ 61 rfl (w.heap.size + 1) 3 i2 (.int .i64 0) 1 Try.underlying61 hk hx0 hx1 .i64 .i64 _ _ N rfl rfl rfl rfl (by rw [hx2]; omega) (by unfold maxLen; omega) (by simp) ?_; intro w1 hrow hg1; refine Hid.out ?_))
  refine Lib.hid ?_
  rw [← HW0.out] at hrow hg1
  rw [made_zeroN, hs0, labTo_zero] at hrow
  have HP0 : Hid (w1.heap[w.heap.size]? = some (.cells #[.slice a C.length cap, .int .i64 loops, .slice (some ⟨gF, 0, none⟩) N cF, .slice (some ⟨gT, 0, none⟩) N cT] 120 (0, 0)) ∧ w1.ownsRow (w.heap.size + 1) 3 1 (.slice (some ⟨w.heap.size + 1, 0, none⟩) N N) N (nats (labTo N 0)) ∧ Below w.heap.size w w1) := ⟨(hg1.block _ (by omega) (by simp)).trans HT0.out, hrow, HB0.out.grown hg1 (by omega) (fun k hk => by cases hk)⟩
  clear hrow hg1 HT0 HB0 hs0 HW0
  go_wp2
  go_loopw [16] (fun v5 wr => ∃ i : Nat, i ≤ N ∧ v5 = .int .i64 (i : Nat) ∧ Hid (wr.heap[w.heap.size]? = some (.cells #[.slice a C.length cap, .int .i64 loops, .slice (some ⟨gF, 0, none⟩) N cF, .slice (some ⟨gT, 0, none⟩) N cT] 120 (0, 0)) ∧ wr.ownsRow (w.heap.size + 1) 3 1 (.slice (some ⟨w.heap.size + 1, 0, none⟩) N N) N (nats (labTo N i)) ∧ Below w.heap.size w wr)) (fun v5 _ => N - (intOf v5).toNat)
  case atStart => exact ⟨0, Nat.zero_le _, rfl, HP0.out⟩
  case round =>
    clear HP0
    rename World => W1
    obtain ⟨i, hin, rfl, hp⟩ := hrel
    have hlt := hp.out.2.1.lt (w.heap.size + 1) rfl
    by_cases hil : i < N
    · have hst := hp.out.2.1.stored i (.int .i64 (i : Nat))
      rw [nats_set, labTo_next] at hst
      have HST : Hid ((W1.setCell ⟨w.heap.size + 1, i, none⟩ (.int .i64 (i : Nat))).heap[w.heap.size]? = some (.cells #[.slice a C.length cap, .int .i64 loops, .slice (some ⟨gF, 0, none⟩) N cF, .slice (some ⟨gT, 0, none⟩) N cT] 120 (0, 0)) ∧ (W1.setCell ⟨w.heap.size + 1, i, none⟩ (.int .i64 (i : Nat))).ownsRow (w.heap.size + 1) 3 1 (.slice (some ⟨w.heap.size + 1, 0, none⟩) N N) N (nats (labTo N (i + 1))) ∧ Below w.heap.size w (W1.setCell ⟨w.heap.size + 1, i, none⟩ (.int .i64 (i : Nat)))) := ⟨(hst.2.block _ (by omega) (fun e => by have : w.heap.size = w.heap.size + 1 := Option.some.inj e; omega)).trans hp.out.1, hst.1, hp.out.2.2.grown hst.2 hp.out.2.2.size (fun q hq => by have := Option.some.inj hq; omega)⟩
      have e0 : W1.cell? ⟨w.heap.size + 1, i, none⟩ = some (.int .i64 ((labTo N i).getD i 0 : Nat)) := by
        rw [hp.out.2.1.cellAt i (by omega)]; exact nats_get _ i (by simp [labTo]; omega)
      have z0 : W1.frozen? ⟨w.heap.size + 1, i, none⟩ = false := hp.out.2.1.frozenAt i
      have hdi : (i : Int) ≤ 2 * (C.length : Int) := by have := HN.out; omega
      clear hst
      go_wp2
      go_roundw
      case rel => exact ⟨i + 1, by omega, by go_num, HST.out⟩
      case measure => simp only [intOf]; omega
    · obtain rfl : N = i := by omega
      have HP1 : Hid (W1.heap[w.heap.size]? = some (.cells #[.slice a C.length cap, .int .i64 loops, .slice (some ⟨gF, 0, none⟩) N cF, .slice (some ⟨gT, 0, none⟩) N cT] 120 (0, 0)) ∧ W1.ownsRow (w.heap.size + 1) 3 1 (.slice (some ⟨w.heap.size + 1, 0, none⟩) N N) N (nats (mers (List.range N) ((ovE C).take 0))) ∧ Below w.heap.size w W1) := (by have h := hp.out; rw [labTo_all] at h; exact h : W1.heap[w.heap.size]? = some (.cells #[.slice a C.length cap, .int .i64 loops, .slice (some ⟨gF, 0, none⟩) N cF, .slice (some ⟨gT, 0, none⟩) N cT] 120 (0, 0)) ∧ W1.ownsRow (w.heap.size + 1) 3 1 (.slice (some ⟨w.heap.size + 1, 0, none⟩) N N) N (nats (mers (List.range N) ((ovE C).take 0))) ∧ Below w.heap.size w W1)
      have t0 : W1.cell? ⟨w.heap.size, 0, none⟩ = some (.slice a C.length cap) := block_cell hp.out.1 rfl
      have hdn : decide ((N : Int) < (N : Int)) = false := by simp
      have hdn2 : decide (N < N) = false := by simp
      clear hp
      go_wp2
      go_loopw [28] (fun v28 wr => ∃ k : Nat, k ≤ C.length ∧ v28 = .int .i64 (k : Nat) ∧ Hid (wr.heap[w.heap.size]? = some (.cells #[.slice a C.length cap, .int .i64 loops, .slice (some ⟨gF, 0, none⟩) N cF, .slice (some ⟨gT, 0, none⟩) N cT] 120 (0, 0)) ∧ wr.ownsRow (w.heap.size + 1) 3 1 (.slice (some ⟨w.heap.size + 1, 0, none⟩) N N) N (nats (mers (List.range N) ((ovE C).take k))) ∧ Below w.heap.size w wr)) (fun v28 _ => C.length - (intOf v28).toNat)
      case atStart => exact ⟨0, Nat.zero_le _, rfl, HP1.out⟩
      case round =>
        clear HP1 t0
        rename World => W2
        obtain ⟨k, hin2, rfl, hp⟩ := hrel
        by_cases hil2 : k < C.length
        · obtain ⟨b, off, ea, hbw, hC⟩ := HD.out.cross (by omega)
          have t0 : W2.cell? ⟨w.heap.size, 0, none⟩ = some (.slice a C.length cap) := block_cell hp.out.1 rfl
          have ff := may_fit HM.out k 1 hil2 (by omega)
          have fg := may_fit HM.out k 3 hil2 (by omega)
          have HX : Hid ((C.getD k Cr.none).arc 1 = (C.getD k Cr.none).b ∧ (C.getD k Cr.none).arc 3 = (C.getD k Cr.none).d) := ⟨rfl, rfl⟩
          have f1 := ff.1
          have f2 := ff.2.1
          have f3 := fg.1
          have f4 := fg.2.1
          rw [HX.out.1] at f1 f2
          rw [HX.out.2] at f3 f4
          obtain ⟨e0, e1, e2, e3, e4⟩ := (hC.on hp.out.2.2 hbw) k hil2
          obtain ⟨x, hx⟩ : ∃ x : Nat, (C.getD k Cr.none).b = (x : Int) := ⟨(C.getD k Cr.none).b.toNat, by omega⟩
          obtain ⟨y, hy⟩ : ∃ y : Nat, (C.getD k Cr.none).d = (y : Int) := ⟨(C.getD k Cr.none).d.toNat, by omega⟩
          have hxN : x < N := by have := HN.out; omega
          have hyN : y < N := by have := HN.out; omega
          obtain ⟨ca, hca⟩ : ∃ z, (C.getD k Cr.none).a = z := ⟨_, rfl⟩
          obtain ⟨cc, hcc⟩ : ∃ z, (C.getD k Cr.none).c = z := ⟨_, rfl⟩
          obtain ⟨cp, hcp⟩ : ∃ z, (C.getD k Cr.none).plus = z := ⟨_, rfl⟩
          have HLV : Hid (mers (List.range N) ((ovE C).take (k + 1)) = mer (mers (List.range N) ((ovE C).take k)) x y) := (by rw [mers_ov _ C k hil2, hx, hy]; rfl : mers (List.range N) ((ovE C).take (k + 1)) = mer (mers (List.range N) ((ovE C).take k)) x y)
          have HLL : Hid ((mers (List.range N) ((ovE C).take k)).length = N) := (by rw [mers_len]; simp : (mers (List.range N) ((ovE C).take k)).length = N)
          rw [hca] at e0
          rw [hx] at e1
          rw [hcc] at e2
          rw [hy] at e3
          rw [hcp] at e4
          obtain ⟨L, hL⟩ : ∃ L, mers (List.range N) ((ovE C).take k) = L := ⟨_, rfl⟩
          rw [hL] at HLV HLL hp
          have hsW := hp.out.2.2.size
          have hgl := (hp.out.2.1.lt (w.heap.size + 1) rfl).2
          have hbW : b < W2.heap.size := by omega
          have hii : (k : Int) < (C.length : Int) := by omega
          have d0 : W2.cell? ⟨w.heap.size + 1, x, none⟩ = some (.int .i64 (L.getD x 0 : Nat)) := by
            rw [hp.out.2.1.cellAt x (by omega)]; exact nats_get _ x (by rw [HLL.out]; exact hxN)
          have d1 : W2.cell? ⟨w.heap.size + 1, y, none⟩ = some (.int .i64 (L.getD y 0 : Nat)) := by
            rw [hp.out.2.1.cellAt y (by omega)]; exact nats_get _ y (by rw [HLL.out]; exact hyN)
          obtain ⟨p, hpx⟩ : ∃ p, L.getD x 0 = p := ⟨_, rfl⟩
          obtain ⟨q, hqx⟩ : ∃ q, L.getD y 0 = q := ⟨_, rfl⟩
          rw [hpx] at d0
          rw [hqx] at d1
          have HPQ : Hid (L.getD x 0 = p ∧ L.getD y 0 = q) := ⟨hpx, hqx⟩
          obtain ⟨X, hX⟩ : ∃ X, X = (W2.alloc (.cells #[.int .i64 ca, .int .i64 (x : Nat), .int .i64 cc, .int .i64 (y : Nat), .bool cp] 70)) := ⟨_, rfl⟩
          have HX0 : Hid (X = (W2.alloc (.cells #[.int .i64 ca, .int .i64 (x : Nat), .int .i64 cc, .int .i64 (y : Nat), .bool cp] 70))) := hX
          have HGX : Hid (W2.grownBy X none) := (by rw [hX]; exact World.grownBy_alloc _ _ none : W2.grownBy X none)
          have hXs : X.heap.size = W2.heap.size + 1 := by rw [hX]; simp
          have HXB : Hid (X.heap[W2.heap.size]? = some (.cells #[.int .i64 ca, .int .i64 (x : Nat), .int .i64 cc, .int .i64 (y : Nat), .bool cp] 70 (0, 0))) := (by rw [hX]; exact alloc_at rfl : X.heap[W2.heap.size]? = some (.cells #[.int .i64 ca, .int .i64 (x : Nat), .int .i64 cc, .int .i64 (y : Nat), .bool cp] 70 (0, 0)))
          have HXR : Hid (X.heap[w.heap.size]? = some (.cells #[.slice a C.length cap, .int .i64 loops, .slice (some ⟨gF, 0, none⟩) N cF, .slice (some ⟨gT, 0, none⟩) N cT] 120 (0, 0)) ∧ X.ownsRow (w.heap.size + 1) 3 1 (.slice (some ⟨w.heap.size + 1, 0, none⟩) N N) N (nats (L)) ∧ Below w.heap.size w X) := ⟨(HGX.out.block _ (by omega) (by simp)).trans hp.out.1, own_any hp.out.2.1 HGX.out, hp.out.2.2.grown HGX.out hsW (fun z hz => by cases hz)⟩
          clear hC ff fg f1 f2 f3 f4 hx hy hca hcc hcp hL hpx hqx hX
          go_wp2
          rw [← HX0.out]
          have x1 : X.cell? ⟨W2.heap.size, 1, none⟩ = some (.int .i64 (x : Nat)) := block_cell HXB.out rfl
          have x3 : X.cell? ⟨W2.heap.size, 3, none⟩ = some (.int .i64 (y : Nat)) := block_cell HXB.out rfl
          have y0 : X.cell? ⟨w.heap.size + 1, x, none⟩ = some (.int .i64 (p : Nat)) := (by rw [HXR.out.2.1.cellAt x (by omega), nats_get _ x (by rw [HLL.out]; exact hxN), HPQ.out.1])
          have y1 : X.cell? ⟨w.heap.size + 1, y, none⟩ = some (.int .i64 (q : Nat)) := (by rw [HXR.out.2.1.cellAt y (by omega), nats_get _ y (by rw [HLL.out]; exact hyN), HPQ.out.2])
          clear d0 d1 e0 e1 e2 e3 e4
          obtain ⟨lo, hlo⟩ : ∃ lo, min p q = lo := ⟨_, rfl⟩
          obtain ⟨hi, hhi⟩ : ∃ hi, max p q = hi := ⟨_, rfl⟩
          have E1 : (if q < p then (q : Int) else (p : Int)) = (lo : Int) := by rw [← hlo]; split <;> omega
          have E2 : (if p < q then (q : Int) else (p : Int)) = (hi : Int) := by rw [← hhi]; split <;> omega
          have HLH : Hid (min p q = lo ∧ max p q = hi) := ⟨hlo, hhi⟩
          clear hlo hhi
          apply cut_one
          case h =>
            intro key
            go_region_held3 (fun w' => w'.cell? ⟨W2.heap.size, 1, none⟩ = some (.int .i64 (x : Nat)) ∧ w'.cell? ⟨W2.heap.size, 3, none⟩ = some (.int .i64 (y : Nat)) ∧ w'.cell? ⟨w.heap.size + 1, x, none⟩ = some (.int .i64 (p : Nat)) ∧ w'.cell? ⟨w.heap.size + 1, y, none⟩ = some (.int .i64 (q : Nat))) (exact ⟨x1, x3, y0, y1⟩) (fail)
            all_goals
              exact key.out
          rw [← ea]
          clear x1 x3 y0 y1 E1 E2 ea
          have HQ0 : Hid (X.drew.heap[w.heap.size]? = some (.cells #[.slice a C.length cap, .int .i64 loops, .slice (some ⟨gF, 0, none⟩) N cF, .slice (some ⟨gT, 0, none⟩) N cT] 120 (0, 0)) ∧ X.drew.ownsRow (w.heap.size + 1) 3 1 (.slice (some ⟨w.heap.size + 1, 0, none⟩) N N) N (nats (merTo L x y 0)) ∧ Below w.heap.size w X.drew) := (by rw [merTo_zero]; exact ⟨HXR.out.1, own_any HXR.out.2.1 (grown_below ((Below.refl _ _).drew) none), HXR.out.2.2.drew⟩ : X.drew.heap[w.heap.size]? = some (.cells #[.slice a C.length cap, .int .i64 loops, .slice (some ⟨gF, 0, none⟩) N cF, .slice (some ⟨gT, 0, none⟩) N cT] 120 (0, 0)) ∧ X.drew.ownsRow (w.heap.size + 1) 3 1 (.slice (some ⟨w.heap.size + 1, 0, none⟩) N N) N (nats (merTo L x y 0)) ∧ Below w.heap.size w X.drew)
          have HME : Hid (∀ v, v < N → (mer L x y).getD v 0 = if L.getD v 0 = hi then lo else L.getD v 0) := fun v hv => by rw [mer_at L x y v (by rw [HLL.out]; exact hv), HPQ.out.1, HPQ.out.2, HLH.out.1, HLH.out.2]
          have hdk : decide ((k : Int) < (C.length : Int)) = true := by simp; omega
          have hdk2 : decide (k < C.length) = true := by simp; omega
          clear HXR HXB HGX HX0 HPQ HLH
          go_wp2
          go_loopw [56] (fun v56 wr => ∃ j : Nat, j ≤ N ∧ v56 = .int .i64 (j : Nat) ∧ Hid (wr.heap[w.heap.size]? = some (.cells #[.slice a C.length cap, .int .i64 loops, .slice (some ⟨gF, 0, none⟩) N cF, .slice (some ⟨gT, 0, none⟩) N cT] 120 (0, 0)) ∧ wr.ownsRow (w.heap.size + 1) 3 1 (.slice (some ⟨w.heap.size + 1, 0, none⟩) N N) N (nats (merTo L x y j)) ∧ Below w.heap.size w wr)) (fun v56 _ => N - (intOf v56).toNat)
          case atStart => exact ⟨0, Nat.zero_le _, rfl, HQ0.out⟩
          case round =>
            clear HQ0
            rename World => W3
            obtain ⟨j, hjn, rfl, hq⟩ := hrel
            have hg3 := (hq.out.2.1.lt (w.heap.size + 1) rfl).2
            by_cases hjl : j < N
            · have f0 : W3.cell? ⟨w.heap.size + 1, j, none⟩ = some (.int .i64 (L.getD j 0 : Nat)) := by
                rw [hq.out.2.1.cellAt j (by omega), nats_get _ j (by rw [merTo_len, HLL.out]; exact hjl), merTo_at _ _ _ _ _ (by rw [HLL.out]; exact hjl), if_neg (by omega)]
              obtain ⟨z, hz⟩ : ∃ z, L.getD j 0 = z := ⟨_, rfl⟩
              have HZ : Hid (L.getD j 0 = z) := hz
              rw [hz] at f0
              clear hz
              by_cases hzh : z = hi
              · subst hzh
                have hst := hq.out.2.1.stored j (.int .i64 (lo : Nat))
                rw [nats_set, merTo_next L x y j lo (by rw [HLL.out]; exact hjl) (by rw [HME.out j hjl, HZ.out, if_pos rfl])] at hst
                have HST : Hid ((W3.setCell ⟨w.heap.size + 1, j, none⟩ (.int .i64 (lo : Nat))).heap[w.heap.size]? = some (.cells #[.slice a C.length cap, .int .i64 loops, .slice (some ⟨gF, 0, none⟩) N cF, .slice (some ⟨gT, 0, none⟩) N cT] 120 (0, 0)) ∧ (W3.setCell ⟨w.heap.size + 1, j, none⟩ (.int .i64 (lo : Nat))).ownsRow (w.heap.size + 1) 3 1 (.slice (some ⟨w.heap.size + 1, 0, none⟩) N N) N (nats (merTo L x y (j + 1))) ∧ Below w.heap.size w (W3.setCell ⟨w.heap.size + 1, j, none⟩ (.int .i64 (lo : Nat)))) := ⟨(hst.2.block _ (by omega) (fun e => by have : w.heap.size = w.heap.size + 1 := Option.some.inj e; omega)).trans hq.out.1, hst.1, hq.out.2.2.grown hst.2 hq.out.2.2.size (fun q hq => by have := Option.some.inj hq; omega)⟩
                have z0 : W3.frozen? ⟨w.heap.size + 1, j, none⟩ = false := hq.out.2.1.frozenAt j
                have hzz : ((z : Int) == (z : Int)) = true := by simp
                clear hst
                go_wp2
                go_roundw
                case rel => exact ⟨j + 1, by omega, by go_num, HST.out⟩
                case measure => simp only [intOf]; omega
              · have hzz : ((z : Int) == (hi : Int)) = false := by simp; omega
                have hzz2 : (z == hi) = false := by simp; omega
                have HST : Hid (W3.heap[w.heap.size]? = some (.cells #[.slice a C.length cap, .int .i64 loops, .slice (some ⟨gF, 0, none⟩) N cF, .slice (some ⟨gT, 0, none⟩) N cT] 120 (0, 0)) ∧ W3.ownsRow (w.heap.size + 1) 3 1 (.slice (some ⟨w.heap.size + 1, 0, none⟩) N N) N (nats (merTo L x y (j + 1))) ∧ Below w.heap.size w W3) := (by rw [← merTo_same L x y j (by rw [HLL.out]; exact hjl) (by rw [HME.out j hjl, HZ.out, if_neg hzh])]; exact hq.out : W3.heap[w.heap.size]? = some (.cells #[.slice a C.length cap, .int .i64 loops, .slice (some ⟨gF, 0, none⟩) N cF, .slice (some ⟨gT, 0, none⟩) N cT] 120 (0, 0)) ∧ W3.ownsRow (w.heap.size + 1) 3 1 (.slice (some ⟨w.heap.size + 1, 0, none⟩) N N) N (nats (merTo L x y (j + 1))) ∧ Below w.heap.size w W3)
                go_wp2
                go_roundw
                case rel => exact ⟨j + 1, by omega, by go_num, HST.out⟩
                case measure => simp only [intOf]; omega
            · obtain rfl : N = j := by omega
              go_wp2
              go_roundw
              case rel => exact ⟨k + 1, by omega, by go_num, (by have h := hq.out; rw [← HLL.out, merTo_all, HLL.out] at h; rw [HLV.out]; exact h : W3.heap[w.heap.size]? = some (.cells #[.slice a C.length cap, .int .i64 loops, .slice (some ⟨gF, 0, none⟩) N cF, .slice (some ⟨gT, 0, none⟩) N cT] 120 (0, 0)) ∧ W3.ownsRow (w.heap.size + 1) 3 1 (.slice (some ⟨w.heap.size + 1, 0, none⟩) N N) N (nats (mers (List.range N) ((ovE C).take (k + 1)))) ∧ Below w.heap.size w W3)⟩
              case measure => simp only [intOf]; omega
        · obtain rfl : k = C.length := by omega
          go_wp2
          go_ret
          exact ⟨_, rfl, (by have h := hp.out.2.1; rw [ovE_all] at h; have e : lowM C = mers (List.range N) (ovE C) := (by unfold lowM; rw [HN.out]); rw [e]; exact own_low h (by omega)), hp.out.2.2⟩
end Go.Proofs.Ytnhllpaoplfgpaa
/- The walks of colour.overpasses and colour.Overs. -/
namespace Go.Proofs.Ytnhllpaoplfgpaa
open Go.RowKit

/-- The overpasses of arcs below k; what stands first tells of none. -/
def ovTo (C : List Cr) (k : Nat) : List Nat := (List.range (2 * C.length + 1)).map fun v => if v < k ∧ 1 ≤ v then ovM C v else 0
theorem ovTo_len (C : List Cr) (k : Nat) : (ovTo C k).length = 2 * C.length + 1 := by simp [ovTo]
theorem ovTo_at (C : List Cr) (k v : Nat) (hv : v < 2 * C.length + 1) : (ovTo C k).getD v 0 = if v < k ∧ 1 ≤ v then ovM C v else 0 := by simp [ovTo, List.getD_eq_getElem?_getD, hv]
theorem ovTo_zero (C : List Cr) : List.replicate (2 * C.length + 1) 0 = ovTo C 1 := by
  refine List.ext_getElem (by simp [ovTo]) fun j h1 h2 => ?_
  simp only [ovTo, List.getElem_map, List.getElem_range, List.getElem_replicate]
  rw [if_neg (by omega)]
theorem ovTo_next (C : List Cr) (k z : Nat) (hk : k < 2 * C.length + 1) (h1 : 1 ≤ k) (hz : ovM C k = z) : (ovTo C k).set k z = ovTo C (k + 1) := getD_ext (by simp [ovTo_len]) fun v hv => by
  have hv' : v < 2 * C.length + 1 := by simpa [ovTo_len] using hv
  rw [getD_set _ _ _ _ (by rw [ovTo_len]; exact hk), ovTo_at _ _ _ hv', ovTo_at _ _ _ hv']
  by_cases e : v = k
  · subst e; rw [if_pos rfl, if_pos ⟨by omega, h1⟩, hz]
  · rw [if_neg e]
    by_cases h2 : v < k ∧ 1 ≤ v
    · rw [if_pos h2, if_pos ⟨by omega, h2.2⟩]
    · rw [if_neg h2, if_neg (fun q => h2 ⟨by omega, q.2⟩)]
theorem ovTo_drop (C : List Cr) : (ovTo C (2 * C.length + 1)).drop 1 = ovL C (2 * C.length) := by
  refine List.ext_getElem (by simp [ovTo, ovL]) fun j h1 h2 => ?_
  simp only [List.getElem_drop, ovTo, ovL, List.getElem_map, List.getElem_range]
  rw [if_pos ⟨by have : j < 2 * C.length := by simpa [ovL] using h2
                 omega, by omega⟩, Nat.add_comm]

set_option maxHeartbeats 16000000 in
set_option maxRecDepth 100000 in
theorem overpasses_any (a : Option Addr) (cap : Nat) (C : List Cr) (loops : Int) (gF cF gT cT : Nat) (w : World) (hm : mayD C loops = true) (hD : Dr w a cap C gF gT) :
    Calls Try.prog 128 #[drV a cap C loops gF cF gT cT] w fun e w' => ∃ g, e = .returned (.tuple #[.slice (some ⟨g, 0, none⟩) (2 * C.length + 1) (2 * C.length + 1), .int .i64 (ovC C : Nat)]) ∧ w'.ownsRow w.heap.size 3 1 (.slice (some ⟨g, 0, none⟩) (2 * C.length + 1) (2 * C.length + 1)) (2 * C.length + 1) (nats (ovTo C (2 * C.length + 1))) ∧ Below w.heap.size w w' := by
  obtain ⟨s1, -, -, -⟩ := sizeB_iff (may_size hm)
  obtain ⟨i2, hk, hx0, hx1, hx2⟩ := info_parts infoInt
  have HM : Hid (mayD C loops = true) := hm
  have HD : Hid (Dr w a cap C gF gT) := hD
  have HLS : Hid (Least (ovE C) (2 * C.length + 1) (lowM C)) := lowM_least (ovE_lt hm)
  have HCV : Hid (ovC C = rootsN (lowM C) (2 * C.length + 1)) := (rfl : ovC C = rootsN (lowM C) (2 * C.length + 1))
  have HLP : Hid (∀ v, 1 ≤ v → v < 2 * C.length + 1 → 1 ≤ (lowM C).getD v 0) := fun v h1 h2 => HLS.out.pos (fun e he => ⟨(ovE_in HM.out e he).1.1, (ovE_in HM.out e he).2.1⟩) h2 h1
  have HZ0 : Hid (List.replicate (2 * C.length + 1) 0 = ovTo C 1) := ovTo_zero C
  have HB0 : Hid (Below w.heap.size w (w.alloc (.cells #[.slice a C.length cap, .int .i64 loops, .slice (some ⟨gF, 0, none⟩) (2 * C.length + 1) cF, .slice (some ⟨gT, 0, none⟩) (2 * C.length + 1) cT] 120))) := (Below.refl _ _).alloc (Nat.le_refl _) _
  unfold drV
  obtain ⟨N, hN⟩ : ∃ N, N = 2 * C.length + 1 := ⟨_, rfl⟩
  have HN : Hid (N = 2 * C.length + 1) := hN
  have hN1 : 1 ≤ N := by omega
  have hN2 : N ≤ 33 := by omega
  have HLA : Hid (∀ W, Dr W a cap C gF gT → Calls Try.prog 177 #[.agg #[.slice a C.length cap, .int .i64 loops, .slice (some ⟨gF, 0, none⟩) N cF, .slice (some ⟨gT, 0, none⟩) N cT]] W fun e w' => ∃ g, e = .returned (.slice (some ⟨g, 0, none⟩) N N) ∧ w'.ownsRow W.heap.size 3 1 (.slice (some ⟨g, 0, none⟩) N N) N (nats (lowM C)) ∧ Below W.heap.size W w') := fun W hW => by rw [hN]; exact lowestArcs_any a cap C loops gF cF gT cT W HM.out hW
  rw [← hN] at HLS HCV HLP HZ0 HB0 ⊢
  rw [HCV.out]
  clear hm hD hN
  go_enter Try.func128, Try.ntmps128
  go_wp2_with (go_at_call 177; refine (HLA.out _ (HD.out.on HB0.out)).mono ?_; rintro e9 w1 ⟨g, rfl, hr1, hb1⟩; refine Hid.out ?_)
  refine Lib.hid ?_
  have hs1 : w.heap.size + 1 ≤ w1.heap.size := by have := hb1.size; simpa using this
  have hg1 : w.heap.size + 1 ≤ g ∧ g < w1.heap.size := by have := hr1.lt g rfl; simpa using this
  have HR1 : Hid (w1.ownsRow (w.heap.size + 1) 3 1 (.slice (some ⟨g, 0, none⟩) N N) N (nats (lowM C)) ∧ Below w.heap.size w w1) := ⟨own_low hr1 (by simp), HB0.out.trans (hb1.mono (by simp))⟩
  clear hr1 hb1
  go_wp2_with (first | (at_make; refine wpList_make_full _ rfl _ _ 61 rfl w1.heap.size 3 i2 (.int .i64 0) 1 Try.underlying61 hk hx0 hx1 .i64 .i64 _ _ N rfl rfl rfl rfl (by rw [hx2]; omega) (by unfold maxLen; omega) (by omega) ?_; intro w2 hrow hg2; refine Hid.out ?_))
  refine Lib.hid ?_
  rw [made_zeroN, HZ0.out] at hrow
  have HP0 : Hid (w2.ownsRow (w.heap.size + 1) 3 1 (.slice (some ⟨g, 0, none⟩) N N) N (nats (lowM C)) ∧ w2.ownsRow w1.heap.size 3 1 (.slice (some ⟨w1.heap.size, 0, none⟩) N N) N (nats (ovTo C 1)) ∧ Below w.heap.size w w2) := ⟨own_any HR1.out.1 hg2, hrow, HR1.out.2.grown hg2 HR1.out.2.size (fun q hq => by cases hq)⟩
  clear hrow hg2 HR1
  go_wp2
  go_loopw [3, 5] (fun v3 v5 wr => ∃ j : Nat, 1 ≤ j ∧ j ≤ N ∧ v5 = .int .i64 (j : Nat) ∧ v3 = .int .i64 (rootsN (lowM C) j : Nat) ∧ Hid (wr.ownsRow (w.heap.size + 1) 3 1 (.slice (some ⟨g, 0, none⟩) N N) N (nats (lowM C)) ∧ wr.ownsRow w1.heap.size 3 1 (.slice (some ⟨w1.heap.size, 0, none⟩) N N) N (nats (ovTo C j)) ∧ Below w.heap.size w wr)) (fun _ v5 _ => N - (intOf v5).toNat)
  case atStart => exact ⟨1, Nat.le_refl _, hN1, rfl, (by simp [rootsN]), HP0.out⟩
  case round =>
    clear HP0
    rename World => W1
    obtain ⟨j, hj1, hjn, rfl, rfl, hp⟩ := hrel
    have hlt := (hp.out.2.1.lt w1.heap.size rfl).2
    have hr1 := rootsN_le (lowM C) j
    by_cases hjl : j < N
    · obtain ⟨q, hq⟩ : ∃ q, (lowM C).getD j 0 = q := ⟨_, rfl⟩
      have hqj : q ≤ j := by rw [← hq]; exact HLS.out.le hjl
      have hq1 : 1 ≤ q := by rw [← hq]; exact HLP.out j hj1 hjl
      have hqN : q < N := by omega
      have e0 : W1.cell? ⟨g, j, none⟩ = some (.int .i64 (q : Nat)) := by
        rw [hp.out.1.cellAt j (by omega), nats_get _ j (by rw [HLS.out.1]; omega), hq]
      by_cases hql : q < j
      · have HQR : Hid ((lowM C).getD q 0 = q) := (by have h := HLS.out.root hjl; rw [hq] at h; exact h : (lowM C).getD q 0 = q)
        have HOV : Hid (ovM C j = rootsN (lowM C) q) := (by unfold ovM; rw [hq] : ovM C j = rootsN (lowM C) q)
        have e1 : W1.cell? ⟨w1.heap.size, q, none⟩ = some (.int .i64 (rootsN (lowM C) q : Nat)) := by
          rw [hp.out.2.1.cellAt q (by omega), nats_get _ q (by rw [ovTo_len]; have := HN.out; omega), ovTo_at _ _ _ (by have := HN.out; omega), if_pos ⟨hql, hq1⟩]
          unfold ovM
          rw [HQR.out]
        have HR1 : Hid (rootsN (lowM C) (j + 1) = rootsN (lowM C) j) := (by simp only [rootsN]; rw [if_neg (fun z => by have := z.2; omega)]; simp : rootsN (lowM C) (j + 1) = rootsN (lowM C) j)
        have hdq : decide ((q : Int) < (j : Int)) = true := by simp; omega
        have hdq2 : decide (q < j) = true := by simp; omega
        clear hq
        have hst := hp.out.2.1.stored j (.int .i64 (rootsN (lowM C) q : Nat))
        rw [nats_set, ovTo_next C j (rootsN (lowM C) q) (by have := HN.out; omega) hj1 HOV.out] at hst
        have HST : Hid ((W1.setCell ⟨w1.heap.size, j, none⟩ (.int .i64 (rootsN (lowM C) q : Nat))).ownsRow (w.heap.size + 1) 3 1 (.slice (some ⟨g, 0, none⟩) N N) N (nats (lowM C)) ∧ (W1.setCell ⟨w1.heap.size, j, none⟩ (.int .i64 (rootsN (lowM C) q : Nat))).ownsRow w1.heap.size 3 1 (.slice (some ⟨w1.heap.size, 0, none⟩) N N) N (nats (ovTo C (j + 1))) ∧ Below w.heap.size w (W1.setCell ⟨w1.heap.size, j, none⟩ (.int .i64 (rootsN (lowM C) q : Nat)))) := ⟨hp.out.1.kept hst.2 (Or.inr (fun e => by have : g = w1.heap.size := Option.some.inj e; omega)), hst.1, hp.out.2.2.grown hst.2 hp.out.2.2.size (fun q hq => by have := Option.some.inj hq; omega)⟩
        have z0 : W1.frozen? ⟨w1.heap.size, j, none⟩ = false := hp.out.2.1.frozenAt j
        have eo : W1.cell? ⟨w1.heap.size, j, none⟩ = some (.int .i64 ((ovTo C j).getD j 0 : Nat)) := by
          rw [hp.out.2.1.cellAt j (by omega)]; exact nats_get _ j (by rw [ovTo_len]; have := HN.out; omega)
        clear hst
        go_wp2
        go_roundw
        case rel => exact ⟨j + 1, by omega, by omega, by go_num, (by rw [HR1.out]), HST.out⟩
        case measure => simp only [intOf]; omega

      · obtain rfl : q = j := by omega
        have HOV : Hid (ovM C q = rootsN (lowM C) q) := (by unfold ovM; rw [hq] : ovM C q = rootsN (lowM C) q)
        have HR1 : Hid (rootsN (lowM C) (q + 1) = rootsN (lowM C) q + 1) := (by simp only [rootsN]; rw [if_pos ⟨hq1, hq⟩] : rootsN (lowM C) (q + 1) = rootsN (lowM C) q + 1)
        have hdq : decide ((q : Int) < (q : Int)) = false := by simp
        have hdq2 : decide (q < q) = false := by simp
        clear hq
        have hst := hp.out.2.1.stored q (.int .i64 (rootsN (lowM C) q : Nat))
        rw [nats_set, ovTo_next C q (rootsN (lowM C) q) (by have := HN.out; omega) hj1 HOV.out] at hst
        have HST : Hid ((W1.setCell ⟨w1.heap.size, q, none⟩ (.int .i64 (rootsN (lowM C) q : Nat))).ownsRow (w.heap.size + 1) 3 1 (.slice (some ⟨g, 0, none⟩) N N) N (nats (lowM C)) ∧ (W1.setCell ⟨w1.heap.size, q, none⟩ (.int .i64 (rootsN (lowM C) q : Nat))).ownsRow w1.heap.size 3 1 (.slice (some ⟨w1.heap.size, 0, none⟩) N N) N (nats (ovTo C (q + 1))) ∧ Below w.heap.size w (W1.setCell ⟨w1.heap.size, q, none⟩ (.int .i64 (rootsN (lowM C) q : Nat)))) := ⟨hp.out.1.kept hst.2 (Or.inr (fun e => by have : g = w1.heap.size := Option.some.inj e; omega)), hst.1, hp.out.2.2.grown hst.2 hp.out.2.2.size (fun q hq => by have := Option.some.inj hq; omega)⟩
        have z0 : W1.frozen? ⟨w1.heap.size, q, none⟩ = false := hp.out.2.1.frozenAt q
        have eo : W1.cell? ⟨w1.heap.size, q, none⟩ = some (.int .i64 ((ovTo C q).getD q 0 : Nat)) := by
          rw [hp.out.2.1.cellAt q (by omega)]; exact nats_get _ q (by rw [ovTo_len]; have := HN.out; omega)
        clear hst
        go_wp2
        go_roundw
        case rel => exact ⟨q + 1, by omega, by omega, by go_num, (by rw [HR1.out]; go_num), HST.out⟩
        case measure => simp only [intOf]; omega

    · obtain rfl : N = j := by omega
      go_wp2
      go_ret2
      exact ⟨_, rfl, own_low hp.out.2.1 (by omega), hp.out.2.2⟩
end Go.Proofs.Ytnhllpaoplfgpaa
/- One more than the greatest number of a list; the walk of ref.mostOf. -/
namespace Go.Proofs.Ytnhllpaoplfgpaa
open Go.RowKit

/-- One more than the greatest of the first k. -/
def mostTo (l : List Nat) : Nat → Nat
  | 0 => 0
  | k + 1 => max (mostTo l k) (l.getD k 0 + 1)
theorem mostTo_le (l : List Nat) (B k : Nat) (hk : k ≤ l.length) (h : ∀ x, x ∈ l → x < B) : mostTo l k ≤ B := by
  induction k with
  | zero => exact Nat.zero_le _
  | succ k ih =>
    have := ih (by omega)
    have h2 := h (l.getD k 0) (by rw [List.getD_eq_getElem?_getD, List.getElem?_eq_getElem (by omega)]; exact List.getElem_mem _)
    simp only [mostTo]
    omega
theorem mostTo_ov {C : List Cr} (hL : Least (ovE C) (2 * C.length + 1) (lowM C)) (hpos : ∀ v, 1 ≤ v → v < 2 * C.length + 1 → 1 ≤ (lowM C).getD v 0) (k : Nat) (hk : k ≤ 2 * C.length) : mostTo (ovL C (2 * C.length)) k = rootsN (lowM C) (k + 1) := by
  induction k with
  | zero => simp [mostTo, rootsN]
  | succ k ih =>
    have h1 := ih (by omega)
    have e : (ovL C (2 * C.length)).getD k 0 = ovM C (k + 1) := by simp [ovL, List.getD_eq_getElem?_getD, show k < 2 * C.length by omega]
    have hv : k + 1 < 2 * C.length + 1 := by omega
    simp only [mostTo]
    rw [h1, e]
    show max (rootsN (lowM C) (k + 1)) (ovM C (k + 1) + 1) = rootsN (lowM C) (k + 1) + (if 1 ≤ k + 1 ∧ (lowM C).getD (k + 1) 0 = k + 1 then 1 else 0)
    by_cases hr : (lowM C).getD (k + 1) 0 = k + 1
    · rw [if_pos ⟨by omega, hr⟩]
      unfold ovM
      rw [hr]
      omega
    · rw [if_neg (fun z => hr z.2)]
      have hle := hL.le hv
      have hp := hpos (k + 1) (by omega) hv
      have hroot := hL.root hv
      have h3 : rootsN (lowM C) ((lowM C).getD (k + 1) 0 + 1) = ovM C (k + 1) + 1 := by
        show rootsN (lowM C) _ + _ = _
        rw [if_pos ⟨hp, hroot⟩]
        rfl
      have h4 := rootsN_mono (lowM C) ((lowM C).getD (k + 1) 0 + 1) (k + 1) (by omega)
      omega

set_option maxHeartbeats 4000000 in
set_option maxRecDepth 100000 in
theorem mostOf_any (v : Value) (l : List Nat) (B : Nat) (w : World) (hB : B ≤ 100) (hl : l.length ≤ 100) (hx : ∀ x, x ∈ l → x < B) (h : Slots w w.heap.size v (nats l)) :
    Calls Try.prog 136 #[v] w fun e w' => e = .returned (.int .i64 (mostTo l l.length : Nat)) ∧ Below w.heap.size w w' := by
  obtain ⟨a, c, rfl, g⟩ := h
  rw [nats_len] at g ⊢
  have HB : Hid (Below w.heap.size w w) := Below.refl _ _
  have HX : Hid (∀ x, x ∈ l → x < B) := hx
  by_cases h0 : 0 < l.length
  · obtain ⟨b, off, rfl, hbw, hc⟩ := g h0
    have HC : Hid (∀ i, i < l.length → w.cell? ⟨b, off + i, none⟩ = some ((nats l).getD i (.bool false))) := hc
    clear g hx hc
    go_enter Try.func136, Try.ntmps136
    go_wp2
    go_loopw [3, 4] (fun v3 v4 wr => ∃ i : Nat, i ≤ l.length ∧ v4 = .int .i64 (i : Nat) ∧ v3 = .int .i64 (mostTo l i : Nat) ∧ Hid (Below w.heap.size w wr)) (fun _ v4 _ => l.length - (intOf v4).toNat)
    case atStart => exact ⟨0, Nat.zero_le _, rfl, rfl, HB.out⟩
    case round =>
      clear HB
      rename World => W1
      obtain ⟨i, hi1, rfl, rfl, hb⟩ := hrel
      have hm1 := mostTo_le l B i hi1 HX.out
      by_cases hil : i < l.length
      · have hs := hb.out.size
        have hbW : b < W1.heap.size := by omega
        obtain ⟨x, hx⟩ : ∃ x, l.getD i 0 = x := ⟨_, rfl⟩
        have hxB : x < B := by rw [← hx]; exact HX.out _ (by rw [List.getD_eq_getElem?_getD, List.getElem?_eq_getElem (by omega)]; exact List.getElem_mem _)
        have e0 : W1.cell? ⟨b, off + i, none⟩ = some (.int .i64 (x : Nat)) := by
          refine bcell hb.out hbw ?_
          rw [HC.out i hil, List.getD_eq_getElem?_getD, nats_get l i hil, hx]; rfl
        have HMX : Hid (mostTo l (i + 1) = max (mostTo l i) (x + 1)) := (by show max _ _ = _; rw [hx] : mostTo l (i + 1) = max (mostTo l i) (x + 1))
        obtain ⟨y, hy⟩ : ∃ y, mostTo l i = y := ⟨_, rfl⟩
        rw [hy] at HMX hm1 ⊢
        clear hx hy
        by_cases hxy : y < x + 1
        · have HM2 : Hid (mostTo l (i + 1) = x + 1) := (by rw [HMX.out]; omega : mostTo l (i + 1) = x + 1)
          go_wp2
          go_roundw
          case rel => exact ⟨i + 1, by omega, by go_num, by rw [HM2.out]; go_num, hb.out⟩
          case measure => simp only [intOf]; omega
        · have HM2 : Hid (mostTo l (i + 1) = y) := (by rw [HMX.out]; omega : mostTo l (i + 1) = y)
          go_wp2
          go_roundw
          case rel => exact ⟨i + 1, by omega, by go_num, by rw [HM2.out], hb.out⟩
          case measure => simp only [intOf]; omega
      · obtain rfl : i = l.length := by omega
        go_wp2
        go_ret
        exact ⟨rfl, hb.out⟩
  · have hl0 : l.length = 0 := by omega
    have HM0 : Hid (mostTo l l.length = 0) := (by rw [hl0]; rfl : mostTo l l.length = 0)
    rw [HM0.out, hl0]
    clear g hx
    go_enter Try.func136, Try.ntmps136
    go_wp2
    go_loopw [3, 4] (fun v3 v4 wr => v4 = .int .i64 0 ∧ v3 = .int .i64 0 ∧ Hid (Below w.heap.size w wr)) (fun _ v4 _ => 0)
    case atStart => exact ⟨rfl, rfl, HB.out⟩
    case round =>
      clear HB
      rename World => W1
      obtain ⟨rfl, rfl, hb⟩ := hrel
      go_wp2
      go_ret
      exact ⟨rfl, hb.out⟩
end Go.Proofs.Ytnhllpaoplfgpaa
/- The walk of alex.rows. -/
namespace Go.Proofs.Ytnhllpaoplfgpaa
open Go.RowKit

theorem infoTermss : (Try.prog.info? 37).map (fun i => (i.zero, i.size, i.bytes)) = some (some (.slice none 0 0), 1, 24) := by kernel_rfl
/-- A table of polynomials under way: k rows are there. -/
structure TblAt (B n m gt k : Nat) (gs : Nat → Nat) (vals : Nat → Nat → Value) (G : Nat → Nat → Int × Int) (wr : World) : Prop where
  outer : wr.ownsRow B 37 1 (.slice (some ⟨gt, 0, none⟩) n n) n (valsL n fun i => if i < k then .slice (some ⟨gs i, 0, none⟩) m m else .slice none 0 0)
  each : ∀ i, i < k → PlcAt B m (gs i) (vals i) (G i) wr
theorem PlcAt.keep {B m g q : Nat} {vals : Nat → Value} {F : Nat → Int × Int} {w w' : World} (h : PlcAt B m g vals F w) (hg : w.grownBy w' (some q)) {B' e s n : Nat} {v : Value} {xs : List Value} (ho : w.ownsRow B' e s v n xs) (hv : v.ownBlock = some q) (h1 : 22 ≠ e) (h2 : 109 ≠ e) : PlcAt B m g vals F w' :=
  ⟨h.row.kept hg (by rw [← hv]; exact own_ne h.row ho h1), fun j hj => (h.each j hj).kept hg (by rw [← hv]; exact own_ne (h.each j hj) ho h2)⟩
theorem PlcAt.low {B B' m g : Nat} {vals : Nat → Value} {F : Nat → Int × Int} {w : World} (h : PlcAt B m g vals F w) (hB : B' ≤ B) : PlcAt B' m g vals F w := ⟨own_low h.row hB, fun j hj => own_low (h.each j hj) hB⟩
theorem TblAt.any {B n m gt k : Nat} {gs : Nat → Nat} {vals : Nat → Nat → Value} {G : Nat → Nat → Int × Int} {w w' : World} (h : TblAt B n m gt k gs vals G w) (hg : w.grownBy w' none) : TblAt B n m gt k gs vals G w' := ⟨own_any h.outer hg, fun i hi => (h.each i hi).any hg⟩
theorem TblAt.put {B n m gt k g : Nat} {gs : Nat → Nat} {vals : Nat → Nat → Value} {G : Nat → Nat → Int × Int} {vs : Nat → Value} {w : World} (h : TblAt B n m gt k gs vals G w) (hr : PlcAt B m g vs (G k) w) :
    TblAt B n m gt (k + 1) (fun i => if i = k then g else gs i) (fun i => if i = k then vs else vals i) G (w.setCell ⟨gt, k, none⟩ (.slice (some ⟨g, 0, none⟩) m m)) ∧ w.grownBy (w.setCell ⟨gt, k, none⟩ (.slice (some ⟨g, 0, none⟩) m m)) (some gt) := by
  have hst := h.outer.stored k (.slice (some ⟨g, 0, none⟩) m m)
  refine ⟨⟨?_, fun i hi => ?_⟩, hst.2⟩
  · rw [← valsL_set n (fun i => if i < k then .slice (some ⟨gs i, 0, none⟩) m m else .slice none 0 0) _ k (.slice (some ⟨g, 0, none⟩) m m) fun j _ => by
      by_cases e : j = k
      · rw [if_pos e, if_pos (by omega), if_pos e]
      · rw [if_neg e, if_neg e]
        by_cases h2 : j < k
        · rw [if_pos h2, if_pos (by omega)]
        · rw [if_neg h2, if_neg (by omega)]]
    exact hst.1
  · by_cases e : i = k
    · rw [if_pos e, if_pos e, e]
      exact hr.keep hst.2 h.outer rfl (by decide) (by decide)
    · rw [if_neg e, if_neg e]
      exact (h.each i (by omega)).keep hst.2 h.outer rfl (by decide) (by decide)

set_option maxHeartbeats 8000000 in
set_option maxRecDepth 100000 in
theorem alexRows_any (hAdd : AddOk) (a : Option Addr) (cap : Nat) (C : List Cr) (loops : Int) (ao : Option Addr) (co : Nat) (w : World) (hm : mayD C loops = true) (h10 : C.length ≤ 10) (hD : Crs w w.heap.size (.slice a C.length cap) C) (hO : Slots w w.heap.size (.slice ao (2 * C.length) co) (nats (ovL C (2 * C.length)))) :
    Calls Try.prog 134 #[.agg #[.slice a C.length cap, .int .i64 loops], .slice ao (2 * C.length) co] w fun e w' => ∃ gt, e = .returned (.slice (some ⟨gt, 0, none⟩) C.length C.length) ∧ (∃ gs vals, TblAt w.heap.size C.length (ovC C) gt C.length gs vals (alF C) w') ∧ Below w.heap.size w w' := by
  obtain ⟨i1, hj, hy0, hy1, hy2⟩ := info_parts infoTermss
  have HADD : Hid AddOk := hAdd
  have HM : Hid (mayD C loops = true) := hm
  have HD : Hid (Crs w w.heap.size (.slice a C.length cap) C) := hD
  have HO : Hid (Slots w w.heap.size (.slice ao (2 * C.length) co) (nats (ovL C (2 * C.length)))) := hO
  have HMO : Hid (∀ k, k ≤ 2 * C.length → mostTo (ovL C (2 * C.length)) k = rootsN (lowM C) (k + 1)) := fun k hk => mostTo_ov (lowM_least (ovE_lt hm)) (fun v h1 h2 => (lowM_least (ovE_lt hm)).pos (fun e he => ⟨(ovE_in hm e he).1.1, (ovE_in hm e he).2.1⟩) h2 h1) k hk
  have hoc : ovC C ≤ 21 := Nat.le_trans (rootsN_le _ _) (by omega)
  obtain ⟨W0, hW0⟩ : ∃ W, W = w.alloc (.cells #[.slice a C.length cap, .int .i64 loops] 44) := ⟨_, rfl⟩
  have HW0 : Hid (W0 = w.alloc (.cells #[.slice a C.length cap, .int .i64 loops] 44)) := hW0
  have HB0 : Hid (Below w.heap.size w W0) := (by rw [hW0]; exact (Below.refl _ _).alloc (Nat.le_refl _) _ : Below w.heap.size w W0)
  have HT0 : Hid (W0.heap[w.heap.size]? = some (.cells #[.slice a C.length cap, .int .i64 loops] 44 (0, 0))) := (by rw [hW0]; exact alloc_at rfl : W0.heap[w.heap.size]? = some (.cells #[.slice a C.length cap, .int .i64 loops] 44 (0, 0)))
  clear hm hD hO hAdd hW0
  go_enter Try.func134, Try.ntmps134
  go_wp2
  rw [← HW0.out]
  clear HW0
  have HX : Hid (∀ x, x ∈ ovL C (2 * C.length) → x < 21) := fun x hx => by
    obtain ⟨i, hi, rfl⟩ := List.mem_map.1 hx
    have := ovM_in HM.out (i + 1) (by omega) (by have := List.mem_range.1 hi; omega)
    omega
  obtain ⟨l, hl⟩ : ∃ l, ovL C (2 * C.length) = l := ⟨_, rfl⟩
  have HL : Hid (ovL C (2 * C.length) = l) := hl
  have HLL : Hid (l.length = 2 * C.length) := (by rw [← hl, ovL_len] : l.length = 2 * C.length)
  rw [hl] at HMO HO HX
  clear hl
  have HOC : Hid (∀ i, i < 2 * C.length → ∃ bo oo, ao = some ⟨bo, oo, none⟩ ∧ bo < w.heap.size ∧ ∀ j, j < 2 * C.length → w.cell? ⟨bo, oo + j, none⟩ = some (.int .i64 (l.getD j 0 : Nat))) := fun i hi => by
    obtain ⟨a', c', e', f⟩ := HO.out
    rw [nats_len] at e' f
    injection e' with e1 e2 e3
    obtain ⟨bo, oo, eb, hlt, hc⟩ := f (by have := HLL.out; omega)
    refine ⟨bo, oo, e1.trans eb, hlt, fun j hj => ?_⟩
    rw [hc j (by rw [HLL.out]; exact hj), List.getD_eq_getElem?_getD, nats_get l j (by rw [HLL.out]; exact hj)]
    rfl
  go_loopw [5, 13] (fun v5 v13 wr => ∃ i : Nat, i ≤ 2 * C.length ∧ v13 = .int .i64 (i : Nat) ∧ v5 = .int .i64 (mostTo l i : Nat) ∧ Hid (Below W0.heap.size W0 wr)) (fun _ v13 _ => 2 * C.length - (intOf v13).toNat)
  case atStart => exact ⟨0, Nat.zero_le _, rfl, rfl, Below.refl _ _⟩
  case round =>
    rename World => W1
    obtain ⟨i, hi1, rfl, rfl, hb⟩ := hrel
    have hm1 := mostTo_le l 21 i (by rw [HLL.out]; exact hi1) HX.out
    have HBW : Hid (Below w.heap.size w W1) := HB0.out.trans (hb.out.mono HB0.out.size)
    by_cases hil : i < 2 * C.length
    · obtain ⟨bo, oo, ea, hbo, hc⟩ := HOC.out i hil
      have HEA : Hid (ao = some ⟨bo, oo, none⟩) := ea
      obtain ⟨x, hx⟩ : ∃ x, l.getD i 0 = x := ⟨_, rfl⟩
      have hxB : x < 21 := by rw [← hx]; exact HX.out _ (by rw [List.getD_eq_getElem?_getD, List.getElem?_eq_getElem (by rw [HLL.out]; exact hil)]; exact List.getElem_mem _)
      have e0 : W1.cell? ⟨bo, oo + i, none⟩ = some (.int .i64 (x : Nat)) := by rw [← hx]; exact bcell HBW.out hbo (hc i hil)
      have HMX : Hid (mostTo l (i + 1) = max (mostTo l i) (x + 1)) := (by show max _ _ = _; rw [hx] : mostTo l (i + 1) = max (mostTo l i) (x + 1))
      obtain ⟨y, hy⟩ : ∃ y, mostTo l i = y := ⟨_, rfl⟩
      rw [hy] at HMX hm1 ⊢
      clear hx hy hc
      by_cases hxy : y < x + 1
      · have HM2 : Hid (mostTo l (i + 1) = x + 1) := (by rw [HMX.out]; omega : mostTo l (i + 1) = x + 1)
        go_wp2
        go_roundw
        case rel => exact ⟨i + 1, by omega, by go_num, by rw [HM2.out]; go_num, hb.out⟩
        case measure => simp only [intOf]; omega
      · have HM2 : Hid (mostTo l (i + 1) = y) := (by rw [HMX.out]; omega : mostTo l (i + 1) = y)
        go_wp2
        go_roundw
        case rel => exact ⟨i + 1, by omega, by go_num, by rw [HM2.out], hb.out⟩
        case measure => simp only [intOf]; omega
    · obtain rfl : i = 2 * C.length := by omega
      have HCN : Hid (mostTo l (2 * C.length) = ovC C) := HMO.out _ (Nat.le_refl _)
      rw [HCN.out]
      obtain ⟨j0, j1⟩ : W1.cell? ⟨w.heap.size, 0, none⟩ = some (.slice a C.length cap) ∧ W1.cell? ⟨w.heap.size, 1, none⟩ = some (.int .i64 loops) := by
        have q := (hb.out.block _ (Array.getElem?_eq_some_iff.1 HT0.out).1).trans HT0.out
        exact ⟨block_cell q rfl, block_cell q rfl⟩
      have hsz1 := HBW.out.size
      obtain ⟨m, hmm⟩ : ∃ m, ovC C = m := ⟨_, rfl⟩
      have HMM : Hid (ovC C = m) := hmm
      rw [hmm] at hoc ⊢
      clear hmm
      go_wp2_with (first | (at_make; refine wpList_make_full _ rfl _ _ 36 rfl w.heap.size 37 i1 (.slice none 0 0) 1 Try.underlying36 hj hy0 hy1 .i64 .i64 _ _ C.length rfl rfl rfl rfl (by rw [hy2]; omega) (by unfold maxLen; omega) (by omega) ?_; intro w2 hrow hg2; refine Hid.out ?_))
      refine Lib.hid ?_
      rw [made_nilsV] at hrow
      obtain ⟨gt, hgt⟩ : ∃ g, W1.heap.size = g := ⟨_, rfl⟩
      rw [hgt] at hrow ⊢
      have HT1 : Hid (TblAt w.heap.size C.length m gt 0 (fun _ => 0) (fun _ _ => .slice none 0 0) (alF C) w2) := ⟨hrow, fun i hi => absurd hi (Nat.not_lt_zero _)⟩
      have HB2 : Hid (Below w.heap.size w w2) := HBW.out.grown hg2 hsz1 (fun q hq => by cases hq)
      have q0 : w2.cell? ⟨w.heap.size, 0, none⟩ = some (.slice a C.length cap) := by
        have h1 := (hb.out.block _ (Array.getElem?_eq_some_iff.1 HT0.out).1).trans HT0.out
        exact block_cell ((hg2.block _ (Array.getElem?_eq_some_iff.1 h1).1 (by simp)).trans h1) rfl
      clear hrow hg2 hgt j0 j1
      go_wp2
      go_loopw [29] (fun v29 wr => ∃ k : Nat, k ≤ C.length ∧ v29 = .int .i64 (k : Nat) ∧ Hid ((∃ gs vals, TblAt w.heap.size C.length m gt k gs vals (alF C) wr) ∧ Below w.heap.size w wr)) (fun v29 _ => C.length - (intOf v29).toNat)
      case atStart => exact ⟨0, Nat.zero_le _, rfl, ⟨_, _, HT1.out⟩, HB2.out⟩
      case round =>
        clear HT1 HB2 q0
        rename World => W3
        obtain ⟨k, hkn, rfl, hp⟩ := hrel
        by_cases hkl : k < C.length
        · obtain ⟨gs, vals, hT⟩ := hp.out.1
          have HT : Hid (TblAt w.heap.size C.length m gt k gs vals (alF C) W3) := hT
          have HB3 : Hid (Below w.heap.size w W3) := hp.out.2
          obtain ⟨b, off, ea, hbw, hC⟩ : ∃ b off, a = some ⟨b, off, none⟩ ∧ b < w.heap.size ∧ CrossAt w b off C := by
            obtain ⟨a', c', e', _, f⟩ := HD.out
            injection e' with e1 e2 e3
            obtain ⟨b, off, eb, hlt, hc⟩ := f (by omega)
            exact ⟨b, off, e1.trans eb, hlt, hc⟩
          obtain ⟨bo, oo, eao, hbo, hcO⟩ := HOC.out 0 (by omega)
          have HAO : Hid (ao = some ⟨bo, oo, none⟩) := eao
          have HEA : Hid (a = some ⟨b, off, none⟩) := ea
          obtain ⟨e0, e1, e2, e3, e4⟩ := (hC.on hp.out.2 hbw) k hkl
          have fa := may_fit HM.out k 0 hkl (by omega)
          have fb := may_fit HM.out k 1 hkl (by omega)
          have fc := may_fit HM.out k 2 hkl (by omega)
          have fd := may_fit HM.out k 3 hkl (by omega)
          have HX : Hid ((C.getD k Cr.none).arc 0 = (C.getD k Cr.none).a ∧ (C.getD k Cr.none).arc 1 = (C.getD k Cr.none).b ∧ (C.getD k Cr.none).arc 2 = (C.getD k Cr.none).c ∧ (C.getD k Cr.none).arc 3 = (C.getD k Cr.none).d) := ⟨rfl, rfl, rfl, rfl⟩
          have fa1 := fa.1
          have fa2 := fa.2.1
          have fb1 := fb.1
          have fb2 := fb.2.1
          have fc1 := fc.1
          have fc2 := fc.2.1
          have fd1 := fd.1
          have fd2 := fd.2.1
          rw [HX.out.1] at fa1 fa2
          rw [HX.out.2.1] at fb1 fb2
          rw [HX.out.2.2.1] at fc1 fc2
          rw [HX.out.2.2.2] at fd1 fd2
          have HAL : Hid (alF C k = rowF (outC' C (C.getD k Cr.none)) (inC C (C.getD k Cr.none)) (ovM C (C.getD k Cr.none).b.toNat)) := (rfl : alF C k = rowF (outC' C (C.getD k Cr.none)) (inC C (C.getD k Cr.none)) (ovM C (C.getD k Cr.none).b.toNat))
          generalize hcr : C.getD k Cr.none = cr at *
          clear hcr HX fa fb fc fd
          obtain ⟨za, zb, zc, zd, P⟩ := cr
          simp only at e0 e1 e2 e3 e4 fa1 fa2 fb1 fb2 fc1 fc2 fd1 fd2
          obtain ⟨xa, rfl⟩ : ∃ x : Nat, za = (x : Int) := ⟨za.toNat, by omega⟩
          obtain ⟨xb, rfl⟩ : ∃ x : Nat, zb = (x : Int) := ⟨zb.toNat, by omega⟩
          obtain ⟨xc, rfl⟩ : ∃ x : Nat, zc = (x : Int) := ⟨zc.toNat, by omega⟩
          obtain ⟨xd, rfl⟩ : ∃ x : Nat, zd = (x : Int) := ⟨zd.toNat, by omega⟩
          have hov : ∀ x, 1 ≤ x → x ≤ 2 * C.length → w.cell? ⟨bo, oo + (x - 1), none⟩ = some (.int .i64 (ovM C x : Nat)) ∧ ovM C x < m := fun x h1 h2 => by
            refine ⟨?_, by rw [← HMM.out]; exact ovM_in HM.out x h1 h2⟩
            rw [hcO (x - 1) (by omega), ← HL.out]
            have : (ovL C (2 * C.length)).getD (x - 1) 0 = ovM C (x - 1 + 1) := by simp [ovL, List.getD_eq_getElem?_getD, show x - 1 < 2 * C.length by omega]
            rw [this, show x - 1 + 1 = x by omega]
          have oa := hov xa (by omega) (by omega)
          have ob := hov xb (by omega) (by omega)
          have oc := hov xc (by omega) (by omega)
          obtain ⟨X0, hX0⟩ : ∃ X, X = W3.alloc (.cells #[.int .i64 (xa : Nat), .int .i64 (xb : Nat), .int .i64 (xc : Nat), .int .i64 (xd : Nat), .bool P] 70) := ⟨_, rfl⟩
          have HX0 : Hid (X0 = W3.alloc (.cells #[.int .i64 (xa : Nat), .int .i64 (xb : Nat), .int .i64 (xc : Nat), .int .i64 (xd : Nat), .bool P] 70)) := hX0
          have HBX : Hid (Below w.heap.size w X0) := (by rw [hX0]; exact hp.out.2.alloc hp.out.2.size _ : Below w.heap.size w X0)
          have HTX : Hid (TblAt w.heap.size C.length m gt k gs vals (alF C) X0) := (by rw [hX0]; exact hT.any (World.grownBy_alloc _ _ none) : TblAt w.heap.size C.length m gt k gs vals (alF C) X0)
          have hbk : X0.heap[W3.heap.size]? = some (.cells #[.int .i64 (xa : Nat), .int .i64 (xb : Nat), .int .i64 (xc : Nat), .int .i64 (xd : Nat), .bool P] 70 (0, 0)) := by rw [hX0]; exact alloc_at rfl
          have k0 : X0.cell? ⟨W3.heap.size, 0, none⟩ = some (.int .i64 (xa : Nat)) := block_cell hbk rfl
          have k1 : X0.cell? ⟨W3.heap.size, 1, none⟩ = some (.int .i64 (xb : Nat)) := block_cell hbk rfl
          have k2 : X0.cell? ⟨W3.heap.size, 2, none⟩ = some (.int .i64 (xc : Nat)) := block_cell hbk rfl
          have k3 : X0.cell? ⟨W3.heap.size, 3, none⟩ = some (.int .i64 (xd : Nat)) := block_cell hbk rfl
          have k4 : X0.cell? ⟨W3.heap.size, 4, none⟩ = some (.bool P) := block_cell hbk rfl
          have HCR : Hid (∀ W', Below w.heap.size w W' → Calls Try.prog 181 #[.agg #[.int .i64 (xa : Nat), .int .i64 (xb : Nat), .int .i64 (xc : Nat), .int .i64 (xd : Nat), .bool P], .slice ao (2 * C.length) co, .int .i64 (m : Nat)] W' fun e w' => ∃ g, e = .returned (.slice (some ⟨g, 0, none⟩) m m) ∧ (∃ vals, PlcAt W'.heap.size m g vals (alF C k) w') ∧ Below W'.heap.size W' w') := fun W' hW => by
            refine (alexRow_any HADD.out C xa xb xc xd P (ovM C xa) (ovM C xb) (ovM C xc) m ao co bo oo W' (by omega) (by omega) HAO.out (Nat.lt_of_lt_of_le hbo hW.size) (by omega) (by omega) (by omega) oa.2 ob.2 oc.2 (bcell hW hbo oa.1) (bcell hW hbo ob.1) (bcell hW hbo oc.1)).mono ?_
            rintro e w' ⟨g, vs, e1, hp, hb⟩
            refine ⟨g, e1, ⟨vs, ?_⟩, hb⟩
            rw [HAL.out]
            unfold outC' inC
            simp only [Int.toNat_natCast]
            exact hp
          have hltX : W3.heap.size < X0.heap.size := (Array.getElem?_eq_some_iff.1 hbk).1
          clear hX0 hbk hT hC hcO hov oa ob oc eao
          go_upto_region 11 with (fail)
          rw [← HX0.out]
          try rw [← HEA.out]
          clear HX0 e0 e1 e2 e3 e4 ea
          go_wp2_with (go_at_call 181; refine (HCR.out _ HBX.out).mono ?_; rintro e9 w5 ⟨g, rfl, hpl, hb5⟩; refine Hid.out ?_)
          refine Lib.hid ?_
          obtain ⟨vs, hpl⟩ := hpl
          have hsX := HBX.out.size
          have hPU := (HTX.out.any (grown_below hb5 none)).put (hpl.low hsX)
          have HN5 : Hid ((∃ gs vals, TblAt w.heap.size C.length m gt (k + 1) gs vals (alF C) (w5.setCell ⟨gt, k, none⟩ (.slice (some ⟨g, 0, none⟩) m m))) ∧ Below w.heap.size w (w5.setCell ⟨gt, k, none⟩ (.slice (some ⟨g, 0, none⟩) m m))) := ⟨⟨_, _, hPU.1⟩, (HBX.out.trans (hb5.mono hsX)).grown hPU.2 (Nat.le_trans hsX hb5.size) (fun q hq => by have := Option.some.inj hq; have := (HTX.out.outer.lt gt rfl).1; omega)⟩
          have ho5 := (HTX.out.any (grown_below hb5 none)).outer
          have c5 : w5.cell? ⟨gt, k, none⟩ = some (.slice none 0 0) := by rw [ho5.cellAt k (by omega), valsL_get _ _ _ hkl, if_neg (Nat.lt_irrefl k)]
          have z5 : w5.frozen? ⟨gt, k, none⟩ = false := ho5.frozenAt k
          have l5 : gt < w5.heap.size := (ho5.lt gt rfl).2
          clear hPU hpl hb5 ho5 k0 k1 k2 k3 k4
          go_wp2
          go_roundw
          case rel => exact ⟨k + 1, by omega, by go_num, HN5.out⟩
          case measure => simp only [intOf]; omega
        · obtain rfl : k = C.length := by omega
          go_wp2
          go_ret
          exact ⟨gt, rfl, by rw [HMM.out]; exact hp.out.1, hp.out.2⟩
end Go.Proofs.Ytnhllpaoplfgpaa
/- The walk of colour.Overs. -/
namespace Go.Proofs.Ytnhllpaoplfgpaa
open Go.RowKit

set_option maxHeartbeats 4000000 in
set_option maxRecDepth 100000 in
theorem overs_no (hFR : FaceRingsOk) (v : Value) (C : List Cr) (loops : Int) (w : World) (hn : noN C loops ≠ 0) (h : Crs w w.heap.size v C) :
    Calls Try.prog 133 #[.agg #[v, .int .i64 loops]] w fun e w' => e = .returned (.tuple #[.slice none 0 0, .int .i64 (noN C loops)]) ∧ Below w.heap.size w w' := by
  have HC : Hid (Crs w w.heap.size v C) := h
  obtain ⟨a, cap, rfl, -, -⟩ := h
  have HF : Hid (∀ W, Crs W W.heap.size (.slice a C.length cap) C → Calls Try.prog 127 #[.agg #[.slice a C.length cap, .int .i64 loops]] W fun e w' => e = .returned (.tuple #[noDrawing, .int .i64 (noN C loops)]) ∧ Below W.heap.size W w') := fun W hW => flat_not hFR a cap C loops W hn hW
  generalize noN C loops = r at hn HF
  have hr0 : (r == 0) = false := beq_eq_false_iff_ne.2 hn
  have HB1 : Hid (Below w.heap.size w (w.alloc (.cells #[.slice a C.length cap, .int .i64 loops] 44))) := (Below.refl _ _).alloc (Nat.le_refl _) _
  go_enter Try.func133, Try.ntmps133
  go_wp2_with (go_at_call 127; refine (HF.out _ (HC.out.up HB1.out)).mono ?_; rintro e9 w2 ⟨rfl, hb2⟩; refine Hid.out ?_)
  refine Lib.hid ?_
  unfold noDrawing
  have HB2 : Hid (Below w.heap.size w w2) := HB1.out.trans (hb2.mono HB1.out.size)
  clear hb2
  go_wp2
  go_ret2
  exact ⟨rfl, HB2.out.alloc HB2.out.size _⟩

set_option maxHeartbeats 4000000 in
set_option maxRecDepth 100000 in
theorem overs_yes (hFR : FaceRingsOk) (v : Value) (C : List Cr) (loops : Int) (w : World) (hn : noN C loops = 0) (h : Crs w w.heap.size v C) :
    Calls Try.prog 133 #[.agg #[v, .int .i64 loops]] w fun e w' => ∃ a c, e = .returned (.tuple #[.slice a (2 * C.length) c, .int .i64 0]) ∧ Slots w' w'.heap.size (.slice a (2 * C.length) c) (nats (ovL C (2 * C.length))) ∧ Below w.heap.size w w' := by
  have HC : Hid (Crs w w.heap.size v C) := h
  obtain ⟨hm, hp⟩ := noN_zero hn
  have HM : Hid (mayD C loops = true) := hm
  have HP : Hid (planarB C = true) := hp
  have HFA : Hid FaceRingsOk := hFR
  obtain ⟨s1, s2, s3, s4⟩ := sizeB_iff (may_size hm)
  obtain ⟨a, cap, rfl, -, -⟩ := h
  have HB1 : Hid (Below w.heap.size w (w.alloc (.cells #[.slice a C.length cap, .int .i64 loops] 44))) := (Below.refl _ _).alloc (Nat.le_refl _) _
  clear hm hp hn hFR
  go_enter Try.func133, Try.ntmps133
  go_wp2_with (go_at_call 127; refine (flat_yes HFA.out _ C loops _ HM.out HP.out (HC.out.up HB1.out)).mono ?_; rintro e9 w2 ⟨a', cap', gF, cF, gT, cT, rfl, hdr, hb2⟩; refine Hid.out ?_)
  refine Lib.hid ?_
  have HDR : Hid (Dr w2 a' cap' C gF gT) := hdr
  have HOV : Hid (∀ W, Dr W a' cap' C gF gT → Calls Try.prog 128 #[drV a' cap' C loops gF cF gT cT] W fun e w' => ∃ g, e = .returned (.tuple #[.slice (some ⟨g, 0, none⟩) (2 * C.length + 1) (2 * C.length + 1), .int .i64 (ovC C : Nat)]) ∧ w'.ownsRow W.heap.size 3 1 (.slice (some ⟨g, 0, none⟩) (2 * C.length + 1) (2 * C.length + 1)) (2 * C.length + 1) (nats (ovTo C (2 * C.length + 1))) ∧ Below W.heap.size W w') := fun W hW => overpasses_any a' cap' C loops gF cF gT cT W HM.out hW
  unfold drV at HOV
  unfold drV
  have HB2 : Hid (Below w.heap.size w w2) := HB1.out.trans (hb2.mono HB1.out.size)
  have hs2 := HB2.out.size
  have HBA : Hid (Below w2.heap.size w2 (w2.alloc (.cells #[.slice a' C.length cap', .int .i64 loops, .slice (some ⟨gF, 0, none⟩) (2 * C.length + 1) cF, .slice (some ⟨gT, 0, none⟩) (2 * C.length + 1) cT] 120))) := (Below.refl _ _).alloc (Nat.le_refl _) _
  clear hb2 hdr
  go_wp2_with (go_at_call 128; refine (HOV.out _ (HDR.out.on HBA.out)).mono ?_; rintro e9 w3 ⟨g, rfl, hr3, hb3⟩; refine Hid.out ?_)
  refine Lib.hid ?_
  have HSL : Hid (∀ c, Slots w3 w3.heap.size (.slice (some ⟨g, 1, none⟩) (2 * C.length) c) (nats (ovL C (2 * C.length)))) := fun c => ⟨_, _, by rw [nats_len, ovL_len], fun _ => ⟨g, 1, rfl, (hr3.lt g rfl).2, fun i hi => by
    rw [nats_len, ovL_len] at hi
    have e : (nats (ovL C (2 * C.length))).getD i (.bool false) = .int .i64 ((ovL C (2 * C.length)).getD i 0 : Nat) := by
      rw [List.getD_eq_getElem?_getD, nats_get _ i (by rw [ovL_len]; exact hi)]; rfl
    rw [hr3.cellAt (1 + i) (by omega), nats_get _ (1 + i) (by rw [ovTo_len]; omega), e, ← ovTo_drop]
    simp [List.getD_eq_getElem?_getD, Nat.add_comm 1 i]⟩⟩
  have HSN : Hid (∀ a c, Slots w3 w3.heap.size (.slice a 0 c) (nats (ovL C 0))) := fun a c => ⟨_, _, by rw [nats_len, ovL_len], fun h1 => by rw [nats_len, ovL_len] at h1; omega⟩
  have HB3 : Hid (Below w.heap.size w w3) := HB2.out.trans ((HBA.out.trans (hb3.mono (by simp))).mono hs2)
  clear hr3 hb3
  go_wp2
  all_goals
    go_ret2
    first
      | exact ⟨_, _, rfl, HSL.out _, HB3.out⟩
      | exact ⟨_, _, rfl, HSN.out _ _, HB3.out⟩
end Go.Proofs.Ytnhllpaoplfgpaa
/- The walk of alex.Table. -/
namespace Go.Proofs.Ytnhllpaoplfgpaa
open Go.RowKit

set_option maxHeartbeats 4000000 in
set_option maxRecDepth 100000 in
theorem table_no (hFR : FaceRingsOk) (v : Value) (C : List Cr) (loops : Int) (w : World) (hn : noN C loops ≠ 0) (h : Crs w w.heap.size v C) :
    Calls Try.prog 67 #[.agg #[v, .int .i64 loops]] w fun e w' => e = .returned (.tuple #[.slice none 0 0, .int .i64 (noN C loops)]) ∧ Below w.heap.size w w' := by
  have HC : Hid (Crs w w.heap.size v C) := h
  obtain ⟨a, cap, rfl, -, -⟩ := h
  have HF : Hid (∀ W, Crs W W.heap.size (.slice a C.length cap) C → Calls Try.prog 133 #[.agg #[.slice a C.length cap, .int .i64 loops]] W fun e w' => e = .returned (.tuple #[.slice none 0 0, .int .i64 (noN C loops)]) ∧ Below W.heap.size W w') := fun W hW => overs_no hFR _ C loops W hn hW
  generalize noN C loops = r at hn HF
  have hr0 : (r == 0) = false := beq_eq_false_iff_ne.2 hn
  have hr1 : (r != 0) = true := by simp [hn]
  have HB1 : Hid (Below w.heap.size w (w.alloc (.cells #[.slice a C.length cap, .int .i64 loops] 44))) := (Below.refl _ _).alloc (Nat.le_refl _) _
  go_enter Try.func67, Try.ntmps67
  go_wp2_with (go_at_call 133; refine (HF.out _ (HC.out.up HB1.out)).mono ?_; rintro e9 w2 ⟨rfl, hb2⟩; refine Hid.out ?_)
  refine Lib.hid ?_
  have HB2 : Hid (Below w.heap.size w w2) := HB1.out.trans (hb2.mono HB1.out.size)
  clear hb2
  go_wp2
  go_ret2
  exact ⟨rfl, HB2.out⟩

set_option maxHeartbeats 4000000 in
set_option maxRecDepth 100000 in
theorem table_size (hFR : FaceRingsOk) (v : Value) (C : List Cr) (loops : Int) (w : World) (hn : noN C loops = 0) (h10 : 10 < C.length) (h : Crs w w.heap.size v C) :
    Calls Try.prog 67 #[.agg #[v, .int .i64 loops]] w fun e w' => e = .returned (.tuple #[.slice none 0 0, .int .i64 2]) ∧ Below w.heap.size w w' := by
  have HC : Hid (Crs w w.heap.size v C) := h
  have HFA : Hid FaceRingsOk := hFR
  have HN : Hid (noN C loops = 0) := hn
  obtain ⟨a, cap, rfl, -, -⟩ := h
  obtain ⟨w0, hw0⟩ : ∃ w0, w0 = w.alloc (.cells #[.slice a C.length cap, .int .i64 loops] 44) := ⟨_, rfl⟩
  have HW0 : Hid (w0 = w.alloc (.cells #[.slice a C.length cap, .int .i64 loops] 44)) := hw0
  have HB0 : Hid (Below w.heap.size w w0) := (by rw [hw0]; exact (Below.refl _ _).alloc (Nat.le_refl _) _ : Below w.heap.size w w0)
  have HT0 : Hid (w0.heap[w.heap.size]? = some (.cells #[.slice a C.length cap, .int .i64 loops] 44 (0, 0))) := (by rw [hw0]; exact alloc_at rfl : w0.heap[w.heap.size]? = some (.cells #[.slice a C.length cap, .int .i64 loops] 44 (0, 0)))
  have hz1 : decide ((10 : Int) < (C.length : Int)) = true := by simp; omega
  clear hw0 hn hFR
  go_enter Try.func67, Try.ntmps67
  go_wp2_with (go_at_call 133; rw [← HW0.out]; refine (overs_yes HFA.out _ C loops _ HN.out (HC.out.up HB0.out)).mono ?_; rintro e9 w2 ⟨ao, co, rfl, hsl, hb2⟩; refine Hid.out ?_)
  refine Lib.hid ?_
  have HB2 : Hid (Below w.heap.size w w2) := HB0.out.trans (hb2.mono HB0.out.size)
  have q := (hb2.block _ (Array.getElem?_eq_some_iff.1 HT0.out).1).trans HT0.out
  have t0 : w2.cell? ⟨w.heap.size, 0, none⟩ = some (.slice a C.length cap) := block_cell q rfl
  have t1 : w2.cell? ⟨w.heap.size, 1, none⟩ = some (.int .i64 loops) := block_cell q rfl
  clear hb2 hsl q
  go_wp2
  go_ret2
  exact ⟨rfl, HB2.out⟩

set_option maxHeartbeats 4000000 in
set_option maxRecDepth 100000 in
theorem table_yes (hFR : FaceRingsOk) (hAdd : AddOk) (v : Value) (C : List Cr) (loops : Int) (w : World) (hn : noN C loops = 0) (h10 : C.length ≤ 10) (h : Crs w w.heap.size v C) :
    Calls Try.prog 67 #[.agg #[v, .int .i64 loops]] w fun e w' => ∃ gt, e = .returned (.tuple #[.slice (some ⟨gt, 0, none⟩) C.length C.length, .int .i64 0]) ∧ (∃ gs vals, TblAt w.heap.size C.length (ovC C) gt C.length gs vals (alF C) w') ∧ Below w.heap.size w w' := by
  have HC : Hid (Crs w w.heap.size v C) := h
  have HFA : Hid FaceRingsOk := hFR
  have HADD : Hid AddOk := hAdd
  have HN : Hid (noN C loops = 0) := hn
  have HM : Hid (mayD C loops = true) := (noN_zero hn).1
  obtain ⟨a, cap, rfl, -, -⟩ := h
  obtain ⟨w0, hw0⟩ : ∃ w0, w0 = w.alloc (.cells #[.slice a C.length cap, .int .i64 loops] 44) := ⟨_, rfl⟩
  have HW0 : Hid (w0 = w.alloc (.cells #[.slice a C.length cap, .int .i64 loops] 44)) := hw0
  have HB0 : Hid (Below w.heap.size w w0) := (by rw [hw0]; exact (Below.refl _ _).alloc (Nat.le_refl _) _ : Below w.heap.size w w0)
  have HT0 : Hid (w0.heap[w.heap.size]? = some (.cells #[.slice a C.length cap, .int .i64 loops] 44 (0, 0))) := (by rw [hw0]; exact alloc_at rfl : w0.heap[w.heap.size]? = some (.cells #[.slice a C.length cap, .int .i64 loops] 44 (0, 0)))
  have hz1 : decide ((10 : Int) < (C.length : Int)) = false := by simp; omega
  clear hw0 hn hFR hAdd
  go_enter Try.func67, Try.ntmps67
  go_wp2_with (go_at_call 133; rw [← HW0.out]; refine (overs_yes HFA.out _ C loops _ HN.out (HC.out.up HB0.out)).mono ?_; rintro e9 w2 ⟨ao, co, rfl, hsl, hb2⟩; refine Hid.out ?_)
  refine Lib.hid ?_
  have HB2 : Hid (Below w.heap.size w w2) := HB0.out.trans (hb2.mono HB0.out.size)
  have q := (hb2.block _ (Array.getElem?_eq_some_iff.1 HT0.out).1).trans HT0.out
  have t0 : w2.cell? ⟨w.heap.size, 0, none⟩ = some (.slice a C.length cap) := block_cell q rfl
  have t1 : w2.cell? ⟨w.heap.size, 1, none⟩ = some (.int .i64 loops) := block_cell q rfl
  have hs2 := HB2.out.size
  have HCR : Hid (Calls Try.prog 134 #[.agg #[.slice a C.length cap, .int .i64 loops], .slice ao (2 * C.length) co] w2 fun e w' => ∃ gt, e = .returned (.slice (some ⟨gt, 0, none⟩) C.length C.length) ∧ (∃ gs vals, TblAt w2.heap.size C.length (ovC C) gt C.length gs vals (alF C) w') ∧ Below w2.heap.size w2 w') := alexRows_any HADD.out a cap C loops ao co w2 HM.out h10 (HC.out.up HB2.out) hsl
  clear hb2 hsl q
  go_wp2_with (go_at_call 134; refine HCR.out.mono ?_; rintro e9 w3 ⟨gt, rfl, hT, hb3⟩; refine Hid.out ?_)
  refine Lib.hid ?_
  have HB3 : Hid (Below w.heap.size w w3) := HB2.out.trans (hb3.mono hs2)
  have HTT : Hid (∃ gs vals, TblAt w.heap.size C.length (ovC C) gt C.length gs vals (alF C) w3) := (by
    obtain ⟨gs, vals, h⟩ := hT
    exact ⟨gs, vals, own_low h.outer hs2, fun i hi => (h.each i hi).low hs2⟩ : ∃ gs vals, TblAt w.heap.size C.length (ovC C) gt C.length gs vals (alF C) w3)
  clear hT hb3
  go_wp2
  go_ret2
  exact ⟨gt, rfl, HTT.out, HB3.out⟩
end Go.Proofs.Ytnhllpaoplfgpaa
/- The walk of ref.TableOf. -/
namespace Go.Proofs.Ytnhllpaoplfgpaa
open Go.RowKit

theorem putL_nil (e c : Int) (h : c ≠ 0) : Poly.putL [] e c = [(e, c)] := by
  simp [Poly.putL, h, Poly.ahead]
theorem put_own (B : Nat) (v : Value) (l : List (Int × Int)) (e c : Int) (w : World) (hl : l.length ≤ 100) (hc0 : c ≠ 0) (hc : -100 ≤ c ∧ c ≤ 100) (hbl : ∀ t ∈ l, -1000 ≤ t.2 ∧ t.2 ≤ 1000) (h : w.ownsRow B 109 2 v l.length (Poly.flat l)) :
    Calls Try.prog 76 #[v, .int .i64 e, .int .i64 c] w fun r w' => ∃ v', r = .returned v' ∧ w'.ownsRow w.heap.size 109 2 v' (Poly.putL l e c).length (Poly.flat (Poly.putL l e c)) ∧ Below w.heap.size w w' := by
  rcases Nat.eq_zero_or_pos l.length with h0 | h0
  · have e0 : l = [] := List.length_eq_zero_iff.1 h0
    subst e0
    rw [putL_nil e c hc0]
    rcases h.2 with ⟨rfl, _⟩ | ⟨g, cap, cur, rfl, _⟩
    · exact Poly.put_nil e c w hc0
    · exact Poly.put_empty ⟨g, 0, none⟩ cap e c w hc0
  · have hP := Poly.PolyC.ofRow h
    rcases hP.1 with ⟨rfl, e0⟩ | ⟨a, cap, rfl, e0⟩ | ⟨b, off, cap, rfl, hlt, hT⟩
    · rw [e0] at h0; simp at h0
    · rw [e0] at h0; simp at h0
    · obtain ⟨a', n', c', e', h1, h2⟩ := hP.2
      injection e' with q1 q2 q3
      exact Poly.put_some b off cap l e c w h0 (by omega) (by omega) (by omega) hc0 (by omega) (by omega) (fun t ht => by have := hbl t ht; omega) hlt hT
theorem aPol_bd {x y : Int} (hx : -100 ≤ x ∧ x ≤ 100) (hy : -100 ≤ y ∧ y ≤ 100) : ∀ t ∈ aPol x y, -1000 ≤ t.2 ∧ t.2 ≤ 1000 := by
  intro t ht
  unfold aPol at ht
  rcases List.mem_append.1 ht with q | q
  · by_cases h : x = 0
    · simp [h] at q
    · simp [h] at q; rw [q]; simp only; omega
  · by_cases h : y = 0
    · simp [h] at q
    · simp [h] at q; rw [q]; simp only; omega
/-- Put at 0 and at 1, of what stands at a place. -/
theorem put_zero' (B : Nat) (v : Value) (x y c : Int) (w : World) (hx : -10 ≤ x ∧ x ≤ 10) (hy : -10 ≤ y ∧ y ≤ 10) (hc0 : c ≠ 0) (hc : -1 ≤ c ∧ c ≤ 1) (h : w.ownsRow B 109 2 v (aPol x y).length (Poly.flat (aPol x y))) :
    Calls Try.prog 76 #[v, .int .i64 0, .int .i64 c] w fun r w' => ∃ v', r = .returned v' ∧ w'.ownsRow w.heap.size 109 2 v' (aPol (x + c) y).length (Poly.flat (aPol (x + c) y)) ∧ Below w.heap.size w w' := by
  have := put_own B v (aPol x y) 0 c w (Nat.le_trans (aPol_len x y) (by decide)) hc0 (by omega) (aPol_bd (by omega) (by omega)) h
  rw [aPol_put0] at this
  exact this
theorem put_one' (B : Nat) (v : Value) (x y c : Int) (w : World) (hx : -10 ≤ x ∧ x ≤ 10) (hy : -10 ≤ y ∧ y ≤ 10) (hc0 : c ≠ 0) (hc : -1 ≤ c ∧ c ≤ 1) (h : w.ownsRow B 109 2 v (aPol x y).length (Poly.flat (aPol x y))) :
    Calls Try.prog 76 #[v, .int .i64 1, .int .i64 c] w fun r w' => ∃ v', r = .returned v' ∧ w'.ownsRow w.heap.size 109 2 v' (aPol x (y + c)).length (Poly.flat (aPol x (y + c))) ∧ Below w.heap.size w w' := by
  have := put_own B v (aPol x y) 1 c w (Nat.le_trans (aPol_len x y) (by decide)) hc0 (by omega) (aPol_bd (by omega) (by omega)) h
  rw [aPol_put1] at this
  exact this
theorem TbP.any {B m k : Nat} {v : Value} {gs : Nat → Nat} {vals : Nat → Nat → Value} {G : Nat → Nat → Int × Int} {w w' : World} (h : w.ownsRow B 37 1 v k (valsL k fun i => .slice (some ⟨gs i, 0, none⟩) m m) ∧ ∀ i, i < k → PlcAt B m (gs i) (vals i) (G i) w) (hg : w.grownBy w' none) : w'.ownsRow B 37 1 v k (valsL k fun i => .slice (some ⟨gs i, 0, none⟩) m m) ∧ ∀ i, i < k → PlcAt B m (gs i) (vals i) (G i) w' := ⟨own_any h.1 hg, fun i hi => (h.2 i hi).any hg⟩
/-- A table under way by append. -/
structure TbP (B m k : Nat) (v : Value) (gs : Nat → Nat) (vals : Nat → Nat → Value) (G : Nat → Nat → Int × Int) (wr : World) : Prop where
  outer : wr.ownsRow B 37 1 v k (valsL k fun i => .slice (some ⟨gs i, 0, none⟩) m m)
  each : ∀ i, i < k → PlcAt B m (gs i) (vals i) (G i) wr

/-- A row more, by append. -/
theorem TbP.more {B m k g : Nat} {v v' : Value} {gs : Nat → Nat} {vals : Nat → Nat → Value} {vs : Nat → Value} {G : Nat → Nat → Int × Int} {W W' : World} (h : TbP B m k v gs vals G W) (hr : PlcAt B m g vs (G k) W)
    (hg : W.grownBy W' v.ownBlock) (ho : W'.ownsRow B 37 1 v' (k + 1) (valsL k (fun i => .slice (some ⟨gs i, 0, none⟩) m m) ++ [.slice (some ⟨g, 0, none⟩) m m])) : TbP B m (k + 1) v' (fun i => if i = k then g else gs i) (fun i => if i = k then vs else vals i) G W' := by
  refine ⟨?_, fun i hi => ?_⟩
  · have e : valsL (k + 1) (fun i => .slice (some ⟨if i = k then g else gs i, 0, none⟩) m m) = valsL k (fun i => .slice (some ⟨gs i, 0, none⟩) m m) ++ [.slice (some ⟨g, 0, none⟩) m m] := by
      unfold valsL
      rw [List.range_succ, List.map_append]
      congr 1
      · refine List.map_congr_left fun i hi => ?_
        have h : i ≠ k := by have := List.mem_range.1 hi; omega
        simp [h]
      · simp
    rw [e]
    exact ho
  · have one : ∀ {g : Nat} {vs : Nat → Value} {F : Nat → Int × Int}, PlcAt B m g vs F W → PlcAt B m g vs F W' := fun hq => ⟨hq.row.kept hg (own_ne hq.row h.outer (by decide)), fun j hj => (hq.each j hj).kept hg (own_ne (hq.each j hj) h.outer (by decide))⟩
    by_cases e : i = k
    · rw [if_pos e, if_pos e, e]
      exact one hr
    · rw [if_neg e, if_neg e]
      exact one (h.each i (by omega))
/-- Where a round of TableOf stands. -/
structure TbSt (w3 : World) (h4 k m : Nat) (v : Value) (gs : Nat → Nat) (vals : Nat → Nat → Value) (G : Nat → Nat → Int × Int) (bc : Array Value) (F : Nat → Int × Int) (X : World) : Prop where
  plc : ∃ vs, PlcAt w3.heap.size m (h4 + 1) vs F X
  box : X.heap[h4]? = some (.cells bc 70 (0, 0))
  tab : TbP w3.heap.size m k v gs vals G X
  bel : Below w3.heap.size w3 X
  old : ∀ i, i < k → gs i < h4
  big : w3.heap.size ≤ h4
theorem TbSt.on {w3 : World} {h4 k m : Nat} {v : Value} {gs : Nat → Nat} {vals : Nat → Nat → Value} {G : Nat → Nat → Int × Int} {bc : Array Value} {F : Nat → Int × Int} {X Y : World} (h : TbSt w3 h4 k m v gs vals G bc F X) (hb : Below X.heap.size X Y) : TbSt w3 h4 k m v gs vals G bc F Y := by
  obtain ⟨vs, hp⟩ := h.plc
  have hg := grown_below hb none
  exact ⟨⟨vs, hp.any hg⟩, (hb.block _ (Array.getElem?_eq_some_iff.1 h.box).1).trans h.box, ⟨own_any h.tab.outer hg, fun i hi => (h.tab.each i hi).any hg⟩, h.bel.trans (hb.mono h.bel.size), h.old, h.big⟩
theorem TbSt.set {w3 : World} {h4 k m : Nat} {v : Value} {gs : Nat → Nat} {vals : Nat → Nat → Value} {G : Nat → Nat → Int × Int} {bc : Array Value} {F : Nat → Int × Int} {X Y : World} (h : TbSt w3 h4 k m v gs vals G bc F X) (hb : Below X.heap.size X Y) (p : Nat) (dx dy : Int) (u : Value)
    (hv : Y.ownsRow X.heap.size 109 2 u (aPol ((F p).1 + dx) ((F p).2 + dy)).length (Poly.flat (aPol ((F p).1 + dx) ((F p).2 + dy)))) : TbSt w3 h4 k m v gs vals G bc (addF F p dx dy) (Y.setCell ⟨h4 + 1, p, none⟩ u) := by
  have h1 := h.on hb
  obtain ⟨vs, hp⟩ := h.plc
  have hpY := hp.any (grown_below hb none)
  have hg := (hpY.row.stored p u).2
  have hbig := h.big
  refine ⟨⟨_, hp.set hb h.bel.size p dx dy u hv⟩, (hg.block _ (Array.getElem?_eq_some_iff.1 h1.box).1 (fun e => by have := Option.some.inj e; omega)).trans h1.box, ⟨h1.tab.outer.kept hg (own_ne h1.tab.outer hpY.row (by decide)), fun i hi => ?_⟩, h1.bel.grown hg h1.bel.size (fun q hq => by have := Option.some.inj hq; omega), h.old, h.big⟩
  have hi2 := h.old i hi
  have hq := h1.tab.each i hi
  exact ⟨hq.row.kept hg (Or.inr (fun e => by have e2 : gs i = h4 + 1 := Option.some.inj e; omega)), fun j hj => (hq.each j hj).kept hg (own_ne (hq.each j hj) hpY.row (by decide))⟩

/-- What stands at a place of the row, and what Put makes of it. -/
theorem TbSt.take {w3 : World} {h4 k m : Nat} {v : Value} {gs : Nat → Nat} {vals : Nat → Nat → Value} {G : Nat → Nat → Int × Int} {bc : Array Value} {F : Nat → Int × Int} {X : World} (h : TbSt w3 h4 k m v gs vals G bc F X) (hF : smallF F 9) (p : Nat) (hp : p < m) :
    ∃ av la cv, X.cell? ⟨h4 + 1, p, none⟩ = some (.slice av la cv) ∧ (∀ Y, Below X.heap.size X Y → Y.cell? ⟨h4 + 1, p, none⟩ = some (.slice av la cv) ∧ Y.frozen? ⟨h4 + 1, p, none⟩ = false ∧ h4 + 1 < Y.heap.size)
      ∧ (∀ c : Int, -1 ≤ c → c ≤ 1 → c ≠ 0 → Calls Try.prog 76 #[.slice av la cv, .int .i64 0, .int .i64 c] X fun r Y => ∃ a5 n5 c5, r = .returned (.slice a5 n5 c5) ∧ Y.ownsRow X.heap.size 109 2 (.slice a5 n5 c5) (aPol ((F p).1 + c) ((F p).2 + 0)).length (Poly.flat (aPol ((F p).1 + c) ((F p).2 + 0))) ∧ Below X.heap.size X Y)
      ∧ (∀ c : Int, -1 ≤ c → c ≤ 1 → c ≠ 0 → Calls Try.prog 76 #[.slice av la cv, .int .i64 1, .int .i64 c] X fun r Y => ∃ a5 n5 c5, r = .returned (.slice a5 n5 c5) ∧ Y.ownsRow X.heap.size 109 2 (.slice a5 n5 c5) (aPol ((F p).1 + 0) ((F p).2 + c)).length (Poly.flat (aPol ((F p).1 + 0) ((F p).2 + c))) ∧ Below X.heap.size X Y)
      ∧ (Calls Try.prog 76 #[.slice av la cv, .int .i64 1, .int .i64 1] X fun r Y => ∃ a5 n5 c5, r = .returned (.slice a5 n5 c5) ∧ Below X.heap.size X Y ∧ Calls Try.prog 76 #[.slice a5 n5 c5, .int .i64 0, .int .i64 (-1)] Y fun r' Z => ∃ a6 n6 c6, r' = .returned (.slice a6 n6 c6) ∧ Z.ownsRow X.heap.size 109 2 (.slice a6 n6 c6) (aPol ((F p).1 + -1) ((F p).2 + 1)).length (Poly.flat (aPol ((F p).1 + -1) ((F p).2 + 1))) ∧ Below X.heap.size X Z) := by
  obtain ⟨vs, hpl⟩ := h.plc
  have hev := hpl.each p hp
  obtain ⟨av, cv, ev⟩ := own_capS hev
  have hs := hF p
  refine ⟨av, (aPol (F p).1 (F p).2).length, cv, ?_, fun Y hb => ?_, fun c h1 h2 h3 => ?_, fun c h1 h2 h3 => ?_, ?_⟩
  · rw [hpl.row.cellAt p (by omega), valsL_get _ _ _ hp, ev]
  · have hq := (hpl.any (grown_below hb none)).row
    exact ⟨by rw [hq.cellAt p (by omega), valsL_get _ _ _ hp, ev], hq.frozenAt p, (hq.lt _ rfl).2⟩
  · rw [ev] at hev
    refine (put_zero' _ _ (F p).1 (F p).2 c X (by omega) (by omega) h3 ⟨h1, h2⟩ hev).mono ?_
    rintro r Y ⟨v', e1, hr, hb⟩
    obtain ⟨a5, c5, e5⟩ := own_capS hr
    rw [Int.add_zero]
    exact ⟨a5, _, c5, by rw [e1, e5], e5 ▸ hr, hb⟩
  · rw [ev] at hev
    refine (put_one' _ _ (F p).1 (F p).2 c X (by omega) (by omega) h3 ⟨h1, h2⟩ hev).mono ?_
    rintro r Y ⟨v', e1, hr, hb⟩
    obtain ⟨a5, c5, e5⟩ := own_capS hr
    rw [Int.add_zero]
    exact ⟨a5, _, c5, by rw [e1, e5], e5 ▸ hr, hb⟩
  · rw [ev] at hev
    refine (put_one' _ _ (F p).1 (F p).2 1 X (by omega) (by omega) (by omega) (by omega) hev).mono ?_
    rintro r Y ⟨v', e1, hr, hb⟩
    obtain ⟨a5, c5, e5⟩ := own_capS hr
    subst e5
    refine ⟨a5, _, c5, e1, hb, ?_⟩
    refine (put_zero' _ _ (F p).1 ((F p).2 + 1) (-1) Y (by omega) (by omega) (by omega) (by omega) hr).mono ?_
    rintro r' Z ⟨v'', e2, hr2, hb2⟩
    obtain ⟨a6, c6, e6⟩ := own_capS hr2
    subst e6
    exact ⟨a6, _, c6, e2, own_low hr2 hb.size, hb.trans (hb2.mono hb.size)⟩

set_option maxHeartbeats 8000000 in
set_option maxRecDepth 100000 in
theorem tableOf_any (a : Option Addr) (cap : Nat) (C : List Cr) (loops : Int) (w : World) (hm : mayD C loops = true) (h10 : C.length ≤ 10) (hD : Crs w w.heap.size (.slice a C.length cap) C) :
    Calls Try.prog 69 #[.agg #[.slice a C.length cap, .int .i64 loops]] w fun e w' => ∃ v, e = .returned v ∧ (∃ gs vals, TbP w.heap.size (ovC C) C.length v gs vals (alF C) w') ∧ Below w.heap.size w w' := by
  obtain ⟨i1, hj, hy0, hy1, hy2⟩ := info_parts infoTermss
  obtain ⟨i2, hk, hx0, hx1, hx2⟩ := info_parts infoTerms
  have HM : Hid (mayD C loops = true) := hm
  have HD : Hid (Crs w w.heap.size (.slice a C.length cap) C) := hD
  have hoc : ovC C ≤ 21 := Nat.le_trans (rootsN_le _ _) (by omega)
  have HX : Hid (∀ x, x ∈ ovL C (2 * C.length) → x < 21) := fun x hx => by
    obtain ⟨i, hi, rfl⟩ := List.mem_map.1 hx
    have := ovM_in HM.out (i + 1) (by omega) (by have := List.mem_range.1 hi; omega)
    omega
  have HMO : Hid (mostTo (ovL C (2 * C.length)) (2 * C.length) = ovC C) := mostTo_ov (lowM_least (ovE_lt hm)) (fun v h1 h2 => (lowM_least (ovE_lt hm)).pos (fun e he => ⟨(ovE_in hm e he).1.1, (ovE_in hm e he).2.1⟩) h2 h1) _ (Nat.le_refl _)
  obtain ⟨w0, hw0⟩ : ∃ w0, w0 = w.alloc (.cells #[.slice a C.length cap, .int .i64 loops] 44) := ⟨_, rfl⟩
  have HW0 : Hid (w0 = w.alloc (.cells #[.slice a C.length cap, .int .i64 loops] 44)) := hw0
  have HB0 : Hid (Below w.heap.size w w0) := (by rw [hw0]; exact (Below.refl _ _).alloc (Nat.le_refl _) _ : Below w.heap.size w w0)
  have HT0 : Hid (w0.heap[w.heap.size]? = some (.cells #[.slice a C.length cap, .int .i64 loops] 44 (0, 0))) := (by rw [hw0]; exact alloc_at rfl : w0.heap[w.heap.size]? = some (.cells #[.slice a C.length cap, .int .i64 loops] 44 (0, 0)))
  clear hm hD hw0
  go_enter Try.func69, Try.ntmps69
  go_wp2_with (go_at_call 135; rw [← HW0.out]; refine (oversOf_any a cap C loops _ HM.out (HD.out.up HB0.out)).mono ?_; rintro e9 w2 ⟨v2, rfl, hr2, hb2⟩; refine Hid.out ?_)
  refine Lib.hid ?_
  obtain ⟨ao, co, rfl⟩ := own_capS hr2
  have HB2 : Hid (Below w0.heap.size w0 w2) := hb2
  have HO2 : Hid (w2.ownsRow w0.heap.size 3 1 (.slice ao (2 * C.length) co) (2 * C.length) (nats (ovL C (2 * C.length)))) := hr2
  have HSL : Hid (Slots w2 w2.heap.size (.slice ao (2 * C.length) co) (nats (ovL C (2 * C.length)))) := (by
    obtain ⟨a', c', e', f⟩ := own_rd hr2
    refine ⟨a', c', by rw [nats_len, ovL_len]; exact e', fun h0 => ?_⟩
    rw [nats_len, ovL_len] at h0 ⊢
    obtain ⟨b, off, eb, hlt, hc⟩ := f h0
    refine ⟨b, off, eb, hlt, fun i hi => ?_⟩
    have hg := nats_get (ovL C (2 * C.length)) i (by rw [ovL_len]; exact hi)
    rw [hc i (by omega), List.getD_eq_getElem?_getD (l := nats (ovL C (2 * C.length))), hg]
    rfl : Slots w2 w2.heap.size (.slice ao (2 * C.length) co) (nats (ovL C (2 * C.length))))
  clear hr2 hb2
  go_wp2_with (go_at_call 136; refine (mostOf_any _ (ovL C (2 * C.length)) 21 w2 (by omega) (by rw [ovL_len]; omega) HX.out HSL.out).mono ?_; rw [ovL_len, HMO.out]; rintro e9 w3 ⟨rfl, hb3⟩; refine Hid.out ?_)
  refine Lib.hid ?_
  have HB3 : Hid (Below w0.heap.size w0 w3) := HB2.out.trans (hb3.mono HB2.out.size)
  have HO3 : Hid (w3.ownsRow w0.heap.size 3 1 (.slice ao (2 * C.length) co) (2 * C.length) (nats (ovL C (2 * C.length)))) := own_any HO2.out (grown_below hb3 none)
  clear hb3
  have HOC : Hid (∀ W', Below w3.heap.size w3 W' → 0 < C.length → ∃ bo, ao = some ⟨bo, 0, none⟩ ∧ bo < w3.heap.size ∧ ∀ x, 1 ≤ x → x ≤ 2 * C.length → W'.cell? ⟨bo, x - 1, none⟩ = some (.int .i64 (ovM C x : Nat))) := fun W' hW h0 => by
    rcases HO3.out.2 with ⟨_, hz⟩ | ⟨g, cp, cur, e, _⟩
    · omega
    · injection e with e1 e2 e3
      have hh := HO3.out
      rw [e1] at hh
      refine ⟨g, e1, (hh.lt g rfl).2, fun x h1 h2 => bcell hW (hh.lt g rfl).2 ?_⟩
      rw [hh.cellAt (x - 1) (by omega), nats_get _ _ (by rw [ovL_len]; omega)]
      have : (ovL C (2 * C.length)).getD (x - 1) 0 = ovM C (x - 1 + 1) := by simp [ovL, List.getD_eq_getElem?_getD, show x - 1 < 2 * C.length by omega]
      rw [this, show x - 1 + 1 = x by omega]
  obtain ⟨m, hmm⟩ : ∃ m, ovC C = m := ⟨_, rfl⟩
  have HMM : Hid (ovC C = m) := hmm
  rw [hmm] at hoc ⊢
  clear hmm
  have HF : Hid (∀ W', Below w3.heap.size w3 W' → W'.cell? ⟨w.heap.size, 0, none⟩ = some (.slice a C.length cap) ∧ W'.cell? ⟨w.heap.size, 1, none⟩ = some (.int .i64 loops)) := fun W' hW => by
    have h1 := (HB3.out.block _ (Array.getElem?_eq_some_iff.1 HT0.out).1).trans HT0.out
    have h2 := (hW.block _ (Array.getElem?_eq_some_iff.1 h1).1).trans h1
    exact ⟨block_cell h2 rfl, block_cell h2 rfl⟩
  have hs3 : w.heap.size ≤ w3.heap.size := Nat.le_trans HB0.out.size HB3.out.size
  have HBW : Hid (Below w.heap.size w w3) := HB0.out.trans (HB3.out.mono HB0.out.size)
  go_wp2
  go_loopw [5, 6] (fun v5 v6 wr => ∃ k : Nat, k ≤ C.length ∧ v6 = .int .i64 (k : Nat) ∧ Hid ((∃ gs vals, TbP w3.heap.size m k v5 gs vals (alF C) wr) ∧ Below w3.heap.size w3 wr)) (fun _ v6 _ => C.length - (intOf v6).toNat)
  case atStart => exact ⟨0, Nat.zero_le _, rfl, ⟨fun _ => 0, fun _ _ => .slice none 0 0, World.ownsRow_nil _ _ _ _, fun i hi => absurd hi (Nat.not_lt_zero _)⟩, Below.refl _ _⟩
  case round =>
    rename World => W4
    obtain ⟨k, hkn, rfl, hp⟩ := hrel
    obtain ⟨j0, j1⟩ := HF.out _ hp.out.2
    obtain ⟨gs, vals, hT⟩ := hp.out.1
    obtain ⟨at', ct, rfl⟩ := own_capS hT.outer
    by_cases hkl : k < C.length
    · have HT : Hid (TbP w3.heap.size m k (.slice at' k ct) gs vals (alF C) W4) := hT
      have HB4 : Hid (Below w3.heap.size w3 W4) := hp.out.2
      have HBW4 : Hid (Below w.heap.size w W4) := HBW.out.trans (hp.out.2.mono hs3)
      have hs4 := hp.out.2.size
      obtain ⟨b, off, ea, hbw, hC⟩ : ∃ b off, a = some ⟨b, off, none⟩ ∧ b < w.heap.size ∧ CrossAt w b off C := by
        obtain ⟨a', c', e', _, f⟩ := HD.out
        injection e' with e1 e2 e3
        obtain ⟨b, off, eb, hlt, hc⟩ := f (by omega)
        exact ⟨b, off, e1.trans eb, hlt, hc⟩
      have HEA : Hid (a = some ⟨b, off, none⟩) := ea
      obtain ⟨e0, e1, e2, e3, e4⟩ := (hC.on HBW4.out hbw) k hkl
      have fa := may_fit HM.out k 0 hkl (by omega)
      have fb := may_fit HM.out k 1 hkl (by omega)
      have fc := may_fit HM.out k 2 hkl (by omega)
      have fd := may_fit HM.out k 3 hkl (by omega)
      have HXX : Hid ((C.getD k Cr.none).arc 0 = (C.getD k Cr.none).a ∧ (C.getD k Cr.none).arc 1 = (C.getD k Cr.none).b ∧ (C.getD k Cr.none).arc 2 = (C.getD k Cr.none).c ∧ (C.getD k Cr.none).arc 3 = (C.getD k Cr.none).d) := ⟨rfl, rfl, rfl, rfl⟩
      have fa1 := fa.1
      have fa2 := fa.2.1
      have fb1 := fb.1
      have fb2 := fb.2.1
      have fc1 := fc.1
      have fc2 := fc.2.1
      have fd1 := fd.1
      have fd2 := fd.2.1
      rw [HXX.out.1] at fa1 fa2
      rw [HXX.out.2.1] at fb1 fb2
      rw [HXX.out.2.2.1] at fc1 fc2
      rw [HXX.out.2.2.2] at fd1 fd2
      have HAL : Hid (alF C k = rowF (outC' C (C.getD k Cr.none)) (inC C (C.getD k Cr.none)) (ovM C (C.getD k Cr.none).b.toNat)) := (rfl : alF C k = rowF (outC' C (C.getD k Cr.none)) (inC C (C.getD k Cr.none)) (ovM C (C.getD k Cr.none).b.toNat))
      generalize hcr : C.getD k Cr.none = cr at *
      clear hcr HXX fa fb fc fd
      obtain ⟨za, zb, zc, zd, P⟩ := cr
      simp only at e0 e1 e2 e3 e4 fa1 fa2 fb1 fb2 fc1 fc2 fd1 fd2
      obtain ⟨xa, rfl⟩ : ∃ x : Nat, za = (x : Int) := ⟨za.toNat, by omega⟩
      obtain ⟨xb, rfl⟩ : ∃ x : Nat, zb = (x : Int) := ⟨zb.toNat, by omega⟩
      obtain ⟨xc, rfl⟩ : ∃ x : Nat, zc = (x : Int) := ⟨zc.toNat, by omega⟩
      obtain ⟨xd, rfl⟩ : ∃ x : Nat, zd = (x : Int) := ⟨zd.toNat, by omega⟩
      obtain ⟨bo, eao, hbo, -⟩ := HOC.out W4 HB4.out (by omega)
      have HAO : Hid (ao = some ⟨bo, 0, none⟩) := eao
      obtain ⟨ya, hya⟩ : ∃ y, xa = y + 1 := ⟨xa - 1, by omega⟩
      obtain ⟨yb, hyb⟩ : ∃ y, xb = y + 1 := ⟨xb - 1, by omega⟩
      obtain ⟨yc, hyc⟩ : ∃ y, xc = y + 1 := ⟨xc - 1, by omega⟩
      have hya2 : ya < 2 * C.length := by omega
      have hyb2 : yb < 2 * C.length := by omega
      have hyc2 : yc < 2 * C.length := by omega
      have hoa : ovM C xa < m := by rw [← HMM.out]; exact ovM_in HM.out xa (by omega) (by omega)
      have hob : ovM C xb < m := by rw [← HMM.out]; exact ovM_in HM.out xb (by omega) (by omega)
      have hocc : ovM C xc < m := by rw [← HMM.out]; exact ovM_in HM.out xc (by omega) (by omega)
      have HOX : Hid (∀ W', Below w3.heap.size w3 W' → W'.cell? ⟨bo, ya, none⟩ = some (.int .i64 (ovM C xa : Nat)) ∧ W'.cell? ⟨bo, yb, none⟩ = some (.int .i64 (ovM C xb : Nat)) ∧ W'.cell? ⟨bo, yc, none⟩ = some (.int .i64 (ovM C xc : Nat))) := fun W' hW => by
        obtain ⟨bo', e', _, q⟩ := HOC.out W' hW (by omega)
        rw [eao] at e'
        injection e' with e'
        injection e' with e1 e2 e3
        subst e1
        have qa := q xa (by omega) (by omega)
        have qb := q xb (by omega) (by omega)
        have qc := q xc (by omega) (by omega)
        rw [show xa - 1 = ya by omega] at qa
        rw [show xb - 1 = yb by omega] at qb
        rw [show xc - 1 = yc by omega] at qc
        exact ⟨qa, qb, qc⟩
      have HAL2 : Hid (alF C k = rowF (if P = true then ovM C xc else ovM C xa) (if P = true then ovM C xa else ovM C xc) (ovM C xb)) := (by
        rw [HAL.out]
        unfold outC' inC
        simp only [Int.toNat_natCast] : alF C k = rowF (if P = true then ovM C xc else ovM C xa) (if P = true then ovM C xa else ovM C xc) (ovM C xb))
      obtain ⟨oa, hoa'⟩ : ∃ o, ovM C xa = o := ⟨_, rfl⟩
      obtain ⟨ob, hob'⟩ : ∃ o, ovM C xb = o := ⟨_, rfl⟩
      obtain ⟨oc, hoc'⟩ : ∃ o, ovM C xc = o := ⟨_, rfl⟩
      rw [hoa', hob', hoc'] at HOX HAL2
      rw [hoa'] at hoa
      rw [hob'] at hob
      rw [hoc'] at hocc
      have ewa : IntKind.i64.wrap ((xa : Int) - 1) = (ya : Int) := by rw [IntWalk.i64_in _ (by omega)]; omega
      have ewb : IntKind.i64.wrap ((xb : Int) - 1) = (yb : Int) := by rw [IntWalk.i64_in _ (by omega)]; omega
      have ewc : IntKind.i64.wrap ((xc : Int) - 1) = (yc : Int) := by rw [IntWalk.i64_in _ (by omega)]; omega
      obtain ⟨X0, hX0⟩ : ∃ X, X = W4.alloc (.cells #[.int .i64 (xa : Nat), .int .i64 (xb : Nat), .int .i64 (xc : Nat), .int .i64 (xd : Nat), .bool P] 70) := ⟨_, rfl⟩
      have HX0 : Hid (X0 = W4.alloc (.cells #[.int .i64 (xa : Nat), .int .i64 (xb : Nat), .int .i64 (xc : Nat), .int .i64 (xd : Nat), .bool P] 70)) := hX0
      have hs0 : X0.heap.size = W4.heap.size + 1 := by rw [hX0]; simp
      have HXB : Hid (X0.heap[W4.heap.size]? = some (.cells #[.int .i64 (xa : Nat), .int .i64 (xb : Nat), .int .i64 (xc : Nat), .int .i64 (xd : Nat), .bool P] 70 (0, 0)) ∧ W4.grownBy X0 none) := (by rw [hX0]; exact ⟨alloc_at rfl, World.grownBy_alloc _ _ none⟩ : X0.heap[W4.heap.size]? = some (.cells #[.int .i64 (xa : Nat), .int .i64 (xb : Nat), .int .i64 (xc : Nat), .int .i64 (xd : Nat), .bool P] 70 (0, 0)) ∧ W4.grownBy X0 none)
      clear fa1 fa2 fb1 fb2 fc1 fc2 fd1 fd2 hoa' hob' hoc' hX0 hya hyb hyc HAL hT hp hC
      subst ea
      subst eao
      have hii : (k : Int) < (C.length : Int) := by omega
      go_upto_region 9 with (first | (at_make; rw [← HX0.out]; refine wpList_make_full _ rfl _ _ 37 rfl w3.heap.size 22 i2 (.slice none 0 0) 1 Try.underlying37 hk hx0 hx1 .i64 .i64 _ _ m rfl rfl rfl rfl (by rw [hx2]; omega) (by unfold maxLen; omega) (by omega) ?_; intro X1 hrow hg1; refine Hid.out ?_))
      refine Lib.hid ?_
      clear e0 e1 e2 e3 e4
      rw [made_nilsV, hs0] at hrow
      have HS0 : Hid (TbSt w3 W4.heap.size k m (.slice at' k ct) gs vals (alF C) #[.int .i64 (xa : Nat), .int .i64 (xb : Nat), .int .i64 (xc : Nat), .int .i64 (xd : Nat), .bool P] zeroF X1) := ⟨⟨_, hrow, fun j _ => World.ownsRow_nil _ _ _ _⟩, (hg1.block _ (by omega) (by simp)).trans HXB.out.1, ⟨own_any (own_any HT.out.outer HXB.out.2) hg1, fun i hi => ((HT.out.each i hi).any HXB.out.2).any hg1⟩, (HB4.out.grown HXB.out.2 hs4 (fun k hk => by cases hk)).grown hg1 (by omega) (fun k hk => by cases hk), fun i hi => ((HT.out.each i hi).row.lt (gs i) rfl).2, hs4⟩
      clear hrow hg1 HXB HX0 hs0
      have c0 : X1.cell? ⟨W4.heap.size, 0, none⟩ = some (.int .i64 (xa : Nat)) := block_cell HS0.out.box rfl
      have c2 : X1.cell? ⟨W4.heap.size, 2, none⟩ = some (.int .i64 (xc : Nat)) := block_cell HS0.out.box rfl
      have d0 : X1.cell? ⟨bo, ya, none⟩ = some (.int .i64 (oa : Nat)) := (HOX.out _ HS0.out.bel).1
      have d2 : X1.cell? ⟨bo, yc, none⟩ = some (.int .i64 (oc : Nat)) := (HOX.out _ HS0.out.bel).2.2
      go_upto_region 9 with (fail)
      go_quiet (fail)
      obtain ⟨X2, hX2⟩ : ∃ X, X = X1.drewN nq := ⟨_, rfl⟩
      rw [← hX2]
      have HS1 : Hid (TbSt w3 W4.heap.size k m (.slice at' k ct) gs vals (alF C) #[.int .i64 (xa : Nat), .int .i64 (xb : Nat), .int .i64 (xc : Nat), .int .i64 (xd : Nat), .bool P] zeroF X2) := (HS0.out.on (by rw [hX2]; exact below_drewN (Below.refl _ _) _) : TbSt w3 W4.heap.size k m (.slice at' k ct) gs vals (alF C) #[.int .i64 (xa : Nat), .int .i64 (xb : Nat), .int .i64 (xc : Nat), .int .i64 (xd : Nat), .bool P] zeroF X2)
      clear hX2 c0 c2 d0 d2 HS0 ewa ewc
      have k4 : X2.cell? ⟨W4.heap.size, 4, none⟩ = some (.bool P) := block_cell HS1.out.box rfl
      have k1 : X2.cell? ⟨W4.heap.size, 1, none⟩ = some (.int .i64 (xb : Nat)) := block_cell HS1.out.box rfl
      have d1 : X2.cell? ⟨bo, yb, none⟩ = some (.int .i64 (ob : Nat)) := (HOX.out _ HS1.out.bel).2.1
      cases P with
      | true =>
        have n0 : smallF zeroF 9 := fun j => by have := small_zero j; omega
        have n1 : smallF (addF zeroF oc 1 0) 9 := fun j => by have := small_add small_zero oc (dx := 1) (dy := 0) (by omega) (by omega) j; omega
        have n2 : smallF (addF (addF zeroF oc 1 0) oa 0 (-1)) 9 := fun j => by have := small_add (small_add small_zero oc (dx := 1) (dy := 0) (by omega) (by omega)) oa (dx := 0) (dy := -1) (by omega) (by omega) j; omega
        have HN : Hid (smallF zeroF 9 ∧ smallF (addF zeroF oc 1 0) 9 ∧ smallF (addF (addF zeroF oc 1 0) oa 0 (-1)) 9) := ⟨n0, n1, n2⟩
        have HAL3 : Hid (alF C k = (addF (addF (addF zeroF oc 1 0) oa 0 (-1)) ob (-1) 1)) := HAL2.out
        clear n0 n1 n2
        go_upto_region 13 with (fail)
        clear k1 d1 k4
        obtain ⟨av1, la1, cv1, q1, hq1, hz1, ho1, hb1⟩ := HS1.out.take HN.out.1 oc hocc
        have HQ1 : Hid (∀ Y, Below X2.heap.size X2 Y → Y.cell? ⟨W4.heap.size + 1, oc, none⟩ = some (.slice av1 la1 cv1) ∧ Y.frozen? ⟨W4.heap.size + 1, oc, none⟩ = false ∧ W4.heap.size + 1 < Y.heap.size) := hq1
        have HCL1 := Lib.hid (hz1 1 (by omega) (by omega) (by omega))
        have hoi1 : ((oc : Nat) : Int) < (m : Int) := by omega
        clear hq1 hz1 ho1 hb1
        go_upto_region 14 with (first | (go_at_call 76; refine HCL1.out.mono ?_; rintro e9 Y1 ⟨a5, n5, c5, rfl, hr5, hb5⟩; obtain ⟨r0, r1, r2⟩ := HQ1.out Y1 hb5; refine Hid.out ?_))
        refine Lib.hid ?_
        have HE1 : Hid (TbSt w3 W4.heap.size k m (.slice at' k ct) gs vals (alF C) #[.int .i64 (xa : Nat), .int .i64 (xb : Nat), .int .i64 (xc : Nat), .int .i64 (xd : Nat), .bool true] (addF zeroF oc 1 0) (Y1.setCell ⟨W4.heap.size + 1, oc, none⟩ (.slice a5 n5 c5))) := HS1.out.set hb5 oc 1 0 _ hr5
        obtain ⟨X3, hX3⟩ : ∃ X, X = Y1.setCell ⟨W4.heap.size + 1, oc, none⟩ (.slice a5 n5 c5) := ⟨_, rfl⟩
        have HS2 : Hid (TbSt w3 W4.heap.size k m (.slice at' k ct) gs vals (alF C) #[.int .i64 (xa : Nat), .int .i64 (xb : Nat), .int .i64 (xc : Nat), .int .i64 (xd : Nat), .bool true] (addF zeroF oc 1 0) X3) := (by rw [hX3]; exact HE1.out : TbSt w3 W4.heap.size k m (.slice at' k ct) gs vals (alF C) #[.int .i64 (xa : Nat), .int .i64 (xb : Nat), .int .i64 (xc : Nat), .int .i64 (xd : Nat), .bool true] (addF zeroF oc 1 0) X3)
        have HXE1 : Hid (X3 = Y1.setCell ⟨W4.heap.size + 1, oc, none⟩ (.slice a5 n5 c5)) := hX3
        clear hX3 HE1 hr5 hb5 HS1 HCL1 HQ1
        go_upto_region 14 with (fail)
        rw [← HXE1.out]
        clear HXE1 q1
        clear r0 r1 r2
        obtain ⟨av2, la2, cv2, q2, hq2, hz2, ho2, hb2⟩ := HS2.out.take HN.out.2.1 oa hoa
        have HQ2 : Hid (∀ Y, Below X3.heap.size X3 Y → Y.cell? ⟨W4.heap.size + 1, oa, none⟩ = some (.slice av2 la2 cv2) ∧ Y.frozen? ⟨W4.heap.size + 1, oa, none⟩ = false ∧ W4.heap.size + 1 < Y.heap.size) := hq2
        have HCL2 := Lib.hid (ho2 (-1) (by omega) (by omega) (by omega))
        have hoi2 : ((oa : Nat) : Int) < (m : Int) := by omega
        clear hq2 hz2 ho2 hb2
        go_upto_region 15 with (first | (go_at_call 76; refine HCL2.out.mono ?_; rintro e9 Y2 ⟨a6, n6, c6, rfl, hr6, hb6⟩; obtain ⟨r0, r1, r2⟩ := HQ2.out Y2 hb6; refine Hid.out ?_))
        refine Lib.hid ?_
        have HE2 : Hid (TbSt w3 W4.heap.size k m (.slice at' k ct) gs vals (alF C) #[.int .i64 (xa : Nat), .int .i64 (xb : Nat), .int .i64 (xc : Nat), .int .i64 (xd : Nat), .bool true] (addF (addF zeroF oc 1 0) oa 0 (-1)) (Y2.setCell ⟨W4.heap.size + 1, oa, none⟩ (.slice a6 n6 c6))) := HS2.out.set hb6 oa 0 (-1) _ hr6
        obtain ⟨X4, hX4⟩ : ∃ X, X = Y2.setCell ⟨W4.heap.size + 1, oa, none⟩ (.slice a6 n6 c6) := ⟨_, rfl⟩
        have HS3 : Hid (TbSt w3 W4.heap.size k m (.slice at' k ct) gs vals (alF C) #[.int .i64 (xa : Nat), .int .i64 (xb : Nat), .int .i64 (xc : Nat), .int .i64 (xd : Nat), .bool true] (addF (addF zeroF oc 1 0) oa 0 (-1)) X4) := (by rw [hX4]; exact HE2.out : TbSt w3 W4.heap.size k m (.slice at' k ct) gs vals (alF C) #[.int .i64 (xa : Nat), .int .i64 (xb : Nat), .int .i64 (xc : Nat), .int .i64 (xd : Nat), .bool true] (addF (addF zeroF oc 1 0) oa 0 (-1)) X4)
        have HXE2 : Hid (X4 = Y2.setCell ⟨W4.heap.size + 1, oa, none⟩ (.slice a6 n6 c6)) := hX4
        clear hX4 HE2 hr6 hb6 HS2 HCL2 HQ2
        go_upto_region 15 with (fail)
        rw [← HXE2.out]
        clear HXE2 q2
        clear r0 r1 r2
        obtain ⟨av3, la3, cv3, q3, hq3, hz3, ho3, hb3⟩ := HS3.out.take HN.out.2.2 ob hob
        have HQ3 : Hid (∀ Y, Below X4.heap.size X4 Y → Y.cell? ⟨W4.heap.size + 1, ob, none⟩ = some (.slice av3 la3 cv3) ∧ Y.frozen? ⟨W4.heap.size + 1, ob, none⟩ = false ∧ W4.heap.size + 1 < Y.heap.size) := hq3
        have HCL3 := Lib.hid (hb3)
        have hoi3 : ((ob : Nat) : Int) < (m : Int) := by omega
        clear hq3 hz3 ho3 hb3
        go_upto_region 16 with (first
          | (go_at_call 76; refine HCL3.out.mono ?_; rintro e9 Y3 ⟨a7, n7, c7, rfl, hb7, hcl4⟩; refine Hid.out ?_))
        refine Lib.hid ?_
        have HCL4 := Lib.hid hcl4
        clear hcl4
        go_upto_region 16 with (first
          | (go_at_call 76; refine HCL4.out.mono ?_; rintro e9 Y4 ⟨a8, n8, c8, rfl, hr8, hb8⟩; obtain ⟨r0, r1, r2⟩ := HQ3.out Y4 hb8; refine Hid.out ?_))
        refine Lib.hid ?_
        have HE3 : Hid (TbSt w3 W4.heap.size k m (.slice at' k ct) gs vals (alF C) #[.int .i64 (xa : Nat), .int .i64 (xb : Nat), .int .i64 (xc : Nat), .int .i64 (xd : Nat), .bool true] (addF (addF (addF zeroF oc 1 0) oa 0 (-1)) ob (-1) 1) (Y4.setCell ⟨W4.heap.size + 1, ob, none⟩ (.slice a8 n8 c8))) := HS3.out.set hb8 ob (-1) 1 _ hr8
        obtain ⟨X5, hX5⟩ : ∃ X, X = Y4.setCell ⟨W4.heap.size + 1, ob, none⟩ (.slice a8 n8 c8) := ⟨_, rfl⟩
        have HS4 : Hid (TbSt w3 W4.heap.size k m (.slice at' k ct) gs vals (alF C) #[.int .i64 (xa : Nat), .int .i64 (xb : Nat), .int .i64 (xc : Nat), .int .i64 (xd : Nat), .bool true] (addF (addF (addF zeroF oc 1 0) oa 0 (-1)) ob (-1) 1) X5) := (by rw [hX5]; exact HE3.out : TbSt w3 W4.heap.size k m (.slice at' k ct) gs vals (alF C) #[.int .i64 (xa : Nat), .int .i64 (xb : Nat), .int .i64 (xc : Nat), .int .i64 (xd : Nat), .bool true] (addF (addF (addF zeroF oc 1 0) oa 0 (-1)) ob (-1) 1) X5)
        have HXE3 : Hid (X5 = Y4.setCell ⟨W4.heap.size + 1, ob, none⟩ (.slice a8 n8 c8)) := hX5
        clear hX5 HE3 hr8 hb8 HS3 HCL3 HQ3
        go_upto_region 16 with (fail)
        rw [← HXE3.out]
        clear HXE3 q3
        clear r0 r1 r2 HCL4
        rw [← HAL3.out] at HS4
        obtain ⟨vs, hpl⟩ := HS4.out.plc
        have HPL : Hid (PlcAt w3.heap.size m (W4.heap.size + 1) vs (alF C k) X5) := hpl
        have HTAB : Hid (TbP w3.heap.size m k (.slice at' k ct) gs vals (alF C) X5) := HS4.out.tab
        have HBEL : Hid (Below w3.heap.size w3 X5) := HS4.out.bel
        have HON : Hid (∀ u ∈ [Value.slice (some ⟨W4.heap.size + 1, 0, none⟩) m m], u.oneCell' = true) := own_oneS hpl.row
        have hs5 := HS4.out.bel.size
        have hdk : decide ((k : Int) < (C.length : Int)) = true := by simp; omega
        clear HS4 hpl
        go_wp2_with (first
          | (at_builtin; refine wpList_append_own _ rfl _ _ 36 rfl w3.heap.size 37 i1 (.slice none 0 0) 1 24 Try.underlying36 hj hy0 hy1 hy2 rfl (by decide) _ _ _ rfl (HTAB.out.outer.alloc _) ⟨X5.heap.size, 0, none⟩ 1 1 [Value.slice (some ⟨W4.heap.size + 1, 0, none⟩) m m] rfl rfl (new_cell1 _ _ _) HON.out (by unfold maxLen; omega) (by omega) (by simp; omega) ?_; intro v8 w8 hown8 hg8 _; refine Hid.out ?_))
        refine Lib.hid ?_
        have hA := HTAB.out.outer.alloc (.cells #[Value.slice (some ⟨W4.heap.size + 1, 0, none⟩) m m] 37)
        have HTB2 : Hid (TbP w3.heap.size m k (.slice at' k ct) gs vals (alF C) (X5.alloc (.cells #[Value.slice (some ⟨W4.heap.size + 1, 0, none⟩) m m] 37))) := ⟨hA, fun i hi => (HTAB.out.each i hi).any (World.grownBy_alloc _ _ none)⟩
        have HFIN : Hid ((∃ gs vals, TbP w3.heap.size m (k + 1) v8 gs vals (alF C) w8) ∧ Below w3.heap.size w3 w8) := ⟨⟨_, _, HTB2.out.more (HPL.out.any (World.grownBy_alloc _ _ none)) hg8 hown8⟩, (HBEL.out.alloc hs5 _).grown hg8 (by simp; omega) (fun q hq => (hA.lt q hq).1)⟩
        clear hg8 hown8 hA
        obtain ⟨a9, c9, rfl⟩ : ∃ a9 c9, v8 = .slice a9 (k + 1) c9 := by
          obtain ⟨_, _, hh⟩ := HFIN.out.1
          exact own_capS hh.outer
        go_wp2
        go_roundw
        case rel => exact ⟨k + 1, by omega, by go_num, HFIN.out⟩
        case measure => simp only [intOf]; omega
      | false =>
        have n0 : smallF zeroF 9 := fun j => by have := small_zero j; omega
        have n1 : smallF (addF zeroF oa 1 0) 9 := fun j => by have := small_add small_zero oa (dx := 1) (dy := 0) (by omega) (by omega) j; omega
        have n2 : smallF (addF (addF zeroF oa 1 0) oc 0 (-1)) 9 := fun j => by have := small_add (small_add small_zero oa (dx := 1) (dy := 0) (by omega) (by omega)) oc (dx := 0) (dy := -1) (by omega) (by omega) j; omega
        have HN : Hid (smallF zeroF 9 ∧ smallF (addF zeroF oa 1 0) 9 ∧ smallF (addF (addF zeroF oa 1 0) oc 0 (-1)) 9) := ⟨n0, n1, n2⟩
        have HAL3 : Hid (alF C k = (addF (addF (addF zeroF oa 1 0) oc 0 (-1)) ob (-1) 1)) := HAL2.out
        clear n0 n1 n2
        go_upto_region 13 with (fail)
        clear k1 d1 k4
        obtain ⟨av1, la1, cv1, q1, hq1, hz1, ho1, hb1⟩ := HS1.out.take HN.out.1 oa hoa
        have HQ1 : Hid (∀ Y, Below X2.heap.size X2 Y → Y.cell? ⟨W4.heap.size + 1, oa, none⟩ = some (.slice av1 la1 cv1) ∧ Y.frozen? ⟨W4.heap.size + 1, oa, none⟩ = false ∧ W4.heap.size + 1 < Y.heap.size) := hq1
        have HCL1 := Lib.hid (hz1 1 (by omega) (by omega) (by omega))
        have hoi1 : ((oa : Nat) : Int) < (m : Int) := by omega
        clear hq1 hz1 ho1 hb1
        go_upto_region 14 with (first | (go_at_call 76; refine HCL1.out.mono ?_; rintro e9 Y1 ⟨a5, n5, c5, rfl, hr5, hb5⟩; obtain ⟨r0, r1, r2⟩ := HQ1.out Y1 hb5; refine Hid.out ?_))
        refine Lib.hid ?_
        have HE1 : Hid (TbSt w3 W4.heap.size k m (.slice at' k ct) gs vals (alF C) #[.int .i64 (xa : Nat), .int .i64 (xb : Nat), .int .i64 (xc : Nat), .int .i64 (xd : Nat), .bool false] (addF zeroF oa 1 0) (Y1.setCell ⟨W4.heap.size + 1, oa, none⟩ (.slice a5 n5 c5))) := HS1.out.set hb5 oa 1 0 _ hr5
        obtain ⟨X3, hX3⟩ : ∃ X, X = Y1.setCell ⟨W4.heap.size + 1, oa, none⟩ (.slice a5 n5 c5) := ⟨_, rfl⟩
        have HS2 : Hid (TbSt w3 W4.heap.size k m (.slice at' k ct) gs vals (alF C) #[.int .i64 (xa : Nat), .int .i64 (xb : Nat), .int .i64 (xc : Nat), .int .i64 (xd : Nat), .bool false] (addF zeroF oa 1 0) X3) := (by rw [hX3]; exact HE1.out : TbSt w3 W4.heap.size k m (.slice at' k ct) gs vals (alF C) #[.int .i64 (xa : Nat), .int .i64 (xb : Nat), .int .i64 (xc : Nat), .int .i64 (xd : Nat), .bool false] (addF zeroF oa 1 0) X3)
        have HXE1 : Hid (X3 = Y1.setCell ⟨W4.heap.size + 1, oa, none⟩ (.slice a5 n5 c5)) := hX3
        clear hX3 HE1 hr5 hb5 HS1 HCL1 HQ1
        go_upto_region 14 with (fail)
        rw [← HXE1.out]
        clear HXE1 q1
        clear r0 r1 r2
        obtain ⟨av2, la2, cv2, q2, hq2, hz2, ho2, hb2⟩ := HS2.out.take HN.out.2.1 oc hocc
        have HQ2 : Hid (∀ Y, Below X3.heap.size X3 Y → Y.cell? ⟨W4.heap.size + 1, oc, none⟩ = some (.slice av2 la2 cv2) ∧ Y.frozen? ⟨W4.heap.size + 1, oc, none⟩ = false ∧ W4.heap.size + 1 < Y.heap.size) := hq2
        have HCL2 := Lib.hid (ho2 (-1) (by omega) (by omega) (by omega))
        have hoi2 : ((oc : Nat) : Int) < (m : Int) := by omega
        clear hq2 hz2 ho2 hb2
        go_upto_region 15 with (first | (go_at_call 76; refine HCL2.out.mono ?_; rintro e9 Y2 ⟨a6, n6, c6, rfl, hr6, hb6⟩; obtain ⟨r0, r1, r2⟩ := HQ2.out Y2 hb6; refine Hid.out ?_))
        refine Lib.hid ?_
        have HE2 : Hid (TbSt w3 W4.heap.size k m (.slice at' k ct) gs vals (alF C) #[.int .i64 (xa : Nat), .int .i64 (xb : Nat), .int .i64 (xc : Nat), .int .i64 (xd : Nat), .bool false] (addF (addF zeroF oa 1 0) oc 0 (-1)) (Y2.setCell ⟨W4.heap.size + 1, oc, none⟩ (.slice a6 n6 c6))) := HS2.out.set hb6 oc 0 (-1) _ hr6
        obtain ⟨X4, hX4⟩ : ∃ X, X = Y2.setCell ⟨W4.heap.size + 1, oc, none⟩ (.slice a6 n6 c6) := ⟨_, rfl⟩
        have HS3 : Hid (TbSt w3 W4.heap.size k m (.slice at' k ct) gs vals (alF C) #[.int .i64 (xa : Nat), .int .i64 (xb : Nat), .int .i64 (xc : Nat), .int .i64 (xd : Nat), .bool false] (addF (addF zeroF oa 1 0) oc 0 (-1)) X4) := (by rw [hX4]; exact HE2.out : TbSt w3 W4.heap.size k m (.slice at' k ct) gs vals (alF C) #[.int .i64 (xa : Nat), .int .i64 (xb : Nat), .int .i64 (xc : Nat), .int .i64 (xd : Nat), .bool false] (addF (addF zeroF oa 1 0) oc 0 (-1)) X4)
        have HXE2 : Hid (X4 = Y2.setCell ⟨W4.heap.size + 1, oc, none⟩ (.slice a6 n6 c6)) := hX4
        clear hX4 HE2 hr6 hb6 HS2 HCL2 HQ2
        go_upto_region 15 with (fail)
        rw [← HXE2.out]
        clear HXE2 q2
        clear r0 r1 r2
        obtain ⟨av3, la3, cv3, q3, hq3, hz3, ho3, hb3⟩ := HS3.out.take HN.out.2.2 ob hob
        have HQ3 : Hid (∀ Y, Below X4.heap.size X4 Y → Y.cell? ⟨W4.heap.size + 1, ob, none⟩ = some (.slice av3 la3 cv3) ∧ Y.frozen? ⟨W4.heap.size + 1, ob, none⟩ = false ∧ W4.heap.size + 1 < Y.heap.size) := hq3
        have HCL3 := Lib.hid (hb3)
        have hoi3 : ((ob : Nat) : Int) < (m : Int) := by omega
        clear hq3 hz3 ho3 hb3
        go_upto_region 16 with (first
          | (go_at_call 76; refine HCL3.out.mono ?_; rintro e9 Y3 ⟨a7, n7, c7, rfl, hb7, hcl4⟩; refine Hid.out ?_))
        refine Lib.hid ?_
        have HCL4 := Lib.hid hcl4
        clear hcl4
        go_upto_region 16 with (first
          | (go_at_call 76; refine HCL4.out.mono ?_; rintro e9 Y4 ⟨a8, n8, c8, rfl, hr8, hb8⟩; obtain ⟨r0, r1, r2⟩ := HQ3.out Y4 hb8; refine Hid.out ?_))
        refine Lib.hid ?_
        have HE3 : Hid (TbSt w3 W4.heap.size k m (.slice at' k ct) gs vals (alF C) #[.int .i64 (xa : Nat), .int .i64 (xb : Nat), .int .i64 (xc : Nat), .int .i64 (xd : Nat), .bool false] (addF (addF (addF zeroF oa 1 0) oc 0 (-1)) ob (-1) 1) (Y4.setCell ⟨W4.heap.size + 1, ob, none⟩ (.slice a8 n8 c8))) := HS3.out.set hb8 ob (-1) 1 _ hr8
        obtain ⟨X5, hX5⟩ : ∃ X, X = Y4.setCell ⟨W4.heap.size + 1, ob, none⟩ (.slice a8 n8 c8) := ⟨_, rfl⟩
        have HS4 : Hid (TbSt w3 W4.heap.size k m (.slice at' k ct) gs vals (alF C) #[.int .i64 (xa : Nat), .int .i64 (xb : Nat), .int .i64 (xc : Nat), .int .i64 (xd : Nat), .bool false] (addF (addF (addF zeroF oa 1 0) oc 0 (-1)) ob (-1) 1) X5) := (by rw [hX5]; exact HE3.out : TbSt w3 W4.heap.size k m (.slice at' k ct) gs vals (alF C) #[.int .i64 (xa : Nat), .int .i64 (xb : Nat), .int .i64 (xc : Nat), .int .i64 (xd : Nat), .bool false] (addF (addF (addF zeroF oa 1 0) oc 0 (-1)) ob (-1) 1) X5)
        have HXE3 : Hid (X5 = Y4.setCell ⟨W4.heap.size + 1, ob, none⟩ (.slice a8 n8 c8)) := hX5
        clear hX5 HE3 hr8 hb8 HS3 HCL3 HQ3
        go_upto_region 16 with (fail)
        rw [← HXE3.out]
        clear HXE3 q3
        clear r0 r1 r2 HCL4
        rw [← HAL3.out] at HS4
        obtain ⟨vs, hpl⟩ := HS4.out.plc
        have HPL : Hid (PlcAt w3.heap.size m (W4.heap.size + 1) vs (alF C k) X5) := hpl
        have HTAB : Hid (TbP w3.heap.size m k (.slice at' k ct) gs vals (alF C) X5) := HS4.out.tab
        have HBEL : Hid (Below w3.heap.size w3 X5) := HS4.out.bel
        have HON : Hid (∀ u ∈ [Value.slice (some ⟨W4.heap.size + 1, 0, none⟩) m m], u.oneCell' = true) := own_oneS hpl.row
        have hs5 := HS4.out.bel.size
        have hdk : decide ((k : Int) < (C.length : Int)) = true := by simp; omega
        clear HS4 hpl
        go_wp2_with (first
          | (at_builtin; refine wpList_append_own _ rfl _ _ 36 rfl w3.heap.size 37 i1 (.slice none 0 0) 1 24 Try.underlying36 hj hy0 hy1 hy2 rfl (by decide) _ _ _ rfl (HTAB.out.outer.alloc _) ⟨X5.heap.size, 0, none⟩ 1 1 [Value.slice (some ⟨W4.heap.size + 1, 0, none⟩) m m] rfl rfl (new_cell1 _ _ _) HON.out (by unfold maxLen; omega) (by omega) (by simp; omega) ?_; intro v8 w8 hown8 hg8 _; refine Hid.out ?_))
        refine Lib.hid ?_
        have hA := HTAB.out.outer.alloc (.cells #[Value.slice (some ⟨W4.heap.size + 1, 0, none⟩) m m] 37)
        have HTB2 : Hid (TbP w3.heap.size m k (.slice at' k ct) gs vals (alF C) (X5.alloc (.cells #[Value.slice (some ⟨W4.heap.size + 1, 0, none⟩) m m] 37))) := ⟨hA, fun i hi => (HTAB.out.each i hi).any (World.grownBy_alloc _ _ none)⟩
        have HFIN : Hid ((∃ gs vals, TbP w3.heap.size m (k + 1) v8 gs vals (alF C) w8) ∧ Below w3.heap.size w3 w8) := ⟨⟨_, _, HTB2.out.more (HPL.out.any (World.grownBy_alloc _ _ none)) hg8 hown8⟩, (HBEL.out.alloc hs5 _).grown hg8 (by simp; omega) (fun q hq => (hA.lt q hq).1)⟩
        clear hg8 hown8 hA
        obtain ⟨a9, c9, rfl⟩ : ∃ a9 c9, v8 = .slice a9 (k + 1) c9 := by
          obtain ⟨_, _, hh⟩ := HFIN.out.1
          exact own_capS hh.outer
        go_wp2
        go_roundw
        case rel => exact ⟨k + 1, by omega, by go_num, HFIN.out⟩
        case measure => simp only [intOf]; omega
    · obtain rfl : k = C.length := by omega
      have HTT : Hid (∃ gs vals, TbP w.heap.size (ovC C) C.length (.slice at' C.length ct) gs vals (alF C) W4) := (by rw [HMM.out]; exact ⟨gs, vals, own_low hT.outer hs3, fun i hi => (hT.each i hi).low hs3⟩ : ∃ gs vals, TbP w.heap.size (ovC C) C.length (.slice at' C.length ct) gs vals (alF C) W4)
      have HBE : Hid (Below w.heap.size w W4) := HBW.out.trans (hp.out.2.mono hs3)
      clear hT hp
      go_wp2
      go_ret
      exact ⟨_, rfl, HTT.out, HBE.out⟩
end Go.Proofs.Ytnhllpaoplfgpaa
/- The walk of the law knotworklaw.PolySums itself: it answers true. -/
namespace Go.Proofs.Ytnhllpaoplfgpaa.Poly
open Go.RowKit Go.Maps

set_option maxHeartbeats 400000 in
theorem prod_none1 (a : Option Addr) (cap : Nat) (v2 : Value) (w : World) :
    Calls Try.prog 25 #[.slice a 0 cap, v2] w fun e w' => e = .returned (.slice none 0 0) ∧ Below w.heap.size w w' := by
  go_enter Try.func25, Try.ntmps25
  go_wp2
  go_loopw [5, 6, 7] (fun v i _ wr => v = .slice none 0 0 ∧ i = .int .i64 0 ∧ Below w.heap.size w wr) (fun _ _ _ _ => 0)
  case atStart => exact ⟨rfl, rfl, Below.refl _ _⟩
  case round =>
    obtain ⟨rfl, rfl, hb⟩ := hrel
    go_wp2
    go_ret
    exact ⟨rfl, hb⟩

set_option maxHeartbeats 400000 in
theorem prod_none2 (a1 a2 : Option Addr) (n cap1 cap2 : Nat) (w : World) (hn : n ≤ 64) :
    Calls Try.prog 25 #[.slice a1 n cap1, .slice a2 0 cap2] w fun e w' => e = .returned (.slice none 0 0) ∧ Below w.heap.size w w' := by
  go_enter Try.func25, Try.ntmps25
  go_wp2
  go_loopw [5, 6, 7] (fun v i _ wr => ∃ k : Nat, k ≤ n ∧ v = .slice none 0 0 ∧ i = .int .i64 k ∧ Below w.heap.size w wr) (fun _ i _ _ => n - (intOf i).toNat)
  case atStart => exact ⟨0, Nat.zero_le _, rfl, rfl, Below.refl _ _⟩
  case round =>
    obtain ⟨k, hk, rfl, rfl, hb⟩ := hrel
    by_cases hlt : k < n
    · go_wp2
      go_loopw [5, 7] (fun v j ws => v = .slice none 0 0 ∧ j = .int .i64 0 ∧ Below w.heap.size w ws) (fun _ _ _ => 0)
      case atStart => exact ⟨rfl, rfl, hb⟩
      case round =>
        clear hb
        obtain ⟨rfl, rfl, hb⟩ := hrel
        go_wp2
        go_roundw
        case rel => exact ⟨k + 1, by omega, rfl, by go_num, hb⟩
        case measure => simp [intOf]; omega
    · go_wp2
      go_ret
      exact ⟨rfl, hb⟩

theorem prodTo_nil (a : List (Int × Int)) : ∀ i, prodTo a [] i = []
  | 0 => rfl
  | i + 1 => by simp only [prodTo, rowTo, List.length_nil]; exact prodTo_nil a i

theorem prod_poly (v1 v2 : Value) (l1 l2 : List (Int × Int)) (w : World) (hm1 : mayB l1 = true) (hm2 : mayB l2 = true) (hP1 : Poly w w.heap.size v1 l1) (hP2 : Poly w w.heap.size v2 l2) :
    Calls Try.prog 25 #[v1, v2] w fun e w' => ∃ v, e = .returned v ∧ Poly w' w'.heap.size v (prodTo l1 l2 l1.length) ∧ Below w.heap.size w w' := by
  obtain ⟨a1, cap1, rfl, hp1⟩ := hP1.slice
  obtain ⟨a2, cap2, rfl, hp2⟩ := hP2.slice
  rcases Nat.eq_zero_or_pos l1.length with h1 | h1
  · have e0 : l1 = [] := List.length_eq_zero_iff.1 h1
    subst e0
    exact (prod_none1 a1 cap1 _ w).mono fun e w' ⟨h1, h2⟩ => ⟨_, h1, Or.inl ⟨rfl, rfl⟩, h2⟩
  · rcases Nat.eq_zero_or_pos l2.length with h2 | h2
    · have e0 : l2 = [] := List.length_eq_zero_iff.1 h2
      subst e0
      exact (prod_none2 a1 a2 l1.length cap1 cap2 w ((may_iff l1).1 hm1).1).mono fun e w' ⟨h1, h2⟩ => ⟨_, h1, Or.inl ⟨rfl, prodTo_nil l1 _⟩, h2⟩
    · obtain ⟨b1, off1, rfl, hlt1, hT1⟩ := hp1 h1
      obtain ⟨b2, off2, rfl, hlt2, hT2⟩ := hp2 h2
      exact (prod_some b1 off1 cap1 b2 off2 cap2 l1 l2 w hm1 hm2 hlt1 hT1 hlt2 hT2).mono fun e w' ⟨v, h1, h2, h3⟩ => ⟨v, h1, h2.1, h3⟩

/-- Any two lists in form for one function: sameTerms says yes. -/
theorem same_canon (v1 v2 : Value) (l1 l2 : List (Int × Int)) (f : Int → Int) (w : World) (hl : l1.length ≤ maxLen) (h1 : Poly w w.heap.size v1 l1) (h2 : Poly w w.heap.size v2 l2) (c1 : Canon l1 f) (c2 : Canon l2 f) :
    Calls Try.prog 23 #[v1, v2] w fun e w' => e = .returned (.bool true) ∧ Below w.heap.size w w' := by
  obtain rfl := canon_unique c1 c2
  refine (same_poly v1 v2 l1 l1 w hl h1 h2).mono ?_
  rintro e w' ⟨rfl, hb⟩
  exact ⟨ret_bool (by simp), hb⟩

set_option maxHeartbeats 2000000 in
set_option maxRecDepth 100000 in
theorem sums_no (v1 v2 : Value) (l1 l2 : List (Int × Int)) (w : World) (hl1 : l1.length * 16 ≤ 140737488355328) (hl2 : l2.length * 16 ≤ 140737488355328) (hm : mayB l1 = false ∨ mayB l2 = false) (hP1 : Poly w w.heap.size v1 l1) (hP2 : Poly w w.heap.size v2 l2) :
    Calls Try.prog 3 #[v1, v2] w fun e w' => e = .returned (.bool true) ∧ Below w.heap.size w w' := by
  have HP1 : Hid (Poly w w.heap.size v1 l1) := hP1
  have HP2 : Hid (Poly w w.heap.size v2 l2) := hP2
  have HL1 : Hid (l1.length * 16 ≤ 140737488355328) := hl1
  have HL2 : Hid (l2.length * 16 ≤ 140737488355328) := hl2
  have HM1 : Hid (l1.length ≤ maxLen) := by show _ ≤ _; unfold maxLen; omega
  have HM2 : Hid (l2.length ≤ maxLen) := by show _ ≤ _; unfold maxLen; omega
  have HM : Hid (mayB l1 = false ∨ mayB l2 = false) := hm
  clear hP1 hP2 hl1 hl2 hm
  go_enter Try.func3, Try.ntmps3
  go_wp2_with (go_at_call 20; refine (terms_poly _ l1 _ HL1.out HP1.out).mono ?_; rintro r w1 ⟨u1, rfl, hQ1, hb1⟩; refine Hid.out ?_)
  refine Lib.hid ?_
  have hR2 : Hid (Poly w1 w1.heap.size v2 l2) := HP2.out.up hb1
  go_wp2_with (go_at_call 20; refine (terms_poly _ l2 _ HL2.out hR2.out).mono ?_; rintro r w2 ⟨u2, rfl, hQ2, hb2⟩; refine Hid.out ?_)
  refine Lib.hid ?_
  have hQ1' : Hid (Poly w2 w2.heap.size u1 l1) := hQ1.up hb2
  go_wp2_with (go_at_call 19; refine (add_no _ _ l1 l2 _ HM1.out HM2.out HM.out hQ1'.out hQ2).mono ?_; rintro r w3 ⟨rfl, hb3⟩; refine Hid.out ?_)
  refine Lib.hid ?_
  have hB2 := hb1.trans (hb2.mono hb1.size)
  have hB3 := hB2.trans (hb3.mono hB2.size)
  have hR1 : Hid (Poly w3 w3.heap.size v1 l1) := HP1.out.up hB3
  go_wp2_with (go_at_call 20; refine (terms_poly _ l1 _ HL1.out hR1.out).mono ?_; rintro r w4 ⟨u4, rfl, hQ4, hb4⟩; refine Hid.out ?_)
  refine Lib.hid ?_
  have hB4 := hB3.trans (hb4.mono hB3.size)
  have hR4 : Hid (Poly w4 w4.heap.size v2 l2) := HP2.out.up hB4
  go_wp2_with (go_at_call 20; refine (terms_poly _ l2 _ HL2.out hR4.out).mono ?_; rintro r w5 ⟨u5, rfl, hQ5, hb5⟩; refine Hid.out ?_)
  refine Lib.hid ?_
  have hQ4' : Hid (Poly w5 w5.heap.size u4 l1) := hQ4.up hb5
  go_wp2_with (go_at_call 21; refine (mul_no _ _ l1 l2 _ HM1.out HM2.out HM.out hQ4'.out hQ5).mono ?_; rintro r w6 ⟨rfl, hb6⟩; refine Hid.out ?_)
  refine Lib.hid ?_
  have hB5 := hB4.trans (hb5.mono hB4.size)
  have hB6 := hB5.trans (hb6.mono hB5.size)
  have hR6 : Hid (Poly w6 w6.heap.size v1 l1) := HP1.out.up hB6
  cases hm1 : mayB l1
  · have HN : Hid (mayB l1 = false) := hm1
    clear hm1
    go_wp2_with (go_at_call 22; refine (polyMay_poly _ l1 _ HM1.out hR6.out).mono ?_; rw [HN.out]; rintro r w7 ⟨rfl, hb7⟩)
    go_ret
    exact ⟨rfl, hB6.trans (hb7.mono hB6.size)⟩
  · have HN : Hid (mayB l1 = true) := hm1
    have HN2 : Hid (mayB l2 = false) := by
      rcases HM.out with h | h
      · rw [hm1] at h; cases h
      · exact h
    clear hm1
    go_wp2_with (go_at_call 22; refine (polyMay_poly _ l1 _ HM1.out hR6.out).mono ?_; rw [HN.out]; rintro r w7 ⟨rfl, hb7⟩; refine Hid.out ?_)
    refine Lib.hid ?_
    have hB7 := hB6.trans (hb7.mono hB6.size)
    have hR7 : Hid (Poly w7 w7.heap.size v2 l2) := HP2.out.up hB7
    go_wp2_with (go_at_call 22; refine (polyMay_poly _ l2 _ HM2.out hR7.out).mono ?_; rw [HN2.out]; rintro r w8 ⟨rfl, hb8⟩)
    go_ret
    exact ⟨rfl, hB7.trans (hb8.mono hB7.size)⟩

set_option maxHeartbeats 2000000 in
set_option maxRecDepth 100000 in
theorem sums_yes (v1 v2 : Value) (l1 l2 : List (Int × Int)) (w : World) (hm1 : mayB l1 = true) (hm2 : mayB l2 = true) (hP1 : PolyC w w.heap.size v1 l1) (hP2 : PolyC w w.heap.size v2 l2) :
    Calls Try.prog 3 #[v1, v2] w fun e w' => e = .returned (.bool true) ∧ Below w.heap.size w w' := by
  have h164 := ((may_iff l1).1 hm1).1
  have h264 := ((may_iff l2).1 hm2).1
  have HC1 : Hid (PolyC w w.heap.size v1 l1) := hP1
  have HC2 : Hid (PolyC w w.heap.size v2 l2) := hP2
  have HP1 : Hid (Poly w w.heap.size v1 l1) := hP1.1
  have HP2 : Hid (Poly w w.heap.size v2 l2) := hP2.1
  have HL1 : Hid (l1.length * 16 ≤ 140737488355328) := by show _ ≤ _; omega
  have HL2 : Hid (l2.length * 16 ≤ 140737488355328) := by show _ ≤ _; omega
  have HK1 : Hid (l1.length ≤ maxLen) := by show _ ≤ _; unfold maxLen; omega
  have HK2 : Hid (l2.length ≤ maxLen) := by show _ ≤ _; unfold maxLen; omega
  have HM1 : Hid (mayB l1 = true) := hm1
  have HM2 : Hid (mayB l2 = true) := hm2
  have HS : Hid (Canon (sumTo l1 l2 1 l2.length) (fun x => coefL l1 x + coefL l2 x)) :=
    canon_congr (sumTo_canon (canon_self (may_rising hm1) (may_nonzero hm1)) 1 l2.length (Nat.le_refl _)) fun x => by rw [List.take_of_length_le (Nat.le_refl _), Int.one_mul]
  have HR : Hid (Canon (prodTo l1 l2 l1.length) (fun y => prodL l1 (coefL l2) y)) :=
    canon_congr (prodTo_canon l1 l2 l1.length (Nat.le_refl _)) fun x => by rw [List.take_of_length_le (Nat.le_refl _)]
  clear hP1 hP2 hm1 hm2
  go_enter Try.func3, Try.ntmps3
  go_wp2_with (go_at_call 20; refine (terms_poly _ l1 _ HL1.out HP1.out).mono ?_; rintro r w1 ⟨u1, rfl, hQ1, hb1⟩; refine Hid.out ?_)
  refine Lib.hid ?_
  have hR2 : Hid (Poly w1 w1.heap.size v2 l2) := HP2.out.up hb1
  go_wp2_with (go_at_call 20; refine (terms_poly _ l2 _ HL2.out hR2.out).mono ?_; rintro r w2 ⟨u2, rfl, hQ2, hb2⟩; refine Hid.out ?_)
  refine Lib.hid ?_
  have hQ1' : Hid (Poly w2 w2.heap.size u1 l1) := hQ1.up hb2
  go_wp2_with (go_at_call 19; refine (add_yes _ _ l1 l2 _ HM1.out HM2.out hQ1'.out hQ2).mono ?_; rintro r w3 ⟨s, rs, rfl, hrs, hcs, hls, hb3⟩; refine Hid.out ?_)
  refine Lib.hid ?_
  have hB2 := hb1.trans (hb2.mono hb1.size)
  have hB3 := hB2.trans (hb3.mono hB2.size)
  have hPs3 : Hid (Poly w3 w3.heap.size s rs) := Poly.ofRow hrs
  have hR1 : Hid (Poly w3 w3.heap.size v1 l1) := HP1.out.up hB3
  have HCS : Hid (Canon rs (fun x => coefL l1 x + coefL l2 x)) := hcs
  clear hrs hcs
  go_wp2_with (go_at_call 20; refine (terms_poly _ l1 _ HL1.out hR1.out).mono ?_; rintro r w4 ⟨u4, rfl, hQ4, hb4⟩; refine Hid.out ?_)
  refine Lib.hid ?_
  have hB4 := hB3.trans (hb4.mono hB3.size)
  have hR4 : Hid (Poly w4 w4.heap.size v2 l2) := HP2.out.up hB4
  go_wp2_with (go_at_call 20; refine (terms_poly _ l2 _ HL2.out hR4.out).mono ?_; rintro r w5 ⟨u5, rfl, hQ5, hb5⟩; refine Hid.out ?_)
  refine Lib.hid ?_
  have hQ4' : Hid (Poly w5 w5.heap.size u4 l1) := hQ4.up hb5
  go_wp2_with (go_at_call 21; refine (mul_yes _ _ l1 l2 _ HM1.out HM2.out hQ4'.out hQ5).mono ?_; rintro r w6 ⟨p, rp, rfl, hrp, hcp, hlp, hb6⟩; refine Hid.out ?_)
  refine Lib.hid ?_
  have hB36 := (hb4.trans (hb5.mono hb4.size)).trans (hb6.mono (Nat.le_trans hb4.size hb5.size))
  have hB6 := hB3.trans (hB36.mono hB3.size)
  have hPs6 : Hid (Poly w6 w6.heap.size s rs) := Poly.up hPs3.out hB36
  have hPp6 : Hid (Poly w6 w6.heap.size p rp) := Poly.ofRow hrp
  have hR6 : Hid (Poly w6 w6.heap.size v1 l1) := HP1.out.up hB6
  have HCP : Hid (Canon rp (fun y => prodL l1 (coefL l2) y)) := hcp
  clear hrp hcp
  go_wp2_with (go_at_call 22; refine (polyMay_poly _ l1 _ HK1.out hR6.out).mono ?_; rw [HM1.out]; rintro r w7 ⟨rfl, hb7⟩; refine Hid.out ?_)
  refine Lib.hid ?_
  have hB7 := hB6.trans (hb7.mono hB6.size)
  have hR7 : Hid (Poly w7 w7.heap.size v2 l2) := HP2.out.up hB7
  go_wp2_with (go_at_call 22; refine (polyMay_poly _ l2 _ HK2.out hR7.out).mono ?_; rw [HM2.out]; rintro r w8 ⟨rfl, hb8⟩; refine Hid.out ?_)
  refine Lib.hid ?_
  have hB68 := hb7.trans (hb8.mono hb7.size)
  have hB8 := hB6.trans (hB68.mono hB6.size)
  have hX1 : Hid (PolyC w8 w8.heap.size v1 l1) := HC1.out.up hB8
  have hX2 : Hid (PolyC w8 w8.heap.size v2 l2) := HC2.out.up hB8
  go_wp2_with (go_at_call 24; refine (sum_poly _ _ l1 l2 _ HM1.out HM2.out hX1.out hX2.out).mono ?_; rintro r w9 ⟨t, rfl, hPt, hb9⟩; refine Hid.out ?_)
  refine Lib.hid ?_
  have hB69 := hB68.trans (hb9.mono hB68.size)
  have hPs9 : Hid (Poly w9 w9.heap.size s rs) := Poly.up hPs6.out hB69
  have hPt9 : Hid (Poly w9 w9.heap.size t (sumTo l1 l2 1 l2.length)) := hPt.1
  clear hPt
  go_wp2_with (go_at_call 23; refine (same_canon _ _ rs (sumTo l1 l2 1 l2.length) _ _ (by unfold maxLen; omega) hPs9.out hPt9.out HCS.out HS.out).mono ?_; rintro r w10 ⟨rfl, hb10⟩; refine Hid.out ?_)
  refine Lib.hid ?_
  have hB610 := hB69.trans (hb10.mono hB69.size)
  have hB10 := hB6.trans (hB610.mono hB6.size)
  have hY1 : Hid (Poly w10 w10.heap.size v1 l1) := HP1.out.up hB10
  have hY2 : Hid (Poly w10 w10.heap.size v2 l2) := HP2.out.up hB10
  go_wp2_with (go_at_call 25; refine (prod_poly _ _ l1 l2 _ HM1.out HM2.out hY1.out hY2.out).mono ?_; rintro r w11 ⟨q, rfl, hPq, hb11⟩; refine Hid.out ?_)
  refine Lib.hid ?_
  have hB611 := hB610.trans (hb11.mono hB610.size)
  have hB11 := hB6.trans (hB611.mono hB6.size)
  have hPp11 : Hid (Poly w11 w11.heap.size p rp) := Poly.up hPp6.out hB611
  have hPq11 : Hid (Poly w11 w11.heap.size q (prodTo l1 l2 l1.length)) := hPq
  clear hPq
  go_wp2_with (go_at_call 23; refine (same_canon _ _ rp (prodTo l1 l2 l1.length) _ _ (by unfold maxLen; omega) hPp11.out hPq11.out HCP.out HR.out).mono ?_; rintro r w12 ⟨rfl, hb12⟩)
  go_ret
  exact ⟨rfl, hB11.trans (hb12.mono hB11.size)⟩
end Go.Proofs.Ytnhllpaoplfgpaa.Poly
/- The law AlexTables: its walk, the rings of FaceRings being given. -/
namespace Go.Proofs.Ytnhllpaoplfgpaa
open Go.RowKit

theorem addOk : AddOk := fun v1 v2 l1 l2 w h1 h2 h3 h4 => Poly.add_yes v1 v2 l1 l2 w h1 h2 h3 h4
theorem sl_Crs {w : World} {B : Nat} {v : Value} {C : List Cr} (h : Crs w B v C) : ∃ a c, v = .slice a C.length c := by
  obtain ⟨a, c, e, _⟩ := h
  exact ⟨a, c, e⟩
theorem sl_CrsW {w : World} {B : Nat} {v : Value} {C : List Cr} (h : CrsW w B v C) : ∃ a c, v = .slice a C.length c := by
  rcases h with ⟨rfl, rfl⟩ | ⟨ad, cap, rfl, rfl⟩ | ⟨b, off, cap, rfl, -, -⟩
  · exact ⟨_, _, rfl⟩
  · exact ⟨_, _, rfl⟩
  · exact ⟨_, _, rfl⟩
def fewN (C : List Cr) (loops : Int) : Int := if noN C loops = 0 ∧ 10 < C.length then 2 else noN C loops
set_option maxHeartbeats 4000000 in
set_option maxRecDepth 100000 in
/-- What few says. -/
theorem few_any (a : Option Addr) (cap : Nat) (C : List Cr) (loops : Int) (w : World) (h : Crs w w.heap.size (.slice a C.length cap) C) :
    Calls Try.prog 68 #[.agg #[.slice a C.length cap, .int .i64 loops], .int .i64 10] w fun e w' => e = .returned (.int .i64 (fewN C loops)) ∧ Below w.heap.size w w' := by
  have HC : Hid (Crs w w.heap.size (.slice a C.length cap) C) := h
  obtain ⟨w0, hw0⟩ : ∃ w0, w0 = w.alloc (.cells #[.slice a C.length cap, .int .i64 loops] 44) := ⟨_, rfl⟩
  have HW0 : Hid (w0 = w.alloc (.cells #[.slice a C.length cap, .int .i64 loops] 44)) := hw0
  have HB0 : Hid (Below w.heap.size w w0) := (by rw [hw0]; exact (Below.refl _ _).alloc (Nat.le_refl _) _ : Below w.heap.size w w0)
  have HT0 : Hid (w0.heap[w.heap.size]? = some (.cells #[.slice a C.length cap, .int .i64 loops] 44 (0, 0))) := (by rw [hw0]; exact alloc_at rfl : w0.heap[w.heap.size]? = some (.cells #[.slice a C.length cap, .int .i64 loops] 44 (0, 0)))
  clear hw0 h
  go_enter Try.func68, Try.ntmps68
  go_wp2_with (go_at_call 65; rw [← HW0.out]; refine (planarMay_any _ C loops _ (HC.out.up HB0.out)).mono ?_; rintro e9 w3 ⟨rfl, hb3⟩; refine Hid.out ?_)
  refine Lib.hid ?_
  have HB3 : Hid (Below w.heap.size w w3) := HB0.out.trans (hb3.mono HB0.out.size)
  have q := (hb3.block _ (Array.getElem?_eq_some_iff.1 HT0.out).1).trans HT0.out
  have t0 : w3.cell? ⟨w.heap.size, 0, none⟩ = some (.slice a C.length cap) := block_cell q rfl
  have t1 : w3.cell? ⟨w.heap.size, 1, none⟩ = some (.int .i64 loops) := block_cell q rfl
  clear hb3 q
  have HFE : Hid (fewN C loops = if noN C loops = 0 ∧ 10 < C.length then 2 else noN C loops) := (rfl : fewN C loops = if noN C loops = 0 ∧ 10 < C.length then 2 else noN C loops)
  generalize noN C loops = r at *
  by_cases hr : r = 0
  · subst hr
    by_cases hz : 10 < C.length
    · have hz1 : decide ((10 : Int) < (C.length : Int)) = true := by simp; omega
      have HE : Hid (fewN C loops = 2) := HFE.out.trans (if_pos ⟨rfl, hz⟩)
      go_wp2
      go_ret
      exact ⟨by rw [HE.out]; rfl, HB3.out⟩
    · have hz1 : decide ((10 : Int) < (C.length : Int)) = false := by simp; omega
      have HE : Hid (fewN C loops = 0) := HFE.out.trans (if_neg (fun q => hz q.2))
      go_wp2
      go_ret
      exact ⟨by rw [HE.out]; rfl, HB3.out⟩
  · have hr0 : (r == 0) = false := beq_eq_false_iff_ne.2 hr
    have HE : Hid (fewN C loops = r) := HFE.out.trans (if_neg (fun q => hr q.1))
    go_wp2
    go_ret
    exact ⟨by rw [HE.out]; rfl, HB3.out⟩

set_option maxHeartbeats 4000000 in
set_option maxRecDepth 100000 in
theorem alexTables_no (hFR : FaceRingsOk) (v : Value) (C : List Cr) (loops : Int) (w : World) (hl : C.length * 40 ≤ 140737488355328) (h : CrsW w w.heap.size v C) (hn : noN C loops ≠ 0) :
    Calls Try.prog 17 #[.agg #[v, .int .i64 loops]] w fun e w' => e = .returned (.bool true) ∧ Below w.heap.size w w' := by
  have HFA : Hid FaceRingsOk := hFR
  have HL : Hid (C.length * 40 ≤ 140737488355328) := hl
  have HN : Hid (noN C loops ≠ 0) := hn
  have HFW0 : Hid (fewN C loops = noN C loops) := (if_neg (fun q => hn q.1) : fewN C loops = noN C loops)
  obtain ⟨r, hr⟩ : ∃ r, noN C loops = r := ⟨_, rfl⟩
  have HR : Hid (noN C loops = r) := hr
  have HFW : Hid (fewN C loops = r) := HFW0.out.trans hr
  rw [hr] at hn
  have hr0 : (r == 0) = false := beq_eq_false_iff_ne.2 hn
  have hrr : (r == r) = true := beq_self_eq_true r
  clear hr
  obtain ⟨a, cap, rfl⟩ := sl_CrsW h
  obtain ⟨w0, hw0⟩ : ∃ w0, w0 = w.alloc (.cells #[.slice a C.length cap, .int .i64 loops] 44) := ⟨_, rfl⟩
  have HW0 : Hid (w0 = w.alloc (.cells #[.slice a C.length cap, .int .i64 loops] 44)) := hw0
  have hs0 : w0.heap.size = w.heap.size + 1 := by rw [hw0]; simp
  have HB0 : Hid (Below w.heap.size w w0) := (by rw [hw0]; exact (Below.refl _ _).alloc (Nat.le_refl _) _ : Below w.heap.size w w0)
  have HT0 : Hid (w0.heap[w.heap.size]? = some (.cells #[.slice a C.length cap, .int .i64 loops] 44 (0, 0))) := (by rw [hw0]; exact alloc_at rfl : w0.heap[w.heap.size]? = some (.cells #[.slice a C.length cap, .int .i64 loops] 44 (0, 0)))
  have HCW : Hid (∀ w', Below w0.heap.size w0 w' → CrsW w' w'.heap.size (.slice a C.length cap) C) := fun w' hb => (h.up HB0.out).up hb
  have HCC : Hid (∀ w', Below w0.heap.size w0 w' → Crs w' w'.heap.size (.slice a C.length cap) C) := fun w' hb => (HCW.out w' hb).crs (by have := HL.out; unfold maxLen; omega)
  have HF : Hid (∀ w', Below w0.heap.size w0 w' → w'.cell? ⟨w.heap.size, 0, none⟩ = some (.slice a C.length cap) ∧ w'.cell? ⟨w.heap.size, 1, none⟩ = some (.int .i64 loops) ∧ w.heap.size < w'.heap.size) := fun w' hw' => by
    have g0 := (hw'.block _ (by omega)).trans HT0.out
    exact ⟨block_cell g0 rfl, block_cell g0 rfl, (Array.getElem?_eq_some_iff.1 g0).1⟩
  clear hw0 h hl hFR
  go_enter Try.func17, Try.ntmps17
  go_wp2_with (go_at_call 44; rw [← HW0.out]; refine (diagramOf_any _ C loops _ HL.out (HCW.out _ (Below.refl _ _))).mono ?_; rintro e9 w1 ⟨v1, rfl, hc1, hb1⟩; refine Hid.out ?_)
  refine Lib.hid ?_
  obtain ⟨a1, c1, rfl⟩ := sl_Crs hc1
  have HB1 : Hid (Below w0.heap.size w0 w1) := hb1
  have HC1 : Hid (Crs w1 w1.heap.size (.slice a1 C.length c1) C) := hc1
  clear hb1 hc1
  go_wp2_with (go_at_call 67; refine (table_no HFA.out _ C loops _ HN.out HC1.out).mono ?_; rw [HR.out]; rintro e9 w2 ⟨rfl, hb2⟩; refine Hid.out ?_)
  refine Lib.hid ?_
  have HB2 : Hid (Below w0.heap.size w0 w2) := HB1.out.trans (hb2.mono HB1.out.size)
  clear hb2
  obtain ⟨p0, p1, p2⟩ := HF.out w2 HB2.out
  go_wp2_with (go_at_call 68; refine (few_any a cap C loops _ (HCC.out _ HB2.out)).mono ?_; rw [HFW.out]; rintro e9 w3 ⟨rfl, hb3⟩; refine Hid.out ?_)
  refine Lib.hid ?_
  have HB3 : Hid (Below w0.heap.size w0 w3) := HB2.out.trans (hb3.mono HB2.out.size)
  clear hb3 p0 p1 p2
  go_wp2
  go_ret
  exact ⟨by first | rfl | simp, HB0.out.trans (HB3.out.mono HB0.out.size)⟩

set_option maxHeartbeats 4000000 in
set_option maxRecDepth 100000 in
theorem alexTables_size (hFR : FaceRingsOk) (v : Value) (C : List Cr) (loops : Int) (w : World) (hl : C.length * 40 ≤ 140737488355328) (h : CrsW w w.heap.size v C) (hn : noN C loops = 0) (h10 : 10 < C.length) :
    Calls Try.prog 17 #[.agg #[v, .int .i64 loops]] w fun e w' => e = .returned (.bool true) ∧ Below w.heap.size w w' := by
  have HFA : Hid FaceRingsOk := hFR
  have HL : Hid (C.length * 40 ≤ 140737488355328) := hl
  have HN : Hid (noN C loops = 0) := hn
  have HFW : Hid (fewN C loops = 2) := (if_pos ⟨hn, h10⟩ : fewN C loops = 2)
  clear hn
  obtain ⟨a, cap, rfl⟩ := sl_CrsW h
  obtain ⟨w0, hw0⟩ : ∃ w0, w0 = w.alloc (.cells #[.slice a C.length cap, .int .i64 loops] 44) := ⟨_, rfl⟩
  have HW0 : Hid (w0 = w.alloc (.cells #[.slice a C.length cap, .int .i64 loops] 44)) := hw0
  have hs0 : w0.heap.size = w.heap.size + 1 := by rw [hw0]; simp
  have HB0 : Hid (Below w.heap.size w w0) := (by rw [hw0]; exact (Below.refl _ _).alloc (Nat.le_refl _) _ : Below w.heap.size w w0)
  have HT0 : Hid (w0.heap[w.heap.size]? = some (.cells #[.slice a C.length cap, .int .i64 loops] 44 (0, 0))) := (by rw [hw0]; exact alloc_at rfl : w0.heap[w.heap.size]? = some (.cells #[.slice a C.length cap, .int .i64 loops] 44 (0, 0)))
  have HCW : Hid (∀ w', Below w0.heap.size w0 w' → CrsW w' w'.heap.size (.slice a C.length cap) C) := fun w' hb => (h.up HB0.out).up hb
  have HCC : Hid (∀ w', Below w0.heap.size w0 w' → Crs w' w'.heap.size (.slice a C.length cap) C) := fun w' hb => (HCW.out w' hb).crs (by have := HL.out; unfold maxLen; omega)
  have HF : Hid (∀ w', Below w0.heap.size w0 w' → w'.cell? ⟨w.heap.size, 0, none⟩ = some (.slice a C.length cap) ∧ w'.cell? ⟨w.heap.size, 1, none⟩ = some (.int .i64 loops) ∧ w.heap.size < w'.heap.size) := fun w' hw' => by
    have g0 := (hw'.block _ (by omega)).trans HT0.out
    exact ⟨block_cell g0 rfl, block_cell g0 rfl, (Array.getElem?_eq_some_iff.1 g0).1⟩
  clear hw0 h hl hFR
  go_enter Try.func17, Try.ntmps17
  go_wp2_with (go_at_call 44; rw [← HW0.out]; refine (diagramOf_any _ C loops _ HL.out (HCW.out _ (Below.refl _ _))).mono ?_; rintro e9 w1 ⟨v1, rfl, hc1, hb1⟩; refine Hid.out ?_)
  refine Lib.hid ?_
  obtain ⟨a1, c1, rfl⟩ := sl_Crs hc1
  have HB1 : Hid (Below w0.heap.size w0 w1) := hb1
  have HC1 : Hid (Crs w1 w1.heap.size (.slice a1 C.length c1) C) := hc1
  clear hb1 hc1
  go_wp2_with (go_at_call 67; refine (table_size HFA.out _ C loops _ HN.out h10 HC1.out).mono ?_; rintro e9 w2 ⟨rfl, hb2⟩; refine Hid.out ?_)
  refine Lib.hid ?_
  have HB2 : Hid (Below w0.heap.size w0 w2) := HB1.out.trans (hb2.mono HB1.out.size)
  clear hb2
  obtain ⟨p0, p1, p2⟩ := HF.out w2 HB2.out
  go_wp2_with (go_at_call 68; refine (few_any a cap C loops _ (HCC.out _ HB2.out)).mono ?_; rw [HFW.out]; rintro e9 w3 ⟨rfl, hb3⟩; refine Hid.out ?_)
  refine Lib.hid ?_
  have HB3 : Hid (Below w0.heap.size w0 w3) := HB2.out.trans (hb3.mono HB2.out.size)
  clear hb3 p0 p1 p2
  go_wp2
  go_ret
  exact ⟨by first | rfl | simp, HB0.out.trans (HB3.out.mono HB0.out.size)⟩

set_option maxHeartbeats 4000000 in
set_option maxRecDepth 100000 in
theorem alexTables_yes (hFR : FaceRingsOk) (v : Value) (C : List Cr) (loops : Int) (w : World) (hl : C.length * 40 ≤ 140737488355328) (h : CrsW w w.heap.size v C) (hn : noN C loops = 0) (h10 : C.length ≤ 10) :
    Calls Try.prog 17 #[.agg #[v, .int .i64 loops]] w fun e w' => e = .returned (.bool true) ∧ Below w.heap.size w w' := by
  have HFA : Hid FaceRingsOk := hFR
  have HL : Hid (C.length * 40 ≤ 140737488355328) := hl
  have HN : Hid (noN C loops = 0) := hn
  have HM : Hid (mayD C loops = true) := (noN_zero hn).1
  have HFW : Hid (fewN C loops = 0) := ((if_neg (fun q => by have := q.2; omega)).trans hn : fewN C loops = 0)
  clear hn
  obtain ⟨a, cap, rfl⟩ := sl_CrsW h
  obtain ⟨w0, hw0⟩ : ∃ w0, w0 = w.alloc (.cells #[.slice a C.length cap, .int .i64 loops] 44) := ⟨_, rfl⟩
  have HW0 : Hid (w0 = w.alloc (.cells #[.slice a C.length cap, .int .i64 loops] 44)) := hw0
  have hs0 : w0.heap.size = w.heap.size + 1 := by rw [hw0]; simp
  have HB0 : Hid (Below w.heap.size w w0) := (by rw [hw0]; exact (Below.refl _ _).alloc (Nat.le_refl _) _ : Below w.heap.size w w0)
  have HT0 : Hid (w0.heap[w.heap.size]? = some (.cells #[.slice a C.length cap, .int .i64 loops] 44 (0, 0))) := (by rw [hw0]; exact alloc_at rfl : w0.heap[w.heap.size]? = some (.cells #[.slice a C.length cap, .int .i64 loops] 44 (0, 0)))
  have HCW : Hid (∀ w', Below w0.heap.size w0 w' → CrsW w' w'.heap.size (.slice a C.length cap) C) := fun w' hb => (h.up HB0.out).up hb
  have HCC : Hid (∀ w', Below w0.heap.size w0 w' → Crs w' w'.heap.size (.slice a C.length cap) C) := fun w' hb => (HCW.out w' hb).crs (by have := HL.out; unfold maxLen; omega)
  have HF : Hid (∀ w', Below w0.heap.size w0 w' → w'.cell? ⟨w.heap.size, 0, none⟩ = some (.slice a C.length cap) ∧ w'.cell? ⟨w.heap.size, 1, none⟩ = some (.int .i64 loops) ∧ w.heap.size < w'.heap.size) := fun w' hw' => by
    have g0 := (hw'.block _ (by omega)).trans HT0.out
    exact ⟨block_cell g0 rfl, block_cell g0 rfl, (Array.getElem?_eq_some_iff.1 g0).1⟩
  clear hw0 h hl hFR
  go_enter Try.func17, Try.ntmps17
  go_wp2_with (go_at_call 44; rw [← HW0.out]; refine (diagramOf_any _ C loops _ HL.out (HCW.out _ (Below.refl _ _))).mono ?_; rintro e9 w1 ⟨v1, rfl, hc1, hb1⟩; refine Hid.out ?_)
  refine Lib.hid ?_
  obtain ⟨a1, c1, rfl⟩ := sl_Crs hc1
  have HB1 : Hid (Below w0.heap.size w0 w1) := hb1
  have HC1 : Hid (Crs w1 w1.heap.size (.slice a1 C.length c1) C) := hc1
  clear hb1 hc1
  go_wp2_with (go_at_call 67; refine (table_yes HFA.out addOk _ C loops _ HN.out h10 HC1.out).mono ?_; rintro e9 w2 ⟨gt, rfl, hT, hb2⟩; refine Hid.out ?_)
  refine Lib.hid ?_
  have HB2 : Hid (Below w0.heap.size w0 w2) := HB1.out.trans (hb2.mono HB1.out.size)
  obtain ⟨gs, vals, hT2⟩ := hT
  have HT2 : Hid (TblAt w1.heap.size C.length (ovC C) gt C.length gs vals (alF C) w2) := hT2
  clear hb2 hT2
  obtain ⟨p0, p1, p2⟩ := HF.out w2 HB2.out
  go_wp2_with (go_at_call 68; refine (few_any a cap C loops _ (HCC.out _ HB2.out)).mono ?_; rw [HFW.out]; rintro e9 w3 ⟨rfl, hb3⟩; refine Hid.out ?_)
  refine Lib.hid ?_
  have HB3 : Hid (Below w0.heap.size w0 w3) := HB2.out.trans (hb3.mono HB2.out.size)
  have HT3 : Hid (TblAt w1.heap.size C.length (ovC C) gt C.length gs vals (alF C) w3) := HT2.out.any (grown_below hb3 none)
  clear hb3 p0 p1 p2
  obtain ⟨p0, p1, p2⟩ := HF.out w3 HB3.out
  go_wp2_with (go_at_call 69; refine (tableOf_any a cap C loops _ HM.out h10 (HCC.out _ HB3.out)).mono ?_; rintro e9 w4 ⟨v4, rfl, hU, hb4⟩; refine Hid.out ?_)
  refine Lib.hid ?_
  have HB4 : Hid (Below w0.heap.size w0 w4) := HB3.out.trans (hb4.mono HB3.out.size)
  have HT4 : Hid (TblAt w1.heap.size C.length (ovC C) gt C.length gs vals (alF C) w4) := HT3.out.any (grown_below hb4 none)
  obtain ⟨gu, valu, hU4⟩ := hU
  obtain ⟨a4, c4, rfl⟩ := own_capS hU4.outer
  have HU4 : Hid (TbP w3.heap.size (ovC C) C.length (.slice a4 C.length c4) gu valu (alF C) w4) := hU4
  clear hb4 hU4 p0 p1 p2
  have hoc : ovC C ≤ 21 := Nat.le_trans (rootsN_le _ _) (by omega)
  obtain ⟨m, hmm⟩ : ∃ m, ovC C = m := ⟨_, rfl⟩
  rw [hmm] at HT4 HU4 hoc
  clear hmm
  have HGT : Hid (∀ W, Below w4.heap.size w4 W → ∀ i, i < C.length → W.cell? ⟨gt, i, none⟩ = some (.slice (some ⟨gs i, 0, none⟩) m m) ∧ ∃ g4, a4 = some ⟨g4, 0, none⟩ ∧ W.cell? ⟨g4, i, none⟩ = some (.slice (some ⟨gu i, 0, none⟩) m m)) := fun W hW i hi => by
    have ht := own_any HT4.out.outer (grown_below hW none)
    have hu := own_any HU4.out.outer (grown_below hW none)
    refine ⟨by rw [ht.cellAt i (by omega), valsL_get _ _ _ hi, if_pos hi], ?_⟩
    rcases hu.2 with ⟨_, hz⟩ | ⟨g, cp, cur, e, _⟩
    · omega
    · injection e with e1 e2 e3
      rw [e1] at hu
      exact ⟨g, e1, by rw [hu.cellAt i (by omega), valsL_get _ _ _ hi]⟩
  have HIK : Hid (∀ i k, i < C.length → k < m → ∃ a l c a' l' c', ∀ W, Below w4.heap.size w4 W → W.cell? ⟨gs i, k, none⟩ = some (.slice a l c) ∧ W.cell? ⟨gu i, k, none⟩ = some (.slice a' l' c') ∧ Calls Try.prog 23 #[.slice a l c, .slice a' l' c'] W fun e w' => e = .returned (.bool true) ∧ Below W.heap.size W w') := fun i k hi hk => by
    have h1 := HT4.out.each i hi
    have h2 := HU4.out.each i hi
    obtain ⟨av, cv, ev⟩ := own_capS (h1.each k hk)
    obtain ⟨au, cu, eu⟩ := own_capS (h2.each k hk)
    refine ⟨av, (aPol (alF C i k).1 (alF C i k).2).length, cv, au, (aPol (alF C i k).1 (alF C i k).2).length, cu, fun W hW => ?_⟩
    have hg := grown_below hW none
    have r1 := own_any h1.row hg
    have r2 := own_any h2.row hg
    have q1 := own_any (h1.each k hk) hg
    have q2 := own_any (h2.each k hk) hg
    rw [ev] at q1
    rw [eu] at q2
    exact ⟨by rw [r1.cellAt k (by omega), valsL_get _ _ _ hk, ev], by rw [r2.cellAt k (by omega), valsL_get _ _ _ hk, eu], Poly.same_canon _ _ _ _ _ W (Nat.le_trans (aPol_len _ _) (by unfold maxLen; omega)) (Poly.Poly.ofRow q1) (Poly.Poly.ofRow q2) (canon_aPol _ _) (canon_aPol _ _)⟩
  have HBW : Hid (Below w.heap.size w w4) := HB0.out.trans (HB4.out.mono HB0.out.size)
  have hsw := HBW.out.size
  clear HT2 HT3 HT4 HU4 HB1 HB2 HB3 HC1
  go_wp2
  go_loopw [7] (fun v7 wr => ∃ i : Nat, i ≤ C.length ∧ v7 = .int .i64 (i : Nat) ∧ Hid (Below w4.heap.size w4 wr)) (fun v7 _ => C.length - (intOf v7).toNat)
  case atStart => exact ⟨0, Nat.zero_le _, rfl, Below.refl _ _⟩
  case round =>
    rename World => W5
    obtain ⟨i, hin, rfl, hp⟩ := hrel
    by_cases hil : i < C.length
    · obtain ⟨t0, g4, e4, t1⟩ := HGT.out W5 hp.out i hil
      have HE4 : Hid (a4 = some ⟨g4, 0, none⟩) := e4
      subst e4
      have hii : (i : Int) < (C.length : Int) := by omega
      have HGI : Hid (∀ W, Below w4.heap.size w4 W → W.cell? ⟨gt, i, none⟩ = some (.slice (some ⟨gs i, 0, none⟩) m m) ∧ W.cell? ⟨g4, i, none⟩ = some (.slice (some ⟨gu i, 0, none⟩) m m)) := fun W hW => by
        obtain ⟨t0, g5, e5, t1⟩ := HGT.out W hW i hil
        injection e5 with e5
        injection e5 with e6 e7 e8
        subst e6
        exact ⟨t0, t1⟩
      go_upto_region 11 with (fail)
      go_quiet (fail)
      obtain ⟨X5, hX5⟩ : ∃ X, X = W5.drewN nq := ⟨_, rfl⟩
      rw [← hX5]
      have HX5 : Hid (Below w4.heap.size w4 X5) := (by rw [hX5]; exact below_drewN hp.out _ : Below w4.heap.size w4 X5)
      clear hX5 t0 t1
      obtain ⟨t0, t1⟩ := HGI.out X5 HX5.out
      go_wp2
      go_loopw [8] (fun v8 wr => ∃ k : Nat, k ≤ m ∧ v8 = .int .i64 (k : Nat) ∧ Hid (Below w4.heap.size w4 wr)) (fun v8 _ => m - (intOf v8).toNat)
      case atStart => exact ⟨0, Nat.zero_le _, rfl, HX5.out⟩
      case round =>
        clear t0 t1
        rename World => W6
        obtain ⟨k, hkn, rfl, hp6⟩ := hrel
        obtain ⟨t0, t1⟩ := HGI.out W6 hp6.out
        by_cases hkl : k < m
        · obtain ⟨av, lv, cv, au, lu, cu, hq⟩ := HIK.out i k hil hkl
          obtain ⟨s0, s1, hcal⟩ := hq W6 hp6.out
          have HQA := Lib.hid hq
          have hkk : (k : Int) < (m : Int) := by omega
          clear hq hcal
          have HY0 : Hid (Below w4.heap.size w4 W6) := hp6.out
          have hs6 := hp6.out.size
          have HQ : Hid (∀ w', Below W6.heap.size W6 w' → w'.cell? ⟨gt, i, none⟩ = some (.slice (some ⟨gs i, 0, none⟩) m m) ∧ w'.cell? ⟨g4, i, none⟩ = some (.slice (some ⟨gu i, 0, none⟩) m m) ∧ w'.cell? ⟨gs i, k, none⟩ = some (.slice av lv cv) ∧ w'.cell? ⟨gu i, k, none⟩ = some (.slice au lu cu)) := fun w' hb' => by
            have hb2 := HY0.out.trans (hb'.mono hs6)
            obtain ⟨x0, x1⟩ := HGI.out w' hb2
            obtain ⟨x2, x3, _⟩ := HQA.out w' hb2
            exact ⟨x0, x1, x2, x3⟩
          have HBW6 : Hid (∀ w', Below W6.heap.size W6 w' → Below w4.heap.size w4 w') := fun w' hb' => HY0.out.trans (hb'.mono hs6)
          have HD1 : Hid (Below W6.heap.size W6 W6.drew) := (Below.refl _ _).drew
          go_wp2
          go_region_held3 (fun w' => w'.cell? ⟨gt, i, none⟩ = some (.slice (some ⟨gs i, 0, none⟩) m m) ∧ w'.cell? ⟨g4, i, none⟩ = some (.slice (some ⟨gu i, 0, none⟩) m m) ∧ w'.cell? ⟨gs i, k, none⟩ = some (.slice av lv cv) ∧ w'.cell? ⟨gu i, k, none⟩ = some (.slice au lu cu)) (first | exact HQ.out _ HY.out | exact HQ.out _ HD1.out | exact HQ.out _ (Below.refl _ _)) (first | (go_at_call 23; refine ((HQA.out _ (HBW6.out _ HD1.out)).2.2).mono ?_; rintro e9 w5 ⟨rfl, hb5⟩; have HY : Hid (Below W6.heap.size W6 w5) := HD1.out.trans (hb5.mono HD1.out.size); clear hb5))
          go_wp2
          go_roundw
          case rel => exact ⟨k + 1, by omega, by go_num, HBW6.out _ HY.out⟩
          case measure => simp only [intOf]; omega
        · obtain rfl : k = m := by omega
          go_wp2
          go_roundw
          case rel => exact ⟨i + 1, by omega, by go_num, hp6.out⟩
          case measure => simp only [intOf]; omega
    · obtain rfl : i = C.length := by omega
      go_wp2
      go_ret
      exact ⟨by first | rfl | simp, HBW.out.trans (hp.out.mono hsw)⟩

theorem alexTables_any (hFR : FaceRingsOk) (v : Value) (C : List Cr) (loops : Int) (w : World) (hl : C.length * 40 ≤ 140737488355328) (h : CrsW w w.heap.size v C) :
    Calls Try.prog 17 #[.agg #[v, .int .i64 loops]] w fun e w' => e = .returned (.bool true) ∧ Below w.heap.size w w' := by
  by_cases hn : noN C loops = 0
  · by_cases h10 : C.length ≤ 10
    · exact alexTables_yes hFR v C loops w hl h hn h10
    · exact alexTables_size hFR v C loops w hl h hn (by omega)
  · exact alexTables_no hFR v C loops w hl h hn
end Go.Proofs.Ytnhllpaoplfgpaa

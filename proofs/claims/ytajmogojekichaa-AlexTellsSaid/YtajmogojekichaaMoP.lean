/- Several texts of the proof, one behind the other. -/
import Derived.Test.YtajmogojekichaaPPut
import Derived.Test.YtajmogojekichaaPT4
import Derived.Test.YtajmogojekichaaO0
import Derived.Test.YtajmogojekichaaW5P
import Derived.Deep.RegionLaw
import Derived.Deep.Cut
import Derived.Test.YtajmogojekichaaO2P
import Derived.Test.YtajmogojekichaaY0P
/- Plain mathematics of Alexander's table: polynomials of two terms, and the places of a row. -/
namespace Go.Proofs.Ytajmogojekichaa
open Go.RowKit

/-- x + y t, in form. -/
def aPol (x y : Int) : List (Int × Int) := (if x = 0 then [] else [(0, x)]) ++ (if y = 0 then [] else [(1, y)])
def aFun (x y : Int) (e : Int) : Int := if e = 0 then x else if e = 1 then y else 0
theorem canon_aPol (x y : Int) : Poly.Canon (aPol x y) (aFun x y) := by
  unfold aPol
  constructor
  · by_cases hx : x = 0 <;> by_cases hy : y = 0 <;> simp [hx, hy]
  · intro e c
    by_cases hx : x = 0 <;> by_cases hy : y = 0 <;> by_cases h0 : e = 0 <;> by_cases h1 : e = 1 <;> simp [aFun, hx, hy, h0, h1] <;> omega
theorem aPol_len (x y : Int) : (aPol x y).length ≤ 2 := by
  unfold aPol
  by_cases hx : x = 0 <;> by_cases hy : y = 0 <;> simp [hx, hy]
theorem aPol_may (x y : Int) (hx : -100 ≤ x ∧ x ≤ 100) (hy : -100 ≤ y ∧ y ≤ 100) : Poly.mayB (aPol x y) = true := by
  refine (Poly.may_iff _).2 ⟨Nat.le_trans (aPol_len x y) (by decide), fun i hi => ?_⟩
  rw [Poly.okB_iff]
  unfold aPol at hi ⊢
  by_cases h0 : x = 0 <;> by_cases h1 : y = 0 <;> simp only [h0, h1, if_true, if_false, List.nil_append, List.append_nil, List.length_nil, List.length_cons, List.singleton_append] at hi ⊢
  · omega
  · obtain rfl : i = 0 := by omega
    simp
    omega
  · obtain rfl : i = 0 := by omega
    simp
    omega
  · have : i = 0 ∨ i = 1 := by omega
    rcases this with rfl | rfl <;> simp <;> omega
theorem coef_aPol (x y e : Int) : Poly.coefL (aPol x y) e = aFun x y e := by
  unfold aPol aFun
  by_cases hx : x = 0 <;> by_cases hy : y = 0 <;> by_cases h0 : e = 0 <;> by_cases h1 : e = 1 <;> simp [Poly.coefL, hx, hy, h0, h1] <;> omega
theorem aFun_add (x y dx dy e : Int) : aFun x y e + aFun dx dy e = aFun (x + dx) (y + dy) e := by
  unfold aFun
  by_cases h0 : e = 0
  · simp [h0]
  · by_cases h1 : e = 1
    · simp [h1]
    · simp [h0, h1]
/-- A sum that is in form. -/
theorem aPol_sum {r : List (Int × Int)} {x y dx dy : Int} (h : Poly.Canon r (fun e => Poly.coefL (aPol x y) e + Poly.coefL (aPol dx dy) e)) : r = aPol (x + dx) (y + dy) :=
  Poly.canon_unique (Poly.canon_congr h fun e => by rw [coef_aPol, coef_aPol, aFun_add]) (canon_aPol _ _)
theorem aPol_put0 (x y c : Int) : Poly.putL (aPol x y) 0 c = aPol (x + c) y :=
  Poly.canon_unique (Poly.canon_congr (Poly.canon_put (canon_aPol x y) 0 c) fun e => by
    unfold aFun
    by_cases h0 : e = 0
    · simp [h0]
    · have : ¬ (0 : Int) = e := fun q => h0 q.symm
      simp [h0, this]) (canon_aPol _ _)
theorem aPol_put1 (x y c : Int) : Poly.putL (aPol x y) 1 c = aPol x (y + c) :=
  Poly.canon_unique (Poly.canon_congr (Poly.canon_put (canon_aPol x y) 1 c) fun e => by
    unfold aFun
    by_cases h0 : e = 0
    · simp [h0]
    · by_cases h1 : e = 1
      · simp [h1]
      · have : ¬ (1 : Int) = e := fun q => h1 q.symm
        simp [h0, h1, this]) (canon_aPol _ _)
/-- The places of a row. -/
def addF (F : Nat → Int × Int) (p : Nat) (dx dy : Int) : Nat → Int × Int := fun j => if j = p then ((F j).1 + dx, (F j).2 + dy) else F j
def zeroF : Nat → Int × Int := fun _ => (0, 0)
/-- The row of a crossing: below it goes in at overpass i, out at o; v is above. -/
def rowF (o i v : Nat) : Nat → Int × Int := addF (addF (addF zeroF o 1 0) i 0 (-1)) v (-1) 1
def inC (C : List Cr) (c : Cr) : Nat := if c.plus = true then ovM C c.a.toNat else ovM C c.c.toNat
def outC' (C : List Cr) (c : Cr) : Nat := if c.plus = true then ovM C c.c.toNat else ovM C c.a.toNat
def alF (C : List Cr) (k : Nat) : Nat → Int × Int := rowF (outC' C (C.getD k Cr.none)) (inC C (C.getD k Cr.none)) (ovM C (C.getD k Cr.none).b.toNat)
/-- Small numbers. -/
def smallF (F : Nat → Int × Int) (b : Int) : Prop := ∀ j, -b ≤ (F j).1 ∧ (F j).1 ≤ b ∧ -b ≤ (F j).2 ∧ (F j).2 ≤ b
theorem small_zero : smallF zeroF 0 := fun _ => by simp [zeroF]
theorem small_add {F : Nat → Int × Int} {b : Int} (h : smallF F b) (p : Nat) {dx dy : Int} (hx : -1 ≤ dx ∧ dx ≤ 1) (hy : -1 ≤ dy ∧ dy ≤ 1) : smallF (addF F p dx dy) (b + 1) := fun j => by
  have := h j
  unfold addF
  by_cases e : j = p
  · rw [if_pos e]; simp only; omega
  · rw [if_neg e]; omega
/-- Values by their places. -/
def valsL (m : Nat) (f : Nat → Value) : List Value := (List.range m).map f
theorem valsL_len (m : Nat) (f : Nat → Value) : (valsL m f).length = m := by simp [valsL]
theorem valsL_get (m : Nat) (f : Nat → Value) (i : Nat) (h : i < m) : (valsL m f)[i]? = some (f i) := by simp [valsL, h]
theorem valsL_set (m : Nat) (f g : Nat → Value) (i : Nat) (x : Value) (h : ∀ j, j < m → g j = if j = i then x else f j) : (valsL m f).set i x = valsL m g := by
  apply List.ext_getElem?
  intro j
  by_cases hj : j < m
  · rw [valsL_get m g j hj, h j hj, List.getElem?_set]
    by_cases e : i = j
    · subst e; simp [valsL_len, hj]
    · rw [if_neg e, if_neg (fun h => e h.symm), valsL_get m f j hj]
  · rw [List.getElem?_eq_none (by simp [valsL_len]; omega), List.getElem?_eq_none (by simp [valsL_len]; omega)]
theorem made_nilsV (n : Nat) : (madeCells (Value.slice none 0 0).cells (n * 1)).toList = valsL n fun _ => .slice none 0 0 := by
  have e : (Value.slice none 0 0).cells = #[Value.slice none 0 0] := rfl
  rw [e, toList_madeCells_one, Nat.mul_one]
  apply List.ext_getElem?
  intro j
  by_cases hj : j < n
  · rw [valsL_get _ _ _ hj]; simp [hj]
  · rw [List.getElem?_eq_none (by simp; omega), List.getElem?_eq_none (by simp [valsL_len]; omega)]
/-- A row of polynomials under way: the row lies in block g, its polynomials in blocks of their own. -/
structure PlcAt (B m g : Nat) (vals : Nat → Value) (F : Nat → Int × Int) (wr : World) : Prop where
  row : wr.ownsRow B 63 1 (.slice (some ⟨g, 0, none⟩) m m) m (valsL m vals)
  each : ∀ j, j < m → wr.ownsRow B 124 2 (vals j) (aPol (F j).1 (F j).2).length (Poly.flat (aPol (F j).1 (F j).2))
theorem PlcAt.any {B m g : Nat} {vals : Nat → Value} {F : Nat → Int × Int} {w w' : World} (h : PlcAt B m g vals F w) (hg : w.grownBy w' none) : PlcAt B m g vals F w' := ⟨own_any h.row hg, fun j hj => own_any (h.each j hj) hg⟩
theorem PlcAt.set {B m g : Nat} {vals : Nat → Value} {F : Nat → Int × Int} {w w' : World} (h : PlcAt B m g vals F w) (hb : Below w.heap.size w w') (hB : B ≤ w.heap.size) (p : Nat) (dx dy : Int) (v : Value)
    (hv : w'.ownsRow w.heap.size 124 2 v (aPol ((F p).1 + dx) ((F p).2 + dy)).length (Poly.flat (aPol ((F p).1 + dx) ((F p).2 + dy)))) : PlcAt B m g (fun j => if j = p then v else vals j) (addF F p dx dy) (w'.setCell ⟨g, p, none⟩ v) := by
  have h1 := h.any (grown_below hb none)
  have hst := h1.row.stored p v
  refine ⟨?_, fun j hj => ?_⟩
  · rw [← valsL_set m vals _ p v fun j _ => rfl]
    exact hst.1
  · unfold addF
    by_cases e : j = p
    · rw [if_pos e, if_pos e, e]
      exact (own_low hv hB).kept hst.2 (own_ne (own_low hv hB) h1.row (by decide))
    · rw [if_neg e, if_neg e]
      exact (h1.each j hj).kept hst.2 (own_ne (h1.each j hj) h1.row (by decide))
end Go.Proofs.Ytajmogojekichaa
/- The walk of the closure in alex.row. -/
namespace Go.Proofs.Ytajmogojekichaa
open Go.RowKit

/-- What poly.Add does (its walk stands elsewhere). -/
def AddOk : Prop := ∀ (v1 v2 : Value) (l1 l2 : List (Int × Int)) (w : World), Poly.mayB l1 = true → Poly.mayB l2 = true → Poly.Poly w w.heap.size v1 l1 → Poly.Poly w w.heap.size v2 l2 →
  Calls Try.prog 200 #[v1, v2] w fun e w' => ∃ v r, e = .returned (.tuple #[v, .int .i64 0]) ∧ w'.ownsRow w.heap.size 124 2 v r.length (Poly.flat r) ∧ Poly.Canon r (fun x => Poly.coefL l1 x + Poly.coefL l2 x) ∧ r.length ≤ 128 ∧ Below w.heap.size w w'

set_option maxHeartbeats 4000000 in
set_option maxRecDepth 100000 in
theorem alexAdd_any (hAdd : AddOk) (B m g go gp : Nat) (vals : Nat → Value) (F : Nat → Int × Int) (ao : Option Addr) (no co bo oo arc p : Nat) (v2 : Value) (dx dy : Int) (w : World) (hB : B ≤ w.heap.size)
    (hF : smallF F 10) (hdx : -1 ≤ dx ∧ dx ≤ 1) (hdy : -1 ≤ dy ∧ dy ≤ 1) (ha : 1 ≤ arc) (han : arc ≤ no) (hno : no ≤ 40) (hp : p < m) (hao : ao = some ⟨bo, oo, none⟩)
    (cO : w.heap[go]? = some (.cells #[.slice ao no co] 36 (0, 0))) (cP : w.heap[gp]? = some (.cells #[.slice (some ⟨g, 0, none⟩) m m] 130 (0, 0))) (cA : w.cell? ⟨bo, oo + (arc - 1), none⟩ = some (.int .i64 (p : Nat)))
    (h2 : Poly.Poly w w.heap.size v2 (aPol dx dy)) (hP : PlcAt B m g vals F w) :
    Calls Try.prog 199 #[.int .i64 (arc : Nat), v2, .pointer (some ⟨go, 0, none⟩), .pointer (some ⟨gp, 0, none⟩)] w fun e w' => e = .returned (.tuple #[]) ∧ (∃ vals', PlcAt B m g vals' (addF F p dx dy) w') ∧ w.grownBy w' (some g) := by
  subst hao
  obtain ⟨k, rfl⟩ : ∃ k, arc = k + 1 := ⟨arc - 1, by omega⟩
  rw [Nat.add_sub_cancel] at cA
  have HADD : Hid AddOk := hAdd
  have H2 : Hid (Poly.Poly w w.heap.size v2 (aPol dx dy)) := h2
  have HP : Hid (PlcAt B m g vals F w) := hP
  have HF : Hid (smallF F 10) := hF
  have q0 : w.cell? ⟨go, 0, none⟩ = some (.slice (some ⟨bo, oo, none⟩) no co) := block_cell cO rfl
  have q1 : w.cell? ⟨gp, 0, none⟩ = some (.slice (some ⟨g, 0, none⟩) m m) := block_cell cP rfl
  have HBP : Hid (w.heap[gp]? = some (.cells #[.slice (some ⟨g, 0, none⟩) m m] 130 (0, 0))) := cP
  have hgo := (Array.getElem?_eq_some_iff.1 cO).1
  have hgp := (Array.getElem?_eq_some_iff.1 cP).1
  have hgl := (hP.row.lt g rfl).2
  clear hP hF h2 cO cP
  have hev := HP.out.each p hp
  obtain ⟨av, cv, ev⟩ := own_capS hev
  have HEV : Hid (vals p = .slice av (aPol (F p).1 (F p).2).length cv) := ev
  have q2 : w.cell? ⟨g, p, none⟩ = some (.slice av (aPol (F p).1 (F p).2).length cv) := by rw [HP.out.row.cellAt p (by omega), valsL_get _ _ _ hp, ev]
  have HBD : Hid (Below w.heap.size w w.drew) := below_drewN (Below.refl _ _) 1
  have hpd := own_any hev (grown_below HBD.out none)
  rw [ev] at hpd
  have HCA : Hid (Calls Try.prog 200 #[.slice av (aPol (F p).1 (F p).2).length cv, v2] w.drew fun e w' => ∃ v, e = .returned (.tuple #[v, .int .i64 0]) ∧ w'.ownsRow w.heap.size 124 2 v (aPol ((F p).1 + dx) ((F p).2 + dy)).length (Poly.flat (aPol ((F p).1 + dx) ((F p).2 + dy))) ∧ Below w.heap.size w w') := (by
    have hs := HF.out p
    refine (HADD.out _ v2 (aPol (F p).1 (F p).2) (aPol dx dy) w.drew (aPol_may _ _ (by omega) (by omega)) (aPol_may _ _ (by omega) (by omega)) (Poly.Poly.ofRow hpd) (H2.out.on HBD.out)).mono ?_
    rintro e w' ⟨v, r, e1, hr, hc, _, hb⟩
    rw [aPol_sum hc] at hr
    exact ⟨v, e1, hr, HBD.out.trans hb⟩ : Calls Try.prog 200 #[.slice av (aPol (F p).1 (F p).2).length cv, v2] w.drew fun e w' => ∃ v, e = .returned (.tuple #[v, .int .i64 0]) ∧ w'.ownsRow w.heap.size 124 2 v (aPol ((F p).1 + dx) ((F p).2 + dy)).length (Poly.flat (aPol ((F p).1 + dx) ((F p).2 + dy))) ∧ Below w.heap.size w w')
  have HRW : Hid (∀ w', Below w.heap.size w w' → w'.cell? ⟨g, p, none⟩ = some (.slice av (aPol (F p).1 (F p).2).length cv) ∧ w'.frozen? ⟨g, p, none⟩ = false ∧ g < w'.heap.size ∧ w'.cell? ⟨gp, 0, none⟩ = some (.slice (some ⟨g, 0, none⟩) m m)) := fun w' hb => by
    have h := (HP.out.any (grown_below hb none)).row
    exact ⟨by rw [h.cellAt p (by omega), valsL_get _ _ _ hp, HEV.out], h.frozenAt p, (h.lt g rfl).2, block_cell ((hb.block _ hgp).trans HBP.out) rfl⟩
  have hpi : (p : Int) < (m : Int) := by omega
  generalize (aPol (F p).1 (F p).2).length = la at *
  clear hev ev hpd
  go_enter Try.func199, Try.ntmps199
  go_wp2
  go_region_law (first
    | (go_simp; go_at_call 200; refine HCA.out.mono ?_; rintro e9 w5 ⟨v5, rfl, hr5, hb5⟩; obtain ⟨a5, c5, e5⟩ := own_capS hr5; subst e5; obtain ⟨r0, r1, r2, r3⟩ := HRW.out w5 hb5))
  all_goals
    exact bodyPost_end (v := .tuple #[]) (results_none rfl _ _ _) rfl ⟨rfl, ⟨_, HP.out.set hb5 hB p dx dy _ hr5⟩, grown_trans (grown_below hb5 _) (set_grown _ _ _ _)⟩
end Go.Proofs.Ytajmogojekichaa
/- The walk of alex.row. -/
namespace Go.Proofs.Ytajmogojekichaa
open Go.RowKit

theorem infoTerms : (Try.prog.info? 63).map (fun i => (i.zero, i.size, i.bytes)) = some (some (.slice none 0 0), 1, 24) := by kernel_rfl

theorem poly_new1 (X : World) (e c : Int) (t : TypeId) : Poly.Poly (X.alloc (.cells #[.int .i64 e, .int .i64 c] t)) (X.alloc (.cells #[.int .i64 e, .int .i64 c] t)).heap.size (.slice (some ⟨X.heap.size, 0, none⟩) 1 1) [(e, c)] := by
  have hb : (X.alloc (.cells #[.int .i64 e, .int .i64 c] t)).heap[X.heap.size]? = some (.cells #[.int .i64 e, .int .i64 c] t (0, 0)) := alloc_at rfl
  refine Or.inr (Or.inr ⟨X.heap.size, 0, 1, rfl, by simp, fun i hi => ?_⟩)
  obtain rfl : i = 0 := by simpa using hi
  exact ⟨block_cell hb rfl, block_cell hb rfl⟩
theorem poly_new2 (X : World) (e c e' c' : Int) (t : TypeId) : Poly.Poly (X.alloc (.cells #[.int .i64 e, .int .i64 c, .int .i64 e', .int .i64 c'] t)) (X.alloc (.cells #[.int .i64 e, .int .i64 c, .int .i64 e', .int .i64 c'] t)).heap.size (.slice (some ⟨X.heap.size, 0, none⟩) 2 2) [(e, c), (e', c')] := by
  have hb : (X.alloc (.cells #[.int .i64 e, .int .i64 c, .int .i64 e', .int .i64 c'] t)).heap[X.heap.size]? = some (.cells #[.int .i64 e, .int .i64 c, .int .i64 e', .int .i64 c'] t (0, 0)) := alloc_at rfl
  refine Or.inr (Or.inr ⟨X.heap.size, 0, 2, rfl, by simp, fun i hi => ?_⟩)
  have : i = 0 ∨ i = 1 := by
    have : i < 2 := by simpa using hi
    omega
  rcases this with rfl | rfl
  · exact ⟨block_cell hb rfl, block_cell hb rfl⟩
  · exact ⟨block_cell hb rfl, block_cell hb rfl⟩
/-- Where row stands. -/
structure RwSt (w : World) (m g gp : Nat) (bc bo : Array Value) (F : Nat → Int × Int) (X : World) : Prop where
  plc : ∃ vals, PlcAt w.heap.size m g vals F X
  cbx : X.heap[w.heap.size]? = some (.cells bc 99 (0, 0))
  obx : X.heap[w.heap.size + 1]? = some (.cells bo 36 (0, 0))
  pbx : X.heap[gp]? = some (.cells #[.slice (some ⟨g, 0, none⟩) m m] 130 (0, 0))
  bel : Below w.heap.size w X
  big : w.heap.size + 2 ≤ g
  ne : gp ≠ g
theorem RwSt.grow {w : World} {m g gp : Nat} {bc bo : Array Value} {F F' : Nat → Int × Int} {X Y : World} (h : RwSt w m g gp bc bo F X) (hp : ∃ vals, PlcAt w.heap.size m g vals F' Y) (hg : X.grownBy Y (some g)) : RwSt w m g gp bc bo F' Y := by
  have lt : ∀ {k : Nat} {o : Obj}, X.heap[k]? = some o → k < X.heap.size := fun h => (Array.getElem?_eq_some_iff.1 h).1
  have hb := h.big
  exact ⟨hp, (hg.block _ (lt h.cbx) (fun e => by have := Option.some.inj e; omega)).trans h.cbx, (hg.block _ (lt h.obx) (fun e => by have := Option.some.inj e; omega)).trans h.obx, (hg.block _ (lt h.pbx) (fun e => h.ne (Option.some.inj e))).trans h.pbx, h.bel.grown hg h.bel.size (fun q hq => by have := Option.some.inj hq; omega), h.big, h.ne⟩
theorem RwSt.alloc {w : World} {m g gp : Nat} {bc bo : Array Value} {F : Nat → Int × Int} {X : World} (h : RwSt w m g gp bc bo F X) (o : Obj) : RwSt w m g gp bc bo F (X.alloc o) := by
  obtain ⟨vals, hp⟩ := h.plc
  exact h.grow ⟨vals, hp.any (World.grownBy_alloc _ _ none)⟩ (World.grownBy_alloc _ _ _)
/-- One call of the closure. -/
theorem RwSt.step {w : World} {m g gp : Nat} {bc : Array Value} {F : Nat → Int × Int} {X : World} {b' o' no co arc p : Nat} {v2 : Value} {dx dy : Int} (hAdd : AddOk) (h : RwSt w m g gp bc #[.slice (some ⟨b', o', none⟩) no co] F X) (hF : smallF F 10) (hdx : -1 ≤ dx ∧ dx ≤ 1) (hdy : -1 ≤ dy ∧ dy ≤ 1) (ha : 1 ≤ arc) (han : arc ≤ no) (hno : no ≤ 40) (hp : p < m) (hb : b' < w.heap.size) (cA : w.cell? ⟨b', o' + (arc - 1), none⟩ = some (.int .i64 (p : Nat))) (h2 : Poly.Poly X X.heap.size v2 (aPol dx dy)) :
    Calls Try.prog 199 #[.int .i64 (arc : Nat), v2, .pointer (some ⟨w.heap.size + 1, 0, none⟩), .pointer (some ⟨gp, 0, none⟩)] X fun e w' => e = .returned (.tuple #[]) ∧ RwSt w m g gp bc #[.slice (some ⟨b', o', none⟩) no co] (addF F p dx dy) w' := by
  obtain ⟨vals, hpl⟩ := h.plc
  refine (alexAdd_any hAdd w.heap.size m g (w.heap.size + 1) gp vals F (some ⟨b', o', none⟩) no co b' o' arc p v2 dx dy X h.bel.size hF hdx hdy ha han hno hp rfl h.obx h.pbx (bcell h.bel hb cA) h2 hpl).mono ?_
  rintro e w' ⟨e1, hv, hg⟩
  exact ⟨e1, h.grow hv hg⟩

set_option maxHeartbeats 8000000 in
set_option maxRecDepth 100000 in
theorem alexRow_any (hAdd : AddOk) (C : List Cr) (xa xb xc xd : Nat) (P : Bool) (oa ob oc : Nat) (m : Nat) (ao : Option Addr) (co bo oo : Nat) (w : World) (hm : m ≤ 40) (hl : C.length ≤ 16) (hao : ao = some ⟨bo, oo, none⟩) (hbo : bo < w.heap.size)
    (la : 1 ≤ xa ∧ xa ≤ 2 * C.length) (lb : 1 ≤ xb ∧ xb ≤ 2 * C.length) (lc : 1 ≤ xc ∧ xc ≤ 2 * C.length) (ma : oa < m) (mb : ob < m) (mc : oc < m)
    (ca : w.cell? ⟨bo, oo + (xa - 1), none⟩ = some (.int .i64 (oa : Nat))) (cb : w.cell? ⟨bo, oo + (xb - 1), none⟩ = some (.int .i64 (ob : Nat))) (cc : w.cell? ⟨bo, oo + (xc - 1), none⟩ = some (.int .i64 (oc : Nat))) :
    Calls Try.prog 173 #[.agg #[.int .i64 (xa : Nat), .int .i64 (xb : Nat), .int .i64 (xc : Nat), .int .i64 (xd : Nat), .bool P], .slice ao (2 * C.length) co, .int .i64 (m : Nat)] w fun e w' => ∃ g vals, e = .returned (.slice (some ⟨g, 0, none⟩) m m) ∧ PlcAt w.heap.size m g vals (rowF (if P = true then oc else oa) (if P = true then oa else oc) ob) w' ∧ Below w.heap.size w w' := by
  obtain ⟨i1, hj, hy0, hy1, hy2⟩ := info_parts infoTerms
  have HADD : Hid AddOk := hAdd
  have HCA : Hid (w.cell? ⟨bo, oo + (xa - 1), none⟩ = some (.int .i64 (oa : Nat)) ∧ w.cell? ⟨bo, oo + (xb - 1), none⟩ = some (.int .i64 (ob : Nat)) ∧ w.cell? ⟨bo, oo + (xc - 1), none⟩ = some (.int .i64 (oc : Nat))) := ⟨ca, cb, cc⟩
  clear ca cb cc hAdd
  subst hao
  obtain ⟨W0, hW0⟩ : ∃ W, W = (w.alloc (.cells #[.int .i64 (xa : Nat), .int .i64 (xb : Nat), .int .i64 (xc : Nat), .int .i64 (xd : Nat), .bool P] 99)).alloc (.cells #[.slice (some ⟨bo, oo, none⟩) (2 * C.length) co] 36) := ⟨_, rfl⟩
  have HW0 : Hid (W0 = (w.alloc (.cells #[.int .i64 (xa : Nat), .int .i64 (xb : Nat), .int .i64 (xc : Nat), .int .i64 (xd : Nat), .bool P] 99)).alloc (.cells #[.slice (some ⟨bo, oo, none⟩) (2 * C.length) co] 36)) := hW0
  have HB0 : Hid (Below w.heap.size w W0) := (by rw [hW0]; exact below2 _ _ _ : Below w.heap.size w W0)
  have hs0 : W0.heap.size = w.heap.size + 2 := by rw [hW0]; simp
  have HT0 : Hid (W0.heap[w.heap.size]? = some (.cells #[.int .i64 (xa : Nat), .int .i64 (xb : Nat), .int .i64 (xc : Nat), .int .i64 (xd : Nat), .bool P] 99 (0, 0)) ∧ W0.heap[w.heap.size + 1]? = some (.cells #[.slice (some ⟨bo, oo, none⟩) (2 * C.length) co] 36 (0, 0))) := (by rw [hW0]; exact ⟨alloc_old (alloc_at rfl), alloc_at (by simp)⟩ : W0.heap[w.heap.size]? = some (.cells #[.int .i64 (xa : Nat), .int .i64 (xb : Nat), .int .i64 (xc : Nat), .int .i64 (xd : Nat), .bool P] 99 (0, 0)) ∧ W0.heap[w.heap.size + 1]? = some (.cells #[.slice (some ⟨bo, oo, none⟩) (2 * C.length) co] 36 (0, 0)))
  have HSZ : Hid (W0.heap.size = w.heap.size + 2) := hs0
  have hs0' : w.heap.size + 2 ≤ W0.heap.size := by omega
  clear hW0 hs0
  go_enter Try.func173, Try.ntmps173
  go_wp2_with (first | (at_make; rw [← HW0.out]; refine wpList_make_full _ rfl _ _ 130 rfl w.heap.size 63 i1 (.slice none 0 0) 1 Try.underlying130 hj hy0 hy1 .i64 .i64 _ _ m rfl rfl rfl rfl (by rw [hy2]; omega) (by unfold maxLen; omega) (by omega) ?_; intro w2 hrow hg2; refine Hid.out ?_))
  refine Lib.hid ?_
  rw [made_nilsV] at hrow
  obtain ⟨g, hgE⟩ : ∃ g, W0.heap.size = g := ⟨_, rfl⟩
  rw [hgE] at hrow hs0' ⊢
  have HPL : Hid (PlcAt w.heap.size m g (fun _ => .slice none 0 0) zeroF w2) := ⟨hrow, fun j _ => World.ownsRow_nil _ _ _ _⟩
  have hlt2 : g < w2.heap.size := (hrow.lt g rfl).2
  have HX : Hid (RwSt w m g w2.heap.size #[.int .i64 (xa : Nat), .int .i64 (xb : Nat), .int .i64 (xc : Nat), .int .i64 (xd : Nat), .bool P] #[.slice (some ⟨bo, oo, none⟩) (2 * C.length) co] zeroF (w2.alloc (.cells #[.slice (some ⟨g, 0, none⟩) m m] 130))) := (by
    have hga := World.grownBy_alloc w2 (.cells #[.slice (some ⟨g, 0, none⟩) m m] 130) none
    have l0 : w.heap.size < W0.heap.size := by have := HSZ.out; omega
    have l1 : w.heap.size + 1 < W0.heap.size := by have := HSZ.out; omega
    have z2 := hg2.size
    refine ⟨⟨_, HPL.out.any hga⟩, ?_, ?_, alloc_at rfl, (HB0.out.grown hg2 HB0.out.size (fun q hq => by cases hq)).alloc (by have := HB0.out.size; omega) _, hs0', by omega⟩
    · exact alloc_old ((hg2.block _ l0 (by simp)).trans HT0.out.1)
    · exact alloc_old ((hg2.block _ l1 (by simp)).trans HT0.out.2) : RwSt w m g w2.heap.size #[.int .i64 (xa : Nat), .int .i64 (xb : Nat), .int .i64 (xc : Nat), .int .i64 (xd : Nat), .bool P] #[.slice (some ⟨bo, oo, none⟩) (2 * C.length) co] zeroF (w2.alloc (.cells #[.slice (some ⟨g, 0, none⟩) m m] 130)))
  obtain ⟨X0, hX0⟩ : ∃ X, X = w2.alloc (.cells #[.slice (some ⟨g, 0, none⟩) m m] 130) := ⟨_, rfl⟩
  have HX0 : Hid (X0 = w2.alloc (.cells #[.slice (some ⟨g, 0, none⟩) m m] 130)) := hX0
  rw [← hX0] at HX
  have k0 : X0.cell? ⟨w.heap.size, 0, none⟩ = some (.int .i64 (xa : Nat)) := block_cell HX.out.cbx rfl
  have k2 : X0.cell? ⟨w.heap.size, 2, none⟩ = some (.int .i64 (xc : Nat)) := block_cell HX.out.cbx rfl
  have k4 : X0.cell? ⟨w.heap.size, 4, none⟩ = some (.bool P) := block_cell HX.out.cbx rfl
  have a1 : ([(0, 1)] : List (Int × Int)) = aPol 1 0 := by simp [aPol]
  have a2 : ([(1, -1)] : List (Int × Int)) = aPol 0 (-1) := by simp [aPol]
  have a3 : ([(0, -1), (1, 1)] : List (Int × Int)) = aPol (-1) 1 := by simp [aPol]
  have HA1 : Hid (([(0, 1)] : List (Int × Int)) = aPol 1 0 ∧ ([(1, -1)] : List (Int × Int)) = aPol 0 (-1) ∧ ([(0, -1), (1, 1)] : List (Int × Int)) = aPol (-1) 1) := ⟨a1, a2, a3⟩
  clear hrow hg2 hX0 hgE a1 a2 a3 HPL
  go_upto_region 3 with (fail)
  rw [← HX0.out]
  clear HX0
  go_quiet (fail)
  obtain ⟨X1, hX1⟩ : ∃ X, X = X0.drewN nq := ⟨_, rfl⟩
  rw [← hX1]
  have HX1 : Hid (RwSt w m g w2.heap.size #[.int .i64 (xa : Nat), .int .i64 (xb : Nat), .int .i64 (xc : Nat), .int .i64 (xd : Nat), .bool P] #[.slice (some ⟨bo, oo, none⟩) (2 * C.length) co] zeroF X1) := (by
    have hb : Below X0.heap.size X0 X1 := by rw [hX1]; exact below_drewN (Below.refl _ _) _
    obtain ⟨vals, hp⟩ := HX.out.plc
    exact HX.out.grow ⟨vals, hp.any (grown_below hb none)⟩ (grown_below hb _) : RwSt w m g w2.heap.size #[.int .i64 (xa : Nat), .int .i64 (xb : Nat), .int .i64 (xc : Nat), .int .i64 (xd : Nat), .bool P] #[.slice (some ⟨bo, oo, none⟩) (2 * C.length) co] zeroF X1)
  have hl2 : 2 * C.length ≤ 40 := by omega
  clear hX1 k0 k2 k4 HX
  have k4 : X1.cell? ⟨w.heap.size, 4, none⟩ = some (.bool P) := block_cell HX1.out.cbx rfl
  cases P with
  | true =>
    have n0 : smallF zeroF 10 := fun j => by have := small_zero j; omega
    have n1 : smallF (addF zeroF oc 1 0) 10 := fun j => by have := small_add small_zero oc (dx := 1) (dy := 0) (by omega) (by omega) j; omega
    have n2 : smallF (addF (addF zeroF oc 1 0) oa 0 (-1)) 10 := fun j => by have := small_add (small_add small_zero oc (dx := 1) (dy := 0) (by omega) (by omega)) oa (dx := 0) (dy := -1) (by omega) (by omega) j; omega
    have HN : Hid (smallF zeroF 10 ∧ smallF (addF zeroF oc 1 0) 10 ∧ smallF (addF (addF zeroF oc 1 0) oa 0 (-1)) 10) := ⟨n0, n1, n2⟩
    clear n0 n1 n2
    have HC1 : Hid (Calls Try.prog 199 #[.int .i64 (xc : Nat), .slice (some ⟨X1.heap.size, 0, none⟩) 1 1, .pointer (some ⟨w.heap.size + 1, 0, none⟩), .pointer (some ⟨w2.heap.size, 0, none⟩)] (X1.alloc (.cells #[.int .i64 0, .int .i64 1] 124)) fun e w' => e = .returned (.tuple #[]) ∧ RwSt w m g w2.heap.size #[.int .i64 (xa : Nat), .int .i64 (xb : Nat), .int .i64 (xc : Nat), .int .i64 (xd : Nat), .bool true] #[.slice (some ⟨bo, oo, none⟩) (2 * C.length) co] (addF zeroF oc 1 0) w') := RwSt.step HADD.out (HX1.out.alloc _) HN.out.1 (by omega) (by omega) lc.1 lc.2 (by omega) (by omega) hbo HCA.out.2.2 (by rw [← HA1.out.1]; exact poly_new1 X1 0 1 124)
    go_wp2_with (go_at_call 199; refine HC1.out.mono ?_; rintro e9 w3 ⟨rfl, hs3⟩; refine Hid.out ?_)
    refine Lib.hid ?_
    have HX3 : Hid (RwSt w m g w2.heap.size #[.int .i64 (xa : Nat), .int .i64 (xb : Nat), .int .i64 (xc : Nat), .int .i64 (xd : Nat), .bool true] #[.slice (some ⟨bo, oo, none⟩) (2 * C.length) co] (addF zeroF oc 1 0) w3) := hs3
    have HC3 : Hid (Calls Try.prog 199 #[.int .i64 (xa : Nat), .slice (some ⟨w3.heap.size, 0, none⟩) 1 1, .pointer (some ⟨w.heap.size + 1, 0, none⟩), .pointer (some ⟨w2.heap.size, 0, none⟩)] (w3.alloc (.cells #[.int .i64 1, .int .i64 (-1)] 124)) fun e w' => e = .returned (.tuple #[]) ∧ RwSt w m g w2.heap.size #[.int .i64 (xa : Nat), .int .i64 (xb : Nat), .int .i64 (xc : Nat), .int .i64 (xd : Nat), .bool true] #[.slice (some ⟨bo, oo, none⟩) (2 * C.length) co] (addF (addF zeroF oc 1 0) oa 0 (-1)) w') := RwSt.step HADD.out (HX3.out.alloc _) HN.out.2.1 (by omega) (by omega) la.1 la.2 (by omega) (by omega) hbo HCA.out.1 (by rw [← HA1.out.2.1]; exact poly_new1 w3 1 (-1) 124)
    clear hs3
    go_wp2_with (go_at_call 199; refine HC3.out.mono ?_; rintro e9 w4 ⟨rfl, hs4⟩; refine Hid.out ?_)
    refine Lib.hid ?_
    have HX4 : Hid (RwSt w m g w2.heap.size #[.int .i64 (xa : Nat), .int .i64 (xb : Nat), .int .i64 (xc : Nat), .int .i64 (xd : Nat), .bool true] #[.slice (some ⟨bo, oo, none⟩) (2 * C.length) co] (addF (addF zeroF oc 1 0) oa 0 (-1)) w4) := hs4
    have k1 : w4.cell? ⟨w.heap.size, 1, none⟩ = some (.int .i64 (xb : Nat)) := block_cell HX4.out.cbx rfl
    have HC4 : Hid (Calls Try.prog 199 #[.int .i64 (xb : Nat), .slice (some ⟨w4.heap.size, 0, none⟩) 2 2, .pointer (some ⟨w.heap.size + 1, 0, none⟩), .pointer (some ⟨w2.heap.size, 0, none⟩)] (w4.alloc (.cells #[.int .i64 0, .int .i64 (-1), .int .i64 1, .int .i64 1] 124)) fun e w' => e = .returned (.tuple #[]) ∧ RwSt w m g w2.heap.size #[.int .i64 (xa : Nat), .int .i64 (xb : Nat), .int .i64 (xc : Nat), .int .i64 (xd : Nat), .bool true] #[.slice (some ⟨bo, oo, none⟩) (2 * C.length) co] (addF (addF (addF zeroF oc 1 0) oa 0 (-1)) ob (-1) 1) w') := RwSt.step HADD.out (HX4.out.alloc _) HN.out.2.2 (by omega) (by omega) lb.1 lb.2 (by omega) (by omega) hbo HCA.out.2.1 (by rw [← HA1.out.2.2]; exact poly_new2 w4 0 (-1) 1 1 124)
    clear hs4
    go_wp2_with (go_at_call 199; refine HC4.out.mono ?_; rintro e9 w5 ⟨rfl, hs5⟩; refine Hid.out ?_)
    refine Lib.hid ?_
    have HX5 : Hid (RwSt w m g w2.heap.size #[.int .i64 (xa : Nat), .int .i64 (xb : Nat), .int .i64 (xc : Nat), .int .i64 (xd : Nat), .bool true] #[.slice (some ⟨bo, oo, none⟩) (2 * C.length) co] (addF (addF (addF zeroF oc 1 0) oa 0 (-1)) ob (-1) 1) w5) := hs5
    have p0 : w5.cell? ⟨w2.heap.size, 0, none⟩ = some (.slice (some ⟨g, 0, none⟩) m m) := block_cell HX5.out.pbx rfl
    clear hs5 k1
    go_wp2
    go_ret
    obtain ⟨vals, hp⟩ := HX5.out.plc
    exact ⟨g, rfl, ⟨vals, hp⟩, HX5.out.bel⟩
  | false =>
    have n0 : smallF zeroF 10 := fun j => by have := small_zero j; omega
    have n1 : smallF (addF zeroF oa 1 0) 10 := fun j => by have := small_add small_zero oa (dx := 1) (dy := 0) (by omega) (by omega) j; omega
    have n2 : smallF (addF (addF zeroF oa 1 0) oc 0 (-1)) 10 := fun j => by have := small_add (small_add small_zero oa (dx := 1) (dy := 0) (by omega) (by omega)) oc (dx := 0) (dy := -1) (by omega) (by omega) j; omega
    have HN : Hid (smallF zeroF 10 ∧ smallF (addF zeroF oa 1 0) 10 ∧ smallF (addF (addF zeroF oa 1 0) oc 0 (-1)) 10) := ⟨n0, n1, n2⟩
    clear n0 n1 n2
    have HC1 : Hid (Calls Try.prog 199 #[.int .i64 (xa : Nat), .slice (some ⟨X1.heap.size, 0, none⟩) 1 1, .pointer (some ⟨w.heap.size + 1, 0, none⟩), .pointer (some ⟨w2.heap.size, 0, none⟩)] (X1.alloc (.cells #[.int .i64 0, .int .i64 1] 124)) fun e w' => e = .returned (.tuple #[]) ∧ RwSt w m g w2.heap.size #[.int .i64 (xa : Nat), .int .i64 (xb : Nat), .int .i64 (xc : Nat), .int .i64 (xd : Nat), .bool false] #[.slice (some ⟨bo, oo, none⟩) (2 * C.length) co] (addF zeroF oa 1 0) w') := RwSt.step HADD.out (HX1.out.alloc _) HN.out.1 (by omega) (by omega) la.1 la.2 (by omega) (by omega) hbo HCA.out.1 (by rw [← HA1.out.1]; exact poly_new1 X1 0 1 124)
    go_wp2_with (go_at_call 199; refine HC1.out.mono ?_; rintro e9 w3 ⟨rfl, hs3⟩; refine Hid.out ?_)
    refine Lib.hid ?_
    have HX3 : Hid (RwSt w m g w2.heap.size #[.int .i64 (xa : Nat), .int .i64 (xb : Nat), .int .i64 (xc : Nat), .int .i64 (xd : Nat), .bool false] #[.slice (some ⟨bo, oo, none⟩) (2 * C.length) co] (addF zeroF oa 1 0) w3) := hs3
    have HC3 : Hid (Calls Try.prog 199 #[.int .i64 (xc : Nat), .slice (some ⟨w3.heap.size, 0, none⟩) 1 1, .pointer (some ⟨w.heap.size + 1, 0, none⟩), .pointer (some ⟨w2.heap.size, 0, none⟩)] (w3.alloc (.cells #[.int .i64 1, .int .i64 (-1)] 124)) fun e w' => e = .returned (.tuple #[]) ∧ RwSt w m g w2.heap.size #[.int .i64 (xa : Nat), .int .i64 (xb : Nat), .int .i64 (xc : Nat), .int .i64 (xd : Nat), .bool false] #[.slice (some ⟨bo, oo, none⟩) (2 * C.length) co] (addF (addF zeroF oa 1 0) oc 0 (-1)) w') := RwSt.step HADD.out (HX3.out.alloc _) HN.out.2.1 (by omega) (by omega) lc.1 lc.2 (by omega) (by omega) hbo HCA.out.2.2 (by rw [← HA1.out.2.1]; exact poly_new1 w3 1 (-1) 124)
    clear hs3
    go_wp2_with (go_at_call 199; refine HC3.out.mono ?_; rintro e9 w4 ⟨rfl, hs4⟩; refine Hid.out ?_)
    refine Lib.hid ?_
    have HX4 : Hid (RwSt w m g w2.heap.size #[.int .i64 (xa : Nat), .int .i64 (xb : Nat), .int .i64 (xc : Nat), .int .i64 (xd : Nat), .bool false] #[.slice (some ⟨bo, oo, none⟩) (2 * C.length) co] (addF (addF zeroF oa 1 0) oc 0 (-1)) w4) := hs4
    have k1 : w4.cell? ⟨w.heap.size, 1, none⟩ = some (.int .i64 (xb : Nat)) := block_cell HX4.out.cbx rfl
    have HC4 : Hid (Calls Try.prog 199 #[.int .i64 (xb : Nat), .slice (some ⟨w4.heap.size, 0, none⟩) 2 2, .pointer (some ⟨w.heap.size + 1, 0, none⟩), .pointer (some ⟨w2.heap.size, 0, none⟩)] (w4.alloc (.cells #[.int .i64 0, .int .i64 (-1), .int .i64 1, .int .i64 1] 124)) fun e w' => e = .returned (.tuple #[]) ∧ RwSt w m g w2.heap.size #[.int .i64 (xa : Nat), .int .i64 (xb : Nat), .int .i64 (xc : Nat), .int .i64 (xd : Nat), .bool false] #[.slice (some ⟨bo, oo, none⟩) (2 * C.length) co] (addF (addF (addF zeroF oa 1 0) oc 0 (-1)) ob (-1) 1) w') := RwSt.step HADD.out (HX4.out.alloc _) HN.out.2.2 (by omega) (by omega) lb.1 lb.2 (by omega) (by omega) hbo HCA.out.2.1 (by rw [← HA1.out.2.2]; exact poly_new2 w4 0 (-1) 1 1 124)
    clear hs4
    go_wp2_with (go_at_call 199; refine HC4.out.mono ?_; rintro e9 w5 ⟨rfl, hs5⟩; refine Hid.out ?_)
    refine Lib.hid ?_
    have HX5 : Hid (RwSt w m g w2.heap.size #[.int .i64 (xa : Nat), .int .i64 (xb : Nat), .int .i64 (xc : Nat), .int .i64 (xd : Nat), .bool false] #[.slice (some ⟨bo, oo, none⟩) (2 * C.length) co] (addF (addF (addF zeroF oa 1 0) oc 0 (-1)) ob (-1) 1) w5) := hs5
    have p0 : w5.cell? ⟨w2.heap.size, 0, none⟩ = some (.slice (some ⟨g, 0, none⟩) m m) := block_cell HX5.out.pbx rfl
    clear hs5 k1
    go_wp2
    go_ret
    obtain ⟨vals, hp⟩ := HX5.out.plc
    exact ⟨g, rfl, ⟨vals, hp⟩, HX5.out.bel⟩
end Go.Proofs.Ytajmogojekichaa
/- One more than the greatest number of a list; the walk of ref.mostOf. -/
namespace Go.Proofs.Ytajmogojekichaa
open Go.RowKit

/-- One more than the greatest of the first k. -/
def mostTo (l : List Nat) : Nat → Nat
  | 0 => 0
  | k + 1 => max (mostTo l k) (l.getD k 0 + 1)
theorem mostTo_le (l : List Nat) (B k : Nat) (hk : k ≤ l.length) (h : ∀ x, x ∈ l → x < B) : mostTo l k ≤ B := by
  induction k with
  | zero => exact Nat.zero_le _
  | succ k ih =>
    have := ih (by omega)
    have h2 := h (l.getD k 0) (by rw [List.getD_eq_getElem?_getD, List.getElem?_eq_getElem (by omega)]; exact List.getElem_mem _)
    simp only [mostTo]
    omega
theorem mostTo_ov {C : List Cr} (hL : Least (ovE C) (2 * C.length + 1) (lowM C)) (hpos : ∀ v, 1 ≤ v → v < 2 * C.length + 1 → 1 ≤ (lowM C).getD v 0) (k : Nat) (hk : k ≤ 2 * C.length) : mostTo (ovL C (2 * C.length)) k = rootsN (lowM C) (k + 1) := by
  induction k with
  | zero => simp [mostTo, rootsN]
  | succ k ih =>
    have h1 := ih (by omega)
    have e : (ovL C (2 * C.length)).getD k 0 = ovM C (k + 1) := by simp [ovL, List.getD_eq_getElem?_getD, show k < 2 * C.length by omega]
    have hv : k + 1 < 2 * C.length + 1 := by omega
    simp only [mostTo]
    rw [h1, e]
    show max (rootsN (lowM C) (k + 1)) (ovM C (k + 1) + 1) = rootsN (lowM C) (k + 1) + (if 1 ≤ k + 1 ∧ (lowM C).getD (k + 1) 0 = k + 1 then 1 else 0)
    by_cases hr : (lowM C).getD (k + 1) 0 = k + 1
    · rw [if_pos ⟨by omega, hr⟩]
      unfold ovM
      rw [hr]
      omega
    · rw [if_neg (fun z => hr z.2)]
      have hle := hL.le hv
      have hp := hpos (k + 1) (by omega) hv
      have hroot := hL.root hv
      have h3 : rootsN (lowM C) ((lowM C).getD (k + 1) 0 + 1) = ovM C (k + 1) + 1 := by
        show rootsN (lowM C) _ + _ = _
        rw [if_pos ⟨hp, hroot⟩]
        rfl
      have h4 := rootsN_mono (lowM C) ((lowM C).getD (k + 1) 0 + 1) (k + 1) (by omega)
      omega

set_option maxHeartbeats 4000000 in
set_option maxRecDepth 100000 in
theorem mostOf_any (v : Value) (l : List Nat) (B : Nat) (w : World) (hB : B ≤ 100) (hl : l.length ≤ 100) (hx : ∀ x, x ∈ l → x < B) (h : Slots w w.heap.size v (nats l)) :
    Calls Try.prog 92 #[v] w fun e w' => e = .returned (.int .i64 (mostTo l l.length : Nat)) ∧ Below w.heap.size w w' := by
  obtain ⟨a, c, rfl, g⟩ := h
  rw [nats_len] at g ⊢
  have HB : Hid (Below w.heap.size w w) := Below.refl _ _
  have HX : Hid (∀ x, x ∈ l → x < B) := hx
  by_cases h0 : 0 < l.length
  · obtain ⟨b, off, rfl, hbw, hc⟩ := g h0
    have HC : Hid (∀ i, i < l.length → w.cell? ⟨b, off + i, none⟩ = some ((nats l).getD i (.bool false))) := hc
    clear g hx hc
    go_enter Try.func92, Try.ntmps92
    go_wp2
    go_loopw [3, 4] (fun v3 v4 wr => ∃ i : Nat, i ≤ l.length ∧ v4 = .int .i64 (i : Nat) ∧ v3 = .int .i64 (mostTo l i : Nat) ∧ Hid (Below w.heap.size w wr)) (fun _ v4 _ => l.length - (intOf v4).toNat)
    case atStart => exact ⟨0, Nat.zero_le _, rfl, rfl, HB.out⟩
    case round =>
      clear HB
      rename World => W1
      obtain ⟨i, hi1, rfl, rfl, hb⟩ := hrel
      have hm1 := mostTo_le l B i hi1 HX.out
      by_cases hil : i < l.length
      · have hs := hb.out.size
        have hbW : b < W1.heap.size := by omega
        obtain ⟨x, hx⟩ : ∃ x, l.getD i 0 = x := ⟨_, rfl⟩
        have hxB : x < B := by rw [← hx]; exact HX.out _ (by rw [List.getD_eq_getElem?_getD, List.getElem?_eq_getElem (by omega)]; exact List.getElem_mem _)
        have e0 : W1.cell? ⟨b, off + i, none⟩ = some (.int .i64 (x : Nat)) := by
          refine bcell hb.out hbw ?_
          rw [HC.out i hil, List.getD_eq_getElem?_getD, nats_get l i hil, hx]; rfl
        have HMX : Hid (mostTo l (i + 1) = max (mostTo l i) (x + 1)) := (by show max _ _ = _; rw [hx] : mostTo l (i + 1) = max (mostTo l i) (x + 1))
        obtain ⟨y, hy⟩ : ∃ y, mostTo l i = y := ⟨_, rfl⟩
        rw [hy] at HMX hm1 ⊢
        clear hx hy
        by_cases hxy : y < x + 1
        · have HM2 : Hid (mostTo l (i + 1) = x + 1) := (by rw [HMX.out]; omega : mostTo l (i + 1) = x + 1)
          go_wp2
          go_roundw
          case rel => exact ⟨i + 1, by omega, by go_num, by rw [HM2.out]; go_num, hb.out⟩
          case measure => simp only [intOf]; omega
        · have HM2 : Hid (mostTo l (i + 1) = y) := (by rw [HMX.out]; omega : mostTo l (i + 1) = y)
          go_wp2
          go_roundw
          case rel => exact ⟨i + 1, by omega, by go_num, by rw [HM2.out], hb.out⟩
          case measure => simp only [intOf]; omega
      · obtain rfl : i = l.length := by omega
        go_wp2
        go_ret
        exact ⟨rfl, hb.out⟩
  · have hl0 : l.length = 0 := by omega
    have HM0 : Hid (mostTo l l.length = 0) := (by rw [hl0]; rfl : mostTo l l.length = 0)
    rw [HM0.out, hl0]
    clear g hx
    go_enter Try.func92, Try.ntmps92
    go_wp2
    go_loopw [3, 4] (fun v3 v4 wr => v4 = .int .i64 0 ∧ v3 = .int .i64 0 ∧ Hid (Below w.heap.size w wr)) (fun _ v4 _ => 0)
    case atStart => exact ⟨rfl, rfl, HB.out⟩
    case round =>
      clear HB
      rename World => W1
      obtain ⟨rfl, rfl, hb⟩ := hrel
      go_wp2
      go_ret
      exact ⟨rfl, hb.out⟩
end Go.Proofs.Ytajmogojekichaa
/- The walk of alex.rows. -/
namespace Go.Proofs.Ytajmogojekichaa
open Go.RowKit

theorem infoTermss : (Try.prog.info? 130).map (fun i => (i.zero, i.size, i.bytes)) = some (some (.slice none 0 0), 1, 24) := by kernel_rfl
/-- A table of polynomials under way: k rows are there. -/
structure TblAt (B n m gt k : Nat) (gs : Nat → Nat) (vals : Nat → Nat → Value) (G : Nat → Nat → Int × Int) (wr : World) : Prop where
  outer : wr.ownsRow B 130 1 (.slice (some ⟨gt, 0, none⟩) n n) n (valsL n fun i => if i < k then .slice (some ⟨gs i, 0, none⟩) m m else .slice none 0 0)
  each : ∀ i, i < k → PlcAt B m (gs i) (vals i) (G i) wr
theorem PlcAt.keep {B m g q : Nat} {vals : Nat → Value} {F : Nat → Int × Int} {w w' : World} (h : PlcAt B m g vals F w) (hg : w.grownBy w' (some q)) {B' e s n : Nat} {v : Value} {xs : List Value} (ho : w.ownsRow B' e s v n xs) (hv : v.ownBlock = some q) (h1 : 63 ≠ e) (h2 : 124 ≠ e) : PlcAt B m g vals F w' :=
  ⟨h.row.kept hg (by rw [← hv]; exact own_ne h.row ho h1), fun j hj => (h.each j hj).kept hg (by rw [← hv]; exact own_ne (h.each j hj) ho h2)⟩
theorem PlcAt.low {B B' m g : Nat} {vals : Nat → Value} {F : Nat → Int × Int} {w : World} (h : PlcAt B m g vals F w) (hB : B' ≤ B) : PlcAt B' m g vals F w := ⟨own_low h.row hB, fun j hj => own_low (h.each j hj) hB⟩
theorem TblAt.any {B n m gt k : Nat} {gs : Nat → Nat} {vals : Nat → Nat → Value} {G : Nat → Nat → Int × Int} {w w' : World} (h : TblAt B n m gt k gs vals G w) (hg : w.grownBy w' none) : TblAt B n m gt k gs vals G w' := ⟨own_any h.outer hg, fun i hi => (h.each i hi).any hg⟩
theorem TblAt.put {B n m gt k g : Nat} {gs : Nat → Nat} {vals : Nat → Nat → Value} {G : Nat → Nat → Int × Int} {vs : Nat → Value} {w : World} (h : TblAt B n m gt k gs vals G w) (hr : PlcAt B m g vs (G k) w) :
    TblAt B n m gt (k + 1) (fun i => if i = k then g else gs i) (fun i => if i = k then vs else vals i) G (w.setCell ⟨gt, k, none⟩ (.slice (some ⟨g, 0, none⟩) m m)) ∧ w.grownBy (w.setCell ⟨gt, k, none⟩ (.slice (some ⟨g, 0, none⟩) m m)) (some gt) := by
  have hst := h.outer.stored k (.slice (some ⟨g, 0, none⟩) m m)
  refine ⟨⟨?_, fun i hi => ?_⟩, hst.2⟩
  · rw [← valsL_set n (fun i => if i < k then .slice (some ⟨gs i, 0, none⟩) m m else .slice none 0 0) _ k (.slice (some ⟨g, 0, none⟩) m m) fun j _ => by
      by_cases e : j = k
      · rw [if_pos e, if_pos (by omega), if_pos e]
      · rw [if_neg e, if_neg e]
        by_cases h2 : j < k
        · rw [if_pos h2, if_pos (by omega)]
        · rw [if_neg h2, if_neg (by omega)]]
    exact hst.1
  · by_cases e : i = k
    · rw [if_pos e, if_pos e, e]
      exact hr.keep hst.2 h.outer rfl (by decide) (by decide)
    · rw [if_neg e, if_neg e]
      exact (h.each i (by omega)).keep hst.2 h.outer rfl (by decide) (by decide)

set_option maxHeartbeats 8000000 in
set_option maxRecDepth 100000 in
theorem alexRows_any (hAdd : AddOk) (a : Option Addr) (cap : Nat) (C : List Cr) (loops : Int) (ao : Option Addr) (co : Nat) (w : World) (hm : mayD C loops = true) (h10 : C.length ≤ 10) (hD : Crs w w.heap.size (.slice a C.length cap) C) (hO : Slots w w.heap.size (.slice ao (2 * C.length) co) (nats (ovL C (2 * C.length)))) :
    Calls Try.prog 136 #[.agg #[.slice a C.length cap, .int .i64 loops], .slice ao (2 * C.length) co] w fun e w' => ∃ gt, e = .returned (.slice (some ⟨gt, 0, none⟩) C.length C.length) ∧ (∃ gs vals, TblAt w.heap.size C.length (ovC C) gt C.length gs vals (alF C) w') ∧ Below w.heap.size w w' := by
  obtain ⟨i1, hj, hy0, hy1, hy2⟩ := info_parts infoTermss
  have HADD : Hid AddOk := hAdd
  have HM : Hid (mayD C loops = true) := hm
  have HD : Hid (Crs w w.heap.size (.slice a C.length cap) C) := hD
  have HO : Hid (Slots w w.heap.size (.slice ao (2 * C.length) co) (nats (ovL C (2 * C.length)))) := hO
  have HMO : Hid (∀ k, k ≤ 2 * C.length → mostTo (ovL C (2 * C.length)) k = rootsN (lowM C) (k + 1)) := fun k hk => mostTo_ov (lowM_least (ovE_lt hm)) (fun v h1 h2 => (lowM_least (ovE_lt hm)).pos (fun e he => ⟨(ovE_in hm e he).1.1, (ovE_in hm e he).2.1⟩) h2 h1) k hk
  have hoc : ovC C ≤ 21 := Nat.le_trans (rootsN_le _ _) (by omega)
  obtain ⟨W0, hW0⟩ : ∃ W, W = w.alloc (.cells #[.slice a C.length cap, .int .i64 loops] 24) := ⟨_, rfl⟩
  have HW0 : Hid (W0 = w.alloc (.cells #[.slice a C.length cap, .int .i64 loops] 24)) := hW0
  have HB0 : Hid (Below w.heap.size w W0) := (by rw [hW0]; exact (Below.refl _ _).alloc (Nat.le_refl _) _ : Below w.heap.size w W0)
  have HT0 : Hid (W0.heap[w.heap.size]? = some (.cells #[.slice a C.length cap, .int .i64 loops] 24 (0, 0))) := (by rw [hW0]; exact alloc_at rfl : W0.heap[w.heap.size]? = some (.cells #[.slice a C.length cap, .int .i64 loops] 24 (0, 0)))
  clear hm hD hO hAdd hW0
  go_enter Try.func136, Try.ntmps136
  go_wp2
  rw [← HW0.out]
  clear HW0
  have HX : Hid (∀ x, x ∈ ovL C (2 * C.length) → x < 21) := fun x hx => by
    obtain ⟨i, hi, rfl⟩ := List.mem_map.1 hx
    have := ovM_in HM.out (i + 1) (by omega) (by have := List.mem_range.1 hi; omega)
    omega
  obtain ⟨l, hl⟩ : ∃ l, ovL C (2 * C.length) = l := ⟨_, rfl⟩
  have HL : Hid (ovL C (2 * C.length) = l) := hl
  have HLL : Hid (l.length = 2 * C.length) := (by rw [← hl, ovL_len] : l.length = 2 * C.length)
  rw [hl] at HMO HO HX
  clear hl
  have HOC : Hid (∀ i, i < 2 * C.length → ∃ bo oo, ao = some ⟨bo, oo, none⟩ ∧ bo < w.heap.size ∧ ∀ j, j < 2 * C.length → w.cell? ⟨bo, oo + j, none⟩ = some (.int .i64 (l.getD j 0 : Nat))) := fun i hi => by
    obtain ⟨a', c', e', f⟩ := HO.out
    rw [nats_len] at e' f
    injection e' with e1 e2 e3
    obtain ⟨bo, oo, eb, hlt, hc⟩ := f (by have := HLL.out; omega)
    refine ⟨bo, oo, e1.trans eb, hlt, fun j hj => ?_⟩
    rw [hc j (by rw [HLL.out]; exact hj), List.getD_eq_getElem?_getD, nats_get l j (by rw [HLL.out]; exact hj)]
    rfl
  go_loopw [5, 13] (fun v5 v13 wr => ∃ i : Nat, i ≤ 2 * C.length ∧ v13 = .int .i64 (i : Nat) ∧ v5 = .int .i64 (mostTo l i : Nat) ∧ Hid (Below W0.heap.size W0 wr)) (fun _ v13 _ => 2 * C.length - (intOf v13).toNat)
  case atStart => exact ⟨0, Nat.zero_le _, rfl, rfl, Below.refl _ _⟩
  case round =>
    rename World => W1
    obtain ⟨i, hi1, rfl, rfl, hb⟩ := hrel
    have hm1 := mostTo_le l 21 i (by rw [HLL.out]; exact hi1) HX.out
    have HBW : Hid (Below w.heap.size w W1) := HB0.out.trans (hb.out.mono HB0.out.size)
    by_cases hil : i < 2 * C.length
    · obtain ⟨bo, oo, ea, hbo, hc⟩ := HOC.out i hil
      have HEA : Hid (ao = some ⟨bo, oo, none⟩) := ea
      obtain ⟨x, hx⟩ : ∃ x, l.getD i 0 = x := ⟨_, rfl⟩
      have hxB : x < 21 := by rw [← hx]; exact HX.out _ (by rw [List.getD_eq_getElem?_getD, List.getElem?_eq_getElem (by rw [HLL.out]; exact hil)]; exact List.getElem_mem _)
      have e0 : W1.cell? ⟨bo, oo + i, none⟩ = some (.int .i64 (x : Nat)) := by rw [← hx]; exact bcell HBW.out hbo (hc i hil)
      have HMX : Hid (mostTo l (i + 1) = max (mostTo l i) (x + 1)) := (by show max _ _ = _; rw [hx] : mostTo l (i + 1) = max (mostTo l i) (x + 1))
      obtain ⟨y, hy⟩ : ∃ y, mostTo l i = y := ⟨_, rfl⟩
      rw [hy] at HMX hm1 ⊢
      clear hx hy hc
      by_cases hxy : y < x + 1
      · have HM2 : Hid (mostTo l (i + 1) = x + 1) := (by rw [HMX.out]; omega : mostTo l (i + 1) = x + 1)
        go_wp2
        go_roundw
        case rel => exact ⟨i + 1, by omega, by go_num, by rw [HM2.out]; go_num, hb.out⟩
        case measure => simp only [intOf]; omega
      · have HM2 : Hid (mostTo l (i + 1) = y) := (by rw [HMX.out]; omega : mostTo l (i + 1) = y)
        go_wp2
        go_roundw
        case rel => exact ⟨i + 1, by omega, by go_num, by rw [HM2.out], hb.out⟩
        case measure => simp only [intOf]; omega
    · obtain rfl : i = 2 * C.length := by omega
      have HCN : Hid (mostTo l (2 * C.length) = ovC C) := HMO.out _ (Nat.le_refl _)
      rw [HCN.out]
      obtain ⟨j0, j1⟩ : W1.cell? ⟨w.heap.size, 0, none⟩ = some (.slice a C.length cap) ∧ W1.cell? ⟨w.heap.size, 1, none⟩ = some (.int .i64 loops) := by
        have q := (hb.out.block _ (Array.getElem?_eq_some_iff.1 HT0.out).1).trans HT0.out
        exact ⟨block_cell q rfl, block_cell q rfl⟩
      have hsz1 := HBW.out.size
      obtain ⟨m, hmm⟩ : ∃ m, ovC C = m := ⟨_, rfl⟩
      have HMM : Hid (ovC C = m) := hmm
      rw [hmm] at hoc ⊢
      clear hmm
      go_wp2_with (first | (at_make; refine wpList_make_full _ rfl _ _ 120 rfl w.heap.size 130 i1 (.slice none 0 0) 1 Try.underlying120 hj hy0 hy1 .i64 .i64 _ _ C.length rfl rfl rfl rfl (by rw [hy2]; omega) (by unfold maxLen; omega) (by omega) ?_; intro w2 hrow hg2; refine Hid.out ?_))
      refine Lib.hid ?_
      rw [made_nilsV] at hrow
      obtain ⟨gt, hgt⟩ : ∃ g, W1.heap.size = g := ⟨_, rfl⟩
      rw [hgt] at hrow ⊢
      have HT1 : Hid (TblAt w.heap.size C.length m gt 0 (fun _ => 0) (fun _ _ => .slice none 0 0) (alF C) w2) := ⟨hrow, fun i hi => absurd hi (Nat.not_lt_zero _)⟩
      have HB2 : Hid (Below w.heap.size w w2) := HBW.out.grown hg2 hsz1 (fun q hq => by cases hq)
      have q0 : w2.cell? ⟨w.heap.size, 0, none⟩ = some (.slice a C.length cap) := by
        have h1 := (hb.out.block _ (Array.getElem?_eq_some_iff.1 HT0.out).1).trans HT0.out
        exact block_cell ((hg2.block _ (Array.getElem?_eq_some_iff.1 h1).1 (by simp)).trans h1) rfl
      clear hrow hg2 hgt j0 j1
      go_wp2
      go_loopw [29] (fun v29 wr => ∃ k : Nat, k ≤ C.length ∧ v29 = .int .i64 (k : Nat) ∧ Hid ((∃ gs vals, TblAt w.heap.size C.length m gt k gs vals (alF C) wr) ∧ Below w.heap.size w wr)) (fun v29 _ => C.length - (intOf v29).toNat)
      case atStart => exact ⟨0, Nat.zero_le _, rfl, ⟨_, _, HT1.out⟩, HB2.out⟩
      case round =>
        clear HT1 HB2 q0
        rename World => W3
        obtain ⟨k, hkn, rfl, hp⟩ := hrel
        by_cases hkl : k < C.length
        · obtain ⟨gs, vals, hT⟩ := hp.out.1
          have HT : Hid (TblAt w.heap.size C.length m gt k gs vals (alF C) W3) := hT
          have HB3 : Hid (Below w.heap.size w W3) := hp.out.2
          obtain ⟨b, off, ea, hbw, hC⟩ : ∃ b off, a = some ⟨b, off, none⟩ ∧ b < w.heap.size ∧ CrossAt w b off C := by
            obtain ⟨a', c', e', _, f⟩ := HD.out
            injection e' with e1 e2 e3
            obtain ⟨b, off, eb, hlt, hc⟩ := f (by omega)
            exact ⟨b, off, e1.trans eb, hlt, hc⟩
          obtain ⟨bo, oo, eao, hbo, hcO⟩ := HOC.out 0 (by omega)
          have HAO : Hid (ao = some ⟨bo, oo, none⟩) := eao
          have HEA : Hid (a = some ⟨b, off, none⟩) := ea
          obtain ⟨e0, e1, e2, e3, e4⟩ := (hC.on hp.out.2 hbw) k hkl
          have fa := may_fit HM.out k 0 hkl (by omega)
          have fb := may_fit HM.out k 1 hkl (by omega)
          have fc := may_fit HM.out k 2 hkl (by omega)
          have fd := may_fit HM.out k 3 hkl (by omega)
          have HX : Hid ((C.getD k Cr.none).arc 0 = (C.getD k Cr.none).a ∧ (C.getD k Cr.none).arc 1 = (C.getD k Cr.none).b ∧ (C.getD k Cr.none).arc 2 = (C.getD k Cr.none).c ∧ (C.getD k Cr.none).arc 3 = (C.getD k Cr.none).d) := ⟨rfl, rfl, rfl, rfl⟩
          have fa1 := fa.1
          have fa2 := fa.2.1
          have fb1 := fb.1
          have fb2 := fb.2.1
          have fc1 := fc.1
          have fc2 := fc.2.1
          have fd1 := fd.1
          have fd2 := fd.2.1
          rw [HX.out.1] at fa1 fa2
          rw [HX.out.2.1] at fb1 fb2
          rw [HX.out.2.2.1] at fc1 fc2
          rw [HX.out.2.2.2] at fd1 fd2
          have HAL : Hid (alF C k = rowF (outC' C (C.getD k Cr.none)) (inC C (C.getD k Cr.none)) (ovM C (C.getD k Cr.none).b.toNat)) := (rfl : alF C k = rowF (outC' C (C.getD k Cr.none)) (inC C (C.getD k Cr.none)) (ovM C (C.getD k Cr.none).b.toNat))
          generalize hcr : C.getD k Cr.none = cr at *
          clear hcr HX fa fb fc fd
          obtain ⟨za, zb, zc, zd, P⟩ := cr
          simp only at e0 e1 e2 e3 e4 fa1 fa2 fb1 fb2 fc1 fc2 fd1 fd2
          obtain ⟨xa, rfl⟩ : ∃ x : Nat, za = (x : Int) := ⟨za.toNat, by omega⟩
          obtain ⟨xb, rfl⟩ : ∃ x : Nat, zb = (x : Int) := ⟨zb.toNat, by omega⟩
          obtain ⟨xc, rfl⟩ : ∃ x : Nat, zc = (x : Int) := ⟨zc.toNat, by omega⟩
          obtain ⟨xd, rfl⟩ : ∃ x : Nat, zd = (x : Int) := ⟨zd.toNat, by omega⟩
          have hov : ∀ x, 1 ≤ x → x ≤ 2 * C.length → w.cell? ⟨bo, oo + (x - 1), none⟩ = some (.int .i64 (ovM C x : Nat)) ∧ ovM C x < m := fun x h1 h2 => by
            refine ⟨?_, by rw [← HMM.out]; exact ovM_in HM.out x h1 h2⟩
            rw [hcO (x - 1) (by omega), ← HL.out]
            have : (ovL C (2 * C.length)).getD (x - 1) 0 = ovM C (x - 1 + 1) := by simp [ovL, List.getD_eq_getElem?_getD, show x - 1 < 2 * C.length by omega]
            rw [this, show x - 1 + 1 = x by omega]
          have oa := hov xa (by omega) (by omega)
          have ob := hov xb (by omega) (by omega)
          have oc := hov xc (by omega) (by omega)
          obtain ⟨X0, hX0⟩ : ∃ X, X = W3.alloc (.cells #[.int .i64 (xa : Nat), .int .i64 (xb : Nat), .int .i64 (xc : Nat), .int .i64 (xd : Nat), .bool P] 99) := ⟨_, rfl⟩
          have HX0 : Hid (X0 = W3.alloc (.cells #[.int .i64 (xa : Nat), .int .i64 (xb : Nat), .int .i64 (xc : Nat), .int .i64 (xd : Nat), .bool P] 99)) := hX0
          have HBX : Hid (Below w.heap.size w X0) := (by rw [hX0]; exact hp.out.2.alloc hp.out.2.size _ : Below w.heap.size w X0)
          have HTX : Hid (TblAt w.heap.size C.length m gt k gs vals (alF C) X0) := (by rw [hX0]; exact hT.any (World.grownBy_alloc _ _ none) : TblAt w.heap.size C.length m gt k gs vals (alF C) X0)
          have hbk : X0.heap[W3.heap.size]? = some (.cells #[.int .i64 (xa : Nat), .int .i64 (xb : Nat), .int .i64 (xc : Nat), .int .i64 (xd : Nat), .bool P] 99 (0, 0)) := by rw [hX0]; exact alloc_at rfl
          have k0 : X0.cell? ⟨W3.heap.size, 0, none⟩ = some (.int .i64 (xa : Nat)) := block_cell hbk rfl
          have k1 : X0.cell? ⟨W3.heap.size, 1, none⟩ = some (.int .i64 (xb : Nat)) := block_cell hbk rfl
          have k2 : X0.cell? ⟨W3.heap.size, 2, none⟩ = some (.int .i64 (xc : Nat)) := block_cell hbk rfl
          have k3 : X0.cell? ⟨W3.heap.size, 3, none⟩ = some (.int .i64 (xd : Nat)) := block_cell hbk rfl
          have k4 : X0.cell? ⟨W3.heap.size, 4, none⟩ = some (.bool P) := block_cell hbk rfl
          have HCR : Hid (∀ W', Below w.heap.size w W' → Calls Try.prog 173 #[.agg #[.int .i64 (xa : Nat), .int .i64 (xb : Nat), .int .i64 (xc : Nat), .int .i64 (xd : Nat), .bool P], .slice ao (2 * C.length) co, .int .i64 (m : Nat)] W' fun e w' => ∃ g, e = .returned (.slice (some ⟨g, 0, none⟩) m m) ∧ (∃ vals, PlcAt W'.heap.size m g vals (alF C k) w') ∧ Below W'.heap.size W' w') := fun W' hW => by
            refine (alexRow_any HADD.out C xa xb xc xd P (ovM C xa) (ovM C xb) (ovM C xc) m ao co bo oo W' (by omega) (by omega) HAO.out (Nat.lt_of_lt_of_le hbo hW.size) (by omega) (by omega) (by omega) oa.2 ob.2 oc.2 (bcell hW hbo oa.1) (bcell hW hbo ob.1) (bcell hW hbo oc.1)).mono ?_
            rintro e w' ⟨g, vs, e1, hp, hb⟩
            refine ⟨g, e1, ⟨vs, ?_⟩, hb⟩
            rw [HAL.out]
            unfold outC' inC
            simp only [Int.toNat_natCast]
            exact hp
          have hltX : W3.heap.size < X0.heap.size := (Array.getElem?_eq_some_iff.1 hbk).1
          clear hX0 hbk hT hC hcO hov oa ob oc eao
          go_upto_region 11 with (fail)
          rw [← HX0.out]
          try rw [← HEA.out]
          clear HX0 e0 e1 e2 e3 e4 ea
          go_wp2_with (go_at_call 173; refine (HCR.out _ HBX.out).mono ?_; rintro e9 w5 ⟨g, rfl, hpl, hb5⟩; refine Hid.out ?_)
          refine Lib.hid ?_
          obtain ⟨vs, hpl⟩ := hpl
          have hsX := HBX.out.size
          have hPU := (HTX.out.any (grown_below hb5 none)).put (hpl.low hsX)
          have HN5 : Hid ((∃ gs vals, TblAt w.heap.size C.length m gt (k + 1) gs vals (alF C) (w5.setCell ⟨gt, k, none⟩ (.slice (some ⟨g, 0, none⟩) m m))) ∧ Below w.heap.size w (w5.setCell ⟨gt, k, none⟩ (.slice (some ⟨g, 0, none⟩) m m))) := ⟨⟨_, _, hPU.1⟩, (HBX.out.trans (hb5.mono hsX)).grown hPU.2 (Nat.le_trans hsX hb5.size) (fun q hq => by have := Option.some.inj hq; have := (HTX.out.outer.lt gt rfl).1; omega)⟩
          have ho5 := (HTX.out.any (grown_below hb5 none)).outer
          have c5 : w5.cell? ⟨gt, k, none⟩ = some (.slice none 0 0) := by rw [ho5.cellAt k (by omega), valsL_get _ _ _ hkl, if_neg (Nat.lt_irrefl k)]
          have z5 : w5.frozen? ⟨gt, k, none⟩ = false := ho5.frozenAt k
          have l5 : gt < w5.heap.size := (ho5.lt gt rfl).2
          clear hPU hpl hb5 ho5 k0 k1 k2 k3 k4
          go_wp2
          go_roundw
          case rel => exact ⟨k + 1, by omega, by go_num, HN5.out⟩
          case measure => simp only [intOf]; omega
        · obtain rfl : k = C.length := by omega
          go_wp2
          go_ret
          exact ⟨gt, rfl, by rw [HMM.out]; exact hp.out.1, hp.out.2⟩
end Go.Proofs.Ytajmogojekichaa
/- The walk of alex.Table. -/
namespace Go.Proofs.Ytajmogojekichaa
open Go.RowKit

set_option maxHeartbeats 4000000 in
set_option maxRecDepth 100000 in
theorem table_no (hFR : FaceRingsOk) (v : Value) (C : List Cr) (loops : Int) (w : World) (hn : noN C loops ≠ 0) (h : Crs w w.heap.size v C) :
    Calls Try.prog 88 #[.agg #[v, .int .i64 loops]] w fun e w' => e = .returned (.tuple #[.slice none 0 0, .int .i64 (noN C loops)]) ∧ Below w.heap.size w w' := by
  have HC : Hid (Crs w w.heap.size v C) := h
  obtain ⟨a, cap, rfl, -, -⟩ := h
  have HF : Hid (∀ W, Crs W W.heap.size (.slice a C.length cap) C → Calls Try.prog 135 #[.agg #[.slice a C.length cap, .int .i64 loops]] W fun e w' => e = .returned (.tuple #[.slice none 0 0, .int .i64 (noN C loops)]) ∧ Below W.heap.size W w') := fun W hW => overs_no hFR _ C loops W hn hW
  generalize noN C loops = r at hn HF
  have hr0 : (r == 0) = false := beq_eq_false_iff_ne.2 hn
  have hr1 : (r != 0) = true := by simp [hn]
  have HB1 : Hid (Below w.heap.size w (w.alloc (.cells #[.slice a C.length cap, .int .i64 loops] 24))) := (Below.refl _ _).alloc (Nat.le_refl _) _
  go_enter Try.func88, Try.ntmps88
  go_wp2_with (go_at_call 135; refine (HF.out _ (HC.out.up HB1.out)).mono ?_; rintro e9 w2 ⟨rfl, hb2⟩; refine Hid.out ?_)
  refine Lib.hid ?_
  have HB2 : Hid (Below w.heap.size w w2) := HB1.out.trans (hb2.mono HB1.out.size)
  clear hb2
  go_wp2
  go_ret2
  exact ⟨rfl, HB2.out⟩

set_option maxHeartbeats 4000000 in
set_option maxRecDepth 100000 in
theorem table_size (hFR : FaceRingsOk) (v : Value) (C : List Cr) (loops : Int) (w : World) (hn : noN C loops = 0) (h10 : 10 < C.length) (h : Crs w w.heap.size v C) :
    Calls Try.prog 88 #[.agg #[v, .int .i64 loops]] w fun e w' => e = .returned (.tuple #[.slice none 0 0, .int .i64 2]) ∧ Below w.heap.size w w' := by
  have HC : Hid (Crs w w.heap.size v C) := h
  have HFA : Hid FaceRingsOk := hFR
  have HN : Hid (noN C loops = 0) := hn
  obtain ⟨a, cap, rfl, -, -⟩ := h
  obtain ⟨w0, hw0⟩ : ∃ w0, w0 = w.alloc (.cells #[.slice a C.length cap, .int .i64 loops] 24) := ⟨_, rfl⟩
  have HW0 : Hid (w0 = w.alloc (.cells #[.slice a C.length cap, .int .i64 loops] 24)) := hw0
  have HB0 : Hid (Below w.heap.size w w0) := (by rw [hw0]; exact (Below.refl _ _).alloc (Nat.le_refl _) _ : Below w.heap.size w w0)
  have HT0 : Hid (w0.heap[w.heap.size]? = some (.cells #[.slice a C.length cap, .int .i64 loops] 24 (0, 0))) := (by rw [hw0]; exact alloc_at rfl : w0.heap[w.heap.size]? = some (.cells #[.slice a C.length cap, .int .i64 loops] 24 (0, 0)))
  have hz1 : decide ((10 : Int) < (C.length : Int)) = true := by simp; omega
  clear hw0 hn hFR
  go_enter Try.func88, Try.ntmps88
  go_wp2_with (go_at_call 135; rw [← HW0.out]; refine (overs_yes HFA.out _ C loops _ HN.out (HC.out.up HB0.out)).mono ?_; rintro e9 w2 ⟨ao, co, rfl, hsl, hb2⟩; refine Hid.out ?_)
  refine Lib.hid ?_
  have HB2 : Hid (Below w.heap.size w w2) := HB0.out.trans (hb2.mono HB0.out.size)
  have q := (hb2.block _ (Array.getElem?_eq_some_iff.1 HT0.out).1).trans HT0.out
  have t0 : w2.cell? ⟨w.heap.size, 0, none⟩ = some (.slice a C.length cap) := block_cell q rfl
  have t1 : w2.cell? ⟨w.heap.size, 1, none⟩ = some (.int .i64 loops) := block_cell q rfl
  clear hb2 hsl q
  go_wp2
  go_ret2
  exact ⟨rfl, HB2.out⟩

set_option maxHeartbeats 4000000 in
set_option maxRecDepth 100000 in
theorem table_yes (hFR : FaceRingsOk) (hAdd : AddOk) (v : Value) (C : List Cr) (loops : Int) (w : World) (hn : noN C loops = 0) (h10 : C.length ≤ 10) (h : Crs w w.heap.size v C) :
    Calls Try.prog 88 #[.agg #[v, .int .i64 loops]] w fun e w' => ∃ gt, e = .returned (.tuple #[.slice (some ⟨gt, 0, none⟩) C.length C.length, .int .i64 0]) ∧ (∃ gs vals, TblAt w.heap.size C.length (ovC C) gt C.length gs vals (alF C) w') ∧ Below w.heap.size w w' := by
  have HC : Hid (Crs w w.heap.size v C) := h
  have HFA : Hid FaceRingsOk := hFR
  have HADD : Hid AddOk := hAdd
  have HN : Hid (noN C loops = 0) := hn
  have HM : Hid (mayD C loops = true) := (noN_zero hn).1
  obtain ⟨a, cap, rfl, -, -⟩ := h
  obtain ⟨w0, hw0⟩ : ∃ w0, w0 = w.alloc (.cells #[.slice a C.length cap, .int .i64 loops] 24) := ⟨_, rfl⟩
  have HW0 : Hid (w0 = w.alloc (.cells #[.slice a C.length cap, .int .i64 loops] 24)) := hw0
  have HB0 : Hid (Below w.heap.size w w0) := (by rw [hw0]; exact (Below.refl _ _).alloc (Nat.le_refl _) _ : Below w.heap.size w w0)
  have HT0 : Hid (w0.heap[w.heap.size]? = some (.cells #[.slice a C.length cap, .int .i64 loops] 24 (0, 0))) := (by rw [hw0]; exact alloc_at rfl : w0.heap[w.heap.size]? = some (.cells #[.slice a C.length cap, .int .i64 loops] 24 (0, 0)))
  have hz1 : decide ((10 : Int) < (C.length : Int)) = false := by simp; omega
  clear hw0 hn hFR hAdd
  go_enter Try.func88, Try.ntmps88
  go_wp2_with (go_at_call 135; rw [← HW0.out]; refine (overs_yes HFA.out _ C loops _ HN.out (HC.out.up HB0.out)).mono ?_; rintro e9 w2 ⟨ao, co, rfl, hsl, hb2⟩; refine Hid.out ?_)
  refine Lib.hid ?_
  have HB2 : Hid (Below w.heap.size w w2) := HB0.out.trans (hb2.mono HB0.out.size)
  have q := (hb2.block _ (Array.getElem?_eq_some_iff.1 HT0.out).1).trans HT0.out
  have t0 : w2.cell? ⟨w.heap.size, 0, none⟩ = some (.slice a C.length cap) := block_cell q rfl
  have t1 : w2.cell? ⟨w.heap.size, 1, none⟩ = some (.int .i64 loops) := block_cell q rfl
  have hs2 := HB2.out.size
  have HCR : Hid (Calls Try.prog 136 #[.agg #[.slice a C.length cap, .int .i64 loops], .slice ao (2 * C.length) co] w2 fun e w' => ∃ gt, e = .returned (.slice (some ⟨gt, 0, none⟩) C.length C.length) ∧ (∃ gs vals, TblAt w2.heap.size C.length (ovC C) gt C.length gs vals (alF C) w') ∧ Below w2.heap.size w2 w') := alexRows_any HADD.out a cap C loops ao co w2 HM.out h10 (HC.out.up HB2.out) hsl
  clear hb2 hsl q
  go_wp2_with (go_at_call 136; refine HCR.out.mono ?_; rintro e9 w3 ⟨gt, rfl, hT, hb3⟩; refine Hid.out ?_)
  refine Lib.hid ?_
  have HB3 : Hid (Below w.heap.size w w3) := HB2.out.trans (hb3.mono hs2)
  have HTT : Hid (∃ gs vals, TblAt w.heap.size C.length (ovC C) gt C.length gs vals (alF C) w3) := (by
    obtain ⟨gs, vals, h⟩ := hT
    exact ⟨gs, vals, own_low h.outer hs2, fun i hi => (h.each i hi).low hs2⟩ : ∃ gs vals, TblAt w.heap.size C.length (ovC C) gt C.length gs vals (alF C) w3)
  clear hT hb3
  go_wp2
  go_ret2
  exact ⟨gt, rfl, HTT.out, HB3.out⟩
end Go.Proofs.Ytajmogojekichaa

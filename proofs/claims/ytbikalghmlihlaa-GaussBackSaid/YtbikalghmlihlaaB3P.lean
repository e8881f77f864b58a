/- Several texts of the proof, one behind the other. -/
import Derived.Test.YtbikalghmlihlaaB2
import Derived.Test.YtbikalghmlihlaaK1P
/- The walk of gauss.pass. -/
namespace Go.Proofs.Ytbikalghmlihlaa
open Go.RowKit

theorem cells_set (C : List Cr) (i : Nat) (hi : i < C.length) (r : Nat) (hr : r < 5) (v : Value) (x : Cr) (hx : (crossCells [C.getD i Cr.none]).set r v = crossCells [x]) : (crossCells C).set (i * 5 + r) v = crossCells (C.set i x) := by
  induction C generalizing i with
  | nil => simp at hi
  | cons t l ih =>
    have e : ∀ y : Cr, ∀ m : List Cr, crossCells (y :: m) = crossCells [y] ++ crossCells m := fun y m => by simp [crossCells]
    have el : (crossCells [t]).length = 5 := by simp [crossCells]
    cases i with
    | zero =>
      rw [List.set_cons_zero, e t l, e x l, Nat.zero_mul, Nat.zero_add, List.set_append_left _ _ (by rw [el]; exact hr)]
      rw [show (t :: l).getD 0 Cr.none = t from rfl] at hx
      rw [hx]
    | succ i =>
      rw [List.set_cons_succ, e t l, e t (l.set i x), List.set_append_right _ _ (by rw [el]; omega), el, show (i + 1) * 5 + r - 5 = i * 5 + r by omega]
      rw [ih i (by simpa using hi) (by simpa using hx)]
theorem set_getD (C : List Cr) (i : Nat) (x : Cr) (h : i < C.length) : (C.set i x).getD i Cr.none = x := by
  simp [List.getD_eq_getElem?_getD, h]
/-- A crossing that is passed. -/
def passC (x : Cr) (over : Bool) (fr to : Int) : Cr :=
  if over = false then { x with a := fr, c := to } else if x.plus = true then { x with d := fr, b := to } else { x with b := fr, d := to }
theorem passC_plus (x : Cr) (over : Bool) (fr to : Int) : (passC x over fr to).plus = x.plus := by
  unfold passC
  split
  · rfl
  · split <;> rfl

set_option maxHeartbeats 4000000 in
set_option maxRecDepth 100000 in
theorem pass_any (g n cg B : Nat) (Cs : List Cr) (c : Nat) (over : Bool) (fr to : Int) (w : World) (hn : n = Cs.length) (hc : c < Cs.length) (hrow : w.ownsRow B 114 5 (.slice (some ⟨g, 0, none⟩) n cg) n (crossCells Cs)) :
    Calls Try.prog 130 #[.pointer (some ⟨g, c * 5, none⟩), .bool over, .int .i64 fr, .int .i64 to] w fun e w' => e = .returned (.tuple #[]) ∧ w'.ownsRow B 114 5 (.slice (some ⟨g, 0, none⟩) n cg) n (crossCells (Cs.set c (passC (Cs.getD c Cr.none) over fr to))) ∧ w.grownBy w' (some g) := by
  have HR : Hid (w.ownsRow B 114 5 (.slice (some ⟨g, 0, none⟩) n cg) n (crossCells Cs)) := hrow
  obtain ⟨q0, q1, q2, q3, q4⟩ := cells_get Cs c hc
  have hgl := (hrow.lt g rfl).2
  have c0 := hrow.cellAt (c * 5) (by omega)
  have c1 := hrow.cellAt (c * 5 + 1) (by omega)
  have c2 := hrow.cellAt (c * 5 + 2) (by omega)
  have c3 := hrow.cellAt (c * 5 + 3) (by omega)
  have c4 := hrow.cellAt (c * 5 + 4) (by omega)
  rw [q0] at c0
  rw [q1] at c1
  rw [q2] at c2
  rw [q3] at c3
  rw [q4] at c4
  have z0 := hrow.frozenAt (c * 5)
  have z1 := hrow.frozenAt (c * 5 + 1)
  have z2 := hrow.frozenAt (c * 5 + 2)
  have z3 := hrow.frozenAt (c * 5 + 3)
  obtain ⟨x, hx⟩ : ∃ x, Cs.getD c Cr.none = x := ⟨_, rfl⟩
  have HX : Hid (Cs.getD c Cr.none = x) := hx
  rw [hx] at c0 c1 c2 c3 c4
  rw [hx]
  obtain ⟨xa, xb, xc, xd, xp⟩ := x
  simp only at c0 c1 c2 c3 c4
  clear hrow q0 q1 q2 q3 q4 hx
  cases over with
  | false =>
    go_enter Try.func130, Try.ntmps130
    go_wp2
    refine bodyPost_end (v := .tuple #[]) (results_none rfl _ _ _) rfl ?_
    have hs1 := HR.out.stored (c * 5) (.int .i64 fr)
    rw [show c * 5 = c * 5 + 0 from rfl, cells_set Cs c hc 0 (by omega) (.int .i64 fr) ⟨fr, xb, xc, xd, xp⟩ (by rw [HX.out]; rfl)] at hs1
    have hs2 := hs1.1.stored (c * 5 + 2) (.int .i64 to)
    rw [cells_set (Cs.set c ⟨fr, xb, xc, xd, xp⟩) c (by simpa using hc) 2 (by omega) (.int .i64 to) ⟨fr, xb, to, xd, xp⟩ (by rw [set_getD Cs c _ hc]; rfl), List.set_set] at hs2
    exact ⟨rfl, hs2.1, grown_trans hs1.2 hs2.2⟩
  | true =>
    cases xp with
    | true =>
      go_enter Try.func130, Try.ntmps130
      go_wp2
      refine bodyPost_end (v := .tuple #[]) (results_none rfl _ _ _) rfl ?_
      have hs1 := HR.out.stored (c * 5 + 3) (.int .i64 fr)
      rw [cells_set Cs c hc 3 (by omega) (.int .i64 fr) ⟨xa, xb, xc, fr, true⟩ (by rw [HX.out]; rfl)] at hs1
      have hs2 := hs1.1.stored (c * 5 + 1) (.int .i64 to)
      rw [cells_set (Cs.set c ⟨xa, xb, xc, fr, true⟩) c (by simpa using hc) 1 (by omega) (.int .i64 to) ⟨xa, to, xc, fr, true⟩ (by rw [set_getD Cs c _ hc]; rfl), List.set_set] at hs2
      exact ⟨rfl, hs2.1, grown_trans hs1.2 hs2.2⟩
    | false =>
      go_enter Try.func130, Try.ntmps130
      go_wp2
      refine bodyPost_end (v := .tuple #[]) (results_none rfl _ _ _) rfl ?_
      have hs1 := HR.out.stored (c * 5 + 1) (.int .i64 fr)
      rw [cells_set Cs c hc 1 (by omega) (.int .i64 fr) ⟨xa, fr, xc, xd, false⟩ (by rw [HX.out]; rfl)] at hs1
      have hs2 := hs1.1.stored (c * 5 + 3) (.int .i64 to)
      rw [cells_set (Cs.set c ⟨xa, fr, xc, xd, false⟩) c (by simpa using hc) 3 (by omega) (.int .i64 to) ⟨xa, fr, xc, to, false⟩ (by rw [set_getD Cs c _ hc]; rfl), List.set_set] at hs2
      exact ⟨rfl, hs2.1, grown_trans hs1.2 hs2.2⟩
end Go.Proofs.Ytbikalghmlihlaa
/- The walk of gauss.built. -/
namespace Go.Proofs.Ytbikalghmlihlaa
open Go.RowKit

/-- Signs, to be read. -/
def PlusAt (w : World) (B : Nat) (v : Value) (P : List Bool) : Prop := ∃ a cap, v = .slice a P.length cap ∧ (0 < P.length → ∃ b off, a = some ⟨b, off, none⟩ ∧ b < B ∧ ∀ k, k < P.length → w.cell? ⟨b, off + k, none⟩ = some (.bool (P.getD k false)))
theorem PlusAt.on {w w' : World} {B : Nat} {v : Value} {P : List Bool} (h : PlusAt w B v P) (hb : Below B w w') : PlusAt w' B v P := by
  obtain ⟨a, cap, rfl, f⟩ := h
  refine ⟨a, cap, rfl, fun h0 => ?_⟩
  obtain ⟨b, off, rfl, hlt, hc⟩ := f h0
  exact ⟨b, off, rfl, hlt, fun k hk => bcell hb hlt (hc k hk)⟩
/-- Crossings of which nothing but the signs is known, those of the first k. -/
def signC (P : List Bool) (k : Nat) : List Cr := (List.range P.length).map fun q => if q < k then { Cr.none with plus := P.getD q false } else Cr.none
theorem signC_len (P : List Bool) (k : Nat) : (signC P k).length = P.length := by simp [signC]
theorem signC_zero (P : List Bool) : signC P 0 = List.replicate P.length Cr.none := by
  simp only [signC, Nat.not_lt_zero, if_false]
  rw [List.map_const', List.length_range]
theorem signC_at (P : List Bool) (k q : Nat) (h : q < P.length) : (signC P k).getD q Cr.none = if q < k then { Cr.none with plus := P.getD q false } else Cr.none := by
  simp [signC, List.getD_eq_getElem?_getD, h]
theorem signC_next (P : List Bool) (k : Nat) (h : k < P.length) : (signC P k).set k { Cr.none with plus := P.getD k false } = signC P (k + 1) := by
  apply List.ext_getElem?
  intro q
  by_cases hq : q < P.length
  · rw [List.getElem?_set, signC_len]
    by_cases e : k = q
    · subst e
      simp [signC, h]
    · rw [if_neg e]
      simp only [signC, List.getElem?_map, List.getElem?_range hq, Option.map_some]
      by_cases h2 : q < k
      · rw [if_pos h2, if_pos (by omega)]
      · rw [if_neg h2, if_neg (by omega)]
  · rw [List.getElem?_eq_none (by simp [signC_len]; omega), List.getElem?_eq_none (by simp [signC_len]; omega)]
/-- A row's visits are laid, its first k; first: the arc that comes in at its first. -/
def bRow (first : Int) (V : Vi) (Cs : List Cr) : Nat → List Cr
  | 0 => Cs
  | k + 1 => (bRow first V Cs k).set (V.getD k (0, false)).1.toNat (passC ((bRow first V Cs k).getD (V.getD k (0, false)).1.toNat Cr.none) (V.getD k (0, false)).2 (wrap64 (first + (k : Int))) (wrap64 (first + if k + 1 = V.length then 0 else ((k + 1 : Nat) : Int))))
/-- The first j rows are laid; and the next row's first arc. -/
def bAll (P : List Bool) (L : List Vi) : Nat → List Cr × Int
  | 0 => (signC P P.length, 1)
  | j + 1 => (bRow (bAll P L j).2 (L.getD j []) (bAll P L j).1 (L.getD j []).length, wrap64 ((bAll P L j).2 + ((L.getD j []).length : Int)))
theorem bRow_len (first : Int) (V : Vi) (Cs : List Cr) (k : Nat) : (bRow first V Cs k).length = Cs.length := by
  induction k with
  | zero => rfl
  | succ k ih => simp [bRow, ih]
theorem bAll_len (P : List Bool) (L : List Vi) (j : Nat) : (bAll P L j).1.length = P.length := by
  induction j with
  | zero => exact signC_len P _
  | succ j ih => simp [bAll, bRow_len, ih]
theorem infoCr : (Try.prog.info? 114).map (fun i => (i.zero, i.size, i.bytes)) = some (some (.agg #[.int .i64 0, .int .i64 0, .int .i64 0, .int .i64 0, .bool false]), 5, 40) := by kernel_rfl
theorem made_crosses (n : Nat) : (madeCells (Value.agg #[.int .i64 0, .int .i64 0, .int .i64 0, .int .i64 0, .bool false]).cells (n * 5)).toList = crossCells (List.replicate n Cr.none) := by
  have e : (Value.agg #[.int .i64 0, .int .i64 0, .int .i64 0, .int .i64 0, .bool false]).cells = #[.int .i64 0, .int .i64 0, .int .i64 0, .int .i64 0, .bool false] := rfl
  rw [e]
  apply List.ext_getElem?
  intro j
  by_cases hj : j < n * 5
  · obtain ⟨q0, q1, q2, q3, q4⟩ := cells_get (List.replicate n Cr.none) (j / 5) (by simp; omega)
    have eg : (List.replicate n Cr.none).getD (j / 5) Cr.none = Cr.none := by
      rw [List.getD_eq_getElem?_getD, List.getElem?_replicate]; split <;> rfl
    rw [eg] at q0 q1 q2 q3 q4
    have hm : j % 5 = 0 ∨ j % 5 = 1 ∨ j % 5 = 2 ∨ j % 5 = 3 ∨ j % 5 = 4 := by omega
    simp only [madeCells]
    rcases hm with h | h | h | h | h
    · rw [show j / 5 * 5 = j by omega] at q0; rw [q0]; simp [hj, h, Cr.none]
    · rw [show j / 5 * 5 + 1 = j by omega] at q1; rw [q1]; simp [hj, h, Cr.none]
    · rw [show j / 5 * 5 + 2 = j by omega] at q2; rw [q2]; simp [hj, h, Cr.none]
    · rw [show j / 5 * 5 + 3 = j by omega] at q3; rw [q3]; simp [hj, h, Cr.none]
    · rw [show j / 5 * 5 + 4 = j by omega] at q4; rw [q4]; simp [hj, h, Cr.none]
  · rw [List.getElem?_eq_none (by simp [madeCells]; omega), List.getElem?_eq_none (by rw [cells_length]; simp; omega)]

/-- Where built stands. -/
structure BdAt (w : World) (B n : Nat) (loops : Int) (Cs : List Cr) (W : World) : Prop where
  rbox : W.heap[w.heap.size]? = some (.cells #[.slice none 0 0, .int .i64 0] 24 (0, 0))
  dbox : W.heap[B]? = some (.cells #[.slice (some ⟨w.heap.size + 1, 0, none⟩) n n, .int .i64 loops] 24 (0, 0))
  row : W.ownsRow w.heap.size 114 5 (.slice (some ⟨w.heap.size + 1, 0, none⟩) n n) n (crossCells Cs)
  bel : Below w.heap.size w W
theorem BdAt.alloc {w : World} {B n : Nat} {loops : Int} {Cs : List Cr} {W : World} (h : BdAt w B n loops Cs W) (o : Obj) : BdAt w B n loops Cs (W.alloc o) :=
  ⟨alloc_old h.rbox, alloc_old h.dbox, h.row.alloc o, h.bel.alloc h.bel.size o⟩
theorem BdAt.drew {w : World} {B n : Nat} {loops : Int} {Cs : List Cr} {W : World} (h : BdAt w B n loops Cs W) : BdAt w B n loops Cs W.drew :=
  ⟨h.rbox, h.dbox, h.row, h.bel.drew⟩
theorem BdAt.put {w : World} {B n : Nat} {loops : Int} {Cs Ds : List Cr} {W W' : World} (h : BdAt w B n loops Cs W) (hB : w.heap.size + 1 < B) (hg : W.grownBy W' (some (w.heap.size + 1))) (hr : W'.ownsRow w.heap.size 114 5 (.slice (some ⟨w.heap.size + 1, 0, none⟩) n n) n (crossCells Ds)) : BdAt w B n loops Ds W' :=
  ⟨(hg.block _ (Array.getElem?_eq_some_iff.1 h.rbox).1 (fun e => by have : w.heap.size = w.heap.size + 1 := Option.some.inj e; omega)).trans h.rbox,
   (hg.block _ (Array.getElem?_eq_some_iff.1 h.dbox).1 (fun e => by have : B = w.heap.size + 1 := Option.some.inj e; omega)).trans h.dbox, hr,
   h.bel.grown hg h.bel.size (fun q hq => by have := Option.some.inj hq; omega)⟩

set_option maxHeartbeats 8000000 in
set_option maxRecDepth 100000 in
theorem built_any (a : Option Addr) (cap : Nat) (L : List Vi) (ap : Option Addr) (cp : Nat) (P : List Bool) (loops : Int) (w : World) (h16 : P.length ≤ 16) (hlens : LensOk L) (hok : okL P.length L = true) (hL : VRows w w.heap.size (.slice a L.length cap) L) (hP : PlusAt w w.heap.size (.slice ap P.length cp) P) :
    Calls Try.prog 69 #[.slice a L.length cap, .slice ap P.length cp, .int .i64 loops] w fun e w' => ∃ v, e = .returned (.agg #[v, .int .i64 loops]) ∧ w'.ownsRow w.heap.size 114 5 v P.length (crossCells (bAll P L L.length).1) ∧ Below w.heap.size w w' := by
  obtain ⟨i2, hk, hx0, hx1, hx2⟩ := info_parts infoCr
  have HL : Hid (VRows w w.heap.size (.slice a L.length cap) L) := hL
  have HP : Hid (PlusAt w w.heap.size (.slice ap P.length cp) P) := hP
  have HOK : Hid (okL P.length L = true) := hok
  have hl1 := hlens.1
  have HLN : Hid (∀ j, j < L.length → (L.getD j []).length ≤ 140737488355328) := hlens.2
  obtain ⟨n, hn⟩ : ∃ n, P.length = n := ⟨_, rfl⟩
  have HN : Hid (P.length = n) := hn
  rw [hn] at h16 ⊢
  clear hL hlens hP hok hn
  go_enter Try.func69, Try.ntmps69
  go_wp2_with (first | (at_make; refine wpList_make_full _ rfl _ _ 22 rfl w.heap.size 114 i2 (.agg #[.int .i64 0, .int .i64 0, .int .i64 0, .int .i64 0, .bool false]) 5 Try.underlying22 hk hx0 hx1 .i64 .i64 _ _ n rfl rfl rfl rfl (by rw [hx2]; omega) (by unfold maxLen; omega) (by simp) ?_; intro w1 hrow hg1; refine Hid.out ?_))
  refine Lib.hid ?_
  rw [made_crosses] at hrow
  have hs0 : (w.alloc (Obj.cells #[Value.slice none 0 0, Value.int IntKind.i64 0] 24)).heap.size = w.heap.size + 1 := by simp
  rw [hs0] at hrow
  have hgB := (hrow.lt (w.heap.size + 1) rfl).2
  have HBD : Hid (BdAt w w1.heap.size n loops (signC P 0) (w1.alloc (.cells #[.slice (some ⟨w.heap.size + 1, 0, none⟩) n n, .int .i64 loops] 24))) :=
    ⟨alloc_old ((hg1.block _ (by simp) (by simp)).trans (alloc_at rfl)), alloc_at rfl, (by rw [signC_zero, HN.out]; exact hrow.alloc _), (((Below.refl _ _).alloc (Nat.le_refl _) _).grown hg1 (by simp) (fun k hk => by cases hk)).alloc (by omega) _⟩
  have hf0 : w.frozen? ⟨w.heap.size, 0, none⟩ = w.frozen? ⟨w.heap.size, 0, none⟩ := rfl
  clear hrow hg1 hs0 hf0
  go_wp2
  go_loopw [23] (fun v23 wr => ∃ k : Nat, k ≤ n ∧ v23 = .int .i64 (k : Nat) ∧ Hid (BdAt w w1.heap.size n loops (signC P k) wr)) (fun v23 _ => n - (intOf v23).toNat)
  case atStart => exact ⟨0, Nat.zero_le _, rfl, HBD.out⟩
  case round =>
    clear HBD
    rename World => W1
    obtain ⟨k, hkn, rfl, hbd⟩ := hrel
    by_cases hkl : k < n
    · obtain ⟨a', cap', ea, f⟩ := HP.out
      injection ea with ea1 ea2 ea3
      obtain ⟨b, off, eb, hbw, hc⟩ := f (by rw [HN.out]; omega)
      obtain rfl : ap = some ⟨b, off, none⟩ := ea1.trans eb
      have hp0 := hc k (by rw [HN.out]; exact hkl)
      obtain ⟨pk, hpk⟩ : ∃ pk, P.getD k false = pk := ⟨_, rfl⟩
      have HPK : Hid (P.getD k false = pk) := hpk
      rw [hpk] at hp0
      have c0 : W1.cell? ⟨b, off + k, none⟩ = some (.bool pk) := bcell hbd.out.bel hbw hp0
      have c1 : W1.cell? ⟨w1.heap.size, 0, none⟩ = some (.slice (some ⟨w.heap.size + 1, 0, none⟩) n n) := block_cell hbd.out.dbox rfl
      have hsW := hbd.out.bel.size
      have hgl := (hbd.out.row.lt (w.heap.size + 1) rfl).2
      have hBl : w1.heap.size < W1.heap.size := (Array.getElem?_eq_some_iff.1 hbd.out.dbox).1
      have z0 := hbd.out.row.frozenAt (k * 5 + 4)
      have hlen : k < (signC P k).length := by rw [signC_len, HN.out]; exact hkl
      have e0 := hbd.out.row.cellAt (k * 5 + 4) (by omega)
      rw [(cells_get (signC P k) k hlen).2.2.2.2, signC_at P k k (by rw [HN.out]; exact hkl), if_neg (by omega)] at e0
      have e0' : W1.cell? ⟨w.heap.size + 1, k * 5 + 4, none⟩ = some (.bool false) := e0
      have hst := hbd.out.row.stored (k * 5 + 4) (.bool pk)
      rw [cells_set (signC P k) k hlen 4 (by omega) (.bool pk) { Cr.none with plus := pk } (by rw [signC_at P k k (by rw [HN.out]; exact hkl), if_neg (by omega)]; rfl), ← HPK.out, signC_next P k (by rw [HN.out]; exact hkl), HPK.out] at hst
      have HNB : Hid (BdAt w w1.heap.size n loops (signC P (k + 1)) (W1.setCell ⟨w.heap.size + 1, k * 5 + 4, none⟩ (.bool pk))) := hbd.out.put hgB hst.2 hst.1
      have HSS : Hid ((W1.setCell ⟨w.heap.size + 1, k * 5 + 4, none⟩ (.bool pk)).drew.cell? ⟨b, off + k, none⟩ = some (.bool pk) ∧ (W1.setCell ⟨w.heap.size + 1, k * 5 + 4, none⟩ (.bool pk)).drew.cell? ⟨w1.heap.size, 0, none⟩ = some (.slice (some ⟨w.heap.size + 1, 0, none⟩) n n)) := ⟨bcell HNB.out.bel hbw hp0, block_cell HNB.out.dbox rfl⟩
      have hbl : b < W1.heap.size := by omega
      have hki : (k : Int) < (n : Int) := by omega
      clear f hc ea1 ea2 ea3 eb hpk e0 hst hp0
      go_wp2
      go_region_held3 (fun w' => w'.cell? ⟨b, off + k, none⟩ = some (.bool pk) ∧ w'.cell? ⟨w1.heap.size, 0, none⟩ = some (.slice (some ⟨w.heap.size + 1, 0, none⟩) n n)) (first | exact ⟨c0, c1⟩ | exact HSS.out) (fail)
      go_wp2
      go_roundw
      case rel => exact ⟨k + 1, by omega, by go_num, HNB.out.drew⟩
      case measure => simp only [intOf]; omega
    · obtain rfl : k = n := by omega
      have HB0 : Hid (BdAt w w1.heap.size k loops (bAll P L 0).1 W1) := (by show BdAt w w1.heap.size k loops (signC P P.length) W1; rw [HN.out]; exact hbd.out : BdAt w w1.heap.size k loops (bAll P L 0).1 W1)
      clear hbd hkn hkl
      go_wp2
      go_loopw [9, 38] (fun v9 v38 wr => ∃ j : Nat, j ≤ L.length ∧ v38 = .int .i64 (j : Nat) ∧ v9 = .int .i64 (bAll P L j).2 ∧ Hid (BdAt w w1.heap.size k loops (bAll P L j).1 wr)) (fun _ v38 _ => L.length - (intOf v38).toNat)
      case atStart => exact ⟨0, Nat.zero_le _, rfl, rfl, HB0.out⟩
      case round =>
        clear HB0
        rename World => W2
        obtain ⟨j, hjn, rfl, rfl, hbd⟩ := hrel
        by_cases hjl : j < L.length
        · obtain ⟨a', cap', ea, f⟩ := HL.out
          injection ea with ea1 ea2 ea3
          obtain ⟨b, off, eb, hbw, hc⟩ := f (by omega)
          obtain rfl : a = some ⟨b, off, none⟩ := ea1.trans eb
          obtain ⟨u, hu, ar, cr, rfl, fr⟩ := hc j hjl
          have hVl := HLN.out j hjl
          have HME : Hid (∀ q, q < (L.getD j []).length → okV k ((L.getD j []).getD q (0, false)) = true) := fun q hq => by
            have h := List.all_eq_true.1 HOK.out _ (mem_at L j q hjl hq)
            rw [HN.out] at h
            exact h
          have HNXT : Hid (bAll P L (j + 1) = (bRow (bAll P L j).2 (L.getD j []) (bAll P L j).1 (L.getD j []).length, wrap64 ((bAll P L j).2 + ((L.getD j []).length : Int)))) := (rfl : bAll P L (j + 1) = (bRow (bAll P L j).2 (L.getD j []) (bAll P L j).1 (L.getD j []).length, wrap64 ((bAll P L j).2 + ((L.getD j []).length : Int))))
          have HLE : Hid ((bAll P L j).1.length = k) := (by rw [bAll_len, HN.out] : (bAll P L j).1.length = k)
          have c0 : W2.cell? ⟨b, off + j, none⟩ = some (.slice ar (L.getD j []).length cr) := bcell hbd.out.bel hbw hu
          have hsW := hbd.out.bel.size
          have hbW : b < W2.heap.size := by omega
          obtain ⟨f0, hf0⟩ : ∃ f0, (bAll P L j).2 = f0 := ⟨_, rfl⟩
          obtain ⟨D, hD⟩ : ∃ D, (bAll P L j).1 = D := ⟨_, rfl⟩
          obtain ⟨V, hV⟩ : ∃ V, L.getD j [] = V := ⟨_, rfl⟩
          rw [hf0, hD, hV] at HNXT
          rw [hD] at hbd HLE
          rw [hV] at fr hVl HME c0
          rw [hf0]
          have HFR : Hid (0 < V.length → ∃ b off, ar = some ⟨b, off, none⟩ ∧ b < w.heap.size ∧ ∀ q, q < V.length → w.cell? ⟨b, off + q * 2, none⟩ = some (.int .i64 (V.getD q (0, false)).1) ∧ w.cell? ⟨b, off + q * 2 + 1, none⟩ = some (.bool (V.getD q (0, false)).2)) := fr
          have hji : (j : Int) < (L.length : Int) := by omega
          clear f hc hu ea1 ea2 ea3 eb hV fr hf0 hD
          have HBD2 : Hid (BdAt w w1.heap.size k loops D W2) := hbd
          clear hbd
          go_wp2
          go_loopw [44] (fun v44 ws => ∃ q : Nat, q ≤ V.length ∧ v44 = .int .i64 (q : Nat) ∧ Hid (BdAt w w1.heap.size k loops (bRow f0 V D q) ws)) (fun v44 _ => V.length - (intOf v44).toNat)
          case atStart => exact ⟨0, Nat.zero_le _, rfl, HBD2.out⟩
          case round =>
            clear HBD2 c0
            rename World => W3
            obtain ⟨q, hqn, rfl, hbd⟩ := hrel
            by_cases hql : q < V.length
            · obtain ⟨br, offr, rfl, hbr, hcr⟩ := HFR.out (by omega)
              obtain ⟨d0, d1⟩ := hcr q hql
              have HOX := HME.out q hql
              have HBR : Hid (bRow f0 V D (q + 1) = (bRow f0 V D q).set (V.getD q (0, false)).1.toNat (passC ((bRow f0 V D q).getD (V.getD q (0, false)).1.toNat Cr.none) (V.getD q (0, false)).2 (wrap64 (f0 + (q : Int))) (wrap64 (f0 + if q + 1 = V.length then 0 else ((q + 1 : Nat) : Int))))) := (rfl : bRow f0 V D (q + 1) = (bRow f0 V D q).set (V.getD q (0, false)).1.toNat (passC ((bRow f0 V D q).getD (V.getD q (0, false)).1.toNat Cr.none) (V.getD q (0, false)).2 (wrap64 (f0 + (q : Int))) (wrap64 (f0 + if q + 1 = V.length then 0 else ((q + 1 : Nat) : Int)))))
              obtain ⟨x, hx⟩ : ∃ x, V.getD q (0, false) = x := ⟨_, rfl⟩
              rw [hx] at d0 d1 HOX HBR
              obtain ⟨xc, xo⟩ := x
              simp only at d0 d1 HBR
              have hoo : 0 ≤ xc ∧ xc < (k : Int) := by simpa [okV] using HOX
              obtain ⟨c, rfl⟩ : ∃ c : Nat, xc = (c : Int) := ⟨xc.toNat, by omega⟩
              rw [Int.toNat_natCast] at HBR
              have hck : c < k := by omega
              have hci : (c : Int) < (k : Int) := by omega
              have hbX : br < W3.heap.size := by have := hbd.out.bel.size; omega
              have c0 : W3.cell? ⟨br, offr + q * 2, none⟩ = some (.int .i64 (c : Nat)) := bcell hbd.out.bel hbr d0
              have c1 : W3.cell? ⟨br, offr + q * 2 + 1, none⟩ = some (.bool xo) := bcell hbd.out.bel hbr d1
              have hqi : (q : Int) < (V.length : Int) := by omega
              obtain ⟨nx, hnx⟩ : ∃ nx : Int, (if q + 1 = V.length then 0 else ((q + 1 : Nat) : Int)) = nx := ⟨_, rfl⟩
              rw [hnx] at HBR
              have ht : ((q : Int) + 1).tmod (V.length : Int) = nx := by
                rw [← hnx, Int.tmod_eq_emod_of_nonneg (by omega)]
                split
                · rename_i h; rw [show (q : Int) + 1 = (V.length : Int) by omega]; simp
                · rw [Int.emod_eq_of_lt (by omega) (by omega)]; rfl
              have hvz : ((V.length : Int) == 0) = false := beq_eq_false_iff_ne.2 (by omega)
              have hvz2 : (V.length == 0) = false := beq_eq_false_iff_ne.2 (by omega)
              obtain ⟨W4, hW4⟩ : ∃ W4, W4 = W3.alloc (.cells #[.int .i64 (c : Nat), .bool xo] 182) := ⟨_, rfl⟩
              have HW4 : Hid (W4 = W3.alloc (.cells #[.int .i64 (c : Nat), .bool xo] 182)) := hW4
              have HB4 : Hid (BdAt w w1.heap.size k loops (bRow f0 V D q) W4) := (by rw [hW4]; exact hbd.out.alloc _ : BdAt w w1.heap.size k loops (bRow f0 V D q) W4)
              have HV4 : Hid (W4.heap[W3.heap.size]? = some (.cells #[.int .i64 (c : Nat), .bool xo] 182 (0, 0))) := (by rw [hW4]; exact alloc_at rfl : W4.heap[W3.heap.size]? = some (.cells #[.int .i64 (c : Nat), .bool xo] 182 (0, 0)))
              have n0 : W4.cell? ⟨W3.heap.size, 0, none⟩ = some (.int .i64 (c : Nat)) := block_cell HV4.out rfl
              have n1 : W4.cell? ⟨W3.heap.size, 1, none⟩ = some (.bool xo) := block_cell HV4.out rfl
              have n2 : W4.cell? ⟨w1.heap.size, 0, none⟩ = some (.slice (some ⟨w.heap.size + 1, 0, none⟩) k k) := block_cell HB4.out.dbox rfl
              have hs4 : W3.heap.size < W4.heap.size := by rw [hW4]; simp
              have hs3 := (Array.getElem?_eq_some_iff.1 hbd.out.dbox).1
              have HCL : Hid (c < (bRow f0 V D q).length) := (by rw [bRow_len, HLE.out]; exact hck : c < (bRow f0 V D q).length)
              have HKL : Hid (k = (bRow f0 V D q).length) := (by rw [bRow_len, HLE.out] : k = (bRow f0 V D q).length)
              clear hcr d0 d1 HOX hx hW4 hnx hoo
              go_wp2
              rw [← HW4.out]
              go_region_held3 (fun w' => w'.cell? ⟨W3.heap.size, 0, none⟩ = some (.int .i64 (c : Nat)) ∧ w'.cell? ⟨W3.heap.size, 1, none⟩ = some (.bool xo) ∧ w'.cell? ⟨w1.heap.size, 0, none⟩ = some (.slice (some ⟨w.heap.size + 1, 0, none⟩) k k)) (first | exact ⟨n0, n1, n2⟩ | exact HS9.out) (first
                | (go_at_call 130; refine (pass_any (w.heap.size + 1) k k w.heap.size (bRow f0 V D q) c xo _ _ _ HKL.out HCL.out HB4.out.drew.row).mono ?_; rintro e9 w9 ⟨rfl, hrow9, hg9⟩; rw [IntWalk.i64_left, IntWalk.i64_left] at hrow9
                   have HNB : Hid (BdAt w w1.heap.size k loops (bRow f0 V D (q + 1)) w9) := (by rw [HBR.out]; exact HB4.out.drew.put hgB hg9 hrow9 : BdAt w w1.heap.size k loops (bRow f0 V D (q + 1)) w9)
                   have HX9 : Hid (w9.heap[W3.heap.size]? = some (.cells #[.int .i64 (c : Nat), .bool xo] 182 (0, 0))) := (hg9.block _ hs4 (fun e => by have : W3.heap.size = w.heap.size + 1 := Option.some.inj e; omega)).trans HV4.out
                   have HS9 : Hid (w9.cell? ⟨W3.heap.size, 0, none⟩ = some (.int .i64 (c : Nat)) ∧ w9.cell? ⟨W3.heap.size, 1, none⟩ = some (.bool xo) ∧ w9.cell? ⟨w1.heap.size, 0, none⟩ = some (.slice (some ⟨w.heap.size + 1, 0, none⟩) k k)) := ⟨block_cell HX9.out rfl, block_cell HX9.out rfl, block_cell HNB.out.dbox rfl⟩
                   clear hrow9 hg9))
              go_wp2
              go_roundw
              case rel => exact ⟨q + 1, by omega, by go_num, HNB.out⟩
              case measure => simp only [intOf]; omega
            · obtain rfl : q = V.length := by omega
              go_wp2
              go_roundw
              case rel =>
                refine ⟨j + 1, by omega, by go_num, ?_, ?_⟩
                · rw [HNXT.out]
                · rw [HNXT.out]; exact hbd.out
              case measure => simp only [intOf]; omega
        · obtain rfl : j = L.length := by omega
          have r0 : W2.cell? ⟨w.heap.size, 0, none⟩ = some (.slice none 0 0) := block_cell hbd.out.rbox rfl
          have r1 : W2.cell? ⟨w.heap.size, 1, none⟩ = some (.int .i64 0) := block_cell hbd.out.rbox rfl
          have r2 : W2.frozen? ⟨w.heap.size, 0, none⟩ = false := block_frozen hbd.out.rbox
          have r3 : W2.frozen? ⟨w.heap.size, 1, none⟩ = false := block_frozen hbd.out.rbox
          have r4 : W2.cell? ⟨w1.heap.size, 0, none⟩ = some (.slice (some ⟨w.heap.size + 1, 0, none⟩) k k) := block_cell hbd.out.dbox rfl
          have r5 : W2.cell? ⟨w1.heap.size, 1, none⟩ = some (.int .i64 loops) := block_cell hbd.out.dbox rfl
          have r6 : w.heap.size < W2.heap.size := (Array.getElem?_eq_some_iff.1 hbd.out.rbox).1
          have r7 : w1.heap.size < W2.heap.size := (Array.getElem?_eq_some_iff.1 hbd.out.dbox).1
          have hg2 := st2_grown W2 w.heap.size 0 (.slice (some ⟨w.heap.size + 1, 0, none⟩) k k) (.int .i64 loops)
          have hbx : ((W2.setCell ⟨w.heap.size, 0, none⟩ (.slice (some ⟨w.heap.size + 1, 0, none⟩) k k)).setCell ⟨w.heap.size, 1, none⟩ (.int .i64 loops)).heap[w.heap.size]? = some (.cells #[.slice (some ⟨w.heap.size + 1, 0, none⟩) k k, .int .i64 loops] 24 (0, 0)) := set_block (i := 1) (set_block (i := 0) hbd.out.rbox)
          have x0 := block_cell (i := 0) hbx rfl
          have x1 := block_cell (i := 1) hbx rfl
          have HRR : Hid (((W2.setCell ⟨w.heap.size, 0, none⟩ (.slice (some ⟨w.heap.size + 1, 0, none⟩) k k)).setCell ⟨w.heap.size, 1, none⟩ (.int .i64 loops)).ownsRow w.heap.size 114 5 (.slice (some ⟨w.heap.size + 1, 0, none⟩) k k) k (crossCells (bAll P L L.length).1)) := hbd.out.row.kept hg2 (Or.inr (fun e => by have : w.heap.size + 1 = w.heap.size := Option.some.inj e; omega))
          have HBB : Hid (Below w.heap.size w ((W2.setCell ⟨w.heap.size, 0, none⟩ (.slice (some ⟨w.heap.size + 1, 0, none⟩) k k)).setCell ⟨w.heap.size, 1, none⟩ (.int .i64 loops))) := hbd.out.bel.grown hg2 hbd.out.bel.size (fun q hq => by have := Option.some.inj hq; omega)
          have X0 : Hid (_ = _) := x0
          have X1 : Hid (_ = _) := x1
          clear hg2 hbx x0 x1
          go_wp2
          exact bodyPost_ret (v := .agg #[.slice (some ⟨w.heap.size + 1, 0, none⟩) k k, .int .i64 loops]) (by simp [results, Try.results69, go_sem, X0.out, X1.out]) rfl ⟨_, rfl, HRR.out, HBB.out⟩
end Go.Proofs.Ytbikalghmlihlaa

/- The walk of code.parsed. -/
import Derived.Test.YtlimfajjmhfnaaaGreatDoorRD3P
namespace Go.Proofs.YtlimfajjmhfnaaaGreatDoor
open Go.RowKit Go.Shelf
attribute [local go_sem] Oper.semAt_some

theorem readP_cons (x : List UInt8) (r : List (List UInt8)) (acc : List Cr) (m : Nat) : readP (x :: r) acc m = if x = [79] then readP r acc (m + 1) else match crossP x with
    | none => none
    | some c => readP r (acc ++ [c]) m := rfl
theorem readP_app (p q : List (List UInt8)) : ∀ acc m, readP (p ++ q) acc m = match readP p acc m with
    | none => none
    | some (a, k) => readP q a k := by
  induction p with
  | nil => intro acc m; rfl
  | cons x p ih =>
    intro acc m
    rw [List.cons_append]
    rw [readP_cons, readP_cons]
    by_cases hx : x = [79]
    · rw [if_pos hx, if_pos hx]
      exact ih acc (m + 1)
    · rw [if_neg hx, if_neg hx]
      cases crossP x with
      | none => rfl
      | some c => exact ih (acc ++ [c]) m
theorem cells_keepD {w w' : World} {k : Nat} {cs : Array Value} {t : TypeId} {fz : Nat × Nat} {row : Option Nat} (h : w.heap[k]? = some (.cells cs t fz)) (hg : w.grownBy w' row) (hr : ∀ r, row = some r → ∃ o : Obj, w.heap[r]? = some o ∧ o.isCells = false) : w'.heap[k]? = some (.cells cs t fz) := by
  refine (hg.block k (Array.getElem?_eq_some_iff.1 h).1 fun e => ?_).trans h
  obtain ⟨o, ho, hc⟩ := hr k e.symm
  rw [h] at ho
  rw [← Option.some.inj ho] at hc
  cases hc
theorem own_keepD {w w' : World} {B e s n : Nat} {v : Value} {xs : List Value} {row : Option Nat} (h : w.ownsRow B e s v n xs) (hg : w.grownBy w' row) (hr : ∀ r, row = some r → ∃ o : Obj, w.heap[r]? = some o ∧ o.isCells = false) : w'.ownsRow B e s v n xs := by
  refine h.kept hg ?_
  cases row with
  | none => cases v.ownBlock with
    | none => exact Or.inl rfl
    | some q => exact Or.inr (by simp)
  | some r =>
    refine Or.inr (fun e2 => ?_)
    obtain ⟨o, ho, hc⟩ := hr r rfl
    rcases h.2 with ⟨hv, _⟩ | ⟨g, c, cur, hv, _, hb, _⟩
    · rw [hv] at e2; cases e2
    · rw [hv] at e2
      have e3 : g = r := Option.some.inj e2
      rw [e3] at hb
      rw [hb] at ho
      rw [← Option.some.inj ho] at hc
      cases hc
theorem newD5 (W : World) (a b c d p : Value) (e : TypeId) : ∀ j u, [a, b, c, d, p][j]? = some u → (W.alloc (.cells #[a, b, c, d, p] e)).cell? ((⟨W.heap.size, 0, none⟩ : Addr).add j) = some u := by
  intro j u hj
  rw [Addr.add_lit, Nat.zero_add]
  have hh : (W.alloc (.cells #[a, b, c, d, p] e)).heap[W.heap.size]? = some (.cells #[a, b, c, d, p] e (0, 0)) := Array.getElem?_push_size
  match j, hj with
  | 0, hj => simp at hj; subst hj; exact block_cell hh rfl
  | 1, hj => simp at hj; subst hj; exact block_cell hh rfl
  | 2, hj => simp at hj; subst hj; exact block_cell hh rfl
  | 3, hj => simp at hj; subst hj; exact block_cell hh rfl
  | 4, hj => simp at hj; subst hj; exact block_cell hh rfl
theorem newD5' {W : World} {s : Nat} (hs : s = W.heap.size) (a b c d p : Value) (e : TypeId) : ∀ j u, [a, b, c, d, p][j]? = some u → (W.alloc (.cells #[a, b, c, d, p] e)).cell? ((⟨s, 0, none⟩ : Addr).add j) = some u := by
  subst hs
  exact newD5 W a b c d p e
theorem own_cellsD {w : World} {B e s n q : Nat} {v : Value} {xs : List Value} {o : Obj} (h : w.ownsRow B e s v n xs) (hq : v.ownBlock = some q) (ho : w.heap[q]? = some o) : o.isCells = true := by
  rcases h.2 with ⟨hv, _⟩ | ⟨g, c, cur, hv, _, hb, _⟩
  · rw [hv] at hq; cases hq
  · rw [hv] at hq
    have e3 : g = q := Option.some.inj hq
    rw [e3] at hb
    rw [hb] at ho
    rw [← Option.some.inj ho]; rfl
/-- A diagram that is read, under way. -/
structure PdAt (w : World) (L : List UInt8) (pre : List Pt) (acc : List Cr) (m : Nat) (v : Value) (W : World) : Prop where
  rd : readP (pre.map fun x => x.1) [] 0 = some (acc, m)
  dbox : W.heap[w.heap.size]? = some (.cells #[v, .int .i64 (m : Nat)] 24 (0, 0))
  obox : W.heap[w.heap.size + 1]? = some (.cells #[.bool false] 4 (0, 0))
  row : W.ownsRow (w.heap.size + 4) 33 5 v acc.length (crossCells acc)
  la : acc.length ≤ pre.length
  lm : m ≤ pre.length
  bel : Below w.heap.size w W
  sb : W.heap[w.heap.size + 1 + 1]? = some (.cells #[.string ⟨L.toArray⟩] 9 (0, 0))
  fb : W.heap[w.heap.size + 1 + 1 + 1]? = some (.cells #[.func (.func 25) #[] #[]] 65 (0, 0))
  size : w.heap.size + 4 ≤ W.heap.size
theorem PdAt.keep {w : World} {L : List UInt8} {pre : List Pt} {acc : List Cr} {m : Nat} {v : Value} {W W' : World} {row : Option Nat} (h : PdAt w L pre acc m v W) (hg : W.grownBy W' row) (hr : ∀ r, row = some r → w.heap.size + 4 ≤ r ∧ ∃ o : Obj, W.heap[r]? = some o ∧ o.isCells = false) : PdAt w L pre acc m v W' :=
  have hr' := fun r e => (hr r e).2
  ⟨h.rd, cells_keepD h.dbox hg hr', cells_keepD h.obox hg hr', own_keepD h.row hg hr', h.la, h.lm, h.bel.grown hg h.bel.size (fun k e => by have := (hr k e).1; omega), cells_keepD h.sb hg hr', cells_keepD h.fb hg hr', Nat.le_trans h.size hg.size⟩
/-- A text that can't be read. -/
structure NoAt (w : World) (pre : List Pt) (W : World) : Prop where
  rd : readP (pre.map fun x => x.1) [] 0 = none
  dbox : W.heap[w.heap.size]? = some (.cells #[.slice none 0 0, .int .i64 0] 24 (0, 0))
  obox : W.heap[w.heap.size + 1]? = some (.cells #[.bool false] 4 (0, 0))
  bel : Below w.heap.size w W
theorem NoAt.keep {w : World} {pre : List Pt} {W W' : World} {row : Option Nat} (h : NoAt w pre W) (hg : W.grownBy W' row) (hr : ∀ r, row = some r → w.heap.size + 4 ≤ r ∧ ∃ o : Obj, W.heap[r]? = some o ∧ o.isCells = false) : NoAt w pre W' :=
  have hr' := fun r e => (hr r e).2
  ⟨h.rd, cells_keepD h.dbox hg hr', cells_keepD h.obox hg hr', h.bel.grown hg h.bel.size (fun k e => by have := (hr k e).1; omega)⟩
theorem res_pd {W : World} {g : Nat} {a b : Value} {ok : Bool} {tm : Array Value} (h : W.heap[g]? = some (.cells #[a, b] 24 (0, 0))) (ho : W.heap[g + 1]? = some (.cells #[.bool ok] 4 (0, 0))) (h2 : tm[2]? = some (.pointer (some ⟨g, 0, none⟩))) (h3 : tm[3]? = some (.pointer (some ⟨g + 1, 0, none⟩))) : (results Tryz.f15 tm).run Tryz.prog W = .ok (.tuple #[.agg #[a, b], .bool ok]) W := by
  have e0 : W.cell? ⟨g, 0, none⟩ = some a := block_cell h rfl
  have e1 : W.cell? ⟨g, 1, none⟩ = some b := block_cell h rfl
  have e2 : W.cell? ⟨g + 1, 0, none⟩ = some (.bool ok) := block_cell ho rfl
  simp [results, Tryz.results15, go_sem, h2, h3, e0, e1, e2]
/-- What code.parsed answers. -/
def ParsedOut (w w' : World) (L : List UInt8) (e : Ending) : Prop :=
  (∀ acc m, readP (fieldsC [] L) [] 0 = some (acc, m) → ∃ v, e = .returned (.tuple #[.agg #[v, .int .i64 (m : Nat)], .bool true]) ∧ w'.ownsRow w.heap.size 33 5 v acc.length (crossCells acc) ∧ acc.length ≤ 10001 ∧ m ≤ 10001) ∧
  (readP (fieldsC [] L) [] 0 = none → e = .returned (.tuple #[.agg #[.slice none 0 0, .int .i64 0], .bool false])) ∧ Below w.heap.size w w'

set_option maxRecDepth 100000 in
set_option maxHeartbeats 16000000 in
theorem parsed_any (L : List UInt8) (hL : L.length ≤ 10000) (w : World) (hT : TabsAt w.heap.size w) (hM : MaxAt w) :
    Calls Tryz.prog 15 #[.string ⟨L.toArray⟩] w fun e w' => ParsedOut w w' L e := by
  obtain ⟨i0, hi, hz0, hz1, hz2⟩ := info_parts infoCross
  refine (callsIn_wide (n := 8)).1 ?_
  refine callsIn_of_wp_marks Tryz.func15 rfl trivial ?_ rfl
  simp only [Tryz.ntmps15, List.size_toArray, List.length_cons, List.length_nil, Nat.reduceAdd, Nat.reduceSub, Array.replicate_succ, Array.replicate_zero, List.push_toArray, List.append_toArray, List.nil_append, List.cons_append]
  obtain ⟨w2, hw2⟩ : ∃ w2, w2 = (w.alloc (.cells #[.slice none 0 0, .int .i64 0] 24)).alloc (.cells #[.bool false] 4) := ⟨_, rfl⟩
  have HW2 := hid_of hw2
  have hs2 : w2.heap.size = w.heap.size + 1 + 1 := by rw [hw2]; simp
  obtain ⟨w4, hw4⟩ : ∃ w4, w4 = (w2.alloc (.cells #[.string ⟨L.toArray⟩] 9)).alloc (.cells #[.func (.func 25) #[] #[]] 65) := ⟨_, rfl⟩
  have HW4 := hid_of hw4
  have hs4 : w4.heap.size = w.heap.size + 4 := by rw [hw4]; simp; omega
  have HB4 : Hid (Below w.heap.size w w4) := (by rw [hw4, hw2]; exact ((((Below.refl w.heap.size w).alloc (Nat.le_refl _) _).alloc (by simp) _).alloc (by simp; omega) _).alloc (by simp; omega) _ : Below w.heap.size w w4)
  have HI0 : Hid (PdAt w L [] [] 0 (.slice none 0 0) w4) := ⟨rfl, by rw [hw4, hw2]; exact alloc_old (alloc_old (alloc_old (alloc_at rfl))), by rw [hw4, hw2]; exact alloc_old (alloc_old (alloc_at (by simp))), World.ownsRow_nil _ _ _ _, Nat.le_refl _, Nat.le_refl _, HB4.out, by rw [hw4]; exact alloc_old (alloc_at (by rw [hs2])), by rw [hw4]; exact alloc_at (by simp; omega), by omega⟩
  have HT := hid_of hT
  have HM := hid_of hM
  have HFS : Hid (∀ V : World, Calls Tryz.prog 26 #[.string ⟨L.toArray⟩, .func (.func 25) #[] #[]] V fun e w' => e = .returned (.func (.func 42) #[] #[.pointer (some ⟨V.heap.size, 0, none⟩), .pointer (some ⟨V.heap.size + 1, 0, none⟩)]) ∧ w' = (V.alloc (.cells #[.string ⟨L.toArray⟩] 9)).alloc (.cells #[.func (.func 25) #[] #[]] 65)) := fieldsSeq_in L
  clear hw2 hw4 hT hM
  refine wpIn_wide.2 ?_
  go_wp2_with (go_at_call 26; rw [← HW2.out]; refine (HFS.out _).mono ?_; rw [← HW4.out, hs2]; rintro e9 w9 ⟨rfl, e99⟩; obtain rfl := e99.symm; clear e99; refine Hid.out ?_)
  refine Lib.hid ?_
  clear HW2 HW4 HFS hs2
  go_wp2
  refine (wpIn_wide (n := 8)).1 ?_
  refine wpIn_rangeFunc_ownH (n := 8) rfl (by omega) (gf := 42) (lb := #[.pointer (some ⟨w.heap.size + 1 + 1, 0, none⟩), .pointer (some ⟨w.heap.size + 1 + 1 + 1, 0, none⟩)]) rfl trivial (enters_of Tryz.func42 (by kernel_rfl) rfl)
    (fields_stops L hL 7 (by omega) w.heap.size (w.heap.size + 1 + 1) (w.heap.size + 1 + 1 + 1) w4 (by omega) (HT.out.on (fun k hk => HB4.out.block k hk)) HI0.out.sb HI0.out.fb)
    (fun h k => h.trans k)
    (fun W l o o' hl ho _ _ => by
      have hlt := (Array.getElem?_eq_some_iff.1 ho).1
      have hg := grownBy_putObj' W l o'
      exact ⟨fun k hk => hg.block k (by omega) (fun e => by have := Option.some.inj e; omega), hg.block _ (by omega) (fun e => by have := Option.some.inj e; omega), hg.block _ (by omega) (fun e => by have := Option.some.inj e; omega), hg.size⟩)
    (Below.refl _ _) (fun _ => rfl)
    (fun (pre : List Pt) W => ∃ acc m v, PdAt w L pre acc m v W)
    (fun c pre W => c = .ret ∧ NoAt w pre W)
    (fun pre X Y row hs hg hr => by obtain ⟨acc, m, v, h⟩ := hs; exact ⟨acc, m, v, h.keep hg (fun r e => ⟨by have := (hr r e).1; omega, (hr r e).2⟩)⟩)
    (fun c pre X Y row hs hg hr => ⟨hs.1, hs.2.keep hg (fun r e => ⟨by have := (hr r e).1; omega, (hr r e).2⟩)⟩)
    ⟨_, _, _, HI0.out⟩
    (fun x a' _ => a' = { tmps := #[.string ⟨L.toArray⟩, undef, .pointer (some ⟨w.heap.size, 0, none⟩), .pointer (some ⟨w.heap.size + 1, 0, none⟩), .func (.func 25) #[] #[], .string ⟨x.1.toArray⟩, undef, undef, .string ⟨L.toArray⟩, .func (.func 25) #[] #[], .func (.func 42) #[] #[.pointer (some ⟨w.heap.size + 1 + 1, 0, none⟩), .pointer (some ⟨w.heap.size + 1 + 1 + 1, 0, none⟩)], .string ⟨x.1.toArray⟩, undef, undef, undef, undef, undef, undef, undef, undef, undef, undef, undef, undef, undef, undef, undef, undef, undef, undef, undef, undef, undef], defers := [] })
    (fun x a' _ X Y row hs hg hr => hs)
    ?assign ?body ?done ?stop
  case assign =>
    rintro l pre x W K hI hK
    gi_wp2
    exact hK _ _ ((KeepsOthers.refl _).from _) (Kps.refl _ _ _ _) hI rfl
  case body =>
    rintro l pre x a' W hl ⟨r, hr⟩ ⟨acc, m, v, hP⟩ rfl hlt
    obtain ⟨xl, hxl⟩ := x
    have HP := hid_of hP
    have hfl := fields_len L []
    have hla := hP.la
    have hlm := hP.lm
    have hsz := hP.size
    obtain ⟨a3, c3, rfl⟩ := own_capS hP.row
    have c0 : W.cell? ⟨w.heap.size, 0, none⟩ = some (.slice a3 acc.length c3) := block_cell hP.dbox rfl
    have c1 : W.cell? ⟨w.heap.size, 1, none⟩ = some (.int .i64 (m : Nat)) := block_cell hP.dbox rfl
    have f0 : W.frozen? ⟨w.heap.size, 0, none⟩ = false := block_frozen hP.dbox
    have f1 : W.frozen? ⟨w.heap.size, 1, none⟩ = false := block_frozen hP.dbox
    have HRD : Hid (readP ((pre ++ [(⟨xl, hxl⟩ : Pt)]).map fun x => x.1) [] 0 = readP [xl] acc m) := (by rw [List.map_append, readP_app, hP.rd]; rfl : readP ((pre ++ [(⟨xl, hxl⟩ : Pt)]).map fun x => x.1) [] 0 = readP [xl] acc m)
    clear hP
    simp only
    by_cases hO : xl = [79]
    · subst hO
      have e1 : IntKind.i64.wrap ((m : Int) + 1) = ((m + 1 : Nat) : Int) := by rw [IntWalk.i64_in _ (by omega)]; omega
      have HR2 : Hid (readP ((pre ++ [(⟨[79], hxl⟩ : Pt)]).map fun x => x.1) [] 0 = some (acc, m + 1)) := (by rw [HRD.out]; rfl : readP ((pre ++ [(⟨[79], hxl⟩ : Pt)]).map fun x => x.1) [] 0 = some (acc, m + 1))
      gi_wp2
      have hst := set_block (i := 1) (u := .int .i64 ((m + 1 : Nat) : Int)) HP.out.dbox
      have hgr := set_grown W w.heap.size 1 (.int .i64 ((m + 1 : Nat) : Int))
      have hne : ∀ k, k ≠ w.heap.size → ¬ some w.heap.size = some k := fun k hk e => hk (Option.some.inj e).symm
      refine ⟨(KeepsOthers.setCell _ _ _).from _, ⟨fun k hk => hgr.block k (by omega) (fun e => by have := Option.some.inj e; omega), hgr.block _ (by omega) (fun e => by have := Option.some.inj e; omega), hgr.block _ (by omega) (fun e => by have := Option.some.inj e; omega), hgr.size⟩, acc, m + 1, _, ⟨HR2.out, hst, set_other HP.out.obox (by omega), HP.out.row.kept hgr (Or.inr (fun e => by have := (HP.out.row.lt _ e).1; omega)), by rw [List.length_append]; simp; omega, by rw [List.length_append]; simp; omega, HP.out.bel.setCell (p := ⟨w.heap.size, 1, none⟩) (Nat.le_refl _) _, set_other HP.out.sb (by omega), set_other HP.out.fb (by omega), by simp; omega⟩⟩
    · have q1 : ¬ ((⟨xl.toArray⟩ : ByteArray) = ⟨#[79]⟩) := fun e => hO (by have := congrArg (fun b : ByteArray => b.data.toList) e; simpa using this)
      have hq : (xl == [79]) = false := beq_eq_false_iff_ne.2 hO
      have hO2 : readP [xl] acc m = match crossP xl with
        | none => none
        | some c => some (acc ++ [c], m) := by rw [readP_cons, if_neg hO]; rfl
      rw [hO2] at HRD
      clear q1 hO2
      gi_wp2
      refine ⟨trivial, ?_⟩
      refine (CallsIn.inRound l (callsIn_wide.2 (parsedCross_any xl W hxl (HM.out.on HP.out.bel)))).mono ?_
      rintro e9 w5 ⟨rfl, hb5⟩
      have HB5 := hid_of hb5
      have hs5 := hb5.size
      have HD5 : Hid (w5.heap[w.heap.size]? = some (.cells #[.slice a3 acc.length c3, .int .i64 (m : Nat)] 24 (0, 0))) := (hb5.block _ (by omega)).trans HP.out.dbox
      have HO5 : Hid (w5.heap[w.heap.size + 1]? = some (.cells #[.bool false] 4 (0, 0))) := (hb5.block _ (by omega)).trans HP.out.obox
      clear c0 c1 f0 f1 hb5
      have c0 : w5.cell? ⟨w.heap.size, 0, none⟩ = some (.slice a3 acc.length c3) := block_cell HD5.out rfl
      have c1 : w5.cell? ⟨w.heap.size, 1, none⟩ = some (.int .i64 (m : Nat)) := block_cell HD5.out rfl
      have c2 : w5.cell? ⟨w.heap.size + 1, 0, none⟩ = some (.bool false) := block_cell HO5.out rfl
      have f0 : w5.frozen? ⟨w.heap.size, 0, none⟩ = false := block_frozen HD5.out
      have f1 : w5.frozen? ⟨w.heap.size, 1, none⟩ = false := block_frozen HD5.out
      have f2 : w5.frozen? ⟨w.heap.size + 1, 0, none⟩ = false := block_frozen HO5.out
      have l5 : w.heap.size < w5.heap.size := by omega
      have l6 : w.heap.size + 1 < w5.heap.size := by omega
      cases hc : crossP xl with
      | none =>
        rw [hc] at HRD
        simp only [crV]
        clear hc
        gi_wp2
        have hst : (((w5.setCell ⟨w.heap.size, 0, none⟩ (.slice none 0 0)).setCell ⟨w.heap.size, 1, none⟩ (.int .i64 0)).setCell ⟨w.heap.size + 1, 0, none⟩ (.bool false)).heap[w.heap.size]? = some (.cells #[.slice none 0 0, .int .i64 0] 24 (0, 0)) := set_other (set_block (set_block HD5.out)) (by omega)
        have hso : (((w5.setCell ⟨w.heap.size, 0, none⟩ (.slice none 0 0)).setCell ⟨w.heap.size, 1, none⟩ (.int .i64 0)).setCell ⟨w.heap.size + 1, 0, none⟩ (.bool false)).heap[w.heap.size + 1]? = some (.cells #[.bool false] 4 (0, 0)) := set_block (set_other (set_other HO5.out (by omega)) (by omega))
        have hbe : Below w.heap.size w w5 := HP.out.bel.trans (HB5.out.mono (by omega))
        refine ⟨?_, rfl, ⟨HRD.out, alloc_old hst, alloc_old hso, (((hbe.setCell (p := ⟨w.heap.size, 0, none⟩) (Nat.le_refl _) _).setCell (p := ⟨w.heap.size, 1, none⟩) (Nat.le_refl _) _).setCell (p := ⟨w.heap.size + 1, 0, none⟩) (by simp) _).alloc (by simp; omega) _⟩⟩
        exact (((((KeepsOthers.of_grownBy (grown_below HB5.out none) (fun q o hq ho => by cases hq)).trans (KeepsOthers.setCell _ _ _)).trans (KeepsOthers.setCell _ _ _)).trans (KeepsOthers.setCell _ _ _)).trans (KeepsOthers.alloc _ _)).from _
      | some c =>
        rw [hc] at HRD
        simp only [crV]
        clear hc
        gi_wp2_with (gi_at_builtin; refine wpListIn_append_own _ rfl _ _ 22 rfl (w.heap.size + 4) 33 i0 (.agg #[.int .i64 0, .int .i64 0, .int .i64 0, .int .i64 0, .bool false]) 5 40 Tryz.underlying22 hi hz0 hz1 hz2 rfl (by decide) _ _ _ rfl (((own_any HP.out.row (grown_below HB5.out none)).alloc _).alloc _) ⟨w5.heap.size + 1, 0, none⟩ 1 1 [.int .i64 c.a, .int .i64 c.b, .int .i64 c.c, .int .i64 c.d, .bool c.plus] rfl rfl (newD5' (by simp) _ _ _ _ _ _) (fun u hu => cells_one [c] u (by simpa [crossCells] using hu)) (by unfold maxLen; omega) (by omega) (by simp; omega) ?_; intro v8 w8 hown8 hg8 _; obtain ⟨a8, c8, rfl⟩ := own_capS hown8; have HG8 := hid_of hg8; have HW8 := hid_of hown8; have hz8 := hg8.size; have HD8 : Hid (w8.heap[w.heap.size]? = some (.cells #[.slice a3 acc.length c3, .int .i64 (m : Nat)] 24 (0, 0))) := (hg8.block _ (by simp; omega) (fun e => by have := (HP.out.row.lt _ e.symm).1; omega)).trans (alloc_old (alloc_old HD5.out)); have d0 : w8.cell? ⟨w.heap.size, 0, none⟩ = some (.slice a3 acc.length c3) := block_cell HD8.out rfl; have g0 : w8.frozen? ⟨w.heap.size, 0, none⟩ = false := block_frozen HD8.out; clear hg8 hown8)
        have hrA := (((own_any HP.out.row (grown_below HB5.out none)).alloc (.cells #[.int .i64 c.a, .int .i64 c.b, .int .i64 c.c, .int .i64 c.d, .bool c.plus] 33)).alloc (.cells #[.int .i64 c.a, .int .i64 c.b, .int .i64 c.c, .int .i64 c.d, .bool c.plus] 33))
        have hl8 : (acc ++ [c]).length = acc.length + 1 := by simp
        have hr8 : w8.ownsRow (w.heap.size + 4) 33 5 (.slice a8 (acc.length + 1) c8) (acc ++ [c]).length (crossCells (acc ++ [c])) := by
          have h := HW8.out
          rw [hl8, show crossCells (acc ++ [c]) = crossCells acc ++ [.int .i64 c.a, .int .i64 c.b, .int .i64 c.c, .int .i64 c.d, .bool c.plus] by simp [crossCells]]
          exact h
        have hgs := set_grown w8 w.heap.size 0 (.slice a8 (acc.length + 1) c8)
        have hbk : ∀ k, k < w.heap.size + 4 → w8.heap[k]? = W.heap[k]? := fun k hk => by
          rw [HG8.out.block k (by simp; omega) (fun e => by have := (hrA.lt _ e.symm).1; omega)]
          have h1 : ((w5.alloc (.cells #[.int .i64 c.a, .int .i64 c.b, .int .i64 c.c, .int .i64 c.d, .bool c.plus] 33)).alloc (.cells #[.int .i64 c.a, .int .i64 c.b, .int .i64 c.c, .int .i64 c.d, .bool c.plus] 33)).heap[k]? = w5.heap[k]? := ((World.grownBy_alloc _ _ none).block k (by simp; omega) (by simp)).trans ((World.grownBy_alloc _ _ none).block k (by omega) (by simp))
          rw [h1, HB5.out.block k (by omega)]
        have hbk2 : ∀ k, k < w.heap.size + 4 → k ≠ w.heap.size → (w8.setCell ⟨w.heap.size, 0, none⟩ (.slice a8 (acc.length + 1) c8)).heap[k]? = W.heap[k]? := fun k hk hne => by
          rw [hgs.block k (by simp at hz8; omega) (fun e => hne (Option.some.inj e)), hbk k hk]
        have hbe : Below w.heap.size w w8 := by
          have h1 := HP.out.bel.trans (HB5.out.mono (by omega))
          have h2 := (h1.alloc (by omega) (.cells #[.int .i64 c.a, .int .i64 c.b, .int .i64 c.c, .int .i64 c.d, .bool c.plus] 33)).alloc (by simp; omega) (.cells #[.int .i64 c.a, .int .i64 c.b, .int .i64 c.c, .int .i64 c.d, .bool c.plus] 33)
          exact h2.grown HG8.out (by simp; omega) (fun q hq => by have := (hrA.lt q hq).1; omega)
        have hz9 : (w8.setCell ⟨w.heap.size, 0, none⟩ (.slice a8 (acc.length + 1) c8)).heap.size = w8.heap.size := by simp
        simp at hz8
        refine ⟨?_, ⟨fun k hk => hbk2 k (by omega) (by omega), hbk2 _ (by omega) (by omega), hbk2 _ (by omega) (by omega), by omega⟩, acc ++ [c], m, .slice a8 (acc.length + 1) c8, ⟨HRD.out, set_block HD8.out, (hbk2 _ (by omega) (by omega)).trans HP.out.obox, hr8.kept hgs (Or.inr (fun e => by have := (hr8.lt _ e).1; omega)), by rw [hl8, List.length_append]; simp; omega, by rw [List.length_append]; simp; omega, hbe.setCell (p := ⟨w.heap.size, 0, none⟩) (Nat.le_refl _) _, (hbk2 _ (by omega) (by omega)).trans HP.out.sb, (hbk2 _ (by omega) (by omega)).trans HP.out.fb, by omega⟩⟩
        exact (((((KeepsOthers.of_grownBy (grown_below HB5.out none) (fun q o hq ho => by cases hq)).trans (KeepsOthers.alloc _ _)).trans (KeepsOthers.alloc _ _)).trans (KeepsOthers.of_grownBy HG8.out (fun q o hq ho => own_cellsD hrA hq ho))).trans (KeepsOthers.setCell _ _ _)).from _
  case done =>
    rintro D ys W hD hys ⟨acc, m, v, hP⟩ hK
    obtain ⟨a3, c3, rfl⟩ := own_capS hP.row
    have HP := hid_of hP
    have HKD := hid_of hK
    have HYS := hid_of hys
    have c0 : W.cell? ⟨w.heap.size, 0, none⟩ = some (.slice a3 acc.length c3) := block_cell hP.dbox rfl
    have c1 : W.cell? ⟨w.heap.size, 1, none⟩ = some (.int .i64 (m : Nat)) := block_cell hP.dbox rfl
    have c2 : W.cell? ⟨w.heap.size + 1, 0, none⟩ = some (.bool false) := block_cell hP.obox rfl
    have f0 : W.frozen? ⟨w.heap.size, 0, none⟩ = false := block_frozen hP.dbox
    have f1 : W.frozen? ⟨w.heap.size, 1, none⟩ = false := block_frozen hP.dbox
    have f2 : W.frozen? ⟨w.heap.size + 1, 0, none⟩ = false := block_frozen hP.obox
    have hsz := hP.size
    have l0 : w.heap.size < W.heap.size := by omega
    have l1 : w.heap.size + 1 < W.heap.size := by omega
    clear hP hK hys
    simp only
    go_wp2
    have hd1 : (((W.setCell ⟨w.heap.size, 0, none⟩ (.slice a3 acc.length c3)).setCell ⟨w.heap.size, 1, none⟩ (.int .i64 (m : Nat))).setCell ⟨w.heap.size + 1, 0, none⟩ (.bool true)).heap[w.heap.size]? = some (.cells #[.slice a3 acc.length c3, .int .i64 (m : Nat)] 24 (0, 0)) := set_other (set_block (set_block HP.out.dbox)) (by omega)
    have hd2 : (((W.setCell ⟨w.heap.size, 0, none⟩ (.slice a3 acc.length c3)).setCell ⟨w.heap.size, 1, none⟩ (.int .i64 (m : Nat))).setCell ⟨w.heap.size + 1, 0, none⟩ (.bool true)).heap[w.heap.size + 1]? = some (.cells #[.bool true] 4 (0, 0)) := set_block (set_other (set_other HP.out.obox (by omega)) (by omega))
    have hd3 : (((W.setCell ⟨w.heap.size, 0, none⟩ (.slice a3 acc.length c3)).setCell ⟨w.heap.size, 1, none⟩ (.int .i64 (m : Nat))).setCell ⟨w.heap.size + 1, 0, none⟩ (.bool true)).heap[D]? = some (.deferred (some [])) := set_other (set_other (set_other HKD.out (by omega)) (by omega)) (by omega)
    have hrw : (((W.setCell ⟨w.heap.size, 0, none⟩ (.slice a3 acc.length c3)).setCell ⟨w.heap.size, 1, none⟩ (.int .i64 (m : Nat))).setCell ⟨w.heap.size + 1, 0, none⟩ (.bool true)).ownsRow (w.heap.size + 4) 33 5 (.slice a3 acc.length c3) acc.length (crossCells acc) := by
      have h1 := HP.out.row.kept (set_grown W w.heap.size 0 (.slice a3 acc.length c3)) (Or.inr (fun e => by have := (HP.out.row.lt _ e).1; omega))
      have h2 := h1.kept (set_grown _ w.heap.size 1 (.int .i64 (m : Nat))) (Or.inr (fun e => by have := (h1.lt _ e).1; omega))
      exact h2.kept (set_grown _ (w.heap.size + 1) 0 (.bool true)) (Or.inr (fun e => by have := (h2.lt _ e).1; omega))
    have hbe := ((HP.out.bel.setCell (p := ⟨w.heap.size, 0, none⟩) (Nat.le_refl _) (.slice a3 acc.length c3)).setCell (p := ⟨w.heap.size, 1, none⟩) (Nat.le_refl _) (.int .i64 (m : Nat))).setCell (p := ⟨w.heap.size + 1, 0, none⟩) (by simp) (.bool true)
    revert hd1 hd2 hd3 hrw hbe
    generalize (((W.setCell ⟨w.heap.size, 0, none⟩ (.slice a3 acc.length c3)).setCell ⟨w.heap.size, 1, none⟩ (.int .i64 (m : Nat))).setCell ⟨w.heap.size + 1, 0, none⟩ (.bool true)) = V
    intro hd1 hd2 hd3 hrw hbe
    have hg := grownBy_putObj' V D (.deferred none)
    have hD0 : ∀ r, some D = some r → ∃ o : Obj, V.heap[r]? = some o ∧ o.isCells = false := fun r e => by
      have e2 : D = r := Option.some.inj e
      subst e2
      exact ⟨_, hd3, rfl⟩
    refine ⟨by simp, .inl ⟨_, _, rfl, run_takeDeferred hd3, ?_⟩⟩
    refine ⟨_, res_pd (cells_keepD hd1 hg hD0) (cells_keepD hd2 hg hD0) rfl rfl, ?_⟩
    have hrd := HP.out.rd
    rw [HYS.out] at hrd
    have hlen : ys.length = (fieldsC [] L).length := by rw [← HYS.out, List.length_map]
    have hfl := fields_len L []
    have hla := HP.out.la
    have hlm := HP.out.lm
    refine ⟨fun acc2 m2 h2 => ?_, (fun h2 => by rw [hrd] at h2; cases h2), hbe.grown hg hbe.size (fun q hq => by have := Option.some.inj hq; omega)⟩
    rw [hrd] at h2
    have h3 := Option.some.inj h2
    injection h3 with h4 h5
    subst h4 h5
    exact ⟨_, rfl, own_low (own_keepD hrw hg hD0) (by omega), by omega, by omega⟩
  case stop =>
    rintro D c pre W hD hSp ⟨rfl, hN⟩ hK
    have HN := hid_of hN
    have HKD := hid_of hK
    have HSP := hid_of hSp
    clear hN hK hSp
    simp only
    gi_wp2
    have hg := grownBy_putObj' W D (.deferred none)
    have hD0 : ∀ r, some D = some r → ∃ o : Obj, W.heap[r]? = some o ∧ o.isCells = false := fun r e => by
      have e2 : D = r := Option.some.inj e
      subst e2
      exact ⟨_, HKD.out, rfl⟩
    refine ⟨by simp, .inl ⟨_, _, rfl, run_takeDeferred HKD.out, ?_⟩⟩
    refine ⟨_, res_pd (cells_keepD HN.out.dbox hg hD0) (cells_keepD HN.out.obox hg hD0) rfl rfl, ?_⟩
    obtain ⟨t, ht⟩ := HSP.out
    have hno : readP (fieldsC [] L) [] 0 = none := by rw [← ht, readP_app, HN.out.rd]
    exact ⟨(fun acc2 m2 h2 => by rw [hno] at h2; cases h2), fun _ => rfl, HN.out.bel.grown hg HN.out.bel.size (fun q hq => by have := Option.some.inj hq; omega)⟩
end Go.Proofs.YtlimfajjmhfnaaaGreatDoor

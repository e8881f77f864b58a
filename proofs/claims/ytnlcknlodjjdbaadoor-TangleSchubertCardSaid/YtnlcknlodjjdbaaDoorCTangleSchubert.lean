/-
  PROVED HERE: for any three numbers whatever, of which the law makes an odd p below 40 and two numbers from 1 to p: tangle.Same answers the same both ways (or ErrRange both ways where one of the fractions is none), and where the fractions are the same and their lists have at most ten crossings, the links of both lists have one polynomial of Jones.
  CONDITIONS: the row's own alone: the package's variable ring holds what the program's text lays there (the card ties it).
-/
import Derived.Test.YtnlcknlodjjdbaaDoorTS4P
import Derived.Test.YtnlcknlodjjdbaaDoorR3
import Derived.Test.YtnlcknlodjjdbaaDoorOpen
import Derived.Test.YtnlcknlodjjdbaaDoorCards
import Derived.Test.YtnlcknlodjjdbaaDoorTie
import Derived.WalkKit
import Derived.Deep.DeepHandedRow
import Derived.Lib.LaidU8
import Derived.LaidSub
namespace Go.Proofs.YtnlcknlodjjdbaaDoor
open Go.ChangeShapes Go.WideShapes Go.ChangeAt Go.RowKit

theorem in_range {n : Int} (h : (Lit.int .i64 n).wf = true) : -9223372036854775808 ≤ n ∧ n ≤ 9223372036854775807 := by
  simp [Lit.wf] at h
  have e : IntKind.i64.min = -9223372036854775808 := by decide
  omega
theorem faceRings : FaceRingsOk := fun a cap C loops gF cF gT cT w hm hD => faceRings_ok a cap C loops gF cF gT cT w hm hD
theorem two_cells {cs : Array Value} {k : Nat} {x y : Value} (h : (cs.toList.drop k).take 2 = [x, y]) : cs[k]? = some x ∧ cs[k + 1]? = some y := by
  have h0 := congrArg (·[0]?) h
  have h1 := congrArg (·[1]?) h
  simp [List.getElem?_drop] at h0 h1
  exact ⟨h0, h1⟩
/-- What the row's list gives: the variable's cells. -/
theorem ring_at {W : World} (h : laidMetH Tryd.prog Rows.tangleSchubertRow.laid W) : Poly.RingAt W := by
  have h2 : laidMet Tryd.prog [("knotwork/bracket.ring", Rows.laid_knotwork_bracket_ring)] W := h
  obtain ⟨g, t, cs, fuel, p, hg, hty, hvar, hd⟩ := Lib.laidMet.reads h2 (.head _)
  obtain rfl : 0 = g := Option.some.inj ((show Tryd.prog.globalNamed "knotwork/bracket.ring" = some 0 by kernel_rfl).symm.trans hg)
  obtain rfl : 98 = t := Option.some.inj ((show (Tryd.prog.globals[0]?).map (·.type) = some 98 by kernel_rfl).symm.trans hty)
  have hc2 : Tryd.prog.cellsOf 62 = 2 := by kernel_rfl
  have key : ∀ (i : Nat) (z1 z2 : Int), i < 2 → ([.agg [.lit (.int .i64 (-2)), .lit (.int .i64 (-1))], .agg [.lit (.int .i64 2), .lit (.int .i64 (-1))]] : List (DataW Unit))[i]? = some (.agg ([z1, z2].map fun z => .lit (.int .i64 z))) → (cs.toList.drop (i * 2)).take 2 = [.int .i64 z1, .int .i64 z2] := by
    intro i z1 z2 hi hz
    obtain ⟨f2, d, q, h3, h4⟩ := Lib.array_elem (t := 98) (e := 62) (n := 2) Tryd.underlying98 hd i hi
    rw [hz] at h3
    obtain rfl := Option.some.inj h3
    rw [hc2] at h4
    exact Lib.ints_of_struct (t := 62) (k := .i64) (zs := [z1, z2]) Tryd.underlying62 (fun j f hf => by
      match j, hf with
      | 0, hf => obtain rfl := Option.some.inj hf; exact ⟨Tryd.underlying3, rfl, by kernel_rfl⟩
      | 1, hf => obtain rfl := Option.some.inj hf; exact ⟨Tryd.underlying3, rfl, by kernel_rfl⟩
      | j + 2, hf => simp at hf) (by kernel_rfl) h4
  have a0 := two_cells (key 0 (-2) (-1) (by omega) rfl)
  have a1 := two_cells (key 1 2 (-1) (by omega) rfl)
  have hv := fun c => World.var?_cell hg hvar c
  exact ⟨(hv 0).trans a0.1, (hv 1).trans a0.2, (hv 2).trans a1.1, (hv 3).trans a1.2⟩

set_option maxRecDepth 100000 in
theorem contract (H : Type) (enc : TypeId × Value → H) (W : World) (base : Nat) (args : Array Value) (ds gs : List (DataW H)) (before : List MemPlace)
    (hval : ∀ (j : Nat) t v, Tryd.f3.params[j]? = some t → args[j]? = some v → Value.okWide Tryd.prog W .any base t v)
    (hW : DataW.Whole enc Tryd.prog Tryd.f3.params.toList Rows.tangleSchubertSpec.vars false W args.toList ds gs before)
    (hsz0 : (DataW.weightsEach Tryd.prog (Tryd.f3.params.toList ++ (OpenSpec.ofChange Rows.tangleSchubertSpec).bare.plain.varTypes Tryd.prog) (ds ++ gs)).all (· ≤ reachBytes) = true)
    (hL : laidMetH Tryd.prog Rows.tangleSchubertRow.laid W) :
    Calls Tryd.prog 3 args W fun e W' => ∃ v, e = .returned v ∧ Rows.tangleSchubertSpec.post enc Tryd.prog Tryd.f3 false true false false W args v W' := by
  have hW' := hW
  obtain ⟨p, q, hA0, hV, rfl, hfz, hnd⟩ := hW
  have hA : DataW.TrodAll enc Tryd.prog W 0 (fun _ => true) true Tryd.f3.params.toList args.toList ds p := hA0
  rw [Tryd.params3] at hA hval
  obtain ⟨v0, vs0, d0, ds0, p0, q0, hargs, rfl, rfl, h0, r0⟩ := trodAll_cons hA
  obtain ⟨v1, vs1, d1, ds1, p1, q1, rfl, rfl, rfl, h1, r1⟩ := trodAll_cons r0
  obtain ⟨v2, vs2, d2, ds2, p2, q2, rfl, rfl, rfl, h2, r2⟩ := trodAll_cons r1
  obtain ⟨rfl, rfl, rfl⟩ := trodAll_nil r2
  obtain rfl : args = #[v0, v1, v2] := by cases args; simp_all
  obtain ⟨rfl, rfl⟩ := trodVars_none hV
  obtain ⟨a0, rfl, rfl, rfl, w0⟩ := open_int Tryd.underlying3 (hval 0 3 v0 rfl rfl) h0
  obtain ⟨a1, rfl, rfl, rfl, w1⟩ := open_int Tryd.underlying3 (hval 1 3 v1 rfl rfl) h1
  obtain ⟨a2, rfl, rfl, rfl, w2⟩ := open_int Tryd.underlying3 (hval 2 3 v2 rfl rfl) h2
  clear hA0
  refine (tangleSchubert_any faceRings a0 a1 a2 W (ring_at hL) (in_range w0) (in_range w1) (in_range w2)).mono fun e W' ⟨he, bel⟩ => ?_
  subst he
  exact ⟨_, rfl, _, _, _, [], _, [], hW', trodAll_mk1 (shut_bool Tryd.underlying4 _), trodAll_cons_mk (shut_int Tryd.underlying3 w0) (trodAll_cons_mk (shut_int Tryd.underlying3 w1) (trodAll_cons_mk (shut_int Tryd.underlying3 w2) trodAll_mk0)), rfl, bel.frame _, fun h => by cases h⟩

/-- The block's cells are these. -/
def layCells (cs : Array Value) : Obj → Obj
  | .cells _ t frozen => .cells cs t frozen
  | o => o
/-- A world for the witness: the settled one, the variable holding what its initialiser lays. -/
noncomputable def laidWorld (os : Os) : World :=
  { World.holding Tryd.prog os ⟨#[], #[], []⟩ with heap := (World.holding Tryd.prog os ⟨#[], #[], []⟩).heap.modify 0 (layCells #[.int .i64 (-2), .int .i64 (-1), .int .i64 2, .int .i64 (-1)]) }
theorem laid_met (os : Os) : laidMet Tryd.prog Rows.tangleSchubertRow.laid ((laidWorld os).forCall (fun _ _ => 0) ⟨#[], #[.int .i64 0, .int .i64 0, .int .i64 0], []⟩).memory :=
  laidMet_of_run' 8 (by kernel_rfl) (by kernel_rfl)
theorem reads (os : Os) {H : Type} (enc : TypeId × Value → H) : ∃ places, DataW.whole enc Tryd.prog ((laidWorld os).forCall (fun _ _ => 0) ⟨#[], #[.int .i64 0, .int .i64 0, .int .i64 0], []⟩).memory Tryd.f3.params.toList Rows.tangleSchubertSpec.vars false #[Value.int .i64 0, .int .i64 0, .int .i64 0].toList 8 = some ([.lit (.int .i64 0), .lit (.int .i64 0), .lit (.int .i64 0)], [], places) :=
  ⟨[], by kernel_rfl⟩

set_option maxRecDepth 100000 in
theorem lifted (os : Os) (started : os.Started) (H : Type) (enc : TypeId × Value → H) (F : Stop.Interp) :
    ReturnsInHanded {} Tryd.checked os 3 .any ((OpenSpec.ofChange Rows.tangleSchubertSpec).preRow enc Tryd.prog Tryd.f3 Rows.tangleSchubertRow.domain false Rows.tangleSchubertRow.laid) (((OpenSpec.ofChange Rows.tangleSchubertSpec).at F).post enc Tryd.prog Tryd.f3 false true false false) := by
  obtain ⟨places, hx⟩ := reads os enc
  refine returnsInHanded_of_row (C := Tryd.checked) (s := OpenSpec.ofChange Rows.tangleSchubertSpec) own0 started (by kernel_rfl) Tryd.func3
    (witness_row_at (enc := enc) (C := Tryd.checked) false (laidWorld os) #[.int .i64 0, .int .i64 0, .int .i64 0] rfl (by kernel_rfl) (by kernel_rfl) (by kernel_rfl)
      (OpenSpec.preRow_of_cond 8 hx (by kernel_rfl) (fun k hk => by cases hk) (by kernel_rfl) (laid_met os))) ?_
  intro W base args ds gs before hval hW _ _ hsz hL _ _
  exact contract H enc W base args ds gs before hval hW hsz hL

theorem said : Rows.TangleSchubertSaid :=
  OpenClaim.holds_of_cond 3 Tryd.f3 rfl rfl rfl rfl rfl rfl rfl ⟨rfl, rfl, rfl, rfl, rfl⟩ rfl rfl rfl rfl rfl (by kernel_rfl) Tryd.func3 (by kernel_rfl)
    (of_decide_eq_true (by kernel_rfl)) (by unfold Func.isWrapper; first | (rw [if_pos (by decide +kernel)]; kernel_rfl) | (rw [if_neg (by decide +kernel)]; exact ⟨rfl, rfl⟩))
    (fun os started H enc _ F => by rw [OpenClaim.pre_eq_preRow]; exact lifted os started H enc F)

theorem plain (f : FuncId) (fn : Func) (hf : Tryd.pinned.checked.prog.funcNamed "knotwork/knotworkkeep.TangleSchubert" = some f) (hfn : Tryd.pinned.checked.prog.funcs[f]? = some fn) :
    false = Tryd.pinned.checked.prog.looks [] ∧ ∀ (j : Nat) t, fn.params[j]? = some t → Tryd.pinned.checked.prog.wantsStandIn t = false := by
  obtain rfl : f = 3 := Option.some.inj ((show Tryd.prog.funcNamed "knotwork/knotworkkeep.TangleSchubert" = some 3 by kernel_rfl).symm.trans hf) |>.symm
  obtain rfl : fn = Tryd.f3 := (Option.some.inj (Tryd.func3.symm.trans hfn)).symm
  refine ⟨by kernel_rfl, fun j t ht => ?_⟩
  rw [Tryd.params3] at ht
  obtain rfl : t = 3 := by simpa using Array.mem_of_getElem? ht
  exact (show Tryd.prog.wantsStandIn 3 = false by kernel_rfl)

/-- THE CARD. -/
theorem tangleSchubert_holds : Rows.TangleSchubertCardSaid :=
  Claim7.holds_tied_plain_at .later [] _ _ _ _ said (fun _ h => by cases h) (by kernel_rfl) (fun _ h => by cases h) tangleSchubert_row_tie rfl ⟨rfl, rfl⟩ (by kernel_rfl) rfl plain (by kernel_rfl)
#print axioms tangleSchubert_holds
end Go.Proofs.YtnlcknlodjjdbaaDoor

/- The walks of canon.Canon and canon.Same. -/
import Derived.Test.YtlimfajjmhfnaaaGreatDoorC18
import Derived.Test.YtlimfajjmhfnaaaGreatDoorS4
import Derived.Test.YtlimfajjmhfnaaaGreatDoorC13P
import Derived.Test.YtlimfajjmhfnaaaGreatDoorK1P
namespace Go.Proofs.YtlimfajjmhfnaaaGreatDoor
open Go.RowKit

/-- The canonical form, as the program reckons it; as the reference does. -/
def IsForm (C K : List Cr) : Prop := ∃ (n : Nat) (P : List Int) (σ : List Nat), PcsAll C P n ∧ σ.Perm (List.range n) ∧ SortedT (fun p => leT C P p C.length) σ ∧ K = canGo C [] ((σ.map fun p => (leT C P p C.length).1).flatten)
def IsFormR (C K : List Cr) : Prop := ∃ V τ : List Nat, Least (arcE C) C.length V ∧ τ.Perm (List.range (hdTo V C.length).length) ∧ SortedT (fun i => leT C (wI V) ((hdTo V C.length).getD i 0) C.length) τ ∧ K = canGo C [] ((τ.map fun i => (leT C (wI V) ((hdTo V C.length).getD i 0) C.length).1).flatten)
theorem form_one {C K K' : List Cr} {loops : Int} (hm : mayD C loops = true) (h : IsForm C K) (h' : IsFormR C K') : K = K' := by
  obtain ⟨n, P, σ, a1, a2, a3, rfl⟩ := h
  obtain ⟨V, τ, b1, b2, b3, rfl⟩ := h'
  exact forms_one hm a1 a2 a3 b1 b2 b3
theorem flat_few {C : List Cr} {loops : Int} (hm : mayD C loops = true) (P : List Int) (f : Nat → Nat) (l : List Nat) : ((l.map fun p => (leT C P (f p) C.length).1).flatten).length ≤ 16 * l.length := by
  induction l with
  | nil => simp
  | cons x l ih =>
    have := (leT_few hm P (f x) C.length (Nat.le_refl _)).1
    simp only [List.map_cons, List.flatten_cons, List.length_append, List.length_cons]
    omega
theorem form_len {C K : List Cr} {loops : Int} (hm : mayD C loops = true) (h : IsForm C K) : K.length ≤ 256 := by
  obtain ⟨n, P, σ, a1, a2, a3, rfl⟩ := h
  obtain ⟨s1, -, -, -⟩ := sizeB_iff (may_size hm)
  have h1 := flat_few hm P (fun p => p) σ
  have h2 : σ.length = n := by have := a2.length_eq; simpa using this
  have h3 := a1.few
  rw [canGo_len]
  omega
theorem canonical_is (a : Option Addr) (cap : Nat) (C : List Cr) (loops : Int) (gF cF gT cT : Nat) (w : World) (hm : mayD C loops = true) (hD : Dr w a cap C gF gT) :
    Calls Tryz.prog 19 #[drV a cap C loops gF cF gT cT] w fun e w' => ∃ v K, e = .returned (.agg #[v, .int .i64 loops]) ∧ IsForm C K ∧ K.length ≤ 256 ∧ w'.ownsRow w.heap.size 33 5 v K.length (crossCells K) ∧ Below w.heap.size w w' := by
  refine (canonical_any a cap C loops gF cF gT cT w hm hD).mono fun e w' h => ?_
  obtain ⟨v, n, P, σ, he, h1, h2, h3, h4, h5⟩ := h
  have hf : IsForm C _ := ⟨n, P, σ, h1, h2, h3, rfl⟩
  exact ⟨v, _, he, hf, form_len hm hf, h4, h5⟩

theorem canon_no (v : Value) (C : List Cr) (loops : Int) (w : World) (hm : mayD C loops = false) (h : Crs w w.heap.size v C) :
    Calls Tryz.prog 12 #[.agg #[v, .int .i64 loops]] w fun e w' => e = .returned (.tuple #[.agg #[.slice none 0 0, .int .i64 0], .int .i64 7]) ∧ Below w.heap.size w w' := by
  have HC : Hid (Crs w w.heap.size v C) := h
  obtain ⟨a, cap, rfl, hn, -⟩ := h
  have HB1 : Hid (Below w.heap.size w ((w.alloc (.cells #[.slice a C.length cap, .int .i64 loops] 24)).alloc (.cells #[.slice none 0 0, .int .i64 0] 24))) := below2 _ _ _
  have HT1 : Hid (((w.alloc (.cells #[.slice a C.length cap, .int .i64 loops] 24)).alloc (.cells #[.slice none 0 0, .int .i64 0] 24)).heap[w.heap.size + 1]? = some (.cells #[.slice none 0 0, .int .i64 0] 24 (0, 0))) := alloc_at (by simp)
  go_enter Tryz.func12, Tryz.ntmps12
  go_wp2_with (go_at_call 14; refine (of_any _ C loops _ (HC.out.up HB1.out)).mono ?_; rw [hm]; rintro e9 w2 ⟨d, rfl, hb2, hd⟩; rw [hd.no hm]; refine Hid.out ?_)
  refine Lib.hid ?_
  unfold noDrawing
  have HB2 : Hid (Below w.heap.size w w2) := HB1.out.trans (hb2.mono HB1.out.size)
  have HT2 : Hid (w2.heap[w.heap.size + 1]? = some (.cells #[.slice none 0 0, .int .i64 0] 24 (0, 0))) := (hb2.block _ (by simp)).trans HT1.out
  have hs2 : w.heap.size + 2 ≤ w2.heap.size := by have := hb2.size; simpa using this
  clear hb2 hd
  have r0 : w2.cell? ⟨w.heap.size + 1, 0, none⟩ = some (.slice none 0 0) := block_cell HT2.out rfl
  have r1 : w2.cell? ⟨w.heap.size + 1, 1, none⟩ = some (.int .i64 0) := block_cell HT2.out rfl
  have f0 : w2.frozen? ⟨w.heap.size + 1, 0, none⟩ = false := block_frozen HT2.out
  have f1 : w2.frozen? ⟨w.heap.size + 1, 1, none⟩ = false := block_frozen HT2.out
  have hl : w.heap.size + 1 < w2.heap.size := by omega
  go_wp2
  have hX := alloc_old (o := .cells #[.slice none 0 0, .int .i64 0, .slice none 0 0, .slice none 0 0] 48) (set_block (i := 1) (u := .int .i64 0) (set_block (i := 0) (u := .slice none 0 0) HT2.out))
  have x0 := block_cell (i := 0) (v := .slice none 0 0) hX rfl
  have x1 := block_cell (i := 1) (v := .int .i64 0) hX rfl
  refine bodyPost_ret (v := .tuple #[.agg #[.slice none 0 0, .int .i64 0], .int .i64 7]) (by simp [results, Tryz.results12, go_sem, x0, x1]) rfl ⟨rfl, ?_⟩
  exact (HB2.out.grown (st2_grown w2 (w.heap.size + 1) 0 (.slice none 0 0) (.int .i64 0)) (by omega) (fun q hq => by have := Option.some.inj hq; omega)).alloc (by have := (st2_grown w2 (w.heap.size + 1) 0 (.slice none 0 0) (.int .i64 0)).size; omega) _

set_option maxHeartbeats 4000000 in
set_option maxRecDepth 100000 in
theorem canon_yes (v : Value) (C : List Cr) (loops : Int) (w : World) (hm : mayD C loops = true) (h : Crs w w.heap.size v C) :
    Calls Tryz.prog 12 #[.agg #[v, .int .i64 loops]] w fun e w' => ∃ r K, e = .returned (.tuple #[.agg #[r, .int .i64 loops], .int .i64 0]) ∧ IsForm C K ∧ Crs w' w'.heap.size r K ∧ Below w.heap.size w w' := by
  obtain ⟨s1, -, -, -⟩ := sizeB_iff (may_size hm)
  have HC : Hid (Crs w w.heap.size v C) := h
  have HM : Hid (mayD C loops = true) := hm
  obtain ⟨a, cap, rfl, hn, -⟩ := h
  have HB1 : Hid (Below w.heap.size w ((w.alloc (.cells #[.slice a C.length cap, .int .i64 loops] 24)).alloc (.cells #[.slice none 0 0, .int .i64 0] 24))) := below2 _ _ _
  have HT1 : Hid (((w.alloc (.cells #[.slice a C.length cap, .int .i64 loops] 24)).alloc (.cells #[.slice none 0 0, .int .i64 0] 24)).heap[w.heap.size + 1]? = some (.cells #[.slice none 0 0, .int .i64 0] 24 (0, 0))) := alloc_at (by simp)
  go_enter Tryz.func12, Tryz.ntmps12
  go_wp2_with (go_at_call 14; refine (of_any _ C loops _ (HC.out.up HB1.out)).mono ?_; rw [hm]; rintro e9 w2 ⟨d, rfl, hb2, hd⟩; obtain ⟨gF, cF, gT, cT, rfl, hdr⟩ := hd.dr HM.out hb2 (HC.out.up HB1.out); refine Hid.out ?_)
  refine Lib.hid ?_
  have HDR : Hid (Dr w2 a cap C gF gT) := hdr
  unfold drV
  have HB2 : Hid (Below w.heap.size w w2) := HB1.out.trans (hb2.mono HB1.out.size)
  have HT2 : Hid (w2.heap[w.heap.size + 1]? = some (.cells #[.slice none 0 0, .int .i64 0] 24 (0, 0))) := (hb2.block _ (by simp)).trans HT1.out
  have hs2 : w.heap.size + 2 ≤ w2.heap.size := by have := hb2.size; simpa using this
  have HBA : Hid (Below w2.heap.size w2 (w2.alloc (.cells #[.slice a C.length cap, .int .i64 loops, .slice (some ⟨gF, 0, none⟩) (2 * C.length + 1) cF, .slice (some ⟨gT, 0, none⟩) (2 * C.length + 1) cT] 48))) := (Below.refl _ _).alloc (Nat.le_refl _) _
  clear hb2 hd hdr hm
  go_wp2_with (go_at_call 19; refine (canonical_is a cap C loops gF cF gT cT _ HM.out (HDR.out.on HBA.out)).mono ?_; rintro e9 w3 ⟨r, K, rfl, hK, hKl, hr, hb3⟩; refine Hid.out ?_)
  refine Lib.hid ?_
  have HR : Hid (w3.ownsRow (w.heap.size + 2) 33 5 r K.length (crossCells K)) := own_low hr (by simp; omega)
  have HKF : Hid (IsForm C K) := hK
  have HB3 : Hid (Below w.heap.size w w3) := (HB2.out.trans (HBA.out.mono HB2.out.size)).trans (hb3.mono (by simp; omega))
  have HT3 : Hid (w3.heap[w.heap.size + 1]? = some (.cells #[.slice none 0 0, .int .i64 0] 24 (0, 0))) := (hb3.block _ (by simp; omega)).trans (alloc_old HT2.out)
  have hs3 : w.heap.size + 2 ≤ w3.heap.size := by have := hb3.size; simp at this; omega
  clear hr hb3 hK
  obtain ⟨a3, c3', ev3⟩ := own_capS HR.out
  subst ev3
  have r0 : w3.cell? ⟨w.heap.size + 1, 0, none⟩ = some (.slice none 0 0) := block_cell HT3.out rfl
  have r1 : w3.cell? ⟨w.heap.size + 1, 1, none⟩ = some (.int .i64 0) := block_cell HT3.out rfl
  have f0 : w3.frozen? ⟨w.heap.size + 1, 0, none⟩ = false := block_frozen HT3.out
  have f1 : w3.frozen? ⟨w.heap.size + 1, 1, none⟩ = false := block_frozen HT3.out
  have hl : w.heap.size + 1 < w3.heap.size := by omega
  go_wp2
  have hX := set_block (i := 1) (u := .int .i64 loops) (set_block (i := 0) (u := .slice a3 K.length c3') HT3.out)
  have x0 := block_cell (i := 0) (v := .slice a3 K.length c3') hX rfl
  have x1 := block_cell (i := 1) (v := .int .i64 loops) hX rfl
  have hk := HR.out.kept (st2_grown w3 (w.heap.size + 1) 0 (.slice a3 K.length c3') (.int .i64 loops)) (by
    cases hv : (Value.slice a3 K.length c3').ownBlock with
    | none => exact Or.inl rfl
    | some k => exact Or.inr (fun e => by have h1 := (HR.out.lt k hv).1; have h2 := Option.some.inj e; omega))
  exact bodyPost_ret (v := .tuple #[.agg #[.slice a3 K.length c3', .int .i64 loops], .int .i64 0]) (by simp [results, Tryz.results12, go_sem, x0, x1]) rfl ⟨_, K, rfl, HKF.out, crs_own hk (by unfold maxLen; omega), HB3.out.grown (st2_grown w3 (w.heap.size + 1) 0 (.slice a3 K.length c3') (.int .i64 loops)) (by omega) (fun q hq => by have := Option.some.inj hq; omega)⟩

/-- What canon.Same tells of diagrams that may be. -/
def SameOut (C D : List Cr) (l1 l2 : Int) (e : Ending) : Prop := ∃ b, e = .returned (.tuple #[.bool b, .int .i64 0]) ∧ (l1 ≠ l2 → b = false) ∧ (l1 = l2 → ∃ K1 K2, IsForm C K1 ∧ IsForm D K2 ∧ b = sameD 0 0 K1 K2)
theorem field_diag (r : Value) (l : Int) (w : World) : (Instr.field 24 (.agg #[r, .int .i64 l]) 0).run Tryz.prog w = .ok r w := by
  simp [Instr.field, run_underlying Tryz.underlying24, go_sem, asAgg]

end Go.Proofs.YtlimfajjmhfnaaaGreatDoor

/- The walks of canon.Canon and canon.Same. -/
import Derived.Test.YtkbapnjlnnggaaaC18
import Derived.Test.YtkbapnjlnnggaaaS4P
import Derived.Test.YtkbapnjlnnggaaaC13P
import Derived.Test.YtkbapnjlnnggaaaK1P
namespace Go.Proofs.Ytkbapnjlnnggaaa
open Go.RowKit

/-- The canonical form, as the program reckons it; as the reference does. -/
def IsForm (C K : List Cr) : Prop := ∃ (n : Nat) (P : List Int) (σ : List Nat), PcsAll C P n ∧ σ.Perm (List.range n) ∧ SortedT (fun p => leT C P p C.length) σ ∧ K = canGo C [] ((σ.map fun p => (leT C P p C.length).1).flatten)
def IsFormR (C K : List Cr) : Prop := ∃ V τ : List Nat, Least (arcE C) C.length V ∧ τ.Perm (List.range (hdTo V C.length).length) ∧ SortedT (fun i => leT C (wI V) ((hdTo V C.length).getD i 0) C.length) τ ∧ K = canGo C [] ((τ.map fun i => (leT C (wI V) ((hdTo V C.length).getD i 0) C.length).1).flatten)
theorem form_one {C K K' : List Cr} {loops : Int} (hm : mayD C loops = true) (h : IsForm C K) (h' : IsFormR C K') : K = K' := by
  obtain ⟨n, P, σ, a1, a2, a3, rfl⟩ := h
  obtain ⟨V, τ, b1, b2, b3, rfl⟩ := h'
  exact forms_one hm a1 a2 a3 b1 b2 b3
theorem flat_few {C : List Cr} {loops : Int} (hm : mayD C loops = true) (P : List Int) (f : Nat → Nat) (l : List Nat) : ((l.map fun p => (leT C P (f p) C.length).1).flatten).length ≤ 16 * l.length := by
  induction l with
  | nil => simp
  | cons x l ih =>
    have := (leT_few hm P (f x) C.length (Nat.le_refl _)).1
    simp only [List.map_cons, List.flatten_cons, List.length_append, List.length_cons]
    omega
theorem form_len {C K : List Cr} {loops : Int} (hm : mayD C loops = true) (h : IsForm C K) : K.length ≤ 256 := by
  obtain ⟨n, P, σ, a1, a2, a3, rfl⟩ := h
  obtain ⟨s1, -, -, -⟩ := sizeB_iff (may_size hm)
  have h1 := flat_few hm P (fun p => p) σ
  have h2 : σ.length = n := by have := a2.length_eq; simpa using this
  have h3 := a1.few
  rw [canGo_len]
  omega
theorem canonical_is (a : Option Addr) (cap : Nat) (C : List Cr) (loops : Int) (gF cF gT cT : Nat) (w : World) (hm : mayD C loops = true) (hD : Dr w a cap C gF gT) :
    Calls Try.prog 68 #[drV a cap C loops gF cF gT cT] w fun e w' => ∃ v K, e = .returned (.agg #[v, .int .i64 loops]) ∧ IsForm C K ∧ K.length ≤ 256 ∧ w'.ownsRow w.heap.size 89 5 v K.length (crossCells K) ∧ Below w.heap.size w w' := by
  refine (canonical_any a cap C loops gF cF gT cT w hm hD).mono fun e w' h => ?_
  obtain ⟨v, n, P, σ, he, h1, h2, h3, h4, h5⟩ := h
  have hf : IsForm C _ := ⟨n, P, σ, h1, h2, h3, rfl⟩
  exact ⟨v, _, he, hf, form_len hm hf, h4, h5⟩

theorem canon_no (v : Value) (C : List Cr) (loops : Int) (w : World) (hm : mayD C loops = false) (h : Crs w w.heap.size v C) :
    Calls Try.prog 34 #[.agg #[v, .int .i64 loops]] w fun e w' => e = .returned (.tuple #[.agg #[.slice none 0 0, .int .i64 0], .int .i64 7]) ∧ Below w.heap.size w w' := by
  have HC : Hid (Crs w w.heap.size v C) := h
  obtain ⟨a, cap, rfl, hn, -⟩ := h
  have HB1 : Hid (Below w.heap.size w ((w.alloc (.cells #[.slice a C.length cap, .int .i64 loops] 24)).alloc (.cells #[.slice none 0 0, .int .i64 0] 24))) := below2 _ _ _
  have HT1 : Hid (((w.alloc (.cells #[.slice a C.length cap, .int .i64 loops] 24)).alloc (.cells #[.slice none 0 0, .int .i64 0] 24)).heap[w.heap.size + 1]? = some (.cells #[.slice none 0 0, .int .i64 0] 24 (0, 0))) := alloc_at (by simp)
  go_enter Try.func34, Try.ntmps34
  go_wp2_with (go_at_call 35; refine (of_any _ C loops _ (HC.out.up HB1.out)).mono ?_; rw [hm]; rintro e9 w2 ⟨d, rfl, hb2, hd⟩; rw [hd.no hm]; refine Hid.out ?_)
  refine Lib.hid ?_
  unfold noDrawing
  have HB2 : Hid (Below w.heap.size w w2) := HB1.out.trans (hb2.mono HB1.out.size)
  have HT2 : Hid (w2.heap[w.heap.size + 1]? = some (.cells #[.slice none 0 0, .int .i64 0] 24 (0, 0))) := (hb2.block _ (by simp)).trans HT1.out
  have hs2 : w.heap.size + 2 ≤ w2.heap.size := by have := hb2.size; simpa using this
  clear hb2 hd
  have r0 : w2.cell? ⟨w.heap.size + 1, 0, none⟩ = some (.slice none 0 0) := block_cell HT2.out rfl
  have r1 : w2.cell? ⟨w.heap.size + 1, 1, none⟩ = some (.int .i64 0) := block_cell HT2.out rfl
  have f0 : w2.frozen? ⟨w.heap.size + 1, 0, none⟩ = false := block_frozen HT2.out
  have f1 : w2.frozen? ⟨w.heap.size + 1, 1, none⟩ = false := block_frozen HT2.out
  have hl : w.heap.size + 1 < w2.heap.size := by omega
  go_wp2
  have hX := alloc_old (o := .cells #[.slice none 0 0, .int .i64 0, .slice none 0 0, .slice none 0 0] 71) (set_block (i := 1) (u := .int .i64 0) (set_block (i := 0) (u := .slice none 0 0) HT2.out))
  have x0 := block_cell (i := 0) (v := .slice none 0 0) hX rfl
  have x1 := block_cell (i := 1) (v := .int .i64 0) hX rfl
  refine bodyPost_ret (v := .tuple #[.agg #[.slice none 0 0, .int .i64 0], .int .i64 7]) (by simp [results, Try.results34, go_sem, x0, x1]) rfl ⟨rfl, ?_⟩
  exact (HB2.out.grown (st2_grown w2 (w.heap.size + 1) 0 (.slice none 0 0) (.int .i64 0)) (by omega) (fun q hq => by have := Option.some.inj hq; omega)).alloc (by have := (st2_grown w2 (w.heap.size + 1) 0 (.slice none 0 0) (.int .i64 0)).size; omega) _

set_option maxHeartbeats 4000000 in
set_option maxRecDepth 100000 in
theorem canon_yes (v : Value) (C : List Cr) (loops : Int) (w : World) (hm : mayD C loops = true) (h : Crs w w.heap.size v C) :
    Calls Try.prog 34 #[.agg #[v, .int .i64 loops]] w fun e w' => ∃ r K, e = .returned (.tuple #[.agg #[r, .int .i64 loops], .int .i64 0]) ∧ IsForm C K ∧ Crs w' w'.heap.size r K ∧ Below w.heap.size w w' := by
  obtain ⟨s1, -, -, -⟩ := sizeB_iff (may_size hm)
  have HC : Hid (Crs w w.heap.size v C) := h
  have HM : Hid (mayD C loops = true) := hm
  obtain ⟨a, cap, rfl, hn, -⟩ := h
  have HB1 : Hid (Below w.heap.size w ((w.alloc (.cells #[.slice a C.length cap, .int .i64 loops] 24)).alloc (.cells #[.slice none 0 0, .int .i64 0] 24))) := below2 _ _ _
  have HT1 : Hid (((w.alloc (.cells #[.slice a C.length cap, .int .i64 loops] 24)).alloc (.cells #[.slice none 0 0, .int .i64 0] 24)).heap[w.heap.size + 1]? = some (.cells #[.slice none 0 0, .int .i64 0] 24 (0, 0))) := alloc_at (by simp)
  go_enter Try.func34, Try.ntmps34
  go_wp2_with (go_at_call 35; refine (of_any _ C loops _ (HC.out.up HB1.out)).mono ?_; rw [hm]; rintro e9 w2 ⟨d, rfl, hb2, hd⟩; obtain ⟨gF, cF, gT, cT, rfl, hdr⟩ := hd.dr HM.out hb2 (HC.out.up HB1.out); refine Hid.out ?_)
  refine Lib.hid ?_
  have HDR : Hid (Dr w2 a cap C gF gT) := hdr
  unfold drV
  have HB2 : Hid (Below w.heap.size w w2) := HB1.out.trans (hb2.mono HB1.out.size)
  have HT2 : Hid (w2.heap[w.heap.size + 1]? = some (.cells #[.slice none 0 0, .int .i64 0] 24 (0, 0))) := (hb2.block _ (by simp)).trans HT1.out
  have hs2 : w.heap.size + 2 ≤ w2.heap.size := by have := hb2.size; simpa using this
  have HBA : Hid (Below w2.heap.size w2 (w2.alloc (.cells #[.slice a C.length cap, .int .i64 loops, .slice (some ⟨gF, 0, none⟩) (2 * C.length + 1) cF, .slice (some ⟨gT, 0, none⟩) (2 * C.length + 1) cT] 71))) := (Below.refl _ _).alloc (Nat.le_refl _) _
  clear hb2 hd hdr hm
  go_wp2_with (go_at_call 68; refine (canonical_is a cap C loops gF cF gT cT _ HM.out (HDR.out.on HBA.out)).mono ?_; rintro e9 w3 ⟨r, K, rfl, hK, hKl, hr, hb3⟩; refine Hid.out ?_)
  refine Lib.hid ?_
  have HR : Hid (w3.ownsRow (w.heap.size + 2) 89 5 r K.length (crossCells K)) := own_low hr (by simp; omega)
  have HKF : Hid (IsForm C K) := hK
  have HB3 : Hid (Below w.heap.size w w3) := (HB2.out.trans (HBA.out.mono HB2.out.size)).trans (hb3.mono (by simp; omega))
  have HT3 : Hid (w3.heap[w.heap.size + 1]? = some (.cells #[.slice none 0 0, .int .i64 0] 24 (0, 0))) := (hb3.block _ (by simp; omega)).trans (alloc_old HT2.out)
  have hs3 : w.heap.size + 2 ≤ w3.heap.size := by have := hb3.size; simp at this; omega
  clear hr hb3 hK
  obtain ⟨a3, c3', ev3⟩ := own_capS HR.out
  subst ev3
  have r0 : w3.cell? ⟨w.heap.size + 1, 0, none⟩ = some (.slice none 0 0) := block_cell HT3.out rfl
  have r1 : w3.cell? ⟨w.heap.size + 1, 1, none⟩ = some (.int .i64 0) := block_cell HT3.out rfl
  have f0 : w3.frozen? ⟨w.heap.size + 1, 0, none⟩ = false := block_frozen HT3.out
  have f1 : w3.frozen? ⟨w.heap.size + 1, 1, none⟩ = false := block_frozen HT3.out
  have hl : w.heap.size + 1 < w3.heap.size := by omega
  go_wp2
  have hX := set_block (i := 1) (u := .int .i64 loops) (set_block (i := 0) (u := .slice a3 K.length c3') HT3.out)
  have x0 := block_cell (i := 0) (v := .slice a3 K.length c3') hX rfl
  have x1 := block_cell (i := 1) (v := .int .i64 loops) hX rfl
  have hk := HR.out.kept (st2_grown w3 (w.heap.size + 1) 0 (.slice a3 K.length c3') (.int .i64 loops)) (by
    cases hv : (Value.slice a3 K.length c3').ownBlock with
    | none => exact Or.inl rfl
    | some k => exact Or.inr (fun e => by have h1 := (HR.out.lt k hv).1; have h2 := Option.some.inj e; omega))
  exact bodyPost_ret (v := .tuple #[.agg #[.slice a3 K.length c3', .int .i64 loops], .int .i64 0]) (by simp [results, Try.results34, go_sem, x0, x1]) rfl ⟨_, K, rfl, HKF.out, crs_own hk (by unfold maxLen; omega), HB3.out.grown (st2_grown w3 (w.heap.size + 1) 0 (.slice a3 K.length c3') (.int .i64 loops)) (by omega) (fun q hq => by have := Option.some.inj hq; omega)⟩

/-- What canon.Same tells of diagrams that may be. -/
def SameOut (C D : List Cr) (l1 l2 : Int) (e : Ending) : Prop := ∃ b, e = .returned (.tuple #[.bool b, .int .i64 0]) ∧ (l1 ≠ l2 → b = false) ∧ (l1 = l2 → ∃ K1 K2, IsForm C K1 ∧ IsForm D K2 ∧ b = sameD 0 0 K1 K2)
theorem field_diag (r : Value) (l : Int) (w : World) : (Instr.field 24 (.agg #[r, .int .i64 l]) 0).run Try.prog w = .ok r w := by
  simp [Instr.field, run_underlying Try.underlying24, go_sem, asAgg]

set_option maxHeartbeats 4000000 in
set_option maxRecDepth 100000 in
theorem same_no (v1 v2 : Value) (C D : List Cr) (l1 l2 : Int) (w : World) (hm : (mayD C l1 && mayD D l2) = false) (h1 : Crs w w.heap.size v1 C) (h2 : Crs w w.heap.size v2 D) :
    Calls Try.prog 38 #[.agg #[v1, .int .i64 l1], .agg #[v2, .int .i64 l2]] w fun e w' => e = .returned (.tuple #[.bool false, .int .i64 7]) ∧ Below w.heap.size w w' := by
  have HM : Hid ((mayD C l1 && mayD D l2) = false) := hm
  have HC : Hid (Crs w w.heap.size v1 C) := h1
  have HD : Hid (Crs w w.heap.size v2 D) := h2
  obtain ⟨a, cap, rfl, -, -⟩ := h1
  obtain ⟨a', cap', rfl, -, -⟩ := h2
  have HB0 : Hid (Below w.heap.size w ((w.alloc (.cells #[.slice a C.length cap, .int .i64 l1] 24)).alloc (.cells #[.slice a' D.length cap', .int .i64 l2] 24))) := below2 _ _ _
  clear hm
  go_enter Try.func38, Try.ntmps38
  go_wp2_with (go_at_call 41; refine (both_any _ _ C D l1 l2 _ (HC.out.up HB0.out) (HD.out.up HB0.out)).mono ?_; rw [HM.out]; rintro e9 w1 ⟨c0, c1, c2, c3, d0, d1, d2, d3, rfl, hb1, hsc, hsd, -⟩; obtain ⟨xa, xn, xc, xl, xf, xnf, xcf, xt, xnt, xct, rfl, rfl, rfl, rfl⟩ := hsc; obtain ⟨ya, yn, yc, yl, yf, ynf, ycf, yt, ynt, yct, rfl, rfl, rfl, rfl⟩ := hsd; refine Hid.out ?_)
  refine Lib.hid ?_
  have HB1 : Hid (Below w.heap.size w w1) := HB0.out.trans (hb1.mono HB0.out.size)
  clear hb1
  go_wp2
  go_ret2
  exact ⟨rfl, (HB1.out.alloc HB1.out.size _).alloc (by have := HB1.out.size; simp; omega) _⟩

set_option maxHeartbeats 8000000 in
set_option maxRecDepth 100000 in
theorem same_yes (v1 v2 : Value) (C D : List Cr) (l1 l2 : Int) (w : World) (hm : mayD C l1 = true) (hm' : mayD D l2 = true) (h1 : Crs w w.heap.size v1 C) (h2 : Crs w w.heap.size v2 D) :
    Calls Try.prog 38 #[.agg #[v1, .int .i64 l1], .agg #[v2, .int .i64 l2]] w fun e w' => SameOut C D l1 l2 e ∧ Below w.heap.size w w' := by
  have HM : Hid (mayD C l1 = true) := hm
  have HM' : Hid (mayD D l2 = true) := hm'
  have HC : Hid (Crs w w.heap.size v1 C) := h1
  have HD : Hid (Crs w w.heap.size v2 D) := h2
  obtain ⟨a0, cap0, rfl, -, -⟩ := h1
  obtain ⟨a0', cap0', rfl, -, -⟩ := h2
  have HB0 : Hid (Below w.heap.size w ((w.alloc (.cells #[.slice a0 C.length cap0, .int .i64 l1] 24)).alloc (.cells #[.slice a0' D.length cap0', .int .i64 l2] 24))) := below2 _ _ _
  clear hm hm'
  go_enter Try.func38, Try.ntmps38
  go_upto_region 2 with (go_at_call 41; refine (both_draw _ _ C D l1 l2 _ HM.out HM'.out (HC.out.up HB0.out) (HD.out.up HB0.out)).mono ?_; rintro e9 w1 ⟨a, cap, gF, cF, gT, cT, a', cap', gF', cF', gT', cT', rfl, hd1, hd2, hb1⟩; unfold drV)
  have HD1 : Hid (Dr w1 a cap C gF gT) := hd1
  have HD2 : Hid (Dr w1 a' cap' D gF' gT') := hd2
  have HB1 : Hid (Below w.heap.size w w1) := HB0.out.trans (hb1.mono HB0.out.size)
  clear hd1 hd2 hb1 HB0
  obtain ⟨X, hX⟩ : ∃ X, X = (w1.alloc (.cells #[.slice a C.length cap, .int .i64 l1, .slice (some ⟨gF, 0, none⟩) (2 * C.length + 1) cF, .slice (some ⟨gT, 0, none⟩) (2 * C.length + 1) cT] 71)).alloc (.cells #[.slice a' D.length cap', .int .i64 l2, .slice (some ⟨gF', 0, none⟩) (2 * D.length + 1) cF', .slice (some ⟨gT', 0, none⟩) (2 * D.length + 1) cT'] 71) := ⟨_, rfl⟩
  rw [← hX]
  have hsX : X.heap.size = w1.heap.size + 2 := by rw [hX]; simp
  have HBX : Hid (Below w1.heap.size w1 X) := (by rw [hX]; exact below2 _ _ _ : Below w1.heap.size w1 X)
  have HX0 : Hid (X.heap[w1.heap.size]? = some (.cells #[.slice a C.length cap, .int .i64 l1, .slice (some ⟨gF, 0, none⟩) (2 * C.length + 1) cF, .slice (some ⟨gT, 0, none⟩) (2 * C.length + 1) cT] 71 (0, 0))) := (by rw [hX]; exact alloc_old (alloc_at rfl) : X.heap[w1.heap.size]? = some (.cells #[.slice a C.length cap, .int .i64 l1, .slice (some ⟨gF, 0, none⟩) (2 * C.length + 1) cF, .slice (some ⟨gT, 0, none⟩) (2 * C.length + 1) cT] 71 (0, 0)))
  have HX1 : Hid (X.heap[w1.heap.size + 1]? = some (.cells #[.slice a' D.length cap', .int .i64 l2, .slice (some ⟨gF', 0, none⟩) (2 * D.length + 1) cF', .slice (some ⟨gT', 0, none⟩) (2 * D.length + 1) cT'] 71 (0, 0))) := (by rw [hX]; exact alloc_at (by simp) : X.heap[w1.heap.size + 1]? = some (.cells #[.slice a' D.length cap', .int .i64 l2, .slice (some ⟨gF', 0, none⟩) (2 * D.length + 1) cF', .slice (some ⟨gT', 0, none⟩) (2 * D.length + 1) cT'] 71 (0, 0)))
  have hlX0 : w1.heap.size < X.heap.size := by omega
  have hlX1 : w1.heap.size + 1 < X.heap.size := by omega
  clear hX hsX
  have HF : Hid (∀ w', Below X.heap.size X w' → w'.cell? ⟨w1.heap.size, 0, none⟩ = some (.slice a C.length cap) ∧ w'.cell? ⟨w1.heap.size, 1, none⟩ = some (.int .i64 l1) ∧ w'.cell? ⟨w1.heap.size, 2, none⟩ = some (.slice (some ⟨gF, 0, none⟩) (2 * C.length + 1) cF) ∧ w'.cell? ⟨w1.heap.size, 3, none⟩ = some (.slice (some ⟨gT, 0, none⟩) (2 * C.length + 1) cT) ∧ w'.cell? ⟨w1.heap.size + 1, 0, none⟩ = some (.slice a' D.length cap') ∧ w'.cell? ⟨w1.heap.size + 1, 1, none⟩ = some (.int .i64 l2) ∧ w'.cell? ⟨w1.heap.size + 1, 2, none⟩ = some (.slice (some ⟨gF', 0, none⟩) (2 * D.length + 1) cF') ∧ w'.cell? ⟨w1.heap.size + 1, 3, none⟩ = some (.slice (some ⟨gT', 0, none⟩) (2 * D.length + 1) cT')) := fun w' hb => by
    have g0 := (hb.block _ hlX0).trans HX0.out
    have g1 := (hb.block _ hlX1).trans HX1.out
    exact ⟨block_cell g0 rfl, block_cell g0 rfl, block_cell g0 rfl, block_cell g0 rfl, block_cell g1 rfl, block_cell g1 rfl, block_cell g1 rfl, block_cell g1 rfl⟩
  have HBW : Hid (Below w.heap.size w X) := HB1.out.trans (HBX.out.mono HB1.out.size)
  have HDX : Hid (Below X.heap.size X X.drew) := (Below.refl _ _).drew
  obtain ⟨p0, p1, p2, p3, p4, p5, p6, p7⟩ := HF.out X (Below.refl _ _)
  by_cases hll : l1 = l2
  · subst hll
    have hd : (l1 == l1) = true := by simp
    have hfs := field_diag
    have HN1 : Hid (∀ W, Below X.heap.size X W → Dr W a cap C gF gT ∧ Dr W a' cap' D gF' gT') := fun W hW => ⟨HD1.out.on (HBX.out.trans (hW.mono (by omega))), HD2.out.on (HBX.out.trans (hW.mono (by omega)))⟩
    have HCN1 : Hid (∀ W, Below X.heap.size X W → Calls Try.prog 68 #[.agg #[.slice a C.length cap, .int .i64 l1, .slice (some ⟨gF, 0, none⟩) (2 * C.length + 1) cF, .slice (some ⟨gT, 0, none⟩) (2 * C.length + 1) cT]] W fun e w' => ∃ v K, e = .returned (.agg #[v, .int .i64 l1]) ∧ IsForm C K ∧ K.length ≤ 256 ∧ w'.ownsRow W.heap.size 89 5 v K.length (crossCells K) ∧ Below W.heap.size W w') := fun W hW => canonical_is a cap C l1 gF cF gT cT W HM.out (HN1.out W hW).1
    have HCN2 : Hid (∀ W, Below X.heap.size X W → Calls Try.prog 68 #[.agg #[.slice a' D.length cap', .int .i64 l1, .slice (some ⟨gF', 0, none⟩) (2 * D.length + 1) cF', .slice (some ⟨gT', 0, none⟩) (2 * D.length + 1) cT']] W fun e w' => ∃ v K, e = .returned (.agg #[v, .int .i64 l1]) ∧ IsForm D K ∧ K.length ≤ 256 ∧ w'.ownsRow W.heap.size 89 5 v K.length (crossCells K) ∧ Below W.heap.size W w') := fun W hW => canonical_is a' cap' D l1 gF' cF' gT' cT' W HM'.out (HN1.out W hW).2
    go_upto_region 4 with (fail)
    go_region_held3 (fun w' => w'.cell? ⟨w1.heap.size, 0, none⟩ = some (.slice a C.length cap) ∧ w'.cell? ⟨w1.heap.size, 1, none⟩ = some (.int .i64 l1) ∧ w'.cell? ⟨w1.heap.size, 2, none⟩ = some (.slice (some ⟨gF, 0, none⟩) (2 * C.length + 1) cF) ∧ w'.cell? ⟨w1.heap.size, 3, none⟩ = some (.slice (some ⟨gT, 0, none⟩) (2 * C.length + 1) cT) ∧ w'.cell? ⟨w1.heap.size + 1, 0, none⟩ = some (.slice a' D.length cap') ∧ w'.cell? ⟨w1.heap.size + 1, 1, none⟩ = some (.int .i64 l1) ∧ w'.cell? ⟨w1.heap.size + 1, 2, none⟩ = some (.slice (some ⟨gF', 0, none⟩) (2 * D.length + 1) cF') ∧ w'.cell? ⟨w1.heap.size + 1, 3, none⟩ = some (.slice (some ⟨gT', 0, none⟩) (2 * D.length + 1) cT')) (first | exact HF.out _ H5.out | exact HF.out _ H4.out | exact HF.out _ H3.out | exact HF.out _ HDX.out) (first
      | (go_at_call 75; refine (equalCross_any _ _ K1 K2 _ HK1.out HK2.out).mono ?_; rintro e9 w5 ⟨rfl, hb5⟩
         have H5 : Hid (Below X.heap.size X w5) := H4.out.trans (hb5.mono H4.out.size)
         clear hb5)
      | (go_at_call 68; have hAA := H3; clear hAA; refine (HCN2.out _ H3.out).mono ?_; rintro e9 w4 ⟨r2, K2, rfl, hK2, hKl2, hr2, hb4⟩
         have H4 : Hid (Below X.heap.size X w4) := H3.out.trans (hb4.mono H3.out.size)
         have HF2 : Hid (IsForm D K2) := hK2
         obtain ⟨ar2, cr2, er2⟩ := own_capS hr2
         subst er2
         have HK2 : Hid (Crs w4 w4.heap.size (.slice ar2 K2.length cr2) K2) := crs_own hr2 (by unfold maxLen; omega)
         have HK1 : Hid (Crs w4 w4.heap.size (.slice ar1 K1.length cr1) K1) := HK13.out.up hb4
         clear hb4 hK2 hr2)
      | (go_at_call 68; refine (HCN1.out _ HDX.out).mono ?_; rintro e9 w3 ⟨r1, K1, rfl, hK1, hKl1, hr1, hb3⟩
         have H3 : Hid (Below X.heap.size X w3) := HDX.out.trans (hb3.mono HDX.out.size)
         have HF1 : Hid (IsForm C K1) := hK1
         obtain ⟨ar1, cr1, er1⟩ := own_capS hr1
         subst er1
         have HK13 : Hid (Crs w3 w3.heap.size (.slice ar1 K1.length cr1) K1) := crs_own hr1 (by unfold maxLen; omega)
         clear hb3 hK1 hr1))
    have HBF : Hid (Below w.heap.size w w5) := HBW.out.trans (H5.out.mono HBW.out.size)
    obtain ⟨bb, hbb⟩ : ∃ bb, sameD 0 0 K1 K2 = bb := ⟨_, rfl⟩
    have HBB : Hid (sameD 0 0 K1 K2 = bb) := hbb
    rw [hbb]
    clear hbb
    go_wp2
    go_ret2
    exact ⟨⟨bb, rfl, fun h => absurd rfl h, fun _ => ⟨K1, K2, HF1.out, HF2.out, HBB.out.symm⟩⟩, HBF.out⟩
  · have hd : (l1 == l2) = false := beq_eq_false_iff_ne.2 hll
    go_upto_region 4 with (fail)
    go_quiet (fail)
    go_wp2
    go_ret2
    exact ⟨⟨false, rfl, fun _ => rfl, fun h => absurd h hll⟩, below_drewN HBW.out _⟩
end Go.Proofs.Ytkbapnjlnnggaaa

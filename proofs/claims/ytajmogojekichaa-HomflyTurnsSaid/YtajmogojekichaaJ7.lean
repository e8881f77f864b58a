/- The walks of ref.DiagramOf, with what it owns, and of ref.ChangeOf. -/
import Derived.Test.YtajmogojekichaaK4
import Derived.Test.YtajmogojekichaaP5
import Derived.Test.YtajmogojekichaaOm
import Derived.Deep.RegionHeld3
import Derived.Deep.Cut
namespace Go.Proofs.Ytajmogojekichaa
open Go.RowKit

theorem own_block'' {w : World} {B e s n : Nat} {v : Value} {xs : List Value} (h : w.ownsRow B e s v n xs) (hn : 0 < n) : ∃ g c, v = .slice (some ⟨g, 0, none⟩) n c := by
  obtain ⟨g, c, h1, -⟩ := own_block h hn
  exact ⟨g, c, h1⟩
set_option maxHeartbeats 2000000 in
set_option maxRecDepth 100000 in
theorem diagramOf_own (b off cap : Nat) (C : List Cr) (loops : Int) (w : World) (hl : C.length * 40 ≤ 140737488355328) (hlt : b < w.heap.size) (hC : CrossAt w b off C) :
    Calls Try.prog 27 #[.agg #[.slice (some ⟨b, off, none⟩) C.length cap, .int .i64 loops]] w fun e w' => ∃ v', e = .returned (.agg #[v', .int .i64 loops]) ∧ w'.ownsRow w.heap.size 99 5 v' C.length (crossCells C) ∧ Below w.heap.size w w' := by
  obtain ⟨i0, hi, hz0, hz1, hz2⟩ := info_parts infoCross
  have hm : C.length ≤ maxLen := by unfold maxLen; omega
  obtain ⟨w0, hw0⟩ : ∃ w0, w0 = (w.alloc (.cells #[.slice (some ⟨b, off, none⟩) C.length cap, .int .i64 loops] 24)).alloc (.cells #[.slice none 0 0, .int .i64 0] 24) := ⟨_, rfl⟩
  have HW0 : Hid (w0 = (w.alloc (.cells #[.slice (some ⟨b, off, none⟩) C.length cap, .int .i64 loops] 24)).alloc (.cells #[.slice none 0 0, .int .i64 0] 24)) := hw0
  have hs0 : w0.heap.size = w.heap.size + 2 := by rw [hw0]; simp
  have HB0 : Hid (Below w.heap.size w w0) := (by rw [hw0]; exact below2 _ _ _ : Below w.heap.size w w0)
  clear hw0
  have c0 : w0.heap[w.heap.size]? = some (.cells #[.slice (some ⟨b, off, none⟩) C.length cap, .int .i64 loops] 24 (0, 0)) := by rw [HW0.out]; exact alloc_old (alloc_at rfl)
  have c1 : w0.heap[w.heap.size + 1]? = some (.cells #[.slice none 0 0, .int .i64 0] 24 (0, 0)) := by rw [HW0.out]; exact alloc_at (by simp)
  have HC0 : Hid (w0.heap[w.heap.size]? = some (.cells #[.slice (some ⟨b, off, none⟩) C.length cap, .int .i64 loops] 24 (0, 0))) := c0
  have HC1 : Hid (w0.heap[w.heap.size + 1]? = some (.cells #[.slice none 0 0, .int .i64 0] 24 (0, 0))) := c1
  clear c0 c1
  have HCA : Hid (CrossAt ((w.alloc (.cells #[.slice (some ⟨b, off, none⟩) C.length cap, .int .i64 loops] 24)).alloc (.cells #[.slice none 0 0, .int .i64 0] 24)) b off C) := hC.on (below2 _ _ _) hlt
  clear hC
  go_enter Try.func27, Try.ntmps27
  go_wp2_with (at_builtin; refine wpList_append_own _ rfl _ _ 22 rfl (w.heap.size + 2) 99 i0 (.agg #[.int .i64 0, .int .i64 0, .int .i64 0, .int .i64 0, .bool false]) 5 40 Try.underlying22 hi hz0 hz1 hz2 rfl (by decide) _ 0 [] rfl (World.ownsRow_nil _ _ _ _) ⟨b, off, none⟩ C.length cap (crossCells C) rfl (cells_length C) (cells_at HCA.out) (cells_one C) (by unfold maxLen; omega) (by omega) (by simp) ?_; intro v' w1 hown hgr _; refine Hid.out ?_)
  refine Lib.hid ?_
  rw [← HW0.out] at hgr
  have HGR : Hid (w0.grownBy w1 none) := hgr
  have HOW : Hid (w1.ownsRow (w.heap.size + 2) 99 5 v' (0 + C.length) ([] ++ (crossCells C))) := hown
  obtain ⟨a', c', rfl⟩ := own_capS hown
  have hs1 := hgr.size
  clear hown hgr
  have hg0 := (HGR.out.block _ (by omega) (by simp)).trans HC0.out
  have hg1 := (HGR.out.block _ (by omega) (by simp)).trans HC1.out
  have p0 : w1.cell? ⟨w.heap.size, 0, none⟩ = some (.slice (some ⟨b, off, none⟩) C.length cap) := block_cell hg0 rfl
  have p1 : w1.cell? ⟨w.heap.size, 1, none⟩ = some (.int .i64 loops) := block_cell hg0 rfl
  have p2 : w1.cell? ⟨w.heap.size + 1, 0, none⟩ = some (.slice none 0 0) := block_cell hg1 rfl
  have p3 : w1.cell? ⟨w.heap.size + 1, 1, none⟩ = some (.int .i64 0) := block_cell hg1 rfl
  have f0 : w1.frozen? ⟨w.heap.size, 0, none⟩ = false := block_frozen hg0
  have f2 : w1.frozen? ⟨w.heap.size + 1, 0, none⟩ = false := block_frozen hg1
  have f3 : w1.frozen? ⟨w.heap.size + 1, 1, none⟩ = false := block_frozen hg1
  have HG1 : Hid (w1.heap[w.heap.size + 1]? = some (.cells #[.slice none 0 0, .int .i64 0] 24 (0, 0))) := hg1
  clear hg0 hg1
  go_wp2
  have hq0 := ((set_grown w1 w.heap.size 0 (.slice a' C.length c')).block (w.heap.size + 1) (by omega) (fun e => by have := Option.some.inj e; omega)).trans HG1.out
  have hq := set_block (i := 1) (u := .int .i64 loops) (set_block (i := 0) (u := .slice a' C.length c') hq0)
  have x0 := block_cell (i := 0) (v := .slice a' C.length c') hq rfl
  have x1 := block_cell (i := 1) (v := .int .i64 loops) hq rfl
  have hk1 := HOW.out.kept (set_grown w1 w.heap.size 0 (.slice a' C.length c')) (by rcases HOW.out.2 with ⟨e, _⟩ | ⟨g, cp, cu, e, hg, _⟩ <;> injection e with e1 e2 e3 <;> subst e1 <;> first | exact Or.inl rfl | (refine Or.inr (fun e => ?_); have : g = w.heap.size := Option.some.inj e; omega))
  have hk2 := hk1.kept (st2_grown (w1.setCell ⟨w.heap.size, 0, none⟩ (.slice a' C.length c')) (w.heap.size + 1) 0 (.slice a' C.length c') (.int .i64 loops)) (by rcases HOW.out.2 with ⟨e, _⟩ | ⟨g, cp, cu, e, hg, _⟩ <;> injection e with e1 e2 e3 <;> subst e1 <;> first | exact Or.inl rfl | (refine Or.inr (fun e => ?_); have : g = w.heap.size + 1 := Option.some.inj e; omega))
  refine bodyPost_ret (v := .agg #[.slice a' C.length c', .int .i64 loops]) (by simp [results, Try.results27, go_sem, x0, x1]) rfl ⟨_, rfl, ?_, ?_⟩
  · rw [Nat.zero_add, List.nil_append] at hk2
    exact own_low hk2 (by omega)
  · exact ((HB0.out.grown HGR.out (by omega) (fun k hk => by cases hk)).grown (set_grown w1 w.heap.size 0 (.slice a' C.length c')) (by omega) (fun k hk => by have := Option.some.inj hk; omega)).grown (st2_grown (w1.setCell ⟨w.heap.size, 0, none⟩ (.slice a' C.length c')) (w.heap.size + 1) 0 (.slice a' C.length c') (.int .i64 loops)) (by simp; omega) (fun k hk => by have := Option.some.inj hk; omega)


set_option maxHeartbeats 8000000 in
set_option maxRecDepth 100000 in
theorem changeOf_any (a : Option Addr) (cap : Nat) (C : List Cr) (loops : Int) (k : Nat) (w : World) (hl : C.length ≤ 16) (hk : k < C.length) (hD : Crs w w.heap.size (.slice a C.length cap) C) :
    Calls Try.prog 52 #[.agg #[.slice a C.length cap, .int .i64 loops], .int .i64 (k : Nat)] w fun e w' => ∃ v, e = .returned (.agg #[v, .int .i64 loops]) ∧ w'.ownsRow w.heap.size 99 5 v C.length (crossCells (C.set k (mirX (C.getD k Cr.none)))) ∧ Below w.heap.size w w' := by
  obtain ⟨b, off, ea, hbw, hC⟩ := crs_some hD (by omega)
  subst ea
  have HC : Hid (CrossAt w b off C) := hC
  have HB0 : Hid (Below w.heap.size w ((w.alloc (.cells #[.slice (some ⟨b, off, none⟩) C.length cap, .int .i64 loops] 24)).alloc (.cells #[.slice none 0 0, .int .i64 0] 24))) := below2 _ _ _
  have HT0 : Hid (((w.alloc (.cells #[.slice (some ⟨b, off, none⟩) C.length cap, .int .i64 loops] 24)).alloc (.cells #[.slice none 0 0, .int .i64 0] 24)).heap[w.heap.size]? = some (.cells #[.slice (some ⟨b, off, none⟩) C.length cap, .int .i64 loops] 24 (0, 0))) := alloc_old (alloc_at rfl)
  have HT1 : Hid (((w.alloc (.cells #[.slice (some ⟨b, off, none⟩) C.length cap, .int .i64 loops] 24)).alloc (.cells #[.slice none 0 0, .int .i64 0] 24)).heap[w.heap.size + 1]? = some (.cells #[.slice none 0 0, .int .i64 0] 24 (0, 0))) := alloc_at (by simp)
  clear hC hD
  go_enter Try.func52, Try.ntmps52
  go_wp2_with (go_at_call 27; refine (diagramOf_own b off cap C loops _ (by omega) (by simp; omega) (HC.out.on HB0.out hbw)).mono ?_; rintro e9 w2 ⟨v2, rfl, hr2, hb2⟩; refine Hid.out ?_)
  refine Lib.hid ?_
  obtain ⟨g2, c2, ev2⟩ := own_block'' hr2 (by omega)
  subst ev2
  have HB2 : Hid (Below w.heap.size w w2) := HB0.out.trans (hb2.mono (by simp; omega))
  have hs2 : w.heap.size + 2 ≤ w2.heap.size := by have := hb2.size; simpa using this
  have HO2 : Hid (w2.ownsRow (w.heap.size + 2) 99 5 (.slice (some ⟨g2, 0, none⟩) C.length c2) C.length (crossCells C)) := own_low hr2 (by simp)
  have HR0 : Hid (w2.heap[w.heap.size]? = some (.cells #[.slice (some ⟨b, off, none⟩) C.length cap, .int .i64 loops] 24 (0, 0))) := (hb2.block _ (by simp; omega)).trans HT0.out
  have HR1 : Hid (w2.heap[w.heap.size + 1]? = some (.cells #[.slice none 0 0, .int .i64 0] 24 (0, 0))) := (hb2.block _ (by simp)).trans HT1.out
  clear hr2 hb2
  obtain ⟨X, hX0⟩ : ∃ X, X = w2.alloc (.cells #[.slice (some ⟨g2, 0, none⟩) C.length c2, .int .i64 loops] 24) := ⟨_, rfl⟩
  have HX : Hid (X = w2.alloc (.cells #[.slice (some ⟨g2, 0, none⟩) C.length c2, .int .i64 loops] 24)) := hX0
  have HBX : Hid (Below w2.heap.size w2 X) := (by rw [hX0]; exact (Below.refl _ _).alloc (Nat.le_refl _) _ : Below w2.heap.size w2 X)
  have HTX : Hid (X.heap[w2.heap.size]? = some (.cells #[.slice (some ⟨g2, 0, none⟩) C.length c2, .int .i64 loops] 24 (0, 0))) := (by rw [hX0]; exact alloc_at rfl : X.heap[w2.heap.size]? = some (.cells #[.slice (some ⟨g2, 0, none⟩) C.length c2, .int .i64 loops] 24 (0, 0)))
  have hsX : w2.heap.size < X.heap.size := by rw [hX0]; simp
  clear hX0
  have HWX : Hid (Below w.heap.size w X) := HB2.out.trans (HBX.out.mono HB2.out.size)
  obtain ⟨x, hx⟩ : ∃ x, C.getD k Cr.none = x := ⟨_, rfl⟩
  have HXE : Hid (C.getD k Cr.none = x) := hx
  obtain ⟨m0, m1, m2, m3, m4⟩ := (HC.out.on HWX.out hbw) k hk
  rw [hx] at m0 m1 m2 m3 m4
  clear hx
  obtain ⟨xa, xb, xc, xd, xp⟩ := x
  have y0 : X.cell? ⟨w.heap.size, 0, none⟩ = some (.slice (some ⟨b, off, none⟩) C.length cap) := block_cell ((HBX.out.block _ (by omega)).trans HR0.out) rfl
  have ly : w.heap.size < X.heap.size := by omega
  have lb : b < X.heap.size := by omega
  have ik0 : (0 : Int) ≤ (k : Int) := by omega
  have ik1 : (k : Int) < (C.length : Int) := by omega
  have HBZ : Hid (Below X.heap.size X (X.alloc (.cells #[.int .i64 xa, .int .i64 xb, .int .i64 xc, .int .i64 xd, .bool xp] 99))) := (Below.refl _ _).alloc (Nat.le_refl _) _
  have HCZ : Hid (Crs (X.alloc (.cells #[.int .i64 xa, .int .i64 xb, .int .i64 xc, .int .i64 xd, .bool xp] 99)) (X.alloc (.cells #[.int .i64 xa, .int .i64 xb, .int .i64 xc, .int .i64 xd, .bool xp] 99)).heap.size (.slice (some ⟨X.heap.size, 0, none⟩) 1 1) [⟨xa, xb, xc, xd, xp⟩]) := ⟨some ⟨X.heap.size, 0, none⟩, 1, rfl, by unfold maxLen; simp, fun _ => ⟨X.heap.size, 0, rfl, by simp, fun i hi => by
    obtain rfl : i = 0 := by simpa using hi
    have h := alloc_at (w := X) (o := .cells #[.int .i64 xa, .int .i64 xb, .int .i64 xc, .int .i64 xd, .bool xp] 99) rfl
    exact ⟨block_cell h rfl, block_cell h rfl, block_cell h rfl, block_cell h rfl, block_cell h rfl⟩⟩⟩
  go_upto_region 2 with (fail)
  rw [← HX.out]
  go_wp2_with (go_at_call 107; refine (mirrorOf_any (some ⟨X.heap.size, 0, none⟩) 1 [⟨xa, xb, xc, xd, xp⟩] 0 _ (by simp) HCZ.out).mono ?_; rintro e9 w3 ⟨v3, rfl, hr3, hb3⟩; refine Hid.out ?_)
  refine Lib.hid ?_
  obtain ⟨g3, c3, ev3⟩ := own_block'' hr3 (by simp)
  subst ev3
  have HB3 : Hid (Below X.heap.size X w3) := HBZ.out.trans (hb3.mono (by simp))
  have hs3 := HB3.out.size
  have HO3 : Hid (w3.ownsRow X.heap.size 99 5 (.slice (some ⟨g3, 0, none⟩) 1 c3) 1 (crossCells [mirX ⟨xa, xb, xc, xd, xp⟩])) := own_low hr3 (by simp)
  have hg3 := HO3.out.lt g3 rfl
  clear hr3 hb3 m0 m1 m2 m3 m4 y0
  obtain ⟨y, hy⟩ : ∃ y, mirX ⟨xa, xb, xc, xd, xp⟩ = y := ⟨_, rfl⟩
  have HYE : Hid (mirX ⟨xa, xb, xc, xd, xp⟩ = y) := hy
  rw [hy] at HO3
  clear hy
  obtain ⟨ya, yb, yc, yd, yp⟩ := y
  obtain ⟨V, hV0⟩ : ∃ V, V = w3.alloc (.cells #[.slice (some ⟨g3, 0, none⟩) 1 c3, .int .i64 0] 24) := ⟨_, rfl⟩
  have HV : Hid (V = w3.alloc (.cells #[.slice (some ⟨g3, 0, none⟩) 1 c3, .int .i64 0] 24)) := hV0
  have HBV : Hid (Below w3.heap.size w3 V) := (by rw [hV0]; exact (Below.refl _ _).alloc (Nat.le_refl _) _ : Below w3.heap.size w3 V)
  have HTV : Hid (V.heap[w3.heap.size]? = some (.cells #[.slice (some ⟨g3, 0, none⟩) 1 c3, .int .i64 0] 24 (0, 0))) := (by rw [hV0]; exact alloc_at rfl : V.heap[w3.heap.size]? = some (.cells #[.slice (some ⟨g3, 0, none⟩) 1 c3, .int .i64 0] 24 (0, 0)))
  have hsV : w3.heap.size < V.heap.size := by rw [hV0]; simp
  clear hV0
  have HXV : Hid (Below X.heap.size X V) := HB3.out.trans (HBV.out.mono hs3)
  have HWV : Hid (Below w.heap.size w V) := HWX.out.trans (HXV.out.mono HWX.out.size)
  have HRV : Hid (V.ownsRow (w.heap.size + 2) 99 5 (.slice (some ⟨g2, 0, none⟩) C.length c2) C.length (crossCells C)) := own_any HO2.out (grown_below (HBX.out.trans (HXV.out.mono (by omega))) none)
  have HMV : Hid (V.ownsRow X.heap.size 99 5 (.slice (some ⟨g3, 0, none⟩) 1 c3) 1 (crossCells [⟨ya, yb, yc, yd, yp⟩])) := own_any HO3.out (grown_below HBV.out none)
  have HSV : Hid (V.heap[w.heap.size + 1]? = some (.cells #[.slice none 0 0, .int .i64 0] 24 (0, 0))) := (HXV.out.block _ (by omega)).trans ((HBX.out.block _ (by omega)).trans HR1.out)
  have HDV : Hid (V.heap[w2.heap.size]? = some (.cells #[.slice (some ⟨g2, 0, none⟩) C.length c2, .int .i64 loops] 24 (0, 0))) := (HXV.out.block _ (by omega)).trans HTX.out
  have hg2 := HRV.out.lt g2 rfl
  have HG2W : Hid (g2 < w2.heap.size) := (HO2.out.lt g2 rfl).2
  have p0 : V.cell? ⟨w2.heap.size, 0, none⟩ = some (.slice (some ⟨g2, 0, none⟩) C.length c2) := block_cell HDV.out rfl
  have p1 : V.cell? ⟨w3.heap.size, 0, none⟩ = some (.slice (some ⟨g3, 0, none⟩) 1 c3) := block_cell HTV.out rfl
  have n3 : ∀ q, q < 1 * 5 → V.cell? ⟨g3, q, none⟩ = (crossCells [(⟨ya, yb, yc, yd, yp⟩ : Cr)])[q]? := fun q hq => HMV.out.cellAt q hq
  have t0 : V.cell? ⟨g3, 0, none⟩ = some (.int .i64 ya) := n3 0 (by omega)
  have t1 : V.cell? ⟨g3, 1, none⟩ = some (.int .i64 yb) := n3 1 (by omega)
  have t2 : V.cell? ⟨g3, 2, none⟩ = some (.int .i64 yc) := n3 2 (by omega)
  have t3 : V.cell? ⟨g3, 3, none⟩ = some (.int .i64 yd) := n3 3 (by omega)
  have t4 : V.cell? ⟨g3, 4, none⟩ = some (.bool yp) := n3 4 (by omega)
  have n0 : ∀ q, q < C.length * 5 → V.cell? ⟨g2, q, none⟩ = (crossCells C)[q]? := fun q hq => HRV.out.cellAt q hq
  obtain ⟨e0, e1, e2, e3, e4⟩ := cells_get C k hk
  have o0 := (n0 (k * 5) (by omega)).trans e0
  have o1 := (n0 (k * 5 + 1) (by omega)).trans e1
  have o2 := (n0 (k * 5 + 2) (by omega)).trans e2
  have o3 := (n0 (k * 5 + 3) (by omega)).trans e3
  have o4 := (n0 (k * 5 + 4) (by omega)).trans e4
  have z0 : V.frozen? ⟨g2, k * 5, none⟩ = false := HRV.out.frozenAt _
  have z1 : V.frozen? ⟨g2, k * 5 + 1, none⟩ = false := HRV.out.frozenAt _
  have z2 : V.frozen? ⟨g2, k * 5 + 2, none⟩ = false := HRV.out.frozenAt _
  have z3 : V.frozen? ⟨g2, k * 5 + 3, none⟩ = false := HRV.out.frozenAt _
  have z4 : V.frozen? ⟨g2, k * 5 + 4, none⟩ = false := HRV.out.frozenAt _
  have lg2 : g2 < V.heap.size := hg2.2
  have lg3 : g3 < V.heap.size := by omega
  have lw2 : w2.heap.size < V.heap.size := by omega
  generalize C.getD k Cr.none = cx at o0 o1 o2 o3 o4
  clear n0 n3 e0 e1 e2 e3 e4
  go_upto_region 3 with (fail)
  rw [← HV.out]
  go_big_region
  have h5 := put5R HRV.out hk ⟨ya, yb, yc, yd, yp⟩
  generalize ((((V.setCell ⟨g2, k * 5, none⟩ (.int .i64 ya)).setCell ⟨g2, k * 5 + 1, none⟩ (.int .i64 yb)).setCell ⟨g2, k * 5 + 2, none⟩ (.int .i64 yc)).setCell ⟨g2, k * 5 + 3, none⟩ (.int .i64 yd)).setCell ⟨g2, k * 5 + 4, none⟩ (.bool yp) = Z at h5 ⊢
  have HDZ : Hid (Below Z.heap.size Z Z.drew) := (Below.refl _ _).drew
  have HZR : Hid (Z.drew.ownsRow (w.heap.size + 2) 99 5 (.slice (some ⟨g2, 0, none⟩) C.length c2) C.length (crossCells (C.set k ⟨ya, yb, yc, yd, yp⟩))) := own_any h5.1 (grown_below HDZ.out none)
  have hsZ := h5.2.size
  have HZS : Hid (Z.drew.heap[w.heap.size + 1]? = some (.cells #[.slice none 0 0, .int .i64 0] 24 (0, 0))) := ((h5.2.block _ (by omega) (fun e => by have := Option.some.inj e; omega)).trans HSV.out : Z.heap[w.heap.size + 1]? = some (.cells #[.slice none 0 0, .int .i64 0] 24 (0, 0)))
  have HZD : Hid (Z.drew.heap[w2.heap.size]? = some (.cells #[.slice (some ⟨g2, 0, none⟩) C.length c2, .int .i64 loops] 24 (0, 0))) := ((h5.2.block _ (by omega) (fun e => by have := Option.some.inj e; have := HG2W.out; omega)).trans HDV.out : Z.heap[w2.heap.size]? = some (.cells #[.slice (some ⟨g2, 0, none⟩) C.length c2, .int .i64 loops] 24 (0, 0)))
  have HZB : Hid (Below w.heap.size w Z.drew) := (HWV.out.grown h5.2 HWV.out.size (fun q hq => by have := Option.some.inj hq; omega)).drew
  clear h5 o0 o1 o2 o3 o4 z0 z1 z2 z3 z4 t0 t1 t2 t3 t4 p0 p1
  obtain ⟨Y, hY⟩ : ∃ Y, Y = Z.drew := ⟨_, rfl⟩
  have hsY : Y.heap.size = Z.heap.size := by rw [hY]; rfl
  have q2 : w.heap.size + 1 < Y.heap.size := by rw [hsY]; omega
  have q1 : w2.heap.size < Y.heap.size := by rw [hsY]; omega
  rw [← hY] at HZR HZS HZD HZB ⊢
  clear hY hsY
  have d0 : Y.cell? ⟨w2.heap.size, 0, none⟩ = some (.slice (some ⟨g2, 0, none⟩) C.length c2) := block_cell HZD.out rfl
  have d1 : Y.cell? ⟨w2.heap.size, 1, none⟩ = some (.int .i64 loops) := block_cell HZD.out rfl
  have r0 : Y.cell? ⟨w.heap.size + 1, 0, none⟩ = some (.slice none 0 0) := block_cell HZS.out rfl
  have r1 : Y.cell? ⟨w.heap.size + 1, 1, none⟩ = some (.int .i64 0) := block_cell HZS.out rfl
  have f0 : Y.frozen? ⟨w.heap.size + 1, 0, none⟩ = false := block_frozen HZS.out
  have f1 : Y.frozen? ⟨w.heap.size + 1, 1, none⟩ = false := block_frozen HZS.out
  go_wp2
  have hX := set_block (i := 1) (u := .int .i64 loops) (set_block (i := 0) (u := .slice (some ⟨g2, 0, none⟩) C.length c2) HZS.out)
  have x0 := block_cell (i := 0) (v := .slice (some ⟨g2, 0, none⟩) C.length c2) hX rfl
  have x1 := block_cell (i := 1) (v := .int .i64 loops) hX rfl
  have hgg := st2_grown Y (w.heap.size + 1) 0 (.slice (some ⟨g2, 0, none⟩) C.length c2) (.int .i64 loops)
  refine bodyPost_ret (v := .agg #[.slice (some ⟨g2, 0, none⟩) C.length c2, .int .i64 loops]) (by simp [results, Try.results52, go_sem, x0, x1]) rfl ⟨_, rfl, ?_, HZB.out.grown hgg HZB.out.size (fun q hq => by have := Option.some.inj hq; omega)⟩
  rw [HXE.out, HYE.out]
  exact own_low (HZR.out.kept hgg (Or.inr (fun e => by have : g2 = w.heap.size + 1 := Option.some.inj e; omega))) (by omega)
end Go.Proofs.Ytajmogojekichaa

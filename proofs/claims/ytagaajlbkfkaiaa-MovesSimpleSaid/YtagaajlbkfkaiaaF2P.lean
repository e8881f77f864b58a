/- Several texts of the proof, one behind the other. -/
import Derived.Test.YtagaajlbkfkaiaaW2P
import Derived.Deep.Cut
import Derived.Test.YtagaajlbkfkaiaaH7
import Derived.Deep.RegionHeld3
import Derived.Test.YtagaajlbkfkaiaaJ1P
/- The walks of Drawing.Onward and ref.NextDart. -/
namespace Go.Proofs.Ytagaajlbkfkaiaa
open Go.RowKit

set_option maxHeartbeats 4000000 in
set_option maxRecDepth 100000 in
theorem onward_any (a : Option Addr) (cap : Nat) (C : List Cr) (loops : Int) (gF cF gT cT : Nat) (j : Nat) (w : World) (hm : mayD C loops = true) (h1 : 1 ≤ j) (h2 : j ≤ 4 * C.length) (hD : Dr w a cap C gF gT) :
    Calls Try.prog 95 #[drV a cap C loops gF cF gT cT, .agg #[.int .i64 (dA j : Nat), .bool (dB j)]] w fun e w' => e = .returned (.agg #[.int .i64 (dA (fd C j) : Nat), .bool (dB (fd C j))]) ∧ Below w.heap.size w w' := by
  have HM : Hid (mayD C loops = true) := hm
  have hA := dA_le h1 h2
  obtain ⟨-, hi, hs⟩ := d_may hm j h1 h2
  obtain ⟨f1, f2, -, -⟩ := fd_may hm j h1 h2
  have HF1 : Hid ((C.getD (dC C j) Cr.none).arc ((dS C j + 3) % 4) = (dA (fd C j) : Int)) := f1
  have HF2 : Hid ((C.getD (dC C j) Cr.none).comes ((dS C j + 3) % 4) = dB (fd C j)) := f2
  obtain ⟨i, hci⟩ : ∃ i, dC C j = i := ⟨_, rfl⟩
  obtain ⟨k, hck⟩ : ∃ k, dS C j = k := ⟨_, rfl⟩
  have HE : Hid (∀ W, Dr W a cap C gF gT → Calls Try.prog 78 #[drV a cap C loops gF cF gT cT, .agg #[.int .i64 (dA j : Nat), .bool (dB j)]] W fun e w' => e = .returned (.agg #[.int .i64 (i : Nat), .int .i64 (k : Nat)]) ∧ Below W.heap.size W w') := fun W hW => by
    rw [← hci, ← hck]
    exact end_any a cap C loops gF cF gT cT (dA j) (dB j) W hm hA.1 hA.2 hW
  rw [hci, hck] at HF1 HF2
  rw [hci] at hi
  rw [hck] at hs
  generalize dA (fd C j) = zA at HF1 ⊢
  generalize dB (fd C j) = zB at HF2 ⊢
  obtain ⟨k2, hk2⟩ : ∃ k2 : Nat, k2 = (k + 3) % 4 := ⟨_, rfl⟩
  rw [← hk2] at HF1 HF2
  have e0 : IntKind.i64.wrap ((k : Int) + 4) = (k : Int) + 4 := IntWalk.i64_in _ (by omega)
  have e1 : IntKind.i64.wrap ((k : Int) + 4 - 1) = (k : Int) + 4 - 1 := IntWalk.i64_in _ (by omega)
  have e2 : ((k : Int) + 4 - 1).tmod 4 = (k2 : Int) := by rw [Int.tmod_eq_emod_of_nonneg (by omega)]; omega
  have hk24 : k2 < 4 := by omega
  have HD : Hid (Dr w a cap C gF gT) := hD
  clear hk2 hci hck f1 f2 hm hD
  obtain ⟨b, off, rfl, hbw, hC⟩ := HD.out.cross (by omega)
  have HC : Hid (CrossAt w b off C) := hC
  unfold drV
  unfold drV at HE
  generalize dA j = jA at HE hA ⊢
  generalize dB j = jB at HE ⊢
  obtain ⟨w0, hw0⟩ : ∃ w0, w0 = ((w.alloc (.cells #[.slice (some ⟨b, off, none⟩) C.length cap, .int .i64 loops, .slice (some ⟨gF, 0, none⟩) (2 * C.length + 1) cF, .slice (some ⟨gT, 0, none⟩) (2 * C.length + 1) cT] 61)).alloc (.cells #[.int .i64 jA, .bool jB] 26)).alloc (.cells #[.int .i64 0, .bool false] 26) := ⟨_, rfl⟩
  have HW0 : Hid (w0 = ((w.alloc (.cells #[.slice (some ⟨b, off, none⟩) C.length cap, .int .i64 loops, .slice (some ⟨gF, 0, none⟩) (2 * C.length + 1) cF, .slice (some ⟨gT, 0, none⟩) (2 * C.length + 1) cT] 61)).alloc (.cells #[.int .i64 jA, .bool jB] 26)).alloc (.cells #[.int .i64 0, .bool false] 26)) := hw0
  have hs0 : w0.heap.size = w.heap.size + 3 := by rw [hw0]; simp
  have HB0 : Hid (Below w.heap.size w w0) := (by rw [hw0]; exact below3 _ _ _ _ : Below w.heap.size w w0)
  have HT0 : Hid (w0.heap[w.heap.size]? = some (.cells #[.slice (some ⟨b, off, none⟩) C.length cap, .int .i64 loops, .slice (some ⟨gF, 0, none⟩) (2 * C.length + 1) cF, .slice (some ⟨gT, 0, none⟩) (2 * C.length + 1) cT] 61 (0, 0))) := (by rw [hw0]; exact alloc_old (alloc_old (alloc_at rfl)) : w0.heap[w.heap.size]? = some (.cells #[.slice (some ⟨b, off, none⟩) C.length cap, .int .i64 loops, .slice (some ⟨gF, 0, none⟩) (2 * C.length + 1) cF, .slice (some ⟨gT, 0, none⟩) (2 * C.length + 1) cT] 61 (0, 0)))
  have HT2 : Hid (w0.heap[w.heap.size + 1 + 1]? = some (.cells #[.int .i64 0, .bool false] 26 (0, 0))) := (by rw [hw0]; exact alloc_at (by simp) : w0.heap[w.heap.size + 1 + 1]? = some (.cells #[.int .i64 0, .bool false] 26 (0, 0)))
  have HD0 : Hid (Dr w0 (some ⟨b, off, none⟩) cap C gF gT) := HD.out.on HB0.out
  clear hw0 hC
  go_enter Try.func95, Try.ntmps95
  go_wp2_with (go_at_call 78; rw [← HW0.out]; refine (HE.out _ HD0.out).mono ?_; rintro e9 w1 ⟨rfl, hb1⟩; refine Hid.out ?_)
  refine Lib.hid ?_
  have hs1 := hb1.size
  have g0 := (hb1.block _ (by omega)).trans HT0.out
  have HG2 : Hid (w1.heap[w.heap.size + 1 + 1]? = some (.cells #[.int .i64 0, .bool false] 26 (0, 0))) := (hb1.block _ (by omega)).trans HT2.out
  have HB1 : Hid (Below w.heap.size w w1) := HB0.out.trans (hb1.mono (by omega))
  have p0 : w1.cell? ⟨w.heap.size, 0, none⟩ = some (.slice (some ⟨b, off, none⟩) C.length cap) := block_cell g0 rfl
  have p1 : w1.cell? ⟨w.heap.size, 1, none⟩ = some (.int .i64 loops) := block_cell g0 rfl
  have p2 : w1.cell? ⟨w.heap.size, 2, none⟩ = some (.slice (some ⟨gF, 0, none⟩) (2 * C.length + 1) cF) := block_cell g0 rfl
  have p3 : w1.cell? ⟨w.heap.size, 3, none⟩ = some (.slice (some ⟨gT, 0, none⟩) (2 * C.length + 1) cT) := block_cell g0 rfl
  have l0 : w.heap.size < w1.heap.size := by omega
  obtain ⟨X, hX⟩ : ∃ X, X = w1.alloc (.cells #[.int .i64 i, .int .i64 k2] 120) := ⟨_, rfl⟩
  have HX : Hid (X = w1.alloc (.cells #[.int .i64 i, .int .i64 k2] 120)) := hX
  have H1X : Hid (Below w1.heap.size w1 X) := (by rw [hX]; exact (Below.refl _ _).alloc (Nat.le_refl _) _ : Below w1.heap.size w1 X)
  have hsX : X.heap.size = w1.heap.size + 1 := by rw [hX]; simp
  have HBX : Hid (Below w.heap.size w X) := HB1.out.trans (H1X.out.mono HB1.out.size)
  have HCX : Hid (CrossAt X b off C) := HC.out.on HBX.out hbw
  clear hb1 g0 hX
  go_wp2_with (go_at_call 117; rw [← HX.out]; refine (leaving_any b off cap C loops _ _ i k2 _ hi hk24 (by omega) HCX.out).mono ?_; rw [HF1.out, HF2.out]; rintro e9 w2 ⟨rfl, hb2⟩; refine Hid.out ?_)
  refine Lib.hid ?_
  have hs2 := hb2.size
  have g2 := (hb2.block _ (by omega)).trans ((H1X.out.block _ (by omega)).trans HG2.out)
  have r0 := block_cell (i := 0) (v := .int .i64 0) g2 rfl
  have r1 := block_cell (i := 1) (v := .bool false) g2 rfl
  have f0 := block_frozen (i := 0) g2
  have f1 := block_frozen (i := 1) g2
  have lr : w.heap.size + 1 + 1 < w2.heap.size := by omega
  have HB2 : Hid (Below w.heap.size w w2) := HBX.out.trans (hb2.mono (by omega))
  have HGG : Hid (w2.heap[w.heap.size + 1 + 1]? = some (.cells #[.int .i64 0, .bool false] 26 (0, 0))) := g2
  clear hb2 g2 p0 p1 p2 p3
  go_wp2
  have hX2 := set_block (i := 1) (u := .bool zB) (set_block (i := 0) (u := .int .i64 zA) HGG.out)
  have x0 := block_cell (i := 0) (v := .int .i64 zA) hX2 rfl
  have x1 := block_cell (i := 1) (v := .bool zB) hX2 rfl
  exact bodyPost_ret (v := .agg #[.int .i64 zA, .bool zB]) (by simp [results, Try.results95, go_sem, x0, x1]) rfl ⟨rfl, HB2.out.grown (st2_grown w2 (w.heap.size + 1 + 1) 0 (.int .i64 zA) (.bool zB)) (by omega) (fun q hq => by have := Option.some.inj hq; omega)⟩

end Go.Proofs.Ytagaajlbkfkaiaa
/- The walk of ref.FacesOf. -/
namespace Go.Proofs.Ytagaajlbkfkaiaa
open Go.RowKit

/-- Darts as values. -/
def dd (l : List Nat) : List (Nat × Bool) := l.map fun j => (dA j, dB j)
theorem dd_app (l : List Nat) (j : Nat) : dd (l ++ [j]) = dd l ++ [(dA j, dB j)] := by simp [dd]
theorem dd_len (l : List Nat) : (dd l).length = l.length := by simp [dd]
/-- Rows of darts of the call's own. -/
def DartsOwn (w : World) (B : Nat) (v : Value) (L : List (List Nat)) : Prop :=
  ∃ ys : List Value, ys.length = L.length ∧ w.ownsRow B 86 1 v ys.length ys ∧ ∀ j, j < L.length → w.ownsRow B 26 2 (ys.getD j (.bool false)) (L.getD j []).length (vflat (dd (L.getD j [])))
theorem infoDart : (Try.prog.info? 26).map (fun i => (i.zero, i.size, i.bytes)) = some (some (.agg #[.int .i64 0, .bool false]), 2, 16) := by kernel_rfl
theorem infoDarts : (Try.prog.info? 86).map (fun i => (i.zero, i.size, i.bytes)) = some (some (.slice none 0 0), 1, 24) := by kernel_rfl
theorem code_d {x : Nat} (_h : 1 ≤ x) : (if dB x = true then 2 * dA x + 1 else 2 * dA x) = x + 1 := by
  unfold dB dA
  split
  · rename_i hd; simp at hd; omega
  · rename_i hd; simp at hd; omega
theorem bools_at (seen : List Bool) (x : Nat) (h : x < seen.length) : (bools (false :: seen))[x + 1]? = some (.bool (seen.getD x true)) := by
  simp [bools, List.getD_eq_getElem?_getD, h]
theorem bools_put (seen : List Bool) (x : Nat) : (bools (false :: seen)).set (x + 1) (.bool true) = bools (false :: seen.set x true) := by
  simp [bools]
theorem new_cell2' {W : World} {s : Nat} (hs : s = W.heap.size) (a b : Value) (e : TypeId) : ∀ j u, [a, b][j]? = some u → (W.alloc (.cells #[a, b] e)).cell? ((⟨s, 0, none⟩ : Addr).add j) = some u := by
  intro j u hu
  subst hs
  have hg : (W.alloc (.cells #[a, b] e)).heap[W.heap.size]? = some (.cells #[a, b] e (0, 0)) := alloc_at rfl
  have hadd : ∀ j, (⟨W.heap.size, 0, none⟩ : Addr).add j = ⟨W.heap.size, j, none⟩ := fun j => by unfold Addr.add; split <;> simp_all
  rw [hadd, cell_of_row _ _ _ _ _ _ hg]
  simpa using hu
end Go.Proofs.Ytagaajlbkfkaiaa
/- The walk of ref.PiecesOf. -/
namespace Go.Proofs.Ytagaajlbkfkaiaa
open Go.RowKit

theorem made_zeroN (n : Nat) : (madeCells (Value.int .i64 0).cells (n * 1)).toList = nats (List.replicate n 0) := by
  have e : (Value.int .i64 0).cells = #[Value.int .i64 0] := rfl
  rw [e, toList_madeCells_one, Nat.mul_one]
  simp [nats]
theorem nats_set (l : List Nat) (i z : Nat) : (nats l).set i (.int .i64 (z : Nat)) = nats (l.set i z) := by simp [nats, List.map_set]
/-- The first i labels are laid. -/
def labTo (n i : Nat) : List Nat := (List.range n).map fun v => if v < i then v else 0
theorem labTo_zero (n : Nat) : List.replicate n 0 = labTo n 0 := by
  refine List.ext_getElem (by simp [labTo]) fun j h1 h2 => ?_
  simp [labTo]
theorem labTo_next (n i : Nat) : (labTo n i).set i i = labTo n (i + 1) := by
  refine List.ext_getElem (by simp [labTo]) fun j h1 h2 => ?_
  simp only [List.getElem_set, labTo, List.getElem_map, List.getElem_range]
  split
  · rename_i h; subst h; simp
  · rename_i h
    by_cases h3 : j < i
    · rw [if_pos h3, if_pos (by omega)]
    · rw [if_neg h3, if_neg (by omega)]
theorem labTo_all (n : Nat) : labTo n n = List.range n := by
  refine List.ext_getElem (by simp [labTo]) fun j h1 h2 => ?_
  simp only [labTo, List.getElem_map, List.getElem_range]
  rw [if_pos (by simpa [labTo] using h1)]
end Go.Proofs.Ytagaajlbkfkaiaa
/- Rings of darts in a world; the walk of ref.PlanarIs. -/
namespace Go.Proofs.Ytagaajlbkfkaiaa
open Go.RowKit

/-- Rings of darts, to be read; their blocks lie from B on. -/
def RingsAt (w : World) (B : Nat) (v : Value) (L : List (List Nat)) : Prop := ∃ a cap, v = .slice a L.length cap ∧ (0 < L.length → ∃ b off, a = some ⟨b, off, none⟩ ∧ b < w.heap.size ∧ B ≤ b ∧ ∀ j, j < L.length → ∃ g c, w.cell? ⟨b, off + j, none⟩ = some (.slice (some ⟨g, 0, none⟩) (L.getD j []).length c) ∧ g < w.heap.size ∧ B ≤ g ∧ ∀ k, k < (L.getD j []).length → w.cell? ⟨g, k * 2, none⟩ = some (.int .i64 (dA ((L.getD j []).getD k 0) : Nat)) ∧ w.cell? ⟨g, k * 2 + 1, none⟩ = some (.bool (dB ((L.getD j []).getD k 0))))
theorem RingsAt.on {w w' : World} {B : Nat} {v : Value} {L : List (List Nat)} (h : RingsAt w B v L) (hb : Below w.heap.size w w') : RingsAt w' B v L := by
  obtain ⟨a, cap, rfl, f⟩ := h
  refine ⟨a, cap, rfl, fun h0 => ?_⟩
  obtain ⟨b, off, rfl, hlt, hB, hc⟩ := f h0
  refine ⟨b, off, rfl, Nat.lt_of_lt_of_le hlt hb.size, hB, fun j hj => ?_⟩
  obtain ⟨g, c, h1, h2, hG, h3⟩ := hc j hj
  exact ⟨g, c, bcell hb hlt h1, Nat.lt_of_lt_of_le h2 hb.size, hG, fun k hk => ⟨bcell hb h2 (h3 k hk).1, bcell hb h2 (h3 k hk).2⟩⟩
theorem dd_get (l : List Nat) (k : Nat) (hk : k < l.length) : (dd l).getD k (0, false) = (dA (l.getD k 0), dB (l.getD k 0)) := by
  simp [dd, List.getD_eq_getElem?_getD, hk]
theorem DartsOwn.rings {w : World} {B : Nat} {v : Value} {L : List (List Nat)} (h : DartsOwn w B v L) (hn : ∀ j, j < L.length → 0 < (L.getD j []).length) : RingsAt w B v L := by
  obtain ⟨ys, h1, h2, h3⟩ := h
  obtain ⟨a, cap, ev, f⟩ := slots_of_own h2
  refine ⟨a, cap, by rw [ev, h1], fun h0 => ?_⟩
  obtain ⟨b, off, ea, hlt, hc⟩ := f (by omega)
  refine ⟨b, off, ea, hlt, (h2.lt b (by rw [ev, ea]; rfl)).1, fun j hj => ?_⟩
  have hr := h3 j hj
  have hpos := hn j hj
  have hcell := hc j (by omega)
  rcases hr.2 with ⟨_, hz⟩ | ⟨g, c, cur, e1, hBg, hg, _, _, _, htk⟩
  · omega
  · rw [e1] at hcell
    refine ⟨g, c, hcell, (Array.getElem?_eq_some_iff.1 hg).1, hBg, fun k hk => ?_⟩
    have hv := vflat_get (dd (L.getD j [])) k (by rw [dd_len]; exact hk)
    rw [dd_get _ k hk] at hv
    have hcl := fun (o : Nat) (u : Value) (hu : (vflat (dd (L.getD j [])))[o]? = some u) => hr.cells (g := g) (by rw [e1]; rfl) o u hu
    have hadd : ∀ o, (⟨g, 0, none⟩ : Addr).add o = ⟨g, o, none⟩ := fun o => by unfold Addr.add; split <;> simp_all
    have a1 := hcl _ _ hv.1
    have a2 := hcl _ _ hv.2
    rw [hadd] at a1 a2
    exact ⟨a1, a2⟩
theorem facesM_facts {C : List Cr} {loops : Int} (hm : mayD C loops = true) : (facesM C).length ≤ 4 * C.length ∧ ∀ j, j < (facesM C).length → 0 < ((facesM C).getD j []).length ∧ ((facesM C).getD j []).length ≤ 4 * C.length + 1 ∧ ∀ k, k < ((facesM C).getD j []).length → 1 ≤ ((facesM C).getD j []).getD k 0 ∧ ((facesM C).getD j []).getD k 0 ≤ 4 * C.length := by
  refine ⟨walksTo_count _ _ _, fun j hj => ?_⟩
  have hmem : (facesM C).getD j [] ∈ facesM C := by rw [List.getD_eq_getElem?_getD, List.getElem?_eq_getElem hj]; exact List.getElem_mem hj
  obtain ⟨h1, h2, h3⟩ := walksTo_mem (fd_closed hm) (4 * C.length) (Nat.le_refl _) _ hmem
  refine ⟨List.length_pos_iff.2 h1, h2, fun k hk => h3 _ ?_⟩
  generalize (facesM C).getD j [] = l at hk ⊢
  rw [List.getD_eq_getElem?_getD, List.getElem?_eq_getElem hk]
  exact List.getElem_mem hk
theorem facesM_pos {C : List Cr} (h : 0 < C.length) : 0 < (facesM C).length := by
  have h1 := walks_once (fd C) (4 * C.length) 1 (Nat.le_refl _) (by omega)
  unfold facesM
  cases hl : (walksTo (fd C) (4 * C.length) (4 * C.length)).1 with
  | nil => rw [hl] at h1; simp at h1
  | cons x l => simp
/-- The crossings at which the faces' first darts end. -/
def headsM (C : List Cr) : List Nat := (facesM C).map fun l => dC C (l.getD 0 0)
theorem headsM_len (C : List Cr) : (headsM C).length = (facesM C).length := by simp [headsM]
theorem headsM_at (C : List Cr) (i : Nat) (hi : i < (facesM C).length) : (headsM C).getD i 0 = dC C (((facesM C).getD i []).getD 0 0) := by
  simp [headsM, List.getD_eq_getElem?_getD, hi]
theorem headsM_lt {C : List Cr} {loops : Int} (hm : mayD C loops = true) : ∀ g, g ∈ headsM C → g < C.length := fun g hg => by
  obtain ⟨l, hl, rfl⟩ := List.mem_map.1 hg
  obtain ⟨j, hj, rfl⟩ := List.getElem_of_mem hl
  obtain ⟨h1, _, h3⟩ := (facesM_facts hm).2 j hj
  have e : (facesM C).getD j [] = (facesM C)[j] := by rw [List.getD_eq_getElem?_getD, List.getElem?_eq_getElem hj]; rfl
  rw [e] at h1 h3
  exact (d_may hm _ (h3 0 h1).1 (h3 0 h1).2).2.1
/-- The diagram lies on a sphere. -/
def whoM (C : List Cr) : List Nat := levR (List.range C.length) (arcE C) C.length
def planarB (C : List Cr) : Bool := (List.range C.length).all fun p => !decide ((whoM C).getD p 0 = p) || decide (exN C.length (headsM C) (whoM C) p = 2)
theorem planarB_iff (C : List Cr) : planarB C = true ↔ ∀ p, p < C.length → (whoM C).getD p 0 = p → exN C.length (headsM C) (whoM C) p = 2 := by
  unfold planarB
  rw [List.all_eq_true]
  constructor
  · intro h p hp e
    have := h p (List.mem_range.2 hp)
    rw [e] at this
    simpa only [decide_true, Bool.not_true, Bool.false_or, decide_eq_true_eq] using this
  · intro h p hp
    by_cases e : (whoM C).getD p 0 = p
    · simp only [e, decide_true, Bool.not_true, Bool.false_or, decide_eq_true_eq]; exact h p (List.mem_range.1 hp) e
    · simp only [e, decide_false, Bool.not_false, Bool.true_or]
theorem whoM_least {C : List Cr} {loops : Int} (hm : mayD C loops = true) : Least (arcE C) C.length (whoM C) := levR_least (arcE_lt hm) C.length (Nat.le_refl _)
end Go.Proofs.Ytagaajlbkfkaiaa
/- Two rows of rings are held against one another. -/
namespace Go.Proofs.Ytagaajlbkfkaiaa
open Go.RowKit

theorem DartsOwn.vs {w : World} {B : Nat} {v : Value} {L : List (List Nat)} (h : DartsOwn w B v L) : VsAt w v (L.map dd) := by
  obtain ⟨ys, h1, h2, h3⟩ := h
  refine ⟨ys, by simp [h1], slots_of_own h2, fun j hj => ?_⟩
  have hj' : j < L.length := by simpa using hj
  have e : (L.map dd).getD j [] = dd (L.getD j []) := by simp [List.getD_eq_getElem?_getD, hj']
  rw [e]
  have := h3 j hj'
  rw [← dd_len (L.getD j [])] at this
  exact vs_own this
end Go.Proofs.Ytagaajlbkfkaiaa
/- The walk of ref.DiagramOf, with what it owns (J7 without ref.ChangeOf). -/
namespace Go.Proofs.Ytagaajlbkfkaiaa
open Go.RowKit

end Go.Proofs.Ytagaajlbkfkaiaa
/- Plain mathematics: in a planar diagram of one piece a set of arcs that comes to each crossing an even number of times parts two sets of faces. -/
namespace Go.Proofs.Ytagaajlbkfkaiaa

/-- The arc at a side. -/
def aAt (C : List Cr) (k s : Nat) : Nat := ((C.getD k Cr.none).arc s).toNat
theorem en_side {C : List Cr} {loops : Int} (hm : mayD C loops = true) (k s : Nat) (hk : k < C.length) (hs : s < 4) : enC C (aAt C k s) ((C.getD k Cr.none).comes s) = k ∧ enS C (aAt C k s) ((C.getD k Cr.none).comes s) = s ∧ 1 ≤ aAt C k s ∧ aAt C k s ≤ 2 * C.length := by
  have hf := may_fit hm k s hk hs
  have g1 := hf.1
  have g2 := hf.2.1
  have ha : 1 ≤ aAt C k s ∧ aAt C k s ≤ 2 * C.length := by unfold aAt; omega
  have e := end_one hm (aAt C k s) ha.1 ha.2 ((C.getD k Cr.none).comes s) k s hk hs (by unfold aAt; omega) rfl
  refine ⟨?_, ?_, ha.1, ha.2⟩
  · unfold enC; rw [e]; rfl
  · unfold enS; rw [e]; rfl
def arE (C : List Cr) (i : Nat) : Nat × Nat := (enC C (i + 1) true, enC C (i + 1) false)
def sides (C : List Cr) (g : Nat → Bool) (a : Nat) : Bool := xor (g (fo C (mkD a true))) (g (fo C (mkD a false)))
theorem incl_all {E : Nat → Nat × Nat} {m : Nat} : incl E (fun _ => true) m = (List.range m).map E := by
  induction m with
  | zero => rfl
  | succ m ih => simp only [incl, if_true]; rw [ih, List.range_succ, List.map_append]; rfl
end Go.Proofs.Ytagaajlbkfkaiaa
/- Plain mathematics: a planar diagram of one piece: an even set of arcs parts two sets of faces. -/
namespace Go.Proofs.Ytagaajlbkfkaiaa

end Go.Proofs.Ytagaajlbkfkaiaa
/- Plain mathematics: a walk of one strand; how often it comes by, modulo two. -/
namespace Go.Proofs.Ytagaajlbkfkaiaa

theorem comes_over (x : Cr) (s : Nat) (hs : s < 4) : x.comes ((s + 2) % 4) = !x.comes s := by
  have : s = 0 ∨ s = 1 ∨ s = 2 ∨ s = 3 := by omega
  unfold Cr.comes
  rcases this with rfl | rfl | rfl | rfl <;> cases x.plus <;> rfl
theorem nx_inj {C : List Cr} {loops : Int} (hm : mayD C loops = true) (a b : Nat) (h1 : 1 ≤ a) (h2 : a ≤ 2 * C.length) (h3 : 1 ≤ b) (h4 : b ≤ 2 * C.length) (e : nx C a = nx C b) : a = b := by
  obtain ⟨-, p2, p3, p4, p5⟩ := to_may hm a h1 h2
  obtain ⟨-, q2, q3, q4, q5⟩ := to_may hm b h3 h4
  obtain ⟨a1, a2, a3⟩ := nx_may hm a h1 h2
  obtain ⟨b1, b2, b3⟩ := nx_may hm b h3 h4
  have ca := comes_over (C.getD (toC C a) Cr.none) (toS C a) p3
  have cb := comes_over (C.getD (toC C b) Cr.none) (toS C b) q3
  rw [p5] at ca
  rw [q5] at cb
  have e1 := end_one hm _ a2 a3 _ _ _ p2 (Nat.mod_lt _ (by decide)) a1 ca
  have e2 := end_one hm _ b2 b3 _ _ _ q2 (Nat.mod_lt _ (by decide)) b1 cb
  rw [e] at e1
  rw [e1] at e2
  have hcc : toC C a = toC C b := by have := congrArg Prod.fst e2; simp only at this; omega
  have hss : toS C a = toS C b := by have := congrArg Prod.snd e2; simp only at this; omega
  rw [hcc, hss] at p4
  omega
end Go.Proofs.Ytagaajlbkfkaiaa
/- Crossings that are taken out, their strands going on: what the reference's rounds and tests come to is what the code's merging comes to. Plain mathematics: no program is named here. -/
namespace Go.Proofs.Ytagaajlbkfkaiaa

theorem com_two (x : Cr) (s : Nat) (hs : s < 4) (h : x.comes s = true) : x.comes ((s + 2) % 4) = false := by
  match s, hs, h with
  | 0, _, _ => rfl
  | 1, _, h => simp [Cr.comes] at h ⊢; simp [h]
  | 2, _, h => simp [Cr.comes] at h
  | 3, _, h => simp [Cr.comes] at h ⊢; simp [h]
theorem nx_goes {C : List Cr} {loops : Int} (hm : mayD C loops = true) : Goes C (nx C) where
  closed := nx_closed hm
  inj := fun a b a1 a2 b1 b2 e => nx_inj hm a b a1 a2 b1 b2 e
  out := fun a a1 a2 => by
    have ha := nx_may hm a a1 a2
    obtain ⟨-, i1, s1, r1, q1⟩ := to_may hm a a1 a2
    have ea := end_one hm (nx C a) ha.2.1 ha.2.2 false (toC C a) ((toS C a + 2) % 4) i1 (by omega) ha.1 (com_two _ _ s1 q1)
    unfold enC
    rw [ea]
    rfl
end Go.Proofs.Ytagaajlbkfkaiaa
/- The walk of ref.level. -/
namespace Go.Proofs.Ytagaajlbkfkaiaa
open Go.RowKit

end Go.Proofs.Ytagaajlbkfkaiaa
/- Plain mathematics: Euler's number of a piece is even and at most two. -/
namespace Go.Proofs.Ytagaajlbkfkaiaa

theorem rq_eq (W : List Nat) (Q : Nat → Bool) : ∀ k, rq W Q k = (List.range k).countP fun v => decide (W.getD v 0 = v) && Q v := by
  intro k
  induction k with
  | zero => rfl
  | succ k ih =>
    rw [List.range_succ, List.countP_append, List.countP_singleton, ← ih]
    simp only [rq, Bool.and_eq_true, decide_eq_true_eq]
theorem Bij.onto {f : Nat → Nat} {M : Nat} (h : Bij f M) {y : Nat} (hy : y < M) : ∃ x, x < M ∧ f x = y := by
  obtain ⟨p, h0, hp⟩ := period h hy
  refine ⟨it f (p - 1) y, it_lt h hy _, ?_⟩
  have e : it f (p - 1 + 1) y = f (it f (p - 1) y) := rfl
  rw [← e, show p - 1 + 1 = p by omega, hp]
theorem cnt_perm {r : Nat → Nat} {M : Nat} (h : Bij r M) (P : Nat → Bool) : (List.range M).countP (fun q => P (r q)) = (List.range M).countP P := by
  have hp : ((List.range M).map r).Perm (List.range M) := by
    refine (List.perm_ext_iff_of_nodup ?_ List.nodup_range).2 fun y => ?_
    · unfold List.Nodup
      rw [List.pairwise_map]
      refine List.Pairwise.imp_of_mem ?_ (List.nodup_range (n := M))
      intro a b ha hb hne e
      exact hne (h.inj a b (List.mem_range.1 ha) (List.mem_range.1 hb) e)
    · rw [List.mem_map]
      constructor
      · rintro ⟨x, hx, rfl⟩
        exact List.mem_range.2 (h.lt x (List.mem_range.1 hx))
      · intro hy
        obtain ⟨x, hx, e⟩ := h.onto (List.mem_range.1 hy)
        exact ⟨x, List.mem_range.2 hx, e⟩
  rw [← hp.countP_eq P, List.countP_map]
  rfl
theorem cnt_by4 {h Qc : Nat → Bool} {c : Nat} (n : Nat) (e : ∀ k, k < n → (if h (4 * k) = true then 1 else 0) + (if h (4 * k + 1) = true then 1 else 0) + (if h (4 * k + 2) = true then 1 else 0) + (if h (4 * k + 3) = true then 1 else 0) = if Qc k = true then c else 0) : (List.range (4 * n)).countP h = c * (List.range n).countP Qc := by
  induction n with
  | zero => rfl
  | succ n ih =>
    have e1 := e n (by omega)
    have e2 := ih fun k hk => e k (by omega)
    rw [show 4 * (n + 1) = 4 * n + 1 + 1 + 1 + 1 by omega]
    simp only [List.range_succ, List.countP_append, List.countP_singleton]
    rw [e2]
    by_cases hq : Qc n = true
    · rw [if_pos hq] at e1 ⊢
      rw [Nat.mul_add]
      omega
    · rw [if_neg hq] at e1 ⊢
      rw [show List.countP Qc (List.range n) + 0 = List.countP Qc (List.range n) from rfl]
      omega
theorem cnt_up1 (P : Nat → Bool) (M : Nat) (h : P 0 = false) : (List.range (M + 1)).countP P = (List.range M).countP fun i => P (i + 1) := by
  rw [List.range_succ_eq_map, List.countP_cons, List.countP_map, h]
  simp only [Bool.false_eq_true, if_false, Nat.add_zero]
  rfl
/-- The dart turned round; where a dart leaves from; the dart that leaves from a place. -/
def al (j : Nat) : Nat := mkD (dA j) (!dB j)
def lvC (C : List Cr) (j : Nat) : Nat := enC C (dA j) (dB j)
def pd (C : List Cr) (q : Nat) : Nat := mkD (aAt C (q / 4) (q % 4)) ((C.getD (q / 4) Cr.none).comes (q % 4))
theorem al_may {j n : Nat} (h1 : 1 ≤ j) (h2 : j ≤ 4 * n) : 1 ≤ al j ∧ al j ≤ 4 * n ∧ dA (al j) = dA j ∧ dB (al j) = !dB j := by
  have h := dA_le h1 h2
  have g := mk_le (p := !dB j) h.1 h.2
  exact ⟨g.1, g.2, dA_mk h.1, dB_mk h.1⟩
theorem al_odd (i : Nat) : al (2 * i + 1) = 2 * i + 2 := by
  unfold al dA dB mkD
  simp only [show (2 * i + 1) % 2 = 1 by omega, show (2 * i + 1 + 1) / 2 = i + 1 by omega]
  simp
  omega
theorem al_even (i : Nat) : al (2 * i + 2) = 2 * i + 1 := by
  unfold al dA dB mkD
  simp only [show (2 * i + 2) % 2 = 0 by omega, show (2 * i + 2 + 1) / 2 = i + 1 by omega]
  simp
  omega
theorem al_al {j : Nat} (h1 : 1 ≤ j) : al (al j) = j := by
  by_cases h : j % 2 = 1
  · obtain ⟨i, rfl⟩ : ∃ i, j = 2 * i + 1 := ⟨j / 2, by omega⟩
    rw [al_odd, al_even]
  · obtain ⟨i, rfl⟩ : ∃ i, j = 2 * i + 2 := ⟨j / 2 - 1, by omega⟩
    rw [al_even, al_odd]
theorem dC_al {C : List Cr} {j : Nat} (h1 : 1 ≤ j) (h2 : j ≤ 4 * C.length) : dC C (al j) = lvC C j ∧ dS C (al j) = enS C (dA j) (dB j) := by
  obtain ⟨-, -, a1, a2⟩ := al_may h1 h2
  unfold dC dS lvC
  rw [a1, a2, Bool.not_not]
  exact ⟨rfl, rfl⟩
theorem lv_fd {C : List Cr} {loops : Int} (hm : mayD C loops = true) {j : Nat} (h1 : 1 ≤ j) (h2 : j ≤ 4 * C.length) : lvC C (fd C j) = dC C j := by
  obtain ⟨e1, e2, -⟩ := fd_may hm j h1 h2
  obtain ⟨-, h3, h4⟩ := d_may hm j h1 h2
  have h := (en_side hm (dC C j) ((dS C j + 3) % 4) h3 (Nat.mod_lt _ (by decide))).1
  unfold aAt at h
  rw [e1, e2, Int.toNat_natCast] at h
  exact h
theorem lv_lt {C : List Cr} {loops : Int} (hm : mayD C loops = true) {j : Nat} (h1 : 1 ≤ j) (h2 : j ≤ 4 * C.length) : lvC C j < C.length := by
  have h := dA_le h1 h2
  exact (en_may hm (dA j) (dB j) h.1 h.2).2.1
theorem lv_dC {C : List Cr} {j : Nat} (h1 : 1 ≤ j) (h2 : j ≤ 4 * C.length) : Con (arcE C) (lvC C j) (dC C j) := by
  have h := dA_le h1 h2
  have e := Con.edge (mem_arcE (C := C) h.1 h.2)
  unfold lvC dC
  cases dB j
  · exact e.symm
  · exact e
/-- Places and darts. -/
theorem pd_at {C : List Cr} {loops : Int} (hm : mayD C loops = true) (k s : Nat) (hk : k < C.length) (hs : s < 4) : pd C (4 * k + s) = mkD (aAt C k s) ((C.getD k Cr.none).comes s) ∧ lvC C (pd C (4 * k + s)) = k ∧ enS C (dA (pd C (4 * k + s))) (dB (pd C (4 * k + s))) = s ∧ 1 ≤ pd C (4 * k + s) ∧ pd C (4 * k + s) ≤ 4 * C.length := by
  have e : pd C (4 * k + s) = mkD (aAt C k s) ((C.getD k Cr.none).comes s) := by
    unfold pd
    rw [show (4 * k + s) / 4 = k by omega, show (4 * k + s) % 4 = s by omega]
  have h := en_side hm k s hk hs
  unfold lvC
  rw [e, dA_mk h.2.2.1, dB_mk h.2.2.1]
  have g := mk_le (p := (C.getD k Cr.none).comes s) h.2.2.1 h.2.2.2
  exact ⟨rfl, h.1, h.2.1, g.1, g.2⟩
theorem pd_sig {C : List Cr} {loops : Int} (hm : mayD C loops = true) (k s : Nat) (hk : k < C.length) (hs : s < 4) : fd C (al (pd C (4 * k + s))) = pd C (4 * k + (s + 3) % 4) := by
  obtain ⟨-, h1, h2, h3, h4⟩ := pd_at hm k s hk hs
  obtain ⟨a1, a2⟩ := dC_al (C := C) h3 h4
  rw [(pd_at hm k ((s + 3) % 4) hk (Nat.mod_lt _ (by decide))).1]
  unfold fd
  rw [a1, a2, h1, h2]
  rfl
theorem pd_bij {C : List Cr} {loops : Int} (hm : mayD C loops = true) : Bij (fun q => pd C q - 1) (4 * C.length) := by
  have hb : ∀ q, q < 4 * C.length → ∃ k s, k < C.length ∧ s < 4 ∧ q = 4 * k + s := fun q hq => ⟨q / 4, q % 4, by omega, by omega, by omega⟩
  refine ⟨fun q hq => ?_, fun q r hq hr e => ?_⟩
  · obtain ⟨k, s, hk, hs, rfl⟩ := hb q hq
    obtain ⟨-, -, -, h3, h4⟩ := pd_at hm k s hk hs
    show pd C (4 * k + s) - 1 < _
    omega
  · obtain ⟨k, s, hk, hs, rfl⟩ := hb q hq
    obtain ⟨k', s', hk', hs', rfl⟩ := hb r hr
    obtain ⟨-, h1, h2, h3, h4⟩ := pd_at hm k s hk hs
    obtain ⟨-, g1, g2, g3, g4⟩ := pd_at hm k' s' hk' hs'
    have e1 : pd C (4 * k + s) = pd C (4 * k' + s') := by
      have e' : pd C (4 * k + s) - 1 = pd C (4 * k' + s') - 1 := e
      omega
    rw [e1] at h1 h2
    have : k = k' := by rw [← h1, g1]
    have : s = s' := by rw [← h2, g2]
    omega
theorem cnt_darts {C : List Cr} {loops : Int} (hm : mayD C loops = true) {P Qc : Nat → Bool} {c : Nat} (h0 : P 0 = false)
    (e : ∀ k, k < C.length → (if P (pd C (4 * k)) = true then 1 else 0) + (if P (pd C (4 * k + 1)) = true then 1 else 0) + (if P (pd C (4 * k + 2)) = true then 1 else 0) + (if P (pd C (4 * k + 3)) = true then 1 else 0) = if Qc k = true then c else 0) :
    (List.range (4 * C.length + 1)).countP P = c * (List.range C.length).countP Qc := by
  rw [cnt_up1 P _ h0, ← cnt_perm (pd_bij hm) fun i => P (i + 1), ← cnt_by4 (h := fun q => P (pd C q)) C.length e]
  refine List.countP_congr fun q hq => ?_
  have hq := List.mem_range.1 hq
  have h := pd_at hm (q / 4) (q % 4) (by omega) (by omega)
  rw [show 4 * (q / 4) + q % 4 = q by omega] at h
  rw [show pd C q - 1 + 1 = pd C q by omega]
end Go.Proofs.Ytagaajlbkfkaiaa

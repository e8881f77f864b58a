/- Several texts of the proof, one behind the other. -/
import Derived.Test.YtnlcknlodjjdbaaDoorF2P
import Derived.Test.YtnlcknlodjjdbaaDoorBK4P
import Derived.BigQuiet
import Derived.Test.YtnlcknlodjjdbaaDoorX5rP
/- The walk of ref.PiecesOf. -/
namespace Go.Proofs.YtnlcknlodjjdbaaDoor
open Go.RowKit

end Go.Proofs.YtnlcknlodjjdbaaDoor
/- The walk of ref.merge. -/
namespace Go.Proofs.YtnlcknlodjjdbaaDoor
open Go.RowKit

end Go.Proofs.YtnlcknlodjjdbaaDoor
/- Rings of darts in a world; the walk of ref.PlanarIs. -/
namespace Go.Proofs.YtnlcknlodjjdbaaDoor
open Go.RowKit

/-- Rings of darts, to be read; their blocks lie from B on. -/
def RingsAt (w : World) (B : Nat) (v : Value) (L : List (List Nat)) : Prop := ∃ a cap, v = .slice a L.length cap ∧ (0 < L.length → ∃ b off, a = some ⟨b, off, none⟩ ∧ b < w.heap.size ∧ B ≤ b ∧ ∀ j, j < L.length → ∃ g c, w.cell? ⟨b, off + j, none⟩ = some (.slice (some ⟨g, 0, none⟩) (L.getD j []).length c) ∧ g < w.heap.size ∧ B ≤ g ∧ ∀ k, k < (L.getD j []).length → w.cell? ⟨g, k * 2, none⟩ = some (.int .i64 (dA ((L.getD j []).getD k 0) : Nat)) ∧ w.cell? ⟨g, k * 2 + 1, none⟩ = some (.bool (dB ((L.getD j []).getD k 0))))
theorem RingsAt.on {w w' : World} {B : Nat} {v : Value} {L : List (List Nat)} (h : RingsAt w B v L) (hb : Below w.heap.size w w') : RingsAt w' B v L := by
  obtain ⟨a, cap, rfl, f⟩ := h
  refine ⟨a, cap, rfl, fun h0 => ?_⟩
  obtain ⟨b, off, rfl, hlt, hB, hc⟩ := f h0
  refine ⟨b, off, rfl, Nat.lt_of_lt_of_le hlt hb.size, hB, fun j hj => ?_⟩
  obtain ⟨g, c, h1, h2, hG, h3⟩ := hc j hj
  exact ⟨g, c, bcell hb hlt h1, Nat.lt_of_lt_of_le h2 hb.size, hG, fun k hk => ⟨bcell hb h2 (h3 k hk).1, bcell hb h2 (h3 k hk).2⟩⟩
theorem dd_get (l : List Nat) (k : Nat) (hk : k < l.length) : (dd l).getD k (0, false) = (dA (l.getD k 0), dB (l.getD k 0)) := by
  simp [dd, List.getD_eq_getElem?_getD, hk]
theorem DartsOwn.rings {w : World} {B : Nat} {v : Value} {L : List (List Nat)} (h : DartsOwn w B v L) (hn : ∀ j, j < L.length → 0 < (L.getD j []).length) : RingsAt w B v L := by
  obtain ⟨ys, h1, h2, h3⟩ := h
  obtain ⟨a, cap, ev, f⟩ := slots_of_own h2
  refine ⟨a, cap, by rw [ev, h1], fun h0 => ?_⟩
  obtain ⟨b, off, ea, hlt, hc⟩ := f (by omega)
  refine ⟨b, off, ea, hlt, (h2.lt b (by rw [ev, ea]; rfl)).1, fun j hj => ?_⟩
  have hr := h3 j hj
  have hpos := hn j hj
  have hcell := hc j (by omega)
  rcases hr.2 with ⟨_, hz⟩ | ⟨g, c, cur, e1, hBg, hg, _, _, _, htk⟩
  · omega
  · rw [e1] at hcell
    refine ⟨g, c, hcell, (Array.getElem?_eq_some_iff.1 hg).1, hBg, fun k hk => ?_⟩
    have hv := vflat_get (dd (L.getD j [])) k (by rw [dd_len]; exact hk)
    rw [dd_get _ k hk] at hv
    have hcl := fun (o : Nat) (u : Value) (hu : (vflat (dd (L.getD j [])))[o]? = some u) => hr.cells (g := g) (by rw [e1]; rfl) o u hu
    have hadd : ∀ o, (⟨g, 0, none⟩ : Addr).add o = ⟨g, o, none⟩ := fun o => by unfold Addr.add; split <;> simp_all
    have a1 := hcl _ _ hv.1
    have a2 := hcl _ _ hv.2
    rw [hadd] at a1 a2
    exact ⟨a1, a2⟩
theorem facesM_facts {C : List Cr} {loops : Int} (hm : mayD C loops = true) : (facesM C).length ≤ 4 * C.length ∧ ∀ j, j < (facesM C).length → 0 < ((facesM C).getD j []).length ∧ ((facesM C).getD j []).length ≤ 4 * C.length + 1 ∧ ∀ k, k < ((facesM C).getD j []).length → 1 ≤ ((facesM C).getD j []).getD k 0 ∧ ((facesM C).getD j []).getD k 0 ≤ 4 * C.length := by
  refine ⟨walksTo_count _ _ _, fun j hj => ?_⟩
  have hmem : (facesM C).getD j [] ∈ facesM C := by rw [List.getD_eq_getElem?_getD, List.getElem?_eq_getElem hj]; exact List.getElem_mem hj
  obtain ⟨h1, h2, h3⟩ := walksTo_mem (fd_closed hm) (4 * C.length) (Nat.le_refl _) _ hmem
  refine ⟨List.length_pos_iff.2 h1, h2, fun k hk => h3 _ ?_⟩
  generalize (facesM C).getD j [] = l at hk ⊢
  rw [List.getD_eq_getElem?_getD, List.getElem?_eq_getElem hk]
  exact List.getElem_mem hk
theorem facesM_pos {C : List Cr} (h : 0 < C.length) : 0 < (facesM C).length := by
  have h1 := walks_once (fd C) (4 * C.length) 1 (Nat.le_refl _) (by omega)
  unfold facesM
  cases hl : (walksTo (fd C) (4 * C.length) (4 * C.length)).1 with
  | nil => rw [hl] at h1; simp at h1
  | cons x l => simp
/-- The crossings at which the faces' first darts end. -/
def headsM (C : List Cr) : List Nat := (facesM C).map fun l => dC C (l.getD 0 0)
theorem headsM_len (C : List Cr) : (headsM C).length = (facesM C).length := by simp [headsM]
theorem headsM_at (C : List Cr) (i : Nat) (hi : i < (facesM C).length) : (headsM C).getD i 0 = dC C (((facesM C).getD i []).getD 0 0) := by
  simp [headsM, List.getD_eq_getElem?_getD, hi]
theorem headsM_lt {C : List Cr} {loops : Int} (hm : mayD C loops = true) : ∀ g, g ∈ headsM C → g < C.length := fun g hg => by
  obtain ⟨l, hl, rfl⟩ := List.mem_map.1 hg
  obtain ⟨j, hj, rfl⟩ := List.getElem_of_mem hl
  obtain ⟨h1, _, h3⟩ := (facesM_facts hm).2 j hj
  have e : (facesM C).getD j [] = (facesM C)[j] := by rw [List.getD_eq_getElem?_getD, List.getElem?_eq_getElem hj]; rfl
  rw [e] at h1 h3
  exact (d_may hm _ (h3 0 h1).1 (h3 0 h1).2).2.1
/-- The diagram lies on a sphere. -/
def whoM (C : List Cr) : List Nat := levR (List.range C.length) (arcE C) C.length
def planarB (C : List Cr) : Bool := (List.range C.length).all fun p => !decide ((whoM C).getD p 0 = p) || decide (exN C.length (headsM C) (whoM C) p = 2)
theorem planarB_iff (C : List Cr) : planarB C = true ↔ ∀ p, p < C.length → (whoM C).getD p 0 = p → exN C.length (headsM C) (whoM C) p = 2 := by
  unfold planarB
  rw [List.all_eq_true]
  constructor
  · intro h p hp e
    have := h p (List.mem_range.2 hp)
    rw [e] at this
    simpa only [decide_true, Bool.not_true, Bool.false_or, decide_eq_true_eq] using this
  · intro h p hp
    by_cases e : (whoM C).getD p 0 = p
    · simp only [e, decide_true, Bool.not_true, Bool.false_or, decide_eq_true_eq]; exact h p (List.mem_range.1 hp) e
    · simp only [e, decide_false, Bool.not_false, Bool.true_or]
theorem whoM_least {C : List Cr} {loops : Int} (hm : mayD C loops = true) : Least (arcE C) C.length (whoM C) := levR_least (arcE_lt hm) C.length (Nat.le_refl _)
end Go.Proofs.YtnlcknlodjjdbaaDoor
/- The walk of ref.PlanarIs. -/
namespace Go.Proofs.YtnlcknlodjjdbaaDoor
open Go.RowKit

end Go.Proofs.YtnlcknlodjjdbaaDoor
/- The walks of ref.ExpandOf, tangle.Expand and the law TangleExpands. -/
namespace Go.Proofs.YtnlcknlodjjdbaaDoor
open Go.RowKit

set_option maxHeartbeats 4000000 in
set_option maxRecDepth 100000 in
theorem expand_yes (p q : Int) (w : World) (h : lowB p q = true) :
    Calls Tryd.prog 6 #[.int .i64 p, .int .i64 q] w fun e w' => ∃ a c, e = .returned (.tuple #[.slice a (fixL (exLt p.toNat q.toNat)).reverse.length c, .int .i64 0]) ∧ w'.ownsRow w.heap.size 3 1 (.slice a (fixL (exLt p.toNat q.toNat)).reverse.length c) (fixL (exLt p.toNat q.toNat)).reverse.length (intsV (fixL (exLt p.toNat q.toNat)).reverse) ∧ Below w.heap.size w w' := by
  have HP : Hid (∀ W, Calls Tryd.prog 11 #[.int .i64 p, .int .i64 q] W fun e w' => e = .returned (.bool true) ∧ Below W.heap.size W w') := fun W => by rw [← h]; exact proper_any p q W
  obtain ⟨a1, a2, a3, a4, -⟩ := lowB_yes h
  obtain ⟨m, rfl⟩ : ∃ m : Nat, p = (m : Int) := ⟨p.toNat, by omega⟩
  obtain ⟨n, rfl⟩ : ∃ n : Nat, q = (n : Int) := ⟨q.toNat, by omega⟩
  rw [Int.toNat_natCast, Int.toNat_natCast]
  have HE : Hid (∀ W, Calls Tryd.prog 12 #[.int .i64 (m : Nat), .int .i64 (n : Nat)] W fun e w' => ∃ v, e = .returned v ∧ w'.ownsRow W.heap.size 3 1 v (fixL (exLt m n)).reverse.length (intsV (fixL (exLt m n)).reverse) ∧ Below W.heap.size W w') := fun W => expanded_any m n W (by omega) (by omega) (by omega)
  generalize (fixL (exLt m n)).reverse = F at HE
  clear h
  go_enter Tryd.func6, Tryd.ntmps6
  go_wp2_with (go_at_call 11; refine (HP.out _).mono ?_; rintro e9 w2 ⟨rfl, hb2⟩; refine Hid.out ?_)
  refine Lib.hid ?_
  have HB2 : Hid (Below w.heap.size w w2) := hb2
  clear hb2
  go_wp2_with (go_at_call 12; refine (HE.out _).mono ?_; rintro e9 w3 ⟨v3, rfl, hr3, hb3⟩; refine Hid.out ?_)
  refine Lib.hid ?_
  obtain ⟨a3', c3', rfl⟩ := own_capS hr3
  have HFN : Hid (w3.ownsRow w.heap.size 3 1 (.slice a3' F.length c3') F.length (intsV F) ∧ Below w.heap.size w w3) := ⟨own_low hr3 HB2.out.size, HB2.out.trans (hb3.mono HB2.out.size)⟩
  clear hb3 hr3
  go_wp2
  go_ret2
  exact ⟨_, _, rfl, HFN.out⟩
end Go.Proofs.YtnlcknlodjjdbaaDoor

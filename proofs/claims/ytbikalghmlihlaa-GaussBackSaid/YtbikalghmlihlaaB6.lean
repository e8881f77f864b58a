/- The walk of gauss.Build. -/
import Derived.Test.YtbikalghmlihlaaB3P
namespace Go.Proofs.Ytbikalghmlihlaa
open Go.RowKit

theorem VisAt.up {w w' : World} {B : Nat} {v : Value} {V : Vi} (h : VisAt w B v V) (hb : Below B w w') (hB : B ≤ w'.heap.size) : VisAt w' w'.heap.size v V := by
  obtain ⟨a, cap, rfl, f⟩ := h
  refine ⟨a, cap, rfl, fun h0 => ?_⟩
  obtain ⟨b, off, rfl, hlt, hc⟩ := f h0
  exact ⟨b, off, rfl, Nat.lt_of_lt_of_le hlt hB, fun k hk => ⟨bcell hb hlt (hc k hk).1, bcell hb hlt (hc k hk).2⟩⟩
theorem VRows.up {w w' : World} {v : Value} {L : List Vi} (h : VRows w w.heap.size v L) (hb : Below w.heap.size w w') : VRows w' w'.heap.size v L := by
  obtain ⟨a, cap, rfl, f⟩ := h
  refine ⟨a, cap, rfl, fun h0 => ?_⟩
  obtain ⟨b, off, rfl, hlt, hc⟩ := f h0
  refine ⟨b, off, rfl, Nat.lt_of_lt_of_le hlt hb.size, fun j hj => ?_⟩
  obtain ⟨u, h1, h2⟩ := hc j hj
  exact ⟨u, bcell hb hlt h1, h2.up hb hb.size⟩
theorem PlusAt.up {w w' : World} {v : Value} {P : List Bool} (h : PlusAt w w.heap.size v P) (hb : Below w.heap.size w w') : PlusAt w' w'.heap.size v P := by
  obtain ⟨a, cap, rfl, f⟩ := h
  refine ⟨a, cap, rfl, fun h0 => ?_⟩
  obtain ⟨b, off, rfl, hlt, hc⟩ := f h0
  exact ⟨b, off, rfl, Nat.lt_of_lt_of_le hlt hb.size, fun k hk => bcell hb hlt (hc k hk)⟩
def outC (P : List Bool) (L : List Vi) (loops : Int) : List Cr := if refN P.length L loops = 0 then (bAll P L L.length).1 else []
def outL (P : List Bool) (L : List Vi) (loops : Int) : Int := if refN P.length L loops = 0 then loops else 0

theorem refN_ok {n : Nat} {L : List Vi} {loops : Int} (h : refN n L loops = 0) : n ≤ 16 ∧ okL n L = true := by
  unfold refN at h
  split at h
  · cases h
  · rename_i h1
    split at h
    · cases h
    · rename_i h2
      refine ⟨?_, by simpa using h2⟩
      have h3 : sizeV n loops = true := by simpa using h1
      simp [sizeV] at h3
      omega

set_option maxHeartbeats 8000000 in
set_option maxRecDepth 100000 in
theorem build_any (a : Option Addr) (cap : Nat) (L : List Vi) (ap : Option Addr) (cp : Nat) (P : List Bool) (loops : Int) (w : World) (hn : P.length ≤ 140737488355328) (hlens : LensOk L) (hL : VRows w w.heap.size (.slice a L.length cap) L) (hP : PlusAt w w.heap.size (.slice ap P.length cp) P) :
    Calls Try.prog 18 #[.slice a L.length cap, .slice ap P.length cp, .int .i64 loops] w fun e w' => ∃ v, e = .returned (.tuple #[.agg #[v, .int .i64 (outL P L loops)], .int .i64 (refN P.length L loops)]) ∧ Crs w' w'.heap.size v (outC P L loops) ∧ Below w.heap.size w w' := by
  have HL : Hid (VRows w w.heap.size (.slice a L.length cap) L) := hL
  have HP : Hid (PlusAt w w.heap.size (.slice ap P.length cp) P) := hP
  have HLN : Hid (LensOk L) := hlens
  obtain ⟨n, hn0⟩ : ∃ n, P.length = n := ⟨_, rfl⟩
  have HN : Hid (P.length = n) := hn0
  obtain ⟨r, hr⟩ : ∃ r, refN P.length L loops = r := ⟨_, rfl⟩
  have HR : Hid (refN n L loops = r) := (by rw [← hn0]; exact hr : refN n L loops = r)
  have HOC : Hid (outC P L loops = if r = 0 then (bAll P L L.length).1 else []) := (by unfold outC; rw [hr] : outC P L loops = if r = 0 then (bAll P L L.length).1 else [])
  have HOL : Hid (outL P L loops = if r = 0 then loops else 0) := (by unfold outL; rw [hr] : outL P L loops = if r = 0 then loops else 0)
  obtain ⟨oc, hoc⟩ : ∃ oc, outC P L loops = oc := ⟨_, rfl⟩
  obtain ⟨ol, hol⟩ : ∃ ol, outL P L loops = ol := ⟨_, rfl⟩
  rw [hoc] at HOC
  rw [hol] at HOL
  rw [hr, hoc, hol]
  rw [hn0] at hn ⊢
  have HNO : Hid (∀ W : World, Crs W W.heap.size (.slice none 0 0) []) := fun W => ⟨none, 0, rfl, by simp [maxLen], fun h => absurd h (by simp)⟩
  obtain ⟨w0, hw0⟩ : ∃ w0, w0 = w.alloc (.cells #[.slice none 0 0, .int .i64 0] 24) := ⟨_, rfl⟩
  have HW0 : Hid (w0 = w.alloc (.cells #[.slice none 0 0, .int .i64 0] 24)) := hw0
  have HB0 : Hid (Below w.heap.size w w0) := (by rw [hw0]; exact (Below.refl _ _).alloc (Nat.le_refl _) _ : Below w.heap.size w w0)
  have HT0 : Hid (w0.heap[w.heap.size]? = some (.cells #[.slice none 0 0, .int .i64 0] 24 (0, 0))) := (by rw [hw0]; exact alloc_at rfl : w0.heap[w.heap.size]? = some (.cells #[.slice none 0 0, .int .i64 0] 24 (0, 0)))
  have hs0 : w0.heap.size = w.heap.size + 1 := by rw [hw0]; simp
  have up : ∀ W, Below w.heap.size w W → VRows W W.heap.size (.slice a L.length cap) L ∧ PlusAt W W.heap.size (.slice ap P.length cp) P := fun W hb => ⟨HL.out.up hb, HP.out.up hb⟩
  have HUP : Hid (∀ W, Below w.heap.size w W → VRows W W.heap.size (.slice a L.length cap) L ∧ PlusAt W W.heap.size (.slice ap P.length cp) P) := up
  clear hL hlens hP hn0 hr hoc hol hw0 up
  go_enter Try.func18, Try.ntmps18
  go_wp2_with (go_at_call 68; rw [← HW0.out]; refine (refusal_any a cap L ap n cp loops _ hn HLN.out (HUP.out _ HB0.out).1).mono ?_; rw [HR.out]; rintro e9 w1 ⟨rfl, hb1⟩; refine Hid.out ?_)
  refine Lib.hid ?_
  have HB1 : Hid (Below w0.heap.size w0 w1) := hb1
  have hs1 := hb1.size
  have HT1 : Hid (w1.heap[w.heap.size]? = some (.cells #[.slice none 0 0, .int .i64 0] 24 (0, 0))) := (hb1.block _ (by omega)).trans HT0.out
  have HBW : Hid (Below w.heap.size w w1) := HB0.out.trans (hb1.mono (by omega))
  have x0 : w1.cell? ⟨w.heap.size, 0, none⟩ = some (.slice none 0 0) := block_cell HT1.out rfl
  have x1 : w1.cell? ⟨w.heap.size, 1, none⟩ = some (.int .i64 0) := block_cell HT1.out rfl
  have x2 : w1.frozen? ⟨w.heap.size, 0, none⟩ = false := block_frozen HT1.out
  have x3 : w1.frozen? ⟨w.heap.size, 1, none⟩ = false := block_frozen HT1.out
  have x4 : w.heap.size < w1.heap.size := by omega
  clear hb1
  by_cases hr0 : r = 0
  · subst hr0
    have HOC2 : Hid (oc = (bAll P L L.length).1) := (by rw [HOC.out, if_pos rfl] : oc = (bAll P L L.length).1)
    obtain rfl : ol = loops := by rw [HOL.out, if_pos rfl]
    obtain ⟨h16, hok⟩ := refN_ok HR.out
    have HBT : Hid (∀ W, Below w.heap.size w W → Calls Try.prog 69 #[.slice a L.length cap, .slice ap n cp, .int .i64 ol] W fun e w' => ∃ v, e = .returned (.agg #[v, .int .i64 ol]) ∧ w'.ownsRow W.heap.size 114 5 v n (crossCells oc) ∧ Below W.heap.size W w') := fun W hb => by
      rw [← HN.out] at h16 hok
      have h := built_any a cap L ap cp P ol W h16 HLN.out hok (HUP.out W hb).1 (HUP.out W hb).2
      rw [HN.out, ← HOC2.out] at h
      exact h
    have HOCL : Hid (oc.length = n) := (by rw [HOC2.out, bAll_len, HN.out] : oc.length = n)
    clear HOC HOL hok
    go_wp2_with (go_at_call 69; refine (HBT.out _ HBW.out).mono ?_; rintro e9 w2 ⟨v2, rfl, hrow2, hb2⟩; obtain ⟨a3, c3, rfl⟩ := own_capS hrow2; refine Hid.out ?_)
    refine Lib.hid ?_
    have HT2 : Hid (w2.heap[w.heap.size]? = some (.cells #[.slice none 0 0, .int .i64 0] 24 (0, 0))) := (hb2.block _ x4).trans HT1.out
    have HRW : Hid (w2.ownsRow w1.heap.size 114 5 (.slice a3 n c3) n (crossCells oc)) := hrow2
    have HB2 : Hid (Below w.heap.size w w2) := HBW.out.trans (hb2.mono (by omega))
    have hs2 := hb2.size
    clear x0 x1 x2 x3 hrow2 hb2
    have x0 : w2.cell? ⟨w.heap.size, 0, none⟩ = some (.slice none 0 0) := block_cell HT2.out rfl
    have x1 : w2.cell? ⟨w.heap.size, 1, none⟩ = some (.int .i64 0) := block_cell HT2.out rfl
    have x2 : w2.frozen? ⟨w.heap.size, 0, none⟩ = false := block_frozen HT2.out
    have x3 : w2.frozen? ⟨w.heap.size, 1, none⟩ = false := block_frozen HT2.out
    have x5 : w.heap.size < w2.heap.size := by omega
    go_wp2
    have hX := set_block (i := 1) (u := .int .i64 ol) (set_block (i := 0) (u := .slice a3 n c3) HT2.out)
    have y0 := block_cell (i := 0) (v := .slice a3 n c3) hX rfl
    have y1 := block_cell (i := 1) (v := .int .i64 ol) hX rfl
    have hg2 := st2_grown w2 w.heap.size 0 (.slice a3 n c3) (.int .i64 ol)
    have hk := HRW.out.kept hg2 (by
      cases hv : Value.ownBlock _ with
      | none => exact Or.inl rfl
      | some q => exact Or.inr (fun e => by have := (HRW.out.lt q hv).1; have := Option.some.inj e; omega))
    refine bodyPost_ret (v := .tuple #[.agg #[.slice a3 n c3, .int .i64 ol], .int .i64 0]) (by simp [results, Try.results18, go_sem, y0, y1]) rfl ⟨_, rfl, ?_, HB2.out.grown hg2 HB2.out.size (fun q hq => by have := Option.some.inj hq; omega)⟩
    rw [← HOCL.out] at hk ⊢
    exact crs_own hk (by unfold maxLen; rw [HOCL.out]; omega)
  · have HOC2 : Hid (oc = []) := (by rw [HOC.out, if_neg hr0] : oc = [])
    have hol0 : ol = 0 := by rw [HOL.out, if_neg hr0]
    have hre : (r == 0) = false := beq_eq_false_iff_ne.2 hr0
    subst hol0
    clear HOC HOL
    go_wp2
    have hX := set_block (i := 1) (u := .int .i64 0) (set_block (i := 0) (u := .slice none 0 0) HT1.out)
    have y0 := block_cell (i := 0) (v := .slice none 0 0) hX rfl
    have y1 := block_cell (i := 1) (v := .int .i64 0) hX rfl
    have hg2 := st2_grown w1 w.heap.size 0 (.slice none 0 0) (.int .i64 0)
    refine bodyPost_ret (v := .tuple #[.agg #[.slice none 0 0, .int .i64 0], .int .i64 r]) (by simp [results, Try.results18, go_sem, y0, y1]) rfl ⟨_, rfl, ?_, HBW.out.grown hg2 HBW.out.size (fun q hq => by have := Option.some.inj hq; omega)⟩
    rw [HOC2.out]
    exact HNO.out _
end Go.Proofs.Ytbikalghmlihlaa

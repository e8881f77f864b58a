/- The walks of ref.CountOf and of the law's ints; tables that are handed in. -/
import Derived.Test.YtnhllpaoplfgpaaN7
import Derived.Test.YtnhllpaoplfgpaaN8
import Derived.Test.YtnhllpaoplfgpaaCp
namespace Go.Proofs.Ytnhllpaoplfgpaa
open Go.RowKit

/-- A table of numbers as it is handed in. -/
def IntsIn (w : World) (B : Nat) (v : Value) (L : List (List Int)) : Prop := ∃ ys : List Value, ys.length = L.length ∧ InAt w B 1 v L.length ys ∧ ∀ j, j < L.length → InAt w B 1 (ys.getD j (.bool false)) (L.getD j []).length (intsV (L.getD j []))
theorem InAt.rd {w : World} {B size n : Nat} {v : Value} {xs : List Value} (h : InAt w B size v n xs) : RdAt w B size v n xs := by
  rcases h with ⟨rfl, rfl⟩ | ⟨ad, cap, rfl, rfl⟩ | ⟨b, off, cap, rfl, hlt, hc⟩
  · exact ⟨none, 0, rfl, fun h => absurd h (Nat.lt_irrefl 0)⟩
  · exact ⟨some ad, cap, rfl, fun h => absurd h (Nat.lt_irrefl 0)⟩
  · exact ⟨some ⟨b, off, none⟩, cap, rfl, fun _ => ⟨b, off, rfl, hlt, hc⟩⟩
theorem IntsIn.rd {w : World} {B : Nat} {v : Value} {L : List (List Int)} (h : IntsIn w B v L) : IntsRd w B v L := by
  obtain ⟨ys, hy, h1, h2⟩ := h
  exact ⟨ys, hy, h1.rd, fun j hj => (h2 j hj).rd⟩
theorem IntsIn.up {w w' : World} {v : Value} {L : List (List Int)} (h : IntsIn w w.heap.size v L) (hb : Below w.heap.size w w') : IntsIn w' w'.heap.size v L := by
  obtain ⟨ys, hy, h1, h2⟩ := h
  exact ⟨ys, hy, h1.up hb, fun j hj => (h2 j hj).up hb⟩
theorem intsV_one (l : List Int) : ∀ u ∈ intsV l, u.oneCell' = true := by
  intro u hu
  simp only [intsV, List.mem_map] at hu
  obtain ⟨x, -, rfl⟩ := hu
  rfl

set_option maxHeartbeats 4000000 in
set_option maxRecDepth 100000 in
theorem intsL_any (a : Option Addr) (c : Nat) (l : List Int) (w : World) (hl : l.length * 8 ≤ 140737488355328) (h : InAt w w.heap.size 1 (.slice a l.length c) l.length (intsV l)) :
    Calls Try.prog 62 #[.slice a l.length c] w fun e w' => ∃ v, e = .returned v ∧ w'.ownsRow w.heap.size 3 1 v l.length (intsV l) ∧ Below w.heap.size w w' := by
  obtain ⟨i2, hk, hx0, hx1, hx2⟩ := info_parts infoInt
  have HI : Hid (InAt w w.heap.size 1 (.slice a l.length c) l.length (intsV l)) := h
  clear h
  go_enter Try.func62, Try.ntmps62
  go_wp2_with (first
    | (at_builtin; refine wpList_append_copy rfl _ _ 61 rfl w.heap.size 3 i2 (.int .i64 0) 1 8 Try.underlying61 hk hx0 hx1 hx2 rfl (by decide) rfl _ w.heap.size l.length (intsV l) rfl HI.out (by rw [intsV_len, Nat.mul_one]) (intsV_one l) (by unfold maxLen; omega) hl (Nat.le_refl _) ?_; intro v8 w8 hown8 hg8; refine Hid.out ?_))
  refine Lib.hid ?_
  obtain ⟨a8, c8, rfl⟩ := own_capS hown8
  have HFN : Hid (w8.ownsRow w.heap.size 3 1 (.slice a8 l.length c8) l.length (intsV l) ∧ Below w.heap.size w w8) := ⟨hown8, (Below.refl _ _).grown hg8 (Nat.le_refl _) (fun k hk => by cases hk)⟩
  clear hown8 hg8
  go_wp2
  go_ret
  exact ⟨_, rfl, HFN.out⟩

set_option maxHeartbeats 4000000 in
set_option maxRecDepth 100000 in
theorem countOf_any (v vq : Value) (C : List Cr) (loops : Int) (L : List (List Int)) (w : World) (hm : mayD C loops = true) (hT : TabQ L) (h10 : C.length ≤ 10) (hl4 : loops ≤ 4) (h : Crs w w.heap.size v C) (hq : IntsRd w w.heap.size vq L) :
    Calls Try.prog 66 #[.agg #[v, .int .i64 loops], vq] w fun e w' => e = .returned (.int .i64 (cntM C L * L.length ^ loops.toNat : Nat)) ∧ Below w.heap.size w w' := by
  obtain ⟨i2, hk, hx0, hx1, hx2⟩ := info_parts infoInt
  obtain ⟨s1, s2, s3, s4⟩ := sizeB_iff (may_size hm)
  have HC : Hid (Crs w w.heap.size v C) := h
  obtain ⟨a, cap, rfl, -, -⟩ := h
  obtain ⟨b, off, cq, rb, ro, rc, eq, hqt⟩ := hq.qt hT
  have HQT : Hid (QT w w.heap.size b off L.length rb ro rc (qe L)) := hqt
  have h4 := hT.2.1
  have h1 := hT.1
  have HM : Hid (mayD C loops = true) := hm
  have HQI : Hid (∀ i j, i < L.length → j < L.length → qe L i j < L.length) := fun i j hi hj => (hT.int i j hi hj).2
  subst eq
  obtain ⟨w0, hw0⟩ : ∃ w0, w0 = w.alloc (.cells #[.slice a C.length cap, .int .i64 loops] 44) := ⟨_, rfl⟩
  have HW0 : Hid (w0 = w.alloc (.cells #[.slice a C.length cap, .int .i64 loops] 44)) := hw0
  have HB0 : Hid (Below w.heap.size w w0) := (by rw [hw0]; exact (Below.refl _ _).alloc (Nat.le_refl _) _ : Below w.heap.size w w0)
  have hs0 : w0.heap.size = w.heap.size + 1 := by rw [hw0]; simp
  have HT0 : Hid (w0.heap[w.heap.size]? = some (.cells #[.slice a C.length cap, .int .i64 loops] 44 (0, 0))) := (by rw [hw0]; exact alloc_at rfl : w0.heap[w.heap.size]? = some (.cells #[.slice a C.length cap, .int .i64 loops] 44 (0, 0)))
  have HSZ : Hid (w0.heap.size = w.heap.size + 1) := hs0
  clear hqt hq hw0 hm hT hs0
  obtain ⟨OC, hOC⟩ : ∃ OC, OC = Obj.cells (madeCells (Value.int .i64 0).cells ((2 * C.length + 1) * 1)) 3 := ⟨_, rfl⟩
  have HOC : Hid (OC = Obj.cells (madeCells (Value.int .i64 0).cells ((2 * C.length + 1) * 1)) 3) := hOC
  have hmC : ∀ W : World, (Instr.makeSlice 61 (.int .i64 (2 * (C.length : Int) + 1)) (.int .i64 (2 * (C.length : Int) + 1))).run Try.prog W = .ok (.slice (some ⟨W.heap.size, 0, none⟩) (2 * C.length + 1) (2 * C.length + 1)) (W.alloc OC) := fun W => by
    have h := run_make (P := Try.prog) W 61 3 i2 (.int .i64 0) Try.underlying61 hk hx0 .i64 .i64 (2 * (C.length : Int) + 1) (2 * (C.length : Int) + 1) (by omega) (Int.le_refl _) (by rw [hx2]; omega) (by omega)
    have e : (2 * (C.length : Int) + 1).toNat = 2 * C.length + 1 := by omega
    rw [e, hx1] at h
    rw [hOC]
    exact h
  clear hOC
  have HCT : Hid (∀ X, X.ownsRow w0.heap.size 3 1 (.slice (some ⟨w0.heap.size, 0, none⟩) (2 * C.length + 1) (2 * C.length + 1)) (2 * C.length + 1) (nats (List.replicate (2 * C.length + 1) 0)) → Below w0.heap.size w0 X → Calls Try.prog 132 #[.agg #[.slice a C.length cap, .int .i64 loops], .slice (some ⟨b, off, none⟩) L.length cq, .slice (some ⟨w0.heap.size, 0, none⟩) (2 * C.length + 1) (2 * C.length + 1), .int .i64 1] X fun e w' => e = .returned (.int .i64 (cntM C L : Nat)) ∧ Below w0.heap.size w0 w') := fun X hr hb => by
    have hq0 := (HQT.out.up HB0.out)
    have hc0 := (HC.out.up HB0.out)
    have hlt := (hr.lt w0.heap.size rfl).2
    have e2 : (List.range (2 * C.length + 1)).map (fun _ => 0) = List.replicate (2 * C.length + 1) 0 := by
      apply List.ext_getElem?
      intro j
      by_cases hj : j < 2 * C.length + 1
      · simp [hj]
      · rw [List.getElem?_eq_none (by simp; omega), List.getElem?_eq_none (by simp; omega)]
    have hcol : ColAt (2 * C.length + 1) w0.heap.size (fun _ => 0) X := by
      show X.ownsRow 0 _ _ _ _ _
      rw [e2]
      exact own_low hr (Nat.zero_le _)
    have hcw := counted_any X.heap.size L.length (qe L) C loops a cap b off cq rb ro rc w0.heap.size HM.out h4 HQI.out h10 hlt (by have := hq0.lt; omega) (fun i hi => by have := hq0.rlt i hi; omega) (2 * C.length) 1 (fun _ => 0) X (Nat.le_refl _) (by omega) (fun _ _ => h1) (Nat.le_refl _) (hq0.up hb) (hc0.up hb) (fun h0 b' off' e => by
      obtain ⟨a', c', e', h5, h6⟩ := hc0
      injection e' with e1 e2 e3
      obtain ⟨b2, o2, eb, hlt2, _⟩ := h6 h0
      rw [← e1, e] at eb
      injection eb with eb
      injection eb with eb1 eb2 eb3
      omega) hcol
    refine hcw.mono fun e w' ⟨f', e1, _, _, _, hg⟩ => ⟨e1, hb.grown hg hb.size (fun q hq => by have := Option.some.inj hq; omega)⟩
  have HF : Hid (∀ W', Below w0.heap.size w0 W' → W'.cell? ⟨w.heap.size, 0, none⟩ = some (.slice a C.length cap) ∧ W'.cell? ⟨w.heap.size, 1, none⟩ = some (.int .i64 loops)) := fun W' hW => by
    have g0 := (hW.block _ (blk_lt HT0.out)).trans HT0.out
    exact ⟨block_cell g0 rfl, block_cell g0 rfl⟩
  have HN63 : Hid (2 * C.length + 1 ≤ maxLen) := (by unfold maxLen; omega : 2 * C.length + 1 ≤ maxLen)
  have HA1 : Hid (Below w0.heap.size w0 w0.drew) := below_drewN (Below.refl _ _) 1
  have HA2 : Hid (Below w0.heap.size w0 (w0.drew.alloc OC)) := HA1.out.alloc (Nat.le_refl _) _
  have HA3 : Hid ((w0.drew.alloc OC).ownsRow w0.heap.size 3 1 (.slice (some ⟨w0.heap.size, 0, none⟩) (2 * C.length + 1) (2 * C.length + 1)) (2 * C.length + 1) (nats (List.replicate (2 * C.length + 1) 0))) := (by
    rw [HOC.out, ← made_zeroN]
    exact World.ownsRow_lit w0.drew _ (2 * C.length + 1) (Nat.le_refl _) HN63.out (size_madeCells _ _) : (w0.drew.alloc OC).ownsRow w0.heap.size 3 1 (.slice (some ⟨w0.heap.size, 0, none⟩) (2 * C.length + 1) (2 * C.length + 1)) (2 * C.length + 1) (nats (List.replicate (2 * C.length + 1) 0)))
  have ew1 : IntKind.i64.wrap (2 * (C.length : Int)) = 2 * (C.length : Int) := IntWalk.i64_in _ (by omega)
  have ew2 : IntKind.i64.wrap (2 * (C.length : Int) + 1) = 2 * (C.length : Int) + 1 := IntWalk.i64_in _ (by omega)
  go_enter Try.func66, Try.ntmps66
  go_wp2
  rw [← HW0.out]
  go_region_held3 (fun w' => w'.cell? ⟨w.heap.size, 0, none⟩ = some (.slice a C.length cap) ∧ w'.cell? ⟨w.heap.size, 1, none⟩ = some (.int .i64 loops)) (first | exact HF.out _ HA1.out | exact HF.out _ HA2.out | exact HF.out _ H5.out | (trace_state; fail)) (first
    | (go_at_call 132; refine (HCT.out _ HA3.out HA2.out).mono ?_; rintro e9 w5 ⟨rfl, hb5⟩
       have H5 : Hid (Below w0.heap.size w0 w5) := hb5
       clear hb5))
  have HB5 : Hid (Below w.heap.size w w5) := HB0.out.trans (H5.out.mono HB0.out.size)
  obtain ⟨j0, j1⟩ := HF.out _ H5.out
  have hbd : cntM C L ≤ 1099511627776 := by
    have h2 := search_le (n := L.length) (chk := chkA (qe L) C) (fromA 1 (2 * C.length)) (fun _ => 0)
    exact Nat.le_trans h2 (pow_bound h4 (by simp [fromA]; omega))
  obtain ⟨k, hk2⟩ : ∃ k : Nat, loops = (k : Int) := ⟨loops.toNat, by omega⟩
  subst hk2
  obtain ⟨M, hM⟩ : ∃ M, cntM C L = M := ⟨_, rfl⟩
  rw [hM] at hbd ⊢
  obtain ⟨n, hnn⟩ : ∃ n, L.length = n := ⟨_, rfl⟩
  have HPB : Hid (∀ i, i ≤ 4 → M * n ^ i ≤ 281474976710656) := fun i hi => by
    have p1 : n ^ i ≤ 4 ^ 4 := Nat.le_trans (Nat.pow_le_pow_left (by omega) i) (Nat.pow_le_pow_right (by omega) hi)
    exact Nat.le_trans (Nat.mul_le_mul hbd p1) (by decide)
  have HEND : Hid (cntM C L * L.length ^ (k : Int).toNat = M * n ^ k) := (by rw [hM, hnn, Int.toNat_natCast] : cntM C L * L.length ^ (k : Int).toNat = M * n ^ k)
  have hkl : k ≤ 4 := by omega
  have hlw : w.heap.size < w0.heap.size := blk_lt HT0.out
  go_wp2
  rw [hnn] at h1 h4 ⊢
  clear hM hnn
  go_loopw [5, 6] (fun v5 v6 wr => ∃ i : Nat, i ≤ k ∧ v6 = .int .i64 (i : Nat) ∧ v5 = .int .i64 (M * n ^ i : Nat) ∧ Hid (Below w0.heap.size w0 wr)) (fun _ v6 _ => k - (intOf v6).toNat)
  case atStart => exact ⟨0, Nat.zero_le _, rfl, by rw [Nat.pow_zero, Nat.mul_one], H5.out⟩
  case round =>
    clear j0 j1
    rename World => W1
    obtain ⟨i, hik, rfl, rfl, hbl⟩ := hrel
    obtain ⟨j0, j1⟩ := HF.out _ hbl.out
    by_cases hil : i < k
    · have p1 := HPB.out i (by omega)
      have p2 := HPB.out (i + 1) (by omega)
      have HPS : Hid (M * n ^ (i + 1) = M * n ^ i * n) := (by rw [Nat.pow_succ, Nat.mul_assoc] : M * n ^ (i + 1) = M * n ^ i * n)
      rw [HPS.out] at p2
      obtain ⟨z, hz⟩ : ∃ z, M * n ^ i = z := ⟨_, rfl⟩
      rw [hz] at HPS p1 p2 ⊢
      obtain ⟨y, hy⟩ : ∃ y, z * n = y := ⟨_, rfl⟩
      have hyI : (z : Int) * (n : Int) = (y : Int) := by rw [← hy]; push_cast; rfl
      rw [hy] at HPS p2
      have ew : IntKind.i64.wrap ((z : Int) * (n : Int)) = (y : Int) := by rw [hyI]; exact IntWalk.i64_in _ (by omega)
      clear hz hy
      go_wp2
      go_roundw
      case rel => exact ⟨i + 1, by omega, by go_num, by rw [HPS.out], hbl.out⟩
      case measure => simp only [intOf]; omega
    · obtain rfl : i = k := by omega
      go_wp2
      go_ret
      exact ⟨by rw [HEND.out]; rfl, HB0.out.trans (hbl.out.mono HB0.out.size)⟩
end Go.Proofs.Ytnhllpaoplfgpaa

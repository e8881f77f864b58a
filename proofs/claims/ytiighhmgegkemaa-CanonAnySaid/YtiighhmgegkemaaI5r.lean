/- The walk of renamed (knotworkkeep) where there are crossings: the names are made and turned, the crossings are laid with their new names, and turned. -/
import Derived.Test.YtiighhmgegkemaaI5P
import Derived.Test.YtiighhmgegkemaaK1P
import Derived.Test.YtiighhmgegkemaaS2
import Derived.Deep.Cut
import Derived.Deep.RegionHeldLaw
import Derived.Deep.AppendLies
namespace Go.Proofs.Ytiighhmgegkemaa
open Go.RowKit

theorem own_lowK {w w' : World} {B e s n K : Nat} {v : Value} {xs : List Value} (h : w.ownsRow B e s v n xs) (hv : ∀ k, v.ownBlock = some k → k < K) (hb : Below K w w') : w'.ownsRow B e s v n xs := by
  refine ⟨h.1, ?_⟩
  rcases h.2 with hn | ⟨g, c, cur, rfl, hB, hg, rest⟩
  · exact .inl hn
  · exact .inr ⟨g, c, cur, rfl, hB, (hb.block g (hv g rfl)).trans hg, rest⟩
theorem RnSt.on3 {w : World} {a : Option Addr} {cap n : Nat} {loops : Int} {N : Nat} {L : List Nat} {wr w' : World} (h : RnSt w a cap n loops N L wr) (hb : Below (w.heap.size + 3) wr w') : RnSt w a cap n loops N L w' :=
  ⟨(hb.block _ (by omega)).trans h.d, (hb.block _ (by omega)).trans h.z, own_lowK h.nm (fun k hk => by have : w.heap.size + 2 = k := Option.some.inj hk; omega) hb, h.bel.trans (hb.mono (by omega))⟩
/-- A crossing of a diagram that may be: its arcs are natural numbers. -/
theorem may_nats {C : List Cr} {loops : Int} (hm : mayD C loops = true) (i : Nat) (hi : i < C.length) : ∃ (p0 p1 p2 p3 : Nat) (xp : Bool), C.getD i Cr.none = ⟨(p0 : Nat), (p1 : Nat), (p2 : Nat), (p3 : Nat), xp⟩ ∧ p0 ≤ 2 * C.length ∧ p1 ≤ 2 * C.length ∧ p2 ≤ 2 * C.length ∧ p3 ≤ 2 * C.length := by
  have h : ∀ k, k < 4 → 1 ≤ (C.getD i Cr.none).arc k ∧ (C.getD i Cr.none).arc k ≤ 2 * (C.length : Int) := fun k hk => ⟨(may_fit hm i k hi hk).1, (may_fit hm i k hi hk).2.1⟩
  generalize C.getD i Cr.none = x at h
  obtain ⟨xa, xb, xc, xd, xp⟩ := x
  have h0 := h 0 (by omega)
  have h1 := h 1 (by omega)
  have h2 := h 2 (by omega)
  have h3 := h 3 (by omega)
  simp only [Cr.arc] at h0 h1 h2 h3
  simp at h0 h1 h2 h3
  refine ⟨xa.toNat, xb.toNat, xc.toNat, xd.toNat, xp, ?_, by omega, by omega, by omega, by omega⟩
  congr 1 <;> omega
theorem cells_setR (C : List Cr) (i : Nat) (hi : i < C.length) (r : Nat) (hr : r < 5) (v : Value) (x : Cr) (hx : (crossCells [C.getD i Cr.none]).set r v = crossCells [x]) : (crossCells C).set (i * 5 + r) v = crossCells (C.set i x) := by
  induction C generalizing i with
  | nil => simp at hi
  | cons t l ih =>
    have e : ∀ y : Cr, ∀ m : List Cr, crossCells (y :: m) = crossCells [y] ++ crossCells m := fun y m => by simp [crossCells]
    have el : (crossCells [t]).length = 5 := by simp [crossCells]
    cases i with
    | zero =>
      rw [List.set_cons_zero, e t l, e x l, Nat.zero_mul, Nat.zero_add, List.set_append_left _ _ (by rw [el]; exact hr)]
      rw [show (t :: l).getD 0 Cr.none = t from rfl] at hx
      rw [hx]
    | succ i =>
      rw [List.set_cons_succ, e t l, e t (l.set i x), List.set_append_right _ _ (by rw [el]; omega), el, show (i + 1) * 5 + r - 5 = i * 5 + r by omega]
      rw [ih i (by simpa using hi) (by simpa using hx)]
theorem crs_set_atR (Cs : List Cr) (c : Nat) (y : Cr) (hc : c < Cs.length) : (Cs.set c y).getD c Cr.none = y := by
  rw [List.getD_eq_getElem?_getD, List.getElem?_set_self hc, Option.getD_some]
theorem put5R {w : World} {B n g cap c : Nat} {Cs : List Cr} (h : w.ownsRow B 61 5 (.slice (some ⟨g, 0, none⟩) n cap) n (crossCells Cs)) (hc : c < Cs.length) (y : Cr) :
    (((((w.setCell ⟨g, c * 5, none⟩ (.int .i64 y.a)).setCell ⟨g, c * 5 + 1, none⟩ (.int .i64 y.b)).setCell ⟨g, c * 5 + 2, none⟩ (.int .i64 y.c)).setCell ⟨g, c * 5 + 3, none⟩ (.int .i64 y.d)).setCell ⟨g, c * 5 + 4, none⟩ (.bool y.plus)).ownsRow B 61 5 (.slice (some ⟨g, 0, none⟩) n cap) n (crossCells (Cs.set c y)) ∧
    w.grownBy (((((w.setCell ⟨g, c * 5, none⟩ (.int .i64 y.a)).setCell ⟨g, c * 5 + 1, none⟩ (.int .i64 y.b)).setCell ⟨g, c * 5 + 2, none⟩ (.int .i64 y.c)).setCell ⟨g, c * 5 + 3, none⟩ (.int .i64 y.d)).setCell ⟨g, c * 5 + 4, none⟩ (.bool y.plus)) (some g) := by
  obtain ⟨x, hx⟩ : ∃ x, Cs.getD c Cr.none = x := ⟨_, rfl⟩
  have h0 := h.stored (c * 5) (.int .i64 y.a)
  have e0 := cells_setR Cs c hc 0 (by omega) (.int .i64 y.a) ⟨y.a, x.b, x.c, x.d, x.plus⟩ (by rw [hx]; rfl)
  rw [Nat.add_zero] at e0
  rw [e0] at h0
  have h1 := h0.1.stored (c * 5 + 1) (.int .i64 y.b)
  rw [cells_setR _ c (by simpa using hc) 1 (by omega) (.int .i64 y.b) ⟨y.a, y.b, x.c, x.d, x.plus⟩ (by rw [crs_set_atR _ _ _ hc]; rfl), List.set_set] at h1
  have h2 := h1.1.stored (c * 5 + 2) (.int .i64 y.c)
  rw [cells_setR _ c (by simpa using hc) 2 (by omega) (.int .i64 y.c) ⟨y.a, y.b, y.c, x.d, x.plus⟩ (by rw [crs_set_atR _ _ _ hc]; rfl), List.set_set] at h2
  have h3 := h2.1.stored (c * 5 + 3) (.int .i64 y.d)
  rw [cells_setR _ c (by simpa using hc) 3 (by omega) (.int .i64 y.d) ⟨y.a, y.b, y.c, y.d, x.plus⟩ (by rw [crs_set_atR _ _ _ hc]; rfl), List.set_set] at h3
  have h4 := h3.1.stored (c * 5 + 4) (.bool y.plus)
  rw [cells_setR _ c (by simpa using hc) 4 (by omega) (.bool y.plus) y (by rw [crs_set_atR _ _ _ hc]; rfl), List.set_set] at h4
  exact ⟨h4.1, grown_trans (grown_trans (grown_trans (grown_trans h0.2 h1.2) h2.2) h3.2) h4.2⟩
/-- A crossing is laid whole. -/
def st5R (w : World) (g c : Nat) (y : Cr) : World := ((((w.setCell ⟨g, c * 5, none⟩ (.int .i64 y.a)).setCell ⟨g, c * 5 + 1, none⟩ (.int .i64 y.b)).setCell ⟨g, c * 5 + 2, none⟩ (.int .i64 y.c)).setCell ⟨g, c * 5 + 3, none⟩ (.int .i64 y.d)).setCell ⟨g, c * 5 + 4, none⟩ (.bool y.plus)
theorem OutAt.putR {W : World} {B G g q cap c : Nat} {ol : Int} {Cs : List Cr} (h : OutAt W B G (.slice (some ⟨g, 0, none⟩) q cap) ol Cs) (hG : G < B) (hc : c < Cs.length) (hl : Cs.length = q) (y : Cr) :
    OutAt (st5R W g c y) B G (.slice (some ⟨g, 0, none⟩) q cap) ol (Cs.set c y) ∧ W.grownBy (st5R W g c y) (some g) := by
  have hrow := h.row
  rw [hl] at hrow
  have h5 : (st5R W g c y).ownsRow B 61 5 (.slice (some ⟨g, 0, none⟩) q cap) q (crossCells (Cs.set c y)) ∧ W.grownBy (st5R W g c y) (some g) := put5R hrow hc y
  have hg := (hrow.lt g rfl).1
  refine ⟨⟨(h5.2.block _ (Array.getElem?_eq_some_iff.1 h.box).1 (fun e => by have : G = g := Option.some.inj e; omega)).trans h.box, ?_⟩, h5.2⟩
  rw [List.length_set, hl]
  exact h5.1
/-- The diagram that is handed back, its crossings under way: two of them are changed for each other. -/
structure OdSt (w : World) (B G g q cap : Nat) (loops : Int) (D : List Cr) (wr : World) : Prop where
  out : OutAt wr B G (.slice (some ⟨g, 0, none⟩) q cap) loops D
  z : wr.heap[w.heap.size + 1]? = some (.cells #[.slice none 0 0, .int .i64 0] 35 (0, 0))
  bel : Below w.heap.size w wr
  len : D.length = q
theorem OdSt.swap {w : World} {B G g q cap : Nat} {loops : Int} {D : List Cr} {wr : World} (h : OdSt w B G g q cap loops D wr) (hG : G < B) (hB : w.heap.size + 1 < B) (x y : Nat) (hx : x < q) (hy : y < q) :
    OdSt w B G g q cap loops (swapA Cr.none D x y) (st5R (st5R wr g x (D.getD y Cr.none)) g y (D.getD x Cr.none)) := by
  have h1 := h.out.putR hG (by rw [h.len]; exact hx) h.len (D.getD y Cr.none)
  have h2 := h1.1.putR hG (c := y) (by rw [List.length_set, h.len]; exact hy) (by rw [List.length_set, h.len]) (D.getD x Cr.none)
  have hg := (h.out.row.lt g rfl).1
  have hs := h.bel.size
  have hlt := (Array.getElem?_eq_some_iff.1 h.z).1
  have hs1 := h1.2.size
  refine ⟨h2.1, ?_, ?_, by rw [swapA_len]; exact h.len⟩
  · exact (h2.2.block _ (by omega) (fun e => by have : w.heap.size + 1 = g := Option.some.inj e; omega)).trans ((h1.2.block _ hlt (fun e => by have : w.heap.size + 1 = g := Option.some.inj e; omega)).trans h.z)
  · exact (h.bel.grown h1.2 hs (fun k hk => by have : g = k := Option.some.inj hk; omega)).grown h2.2 (by omega) (fun k hk => by have : g = k := Option.some.inj hk; omega)
theorem OdSt.drew {w : World} {B G g q cap : Nat} {loops : Int} {D : List Cr} {wr : World} (h : OdSt w B G g q cap loops D wr) : OdSt w B G g q cap loops D wr.drew :=
  ⟨h.out.on (Below.refl _ _).drew, h.z, h.bel.drew, h.len⟩
theorem OdSt.at_ {w : World} {B G g q cap : Nat} {loops : Int} {D : List Cr} {wr : World} (h : OdSt w B G g q cap loops D wr) (x : Nat) (hx : x < q) :
    wr.cell? ⟨g, x * 5, none⟩ = some (.int .i64 (D.getD x Cr.none).a) ∧ wr.cell? ⟨g, x * 5 + 1, none⟩ = some (.int .i64 (D.getD x Cr.none).b) ∧ wr.cell? ⟨g, x * 5 + 2, none⟩ = some (.int .i64 (D.getD x Cr.none).c) ∧ wr.cell? ⟨g, x * 5 + 3, none⟩ = some (.int .i64 (D.getD x Cr.none).d) ∧ wr.cell? ⟨g, x * 5 + 4, none⟩ = some (.bool (D.getD x Cr.none).plus) := by
  have hx' : x < D.length := by rw [h.len]; exact hx
  have f : ∀ j, j < D.length * 5 → wr.cell? ⟨g, j, none⟩ = (crossCells D)[j]? := fun j hj => by have hr := h.out.row; rw [h.len] at hr; exact hr.cellAt j (by rw [← h.len]; exact hj)
  obtain ⟨c0, c1, c2, c3, c4⟩ := cells_get D x hx'
  exact ⟨(f _ (by omega)).trans c0, (f _ (by omega)).trans c1, (f _ (by omega)).trans c2, (f _ (by omega)).trans c3, (f _ (by omega)).trans c4⟩
theorem own_some {w : World} {B e s n q : Nat} {v : Value} {xs : List Value} (h : w.ownsRow B e s v n xs) (hq : n = q) (h0 : 0 < q) : ∃ g c, v = .slice (some ⟨g, 0, none⟩) q c := by
  subst hq
  rcases h.2 with ⟨-, hn⟩ | ⟨g, c, cur, rfl, -⟩
  · omega
  · exact ⟨g, c, rfl⟩
theorem ren_first {C : List Cr} {loops : Int} (hm : mayD C loops = true) {L : List Nat} (h : Nm L (2 * C.length)) : Ren C (renC L C) := ⟨_, _, _, (renC_iso hm h).1, (renC_iso hm h).2⟩
theorem far5R {W : World} {G g o : Nat} {v : Value} (h : G ≠ g) (h0 : W.cell? ⟨G, o, none⟩ = some v) (c : Nat) (y : Cr) : (st5R W g c y).cell? ⟨G, o, none⟩ = some v := by
  have e : ∀ (W' : World) (i : Nat) (u : Value), (W'.setCell ⟨g, i, none⟩ u).cell? ⟨G, o, none⟩ = W'.cell? ⟨G, o, none⟩ := fun W' i u => World.cell?_setCell_far _ _ _ _ (fun e => h e.symm)
  unfold st5R
  rw [e, e, e, e, e]
  exact h0
theorem drew_cellR (W : World) (a : Addr) : W.drew.cell? a = W.cell? a := rfl

set_option maxHeartbeats 16000000 in
set_option maxRecDepth 100000 in
theorem renamed_some (a : Option Addr) (cap : Nat) (C : List Cr) (loops : Int) (va vo : Value) (A O : List Int) (w : World) (hc0 : 0 < C.length) (hm : mayD C loops = true) (hD : Crs w w.heap.size (.slice a C.length cap) C) (hA : RdAt w w.heap.size 1 va A.length (intsV A)) (hO : RdAt w w.heap.size 1 vo O.length (intsV O)) (hAl : A.length ≤ 140737488355328) (hOl : O.length ≤ 140737488355328) (hAr : ∀ x ∈ A, -9223372036854775808 ≤ x ∧ x ≤ 9223372036854775807) (hOr : ∀ x ∈ O, -9223372036854775808 ≤ x ∧ x ≤ 9223372036854775807) :
    Calls Try.prog 37 #[.agg #[.slice a C.length cap, .int .i64 loops], va, vo] w fun e w' => ∃ v D, e = .returned (.agg #[v, .int .i64 loops]) ∧ Ren C D ∧ w'.ownsRow w.heap.size 61 5 v D.length (crossCells D) ∧ Below w.heap.size w w' := by
  obtain ⟨s1, -, -, -⟩ := sizeB_iff (may_size hm)
  obtain ⟨i2, hk, hx0, hx1, hx2⟩ := info_parts infoInt
  have HM : Hid (mayD C loops = true) := hm
  have HD : Hid (Crs w w.heap.size (.slice a C.length cap) C) := hD
  obtain ⟨aa, ca, rfl, hA⟩ := hA
  obtain ⟨ao, co, rfl, hO⟩ := hO
  have HA : Hid (0 < A.length → ∃ b off, aa = some ⟨b, off, none⟩ ∧ b < w.heap.size ∧ ∀ j, j < A.length * 1 → w.cell? ⟨b, off + j, none⟩ = (intsV A)[j]?) := hA
  have HO : Hid (0 < O.length → ∃ b off, ao = some ⟨b, off, none⟩ ∧ b < w.heap.size ∧ ∀ j, j < O.length * 1 → w.cell? ⟨b, off + j, none⟩ = (intsV O)[j]?) := hO
  clear hm hD hA hO
  obtain ⟨M, hM⟩ : ∃ M, M = 2 * C.length := ⟨_, rfl⟩
  have HM2 : Hid (M = 2 * C.length) := hM
  obtain ⟨N, hN⟩ : ∃ N, N = M + 1 := ⟨_, rfl⟩
  have HN : Hid (N = M + 1) := hN
  have hN1 : 1 ≤ N := by omega
  have hN2 : N ≤ 33 := by omega
  have qM : 2 * (C.length : Int) = (M : Int) := by omega
  have q1 : IntKind.i64.wrap (M : Int) = (M : Int) := IntWalk.i64_in _ (by omega)
  have q2 : IntKind.i64.wrap ((M : Int) + 1) = (M : Int) + 1 := IntWalk.i64_in _ (by omega)
  have qN : (M : Int) + 1 = (N : Int) := by omega
  clear hN hM
  go_enter Try.func37, Try.ntmps37
  go_wp2_with (first | (at_make; refine wpList_make_full _ rfl _ _ 52 rfl (w.heap.size + 2) 3 i2 (.int .i64 0) 1 Try.underlying52 hk hx0 hx1 .i64 .i64 _ _ N rfl rfl rfl rfl (by rw [hx2]; omega) (by unfold maxLen; omega) (by simp) ?_; intro w1 hrow hg1; refine Hid.out ?_))
  refine Lib.hid ?_
  rw [made_zeroN, labTo_zero] at hrow
  have HP0 : Hid (RnSt w a cap C.length loops N (labTo N 0) w1) := (by
    have hs0 : ((w.alloc (.cells #[.slice a C.length cap, .int .i64 loops] 35)).alloc (.cells #[.slice none 0 0, .int .i64 0] 35)).heap.size = w.heap.size + 2 := by simp
    refine ⟨?_, ?_, (by simpa using hrow), (below2 _ _ _).grown hg1 (by rw [hs0]; omega) (fun k hk => by cases hk)⟩
    · exact (hg1.block _ (by rw [hs0]; omega) (by simp)).trans (alloc_old (alloc_at rfl))
    · exact (hg1.block _ (by rw [hs0]; omega) (by simp)).trans (alloc_at (by simp)) : RnSt w a cap C.length loops N (labTo N 0) w1)
  clear hrow hg1
  go_wp2
  go_loopw [9] (fun v9 wr => ∃ i : Nat, i ≤ N ∧ v9 = .int .i64 (i : Nat) ∧ Hid (RnSt w a cap C.length loops N (labTo N i) wr)) (fun v9 _ => N - (intOf v9).toNat)
  case atStart => exact ⟨0, Nat.zero_le _, rfl, HP0⟩
  case round =>
    clear HP0
    rename World => W1
    obtain ⟨i, hin, rfl, hp⟩ := hrel
    by_cases hil : i < N
    · have HST : Hid (RnSt w a cap C.length loops N (labTo N (i + 1)) (W1.setCell ⟨w.heap.size + 2, i, none⟩ (.int .i64 (i : Nat)))) := (by have h := hp.out.set i i; rw [labTo_next] at h; exact h : RnSt w a cap C.length loops N (labTo N (i + 1)) (W1.setCell ⟨w.heap.size + 2, i, none⟩ (.int .i64 (i : Nat))))
      obtain ⟨e0, z0, hlt⟩ := hp.out.at_ (by simp [labTo]) i hil
      have hdi : (i : Int) ≤ (M : Int) := by omega
      go_wp2
      go_roundw
      case rel => exact ⟨i + 1, by omega, by go_num, HST⟩
      case measure => simp only [intOf]; omega
    · obtain rfl : N = i := by omega
      clear hin hil
      have hdN : decide ((N : Int) ≤ (M : Int)) = false := by simp; omega
      have hdN2 : decide (N ≤ M) = false := by simp; omega
      have HP1 : Hid (∃ L, Nm L M ∧ RnSt w a cap C.length loops N L W1) := ⟨List.range N, by rw [HN.out]; exact Nm.range _, by have h := hp.out; rw [labTo_all] at h; exact h⟩
      clear hp
      go_wp2
      go_loopw [10] (fun v10 wr => ∃ i : Nat, i ≤ A.length ∧ v10 = .int .i64 (i : Nat) ∧ Hid (∃ L, Nm L M ∧ RnSt w a cap C.length loops N L wr)) (fun v10 _ => A.length - (intOf v10).toNat)
      case atStart => exact ⟨0, Nat.zero_le _, rfl, HP1⟩
      case round =>
        clear HP1
        rename World => W2
        obtain ⟨i, hin, rfl, hp⟩ := hrel
        by_cases hil : i < A.length
        · obtain ⟨L, hL, hst⟩ := hp.out
          have HL : Hid (Nm L M) := hL
          have HS : Hid (RnSt w a cap C.length loops N L W2) := hst
          obtain ⟨b, off, rfl, hb, hcell⟩ := HA.out (by omega)
          obtain ⟨x, hx⟩ : ∃ x, A.getD i 0 = x := ⟨_, rfl⟩
          have hxr : -9223372036854775808 ≤ x ∧ x ≤ 9223372036854775807 := hAr x (by rw [← hx, List.getD_eq_getElem?_getD, List.getElem?_eq_getElem hil]; exact List.getElem_mem _)
          have t0 : W2.cell? ⟨b, off + i, none⟩ = some (.int .i64 x) := bcell hst.bel hb (by rw [hcell i (by omega), ← hx]; exact intsV_get A i hil)
          have d1 : decide ((i : Int) < (A.length : Int)) = true := by simp; omega
          have hM0 : 0 < M := by have := HM2.out; omega
          have d2 : decide ((1 : Int) < (M : Int)) = true := by have := HM2.out; simp; omega
          have hz : ((M : Int) == 0) = false := beq_eq_false_iff_ne.2 (by omega)
          obtain ⟨y, hy⟩ : ∃ y : Nat, i % M = y := ⟨_, rfl⟩
          have hyl : y < M := by rw [← hy]; exact Nat.mod_lt i hM0
          have ey0 : (i : Int) % (M : Int) = (y : Int) := by rw [← hy]; rfl
          have ey : (i : Int).tmod (M : Int) = (y : Int) := by rw [← hy]; rfl
          have ey2 : IntKind.i64.wrap (y : Int) = (y : Int) := IntWalk.i64_in _ (by omega)
          have hz2 : (M : Int) ≠ 0 := by omega
          have hz3 : M ≠ 0 := by omega
          have ey3 : IntKind.i64.wrap (1 + (y : Int)) = 1 + (y : Int) := IntWalk.i64_in _ (by omega)
          clear hy
          have HM0 : Hid (0 < M) := hM0
          have HM1 : Hid (M ≤ 1000) := (by omega : M ≤ 1000)
          have HXR : Hid (-9223372036854775808 ≤ x ∧ x ≤ 9223372036854775807) := hxr
          clear hp hL hst hcell hxr
          go_wp2
          go_region_held3 (fun w' => w'.cell? ⟨b, off + i, none⟩ = some (.int .i64 x)) (exact t0) (first
            | (go_at_call 41; refine (picked_any x M _ HXR.out HM0.out HM1.out).mono ?_; rintro e9 w4 ⟨r, rfl, hr, rfl⟩
               have er : IntKind.i64.wrap (1 + (r : Int)) = 1 + (r : Int) := IntWalk.i64_in _ (by have := HM1.out; omega)))
          obtain ⟨X, hX⟩ : ∃ X : Nat, 1 + r = X := ⟨_, rfl⟩
          obtain ⟨Y, hY⟩ : ∃ Y : Nat, 1 + y = Y := ⟨_, rfl⟩
          have eX : 1 + (r : Int) = (X : Int) := by omega
          have eY : 1 + (y : Int) = (Y : Int) := by omega
          have hXr : 1 ≤ X ∧ X ≤ M := by omega
          have hYr : 1 ≤ Y ∧ Y ≤ M := by omega
          have HX : Hid (1 ≤ X ∧ X ≤ M) := hXr
          have HY : Hid (1 ≤ Y ∧ Y ≤ M) := hYr
          have hXN : (X : Int) < (N : Int) := by omega
          have hYN : (Y : Int) < (N : Int) := by omega
          rw [eX, eY]
          obtain ⟨e0, z0, hlt⟩ := HS.out.drew.at_ (by rw [HL.out.len, HN.out]) X (by have := HN.out; omega)
          obtain ⟨e1, z1, -⟩ := HS.out.drew.at_ (by rw [HL.out.len, HN.out]) Y (by have := HN.out; omega)
          have z2 : W2.frozen? ⟨w.heap.size + 1 + 1, X, none⟩ = false := z0
          have z3 : W2.frozen? ⟨w.heap.size + 1 + 1, Y, none⟩ = false := z1
          have e2 : W2.cell? ⟨w.heap.size + 1 + 1, X, none⟩ = some (.int .i64 (L.getD X 0 : Nat)) := e0
          have e3 : W2.cell? ⟨w.heap.size + 1 + 1, Y, none⟩ = some (.int .i64 (L.getD Y 0 : Nat)) := e1
          have hlt2 : w.heap.size + 1 + 1 < W2.heap.size := hlt
          clear hX hY eX eY er ey0 ey ey2 ey3 hr hyl hXr hYr hz hz2 hz3
          have HST : Hid (∃ L', Nm L' M ∧ RnSt w a cap C.length loops N L' ((W2.setCell ⟨w.heap.size + 1 + 1, X, none⟩ (.int .i64 (L.getD Y 0 : Nat))).setCell ⟨w.heap.size + 1 + 1, Y, none⟩ (.int .i64 (L.getD X 0 : Nat))).drew.drew) := ⟨_, HL.out.swap HX.out HY.out, ((HS.out.set X _).set Y _).drew.drew⟩
          by_cases hXY : X = Y
          · subst hXY
            go_wp2
            apply cut_ren
            case h =>
              intro key
              go_region_with (fail)
              all_goals exact key.out
            go_wp2
            go_roundw
            case rel => exact ⟨i + 1, by omega, by go_num, HST⟩
            case measure => simp only [intOf]; omega
          · have hYX : Y ≠ X := fun e => hXY e.symm
            go_wp2
            apply cut_ren
            case h =>
              intro key
              go_region_with (fail)
              all_goals exact key.out
            go_wp2
            go_roundw
            case rel => exact ⟨i + 1, by omega, by go_num, HST⟩
            case measure => simp only [intOf]; omega
        · obtain rfl : i = A.length := by omega
          have d1 : decide ((A.length : Int) < (A.length : Int)) = false := by simp
          have HP2 : Hid (∃ L, Nm L M ∧ RnSt w a cap C.length loops N L W2) := hp
          clear hp hil hin
          obtain ⟨L, hL, hst⟩ := HP2.out
          have HL : Hid (Nm L M) := hL
          have HS : Hid (RnSt w a cap C.length loops N L W2) := hst
          have t0 : W2.cell? ⟨w.heap.size, 0, none⟩ = some (.slice a C.length cap) := block_cell hst.d rfl
          have t1 : W2.cell? ⟨w.heap.size, 1, none⟩ = some (.int .i64 loops) := block_cell hst.d rfl
          have hlt : w.heap.size + 2 < W2.heap.size := (hst.nm.lt (w.heap.size + 2) rfl).2
          clear hL hst HP2
          go_wp2
          obtain ⟨i0, hi, hz0, hz1, hz2⟩ := info_parts infoCross
          have HO0 : Hid (OutAt (W2.alloc (.cells #[.slice none 0 0, .int .i64 loops] 35)) (W2.heap.size + 1) W2.heap.size (.slice none 0 0) loops []) := OutAt.nil (alloc_at rfl)
          have HS0 : Hid (RnSt w a cap C.length loops N L (W2.alloc (.cells #[.slice none 0 0, .int .i64 loops] 35))) := HS.out.on3 ((Below.refl _ _).alloc (by omega) _)
          clear HS t0 t1
          go_loopw [14] (fun v14 wr => ∃ (i : Nat) (v3 : Value) (acc : List Cr), i ≤ C.length ∧ v14 = .int .i64 (i : Nat) ∧ Hid (acc.length = i) ∧ Hid (acc = (C.take i).map (renX L)) ∧ Hid (OutAt wr (W2.heap.size + 1) W2.heap.size v3 loops acc) ∧ Hid (RnSt w a cap C.length loops N L wr)) (fun v14 _ => C.length - (intOf v14).toNat)
          case atStart => exact ⟨0, .slice none 0 0, [], Nat.zero_le _, rfl, (rfl : ([] : List Cr).length = 0), (rfl : [] = (C.take 0).map (renX L)), HO0.out, HS0.out⟩
          case round =>
            clear HO0 HS0
            rename World => W1
            obtain ⟨i, v3, acc, hin, rfl, hal, hacc, HOUT, HS⟩ := hrel
            have hlt1 := (Array.getElem?_eq_some_iff.1 HOUT.out.box).1
            have d0 : W1.cell? ⟨w.heap.size, 0, none⟩ = some (.slice a C.length cap) := block_cell HS.out.d rfl
            have hszW := HS.out.bel.size
            by_cases hil : i < C.length
            · obtain ⟨b, off, ea, hbq, hC⟩ := crs_some HD.out (by omega)
              subst ea
              obtain ⟨p0, p1, p2, p3, xp, hxx, hp0, hp1, hp2, hp3⟩ := may_nats HM.out i hil
              obtain ⟨c0, c1, c2, c3, c4⟩ := (hC.on HS.out.bel hbq) i hil
              rw [hxx] at c0 c1 c2 c3 c4
              try simp only at c0 c1 c2 c3 c4
              obtain ⟨f0, hf0⟩ : ∃ f0, L.getD p0 0 = f0 := ⟨_, rfl⟩
              obtain ⟨f1, hf1⟩ : ∃ f1, L.getD p1 0 = f1 := ⟨_, rfl⟩
              obtain ⟨f2, hf2⟩ : ∃ f2, L.getD p2 0 = f2 := ⟨_, rfl⟩
              obtain ⟨f3, hf3⟩ : ∃ f3, L.getD p3 0 = f3 := ⟨_, rfl⟩
              have HNX : Hid ((C.take (i + 1)).map (renX L) = (C.take i).map (renX L) ++ [(⟨(f0 : Nat), (f1 : Nat), (f2 : Nat), (f3 : Nat), xp⟩ : Cr)]) := (by rw [take_map_next (renX L) C i hil, hxx, ← hf0, ← hf1, ← hf2, ← hf3]; rfl : (C.take (i + 1)).map (renX L) = (C.take i).map (renX L) ++ [(⟨(f0 : Nat), (f1 : Nat), (f2 : Nat), (f3 : Nat), xp⟩ : Cr)])
              have hb1 : b < W1.heap.size := by omega
              have hal16 : acc.length ≤ 16 := by have := hal.out; omega
              obtain ⟨a3, c3', ev3⟩ := own_capS HOUT.out.row
              subst ev3
              obtain ⟨Y, hY⟩ : ∃ Y, Y = W1.alloc (.cells #[.int .i64 (p0 : Nat), .int .i64 (p1 : Nat), .int .i64 (p2 : Nat), .int .i64 (p3 : Nat), .bool xp] 61) := ⟨_, rfl⟩
              have HY : Hid (Y = W1.alloc (.cells #[.int .i64 (p0 : Nat), .int .i64 (p1 : Nat), .int .i64 (p2 : Nat), .int .i64 (p3 : Nat), .bool xp] 61)) := hY
              have hsY : Y.heap.size = W1.heap.size + 1 := by rw [hY]; simp
              have HBY : Hid (Below W1.heap.size W1 Y) := (by rw [hY]; exact (Below.refl _ _).alloc (Nat.le_refl _) _ : Below W1.heap.size W1 Y)
              have hTY : Y.heap[W1.heap.size]? = some (.cells #[.int .i64 (p0 : Nat), .int .i64 (p1 : Nat), .int .i64 (p2 : Nat), .int .i64 (p3 : Nat), .bool xp] 61 (0, 0)) := by rw [hY]; exact alloc_at rfl
              have HSY : Hid (RnSt w (some ⟨b, off, none⟩) cap C.length loops N L Y) := HS.out.on3 (HBY.out.mono (by omega))
              have HSD : Hid (RnSt w (some ⟨b, off, none⟩) cap C.length loops N L Y.drew) := HSY.out.drew
              have HOY : Hid (OutAt Y (W2.heap.size + 1) W2.heap.size (.slice a3 acc.length c3') loops acc) := HOUT.out.on HBY.out
              have HOD : Hid (OutAt Y.drew (W2.heap.size + 1) W2.heap.size (.slice a3 acc.length c3') loops acc) := HOY.out.on (Below.refl _ _).drew
              have k0 : Y.cell? ⟨W1.heap.size, 0, none⟩ = some (.int .i64 (p0 : Nat)) := block_cell hTY rfl
              have k1 : Y.cell? ⟨W1.heap.size, 1, none⟩ = some (.int .i64 (p1 : Nat)) := block_cell hTY rfl
              have k2 : Y.cell? ⟨W1.heap.size, 2, none⟩ = some (.int .i64 (p2 : Nat)) := block_cell hTY rfl
              have k3 : Y.cell? ⟨W1.heap.size, 3, none⟩ = some (.int .i64 (p3 : Nat)) := block_cell hTY rfl
              have k4 : Y.cell? ⟨W1.heap.size, 4, none⟩ = some (.bool xp) := block_cell hTY rfl
              have hLN : L.length = N := by rw [HL.out.len, HN.out]
              have n0 : Y.cell? ⟨w.heap.size + 1 + 1, p0, none⟩ = some (.int .i64 (f0 : Nat)) := (by have h := (HSY.out.at_ hLN p0 (by have := HN.out; have := HM2.out; omega)).1; rw [hf0] at h; exact h)
              have n1 : Y.cell? ⟨w.heap.size + 1 + 1, p1, none⟩ = some (.int .i64 (f1 : Nat)) := (by have h := (HSY.out.at_ hLN p1 (by have := HN.out; have := HM2.out; omega)).1; rw [hf1] at h; exact h)
              have n2 : Y.cell? ⟨w.heap.size + 1 + 1, p2, none⟩ = some (.int .i64 (f2 : Nat)) := (by have h := (HSY.out.at_ hLN p2 (by have := HN.out; have := HM2.out; omega)).1; rw [hf2] at h; exact h)
              have n3 : Y.cell? ⟨w.heap.size + 1 + 1, p3, none⟩ = some (.int .i64 (f3 : Nat)) := (by have h := (HSY.out.at_ hLN p3 (by have := HN.out; have := HM2.out; omega)).1; rw [hf3] at h; exact h)
              have t0 : Y.cell? ⟨W2.heap.size, 0, none⟩ = some (.slice a3 acc.length c3') := block_cell HOY.out.box rfl
              have t1 : W2.heap.size < Y.heap.size := by omega
              have i1 : (p0 : Int) < (N : Int) := by have := HN.out; have := HM2.out; omega
              have i2' : (p1 : Int) < (N : Int) := by have := HN.out; have := HM2.out; omega
              have i3 : (p2 : Int) < (N : Int) := by have := HN.out; have := HM2.out; omega
              have i4 : (p3 : Int) < (N : Int) := by have := HN.out; have := HM2.out; omega
              have j1 : p0 < N := by omega
              have j2 : p1 < N := by omega
              have j3 : p2 < N := by omega
              have j4 : p3 < N := by omega
              have hsD : Y.drew.heap.size = Y.heap.size := rfl
              have hilI : decide ((i : Int) < (C.length : Int)) = true := by simp; omega
              have hne : ∀ k, (k < W2.heap.size + 1 ∨ W1.heap.size ≤ k) → some k ≠ (Value.slice a3 acc.length c3').ownBlock := fun k hk e => by have := HOUT.out.row.lt k e.symm; omega
              have hbd : ∀ o, Below Y.heap.size Y (Y.drew.alloc o) := fun o => ((Below.refl _ _).drew).alloc (Nat.le_refl _) o
              have HKP : Hid (∀ (o : Obj) (w' : World), (Y.drew.alloc o).grownBy w' (Value.slice a3 acc.length c3').ownBlock → (fun w' => w'.cell? ⟨W1.heap.size, 0, none⟩ = some (.int .i64 (p0 : Nat)) ∧ w'.cell? ⟨W1.heap.size, 1, none⟩ = some (.int .i64 (p1 : Nat)) ∧ w'.cell? ⟨W1.heap.size, 2, none⟩ = some (.int .i64 (p2 : Nat)) ∧ w'.cell? ⟨W1.heap.size, 3, none⟩ = some (.int .i64 (p3 : Nat)) ∧ w'.cell? ⟨W1.heap.size, 4, none⟩ = some (.bool xp) ∧ w'.cell? ⟨w.heap.size + 1 + 1, p0, none⟩ = some (.int .i64 (f0 : Nat)) ∧ w'.cell? ⟨w.heap.size + 1 + 1, p1, none⟩ = some (.int .i64 (f1 : Nat)) ∧ w'.cell? ⟨w.heap.size + 1 + 1, p2, none⟩ = some (.int .i64 (f2 : Nat)) ∧ w'.cell? ⟨w.heap.size + 1 + 1, p3, none⟩ = some (.int .i64 (f3 : Nat))) w') := fun o w' hg => ⟨(hg.cell_far ⟨W1.heap.size, 0, none⟩ (by simp; omega) (hne (W1.heap.size) (by omega))).trans (bcell (hbd o) (by omega) k0), (hg.cell_far ⟨W1.heap.size, 1, none⟩ (by simp; omega) (hne (W1.heap.size) (by omega))).trans (bcell (hbd o) (by omega) k1), (hg.cell_far ⟨W1.heap.size, 2, none⟩ (by simp; omega) (hne (W1.heap.size) (by omega))).trans (bcell (hbd o) (by omega) k2), (hg.cell_far ⟨W1.heap.size, 3, none⟩ (by simp; omega) (hne (W1.heap.size) (by omega))).trans (bcell (hbd o) (by omega) k3), (hg.cell_far ⟨W1.heap.size, 4, none⟩ (by simp; omega) (hne (W1.heap.size) (by omega))).trans (bcell (hbd o) (by omega) k4), (hg.cell_far ⟨w.heap.size + 1 + 1, p0, none⟩ (by simp; omega) (hne (w.heap.size + 1 + 1) (by omega))).trans (bcell (hbd o) (by omega) n0), (hg.cell_far ⟨w.heap.size + 1 + 1, p1, none⟩ (by simp; omega) (hne (w.heap.size + 1 + 1) (by omega))).trans (bcell (hbd o) (by omega) n1), (hg.cell_far ⟨w.heap.size + 1 + 1, p2, none⟩ (by simp; omega) (hne (w.heap.size + 1 + 1) (by omega))).trans (bcell (hbd o) (by omega) n2), (hg.cell_far ⟨w.heap.size + 1 + 1, p3, none⟩ (by simp; omega) (hne (w.heap.size + 1 + 1) (by omega))).trans (bcell (hbd o) (by omega) n3)⟩
              have HKQ : Hid (∀ (o : Obj) (w' : World) (u : Value), (Y.drew.alloc o).grownBy w' (Value.slice a3 acc.length c3').ownBlock → (fun w' => w'.cell? ⟨W1.heap.size, 0, none⟩ = some (.int .i64 (p0 : Nat)) ∧ w'.cell? ⟨W1.heap.size, 1, none⟩ = some (.int .i64 (p1 : Nat)) ∧ w'.cell? ⟨W1.heap.size, 2, none⟩ = some (.int .i64 (p2 : Nat)) ∧ w'.cell? ⟨W1.heap.size, 3, none⟩ = some (.int .i64 (p3 : Nat)) ∧ w'.cell? ⟨W1.heap.size, 4, none⟩ = some (.bool xp) ∧ w'.cell? ⟨w.heap.size + 1 + 1, p0, none⟩ = some (.int .i64 (f0 : Nat)) ∧ w'.cell? ⟨w.heap.size + 1 + 1, p1, none⟩ = some (.int .i64 (f1 : Nat)) ∧ w'.cell? ⟨w.heap.size + 1 + 1, p2, none⟩ = some (.int .i64 (f2 : Nat)) ∧ w'.cell? ⟨w.heap.size + 1 + 1, p3, none⟩ = some (.int .i64 (f3 : Nat))) (w'.setCell ⟨W2.heap.size, 0, none⟩ u)) := fun o w' u hg => by
                have g := HKP.out o w' hg
                have hz := hg.size
                simp only [World.size_alloc] at hz
                have hsg := set_grown w' (W2.heap.size) 0 u
                exact ⟨hsg.cell g.1 (by simp; omega), hsg.cell g.2.1 (by simp; omega), hsg.cell g.2.2.1 (by simp; omega), hsg.cell g.2.2.2.1 (by simp; omega), hsg.cell g.2.2.2.2.1 (by simp; omega), hsg.cell g.2.2.2.2.2.1 (by simp; omega), hsg.cell g.2.2.2.2.2.2.1 (by simp; omega), hsg.cell g.2.2.2.2.2.2.2.1 (by simp; omega), hsg.cell g.2.2.2.2.2.2.2.2 (by simp; omega)⟩
              clear hne hbd hxx hf0 hf1 hf2 hf3 hp0 hp1 hp2 hp3 hTY hC hY hLN
              go_wp2
              rw [← HY.out]
              refine wp_region_held_drew (S := fun w' => w'.cell? ⟨W1.heap.size, 0, none⟩ = some (.int .i64 (p0 : Nat)) ∧ w'.cell? ⟨W1.heap.size, 1, none⟩ = some (.int .i64 (p1 : Nat)) ∧ w'.cell? ⟨W1.heap.size, 2, none⟩ = some (.int .i64 (p2 : Nat)) ∧ w'.cell? ⟨W1.heap.size, 3, none⟩ = some (.int .i64 (p3 : Nat)) ∧ w'.cell? ⟨W1.heap.size, 4, none⟩ = some (.bool xp) ∧ w'.cell? ⟨w.heap.size + 1 + 1, p0, none⟩ = some (.int .i64 (f0 : Nat)) ∧ w'.cell? ⟨w.heap.size + 1 + 1, p1, none⟩ = some (.int .i64 (f1 : Nat)) ∧ w'.cell? ⟨w.heap.size + 1 + 1, p2, none⟩ = some (.int .i64 (f2 : Nat)) ∧ w'.cell? ⟨w.heap.size + 1 + 1, p3, none⟩ = some (.int .i64 (f3 : Nat))) (by kernel_rfl) (by (try dsimp only); first | exact HKQ.out _ _ _ hg8 | exact HKP.out _ _ hg8 | go_keep) (fun hHeld => ?_)
              clear c0 c1 c2 c3 c4 d0
              refine wpAnyH_take (i := 0) (v := ?vv0c) rfl (by kernel_rfl) (by kernel_rfl) (by kernel_rfl) (fun _ _ _ h => h) (Or.inl ⟨by rfl, ?yy0c⟩) (by assumption) ?rr0c
              case yy0c => (intro w hSw; (try dsimp only at hSw); go_simp; (try with_reducible rfl))
              try simp only [Act.put]
              refine wpAnyH_take (i := 2) (v := ?vv2c) rfl (by kernel_rfl) (by kernel_rfl) (by kernel_rfl) (fun _ _ _ h => h) (Or.inl ⟨by rfl, ?yy2c⟩) (by assumption) ?rr2c
              case yy2c => (intro w hSw; (try dsimp only at hSw); go_simp; (try with_reducible rfl))
              try simp only [Act.put]
              refine wpAnyH_take (i := 3) (v := ?vv3c) rfl (by kernel_rfl) (by kernel_rfl) (by kernel_rfl) (fun _ _ _ h => h) (Or.inl ⟨by rfl, ?yy3c⟩) (by assumption) ?rr3c
              case yy3c => (intro w hSw; (try dsimp only at hSw); go_simp; (try with_reducible rfl))
              try simp only [Act.put]
              refine wpAnyH_take (i := 4) (v := ?vv4c) rfl (by kernel_rfl) (by kernel_rfl) (by kernel_rfl) (fun _ _ _ h => h) (Or.inl ⟨by rfl, ?yy4c⟩) (by assumption) ?rr4c
              case yy4c => (intro w hSw; (try dsimp only at hSw); go_simp; (try with_reducible rfl))
              try simp only [Act.put]
              refine wpAnyH_take (i := 5) (v := ?vv5c) rfl (by kernel_rfl) (by kernel_rfl) (by kernel_rfl) (fun _ _ _ h => h) (Or.inl ⟨by rfl, ?yy5c⟩) (by assumption) ?rr5c
              case yy5c => (intro w hSw; (try dsimp only at hSw); go_simp; (try with_reducible rfl))
              try simp only [Act.put]
              refine wpAnyH_take (i := 6) (v := ?vv6c) rfl (by kernel_rfl) (by kernel_rfl) (by kernel_rfl) (fun _ _ _ h => h) (Or.inl ⟨by rfl, ?yy6c⟩) (by assumption) ?rr6c
              case yy6c => (intro w hSw; (try dsimp only at hSw); go_simp; (try with_reducible rfl))
              try simp only [Act.put]
              refine wpAnyH_take (i := 7) (v := ?vv7c) rfl (by kernel_rfl) (by kernel_rfl) (by kernel_rfl) (fun _ _ _ h => h) (Or.inl ⟨by rfl, ?yy7c⟩) (by assumption) ?rr7c
              case yy7c => (intro w hSw; (try dsimp only at hSw); go_simp; (try with_reducible rfl))
              try simp only [Act.put]
              refine wpAnyH_take (i := 8) (v := ?vv8c) rfl (by kernel_rfl) (by kernel_rfl) (by kernel_rfl) (fun _ _ _ h => h) (Or.inl ⟨by rfl, ?yy8c⟩) (by assumption) ?rr8c
              case yy8c => (intro w hSw; (try dsimp only at hSw); go_simp; (try with_reducible rfl))
              try simp only [Act.put]
              refine wpAnyH_take (i := 9) (v := ?vv9c) rfl (by kernel_rfl) (by kernel_rfl) (by kernel_rfl) (fun _ _ _ h => h) (Or.inl ⟨by rfl, ?yy9c⟩) (by assumption) ?rr9c
              case yy9c => (intro w hSw; (try dsimp only at hSw); go_simp; (try with_reducible rfl))
              try simp only [Act.put]
              refine wpAnyH_take (i := 10) (v := ?vv10c) rfl (by kernel_rfl) (by kernel_rfl) (by kernel_rfl) (fun _ _ _ h => h) (Or.inl ⟨by rfl, ?yy10c⟩) (by assumption) ?rr10c
              case yy10c => (intro w hSw; (try dsimp only at hSw); go_simp; (try with_reducible rfl))
              try simp only [Act.put]
              refine wpAnyH_take (i := 11) (v := ?vv11c) rfl (by kernel_rfl) (by kernel_rfl) (by kernel_rfl) (fun _ _ _ h => h) (Or.inl ⟨by rfl, ?yy11c⟩) (by assumption) ?rr11c
              case yy11c => (intro w hSw; (try dsimp only at hSw); go_simp; (try with_reducible rfl))
              try simp only [Act.put]
              refine wpAnyH_take (i := 12) (v := ?vv12c) rfl (by kernel_rfl) (by kernel_rfl) (by kernel_rfl) (fun _ _ _ h => h) (Or.inl ⟨by rfl, ?yy12c⟩) (by assumption) ?rr12c
              case yy12c => (intro w hSw; (try dsimp only at hSw); go_simp; (try with_reducible rfl))
              try simp only [Act.put]
              refine wpAnyH_take (i := 13) (v := ?vv13c) rfl (by kernel_rfl) (by kernel_rfl) (by kernel_rfl) (fun _ _ _ h => h) (Or.inl ⟨by rfl, ?yy13c⟩) (by assumption) ?rr13c
              case yy13c => (intro w hSw; (try dsimp only at hSw); go_simp; (try with_reducible rfl))
              try simp only [Act.put]
              refine wpAnyH_take (i := 14) (v := ?vv14c) rfl (by kernel_rfl) (by kernel_rfl) (by kernel_rfl) (fun _ _ _ h => h) (Or.inl ⟨by rfl, ?yy14c⟩) (by assumption) ?rr14c
              case yy14c => (intro w hSw; (try dsimp only at hSw); go_simp; (try with_reducible rfl))
              try simp only [Act.put]
              refine wpAnyH_take (i := 15) (v := ?vv15c) rfl (by kernel_rfl) (by kernel_rfl) (by kernel_rfl) (fun _ _ _ h => h) (Or.inl ⟨by rfl, ?yy15c⟩) (by assumption) ?rr15c
              case yy15c => (intro w hSw; (try dsimp only at hSw); go_simp; (try with_reducible rfl))
              try simp only [Act.put]
              refine wpAnyH_take (i := 16) (v := ?vv16c) rfl (by kernel_rfl) (by kernel_rfl) (by kernel_rfl) (fun _ _ _ h => h) (Or.inl ⟨by rfl, ?yy16c⟩) (by assumption) ?rr16c
              case yy16c => (intro w hSw; (try dsimp only at hSw); go_simp; (try with_reducible rfl))
              try simp only [Act.put]
              refine wpAnyH_take (i := 17) (v := ?vv17c) rfl (by kernel_rfl) (by kernel_rfl) (by kernel_rfl) (fun _ _ _ h => h) (Or.inl ⟨by rfl, ?yy17c⟩) (by assumption) ?rr17c
              case yy17c => (intro w hSw; (try dsimp only at hSw); go_simp; (try with_reducible rfl))
              try simp only [Act.put]
              refine wpAnyH_take (i := 18) (v := ?vv18c) rfl (by kernel_rfl) (by kernel_rfl) (by kernel_rfl) (fun _ _ _ h => h) (Or.inl ⟨by rfl, ?yy18c⟩) (by assumption) ?rr18c
              case yy18c => (intro w hSw; (try dsimp only at hSw); go_simp; (try with_reducible rfl))
              try simp only [Act.put]
              refine wpAnyH_take (i := 19) (v := ?vv19c) rfl (by kernel_rfl) (by kernel_rfl) (by kernel_rfl) (fun _ _ _ h => h) (Or.inl ⟨by rfl, ?yy19c⟩) (by assumption) ?rr19c
              case yy19c => (intro w hSw; (try dsimp only at hSw); go_simp; (try with_reducible rfl))
              try simp only [Act.put]
              refine wpAnyH_take (i := 20) (v := ?vv20c) rfl (by kernel_rfl) (by kernel_rfl) (by kernel_rfl) (fun _ _ _ h => h) (Or.inl ⟨by rfl, ?yy20c⟩) (by assumption) ?rr20c
              case yy20c => (intro w hSw; (try dsimp only at hSw); go_simp; (try with_reducible rfl))
              try simp only [Act.put]
              refine wpAnyH_take (i := 21) (v := ?vv21c) rfl (by kernel_rfl) (by kernel_rfl) (by kernel_rfl) (fun _ _ _ h => h) (Or.inl ⟨by rfl, ?yy21c⟩) (by assumption) ?rr21c
              case yy21c => (intro w hSw; (try dsimp only at hSw); go_simp; (try with_reducible rfl))
              try simp only [Act.put]
              refine wpAnyH_take (i := 22) (v := ?vv22c) rfl (by kernel_rfl) (by kernel_rfl) (by kernel_rfl) (fun _ _ _ h => h) (Or.inl ⟨by rfl, ?yy22c⟩) (by assumption) ?rr22c
              case yy22c => (intro w hSw; (try dsimp only at hSw); go_simp; (try with_reducible rfl))
              try simp only [Act.put]
              refine wpAnyH_take (i := 23) (v := ?vv23c) rfl (by kernel_rfl) (by kernel_rfl) (by kernel_rfl) (fun _ _ _ h => h) (Or.inl ⟨by rfl, ?yy23c⟩) (by assumption) ?rr23c
              case yy23c => (intro w hSw; (try dsimp only at hSw); go_simp; (try with_reducible rfl))
              try simp only [Act.put]
              refine wpAnyH_take (i := 24) (v := ?vv24c) rfl (by kernel_rfl) (by kernel_rfl) (by kernel_rfl) (fun _ _ _ h => h) (Or.inl ⟨by rfl, ?yy24c⟩) (by assumption) ?rr24c
              case yy24c => (intro w hSw; (try dsimp only at hSw); go_simp; (try with_reducible rfl))
              try simp only [Act.put]
              refine wpAnyH_ready (rs := [1, 25]) (by kernel_rfl) (by simp) ?_
              refine AllReadyH.cons rfl (fun K hK => ?_) (AllReadyH.cons rfl (fun K hK => ?_) AllReadyH.nil)
              · go_simp
                refine hK.out _ _ (by (try dsimp only); first | exact HKQ.out _ _ _ hg8 | exact HKP.out _ _ hg8 | go_keep) (fun hHeld => ?_)
                clear hK K
                refine wpAnyH_ready (rs := [25]) (by kernel_rfl) (by simp) ?_
                refine AllReadyH.cons rfl (fun K hK => ?_) AllReadyH.nil
                go_simp
                refine hK.out _ _ (by (try dsimp only); first | exact HKQ.out _ _ _ hg8 | exact HKP.out _ _ hg8 | go_keep) (fun hHeld => ?_)
                clear hK K
                refine wpAnyH_ready (rs := [26]) (by kernel_rfl) (by simp) ?_
                refine AllReadyH.cons rfl (fun K hK => ?_) AllReadyH.nil
                (refine step_append_own rfl (.tmp 86) (.tmp 110) 33 rfl (W2.heap.size + 1) 61 i0 (.agg #[.int .i64 0, .int .i64 0, .int .i64 0, .int .i64 0, .bool false]) 5 40 Try.underlying33 hi hz0 hz1 hz2 rfl (by decide) _ acc.length _ (by simp [Act.eval]) (HOD.out.row.alloc _) ⟨Y.drew.heap.size, 0, none⟩ 1 1 [.int .i64 (f0 : Nat), .int .i64 (f1 : Nat), .int .i64 (f2 : Nat), .int .i64 (f3 : Nat), .bool xp] (by simp [Act.eval]) rfl (new_cell5 _ _ _ _ _ _ _) (cells_one [(⟨(f0 : Nat), (f1 : Nat), (f2 : Nat), (f3 : Nat), xp⟩ : Cr)]) (by unfold maxLen; omega) (by omega) (by simp; omega) ?_; intro v8 w8 hown8 hg8; obtain ⟨a8, c8, ev8⟩ := own_capS hown8; subst ev8; have hb8 := HOD.out.box8 (by omega) hg8; have r0 : w8.cell? ⟨W2.heap.size, 0, none⟩ = some (.slice a3 acc.length c3') := block_cell hb8 rfl; have r1 : w8.frozen? ⟨W2.heap.size, 0, none⟩ = false := block_frozen hb8; have r2 : W2.heap.size < w8.heap.size := (Array.getElem?_eq_some_iff.1 hb8).1)
                refine hK.out _ _ (by (try dsimp only); first | exact HKQ.out _ _ _ hg8 | exact HKP.out _ _ hg8 | go_keep) (fun hHeld => ?_)
                clear hK K
                refine wpAnyH_take (i := 27) (v := ?vv27ad) rfl (by kernel_rfl) (by kernel_rfl) (by kernel_rfl) (fun _ _ _ h => h) (Or.inl ⟨by rfl, ?yy27ad⟩) (by assumption) ?rr27ad
                case yy27ad => (intro w hSw; (try dsimp only at hSw); go_simp; (try with_reducible rfl))
                try simp only [Act.put]
                refine wpAnyH_ready (rs := [28]) (by kernel_rfl) (by simp) ?_
                refine AllReadyH.cons rfl (fun K hK => ?_) AllReadyH.nil
                go_simp
                refine hK.out _ _ (by (try dsimp only); first | exact HKQ.out _ _ _ hg8 | exact HKP.out _ _ hg8 | go_keep) (fun hHeld => ?_)
                clear hK K
                refine wpAnyH_done (by kernel_rfl) ?_ _
                have hs8 : Y.heap.size + 1 ≤ w8.heap.size := by have := hg8.size; simpa using this
                clear k0 k1 k2 k3 k4 n0 n1 n2 n3 t0 r0 r1 hHeld
                go_wp2
                go_roundw
                all_goals first
                  | (simp only [intOf]; omega)
                  | exact ⟨i + 1, .slice a8 (acc.length + 1) c8, acc ++ [(⟨(f0 : Nat), (f1 : Nat), (f2 : Nat), (f3 : Nat), xp⟩ : Cr)], by omega, by go_num, (by have := hal.out; simp; omega : (acc ++ [(⟨(f0 : Nat), (f1 : Nat), (f2 : Nat), (f3 : Nat), xp⟩ : Cr)]).length = i + 1), (by rw [HNX.out, hacc.out] : acc ++ [(⟨(f0 : Nat), (f1 : Nat), (f2 : Nat), (f3 : Nat), xp⟩ : Cr)] = (C.take (i + 1)).map (renX L)), HOD.out.app (by omega) rfl hown8 hg8, HSD.out.on3 (HOD.out.below (Below.refl _ _) (by omega) (by omega) (by omega) hg8)⟩
              · go_simp
                refine hK.out _ _ (by (try dsimp only); first | exact HKQ.out _ _ _ hg8 | exact HKP.out _ _ hg8 | go_keep) (fun hHeld => ?_)
                clear hK K
                refine wpAnyH_ready (rs := [1]) (by kernel_rfl) (by simp) ?_
                refine AllReadyH.cons rfl (fun K hK => ?_) AllReadyH.nil
                go_simp
                refine hK.out _ _ (by (try dsimp only); first | exact HKQ.out _ _ _ hg8 | exact HKP.out _ _ hg8 | go_keep) (fun hHeld => ?_)
                clear hK K
                refine wpAnyH_ready (rs := [26]) (by kernel_rfl) (by simp) ?_
                refine AllReadyH.cons rfl (fun K hK => ?_) AllReadyH.nil
                (refine step_append_own rfl (.tmp 86) (.tmp 110) 33 rfl (W2.heap.size + 1) 61 i0 (.agg #[.int .i64 0, .int .i64 0, .int .i64 0, .int .i64 0, .bool false]) 5 40 Try.underlying33 hi hz0 hz1 hz2 rfl (by decide) _ acc.length _ (by simp [Act.eval]) (HOD.out.row.alloc _) ⟨Y.drew.heap.size, 0, none⟩ 1 1 [.int .i64 (f0 : Nat), .int .i64 (f1 : Nat), .int .i64 (f2 : Nat), .int .i64 (f3 : Nat), .bool xp] (by simp [Act.eval]) rfl (new_cell5 _ _ _ _ _ _ _) (cells_one [(⟨(f0 : Nat), (f1 : Nat), (f2 : Nat), (f3 : Nat), xp⟩ : Cr)]) (by unfold maxLen; omega) (by omega) (by simp; omega) ?_; intro v8 w8 hown8 hg8; obtain ⟨a8, c8, ev8⟩ := own_capS hown8; subst ev8; have hb8 := HOD.out.box8 (by omega) hg8; have r0 : w8.cell? ⟨W2.heap.size, 0, none⟩ = some (.slice a3 acc.length c3') := block_cell hb8 rfl; have r1 : w8.frozen? ⟨W2.heap.size, 0, none⟩ = false := block_frozen hb8; have r2 : W2.heap.size < w8.heap.size := (Array.getElem?_eq_some_iff.1 hb8).1)
                refine hK.out _ _ (by (try dsimp only); first | exact HKQ.out _ _ _ hg8 | exact HKP.out _ _ hg8 | go_keep) (fun hHeld => ?_)
                clear hK K
                refine wpAnyH_take (i := 27) (v := ?vv27ae) rfl (by kernel_rfl) (by kernel_rfl) (by kernel_rfl) (fun _ _ _ h => h) (Or.inl ⟨by rfl, ?yy27ae⟩) (by assumption) ?rr27ae
                case yy27ae => (intro w hSw; (try dsimp only at hSw); go_simp; (try with_reducible rfl))
                try simp only [Act.put]
                refine wpAnyH_ready (rs := [28]) (by kernel_rfl) (by simp) ?_
                refine AllReadyH.cons rfl (fun K hK => ?_) AllReadyH.nil
                go_simp
                refine hK.out _ _ (by (try dsimp only); first | exact HKQ.out _ _ _ hg8 | exact HKP.out _ _ hg8 | go_keep) (fun hHeld => ?_)
                clear hK K
                refine wpAnyH_done (by kernel_rfl) ?_ _
                have hs8 : Y.heap.size + 1 ≤ w8.heap.size := by have := hg8.size; simpa using this
                clear k0 k1 k2 k3 k4 n0 n1 n2 n3 t0 r0 r1 hHeld
                go_wp2
                go_roundw
                all_goals first
                  | (simp only [intOf]; omega)
                  | exact ⟨i + 1, .slice a8 (acc.length + 1) c8, acc ++ [(⟨(f0 : Nat), (f1 : Nat), (f2 : Nat), (f3 : Nat), xp⟩ : Cr)], by omega, by go_num, (by have := hal.out; simp; omega : (acc ++ [(⟨(f0 : Nat), (f1 : Nat), (f2 : Nat), (f3 : Nat), xp⟩ : Cr)]).length = i + 1), (by rw [HNX.out, hacc.out] : acc ++ [(⟨(f0 : Nat), (f1 : Nat), (f2 : Nat), (f3 : Nat), xp⟩ : Cr)] = (C.take (i + 1)).map (renX L)), HOD.out.app (by omega) rfl hown8 hg8, HSD.out.on3 (HOD.out.below (Below.refl _ _) (by omega) (by omega) (by omega) hg8)⟩
            · obtain rfl : i = C.length := by omega
              have d1 : decide ((C.length : Int) < (C.length : Int)) = false := by simp
              have hacc2 : acc = renC L C := by rw [hacc.out, List.take_length]; rfl
              subst hacc2
              have hq : (renC L C).length = C.length := hal.out
              obtain ⟨g, c3', rfl⟩ : ∃ g c3', v3 = .slice (some ⟨g, 0, none⟩) C.length c3' := own_some HOUT.out.row hq hc0
              have HR0 : Hid (Ren C (renC L C)) := ren_first HM.out (by have h := HL.out; rw [HM2.out] at h; exact h)
              have HO0 : Hid (OdSt w (W2.heap.size + 1) W2.heap.size g C.length c3' loops (renC L C) W1) := ⟨HOUT.out, HS.out.z, HS.out.bel, hq⟩
              clear hal hacc hq hil hin HOUT HS HL HA
              go_wp2
              go_loopw [16] (fun v16 wr => ∃ (i : Nat) (D : List Cr), i ≤ O.length ∧ v16 = .int .i64 (i : Nat) ∧ Hid (Ren C D) ∧ Hid (OdSt w (W2.heap.size + 1) W2.heap.size g C.length c3' loops D wr)) (fun v16 _ => O.length - (intOf v16).toNat)
              case atStart => exact ⟨0, renC L C, Nat.zero_le _, rfl, HR0.out, HO0.out⟩
              case round =>
                clear HR0 HO0
                rename World => W4
                obtain ⟨i, D, hin, rfl, HR, HO4⟩ := hrel
                have hszW := HO4.out.bel.size
                have hgl := HO4.out.out.row.lt g rfl
                have hlt4 := (Array.getElem?_eq_some_iff.1 HO4.out.out.box).1
                have t0 : W4.cell? ⟨W2.heap.size, 0, none⟩ = some (.slice (some ⟨g, 0, none⟩) C.length c3') := block_cell HO4.out.out.box rfl
                have t1 : W4.cell? ⟨W2.heap.size, 1, none⟩ = some (.int .i64 loops) := block_cell HO4.out.out.box rfl
                by_cases hgo : i < O.length ∧ 1 < C.length
                · obtain ⟨hil, h1c⟩ := hgo
                  obtain ⟨b, off, rfl, hb, hcell⟩ := HO.out (by omega)
                  obtain ⟨x, hx⟩ : ∃ x, O.getD i 0 = x := ⟨_, rfl⟩
                  have hxr : -9223372036854775808 ≤ x ∧ x ≤ 9223372036854775807 := hOr x (by rw [← hx, List.getD_eq_getElem?_getD, List.getElem?_eq_getElem hil]; exact List.getElem_mem _)
                  have o0 : W4.cell? ⟨b, off + i, none⟩ = some (.int .i64 x) := bcell HO4.out.bel hb (by rw [hcell i (by omega), ← hx]; exact intsV_get O i hil)
                  have d2 : decide ((i : Int) < (O.length : Int)) = true := by simp; omega
                  have d3 : decide ((1 : Int) < (C.length : Int)) = true := by simp; omega
                  have hz : ((C.length : Int) == 0) = false := beq_eq_false_iff_ne.2 (by omega)
                  obtain ⟨y, hy⟩ : ∃ y : Nat, i % C.length = y := ⟨_, rfl⟩
                  have hyl : y < C.length := by rw [← hy]; exact Nat.mod_lt i hc0
                  have ey0 : (i : Int) % (C.length : Int) = (y : Int) := by rw [← hy]; rfl
                  have ey : (i : Int).tmod (C.length : Int) = (y : Int) := by rw [← hy]; rfl
                  have ey2 : IntKind.i64.wrap (y : Int) = (y : Int) := IntWalk.i64_in _ (by omega)
                  have hz2 : (C.length : Int) ≠ 0 := by omega
                  have hz3 : C.length ≠ 0 := by omega
                  clear hy
                  have HXR : Hid (-9223372036854775808 ≤ x ∧ x ≤ 9223372036854775807) := hxr
                  have HC0 : Hid (0 < C.length ∧ C.length ≤ 1000) := (by omega : 0 < C.length ∧ C.length ≤ 1000)
                  have HYL : Hid (y < C.length) := hyl
                  clear hx hcell hxr
                  go_wp2
                  go_region_held3 (fun w' => w'.cell? ⟨b, off + i, none⟩ = some (.int .i64 x) ∧ w'.cell? ⟨W2.heap.size, 0, none⟩ = some (.slice (some ⟨g, 0, none⟩) C.length c3')) (exact ⟨o0, t0⟩) (first
                    | (go_at_call 41; refine (picked_any x C.length _ HXR.out HC0.out.1 HC0.out.2).mono ?_; rintro e9 w4 ⟨r, rfl, hr, rfl⟩))
                  have HRL : Hid (r < C.length) := hr
                  have hrI : (r : Int) < (C.length : Int) := by omega
                  have hyI : (y : Int) < (C.length : Int) := by omega
                  have fzr : ∀ j, W4.frozen? ⟨g, j, none⟩ = false := fun j => by have hrw := HO4.out.out.row; rw [HO4.out.len] at hrw; exact hrw.frozenAt j
                  obtain ⟨P, hP⟩ : ∃ P, D.getD r Cr.none = P := ⟨_, rfl⟩
                  obtain ⟨Q, hQ⟩ : ∃ Q, D.getD y Cr.none = Q := ⟨_, rfl⟩
                  have Ph := HO4.out.at_ r hr
                  have Qh := HO4.out.at_ y hyl
                  rw [hP] at Ph
                  rw [hQ] at Qh
                  have HST : Hid (OdSt w (W2.heap.size + 1) W2.heap.size g C.length c3' loops (swapA Cr.none D r y) (st5R (st5R W4 g r Q) g y P).drew.drew) := (by have h := (HO4.out.swap (by omega) (by omega) r y hr hyl).drew.drew; rw [hP, hQ] at h; exact h : OdSt w (W2.heap.size + 1) W2.heap.size g C.length c3' loops (swapA Cr.none D r y) (st5R (st5R W4 g r Q) g y P).drew.drew)
                  have HRS : Hid (Ren C (swapA Cr.none D r y)) := HR.out.swap hr hyl
                  have P0 : W4.cell? ⟨g, r * 5, none⟩ = some (.int .i64 P.a) := Ph.1
                  have Pz0 : W4.frozen? ⟨g, r * 5, none⟩ = false := fzr _
                  have P1 : W4.cell? ⟨g, r * 5 + 1, none⟩ = some (.int .i64 P.b) := Ph.2.1
                  have Pz1 : W4.frozen? ⟨g, r * 5 + 1, none⟩ = false := fzr _
                  have P2 : W4.cell? ⟨g, r * 5 + 2, none⟩ = some (.int .i64 P.c) := Ph.2.2.1
                  have Pz2 : W4.frozen? ⟨g, r * 5 + 2, none⟩ = false := fzr _
                  have P3 : W4.cell? ⟨g, r * 5 + 3, none⟩ = some (.int .i64 P.d) := Ph.2.2.2.1
                  have Pz3 : W4.frozen? ⟨g, r * 5 + 3, none⟩ = false := fzr _
                  have P4 : W4.cell? ⟨g, r * 5 + 4, none⟩ = some (.bool P.plus) := Ph.2.2.2.2
                  have Pz4 : W4.frozen? ⟨g, r * 5 + 4, none⟩ = false := fzr _
                  have Q0 : W4.cell? ⟨g, y * 5, none⟩ = some (.int .i64 Q.a) := Qh.1
                  have Qz0 : W4.frozen? ⟨g, y * 5, none⟩ = false := fzr _
                  have Q1 : W4.cell? ⟨g, y * 5 + 1, none⟩ = some (.int .i64 Q.b) := Qh.2.1
                  have Qz1 : W4.frozen? ⟨g, y * 5 + 1, none⟩ = false := fzr _
                  have Q2 : W4.cell? ⟨g, y * 5 + 2, none⟩ = some (.int .i64 Q.c) := Qh.2.2.1
                  have Qz2 : W4.frozen? ⟨g, y * 5 + 2, none⟩ = false := fzr _
                  have Q3 : W4.cell? ⟨g, y * 5 + 3, none⟩ = some (.int .i64 Q.d) := Qh.2.2.2.1
                  have Qz3 : W4.frozen? ⟨g, y * 5 + 3, none⟩ = false := fzr _
                  have Q4 : W4.cell? ⟨g, y * 5 + 4, none⟩ = some (.bool Q.plus) := Qh.2.2.2.2
                  have Qz4 : W4.frozen? ⟨g, y * 5 + 4, none⟩ = false := fzr _
                  have HPQ : Hid (r = y → Q = P) := fun e => by rw [← hP, ← hQ, e]
                  clear fzr Ph Qh hP hQ o0 ey0 ey ey2 hz hz2 hz3
                  have hgl2 : g < W4.heap.size := hgl.2
                  have hgG : g ≠ W2.heap.size := by omega
                  have hgG2 : W2.heap.size ≠ g := by omega
                  have HK0 : Hid (W4.cell? ⟨W2.heap.size, 0, none⟩ = some (.slice (some ⟨g, 0, none⟩) C.length c3')) := t0
                  have HKZ : Hid (W4.drew.drew.cell? ⟨W2.heap.size, 0, none⟩ = some (.slice (some ⟨g, 0, none⟩) C.length c3')) := t0
                  have HK1 : Hid ((((((W4.setCell ⟨g, r * 5, none⟩ (.int .i64 Q.a)).setCell ⟨g, r * 5 + 1, none⟩ (.int .i64 Q.b)).setCell ⟨g, r * 5 + 2, none⟩ (.int .i64 Q.c)).setCell ⟨g, r * 5 + 3, none⟩ (.int .i64 Q.d)).setCell ⟨g, r * 5 + 4, none⟩ (.bool Q.plus)).drew.drew.cell? ⟨W2.heap.size, 0, none⟩ = some (.slice (some ⟨g, 0, none⟩) C.length c3')) := (by rw [drew_cellR, drew_cellR]; exact far5R (W := W4) hgG2 HK0.out r Q : (((((W4.setCell ⟨g, r * 5, none⟩ (.int .i64 Q.a)).setCell ⟨g, r * 5 + 1, none⟩ (.int .i64 Q.b)).setCell ⟨g, r * 5 + 2, none⟩ (.int .i64 Q.c)).setCell ⟨g, r * 5 + 3, none⟩ (.int .i64 Q.d)).setCell ⟨g, r * 5 + 4, none⟩ (.bool Q.plus)).drew.drew.cell? ⟨W2.heap.size, 0, none⟩ = some (.slice (some ⟨g, 0, none⟩) C.length c3'))
                  have HK2 : Hid (((((((((((W4.setCell ⟨g, r * 5, none⟩ (.int .i64 Q.a)).setCell ⟨g, r * 5 + 1, none⟩ (.int .i64 Q.b)).setCell ⟨g, r * 5 + 2, none⟩ (.int .i64 Q.c)).setCell ⟨g, r * 5 + 3, none⟩ (.int .i64 Q.d)).setCell ⟨g, r * 5 + 4, none⟩ (.bool Q.plus)).setCell ⟨g, y * 5, none⟩ (.int .i64 P.a)).setCell ⟨g, y * 5 + 1, none⟩ (.int .i64 P.b)).setCell ⟨g, y * 5 + 2, none⟩ (.int .i64 P.c)).setCell ⟨g, y * 5 + 3, none⟩ (.int .i64 P.d)).setCell ⟨g, y * 5 + 4, none⟩ (.bool P.plus)).drew.drew.cell? ⟨W2.heap.size, 0, none⟩ = some (.slice (some ⟨g, 0, none⟩) C.length c3')) := (by rw [drew_cellR, drew_cellR]; exact far5R (W := st5R W4 g r Q) hgG2 (far5R (W := W4) hgG2 HK0.out r Q) y P : ((((((((((W4.setCell ⟨g, r * 5, none⟩ (.int .i64 Q.a)).setCell ⟨g, r * 5 + 1, none⟩ (.int .i64 Q.b)).setCell ⟨g, r * 5 + 2, none⟩ (.int .i64 Q.c)).setCell ⟨g, r * 5 + 3, none⟩ (.int .i64 Q.d)).setCell ⟨g, r * 5 + 4, none⟩ (.bool Q.plus)).setCell ⟨g, y * 5, none⟩ (.int .i64 P.a)).setCell ⟨g, y * 5 + 1, none⟩ (.int .i64 P.b)).setCell ⟨g, y * 5 + 2, none⟩ (.int .i64 P.c)).setCell ⟨g, y * 5 + 3, none⟩ (.int .i64 P.d)).setCell ⟨g, y * 5 + 4, none⟩ (.bool P.plus)).drew.drew.cell? ⟨W2.heap.size, 0, none⟩ = some (.slice (some ⟨g, 0, none⟩) C.length c3'))
                  by_cases hXY : r = y
                  · have hPQ := HPQ.out hXY
                    subst hXY
                    subst hPQ
                    go_wp2
                    apply cut_ren
                    case h =>
                      intro key
                      refine wp_region_held_drew (S := fun w' => w'.cell? ⟨W2.heap.size, 0, none⟩ = some (.slice (some ⟨g, 0, none⟩) C.length c3')) (by kernel_rfl) (by exact t0) (fun hHeld => ?_)
                      refine wpAnyH_take (i := 0) (v := ?vv0s) rfl (by kernel_rfl) (by kernel_rfl) (by kernel_rfl) (fun _ _ _ h => h) (Or.inl ⟨by rfl, ?yy0s⟩) (by assumption) ?rr0s
                      case yy0s => (intro w hSw; (try dsimp only at hSw); go_simp; (try with_reducible rfl))
                      try simp only [Act.put]
                      refine wpAnyH_take (i := 1) (v := ?vv1s) rfl (by kernel_rfl) (by kernel_rfl) (by kernel_rfl) (fun _ _ _ h => h) (Or.inl ⟨by rfl, ?yy1s⟩) (by assumption) ?rr1s
                      case yy1s => (intro w hSw; (try dsimp only at hSw); go_simp; (try with_reducible rfl))
                      try simp only [Act.put]
                      refine wpAnyH_take (i := 2) (v := ?vv2s) rfl (by kernel_rfl) (by kernel_rfl) (by kernel_rfl) (fun _ _ _ h => h) (Or.inl ⟨by rfl, ?yy2s⟩) (by assumption) ?rr2s
                      case yy2s => (intro w hSw; (try dsimp only at hSw); go_simp; (try with_reducible rfl))
                      try simp only [Act.put]
                      refine wpAnyH_take (i := 3) (v := ?vv3s) rfl (by kernel_rfl) (by kernel_rfl) (by kernel_rfl) (fun _ _ _ h => h) (Or.inl ⟨by rfl, ?yy3s⟩) (by assumption) ?rr3s
                      case yy3s => (intro w hSw; (try dsimp only at hSw); go_simp; (try with_reducible rfl))
                      try simp only [Act.put]
                      refine wpAnyH_take (i := 4) (v := ?vv4s) rfl (by kernel_rfl) (by kernel_rfl) (by kernel_rfl) (fun _ _ _ h => h) (Or.inl ⟨by rfl, ?yy4s⟩) (by assumption) ?rr4s
                      case yy4s => (intro w hSw; (try dsimp only at hSw); go_simp; (try with_reducible rfl))
                      try simp only [Act.put]
                      refine wpAnyH_take (i := 5) (v := ?vv5s) rfl (by kernel_rfl) (by kernel_rfl) (by kernel_rfl) (fun _ _ _ h => h) (Or.inl ⟨by rfl, ?yy5s⟩) (by assumption) ?rr5s
                      case yy5s => (intro w hSw; (try dsimp only at hSw); go_simp; (try with_reducible rfl))
                      try simp only [Act.put]
                      refine wpAnyH_take (i := 6) (v := ?vv6s) rfl (by kernel_rfl) (by kernel_rfl) (by kernel_rfl) (fun _ _ _ h => h) (Or.inl ⟨by rfl, ?yy6s⟩) (by assumption) ?rr6s
                      case yy6s => (intro w hSw; (try dsimp only at hSw); go_simp; (try with_reducible rfl))
                      try simp only [Act.put]
                      refine wpAnyH_take (i := 7) (v := ?vv7s) rfl (by kernel_rfl) (by kernel_rfl) (by kernel_rfl) (fun _ _ _ h => h) (Or.inl ⟨by rfl, ?yy7s⟩) (by assumption) ?rr7s
                      case yy7s => (intro w hSw; (try dsimp only at hSw); go_simp; (try with_reducible rfl))
                      try simp only [Act.put]
                      refine wpAnyH_take (i := 8) (v := ?vv8s) rfl (by kernel_rfl) (by kernel_rfl) (by kernel_rfl) (fun _ _ _ h => h) (Or.inl ⟨by rfl, ?yy8s⟩) (by assumption) ?rr8s
                      case yy8s => (intro w hSw; (try dsimp only at hSw); go_simp; (try with_reducible rfl))
                      try simp only [Act.put]
                      refine wpAnyH_take (i := 9) (v := ?vv9s) rfl (by kernel_rfl) (by kernel_rfl) (by kernel_rfl) (fun _ _ _ h => h) (Or.inl ⟨by rfl, ?yy9s⟩) (by assumption) ?rr9s
                      case yy9s => (intro w hSw; (try dsimp only at hSw); go_simp; (try with_reducible rfl))
                      try simp only [Act.put]
                      refine wpAnyH_take (i := 11) (v := ?vv11s) rfl (by kernel_rfl) (by kernel_rfl) (by kernel_rfl) (fun _ _ _ h => h) (Or.inl ⟨by rfl, ?yy11s⟩) (by assumption) ?rr11s
                      case yy11s => (intro w hSw; (try dsimp only at hSw); go_simp; (try with_reducible rfl))
                      try simp only [Act.put]
                      refine wpAnyH_take (i := 12) (v := ?vv12s) rfl (by kernel_rfl) (by kernel_rfl) (by kernel_rfl) (fun _ _ _ h => h) (Or.inl ⟨by rfl, ?yy12s⟩) (by assumption) ?rr12s
                      case yy12s => (intro w hSw; (try dsimp only at hSw); go_simp; (try with_reducible rfl))
                      try simp only [Act.put]
                      refine wpAnyH_take (i := 13) (v := ?vv13s) rfl (by kernel_rfl) (by kernel_rfl) (by kernel_rfl) (fun _ _ _ h => h) (Or.inl ⟨by rfl, ?yy13s⟩) (by assumption) ?rr13s
                      case yy13s => (intro w hSw; (try dsimp only at hSw); go_simp; (try with_reducible rfl))
                      try simp only [Act.put]
                      refine wpAnyH_take (i := 14) (v := ?vv14s) rfl (by kernel_rfl) (by kernel_rfl) (by kernel_rfl) (fun _ _ _ h => h) (Or.inl ⟨by rfl, ?yy14s⟩) (by assumption) ?rr14s
                      case yy14s => (intro w hSw; (try dsimp only at hSw); go_simp; (try with_reducible rfl))
                      try simp only [Act.put]
                      refine wpAnyH_ready (rs := [10, 15]) (by kernel_rfl) (by simp) ?_
                      refine AllReadyH.cons (i := 10) (rs := [15]) rfl (fun K hK => ?_) ?_
                      · go_simp
                        refine hK.out _ _ (by exact t0) (fun hHeld => ?_)
                        clear hK K
                        refine wpAnyH_ready (rs := [15]) (by kernel_rfl) (by simp) ?_
                        refine AllReadyH.cons (i := 15) (rs := []) rfl (fun K hK => ?_) AllReadyH.nil
                        go_simp
                        refine hK.out _ _ (by exact t0) (fun hHeld => ?_)
                        clear hK K
                        refine wpAnyH_ready (rs := [16]) (by kernel_rfl) (by simp) ?_
                        refine AllReadyH.cons (i := 16) (rs := []) rfl (fun K hK => ?_) AllReadyH.nil
                        go_simp
                        refine hK.out _ _ (by exact t0) (fun hHeld => ?_)
                        clear hK K
                        refine wpAnyH_ready (rs := [17]) (by kernel_rfl) (by simp) ?_
                        refine AllReadyH.cons (i := 17) (rs := []) rfl (fun K hK => ?_) AllReadyH.nil
                        go_simp
                        refine hK.out _ _ (by exact HK1.out) (fun hHeld => ?_)
                        clear hK K
                        refine wpAnyH_ready (rs := [18]) (by kernel_rfl) (by simp) ?_
                        refine AllReadyH.cons (i := 18) (rs := []) rfl (fun K hK => ?_) AllReadyH.nil
                        go_simp
                        refine hK.out _ _ (by exact HK1.out) (fun hHeld => ?_)
                        clear hK K
                        refine wpAnyH_ready (rs := [19]) (by kernel_rfl) (by simp) ?_
                        refine AllReadyH.cons (i := 19) (rs := []) rfl (fun K hK => ?_) AllReadyH.nil
                        go_simp
                        refine hK.out _ _ (by exact HK2.out) (fun hHeld => ?_)
                        clear hK K
                        refine wpAnyH_done (by kernel_rfl) ?_ _
                        exact key.out
                      refine AllReadyH.cons (i := 15) (rs := []) rfl (fun K hK => ?_) AllReadyH.nil
                      go_simp
                      refine hK.out _ _ (by exact t0) (fun hHeld => ?_)
                      clear hK K
                      refine wpAnyH_ready (rs := [10]) (by kernel_rfl) (by simp) ?_
                      refine AllReadyH.cons (i := 10) (rs := []) rfl (fun K hK => ?_) AllReadyH.nil
                      go_simp
                      refine hK.out _ _ (by exact t0) (fun hHeld => ?_)
                      clear hK K
                      refine wpAnyH_ready (rs := [16]) (by kernel_rfl) (by simp) ?_
                      refine AllReadyH.cons (i := 16) (rs := []) rfl (fun K hK => ?_) AllReadyH.nil
                      go_simp
                      refine hK.out _ _ (by exact t0) (fun hHeld => ?_)
                      clear hK K
                      refine wpAnyH_ready (rs := [17]) (by kernel_rfl) (by simp) ?_
                      refine AllReadyH.cons (i := 17) (rs := []) rfl (fun K hK => ?_) AllReadyH.nil
                      go_simp
                      refine hK.out _ _ (by exact HK1.out) (fun hHeld => ?_)
                      clear hK K
                      refine wpAnyH_ready (rs := [18]) (by kernel_rfl) (by simp) ?_
                      refine AllReadyH.cons (i := 18) (rs := []) rfl (fun K hK => ?_) AllReadyH.nil
                      go_simp
                      refine hK.out _ _ (by exact HK1.out) (fun hHeld => ?_)
                      clear hK K
                      refine wpAnyH_ready (rs := [19]) (by kernel_rfl) (by simp) ?_
                      refine AllReadyH.cons (i := 19) (rs := []) rfl (fun K hK => ?_) AllReadyH.nil
                      go_simp
                      refine hK.out _ _ (by exact HK2.out) (fun hHeld => ?_)
                      clear hK K
                      refine wpAnyH_done (by kernel_rfl) ?_ _
                      exact key.out
                    go_wp2
                    go_roundw
                    case rel => exact ⟨i + 1, _, by omega, by go_num, HRS, HST⟩
                    case measure => simp only [intOf]; omega
                  · have hYX : y ≠ r := fun e => hXY e.symm
                    go_wp2
                    apply cut_ren
                    case h =>
                      intro key
                      refine wp_region_held_drew (S := fun w' => w'.cell? ⟨W2.heap.size, 0, none⟩ = some (.slice (some ⟨g, 0, none⟩) C.length c3')) (by kernel_rfl) (by exact t0) (fun hHeld => ?_)
                      refine wpAnyH_take (i := 0) (v := ?vv0t) rfl (by kernel_rfl) (by kernel_rfl) (by kernel_rfl) (fun _ _ _ h => h) (Or.inl ⟨by rfl, ?yy0t⟩) (by assumption) ?rr0t
                      case yy0t => (intro w hSw; (try dsimp only at hSw); go_simp; (try with_reducible rfl))
                      try simp only [Act.put]
                      refine wpAnyH_take (i := 1) (v := ?vv1t) rfl (by kernel_rfl) (by kernel_rfl) (by kernel_rfl) (fun _ _ _ h => h) (Or.inl ⟨by rfl, ?yy1t⟩) (by assumption) ?rr1t
                      case yy1t => (intro w hSw; (try dsimp only at hSw); go_simp; (try with_reducible rfl))
                      try simp only [Act.put]
                      refine wpAnyH_take (i := 2) (v := ?vv2t) rfl (by kernel_rfl) (by kernel_rfl) (by kernel_rfl) (fun _ _ _ h => h) (Or.inl ⟨by rfl, ?yy2t⟩) (by assumption) ?rr2t
                      case yy2t => (intro w hSw; (try dsimp only at hSw); go_simp; (try with_reducible rfl))
                      try simp only [Act.put]
                      refine wpAnyH_take (i := 3) (v := ?vv3t) rfl (by kernel_rfl) (by kernel_rfl) (by kernel_rfl) (fun _ _ _ h => h) (Or.inl ⟨by rfl, ?yy3t⟩) (by assumption) ?rr3t
                      case yy3t => (intro w hSw; (try dsimp only at hSw); go_simp; (try with_reducible rfl))
                      try simp only [Act.put]
                      refine wpAnyH_take (i := 4) (v := ?vv4t) rfl (by kernel_rfl) (by kernel_rfl) (by kernel_rfl) (fun _ _ _ h => h) (Or.inl ⟨by rfl, ?yy4t⟩) (by assumption) ?rr4t
                      case yy4t => (intro w hSw; (try dsimp only at hSw); go_simp; (try with_reducible rfl))
                      try simp only [Act.put]
                      refine wpAnyH_take (i := 5) (v := ?vv5t) rfl (by kernel_rfl) (by kernel_rfl) (by kernel_rfl) (fun _ _ _ h => h) (Or.inl ⟨by rfl, ?yy5t⟩) (by assumption) ?rr5t
                      case yy5t => (intro w hSw; (try dsimp only at hSw); go_simp; (try with_reducible rfl))
                      try simp only [Act.put]
                      refine wpAnyH_take (i := 6) (v := ?vv6t) rfl (by kernel_rfl) (by kernel_rfl) (by kernel_rfl) (fun _ _ _ h => h) (Or.inl ⟨by rfl, ?yy6t⟩) (by assumption) ?rr6t
                      case yy6t => (intro w hSw; (try dsimp only at hSw); go_simp; (try with_reducible rfl))
                      try simp only [Act.put]
                      refine wpAnyH_take (i := 7) (v := ?vv7t) rfl (by kernel_rfl) (by kernel_rfl) (by kernel_rfl) (fun _ _ _ h => h) (Or.inl ⟨by rfl, ?yy7t⟩) (by assumption) ?rr7t
                      case yy7t => (intro w hSw; (try dsimp only at hSw); go_simp; (try with_reducible rfl))
                      try simp only [Act.put]
                      refine wpAnyH_take (i := 8) (v := ?vv8t) rfl (by kernel_rfl) (by kernel_rfl) (by kernel_rfl) (fun _ _ _ h => h) (Or.inl ⟨by rfl, ?yy8t⟩) (by assumption) ?rr8t
                      case yy8t => (intro w hSw; (try dsimp only at hSw); go_simp; (try with_reducible rfl))
                      try simp only [Act.put]
                      refine wpAnyH_take (i := 9) (v := ?vv9t) rfl (by kernel_rfl) (by kernel_rfl) (by kernel_rfl) (fun _ _ _ h => h) (Or.inl ⟨by rfl, ?yy9t⟩) (by assumption) ?rr9t
                      case yy9t => (intro w hSw; (try dsimp only at hSw); go_simp; (try with_reducible rfl))
                      try simp only [Act.put]
                      refine wpAnyH_take (i := 11) (v := ?vv11t) rfl (by kernel_rfl) (by kernel_rfl) (by kernel_rfl) (fun _ _ _ h => h) (Or.inl ⟨by rfl, ?yy11t⟩) (by assumption) ?rr11t
                      case yy11t => (intro w hSw; (try dsimp only at hSw); go_simp; (try with_reducible rfl))
                      try simp only [Act.put]
                      refine wpAnyH_take (i := 12) (v := ?vv12t) rfl (by kernel_rfl) (by kernel_rfl) (by kernel_rfl) (fun _ _ _ h => h) (Or.inl ⟨by rfl, ?yy12t⟩) (by assumption) ?rr12t
                      case yy12t => (intro w hSw; (try dsimp only at hSw); go_simp; (try with_reducible rfl))
                      try simp only [Act.put]
                      refine wpAnyH_take (i := 13) (v := ?vv13t) rfl (by kernel_rfl) (by kernel_rfl) (by kernel_rfl) (fun _ _ _ h => h) (Or.inl ⟨by rfl, ?yy13t⟩) (by assumption) ?rr13t
                      case yy13t => (intro w hSw; (try dsimp only at hSw); go_simp; (try with_reducible rfl))
                      try simp only [Act.put]
                      refine wpAnyH_take (i := 14) (v := ?vv14t) rfl (by kernel_rfl) (by kernel_rfl) (by kernel_rfl) (fun _ _ _ h => h) (Or.inl ⟨by rfl, ?yy14t⟩) (by assumption) ?rr14t
                      case yy14t => (intro w hSw; (try dsimp only at hSw); go_simp; (try with_reducible rfl))
                      try simp only [Act.put]
                      refine wpAnyH_ready (rs := [10, 15]) (by kernel_rfl) (by simp) ?_
                      refine AllReadyH.cons (i := 10) (rs := [15]) rfl (fun K hK => ?_) ?_
                      · go_simp
                        refine hK.out _ _ (by exact t0) (fun hHeld => ?_)
                        clear hK K
                        refine wpAnyH_ready (rs := [15]) (by kernel_rfl) (by simp) ?_
                        refine AllReadyH.cons (i := 15) (rs := []) rfl (fun K hK => ?_) AllReadyH.nil
                        go_simp
                        refine hK.out _ _ (by exact t0) (fun hHeld => ?_)
                        clear hK K
                        refine wpAnyH_ready (rs := [16]) (by kernel_rfl) (by simp) ?_
                        refine AllReadyH.cons (i := 16) (rs := []) rfl (fun K hK => ?_) AllReadyH.nil
                        go_simp
                        refine hK.out _ _ (by exact t0) (fun hHeld => ?_)
                        clear hK K
                        refine wpAnyH_ready (rs := [17]) (by kernel_rfl) (by simp) ?_
                        refine AllReadyH.cons (i := 17) (rs := []) rfl (fun K hK => ?_) AllReadyH.nil
                        go_simp
                        refine hK.out _ _ (by exact HK1.out) (fun hHeld => ?_)
                        clear hK K
                        refine wpAnyH_ready (rs := [18]) (by kernel_rfl) (by simp) ?_
                        refine AllReadyH.cons (i := 18) (rs := []) rfl (fun K hK => ?_) AllReadyH.nil
                        go_simp
                        refine hK.out _ _ (by exact HK1.out) (fun hHeld => ?_)
                        clear hK K
                        refine wpAnyH_ready (rs := [19]) (by kernel_rfl) (by simp) ?_
                        refine AllReadyH.cons (i := 19) (rs := []) rfl (fun K hK => ?_) AllReadyH.nil
                        go_simp
                        refine hK.out _ _ (by exact HK2.out) (fun hHeld => ?_)
                        clear hK K
                        refine wpAnyH_done (by kernel_rfl) ?_ _
                        exact key.out
                      refine AllReadyH.cons (i := 15) (rs := []) rfl (fun K hK => ?_) AllReadyH.nil
                      go_simp
                      refine hK.out _ _ (by exact t0) (fun hHeld => ?_)
                      clear hK K
                      refine wpAnyH_ready (rs := [10]) (by kernel_rfl) (by simp) ?_
                      refine AllReadyH.cons (i := 10) (rs := []) rfl (fun K hK => ?_) AllReadyH.nil
                      go_simp
                      refine hK.out _ _ (by exact t0) (fun hHeld => ?_)
                      clear hK K
                      refine wpAnyH_ready (rs := [16]) (by kernel_rfl) (by simp) ?_
                      refine AllReadyH.cons (i := 16) (rs := []) rfl (fun K hK => ?_) AllReadyH.nil
                      go_simp
                      refine hK.out _ _ (by exact t0) (fun hHeld => ?_)
                      clear hK K
                      refine wpAnyH_ready (rs := [17]) (by kernel_rfl) (by simp) ?_
                      refine AllReadyH.cons (i := 17) (rs := []) rfl (fun K hK => ?_) AllReadyH.nil
                      go_simp
                      refine hK.out _ _ (by exact HK1.out) (fun hHeld => ?_)
                      clear hK K
                      refine wpAnyH_ready (rs := [18]) (by kernel_rfl) (by simp) ?_
                      refine AllReadyH.cons (i := 18) (rs := []) rfl (fun K hK => ?_) AllReadyH.nil
                      go_simp
                      refine hK.out _ _ (by exact HK1.out) (fun hHeld => ?_)
                      clear hK K
                      refine wpAnyH_ready (rs := [19]) (by kernel_rfl) (by simp) ?_
                      refine AllReadyH.cons (i := 19) (rs := []) rfl (fun K hK => ?_) AllReadyH.nil
                      go_simp
                      refine hK.out _ _ (by exact HK2.out) (fun hHeld => ?_)
                      clear hK K
                      refine wpAnyH_done (by kernel_rfl) ?_ _
                      exact key.out
                    go_wp2
                    go_roundw
                    case rel => exact ⟨i + 1, _, by omega, by go_num, HRS, HST⟩
                    case measure => simp only [intOf]; omega
                · have r0 : W4.cell? ⟨w.heap.size + 1, 0, none⟩ = some (.slice none 0 0) := block_cell HO4.out.z rfl
                  have r1 : W4.cell? ⟨w.heap.size + 1, 1, none⟩ = some (.int .i64 0) := block_cell HO4.out.z rfl
                  have z0 : W4.frozen? ⟨w.heap.size + 1, 0, none⟩ = false := block_frozen HO4.out.z
                  have z1 : W4.frozen? ⟨w.heap.size + 1, 1, none⟩ = false := block_frozen HO4.out.z
                  have hltz := (Array.getElem?_eq_some_iff.1 HO4.out.z).1
                  by_cases hil : i < O.length
                  · have d2 : decide ((i : Int) < (O.length : Int)) = true := by simp; omega
                    have d3 : decide ((1 : Int) < (C.length : Int)) = false := by simp; omega
                    go_wp2
                    have hX := set_block (i := 1) (u := .int .i64 loops) (set_block (i := 0) (u := .slice (some ⟨g, 0, none⟩) C.length c3') HO4.out.z)
                    have x0 := block_cell (i := 0) (v := .slice (some ⟨g, 0, none⟩) C.length c3') hX rfl
                    have x1 := block_cell (i := 1) (v := .int .i64 loops) hX rfl
                    have hk := HO4.out.out.kept (st2_grown W4 (w.heap.size + 1) 0 (.slice (some ⟨g, 0, none⟩) C.length c3') (.int .i64 loops)) (by omega) (by omega)
                    exact bodyPost_ret (v := .agg #[.slice (some ⟨g, 0, none⟩) C.length c3', .int .i64 loops]) (by simp [results, Try.results37, go_sem, x0, x1]) rfl ⟨_, D, rfl, HR.out, own_low hk.row (by omega), HO4.out.bel.grown (st2_grown W4 (w.heap.size + 1) 0 (.slice (some ⟨g, 0, none⟩) C.length c3') (.int .i64 loops)) hszW (fun q hq => by have : w.heap.size + 1 = q := Option.some.inj hq; omega)⟩
                  · have d2 : decide ((i : Int) < (O.length : Int)) = false := by simp; omega
                    go_wp2
                    have hX := set_block (i := 1) (u := .int .i64 loops) (set_block (i := 0) (u := .slice (some ⟨g, 0, none⟩) C.length c3') HO4.out.z)
                    have x0 := block_cell (i := 0) (v := .slice (some ⟨g, 0, none⟩) C.length c3') hX rfl
                    have x1 := block_cell (i := 1) (v := .int .i64 loops) hX rfl
                    have hk := HO4.out.out.kept (st2_grown W4 (w.heap.size + 1) 0 (.slice (some ⟨g, 0, none⟩) C.length c3') (.int .i64 loops)) (by omega) (by omega)
                    exact bodyPost_ret (v := .agg #[.slice (some ⟨g, 0, none⟩) C.length c3', .int .i64 loops]) (by simp [results, Try.results37, go_sem, x0, x1]) rfl ⟨_, D, rfl, HR.out, own_low hk.row (by omega), HO4.out.bel.grown (st2_grown W4 (w.heap.size + 1) 0 (.slice (some ⟨g, 0, none⟩) C.length c3') (.int .i64 loops)) hszW (fun q hq => by have : w.heap.size + 1 = q := Option.some.inj hq; omega)⟩
end Go.Proofs.Ytiighhmgegkemaa

/- Several texts of the proof, one behind the other. -/
import Derived.Test.YtnhllpaoplfgpaaN5P
/- The walks of painting.holds and painting.ways. -/
namespace Go.Proofs.Ytnhllpaoplfgpaa
open Go.RowKit

/-- What is painted hangs on the colours of what is placed alone. -/
theorem hold_congr {q : Nat → Nat → Nat} {f g : Nat → Nat} {pl : List Nat} (h : ∀ x, x ∈ pl → f x = g x) (R : List (Nat × Nat × Nat)) (v : Nat) : (readyR R pl v).all (holdR q f) = (readyR R pl v).all (holdR q g) := all_congr fun r hr => by
  obtain ⟨_, r2⟩ := List.mem_filter.1 hr
  obtain ⟨i1, i2, i3⟩ := inR_iff.1 (Bool.and_eq_true_iff.1 r2).2
  exact holdR_congr (h _ i1) (h _ i2) (h _ i3)
theorem paint_congr {n : Nat} {q : Nat → Nat → Nat} {R : List (Nat × Nat × Nat)} : ∀ (vs pl : List Nat) (f g : Nat → Nat), (∀ x, x ∈ pl → f x = g x) → paintN n q R pl vs f = paintN n q R pl vs g
  | [], _, _, _, _ => rfl
  | v :: vs, pl, f, g, h => by
    refine sumN_congr fun c _ => ?_
    have h2 : ∀ x, x ∈ pl ++ [v] → upd f v c x = upd g v c x := fun x hx => by
      unfold upd
      by_cases e : x = v
      · rw [if_pos e, if_pos e]
      · rw [if_neg e, if_neg e]
        rcases List.mem_append.1 hx with q1 | q1
        · exact h x q1
        · exact absurd (by simpa using q1) e
    rw [hold_congr h2, paint_congr vs (pl ++ [v]) _ _ h2]
theorem sumN_le {n B : Nat} {g : Nat → Nat} (h : ∀ c, c < n → g c ≤ B) : sumN n g ≤ n * B := by
  induction n with
  | zero => simp [sumN]
  | succ n ih =>
    have h1 := ih fun c hc => h c (by omega)
    have h2 := h n (by omega)
    have e : sumN (n + 1) g = sumN n g + g n := by simp [sumN]
    rw [e, Nat.succ_mul]
    omega
theorem paint_le {n : Nat} {q : Nat → Nat → Nat} {R : List (Nat × Nat × Nat)} : ∀ (vs pl : List Nat) (f : Nat → Nat), paintN n q R pl vs f ≤ n ^ vs.length
  | [], _, _ => by simp [paintN]
  | v :: vs, pl, f => by
    rw [List.length_cons, Nat.pow_succ, Nat.mul_comm]
    refine sumN_le fun c _ => ?_
    split
    · exact paint_le vs _ _
    · exact Nat.zero_le _
theorem pow_bound {n k : Nat} (hn : n ≤ 4) (hk : k ≤ 20) : n ^ k ≤ 1099511627776 := by
  have h1 : n ^ k ≤ 4 ^ k := Nat.pow_le_pow_left hn k
  have h2 : 4 ^ k ≤ 4 ^ 20 := Nat.pow_le_pow_right (by omega) hk
  have h3 : (4 : Nat) ^ 20 = 1099511627776 := by decide
  omega

set_option maxHeartbeats 4000000 in
set_option maxRecDepth 100000 in
theorem holds_any (n m : Nat) (q : Nat → Nat → Nat) (L : List (Nat × Nat × Nat)) (b off cq : Nat) (rb ro rc : Nat → Nat) (gC cC : Nat) (f : Nat → Nat) (al : Option Addr) (cl : Nat) (w : World) (hL : L.length ≤ 16) (hIn : ∀ r, r ∈ L → r.1 < m ∧ r.2.1 < m ∧ r.2.2 < m) (hf : ∀ i, i < m → f i < n)
    (hT : QT w w.heap.size b off n rb ro rc q) (hR : RdAt w w.heap.size 3 (.slice al L.length cl) L.length (ruCells L)) (hC : ∀ i, i < m → w.cell? ⟨gC, i, none⟩ = some (.int .i64 (f i : Nat))) (hgC : gC < w.heap.size) (ao : Option Addr) (no co : Nat) (ar : Option Addr) (nr cr : Nat) :
    Calls Try.prog 180 #[.agg #[.slice (some ⟨b, off, none⟩) n cq, .slice ao no co, .slice ar nr cr, .slice (some ⟨gC, 0, none⟩) m cC], .slice al L.length cl] w fun e w' => e = .returned (.bool (L.all (holdR q f))) ∧ Below w.heap.size w w' := by
  have HT : Hid (QT w w.heap.size b off n rb ro rc q) := hT
  have HR : Hid (RdAt w w.heap.size 3 (.slice al L.length cl) L.length (ruCells L)) := hR
  have HC : Hid (∀ i, i < m → w.cell? ⟨gC, i, none⟩ = some (.int .i64 (f i : Nat))) := hC
  have HIN : Hid (∀ r, r ∈ L → r.1 < m ∧ r.2.1 < m ∧ r.2.2 < m) := hIn
  have HF : Hid (∀ i, i < m → f i < n) := hf
  clear hT hR hC hIn hf
  go_enter Try.func180, Try.ntmps180
  obtain ⟨W0, hW0⟩ : ∃ W, W = w.alloc (.cells #[.slice (some ⟨b, off, none⟩) n cq, .slice ao no co, .slice ar nr cr, .slice (some ⟨gC, 0, none⟩) m cC] 166) := ⟨_, rfl⟩
  have HW0 : Hid (W0 = w.alloc (.cells #[.slice (some ⟨b, off, none⟩) n cq, .slice ao no co, .slice ar nr cr, .slice (some ⟨gC, 0, none⟩) m cC] 166)) := hW0
  have HB0 : Hid (W0.heap[w.heap.size]? = some (.cells #[.slice (some ⟨b, off, none⟩) n cq, .slice ao no co, .slice ar nr cr, .slice (some ⟨gC, 0, none⟩) m cC] 166 (0, 0)) ∧ Below w.heap.size w W0) := (by rw [hW0]; exact ⟨alloc_at rfl, (Below.refl _ _).alloc (Nat.le_refl _) _⟩ : W0.heap[w.heap.size]? = some (.cells #[.slice (some ⟨b, off, none⟩) n cq, .slice ao no co, .slice ar nr cr, .slice (some ⟨gC, 0, none⟩) m cC] 166 (0, 0)) ∧ Below w.heap.size w W0)
  clear hW0
  go_wp2
  rw [← HW0.out]
  clear HW0
  go_loopw [9] (fun v9 wr => ∃ i : Nat, i ≤ L.length ∧ v9 = .int .i64 (i : Nat) ∧ Hid ((L.take i).all (holdR q f) = true ∧ wr.heap[w.heap.size]? = some (.cells #[.slice (some ⟨b, off, none⟩) n cq, .slice ao no co, .slice ar nr cr, .slice (some ⟨gC, 0, none⟩) m cC] 166 (0, 0)) ∧ Below w.heap.size w wr)) (fun v9 _ => L.length - (intOf v9).toNat)
  case atStart => exact ⟨0, Nat.zero_le _, rfl, by simp, HB0.out.1, HB0.out.2⟩
  case round =>
    clear HB0
    rename World => W1
    obtain ⟨i, hin, rfl, hp⟩ := hrel
    by_cases hil : i < L.length
    · obtain ⟨br, fr, ea, hbr, f0, f1, f2⟩ : ∃ br fr, al = some ⟨br, fr, none⟩ ∧ br < w.heap.size ∧ w.cell? ⟨br, fr + i * 3, none⟩ = some (.int .i64 ((L.getD i (0, 0, 0)).1 : Nat)) ∧ w.cell? ⟨br, fr + i * 3 + 1, none⟩ = some (.int .i64 ((L.getD i (0, 0, 0)).2.1 : Nat)) ∧ w.cell? ⟨br, fr + i * 3 + 2, none⟩ = some (.int .i64 ((L.getD i (0, 0, 0)).2.2 : Nat)) := by
        obtain ⟨a', c', e', ff⟩ := HR.out
        injection e' with e1 e2 e3
        obtain ⟨br, fr, er, hbr, hc⟩ := ff (by omega)
        obtain ⟨g0, g1, g2⟩ := ruCells_get L i hil
        exact ⟨br, fr, e1.trans er, hbr, (hc _ (by omega)).trans g0, by rw [Nat.add_assoc]; exact (hc _ (by omega)).trans g1, by rw [Nat.add_assoc]; exact (hc _ (by omega)).trans g2⟩
      obtain ⟨hx, hy, hz⟩ := HIN.out _ (getD_memL L i (0, 0, 0) hil)
      have HTK : Hid (L.take (i + 1) = L.take i ++ [L.getD i (0, 0, 0)]) := (by
        rw [List.take_succ_eq_append_getElem hil, List.getD_eq_getElem?_getD, List.getElem?_eq_getElem hil]; rfl : L.take (i + 1) = L.take i ++ [L.getD i (0, 0, 0)])
      have HMM : Hid (L.getD i (0, 0, 0) ∈ L) := getD_memL L i (0, 0, 0) hil
      obtain ⟨x, y, z, exyz⟩ : ∃ x y z, L.getD i (0, 0, 0) = (x, y, z) := ⟨_, _, _, rfl⟩
      rw [exyz] at f0 f1 f2 hx hy hz HTK HMM
      clear exyz
      have hs1 := hp.out.2.2.size
      have d0 := bcell hp.out.2.2 hbr f0
      have d1 := bcell hp.out.2.2 hbr f1
      have d2 := bcell hp.out.2.2 hbr f2
      have hbrW : br < W1.heap.size := by omega
      obtain ⟨X0, hX0⟩ : ∃ X, X = W1.alloc (.cells #[.int .i64 (x : Nat), .int .i64 (y : Nat), .int .i64 (z : Nat)] 231) := ⟨_, rfl⟩
      have HX0 : Hid (X0 = W1.alloc (.cells #[.int .i64 (x : Nat), .int .i64 (y : Nat), .int .i64 (z : Nat)] 231)) := hX0
      have hbk : X0.heap[W1.heap.size]? = some (.cells #[.int .i64 (x : Nat), .int .i64 (y : Nat), .int .i64 (z : Nat)] 231 (0, 0)) := by rw [hX0]; exact alloc_at rfl
      have hbx : X0.heap[w.heap.size]? = some (.cells #[.slice (some ⟨b, off, none⟩) n cq, .slice ao no co, .slice ar nr cr, .slice (some ⟨gC, 0, none⟩) m cC] 166 (0, 0)) := by rw [hX0]; exact alloc_old hp.out.2.1
      have hbel : Below w.heap.size w X0 := by rw [hX0]; exact hp.out.2.2.alloc hs1 _
      have HNX : Hid (∀ k, (X0.drewN k).heap[w.heap.size]? = some (.cells #[.slice (some ⟨b, off, none⟩) n cq, .slice ao no co, .slice ar nr cr, .slice (some ⟨gC, 0, none⟩) m cC] 166 (0, 0)) ∧ Below w.heap.size w (X0.drewN k)) := fun k => ⟨((below_drewN (Below.refl X0.heap.size X0) k).block _ (blk_lt hbx)).trans hbx, below_drewN hbel k⟩
      have k0 : X0.cell? ⟨W1.heap.size, 0, none⟩ = some (.int .i64 (x : Nat)) := block_cell hbk rfl
      have k1 : X0.cell? ⟨W1.heap.size, 1, none⟩ = some (.int .i64 (y : Nat)) := block_cell hbk rfl
      have k2 : X0.cell? ⟨W1.heap.size, 2, none⟩ = some (.int .i64 (z : Nat)) := block_cell hbk rfl
      have j0 : X0.cell? ⟨w.heap.size, 0, none⟩ = some (.slice (some ⟨b, off, none⟩) n cq) := block_cell hbx rfl
      have j3 : X0.cell? ⟨w.heap.size, 3, none⟩ = some (.slice (some ⟨gC, 0, none⟩) m cC) := block_cell hbx rfl
      have c0 := bcell hbel hgC (HC.out x hx)
      have c1 := bcell hbel hgC (HC.out y hy)
      have c2 := bcell hbel hgC (HC.out z hz)
      have lx := HF.out x hx
      have ly := HF.out y hy
      obtain ⟨p1, hp1⟩ : ∃ p, f x = p := ⟨_, rfl⟩
      obtain ⟨p2, hp2⟩ : ∃ p, f y = p := ⟨_, rfl⟩
      obtain ⟨p3, hp3⟩ : ∃ p, f z = p := ⟨_, rfl⟩
      rw [hp1] at c0 lx
      rw [hp2] at c1 ly
      rw [hp3] at c2
      have hTX := HT.out.on hbel
      have t0 := hTX.row p1 lx
      have t1 := hTX.cell p1 p2 lx ly
      obtain ⟨p4, hp4⟩ : ∃ p, q p1 p2 = p := ⟨_, rfl⟩
      rw [hp4] at t1
      have HHO : Hid (holdR q f (x, y, z) = decide (p4 = p3)) := (by unfold holdR; rw [hp1, hp2, hp3, hp4] : holdR q f (x, y, z) = decide (p4 = p3))
      clear f0 f1 f2 hX0 hbk hbx hbel hTX hp1 hp2 hp3 hp4
      go_upto_region 4 with (fail)
      rw [← HX0.out]
      clear HX0 d0 d1 d2 hbrW ea
      by_cases he : p4 = p3
      · have hne : ((p4 : Int) != (p3 : Int)) = false := by simp [he]
        have HAL : Hid ((L.take (i + 1)).all (holdR q f) = true) := (by rw [HTK.out, List.all_append, hp.out.1, List.all_cons, HHO.out, decide_eq_true he]; rfl : (L.take (i + 1)).all (holdR q f) = true)
        clear he
        go_wp2
        go_quiet (fail)
        go_wp2
        go_roundw
        case rel => exact ⟨i + 1, by omega, by go_num, HAL.out, HNX.out _⟩
        case measure => simp only [intOf]; omega
      · have hne : ((p4 : Int) != (p3 : Int)) = true := by simp; omega
        have HAL : Hid (L.all (holdR q f) = false) := (by
          cases ha : L.all (holdR q f) with
          | false => rfl
          | true =>
            have := List.all_eq_true.1 ha _ HMM.out
            rw [HHO.out, decide_eq_false he] at this
            exact absurd this (by simp) : L.all (holdR q f) = false)
        clear he
        go_wp2
        go_quiet (fail)
        go_wp2
        go_ret
        exact ⟨by rw [HAL.out]; rfl, (HNX.out _).2⟩
    · obtain rfl : i = L.length := by omega
      go_wp2
      go_ret
      have h := hp.out.1
      rw [List.take_length] at h
      exact ⟨by rw [h]; rfl, hp.out.2.2⟩
end Go.Proofs.Ytnhllpaoplfgpaa
/- The walk of painting.ways. -/
namespace Go.Proofs.Ytnhllpaoplfgpaa
open Go.RowKit

/-- A painting as it is handed on, but for its colours, which stand in block gC. -/
structure PStat (B n m : Nat) (q : Nat → Nat → Nat) (R : List (Nat × Nat × Nat)) (os : List Nat) (vals : Nat → Value) (b off : Nat) (rb ro rc : Nat → Nat) (bo gR gC : Nat) (w : World) : Prop where
  tab : QT w B b off n rb ro rc q
  ord : ∀ i, i < m → w.cell? ⟨bo, i, none⟩ = some (.int .i64 (os.getD i 0 : Nat))
  bol : bo < B
  rdy : ∀ i, i < m → w.cell? ⟨gR, i, none⟩ = some (vals i)
  gRl : gR < B
  each : ∀ j, j < m → RdAt w B 3 (vals j) (rdL R os j).length (ruCells (rdL R os j))
  ne1 : b ≠ gC
  ne2 : ∀ i, i < n → rb i ≠ gC
  ne3 : bo ≠ gC
  ne4 : gR ≠ gC
  ne5 : ∀ j g, j < m → (vals j).ownBlock = some g → g ≠ gC
  gCl : gC < B
  sz : B ≤ w.heap.size
theorem grown_cell {w w' : World} {g k i : Nat} {v : Value} (hg : w.grownBy w' (some g)) (hk : k ≠ g) (hl : k < w.heap.size) (h : w.cell? ⟨k, i, none⟩ = some v) : w'.cell? ⟨k, i, none⟩ = some v := by
  have e := hg.block k hl (fun e => hk (Option.some.inj e))
  unfold World.cell? at h ⊢
  simp only [e]
  exact h
theorem PStat.kept {B n m : Nat} {q : Nat → Nat → Nat} {R : List (Nat × Nat × Nat)} {os : List Nat} {vals : Nat → Value} {b off : Nat} {rb ro rc : Nat → Nat} {bo gR gC : Nat} {w w' : World} (h : PStat B n m q R os vals b off rb ro rc bo gR gC w) (hg : w.grownBy w' (some gC)) : PStat B n m q R os vals b off rb ro rc bo gR gC w' := by
  have hl : ∀ k, k < B → k < w.heap.size := fun k hk => Nat.lt_of_lt_of_le hk h.sz
  refine ⟨⟨h.tab.lt, h.tab.rlt, fun i hi => grown_cell hg h.ne1 (hl _ h.tab.lt) (h.tab.row i hi), fun i j hi hj => grown_cell hg (h.ne2 i hi) (hl _ (h.tab.rlt i hi)) (h.tab.cell i j hi hj)⟩, fun i hi => grown_cell hg h.ne3 (hl _ h.bol) (h.ord i hi), h.bol, fun i hi => grown_cell hg h.ne4 (hl _ h.gRl) (h.rdy i hi), h.gRl, fun j hj => ?_, h.ne1, h.ne2, h.ne3, h.ne4, h.ne5, h.gCl, Nat.le_trans h.sz hg.size⟩
  obtain ⟨a, c, e, f⟩ := h.each j hj
  refine ⟨a, c, e, fun h0 => ?_⟩
  obtain ⟨b1, o1, rfl, hlt, hc⟩ := f h0
  refine ⟨b1, o1, rfl, hlt, fun i hi => ?_⟩
  have := hc i hi
  obtain ⟨v, hv⟩ : ∃ v, (ruCells (rdL R os j))[i]? = some v := by
    rw [List.getElem?_eq_getElem (by rw [ruCells_len]; exact hi)]
    exact ⟨_, rfl⟩
  rw [hv] at this ⊢
  exact grown_cell hg (h.ne5 j b1 hj (by rw [e]; rfl)) (hl _ hlt) this
/-- The colours. -/
def ColAt (m gC : Nat) (f : Nat → Nat) (w : World) : Prop := w.ownsRow 0 3 1 (.slice (some ⟨gC, 0, none⟩) m m) m (nats ((List.range m).map f))
theorem ColAt.cell {m gC : Nat} {f : Nat → Nat} {w : World} (h : ColAt m gC f w) (i : Nat) (hi : i < m) : w.cell? ⟨gC, i, none⟩ = some (.int .i64 (f i : Nat)) := by
  rw [World.ownsRow.cellAt h i (by omega), nats_get _ i (by simp; exact hi)]
  simp [List.getD_eq_getElem?_getD, hi]
theorem ColAt.set {m gC : Nat} {f : Nat → Nat} {w : World} (h : ColAt m gC f w) (v c : Nat) : ColAt m gC (upd f v c) (w.setCell ⟨gC, v, none⟩ (.int .i64 (c : Nat))) ∧ w.grownBy (w.setCell ⟨gC, v, none⟩ (.int .i64 (c : Nat))) (some gC) := by
  have hst := World.ownsRow.stored h v (.int .i64 (c : Nat))
  refine ⟨?_, hst.2⟩
  rw [nats_set] at hst
  have e : ((List.range m).map f).set v c = (List.range m).map (upd f v c) := by
    apply List.ext_getElem?
    intro j
    rw [List.getElem?_set]
    by_cases hj : j < m
    · by_cases e : v = j
      · subst e; simp [hj, upd]
      · rw [if_neg e]
        have : ¬ j = v := fun q => e q.symm
        simp [hj, upd, this]
    · have : ¬ v = j ∨ ¬ j < m := Or.inr hj
      by_cases e : v = j
      · rw [if_pos e, if_neg (by simp; omega), List.getElem?_eq_none (by simp; omega)]
      · rw [if_neg e, List.getElem?_eq_none (by simp; omega), List.getElem?_eq_none (by simp; omega)]
  rw [e] at hst
  exact hst.1
/-- What ways answers. -/
def WaysOut (m gC : Nat) (pl : List Nat) (f : Nat → Nat) (n : Nat) (r : Nat) (W : World) (e : Ending) (w' : World) : Prop := ∃ f', e = .returned (.int .i64 (r : Nat)) ∧ ColAt m gC f' w' ∧ (∀ x, x ∈ pl → f' x = f x) ∧ (∀ i, i < m → f' i < n) ∧ W.grownBy w' (some gC)

set_option maxHeartbeats 8000000 in
set_option maxRecDepth 100000 in
theorem ways_any (B n m : Nat) (q : Nat → Nat → Nat) (R : List (Nat × Nat × Nat)) (os : List Nat) (vals : Nat → Value) (b off cq : Nat) (rb ro rc : Nat → Nat) (bo co gR gC : Nat) (hn1 : 1 ≤ n) (hn : n ≤ 4) (hm : m ≤ 20) (hR : R.length ≤ 16) (hIn : ∀ r, r ∈ R → r.1 < m ∧ r.2.1 < m ∧ r.2.2 < m) (hos : ∀ x, x ∈ os → x < m) (hl : os.length = m) (hnd : os.Nodup) :
    ∀ (vs pl : List Nat) (f : Nat → Nat) (W : World), os = pl ++ vs → (∀ i, i < m → f i < n) → PStat B n m q R os vals b off rb ro rc bo gR gC W → ColAt m gC f W →
    Calls Try.prog 131 #[.agg #[.slice (some ⟨b, off, none⟩) n cq, .slice (some ⟨bo, 0, none⟩) m co, .slice (some ⟨gR, 0, none⟩) m m, .slice (some ⟨gC, 0, none⟩) m m], .int .i64 (pl.length : Nat)] W (WaysOut m gC pl f n (paintN n q R pl vs f) W) := by
  intro vs
  induction vs with
  | nil =>
    intro pl f W he hf hP hC
    have hpl : pl.length = m := by rw [← hl, he, List.append_nil]
    have HC : Hid (ColAt m gC f W) := hC
    have HF : Hid (∀ i, i < m → f i < n) := hf
    have HG : Hid (W.grownBy (W.alloc (.cells #[.slice (some ⟨b, off, none⟩) n cq, .slice (some ⟨bo, 0, none⟩) m co, .slice (some ⟨gR, 0, none⟩) m m, .slice (some ⟨gC, 0, none⟩) m m] 166)) (some gC)) := World.grownBy_alloc _ _ _
    rw [hpl]
    clear hC hf hP
    go_enter Try.func131, Try.ntmps131
    go_wp2
    go_ret
    exact ⟨f, rfl, own_any HC.out (World.grownBy_alloc _ _ none), fun _ _ => rfl, HF.out, HG.out⟩
  | cons v vs ih =>
    intro pl f W he hf hP hC
    have hpl : pl.length < m := by rw [← hl, he]; simp
    obtain ⟨p, hp⟩ : ∃ p, pl.length = p := ⟨_, rfl⟩
    have HC : Hid (ColAt m gC f W) := hC
    have HF : Hid (∀ i, i < m → f i < n) := hf
    have HHP : Hid (pl.length = p) := hp
    have HHE : Hid (os = pl ++ v :: vs) := he
    have HV : Hid (os.getD p 0 = v ∧ rdL R os p = readyR R (pl ++ [v]) v) := (by
      have e1 : os.getD p 0 = v := by rw [he, ← hp, List.getD_eq_getElem?_getD, List.getElem?_append_right (Nat.le_refl _), Nat.sub_self]; rfl
      refine ⟨e1, ?_⟩
      unfold rdL
      rw [e1]
      congr 1
      rw [he, show pl ++ v :: vs = (pl ++ [v]) ++ vs by simp, List.take_append_of_le_length (by rw [List.length_append]; simp; omega), List.take_of_length_le (by rw [List.length_append]; simp; omega)] : os.getD p 0 = v ∧ rdL R os p = readyR R (pl ++ [v]) v)
    have hvm : v < m := hos v (by rw [he]; simp)
    have HVP : Hid (v ∉ pl) := fun hv => by
      rw [he] at hnd
      exact (List.nodup_append.1 hnd).2.2 v hv v (List.Mem.head _) rfl
    have HIH : Hid (∀ (f : Nat → Nat) (W : World), (∀ i, i < m → f i < n) → PStat B n m q R os vals b off rb ro rc bo gR gC W → ColAt m gC f W →
      Calls Try.prog 131 #[.agg #[.slice (some ⟨b, off, none⟩) n cq, .slice (some ⟨bo, 0, none⟩) m co, .slice (some ⟨gR, 0, none⟩) m m, .slice (some ⟨gC, 0, none⟩) m m], .int .i64 ((p + 1 : Nat) : Nat)] W (WaysOut m gC (pl ++ [v]) f n (paintN n q R (pl ++ [v]) vs f) W)) := fun f W h1 h2 h3 => by
      have := ih (pl ++ [v]) f W (by rw [he]; simp) h1 h2 h3
      rw [show (pl ++ [v]).length = p + 1 by rw [List.length_append, hp]; rfl] at this
      exact this
    have HIN : Hid (∀ r, r ∈ R → r.1 < m ∧ r.2.1 < m ∧ r.2.2 < m) := hIn
    have HVL : Hid (vs.length ≤ 19) := (by
      have : os.length = pl.length + (vs.length + 1) := by rw [he, List.length_append]; rfl
      omega : vs.length ≤ 19)
    obtain ⟨X0, hX0⟩ : ∃ X, X = W.alloc (.cells #[.slice (some ⟨b, off, none⟩) n cq, .slice (some ⟨bo, 0, none⟩) m co, .slice (some ⟨gR, 0, none⟩) m m, .slice (some ⟨gC, 0, none⟩) m m] 166) := ⟨_, rfl⟩
    have HX0 : Hid (X0 = W.alloc (.cells #[.slice (some ⟨b, off, none⟩) n cq, .slice (some ⟨bo, 0, none⟩) m co, .slice (some ⟨gR, 0, none⟩) m m, .slice (some ⟨gC, 0, none⟩) m m] 166)) := hX0
    have hg0 : W.grownBy X0 none := by rw [hX0]; exact World.grownBy_alloc _ _ none
    have HG0 : Hid (W.grownBy X0 (some gC)) := (by rw [hX0]; exact World.grownBy_alloc _ _ _ : W.grownBy X0 (some gC))
    have HBX : Hid (X0.heap[W.heap.size]? = some (.cells #[.slice (some ⟨b, off, none⟩) n cq, .slice (some ⟨bo, 0, none⟩) m co, .slice (some ⟨gR, 0, none⟩) m m, .slice (some ⟨gC, 0, none⟩) m m] 166 (0, 0))) := (by rw [hX0]; exact alloc_at rfl : X0.heap[W.heap.size]? = some (.cells #[.slice (some ⟨b, off, none⟩) n cq, .slice (some ⟨bo, 0, none⟩) m co, .slice (some ⟨gR, 0, none⟩) m m, .slice (some ⟨gC, 0, none⟩) m m] 166 (0, 0)))
    have HPX : Hid (PStat B n m q R os vals b off rb ro rc bo gR gC X0) := hP.kept HG0.out
    have HCX : Hid (ColAt m gC f X0) := own_any hC hg0
    have hgCW : gC < W.heap.size := Nat.lt_of_lt_of_le hP.gCl hP.sz
    have hzz : ((p : Int) == (m : Int)) = false := by simp; omega
    have hpz : (p == m) = false := by simp; omega
    obtain ⟨G, hG⟩ : ∃ G : Nat → Nat, G = fun c => if (readyR R (pl ++ [v]) v).all (holdR q (upd f v c)) = true then paintN n q R (pl ++ [v]) vs (upd f v c) else 0 := ⟨_, rfl⟩
    have HG : Hid (G = fun c => if (readyR R (pl ++ [v]) v).all (holdR q (upd f v c)) = true then paintN n q R (pl ++ [v]) vs (upd f v c) else 0) := hG
    have HGB : Hid (∀ c, G c ≤ 274877906944) := fun c => by
      rw [hG]
      show (if _ then _ else 0) ≤ _
      split
      · have h1 := paint_le (q := q) (R := R) vs (pl ++ [v]) (upd f v c) (n := n)
        have h2 : n ^ vs.length ≤ 4 ^ vs.length := Nat.pow_le_pow_left hn _
        have h3 : 4 ^ vs.length ≤ 4 ^ 19 := Nat.pow_le_pow_right (by omega) HVL.out
        have h4 : (4 : Nat) ^ 19 = 274877906944 := by decide
        omega
      · omega
    have HPN : Hid (paintN n q R pl (v :: vs) f = sumN n G) := (by rw [hG]; rfl : paintN n q R pl (v :: vs) f = sumN n G)
    rw [HPN.out]
    rw [hp] at hpl ⊢
    clear hC hf hP hX0 hg0 hG hp he ih hnd hl hos hIn HC
    go_enter Try.func131, Try.ntmps131
    go_wp2
    rw [← HX0.out]
    clear HX0
    go_loopw [5, 15] (fun v5 v15 wr => ∃ (c s : Nat) (f' : Nat → Nat), c ≤ n ∧ v15 = .int .i64 (c : Nat) ∧ v5 = .int .i64 (s : Nat) ∧ Hid (s = sumN c G ∧ ColAt m gC f' wr ∧ (∀ x, x ∈ pl → f' x = f x) ∧ (∀ i, i < m → f' i < n) ∧ X0.grownBy wr (some gC))) (fun _ v15 _ => n - (intOf v15).toNat)
    case atStart => exact ⟨0, 0, f, Nat.zero_le _, rfl, rfl, rfl, HCX.out, fun _ _ => rfl, HF.out, World.grownBy.refl _ _⟩
    case round =>
      clear HCX
      rename World => W1
      obtain ⟨c, s, f', hcn, rfl, rfl, hp⟩ := hrel
      by_cases hcl : c < n
      · have hg1 := hp.out.2.2.2.2
        have HP1 : Hid (PStat B n m q R os vals b off rb ro rc bo gR gC W1) := HPX.out.kept hg1
        have hlX := blk_lt HBX.out
        have HB1 : Hid (W1.heap[W.heap.size]? = some (.cells #[.slice (some ⟨b, off, none⟩) n cq, .slice (some ⟨bo, 0, none⟩) m co, .slice (some ⟨gR, 0, none⟩) m m, .slice (some ⟨gC, 0, none⟩) m m] 166 (0, 0))) := (hg1.block _ hlX (fun e => by have := Option.some.inj e; omega)).trans HBX.out
        have j0 : W1.cell? ⟨W.heap.size, 0, none⟩ = some (.slice (some ⟨b, off, none⟩) n cq) := block_cell HB1.out rfl
        have j1 : W1.cell? ⟨W.heap.size, 1, none⟩ = some (.slice (some ⟨bo, 0, none⟩) m co) := block_cell HB1.out rfl
        have j2 : W1.cell? ⟨W.heap.size, 2, none⟩ = some (.slice (some ⟨gR, 0, none⟩) m m) := block_cell HB1.out rfl
        have j3 : W1.cell? ⟨W.heap.size, 3, none⟩ = some (.slice (some ⟨gC, 0, none⟩) m m) := block_cell HB1.out rfl
        have o0 : W1.cell? ⟨bo, p, none⟩ = some (.int .i64 (v : Nat)) := by rw [HP1.out.ord p hpl, HV.out.1]
        have x0 := hp.out.2.1.cell v hvm
        have z0 : W1.frozen? ⟨gC, v, none⟩ = false := World.ownsRow.frozenAt hp.out.2.1 v
        have hgC1 : gC < W1.heap.size := Nat.lt_of_lt_of_le HP1.out.gCl HP1.out.sz
        have HSE := hp.out.2.1.set v c
        have HSS : Hid (∀ W', W1.grownBy W' (some gC) → W'.cell? ⟨W.heap.size, 3, none⟩ = some (.slice (some ⟨gC, 0, none⟩) m m) ∧ W'.cell? ⟨W.heap.size, 1, none⟩ = some (.slice (some ⟨bo, 0, none⟩) m co) ∧ W'.cell? ⟨bo, p, none⟩ = some (.int .i64 (v : Nat))) := fun W' hg => ⟨grown_cell hg (by omega) (by have := hg1.size; omega) j3, grown_cell hg (by omega) (by have := hg1.size; omega) j1, grown_cell hg HP1.out.ne3 (Nat.lt_of_lt_of_le HP1.out.bol HP1.out.sz) o0⟩
        have HS1 : Hid (W1.grownBy W1.drew (some gC)) := grown_below (below_drewN (Below.refl _ _) 1) _
        have HS2 : Hid (W1.grownBy (W1.setCell ⟨gC, v, none⟩ (.int .i64 (c : Nat))).drew (some gC)) := grown_trans (set_grown _ _ _ _) (grown_below (below_drewN (Below.refl _ _) 1) _)
        have hpi : (p : Int) < (m : Int) := by omega
        have hvi : (v : Int) < (m : Int) := by omega
        go_upto_region 8 with (fail)
        go_region_held3 (fun w' => w'.cell? ⟨W.heap.size, 3, none⟩ = some (.slice (some ⟨gC, 0, none⟩) m m) ∧ w'.cell? ⟨W.heap.size, 1, none⟩ = some (.slice (some ⟨bo, 0, none⟩) m co) ∧ w'.cell? ⟨bo, p, none⟩ = some (.int .i64 (v : Nat))) (first | exact HSS.out _ HS1.out | exact HSS.out _ HS2.out | (trace_state; fail)) (fail)
        obtain ⟨X2, hX2⟩ : ∃ X, X = (W1.setCell ⟨gC, v, none⟩ (.int .i64 (c : Nat))).drew := ⟨_, rfl⟩
        rw [← hX2]
        rw [← hX2] at HS2
        have HC2 : Hid (ColAt m gC (upd f' v c) X2) := (by rw [hX2]; exact own_drew HSE.1 : ColAt m gC (upd f' v c) X2)
        have HP2 : Hid (PStat B n m q R os vals b off rb ro rc bo gR gC X2) := HP1.out.kept HS2.out
        have HB2 : Hid (X2.heap[W.heap.size]? = some (.cells #[.slice (some ⟨b, off, none⟩) n cq, .slice (some ⟨bo, 0, none⟩) m co, .slice (some ⟨gR, 0, none⟩) m m, .slice (some ⟨gC, 0, none⟩) m m] 166 (0, 0))) := (HS2.out.block _ (blk_lt HB1.out) (fun e => by have := Option.some.inj e; omega)).trans HB1.out
        have HG2 : Hid (X0.grownBy X2 (some gC)) := grown_trans hg1 HS2.out
        have HU : Hid ((∀ x, x ∈ pl → upd f' v c x = f x) ∧ (∀ x, x ∈ pl ++ [v] → upd f' v c x = upd f v c x) ∧ ∀ i, i < m → upd f' v c i < n) := (by
          have h1 : ∀ x, x ∈ pl → upd f' v c x = f x := fun x hx => by rw [upd_ne _ _ _ _ (fun e => HVP.out (by rw [← e]; exact hx))]; exact hp.out.2.2.1 x hx
          refine ⟨h1, fun x hx => ?_, fun i hi => ?_⟩
          · by_cases e : x = v
            · rw [e, upd_same, upd_same]
            · rw [upd_ne _ _ _ _ e, upd_ne _ _ _ _ e]
              rcases List.mem_append.1 hx with q1 | q1
              · exact hp.out.2.2.1 x q1
              · exact absurd (by simpa using q1) e
          · by_cases e : i = v
            · rw [e, upd_same]; exact hcl
            · rw [upd_ne _ _ _ _ e]; exact hp.out.2.2.2.1 i hi : (∀ x, x ∈ pl → upd f' v c x = f x) ∧ (∀ x, x ∈ pl ++ [v] → upd f' v c x = upd f v c x) ∧ ∀ i, i < m → upd f' v c i < n)
        have HSM : Hid (s = sumN c G) := hp.out.1
        obtain ⟨al, cl, ev⟩ : ∃ al cl, vals p = .slice al (rdL R os p).length cl := by obtain ⟨a', c', e', -⟩ := HP2.out.each p hpl; exact ⟨a', c', e'⟩
        have hrd := HP2.out.each p hpl
        rw [ev, HV.out.2] at hrd
        rw [HV.out.2] at ev
        obtain ⟨L, hL⟩ : ∃ L, readyR R (pl ++ [v]) v = L := ⟨_, rfl⟩
        have hLl : L.length ≤ 16 := by
          rw [← hL]
          have := List.length_filter_le (fun r => hasR v r && inR (pl ++ [v]) r) R
          have e : (readyR R (pl ++ [v]) v).length = (R.filter fun r => hasR v r && inR (pl ++ [v]) r).length := rfl
          omega
        have HLI : Hid (∀ r, r ∈ L → r.1 < m ∧ r.2.1 < m ∧ r.2.2 < m) := fun r hr => by
          rw [← hL] at hr
          exact HIN.out r (List.mem_filter.1 hr).1
        obtain ⟨hb, hhb⟩ : ∃ hb, L.all (holdR q (upd f v c)) = hb := ⟨_, rfl⟩
        have HHB : Hid (L.all (holdR q (upd f' v c)) = hb) := (by rw [← hhb, ← hL]; exact hold_congr HU.out.2.1 R v : L.all (holdR q (upd f' v c)) = hb)
        have HGC : Hid (G c = if hb = true then paintN n q R (pl ++ [v]) vs (upd f v c) else 0) := (by rw [HG.out]; show (if _ then _ else 0) = _; rw [hL, hhb] : G c = if hb = true then paintN n q R (pl ++ [v]) vs (upd f v c) else 0)
        rw [hL] at hrd ev
        have HRD : Hid (RdAt X2 B 3 (.slice al L.length cl) L.length (ruCells L)) := hrd
        have HHO : Hid (∀ W', Below X2.heap.size X2 W' → Calls Try.prog 180 #[.agg #[.slice (some ⟨b, off, none⟩) n cq, .slice (some ⟨bo, 0, none⟩) m co, .slice (some ⟨gR, 0, none⟩) m m, .slice (some ⟨gC, 0, none⟩) m m], .slice al L.length cl] W' fun e w' => e = .returned (.bool hb) ∧ Below W'.heap.size W' w') := fun W' hW => by
          have h := holds_any n m q L b off cq rb ro rc gC m (upd f' v c) al cl W' hLl HLI.out HU.out.2.2 ((HP2.out.tab.mono HP2.out.sz).up hW) (((HRD.out.mono HP2.out.sz).on hW).mono hW.size) (fun i hi => bcell hW (Nat.lt_of_lt_of_le HP2.out.gCl HP2.out.sz) (HC2.out.cell i hi)) (Nat.lt_of_lt_of_le (Nat.lt_of_lt_of_le HP2.out.gCl HP2.out.sz) hW.size) (some ⟨bo, 0, none⟩) m co (some ⟨gR, 0, none⟩) m m
          rw [HHB.out] at h
          exact h
        have j0 : X2.cell? ⟨W.heap.size, 0, none⟩ = some (.slice (some ⟨b, off, none⟩) n cq) := block_cell HB2.out rfl
        have j1 : X2.cell? ⟨W.heap.size, 1, none⟩ = some (.slice (some ⟨bo, 0, none⟩) m co) := block_cell HB2.out rfl
        have j2 : X2.cell? ⟨W.heap.size, 2, none⟩ = some (.slice (some ⟨gR, 0, none⟩) m m) := block_cell HB2.out rfl
        have j3 : X2.cell? ⟨W.heap.size, 3, none⟩ = some (.slice (some ⟨gC, 0, none⟩) m m) := block_cell HB2.out rfl
        have o0 : X2.cell? ⟨gR, p, none⟩ = some (.slice al L.length cl) := by rw [HP2.out.rdy p hpl, ev]
        have hWX : W.heap.size < X2.heap.size := blk_lt HB2.out
        have hRX : gR < X2.heap.size := Nat.lt_of_lt_of_le HP2.out.gRl HP2.out.sz
        clear hX2 ev hrd hL hhb x0 z0 HSE HSS HS1 HS2 hp HP1 HB1 hg1 hlX hgC1
        have HSS : Hid (∀ W', Below X2.heap.size X2 W' → W'.cell? ⟨W.heap.size, 0, none⟩ = some (.slice (some ⟨b, off, none⟩) n cq) ∧ W'.cell? ⟨W.heap.size, 1, none⟩ = some (.slice (some ⟨bo, 0, none⟩) m co) ∧ W'.cell? ⟨W.heap.size, 2, none⟩ = some (.slice (some ⟨gR, 0, none⟩) m m) ∧ W'.cell? ⟨W.heap.size, 3, none⟩ = some (.slice (some ⟨gC, 0, none⟩) m m) ∧ W'.cell? ⟨gR, p, none⟩ = some (.slice al L.length cl)) := fun W' hW => ⟨bcell hW hWX j0, bcell hW hWX j1, bcell hW hWX j2, bcell hW hWX j3, bcell hW hRX o0⟩
        have HD0 : Hid (Below X2.heap.size X2 X2.drew) := below_drewN (Below.refl _ _) 1
        clear j0 j1 j2 j3 o0
        go_upto_region 9 with (fail)
        go_region_held3 (fun w' => w'.cell? ⟨W.heap.size, 0, none⟩ = some (.slice (some ⟨b, off, none⟩) n cq) ∧ w'.cell? ⟨W.heap.size, 1, none⟩ = some (.slice (some ⟨bo, 0, none⟩) m co) ∧ w'.cell? ⟨W.heap.size, 2, none⟩ = some (.slice (some ⟨gR, 0, none⟩) m m) ∧ w'.cell? ⟨W.heap.size, 3, none⟩ = some (.slice (some ⟨gC, 0, none⟩) m m) ∧ w'.cell? ⟨gR, p, none⟩ = some (.slice al L.length cl)) (first | exact HSS.out _ HD0.out | exact HSS.out _ H5.out) (first
          | (go_at_call 180; refine (HHO.out _ HD0.out).mono ?_; rintro e9 w5 ⟨rfl, hb5⟩
             have H5 : Hid (Below X2.heap.size X2 w5) := HD0.out.trans (hb5.mono HD0.out.size)
             clear hb5))
        obtain ⟨j0, j1, j2, j3, o0⟩ := HSS.out _ H5.out
        have HG5 : Hid (X2.grownBy w5 (some gC)) := grown_below H5.out _
        have HP5 : Hid (PStat B n m q R os vals b off rb ro rc bo gR gC w5) := HP2.out.kept HG5.out
        have HC5 : Hid (ColAt m gC (upd f' v c) w5) := own_any HC2.out (grown_below H5.out none)
        have hW5 : W.heap.size < w5.heap.size := Nat.lt_of_lt_of_le hWX H5.out.size
        have hss : s ≤ 1099511627776 := by
          rw [HSM.out]
          exact Nat.le_trans (sumN_le (n := c) (g := G) fun x _ => HGB.out x) (Nat.le_trans (Nat.mul_le_mul_right _ (by omega : c ≤ 4)) (by decide))
        have HNS : Hid (sumN (c + 1) G = s + G c) := (by rw [HSM.out]; simp [sumN] : sumN (c + 1) G = s + G c)
        cases hb with
        | false =>
          have HN2 : Hid (sumN (c + 1) G = s) := (by rw [HNS.out, HGC.out]; rfl : sumN (c + 1) G = s)
          go_wp2
          go_roundw
          case rel => exact ⟨c + 1, s, upd f' v c, by omega, by go_num, rfl, HN2.out.symm, HC5.out, HU.out.1, HU.out.2.2, grown_trans HG2.out HG5.out⟩
          case measure => simp only [intOf]; omega
        | true =>
          have HN2 : Hid (sumN (c + 1) G = s + paintN n q R (pl ++ [v]) vs (upd f' v c)) := (by rw [HNS.out, HGC.out, if_pos rfl, paint_congr vs (pl ++ [v]) _ _ HU.out.2.1] : sumN (c + 1) G = s + paintN n q R (pl ++ [v]) vs (upd f' v c))
          have hrb : paintN n q R (pl ++ [v]) vs (upd f' v c) ≤ 274877906944 := by
            have e : paintN n q R (pl ++ [v]) vs (upd f' v c) = G c := Nat.add_left_cancel (HN2.out.symm.trans HNS.out)
            rw [e]
            exact HGB.out c
          obtain ⟨rr, hrr⟩ : ∃ r, paintN n q R (pl ++ [v]) vs (upd f' v c) = r := ⟨_, rfl⟩
          have HWY : Hid (∀ W', Below w5.heap.size w5 W' → Calls Try.prog 131 #[.agg #[.slice (some ⟨b, off, none⟩) n cq, .slice (some ⟨bo, 0, none⟩) m co, .slice (some ⟨gR, 0, none⟩) m m, .slice (some ⟨gC, 0, none⟩) m m], .int .i64 ((p : Int) + 1)] W' (WaysOut m gC (pl ++ [v]) (upd f' v c) n rr W')) := fun W' hW => by
            have := HIH.out (upd f' v c) W' HU.out.2.2 (HP5.out.kept (grown_below hW _)) (own_any HC5.out (grown_below hW none))
            rw [hrr] at this
            exact this
          rw [hrr] at HN2 hrb
          clear hrr
          have ew : IntKind.i64.wrap ((s : Int) + (rr : Int)) = (s : Int) + (rr : Int) := IntWalk.i64_in _ (by omega)
          have HRF : Hid (Below w5.heap.size w5 w5) := Below.refl _ _
          go_wp2_with (go_at_call 131; refine (HWY.out _ HRF.out).mono ?_; rintro e9 w6 ⟨f6, rfl, hc6, hf6, hl6, hg6⟩; refine Hid.out ?_)
          refine Lib.hid ?_
          have HFN : Hid (ColAt m gC f6 w6 ∧ (∀ x, x ∈ pl → f6 x = f x) ∧ (∀ i, i < m → f6 i < n) ∧ X0.grownBy w6 (some gC)) := ⟨hc6, fun x hx => (hf6 x (List.mem_append_left _ hx)).trans (HU.out.1 x hx), hl6, grown_trans (grown_trans HG2.out HG5.out) hg6⟩
          clear hc6 hf6 hl6 hg6 j0 j1 j2 j3 o0
          go_wp2
          go_roundw
          case rel => exact ⟨c + 1, s + rr, f6, by omega, by go_num, by go_num, HN2.out.symm, HFN.out⟩
          case measure => simp only [intOf]; omega
      · obtain rfl : c = n := by omega
        go_wp2
        go_ret
        obtain ⟨e1, h2, h3, h4, h5⟩ := hp.out
        exact ⟨f', by rw [← e1]; rfl, h2, h3, h4, grown_trans HG0.out h5⟩
end Go.Proofs.Ytnhllpaoplfgpaa

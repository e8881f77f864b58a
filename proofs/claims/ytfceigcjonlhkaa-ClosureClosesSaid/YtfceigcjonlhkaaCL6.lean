/- Braids closed: the walk of ref.CloseOf. -/
import Derived.Test.YtfceigcjonlhkaaCL5
import Derived.Test.YtfceigcjonlhkaaTbl
import Derived.Deep.LoopGhost
import Derived.Deep.RegionLaw
import Derived.Deep.RegionHeldLaw
import Derived.Deep.AppendLies
namespace Go.Proofs.Ytfceigcjonlhkaa
open Go.RowKit

/-- The last crossing of a walk, and its strand, as ref.CloseOf keeps them. -/
def lkW (W : List (Nat × Nat)) : Int := if W.length = 0 then -1 else ((lastP W).1 : Int)
def lsW (W : List (Nat × Nat)) : Int := if W.length = 0 then 0 else ((lastP W).2 : Int)
theorem lastP_app (W : List (Nat × Nat)) (q : Nat × Nat) : lastP (W ++ [q]) = q := by
  unfold lastP
  rw [List.length_append, List.length_singleton, Nat.add_sub_cancel, List.getD_eq_getElem?_getD, List.getElem?_append_right (Nat.le_refl _), Nat.sub_self]
  rfl
theorem lkW_app (W : List (Nat × Nat)) (q : Nat × Nat) : lkW (W ++ [q]) = (q.1 : Int) ∧ lsW (W ++ [q]) = (q.2 : Int) := by
  unfold lkW lsW
  rw [lastP_app, if_neg (by simp), if_neg (by simp)]
  exact ⟨rfl, rfl⟩
/-- Flags as cells. -/
def flL (n : Nat) (D : Nat → Bool) : List Value := bools ((List.range n).map D)
theorem flL_get (n : Nat) (D : Nat → Bool) (i : Nat) (h : i < n) : (flL n D)[i]? = some (.bool (D i)) := by simp [flL, bools, h]
theorem flL_set (n : Nat) (D : Nat → Bool) (i : Nat) (h : i < n) : (flL n D).set i (.bool true) = flL n (upB D i) := by
  unfold flL
  rw [bools_set]
  congr 1
  apply List.ext_getElem?
  intro j
  rw [List.getElem?_set]
  by_cases e : i = j
  · subst e; simp [upB, h]
  · rw [if_neg e]
    by_cases hj : j < n
    · simp [upB, hj, Ne.symm e]
    · rw [List.getElem?_eq_none (by simp; omega), List.getElem?_eq_none (by simp; omega)]
theorem flL_zero (n : Nat) : bools (List.replicate n false) = flL n (fun _ => false) := by
  unfold flL
  congr 1
  apply List.ext_getElem?
  intro j
  by_cases hj : j < n <;> simp [hj]
/-- A link under way, as ref.CloseOf lays it. -/
structure CoAt (w : World) (n m gt : Nat) (gs : Nat → Nat) (gd : Nat) (G : Nat → Int) (D : Nat → Bool) (lo : Nat) (W : World) : Prop where
  b0 : W.heap[w.heap.size]? = some (.cells #[.slice none 0 0, .int .i64 0] 24 (0, 0))
  b1 : W.heap[w.heap.size + 1]? = some (.cells #[.slice none 0 0, .int .i64 (lo : Nat)] 24 (0, 0))
  tb : Tb (w.heap.size + 2) gt m 4 gs m (fun i j => G (4 * i + j)) W
  dn : W.ownsRow (w.heap.size + 2) 4 1 (.slice (some ⟨gd, 0, none⟩) (n + 1) (n + 1)) (n + 1) (flL (n + 1) D)
  bel : Below w.heap.size w W
theorem CoAt.any {w : World} {n m gt : Nat} {gs : Nat → Nat} {gd : Nat} {G : Nat → Int} {D : Nat → Bool} {lo : Nat} {W W' : World} (h : CoAt w n m gt gs gd G D lo W) (hg : W.grownBy W' none) : CoAt w n m gt gs gd G D lo W' :=
  ⟨(hg.block _ (Array.getElem?_eq_some_iff.1 h.b0).1 (by simp)).trans h.b0, (hg.block _ (Array.getElem?_eq_some_iff.1 h.b1).1 (by simp)).trans h.b1, h.tb.any hg, own_any h.dn hg, h.bel.grown hg h.bel.size (fun q hq => by cases hq)⟩
theorem CoAt.setT {w : World} {n m gt : Nat} {gs : Nat → Nat} {gd : Nat} {G : Nat → Int} {D : Nat → Bool} {lo : Nat} {W : World} (h : CoAt w n m gt gs gd G D lo W) (k j : Nat) (x : Int) (hk : k < m) (hj : j < 4) : CoAt w n m gt gs gd (up G (4 * k + j) x) D lo (W.setCell ⟨gs k, j, none⟩ (.int .i64 x)) := by
  obtain ⟨h1, h2⟩ := h.tb.set (T' := fun i j' => up G (4 * k + j) x (4 * i + j')) k j x hk (fun a b _ hb => by
    show (if 4 * a + b = 4 * k + j then x else G (4 * a + b)) = _
    by_cases e : a = k ∧ b = j
    · rw [if_pos (by omega), if_pos e]
    · rw [if_neg (by omega), if_neg e])
  have hlt := (h.tb.lt.2 k hk).1
  exact ⟨(h2.block _ (Array.getElem?_eq_some_iff.1 h.b0).1 (fun e => by have := Option.some.inj e; omega)).trans h.b0, (h2.block _ (Array.getElem?_eq_some_iff.1 h.b1).1 (fun e => by have := Option.some.inj e; omega)).trans h.b1, h1, h.dn.kept h2 (own_ne h.dn (h.tb.rows k hk) (by decide)), h.bel.grown h2 h.bel.size (fun q hq => by have := Option.some.inj hq; omega)⟩
theorem CoAt.setD {w : World} {n m gt : Nat} {gs : Nat → Nat} {gd : Nat} {G : Nat → Int} {D : Nat → Bool} {lo : Nat} {W : World} (h : CoAt w n m gt gs gd G D lo W) (p : Nat) (hp : p < n + 1) : CoAt w n m gt gs gd G (upB D p) lo (W.setCell ⟨gd, p, none⟩ (.bool true)) := by
  have h2 := h.dn.stored p (.bool true)
  rw [flL_set (n + 1) D p hp] at h2
  have hlt := (h.dn.lt gd rfl).1
  exact ⟨(h2.2.block _ (Array.getElem?_eq_some_iff.1 h.b0).1 (fun e => by have := Option.some.inj e; omega)).trans h.b0, (h2.2.block _ (Array.getElem?_eq_some_iff.1 h.b1).1 (fun e => by have := Option.some.inj e; omega)).trans h.b1, ⟨h.tb.outer.kept h2.2 (own_ne h.tb.outer h.dn (by decide)), fun i hi => (h.tb.rows i hi).kept h2.2 (own_ne (h.tb.rows i hi) h.dn (by decide)), h.tb.inj⟩, h2.1, h.bel.grown h2.2 h.bel.size (fun q hq => by have := Option.some.inj hq; omega)⟩
theorem CoAt.setL {w : World} {n m gt : Nat} {gs : Nat → Nat} {gd : Nat} {G : Nat → Int} {D : Nat → Bool} {lo : Nat} {W : World} (h : CoAt w n m gt gs gd G D lo W) : CoAt w n m gt gs gd G D (lo + 1) (W.setCell ⟨w.heap.size + 1, 1, none⟩ (.int .i64 ((lo : Int) + 1))) := by
  have h2 := set_grown W (w.heap.size + 1) 1 (.int .i64 ((lo : Int) + 1))
  have q1 := h.tb.lt
  have q2 := (h.dn.lt gd rfl).1
  refine ⟨(h2.block _ (Array.getElem?_eq_some_iff.1 h.b0).1 (fun e => by have := Option.some.inj e; omega)).trans h.b0, ?_, h.tb.kept h2 (by omega) (fun i hi => by have := (q1.2 i hi).1; omega), h.dn.kept h2 (Or.inr (fun e => by have h3 : gd = w.heap.size + 1 := Option.some.inj e; omega)), h.bel.grown h2 h.bel.size (fun q hq => by have := Option.some.inj hq; omega)⟩
  rw [set_block h.b1]
  rfl

theorem step_append_ownC {P : Program} {ops : Array Oper} {o : Oper} {a : Act} {w : World} {K : Act → World → Prop} {Q : Exit → Act → World → Prop} {E : Prop}
    (hg : o.guard = none) (s x : Operand) (t : TypeId)
    (ho : o.op = .call { callee := .builtin .append, args := #[s, x], argTypes := #[t, t] })
    (base : Nat) (e : TypeId) (i : TypeInfo) (z : Value) (size bytes : Nat) (ht : P.underlying t = some (.slice e)) (hi : P.info? e = some i) (hz : i.zero = some z)
    (hsize : i.size = size) (hby : i.bytes = bytes) (hzs : z.cells.size = size) (hsz : 0 < size)
    (v : Value) (n : Nat) (xs : List Value) (hs : a.eval s = v) (hown : w.ownsRow base e size v n xs)
    (ad : Addr) (m c : Nat) (news : List Value) (hx : a.eval x = .slice (some ad) m c) (hl : news.length = m * size) (hnews : ∀ j u, news[j]? = some u → w.cell? (ad.add j) = some u) (h1 : ∀ u ∈ news, u.oneCell' = true)
    (h63 : n + m ≤ maxLen) (hbytes : (n + m) * bytes ≤ 140737488355328) (hbase : base ≤ w.heap.size)
    (h : ∀ v' w', w'.ownsRow base e size v' (n + m) (xs ++ news) → w.grownBy w' v.ownBlock → K (a.put o.dst v') w') :
    if Region.wanted o (yielded ops a.tmps) = true then Oper.wp P o a w K Q else E := by
  have hw : Region.wanted o (yielded ops a.tmps) = true := by simp [Region.wanted, hg]
  rw [if_pos hw]
  exact wp_append_own w s x t ho base e i z size bytes ht hi hz hsize hby hzs hsz v n xs hs hown ad m c news hx hl hnews h1 h63 hbytes hbase (fun v' w' h2 h3 _ => h v' w' h2 h3)
/-- The crossings that ref.CloseOf appends. -/
structure CpAt (w : World) (B m gt : Nat) (gs : Nat → Nat) (G : Nat → Int) (lo : Nat) (v : Value) (C : List Cr) (W : World) : Prop where
  b0 : W.heap[w.heap.size]? = some (.cells #[.slice none 0 0, .int .i64 0] 24 (0, 0))
  out : OutAt W B (w.heap.size + 1) v (lo : Nat) C
  tb : Tb (w.heap.size + 2) gt m 4 gs m (fun i j => G (4 * i + j)) W
  bel : Below w.heap.size w W
  lts : w.heap.size + 1 < B ∧ B ≤ W.heap.size ∧ gt < B ∧ ∀ i, i < m → gs i < B
theorem CpAt.drew {w : World} {B m gt : Nat} {gs : Nat → Nat} {G : Nat → Int} {lo : Nat} {v : Value} {C : List Cr} {W : World} (h : CpAt w B m gt gs G lo v C W) : CpAt w B m gt gs G lo v C W.drew := by
  have hb : Below W.heap.size W W.drew := below_drewN (Below.refl _ _) 1
  exact ⟨h.b0, h.out.on hb, h.tb.any (grown_below hb none), h.bel.trans (hb.mono h.bel.size), h.lts⟩
theorem CpAt.app {w w8 : World} {B m gt : Nat} {gs : Nat → Nat} {G : Nat → Int} {lo k : Nat} {v v8 : Value} {C : List Cr} {W : World} {x : Cr} {o : Obj} (h : CpAt w B m gt gs G lo v C W) (hk : k = C.length + 1) (hown8 : w8.ownsRow B 101 5 v8 k (crossCells C ++ crossCells [x])) (hg8 : (W.alloc o).grownBy w8 v.ownBlock) :
    CpAt w B m gt gs G lo v8 (C ++ [x]) (w8.setCell ⟨w.heap.size + 1, 0, none⟩ v8) := by
  obtain ⟨l1, l2, l3, l4⟩ := h.lts
  have hs := hg8.size
  simp only [World.size_alloc] at hs
  have hne : ∀ q, q < B → some q ≠ v.ownBlock := fun q hq e => by have := (h.out.row.lt q e.symm).1; omega
  have ht1 := h.tb.any (World.grownBy_alloc W o none)
  have hq := h.tb.lt
  have ht2 : Tb (w.heap.size + 2) gt m 4 gs m (fun i j => G (4 * i + j)) w8 := ⟨ht1.outer.kept hg8 (Or.inr (hne gt l3)), fun i hi => (ht1.rows i hi).kept hg8 (Or.inr (hne (gs i) (l4 i hi))), ht1.inj⟩
  refine ⟨h.out.other h.b0 (by omega) (by omega) hg8, h.out.app l1 hk hown8 hg8, ht2.kept (set_grown _ _ _ _) (by omega) (fun i hi => by have := (hq.2 i hi).1; omega), h.out.below h.bel (by omega) h.bel.size (by omega) hg8, l1, by simp; omega, l3, l4⟩

set_option maxHeartbeats 16000000 in
set_option maxRecDepth 100000 in
theorem closeOf_any (a : Option Addr) (c n : Nat) (l : List Int) (w : World) (hn : wordN (n : Int) l = 0) (h16 : l.length ≤ 16) (h : RdAt w w.heap.size 1 (.slice a l.length c) l.length (intsV l)) :
    Calls Try.prog 37 #[.int .i64 (n : Nat), .slice a l.length c] w fun e w' => ∃ a2 c2, e = .returned (.agg #[.slice a2 l.length c2, .int .i64 (clsO l n : Nat)]) ∧ w'.ownsRow w.heap.size 101 5 (.slice a2 l.length c2) l.length (crossCells (clsC l n)) ∧ Below w.heap.size w w' := by
  have hn6 : n ≤ 6 := by have := (wordN_ok hn).2.1; omega
  have hlet := letters_ok hn
  have HLT : Hid (∀ j, j < l.length → 1 ≤ (l.getD j 0).natAbs ∧ (l.getD j 0).natAbs < n) := hlet
  have HPR : Hid (∀ p, 1 ≤ p → p ≤ n → ∀ k, k ≤ l.length → 1 ≤ pl l p k ∧ pl l p k ≤ n) := fun p h1 h2 k hk => pl_rng hlet h1 h2 k hk
  obtain ⟨E, hE⟩ : ∃ E : Nat → Nat, E = fun p => pl l p l.length := ⟨_, rfl⟩
  have HEE : Hid (E = fun p => pl l p l.length) := hE
  have HER : Hid (∀ p, 1 ≤ p → p ≤ n → 1 ≤ E p ∧ E p ≤ n) := (by rw [hE]; exact fun p h1 h2 => pl_rng hlet h1 h2 l.length (Nat.le_refl _) : ∀ p, 1 ≤ p → p ≤ n → 1 ≤ E p ∧ E p ≤ n)
  have HCC : Hid (clsC l n = clC l (cF l (rgs E n).2).1 l.length ∧ clsO l n = (cF l (rgs E n).2).2.2) := (by rw [hE]; exact ⟨rfl, rfl⟩ : clsC l n = clC l (cF l (rgs E n).2).1 l.length ∧ clsO l n = (cF l (rgs E n).2).2.2)
  have HRD : Hid (RdAt w w.heap.size 1 (.slice a l.length c) l.length (intsV l)) := h
  have HBD : Hid (∀ k, k ≤ n → (cF l (rgs E k).2).2.1 ≤ 112 * k ∧ (cF l (rgs E k).2).2.2 ≤ k) := fun k hk => by
    have h1 := cF_le l h16 (rgs E k).2 (fun r hr => (rgs_mem E n HER.out k hk r hr).1) (rgs E k).2.length (Nat.le_refl _)
    rw [List.take_length] at h1
    have h2 := rgs_len E k
    omega
  obtain ⟨i0, hi, hz0, hz1, hz2⟩ := info_parts infoInts
  obtain ⟨i1, hk, hx0, hx1, hx2⟩ := info_parts infoBool
  obtain ⟨i5, hj, hy0, hy1, hy2⟩ := info_parts infoCross
  clear h hn hlet hE
  obtain ⟨m, hm⟩ : ∃ m, l.length = m := ⟨_, rfl⟩
  have HM : Hid (l.length = m) := hm
  rw [hm] at h16 HLT HPR HEE HCC ⊢
  clear hm
  obtain ⟨Y, hY⟩ : ∃ Y, Y = (w.alloc (.cells #[.slice none 0 0, .int .i64 0] 24)).alloc (.cells #[.slice none 0 0, .int .i64 0] 24) := ⟨_, rfl⟩
  have HY : Hid (Y = (w.alloc (.cells #[.slice none 0 0, .int .i64 0] 24)).alloc (.cells #[.slice none 0 0, .int .i64 0] 24)) := hY
  have hsY : Y.heap.size = w.heap.size + 2 := by rw [hY]; simp
  have HSY : Hid (Y.heap.size = w.heap.size + 2) := hsY
  have HBY : Hid (Below w.heap.size w Y) := (by rw [hY]; exact below2 _ _ _ : Below w.heap.size w Y)
  have HY0 : Hid (Y.heap[w.heap.size]? = some (.cells #[.slice none 0 0, .int .i64 0] 24 (0, 0))) := (by rw [hY]; exact alloc_old (alloc_at rfl) : Y.heap[w.heap.size]? = some (.cells #[.slice none 0 0, .int .i64 0] 24 (0, 0)))
  have HY1 : Hid (Y.heap[w.heap.size + 1]? = some (.cells #[.slice none 0 0, .int .i64 (0 : Nat)] 24 (0, 0))) := (by rw [hY]; exact alloc_at (by simp) : Y.heap[w.heap.size + 1]? = some (.cells #[.slice none 0 0, .int .i64 (0 : Nat)] 24 (0, 0)))
  clear hY hsY
  go_enter Try.func37, Try.ntmps37
  go_wp2_with (first | (at_make; rw [← HY.out]; refine wpList_make_full _ rfl _ _ 33 rfl Y.heap.size 53 i0 (.slice none 0 0) 1 Try.underlying33 hi hz0 hz1 .i64 .i64 _ _ m rfl rfl rfl rfl (by rw [hz2]; omega) (by unfold maxLen; omega) (by simp) ?_; intro w1 hrow1 hg1; refine Hid.out ?_))
  refine Lib.hid ?_
  rw [made_nilsT m 4] at hrow1
  obtain ⟨gt, hgt⟩ : ∃ gt, Y.heap.size = gt := ⟨_, rfl⟩
  rw [hgt] at hrow1 ⊢
  have HGT : Hid (Y.heap.size = gt) := hgt
  clear hgt
  have HA1 : Hid (Tb (w.heap.size + 2) gt m 4 (fun _ => 0) 0 (fun _ _ => 0) w1) := ⟨own_low hrow1 (by have := HSY.out; have := HGT.out; omega), fun i hi => absurd hi (Nat.not_lt_zero _), fun i j hi => absurd hi (Nat.not_lt_zero _)⟩
  have HB1 : Hid (Below Y.heap.size Y w1) := (Below.refl _ _).grown hg1 (Nat.le_refl _) (fun k hk => by cases hk)
  clear hrow1 hg1
  go_wp2
  go_loopw [7] (fun v7 wr => ∃ (k : Nat) (gs : Nat → Nat), k ≤ m ∧ v7 = .int .i64 (k : Nat) ∧ Hid (Tb (w.heap.size + 2) gt m 4 gs k (fun _ _ => 0) wr) ∧ Hid (Below Y.heap.size Y wr)) (fun v7 _ => m - (intOf v7).toNat)
  case atStart => exact ⟨0, fun _ => 0, Nat.zero_le _, rfl, HA1.out, HB1.out⟩
  case round =>
    clear HA1 HB1
    rename World => W1
    obtain ⟨k, gs, hkm, rfl, hT, hB⟩ := hrel
    by_cases hkl : k < m
    · have hkI : (k : Int) < (m : Int) := by omega
      obtain ⟨X, hX⟩ : ∃ X, X = W1.alloc (.cells #[.int .i64 0, .int .i64 0, .int .i64 0, .int .i64 0] 3) := ⟨_, rfl⟩
      have HX : Hid (X = W1.alloc (.cells #[.int .i64 0, .int .i64 0, .int .i64 0, .int .i64 0] 3)) := hX
      have hgX : W1.grownBy X none := by rw [hX]; exact World.grownBy_alloc _ _ _
      have hTX := hT.out.any hgX
      have e0 : X.cell? ⟨gt, k, none⟩ = some (.slice none 0 0) := by
        rw [hTX.outer.cellAt k (by omega), outT_get _ _ _ _ _ hkl, if_neg (Nat.lt_irrefl _)]
      have f0 : X.frozen? ⟨gt, k, none⟩ = false := hTX.outer.frozenAt k
      have lt := hTX.lt.1.2
      have hrow : X.ownsRow (w.heap.size + 2) 3 1 (.slice (some ⟨W1.heap.size, 0, none⟩) 4 4) 4 (intsV (mapI 4 ((fun _ _ => 0 : Nat → Nat → Int) k))) := by
        rw [hX]
        exact World.ownsRow_lit W1 #[.int .i64 0, .int .i64 0, .int .i64 0, .int .i64 0] 4 (by have h1 := hB.out.size; have := HSY.out; omega) (by unfold maxLen; omega) rfl
      obtain ⟨hm1, hm2⟩ := hT.out.more hgX hrow (Nat.le_refl _)
      have lt1 := hT.out.lt.1.2
      have hb2 : Below Y.heap.size Y (X.setCell ⟨gt, k, none⟩ (.slice (some ⟨W1.heap.size, 0, none⟩) 4 4)) := (hB.out.grown hgX hB.out.size (fun q hq => by cases hq)).grown hm2 (Nat.le_trans hB.out.size hgX.size) (fun q hq => by have h1 := Option.some.inj hq; have := HGT.out; omega)
      rw [hX, World.setCell_alloc_past _ _ _ _ lt1] at hm1 hb2
      have HM1 := hid_mkC hm1
      have HB2 := hid_mkC hb2
      have e1 : W1.cell? ⟨gt, k, none⟩ = some (.slice none 0 0) := by
        rw [hT.out.outer.cellAt k (by omega), outT_get _ _ _ _ _ hkl, if_neg (Nat.lt_irrefl _)]
      have f1 : W1.frozen? ⟨gt, k, none⟩ = false := hT.out.outer.frozenAt k
      clear hX hgX hTX hrow hm1 hm2 hb2 HX
      go_wp2
      go_roundw
      case rel => exact ⟨k + 1, _, by omega, by go_num, HM1.out, HB2.out⟩
      case measure => simp only [intOf]; omega
    · obtain rfl : m = k := by omega
      go_wp2_with (first | (at_make; refine wpList_make_full _ rfl _ _ 119 rfl W1.heap.size 4 i1 (.bool false) 1 Try.underlying119 hk hx0 hx1 .i64 .i64 _ _ (n + 1) rfl rfl rfl rfl (by rw [hx2]; omega) (by unfold maxLen; omega) (by simp) ?_; intro w2 hrow2 hg2; refine Hid.out ?_))
      refine Lib.hid ?_
      rw [made_false, flL_zero] at hrow2
      obtain ⟨gd, hgd⟩ : ∃ gd, W1.heap.size = gd := ⟨_, rfl⟩
      rw [hgd] at hrow2 ⊢
      have HB2 : Hid (Below Y.heap.size Y w2) := hB.out.grown hg2 hB.out.size (fun q hq => by cases hq)
      have HC2 : Hid (CoAt w n m gt gs gd (cF l (rgs E 0).2).1 (rgs E 0).1 0 w2) := ⟨(HB2.out.block _ (by have := HSY.out; omega)).trans HY0.out, (HB2.out.block _ (by have := HSY.out; omega)).trans HY1.out, hT.out.any hg2, own_low hrow2 (by have h1 := hB.out.size; have := HSY.out; omega), HBY.out.trans (HB2.out.mono HBY.out.size)⟩
      clear hrow2 hg2 hgd hT hB HB2 HY HY0 HY1 HSY HBY HGT hkl hkm
      go_wp2
      go_loopw [9, 10] (fun v9 v10 wr => ∃ (j ac lo : Nat), j ≤ n ∧ ac ≤ 112 * j ∧ lo ≤ j ∧ v9 = .int .i64 (ac : Nat) ∧ v10 = .int .i64 ((j : Int) + 1) ∧ Hid ((cF l (rgs E j).2).2.1 = ac ∧ (cF l (rgs E j).2).2.2 = lo) ∧ Hid (CoAt w n m gt gs gd (cF l (rgs E j).2).1 (rgs E j).1 lo wr)) (fun _ v10 _ => n + 1 - (intOf v10).toNat)
      case atStart => exact ⟨0, 0, 0, Nat.zero_le _, Nat.le_refl _, Nat.le_refl _, rfl, rfl, ⟨rfl, rfl⟩, HC2.out⟩
      case round =>
        clear HC2
        rename World => W2
        obtain ⟨j, ac, lo, hjn, hac, hlo, rfl, rfl, HAL, hC⟩ := hrel
        by_cases hjl : j < n
        · have hjI : (j : Int) + 1 ≤ (n : Int) := by omega
          have hjJ : (j : Int) + 1 < (n : Int) + 1 := by omega
          have e0 := hC.out.dn.cellAt (j + 1) (by omega)
          rw [flL_get _ _ _ (by omega)] at e0
          have lgd := (hC.out.dn.lt gd rfl).2
          cases hd : (rgs E j).1 (j + 1) with
          | true =>
            rw [hd] at e0
            have HNX : Hid (rgs E (j + 1) = rgs E j) := (by
              show ((rg E 7 (rgs E j).1 (j + 1)).2, if (rg E 7 (rgs E j).1 (j + 1)).1.length = 0 then (rgs E j).2 else (rgs E j).2 ++ [(rg E 7 (rgs E j).1 (j + 1)).1]) = rgs E j
              rw [rg_done E 7 _ _ hd]
              rfl : rgs E (j + 1) = rgs E j)
            go_wp2
            go_roundw
            case rel => exact ⟨j + 1, ac, lo, by omega, by omega, by omega, rfl, by go_num, by rw [HNX.out]; exact HAL.out, by rw [HNX.out]; exact hC.out⟩
            case measure => simp only [intOf]; omega
          | false =>
            rw [hd] at e0
            obtain ⟨G0, hG0⟩ : ∃ G0, (cF l (rgs E j).2).1 = G0 := ⟨_, rfl⟩
            have HG0 : Hid ((cF l (rgs E j).2).1 = G0) := hG0
            rw [hG0] at hC
            clear hG0
            have hac6 : ac ≤ 600 := by omega
            have HWA : Hid (∀ (r : List Nat) (p : Nat), wk l (r ++ [p]) = wk l r ++ cl l p m) := (fun r p => by rw [wk_app, HM.out] : ∀ (r : List Nat) (p : Nat), wk l (r ++ [p]) = wk l r ++ cl l p m)
            have HWL : Hid (∀ r : List Nat, r.length ≤ 7 → (wk l r).length ≤ 112) := (fun r hr => by have h1 := wk_len l r; rw [HM.out] at h1; have h2 : r.length * m ≤ 7 * 16 := Nat.mul_le_mul hr h16; omega : ∀ r : List Nat, r.length ≤ 7 → (wk l r).length ≤ 112)
            have HEP : Hid (∀ p, E p = pl l p m) := fun p => by rw [HEE.out]
            go_wp2
            go_loopg [9, 12, 13, 14] 7 (fun f v9 v12 v13 v14 ws => ∃ (R : List Nat) (D' : Nat → Bool) (y nw : Nat) (lK lS : Int), y < n ∧ nw ≤ 112 ∧ v9 = .int .i64 ((ac : Int) + (nw : Int)) ∧ v12 = .int .i64 lK ∧ v13 = .int .i64 lS ∧ v14 = .int .i64 ((y : Int) + 1) ∧ Hid ((wk l R).length = nw) ∧ Hid (lkW (wk l R) = lK ∧ lsW (wk l R) = lS) ∧ Hid (RgS E n (rgs E j).1 (j + 1) R D' (y + 1) f) ∧ Hid (CoAt w n m gt gs gd (rG G0 ac (wk l R)) D' lo ws))
            case atStart => exact ⟨[], (rgs E j).1, j, 0, -1, 0, hjl, Nat.zero_le _, by simp, rfl, rfl, rfl, rfl, ⟨rfl, rfl⟩, RgS.start E n _ (j + 1) (by omega) (by omega), hC.out⟩
            case round =>
              rename World => W3
              obtain ⟨R, D', y, nw, lK, lS, hyn, hnw, rfl, rfl, rfl, rfl, HNW, HLK, HRG, hC3⟩ := hrel
              have e1 := hC3.out.dn.cellAt (y + 1) (by omega)
              rw [flL_get _ _ _ (by omega)] at e1
              have f1 := hC3.out.dn.frozenAt (y + 1)
              have lgd3 := (hC3.out.dn.lt gd rfl).2
              have hyJ : (y : Int) + 1 < (n : Int) + 1 := by omega
              cases hd3 : D' (y + 1) with
              | false =>
                rw [hd3] at e1
                obtain ⟨f', hf', HS'⟩ := HRG.out.step hn6 HER.out hd3
                have HRN : Hid (RgS E n (rgs E j).1 (j + 1) (R ++ [y + 1]) (upB D' (y + 1)) (E (y + 1)) f') := HS'
                have HFF : Hid (gk = f' + 1) := hf'
                have HCD : Hid (CoAt w n m gt gs gd (rG G0 ac (wk l R)) (upB D' (y + 1)) lo (W3.setCell ⟨gd, y + 1, none⟩ (.bool true))) := hC3.out.setD (y + 1) (by omega)
                have HPL : Hid (∀ k, k ≤ m → 1 ≤ pl l (y + 1) k ∧ pl l (y + 1) k ≤ n) := HPR.out (y + 1) (by omega) (by omega)
                have HNR : Hid ((wk l (R ++ [y + 1])).length ≤ 112) := HWL.out _ HRN.out.len
                have HWR : Hid (wk l (R ++ [y + 1]) = wk l R ++ cl l (y + 1) m) := HWA.out R (y + 1)
                obtain ⟨WR, hWR⟩ : ∃ WR, wk l R = WR := ⟨_, rfl⟩
                have HWW : Hid (wk l R = WR) := hWR
                rw [hWR] at HWR HNW HLK HCD
                have HCM : Hid (∀ k, k ≤ m → (cl l (y + 1) k).length ≤ 16) := fun k hk => Nat.le_trans (cl_len l (y + 1) k) (by omega)
                clear HS' hf' hWR hC3 HRG
                go_wp2
                go_loopw [9, 12, 13, 14, 15] (fun v9 v12 v13 v14 v15 ws => ∃ (k q n4 : Nat) (kK kS : Int), k ≤ m ∧ n4 ≤ 128 ∧ 1 ≤ q ∧ q ≤ n ∧ v9 = .int .i64 ((ac : Int) + (n4 : Int)) ∧ v12 = .int .i64 kK ∧ v13 = .int .i64 kS ∧ v14 = .int .i64 (q : Nat) ∧ v15 = .int .i64 (k : Nat) ∧ Hid (pl l (y + 1) k = q) ∧ Hid ((WR ++ cl l (y + 1) k).length = n4) ∧ Hid (lkW (WR ++ cl l (y + 1) k) = kK ∧ lsW (WR ++ cl l (y + 1) k) = kS) ∧ Hid (CoAt w n m gt gs gd (rG G0 ac (WR ++ cl l (y + 1) k)) (upB D' (y + 1)) lo ws)) (fun _ _ _ _ v15 _ => m - (intOf v15).toNat)
                case atStart => exact ⟨0, y + 1, nw, lK, lS, Nat.zero_le _, by omega, by omega, by omega, rfl, rfl, rfl, by go_num, rfl, rfl, by rw [show cl l (y + 1) 0 = [] from rfl, List.append_nil]; exact HNW.out, by rw [show cl l (y + 1) 0 = [] from rfl, List.append_nil]; exact HLK.out, by rw [show cl l (y + 1) 0 = [] from rfl, List.append_nil]; exact HCD.out⟩
                case round =>
                  clear HCD e1 f1 lgd3
                  rename World => W4
                  obtain ⟨k, q, n4, kK, kS, hkm, hn4, hq1, hq2, rfl, rfl, rfl, rfl, rfl, HQ, HN4, HKK, hC4⟩ := hrel
                  by_cases hkl : k < m
                  · have hkI : (k : Int) < (m : Int) := by omega
                    obtain ⟨b, off, ea, hlt, hc⟩ := (HRD.out.on hC4.out.bel).intAt k (by rw [HM.out]; exact hkl)
                    have hx := HLT.out k hkl
                    have HNX : Hid (pl l (y + 1) (k + 1) = plc q (l.getD k 0).natAbs ∧ cl l (y + 1) (k + 1) = cl l (y + 1) k ++ (if q = (l.getD k 0).natAbs then [(k, 0)] else if q = (l.getD k 0).natAbs + 1 then [(k, 1)] else [])) := (⟨by rw [← HQ.out]; rfl, by rw [← HQ.out]; rfl⟩ : pl l (y + 1) (k + 1) = plc q (l.getD k 0).natAbs ∧ cl l (y + 1) (k + 1) = cl l (y + 1) k ++ (if q = (l.getD k 0).natAbs then [(k, 0)] else if q = (l.getD k 0).natAbs + 1 then [(k, 1)] else []))
                    generalize l.getD k 0 = x at hc hx HNX
                    have HSZ : Hid (∀ W, Calls Try.prog 78 #[.int .i64 x] W fun e w' => e = .returned (.int .i64 (x.natAbs : Int)) ∧ w' = W) := fun W => absR_any x W (by omega) (by omega)
                    obtain ⟨i, hi⟩ : ∃ i, x.natAbs = i := ⟨_, rfl⟩
                    rw [hi] at HSZ HNX hx
                    have hx1 := hx.1
                    have hx2 := hx.2
                    have lb : b < W4.heap.size := Nat.lt_of_lt_of_le hlt hC4.out.bel.size
                    subst ea
                    clear hi hx
                    by_cases hq : q = i ∨ q = i + 1
                    · obtain ⟨s, q', hs2, hqs, hqq, HN1⟩ : ∃ s q' : Nat, s < 2 ∧ (q : Int) - (i : Int) = (s : Int) ∧ 2 * (i : Int) + 1 - (q : Int) = (q' : Int) ∧ Hid (pl l (y + 1) (k + 1) = q' ∧ cl l (y + 1) (k + 1) = cl l (y + 1) k ++ [(k, s)]) := by
                        rcases hq with e | e
                        · refine ⟨0, i + 1, by omega, by omega, by omega, ?_⟩
                          rw [HNX.out.1, HNX.out.2, if_pos e]
                          unfold plc
                          rw [if_pos e]
                          exact ⟨rfl, rfl⟩
                        · refine ⟨1, i, by omega, by omega, by omega, ?_⟩
                          rw [HNX.out.1, HNX.out.2, if_neg (by omega), if_pos e]
                          unfold plc
                          rw [if_neg (by omega), if_pos e]
                          exact ⟨rfl, rfl⟩
                      have hq'1 : 1 ≤ q' := by omega
                      have hq'2 : q' ≤ n := by omega
                      by_cases e1 : q = i
                      · have t1 : ((q : Int) != (i : Int)) = false := by rw [e1]; simp
                        clear hq HNX e1
                        have o0 := hC4.out.tb.cellO k hkl hkl
                        have r0 := hC4.out.tb.cellR k s hkl (by omega)
                        have z0 := (hC4.out.tb.rows k hkl).frozenAt s
                        have lgt := hC4.out.tb.lt.1.2
                        have lgk := (hC4.out.tb.lt.2 k hkl).2
                        have HX4 := hid_mkC (hC4.out.setT k s ((ac : Int) + (n4 : Int) + 1) hkl (by omega))
                        have HGS : Hid (∀ W G, CoAt w n m gt gs gd G (upB D' (y + 1)) lo W → W.cell? ⟨gt, k, none⟩ = some (.slice (some ⟨gs k, 0, none⟩) 4 4) ∧ (∃ z, W.cell? ⟨gs k, 2 + s, none⟩ = some (.int .i64 z)) ∧ W.frozen? ⟨gs k, 2 + s, none⟩ = false ∧ gt < W.heap.size ∧ gs k < W.heap.size ∧ CoAt w n m gt gs gd (up G (4 * k + (2 + s)) ((ac : Int) + (n4 : Int) + 1 + 1)) (upB D' (y + 1)) lo (W.setCell ⟨gs k, 2 + s, none⟩ (.int .i64 ((ac : Int) + (n4 : Int) + 1 + 1)))) := fun W G h => ⟨h.tb.cellO k hkl hkl, ⟨_, h.tb.cellR k (2 + s) hkl (by omega)⟩, (h.tb.rows k hkl).frozenAt (2 + s), h.tb.lt.1.2, (h.tb.lt.2 k hkl).2, h.setT k (2 + s) _ hkl (by omega)⟩
                        have HRG4 : Hid (rG G0 ac (WR ++ cl l (y + 1) (k + 1)) = up (up (rG G0 ac (WR ++ cl l (y + 1) k)) (4 * k + s) ((ac : Int) + (n4 : Int) + 1)) (4 * k + (2 + s)) ((ac : Int) + (n4 : Int) + 1 + 1)) := (by
                          rw [HN1.out.2, ← List.append_assoc, rG_app, HN4.out, show 4 * (k, s).1 + 2 + (k, s).2 = 4 * k + (2 + s) by show 4 * k + 2 + s = _; omega, show ((ac + n4 + 1 : Nat) : Int) = (ac : Int) + (n4 : Int) + 1 by omega, show ((ac + n4 + 2 : Nat) : Int) = (ac : Int) + (n4 : Int) + 1 + 1 by omega] : rG G0 ac (WR ++ cl l (y + 1) (k + 1)) = up (up (rG G0 ac (WR ++ cl l (y + 1) k)) (4 * k + s) ((ac : Int) + (n4 : Int) + 1)) (4 * k + (2 + s)) ((ac : Int) + (n4 : Int) + 1 + 1))
                        have HL4 : Hid ((WR ++ cl l (y + 1) (k + 1)).length = n4 + 1) := (by rw [HN1.out.2, ← List.append_assoc, List.length_append, HN4.out]; rfl : (WR ++ cl l (y + 1) (k + 1)).length = n4 + 1)
                        have HLL : Hid ((WR ++ cl l (y + 1) (k + 1)).length ≤ 128) := (by rw [List.length_append, HNW.out]; have := HCM.out (k + 1) (by omega); omega : (WR ++ cl l (y + 1) (k + 1)).length ≤ 128)
                        have hn5 : n4 + 1 ≤ 128 := by have := HLL.out; rw [HL4.out] at this; exact this
                        have HK4 : Hid (lkW (WR ++ cl l (y + 1) (k + 1)) = (k : Int) ∧ lsW (WR ++ cl l (y + 1) (k + 1)) = (s : Int)) := (by rw [HN1.out.2, ← List.append_assoc]; exact lkW_app _ (k, s) : lkW (WR ++ cl l (y + 1) (k + 1)) = (k : Int) ∧ lsW (WR ++ cl l (y + 1) (k + 1)) = (s : Int))
                        generalize rG G0 ac (WR ++ cl l (y + 1) k) (4 * k + s) = zz at r0
                        obtain ⟨gk2, hgk⟩ : ∃ g, gs k = g := ⟨_, rfl⟩
                        rw [hgk] at o0 r0 z0 lgk HX4 HGS
                        clear hC4 hgk
                        have hs4 : (s : Int) < 4 := by omega
                        have hs5 : 2 + (s : Int) < 4 := by omega
                        go_upto_region 27 with (go_at_call 78; refine (HSZ.out _).mono ?_; rintro e9 w5 ⟨rfl, e5⟩; obtain rfl := e5.symm)
                        obtain ⟨X, hX⟩ : ∃ X, X = W4.setCell ⟨gk2, s, none⟩ (.int .i64 ((ac : Int) + (n4 : Int) + 1)) := ⟨_, rfl⟩
                        rw [← hX] at HX4 ⊢
                        obtain ⟨o1, ⟨z1, r1⟩, z2, lgt1, lgk1, hC5⟩ := HGS.out X _ HX4.out
                        have HZ5 := hid_mkC hC5
                        rw [← HRG4.out] at HZ5
                        clear hX HX4 o0 r0 z0 lgt lgk hc hC5
                        go_wp2
                        go_roundw
                        case rel => exact ⟨k + 1, q', n4 + 1, (k : Int), (s : Int), by omega, hn5, hq'1, hq'2, by go_num, rfl, rfl, rfl, by go_num, HN1.out.1, HL4.out, HK4.out, HZ5.out⟩
                        case measure => simp only [intOf]; omega
                      · have t1 : ((q : Int) != (i : Int)) = true := by rw [bne_iff_ne]; omega
                        have t2 : ((q : Int) != (i : Int) + 1) = false := by rw [bne_eq_false_iff_eq]; omega
                        clear hq HNX e1
                        have o0 := hC4.out.tb.cellO k hkl hkl
                        have r0 := hC4.out.tb.cellR k s hkl (by omega)
                        have z0 := (hC4.out.tb.rows k hkl).frozenAt s
                        have lgt := hC4.out.tb.lt.1.2
                        have lgk := (hC4.out.tb.lt.2 k hkl).2
                        have HX4 := hid_mkC (hC4.out.setT k s ((ac : Int) + (n4 : Int) + 1) hkl (by omega))
                        have HGS : Hid (∀ W G, CoAt w n m gt gs gd G (upB D' (y + 1)) lo W → W.cell? ⟨gt, k, none⟩ = some (.slice (some ⟨gs k, 0, none⟩) 4 4) ∧ (∃ z, W.cell? ⟨gs k, 2 + s, none⟩ = some (.int .i64 z)) ∧ W.frozen? ⟨gs k, 2 + s, none⟩ = false ∧ gt < W.heap.size ∧ gs k < W.heap.size ∧ CoAt w n m gt gs gd (up G (4 * k + (2 + s)) ((ac : Int) + (n4 : Int) + 1 + 1)) (upB D' (y + 1)) lo (W.setCell ⟨gs k, 2 + s, none⟩ (.int .i64 ((ac : Int) + (n4 : Int) + 1 + 1)))) := fun W G h => ⟨h.tb.cellO k hkl hkl, ⟨_, h.tb.cellR k (2 + s) hkl (by omega)⟩, (h.tb.rows k hkl).frozenAt (2 + s), h.tb.lt.1.2, (h.tb.lt.2 k hkl).2, h.setT k (2 + s) _ hkl (by omega)⟩
                        have HRG4 : Hid (rG G0 ac (WR ++ cl l (y + 1) (k + 1)) = up (up (rG G0 ac (WR ++ cl l (y + 1) k)) (4 * k + s) ((ac : Int) + (n4 : Int) + 1)) (4 * k + (2 + s)) ((ac : Int) + (n4 : Int) + 1 + 1)) := (by
                          rw [HN1.out.2, ← List.append_assoc, rG_app, HN4.out, show 4 * (k, s).1 + 2 + (k, s).2 = 4 * k + (2 + s) by show 4 * k + 2 + s = _; omega, show ((ac + n4 + 1 : Nat) : Int) = (ac : Int) + (n4 : Int) + 1 by omega, show ((ac + n4 + 2 : Nat) : Int) = (ac : Int) + (n4 : Int) + 1 + 1 by omega] : rG G0 ac (WR ++ cl l (y + 1) (k + 1)) = up (up (rG G0 ac (WR ++ cl l (y + 1) k)) (4 * k + s) ((ac : Int) + (n4 : Int) + 1)) (4 * k + (2 + s)) ((ac : Int) + (n4 : Int) + 1 + 1))
                        have HL4 : Hid ((WR ++ cl l (y + 1) (k + 1)).length = n4 + 1) := (by rw [HN1.out.2, ← List.append_assoc, List.length_append, HN4.out]; rfl : (WR ++ cl l (y + 1) (k + 1)).length = n4 + 1)
                        have HLL : Hid ((WR ++ cl l (y + 1) (k + 1)).length ≤ 128) := (by rw [List.length_append, HNW.out]; have := HCM.out (k + 1) (by omega); omega : (WR ++ cl l (y + 1) (k + 1)).length ≤ 128)
                        have hn5 : n4 + 1 ≤ 128 := by have := HLL.out; rw [HL4.out] at this; exact this
                        have HK4 : Hid (lkW (WR ++ cl l (y + 1) (k + 1)) = (k : Int) ∧ lsW (WR ++ cl l (y + 1) (k + 1)) = (s : Int)) := (by rw [HN1.out.2, ← List.append_assoc]; exact lkW_app _ (k, s) : lkW (WR ++ cl l (y + 1) (k + 1)) = (k : Int) ∧ lsW (WR ++ cl l (y + 1) (k + 1)) = (s : Int))
                        generalize rG G0 ac (WR ++ cl l (y + 1) k) (4 * k + s) = zz at r0
                        obtain ⟨gk2, hgk⟩ : ∃ g, gs k = g := ⟨_, rfl⟩
                        rw [hgk] at o0 r0 z0 lgk HX4 HGS
                        clear hC4 hgk
                        have hs4 : (s : Int) < 4 := by omega
                        have hs5 : 2 + (s : Int) < 4 := by omega
                        go_upto_region 27 with (go_at_call 78; refine (HSZ.out _).mono ?_; rintro e9 w5 ⟨rfl, e5⟩; obtain rfl := e5.symm)
                        obtain ⟨X, hX⟩ : ∃ X, X = W4.setCell ⟨gk2, s, none⟩ (.int .i64 ((ac : Int) + (n4 : Int) + 1)) := ⟨_, rfl⟩
                        rw [← hX] at HX4 ⊢
                        obtain ⟨o1, ⟨z1, r1⟩, z2, lgt1, lgk1, hC5⟩ := HGS.out X _ HX4.out
                        have HZ5 := hid_mkC hC5
                        rw [← HRG4.out] at HZ5
                        clear hX HX4 o0 r0 z0 lgt lgk hc hC5
                        go_wp2
                        go_roundw
                        case rel => exact ⟨k + 1, q', n4 + 1, (k : Int), (s : Int), by omega, hn5, hq'1, hq'2, by go_num, rfl, rfl, rfl, by go_num, HN1.out.1, HL4.out, HK4.out, HZ5.out⟩
                        case measure => simp only [intOf]; omega
                    · have t1 : ((q : Int) != (i : Int)) = true := by rw [bne_iff_ne]; omega
                      have t2 : ((q : Int) != (i : Int) + 1) = true := by rw [bne_iff_ne]; omega
                      have HN1 : Hid (pl l (y + 1) (k + 1) = q ∧ cl l (y + 1) (k + 1) = cl l (y + 1) k) := (by
                        rw [HNX.out.1, HNX.out.2, if_neg (by omega), if_neg (by omega), List.append_nil]
                        unfold plc
                        rw [if_neg (by omega), if_neg (by omega)]
                        exact ⟨rfl, rfl⟩ : pl l (y + 1) (k + 1) = q ∧ cl l (y + 1) (k + 1) = cl l (y + 1) k)
                      clear hq HNX
                      go_wp2_with (go_at_call 78; refine (HSZ.out _).mono ?_; rintro e9 w5 ⟨rfl, e5⟩; obtain rfl := e5.symm)
                      go_roundw
                      case rel => exact ⟨k + 1, q, n4, kK, kS, by omega, hn4, hq1, hq2, rfl, rfl, rfl, rfl, by go_num, HN1.out.1, by rw [HN1.out.2]; exact HN4.out, by rw [HN1.out.2]; exact HKK.out, by rw [HN1.out.2]; exact hC4.out⟩
                      case measure => simp only [intOf]; omega
                  · obtain rfl : m = k := by omega
                    obtain ⟨z, hz⟩ : ∃ z, q = z + 1 := ⟨q - 1, by omega⟩
                    have hzI : (q : Int) = (z : Int) + 1 := by omega
                    have HQZ : Hid (Value.int .i64 (q : Int) = .int .i64 ((z : Int) + 1)) := congrArg (Value.int .i64) hzI
                    have hzn : z < n := by omega
                    have HEZ : Hid (E (y + 1) = z + 1) := (by rw [HEP.out, HQ.out, hz] : E (y + 1) = z + 1)
                    have HRZ : Hid (RgS E n (rgs E j).1 (j + 1) (R ++ [y + 1]) (upB D' (y + 1)) (z + 1) f') := (by rw [← HEZ.out]; exact HRN.out : RgS E n (rgs E j).1 (j + 1) (R ++ [y + 1]) (upB D' (y + 1)) (z + 1) f')
                    rw [← HWR.out] at HN4 HKK hC4
                    have hn5 : n4 ≤ 112 := by have := HNR.out; rw [HN4.out] at this; exact this
                    clear hzI hz
                    go_wp2
                    go_roundg f'
                    case measure => have := HFF.out; omega
                    case rel => exact ⟨R ++ [y + 1], upB D' (y + 1), z, n4, kK, kS, hzn, hn5, rfl, rfl, rfl, HQZ.out, HN4.out, HKK.out, HRZ.out, hC4.out⟩
              | true =>
                rw [hd3] at e1
                have HST : Hid (rg E 7 (rgs E j).1 (j + 1) = (R, D')) := HRG.out.stop hd3
                have HRL : Hid (R.length ≠ 0) := (by
                  have h1 := rg_step E 6 (rgs E j).1 (j + 1) hd
                  rw [HST.out] at h1
                  have h2 : R = (j + 1) :: _ := congrArg Prod.fst h1
                  rw [h2]
                  simp : R.length ≠ 0)
                have HNX : Hid (rgs E (j + 1) = (D', (rgs E j).2 ++ [R])) := (by
                  show ((rg E 7 (rgs E j).1 (j + 1)).2, if (rg E 7 (rgs E j).1 (j + 1)).1.length = 0 then (rgs E j).2 else (rgs E j).2 ++ [(rg E 7 (rgs E j).1 (j + 1)).1]) = _
                  rw [HST.out, if_neg HRL.out] : rgs E (j + 1) = (D', (rgs E j).2 ++ [R]))
                have HCF : Hid (cF l (rgs E (j + 1)).2 = (nG G0 ac (wk l R), ac + nw, lo + if nw = 0 then 1 else 0)) := (by
                  rw [HNX.out, cF_app]
                  unfold cS
                  rw [HAL.out.1, HAL.out.2, HG0.out, HNW.out] : cF l (rgs E (j + 1)).2 = (nG G0 ac (wk l R), ac + nw, lo + if nw = 0 then 1 else 0))
                have HWM : Hid (∀ q ∈ wk l R, q.1 < m ∧ q.2 < 2) := (fun q hq => by have := wk_mem l R q hq; rw [HM.out] at this; exact this : ∀ q ∈ wk l R, q.1 < m ∧ q.2 < 2)
                have HDX : Hid ((rgs E (j + 1)).1 = D') := (by rw [HNX.out] : (rgs E (j + 1)).1 = D')
                have hbd := HBD.out (j + 1) (by omega)
                rw [HCF.out] at hbd
                obtain ⟨WR, hWR⟩ : ∃ WR, wk l R = WR := ⟨_, rfl⟩
                rw [hWR] at HNW HLK hC3 HCF HWM
                have hac2 : ac + nw ≤ 112 * (j + 1) := hbd.1
                have hlo7 : lo ≤ 6 := by omega
                clear hWR HRG hbd HST HRL HNX
                by_cases h0 : nw = 0
                · rw [if_pos h0] at HCF
                  have HWN : Hid (WR = []) := (List.length_eq_zero_iff.1 (by rw [HNW.out]; exact h0) : WR = [])
                  obtain rfl : lK = -1 := by rw [← HLK.out.1, HWN.out]; rfl
                  have HCX : Hid (CoAt w n m gt gs gd (nG G0 ac WR) D' lo W3) := (by
                    have h1 : nG G0 ac WR = rG G0 ac WR := by rw [HWN.out]; rfl
                    rw [h1]
                    exact hC3.out : CoAt w n m gt gs gd (nG G0 ac WR) D' lo W3)
                  have c1 : W3.cell? ⟨w.heap.size + 1, 1, none⟩ = some (.int .i64 (lo : Nat)) := block_cell HCX.out.b1 rfl
                  have z1 : W3.frozen? ⟨w.heap.size + 1, 1, none⟩ = false := block_frozen HCX.out.b1
                  have l1 := (Array.getElem?_eq_some_iff.1 HCX.out.b1).1
                  have HCL := hid_mkC HCX.out.setL
                  clear hC3 h0
                  go_wp2
                  go_roundw
                  case rel => exact ⟨j + 1, ac + nw, lo + 1, by omega, hac2, by omega, by go_num, by go_num, by rw [HCF.out]; exact ⟨rfl, rfl⟩, by rw [HCF.out, HDX.out]; exact HCL.out⟩
                  case measure => simp only [intOf]; omega
                · rw [if_neg h0] at HCF
                  have hmem := HWM.out (lastP WR) (by
                    unfold lastP
                    rw [List.getD_eq_getElem?_getD, List.getElem?_eq_getElem (by rw [HNW.out]; omega)]
                    exact List.getElem_mem _)
                  have HNG : Hid (nG G0 ac WR = up (rG G0 ac WR) (4 * (lastP WR).1 + (2 + (lastP WR).2)) ((ac : Int) + 1)) := (by
                    unfold nG
                    rw [if_neg (by rw [HNW.out]; exact h0), Nat.add_assoc, show ((ac + 1 : Nat) : Int) = (ac : Int) + 1 by omega] : nG G0 ac WR = up (rG G0 ac WR) (4 * (lastP WR).1 + (2 + (lastP WR).2)) ((ac : Int) + 1))
                  obtain ⟨kk, hkk⟩ : ∃ kk, (lastP WR).1 = kk := ⟨_, rfl⟩
                  obtain ⟨ss, hss⟩ : ∃ ss, (lastP WR).2 = ss := ⟨_, rfl⟩
                  obtain rfl : lK = (kk : Int) := by rw [← HLK.out.1]; unfold lkW; rw [if_neg (by rw [HNW.out]; exact h0), hkk]
                  obtain rfl : lS = (ss : Int) := by rw [← HLK.out.2]; unfold lsW; rw [if_neg (by rw [HNW.out]; exact h0), hss]
                  rw [hkk, hss] at hmem HNG
                  obtain ⟨hkm, hs2⟩ := hmem
                  have o0 := hC3.out.tb.cellO kk hkm hkm
                  have r0 := hC3.out.tb.cellR kk (2 + ss) hkm (by omega)
                  have z0 := (hC3.out.tb.rows kk hkm).frozenAt (2 + ss)
                  have lgt := hC3.out.tb.lt.1.2
                  have lgk := (hC3.out.tb.lt.2 kk hkm).2
                  have HX4 := hid_mkC (hC3.out.setT kk (2 + ss) ((ac : Int) + 1) hkm (by omega))
                  rw [← HNG.out] at HX4
                  generalize rG G0 ac WR (4 * kk + (2 + ss)) = zz at r0
                  obtain ⟨gk2, hgk⟩ : ∃ g, gs kk = g := ⟨_, rfl⟩
                  rw [hgk] at o0 r0 z0 lgk HX4
                  have hkI : (kk : Int) < (m : Int) := by omega
                  have hs5 : 2 + (ss : Int) < 4 := by omega
                  have hk0 : ¬ (kk : Int) < 0 := by omega
                  have HDX2 := HDX
                  clear hC3 h0 hgk hkk hss HLK
                  go_wp2
                  go_roundw
                  case rel => exact ⟨j + 1, ac + nw, lo, by omega, hac2, by omega, by go_num, by go_num, by rw [HCF.out]; exact ⟨rfl, rfl⟩, by rw [HCF.out, HDX.out]; exact HX4.out⟩
                  case measure => simp only [intOf]; omega
        · obtain rfl : n = j := by omega
          obtain ⟨G, hG⟩ : ∃ G, (cF l (rgs E n).2).1 = G := ⟨_, rfl⟩
          rw [hG] at hC HCC
          rw [HAL.out.2] at HCC
          obtain ⟨B, hB⟩ : ∃ B, W2.heap.size = B := ⟨_, rfl⟩
          have HP0 : Hid (CpAt w B m gt gs G lo (.slice none 0 0) (clC l G 0) W2) := ⟨hC.out.b0, OutAt.nil hC.out.b1, hC.out.tb, hC.out.bel, by have := (Array.getElem?_eq_some_iff.1 hC.out.b1).1; omega, by omega, by have := hC.out.tb.lt.1.2; omega, fun i hi => by have := (hC.out.tb.lt.2 i hi).2; omega⟩
          clear hG hC hB hjl hjn
          go_wp2
          go_loopw [18] (fun v18 wr => ∃ (k c5 : Nat) (a5 : Option Addr), k ≤ m ∧ v18 = .int .i64 (k : Nat) ∧ Hid (CpAt w B m gt gs G lo (.slice a5 k c5) (clC l G k) wr)) (fun v18 _ => m - (intOf v18).toNat)
          case atStart => exact ⟨0, 0, none, Nat.zero_le _, rfl, HP0.out⟩
          case round =>
            clear HP0
            rename World => W5
            obtain ⟨k, c5, a5, hkm, rfl, hP⟩ := hrel
            have HCP := hid_mkC hP.out
            by_cases hkl : k < m
            · have hkI : (k : Int) < (m : Int) := by omega
              obtain ⟨b, off, ea, hlt, hc⟩ := (HRD.out.on hP.out.bel).intAt k (by rw [HM.out]; exact hkl)
              have o0 := hP.out.tb.cellO k hkl hkl
              have r00 := hP.out.tb.cellR k 0 hkl (by omega)
              have r01 := hP.out.tb.cellR k 1 hkl (by omega)
              have r02 := hP.out.tb.cellR k 2 hkl (by omega)
              have r03 := hP.out.tb.cellR k 3 hkl (by omega)
              have lgt := hP.out.tb.lt.1.2
              have lgk := (hP.out.tb.lt.2 k hkl).2
              have HXN := hid_mkC (clC_next l G k)
              have HXX := hid_mkC (show clX l G k = if 0 < l.getD k 0 then ⟨G (4 * k + 1), G (4 * k + 2), G (4 * k + 3), G (4 * k), true⟩ else ⟨G (4 * k), G (4 * k + 1), G (4 * k + 2), G (4 * k + 3), false⟩ from rfl)
              rw [Nat.add_zero] at r00
              generalize l.getD k 0 = x at hc HXX
              generalize G (4 * k) = A0 at r00 HXX
              generalize G (4 * k + 1) = A1 at r01 HXX
              generalize G (4 * k + 2) = A2 at r02 HXX
              generalize G (4 * k + 3) = A3 at r03 HXX
              obtain ⟨gk2, hgk⟩ : ∃ g, gs k = g := ⟨_, rfl⟩
              rw [hgk] at o0 r00 r01 r02 r03 lgk
              have lb : b < W5.heap.size := Nat.lt_of_lt_of_le hlt hP.out.bel.size
              have c0 : W5.cell? ⟨w.heap.size + 1, 0, none⟩ = some (.slice a5 k c5) := block_cell hP.out.out.box rfl
              have l1 := (Array.getElem?_eq_some_iff.1 hP.out.out.box).1
              have HSB : Hid (B ≤ W5.heap.size) := hP.out.lts.2.1
              have HCK : Hid (k + 1 = (clC l G k).length + 1) := (by rw [clC_len] : k + 1 = (clC l G k).length + 1)
              have HROW : Hid (W5.drew.ownsRow B 101 5 (.slice a5 k c5) k (crossCells (clC l G k))) := (by have h := hP.out.drew.out.row; rw [clC_len] at h; exact h : W5.drew.ownsRow B 101 5 (.slice a5 k c5) k (crossCells (clC l G k)))
              subst ea
              have hne : ∀ q, q < B → some q ≠ (Value.slice a5 k c5).ownBlock := fun q hq e => by have := (HROW.out.lt q e.symm).1; omega
              have hgB : gk2 < B := by rw [← hgk]; exact hP.out.lts.2.2.2 k hkl
              have hwg : gk2 ≠ w.heap.size + 1 := by have h1 := (hP.out.tb.lt.2 k hkl).1; rw [hgk] at h1; omega
              have hbd : ∀ o, Below W5.heap.size W5 (W5.drew.alloc o) := fun o => ((Below.refl _ _).drew).alloc (Nat.le_refl _) o
              have HKP : Hid (∀ (o : Obj) (w' : World), (W5.drew.alloc o).grownBy w' (Value.slice a5 k c5).ownBlock → w'.cell? ⟨gk2, 0, none⟩ = some (.int .i64 A0) ∧ w'.cell? ⟨gk2, 1, none⟩ = some (.int .i64 A1) ∧ w'.cell? ⟨gk2, 2, none⟩ = some (.int .i64 A2) ∧ w'.cell? ⟨gk2, 3, none⟩ = some (.int .i64 A3)) := fun o w' hg => ⟨(hg.cell_far ⟨gk2, 0, none⟩ (by simp; omega) (hne gk2 hgB)).trans (bcell (hbd o) (by omega) r00), (hg.cell_far ⟨gk2, 1, none⟩ (by simp; omega) (hne gk2 hgB)).trans (bcell (hbd o) (by omega) r01), (hg.cell_far ⟨gk2, 2, none⟩ (by simp; omega) (hne gk2 hgB)).trans (bcell (hbd o) (by omega) r02), (hg.cell_far ⟨gk2, 3, none⟩ (by simp; omega) (hne gk2 hgB)).trans (bcell (hbd o) (by omega) r03)⟩
              have HKQ : Hid (∀ (o : Obj) (w' : World) (u : Value), (W5.drew.alloc o).grownBy w' (Value.slice a5 k c5).ownBlock → (fun w' => w'.cell? ⟨gk2, 0, none⟩ = some (.int .i64 A0) ∧ w'.cell? ⟨gk2, 1, none⟩ = some (.int .i64 A1) ∧ w'.cell? ⟨gk2, 2, none⟩ = some (.int .i64 A2) ∧ w'.cell? ⟨gk2, 3, none⟩ = some (.int .i64 A3)) (w'.setCell ⟨w.heap.size + 1, 0, none⟩ u)) := fun o w' u hg => by
                have g := HKP.out o w' hg
                have hz := hg.size
                simp only [World.size_alloc] at hz
                have hz2 : W5.heap.size + 1 ≤ w'.heap.size := hz
                have hsg := set_grown w' (w.heap.size + 1) 0 u
                exact ⟨hsg.cell g.1 (by simp; omega), hsg.cell g.2.1 (by simp; omega), hsg.cell g.2.2.1 (by simp; omega), hsg.cell g.2.2.2 (by simp; omega)⟩
              clear hne hbd hgB hwg hgk hP
              by_cases hx : 0 < x
              · rw [if_pos hx] at HXX
                rw [HXX.out] at HXN
                go_wp2
                refine wp_region_held_drew (S := fun w' => w'.cell? ⟨gk2, 0, none⟩ = some (.int .i64 A0) ∧ w'.cell? ⟨gk2, 1, none⟩ = some (.int .i64 A1) ∧ w'.cell? ⟨gk2, 2, none⟩ = some (.int .i64 A2) ∧ w'.cell? ⟨gk2, 3, none⟩ = some (.int .i64 A3)) (by kernel_rfl) (by (try dsimp only); first | exact HKQ.out _ _ _ hg8 | exact HKP.out _ _ hg8 | go_keep) (fun hHeld => ?_)
                refine wpAnyH_take (i := 0) (v := ?vv0p) rfl (by kernel_rfl) (by kernel_rfl) (by kernel_rfl) (fun _ _ _ h => h) (Or.inl ⟨by rfl, ?yy0p⟩) (by assumption) ?rr0p
                case yy0p => (intro w hSw; (try dsimp only at hSw); go_simp; (try with_reducible rfl))
                try simp only [Act.put]
                refine wpAnyH_take (i := 2) (v := ?vv2p) rfl (by kernel_rfl) (by kernel_rfl) (by kernel_rfl) (fun _ _ _ h => h) (Or.inl ⟨by rfl, ?yy2p⟩) (by assumption) ?rr2p
                case yy2p => (intro w hSw; (try dsimp only at hSw); go_simp; (try with_reducible rfl))
                try simp only [Act.put]
                refine wpAnyH_take (i := 3) (v := ?vv3p) rfl (by kernel_rfl) (by kernel_rfl) (by kernel_rfl) (fun _ _ _ h => h) (Or.inl ⟨by rfl, ?yy3p⟩) (by assumption) ?rr3p
                case yy3p => (intro w hSw; (try dsimp only at hSw); go_simp; (try with_reducible rfl))
                try simp only [Act.put]
                refine wpAnyH_take (i := 4) (v := ?vv4p) rfl (by kernel_rfl) (by kernel_rfl) (by kernel_rfl) (fun _ _ _ h => h) (Or.inl ⟨by rfl, ?yy4p⟩) (by assumption) ?rr4p
                case yy4p => (intro w hSw; (try dsimp only at hSw); go_simp; (try with_reducible rfl))
                try simp only [Act.put]
                refine wpAnyH_take (i := 5) (v := ?vv5p) rfl (by kernel_rfl) (by kernel_rfl) (by kernel_rfl) (fun _ _ _ h => h) (Or.inl ⟨by rfl, ?yy5p⟩) (by assumption) ?rr5p
                case yy5p => (intro w hSw; (try dsimp only at hSw); go_simp; (try with_reducible rfl))
                try simp only [Act.put]
                refine wpAnyH_take (i := 6) (v := ?vv6p) rfl (by kernel_rfl) (by kernel_rfl) (by kernel_rfl) (fun _ _ _ h => h) (Or.inl ⟨by rfl, ?yy6p⟩) (by assumption) ?rr6p
                case yy6p => (intro w hSw; (try dsimp only at hSw); go_simp; (try with_reducible rfl))
                try simp only [Act.put]
                refine wpAnyH_take (i := 7) (v := ?vv7p) rfl (by kernel_rfl) (by kernel_rfl) (by kernel_rfl) (fun _ _ _ h => h) (Or.inl ⟨by rfl, ?yy7p⟩) (by assumption) ?rr7p
                case yy7p => (intro w hSw; (try dsimp only at hSw); go_simp; (try with_reducible rfl))
                try simp only [Act.put]
                refine wpAnyH_take (i := 8) (v := ?vv8p) rfl (by kernel_rfl) (by kernel_rfl) (by kernel_rfl) (fun _ _ _ h => h) (Or.inl ⟨by rfl, ?yy8p⟩) (by assumption) ?rr8p
                case yy8p => (intro w hSw; (try dsimp only at hSw); go_simp; (try with_reducible rfl))
                try simp only [Act.put]
                refine wpAnyH_take (i := 9) (v := ?vv9p) rfl (by kernel_rfl) (by kernel_rfl) (by kernel_rfl) (fun _ _ _ h => h) (Or.inl ⟨by rfl, ?yy9p⟩) (by assumption) ?rr9p
                case yy9p => (intro w hSw; (try dsimp only at hSw); go_simp; (try with_reducible rfl))
                try simp only [Act.put]
                refine wpAnyH_take (i := 10) (v := ?vv10p) rfl (by kernel_rfl) (by kernel_rfl) (by kernel_rfl) (fun _ _ _ h => h) (Or.inl ⟨by rfl, ?yy10p⟩) (by assumption) ?rr10p
                case yy10p => (intro w hSw; (try dsimp only at hSw); go_simp; (try with_reducible rfl))
                try simp only [Act.put]
                refine wpAnyH_take (i := 11) (v := ?vv11p) rfl (by kernel_rfl) (by kernel_rfl) (by kernel_rfl) (fun _ _ _ h => h) (Or.inl ⟨by rfl, ?yy11p⟩) (by assumption) ?rr11p
                case yy11p => (intro w hSw; (try dsimp only at hSw); go_simp; (try with_reducible rfl))
                try simp only [Act.put]
                refine wpAnyH_take (i := 12) (v := ?vv12p) rfl (by kernel_rfl) (by kernel_rfl) (by kernel_rfl) (fun _ _ _ h => h) (Or.inl ⟨by rfl, ?yy12p⟩) (by assumption) ?rr12p
                case yy12p => (intro w hSw; (try dsimp only at hSw); go_simp; (try with_reducible rfl))
                try simp only [Act.put]
                refine wpAnyH_take (i := 13) (v := ?vv13p) rfl (by kernel_rfl) (by kernel_rfl) (by kernel_rfl) (fun _ _ _ h => h) (Or.inl ⟨by rfl, ?yy13p⟩) (by assumption) ?rr13p
                case yy13p => (intro w hSw; (try dsimp only at hSw); go_simp; (try with_reducible rfl))
                try simp only [Act.put]
                refine wpAnyH_take (i := 14) (v := ?vv14p) rfl (by kernel_rfl) (by kernel_rfl) (by kernel_rfl) (fun _ _ _ h => h) (Or.inl ⟨by rfl, ?yy14p⟩) (by assumption) ?rr14p
                case yy14p => (intro w hSw; (try dsimp only at hSw); go_simp; (try with_reducible rfl))
                try simp only [Act.put]
                refine wpAnyH_ready (rs := [1, 15]) (by kernel_rfl) (by simp) ?_
                refine AllReadyH.cons rfl (fun K hK => ?_) (AllReadyH.cons rfl (fun K hK => ?_) AllReadyH.nil)
                · go_simp
                  refine hK.out _ _ (by (try dsimp only); first | exact HKQ.out _ _ _ hg8 | exact HKP.out _ _ hg8 | go_keep) (fun hHeld => ?_)
                  clear hK K
                  refine wpAnyH_ready (rs := [15]) (by kernel_rfl) (by simp) ?_
                  refine AllReadyH.cons rfl (fun K hK => ?_) AllReadyH.nil
                  go_simp
                  refine hK.out _ _ (by (try dsimp only); first | exact HKQ.out _ _ _ hg8 | exact HKP.out _ _ hg8 | go_keep) (fun hHeld => ?_)
                  clear hK K
                  refine wpAnyH_ready (rs := [16]) (by kernel_rfl) (by simp) ?_
                  refine AllReadyH.cons rfl (fun K hK => ?_) AllReadyH.nil
                  (refine step_append_ownC rfl (.tmp 134) (.tmp 148) 22 rfl B 101 i5 (.agg #[.int .i64 0, .int .i64 0, .int .i64 0, .int .i64 0, .bool false]) 5 40 Try.underlying22 hj hy0 hy1 hy2 rfl (by decide) _ k _ (by simp [Act.eval]) (HROW.out.alloc _) ⟨W5.drew.heap.size, 0, none⟩ 1 1 [.int .i64 A1, .int .i64 A2, .int .i64 A3, .int .i64 A0, .bool true] (by simp [Act.eval]) rfl (new_cell5 _ _ _ _ _ _ _) (cells_one [(⟨A1, A2, A3, A0, true⟩ : Cr)]) (by unfold maxLen; omega) (by omega) (by have := HSB.out; simp; omega) ?_; intro v8 w8 hown8 hg8; obtain ⟨a8, c8, ev8⟩ := own_capS hown8; subst ev8; have hb8 := HCP.out.drew.out.box8 HCP.out.lts.1 hg8; have r0 : w8.cell? ⟨w.heap.size + 1, 0, none⟩ = some (.slice a5 k c5) := block_cell hb8 rfl; have r1 : w8.frozen? ⟨w.heap.size + 1, 0, none⟩ = false := block_frozen hb8; have r2 : w.heap.size + 1 < w8.heap.size := (Array.getElem?_eq_some_iff.1 hb8).1; clear hb8)
                  refine hK.out _ _ (by (try dsimp only); first | exact HKQ.out _ _ _ hg8 | exact HKP.out _ _ hg8 | go_keep) (fun hHeld => ?_)
                  clear hK K
                  refine wpAnyH_take (i := 17) (v := ?vv17pa) rfl (by kernel_rfl) (by kernel_rfl) (by kernel_rfl) (fun _ _ _ h => h) (Or.inl ⟨by rfl, ?yy17pa⟩) (by assumption) ?rr17pa
                  case yy17pa => (intro w hSw; (try dsimp only at hSw); go_simp; (try with_reducible rfl))
                  try simp only [Act.put]
                  refine wpAnyH_ready (rs := [18]) (by kernel_rfl) (by simp) ?_
                  refine AllReadyH.cons rfl (fun K hK => ?_) AllReadyH.nil
                  go_simp
                  refine hK.out _ _ (by (try dsimp only); first | exact HKQ.out _ _ _ hg8 | exact HKP.out _ _ hg8 | go_keep) (fun hHeld => ?_)
                  clear hK K
                  refine wpAnyH_done (by kernel_rfl) ?_ _
                  have HAP := hid_mkC (HCP.out.drew.app (x := ⟨A1, A2, A3, A0, true⟩) HCK.out hown8 hg8)
                  rw [← HXN.out] at HAP
                  clear r00 r01 r02 r03 o0 c0 r0 r1 hHeld hown8 hg8
                  go_wp2
                  go_roundw
                  case rel => exact ⟨k + 1, c8, a8, by omega, by go_num, HAP.out⟩
                  case measure => simp only [intOf]; omega
                · go_simp
                  refine hK.out _ _ (by (try dsimp only); first | exact HKQ.out _ _ _ hg8 | exact HKP.out _ _ hg8 | go_keep) (fun hHeld => ?_)
                  clear hK K
                  refine wpAnyH_ready (rs := [1]) (by kernel_rfl) (by simp) ?_
                  refine AllReadyH.cons rfl (fun K hK => ?_) AllReadyH.nil
                  go_simp
                  refine hK.out _ _ (by (try dsimp only); first | exact HKQ.out _ _ _ hg8 | exact HKP.out _ _ hg8 | go_keep) (fun hHeld => ?_)
                  clear hK K
                  refine wpAnyH_ready (rs := [16]) (by kernel_rfl) (by simp) ?_
                  refine AllReadyH.cons rfl (fun K hK => ?_) AllReadyH.nil
                  (refine step_append_ownC rfl (.tmp 134) (.tmp 148) 22 rfl B 101 i5 (.agg #[.int .i64 0, .int .i64 0, .int .i64 0, .int .i64 0, .bool false]) 5 40 Try.underlying22 hj hy0 hy1 hy2 rfl (by decide) _ k _ (by simp [Act.eval]) (HROW.out.alloc _) ⟨W5.drew.heap.size, 0, none⟩ 1 1 [.int .i64 A1, .int .i64 A2, .int .i64 A3, .int .i64 A0, .bool true] (by simp [Act.eval]) rfl (new_cell5 _ _ _ _ _ _ _) (cells_one [(⟨A1, A2, A3, A0, true⟩ : Cr)]) (by unfold maxLen; omega) (by omega) (by have := HSB.out; simp; omega) ?_; intro v8 w8 hown8 hg8; obtain ⟨a8, c8, ev8⟩ := own_capS hown8; subst ev8; have hb8 := HCP.out.drew.out.box8 HCP.out.lts.1 hg8; have r0 : w8.cell? ⟨w.heap.size + 1, 0, none⟩ = some (.slice a5 k c5) := block_cell hb8 rfl; have r1 : w8.frozen? ⟨w.heap.size + 1, 0, none⟩ = false := block_frozen hb8; have r2 : w.heap.size + 1 < w8.heap.size := (Array.getElem?_eq_some_iff.1 hb8).1; clear hb8)
                  refine hK.out _ _ (by (try dsimp only); first | exact HKQ.out _ _ _ hg8 | exact HKP.out _ _ hg8 | go_keep) (fun hHeld => ?_)
                  clear hK K
                  refine wpAnyH_take (i := 17) (v := ?vv17pb) rfl (by kernel_rfl) (by kernel_rfl) (by kernel_rfl) (fun _ _ _ h => h) (Or.inl ⟨by rfl, ?yy17pb⟩) (by assumption) ?rr17pb
                  case yy17pb => (intro w hSw; (try dsimp only at hSw); go_simp; (try with_reducible rfl))
                  try simp only [Act.put]
                  refine wpAnyH_ready (rs := [18]) (by kernel_rfl) (by simp) ?_
                  refine AllReadyH.cons rfl (fun K hK => ?_) AllReadyH.nil
                  go_simp
                  refine hK.out _ _ (by (try dsimp only); first | exact HKQ.out _ _ _ hg8 | exact HKP.out _ _ hg8 | go_keep) (fun hHeld => ?_)
                  clear hK K
                  refine wpAnyH_done (by kernel_rfl) ?_ _
                  have HAP := hid_mkC (HCP.out.drew.app (x := ⟨A1, A2, A3, A0, true⟩) HCK.out hown8 hg8)
                  rw [← HXN.out] at HAP
                  clear r00 r01 r02 r03 o0 c0 r0 r1 hHeld hown8 hg8
                  go_wp2
                  go_roundw
                  case rel => exact ⟨k + 1, c8, a8, by omega, by go_num, HAP.out⟩
                  case measure => simp only [intOf]; omega
              · rw [if_neg hx] at HXX
                rw [HXX.out] at HXN
                go_wp2
                refine wp_region_held_drew (S := fun w' => w'.cell? ⟨gk2, 0, none⟩ = some (.int .i64 A0) ∧ w'.cell? ⟨gk2, 1, none⟩ = some (.int .i64 A1) ∧ w'.cell? ⟨gk2, 2, none⟩ = some (.int .i64 A2) ∧ w'.cell? ⟨gk2, 3, none⟩ = some (.int .i64 A3)) (by kernel_rfl) (by (try dsimp only); first | exact HKQ.out _ _ _ hg8 | exact HKP.out _ _ hg8 | go_keep) (fun hHeld => ?_)
                refine wpAnyH_take (i := 0) (v := ?vv0n) rfl (by kernel_rfl) (by kernel_rfl) (by kernel_rfl) (fun _ _ _ h => h) (Or.inl ⟨by rfl, ?yy0n⟩) (by assumption) ?rr0n
                case yy0n => (intro w hSw; (try dsimp only at hSw); go_simp; (try with_reducible rfl))
                try simp only [Act.put]
                refine wpAnyH_take (i := 2) (v := ?vv2n) rfl (by kernel_rfl) (by kernel_rfl) (by kernel_rfl) (fun _ _ _ h => h) (Or.inl ⟨by rfl, ?yy2n⟩) (by assumption) ?rr2n
                case yy2n => (intro w hSw; (try dsimp only at hSw); go_simp; (try with_reducible rfl))
                try simp only [Act.put]
                refine wpAnyH_take (i := 3) (v := ?vv3n) rfl (by kernel_rfl) (by kernel_rfl) (by kernel_rfl) (fun _ _ _ h => h) (Or.inl ⟨by rfl, ?yy3n⟩) (by assumption) ?rr3n
                case yy3n => (intro w hSw; (try dsimp only at hSw); go_simp; (try with_reducible rfl))
                try simp only [Act.put]
                refine wpAnyH_take (i := 4) (v := ?vv4n) rfl (by kernel_rfl) (by kernel_rfl) (by kernel_rfl) (fun _ _ _ h => h) (Or.inl ⟨by rfl, ?yy4n⟩) (by assumption) ?rr4n
                case yy4n => (intro w hSw; (try dsimp only at hSw); go_simp; (try with_reducible rfl))
                try simp only [Act.put]
                refine wpAnyH_take (i := 5) (v := ?vv5n) rfl (by kernel_rfl) (by kernel_rfl) (by kernel_rfl) (fun _ _ _ h => h) (Or.inl ⟨by rfl, ?yy5n⟩) (by assumption) ?rr5n
                case yy5n => (intro w hSw; (try dsimp only at hSw); go_simp; (try with_reducible rfl))
                try simp only [Act.put]
                refine wpAnyH_take (i := 6) (v := ?vv6n) rfl (by kernel_rfl) (by kernel_rfl) (by kernel_rfl) (fun _ _ _ h => h) (Or.inl ⟨by rfl, ?yy6n⟩) (by assumption) ?rr6n
                case yy6n => (intro w hSw; (try dsimp only at hSw); go_simp; (try with_reducible rfl))
                try simp only [Act.put]
                refine wpAnyH_take (i := 7) (v := ?vv7n) rfl (by kernel_rfl) (by kernel_rfl) (by kernel_rfl) (fun _ _ _ h => h) (Or.inl ⟨by rfl, ?yy7n⟩) (by assumption) ?rr7n
                case yy7n => (intro w hSw; (try dsimp only at hSw); go_simp; (try with_reducible rfl))
                try simp only [Act.put]
                refine wpAnyH_take (i := 8) (v := ?vv8n) rfl (by kernel_rfl) (by kernel_rfl) (by kernel_rfl) (fun _ _ _ h => h) (Or.inl ⟨by rfl, ?yy8n⟩) (by assumption) ?rr8n
                case yy8n => (intro w hSw; (try dsimp only at hSw); go_simp; (try with_reducible rfl))
                try simp only [Act.put]
                refine wpAnyH_take (i := 9) (v := ?vv9n) rfl (by kernel_rfl) (by kernel_rfl) (by kernel_rfl) (fun _ _ _ h => h) (Or.inl ⟨by rfl, ?yy9n⟩) (by assumption) ?rr9n
                case yy9n => (intro w hSw; (try dsimp only at hSw); go_simp; (try with_reducible rfl))
                try simp only [Act.put]
                refine wpAnyH_take (i := 10) (v := ?vv10n) rfl (by kernel_rfl) (by kernel_rfl) (by kernel_rfl) (fun _ _ _ h => h) (Or.inl ⟨by rfl, ?yy10n⟩) (by assumption) ?rr10n
                case yy10n => (intro w hSw; (try dsimp only at hSw); go_simp; (try with_reducible rfl))
                try simp only [Act.put]
                refine wpAnyH_take (i := 11) (v := ?vv11n) rfl (by kernel_rfl) (by kernel_rfl) (by kernel_rfl) (fun _ _ _ h => h) (Or.inl ⟨by rfl, ?yy11n⟩) (by assumption) ?rr11n
                case yy11n => (intro w hSw; (try dsimp only at hSw); go_simp; (try with_reducible rfl))
                try simp only [Act.put]
                refine wpAnyH_take (i := 12) (v := ?vv12n) rfl (by kernel_rfl) (by kernel_rfl) (by kernel_rfl) (fun _ _ _ h => h) (Or.inl ⟨by rfl, ?yy12n⟩) (by assumption) ?rr12n
                case yy12n => (intro w hSw; (try dsimp only at hSw); go_simp; (try with_reducible rfl))
                try simp only [Act.put]
                refine wpAnyH_take (i := 13) (v := ?vv13n) rfl (by kernel_rfl) (by kernel_rfl) (by kernel_rfl) (fun _ _ _ h => h) (Or.inl ⟨by rfl, ?yy13n⟩) (by assumption) ?rr13n
                case yy13n => (intro w hSw; (try dsimp only at hSw); go_simp; (try with_reducible rfl))
                try simp only [Act.put]
                refine wpAnyH_take (i := 14) (v := ?vv14n) rfl (by kernel_rfl) (by kernel_rfl) (by kernel_rfl) (fun _ _ _ h => h) (Or.inl ⟨by rfl, ?yy14n⟩) (by assumption) ?rr14n
                case yy14n => (intro w hSw; (try dsimp only at hSw); go_simp; (try with_reducible rfl))
                try simp only [Act.put]
                refine wpAnyH_ready (rs := [1, 15]) (by kernel_rfl) (by simp) ?_
                refine AllReadyH.cons rfl (fun K hK => ?_) (AllReadyH.cons rfl (fun K hK => ?_) AllReadyH.nil)
                · go_simp
                  refine hK.out _ _ (by (try dsimp only); first | exact HKQ.out _ _ _ hg8 | exact HKP.out _ _ hg8 | go_keep) (fun hHeld => ?_)
                  clear hK K
                  refine wpAnyH_ready (rs := [15]) (by kernel_rfl) (by simp) ?_
                  refine AllReadyH.cons rfl (fun K hK => ?_) AllReadyH.nil
                  go_simp
                  refine hK.out _ _ (by (try dsimp only); first | exact HKQ.out _ _ _ hg8 | exact HKP.out _ _ hg8 | go_keep) (fun hHeld => ?_)
                  clear hK K
                  refine wpAnyH_ready (rs := [16]) (by kernel_rfl) (by simp) ?_
                  refine AllReadyH.cons rfl (fun K hK => ?_) AllReadyH.nil
                  (refine step_append_ownC rfl (.tmp 152) (.tmp 166) 22 rfl B 101 i5 (.agg #[.int .i64 0, .int .i64 0, .int .i64 0, .int .i64 0, .bool false]) 5 40 Try.underlying22 hj hy0 hy1 hy2 rfl (by decide) _ k _ (by simp [Act.eval]) (HROW.out.alloc _) ⟨W5.drew.heap.size, 0, none⟩ 1 1 [.int .i64 A0, .int .i64 A1, .int .i64 A2, .int .i64 A3, .bool false] (by simp [Act.eval]) rfl (new_cell5 _ _ _ _ _ _ _) (cells_one [(⟨A0, A1, A2, A3, false⟩ : Cr)]) (by unfold maxLen; omega) (by omega) (by have := HSB.out; simp; omega) ?_; intro v8 w8 hown8 hg8; obtain ⟨a8, c8, ev8⟩ := own_capS hown8; subst ev8; have hb8 := HCP.out.drew.out.box8 HCP.out.lts.1 hg8; have r0 : w8.cell? ⟨w.heap.size + 1, 0, none⟩ = some (.slice a5 k c5) := block_cell hb8 rfl; have r1 : w8.frozen? ⟨w.heap.size + 1, 0, none⟩ = false := block_frozen hb8; have r2 : w.heap.size + 1 < w8.heap.size := (Array.getElem?_eq_some_iff.1 hb8).1; clear hb8)
                  refine hK.out _ _ (by (try dsimp only); first | exact HKQ.out _ _ _ hg8 | exact HKP.out _ _ hg8 | go_keep) (fun hHeld => ?_)
                  clear hK K
                  refine wpAnyH_take (i := 17) (v := ?vv17na) rfl (by kernel_rfl) (by kernel_rfl) (by kernel_rfl) (fun _ _ _ h => h) (Or.inl ⟨by rfl, ?yy17na⟩) (by assumption) ?rr17na
                  case yy17na => (intro w hSw; (try dsimp only at hSw); go_simp; (try with_reducible rfl))
                  try simp only [Act.put]
                  refine wpAnyH_ready (rs := [18]) (by kernel_rfl) (by simp) ?_
                  refine AllReadyH.cons rfl (fun K hK => ?_) AllReadyH.nil
                  go_simp
                  refine hK.out _ _ (by (try dsimp only); first | exact HKQ.out _ _ _ hg8 | exact HKP.out _ _ hg8 | go_keep) (fun hHeld => ?_)
                  clear hK K
                  refine wpAnyH_done (by kernel_rfl) ?_ _
                  have HAP := hid_mkC (HCP.out.drew.app (x := ⟨A0, A1, A2, A3, false⟩) HCK.out hown8 hg8)
                  rw [← HXN.out] at HAP
                  clear r00 r01 r02 r03 o0 c0 r0 r1 hHeld hown8 hg8
                  go_wp2
                  go_roundw
                  case rel => exact ⟨k + 1, c8, a8, by omega, by go_num, HAP.out⟩
                  case measure => simp only [intOf]; omega
                · go_simp
                  refine hK.out _ _ (by (try dsimp only); first | exact HKQ.out _ _ _ hg8 | exact HKP.out _ _ hg8 | go_keep) (fun hHeld => ?_)
                  clear hK K
                  refine wpAnyH_ready (rs := [1]) (by kernel_rfl) (by simp) ?_
                  refine AllReadyH.cons rfl (fun K hK => ?_) AllReadyH.nil
                  go_simp
                  refine hK.out _ _ (by (try dsimp only); first | exact HKQ.out _ _ _ hg8 | exact HKP.out _ _ hg8 | go_keep) (fun hHeld => ?_)
                  clear hK K
                  refine wpAnyH_ready (rs := [16]) (by kernel_rfl) (by simp) ?_
                  refine AllReadyH.cons rfl (fun K hK => ?_) AllReadyH.nil
                  (refine step_append_ownC rfl (.tmp 152) (.tmp 166) 22 rfl B 101 i5 (.agg #[.int .i64 0, .int .i64 0, .int .i64 0, .int .i64 0, .bool false]) 5 40 Try.underlying22 hj hy0 hy1 hy2 rfl (by decide) _ k _ (by simp [Act.eval]) (HROW.out.alloc _) ⟨W5.drew.heap.size, 0, none⟩ 1 1 [.int .i64 A0, .int .i64 A1, .int .i64 A2, .int .i64 A3, .bool false] (by simp [Act.eval]) rfl (new_cell5 _ _ _ _ _ _ _) (cells_one [(⟨A0, A1, A2, A3, false⟩ : Cr)]) (by unfold maxLen; omega) (by omega) (by have := HSB.out; simp; omega) ?_; intro v8 w8 hown8 hg8; obtain ⟨a8, c8, ev8⟩ := own_capS hown8; subst ev8; have hb8 := HCP.out.drew.out.box8 HCP.out.lts.1 hg8; have r0 : w8.cell? ⟨w.heap.size + 1, 0, none⟩ = some (.slice a5 k c5) := block_cell hb8 rfl; have r1 : w8.frozen? ⟨w.heap.size + 1, 0, none⟩ = false := block_frozen hb8; have r2 : w.heap.size + 1 < w8.heap.size := (Array.getElem?_eq_some_iff.1 hb8).1; clear hb8)
                  refine hK.out _ _ (by (try dsimp only); first | exact HKQ.out _ _ _ hg8 | exact HKP.out _ _ hg8 | go_keep) (fun hHeld => ?_)
                  clear hK K
                  refine wpAnyH_take (i := 17) (v := ?vv17nb) rfl (by kernel_rfl) (by kernel_rfl) (by kernel_rfl) (fun _ _ _ h => h) (Or.inl ⟨by rfl, ?yy17nb⟩) (by assumption) ?rr17nb
                  case yy17nb => (intro w hSw; (try dsimp only at hSw); go_simp; (try with_reducible rfl))
                  try simp only [Act.put]
                  refine wpAnyH_ready (rs := [18]) (by kernel_rfl) (by simp) ?_
                  refine AllReadyH.cons rfl (fun K hK => ?_) AllReadyH.nil
                  go_simp
                  refine hK.out _ _ (by (try dsimp only); first | exact HKQ.out _ _ _ hg8 | exact HKP.out _ _ hg8 | go_keep) (fun hHeld => ?_)
                  clear hK K
                  refine wpAnyH_done (by kernel_rfl) ?_ _
                  have HAP := hid_mkC (HCP.out.drew.app (x := ⟨A0, A1, A2, A3, false⟩) HCK.out hown8 hg8)
                  rw [← HXN.out] at HAP
                  clear r00 r01 r02 r03 o0 c0 r0 r1 hHeld hown8 hg8
                  go_wp2
                  go_roundw
                  case rel => exact ⟨k + 1, c8, a8, by omega, by go_num, HAP.out⟩
                  case measure => simp only [intOf]; omega
            · obtain rfl : m = k := by omega
              have HROW : Hid (W5.ownsRow B 101 5 (.slice a5 m c5) m (crossCells (clsC l n))) := (by have h := hP.out.out.row; rw [clC_len] at h; rw [HCC.out.1]; exact h : W5.ownsRow B 101 5 (.slice a5 m c5) m (crossCells (clsC l n)))
              have HBW : Hid (Below w.heap.size w W5) := hP.out.bel
              have HBX : Hid (W5.heap[w.heap.size]? = some (.cells #[.slice none 0 0, .int .i64 0] 24 (0, 0))) := hP.out.b0
              have hwB : w.heap.size + 1 < B := hP.out.lts.1
              have HLO : Hid (clsO l n = lo) := HCC.out.2
              have c0 : W5.cell? ⟨w.heap.size + 1, 0, none⟩ = some (.slice a5 m c5) := block_cell hP.out.out.box rfl
              have c1 : W5.cell? ⟨w.heap.size + 1, 1, none⟩ = some (.int .i64 (lo : Nat)) := block_cell hP.out.out.box rfl
              have l1 := (Array.getElem?_eq_some_iff.1 hP.out.out.box).1
              have r0 : W5.cell? ⟨w.heap.size, 0, none⟩ = some (.slice none 0 0) := block_cell HBX.out rfl
              have r1 : W5.cell? ⟨w.heap.size, 1, none⟩ = some (.int .i64 0) := block_cell HBX.out rfl
              have f0 : W5.frozen? ⟨w.heap.size, 0, none⟩ = false := block_frozen HBX.out
              have f1 : W5.frozen? ⟨w.heap.size, 1, none⟩ = false := block_frozen HBX.out
              have lw : w.heap.size < W5.heap.size := (Array.getElem?_eq_some_iff.1 HBX.out).1
              clear hP HCP
              go_wp2
              have hX := set_block (i := 1) (u := .int .i64 (lo : Nat)) (set_block (i := 0) (u := .slice a5 m c5) HBX.out)
              have x0 := block_cell (i := 0) (v := .slice a5 m c5) hX rfl
              have x1 := block_cell (i := 1) (v := .int .i64 (lo : Nat)) hX rfl
              have hgg := grown_trans (set_grown W5 w.heap.size 0 (.slice a5 m c5)) (set_grown (W5.setCell ⟨w.heap.size, 0, none⟩ (.slice a5 m c5)) w.heap.size 1 (.int .i64 (lo : Nat)))
              refine bodyPost_ret (v := .agg #[.slice a5 m c5, .int .i64 (lo : Nat)]) (by simp [results, Try.results37, go_sem, x0, x1]) rfl ⟨a5, c5, by rw [HLO.out], own_low (HROW.out.kept hgg ?_) (by omega), HBW.out.grown hgg HBW.out.size (fun q hq => by have := Option.some.inj hq; omega)⟩
              cases hv : (Value.slice a5 m c5).ownBlock with
              | none => exact Or.inl rfl
              | some q => exact Or.inr (fun e => by have := (HROW.out.lt q hv).1; have := Option.some.inj e; omega)
end Go.Proofs.Ytfceigcjonlhkaa

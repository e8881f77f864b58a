/- Several texts of the proof, one behind the other. -/
import Derived.Test.YtagaajlbkfkaiaaJ1P
import Derived.Test.YtagaajlbkfkaiaaF2P
/- Plain mathematics: rings and pieces where a crossing, or two, are passed straight. -/
namespace Go.Proofs.Ytagaajlbkfkaiaa

/-- How many rings in all. -/
def cyA (f : Nat → Nat) (M : Nat) : Nat := cyN f M fun _ => true
theorem cyA_join {f : Nat → Nat} {M : Nat} (h : Bij f M) {a b : Nat} (ha : a < M) (hb : b < M) (hn : ¬ Con (eds f M) a b) : cyA (tr f a b) M + 1 = cyA f M := by
  have := cyN_join h (fun _ => true) ha hb hn (fun _ _ _ _ => rfl) rfl
  rw [if_pos rfl] at this
  exact this
theorem cyA_part {f : Nat → Nat} {M : Nat} (h : Bij f M) {a b : Nat} (ha : a < M) (hb : b < M) (hne : a ≠ b) (hc : Con (eds f M) a b) : cyA f M + 1 = cyA (tr f a b) M := by
  have := cyN_part h (fun _ => true) ha hb hne hc (fun _ _ _ _ => rfl)
  rw [if_pos rfl] at this
  exact this
theorem cyA_congr {f g : Nat → Nat} {M : Nat} (e : ∀ x, x < M → f x = g x) : cyA f M = cyA g M := cyN_congr e _
/-- A place is taken out of its ring: it lies alone then. -/
theorem cyA_del {f : Nat → Nat} {M : Nat} (h : Bij f M) {w z : Nat} (hw : w < M) (e : f w = z) (hne : w ≠ z) : cyA f M + 1 = cyA (tr f w z) M :=
  cyA_part h hw (e ▸ h.lt w hw) hne (e ▸ con_f hw)
/-- A place that lies alone is laid behind another. -/
theorem cyA_ins {f : Nat → Nat} {M : Nat} (h : Bij f M) {w z : Nat} (hw : w < M) (hz : z < M) (e : f z = z) (hne : w ≠ z) : cyA (tr f w z) M + 1 = cyA f M := by
  refine cyA_join h hw hz fun hc => hne ?_
  have hS : Closed (eds f M) fun y => y = z := closed_eds.2 fun i hi => by
    constructor
    · intro q; rw [q]; exact e
    · intro q; exact h.inj i z hi hz (by rw [q, e])
  exact hc.symm _ hS rfl

theorem rootT_iff {E : List (Nat × Nat)} {n : Nat} {W : List Nat} (h : Least E n W) {v : Nat} (hv : v < n) : W.getD v 0 = v ↔ ∀ u, Con E v u → v ≤ u := by
  constructor
  · intro e u hu
    have := (h.2 v hv).2 u hu
    omega
  · intro q
    have h1 := q _ (h.2 v hv).1
    have h2 := h.le hv
    omega
/-- How many classes under some edges. -/
def kN (E : List (Nat × Nat)) (M : Nat) : Nat := rq (levR (List.range M) E M) (fun _ => true) M
theorem kN_le {E F : List (Nat × Nat)} {M : Nat} (hE : ∀ e, e ∈ E → e.1 < M ∧ e.2 < M) (hF : ∀ e, e ∈ F → e.1 < M ∧ e.2 < M) (h : ∀ x y, Con E x y → Con F x y) : kN F M ≤ kN E M := by
  have lE := levR_least hE M (Nat.le_refl _)
  have lF := levR_least hF M (Nat.le_refl _)
  unfold kN
  rw [rq_eq, rq_eq]
  refine List.countP_mono_left fun v hv q => ?_
  have hv := List.mem_range.1 hv
  simp only [Bool.and_true, decide_eq_true_eq] at q ⊢
  exact (rootT_iff lE hv).2 fun u hu => (rootT_iff lF hv).1 q u (h _ _ hu)
theorem kN_edge {E : List (Nat × Nat)} {M : Nat} (hE : ∀ e, e ∈ E → e.1 < M ∧ e.2 < M) {a b : Nat} (ha : a < M) (hb : b < M) : kN E M ≤ kN (E ++ [(a, b)]) M + 1 := by
  have lE := levR_least hE M (Nat.le_refl _)
  have hF : ∀ e, e ∈ E ++ [(a, b)] → e.1 < M ∧ e.2 < M := fun e he => by
    rcases List.mem_append.1 he with he | he
    · exact hE e he
    · rw [List.mem_singleton.1 he]; exact ⟨ha, hb⟩
  have lF := levR_least hF M (Nat.le_refl _)
  have em := lF.eq (mer_least lE a b ha hb hE)
  unfold kN
  rw [em]
  by_cases hne : (levR (List.range M) E M).getD a 0 = (levR (List.range M) E M).getD b 0
  · rw [mer_same hne]; omega
  · have := rq_mer lE (fun _ => true) ha hb hne M (Nat.le_refl _)
    have q := Nat.le_refl (rq (levR (List.range M) E M) (fun _ => true) M)
    split at this <;> omega

/-- The edges of a renaming and of the turning round. -/
def edb (f a : Nat → Nat) (M : Nat) : List (Nat × Nat) := eds f M ++ eds a M
theorem edb_lt {f a : Nat → Nat} {M : Nat} (hf : ∀ x, x < M → f x < M) (ha : ∀ x, x < M → a x < M) : ∀ e, e ∈ edb f a M → e.1 < M ∧ e.2 < M := fun e he => by
  rcases List.mem_append.1 he with he | he
  · exact eds_lt hf e he
  · exact eds_lt ha e he
theorem closed_edb {f a : Nat → Nat} {M : Nat} {S : Nat → Prop} : Closed (edb f a M) S ↔ (∀ i, i < M → (S i ↔ S (f i))) ∧ ∀ i, i < M → (S i ↔ S (a i)) := by
  constructor
  · intro h
    exact ⟨closed_eds.1 fun e he => h e (List.mem_append_left _ he), closed_eds.1 fun e he => h e (List.mem_append_right _ he)⟩
  · rintro ⟨h1, h2⟩ e he
    rcases List.mem_append.1 he with he | he
    · exact closed_eds.2 h1 e he
    · exact closed_eds.2 h2 e he

/-- A curl: a ring of one place P; al P, U and V are the others that come in. g passes straight. -/
structure CurlG (f g al : Nat → Nat) (M P Q U V : Nat) : Prop where
  bf : Bij f M
  la : ∀ x, x < M → al x < M
  lp : P < M
  lq : Q < M
  lu : U < M
  lv : V < M
  pq : P ≠ Q
  pu : P ≠ U
  pv : P ≠ V
  qu : Q ≠ U
  qv : Q ≠ V
  uv : U ≠ V
  aq : al P = Q
  fp : f P = P
  fq : f Q = al V
  fu : f U = Q
  fv : f V = al U
  gp : g P = al V
  gq : g Q = al U
  gu : g U = P
  gv : g V = Q
  go : ∀ x, x < M → x ≠ P → x ≠ Q → x ≠ U → x ≠ V → g x = f x
theorem CurlG.count {f g al : Nat → Nat} {M P Q U V : Nat} (h : CurlG f g al M P Q U V) : cyA g M + 1 = cyA f M := by
  have b1 := h.bf.tr h.lu h.lq
  have c1 := cyA_del h.bf h.lu h.fu (Ne.symm h.qu)
  have e1 : tr f U Q P = P := by rw [tr_o f h.pu h.pq, h.fp]
  have c2 := cyA_ins b1 h.lu h.lp e1 (Ne.symm h.pu)
  have b2 := b1.tr h.lu h.lp
  have e2 : tr (tr f U Q) U P Q = Q := by rw [tr_o _ h.qu (Ne.symm h.pq), tr_b, h.fu]
  have c3 := cyA_ins b2 h.lv h.lq e2 (Ne.symm h.qv)
  have e : cyA (tr (tr (tr f U Q) U P) V Q) M = cyA g M := cyA_congr fun x hx => by
    by_cases x1 : x = P
    · rw [x1, tr_o _ h.pv h.pq, tr_b, tr_a, h.fq, h.gp]
    · by_cases x2 : x = Q
      · rw [x2, tr_b, tr_o _ (Ne.symm h.uv) (Ne.symm h.pv), tr_o _ (Ne.symm h.uv) (Ne.symm h.qv), h.fv, h.gq]
      · by_cases x3 : x = U
        · rw [x3, tr_o _ h.uv (Ne.symm h.qu), tr_a, e1, h.gu]
        · by_cases x4 : x = V
          · rw [x4, tr_a, e2, h.gv]
          · rw [tr_o _ x4 x2, tr_o _ x3 x1, tr_o _ x3 x2, h.go x hx x1 x2 x3 x4]
  omega
theorem CurlG.con {f g al : Nat → Nat} {M P Q U V : Nat} (h : CurlG f g al M P Q U V) (x y : Nat) (hc : Con (edb f al M) x y) : Con (edb g al M) x y := fun S hS => by
  obtain ⟨s1, s2⟩ := closed_edb.1 hS
  refine hc S (closed_edb.2 ⟨fun i hi => ?_, s2⟩)
  have a1 := s1 U h.lu
  have a2 := s2 P h.lp
  have a3 := s1 V h.lv
  have a4 := s2 U h.lu
  have a5 := s2 V h.lv
  rw [h.gu] at a1
  rw [h.aq] at a2
  rw [h.gv] at a3
  by_cases x1 : i = P
  · rw [x1, h.fp]
  · by_cases x2 : i = Q
    · rw [x2, h.fq, ← a5, ← a3]
    · by_cases x3 : i = U
      · rw [x3, h.fu, a1, a2]
      · by_cases x4 : i = V
        · rw [x4, h.fv, ← a4, a1, a2, a3]
        · rw [← h.go i hi x1 x2 x3 x4]; exact s1 i hi
end Go.Proofs.Ytagaajlbkfkaiaa
/- Plain mathematics: Euler's number of a piece is even and at most two, arc by arc. -/
namespace Go.Proofs.Ytagaajlbkfkaiaa

theorem Bij.congr {f g : Nat → Nat} {M : Nat} (h : Bij f M) (e : ∀ x, x < M → f x = g x) : Bij g M :=
  ⟨fun x hx => by rw [← e x hx]; exact h.lt x hx, fun x y hx hy q => h.inj x y hx hy (by rw [e x hx, e y hy, q])⟩
/-- The first i arcs are crossed, the others are not. -/
def gI (C : List Cr) (i x : Nat) : Nat := up0 (fun j => if j ≤ 2 * i then fd C j else fd C (al j)) x
theorem gI_zero {C : List Cr} {x : Nat} (h : 1 ≤ x) : gI C 0 x = fd C (al x) := by
  unfold gI
  rw [up0_pos _ h, if_neg (by omega)]
theorem gI_next (C : List Cr) (i x : Nat) : tr (gI C i) (2 * i + 1) (2 * i + 2) x = gI C (i + 1) x := by
  by_cases h1 : x = 2 * i + 1
  · rw [h1, tr_a]
    unfold gI
    rw [up0_pos _ (by omega), up0_pos _ (by omega), if_neg (by omega), if_pos (by omega), al_even]
  · by_cases h2 : x = 2 * i + 2
    · rw [h2, tr_b]
      unfold gI
      rw [up0_pos _ (by omega), up0_pos _ (by omega), if_neg (by omega), if_pos (by omega), al_odd]
    · rw [tr_o _ h1 h2]
      unfold gI
      by_cases h0 : x = 0
      · rw [h0]; rfl
      · rw [up0_pos _ (by omega), up0_pos _ (by omega)]
        by_cases h3 : x ≤ 2 * i
        · rw [if_pos h3, if_pos (by omega)]
        · rw [if_neg h3, if_neg (by omega)]
theorem gI_bij {C : List Cr} {loops : Int} (hm : mayD C loops = true) : ∀ i, i ≤ 2 * C.length → Bij (gI C i) (4 * C.length + 1) := by
  intro i
  induction i with
  | zero =>
    intro _
    refine (bij_up0 (f := fun j => fd C (al j)) (n := 4 * C.length) (fun a h1 h2 => ?_) (fun a b h1 h2 h3 h4 e => ?_)).congr fun x hx => ?_
    · obtain ⟨a1, a2, -, -⟩ := al_may h1 h2
      exact fd_closed hm _ a1 a2
    · obtain ⟨a1, a2, -, -⟩ := al_may h1 h2
      obtain ⟨b1, b2, -, -⟩ := al_may h3 h4
      have := fd_inj hm _ _ a1 a2 b1 b2 e
      rw [← al_al h1, this, al_al h3]
    · by_cases h0 : x = 0
      · rw [h0]; rfl
      · rw [gI_zero (by omega), up0_pos _ (by omega)]
  | succ i ih =>
    intro hi
    exact ((ih (by omega)).tr (a := 2 * i + 1) (b := 2 * i + 2) (by omega) (by omega)).congr fun x _ => gI_next C i x
theorem gI_last {C : List Cr} {x : Nat} (h : x < 4 * C.length + 1) : gI C (2 * C.length) x = up0 (fd C) x := by
  unfold gI
  by_cases h0 : x = 0
  · rw [h0]; rfl
  · rw [up0_pos _ (by omega), up0_pos _ (by omega), if_pos (by omega)]
theorem gI_pos {C : List Cr} {loops : Int} (hm : mayD C loops = true) (i : Nat) {x : Nat} (h1 : 1 ≤ x) (h2 : x ≤ 4 * C.length) : 1 ≤ gI C i x ∧ gI C i x ≤ 4 * C.length ∧ lvC C (gI C i x) = if x ≤ 2 * i then dC C x else lvC C x := by
  unfold gI
  rw [up0_pos _ h1]
  by_cases h3 : x ≤ 2 * i
  · rw [if_pos h3, if_pos h3]
    have := fd_closed hm x h1 h2
    exact ⟨this.1, this.2, lv_fd hm h1 h2⟩
  · rw [if_neg h3, if_neg h3]
    obtain ⟨a1, a2, -, -⟩ := al_may h1 h2
    have := fd_closed hm _ a1 a2
    exact ⟨this.1, this.2, by rw [lv_fd hm a1 a2, (dC_al h1 h2).1]⟩
theorem lv_odd (C : List Cr) (i : Nat) : lvC C (2 * i + 1) = (arE C i).2 ∧ lvC C (2 * i + 2) = (arE C i).1 := by
  unfold lvC arE dA dB
  constructor
  · simp only [show (2 * i + 1) % 2 = 1 by omega, show (2 * i + 1 + 1) / 2 = i + 1 by omega]
    rfl
  · simp only [show (2 * i + 2) % 2 = 0 by omega, show (2 * i + 2 + 1) / 2 = i + 1 by omega]
    rfl
theorem lv_dC_in {C : List Cr} {i x : Nat} (h1 : 1 ≤ x) (h2 : x ≤ 2 * i) : Con (incl (arE C) (fun _ => true) i) (lvC C x) (dC C x) := by
  have h : 1 ≤ dA x ∧ dA x ≤ i := by unfold dA; omega
  have hmem : arE C (dA x - 1) ∈ incl (arE C) (fun _ => true) i := incl_mem.2 ⟨dA x - 1, by omega, rfl, rfl⟩
  have e : arE C (dA x - 1) = (enC C (dA x) true, enC C (dA x) false) := by
    unfold arE
    rw [show dA x - 1 + 1 = dA x by omega]
  rw [e] at hmem
  have hc := Con.edge hmem
  unfold lvC dC
  cases dB x
  · exact hc.symm
  · exact hc
/-- What is joined by rings is joined by arcs. -/
theorem ring_arcs {C : List Cr} {loops : Int} (hm : mayD C loops = true) (i : Nat) {x y : Nat} (hx : 1 ≤ x) (hc : Con (eds (gI C i) (4 * C.length + 1)) x y) : Con (incl (arE C) (fun _ => true) i) (lvC C x) (lvC C y) := by
  have := hc (fun z => 1 ≤ z ∧ Con (incl (arE C) (fun _ => true) i) (lvC C x) (lvC C z)) (closed_eds.2 fun z hz => by
    by_cases h0 : z = 0
    · rw [h0]
      have e : gI C i 0 = 0 := rfl
      rw [e]
    · obtain ⟨g1, g2, g3⟩ := gI_pos hm i (x := z) (by omega) (by omega)
      rw [g3]
      have hcz : Con (incl (arE C) (fun _ => true) i) (lvC C z) (if z ≤ 2 * i then dC C z else lvC C z) := by
        by_cases h3 : z ≤ 2 * i
        · rw [if_pos h3]; exact lv_dC_in (by omega) h3
        · rw [if_neg h3]; exact Con.refl _ _
      exact ⟨fun q => ⟨g1, q.2.trans hcz⟩, fun q => ⟨by omega, q.2.trans hcz.symm⟩⟩) ⟨hx, Con.refl _ _⟩
  exact this.2
theorem incl_sub {C : List Cr} {i : Nat} (hi : i ≤ 2 * C.length) {x y : Nat} (hc : Con (incl (arE C) (fun _ => true) i) x y) : Con (arcE C) x y := fun S hS hx => hc S (fun e he => by
  obtain ⟨t, ht, -, rfl⟩ := incl_mem.1 he
  exact hS _ (List.mem_map.2 ⟨t, List.mem_range.2 (by omega), rfl⟩)) hx
theorem arE_lt {C : List Cr} {loops : Int} (hm : mayD C loops = true) : ∀ i, i < 2 * C.length → (arE C i).1 < C.length ∧ (arE C i).2 < C.length := fun i hi => by
  have h := arcE_lt hm (arE C i) (List.mem_map.2 ⟨i, List.mem_range.2 hi, rfl⟩)
  exact h
/-- The darts of a piece, by its lowest crossing. -/
def qD (C : List Cr) (p j : Nat) : Bool := decide (1 ≤ j) && decide ((whoM C).getD (lvC C j) 0 = p)
def qC (C : List Cr) (p v : Nat) : Bool := decide ((whoM C).getD v 0 = p)
theorem qD_inv {C : List Cr} {loops : Int} (hm : mayD C loops = true) (p : Nat) {i : Nat} (_hi : i ≤ 2 * C.length) (x y : Nat) (_hx : x < 4 * C.length + 1) (hc : Con (eds (gI C i) (4 * C.length + 1)) x y) : qD C p x = qD C p y := by
  have hW := whoM_least hm
  exact hc (fun z => qD C p x = qD C p z) (closed_eds.2 fun z hz => by
    by_cases h0 : z = 0
    · rw [h0]
      exact Iff.rfl
    · obtain ⟨g1, g2, g3⟩ := gI_pos hm i (x := z) (by omega) (by omega)
      have l1 := lv_lt hm (j := z) (by omega) (by omega)
      have l2 := lv_lt hm g1 g2
      have hcz : Con (arcE C) (lvC C z) (lvC C (gI C i z)) := by
        rw [g3]
        by_cases h3 : z ≤ 2 * i
        · rw [if_pos h3]; exact lv_dC (by omega) (by omega)
        · rw [if_neg h3]; exact Con.refl _ _
      have e : qD C p z = qD C p (gI C i z) := by
        unfold qD
        rw [(hW.same l1 l2).2 hcz, decide_eq_true (show 1 ≤ z by omega), decide_eq_true g1]
      rw [e]) rfl
theorem euler_steps {C : List Cr} {loops : Int} (hm : mayD C loops = true) (p : Nat) (hbase : cyN (gI C 0) (4 * C.length + 1) (qD C p) = (List.range C.length).countP (qC C p)) : ∀ i, i ≤ 2 * C.length →
    cyN (gI C i) (4 * C.length + 1) (qD C p) + (List.range C.length).countP (qC C p) ≤ (List.range i).countP (fun t => qD C p (2 * t + 1)) + 2 * rq (cls (arE C) (fun _ => true) C.length i) (qC C p) C.length ∧
    (cyN (gI C i) (4 * C.length + 1) (qD C p) + (List.range C.length).countP (qC C p) + (List.range i).countP (fun t => qD C p (2 * t + 1))) % 2 = 0 := by
  have hW := whoM_least hm
  intro i
  induction i with
  | zero =>
    intro _
    rw [hbase]
    have e : rq (cls (arE C) (fun _ => true) C.length 0) (qC C p) C.length = (List.range C.length).countP (qC C p) := by
      rw [rq_eq]
      refine List.countP_congr fun v hv => ?_
      have : (cls (arE C) (fun _ => true) C.length 0).getD v 0 = v := by
        show (List.range C.length).getD v 0 = v
        rw [List.getD_eq_getElem?_getD, List.getElem?_range (List.mem_range.1 hv)]
        rfl
      rw [this, decide_eq_true rfl, Bool.true_and]
    rw [e]
    simp only [List.range_zero, List.countP_nil]
    omega
  | succ i ih =>
    intro hi
    obtain ⟨i1, i2⟩ := ih (by omega)
    have hB := gI_bij hm i (by omega)
    have hL := cls_least (E := arE C) (K := fun _ => true) (n := C.length) (m := i) fun t ht => arE_lt hm t (by omega)
    obtain ⟨e1, e2⟩ := arE_lt hm i (by omega)
    obtain ⟨v1, v2⟩ := lv_odd C i
    have hQ := qD_inv hm p (i := i) (by omega)
    have hedge : Con (arcE C) (arE C i).1 (arE C i).2 := Con.edge (List.mem_map.2 ⟨i, List.mem_range.2 (by omega), rfl⟩)
    have hab : qD C p (2 * i + 1) = qD C p (2 * i + 2) := by
      unfold qD
      rw [v1, v2, (hW.same e1 e2).2 hedge, decide_eq_true (show 1 ≤ 2 * i + 1 by omega), decide_eq_true (show 1 ≤ 2 * i + 2 by omega)]
    have hcong : cyN (gI C (i + 1)) (4 * C.length + 1) (qD C p) = cyN (tr (gI C i) (2 * i + 1) (2 * i + 2)) (4 * C.length + 1) (qD C p) := cyN_congr (fun x _ => (gI_next C i x).symm) _
    have hmm : (List.range (i + 1)).countP (fun t => qD C p (2 * t + 1)) = (List.range i).countP (fun t => qD C p (2 * t + 1)) + if qD C p (2 * i + 1) = true then 1 else 0 := by
      rw [List.range_succ, List.countP_append, List.countP_singleton]
    have hq1 : qD C p (2 * i + 1) = qC C p (arE C i).2 := by
      unfold qD qC
      rw [v1, decide_eq_true (show 1 ≤ 2 * i + 1 by omega), Bool.true_and]
    rw [hcong, hmm, cls_next (E := arE C) (K := fun _ => true) rfl]
    by_cases hc : Con (eds (gI C i) (4 * C.length + 1)) (2 * i + 1) (2 * i + 2)
    · have k1 := cyN_part hB (qD C p) (a := 2 * i + 1) (b := 2 * i + 2) (by omega) (by omega) (by omega) hc hQ
      have hcc := ring_arcs hm i (by omega) hc
      rw [v1, v2] at hcc
      rw [mer_same ((hL.same e1 e2).2 hcc.symm), ← k1]
      split <;> rename_i hq <;> simp only [hq, if_true, if_false, Bool.false_eq_true] at * <;> omega
    · have k1 := cyN_join hB (qD C p) (a := 2 * i + 1) (b := 2 * i + 2) (by omega) (by omega) hc hQ hab
      by_cases hs : (cls (arE C) (fun _ => true) C.length i).getD (arE C i).1 0 = (cls (arE C) (fun _ => true) C.length i).getD (arE C i).2 0
      · rw [mer_same hs]
        by_cases hq : qD C p (2 * i + 1) = true
        · rw [if_pos hq] at k1 ⊢; omega
        · rw [if_neg hq] at k1 ⊢; omega
      · have hr := rq_mer hL (qC C p) e1 e2 hs C.length (Nat.le_refl _)
        have l1 := hL.lt e1
        have l2 := hL.lt e2
        have w1 := (hW.same e1 l1).2 (incl_sub (by omega) (hL.2 _ e1).1)
        have w2 := (hW.same e2 l2).2 (incl_sub (by omega) (hL.2 _ e2).1)
        have w3 := (hW.same e1 e2).2 hedge
        have hmax : qC C p (max ((cls (arE C) (fun _ => true) C.length i).getD (arE C i).1 0) ((cls (arE C) (fun _ => true) C.length i).getD (arE C i).2 0)) = qD C p (2 * i + 1) := by
          rw [hq1]
          unfold qC
          rcases Nat.le_total ((cls (arE C) (fun _ => true) C.length i).getD (arE C i).1 0) ((cls (arE C) (fun _ => true) C.length i).getD (arE C i).2 0) with hle | hle
          · rw [Nat.max_eq_right hle, ← w2]
          · rw [Nat.max_eq_left hle, ← w1, w3]
        rw [hmax] at hr
        by_cases hq : qD C p (2 * i + 1) = true
        · rw [if_pos hq] at k1 ⊢
          rw [if_pos ⟨by omega, hq⟩] at hr
          omega
        · rw [if_neg hq] at k1 ⊢
          rw [if_neg fun q => hq q.2] at hr
          omega
end Go.Proofs.Ytagaajlbkfkaiaa
/- Plain mathematics: Euler's number of a piece: the crossings as rings, and the end. -/
namespace Go.Proofs.Ytagaajlbkfkaiaa

theorem pd_ne {C : List Cr} {loops : Int} (hm : mayD C loops = true) {k s t : Nat} (hk : k < C.length) (hs : s < 4) (ht : t < 4) (e : pd C (4 * k + s) = pd C (4 * k + t)) : s = t := by
  have h1 := (pd_at hm k s hk hs).2.2.1
  have h2 := (pd_at hm k t hk ht).2.2.1
  rw [e] at h1
  omega
theorem crossing_ring {C : List Cr} {loops : Int} (hm : mayD C loops = true) {k : Nat} (hk : k < C.length) : ∃ s0, s0 < 4 ∧ ∀ s, s < 4 → (cyW (gI C 0) (4 * C.length + 1)).getD (pd C (4 * k + s)) 0 = pd C (4 * k + s0) := by
  have hB := gI_bij hm 0 (Nat.zero_le _)
  have hW := cyW_least hB.lt
  have hg : ∀ s, s < 4 → gI C 0 (pd C (4 * k + s)) = pd C (4 * k + (s + 3) % 4) := fun s hs => by
    obtain ⟨-, -, -, h3, h4⟩ := pd_at hm k s hk hs
    rw [gI_zero h3, pd_sig hm k s hk hs]
  have hlt : ∀ s, s < 4 → pd C (4 * k + s) < 4 * C.length + 1 := fun s hs => by have := (pd_at hm k s hk hs).2.2.2.2; omega
  have hcl : Closed (eds (gI C 0) (4 * C.length + 1)) fun z => ∃ s, s < 4 ∧ z = pd C (4 * k + s) := closed_eds.2 fun z hz => by
    constructor
    · rintro ⟨s, hs, rfl⟩
      exact ⟨(s + 3) % 4, Nat.mod_lt _ (by decide), hg s hs⟩
    · rintro ⟨s, hs, e⟩
      have h := hg ((s + 1) % 4) (Nat.mod_lt _ (by decide))
      rw [show ((s + 1) % 4 + 3) % 4 = s by omega, ← e] at h
      exact ⟨(s + 1) % 4, Nat.mod_lt _ (by decide), (hB.inj _ _ (hlt _ (Nat.mod_lt _ (by decide))) hz h).symm⟩
  have c1 : ∀ s, s < 4 → Con (eds (gI C 0) (4 * C.length + 1)) (pd C (4 * k + s)) (pd C (4 * k + (s + 3) % 4)) := fun s hs => by
    rw [← hg s hs]
    exact con_f (hlt s hs)
  have c0 : ∀ s, s < 4 → Con (eds (gI C 0) (4 * C.length + 1)) (pd C (4 * k + 0)) (pd C (4 * k + s)) := fun s hs => by
    have d0 := c1 0 (by decide)
    have d3 := c1 3 (by decide)
    have d2 := c1 2 (by decide)
    match s, hs with
    | 0, _ => exact Con.refl _ _
    | 3, _ => exact d0
    | 2, _ => exact d0.trans d3
    | 1, _ => exact d0.trans (d3.trans d2)
  obtain ⟨s0, hs0, e0⟩ := (hW.2 _ (hlt 0 (by decide))).1 _ hcl ⟨0, by decide, rfl⟩
  refine ⟨s0, hs0, fun s hs => ?_⟩
  rw [← e0]
  exact (hW.same (hlt s hs) (hlt 0 (by decide))).2 (c0 s hs).symm
theorem qD_pd {C : List Cr} {loops : Int} (hm : mayD C loops = true) (p : Nat) {k s : Nat} (hk : k < C.length) (hs : s < 4) : qD C p (pd C (4 * k + s)) = qC C p k := by
  obtain ⟨-, h1, -, h3, -⟩ := pd_at hm k s hk hs
  unfold qD qC
  rw [h1, decide_eq_true h3, Bool.true_and]
theorem euler_base {C : List Cr} {loops : Int} (hm : mayD C loops = true) (p : Nat) : cyN (gI C 0) (4 * C.length + 1) (qD C p) = (List.range C.length).countP (qC C p) := by
  unfold cyN
  rw [rq_eq, cnt_darts hm (P := fun v => decide ((cyW (gI C 0) (4 * C.length + 1)).getD v 0 = v) && qD C p v) (Qc := qC C p) (c := 1) (by simp [qD]) ?_, Nat.one_mul]
  intro k hk
  obtain ⟨s0, hs0, h⟩ := crossing_ring hm hk
  have key : ∀ s, s < 4 → (decide ((cyW (gI C 0) (4 * C.length + 1)).getD (pd C (4 * k + s)) 0 = pd C (4 * k + s)) && qD C p (pd C (4 * k + s))) = (decide (s0 = s) && qC C p k) := fun s hs => by
    rw [h s hs, qD_pd hm p hk hs]
    congr 1
    by_cases e : s0 = s
    · rw [e]; simp
    · rw [decide_eq_false e, decide_eq_false fun q => e (pd_ne hm hk hs0 hs q)]
  have k0 : (decide ((cyW (gI C 0) (4 * C.length + 1)).getD (pd C (4 * k)) 0 = pd C (4 * k)) && qD C p (pd C (4 * k))) = (decide (s0 = 0) && qC C p k) := key 0 (by decide)
  simp only [k0, key 1 (by decide), key 2 (by decide), key 3 (by decide)]
  cases qC C p k with
  | false => simp
  | true =>
    match s0, hs0 with
    | 0, _ => rfl
    | 1, _ => rfl
    | 2, _ => rfl
    | 3, _ => rfl
theorem cnt_by2 {h Q : Nat → Bool} (m : Nat) (e : ∀ t, t < m → h (2 * t) = Q t ∧ h (2 * t + 1) = Q t) : (List.range (2 * m)).countP h = 2 * (List.range m).countP Q := by
  induction m with
  | zero => rfl
  | succ m ih =>
    have e1 := e m (by omega)
    have e2 := ih fun t ht => e t (by omega)
    rw [show 2 * (m + 1) = 2 * m + 1 + 1 by omega]
    simp only [List.range_succ, List.countP_append, List.countP_singleton]
    rw [e2, e1.1, e1.2]
    omega
theorem euler_arcs {C : List Cr} {loops : Int} (hm : mayD C loops = true) (p : Nat) : (List.range (2 * C.length)).countP (fun t => qD C p (2 * t + 1)) = 2 * (List.range C.length).countP (qC C p) := by
  have hW := whoM_least hm
  have h4 := cnt_darts hm (P := qD C p) (Qc := qC C p) (c := 4) (by simp [qD]) (fun k hk => by
    have k0 : qD C p (pd C (4 * k)) = qC C p k := qD_pd hm p (s := 0) hk (by decide)
    rw [k0, qD_pd hm p (s := 1) hk (by decide), qD_pd hm p (s := 2) hk (by decide), qD_pd hm p (s := 3) hk (by decide)]
    cases qC C p k <;> rfl)
  rw [cnt_up1 _ _ (by simp [qD]), show 4 * C.length = 2 * (2 * C.length) by omega, cnt_by2 (h := fun i => qD C p (i + 1)) (Q := fun t => qD C p (2 * t + 1)) (2 * C.length) (fun t ht => ⟨rfl, ?_⟩)] at h4
  · omega
  · obtain ⟨v1, v2⟩ := lv_odd C t
    obtain ⟨e1, e2⟩ := arE_lt hm t ht
    have hedge : Con (arcE C) (arE C t).1 (arE C t).2 := Con.edge (List.mem_map.2 ⟨t, List.mem_range.2 ht, rfl⟩)
    show qD C p (2 * t + 1 + 1) = qD C p (2 * t + 1)
    unfold qD
    rw [show 2 * t + 1 + 1 = 2 * t + 2 by omega, v1, v2, (hW.same e1 e2).2 hedge, decide_eq_true (show 1 ≤ 2 * t + 1 by omega), decide_eq_true (show 1 ≤ 2 * t + 2 by omega)]
theorem one_piece {C : List Cr} {loops : Int} (hm : mayD C loops = true) {p : Nat} (hp : p < C.length) (hr : (whoM C).getD p 0 = p) : rq (cls (arE C) (fun _ => true) C.length (2 * C.length)) (qC C p) C.length = 1 := by
  have hW := whoM_least hm
  have hL := cls_least (E := arE C) (K := fun _ => true) (n := C.length) (m := 2 * C.length) fun t ht => arE_lt hm t ht
  rw [incl_all] at hL
  have e : cls (arE C) (fun _ => true) C.length (2 * C.length) = whoM C := hL.eq hW
  rw [e, rq_eq]
  have h1 : (List.range C.length).count p = 1 := by
    rw [List.Nodup.count List.nodup_range, if_pos (List.mem_range.2 hp)]
  rw [← h1]
  unfold List.count
  refine List.countP_congr fun v _ => ?_
  unfold qC
  simp only [Bool.and_eq_true, decide_eq_true_eq, beq_iff_eq]
  constructor
  · rintro ⟨a, b⟩; omega
  · intro a
    rw [a]
    exact ⟨hr, hr⟩
theorem faces_count {C : List Cr} {loops : Int} (hm : mayD C loops = true) (p : Nat) : (headsM C).countP (fun g => decide ((whoM C).getD g 0 = p)) = cyN (up0 (fd C)) (4 * C.length + 1) (qD C p) := by
  have hW := whoM_least hm
  rw [← walks_cyN (fd_closed hm) (fun a b h1 h2 h3 h4 e => fd_inj hm a b h1 h2 h3 h4 e) (qD C p) (by simp [qD])]
  unfold headsM
  rw [List.countP_map]
  refine List.countP_congr fun l hl => ?_
  have hb := (heads_roots (fd_closed hm) (fun a b h1 h2 h3 h4 e => fd_inj hm a b h1 h2 h3 h4 e) (4 * C.length) (Nat.le_refl _)).1 l hl
  show decide ((whoM C).getD (dC C (l.getD 0 0)) 0 = p) = true ↔ qD C p (l.getD 0 0) = true
  unfold qD
  rw [(hW.same (lv_lt hm hb.1 hb.2) (d_may hm _ hb.1 hb.2).2.1).2 (lv_dC hb.1 hb.2), decide_eq_true hb.1, Bool.true_and]
/-- Euler's number of a piece is at most two, and even. -/
theorem euler_piece {C : List Cr} {loops : Int} (hm : mayD C loops = true) {p : Nat} (hp : p < C.length) (hr : (whoM C).getD p 0 = p) : exN C.length (headsM C) (whoM C) p ≤ 2 ∧ exN C.length (headsM C) (whoM C) p % 2 = 0 := by
  obtain ⟨h1, h2⟩ := euler_steps hm p (euler_base hm p) (2 * C.length) (Nat.le_refl _)
  rw [one_piece hm hp hr, euler_arcs hm p, cyN_congr (fun x hx => gI_last hx), ← faces_count hm p] at *
  have e : exN C.length (headsM C) (whoM C) p = (((headsM C).countP (fun g => decide ((whoM C).getD g 0 = p)) : Nat) : Int) - (((List.range C.length).countP (qC C p) : Nat) : Int) := rfl
  rw [e]
  omega
end Go.Proofs.Ytagaajlbkfkaiaa
/- Plain mathematics: planar, told by all rings and all pieces at once. -/
namespace Go.Proofs.Ytagaajlbkfkaiaa

def sN (h : Nat → Nat) : Nat → Nat
  | 0 => 0
  | n + 1 => sN h n + h n
theorem sN_congr {a b : Nat → Nat} {n : Nat} (e : ∀ p, p < n → a p = b p) : sN a n = sN b n := by
  induction n with
  | zero => rfl
  | succ n ih => show sN a n + a n = sN b n + b n; rw [ih fun p hp => e p (by omega), e n (by omega)]
theorem sN_le {a b : Nat → Nat} {n : Nat} (e : ∀ p, p < n → a p ≤ b p) : sN a n ≤ sN b n := by
  induction n with
  | zero => exact Nat.le_refl _
  | succ n ih => have := ih fun p hp => e p (by omega); have := e n (by omega); show sN a n + a n ≤ sN b n + b n; omega
theorem sN_eq {a b : Nat → Nat} {n : Nat} (e : ∀ p, p < n → a p ≤ b p) (h : sN b n ≤ sN a n) : ∀ p, p < n → a p = b p := by
  induction n with
  | zero => intro p hp; omega
  | succ n ih =>
    have h1 := sN_le (n := n) fun p hp => e p (by omega)
    have h2 := e n (by omega)
    have h3 : sN b n + b n ≤ sN a n + a n := h
    intro p hp
    by_cases q : p = n
    · rw [q]; omega
    · exact ih (fun p hp => e p (by omega)) (by omega) p (by omega)
theorem sN_add (a b : Nat → Nat) (n : Nat) : sN (fun p => a p + b p) n = sN a n + sN b n := by
  induction n with
  | zero => rfl
  | succ n ih => show sN (fun p => a p + b p) n + (a n + b n) = sN a n + a n + (sN b n + b n); omega
theorem sN_zero {a : Nat → Nat} {n : Nat} (h : ∀ p, p < n → a p = 0) : sN a n = 0 := by
  induction n with
  | zero => rfl
  | succ n ih => show sN a n + a n = 0; rw [ih fun p hp => h p (by omega), h n (by omega)]
theorem sN_only {n q : Nat} (hq : q < n) : sN (fun p => if q = p then 1 else 0) n = 1 := by
  induction n with
  | zero => omega
  | succ n ih =>
    show sN (fun p => if q = p then 1 else 0) n + (if q = n then 1 else 0) = 1
    by_cases e : q = n
    · rw [if_pos e, sN_zero fun p hp => if_neg (by omega)]
    · rw [if_neg e, ih (by omega)]
/-- A list by the classes of its members. -/
theorem sum_cnt (W : Nat → Nat) (n : Nat) : ∀ G : List Nat, (∀ g, g ∈ G → W g < n) → sN (fun p => G.countP fun g => decide (W g = p)) n = G.length := by
  intro G
  induction G with
  | nil => intro _; exact sN_zero fun _ _ => rfl
  | cons g G ih =>
    intro h
    have e : sN (fun p => (g :: G).countP fun g => decide (W g = p)) n = sN (fun p => (G.countP fun g => decide (W g = p)) + if W g = p then 1 else 0) n := sN_congr fun p _ => by
      rw [List.countP_cons]
      by_cases q : W g = p
      · rw [if_pos (decide_eq_true q), if_pos q]
      · rw [if_neg (by simpa using q), if_neg q]
    rw [e, sN_add, ih fun x hx => h x (List.mem_cons_of_mem _ hx), sN_only (h g (List.mem_cons_self ..))]
    rfl
theorem sN_cnt (P : Nat → Bool) (n : Nat) : sN (fun p => if P p = true then 2 else 0) n = 2 * (List.range n).countP P := by
  induction n with
  | zero => rfl
  | succ n ih =>
    show sN (fun p => if P p = true then 2 else 0) n + (if P n = true then 2 else 0) = _
    rw [ih, List.range_succ, List.countP_append, List.countP_singleton]
    split <;> omega
/-- The pieces of a diagram. -/
def pcN (C : List Cr) : Nat := kN (arcE C) C.length
theorem pcN_eq (C : List Cr) : pcN C = (List.range C.length).countP fun p => decide ((whoM C).getD p 0 = p) := by
  unfold pcN kN
  rw [rq_eq]
  refine List.countP_congr fun v _ => ?_
  rw [Bool.and_true]
  rfl
theorem planar_sum {C : List Cr} {loops : Int} (hm : mayD C loops = true) : (facesM C).length ≤ C.length + 2 * pcN C ∧ (planarB C = true ↔ C.length + 2 * pcN C ≤ (facesM C).length) := by
  have hW := whoM_least hm
  have s1 := sum_cnt (fun g => (whoM C).getD g 0) C.length (headsM C) fun g hg => hW.lt (headsM_lt hm g hg)
  have s2 := sum_cnt (fun g => (whoM C).getD g 0) C.length (List.range C.length) fun g hg => hW.lt (List.mem_range.1 hg)
  have s3 := sN_cnt (fun p => decide ((whoM C).getD p 0 = p)) C.length
  rw [headsM_len] at s1
  rw [List.length_range] at s2
  rw [← pcN_eq] at s3
  have s4 := sN_add (fun p => (List.range C.length).countP fun g => decide ((whoM C).getD g 0 = p)) (fun p => if decide ((whoM C).getD p 0 = p) = true then 2 else 0) C.length
  rw [s2, s3] at s4
  have hle : ∀ p, p < C.length → ((headsM C).countP fun g => decide ((whoM C).getD g 0 = p)) ≤ ((List.range C.length).countP fun g => decide ((whoM C).getD g 0 = p)) + if decide ((whoM C).getD p 0 = p) = true then 2 else 0 := fun p hp => by
    by_cases hr : (whoM C).getD p 0 = p
    · have := (euler_piece hm hp hr).1
      unfold exN at this
      rw [if_pos (decide_eq_true hr)]
      omega
    · have h0 : ((headsM C).countP fun g => decide ((whoM C).getD g 0 = p)) = 0 := List.countP_eq_zero.2 fun g hg q => hr (by
        have q := of_decide_eq_true q
        have hg := headsM_lt hm g hg
        have := (hW.same (hW.lt hg) hg).2 (hW.2 g hg).1.symm
        rw [q] at this
        exact this)
      rw [h0]
      exact Nat.zero_le _
  have hsum := sN_le hle
  rw [s1, s4] at hsum
  refine ⟨hsum, ?_⟩
  rw [planarB_iff]
  constructor
  · intro h
    rw [← s1, ← s4]
    refine sN_le fun p hp => ?_
    by_cases hr : (whoM C).getD p 0 = p
    · have := h p hp hr
      unfold exN at this
      rw [if_pos (decide_eq_true hr)]
      omega
    · rw [if_neg (by simpa using hr)]
      have h0 : ((List.range C.length).countP fun g => decide ((whoM C).getD g 0 = p)) = 0 := List.countP_eq_zero.2 fun g hg q => hr (by
        have q := of_decide_eq_true q
        have hg := List.mem_range.1 hg
        have := (hW.same (hW.lt hg) hg).2 (hW.2 g hg).1.symm
        rw [q] at this
        exact this)
      rw [h0]
      exact Nat.zero_le _
  · intro h p hp hr
    rw [← s1, ← s4] at h
    have := sN_eq hle h p hp
    rw [if_pos (decide_eq_true hr)] at this
    unfold exN
    omega
end Go.Proofs.Ytagaajlbkfkaiaa

/- Several texts of the proof, one behind the other. -/
import Derived.Test.YtagaajlbkfkaiaaTK8P
import Derived.Test.YtagaajlbkfkaiaaF4P
/- Plain mathematics: straight rings that meet nothing that is left; what is left is planar. -/
namespace Go.Proofs.Ytagaajlbkfkaiaa

theorem fs_it {C : List Cr} {loops : Int} (hm : mayD C loops = true) (G : List Nat) {v : Nat} (h1 : 1 ≤ v) (h2 : v ≤ 4 * C.length) : ∀ i, 1 ≤ it (up0 (fs C G)) i v ∧ it (up0 (fs C G)) i v ≤ 4 * C.length := fun i => by
  induction i with
  | zero => exact ⟨h1, h2⟩
  | succ i ih => show 1 ≤ up0 (fs C G) (it (up0 (fs C G)) i v) ∧ up0 (fs C G) (it (up0 (fs C G)) i v) ≤ _; rw [up0_pos _ ih.1]; exact fs_may hm G ih.1 ih.2
/-- Straight back. -/
theorem fs_back {C : List Cr} {loops : Int} (hm : mayD C loops = true) {G : List Nat} {y : Nat} (h1 : 1 ≤ y) (h2 : y ≤ 4 * C.length) (hg : dC C y ∈ G) : dC C (al (fs C G y)) = dC C y ∧ fs C G (al (fs C G y)) = al y := by
  obtain ⟨g1, g2, g3⟩ := ein_onto hm h1 h2
  have s2 : (dS C y + 2) % 4 < 4 := Nat.mod_lt _ (by decide)
  have f : al (fs C G y) = ein C (dC C y) ((dS C y + 2) % 4) := by
    have := fs_in hm g1 g2 hg
    rw [← g3] at this
    rw [this]
    rfl
  have a := (ein_at hm _ _ g1 g2).2.2.2.2.1
  rw [← g3] at a
  rw [f, (ein_at hm _ _ g1 s2).2.2.1, fs_in hm g1 s2 hg, show ((dS C y + 2) % 4 + 2) % 4 = dS C y by omega, a]
  exact ⟨rfl, rfl⟩
/-- A ring that meets nothing: its darts. -/
theorem Lft.alone {C : List Cr} {loops : Int} {G L : List Nat} {P : Nat → Bool} (h : Lft C loops G L P) {v : Nat} (h1 : 1 ≤ v) (h2 : v ≤ 4 * C.length) (hn : ¬ Mt C G (eds (up0 (fs C G)) (4 * C.length + 1)) v) :
    ∀ i, dC C (it (up0 (fs C G)) i v) ∈ G ∧ dB (it (up0 (fs C G)) i v) = dB v := fun i => by
  have hg : ∀ i, dC C (it (up0 (fs C G)) i v) ∈ G := fun i => Classical.byContradiction fun q => hn ⟨_, ⟨(fs_it h.hm G h1 h2 i).1, (fs_it h.hm G h1 h2 i).2, q⟩, con_it (fs_bij h.hm G) (by omega) i⟩
  refine ⟨hg i, ?_⟩
  induction i with
  | zero => rfl
  | succ i ih =>
    have r := fs_it h.hm G h1 h2 i
    show dB (up0 (fs C G) (it (up0 (fs C G)) i v)) = _
    rw [up0_pos _ r.1, (h.straight r.1 r.2 (hg i)).2, ih]
theorem it_more {f : Nat → Nat} {M : Nat} (h : Bij f M) {v y : Nat} (hv : v < M) (hc : Con (eds f M) v y) : ∃ i, it f (i + 1) v = y := by
  obtain ⟨i, hi⟩ := it_con h hv hc
  obtain ⟨p, p0, hp⟩ := period h hv
  refine ⟨i + p - 1, ?_⟩
  rw [show i + p - 1 + 1 = i + p by omega, it_add, hp, hi]
/-- Its piece: itself, and itself turned round. -/
theorem Lft.both {C : List Cr} {loops : Int} {G L : List Nat} {P : Nat → Bool} (h : Lft C loops G L P) {v : Nat} (h1 : 1 ≤ v) (h2 : v ≤ 4 * C.length) (hn : ¬ Mt C G (eds (up0 (fs C G)) (4 * C.length + 1)) v) {j : Nat}
    (hc : Con (edb (up0 (fs C G)) al (4 * C.length + 1)) v j) : Con (eds (up0 (fs C G)) (4 * C.length + 1)) v j ∨ Con (eds (up0 (fs C G)) (4 * C.length + 1)) v (al j) := by
  have hB := fs_bij h.hm G
  have fw : ∀ z, z < 4 * C.length + 1 → (Con (eds (up0 (fs C G)) (4 * C.length + 1)) v z ∨ Con (eds (up0 (fs C G)) (4 * C.length + 1)) v (al z)) → (Con (eds (up0 (fs C G)) (4 * C.length + 1)) v (up0 (fs C G) z) ∨ Con (eds (up0 (fs C G)) (4 * C.length + 1)) v (al (up0 (fs C G) z))) := fun z hz q => by
    rcases q with q | q
    · exact Or.inl (q.trans (con_f hz))
    · obtain ⟨i, hi⟩ := it_more hB (by omega) q
      have r := fs_it h.hm G h1 h2 i
      have hg := (h.alone h1 h2 hn i).1
      have e : fs C G (it (up0 (fs C G)) i v) = al z := by rw [← hi]; show _ = up0 (fs C G) (it (up0 (fs C G)) i v); rw [up0_pos _ r.1]
      have b := (fs_back h.hm r.1 r.2 hg).2
      rw [e, al_back] at b
      have z1 : 1 ≤ z := by
        rcases Nat.eq_zero_or_pos z with rfl | hp
        · have := (fs_it h.hm G h1 h2 (i + 1)).1
          rw [hi, al_zero] at this
          omega
        · exact hp
      rw [up0_pos _ z1, b, al_back]
      exact Or.inr (con_it hB (by omega) i)
  refine hc (fun z => Con (eds (up0 (fs C G)) (4 * C.length + 1)) v z ∨ Con (eds (up0 (fs C G)) (4 * C.length + 1)) v (al z)) (closed_edb.2 ⟨fun z hz => ⟨fw z hz, fun q => ?_⟩, fun z hz => ?_⟩) (Or.inl (Con.refl _ _))
  · obtain ⟨p, p0, hp⟩ := period hB hz
    have key : ∀ i, Con (eds (up0 (fs C G)) (4 * C.length + 1)) v (it (up0 (fs C G)) (i + 1) z) ∨ Con (eds (up0 (fs C G)) (4 * C.length + 1)) v (al (it (up0 (fs C G)) (i + 1) z)) := fun i => by
      induction i with
      | zero => exact q
      | succ i ih => exact fw _ (it_lt hB hz (i + 1)) ih
    have := key (p - 1)
    rw [show p - 1 + 1 = p by omega, hp] at this
    exact this
  · show _ ∨ _ ↔ Con _ v (al z) ∨ Con _ v (al (al z))
    rw [al_back]
    exact Or.comm
theorem Lft.apart {C : List Cr} {loops : Int} {G L : List Nat} {P : Nat → Bool} (h : Lft C loops G L P) {v : Nat} (h1 : 1 ≤ v) (h2 : v ≤ 4 * C.length) (hn : ¬ Mt C G (eds (up0 (fs C G)) (4 * C.length + 1)) v) : ¬ Mt C G (edb (up0 (fs C G)) al (4 * C.length + 1)) v := by
  rintro ⟨j, ⟨j1, j2, j3⟩, hc⟩
  rcases h.both h1 h2 hn hc with q | q
  · exact hn ⟨j, ⟨j1, j2, j3⟩, q⟩
  · obtain ⟨i, hi⟩ := it_more (fs_bij h.hm G) (by omega) q
    have r := fs_it h.hm G h1 h2 i
    have hg := (h.alone h1 h2 hn i).1
    have e : fs C G (it (up0 (fs C G)) i v) = al j := by rw [← hi]; show _ = up0 (fs C G) (it (up0 (fs C G)) i v); rw [up0_pos _ r.1]
    have b := (fs_back h.hm r.1 r.2 hg).1
    rw [e, al_back] at b
    exact j3 (b ▸ hg)
/-- Rings that meet nothing: at most two in a piece. -/
theorem Lft.lone {C : List Cr} {loops : Int} {G L : List Nat} {P : Nat → Bool} (h : Lft C loops G L P) {WE : List Nat} (lE : Least (edb (up0 (fs C G)) al (4 * C.length + 1)) (4 * C.length + 1) WE) (b : Bool) :
    (List.range (4 * C.length + 1)).countP (fun v => (rootB (cyW (up0 (fs C G)) (4 * C.length + 1)) v && !mtB C G (eds (up0 (fs C G)) (4 * C.length + 1)) v) && decide (dB v = b)) ≤ (List.range (4 * C.length + 1)).countP fun v => rootB WE v && !mtB C G (edb (up0 (fs C G)) al (4 * C.length + 1)) v := by
  have hB := fs_bij h.hm G
  have hW := cyW_least hB.lt
  have un : ∀ v, ((rootB (cyW (up0 (fs C G)) (4 * C.length + 1)) v && !mtB C G (eds (up0 (fs C G)) (4 * C.length + 1)) v) && decide (dB v = b)) = true → (cyW (up0 (fs C G)) (4 * C.length + 1)).getD v 0 = v ∧ 1 ≤ v ∧ (¬ Mt C G (eds (up0 (fs C G)) (4 * C.length + 1)) v) ∧ dB v = b := fun v q => by
    rw [Bool.and_eq_true, Bool.and_eq_true] at q
    unfold rootB at q
    rw [Bool.and_eq_true, decide_eq_true_eq, decide_eq_true_eq, decide_eq_true_eq] at q
    refine ⟨q.1.1.1, q.1.1.2, fun m => ?_, q.2⟩
    have := q.1.2
    rw [mtB_iff.2 m] at this
    cases this
  refine inj_cnt (fun v => WE.getD v 0) (fun v hv hP => ?_) fun u v hu hv hPu hPv e => ?_
  · obtain ⟨-, v1, vn, -⟩ := un v hP
    refine ⟨lE.lt hv, ?_⟩
    have hc := (lE.2 v hv).1
    rw [Bool.and_eq_true]
    refine ⟨?_, ?_⟩
    · unfold rootB
      rw [Bool.and_eq_true]
      refine ⟨decide_eq_true (lE.root hv), decide_eq_true ?_⟩
      refine hc (fun z => 1 ≤ z) (closed_edb.2 ⟨fun z hz => ?_, fun z hz => ?_⟩) v1
      · rcases Nat.eq_zero_or_pos z with rfl | z1
        · exact Iff.rfl
        · rw [up0_pos _ z1]; exact ⟨fun _ => (fs_may h.hm G z1 (by omega)).1, fun _ => z1⟩
      · rcases Nat.eq_zero_or_pos z with rfl | z1
        · exact Iff.rfl
        · exact ⟨fun _ => (al_may (n := C.length) z1 (by omega)).1, fun _ => z1⟩
    · rw [Bool.not_eq_true']
      refine Bool.eq_false_iff.2 fun q => h.apart v1 (by omega) vn ?_
      obtain ⟨j, hj, hjc⟩ := mtB_iff.1 q
      exact ⟨j, hj, hc.trans hjc⟩
  · obtain ⟨u0, u1, un', ub⟩ := un u hPu
    obtain ⟨v0, v1, -, vb⟩ := un v hPv
    have hc := (lE.same hu hv).1 e
    rcases h.both u1 (by omega) un' hc with q | q
    · have := (hW.same hu hv).2 q
      rw [u0, v0] at this
      exact this
    · obtain ⟨i, hi⟩ := it_con hB hu q
      have d := (h.alone u1 (by omega) un' i).2
      rw [hi, (al_may (n := C.length) v1 (by omega)).2.2.2, vb, ub] at d
      cases b <;> cases d
/-- What is left is planar, where straight rings and pieces say so. -/
theorem Lft.planar {C : List Cr} {loops lo : Int} {G L : List Nat} {P : Nat → Bool} (h : Lft C loops G L P) (hD : mayD (lft C G L P) lo = true) {m : Nat} (hm : posG G C.length + m = C.length)
    (hq : C.length + 2 * kN (edb (up0 (fs C G)) al (4 * C.length + 1)) (4 * C.length + 1) ≤ cyA (up0 (fs C G)) (4 * C.length + 1) + m + 1) : planarB (lft C G L P) = true := by
  refine (planar_sum hD).2.2 ?_
  have hB := fs_bij h.hm G
  have hW := cyW_least hB.lt
  have hE : ∀ e, e ∈ edb (up0 (fs C G)) al (4 * C.length + 1) → e.1 < 4 * C.length + 1 ∧ e.2 < 4 * C.length + 1 := edb_lt hB.lt fun x hx => al_lt (n := C.length) hx
  have lE := levR_least hE (4 * C.length + 1) (Nat.le_refl _)
  unfold kN cyA cyN at hq
  rw [rq_pos lE, rq_pos hW, rq_eq, rq_eq] at hq
  have r1 := h.rings hD
  have l1 := h.lone lE true
  have l2 := h.lone lE false
  have s1 := cnt_split (rootB (cyW (up0 (fs C G)) (4 * C.length + 1))) (mtB C G (eds (up0 (fs C G)) (4 * C.length + 1))) (List.range (4 * C.length + 1))
  have s2 := cnt_split (rootB (levR (List.range (4 * C.length + 1)) (edb (up0 (fs C G)) al (4 * C.length + 1)) (4 * C.length + 1))) (mtB C G (edb (up0 (fs C G)) al (4 * C.length + 1))) (List.range (4 * C.length + 1))
  have s3 := cnt_split (fun v => rootB (cyW (up0 (fs C G)) (4 * C.length + 1)) v && !mtB C G (eds (up0 (fs C G)) (4 * C.length + 1)) v) (fun v => decide (dB v = true)) (List.range (4 * C.length + 1))
  have s4 : (List.range (4 * C.length + 1)).countP (fun v => (rootB (cyW (up0 (fs C G)) (4 * C.length + 1)) v && !mtB C G (eds (up0 (fs C G)) (4 * C.length + 1)) v) && !decide (dB v = true)) = (List.range (4 * C.length + 1)).countP (fun v => (rootB (cyW (up0 (fs C G)) (4 * C.length + 1)) v && !mtB C G (eds (up0 (fs C G)) (4 * C.length + 1)) v) && decide (dB v = false)) := List.countP_congr fun v _ => by cases dB v <;> simp
  rw [s4] at s3
  have p1 : pcN (lft C G L P) ≤ (List.range (4 * C.length + 1)).countP fun v => rootB (levR (List.range (4 * C.length + 1)) (edb (up0 (fs C G)) al (4 * C.length + 1)) (4 * C.length + 1)) v && mtB C G (edb (up0 (fs C G)) al (4 * C.length + 1)) v := by
    rw [pcN_eq, Lft.len]
    have hw : ∀ i, ∃ k, i < posG G C.length → k < C.length ∧ k ∉ G ∧ posG G k = i := fun i => by
      by_cases q : i < posG G C.length
      · obtain ⟨k, hk⟩ := posG_onto q
        exact ⟨k, fun _ => hk⟩
      · exact ⟨0, fun q' => absurd q' q⟩
    obtain ⟨w, hw⟩ := Classical.axiomOfChoice hw
    have hWD := whoM_least hD
    rw [Lft.len] at hWD
    refine inj_cnt (fun i => (levR (List.range (4 * C.length + 1)) (edb (up0 (fs C G)) al (4 * C.length + 1)) (4 * C.length + 1)).getD (ein C (w i) 0) 0) (fun i hi _ => ?_) fun i j hi hj hPi hPj e => ?_
    · obtain ⟨k1, k2, k3⟩ := hw i hi
      obtain ⟨e0, e1, e2, -⟩ := ein_at h.hm (w i) 0 k1 (by decide)
      have hl : ein C (w i) 0 < 4 * C.length + 1 := by omega
      have hc := (lE.2 _ hl).1
      refine ⟨lE.lt hl, ?_⟩
      rw [Bool.and_eq_true]
      unfold rootB
      rw [Bool.and_eq_true]
      refine ⟨⟨decide_eq_true (lE.root hl), decide_eq_true ?_⟩, mtB_iff.2 ⟨_, ⟨e0, e1, by rw [e2]; exact k2⟩, hc.symm⟩⟩
      refine hc (fun z => 1 ≤ z) (closed_edb.2 ⟨fun z hz => ?_, fun z hz => ?_⟩) e0
      · rcases Nat.eq_zero_or_pos z with rfl | z1
        · exact Iff.rfl
        · rw [up0_pos _ z1]; exact ⟨fun _ => (fs_may h.hm G z1 (by omega)).1, fun _ => z1⟩
      · rcases Nat.eq_zero_or_pos z with rfl | z1
        · exact Iff.rfl
        · exact ⟨fun _ => (al_may (n := C.length) z1 (by omega)).1, fun _ => z1⟩
    · obtain ⟨k1, k2, k3⟩ := hw i hi
      obtain ⟨j1, j2, j3⟩ := hw j hj
      obtain ⟨e0, e1, -⟩ := ein_at h.hm (w i) 0 k1 (by decide)
      obtain ⟨f0, f1, -⟩ := ein_at h.hm (w j) 0 j1 (by decide)
      have c := h.pieces hD k1 k2 j1 j2 ((lE.same (by omega) (by omega)).1 e)
      rw [k3, j3] at c
      have := (hWD.same hi hj).2 c
      rw [of_decide_eq_true hPi, of_decide_eq_true hPj] at this
      exact this
  have t1 : (List.range (4 * C.length + 1)).countP (fun v => decide ((cyW (up0 (fs C G)) (4 * C.length + 1)).getD v 0 = v) && decide (1 ≤ v)) = (List.range (4 * C.length + 1)).countP (rootB (cyW (up0 (fs C G)) (4 * C.length + 1))) := rfl
  have t2 : (List.range (4 * C.length + 1)).countP (fun v => decide ((levR (List.range (4 * C.length + 1)) (edb (up0 (fs C G)) al (4 * C.length + 1)) (4 * C.length + 1)).getD v 0 = v) && decide (1 ≤ v)) = (List.range (4 * C.length + 1)).countP (rootB (levR (List.range (4 * C.length + 1)) (edb (up0 (fs C G)) al (4 * C.length + 1)) (4 * C.length + 1))) := rfl
  rw [t1, t2] at hq
  rw [Lft.len]
  omega
end Go.Proofs.Ytagaajlbkfkaiaa
/- Plain mathematics: taking out a curl, or the crossings of a face of two, keeps a planar diagram planar. -/
namespace Go.Proofs.Ytagaajlbkfkaiaa

theorem posG_one {k : Nat} : ∀ n, posG [k] n + (if k < n then 1 else 0) = n := by
  intro n
  induction n with
  | zero => rfl
  | succ n ih =>
    rw [posG_next]
    by_cases e : n = k
    · rw [if_pos (List.mem_singleton.2 e), if_pos (by omega)]
      rw [if_neg (by omega)] at ih
      omega
    · rw [if_neg (by simpa using e)]
      by_cases hl : k < n
      · rw [if_pos hl] at ih; rw [if_pos (by omega)]; omega
      · rw [if_neg hl] at ih; rw [if_neg (by omega)]; omega
theorem posG_two {p q : Nat} {G : List Nat} (hpq : p ≠ q) (hG : ∀ k, k ∈ G ↔ k = p ∨ k = q) : ∀ n, posG G n + (if p < n then 1 else 0) + (if q < n then 1 else 0) = n := by
  intro n
  induction n with
  | zero => rfl
  | succ n ih =>
    rw [posG_next]
    by_cases e : n ∈ G
    · rw [if_pos e]
      rcases (hG n).1 e with e | e
      · rw [if_neg (show ¬ p < n by omega)] at ih
        rw [if_pos (show p < n + 1 by omega)]
        by_cases hl : q < n
        · rw [if_pos hl] at ih; rw [if_pos (show q < n + 1 by omega)]; omega
        · rw [if_neg hl] at ih; rw [if_neg (show ¬ q < n + 1 by omega)]; omega
      · rw [if_neg (show ¬ q < n by omega)] at ih
        rw [if_pos (show q < n + 1 by omega)]
        by_cases hl : p < n
        · rw [if_pos hl] at ih; rw [if_pos (show p < n + 1 by omega)]; omega
        · rw [if_neg hl] at ih; rw [if_neg (show ¬ p < n + 1 by omega)]; omega
    · rw [if_neg e]
      have e1 : n ≠ p := fun q => e ((hG n).2 (Or.inl q))
      have e2 : n ≠ q := fun q => e ((hG n).2 (Or.inr q))
      by_cases hl : p < n
      · rw [if_pos hl] at ih
        rw [if_pos (show p < n + 1 by omega)]
        by_cases hk : q < n
        · rw [if_pos hk] at ih; rw [if_pos (show q < n + 1 by omega)]; omega
        · rw [if_neg hk] at ih; rw [if_neg (show ¬ q < n + 1 by omega)]; omega
      · rw [if_neg hl] at ih
        rw [if_neg (show ¬ p < n + 1 by omega)]
        by_cases hk : q < n
        · rw [if_pos hk] at ih; rw [if_pos (show q < n + 1 by omega)]; omega
        · rw [if_neg hk] at ih; rw [if_neg (show ¬ q < n + 1 by omega)]; omega
/-- What is left, as the walks tell it. -/
theorem lft_tak {C : List Cr} {loops : Int} (hm : mayD C loops = true) (G : List Nat) : Lft C loops G (uniM C (nx C) G) (ltB (uniM C (nx C) G) (stB C G (uniM C (nx C) G) (2 * C.length + 1))) where
  hm := hm
  go := nx_goes hm
  hL := rfl
  hP := fun v h1 => by
    rw [st_th hm (nx_goes hm) G v h1]
    unfold ltB
    rw [Bool.and_eq_true, decide_eq_true_eq, stB_iff]
/-- A curl taken out. -/
theorem curl_planar {C : List Cr} {loops lo : Int} (hm : mayD C loops = true) (hp : planarB C = true) {k s : Nat} (hk : k < C.length) (hs : s < 4) (e : (C.getD k Cr.none).arc s = (C.getD k Cr.none).arc ((s + 1) % 4))
    (hz : sizeB (reTo C [k] (numM (uniM C (nx C) [k]) (ltB (uniM C (nx C) [k]) (stB C [k] (uniM C (nx C) [k]) (2 * C.length + 1)))) C.length) lo = true) :
    mayD (reTo C [k] (numM (uniM C (nx C) [k]) (ltB (uniM C (nx C) [k]) (stB C [k] (uniM C (nx C) [k]) (2 * C.length + 1)))) C.length) lo = true ∧ planarB (reTo C [k] (numM (uniM C (nx C) [k]) (ltB (uniM C (nx C) [k]) (stB C [k] (uniM C (nx C) [k]) (2 * C.length + 1)))) C.length) = true := by
  have h := lft_tak hm [k]
  have hD := h.may hz
  have hn := posG_one (k := k) C.length
  rw [if_pos hk] at hn
  exact ⟨hD, h.planar hD hn (curl_euler hm hp hk hs e)⟩
/-- The crossings of a face of two taken out. -/
theorem pull_planar {C : List Cr} {loops lo : Int} (hm : mayD C loops = true) (hpl : planarB C = true) {X Y : Nat} (x1 : 1 ≤ X) (x2 : X ≤ 4 * C.length) (y1 : 1 ≤ Y) (y2 : Y ≤ 4 * C.length) (fX : fd C X = Y) (fY : fd C Y = X) (hne : dC C Y ≠ dC C X) (G : List Nat) (hG : ∀ k, k ∈ G ↔ k = dC C Y ∨ k = dC C X)
    (hz : sizeB (reTo C G (numM (uniM C (nx C) G) (ltB (uniM C (nx C) G) (stB C G (uniM C (nx C) G) (2 * C.length + 1)))) C.length) lo = true) :
    mayD (reTo C G (numM (uniM C (nx C) G) (ltB (uniM C (nx C) G) (stB C G (uniM C (nx C) G) (2 * C.length + 1)))) C.length) lo = true ∧ planarB (reTo C G (numM (uniM C (nx C) G) (ltB (uniM C (nx C) G) (stB C G (uniM C (nx C) G) (2 * C.length + 1)))) C.length) = true := by
  have h := lft_tak hm G
  have hD := h.may hz
  obtain ⟨a1, a2, a3⟩ := ein_onto hm x1 x2
  obtain ⟨b1, b2, b3⟩ := ein_onto hm y1 y2
  have hn := posG_two hne hG C.length
  rw [if_pos a1, if_pos b1] at hn
  have q := pull_euler hm hpl b1 a1 hne b2 a2 (by rw [← a3, ← b3]; exact fX) (by rw [← a3, ← b3]; exact fY) G hG
  exact ⟨hD, h.planar hD (m := 2) (by omega) q⟩
end Go.Proofs.Ytagaajlbkfkaiaa
/- Plain mathematics: a face of two; how many loops are left. -/
namespace Go.Proofs.Ytagaajlbkfkaiaa

theorem two_ring {C : List Cr} {loops : Int} (hm : mayD C loops = true) {l : List Nat} (hl : l ∈ facesM C) (h2 : l.length = 2) : ∃ x y, l = [x, y] ∧ (1 ≤ x ∧ x ≤ 4 * C.length) ∧ (1 ≤ y ∧ y ≤ 4 * C.length) ∧ y = fd C x ∧ x = fd C y := by
  have hc := (rings_closed (fd_closed hm) (fun a b p q r s t => fd_inj hm a b p q r s t) (4 * C.length) (Nat.le_refl _)).2.2 l hl
  have hr := (walksTo_mem (fd_closed hm) (4 * C.length) (Nat.le_refl _) l hl).2.2
  match l, h2 with
  | [x, y], _ =>
    refine ⟨x, y, rfl, hr x (by simp), hr y (by simp), ?_, ?_⟩
    · exact hc.1 0 (by simp)
    · exact hc.2.symm
/-- Where nothing is left, a loop is. -/
theorem loops_left {C : List Cr} {loops : Int} (hm : mayD C loops = true) (G : List Nat) (h0 : 0 < C.length) (hn : posG G C.length = 0) : 1 ≤ cntB (lfB (uniM C (nx C) G) (stB C G (uniM C (nx C) G) (2 * C.length + 1))) (2 * C.length + 1) := by
  have h := lft_tak hm G
  have hall : ∀ k, k < C.length → k ∈ G := fun k hk => Classical.byContradiction fun q => by have := posG_lt hk q; omega
  have l1 := h.pos (a := 1) (Nat.le_refl _) (by omega)
  have l2 := h.least.le (v := 1) (by omega)
  have e : (uniM C (nx C) G).getD 1 0 = 1 := by omega
  have hs : stB C G (uniM C (nx C) G) (2 * C.length + 1) 1 = false := by
    refine Bool.eq_false_iff.2 fun q => ?_
    obtain ⟨a, ha, ea, hg⟩ := stB_iff.1 q
    have a1 : 1 ≤ a := by
      rcases Nat.eq_zero_or_pos a with rfl | hp
      · have := h.least.le (v := 0) (by omega); omega
      · exact hp
    unfold goneB at hg
    rw [if_neg (by omega)] at hg
    have := hall _ (to_may hm a a1 (by omega)).2.1
    simp [this] at hg
  have hP : lfB (uniM C (nx C) G) (stB C G (uniM C (nx C) G) (2 * C.length + 1)) 1 = true := by unfold lfB; rw [e, hs]; rfl
  have := cntB_lt (Nat.le_refl 1) hP (show 1 < 2 * C.length + 1 by omega)
  omega
/-- The sizes of what is left. -/
theorem size_left {C : List Cr} {loops lo : Int} (hm : mayD C loops = true) (G : List Nat) (h0 : 0 < C.length) (hlo : lo = loops + (cntB (lfB (uniM C (nx C) G) (stB C G (uniM C (nx C) G) (2 * C.length + 1))) (2 * C.length + 1) : Nat)) (h16 : lo ≤ 16) (h : Nat → Nat) : sizeB (reTo C G h C.length) lo = true := by
  have hs : sizeB C loops = true := by
    cases q : sizeB C loops with
    | true => rfl
    | false => rw [mayD_size q] at hm; cases hm
  have hs := sizeB_iff hs
  unfold sizeB
  simp only [Bool.and_eq_true, decide_eq_true_eq, Bool.not_eq_true', Bool.and_eq_false_iff, decide_eq_false_iff_not]
  have hl := reTo_len C G h C.length
  refine ⟨⟨⟨by omega, by omega⟩, h16⟩, ?_⟩
  by_cases hn : (reTo C G h C.length).length = 0
  · right
    rw [reTo_pos] at hn
    have := loops_left hm G h0 hn
    omega
  · left
    exact hn
/-- The two crossings of a face of two taken out, as the tests tell it. -/
theorem pull_two {C : List Cr} {loops lo : Int} (hm : mayD C loops = true) (hpl : planarB C = true) {l : List Nat} (hl : l ∈ facesM C) (h2 : l.length = 2) {x y : Nat} (hxy : x ≠ y) (hc : dC C (l.getD 0 0) = x ∧ dC C (l.getD 1 0) = y ∨ dC C (l.getD 0 0) = y ∧ dC C (l.getD 1 0) = x)
    (hlo : lo = loops + (cntB (lfB (uniM C (nx C) [x, y]) (stB C [x, y] (uniM C (nx C) [x, y]) (2 * C.length + 1))) (2 * C.length + 1) : Nat)) (h16 : lo ≤ 16) :
    mayD (reTo C [x, y] (numM (uniM C (nx C) [x, y]) (ltB (uniM C (nx C) [x, y]) (stB C [x, y] (uniM C (nx C) [x, y]) (2 * C.length + 1)))) C.length) lo = true ∧ planarB (reTo C [x, y] (numM (uniM C (nx C) [x, y]) (ltB (uniM C (nx C) [x, y]) (stB C [x, y] (uniM C (nx C) [x, y]) (2 * C.length + 1)))) C.length) = true := by
  obtain ⟨X, Y, rfl, hX, hY, e1, e2⟩ := two_ring hm hl h2
  have hc : dC C X = x ∧ dC C Y = y ∨ dC C X = y ∧ dC C Y = x := hc
  refine pull_planar hm hpl hX.1 hX.2 hY.1 hY.2 e1.symm e2.symm (by omega) [x, y] (fun k => ?_) (size_left hm [x, y] (by have := hX; omega) hlo h16 _)
  simp only [List.mem_cons, List.not_mem_nil, or_false]
  omega
/-- A curl taken out, as the test tells it. -/
theorem curl_one {C : List Cr} {loops lo : Int} (hm : mayD C loops = true) (hp : planarB C = true) {k : Nat} (hk : k < C.length) (hc : ((List.range 4).any fun s => decide ((C.getD k Cr.none).arc s = (C.getD k Cr.none).arc ((s + 1) % 4))) = true)
    (hlo : lo = loops + (cntB (lfB (uniM C (nx C) [k]) (stB C [k] (uniM C (nx C) [k]) (2 * C.length + 1))) (2 * C.length + 1) : Nat)) (h16 : lo ≤ 16) :
    mayD (reTo C [k] (numM (uniM C (nx C) [k]) (ltB (uniM C (nx C) [k]) (stB C [k] (uniM C (nx C) [k]) (2 * C.length + 1)))) C.length) lo = true ∧ planarB (reTo C [k] (numM (uniM C (nx C) [k]) (ltB (uniM C (nx C) [k]) (stB C [k] (uniM C (nx C) [k]) (2 * C.length + 1)))) C.length) = true := by
  obtain ⟨s, hs, e⟩ := List.any_eq_true.1 hc
  exact curl_planar hm hp hk (List.mem_range.1 hs) (of_decide_eq_true e) (size_left hm [k] (by omega) hlo h16 _)
end Go.Proofs.Ytagaajlbkfkaiaa

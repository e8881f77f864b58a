/- Several texts of the proof, one behind the other. -/
import Derived.Test.YtagaajlbkfkaiaaTK4P
/- Plain mathematics: the faces of what is left are the straight rings that meet it. -/
namespace Go.Proofs.Ytagaajlbkfkaiaa

theorem fs_bij {C : List Cr} {loops : Int} (hm : mayD C loops = true) (G : List Nat) : Bij (up0 (fs C G)) (4 * C.length + 1) := by
  refine bij_up0 (fun a h1 h2 => fs_may hm G h1 h2) fun x y x1 x2 y1 y2 e => ?_
  obtain ⟨g1, g2, g3⟩ := ein_onto hm x1 x2
  obtain ⟨k1, k2, k3⟩ := ein_onto hm y1 y2
  have form : ∀ k s, k < C.length → s < 4 → fs C G (ein C k s) = pd C (4 * k + (s + if k ∈ G then 2 else 3) % 4) := fun k s hk hs => by
    by_cases q : k ∈ G
    · rw [fs_in hm hk hs q, if_pos q]
    · obtain ⟨-, -, e1, -, -, e5⟩ := ein_at hm k s hk hs
      rw [fs_out (by rw [e1]; exact q), e5, if_neg q]
  rw [g3, k3, form _ _ g1 g2, form _ _ k1 k2] at e
  rw [g3, k3]
  generalize dC C x = k at *
  generalize dS C x = s at *
  generalize dC C y = j at *
  generalize dS C y = t at *
  have l1 := (pd_at hm k ((s + if k ∈ G then 2 else 3) % 4) g1 (Nat.mod_lt _ (by decide))).2.1
  have l2 := (pd_at hm j ((t + if j ∈ G then 2 else 3) % 4) k1 (Nat.mod_lt _ (by decide))).2.1
  rw [e, l2] at l1
  subst l1
  have := pd_ne hm k1 (Nat.mod_lt _ (by decide)) (Nat.mod_lt _ (by decide)) e
  have est : s = t := by
    revert this
    split <;> intro this <;> omega
  rw [est]
/-- A dart that leads to a crossing that is left, as a dart of what is left. -/
def Rd (C : List Cr) (G L : List Nat) (P : Nat → Bool) (j : Nat) : Nat := ein (lft C G L P) (posG G (dC C j)) (dS C j)
theorem Lft.same {C : List Cr} {loops : Int} {G L : List Nat} {P : Nat → Bool} (h : Lft C loops G L P) {j w : Nat} (j1 : 1 ≤ j) (j2 : j ≤ 4 * C.length) (w1 : 1 ≤ w) (w2 : w ≤ 4 * C.length) (hj : dC C j ∉ G) (hw : dC C w ∉ G) (e : L.getD (dA j) 0 = L.getD (dA w) 0) (ed : dB j = dB w) : j = w := by
  obtain ⟨g1, g2, g3⟩ := ein_onto h.hm j1 j2
  obtain ⟨k1, k2, k3⟩ := ein_onto h.hm w1 w2
  obtain ⟨a1, a2⟩ := ein_arc h.hm g1 g2
  obtain ⟨b1, b2⟩ := ein_arc h.hm k1 k2
  rw [← g3] at a1 a2
  rw [← k3] at b1 b2
  rw [a1, b1] at e
  rw [a2, b2] at ed
  obtain ⟨q1, q2⟩ := h.one g1 hj g2 k1 hw k2 e (by revert ed; cases (C.getD (dC C j) Cr.none).comes (dS C j) <;> cases (C.getD (dC C w) Cr.none).comes (dS C w) <;> intro ed <;> first | rfl | cases ed)
  rw [g3, k3, q1, q2]
theorem Lft.rd {C : List Cr} {loops lo : Int} {G L : List Nat} {P : Nat → Bool} (h : Lft C loops G L P) (hD : mayD (lft C G L P) lo = true) {j : Nat} (j1 : 1 ≤ j) (j2 : j ≤ 4 * C.length) (hj : dC C j ∉ G) :
    1 ≤ Rd C G L P j ∧ Rd C G L P j ≤ 4 * (lft C G L P).length ∧ Rd C G L P j = mkD (cntB P (L.getD (dA j) 0) + 1) (dB j) := by
  obtain ⟨g1, g2, g3⟩ := ein_onto h.hm j1 j2
  have hp : posG G (dC C j) < (lft C G L P).length := by rw [Lft.len]; exact posG_lt g1 hj
  obtain ⟨e1, e2, -⟩ := ein_at hD _ _ hp g2
  refine ⟨e1, e2, ?_⟩
  obtain ⟨a1, a2⟩ := ein_arc hD hp g2
  obtain ⟨b1, b2⟩ := ein_arc h.hm g1 g2
  rw [← g3] at b1 b2
  have m := mk_d (j := Rd C G L P j) e1
  rw [← m]
  show mkD (dA (ein (lft C G L P) (posG G (dC C j)) (dS C j))) (dB (ein (lft C G L P) (posG G (dC C j)) (dS C j))) = _
  rw [a1, a2, h.arc g1 hj g2, (h.at g1 hj g2).2.2.2, b1, b2]
theorem Lft.rd_inj {C : List Cr} {loops lo : Int} {G L : List Nat} {P : Nat → Bool} (h : Lft C loops G L P) (hD : mayD (lft C G L P) lo = true) {j w : Nat} (j1 : 1 ≤ j) (j2 : j ≤ 4 * C.length) (hj : dC C j ∉ G) (w1 : 1 ≤ w) (w2 : w ≤ 4 * C.length) (hw : dC C w ∉ G) (e : Rd C G L P j = Rd C G L P w) : j = w := by
  obtain ⟨g1, g2, g3⟩ := ein_onto h.hm j1 j2
  obtain ⟨k1, k2, k3⟩ := ein_onto h.hm w1 w2
  obtain ⟨q1, q2⟩ := ein_inj hD (by rw [Lft.len]; exact posG_lt g1 hj) g2 (by rw [Lft.len]; exact posG_lt k1 hw) k2 e
  rw [g3, k3, posG_inj hj hw q1, q2]
theorem Lft.rd_onto {C : List Cr} {loops lo : Int} {G L : List Nat} {P : Nat → Bool} (h : Lft C loops G L P) (hD : mayD (lft C G L P) lo = true) {x : Nat} (x1 : 1 ≤ x) (x2 : x ≤ 4 * (lft C G L P).length) : ∃ j, 1 ≤ j ∧ j ≤ 4 * C.length ∧ dC C j ∉ G ∧ Rd C G L P j = x := by
  obtain ⟨g1, g2, g3⟩ := ein_onto hD x1 x2
  rw [Lft.len] at g1
  obtain ⟨k, k1, k2, k3⟩ := posG_onto g1
  obtain ⟨e1, e2, e3, e4, -⟩ := ein_at h.hm k _ k1 g2
  refine ⟨ein C k (dS (lft C G L P) x), e1, e2, by rw [e3]; exact k2, ?_⟩
  unfold Rd
  rw [e3, e4, k3]
  exact g3.symm
/-- A face of what is left goes on as the straight ring does. -/
theorem Lft.turn {C : List Cr} {loops lo : Int} {G L : List Nat} {P : Nat → Bool} (h : Lft C loops G L P) (hD : mayD (lft C G L P) lo = true) {j w : Nat} (j1 : 1 ≤ j) (j2 : j ≤ 4 * C.length) (hj : dC C j ∉ G) (w1 : 1 ≤ w) (w2 : w ≤ 4 * C.length) (hw : dC C w ∉ G)
    (e : L.getD (dA w) 0 = L.getD (dA (fd C j)) 0) (ed : dB w = dB (fd C j)) : fd (lft C G L P) (Rd C G L P j) = Rd C G L P w := by
  obtain ⟨g1, g2, g3⟩ := ein_onto h.hm j1 j2
  have hp : posG G (dC C j) < (lft C G L P).length := by rw [Lft.len]; exact posG_lt g1 hj
  have s3 : (dS C j + 3) % 4 < 4 := Nat.mod_lt _ (by decide)
  rw [(h.rd hD w1 w2 hw).2.2, e, ed]
  have f1 := (ein_at h.hm _ _ g1 g2).2.2.2.2.2
  rw [← g3] at f1
  have p := (en_side h.hm _ _ g1 s3).2.2.1
  rw [f1, (pd_at h.hm _ _ g1 s3).1, dA_mk p, dB_mk p]
  show fd (lft C G L P) (ein (lft C G L P) (posG G (dC C j)) (dS C j)) = _
  rw [(ein_at hD _ _ hp g2).2.2.2.2.2, (pd_at hD _ _ hp s3).1, h.arc g1 hj s3, (h.at g1 hj s3).2.2.2]
/-- The next dart of a straight ring that leads to a crossing that is left. -/
theorem Lft.next {C : List Cr} {loops : Int} {G L : List Nat} {P : Nat → Bool} (h : Lft C loops G L P) {j : Nat} (j1 : 1 ≤ j) (j2 : j ≤ 4 * C.length) (hj : dC C j ∉ G) :
    ∃ i, (1 ≤ it (up0 (fs C G)) (i + 1) j ∧ it (up0 (fs C G)) (i + 1) j ≤ 4 * C.length) ∧ dC C (it (up0 (fs C G)) (i + 1) j) ∉ G ∧ L.getD (dA (it (up0 (fs C G)) (i + 1) j)) 0 = L.getD (dA (fd C j)) 0 ∧ dB (it (up0 (fs C G)) (i + 1) j) = dB (fd C j) := by
  have hB := fs_bij h.hm G
  have hin : ∀ i, 1 ≤ it (up0 (fs C G)) i j ∧ it (up0 (fs C G)) i j ≤ 4 * C.length := fun i => by
    induction i with
    | zero => exact ⟨j1, j2⟩
    | succ i ih => show 1 ≤ up0 (fs C G) (it (up0 (fs C G)) i j) ∧ up0 (fs C G) (it (up0 (fs C G)) i j) ≤ _; rw [up0_pos _ ih.1]; exact fs_may h.hm G ih.1 ih.2
  obtain ⟨p, h0, hp⟩ := period hB (x := j) (by omega)
  obtain ⟨i, hi, hmin⟩ := first_of (P := fun i => dC C (it (up0 (fs C G)) (i + 1) j) ∉ G) ⟨p - 1, by rw [show p - 1 + 1 = p by omega, hp]; exact hj⟩
  refine ⟨i, hin _, hi, ?_⟩
  have key : ∀ m, m ≤ i → L.getD (dA (it (up0 (fs C G)) (m + 1) j)) 0 = L.getD (dA (fd C j)) 0 ∧ dB (it (up0 (fs C G)) (m + 1) j) = dB (fd C j) := by
    intro m
    induction m with
    | zero =>
      intro _
      have e : it (up0 (fs C G)) (0 + 1) j = fd C j := by show up0 (fs C G) j = _; rw [up0_pos _ j1, fs_out hj]
      rw [e]
      exact ⟨rfl, rfl⟩
    | succ m ih =>
      intro hm
      obtain ⟨i1, i2⟩ := ih (by omega)
      have hg := Classical.not_not.1 (hmin m (by omega))
      obtain ⟨s1, s2⟩ := h.straight (hin (m + 1)).1 (hin (m + 1)).2 hg
      have e : it (up0 (fs C G)) (m + 1 + 1) j = fs C G (it (up0 (fs C G)) (m + 1) j) := by show up0 (fs C G) (it (up0 (fs C G)) (m + 1) j) = _; rw [up0_pos _ (hin (m + 1)).1]
      rw [e, s1, s2]
      exact ⟨i1, i2⟩
  exact key i (Nat.le_refl _)
/-- Darts of one face of what is left lie in one straight ring. -/
theorem Lft.con {C : List Cr} {loops lo : Int} {G L : List Nat} {P : Nat → Bool} (h : Lft C loops G L P) (hD : mayD (lft C G L P) lo = true) {j w : Nat} (j1 : 1 ≤ j) (j2 : j ≤ 4 * C.length) (hj : dC C j ∉ G) (w1 : 1 ≤ w) (w2 : w ≤ 4 * C.length) (hw : dC C w ∉ G)
    (hc : Con (eds (up0 (fd (lft C G L P))) (4 * (lft C G L P).length + 1)) (Rd C G L P j) (Rd C G L P w)) : Con (eds (up0 (fs C G)) (4 * C.length + 1)) j w := fun S hS hSj => by
  have hT : Closed (eds (up0 (fd (lft C G L P))) (4 * (lft C G L P).length + 1)) fun x => ∃ z, (1 ≤ z ∧ z ≤ 4 * C.length ∧ dC C z ∉ G) ∧ Rd C G L P z = x ∧ S z := closed_eds.2 fun x hx => by
    rcases Nat.eq_zero_or_pos x with rfl | hx0
    · exact Iff.rfl
    · obtain ⟨z, z1, z2, z3, rfl⟩ := h.rd_onto hD hx0 (by omega)
      obtain ⟨i, ⟨n1, n2⟩, n3, n4, n5⟩ := h.next z1 z2 z3
      have ht := h.turn hD z1 z2 z3 n1 n2 n3 n4 n5
      rw [up0_pos _ hx0, ht]
      have hs : S z ↔ S (it (up0 (fs C G)) (i + 1) z) := ⟨fun q => con_it (fs_bij h.hm G) (by omega) (i + 1) S hS q, fun q => (con_it (fs_bij h.hm G) (by omega) (i + 1)).symm S hS q⟩
      constructor
      · rintro ⟨y, ⟨y1, y2, y3⟩, ye, ys⟩
        rw [h.rd_inj hD y1 y2 y3 z1 z2 z3 ye] at ys
        exact ⟨_, ⟨n1, n2, n3⟩, rfl, hs.1 ys⟩
      · rintro ⟨y, ⟨y1, y2, y3⟩, ye, ys⟩
        rw [h.rd_inj hD y1 y2 y3 n1 n2 n3 ye] at ys
        exact ⟨z, ⟨z1, z2, z3⟩, rfl, hs.2 ys⟩
  obtain ⟨z, ⟨z1, z2, z3⟩, ze, zs⟩ := hc _ hT ⟨j, ⟨j1, j2, hj⟩, rfl, hSj⟩
  rw [h.rd_inj hD z1 z2 z3 w1 w2 hw ze] at zs
  exact zs
end Go.Proofs.Ytagaajlbkfkaiaa
/- Plain mathematics: straight rings and pieces against those of what is left. -/
namespace Go.Proofs.Ytagaajlbkfkaiaa

theorem cnt_split (P Q : Nat → Bool) : ∀ l : List Nat, l.countP P = l.countP (fun v => P v && Q v) + l.countP fun v => P v && !Q v
  | [] => rfl
  | v :: l => by
    rw [List.countP_cons, List.countP_cons, List.countP_cons, cnt_split P Q l]
    cases P v <;> cases Q v <;> simp <;> omega
/-- Does a straight ring, or a piece, meet what is left? -/
def Mt (C : List Cr) (G : List Nat) (E : List (Nat × Nat)) (v : Nat) : Prop := ∃ j, (1 ≤ j ∧ j ≤ 4 * C.length ∧ dC C j ∉ G) ∧ Con E v j
noncomputable def mtB (C : List Cr) (G : List Nat) (E : List (Nat × Nat)) (v : Nat) : Bool := @decide (Mt C G E v) (Classical.propDecidable _)
theorem mtB_iff {C : List Cr} {G : List Nat} {E : List (Nat × Nat)} {v : Nat} : mtB C G E v = true ↔ Mt C G E v := @decide_eq_true_iff _ (Classical.propDecidable _)
def rootB (W : List Nat) (v : Nat) : Bool := decide (W.getD v 0 = v) && decide (1 ≤ v)
/-- Rings that meet what is left: no more than its faces. -/
theorem Lft.rings {C : List Cr} {loops lo : Int} {G L : List Nat} {P : Nat → Bool} (h : Lft C loops G L P) (hD : mayD (lft C G L P) lo = true) :
    (List.range (4 * C.length + 1)).countP (fun v => rootB (cyW (up0 (fs C G)) (4 * C.length + 1)) v && mtB C G (eds (up0 (fs C G)) (4 * C.length + 1)) v) ≤ (facesM (lft C G L P)).length := by
  have hW := cyW_least (fs_bij h.hm G).lt
  have hV := cyW_least (fd_bij hD).lt
  have hF := cyA_fd hD
  unfold cyA cyN at hF
  rw [rq_pos hV, rq_eq] at hF
  rw [← Nat.add_right_cancel hF]
  have hw : ∀ v, ∃ j, mtB C G (eds (up0 (fs C G)) (4 * C.length + 1)) v = true → (1 ≤ j ∧ j ≤ 4 * C.length ∧ dC C j ∉ G) ∧ Con (eds (up0 (fs C G)) (4 * C.length + 1)) v j := fun v => by
    by_cases q : Mt C G (eds (up0 (fs C G)) (4 * C.length + 1)) v
    · obtain ⟨j, hj⟩ := q
      exact ⟨j, fun _ => hj⟩
    · exact ⟨0, fun e => absurd (mtB_iff.1 e) q⟩
  obtain ⟨w, hw⟩ := Classical.axiomOfChoice hw
  refine inj_cnt (fun v => (cyW (up0 (fd (lft C G L P))) (4 * (lft C G L P).length + 1)).getD (Rd C G L P (w v)) 0) (fun v hv hP => ?_) fun u v hu hv hPu hPv e => ?_
  · rw [Bool.and_eq_true] at hP
    obtain ⟨⟨j1, j2, j3⟩, -⟩ := hw v hP.2
    obtain ⟨r1, r2, -⟩ := h.rd hD j1 j2 j3
    have hl : Rd C G L P (w v) < 4 * (lft C G L P).length + 1 := by omega
    refine ⟨hV.lt hl, ?_⟩
    rw [Bool.and_eq_true]
    refine ⟨decide_eq_true (hV.root hl), decide_eq_true (Nat.pos_of_ne_zero fun q => ?_)⟩
    have := (hV.2 _ hl).1
    rw [q] at this
    exact zero_apart (fd_closed hD) r1 this
  · rw [Bool.and_eq_true] at hPu hPv
    obtain ⟨⟨j1, j2, j3⟩, jc⟩ := hw u hPu.2
    obtain ⟨⟨k1, k2, k3⟩, kc⟩ := hw v hPv.2
    obtain ⟨r1, r2, -⟩ := h.rd hD j1 j2 j3
    obtain ⟨s1, s2, -⟩ := h.rd hD k1 k2 k3
    have c := h.con hD j1 j2 j3 k1 k2 k3 ((hV.same (by omega) (by omega)).1 e)
    have c2 := (hW.same hu hv).2 (jc.trans (c.trans kc.symm))
    have ru := hPu.1
    have rv := hPv.1
    unfold rootB at ru rv
    rw [Bool.and_eq_true, decide_eq_true_eq] at ru rv
    rw [ru.1, rv.1] at c2
    exact c2
/-- Two sides of what is left with one strand lie in one piece of it. -/
theorem Lft.piece {C : List Cr} {loops lo : Int} {G L : List Nat} {P : Nat → Bool} (h : Lft C loops G L P) (hD : mayD (lft C G L P) lo = true) {T : Nat → Prop} (hT : Closed (arcE (lft C G L P)) T) {k s j t : Nat} (hk : k < C.length) (hG : k ∉ G) (hs : s < 4) (hj : j < C.length) (hH : j ∉ G) (ht : t < 4)
    (e : L.getD (aAt C k s) 0 = L.getD (aAt C j t) 0) : T (posG G k) ↔ T (posG G j) := by
  by_cases ec : (C.getD k Cr.none).comes s = (C.getD j Cr.none).comes t
  · rw [(h.one hk hG hs hj hH ht e ec).1]
  · have hp : posG G k < (lft C G L P).length := by rw [Lft.len]; exact posG_lt hk hG
    have hq : posG G j < (lft C G L P).length := by rw [Lft.len]; exact posG_lt hj hH
    obtain ⟨a1, -, a3, a4⟩ := en_side hD _ s hp hs
    obtain ⟨b1, -, -, -⟩ := en_side hD _ t hq ht
    rw [(h.at hk hG hs).2.2.2] at a1
    rw [(h.at hj hH ht).2.2.2, h.arc hj hH ht, ← e, ← h.arc hk hG hs] at b1
    have ed := hT _ (mem_arcE a3 a4)
    revert ec a1 b1
    cases (C.getD k Cr.none).comes s <;> cases (C.getD j Cr.none).comes t <;> intro ec a1 b1
    · exact absurd rfl ec
    · rw [a1, b1] at ed; exact ed.symm
    · rw [a1, b1] at ed; exact ed
    · exact absurd rfl ec
/-- Pieces that meet what is left: no fewer than its pieces. -/
theorem Lft.pieces {C : List Cr} {loops lo : Int} {G L : List Nat} {P : Nat → Bool} (h : Lft C loops G L P) (hD : mayD (lft C G L P) lo = true) {k j : Nat} (hk : k < C.length) (hG : k ∉ G) (hj : j < C.length) (hH : j ∉ G)
    (hc : Con (edb (up0 (fs C G)) al (4 * C.length + 1)) (ein C k 0) (ein C j 0)) : Con (arcE (lft C G L P)) (posG G k) (posG G j) := fun T hT hTk => by
  have hS : Closed (edb (up0 (fs C G)) al (4 * C.length + 1)) fun z => 1 ≤ z ∧ ∃ k s, (k < C.length ∧ k ∉ G ∧ s < 4) ∧ L.getD (aAt C k s) 0 = L.getD (dA z) 0 ∧ T (posG G k) := by
    refine closed_edb.2 ⟨fun z hz => ?_, fun z hz => ?_⟩
    · rcases Nat.eq_zero_or_pos z with rfl | z1
      · exact Iff.rfl
      · rw [up0_pos _ z1]
        have f1 := (fs_may h.hm G z1 (by omega)).1
        by_cases hg : dC C z ∈ G
        · rw [(h.straight z1 (by omega) hg).1]
          exact ⟨fun q => ⟨f1, q.2⟩, fun q => ⟨z1, q.2⟩⟩
        · obtain ⟨g1, g2, g3⟩ := ein_onto h.hm z1 (by omega)
          have s3 : (dS C z + 3) % 4 < 4 := Nat.mod_lt _ (by decide)
          have a := (ein_arc h.hm g1 g2).1
          rw [← g3] at a
          have f := (ein_at h.hm _ _ g1 g2).2.2.2.2.2
          rw [← g3] at f
          have b : dA (fs C G z) = aAt C (dC C z) ((dS C z + 3) % 4) := by rw [fs_out hg, f, (pd_at h.hm _ _ g1 s3).1, dA_mk (en_side h.hm _ _ g1 s3).2.2.1]
          rw [a, b]
          constructor
          · rintro ⟨-, m, s, ⟨m1, m2, m3⟩, me, mt⟩
            exact ⟨f1, dC C z, (dS C z + 3) % 4, ⟨g1, hg, s3⟩, rfl, (h.piece hD hT m1 m2 m3 g1 hg g2 me).1 mt⟩
          · rintro ⟨-, m, s, ⟨m1, m2, m3⟩, me, mt⟩
            exact ⟨z1, dC C z, dS C z, ⟨g1, hg, g2⟩, rfl, (h.piece hD hT m1 m2 m3 g1 hg s3 me).1 mt⟩
    · rcases Nat.eq_zero_or_pos z with rfl | z1
      · exact Iff.rfl
      · obtain ⟨a1, -, a3, -⟩ := al_may (n := C.length) z1 (by omega)
        rw [a3]
        exact ⟨fun q => ⟨a1, q.2⟩, fun q => ⟨z1, q.2⟩⟩
  obtain ⟨e0, -⟩ := ein_at h.hm k 0 hk (by decide)
  obtain ⟨-, m, s, ⟨m1, m2, m3⟩, me, mt⟩ := hc _ hS ⟨e0, k, 0, ⟨hk, hG, by decide⟩, by rw [(ein_arc h.hm hk (by decide)).1], hTk⟩
  rw [(ein_arc h.hm hj (by decide)).1] at me
  exact (h.piece hD hT m1 m2 m3 hj hH (by decide) me).1 mt
end Go.Proofs.Ytagaajlbkfkaiaa

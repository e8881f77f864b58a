/- Several texts of the proof, one behind the other. -/
import Derived.Test.YtagaajlbkfkaiaaTK0P
/- Plain mathematics: rings and pieces where the two crossings of a face of two are passed straight. -/
namespace Go.Proofs.Ytagaajlbkfkaiaa

/-- A face of two places X, Y; XX and YY are they turned round; A, B come into one crossing, K, D into the other. g passes straight. -/
structure PullG (f g al : Nat → Nat) (M X Y XX YY A B K D : Nat) : Prop where
  bf : Bij f M
  la : ∀ x, x < M → al x < M
  aa : ∀ x, x < M → al (al x) = x
  lt : X < M ∧ Y < M ∧ XX < M ∧ YY < M ∧ A < M ∧ B < M ∧ K < M ∧ D < M
  nd : [X, Y, XX, YY, A, B, K, D].Nodup
  ax : al X = XX
  ay : al Y = YY
  fx : f X = Y
  fy : f Y = X
  fxx : f XX = al B
  fyy : f YY = al K
  fa : f A = YY
  fb : f B = al A
  fk : f K = al D
  fd : f D = XX
  gx : g X = al K
  gy : g Y = al B
  gxx : g XX = al A
  gyy : g YY = al D
  ga : g A = X
  gb : g B = YY
  gk : g K = XX
  gd : g D = Y
  go : ∀ x, x < M → x ∉ [X, Y, XX, YY, A, B, K, D] → g x = f x
theorem PullG.count {f g al : Nat → Nat} {M X Y XX YY A B K D : Nat} (h : PullG f g al M X Y XX YY A B K D) : cyA g M + 1 = cyA (tr f B K) M := by
  obtain ⟨lx, ly, lxx, lyy, lA, lB, lK, lD⟩ := h.lt
  have nd := h.nd
  simp only [List.nodup_cons, List.mem_cons, List.not_mem_nil, or_false, not_or, not_false_eq_true, and_true, List.nodup_nil] at nd
  obtain ⟨⟨n1, n2, n3, n4, n5, n6, n7⟩, ⟨m1, m2, m3, m4, m5, m6⟩, ⟨k1, k2, k3, k4, k5⟩, ⟨j1, j2, j3, j4⟩, ⟨i1, i2, i3⟩, ⟨o1, o2⟩, p1⟩ := nd
  have b1 := h.bf.tr lB lK
  -- D to XX, A to YY, X to Y: taken out
  have e1 : tr f B K D = XX := by rw [tr_o f (Ne.symm o2) (Ne.symm p1), h.fd]
  have c1 := cyA_del b1 lD e1 (Ne.symm k5)
  have b2 := b1.tr lD lxx
  have e2 : tr (tr f B K) D XX A = YY := by rw [tr_o _ i3 (Ne.symm k2), tr_o _ i1 i2, h.fa]
  have c2 := cyA_del b2 lA e2 (Ne.symm j1)
  have b3 := b2.tr lA lyy
  have e3 : tr (tr (tr f B K) D XX) A YY X = Y := by rw [tr_o _ n4 n3, tr_o _ n7 n2, tr_o _ n5 n6, h.fx]
  have c3 := cyA_del b3 lx e3 n1
  have b4 := b3.tr lx ly
  -- they lie alone
  have a1 : tr (tr (tr (tr f B K) D XX) A YY) X Y XX = XX := by rw [tr_o _ (Ne.symm n2) (Ne.symm m1), tr_o _ k2 k1, tr_b, e1]
  have a2 : tr (tr (tr (tr f B K) D XX) A YY) X Y YY = YY := by rw [tr_o _ (Ne.symm n3) (Ne.symm m2), tr_b, e2]
  have a3 : tr (tr (tr (tr f B K) D XX) A YY) X Y X = X := by rw [tr_a, tr_o _ m3 m2, tr_o _ m6 m1, tr_o _ m4 m5, h.fy]
  have a4 : tr (tr (tr (tr f B K) D XX) A YY) X Y Y = Y := by rw [tr_b, e3]
  -- laid behind others
  have c4 := cyA_ins b4 lK lxx a1 (Ne.symm k4)
  have b5 := b4.tr lK lxx
  have c5 := cyA_ins b5 lB lyy (by rw [tr_o _ j3 (Ne.symm k1), a2]) (Ne.symm j2)
  have b6 := b5.tr lB lyy
  have c6 := cyA_ins b6 lA lx (by rw [tr_o _ n5 n3, tr_o _ n6 n2, a3]) (Ne.symm n4)
  have b7 := b6.tr lA lx
  have c7 := cyA_ins b7 lD ly (by rw [tr_o _ m3 (Ne.symm n1), tr_o _ m4 m2, tr_o _ m5 m1, a4]) (Ne.symm m6)
  have e : cyA (tr (tr (tr (tr (tr (tr (tr (tr f B K) D XX) A YY) X Y) K XX) B YY) A X) D Y) M = cyA g M := cyA_congr fun x hx => by
    by_cases x1 : x = X
    · rw [x1, h.gx, tr_o _ n7 n1, tr_b, tr_o _ i1 (Ne.symm j1), tr_o _ i2 (Ne.symm k2), tr_o _ (Ne.symm n4) (Ne.symm m3), tr_a, tr_o _ j4 (Ne.symm k1), tr_o _ j2 j3, h.fyy]
    by_cases x2 : x = Y
    · rw [x2, h.gy, tr_b, tr_o _ (Ne.symm i3) (Ne.symm n7), tr_o _ (Ne.symm o2) (Ne.symm j4), tr_o _ (Ne.symm p1) (Ne.symm k5), tr_o _ (Ne.symm n7) (Ne.symm m6), tr_o _ (Ne.symm i3) (Ne.symm j4), tr_a, tr_o _ k3 k4, h.fxx]
    by_cases x3 : x = XX
    · rw [x3, h.gxx, tr_o _ k5 (Ne.symm m1), tr_o _ k2 (Ne.symm n2), tr_o _ k3 k1, tr_b, tr_o _ (Ne.symm n6) (Ne.symm m5), tr_o _ (Ne.symm i2) (Ne.symm j3), tr_o _ p1 (Ne.symm k4), tr_b, h.fb]
    by_cases x4 : x = YY
    · rw [x4, h.gyy, tr_o _ j4 (Ne.symm m2), tr_o _ j1 (Ne.symm n3), tr_b, tr_o _ o1 (Ne.symm k3), tr_o _ (Ne.symm n5) (Ne.symm m4), tr_o _ (Ne.symm i1) (Ne.symm j2), tr_o _ o2 (Ne.symm k3), tr_a, h.fk]
    by_cases x5 : x = A
    · rw [x5, h.ga, tr_o _ i3 (Ne.symm m3), tr_a, tr_o _ n5 n3, tr_o _ n6 n2, a3]
    by_cases x6 : x = B
    · rw [x6, h.gb, tr_o _ o2 (Ne.symm m4), tr_o _ (Ne.symm i1) (Ne.symm n5), tr_a, tr_o _ j3 (Ne.symm k1), a2]
    by_cases x7 : x = K
    · rw [x7, h.gk, tr_o _ p1 (Ne.symm m5), tr_o _ (Ne.symm i2) (Ne.symm n6), tr_o _ (Ne.symm o1) (Ne.symm j3), tr_a, a1]
    by_cases x8 : x = D
    · rw [x8, h.gd, tr_a, tr_o _ m3 (Ne.symm n1), tr_o _ m4 m2, tr_o _ m5 m1, a4]
    rw [tr_o _ x8 x2, tr_o _ x5 x1, tr_o _ x6 x4, tr_o _ x7 x3, tr_o _ x1 x2, tr_o _ x5 x4, tr_o _ x8 x3, tr_o _ x6 x7, h.go x hx (by simp only [List.mem_cons, List.not_mem_nil, or_false, not_or]; exact ⟨x1, x2, x3, x4, x5, x6, x7, x8⟩)]
  omega
/-- The two strands, for a set that g and al keep. -/
theorem PullG.strands {f g al : Nat → Nat} {M X Y XX YY A B K D : Nat} (h : PullG f g al M X Y XX YY A B K D) {S : Nat → Prop} (hS : Closed (edb g al M) S) :
    ((S A ↔ S X) ∧ (S A ↔ S XX) ∧ (S A ↔ S K) ∧ (S A ↔ S (al A)) ∧ (S A ↔ S (al K))) ∧ (S B ↔ S Y) ∧ (S B ↔ S YY) ∧ (S B ↔ S D) ∧ (S B ↔ S (al B)) ∧ (S B ↔ S (al D)) := by
  obtain ⟨lx, ly, lxx, lyy, lA, lB, lK, lD⟩ := h.lt
  obtain ⟨s1, s2⟩ := closed_edb.1 hS
  have q1 := s1 A lA
  have q2 := s2 X lx
  have q3 := s1 K lK
  have q4 := s1 B lB
  have q5 := s2 Y ly
  have q6 := s1 D lD
  have r1 := s2 A lA
  have r2 := s2 K lK
  have r3 := s2 B lB
  have r4 := s2 D lD
  rw [h.ga] at q1
  rw [h.ax] at q2
  rw [h.gk] at q3
  rw [h.gb] at q4
  rw [h.ay] at q5
  rw [h.gd] at q6
  have t1 : S A ↔ S K := q1.trans (q2.trans q3.symm)
  have t2 : S B ↔ S D := q4.trans (q5.symm.trans q6.symm)
  exact ⟨⟨q1, q1.trans q2, t1, r1, t1.trans r2⟩, q4.trans q5.symm, q4, t2, r3, t2.trans r4⟩
/-- Where the strands are one set, f keeps what g keeps. -/
theorem PullG.keeps {f g al : Nat → Nat} {M X Y XX YY A B K D : Nat} (h : PullG f g al M X Y XX YY A B K D) {S : Nat → Prop} (hS : Closed (edb g al M) S) (hAB : S A ↔ S B) : Closed (edb f al M) S := by
  obtain ⟨⟨a1, a2, a3, a4, a5⟩, b1, b2, b3, b4, b5⟩ := h.strands hS
  obtain ⟨s1, s2⟩ := closed_edb.1 hS
  refine closed_edb.2 ⟨fun i hi => ?_, s2⟩
  by_cases x1 : i = X
  · rw [x1, h.fx, ← a1, ← b1, hAB]
  by_cases x2 : i = Y
  · rw [x2, h.fy, ← a1, ← b1, hAB]
  by_cases x3 : i = XX
  · rw [x3, h.fxx, ← a2, ← b4, hAB]
  by_cases x4 : i = YY
  · rw [x4, h.fyy, ← a5, ← b2, hAB]
  by_cases x5 : i = A
  · rw [x5, h.fa, ← b2, hAB]
  by_cases x6 : i = B
  · rw [x6, h.fb, ← a4, hAB]
  by_cases x7 : i = K
  · rw [x7, h.fk, ← a3, ← b5, hAB]
  by_cases x8 : i = D
  · rw [x8, h.fd, ← a2, ← b3, hAB]
  rw [← h.go i hi (by simp only [List.mem_cons, List.not_mem_nil, or_false, not_or]; exact ⟨x1, x2, x3, x4, x5, x6, x7, x8⟩)]
  exact s1 i hi
/-- Two rings at the sides: the strands hang together. -/
theorem PullG.one {f g al : Nat → Nat} {M X Y XX YY A B K D : Nat} (h : PullG f g al M X Y XX YY A B K D) (hn : ¬ Con (eds f M) B K) {S : Nat → Prop} (hS : Closed (edb g al M) S) (hA : S A) : S B := by
  refine Classical.byContradiction fun hB => ?_
  obtain ⟨lx, ly, lxx, lyy, lA, lB, lK, lD⟩ := h.lt
  have nd := h.nd
  simp only [List.nodup_cons, List.mem_cons, List.not_mem_nil, or_false, not_or, not_false_eq_true, and_true, List.nodup_nil] at nd
  obtain ⟨⟨n1, n2, n3, n4, n5, n6, n7⟩, ⟨m1, m2, m3, m4, m5, m6⟩, ⟨k1, k2, k3, k4, k5⟩, ⟨j1, j2, j3, j4⟩, ⟨i1, i2, i3⟩, ⟨o1, o2⟩, p1⟩ := nd
  obtain ⟨⟨a1, a2, a3, a4, a5⟩, b1, b2, b3, b4, b5⟩ := h.strands hS
  obtain ⟨s1, s2⟩ := closed_edb.1 hS
  have alx : ∀ z, z < M → al z = X → z = XX := fun z hz e => by rw [← h.aa z hz, e, h.ax]
  have alxx : ∀ z, z < M → al z = XX → z = X := fun z hz e => by rw [← h.aa z hz, e, ← h.ax, h.aa X lx]
  obtain ⟨p, h0, hp⟩ := period h.bf lB
  have key : ∀ i, (S (it f (i + 1) B) ∧ it f (i + 1) B ≠ X ∧ it f (i + 1) B ≠ XX) ∨ it f (i + 1) B = YY := by
    intro i
    induction i with
    | zero =>
      show (S (f B) ∧ f B ≠ X ∧ f B ≠ XX) ∨ _
      rw [h.fb]
      exact Or.inl ⟨a4.1 hA, fun e => k2 (alx A lA e).symm, fun e => n4 (alxx A lA e).symm⟩
    | succ i ih =>
      have hz := it_lt h.bf lB (i + 1)
      have hk : it f (i + 1) B ≠ K := fun q => hn (q ▸ con_it h.bf lB (i + 1))
      show (S (f (it f (i + 1) B)) ∧ f (it f (i + 1) B) ≠ X ∧ f (it f (i + 1) B) ≠ XX) ∨ f (it f (i + 1) B) = YY
      generalize it f (i + 1) B = z at ih hz hk ⊢
      by_cases z1 : z = YY
      · rw [z1, h.fyy]
        exact Or.inl ⟨a5.1 hA, fun e => k4 (alx K lK e).symm, fun e => n6 (alxx K lK e).symm⟩
      obtain ⟨hs, z2, z3⟩ := ih.resolve_right z1
      by_cases z4 : z = A
      · exact Or.inr (by rw [z4, h.fa])
      have z5 : z ≠ B := fun e => hB (e ▸ hs)
      have z6 : z ≠ D := fun e => hB (b3.2 (e ▸ hs))
      have z7 : z ≠ Y := fun e => hB (b1.2 (e ▸ hs))
      have e := h.go z hz (by simp only [List.mem_cons, List.not_mem_nil, or_false, not_or]; exact ⟨z2, z7, z3, z1, z4, z5, hk, z6⟩)
      have s := s1 z hz
      rw [e] at s
      exact Or.inl ⟨s.1 hs, fun q => z7 (h.bf.inj z Y hz ly (by rw [q, h.fy])), fun q => z6 (h.bf.inj z D hz lD (by rw [q, h.fd]))⟩
  have := key (p - 1)
  rw [show p - 1 + 1 = p by omega, hp] at this
  rcases this with q | q
  · exact hB q.1
  · exact j2 q.symm
/-- Rings and pieces behind a pull: two rings at the sides become one and the pieces stay, or one becomes two and there is at most one piece more. -/
theorem PullG.euler {f g al : Nat → Nat} {M X Y XX YY A B K D : Nat} (h : PullG f g al M X Y XX YY A B K D) (hg : ∀ x, x < M → g x < M) :
    (cyA g M + 2 = cyA f M ∧ kN (edb g al M) M ≤ kN (edb f al M) M) ∨ (cyA g M = cyA f M ∧ kN (edb g al M) M ≤ kN (edb f al M) M + 1) := by
  obtain ⟨lx, ly, lxx, lyy, lA, lB, lK, lD⟩ := h.lt
  have nd := h.nd
  simp only [List.nodup_cons, List.mem_cons, List.not_mem_nil, or_false, not_or, not_false_eq_true, and_true, List.nodup_nil] at nd
  have c := h.count
  by_cases hc : Con (eds f M) B K
  · refine Or.inr ⟨?_, ?_⟩
    · have := cyA_part h.bf lB lK nd.2.2.2.2.2.1.1 hc
      omega
    · have k1 := kN_edge (edb_lt hg h.la) lA lB
      have k2 := kN_le (M := M) (edb_lt h.bf.lt h.la) (F := edb g al M ++ [(A, B)]) (fun e he => by
        rcases List.mem_append.1 he with he | he
        · exact edb_lt hg h.la e he
        · rw [List.mem_singleton.1 he]; exact ⟨lA, lB⟩) fun x y hxy S hS =>
          hxy S (h.keeps (fun e he => hS e (List.mem_append_left _ he)) (hS (A, B) (List.mem_append_right _ (List.Mem.head _))))
      omega
  · refine Or.inl ⟨?_, ?_⟩
    · have := cyA_join h.bf lB lK hc
      omega
    · refine kN_le (edb_lt h.bf.lt h.la) (edb_lt hg h.la) fun x y hxy S hS => hxy S (h.keeps hS ⟨h.one hc hS, fun hb => ?_⟩)
      refine Classical.byContradiction fun ha => ?_
      have hS' : Closed (edb g al M) fun z => ¬ S z := fun e he => by have := hS e he; exact not_congr this
      exact h.one hc hS' ha hb
end Go.Proofs.Ytagaajlbkfkaiaa
/- Plain mathematics: a curl, or a face of two, of a diagram, passed straight. -/
namespace Go.Proofs.Ytagaajlbkfkaiaa

/-- The dart that comes in at a side. -/
def ein (C : List Cr) (k s : Nat) : Nat := al (pd C (4 * k + s))
/-- Onward, straight through some crossings. -/
def fs (C : List Cr) (G : List Nat) (j : Nat) : Nat := if dC C j ∈ G then pd C (4 * dC C j + (dS C j + 2) % 4) else fd C j
theorem al_zero : al 0 = 0 := rfl
theorem al_lt {n x : Nat} (h : x < 4 * n + 1) : al x < 4 * n + 1 := by
  rcases Nat.eq_zero_or_pos x with rfl | hp
  · rw [al_zero]; omega
  · have := al_may (n := n) hp (by omega); omega
theorem al_back (x : Nat) : al (al x) = x := by
  rcases Nat.eq_zero_or_pos x with rfl | hp
  · rfl
  · exact al_al hp
theorem ein_at {C : List Cr} {loops : Int} (hm : mayD C loops = true) (k s : Nat) (hk : k < C.length) (hs : s < 4) : 1 ≤ ein C k s ∧ ein C k s ≤ 4 * C.length ∧ dC C (ein C k s) = k ∧ dS C (ein C k s) = s ∧ al (ein C k s) = pd C (4 * k + s) ∧ fd C (ein C k s) = pd C (4 * k + (s + 3) % 4) := by
  obtain ⟨-, h1, h2, h3, h4⟩ := pd_at hm k s hk hs
  obtain ⟨a1, a2, -, -⟩ := al_may h3 h4
  obtain ⟨d1, d2⟩ := dC_al (C := C) h3 h4
  exact ⟨a1, a2, d1.trans h1, d2.trans h2, al_back _, pd_sig hm k s hk hs⟩
theorem ein_inj {C : List Cr} {loops : Int} (hm : mayD C loops = true) {k s j t : Nat} (hk : k < C.length) (hs : s < 4) (hj : j < C.length) (ht : t < 4) (e : ein C k s = ein C j t) : k = j ∧ s = t := by
  obtain ⟨-, -, a, b, -, -⟩ := ein_at hm k s hk hs
  obtain ⟨-, -, c, d, -, -⟩ := ein_at hm j t hj ht
  rw [e] at a b
  exact ⟨a.symm.trans c, b.symm.trans d⟩
theorem ein_onto {C : List Cr} {loops : Int} (hm : mayD C loops = true) {x : Nat} (h1 : 1 ≤ x) (h2 : x ≤ 4 * C.length) : dC C x < C.length ∧ dS C x < 4 ∧ x = ein C (dC C x) (dS C x) := by
  obtain ⟨-, h3, h4⟩ := d_may hm x h1 h2
  refine ⟨h3, h4, ?_⟩
  obtain ⟨q, hq, e⟩ := (pd_bij hm).onto (y := al x - 1) (by have := al_may h1 h2; omega)
  have ha := al_may h1 h2
  have hp := pd_at hm (q / 4) (q % 4) (by omega) (by omega)
  rw [show 4 * (q / 4) + q % 4 = q by omega] at hp
  have e2 : pd C q = al x := by have e : pd C q - 1 = al x - 1 := e; omega
  have hx : x = ein C (q / 4) (q % 4) := by
    unfold ein
    rw [show 4 * (q / 4) + q % 4 = q by omega, e2, al_back]
  have g := ein_at hm (q / 4) (q % 4) (by omega) (by omega)
  rw [← hx] at g
  rw [g.2.2.1, g.2.2.2.1]
  exact hx
theorem fs_in {C : List Cr} {loops : Int} (hm : mayD C loops = true) {G : List Nat} {k s : Nat} (hk : k < C.length) (hs : s < 4) (hG : k ∈ G) : fs C G (ein C k s) = pd C (4 * k + (s + 2) % 4) := by
  obtain ⟨-, -, h1, h2, -, -⟩ := ein_at hm k s hk hs
  unfold fs
  rw [h1, h2, if_pos hG]
theorem fs_out {C : List Cr} {G : List Nat} {x : Nat} (h : dC C x ∉ G) : fs C G x = fd C x := if_neg h
theorem fs_may {C : List Cr} {loops : Int} (hm : mayD C loops = true) (G : List Nat) {x : Nat} (h1 : 1 ≤ x) (h2 : x ≤ 4 * C.length) : 1 ≤ fs C G x ∧ fs C G x ≤ 4 * C.length := by
  obtain ⟨-, h3, h4⟩ := d_may hm x h1 h2
  unfold fs
  split
  · exact (pd_at hm (dC C x) ((dS C x + 2) % 4) h3 (by omega)).2.2.2
  · exact fd_closed hm x h1 h2
theorem fs_lt {C : List Cr} {loops : Int} (hm : mayD C loops = true) (G : List Nat) {x : Nat} (h : x < 4 * C.length + 1) : up0 (fs C G) x < 4 * C.length + 1 := by
  unfold up0
  split
  · omega
  · have := (fs_may hm G (x := x) (by omega) (by omega)).2; omega
theorem fd_bij {C : List Cr} {loops : Int} (hm : mayD C loops = true) : Bij (up0 (fd C)) (4 * C.length + 1) := bij_up0 (fd_closed hm) fun a b h1 h2 h3 h4 e => fd_inj hm a b h1 h2 h3 h4 e
/-- A curl is one. -/
theorem curl_g {C : List Cr} {loops : Int} (hm : mayD C loops = true) {k s : Nat} (hk : k < C.length) (hs : s < 4) (e : (C.getD k Cr.none).arc s = (C.getD k Cr.none).arc ((s + 1) % 4)) :
    CurlG (up0 (fd C)) (up0 (fs C [k])) al (4 * C.length + 1) (ein C k ((s + 1) % 4)) (ein C k s) (ein C k ((s + 2) % 4)) (ein C k ((s + 3) % 4)) := by
  have s1 : (s + 1) % 4 < 4 := by omega
  have s2 : (s + 2) % 4 < 4 := by omega
  have s3 : (s + 3) % 4 < 4 := by omega
  obtain ⟨p0, p1, p2, p3, p4, p5⟩ := ein_at hm k s hk hs
  obtain ⟨q0, q1, q2, q3, q4, q5⟩ := ein_at hm k ((s + 1) % 4) hk s1
  obtain ⟨u0, u1, u2, u3, u4, u5⟩ := ein_at hm k ((s + 2) % 4) hk s2
  obtain ⟨v0, v1, v2, v3, v4, v5⟩ := ein_at hm k ((s + 3) % 4) hk s3
  have ne : ∀ a b, a < 4 → b < 4 → a ≠ b → ein C k a ≠ ein C k b := fun a b ha hb hab q => hab (ein_inj hm hk ha hk hb q).2
  have in1 := fun a (ha : a < 4) => fs_in hm (G := [k]) hk ha (List.mem_singleton.2 rfl)
  -- the arc's two ends
  have hal : al (ein C k ((s + 1) % 4)) = ein C k s := by
    rw [q4]
    obtain ⟨a1, -, -, a2, a3⟩ := pd_at hm k s hk hs
    obtain ⟨b1, -, -, b2, b3⟩ := pd_at hm k ((s + 1) % 4) hk s1
    have ea : aAt C k ((s + 1) % 4) = aAt C k s := by unfold aAt; rw [e]
    have h1 : 1 ≤ aAt C k s := (en_side hm k s hk hs).2.2.1
    have hc : (C.getD k Cr.none).comes ((s + 1) % 4) = !(C.getD k Cr.none).comes s := by
      have hn : pd C (4 * k + (s + 1) % 4) ≠ pd C (4 * k + s) := fun q => by have := pd_ne hm hk s1 hs q; omega
      rw [a1, b1, ea] at hn
      revert hn
      cases (C.getD k Cr.none).comes ((s + 1) % 4) <;> cases (C.getD k Cr.none).comes s <;> intro hn
      · exact absurd rfl hn
      · rfl
      · rfl
      · exact absurd rfl hn
    unfold ein al
    rw [a1, b1, ea, hc, dA_mk h1, dB_mk h1]
  have hal2 : pd C (4 * k + s) = ein C k ((s + 1) % 4) := by rw [← p4, ← hal, al_back]
  refine
    { bf := fd_bij hm, la := fun x hx => al_lt hx, lp := by omega, lq := by omega, lu := by omega, lv := by omega
      pq := ne _ _ s1 hs (by omega), pu := ne _ _ s1 s2 (by omega), pv := ne _ _ s1 s3 (by omega), qu := ne _ _ hs s2 (by omega), qv := ne _ _ hs s3 (by omega), uv := ne _ _ s2 s3 (by omega)
      aq := hal, fp := ?_, fq := ?_, fu := ?_, fv := ?_, gp := ?_, gq := ?_, gu := ?_, gv := ?_, go := ?_ }
  · rw [up0_pos _ q0, q5, show ((s + 1) % 4 + 3) % 4 = s by omega, hal2]
  · rw [up0_pos _ p0, p5, v4]
  · rw [up0_pos _ u0, u5, show ((s + 2) % 4 + 3) % 4 = (s + 1) % 4 by omega, ← q4, hal]
  · rw [up0_pos _ v0, v5, show ((s + 3) % 4 + 3) % 4 = (s + 2) % 4 by omega, u4]
  · rw [up0_pos _ q0, in1 _ s1, show ((s + 1) % 4 + 2) % 4 = (s + 3) % 4 by omega, v4]
  · rw [up0_pos _ p0, in1 _ hs, u4]
  · rw [up0_pos _ u0, in1 _ s2, show ((s + 2) % 4 + 2) % 4 = s by omega, hal2]
  · rw [up0_pos _ v0, in1 _ s3, show ((s + 3) % 4 + 2) % 4 = (s + 1) % 4 by omega, ← q4, hal]
  · intro x hx x1 x2 x3 x4
    rcases Nat.eq_zero_or_pos x with rfl | hp
    · rfl
    · rw [up0_pos _ hp, up0_pos _ hp]
      refine fs_out fun hG => ?_
      obtain ⟨d1, d2, d3⟩ := ein_onto hm hp (by omega)
      rw [List.mem_singleton.1 hG] at d3
      generalize dS C x = d at d2 d3
      by_cases y1 : d = s
      · exact x2 (y1 ▸ d3)
      by_cases y2 : d = (s + 1) % 4
      · exact x1 (y2 ▸ d3)
      by_cases y3 : d = (s + 2) % 4
      · exact x3 (y3 ▸ d3)
      · exact x4 ((show d = (s + 3) % 4 by omega) ▸ d3)
/-- A face of two at two crossings is one. -/
theorem pull_g {C : List Cr} {loops : Int} (hm : mayD C loops = true) {p q r t : Nat} (hp : p < C.length) (hq : q < C.length) (hpq : p ≠ q) (hr : r < 4) (ht : t < 4) (fX : fd C (ein C q t) = ein C p r) (fY : fd C (ein C p r) = ein C q t) (G : List Nat) (hG : ∀ k, k ∈ G ↔ k = p ∨ k = q) :
    PullG (up0 (fd C)) (up0 (fs C G)) al (4 * C.length + 1) (ein C q t) (ein C p r) (ein C p ((r + 3) % 4)) (ein C q ((t + 3) % 4)) (ein C p ((r + 1) % 4)) (ein C p ((r + 2) % 4)) (ein C q ((t + 2) % 4)) (ein C q ((t + 1) % 4)) := by
  have r1 : (r + 1) % 4 < 4 := by omega
  have r2 : (r + 2) % 4 < 4 := by omega
  have r3 : (r + 3) % 4 < 4 := by omega
  have t1 : (t + 1) % 4 < 4 := by omega
  have t2 : (t + 2) % 4 < 4 := by omega
  have t3 : (t + 3) % 4 < 4 := by omega
  obtain ⟨x0, x1, x2, x3, x4, x5⟩ := ein_at hm q t hq ht
  obtain ⟨y0, y1, y2, y3, y4, y5⟩ := ein_at hm p r hp hr
  obtain ⟨xx0, xx1, xx2, xx3, xx4, xx5⟩ := ein_at hm p ((r + 3) % 4) hp r3
  obtain ⟨yy0, yy1, yy2, yy3, yy4, yy5⟩ := ein_at hm q ((t + 3) % 4) hq t3
  obtain ⟨a0, a1, a2, a3, a4, a5⟩ := ein_at hm p ((r + 1) % 4) hp r1
  obtain ⟨b0, b1, b2, b3, b4, b5⟩ := ein_at hm p ((r + 2) % 4) hp r2
  obtain ⟨k0, k1, k2, k3, k4, k5⟩ := ein_at hm q ((t + 2) % 4) hq t2
  obtain ⟨d0, d1, d2, d3, d4, d5⟩ := ein_at hm q ((t + 1) % 4) hq t1
  have ne1 : ∀ a b, a < 4 → b < 4 → a ≠ b → ein C p a ≠ ein C p b := fun a b ha hb hab e => hab (ein_inj hm hp ha hp hb e).2
  have ne2 : ∀ a b, a < 4 → b < 4 → a ≠ b → ein C q a ≠ ein C q b := fun a b ha hb hab e => hab (ein_inj hm hq ha hq hb e).2
  have ne3 : ∀ a b, a < 4 → b < 4 → ein C p a ≠ ein C q b := fun a b ha hb e => hpq (ein_inj hm hp ha hq hb e).1
  have ne4 : ∀ a b, a < 4 → b < 4 → ein C q a ≠ ein C p b := fun a b ha hb e => hpq (ein_inj hm hq ha hp hb e).1.symm
  have inp := fun a (ha : a < 4) => fs_in hm (G := G) hp ha ((hG p).2 (Or.inl rfl))
  have inq := fun a (ha : a < 4) => fs_in hm (G := G) hq ha ((hG q).2 (Or.inr rfl))
  have ax : al (ein C q t) = ein C p ((r + 3) % 4) := by rw [← fY, y5]; rfl
  have ay : al (ein C p r) = ein C q ((t + 3) % 4) := by rw [← fX, x5]; rfl
  refine
    { bf := fd_bij hm, la := fun x hx => al_lt hx, aa := fun x _ => al_back x, lt := by omega, nd := ?_, ax := ax, ay := ay
      fx := by rw [up0_pos _ x0, fX], fy := by rw [up0_pos _ y0, fY]
      fxx := ?_, fyy := ?_, fa := ?_, fb := ?_, fk := ?_, fd := ?_, gx := ?_, gy := ?_, gxx := ?_, gyy := ?_, ga := ?_, gb := ?_, gk := ?_, gd := ?_, go := ?_ }
  · simp only [List.nodup_cons, List.mem_cons, List.not_mem_nil, or_false, not_or, not_false_eq_true, and_true, List.nodup_nil]
    exact ⟨⟨ne4 _ _ ht hr, ne4 _ _ ht r3, ne2 _ _ ht t3 (by omega), ne4 _ _ ht r1, ne4 _ _ ht r2, ne2 _ _ ht t2 (by omega), ne2 _ _ ht t1 (by omega)⟩,
      ⟨ne1 _ _ hr r3 (by omega), ne3 _ _ hr t3, ne1 _ _ hr r1 (by omega), ne1 _ _ hr r2 (by omega), ne3 _ _ hr t2, ne3 _ _ hr t1⟩,
      ⟨ne3 _ _ r3 t3, ne1 _ _ r3 r1 (by omega), ne1 _ _ r3 r2 (by omega), ne3 _ _ r3 t2, ne3 _ _ r3 t1⟩,
      ⟨ne4 _ _ t3 r1, ne4 _ _ t3 r2, ne2 _ _ t3 t2 (by omega), ne2 _ _ t3 t1 (by omega)⟩,
      ⟨ne1 _ _ r1 r2 (by omega), ne3 _ _ r1 t2, ne3 _ _ r1 t1⟩, ⟨ne3 _ _ r2 t2, ne3 _ _ r2 t1⟩, ne2 _ _ t2 t1 (by omega)⟩
  · rw [up0_pos _ xx0, xx5, b4, show ((r + 3) % 4 + 3) % 4 = (r + 2) % 4 by omega]
  · rw [up0_pos _ yy0, yy5, k4, show ((t + 3) % 4 + 3) % 4 = (t + 2) % 4 by omega]
  · rw [up0_pos _ a0, a5, show ((r + 1) % 4 + 3) % 4 = r by omega, ← y4, ay]
  · rw [up0_pos _ b0, b5, a4, show ((r + 2) % 4 + 3) % 4 = (r + 1) % 4 by omega]
  · rw [up0_pos _ k0, k5, d4, show ((t + 2) % 4 + 3) % 4 = (t + 1) % 4 by omega]
  · rw [up0_pos _ d0, d5, show ((t + 1) % 4 + 3) % 4 = t by omega, ← x4, ax]
  · rw [up0_pos _ x0, inq _ ht, k4]
  · rw [up0_pos _ y0, inp _ hr, b4]
  · rw [up0_pos _ xx0, inp _ r3, a4, show ((r + 3) % 4 + 2) % 4 = (r + 1) % 4 by omega]
  · rw [up0_pos _ yy0, inq _ t3, d4, show ((t + 3) % 4 + 2) % 4 = (t + 1) % 4 by omega]
  · rw [up0_pos _ a0, inp _ r1, show ((r + 1) % 4 + 2) % 4 = (r + 3) % 4 by omega, ← y5, fY]
  · rw [up0_pos _ b0, inp _ r2, show ((r + 2) % 4 + 2) % 4 = r by omega, ← y4, ay]
  · rw [up0_pos _ k0, inq _ t2, show ((t + 2) % 4 + 2) % 4 = t by omega, ← x4, ax]
  · rw [up0_pos _ d0, inq _ t1, show ((t + 1) % 4 + 2) % 4 = (t + 3) % 4 by omega, ← x5, fX]
  · intro x hx hno
    simp only [List.mem_cons, List.not_mem_nil, or_false, not_or] at hno
    obtain ⟨z1, z2, z3, z4, z5, z6, z7, z8⟩ := hno
    rcases Nat.eq_zero_or_pos x with rfl | hp0
    · rfl
    · rw [up0_pos _ hp0, up0_pos _ hp0]
      refine fs_out fun hg => ?_
      obtain ⟨g1, g2, g3⟩ := ein_onto hm hp0 (by omega)
      generalize dS C x = d at g2 g3
      rcases (hG _).1 hg with w | w
      · rw [w] at g3
        by_cases v1 : d = r
        · exact z2 (v1 ▸ g3)
        by_cases v2 : d = (r + 1) % 4
        · exact z5 (v2 ▸ g3)
        by_cases v3 : d = (r + 2) % 4
        · exact z6 (v3 ▸ g3)
        · exact z3 ((show d = (r + 3) % 4 by omega) ▸ g3)
      · rw [w] at g3
        by_cases v1 : d = t
        · exact z1 (v1 ▸ g3)
        by_cases v2 : d = (t + 1) % 4
        · exact z8 (v2 ▸ g3)
        by_cases v3 : d = (t + 2) % 4
        · exact z7 (v3 ▸ g3)
        · exact z4 ((show d = (t + 3) % 4 by omega) ▸ g3)
end Go.Proofs.Ytagaajlbkfkaiaa

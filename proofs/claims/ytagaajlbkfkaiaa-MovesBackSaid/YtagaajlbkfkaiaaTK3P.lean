/- Several texts of the proof, one behind the other. -/
import Derived.Test.YtagaajlbkfkaiaaF2P
import Derived.Test.YtagaajlbkfkaiaaW5P
/- Plain mathematics: a curl, or a face of two, of a diagram, passed straight. -/
namespace Go.Proofs.Ytagaajlbkfkaiaa
def ein (C : List Cr) (k s : Nat) : Nat := al (pd C (4 * k + s))
def fs (C : List Cr) (G : List Nat) (j : Nat) : Nat := if dC C j ∈ G then pd C (4 * dC C j + (dS C j + 2) % 4) else fd C j
theorem al_zero : al 0 = 0 := rfl
theorem al_lt {n x : Nat} (h : x < 4 * n + 1) : al x < 4 * n + 1 := by
  rcases Nat.eq_zero_or_pos x with rfl | hp
  · rw [al_zero]; omega
  · have := QW5 (n := n) hp (by omega); omega
theorem QJ4 (x : Nat) : al (al x) = x := by
  rcases Nat.eq_zero_or_pos x with rfl | hp
  · rfl
  · exact al_al hp
theorem al_inj {x y : Nat} (h : al x = al y) : x = y := by rw [← QJ4 x, h, QJ4]
theorem QK6 {C : List Cr} {loops : Int} (hm : mayD C loops = true) (k s : Nat) (hk : k < C.length) (hs : s < 4) : 1 ≤ ein C k s ∧ ein C k s ≤ 4 * C.length ∧ dC C (ein C k s) = k ∧ dS C (ein C k s) = s ∧ al (ein C k s) = pd C (4 * k + s) ∧ fd C (ein C k s) = pd C (4 * k + (s + 3) % 4) := by
  obtain ⟨-, h1, h2, h3, h4⟩ := pd_at hm k s hk hs
  obtain ⟨a1, a2, -, -⟩ := QW5 h3 h4
  obtain ⟨d1, d2⟩ := dC_al (C := C) h3 h4
  exact ⟨a1, a2, d1.trans h1, d2.trans h2, QJ4 _, pd_sig hm k s hk hs⟩
theorem ein_inj {C : List Cr} {loops : Int} (hm : mayD C loops = true) {k s j t : Nat} (hk : k < C.length) (hs : s < 4) (hj : j < C.length) (ht : t < 4) (e : ein C k s = ein C j t) : k = j ∧ s = t := by
  obtain ⟨-, -, a, b, -, -⟩ := QK6 hm k s hk hs
  obtain ⟨-, -, c, d, -, -⟩ := QK6 hm j t hj ht
  rw [e] at a b
  exact ⟨a.symm.trans c, b.symm.trans d⟩
theorem QK9 {C : List Cr} {loops : Int} (hm : mayD C loops = true) {x : Nat} (h1 : 1 ≤ x) (h2 : x ≤ 4 * C.length) : dC C x < C.length ∧ dS C x < 4 ∧ x = ein C (dC C x) (dS C x) := by
  obtain ⟨-, h3, h4⟩ := d_may hm x h1 h2
  refine ⟨h3, h4, ?_⟩
  obtain ⟨q, hq, e⟩ := (pd_bij hm).onto (y := al x - 1) (by have := QW5 h1 h2; omega)
  have ha := QW5 h1 h2
  have hp := pd_at hm (q / 4) (q % 4) (by omega) (by omega)
  rw [show 4 * (q / 4) + q % 4 = q by omega] at hp
  have e2 : pd C q = al x := by have e : pd C q - 1 = al x - 1 := e; omega
  have hx : x = ein C (q / 4) (q % 4) := by
    unfold ein
    rw [show 4 * (q / 4) + q % 4 = q by omega, e2, QJ4]
  have g := QK6 hm (q / 4) (q % 4) (by omega) (by omega)
  rw [← hx] at g
  rw [g.2.2.1, g.2.2.2.1]
  exact hx
theorem fs_in {C : List Cr} {loops : Int} (hm : mayD C loops = true) {G : List Nat} {k s : Nat} (hk : k < C.length) (hs : s < 4) (hG : k ∈ G) : fs C G (ein C k s) = pd C (4 * k + (s + 2) % 4) := by
  obtain ⟨-, -, h1, h2, -, -⟩ := QK6 hm k s hk hs
  unfold fs
  rw [h1, h2, if_pos hG]
theorem fs_out {C : List Cr} {G : List Nat} {x : Nat} (h : dC C x ∉ G) : fs C G x = fd C x := if_neg h
theorem fs_may {C : List Cr} {loops : Int} (hm : mayD C loops = true) (G : List Nat) {x : Nat} (h1 : 1 ≤ x) (h2 : x ≤ 4 * C.length) : 1 ≤ fs C G x ∧ fs C G x ≤ 4 * C.length := by
  obtain ⟨-, h3, h4⟩ := d_may hm x h1 h2
  unfold fs
  split
  · exact (pd_at hm (dC C x) ((dS C x + 2) % 4) h3 (by omega)).2.2.2
  · exact QZ0 hm x h1 h2
theorem fs_lt {C : List Cr} {loops : Int} (hm : mayD C loops = true) (G : List Nat) {x : Nat} (h : x < 4 * C.length + 1) : up0 (fs C G) x < 4 * C.length + 1 := by
  unfold up0
  split
  · omega
  · have := (fs_may hm G (x := x) (by omega) (by omega)).2; omega
theorem fd_bij {C : List Cr} {loops : Int} (hm : mayD C loops = true) : Bij (up0 (fd C)) (4 * C.length + 1) := bij_up0 (QZ0 hm) fun a b h1 h2 h3 h4 e => fd_inj hm a b h1 h2 h3 h4 e
theorem curl_g {C : List Cr} {loops : Int} (hm : mayD C loops = true) {k s : Nat} (hk : k < C.length) (hs : s < 4) (e : (C.getD k Cr.none).arc s = (C.getD k Cr.none).arc ((s + 1) % 4)) :
    CurlG (up0 (fd C)) (up0 (fs C [k])) al (4 * C.length + 1) (ein C k ((s + 1) % 4)) (ein C k s) (ein C k ((s + 2) % 4)) (ein C k ((s + 3) % 4)) := by
  have s1 : (s + 1) % 4 < 4 := by omega
  have s2 : (s + 2) % 4 < 4 := by omega
  have s3 : (s + 3) % 4 < 4 := by omega
  obtain ⟨p0, p1, p2, p3, p4, p5⟩ := QK6 hm k s hk hs
  obtain ⟨q0, q1, q2, q3, q4, q5⟩ := QK6 hm k ((s + 1) % 4) hk s1
  obtain ⟨u0, u1, u2, u3, u4, u5⟩ := QK6 hm k ((s + 2) % 4) hk s2
  obtain ⟨v0, v1, v2, v3, v4, v5⟩ := QK6 hm k ((s + 3) % 4) hk s3
  have ne : ∀ a b, a < 4 → b < 4 → a ≠ b → ein C k a ≠ ein C k b := fun a b ha hb hab q => hab (ein_inj hm hk ha hk hb q).2
  have in1 := fun a (ha : a < 4) => fs_in hm (G := [k]) hk ha (List.mem_singleton.2 rfl)
  -- the arc's two ends
  have hal : al (ein C k ((s + 1) % 4)) = ein C k s := by
    rw [q4]
    obtain ⟨a1, -, -, a2, a3⟩ := pd_at hm k s hk hs
    obtain ⟨b1, -, -, b2, b3⟩ := pd_at hm k ((s + 1) % 4) hk s1
    have ea : aAt C k ((s + 1) % 4) = aAt C k s := by unfold aAt; rw [e]
    have h1 : 1 ≤ aAt C k s := (QW3 hm k s hk hs).2.2.1
    have hc : (C.getD k Cr.none).comes ((s + 1) % 4) = !(C.getD k Cr.none).comes s := by
      have hn : pd C (4 * k + (s + 1) % 4) ≠ pd C (4 * k + s) := fun q => by have := pd_ne hm hk s1 hs q; omega
      rw [a1, b1, ea] at hn
      revert hn
      cases (C.getD k Cr.none).comes ((s + 1) % 4) <;> cases (C.getD k Cr.none).comes s <;> intro hn
      · exact absurd rfl hn
      · rfl
      · rfl
      · exact absurd rfl hn
    unfold ein al
    rw [a1, b1, ea, hc, dA_mk h1, dB_mk h1]
  have hal2 : pd C (4 * k + s) = ein C k ((s + 1) % 4) := by rw [← p4, ← hal, QJ4]
  refine
    { bf := fd_bij hm, la := fun x hx => al_lt hx, lp := by omega, lq := by omega, lu := by omega, lv := by omega
      pq := ne _ _ s1 hs (by omega), pu := ne _ _ s1 s2 (by omega), pv := ne _ _ s1 s3 (by omega), qu := ne _ _ hs s2 (by omega), qv := ne _ _ hs s3 (by omega), uv := ne _ _ s2 s3 (by omega)
      aq := hal, fp := ?_, fq := ?_, fu := ?_, fv := ?_, gp := ?_, gq := ?_, gu := ?_, gv := ?_, go := ?_ }
  · rw [QX2 _ q0, q5, show ((s + 1) % 4 + 3) % 4 = s by omega, hal2]
  · rw [QX2 _ p0, p5, v4]
  · rw [QX2 _ u0, u5, show ((s + 2) % 4 + 3) % 4 = (s + 1) % 4 by omega, ← q4, hal]
  · rw [QX2 _ v0, v5, show ((s + 3) % 4 + 3) % 4 = (s + 2) % 4 by omega, u4]
  · rw [QX2 _ q0, in1 _ s1, show ((s + 1) % 4 + 2) % 4 = (s + 3) % 4 by omega, v4]
  · rw [QX2 _ p0, in1 _ hs, u4]
  · rw [QX2 _ u0, in1 _ s2, show ((s + 2) % 4 + 2) % 4 = s by omega, hal2]
  · rw [QX2 _ v0, in1 _ s3, show ((s + 3) % 4 + 2) % 4 = (s + 1) % 4 by omega, ← q4, hal]
  · intro x hx x1 x2 x3 x4
    rcases Nat.eq_zero_or_pos x with rfl | hp
    · rfl
    · rw [QX2 _ hp, QX2 _ hp]
      refine fs_out fun hG => ?_
      obtain ⟨d1, d2, d3⟩ := QK9 hm hp (by omega)
      rw [List.mem_singleton.1 hG] at d3
      generalize dS C x = d at d2 d3
      by_cases y1 : d = s
      · exact x2 (y1 ▸ d3)
      by_cases y2 : d = (s + 1) % 4
      · exact x1 (y2 ▸ d3)
      by_cases y3 : d = (s + 2) % 4
      · exact x3 (y3 ▸ d3)
      · exact x4 ((show d = (s + 3) % 4 by omega) ▸ d3)
theorem pull_g {C : List Cr} {loops : Int} (hm : mayD C loops = true) {p q r t : Nat} (hp : p < C.length) (hq : q < C.length) (hpq : p ≠ q) (hr : r < 4) (ht : t < 4) (fX : fd C (ein C q t) = ein C p r) (fY : fd C (ein C p r) = ein C q t) (G : List Nat) (hG : ∀ k, k ∈ G ↔ k = p ∨ k = q) :
    PullG (up0 (fd C)) (up0 (fs C G)) al (4 * C.length + 1) (ein C q t) (ein C p r) (ein C p ((r + 3) % 4)) (ein C q ((t + 3) % 4)) (ein C p ((r + 1) % 4)) (ein C p ((r + 2) % 4)) (ein C q ((t + 2) % 4)) (ein C q ((t + 1) % 4)) := by
  have r1 : (r + 1) % 4 < 4 := by omega
  have r2 : (r + 2) % 4 < 4 := by omega
  have r3 : (r + 3) % 4 < 4 := by omega
  have t1 : (t + 1) % 4 < 4 := by omega
  have t2 : (t + 2) % 4 < 4 := by omega
  have t3 : (t + 3) % 4 < 4 := by omega
  obtain ⟨x0, x1, x2, x3, x4, x5⟩ := QK6 hm q t hq ht
  obtain ⟨y0, y1, y2, y3, y4, y5⟩ := QK6 hm p r hp hr
  obtain ⟨xx0, xx1, xx2, xx3, xx4, xx5⟩ := QK6 hm p ((r + 3) % 4) hp r3
  obtain ⟨yy0, yy1, yy2, yy3, yy4, yy5⟩ := QK6 hm q ((t + 3) % 4) hq t3
  obtain ⟨a0, a1, a2, a3, a4, a5⟩ := QK6 hm p ((r + 1) % 4) hp r1
  obtain ⟨b0, b1, b2, b3, b4, b5⟩ := QK6 hm p ((r + 2) % 4) hp r2
  obtain ⟨k0, k1, k2, k3, k4, k5⟩ := QK6 hm q ((t + 2) % 4) hq t2
  obtain ⟨d0, d1, d2, d3, d4, d5⟩ := QK6 hm q ((t + 1) % 4) hq t1
  have ne1 : ∀ a b, a < 4 → b < 4 → a ≠ b → ein C p a ≠ ein C p b := fun a b ha hb hab e => hab (ein_inj hm hp ha hp hb e).2
  have ne2 : ∀ a b, a < 4 → b < 4 → a ≠ b → ein C q a ≠ ein C q b := fun a b ha hb hab e => hab (ein_inj hm hq ha hq hb e).2
  have ne3 : ∀ a b, a < 4 → b < 4 → ein C p a ≠ ein C q b := fun a b ha hb e => hpq (ein_inj hm hp ha hq hb e).1
  have ne4 : ∀ a b, a < 4 → b < 4 → ein C q a ≠ ein C p b := fun a b ha hb e => hpq (ein_inj hm hq ha hp hb e).1.symm
  have inp := fun a (ha : a < 4) => fs_in hm (G := G) hp ha ((hG p).2 (Or.inl rfl))
  have inq := fun a (ha : a < 4) => fs_in hm (G := G) hq ha ((hG q).2 (Or.inr rfl))
  have ax : al (ein C q t) = ein C p ((r + 3) % 4) := by rw [← fY, y5]; rfl
  have ay : al (ein C p r) = ein C q ((t + 3) % 4) := by rw [← fX, x5]; rfl
  refine
    { bf := fd_bij hm, la := fun x hx => al_lt hx, aa := fun x _ => QJ4 x, lt := by omega, nd := ?_, ax := ax, ay := ay
      fx := by rw [QX2 _ x0, fX], fy := by rw [QX2 _ y0, fY]
      fxx := ?_, fyy := ?_, fa := ?_, fb := ?_, fk := ?_, fd := ?_, gx := ?_, gy := ?_, gxx := ?_, gyy := ?_, ga := ?_, gb := ?_, gk := ?_, gd := ?_, go := ?_ }
  · simp only [List.nodup_cons, List.mem_cons, List.not_mem_nil, or_false, not_or, not_false_eq_true, and_true, List.nodup_nil]
    exact ⟨⟨ne4 _ _ ht hr, ne4 _ _ ht r3, ne2 _ _ ht t3 (by omega), ne4 _ _ ht r1, ne4 _ _ ht r2, ne2 _ _ ht t2 (by omega), ne2 _ _ ht t1 (by omega)⟩,
      ⟨ne1 _ _ hr r3 (by omega), ne3 _ _ hr t3, ne1 _ _ hr r1 (by omega), ne1 _ _ hr r2 (by omega), ne3 _ _ hr t2, ne3 _ _ hr t1⟩,
      ⟨ne3 _ _ r3 t3, ne1 _ _ r3 r1 (by omega), ne1 _ _ r3 r2 (by omega), ne3 _ _ r3 t2, ne3 _ _ r3 t1⟩,
      ⟨ne4 _ _ t3 r1, ne4 _ _ t3 r2, ne2 _ _ t3 t2 (by omega), ne2 _ _ t3 t1 (by omega)⟩,
      ⟨ne1 _ _ r1 r2 (by omega), ne3 _ _ r1 t2, ne3 _ _ r1 t1⟩, ⟨ne3 _ _ r2 t2, ne3 _ _ r2 t1⟩, ne2 _ _ t2 t1 (by omega)⟩
  · rw [QX2 _ xx0, xx5, b4, show ((r + 3) % 4 + 3) % 4 = (r + 2) % 4 by omega]
  · rw [QX2 _ yy0, yy5, k4, show ((t + 3) % 4 + 3) % 4 = (t + 2) % 4 by omega]
  · rw [QX2 _ a0, a5, show ((r + 1) % 4 + 3) % 4 = r by omega, ← y4, ay]
  · rw [QX2 _ b0, b5, a4, show ((r + 2) % 4 + 3) % 4 = (r + 1) % 4 by omega]
  · rw [QX2 _ k0, k5, d4, show ((t + 2) % 4 + 3) % 4 = (t + 1) % 4 by omega]
  · rw [QX2 _ d0, d5, show ((t + 1) % 4 + 3) % 4 = t by omega, ← x4, ax]
  · rw [QX2 _ x0, inq _ ht, k4]
  · rw [QX2 _ y0, inp _ hr, b4]
  · rw [QX2 _ xx0, inp _ r3, a4, show ((r + 3) % 4 + 2) % 4 = (r + 1) % 4 by omega]
  · rw [QX2 _ yy0, inq _ t3, d4, show ((t + 3) % 4 + 2) % 4 = (t + 1) % 4 by omega]
  · rw [QX2 _ a0, inp _ r1, show ((r + 1) % 4 + 2) % 4 = (r + 3) % 4 by omega, ← y5, fY]
  · rw [QX2 _ b0, inp _ r2, show ((r + 2) % 4 + 2) % 4 = r by omega, ← y4, ay]
  · rw [QX2 _ k0, inq _ t2, show ((t + 2) % 4 + 2) % 4 = t by omega, ← x4, ax]
  · rw [QX2 _ d0, inq _ t1, show ((t + 1) % 4 + 2) % 4 = (t + 3) % 4 by omega, ← x5, fX]
  · intro x hx hno
    simp only [List.mem_cons, List.not_mem_nil, or_false, not_or] at hno
    obtain ⟨z1, z2, z3, z4, z5, z6, z7, z8⟩ := hno
    rcases Nat.eq_zero_or_pos x with rfl | hp0
    · rfl
    · rw [QX2 _ hp0, QX2 _ hp0]
      refine fs_out fun hg => ?_
      obtain ⟨g1, g2, g3⟩ := QK9 hm hp0 (by omega)
      generalize dS C x = d at g2 g3
      rcases (hG _).1 hg with w | w
      · rw [w] at g3
        by_cases v1 : d = r
        · exact z2 (v1 ▸ g3)
        by_cases v2 : d = (r + 1) % 4
        · exact z5 (v2 ▸ g3)
        by_cases v3 : d = (r + 2) % 4
        · exact z6 (v3 ▸ g3)
        · exact z3 ((show d = (r + 3) % 4 by omega) ▸ g3)
      · rw [w] at g3
        by_cases v1 : d = t
        · exact z1 (v1 ▸ g3)
        by_cases v2 : d = (t + 1) % 4
        · exact z8 (v2 ▸ g3)
        by_cases v3 : d = (t + 2) % 4
        · exact z7 (v3 ▸ g3)
        · exact z4 ((show d = (t + 3) % 4 by omega) ▸ g3)
end Go.Proofs.Ytagaajlbkfkaiaa
/- Plain mathematics: what a planar diagram's rings and pieces are where some crossings are passed straight. -/
namespace Go.Proofs.Ytagaajlbkfkaiaa
theorem inj_cnt {n M:Nat} {P Q:Nat->Bool} (m:Nat->Nat) (hl:∀ v,v<n->P v=true->m v<M/\Q (m v)=true) (hi:∀ u v,u<n->v<n->P u=true->P v=true->m u=m v->u=v):(List.range n).countP P<=(List.range M).countP Q:=by
 rw[List.countP_eq_length_filter,List.countP_eq_length_filter,<-List.length_map (f:=m)]
 have hnd:(((List.range n).filter P).map m).Nodup:=by
  unfold List.Nodup
  rw[List.pairwise_map]
  refine List.Pairwise.imp_of_mem ?_ (List.Pairwise.filter _ List.nodup_range)
  intro u v hu hv huv e
  obtain⟨hu,ru⟩:=List.mem_filter.1 hu
  obtain⟨hv,rv⟩:=List.mem_filter.1 hv
  exact huv (hi u v (List.mem_range.1 hu) (List.mem_range.1 hv) ru rv e)
 refine hnd.length_le_of_subset fun x hx=>?_
 obtain⟨v,hv,rfl⟩:=List.mem_map.1 hx
 obtain⟨hv,rv⟩:=List.mem_filter.1 hv
 have:=hl v (List.mem_range.1 hv) rv
 exact List.mem_filter.2 ⟨List.mem_range.2 this.1,this.2⟩
theorem cnt_zero (P:Nat->Bool) (m:Nat) (h:P 0=true):(List.range (m+1)).countP P=(List.range (m+1)).countP (fun v=>P v&&decide (1<=v))+1:=by
 rw[cnt_up1 (fun v=>P v&&decide (1<=v)) m (by simp),List.range_succ_eq_map,List.countP_cons,List.countP_map,if_pos h]
 congr 1
 refine List.countP_congr fun v _=>?_
 show P (v+1)=true↔(P (v+1)&&decide (1<=v+1))=true
 rw[decide_eq_true (by omega),Bool.and_true]
theorem rq_pos {E:List (Nat×Nat)} {W:List Nat} {m:Nat} (h:Least E (m+1) W):rq W (fun _=>true) (m+1)=rq W (fun v=>decide (1<=v)) (m+1)+1:=by
 rw[rq_eq,rq_eq]
 have h0:=h.le (v:=0) (by omega)
 rw[cnt_zero _ m (by rw[Bool.and_true];exact decide_eq_true (by omega))]
 congr 1
 refine List.countP_congr fun v _=>?_
 rw[Bool.and_true]
theorem cyA_fd {C:List Cr} {loops:Int} (hm:mayD C loops=true):cyA (up0 (fd C)) (4*C.length+1)=(QQ3 C).length+1:=by
 have h:=walks_cyN (QZ0 hm) (fun a b h1 h2 h3 h4 e=>fd_inj hm a b h1 h2 h3 h4 e) (fun v=>decide (1<=v)) (by simp)
 have hb:=(heads_roots (QZ0 hm) (fun a b h1 h2 h3 h4 e=>fd_inj hm a b h1 h2 h3 h4 e) (4*C.length) (Nat.le_refl _)).1
 have e:(QQ9 (fd C) (4*C.length) (4*C.length)).1.countP (fun l=>decide (1<=l.getD 0 0))=(QQ3 C).length:=List.countP_eq_length.2 fun l hl=>decide_eq_true (hb l hl).1
 unfold cyA cyN
 rw[rq_pos (QV7 (fd_bij hm).lt),<-e,h]
 rfl
theorem set_lv {C:List Cr} {loops:Int} (hm:mayD C loops=true) {S:Nat->Prop} (hS:Closed (edb (up0 (fd C)) al (4*C.length+1)) S) {j:Nat} (h1:1<=j) (h2:j<=4*C.length):S j↔S (pd C (4*lvC C j)):=by
 obtain⟨s1,s2⟩:=closed_edb.1 hS
 have step:∀ k s,k<C.length->s<4->(S (pd C (4*k+s))↔S (pd C (4*k+(s+3)%4))):=fun k s hk hs=>by
  obtain⟨e0,e1,-,-,e4,e5⟩:=QK6 hm k s hk hs
  have a:=s2 (ein C k s) (by omega)
  have b:=s1 (ein C k s) (by omega)
  rw[e4]at a
  rw[QX2 _ e0,e5]at b
  exact a.symm.trans b
 obtain⟨ha1,ha2,-,-⟩:=QW5 h1 h2
 obtain⟨g1,g2,g3⟩:=QK9 hm ha1 ha2
 have e:j=pd C (4*dC C (al j)+dS C (al j)):=by rw[<-(QK6 hm _ _ g1 g2).2.2.2.2.1,<-g3,QJ4]
 rw[(dC_al (C:=C) h1 h2).1]at e g1
 generalize lvC C j=k at e g1 ⊢
 generalize dS C (al j)=s at e g2
 rw[e]
 have q1:=step k 1 g1 (by decide)
 have q2:=step k 2 g1 (by decide)
 have q3:=step k 3 g1 (by decide)
 match s,g2 with
 |0,_=>exact Iff.rfl
 |1,_=>exact q1
 |2,_=>exact q2.trans q1
 |3,_=>exact q3.trans (q2.trans q1)
theorem kN_fd {C:List Cr} {loops:Int} (hm:mayD C loops=true):kN (edb (up0 (fd C)) al (4*C.length+1)) (4*C.length+1)<=pcN C+1:=by
 have hE:=edb_lt (M:=4*C.length+1) (fd_bij hm).lt (fun x hx=>al_lt (n:=C.length) hx)
 have lE:=QZ9 hE (4*C.length+1) (Nat.le_refl _)
 have hW:=QV8 hm
 unfold kN
 rw[rq_pos lE,rq_eq,pcN_eq]
 refine Nat.add_le_add_right (inj_cnt (fun j=>(whoM C).getD (lvC C j) 0) (fun v hv hP=>?_) fun u v hu hv hPu hPv e=>?_) 1
 · simp only[Bool.and_eq_true,decide_eq_true_eq]at hP
   have hl:=lv_lt hm hP.2 (by omega)
   exact⟨hW.lt hl,decide_eq_true (hW.root hl)⟩
 · simp only[Bool.and_eq_true,decide_eq_true_eq]at hPu hPv
   have hlu:=lv_lt hm hPu.2 (by omega)
   have hlv:=lv_lt hm hPv.2 (by omega)
   have hc:Con (edb (up0 (fd C)) al (4*C.length+1)) u v:=fun S hS hSu=>by
    refine(set_lv hm hS hPv.2 (by omega)).2 ?_
    refine(hW.same hlu hlv).1 e (fun k=>S (pd C (4*k))) (fun ed he=>?_) ((set_lv hm hS hPu.2 (by omega)).1 hSu)
    obtain⟨i,hi,rfl⟩:=List.mem_map.1 he
    have hi:=List.mem_range.1 hi
    have m1:=mk_le (a:=i+1) (n:=C.length) (p:=true) (by omega) (by omega)
    have m2:=mk_le (a:=i+1) (n:=C.length) (p:=false) (by omega) (by omega)
    have l1:=set_lv hm hS m1.1 m1.2
    have l2:=set_lv hm hS m2.1 m2.2
    have a1:al (mkD (i+1) true)=mkD (i+1) false:=by unfold al;rw[dA_mk (by omega),dB_mk (by omega)];rfl
    have sa:=(closed_edb.1 hS).2 (mkD (i+1) true) (by omega)
    rw[a1]at sa
    unfold lvC at l1 l2
    rw[dA_mk (by omega),dB_mk (by omega)]at l1 l2
    exact l1.symm.trans (sa.trans l2)
   have:=(lE.same hu hv).2 hc
   rw[hPu.1,hPv.1]at this
   exact this
theorem curl_euler {C:List Cr} {loops:Int} (hm:mayD C loops=true) (hp:QX1 C=true) {k s:Nat} (hk:k<C.length) (hs:s<4) (e:(C.getD k Cr.none).arc s=(C.getD k Cr.none).arc ((s+1)%4)):
    C.length+2*kN (edb (up0 (fs C [k])) al (4*C.length+1)) (4*C.length+1)<=cyA (up0 (fs C [k])) (4*C.length+1)+1+1:=by
 have h:=curl_g hm hk hs e
 have c:=h.count
 have kk:=kN_le (F:=edb (up0 (fs C [k])) al (4*C.length+1)) (edb_lt h.bf.lt h.la) (edb_lt (fun x hx=>fs_lt hm [k] hx) h.la) h.con
 have p:=(planar_sum hm).2.1 hp
 have a:=cyA_fd hm
 have b:=kN_fd hm
 omega
theorem pull_euler {C:List Cr} {loops:Int} (hm:mayD C loops=true) (hpl:QX1 C=true) {p q r t:Nat} (hp:p<C.length) (hq:q<C.length) (hpq:p≠q) (hr:r<4) (ht:t<4) (fX:fd C (ein C q t)=ein C p r) (fY:fd C (ein C p r)=ein C q t) (G:List Nat) (hG:∀ k,k∈G↔k=p∨k=q):
    C.length+2*kN (edb (up0 (fs C G)) al (4*C.length+1)) (4*C.length+1)<=cyA (up0 (fs C G)) (4*C.length+1)+2+1:=by
 have h:=pull_g hm hp hq hpq hr ht fX fY G hG
 have c:=h.euler fun x hx=>fs_lt hm G hx
 have pl:=(planar_sum hm).2.1 hpl
 have a:=cyA_fd hm
 have b:=kN_fd hm
 omega
end Go.Proofs.Ytagaajlbkfkaiaa
/- Plain mathematics: the crossings that are left, and their numbers. -/
namespace Go.Proofs.Ytagaajlbkfkaiaa
def posG (G:List Nat) (k:Nat):Nat:=(List.range k).countP fun j=>decide (j ∉ G)
theorem posG_next (G:List Nat) (k:Nat):posG G (k+1)=posG G k+if k∈G then 0 else 1:=by
 unfold posG
 rw[List.range_succ,List.countP_append,List.countP_singleton]
 by_cases h:k∈G
 · rw[if_pos h,if_neg (by simpa using h)]
 · rw[if_neg h,if_pos (by simpa using h)]
theorem posG_mono (G:List Nat) {k i:Nat} (h:k<=i):posG G k<=posG G i:=by
 induction i with
 |zero=>rw[show k=0 by omega];exact Nat.le_refl _
 |succ i ih=>
  by_cases e:k=i+1
  · rw[e];exact Nat.le_refl _
  · have:=ih (by omega)
    rw[posG_next]
    omega
theorem posG_lt {G:List Nat} {k i:Nat} (h:k<i) (hk:k ∉ G):posG G k<posG G i:=by
 have:=posG_mono G (show k+1<=i from h)
 rw[posG_next,if_neg hk]at this
 omega
theorem posG_inj {G:List Nat} {k j:Nat} (hk:k ∉ G) (hj:j ∉ G) (e:posG G k=posG G j):k=j:=by
 rcases Nat.lt_trichotomy k j with h|h|h
 · have:=posG_lt h hk;omega
 · exact h
 · have:=posG_lt h hj;omega
theorem posG_onto {G:List Nat}:∀ {n i:Nat},i<posG G n->∃ k,k<n/\k ∉ G/\posG G k=i:=by
 intro n
 induction n with
 |zero=>intro i h;exact absurd h (Nat.not_lt_zero _)
 |succ n ih=>
  intro i h
  by_cases hl:i<posG G n
  · obtain⟨k,h1,h2,h3⟩:=ih hl
    exact⟨k,by omega,h2,h3⟩
  · rw[posG_next]at h
    by_cases hg:n∈G
    · rw[if_pos hg]at h;omega
    · rw[if_neg hg]at h;exact⟨n,by omega,hg,by omega⟩
theorem reTo_pos (C:List Cr) (G:List Nat) (h:Nat->Nat) (i:Nat):(reTo C G h i).length=posG G i:=by
 induction i with
 |zero=>rfl
 |succ i ih=>
  rw[posG_next]
  simp only[reTo,List.length_append]
  rw[ih]
  split<;>simp
theorem reTo_at {C:List Cr} {G:List Nat} {h:Nat->Nat} {k:Nat} (hk:k ∉ G):∀ i,k<i->(reTo C G h i).getD (posG G k) Cr.none=reX h (C.getD k Cr.none):=by
 intro i
 induction i with
 |zero=>intro h;exact absurd h (Nat.not_lt_zero _)
 |succ i ih=>
  intro hi
  simp only[reTo]
  by_cases e:k=i
  · subst e
    rw[if_neg hk,List.getD_eq_getElem?_getD,List.getElem?_append_right (by rw[reTo_pos];exact Nat.le_refl _),reTo_pos,Nat.sub_self]
    rfl
  · have hlt:=posG_lt (G:=G) (show k<i by omega) hk
    rw[List.getD_eq_getElem?_getD,List.getElem?_append_left (by rw[reTo_pos];exact hlt),<-List.getD_eq_getElem?_getD]
    exact ih (by omega)
theorem reX_arc (h:Nat->Nat) (X:Cr) {s:Nat} (hs:s<4):(reX h X).arc s=(h (X.arc s).toNat:Int):=by
 match s,hs with
 |0,_=>rfl
 |1,_=>rfl
 |2,_=>rfl
 |3,_=>rfl
theorem reX_comes (h:Nat->Nat) (X:Cr) (s:Nat):(reX h X).comes s=X.comes s:=rfl
theorem ends_one {C:List Cr} {f:Nat->Nat} (hf:Goes C f) (G:List Nat) {a b:Nat} (_a1:1<=a) (a2:a<=2*C.length) (_b1:1<=b) (b2:b<=2*C.length) (ha:toC C a ∉ G) (hb:toC C b ∉ G) (e:(uniM C f G).getD a 0=(uniM C f G).getD b 0):a=b:=by
 have hL:=uni_least (G:=G) hf.closed
 have hc:=(hL.same (by omega) (by omega)).1 e
 have hS:Closed (uTo C f G (2*C.length)) fun z=>∃ i,it f i z=a/\∀ j,j<i->toC C (it f j z)∈G:=fun ed he=>by
  obtain⟨x,x1,x2,x3,rfl⟩:=mem_uTo.1 he
  have sh:∀ i,it f i (f x)=it f (i+1) x:=fun i=>by have:=it_add f x i 1;exact this.symm
  constructor
  · rintro⟨i,h1,h2⟩
    match i,h1,h2 with
    |0,h1,_=>exact absurd x3 (by have h1:x=a:=h1;rw[h1];exact ha)
    |i+1,h1,h2=>exact⟨i,(sh i).trans h1,fun j hj=>by have:=h2 (j+1) (by omega);show toC C (it f j (f x))∈G;rw[sh j];exact this⟩
  · rintro⟨i,h1,h2⟩
    refine⟨i+1,(sh i).symm.trans h1,fun j hj=>?_⟩
    match j with
    |0=>exact x3
    |j+1=>have:=h2 j (by omega);have e2:it f (j+1) x=it f j (f x):=(sh j).symm;show toC C (it f (j+1) x)∈G;rw[e2];exact this
 obtain⟨i,h1,h2⟩:=hc _ hS ⟨0,rfl,fun j hj=>absurd hj (Nat.not_lt_zero _)⟩
 match i,h1,h2 with
 |0,h1,_=>exact h1.symm
 |i+1,_,h2=>exact absurd (h2 0 (by omega)) hb
theorem starts_one {C:List Cr} {f:Nat->Nat} (hf:Goes C f) (G:List Nat) {a b:Nat} (a1:1<=a) (a2:a<=2*C.length) (_b1:1<=b) (b2:b<=2*C.length) (ha:enC C a false ∉ G) (hb:enC C b false ∉ G) (e:(uniM C f G).getD a 0=(uniM C f G).getD b 0):a=b:=by
 have hL:=uni_least (G:=G) hf.closed
 have hc:=(hL.same (by omega) (by omega)).1 e
 have hit:∀ i,1<=it f i a/\it f i a<=2*C.length:=fun i=>by
  induction i with
  |zero=>exact⟨a1,a2⟩
  |succ i ih=>exact hf.closed _ ih.1 ih.2
 have hS:Closed (uTo C f G (2*C.length)) fun z=>∃ i,z=it f i a/\∀ j,j<i->toC C (it f j a)∈G:=fun ed he=>by
  obtain⟨x,x1,x2,x3,rfl⟩:=mem_uTo.1 he
  constructor
  · rintro⟨i,h1,h2⟩
    have h1:x=it f i a:=h1
    refine⟨i+1,by show f x=f (it f i a);rw[h1],fun j hj=>?_⟩
    by_cases q:j=i
    · rw[q,<-h1];exact x3
    · exact h2 j (by omega)
  · rintro⟨i,h1,h2⟩
    match i,h1,h2 with
    |0,h1,_=>
     have h1:f x=a:=h1
     exact absurd x3 (by rw[<-hf.out x x1 x2,h1];exact ha)
    |i+1,h1,h2=>exact⟨i,hf.inj x _ x1 x2 (hit i).1 (hit i).2 h1,fun j hj=>h2 j (by omega)⟩
 obtain⟨i,h1,h2⟩:=hc _ hS ⟨0,rfl,fun j hj=>absurd hj (Nat.not_lt_zero _)⟩
 match i,h1,h2 with
 |0,h1,_=>exact h1.symm
 |i+1,h1,h2=>
  have h1:b=f (it f i a):=h1
  have:=hf.out _ (hit i).1 (hit i).2
  rw[<-h1]at this
  exact absurd (this▸h2 i (by omega)) hb
theorem cntB_lt {P:Nat->Bool} {u v:Nat} (h1:1<=u) (hP:P u=true) (h:u<v):cntB P u<cntB P v:=by
 induction v with
 |zero=>omega
 |succ v ih=>
  show cntB P u<cntB P v+(if 1<=v/\P v=true then 1 else 0)
  by_cases e:u=v
  · rw[<-e,if_pos ⟨h1,hP⟩];omega
  · have:=ih (by omega);omega
theorem cntB_inj {P:Nat->Bool} {u v:Nat} (hu:1<=u) (hPu:P u=true) (hv:1<=v) (hPv:P v=true) (e:cntB P u=cntB P v):u=v:=by
 rcases Nat.lt_trichotomy u v with h|h|h
 · have:=cntB_lt hu hPu h;omega
 · exact h
 · have:=cntB_lt hv hPv h;omega
end Go.Proofs.Ytagaajlbkfkaiaa
/- Plain mathematics: what is left of a diagram when crossings are taken out may be one. -/
namespace Go.Proofs.Ytagaajlbkfkaiaa
structure Lft (C:List Cr) (loops:Int) (G L:List Nat) (P:Nat->Bool):Prop where
 hm:mayD C loops=true
 go:Goes C (nx C)
 hL:uniM C (nx C) G=L
 hP:∀ v,1<=v->(P v=true↔thP C G L v)
def lft (C:List Cr) (G L:List Nat) (P:Nat->Bool):List Cr:=reTo C G (numM L P) C.length
theorem Lft.least {C:List Cr} {loops:Int} {G L:List Nat} {P:Nat->Bool} (h:Lft C loops G L P):Least (uTo C (nx C) G (2*C.length)) (2*C.length+1) L:=h.hL▸uni_least (G:=G) h.go.closed
theorem Lft.pos {C:List Cr} {loops:Int} {G L:List Nat} {P:Nat->Bool} (h:Lft C loops G L P) {a:Nat} (h1:1<=a) (h2:a<=2*C.length):1<=L.getD a 0:=
 (h.least.2 a (by omega)).1 (fun z=>1<=z) (fun e he=>by have:=uTo_lt h.go.closed e he;exact⟨fun _=>this.2.1,fun _=>this.1.1⟩) h1
theorem Lft.at {C:List Cr} {loops:Int} {G L:List Nat} {P:Nat->Bool} (h:Lft C loops G L P) {k s:Nat} (hk:k<C.length) (hG:k ∉ G) (hs:s<4):
    ((lft C G L P).getD (posG G k) Cr.none).arc s=((cntB P (L.getD (aAt C k s) 0)+1:Nat):Int)/\P (L.getD (aAt C k s) 0)=true/\1<=L.getD (aAt C k s) 0/\((lft C G L P).getD (posG G k) Cr.none).comes s=(C.getD k Cr.none).comes s:=by
 obtain⟨-,-,a1,a2⟩:=QW3 h.hm k s hk hs
 have hp:=h.pos a1 a2
 have hP:P (L.getD (aAt C k s) 0)=true:=(h.hP _ hp).2 ⟨k,s,hk,hG,hs,rfl⟩
 unfold lft
 rw[reTo_at hG _ hk,reX_comes,reX_arc _ _ hs]
 refine⟨?_,hP,hp,rfl⟩
 show((numM L P (aAt C k s):Nat):Int)=_
 unfold numM
 rw[if_pos hP]
theorem Lft.one {C:List Cr} {loops:Int} {G L:List Nat} {P:Nat->Bool} (h:Lft C loops G L P) {k s j t:Nat} (hk:k<C.length) (hG:k ∉ G) (hs:s<4) (hj:j<C.length) (hH:j ∉ G) (ht:t<4)
    (e:L.getD (aAt C k s) 0=L.getD (aAt C j t) 0) (ec:(C.getD k Cr.none).comes s=(C.getD j Cr.none).comes t):k=j/\s=t:=by
 obtain⟨k1,k2,k3,k4⟩:=QW3 h.hm k s hk hs
 obtain⟨j1,j2,j3,j4⟩:=QW3 h.hm j t hj ht
 have ea:aAt C k s=aAt C j t:=by
  rw[<-h.hL]at e
  cases hc:(C.getD k Cr.none).comes s with
  |true=>
   rw[hc]at k1
   rw[<-ec,hc]at j1
   exact ends_one h.go G k3 k4 j3 j4 (by have q:toC C (aAt C k s)=k:=k1;rw[q];exact hG) (by have q:toC C (aAt C j t)=j:=j1;rw[q];exact hH) e
  |false=>
   rw[hc]at k1
   rw[<-ec,hc]at j1
   exact starts_one h.go G k3 k4 j3 j4 (by rw[k1];exact hG) (by rw[j1];exact hH) e
 rw[ec,ea]at k1 k2
 exact⟨k1.symm.trans j1,k2.symm.trans j2⟩
theorem cntB_cnt (P:Nat->Bool) (n:Nat):cntB P n=(List.range n).countP fun v=>decide (1<=v)&&P v:=by
 induction n with
 |zero=>rfl
 |succ n ih=>
  show cntB P n+(if 1<=n/\P n=true then 1 else 0)=_
  rw[ih,List.range_succ,List.countP_append,List.countP_singleton]
  congr 1
  by_cases q:1<=n/\P n=true
  · rw[if_pos q,if_pos (by simpa using q)]
  · rw[if_neg q,if_neg (by simpa using q)]
theorem comes_dec:∀ p:Bool,∀ s,s<4->∀ t,t<4->(s==0||(s==1&&!p)||(s==3&&p))=true->(t==0||(t==1&&!p)||(t==3&&p))=true->s%2=t%2->s=t:=by decide
theorem comes_par {X:Cr} {s t:Nat} (hs:s<4) (ht:t<4) (e1:X.comes s=true) (e2:X.comes t=true) (e:s%2=t%2):s=t:=by
 exact comes_dec X.plus s hs t ht e1 e2 e
theorem Lft.many {C:List Cr} {loops:Int} {G L:List Nat} {P:Nat->Bool} (h:Lft C loops G L P):cntB P (2*C.length+1)<=2*posG G C.length:=by
 have hw:∀ v,∃ a,v<2*C.length+1->1<=v->P v=true->1<=a/\a<=2*C.length/\L.getD a 0=v/\toC C a ∉ G:=fun v=>by
  by_cases q:v<2*C.length+1/\1<=v/\P v=true
  · obtain⟨q1,q2,q3⟩:=q
    have th:=(h.hP v q2).1 q3
    rw[<-h.hL]at th
    obtain⟨-,a,ha,e,hg⟩:=(st_th h.hm h.go G v q2).1 th
    rw[h.hL]at e
    have a1:1<=a:=by
     rcases Nat.eq_zero_or_pos a with rfl|hp
     · have:=h.least.le (v:=0) (by omega);omega
     · exact hp
    unfold goneB at hg
    rw[if_neg (by omega)]at hg
    exact⟨a,fun _ _ _=>⟨a1,by omega,e,by simpa using hg⟩⟩
  · exact⟨0,fun q1 q2 q3=>absurd ⟨q1,q2,q3⟩ q⟩
 obtain⟨w,hw⟩:=Classical.axiomOfChoice hw
 have hr:=cntB_cnt P (2*C.length+1)
 have hc:(List.range (2*posG G C.length)).countP (fun _=>true)=2*posG G C.length:=by
  rw[List.countP_eq_length.2 fun _ _=>rfl,List.length_range]
 rw[hr,<-hc]
 refine inj_cnt (fun v=>2*posG G (toC C (w v))+toS C (w v)%2) (fun v hv hP=>?_) fun u v hu hv hPu hPv e=>?_
 · simp only[Bool.and_eq_true,decide_eq_true_eq]at hP
   obtain⟨a1,a2,a3,a4⟩:=hw v hv hP.1 hP.2
   have t:=(QJ0 h.hm _ a1 a2).2.1
   have:=posG_lt t a4
   exact⟨by show 2*posG G (toC C (w v))+toS C (w v)%2<_;omega,rfl⟩
 · simp only[Bool.and_eq_true,decide_eq_true_eq]at hPu hPv
   obtain⟨a1,a2,a3,a4⟩:=hw u hu hPu.1 hPu.2
   obtain⟨b1,b2,b3,b4⟩:=hw v hv hPv.1 hPv.2
   obtain⟨-,t1,t2,t3,t4⟩:=QJ0 h.hm _ a1 a2
   obtain⟨-,u1,u2,u3,u4⟩:=QJ0 h.hm _ b1 b2
   have e:2*posG G (toC C (w u))+toS C (w u)%2=2*posG G (toC C (w v))+toS C (w v)%2:=e
   have ek:=posG_inj a4 b4 (by omega)
   rw[ek]at t3 t4
   have es:=comes_par t2 u2 t4 u4 (by omega)
   rw[es,u3]at t3
   rw[<-a3,<-b3,show w u=w v by omega]
end Go.Proofs.Ytagaajlbkfkaiaa
/- Plain mathematics: what is left may be a diagram; its darts; strands passed straight. -/
namespace Go.Proofs.Ytagaajlbkfkaiaa
theorem sd_zeroT {x:Cr} {a:Int} {p:Bool}:∀ k,(∀ t,t<k->¬(x.arc t=a/\x.comes t=p))->sd x a p k=0
 |0,_=>rfl
 |k+1,h=>by rw[sd,sd_zeroT k (fun t ht=>h t (by omega)),if_neg (h k (by omega))]
theorem sdTo_zeroT {C:List Cr} {a:Int} {p:Bool}:∀ i,(∀ j t,j<i->t<4->¬((C.getD j Cr.none).arc t=a/\(C.getD j Cr.none).comes t=p))->sdTo C a p i=0
 |0,_=>rfl
 |i+1,h=>by rw[sdTo,sdTo_zeroT i (fun j t hj ht=>h j t (by omega) ht),sd_zeroT 4 (fun t ht=>h i t (by omega) ht)]
theorem may_one {D:List Cr} {l:Int} (hs:sizeB D l=true) (hr:∀ k s,k<D.length->s<4->1<=(D.getD k Cr.none).arc s/\(D.getD k Cr.none).arc s<=2*(D.length:Int))
    (one:∀ i k j t,i<D.length->k<4->j<D.length->t<4->(D.getD j Cr.none).arc t=(D.getD i Cr.none).arc k->(D.getD j Cr.none).comes t=(D.getD i Cr.none).comes k->j=i/\t=k):mayD D l=true:=by
 refine fit_yes hs fun i k hi hk=>?_
 obtain⟨h1,h2⟩:=hr i k hi hk
 refine⟨h1,h2,?_⟩
 unfold ahd
 rw[sdTo_zeroT i (fun j t hj ht h=>by have:=(one i k j t hi hk (by omega) ht h.1 h.2).1;omega),sd_zeroT k (fun t ht h=>by have:=(one i k i t hi hk hi (by omega) h.1 h.2).2;omega)]
theorem Lft.len {C:List Cr} {G L:List Nat} {P:Nat->Bool}:(lft C G L P).length=posG G C.length:=reTo_pos ..
theorem Lft.may {C:List Cr} {loops lo:Int} {G L:List Nat} {P:Nat->Bool} (h:Lft C loops G L P) (hs:sizeB (lft C G L P) lo=true):mayD (lft C G L P) lo=true:=by
 refine may_one hs (fun i s hi hs=>?_) fun i s j t hi hs hj ht ea ec=>?_
 · rw[Lft.len]at hi ⊢
   obtain⟨k,k1,k2,rfl⟩:=posG_onto hi
   obtain⟨e1,e2,e3,-⟩:=h.at k1 k2 hs
   obtain⟨-,-,a1,a2⟩:=QW3 h.hm k s k1 hs
   have hlt:=h.least.lt (v:=aAt C k s) (by omega)
   have h1:=cntB_lt e3 e2 hlt
   have h2:=h.many
   rw[e1]
   omega
 · rw[Lft.len]at hi hj
   obtain⟨k,k1,k2,rfl⟩:=posG_onto hi
   obtain⟨m,m1,m2,rfl⟩:=posG_onto hj
   obtain⟨e1,e2,e3,e4⟩:=h.at k1 k2 hs
   obtain⟨f1,f2,f3,f4⟩:=h.at m1 m2 ht
   rw[e1,f1]at ea
   rw[e4,f4]at ec
   have el:=cntB_inj f3 f2 e3 e2 (by omega)
   obtain⟨q1,q2⟩:=h.one m1 m2 ht k1 k2 hs el ec
   exact⟨by rw[q1],q2⟩
theorem Lft.arc {C:List Cr} {loops:Int} {G L:List Nat} {P:Nat->Bool} (h:Lft C loops G L P) {k s:Nat} (hk:k<C.length) (hG:k ∉ G) (hs:s<4):aAt (lft C G L P) (posG G k) s=cntB P (L.getD (aAt C k s) 0)+1:=by
 have:=(h.at hk hG hs).1
 show(((lft C G L P).getD (posG G k) Cr.none).arc s).toNat=_
 rw[this,Int.toNat_natCast]
theorem comes_opp (X:Cr) {s:Nat} (hs:s<4):X.comes ((s+2)%4)=!X.comes s:=by
 have:∀ p:Bool,∀ s,s<4->((s+2)%4==0||((s+2)%4==1&&!p)||((s+2)%4==3&&p))=!(s==0||(s==1&&!p)||(s==3&&p)):=by decide
 exact this X.plus s hs
theorem ein_arc {C:List Cr} {loops:Int} (hm:mayD C loops=true) {k s:Nat} (hk:k<C.length) (hs:s<4):dA (ein C k s)=aAt C k s/\dB (ein C k s)=!(C.getD k Cr.none).comes s:=by
 obtain⟨e,-,-,h1,h2⟩:=pd_at hm k s hk hs
 obtain⟨-,-,a3,a4⟩:=QW5 h1 h2
 have p:=(QW3 hm k s hk hs).2.2.1
 unfold ein
 rw[a3,a4,e,dA_mk p,dB_mk p]
 exact⟨rfl,rfl⟩
theorem Lft.straight {C:List Cr} {loops:Int} {G L:List Nat} {P:Nat->Bool} (h:Lft C loops G L P) {z:Nat} (z1:1<=z) (z2:z<=4*C.length) (hz:dC C z∈G):L.getD (dA (fs C G z)) 0=L.getD (dA z) 0/\dB (fs C G z)=dB z:=by
 obtain⟨g1,g2,g3⟩:=QK9 h.hm z1 z2
 generalize dC C z=k at g1 g3 hz
 generalize dS C z=s at g2 g3
 subst g3
 have s2:(s+2)%4<4:=by omega
 obtain⟨e1,e2⟩:=ein_arc h.hm g1 g2
 obtain⟨p1,p2,p3,p4⟩:=QW3 h.hm k s g1 g2
 obtain⟨q1,q2,q3,q4⟩:=QW3 h.hm k ((s+2)%4) g1 s2
 rw[fs_in h.hm g1 g2 hz,(pd_at h.hm k ((s+2)%4) g1 s2).1,dA_mk q3,dB_mk q3,e1,e2]
 refine⟨?_,comes_opp _ g2⟩
 rw[comes_opp _ g2]at q1 q2
 refine(h.least.same (by omega) (by omega)).2 ?_
 cases hc:(C.getD k Cr.none).comes s with
 |true=>
  rw[hc]at p1 p2
  refine(Con.edge (mem_uTo.2 ⟨aAt C k s,p3,p4,by have q:toC C (aAt C k s)=k:=p1;rw[q];exact hz,?_⟩)).symm
  have t1:toC C (aAt C k s)=k:=p1
  have t2:toS C (aAt C k s)=s:=p2
  unfold nx
  rw[t1,t2]
  rfl
 |false=>
  rw[hc]at q1 q2
  refine Con.edge (mem_uTo.2 ⟨aAt C k ((s+2)%4),q3,q4,by have q:toC C (aAt C k ((s+2)%4))=k:=q1;rw[q];exact hz,?_⟩)
  have t1:toC C (aAt C k ((s+2)%4))=k:=q1
  have t2:toS C (aAt C k ((s+2)%4))=(s+2)%4:=q2
  unfold nx
  rw[t1,t2,show((s+2)%4+2)%4=s by omega]
  rfl
end Go.Proofs.Ytagaajlbkfkaiaa
/- Plain mathematics: the faces of what is left are the straight rings that meet it. -/
namespace Go.Proofs.Ytagaajlbkfkaiaa
theorem fs_bij {C:List Cr} {loops:Int} (hm:mayD C loops=true) (G:List Nat):Bij (up0 (fs C G)) (4*C.length+1):=by
 refine bij_up0 (fun a h1 h2=>fs_may hm G h1 h2) fun x y x1 x2 y1 y2 e=>?_
 obtain⟨g1,g2,g3⟩:=QK9 hm x1 x2
 obtain⟨k1,k2,k3⟩:=QK9 hm y1 y2
 have form:∀ k s,k<C.length->s<4->fs C G (ein C k s)=pd C (4*k+(s+if k∈G then 2 else 3)%4):=fun k s hk hs=>by
  by_cases q:k∈G
  · rw[fs_in hm hk hs q,if_pos q]
  · obtain⟨-,-,e1,-,-,e5⟩:=QK6 hm k s hk hs
    rw[fs_out (by rw[e1];exact q),e5,if_neg q]
 rw[g3,k3,form _ _ g1 g2,form _ _ k1 k2]at e
 rw[g3,k3]
 generalize dC C x=k at*
 generalize dS C x=s at*
 generalize dC C y=j at*
 generalize dS C y=t at*
 have l1:=(pd_at hm k ((s+if k∈G then 2 else 3)%4) g1 (Nat.mod_lt _ (by decide))).2.1
 have l2:=(pd_at hm j ((t+if j∈G then 2 else 3)%4) k1 (Nat.mod_lt _ (by decide))).2.1
 rw[e,l2]at l1
 subst l1
 have:=pd_ne hm k1 (Nat.mod_lt _ (by decide)) (Nat.mod_lt _ (by decide)) e
 have est:s=t:=by
  revert this
  split<;>intro this<;>omega
 rw[est]
def Rd (C:List Cr) (G L:List Nat) (P:Nat->Bool) (j:Nat):Nat:=ein (lft C G L P) (posG G (dC C j)) (dS C j)
theorem Lft.same {C:List Cr} {loops:Int} {G L:List Nat} {P:Nat->Bool} (h:Lft C loops G L P) {j w:Nat} (j1:1<=j) (j2:j<=4*C.length) (w1:1<=w) (w2:w<=4*C.length) (hj:dC C j ∉ G) (hw:dC C w ∉ G) (e:L.getD (dA j) 0=L.getD (dA w) 0) (ed:dB j=dB w):j=w:=by
 obtain⟨g1,g2,g3⟩:=QK9 h.hm j1 j2
 obtain⟨k1,k2,k3⟩:=QK9 h.hm w1 w2
 obtain⟨a1,a2⟩:=ein_arc h.hm g1 g2
 obtain⟨b1,b2⟩:=ein_arc h.hm k1 k2
 rw[<-g3]at a1 a2
 rw[<-k3]at b1 b2
 rw[a1,b1]at e
 rw[a2,b2]at ed
 obtain⟨q1,q2⟩:=h.one g1 hj g2 k1 hw k2 e (by revert ed;cases (C.getD (dC C j) Cr.none).comes (dS C j)<;>cases (C.getD (dC C w) Cr.none).comes (dS C w)<;>intro ed<;>first|rfl|cases ed)
 rw[g3,k3,q1,q2]
theorem Lft.rd {C:List Cr} {loops lo:Int} {G L:List Nat} {P:Nat->Bool} (h:Lft C loops G L P) (hD:mayD (lft C G L P) lo=true) {j:Nat} (j1:1<=j) (j2:j<=4*C.length) (hj:dC C j ∉ G):
    1<=Rd C G L P j/\Rd C G L P j<=4*(lft C G L P).length/\Rd C G L P j=mkD (cntB P (L.getD (dA j) 0)+1) (dB j):=by
 obtain⟨g1,g2,g3⟩:=QK9 h.hm j1 j2
 have hp:posG G (dC C j)<(lft C G L P).length:=by rw[Lft.len];exact posG_lt g1 hj
 obtain⟨e1,e2,-⟩:=QK6 hD _ _ hp g2
 refine⟨e1,e2,?_⟩
 obtain⟨a1,a2⟩:=ein_arc hD hp g2
 obtain⟨b1,b2⟩:=ein_arc h.hm g1 g2
 rw[<-g3]at b1 b2
 have m:=mk_d (j:=Rd C G L P j) e1
 rw[<-m]
 show mkD (dA (ein (lft C G L P) (posG G (dC C j)) (dS C j))) (dB (ein (lft C G L P) (posG G (dC C j)) (dS C j)))=_
 rw[a1,a2,h.arc g1 hj g2,(h.at g1 hj g2).2.2.2,b1,b2]
theorem Lft.rd_inj {C:List Cr} {loops lo:Int} {G L:List Nat} {P:Nat->Bool} (h:Lft C loops G L P) (hD:mayD (lft C G L P) lo=true) {j w:Nat} (j1:1<=j) (j2:j<=4*C.length) (hj:dC C j ∉ G) (w1:1<=w) (w2:w<=4*C.length) (hw:dC C w ∉ G) (e:Rd C G L P j=Rd C G L P w):j=w:=by
 obtain⟨g1,g2,g3⟩:=QK9 h.hm j1 j2
 obtain⟨k1,k2,k3⟩:=QK9 h.hm w1 w2
 obtain⟨q1,q2⟩:=ein_inj hD (by rw[Lft.len];exact posG_lt g1 hj) g2 (by rw[Lft.len];exact posG_lt k1 hw) k2 e
 rw[g3,k3,posG_inj hj hw q1,q2]
theorem Lft.rd_onto {C:List Cr} {loops lo:Int} {G L:List Nat} {P:Nat->Bool} (h:Lft C loops G L P) (hD:mayD (lft C G L P) lo=true) {x:Nat} (x1:1<=x) (x2:x<=4*(lft C G L P).length):∃ j,1<=j/\j<=4*C.length/\dC C j ∉ G/\Rd C G L P j=x:=by
 obtain⟨g1,g2,g3⟩:=QK9 hD x1 x2
 rw[Lft.len]at g1
 obtain⟨k,k1,k2,k3⟩:=posG_onto g1
 obtain⟨e1,e2,e3,e4,-⟩:=QK6 h.hm k _ k1 g2
 refine⟨ein C k (dS (lft C G L P) x),e1,e2,by rw[e3];exact k2,?_⟩
 unfold Rd
 rw[e3,e4,k3]
 exact g3.symm
theorem Lft.turn {C:List Cr} {loops lo:Int} {G L:List Nat} {P:Nat->Bool} (h:Lft C loops G L P) (hD:mayD (lft C G L P) lo=true) {j w:Nat} (j1:1<=j) (j2:j<=4*C.length) (hj:dC C j ∉ G) (w1:1<=w) (w2:w<=4*C.length) (hw:dC C w ∉ G)
    (e:L.getD (dA w) 0=L.getD (dA (fd C j)) 0) (ed:dB w=dB (fd C j)):fd (lft C G L P) (Rd C G L P j)=Rd C G L P w:=by
 obtain⟨g1,g2,g3⟩:=QK9 h.hm j1 j2
 have hp:posG G (dC C j)<(lft C G L P).length:=by rw[Lft.len];exact posG_lt g1 hj
 have s3:(dS C j+3)%4<4:=Nat.mod_lt _ (by decide)
 rw[(h.rd hD w1 w2 hw).2.2,e,ed]
 have f1:=(QK6 h.hm _ _ g1 g2).2.2.2.2.2
 rw[<-g3]at f1
 have p:=(QW3 h.hm _ _ g1 s3).2.2.1
 rw[f1,(pd_at h.hm _ _ g1 s3).1,dA_mk p,dB_mk p]
 show fd (lft C G L P) (ein (lft C G L P) (posG G (dC C j)) (dS C j))=_
 rw[(QK6 hD _ _ hp g2).2.2.2.2.2,(pd_at hD _ _ hp s3).1,h.arc g1 hj s3,(h.at g1 hj s3).2.2.2]
theorem Lft.next {C:List Cr} {loops:Int} {G L:List Nat} {P:Nat->Bool} (h:Lft C loops G L P) {j:Nat} (j1:1<=j) (j2:j<=4*C.length) (hj:dC C j ∉ G):
    ∃ i,(1<=it (up0 (fs C G)) (i+1) j/\it (up0 (fs C G)) (i+1) j<=4*C.length)/\dC C (it (up0 (fs C G)) (i+1) j) ∉ G/\L.getD (dA (it (up0 (fs C G)) (i+1) j)) 0=L.getD (dA (fd C j)) 0/\dB (it (up0 (fs C G)) (i+1) j)=dB (fd C j):=by
 have hB:=fs_bij h.hm G
 have hin:∀ i,1<=it (up0 (fs C G)) i j/\it (up0 (fs C G)) i j<=4*C.length:=fun i=>by
  induction i with
  |zero=>exact⟨j1,j2⟩
  |succ i ih=>show 1<=up0 (fs C G) (it (up0 (fs C G)) i j)/\up0 (fs C G) (it (up0 (fs C G)) i j)<=_;rw[QX2 _ ih.1];exact fs_may h.hm G ih.1 ih.2
 obtain⟨p,h0,hp⟩:=period hB (x:=j) (by omega)
 obtain⟨i,hi,hmin⟩:=first_of (P:=fun i=>dC C (it (up0 (fs C G)) (i+1) j) ∉ G) ⟨p - 1,by rw[show p - 1+1=p by omega,hp];exact hj⟩
 refine⟨i,hin _,hi,?_⟩
 have key:∀ m,m<=i->L.getD (dA (it (up0 (fs C G)) (m+1) j)) 0=L.getD (dA (fd C j)) 0/\dB (it (up0 (fs C G)) (m+1) j)=dB (fd C j):=by
  intro m
  induction m with
  |zero=>
   intro _
   have e:it (up0 (fs C G)) (0+1) j=fd C j:=by show up0 (fs C G) j=_;rw[QX2 _ j1,fs_out hj]
   rw[e]
   exact⟨rfl,rfl⟩
  |succ m ih=>
   intro hm
   obtain⟨i1,i2⟩:=ih (by omega)
   have hg:=Classical.not_not.1 (hmin m (by omega))
   obtain⟨s1,s2⟩:=h.straight (hin (m+1)).1 (hin (m+1)).2 hg
   have e:it (up0 (fs C G)) (m+1+1) j=fs C G (it (up0 (fs C G)) (m+1) j):=by show up0 (fs C G) (it (up0 (fs C G)) (m+1) j)=_;rw[QX2 _ (hin (m+1)).1]
   rw[e,s1,s2]
   exact⟨i1,i2⟩
 exact key i (Nat.le_refl _)
theorem Lft.con {C:List Cr} {loops lo:Int} {G L:List Nat} {P:Nat->Bool} (h:Lft C loops G L P) (hD:mayD (lft C G L P) lo=true) {j w:Nat} (j1:1<=j) (j2:j<=4*C.length) (hj:dC C j ∉ G) (w1:1<=w) (w2:w<=4*C.length) (hw:dC C w ∉ G)
    (hc:Con (eds (up0 (fd (lft C G L P))) (4*(lft C G L P).length+1)) (Rd C G L P j) (Rd C G L P w)):Con (eds (up0 (fs C G)) (4*C.length+1)) j w:=fun S hS hSj=>by
 have hT:Closed (eds (up0 (fd (lft C G L P))) (4*(lft C G L P).length+1)) fun x=>∃ z,(1<=z/\z<=4*C.length/\dC C z ∉ G)/\Rd C G L P z=x/\S z:=closed_eds.2 fun x hx=>by
  rcases Nat.eq_zero_or_pos x with rfl|hx0
  · exact Iff.rfl
  · obtain⟨z,z1,z2,z3,rfl⟩:=h.rd_onto hD hx0 (by omega)
    obtain⟨i,⟨n1,n2⟩,n3,n4,n5⟩:=h.next z1 z2 z3
    have ht:=h.turn hD z1 z2 z3 n1 n2 n3 n4 n5
    rw[QX2 _ hx0,ht]
    have hs:S z↔S (it (up0 (fs C G)) (i+1) z):=⟨fun q=>con_it (fs_bij h.hm G) (by omega) (i+1) S hS q,fun q=>(con_it (fs_bij h.hm G) (by omega) (i+1)).symm S hS q⟩
    constructor
    · rintro⟨y,⟨y1,y2,y3⟩,ye,ys⟩
      rw[h.rd_inj hD y1 y2 y3 z1 z2 z3 ye]at ys
      exact⟨_,⟨n1,n2,n3⟩,rfl,hs.1 ys⟩
    · rintro⟨y,⟨y1,y2,y3⟩,ye,ys⟩
      rw[h.rd_inj hD y1 y2 y3 n1 n2 n3 ye]at ys
      exact⟨z,⟨z1,z2,z3⟩,rfl,hs.2 ys⟩
 obtain⟨z,⟨z1,z2,z3⟩,ze,zs⟩:=hc _ hT ⟨j,⟨j1,j2,hj⟩,rfl,hSj⟩
 rw[h.rd_inj hD z1 z2 z3 w1 w2 hw ze]at zs
 exact zs
end Go.Proofs.Ytagaajlbkfkaiaa
/- Plain mathematics: straight rings and pieces against those of what is left. -/
namespace Go.Proofs.Ytagaajlbkfkaiaa
theorem cnt_split (P Q:Nat->Bool):∀ l:List Nat,l.countP P=l.countP (fun v=>P v&&Q v)+l.countP fun v=>P v&&!Q v
 |[]=>rfl
 |v::l=>by
  rw[List.countP_cons,List.countP_cons,List.countP_cons,cnt_split P Q l]
  cases P v<;>cases Q v<;>simp<;>omega
def Mt (C:List Cr) (G:List Nat) (E:List (Nat×Nat)) (v:Nat):Prop:=∃ j,(1<=j/\j<=4*C.length/\dC C j ∉ G)/\Con E v j
noncomputable def mtB (C:List Cr) (G:List Nat) (E:List (Nat×Nat)) (v:Nat):Bool:=@decide (Mt C G E v) (Classical.propDecidable _)
theorem mtB_iff {C:List Cr} {G:List Nat} {E:List (Nat×Nat)} {v:Nat}:mtB C G E v=true↔Mt C G E v:=@decide_eq_true_iff _ (Classical.propDecidable _)
def rootB (W:List Nat) (v:Nat):Bool:=decide (W.getD v 0=v)&&decide (1<=v)
theorem Lft.rings {C:List Cr} {loops lo:Int} {G L:List Nat} {P:Nat->Bool} (h:Lft C loops G L P) (hD:mayD (lft C G L P) lo=true):
    (List.range (4*C.length+1)).countP (fun v=>rootB (cyW (up0 (fs C G)) (4*C.length+1)) v&&mtB C G (eds (up0 (fs C G)) (4*C.length+1)) v)<=(QQ3 (lft C G L P)).length:=by
 have hW:=QV7 (fs_bij h.hm G).lt
 have hV:=QV7 (fd_bij hD).lt
 have hF:=cyA_fd hD
 unfold cyA cyN at hF
 rw[rq_pos hV,rq_eq]at hF
 rw[<-Nat.add_right_cancel hF]
 have hw:∀ v,∃ j,mtB C G (eds (up0 (fs C G)) (4*C.length+1)) v=true->(1<=j/\j<=4*C.length/\dC C j ∉ G)/\Con (eds (up0 (fs C G)) (4*C.length+1)) v j:=fun v=>by
  by_cases q:Mt C G (eds (up0 (fs C G)) (4*C.length+1)) v
  · obtain⟨j,hj⟩:=q
    exact⟨j,fun _=>hj⟩
  · exact⟨0,fun e=>absurd (mtB_iff.1 e) q⟩
 obtain⟨w,hw⟩:=Classical.axiomOfChoice hw
 refine inj_cnt (fun v=>(cyW (up0 (fd (lft C G L P))) (4*(lft C G L P).length+1)).getD (Rd C G L P (w v)) 0) (fun v hv hP=>?_) fun u v hu hv hPu hPv e=>?_
 · rw[Bool.and_eq_true]at hP
   obtain⟨⟨j1,j2,j3⟩,-⟩:=hw v hP.2
   obtain⟨r1,r2,-⟩:=h.rd hD j1 j2 j3
   have hl:Rd C G L P (w v)<4*(lft C G L P).length+1:=by omega
   refine⟨hV.lt hl,?_⟩
   rw[Bool.and_eq_true]
   refine⟨decide_eq_true (hV.root hl),decide_eq_true (Nat.pos_of_ne_zero fun q=>?_)⟩
   have:=(hV.2 _ hl).1
   rw[q]at this
   exact zero_apart (QZ0 hD) r1 this
 · rw[Bool.and_eq_true]at hPu hPv
   obtain⟨⟨j1,j2,j3⟩,jc⟩:=hw u hPu.2
   obtain⟨⟨k1,k2,k3⟩,kc⟩:=hw v hPv.2
   obtain⟨r1,r2,-⟩:=h.rd hD j1 j2 j3
   obtain⟨s1,s2,-⟩:=h.rd hD k1 k2 k3
   have c:=h.con hD j1 j2 j3 k1 k2 k3 ((hV.same (by omega) (by omega)).1 e)
   have c2:=(hW.same hu hv).2 (jc.trans (c.trans kc.symm))
   have ru:=hPu.1
   have rv:=hPv.1
   unfold rootB at ru rv
   rw[Bool.and_eq_true,decide_eq_true_eq]at ru rv
   rw[ru.1,rv.1]at c2
   exact c2
theorem Lft.piece {C:List Cr} {loops lo:Int} {G L:List Nat} {P:Nat->Bool} (h:Lft C loops G L P) (hD:mayD (lft C G L P) lo=true) {T:Nat->Prop} (hT:Closed (arcE (lft C G L P)) T) {k s j t:Nat} (hk:k<C.length) (hG:k ∉ G) (hs:s<4) (hj:j<C.length) (hH:j ∉ G) (ht:t<4)
    (e:L.getD (aAt C k s) 0=L.getD (aAt C j t) 0):T (posG G k)↔T (posG G j):=by
 by_cases ec:(C.getD k Cr.none).comes s=(C.getD j Cr.none).comes t
 · rw[(h.one hk hG hs hj hH ht e ec).1]
 · have hp:posG G k<(lft C G L P).length:=by rw[Lft.len];exact posG_lt hk hG
   have hq:posG G j<(lft C G L P).length:=by rw[Lft.len];exact posG_lt hj hH
   obtain⟨a1,-,a3,a4⟩:=QW3 hD _ s hp hs
   obtain⟨b1,-,-,-⟩:=QW3 hD _ t hq ht
   rw[(h.at hk hG hs).2.2.2]at a1
   rw[(h.at hj hH ht).2.2.2,h.arc hj hH ht,<-e,<-h.arc hk hG hs]at b1
   have ed:=hT _ (mem_arcE a3 a4)
   revert ec a1 b1
   cases (C.getD k Cr.none).comes s<;>cases (C.getD j Cr.none).comes t<;>intro ec a1 b1
   · exact absurd rfl ec
   · rw[a1,b1]at ed;exact ed.symm
   · rw[a1,b1]at ed;exact ed
   · exact absurd rfl ec
theorem Lft.pieces {C:List Cr} {loops lo:Int} {G L:List Nat} {P:Nat->Bool} (h:Lft C loops G L P) (hD:mayD (lft C G L P) lo=true) {k j:Nat} (hk:k<C.length) (hG:k ∉ G) (hj:j<C.length) (hH:j ∉ G)
    (hc:Con (edb (up0 (fs C G)) al (4*C.length+1)) (ein C k 0) (ein C j 0)):Con (arcE (lft C G L P)) (posG G k) (posG G j):=fun T hT hTk=>by
 have hS:Closed (edb (up0 (fs C G)) al (4*C.length+1)) fun z=>1<=z/\∃ k s,(k<C.length/\k ∉ G/\s<4)/\L.getD (aAt C k s) 0=L.getD (dA z) 0/\T (posG G k):=by
  refine closed_edb.2 ⟨fun z hz=>?_,fun z hz=>?_⟩
  · rcases Nat.eq_zero_or_pos z with rfl|z1
    · exact Iff.rfl
    · rw[QX2 _ z1]
      have f1:=(fs_may h.hm G z1 (by omega)).1
      by_cases hg:dC C z∈G
      · rw[(h.straight z1 (by omega) hg).1]
        exact⟨fun q=>⟨f1,q.2⟩,fun q=>⟨z1,q.2⟩⟩
      · obtain⟨g1,g2,g3⟩:=QK9 h.hm z1 (by omega)
        have s3:(dS C z+3)%4<4:=Nat.mod_lt _ (by decide)
        have a:=(ein_arc h.hm g1 g2).1
        rw[<-g3]at a
        have f:=(QK6 h.hm _ _ g1 g2).2.2.2.2.2
        rw[<-g3]at f
        have b:dA (fs C G z)=aAt C (dC C z) ((dS C z+3)%4):=by rw[fs_out hg,f,(pd_at h.hm _ _ g1 s3).1,dA_mk (QW3 h.hm _ _ g1 s3).2.2.1]
        rw[a,b]
        constructor
        · rintro⟨-,m,s,⟨m1,m2,m3⟩,me,mt⟩
          exact⟨f1,dC C z,(dS C z+3)%4,⟨g1,hg,s3⟩,rfl,(h.piece hD hT m1 m2 m3 g1 hg g2 me).1 mt⟩
        · rintro⟨-,m,s,⟨m1,m2,m3⟩,me,mt⟩
          exact⟨z1,dC C z,dS C z,⟨g1,hg,g2⟩,rfl,(h.piece hD hT m1 m2 m3 g1 hg s3 me).1 mt⟩
  · rcases Nat.eq_zero_or_pos z with rfl|z1
    · exact Iff.rfl
    · obtain⟨a1,-,a3,-⟩:=QW5 (n:=C.length) z1 (by omega)
      rw[a3]
      exact⟨fun q=>⟨a1,q.2⟩,fun q=>⟨z1,q.2⟩⟩
 obtain⟨e0,-⟩:=QK6 h.hm k 0 hk (by decide)
 obtain⟨-,m,s,⟨m1,m2,m3⟩,me,mt⟩:=hc _ hS ⟨e0,k,0,⟨hk,hG,by decide⟩,by rw[(ein_arc h.hm hk (by decide)).1],hTk⟩
 rw[(ein_arc h.hm hj (by decide)).1]at me
 exact(h.piece hD hT m1 m2 m3 hj hH (by decide) me).1 mt
end Go.Proofs.Ytagaajlbkfkaiaa
/- Plain mathematics: straight rings that meet nothing that is left; what is left is planar. -/
namespace Go.Proofs.Ytagaajlbkfkaiaa
theorem fs_it {C:List Cr} {loops:Int} (hm:mayD C loops=true) (G:List Nat) {v:Nat} (h1:1<=v) (h2:v<=4*C.length):∀ i,1<=it (up0 (fs C G)) i v/\it (up0 (fs C G)) i v<=4*C.length:=fun i=>by
 induction i with
 |zero=>exact⟨h1,h2⟩
 |succ i ih=>show 1<=up0 (fs C G) (it (up0 (fs C G)) i v)/\up0 (fs C G) (it (up0 (fs C G)) i v)<=_;rw[QX2 _ ih.1];exact fs_may hm G ih.1 ih.2
theorem fs_back {C:List Cr} {loops:Int} (hm:mayD C loops=true) {G:List Nat} {y:Nat} (h1:1<=y) (h2:y<=4*C.length) (hg:dC C y∈G):dC C (al (fs C G y))=dC C y/\fs C G (al (fs C G y))=al y:=by
 obtain⟨g1,g2,g3⟩:=QK9 hm h1 h2
 have s2:(dS C y+2)%4<4:=Nat.mod_lt _ (by decide)
 have f:al (fs C G y)=ein C (dC C y) ((dS C y+2)%4):=by
  have:=fs_in hm g1 g2 hg
  rw[<-g3]at this
  rw[this]
  rfl
 have a:=(QK6 hm _ _ g1 g2).2.2.2.2.1
 rw[<-g3]at a
 rw[f,(QK6 hm _ _ g1 s2).2.2.1,fs_in hm g1 s2 hg,show((dS C y+2)%4+2)%4=dS C y by omega,a]
 exact⟨rfl,rfl⟩
theorem Lft.alone {C:List Cr} {loops:Int} {G L:List Nat} {P:Nat->Bool} (h:Lft C loops G L P) {v:Nat} (h1:1<=v) (h2:v<=4*C.length) (hn:¬ Mt C G (eds (up0 (fs C G)) (4*C.length+1)) v):
    ∀ i,dC C (it (up0 (fs C G)) i v)∈G/\dB (it (up0 (fs C G)) i v)=dB v:=fun i=>by
 have hg:∀ i,dC C (it (up0 (fs C G)) i v)∈G:=fun i=>Classical.byContradiction fun q=>hn ⟨_,⟨(fs_it h.hm G h1 h2 i).1,(fs_it h.hm G h1 h2 i).2,q⟩,con_it (fs_bij h.hm G) (by omega) i⟩
 refine⟨hg i,?_⟩
 induction i with
 |zero=>rfl
 |succ i ih=>
  have r:=fs_it h.hm G h1 h2 i
  show dB (up0 (fs C G) (it (up0 (fs C G)) i v))=_
  rw[QX2 _ r.1,(h.straight r.1 r.2 (hg i)).2,ih]
theorem it_more {f:Nat->Nat} {M:Nat} (h:Bij f M) {v y:Nat} (hv:v<M) (hc:Con (eds f M) v y):∃ i,it f (i+1) v=y:=by
 obtain⟨i,hi⟩:=it_con h hv hc
 obtain⟨p,p0,hp⟩:=period h hv
 refine⟨i+p-1,?_⟩
 rw[show i+p-1+1=i+p by omega,it_add,hp,hi]
theorem Lft.both {C:List Cr} {loops:Int} {G L:List Nat} {P:Nat->Bool} (h:Lft C loops G L P) {v:Nat} (h1:1<=v) (h2:v<=4*C.length) (hn:¬ Mt C G (eds (up0 (fs C G)) (4*C.length+1)) v) {j:Nat}
    (hc:Con (edb (up0 (fs C G)) al (4*C.length+1)) v j):Con (eds (up0 (fs C G)) (4*C.length+1)) v j∨Con (eds (up0 (fs C G)) (4*C.length+1)) v (al j):=by
 have hB:=fs_bij h.hm G
 have fw:∀ z,z<4*C.length+1->(Con (eds (up0 (fs C G)) (4*C.length+1)) v z∨Con (eds (up0 (fs C G)) (4*C.length+1)) v (al z))->(Con (eds (up0 (fs C G)) (4*C.length+1)) v (up0 (fs C G) z)∨Con (eds (up0 (fs C G)) (4*C.length+1)) v (al (up0 (fs C G) z))):=fun z hz q=>by
  rcases q with q|q
  · exact Or.inl (q.trans (con_f hz))
  · obtain⟨i,hi⟩:=it_more hB (by omega) q
    have r:=fs_it h.hm G h1 h2 i
    have hg:=(h.alone h1 h2 hn i).1
    have e:fs C G (it (up0 (fs C G)) i v)=al z:=by rw[<-hi];show _=up0 (fs C G) (it (up0 (fs C G)) i v);rw[QX2 _ r.1]
    have b:=(fs_back h.hm r.1 r.2 hg).2
    rw[e,QJ4]at b
    have z1:1<=z:=by
     rcases Nat.eq_zero_or_pos z with rfl|hp
     · have:=(fs_it h.hm G h1 h2 (i+1)).1
       rw[hi,al_zero]at this
       omega
     · exact hp
    rw[QX2 _ z1,b,QJ4]
    exact Or.inr (con_it hB (by omega) i)
 refine hc (fun z=>Con (eds (up0 (fs C G)) (4*C.length+1)) v z∨Con (eds (up0 (fs C G)) (4*C.length+1)) v (al z)) (closed_edb.2 ⟨fun z hz=>⟨fw z hz,fun q=>?_⟩,fun z hz=>?_⟩) (Or.inl (Con.refl _ _))
 · obtain⟨p,p0,hp⟩:=period hB hz
   have key:∀ i,Con (eds (up0 (fs C G)) (4*C.length+1)) v (it (up0 (fs C G)) (i+1) z)∨Con (eds (up0 (fs C G)) (4*C.length+1)) v (al (it (up0 (fs C G)) (i+1) z)):=fun i=>by
    induction i with
    |zero=>exact q
    |succ i ih=>exact fw _ (it_lt hB hz (i+1)) ih
   have:=key (p-1)
   rw[show p-1+1=p by omega,hp]at this
   exact this
 · show _∨_↔Con _ v (al z)∨Con _ v (al (al z))
   rw[QJ4]
   exact Or.comm
theorem Lft.apart {C:List Cr} {loops:Int} {G L:List Nat} {P:Nat->Bool} (h:Lft C loops G L P) {v:Nat} (h1:1<=v) (h2:v<=4*C.length) (hn:¬ Mt C G (eds (up0 (fs C G)) (4*C.length+1)) v):¬ Mt C G (edb (up0 (fs C G)) al (4*C.length+1)) v:=by
 rintro⟨j,⟨j1,j2,j3⟩,hc⟩
 rcases h.both h1 h2 hn hc with q|q
 · exact hn ⟨j,⟨j1,j2,j3⟩,q⟩
 · obtain⟨i,hi⟩:=it_more (fs_bij h.hm G) (by omega) q
   have r:=fs_it h.hm G h1 h2 i
   have hg:=(h.alone h1 h2 hn i).1
   have e:fs C G (it (up0 (fs C G)) i v)=al j:=by rw[<-hi];show _=up0 (fs C G) (it (up0 (fs C G)) i v);rw[QX2 _ r.1]
   have b:=(fs_back h.hm r.1 r.2 hg).1
   rw[e,QJ4]at b
   exact j3 (b▸hg)
theorem Lft.lone {C:List Cr} {loops:Int} {G L:List Nat} {P:Nat->Bool} (h:Lft C loops G L P) {WE:List Nat} (lE:Least (edb (up0 (fs C G)) al (4*C.length+1)) (4*C.length+1) WE) (b:Bool):
    (List.range (4*C.length+1)).countP (fun v=>(rootB (cyW (up0 (fs C G)) (4*C.length+1)) v&&!mtB C G (eds (up0 (fs C G)) (4*C.length+1)) v)&&decide (dB v=b))<=(List.range (4*C.length+1)).countP fun v=>rootB WE v&&!mtB C G (edb (up0 (fs C G)) al (4*C.length+1)) v:=by
 have hB:=fs_bij h.hm G
 have hW:=QV7 hB.lt
 have un:∀ v,((rootB (cyW (up0 (fs C G)) (4*C.length+1)) v&&!mtB C G (eds (up0 (fs C G)) (4*C.length+1)) v)&&decide (dB v=b))=true->(cyW (up0 (fs C G)) (4*C.length+1)).getD v 0=v/\1<=v/\(¬ Mt C G (eds (up0 (fs C G)) (4*C.length+1)) v)/\dB v=b:=fun v q=>by
  rw[Bool.and_eq_true,Bool.and_eq_true]at q
  unfold rootB at q
  rw[Bool.and_eq_true,decide_eq_true_eq,decide_eq_true_eq,decide_eq_true_eq]at q
  refine⟨q.1.1.1,q.1.1.2,fun m=>?_,q.2⟩
  have:=q.1.2
  rw[mtB_iff.2 m]at this
  cases this
 refine inj_cnt (fun v=>WE.getD v 0) (fun v hv hP=>?_) fun u v hu hv hPu hPv e=>?_
 · obtain⟨-,v1,vn,-⟩:=un v hP
   refine⟨lE.lt hv,?_⟩
   have hc:=(lE.2 v hv).1
   rw[Bool.and_eq_true]
   refine⟨?_,?_⟩
   · unfold rootB
     rw[Bool.and_eq_true]
     refine⟨decide_eq_true (lE.root hv),decide_eq_true ?_⟩
     refine hc (fun z=>1<=z) (closed_edb.2 ⟨fun z hz=>?_,fun z hz=>?_⟩) v1
     · rcases Nat.eq_zero_or_pos z with rfl|z1
       · exact Iff.rfl
       · rw[QX2 _ z1];exact⟨fun _=>(fs_may h.hm G z1 (by omega)).1,fun _=>z1⟩
     · rcases Nat.eq_zero_or_pos z with rfl|z1
       · exact Iff.rfl
       · exact⟨fun _=>(QW5 (n:=C.length) z1 (by omega)).1,fun _=>z1⟩
   · rw[Bool.not_eq_true']
     refine Bool.eq_false_iff.2 fun q=>h.apart v1 (by omega) vn ?_
     obtain⟨j,hj,hjc⟩:=mtB_iff.1 q
     exact⟨j,hj,hc.trans hjc⟩
 · obtain⟨u0,u1,un',ub⟩:=un u hPu
   obtain⟨v0,v1,-,vb⟩:=un v hPv
   have hc:=(lE.same hu hv).1 e
   rcases h.both u1 (by omega) un' hc with q|q
   · have:=(hW.same hu hv).2 q
     rw[u0,v0]at this
     exact this
   · obtain⟨i,hi⟩:=it_con hB hu q
     have d:=(h.alone u1 (by omega) un' i).2
     rw[hi,(QW5 (n:=C.length) v1 (by omega)).2.2.2,vb,ub]at d
     cases b<;>cases d
theorem Lft.planar {C:List Cr} {loops lo:Int} {G L:List Nat} {P:Nat->Bool} (h:Lft C loops G L P) (hD:mayD (lft C G L P) lo=true) {m:Nat} (hm:posG G C.length+m=C.length)
    (hq:C.length+2*kN (edb (up0 (fs C G)) al (4*C.length+1)) (4*C.length+1)<=cyA (up0 (fs C G)) (4*C.length+1)+m+1):QX1 (lft C G L P)=true:=by
 refine(planar_sum hD).2.2 ?_
 have hB:=fs_bij h.hm G
 have hW:=QV7 hB.lt
 have hE:∀ e,e∈edb (up0 (fs C G)) al (4*C.length+1)->e.1<4*C.length+1/\e.2<4*C.length+1:=edb_lt hB.lt fun x hx=>al_lt (n:=C.length) hx
 have lE:=QZ9 hE (4*C.length+1) (Nat.le_refl _)
 unfold kN cyA cyN at hq
 rw[rq_pos lE,rq_pos hW,rq_eq,rq_eq]at hq
 have r1:=h.rings hD
 have l1:=h.lone lE true
 have l2:=h.lone lE false
 have s1:=cnt_split (rootB (cyW (up0 (fs C G)) (4*C.length+1))) (mtB C G (eds (up0 (fs C G)) (4*C.length+1))) (List.range (4*C.length+1))
 have s2:=cnt_split (rootB (levR (List.range (4*C.length+1)) (edb (up0 (fs C G)) al (4*C.length+1)) (4*C.length+1))) (mtB C G (edb (up0 (fs C G)) al (4*C.length+1))) (List.range (4*C.length+1))
 have s3:=cnt_split (fun v=>rootB (cyW (up0 (fs C G)) (4*C.length+1)) v&&!mtB C G (eds (up0 (fs C G)) (4*C.length+1)) v) (fun v=>decide (dB v=true)) (List.range (4*C.length+1))
 have s4:(List.range (4*C.length+1)).countP (fun v=>(rootB (cyW (up0 (fs C G)) (4*C.length+1)) v&&!mtB C G (eds (up0 (fs C G)) (4*C.length+1)) v)&&!decide (dB v=true))=(List.range (4*C.length+1)).countP (fun v=>(rootB (cyW (up0 (fs C G)) (4*C.length+1)) v&&!mtB C G (eds (up0 (fs C G)) (4*C.length+1)) v)&&decide (dB v=false)):=List.countP_congr fun v _=>by cases dB v<;>simp
 rw[s4]at s3
 have p1:pcN (lft C G L P)<=(List.range (4*C.length+1)).countP fun v=>rootB (levR (List.range (4*C.length+1)) (edb (up0 (fs C G)) al (4*C.length+1)) (4*C.length+1)) v&&mtB C G (edb (up0 (fs C G)) al (4*C.length+1)) v:=by
  rw[pcN_eq,Lft.len]
  have hw:∀ i,∃ k,i<posG G C.length->k<C.length/\k ∉ G/\posG G k=i:=fun i=>by
   by_cases q:i<posG G C.length
   · obtain⟨k,hk⟩:=posG_onto q
     exact⟨k,fun _=>hk⟩
   · exact⟨0,fun q'=>absurd q' q⟩
  obtain⟨w,hw⟩:=Classical.axiomOfChoice hw
  have hWD:=QV8 hD
  rw[Lft.len]at hWD
  refine inj_cnt (fun i=>(levR (List.range (4*C.length+1)) (edb (up0 (fs C G)) al (4*C.length+1)) (4*C.length+1)).getD (ein C (w i) 0) 0) (fun i hi _=>?_) fun i j hi hj hPi hPj e=>?_
  · obtain⟨k1,k2,k3⟩:=hw i hi
    obtain⟨e0,e1,e2,-⟩:=QK6 h.hm (w i) 0 k1 (by decide)
    have hl:ein C (w i) 0<4*C.length+1:=by omega
    have hc:=(lE.2 _ hl).1
    refine⟨lE.lt hl,?_⟩
    rw[Bool.and_eq_true]
    unfold rootB
    rw[Bool.and_eq_true]
    refine⟨⟨decide_eq_true (lE.root hl),decide_eq_true ?_⟩,mtB_iff.2 ⟨_,⟨e0,e1,by rw[e2];exact k2⟩,hc.symm⟩⟩
    refine hc (fun z=>1<=z) (closed_edb.2 ⟨fun z hz=>?_,fun z hz=>?_⟩) e0
    · rcases Nat.eq_zero_or_pos z with rfl|z1
      · exact Iff.rfl
      · rw[QX2 _ z1];exact⟨fun _=>(fs_may h.hm G z1 (by omega)).1,fun _=>z1⟩
    · rcases Nat.eq_zero_or_pos z with rfl|z1
      · exact Iff.rfl
      · exact⟨fun _=>(QW5 (n:=C.length) z1 (by omega)).1,fun _=>z1⟩
  · obtain⟨k1,k2,k3⟩:=hw i hi
    obtain⟨j1,j2,j3⟩:=hw j hj
    obtain⟨e0,e1,-⟩:=QK6 h.hm (w i) 0 k1 (by decide)
    obtain⟨f0,f1,-⟩:=QK6 h.hm (w j) 0 j1 (by decide)
    have c:=h.pieces hD k1 k2 j1 j2 ((lE.same (by omega) (by omega)).1 e)
    rw[k3,j3]at c
    have:=(hWD.same hi hj).2 c
    rw[of_decide_eq_true hPi,of_decide_eq_true hPj]at this
    exact this
 have t1:(List.range (4*C.length+1)).countP (fun v=>decide ((cyW (up0 (fs C G)) (4*C.length+1)).getD v 0=v)&&decide (1<=v))=(List.range (4*C.length+1)).countP (rootB (cyW (up0 (fs C G)) (4*C.length+1))):=rfl
 have t2:(List.range (4*C.length+1)).countP (fun v=>decide ((levR (List.range (4*C.length+1)) (edb (up0 (fs C G)) al (4*C.length+1)) (4*C.length+1)).getD v 0=v)&&decide (1<=v))=(List.range (4*C.length+1)).countP (rootB (levR (List.range (4*C.length+1)) (edb (up0 (fs C G)) al (4*C.length+1)) (4*C.length+1))):=rfl
 rw[t1,t2]at hq
 rw[Lft.len]
 omega
end Go.Proofs.Ytagaajlbkfkaiaa
/- Plain mathematics: taking out a curl, or the crossings of a face of two, keeps a planar diagram planar. -/
namespace Go.Proofs.Ytagaajlbkfkaiaa
theorem posG_one {k:Nat}:∀ n,posG [k] n+(if k<n then 1 else 0)=n:=by
 intro n
 induction n with
 |zero=>rfl
 |succ n ih=>
  rw[posG_next]
  by_cases e:n=k
  · rw[if_pos (List.mem_singleton.2 e),if_pos (by omega)]
    rw[if_neg (by omega)]at ih
    omega
  · rw[if_neg (by simpa using e)]
    by_cases hl:k<n
    · rw[if_pos hl]at ih;rw[if_pos (by omega)];omega
    · rw[if_neg hl]at ih;rw[if_neg (by omega)];omega
theorem posG_two {p q:Nat} {G:List Nat} (hpq:p≠q) (hG:∀ k,k∈G↔k=p∨k=q):∀ n,posG G n+(if p<n then 1 else 0)+(if q<n then 1 else 0)=n:=by
 intro n
 induction n with
 |zero=>rfl
 |succ n ih=>
  rw[posG_next]
  by_cases e:n∈G
  · rw[if_pos e]
    rcases(hG n).1 e with e|e
    · rw[if_neg (show ¬ p<n by omega)]at ih
      rw[if_pos (show p<n+1 by omega)]
      by_cases hl:q<n
      · rw[if_pos hl]at ih;rw[if_pos (show q<n+1 by omega)];omega
      · rw[if_neg hl]at ih;rw[if_neg (show ¬ q<n+1 by omega)];omega
    · rw[if_neg (show ¬ q<n by omega)]at ih
      rw[if_pos (show q<n+1 by omega)]
      by_cases hl:p<n
      · rw[if_pos hl]at ih;rw[if_pos (show p<n+1 by omega)];omega
      · rw[if_neg hl]at ih;rw[if_neg (show ¬ p<n+1 by omega)];omega
  · rw[if_neg e]
    have e1:n≠p:=fun q=>e ((hG n).2 (Or.inl q))
    have e2:n≠q:=fun q=>e ((hG n).2 (Or.inr q))
    by_cases hl:p<n
    · rw[if_pos hl]at ih
      rw[if_pos (show p<n+1 by omega)]
      by_cases hk:q<n
      · rw[if_pos hk]at ih;rw[if_pos (show q<n+1 by omega)];omega
      · rw[if_neg hk]at ih;rw[if_neg (show ¬ q<n+1 by omega)];omega
    · rw[if_neg hl]at ih
      rw[if_neg (show ¬ p<n+1 by omega)]
      by_cases hk:q<n
      · rw[if_pos hk]at ih;rw[if_pos (show q<n+1 by omega)];omega
      · rw[if_neg hk]at ih;rw[if_neg (show ¬ q<n+1 by omega)];omega
theorem lft_tak {C:List Cr} {loops:Int} (hm:mayD C loops=true) (G:List Nat):Lft C loops G (uniM C (nx C) G) (ltB (uniM C (nx C) G) (stB C G (uniM C (nx C) G) (2*C.length+1))) where
 hm:=hm
 go:=nx_goes hm
 hL:=rfl
 hP:=fun v h1=>by
  rw[st_th hm (nx_goes hm) G v h1]
  unfold ltB
  rw[Bool.and_eq_true,decide_eq_true_eq,stB_iff]
theorem curl_planar {C:List Cr} {loops lo:Int} (hm:mayD C loops=true) (hp:QX1 C=true) {k s:Nat} (hk:k<C.length) (hs:s<4) (e:(C.getD k Cr.none).arc s=(C.getD k Cr.none).arc ((s+1)%4))
    (hz:sizeB (reTo C [k] (numM (uniM C (nx C) [k]) (ltB (uniM C (nx C) [k]) (stB C [k] (uniM C (nx C) [k]) (2*C.length+1)))) C.length) lo=true):
    mayD (reTo C [k] (numM (uniM C (nx C) [k]) (ltB (uniM C (nx C) [k]) (stB C [k] (uniM C (nx C) [k]) (2*C.length+1)))) C.length) lo=true/\QX1 (reTo C [k] (numM (uniM C (nx C) [k]) (ltB (uniM C (nx C) [k]) (stB C [k] (uniM C (nx C) [k]) (2*C.length+1)))) C.length)=true:=by
 have h:=lft_tak hm [k]
 have hD:=h.may hz
 have hn:=posG_one (k:=k) C.length
 rw[if_pos hk]at hn
 exact⟨hD,h.planar hD hn (curl_euler hm hp hk hs e)⟩
theorem pull_planar {C:List Cr} {loops lo:Int} (hm:mayD C loops=true) (hpl:QX1 C=true) {X Y:Nat} (x1:1<=X) (x2:X<=4*C.length) (y1:1<=Y) (y2:Y<=4*C.length) (fX:fd C X=Y) (fY:fd C Y=X) (hne:dC C Y≠dC C X) (G:List Nat) (hG:∀ k,k∈G↔k=dC C Y∨k=dC C X)
    (hz:sizeB (reTo C G (numM (uniM C (nx C) G) (ltB (uniM C (nx C) G) (stB C G (uniM C (nx C) G) (2*C.length+1)))) C.length) lo=true):
    mayD (reTo C G (numM (uniM C (nx C) G) (ltB (uniM C (nx C) G) (stB C G (uniM C (nx C) G) (2*C.length+1)))) C.length) lo=true/\QX1 (reTo C G (numM (uniM C (nx C) G) (ltB (uniM C (nx C) G) (stB C G (uniM C (nx C) G) (2*C.length+1)))) C.length)=true:=by
 have h:=lft_tak hm G
 have hD:=h.may hz
 obtain⟨a1,a2,a3⟩:=QK9 hm x1 x2
 obtain⟨b1,b2,b3⟩:=QK9 hm y1 y2
 have hn:=posG_two hne hG C.length
 rw[if_pos a1,if_pos b1]at hn
 have q:=pull_euler hm hpl b1 a1 hne b2 a2 (by rw[<-a3,<-b3];exact fX) (by rw[<-a3,<-b3];exact fY) G hG
 exact⟨hD,h.planar hD (m:=2) (by omega) q⟩
end Go.Proofs.Ytagaajlbkfkaiaa
/- Plain mathematics: a face of two; how many loops are left. -/
namespace Go.Proofs.Ytagaajlbkfkaiaa
theorem two_ring {C:List Cr} {loops:Int} (hm:mayD C loops=true) {l:List Nat} (hl:l∈QQ3 C) (h2:l.length=2):∃ x y,l=[x,y]/\(1<=x/\x<=4*C.length)/\(1<=y/\y<=4*C.length)/\y=fd C x/\x=fd C y:=by
 have hc:=(QV2 (QZ0 hm) (fun a b p q r s t=>fd_inj hm a b p q r s t) (4*C.length) (Nat.le_refl _)).2.2 l hl
 have hr:=(QV3 (QZ0 hm) (4*C.length) (Nat.le_refl _) l hl).2.2
 match l,h2 with
 |[x,y],_=>
  refine⟨x,y,rfl,hr x (by simp),hr y (by simp),?_,?_⟩
  · exact hc.1 0 (by simp)
  · exact hc.2.symm
theorem loops_left {C:List Cr} {loops:Int} (hm:mayD C loops=true) (G:List Nat) (h0:0<C.length) (hn:posG G C.length=0):1<=cntB (lfB (uniM C (nx C) G) (stB C G (uniM C (nx C) G) (2*C.length+1))) (2*C.length+1):=by
 have h:=lft_tak hm G
 have hall:∀ k,k<C.length->k∈G:=fun k hk=>Classical.byContradiction fun q=>by have:=posG_lt hk q;omega
 have l1:=h.pos (a:=1) (Nat.le_refl _) (by omega)
 have l2:=h.least.le (v:=1) (by omega)
 have e:(uniM C (nx C) G).getD 1 0=1:=by omega
 have hs:stB C G (uniM C (nx C) G) (2*C.length+1) 1=false:=by
  refine Bool.eq_false_iff.2 fun q=>?_
  obtain⟨a,ha,ea,hg⟩:=stB_iff.1 q
  have a1:1<=a:=by
   rcases Nat.eq_zero_or_pos a with rfl|hp
   · have:=h.least.le (v:=0) (by omega);omega
   · exact hp
  unfold goneB at hg
  rw[if_neg (by omega)]at hg
  have:=hall _ (QJ0 hm a a1 (by omega)).2.1
  simp[this]at hg
 have hP:lfB (uniM C (nx C) G) (stB C G (uniM C (nx C) G) (2*C.length+1)) 1=true:=by unfold lfB;rw[e,hs];rfl
 have:=cntB_lt (Nat.le_refl 1) hP (show 1<2*C.length+1 by omega)
 omega
theorem size_left {C:List Cr} {loops lo:Int} (hm:mayD C loops=true) (G:List Nat) (h0:0<C.length) (hlo:lo=loops+(cntB (lfB (uniM C (nx C) G) (stB C G (uniM C (nx C) G) (2*C.length+1))) (2*C.length+1):Nat)) (h16:lo<=16) (h:Nat->Nat):sizeB (reTo C G h C.length) lo=true:=by
 have hs:sizeB C loops=true:=by
  cases q:sizeB C loops with
  |true=>rfl
  |false=>rw[mayD_size q]at hm;cases hm
 have hs:=QZ2 hs
 unfold sizeB
 simp only[Bool.and_eq_true,decide_eq_true_eq,Bool.not_eq_true',Bool.and_eq_false_iff,decide_eq_false_iff_not]
 have hl:=reTo_len C G h C.length
 refine⟨⟨⟨by omega,by omega⟩,h16⟩,?_⟩
 by_cases hn:(reTo C G h C.length).length=0
 · right
   rw[reTo_pos]at hn
   have:=loops_left hm G h0 hn
   omega
 · left
   exact hn
theorem pull_two {C:List Cr} {loops lo:Int} (hm:mayD C loops=true) (hpl:QX1 C=true) {l:List Nat} (hl:l∈QQ3 C) (h2:l.length=2) {x y:Nat} (hxy:x≠y) (hc:dC C (l.getD 0 0)=x/\dC C (l.getD 1 0)=y∨dC C (l.getD 0 0)=y/\dC C (l.getD 1 0)=x)
    (hlo:lo=loops+(cntB (lfB (uniM C (nx C) [x,y]) (stB C [x,y] (uniM C (nx C) [x,y]) (2*C.length+1))) (2*C.length+1):Nat)) (h16:lo<=16):
    mayD (reTo C [x,y] (numM (uniM C (nx C) [x,y]) (ltB (uniM C (nx C) [x,y]) (stB C [x,y] (uniM C (nx C) [x,y]) (2*C.length+1)))) C.length) lo=true/\QX1 (reTo C [x,y] (numM (uniM C (nx C) [x,y]) (ltB (uniM C (nx C) [x,y]) (stB C [x,y] (uniM C (nx C) [x,y]) (2*C.length+1)))) C.length)=true:=by
 obtain⟨X,Y,rfl,hX,hY,e1,e2⟩:=two_ring hm hl h2
 have hc:dC C X=x/\dC C Y=y∨dC C X=y/\dC C Y=x:=hc
 refine pull_planar hm hpl hX.1 hX.2 hY.1 hY.2 e1.symm e2.symm (by omega) [x,y] (fun k=>?_) (size_left hm [x,y] (by have:=hX;omega) hlo h16 _)
 simp only[List.mem_cons,List.not_mem_nil,or_false]
 omega
theorem curl_one {C:List Cr} {loops lo:Int} (hm:mayD C loops=true) (hp:QX1 C=true) {k:Nat} (hk:k<C.length) (hc:((List.range 4).any fun s=>decide ((C.getD k Cr.none).arc s=(C.getD k Cr.none).arc ((s+1)%4)))=true)
    (hlo:lo=loops+(cntB (lfB (uniM C (nx C) [k]) (stB C [k] (uniM C (nx C) [k]) (2*C.length+1))) (2*C.length+1):Nat)) (h16:lo<=16):
    mayD (reTo C [k] (numM (uniM C (nx C) [k]) (ltB (uniM C (nx C) [k]) (stB C [k] (uniM C (nx C) [k]) (2*C.length+1)))) C.length) lo=true/\QX1 (reTo C [k] (numM (uniM C (nx C) [k]) (ltB (uniM C (nx C) [k]) (stB C [k] (uniM C (nx C) [k]) (2*C.length+1)))) C.length)=true:=by
 obtain⟨s,hs,e⟩:=List.any_eq_true.1 hc
 exact curl_planar hm hp hk (List.mem_range.1 hs) (of_decide_eq_true e) (size_left hm [k] (by omega) hlo h16 _)
end Go.Proofs.Ytagaajlbkfkaiaa

/- Several texts of the proof, one behind the other. -/
import Derived.Test.YtiliihlkpknhdaaDoorF2P
/- Plain mathematics: Euler's number of a piece is even and at most two, arc by arc. -/
namespace Go.Proofs.YtiliihlkpknhdaaDoor
theorem Bij.congr {f g:Nat->Nat} {M:Nat} (h:Bij f M) (e:∀ x,x<M->f x=g x):Bij g M:=
 ⟨fun x hx=>by rw[<-e x hx];exact h.lt x hx,fun x y hx hy q=>h.inj x y hx hy (by rw[e x hx,e y hy,q])⟩
def gI (C:List Cr) (i x:Nat):Nat:=up0 (fun j=>if j<=2*i then fd C j else fd C (al j)) x
theorem gI_zero {C:List Cr} {x:Nat} (h:1<=x):gI C 0 x=fd C (al x):=by
 unfold gI
 rw[up0_pos _ h,if_neg (by omega)]
theorem gI_next (C:List Cr) (i x:Nat):tr (gI C i) (2*i+1) (2*i+2) x=gI C (i+1) x:=by
 by_cases h1:x=2*i+1
 · rw[h1,tr_a]
   unfold gI
   rw[up0_pos _ (by omega),up0_pos _ (by omega),if_neg (by omega),if_pos (by omega),al_even]
 · by_cases h2:x=2*i+2
   · rw[h2,tr_b]
     unfold gI
     rw[up0_pos _ (by omega),up0_pos _ (by omega),if_neg (by omega),if_pos (by omega),al_odd]
   · rw[tr_o _ h1 h2]
     unfold gI
     by_cases h0:x=0
     · rw[h0];rfl
     · rw[up0_pos _ (by omega),up0_pos _ (by omega)]
       by_cases h3:x<=2*i
       · rw[if_pos h3,if_pos (by omega)]
       · rw[if_neg h3,if_neg (by omega)]
theorem gI_bij {C:List Cr} {loops:Int} (hm:mayD C loops=true):∀ i,i<=2*C.length->Bij (gI C i) (4*C.length+1):=by
 intro i
 induction i with
 |zero=>
  intro _
  refine(bij_up0 (f:=fun j=>fd C (al j)) (n:=4*C.length) (fun a h1 h2=>?_) (fun a b h1 h2 h3 h4 e=>?_)).congr fun x hx=>?_
  · obtain⟨a1,a2,-,-⟩:=al_may h1 h2
    exact fd_closed hm _ a1 a2
  · obtain⟨a1,a2,-,-⟩:=al_may h1 h2
    obtain⟨b1,b2,-,-⟩:=al_may h3 h4
    have:=fd_inj hm _ _ a1 a2 b1 b2 e
    rw[<-al_al h1,this,al_al h3]
  · by_cases h0:x=0
    · rw[h0];rfl
    · rw[gI_zero (by omega),up0_pos _ (by omega)]
 |succ i ih=>
  intro hi
  exact((ih (by omega)).tr (a:=2*i+1) (b:=2*i+2) (by omega) (by omega)).congr fun x _=>gI_next C i x
theorem gI_last {C:List Cr} {x:Nat} (h:x<4*C.length+1):gI C (2*C.length) x=up0 (fd C) x:=by
 unfold gI
 by_cases h0:x=0
 · rw[h0];rfl
 · rw[up0_pos _ (by omega),up0_pos _ (by omega),if_pos (by omega)]
theorem gI_pos {C:List Cr} {loops:Int} (hm:mayD C loops=true) (i:Nat) {x:Nat} (h1:1<=x) (h2:x<=4*C.length):1<=gI C i x/\gI C i x<=4*C.length/\lvC C (gI C i x)=if x<=2*i then dC C x else lvC C x:=by
 unfold gI
 rw[up0_pos _ h1]
 by_cases h3:x<=2*i
 · rw[if_pos h3,if_pos h3]
   have:=fd_closed hm x h1 h2
   exact⟨this.1,this.2,lv_fd hm h1 h2⟩
 · rw[if_neg h3,if_neg h3]
   obtain⟨a1,a2,-,-⟩:=al_may h1 h2
   have:=fd_closed hm _ a1 a2
   exact⟨this.1,this.2,by rw[lv_fd hm a1 a2,(dC_al h1 h2).1]⟩
theorem lv_odd (C:List Cr) (i:Nat):lvC C (2*i+1)=(arE C i).2/\lvC C (2*i+2)=(arE C i).1:=by
 unfold lvC arE dA dB
 constructor
 · simp only[show(2*i+1)%2=1 by omega,show(2*i+1+1) / 2=i+1 by omega]
   rfl
 · simp only[show(2*i+2)%2=0 by omega,show(2*i+2+1) / 2=i+1 by omega]
   rfl
theorem lv_dC_in {C:List Cr} {i x:Nat} (h1:1<=x) (h2:x<=2*i):Con (incl (arE C) (fun _=>true) i) (lvC C x) (dC C x):=by
 have h:1<=dA x/\dA x<=i:=by unfold dA;omega
 have hmem:arE C (dA x-1)∈incl (arE C) (fun _=>true) i:=incl_mem.2 ⟨dA x-1,by omega,rfl,rfl⟩
 have e:arE C (dA x-1)=(enC C (dA x) true,enC C (dA x) false):=by
  unfold arE
  rw[show dA x-1+1=dA x by omega]
 rw[e]at hmem
 have hc:=Con.edge hmem
 unfold lvC dC
 cases dB x
 · exact hc.symm
 · exact hc
theorem ring_arcs {C:List Cr} {loops:Int} (hm:mayD C loops=true) (i:Nat) {x y:Nat} (hx:1<=x) (hc:Con (eds (gI C i) (4*C.length+1)) x y):Con (incl (arE C) (fun _=>true) i) (lvC C x) (lvC C y):=by
 have := hc (fun z => 1 ≤ z ∧ Con (incl (arE C) (fun _ => true) i) (lvC C x) (lvC C z)) (closed_eds.2 fun z hz => by
  by_cases h0:z=0
  · rw[h0]
    have e:gI C i 0=0:=rfl
    rw[e]
  · obtain⟨g1,g2,g3⟩:=gI_pos hm i (x:=z) (by omega) (by omega)
    rw[g3]
    have hcz:Con (incl (arE C) (fun _=>true) i) (lvC C z) (if z<=2*i then dC C z else lvC C z):=by
     by_cases h3:z<=2*i
     · rw[if_pos h3];exact lv_dC_in (by omega) h3
     · rw[if_neg h3];exact Con.refl _ _
    exact⟨fun q=>⟨g1,q.2.trans hcz⟩,fun q=>⟨by omega,q.2.trans hcz.symm⟩⟩) ⟨hx,Con.refl _ _⟩
 exact this.2
theorem incl_sub {C : List Cr} {i : Nat} (hi : i ≤ 2 * C.length) {x y : Nat} (hc : Con (incl (arE C) (fun _ => true) i) x y) : Con (arcE C) x y := fun S hS hx => hc S (fun e he => by
 obtain⟨t,ht,-,rfl⟩:=incl_mem.1 he
 exact hS _ (List.mem_map.2 ⟨t,List.mem_range.2 (by omega),rfl⟩)) hx
theorem arE_lt {C:List Cr} {loops:Int} (hm:mayD C loops=true):∀ i,i<2*C.length->(arE C i).1<C.length/\(arE C i).2<C.length:=fun i hi=>by
 have h:=arcE_lt hm (arE C i) (List.mem_map.2 ⟨i,List.mem_range.2 hi,rfl⟩)
 exact h
def qD (C:List Cr) (p j:Nat):Bool:=decide (1<=j)&&decide ((whoM C).getD (lvC C j) 0=p)
def qC (C:List Cr) (p v:Nat):Bool:=decide ((whoM C).getD v 0=p)
theorem qD_inv {C:List Cr} {loops:Int} (hm:mayD C loops=true) (p:Nat) {i:Nat} (_hi:i<=2*C.length) (x y:Nat) (_hx:x<4*C.length+1) (hc:Con (eds (gI C i) (4*C.length+1)) x y):qD C p x=qD C p y:=by
 have hW:=whoM_least hm
 exact hc (fun z => qD C p x = qD C p z) (closed_eds.2 fun z hz => by
  by_cases h0:z=0
  · rw[h0]
    exact Iff.rfl
  · obtain⟨g1,g2,g3⟩:=gI_pos hm i (x:=z) (by omega) (by omega)
    have l1:=lv_lt hm (j:=z) (by omega) (by omega)
    have l2:=lv_lt hm g1 g2
    have hcz:Con (arcE C) (lvC C z) (lvC C (gI C i z)):=by
     rw[g3]
     by_cases h3:z<=2*i
     · rw[if_pos h3];exact lv_dC (by omega) (by omega)
     · rw[if_neg h3];exact Con.refl _ _
    have e:qD C p z=qD C p (gI C i z):=by
     unfold qD
     rw[(hW.same l1 l2).2 hcz,decide_eq_true (show 1<=z by omega),decide_eq_true g1]
    rw[e]) rfl
theorem euler_steps {C : List Cr} {loops : Int} (hm : mayD C loops = true) (p : Nat) (hbase : cyN (gI C 0) (4 * C.length + 1) (qD C p) = (List.range C.length).countP (qC C p)) : ∀ i, i ≤ 2 * C.length →
    cyN (gI C i) (4*C.length+1) (qD C p)+(List.range C.length).countP (qC C p)<=(List.range i).countP (fun t=>qD C p (2*t+1))+2*rq (cls (arE C) (fun _=>true) C.length i) (qC C p) C.length/\
    (cyN (gI C i) (4*C.length+1) (qD C p)+(List.range C.length).countP (qC C p)+(List.range i).countP (fun t=>qD C p (2*t+1)))%2=0:=by
 have hW:=whoM_least hm
 intro i
 induction i with
 |zero=>
  intro _
  rw[hbase]
  have e:rq (cls (arE C) (fun _=>true) C.length 0) (qC C p) C.length=(List.range C.length).countP (qC C p):=by
   rw[rq_eq]
   refine List.countP_congr fun v hv=>?_
   have:(cls (arE C) (fun _=>true) C.length 0).getD v 0=v:=by
    show(List.range C.length).getD v 0=v
    rw[List.getD_eq_getElem?_getD,List.getElem?_range (List.mem_range.1 hv)]
    rfl
   rw[this,decide_eq_true rfl,Bool.true_and]
  rw[e]
  simp only[List.range_zero,List.countP_nil]
  omega
 |succ i ih=>
  intro hi
  obtain⟨i1,i2⟩:=ih (by omega)
  have hB:=gI_bij hm i (by omega)
  have hL:=cls_least (E:=arE C) (K:=fun _=>true) (n:=C.length) (m:=i) fun t ht=>arE_lt hm t (by omega)
  obtain⟨e1,e2⟩:=arE_lt hm i (by omega)
  obtain⟨v1,v2⟩:=lv_odd C i
  have hQ:=qD_inv hm p (i:=i) (by omega)
  have hedge:Con (arcE C) (arE C i).1 (arE C i).2:=Con.edge (List.mem_map.2 ⟨i,List.mem_range.2 (by omega),rfl⟩)
  have hab:qD C p (2*i+1)=qD C p (2*i+2):=by
   unfold qD
   rw[v1,v2,(hW.same e1 e2).2 hedge,decide_eq_true (show 1<=2*i+1 by omega),decide_eq_true (show 1<=2*i+2 by omega)]
  have hcong:cyN (gI C (i+1)) (4*C.length+1) (qD C p)=cyN (tr (gI C i) (2*i+1) (2*i+2)) (4*C.length+1) (qD C p):=cyN_congr (fun x _=>(gI_next C i x).symm) _
  have hmm:(List.range (i+1)).countP (fun t=>qD C p (2*t+1))=(List.range i).countP (fun t=>qD C p (2*t+1))+if qD C p (2*i+1)=true then 1 else 0:=by
   rw[List.range_succ,List.countP_append,List.countP_singleton]
  have hq1:qD C p (2*i+1)=qC C p (arE C i).2:=by
   unfold qD qC
   rw[v1,decide_eq_true (show 1<=2*i+1 by omega),Bool.true_and]
  rw[hcong,hmm,cls_next (E:=arE C) (K:=fun _=>true) rfl]
  by_cases hc:Con (eds (gI C i) (4*C.length+1)) (2*i+1) (2*i+2)
  · have k1:=cyN_part hB (qD C p) (a:=2*i+1) (b:=2*i+2) (by omega) (by omega) (by omega) hc hQ
    have hcc:=ring_arcs hm i (by omega) hc
    rw[v1,v2]at hcc
    rw[mer_same ((hL.same e1 e2).2 hcc.symm),<-k1]
    split<;>rename_i hq<;>simp only[hq,if_true,if_false,Bool.false_eq_true] at*<;> omega
  · have k1:=cyN_join hB (qD C p) (a:=2*i+1) (b:=2*i+2) (by omega) (by omega) hc hQ hab
    by_cases hs:(cls (arE C) (fun _=>true) C.length i).getD (arE C i).1 0=(cls (arE C) (fun _=>true) C.length i).getD (arE C i).2 0
    · rw[mer_same hs]
      by_cases hq:qD C p (2*i+1)=true
      · rw[if_pos hq]at k1 ⊢;omega
      · rw[if_neg hq]at k1 ⊢;omega
    · have hr:=rq_mer hL (qC C p) e1 e2 hs C.length (Nat.le_refl _)
      have l1:=hL.lt e1
      have l2:=hL.lt e2
      have w1:=(hW.same e1 l1).2 (incl_sub (by omega) (hL.2 _ e1).1)
      have w2:=(hW.same e2 l2).2 (incl_sub (by omega) (hL.2 _ e2).1)
      have w3:=(hW.same e1 e2).2 hedge
      have hmax:qC C p (max ((cls (arE C) (fun _=>true) C.length i).getD (arE C i).1 0) ((cls (arE C) (fun _=>true) C.length i).getD (arE C i).2 0))=qD C p (2*i+1):=by
       rw[hq1]
       unfold qC
       rcases Nat.le_total ((cls (arE C) (fun _=>true) C.length i).getD (arE C i).1 0) ((cls (arE C) (fun _=>true) C.length i).getD (arE C i).2 0) with hle|hle
       · rw[Nat.max_eq_right hle,<-w2]
       · rw[Nat.max_eq_left hle,<-w1,w3]
      rw[hmax]at hr
      by_cases hq:qD C p (2*i+1)=true
      · rw[if_pos hq]at k1 ⊢
        rw[if_pos ⟨by omega,hq⟩]at hr
        omega
      · rw[if_neg hq]at k1 ⊢
        rw[if_neg fun q=>hq q.2]at hr
        omega
end Go.Proofs.YtiliihlkpknhdaaDoor
/- Plain mathematics: Euler's number of a piece: the crossings as rings, and the end. -/
namespace Go.Proofs.YtiliihlkpknhdaaDoor
theorem pd_ne {C:List Cr} {loops:Int} (hm:mayD C loops=true) {k s t:Nat} (hk:k<C.length) (hs:s<4) (ht:t<4) (e:pd C (4*k+s)=pd C (4*k+t)):s=t:=by
 have h1:=(pd_at hm k s hk hs).2.2.1
 have h2:=(pd_at hm k t hk ht).2.2.1
 rw[e]at h1
 omega
theorem crossing_ring {C:List Cr} {loops:Int} (hm:mayD C loops=true) {k:Nat} (hk:k<C.length):∃ s0,s0<4/\∀ s,s<4->(cyW (gI C 0) (4*C.length+1)).getD (pd C (4*k+s)) 0=pd C (4*k+s0):=by
 have hB:=gI_bij hm 0 (Nat.zero_le _)
 have hW:=cyW_least hB.lt
 have hg:∀ s,s<4->gI C 0 (pd C (4*k+s))=pd C (4*k+(s+3)%4):=fun s hs=>by
  obtain⟨-,-,-,h3,h4⟩:=pd_at hm k s hk hs
  rw[gI_zero h3,pd_sig hm k s hk hs]
 have hlt:∀ s,s<4->pd C (4*k+s)<4*C.length+1:=fun s hs=>by have:=(pd_at hm k s hk hs).2.2.2.2;omega
 have hcl:Closed (eds (gI C 0) (4*C.length+1)) fun z=>∃ s,s<4/\z=pd C (4*k+s):=closed_eds.2 fun z hz=>by
  constructor
  · rintro⟨s,hs,rfl⟩
    exact⟨(s+3)%4,Nat.mod_lt _ (by decide),hg s hs⟩
  · rintro⟨s,hs,e⟩
    have h:=hg ((s+1)%4) (Nat.mod_lt _ (by decide))
    rw[show((s+1)%4+3)%4=s by omega,<-e]at h
    exact⟨(s+1)%4,Nat.mod_lt _ (by decide),(hB.inj _ _ (hlt _ (Nat.mod_lt _ (by decide))) hz h).symm⟩
 have c1:∀ s,s<4->Con (eds (gI C 0) (4*C.length+1)) (pd C (4*k+s)) (pd C (4*k+(s+3)%4)):=fun s hs=>by
  rw[<-hg s hs]
  exact con_f (hlt s hs)
 have c0:∀ s,s<4->Con (eds (gI C 0) (4*C.length+1)) (pd C (4*k+0)) (pd C (4*k+s)):=fun s hs=>by
  have d0:=c1 0 (by decide)
  have d3:=c1 3 (by decide)
  have d2:=c1 2 (by decide)
  match s,hs with
  |0,_=>exact Con.refl _ _
  |3,_=>exact d0
  |2,_=>exact d0.trans d3
  |1,_=>exact d0.trans (d3.trans d2)
 obtain⟨s0,hs0,e0⟩:=(hW.2 _ (hlt 0 (by decide))).1 _ hcl ⟨0,by decide,rfl⟩
 refine⟨s0,hs0,fun s hs=>?_⟩
 rw[<-e0]
 exact(hW.same (hlt s hs) (hlt 0 (by decide))).2 (c0 s hs).symm
theorem qD_pd {C:List Cr} {loops:Int} (hm:mayD C loops=true) (p:Nat) {k s:Nat} (hk:k<C.length) (hs:s<4):qD C p (pd C (4*k+s))=qC C p k:=by
 obtain⟨-,h1,-,h3,-⟩:=pd_at hm k s hk hs
 unfold qD qC
 rw[h1,decide_eq_true h3,Bool.true_and]
theorem euler_base {C:List Cr} {loops:Int} (hm:mayD C loops=true) (p:Nat):cyN (gI C 0) (4*C.length+1) (qD C p)=(List.range C.length).countP (qC C p):=by
 unfold cyN
 rw[rq_eq,cnt_darts hm (P:=fun v=>decide ((cyW (gI C 0) (4*C.length+1)).getD v 0=v)&&qD C p v) (Qc:=qC C p) (c:=1) (by simp[qD]) ?_,Nat.one_mul]
 intro k hk
 obtain⟨s0,hs0,h⟩:=crossing_ring hm hk
 have key:∀ s,s<4->(decide ((cyW (gI C 0) (4*C.length+1)).getD (pd C (4*k+s)) 0=pd C (4*k+s))&&qD C p (pd C (4*k+s)))=(decide (s0=s)&&qC C p k):=fun s hs=>by
  rw[h s hs,qD_pd hm p hk hs]
  congr 1
  by_cases e:s0=s
  · rw[e];simp
  · rw[decide_eq_false e,decide_eq_false fun q=>e (pd_ne hm hk hs0 hs q)]
 have k0:(decide ((cyW (gI C 0) (4*C.length+1)).getD (pd C (4*k)) 0=pd C (4*k))&&qD C p (pd C (4*k)))=(decide (s0=0)&&qC C p k):=key 0 (by decide)
 simp only[k0,key 1 (by decide),key 2 (by decide),key 3 (by decide)]
 cases qC C p k with
 |false=>simp
 |true=>
  match s0,hs0 with
  |0,_=>rfl
  |1,_=>rfl
  |2,_=>rfl
  |3,_=>rfl
theorem cnt_by2 {h Q:Nat->Bool} (m:Nat) (e:∀ t,t<m->h (2*t)=Q t/\h (2*t+1)=Q t):(List.range (2*m)).countP h=2*(List.range m).countP Q:=by
 induction m with
 |zero=>rfl
 |succ m ih=>
  have e1:=e m (by omega)
  have e2:=ih fun t ht=>e t (by omega)
  rw[show 2*(m+1)=2*m+1+1 by omega]
  simp only[List.range_succ,List.countP_append,List.countP_singleton]
  rw[e2,e1.1,e1.2]
  omega
theorem euler_arcs {C:List Cr} {loops:Int} (hm:mayD C loops=true) (p:Nat):(List.range (2*C.length)).countP (fun t=>qD C p (2*t+1))=2*(List.range C.length).countP (qC C p):=by
 have hW:=whoM_least hm
 have h4 := cnt_darts hm (P := qD C p) (Qc := qC C p) (c := 4) (by simp [qD]) (fun k hk => by
  have k0:qD C p (pd C (4*k))=qC C p k:=qD_pd hm p (s:=0) hk (by decide)
  rw[k0,qD_pd hm p (s:=1) hk (by decide),qD_pd hm p (s:=2) hk (by decide),qD_pd hm p (s:=3) hk (by decide)]
  cases qC C p k<;>rfl)
 rw[cnt_up1 _ _ (by simp[qD]),show 4*C.length=2*(2*C.length) by omega,cnt_by2 (h:=fun i=>qD C p (i+1)) (Q:=fun t=>qD C p (2*t+1)) (2*C.length) (fun t ht=>⟨rfl,?_⟩)]at h4
 · omega
 · obtain⟨v1,v2⟩:=lv_odd C t
   obtain⟨e1,e2⟩:=arE_lt hm t ht
   have hedge:Con (arcE C) (arE C t).1 (arE C t).2:=Con.edge (List.mem_map.2 ⟨t,List.mem_range.2 ht,rfl⟩)
   show qD C p (2*t+1+1)=qD C p (2*t+1)
   unfold qD
   rw[show 2*t+1+1=2*t+2 by omega,v1,v2,(hW.same e1 e2).2 hedge,decide_eq_true (show 1<=2*t+1 by omega),decide_eq_true (show 1<=2*t+2 by omega)]
theorem one_piece {C:List Cr} {loops:Int} (hm:mayD C loops=true) {p:Nat} (hp:p<C.length) (hr:(whoM C).getD p 0=p):rq (cls (arE C) (fun _=>true) C.length (2*C.length)) (qC C p) C.length=1:=by
 have hW:=whoM_least hm
 have hL:=cls_least (E:=arE C) (K:=fun _=>true) (n:=C.length) (m:=2*C.length) fun t ht=>arE_lt hm t ht
 rw[incl_all]at hL
 have e:cls (arE C) (fun _=>true) C.length (2*C.length)=whoM C:=hL.eq hW
 rw[e,rq_eq]
 have h1:(List.range C.length).count p=1:=by
  rw[List.Nodup.count List.nodup_range,if_pos (List.mem_range.2 hp)]
 rw[<-h1]
 unfold List.count
 refine List.countP_congr fun v _=>?_
 unfold qC
 simp only[Bool.and_eq_true,decide_eq_true_eq,beq_iff_eq]
 constructor
 · rintro⟨a,b⟩;omega
 · intro a
   rw[a]
   exact⟨hr,hr⟩
theorem faces_count {C:List Cr} {loops:Int} (hm:mayD C loops=true) (p:Nat):(headsM C).countP (fun g=>decide ((whoM C).getD g 0=p))=cyN (up0 (fd C)) (4*C.length+1) (qD C p):=by
 have hW:=whoM_least hm
 rw[<-walks_cyN (fd_closed hm) (fun a b h1 h2 h3 h4 e=>fd_inj hm a b h1 h2 h3 h4 e) (qD C p) (by simp[qD])]
 unfold headsM
 rw[List.countP_map]
 refine List.countP_congr fun l hl=>?_
 have hb:=(heads_roots (fd_closed hm) (fun a b h1 h2 h3 h4 e=>fd_inj hm a b h1 h2 h3 h4 e) (4*C.length) (Nat.le_refl _)).1 l hl
 show decide ((whoM C).getD (dC C (l.getD 0 0)) 0=p)=true↔qD C p (l.getD 0 0)=true
 unfold qD
 rw[(hW.same (lv_lt hm hb.1 hb.2) (d_may hm _ hb.1 hb.2).2.1).2 (lv_dC hb.1 hb.2),decide_eq_true hb.1,Bool.true_and]
theorem euler_piece {C:List Cr} {loops:Int} (hm:mayD C loops=true) {p:Nat} (hp:p<C.length) (hr:(whoM C).getD p 0=p):exN C.length (headsM C) (whoM C) p<=2/\exN C.length (headsM C) (whoM C) p%2=0:=by
 obtain⟨h1,h2⟩:=euler_steps hm p (euler_base hm p) (2*C.length) (Nat.le_refl _)
 rw[one_piece hm hp hr,euler_arcs hm p,cyN_congr (fun x hx=>gI_last hx),<-faces_count hm p] at*
 have e:exN C.length (headsM C) (whoM C) p=(((headsM C).countP (fun g=>decide ((whoM C).getD g 0=p)):Nat):Int)-(((List.range C.length).countP (qC C p):Nat):Int):=rfl
 rw[e]
 omega
end Go.Proofs.YtiliihlkpknhdaaDoor
/- Plain mathematics: planar, told by all rings and all pieces at once. -/
namespace Go.Proofs.YtiliihlkpknhdaaDoor
def sN (h:Nat->Nat):Nat->Nat
 |0=>0
 |n+1=>sN h n+h n
theorem sN_congr {a b:Nat->Nat} {n:Nat} (e:∀ p,p<n->a p=b p):sN a n=sN b n:=by
 induction n with
 |zero=>rfl
 |succ n ih=>show sN a n+a n=sN b n+b n;rw[ih fun p hp=>e p (by omega),e n (by omega)]
theorem sN_le {a b:Nat->Nat} {n:Nat} (e:∀ p,p<n->a p<=b p):sN a n<=sN b n:=by
 induction n with
 |zero=>exact Nat.le_refl _
 |succ n ih=>have:=ih fun p hp=>e p (by omega);have:=e n (by omega);show sN a n+a n<=sN b n+b n;omega
theorem sN_eq {a b:Nat->Nat} {n:Nat} (e:∀ p,p<n->a p<=b p) (h:sN b n<=sN a n):∀ p,p<n->a p=b p:=by
 induction n with
 |zero=>intro p hp;omega
 |succ n ih=>
  have h1:=sN_le (n:=n) fun p hp=>e p (by omega)
  have h2:=e n (by omega)
  have h3:sN b n+b n<=sN a n+a n:=h
  intro p hp
  by_cases q:p=n
  · rw[q];omega
  · exact ih (fun p hp=>e p (by omega)) (by omega) p (by omega)
theorem sN_add (a b:Nat->Nat) (n:Nat):sN (fun p=>a p+b p) n=sN a n+sN b n:=by
 induction n with
 |zero=>rfl
 |succ n ih=>show sN (fun p=>a p+b p) n+(a n+b n)=sN a n+a n+(sN b n+b n);omega
theorem sN_zero {a:Nat->Nat} {n:Nat} (h:∀ p,p<n->a p=0):sN a n=0:=by
 induction n with
 |zero=>rfl
 |succ n ih=>show sN a n+a n=0;rw[ih fun p hp=>h p (by omega),h n (by omega)]
theorem sN_only {n q:Nat} (hq:q<n):sN (fun p=>if q=p then 1 else 0) n=1:=by
 induction n with
 |zero=>omega
 |succ n ih=>
  show sN (fun p=>if q=p then 1 else 0) n+(if q=n then 1 else 0)=1
  by_cases e:q=n
  · rw[if_pos e,sN_zero fun p hp=>if_neg (by omega)]
  · rw[if_neg e,ih (by omega)]
theorem sum_cnt (W:Nat->Nat) (n:Nat):∀ G:List Nat,(∀ g,g∈G->W g<n)->sN (fun p=>G.countP fun g=>decide (W g=p)) n=G.length:=by
 intro G
 induction G with
 |nil=>intro _;exact sN_zero fun _ _=>rfl
 |cons g G ih=>
  intro h
  have e:sN (fun p=>(g::G).countP fun g=>decide (W g=p)) n=sN (fun p=>(G.countP fun g=>decide (W g=p))+if W g=p then 1 else 0) n:=sN_congr fun p _=>by
   rw[List.countP_cons]
   by_cases q:W g=p
   · rw[if_pos (decide_eq_true q),if_pos q]
   · rw[if_neg (by simpa using q),if_neg q]
  rw[e,sN_add,ih fun x hx=>h x (List.mem_cons_of_mem _ hx),sN_only (h g (List.mem_cons_self ..))]
  rfl
theorem sN_cnt (P:Nat->Bool) (n:Nat):sN (fun p=>if P p=true then 2 else 0) n=2*(List.range n).countP P:=by
 induction n with
 |zero=>rfl
 |succ n ih=>
  show sN (fun p=>if P p=true then 2 else 0) n+(if P n=true then 2 else 0)=_
  rw[ih,List.range_succ,List.countP_append,List.countP_singleton]
  split<;>omega
def pcN (C:List Cr):Nat:=kN (arcE C) C.length
theorem pcN_eq (C:List Cr):pcN C=(List.range C.length).countP fun p=>decide ((whoM C).getD p 0=p):=by
 unfold pcN kN
 rw[rq_eq]
 refine List.countP_congr fun v _=>?_
 rw[Bool.and_true]
 rfl
theorem planar_sum {C:List Cr} {loops:Int} (hm:mayD C loops=true):(facesM C).length<=C.length+2*pcN C/\(planarB C=true↔C.length+2*pcN C<=(facesM C).length):=by
 have hW:=whoM_least hm
 have s1:=sum_cnt (fun g=>(whoM C).getD g 0) C.length (headsM C) fun g hg=>hW.lt (headsM_lt hm g hg)
 have s2:=sum_cnt (fun g=>(whoM C).getD g 0) C.length (List.range C.length) fun g hg=>hW.lt (List.mem_range.1 hg)
 have s3:=sN_cnt (fun p=>decide ((whoM C).getD p 0=p)) C.length
 rw[headsM_len]at s1
 rw[List.length_range]at s2
 rw[<-pcN_eq]at s3
 have s4:=sN_add (fun p=>(List.range C.length).countP fun g=>decide ((whoM C).getD g 0=p)) (fun p=>if decide ((whoM C).getD p 0=p)=true then 2 else 0) C.length
 rw[s2,s3]at s4
 have hle:∀ p,p<C.length->((headsM C).countP fun g=>decide ((whoM C).getD g 0=p))<=((List.range C.length).countP fun g=>decide ((whoM C).getD g 0=p))+if decide ((whoM C).getD p 0=p)=true then 2 else 0:=fun p hp=>by
  by_cases hr:(whoM C).getD p 0=p
  · have:=(euler_piece hm hp hr).1
    unfold exN at this
    rw[if_pos (decide_eq_true hr)]
    omega
  · have h0 : ((headsM C).countP fun g => decide ((whoM C).getD g 0 = p)) = 0 := List.countP_eq_zero.2 fun g hg q => hr (by
      have q:=of_decide_eq_true q
      have hg:=headsM_lt hm g hg
      have:=(hW.same (hW.lt hg) hg).2 (hW.2 g hg).1.symm
      rw[q]at this
      exact this)
    rw[h0]
    exact Nat.zero_le _
 have hsum:=sN_le hle
 rw[s1,s4]at hsum
 refine⟨hsum,?_⟩
 rw[planarB_iff]
 constructor
 · intro h
   rw[<-s1,<-s4]
   refine sN_le fun p hp=>?_
   by_cases hr:(whoM C).getD p 0=p
   · have:=h p hp hr
     unfold exN at this
     rw[if_pos (decide_eq_true hr)]
     omega
   · rw[if_neg (by simpa using hr)]
     have h0 : ((List.range C.length).countP fun g => decide ((whoM C).getD g 0 = p)) = 0 := List.countP_eq_zero.2 fun g hg q => hr (by
      have q:=of_decide_eq_true q
      have hg:=List.mem_range.1 hg
      have:=(hW.same (hW.lt hg) hg).2 (hW.2 g hg).1.symm
      rw[q]at this
      exact this)
     rw[h0]
     exact Nat.zero_le _
 · intro h p hp hr
   rw[<-s1,<-s4]at h
   have:=sN_eq hle h p hp
   rw[if_pos (decide_eq_true hr)]at this
   unfold exN
   omega
theorem kN_inj {E F:List (Nat×Nat)} {M n:Nat} (hE:∀ e,e∈E->e.1<M/\e.2<M) (hF:∀ e,e∈F->e.1<n/\e.2<n) (m:Nat->Nat) (hl:∀ v,v<n->m v<M) (h:∀ u v,u<n->v<n->Con E (m u) (m v)->Con F u v):kN F n<=kN E M:=by
 have lE:=levR_least hE M (Nat.le_refl _)
 have lF:=levR_least hF n (Nat.le_refl _)
 unfold kN
 rw[rq_eq,rq_eq,List.countP_eq_length_filter,List.countP_eq_length_filter,<-List.length_map (f:=fun v=>(levR (List.range M) E M).getD (m v) 0)]
 have hnd:(((List.range n).filter fun v=>decide ((levR (List.range n) F n).getD v 0=v)&&true).map fun v=>(levR (List.range M) E M).getD (m v) 0).Nodup:=by
  unfold List.Nodup
  rw[List.pairwise_map]
  refine List.Pairwise.imp_of_mem ?_ (List.Pairwise.filter _ List.nodup_range)
  intro u v hu hv huv e
  obtain⟨hu,ru⟩:=List.mem_filter.1 hu
  obtain⟨hv,rv⟩:=List.mem_filter.1 hv
  have hu:=List.mem_range.1 hu
  have hv:=List.mem_range.1 hv
  rw[Bool.and_true,decide_eq_true_eq]at ru rv
  have c:=h u v hu hv ((lE.same (hl u hu) (hl v hv)).1 e)
  have:=(lF.same hu hv).2 c
  rw[ru,rv]at this
  exact huv this
 refine hnd.length_le_of_subset fun x hx=>?_
 obtain⟨v,hv,rfl⟩:=List.mem_map.1 hx
 have hv:=List.mem_range.1 (List.mem_filter.1 hv).1
 refine List.mem_filter.2 ⟨List.mem_range.2 (lE.lt (hl v hv)),?_⟩
 rw[Bool.and_true,decide_eq_true_eq]
 exact(lE.same (lE.lt (hl v hv)) (hl v hv)).2 (lE.2 _ (hl v hv)).1.symm
end Go.Proofs.YtiliihlkpknhdaaDoor
/- Plain mathematics: rings and pieces where the two crossings of a face of two are passed straight. -/
namespace Go.Proofs.YtiliihlkpknhdaaDoor
structure PullG (f g al:Nat->Nat) (M X Y XX YY A B K D:Nat):Prop where
 bf:Bij f M
 la:∀ x,x<M->al x<M
 aa:∀ x,x<M->al (al x)=x
 lt:X<M/\Y<M/\XX<M/\YY<M/\A<M/\B<M/\K<M/\D<M
 nd:[X,Y,XX,YY,A,B,K,D].Nodup
 ax:al X=XX
 ay:al Y=YY
 fx:f X=Y
 fy:f Y=X
 fxx:f XX=al B
 fyy:f YY=al K
 fa:f A=YY
 fb:f B=al A
 fk:f K=al D
 fd:f D=XX
 gx:g X=al K
 gy:g Y=al B
 gxx:g XX=al A
 gyy:g YY=al D
 ga:g A=X
 gb:g B=YY
 gk:g K=XX
 gd:g D=Y
 go:∀ x,x<M->x ∉ [X,Y,XX,YY,A,B,K,D]->g x=f x
theorem PullG.count {f g al:Nat->Nat} {M X Y XX YY A B K D:Nat} (h:PullG f g al M X Y XX YY A B K D):cyA g M+1=cyA (tr f B K) M:=by
 obtain⟨lx,ly,lxx,lyy,lA,lB,lK,lD⟩:=h.lt
 have nd:=h.nd
 simp only[List.nodup_cons,List.mem_cons,List.not_mem_nil,or_false,not_or,not_false_eq_true,and_true,List.nodup_nil]at nd
 obtain⟨⟨n1,n2,n3,n4,n5,n6,n7⟩,⟨m1,m2,m3,m4,m5,m6⟩,⟨k1,k2,k3,k4,k5⟩,⟨j1,j2,j3,j4⟩,⟨i1,i2,i3⟩,⟨o1,o2⟩,p1⟩:=nd
 have b1:=h.bf.tr lB lK
 -- D to XX, A to YY, X to Y: taken out
 have e1:tr f B K D=XX:=by rw[tr_o f (Ne.symm o2) (Ne.symm p1),h.fd]
 have c1:=cyA_del b1 lD e1 (Ne.symm k5)
 have b2:=b1.tr lD lxx
 have e2:tr (tr f B K) D XX A=YY:=by rw[tr_o _ i3 (Ne.symm k2),tr_o _ i1 i2,h.fa]
 have c2:=cyA_del b2 lA e2 (Ne.symm j1)
 have b3:=b2.tr lA lyy
 have e3:tr (tr (tr f B K) D XX) A YY X=Y:=by rw[tr_o _ n4 n3,tr_o _ n7 n2,tr_o _ n5 n6,h.fx]
 have c3:=cyA_del b3 lx e3 n1
 have b4:=b3.tr lx ly
 -- they lie alone
 have a1:tr (tr (tr (tr f B K) D XX) A YY) X Y XX=XX:=by rw[tr_o _ (Ne.symm n2) (Ne.symm m1),tr_o _ k2 k1,tr_b,e1]
 have a2:tr (tr (tr (tr f B K) D XX) A YY) X Y YY=YY:=by rw[tr_o _ (Ne.symm n3) (Ne.symm m2),tr_b,e2]
 have a3:tr (tr (tr (tr f B K) D XX) A YY) X Y X=X:=by rw[tr_a,tr_o _ m3 m2,tr_o _ m6 m1,tr_o _ m4 m5,h.fy]
 have a4:tr (tr (tr (tr f B K) D XX) A YY) X Y Y=Y:=by rw[tr_b,e3]
 -- laid behind others
 have c4:=cyA_ins b4 lK lxx a1 (Ne.symm k4)
 have b5:=b4.tr lK lxx
 have c5:=cyA_ins b5 lB lyy (by rw[tr_o _ j3 (Ne.symm k1),a2]) (Ne.symm j2)
 have b6:=b5.tr lB lyy
 have c6:=cyA_ins b6 lA lx (by rw[tr_o _ n5 n3,tr_o _ n6 n2,a3]) (Ne.symm n4)
 have b7:=b6.tr lA lx
 have c7:=cyA_ins b7 lD ly (by rw[tr_o _ m3 (Ne.symm n1),tr_o _ m4 m2,tr_o _ m5 m1,a4]) (Ne.symm m6)
 have e:cyA (tr (tr (tr (tr (tr (tr (tr (tr f B K) D XX) A YY) X Y) K XX) B YY) A X) D Y) M=cyA g M:=cyA_congr fun x hx=>by
  by_cases x1:x=X
  · rw[x1,h.gx,tr_o _ n7 n1,tr_b,tr_o _ i1 (Ne.symm j1),tr_o _ i2 (Ne.symm k2),tr_o _ (Ne.symm n4) (Ne.symm m3),tr_a,tr_o _ j4 (Ne.symm k1),tr_o _ j2 j3,h.fyy]
  by_cases x2:x=Y
  · rw[x2,h.gy,tr_b,tr_o _ (Ne.symm i3) (Ne.symm n7),tr_o _ (Ne.symm o2) (Ne.symm j4),tr_o _ (Ne.symm p1) (Ne.symm k5),tr_o _ (Ne.symm n7) (Ne.symm m6),tr_o _ (Ne.symm i3) (Ne.symm j4),tr_a,tr_o _ k3 k4,h.fxx]
  by_cases x3:x=XX
  · rw[x3,h.gxx,tr_o _ k5 (Ne.symm m1),tr_o _ k2 (Ne.symm n2),tr_o _ k3 k1,tr_b,tr_o _ (Ne.symm n6) (Ne.symm m5),tr_o _ (Ne.symm i2) (Ne.symm j3),tr_o _ p1 (Ne.symm k4),tr_b,h.fb]
  by_cases x4:x=YY
  · rw[x4,h.gyy,tr_o _ j4 (Ne.symm m2),tr_o _ j1 (Ne.symm n3),tr_b,tr_o _ o1 (Ne.symm k3),tr_o _ (Ne.symm n5) (Ne.symm m4),tr_o _ (Ne.symm i1) (Ne.symm j2),tr_o _ o2 (Ne.symm k3),tr_a,h.fk]
  by_cases x5:x=A
  · rw[x5,h.ga,tr_o _ i3 (Ne.symm m3),tr_a,tr_o _ n5 n3,tr_o _ n6 n2,a3]
  by_cases x6:x=B
  · rw[x6,h.gb,tr_o _ o2 (Ne.symm m4),tr_o _ (Ne.symm i1) (Ne.symm n5),tr_a,tr_o _ j3 (Ne.symm k1),a2]
  by_cases x7:x=K
  · rw[x7,h.gk,tr_o _ p1 (Ne.symm m5),tr_o _ (Ne.symm i2) (Ne.symm n6),tr_o _ (Ne.symm o1) (Ne.symm j3),tr_a,a1]
  by_cases x8:x=D
  · rw[x8,h.gd,tr_a,tr_o _ m3 (Ne.symm n1),tr_o _ m4 m2,tr_o _ m5 m1,a4]
  rw[tr_o _ x8 x2,tr_o _ x5 x1,tr_o _ x6 x4,tr_o _ x7 x3,tr_o _ x1 x2,tr_o _ x5 x4,tr_o _ x8 x3,tr_o _ x6 x7,h.go x hx (by simp only[List.mem_cons,List.not_mem_nil,or_false,not_or];exact⟨x1,x2,x3,x4,x5,x6,x7,x8⟩)]
 omega
theorem PullG.strands {f g al : Nat → Nat} {M X Y XX YY A B K D : Nat} (h : PullG f g al M X Y XX YY A B K D) {S : Nat → Prop} (hS : Closed (edb g al M) S) :
    ((S A↔S X)/\(S A↔S XX)/\(S A↔S K)/\(S A↔S (al A))/\(S A↔S (al K)))/\(S B↔S Y)/\(S B↔S YY)/\(S B↔S D)/\(S B↔S (al B))/\(S B↔S (al D)):=by
 obtain⟨lx,ly,lxx,lyy,lA,lB,lK,lD⟩:=h.lt
 obtain⟨s1,s2⟩:=closed_edb.1 hS
 have q1:=s1 A lA
 have q2:=s2 X lx
 have q3:=s1 K lK
 have q4:=s1 B lB
 have q5:=s2 Y ly
 have q6:=s1 D lD
 have r1:=s2 A lA
 have r2:=s2 K lK
 have r3:=s2 B lB
 have r4:=s2 D lD
 rw[h.ga]at q1
 rw[h.ax]at q2
 rw[h.gk]at q3
 rw[h.gb]at q4
 rw[h.ay]at q5
 rw[h.gd]at q6
 have t1:S A↔S K:=q1.trans (q2.trans q3.symm)
 have t2:S B↔S D:=q4.trans (q5.symm.trans q6.symm)
 exact⟨⟨q1,q1.trans q2,t1,r1,t1.trans r2⟩,q4.trans q5.symm,q4,t2,r3,t2.trans r4⟩
theorem PullG.one {f g al:Nat->Nat} {M X Y XX YY A B K D:Nat} (h:PullG f g al M X Y XX YY A B K D) (hn:¬ Con (eds f M) B K) {S:Nat->Prop} (hS:Closed (edb g al M) S) (hA:S A):S B:=by
 refine Classical.byContradiction fun hB=>?_
 obtain⟨lx,ly,lxx,lyy,lA,lB,lK,lD⟩:=h.lt
 have nd:=h.nd
 simp only[List.nodup_cons,List.mem_cons,List.not_mem_nil,or_false,not_or,not_false_eq_true,and_true,List.nodup_nil]at nd
 obtain⟨⟨n1,n2,n3,n4,n5,n6,n7⟩,⟨m1,m2,m3,m4,m5,m6⟩,⟨k1,k2,k3,k4,k5⟩,⟨j1,j2,j3,j4⟩,⟨i1,i2,i3⟩,⟨o1,o2⟩,p1⟩:=nd
 obtain⟨⟨a1,a2,a3,a4,a5⟩,b1,b2,b3,b4,b5⟩:=h.strands hS
 obtain⟨s1,s2⟩:=closed_edb.1 hS
 have alx:∀ z,z<M->al z=X->z=XX:=fun z hz e=>by rw[<-h.aa z hz,e,h.ax]
 have alxx:∀ z,z<M->al z=XX->z=X:=fun z hz e=>by rw[<-h.aa z hz,e,<-h.ax,h.aa X lx]
 obtain⟨p,h0,hp⟩:=period h.bf lB
 have key:∀ i,(S (it f (i+1) B)/\it f (i+1) B≠X/\it f (i+1) B≠XX)∨it f (i+1) B=YY:=by
  intro i
  induction i with
  |zero=>
   show(S (f B)/\f B≠X/\f B≠XX)∨_
   rw[h.fb]
   exact Or.inl ⟨a4.1 hA,fun e=>k2 (alx A lA e).symm,fun e=>n4 (alxx A lA e).symm⟩
  |succ i ih=>
   have hz:=it_lt h.bf lB (i+1)
   have hk:it f (i+1) B≠K:=fun q=>hn (q▸con_it h.bf lB (i+1))
   show(S (f (it f (i+1) B))/\f (it f (i+1) B)≠X/\f (it f (i+1) B)≠XX)∨f (it f (i+1) B)=YY
   generalize it f (i+1) B=z at ih hz hk ⊢
   by_cases z1:z=YY
   · rw[z1,h.fyy]
     exact Or.inl ⟨a5.1 hA,fun e=>k4 (alx K lK e).symm,fun e=>n6 (alxx K lK e).symm⟩
   obtain⟨hs,z2,z3⟩:=ih.resolve_right z1
   by_cases z4:z=A
   · exact Or.inr (by rw[z4,h.fa])
   have z5:z≠B:=fun e=>hB (e▸hs)
   have z6:z≠D:=fun e=>hB (b3.2 (e▸hs))
   have z7:z≠Y:=fun e=>hB (b1.2 (e▸hs))
   have e:=h.go z hz (by simp only[List.mem_cons,List.not_mem_nil,or_false,not_or];exact⟨z2,z7,z3,z1,z4,z5,hk,z6⟩)
   have s:=s1 z hz
   rw[e]at s
   exact Or.inl ⟨s.1 hs,fun q=>z7 (h.bf.inj z Y hz ly (by rw[q,h.fy])),fun q=>z6 (h.bf.inj z D hz lD (by rw[q,h.fd]))⟩
 have:=key (p-1)
 rw[show p-1+1=p by omega,hp]at this
 rcases this with q|q
 · exact hB q.1
 · exact j2 q.symm
end Go.Proofs.YtiliihlkpknhdaaDoor

/- Several texts of the proof, one behind the other. -/
import Derived.Test.YtgagenmkpmmpfaaTD6P
import Derived.Test.YtgagenmkpmmpfaaAS5P
import Derived.Test.YtgagenmkpmmpfaaAS4P
import Derived.Test.YtgagenmkpmmpfaaCySP
import Derived.Test.YtgagenmkpmmpfaaO1P
/- Alexander's polynomial at -1, by arcs; plain mathematics. -/
namespace Go.Proofs.Ytgagenmkpmmpfaa
open Poly
theorem neg_rows (C:List Cr) (N:Nat):(dZ ((List.range N).map (alV C (-1))) (List.range N)).natAbs=(dZ ((List.range N).map (eqR C)) (List.range N)).natAbs:=by
 rw[dZ_det _ _ (by simp),dZ_det _ _ (by simp)]
 have h:=detZ_neg (eqR C) (List.range N) (List.range N)
 have e:(List.range N).map (alV C (-1))=(List.range N).map fun k j => -eqR C k j:=List.map_congr_left fun k _=>funext fun j=>by
  have:=al_ev C k j
  unfold alV
  omega
 rw[e,h,Int.natAbs_mul]
 rcases sgZ_two (List.range N).length with q|q<;>rw[q]<;>simp
theorem alex_minus {C:List Cr} {loops:Int} (hm:mayD C loops=true) (hp:planarB C=true) (h0:0<C.length) (hl0:loops=0) {l:List (Int×Int)} (hA:IsAlex C loops l):(atTo l (-1) l.length).natAbs=(dZ (rowsA C (-1)) (arcsL (2*C.length) 1)).natAbs:=by
 have hge:=ovC_ge C
 rw[al_arcs hm h0,ev_all]
 unfold IsAlex at hA
 rw[if_neg (by omega)]at hA
 by_cases hs:C.length<ovC C-1
 · rw[if_pos (Or.inr (Or.inr hs))]at hA
   rw[hA,if_neg (by omega)]
   rfl
 · rw[if_neg (by omega)]at hA
   obtain⟨l0,hc,rfl⟩:=hA
   have hv:=alT_ev hc
   have hu:(vlM (unitL l0)).natAbs=(vlM l0).natAbs:=by
    rcases unit_ev l0 with q|q<;>rw[q]
    exact Int.natAbs_neg _
   rw[hu,hv,Int.natAbs_mul,<-dZ_det _ _ (by simp),<-neg_rows]
   have hs1:(sgZ (ovC C - 1)).natAbs=1:=by rcases sgZ_two (ovC C - 1) with q|q<;>rw[q]<;>rfl
   rw[hs1,Nat.one_mul]
   by_cases e:ovC C=C.length
   · rw[if_pos e,e]
   · rw[if_neg e,show ovC C-1=C.length by omega,al_null hm hp h0 (by decide)]
     rfl
end Go.Proofs.Ytgagenmkpmmpfaa
/- The determinant of a list's link is its fraction's numerator, loops or not; plain mathematics. -/
namespace Go.Proofs.Ytgagenmkpmmpfaa
open Poly
theorem tE_one (st:Nat->Bool×Bool):∀ k e,e=2∨e=3->tE st k e≠1
 |0,e,h=>by unfold tE;rw[if_neg (by omega)];omega
 |k+1,e,h=>by
  have:=tE_one st k e h
  unfold tE
  split<;>split<;>(try split)<;>omega
theorem tL_nextE (st:Nat->Bool×Bool) (k e:Nat) (he:e≠tG (st k).1) (h3:e≠3):tL st (k+1) e=tL st k e/\tE st (k+1) e=tE st k e:=by
 constructor
 · show(if e=tG (st k).1 then _ else if e=3 then _ else tL st k e)=_
   rw[if_neg he,if_neg h3]
 · have te:tE st (k+1) e=if(st k).1=true then(if e=1 then 2*k+3 else if e=3 then 2*k+4 else tE st k e) else(if e=2 then 2*k+3 else if e=3 then 2*k+4 else tE st k e):=rfl
   rw[te]
   unfold tG at he
   cases hs:(st k).1
   · rw[hs]at he
     rw[if_neg (by decide),if_neg (by simpa using he),if_neg h3]
   · rw[hs]at he
     rw[if_pos rfl,if_neg (by simpa using he),if_neg h3]
theorem tE_new (st:Nat->Bool×Bool) (k:Nat):tE st (k+1) (tG (st k).1)=2*k+3/\tE st (k+1) 3=2*k+4:=by
 have te:∀ e,tE st (k+1) e=if(st k).1=true then(if e=1 then 2*k+3 else if e=3 then 2*k+4 else tE st k e) else(if e=2 then 2*k+3 else if e=3 then 2*k+4 else tE st k e):=fun e=>rfl
 rw[te,te]
 unfold tG
 cases (st k).1<;>simp
theorem tE_lab (st:Nat->Bool×Bool):∀ k e e',e<4->e'<4->tE st k e=tE st k e'->tL st k e=tL st k e'
 |0,e,e',_,_,h=>by
  unfold tE at h
  unfold tL
  split at h<;>split at h<;>simp_all
 |k+1,e,e',he,he',h=>by
  obtain⟨n1,n2⟩:=tE_new st k
  have b:=tE_lt st k e
  have b':=tE_lt st k e'
  have g:=tG_two (st k).1
  by_cases q1:e=tG (st k).1<;>by_cases q2:e'=tG (st k).1
  · rw[q1,q2]
  · by_cases q3:e'=3
    · rw[q1,q3,n1,n2]at h;omega
    · rw[q1,n1,(tL_nextE st k e' q2 q3).2]at h;omega
  · by_cases q3:e=3
    · rw[q2,q3,n1,n2]at h;omega
    · rw[q2,n1,(tL_nextE st k e q1 q3).2]at h;omega
  · by_cases q3:e=3<;>by_cases q4:e'=3
    · rw[q3,q4]
    · rw[q3,n2,(tL_nextE st k e' q2 q4).2]at h;omega
    · rw[q4,n2,(tL_nextE st k e q1 q3).2]at h;omega
    · rw[(tL_nextE st k e q1 q3).2,(tL_nextE st k e' q2 q4).2]at h
      rw[(tL_nextE st k e q1 q3).1,(tL_nextE st k e' q2 q4).1]
      exact tE_lab st k e e' he he' h
def tO2 (st:Nat->Bool×Bool) (n:Nat):Nat:=(if tT st n 0=1 then 1 else 0)+(if jn (tT st n) 0 1 2=3 then 1 else 0)
theorem lkO_t (l:List Int):lkO l=tO2 (stL l) (szTo l l.length):=by
 unfold lkO tO2
 rw[twL_tT l l.length (Nat.le_refl _)]
theorem tO2_edges (st:Nat->Bool×Bool) (n:Nat):(tT st n 0=1↔tE st n 0=tE st n 1)/\(jn (tT st n) 0 1 2=3↔tM st n (tE st n 2)=tM st n (tE st n 3)):=by
 obtain⟨hI,hT⟩:=tN_tel st n
 have d0:Dom n 0:=by unfold Dom;omega
 have d1:Dom n 1:=by unfold Dom;omega
 have d2:Dom n 2:=by unfold Dom;omega
 have d3:Dom n 3:=by unfold Dom;omega
 have e0:=tN_end st n 0 (by omega)
 have e1:=tN_end st n 1 (by omega)
 have e2:=tN_end st n 2 (by omega)
 have e3:=tN_end st n 3 (by omega)
 constructor
 · have h:=hT 1 0 d1 d0
   rw[e0,e1]at h
   constructor
   · intro q;exact(h.2 (Or.inr q.symm)).symm
   · intro q;rcases h.1 q.symm with z|z
     · omega
     · exact z.symm
 · have h1:=jn_tel hI hT d0 d1 (by decide) 3 2 ⟨d3,by decide,by decide⟩ ⟨d2,by decide,by decide⟩
   simp only[e0,e1,e2,e3]at h1
   constructor
   · intro q;exact(h1.2 (Or.inr q.symm)).symm
   · intro q;rcases h1.1 q.symm with z|z
     · omega
     · exact z.symm
theorem tO2_none (st:Nat->Bool×Bool) (n:Nat) (h:tO2 st n=0):tE st n 0≠tE st n 1/\tM st n (tE st n 2)≠tM st n (tE st n 3):=by
 obtain⟨a,b⟩:=tO2_edges st n
 unfold tO2 at h
 constructor
 · intro q;rw[if_pos (a.2 q)]at h;omega
 · intro q;rw[if_pos (b.2 q)]at h;omega
theorem tO2_some (st:Nat->Bool×Bool) (n:Nat) (h:tO2 st n≠0):tL st n 1=0:=by
 obtain⟨a,b⟩:=tO2_edges st n
 obtain⟨s0,s3⟩:=tL_sum st n
 by_cases q:tT st n 0=1
 · have:=tE_lab st n 0 1 (by omega) (by omega) (a.1 q)
   omega
 · have q2:jn (tT st n) 0 1 2=3:=Classical.byContradiction fun z=>h (by unfold tO2;rw[if_neg q,if_neg z])
   have hM:=b.1 q2
   have z0:=tE_zero st n
   have z2:=tE_one st n 2 (Or.inl rfl)
   have z3:=tE_one st n 3 (Or.inr rfl)
   have:tE st n 2=tE st n 3:=by
    unfold tM at hM
    rw[z0]at hM
    split at hM<;>split at hM<;>omega
   have:=tE_lab st n 2 3 (by omega) (by omega) this
   omega
theorem frM_abs (l:List Int):(frM l).1.natAbs=(frTo l l.length).1.natAbs:=by
 unfold frM
 split
 · exact Int.natAbs_neg _
 · rfl
theorem link_det (l:List Int) (ho:l.length%2=1) (hm:mayD (lkC (szTo l l.length) (lkU l)) (lkO l:Nat)=true) (hp:planarB (lkC (szTo l l.length) (lkU l))=true) {A:List (Int×Int)} (hA:IsAlex (lkC (szTo l l.length) (lkU l)) (lkO l:Nat) A):(atTo A (-1) A.length).natAbs=(frM l).1.natAbs:=by
 rw[frM_abs,<-(tL_end l ho).1]
 have hn:szTo l l.length=0->lkO l=2:=fun q=>by
  rw[lkO_t,q]
  rfl
 by_cases h:lkO l=0
 · have h0 : 0 < szTo l l.length := by
     rcases Nat.eq_zero_or_pos (szTo l l.length) with q|q
     · have:=hn q;omega
     · exact q
   rw[lkU_tV]at hm hp hA
   rw[lkO_t]at h
   obtain⟨t1,t2⟩:=tO2_none _ _ h
   rw[alex_minus hm hp (by rw[lkC_len];exact h0) (by rw[lkO_t];omega) hA,lkC_len]
   exact td_real hm h0 (tB_len _ _ t1 t2)
 · have hz:=tO2_some (stL l) (szTo l l.length) (by rw[<-lkO_t];exact h)
   unfold IsAlex at hA
   rw [if_neg (fun z => by
    have z1:=z.1
    rw[lkC_len]at z1
    have:=hn z1
    omega),if_pos (Or.inr (Or.inl (by omega)))]at hA
   rw[hA,hz]
   rfl
end Go.Proofs.Ytgagenmkpmmpfaa
/- The strands of a list's link: by parity of labels; plain mathematics. -/
namespace Go.Proofs.Ytgagenmkpmmpfaa
def tA (st:Nat->Bool×Bool) (v:Nat):Int:=if v<=1 then 0 else if v=2 then 1 else if v%2=1 then tL st ((v-3) / 2+1) (tG (st ((v-3) / 2)).1) else tL st ((v-3) / 2+1) 3
theorem tA_odd (st:Nat->Bool×Bool) (k:Nat):tA st (2*k+3)=tL st (k+1) (tG (st k).1):=by
 unfold tA
 rw[if_neg (by omega),if_neg (by omega),if_pos (by omega),show(2*k+3-3) / 2=k by omega]
theorem tA_even (st:Nat->Bool×Bool) (k:Nat):tA st (2*k+4)=tL st (k+1) 3:=by
 unfold tA
 rw[if_neg (by omega),if_neg (by omega),if_neg (by omega),show(2*k+4-3) / 2=k by omega]
theorem tA_end (st:Nat->Bool×Bool):∀ k e,tL st k e=tA st (tE st k e)
 |0,e=>by
  unfold tL tE tA
  split<;>simp
 |k+1,e=>by
  obtain⟨n1,n2⟩:=tE_new st k
  by_cases q1:e=tG (st k).1
  · rw[q1,n1,tA_odd]
  · by_cases q3:e=3
    · rw[q3,n2,tA_even]
    · rw[(tL_nextE st k e q1 q3).1,(tL_nextE st k e q1 q3).2,tA_end st k e]
theorem tA_par (st:Nat->Bool×Bool) (k:Nat):tA st (2*k+3)%2=tA st (tE st k 3)%2/\tA st (2*k+4)%2=tA st (tE st k (tG (st k).1))%2:=by
 rw[tA_odd,tA_even,<-tA_end,<-tA_end]
 have g:=tG_two (st k).1
 constructor
 · show(if tG (st k).1=tG (st k).1 then _ else _)%2=_
   rw[if_pos rfl]
   split<;>omega
 · show(if 3=tG (st k).1 then _ else if 3=3 then _ else _)%2=_
   rw[if_neg (by omega),if_pos rfl]
   split<;>omega
theorem acr_cor (k:Nat) (up right:Bool):acr (corT k up (tG right))=corT k up (3-tG right)/\acr (corT k up 3)=corT k up 0:=by
 cases up<;>cases right<;>simp[acr,corT,sdOf,tG]<;>omega
def aSp (st:Nat->Bool×Bool) (n x:Nat):Nat:=(FL (tV st n) (goC n (tV st n) n) x).toNat
section
variable {st:Nat->Bool×Bool} {n:Nat} {loops:Int} (hm:mayD (lkC n (tV st n)) loops=true)
include hm
theorem nx_sp {z:Nat} (hz:SpT n z) (hL:z∈goC n (tV st n) n):nx (lkC n (tV st n)) (aSp st n z)=aSp st n (acr z):=by
 have hU:=tV_ties st n
 unfold SpT at hz
 have b:=lkB_two n (tV st n) (z / 4-1)
 obtain⟨s,hs,es⟩:∃ s,s<4/\(s+lkB n (tV st n) (z / 4 - 1))%4=z%4:=⟨(z%4+4 - lkB n (tV st n) (z / 4 - 1))%4,by omega,by omega⟩
 have e1:lkS n (tV st n) (z / 4-1) s=z:=by unfold lkS;omega
 have e2:lkS n (tV st n) (z / 4-1) ((s+2)%4)=acr z:=by unfold lkS acr;omega
 obtain⟨a1,a2⟩:=lk_side hU (c:=z / 4 - 1) (s:=s) (by omega) hs
 obtain⟨b1,-⟩:=lk_side hU (c:=z / 4 - 1) (s:=(s+2)%4) (by omega) (by omega)
 rw[e1]at a1 a2
 rw[e2]at b1
 have ea:aAt (lkC n (tV st n)) (z / 4-1) s=aSp st n z:=by unfold aAt aSp;rw[a1]
 obtain⟨c1,c2,-,-⟩:=en_side hm (z / 4 - 1) s (by rw[lkC_len];omega) hs
 rw[a2,decide_eq_true hL,ea]at c1 c2
 have t1:toC (lkC n (tV st n)) (aSp st n z)=z / 4-1:=c1
 have t2:toS (lkC n (tV st n)) (aSp st n z)=s:=c2
 unfold nx
 rw[t1,t2,b1]
 rfl
omit hm in
theorem sp_bd {z:Nat} (hz:SpT n z):1<=aSp st n z/\aSp st n z<=2*n:=by
 have:=FL_bd (tV_ties st n) hz
 unfold aSp
 omega
theorem sp_con {z:Nat} (hz:SpT n z):Con (eds (up0 (nx (lkC n (tV st n)))) (2*n+1)) (aSp st n z) (aSp st n (acr z)):=by
 have one:∀ z,SpT n z->z∈goC n (tV st n) n->Con (eds (up0 (nx (lkC n (tV st n)))) (2*n+1)) (aSp st n z) (aSp st n (acr z)):=fun z hz hL=>by
  have b:=sp_bd (st:=st) hz
  have h:=eds_mem (f:=up0 (nx (lkC n (tV st n)))) (M:=2*n+1) (i:=aSp st n z) (by omega)
  have e:up0 (nx (lkC n (tV st n))) (aSp st n z)=aSp st n (acr z):=by
   unfold up0
   rw[if_neg (by omega),nx_sp hm hz hL]
  rw[e]at h
  exact Con.edge h
 by_cases hL:z∈goC n (tV st n) n
 · exact one z hz hL
 · have h:=one (acr z) (acr_sp hz) ((goC_or (tV_ties st n) hz).2 hL)
   rw[acr_acr]at h
   exact h.symm
theorem sp_back:∀ (v x:Nat),SpT n x->tN st n x=v->∃ y,SpT n y/\tN st n y=1+(tA st v%2).toNat/\Con (eds (up0 (nx (lkC n (tV st n)))) (2*n+1)) (aSp st n x) (aSp st n y):=by
 intro v
 induction v using Nat.strongRecOn with
 |ind v ih=>
  intro x hx hv
  have b:=tN_bd st n x
  rcases Nat.lt_or_ge v 3 with q|q
  · refine⟨x,hx,?_,Con.refl _ _⟩
    have:v=1∨v=2:=by omega
    rcases this with r|r<;>rw[hv,r]<;>rfl
  · obtain⟨k,hk⟩:∃ k,k=(v - 3) / 2:=⟨_,rfl⟩
    have hkn:k<n:=by omega
    obtain⟨c0,c1,c2,c3⟩:=tN_cor st k n hkn
    obtain⟨p1,p2⟩:=tA_par st k
    obtain⟨o1,o2⟩:=acr_cor k (st k).2 (st k).1
    have spc:∀ c,SpT n (corT k (st k).2 c):=fun c=>by
     have:=cor_ge k (st k).2 c
     have:=cor_lt k (st k).2 c
     unfold SpT
     omega
    have go:∀ z,SpT n z->tN st n z=v->tN st n (acr z)<v->tA st (tN st n (acr z))%2=tA st v%2->∃ y,SpT n y/\tN st n y=1+(tA st v%2).toNat/\Con (eds (up0 (nx (lkC n (tV st n)))) (2*n+1)) (aSp st n x) (aSp st n y):=fun z hz h1 h2 h3=>by
     obtain⟨y,y1,y2,y3⟩:=ih _ h2 (acr z) (acr_sp hz) rfl
     refine⟨y,y1,by rw[y2,h3],?_⟩
     have e:aSp st n x=aSp st n z:=by
      unfold aSp
      rw[(arc_cls st n hx hz).2 (by rw[hv,h1])]
     rw[e]
     exact(sp_con hm hz).trans y3
    have t3:=tE_lt st k 3
    have t4:=tE_lt st k (tG (st k).1)
    rcases Nat.mod_two_eq_zero_or_one v with r|r
    · have ev:v=2*k+4:=by omega
      refine go _ (spc 3) (by rw[c3,ev]) ?_ ?_
      · rw[o2,c0];omega
      · rw[o2,c0,ev,p2]
    · have ev:v=2*k+3:=by omega
      refine go _ (spc (tG (st k).1)) (by rw[c1,ev]) ?_ ?_
      · rw[o1,c2];omega
      · rw[o1,c2,ev,p1]
theorem sp_one {x y:Nat} (hx:SpT n x) (hy:SpT n y) (e:tA st (tN st n x)%2=tA st (tN st n y)%2):Con (eds (up0 (nx (lkC n (tV st n)))) (2*n+1)) (aSp st n x) (aSp st n y):=by
 obtain⟨u,u1,u2,u3⟩:=sp_back hm _ x hx rfl
 obtain⟨w,w1,w2,w3⟩:=sp_back hm _ y hy rfl
 have q:aSp st n u=aSp st n w:=by
  unfold aSp
  rw[(arc_cls st n u1 w1).2 (by rw[u2,w2,e])]
 rw[<-q]at w3
 exact u3.trans w3.symm
end
end Go.Proofs.Ytgagenmkpmmpfaa
/- How many strands a list's link has; plain mathematics. -/
namespace Go.Proofs.Ytgagenmkpmmpfaa
theorem par_acr (st:Nat->Bool×Bool) (n:Nat) {x:Nat} (hx:SpT n x):tA st (tN st n (acr x))%2=tA st (tN st n x)%2:=by
 have hx':=hx
 unfold SpT at hx'
 obtain⟨k,hk⟩:∃ k,k=x / 4 - 1:=⟨_,rfl⟩
 have hkn:k<n:=by omega
 obtain⟨c0,c1,c2,c3⟩:=tN_cor st k n hkn
 obtain⟨p1,p2⟩:=tA_par st k
 obtain⟨o1,o2⟩:=acr_cor k (st k).2 (st k).1
 have o3:acr (corT k (st k).2 (3-tG (st k).1))=corT k (st k).2 (tG (st k).1):=by rw[<-o1,acr_acr]
 have o4:acr (corT k (st k).2 0)=corT k (st k).2 3:=by rw[<-o2,acr_acr]
 have hall:=cor_all k (st k).2 x (by omega) (by omega)
 have g:=tG_two (st k).1
 have key:x=corT k (st k).2 0∨x=corT k (st k).2 (tG (st k).1)∨x=corT k (st k).2 (3-tG (st k).1)∨x=corT k (st k).2 3:=by
  rcases g with g|g<;>simp only[g,Nat.reduceSub]<;>omega
 rcases key with r|r|r|r
 · rw[r,o4,c3,c0,p2]
 · rw[r,o1,c2,c1,p1]
 · rw[r,o3,c1,c2,p1]
 · rw[r,o2,c0,c3,p2]
theorem tW_par (st:Nat->Bool×Bool) (n:Nat) (he:tL st n 1%2=0) (v:Nat):tA st (tW st n v)%2=tA st v%2:=by
 obtain⟨s0,s3⟩:=tL_sum st n
 rw[tA_end]at s0
 have e1:=tA_end st n 1
 have e2:=tA_end st n 2
 have e3:=tA_end st n 3
 have hM:∀ v,tA st (tM st n v)%2=tA st v%2:=fun v=>by
  unfold tM
  split
  · rename_i q
    rw[q,<-e1,s0]
    omega
  · rfl
 unfold tW
 split
 · rename_i q
   have h1:=hM v
   have h2:=hM (tE st n 3)
   have h3:=hM (tE st n 2)
   rw[q]at h1
   rw[h3,<-h1,h2,<-e2,<-e3]
   omega
 · exact hM v
section
variable {st:Nat->Bool×Bool} {n:Nat} {loops:Int} (hm:mayD (lkC n (tV st n)) loops=true)
include hm
theorem walks_cnt:(walksM (lkC n (tV st n))).length=(List.range (2*n+1)).countP fun v=>decide ((cyW (up0 (nx (lkC n (tV st n)))) (2*n+1)).getD v 0=v)&&posQ v:=by
 have h:=walks_len (nx_gd hm)
 rw[lkC_len]at h
 have e:(walksM (lkC n (tV st n))).length=(walksTo (nx (lkC n (tV st n))) (2*n) (2*n)).1.length:=by unfold walksM;rw[lkC_len]
 rw[e,h]
 unfold cyN
 rw[rq_eq]
theorem up_least:Least (eds (up0 (nx (lkC n (tV st n)))) (2*n+1)) (2*n+1) (cyW (up0 (nx (lkC n (tV st n)))) (2*n+1)):=by
 have:=(nx_gd hm).bij.lt
 rw[lkC_len]at this
 exact cyW_least this
theorem arc_sp {a:Nat} (h1:1<=a) (h2:a<=2*n):∃ x,SpT n x/\aSp st n x=a/\x∈goC n (tV st n) n:=by
 obtain⟨-,t1,t2,t3,t4⟩:=to_may hm a h1 (by rw[lkC_len];exact h2)
 rw[lkC_len]at t1
 obtain⟨a1,a2⟩:=lk_side (tV_ties st n) t1 t2
 refine⟨lkS n (tV st n) (toC (lkC n (tV st n)) a) (toS (lkC n (tV st n)) a),lkS_sp t1,?_,?_⟩
 · unfold aSp
   rw[<-a1,t3]
   simp
 · rw[t4]at a2
   exact of_decide_eq_true a2.symm
theorem root_pos {v:Nat} (h1:1<=v) (h2:v<=2*n):1<=(cyW (up0 (nx (lkC n (tV st n)))) (2*n+1)).getD v 0:=by
 have hL:=up_least hm
 refine(hL.2 v (by omega)).1 (fun z=>1<=z) (fun e he=>?_) h1
 obtain⟨i,hi,rfl⟩:=List.mem_map.1 he
 have hi:=List.mem_range.1 hi
 have hc:=nx_closed hm
 rw[lkC_len]at hc
 show 1<=i↔1<=up0 _ i
 unfold up0
 by_cases q:i=0
 · rw[if_pos q,q]
 · rw[if_neg q]
   have:=hc i (by omega) (by omega)
   omega
theorem walks_one (h0:0<n) (h:∀ x y,SpT n x->SpT n y->tA st (tN st n x)%2=tA st (tN st n y)%2∨Con (eds (up0 (nx (lkC n (tV st n)))) (2*n+1)) (aSp st n x) (aSp st n y)):(walksM (lkC n (tV st n))).length=1:=by
 have hL:=up_least hm
 rw[walks_cnt hm]
 have hc:(List.range 1).countP (fun _=>true)=1:=rfl
 refine Nat.le_antisymm (Nat.le_trans (inj_cnt (M:=1) (Q:=fun _=>true) (fun _=>0) (fun v hv hP=>⟨by omega,rfl⟩) fun u v hu hv hPu hPv _=>?_) (Nat.le_of_eq hc)) (Nat.le_trans (Nat.le_of_eq hc.symm) (inj_cnt (fun _=>(cyW (up0 (nx (lkC n (tV st n)))) (2*n+1)).getD 1 0) (fun v hv hP=>?_) fun u v hu hv _ _ _=>by omega))
 · simp only[Bool.and_eq_true,decide_eq_true_eq,posQ]at hPu hPv
   obtain⟨x,x1,x2,-⟩:=arc_sp hm hPu.2 (by omega)
   obtain⟨y,y1,y2,-⟩:=arc_sp hm hPv.2 (by omega)
   have c:Con (eds (up0 (nx (lkC n (tV st n)))) (2*n+1)) (aSp st n x) (aSp st n y):=by
    rcases h x y x1 y1 with q|q
    · exact sp_one hm x1 y1 q
    · exact q
   rw[x2,y2]at c
   have:=(hL.same hu hv).2 c
   omega
 · have r:=root_pos hm (v:=1) (Nat.le_refl _) (by omega)
   refine⟨hL.lt (by omega),?_⟩
   simp only[Bool.and_eq_true,decide_eq_true_eq,posQ]
   exact⟨hL.root (by omega),r⟩
theorem walks_two (he:tL st n 1%2=0) {x0 x1:Nat} (h0:SpT n x0) (h1:SpT n x1) (p0:tA st (tN st n x0)%2=0) (p1:tA st (tN st n x1)%2=1):(walksM (lkC n (tV st n))).length=2:=by
 have hL:=up_least hm
 have wd:∀ x y,SpT n x->SpT n y->aSp st n x=aSp st n y->tA st (tN st n x)%2=tA st (tN st n y)%2:=fun x y hx hy e=>by
  have b1:=sp_bd (st:=st) hx
  have b2:=sp_bd (st:=st) hy
  have c:=FL_bd (tV_ties st n) hx
  have d:=FL_bd (tV_ties st n) hy
  have e1:FL (tV st n) (goC n (tV st n) n) x=FL (tV st n) (goC n (tV st n) n) y:=by unfold aSp at e;omega
  have e2:=(tB_same st n (tN_bd st n x).2 (tN_bd st n y).2).1 ((arc_cls st n hx hy).1 e1)
  rw[<-tW_par st n he (tN st n x),<-tW_par st n he (tN st n y),e2]
 obtain⟨F,hF⟩:∃ F:Nat->Int,∀ x,SpT n x->F (aSp st n x)=tA st (tN st n x)%2:=by
  have h:∀ a:Nat,∃ v:Int,∀ x,SpT n x->aSp st n x=a->v=tA st (tN st n x)%2:=fun a=>by
   by_cases q:∃ x,SpT n x/\aSp st n x=a
   · obtain⟨y,y1,y2⟩:=q
     exact⟨_,fun x hx e=>(wd x y hx y1 (e.trans y2.symm)).symm⟩
   · exact⟨0,fun x hx e=>absurd ⟨x,hx,e⟩ q⟩
  obtain⟨F,hF⟩:=Classical.axiomOfChoice h
  exact⟨F,fun x hx=>hF _ x hx rfl⟩
 have inv:∀ a b,1<=a->a<=2*n->Con (eds (up0 (nx (lkC n (tV st n)))) (2*n+1)) a b->F a=F b:=fun a b ha1 ha2 c=>by
  refine(c (fun z=>1<=z/\z<=2*n/\F a=F z) (fun e he=>?_) ⟨ha1,ha2,rfl⟩).2.2
  obtain⟨i,hi,rfl⟩:=List.mem_map.1 he
  have hi:=List.mem_range.1 hi
  show(1<=i/\i<=2*n/\F a=F i)↔(1<=up0 _ i/\up0 _ i<=2*n/\F a=F (up0 _ i))
  unfold up0
  by_cases q:i=0
  · rw[if_pos q,q]
  · rw[if_neg q]
    obtain⟨x,g1,g2,g3⟩:=arc_sp hm (a:=i) (by omega) (by omega)
    have e1:=nx_sp hm g1 g3
    have hb:=sp_bd (st:=st) (acr_sp g1)
    have f1:=hF x g1
    have f2:=hF (acr x) (acr_sp g1)
    rw[g2]at e1 f1
    rw[e1]
    rw[par_acr st n g1]at f2
    rw[f1,f2]
    constructor
    · intro z;exact⟨hb.1,hb.2,z.2.2⟩
    · intro z;exact⟨by omega,by omega,z.2.2⟩
 rw[walks_cnt hm]
 have hc:(List.range 2).countP (fun _=>true)=2:=rfl
 have b0:=sp_bd (st:=st) h0
 have b1:=sp_bd (st:=st) h1
 refine Nat.le_antisymm (Nat.le_trans (inj_cnt (M:=2) (Q:=fun _=>true) (fun v=>(F v%2).toNat) (fun v hv hP=>⟨by show(F v%2).toNat<2;omega,rfl⟩) fun u v hu hv hPu hPv e=>?_) (Nat.le_of_eq hc)) (Nat.le_trans (Nat.le_of_eq hc.symm) (inj_cnt (fun j=>(cyW (up0 (nx (lkC n (tV st n)))) (2*n+1)).getD (if j=0 then aSp st n x0 else aSp st n x1) 0) (fun v hv hP=>?_) fun u v hu hv _ _ e=>?_))
 · simp only[Bool.and_eq_true,decide_eq_true_eq,posQ]at hPu hPv
   obtain⟨x,g1,g2,-⟩:=arc_sp hm hPu.2 (by omega)
   obtain⟨y,k1,k2,-⟩:=arc_sp hm hPv.2 (by omega)
   have fx:=hF x g1
   have fy:=hF y k1
   rw[g2]at fx
   rw[k2]at fy
   have e:(F u%2).toNat=(F v%2).toNat:=e
   have c:=sp_one hm g1 k1 (by omega)
   rw[g2,k2]at c
   have:=(hL.same hu hv).2 c
   omega
 · have bd:1<=(if v=0 then aSp st n x0 else aSp st n x1)/\(if v=0 then aSp st n x0 else aSp st n x1)<=2*n:=by split<;>omega
   refine⟨hL.lt (by omega),?_⟩
   simp only[Bool.and_eq_true,decide_eq_true_eq,posQ]
   exact⟨hL.root (by omega),root_pos hm bd.1 bd.2⟩
 · have f0:=hF x0 h0
   have f1:=hF x1 h1
   have ne:F (aSp st n x0)≠F (aSp st n x1):=by omega
   have e:(cyW (up0 (nx (lkC n (tV st n)))) (2*n+1)).getD (if u=0 then aSp st n x0 else aSp st n x1) 0=(cyW (up0 (nx (lkC n (tV st n)))) (2*n+1)).getD (if v=0 then aSp st n x0 else aSp st n x1) 0:=e
   by_cases q1:u=0<;>by_cases q2:v=0
   · omega
   · rw[if_pos q1,if_neg q2]at e
     exact absurd (inv _ _ b0.1 b0.2 ((hL.same (by omega) (by omega)).1 e)) ne
   · rw[if_neg q1,if_pos q2]at e
     exact absurd (inv _ _ b1.1 b1.2 ((hL.same (by omega) (by omega)).1 e)).symm ne
   · omega
end
end Go.Proofs.Ytgagenmkpmmpfaa
/- A list's link has one part just if its fraction's numerator is odd, else two; plain mathematics. -/
namespace Go.Proofs.Ytgagenmkpmmpfaa
theorem tE_diff (st:Nat->Bool×Bool):∀ k,tE st k 1≠tE st k 2/\tE st k 1≠tE st k 3/\(0<k->tE st k 2≠tE st k 3)
 |0=>by simp[tE]
 |k+1=>by
  obtain⟨n1,n2⟩:=tE_new st k
  have b:=tE_lt st k
  have b1:=b 1
  have b2:=b 2
  have g:=tG_two (st k).1
  rcases g with g|g
  · have e2:=(tL_nextE st k 2 (by omega) (by omega)).2
    rw[g]at n1
    rw[n1,n2,e2]
    omega
  · have e1:=(tL_nextE st k 1 (by omega) (by omega)).2
    rw[g]at n1
    rw[n1,n2,e1]
    omega
section
variable {st:Nat->Bool×Bool} {n:Nat} {loops:Int} (hm:mayD (lkC n (tV st n)) loops=true)
include hm
theorem parts_of (h0:0<n):(walksM (lkC n (tV st n))).length+tO2 st n=if tL st n 1%2=0 then 2 else 1:=by
 obtain⟨hI,hT⟩:=tN_tel st n
 obtain⟨a,b⟩:=tO2_edges st n
 obtain⟨d1,d2,d3⟩:=tE_diff st n
 have d3:=d3 h0
 have z0:=tE_zero st n
 have z2:=tE_one st n 2 (Or.inl rfl)
 have z3:=tE_one st n 3 (Or.inr rfl)
 have e0:=tN_end st n 0 (by omega)
 have e1:=tN_end st n 1 (by omega)
 have e2:=tN_end st n 2 (by omega)
 have e3:=tN_end st n 3 (by omega)
 have q2:¬ jn (tT st n) 0 1 2=3:=fun z=>by
  have h:=b.1 z
  unfold tM at h
  rw[if_neg (Ne.symm d1),if_neg (Ne.symm d2)]at h
  exact d3 h
 have dm:∀ e,e<4->Dom n e:=fun e he=>by unfold Dom;omega
 by_cases q1:tT st n 0=1
 · have hz : tL st n 1 = 0 := by
     have h1:=tE_lab st n 0 1 (by omega) (by omega) (a.1 q1)
     have h2:=(tL_sum st n).1
     omega
   have no:∀ y,SpT n y->tN st n y≠1:=fun y hy e=>by
    unfold SpT at hy
    rcases(hT y 0 (by unfold Dom;omega) (dm 0 (by omega))).1 (by rw[e,e0,z0]) with r|r
    · omega
    · rw[q1]at r;omega
   have par:∀ x,SpT n x->tA st (tN st n x)%2=1:=fun x hx=>by
    obtain⟨y,y1,y2,-⟩:=sp_back hm _ x hx rfl
    have:=no y y1
    omega
   rw[walks_one hm h0 (fun x y hx hy=>Or.inl (by rw[par x hx,par y hy])),hz]
   unfold tO2
   rw[if_pos q1,if_neg q2]
   rfl
 · have hne:tE st n 0≠tE st n 1:=fun z=>q1 (a.2 z)
   have own:∀ x,x<4->x=0∨x=1∨x=2∨x=3:=fun x hx=>by omega
   have s0:SpT n (tT st n 0)/\tN st n (tT st n 0)=1:=by
    have hd:=hI.sp 0 (dm 0 (by omega))
    have ht:tN st n (tT st n 0)=tN st n 0:=(hT _ _ hd (dm 0 (by omega))).2 (Or.inr rfl)
    have hn:=hI.ne 0 (dm 0 (by omega))
    refine⟨?_,by rw[ht,e0,z0]⟩
    unfold Dom at hd
    rcases Nat.lt_or_ge (tT st n 0) 4 with r|r
    · exfalso
      rcases own _ r with r|r|r|r
      · exact hn r
      · exact q1 r
      · rw[r,e2,e0,z0]at ht;exact z2 ht
      · rw[r,e3,e0,z0]at ht;exact z3 ht
    · exact⟨r,hd⟩
   have s1:SpT n (tT st n 1)/\tN st n (tT st n 1)=tE st n 1:=by
    have hd:=hI.sp 1 (dm 1 (by omega))
    have ht:tN st n (tT st n 1)=tN st n 1:=(hT _ _ hd (dm 1 (by omega))).2 (Or.inr rfl)
    have hn:=hI.ne 1 (dm 1 (by omega))
    refine⟨?_,by rw[ht,e1]⟩
    unfold Dom at hd
    rcases Nat.lt_or_ge (tT st n 1) 4 with r|r
    · exfalso
      rcases own _ r with r|r|r|r
      · rw[r,e0,e1]at ht;exact hne ht
      · exact hn r
      · rw[r,e2,e1]at ht;exact d1 ht.symm
      · rw[r,e3,e1]at ht;exact d2 ht.symm
    · exact⟨r,hd⟩
   have s2:∃ x,SpT n x/\tN st n x=2:=by
    obtain⟨-,-,c2,-⟩:=tN_cor st 0 n h0
    refine⟨_,?_,c2⟩
    have h1:=cor_ge 0 (st 0).2 (3-tG (st 0).1)
    have h2:=cor_lt 0 (st 0).2 (3-tG (st 0).1)
    unfold SpT
    omega
   obtain⟨x2,g1,g2⟩:=s2
   have hO:tO2 st n=0:=by
    unfold tO2
    rw[if_neg q1,if_neg q2]
   rw[hO,Nat.add_zero]
   by_cases hp:tL st n 1%2=0
   · rw[if_pos hp]
     exact walks_two hm hp s0.1 g1 (by rw[s0.2];rfl) (by rw[g2];rfl)
   · rw[if_neg hp]
     have p1:tA st (tN st n (tT st n 1))%2=1:=by rw[s1.2,<-tA_end];omega
     have p0:tA st (tN st n (tT st n 0))%2=0:=by rw[s0.2];rfl
     have same:aSp st n (tT st n 0)=aSp st n (tT st n 1):=by
      unfold aSp
      rw [(arc_cls st n s0.1 s1.1).2 (by
       rw[s0.2,s1.2]
       have h:=((tB_least st n).same (u:=tE st n 0) (v:=tE st n 1) (by have:=tE_lt st n 0;omega) (by have:=tE_lt st n 1;omega)).2 (Con.edge List.mem_cons_self)
       rwa [z0]at h)]
     have link:∀ x y,SpT n x->SpT n y->tA st (tN st n x)%2=0->tA st (tN st n y)%2=1->Con (eds (up0 (nx (lkC n (tV st n)))) (2*n+1)) (aSp st n x) (aSp st n y):=fun x y hx hy ex ey=>by
      have c1:=sp_one hm hx s0.1 (by rw[ex,p0])
      have c2:=sp_one hm s1.1 hy (by rw[p1,ey])
      rw[same]at c1
      exact c1.trans c2
     refine walks_one hm h0 (fun x y hx hy=>?_)
     by_cases r:tA st (tN st n x)%2=tA st (tN st n y)%2
     · exact Or.inl r
     · refine Or.inr ?_
       by_cases r2:tA st (tN st n x)%2=0
       · exact link x y hx hy r2 (by omega)
       · exact(link y x hy hx (by omega) (by omega)).symm
end
theorem link_parts (l:List Int) (ho:l.length%2=1) (hm:mayD (lkC (szTo l l.length) (lkU l)) (lkO l:Nat)=true):(walksM (lkC (szTo l l.length) (lkU l))).length+lkO l=if(frM l).1%2=0 then 2 else 1:=by
 have hp:(frM l).1%2=0↔(frTo l l.length).1%2=0:=by have:=frM_abs l;omega
 have hq:(if(frM l).1%2=0 then 2 else 1)=if(frTo l l.length).1%2=0 then 2 else 1:=by
  by_cases q:(frTo l l.length).1%2=0
  · rw[if_pos q,if_pos (hp.2 q)]
  · rw[if_neg q,if_neg (fun z=>q (hp.1 z))]
 rw[hq,<-(tL_end l ho).1]
 rcases Nat.eq_zero_or_pos (szTo l l.length) with q|q
 · rw[lkO_t,q]
   rfl
 · rw[lkU_tV]at hm ⊢
   rw[lkO_t]
   exact parts_of hm q
end Go.Proofs.Ytgagenmkpmmpfaa

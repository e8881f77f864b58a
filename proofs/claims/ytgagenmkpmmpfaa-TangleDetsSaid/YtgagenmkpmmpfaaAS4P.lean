/- Several texts of the proof, one behind the other. -/
import Derived.Test.YtgagenmkpmmpfaaAS3P
import Derived.Test.YtgagenmkpmmpfaaQ2P
import Derived.Test.YtgagenmkpmmpfaaQ0P
import Derived.Test.YtgagenmkpmmpfaaAD2P
/- Alexander's minor, by overpasses and by arcs: the same but for its sign. -/
namespace Go.Proofs.Ytgagenmkpmmpfaa
theorem roots_map {W:List Nat} (h1:W.getD 1 0=1):∀ t,((List.range' 2 t).filter fun c=>decide (W.getD c 0=c)).map (rootsN W)=List.range' 1 (rootsN W (t+2)-1)/\1<=rootsN W (t+2)
 |0=>by
  have e:rootsN W 2=1:=by
   show 0+(if 1<=0/\W.getD 0 0=0 then 1 else 0)+(if 1<=1/\W.getD 1 0=1 then 1 else 0)=1
   rw[if_neg (by omega),if_pos ⟨Nat.le_refl _,h1⟩]
  show([]:List Nat)=List.range' 1 (rootsN W 2-1)/\1<=rootsN W 2
  rw[e]
  exact⟨rfl,Nat.le_refl _⟩
 |t+1=>by
  obtain⟨i1,i2⟩:=roots_map h1 t
  have e:rootsN W (t+1+2)=rootsN W (t+2)+(if 1<=t+2/\W.getD (t+2) 0=t+2 then 1 else 0):=rfl
  rw[List.range'_concat,List.filter_append,List.map_append,i1,e,Nat.one_mul,Nat.add_comm 2 t]
  by_cases q:W.getD (t+2) 0=t+2
  · rw[if_pos ⟨by omega,q⟩,List.filter_cons_of_pos (by rw[decide_eq_true q]),List.filter_nil,List.map_cons,List.map_nil]
    refine⟨?_,by omega⟩
    rw[show rootsN W (t+2)+1-1=(rootsN W (t+2)-1)+1 by omega,List.range'_concat]
    congr 2
    omega
  · rw[if_neg (fun z=>q z.2),List.filter_cons_of_neg (by rw[decide_eq_false q];decide),List.filter_nil,List.map_nil,List.append_nil,Nat.add_zero]
    exact⟨rfl,i2⟩
theorem rtL_len {M:Nat} {W:List Nat} (hM:1<=M) (h1:W.getD 1 0=1):(rtL M W).length=rootsN W (M+1)-1/\1<=rootsN W (M+1)/\(rtL M W).map (rootsN W)=List.range' 1 (rootsN W (M+1)-1):=by
 obtain⟨i1,i2⟩:=roots_map h1 (M - 1)
 rw[show M-1+2=M+1 by omega]at i1 i2
 refine⟨?_,i2,i1⟩
 have:=congrArg List.length i1
 rw[List.length_map,List.length_range']at this
 exact this
theorem roots_inj {W:List Nat} {u v:Nat} (hu:1<=u) (hv:1<=v) (ru:W.getD u 0=u) (rv:W.getD v 0=v) (h:rootsN W u=rootsN W v):u=v:=by
 have nx:∀ z,1<=z->W.getD z 0=z->rootsN W (z+1)=rootsN W z+1:=fun z h1 h2=>by
  show rootsN W z+(if 1<=z/\W.getD z 0=z then 1 else 0)=_
  rw[if_pos ⟨h1,h2⟩]
 rcases Nat.lt_trichotomy u v with q|q|q
 · have:=rootsN_mono W (u+1) v (by omega)
   rw[nx u hu ru]at this;omega
 · exact q
 · have:=rootsN_mono W (v+1) u (by omega)
   rw[nx v hv rv]at this;omega
section
variable {C:List Cr} {loops:Int} (hm:mayD C loops=true)
include hm
theorem rowW_sd {W:List Nat} {k:Nat} (hk:k<C.length) (q:Nat->Int) (c:Nat):rowW (2*C.length) W (sdR C k q) c=q 0*(if W.getD (aAt C k 0) 0=c then 1 else 0)+q 1*(if W.getD (aAt C k 1) 0=c then 1 else 0)+q 2*(if W.getD (aAt C k 2) 0=c then 1 else 0)+q 3*(if W.getD (aAt C k 3) 0=c then 1 else 0):=by
 have one:∀ s,s<4->∀ x:Int,sumS (2*C.length) (fun i=>if W.getD (i+1) 0=c then x*(if aAt C k s=i+1 then 1 else 0) else 0)=x*(if W.getD (aAt C k s) 0=c then 1 else 0):=fun s hs x=>by
  have r:=en_side hm k s hk hs
  have e:=sumS_at (2*C.length) (aAt C k s) r.2.2.1 r.2.2.2 (fun a=>x*(if W.getD a 0=c then 1 else 0))
  refine Eq.trans (sumS_congr fun i _=>?_) e
  by_cases e1:W.getD (i+1) 0=c
  · rw[if_pos e1]
    by_cases e2:aAt C k s=i+1
    · rw[if_pos e2,if_pos e2.symm,if_pos e1]
    · rw[if_neg e2,if_neg (fun z=>e2 z.symm)];omega
  · rw[if_neg e1]
    by_cases e2:i+1=aAt C k s
    · rw[if_pos e2,if_neg e1];omega
    · rw[if_neg e2]
 rw[<-one 0 (by omega),<-one 1 (by omega),<-one 2 (by omega),<-one 3 (by omega),<-sumS_add,<-sumS_add,<-sumS_add]
 refine sumS_congr fun i _=>?_
 show(if W.getD (i+1) 0=c then sdR C k q (i+1) else 0)=_
 unfold sdR
 by_cases e1:W.getD (i+1) 0=c
 · simp only[if_pos e1]
 · simp only[if_neg e1];rfl
theorem al_arcs (h0:0<C.length) (t:Int):(dZ (rowsA C t) (arcsL (2*C.length) 1)).natAbs=if ovC C=C.length then(dZ ((List.range (C.length-1)).map (alV C t)) (List.range (C.length-1))).natAbs else 0:=by
 have hEi:=ovE_in hm
 have hL:=lowM_least (ovE_lt hm)
 have hl1:(lowM C).getD 1 0=1:=by
  have p:=hL.pos (fun e he=>⟨(hEi e he).1.1,(hEi e he).2.1⟩) (v:=1) (by omega) (Nat.le_refl _)
  have q:=hL.le (v:=1) (by omega)
  omega
 obtain⟨n1,n2,n3⟩:=rtL_len (M:=2*C.length) (W:=lowM C) (by omega) hl1
 have hg:∀ c,c<2*C.length+1->(List.range (2*C.length+1)).getD c 0=c:=fun c hc=>by
  rw[List.getD_eq_getElem?_getD,List.getElem?_range hc];rfl
 have r0:rtL (2*C.length) (List.range (2*C.length+1))=List.range' 2 (2*C.length-1):=by
  unfold rtL
  rw[List.filter_eq_self]
  intro c hc
  rw[List.mem_range'_1]at hc
  rw[hg c (by omega)]
  exact decide_eq_true rfl
 obtain ⟨-, m2, m3⟩ := merge_all (M := 2 * C.length) ((List.range (C.length - 1)).map (rA C t)) (ovE C) [] (List.range (2 * C.length + 1)) (least_nil _) (fun e he => by
  have:=hEi e (by simpa using he);omega)
 have hlen:(ovE C).length=C.length:=by simp[ovE]
 rw[show mers (List.range (2*C.length+1)) (ovE C)=lowM C from rfl,r0,List.length_range',n1,hlen]at m2 m3
 rw[show rootsN (lowM C) (2*C.length+1)=ovC C from rfl]at n1 n2 n3 m2 m3
 have hstart:dZ (((ovE C).map dfR++(List.range (C.length-1)).map (rA C t)).map (rowW (2*C.length) (List.range (2*C.length+1)))) (List.range' 2 (2*C.length-1))=dZ (rowsA C t) (arcsL (2*C.length) 1):=by
  rw[arcsL_one _ (by omega)]
  have e1:dZ (((ovE C).map dfR++(List.range (C.length-1)).map (rA C t)).map (rowW (2*C.length) (List.range (2*C.length+1)))) (List.range' 2 (2*C.length-1))=dZ (((ovE C).map dfR++(List.range (C.length-1)).map (rA C t)).map id) (List.range' 2 (2*C.length-1)):=dZ_ext _ _ _ _ fun r _ c hc=>by
   rw[List.mem_range'_1]at hc
   show sumS (2*C.length) (fun i=>if(List.range (2*C.length+1)).getD (i+1) 0=c then r (i+1) else 0)=r c
   rw[<-sumS_at (2*C.length) c (by omega) (by omega) r]
   exact sumS_congr fun i hi=>by rw[hg (i+1) (by omega)]
  rw[e1,List.map_id]
  unfold rowsA
  have e2:(ovE C).map dfR=(List.range C.length).map (eA C):=by
   refine List.ext_getElem (by simp[ovE]) fun i h1 h2=>?_
   have hi:i<C.length:=by simpa[ovE] using h1
   simp only[ovE,List.map_map,List.getElem_map,List.getElem_range,Function.comp]
   funext a
   rw[eA_df,List.getD_eq_getElem?_getD,List.getElem?_eq_getElem hi]
   rfl
  rw[e2]
 by_cases hmn:ovC C=C.length
 · rw[if_pos hmn,<-hstart,m2 (by omega)]
   have hcls:dZ (((List.range (C.length-1)).map (rA C t)).map (rowW (2*C.length) (lowM C))) (rtL (2*C.length) (lowM C))=dZ ((List.range (C.length-1)).map (alV C t)) (List.range' 1 (C.length-1)):=by
    rw[show C.length-1=ovC C-1 by omega,<-n3,dZ_map,List.map_map,List.map_map]
    refine dZ_ext _ _ _ _ fun k hk c hc=>?_
    have hk:=List.mem_range.1 hk
    obtain⟨c1,c2,c3⟩:=rtL_mem.1 hc
    show rowW (2*C.length) (lowM C) (sdR C k (qR t (C.getD k Cr.none))) c=alV C t k (rootsN (lowM C) c)
    rw[rowW_sd hm (by omega),alV_at]
    have same:∀ s,s<4->(if(lowM C).getD (aAt C k s) 0=c then(1:Int) else 0)=if rootsN (lowM C) c=ovM C (aAt C k s) then 1 else 0:=fun s hs=>by
     have r:=en_side hm k s (by omega) hs
     have rr:=hL.root (v:=aAt C k s) (by omega)
     have rp:=hL.pos (fun e he=>⟨(hEi e he).1.1,(hEi e he).2.1⟩) (v:=aAt C k s) (by omega) r.2.2.1
     by_cases e:(lowM C).getD (aAt C k s) 0=c
     · rw[if_pos e,if_pos (by unfold ovM;rw[e])]
     · rw[if_neg e,if_neg (fun z=>e (roots_inj rp (by omega) rr c3 (by unfold ovM at z;exact z.symm)))]
    rw[same 0 (by omega),same 1 (by omega),same 2 (by omega),show qR t (C.getD k Cr.none) 3=0 from rfl]
    omega
   rw[hcls]
   by_cases hn1:C.length=1
   · rw[hn1];rfl
   · obtain⟨p,hp⟩:∃ p,C.length - 1=p+1:=⟨C.length - 2,by omega⟩
     have hRw:∀ r∈(List.range (C.length-1)).map (alV C t),∃ k,k<C.length-1/\r=alV C t k:=fun r hr=>by
      obtain⟨k,hk,rfl⟩:=List.mem_map.1 hr
      exact⟨k,List.mem_range.1 hk,rfl⟩
     generalize (List.range (C.length-1)).map (alV C t)=Rw at hRw
     rw[hp]
     have pe1:(List.range' 1 (p+1)).Perm ((p+1)::List.range' 1 p):=by
      rw[List.range'_concat]
      refine List.perm_append_comm.trans ?_
      rw[Nat.one_mul,Nat.add_comm 1 p]
      exact List.Perm.refl _
     have pe2:List.range (p+1)=0::List.range' 1 p:=by rw[List.range_eq_range',List.range'_succ]
     rw[dZ_perm _ pe1,pe2]
     refine dZ_any fun r hr=>?_
     obtain⟨k,hk,rfl⟩:=hRw r hr
     -- all places of a row come to nought
     have tot:sumS (ovC C) (alV C t k)=0:=by
      have one:∀ s,s<4->∀ x:Int,sumS (ovC C) (fun j=>x*(if j=ovM C (aAt C k s) then 1 else 0))=x:=fun s hs x=>by
       have r:=en_side hm k s (by omega) hs
       have ho:ovM C (aAt C k s)<ovC C:=ovM_lt hm _ (by omega) (by omega)
       rw[sumS_mulL]
       have e:∀ M,ovM C (aAt C k s)<M->sumS M (fun j=>if j=ovM C (aAt C k s) then(1:Int) else 0)=1:=fun M=>by
        induction M with
        |zero=>intro h;omega
        |succ M ih=>
         intro h
         show sumS M _+(if M=ovM C (aAt C k s) then(1:Int) else 0)=1
         by_cases q:M=ovM C (aAt C k s)
         · rw[if_pos q,sumS_congr (g:=fun _=>0) fun i hi=>if_neg (by omega),sumS_zero];rfl
         · rw[if_neg q,ih (by omega)];rfl
       rw[e _ ho];omega
      rw[sumS_congr fun j _=>alV_at C t k j,sumS_add,sumS_add,one 0 (by omega),one 1 (by omega),one 2 (by omega)]
      have:=qR_sum t (C.getD k Cr.none)
      rw[show qR t (C.getD k Cr.none) 3=0 from rfl]at this
      omega
     have ec:ovC C=p+1+1:=by omega
     rw[ec]at tot
     rw[range_sum]
     have sp:∀ M (f:Nat->Int),sumS (M+1) f=f 0+sumS M (fun i=>f (i+1)):=fun M f=>by
      induction M with
      |zero=>show 0+f 0=f 0+0;omega
      |succ M ih=>show sumS (M+1) f+f (M+1)=f 0+(sumS M (fun i=>f (i+1))+f (M+1));rw[ih];omega
     rw[sp]at tot
     have:sumS (p+1) (fun i=>alV C t k (i+1))=sumS p (fun i=>alV C t k (i+1))+alV C t k (p+1):=rfl
     omega
 · rw[if_neg hmn,<-hstart,m3 (by have:=ovC_ge C;omega)]
   rfl
end
end Go.Proofs.Ytgagenmkpmmpfaa
/- Alexander's determinant: the value at -1 as a determinant of whole numbers; a prime colours just if it divides it. -/
namespace Go.Proofs.Ytgagenmkpmmpfaa
open Poly
def sgE (e:Int):Int:=if e%2=0 then 1 else -1
theorem sgE_two (e:Int):sgE e=1∨sgE e = -1:=by unfold sgE;split<;>omega
theorem sgE_add (a b:Int):sgE (a+b)=sgE a*sgE b:=by
 unfold sgE
 by_cases h1:a%2=0<;>by_cases h2:b%2=0
 · rw[if_pos h1,if_pos h2,if_pos (by omega)];rfl
 · rw[if_pos h1,if_neg h2,if_neg (by omega)];rfl
 · rw[if_neg h1,if_pos h2,if_neg (by omega)];rfl
 · rw[if_neg h1,if_neg h2,if_pos (by omega)];rfl
def vlM:List (Int×Int)->Int
 |[]=>0
 |t::l=>sgE t.1*t.2+vlM l
theorem vlM_app (a b:List (Int×Int)):vlM (a++b)=vlM a+vlM b:=by
 induction a with
 |nil=>simp[vlM]
 |cons t a ih=>simp only[List.cons_append,vlM,ih];omega
theorem ev_at (l:List (Int×Int)):∀ k,k<=l.length->atTo l (-1) k=vlM (l.take k)
 |0,_=>rfl
 |k+1,h=>by
  show atTo l (-1) k+atV (-1) _ _=_
  rw[ev_at l k (by omega),List.take_succ_eq_append_getElem (by omega),vlM_app]
  have e:l.getD k (0,0)=l[k]:=by rw[List.getD_eq_getElem?_getD,List.getElem?_eq_getElem (by omega)];rfl
  rw[e]
  unfold atV
  show vlM (l.take k)+_=vlM (l.take k)+(sgE l[k].1*l[k].2+0)
  unfold sgE
  split<;>omega
theorem ev_all (l:List (Int×Int)):atTo l (-1) l.length=vlM l:=by rw[ev_at l l.length (Nat.le_refl _),List.take_length]
theorem coef_sum (K:Nat):∀ L:List (Int×Int),(∀ t∈L,-(K:Int)<=t.1/\t.1<=K)->vlM L=sumS (2*K+1) (fun i=>sgE ((i:Int)-K)*coefL L ((i:Int)-K))
 |[],_=>by rw[sumS_congr (g:=fun _=>0) fun i _=>by show _*(0:Int)=0;simp,sumS_zero];rfl
 |t::L,h=>by
  have ht:=h t (.head _)
  show sgE t.1*t.2+vlM L=_
  rw[coef_sum K L (fun u hu=>h u (.tail _ hu))]
  have e:∀ n:Nat,sumS n (fun i=>sgE ((i:Int)-K)*(if t.1=(i:Int)-K then t.2 else 0))=if t.1+K<n then sgE t.1*t.2 else 0:=fun n=>by
   induction n with
   |zero=>rw[if_neg (by omega)];rfl
   |succ n ih=>
    show sumS n _+sgE ((n:Int)-K)*(if t.1=(n:Int)-K then t.2 else 0)=_
    rw[ih]
    by_cases q:t.1=(n:Int)-K
    · rw[if_neg (by omega),if_pos q,if_pos (by omega),q];omega
    · rw[if_neg q,Int.mul_zero,Int.add_zero]
      by_cases g:t.1+K<(n:Int)
      · rw[if_pos g,if_pos (by omega)]
      · rw[if_neg g,if_neg (by omega)]
  have e1:=e (2*K+1)
  rw[if_pos (by omega)]at e1
  rw[<-e1,<-sumS_add]
  refine sumS_congr fun i _=>?_
  show _=sgE ((i:Int)-K)*((if t.1=(i:Int)-K then t.2 else 0)+coefL L ((i:Int)-K))
  rw[Int.mul_add]
theorem exp_bd (L:List (Int×Int)):∃ K:Nat,∀ t∈L,-(K:Int)<=t.1/\t.1<=K:=by
 induction L with
 |nil=>exact⟨0,fun t ht=>by cases ht⟩
 |cons u L ih=>
  obtain⟨K,h⟩:=ih
  refine⟨K+u.1.natAbs,fun t ht=>?_⟩
  cases ht with
  |head=>omega
  |tail _ ht=>have:=h t ht;omega
theorem ev_one {L M:List (Int×Int)} (h:∀ y,coefL L y=coefL M y):vlM L=vlM M:=by
 obtain⟨K1,h1⟩:=exp_bd L
 obtain⟨K2,h2⟩:=exp_bd M
 rw[coef_sum (K1+K2) L (fun t ht=>by have:=h1 t ht;omega),coef_sum (K1+K2) M (fun t ht=>by have:=h2 t ht;omega)]
 exact sumS_congr fun i _=>by rw[h]
def EvF (f:Int->Int) (v:Int):Prop:=∃ L,(∀ y,coefL L y=f y)/\vlM L=v
theorem EvF.canon {f:Int->Int} {v:Int} {l:List (Int×Int)} (h:EvF f v) (hl:Canon l f):vlM l=v:=by
 obtain⟨L,h1,h2⟩:=h
 rw[<-h2]
 exact ev_one fun y=>by rw[canon_coefB hl,h1]
theorem coef_map (e c:Int) (L:List (Int×Int)) (y:Int):coefL (L.map fun u=>(u.1+e,c*u.2)) y=c*coefL L (y-e):=by
 induction L with
 |nil=>simp[coefL]
 |cons u L ih=>
  simp only[List.map_cons,coefL,ih,Int.mul_add]
  by_cases q:u.1+e=y
  · rw[if_pos q,if_pos (by omega)]
  · rw[if_neg q,if_neg (by omega)];omega
theorem ev_map (e c:Int) (L:List (Int×Int)):vlM (L.map fun u=>(u.1+e,c*u.2))=sgE e*c*vlM L:=by
 induction L with
 |nil=>simp[vlM]
 |cons u L ih=>
  simp only[List.map_cons,vlM,ih,sgE_add]
  grind
theorem EvF.sub {f g:Int->Int} {v u:Int} (h:EvF f v) (h':EvF g u):EvF (fun y=>f y-g y) (v-u):=by
 obtain⟨L,h1,h2⟩:=h
 obtain⟨M,h3,h4⟩:=h'
 refine⟨L++M.map (fun t=>(t.1+0,-1*t.2)),fun y=>?_,?_⟩
 · rw[coefL_append,coef_map,h1,h3,show y-0=y by omega]
   show f y + -1*g y=f y-g y
   omega
 · rw[vlM_app,ev_map,h2,h4]
   show v+1 * -1*u=v-u
   omega
theorem EvF.prod {f:Int->Int} {v:Int} (h:EvF f v) (a:List (Int×Int)):EvF (prodL a f) (vlM a*v):=by
 obtain⟨L,h1,h2⟩:=h
 induction a with
 |nil=>exact⟨[],fun _=>rfl,by simp[vlM]⟩
 |cons t a ih=>
  obtain⟨M,h3,h4⟩:=ih
  refine⟨L.map (fun u=>(u.1+t.1,t.2*u.2))++M,fun y=>?_,?_⟩
  · rw[coefL_append,coef_map,h1,h3];rfl
  · rw[vlM_app,ev_map,h2,h4]
    show sgE t.1*t.2*v+vlM a*v=(sgE t.1*t.2+vlM a)*v
    grind
theorem EvF.row (r:Nat->List (Int×Int)):∀ (cs:List Nat) (h:List Nat->Int->Int) (hv:List Nat->Int),(∀ rest,EvF (h rest) (hv rest))->EvF (Poly.rowF r cs h) (rowZ (fun c=>vlM (r c)) cs hv)
 |[],_,_,_=>⟨[],fun _=>rfl,rfl⟩
 |c::cs,_,_,e=>((e cs).prod (r c)).sub (EvF.row r cs _ _ fun rest=>e (c::rest))
theorem EvF.det:∀ (rows:List (Nat->List (Int×Int))) (cs:List Nat),EvF (detF rows cs) (detZ (rows.map fun r c=>vlM (r c)) cs)
 |[],_=>⟨[(0,1)],fun y=>by show(if(0:Int)=y then(1:Int) else 0)+0=(if y=0 then 1 else 0);by_cases q:y=0<;>simp[q,eq_comm],rfl⟩
 |r::rows,cs=>EvF.row r cs _ _ fun rest=>EvF.det rows rest
theorem rowZ_congr (a b:Nat->Int):∀ (cs:List Nat) (h h':List Nat->Int),(∀ c∈cs,a c=b c)->(∀ rest,(∀ c∈rest,c∈cs)->h rest=h' rest)->rowZ a cs h=rowZ b cs h'
 |[],_,_,_,_=>rfl
 |c::cs,h,h',e,e2=>by
  show a c*h cs-rowZ a cs _=b c*h' cs-rowZ b cs _
  rw [e c (.head _), e2 cs (fun x hx => .tail _ hx), rowZ_congr a b cs _ (fun rest => h' (c :: rest)) (fun x hx => e x (.tail _ hx)) (fun rest hr => e2 (c :: rest) (fun x hx => by
   cases hx with
   |head=>exact .head _
   |tail _ hx=>exact .tail _ (hr x hx)))]
theorem detZ_congr {α:Type} (f g:α->Nat->Int):∀ (R:List α) (cs:List Nat),(∀ i∈R,∀ c∈cs,f i c=g i c)->detZ (R.map f) cs=detZ (R.map g) cs
 |[],_,_=>rfl
 |i::R,cs,h=>rowZ_congr (f i) (g i) cs _ _ (fun c hc=>h i (.head _) c hc) (fun rest hr=>detZ_congr f g R rest fun j hj c hc=>h j (.tail _ hj) c (hr c hc))
theorem rowZ_neg (a:Nat->Int) (cs:List Nat) (h:List Nat->Int):rowZ (fun c => -a c) cs h = -rowZ a cs h:=by
 induction cs generalizing h with
 |nil=>rfl
 |cons c cs ih=>
  simp only[rowZ,ih]
  grind
theorem detZ_neg {α:Type} (f:α->Nat->Int):∀ (R:List α) (cs:List Nat),detZ (R.map fun i c => -f i c) cs=sgZ R.length*detZ (R.map f) cs
 |[],_=>rfl
 |i::R,cs=>by
  show rowZ (fun c => -f i c) cs (detZ (R.map fun i c => -f i c)) = -sgZ R.length*rowZ (f i) cs (detZ (R.map f))
  have e:detZ (R.map fun i c => -f i c)=fun rest=>sgZ R.length*detZ (R.map f) rest:=funext fun rest=>detZ_neg f R rest
  rw[e,rowZ_neg,rowZ_mul]
  grind
theorem ev_aPol (x y:Int):vlM (aPol x y)=x-y:=by
 unfold aPol
 by_cases hx:x=0<;>by_cases hy:y=0<;>simp[hx,hy,vlM,sgE]<;>omega
theorem al_ev (C:List Cr) (k j:Nat):(alF C k j).1-(alF C k j).2 = -eqR C k j:=by
 unfold alF eqR eqF Go.Proofs.Ytgagenmkpmmpfaa.rowF addFa zeroF outC' inC
 cases (C.getD k Cr.none).plus
 · simp only[Bool.false_eq_true,if_false]
   repeat' split
   all_goals(simp only;omega)
 · simp only[if_true]
   repeat' split
   all_goals(simp only;omega)
theorem alT_ev {C:List Cr} {N:Nat} {l:List (Int×Int)} (h:Canon l (detOf (alT C N))):vlM l=sgZ N*detZ ((List.range N).map (eqR C)) (List.range N):=by
 have e:=(EvF.det (rowsOf (alT C N)) (List.range (alT C N).length)).canon h
 rw[e,alT_len]
 have e2:(rowsOf (alT C N)).map (fun r c=>vlM (r c))=(List.range N).map fun i c=>vlM ((alR C N i).getD c []):=by
  unfold rowsOf alT
  rw[List.map_map,List.map_map]
  rfl
 rw [e2, detZ_congr (fun i c => vlM ((alR C N i).getD c [])) (fun i c => -eqR C i c) (List.range N) (List.range N) (fun i _ c hc => by
  rw[alR_at C N i c (List.mem_range.1 hc),ev_aPol,al_ev]),detZ_neg,List.length_range]
theorem unit_ev (l:List (Int×Int)):vlM (unitL l)=vlM l∨vlM (unitL l) = -vlM l:=by
 have e:∀ (e0:Int) (b:Prop) [Decidable b] (m:List (Int×Int)),vlM (m.map fun t=>(t.1-e0,if b then -t.2 else t.2))=(if b then -1 else 1)*sgE e0*vlM m:=fun e0 b _ m=>by
  have hs:∀ x:Int,sgE (x-e0)=sgE x*sgE e0:=fun x=>by
   have h1:=sgE_add (x-e0) e0
   rw[show x-e0+e0=x by omega]at h1
   rw[h1]
   rcases sgE_two e0 with q|q<;>rw[q]<;>omega
  induction m with
  |nil=>simp[vlM]
  |cons t m ih=>
   simp only[List.map_cons,vlM,ih,hs]
   by_cases q:b
   · simp only[if_pos q];grind
   · simp only[if_neg q];grind
 unfold unitL
 rw[e]
 rcases sgE_two (l.getD 0 (0,0)).1 with q|q<;>rw[q]<;>split<;>omega
end Go.Proofs.Ytgagenmkpmmpfaa

/- Several texts of the proof, one behind the other. -/
import Derived.Test.YtiliihlkpknhdaaDoorCB9P
import Derived.Test.YtiliihlkpknhdaaDoorPDetP
import Derived.Test.YtiliihlkpknhdaaDoorO0P
import Derived.Deep.Cut
/- Braids closed: Alexander's minor is, but for powers of t, that of the strands' values. -/
namespace Go.Proofs.YtiliihlkpknhdaaDoor
theorem ixP_more (n j:Nat):ixP n (j+1)=ixP n j++(List.range' 1 n).map fun x=>(j,x):=by
 unfold ixP
 rw[List.range_succ,List.flatMap_append]
 simp
theorem ixP_len (n:Nat):∀ m,(ixP n m).length=n*m
 |0=>rfl
 |m+1=>by rw[ixP_more,List.length_append,ixP_len n m,List.length_map,List.length_range',Nat.mul_succ]
def uE (l:List Int) (k x:Nat):Nat:=if 0<l.getD k 0 then 0 else if x=(l.getD k 0).natAbs then 0 else if x=(l.getD k 0).natAbs+1 then 1 else 0
theorem uR_abs (l:List Int) (t k x:Nat):(uR l t k x).natAbs=t ^ uE l k x:=by
 unfold uR uE
 split
 · rfl
 · split
   · rfl
   · split
     · rw[Int.natAbs_neg,Int.natAbs_natCast,Nat.pow_one]
     · rfl
section
variable {n:Nat} {l:List Int} (hw:∀ j,j<l.length->1<=(l.getD j 0).natAbs/\(l.getD j 0).natAbs<n)
include hw
theorem low_rows:∀ j,j+1<=l.length->∃ E:Nat,∀ t:Nat,(dZ ((ixP n j).map (rwP l n (t:Nat))) (List.range' (n+1) (n*j))).natAbs=t ^ E
 |0,_=>⟨0,fun t=>rfl⟩
 |j+1,hj=>by
  obtain⟨E,hE⟩:=low_rows j (by omega)
  refine⟨E+((List.range' 1 n).map (uE l j)).sum,fun t=>?_⟩
  have far:∀ x y k i,1<=x->x<=n->1<=y->y<=n->i<l.length->k%l.length≠i->dlP (ptN n l.length x k) (i*n+y)=0:=fun x y k i a b c d hi e=>by
   unfold dlP
   refine if_neg fun z=>e ?_
   obtain⟨-,p2⟩:=pt_parts (n:=n) (m:=l.length) (k:=k) a b
   obtain⟨-,q2⟩:=pt_parts (n:=n) (m:=l.length) (k:=i) c d
   rw[z]at p2
   have e2:ptN n l.length y i=i*n+y:=by unfold ptN;rw[Nat.mod_eq_of_lt hi]
   rw[e2,Nat.mod_eq_of_lt hi]at q2
   omega
  have hc:List.range' (n+1) (n*(j+1))=List.range' (n+1) (n*j)++(List.range' 1 n).map fun x=>(j+1)*n+x:=by
   rw[show n*(j+1)=n*j+n from Nat.mul_succ n j,<-List.range'_append_1]
   congr 1
   rw[List.map_add_range']
   congr 1
   rw[Nat.succ_mul,Nat.mul_comm]
   omega
  rw [ixP_more, List.map_append, hc, dZ_block _ _ _ _ (by rw [List.length_map, ixP_len, List.length_range']) (fun r hr c hcc => by
   obtain⟨e,he,rfl⟩:=List.mem_map.1 hr
   obtain⟨e1,e2,e3⟩:=ixP_mem.1 he
   obtain⟨y,hy,rfl⟩:=List.mem_map.1 hcc
   have hy:=List.mem_range'_1.1 hy
   have z:∀ x k,1<=x->x<=n->k<=j->dlP (ptN n l.length x k) ((j+1)*n+y)=0:=fun x k a b hk=>far x y k (j+1) a b (by omega) (by omega) (by omega) (by rw[Nat.mod_eq_of_lt (by omega)];omega)
   obtain⟨a,b,d,q1,q2,q3⟩:=in_coef (n:=n) (t:Int) (hw e.1 (by omega)) e2 e3
   unfold rwP
   rw[q1,z _ _ e2 e3 (by omega),z _ _ e2 e3 (by omega)]
   have z1:b*dlP (ptN n l.length (e.2+1) e.1) ((j+1)*n+y)=0:=by
    rcases q2 with q|q
    · rw[q];omega
    · rw[z _ _ (by omega) q (by omega)];omega
   have z2:d*dlP (ptN n l.length (e.2-1) e.1) ((j+1)*n+y)=0:=by
    rcases q3 with q|q
    · rw[q];omega
    · rw[z _ _ q (by omega) (by omega)];omega
   rw[z1,z2];omega),Int.natAbs_mul,hE,List.map_map]
  have at_:∀ x y,1<=x->x<=n->1<=y->y<=n->rwP l n (t:Nat) (j,x) ((j+1)*n+y)=if x=y then uR l (t:Nat) j x else 0:=fun x y a1 a2 b1 b2=>by
   obtain⟨a,b,d,q1,q2,q3⟩:=in_coef (n:=n) (t:Int) (hw j (by omega)) a1 a2
   have z:∀ x,1<=x->x<=n->dlP (ptN n l.length x j) ((j+1)*n+y)=0:=fun x a b=>far x y j (j+1) a b b1 b2 (by omega) (by rw[Nat.mod_eq_of_lt (by omega)];omega)
   have z1:b*dlP (ptN n l.length (x+1) j) ((j+1)*n+y)=0:=by
    rcases q2 with q|q
    · rw[q];omega
    · rw[z _ (by omega) q];omega
   have z2:d*dlP (ptN n l.length (x-1) j) ((j+1)*n+y)=0:=by
    rcases q3 with q|q
    · rw[q];omega
    · rw[z _ q (by omega)];omega
   have e2:ptN n l.length x (j+1)=(j+1)*n+x:=by unfold ptN;rw[Nat.mod_eq_of_lt (by omega)]
   show uR l (t:Nat) j x*dlP (ptN n l.length x (j+1)) ((j+1)*n+y)+inB l (t:Nat) j x (fun z=>dlP (ptN n l.length z j) ((j+1)*n+y))=_
   rw[q1,z _ a1 a2,z1,z2,e2]
   unfold dlP
   by_cases q:x=y
   · rw[if_pos q,if_pos (by rw[q])];omega
   · rw[if_neg q,if_neg (by omega)];omega
  have hd := dZ_diag (fun x => rwP l n (t : Nat) (j, x)) (fun x => (j + 1) * n + x) (fun x => uR l (t : Nat) j x) (List.range' 1 n) (fun x hx => by
   have:=List.mem_range'_1.1 hx
   rw [at_ x x (by omega) (by omega) (by omega) (by omega), if_pos rfl]) (List.Pairwise.imp_of_mem (fun {x y} hx hy hne => by
   have:=List.mem_range'_1.1 hx
   have:=List.mem_range'_1.1 hy
   rw[at_ x y (by omega) (by omega) (by omega) (by omega),if_neg hne]) (List.nodup_range' (s:=1) (n:=n)))
  rw[show((rwP l n (t:Nat)) ∘ fun x=>(j,x))=fun x=>rwP l n (t:Nat) (j,x) from rfl,hd,pow_fold t _ (uE l j) _ fun x _=>uR_abs l t j x,Nat.pow_add]
theorem last_rows (h0:0<l.length) (hn:2<=n):Pq (fun t=>(dZ (((ixP n l.length).erase (l.length-1,n)).map (rwP l n (t:Nat))) (arcsL (n*l.length) n)).natAbs) (fun t=>(dZ ((List.range' 1 (n-1)).map (dT l (t:Nat))) (List.range' 1 (n-1))).natAbs):=by
 obtain⟨m,hm⟩:∃ m,l.length=m+1:=⟨l.length - 1,by omega⟩
 obtain⟨E,hE⟩:=low_rows hw (n:=n) (l:=l) m (by omega)
 have hM:n*l.length=n+n*m:=by rw[hm,Nat.mul_succ,Nat.add_comm]
 refine Pq.pow (nN l l.length*(n-1)) (E+((List.range' 1 (n-1)).map (uE l m)).sum) fun t ht=>?_
 have pr:((ixP n l.length).erase (l.length-1,n)).Perm (ixP n m++(List.range' 1 (n-1)).map fun x=>(m,x)):=by
  rw[hm,ixP_more,show m+1-1=m from rfl]
  have e:List.range' 1 n=List.range' 1 (n-1)++[n]:=by
   obtain⟨p,rfl⟩:∃ p,n=p+1:=⟨n - 1,by omega⟩
   rw[List.range'_concat,Nat.add_sub_cancel]
   congr 2
   omega
  rw[e,List.map_append,<-List.append_assoc]
  have p1:(ixP n m++(List.range' 1 (n-1)).map (fun x=>(m,x))++[n].map fun x=>(m,x)).Perm ((m,n)::(ixP n m++(List.range' 1 (n-1)).map fun x=>(m,x))):=List.perm_append_comm
  have:=p1.erase (m,n)
  rwa [List.erase_cons_head]at this
 have pc:(arcsL (n*l.length) n).Perm (List.range' 1 (n-1)++List.range' (n+1) (n*l.length-n)):=by
  rw [List.perm_ext_iff_of_nodup (arcsL_nodup _ _) (List.nodup_append.2 ⟨List.nodup_range', List.nodup_range', fun a ha b hb e => by
   have:=List.mem_range'_1.1 ha
   have:=List.mem_range'_1.1 hb
   omega⟩)]
  intro c
  rw[arcsL_mem,List.mem_append,List.mem_range'_1,List.mem_range'_1]
  omega
 have hI:(ixP n m++(List.range' 1 (n-1)).map fun x=>(m,x))≠[]:=fun q=>by
  have:=congrArg List.length q
  rw[List.length_append,List.length_map,List.length_range']at this
  simp at this
  omega
 rw[dZ_rperm (pr.map _),dZ_perm _ pc]
 have st:=fE_step (n:=n) (l:=l) (t:Nat) _ hI (n-1) (by omega)
 rw[Int.natAbs_natCast,<-Nat.pow_mul]at st
 rw[<-st,dZ_perm _ List.perm_append_comm,hM,Nat.add_sub_cancel_left,List.map_append,List.map_map]
 rw [dZ_block _ _ _ _ (by rw [List.length_map, ixP_len, List.length_range']) (fun r hr c hc => by
  obtain⟨e,he,rfl⟩:=List.mem_map.1 hr
  obtain⟨e1,e2,e3⟩:=ixP_mem.1 he
  have hc:=List.mem_range'_1.1 hc
  rw[fE_at hw (t:Nat) (ixP_mem.2 ⟨by omega,e2,e3⟩) (by omega) (by omega) (by omega),if_pos (by omega)]),Int.natAbs_mul]
 have f1:dZ ((ixP n m).map (fE l n (t:Nat) (n-1))) (List.range' (n+1) (n*m))=dZ ((ixP n m).map (rwP l n (t:Nat))) (List.range' (n+1) (n*m)):=dZ_ext _ _ _ _ fun e _ c hc=>by
  have hc:=List.mem_range'_1.1 hc
  unfold fE
  rw[if_neg (by omega)]
 have f2:dZ ((List.range' 1 (n-1)).map ((fE l n (t:Nat) (n-1)) ∘ fun x=>(m,x))) (List.range' 1 (n-1))=dZ ((List.range' 1 (n-1)).map fun x c => -uR l (t:Nat) m x*dT l (t:Nat) x c) (List.range' 1 (n-1)):=dZ_ext _ _ _ _ fun x hx c hc=>by
  have hx:=List.mem_range'_1.1 hx
  have hc:=List.mem_range'_1.1 hc
  show fE l n (t:Nat) (n-1) (m,x) c=_
  rw[fE_at hw (t:Nat) (ixP_mem.2 ⟨by simp only;omega,by simp only;omega,by simp only;omega⟩) (by omega) (by omega) (by omega),if_neg (by simp only;omega)]
 rw[f1,f2,hE,dZ_times (dT l (t:Nat)) (fun x => -uR l (t:Nat) m x),pow_fold t _ (uE l m) _ fun x _=>by rw[Int.natAbs_neg];exact uR_abs l t m x,Nat.pow_add,Nat.mul_assoc]
end
theorem dT_null {n:Nat} {l:List Int} (hw:∀ j,j<l.length->1<=(l.getD j 0).natAbs/\(l.getD j 0).natAbs<n) (h0:0<l.length) (hn:2<=n) {x:Nat} (h1:1<=x) (h2:x<=n) (hv:∀ k,k<l.length->¬ Tch l x k) {t:Nat} (ht:1<=t):dZ ((List.range' 1 (n-1)).map (dT l (t:Nat))) (List.range' 1 (n-1))=0:=by
 have hx:=x_rng hw (show l.length-1<l.length by omega)
 obtain⟨e,f,hp⟩:=(row_trade hw (a:=(l.length - 1,n)) (b:=(l.length - 1,xR l (l.length - 1))) (ixP_mem.2 ⟨by simp only;omega,by simp only;omega,Nat.le_refl _⟩) (ixP_mem.2 ⟨by simp only;omega,hx.2.1,hx.2.2⟩) (arcsL (n*l.length) n)).symm.trans (last_rows hw h0 hn)
 have this:t ^ e*(dZ (((ixP n l.length).erase (l.length-1,xR l (l.length-1))).map (rwP l n (t:Nat))) (arcsL (n*l.length) n)).natAbs=t ^ f*(dZ ((List.range' 1 (n-1)).map (dT l (t:Nat))) (List.range' 1 (n-1))).natAbs:=hp t ht
 rw[void_null (n:=n) (t:Nat) h0 h1 h2 hv (a:=(l.length-1,xR l (l.length-1))) (fun z=>hv (l.length-1) (by omega) ((tch_two l _ _).2 (Or.inr z.symm)))]at this
 have hz:t ^ f*(dZ ((List.range' 1 (n-1)).map (dT l (t:Nat))) (List.range' 1 (n-1))).natAbs=0:=by rw[<-this];rfl
 have hp2:0<t ^ f:=Nat.pow_pos (by omega)
 rcases Nat.mul_eq_zero.1 hz with q|q
 · omega
 · exact Int.natAbs_eq_zero.1 q
theorem alex_braid {C:List Cr} {A:Nat->Nat->Nat} {n:Nat} {l:List Int} (h:Clo l n C A) {loops:Int} (hm:mayD C loops=true) (h0:0<l.length) (hn:2<=n) (hu:∀ x,1<=x->x<=n->∃ k,k<l.length/\Tch l x k):Pq (fun t=>(dZ (rowsA C (t:Nat)) (arcsL (2*C.length) 1)).natAbs) (fun t=>(dZ ((List.range' 1 (n-1)).map (dT l (t:Nat))) (List.range' 1 (n-1))).natAbs):=by
 have hw:=h.lets
 have hx:=x_rng hw (show l.length-1<l.length by omega)
 have hM:n<=n*l.length:=Nat.le_mul_of_pos_right n h0
 refine(Pq.rfl' fun t _=>?_).trans ((row_trade hw (a:=(l.length-1,xR l (l.length-1))) (b:=(l.length-1,n)) (ixP_mem.2 ⟨by simp only;omega,hx.2.1,hx.2.2⟩) (ixP_mem.2 ⟨by simp only;omega,by simp only;omega,Nat.le_refl _⟩) (arcsL (n*l.length) n)).trans (last_rows hw h0 hn))
 rw[<-merge_arcs h hm h0 hu (t:Nat)]
 refine arcs_alike (fun r hr=>?_) (Nat.le_refl _) (by omega) (by omega) hM
 obtain⟨e,he,rfl⟩:=List.mem_map.1 hr
 exact row_sum hw (t:Nat) (List.mem_of_mem_erase he)
end Go.Proofs.YtiliihlkpknhdaaDoor
/- Burau's table of a braid: its values are the strands'; its determinant tells Alexander's polynomial. -/
namespace Go.Proofs.YtiliihlkpknhdaaDoor
open Poly
theorem prod_shift (q k:Int) (a:List (Int×Int)) (f g:Int->Int) (h:∀ y,f y=g (y-k)) (y:Int):prodL (a.map fun u=>(u.1+q,u.2)) f y=prodL a g (y-(q+k)):=by
 induction a with
 |nil=>rfl
 |cons u a ih=>
  show u.2*f (y-(u.1+q))+prodL _ f y=u.2*g (y-(q+k)-u.1)+prodL a g (y-(q+k))
  rw[ih,h,show y-(u.1+q)-k=y-(q+k)-u.1 by omega]
theorem row_shift (q k:Int) (r:Nat->List (Int×Int)):∀ (cs:List Nat) (h g:List Nat->Int->Int),(∀ rest y,h rest y=g rest (y-k))->∀ y,Poly.rowF (fun c=>(r c).map fun u=>(u.1+q,u.2)) cs h y=Poly.rowF r cs g (y-(q+k))
 |[],_,_,_,_=>rfl
 |c::cs,h,g,e,y=>by
  show prodL _ (h cs) y-Poly.rowF _ cs _ y=prodL (r c) (g cs) (y-(q+k))-Poly.rowF r cs _ (y-(q+k))
  rw[prod_shift q k (r c) (h cs) (g cs) (e cs),row_shift q k r cs (fun rest=>h (c::rest)) (fun rest=>g (c::rest)) (fun rest y=>e (c::rest) y)]
theorem det_shift (q:Int):∀ (R:List (Nat->List (Int×Int))) (cs:List Nat) (y:Int),detF (R.map fun r c=>(r c).map fun u=>(u.1+q,u.2)) cs y=detF R cs (y-q*R.length)
 |[],cs,y=>by
  show oneF y=oneF (y-q*0)
  rw[Int.mul_zero,Int.sub_zero]
 |r::R,cs,y=>by
  have e:=row_shift q (q*R.length) r cs (detF (R.map fun r c=>(r c).map fun u=>(u.1+q,u.2))) (detF R) (fun rest y=>det_shift q R rest y) y
  show Poly.rowF (fun c=>(r c).map fun u=>(u.1+q,u.2)) cs (detF (R.map fun r c=>(r c).map fun u=>(u.1+q,u.2))) y=Poly.rowF r cs (detF R) (y-q*((R.length+1:Nat):Int))
  rw[e,show q*((R.length+1:Nat):Int)=q+q*R.length by rw[Int.natCast_add,Int.mul_add];omega]
theorem unit_shift (q:Int) (l:List (Int×Int)):unitL (l.map fun u=>(u.1+q,u.2))=unitL l:=by
 cases l with
 |nil=>rfl
 |cons v m=>
  show((v::m).map fun u=>(u.1+q,u.2)).map (fun u=>(u.1-(v.1+q),if v.2<0 then -u.2 else u.2))=(v::m).map (fun u=>(u.1-v.1,if v.2<0 then -u.2 else u.2))
  rw[List.map_map]
  refine List.map_congr_left fun u _=>?_
  show(u.1+q-(v.1+q),_)=(u.1-v.1,_)
  rw[show u.1+q-(v.1+q)=u.1-v.1 by omega]
theorem canon_shift (q:Int) {l:List (Int×Int)} {f:Int->Int} (h:Canon l f):Canon (l.map fun u=>(u.1+q,u.2)) (fun y=>f (y-q)):=by
 refine⟨?_,fun x c=>?_⟩
 · rw[List.pairwise_map]
   exact h.1.imp fun z=>by show _+q<_+q;omega
 · rw[List.mem_map]
   constructor
   · rintro⟨u,hu,e⟩
     obtain⟨e1,e2⟩:=Prod.mk.inj e
     have:=(h.2 u.1 u.2).1 hu
     rw[<-e1,<-e2]
     show f (u.1+q-q)=u.2/\u.2≠0
     rw[show u.1+q-q=u.1 by omega]
     exact this
   · intro hc
     exact⟨(x-q,c),(h.2 (x-q) c).2 hc,by simp⟩
def bV (l:List Int) (t:Int) (r:Nat):Nat->Nat->Int
 |0,c=>if r=c then 1 else 0
 |k+1,c=>if 0<l.getD k 0 then(if c+1=(l.getD k 0).natAbs then bV l t r k ((l.getD k 0).natAbs-1)-t*bV l t r k ((l.getD k 0).natAbs-1)+bV l t r k (l.getD k 0).natAbs else if c=(l.getD k 0).natAbs then t*bV l t r k ((l.getD k 0).natAbs-1) else bV l t r k c)
  else(if c+1=(l.getD k 0).natAbs then bV l t r k (l.getD k 0).natAbs else if c=(l.getD k 0).natAbs then t*bV l t r k ((l.getD k 0).natAbs-1)+(t*bV l t r k (l.getD k 0).natAbs-bV l t r k (l.getD k 0).natAbs) else t*bV l t r k c)
theorem EvT.congr {t:Int} {f g:Int->Int} {v:Int} (h:EvT t f v) (e:∀ y,f y=g y):EvT t g v:=by
 obtain⟨L,a,b,c⟩:=h
 exact⟨L,a,fun y=>by rw[b,e],c⟩
theorem EvT.up {t:Int} {f:Int->Int} {v:Int} (h:EvT t f v):EvT t (fun y=>f (y-1)) (t*v):=by
 have:=h.prod [(1,1)] (fun u hu=>by rw[List.mem_singleton.1 hu];show(0:Int)<=1;omega)
 have e:vlT t [(1,1)]=t:=by
  show t ^ (1:Int).toNat*1+0=t
  rw[show(1:Int).toNat=1 from rfl,Int.pow_succ,Int.pow_zero];omega
 rw[e]at this
 exact this.congr fun y=>by
  show 1*f (y-1)+0=f (y-1)
  omega
theorem EvT.add {t:Int} {f g:Int->Int} {v u:Int} (h:EvT t f v) (h':EvT t g u):EvT t (fun y=>f y+g y) (v+u):=by
 have h0:EvT t (fun _=>0) 0:=⟨[],nn_nil,fun _=>rfl,rfl⟩
 have:=h.sub (h0.sub h')
 have e:v-(0-u)=v+u:=by omega
 rw[e]at this
 exact this.congr fun y=>by omega
theorem bu_ev (l:List Int) (t:Int) (r:Nat):∀ k c,EvT t (fun y=>buT l k r c (y-nN l k)) (bV l t r k c)
 |0,c=>by
  refine⟨if r=c then [(0,1)] else [],?_,fun y=>?_,?_⟩
  · split
    · intro u hu;rw[List.mem_singleton.1 hu];exact Int.le_refl _
    · exact nn_nil
  · show coefL (if r=c then [(0,1)] else []) y=(if r=c/\y-((0:Nat):Int)=0 then 1 else 0)
    by_cases q:r=c
    · rw[if_pos q]
      show(if(0:Int)=y then(1:Int) else 0)+0=_
      by_cases z:y=0
      · rw[if_pos z.symm,if_pos ⟨q,by omega⟩];rfl
      · rw[if_neg (fun w=>z w.symm),if_neg (by omega)];rfl
    · rw[if_neg q,if_neg (fun w=>q w.1)];rfl
  · show vlT t (if r=c then [(0,1)] else [])=if r=c then 1 else 0
    split
    · show t ^ 0*1+0=1
      rw[Int.pow_zero];rfl
    · rfl
 |k+1,c=>by
  have ih:=bu_ev l t r k
  have hn:nN l (k+1)=nN l k+if 0<l.getD k 0 then 0 else 1:=rfl
  have hv:bV l t r (k+1) c=if 0<l.getD k 0 then(if c+1=(l.getD k 0).natAbs then bV l t r k ((l.getD k 0).natAbs-1)-t*bV l t r k ((l.getD k 0).natAbs-1)+bV l t r k (l.getD k 0).natAbs else if c=(l.getD k 0).natAbs then t*bV l t r k ((l.getD k 0).natAbs-1) else bV l t r k c)
   else(if c+1=(l.getD k 0).natAbs then bV l t r k (l.getD k 0).natAbs else if c=(l.getD k 0).natAbs then t*bV l t r k ((l.getD k 0).natAbs-1)+(t*bV l t r k (l.getD k 0).natAbs-bV l t r k (l.getD k 0).natAbs) else t*bV l t r k c):=rfl
  have hb:∀ y,buT l (k+1) r c y=buS (l.getD k 0) (buT l k r) c y:=fun y=>rfl
  by_cases q:0<l.getD k 0
  · have hn':nN l (k+1)=nN l k:=by rw[hn,if_pos q];rfl
    rw[hv,hn',if_pos q]
    by_cases e1:c+1=(l.getD k 0).natAbs
    · rw[if_pos e1]
      refine(((ih _).sub (ih _).up).add (ih _)).congr fun y=>?_
      rw[hb]
      unfold buS
      rw[if_pos e1]
      unfold buL
      rw[if_pos q,show y-1-(nN l k:Int)=y-nN l k-1 by omega]
    · rw[if_neg e1]
      by_cases e2:c=(l.getD k 0).natAbs
      · rw[if_pos e2]
        refine((ih _).up).congr fun y=>?_
        rw[hb]
        unfold buS
        rw[if_neg e1,if_pos e2]
        unfold buR
        rw[if_pos q,show y-1-(nN l k:Int)=y-nN l k-1 by omega]
      · rw[if_neg e2]
        refine(ih _).congr fun y=>?_
        rw[hb]
        unfold buS
        rw[if_neg e1,if_neg e2]
  · have hc:((nN l (k+1):Nat):Int)=nN l k+1:=by rw[hn,if_neg q];rfl
    rw[hv,hc,if_neg q]
    by_cases e1:c+1=(l.getD k 0).natAbs
    · rw[if_pos e1]
      refine(ih _).congr fun y=>?_
      rw[hb]
      unfold buS
      rw[if_pos e1]
      unfold buL
      rw[if_neg q,show y-((nN l k:Int)+1)+1=y-nN l k by omega]
    · rw[if_neg e1]
      by_cases e2:c=(l.getD k 0).natAbs
      · rw[if_pos e2]
        refine((ih _).up.add ((ih _).up.sub (ih _))).congr fun y=>?_
        rw[hb]
        unfold buS
        rw[if_neg e1,if_pos e2]
        unfold buR
        rw[if_neg q,show y-((nN l k:Int)+1)+1=y-nN l k by omega,show y-((nN l k:Int)+1)=y-1-nN l k by omega]
        omega
      · rw[if_neg e2]
        refine((ih _).up).congr fun y=>?_
        rw[hb]
        unfold buS
        rw[if_neg e1,if_neg e2,show y-((nN l k:Int)+1)=y-1-nN l k by omega]
theorem bV_zV {l:List Int} (hw:∀ j,j<l.length->1<=(l.getD j 0).natAbs) (t:Int) (r:Nat):∀ k,k<=l.length->∀ c,t ^ r*bV l t r k c=t ^ c*zV l t (r+1) k (c+1)
 |0,_,c=>by
  show t ^ r*(if r=c then(1:Int) else 0)=t ^ c*(if c+1=r+1 then 1 else 0)
  by_cases q:r=c
  · rw[if_pos q,if_pos (by omega),q]
  · rw[if_neg q,if_neg (by omega)];omega
 |k+1,hk,c=>by
  have ih:=bV_zV hw t r k (by omega)
  have h1:=hw k (by omega)
  have hv:bV l t r (k+1) c=if 0<l.getD k 0 then(if c+1=(l.getD k 0).natAbs then bV l t r k ((l.getD k 0).natAbs-1)-t*bV l t r k ((l.getD k 0).natAbs-1)+bV l t r k (l.getD k 0).natAbs else if c=(l.getD k 0).natAbs then t*bV l t r k ((l.getD k 0).natAbs-1) else bV l t r k c)
   else(if c+1=(l.getD k 0).natAbs then bV l t r k (l.getD k 0).natAbs else if c=(l.getD k 0).natAbs then t*bV l t r k ((l.getD k 0).natAbs-1)+(t*bV l t r k (l.getD k 0).natAbs-bV l t r k (l.getD k 0).natAbs) else t*bV l t r k c):=rfl
  have hz:zV l t (r+1) (k+1) (c+1)=if 0<l.getD k 0 then(if c+1=(l.getD k 0).natAbs then t*zV l t (r+1) k (c+1+1)-(t-1)*zV l t (r+1) k (c+1) else if c+1=(l.getD k 0).natAbs+1 then zV l t (r+1) k (c+1-1) else zV l t (r+1) k (c+1))
   else(if c+1=(l.getD k 0).natAbs then t*zV l t (r+1) k (c+1+1) else if c+1=(l.getD k 0).natAbs+1 then zV l t (r+1) k (c+1-1)+(t-1)*zV l t (r+1) k (c+1) else t*zV l t (r+1) k (c+1)):=rfl
  rw[hv,hz]
  obtain⟨i,hi⟩:∃ i,(l.getD k 0).natAbs=i+1:=⟨(l.getD k 0).natAbs - 1,by omega⟩
  rw[hi,Nat.add_sub_cancel]
  have a1:=ih i
  have a2:=ih (i+1)
  rw[Int.pow_succ]at a2
  by_cases q:0<l.getD k 0
  · rw[if_pos q,if_pos q]
    by_cases e1:c+1=i+1
    · obtain rfl:c=i:=by omega
      rw[if_pos rfl,if_pos rfl]
      grind
    · rw[if_neg e1,if_neg e1]
      by_cases e2:c=i+1
      · subst e2
        rw[if_pos rfl,if_pos rfl,Int.pow_succ,Nat.add_sub_cancel]
        grind
      · rw[if_neg e2,if_neg (by omega)]
        exact ih c
  · rw[if_neg q,if_neg q]
    by_cases e1:c+1=i+1
    · obtain rfl:c=i:=by omega
      rw[if_pos rfl,if_pos rfl]
      grind
    · rw[if_neg e1,if_neg e1]
      by_cases e2:c=i+1
      · subst e2
        rw[if_pos rfl,if_pos rfl,Int.pow_succ,Nat.add_sub_cancel]
        grind
      · rw[if_neg e2,if_neg (by omega)]
        have:=ih c
        grind
end Go.Proofs.YtiliihlkpknhdaaDoor
/- Burau's table tells Alexander's polynomial of what is closed. -/
namespace Go.Proofs.YtiliihlkpknhdaaDoor
open Poly
theorem dZ_one (a:Nat->Int) (c:Nat):dZ [a] [c]=a c:=by
 show a c*1-0=a c
 omega
theorem dZ_two (a b:Nat->Int) (c d:Nat):dZ [a,b] [c,d]=a c*b d-a d*b c:=by
 show a c*dZ [b] [d]-(a d*dZ [b] [c]-0)=_
 rw[dZ_one,dZ_one];omega
theorem dZ_three (a b e:Nat->Int) (c d f:Nat):dZ [a,b,e] [c,d,f]=a c*(b d*e f-b f*e d)-a d*(b c*e f-b f*e c)+a f*(b c*e d-b d*e c):=by
 show a c*dZ [b,e] [d,f]-(a d*dZ [b,e] [c,f]-(a f*dZ [b,e] [c,d]-0))=_
 rw[dZ_two,dZ_two,dZ_two];omega
theorem small_det {N : Nat} (h1 : 1 ≤ N) (h3 : N ≤ 3) : ∃ e : Nat, ∀ (t : Nat) (G D : Nat → Nat → Int), (∀ i j, i < N → j < N → (t : Int) ^ i * G i j = -((t : Int) ^ j * D (j + 1) (i + 1))) →
    t ^ e*(dZ ((List.range N).map G) (List.range N)).natAbs=t ^ e*(dZ ((List.range' 1 N).map D) (List.range' 1 N)).natAbs:=by
 have fin:∀ (t e:Nat) (x y:Int),((t:Int) ^ e*x=(t:Int) ^ e*y∨(t:Int) ^ e*x = -((t:Int) ^ e*y))->t ^ e*x.natAbs=t ^ e*y.natAbs:=fun t e x y h=>by
  have e1:∀ z:Int,t ^ e*z.natAbs=((t:Int) ^ e*z).natAbs:=fun z=>by rw[Int.natAbs_mul,Int.natAbs_pow,Int.natAbs_natCast]
  rw[e1,e1]
  rcases h with h|h
  · rw[h]
  · rw[h,Int.natAbs_neg]
 have c:N=1∨N=2∨N=3:=by omega
 rcases c with rfl|rfl|rfl
 · refine⟨0,fun t G D h=>fin t 0 _ _ (Or.inr ?_)⟩
   show(t:Int) ^ 0*dZ [G 0] [0] = -((t:Int) ^ 0*dZ [D 1] [1])
   rw[dZ_one,dZ_one]
   exact h 0 0 (by omega) (by omega)
 · refine⟨1,fun t G D h=>fin t 1 _ _ (Or.inl ?_)⟩
   show(t:Int) ^ 1*dZ [G 0,G 1] [0,1]=(t:Int) ^ 1*dZ [D 1,D 2] [1,2]
   rw[dZ_two,dZ_two]
   have a00:=h 0 0 (by omega) (by omega)
   have a01:=h 0 1 (by omega) (by omega)
   have a10:=h 1 0 (by omega) (by omega)
   have a11:=h 1 1 (by omega) (by omega)
   have e:(t:Int) ^ 1*(G 0 0*G 1 1-G 0 1*G 1 0)=((t:Int) ^ 0*G 0 0)*((t:Int) ^ 1*G 1 1)-((t:Int) ^ 0*G 0 1)*((t:Int) ^ 1*G 1 0):=by grind
   rw[e,a00,a01,a10,a11]
   grind
 · refine⟨3,fun t G D h=>fin t 3 _ _ (Or.inr ?_)⟩
   show(t:Int) ^ 3*dZ [G 0,G 1,G 2] [0,1,2] = -((t:Int) ^ 3*dZ [D 1,D 2,D 3] [1,2,3])
   rw[dZ_three,dZ_three]
   have a00:=h 0 0 (by omega) (by omega)
   have a01:=h 0 1 (by omega) (by omega)
   have a02:=h 0 2 (by omega) (by omega)
   have a10:=h 1 0 (by omega) (by omega)
   have a11:=h 1 1 (by omega) (by omega)
   have a12:=h 1 2 (by omega) (by omega)
   have a20:=h 2 0 (by omega) (by omega)
   have a21:=h 2 1 (by omega) (by omega)
   have a22:=h 2 2 (by omega) (by omega)
   have e:(t:Int) ^ 3*(G 0 0*(G 1 1*G 2 2-G 1 2*G 2 1)-G 0 1*(G 1 0*G 2 2-G 1 2*G 2 0)+G 0 2*(G 1 0*G 2 1-G 1 1*G 2 0))=((t:Int) ^ 0*G 0 0)*(((t:Int) ^ 1*G 1 1)*((t:Int) ^ 2*G 2 2)-((t:Int) ^ 1*G 1 2)*((t:Int) ^ 2*G 2 1))-((t:Int) ^ 0*G 0 1)*(((t:Int) ^ 1*G 1 0)*((t:Int) ^ 2*G 2 2)-((t:Int) ^ 1*G 1 2)*((t:Int) ^ 2*G 2 0))+((t:Int) ^ 0*G 0 2)*(((t:Int) ^ 1*G 1 0)*((t:Int) ^ 2*G 2 1)-((t:Int) ^ 1*G 1 1)*((t:Int) ^ 2*G 2 0)):=by grind
   rw[e,a00,a01,a02,a10,a11,a12,a20,a21,a22]
   generalize D 1 1=d1;generalize D 1 2=d2;generalize D 1 3=d3
   generalize D 2 1=d4;generalize D 2 2=d5;generalize D 2 3=d6
   generalize D 3 1=d7;generalize D 3 2=d8;generalize D 3 3=d9
   grind
theorem canon_nn {t:Int} {l:List (Int×Int)} {f:Int->Int} {v:Int} (h:Canon l f) (e:EvT t f v):NnL l/\vlT t l=v:=by
 obtain⟨L,n1,n2,n3⟩:=e
 have nn:NnL l:=fun u hu=>by
  refine Classical.byContradiction fun hneg=>?_
  have h1:=(h.2 u.1 u.2).1 hu
  rw[<-n2,coef_neg n1 (by omega)]at h1
  exact h1.2 h1.1.symm
 exact⟨nn,by rw[<-n3];exact vlT_one t nn n1 fun z=>by rw[canon_coefB h,n2]⟩
section
variable {n:Nat} {l:List Int} {T:List (List (List (Int×Int)))}
theorem less_vals (hw : ∀ j, j < l.length → 1 ≤ (l.getD j 0).natAbs ∧ (l.getD j 0).natAbs < n) (h2 : 2 ≤ n) (h4 : n ≤ 4) (hT : T.length = n - 1) (hR : ∀ i, i < n - 1 → (T.getD i []).length = n - 1)
    (hC:∀ i j,i<n-1->j<n-1->Canon ((T.getD i []).getD j []) (fun y=>(if i=j/\y=0 then 1 else 0)-buT l l.length i j y)) {b:List (Int×Int)} (hb:Canon b (detOf T)):
    UnL (unitL b)/\Pq (fun t=>(vlT t (unitL b)).natAbs) (fun t=>(dZ ((List.range' 1 (n-1)).map (dT l (t:Nat))) (List.range' 1 (n-1))).natAbs):=by
 obtain⟨N,hN⟩:∃ N,n - 1=N:=⟨_,rfl⟩
 rw[hN]at hT hR hC ⊢
 obtain⟨e,hsm⟩:=small_det (N:=N) (by omega) (by omega)
 obtain⟨q,hq⟩:∃ q:Int,q=nN l l.length:=⟨_,rfl⟩
 let v:Int->Nat->Nat->Int:=fun t i j=>(if i=j then t ^ nN l l.length else 0)-bV l t i l.length j
 have ent:∀ t:Int,∀ i j,i<N->j<N->NnL (((T.getD i []).getD j []).map fun u=>(u.1+q,u.2))/\vlT t (((T.getD i []).getD j []).map fun u=>(u.1+q,u.2))=v t i j:=fun t i j hi hj=>by
  refine canon_nn (canon_shift q (hC i j hi hj)) ?_
  have e0:EvT t (fun y=>if i=j/\y-q=0 then 1 else 0) (if i=j then t ^ nN l l.length else 0):=by
   refine⟨if i=j then [(q,1)] else [],?_,fun y=>?_,?_⟩
   · split
     · intro u hu;rw[List.mem_singleton.1 hu];show 0<=q;omega
     · exact nn_nil
   · by_cases z:i=j
     · rw[if_pos z]
       show(if q=y then(1:Int) else 0)+0=if i=j/\y-q=0 then(1:Int) else 0
       by_cases w:q=y
       · rw[if_pos w,if_pos ⟨z,by omega⟩];rfl
       · rw[if_neg w,if_neg (by omega)];rfl
     · rw[if_neg z]
       show(0:Int)=if i=j/\y-q=0 then(1:Int) else 0
       rw[if_neg (fun w=>z w.1)]
   · by_cases z:i=j
     · rw[if_pos z,if_pos z]
       show t ^ q.toNat*1+0=_
       rw[hq,Int.toNat_natCast];omega
     · rw[if_neg z,if_neg z];rfl
  have e1:=bu_ev l t i l.length j
  rw[<-hq]at e1
  exact e0.sub e1
 have hrows:rowsOf T=(List.range N).map fun i c=>(T.getD i []).getD c []:=by
  rw[<-rowsOf_range,hT]
  rfl
 have big:∀ i c,i<N->¬ c<N->(T.getD i []).getD c []=[]:=fun i c hi hc=>by
  rw[List.getD_eq_getElem?_getD,List.getElem?_eq_none (by rw[hR i hi];omega)];rfl
 have cb:=canon_shift (q*(N:Nat)) hb
 have cb2:Canon (b.map fun u=>(u.1+q*(N:Nat),u.2)) (detF ((rowsOf T).map fun r c=>(r c).map fun u=>(u.1+q,u.2)) (List.range N)):=by
  have e1:(fun y=>detOf T (y-q*(N:Nat)))=detF ((rowsOf T).map fun r c=>(r c).map fun u=>(u.1+q,u.2)) (List.range N):=funext fun y=>by
   rw[det_shift,hrows,List.length_map,List.length_range,<-hrows]
   show detF (rowsOf T) (List.range T.length) _=_
   rw[hT]
  rw[<-e1]
  exact cb
 have val:∀ t:Int,NnL (b.map fun u=>(u.1+q*(N:Nat),u.2))/\vlT t (b.map fun u=>(u.1+q*(N:Nat),u.2))=dZ ((List.range N).map (v t)) (List.range N):=fun t=>by
  have ev := EvT.det t ((rowsOf T).map fun r c => (r c).map fun u => (u.1 + q, u.2)) (fun r hr c => by
   obtain⟨s,hs,rfl⟩:=List.mem_map.1 hr
   rw[hrows]at hs
   obtain⟨i,hi,rfl⟩:=List.mem_map.1 hs
   have hi:=List.mem_range.1 hi
   by_cases hc:c<N
   · exact(ent t i c hi hc).1
   · show NnL (((T.getD i []).getD c []).map _)
     rw[big i c hi hc]
     exact nn_nil) (List.range N)
  obtain⟨g1,g2⟩:=canon_nn cb2 ev
  refine⟨g1,g2.trans ?_⟩
  rw[hrows,List.map_map,List.map_map,<-dZ_det _ _ (by simp)]
  refine dZ_ext _ _ _ _ fun i hi c hc=>?_
  exact(ent t i c (List.mem_range.1 hi) (List.mem_range.1 hc)).2
 obtain⟨u1,i,u2⟩:=unit_unl cb2 (val 1).1
 rw[unit_shift]at u1 u2
 refine⟨u1,Pq.pow (e+i) e fun t ht=>?_⟩
 rw[Nat.pow_add,Nat.mul_assoc,<-u2 t,(val t).2]
 refine hsm t (v t) (dT l (t:Nat)) fun r c hr hc=>?_
 have hz:=bV_zV (fun j hj=>(hw j hj).1) (t:Int) r l.length (Nat.le_refl _) c
 show(t:Int) ^ r*((if r=c then(t:Int) ^ nN l l.length else 0)-bV l t r l.length c) = -((t:Int) ^ c*(zV l t (r+1) l.length (c+1)-if c+1=r+1 then(t:Int) ^ nN l l.length else 0))
 rw[Int.mul_sub,hz,Int.mul_sub]
 by_cases z:r=c
 · rw[if_pos z,if_pos (by omega),z];omega
 · rw[if_neg z,if_neg (by omega)];omega
theorem burau_alex (hw : ∀ j, j < l.length → 1 ≤ (l.getD j 0).natAbs ∧ (l.getD j 0).natAbs < n) (h2 : 2 ≤ n) (h4 : n ≤ 4) (h16 : l.length ≤ 16) (hT : T.length = n - 1) (hR : ∀ i, i < n - 1 → (T.getD i []).length = n - 1)
    (hC:∀ i j,i<n-1->j<n-1->Canon ((T.getD i []).getD j []) (fun y=>(if i=j/\y=0 then 1 else 0)-buT l l.length i j y)) {a b:List (Int×Int)} (hb:Canon b (detOf T)) (hA:IsAlex (clsC l n) (clsO l n) a):a=unitL b:=by
 obtain⟨u1,p1⟩:=less_vals hw h2 h4 hT hR hC hb
 have h:=clo_any hw h2 (by omega:n<=5)
 have hl:=h.len
 have hno:=cls_may hw h2 (by omega:n<=5) h16
 have hm:mayD (clsC l n) (clsO l n)=true:=by
  cases q:mayD (clsC l n) (clsO l n:Nat) with
  |true=>rfl
  |false=>
   unfold noN at hno
   rw[q,if_neg (by decide)]at hno
   cases hno
 have void:UnL []:=⟨List.Pairwise.nil,(fun u hu=>by cases hu),Or.inl rfl⟩
 have null:(∀ t:Nat,1<=t->dZ ((List.range' 1 (n-1)).map (dT l (t:Nat))) (List.range' 1 (n-1))=0)->unitL b=[]:=fun hz=>by
  obtain⟨e,f,hp⟩:=p1
  refine unl_same (a:=e) (b:=0) u1 void fun t ht=>?_
  have h0:t ^ e*(vlT t (unitL b)).natAbs=t ^ f*(dZ ((List.range' 1 (n-1)).map (dT l (t:Nat))) (List.range' 1 (n-1))).natAbs:=hp t ht
  rw[h0,hz t ht]
  show t ^ f*0=t ^ 0*0
  omega
 by_cases hc:clsO l n=0
 · have hu:∀ x,1<=x->x<=n->∃ k,k<l.length/\Tch l x k:=fun x q1 q2=>loops_none hw h2 (by omega) hc q1 q2
   have h0:0<l.length:=by
    obtain⟨k,hk,-⟩:=hu 1 (by omega) (by omega)
    omega
   obtain⟨u2,i,hv⟩:=alex_val hm (clo_planar h hm) (by omega) (by omega) hA
   obtain ⟨e, f, hp⟩ := (Pq.pow i 0 (F := fun t => (vlT t a).natAbs) (G := fun t => (dZ (rowsA (clsC l n) (t : Nat)) (arcsL (2 * (clsC l n).length) 1)).natAbs) fun t ht => by
    show t ^ i*(vlT t a).natAbs=t ^ 0*(dZ (rowsA (clsC l n) (t:Nat)) (arcsL (2*(clsC l n).length) 1)).natAbs
    rw[hv t ht,Nat.pow_zero,Nat.one_mul]).trans ((alex_braid h hm h0 h2 hu).trans p1.symm)
   exact unl_same (a:=e) (b:=f) u2 u1 fun t ht=>hp t ht
 · have ha : a = [] := by
     unfold IsAlex at hA
     rw [if_neg (fun z => by
      have hl0:l.length=0:=by rw[<-hl];exact z.1
      have h1:clsO l n=1:=by have:=z.2;omega
      rw[List.length_eq_zero_iff.1 hl0]at h1
      have c:n=2∨n=3∨n=4:=by omega
      rcases c with rfl|rfl|rfl
      · exact absurd h1 (by decide +kernel)
      · exact absurd h1 (by decide +kernel)
      · exact absurd h1 (by decide +kernel)),if_pos (Or.inr (Or.inl (by omega)))]at hA
     exact hA
   rw[ha]
   refine(null fun t ht=>?_).symm
   obtain⟨x,x1,x2,hx⟩:=loops_some hw h2 (by omega:n<=5) hc
   by_cases h0:0<l.length
   · exact dT_null hw h0 h2 x1 x2 hx ht
   · have z : ∀ i ∈ List.range' 1 (n - 1), ∀ c ∈ List.range' 1 (n - 1), dT l (t : Nat) i c = (fun (_ : Nat) (_ : Nat) => (0 : Int)) i c := fun i _ c _ => by
       unfold dT
       rw[show l.length=0 by omega]
       show(if i=c then(1:Int) else 0)-(if i=c then(t:Int) ^ 0 else 0)=0
       rw[Int.pow_zero];omega
     rw[dZ_ext _ _ _ _ z]
     obtain⟨p,hp⟩:∃ p,n - 1=p+1:=⟨n - 2,by omega⟩
     rw[hp,List.range'_succ,List.map_cons]
     exact rowZ_none _ _ _ fun _ _=>rfl
end
end Go.Proofs.YtiliihlkpknhdaaDoor
/- The walks of knotworkkeep.picked, word and plus. -/
namespace Go.Proofs.YtiliihlkpknhdaaDoor
open Go.RowKit
set_option maxHeartbeats 8000000
set_option maxRecDepth 100000
theorem pickedB_any (x : Int) (n : Nat) (w : World) (hx : -9223372036854775808 ≤ x ∧ x ≤ 9223372036854775807) (h0 : 0 < n) (h1 : n ≤ 1000) :
    Calls Tryd.prog 4 #[.int .i64 x,.int .i64 (n:Nat)] w fun e w'=>∃ r:Nat,e=.returned (.int .i64 (r:Nat))/\r<n/\w'=w:=by
 have hz:((n:Int)==0)=false:=beq_eq_false_iff_ne.2 (by omega)
 by_cases hn:x<0
 · have hd:decide (x<0)=true:=decide_eq_true hn
   have e1:IntKind.i64.wrap (x+1)=x+1:=IntWalk.i64_in _ (by omega)
   have e2:IntKind.i64.wrap (-(x+1)) = -(x+1):=IntWalk.i64_in _ (by omega)
   obtain⟨q,hq⟩:∃ q:Nat,-(x+1)=(q:Int):=⟨(-(x+1)).toNat,by omega⟩
   have er:(q:Int).tmod (n:Int)=((q%n:Nat):Int):=rfl
   have hlt:=Nat.mod_lt q h0
   have e3:IntKind.i64.wrap ((q%n:Nat):Int)=((q%n:Nat):Int):=IntWalk.i64_in _ (by omega)
   go_enter Tryd.func4,Tryd.ntmps4
   go_wp2
   go_ret
   exact⟨q%n,by simp,hlt,rfl⟩
 · have hd:decide (x<0)=false:=decide_eq_false hn
   obtain⟨q,hq⟩:∃ q:Nat,x=(q:Int):=⟨x.toNat,by omega⟩
   subst hq
   have er:(q:Int).tmod (n:Int)=((q%n:Nat):Int):=rfl
   have hlt:=Nat.mod_lt q h0
   have e3:IntKind.i64.wrap ((q%n:Nat):Int)=((q%n:Nat):Int):=IntWalk.i64_in _ (by omega)
   go_enter Tryd.func4,Tryd.ntmps4
   go_wp2
   go_ret
   exact⟨q%n,by simp,hlt,rfl⟩
theorem one_intB (x:Int):∀ u∈[Value.int .i64 x],u.oneCell'=true:=by
 intro u hu
 simp only[List.mem_singleton]at hu
 subst hu
 rfl
theorem push_intB {w W1 w8 : World} {v v8 : Value} {l : List Int} {x : Int} {e : TypeId} (hb : Below w.heap.size w W1) (hO : W1.ownsRow w.heap.size 3 1 v l.length (intsV l)) (hown : w8.ownsRow w.heap.size 3 1 v8 (l.length + 1) (intsV l ++ [.int .i64 x])) (hg : (W1.alloc (.cells #[.int .i64 x] e)).grownBy w8 v.ownBlock) :
    w8.ownsRow w.heap.size 3 1 v8 (l++[x]).length (intsV (l++[x]))/\Below w.heap.size w w8:=by
 refine⟨?_,(hb.alloc hb.size _).grown hg (by have:=hb.size;simp;omega) (fun q hq=>(hO.lt q hq).1)⟩
 have e1:intsV l++[.int .i64 x]=intsV (l++[x]):=by simp[intsV]
 rw[<-e1]
 simpa using hown
def LtOk (n:Nat) (l:List Int):Prop:=∀ x∈l,1<=x.natAbs/\x.natAbs<n
theorem LtOk.snoc {n:Nat} {l:List Int} (h:LtOk n l) {x:Int} (hx:1<=x.natAbs/\x.natAbs<n):LtOk n (l++[x]):=fun y hy=>by
 rcases List.mem_append.1 hy with g|g
 · exact h y g
 · rw[List.mem_singleton.1 g];exact hx
theorem LtOk.word {n:Nat} {l:List Int} (h:LtOk n l) (h2:2<=n) (h6:n<=6) (hl:l.length<=20):wordN (n:Int) l=0:=by
 unfold wordN
 rw[if_neg (by omega),if_neg,if_neg (by omega)]
 intro q
 obtain⟨x,hx,hb⟩:=List.any_eq_true.1 q
 have:=h x hx
 unfold badL at hb
 rw[decide_eq_false (show ¬ x=0 by omega),decide_eq_false (show ¬ x <= -(n:Int) by omega),decide_eq_false (show ¬ (n:Int)<=x by omega)]at hb
 cases hb
theorem word_any (n p q : Nat) (a : Option Addr) (c : Nat) (l : List Int) (w : World) (hnp : n = p + 1) (h1 : 1 ≤ p) (h5 : p ≤ 5) (hq : q ≤ 20) (hl : ∀ x ∈ l, -9223372036854775808 ≤ x ∧ x ≤ 9223372036854775807) (h : RdAt w w.heap.size 1 (.slice a l.length c) l.length (intsV l)) :
    Calls Tryd.prog 5 #[.int .i64 (n:Nat),.slice a l.length c,.int .i64 (q:Nat)] w fun e w'=>∃ a2 c2 L,e=.returned (.slice a2 L.length c2)/\w'.ownsRow w.heap.size 3 1 (.slice a2 L.length c2) L.length (intsV L)/\Hid (LtOk n L/\L.length<=q)/\Below w.heap.size w w':=by
 obtain⟨i2,hk,hx0,hx1,hx2⟩:=info_parts infoInt
 have HRD:Hid (∀ W,Below w.heap.size w W->RdAt W W.heap.size 1 (.slice a l.length c) l.length (intsV l)):=fun W hW=>(h.on hW).mono hW.size
 have HL:Hid (∀ x∈l,-9223372036854775808<=x/\x<=9223372036854775807):=hl
 have HNP:Hid (n=p+1):=hnp
 have ew1:IntKind.i64.wrap ((n:Int)-1)=(p:Int):=by rw[show(n:Int)-1=p by omega];exact IntWalk.i64_in _ (by omega)
 obtain⟨d,hd⟩:∃ d,d=2*p:=⟨_,rfl⟩
 have HD:Hid (d=2*p):=hd
 have ew2:IntKind.i64.wrap (2*(p:Int))=(d:Int):=by rw[show 2*(p:Int)=d by omega];exact IntWalk.i64_in _ (by omega)
 obtain⟨p2,hp2⟩:∃ p2:Int,p2=(p:Int) - 1:=⟨_,rfl⟩
 have ew3:IntKind.i64.wrap ((n:Int)-2)=p2:=by rw[show(n:Int)-2=p2 by omega];exact IntWalk.i64_in _ (by omega)
 have hp2b:p2<=5/\0<=p2:=by omega
 have HP2:Hid (p2=(p:Int)-1):=hp2
 have HO0:Hid (w.ownsRow w.heap.size 3 1 (.slice none 0 0) ([]:List Int).length (intsV [])):=World.ownsRow_nil _ _ _ _
 have hd1:0<d:=by omega
 have hd2:d<=1000:=by omega
 clear h hl hnp hd hp2
 go_enter Tryd.func5,Tryd.ntmps5
 go_wp2
 go_loopw [7,8] (fun v7 v8 wr=>∃ (i:Nat) (L:List Int) (a7:Option Addr) (c7:Nat),i<=l.length/\i<=q/\v8=.int .i64 (i:Nat)/\v7=.slice a7 L.length c7/\Hid (L.length=i/\LtOk n L)/\Hid (wr.ownsRow w.heap.size 3 1 (.slice a7 L.length c7) L.length (intsV L))/\Hid (Below w.heap.size w wr)) (fun _ v8 _=>q-(intOf v8).toNat)
 case atStart=>exact⟨0,[],none,0,Nat.zero_le _,Nat.zero_le _,rfl,rfl,⟨rfl,fun x hx=>by cases hx⟩,HO0.out,Below.refl _ _⟩
 case round=>
  clear HO0
  rename World=>W1
  obtain⟨i,L,a7,c7,hil,hiq,rfl,rfl,hLL,hO,hB⟩:=hrel
  by_cases hi1:i<l.length
  · by_cases hi2:i<q
    · have hd3:decide ((i:Int)<(l.length:Int))=true:=decide_eq_true (by omega)
      have hd4:decide ((i:Int)<(q:Int))=true:=decide_eq_true (by omega)
      obtain⟨b,off,ea,hlt,hc⟩:=(HRD.out W1 hB.out).intAt i hi1
      have hxr:=HL.out (l.getD i 0) (by rw[List.getD_eq_getElem?_getD,List.getElem?_eq_getElem hi1];exact List.getElem_mem _)
      have HPK:Hid (∀ W,Calls Tryd.prog 4 #[.int .i64 (l.getD i 0),.int .i64 (d:Nat)] W fun e w'=>∃ r:Nat,e=.returned (.int .i64 (r:Nat))/\r<d/\w'=W):=fun W=>pickedB_any _ d W hxr hd1 hd2
      generalize l.getD i 0=x at hc hxr HPK
      generalize l.length=N at hil hi1 hd3 ea HRD ⊢
      subst ea
      have hiI:(i:Int)<(N:Int):=by omega
      clear hxr
      go_wp2_with (go_at_call 4;refine(HPK.out _).mono ?_;rintro e9 w5 ⟨r,rfl,hr,e4⟩;obtain rfl:=e4.symm;refine Hid.out ?_)
      refine Lib.hid ?_
      clear HPK hc
      have hLi:=hLL.out.1
      have HLL:Hid (LtOk n L):=hLL.out.2
      have HLI:Hid (L.length=i):=hLi
      clear hLL hLi
      by_cases hrp:r<p
      · have hd5:decide ((r:Int)<(p:Int))=true:=decide_eq_true (by omega)
        have ew4:IntKind.i64.wrap ((r:Int)+1)=(r:Int)+1:=IntWalk.i64_in _ (by omega)
        have HY:Hid (1<=((r:Int)+1).natAbs/\((r:Int)+1).natAbs<n):=(by have:=HNP.out;omega:1<=((r:Int)+1).natAbs/\((r:Int)+1).natAbs<n)
        have hLm:L.length<=20:=by have:=HLI.out;omega
        go_wp2_with (first
         |(at_builtin;refine wpList_append_own _ rfl _ _ 22 rfl w.heap.size 3 i2 (.int .i64 0) 1 8 Tryd.underlying22 hk hx0 hx1 hx2 rfl (by decide) _ _ _ rfl (hO.out.alloc _) ⟨W1.heap.size,0,none⟩ 1 1 [.int .i64 ((r:Int)+1)] rfl rfl (new_cell1 _ _ _) (one_intB _) (by unfold maxLen;omega) (by omega) (by have:=hB.out.size;simp;omega) ?_;intro v8 w8 hown8 hg8 _;refine Hid.out ?_))
        refine Lib.hid ?_
        have hpu:=push_intB hB.out hO.out hown8 hg8
        obtain⟨a8,c8,rfl⟩:=own_capS hpu.1
        have HO8:Hid (w8.ownsRow w.heap.size 3 1 (.slice a8 (L++[(r:Int)+1]).length c8) (L++[(r:Int)+1]).length (intsV (L++[(r:Int)+1]))):=hpu.1
        have HB8:Hid (Below w.heap.size w w8):=hpu.2
        have HLL8:Hid ((L++[(r:Int)+1]).length=i+1/\LtOk n (L++[(r:Int)+1])):=(⟨by rw[List.length_append,HLI.out];rfl,HLL.out.snoc HY.out⟩:(L++[(r:Int)+1]).length=i+1/\LtOk n (L++[(r:Int)+1]))
        clear hpu hown8 hg8 hO hB hLm
        generalize L++[(r:Int)+1]=L8 at*
        go_wp2
        go_roundw
        case rel=>exact⟨i+1,L8,a8,c8,by omega,by omega,by go_num,rfl,HLL8.out,HO8.out,HB8.out⟩
        case measure=>simp only[intOf];omega
      · have hd5:decide ((r:Int)<(p:Int))=false:=decide_eq_false (by omega)
        have ew4:IntKind.i64.wrap (p2-(r:Int))=p2-(r:Int):=IntWalk.i64_in _ (by have:=HD.out;omega)
        have HY:Hid (1<=(p2-(r:Int)).natAbs/\(p2-(r:Int)).natAbs<n):=(by have:=HNP.out;have:=HP2.out;have:=HD.out;omega:1<=(p2-(r:Int)).natAbs/\(p2-(r:Int)).natAbs<n)
        have hLm:L.length<=20:=by have:=HLI.out;omega
        go_wp2_with (first
         |(at_builtin;refine wpList_append_own _ rfl _ _ 22 rfl w.heap.size 3 i2 (.int .i64 0) 1 8 Tryd.underlying22 hk hx0 hx1 hx2 rfl (by decide) _ _ _ rfl (hO.out.alloc _) ⟨W1.heap.size,0,none⟩ 1 1 [.int .i64 (p2 - (r:Int))] rfl rfl (new_cell1 _ _ _) (one_intB _) (by unfold maxLen;omega) (by omega) (by have:=hB.out.size;simp;omega) ?_;intro v8 w8 hown8 hg8 _;refine Hid.out ?_))
        refine Lib.hid ?_
        have hpu:=push_intB hB.out hO.out hown8 hg8
        obtain⟨a8,c8,rfl⟩:=own_capS hpu.1
        have HO8:Hid (w8.ownsRow w.heap.size 3 1 (.slice a8 (L++[p2-(r:Int)]).length c8) (L++[p2-(r:Int)]).length (intsV (L++[p2-(r:Int)]))):=hpu.1
        have HB8:Hid (Below w.heap.size w w8):=hpu.2
        have HLL8:Hid ((L++[p2-(r:Int)]).length=i+1/\LtOk n (L++[p2-(r:Int)])):=(⟨by rw[List.length_append,HLI.out];rfl,HLL.out.snoc HY.out⟩:(L++[p2-(r:Int)]).length=i+1/\LtOk n (L++[p2-(r:Int)]))
        clear hpu hown8 hg8 hO hB hLm
        generalize L++[p2-(r:Int)]=L8 at*
        go_wp2
        go_roundw
        case rel=>exact⟨i+1,L8,a8,c8,by omega,by omega,by go_num,rfl,HLL8.out,HO8.out,HB8.out⟩
        case measure=>simp only[intOf];omega
    · have hd3:decide ((i:Int)<(l.length:Int))=true:=decide_eq_true (by omega)
      have hd4:decide ((i:Int)<(q:Int))=false:=decide_eq_false (by omega)
      go_wp2
      go_ret
      exact⟨a7,c7,L,rfl,hO.out,⟨hLL.out.2,by have:=hLL.out.1;omega⟩,hB.out⟩
  · have hd3:decide ((i:Int)<(l.length:Int))=false:=decide_eq_false (by omega)
    go_wp2
    go_ret
    exact⟨a7,c7,L,rfl,hO.out,⟨hLL.out.2,by have:=hLL.out.1;omega⟩,hB.out⟩
end Go.Proofs.YtiliihlkpknhdaaDoor

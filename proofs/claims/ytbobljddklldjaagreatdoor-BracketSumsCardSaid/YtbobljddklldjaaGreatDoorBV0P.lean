/- Several texts of the proof, one behind the other. -/
import Derived.Test.YtbobljddklldjaaGreatDoorBKaP
import Derived.Test.YtbobljddklldjaaGreatDoorFX0
import Derived.Test.YtbobljddklldjaaGreatDoorPMathP
/- Values of Jones's polynomial where A to the power of minus 4 is a power of i: mathematics, and how great its coefficients are together. -/
namespace Go.Proofs.YtbobljddklldjaaGreatDoor.Poly
open Go.RowKit
def Lq (f:Int->Int) (B:Nat):Prop:=∀ s:List Int,s.Pairwise (·≠·)->(s.map fun y=>(f y).natAbs).sum<=B
theorem Lq.mono {f:Int->Int} {A B:Nat} (h:Lq f A) (hab:A<=B):Lq f B:=fun s hs=>Nat.le_trans (h s hs) hab
theorem one_sum0:∀ s:List Int,(∀ y∈s,y≠0)->(s.map fun y=>(oneAb y).natAbs).sum=0
 |[],_=>rfl
 |y::s,h=>by
  rw[List.map_cons,List.sum_cons,one_sum0 s fun z hz=>h z (List.mem_cons_of_mem _ hz)]
  unfold oneAb
  rw[if_neg (h y (.head _))];rfl
theorem Lq.one:Lq oneAb 1:=by
 intro s
 induction s with
 |nil=>intro _;exact Nat.zero_le _
 |cons y s ih=>
  intro h
  rw[List.pairwise_cons]at h
  rw[List.map_cons,List.sum_cons]
  by_cases hy:y=0
  · rw[one_sum0 s fun z hz=>fun e=>h.1 z hz (by rw[hy,e])]
    exact one_bd y
  · have:=ih h.2
    have e:(oneAb y).natAbs=0:=by unfold oneAb;rw[if_neg hy];rfl
    omega
theorem Lq.sh {f:Int->Int} {B:Nat} (h:Lq f B) (e:Int):Lq (fun y=>f (y+e)) B:=by
 intro s hs
 have:=h (s.map fun y=>y+e) (by rw[List.pairwise_map];exact hs.imp fun q=>by omega)
 rw[List.map_map]at this
 exact this
theorem Lq.two {f g:Int->Int} {A B:Nat} (h:Lq f A) (g2:Lq g B) {k:Int->Int} (hk:∀ y,(k y).natAbs<=(f y).natAbs+(g y).natAbs):Lq k (A+B):=by
 intro s hs
 have a:=h s hs
 have b:=g2 s hs
 have c:(s.map fun y=>(k y).natAbs).sum<=(s.map fun y=>(f y).natAbs).sum+(s.map fun y=>(g y).natAbs).sum:=by
  clear a b hs
  induction s with
  |nil=>exact Nat.le_refl _
  |cons y s ih=>
   simp only[List.map_cons,List.sum_cons]
   have:=hk y
   omega
 omega
theorem Lq.zero:Lq (fun _=>0) 0:=by
 intro s hs
 clear hs
 induction s with
 |nil=>exact Nat.le_refl _
 |cons y s ih=>rw[List.map_cons,List.sum_cons];simpa using ih
theorem Lq.dlA {f:Int->Int} {B:Nat} (h:Lq f B):Lq (dlA f) (2*B):=by
 rw[Nat.two_mul]
 refine Lq.two (h.sh 2) (h.sh (-2)) fun y=>?_
 show(- f (y+2)-f (y-2)).natAbs<=(f (y+2)).natAbs+(f (y + -2)).natAbs
 rw[show y + -2=y-2 by omega];omega
theorem Lq.dlN {f:Int->Int} {B:Nat} (h:Lq f B) (n:Nat):Lq (dlN n f) (2 ^ n*B):=by
 induction n with
 |zero=>rw[Nat.pow_zero,Nat.one_mul];exact h
 |succ n ih=>
  rw[Nat.pow_succ,Nat.mul_comm (2 ^ n) 2,Nat.mul_assoc]
  exact ih.dlA
theorem Lq.sumS {n B:Nat} {F:Nat->Int->Int} (h:∀ s,s<n->Lq (F s) B):Lq (fun y=>sumS n fun s=>F s y) (n*B):=by
 induction n with
 |zero=>rw[Nat.zero_mul];exact Lq.zero
 |succ n ih=>
  rw[Nat.succ_mul]
  exact Lq.two (ih fun s hs=>h s (by omega)) (h n (by omega)) fun y=>Int.natAbs_add_le _ _
def ixV (k e:Int):Int:=(k*(-(e / 4)))%4
def ip (n:Int):Int:=if n=1 then 1 else if n=3 then -1 else 0
def imTo (k:Int) (l:List (Int×Int)):Nat->Int
 |0=>0
 |j+1=>imTo k l j+(l.getD j (0,0)).2*ip (ixV k (l.getD j (0,0)).1)
theorem ip_le (c n:Int):(c*ip n).natAbs<=c.natAbs:=by unfold ip;split<;>(try split)<;>simp
theorem take_sum (l:List (Int×Int)) (j:Nat) (hj:j<l.length):((l.take (j+1)).map fun t=>t.2.natAbs).sum=((l.take j).map fun t=>t.2.natAbs).sum+(l.getD j (0,0)).2.natAbs:=by
 rw[List.take_add_one,List.getElem?_eq_getElem hj,List.map_append,List.sum_append]
 simp[List.getD_eq_getElem?_getD,List.getElem?_eq_getElem hj]
theorem imTo_le (k:Int) (l:List (Int×Int)):∀ j,j<=l.length->(imTo k l j).natAbs<=((l.take j).map fun t=>t.2.natAbs).sum
 |0,_=>Nat.zero_le _
 |j+1,h=>by
  have a:=imTo_le k l j (by omega)
  have b:=ip_le (l.getD j (0,0)).2 (ixV k (l.getD j (0,0)).1)
  rw[take_sum l j (by omega)]
  unfold imTo
  omega
structure SmV (l:List (Int×Int)):Prop where
 len:l.length<=1000
 exps:∀ j,j<l.length -> -1000<=(l.getD j (0,0)).1/\(l.getD j (0,0)).1<=1000
 sums:∀ j,j<=l.length->((l.take j).map fun t=>t.2.natAbs).sum<=4503599627370496
theorem SmV.coef {l:List (Int×Int)} (h:SmV l) (j:Nat) (hj:j<l.length):(l.getD j (0,0)).2.natAbs<=4503599627370496:=by
 have:=h.sums (j+1) (by omega)
 rw[take_sum l j hj]at this
 omega
theorem SmV.im {l:List (Int×Int)} (h:SmV l) (k:Int) (j:Nat) (hj:j<=l.length):(imTo k l j).natAbs<=4503599627370496:=Nat.le_trans (imTo_le k l j hj) (h.sums j hj)
end Go.Proofs.YtbobljddklldjaaGreatDoor.Poly
/- Jones's polynomial may be multiplied: its exponents are of one parity, and few. -/
namespace Go.Proofs.YtbobljddklldjaaGreatDoor
def PaA (f:Int->Int) (r:Int) (K:Int):Prop:=∀ y,f y≠0->(y-r)%2=0 /\ -K<=y/\y<=K
theorem PaA.one:PaA oneAb 0 0:=fun y hy=>by
 unfold oneAb at hy
 split at hy
 · omega
 · exact absurd rfl hy
theorem PaA.dl {f:Int->Int} {r K:Int} (h:PaA f r K):PaA (dlA f) r (K+2):=fun y hy=>by
 by_cases h1:f (y+2)=0
 · have h2:f (y-2)≠0:=fun e=>hy (by unfold dlA;rw[h1,e];rfl)
   have:=h _ h2
   omega
 · have:=h _ h1
   omega
theorem PaA.dlN {f:Int->Int} {r K:Int} (h:PaA f r K):∀ n:Nat,PaA (dlN n f) r (K+2*n)
 |0=>fun y hy=>by have:=h y hy;omega
 |n+1=>fun y hy=>by have:=(PaA.dlN h n).dl y hy;omega
theorem ex_par (s:Nat):∀ k:Nat,(exS s k-k)%2=0
 |0=>rfl
 |k+1=>by
  have h:=ex_par s k
  show(exS s k+(if s / 2 ^ k%2=1 then 1 else -1)-((k+1:Nat):Int))%2=0
  split<;>omega
theorem sumS_some {n:Nat} {F:Nat->Int} (h:sumS n F≠0):∃ s,s<n/\F s≠0:=by
 induction n with
 |zero=>exact absurd rfl h
 |succ n ih=>
  by_cases h1:F n=0
  · have h2:sumS n F≠0:=fun e=>h (by show sumS n F+F n=0;rw[e,h1];rfl)
    obtain⟨s,hs,q⟩:=ih h2
    exact⟨s,by omega,q⟩
  · exact⟨n,by omega,h1⟩
theorem br_par (C:List Cr) (lo:Nat):PaA (brS C lo) C.length (C.length+2*(2*C.length+lo:Nat)):=fun y hy=>by
 obtain⟨s,-,hs⟩:=sumS_some hy
 have h1:=(PaA.one.dlN (rgS C lo s-1)) (y-exS s C.length) hs
 have h2:=ex_par s C.length
 have h3:=ex_bd s C.length
 have h4:rgS C lo s<=2*C.length+lo:=by unfold rgS;omega
 omega
end Go.Proofs.YtbobljddklldjaaGreatDoor
/- The bracket from the last crossing to the first: what comes of ties. -/
namespace Go.Proofs.YtbobljddklldjaaGreatDoor
def vlB (C:List Cr):Nat->Nat->List Nat->Int->Int
 |0,_,_=>oneAb
 |j+1,k,T=>fun y=>shA 1 (dlN (cA C k T) (vlB C j (k+1) (tA C k T))) y+shA (-1) (dlN (cB C k T) (vlB C j (k+1) (tB C k T))) y
theorem dlN_two (n:Nat) (f g:Int->Int):dlN n (fun y=>f y+g y)=fun y=>dlN n f y+dlN n g y:=by
 induction n with
 |zero=>rfl
 |succ n ih=>
  show dlA (dlN n _)=fun y=>dlA (dlN n f) y+dlA (dlN n g) y
  rw[ih]
  funext y
  show -(dlN n f (y+2)+dlN n g (y+2))-(dlN n f (y-2)+dlN n g (y-2))=(-dlN n f (y+2)-dlN n f (y-2))+(-dlN n g (y+2)-dlN n g (y-2))
  omega
theorem all_vl (C:List Cr) (c0:Nat):∀ j k y,allS C c0 (k+j) y=sumS (2 ^ k) fun s=>shA (exS s k) (dlN (c0+closP (prS (arQ C) s) (2*k)) (vlB C j k (kyS C s k))) y
 |0,_,_=>rfl
 |j+1,k,y=>by
  rw[show k+(j+1)=(k+1)+j by omega,all_vl C c0 j (k+1) y,sumS_two]
  refine sumS_congr fun s hs=>?_
  have b0:¬ s / 2 ^ k%2=1:=by rw[bit_off hs];decide
  have k0:kyS C s (k+1)=tB C k (kyS C s k):=by rw[ky_next,if_neg b0]
  have k1:kyS C (2 ^ k+s) (k+1)=tA C k (kyS C s k):=by rw[ky_next,if_pos (bit_hi hs),ky_low C (Nat.le_refl k)]
  have c0':closP (prS (arQ C) s) (2*(k+1))=closP (prS (arQ C) s) (2*k)+cB C k (kyS C s k):=by rw[clos_next,if_neg b0]
  have c1':closP (prS (arQ C) (2 ^ k+s)) (2*(k+1))=closP (prS (arQ C) s) (2*k)+cA C k (kyS C s k):=by rw[clos_next,if_pos (bit_hi hs),ky_low C (Nat.le_refl k),clos_low C (Nat.le_refl k)]
  have e0:exS s (k+1)=exS s k + -1:=by show exS s k+_=_;rw[if_neg b0]
  have e1:exS (2 ^ k+s) (k+1)=exS s k+1:=by show exS (2 ^ k+s) k+_=_;rw[if_pos (bit_hi hs),ex_low k (Nat.le_refl k)]
  rw[k0,k1,c0',c1',e0,e1]
  generalize exS s k=e
  generalize closP (prS (arQ C) s) (2*k)=c
  generalize kyS C s k=T
  show shA (e + -1) (dlN (c0+(c+cB C k T)) (vlB C j (k+1) (tB C k T))) y+shA (e+1) (dlN (c0+(c+cA C k T)) (vlB C j (k+1) (tA C k T))) y=shA e (dlN (c0+c) (fun y=>shA 1 (dlN (cA C k T) (vlB C j (k+1) (tA C k T))) y+shA (-1) (dlN (cB C k T) (vlB C j (k+1) (tB C k T))) y)) y
  rw[dlN_two]
  have r:∀ f:Int->Int,∀ a:Int,shA e (fun y=>dlN (c0+c) (shA a f) y) y=shA (e+a) (dlN (c0+c) f) y:=fun f a=>by
   rw[show(fun y=>dlN (c0+c) (shA a f) y)=dlN (c0+c) (shA a f) from rfl,dlN_sh,sh_sh]
  have r1:=r (dlN (cA C k T) (vlB C j (k+1) (tA C k T))) 1
  have r2:=r (dlN (cB C k T) (vlB C j (k+1) (tB C k T))) (-1)
  rw[dlN_add]at r1 r2
  rw[<-Nat.add_assoc,<-Nat.add_assoc]
  show _=shA e (fun y=>dlN (c0+c) (shA 1 (dlN (cA C k T) (vlB C j (k+1) (tA C k T)))) y) y+shA e (fun y=>dlN (c0+c) (shA (-1) (dlN (cB C k T) (vlB C j (k+1) (tB C k T)))) y) y
  rw[r1,r2,Int.add_comm]
theorem br_vl {C:List Cr} {lo:Nat} (hm:mayD C (lo:Nat)=true) (h12:C.length<=12) (h0:0<C.length):brS C lo=dlN lo (vlB C C.length 0 (List.range 26)):=by
 rw[<-br_same hm rfl h12,if_neg (by omega)]
 funext y
 have h:=all_vl C lo C.length 0 y
 rw[Nat.zero_add]at h
 rw[h]
 show 0+shA 0 (dlN (lo+0) (vlB C C.length 0 (List.range 26))) y=_
 rw[sh_zero,Nat.add_zero,Int.zero_add]
end Go.Proofs.YtbobljddklldjaaGreatDoor
/- Jones's polynomial may be multiplied: how great its coefficients are, and how many. -/
namespace Go.Proofs.YtbobljddklldjaaGreatDoor
open Poly
theorem lq_sh {f:Int->Int} {B:Nat} (h:Lq f B) (e:Int):Lq (shA e f) B:=by
 have:=h.sh (-e)
 intro s hs
 have k:=this s hs
 refine Nat.le_trans (Nat.le_of_eq ?_) k
 congr 1
theorem lq_curl {f:Int->Int} {B:Nat} (h:Lq f B):Lq (fun y=>shA 1 (dlA f) y+shA (-1) f y) B/\Lq (fun y=>shA 1 f y+shA (-1) (dlA f) y) B:=by
 constructor
 · have := (h.sh (-3)).two Lq.zero (k := fun y => shA 1 (dlA f) y + shA (-1) f y) fun y => by
     show(-f (y-1+2)-f (y-1-2)+f (y - -1)).natAbs<=(f (y + -3)).natAbs+(0:Int).natAbs
     rw[show y-1+2=y+1 by omega,show y-1-2=y + -3 by omega,show y - -1=y+1 by omega]
     omega
   exact this
 · have := (h.sh 3).two Lq.zero (k := fun y => shA 1 f y + shA (-1) (dlA f) y) fun y => by
     show(f (y-1)+(-f (y - -1+2)-f (y - -1-2))).natAbs<=(f (y+3)).natAbs+(0:Int).natAbs
     rw[show y - -1+2=y+3 by omega,show y - -1-2=y-1 by omega]
     omega
   exact this
theorem lq_step {f g : Int → Int} {B a b : Nat} (hf : Lq f B) (hg : Lq g B) :
    (a=0/\b=0->Lq (fun y=>shA 1 (dlN a f) y+shA (-1) (dlN b g) y) (2*B))/\
    (a=1/\b=1->Lq (fun y=>shA 1 (dlN a f) y+shA (-1) (dlN b g) y) (4*B))/\
    (f=g->(a=1/\b=0)∨(a=0/\b=1)->Lq (fun y=>shA 1 (dlN a f) y+shA (-1) (dlN b g) y) (2*B))/\
    (f=g->(a=2/\b=1)∨(a=1/\b=2)->Lq (fun y=>shA 1 (dlN a f) y+shA (-1) (dlN b g) y) (4*B)):=by
 refine⟨?_,?_,?_,?_⟩
 · rintro⟨rfl,rfl⟩
   rw[Nat.two_mul]
   exact(lq_sh hf 1).two (lq_sh hg (-1)) fun y=>Int.natAbs_add_le _ _
 · rintro⟨rfl,rfl⟩
   rw[show 4*B=2*B+2*B by omega]
   exact(lq_sh hf.dlA 1).two (lq_sh hg.dlA (-1)) fun y=>Int.natAbs_add_le _ _
 · rintro rfl (⟨rfl,rfl⟩|⟨rfl,rfl⟩)
   · exact(lq_curl hf).1.mono (by omega)
   · exact(lq_curl hf).2.mono (by omega)
 · rintro rfl (⟨rfl,rfl⟩|⟨rfl,rfl⟩)
   · exact(lq_curl hf.dlA).1.mono (by omega)
   · exact(lq_curl hf.dlA).2.mono (by omega)
section
variable {C:List Cr} {lo:Int} (hm:mayD C lo=true) (h12:C.length<=12)
include hm h12
theorem arQ_rng {k t:Nat} (hk:k<C.length) (ht:t<4):1<=arQ C k t/\arQ C k t<26:=by
 have a:=ar_range hm hk ht
 unfold arQ
 split<;>omega
theorem ties_both (s : Nat) {k : Nat} (hk : k < C.length) :
    (cA C k (kyS C s k)=0/\cB C k (kyS C s k)=0)∨(cA C k (kyS C s k)=1/\cB C k (kyS C s k)=1/\(kyS C s k).getD (arQ C k 0) 0=arQ C k 2)∨
    (tA C k (kyS C s k) = tB C k (kyS C s k) ∧ ((cA C k (kyS C s k) = 1 ∧ cB C k (kyS C s k) = 0) ∨ (cA C k (kyS C s k) = 0 ∧ cB C k (kyS C s k) = 1) ∨
     (cA C k (kyS C s k)=2/\cB C k (kyS C s k)=1/\(kyS C s k).getD (arQ C k 0) 0=arQ C k 1)∨(cA C k (kyS C s k)=1/\cB C k (kyS C s k)=2/\(kyS C s k).getD (arQ C k 3) 0=arQ C k 0))):=by
 obtain⟨h1,-⟩:=tied_state hm h12 (by omega) s (2*k) (by omega)
 refine tied_both h1 (arQ_rng hm h12 hk (by omega)) (arQ_rng hm h12 hk (by omega)) (arQ_rng hm h12 hk (by omega)) (arQ_rng hm h12 hk (by omega)) fun v=>?_
 rw[dg_oc]
 have h2:=oc_le hm h12 (by omega) v
 have h3:=oc_mono (arQ C) v (k:=k+1) (m:=C.length) (by omega)
 have h4:oc (arQ C) v (k+1)=oc (arQ C) v k+in4 (arQ C) v k:=rfl
 have h5:in4 (arQ C) v k=(if arQ C k 0=v then 1 else 0)+(if arQ C k 1=v then 1 else 0)+(if arQ C k 2=v then 1 else 0)+(if arQ C k 3=v then 1 else 0):=rfl
 rw[<-h5]
 omega
theorem vl_lq:∀ j k s,k+j=C.length->s<2 ^ k->Lq (vlB C j k (kyS C s k)) (4 ^ j)
 |0,_,_,_,_=>Lq.one
 |j+1,k,s,hk,hs=>by
  have k0:kyS C s (k+1)=tB C k (kyS C s k):=by rw[ky_next,if_neg (by rw[bit_off hs];decide)]
  have k1:kyS C (2 ^ k+s) (k+1)=tA C k (kyS C s k):=by rw[ky_next,if_pos (bit_hi hs),ky_low C (Nat.le_refl k)]
  have e2:2 ^ (k+1)=2 ^ k+2 ^ k:=by rw[Nat.pow_succ];omega
  have iB:=vl_lq j (k+1) s (by omega) (by omega)
  have iA:=vl_lq j (k+1) (2 ^ k+s) (by omega) (by omega)
  rw[k0]at iB
  rw[k1]at iA
  rw[Nat.pow_succ,Nat.mul_comm]
  have hh:=lq_step (a:=cA C k (kyS C s k)) (b:=cB C k (kyS C s k)) iA iB
  rcases ties_both hm h12 s (k:=k) (by omega) with q|⟨q1,q2,-⟩|⟨q,r|r|⟨r1,r2,-⟩|⟨r1,r2,-⟩⟩
  · exact(hh.1 q).mono (by omega)
  · exact hh.2.1 ⟨q1,q2⟩
  · exact(hh.2.2.1 (by rw[q]) (Or.inl r)).mono (by omega)
  · exact(hh.2.2.1 (by rw[q]) (Or.inr r)).mono (by omega)
  · exact hh.2.2.2 (by rw[q]) (Or.inl ⟨r1,r2⟩)
  · exact hh.2.2.2 (by rw[q]) (Or.inr ⟨r1,r2⟩)
theorem vl_first (h0:0<C.length):Lq (vlB C C.length 0 (List.range 26)) (2*4 ^ (C.length-1)):=by
 obtain⟨n,hn⟩:∃ n,C.length=n+1:=⟨C.length - 1,by omega⟩
 have g:∀ v,v<26->(List.range 26).getD v 0=v:=by
  intro v hv;rw[List.getD_eq_getElem?_getD,List.getElem?_range hv];rfl
 have a:∀ t,t<4->0<t->arQ C 0 t≠25:=fun t ht h1=>by
  have:=ar_range hm h0 ht
  unfold arQ;rw[if_neg (by omega)];omega
 have iB:=vl_lq hm h12 n 1 0 (by omega) (by decide)
 have iA:=vl_lq hm h12 n 1 1 (by omega) (by decide)
 have k0:kyS C 0 1=tB C 0 (List.range 26):=rfl
 have k1:kyS C 1 1=tA C 0 (List.range 26):=rfl
 rw[k0]at iB
 rw[k1]at iA
 have hh:=lq_step (a:=cA C 0 (List.range 26)) (b:=cB C 0 (List.range 26)) iA iB
 rw[hn,Nat.add_sub_cancel]
 rcases ties_both hm h12 0 (k:=0) h0 with q|⟨q1,q2,q3⟩|⟨q,r|r|⟨r1,r2,r3⟩|⟨r1,r2,r3⟩⟩
 · exact hh.1 q
 · exact absurd (q3.symm.trans (g 25 (by omega))) (a 2 (by omega) (by omega))
 · exact hh.2.2.1 (by rw[show tA C 0 (List.range 26)=tB C 0 (List.range 26) from q]) (Or.inl r)
 · exact hh.2.2.1 (by rw[show tA C 0 (List.range 26)=tB C 0 (List.range 26) from q]) (Or.inr r)
 · exact absurd (r3.symm.trans (g 25 (by omega))) (a 1 (by omega) (by omega))
 · exact absurd ((g _ (arQ_rng hm h12 h0 (by omega)).2).symm.trans r3) (a 3 (by omega) (by omega))
end
theorem abs_five (a b c d e:Int) (k:Nat) (m:a.natAbs+b.natAbs+c.natAbs+d.natAbs+e.natAbs<=k):(a+4*b+6*c+4*d+e).natAbs<=6*k:=by
 have t1:=Int.natAbs_add_le (a+4*b+6*c+4*d) e
 have t2:=Int.natAbs_add_le (a+4*b+6*c) (4*d)
 have t3:=Int.natAbs_add_le (a+4*b) (6*c)
 have t4:=Int.natAbs_add_le a (4*b)
 rw[Int.natAbs_mul]at t2 t3 t4
 rw[show(4:Int).natAbs=4 from rfl]at t2 t4
 rw[show(6:Int).natAbs=6 from rfl]at t3
 generalize a.natAbs=A at*
 generalize b.natAbs=B at*
 generalize c.natAbs=E at*
 generalize d.natAbs=F at*
 generalize e.natAbs=G at*
 generalize (a+4*b+6*c+4*d+e).natAbs=X1 at*
 generalize (a+4*b+6*c+4*d).natAbs=X2 at*
 generalize (a+4*b+6*c).natAbs=X3 at*
 generalize (a+4*b).natAbs=X4 at*
 omega
theorem abs_four (a b c d:Int) (k:Nat) (m:a.natAbs+b.natAbs+c.natAbs+d.natAbs<=k):(-a-3*b-3*c-d).natAbs<=6*k:=by
 have t1:=Int.natAbs_add_le (-a + -(3*b) + -(3*c)) (-d)
 have t2:=Int.natAbs_add_le (-a + -(3*b)) (-(3*c))
 have t3:=Int.natAbs_add_le (-a) (-(3*b))
 rw[Int.natAbs_neg]at t1
 rw[Int.natAbs_neg,Int.natAbs_mul]at t2
 rw[Int.natAbs_neg,Int.natAbs_neg,Int.natAbs_mul]at t3
 rw[show(3:Int).natAbs=3 from rfl]at t2 t3
 rw[show -a-3*b-3*c-d = -a + -(3*b) + -(3*c) + -d by omega]
 generalize a.natAbs=A at*
 generalize b.natAbs=B at*
 generalize c.natAbs=E at*
 generalize d.natAbs=F at*
 generalize (-a + -(3*b) + -(3*c) + -d).natAbs=X1 at*
 generalize (-a + -(3*b) + -(3*c)).natAbs=X2 at*
 generalize (-a + -(3*b)).natAbs=X3 at*
 omega
theorem dl_mid {f:Int->Int} {B:Nat} (h:Lq f B) (y:Int):∀ n,n<=4->(dlN n f y).natAbs<=6*B:=by
 have k:=h [y+8,y+4,y,y-4,y-8] (by simp;omega)
 have k2:=h [y+6,y+2,y-2,y-6] (by simp;omega)
 simp only[List.map_cons,List.map_nil,List.sum_cons,List.sum_nil]at k k2
 intro n hn
 have d1:∀ y,dlN 1 f y = -f (y+2)-f (y-2):=fun y=>rfl
 have d2:∀ y,dlN 2 f y=f (y+4)+2*f y+f (y-4):=fun y=>by
  show -dlN 1 f (y+2)-dlN 1 f (y-2)=_
  rw[d1,d1,show y+2+2=y+4 by omega,show y+2-2=y by omega,show y-2+2=y by omega,show y-2-2=y-4 by omega]
  omega
 have d3:∀ y,dlN 3 f y = -f (y+6)-3*f (y+2)-3*f (y-2)-f (y-6):=fun y=>by
  show -dlN 2 f (y+2)-dlN 2 f (y-2)=_
  rw[d2,d2,show y+2+4=y+6 by omega,show y+2-4=y-2 by omega,show y-2+4=y+2 by omega,show y-2-4=y-6 by omega]
  omega
 have d4:∀ y,dlN 4 f y=f (y+8)+4*f (y+4)+6*f y+4*f (y-4)+f (y-8):=fun y=>by
  show -dlN 3 f (y+2)-dlN 3 f (y-2)=_
  rw[d3,d3,show y+2+6=y+8 by omega,show y+2+2=y+4 by omega,show y+2-2=y by omega,show y+2-6=y-4 by omega,show y-2+6=y+4 by omega,show y-2+2=y by omega,show y-2-2=y-4 by omega,show y-2-6=y-8 by omega]
  omega
 have c:n=0∨n=1∨n=2∨n=3∨n=4:=by omega
 rcases c with rfl|rfl|rfl|rfl|rfl
 · show(f y).natAbs<=_;clear d1 d2 d3 d4 k2;omega
 · rw[d1]
   have h3:=Int.natAbs_sub_le (-f (y+2)) (f (y-2))
   rw[Int.natAbs_neg]at h3
   clear d1 d2 d3 d4 k
   generalize (f (y+2)).natAbs=A at*
   generalize (f (y-2)).natAbs=E at*
   generalize (-f (y+2)-f (y-2)).natAbs=X1 at*
   omega
 · rw[d2]
   have t1:=Int.natAbs_add_le (f (y+4)+2*f y) (f (y-4))
   have t2:=Int.natAbs_add_le (f (y+4)) (2*f y)
   rw[Int.natAbs_mul,show(2:Int).natAbs=2 from rfl]at t2
   clear d1 d2 d3 d4 k2
   generalize (f (y+4)).natAbs=A at*
   generalize (f y).natAbs=E at*
   generalize (f (y-4)).natAbs=F at*
   generalize (f (y+8)).natAbs=G at*
   generalize (f (y-8)).natAbs=H at*
   generalize (f (y+4)+2*f y+f (y-4)).natAbs=X1 at*
   generalize (f (y+4)+2*f y).natAbs=X2 at*
   omega
 · rw[d3]
   exact abs_four _ _ _ _ B (by omega)
 · rw[d4]
   exact abs_five _ _ _ _ _ B (by omega)
theorem jn_small {C:List Cr} {lo:Nat} (hm:mayD C (lo:Nat)=true) (h0:0<C.length) (h9:C.length<=9) (hl:lo<=4) (y:Int):(jnF C lo y).natAbs<=1000000:=by
 have h1:(brS C lo (y+3*wrM C C.length)).natAbs<=1000000:=by
  rw[br_vl hm (by omega) h0]
  have h:=dl_mid (vl_first hm (by omega) h0) (y+3*wrM C C.length) lo hl
  refine Nat.le_trans h ?_
  have:4 ^ (C.length-1)<=4 ^ 8:=Nat.pow_le_pow_right (by omega) (by omega)
  rw[show(4:Nat) ^ 8=65536 from rfl]at this
  omega
 show(sgJ (wrM C C.length)*brS C lo (y+3*wrM C C.length)).natAbs<=_
 rcases sg_two (wrM C C.length) with q|q<;>rw[q]<;>omega
theorem jn_may {C:List Cr} {lo:Nat} {l:List (Int×Int)} (hm:mayD C (lo:Nat)=true) (h0:0<C.length) (h9:C.length<=9) (hl:lo<=4) (h:Canon l (jnF C lo)):mayB l=true:=by
 have hwb:=wrM_bound C C.length
 have mem:∀ i,i<l.length->l.getD i (0,0)∈l:=fun i hi=>by
  rw[List.getD_eq_getElem?_getD,List.getElem?_eq_getElem hi];exact List.getElem_mem hi
 have ex:∀ t∈l,(t.1+3*wrM C C.length-C.length)%2=0 /\ -53<=t.1+3*wrM C C.length/\t.1+3*wrM C C.length<=53:=fun t ht=>by
  have h1:=(h.2 t.1 t.2).1 ht
  have h2:brS C lo (t.1+3*wrM C C.length)≠0:=fun e=>h1.2 (by rw[<-h1.1];show sgJ _*_=0;rw[e,Int.mul_zero])
  have:=br_par C lo _ h2
  omega
 rw[may_iff]
 refine⟨?_,fun i hi=>(okB_iff l i).2 ?_⟩
 · have := few_intsB 31 (l.map fun t => (t.1 + 3 * wrM C C.length - C.length) / 2) (by
     rw[List.pairwise_map]
     exact(List.Pairwise.and_mem.1 h.1).imp fun⟨ha,hb,hab⟩=>by
      have:=ex _ ha
      have:=ex _ hb
      omega) (fun x hx=>by
     rw[List.mem_map]at hx
     obtain⟨t,ht,rfl⟩:=hx
     have:=ex t ht
     omega)
   rw[List.length_map]at this
   omega
 · have ht:=mem i hi
   have h1:=(h.2 (l.getD i (0,0)).1 (l.getD i (0,0)).2).1 ht
   have h2:=ex _ ht
   have h3:=jn_small hm h0 h9 hl (l.getD i (0,0)).1
   rw[h1.1]at h3
   refine⟨by omega,by omega,by omega,by omega,h1.2,fun hp=>?_⟩
   have:=List.pairwise_iff_getElem.1 h.1 (i-1) i (by omega) hi (by omega)
   rw[List.getD_eq_getElem?_getD,List.getD_eq_getElem?_getD,List.getElem?_eq_getElem hi,List.getElem?_eq_getElem (show i-1<l.length by omega)]
   exact this
end Go.Proofs.YtbobljddklldjaaGreatDoor

/- Several texts of the proof, one behind the other. -/
import Derived.Test.YtefooihnoajnlaaHC1P
/- The walk of homfly.Conway. -/
namespace Go.Proofs.Ytefooihnoajnlaa.Poly
open Go.RowKit Go.Maps
set_option maxHeartbeats 4000000
set_option maxRecDepth 100000
def cwL (l:List (Int×Int)):List (Int×Int):=l.map fun t=>(dz t.1,t.2)
def szL (l:List (Int×Int)):Nat:=(l.map fun t=>t.2.natAbs).sum
theorem coefL_sz (l:List (Int×Int)) (x:Int):(coefL l x).natAbs<=szL l:=by
 induction l with
 |nil=>exact Nat.le_refl _
 |cons t l ih=>
  show((if t.1=x then t.2 else 0)+coefL l x).natAbs<=t.2.natAbs+szL l
  split<;>omega
theorem szL_take (l:List (Int×Int)) (k:Nat):szL (l.take k)<=szL l:=by
 induction l generalizing k with
 |nil=>simp
 |cons t l ih=>
  cases k with
  |zero=>exact Nat.zero_le _
  |succ k=>
   have:=ih k
   show t.2.natAbs+szL (l.take k)<=t.2.natAbs+szL l
   omega
theorem canon_sz {l:List (Int×Int)} {f:Int->Int} {B:Nat} (h:Canon l f) (hB:L1 f B):szL l<=B:=by
 have h1:=hB (l.map (·.1)) (by rw[List.pairwise_map];exact h.1.imp (fun {a b} q e=>by have q:a.1<b.1:=q;omega))
 have e:∀ l':List (Int×Int),(∀ t∈l',f t.1=t.2)->((l'.map (·.1)).map fun e=>(f e).natAbs).sum=szL l':=by
  intro l'
  induction l' with
  |nil=>intro _;rfl
  |cons t l' ih=>
   intro hl
   show(f t.1).natAbs+((l'.map (·.1)).map fun e=>(f e).natAbs).sum=t.2.natAbs+szL l'
   rw[ih (fun u hu=>hl u (List.mem_cons_of_mem _ hu)),hl t List.mem_cons_self]
 rw[e l (fun t ht=>((h.2 t.1 t.2).1 ht).1)]at h1
 exact h1
theorem cwL_sz (l:List (Int×Int)):szL (cwL l)=szL l:=by unfold szL cwL;rw[List.map_map];rfl
theorem cwL_at (l:List (Int×Int)) (k:Nat) (hk:k<l.length):(cwL l).getD k (0,0)=(dz (l.getD k (0,0)).1,(l.getD k (0,0)).2):=by
 unfold cwL
 simp[List.getD,hk]
theorem pl2_sz {C:List Cr} {l:List (Int×Int)} {r:Nat} (h:Canon l (pl2 C r)) (hn:C.length<=8) (hr:r<=16):szL l<=1000000000000000:=
 Nat.le_trans (canon_sz h (pl2_L1 C r)) (Nat.le_trans (Nat.pow_le_pow_right (by decide) (show 2*(2*C.length)+r<=48 by omega)) (by decide))
theorem conway_any (hFR : FaceRingsOk) (a : Option Addr) (cap : Nat) (C : List Cr) (loops : Int) (w : World) (h : Crs w w.heap.size (.slice a C.length cap) C) :
    Calls Try.prog 6 #[.agg #[.slice a C.length cap,.int .i64 loops]] w fun e w'=>((hmN C loops≠0/\e=.returned (.tuple #[.slice none 0 0,.int .i64 (hmN C loops)]))∨(hmN C loops=0/\∃ v l lz,e=.returned (.tuple #[v,.int .i64 0])/\Poly w' w'.heap.size v lz/\Canon l (pl2 C loops.toNat)/\Canon lz (coefL (cwL l))/\lz.length<=800001))/\Below w.heap.size w w':=by
 have HC:=hidH h
 have HFA:=hidH hFR
 have hmk:=@run_makeMap Try.prog
 obtain⟨V,hV⟩:∃ V,w.alloc (.cells #[.slice a C.length cap,.int .i64 loops] 24)=V:=⟨_,rfl⟩
 have hBV:Below w.heap.size w V:=by rw[<-hV];exact(Below.refl _ _).alloc (Nat.le_refl _) _
 have hbV:V.heap[w.heap.size]?=some (.cells #[.slice a C.length cap,.int .i64 loops] 24 (0,0)):=by rw[<-hV];exact alloc_at rfl
 have c0:V.cell? ⟨w.heap.size,0,none⟩=some (.slice a C.length cap):=block_cell hbV rfl
 have c1:V.cell? ⟨w.heap.size,1,none⟩=some (.int .i64 loops):=block_cell hbV rfl
 have lV:w.heap.size<V.heap.size:=(Array.getElem?_eq_some_iff.1 hbV).1
 have HV:=hidH hV
 have HBV:=hidH hBV
 have HCV:=hidH (h.up hBV)
 clear hV hbV h hFR hBV
 by_cases hn:hmN C loops=0
 · have HN:=hidH hn
   have hn2:noN C loops=0/\C.length<=8:=by
    unfold hmN at hn
    by_cases q:noN C loops=0
    · rw[if_neg (fun z=>z q)]at hn
      by_cases q2:8<C.length
      · rw[if_pos q2]at hn;omega
      · exact⟨q,by omega⟩
    · rw[if_pos q]at hn;exact absurd hn q
   obtain⟨s1,s2,s3,s4⟩:=(sizeB_iff (may_size (noN_zero hn2.1).1))
   have h8:=hn2.2
   have HDF := hidH ((homfly_any HFA.out a cap C loops V HCV.out).mono (fun e w' (h : _ ∧ _) => (by
    obtain⟨⟨q,-⟩|⟨-,v,l,h1,h2,h3,h4⟩,hb⟩:=h
    · exact absurd HN.out q
    · exact⟨v,l,h1,h2,h3,h4,hb⟩:∃ v l,e=.returned (.tuple #[v,.int .i64 0])/\PolyU w' w'.heap.size v l/\Canon l (pl2 C loops.toNat)/\l.length<=800001/\Below V.heap.size V w')))
   clear hn hn2
   go_enter Try.func6,Try.ntmps6
   go_upto_region 1 with(fail)
   rw[HV.out]
   go_wp2_with (go_at_call 4;refine HDF.out.mono ?_;rintro e9 w2 ⟨v,l,rfl,hp2,hcan,hlen,hb2⟩;refine Hid.out ?_)
   refine Lib.hid ?_
   have HB2:=hidH (HBV.out.trans (hb2.mono HBV.out.size))
   have HCAN:=hidH hcan
   have HSZ:=hidH (pl2_sz hcan h8 (by omega))
   have HP2:=hidH hp2
   clear hb2 hcan c0 c1
   have hsl:∃ a2 c2,v=.slice a2 l.length c2:=by
    rcases hp2 with⟨rfl,rfl⟩|⟨b,off,c,rfl,-⟩
    · exact⟨_,_,rfl⟩
    · exact⟨_,_,rfl⟩
   obtain⟨a2,c2,rfl⟩:=hsl
   clear hp2
   go_wp2
   have hm2:(w2.alloc (.map #[] 0)).ownsMap Try.prog 3 (plainElem Try.prog 3) w2.heap.size 0 (.map []:DataW Unit):=World.ownsMap_made _ _ _ _
   go_loopw [8,20] (fun _ i wr=>∃ (k:Nat) (D:DataW Unit),k<=l.length/\i=.int .i64 (k:Nat)/\wr.ownsMap Try.prog 3 (plainElem Try.prog 3) w2.heap.size k D/\Below w2.heap.size w2 wr/\Hid (∀ x,coefOf D x=coefL ((cwL l).take k) x)) (fun _ i _=>l.length-(intOf i).toNat)
   case atStart=>exact⟨0,.map [],Nat.zero_le _,rfl,hm2,(Below.refl _ _).alloc (Nat.le_refl _) _,fun x=>coefOf_none rfl⟩
   case round=>
    clear hm2
    obtain⟨k,D,hk,rfl,hown,hb,hD⟩:=hrel
    by_cases hlt:k<l.length
    · obtain ⟨bX, off, hbx, hT⟩ : ∃ bX off, a2 = some ⟨bX, off, none⟩ ∧ bX < w2.heap.size ∧ TwosAt w2 bX off l := by
        rcases HP2.out with⟨-,q⟩|⟨b,off,c,e,-,-,q1,q2⟩
        · rw[q]at hlt;simp at hlt
        · injection e with e1 e2 e3
          exact⟨b,off,e1,q1,q2⟩
      subst hbx
      obtain⟨t0,t1,t2⟩:=hT.2.on hb hT.1 k hlt
      have hbw:bX<wr.heap.size:=Nat.lt_of_lt_of_le hT.1 hb.size
      have HS0:=coefL_take (cwL l) k (by unfold cwL;simpa using hlt)
      rw[cwL_at l k hlt]at HS0
      generalize (l.getD k (0,0)).1=e at t0 t1 HS0
      generalize (l.getD k (0,0)).2=c at t2 HS0
      obtain⟨x1,hx1⟩:∃ x1,dx e=x1:=⟨_,rfl⟩
      obtain⟨z1,hz1⟩:∃ z1,dz e=z1:=⟨_,rfl⟩
      have hzb:=(dxz e).2
      rw[hz1]at hzb HS0 t1
      rw[hx1]at t0
      have HS:=hidH HS0
      have HB1:Hid (∀ k x,(coefL ((cwL l).take k) x).natAbs<=1000000000000000):=fun k x=>Nat.le_trans (coefL_sz _ x) (Nat.le_trans (szL_take _ k) (by rw[cwL_sz];exact HSZ.out))
      have hsz:=hb.size
      have hcb : -3000000000000000<=c/\c<=3000000000000000:=by
       have h1:=HB1.out (k+1) z1
       have h2:=HB1.out k z1
       rw[HS.out z1,if_pos rfl]at h1
       omega
      clear HS0 hT hx1 hz1
      have hBlt:=hown.lt
      go_wp2_with (first
       |(at_lookup;refine wpList_lookup_own_int _ rfl _ _ 49 rfl 3 3 .i64 law3 Try.underlying49 Try.underlying3 (zero3 _) w2.heap.size k _ rfl (hown.alloc _) _ _ rfl (keyOf_int_mk Try.underlying3 (WalkArith.wf_i64 (by omega))) ?_;intro c' hat hwc;refine Hid.out ?_))
      refine Lib.hid ?_
      have hc':coefL ((cwL l).take k) z1=c':=by rw[<-hD.out,coefOf_look hat]
      have hbd:=HB1.out k z1
      rw[hc']at hbd
      have HC':Hid (coefL ((cwL l).take k) z1=c'):=hc'
      have hdm:=hown.isMap
      have hwr:IntKind.i64.wrap (c'+c)=c'+c:=wrap_in _ (by omega)
      clear hat hwc hc'
      go_wp2_with (first
       |(at_mapUpdate;refine wpList_mapUpdate_own _ rfl _ _ _ 49 rfl 3 3 law3 Try.underlying49 _ w2.heap.size k _ rfl (hown.alloc _) (by unfold maxLen;omega) _ _ _ rfl rfl (keyOf_int_mk Try.underlying3 (WalkArith.wf_i64 (by omega))) _ [] (plainElem_int Try.underlying3 (WalkArith.wf_i64 (by omega))) ?_;intro w3 hown3 hg3;go_frame))
      go_roundw
      case rel=>
       refine⟨k+1,_,by omega,by go_num,hown3,(hb.alloc hsz _).grown hg3 (by simp;omega) (fun j hj=>by cases hj;exact Nat.le_refl _),fun x=>?_⟩
       rw[coefOf_put hdm,HS.out]
       by_cases hx:z1=x
       · rw[if_pos hx,if_pos hx,<-hx,HC'.out]
       · rw[if_neg hx,if_neg hx,hD.out];omega
      case measure=>simp[intOf];omega
    · obtain rfl:k=l.length:=by omega
      have hD2:Hid (∀ x,coefOf D x=coefL (cwL l) x):=fun x=>by
       rw[hD.out]
       congr 1
       exact List.take_of_length_le (by unfold cwL;simp)
      have hsd:=size_le hown
      have HT:=hidH (terms34 w2.heap.size l.length D wr hown (by omega))
      go_wp2_with (go_at_call 15;refine HT.out.mono ?_;rintro e9 w5 ⟨v5,lz,rfl,hrow,hcz,hlz,hb5⟩;refine Hid.out ?_)
      refine Lib.hid ?_
      have HB5:=hidH (HB2.out.trans ((hb.trans (hb5.mono hb.size)).mono HB2.out.size))
      go_wp2
      go_ret2
      exact⟨Or.inr ⟨HN.out,v5,l,lz,rfl,Poly.ofRow hrow,HCAN.out,canon_congr hcz hD2.out,by omega⟩,HB5.out⟩
 · have HDF := hidH ((homfly_any HFA.out a cap C loops V HCV.out).mono (fun e w' (h : _ ∧ _) => (by
     obtain⟨⟨-,h1⟩|⟨q,-⟩,hb⟩:=h
     · exact⟨h1,hb⟩
     · exact absurd q hn:e=.returned (.tuple #[.slice none 0 0,.int .i64 (hmN C loops)])/\Below V.heap.size V w')))
   have HN:=hidH hn
   obtain⟨q,hq⟩:∃ q,hmN C loops=q:=⟨_,rfl⟩
   rw[hq]at HDF HN
   have HQ:=hidH hq
   have hq0:(q != 0)=true:=by rw[bne_iff_ne];exact HN.out
   have hq1:(q==0)=false:=by rw[beq_eq_false_iff_ne];exact HN.out
   clear hn hq
   go_enter Try.func6,Try.ntmps6
   go_upto_region 1 with(fail)
   rw[HV.out]
   go_wp2_with (go_at_call 4;refine HDF.out.mono ?_;rintro e9 w2 ⟨rfl,hb2⟩;refine Hid.out ?_)
   refine Lib.hid ?_
   have HB3:=hidH (HBV.out.trans (hb2.mono HBV.out.size))
   clear hb2 c0 c1
   go_wp2
   go_ret2
   exact⟨Or.inl (by rw[HQ.out];exact⟨HN.out,rfl⟩),HB3.out⟩
end Go.Proofs.Ytefooihnoajnlaa.Poly
/- How great exponents are of descents' polynomials; sums of a list's terms moved; plain mathematics. -/
namespace Go.Proofs.Ytefooihnoajnlaa.Poly
open Go.RowKit
def Sup (K:Nat) (f:Int->Int):Prop:=∀ e,¬ Inb K e->f e=0
theorem Sup.mono {K L:Nat} {f:Int->Int} (h:Sup K f) (hl:K<=L):Sup L f:=fun e he=>h e (fun q=>he (q.mono hl))
theorem one_sup:Sup 0 one2:=fun e he=>by
 unfold one2
 rw[if_neg (fun q=>he (by rw[q];unfold Inb dx dz;omega))]
theorem Sup.shift {K:Nat} {f:Int->Int} (h:Sup K f) (X Z c:Int) (L:Nat) (hX : -(L:Int)<=X/\X<=L) (hZ : -(L:Int)<=Z/\Z<=L) (hl:K+L<=400):Sup (K+L) (fun e=>c*f (e-(1000*X+Z))):=fun e he=>by
 have : f (e - (1000 * X + Z)) = 0 := h _ (fun q => he (by
  have:=(q.plus hX hZ hl).1
  rw[show e-(1000*X+Z)+(1000*X+Z)=e by omega]at this
  exact this))
 show c*f (e-(1000*X+Z))=0
 rw[this,Int.mul_zero]
theorem Sup.add {K:Nat} {f g:Int->Int} (hf:Sup K f) (hg:Sup K g):Sup K (fun e=>f e+g e):=fun e he=>by
 show f e+g e=0
 rw[hf e he,hg e he]
 rfl
theorem pw_sup:∀ n,n<=300->Sup n (pwR n)
 |0,_=>one_sup
 |1,_=>one_sup.mono (by omega)
 |n+2,hn=>by
  have h:=pw_sup (n+1) (by omega)
  exact(h.shift 1 (-1) 1 1 (by omega) (by omega) (by omega)).add (h.shift (-1) (-1) (-1) 1 (by omega) (by omega) (by omega))
theorem fork_sup {p:Bool} {a b:Int->Int} {K:Nat} (ha:Sup K a) (hb:Sup K b) (hK:K<=300):Sup (K+2) (fork2 p a b):=
 (ha.shift (chX p) 0 1 2 (by cases p<;>(show -((2:Nat):Int)<=_/\_;decide)) (by omega) (by omega)).add (hb.shift (smX p) 1 (smC p) 2 (by cases p<;>(show -((2:Nat):Int)<=_/\_;decide)) (by omega) (by omega))
theorem wk_sup (S:Sys):∀ m s,3*m+s.r<=300->Sup (3*m+s.r) (wk S m s)
 |0,s,h=>(pw_sup s.r (by omega)).mono (by omega)
 |m+1,s,h=>by
  have key:∀ t:Dst,t.r<=s.r+1->Sup (3*m+s.r+1) (wk S m t):=fun t ht=>(wk_sup S m t (by omega)).mono (by omega)
  unfold wk
  split
  · exact(pw_sup s.r (by omega)).mono (by omega)
  · split
    · split
      · exact(fork_sup (key _ (onw_rH _ _ _ _ _)) (key _ (onw_rH _ _ _ _ _)) (by omega)).mono (by omega)
      · exact(key _ (onw_rH _ _ _ _ _)).mono (by omega)
    · exact(key _ (onw_rH _ _ _ _ _)).mono (by omega)
theorem pl2_sup (C:List Cr) (r:Nat) (h:3*(2*C.length)+r<=300):Sup (3*(2*C.length)+r) (pl2 C r):=wk_sup (sysC C) (2*C.length) ⟨1,fun _=>false,fun _=>0,r⟩ h
theorem canon_in {l:List (Int×Int)} {f:Int->Int} {K:Nat} (h:Canon l f) (hs:Sup K f):∀ t∈l,Inb K t.1:=fun t ht=>by
 obtain⟨h1,h2⟩:=(h.2 t.1 t.2).1 ht
 exact Classical.byContradiction fun q=>h2 (by rw[<-h1];exact hs _ q)
theorem canon_few {l:List (Int×Int)} {f:Int->Int} {K:Nat} (h:Canon l f) (hs:Sup K f) (hK:K<=300):l.length<=800001:=by
 have := canon_lenB h 400000 (fun x hx => (Classical.byContradiction fun q => by
  have hi:Inb K x:=Classical.byContradiction fun z=>hx (hs _ z)
  exact q (hi.rg hK):Rg x))
 omega
theorem canon_coef {l:List (Int×Int)} {f:Int->Int} (h:Canon l f):∀ x,coefL l x=f x:=by
 have hz:∀ t∈l,t.2≠0:=fun t ht=>((h.2 t.1 t.2).1 ht).2
 have hs:=canon_self h.1 hz
 intro x
 by_cases e:f x=0
 · by_cases q:coefL l x=0
   · rw[q,e]
   · exact absurd ((h.2 x (coefL l x)).1 ((hs.2 x (coefL l x)).2 ⟨rfl,q⟩)).1 (by rw[e];exact fun z=>q z.symm)
 · exact((hs.2 x (f x)).1 ((h.2 x (f x)).2 ⟨rfl,e⟩)).1
theorem coefL_next (l:List (Int×Int)) (k:Nat) (hk:k<l.length) {e c:Int} (he:(l.getD k (0,0)).1=e) (hc:(l.getD k (0,0)).2=c) (x:Int):coefL (l.take (k+1)) x=coefL (l.take k) x+(if e=x then c else 0):=by rw[coefL_take l k hk x,he,hc]
theorem take_bd {l:List (Int×Int)} {f:Int->Int} {B:Nat} (h:Canon l f) (hB:L1 f B) (k:Nat) (x:Int):(coefL (l.take k) x).natAbs<=B:=Nat.le_trans (coefL_sz _ x) (Nat.le_trans (szL_take _ k) (canon_sz h hB))
theorem take_sup {l:List (Int×Int)} {f:Int->Int} {K:Nat} (h:Canon l f) (hs:Sup K f) (k:Nat):Sup K (coefL (l.take k)):=fun e he=>coefL_zero _ _ (fun t ht q=>he (by rw[<-q];exact canon_in h hs t (List.mem_of_mem_take ht)))
end Go.Proofs.Ytefooihnoajnlaa.Poly

/- Several texts of the proof, one behind the other. -/
import Derived.Test.YtagaajlbkfkaiaaMPaP
import Derived.Test.YtagaajlbkfkaiaaAlk
import Derived.Test.YtagaajlbkfkaiaaF7P
import Derived.BigQuiet
/- MovesBack: two diagrams told alike or not; the walk of slidesBack. -/
namespace Go.Proofs.Ytagaajlbkfkaiaa
open Go.RowKit
set_option maxHeartbeats 16000000
set_option maxRecDepth 100000
theorem alike_some (v1 v2:Value) (C E:List Cr) (lo l2:Int) (w:World) (hm:mayD C lo=true) (hm2:mayD E l2=true) (h1:Crs w w.heap.size v1 E) (h2:Crs w w.heap.size v2 C):
    Calls Try.prog 19 #[.agg #[v1,.int .i64 l2],.agg #[v2,.int .i64 lo]] w fun e w'=>∃ b,e=.returned (.bool b)/\Below w.heap.size w w':=by
 have HM:=hidB hm
 have HM2:=hidB hm2
 obtain⟨a,cap,rfl⟩:=QU6 h1
 obtain⟨a',cap',rfl⟩:=QU6 h2
 obtain⟨X,hX⟩:∃ X,X=w.alloc (.cells #[.slice a E.length cap,.int .i64 l2] 24):=⟨_,rfl⟩
 obtain⟨Y,hY⟩:∃ Y,Y=X.alloc (.cells #[.slice a' C.length cap',.int .i64 lo] 24):=⟨_,rfl⟩
 obtain⟨g1,b1⟩:=boxed h1 hX
 obtain⟨g2,b2⟩:=boxed (h2.up b1) hY
 have g1':=g1.on b2
 have hsX:X.heap.size=w.heap.size+1:=by rw[hX];simp
 have HX:=hidB (show Y=(w.alloc (.cells #[.slice a E.length cap,.int .i64 l2] 24)).alloc (.cells #[.slice a' C.length cap',.int .i64 lo] 24) by rw[hY,hX])
 have HBW:=hidB (b1.trans (b2.mono b1.size))
 obtain⟨c1,p0,p1,p2⟩:=g1'.now
 obtain⟨c2,q0,q1,q2⟩:=g2.now
 have HC1:=hidB c1
 have HC2:=hidB c2
 rw[hsX]at q0 q1 q2
 rw[HX.out]at p0 p1 p2 q0 q1 q2
 clear hX hY g1 g2 g1' b1 b2 hsX h1 h2 hm hm2 c1 c2
 go_enter Try.func19,Try.ntmps19
 go_upto_region 2 with(go_at_call 52;rw[<-HX.out];refine(same_yes _ _ E C l2 lo _ HM2.out HM.out HC1.out HC2.out).mono ?_;rintro e9 w4 ⟨⟨b,rfl,-,-⟩,hb4⟩)
 have H4:=hidB (HBW.out.trans (hb4.mono HBW.out.size))
 clear hb4
 go_wp2
 go_ret
 exact⟨b,rfl,H4.out⟩
structure FcR (W:World) (b off:Nat) (L:List (List Nat)):Prop where
 lt:b<W.heap.size
 at_:∀ j,j<L.length->∃ g c,W.cell? ⟨b,off+j,none⟩=some (.slice (some ⟨g,0,none⟩) (L.getD j []).length c)/\g<W.heap.size/\∀ k,k<(L.getD j []).length->W.cell? ⟨g,k*2,none⟩=some (.int .i64 (dA ((L.getD j []).getD k 0):Nat))
theorem FcR.on {W W':World} {b off:Nat} {L:List (List Nat)} (h:FcR W b off L) (hb:Below W.heap.size W W'):FcR W' b off L:=by
 refine⟨Nat.lt_of_lt_of_le h.lt hb.size,fun j hj=>?_⟩
 obtain⟨g,c,h1,h2,h3⟩:=h.at_ j hj
 exact⟨g,c,bcell hb h.lt h1,Nat.lt_of_lt_of_le h2 hb.size,fun k hk=>bcell hb h2 (h3 k hk)⟩
theorem RingsAt.fc {W:World} {B:Nat} {r:Value} {L:List (List Nat)} {n:Nat} (h:RingsAt W B r L) (hn:L.length=n) (h0:0<n):∃ b off c,r=.slice (some ⟨b,off,none⟩) n c/\FcR W b off L:=by
 obtain⟨a,c,e,f⟩:=h
 obtain⟨b,off,ea,hlt,-,hc⟩:=f (by omega)
 refine⟨b,off,c,by rw[e,ea,hn],hlt,fun j hj=>?_⟩
 obtain⟨g,c',q1,q2,-,q3⟩:=hc j hj
 exact⟨g,c',q1,q2,fun k hk=>(q3 k hk).1⟩
theorem slidesBack_yes (v1 v2:Value) (C:List Cr) (lo:Int) (xn:Nat) (l:List Nat) (w:World) (hm:mayD C lo=true) (hp:QX1 C=true) (hxl:xn<(QQ3 C).length) (hll:(QQ3 C).getD xn []=l) (h3:l.length=3) (hs:slR C l=true) (h1:Crs w w.heap.size v1 C) (h2:Crs w w.heap.size v2 (slLs C l 3)):
    Calls Try.prog 20 #[.agg #[v1,.int .i64 lo],.agg #[v2,.int .i64 lo],.int .i64 (xn:Nat)] w fun e w'=>e=.returned (.bool true)/\Below w.heap.size w w':=by
 have hin:l∈QQ3 C:=by
  rw[<-hll,List.getD_eq_getElem?_getD,List.getElem?_eq_getElem hxl]
  exact List.getElem_mem hxl
 obtain⟨hmD,hpD,l',hin',h3',hs',hback,harc⟩:=slide_all hm hp hin h3 hs
 obtain⟨D,hD⟩:∃ D,slLs C l 3=D:=⟨_,rfl⟩
 rw[hD]at h2 hmD hpD hin' hs' hback
 obtain⟨ix,hix,eix⟩:=List.getElem_of_mem hin'
 have eix:(QQ3 D).getD ix []=l':=by rw[List.getD_eq_getElem?_getD,List.getElem?_eq_getElem hix];exact eix
 have hl16:=QK4 hm
 have hf1:=(QX6 hm).1
 have hf2:=(QX6 hmD).1
 have hl16D:=QK4 hmD
 have hpos1:=fun j hj=>((QX6 hm).2 j hj).1
 have hpos2:=fun j hj=>((QX6 hmD).2 j hj).1
 have hfew2:=fun j hj=>((QX6 hmD).2 j hj).2.1
 -- contracts
 have HF1:Hid (∀ (W:World) (v:Value),Crs W W.heap.size v C->Calls Try.prog 46 #[.agg #[v,.int .i64 lo]] W fun e w'=>∃ b off c,e=.returned (.tuple #[.slice (some ⟨b,off,none⟩) (QQ3 C).length c,.int .i64 0])/\FcR w' b off (QQ3 C)/\Below W.heap.size W w'):=fun W v hv=>(faces_yes QU0 v C lo W hm hv).mono fun e w' ⟨r,q1,q2,q3⟩=>by
  obtain⟨b,off,c,rfl,q4⟩:=(q2.rings hpos1).fc rfl (by omega)
  exact⟨b,off,c,q1,q4,q3⟩
 have HF2:Hid (∀ (W:World) (v:Value),Crs W W.heap.size v D->Calls Try.prog 46 #[.agg #[v,.int .i64 lo]] W fun e w'=>∃ b off c,e=.returned (.tuple #[.slice (some ⟨b,off,none⟩) (QQ3 D).length c,.int .i64 0])/\FcR w' b off (QQ3 D)/\Below W.heap.size W w'):=fun W v hv=>(faces_yes QU0 v D lo W hmD hv).mono fun e w' ⟨r,q1,q2,q3⟩=>by
  obtain⟨b,off,c,rfl,q4⟩:=(q2.rings hpos2).fc rfl (by omega)
  exact⟨b,off,c,q1,q4,q3⟩
 have HDO:Hid (∀ (W:World) (aD:Option Addr) (cD i:Nat),Crs W W.heap.size (.slice aD D.length cD) D->Calls Try.prog 9 #[.agg #[.slice aD D.length cD,.int .i64 lo],.agg #[.int .i64 5,.int .i64 (i:Nat),.int .i64 0,.int .i64 0,.bool false,.int .i64 0,.bool false,.bool false]] W fun e w'=>∃ (E:List Cr) (a2:Option Addr) (c2:Nat) (l2 ce:Int),e=.returned (.tuple #[.agg #[.slice a2 E.length c2,.int .i64 l2],.int .i64 ce])/\Crs w' w'.heap.size (.slice a2 E.length c2) E/\(ce=0->mayD E l2=true)/\(i=ix->ce=0/\E=C/\l2=lo)/\Below W.heap.size W w'):=(fun W aD cD i hW=>by
  obtain⟨E,l2,ce,q1,q2,q3,q4⟩:=way_5 (i:Int) 0 0 false 0 false false hmD hpD
  refine(do_ways _ _ _ _ _ _ _ _ _ (q1 aD cD W hW)).mono fun e w' hh=>?_
  obtain⟨a2,c2,e1,e2,e3⟩:=hh
  have hS:i=ix->Sld D (i:Int) C:=fun ei=>⟨i,l',rfl,by omega,by rw[ei];exact eix,h3',hs',hback.symm⟩
  refine⟨E,a2,c2,l2,ce,e1,crs_own e2 (own_fewQ e2),fun e0=>(q3 e0).1,fun ei=>?_,e3⟩
  have hc0:ce=0:=by
   rcases Decidable.em (ce=0) with q|q
   · exact q
   · rcases q4 with q5|q5
     · obtain⟨i',l9,r1,r2,r3,r4,r5,r6⟩:=q5
       have hz:=(q2 q).1
       have hl9:=slLs_len D l9 3
       rw[<-r6,hz]at hl9
       have:0<D.length:=by
        have:=hf2
        have:=hix
        omega
       have:([]:List Cr).length=0:=rfl
       omega
     · exact absurd (hS ei) (q5.2 C)
  obtain⟨-,-,hcase⟩:=q3 hc0
  rcases hcase with⟨hk,-⟩|⟨hk,-⟩|⟨-,-,el,hE⟩|⟨hk,-⟩|⟨hk,-⟩
  · exact absurd hk (show ¬ (5:Int)=1 by decide)
  · exact absurd hk (show ¬ (5:Int)=3 by decide)
  · obtain⟨i',l9,r1,r2,r3,r4,r5,r6⟩:=hE
    have e7:i'=ix:=by
     have:(i:Int)=(i':Int):=r1
     omega
    rw[e7,eix]at r3
    rw[<-r3,hback]at r6
    exact⟨hc0,r6,el⟩
  · exact absurd hk (show ¬ (5:Int)=2 by decide)
  · exact absurd hk (show ¬ (5:Int)=4 by decide))
 have HAL:Hid (∀ (W:World) (v v':Value) (E:List Cr) (l2:Int),mayD E l2=true->Crs W W.heap.size v E->Crs W W.heap.size v' C->Calls Try.prog 19 #[.agg #[v,.int .i64 l2],.agg #[v',.int .i64 lo]] W fun e w'=>∃ b,e=.returned (.bool b)/\(E=C->l2=lo->b=true)/\Below W.heap.size W w'):=(fun W v v' E l2 hE q1 q2=>by
  by_cases h:E=C/\l2=lo
  · obtain⟨rfl,rfl⟩:=h
    exact(alike_yes v v' E l2 W hE q1 q2).mono fun e w' ⟨r1,r2⟩=>⟨true,r1,fun _ _=>rfl,r2⟩
  · exact(alike_some v v' C E lo l2 W hm hE q1 q2).mono fun e w' ⟨b,r1,r2⟩=>⟨b,r1,fun e1 e2=>absurd ⟨e1,e2⟩ h,r2⟩)
 have HARC:Hid (∀ k,k<3->∃ j,j<3/\dA (l.getD j 0)=dA (l'.getD k 0)):=(fun k hk=>by
  have hmem:l'.getD k 0∈l':=by rw[List.getD_eq_getElem?_getD,List.getElem?_eq_getElem (by omega)];exact List.getElem_mem _
  obtain⟨y,hy,ey⟩:=harc _ hmem
  obtain⟨j,hj,ej⟩:=mem_atZ hy
  exact⟨j,by omega,by rw[ej];exact ey⟩)
 obtain⟨a,cap,rfl⟩:=QU6 h1
 obtain⟨a',cap',rfl⟩:=QU6 h2
 obtain⟨X,hX⟩:∃ X,X=w.alloc (.cells #[.slice a C.length cap,.int .i64 lo] 24):=⟨_,rfl⟩
 obtain⟨Y,hY⟩:∃ Y,Y=X.alloc (.cells #[.slice a' D.length cap',.int .i64 lo] 24):=⟨_,rfl⟩
 obtain⟨g1,b1⟩:=boxed h1 hX
 obtain⟨g2,b2⟩:=boxed (h2.up b1) hY
 have g1':=g1.on b2
 have hsX:X.heap.size=w.heap.size+1:=by rw[hX];simp
 have HX:=hidB (show Y=(w.alloc (.cells #[.slice a C.length cap,.int .i64 lo] 24)).alloc (.cells #[.slice a' D.length cap',.int .i64 lo] 24) by rw[hY,hX])
 have HBW:=hidB (b1.trans (b2.mono b1.size))
 rw[hsX]at g2
 obtain⟨nC,hnC⟩:∃ n,C.length=n:=⟨_,rfl⟩
 obtain⟨nD,hnD⟩:∃ n,D.length=n:=⟨_,rfl⟩
 have HG1:=hidQ g1'
 have HG2:=hidQ g2
 unfold BoxP at HG1 HG2
 rw[hnC]at HG1 HX
 rw[hnD]at HG2 HX HDO
 rw[hnC,hnD]
 obtain⟨nf,hnf⟩:∃ n,(QQ3 C).length=n:=⟨_,rfl⟩
 obtain⟨ng,hng⟩:∃ n,(QQ3 D).length=n:=⟨_,rfl⟩
 have HNF:=hidQ hnf
 have HNG:=hidQ hng
 have HLL:=hidQ hll
 have HEIX:=hidQ eix
 have HL3:=hidQ h3
 have HL3':=hidQ h3'
 have HFEW:=hidQ hfew2
 rw[hnf]at hxl hf1 HF1
 rw[hng]at hix hf2 HF2
 have t0:decide ((xn:Int)<0)=false:=decide_eq_false (by omega)
 have t1:decide ((nf:Int)<=(xn:Int))=false:=decide_eq_false (by omega)
 have t2:decide (nf<=xn)=false:=decide_eq_false (by omega)
 clear hX hY g1 g2 g1' b1 b2 hsX h1 h2 hm hp hmD hpD hin hin' hs hs' hback harc hll eix h3 h3' hpos1 hpos2 hfew2 hnC hnD hnf hng hD
 go_enter Try.func20,Try.ntmps20
 go_upto_region 1 with(fail)
 rw[<-HX.out]
 obtain⟨-,p0,p1,p2⟩:=HG1.out.now
 go_upto_region 2 with(go_at_call 46;refine(HF1.out _ _ HG1.out.now.1).mono ?_;rintro e9 w1 ⟨bf,of,cf,rfl,hr1,hb1⟩;have HR1:=hidQ hr1;have HB1:=hidQ hb1;clear hr1 hb1 p0 p1 p2)
 have HGD1:=hidQ (HG2.out.on HB1.out)
 obtain⟨-,p0,p1,p2⟩:=HGD1.out.now
 go_upto_region 3 with(go_at_call 46;refine(HF2.out _ _ HGD1.out.now.1).mono ?_;rintro e9 w2 ⟨bg,og,cg,rfl,hr2,hb2⟩;have HRG:=hidQ hr2;have HB2:=hidQ (HB1.out.trans (hb2.mono HB1.out.size));have HRF:=hidQ (HR1.out.on hb2);have HGD:=hidQ (HGD1.out.on hb2);clear hr2 hb2 p0 p1 p2)
 have HGC:=hidQ (HG1.out.on HB2.out)
 have HBA:=hidQ (HBW.out.trans (HB2.out.mono HBW.out.size))
 clear HR1 HB1 HGD1 HG1 HG2 HF1 HF2 HX HBW HB2
 go_wp2
 go_loopw [11] (fun v11 wr=>∃ (i:Nat),i<=ix/\v11=.int .i64 (i:Nat)/\Hid (Below w2.heap.size w2 wr)) (fun v11 _=>ng-(intOf v11).toNat)
 case atStart=>exact⟨0,Nat.zero_le _,rfl,Below.refl _ _⟩
 case round=>
  rename World=>W1
  obtain⟨i,hii,rfl,hb⟩:=hrel
  have HB1:=hidQ hb.out
  clear hb
  have hil:i<ng:=by omega
  obtain⟨gg,cgg,q1,q2,q3⟩:=(HRG.out.on HB1.out).at_ i (by rw[HNG.out];exact hil)
  have lbg:=(HRG.out.on HB1.out).lt
  obtain⟨ni,hni⟩:∃ ni,((QQ3 D).getD i []).length=ni:=⟨_,rfl⟩
  have hnf':=HFEW.out i (by rw[HNG.out];exact hil)
  rw[hni]at q1 q3 hnf'
  have HNI:=hidQ hni
  have HIX:Hid (i=ix->ni=3):=(fun e=>by rw[<-HNI.out,e,HEIX.out];exact HL3'.out)
  have HQ3:=hidQ q3
  clear q3 hni
  have hi0:(0:Int)<=(i:Int):=by omega
  have hi1:(i:Int)<(ng:Int):=by omega
  go_wp2
  obtain⟨o0,ho0⟩:∃ o0,((ni:Int)==3)=o0:=⟨_,rfl⟩
  have HO0:Hid (i=ix->o0=true):=(fun e=>by rw[<-ho0,HIX.out e];rfl)
  rw[ho0]
  clear ho0
  go_loopw [12,13] (fun v12 v13 wr=>∃ (k:Nat) (o:Bool),k<=ni/\v13=.int .i64 (k:Nat)/\v12=.bool o/\Hid (i=ix->o=true)/\Hid (Below w2.heap.size w2 wr)) (fun _ v13 _=>ni-(intOf v13).toNat)
  case atStart=>exact⟨0,o0,Nat.zero_le _,rfl,rfl,HO0,HB1⟩
  case round=>
   rename World=>W2
   obtain⟨k,o,hkn,rfl,rfl,hoi,hb⟩:=hrel
   have HOI:=hidQ hoi.out
   have HB2:=hidQ hb.out
   clear hoi hb q1 q2 lbg
   obtain⟨gg2,cgg2,q1,q2,q3⟩:=(HRG.out.on HB2.out).at_ i (by rw[HNG.out];exact hil)
   have lbg:=(HRG.out.on HB2.out).lt
   rw[HNI.out]at q1 q3
   have HQ4:=hidQ q3
   clear q3
   by_cases hkl:k<ni
   · go_wp2
     go_loopw [14,15] (fun v14 v15 wr=>∃ (j:Nat) (t:Bool),j<=3/\v15=.int .i64 (j:Nat)/\v14=.bool t/\Hid ((∃ j',j'<j/\dA (l.getD j' 0)=dA (((QQ3 D).getD i []).getD k 0))->t=true)/\Hid (Below w2.heap.size w2 wr)) (fun _ v15 _=>3-(intOf v15).toNat)
     case atStart=>exact⟨0,false,by omega,rfl,rfl,fun h=>by obtain⟨j',h1,-⟩:=h;omega,HB2⟩
     case round=>
      rename World=>W3
      obtain⟨j,t,hj3,rfl,rfl,hti,hb⟩:=hrel
      have HTI:=hidQ hti.out
      have HB3:=hidQ hb.out
      clear hti hb q1 q2 lbg
      obtain⟨gg3,cgg3,q1,q2,q3⟩:=(HRG.out.on HB3.out).at_ i (by rw[HNG.out];exact hil)
      have lbg:=(HRG.out.on HB3.out).lt
      rw[HNI.out]at q1 q3
      obtain⟨gf3,cff3,f1,f2,f3⟩:=(HRF.out.on HB3.out).at_ xn (by rw[HNF.out];exact hxl)
      have lbf:=(HRF.out.on HB3.out).lt
      rw[HLL.out,HL3.out]at f1 f3
      have hx0:(0:Int)<=(xn:Int):=by omega
      have hx1:(xn:Int)<(nf:Int):=by omega
      have hk0:(0:Int)<=(k:Int):=by omega
      have hk1:(k:Int)<(ni:Int):=by omega
      by_cases hjl:j<3
      · have c1:=f3 j hjl
        have c2:=q3 k hkl
        obtain⟨A,hA⟩:∃ A,dA (l.getD j 0)=A:=⟨_,rfl⟩
        obtain⟨B,hB⟩:∃ B,dA (((QQ3 D).getD i []).getD k 0)=B:=⟨_,rfl⟩
        rw[hA]at c1
        rw[hB]at c2
        have HA:=hidQ hA
        have HBB:=hidQ hB
        have hj0:(0:Int)<=(j:Int):=by omega
        have hj1:(j:Int)<(3:Int):=by omega
        clear f3 q3 hA hB
        cases t with
        |true=>
         go_wp2
         go_quiet (fail)
         go_wp2
         go_roundw
         case rel=>exact⟨j+1,true,by omega,by go_num,rfl,fun _=>rfl,below_drewN HB3.out _⟩
         case measure=>simp only[intOf];omega
        |false=>
         obtain⟨tt,htt⟩:∃ tt,((A:Int)==(B:Int))=tt:=⟨_,rfl⟩
         have HTT:Hid (A=B->tt=true):=(fun e=>by rw[<-htt,e];simp)
         go_wp2
         go_quiet (fail)
         go_wp2
         go_roundw
         case rel=>
          refine⟨j+1,tt,by omega,by go_num,by first|rw[htt]|rfl,fun h=>?_,below_drewN HB3.out _⟩
          obtain⟨j',h1,h2⟩:=h
          rcases Nat.lt_or_ge j' j with q|q
          · have:=HTI.out ⟨j',q,h2⟩
            cases this
          · obtain rfl:j'=j:=by omega
            exact HTT.out (by rw[<-HA.out,<-HBB.out];exact h2)
         case measure=>simp only[intOf];omega
      · obtain rfl:j=3:=by omega
        have HON:Hid (i=ix->(o&&t)=true):=(fun e=>by
         have h1:=HOI.out e
         have hk3:k<3:=by have:=HIX.out e;omega
         obtain⟨j',h2,h4⟩:=HARC.out k hk3
         have h5:=HTI.out ⟨j',h2,by rw[e,HEIX.out];exact h4⟩
         rw[h1,h5]
         rfl)
        clear f3 q3
        cases o with
        |true=>
         go_wp2
         go_roundw
         case rel=>exact⟨k+1,t,by omega,by go_num,rfl,fun e=>by have:=HON.out e;rwa [Bool.true_and]at this,HB3⟩
         case measure=>simp only[intOf];omega
        |false=>
         go_wp2
         go_roundw
         case rel=>exact⟨k+1,false,by omega,by go_num,rfl,fun e=>by have:=HON.out e;rwa [Bool.false_and]at this,HB3⟩
         case measure=>simp only[intOf];omega
   · obtain rfl:k=ni:=by omega
     cases o with
     |false=>
      have hne:i≠ix:=fun e=>by have:=HOI.out e;cases this
      go_wp2
      go_roundw
      case rel=>exact⟨i+1,by omega,by go_num,HB2⟩
      case measure=>simp only[intOf];omega
     |true=>
      obtain⟨cD,p0,p1,p2⟩:=(HGD.out.on HB2.out).now
      have HCD:=hidQ cD
      have HGC2:=hidQ (HGC.out.on HB2.out)
      clear cD
      go_upto_region 20 with(go_at_call 9;refine(HDO.out _ _ _ i HCD.out).mono ?_;rintro e9 w6 ⟨E,a2,c2,l2,ce,rfl,hcE,hmE,hxE,hb6⟩;have HCE:=hidQ hcE;have HME:=hidQ hmE;have HXE:=hidQ hxE;have HB6:=hidQ (HB2.out.trans (hb6.mono HB2.out.size));have H26:=hidQ hb6;clear hcE hmE hxE hb6 p0 p1 p2)
      obtain⟨Z,hZ⟩:∃ Z,Z=w6.alloc (.cells #[.slice a2 E.length c2,.int .i64 l2] 24):=⟨_,rfl⟩
      obtain⟨gZ,bZ⟩:=boxed HCE.out hZ
      have HGZ:=hidQ gZ
      have HBZ:=hidQ (HB6.out.trans (bZ.mono HB6.out.size))
      have HGCZ:=hidQ (HGC.out.on HBZ.out)
      rw[<-hZ]
      clear hZ gZ bZ
      obtain⟨cZ,z0,z1,z2⟩:=HGZ.out.now
      obtain⟨cC,x0,x1,x2⟩:=HGCZ.out.now
      have HCZ:=hidQ cZ
      have HCC:=hidQ cC
      clear cZ cC
      rcases Decidable.em (ce=0) with hce|hce
      · subst hce
        go_upto_region 21 with(go_at_call 19;refine(HAL.out _ _ _ E l2 (HME.out rfl) HCZ.out HCC.out).mono ?_;rintro e9 w8 ⟨b,rfl,hbb,hb8⟩;have HBB:=hidQ hbb;have HB8:=hidQ (HBZ.out.trans (hb8.mono HBZ.out.size));clear hbb hb8 z0 z1 z2 x0 x1 x2)
        · go_wp2
          go_ret
          exact⟨rfl,HBA.out.trans (HB8.out.mono HBA.out.size)⟩
        · rename_i hbf
          have hne:i≠ix:=fun e=>by
           have h9:=HBB.out (HXE.out e).2.1 (HXE.out e).2.2
           rw[hbf]at h9
           cases h9
          exact⟨⟨i+1,by omega,by go_num,HB8⟩,by simp only[intOf];omega⟩
      · have hce0:(ce==0)=false:=by simp[hce]
        have hne:i≠ix:=fun e=>hce (HXE.out e).1
        clear hce
        go_wp2
        go_roundw
        case rel=>exact⟨i+1,by omega,by go_num,HBZ⟩
        case measure=>simp only[intOf];omega
end Go.Proofs.Ytagaajlbkfkaiaa
/- The statement MovesBack: its walk. -/
namespace Go.Proofs.Ytagaajlbkfkaiaa
open Go.RowKit
set_option maxHeartbeats 16000000
set_option maxRecDepth 100000
def MvB (g:Nat) (m:Mo) (w:World):Prop:=w.cell? ⟨g,0,none⟩=some (.int .i64 m.k)/\w.cell? ⟨g,1,none⟩=some (.int .i64 m.x)/\w.cell? ⟨g,2,none⟩=some (.int .i64 m.y)/\w.cell? ⟨g,3,none⟩=some (.int .i64 m.u)/\w.cell? ⟨g,4,none⟩=some (.bool m.ub)/\w.cell? ⟨g,5,none⟩=some (.int .i64 m.v)/\w.cell? ⟨g,6,none⟩=some (.bool m.vb)/\w.cell? ⟨g,7,none⟩=some (.bool m.ov)/\g<w.heap.size
theorem mv_boxed {w Y:World} {m:Mo} (hY:Y=w.alloc (.cells #[.int .i64 m.k,.int .i64 m.x,.int .i64 m.y,.int .i64 m.u,.bool m.ub,.int .i64 m.v,.bool m.vb,.bool m.ov] 28)):Good Y (MvB w.heap.size m)/\Below w.heap.size w Y:=by
 have hb:Below w.heap.size w Y:=by rw[hY];exact(Below.refl _ _).alloc (Nat.le_refl _) _
 have hT:Y.heap[w.heap.size]?=some (.cells #[.int .i64 m.k,.int .i64 m.x,.int .i64 m.y,.int .i64 m.u,.bool m.ub,.int .i64 m.v,.bool m.vb,.bool m.ov] 28 (0,0)):=by rw[hY];exact alloc_at rfl
 have hs:w.heap.size<Y.heap.size:=(Array.getElem?_eq_some_iff.1 hT).1
 refine⟨fun w' h'=>?_,hb⟩
 have g:=(h'.block _ hs).trans hT
 exact⟨QQ0 g rfl,QQ0 g rfl,QQ0 g rfl,QQ0 g rfl,QQ0 g rfl,QQ0 g rfl,QQ0 g rfl,QQ0 g rfl,(Array.getElem?_eq_some_iff.1 g).1⟩
theorem movesBack_no (v:Value) (C:List Cr) (loops:Int) (m:Mo) (w:World) (ce:Int) (hn:(mayD C loops&&QX1 C)=false/\ce=7∨(mayD C loops&&QX1 C)=true/\ce≠0) (h:Crs w w.heap.size v C) (hW:Wyq C loops m [] 0 ce):
    Calls Try.prog 6 #[.agg #[v,.int .i64 loops],m.val] w fun e w'=>e=.returned (.bool true)/\Below w.heap.size w w':=by
 obtain⟨a,cap,rfl⟩:=QU6 h
 obtain⟨X,hX⟩:∃ X,X=w.alloc (.cells #[.slice a C.length cap,.int .i64 loops] 24):=⟨_,rfl⟩
 obtain⟨Y,hY⟩:∃ Y,Y=X.alloc (.cells #[.int .i64 m.k,.int .i64 m.x,.int .i64 m.y,.int .i64 m.u,.bool m.ub,.int .i64 m.v,.bool m.vb,.bool m.ov] 28):=⟨_,rfl⟩
 obtain⟨g1,b1⟩:=boxed h hX
 obtain⟨g2,b2⟩:=mv_boxed hY
 have g1':=g1.on b2
 have hsX:X.heap.size=w.heap.size+1:=by rw[hX];simp
 have HX:=hidQ (show Y=(w.alloc (.cells #[.slice a C.length cap,.int .i64 loops] 24)).alloc (.cells #[.int .i64 m.k,.int .i64 m.x,.int .i64 m.y,.int .i64 m.u,.bool m.ub,.int .i64 m.v,.bool m.vb,.bool m.ov] 28) by rw[hY,hX])
 have HBW:=hidQ (b1.trans (b2.mono b1.size))
 rw[hsX]at g2
 have HPL:Hid (∀ W,Crs W W.heap.size (.slice a C.length cap) C->Calls Try.prog 18 #[.agg #[.slice a C.length cap,.int .i64 loops]] W fun e w'=>(ce=7/\(e=.returned (.tuple #[.bool false,.int .i64 7])∨e=.returned (.tuple #[.bool false,.int .i64 0]))∨ce≠0/\e=.returned (.tuple #[.bool true,.int .i64 0]))/\Below W.heap.size W w'):=(fun W hW=>by
  cases hm:mayD C loops with
  |false=>
   rcases hn with hn|hn
   · exact(planar_no _ C loops W hm hW).mono fun e w' ⟨h1,h2⟩=>⟨Or.inl ⟨hn.2,Or.inl h1⟩,h2⟩
   · rw[hm]at hn
     exact absurd hn.1 (by simp)
  |true=>
   rw[hm,Bool.true_and]at hn
   have h1:=planar_yes QU0 _ C loops W hm hW
   rcases hn with hn|hn
   · rw[hn.1]at h1
     exact h1.mono fun e w' ⟨h1,h2⟩=>⟨Or.inl ⟨hn.2,Or.inr h1⟩,h2⟩
   · rw[hn.1]at h1
     exact h1.mono fun e w' ⟨h1,h2⟩=>⟨Or.inr ⟨hn.2,h1⟩,h2⟩)
 have HDO:Hid (∀ W,Crs W W.heap.size (.slice a C.length cap) C->Calls Try.prog 9 #[.agg #[.slice a C.length cap,.int .i64 loops],.agg #[.int .i64 m.k,.int .i64 m.x,.int .i64 m.y,.int .i64 m.u,.bool m.ub,.int .i64 m.v,.bool m.vb,.bool m.ov]] W fun e w'=>∃ a2 c2,e=.returned (.tuple #[.agg #[.slice a2 0 c2,.int .i64 0],.int .i64 ce])/\Below W.heap.size W w'):=(fun W hW'=>by
  refine(do_ways _ _ _ _ m _ _ _ _ (hW a cap W hW')).mono fun e w' hh=>?_
  obtain⟨a2,c2,e1,-,e3⟩:=hh
  exact⟨a2,c2,e1,e3⟩)
 obtain⟨n,hN⟩:∃ n,C.length=n:=⟨_,rfl⟩
 have HG:=hidQ g1'
 have HM:=hidQ g2
 unfold BoxP at HG
 unfold MvB at HM
 rw[hN]at HPL HG HX HDO
 rw[hN]
 unfold Mo.val
 clear hX hY h g1 g2 g1' b1 b2 hsX hn hN hW
 go_enter Try.func6,Try.ntmps6
 go_upto_region 3 with(go_at_call 17;rw[<-HX.out];refine(awake_any _).mono ?_;rintro e9 w1 ⟨rfl,hb1⟩;have HG1:=hidQ (HG.out.on hb1);have HM1:=hidQ (HM.out.on hb1);have H1:=hidQ (HBW.out.trans (hb1.mono HBW.out.size));clear hb1)
 obtain⟨-,p0,p1,p2⟩:=HG1.out.now
 have mc:=HM1.out.now
 go_upto_region 4 with(go_at_call 9;refine(HDO.out _ HG1.out.now.1).mono ?_;rintro e9 w2 ⟨a2,c2,rfl,hb2⟩;have HG2:=hidQ (HG1.out.on hb2);have H2:=hidQ (H1.out.trans (hb2.mono H1.out.size));clear hb2 p0 p1 p2 mc)
 obtain⟨Z,hZ⟩:∃ Z,w2.alloc (.cells #[.slice a2 0 c2,.int .i64 0] 24)=Z:=⟨_,rfl⟩
 have hb2Z:Below w2.heap.size w2 Z:=by rw[<-hZ];exact(Below.refl _ _).alloc (Nat.le_refl _) _
 have HKZ:=hidQ (show Z.heap[w2.heap.size]?=some (.cells #[.slice a2 0 c2,.int .i64 0] 24 (0,0)) by rw[<-hZ];exact alloc_at rfl)
 have HG3:=hidQ (HG2.out.on hb2Z)
 have H3:=hidQ (H2.out.trans (hb2Z.mono H2.out.size))
 have lZ:w2.heap.size<Z.heap.size:=by rw[<-hZ];simp
 rw[hZ]
 clear hZ hb2Z
 obtain⟨-,p0,p1,p2⟩:=HG3.out.now
 go_upto_region 5 with(go_at_call 18;refine(HPL.out _ HG3.out.now.1).mono ?_;rintro e9 w4 ⟨he,hb4⟩;have H4:=hidQ (H3.out.trans (hb4.mono H3.out.size));have HK4:=hidQ ((hb4.block _ lZ).trans HKZ.out);have HE:=hidQ he;clear hb4 p0 p1 p2 he;rcases HE.out with⟨rfl,rfl|rfl⟩|⟨hce,rfl⟩)
 · have k0:w4.cell? ⟨w2.heap.size,0,none⟩=some (.slice a2 0 c2):=QQ0 HK4.out rfl
   clear HE
   go_wp2
   go_ret
   exact⟨rfl,H4.out⟩
 · have k0:w4.cell? ⟨w2.heap.size,0,none⟩=some (.slice a2 0 c2):=QQ0 HK4.out rfl
   clear HE
   go_wp2
   go_ret
   exact⟨rfl,H4.out⟩
 · have k0:w4.cell? ⟨w2.heap.size,0,none⟩=some (.slice a2 0 c2):=QQ0 HK4.out rfl
   have k1:=QQ0 (i:=1) HK4.out rfl
   have hce1:(ce==0)=false:=by simp[hce]
   have hce2:(ce != 0)=true:=by simp[hce]
   clear HE hce
   go_wp2
   go_ret
   exact⟨rfl,H4.out⟩
theorem movesBack_yes (v:Value) (C D:List Cr) (lo l2:Int) (m:Mo) (w:World) (hm:mayD C lo=true) (hp:QX1 C=true) (h:Crs w w.heap.size v C) (hW:Wyq C lo m D l2 0) (hDon:Don C lo m D l2):
    Calls Try.prog 6 #[.agg #[v,.int .i64 lo],m.val] w fun e w'=>e=.returned (.bool true)/\Below w.heap.size w w':=by
 obtain⟨hmD,hpD,hcase⟩:=hDon
 obtain⟨a,cap,rfl⟩:=QU6 h
 obtain⟨X,hX⟩:∃ X,X=w.alloc (.cells #[.slice a C.length cap,.int .i64 lo] 24):=⟨_,rfl⟩
 obtain⟨Y,hY⟩:∃ Y,Y=X.alloc (.cells #[.int .i64 m.k,.int .i64 m.x,.int .i64 m.y,.int .i64 m.u,.bool m.ub,.int .i64 m.v,.bool m.vb,.bool m.ov] 28):=⟨_,rfl⟩
 obtain⟨g1,b1⟩:=boxed h hX
 obtain⟨g2,b2⟩:=mv_boxed hY
 have g1':=g1.on b2
 have hsX:X.heap.size=w.heap.size+1:=by rw[hX];simp
 have HX:=hidQ (show Y=(w.alloc (.cells #[.slice a C.length cap,.int .i64 lo] 24)).alloc (.cells #[.int .i64 m.k,.int .i64 m.x,.int .i64 m.y,.int .i64 m.u,.bool m.ub,.int .i64 m.v,.bool m.vb,.bool m.ov] 28) by rw[hY,hX])
 have HBW:=hidQ (b1.trans (b2.mono b1.size))
 rw[hsX]at g2
 have hl16:=QK4 hm
 have hl16D:=QK4 hmD
 have HPC:Hid (∀ (W:World) (v:Value),Crs W W.heap.size v C->Calls Try.prog 18 #[.agg #[v,.int .i64 lo]] W fun e w'=>e=.returned (.tuple #[.bool true,.int .i64 0])/\Below W.heap.size W w'):=(fun W v hW=>by
  have h1:=planar_yes QU0 v C lo W hm hW
  rw[hp]at h1
  exact h1)
 have HPD:Hid (∀ (W:World) (v:Value),Crs W W.heap.size v D->Calls Try.prog 18 #[.agg #[v,.int .i64 l2]] W fun e w'=>e=.returned (.tuple #[.bool true,.int .i64 0])/\Below W.heap.size W w'):=(fun W v hW=>by
  have h1:=planar_yes QU0 v D l2 W hmD hW
  rw[hpD]at h1
  exact h1)
 have HDO:Hid (∀ W,Crs W W.heap.size (.slice a C.length cap) C->Calls Try.prog 9 #[.agg #[.slice a C.length cap,.int .i64 lo],.agg #[.int .i64 m.k,.int .i64 m.x,.int .i64 m.y,.int .i64 m.u,.bool m.ub,.int .i64 m.v,.bool m.vb,.bool m.ov]] W fun e w'=>∃ a2 c2,e=.returned (.tuple #[.agg #[.slice a2 D.length c2,.int .i64 l2],.int .i64 0])/\Crs w' w'.heap.size (.slice a2 D.length c2) D/\Below W.heap.size W w'):=(fun W hW'=>by
  refine(do_ways _ _ _ _ m _ _ _ _ (hW a cap W hW')).mono fun e w' hh=>?_
  obtain⟨a2,c2,e1,e2,e3⟩:=hh
  exact⟨a2,c2,e1,crs_own e2 (own_fewQ e2),e3⟩)
 have HAL:Hid (∀ (W:World) (v1 v2:Value),Crs W W.heap.size v1 C->Crs W W.heap.size v2 C->Calls Try.prog 19 #[.agg #[v1,.int .i64 lo],.agg #[v2,.int .i64 lo]] W fun e w'=>e=.returned (.bool true)/\Below W.heap.size W w'):=fun W v1 v2 q1 q2=>alike_yes v1 v2 C lo W hm q1 q2
 have HBK:Hid (∀ (G:List Nat),Wyq D l2 (moG G) C lo 0->∀ (W:World) (a2:Option Addr) (c2:Nat),Crs W W.heap.size (.slice a2 D.length c2) D->Calls Try.prog 9 #[.agg #[.slice a2 D.length c2,.int .i64 l2],(moG G).val] W fun e w'=>∃ a3 c3,e=.returned (.tuple #[.agg #[.slice a3 C.length c3,.int .i64 lo],.int .i64 0])/\Crs w' w'.heap.size (.slice a3 C.length c3) C/\Below W.heap.size W w'):=(fun G hG W a2 c2 hW'=>by
  refine(do_ways _ _ _ _ _ _ _ _ _ (hG a2 c2 W hW')).mono fun e w' hh=>?_
  obtain⟨a3,c3,e1,e2,e3⟩:=hh
  exact⟨a3,c3,e1,crs_own e2 (own_fewQ e2),e3⟩)
 have HSB:Hid (m.k=5->Sld C m.x D->l2=lo->∀ (W:World) (v1 v2:Value),Crs W W.heap.size v1 C->Crs W W.heap.size v2 D->Calls Try.prog 20 #[.agg #[v1,.int .i64 lo],.agg #[v2,.int .i64 l2],.int .i64 m.x] W fun e w'=>e=.returned (.bool true)/\Below W.heap.size W w'):=(fun _ hS el W v1 v2 q1 q2=>by
  obtain⟨i,l,e1,e2,e3,e4,e5,e6⟩:=hS
  rw[e1,el]
  rw[e6]at q2
  exact slidesBack_yes v1 v2 C lo i l W hm hp e2 e3 e4 e5 q1 q2)
 obtain⟨n,hN⟩:∃ n,C.length=n:=⟨_,rfl⟩
 obtain⟨nD,hND⟩:∃ n,D.length=n:=⟨_,rfl⟩
 have HG:=hidQ g1'
 have HM:=hidQ g2
 unfold BoxP at HG
 unfold MvB at HM
 rw[hN]at HG HX HDO HBK hcase
 rw[hND]at HDO HBK hcase
 rw[hN]
 unfold Mo.val
 have HCS:=hidQ hcase
 have HNN:=hidQ hN
 have HNDD:=hidQ hND
 rw[hN]at hl16
 rw[hND]at hl16D
 clear hX hY h g1 g2 g1' b1 b2 hsX hm hp hmD hpD hN hND hW hcase
 go_enter Try.func6,Try.ntmps6
 go_upto_region 3 with(go_at_call 17;rw[<-HX.out];refine(awake_any _).mono ?_;rintro e9 w1 ⟨rfl,hb1⟩;have HG1:=hidQ (HG.out.on hb1);have HM1:=hidQ (HM.out.on hb1);have H1:=hidQ (HBW.out.trans (hb1.mono HBW.out.size));clear hb1)
 obtain⟨-,p0,p1,p2⟩:=HG1.out.now
 have mc:=HM1.out.now
 go_upto_region 4 with(go_at_call 9;refine(HDO.out _ HG1.out.now.1).mono ?_;rintro e9 w2 ⟨a2,c2,rfl,hc2,hb2⟩;have HC2:=hidQ hc2;have HG2:=hidQ (HG1.out.on hb2);have HM2:=hidQ (HM1.out.on hb2);have H2:=hidQ (H1.out.trans (hb2.mono H1.out.size));clear hb2 hc2 p0 p1 p2 mc)
 obtain⟨Z,hZ⟩:∃ Z,w2.alloc (.cells #[.slice a2 nD c2,.int .i64 l2] 24)=Z:=⟨_,rfl⟩
 have hZ2:Z=w2.alloc (.cells #[.slice a2 D.length c2,.int .i64 l2] 24):=by rw[HNDD.out];exact hZ.symm
 have hc2:Crs w2 w2.heap.size (.slice a2 D.length c2) D:=by rw[HNDD.out];exact HC2.out
 obtain⟨gZ,bZ⟩:=boxed hc2 hZ2
 have HGA:=hidQ gZ
 unfold BoxP at HGA
 rw[HNDD.out]at HGA
 have HG3:=hidQ (HG2.out.on bZ)
 have HM3:=hidQ (HM2.out.on bZ)
 have H3:=hidQ (H2.out.trans (bZ.mono H2.out.size))
 rw[hZ]
 clear hZ hZ2 hc2 gZ bZ
 obtain⟨-,p0,p1,p2⟩:=HG3.out.now
 go_upto_region 5 with(go_at_call 18;refine(HPC.out _ _ HG3.out.now.1).mono ?_;rintro e9 w4 ⟨rfl,hb4⟩;have H4:=hidQ (H3.out.trans (hb4.mono H3.out.size));have HG4:=hidQ (HG3.out.on hb4);have HM4:=hidQ (HM3.out.on hb4);have HA4:=hidQ (HGA.out.on hb4);clear hb4 p0 p1 p2)
 obtain⟨-,q0,q1,q2⟩:=HA4.out.now
 go_upto_region 10 with(go_at_call 18;refine(HPD.out _ _ HA4.out.now.1).mono ?_;rintro e9 w5 ⟨rfl,hb5⟩;have H5:=hidQ (H4.out.trans (hb5.mono H4.out.size));have HG5:=hidQ (HG4.out.on hb5);have HM5:=hidQ (HM4.out.on hb5);have HA5:=hidQ (HA4.out.on hb5);clear hb5 q0 q1 q2)
 obtain⟨cC,p0,p1,p2⟩:=HG5.out.now
 obtain⟨cD,q0,q1,q2⟩:=HA5.out.now
 have HCC:=hidQ cC
 have HCD:=hidQ cD
 obtain⟨m0,m1,-⟩:=HM5.out.now
 clear cC cD HG HG1 HG2 HG3 HG4 HM HM1 HM2 HM3 HM4 HGA HA4 H1 H2 H3 H4 HPC HPD HDO HX HBW HC2
 rcases HCS.out with⟨hk,hl,hw⟩|⟨hk,hl,hw⟩|⟨hk,hl,el,hS⟩|⟨hk,hl⟩|⟨hk,hl⟩
 · rw[hk]at m0
   have HB:=hidQ (HBK.out _ hw w5 a2 c2 HCD.out)
   have e7:(moG [n]).val=.agg #[.int .i64 2,.int .i64 (n:Nat),.int .i64 0,.int .i64 0,.bool false,.int .i64 0,.bool false,.bool false]:=rfl
   rw[e7]at HB
   clear HCS hw hk hl e7
   go_upto_region 16 with(go_at_call 9;refine HB.out.mono ?_;rintro e9 w6 ⟨a3,c3,rfl,hc6,hb6⟩;have HC6:=hidQ hc6;have H6:=hidQ (H5.out.trans (hb6.mono H5.out.size));have HG6:=hidQ (HG5.out.on hb6);clear hc6 hb6 p0 p1 p2 q0 q1 q2 m0 m1)
   obtain⟨U,hU⟩:∃ U,w6.alloc (.cells #[.slice a3 n c3,.int .i64 lo] 24)=U:=⟨_,rfl⟩
   have hU2:U=w6.alloc (.cells #[.slice a3 C.length c3,.int .i64 lo] 24):=by rw[HNN.out];exact hU.symm
   have hc6:Crs w6 w6.heap.size (.slice a3 C.length c3) C:=by rw[HNN.out];exact HC6.out
   obtain⟨gU,bU⟩:=boxed hc6 hU2
   have HGU:=hidQ gU
   unfold BoxP at HGU
   rw[HNN.out]at HGU
   have HG7:=hidQ (HG6.out.on bU)
   have H7:=hidQ (H6.out.trans (bU.mono H6.out.size))
   rw[hU]
   clear hU hU2 hc6 gU bU
   obtain⟨u9,u0,u1,u2⟩:=HGU.out.now
   obtain⟨t9,t0,t1,t2⟩:=HG7.out.now
   have HU9:=hidQ u9
   have HT9:=hidQ t9
   clear u9 t9
   go_wp2_with (go_at_call 19;refine(HAL.out _ _ _ HU9.out HT9.out).mono ?_;rintro e9 w8 ⟨rfl,hb8⟩)
   go_ret
   exact⟨rfl,H7.out.trans (hb8.mono H7.out.size)⟩
 · rw[hk]at m0
   have HB:=hidQ (HBK.out _ hw w5 a2 c2 HCD.out)
   have e7:(moG [n,n+1]).val=.agg #[.int .i64 4,.int .i64 (n:Nat),.int .i64 ((n:Int)+1),.int .i64 0,.bool false,.int .i64 0,.bool false,.bool false]:=rfl
   rw[e7]at HB
   have hwr:IntKind.i64.wrap ((n:Int)+1)=(n:Int)+1:=IntWalk.i64_in _ (by omega)
   clear HCS hw hk hl e7
   go_upto_region 19 with(go_at_call 9;refine HB.out.mono ?_;rintro e9 w6 ⟨a3,c3,rfl,hc6,hb6⟩;have HC6:=hidQ hc6;have H6:=hidQ (H5.out.trans (hb6.mono H5.out.size));have HG6:=hidQ (HG5.out.on hb6);clear hc6 hb6 p0 p1 p2 q0 q1 q2 m0 m1 hwr)
   obtain⟨U,hU⟩:∃ U,w6.alloc (.cells #[.slice a3 n c3,.int .i64 lo] 24)=U:=⟨_,rfl⟩
   have hU2:U=w6.alloc (.cells #[.slice a3 C.length c3,.int .i64 lo] 24):=by rw[HNN.out];exact hU.symm
   have hc6:Crs w6 w6.heap.size (.slice a3 C.length c3) C:=by rw[HNN.out];exact HC6.out
   obtain⟨gU,bU⟩:=boxed hc6 hU2
   have HGU:=hidQ gU
   unfold BoxP at HGU
   rw[HNN.out]at HGU
   have HG7:=hidQ (HG6.out.on bU)
   have H7:=hidQ (H6.out.trans (bU.mono H6.out.size))
   rw[hU]
   clear hU hU2 hc6 gU bU
   obtain⟨u9,u0,u1,u2⟩:=HGU.out.now
   obtain⟨t9,t0,t1,t2⟩:=HG7.out.now
   have HU9:=hidQ u9
   have HT9:=hidQ t9
   clear u9 t9
   go_wp2_with (go_at_call 19;refine(HAL.out _ _ _ HU9.out HT9.out).mono ?_;rintro e9 w8 ⟨rfl,hb8⟩)
   go_ret
   exact⟨rfl,H7.out.trans (hb8.mono H7.out.size)⟩
 · have HS:=hidQ (HSB.out hk hS el w5 _ _ HCC.out HCD.out)
   rw[hk]at m0
   have hnn:((nD:Int)==(n:Int))=true:=by rw[hl];simp
   obtain⟨mx,hmx⟩:∃ mx,m.x=mx:=⟨_,rfl⟩
   rw[hmx]at m1 HS
   clear HCS hS hk el hl hmx
   go_wp2_with (go_at_call 20;refine HS.out.mono ?_;rintro e9 w8 ⟨rfl,hb8⟩)
   go_ret
   exact⟨rfl,H5.out.trans (hb8.mono H5.out.size)⟩
 · rw[hk]at m0
   have hwr:IntKind.i64.wrap ((n:Int)-1)=(n:Int)-1:=IntWalk.i64_in _ (by omega)
   have hnn:((nD:Int)==(n:Int)-1)=true:=by rw[beq_iff_eq];omega
   clear HCS hk hl
   go_wp2
   go_ret
   exact⟨by first|rfl|simp[hnn]|rw[hnn],H5.out⟩
 · rw[hk]at m0
   have hwr:IntKind.i64.wrap ((n:Int)-2)=(n:Int)-2:=IntWalk.i64_in _ (by omega)
   have hnn:((nD:Int)==(n:Int)-2)=true:=by rw[beq_iff_eq];omega
   clear HCS hk hl
   go_wp2
   go_ret
   exact⟨by first|rfl|simp[hnn]|rw[hnn],H5.out⟩
theorem movesBack_any (v:Value) (C:List Cr) (loops:Int) (m:Mo) (w:World) (hl:C.length<=maxLen) (h:CrsW w w.heap.size v C):
    Calls Try.prog 6 #[.agg #[v,.int .i64 loops],m.val] w fun e w'=>e=.returned (.bool true)/\Below w.heap.size w w':=by
 have hc:=h.crs hl
 cases hn:(mayD C loops&&QX1 C) with
 |false=>
  refine movesBack_no v C loops m w 7 (Or.inl ⟨hn,rfl⟩) hc fun a cap W hW=>Or.inl ⟨rfl,rfl,rfl,fun W2 hW2=>?_⟩
  cases hm:mayD C loops with
  |false=>exact laid_no _ C loops W2 hm (hW.up hW2)
  |true=>
   rw[hm,Bool.true_and]at hn
   exact laid_bad QU0 _ C loops W2 hm hn (hW.up hW2)
 |true=>
  have hn':=hn
  rw[Bool.and_eq_true]at hn
  obtain⟨D,l2,ce,q1,q2,q3⟩:=ways_all m hn.1 hn.2
  rcases Decidable.em (ce=0) with e|e
  · subst e
    exact movesBack_yes v C D loops l2 m w hn.1 hn.2 hc q1 (q3 rfl)
  · obtain⟨rfl,rfl⟩:=q2 e
    exact movesBack_no v C loops m w ce (Or.inr ⟨hn',e⟩) hc q1
end Go.Proofs.Ytagaajlbkfkaiaa

/- Several texts of the proof, one behind the other. -/
import Derived.Test.YtagaajlbkfkaiaaF2P
import Derived.Test.YtagaajlbkfkaiaaW7P
import Derived.Test.YtagaajlbkfkaiaaF6P
import Derived.Test.YtagaajlbkfkaiaaF1P
/- Two rows of rings are held against one another. -/
namespace Go.Proofs.Ytagaajlbkfkaiaa
open Go.RowKit
theorem DartsOwn.vs {w:World} {B:Nat} {v:Value} {L:List (List Nat)} (h:DartsOwn w B v L):VsAt w v (L.map dd):=by
 obtain⟨ys,h1,h2,h3⟩:=h
 refine⟨ys,by simp[h1],slots_of_own h2,fun j hj=>?_⟩
 have hj':j<L.length:=by simpa using hj
 have e:(L.map dd).getD j []=dd (L.getD j []):=by simp[List.getD_eq_getElem?_getD,hj']
 rw[e]
 have:=h3 j hj'
 rw[<-dd_len (L.getD j [])]at this
 exact vs_own this
theorem eqDart (a c:Int) (b d:Bool) (w:World):(Op.equalIn 10000 26 (.agg #[.int .i64 a,.bool b]) (.agg #[.int .i64 c,.bool d])).run Try.prog w=.ok (a==c&&b==d) w:=by
 have u3:=Try.underlying3
 have a3:=Try.isAgg3
 have z3:=Try.sizeOf3
 have u4:=Try.underlying4
 have a4:=Try.isAgg4
 have z4:=Try.sizeOf4
 have hS:Try.prog.underlying 26=some (.struct (Try.prog.fieldsOf 26)):=by kernel_rfl
 have hp:Try.prog.stoodInHeld 26=false:=by kernel_rfl
 rw[show(10000:Nat)=9999+1 from rfl,run_equalIn_agg w 9999 26 _ _ hS hp]
 simp only[Program.fieldsOf,Try.underlying26]
 go_simp
 by_cases h1:a=c<;>by_cases h2:b=d<;>simp[h1,h2]
end Go.Proofs.Ytagaajlbkfkaiaa
/- Plain mathematics: a walk of one strand; how often it comes by, modulo two. -/
namespace Go.Proofs.Ytagaajlbkfkaiaa
theorem comes_over (x:Cr) (s:Nat) (hs:s<4):x.comes ((s+2)%4)=!x.comes s:=by
 have:s=0∨s=1∨s=2∨s=3:=by omega
 unfold Cr.comes
 rcases this with rfl|rfl|rfl|rfl<;>cases x.plus<;>rfl
theorem nx_inj {C:List Cr} {loops:Int} (hm:mayD C loops=true) (a b:Nat) (h1:1<=a) (h2:a<=2*C.length) (h3:1<=b) (h4:b<=2*C.length) (e:nx C a=nx C b):a=b:=by
 obtain⟨-,p2,p3,p4,p5⟩:=to_may hm a h1 h2
 obtain⟨-,q2,q3,q4,q5⟩:=to_may hm b h3 h4
 obtain⟨a1,a2,a3⟩:=nx_may hm a h1 h2
 obtain⟨b1,b2,b3⟩:=nx_may hm b h3 h4
 have ca:=comes_over (C.getD (toC C a) Cr.none) (toS C a) p3
 have cb:=comes_over (C.getD (toC C b) Cr.none) (toS C b) q3
 rw[p5]at ca
 rw[q5]at cb
 have e1:=end_one hm _ a2 a3 _ _ _ p2 (Nat.mod_lt _ (by decide)) a1 ca
 have e2:=end_one hm _ b2 b3 _ _ _ q2 (Nat.mod_lt _ (by decide)) b1 cb
 rw[e]at e1
 rw[e1]at e2
 have hcc:toC C a=toC C b:=by have:=congrArg Prod.fst e2;simp only at this;omega
 have hss:toS C a=toS C b:=by have:=congrArg Prod.snd e2;simp only at this;omega
 rw[hcc,hss]at p4
 omega
end Go.Proofs.Ytagaajlbkfkaiaa
/- Crossings that are taken out, their strands going on: what the reference's rounds and tests come to is what the code's merging comes to. Plain mathematics: no program is named here. -/
namespace Go.Proofs.Ytagaajlbkfkaiaa
theorem com_two (x:Cr) (s:Nat) (hs:s<4) (h:x.comes s=true):x.comes ((s+2)%4)=false:=by
 match s,hs,h with
 |0,_,_=>rfl
 |1,_,h=>simp[Cr.comes]at h ⊢;simp[h]
 |2,_,h=>simp[Cr.comes]at h
 |3,_,h=>simp[Cr.comes]at h ⊢;simp[h]
theorem com_three {x:Cr} (h:x.plus=true):x.comes 3=true:=by simp[Cr.comes,h]
theorem com_one {x:Cr} (h:x.plus=false):x.comes 1=true:=by simp[Cr.comes,h]
theorem nx_goes {C:List Cr} {loops:Int} (hm:mayD C loops=true):Goes C (nx C) where
 closed:=nx_closed hm
 inj:=fun a b a1 a2 b1 b2 e=>nx_inj hm a b a1 a2 b1 b2 e
 out:=fun a a1 a2=>by
  have ha:=nx_may hm a a1 a2
  obtain⟨-,i1,s1,r1,q1⟩:=to_may hm a a1 a2
  have ea:=end_one hm (nx C a) ha.2.1 ha.2.2 false (toC C a) ((toS C a+2)%4) i1 (by omega) ha.1 (com_two _ _ s1 q1)
  unfold enC
  rw[ea]
  rfl
def tkE (C:List Cr) (G:List Nat):List (Nat×Nat):=G.flatMap fun g=>[(((C.getD g Cr.none).arc 0).toNat,((C.getD g Cr.none).arc 2).toNat),(((C.getD g Cr.none).arc 1).toNat,((C.getD g Cr.none).arc 3).toNat)]
theorem mem_tkE {C:List Cr} {G:List Nat} {e:Nat×Nat}:e∈tkE C G↔∃ g,g∈G/\∃ k,k<2/\e=(((C.getD g Cr.none).arc k).toNat,((C.getD g Cr.none).arc (k+2)).toNat):=by
 unfold tkE
 rw[List.mem_flatMap]
 constructor
 · rintro⟨g,hg,he⟩
   rcases List.mem_cons.1 he with h|h
   · exact⟨g,hg,0,by omega,h⟩
   · rcases List.mem_cons.1 h with h|h
     · exact⟨g,hg,1,by omega,h⟩
     · cases h
 · rintro⟨g,hg,k,hk,rfl⟩
   refine⟨g,hg,?_⟩
   match k,hk with
   |0,_=>exact List.mem_cons_self
   |1,_=>exact List.mem_cons_of_mem _ List.mem_cons_self
theorem con_sub {E F:List (Nat×Nat)} (h:∀ e,e∈E->Con F e.1 e.2) {u v:Nat} (c:Con E u v):Con F u v:=fun S hS hu=>
 c S (fun e he=>⟨h e he S hS,(h e he).symm S hS⟩) hu
theorem nx_at {C:List Cr} {loops:Int} (hm:mayD C loops=true) (g s:Nat) (hg:g<C.length) (hs:s<4) (hc:(C.getD g Cr.none).comes s=true):
    1<=((C.getD g Cr.none).arc s).toNat/\((C.getD g Cr.none).arc s).toNat<=2*C.length/\toC C ((C.getD g Cr.none).arc s).toNat=g/\nx C ((C.getD g Cr.none).arc s).toNat=((C.getD g Cr.none).arc ((s+2)%4)).toNat:=by
 obtain⟨t1,t2,t3,t4⟩:=to_side hm g s hg hs hc
 have h:=(nx_may hm _ t1 t2).1
 rw[t3,t4]at h
 refine⟨t1,t2,t3,?_⟩
 omega
theorem con_tk {C:List Cr} {loops:Int} (hm:mayD C loops=true) (G:List Nat) (hG:∀ g,g∈G->g<C.length) (u v:Nat):Con (uTo C (nx C) G (2*C.length)) u v↔Con (tkE C G) u v:=by
 constructor
 · refine con_sub fun e he=>?_
   obtain⟨a,a1,a2,a3,rfl⟩:=mem_uTo.1 he
   obtain⟨-,i1,s1,r1,q1⟩:=to_may hm a a1 a2
   have h:=(nx_may hm a a1 a2).1
   have ea:a=((C.getD (toC C a) Cr.none).arc (toS C a)).toNat:=by omega
   have en:nx C a=((C.getD (toC C a) Cr.none).arc ((toS C a+2)%4)).toNat:=by omega
   show Con (tkE C G) a (nx C a)
   rw[en]
   have key:∀ k,k<2->Con (tkE C G) ((C.getD (toC C a) Cr.none).arc k).toNat ((C.getD (toC C a) Cr.none).arc (k+2)).toNat:=fun k hk=>Con.edge (mem_tkE.2 ⟨_,a3,k,hk,rfl⟩)
   conv=>lhs;rw[ea]
   generalize toS C a=s at s1 q1
   match s,s1,q1 with
   |0,_,_=>exact key 0 (by omega)
   |1,_,_=>exact key 1 (by omega)
   |2,_,q=>simp[Cr.comes]at q
   |3,_,_=>exact(key 1 (by omega)).symm
 · refine con_sub fun e he=>?_
   obtain⟨g,hg,k,hk,rfl⟩:=mem_tkE.1 he
   have hgl:=hG g hg
   have key:∀ s,s<4->(C.getD g Cr.none).comes s=true->Con (uTo C (nx C) G (2*C.length)) ((C.getD g Cr.none).arc s).toNat ((C.getD g Cr.none).arc ((s+2)%4)).toNat:=fun s hs hc=>by
    obtain⟨t1,t2,t3,t4⟩:=nx_at hm g s hgl hs hc
    rw[<-t4]
    exact Con.edge (mem_uTo.2 ⟨_,t1,t2,by rw[t3];exact hg,rfl⟩)
   match k,hk with
   |0,_=>exact key 0 (by omega) rfl
   |1,_=>
    cases hp:(C.getD g Cr.none).plus with
    |true=>exact(key 3 (by omega) (com_three hp)).symm
    |false=>exact key 1 (by omega) (com_one hp)
theorem tk_lt {C:List Cr} {loops:Int} (hm:mayD C loops=true) (G:List Nat) (hG:∀ g,g∈G->g<C.length):∀ e,e∈tkE C G->e.1<2*C.length+1/\e.2<2*C.length+1:=fun e he=>by
 obtain⟨g,hg,k,hk,rfl⟩:=mem_tkE.1 he
 have h1:=en_one hm g k (hG g hg) (by omega)
 have h2:=en_one hm g (k+2) (hG g hg) (by omega)
 exact⟨by have:=h1.2.1;simp only;omega,by have:=h2.2.1;simp only;omega⟩
theorem take_levels {C:List Cr} {loops:Int} (hm:mayD C loops=true) (G:List Nat) (hG:∀ g,g∈G->g<C.length):levR (List.range (2*C.length+1)) (tkE C G) (2*C.length+1)=uniM C (nx C) G:=by
 have h1:=uni_least (G:=G) (nx_goes hm).closed
 have h2:Least (tkE C G) (2*C.length+1) (uniM C (nx C) G):=⟨h1.1,fun v hv=>⟨(con_tk hm G hG _ _).1 (h1.2 v hv).1,fun u hu=>(h1.2 v hv).2 u ((con_tk hm G hG _ _).2 hu)⟩⟩
 exact Least.eq (levR_least (tk_lt hm G hG) _ (Nat.le_refl _)) h2
end Go.Proofs.Ytagaajlbkfkaiaa
/- Plain mathematics: the faces of what is left are the straight rings that meet it. -/
namespace Go.Proofs.Ytagaajlbkfkaiaa
theorem fs_bij {C:List Cr} {loops:Int} (hm:mayD C loops=true) (G:List Nat):Bij (up0 (fs C G)) (4*C.length+1):=by
 refine bij_up0 (fun a h1 h2=>fs_may hm G h1 h2) fun x y x1 x2 y1 y2 e=>?_
 obtain⟨g1,g2,g3⟩:=ein_onto hm x1 x2
 obtain⟨k1,k2,k3⟩:=ein_onto hm y1 y2
 have form:∀ k s,k<C.length->s<4->fs C G (ein C k s)=pd C (4*k+(s+if k∈G then 2 else 3)%4):=fun k s hk hs=>by
  by_cases q:k∈G
  · rw[fs_in hm hk hs q,if_pos q]
  · obtain⟨-,-,e1,-,-,e5⟩:=ein_at hm k s hk hs
    rw[fs_out (by rw[e1];exact q),e5,if_neg q]
 rw[g3,k3,form _ _ g1 g2,form _ _ k1 k2]at e
 rw[g3,k3]
 generalize dC C x=k at*
 generalize dS C x=s at*
 generalize dC C y=j at*
 generalize dS C y=t at*
 have l1:=(pd_at hm k ((s+if k∈G then 2 else 3)%4) g1 (Nat.mod_lt _ (by decide))).2.1
 have l2:=(pd_at hm j ((t+if j∈G then 2 else 3)%4) k1 (Nat.mod_lt _ (by decide))).2.1
 rw[e,l2]at l1
 subst l1
 have:=pd_ne hm k1 (Nat.mod_lt _ (by decide)) (Nat.mod_lt _ (by decide)) e
 have est:s=t:=by
  revert this
  split<;>intro this<;>omega
 rw[est]
def Rd (C:List Cr) (G L:List Nat) (P:Nat->Bool) (j:Nat):Nat:=ein (lft C G L P) (posG G (dC C j)) (dS C j)
theorem Lft.same {C:List Cr} {loops:Int} {G L:List Nat} {P:Nat->Bool} (h:Lft C loops G L P) {j w:Nat} (j1:1<=j) (j2:j<=4*C.length) (w1:1<=w) (w2:w<=4*C.length) (hj:dC C j ∉ G) (hw:dC C w ∉ G) (e:L.getD (dA j) 0=L.getD (dA w) 0) (ed:dB j=dB w):j=w:=by
 obtain⟨g1,g2,g3⟩:=ein_onto h.hm j1 j2
 obtain⟨k1,k2,k3⟩:=ein_onto h.hm w1 w2
 obtain⟨a1,a2⟩:=ein_arc h.hm g1 g2
 obtain⟨b1,b2⟩:=ein_arc h.hm k1 k2
 rw[<-g3]at a1 a2
 rw[<-k3]at b1 b2
 rw[a1,b1]at e
 rw[a2,b2]at ed
 obtain⟨q1,q2⟩:=h.one g1 hj g2 k1 hw k2 e (by revert ed;cases (C.getD (dC C j) Cr.none).comes (dS C j)<;>cases (C.getD (dC C w) Cr.none).comes (dS C w)<;>intro ed<;>first|rfl|cases ed)
 rw[g3,k3,q1,q2]
theorem Lft.rd {C:List Cr} {loops lo:Int} {G L:List Nat} {P:Nat->Bool} (h:Lft C loops G L P) (hD:mayD (lft C G L P) lo=true) {j:Nat} (j1:1<=j) (j2:j<=4*C.length) (hj:dC C j ∉ G):
    1<=Rd C G L P j/\Rd C G L P j<=4*(lft C G L P).length/\Rd C G L P j=mkD (cntB P (L.getD (dA j) 0)+1) (dB j):=by
 obtain⟨g1,g2,g3⟩:=ein_onto h.hm j1 j2
 have hp:posG G (dC C j)<(lft C G L P).length:=by rw[Lft.len];exact posG_lt g1 hj
 obtain⟨e1,e2,-⟩:=ein_at hD _ _ hp g2
 refine⟨e1,e2,?_⟩
 obtain⟨a1,a2⟩:=ein_arc hD hp g2
 obtain⟨b1,b2⟩:=ein_arc h.hm g1 g2
 rw[<-g3]at b1 b2
 have m:=mk_d (j:=Rd C G L P j) e1
 rw[<-m]
 show mkD (dA (ein (lft C G L P) (posG G (dC C j)) (dS C j))) (dB (ein (lft C G L P) (posG G (dC C j)) (dS C j)))=_
 rw[a1,a2,h.arc g1 hj g2,(h.at g1 hj g2).2.2.2,b1,b2]
theorem Lft.rd_inj {C:List Cr} {loops lo:Int} {G L:List Nat} {P:Nat->Bool} (h:Lft C loops G L P) (hD:mayD (lft C G L P) lo=true) {j w:Nat} (j1:1<=j) (j2:j<=4*C.length) (hj:dC C j ∉ G) (w1:1<=w) (w2:w<=4*C.length) (hw:dC C w ∉ G) (e:Rd C G L P j=Rd C G L P w):j=w:=by
 obtain⟨g1,g2,g3⟩:=ein_onto h.hm j1 j2
 obtain⟨k1,k2,k3⟩:=ein_onto h.hm w1 w2
 obtain⟨q1,q2⟩:=ein_inj hD (by rw[Lft.len];exact posG_lt g1 hj) g2 (by rw[Lft.len];exact posG_lt k1 hw) k2 e
 rw[g3,k3,posG_inj hj hw q1,q2]
theorem Lft.rd_onto {C:List Cr} {loops lo:Int} {G L:List Nat} {P:Nat->Bool} (h:Lft C loops G L P) (hD:mayD (lft C G L P) lo=true) {x:Nat} (x1:1<=x) (x2:x<=4*(lft C G L P).length):∃ j,1<=j/\j<=4*C.length/\dC C j ∉ G/\Rd C G L P j=x:=by
 obtain⟨g1,g2,g3⟩:=ein_onto hD x1 x2
 rw[Lft.len]at g1
 obtain⟨k,k1,k2,k3⟩:=posG_onto g1
 obtain⟨e1,e2,e3,e4,-⟩:=ein_at h.hm k _ k1 g2
 refine⟨ein C k (dS (lft C G L P) x),e1,e2,by rw[e3];exact k2,?_⟩
 unfold Rd
 rw[e3,e4,k3]
 exact g3.symm
theorem Lft.turn {C:List Cr} {loops lo:Int} {G L:List Nat} {P:Nat->Bool} (h:Lft C loops G L P) (hD:mayD (lft C G L P) lo=true) {j w:Nat} (j1:1<=j) (j2:j<=4*C.length) (hj:dC C j ∉ G) (w1:1<=w) (w2:w<=4*C.length) (hw:dC C w ∉ G)
    (e:L.getD (dA w) 0=L.getD (dA (fd C j)) 0) (ed:dB w=dB (fd C j)):fd (lft C G L P) (Rd C G L P j)=Rd C G L P w:=by
 obtain⟨g1,g2,g3⟩:=ein_onto h.hm j1 j2
 have hp:posG G (dC C j)<(lft C G L P).length:=by rw[Lft.len];exact posG_lt g1 hj
 have s3:(dS C j+3)%4<4:=Nat.mod_lt _ (by decide)
 rw[(h.rd hD w1 w2 hw).2.2,e,ed]
 have f1:=(ein_at h.hm _ _ g1 g2).2.2.2.2.2
 rw[<-g3]at f1
 have p:=(en_side h.hm _ _ g1 s3).2.2.1
 rw[f1,(pd_at h.hm _ _ g1 s3).1,dA_mk p,dB_mk p]
 show fd (lft C G L P) (ein (lft C G L P) (posG G (dC C j)) (dS C j))=_
 rw[(ein_at hD _ _ hp g2).2.2.2.2.2,(pd_at hD _ _ hp s3).1,h.arc g1 hj s3,(h.at g1 hj s3).2.2.2]
theorem Lft.next {C:List Cr} {loops:Int} {G L:List Nat} {P:Nat->Bool} (h:Lft C loops G L P) {j:Nat} (j1:1<=j) (j2:j<=4*C.length) (hj:dC C j ∉ G):
    ∃ i,(1<=it (up0 (fs C G)) (i+1) j/\it (up0 (fs C G)) (i+1) j<=4*C.length)/\dC C (it (up0 (fs C G)) (i+1) j) ∉ G/\L.getD (dA (it (up0 (fs C G)) (i+1) j)) 0=L.getD (dA (fd C j)) 0/\dB (it (up0 (fs C G)) (i+1) j)=dB (fd C j):=by
 have hB:=fs_bij h.hm G
 have hin:∀ i,1<=it (up0 (fs C G)) i j/\it (up0 (fs C G)) i j<=4*C.length:=fun i=>by
  induction i with
  |zero=>exact⟨j1,j2⟩
  |succ i ih=>show 1<=up0 (fs C G) (it (up0 (fs C G)) i j)/\up0 (fs C G) (it (up0 (fs C G)) i j)<=_;rw[up0_pos _ ih.1];exact fs_may h.hm G ih.1 ih.2
 obtain⟨p,h0,hp⟩:=period hB (x:=j) (by omega)
 obtain⟨i,hi,hmin⟩:=first_of (P:=fun i=>dC C (it (up0 (fs C G)) (i+1) j) ∉ G) ⟨p - 1,by rw[show p - 1+1=p by omega,hp];exact hj⟩
 refine⟨i,hin _,hi,?_⟩
 have key:∀ m,m<=i->L.getD (dA (it (up0 (fs C G)) (m+1) j)) 0=L.getD (dA (fd C j)) 0/\dB (it (up0 (fs C G)) (m+1) j)=dB (fd C j):=by
  intro m
  induction m with
  |zero=>
   intro _
   have e:it (up0 (fs C G)) (0+1) j=fd C j:=by show up0 (fs C G) j=_;rw[up0_pos _ j1,fs_out hj]
   rw[e]
   exact⟨rfl,rfl⟩
  |succ m ih=>
   intro hm
   obtain⟨i1,i2⟩:=ih (by omega)
   have hg:=Classical.not_not.1 (hmin m (by omega))
   obtain⟨s1,s2⟩:=h.straight (hin (m+1)).1 (hin (m+1)).2 hg
   have e:it (up0 (fs C G)) (m+1+1) j=fs C G (it (up0 (fs C G)) (m+1) j):=by show up0 (fs C G) (it (up0 (fs C G)) (m+1) j)=_;rw[up0_pos _ (hin (m+1)).1]
   rw[e,s1,s2]
   exact⟨i1,i2⟩
 exact key i (Nat.le_refl _)
theorem Lft.con {C:List Cr} {loops lo:Int} {G L:List Nat} {P:Nat->Bool} (h:Lft C loops G L P) (hD:mayD (lft C G L P) lo=true) {j w:Nat} (j1:1<=j) (j2:j<=4*C.length) (hj:dC C j ∉ G) (w1:1<=w) (w2:w<=4*C.length) (hw:dC C w ∉ G)
    (hc:Con (eds (up0 (fd (lft C G L P))) (4*(lft C G L P).length+1)) (Rd C G L P j) (Rd C G L P w)):Con (eds (up0 (fs C G)) (4*C.length+1)) j w:=fun S hS hSj=>by
 have hT:Closed (eds (up0 (fd (lft C G L P))) (4*(lft C G L P).length+1)) fun x=>∃ z,(1<=z/\z<=4*C.length/\dC C z ∉ G)/\Rd C G L P z=x/\S z:=closed_eds.2 fun x hx=>by
  rcases Nat.eq_zero_or_pos x with rfl|hx0
  · exact Iff.rfl
  · obtain⟨z,z1,z2,z3,rfl⟩:=h.rd_onto hD hx0 (by omega)
    obtain⟨i,⟨n1,n2⟩,n3,n4,n5⟩:=h.next z1 z2 z3
    have ht:=h.turn hD z1 z2 z3 n1 n2 n3 n4 n5
    rw[up0_pos _ hx0,ht]
    have hs:S z↔S (it (up0 (fs C G)) (i+1) z):=⟨fun q=>con_it (fs_bij h.hm G) (by omega) (i+1) S hS q,fun q=>(con_it (fs_bij h.hm G) (by omega) (i+1)).symm S hS q⟩
    constructor
    · rintro⟨y,⟨y1,y2,y3⟩,ye,ys⟩
      rw[h.rd_inj hD y1 y2 y3 z1 z2 z3 ye]at ys
      exact⟨_,⟨n1,n2,n3⟩,rfl,hs.1 ys⟩
    · rintro⟨y,⟨y1,y2,y3⟩,ye,ys⟩
      rw[h.rd_inj hD y1 y2 y3 n1 n2 n3 ye]at ys
      exact⟨z,⟨z1,z2,z3⟩,rfl,hs.2 ys⟩
 obtain⟨z,⟨z1,z2,z3⟩,ze,zs⟩:=hc _ hT ⟨j,⟨j1,j2,hj⟩,rfl,hSj⟩
 rw[h.rd_inj hD z1 z2 z3 w1 w2 hw ze]at zs
 exact zs
end Go.Proofs.Ytagaajlbkfkaiaa
/- Plain mathematics: straight rings and pieces against those of what is left. -/
namespace Go.Proofs.Ytagaajlbkfkaiaa
theorem cnt_split (P Q:Nat->Bool):∀ l:List Nat,l.countP P=l.countP (fun v=>P v&&Q v)+l.countP fun v=>P v&&!Q v
 |[]=>rfl
 |v::l=>by
  rw[List.countP_cons,List.countP_cons,List.countP_cons,cnt_split P Q l]
  cases P v<;>cases Q v<;>simp<;>omega
def Mt (C:List Cr) (G:List Nat) (E:List (Nat×Nat)) (v:Nat):Prop:=∃ j,(1<=j/\j<=4*C.length/\dC C j ∉ G)/\Con E v j
noncomputable def mtB (C:List Cr) (G:List Nat) (E:List (Nat×Nat)) (v:Nat):Bool:=@decide (Mt C G E v) (Classical.propDecidable _)
theorem mtB_iff {C:List Cr} {G:List Nat} {E:List (Nat×Nat)} {v:Nat}:mtB C G E v=true↔Mt C G E v:=@decide_eq_true_iff _ (Classical.propDecidable _)
def rootB (W:List Nat) (v:Nat):Bool:=decide (W.getD v 0=v)&&decide (1<=v)
theorem Lft.rings {C:List Cr} {loops lo:Int} {G L:List Nat} {P:Nat->Bool} (h:Lft C loops G L P) (hD:mayD (lft C G L P) lo=true):
    (List.range (4*C.length+1)).countP (fun v=>rootB (cyW (up0 (fs C G)) (4*C.length+1)) v&&mtB C G (eds (up0 (fs C G)) (4*C.length+1)) v)<=(facesM (lft C G L P)).length:=by
 have hW:=cyW_least (fs_bij h.hm G).lt
 have hV:=cyW_least (fd_bij hD).lt
 have hF:=cyA_fd hD
 unfold cyA cyN at hF
 rw[rq_pos hV,rq_eq]at hF
 rw[<-Nat.add_right_cancel hF]
 have hw:∀ v,∃ j,mtB C G (eds (up0 (fs C G)) (4*C.length+1)) v=true->(1<=j/\j<=4*C.length/\dC C j ∉ G)/\Con (eds (up0 (fs C G)) (4*C.length+1)) v j:=fun v=>by
  by_cases q:Mt C G (eds (up0 (fs C G)) (4*C.length+1)) v
  · obtain⟨j,hj⟩:=q
    exact⟨j,fun _=>hj⟩
  · exact⟨0,fun e=>absurd (mtB_iff.1 e) q⟩
 obtain⟨w,hw⟩:=Classical.axiomOfChoice hw
 refine inj_cnt (fun v=>(cyW (up0 (fd (lft C G L P))) (4*(lft C G L P).length+1)).getD (Rd C G L P (w v)) 0) (fun v hv hP=>?_) fun u v hu hv hPu hPv e=>?_
 · rw[Bool.and_eq_true]at hP
   obtain⟨⟨j1,j2,j3⟩,-⟩:=hw v hP.2
   obtain⟨r1,r2,-⟩:=h.rd hD j1 j2 j3
   have hl:Rd C G L P (w v)<4*(lft C G L P).length+1:=by omega
   refine⟨hV.lt hl,?_⟩
   rw[Bool.and_eq_true]
   refine⟨decide_eq_true (hV.root hl),decide_eq_true (Nat.pos_of_ne_zero fun q=>?_)⟩
   have:=(hV.2 _ hl).1
   rw[q]at this
   exact zero_apart (fd_closed hD) r1 this
 · rw[Bool.and_eq_true]at hPu hPv
   obtain⟨⟨j1,j2,j3⟩,jc⟩:=hw u hPu.2
   obtain⟨⟨k1,k2,k3⟩,kc⟩:=hw v hPv.2
   obtain⟨r1,r2,-⟩:=h.rd hD j1 j2 j3
   obtain⟨s1,s2,-⟩:=h.rd hD k1 k2 k3
   have c:=h.con hD j1 j2 j3 k1 k2 k3 ((hV.same (by omega) (by omega)).1 e)
   have c2:=(hW.same hu hv).2 (jc.trans (c.trans kc.symm))
   have ru:=hPu.1
   have rv:=hPv.1
   unfold rootB at ru rv
   rw[Bool.and_eq_true,decide_eq_true_eq]at ru rv
   rw[ru.1,rv.1]at c2
   exact c2
theorem Lft.piece {C:List Cr} {loops lo:Int} {G L:List Nat} {P:Nat->Bool} (h:Lft C loops G L P) (hD:mayD (lft C G L P) lo=true) {T:Nat->Prop} (hT:Closed (arcE (lft C G L P)) T) {k s j t:Nat} (hk:k<C.length) (hG:k ∉ G) (hs:s<4) (hj:j<C.length) (hH:j ∉ G) (ht:t<4)
    (e:L.getD (aAt C k s) 0=L.getD (aAt C j t) 0):T (posG G k)↔T (posG G j):=by
 by_cases ec:(C.getD k Cr.none).comes s=(C.getD j Cr.none).comes t
 · rw[(h.one hk hG hs hj hH ht e ec).1]
 · have hp:posG G k<(lft C G L P).length:=by rw[Lft.len];exact posG_lt hk hG
   have hq:posG G j<(lft C G L P).length:=by rw[Lft.len];exact posG_lt hj hH
   obtain⟨a1,-,a3,a4⟩:=en_side hD _ s hp hs
   obtain⟨b1,-,-,-⟩:=en_side hD _ t hq ht
   rw[(h.at hk hG hs).2.2.2]at a1
   rw[(h.at hj hH ht).2.2.2,h.arc hj hH ht,<-e,<-h.arc hk hG hs]at b1
   have ed:=hT _ (mem_arcE a3 a4)
   revert ec a1 b1
   cases (C.getD k Cr.none).comes s<;>cases (C.getD j Cr.none).comes t<;>intro ec a1 b1
   · exact absurd rfl ec
   · rw[a1,b1]at ed;exact ed.symm
   · rw[a1,b1]at ed;exact ed
   · exact absurd rfl ec
theorem Lft.pieces {C:List Cr} {loops lo:Int} {G L:List Nat} {P:Nat->Bool} (h:Lft C loops G L P) (hD:mayD (lft C G L P) lo=true) {k j:Nat} (hk:k<C.length) (hG:k ∉ G) (hj:j<C.length) (hH:j ∉ G)
    (hc:Con (edb (up0 (fs C G)) al (4*C.length+1)) (ein C k 0) (ein C j 0)):Con (arcE (lft C G L P)) (posG G k) (posG G j):=fun T hT hTk=>by
 have hS:Closed (edb (up0 (fs C G)) al (4*C.length+1)) fun z=>1<=z/\∃ k s,(k<C.length/\k ∉ G/\s<4)/\L.getD (aAt C k s) 0=L.getD (dA z) 0/\T (posG G k):=by
  refine closed_edb.2 ⟨fun z hz=>?_,fun z hz=>?_⟩
  · rcases Nat.eq_zero_or_pos z with rfl|z1
    · exact Iff.rfl
    · rw[up0_pos _ z1]
      have f1:=(fs_may h.hm G z1 (by omega)).1
      by_cases hg:dC C z∈G
      · rw[(h.straight z1 (by omega) hg).1]
        exact⟨fun q=>⟨f1,q.2⟩,fun q=>⟨z1,q.2⟩⟩
      · obtain⟨g1,g2,g3⟩:=ein_onto h.hm z1 (by omega)
        have s3:(dS C z+3)%4<4:=Nat.mod_lt _ (by decide)
        have a:=(ein_arc h.hm g1 g2).1
        rw[<-g3]at a
        have f:=(ein_at h.hm _ _ g1 g2).2.2.2.2.2
        rw[<-g3]at f
        have b:dA (fs C G z)=aAt C (dC C z) ((dS C z+3)%4):=by rw[fs_out hg,f,(pd_at h.hm _ _ g1 s3).1,dA_mk (en_side h.hm _ _ g1 s3).2.2.1]
        rw[a,b]
        constructor
        · rintro⟨-,m,s,⟨m1,m2,m3⟩,me,mt⟩
          exact⟨f1,dC C z,(dS C z+3)%4,⟨g1,hg,s3⟩,rfl,(h.piece hD hT m1 m2 m3 g1 hg g2 me).1 mt⟩
        · rintro⟨-,m,s,⟨m1,m2,m3⟩,me,mt⟩
          exact⟨z1,dC C z,dS C z,⟨g1,hg,g2⟩,rfl,(h.piece hD hT m1 m2 m3 g1 hg s3 me).1 mt⟩
  · rcases Nat.eq_zero_or_pos z with rfl|z1
    · exact Iff.rfl
    · obtain⟨a1,-,a3,-⟩:=al_may (n:=C.length) z1 (by omega)
      rw[a3]
      exact⟨fun q=>⟨a1,q.2⟩,fun q=>⟨z1,q.2⟩⟩
 obtain⟨e0,-⟩:=ein_at h.hm k 0 hk (by decide)
 obtain⟨-,m,s,⟨m1,m2,m3⟩,me,mt⟩:=hc _ hS ⟨e0,k,0,⟨hk,hG,by decide⟩,by rw[(ein_arc h.hm hk (by decide)).1],hTk⟩
 rw[(ein_arc h.hm hj (by decide)).1]at me
 exact(h.piece hD hT m1 m2 m3 hj hH (by decide) me).1 mt
end Go.Proofs.Ytagaajlbkfkaiaa
/- Plain mathematics: straight rings that meet nothing that is left; what is left is planar. -/
namespace Go.Proofs.Ytagaajlbkfkaiaa
theorem fs_it {C:List Cr} {loops:Int} (hm:mayD C loops=true) (G:List Nat) {v:Nat} (h1:1<=v) (h2:v<=4*C.length):∀ i,1<=it (up0 (fs C G)) i v/\it (up0 (fs C G)) i v<=4*C.length:=fun i=>by
 induction i with
 |zero=>exact⟨h1,h2⟩
 |succ i ih=>show 1<=up0 (fs C G) (it (up0 (fs C G)) i v)/\up0 (fs C G) (it (up0 (fs C G)) i v)<=_;rw[up0_pos _ ih.1];exact fs_may hm G ih.1 ih.2
theorem fs_back {C:List Cr} {loops:Int} (hm:mayD C loops=true) {G:List Nat} {y:Nat} (h1:1<=y) (h2:y<=4*C.length) (hg:dC C y∈G):dC C (al (fs C G y))=dC C y/\fs C G (al (fs C G y))=al y:=by
 obtain⟨g1,g2,g3⟩:=ein_onto hm h1 h2
 have s2:(dS C y+2)%4<4:=Nat.mod_lt _ (by decide)
 have f:al (fs C G y)=ein C (dC C y) ((dS C y+2)%4):=by
  have:=fs_in hm g1 g2 hg
  rw[<-g3]at this
  rw[this]
  rfl
 have a:=(ein_at hm _ _ g1 g2).2.2.2.2.1
 rw[<-g3]at a
 rw[f,(ein_at hm _ _ g1 s2).2.2.1,fs_in hm g1 s2 hg,show((dS C y+2)%4+2)%4=dS C y by omega,a]
 exact⟨rfl,rfl⟩
theorem Lft.alone {C:List Cr} {loops:Int} {G L:List Nat} {P:Nat->Bool} (h:Lft C loops G L P) {v:Nat} (h1:1<=v) (h2:v<=4*C.length) (hn:¬ Mt C G (eds (up0 (fs C G)) (4*C.length+1)) v):
    ∀ i,dC C (it (up0 (fs C G)) i v)∈G/\dB (it (up0 (fs C G)) i v)=dB v:=fun i=>by
 have hg:∀ i,dC C (it (up0 (fs C G)) i v)∈G:=fun i=>Classical.byContradiction fun q=>hn ⟨_,⟨(fs_it h.hm G h1 h2 i).1,(fs_it h.hm G h1 h2 i).2,q⟩,con_it (fs_bij h.hm G) (by omega) i⟩
 refine⟨hg i,?_⟩
 induction i with
 |zero=>rfl
 |succ i ih=>
  have r:=fs_it h.hm G h1 h2 i
  show dB (up0 (fs C G) (it (up0 (fs C G)) i v))=_
  rw[up0_pos _ r.1,(h.straight r.1 r.2 (hg i)).2,ih]
theorem it_more {f:Nat->Nat} {M:Nat} (h:Bij f M) {v y:Nat} (hv:v<M) (hc:Con (eds f M) v y):∃ i,it f (i+1) v=y:=by
 obtain⟨i,hi⟩:=it_con h hv hc
 obtain⟨p,p0,hp⟩:=period h hv
 refine⟨i+p-1,?_⟩
 rw[show i+p-1+1=i+p by omega,it_add,hp,hi]
theorem Lft.both {C:List Cr} {loops:Int} {G L:List Nat} {P:Nat->Bool} (h:Lft C loops G L P) {v:Nat} (h1:1<=v) (h2:v<=4*C.length) (hn:¬ Mt C G (eds (up0 (fs C G)) (4*C.length+1)) v) {j:Nat}
    (hc:Con (edb (up0 (fs C G)) al (4*C.length+1)) v j):Con (eds (up0 (fs C G)) (4*C.length+1)) v j∨Con (eds (up0 (fs C G)) (4*C.length+1)) v (al j):=by
 have hB:=fs_bij h.hm G
 have fw:∀ z,z<4*C.length+1->(Con (eds (up0 (fs C G)) (4*C.length+1)) v z∨Con (eds (up0 (fs C G)) (4*C.length+1)) v (al z))->(Con (eds (up0 (fs C G)) (4*C.length+1)) v (up0 (fs C G) z)∨Con (eds (up0 (fs C G)) (4*C.length+1)) v (al (up0 (fs C G) z))):=fun z hz q=>by
  rcases q with q|q
  · exact Or.inl (q.trans (con_f hz))
  · obtain⟨i,hi⟩:=it_more hB (by omega) q
    have r:=fs_it h.hm G h1 h2 i
    have hg:=(h.alone h1 h2 hn i).1
    have e:fs C G (it (up0 (fs C G)) i v)=al z:=by rw[<-hi];show _=up0 (fs C G) (it (up0 (fs C G)) i v);rw[up0_pos _ r.1]
    have b:=(fs_back h.hm r.1 r.2 hg).2
    rw[e,al_back]at b
    have z1:1<=z:=by
     rcases Nat.eq_zero_or_pos z with rfl|hp
     · have:=(fs_it h.hm G h1 h2 (i+1)).1
       rw[hi,al_zero]at this
       omega
     · exact hp
    rw[up0_pos _ z1,b,al_back]
    exact Or.inr (con_it hB (by omega) i)
 refine hc (fun z=>Con (eds (up0 (fs C G)) (4*C.length+1)) v z∨Con (eds (up0 (fs C G)) (4*C.length+1)) v (al z)) (closed_edb.2 ⟨fun z hz=>⟨fw z hz,fun q=>?_⟩,fun z hz=>?_⟩) (Or.inl (Con.refl _ _))
 · obtain⟨p,p0,hp⟩:=period hB hz
   have key:∀ i,Con (eds (up0 (fs C G)) (4*C.length+1)) v (it (up0 (fs C G)) (i+1) z)∨Con (eds (up0 (fs C G)) (4*C.length+1)) v (al (it (up0 (fs C G)) (i+1) z)):=fun i=>by
    induction i with
    |zero=>exact q
    |succ i ih=>exact fw _ (it_lt hB hz (i+1)) ih
   have:=key (p-1)
   rw[show p-1+1=p by omega,hp]at this
   exact this
 · show _∨_↔Con _ v (al z)∨Con _ v (al (al z))
   rw[al_back]
   exact Or.comm
theorem Lft.apart {C:List Cr} {loops:Int} {G L:List Nat} {P:Nat->Bool} (h:Lft C loops G L P) {v:Nat} (h1:1<=v) (h2:v<=4*C.length) (hn:¬ Mt C G (eds (up0 (fs C G)) (4*C.length+1)) v):¬ Mt C G (edb (up0 (fs C G)) al (4*C.length+1)) v:=by
 rintro⟨j,⟨j1,j2,j3⟩,hc⟩
 rcases h.both h1 h2 hn hc with q|q
 · exact hn ⟨j,⟨j1,j2,j3⟩,q⟩
 · obtain⟨i,hi⟩:=it_more (fs_bij h.hm G) (by omega) q
   have r:=fs_it h.hm G h1 h2 i
   have hg:=(h.alone h1 h2 hn i).1
   have e:fs C G (it (up0 (fs C G)) i v)=al j:=by rw[<-hi];show _=up0 (fs C G) (it (up0 (fs C G)) i v);rw[up0_pos _ r.1]
   have b:=(fs_back h.hm r.1 r.2 hg).1
   rw[e,al_back]at b
   exact j3 (b▸hg)
theorem Lft.lone {C:List Cr} {loops:Int} {G L:List Nat} {P:Nat->Bool} (h:Lft C loops G L P) {WE:List Nat} (lE:Least (edb (up0 (fs C G)) al (4*C.length+1)) (4*C.length+1) WE) (b:Bool):
    (List.range (4*C.length+1)).countP (fun v=>(rootB (cyW (up0 (fs C G)) (4*C.length+1)) v&&!mtB C G (eds (up0 (fs C G)) (4*C.length+1)) v)&&decide (dB v=b))<=(List.range (4*C.length+1)).countP fun v=>rootB WE v&&!mtB C G (edb (up0 (fs C G)) al (4*C.length+1)) v:=by
 have hB:=fs_bij h.hm G
 have hW:=cyW_least hB.lt
 have un:∀ v,((rootB (cyW (up0 (fs C G)) (4*C.length+1)) v&&!mtB C G (eds (up0 (fs C G)) (4*C.length+1)) v)&&decide (dB v=b))=true->(cyW (up0 (fs C G)) (4*C.length+1)).getD v 0=v/\1<=v/\(¬ Mt C G (eds (up0 (fs C G)) (4*C.length+1)) v)/\dB v=b:=fun v q=>by
  rw[Bool.and_eq_true,Bool.and_eq_true]at q
  unfold rootB at q
  rw[Bool.and_eq_true,decide_eq_true_eq,decide_eq_true_eq,decide_eq_true_eq]at q
  refine⟨q.1.1.1,q.1.1.2,fun m=>?_,q.2⟩
  have:=q.1.2
  rw[mtB_iff.2 m]at this
  cases this
 refine inj_cnt (fun v=>WE.getD v 0) (fun v hv hP=>?_) fun u v hu hv hPu hPv e=>?_
 · obtain⟨-,v1,vn,-⟩:=un v hP
   refine⟨lE.lt hv,?_⟩
   have hc:=(lE.2 v hv).1
   rw[Bool.and_eq_true]
   refine⟨?_,?_⟩
   · unfold rootB
     rw[Bool.and_eq_true]
     refine⟨decide_eq_true (lE.root hv),decide_eq_true ?_⟩
     refine hc (fun z=>1<=z) (closed_edb.2 ⟨fun z hz=>?_,fun z hz=>?_⟩) v1
     · rcases Nat.eq_zero_or_pos z with rfl|z1
       · exact Iff.rfl
       · rw[up0_pos _ z1];exact⟨fun _=>(fs_may h.hm G z1 (by omega)).1,fun _=>z1⟩
     · rcases Nat.eq_zero_or_pos z with rfl|z1
       · exact Iff.rfl
       · exact⟨fun _=>(al_may (n:=C.length) z1 (by omega)).1,fun _=>z1⟩
   · rw[Bool.not_eq_true']
     refine Bool.eq_false_iff.2 fun q=>h.apart v1 (by omega) vn ?_
     obtain⟨j,hj,hjc⟩:=mtB_iff.1 q
     exact⟨j,hj,hc.trans hjc⟩
 · obtain⟨u0,u1,un',ub⟩:=un u hPu
   obtain⟨v0,v1,-,vb⟩:=un v hPv
   have hc:=(lE.same hu hv).1 e
   rcases h.both u1 (by omega) un' hc with q|q
   · have:=(hW.same hu hv).2 q
     rw[u0,v0]at this
     exact this
   · obtain⟨i,hi⟩:=it_con hB hu q
     have d:=(h.alone u1 (by omega) un' i).2
     rw[hi,(al_may (n:=C.length) v1 (by omega)).2.2.2,vb,ub]at d
     cases b<;>cases d
theorem Lft.planar {C:List Cr} {loops lo:Int} {G L:List Nat} {P:Nat->Bool} (h:Lft C loops G L P) (hD:mayD (lft C G L P) lo=true) {m:Nat} (hm:posG G C.length+m=C.length)
    (hq:C.length+2*kN (edb (up0 (fs C G)) al (4*C.length+1)) (4*C.length+1)<=cyA (up0 (fs C G)) (4*C.length+1)+m+1):planarB (lft C G L P)=true:=by
 refine(planar_sum hD).2.2 ?_
 have hB:=fs_bij h.hm G
 have hW:=cyW_least hB.lt
 have hE:∀ e,e∈edb (up0 (fs C G)) al (4*C.length+1)->e.1<4*C.length+1/\e.2<4*C.length+1:=edb_lt hB.lt fun x hx=>al_lt (n:=C.length) hx
 have lE:=levR_least hE (4*C.length+1) (Nat.le_refl _)
 unfold kN cyA cyN at hq
 rw[rq_pos lE,rq_pos hW,rq_eq,rq_eq]at hq
 have r1:=h.rings hD
 have l1:=h.lone lE true
 have l2:=h.lone lE false
 have s1:=cnt_split (rootB (cyW (up0 (fs C G)) (4*C.length+1))) (mtB C G (eds (up0 (fs C G)) (4*C.length+1))) (List.range (4*C.length+1))
 have s2:=cnt_split (rootB (levR (List.range (4*C.length+1)) (edb (up0 (fs C G)) al (4*C.length+1)) (4*C.length+1))) (mtB C G (edb (up0 (fs C G)) al (4*C.length+1))) (List.range (4*C.length+1))
 have s3:=cnt_split (fun v=>rootB (cyW (up0 (fs C G)) (4*C.length+1)) v&&!mtB C G (eds (up0 (fs C G)) (4*C.length+1)) v) (fun v=>decide (dB v=true)) (List.range (4*C.length+1))
 have s4:(List.range (4*C.length+1)).countP (fun v=>(rootB (cyW (up0 (fs C G)) (4*C.length+1)) v&&!mtB C G (eds (up0 (fs C G)) (4*C.length+1)) v)&&!decide (dB v=true))=(List.range (4*C.length+1)).countP (fun v=>(rootB (cyW (up0 (fs C G)) (4*C.length+1)) v&&!mtB C G (eds (up0 (fs C G)) (4*C.length+1)) v)&&decide (dB v=false)):=List.countP_congr fun v _=>by cases dB v<;>simp
 rw[s4]at s3
 have p1:pcN (lft C G L P)<=(List.range (4*C.length+1)).countP fun v=>rootB (levR (List.range (4*C.length+1)) (edb (up0 (fs C G)) al (4*C.length+1)) (4*C.length+1)) v&&mtB C G (edb (up0 (fs C G)) al (4*C.length+1)) v:=by
  rw[pcN_eq,Lft.len]
  have hw:∀ i,∃ k,i<posG G C.length->k<C.length/\k ∉ G/\posG G k=i:=fun i=>by
   by_cases q:i<posG G C.length
   · obtain⟨k,hk⟩:=posG_onto q
     exact⟨k,fun _=>hk⟩
   · exact⟨0,fun q'=>absurd q' q⟩
  obtain⟨w,hw⟩:=Classical.axiomOfChoice hw
  have hWD:=whoM_least hD
  rw[Lft.len]at hWD
  refine inj_cnt (fun i=>(levR (List.range (4*C.length+1)) (edb (up0 (fs C G)) al (4*C.length+1)) (4*C.length+1)).getD (ein C (w i) 0) 0) (fun i hi _=>?_) fun i j hi hj hPi hPj e=>?_
  · obtain⟨k1,k2,k3⟩:=hw i hi
    obtain⟨e0,e1,e2,-⟩:=ein_at h.hm (w i) 0 k1 (by decide)
    have hl:ein C (w i) 0<4*C.length+1:=by omega
    have hc:=(lE.2 _ hl).1
    refine⟨lE.lt hl,?_⟩
    rw[Bool.and_eq_true]
    unfold rootB
    rw[Bool.and_eq_true]
    refine⟨⟨decide_eq_true (lE.root hl),decide_eq_true ?_⟩,mtB_iff.2 ⟨_,⟨e0,e1,by rw[e2];exact k2⟩,hc.symm⟩⟩
    refine hc (fun z=>1<=z) (closed_edb.2 ⟨fun z hz=>?_,fun z hz=>?_⟩) e0
    · rcases Nat.eq_zero_or_pos z with rfl|z1
      · exact Iff.rfl
      · rw[up0_pos _ z1];exact⟨fun _=>(fs_may h.hm G z1 (by omega)).1,fun _=>z1⟩
    · rcases Nat.eq_zero_or_pos z with rfl|z1
      · exact Iff.rfl
      · exact⟨fun _=>(al_may (n:=C.length) z1 (by omega)).1,fun _=>z1⟩
  · obtain⟨k1,k2,k3⟩:=hw i hi
    obtain⟨j1,j2,j3⟩:=hw j hj
    obtain⟨e0,e1,-⟩:=ein_at h.hm (w i) 0 k1 (by decide)
    obtain⟨f0,f1,-⟩:=ein_at h.hm (w j) 0 j1 (by decide)
    have c:=h.pieces hD k1 k2 j1 j2 ((lE.same (by omega) (by omega)).1 e)
    rw[k3,j3]at c
    have:=(hWD.same hi hj).2 c
    rw[of_decide_eq_true hPi,of_decide_eq_true hPj]at this
    exact this
 have t1:(List.range (4*C.length+1)).countP (fun v=>decide ((cyW (up0 (fs C G)) (4*C.length+1)).getD v 0=v)&&decide (1<=v))=(List.range (4*C.length+1)).countP (rootB (cyW (up0 (fs C G)) (4*C.length+1))):=rfl
 have t2:(List.range (4*C.length+1)).countP (fun v=>decide ((levR (List.range (4*C.length+1)) (edb (up0 (fs C G)) al (4*C.length+1)) (4*C.length+1)).getD v 0=v)&&decide (1<=v))=(List.range (4*C.length+1)).countP (rootB (levR (List.range (4*C.length+1)) (edb (up0 (fs C G)) al (4*C.length+1)) (4*C.length+1))):=rfl
 rw[t1,t2]at hq
 rw[Lft.len]
 omega
end Go.Proofs.Ytagaajlbkfkaiaa
/- Plain mathematics: taking out a curl, or the crossings of a face of two, keeps a planar diagram planar. -/
namespace Go.Proofs.Ytagaajlbkfkaiaa
theorem posG_one {k:Nat}:∀ n,posG [k] n+(if k<n then 1 else 0)=n:=by
 intro n
 induction n with
 |zero=>rfl
 |succ n ih=>
  rw[posG_next]
  by_cases e:n=k
  · rw[if_pos (List.mem_singleton.2 e),if_pos (by omega)]
    rw[if_neg (by omega)]at ih
    omega
  · rw[if_neg (by simpa using e)]
    by_cases hl:k<n
    · rw[if_pos hl]at ih;rw[if_pos (by omega)];omega
    · rw[if_neg hl]at ih;rw[if_neg (by omega)];omega
theorem posG_two {p q:Nat} {G:List Nat} (hpq:p≠q) (hG:∀ k,k∈G↔k=p∨k=q):∀ n,posG G n+(if p<n then 1 else 0)+(if q<n then 1 else 0)=n:=by
 intro n
 induction n with
 |zero=>rfl
 |succ n ih=>
  rw[posG_next]
  by_cases e:n∈G
  · rw[if_pos e]
    rcases(hG n).1 e with e|e
    · rw[if_neg (show ¬ p<n by omega)]at ih
      rw[if_pos (show p<n+1 by omega)]
      by_cases hl:q<n
      · rw[if_pos hl]at ih;rw[if_pos (show q<n+1 by omega)];omega
      · rw[if_neg hl]at ih;rw[if_neg (show ¬ q<n+1 by omega)];omega
    · rw[if_neg (show ¬ q<n by omega)]at ih
      rw[if_pos (show q<n+1 by omega)]
      by_cases hl:p<n
      · rw[if_pos hl]at ih;rw[if_pos (show p<n+1 by omega)];omega
      · rw[if_neg hl]at ih;rw[if_neg (show ¬ p<n+1 by omega)];omega
  · rw[if_neg e]
    have e1:n≠p:=fun q=>e ((hG n).2 (Or.inl q))
    have e2:n≠q:=fun q=>e ((hG n).2 (Or.inr q))
    by_cases hl:p<n
    · rw[if_pos hl]at ih
      rw[if_pos (show p<n+1 by omega)]
      by_cases hk:q<n
      · rw[if_pos hk]at ih;rw[if_pos (show q<n+1 by omega)];omega
      · rw[if_neg hk]at ih;rw[if_neg (show ¬ q<n+1 by omega)];omega
    · rw[if_neg hl]at ih
      rw[if_neg (show ¬ p<n+1 by omega)]
      by_cases hk:q<n
      · rw[if_pos hk]at ih;rw[if_pos (show q<n+1 by omega)];omega
      · rw[if_neg hk]at ih;rw[if_neg (show ¬ q<n+1 by omega)];omega
theorem lft_tak {C:List Cr} {loops:Int} (hm:mayD C loops=true) (G:List Nat):Lft C loops G (uniM C (nx C) G) (ltB (uniM C (nx C) G) (stB C G (uniM C (nx C) G) (2*C.length+1))) where
 hm:=hm
 go:=nx_goes hm
 hL:=rfl
 hP:=fun v h1=>by
  rw[st_th hm (nx_goes hm) G v h1]
  unfold ltB
  rw[Bool.and_eq_true,decide_eq_true_eq,stB_iff]
theorem curl_planar {C:List Cr} {loops lo:Int} (hm:mayD C loops=true) (hp:planarB C=true) {k s:Nat} (hk:k<C.length) (hs:s<4) (e:(C.getD k Cr.none).arc s=(C.getD k Cr.none).arc ((s+1)%4))
    (hz:sizeB (reTo C [k] (numM (uniM C (nx C) [k]) (ltB (uniM C (nx C) [k]) (stB C [k] (uniM C (nx C) [k]) (2*C.length+1)))) C.length) lo=true):
    mayD (reTo C [k] (numM (uniM C (nx C) [k]) (ltB (uniM C (nx C) [k]) (stB C [k] (uniM C (nx C) [k]) (2*C.length+1)))) C.length) lo=true/\planarB (reTo C [k] (numM (uniM C (nx C) [k]) (ltB (uniM C (nx C) [k]) (stB C [k] (uniM C (nx C) [k]) (2*C.length+1)))) C.length)=true:=by
 have h:=lft_tak hm [k]
 have hD:=h.may hz
 have hn:=posG_one (k:=k) C.length
 rw[if_pos hk]at hn
 exact⟨hD,h.planar hD hn (curl_euler hm hp hk hs e)⟩
theorem pull_planar {C:List Cr} {loops lo:Int} (hm:mayD C loops=true) (hpl:planarB C=true) {X Y:Nat} (x1:1<=X) (x2:X<=4*C.length) (y1:1<=Y) (y2:Y<=4*C.length) (fX:fd C X=Y) (fY:fd C Y=X) (hne:dC C Y≠dC C X) (G:List Nat) (hG:∀ k,k∈G↔k=dC C Y∨k=dC C X)
    (hz:sizeB (reTo C G (numM (uniM C (nx C) G) (ltB (uniM C (nx C) G) (stB C G (uniM C (nx C) G) (2*C.length+1)))) C.length) lo=true):
    mayD (reTo C G (numM (uniM C (nx C) G) (ltB (uniM C (nx C) G) (stB C G (uniM C (nx C) G) (2*C.length+1)))) C.length) lo=true/\planarB (reTo C G (numM (uniM C (nx C) G) (ltB (uniM C (nx C) G) (stB C G (uniM C (nx C) G) (2*C.length+1)))) C.length)=true:=by
 have h:=lft_tak hm G
 have hD:=h.may hz
 obtain⟨a1,a2,a3⟩:=ein_onto hm x1 x2
 obtain⟨b1,b2,b3⟩:=ein_onto hm y1 y2
 have hn:=posG_two hne hG C.length
 rw[if_pos a1,if_pos b1]at hn
 have q:=pull_euler hm hpl b1 a1 hne b2 a2 (by rw[<-a3,<-b3];exact fX) (by rw[<-a3,<-b3];exact fY) G hG
 exact⟨hD,h.planar hD (m:=2) (by omega) q⟩
end Go.Proofs.Ytagaajlbkfkaiaa
/- Plain mathematics: a face of two; how many loops are left. -/
namespace Go.Proofs.Ytagaajlbkfkaiaa
theorem two_ring {C:List Cr} {loops:Int} (hm:mayD C loops=true) {l:List Nat} (hl:l∈facesM C) (h2:l.length=2):∃ x y,l=[x,y]/\(1<=x/\x<=4*C.length)/\(1<=y/\y<=4*C.length)/\y=fd C x/\x=fd C y:=by
 have hc:=(rings_closed (fd_closed hm) (fun a b p q r s t=>fd_inj hm a b p q r s t) (4*C.length) (Nat.le_refl _)).2.2 l hl
 have hr:=(walksTo_mem (fd_closed hm) (4*C.length) (Nat.le_refl _) l hl).2.2
 match l,h2 with
 |[x,y],_=>
  refine⟨x,y,rfl,hr x (by simp),hr y (by simp),?_,?_⟩
  · exact hc.1 0 (by simp)
  · exact hc.2.symm
theorem loops_left {C:List Cr} {loops:Int} (hm:mayD C loops=true) (G:List Nat) (h0:0<C.length) (hn:posG G C.length=0):1<=cntB (lfB (uniM C (nx C) G) (stB C G (uniM C (nx C) G) (2*C.length+1))) (2*C.length+1):=by
 have h:=lft_tak hm G
 have hall:∀ k,k<C.length->k∈G:=fun k hk=>Classical.byContradiction fun q=>by have:=posG_lt hk q;omega
 have l1:=h.pos (a:=1) (Nat.le_refl _) (by omega)
 have l2:=h.least.le (v:=1) (by omega)
 have e:(uniM C (nx C) G).getD 1 0=1:=by omega
 have hs:stB C G (uniM C (nx C) G) (2*C.length+1) 1=false:=by
  refine Bool.eq_false_iff.2 fun q=>?_
  obtain⟨a,ha,ea,hg⟩:=stB_iff.1 q
  have a1:1<=a:=by
   rcases Nat.eq_zero_or_pos a with rfl|hp
   · have:=h.least.le (v:=0) (by omega);omega
   · exact hp
  unfold goneB at hg
  rw[if_neg (by omega)]at hg
  have:=hall _ (to_may hm a a1 (by omega)).2.1
  simp[this]at hg
 have hP:lfB (uniM C (nx C) G) (stB C G (uniM C (nx C) G) (2*C.length+1)) 1=true:=by unfold lfB;rw[e,hs];rfl
 have:=cntB_lt (Nat.le_refl 1) hP (show 1<2*C.length+1 by omega)
 omega
theorem size_left {C:List Cr} {loops lo:Int} (hm:mayD C loops=true) (G:List Nat) (h0:0<C.length) (hlo:lo=loops+(cntB (lfB (uniM C (nx C) G) (stB C G (uniM C (nx C) G) (2*C.length+1))) (2*C.length+1):Nat)) (h16:lo<=16) (h:Nat->Nat):sizeB (reTo C G h C.length) lo=true:=by
 have hs:sizeB C loops=true:=by
  cases q:sizeB C loops with
  |true=>rfl
  |false=>rw[mayD_size q]at hm;cases hm
 have hs:=sizeB_iff hs
 unfold sizeB
 simp only[Bool.and_eq_true,decide_eq_true_eq,Bool.not_eq_true',Bool.and_eq_false_iff,decide_eq_false_iff_not]
 have hl:=reTo_len C G h C.length
 refine⟨⟨⟨by omega,by omega⟩,h16⟩,?_⟩
 by_cases hn:(reTo C G h C.length).length=0
 · right
   rw[reTo_pos]at hn
   have:=loops_left hm G h0 hn
   omega
 · left
   exact hn
theorem pull_two {C:List Cr} {loops lo:Int} (hm:mayD C loops=true) (hpl:planarB C=true) {l:List Nat} (hl:l∈facesM C) (h2:l.length=2) {x y:Nat} (hxy:x≠y) (hc:dC C (l.getD 0 0)=x/\dC C (l.getD 1 0)=y∨dC C (l.getD 0 0)=y/\dC C (l.getD 1 0)=x)
    (hlo:lo=loops+(cntB (lfB (uniM C (nx C) [x,y]) (stB C [x,y] (uniM C (nx C) [x,y]) (2*C.length+1))) (2*C.length+1):Nat)) (h16:lo<=16):
    mayD (reTo C [x,y] (numM (uniM C (nx C) [x,y]) (ltB (uniM C (nx C) [x,y]) (stB C [x,y] (uniM C (nx C) [x,y]) (2*C.length+1)))) C.length) lo=true/\planarB (reTo C [x,y] (numM (uniM C (nx C) [x,y]) (ltB (uniM C (nx C) [x,y]) (stB C [x,y] (uniM C (nx C) [x,y]) (2*C.length+1)))) C.length)=true:=by
 obtain⟨X,Y,rfl,hX,hY,e1,e2⟩:=two_ring hm hl h2
 have hc:dC C X=x/\dC C Y=y∨dC C X=y/\dC C Y=x:=hc
 refine pull_planar hm hpl hX.1 hX.2 hY.1 hY.2 e1.symm e2.symm (by omega) [x,y] (fun k=>?_) (size_left hm [x,y] (by have:=hX;omega) hlo h16 _)
 simp only[List.mem_cons,List.not_mem_nil,or_false]
 omega
theorem curl_one {C:List Cr} {loops lo:Int} (hm:mayD C loops=true) (hp:planarB C=true) {k:Nat} (hk:k<C.length) (hc:((List.range 4).any fun s=>decide ((C.getD k Cr.none).arc s=(C.getD k Cr.none).arc ((s+1)%4)))=true)
    (hlo:lo=loops+(cntB (lfB (uniM C (nx C) [k]) (stB C [k] (uniM C (nx C) [k]) (2*C.length+1))) (2*C.length+1):Nat)) (h16:lo<=16):
    mayD (reTo C [k] (numM (uniM C (nx C) [k]) (ltB (uniM C (nx C) [k]) (stB C [k] (uniM C (nx C) [k]) (2*C.length+1)))) C.length) lo=true/\planarB (reTo C [k] (numM (uniM C (nx C) [k]) (ltB (uniM C (nx C) [k]) (stB C [k] (uniM C (nx C) [k]) (2*C.length+1)))) C.length)=true:=by
 obtain⟨s,hs,e⟩:=List.any_eq_true.1 hc
 exact curl_planar hm hp hk (List.mem_range.1 hs) (of_decide_eq_true e) (size_left hm [k] (by omega) hlo h16 _)
end Go.Proofs.Ytagaajlbkfkaiaa

/- Several texts of the proof, one behind the other. -/
import Derived.Test.YtmnejkaihjpejaaGreatDoorPMathP
/- Strands tied, and things joined: rings are closed just where what is joined was one. -/
namespace Go.Proofs.YtmnejkaihjpejaaGreatDoor
def tieT (T:List Nat) (x y:Nat):List Nat:=
 if T.getD x 0=y then(T.set x 0).set y 0 else(((T.set x 0).set y 0).set (T.getD x 0) (T.getD y 0)).set (T.getD y 0) (T.getD x 0)
def tieN (T:List Nat) (x y:Nat):Nat:=if T.getD x 0=y then 1 else 0
def lab (W:Nat->Nat) (x y:Nat):Nat->Nat:=fun v=>if W v=W y then W x else W v
theorem lab_iff (W:Nat->Nat) (x y u v:Nat):lab W x y u=lab W x y v↔W u=W v∨(W u=W x/\W y=W v)∨(W u=W y/\W x=W v):=by
 unfold lab
 by_cases h1:W u=W y<;>by_cases h2:W v=W y
 · rw[if_pos h1,if_pos h2];omega
 · rw[if_pos h1,if_neg h2];omega
 · rw[if_neg h1,if_pos h2];omega
 · rw[if_neg h1,if_neg h2];omega
def dgm (dg:Nat->Nat) (x y:Nat):Nat->Nat:=fun v=>dg v+(if x=v then 1 else 0)+(if y=v then 1 else 0)
structure Tied (T:List Nat) (dg W:Nat->Nat):Prop where
 len:T.length=26
 lt:∀ v,T.getD v 0<26
 none:∀ v,v<26->dg v=0->T.getD v 0=v
 one:∀ v,1<=v->v<26->dg v=1->T.getD v 0≠v/\1<=T.getD v 0/\dg (T.getD v 0)=1/\T.getD (T.getD v 0) 0=v/\W (T.getD v 0)=W v
 two:∀ v,1<=v->v<26->2<=dg v->T.getD v 0=0
 same:∀ u v,1<=u->u<26->1<=v->v<26->dg u<=1->dg v<=1->W u=W v->u=v∨T.getD u 0=v
 zero:dg 0=0
theorem getD_setN (T:List Nat) (i j x:Nat):(T.set i x).getD j 0=if i=j/\j<T.length then x else T.getD j 0:=by
 rw[List.getD_eq_getElem?_getD,List.getD_eq_getElem?_getD,List.getElem?_set]
 by_cases h:i=j
 · subst h
   by_cases h2:i<T.length
   · simp[h2]
   · simp[h2]
 · simp[h]
theorem tieT_at {T : List Nat} {dg W : Nat → Nat} (h : Tied T dg W) (x y v : Nat) (hv : v < 26) :
    (tieT T x y).getD v 0=if T.getD x 0=y then(if y=v then 0 else if x=v then 0 else T.getD v 0) else(if T.getD y 0=v then T.getD x 0 else if T.getD x 0=v then T.getD y 0 else if y=v then 0 else if x=v then 0 else T.getD v 0):=by
 have hl:=h.len
 unfold tieT
 split
 · simp only[getD_setN,List.length_set,hl,hv,and_true]
 · simp only[getD_setN,List.length_set,hl,hv,and_true]
theorem tieT_len (T:List Nat) (x y:Nat):(tieT T x y).length=T.length:=by
 unfold tieT;split<;>simp
theorem tie_iff {T:List Nat} {dg W:Nat->Nat} (h:Tied T dg W) {x y:Nat} (hx1:1<=x) (hx:x<26) (hy1:1<=y) (hy:y<26) (hd:dg x+(if x=y then 1 else 0)<=1) (hd2:dg y<=1):T.getD x 0=y↔W x=W y:=by
 constructor
 · intro e
   by_cases h0:dg x=0
   · have:=h.none x hx h0
     rw[show x=y by omega]
   · have:=h.one x hx1 hx (by omega)
     rw[<-e];exact this.2.2.2.2.symm
 · intro e
   rcases h.same x y hx1 hx hy1 hy (by omega) hd2 e with h1|h1
   · subst h1
     rw[if_pos rfl]at hd
     exact h.none x hx (by omega)
   · exact h1
theorem Tied.tie {T:List Nat} {dg W:Nat->Nat} (h:Tied T dg W) {x y:Nat} (hx1:1<=x) (hx:x<26) (hy1:1<=y) (hy:y<26) (hd:dg x+(if x=y then 1 else 0)<=1) (hd2:dg y<=1):Tied (tieT T x y) (dgm dg x y) (lab W x y):=by
 have hiff:=tie_iff h hx1 hx hy1 hy hd hd2
 have ax:=h.lt x
 have ay:=h.lt y
 -- the other ends
 have fx:(dg x=0/\T.getD x 0=x)∨(dg x=1/\T.getD x 0≠x/\1<=T.getD x 0/\dg (T.getD x 0)=1/\T.getD (T.getD x 0) 0=x/\W (T.getD x 0)=W x):=by
  by_cases h0:dg x=0
  · exact Or.inl ⟨h0,h.none x hx h0⟩
  · exact Or.inr ⟨by omega,h.one x hx1 hx (by omega)⟩
 have fy:(dg y=0/\T.getD y 0=y)∨(dg y=1/\T.getD y 0≠y/\1<=T.getD y 0/\dg (T.getD y 0)=1/\T.getD (T.getD y 0) 0=y/\W (T.getD y 0)=W y):=by
  by_cases h0:dg y=0
  · exact Or.inl ⟨h0,h.none y hy h0⟩
  · exact Or.inr ⟨by omega,h.one y hy1 hy (by omega)⟩
 have hat:=fun v hv=>tieT_at h x y v hv
 by_cases hc:T.getD x 0=y
 · -- a ring is closed
   simp only[hc,if_true]at hat
   have hW:=hiff.1 hc
   have hlab:∀ u v,lab W x y u=lab W x y v↔W u=W v:=by
    intro u v;rw[lab_iff];omega
   have hdx:∀ v,dgm dg x y v<=1->v<26->v≠x/\v≠y/\dgm dg x y v=dg v:=by
    intro v hv hv2
    unfold dgm at hv ⊢
    by_cases e1:x=v
    · subst e1
      rcases fx with⟨g1,g2⟩|⟨g1,g2⟩
      · have:y=x:=by omega
        subst this
        simp at hv
      · simp at hv;omega
    · by_cases e2:y=v
      · subst e2
        rcases fx with⟨g1,g2⟩|⟨g1,g2,g3,g4,g5⟩
        · omega
        · rw[hc]at g4
          simp[e1]at hv;omega
      · simp[e1,e2];omega
   refine⟨by rw[tieT_len];exact h.len,fun v=>?_,fun v hv h0=>?_,fun v h1 h2 h3=>?_,fun v h1 h2 h3=>?_,fun u v hu1 hu hv1 hv hu2 hv2 e=>?_,?_⟩
   · by_cases hv:v<26
     · rw[hat v hv];have:=h.lt v;split<;>(try split)<;>omega
     · rw[List.getD_eq_getElem?_getD,List.getElem?_eq_none (by rw[tieT_len,h.len];omega)];decide
   · obtain⟨n1,n2,n3⟩:=hdx v (by omega) hv
     rw[hat v hv,if_neg (Ne.symm n2),if_neg (Ne.symm n1)]
     exact h.none v hv (by omega)
   · obtain⟨n1,n2,n3⟩:=hdx v (by omega) h2
     obtain⟨o1,o2,o3,o4,o5⟩:=h.one v h1 h2 (by omega)
     have ov:=h.lt v
     have m1:T.getD v 0≠x:=by
      intro e
      rw[e]at o4
      omega
     have m2:T.getD v 0≠y:=by
      intro e
      rcases fx with⟨g1,g2⟩|⟨g1,g2,g3,g4,g5,g6⟩
      · have:x=y:=by omega
        exact m1 (by omega)
      · rw[hc]at g5
        rw[e]at o4
        omega
     rw[hat v h2,if_neg (Ne.symm n2),if_neg (Ne.symm n1)]
     rw[hat _ ov,if_neg (Ne.symm m2),if_neg (Ne.symm m1)]
     refine⟨o1,o2,?_,o4,?_⟩
     · unfold dgm;rw[if_neg (Ne.symm m1),if_neg (Ne.symm m2)];omega
     · exact(hlab _ _).2 o5
   · rw[hat v h2]
     by_cases e2:y=v
     · rw[if_pos e2]
     · by_cases e1:x=v
       · rw[if_neg e2,if_pos e1]
       · rw[if_neg e2,if_neg e1]
         refine h.two v h1 h2 ?_
         unfold dgm at h3;rw[if_neg e1,if_neg e2]at h3;omega
   · obtain⟨n1,n2,n3⟩:=hdx u hu2 hu
     obtain⟨k1,k2,k3⟩:=hdx v hv2 hv
     rw[hat u hu,if_neg (Ne.symm n2),if_neg (Ne.symm n1)]
     exact h.same u v hu1 hu hv1 hv (by omega) (by omega) ((hlab _ _).1 e)
   · have:=h.zero;unfold dgm;rw[if_neg (by omega),if_neg (by omega)];omega
 · -- two strands become one
   have hWne:W x≠W y:=fun e=>hc (hiff.2 e)
   have hxy:x≠y:=fun e=>hWne (by rw[e])
   simp only[hc,if_false]at hat
   rw[if_neg hxy]at hd
   -- the two ends that are left
   have WA:W (T.getD x 0)=W x:=by
    rcases fx with⟨g1,g2⟩|⟨g1,g2,g3,g4,g5,g6⟩
    · rw[g2]
    · exact g6
   have WB:W (T.getD y 0)=W y:=by
    rcases fy with⟨g1,g2⟩|⟨g1,g2,g3,g4,g5,g6⟩
    · rw[g2]
    · exact g6
   have hAB:T.getD x 0≠T.getD y 0:=fun e=>hWne (by rw[<-WA,<-WB,e])
   have hAy:T.getD x 0≠y:=hc
   have hBx:T.getD y 0≠x:=fun e=>hWne (by rw[<-WB,e])
   have A1:1<=T.getD x 0:=by rcases fx with⟨g1,g2⟩|⟨g1,g2,g3,g4⟩<;>omega
   have B1:1<=T.getD y 0:=by rcases fy with⟨g1,g2⟩|⟨g1,g2,g3,g4⟩<;>omega
   have dA:dgm dg x y (T.getD x 0)=1:=by
    unfold dgm;rw[if_neg (Ne.symm hAy)]
    rcases fx with⟨g1,g2⟩|⟨g1,g2,g3,g4,g5⟩
    · rw[g2,if_pos rfl];omega
    · rw[if_neg (Ne.symm g2)];omega
   have dB:dgm dg x y (T.getD y 0)=1:=by
    unfold dgm;rw[if_neg (Ne.symm hBx)]
    rcases fy with⟨g1,g2⟩|⟨g1,g2,g3,g4,g5⟩
    · rw[g2,if_pos rfl];omega
    · rw[if_neg (Ne.symm g2)];omega
   generalize hA:T.getD x 0=A at*
   generalize hB:T.getD y 0=B at*
   -- x: met twice, or A itself; so y
   have dX:x≠A->dgm dg x y x=2:=by
    intro e
    unfold dgm;rw[if_pos rfl,if_neg (Ne.symm hxy)]
    rcases fx with⟨g1,g2⟩|⟨g1,g2⟩<;>omega
   have dY:y≠B->dgm dg x y y=2:=by
    intro e
    unfold dgm;rw[if_pos rfl,if_neg hxy]
    rcases fy with⟨g1,g2⟩|⟨g1,g2⟩<;>omega
   -- others: as they were, and none of them is x, y, A, B, nor tied to these
   have dO:∀ v,x≠v->y≠v->dgm dg x y v=dg v:=by
    intro v e1 e2;unfold dgm;rw[if_neg e1,if_neg e2];rfl
   have A2:A<26:=ax
   have B2:B<26:=ay
   have tA:(tieT T x y).getD A 0=B:=by rw[hat A A2,if_neg (Ne.symm hAB),if_pos rfl]
   have tB:(tieT T x y).getD B 0=A:=by rw[hat B B2,if_pos rfl]
   have tO:∀ v,v<26->v≠A->v≠B->v≠x->v≠y->(tieT T x y).getD v 0=T.getD v 0:=by
    intro v hv e1 e2 e3 e4
    rw[hat v hv,if_neg (Ne.symm e2),if_neg (Ne.symm e1),if_neg (Ne.symm e4),if_neg (Ne.symm e3)]
   have far:∀ v,1<=v->v<26->dg v=1->v≠A->v≠B->v≠x->v≠y->T.getD v 0≠A/\T.getD v 0≠B/\T.getD v 0≠x/\T.getD v 0≠y:=by
    intro v h1 h2 h3 e1 e2 e3 e4
    obtain⟨o1,o2,o3,o4,o5⟩:=h.one v h1 h2 h3
    refine⟨fun e=>?_,fun e=>?_,fun e=>?_,fun e=>?_⟩
    · rw[e]at o3 o4
      rcases fx with⟨g1,g2⟩|⟨g1,g2,g3,g4,g5,g6⟩
      · rw[g2]at o3;omega
      · omega
    · rw[e]at o3 o4
      rcases fy with⟨g1,g2⟩|⟨g1,g2,g3,g4,g5,g6⟩
      · rw[g2]at o3;omega
      · omega
    · rw[e]at o4;omega
    · rw[e]at o4;omega
   refine⟨by rw[tieT_len];exact h.len,fun v=>?_,fun v hv h0=>?_,fun v h1 h2 h3=>?_,fun v h1 h2 h3=>?_,fun u v hu1 hu hv1 hv hu2 hv2 e=>?_,?_⟩
   · by_cases hv:v<26
     · rw[hat v hv];have:=h.lt v;split<;>(try split)<;>(try split)<;>(try split)<;>omega
     · rw[List.getD_eq_getElem?_getD,List.getElem?_eq_none (by rw[tieT_len,h.len];omega)];decide
   · have e3:x≠v:=by intro e;subst e;unfold dgm at h0;rw[if_pos rfl]at h0;omega
     have e4:y≠v:=by intro e;subst e;unfold dgm at h0;rw[if_pos rfl]at h0;omega
     have e1:v≠A:=by intro e;subst e;omega
     have e2:v≠B:=by intro e;subst e;omega
     rw[tO v hv e1 e2 (Ne.symm e3) (Ne.symm e4)]
     exact h.none v hv (by rw[<-dO v e3 e4];exact h0)
   · by_cases e1:v=A
     · subst e1
       rw[tA]
       exact⟨Ne.symm hAB,B1,dB,tB,(lab_iff _ _ _ _ _).2 (Or.inr (Or.inr ⟨WB,WA.symm⟩))⟩
     · by_cases e2:v=B
       · subst e2
         rw[tB]
         exact⟨hAB,A1,dA,tA,(lab_iff _ _ _ _ _).2 (Or.inr (Or.inl ⟨WA,WB.symm⟩))⟩
       · have e3:v≠x:=by intro e;subst e;have:=dX e1;omega
         have e4:v≠y:=by intro e;subst e;have:=dY e2;omega
         have hd0:=dO v (Ne.symm e3) (Ne.symm e4)
         obtain⟨o1,o2,o3,o4,o5⟩:=h.one v h1 h2 (by omega)
         obtain⟨f1,f2,f3,f4⟩:=far v h1 h2 (by omega) e1 e2 e3 e4
         rw[tO v h2 e1 e2 e3 e4,tO _ (h.lt v) f1 f2 f3 f4]
         exact⟨o1,o2,by rw[dO _ (Ne.symm f3) (Ne.symm f4)];exact o3,o4,(lab_iff _ _ _ _ _).2 (Or.inl o5)⟩
   · have e1:v≠A:=by intro e;subst e;omega
     have e2:v≠B:=by intro e;subst e;omega
     rw[hat v h2,if_neg (Ne.symm e2),if_neg (Ne.symm e1)]
     by_cases e4:y=v
     · rw[if_pos e4]
     · rw[if_neg e4]
       by_cases e3:x=v
       · rw[if_pos e3]
       · rw[if_neg e3]
         exact h.two v h1 h2 (by rw[<-dO v e3 e4];exact h3)
   · -- u and v hang together
     have cl:∀ v,1<=v->v<26->dgm dg x y v<=1->(v=A∨v=B∨(v≠x/\v≠y/\v≠A/\v≠B/\dg v<=1))/\(W v=W x->v=A)/\(W v=W y->v=B):=by
      intro v h1 h2 h3
      have c1:v=A∨v=B∨(v≠x/\v≠y/\v≠A/\v≠B/\dg v<=1):=by
       by_cases e1:v=A
       · exact Or.inl e1
       · by_cases e2:v=B
         · exact Or.inr (Or.inl e2)
         · have e3:v≠x:=by intro e;subst e;have:=dX e1;omega
           have e4:v≠y:=by intro e;subst e;have:=dY e2;omega
           exact Or.inr (Or.inr ⟨e3,e4,e1,e2,by rw[<-dO v (Ne.symm e3) (Ne.symm e4)];exact h3⟩)
      refine⟨c1,fun e=>?_,fun e=>?_⟩
      · rcases c1 with r|r|⟨r1,r2,r3,r4,r5⟩
        · exact r
        · subst r;exact absurd (e.symm.trans WB) hWne
        · rcases h.same x v hx1 hx h1 h2 (by omega) r5 e.symm with q|q
          · exact absurd q.symm r1
          · rw[hA]at q;exact q.symm
      · rcases c1 with r|r|⟨r1,r2,r3,r4,r5⟩
        · subst r;exact absurd (WA.symm.trans e) hWne
        · exact r
        · rcases h.same y v hy1 hy h1 h2 (by omega) r5 e.symm with q|q
          · exact absurd q.symm r2
          · rw[hB]at q;exact q.symm
     obtain⟨cu,cu1,cu2⟩:=cl u hu1 hu hu2
     obtain⟨cv,cv1,cv2⟩:=cl v hv1 hv hv2
     rcases(lab_iff _ _ _ _ _).1 e with q|⟨q1,q2⟩|⟨q1,q2⟩
     · rcases cu with r|r|⟨r1,r2,r3,r4,r5⟩
       · left;rw[cv1 (by rw[<-q,r,WA])];exact r
       · left;rw[cv2 (by rw[<-q,r,WB])];exact r
       · rcases cv with s|s|⟨s1,s2,s3,s4,s5⟩
         · exact absurd (cu1 (by rw[q,s,WA])) r3
         · exact absurd (cu2 (by rw[q,s,WB])) r4
         · rw[tO u hu r3 r4 r1 r2]
           exact h.same u v hu1 hu hv1 hv r5 s5 q
     · right;rw[cu1 q1,cv2 q2.symm];exact tA
     · right;rw[cu2 q1,cv1 q2.symm];exact tB
   · have:=h.zero;unfold dgm;rw[if_neg (by omega),if_neg (by omega)];omega
end Go.Proofs.YtmnejkaihjpejaaGreatDoor
/- Rows of pairs: strands tied, labels joined; one arc cut. -/
namespace Go.Proofs.YtmnejkaihjpejaaGreatDoor
def labP (P:Nat->Nat×Nat):Nat->Nat->Nat
 |0=>fun v=>v
 |i+1=>lab (labP P i) (P i).1 (P i).2
def joinP (P:Nat->Nat×Nat):Nat->Nat
 |0=>0
 |i+1=>joinP P i+(if labP P i (P i).1=labP P i (P i).2 then 0 else 1)
def tieP (P:Nat->Nat×Nat):Nat->List Nat
 |0=>List.range 26
 |i+1=>tieT (tieP P i) (P i).1 (P i).2
def closP (P:Nat->Nat×Nat):Nat->Nat
 |0=>0
 |i+1=>closP P i+tieN (tieP P i) (P i).1 (P i).2
def dgP (P:Nat->Nat×Nat):Nat->Nat->Nat
 |0=>fun _=>0
 |i+1=>dgm (dgP P i) (P i).1 (P i).2
theorem dgP_mono (P:Nat->Nat×Nat) (v:Nat) {i m:Nat} (h:i<=m):dgP P i v<=dgP P m v:=by
 induction h with
 |refl=>exact Nat.le_refl _
 |step _ ih=>refine Nat.le_trans ih ?_;show dgP P _ v<=dgm (dgP P _) _ _ v;unfold dgm;omega
theorem tied_first:Tied (List.range 26) (fun _=>0) (fun v=>v):=by
 have hg:∀ v,v<26->(List.range 26).getD v 0=v:=by
  intro v hv;rw[List.getD_eq_getElem?_getD,List.getElem?_range hv];rfl
 refine⟨by simp,fun v=>?_,fun v hv _=>hg v hv,fun v _ _ h=>by simp at h,fun v _ _ h=>by simp at h,fun u v _ _ _ _ _ _ e=>Or.inl e,rfl⟩
 by_cases hv:v<26
 · rw[hg v hv];exact hv
 · rw[List.getD_eq_getElem?_getD,List.getElem?_eq_none (by simp;omega)];decide
theorem tied_all {P : Nat → Nat × Nat} {m : Nat} (hr : ∀ i, i < m → 1 ≤ (P i).1 ∧ (P i).1 < 26 ∧ 1 ≤ (P i).2 ∧ (P i).2 < 26) (hd : ∀ v, dgP P m v ≤ 2) :
    ∀ i,i<=m->Tied (tieP P i) (dgP P i) (labP P i)/\closP P i+joinP P i=i:=by
 intro i hi
 induction i with
 |zero=>exact⟨tied_first,rfl⟩
 |succ i ih=>
  obtain⟨h1,h2⟩:=ih (by omega)
  obtain⟨r1,r2,r3,r4⟩:=hr i (by omega)
  have dx:=Nat.le_trans (dgP_mono P (P i).1 hi) (hd (P i).1)
  have dy:=Nat.le_trans (dgP_mono P (P i).2 hi) (hd (P i).2)
  have dx':dgP P i (P i).1+1+(if(P i).2=(P i).1 then 1 else 0)<=2:=by
   have:dgP P (i+1) (P i).1=dgP P i (P i).1+(if(P i).1=(P i).1 then 1 else 0)+(if(P i).2=(P i).1 then 1 else 0):=rfl
   rw[if_pos rfl]at this;omega
  have dy':dgP P i (P i).2<=1:=by
   have:dgP P (i+1) (P i).2=dgP P i (P i).2+(if(P i).1=(P i).2 then 1 else 0)+(if(P i).2=(P i).2 then 1 else 0):=rfl
   rw[if_pos rfl]at this;omega
  have dx'':dgP P i (P i).1+(if(P i).1=(P i).2 then 1 else 0)<=1:=by
   by_cases e:(P i).1=(P i).2
   · rw[if_pos e];rw[if_pos e.symm]at dx';omega
   · rw[if_neg e];omega
  refine⟨h1.tie r1 r2 r3 r4 dx'' dy',?_⟩
  have hi2:=tie_iff h1 r1 r2 r3 r4 dx'' dy'
  show closP P i+tieN (tieP P i) (P i).1 (P i).2+(joinP P i+if labP P i (P i).1=labP P i (P i).2 then 0 else 1)=i+1
  unfold tieN
  by_cases e:(tieP P i).getD (P i).1 0=(P i).2
  · rw[if_pos e,if_pos (hi2.1 e)];omega
  · rw[if_neg e,if_neg (fun e'=>e (hi2.2 e'))];omega
def sg (A v:Nat):Nat:=if v=25 then A else v
theorem lab_swap (W:Nat->Nat) (x y c A u v:Nat):(lab (lab W x y) c A u=lab (lab W x y) c A v)↔(lab (lab W c A) x y u=lab (lab W c A) x y v):=by
 simp only[lab_iff]
 grind
theorem join_step (W : Nat → Nat) (x y c A : Nat) (q : Prop) [Decidable q] (hq : q ↔ (W x = W y ∨ (W x = W c ∧ W A = W y) ∨ (W x = W A ∧ W c = W y))) :
    (if W c=W A then 1 else 0)+(if W x=W y then 0 else 1)=(if q then 0 else 1)+(if lab W x y c=lab W x y A then 1 else 0):=by
 have k:=lab_iff W x y c A
 by_cases c1:W x=W y
 · have hq1:q:=hq.2 (Or.inl c1)
   rw[if_pos c1,if_pos hq1]
   by_cases c2:W c=W A
   · rw[if_pos c2,if_pos (k.2 (Or.inl c2))]
   · rw[if_neg c2,if_neg (fun e=>by have:=k.1 e;omega)]
 · rw[if_neg c1]
   by_cases c2:W c=W A
   · rw[if_pos c2,if_pos (k.2 (Or.inl c2)),if_neg (fun e=>by have:=hq.1 e;omega)]
   · rw[if_neg c2]
     by_cases c3:q
     · have:=hq.1 c3
       rw[if_pos c3,if_pos (k.2 (by omega))]
     · have h3:¬ lab W x y c=lab W x y A:=fun e=>c3 (hq.2 (by have:=k.1 e;omega))
       rw[if_neg c3,if_neg h3]
theorem cut_join {P Q : Nat → Nat × Nat} {m A : Nat} (hA : A ≠ 25) (h : ∀ i, i < m → (P i).1 = sg A (Q i).1 ∧ (P i).2 = sg A (Q i).2) :
    ∀ i,i<=m->(∀ u v,labP P i (sg A u)=labP P i (sg A v)↔lab (labP Q i) 25 A u=lab (labP Q i) 25 A v)/\joinP Q i=joinP P i+(if labP Q i 25=labP Q i A then 1 else 0):=by
 intro i hi
 induction i with
 |zero=>
  refine⟨fun u v=>?_,?_⟩
  · rw[lab_iff]
    show sg A u=sg A v↔u=v∨(u=25/\A=v)∨(u=A/\25=v)
    unfold sg
    by_cases e1:u=25<;>by_cases e2:v=25
    · rw[if_pos e1,if_pos e2];omega
    · rw[if_pos e1,if_neg e2];omega
    · rw[if_neg e1,if_pos e2];omega
    · rw[if_neg e1,if_neg e2];omega
  · show 0=0+(if 25=A then 1 else 0)
    rw[if_neg (Ne.symm hA)]
 |succ i ih=>
  obtain⟨h1,h2⟩:=ih (by omega)
  obtain⟨e1,e2⟩:=h i (by omega)
  have hL:∀ u v,labP P i (sg A u)=labP P i (sg A v)↔lab (labP Q i) 25 A u=lab (labP Q i) 25 A v:=h1
  refine⟨fun u v=>?_,?_⟩
  · show lab (labP P i) (P i).1 (P i).2 (sg A u)=lab (labP P i) (P i).1 (P i).2 (sg A v)↔lab (lab (labP Q i) (Q i).1 (Q i).2) 25 A u=lab (lab (labP Q i) (Q i).1 (Q i).2) 25 A v
    rw[lab_swap,lab_iff,lab_iff (lab (labP Q i) 25 A),e1,e2,hL,hL,hL,hL,hL]
  · show joinP Q i+(if labP Q i (Q i).1=labP Q i (Q i).2 then 0 else 1)=joinP P i+(if labP P i (P i).1=labP P i (P i).2 then 0 else 1)+(if lab (labP Q i) (Q i).1 (Q i).2 25=lab (labP Q i) (Q i).1 (Q i).2 A then 1 else 0)
    have k1:=hL (Q i).1 (Q i).2
    rw[<-e1,<-e2,lab_iff]at k1
    have k2:=join_step (labP Q i) (Q i).1 (Q i).2 25 A (labP P i (P i).1=labP P i (P i).2) k1
    omega
end Go.Proofs.YtmnejkaihjpejaaGreatDoor

/- Several texts of the proof, one behind the other. -/
import Derived.Test.YtefooihnoajnlaaHA3P
/- The walk of descents that never parts goes along the strands, ring by ring; plain mathematics. -/
namespace Go.Proofs.Ytefooihnoajnlaa
theorem walkF_accH (f:Nat->Nat):∀ (m:Nat) (seen:List Bool) (x:Nat) (acc:List Nat),walkF f m seen x acc=(acc++(walkF f m seen x []).1,(walkF f m seen x []).2)
 |0,seen,x,acc=>by show(acc,seen)=(acc++[],seen);rw[List.append_nil]
 |m+1,seen,x,acc=>by
  simp only[walkF]
  by_cases h:seen.getD x true=true
  · rw[if_pos h,if_pos h,List.append_nil]
  · rw[if_neg h,if_neg h,walkF_accH f m _ _ (acc++[x]),walkF_accH f m _ _ ([]++[x])]
    simp
theorem walkF_keepH (f:Nat->Nat):∀ (m:Nat) (seen:List Bool) (x y:Nat) (acc:List Nat),seen.getD y true=true->(walkF f m seen x acc).2.getD y true=true
 |0,_,_,_,_,h=>h
 |m+1,seen,x,y,acc,h=>by
  simp only[walkF]
  split
  · exact h
  · refine walkF_keepH f m _ _ y _ ?_
    rw[List.getD_eq_getElem?_getD,List.getElem?_set]
    split
    · split<;>rfl
    · rw[<-List.getD_eq_getElem?_getD];exact h
theorem walkF_marksH (f:Nat->Nat) (m:Nat) (seen:List Bool) (x:Nat) (acc:List Nat):(walkF f (m+1) seen x acc).2.getD x true=true:=by
 simp only[walkF]
 split
 · assumption
 · refine walkF_keepH f m _ _ x _ ?_
   rw[List.getD_eq_getElem?_getD,List.getElem?_set,if_pos rfl]
   split<;>rfl
theorem walksTo_seenH (f:Nat->Nat) (n:Nat):∀ a y,1<=y->y<=a->(walksTo f n a).2.getD y true=true
 |0,y,h1,h2=>by omega
 |a+1,y,h1,h2=>by
  show(walkF f (n+1) (walksTo f n a).2 (a+1) []).2.getD y true=true
  by_cases e:y=a+1
  · rw[e];exact walkF_marksH f n _ _ _
  · exact walkF_keepH f _ _ _ y _ (walksTo_seenH f n a y h1 (by omega))
def fbW (C:List Cr) (ways:Nat->Nat):List Nat->Option Nat×(Nat->Nat)
 |[]=>(none,ways)
 |a::l=>if ways (toC C a)=0 then if toS C a=0 then(some (toC C a),ways) else fbW C (upd ways (toC C a) 1) l else fbW C ways l
def Acr (ways:Nat->Nat):Prop:=∀ j,ways j≠2
theorem Acr.upd {ways:Nat->Nat} (h:Acr ways) (k:Nat):Acr (upd ways k 1):=fun j=>by
 unfold Go.Proofs.Ytefooihnoajnlaa.upd
 split
 · decide
 · exact h j
theorem nxW_acr (C:List Cr) {ways:Nat->Nat} (h:Acr ways) (a:Nat):nxW (sysC C) ways a=nx C a:=by unfold nxW;rw[if_neg (h _)];rfl
def Wr (n:Nat) (w:Nat->Bool) (seen:List Bool):Prop:=seen.length=n+1/\∀ y,1<=y->y<=n->seen.getD y true=w y
theorem Wr.upd {n:Nat} {w:Nat->Bool} {seen:List Bool} (h:Wr n w seen) {x:Nat} (hx:x<=n):Wr n (upd w x true) (seen.set x true):=by
 refine⟨by rw[List.length_set];exact h.1,fun y y1 y2=>?_⟩
 rw[List.getD_eq_getElem?_getD,List.getElem?_set]
 by_cases e:y=x
 · subst e;rw[if_pos rfl,if_pos (by rw[h.1];omega),upd_same];rfl
 · rw[if_neg (fun q=>e q.symm),upd_other _ _ e,<-List.getD_eq_getElem?_getD]
   exact h.2 y y1 y2
structure RgOut (C:List Cr) (w:Nat->Bool) (ways:Nat->Nat) (seen:List Bool) (x m:Nat) (l:List Nat) (sn:List Bool):Prop where
 rest:∃ w' ways' m',Wr (2*C.length) w' sn/\Acr ways'/\unw (2*C.length) w'<=m'/\(∀ k,(fbW C ways l).1=some k->∀ r,ff (sysC C) m ⟨x,w,ways,r⟩=some k)/\
  ((fbW C ways l).1=none->(fbW C ways l).2=ways'/\∀ r,ff (sysC C) m ⟨x,w,ways,r⟩=ff (sysC C) m' ⟨lowU (2*C.length) w',w',ways',r+1⟩)/\
  ∀ r,∃ ways2,Acr ways2/\rgW (sysC C) m ⟨x,w,ways,r⟩=rgW (sysC C) m' ⟨lowU (2*C.length) w',w',ways2,r+1⟩
theorem ring_run {C : List Cr} {loops : Int} (hm : mayD C loops = true) : ∀ (j : Nat) (m : Nat) (seen : List Bool) (x : Nat) (w : Nat → Bool) (ways : Nat → Nat), Wr (2 * C.length) w seen → Acr ways → 1 ≤ x → x ≤ 2 * C.length → w x = false → unw (2 * C.length) w ≤ j → unw (2 * C.length) w ≤ m →
    RgOut C w ways seen x m (walkF (nx C) j seen x []).1 (walkF (nx C) j seen x []).2:=by
 intro j
 induction j with
 |zero=>intro m seen x w ways _ _ x1 x2 hx hj _;have:=unw_pos x1 x2 hx;omega
 |succ j ih=>
  intro m seen x w ways hw ha x1 x2 hx hj hmm
  have hlt:=unw_less x1 x2 hx
  obtain⟨m,rfl⟩:∃ m0,m=m0+1:=⟨m - 1,by omega⟩
  have hsx:¬ seen.getD x true=true:=by rw[hw.2 x x1 x2,hx];decide
  have hy:=nx_closed hm x x1 x2
  have hw':=hw.upd x2
  have e1:walkF (nx C) (j+1) seen x []=([x]++(walkF (nx C) j (seen.set x true) (nx C x) []).1,(walkF (nx C) j (seen.set x true) (nx C x) []).2):=by
   simp only[walkF]
   rw[if_neg hsx,walkF_accH]
   rfl
  rw[e1]
  have h0:¬ (x=0∨2*C.length<x):=by omega
  obtain⟨ways1,hw1⟩:∃ ways1,ways1=if ways (toC C x)=0 then upd ways (toC C x) 1 else ways:=⟨_,rfl⟩
  have ha1:Acr ways1:=by rw[hw1];split;exact ha.upd _;exact ha
  have hff:∀ r,ff (sysC C) (m+1) ⟨x,w,ways,r⟩=if ways (toC C x)=0/\toS C x=0 then some (toC C x) else ff (sysC C) m (onw (sysC C) (upd w x true) ways1 x r):=fun r=>by
   show(if x=0∨2*C.length<x then none else if ways (toC C x)=0 then if decide (toS C x=0)=true then some (toC C x) else ff (sysC C) m (onw (sysC C) (upd w x true) (upd ways (toC C x) 1) x r) else ff (sysC C) m (onw (sysC C) (upd w x true) ways x r))=_
   rw[if_neg h0,hw1]
   by_cases q:ways (toC C x)=0
   · rw[if_pos q,if_pos q]
     by_cases p:toS C x=0
     · rw[if_pos (decide_eq_true p),if_pos ⟨q,p⟩]
     · rw[if_neg (by simpa using p),if_neg (fun z=>p z.2)]
   · rw[if_neg q,if_neg q,if_neg (fun z=>q z.1)]
  have hrg:∀ r,rgW (sysC C) (m+1) ⟨x,w,ways,r⟩=rgW (sysC C) m (onw (sysC C) (upd w x true) ways1 x r):=fun r=>by
   show(if x=0∨2*C.length<x then r else rgW (sysC C) m (onw (sysC C) (upd w x true) (if ways (toC C x)=0 then upd ways (toC C x) 1 else ways) x r))=_
   rw[if_neg h0,hw1]
  have hfb:∀ l,fbW C ways (x::l)=if ways (toC C x)=0/\toS C x=0 then(some (toC C x),ways) else fbW C ways1 l:=fun l=>by
   show(if ways (toC C x)=0 then if toS C x=0 then(some (toC C x),ways) else fbW C (upd ways (toC C x) 1) l else fbW C ways l)=_
   rw[hw1]
   by_cases q:ways (toC C x)=0
   · rw[if_pos q,if_pos q]
     by_cases p:toS C x=0
     · rw[if_pos p,if_pos ⟨q,p⟩]
     · rw[if_neg p,if_neg (fun z=>p z.2)]
   · rw[if_neg q,if_neg q,if_neg (fun z=>q z.1)]
  have hon:∀ ways2,Acr ways2->∀ r,onw (sysC C) (upd w x true) ways2 x r=if upd w x true (nx C x)=true then⟨lowU (2*C.length) (upd w x true),upd w x true,ways2,r+1⟩ else⟨nx C x,upd w x true,ways2,r⟩:=fun ways2 h2 r=>by
   unfold onw
   rw[nxW_acr C h2]
   rfl
  by_cases hc:upd w x true (nx C x)=true
  · have e2:walkF (nx C) j (seen.set x true) (nx C x) []=([],seen.set x true):=walkF_seen (by rw[hw'.2 _ hy.1 hy.2];exact hc)
    rw[e2]
    refine⟨upd w x true,ways1,m,hw',ha1,by omega,fun k hk r=>?_,fun hn=>⟨?_,fun r=>?_⟩,fun r=>⟨ways1,ha1,?_⟩⟩
    · rw[show([x]++([],seen.set x true).1:List Nat)=x::[] from rfl,hfb]at hk
      rw[hff]
      by_cases q:ways (toC C x)=0/\toS C x=0
      · rw[if_pos q]at hk ⊢;exact hk
      · rw[if_neg q]at hk;cases hk
    · rw[show([x]++([],seen.set x true).1:List Nat)=x::[] from rfl,hfb]at hn ⊢
      by_cases q:ways (toC C x)=0/\toS C x=0
      · rw[if_pos q]at hn;cases hn
      · rw[if_neg q];rfl
    · rw[show([x]++([],seen.set x true).1:List Nat)=x::[] from rfl,hfb]at hn
      rw[hff]
      by_cases q:ways (toC C x)=0/\toS C x=0
      · rw[if_pos q]at hn;cases hn
      · rw[if_neg q,hon _ ha1,if_pos hc]
    · rw[hrg,hon _ ha1,if_pos hc]
  · have hc':upd w x true (nx C x)=false:=by simpa using hc
    obtain⟨w',ways',m',i1,i2,i3,i4,i5,i6⟩:=(ih m (seen.set x true) (nx C x) (upd w x true) ways1 hw' ha1 hy.1 hy.2 hc' (by omega) (by omega)).rest
    generalize walkF (nx C) j (seen.set x true) (nx C x) []=R at i1 i4 i5 i6 ⊢
    refine⟨w',ways',m',i1,i2,i3,fun k hk r=>?_,fun hn=>⟨?_,fun r=>?_⟩,fun r=>?_⟩
    · rw[show([x]++R.1:List Nat)=x::R.1 from rfl,hfb]at hk
      rw[hff]
      by_cases q:ways (toC C x)=0/\toS C x=0
      · rw[if_pos q]at hk ⊢;exact hk
      · rw[if_neg q]at hk ⊢
        rw[hon _ ha1,if_neg hc]
        exact i4 k hk r
    · rw[show([x]++R.1:List Nat)=x::R.1 from rfl,hfb]at hn ⊢
      by_cases q:ways (toC C x)=0/\toS C x=0
      · rw[if_pos q]at hn;cases hn
      · rw[if_neg q]at hn ⊢
        exact(i5 hn).1
    · rw[show([x]++R.1:List Nat)=x::R.1 from rfl,hfb]at hn
      rw[hff]
      by_cases q:ways (toC C x)=0/\toS C x=0
      · rw[if_pos q]at hn;cases hn
      · rw[if_neg q]at hn ⊢
        rw[hon _ ha1,if_neg hc]
        exact(i5 hn).2 r
    · obtain⟨ways2,j1,j2⟩:=i6 r
      exact⟨ways2,j1,by rw[hrg,hon _ ha1,if_neg hc];exact j2⟩
theorem fbW_app (C:List Cr):∀ (l1 l2:List Nat) (ways:Nat->Nat),fbW C ways (l1++l2)=match (fbW C ways l1).1 with|some k=>(some k,(fbW C ways l1).2)|none=>fbW C (fbW C ways l1).2 l2
 |[],l2,ways=>rfl
 |a::l1,l2,ways=>by
  have e1:∀ l,fbW C ways (a::l)=if ways (toC C a)=0 then if toS C a=0 then(some (toC C a),ways) else fbW C (upd ways (toC C a) 1) l else fbW C ways l:=fun _=>rfl
  rw[List.cons_append,e1,e1]
  by_cases q:ways (toC C a)=0
  · rw[if_pos q,if_pos q]
    by_cases p:toS C a=0
    · rw[if_pos p,if_pos p]
    · rw[if_neg p,if_neg p];exact fbW_app C l1 l2 _
  · rw[if_neg q,if_neg q];exact fbW_app C l1 l2 _
structure Upto (C:List Cr) (a:Nat):Prop where
 one:∃ w m,Wr (2*C.length) w (walksTo (nx C) (2*C.length) a).2/\unw (2*C.length) w<=m /\ 
  (∀ k,(fbW C (fun _=>0) (walksTo (nx C) (2*C.length) a).1.flatten).1=some k->fbC C=some k)/\
  ((fbW C (fun _=>0) (walksTo (nx C) (2*C.length) a).1.flatten).1=none->Acr (fbW C (fun _=>0) (walksTo (nx C) (2*C.length) a).1.flatten).2/\∃ q,fbC C=ff (sysC C) m ⟨lowU (2*C.length) w,w,(fbW C (fun _=>0) (walksTo (nx C) (2*C.length) a).1.flatten).2,q⟩)
 two:∀ r,∃ w m ways2,Wr (2*C.length) w (walksTo (nx C) (2*C.length) a).2/\unw (2*C.length) w<=m/\Acr ways2/\rgW (sysC C) (2*C.length) ⟨1,fun _=>false,fun _=>0,r⟩=rgW (sysC C) m ⟨lowU (2*C.length) w,w,ways2,r+(walksTo (nx C) (2*C.length) a).1.length⟩
theorem upto_all {C:List Cr} {loops:Int} (hm:mayD C loops=true):∀ a,a<=2*C.length->Upto C a:=by
 intro a
 induction a with
 |zero=>
  intro _
  have l1:lowU (2*C.length) (fun _=>false)=1:=lowU_eq (Nat.le_refl _) (by omega) (fun b b1 b2=>by omega) (fun _=>rfl)
  have hW : Wr (2 * C.length) (fun _ => false) (walksTo (nx C) (2 * C.length) 0).2 := ⟨by simp [walksTo], fun y y1 y2 => by
   show(List.replicate (2*C.length+1) false).getD y true=false
   simp[List.getD_eq_getElem?_getD,show y<2*C.length+1 by omega]⟩
  refine⟨⟨fun _=>false,2*C.length,hW,Nat.le_of_eq (unw_all _),fun k hk=>(by cases hk),fun _=>⟨fun j=>(by show(0:Nat)≠2;decide),0,?_⟩⟩,fun r=>⟨fun _=>false,2*C.length,fun _=>0,hW,Nat.le_of_eq (unw_all _),fun j=>(by show(0:Nat)≠2;decide),?_⟩⟩
  · rw[l1];rfl
  · rw[l1];rfl
 |succ a ih=>
  intro ha
  have hI:=ih (by omega)
  have eT:walksTo (nx C) (2*C.length) (a+1)=(if(walkF (nx C) (2*C.length+1) (walksTo (nx C) (2*C.length) a).2 (a+1) []).1=[] then(walksTo (nx C) (2*C.length) a).1 else(walksTo (nx C) (2*C.length) a).1++[(walkF (nx C) (2*C.length+1) (walksTo (nx C) (2*C.length) a).2 (a+1) []).1],(walkF (nx C) (2*C.length+1) (walksTo (nx C) (2*C.length) a).2 (a+1) []).2):=rfl
  by_cases hs:(walksTo (nx C) (2*C.length) a).2.getD (a+1) true=true
  · have e2:walkF (nx C) (2*C.length+1) (walksTo (nx C) (2*C.length) a).2 (a+1) []=([],(walksTo (nx C) (2*C.length) a).2):=walkF_seen hs
    rw[e2]at eT
    have e3:walksTo (nx C) (2*C.length) (a+1)=walksTo (nx C) (2*C.length) a:=by rw[eT];rfl
    exact⟨by rw[e3];exact hI.one,by rw[e3];exact hI.two⟩
  · have hu : ∀ w, unw (2 * C.length) w ≤ 2 * C.length + 1 := fun w => by
      have key:∀ (P:Nat->Bool) n,cnP P n<=n:=fun P n=>by
       induction n with
       |zero=>exact Nat.le_refl _
       |succ n ih=>show cnP P n+_<=n+1;split<;>omega
      have:=key (fun a=>!w a) (2*C.length)
      unfold unw
      omega
    have hwl:∀ w,Wr (2*C.length) w (walksTo (nx C) (2*C.length) a).2->w (a+1)=false/\lowU (2*C.length) w=a+1:=fun w i1=>by
     have hwu:w (a+1)=false:=by
      have:=i1.2 (a+1) (by omega) ha
      rw[<-this]
      simpa using hs
     exact⟨hwu,lowU_eq (by omega) (by omega) (fun b b1 b2=>by rw[<-i1.2 b b1 (by omega)];exact walksTo_seenH _ _ a b b1 (by omega)) (fun _=>hwu)⟩
    have hne:(walkF (nx C) (2*C.length+1) (walksTo (nx C) (2*C.length) a).2 (a+1) []).1≠[]:=by
     simp only[walkF]
     rw[if_neg hs,walkF_accH]
     simp
    rw[if_neg hne]at eT
    have ring:=fun w m ways (i1:Wr (2*C.length) w (walksTo (nx C) (2*C.length) a).2) (i2:unw (2*C.length) w<=m) (hw:Acr ways)=>(ring_run hm (2*C.length+1) m _ (a+1) w ways i1 hw (by omega) ha (hwl w i1).1 (hu w) i2).rest
    obtain⟨w,m,i1,i2,i3,i4⟩:=hI.one
    have i5:=hI.two
    have hlow:=(hwl w i1).2
    have hln:(walksTo (nx C) (2*C.length) (a+1)).1.length=(walksTo (nx C) (2*C.length) a).1.length+1:=by rw[eT];simp
    generalize hR:walkF (nx C) (2*C.length+1) (walksTo (nx C) (2*C.length) a).2 (a+1) []=R at eT ring
    have hfl:(walksTo (nx C) (2*C.length) (a+1)).1.flatten=(walksTo (nx C) (2*C.length) a).1.flatten++R.1:=by rw[eT];simp
    have hsn:(walksTo (nx C) (2*C.length) (a+1)).2=R.2:=by rw[eT]
    rw[hlow]at i4
    refine⟨?_,fun r=>?_⟩
    · rw[hfl,hsn,fbW_app]
      cases hq:(fbW C (fun _=>0) (walksTo (nx C) (2*C.length) a).1.flatten).1 with
      |some k=>
       obtain⟨w',ways',m',r1,r2,r3,r4,r5,r6⟩:=ring w m (fun _=>0) i1 i2 (fun j=>by show(0:Nat)≠2;decide)
       exact⟨w',m',r1,r3,fun k' hk'=>i3 k' (by rw[hq];exact hk'),fun hn=>(by cases hn)⟩
      |none=>
       obtain⟨ac,q,e⟩:=i4 hq
       obtain⟨w',ways',m',r1,r2,r3,r4,r5,r6⟩:=ring w m _ i1 i2 ac
       refine⟨w',m',r1,r3,fun k' hk'=>?_,fun hn=>?_⟩
       · rw[e];exact r4 k' hk' q
       · obtain⟨f1,f2⟩:=r5 hn
         refine⟨?_,q+1,?_⟩
         · show Acr (fbW C _ R.1).2
           rw[f1];exact r2
         · show _=ff (sysC C) m' ⟨_,w',(fbW C _ R.1).2,q+1⟩
           rw[f1,e]
           exact f2 q
    · obtain⟨w0,m0,ways2,j1,j2,j3,j4⟩:=i5 r
      obtain⟨w',ways',m',r1,r2,r3,r4,r5,r6⟩:=ring w0 m0 ways2 j1 j2 j3
      obtain⟨ways3,g1,g2⟩:=r6 (r+(walksTo (nx C) (2*C.length) a).1.length)
      refine⟨w',m',ways3,by rw[hsn];exact r1,r3,g1,?_⟩
      rw[hln,j4,(hwl w0 j1).2]
      exact g2
theorem fb_walks {C:List Cr} {loops:Int} (hm:mayD C loops=true):fbC C=(fbW C (fun _=>0) (walksM C).flatten).1:=by
 rw[show walksM C=(walksTo (nx C) (2*C.length) (2*C.length)).1 from rfl]
 obtain⟨w,m,i1,i2,i3,i4⟩:=(upto_all hm (2*C.length) (Nat.le_refl _)).one
 cases hq:(fbW C (fun _=>0) (walksTo (nx C) (2*C.length) (2*C.length)).1.flatten).1 with
 |some k=>exact i3 k hq
 |none=>
  obtain⟨-,q,e⟩:=i4 hq
  rw[e]
  have hlow:lowU (2*C.length) w=2*C.length+1:=lowU_eq (by omega) (by omega) (fun b b1 b2=>by rw[<-i1.2 b b1 (by omega)];exact walksTo_seenH _ _ _ b b1 (by omega)) (fun h=>by omega)
  rw[hlow]
  cases m with
  |zero=>rfl
  |succ m=>
   exact if_pos (Or.inr (Nat.lt_succ_self _))
theorem rg_walks {C:List Cr} {loops:Int} (hm:mayD C loops=true) (r:Nat):rgW (sysC C) (2*C.length) ⟨1,fun _=>false,fun _=>0,r⟩=r+(walksM C).length:=by
 obtain⟨w,m,ways2,i1,i2,i3,i4⟩:=(upto_all hm (2*C.length) (Nat.le_refl _)).two r
 rw[i4]
 have hlow:lowU (2*C.length) w=2*C.length+1:=lowU_eq (by omega) (by omega) (fun b b1 b2=>by rw[<-i1.2 b b1 (by omega)];exact walksTo_seenH _ _ _ b b1 (by omega)) (fun h=>by omega)
 rw[hlow]
 cases m with
 |zero=>rfl
 |succ m=>
  exact if_pos (Or.inr (Nat.lt_succ_self _))
end Go.Proofs.Ytefooihnoajnlaa
/- How great coefficients and exponents of descents' polynomials are; how often a diagram's walk parts; plain mathematics. -/
namespace Go.Proofs.Ytefooihnoajnlaa
def L1 (f:Int->Int) (B:Nat):Prop:=∀ l:List Int,l.Pairwise (·≠·)->(l.map fun e=>(f e).natAbs).sum<=B
theorem L1.one {f:Int->Int} {B:Nat} (h:L1 f B) (e:Int):(f e).natAbs<=B:=by
 have:=h [e] (List.pairwise_singleton _ _)
 simpa using this
theorem L1.mono {f:Int->Int} {B B':Nat} (h:L1 f B) (hB:B<=B'):L1 f B':=fun l hl=>Nat.le_trans (h l hl) hB
theorem L1.add {f g:Int->Int} {A B:Nat} (hf:L1 f A) (hg:L1 g B):L1 (fun e=>f e+g e) (A+B):=fun l hl=>by
 have key:∀ l:List Int,(l.map fun e=>(f e+g e).natAbs).sum<=(l.map fun e=>(f e).natAbs).sum+(l.map fun e=>(g e).natAbs).sum:=by
  intro l
  induction l with
  |nil=>exact Nat.le_refl _
  |cons x l ih=>
   simp only[List.map_cons,List.sum_cons]
   have:=Int.natAbs_add_le (f x) (g x)
   omega
 have:=key l
 have:=hf l hl
 have:=hg l hl
 show(l.map fun e=>(f e+g e).natAbs).sum<=A+B
 omega
theorem L1.shift {f:Int->Int} {B:Nat} (h:L1 f B) (d c:Int) (hc:c.natAbs<=1):L1 (fun e=>c*f (e-d)) B:=fun l hl=>by
 have h1:=h (l.map fun e=>e-d) (by rw[List.pairwise_map];exact hl.imp (fun {a b} q e=>q (by omega)))
 have key:∀ l:List Int,(l.map fun e=>(c*f (e-d)).natAbs).sum<=((l.map fun e=>e-d).map fun e=>(f e).natAbs).sum:=by
  intro l
  induction l with
  |nil=>exact Nat.le_refl _
  |cons x l ih=>
   simp only[List.map_cons,List.sum_cons]
   have:(c*f (x-d)).natAbs<=(f (x-d)).natAbs:=by
    rw[Int.natAbs_mul]
    calc c.natAbs*(f (x-d)).natAbs<=1*(f (x-d)).natAbs:=Nat.mul_le_mul_right _ hc
     _=_:=Nat.one_mul _
   omega
 exact Nat.le_trans (key l) h1
theorem one_L1:L1 one2 1:=by
 intro l
 induction l with
 |nil=>intro _;exact Nat.zero_le _
 |cons x l ih=>
  intro hl
  have h2:=List.pairwise_cons.1 hl
  simp only[List.map_cons,List.sum_cons]
  by_cases e:x=0
  · have hz : (l.map fun e => (one2 e).natAbs).sum = 0 := by
      have:∀ l:List Int,(∀ y∈l,x≠y)->(l.map fun e=>(one2 e).natAbs).sum=0:=by
       intro l
       induction l with
       |nil=>intro _;rfl
       |cons y l ih2=>
        intro h
        simp only[List.map_cons,List.sum_cons]
        rw[ih2 (fun z hz=>h z (List.mem_cons_of_mem _ hz))]
        unfold one2
        rw[if_neg (fun q=>h y List.mem_cons_self (by rw[e,q]))]
        rfl
      exact this l h2.1
    rw[hz]
    unfold one2
    rw[if_pos e]
    decide
  · have:=ih h2.2
    unfold one2 at this ⊢
    rw[if_neg e]
    simpa using this
theorem pw_L1:∀ n,L1 (pwR n) (2 ^ n)
 |0=>one_L1
 |1=>one_L1.mono (by decide)
 |n+2=>by
  have h:=pw_L1 (n+1)
  have a:=(h.shift (1000*1 + -1) 1 (by decide)).add (h.shift (1000 * -1 + -1) (-1) (by decide))
  rw[show 2 ^ (n+2)=2 ^ (n+1)+2 ^ (n+1) by rw[Nat.pow_succ 2 (n+1)];omega]
  exact a
theorem fork_L1 {p:Bool} {a b:Int->Int} {A B:Nat} (ha:L1 a A) (hb:L1 b B):L1 (fork2 p a b) (A+B):=by
 have h1:=ha.shift (1000*chX p+0) 1 (by decide)
 have h2:=hb.shift (1000*smX p+1) (smC p) (by cases p<;>decide)
 exact h1.add h2
theorem onw_rH (S:Sys) (w:Nat->Bool) (ways:Nat->Nat) (a r:Nat):(onw S w ways a r).r<=r+1:=by
 unfold onw
 split
 · exact Nat.le_refl _
 · exact Nat.le_succ _
theorem wk_L1 (S:Sys):∀ m s,L1 (wk S m s) (2 ^ (2*m+s.r))
 |0,s=>by
  show L1 (pwR s.r) (2 ^ (2*0+s.r))
  rw[show 2*0+s.r=s.r by omega]
  exact pw_L1 _
 |m+1,s=>by
  have key:∀ t:Dst,t.r<=s.r+1->L1 (wk S m t) (2 ^ (2*m+s.r+1)):=fun t ht=>(wk_L1 S m t).mono (Nat.pow_le_pow_right (by decide) (by omega))
  have e:2 ^ (2*(m+1)+s.r)=2 ^ (2*m+s.r+1)+2 ^ (2*m+s.r+1):=by
   rw[show 2*(m+1)+s.r=(2*m+s.r+1)+1 by omega,Nat.pow_succ]
   omega
  have hp:0<2 ^ (2*m+s.r+1):=Nat.two_pow_pos _
  have hle:2 ^ s.r<=2 ^ (2*m+s.r+1):=Nat.pow_le_pow_right (by decide) (by omega)
  unfold wk
  rw[e]
  generalize 2 ^ (2*m+s.r+1)=P at key hp hle ⊢
  split
  · exact(pw_L1 _).mono (by omega)
  · split
    · split
      · exact fork_L1 (key _ (onw_rH _ _ _ _ _)) (key _ (onw_rH _ _ _ _ _))
      · exact(key _ (onw_rH _ _ _ _ _)).mono (by omega)
    · exact(key _ (onw_rH _ _ _ _ _)).mono (by omega)
theorem pl2_L1 (C:List Cr) (r:Nat):L1 (pl2 C r) (2 ^ (2*(2*C.length)+r)):=wk_L1 _ _ _
def nbW (S:Sys):Nat->Dst->Nat
 |0,_=>0
 |m+1,s=>if s.arc=0∨S.N<s.arc then 0 else
  if s.ways (S.cr s.arc)=0 then
   if S.be s.arc=true then 1+nbW S m (onw S (upd s.w s.arc true) (upd s.ways (S.cr s.arc) 1) s.arc s.r)
   else nbW S m (onw S (upd s.w s.arc true) (upd s.ways (S.cr s.arc) 1) s.arc s.r)
  else nbW S m (onw S (upd s.w s.arc true) s.ways s.arc s.r)
theorem nb_part (S:Sys) (k:Nat):∀ m s,s.ways k=0->ff S m s=some k->nbW S m s=1+nbW S m (s.set k 1)
 |0,s,_,h=>by cases h
 |m+1,s,hk,h=>by
  unfold ff at h
  unfold nbW
  by_cases h0:s.arc=0∨S.N<s.arc
  · rw[if_pos h0]at h;cases h
  · rw[if_neg h0]at h ⊢
    rw[if_neg (show ¬ ((s.set k 1).arc=0∨S.N<(s.set k 1).arc) from h0)]
    show _=1+(if upd s.ways k 1 (S.cr s.arc)=0 then if S.be s.arc=true then 1+nbW S m (onw S (upd s.w s.arc true) (upd (upd s.ways k 1) (S.cr s.arc) 1) s.arc s.r) else nbW S m (onw S (upd s.w s.arc true) (upd (upd s.ways k 1) (S.cr s.arc) 1) s.arc s.r) else nbW S m (onw S (upd s.w s.arc true) (upd s.ways k 1) s.arc s.r))
    by_cases hc:S.cr s.arc=k
    · rw[hc,if_pos hk]at h ⊢
      rw[upd_same,if_neg (show ¬ (1:Nat)=0 by decide)]
      by_cases hb:S.be s.arc=true
      · rw[if_pos hb]
      · rw[if_neg hb]at h
        exfalso
        exact wk_fork.ff_met S k m _ (by rw[onw_ways,upd_same];decide) h
    · rw[upd_other _ _ hc]
      by_cases hw:s.ways (S.cr s.arc)=0
      · rw[if_pos hw]at h ⊢
        rw[if_pos hw]
        by_cases hb:S.be s.arc=true
        · rw[if_pos hb]at h
          exact(hc (Option.some.inj h)).elim
        · rw[if_neg hb]at h ⊢
          rw[if_neg hb]
          have ih:=nb_part S k m _ (by rw[onw_ways,upd_other _ _ (fun e=>hc e.symm)];exact hk) h
          rw[onw_set _ _ _ _ _ _ _ hc]at ih
          rw[ih,upd_swap _ _ _ hc]
      · rw[if_neg hw]at h ⊢
        rw[if_neg hw]
        have ih:=nb_part S k m _ (by rw[onw_ways];exact hk) h
        rw[onw_set _ _ _ _ _ _ _ hc]at ih
        exact ih
theorem nb_met {S T:Sys} {k:Nat} (h:SameBut S T k):∀ m s,s.ways k≠0->nbW T m s=nbW S m s
 |0,_,_=>rfl
 |m+1,s,hk=>by
  unfold nbW
  rw[h.N]
  by_cases h0:s.arc=0∨S.N<s.arc
  · rw[if_pos h0,if_pos h0]
  · have h1:1<=s.arc:=by omega
    have h2:s.arc<=S.N:=by omega
    rw[if_neg h0,if_neg h0,h.cr _ h1 h2]
    by_cases hw:s.ways (S.cr s.arc)=0
    · have hc:S.cr s.arc≠k:=fun e=>hk (by rw[<-e];exact hw)
      rw[if_pos hw,if_pos hw,h.be _ h1 h2 hc,h.onw _ _ _ _ h1 h2]
      rw[nb_met h m _ (by rw[onw_ways,upd_other _ _ (fun e=>hc e.symm)];exact hk)]
    · rw[if_neg hw,if_neg hw,h.onw _ _ _ _ h1 h2]
      exact nb_met h m _ (by rw[onw_ways];exact hk)
theorem nb_change {S T:Sys} {k:Nat} (h:SameBut S T k):∀ m s,s.ways k=0->ff S m s=some k->nbW T m s=nbW S m (s.set k 1)
 |0,s,_,e=>by cases e
 |m+1,s,hk,e=>by
  unfold ff at e
  unfold nbW
  rw[h.N]
  by_cases h0:s.arc=0∨S.N<s.arc
  · rw[if_pos h0]at e;cases e
  · have h1:1<=s.arc:=by omega
    have h2:s.arc<=S.N:=by omega
    rw[if_neg h0]at e ⊢
    rw[h.cr _ h1 h2]
    rw[if_neg (show ¬ ((s.set k 1).arc=0∨S.N<(s.set k 1).arc) from h0)]
    show _=(if upd s.ways k 1 (S.cr s.arc)=0 then if S.be s.arc=true then 1+nbW S m (Go.Proofs.Ytefooihnoajnlaa.onw S (upd s.w s.arc true) (upd (upd s.ways k 1) (S.cr s.arc) 1) s.arc s.r) else nbW S m (Go.Proofs.Ytefooihnoajnlaa.onw S (upd s.w s.arc true) (upd (upd s.ways k 1) (S.cr s.arc) 1) s.arc s.r) else nbW S m (Go.Proofs.Ytefooihnoajnlaa.onw S (upd s.w s.arc true) (upd s.ways k 1) s.arc s.r))
    by_cases hc:S.cr s.arc=k
    · rw[hc,if_pos hk]at e ⊢
      rw[upd_same,if_neg (show ¬ (1:Nat)=0 by decide)]
      by_cases hb:S.be s.arc=true
      · rw[h.at_ _ h1 h2 hc hb,if_neg (show ¬ false=true by decide),h.onw _ _ _ _ h1 h2]
        exact nb_met h m _ (by rw[onw_ways,upd_same];decide)
      · rw[if_neg hb]at e
        exfalso
        exact wk_fork.ff_met S k m _ (by rw[onw_ways,upd_same];decide) e
    · rw[upd_other _ _ hc,h.be _ h1 h2 hc,h.onw _ _ _ _ h1 h2,h.onw _ _ _ _ h1 h2]
      by_cases hw:s.ways (S.cr s.arc)=0
      · rw[if_pos hw]at e ⊢
        rw[if_pos hw]
        by_cases hb:S.be s.arc=true
        · rw[if_pos hb]at e
          exact(hc (Option.some.inj e)).elim
        · rw[if_neg hb]at e ⊢
          rw[if_neg hb]
          have ih:=nb_change h m _ (by rw[onw_ways,upd_other _ _ (fun e=>hc e.symm)];exact hk) e
          rw[onw_set _ _ _ _ _ _ _ hc]at ih
          rw[ih,upd_swap _ _ _ hc]
      · rw[if_neg hw]at e ⊢
        rw[if_neg hw]
        have ih:=nb_change h m _ (by rw[onw_ways];exact hk) e
        rw[onw_set _ _ _ _ _ _ _ hc]at ih
        exact ih
def npC (C:List Cr):Nat:=nbW (sysC C) (2*C.length) ⟨1,fun _=>false,fun _=>0,0⟩
theorem nb_less {C:List Cr} {loops:Int} (hm:mayD C loops=true) {k:Nat} (hk:k<C.length) (h:fbC C=some k):npC C=1+npC (chD C k):=by
 have e1:=nb_change (same_change hm hk) (2*C.length) ⟨1,fun _=>false,fun _=>0,0⟩ rfl h
 have e2:=nb_part (sysC C) k (2*C.length) ⟨1,fun _=>false,fun _=>0,0⟩ rfl h
 unfold npC
 rw[chD_len,e1]
 exact e2
theorem fb_in {C:List Cr} {loops:Int} (hm:mayD C loops=true):∀ (l:List Nat) (ways:Nat->Nat) (k:Nat),(∀ a∈l,1<=a/\a<=2*C.length)->(fbW C ways l).1=some k->k<C.length
 |[],_,_,_,h=>by cases h
 |a::l,ways,k,hl,h=>by
  have e1:fbW C ways (a::l)=if ways (toC C a)=0 then if toS C a=0 then(some (toC C a),ways) else fbW C (upd ways (toC C a) 1) l else fbW C ways l:=rfl
  rw[e1]at h
  have ha:=hl a List.mem_cons_self
  split at h
  · split at h
    · rw[<-Option.some.inj h];exact(to_may hm a ha.1 ha.2).2.1
    · exact fb_in hm l _ k (fun b hb=>hl b (List.mem_cons_of_mem _ hb)) h
  · exact fb_in hm l _ k (fun b hb=>hl b (List.mem_cons_of_mem _ hb)) h
end Go.Proofs.Ytefooihnoajnlaa

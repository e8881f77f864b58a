/- Several texts of the proof, one behind the other. -/
import Derived.Test.YtjcagkgpbcdghaaDoorW3P
import Derived.Test.YtjcagkgpbcdghaaDoorTG1P
import Derived.Test.YtjcagkgpbcdghaaDoorBaseP
import Derived.Deep.QuietTactic
import Derived.BigQuiet
/- Braids closed: places, walks and numbers as plain mathematics. -/
namespace Go.Proofs.YtjcagkgpbcdghaaDoor
def plc (p i:Nat):Nat:=if p=i then i+1 else if p=i+1 then i else p
def pl (l:List Int) (p:Nat):Nat->Nat
 |0=>p
 |k+1=>plc (pl l p k) (l.getD k 0).natAbs
def cl (l:List Int) (p:Nat):Nat->List (Nat×Nat)
 |0=>[]
 |k+1=>cl l p k++(if pl l p k=(l.getD k 0).natAbs then [(k,0)] else if pl l p k=(l.getD k 0).natAbs+1 then [(k,1)] else [])
theorem XU6 {n:Nat} {l:List Int} (hw:∀ j,j<l.length->1<=(l.getD j 0).natAbs/\(l.getD j 0).natAbs<n) {p:Nat} (h1:1<=p) (h2:p<=n):∀ k,k<=l.length->1<=pl l p k/\pl l p k<=n
 |0,_=>⟨h1,h2⟩
 |k+1,hk=>by
  have h:=XU6 hw h1 h2 k (by omega)
  have hx:=hw k (by omega)
  unfold pl plc
  split
  · omega
  · split<;>omega
theorem Ky0 (l:List Int) (p:Nat):∀ k q,q∈cl l p k->q.1<k/\q.2<2
 |0,q,h=>by cases h
 |k+1,q,h=>by
  unfold cl at h
  rcases List.mem_append.1 h with h|h
  · have:=Ky0 l p k q h;omega
  · split at h
    · obtain rfl:=List.mem_singleton.1 h;exact⟨Nat.lt_succ_self _,show 0<2 by decide⟩
    · split at h
      · obtain rfl:=List.mem_singleton.1 h;exact⟨Nat.lt_succ_self _,show 1<2 by decide⟩
      · cases h
theorem ZK2 (l:List Int) (p:Nat):∀ k,(cl l p k).length<=k
 |0=>Nat.le_refl _
 |k+1=>by
  have:=ZK2 l p k
  unfold cl
  rw[List.length_append]
  split
  · simp;omega
  · split
    · simp;omega
    · simp;omega
theorem Ky2 (n:Nat) (l:List Int) (hw:∀ j,j<l.length->1<=(l.getD j 0).natAbs/\(l.getD j 0).natAbs<n) (k:Nat) (hk:k<=l.length):∀ (q p:Nat),q<n->(Qj2 n l k).getD q 0=(p:Int)->pl l p k=q+1:=by
 induction k with
 |zero=>
  intro q p hq h
  rw[show Qj2 n l 0=QA8 n fun i=>(i:Int)+1 from rfl,XQ8 _ _ _ hq]at h
  show p=q+1
  omega
 |succ k ih=>
  intro q p hq h
  have hx:=hw k (by omega)
  have hok:=Qy8 n l (fun j hj=>(hw j hj).2) k (by omega)
  rw[Qu5 n l k (by omega)]at h
  show plc (pl l p k) (l.getD k 0).natAbs=q+1
  generalize (l.getD k 0).natAbs=i at hx h ⊢
  unfold trd at h
  rw[QD0,QD0,List.length_set,hok.ln]at h
  unfold plc
  by_cases e1:q=i
  · rw[if_pos ⟨e1,hx.2⟩]at h
    have:=ih (by omega) (i-1) p (by omega) h
    rw[if_pos (by omega)]
    omega
  · rw[if_neg (fun x=>e1 x.1)]at h
    by_cases e2:q=i-1
    · rw[if_pos ⟨e2,by omega⟩]at h
      have:=ih (by omega) i p hx.2 h
      rw[if_neg (by omega),if_pos (by omega)]
      omega
    · rw[if_neg (fun x=>e2 x.1)]at h
      have:=ih (by omega) q p hq h
      rw[if_neg (by omega),if_neg (by omega)]
      omega
theorem Kj8 (n:Nat) (l:List Int) (hw:∀ j,j<l.length->1<=(l.getD j 0).natAbs/\(l.getD j 0).natAbs<n) (p:Nat) (h1:1<=p) (h2:p<=n) (k:Nat) (hk:k<=l.length):(Qj2 n l k).getD (pl l p k-1) 0=(p:Int):=by
 induction k with
 |zero=>
  rw[show Qj2 n l 0=QA8 n fun i=>(i:Int)+1 from rfl,XQ8 _ _ _ (show pl l p 0-1<n by show p-1<n;omega)]
  show((p-1:Nat):Int)+1=p
  omega
 |succ k ih=>
  have hx:=hw k (by omega)
  have hr:=XU6 hw h1 h2 k (by omega)
  have hok:=Qy8 n l (fun j hj=>(hw j hj).2) k (by omega)
  have h:=ih (by omega)
  rw[Qu5 n l k (by omega)]
  show(trd (Qj2 n l k) (l.getD k 0).natAbs).getD (plc (pl l p k) (l.getD k 0).natAbs-1) 0=(p:Int)
  generalize (l.getD k 0).natAbs=i at hx ⊢
  generalize pl l p k=q at hr h ⊢
  unfold trd plc
  rw[QD0,QD0,List.length_set,hok.ln]
  by_cases e1:q=i
  · rw[if_pos e1,if_pos ⟨by omega,hx.2⟩,<-e1];exact h
  · rw[if_neg e1]
    by_cases e2:q=i+1
    · rw[if_pos e2,if_neg (by omega),if_pos ⟨rfl,by omega⟩]
      rw[e2]at h
      exact h
    · rw[if_neg e2,if_neg (by omega),if_neg (by omega)]
      exact h
theorem JZ9 (n:Nat) (l:List Int) (hw:∀ j,j<l.length->1<=(l.getD j 0).natAbs/\(l.getD j 0).natAbs<n) (p:Nat) (h1:1<=p) (h2:p<=n):(Qd9 (Qj2 n l l.length) n).getD (p-1) 0=(pl l p l.length:Int):=by
 have hok:=Qy8 n l (fun j hj=>(hw j hj).2) l.length (Nat.le_refl _)
 have hbp:=Ky2 n l hw l.length (Nat.le_refl _)
 have hpb:=Kj8 n l hw p h1 h2 l.length (Nat.le_refl _)
 have hr:=XU6 hw h1 h2 l.length (Nat.le_refl _)
 generalize Qj2 n l l.length=T at hok hbp hpb ⊢
 generalize hq:pl l p l.length=q at hpb hr ⊢
 have key:∀ k,k<=n->q<=k->(Qd9 T k).getD (p-1) 0=(q:Int):=by
  intro k
  induction k with
  |zero=>intro _ h;omega
  |succ k ih=>
   intro hk hqk
   have hrk:=hok.rng k (by omega)
   rw[XK8,QD0,XA9,hok.ln]
   by_cases e:q=k+1
   · have e1:T.getD k 0=(p:Int):=by rw[<-hpb,e];rfl
     rw[if_pos ⟨by omega,by omega⟩]
     omega
   · by_cases e2:p-1=(T.getD k 0-1).toNat
     · have e1:T.getD k 0=(p:Int):=by omega
       have:=hbp k p (by omega) e1
       omega
     · rw[if_neg (fun x=>e2 x.1)]
       exact ih (by omega) (by omega)
 exact key n (Nat.le_refl _) hr.2
def up (G:Nat->Int) (c:Nat) (x:Int):Nat->Int:=fun j=>if j=c then x else G j
theorem Jq0 (G:Nat->Int) (c:Nat) (x y:Int):up (up G c x) c y=up G c y:=by
 funext j
 unfold up
 split<;>rfl
def rS (q:(Nat->Int)×Nat) (p:Nat×Nat):(Nat->Int)×Nat:=(up (up q.1 (4*p.1+p.2) ((q.2+1:Nat):Int)) (4*p.1+2+p.2) ((q.2+2:Nat):Int),q.2+1)
def rG (G:Nat->Int) (b:Nat) (W:List (Nat×Nat)):Nat->Int:=(W.foldl rS (G,b)).1
theorem JF5 (W:List (Nat×Nat)) (q:(Nat->Int)×Nat):(W.foldl rS q).2=q.2+W.length:=by
 induction W generalizing q with
 |nil=>rfl
 |cons x W ih=>rw[List.foldl_cons,ih,List.length_cons];show q.2+1+W.length=_;omega
theorem Kj3 (G:Nat->Int) (b:Nat) (W:List (Nat×Nat)) (p:Nat×Nat):rG G b (W++[p])=up (up (rG G b W) (4*p.1+p.2) ((b+W.length+1:Nat):Int)) (4*p.1+2+p.2) ((b+W.length+2:Nat):Int):=by
 unfold rG
 rw[List.foldl_append]
 show(rS (W.foldl rS (G,b)) p).1=_
 have e:=JF5 W (G,b)
 generalize W.foldl rS (G,b)=q at e ⊢
 obtain⟨q1,q2⟩:=q
 obtain rfl:q2=b+W.length:=e
 rfl
def Kb5 (W:List (Nat×Nat)):Nat×Nat:=W.getD (W.length-1) (0,0)
def nG (G:Nat->Int) (b:Nat) (W:List (Nat×Nat)):Nat->Int:=if W.length=0 then G else up (rG G b W) (4*(Kb5 W).1+2+(Kb5 W).2) ((b+1:Nat):Int)
def Qu9 (G:Nat->Int) (b:Nat) (W:List (Nat×Nat)) (i:Nat):Nat->Int:=if i<W.length then rG G b (W.take i) else nG G b W
theorem Xv0 (G:Nat->Int) (b:Nat) (W:List (Nat×Nat)):Qu9 G b W 0=G:=by
 unfold Qu9
 split
 · rfl
 · unfold nG
   rw[if_pos (by omega)]
theorem ZW3 (G:Nat->Int) (b:Nat) (W:List (Nat×Nat)):Qu9 G b W W.length=nG G b W:=by
 unfold Qu9
 rw[if_neg (Nat.lt_irrefl _)]
theorem XD4 (W:List (Nat×Nat)) (i:Nat) (h:i<W.length):W.take (i+1)=W.take i++[W.getD i (0,0)]:=by
 rw[List.take_succ_eq_append_getElem h,List.getD_eq_getElem?_getD,List.getElem?_eq_getElem h]
 rfl
theorem Xv1 (G:Nat->Int) (b:Nat) (W:List (Nat×Nat)) (i:Nat) (h:i<W.length):Qu9 G b W (i+1)=up (up (Qu9 G b W i) (4*(W.getD i (0,0)).1+(W.getD i (0,0)).2) ((b+i+1:Nat):Int)) (4*(W.getD i (0,0)).1+2+(W.getD i (0,0)).2) ((b+(i+1)%W.length+1:Nat):Int):=by
 have hl:(W.take i).length=i:=by rw[List.length_take];omega
 unfold Qu9
 rw[if_pos h]
 by_cases h2:i+1<W.length
 · rw[if_pos h2,XD4 W i h,Kj3,hl,Nat.mod_eq_of_lt h2]
   rfl
 · rw[if_neg h2]
   unfold nG Kb5
   rw[if_neg (by omega)]
   have e1:W.length-1=i:=by omega
   have e2:(i+1)%W.length=0:=by rw[show i+1=W.length by omega];exact Nat.mod_self _
   have e3:W=W.take i++[W.getD i (0,0)]:=by rw[<-XD4 W i h,List.take_of_length_le (by omega)]
   rw[e1,e2]
   generalize hq:W.getD i (0,0)=q at e3 ⊢
   rw[show rG G b W=rG G b (W.take i++[q]) by rw[<-e3],Kj3,Jq0,hl]
def upB (D:Nat->Bool) (p:Nat):Nat->Bool:=fun j=>if j=p then true else D j
def cntF (D:Nat->Bool):Nat:=(if D 0 then 0 else 1)+(if D 1 then 0 else 1)+(if D 2 then 0 else 1)+(if D 3 then 0 else 1)+(if D 4 then 0 else 1)+(if D 5 then 0 else 1)+(if D 6 then 0 else 1)
theorem JJ7 (D:Nat->Bool):cntF D<=7:=by
 unfold cntF
 repeat' split
 all_goals omega
theorem JJ6 (D:Nat->Bool) (p:Nat) (hp:p<7) (h:D p=false):cntF (upB D p)+1=cntF D:=by
 have:p=0∨p=1∨p=2∨p=3∨p=4∨p=5∨p=6:=by omega
 unfold cntF upB
 rcases this with rfl|rfl|rfl|rfl|rfl|rfl|rfl<;>simp[h]<;>omega
def rg (E:Nat->Nat):Nat->(Nat->Bool)->Nat->List Nat×(Nat->Bool)
 |0,D,_=>([],D)
 |f+1,D,p=>if D p then([],D) else(p::(rg E f (upB D p) (E p)).1,(rg E f (upB D p) (E p)).2)
theorem Xd3 (E:Nat->Nat) (f:Nat) (D:Nat->Bool) (p:Nat) (h:D p=true):rg E f D p=([],D):=by
 cases f with
 |zero=>rfl
 |succ f=>unfold rg;rw[if_pos h]
theorem XG2 (E:Nat->Nat) (f:Nat) (D:Nat->Bool) (p:Nat) (h:D p=false):rg E (f+1) D p=(p::(rg E f (upB D p) (E p)).1,(rg E f (upB D p) (E p)).2):=by
 show(if D p then _ else _)=_
 rw[if_neg (by rw[h];decide)]
theorem Zz2 (E:Nat->Nat):∀ f D p,(rg E f D p).1.length<=f
 |0,_,_=>Nat.le_refl _
 |f+1,D,p=>by
  cases h:D p with
  |true=>rw[Xd3 E _ D p h];exact Nat.zero_le _
  |false=>rw[XG2 E f D p h];have:=Zz2 E f (upB D p) (E p);simp;omega
theorem Kj2 (E:Nat->Nat) (n:Nat) (hE:∀ p,1<=p->p<=n->1<=E p/\E p<=n):∀ f D p,1<=p->p<=n->∀ q∈(rg E f D p).1,1<=q/\q<=n
 |0,_,_,_,_,q,h=>by cases h
 |f+1,D,p,h1,h2,q,h=>by
  cases hd:D p with
  |true=>rw[Xd3 E _ D p hd]at h;cases h
  |false=>
   rw[XG2 E f D p hd]at h
   rcases List.mem_cons.1 h with rfl|h
   · exact⟨h1,h2⟩
   · exact Kj2 E n hE f _ _ (hE p h1 h2).1 (hE p h1 h2).2 q h
structure RgS (E:Nat->Nat) (n:Nat) (D:Nat->Bool) (p:Nat) (R:List Nat) (D':Nat->Bool) (p' f:Nat):Prop where
 few:cntF D'<=f
 ring:(rg E 7 D p).1=R++(rg E f D' p').1
 done:(rg E 7 D p).2=(rg E f D' p').2
 p1:1<=p'
 p2:p'<=n
theorem RgS.start (E:Nat->Nat) (n:Nat) (D:Nat->Bool) (p:Nat) (h1:1<=p) (h2:p<=n):RgS E n D p [] D p 7:=⟨JJ7 D,rfl,rfl,h1,h2⟩
theorem RgS.step {E:Nat->Nat} {n:Nat} {D:Nat->Bool} {p:Nat} {R:List Nat} {D':Nat->Bool} {p' f:Nat} (h:RgS E n D p R D' p' f) (hn:n<=6) (hE:∀ p,1<=p->p<=n->1<=E p/\E p<=n) (hd:D' p'=false):∃ f',f=f'+1/\RgS E n D p (R++[p']) (upB D' p') (E p') f':=by
 have hc:=JJ6 D' p' (by have:=h.p2;omega) hd
 have hf:=h.few
 obtain⟨f',rfl⟩:∃ f',f=f'+1:=⟨f - 1,by omega⟩
 refine⟨f',rfl,by omega,?_,?_,(hE p' h.p1 h.p2).1,(hE p' h.p1 h.p2).2⟩
 · rw[h.ring,XG2 E f' D' p' hd];simp
 · rw[h.done,XG2 E f' D' p' hd]
theorem RgS.stop {E:Nat->Nat} {n:Nat} {D:Nat->Bool} {p:Nat} {R:List Nat} {D':Nat->Bool} {p' f:Nat} (h:RgS E n D p R D' p' f) (hd:D' p'=true):rg E 7 D p=(R,D'):=by
 have h1:=h.ring
 have h2:=h.done
 rw[Xd3 E f D' p' hd]at h1 h2
 rw[List.append_nil]at h1
 exact Prod.ext h1 h2
theorem RgS.len {E:Nat->Nat} {n:Nat} {D:Nat->Bool} {p:Nat} {R:List Nat} {D':Nat->Bool} {p' f:Nat} (h:RgS E n D p R D' p' f):R.length<=7:=by
 have h1:=Zz2 E 7 D p
 rw[h.ring,List.length_append]at h1
 omega
def rgs (E:Nat->Nat):Nat->(Nat->Bool)×List (List Nat)
 |0=>(fun _=>false,[])
 |k+1=>((rg E 7 (rgs E k).1 (k+1)).2,if(rg E 7 (rgs E k).1 (k+1)).1.length=0 then(rgs E k).2 else(rgs E k).2++[(rg E 7 (rgs E k).1 (k+1)).1])
theorem Xd1 (E:Nat->Nat):∀ k,(rgs E k).2.length<=k
 |0=>Nat.le_refl _
 |k+1=>by
  have:=Xd1 E k
  unfold rgs
  dsimp only
  split
  · omega
  · rw[List.length_append];simp;omega
theorem Xd0 (E:Nat->Nat) (n:Nat) (hE:∀ p,1<=p->p<=n->1<=E p/\E p<=n):∀ k,k<=n->∀ r∈(rgs E k).2,r.length<=7/\∀ q∈r,1<=q/\q<=n
 |0,_,r,h=>by cases h
 |k+1,hk,r,h=>by
  unfold rgs at h
  dsimp only at h
  split at h
  · exact Xd0 E n hE k (by omega) r h
  · rcases List.mem_append.1 h with h|h
    · exact Xd0 E n hE k (by omega) r h
    · obtain rfl:=List.mem_singleton.1 h
      exact⟨Zz2 _ _ _ _,Kj2 E n hE 7 _ _ (by omega) (by omega)⟩
def wk (l:List Int) (r:List Nat):List (Nat×Nat):=r.flatMap fun p=>cl l p l.length
theorem Kz8 (l:List Int) (r:List Nat) (p:Nat):wk l (r++[p])=wk l r++cl l p l.length:=by simp[wk]
theorem Zx9 (l:List Int):∀ (r:List Nat),(wk l r).length<=r.length*l.length
 |[]=>by simp[wk]
 |p::r=>by
  have h:=Zx9 l r
  have h1:=ZK2 l p l.length
  have e:wk l (p::r)=cl l p l.length++wk l r:=by simp[wk]
  rw[e,List.length_append,List.length_cons,Nat.succ_mul]
  omega
theorem Xx5 (l:List Int) (r:List Nat) (q:Nat×Nat) (h:q∈wk l r):q.1<l.length/\q.2<2:=by
 obtain⟨p,-,h⟩:=List.mem_flatMap.1 h
 exact Ky0 l p _ q h
def cS (l:List Int) (q:(Nat->Int)×Nat×Nat) (r:List Nat):(Nat->Int)×Nat×Nat:=(nG q.1 q.2.1 (wk l r),q.2.1+(wk l r).length,q.2.2+if(wk l r).length=0 then 1 else 0)
def cF (l:List Int) (L:List (List Nat)):(Nat->Int)×Nat×Nat:=L.foldl (cS l) (fun _=>0,0,0)
theorem XQ4 (l:List Int) (L:List (List Nat)) (r:List Nat):cF l (L++[r])=cS l (cF l L) r:=by unfold cF;rw[List.foldl_append];rfl
theorem JB1 (l:List Int) (hl:l.length<=16) (L:List (List Nat)) (h:∀ r∈L,r.length<=7):∀ k,k<=L.length->(cF l (L.take k)).2.1<=112*k/\(cF l (L.take k)).2.2<=k
 |0,_=>⟨Nat.zero_le _,Nat.zero_le _⟩
 |k+1,hk=>by
  have ih:=JB1 l hl L h k (by omega)
  have hr:=h (L[k]) (List.getElem_mem _)
  have hw:=Zx9 l (L[k])
  have hm:(L[k]).length*l.length<=7*16:=Nat.mul_le_mul hr hl
  rw[List.take_succ_eq_append_getElem (by omega),XQ4]
  unfold cS
  dsimp only
  refine⟨by omega,?_⟩
  split<;>omega
def clX (l:List Int) (G:Nat->Int) (k:Nat):Cr:=if 0<l.getD k 0 then⟨G (4*k+1),G (4*k+2),G (4*k+3),G (4*k),true⟩ else⟨G (4*k),G (4*k+1),G (4*k+2),G (4*k+3),false⟩
def clC (l:List Int) (G:Nat->Int) (k:Nat):List Cr:=(List.range k).map (clX l G)
theorem JJ9 (l:List Int) (G:Nat->Int) (k:Nat):(clC l G k).length=k:=by simp[clC]
end Go.Proofs.YtjcagkgpbcdghaaDoor
/- Words: the walks of ref.WordsMay, and of places and their trades. -/
namespace Go.Proofs.YtjcagkgpbcdghaaDoor
open Go.RowKit
theorem QC1 {P : Program} {w : World} {ops : Array Oper} {rest : List Oper} {o : Oper} {a : Act} {Q : Exit → Act → World → Prop} (hgd : o.guard = none) (s x : Operand) (t : TypeId)
    (ho:o.op=.call { callee:=.builtin .append,args:=#[s,x],argTypes:=#[t,t] })
    (base:Nat) (e:TypeId) (i:TypeInfo) (z:Value) (size bytes:Nat) (ht:P.underlying t=some (.slice e)) (hi:P.info? e=some i) (hz:i.zero=some z)
    (hsize:i.size=size) (hby:i.bytes=bytes) (hzs:z.cells.size=size) (hsz:0<size) (v0:Value) (n0:Nat) (ys:List Value) (hs:a.eval s=v0) (hown:w.ownsRow base e size v0 n0 ys)
    (v:Value) (B n:Nat) (xs:List Value) (hx:a.eval x=v) (hin:InAt w B size v n xs) (hl:xs.length=n*size) (h1:∀ u∈xs,u.oneCell'=true)
    (h63:n0+n<=maxLen) (hbytes:(n0+n)*bytes<=140737488355328) (hbase:base<=w.heap.size)
    (h:∀ v' w',w'.ownsRow base e size v' (n0+n) (ys++xs)->w.grownBy w' v0.ownBlock->wpList P ops Q rest (a.put o.dst v') w'):wpList P ops Q (o::rest) a w:=by
 rcases hin with⟨rfl,rfl⟩|⟨ad,cap,rfl,rfl⟩|⟨b,off,cap,rfl,hlt,hc⟩
 · obtain rfl:xs=[]:=List.length_eq_zero_iff.1 (by omega)
   exact wpList_append_own_none hgd s x t ho base e i size ht hi _ n0 ys hs hown hx (h _ _ (by simpa using hown) (World.grownBy.refl _ _))
 · obtain rfl:xs=[]:=List.length_eq_zero_iff.1 (by omega)
   exact wpList_append_own _ hgd s x t ho base e i z size bytes ht hi hz hsize hby hzs hsz _ n0 ys hs hown ad 0 cap [] hx (by simp) (fun j u h=>by simp at h) (fun u h=>by simp at h) (by omega) hbytes hbase
    fun v' w' g1 g2 _=>h v' w' g1 g2
 · refine wpList_append_own _ hgd s x t ho base e i z size bytes ht hi hz hsize hby hzs hsz _ n0 ys hs hown ⟨b, off, none⟩ n cap xs hx hl (fun j u hj => ?_) h1 (by omega) hbytes hbase
     fun v' w' g1 g2 _=>h v' w' g1 g2
   have hlt2:j<xs.length:=(List.getElem?_eq_some_iff.1 hj).1
   have:=hc j (by omega)
   rw[hj]at this
   unfold Addr.add
   split
   · rename_i h0;subst h0;exact this
   · exact this
end Go.Proofs.YtjcagkgpbcdghaaDoor
/- Ends of strands: the walks of braid.Ends and of ref.EndsOf. -/
namespace Go.Proofs.YtjcagkgpbcdghaaDoor
open Go.RowKit
set_option maxHeartbeats 8000000
set_option maxRecDepth 100000
def Zx2 (d:Int) (k i:Nat):Int:=if i<k then(i:Int)+d else 0
theorem KX5 (n:Nat) (d:Int):List.replicate n 0=QA8 n (Zx2 d 0):=(KK3 _ _ (fun j _=>by unfold Zx2;rw[if_neg (by omega)])).symm
theorem KX6 (n:Nat) (d:Int) (k:Nat):(QA8 n (Zx2 d k)).set k ((k:Int)+d)=QA8 n (Zx2 d (k+1)):=by
 refine Qq5 _ _ _ _ _ fun j _=>?_
 unfold Zx2
 by_cases e:j=k
 · subst e;rw[if_pos (by omega),if_pos rfl]
 · rw[if_neg e]
   by_cases h:j<k
   · rw[if_pos h,if_pos (by omega)]
   · rw[if_neg h,if_neg (by omega)]
theorem KG1 (n:Nat) (d:Int):QA8 n (Zx2 d n)=QA8 n fun i=>(i:Int)+d:=Qb5 _ _ _ fun j hj=>by unfold Zx2;rw[if_pos hj]
theorem Zq7 (x : Int) (w : World) (h1 : -1000 ≤ x) (h2 : x ≤ 1000) :
    Calls Tryd.prog 26 #[.int .i64 x] w fun e w'=>e=.returned (.int .i64 (x.natAbs:Int))/\w'=w:=by
 by_cases h0:x<0
 · have HE:Hid (-x=(x.natAbs:Int)):=(by omega : -x=(x.natAbs:Int))
   have hc:x < -x:=by omega
   go_enter Tryd.func26,Tryd.ntmps26
   go_wp2
   go_ret
   exact⟨by rw[<-HE.out];rfl,rfl⟩
 · have HE:Hid (x=(x.natAbs:Int)):=(by omega:x=(x.natAbs:Int))
   have hc:¬ x < -x:=by omega
   go_enter Tryd.func26,Tryd.ntmps26
   go_wp2
   go_ret
   exact⟨by rw[<-HE.out];rfl,rfl⟩
theorem ZG6 (n : Nat) (w : World) (hn : n ≤ 6) :
    Calls Tryd.prog 24 #[.int .i64 (n:Nat)] w fun e w'=>∃ a c,e=.returned (.slice a n c)/\w'.ownsRow w.heap.size 3 1 (.slice a n c) n (QQ3 (QA8 n fun i=>(i:Int)+1))/\w.grownBy w' none:=by
 obtain⟨i0,hi,hz0,hz1,hz2⟩:=info_parts QB7
 go_enter Tryd.func24,Tryd.ntmps24
 go_wp2_with (first|(at_make;refine wpList_make_full _ rfl _ _ 22 rfl w.heap.size 3 i0 (.int .i64 0) 1 Tryd.underlying22 hi hz0 hz1 .i64 .i64 _ _ n rfl rfl rfl rfl (by rw[hz2];omega) (by unfold maxLen;omega) (by simp) ?_;intro w1 hrow1 hg1;refine Hid.out ?_))
 refine Lib.hid ?_
 rw[Qw7,KX5 n 1]at hrow1
 obtain⟨g,hg⟩:∃ g,w.heap.size=g:=⟨_,rfl⟩
 have HG:Hid (w.heap.size=g):=hg
 rw[hg]at hrow1 ⊢
 have HR1:Hid (w1.ownsRow g 3 1 (.slice (some ⟨g,0,none⟩) n n) n (QQ3 (QA8 n (Zx2 1 0)))/\w.grownBy w1 none):=⟨hrow1,hg1⟩
 clear hrow1 hg1 hg
 go_wp2
 go_loopw [8] (fun v8 wr=>∃ k:Nat,k<=n/\v8=.int .i64 (k:Nat)/\Hid (wr.ownsRow g 3 1 (.slice (some ⟨g,0,none⟩) n n) n (QQ3 (QA8 n (Zx2 1 k)))/\w.grownBy wr none)) (fun v8 _=>n-(intOf v8).toNat)
 case atStart=>exact⟨0,Nat.zero_le _,rfl,HR1.out⟩
 case round=>
  clear HR1
  rename World=>W1
  obtain⟨k,hkn,rfl,hp⟩:=hrel
  by_cases hk:k<n
  · have hkI:(k:Int)<(n:Int):=by omega
    have e0:=hp.out.1.cellAt k (by omega)
    rw[QZ5 _ k (by rw[QB3];exact hk)]at e0
    have f0:=hp.out.1.frozenAt k
    have lg:=(hp.out.1.lt g rfl).2
    have hst:=hp.out.1.stored k (.int .i64 ((k:Int)+1))
    rw[QK0,KX6]at hst
    have HST:Hid ((W1.setCell ⟨g,k,none⟩ (.int .i64 ((k:Int)+1))).ownsRow g 3 1 (.slice (some ⟨g,0,none⟩) n n) n (QQ3 (QA8 n (Zx2 1 (k+1))))/\w.grownBy (W1.setCell ⟨g,k,none⟩ (.int .i64 ((k:Int)+1))) none):=⟨hst.1,⟨hst.2.os.trans hp.out.2.os,hst.2.tape.trans hp.out.2.tape,hst.2.output.trans hp.out.2.output,Nat.le_trans hp.out.2.size hst.2.size,fun q hq _=>(hst.2.block q (Nat.lt_of_lt_of_le hq hp.out.2.size) (fun e=>by have h1:q=g:=Option.some.inj e;have:=HG.out;omega)).trans (hp.out.2.block q hq (by simp))⟩⟩
    clear hst
    generalize (QA8 n (Zx2 1 k)).getD k 0=z at e0
    go_wp2
    go_roundw
    case rel=>exact⟨k+1,by omega,by go_num,HST.out⟩
    case measure=>simp only[intOf];omega
  · obtain rfl:k=n:=by omega
    rw[KG1]at hp
    go_wp2
    go_ret
    exact⟨_,_,rfl,by rw[HG.out];exact hp.out.1,hp.out.2⟩
theorem Zg6 (B g cap n i j : Nat) (l : List Int) (w : World) (hl : l.length = n) (hn : n ≤ 1000) (hi : i < n) (hij : i = j + 1) (h : w.ownsRow B 3 1 (.slice (some ⟨g, 0, none⟩) n cap) n (QQ3 l)) :
    Calls Tryd.prog 25 #[.slice (some ⟨g,0,none⟩) n cap,.int .i64 (i:Nat)] w fun e w'=>e=.returned (.tuple #[])/\w'.ownsRow B 3 1 (.slice (some ⟨g,0,none⟩) n cap) n (QQ3 (trd l i))/\w.grownBy w' (some g):=by
 have e0:w.cell? ⟨g,j,none⟩=some (.int .i64 (l.getD j 0)):=by rw[h.cellAt j (by omega),QZ5 _ j (by omega)]
 have e1:w.cell? ⟨g,i,none⟩=some (.int .i64 (l.getD i 0)):=by rw[h.cellAt i (by omega),QZ5 _ i (by omega)]
 have f0:w.frozen? ⟨g,j,none⟩=false:=h.frozenAt j
 have f1:w.frozen? ⟨g,i,none⟩=false:=h.frozenAt i
 have hst:=h.stored j (.int .i64 (l.getD i 0))
 have hst2:=hst.1.stored i (.int .i64 (l.getD j 0))
 have etr:(l.set j (l.getD i 0)).set i (l.getD j 0)=trd l i:=by unfold trd;rw[show i-1=j by omega]
 rw[QK0,QK0,etr]at hst2
 obtain⟨x,hx⟩:∃ x,l.getD j 0=x:=⟨_,rfl⟩
 obtain⟨y,hy⟩:∃ y,l.getD i 0=y:=⟨_,rfl⟩
 rw[hx]at e0 hst2
 rw[hy]at e1 hst hst2
 have HST:Hid (((w.setCell ⟨g,j,none⟩ (.int .i64 y)).setCell ⟨g,i,none⟩ (.int .i64 x)).ownsRow B 3 1 (.slice (some ⟨g,0,none⟩) n cap) n (QQ3 (trd l i))/\w.grownBy ((w.setCell ⟨g,j,none⟩ (.int .i64 y)).setCell ⟨g,i,none⟩ (.int .i64 x)) (some g)):=⟨hst2.1,grown_trans hst.2 hst2.2⟩
 have hgw:=(h.lt g rfl).2
 have hiI:(i:Int)<(n:Int):=by omega
 have hjI:(j:Int)<(n:Int):=by omega
 have hne:j≠i:=by omega
 have hjn:j<n:=by omega
 have ew:IntKind.i64.wrap ((i:Int)-1)=(j:Int):=by rw[IntWalk.i64_in _ (by omega)];omega
 clear hst hst2 etr hx hy hij h hl
 go_enter Tryd.func25,Tryd.ntmps25
 go_wp2
 apply Zb9
 case h=>
  intro key
  go_region_with (fail)
  all_goals exact key.out
 obtain⟨X,hX⟩:∃ X,X=((w.setCell ⟨g,j,none⟩ (.int .i64 y)).setCell ⟨g,i,none⟩ (.int .i64 x)).drew:=⟨_,rfl⟩
 have HX : Hid (X.ownsRow B 3 1 (.slice (some ⟨g, 0, none⟩) n cap) n (QQ3 (trd l i)) ∧ w.grownBy X (some g)) := (by
  rw[hX]
  exact⟨own_any HST.out.1 (grown_below ((Below.refl _ _).drew) none),grown_trans HST.out.2 (grown_below ((Below.refl _ _).drew) _)⟩)
 rw[<-hX]
 clear hX HST e0 e1 f0 f1
 go_wp2
 exact bodyPost_end (v:=.tuple #[]) (results_none rfl _ _ _) rfl ⟨rfl,HX.out⟩
theorem XV9 (v : Value) (n : Nat) (l : List Int) (w : World) (hn : n ≤ 1000) (hp : PlOk n l) (h : RdAt w w.heap.size 1 v n (QQ3 l)) :
    Calls Tryd.prog 27 #[v] w fun e w'=>∃ a c,e=.returned (.slice a n c)/\w'.ownsRow w.heap.size 3 1 (.slice a n c) n (QQ3 (Qd9 l n))/\Below w.heap.size w w':=by
 obtain⟨i0,hi,hz0,hz1,hz2⟩:=info_parts QB7
 obtain⟨a,cap,rfl⟩:∃ a cap,v=.slice a n cap:=by obtain⟨a,cap,e,-⟩:=h;exact⟨a,cap,e⟩
 have HRD:Hid (RdAt w w.heap.size 1 (.slice a n cap) n (QQ3 l)):=h
 have HP:Hid (PlOk n l):=hp
 clear h hp
 go_enter Tryd.func27,Tryd.ntmps27
 go_wp2_with (first|(at_make;refine wpList_make_full _ rfl _ _ 22 rfl w.heap.size 3 i0 (.int .i64 0) 1 Tryd.underlying22 hi hz0 hz1 .i64 .i64 _ _ n rfl rfl rfl rfl (by rw[hz2];omega) (by unfold maxLen;omega) (by simp) ?_;intro w1 hrow1 hg1;refine Hid.out ?_))
 refine Lib.hid ?_
 rw[Qw7]at hrow1
 obtain⟨g,hg⟩:∃ g,w.heap.size=g:=⟨_,rfl⟩
 have HG:Hid (w.heap.size=g):=hg
 have HB1:Hid (Below w.heap.size w w1):=(Below.refl _ _).grown hg1 (Nat.le_refl _) (fun k hk=>by cases hk)
 rw[hg]at hrow1
 rw[hg]
 have HR1 : Hid (w1.ownsRow g 3 1 (.slice (some ⟨g, 0, none⟩) n n) n (QQ3 (Qd9 l 0))) := (by
  have e:Qd9 l 0=List.replicate n 0:=by show List.replicate l.length 0=_;rw[HP.out.ln]
  rw[e]
  exact hrow1)
 clear hrow1 hg1 hg
 go_wp2
 go_loopw [11] (fun v11 wr=>∃ k:Nat,k<=n/\v11=.int .i64 (k:Nat)/\Hid (wr.ownsRow g 3 1 (.slice (some ⟨g,0,none⟩) n n) n (QQ3 (Qd9 l k)))/\Hid (Below w.heap.size w wr)) (fun v11 _=>n-(intOf v11).toNat)
 case atStart=>exact⟨0,Nat.zero_le _,rfl,HR1.out,HB1.out⟩
 case round=>
  clear HR1 HB1
  rename World=>W1
  obtain⟨k,hkn,rfl,hp,hb⟩:=hrel
  by_cases hk:k<n
  · have hkI:(k:Int)<(n:Int):=by omega
    have hll:=HP.out.ln
    have hrd:=HRD.out.on hb.out
    have hrr:RdAt W1 w.heap.size 1 (.slice a l.length cap) l.length (QQ3 l):=by rw[hll];exact hrd
    obtain⟨b,off,ea,hlt,hc⟩:=hrr.intAt k (by omega)
    obtain⟨r1,r2⟩:=HP.out.rng k hk
    have HEN:Hid (Qd9 l (k+1)=(Qd9 l k).set (l.getD k 0-1).toNat ((k:Int)+1)):=XK8 l k
    obtain⟨q,hq⟩:∃ q:Nat,l.getD k 0=(q:Int)+1:=⟨(l.getD k 0 - 1).toNat,by omega⟩
    rw[hq]at hc r2 HEN
    have hqn:q<n:=by omega
    have hqI:(q:Int)<(n:Int):=by omega
    have HEN2:Hid (Qd9 l (k+1)=(Qd9 l k).set q ((k:Int)+1)):=(by rw[HEN.out,show((q:Int)+1-1).toNat=q by omega]:Qd9 l (k+1)=(Qd9 l k).set q ((k:Int)+1))
    have e0:=hp.out.cellAt q (by omega)
    rw[QZ5 _ q (by rw[XA9,hll];exact hqn)]at e0
    generalize (Qd9 l k).getD q 0=z at e0
    have f0:=hp.out.frozenAt q
    have lg:=(hp.out.lt g rfl).2
    have lb:b<W1.heap.size:=Nat.lt_of_lt_of_le hlt hb.out.size
    have hst:=hp.out.stored q (.int .i64 ((k:Int)+1))
    rw[QK0,<-HEN2.out]at hst
    have HST:Hid ((W1.setCell ⟨g,q,none⟩ (.int .i64 ((k:Int)+1))).ownsRow g 3 1 (.slice (some ⟨g,0,none⟩) n n) n (QQ3 (Qd9 l (k+1)))):=hst.1
    have HBS:Hid (Below w.heap.size w (W1.setCell ⟨g,q,none⟩ (.int .i64 ((k:Int)+1)))):=hb.out.grown hst.2 hb.out.size (fun x hx=>by have h1:g=x:=Option.some.inj hx;have:=HG.out;omega)
    clear hst HEN HEN2 hrd hrr hll r1 r2 hq
    subst ea
    go_wp2
    go_roundw
    case rel=>exact⟨k+1,by omega,by go_num,HST.out,HBS.out⟩
    case measure=>simp only[intOf];omega
  · obtain rfl:k=n:=by omega
    go_wp2
    go_ret
    exact⟨_,_,rfl,by rw[HG.out];exact hp.out,hb.out⟩
theorem KA0 {w W:World} {a:Option Addr} {c g:Nat} {l:List Int} (h:RdAt w w.heap.size 1 (.slice a l.length c) l.length (QQ3 l)) (hW:Below w.heap.size w W) (hg:W.heap[g]?=some (.cells #[.slice a l.length c] 22 (0,0))):IntsRd W W.heap.size (.slice (some ⟨g,0,none⟩) 1 1) [l]:=by
 refine⟨[.slice a l.length c],rfl,⟨_,_,rfl,fun _=>⟨g,0,rfl,(Array.getElem?_eq_some_iff.1 hg).1,fun j hj=>?_⟩⟩,fun j hj=>?_⟩
 · obtain rfl:j=0:=by simp at hj;omega
   exact QQ0 hg rfl
 · obtain rfl:j=0:=by simp at hj;omega
   exact(h.on hW).mono hW.size
theorem Xh8 {w W : World} {a : Option Addr} {c g : Nat} {l : List Int} (n : Int) (hl : l.length * 8 ≤ 140737488355328) (h : RdAt w w.heap.size 1 (.slice a l.length c) l.length (QQ3 l)) (hW : Below w.heap.size w W) (hg : W.heap[g]? = some (.cells #[.slice a l.length c] 22 (0, 0))) :
    Calls Tryd.prog 23 #[.int .i64 n,.slice (some ⟨g,0,none⟩) 1 1] W fun e w'=>e=.returned (.int .i64 (Qf1 n l))/\Below W.heap.size W w':=by
 have := Xh9 (.slice (some ⟨g, 0, none⟩) 1 1) [l] n W (by simp) (fun j hj => by
  obtain rfl:j=0:=by simp at hj;omega
  show l.length<=_
  omega) (KA0 h hW hg)
 rw[ZB8]at this
 exact this
end Go.Proofs.YtjcagkgpbcdghaaDoor
/- Ends of strands: the walks of braid.Ends and of ref.EndsOf. -/
namespace Go.Proofs.YtjcagkgpbcdghaaDoor
open Go.RowKit
set_option maxHeartbeats 4000000
set_option maxRecDepth 100000
theorem Xj6 {w:World} {B e s n:Nat} {v:Value} {xs:List Value} (h:w.ownsRow B e s v n xs) (hn:1<=n):∃ g c,v=.slice (some ⟨g,0,none⟩) n c/\B<=g/\g<w.heap.size:=by
 have h0:=h
 rcases h.2 with⟨rfl,h1⟩|⟨g,cap,cur,rfl,h2,_⟩
 · omega
 · exact⟨g,cap,rfl,(h0.lt g rfl).1,(h0.lt g rfl).2⟩
theorem KC3 (a : Option Addr) (c n : Nat) (l : List Int) (w : World) (hl : l.length * 8 ≤ 140737488355328) (hn : Qf1 (n : Int) l = 0) (h : RdAt w w.heap.size 1 (.slice a l.length c) l.length (QQ3 l)) :
    Calls Tryd.prog 12 #[.int .i64 (n:Nat),.slice a l.length c] w fun e w'=>∃ a2 c2,e=.returned (.tuple #[.slice a2 n c2,.int .i64 0])/\RdAt w' w'.heap.size 1 (.slice a2 n c2) n (QQ3 (Qd9 (Qj2 n l l.length) n))/\Below w.heap.size w w':=by
 obtain⟨n2,n6,hlet,hl20⟩:=Qf5 hn
 have HLT:Hid (∀ j,j<l.length->l.getD j 0≠0 /\ -(n:Int)<l.getD j 0/\l.getD j 0<(n:Int)):=hlet
 have HAB:Hid (∀ j,j<l.length->(l.getD j 0).natAbs<n):=fun j hj=>by have:=hlet j hj;omega
 have HPL:Hid (∀ k,k<=l.length->PlOk n (Qj2 n l k)):=fun k hk=>Qy8 n l HAB.out k hk
 have HNX:Hid (∀ k,k<l.length->Qj2 n l (k+1)=trd (Qj2 n l k) (l.getD k 0).natAbs):=fun k hk=>Qu5 n l k hk
 obtain⟨Y,hY⟩:∃ Y,Y=w.alloc (.cells #[.slice a l.length c] 22):=⟨_,rfl⟩
 have HY:Hid (Y=w.alloc (.cells #[.slice a l.length c] 22)):=hY
 have HBY:Hid (Below w.heap.size w Y):=(by rw[hY];exact(Below.refl _ _).alloc (Nat.le_refl _) _:Below w.heap.size w Y)
 have hT:Y.heap[w.heap.size]?=some (.cells #[.slice a l.length c] 22 (0,0)):=by rw[hY];exact alloc_at rfl
 have HF:Hid (Calls Tryd.prog 23 #[.int .i64 (n:Nat),.slice (some ⟨w.heap.size,0,none⟩) 1 1] Y fun e w'=>e=.returned (.int .i64 0)/\Below Y.heap.size Y w'):=(by have:=Xh8 (n:Int) hl h HBY.out hT;rw[hn]at this;exact this)
 have HRD:Hid (RdAt w w.heap.size 1 (.slice a l.length c) l.length (QQ3 l)):=h
 have hn6:n<=6:=by omega
 clear hY hT h hn hlet
 obtain⟨m,hm⟩:∃ m,l.length=m:=⟨_,rfl⟩
 have HM:Hid (l.length=m):=hm
 rw[hm]at HY hl hl20 HLT HAB HPL HNX ⊢
 clear hm
 go_enter Tryd.func12,Tryd.ntmps12
 go_wp2_with (rw[<-HY.out];go_at_call 23;refine HF.out.mono ?_;rintro e9 w2 ⟨rfl,hb2⟩;refine Hid.out ?_)
 refine Lib.hid ?_
 have HB2:Hid (Below w.heap.size w w2):=HBY.out.trans (hb2.mono HBY.out.size)
 clear hb2
 go_wp2_with (go_at_call 24;refine(ZG6 n _ hn6).mono ?_;rintro e9 w3 ⟨a3,c3,rfl,hr3,hg3⟩;refine Hid.out ?_)
 refine Lib.hid ?_
 obtain⟨g,c4,e4,hgb,-⟩:=Xj6 hr3 (by omega)
 injection e4 with e5 e6 e7
 subst e5 e7
 have HR3:Hid (w3.ownsRow w2.heap.size 3 1 (.slice (some ⟨g,0,none⟩) n c3) n (QQ3 (Qj2 n l 0))):=hr3
 have HB3:Hid (Below w.heap.size w w3):=HB2.out.grown hg3 HB2.out.size (fun k hk=>by cases hk)
 have HS2:Hid (w.heap.size<=w2.heap.size/\w.heap.size<=g):=(⟨HB2.out.size,Nat.le_trans HB2.out.size hgb⟩:w.heap.size<=w2.heap.size/\w.heap.size<=g)
 clear hr3 hg3 e6 hgb
 go_wp2
 go_loopw [21] (fun v21 wr=>∃ k:Nat,k<=m/\v21=.int .i64 (k:Nat)/\Hid (wr.ownsRow w2.heap.size 3 1 (.slice (some ⟨g,0,none⟩) n c3) n (QQ3 (Qj2 n l k)))/\Hid (Below w.heap.size w wr)) (fun v21 _=>m-(intOf v21).toNat)
 case atStart=>exact⟨0,Nat.zero_le _,rfl,HR3.out,HB3.out⟩
 case round=>
  clear HR3 HB3
  rename World=>W1
  obtain⟨k,hkm,rfl,hp,hb⟩:=hrel
  by_cases hk:k<m
  · have hkI:(k:Int)<(m:Int):=by omega
    obtain⟨b,off,ea,hlt,hc⟩:=(HRD.out.on hb.out).intAt k (by rw[HM.out];exact hk)
    obtain⟨q1,q2,q3⟩:=HLT.out k hk
    have hq:=HAB.out k hk
    have HN:=HNX.out k hk
    have HPK:=HPL.out k (by omega)
    generalize l.getD k 0=x at hc q1 q2 q3 hq HN
    have HSZ:Hid (∀ W,Calls Tryd.prog 26 #[.int .i64 x] W fun e w'=>e=.returned (.int .i64 (x.natAbs:Int))/\w'=W):=fun W=>Zq7 x W (by omega) (by omega)
    obtain⟨i,hi⟩:∃ i,x.natAbs=i:=⟨_,rfl⟩
    rw[hi]at HSZ HN hq
    have HTR:Hid (Calls Tryd.prog 25 #[.slice (some ⟨g,0,none⟩) n c3,.int .i64 (i:Nat)] W1 fun e w'=>e=.returned (.tuple #[])/\w'.ownsRow w2.heap.size 3 1 (.slice (some ⟨g,0,none⟩) n c3) n (QQ3 (trd (Qj2 n l k) i))/\W1.grownBy w' (some g)):=Zg6 w2.heap.size g c3 n i (i-1) (Qj2 n l k) W1 HPK.ln (by omega) hq (by omega) hp.out
    have HNN:Hid (Qj2 n l (k+1)=trd (Qj2 n l k) i):=HN
    have lb:b<W1.heap.size:=Nat.lt_of_lt_of_le hlt hb.out.size
    subst ea
    clear hi HN HPK q1 q2 q3 hq
    go_wp2_with (first
     |(go_at_call 25;refine HTR.out.mono ?_;rintro e9 w5 ⟨rfl,hr5,hg5⟩;refine Hid.out ?_)
     |(go_at_call 26;refine(HSZ.out _).mono ?_;rintro e9 w5 ⟨rfl,rfl⟩))
    refine Lib.hid ?_
    have HR5:Hid (w5.ownsRow w2.heap.size 3 1 (.slice (some ⟨g,0,none⟩) n c3) n (QQ3 (Qj2 n l (k+1)))):=(by rw[HNN.out];exact hr5)
    have HB5:Hid (Below w.heap.size w w5):=hb.out.grown hg5 hb.out.size (fun q hq=>by have h1:g=q:=Option.some.inj hq;have:=HS2.out;omega)
    clear hr5 hg5
    go_wp2
    go_roundw
    case rel=>exact⟨k+1,by omega,by go_num,HR5.out,HB5.out⟩
    case measure=>simp only[intOf];omega
  · obtain rfl:k=m:=by omega
    have HTU:Hid (Calls Tryd.prog 27 #[.slice (some ⟨g,0,none⟩) n c3] W1 fun e w'=>∃ a c,e=.returned (.slice a n c)/\w'.ownsRow W1.heap.size 3 1 (.slice a n c) n (QQ3 (Qd9 (Qj2 n l k) n))/\Below W1.heap.size W1 w'):=XV9 _ n (Qj2 n l k) W1 (by omega) (HPL.out k (Nat.le_refl _)) (XU7 hp.out)
    go_wp2_with (go_at_call 27;refine HTU.out.mono ?_;rintro e9 w5 ⟨a5,c5,rfl,hr5,hb5⟩;refine Hid.out ?_)
    refine Lib.hid ?_
    have HR5:Hid (RdAt w5 w5.heap.size 1 (.slice a5 n c5) n (QQ3 (Qd9 (Qj2 n l k) n))):=XU7 hr5
    have HB5:Hid (Below w.heap.size w w5):=hb.out.trans (hb5.mono hb.out.size)
    clear hr5 hb5
    go_wp2
    go_ret2
    exact⟨_,_,rfl,HR5.out,HB5.out⟩
end Go.Proofs.YtjcagkgpbcdghaaDoor
/- Which of two tellings is less: the walks of cmp.Compare, slices.Compare and canon.compare. -/
namespace Go.Proofs.YtjcagkgpbcdghaaDoor
open Go.RowKit
def Jk5 (x y:Int):Int:=if x<y then -1 else if y<x then 1 else 0
def Jk3:List Int->List Int->Int
 |[],[]=>0
 |[],_::_ => -1
 |_::_,[]=>1
 |x::s,y::t=>if x=y then Jk3 s t else Jk5 x y
def JC8 (p q:List Nat×List Int):Int:=if p.1.length=q.1.length then Jk3 p.2 q.2 else Jk5 p.1.length q.1.length
end Go.Proofs.YtjcagkgpbcdghaaDoor
/- Determinants of whole numbers, along the first row: rows may be traded and added to one another; modulo a prime a determinant is nought just where a column has no first place. -/
namespace Go.Proofs.YtjcagkgpbcdghaaDoor
def QK5 (a:Nat->Int):List Nat->(List Nat->Int)->Int
 |[],_=>0
 |c::cs,h=>a c*h cs-QK5 a cs (fun rest=>h (c::rest))
def JC7:List (Nat->Int)->List Nat->Int
 |[],_=>1
 |r::rs,cs=>QK5 r cs (JC7 rs)
theorem QC7 (a:Nat->Int) (k:Int) (cs:List Nat) (h h':List Nat->Int):QK5 a cs (fun rest=>h rest+k*h' rest)=QK5 a cs h+k*QK5 a cs h':=by
 induction cs generalizing h h' with
 |nil=>simp[QK5]
 |cons c cs ih=>
  simp only[QK5,ih (fun rest=>h (c::rest)) (fun rest=>h' (c::rest))]
  grind
theorem Qf9 (a:Nat->Int) (k:Int) (cs:List Nat) (h:List Nat->Int):QK5 a cs (fun rest=>k*h rest)=k*QK5 a cs h:=by
 induction cs generalizing h with
 |nil=>simp[QK5]
 |cons c cs ih=>
  simp only[QK5,ih (fun rest=>h (c::rest))]
  grind
theorem Qg0 (a b:Nat->Int) (k:Int) (cs:List Nat) (h:List Nat->Int):QK5 (fun c=>a c+k*b c) cs h=QK5 a cs h+k*QK5 b cs h:=by
 induction cs generalizing h with
 |nil=>simp[QK5]
 |cons c cs ih=>
  simp only[QK5,ih (fun rest=>h (c::rest))]
  grind
theorem Qx1 (a:Nat->Int) (cs:List Nat) (h:List Nat->Int):QK5 a cs (fun rest=>QK5 a rest h)=0:=by
 induction cs generalizing h with
 |nil=>rfl
 |cons c cs ih=>
  have e:QK5 a cs (fun rest=>QK5 a (c::rest) h)=QK5 a cs (fun rest=>a c*h rest+(-1)*QK5 a rest (fun r2=>h (c::r2))):=by
   congr 1
   funext rest
   simp only[QK5]
   omega
  show a c*QK5 a cs h-QK5 a cs (fun rest=>QK5 a (c::rest) h)=0
  rw[e,QC7,Qf9,ih]
  omega
theorem Xk8 (a b:Nat->Int) (cs:List Nat) (h:List Nat->Int):QK5 a cs (fun rest=>QK5 b rest h) = -QK5 b cs (fun rest=>QK5 a rest h):=by
 have t:=Qx1 (fun c=>a c+1*b c) cs h
 have e:(fun rest=>QK5 (fun c=>a c+1*b c) rest h)=fun rest=>QK5 a rest h+1*QK5 b rest h:=funext fun rest=>Qg0 a b 1 rest h
 rw[e,QC7,Qg0,Qg0,Qx1,Qx1]at t
 omega
def sgZ:Nat->Int
 |0=>1
 |n+1 => -sgZ n
end Go.Proofs.YtjcagkgpbcdghaaDoor
/- Determinants of whole numbers, nought where rows and columns are not as many: rows and columns may be traded; rows and columns that are sums. -/
namespace Go.Proofs.YtjcagkgpbcdghaaDoor
def dZ:List (Nat->Int)->List Nat->Int
 |[],cs=>if cs=[] then 1 else 0
 |r::rs,cs=>QK5 r cs (dZ rs)
theorem QH8 (a b:Nat->Int):∀ (cs:List Nat) (h h':List Nat->Int),(∀ c∈cs,a c=b c)->(∀ rest,rest.length+1=cs.length->(∀ c∈rest,c∈cs)->h rest=h' rest)->QK5 a cs h=QK5 b cs h'
 |[],_,_,_,_=>rfl
 |c::cs,h,h',e,e2=>by
  show a c*h cs-QK5 a cs _=b c*h' cs-QK5 b cs _
  rw [e c (.head _), e2 cs rfl (fun x hx => .tail _ hx), QH8 a b cs _ (fun rest => h' (c :: rest)) (fun x hx => e x (.tail _ hx)) (fun rest hr hr2 => e2 (c :: rest) (by simp; omega) (fun x hx => by
   cases hx with
   |head=>exact .head _
   |tail _ hx=>exact .tail _ (hr2 x hx)))]
theorem ZK1:∀ (R:List (Nat->Int)) (cs:List Nat),R.length=cs.length->dZ R cs=JC7 R cs
 |[],cs,h=>by
  obtain rfl:cs=[]:=List.length_eq_zero_iff.1 h.symm
  rfl
 |r::R,cs,h=>QH8 r r cs _ _ (fun _ _=>rfl) fun rest hr _=>ZK1 R rest (by simp at h;omega)
theorem QW2 {α:Type} (f g:α->Nat->Int):∀ (R:List α) (cs:List Nat),(∀ i∈R,∀ c∈cs,f i c=g i c)->dZ (R.map f) cs=dZ (R.map g) cs
 |[],_,_=>rfl
 |i::R,cs,h=>QH8 (f i) (g i) cs _ _ (fun c hc=>h i (.head _) c hc) (fun rest _ hr=>QW2 f g R rest fun j hj c hc=>h j (.tail _ hj) c (hr c hc))
theorem ZV4 (a:Nat->Int) (p:Nat->Nat):∀ (cs:List Nat) (h:List Nat->Int),QK5 a (cs.map p) h=QK5 (fun c=>a (p c)) cs (fun rest=>h (rest.map p))
 |[],_=>rfl
 |c::cs,h=>by
  show a (p c)*h (cs.map p)-QK5 a (cs.map p) _=_
  rw[ZV4 a p cs]
  rfl
theorem XY2 (p:Nat->Nat):∀ (R:List (Nat->Int)) (cs:List Nat),dZ R (cs.map p)=dZ (R.map fun r c=>r (p c)) cs
 |[],cs=>by
  show(if cs.map p=[] then(1:Int) else 0)=if cs=[] then 1 else 0
  simp
 |r::R,cs=>by
  show QK5 r (cs.map p) (dZ R)=QK5 (fun c=>r (p c)) cs (dZ (R.map fun r c=>r (p c)))
  rw[ZV4]
  congr 1
  funext rest
  exact XY2 p R rest
theorem Qd4 (X Y:List (Nat->Int)) (r a:Nat->Int) (k:Int) (cs:List Nat):dZ (X++(fun c=>r c+k*a c)::Y) cs=dZ (X++r::Y) cs+k*dZ (X++a::Y) cs:=by
 induction X generalizing cs with
 |nil=>exact Qg0 r a k cs (dZ Y)
 |cons x X ih=>
  show QK5 x cs (dZ (X++_::Y))=QK5 x cs (dZ (X++r::Y))+k*QK5 x cs (dZ (X++a::Y))
  rw[<-QC7]
  congr 1
  funext rest
  exact ih rest
theorem Qh0 (X Y:List (Nat->Int)) (a:Nat->Int) (cs:List Nat):dZ (X++a::Y) cs=sgZ X.length*dZ (a::(X++Y)) cs:=by
 induction X generalizing cs with
 |nil=>show _=1*_;rw[Int.one_mul];rfl
 |cons x X ih=>
  have e:dZ (X++a::Y)=fun rest=>sgZ X.length*QK5 a rest (dZ (X++Y)):=funext fun rest=>ih rest
  show QK5 x cs (dZ (X++a::Y)) = -sgZ X.length*QK5 a cs (fun rest=>QK5 x rest (dZ (X++Y)))
  rw[e,Qf9,Xk8,Int.mul_neg,Int.neg_mul]
theorem Zb5 (X Y:List (Nat->Int)) (a:Nat->Int) (cs:List Nat):dZ (a::(X++a::Y)) cs=0:=by
 have e:dZ (X++a::Y)=fun rest=>sgZ X.length*QK5 a rest (dZ (X++Y)):=funext fun rest=>Qh0 X Y a rest
 show QK5 a cs (dZ (X++a::Y))=0
 rw[e,Qf9,Qx1,Int.mul_zero]
theorem ZV3 (a:Nat->Int):∀ cs:List Nat,QK5 a cs (fun _=>0)=0
 |[]=>rfl
 |c::cs=>by show a c*0-QK5 a cs (fun _=>0)=0;rw[ZV3 a cs];omega
theorem XB0 (a:Nat->Int) (c d:Nat) (z:List Nat):∀ (x:List Nat) (h:List Nat->Int),(∀ x z,h (x++c::d::z) = -h (x++d::c::z))->QK5 a (x++c::d::z) h = -QK5 a (x++d::c::z) h
 |[],h,hh=>by
  have e:QK5 a z (fun rest=>h (c::d::rest))+QK5 a z (fun rest=>h (d::c::rest))=0:=by
   have e1:=QC7 a 1 z (fun rest=>h (c::d::rest)) (fun rest=>h (d::c::rest))
   rw [show (fun rest => h (c :: d :: rest) + 1 * h (d :: c :: rest)) = fun _ => (0 : Int) from funext fun rest => by
    have:=hh [] rest
    simp only[List.nil_append]at this
    omega,ZV3]at e1
   omega
  show a c*h (d::z)-(a d*h (c::z)-QK5 a z (fun rest=>h (c::d::rest))) = -(a d*h (c::z)-(a c*h (d::z)-QK5 a z (fun rest=>h (d::c::rest))))
  omega
 |y::x,h,hh=>by
  show a y*h (x++c::d::z)-QK5 a (x++c::d::z) (fun rest=>h (y::rest)) = -(a y*h (x++d::c::z)-QK5 a (x++d::c::z) (fun rest=>h (y::rest)))
  rw[XB0 a c d z x (fun rest=>h (y::rest)) (fun x' z'=>hh (y::x') z'),hh x z,Int.mul_neg]
  omega
theorem XC1 (c d:Nat):∀ (R:List (Nat->Int)) (x z:List Nat),dZ R (x++c::d::z) = -dZ R (x++d::c::z)
 |[],x,z=>by
  show(if x++c::d::z=[] then(1:Int) else 0) = -(if x++d::c::z=[] then(1:Int) else 0)
  rw[if_neg (by simp),if_neg (by simp)];rfl
 |r::R,x,z=>XB0 r c d z x (dZ R) fun x z=>XC1 c d R x z
theorem QW8 (R:List (Nat->Int)) {l l':List Nat} (h:l.Perm l'):(dZ R l).natAbs=(dZ R l').natAbs:=by
 have key:∀ {l l':List Nat},l.Perm l'->∀ x:List Nat,(dZ R (x++l)).natAbs=(dZ R (x++l')).natAbs:=fun h=>by
  induction h with
  |nil=>intro x;rfl
  |cons c _ ih=>
   intro x
   have:=ih (x++[c])
   simpa using this
  |swap c d l=>
   intro x
   rw[XC1,Int.natAbs_neg]
  |trans _ _ ih1 ih2=>intro x;rw[ih1 x,ih2 x]
 exact key h []
theorem Ku6 (R:List (Nat->Int)) (c:Nat) (l:List Nat) (h:c∈l):dZ R (c::l)=0:=by
 obtain⟨x,y,rfl⟩:=List.append_of_mem h
 have hp:(c::(x++c::y)).Perm (c::c::(x++y)):=List.Perm.cons c List.perm_middle
 have h1:=QW8 R hp
 have h2:=XC1 c c R [] (x++y)
 simp only[List.nil_append]at h2
 omega
theorem ZV2 (a:Nat->Int) {u v w:Nat} (k:Int) (e:a w=a u+k*a v) (q:List Nat) (h:List Nat->Int) (hh:∀ q,h (w::q)=h (u::q)+k*h (v::q)):QK5 a (w::q) h=QK5 a (u::q) h+k*QK5 a (v::q) h:=by
 have e1:=QC7 a k q (fun rest=>h (u::rest)) (fun rest=>h (v::rest))
 rw[show(fun rest=>h (u::rest)+k*h (v::rest))=fun rest=>h (w::rest) from funext fun rest=>(hh rest).symm]at e1
 show a w*h q-QK5 a q (fun rest=>h (w::rest))=a u*h q-QK5 a q (fun rest=>h (u::rest))+k*(a v*h q-QK5 a q (fun rest=>h (v::rest)))
 rw[e,e1]
 grind
theorem XQ3 {u v w:Nat} (k:Int):∀ (R:List (Nat->Int)),R≠[]->(∀ r∈R,r w=r u+k*r v)->∀ q,dZ R (w::q)=dZ R (u::q)+k*dZ R (v::q)
 |[],h,_,_=>absurd rfl h
 |[r],_,e,q=>by
  have e0:=e r (.head _)
  cases q with
  |nil=>show r w*1-0=r u*1-0+k*(r v*1-0);rw[e0];grind
  |cons y q=>
   refine ZV2 r k e0 (y::q) (dZ []) fun q=>?_
   show(if w::q=[] then(1:Int) else 0)=(if u::q=[] then(1:Int) else 0)+k*(if v::q=[] then(1:Int) else 0)
   rw[if_neg (by simp),if_neg (by simp),if_neg (by simp)];omega
 |r::r2::R,_,e,q=>ZV2 r k (e r (.head _)) q (dZ (r2::R)) fun q=>XQ3 k (r2::R) (by simp) (fun s hs=>e s (.tail _ hs)) q
theorem JK2:∀ (R:List (Nat->Int)) (c:Nat),R≠[]->(∀ r∈R,r c=0)->∀ q,dZ R (c::q)=0:=fun R c hR h q=>by
 have:=XQ3 (u:=c) (v:=c) (w:=c) 1 R hR (fun r hr=>by rw[h r hr];rfl) q
 omega
end Go.Proofs.YtjcagkgpbcdghaaDoor
/- Plain mathematics: both searches count the same. -/
namespace Go.Proofs.YtjcagkgpbcdghaaDoor
theorem Kj9 {C:List Cr} {loops:Int} (hm:QX3 C loops=true) (a:Nat) (h1:1<=a) (h2:a<=2*C.length):ovM C a<ovC C:=by
 have hL:=QU4 (Qz2 hm)
 have hp:=hL.pos (fun e he=>⟨(QC4 hm e he).1.1,(QC4 hm e he).2.1⟩) (v:=a) (by omega) h1
 have h3:=KQ1 (QK4 C) ((QK4 C).getD a 0) hp
 rw[if_pos (hL.root (by omega))]at h3
 have h4:=QD1 (QK4 C) ((QK4 C).getD a 0+1) (2*C.length+1) (by have:=hL.le (v:=a) (by omega);omega)
 show QQ6 (QK4 C) ((QK4 C).getD a 0)<QQ6 (QK4 C) (2*C.length+1)
 omega
end Go.Proofs.YtjcagkgpbcdghaaDoor

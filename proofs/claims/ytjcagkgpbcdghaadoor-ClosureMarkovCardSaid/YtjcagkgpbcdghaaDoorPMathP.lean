/- Several texts of the proof, one behind the other. -/

/- Plain mathematics of polynomials as lists of pairs (exponent, coefficient): which may be handed in. No program is named here. -/
namespace Go.Proofs.YtjcagkgpbcdghaaDoor.Poly
def okB (l:List (Int×Int)) (i:Nat):Bool:=
 decide (-1000<=(l.getD i (0,0)).1)&&decide ((l.getD i (0,0)).1<=1000)&&decide (-1000000<=(l.getD i (0,0)).2)&&decide ((l.getD i (0,0)).2<=1000000)&&
 !decide ((l.getD i (0,0)).2=0)&&(decide (i=0)||decide ((l.getD (i-1) (0,0)).1<(l.getD i (0,0)).1))
def mayB (l:List (Int×Int)):Bool:=decide (l.length<=64)&&(List.range l.length).all (okB l)
theorem okB_iff (l:List (Int×Int)) (i:Nat):okB l i=true ↔ -1000<=(l.getD i (0,0)).1/\(l.getD i (0,0)).1<=1000 /\ -1000000<=(l.getD i (0,0)).2/\(l.getD i (0,0)).2<=1000000/\(l.getD i (0,0)).2≠0/\(0<i->(l.getD (i-1) (0,0)).1<(l.getD i (0,0)).1):=by
 unfold okB
 simp only[Bool.and_eq_true,decide_eq_true_eq,Bool.or_eq_true,Bool.not_eq_true',decide_eq_false_iff_not]
 constructor
 · rintro⟨⟨⟨⟨⟨a,b⟩,c⟩,d⟩,e⟩,f⟩
   exact⟨a,b,c,d,e,fun h=>by rcases f with f|f;omega;exact f⟩
 · rintro⟨a,b,c,d,e,f⟩
   refine⟨⟨⟨⟨⟨a,b⟩,c⟩,d⟩,e⟩,?_⟩
   by_cases h:i=0
   · exact Or.inl h
   · exact Or.inr (f (by omega))
theorem may_iff (l:List (Int×Int)):mayB l=true↔l.length<=64/\∀ i,i<l.length->okB l i=true:=by
 unfold mayB
 simp[List.all_eq_true]
theorem XU9 (l:List (Int×Int)) (i:Nat) (hi:i<l.length) (h:okB l i=false):mayB l=false:=by
 cases hm:mayB l with
 |false=>rfl
 |true=>have:=((may_iff l).1 hm).2 i hi;rw[h]at this;cases this
theorem KG8 (l:List (Int×Int)) (h:64<l.length):mayB l=false:=by
 cases hm:mayB l with
 |false=>rfl
 |true=>have:=((may_iff l).1 hm).1;omega
theorem JQ6 (l:List (Int×Int)) (hl:l.length<=64) (h:∀ i,i<l.length->okB l i=true):mayB l=true:=(may_iff l).2 ⟨hl,h⟩
theorem Zu4 {l:List (Int×Int)} {i:Nat} {e:Int} (he:(l.getD i (0,0)).1=e) (h:e < -1000):okB l i=false:=by
 cases hm:okB l i with
 |false=>rfl
 |true=>have:=(okB_iff l i).1 hm;omega
theorem Zu3 {l:List (Int×Int)} {i:Nat} {e:Int} (he:(l.getD i (0,0)).1=e) (h:1000<e):okB l i=false:=by
 cases hm:okB l i with
 |false=>rfl
 |true=>have:=(okB_iff l i).1 hm;omega
theorem Zu2 {l:List (Int×Int)} {i:Nat} {c:Int} (hc:(l.getD i (0,0)).2=c) (h:c < -1000000):okB l i=false:=by
 cases hm:okB l i with
 |false=>rfl
 |true=>have:=(okB_iff l i).1 hm;omega
theorem Zu1 {l:List (Int×Int)} {i:Nat} {c:Int} (hc:(l.getD i (0,0)).2=c) (h:1000000<c):okB l i=false:=by
 cases hm:okB l i with
 |false=>rfl
 |true=>have:=(okB_iff l i).1 hm;omega
theorem Kh8 {l:List (Int×Int)} {i:Nat} {c:Int} (hc:(l.getD i (0,0)).2=c) (h:c=0):okB l i=false:=by
 cases hm:okB l i with
 |false=>rfl
 |true=>have:=(okB_iff l i).1 hm;omega
theorem Kh7 {l:List (Int×Int)} {i:Nat} {e p:Int} (he:(l.getD i (0,0)).1=e) (hp:(l.getD (i-1) (0,0)).1=p) (h0:0<i) (h:e<=p):okB l i=false:=by
 cases hm:okB l i with
 |false=>rfl
 |true=>have:=(okB_iff l i).1 hm;have:=this.2.2.2.2.2 h0;omega
theorem Zu0 {l : List (Int × Int)} {i : Nat} {e c : Int} (he : (l.getD i (0, 0)).1 = e) (hc : (l.getD i (0, 0)).2 = c) (a : ¬ e < -1000) (b : ¬ 1000 < e) (d : ¬ c < -1000000) (f : ¬ 1000000 < c) (g : ¬ c = 0)
    (hp:0<i->(l.getD (i-1) (0,0)).1<e):okB l i=true:=
 (okB_iff l i).2 ⟨by omega,by omega,by omega,by omega,by omega,fun h=>by have:=hp h;omega⟩
end Go.Proofs.YtjcagkgpbcdghaaDoor.Poly
/- Polynomials in form, as lists: exponents rise, no coefficient is 0; such a list is told by its coefficients. Plain mathematics: no program is named here. -/
namespace Go.Proofs.YtjcagkgpbcdghaaDoor.Poly
def Canon (l:List (Int×Int)) (f:Int->Int):Prop:=l.Pairwise (fun a b=>a.1<b.1)/\∀ x c,(x,c)∈l↔(f x=c/\c≠0)
theorem canon_unique:∀ {l m:List (Int×Int)} {f:Int->Int},Canon l f->Canon m f->l=m:=by
 intro l
 induction l with
 |nil=>
  intro m f h1 h2
  cases m with
  |nil=>rfl
  |cons b m=>
   have:=(h1.2 b.1 b.2).2 ((h2.2 b.1 b.2).1 (by simp))
   cases this
 |cons a l ih=>
  intro m f h1 h2
  cases m with
  |nil=>
   have:=(h2.2 a.1 a.2).2 ((h1.2 a.1 a.2).1 (by simp))
   cases this
  |cons b m=>
   have ha:a∈b::m:=(h2.2 a.1 a.2).2 ((h1.2 a.1 a.2).1 (by simp))
   have hb:b∈a::l:=(h1.2 b.1 b.2).2 ((h2.2 b.1 b.2).1 (by simp))
   have s1:=List.pairwise_cons.1 h1.1
   have s2:=List.pairwise_cons.1 h2.1
   have hab:a=b:=by
    rcases List.mem_cons.1 ha with h|h
    · exact h
    · rcases List.mem_cons.1 hb with h'|h'
      · exact h'.symm
      · have q1:=s1.1 b h'
        have q2:=s2.1 a h
        omega
   subst hab
   congr 1
   -- the tails: both in form for f struck at a's exponent
   refine ih (f:=fun x=>if x=a.1 then 0 else f x) ⟨s1.2,fun x c=>?_⟩ ⟨s2.2,fun x c=>?_⟩
   · have h:=h1.2 x c
     by_cases hx:x=a.1
     · subst hx
       simp only[if_true]
       constructor
       · intro hm
         have:=s1.1 _ hm
         simp at this
       · rintro⟨rfl,hc⟩
         exact absurd rfl hc
     · simp only[if_neg hx]
       rw[<-h]
       constructor
       · intro hm
         exact List.mem_cons_of_mem _ hm
       · intro hm
         rcases List.mem_cons.1 hm with h'|h'
         · exact absurd (by rw[<-h']) hx
         · exact h'
   · have h:=h2.2 x c
     by_cases hx:x=a.1
     · subst hx
       simp only[if_true]
       constructor
       · intro hm
         have:=s2.1 _ hm
         simp at this
       · rintro⟨rfl,hc⟩
         exact absurd rfl hc
     · simp only[if_neg hx]
       rw[<-h]
       constructor
       · intro hm
         exact List.mem_cons_of_mem _ hm
       · intro hm
         rcases List.mem_cons.1 hm with h'|h'
         · exact absurd (by rw[<-h']) hx
         · exact h'
theorem canon_congr {l:List (Int×Int)} {f g:Int->Int} (h:Canon l f) (e:∀ x,f x=g x):Canon l g:=⟨h.1,fun x c=>by rw[h.2,e]⟩
theorem KQ3 {l acc:List (Int×Int)} (hp:l.Perm acc) (hs:l.Pairwise (fun a b=>a.1<=b.1)) (hn:acc.Pairwise (fun a b=>a.1≠b.1)):l.Pairwise (fun a b=>a.1<b.1):=by
 have hn':l.Pairwise (fun a b=>a.1≠b.1):=(hp.pairwise_iff (fun {a b} h=>Ne.symm h)).2 hn
 have:=hs.and hn'
 exact this.imp fun⟨h1,h2⟩=>by omega
def coefL:List (Int×Int)->Int->Int
 |[],_=>0
 |t::ts,x=>(if t.1=x then t.2 else 0)+coefL ts x
theorem Qq4 (a b:List (Int×Int)) (x:Int):coefL (a++b) x=coefL a x+coefL b x:=by
 induction a with
 |nil=>simp[coefL]
 |cons t a ih=>simp only[List.cons_append,coefL,ih];omega
theorem QG7 (ts:List (Int×Int)) (k:Nat) (hk:k<ts.length) (x:Int):coefL (ts.take (k+1)) x=coefL (ts.take k) x+(if(ts.getD k (0,0)).1=x then(ts.getD k (0,0)).2 else 0):=by
 rw[List.take_succ_eq_append_getElem hk,Qq4]
 have g:ts.getD k (0,0)=ts[k]:=by simp[List.getD,hk]
 rw[g]
 simp[coefL]
theorem XC4 (ts:List (Int×Int)) (M x:Int) (h:∀ t∈ts,-M<=t.2/\t.2<=M) (hM:0<=M) : -(M*ts.length)<=coefL ts x/\coefL ts x<=M*ts.length:=by
 induction ts with
 |nil=>simp[coefL]
 |cons t ts ih=>
  have h1:=ih fun t ht=>h t (List.mem_cons_of_mem _ ht)
  have h2:=h t (by simp)
  simp only[coefL,List.length_cons]
  have e:M*((ts.length+1:Nat):Int)=M*ts.length+M:=by rw[Int.natCast_add,Int.mul_add];simp
  rw[e]
  split<;>omega
theorem ZC8 (ts:List (Int×Int)) (x:Int) (h:∀ t∈ts,t.1≠x):coefL ts x=0:=by
 induction ts with
 |nil=>rfl
 |cons t ts ih=>
  simp only[coefL]
  rw[if_neg (h t (by simp)),ih fun t ht=>h t (List.mem_cons_of_mem _ ht)]
  rfl
theorem QG4 {ts:List (Int×Int)} (hn:ts.Pairwise (fun a b=>a.1≠b.1)) (hz:∀ t∈ts,t.2≠0) (x c:Int):(x,c)∈ts↔(coefL ts x=c/\c≠0):=by
 induction ts with
 |nil=>
  simp only[List.not_mem_nil,false_iff,coefL]
  rintro⟨rfl,h⟩
  exact h rfl
 |cons t ts ih=>
  have hp:=List.pairwise_cons.1 hn
  have ih:=ih hp.2 fun t ht=>hz t (List.mem_cons_of_mem _ ht)
  simp only[coefL,List.mem_cons]
  by_cases hx:t.1=x
  · subst hx
    have h0:=ZC8 ts t.1 fun s hs=>(hp.1 s hs).symm
    rw[if_pos rfl,h0,Int.add_zero]
    constructor
    · rintro(h|h)
      · have hc:c=t.2:=congrArg Prod.snd h
        rw[hc];exact⟨rfl,hz t (by simp)⟩
      · exact absurd rfl (hp.1 (t.1,c) h)
    · rintro⟨rfl,_⟩
      exact Or.inl rfl
  · rw[if_neg hx,Int.zero_add,<-ih]
    constructor
    · rintro(h|h)
      · exact absurd (by rw[<-h]) hx
      · exact h
    · exact Or.inr
theorem Zq4 {l:List (Int×Int)} (hs:l.Pairwise (fun a b=>a.1<b.1)) (hz:∀ t∈l,t.2≠0):Canon l (coefL l):=
 ⟨hs,fun x c=>QG4 (hs.imp fun h=>by omega) hz x c⟩
end Go.Proofs.YtjcagkgpbcdghaaDoor.Poly
/- A term put into a list in form: plain mathematics. -/
namespace Go.Proofs.YtjcagkgpbcdghaaDoor.Poly
def ahead (l:List (Int×Int)) (e:Int):Nat:=(l.takeWhile fun t=>decide (t.1<e)).length
end Go.Proofs.YtjcagkgpbcdghaaDoor.Poly
/- Sums over states; polynomials as functions: what rings are worth. -/
namespace Go.Proofs.YtjcagkgpbcdghaaDoor
def QX4:Nat->(Nat->Int)->Int
 |0,_=>0
 |n+1,g=>QX4 n g+g n
theorem QQ2 {n:Nat} {f g:Nat->Int} (h:∀ s,s<n->f s=g s):QX4 n f=QX4 n g:=by
 induction n with
 |zero=>rfl
 |succ n ih=>
  show QX4 n f+f n=QX4 n g+g n
  rw[ih fun s hs=>h s (by omega),h n (by omega)]
theorem QX1 (n:Nat) (f g:Nat->Int):QX4 n (fun s=>f s+g s)=QX4 n f+QX4 n g:=by
 induction n with
 |zero=>rfl
 |succ n ih=>
  show QX4 n (fun s=>f s+g s)+(f n+g n)=QX4 n f+f n+(QX4 n g+g n)
  rw[ih];omega
theorem QJ4 (n:Nat):QX4 n (fun _=>0)=0:=by
 induction n with
 |zero=>rfl
 |succ n ih=>show QX4 n (fun _=>0)+0=0;rw[ih];rfl
theorem ZJ4 (n:Nat) (f:Nat->Int):QX4 n (fun s => - f s) = - QX4 n f:=by
 induction n with
 |zero=>rfl
 |succ n ih=>show QX4 n (fun s => - f s) + - f n = - (QX4 n f+f n);rw[ih];omega
theorem ZD6 (a b:Nat) (g:Nat->Int):QX4 (a+b) g=QX4 a g+QX4 b (fun s=>g (a+s)):=by
 induction b with
 |zero=>show QX4 a g=QX4 a g+0;omega
 |succ b ih=>show QX4 (a+b) g+g (a+b)=QX4 a g+(QX4 b (fun s=>g (a+s))+g (a+b));rw[ih];omega
theorem ZJ3 (k:Nat) (g:Nat->Int):QX4 (2 ^ (k+1)) g=QX4 (2 ^ k) (fun s=>g s+g (2 ^ k+s)):=by
 rw[show 2 ^ (k+1)=2 ^ k+2 ^ k by rw[Nat.pow_succ];omega,ZD6,QX1]
theorem Xb5 {n:Nat} {f:Nat->Int} {H:Nat} (h:∀ s,s<n->(f s).natAbs<=H):(QX4 n f).natAbs<=n*H:=by
 induction n with
 |zero=>simp[QX4]
 |succ n ih=>
  have e1:=ih fun s hs=>h s (by omega)
  have e2:=h n (by omega)
  have e3:=Int.natAbs_add_le (QX4 n f) (f n)
  show(QX4 n f+f n).natAbs<=(n+1)*H
  rw[Nat.succ_mul];omega
theorem Xk4 {n : Nat} {F : Nat → Int} {P Q R : Nat → Bool} (h : ∀ s, s < n → (R s = true ↔ P s = true ∨ Q s = true)) (h2 : ∀ s, s < n → ¬ (P s = true ∧ Q s = true)) :
    QX4 n (fun s=>if R s=true then F s else 0)=QX4 n (fun s=>if P s=true then F s else 0)+QX4 n (fun s=>if Q s=true then F s else 0):=by
 rw[<-QX1]
 refine QQ2 fun s hs=>?_
 have a:=h s hs
 have b:=h2 s hs
 cases hp:P s<;>cases hq:Q s<;>cases hr:R s<;>simp_all
def shA (e:Int) (f:Int->Int):Int->Int:=fun y=>f (y-e)
def dlA (f:Int->Int):Int->Int:=fun y => - f (y+2)-f (y-2)
def dlN:Nat->(Int->Int)->Int->Int
 |0,f=>f
 |n+1,f=>dlA (dlN n f)
def QJ2:Int->Int:=fun y=>if y=0 then 1 else 0
theorem JH8 (e:Int) (f:Int->Int):dlA (shA e f)=shA e (dlA f):=by
 funext y;unfold dlA shA
 rw[show y+2-e=y-e+2 by omega,show y-2-e=y-e-2 by omega]
theorem Ku4 (n:Nat) (e:Int) (f:Int->Int):dlN n (shA e f)=shA e (dlN n f):=by
 induction n with
 |zero=>rfl
 |succ n ih=>show dlA (dlN n (shA e f))=shA e (dlA (dlN n f));rw[ih,JH8]
theorem Zb4 (m n:Nat) (f:Int->Int):dlN m (dlN n f)=dlN (m+n) f:=by
 induction m with
 |zero=>rw[Nat.zero_add];rfl
 |succ m ih=>rw[Nat.succ_add];show dlA (dlN m (dlN n f))=dlA (dlN (m+n) f);rw[ih]
theorem JU6 (a b:Int) (f:Int->Int):shA a (shA b f)=shA (a+b) f:=by
 funext y;unfold shA;rw[show y-a-b=y-(a+b) by omega]
theorem Kf5 (f:Int->Int):shA 0 f=f:=by
 funext y;unfold shA;rw[Int.sub_zero]
theorem JK1 (n:Nat) (F:Nat->Int->Int):dlA (fun y=>QX4 n fun s=>F s y)=fun y=>QX4 n fun s=>dlA (F s) y:=by
 funext y
 show-QX4 n (fun s=>F s (y+2))-QX4 n (fun s=>F s (y-2))=QX4 n fun s => - F s (y+2)-F s (y-2)
 have e:QX4 n (fun s => - F s (y+2)-F s (y-2))=QX4 n (fun s => - F s (y+2) + - F s (y-2)):=QQ2 fun s _=>by omega
 rw[e,QX1,ZJ4,ZJ4];omega
theorem JK0 (c n:Nat) (F:Nat->Int->Int):dlN c (fun y=>QX4 n fun s=>F s y)=fun y=>QX4 n fun s=>dlN c (F s) y:=by
 induction c with
 |zero=>rfl
 |succ c ih=>show dlA (dlN c _)=fun y=>QX4 n fun s=>dlA (dlN c (F s)) y;rw[ih,JK1]
theorem JH9 {f:Int->Int} {H:Nat} (h:∀ y,(f y).natAbs<=H) (y:Int):(dlA f y).natAbs<=2*H:=by
 have a:=h (y+2);have b:=h (y-2)
 unfold dlA;omega
theorem ZK0 {f:Int->Int} {H:Nat} (h:∀ y,(f y).natAbs<=H) (n:Nat) (y:Int):(dlN n f y).natAbs<=2 ^ n*H:=by
 induction n generalizing y with
 |zero=>rw[Nat.pow_zero,Nat.one_mul];exact h y
 |succ n ih=>
  have:=JH9 ih y
  rw[Nat.pow_succ,Nat.mul_comm (2 ^ n) 2,Nat.mul_assoc];exact this
def InA (f:Int->Int) (K:Nat):Prop:=∀ y,f y≠0 -> -(K:Int)<=y/\y<=K
theorem InA.sh {f:Int->Int} {K:Nat} (h:InA f K) {e:Int} (he:e=1∨e = -1):InA (shA e f) (K+1):=by
 intro y hy
 have:=h (y-e) hy
 rcases he with rfl|rfl<;>omega
theorem InA.dl {f:Int->Int} {K:Nat} (h:InA f K):InA (dlA f) (K+2):=by
 intro y hy
 by_cases h1:f (y+2)=0
 · have h2:f (y-2)≠0:=fun e=>hy (by unfold dlA;rw[h1,e];rfl)
   have:=h _ h2;omega
 · have:=h _ h1;omega
theorem InA.dlN {f:Int->Int} {K:Nat} (h:InA f K) (n:Nat):InA (dlN n f) (K+2*n):=by
 induction n with
 |zero=>exact h
 |succ n ih=>exact ih.dl
theorem InA.one:InA QJ2 0:=by
 intro y hy
 unfold QJ2 at hy
 split at hy
 · omega
 · exact absurd rfl hy
theorem Kv0 (y:Int):(QJ2 y).natAbs<=1:=by
 unfold QJ2;split<;>simp
end Go.Proofs.YtjcagkgpbcdghaaDoor
/- Strands tied, and things joined: rings are closed just where what is joined was one. -/
namespace Go.Proofs.YtjcagkgpbcdghaaDoor
def Qu8 (T:List Nat) (x y:Nat):List Nat:=
 if T.getD x 0=y then(T.set x 0).set y 0 else(((T.set x 0).set y 0).set (T.getD x 0) (T.getD y 0)).set (T.getD y 0) (T.getD x 0)
def XF3 (T:List Nat) (x y:Nat):Nat:=if T.getD x 0=y then 1 else 0
def lab (W:Nat->Nat) (x y:Nat):Nat->Nat:=fun v=>if W v=W y then W x else W v
theorem QY8 (W:Nat->Nat) (x y u v:Nat):lab W x y u=lab W x y v↔W u=W v∨(W u=W x/\W y=W v)∨(W u=W y/\W x=W v):=by
 unfold lab
 by_cases h1:W u=W y<;>by_cases h2:W v=W y
 · rw[if_pos h1,if_pos h2];omega
 · rw[if_pos h1,if_neg h2];omega
 · rw[if_neg h1,if_pos h2];omega
 · rw[if_neg h1,if_neg h2];omega
def dgm (dg:Nat->Nat) (x y:Nat):Nat->Nat:=fun v=>dg v+(if x=v then 1 else 0)+(if y=v then 1 else 0)
structure Tied (T:List Nat) (dg W:Nat->Nat):Prop where
 len:T.length=26
 lt:∀ v,T.getD v 0<26
 none:∀ v,v<26->dg v=0->T.getD v 0=v
 one:∀ v,1<=v->v<26->dg v=1->T.getD v 0≠v/\1<=T.getD v 0/\dg (T.getD v 0)=1/\T.getD (T.getD v 0) 0=v/\W (T.getD v 0)=W v
 two:∀ v,1<=v->v<26->2<=dg v->T.getD v 0=0
 same:∀ u v,1<=u->u<26->1<=v->v<26->dg u<=1->dg v<=1->W u=W v->u=v∨T.getD u 0=v
 zero:dg 0=0
theorem XK5 (T:List Nat) (i j x:Nat):(T.set i x).getD j 0=if i=j/\j<T.length then x else T.getD j 0:=by
 rw[List.getD_eq_getElem?_getD,List.getD_eq_getElem?_getD,List.getElem?_set]
 by_cases h:i=j
 · subst h
   by_cases h2:i<T.length
   · simp[h2]
   · simp[h2]
 · simp[h]
theorem Kf0 {T : List Nat} {dg W : Nat → Nat} (h : Tied T dg W) (x y v : Nat) (hv : v < 26) :
    (Qu8 T x y).getD v 0=if T.getD x 0=y then(if y=v then 0 else if x=v then 0 else T.getD v 0) else(if T.getD y 0=v then T.getD x 0 else if T.getD x 0=v then T.getD y 0 else if y=v then 0 else if x=v then 0 else T.getD v 0):=by
 have hl:=h.len
 unfold Qu8
 split
 · simp only[XK5,List.length_set,hl,hv,and_true]
 · simp only[XK5,List.length_set,hl,hv,and_true]
theorem Qf7 (T:List Nat) (x y:Nat):(Qu8 T x y).length=T.length:=by
 unfold Qu8;split<;>simp
theorem Zv0 {T:List Nat} {dg W:Nat->Nat} (h:Tied T dg W) {x y:Nat} (hx1:1<=x) (hx:x<26) (hy1:1<=y) (hy:y<26) (hd:dg x+(if x=y then 1 else 0)<=1) (hd2:dg y<=1):T.getD x 0=y↔W x=W y:=by
 constructor
 · intro e
   by_cases h0:dg x=0
   · have:=h.none x hx h0
     rw[show x=y by omega]
   · have:=h.one x hx1 hx (by omega)
     rw[<-e];exact this.2.2.2.2.symm
 · intro e
   rcases h.same x y hx1 hx hy1 hy (by omega) hd2 e with h1|h1
   · subst h1
     rw[if_pos rfl]at hd
     exact h.none x hx (by omega)
   · exact h1
theorem Tied.tie {T:List Nat} {dg W:Nat->Nat} (h:Tied T dg W) {x y:Nat} (hx1:1<=x) (hx:x<26) (hy1:1<=y) (hy:y<26) (hd:dg x+(if x=y then 1 else 0)<=1) (hd2:dg y<=1):Tied (Qu8 T x y) (dgm dg x y) (lab W x y):=by
 have hiff:=Zv0 h hx1 hx hy1 hy hd hd2
 have ax:=h.lt x
 have ay:=h.lt y
 -- the other ends
 have fx:(dg x=0/\T.getD x 0=x)∨(dg x=1/\T.getD x 0≠x/\1<=T.getD x 0/\dg (T.getD x 0)=1/\T.getD (T.getD x 0) 0=x/\W (T.getD x 0)=W x):=by
  by_cases h0:dg x=0
  · exact Or.inl ⟨h0,h.none x hx h0⟩
  · exact Or.inr ⟨by omega,h.one x hx1 hx (by omega)⟩
 have fy:(dg y=0/\T.getD y 0=y)∨(dg y=1/\T.getD y 0≠y/\1<=T.getD y 0/\dg (T.getD y 0)=1/\T.getD (T.getD y 0) 0=y/\W (T.getD y 0)=W y):=by
  by_cases h0:dg y=0
  · exact Or.inl ⟨h0,h.none y hy h0⟩
  · exact Or.inr ⟨by omega,h.one y hy1 hy (by omega)⟩
 have hat:=fun v hv=>Kf0 h x y v hv
 by_cases hc:T.getD x 0=y
 · -- a ring is closed
   simp only[hc,if_true]at hat
   have hW:=hiff.1 hc
   have hlab:∀ u v,lab W x y u=lab W x y v↔W u=W v:=by
    intro u v;rw[QY8];omega
   have hdx:∀ v,dgm dg x y v<=1->v<26->v≠x/\v≠y/\dgm dg x y v=dg v:=by
    intro v hv hv2
    unfold dgm at hv ⊢
    by_cases e1:x=v
    · subst e1
      rcases fx with⟨g1,g2⟩|⟨g1,g2⟩
      · have:y=x:=by omega
        subst this
        simp at hv
      · simp at hv;omega
    · by_cases e2:y=v
      · subst e2
        rcases fx with⟨g1,g2⟩|⟨g1,g2,g3,g4,g5⟩
        · omega
        · rw[hc]at g4
          simp[e1]at hv;omega
      · simp[e1,e2];omega
   refine⟨by rw[Qf7];exact h.len,fun v=>?_,fun v hv h0=>?_,fun v h1 h2 h3=>?_,fun v h1 h2 h3=>?_,fun u v hu1 hu hv1 hv hu2 hv2 e=>?_,?_⟩
   · by_cases hv:v<26
     · rw[hat v hv];have:=h.lt v;split<;>(try split)<;>omega
     · rw[List.getD_eq_getElem?_getD,List.getElem?_eq_none (by rw[Qf7,h.len];omega)];decide
   · obtain⟨n1,n2,n3⟩:=hdx v (by omega) hv
     rw[hat v hv,if_neg (Ne.symm n2),if_neg (Ne.symm n1)]
     exact h.none v hv (by omega)
   · obtain⟨n1,n2,n3⟩:=hdx v (by omega) h2
     obtain⟨o1,o2,o3,o4,o5⟩:=h.one v h1 h2 (by omega)
     have ov:=h.lt v
     have m1:T.getD v 0≠x:=by
      intro e
      rw[e]at o4
      omega
     have m2:T.getD v 0≠y:=by
      intro e
      rcases fx with⟨g1,g2⟩|⟨g1,g2,g3,g4,g5,g6⟩
      · have:x=y:=by omega
        exact m1 (by omega)
      · rw[hc]at g5
        rw[e]at o4
        omega
     rw[hat v h2,if_neg (Ne.symm n2),if_neg (Ne.symm n1)]
     rw[hat _ ov,if_neg (Ne.symm m2),if_neg (Ne.symm m1)]
     refine⟨o1,o2,?_,o4,?_⟩
     · unfold dgm;rw[if_neg (Ne.symm m1),if_neg (Ne.symm m2)];omega
     · exact(hlab _ _).2 o5
   · rw[hat v h2]
     by_cases e2:y=v
     · rw[if_pos e2]
     · by_cases e1:x=v
       · rw[if_neg e2,if_pos e1]
       · rw[if_neg e2,if_neg e1]
         refine h.two v h1 h2 ?_
         unfold dgm at h3;rw[if_neg e1,if_neg e2]at h3;omega
   · obtain⟨n1,n2,n3⟩:=hdx u hu2 hu
     obtain⟨k1,k2,k3⟩:=hdx v hv2 hv
     rw[hat u hu,if_neg (Ne.symm n2),if_neg (Ne.symm n1)]
     exact h.same u v hu1 hu hv1 hv (by omega) (by omega) ((hlab _ _).1 e)
   · have:=h.zero;unfold dgm;rw[if_neg (by omega),if_neg (by omega)];omega
 · -- two strands become one
   have hWne:W x≠W y:=fun e=>hc (hiff.2 e)
   have hxy:x≠y:=fun e=>hWne (by rw[e])
   simp only[hc,if_false]at hat
   rw[if_neg hxy]at hd
   -- the two ends that are left
   have WA:W (T.getD x 0)=W x:=by
    rcases fx with⟨g1,g2⟩|⟨g1,g2,g3,g4,g5,g6⟩
    · rw[g2]
    · exact g6
   have WB:W (T.getD y 0)=W y:=by
    rcases fy with⟨g1,g2⟩|⟨g1,g2,g3,g4,g5,g6⟩
    · rw[g2]
    · exact g6
   have hAB:T.getD x 0≠T.getD y 0:=fun e=>hWne (by rw[<-WA,<-WB,e])
   have hAy:T.getD x 0≠y:=hc
   have hBx:T.getD y 0≠x:=fun e=>hWne (by rw[<-WB,e])
   have A1:1<=T.getD x 0:=by rcases fx with⟨g1,g2⟩|⟨g1,g2,g3,g4⟩<;>omega
   have B1:1<=T.getD y 0:=by rcases fy with⟨g1,g2⟩|⟨g1,g2,g3,g4⟩<;>omega
   have dA:dgm dg x y (T.getD x 0)=1:=by
    unfold dgm;rw[if_neg (Ne.symm hAy)]
    rcases fx with⟨g1,g2⟩|⟨g1,g2,g3,g4,g5⟩
    · rw[g2,if_pos rfl];omega
    · rw[if_neg (Ne.symm g2)];omega
   have dB:dgm dg x y (T.getD y 0)=1:=by
    unfold dgm;rw[if_neg (Ne.symm hBx)]
    rcases fy with⟨g1,g2⟩|⟨g1,g2,g3,g4,g5⟩
    · rw[g2,if_pos rfl];omega
    · rw[if_neg (Ne.symm g2)];omega
   generalize hA:T.getD x 0=A at*
   generalize hB:T.getD y 0=B at*
   -- x: met twice, or A itself; so y
   have dX:x≠A->dgm dg x y x=2:=by
    intro e
    unfold dgm;rw[if_pos rfl,if_neg (Ne.symm hxy)]
    rcases fx with⟨g1,g2⟩|⟨g1,g2⟩<;>omega
   have dY:y≠B->dgm dg x y y=2:=by
    intro e
    unfold dgm;rw[if_pos rfl,if_neg hxy]
    rcases fy with⟨g1,g2⟩|⟨g1,g2⟩<;>omega
   -- others: as they were, and none of them is x, y, A, B, nor tied to these
   have dO:∀ v,x≠v->y≠v->dgm dg x y v=dg v:=by
    intro v e1 e2;unfold dgm;rw[if_neg e1,if_neg e2];rfl
   have A2:A<26:=ax
   have B2:B<26:=ay
   have tA:(Qu8 T x y).getD A 0=B:=by rw[hat A A2,if_neg (Ne.symm hAB),if_pos rfl]
   have tB:(Qu8 T x y).getD B 0=A:=by rw[hat B B2,if_pos rfl]
   have tO:∀ v,v<26->v≠A->v≠B->v≠x->v≠y->(Qu8 T x y).getD v 0=T.getD v 0:=by
    intro v hv e1 e2 e3 e4
    rw[hat v hv,if_neg (Ne.symm e2),if_neg (Ne.symm e1),if_neg (Ne.symm e4),if_neg (Ne.symm e3)]
   have far:∀ v,1<=v->v<26->dg v=1->v≠A->v≠B->v≠x->v≠y->T.getD v 0≠A/\T.getD v 0≠B/\T.getD v 0≠x/\T.getD v 0≠y:=by
    intro v h1 h2 h3 e1 e2 e3 e4
    obtain⟨o1,o2,o3,o4,o5⟩:=h.one v h1 h2 h3
    refine⟨fun e=>?_,fun e=>?_,fun e=>?_,fun e=>?_⟩
    · rw[e]at o3 o4
      rcases fx with⟨g1,g2⟩|⟨g1,g2,g3,g4,g5,g6⟩
      · rw[g2]at o3;omega
      · omega
    · rw[e]at o3 o4
      rcases fy with⟨g1,g2⟩|⟨g1,g2,g3,g4,g5,g6⟩
      · rw[g2]at o3;omega
      · omega
    · rw[e]at o4;omega
    · rw[e]at o4;omega
   refine⟨by rw[Qf7];exact h.len,fun v=>?_,fun v hv h0=>?_,fun v h1 h2 h3=>?_,fun v h1 h2 h3=>?_,fun u v hu1 hu hv1 hv hu2 hv2 e=>?_,?_⟩
   · by_cases hv:v<26
     · rw[hat v hv];have:=h.lt v;split<;>(try split)<;>(try split)<;>(try split)<;>omega
     · rw[List.getD_eq_getElem?_getD,List.getElem?_eq_none (by rw[Qf7,h.len];omega)];decide
   · have e3:x≠v:=by intro e;subst e;unfold dgm at h0;rw[if_pos rfl]at h0;omega
     have e4:y≠v:=by intro e;subst e;unfold dgm at h0;rw[if_pos rfl]at h0;omega
     have e1:v≠A:=by intro e;subst e;omega
     have e2:v≠B:=by intro e;subst e;omega
     rw[tO v hv e1 e2 (Ne.symm e3) (Ne.symm e4)]
     exact h.none v hv (by rw[<-dO v e3 e4];exact h0)
   · by_cases e1:v=A
     · subst e1
       rw[tA]
       exact⟨Ne.symm hAB,B1,dB,tB,(QY8 _ _ _ _ _).2 (Or.inr (Or.inr ⟨WB,WA.symm⟩))⟩
     · by_cases e2:v=B
       · subst e2
         rw[tB]
         exact⟨hAB,A1,dA,tA,(QY8 _ _ _ _ _).2 (Or.inr (Or.inl ⟨WA,WB.symm⟩))⟩
       · have e3:v≠x:=by intro e;subst e;have:=dX e1;omega
         have e4:v≠y:=by intro e;subst e;have:=dY e2;omega
         have hd0:=dO v (Ne.symm e3) (Ne.symm e4)
         obtain⟨o1,o2,o3,o4,o5⟩:=h.one v h1 h2 (by omega)
         obtain⟨f1,f2,f3,f4⟩:=far v h1 h2 (by omega) e1 e2 e3 e4
         rw[tO v h2 e1 e2 e3 e4,tO _ (h.lt v) f1 f2 f3 f4]
         exact⟨o1,o2,by rw[dO _ (Ne.symm f3) (Ne.symm f4)];exact o3,o4,(QY8 _ _ _ _ _).2 (Or.inl o5)⟩
   · have e1:v≠A:=by intro e;subst e;omega
     have e2:v≠B:=by intro e;subst e;omega
     rw[hat v h2,if_neg (Ne.symm e2),if_neg (Ne.symm e1)]
     by_cases e4:y=v
     · rw[if_pos e4]
     · rw[if_neg e4]
       by_cases e3:x=v
       · rw[if_pos e3]
       · rw[if_neg e3]
         exact h.two v h1 h2 (by rw[<-dO v e3 e4];exact h3)
   · -- u and v hang together
     have cl:∀ v,1<=v->v<26->dgm dg x y v<=1->(v=A∨v=B∨(v≠x/\v≠y/\v≠A/\v≠B/\dg v<=1))/\(W v=W x->v=A)/\(W v=W y->v=B):=by
      intro v h1 h2 h3
      have c1:v=A∨v=B∨(v≠x/\v≠y/\v≠A/\v≠B/\dg v<=1):=by
       by_cases e1:v=A
       · exact Or.inl e1
       · by_cases e2:v=B
         · exact Or.inr (Or.inl e2)
         · have e3:v≠x:=by intro e;subst e;have:=dX e1;omega
           have e4:v≠y:=by intro e;subst e;have:=dY e2;omega
           exact Or.inr (Or.inr ⟨e3,e4,e1,e2,by rw[<-dO v (Ne.symm e3) (Ne.symm e4)];exact h3⟩)
      refine⟨c1,fun e=>?_,fun e=>?_⟩
      · rcases c1 with r|r|⟨r1,r2,r3,r4,r5⟩
        · exact r
        · subst r;exact absurd (e.symm.trans WB) hWne
        · rcases h.same x v hx1 hx h1 h2 (by omega) r5 e.symm with q|q
          · exact absurd q.symm r1
          · rw[hA]at q;exact q.symm
      · rcases c1 with r|r|⟨r1,r2,r3,r4,r5⟩
        · subst r;exact absurd (WA.symm.trans e) hWne
        · exact r
        · rcases h.same y v hy1 hy h1 h2 (by omega) r5 e.symm with q|q
          · exact absurd q.symm r2
          · rw[hB]at q;exact q.symm
     obtain⟨cu,cu1,cu2⟩:=cl u hu1 hu hu2
     obtain⟨cv,cv1,cv2⟩:=cl v hv1 hv hv2
     rcases(QY8 _ _ _ _ _).1 e with q|⟨q1,q2⟩|⟨q1,q2⟩
     · rcases cu with r|r|⟨r1,r2,r3,r4,r5⟩
       · left;rw[cv1 (by rw[<-q,r,WA])];exact r
       · left;rw[cv2 (by rw[<-q,r,WB])];exact r
       · rcases cv with s|s|⟨s1,s2,s3,s4,s5⟩
         · exact absurd (cu1 (by rw[q,s,WA])) r3
         · exact absurd (cu2 (by rw[q,s,WB])) r4
         · rw[tO u hu r3 r4 r1 r2]
           exact h.same u v hu1 hu hv1 hv r5 s5 q
     · right;rw[cu1 q1,cv2 q2.symm];exact tA
     · right;rw[cu2 q1,cv1 q2.symm];exact tB
   · have:=h.zero;unfold dgm;rw[if_neg (by omega),if_neg (by omega)];omega
end Go.Proofs.YtjcagkgpbcdghaaDoor
/- Rows of pairs: strands tied, labels joined; one arc cut. -/
namespace Go.Proofs.YtjcagkgpbcdghaaDoor
def QD2 (P:Nat->Nat×Nat):Nat->Nat->Nat
 |0=>fun v=>v
 |i+1=>lab (QD2 P i) (P i).1 (P i).2
def QF2 (P:Nat->Nat×Nat):Nat->Nat
 |0=>0
 |i+1=>QF2 P i+(if QD2 P i (P i).1=QD2 P i (P i).2 then 0 else 1)
def Xq7 (P:Nat->Nat×Nat):Nat->List Nat
 |0=>List.range 26
 |i+1=>Qu8 (Xq7 P i) (P i).1 (P i).2
def QC3 (P:Nat->Nat×Nat):Nat->Nat
 |0=>0
 |i+1=>QC3 P i+XF3 (Xq7 P i) (P i).1 (P i).2
def dgP (P:Nat->Nat×Nat):Nat->Nat->Nat
 |0=>fun _=>0
 |i+1=>dgm (dgP P i) (P i).1 (P i).2
theorem ZU8 (P:Nat->Nat×Nat) (v:Nat) {i m:Nat} (h:i<=m):dgP P i v<=dgP P m v:=by
 induction h with
 |refl=>exact Nat.le_refl _
 |step _ ih=>refine Nat.le_trans ih ?_;show dgP P _ v<=dgm (dgP P _) _ _ v;unfold dgm;omega
theorem tied_first:Tied (List.range 26) (fun _=>0) (fun v=>v):=by
 have hg:∀ v,v<26->(List.range 26).getD v 0=v:=by
  intro v hv;rw[List.getD_eq_getElem?_getD,List.getElem?_range hv];rfl
 refine⟨by simp,fun v=>?_,fun v hv _=>hg v hv,fun v _ _ h=>by simp at h,fun v _ _ h=>by simp at h,fun u v _ _ _ _ _ _ e=>Or.inl e,rfl⟩
 by_cases hv:v<26
 · rw[hg v hv];exact hv
 · rw[List.getD_eq_getElem?_getD,List.getElem?_eq_none (by simp;omega)];decide
theorem KB2 {P : Nat → Nat × Nat} {m : Nat} (hr : ∀ i, i < m → 1 ≤ (P i).1 ∧ (P i).1 < 26 ∧ 1 ≤ (P i).2 ∧ (P i).2 < 26) (hd : ∀ v, dgP P m v ≤ 2) :
    ∀ i,i<=m->Tied (Xq7 P i) (dgP P i) (QD2 P i)/\QC3 P i+QF2 P i=i:=by
 intro i hi
 induction i with
 |zero=>exact⟨tied_first,rfl⟩
 |succ i ih=>
  obtain⟨h1,h2⟩:=ih (by omega)
  obtain⟨r1,r2,r3,r4⟩:=hr i (by omega)
  have dx:=Nat.le_trans (ZU8 P (P i).1 hi) (hd (P i).1)
  have dy:=Nat.le_trans (ZU8 P (P i).2 hi) (hd (P i).2)
  have dx':dgP P i (P i).1+1+(if(P i).2=(P i).1 then 1 else 0)<=2:=by
   have:dgP P (i+1) (P i).1=dgP P i (P i).1+(if(P i).1=(P i).1 then 1 else 0)+(if(P i).2=(P i).1 then 1 else 0):=rfl
   rw[if_pos rfl]at this;omega
  have dy':dgP P i (P i).2<=1:=by
   have:dgP P (i+1) (P i).2=dgP P i (P i).2+(if(P i).1=(P i).2 then 1 else 0)+(if(P i).2=(P i).2 then 1 else 0):=rfl
   rw[if_pos rfl]at this;omega
  have dx'':dgP P i (P i).1+(if(P i).1=(P i).2 then 1 else 0)<=1:=by
   by_cases e:(P i).1=(P i).2
   · rw[if_pos e];rw[if_pos e.symm]at dx';omega
   · rw[if_neg e];omega
  refine⟨h1.tie r1 r2 r3 r4 dx'' dy',?_⟩
  have hi2:=Zv0 h1 r1 r2 r3 r4 dx'' dy'
  show QC3 P i+XF3 (Xq7 P i) (P i).1 (P i).2+(QF2 P i+if QD2 P i (P i).1=QD2 P i (P i).2 then 0 else 1)=i+1
  unfold XF3
  by_cases e:(Xq7 P i).getD (P i).1 0=(P i).2
  · rw[if_pos e,if_pos (hi2.1 e)];omega
  · rw[if_neg e,if_neg (fun e'=>e (hi2.2 e'))];omega
def sg (A v:Nat):Nat:=if v=25 then A else v
theorem KH9 (W:Nat->Nat) (x y c A u v:Nat):(lab (lab W x y) c A u=lab (lab W x y) c A v)↔(lab (lab W c A) x y u=lab (lab W c A) x y v):=by
 simp only[QY8]
 grind
theorem join_step (W : Nat → Nat) (x y c A : Nat) (q : Prop) [Decidable q] (hq : q ↔ (W x = W y ∨ (W x = W c ∧ W A = W y) ∨ (W x = W A ∧ W c = W y))) :
    (if W c=W A then 1 else 0)+(if W x=W y then 0 else 1)=(if q then 0 else 1)+(if lab W x y c=lab W x y A then 1 else 0):=by
 have k:=QY8 W x y c A
 by_cases c1:W x=W y
 · have hq1:q:=hq.2 (Or.inl c1)
   rw[if_pos c1,if_pos hq1]
   by_cases c2:W c=W A
   · rw[if_pos c2,if_pos (k.2 (Or.inl c2))]
   · rw[if_neg c2,if_neg (fun e=>by have:=k.1 e;omega)]
 · rw[if_neg c1]
   by_cases c2:W c=W A
   · rw[if_pos c2,if_pos (k.2 (Or.inl c2)),if_neg (fun e=>by have:=hq.1 e;omega)]
   · rw[if_neg c2]
     by_cases c3:q
     · have:=hq.1 c3
       rw[if_pos c3,if_pos (k.2 (by omega))]
     · have h3:¬ lab W x y c=lab W x y A:=fun e=>c3 (hq.2 (by have:=k.1 e;omega))
       rw[if_neg c3,if_neg h3]
theorem KC9 {P Q : Nat → Nat × Nat} {m A : Nat} (hA : A ≠ 25) (h : ∀ i, i < m → (P i).1 = sg A (Q i).1 ∧ (P i).2 = sg A (Q i).2) :
    ∀ i,i<=m->(∀ u v,QD2 P i (sg A u)=QD2 P i (sg A v)↔lab (QD2 Q i) 25 A u=lab (QD2 Q i) 25 A v)/\QF2 Q i=QF2 P i+(if QD2 Q i 25=QD2 Q i A then 1 else 0):=by
 intro i hi
 induction i with
 |zero=>
  refine⟨fun u v=>?_,?_⟩
  · rw[QY8]
    show sg A u=sg A v↔u=v∨(u=25/\A=v)∨(u=A/\25=v)
    unfold sg
    by_cases e1:u=25<;>by_cases e2:v=25
    · rw[if_pos e1,if_pos e2];omega
    · rw[if_pos e1,if_neg e2];omega
    · rw[if_neg e1,if_pos e2];omega
    · rw[if_neg e1,if_neg e2];omega
  · show 0=0+(if 25=A then 1 else 0)
    rw[if_neg (Ne.symm hA)]
 |succ i ih=>
  obtain⟨h1,h2⟩:=ih (by omega)
  obtain⟨e1,e2⟩:=h i (by omega)
  have hL:∀ u v,QD2 P i (sg A u)=QD2 P i (sg A v)↔lab (QD2 Q i) 25 A u=lab (QD2 Q i) 25 A v:=h1
  refine⟨fun u v=>?_,?_⟩
  · show lab (QD2 P i) (P i).1 (P i).2 (sg A u)=lab (QD2 P i) (P i).1 (P i).2 (sg A v)↔lab (lab (QD2 Q i) (Q i).1 (Q i).2) 25 A u=lab (lab (QD2 Q i) (Q i).1 (Q i).2) 25 A v
    rw[KH9,QY8,QY8 (lab (QD2 Q i) 25 A),e1,e2,hL,hL,hL,hL,hL]
  · show QF2 Q i+(if QD2 Q i (Q i).1=QD2 Q i (Q i).2 then 0 else 1)=QF2 P i+(if QD2 P i (P i).1=QD2 P i (P i).2 then 0 else 1)+(if lab (QD2 Q i) (Q i).1 (Q i).2 25=lab (QD2 Q i) (Q i).1 (Q i).2 A then 1 else 0)
    have k1:=hL (Q i).1 (Q i).2
    rw[<-e1,<-e2,QY8]at k1
    have k2:=join_step (QD2 Q i) (Q i).1 (Q i).2 25 A (QD2 P i (P i).1=QD2 P i (P i).2) k1
    omega
end Go.Proofs.YtjcagkgpbcdghaaDoor

/- Several texts of the proof, one behind the other. -/

/- Plain mathematics of polynomials as lists of pairs (exponent, coefficient): which may be handed in. No program is named here. -/
namespace Go.Proofs.YtbobljddklldjaaGreatDoor.Poly
def okB (l:List (Int×Int)) (i:Nat):Bool:=
 decide (-1000<=(l.getD i (0,0)).1)&&decide ((l.getD i (0,0)).1<=1000)&&decide (-1000000<=(l.getD i (0,0)).2)&&decide ((l.getD i (0,0)).2<=1000000)&&
 !decide ((l.getD i (0,0)).2=0)&&(decide (i=0)||decide ((l.getD (i-1) (0,0)).1<(l.getD i (0,0)).1))
def mayB (l:List (Int×Int)):Bool:=decide (l.length<=64)&&(List.range l.length).all (okB l)
theorem okB_iff (l:List (Int×Int)) (i:Nat):okB l i=true ↔ -1000<=(l.getD i (0,0)).1/\(l.getD i (0,0)).1<=1000 /\ -1000000<=(l.getD i (0,0)).2/\(l.getD i (0,0)).2<=1000000/\(l.getD i (0,0)).2≠0/\(0<i->(l.getD (i-1) (0,0)).1<(l.getD i (0,0)).1):=by
 unfold okB
 simp only[Bool.and_eq_true,decide_eq_true_eq,Bool.or_eq_true,Bool.not_eq_true',decide_eq_false_iff_not]
 constructor
 · rintro⟨⟨⟨⟨⟨a,b⟩,c⟩,d⟩,e⟩,f⟩
   exact⟨a,b,c,d,e,fun h=>by rcases f with f|f;omega;exact f⟩
 · rintro⟨a,b,c,d,e,f⟩
   refine⟨⟨⟨⟨⟨a,b⟩,c⟩,d⟩,e⟩,?_⟩
   by_cases h:i=0
   · exact Or.inl h
   · exact Or.inr (f (by omega))
theorem may_iff (l:List (Int×Int)):mayB l=true↔l.length<=64/\∀ i,i<l.length->okB l i=true:=by
 unfold mayB
 simp[List.all_eq_true]
theorem may_no (l:List (Int×Int)) (i:Nat) (hi:i<l.length) (h:okB l i=false):mayB l=false:=by
 cases hm:mayB l with
 |false=>rfl
 |true=>have:=((may_iff l).1 hm).2 i hi;rw[h]at this;cases this
theorem may_long (l:List (Int×Int)) (h:64<l.length):mayB l=false:=by
 cases hm:mayB l with
 |false=>rfl
 |true=>have:=((may_iff l).1 hm).1;omega
theorem may_yes (l:List (Int×Int)) (hl:l.length<=64) (h:∀ i,i<l.length->okB l i=true):mayB l=true:=(may_iff l).2 ⟨hl,h⟩
theorem okB_no1 {l:List (Int×Int)} {i:Nat} {e:Int} (he:(l.getD i (0,0)).1=e) (h:e < -1000):okB l i=false:=by
 cases hm:okB l i with
 |false=>rfl
 |true=>have:=(okB_iff l i).1 hm;omega
theorem okB_no2 {l:List (Int×Int)} {i:Nat} {e:Int} (he:(l.getD i (0,0)).1=e) (h:1000<e):okB l i=false:=by
 cases hm:okB l i with
 |false=>rfl
 |true=>have:=(okB_iff l i).1 hm;omega
theorem okB_no3 {l:List (Int×Int)} {i:Nat} {c:Int} (hc:(l.getD i (0,0)).2=c) (h:c < -1000000):okB l i=false:=by
 cases hm:okB l i with
 |false=>rfl
 |true=>have:=(okB_iff l i).1 hm;omega
theorem okB_no4 {l:List (Int×Int)} {i:Nat} {c:Int} (hc:(l.getD i (0,0)).2=c) (h:1000000<c):okB l i=false:=by
 cases hm:okB l i with
 |false=>rfl
 |true=>have:=(okB_iff l i).1 hm;omega
theorem okB_no5 {l:List (Int×Int)} {i:Nat} {c:Int} (hc:(l.getD i (0,0)).2=c) (h:c=0):okB l i=false:=by
 cases hm:okB l i with
 |false=>rfl
 |true=>have:=(okB_iff l i).1 hm;omega
theorem okB_no6 {l:List (Int×Int)} {i:Nat} {e p:Int} (he:(l.getD i (0,0)).1=e) (hp:(l.getD (i-1) (0,0)).1=p) (h0:0<i) (h:e<=p):okB l i=false:=by
 cases hm:okB l i with
 |false=>rfl
 |true=>have:=(okB_iff l i).1 hm;have:=this.2.2.2.2.2 h0;omega
theorem okB_yes {l : List (Int × Int)} {i : Nat} {e c : Int} (he : (l.getD i (0, 0)).1 = e) (hc : (l.getD i (0, 0)).2 = c) (a : ¬ e < -1000) (b : ¬ 1000 < e) (d : ¬ c < -1000000) (f : ¬ 1000000 < c) (g : ¬ c = 0)
    (hp:0<i->(l.getD (i-1) (0,0)).1<e):okB l i=true:=
 (okB_iff l i).2 ⟨by omega,by omega,by omega,by omega,by omega,fun h=>by have:=hp h;omega⟩
end Go.Proofs.YtbobljddklldjaaGreatDoor.Poly
/- Polynomials in form, as lists: exponents rise, no coefficient is 0; such a list is told by its coefficients. Plain mathematics: no program is named here. -/
namespace Go.Proofs.YtbobljddklldjaaGreatDoor.Poly
def Canon (l:List (Int×Int)) (f:Int->Int):Prop:=l.Pairwise (fun a b=>a.1<b.1)/\∀ x c,(x,c)∈l↔(f x=c/\c≠0)
theorem canon_unique:∀ {l m:List (Int×Int)} {f:Int->Int},Canon l f->Canon m f->l=m:=by
 intro l
 induction l with
 |nil=>
  intro m f h1 h2
  cases m with
  |nil=>rfl
  |cons b m=>
   have:=(h1.2 b.1 b.2).2 ((h2.2 b.1 b.2).1 (by simp))
   cases this
 |cons a l ih=>
  intro m f h1 h2
  cases m with
  |nil=>
   have:=(h2.2 a.1 a.2).2 ((h1.2 a.1 a.2).1 (by simp))
   cases this
  |cons b m=>
   have ha:a∈b::m:=(h2.2 a.1 a.2).2 ((h1.2 a.1 a.2).1 (by simp))
   have hb:b∈a::l:=(h1.2 b.1 b.2).2 ((h2.2 b.1 b.2).1 (by simp))
   have s1:=List.pairwise_cons.1 h1.1
   have s2:=List.pairwise_cons.1 h2.1
   have hab:a=b:=by
    rcases List.mem_cons.1 ha with h|h
    · exact h
    · rcases List.mem_cons.1 hb with h'|h'
      · exact h'.symm
      · have q1:=s1.1 b h'
        have q2:=s2.1 a h
        omega
   subst hab
   congr 1
   -- the tails: both in form for f struck at a's exponent
   refine ih (f:=fun x=>if x=a.1 then 0 else f x) ⟨s1.2,fun x c=>?_⟩ ⟨s2.2,fun x c=>?_⟩
   · have h:=h1.2 x c
     by_cases hx:x=a.1
     · subst hx
       simp only[if_true]
       constructor
       · intro hm
         have:=s1.1 _ hm
         simp at this
       · rintro⟨rfl,hc⟩
         exact absurd rfl hc
     · simp only[if_neg hx]
       rw[<-h]
       constructor
       · intro hm
         exact List.mem_cons_of_mem _ hm
       · intro hm
         rcases List.mem_cons.1 hm with h'|h'
         · exact absurd (by rw[<-h']) hx
         · exact h'
   · have h:=h2.2 x c
     by_cases hx:x=a.1
     · subst hx
       simp only[if_true]
       constructor
       · intro hm
         have:=s2.1 _ hm
         simp at this
       · rintro⟨rfl,hc⟩
         exact absurd rfl hc
     · simp only[if_neg hx]
       rw[<-h]
       constructor
       · intro hm
         exact List.mem_cons_of_mem _ hm
       · intro hm
         rcases List.mem_cons.1 hm with h'|h'
         · exact absurd (by rw[<-h']) hx
         · exact h'
theorem canon_congr {l:List (Int×Int)} {f g:Int->Int} (h:Canon l f) (e:∀ x,f x=g x):Canon l g:=⟨h.1,fun x c=>by rw[h.2,e]⟩
theorem rising_of {l acc:List (Int×Int)} (hp:l.Perm acc) (hs:l.Pairwise (fun a b=>a.1<=b.1)) (hn:acc.Pairwise (fun a b=>a.1≠b.1)):l.Pairwise (fun a b=>a.1<b.1):=by
 have hn':l.Pairwise (fun a b=>a.1≠b.1):=(hp.pairwise_iff (fun {a b} h=>Ne.symm h)).2 hn
 have:=hs.and hn'
 exact this.imp fun⟨h1,h2⟩=>by omega
def coefL:List (Int×Int)->Int->Int
 |[],_=>0
 |t::ts,x=>(if t.1=x then t.2 else 0)+coefL ts x
theorem coefL_append (a b:List (Int×Int)) (x:Int):coefL (a++b) x=coefL a x+coefL b x:=by
 induction a with
 |nil=>simp[coefL]
 |cons t a ih=>simp only[List.cons_append,coefL,ih];omega
theorem coefL_take (ts:List (Int×Int)) (k:Nat) (hk:k<ts.length) (x:Int):coefL (ts.take (k+1)) x=coefL (ts.take k) x+(if(ts.getD k (0,0)).1=x then(ts.getD k (0,0)).2 else 0):=by
 rw[List.take_succ_eq_append_getElem hk,coefL_append]
 have g:ts.getD k (0,0)=ts[k]:=by simp[List.getD,hk]
 rw[g]
 simp[coefL]
theorem coefL_le (ts:List (Int×Int)) (M x:Int) (h:∀ t∈ts,-M<=t.2/\t.2<=M) (hM:0<=M) : -(M*ts.length)<=coefL ts x/\coefL ts x<=M*ts.length:=by
 induction ts with
 |nil=>simp[coefL]
 |cons t ts ih=>
  have h1:=ih fun t ht=>h t (List.mem_cons_of_mem _ ht)
  have h2:=h t (by simp)
  simp only[coefL,List.length_cons]
  have e:M*((ts.length+1:Nat):Int)=M*ts.length+M:=by rw[Int.natCast_add,Int.mul_add];simp
  rw[e]
  split<;>omega
theorem coefL_zero (ts:List (Int×Int)) (x:Int) (h:∀ t∈ts,t.1≠x):coefL ts x=0:=by
 induction ts with
 |nil=>rfl
 |cons t ts ih=>
  simp only[coefL]
  rw[if_neg (h t (by simp)),ih fun t ht=>h t (List.mem_cons_of_mem _ ht)]
  rfl
theorem coefL_mem {ts:List (Int×Int)} (hn:ts.Pairwise (fun a b=>a.1≠b.1)) (hz:∀ t∈ts,t.2≠0) (x c:Int):(x,c)∈ts↔(coefL ts x=c/\c≠0):=by
 induction ts with
 |nil=>
  simp only[List.not_mem_nil,false_iff,coefL]
  rintro⟨rfl,h⟩
  exact h rfl
 |cons t ts ih=>
  have hp:=List.pairwise_cons.1 hn
  have ih:=ih hp.2 fun t ht=>hz t (List.mem_cons_of_mem _ ht)
  simp only[coefL,List.mem_cons]
  by_cases hx:t.1=x
  · subst hx
    have h0:=coefL_zero ts t.1 fun s hs=>(hp.1 s hs).symm
    rw[if_pos rfl,h0,Int.add_zero]
    constructor
    · rintro(h|h)
      · have hc:c=t.2:=congrArg Prod.snd h
        rw[hc];exact⟨rfl,hz t (by simp)⟩
      · exact absurd rfl (hp.1 (t.1,c) h)
    · rintro⟨rfl,_⟩
      exact Or.inl rfl
  · rw[if_neg hx,Int.zero_add,<-ih]
    constructor
    · rintro(h|h)
      · exact absurd (by rw[<-h]) hx
      · exact h
    · exact Or.inr
theorem canon_self {l:List (Int×Int)} (hs:l.Pairwise (fun a b=>a.1<b.1)) (hz:∀ t∈l,t.2≠0):Canon l (coefL l):=
 ⟨hs,fun x c=>coefL_mem (hs.imp fun h=>by omega) hz x c⟩
end Go.Proofs.YtbobljddklldjaaGreatDoor.Poly
/- A term put into a list in form: plain mathematics. -/
namespace Go.Proofs.YtbobljddklldjaaGreatDoor.Poly
def ahead (l:List (Int×Int)) (e:Int):Nat:=(l.takeWhile fun t=>decide (t.1<e)).length
end Go.Proofs.YtbobljddklldjaaGreatDoor.Poly
/- Sums over states; polynomials as functions: what rings are worth. -/
namespace Go.Proofs.YtbobljddklldjaaGreatDoor
def sumS:Nat->(Nat->Int)->Int
 |0,_=>0
 |n+1,g=>sumS n g+g n
theorem sumS_congr {n:Nat} {f g:Nat->Int} (h:∀ s,s<n->f s=g s):sumS n f=sumS n g:=by
 induction n with
 |zero=>rfl
 |succ n ih=>
  show sumS n f+f n=sumS n g+g n
  rw[ih fun s hs=>h s (by omega),h n (by omega)]
theorem sumS_add (n:Nat) (f g:Nat->Int):sumS n (fun s=>f s+g s)=sumS n f+sumS n g:=by
 induction n with
 |zero=>rfl
 |succ n ih=>
  show sumS n (fun s=>f s+g s)+(f n+g n)=sumS n f+f n+(sumS n g+g n)
  rw[ih];omega
theorem sumS_zero (n:Nat):sumS n (fun _=>0)=0:=by
 induction n with
 |zero=>rfl
 |succ n ih=>show sumS n (fun _=>0)+0=0;rw[ih];rfl
theorem sumS_neg (n:Nat) (f:Nat->Int):sumS n (fun s => - f s) = - sumS n f:=by
 induction n with
 |zero=>rfl
 |succ n ih=>show sumS n (fun s => - f s) + - f n = - (sumS n f+f n);rw[ih];omega
theorem sumS_split (a b:Nat) (g:Nat->Int):sumS (a+b) g=sumS a g+sumS b (fun s=>g (a+s)):=by
 induction b with
 |zero=>show sumS a g=sumS a g+0;omega
 |succ b ih=>show sumS (a+b) g+g (a+b)=sumS a g+(sumS b (fun s=>g (a+s))+g (a+b));rw[ih];omega
theorem sumS_two (k:Nat) (g:Nat->Int):sumS (2 ^ (k+1)) g=sumS (2 ^ k) (fun s=>g s+g (2 ^ k+s)):=by
 rw[show 2 ^ (k+1)=2 ^ k+2 ^ k by rw[Nat.pow_succ];omega,sumS_split,sumS_add]
theorem sumS_bd {n:Nat} {f:Nat->Int} {H:Nat} (h:∀ s,s<n->(f s).natAbs<=H):(sumS n f).natAbs<=n*H:=by
 induction n with
 |zero=>simp[sumS]
 |succ n ih=>
  have e1:=ih fun s hs=>h s (by omega)
  have e2:=h n (by omega)
  have e3:=Int.natAbs_add_le (sumS n f) (f n)
  show(sumS n f+f n).natAbs<=(n+1)*H
  rw[Nat.succ_mul];omega
theorem sumS_more {n : Nat} {F : Nat → Int} {P Q R : Nat → Bool} (h : ∀ s, s < n → (R s = true ↔ P s = true ∨ Q s = true)) (h2 : ∀ s, s < n → ¬ (P s = true ∧ Q s = true)) :
    sumS n (fun s=>if R s=true then F s else 0)=sumS n (fun s=>if P s=true then F s else 0)+sumS n (fun s=>if Q s=true then F s else 0):=by
 rw[<-sumS_add]
 refine sumS_congr fun s hs=>?_
 have a:=h s hs
 have b:=h2 s hs
 cases hp:P s<;>cases hq:Q s<;>cases hr:R s<;>simp_all
def shA (e:Int) (f:Int->Int):Int->Int:=fun y=>f (y-e)
def dlA (f:Int->Int):Int->Int:=fun y => - f (y+2)-f (y-2)
def dlN:Nat->(Int->Int)->Int->Int
 |0,f=>f
 |n+1,f=>dlA (dlN n f)
def oneAb:Int->Int:=fun y=>if y=0 then 1 else 0
theorem dlA_sh (e:Int) (f:Int->Int):dlA (shA e f)=shA e (dlA f):=by
 funext y;unfold dlA shA
 rw[show y+2-e=y-e+2 by omega,show y-2-e=y-e-2 by omega]
theorem dlN_sh (n:Nat) (e:Int) (f:Int->Int):dlN n (shA e f)=shA e (dlN n f):=by
 induction n with
 |zero=>rfl
 |succ n ih=>show dlA (dlN n (shA e f))=shA e (dlA (dlN n f));rw[ih,dlA_sh]
theorem dlN_add (m n:Nat) (f:Int->Int):dlN m (dlN n f)=dlN (m+n) f:=by
 induction m with
 |zero=>rw[Nat.zero_add];rfl
 |succ m ih=>rw[Nat.succ_add];show dlA (dlN m (dlN n f))=dlA (dlN (m+n) f);rw[ih]
theorem sh_sh (a b:Int) (f:Int->Int):shA a (shA b f)=shA (a+b) f:=by
 funext y;unfold shA;rw[show y-a-b=y-(a+b) by omega]
theorem sh_zero (f:Int->Int):shA 0 f=f:=by
 funext y;unfold shA;rw[Int.sub_zero]
theorem dlA_sum (n:Nat) (F:Nat->Int->Int):dlA (fun y=>sumS n fun s=>F s y)=fun y=>sumS n fun s=>dlA (F s) y:=by
 funext y
 show-sumS n (fun s=>F s (y+2))-sumS n (fun s=>F s (y-2))=sumS n fun s => - F s (y+2)-F s (y-2)
 have e:sumS n (fun s => - F s (y+2)-F s (y-2))=sumS n (fun s => - F s (y+2) + - F s (y-2)):=sumS_congr fun s _=>by omega
 rw[e,sumS_add,sumS_neg,sumS_neg];omega
theorem dlN_sum (c n:Nat) (F:Nat->Int->Int):dlN c (fun y=>sumS n fun s=>F s y)=fun y=>sumS n fun s=>dlN c (F s) y:=by
 induction c with
 |zero=>rfl
 |succ c ih=>show dlA (dlN c _)=fun y=>sumS n fun s=>dlA (dlN c (F s)) y;rw[ih,dlA_sum]
theorem dlA_bd {f:Int->Int} {H:Nat} (h:∀ y,(f y).natAbs<=H) (y:Int):(dlA f y).natAbs<=2*H:=by
 have a:=h (y+2);have b:=h (y-2)
 unfold dlA;omega
theorem dlN_bd {f:Int->Int} {H:Nat} (h:∀ y,(f y).natAbs<=H) (n:Nat) (y:Int):(dlN n f y).natAbs<=2 ^ n*H:=by
 induction n generalizing y with
 |zero=>rw[Nat.pow_zero,Nat.one_mul];exact h y
 |succ n ih=>
  have:=dlA_bd ih y
  rw[Nat.pow_succ,Nat.mul_comm (2 ^ n) 2,Nat.mul_assoc];exact this
def InA (f:Int->Int) (K:Nat):Prop:=∀ y,f y≠0 -> -(K:Int)<=y/\y<=K
theorem InA.sh {f:Int->Int} {K:Nat} (h:InA f K) {e:Int} (he:e=1∨e = -1):InA (shA e f) (K+1):=by
 intro y hy
 have:=h (y-e) hy
 rcases he with rfl|rfl<;>omega
theorem InA.dl {f:Int->Int} {K:Nat} (h:InA f K):InA (dlA f) (K+2):=by
 intro y hy
 by_cases h1:f (y+2)=0
 · have h2:f (y-2)≠0:=fun e=>hy (by unfold dlA;rw[h1,e];rfl)
   have:=h _ h2;omega
 · have:=h _ h1;omega
theorem InA.dlN {f:Int->Int} {K:Nat} (h:InA f K) (n:Nat):InA (dlN n f) (K+2*n):=by
 induction n with
 |zero=>exact h
 |succ n ih=>exact ih.dl
theorem InA.one:InA oneAb 0:=by
 intro y hy
 unfold oneAb at hy
 split at hy
 · omega
 · exact absurd rfl hy
theorem one_bd (y:Int):(oneAb y).natAbs<=1:=by
 unfold oneAb;split<;>simp
end Go.Proofs.YtbobljddklldjaaGreatDoor
/- Strands tied, and things joined: rings are closed just where what is joined was one. -/
namespace Go.Proofs.YtbobljddklldjaaGreatDoor
def tieT (T:List Nat) (x y:Nat):List Nat:=
 if T.getD x 0=y then(T.set x 0).set y 0 else(((T.set x 0).set y 0).set (T.getD x 0) (T.getD y 0)).set (T.getD y 0) (T.getD x 0)
def tieN (T:List Nat) (x y:Nat):Nat:=if T.getD x 0=y then 1 else 0
def lab (W:Nat->Nat) (x y:Nat):Nat->Nat:=fun v=>if W v=W y then W x else W v
theorem lab_iff (W:Nat->Nat) (x y u v:Nat):lab W x y u=lab W x y v↔W u=W v∨(W u=W x/\W y=W v)∨(W u=W y/\W x=W v):=by
 unfold lab
 by_cases h1:W u=W y<;>by_cases h2:W v=W y
 · rw[if_pos h1,if_pos h2];omega
 · rw[if_pos h1,if_neg h2];omega
 · rw[if_neg h1,if_pos h2];omega
 · rw[if_neg h1,if_neg h2];omega
def dgm (dg:Nat->Nat) (x y:Nat):Nat->Nat:=fun v=>dg v+(if x=v then 1 else 0)+(if y=v then 1 else 0)
structure Tied (T:List Nat) (dg W:Nat->Nat):Prop where
 len:T.length=26
 lt:∀ v,T.getD v 0<26
 none:∀ v,v<26->dg v=0->T.getD v 0=v
 one:∀ v,1<=v->v<26->dg v=1->T.getD v 0≠v/\1<=T.getD v 0/\dg (T.getD v 0)=1/\T.getD (T.getD v 0) 0=v/\W (T.getD v 0)=W v
 two:∀ v,1<=v->v<26->2<=dg v->T.getD v 0=0
 same:∀ u v,1<=u->u<26->1<=v->v<26->dg u<=1->dg v<=1->W u=W v->u=v∨T.getD u 0=v
 zero:dg 0=0
theorem getD_setN (T:List Nat) (i j x:Nat):(T.set i x).getD j 0=if i=j/\j<T.length then x else T.getD j 0:=by
 rw[List.getD_eq_getElem?_getD,List.getD_eq_getElem?_getD,List.getElem?_set]
 by_cases h:i=j
 · subst h
   by_cases h2:i<T.length
   · simp[h2]
   · simp[h2]
 · simp[h]
theorem tieT_at {T : List Nat} {dg W : Nat → Nat} (h : Tied T dg W) (x y v : Nat) (hv : v < 26) :
    (tieT T x y).getD v 0=if T.getD x 0=y then(if y=v then 0 else if x=v then 0 else T.getD v 0) else(if T.getD y 0=v then T.getD x 0 else if T.getD x 0=v then T.getD y 0 else if y=v then 0 else if x=v then 0 else T.getD v 0):=by
 have hl:=h.len
 unfold tieT
 split
 · simp only[getD_setN,List.length_set,hl,hv,and_true]
 · simp only[getD_setN,List.length_set,hl,hv,and_true]
theorem tieT_len (T:List Nat) (x y:Nat):(tieT T x y).length=T.length:=by
 unfold tieT;split<;>simp
theorem tie_iff {T:List Nat} {dg W:Nat->Nat} (h:Tied T dg W) {x y:Nat} (hx1:1<=x) (hx:x<26) (hy1:1<=y) (hy:y<26) (hd:dg x+(if x=y then 1 else 0)<=1) (hd2:dg y<=1):T.getD x 0=y↔W x=W y:=by
 constructor
 · intro e
   by_cases h0:dg x=0
   · have:=h.none x hx h0
     rw[show x=y by omega]
   · have:=h.one x hx1 hx (by omega)
     rw[<-e];exact this.2.2.2.2.symm
 · intro e
   rcases h.same x y hx1 hx hy1 hy (by omega) hd2 e with h1|h1
   · subst h1
     rw[if_pos rfl]at hd
     exact h.none x hx (by omega)
   · exact h1
theorem Tied.tie {T:List Nat} {dg W:Nat->Nat} (h:Tied T dg W) {x y:Nat} (hx1:1<=x) (hx:x<26) (hy1:1<=y) (hy:y<26) (hd:dg x+(if x=y then 1 else 0)<=1) (hd2:dg y<=1):Tied (tieT T x y) (dgm dg x y) (lab W x y):=by
 have hiff:=tie_iff h hx1 hx hy1 hy hd hd2
 have ax:=h.lt x
 have ay:=h.lt y
 -- the other ends
 have fx:(dg x=0/\T.getD x 0=x)∨(dg x=1/\T.getD x 0≠x/\1<=T.getD x 0/\dg (T.getD x 0)=1/\T.getD (T.getD x 0) 0=x/\W (T.getD x 0)=W x):=by
  by_cases h0:dg x=0
  · exact Or.inl ⟨h0,h.none x hx h0⟩
  · exact Or.inr ⟨by omega,h.one x hx1 hx (by omega)⟩
 have fy:(dg y=0/\T.getD y 0=y)∨(dg y=1/\T.getD y 0≠y/\1<=T.getD y 0/\dg (T.getD y 0)=1/\T.getD (T.getD y 0) 0=y/\W (T.getD y 0)=W y):=by
  by_cases h0:dg y=0
  · exact Or.inl ⟨h0,h.none y hy h0⟩
  · exact Or.inr ⟨by omega,h.one y hy1 hy (by omega)⟩
 have hat:=fun v hv=>tieT_at h x y v hv
 by_cases hc:T.getD x 0=y
 · -- a ring is closed
   simp only[hc,if_true]at hat
   have hW:=hiff.1 hc
   have hlab:∀ u v,lab W x y u=lab W x y v↔W u=W v:=by
    intro u v;rw[lab_iff];omega
   have hdx:∀ v,dgm dg x y v<=1->v<26->v≠x/\v≠y/\dgm dg x y v=dg v:=by
    intro v hv hv2
    unfold dgm at hv ⊢
    by_cases e1:x=v
    · subst e1
      rcases fx with⟨g1,g2⟩|⟨g1,g2⟩
      · have:y=x:=by omega
        subst this
        simp at hv
      · simp at hv;omega
    · by_cases e2:y=v
      · subst e2
        rcases fx with⟨g1,g2⟩|⟨g1,g2,g3,g4,g5⟩
        · omega
        · rw[hc]at g4
          simp[e1]at hv;omega
      · simp[e1,e2];omega
   refine⟨by rw[tieT_len];exact h.len,fun v=>?_,fun v hv h0=>?_,fun v h1 h2 h3=>?_,fun v h1 h2 h3=>?_,fun u v hu1 hu hv1 hv hu2 hv2 e=>?_,?_⟩
   · by_cases hv:v<26
     · rw[hat v hv];have:=h.lt v;split<;>(try split)<;>omega
     · rw[List.getD_eq_getElem?_getD,List.getElem?_eq_none (by rw[tieT_len,h.len];omega)];decide
   · obtain⟨n1,n2,n3⟩:=hdx v (by omega) hv
     rw[hat v hv,if_neg (Ne.symm n2),if_neg (Ne.symm n1)]
     exact h.none v hv (by omega)
   · obtain⟨n1,n2,n3⟩:=hdx v (by omega) h2
     obtain⟨o1,o2,o3,o4,o5⟩:=h.one v h1 h2 (by omega)
     have ov:=h.lt v
     have m1:T.getD v 0≠x:=by
      intro e
      rw[e]at o4
      omega
     have m2:T.getD v 0≠y:=by
      intro e
      rcases fx with⟨g1,g2⟩|⟨g1,g2,g3,g4,g5,g6⟩
      · have:x=y:=by omega
        exact m1 (by omega)
      · rw[hc]at g5
        rw[e]at o4
        omega
     rw[hat v h2,if_neg (Ne.symm n2),if_neg (Ne.symm n1)]
     rw[hat _ ov,if_neg (Ne.symm m2),if_neg (Ne.symm m1)]
     refine⟨o1,o2,?_,o4,?_⟩
     · unfold dgm;rw[if_neg (Ne.symm m1),if_neg (Ne.symm m2)];omega
     · exact(hlab _ _).2 o5
   · rw[hat v h2]
     by_cases e2:y=v
     · rw[if_pos e2]
     · by_cases e1:x=v
       · rw[if_neg e2,if_pos e1]
       · rw[if_neg e2,if_neg e1]
         refine h.two v h1 h2 ?_
         unfold dgm at h3;rw[if_neg e1,if_neg e2]at h3;omega
   · obtain⟨n1,n2,n3⟩:=hdx u hu2 hu
     obtain⟨k1,k2,k3⟩:=hdx v hv2 hv
     rw[hat u hu,if_neg (Ne.symm n2),if_neg (Ne.symm n1)]
     exact h.same u v hu1 hu hv1 hv (by omega) (by omega) ((hlab _ _).1 e)
   · have:=h.zero;unfold dgm;rw[if_neg (by omega),if_neg (by omega)];omega
 · -- two strands become one
   have hWne:W x≠W y:=fun e=>hc (hiff.2 e)
   have hxy:x≠y:=fun e=>hWne (by rw[e])
   simp only[hc,if_false]at hat
   rw[if_neg hxy]at hd
   -- the two ends that are left
   have WA:W (T.getD x 0)=W x:=by
    rcases fx with⟨g1,g2⟩|⟨g1,g2,g3,g4,g5,g6⟩
    · rw[g2]
    · exact g6
   have WB:W (T.getD y 0)=W y:=by
    rcases fy with⟨g1,g2⟩|⟨g1,g2,g3,g4,g5,g6⟩
    · rw[g2]
    · exact g6
   have hAB:T.getD x 0≠T.getD y 0:=fun e=>hWne (by rw[<-WA,<-WB,e])
   have hAy:T.getD x 0≠y:=hc
   have hBx:T.getD y 0≠x:=fun e=>hWne (by rw[<-WB,e])
   have A1:1<=T.getD x 0:=by rcases fx with⟨g1,g2⟩|⟨g1,g2,g3,g4⟩<;>omega
   have B1:1<=T.getD y 0:=by rcases fy with⟨g1,g2⟩|⟨g1,g2,g3,g4⟩<;>omega
   have dA:dgm dg x y (T.getD x 0)=1:=by
    unfold dgm;rw[if_neg (Ne.symm hAy)]
    rcases fx with⟨g1,g2⟩|⟨g1,g2,g3,g4,g5⟩
    · rw[g2,if_pos rfl];omega
    · rw[if_neg (Ne.symm g2)];omega
   have dB:dgm dg x y (T.getD y 0)=1:=by
    unfold dgm;rw[if_neg (Ne.symm hBx)]
    rcases fy with⟨g1,g2⟩|⟨g1,g2,g3,g4,g5⟩
    · rw[g2,if_pos rfl];omega
    · rw[if_neg (Ne.symm g2)];omega
   generalize hA:T.getD x 0=A at*
   generalize hB:T.getD y 0=B at*
   -- x: met twice, or A itself; so y
   have dX:x≠A->dgm dg x y x=2:=by
    intro e
    unfold dgm;rw[if_pos rfl,if_neg (Ne.symm hxy)]
    rcases fx with⟨g1,g2⟩|⟨g1,g2⟩<;>omega
   have dY:y≠B->dgm dg x y y=2:=by
    intro e
    unfold dgm;rw[if_pos rfl,if_neg hxy]
    rcases fy with⟨g1,g2⟩|⟨g1,g2⟩<;>omega
   -- others: as they were, and none of them is x, y, A, B, nor tied to these
   have dO:∀ v,x≠v->y≠v->dgm dg x y v=dg v:=by
    intro v e1 e2;unfold dgm;rw[if_neg e1,if_neg e2];rfl
   have A2:A<26:=ax
   have B2:B<26:=ay
   have tA:(tieT T x y).getD A 0=B:=by rw[hat A A2,if_neg (Ne.symm hAB),if_pos rfl]
   have tB:(tieT T x y).getD B 0=A:=by rw[hat B B2,if_pos rfl]
   have tO:∀ v,v<26->v≠A->v≠B->v≠x->v≠y->(tieT T x y).getD v 0=T.getD v 0:=by
    intro v hv e1 e2 e3 e4
    rw[hat v hv,if_neg (Ne.symm e2),if_neg (Ne.symm e1),if_neg (Ne.symm e4),if_neg (Ne.symm e3)]
   have far:∀ v,1<=v->v<26->dg v=1->v≠A->v≠B->v≠x->v≠y->T.getD v 0≠A/\T.getD v 0≠B/\T.getD v 0≠x/\T.getD v 0≠y:=by
    intro v h1 h2 h3 e1 e2 e3 e4
    obtain⟨o1,o2,o3,o4,o5⟩:=h.one v h1 h2 h3
    refine⟨fun e=>?_,fun e=>?_,fun e=>?_,fun e=>?_⟩
    · rw[e]at o3 o4
      rcases fx with⟨g1,g2⟩|⟨g1,g2,g3,g4,g5,g6⟩
      · rw[g2]at o3;omega
      · omega
    · rw[e]at o3 o4
      rcases fy with⟨g1,g2⟩|⟨g1,g2,g3,g4,g5,g6⟩
      · rw[g2]at o3;omega
      · omega
    · rw[e]at o4;omega
    · rw[e]at o4;omega
   refine⟨by rw[tieT_len];exact h.len,fun v=>?_,fun v hv h0=>?_,fun v h1 h2 h3=>?_,fun v h1 h2 h3=>?_,fun u v hu1 hu hv1 hv hu2 hv2 e=>?_,?_⟩
   · by_cases hv:v<26
     · rw[hat v hv];have:=h.lt v;split<;>(try split)<;>(try split)<;>(try split)<;>omega
     · rw[List.getD_eq_getElem?_getD,List.getElem?_eq_none (by rw[tieT_len,h.len];omega)];decide
   · have e3:x≠v:=by intro e;subst e;unfold dgm at h0;rw[if_pos rfl]at h0;omega
     have e4:y≠v:=by intro e;subst e;unfold dgm at h0;rw[if_pos rfl]at h0;omega
     have e1:v≠A:=by intro e;subst e;omega
     have e2:v≠B:=by intro e;subst e;omega
     rw[tO v hv e1 e2 (Ne.symm e3) (Ne.symm e4)]
     exact h.none v hv (by rw[<-dO v e3 e4];exact h0)
   · by_cases e1:v=A
     · subst e1
       rw[tA]
       exact⟨Ne.symm hAB,B1,dB,tB,(lab_iff _ _ _ _ _).2 (Or.inr (Or.inr ⟨WB,WA.symm⟩))⟩
     · by_cases e2:v=B
       · subst e2
         rw[tB]
         exact⟨hAB,A1,dA,tA,(lab_iff _ _ _ _ _).2 (Or.inr (Or.inl ⟨WA,WB.symm⟩))⟩
       · have e3:v≠x:=by intro e;subst e;have:=dX e1;omega
         have e4:v≠y:=by intro e;subst e;have:=dY e2;omega
         have hd0:=dO v (Ne.symm e3) (Ne.symm e4)
         obtain⟨o1,o2,o3,o4,o5⟩:=h.one v h1 h2 (by omega)
         obtain⟨f1,f2,f3,f4⟩:=far v h1 h2 (by omega) e1 e2 e3 e4
         rw[tO v h2 e1 e2 e3 e4,tO _ (h.lt v) f1 f2 f3 f4]
         exact⟨o1,o2,by rw[dO _ (Ne.symm f3) (Ne.symm f4)];exact o3,o4,(lab_iff _ _ _ _ _).2 (Or.inl o5)⟩
   · have e1:v≠A:=by intro e;subst e;omega
     have e2:v≠B:=by intro e;subst e;omega
     rw[hat v h2,if_neg (Ne.symm e2),if_neg (Ne.symm e1)]
     by_cases e4:y=v
     · rw[if_pos e4]
     · rw[if_neg e4]
       by_cases e3:x=v
       · rw[if_pos e3]
       · rw[if_neg e3]
         exact h.two v h1 h2 (by rw[<-dO v e3 e4];exact h3)
   · -- u and v hang together
     have cl:∀ v,1<=v->v<26->dgm dg x y v<=1->(v=A∨v=B∨(v≠x/\v≠y/\v≠A/\v≠B/\dg v<=1))/\(W v=W x->v=A)/\(W v=W y->v=B):=by
      intro v h1 h2 h3
      have c1:v=A∨v=B∨(v≠x/\v≠y/\v≠A/\v≠B/\dg v<=1):=by
       by_cases e1:v=A
       · exact Or.inl e1
       · by_cases e2:v=B
         · exact Or.inr (Or.inl e2)
         · have e3:v≠x:=by intro e;subst e;have:=dX e1;omega
           have e4:v≠y:=by intro e;subst e;have:=dY e2;omega
           exact Or.inr (Or.inr ⟨e3,e4,e1,e2,by rw[<-dO v (Ne.symm e3) (Ne.symm e4)];exact h3⟩)
      refine⟨c1,fun e=>?_,fun e=>?_⟩
      · rcases c1 with r|r|⟨r1,r2,r3,r4,r5⟩
        · exact r
        · subst r;exact absurd (e.symm.trans WB) hWne
        · rcases h.same x v hx1 hx h1 h2 (by omega) r5 e.symm with q|q
          · exact absurd q.symm r1
          · rw[hA]at q;exact q.symm
      · rcases c1 with r|r|⟨r1,r2,r3,r4,r5⟩
        · subst r;exact absurd (WA.symm.trans e) hWne
        · exact r
        · rcases h.same y v hy1 hy h1 h2 (by omega) r5 e.symm with q|q
          · exact absurd q.symm r2
          · rw[hB]at q;exact q.symm
     obtain⟨cu,cu1,cu2⟩:=cl u hu1 hu hu2
     obtain⟨cv,cv1,cv2⟩:=cl v hv1 hv hv2
     rcases(lab_iff _ _ _ _ _).1 e with q|⟨q1,q2⟩|⟨q1,q2⟩
     · rcases cu with r|r|⟨r1,r2,r3,r4,r5⟩
       · left;rw[cv1 (by rw[<-q,r,WA])];exact r
       · left;rw[cv2 (by rw[<-q,r,WB])];exact r
       · rcases cv with s|s|⟨s1,s2,s3,s4,s5⟩
         · exact absurd (cu1 (by rw[q,s,WA])) r3
         · exact absurd (cu2 (by rw[q,s,WB])) r4
         · rw[tO u hu r3 r4 r1 r2]
           exact h.same u v hu1 hu hv1 hv r5 s5 q
     · right;rw[cu1 q1,cv2 q2.symm];exact tA
     · right;rw[cu2 q1,cv1 q2.symm];exact tB
   · have:=h.zero;unfold dgm;rw[if_neg (by omega),if_neg (by omega)];omega
end Go.Proofs.YtbobljddklldjaaGreatDoor
/- Rows of pairs: strands tied, labels joined; one arc cut. -/
namespace Go.Proofs.YtbobljddklldjaaGreatDoor
def labP (P:Nat->Nat×Nat):Nat->Nat->Nat
 |0=>fun v=>v
 |i+1=>lab (labP P i) (P i).1 (P i).2
def joinP (P:Nat->Nat×Nat):Nat->Nat
 |0=>0
 |i+1=>joinP P i+(if labP P i (P i).1=labP P i (P i).2 then 0 else 1)
def tieP (P:Nat->Nat×Nat):Nat->List Nat
 |0=>List.range 26
 |i+1=>tieT (tieP P i) (P i).1 (P i).2
def closP (P:Nat->Nat×Nat):Nat->Nat
 |0=>0
 |i+1=>closP P i+tieN (tieP P i) (P i).1 (P i).2
def dgP (P:Nat->Nat×Nat):Nat->Nat->Nat
 |0=>fun _=>0
 |i+1=>dgm (dgP P i) (P i).1 (P i).2
theorem dgP_mono (P:Nat->Nat×Nat) (v:Nat) {i m:Nat} (h:i<=m):dgP P i v<=dgP P m v:=by
 induction h with
 |refl=>exact Nat.le_refl _
 |step _ ih=>refine Nat.le_trans ih ?_;show dgP P _ v<=dgm (dgP P _) _ _ v;unfold dgm;omega
theorem tied_first:Tied (List.range 26) (fun _=>0) (fun v=>v):=by
 have hg:∀ v,v<26->(List.range 26).getD v 0=v:=by
  intro v hv;rw[List.getD_eq_getElem?_getD,List.getElem?_range hv];rfl
 refine⟨by simp,fun v=>?_,fun v hv _=>hg v hv,fun v _ _ h=>by simp at h,fun v _ _ h=>by simp at h,fun u v _ _ _ _ _ _ e=>Or.inl e,rfl⟩
 by_cases hv:v<26
 · rw[hg v hv];exact hv
 · rw[List.getD_eq_getElem?_getD,List.getElem?_eq_none (by simp;omega)];decide
theorem tied_all {P : Nat → Nat × Nat} {m : Nat} (hr : ∀ i, i < m → 1 ≤ (P i).1 ∧ (P i).1 < 26 ∧ 1 ≤ (P i).2 ∧ (P i).2 < 26) (hd : ∀ v, dgP P m v ≤ 2) :
    ∀ i,i<=m->Tied (tieP P i) (dgP P i) (labP P i)/\closP P i+joinP P i=i:=by
 intro i hi
 induction i with
 |zero=>exact⟨tied_first,rfl⟩
 |succ i ih=>
  obtain⟨h1,h2⟩:=ih (by omega)
  obtain⟨r1,r2,r3,r4⟩:=hr i (by omega)
  have dx:=Nat.le_trans (dgP_mono P (P i).1 hi) (hd (P i).1)
  have dy:=Nat.le_trans (dgP_mono P (P i).2 hi) (hd (P i).2)
  have dx':dgP P i (P i).1+1+(if(P i).2=(P i).1 then 1 else 0)<=2:=by
   have:dgP P (i+1) (P i).1=dgP P i (P i).1+(if(P i).1=(P i).1 then 1 else 0)+(if(P i).2=(P i).1 then 1 else 0):=rfl
   rw[if_pos rfl]at this;omega
  have dy':dgP P i (P i).2<=1:=by
   have:dgP P (i+1) (P i).2=dgP P i (P i).2+(if(P i).1=(P i).2 then 1 else 0)+(if(P i).2=(P i).2 then 1 else 0):=rfl
   rw[if_pos rfl]at this;omega
  have dx'':dgP P i (P i).1+(if(P i).1=(P i).2 then 1 else 0)<=1:=by
   by_cases e:(P i).1=(P i).2
   · rw[if_pos e];rw[if_pos e.symm]at dx';omega
   · rw[if_neg e];omega
  refine⟨h1.tie r1 r2 r3 r4 dx'' dy',?_⟩
  have hi2:=tie_iff h1 r1 r2 r3 r4 dx'' dy'
  show closP P i+tieN (tieP P i) (P i).1 (P i).2+(joinP P i+if labP P i (P i).1=labP P i (P i).2 then 0 else 1)=i+1
  unfold tieN
  by_cases e:(tieP P i).getD (P i).1 0=(P i).2
  · rw[if_pos e,if_pos (hi2.1 e)];omega
  · rw[if_neg e,if_neg (fun e'=>e (hi2.2 e'))];omega
def sg (A v:Nat):Nat:=if v=25 then A else v
theorem lab_swap (W:Nat->Nat) (x y c A u v:Nat):(lab (lab W x y) c A u=lab (lab W x y) c A v)↔(lab (lab W c A) x y u=lab (lab W c A) x y v):=by
 simp only[lab_iff]
 grind
theorem join_step (W : Nat → Nat) (x y c A : Nat) (q : Prop) [Decidable q] (hq : q ↔ (W x = W y ∨ (W x = W c ∧ W A = W y) ∨ (W x = W A ∧ W c = W y))) :
    (if W c=W A then 1 else 0)+(if W x=W y then 0 else 1)=(if q then 0 else 1)+(if lab W x y c=lab W x y A then 1 else 0):=by
 have k:=lab_iff W x y c A
 by_cases c1:W x=W y
 · have hq1:q:=hq.2 (Or.inl c1)
   rw[if_pos c1,if_pos hq1]
   by_cases c2:W c=W A
   · rw[if_pos c2,if_pos (k.2 (Or.inl c2))]
   · rw[if_neg c2,if_neg (fun e=>by have:=k.1 e;omega)]
 · rw[if_neg c1]
   by_cases c2:W c=W A
   · rw[if_pos c2,if_pos (k.2 (Or.inl c2)),if_neg (fun e=>by have:=hq.1 e;omega)]
   · rw[if_neg c2]
     by_cases c3:q
     · have:=hq.1 c3
       rw[if_pos c3,if_pos (k.2 (by omega))]
     · have h3:¬ lab W x y c=lab W x y A:=fun e=>c3 (hq.2 (by have:=k.1 e;omega))
       rw[if_neg c3,if_neg h3]
theorem cut_join {P Q : Nat → Nat × Nat} {m A : Nat} (hA : A ≠ 25) (h : ∀ i, i < m → (P i).1 = sg A (Q i).1 ∧ (P i).2 = sg A (Q i).2) :
    ∀ i,i<=m->(∀ u v,labP P i (sg A u)=labP P i (sg A v)↔lab (labP Q i) 25 A u=lab (labP Q i) 25 A v)/\joinP Q i=joinP P i+(if labP Q i 25=labP Q i A then 1 else 0):=by
 intro i hi
 induction i with
 |zero=>
  refine⟨fun u v=>?_,?_⟩
  · rw[lab_iff]
    show sg A u=sg A v↔u=v∨(u=25/\A=v)∨(u=A/\25=v)
    unfold sg
    by_cases e1:u=25<;>by_cases e2:v=25
    · rw[if_pos e1,if_pos e2];omega
    · rw[if_pos e1,if_neg e2];omega
    · rw[if_neg e1,if_pos e2];omega
    · rw[if_neg e1,if_neg e2];omega
  · show 0=0+(if 25=A then 1 else 0)
    rw[if_neg (Ne.symm hA)]
 |succ i ih=>
  obtain⟨h1,h2⟩:=ih (by omega)
  obtain⟨e1,e2⟩:=h i (by omega)
  have hL:∀ u v,labP P i (sg A u)=labP P i (sg A v)↔lab (labP Q i) 25 A u=lab (labP Q i) 25 A v:=h1
  refine⟨fun u v=>?_,?_⟩
  · show lab (labP P i) (P i).1 (P i).2 (sg A u)=lab (labP P i) (P i).1 (P i).2 (sg A v)↔lab (lab (labP Q i) (Q i).1 (Q i).2) 25 A u=lab (lab (labP Q i) (Q i).1 (Q i).2) 25 A v
    rw[lab_swap,lab_iff,lab_iff (lab (labP Q i) 25 A),e1,e2,hL,hL,hL,hL,hL]
  · show joinP Q i+(if labP Q i (Q i).1=labP Q i (Q i).2 then 0 else 1)=joinP P i+(if labP P i (P i).1=labP P i (P i).2 then 0 else 1)+(if lab (labP Q i) (Q i).1 (Q i).2 25=lab (labP Q i) (Q i).1 (Q i).2 A then 1 else 0)
    have k1:=hL (Q i).1 (Q i).2
    rw[<-e1,<-e2,lab_iff]at k1
    have k2:=join_step (labP Q i) (Q i).1 (Q i).2 25 A (labP P i (P i).1=labP P i (P i).2) k1
    omega
end Go.Proofs.YtbobljddklldjaaGreatDoor
/- Four ends that are tied two and two, in both ways: how many rings are closed, and where the same is left. -/
namespace Go.Proofs.YtbobljddklldjaaGreatDoor
def tf (t:Nat->Nat) (x y v:Nat):Nat:=if t x=y then(if y=v then 0 else if x=v then 0 else t v) else(if t y=v then t x else if t x=v then t y else if y=v then 0 else if x=v then 0 else t v)
def nf (t:Nat->Nat) (x y:Nat):Nat:=if t x=y then 1 else 0
structure Q4 (t:Nat->Nat) (p q r s:Nat):Prop where
 ip:t (t p)=p
 iq:t (t q)=q
 ir:t (t r)=r
 is:t (t s)=s
 zp:1<=p/\1<=t p
 zq:1<=q/\1<=t q
 zr:1<=r/\1<=t r
 zs:1<=s/\1<=t s
 pq:p=q->t p=p
 pr:p=r->t p=p
 ps:p=s->t p=p
 qr:q=r->t q=q
 qs:q=s->t q=q
 rs:r=s->t r=r
 pqr:¬ (p=q/\q=r)
 pqs:¬ (p=q/\q=s)
 prs:¬ (p=r/\r=s)
 qrs:¬ (q=r/\r=s)
theorem q4_pq {t:Nat->Nat} {p q r s:Nat} (h:Q4 t p q r s) (e:t p=q) (n:¬ t r=s):nf t p q+nf (tf t p q) r s=1/\nf t q r+nf (tf t q r) s p=0/\∀ v,tf (tf t p q) r s v=tf (tf t q r) s p v:=by
 obtain⟨h1,h2,h3,h4,h5,h6,h7,h8,h9,h10,h11,h12,h13,h14,h15,h16,h17,h18⟩:=h
 refine⟨?_,?_,fun v=>?_⟩
 · grind (splits:=60) (gen:=20) (ematch:=20) [nf,tf]
 · grind (splits:=60) (gen:=20) (ematch:=20) [nf,tf]
 · grind (splits:=60) (gen:=20) (ematch:=20) [nf,tf]
theorem q4_rs {t:Nat->Nat} {p q r s:Nat} (h:Q4 t p q r s) (e:t r=s) (n:¬ t p=q):nf t p q+nf (tf t p q) r s=1/\nf t q r+nf (tf t q r) s p=0/\∀ v,tf (tf t p q) r s v=tf (tf t q r) s p v:=by
 obtain⟨h1,h2,h3,h4,h5,h6,h7,h8,h9,h10,h11,h12,h13,h14,h15,h16,h17,h18⟩:=h
 refine⟨?_,?_,fun v=>?_⟩
 · grind (splits:=60) (gen:=20) (ematch:=20) [nf,tf]
 · grind (splits:=60) (gen:=20) (ematch:=20) [nf,tf]
 · grind (splits:=60) (gen:=20) (ematch:=20) [nf,tf]
theorem q4_pqrs {t:Nat->Nat} {p q r s:Nat} (h:Q4 t p q r s) (e:t p=q) (n:t r=s):nf t p q+nf (tf t p q) r s=2/\nf t q r+nf (tf t q r) s p=1/\∀ v,tf (tf t p q) r s v=tf (tf t q r) s p v:=by
 obtain⟨h1,h2,h3,h4,h5,h6,h7,h8,h9,h10,h11,h12,h13,h14,h15,h16,h17,h18⟩:=h
 refine⟨?_,?_,fun v=>?_⟩
 · grind (splits:=60) (gen:=20) (ematch:=20) [nf,tf]
 · grind (splits:=60) (gen:=20) (ematch:=20) [nf,tf]
 · grind (splits:=60) (gen:=20) (ematch:=20) [nf,tf]
theorem q4_qr {t:Nat->Nat} {p q r s:Nat} (h:Q4 t p q r s) (e:t q=r) (n:¬ t s=p):nf t p q+nf (tf t p q) r s=0/\nf t q r+nf (tf t q r) s p=1/\∀ v,tf (tf t p q) r s v=tf (tf t q r) s p v:=by
 obtain⟨h1,h2,h3,h4,h5,h6,h7,h8,h9,h10,h11,h12,h13,h14,h15,h16,h17,h18⟩:=h
 refine⟨?_,?_,fun v=>?_⟩
 · grind (splits:=60) (gen:=20) (ematch:=20) [nf,tf]
 · grind (splits:=60) (gen:=20) (ematch:=20) [nf,tf]
 · grind (splits:=60) (gen:=20) (ematch:=20) [nf,tf]
theorem q4_sp {t:Nat->Nat} {p q r s:Nat} (h:Q4 t p q r s) (e:t s=p) (n:¬ t q=r):nf t p q+nf (tf t p q) r s=0/\nf t q r+nf (tf t q r) s p=1/\∀ v,tf (tf t p q) r s v=tf (tf t q r) s p v:=by
 obtain⟨h1,h2,h3,h4,h5,h6,h7,h8,h9,h10,h11,h12,h13,h14,h15,h16,h17,h18⟩:=h
 refine⟨?_,?_,fun v=>?_⟩
 · grind (splits:=60) (gen:=20) (ematch:=20) [nf,tf]
 · grind (splits:=60) (gen:=20) (ematch:=20) [nf,tf]
 · grind (splits:=60) (gen:=20) (ematch:=20) [nf,tf]
theorem q4_qrsp {t:Nat->Nat} {p q r s:Nat} (h:Q4 t p q r s) (e:t q=r) (n:t s=p):nf t p q+nf (tf t p q) r s=1/\nf t q r+nf (tf t q r) s p=2/\∀ v,tf (tf t p q) r s v=tf (tf t q r) s p v:=by
 obtain⟨h1,h2,h3,h4,h5,h6,h7,h8,h9,h10,h11,h12,h13,h14,h15,h16,h17,h18⟩:=h
 refine⟨?_,?_,fun v=>?_⟩
 · grind (splits:=60) (gen:=20) (ematch:=20) [nf,tf]
 · grind (splits:=60) (gen:=20) (ematch:=20) [nf,tf]
 · grind (splits:=60) (gen:=20) (ematch:=20) [nf,tf]
theorem q4_x {t:Nat->Nat} {p q r s:Nat} (h:Q4 t p q r s) (a:¬ t p=q) (b:¬ t q=r) (c:¬ t r=s) (_d:¬ t s=p) (e:t p=r) (f:t q=s):nf t p q+nf (tf t p q) r s=1/\nf t q r+nf (tf t q r) s p=1:=by
 obtain⟨h1,h2,h3,h4,h5,h6,h7,h8,h9,h10,h11,h12,h13,h14,h15,h16,h17,h18⟩:=h
 refine⟨?_,?_⟩
 · grind (splits:=60) (gen:=20) (ematch:=20) [nf,tf]
 · grind (splits:=60) (gen:=20) (ematch:=20) [nf,tf]
theorem q4_0 {t:Nat->Nat} {p q r s:Nat} (h:Q4 t p q r s) (a:¬ t p=q) (b:¬ t q=r) (c:¬ t r=s) (_d:¬ t s=p) (e:¬ (t p=r/\t q=s)):nf t p q+nf (tf t p q) r s=0/\nf t q r+nf (tf t q r) s p=0:=by
 obtain⟨h1,h2,h3,h4,h5,h6,h7,h8,h9,h10,h11,h12,h13,h14,h15,h16,h17,h18⟩:=h
 refine⟨?_,?_⟩
 · grind (splits:=60) (gen:=20) (ematch:=20) [nf,tf]
 · grind (splits:=60) (gen:=20) (ematch:=20) [nf,tf]
theorem tf_congr {f g:Nat->Nat} {x y v:Nat} (hx:f x=g x) (hy:f y=g y) (hv:f v=g v):tf f x y v=tf g x y v:=by
 unfold tf;rw[hx,hy,hv]
theorem Tied.q4 {T : List Nat} {dg W : Nat → Nat} (h : Tied T dg W) {p q r s : Nat} (hp : 1 ≤ p ∧ p < 26) (hq : 1 ≤ q ∧ q < 26) (hr : 1 ≤ r ∧ r < 26) (hs : 1 ≤ s ∧ s < 26)
    (hd:∀ v,dg v+((if p=v then 1 else 0)+(if q=v then 1 else 0)+(if r=v then 1 else 0)+(if s=v then 1 else 0))<=2):Q4 (fun v=>T.getD v 0) p q r s:=by
 have one:∀ x,1<=x->x<26->dg x<=1->T.getD (T.getD x 0) 0=x/\1<=T.getD x 0:=fun x h1 h2 h3=>by
  by_cases h0:dg x=0
  · have:=h.none x h2 h0
    rw[this,this];exact⟨rfl,h1⟩
  · have:=h.one x h1 h2 (by omega)
    exact⟨this.2.2.2.1,this.2.1⟩
 have non:∀ x,x<26->dg x=0->T.getD x 0=x:=fun x h2 h3=>h.none x h2 h3
 have dp:=hd p
 have dq:=hd q
 have dr:=hd r
 have ds:=hd s
 simp only[if_pos]at dp dq dr ds
 refine⟨(one p hp.1 hp.2 (by omega)).1,(one q hq.1 hq.2 (by omega)).1,(one r hr.1 hr.2 (by omega)).1,(one s hs.1 hs.2 (by omega)).1,⟨hp.1,(one p hp.1 hp.2 (by omega)).2⟩,⟨hq.1,(one q hq.1 hq.2 (by omega)).2⟩,⟨hr.1,(one r hr.1 hr.2 (by omega)).2⟩,⟨hs.1,(one s hs.1 hs.2 (by omega)).2⟩,?_,?_,?_,?_,?_,?_,?_,?_,?_,?_⟩
 · intro e;refine non p hp.2 ?_;rw[if_pos e.symm]at dp;omega
 · intro e;refine non p hp.2 ?_;rw[if_pos e.symm]at dp;omega
 · intro e;refine non p hp.2 ?_;rw[if_pos e.symm]at dp;omega
 · intro e;refine non q hq.2 ?_;rw[if_pos e.symm]at dq;omega
 · intro e;refine non q hq.2 ?_;rw[if_pos e.symm]at dq;omega
 · intro e;refine non r hr.2 ?_;rw[if_pos e.symm]at dr;omega
 · rintro⟨e1,e2⟩;rw[if_pos e1.symm,if_pos (by omega:r=p)]at dp;omega
 · rintro⟨e1,e2⟩;rw[if_pos e1.symm,if_pos (by omega:s=p)]at dp;omega
 · rintro⟨e1,e2⟩;rw[if_pos e1.symm,if_pos (by omega:s=p)]at dp;omega
 · rintro⟨e1,e2⟩;rw[if_pos e1.symm,if_pos (by omega:s=q)]at dq;omega
theorem t4_at {T : List Nat} {dg W : Nat → Nat} (h : Tied T dg W) {p q r s : Nat} (hp : 1 ≤ p ∧ p < 26) (hq : 1 ≤ q ∧ q < 26) (hr : 1 ≤ r ∧ r < 26) (hs : 1 ≤ s ∧ s < 26)
    (hd:∀ v,dg v+((if p=v then 1 else 0)+(if q=v then 1 else 0)+(if r=v then 1 else 0)+(if s=v then 1 else 0))<=2):
    (tieT (tieT T p q) r s).length=26/\(∀ v,v<26->(tieT (tieT T p q) r s).getD v 0=tf (tf (fun v=>T.getD v 0) p q) r s v)/\tieN T p q+tieN (tieT T p q) r s=nf (fun v=>T.getD v 0) p q+nf (tf (fun v=>T.getD v 0) p q) r s:=by
 have dp:=hd p
 have dq:=hd q
 have h1:Tied (tieT T p q) (dgm dg p q) (lab W p q):=by
  refine h.tie hp.1 hp.2 hq.1 hq.2 ?_ ?_
  · simp only[if_pos]at dp
    by_cases e:p=q
    · rw[if_pos e.symm]at dp;rw[if_pos e];omega
    · rw[if_neg e];omega
  · simp only[if_pos]at dq;omega
 have e1:∀ v,v<26->(tieT T p q).getD v 0=tf (fun v=>T.getD v 0) p q v:=fun v hv=>tieT_at h p q v hv
 refine⟨by rw[tieT_len,tieT_len];exact h.len,fun v hv=>?_,?_⟩
 · rw[tieT_at h1 r s v hv]
   exact tf_congr (f:=fun v=>(tieT T p q).getD v 0) (e1 r hr.2) (e1 s hs.2) (e1 v hv)
 · have : tieN (tieT T p q) r s = nf (tf (fun v => T.getD v 0) p q) r s := by
     unfold tieN nf;rw[e1 r hr.2]
   rw[this];rfl
theorem getD_ext26 {S T:List Nat} (hs:S.length=26) (ht:T.length=26) (h:∀ v,v<26->S.getD v 0=T.getD v 0):S=T:=by
 refine List.ext_getElem (by omega) fun i h1 h2=>?_
 have:=h i (by omega)
 rw[List.getD_eq_getElem?_getD,List.getD_eq_getElem?_getD,List.getElem?_eq_getElem h1,List.getElem?_eq_getElem h2]at this
 exact this
theorem tied_both {T : List Nat} {dg W : Nat → Nat} (h : Tied T dg W) {p q r s : Nat} (hp : 1 ≤ p ∧ p < 26) (hq : 1 ≤ q ∧ q < 26) (hr : 1 ≤ r ∧ r < 26) (hs : 1 ≤ s ∧ s < 26)
    (hd:∀ v,dg v+((if p=v then 1 else 0)+(if q=v then 1 else 0)+(if r=v then 1 else 0)+(if s=v then 1 else 0))<=2):
    (tieN T p q+tieN (tieT T p q) r s=0/\tieN T q r+tieN (tieT T q r) s p=0)∨(tieN T p q+tieN (tieT T p q) r s=1/\tieN T q r+tieN (tieT T q r) s p=1/\T.getD p 0=r)∨
    (tieT (tieT T p q) r s = tieT (tieT T q r) s p ∧ ((tieN T p q + tieN (tieT T p q) r s = 1 ∧ tieN T q r + tieN (tieT T q r) s p = 0) ∨ (tieN T p q + tieN (tieT T p q) r s = 0 ∧ tieN T q r + tieN (tieT T q r) s p = 1) ∨
     (tieN T p q+tieN (tieT T p q) r s=2/\tieN T q r+tieN (tieT T q r) s p=1/\T.getD p 0=q)∨(tieN T p q+tieN (tieT T p q) r s=1/\tieN T q r+tieN (tieT T q r) s p=2/\T.getD s 0=p))):=by
 have k:=h.q4 hp hq hr hs hd
 obtain⟨la,ta,na⟩:=t4_at h hp hq hr hs hd
 obtain⟨lb,tb,nb⟩:=t4_at h hq hr hs hp (fun v=>by have:=hd v;omega)
 have ex:(∀ v,tf (tf (fun v=>T.getD v 0) p q) r s v=tf (tf (fun v=>T.getD v 0) q r) s p v)->tieT (tieT T p q) r s=tieT (tieT T q r) s p:=fun e=>getD_ext26 la lb fun v hv=>by rw[ta v hv,tb v hv];exact e v
 rw[na,nb]
 by_cases c1:T.getD p 0=q<;>by_cases c2:T.getD r 0=s
 · obtain⟨a,b,c⟩:=q4_pqrs k c1 c2
   exact Or.inr (Or.inr ⟨ex c,Or.inr (Or.inr (Or.inl ⟨a,b,c1⟩))⟩)
 · obtain⟨a,b,c⟩:=q4_pq k c1 c2
   exact Or.inr (Or.inr ⟨ex c,Or.inl ⟨a,b⟩⟩)
 · obtain⟨a,b,c⟩:=q4_rs k c2 c1
   exact Or.inr (Or.inr ⟨ex c,Or.inl ⟨a,b⟩⟩)
 · by_cases c3:T.getD q 0=r<;>by_cases c4:T.getD s 0=p
   · obtain⟨a,b,c⟩:=q4_qrsp k c3 c4
     exact Or.inr (Or.inr ⟨ex c,Or.inr (Or.inr (Or.inr ⟨a,b,c4⟩))⟩)
   · obtain⟨a,b,c⟩:=q4_qr k c3 c4
     exact Or.inr (Or.inr ⟨ex c,Or.inr (Or.inl ⟨a,b⟩)⟩)
   · obtain⟨a,b,c⟩:=q4_sp k c4 c3
     exact Or.inr (Or.inr ⟨ex c,Or.inr (Or.inl ⟨a,b⟩)⟩)
   · by_cases c5:T.getD p 0=r/\T.getD q 0=s
     · obtain⟨a,b⟩:=q4_x k c1 c3 c2 c4 c5.1 c5.2
       exact Or.inr (Or.inl ⟨a,b,c5.1⟩)
     · obtain⟨a,b⟩:=q4_0 k c1 c3 c2 c4 c5
       exact Or.inl ⟨a,b⟩
end Go.Proofs.YtbobljddklldjaaGreatDoor

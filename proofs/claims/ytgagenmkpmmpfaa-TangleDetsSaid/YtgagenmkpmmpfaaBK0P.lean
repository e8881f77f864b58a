/- Several texts of the proof, one behind the other. -/

/- Sums over states; polynomials as functions: what rings are worth. -/
namespace Go.Proofs.Ytgagenmkpmmpfaa
def sumS:Nat->(Nat->Int)->Int
 |0,_=>0
 |n+1,g=>sumS n g+g n
theorem sumS_congr {n:Nat} {f g:Nat->Int} (h:∀ s,s<n->f s=g s):sumS n f=sumS n g:=by
 induction n with
 |zero=>rfl
 |succ n ih=>
  show sumS n f+f n=sumS n g+g n
  rw[ih fun s hs=>h s (by omega),h n (by omega)]
theorem sumS_add (n:Nat) (f g:Nat->Int):sumS n (fun s=>f s+g s)=sumS n f+sumS n g:=by
 induction n with
 |zero=>rfl
 |succ n ih=>
  show sumS n (fun s=>f s+g s)+(f n+g n)=sumS n f+f n+(sumS n g+g n)
  rw[ih];omega
theorem sumS_zero (n:Nat):sumS n (fun _=>0)=0:=by
 induction n with
 |zero=>rfl
 |succ n ih=>show sumS n (fun _=>0)+0=0;rw[ih];rfl
def dlA (f:Int->Int):Int->Int:=fun y => - f (y+2)-f (y-2)
def oneAb:Int->Int:=fun y=>if y=0 then 1 else 0
def InA (f:Int->Int) (K:Nat):Prop:=∀ y,f y≠0 -> -(K:Int)<=y/\y<=K
theorem InA.dl {f:Int->Int} {K:Nat} (h:InA f K):InA (dlA f) (K+2):=by
 intro y hy
 by_cases h1:f (y+2)=0
 · have h2:f (y-2)≠0:=fun e=>hy (by unfold dlA;rw[h1,e];rfl)
   have:=h _ h2;omega
 · have:=h _ h1;omega
theorem InA.one:InA oneAb 0:=by
 intro y hy
 unfold oneAb at hy
 split at hy
 · omega
 · exact absurd rfl hy
end Go.Proofs.Ytgagenmkpmmpfaa
/- Plain mathematics of polynomials as lists of pairs (exponent, coefficient): which may be handed in. No program is named here. -/
namespace Go.Proofs.Ytgagenmkpmmpfaa.Poly
def okB (l:List (Int×Int)) (i:Nat):Bool:=
 decide (-1000<=(l.getD i (0,0)).1)&&decide ((l.getD i (0,0)).1<=1000)&&decide (-1000000<=(l.getD i (0,0)).2)&&decide ((l.getD i (0,0)).2<=1000000)&&
 !decide ((l.getD i (0,0)).2=0)&&(decide (i=0)||decide ((l.getD (i-1) (0,0)).1<(l.getD i (0,0)).1))
def mayB (l:List (Int×Int)):Bool:=decide (l.length<=64)&&(List.range l.length).all (okB l)
theorem okB_iff (l:List (Int×Int)) (i:Nat):okB l i=true ↔ -1000<=(l.getD i (0,0)).1/\(l.getD i (0,0)).1<=1000 /\ -1000000<=(l.getD i (0,0)).2/\(l.getD i (0,0)).2<=1000000/\(l.getD i (0,0)).2≠0/\(0<i->(l.getD (i-1) (0,0)).1<(l.getD i (0,0)).1):=by
 unfold okB
 simp only[Bool.and_eq_true,decide_eq_true_eq,Bool.or_eq_true,Bool.not_eq_true',decide_eq_false_iff_not]
 constructor
 · rintro⟨⟨⟨⟨⟨a,b⟩,c⟩,d⟩,e⟩,f⟩
   exact⟨a,b,c,d,e,fun h=>by rcases f with f|f;omega;exact f⟩
 · rintro⟨a,b,c,d,e,f⟩
   refine⟨⟨⟨⟨⟨a,b⟩,c⟩,d⟩,e⟩,?_⟩
   by_cases h:i=0
   · exact Or.inl h
   · exact Or.inr (f (by omega))
theorem may_iff (l:List (Int×Int)):mayB l=true↔l.length<=64/\∀ i,i<l.length->okB l i=true:=by
 unfold mayB
 simp[List.all_eq_true]
theorem may_no (l:List (Int×Int)) (i:Nat) (hi:i<l.length) (h:okB l i=false):mayB l=false:=by
 cases hm:mayB l with
 |false=>rfl
 |true=>have:=((may_iff l).1 hm).2 i hi;rw[h]at this;cases this
theorem may_long (l:List (Int×Int)) (h:64<l.length):mayB l=false:=by
 cases hm:mayB l with
 |false=>rfl
 |true=>have:=((may_iff l).1 hm).1;omega
theorem may_yes (l:List (Int×Int)) (hl:l.length<=64) (h:∀ i,i<l.length->okB l i=true):mayB l=true:=(may_iff l).2 ⟨hl,h⟩
theorem okB_no1 {l:List (Int×Int)} {i:Nat} {e:Int} (he:(l.getD i (0,0)).1=e) (h:e < -1000):okB l i=false:=by
 cases hm:okB l i with
 |false=>rfl
 |true=>have:=(okB_iff l i).1 hm;omega
theorem okB_no2 {l:List (Int×Int)} {i:Nat} {e:Int} (he:(l.getD i (0,0)).1=e) (h:1000<e):okB l i=false:=by
 cases hm:okB l i with
 |false=>rfl
 |true=>have:=(okB_iff l i).1 hm;omega
theorem okB_no3 {l:List (Int×Int)} {i:Nat} {c:Int} (hc:(l.getD i (0,0)).2=c) (h:c < -1000000):okB l i=false:=by
 cases hm:okB l i with
 |false=>rfl
 |true=>have:=(okB_iff l i).1 hm;omega
theorem okB_no4 {l:List (Int×Int)} {i:Nat} {c:Int} (hc:(l.getD i (0,0)).2=c) (h:1000000<c):okB l i=false:=by
 cases hm:okB l i with
 |false=>rfl
 |true=>have:=(okB_iff l i).1 hm;omega
theorem okB_no5 {l:List (Int×Int)} {i:Nat} {c:Int} (hc:(l.getD i (0,0)).2=c) (h:c=0):okB l i=false:=by
 cases hm:okB l i with
 |false=>rfl
 |true=>have:=(okB_iff l i).1 hm;omega
theorem okB_no6 {l:List (Int×Int)} {i:Nat} {e p:Int} (he:(l.getD i (0,0)).1=e) (hp:(l.getD (i-1) (0,0)).1=p) (h0:0<i) (h:e<=p):okB l i=false:=by
 cases hm:okB l i with
 |false=>rfl
 |true=>have:=(okB_iff l i).1 hm;have:=this.2.2.2.2.2 h0;omega
theorem okB_yes {l : List (Int × Int)} {i : Nat} {e c : Int} (he : (l.getD i (0, 0)).1 = e) (hc : (l.getD i (0, 0)).2 = c) (a : ¬ e < -1000) (b : ¬ 1000 < e) (d : ¬ c < -1000000) (f : ¬ 1000000 < c) (g : ¬ c = 0)
    (hp:0<i->(l.getD (i-1) (0,0)).1<e):okB l i=true:=
 (okB_iff l i).2 ⟨by omega,by omega,by omega,by omega,by omega,fun h=>by have:=hp h;omega⟩
end Go.Proofs.Ytgagenmkpmmpfaa.Poly
/- Polynomials in form, as lists: exponents rise, no coefficient is 0; such a list is told by its coefficients. Plain mathematics: no program is named here. -/
namespace Go.Proofs.Ytgagenmkpmmpfaa.Poly
def Canon (l:List (Int×Int)) (f:Int->Int):Prop:=l.Pairwise (fun a b=>a.1<b.1)/\∀ x c,(x,c)∈l↔(f x=c/\c≠0)
theorem canon_unique:∀ {l m:List (Int×Int)} {f:Int->Int},Canon l f->Canon m f->l=m:=by
 intro l
 induction l with
 |nil=>
  intro m f h1 h2
  cases m with
  |nil=>rfl
  |cons b m=>
   have:=(h1.2 b.1 b.2).2 ((h2.2 b.1 b.2).1 (by simp))
   cases this
 |cons a l ih=>
  intro m f h1 h2
  cases m with
  |nil=>
   have:=(h2.2 a.1 a.2).2 ((h1.2 a.1 a.2).1 (by simp))
   cases this
  |cons b m=>
   have ha:a∈b::m:=(h2.2 a.1 a.2).2 ((h1.2 a.1 a.2).1 (by simp))
   have hb:b∈a::l:=(h1.2 b.1 b.2).2 ((h2.2 b.1 b.2).1 (by simp))
   have s1:=List.pairwise_cons.1 h1.1
   have s2:=List.pairwise_cons.1 h2.1
   have hab:a=b:=by
    rcases List.mem_cons.1 ha with h|h
    · exact h
    · rcases List.mem_cons.1 hb with h'|h'
      · exact h'.symm
      · have q1:=s1.1 b h'
        have q2:=s2.1 a h
        omega
   subst hab
   congr 1
   -- the tails: both in form for f struck at a's exponent
   refine ih (f:=fun x=>if x=a.1 then 0 else f x) ⟨s1.2,fun x c=>?_⟩ ⟨s2.2,fun x c=>?_⟩
   · have h:=h1.2 x c
     by_cases hx:x=a.1
     · subst hx
       simp only[if_true]
       constructor
       · intro hm
         have:=s1.1 _ hm
         simp at this
       · rintro⟨rfl,hc⟩
         exact absurd rfl hc
     · simp only[if_neg hx]
       rw[<-h]
       constructor
       · intro hm
         exact List.mem_cons_of_mem _ hm
       · intro hm
         rcases List.mem_cons.1 hm with h'|h'
         · exact absurd (by rw[<-h']) hx
         · exact h'
   · have h:=h2.2 x c
     by_cases hx:x=a.1
     · subst hx
       simp only[if_true]
       constructor
       · intro hm
         have:=s2.1 _ hm
         simp at this
       · rintro⟨rfl,hc⟩
         exact absurd rfl hc
     · simp only[if_neg hx]
       rw[<-h]
       constructor
       · intro hm
         exact List.mem_cons_of_mem _ hm
       · intro hm
         rcases List.mem_cons.1 hm with h'|h'
         · exact absurd (by rw[<-h']) hx
         · exact h'
theorem canon_congr {l:List (Int×Int)} {f g:Int->Int} (h:Canon l f) (e:∀ x,f x=g x):Canon l g:=⟨h.1,fun x c=>by rw[h.2,e]⟩
theorem rising_of {l acc:List (Int×Int)} (hp:l.Perm acc) (hs:l.Pairwise (fun a b=>a.1<=b.1)) (hn:acc.Pairwise (fun a b=>a.1≠b.1)):l.Pairwise (fun a b=>a.1<b.1):=by
 have hn':l.Pairwise (fun a b=>a.1≠b.1):=(hp.pairwise_iff (fun {a b} h=>Ne.symm h)).2 hn
 have:=hs.and hn'
 exact this.imp fun⟨h1,h2⟩=>by omega
def coefL:List (Int×Int)->Int->Int
 |[],_=>0
 |t::ts,x=>(if t.1=x then t.2 else 0)+coefL ts x
theorem coefL_append (a b:List (Int×Int)) (x:Int):coefL (a++b) x=coefL a x+coefL b x:=by
 induction a with
 |nil=>simp[coefL]
 |cons t a ih=>simp only[List.cons_append,coefL,ih];omega
theorem coefL_take (ts:List (Int×Int)) (k:Nat) (hk:k<ts.length) (x:Int):coefL (ts.take (k+1)) x=coefL (ts.take k) x+(if(ts.getD k (0,0)).1=x then(ts.getD k (0,0)).2 else 0):=by
 rw[List.take_succ_eq_append_getElem hk,coefL_append]
 have g:ts.getD k (0,0)=ts[k]:=by simp[List.getD,hk]
 rw[g]
 simp[coefL]
theorem coefL_le (ts:List (Int×Int)) (M x:Int) (h:∀ t∈ts,-M<=t.2/\t.2<=M) (hM:0<=M) : -(M*ts.length)<=coefL ts x/\coefL ts x<=M*ts.length:=by
 induction ts with
 |nil=>simp[coefL]
 |cons t ts ih=>
  have h1:=ih fun t ht=>h t (List.mem_cons_of_mem _ ht)
  have h2:=h t (by simp)
  simp only[coefL,List.length_cons]
  have e:M*((ts.length+1:Nat):Int)=M*ts.length+M:=by rw[Int.natCast_add,Int.mul_add];simp
  rw[e]
  split<;>omega
theorem coefL_zero (ts:List (Int×Int)) (x:Int) (h:∀ t∈ts,t.1≠x):coefL ts x=0:=by
 induction ts with
 |nil=>rfl
 |cons t ts ih=>
  simp only[coefL]
  rw[if_neg (h t (by simp)),ih fun t ht=>h t (List.mem_cons_of_mem _ ht)]
  rfl
theorem coefL_mem {ts:List (Int×Int)} (hn:ts.Pairwise (fun a b=>a.1≠b.1)) (hz:∀ t∈ts,t.2≠0) (x c:Int):(x,c)∈ts↔(coefL ts x=c/\c≠0):=by
 induction ts with
 |nil=>
  simp only[List.not_mem_nil,false_iff,coefL]
  rintro⟨rfl,h⟩
  exact h rfl
 |cons t ts ih=>
  have hp:=List.pairwise_cons.1 hn
  have ih:=ih hp.2 fun t ht=>hz t (List.mem_cons_of_mem _ ht)
  simp only[coefL,List.mem_cons]
  by_cases hx:t.1=x
  · subst hx
    have h0:=coefL_zero ts t.1 fun s hs=>(hp.1 s hs).symm
    rw[if_pos rfl,h0,Int.add_zero]
    constructor
    · rintro(h|h)
      · have hc:c=t.2:=congrArg Prod.snd h
        rw[hc];exact⟨rfl,hz t (by simp)⟩
      · exact absurd rfl (hp.1 (t.1,c) h)
    · rintro⟨rfl,_⟩
      exact Or.inl rfl
  · rw[if_neg hx,Int.zero_add,<-ih]
    constructor
    · rintro(h|h)
      · exact absurd (by rw[<-h]) hx
      · exact h
    · exact Or.inr
theorem canon_self {l:List (Int×Int)} (hs:l.Pairwise (fun a b=>a.1<b.1)) (hz:∀ t∈l,t.2≠0):Canon l (coefL l):=
 ⟨hs,fun x c=>coefL_mem (hs.imp fun h=>by omega) hz x c⟩
end Go.Proofs.Ytgagenmkpmmpfaa.Poly
/- A term put into a list in form: plain mathematics. -/
namespace Go.Proofs.Ytgagenmkpmmpfaa.Poly
def ahead (l:List (Int×Int)) (e:Int):Nat:=(l.takeWhile fun t=>decide (t.1<e)).length
end Go.Proofs.Ytgagenmkpmmpfaa.Poly

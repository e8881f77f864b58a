/- Several texts of the proof, one behind the other. -/
import Derived.Test.YtgagenmkpmmpfaaAS5P
import Derived.Test.YtgagenmkpmmpfaaTD1
import Derived.Test.YtgagenmkpmmpfaaF1P
import Derived.Test.YtgagenmkpmmpfaaAS0P
/- The arcs of a tangle by its spots, and those of its link; plain mathematics. -/
namespace Go.Proofs.Ytgagenmkpmmpfaa
def Tel (D:Nat->Prop) (T N:Nat->Nat):Prop:=∀ x y,D x->D y->(N x=N y↔x=y∨x=T y)
theorem lead_tel {D : Nat → Prop} {T N N' : Nat → Nat} {e i o z : Nat} (h : Invo D T) (hN : Tel D T N) (he : D e) (hi : ¬ D i) (ho : ¬ D o) (hio : i ≠ o) (hz : ∀ x, D x → N x ≠ z) (v1 : N' i = N e) (v2 : N' o = z) (v3 : N' e = z) (v4 : ∀ x, D x → x ≠ e → N' x = N x) :
    Tel (fun x=>x=i∨x=o∨D x) (leadF T e i o) N':=by
 have hTe:=h.sp e he
 have n1:T e≠e:=h.ne e he
 have n2:e≠i:=fun h0=>hi (h0▸he)
 have n3:e≠o:=fun h0=>ho (h0▸he)
 have n4:T e≠i:=fun h0=>hi (h0▸hTe)
 have n5:T e≠o:=fun h0=>ho (h0▸hTe)
 have v:∀ x,leadF T e i o x=if x=o then e else if x=e then o else if x=i then T e else if x=T e then i else T x:=fun x=>rfl
 have vo:leadF T e i o o=e:=by rw[v,if_pos rfl]
 have ve:leadF T e i o e=o:=by rw[v,if_neg n3,if_pos rfl]
 have vi:leadF T e i o i=T e:=by rw[v,if_neg hio,if_neg (Ne.symm n2),if_pos rfl]
 have key:∀ x,(x=i∨x=o∨D x)->((x=o∨x=e)/\N' x=z)∨(x≠o/\x≠e/\∃ u,D u/\N' x=N u/\N' x≠z/\((x=i/\u=e)∨(D x/\u=x))):=fun x hx=>by
  rcases hx with rfl|rfl|hx
  · exact Or.inr ⟨hio,Ne.symm n2,e,he,v1,by rw[v1];exact hz e he,Or.inl ⟨rfl,rfl⟩⟩
  · exact Or.inl ⟨Or.inl rfl,v2⟩
  · by_cases q:x=e
    · exact Or.inl ⟨Or.inr q,by rw[q,v3]⟩
    · exact Or.inr ⟨fun h0=>ho (h0▸hx),q,x,hx,v4 x hx q,by rw[v4 x hx q];exact hz x hx,Or.inr ⟨hx,rfl⟩⟩
 have vd:∀ y,D y->y≠e->leadF T e i o y=if y=T e then i else T y:=fun y hy hye=>by
  have a1:y≠o:=fun h0=>ho (h0▸hy)
  have a2:y≠i:=fun h0=>hi (h0▸hy)
  rw[v,if_neg a1,if_neg hye,if_neg a2]
 intro x y hx hy
 rcases key x hx with⟨x1,x2⟩|⟨x1,x2,u,x3,x4,x5,x6⟩<;>rcases key y hy with⟨y1,y2⟩|⟨y1,y2,w,y3,y4,y5,y6⟩
 · rw[x2,y2]
   refine⟨fun _=>?_,fun _=>rfl⟩
   rcases x1 with rfl|rfl<;>rcases y1 with rfl|rfl
   · exact Or.inl rfl
   · exact Or.inr ve.symm
   · exact Or.inr vo.symm
   · exact Or.inl rfl
 · rw[x2]
   refine⟨fun q=>absurd q.symm y5,fun q=>?_⟩
   exfalso
   have k:leadF T e i o y≠o/\leadF T e i o y≠e:=by
    rcases y6 with⟨rfl,-⟩|⟨hd,-⟩
    · rw[vi];exact⟨n5,n1⟩
    · rw[vd y hd y2]
      by_cases q:y=T e
      · rw[if_pos q];exact⟨hio,Ne.symm n2⟩
      · rw[if_neg q]
        exact⟨fun h0=>ho (h0▸h.sp y hd),fun h0=>q (by rw[<-h0,h.inv y hd])⟩
   rcases q with rfl|rfl
   · exact x1.elim y1 y2
   · exact x1.elim k.1 k.2
 · rw[y2]
   refine⟨fun q=>absurd q x5,fun q=>?_⟩
   exfalso
   rcases q with rfl|rfl
   · exact y1.elim x1 x2
   · rcases y1 with rfl|rfl
     · rw[vo]at x2;exact x2 rfl
     · rw[ve]at x1;exact x1 rfl
 · rw[x4,y4,hN u w x3 y3]
   rcases x6 with⟨rfl,rfl⟩|⟨hd,rfl⟩<;>rcases y6 with⟨rfl,rfl⟩|⟨hd',rfl⟩
   · exact⟨fun _=>Or.inl rfl,fun _=>Or.inl rfl⟩
   · rw[vd w hd' y2]
     by_cases q:w=T u
     · rw[if_pos q]
       exact⟨fun _=>Or.inr rfl,fun _=>Or.inr (by rw[q,h.inv u he])⟩
     · rw[if_neg q]
       constructor
       · rintro(r|r)
         · exact absurd r.symm y2
         · exact absurd (by rw[r,h.inv w hd']) q
       · rintro(r|r)
         · exact absurd (r▸hd') hi
         · exact absurd (r▸h.sp w hd') hi
   · rw[vi]
     constructor
     · rintro(r|r)
       · exact absurd r x2
       · exact Or.inr r
     · rintro(r|r)
       · exact absurd (r▸hd) hi
       · exact Or.inr r
   · rw[vd w hd' y2]
     by_cases q:w=T e
     · rw[if_pos q]
       constructor
       · rintro(r|r)
         · exact Or.inl r
         · rw[q,h.inv e he]at r;exact absurd r x2
       · rintro(r|r)
         · exact Or.inl r
         · exact absurd (r▸hd) hi
     · rw[if_neg q]
theorem Invo.inj' {D:Nat->Prop} {T:Nat->Nat} (h:Invo D T) {x y:Nat} (hx:D x) (hy:D y) (e:T x=T y):x=y:=by rw[<-h.inv x hx,e,h.inv y hy]
theorem Tel.congr {D D':Nat->Prop} {T N:Nat->Nat} (h:Tel D T N) (hD:∀ x,D' x->D x):Tel D' T N:=fun x y hx hy=>h x y (hD x hx) (hD y hy)
theorem jn_tel {D:Nat->Prop} {T N:Nat->Nat} {a b:Nat} (h:Invo D T) (hN:Tel D T N) (ha:D a) (hb:D b) (hab:a≠b):Tel (fun x=>D x/\x≠a/\x≠b) (jn T a b) (fun x=>if N x=N b then N a else N x):=by
 intro x y ⟨hx,xa,xb⟩ ⟨hy,ya,yb⟩
 show(if N x=N b then N a else N x)=(if N y=N b then N a else N y)↔_
 unfold jn
 by_cases e:T a=b
 · rw[if_pos e]
   have e1:N a=N b:=(hN a b ha hb).2 (Or.inr (by rw[<-e,h.inv a ha]))
   have nx:N x≠N b:=fun q=>by
    rcases(hN x b hx hb).1 q with r|r
    · exact xb r
    · rw[<-e,h.inv a ha]at r;exact xa r
   have ny:N y≠N b:=fun q=>by
    rcases(hN y b hy hb).1 q with r|r
    · exact yb r
    · rw[<-e,h.inv a ha]at r;exact ya r
   rw[if_neg nx,if_neg ny,hN x y hx hy]
 · rw[if_neg e]
   have n1:T a≠T b:=fun h0=>hab (by rw[<-h.inv a ha,h0,h.inv b hb])
   have v:∀ x,tieF T (T a) (T b) x=if x=T b then T a else if x=T a then T b else T x:=fun x=>rfl
   have kb:∀ x,D x->x≠b->(N x=N b↔x=T b):=fun x hx hxb=>by
    rw[hN x b hx hb];exact⟨fun q=>q.resolve_left hxb,Or.inr⟩
   have ka:∀ x,D x->x≠a->(N x=N a↔x=T a):=fun x hx hxa=>by
    rw[hN x a hx ha];exact⟨fun q=>q.resolve_left hxa,Or.inr⟩
   rw[v]
   by_cases q1:x=T b<;>by_cases q2:y=T b
   · rw[if_pos ((kb x hx xb).2 q1),if_pos ((kb y hy yb).2 q2)]
     exact⟨fun _=>Or.inl (q1.trans q2.symm),fun _=>rfl⟩
   · rw[if_pos ((kb x hx xb).2 q1),if_neg (fun z=>q2 ((kb y hy yb).1 z)),if_neg q2]
     constructor
     · intro z
       rw[if_pos ((ka y hy ya).1 z.symm)]
       exact Or.inr q1
     · rintro(z|z)
       · exact absurd (z▸q1) q2
       · by_cases q3:y=T a
         · exact((ka y hy ya).2 q3).symm
         · rw[if_neg q3]at z
           exact absurd (h.inj' hy hb (z.symm.trans q1)) yb
   · rw[if_neg (fun z=>q1 ((kb x hx xb).1 z)),if_pos ((kb y hy yb).2 q2),if_pos q2,ka x hx xa]
     exact⟨Or.inr,fun z=>z.resolve_left fun r=>q1 (r.trans q2)⟩
   · rw[if_neg (fun z=>q1 ((kb x hx xb).1 z)),if_neg (fun z=>q2 ((kb y hy yb).1 z)),if_neg q2,hN x y hx hy]
     by_cases q3:y=T a
     · rw[if_pos q3]
       constructor
       · rintro(z|z)
         · exact Or.inl z
         · rw[q3,h.inv a ha]at z;exact absurd z xa
       · rintro(z|z)
         · exact Or.inl z
         · exact absurd z q1
     · rw[if_neg q3]
end Go.Proofs.Ytgagenmkpmmpfaa
/- Numbers of a tangle's arcs at its spots; the link's arcs are classes of them; plain mathematics. -/
namespace Go.Proofs.Ytgagenmkpmmpfaa
def tT (st:Nat->Bool×Bool):Nat->(Nat->Nat)
 |0=>tie0
 |k+1=>stepT (tT st k) k (st k).1 (st k).2
def tN (st:Nat->Bool×Bool):Nat->Nat->Nat
 |0,x=>if x=0∨x=1 then 1 else 2
 | k + 1, x => if x = corT k (st k).2 0 then tN st k (tG (st k).1) else if x = corT k (st k).2 (tG (st k).1) ∨ x = tG (st k).1 then 2 * k + 3
     else if x=corT k (st k).2 (3-tG (st k).1) then tN st k 3 else if x=corT k (st k).2 3∨x=3 then 2*k+4 else tN st k x
theorem tG_two (b:Bool):tG b=1∨tG b=2:=by unfold tG;split<;>simp
theorem tN_next (st : Nat → Bool × Bool) (k x : Nat) : tN st (k + 1) x = if x = corT k (st k).2 0 then tN st k (tG (st k).1) else if x = corT k (st k).2 (tG (st k).1) ∨ x = tG (st k).1 then 2 * k + 3
      else if x=corT k (st k).2 (3-tG (st k).1) then tN st k 3 else if x=corT k (st k).2 3∨x=3 then 2*k+4 else tN st k x:=rfl
theorem cor_four (k:Nat) (up right:Bool):corT k up 0≠corT k up (tG right)/\corT k up 0≠corT k up (3-tG right)/\corT k up 0≠corT k up 3/\corT k up (tG right)≠corT k up (3-tG right)/\corT k up (tG right)≠corT k up 3/\corT k up (3-tG right)≠corT k up 3:=by
 cases up<;>cases right<;>simp[corT,sdOf,tG]
theorem tN_end (st:Nat->Bool×Bool):∀ k e,e<4->tN st k e=tE st k e
 |0,e,_=>rfl
 |k+1,e,he=>by
  have c0:=cor_ge k (st k).2 0
  have c1:=cor_ge k (st k).2 (tG (st k).1)
  have c2:=cor_ge k (st k).2 (3-tG (st k).1)
  have c3:=cor_ge k (st k).2 3
  have ih:=tN_end st k e he
  have f1:(e=corT k (st k).2 (tG (st k).1)∨e=tG (st k).1)↔e=tG (st k).1:=⟨fun z=>z.resolve_left (by omega),Or.inr⟩
  have f3:(e=corT k (st k).2 3∨e=3)↔e=3:=⟨fun z=>z.resolve_left (by omega),Or.inr⟩
  have te:tE st (k+1) e=if(st k).1=true then(if e=1 then 2*k+3 else if e=3 then 2*k+4 else tE st k e) else(if e=2 then 2*k+3 else if e=3 then 2*k+4 else tE st k e):=rfl
  rw[tN_next,te,if_neg (by omega)]
  simp only[f1,f3]
  rw[if_neg (show ¬ e=corT k (st k).2 (3-tG (st k).1) by omega),ih]
  unfold tG
  cases (st k).1
  · rfl
  · rfl
theorem tN_bd (st:Nat->Bool×Bool):∀ k x,1<=tN st k x/\tN st k x<=2*k+2
 |0,x=>by unfold tN;split<;>omega
 |k+1,x=>by
  have h1:=tN_bd st k (tG (st k).1)
  have h2:=tN_bd st k 3
  have h3:=tN_bd st k x
  rw[tN_next]
  split
  · omega
  · split
    · omega
    · split
      · omega
      · split<;>omega
theorem step_leads (T:Nat->Nat) (k:Nat) (right up:Bool):stepT T k right up=leadF (leadF T (tG right) (corT k up 0) (corT k up (tG right))) 3 (corT k up (3-tG right)) (corT k up 3):=by
 cases right<;>rfl
theorem tN_tel (st:Nat->Bool×Bool):∀ k,Invo (Dom k) (tT st k)/\Tel (Dom k) (tT st k) (tN st k)
 |0=>by
  refine⟨tie0_invo,fun x y hx hy=>?_⟩
  have key:∀ x,Dom 0 x->x=0∨x=1∨x=2∨x=3:=fun x hx=>by unfold Dom at hx;omega
  show((if x=0∨x=1 then 1 else 2)=(if y=0∨y=1 then 1 else 2)↔x=y∨x=tie0 y)
  rcases key x hx with rfl|rfl|rfl|rfl<;>rcases key y hy with rfl|rfl|rfl|rfl<;>decide
 |k+1=>by
  obtain⟨hI,hT⟩:=tN_tel st k
  refine⟨stepT_invo hI _ _,?_⟩
  show Tel (Dom (k+1)) (stepT (tT st k) k (st k).1 (st k).2) _
  obtain⟨d1,d2,d3,d4,d5,d6⟩:=cor_four k (st k).2 (st k).1
  have g:=tG_two (st k).1
  have c0:=cor_ge k (st k).2 0
  have c1:=cor_ge k (st k).2 (tG (st k).1)
  have c2:=cor_ge k (st k).2 (3-tG (st k).1)
  have c3:=cor_ge k (st k).2 3
  have nx:=tN_next st k
  have call:∀ x,Dom (k+1) x->x=corT k (st k).2 (3-tG (st k).1)∨x=corT k (st k).2 3∨x=corT k (st k).2 0∨x=corT k (st k).2 (tG (st k).1)∨Dom k x:=fun x hx=>by
   unfold Dom at hx ⊢
   rcases Nat.lt_or_ge x (4*k+4) with h|h
   · exact Or.inr (Or.inr (Or.inr (Or.inr h)))
   · have:=cor_all k (st k).2 x h (by omega)
     rcases g with g|g<;>simp only[g,Nat.reduceSub]<;>omega
  rw[step_leads]
  generalize (st k).2=up at*
  generalize tG (st k).1=gg at*
  generalize hA0:corT k up 0=A0 at*
  generalize hA1:corT k up gg=A1 at*
  generalize hA2:corT k up (3-gg)=A2 at*
  generalize hA3:corT k up 3=A3 at*
  have b:=tN_bd st k
  have hD:∀ x,Dom k x↔x<4*k+4:=fun x=>Iff.rfl
  have i1:=leadF_invo hI (e:=gg) (i:=A0) (o:=A1) (by rw[hD];omega) (by rw[hD];omega) (by rw[hD];omega) d1
  have t1:=lead_tel (N':=fun x=>if x=A0 then tN st k gg else if x=A1∨x=gg then 2*k+3 else tN st k x) (z:=2*k+3) hI hT (e:=gg) (i:=A0) (o:=A1) (by rw[hD];omega) (by rw[hD];omega) (by rw[hD];omega) d1 (fun x _=>by have:=b x;omega)
   (if_pos rfl) (by show(if A1=A0 then _ else _)=_;rw[if_neg (Ne.symm d1),if_pos (Or.inl rfl)]) (by show(if gg=A0 then _ else _)=_;rw[if_neg (by omega),if_pos (Or.inr rfl)])
   (fun x hx hne => by
    have hx:=(hD x).1 hx
    show(if x=A0 then _ else _)=_
    rw[if_neg (by omega),if_neg (by omega)])
  have t2:=lead_tel (N':=tN st (k+1)) (z:=2*k+4) i1 t1 (e:=3) (i:=A2) (o:=A3) (Or.inr (Or.inr (by rw[hD];omega))) (fun z=>by rw[hD]at z;omega) (fun z=>by rw[hD]at z;omega) d6
   (fun x _ => by
    show(if x=A0 then _ else _)≠_
    have h1:=b gg
    have h2:=b x
    split
    · omega
    · split<;>omega)
   (by
    rw[nx,if_neg (Ne.symm d2),if_neg (by omega),if_pos rfl]
    show _=(if 3=A0 then _ else _)
    rw[if_neg (by omega),if_neg (by omega)])
   (by rw[nx,if_neg (Ne.symm d3),if_neg (by omega),if_neg (Ne.symm d6),if_pos (Or.inl rfl)])
   (by rw[nx,if_neg (by omega),if_neg (by omega),if_neg (by omega),if_pos (Or.inr rfl)])
   (fun x hx hne => by
    rw[nx]
    show _=(if x=A0 then _ else _)
    have hx:x=A0∨x=A1∨x<4*k+4:=hx
    by_cases h1:x=A0
    · rw[if_pos h1,if_pos h1]
    · rw[if_neg h1,if_neg h1]
      by_cases h2:x=A1∨x=gg
      · rw[if_pos h2,if_pos h2]
      · rw[if_neg h2,if_neg h2,if_neg (by omega),if_neg (by omega)])
  exact t2.congr fun x hx=>call x hx
theorem tN_cor (st:Nat->Bool×Bool) (k:Nat):∀ m,k<m->tN st m (corT k (st k).2 0)=tE st k (tG (st k).1)/\tN st m (corT k (st k).2 (tG (st k).1))=2*k+3/\tN st m (corT k (st k).2 (3-tG (st k).1))=tE st k 3/\tN st m (corT k (st k).2 3)=2*k+4
 |0,h=>by omega
 |m+1,h=>by
  rcases Nat.lt_or_ge k m with q|q
  · have ih:=tN_cor st k m q
    have far:∀ c,tN st (m+1) (corT k (st k).2 c)=tN st m (corT k (st k).2 c):=fun c=>by
     have a1:=cor_ge k (st k).2 c
     have a2:=cor_lt k (st k).2 c
     have b0:=cor_ge m (st m).2 0
     have b1:=cor_ge m (st m).2 (tG (st m).1)
     have b2:=cor_ge m (st m).2 (3-tG (st m).1)
     have b3:=cor_ge m (st m).2 3
     have g:=tG_two (st m).1
     rw[tN_next,if_neg (by omega),if_neg (by omega),if_neg (by omega),if_neg (by omega)]
    rw[far,far,far,far]
    exact ih
  · obtain rfl:m=k:=by omega
    obtain⟨d1,d2,d3,d4,d5,d6⟩:=cor_four m (st m).2 (st m).1
    have g:=tG_two (st m).1
    have c1:=cor_ge m (st m).2 (tG (st m).1)
    have c2:=cor_ge m (st m).2 (3-tG (st m).1)
    have c3:=cor_ge m (st m).2 3
    rw[tN_next,tN_next,tN_next,tN_next,if_pos rfl,if_neg (Ne.symm d1),if_pos (Or.inl rfl),if_neg (Ne.symm d2),if_neg (by omega),if_pos rfl,if_neg (Ne.symm d3),if_neg (by omega),if_neg (Ne.symm d6),if_pos (Or.inl rfl)]
    exact⟨tN_end st m _ (by omega),rfl,tN_end st m 3 (by omega),rfl⟩
def tV (st:Nat->Bool×Bool) (n:Nat):Nat->Nat:=jn (jn (tT st n) 0 1) 2 3
def tM (st:Nat->Bool×Bool) (n:Nat) (v:Nat):Nat:=if v=tE st n 1 then tE st n 0 else v
def tW (st:Nat->Bool×Bool) (n:Nat) (v:Nat):Nat:=if tM st n v=tM st n (tE st n 3) then tM st n (tE st n 2) else tM st n v
theorem tV_tel (st:Nat->Bool×Bool) (n:Nat):Tel (SpT n) (tV st n) (fun x=>tW st n (tN st n x)):=by
 obtain⟨hI,hT⟩:=tN_tel st n
 have e0:=tN_end st n 0 (by omega)
 have e1:=tN_end st n 1 (by omega)
 have e2:=tN_end st n 2 (by omega)
 have e3:=tN_end st n 3 (by omega)
 have h1:=jn_tel hI hT (a:=0) (b:=1) (by unfold Dom;omega) (by unfold Dom;omega) (by decide)
 have i1:=jn_invo hI (a:=0) (b:=1) (by unfold Dom;omega) (by unfold Dom;omega) (by decide)
 have h2:=jn_tel i1 h1 (a:=2) (b:=3) ⟨by unfold Dom;omega,by decide,by decide⟩ ⟨by unfold Dom;omega,by decide,by decide⟩ (by decide)
 have h3:=h2.congr (D':=SpT n) fun x hx=>by unfold SpT at hx;unfold Dom;omega
 simp only[e0,e1,e2,e3]at h3
 exact h3
end Go.Proofs.Ytgagenmkpmmpfaa
/- A list's crossings, one behind the other; labels of its tangle's ends are its fraction; plain mathematics. -/
namespace Go.Proofs.Ytgagenmkpmmpfaa
def bkL (l:List Int):Nat->Nat->Nat
 |0,_=>0
 |i+1,k=>if szTo l i<=k then i else bkL l i k
def stL (l:List Int) (k:Nat):Bool×Bool:=(decide (bkL l l.length k%2=0),decide (0<l.getD (bkL l l.length k) 0))
theorem szTo_monoT (l:List Int):∀ {i j:Nat},i<=j->szTo l i<=szTo l j
 |i,0,h=>by rw[show i=0 by omega];exact Nat.le_refl _
 |i,j+1,h=>by
  rcases Nat.lt_or_ge i (j+1) with q|q
  · have:=szTo_monoT l (i:=i) (j:=j) (by omega)
    show szTo l i<=szTo l j+_
    omega
  · rw[show i=j+1 by omega];exact Nat.le_refl _
theorem bkL_at (l:List Int) {i k:Nat} (h1:szTo l i<=k) (h2:k<szTo l (i+1)):∀ m,i<m->bkL l m k=i
 |0,h=>by omega
 |m+1,h=>by
  unfold bkL
  by_cases q:i=m
  · rw[<-q,if_pos h1]
  · have:=szTo_monoT l (i:=i+1) (j:=m) (by omega)
    rw[if_neg (by omega)]
    exact bkL_at l h1 h2 m (by omega)
theorem stL_at (l:List Int) {i j:Nat} (hi:i<l.length) (hj:j<(l.getD i 0).natAbs):stL l (szTo l i+j)=(decide (i%2=0),decide (0<l.getD i 0)):=by
 unfold stL
 rw[bkL_at l (i:=i) (by omega) (by show _<szTo l i+_;omega) l.length hi]
theorem twR_tT (st:Nat->Bool×Bool) (n:Nat) (right up:Bool):∀ j,(∀ j',j'<j->st (n+j')=(right,up))->twR (tT st n) n right up j=tT st (n+j)
 |0,_=>rfl
 |j+1,h=>by
  show stepT (twR (tT st n) n right up j) (n+j) right up=stepT (tT st (n+j)) (n+j) (st (n+j)).1 (st (n+j)).2
  rw[twR_tT st n right up j (fun j' hj=>h j' (by omega)),h j (by omega)]
theorem twL_tT (l:List Int):∀ i,i<=l.length->twL l i=tT (stL l) (szTo l i)
 |0,_=>rfl
 |i+1,h=>by
  show twR (twL l i) (szTo l i) (decide (i%2=0)) (decide (0<l.getD i 0)) (l.getD i 0).natAbs=tT (stL l) (szTo l i+(l.getD i 0).natAbs)
  rw[twL_tT l i (by omega)]
  exact twR_tT (stL l) (szTo l i) _ _ _ (fun j' hj=>stL_at l (by omega) hj)
theorem lkU_tV (l:List Int):lkU l=tV (stL l) (szTo l l.length):=by
 unfold lkU tV
 rw[twL_tT l l.length (Nat.le_refl _)]
theorem tL_sum (st:Nat->Bool×Bool):∀ k,tL st k 0=0/\tL st k 3=tL st k 1+tL st k 2
 |0=>⟨rfl,rfl⟩
 |k+1=>by
  have ih:=tL_sum st k
  simp only[tL,tG]
  rcases st k with⟨right,up⟩
  cases right<;>cases up<;>simp<;>omega
theorem tL_twist (st : Nat → Bool × Bool) (n : Nat) (right up : Bool) : ∀ j, (∀ j', j' < j → st (n + j') = (right, up)) →
    tL st (n+j) (tG right)=tL st n (tG right)+(if up=true then(j:Int) else -(j:Int))*tL st n (3-tG right)/\tL st (n+j) (3-tG right)=tL st n (3-tG right)
 |0,_=>by cases up<;>simp
 |j+1,h=>by
  obtain⟨i1,i2⟩:=tL_twist st n right up j (fun j' hj=>h j' (by omega))
  have hs:=tL_sum st (n+j)
  have hst:=h j (by omega)
  have key:tL st (n+j+1) (tG right)=tL st (n+j) (tG right)+(if up=true then 1 else -1)*tL st (n+j) (3-tG right)/\tL st (n+j+1) (3-tG right)=tL st (n+j) (3-tG right):=by
   simp only[tL,hst]
   cases right<;>cases up<;>simp[tG]<;>omega
  rw[show n+(j+1)=n+j+1 by omega,key.1,key.2,i1,i2]
  refine⟨?_,rfl⟩
  cases up<;>simp<;>grind
theorem tG_flip (i:Nat):tG (decide ((i+1)%2=0))=3-tG (decide (i%2=0)):=by
 unfold tG
 have:i%2=0∨i%2=1:=by omega
 rcases this with h|h
 · have h2:(i+1)%2=1:=by omega
   simp[h,h2]
 · have h2:(i+1)%2=0:=by omega
   simp[h,h2]
theorem tL_frac (l:List Int):∀ i,i<=l.length->tL (stL l) (szTo l i) (tG (decide (i%2=0)))=(frTo l i).2/\tL (stL l) (szTo l i) (3-tG (decide (i%2=0)))=(frTo l i).1
 |0,_=>by constructor<;>rfl
 |i+1,h=>by
  obtain⟨i1,i2⟩:=tL_frac l i (by omega)
  obtain⟨t1,t2⟩:=tL_twist (stL l) (szTo l i) (decide (i%2=0)) (decide (0<l.getD i 0)) (l.getD i 0).natAbs (fun j' hj=>stL_at l (by omega) hj)
  have g:=tG_two (decide (i%2=0))
  rw[tG_flip,show 3-(3-tG (decide (i%2=0)))=tG (decide (i%2=0)) by omega]
  show tL (stL l) (szTo l i+(l.getD i 0).natAbs) _=(frTo l i).1/\tL (stL l) (szTo l i+(l.getD i 0).natAbs) _=l.getD i 0*(frTo l i).1+(frTo l i).2
  rw[t1,t2,i1,i2]
  refine⟨rfl,?_⟩
  have e:(if decide (0<l.getD i 0)=true then(((l.getD i 0).natAbs:Nat):Int) else -(((l.getD i 0).natAbs:Nat):Int))=l.getD i 0:=by
   by_cases q:0<l.getD i 0
   · rw[if_pos (decide_eq_true q)];omega
   · rw[if_neg (by simpa using q)];omega
  rw[e]
  omega
theorem tL_end (l:List Int) (h:l.length%2=1):tL (stL l) (szTo l l.length) 1=(frTo l l.length).1/\tL (stL l) (szTo l l.length) 2=(frTo l l.length).2:=by
 obtain⟨h1,h2⟩:=tL_frac l l.length (Nat.le_refl _)
 have e:tG (decide (l.length%2=0))=2:=by unfold tG;rw[if_neg (by simp;omega)]
 rw[e]at h1 h2
 exact⟨h2,h1⟩
end Go.Proofs.Ytgagenmkpmmpfaa
/- The table of a tangle that is closed: its determinant is the label at north-east; plain mathematics. -/
namespace Go.Proofs.Ytgagenmkpmmpfaa
def tS (st:Nat->Bool×Bool) (k:Nat):Int:=if(st k).2=true then 1 else -1
def tD (st:Nat->Bool×Bool) (k:Nat) (c:Nat):Int:=at1 (tE st k 0) c-at1 (tE st k 1) c+at1 (tE st k 3) c-at1 (tE st k 2) c
theorem tD_step (st:Nat->Bool×Bool) (k c:Nat):tD st (k+1) c=tD st k c+tS st k*(tQ st k c+tP st k c):=by
 unfold tD tS tQ tP
 simp only[tE,tG]
 rcases st k with⟨right,up⟩
 cases right<;>cases up<;>simp<;>omega
theorem tD_sum (st:Nat->Bool×Bool) (c:Nat):∀ n,tD st n c=((List.range n).map fun k=>tS st k*tQ st k c).sum+((List.range n).map fun k=>tS st k*tP st k c).sum
 |0=>by simp[tD,tE]
 |n+1=>by
  rw[tD_step,tD_sum st c n,List.range_succ,List.map_append,List.map_append,List.sum_append,List.sum_append,Int.mul_add]
  simp
  omega
theorem tE_zero (st:Nat->Bool×Bool):∀ k,tE st k 0=1
 |0=>rfl
 |k+1=>by
  have:=tE_zero st k
  unfold tE
  split<;>simpa using this
def tF (st:Nat->Bool×Bool) (n:Nat) (u:Nat×Nat):Nat->Int:=if u.1=0 then at1 1 else if u.1=1 then fun c=>at1 (tE st n 0) c-at1 (tE st n 1) c else if u.1=2 then tP st u.2 else tQ st u.2
def tI (n m:Nat):List (Nat×Nat):=[(0,0),(1,0)]++((List.range n).map (fun k=>(2,k))++(List.range m).map (fun k=>(3,k)))
def tO (st:Nat->Bool×Bool) (u:Nat×Nat):Int:=if u.1=0 then 0 else if u.1=1 then 1 else -tS st u.2
theorem tI_map (st:Nat->Bool×Bool) (n m:Nat):(tI n m).map (tF st n)=[at1 1,fun c=>at1 (tE st n 0) c-at1 (tE st n 1) c]++((List.range n).map (tP st)++(List.range m).map (tQ st)):=by
 unfold tI
 rw[List.map_append,List.map_append,List.map_map,List.map_map]
 rfl
theorem tR_perm (st:Nat->Bool×Bool):∀ n,(tR st n).Perm ((List.range n).map (tP st)++(List.range n).map (tQ st))
 |0=>.refl _
 |n+1=>by
  show(tR st n++[tP st n,tQ st n]).Perm _
  rw[List.range_succ,List.map_append,List.map_append,List.append_assoc]
  refine((tR_perm st n).append_right _).trans ?_
  rw[List.append_assoc]
  refine List.Perm.append_left _ ?_
  show((List.range n).map (tQ st)++[tP st n,tQ st n]).Perm ([tP st n]++((List.range n).map (tQ st)++[tQ st n]))
  rw[show [tP st n,tQ st n]=[tP st n]++[tQ st n] from rfl,<-List.append_assoc,<-List.append_assoc]
  exact List.Perm.append_right _ List.perm_append_comm
theorem dZ_headneg (a:Nat->Int) (Y:List (Nat->Int)) (cs:List Nat):(dZ ((fun c => -a c)::Y) cs).natAbs=(dZ (a::Y) cs).natAbs:=by
 show(rowZ (fun c => -a c) cs _).natAbs=(rowZ a cs _).natAbs
 have h:=rowZ_mul a (-1) cs (fun rest=>dZ Y rest)
 have h2:=rowZ_lin (fun _=>0) a (-1) cs (fun rest=>dZ Y rest)
 have h3:rowZ (fun _=>(0:Int)) cs (fun rest=>dZ Y rest)=0:=rowZ_none _ _ _ fun _ _=>rfl
 rw[show(fun c=>(0:Int) + -1*a c)=fun c => -a c from funext fun c=>by omega,h3]at h2
 rw[h2]
 show(0 + -1*rowZ a cs (dZ Y)).natAbs=(rowZ a cs (dZ Y)).natAbs
 omega
theorem td_abs (st : Nat → Bool × Bool) (n : Nat) (h : 0 < n) :
    (dZ ([fun c=>at1 (tE st n 0) c-at1 (tE st n 1) c,fun c=>at1 (tE st n 2) c-at1 (tE st n 3) c]++((List.range n).map (tP st)++(List.range (n-1)).map (tQ st))) (List.range' 2 (2*n+1))).natAbs=(tL st n 1).natAbs:=by
 obtain⟨m,rfl⟩:∃ m,n=m+1:=⟨n - 1,by omega⟩
 rw[show m+1-1=m by omega]
 -- a row and a column more
 have e1:∀ Y:List (Nat->Int),dZ (at1 1::Y) (List.range' 1 (2*(m+1)+2))=dZ Y (List.range' 2 (2*(m+1)+1)):=fun Y=>by
  rw[show List.range' 1 (2*(m+1)+2)=1::List.range' 2 (2*(m+1)+1) from rfl]
  show at1 1 1*dZ Y (List.range' 2 (2*(m+1)+1))-rowZ (at1 1) (List.range' 2 (2*(m+1)+1)) _=_
  rw[rowZ_none _ _ _ fun c hc=>at1_no (by have:=List.mem_range'_1.1 hc;omega),at1_yes]
  omega
 have e2:dZ ((fun c=>at1 (tE st (m+1) 2) c-at1 (tE st (m+1) 3) c)::(tI (m+1) m).map (tF st (m+1))) (List.range' 1 (2*(m+1)+2))=dZ ((fun c => -(tS st m*tQ st m c))::(tI (m+1) m).map (tF st (m+1))) (List.range' 1 (2*(m+1)+2)):=by
  have:=dZ_combI (tF st (m+1)) (tO st) (List.range' 1 (2*(m+1)+2)) (tI (m+1) m) (tI (m+1) m) [] (fun c => -(tS st m*tQ st m c)) rfl
  rw[<-this]
  congr 2
  funext c
  have hs:=tD_sum st c (m+1)
  have s1:((tI (m+1) m).map fun i=>tO st i*tF st (m+1) i c).sum=(at1 (tE st (m+1) 0) c-at1 (tE st (m+1) 1) c)+(((List.range (m+1)).map fun k => -(tS st k*tP st k c)).sum+((List.range m).map fun k => -(tS st k*tQ st k c)).sum):=by
   unfold tI
   rw[List.map_append,List.map_append,List.map_map,List.map_map,List.sum_append,List.sum_append]
   have a1:([(0,0),(1,0)].map fun i=>tO st i*tF st (m+1) i c).sum=at1 (tE st (m+1) 0) c-at1 (tE st (m+1) 1) c:=by
    simp[tO,tF]
   rw[a1]
   congr 2
   · congr 1
     exact List.map_congr_left fun k _=>by simp[tO,tF,Int.neg_mul]
   · congr 1
     exact List.map_congr_left fun k _=>by simp[tO,tF,Int.neg_mul]
  have neg:∀ (f:Nat->Int) (L:List Nat),(L.map fun k => -(f k)).sum = -(L.map f).sum:=fun f L=>by
   induction L with
   |nil=>rfl
   |cons a L ih=>simp only[List.map_cons,List.sum_cons,ih];omega
  rw[s1,neg,neg]
  have s2:((List.range (m+1)).map fun k=>tS st k*tQ st k c).sum=((List.range m).map fun k=>tS st k*tQ st k c).sum+tS st m*tQ st m c:=by
   rw[List.range_succ,List.map_append,List.sum_append];simp
  rw[s2]at hs
  unfold tD at hs
  omega
 have e3:(dZ ((fun c => -(tS st m*tQ st m c))::(tI (m+1) m).map (tF st (m+1))) (List.range' 1 (2*(m+1)+2))).natAbs=(dZ (tQ st m::(tI (m+1) m).map (tF st (m+1))) (List.range' 1 (2*(m+1)+2))).natAbs:=by
  unfold tS
  split
  · rw[show(fun c => -(1*tQ st m c))=fun c => -tQ st m c from funext fun c=>by omega]
    exact dZ_headneg _ _ _
  · rw[show(fun c => -(-1*tQ st m c))=tQ st m from funext fun c=>by omega]
 have p1:(at1 1::([fun c=>at1 (tE st (m+1) 0) c-at1 (tE st (m+1) 1) c,fun c=>at1 (tE st (m+1) 2) c-at1 (tE st (m+1) 3) c]++((List.range (m+1)).map (tP st)++(List.range m).map (tQ st)))).Perm ((fun c=>at1 (tE st (m+1) 2) c-at1 (tE st (m+1) 3) c)::(tI (m+1) m).map (tF st (m+1))):=by
  rw[tI_map]
  exact(List.Perm.cons _ (List.Perm.swap _ _ _)).trans (List.Perm.swap _ _ _)
 have p2:(tQ st m::(tI (m+1) m).map (tF st (m+1))).Perm (tR st (m+1)++[tU st (m+1) 1 (-1) 0 0,tU st (m+1) 1 0 0 0]):=by
  have u1:tU st (m+1) 1 (-1) 0 0=fun c=>at1 (tE st (m+1) 0) c-at1 (tE st (m+1) 1) c:=funext fun c=>by unfold tU;omega
  have u2:tU st (m+1) 1 0 0 0=at1 1:=funext fun c=>by unfold tU;rw[tE_zero];omega
  rw[u1,u2,tI_map]
  refine List.Perm.trans ?_ ((tR_perm st (m+1)).symm.append_right _)
  rw[List.range_succ,List.map_append (f:=tQ st),<-List.append_assoc]
  refine List.Perm.trans ?_ List.perm_append_comm
  refine List.Perm.trans (List.Perm.swap _ _ _) ?_
  refine List.Perm.trans (List.Perm.cons _ (List.Perm.swap _ _ _)) ?_
  refine List.Perm.trans (List.Perm.swap _ _ _) ?_
  refine List.Perm.cons _ (List.Perm.cons _ ?_)
  have last:∀ (P Q:List (Nat->Int)) (x:Nat->Int),(x::(P++Q)).Perm (P++(Q++[x])):=fun P Q x=>by rw[<-List.append_assoc];exact(List.perm_append_singleton x (P++Q)).symm
  exact last _ _ _
 rw[<-e1,dZ_rperm p1,e2,e3,dZ_rperm p2,tan_det]
 unfold tX tY
 rw[(tL_sum st (m+1)).1]
 omega
end Go.Proofs.Ytgagenmkpmmpfaa

/- Several texts of the proof, one behind the other. -/
import Derived.Test.YtgagenmkpmmpfaaQ0P
import Derived.Test.YtgagenmkpmmpfaaBK0P
import Derived.Test.YtgagenmkpmmpfaaPT4
import Derived.Test.YtgagenmkpmmpfaaO0P
import Derived.Test.YtgagenmkpmmpfaaBaseP
/- Determinants of whole numbers, nought where rows and columns are not as many: rows and columns may be traded; rows and columns that are sums. -/
namespace Go.Proofs.Ytgagenmkpmmpfaa
def dZ:List (Nat->Int)->List Nat->Int
 |[],cs=>if cs=[] then 1 else 0
 |r::rs,cs=>rowZ r cs (dZ rs)
theorem rowZ_ext (a b:Nat->Int):∀ (cs:List Nat) (h h':List Nat->Int),(∀ c∈cs,a c=b c)->(∀ rest,rest.length+1=cs.length->(∀ c∈rest,c∈cs)->h rest=h' rest)->rowZ a cs h=rowZ b cs h'
 |[],_,_,_,_=>rfl
 |c::cs,h,h',e,e2=>by
  show a c*h cs-rowZ a cs _=b c*h' cs-rowZ b cs _
  rw [e c (.head _), e2 cs rfl (fun x hx => .tail _ hx), rowZ_ext a b cs _ (fun rest => h' (c :: rest)) (fun x hx => e x (.tail _ hx)) (fun rest hr hr2 => e2 (c :: rest) (by simp; omega) (fun x hx => by
   cases hx with
   |head=>exact .head _
   |tail _ hx=>exact .tail _ (hr2 x hx)))]
theorem dZ_det:∀ (R:List (Nat->Int)) (cs:List Nat),R.length=cs.length->dZ R cs=detZ R cs
 |[],cs,h=>by
  obtain rfl:cs=[]:=List.length_eq_zero_iff.1 h.symm
  rfl
 |r::R,cs,h=>rowZ_ext r r cs _ _ (fun _ _=>rfl) fun rest hr _=>dZ_det R rest (by simp at h;omega)
theorem dZ_ext {α:Type} (f g:α->Nat->Int):∀ (R:List α) (cs:List Nat),(∀ i∈R,∀ c∈cs,f i c=g i c)->dZ (R.map f) cs=dZ (R.map g) cs
 |[],_,_=>rfl
 |i::R,cs,h=>rowZ_ext (f i) (g i) cs _ _ (fun c hc=>h i (.head _) c hc) (fun rest _ hr=>dZ_ext f g R rest fun j hj c hc=>h j (.tail _ hj) c (hr c hc))
theorem rowZ_map (a:Nat->Int) (p:Nat->Nat):∀ (cs:List Nat) (h:List Nat->Int),rowZ a (cs.map p) h=rowZ (fun c=>a (p c)) cs (fun rest=>h (rest.map p))
 |[],_=>rfl
 |c::cs,h=>by
  show a (p c)*h (cs.map p)-rowZ a (cs.map p) _=_
  rw[rowZ_map a p cs]
  rfl
theorem dZ_map (p:Nat->Nat):∀ (R:List (Nat->Int)) (cs:List Nat),dZ R (cs.map p)=dZ (R.map fun r c=>r (p c)) cs
 |[],cs=>by
  show(if cs.map p=[] then(1:Int) else 0)=if cs=[] then 1 else 0
  simp
 |r::R,cs=>by
  show rowZ r (cs.map p) (dZ R)=rowZ (fun c=>r (p c)) cs (dZ (R.map fun r c=>r (p c)))
  rw[rowZ_map]
  congr 1
  funext rest
  exact dZ_map p R rest
theorem dZ_lin (X Y:List (Nat->Int)) (r a:Nat->Int) (k:Int) (cs:List Nat):dZ (X++(fun c=>r c+k*a c)::Y) cs=dZ (X++r::Y) cs+k*dZ (X++a::Y) cs:=by
 induction X generalizing cs with
 |nil=>exact rowZ_lin r a k cs (dZ Y)
 |cons x X ih=>
  show rowZ x cs (dZ (X++_::Y))=rowZ x cs (dZ (X++r::Y))+k*rowZ x cs (dZ (X++a::Y))
  rw[<-rowZ_lin2]
  congr 1
  funext rest
  exact ih rest
theorem dZ_front (X Y:List (Nat->Int)) (a:Nat->Int) (cs:List Nat):dZ (X++a::Y) cs=sgZ X.length*dZ (a::(X++Y)) cs:=by
 induction X generalizing cs with
 |nil=>show _=1*_;rw[Int.one_mul];rfl
 |cons x X ih=>
  have e:dZ (X++a::Y)=fun rest=>sgZ X.length*rowZ a rest (dZ (X++Y)):=funext fun rest=>ih rest
  show rowZ x cs (dZ (X++a::Y)) = -sgZ X.length*rowZ a cs (fun rest=>rowZ x rest (dZ (X++Y)))
  rw[e,rowZ_mul,rowZ_swap,Int.mul_neg,Int.neg_mul]
theorem dZ_same (X Y:List (Nat->Int)) (a:Nat->Int) (cs:List Nat):dZ (a::(X++a::Y)) cs=0:=by
 have e:dZ (X++a::Y)=fun rest=>sgZ X.length*rowZ a rest (dZ (X++Y)):=funext fun rest=>dZ_front X Y a rest
 show rowZ a cs (dZ (X++a::Y))=0
 rw[e,rowZ_mul,rowZ_twice,Int.mul_zero]
theorem rowZ_nil (a:Nat->Int):∀ cs:List Nat,rowZ a cs (fun _=>0)=0
 |[]=>rfl
 |c::cs=>by show a c*0-rowZ a cs (fun _=>0)=0;rw[rowZ_nil a cs];omega
theorem rowZ_trade (a:Nat->Int) (c d:Nat) (z:List Nat):∀ (x:List Nat) (h:List Nat->Int),(∀ x z,h (x++c::d::z) = -h (x++d::c::z))->rowZ a (x++c::d::z) h = -rowZ a (x++d::c::z) h
 |[],h,hh=>by
  have e:rowZ a z (fun rest=>h (c::d::rest))+rowZ a z (fun rest=>h (d::c::rest))=0:=by
   have e1:=rowZ_lin2 a 1 z (fun rest=>h (c::d::rest)) (fun rest=>h (d::c::rest))
   rw [show (fun rest => h (c :: d :: rest) + 1 * h (d :: c :: rest)) = fun _ => (0 : Int) from funext fun rest => by
    have:=hh [] rest
    simp only[List.nil_append]at this
    omega,rowZ_nil]at e1
   omega
  show a c*h (d::z)-(a d*h (c::z)-rowZ a z (fun rest=>h (c::d::rest))) = -(a d*h (c::z)-(a c*h (d::z)-rowZ a z (fun rest=>h (d::c::rest))))
  omega
 |y::x,h,hh=>by
  show a y*h (x++c::d::z)-rowZ a (x++c::d::z) (fun rest=>h (y::rest)) = -(a y*h (x++d::c::z)-rowZ a (x++d::c::z) (fun rest=>h (y::rest)))
  rw[rowZ_trade a c d z x (fun rest=>h (y::rest)) (fun x' z'=>hh (y::x') z'),hh x z,Int.mul_neg]
  omega
theorem dZ_trade (c d:Nat):∀ (R:List (Nat->Int)) (x z:List Nat),dZ R (x++c::d::z) = -dZ R (x++d::c::z)
 |[],x,z=>by
  show(if x++c::d::z=[] then(1:Int) else 0) = -(if x++d::c::z=[] then(1:Int) else 0)
  rw[if_neg (by simp),if_neg (by simp)];rfl
 |r::R,x,z=>rowZ_trade r c d z x (dZ R) fun x z=>dZ_trade c d R x z
theorem dZ_perm (R:List (Nat->Int)) {l l':List Nat} (h:l.Perm l'):(dZ R l).natAbs=(dZ R l').natAbs:=by
 have key:∀ {l l':List Nat},l.Perm l'->∀ x:List Nat,(dZ R (x++l)).natAbs=(dZ R (x++l')).natAbs:=fun h=>by
  induction h with
  |nil=>intro x;rfl
  |cons c _ ih=>
   intro x
   have:=ih (x++[c])
   simpa using this
  |swap c d l=>
   intro x
   rw[dZ_trade,Int.natAbs_neg]
  |trans _ _ ih1 ih2=>intro x;rw[ih1 x,ih2 x]
 exact key h []
theorem dZ_dup (R:List (Nat->Int)) (c:Nat) (l:List Nat) (h:c∈l):dZ R (c::l)=0:=by
 obtain⟨x,y,rfl⟩:=List.append_of_mem h
 have hp:(c::(x++c::y)).Perm (c::c::(x++y)):=List.Perm.cons c List.perm_middle
 have h1:=dZ_perm R hp
 have h2:=dZ_trade c c R [] (x++y)
 simp only[List.nil_append]at h2
 omega
theorem rowZ_sum (a:Nat->Int) {u v w:Nat} (k:Int) (e:a w=a u+k*a v) (q:List Nat) (h:List Nat->Int) (hh:∀ q,h (w::q)=h (u::q)+k*h (v::q)):rowZ a (w::q) h=rowZ a (u::q) h+k*rowZ a (v::q) h:=by
 have e1:=rowZ_lin2 a k q (fun rest=>h (u::rest)) (fun rest=>h (v::rest))
 rw[show(fun rest=>h (u::rest)+k*h (v::rest))=fun rest=>h (w::rest) from funext fun rest=>(hh rest).symm]at e1
 show a w*h q-rowZ a q (fun rest=>h (w::rest))=a u*h q-rowZ a q (fun rest=>h (u::rest))+k*(a v*h q-rowZ a q (fun rest=>h (v::rest)))
 rw[e,e1]
 grind
theorem dZ_sum {u v w:Nat} (k:Int):∀ (R:List (Nat->Int)),R≠[]->(∀ r∈R,r w=r u+k*r v)->∀ q,dZ R (w::q)=dZ R (u::q)+k*dZ R (v::q)
 |[],h,_,_=>absurd rfl h
 |[r],_,e,q=>by
  have e0:=e r (.head _)
  cases q with
  |nil=>show r w*1-0=r u*1-0+k*(r v*1-0);rw[e0];grind
  |cons y q=>
   refine rowZ_sum r k e0 (y::q) (dZ []) fun q=>?_
   show(if w::q=[] then(1:Int) else 0)=(if u::q=[] then(1:Int) else 0)+k*(if v::q=[] then(1:Int) else 0)
   rw[if_neg (by simp),if_neg (by simp),if_neg (by simp)];omega
 |r::r2::R,_,e,q=>rowZ_sum r k (e r (.head _)) q (dZ (r2::R)) fun q=>dZ_sum k (r2::R) (by simp) (fun s hs=>e s (.tail _ hs)) q
theorem dZ_void:∀ (R:List (Nat->Int)) (c:Nat),R≠[]->(∀ r∈R,r c=0)->∀ q,dZ R (c::q)=0:=fun R c hR h q=>by
 have:=dZ_sum (u:=c) (v:=c) (w:=c) 1 R hR (fun r hr=>by rw[h r hr];rfl) q
 omega
end Go.Proofs.Ytgagenmkpmmpfaa
/- Determinants: labels that are merged edge by edge; which column is left out where all rows come to nought. -/
namespace Go.Proofs.Ytgagenmkpmmpfaa
theorem rowZ_none (a:Nat->Int) (cs:List Nat) (h:List Nat->Int) (ha:∀ c∈cs,a c=0):rowZ a cs h=0:=by
 have e:∀ cs h,rowZ (fun _=>0) cs h=0:=fun cs=>by
  induction cs with
  |nil=>intro h;rfl
  |cons c cs ih=>intro h;show 0*h cs - rowZ (fun _=>0) cs _=0;rw[ih];omega
 rw[rowZ_ext a (fun _=>0) cs h h ha (fun _ _ _=>rfl),e]
theorem dZ_any {R:List (Nat->Int)} {u v:Nat} {q:List Nat} (h:∀ r∈R,r u+r v+(q.map r).sum=0):(dZ R (u::q)).natAbs=(dZ R (v::q)).natAbs:=by
 by_cases hR:R=[]
 · subst hR;rfl
 obtain⟨B,hu,hv,hq⟩:∃ B,u<B/\v<B/\∀ c∈q,c<B:=by
  refine⟨u+v+q.sum+1,by omega,by omega,fun c hc=>?_⟩
  have:∀ l:List Nat,c∈l->c<=l.sum:=fun l=>by
   induction l with
   |nil=>intro h;cases h
   |cons x l ih=>
    intro h
    rw[List.sum_cons]
    cases h with
    |head=>omega
    |tail _ h=>have:=ih h;omega
  have:=this q hc
  omega
 let ex:(Nat->Int)->Nat->Int:=fun r c=>if c<B then r c else if c=B then 0 else -(r v)-((q.take (c-B-1)).map r).sum
 have low:∀ l:List Nat,(∀ c∈l,c<B)->dZ (R.map ex) l=dZ R l:=fun l hl=>by
  have:=dZ_ext ex id R l (fun r _ c hc=>by show(if c<B then r c else _)=r c;rw[if_pos (hl c hc)])
  rw[List.map_id]at this
  exact this
 have hR':R.map ex≠[]:=by simpa using hR
 have z0 : dZ (R.map ex) (B :: q) = 0 := dZ_void _ B hR' (fun r hr => by
  obtain⟨s,-,rfl⟩:=List.mem_map.1 hr
  show(if B<B then s B else if B=B then 0 else _)=0
  rw[if_neg (by omega),if_pos rfl]) q
 have z1:dZ (R.map ex) ((B+1)::q) = -dZ R (v::q):=by
  have := dZ_sum (u := B) (v := v) (w := B + 1) (-1) (R.map ex) hR' (fun r hr => by
   obtain⟨s,-,rfl⟩:=List.mem_map.1 hr
   show(if B+1<B then s (B+1) else if B+1=B then 0 else -(s v)-((q.take (B+1-B-1)).map s).sum)=(if B<B then s B else if B=B then 0 else _) + -1*(if v<B then s v else _)
   rw[if_neg (by omega),if_neg (by omega),if_neg (by omega),if_pos rfl,if_pos hv,show B+1-B-1=0 by omega]
   simp) q
  rw [this, z0, low (v :: q) (fun c hc => by
   cases hc with
   |head=>exact hv
   |tail _ hc=>exact hq c hc)]
  omega
 have zi:∀ i,i<=q.length->dZ (R.map ex) ((B+1+i)::q) = -dZ R (v::q):=fun i=>by
  induction i with
  |zero=>intro _;exact z1
  |succ i ih=>
   intro hi
   have hqi:q[i]∈q:=List.getElem_mem (by omega)
   have := dZ_sum (u := B + 1 + i) (v := q[i]) (w := B + 1 + (i + 1)) (-1) (R.map ex) hR' (fun r hr => by
    obtain⟨s,-,rfl⟩:=List.mem_map.1 hr
    show(if B+1+(i+1)<B then s (B+1+(i+1)) else if B+1+(i+1)=B then 0 else -(s v)-((q.take (B+1+(i+1)-B-1)).map s).sum)=(if B+1+i<B then s (B+1+i) else if B+1+i=B then 0 else -(s v)-((q.take (B+1+i-B-1)).map s).sum) + -1*(if q[i]<B then s q[i] else _)
    rw[if_neg (by omega),if_neg (by omega),if_neg (by omega),if_neg (by omega),if_pos (hq _ hqi),show B+1+(i+1)-B-1=i+1 by omega,show B+1+i-B-1=i by omega,List.take_succ_eq_append_getElem (by omega),List.map_append,List.sum_append]
    simp
    omega) q
   rw[this,ih (by omega),dZ_dup _ _ _ hqi]
   omega
 have last:=zi q.length (Nat.le_refl _)
 have e2:dZ (R.map ex) ((B+1+q.length)::q)=dZ R (u::q):=by
  have h1 := dZ_sum (u := B) (v := u) (w := B + 1 + q.length) 1 (R.map ex) hR' (fun r hr => by
   obtain⟨s,hs,rfl⟩:=List.mem_map.1 hr
   have hh:=h s hs
   show(if B+1+q.length<B then s (B+1+q.length) else if B+1+q.length=B then 0 else -(s v)-((q.take (B+1+q.length-B-1)).map s).sum)=(if B<B then s B else if B=B then 0 else _)+1*(if u<B then s u else _)
   rw[if_neg (by omega),if_neg (by omega),if_neg (by omega),if_pos rfl,if_pos hu,show B+1+q.length-B-1=q.length by omega,List.take_length]
   omega) q
  rw [h1, z0, low (u :: q) (fun c hc => by
   cases hc with
   |head=>exact hu
   |tail _ hc=>exact hq c hc)]
  omega
 rw[last]at e2
 omega
def rowW (M:Nat) (W:List Nat) (r:Nat->Int) (c:Nat):Int:=sumS M (fun i=>if W.getD (i+1) 0=c then r (i+1) else 0)
def dfR (e:Nat×Nat):Nat->Int:=fun a=>(if a=e.1 then 1 else 0)-(if a=e.2 then 1 else 0)
theorem sumS_at (M b:Nat) (h1:1<=b) (h2:b<=M) (g:Nat->Int):sumS M (fun i=>if i+1=b then g (i+1) else 0)=g b:=by
 induction M with
 |zero=>omega
 |succ M ih=>
  show sumS M _+(if M+1=b then g (M+1) else 0)=_
  by_cases e:M+1=b
  · rw[if_pos e,sumS_congr (g:=fun _=>0) fun i hi=>if_neg (by omega),sumS_zero,e];omega
  · rw[if_neg e,ih (by omega)];omega
theorem sumS_sub (M:Nat) (f g:Nat->Int):sumS M f-sumS M g=sumS M (fun i=>f i-g i):=by
 induction M with
 |zero=>rfl
 |succ M ih=>show sumS M f+f M-(sumS M g+g M)=sumS M (fun i=>f i-g i)+(f M-g M);rw[<-ih];omega
theorem rowW_df {M:Nat} {W:List Nat} {b d:Nat} (hb:1<=b/\b<=M) (hd:1<=d/\d<=M) (c:Nat):rowW M W (dfR (b,d)) c=(if W.getD b 0=c then 1 else 0)-(if W.getD d 0=c then 1 else 0):=by
 have e1:=sumS_at M b hb.1 hb.2 (fun a=>if W.getD a 0=c then(1:Int) else 0)
 have e2:=sumS_at M d hd.1 hd.2 (fun a=>if W.getD a 0=c then(1:Int) else 0)
 unfold rowW
 rw[<-e1,<-e2]
 rw[sumS_sub]
 refine sumS_congr fun i _=>?_
 show(if W.getD (i+1) 0=c then(if i+1=b then(1:Int) else 0)-(if i+1=d then 1 else 0) else 0)=_
 by_cases q:W.getD (i+1) 0=c
 · rw[if_pos q,if_pos q]
 · rw[if_neg q,if_neg q]
   split<;>split<;>rfl
theorem rowW_mer {M n:Nat} {W:List Nat} (hW:W.length=n) (hM:M<n) {x y:Nat} (hne:W.getD x 0≠W.getD y 0) (r:Nat->Int) (c:Nat):rowW M (mer W x y) r c=if c=min (W.getD x 0) (W.getD y 0) then rowW M W r c+rowW M W r (max (W.getD x 0) (W.getD y 0)) else if c=max (W.getD x 0) (W.getD y 0) then 0 else rowW M W r c:=by
 unfold rowW
 have key:∀ i,i<M->(if(mer W x y).getD (i+1) 0=c then r (i+1) else 0)=if c=min (W.getD x 0) (W.getD y 0) then(if W.getD (i+1) 0=c then r (i+1) else 0)+(if W.getD (i+1) 0=max (W.getD x 0) (W.getD y 0) then r (i+1) else 0) else if c=max (W.getD x 0) (W.getD y 0) then 0 else(if W.getD (i+1) 0=c then r (i+1) else 0):=fun i hi=>by
  rw[mer_at W x y (i+1) (by omega)]
  by_cases e1:W.getD (i+1) 0=max (W.getD x 0) (W.getD y 0)
  · rw[if_pos e1]
    by_cases e2:c=min (W.getD x 0) (W.getD y 0)
    · rw[if_pos e2,if_pos e2.symm,if_neg (by omega),if_pos e1];omega
    · rw[if_neg e2,if_neg (fun q=>e2 q.symm)]
      by_cases e3:c=max (W.getD x 0) (W.getD y 0)
      · rw[if_pos e3]
      · rw[if_neg e3,if_neg (by omega)]
  · rw[if_neg e1]
    by_cases e2:c=min (W.getD x 0) (W.getD y 0)
    · rw[if_pos e2,if_neg e1];omega
    · rw[if_neg e2]
      by_cases e3:c=max (W.getD x 0) (W.getD y 0)
      · rw[if_pos e3,if_neg (by omega)]
      · rw[if_neg e3]
 rw[sumS_congr key]
 by_cases e2:c=min (W.getD x 0) (W.getD y 0)
 · simp only[if_pos e2];rw[sumS_add]
 · simp only[if_neg e2]
   by_cases e3:c=max (W.getD x 0) (W.getD y 0)
   · simp only[if_pos e3];rw[sumS_zero]
   · simp only[if_neg e3]
def rtL (M:Nat) (W:List Nat):List Nat:=(List.range' 2 (M-1)).filter fun c=>decide (W.getD c 0=c)
theorem rtL_mem {M:Nat} {W:List Nat} {c:Nat}:c∈rtL M W↔2<=c/\c<=M/\W.getD c 0=c:=by
 unfold rtL
 rw[List.mem_filter,List.mem_range'_1,decide_eq_true_eq]
 omega
theorem rtL_nodup (M:Nat) (W:List Nat):(rtL M W).Nodup:=(List.nodup_range' ..).filter _
theorem merge_one {F : List (Nat × Nat)} {M : Nat} {W : List Nat} (h : Least F (M + 1) W) (hF : ∀ e ∈ F, 1 ≤ e.1 ∧ 1 ≤ e.2) {b d : Nat} (hb : 1 ≤ b ∧ b ≤ M) (hd : 1 ≤ d ∧ d ≤ M) (hne : W.getD b 0 ≠ W.getD d 0) (R : List (Nat → Int)) :
    (dZ (rowW M W (dfR (b,d))::R.map (rowW M W)) (rtL M W)).natAbs=(dZ (R.map (rowW M (mer W b d))) (rtL M (mer W b d))).natAbs/\(rtL M (mer W b d)).length+1=(rtL M W).length:=by
 have lb:=h.lt (v:=b) (by omega)
 have ld:=h.lt (v:=d) (by omega)
 have pb:=h.pos hF (v:=b) (by omega) hb.1
 have pd:=h.pos hF (v:=d) (by omega) hd.1
 have rb:=h.root (v:=b) (by omega)
 have rd:=h.root (v:=d) (by omega)
 have hrow:=fun c=>rowW_df (W:=W) hb hd c
 have hmer:=fun(r:Nat->Int) c=>rowW_mer (M:=M) h.1 (by omega) hne r c
 have hroot:∀ c,2<=c->c<=M->((mer W b d).getD c 0=c↔W.getD c 0=c/\c≠max (W.getD b 0) (W.getD d 0)):=fun c h2 hM=>by
  have hl:=h.1
  rw[mer_at W b d c (by omega)]
  by_cases e:W.getD c 0=max (W.getD b 0) (W.getD d 0)
  · rw[if_pos e]
    have hc:=(h.2 c (by omega)).2 c (Con.refl _ _)
    constructor
    · intro q;omega
    · rintro⟨q1,q2⟩;omega
  · rw[if_neg e]
    constructor
    · intro q;exact⟨q,by omega⟩
    · intro q;exact q.1
 generalize hu:W.getD b 0=u at*
 generalize hv:W.getD d 0=v at*
 have hhi:max u v∈rtL M W:=rtL_mem.2 ⟨by omega,by omega,(Nat.le_total u v).elim (fun q=>by rw[Nat.max_eq_right q];exact rd) (fun q=>by rw[Nat.max_eq_left q];exact rb)⟩
 have hlo:min u v≠1->min u v∈rtL M W:=fun q1=>rtL_mem.2 ⟨by omega,by omega,(Nat.le_total u v).elim (fun q=>by rw[Nat.min_eq_left q];exact rb) (fun q=>by rw[Nat.min_eq_right q];exact rd)⟩
 have hsub:∀ c,c∈rtL M (mer W b d)↔c∈rtL M W/\c≠max u v:=fun c=>by
  rw[rtL_mem,rtL_mem]
  constructor
  · rintro⟨a1,a2,a3⟩
    have:=(hroot c a1 a2).1 a3
    exact⟨⟨a1,a2,this.1⟩,this.2⟩
  · rintro⟨⟨a1,a2,a3⟩,a4⟩
    exact⟨a1,a2,(hroot c a1 a2).2 ⟨a3,a4⟩⟩
 have perm1:(rtL M W).Perm (max u v::rtL M (mer W b d)):=by
  rw[List.perm_ext_iff_of_nodup (rtL_nodup M W) (List.nodup_cons.2 ⟨fun q=>((hsub _).1 q).2 rfl,rtL_nodup M _⟩)]
  intro c
  rw[List.mem_cons,hsub]
  constructor
  · intro q
    by_cases e:c=max u v
    · exact Or.inl e
    · exact Or.inr ⟨q,e⟩
  · rintro(q|q)
    · rw[q];exact hhi
    · exact q.1
 refine⟨?_,by rw[perm1.length_eq];rfl⟩
 rw[dZ_perm _ perm1]
 have dhi:rowW M W (dfR (b,d)) (max u v)=1∨rowW M W (dfR (b,d)) (max u v) = -1:=by
  rw[hrow];split<;>split<;>omega
 have dlo:rowW M W (dfR (b,d)) (min u v) = -rowW M W (dfR (b,d)) (max u v):=by
  rw[hrow,hrow];split<;>split<;>split<;>split<;>omega
 have doth:∀ c,c≠max u v->c≠min u v->rowW M W (dfR (b,d)) c=0:=fun c q1 q2=>by
  rw[hrow];split<;>split<;>omega
 by_cases hl1:min u v∈rtL M (mer W b d)
 · obtain⟨x,y,hxy⟩:=List.append_of_mem hl1
   have nd:=rtL_nodup M (mer W b d)
   rw[hxy]at nd
   have perm2:(rtL M (mer W b d)).Perm (min u v::(x++y)):=by rw[hxy];exact List.perm_middle
   have ndl:min u v ∉ x++y:=(List.nodup_cons.1 ((List.perm_middle.nodup_iff).1 nd)).1
   have hin:∀ c∈x++y,c∈rtL M (mer W b d):=fun c hc=>perm2.mem_iff.2 (.tail _ hc)
   rw[dZ_perm _ (List.Perm.cons (max u v) perm2),dZ_perm _ perm2]
   have e1:dZ (rowW M W (dfR (b,d))::R.map (rowW M W)) (max u v::min u v::(x++y))=rowW M W (dfR (b,d)) (max u v)*(dZ (R.map (rowW M W)) (min u v::(x++y))+1*dZ (R.map (rowW M W)) (max u v::(x++y))):=by
    show rowW M W (dfR (b,d)) (max u v)*dZ (R.map (rowW M W)) (min u v::(x++y))-(rowW M W (dfR (b,d)) (min u v)*dZ (R.map (rowW M W)) (max u v::(x++y))-rowZ (rowW M W (dfR (b,d))) (x++y) _)=_
    rw[rowZ_none _ _ _ (fun c hc=>doth c ((hsub c).1 (hin c hc)).2 (fun q=>ndl (q▸hc))),dlo]
    grind
   rw[e1]
   have e2:dZ (R.map (rowW M W)) (min u v::(x++y))+1*dZ (R.map (rowW M W)) (max u v::(x++y))=dZ (R.map (rowW M (mer W b d))) (min u v::(x++y)):=by
    by_cases hR:R=[]
    · subst hR
      show(if min u v::(x++y)=[] then(1:Int) else 0)+1*(if max u v::(x++y)=[] then(1:Int) else 0)=(if min u v::(x++y)=[] then(1:Int) else 0)
      rw[if_neg (by simp),if_neg (by simp)];rfl
    · have pos:∀ c∈x++y,c≠0:=fun c hc=>by have:=(rtL_mem.1 (hin c hc)).1;omega
      let ex:(Nat->Int)->Nat->Int:=fun r c=>if c=0 then rowW M W r (min u v)+1*rowW M W r (max u v) else rowW M W r c
      have low:∀ l:List Nat,(∀ c∈l,c≠0)->dZ (R.map ex) l=dZ (R.map (rowW M W)) l:=fun l hl=>dZ_ext ex (rowW M W) R l fun r _ c hc=>if_neg (hl c hc)
      have s1 := dZ_sum (u := min u v) (v := max u v) (w := 0) 1 (R.map ex) (by simpa using hR) (fun r hr => by
       obtain⟨s,-,rfl⟩:=List.mem_map.1 hr
       show(if(0:Nat)=0 then _ else _)=(if min u v=0 then _ else rowW M W s (min u v))+1*(if max u v=0 then _ else rowW M W s (max u v))
       rw[if_pos rfl,if_neg (by omega),if_neg (by omega)]) (x++y)
      rw [low (min u v :: (x ++ y)) (fun c hc => by
       cases hc with
       |head=>omega
       |tail _ hc=>exact pos c hc),low (max u v::(x++y)) (fun c hc=>by
       cases hc with
       |head=>omega
       |tail _ hc=>exact pos c hc)]at s1
      rw[<-s1]
      have em:(min u v::(x++y)).map (fun c=>if c=min u v then 0 else c)=0::(x++y):=by
       rw[List.map_cons,if_pos rfl]
       congr 1
       refine(List.map_congr_left (g:=id) fun c hc=>?_).trans (List.map_id _)
       exact if_neg (fun q=>ndl (by rw[<-q];exact hc))
      rw[<-em,dZ_map,List.map_map]
      refine dZ_ext _ _ R _ fun r _ c hc=>?_
      show ex r (if c=min u v then 0 else c)=rowW M (mer W b d) r c
      rw[hmer]
      cases hc with
      |head=>rw[if_pos rfl,if_pos rfl];show(if(0:Nat)=0 then rowW M W r (min u v)+1*rowW M W r (max u v) else _)=_;rw[if_pos rfl];omega
      |tail _ hc=>
       have q1:c≠min u v:=fun q=>ndl (q▸hc)
       rw[if_neg q1,if_neg q1,if_neg ((hsub c).1 (hin c hc)).2]
       exact if_neg (pos c hc)
   rw[e2]
   rcases dhi with q|q<;>rw[q]<;>omega
 · have e1 : dZ (rowW M W (dfR (b, d)) :: R.map (rowW M W)) (max u v :: rtL M (mer W b d)) = rowW M W (dfR (b, d)) (max u v) * dZ (R.map (rowW M W)) (rtL M (mer W b d)) := by
     show rowW M W (dfR (b,d)) (max u v)*dZ (R.map (rowW M W)) (rtL M (mer W b d))-rowZ (rowW M W (dfR (b,d))) (rtL M (mer W b d)) _=_
     rw[rowZ_none _ _ _ (fun c hc=>doth c ((hsub c).1 hc).2 (fun q=>hl1 (q▸hc)))]
     omega
   rw [e1, dZ_ext (rowW M W) (rowW M (mer W b d)) R (rtL M (mer W b d)) (fun r _ c hc => by
    rw[hmer,if_neg (show ¬ c=min u v from fun q=>hl1 (by rw[<-q];exact hc)),if_neg ((hsub c).1 hc).2])]
   rcases dhi with q|q<;>rw[q]<;>omega
theorem mer_like {W:List Nat} {x y:Nat} (h:W.getD x 0=W.getD y 0):mer W x y=W:=by
 unfold mer
 rw[h,Nat.max_self,Nat.min_self]
 refine(List.map_congr_left (g:=id) fun z _=>?_).trans (List.map_id _)
 by_cases q:z=W.getD y 0
 · rw[if_pos q];exact q.symm
 · rw[if_neg q];rfl
theorem merge_all {M : Nat} (R : List (Nat → Int)) : ∀ (E F : List (Nat × Nat)) (W : List Nat), Least F (M + 1) W → (∀ e ∈ F ++ E, 1 ≤ e.1 ∧ e.1 ≤ M ∧ 1 ≤ e.2 ∧ e.2 ≤ M) →
    (rtL M W).length<=(rtL M (mers W E)).length+E.length/\
    ((rtL M W).length=(rtL M (mers W E)).length+E.length->(dZ ((E.map dfR++R).map (rowW M W)) (rtL M W)).natAbs=(dZ (R.map (rowW M (mers W E))) (rtL M (mers W E))).natAbs)/\
    ((rtL M W).length≠(rtL M (mers W E)).length+E.length->dZ ((E.map dfR++R).map (rowW M W)) (rtL M W)=0)
 |[],_,_,_,_=>⟨Nat.le_refl _,fun _=>rfl,fun h=>absurd rfl h⟩
 |(b,d)::E,F,W,h,hF=>by
  have he:1<=b/\b<=M/\1<=d/\d<=M:=hF (b,d) (List.mem_append_right _ (.head _))
  have hF1:∀ e∈F,1<=e.1/\1<=e.2:=fun e q=>by have:=hF e (List.mem_append_left _ q);omega
  by_cases hne:W.getD b 0=W.getD d 0
  · have em:mers W ((b,d)::E)=mers W E:=by show mers (mer W b d) E=_;rw[mer_like hne]
    obtain ⟨i1, -, -⟩ := merge_all R E F W h (fun e q => hF e (by
     rcases List.mem_append.1 q with g|g
     · exact List.mem_append_left _ g
     · exact List.mem_append_right _ (.tail _ g)))
    rw[em,List.length_cons]
    refine⟨by omega,fun q=>by omega,fun _=>?_⟩
    show rowZ (rowW M W (dfR (b,d))) (rtL M W) _=0
    refine rowZ_none _ _ _ fun c _=>?_
    rw[rowW_df ⟨he.1,he.2.1⟩ ⟨he.2.2.1,he.2.2.2⟩,hne,Int.sub_self]
  · obtain⟨s1,s2⟩:=merge_one h hF1 ⟨he.1,he.2.1⟩ ⟨he.2.2.1,he.2.2.2⟩ hne (E.map dfR++R)
    obtain⟨i1,i2,i3⟩:=merge_all R E (F++[(b,d)]) (mer W b d) (mer_least h b d (by omega) (by omega) (fun e q=>by have:=hF e (List.mem_append_left _ q);omega)) (fun e q=>hF e (by simpa using q))
    have em:mers W ((b,d)::E)=mers (mer W b d) E:=rfl
    rw[em,List.length_cons]
    refine⟨by omega,fun q=>?_,fun q=>?_⟩
    · rw[<-i2 (by omega),<-s1]
      rfl
    · have:=i3 (by omega)
      have s3:(dZ (((b,d)::E).map dfR++R |>.map (rowW M W)) (rtL M W)).natAbs=0:=by
       show(dZ (rowW M W (dfR (b,d))::(E.map dfR++R).map (rowW M W)) (rtL M W)).natAbs=0
       rw[s1,this];rfl
      omega
end Go.Proofs.Ytgagenmkpmmpfaa
/- Plain mathematics of Alexander's table: polynomials of two terms, and the places of a row. -/
namespace Go.Proofs.Ytgagenmkpmmpfaa
open Go.RowKit
def aPol (x y:Int):List (Int×Int):=(if x=0 then [] else [(0,x)])++(if y=0 then [] else [(1,y)])
def aFun (x y:Int) (e:Int):Int:=if e=0 then x else if e=1 then y else 0
theorem canon_aPol (x y:Int):Poly.Canon (aPol x y) (aFun x y):=by
 unfold aPol
 constructor
 · by_cases hx:x=0<;>by_cases hy:y=0<;>simp[hx,hy]
 · intro e c
   by_cases hx:x=0<;>by_cases hy:y=0<;>by_cases h0:e=0<;>by_cases h1:e=1<;>simp[aFun,hx,hy,h0,h1]<;>omega
theorem aPol_len (x y:Int):(aPol x y).length<=2:=by
 unfold aPol
 by_cases hx:x=0<;>by_cases hy:y=0<;>simp[hx,hy]
theorem aPol_may (x y:Int) (hx : -100<=x/\x<=100) (hy : -100<=y/\y<=100):Poly.mayB (aPol x y)=true:=by
 refine(Poly.may_iff _).2 ⟨Nat.le_trans (aPol_len x y) (by decide),fun i hi=>?_⟩
 rw[Poly.okB_iff]
 unfold aPol at hi ⊢
 by_cases h0:x=0<;>by_cases h1:y=0<;>simp only[h0,h1,if_true,if_false,List.nil_append,List.append_nil,List.length_nil,List.length_cons,List.singleton_append]at hi ⊢
 · omega
 · obtain rfl:i=0:=by omega
   simp
   omega
 · obtain rfl:i=0:=by omega
   simp
   omega
 · have:i=0∨i=1:=by omega
   rcases this with rfl|rfl<;>simp<;>omega
theorem coef_aPol (x y e:Int):Poly.coefL (aPol x y) e=aFun x y e:=by
 unfold aPol aFun
 by_cases hx:x=0<;>by_cases hy:y=0<;>by_cases h0:e=0<;>by_cases h1:e=1<;>simp[Poly.coefL,hx,hy,h0,h1]<;>omega
theorem aFun_add (x y dx dy e:Int):aFun x y e+aFun dx dy e=aFun (x+dx) (y+dy) e:=by
 unfold aFun
 by_cases h0:e=0
 · simp[h0]
 · by_cases h1:e=1
   · simp[h1]
   · simp[h0,h1]
theorem aPol_sum {r:List (Int×Int)} {x y dx dy:Int} (h:Poly.Canon r (fun e=>Poly.coefL (aPol x y) e+Poly.coefL (aPol dx dy) e)):r=aPol (x+dx) (y+dy):=
 Poly.canon_unique (Poly.canon_congr h fun e=>by rw[coef_aPol,coef_aPol,aFun_add]) (canon_aPol _ _)
def addFa (F:Nat->Int×Int) (p:Nat) (dx dy:Int):Nat->Int×Int:=fun j=>if j=p then((F j).1+dx,(F j).2+dy) else F j
def zeroF:Nat->Int×Int:=fun _=>(0,0)
def rowF (o i v:Nat):Nat->Int×Int:=addFa (addFa (addFa zeroF o 1 0) i 0 (-1)) v (-1) 1
def inC (C:List Cr) (c:Cr):Nat:=if c.plus=true then ovM C c.a.toNat else ovM C c.c.toNat
def outC' (C:List Cr) (c:Cr):Nat:=if c.plus=true then ovM C c.c.toNat else ovM C c.a.toNat
def alF (C:List Cr) (k:Nat):Nat->Int×Int:=rowF (outC' C (C.getD k Cr.none)) (inC C (C.getD k Cr.none)) (ovM C (C.getD k Cr.none).b.toNat)
def smallF (F:Nat->Int×Int) (b:Int):Prop:=∀ j,-b<=(F j).1/\(F j).1<=b /\ -b<=(F j).2/\(F j).2<=b
theorem small_zero:smallF zeroF 0:=fun _=>by simp[zeroF]
theorem small_add {F:Nat->Int×Int} {b:Int} (h:smallF F b) (p:Nat) {dx dy:Int} (hx : -1<=dx/\dx<=1) (hy : -1<=dy/\dy<=1):smallF (addFa F p dx dy) (b+1):=fun j=>by
 have:=h j
 unfold addFa
 by_cases e:j=p
 · rw[if_pos e];simp only;omega
 · rw[if_neg e];omega
def valsL (m:Nat) (f:Nat->Value):List Value:=(List.range m).map f
theorem valsL_len (m:Nat) (f:Nat->Value):(valsL m f).length=m:=by simp[valsL]
theorem valsL_get (m:Nat) (f:Nat->Value) (i:Nat) (h:i<m):(valsL m f)[i]?=some (f i):=by simp[valsL,h]
theorem valsL_set (m:Nat) (f g:Nat->Value) (i:Nat) (x:Value) (h:∀ j,j<m->g j=if j=i then x else f j):(valsL m f).set i x=valsL m g:=by
 apply List.ext_getElem?
 intro j
 by_cases hj:j<m
 · rw[valsL_get m g j hj,h j hj,List.getElem?_set]
   by_cases e:i=j
   · subst e;simp[valsL_len,hj]
   · rw[if_neg e,if_neg (fun h=>e h.symm),valsL_get m f j hj]
 · rw[List.getElem?_eq_none (by simp[valsL_len];omega),List.getElem?_eq_none (by simp[valsL_len];omega)]
theorem made_nilsV (n:Nat):(madeCells (Value.slice none 0 0).cells (n*1)).toList=valsL n fun _=>.slice none 0 0:=by
 have e:(Value.slice none 0 0).cells=#[Value.slice none 0 0]:=rfl
 rw[e,toList_madeCells_one,Nat.mul_one]
 apply List.ext_getElem?
 intro j
 by_cases hj:j<n
 · rw[valsL_get _ _ _ hj];simp[hj]
 · rw[List.getElem?_eq_none (by simp;omega),List.getElem?_eq_none (by simp[valsL_len];omega)]
structure PlcAt (B m g:Nat) (vals:Nat->Value) (F:Nat->Int×Int) (wr:World):Prop where
 row:wr.ownsRow B 56 1 (.slice (some ⟨g,0,none⟩) m m) m (valsL m vals)
 each:∀ j,j<m->wr.ownsRow B 95 2 (vals j) (aPol (F j).1 (F j).2).length (Poly.flat (aPol (F j).1 (F j).2))
theorem PlcAt.any {B m g:Nat} {vals:Nat->Value} {F:Nat->Int×Int} {w w':World} (h:PlcAt B m g vals F w) (hg:w.grownBy w' none):PlcAt B m g vals F w':=⟨own_any h.row hg,fun j hj=>own_any (h.each j hj) hg⟩
theorem PlcAt.set {B m g : Nat} {vals : Nat → Value} {F : Nat → Int × Int} {w w' : World} (h : PlcAt B m g vals F w) (hb : Below w.heap.size w w') (hB : B ≤ w.heap.size) (p : Nat) (dx dy : Int) (v : Value)
    (hv:w'.ownsRow w.heap.size 95 2 v (aPol ((F p).1+dx) ((F p).2+dy)).length (Poly.flat (aPol ((F p).1+dx) ((F p).2+dy)))):PlcAt B m g (fun j=>if j=p then v else vals j) (addFa F p dx dy) (w'.setCell ⟨g,p,none⟩ v):=by
 have h1:=h.any (grown_below hb none)
 have hst:=h1.row.stored p v
 refine⟨?_,fun j hj=>?_⟩
 · rw[<-valsL_set m vals _ p v fun j _=>rfl]
   exact hst.1
 · unfold addFa
   by_cases e:j=p
   · rw[if_pos e,if_pos e,e]
     exact(own_low hv hB).kept hst.2 (own_ne (own_low hv hB) h1.row (by decide))
   · rw[if_neg e,if_neg e]
     exact(h1.each j hj).kept hst.2 (own_ne (h1.each j hj) h1.row (by decide))
end Go.Proofs.Ytgagenmkpmmpfaa
/- Plain mathematics: rings of a renaming, and what becomes of them where two places are traded: two rings become one, or one becomes two. -/
namespace Go.Proofs.Ytgagenmkpmmpfaa
structure Bij (f:Nat->Nat) (M:Nat):Prop where
 lt:∀ x,x<M->f x<M
 inj:∀ x y,x<M->y<M->f x=f y->x=y
def it (f:Nat->Nat):Nat->Nat->Nat
 |0,x=>x
 |i+1,x=>f (it f i x)
theorem it_lt {f:Nat->Nat} {M:Nat} (h:Bij f M) {x:Nat} (hx:x<M):∀ i,it f i x<M:=by
 intro i
 induction i with
 |zero=>exact hx
 |succ i ih=>exact h.lt _ ih
theorem it_add (f:Nat->Nat) (x:Nat):∀ i j,it f (i+j) x=it f i (it f j x):=by
 intro i j
 induction i with
 |zero=>rw[Nat.zero_add];rfl
 |succ i ih=>rw[show i+1+j=(i+j)+1 by omega];show f (it f (i+j) x)=f (it f i (it f j x));rw[ih]
theorem it_back {f:Nat->Nat} {M:Nat} (h:Bij f M) {x y:Nat} (hx:x<M) (hy:y<M):∀ i,it f i x=it f i y->x=y:=by
 intro i
 induction i with
 |zero=>exact id
 |succ i ih=>intro e;exact ih (h.inj _ _ (it_lt h hx i) (it_lt h hy i) e)
theorem period {f:Nat->Nat} {M:Nat} (h:Bij f M) {x:Nat} (hx:x<M):∃ p,0<p/\it f p x=x:=by
 refine Classical.byContradiction fun hn=>?_
 have hp:∀ p,0<p->it f p x≠x:=fun p h0 e=>hn ⟨p,h0,e⟩
 have hd:((List.range (M+1)).map fun i=>it f i x).Nodup:=by
  unfold List.Nodup
  rw[List.pairwise_map]
  refine List.Pairwise.imp ?_ (List.pairwise_lt_range (n:=M+1))
  intro i j hij e
  have e2:it f i x=it f i (it f (j-i) x):=by rw[<-it_add,show i+(j-i)=j by omega];exact e
  exact hp (j-i) (by omega) (it_back h hx (it_lt h hx _) i e2).symm
 have hl := hd.length_le_of_subset (l₂ := List.range M) (fun y hy => by
  obtain⟨i,-,rfl⟩:=List.mem_map.1 hy
  exact List.mem_range.2 (it_lt h hx i))
 rw[List.length_map,List.length_range,List.length_range]at hl
 omega
def eds (f:Nat->Nat) (M:Nat):List (Nat×Nat):=(List.range M).map fun i=>(i,f i)
theorem eds_mem {f:Nat->Nat} {M i:Nat} (h:i<M):(i,f i)∈eds f M:=List.mem_map.2 ⟨i,List.mem_range.2 h,rfl⟩
theorem eds_lt {f:Nat->Nat} {M:Nat} (h:∀ x,x<M->f x<M):∀ e,e∈eds f M->e.1<M/\e.2<M:=fun e he=>by
 obtain⟨i,hi,rfl⟩:=List.mem_map.1 he
 exact⟨List.mem_range.1 hi,h _ (List.mem_range.1 hi)⟩
theorem closed_eds {f:Nat->Nat} {M:Nat} {S:Nat->Prop}:Closed (eds f M) S↔∀ i,i<M->(S i↔S (f i)):=by
 constructor
 · intro h i hi
   exact h _ (eds_mem hi)
 · intro h e he
   obtain⟨i,hi,rfl⟩:=List.mem_map.1 he
   exact h i (List.mem_range.1 hi)
theorem con_f {f:Nat->Nat} {M x:Nat} (hx:x<M):Con (eds f M) x (f x):=Con.edge (eds_mem hx)
theorem con_it {f:Nat->Nat} {M:Nat} (h:Bij f M) {x:Nat} (hx:x<M):∀ i,Con (eds f M) x (it f i x):=by
 intro i
 induction i with
 |zero=>exact Con.refl _ _
 |succ i ih=>exact ih.trans (con_f (it_lt h hx i))
theorem it_con {f:Nat->Nat} {M:Nat} (h:Bij f M) {x y:Nat} (hx:x<M) (hc:Con (eds f M) x y):∃ i,it f i x=y:=by
 refine hc (fun z=>∃ i,it f i x=z) (closed_eds.2 fun z hz=>⟨?_,?_⟩) ⟨0,rfl⟩
 · rintro⟨i,rfl⟩
   exact⟨i+1,rfl⟩
 · rintro⟨i,e⟩
   cases i with
   |zero=>
    obtain⟨p,h0,hp⟩:=period h hx
    cases p with
    |zero=>omega
    |succ p=>
     refine⟨p,h.inj _ _ (it_lt h hx p) hz ?_⟩
     have e1:x=f z:=e
     exact Eq.trans hp e1
   |succ i=>exact⟨i,h.inj _ _ (it_lt h hx i) hz e⟩
theorem first_of {P:Nat->Prop} (h:∃ i,P i):∃ r,P r/\∀ i,i<r->¬ P i:=by
 obtain⟨i,hi⟩:=h
 induction i using Nat.strongRecOn with
 |ind i ih=>
  by_cases hs:∃ j,j<i/\P j
  · obtain⟨j,hj,hp⟩:=hs
    exact ih j hj hp
  · exact⟨i,hi,fun j hj hp=>hs ⟨j,hj,hp⟩⟩
def tr (f:Nat->Nat) (a b x:Nat):Nat:=if x=a then f b else if x=b then f a else f x
theorem tr_a (f:Nat->Nat) (a b:Nat):tr f a b a=f b:=by simp[tr]
theorem tr_b (f:Nat->Nat) (a b:Nat):tr f a b b=f a:=by
 unfold tr
 by_cases h:b=a
 · rw[if_pos h,h]
 · rw[if_neg h,if_pos rfl]
theorem tr_o (f:Nat->Nat) {a b x:Nat} (h1:x≠a) (h2:x≠b):tr f a b x=f x:=by simp[tr,h1,h2]
theorem tr_tr (f:Nat->Nat) (a b x:Nat):tr (tr f a b) a b x=f x:=by
 by_cases h1:x=a
 · rw[h1,tr_a,tr_b]
 · by_cases h2:x=b
   · rw[h2,tr_b,tr_a]
   · rw[tr_o _ h1 h2,tr_o _ h1 h2]
theorem Bij.tr {f:Nat->Nat} {M:Nat} (h:Bij f M) {a b:Nat} (ha:a<M) (hb:b<M):Bij (tr f a b) M:=by
 have key:∀ x,x<M->∃ z,z<M/\Proofs.Ytgagenmkpmmpfaa.tr f a b x=f z/\(x=a->z=b)/\(x=b->z=a)/\(x≠a->x≠b->z=x):=by
  intro x hx
  by_cases h1:x=a
  · exact⟨b,hb,by rw[h1,tr_a],fun _=>rfl,fun e=>by omega,fun q=>absurd h1 q⟩
  · by_cases h2:x=b
    · exact⟨a,ha,by rw[h2,tr_b],fun q=>absurd q h1,fun _=>rfl,fun _ q=>absurd h2 q⟩
    · exact⟨x,hx,tr_o f h1 h2,fun q=>absurd q h1,fun q=>absurd q h2,fun _ _=>rfl⟩
 refine⟨fun x hx=>?_,fun x y hx hy e=>?_⟩
 · obtain⟨z,hz,e,-⟩:=key x hx
   rw[e]
   exact h.lt z hz
 · obtain⟨z,hz,e1,p1,p2,p3⟩:=key x hx
   obtain⟨u,hu,e2,q1,q2,q3⟩:=key y hy
   have e3:z=u:=h.inj z u hz hu (by rw[<-e1,<-e2,e])
   by_cases c1:x=a
   · have:=p1 c1
     by_cases c2:y=a
     · omega
     · by_cases c3:y=b
       · have:=q2 c3;omega
       · have:=q3 c2 c3;omega
   · by_cases c1b:x=b
     · have:=p2 c1b
       by_cases c2:y=a
       · have:=q1 c2;omega
       · by_cases c3:y=b
         · omega
         · have:=q3 c2 c3;omega
     · have:=p3 c1 c1b
       by_cases c2:y=a
       · have:=q1 c2;omega
       · by_cases c3:y=b
         · have:=q2 c3;omega
         · have:=q3 c2 c3;omega
theorem con_tr {f:Nat->Nat} {M:Nat} (h:Bij f M) {a b:Nat} (ha:a<M) (hb:b<M) (hn:¬ Con (eds f M) a b):Con (eds (tr f a b) M) a b:=by
 intro S hS hSa
 have hS':=closed_eds.1 hS
 have h1:S (f b):=by have:=(hS' a ha).1 hSa;rwa [tr_a]at this
 obtain⟨p,h0,hp⟩:=period h hb
 have key:∀ i,S b∨S (it f (i+1) b):=by
  intro i
  induction i with
  |zero=>exact Or.inr h1
  |succ i ih=>
   rcases ih with ih|ih
   · exact Or.inl ih
   · by_cases e:it f (i+1) b=b
     · rw[e]at ih;exact Or.inl ih
     · have ea:it f (i+1) b≠a:=fun q=>hn (q▸(con_it h hb (i+1)).symm)
       have:=(hS' _ (it_lt h hb (i+1))).1 ih
       rw[tr_o f ea e]at this
       exact Or.inr this
 have:=key (p-1)
 rw[show p-1+1=p by omega,hp]at this
 exact this.elim id id
theorem con_join {f:Nat->Nat} {M:Nat} (h:Bij f M) {a b:Nat} (ha:a<M) (hb:b<M) (hn:¬ Con (eds f M) a b) (x y:Nat):Con (eds (tr f a b) M) x y↔Con (eds f M++[(a,b)]) x y:=by
 have hab:=con_tr h ha hb hn
 constructor
 · intro hc S hS
   refine hc S (closed_eds.2 fun i hi=>?_)
   have h1:=closed_eds.1 (fun e he=>hS e (List.mem_append_left _ he):Closed (eds f M) S)
   have h2:S a↔S b:=hS (a,b) (List.mem_append_right _ (List.Mem.head _))
   by_cases e1:i=a
   · rw[e1,tr_a,h2];exact h1 b hb
   · by_cases e2:i=b
     · rw[e2,tr_b,<-h2];exact h1 a ha
     · rw[tr_o f e1 e2];exact h1 i hi
 · intro hc S hS
   have h1:=closed_eds.1 hS
   have h2:S a↔S b:=⟨hab S hS,hab.symm S hS⟩
   refine hc S fun e he=>?_
   rcases List.mem_append.1 he with he|he
   · obtain⟨i,hi,rfl⟩:=List.mem_map.1 he
     have hi:=List.mem_range.1 hi
     show S i↔S (f i)
     by_cases e1:i=a
     · rw[e1,h2];have:=h1 b hb;rwa [tr_b]at this
     · by_cases e2:i=b
       · rw[e2,<-h2];have:=h1 a ha;rwa [tr_a]at this
       · have:=h1 i hi;rwa [tr_o f e1 e2]at this
   · rw[List.mem_singleton.1 he];exact h2
theorem con_part {f:Nat->Nat} {M:Nat} (h:Bij f M) {a b:Nat} (ha:a<M) (hb:b<M) (hab:a≠b) (hc:Con (eds f M) a b):¬ Con (eds (tr f a b) M) a b:=by
 intro hcon
 obtain⟨r,hr,hmin⟩:=first_of (it_con h hb hc.symm)
 have r0:0<r:=Nat.pos_of_ne_zero fun q=>by rw[q]at hr;exact hab hr.symm
 have hB:=h.tr ha hb
 have nb:∀ i,1<=i->i<=r->it f i b≠b:=fun i h1 h2 e=>by
  by_cases e2:i=r
  · rw[e2,hr]at e;exact hab e
  · refine hmin (r-i) (by omega) ?_
    have:=it_add f b (r-i) i
    rw[e,show r-i+i=r by omega,hr]at this
    exact this.symm
 have nxt:∀ i,1<=i->i<r->tr f a b (it f i b)=it f (i+1) b:=fun i h1 h2=>tr_o f (hmin i h2) (nb i h1 (by omega))
 have hS:Closed (eds (tr f a b) M) fun z=>∃ i,1<=i/\i<=r/\it f i b=z:=closed_eds.2 fun z hz=>by
  constructor
  · rintro⟨i,h1,h2,rfl⟩
    by_cases e:i=r
    · rw[e,hr,tr_a];exact⟨1,Nat.le_refl _,r0,rfl⟩
    · exact⟨i+1,by omega,by omega,(nxt i h1 (by omega)).symm⟩
  · rintro⟨i,h1,h2,e⟩
    by_cases e1:i=1
    · refine⟨r,r0,Nat.le_refl _,?_⟩
      rw[hr]
      refine hB.inj a z ha hz ?_
      rw[tr_a,<-e,e1]
      rfl
    · refine⟨i-1,by omega,by omega,?_⟩
      refine hB.inj _ z (it_lt h hb _) hz ?_
      rw[nxt (i-1) (by omega) (by omega),<-e,show i-1+1=i by omega]
 obtain⟨i,h1,h2,e⟩:=hcon _ hS ⟨r,r0,Nat.le_refl _,hr⟩
 exact nb i h1 h2 e
def rq (W:List Nat) (Q:Nat->Bool):Nat->Nat
 |0=>0
 |k+1=>rq W Q k+(if W.getD k 0=k/\Q k=true then 1 else 0)
theorem rq_mer {Ed:List (Nat×Nat)} {n:Nat} {W:List Nat} (h:Least Ed n W) (Q:Nat->Bool) {x y:Nat} (hx:x<n) (hy:y<n) (hne:W.getD x 0≠W.getD y 0):∀ k,k<=n->rq (mer W x y) Q k+(if max (W.getD x 0) (W.getD y 0)<k/\Q (max (W.getD x 0) (W.getD y 0))=true then 1 else 0)=rq W Q k:=by
 have rx:=h.root hx
 have ry:=h.root hy
 generalize hmx:max (W.getD x 0) (W.getD y 0)=m
 have hmr:W.getD m 0=m:=by
  rcases Nat.le_total (W.getD x 0) (W.getD y 0) with hle|hle
  · have:m=W.getD y 0:=by omega
    rw[this];exact ry
  · have:m=W.getD x 0:=by omega
    rw[this];exact rx
 intro k
 induction k with
 |zero=>intro _;simp[rq]
 |succ k ih=>
  intro hk
  have i1:=ih (by omega)
  have hm:=mer_at W x y k (by rw[h.1];omega)
  rw[hmx]at hm
  simp only[rq]
  by_cases he:k=m
  · subst he
    rw[if_pos hmr]at hm
    rw[if_neg (by omega)]at i1
    rw[if_neg (show ¬ ((mer W x y).getD k 0=k/\Q k=true) from fun q=>by have:=q.1;omega)]
    by_cases hq:Q k=true
    · rw[if_pos (show k<k+1/\Q k=true from⟨by omega,hq⟩),if_pos (show W.getD k 0=k/\Q k=true from⟨hmr,hq⟩)];omega
    · rw[if_neg (show ¬ (k<k+1/\Q k=true) from fun q=>hq q.2),if_neg (show ¬ (W.getD k 0=k/\Q k=true) from fun q=>hq q.2)];omega
  · have hiff : ((mer W x y).getD k 0 = k) ↔ (W.getD k 0 = k) := by
      by_cases hr:W.getD k 0=k
      · rw[if_neg (by omega)]at hm
        rw[hm]
      · have h2 : ¬ (mer W x y).getD k 0 = k := by
          rw[hm]
          split
          · intro e
            rcases Nat.le_total (W.getD x 0) (W.getD y 0) with hle2|hle2
            · have e1:k=W.getD x 0:=by omega
              exact hr (by rw[e1];exact rx)
            · have e1:k=W.getD y 0:=by omega
              exact hr (by rw[e1];exact ry)
          · exact hr
        exact⟨fun q=>absurd q h2,fun q=>absurd q hr⟩
    rw[show(if(mer W x y).getD k 0=k/\Q k=true then 1 else 0)=(if W.getD k 0=k/\Q k=true then 1 else 0) by simp only[hiff]]
    by_cases hq:m<k/\Q m=true
    · rw[if_pos hq]at i1
      rw[if_pos (show m<k+1/\Q m=true from⟨by omega,hq.2⟩)]
      omega
    · rw[if_neg hq]at i1
      rw[if_neg (show ¬ (m<k+1/\Q m=true) from fun q=>hq ⟨by omega,q.2⟩)]
      omega
def cyW (f:Nat->Nat) (M:Nat):List Nat:=levR (List.range M) (eds f M) M
theorem cyW_least {f:Nat->Nat} {M:Nat} (h:∀ x,x<M->f x<M):Least (eds f M) M (cyW f M):=levR_least (eds_lt h) M (Nat.le_refl _)
def cyN (f:Nat->Nat) (M:Nat) (Q:Nat->Bool):Nat:=rq (cyW f M) Q M
theorem least_congr {E F:List (Nat×Nat)} {n:Nat} {W:List Nat} (h:Least E n W) (e:∀ x y,Con E x y↔Con F x y):Least F n W:=
 ⟨h.1,fun v hv=>⟨(e _ _).1 (h.2 v hv).1,fun u hu=>(h.2 v hv).2 u ((e _ _).2 hu)⟩⟩
theorem cyN_join {f:Nat->Nat} {M:Nat} (h:Bij f M) (Q:Nat->Bool) {a b:Nat} (ha:a<M) (hb:b<M) (hn:¬ Con (eds f M) a b) (hQ:∀ x y,x<M->Con (eds f M) x y->Q x=Q y) (hab:Q a=Q b):cyN (tr f a b) M Q+(if Q a=true then 1 else 0)=cyN f M Q:=by
 have hW:=cyW_least h.lt
 have hW':=cyW_least (h.tr ha hb).lt
 have e:cyW (tr f a b) M=mer (cyW f M) a b:=hW'.eq (least_congr (mer_least hW a b ha hb (eds_lt h.lt)) fun x y=>(con_join h ha hb hn x y).symm)
 have hne:(cyW f M).getD a 0≠(cyW f M).getD b 0:=fun q=>hn ((hW.same ha hb).1 q)
 have hm:=rq_mer hW Q ha hb hne M (Nat.le_refl _)
 have la:=hW.lt ha
 have lb:=hW.lt hb
 have qa:=hQ a _ ha (hW.2 a ha).1
 have qb:=hQ b _ hb (hW.2 b hb).1
 have qm:Q (max ((cyW f M).getD a 0) ((cyW f M).getD b 0))=Q a:=by
  rcases Nat.le_total ((cyW f M).getD a 0) ((cyW f M).getD b 0) with hle|hle
  · rw[Nat.max_eq_right hle,<-qb,hab]
  · rw[Nat.max_eq_left hle,<-qa]
 rw[qm]at hm
 unfold cyN
 rw[e,<-hm]
 by_cases hq:Q a=true
 · rw[if_pos hq,if_pos ⟨by omega,hq⟩]
 · rw[if_neg hq,if_neg fun q=>hq q.2]
theorem eds_congr {f g:Nat->Nat} {M:Nat} (e:∀ x,x<M->f x=g x):eds f M=eds g M:=by
 unfold eds
 refine List.map_congr_left fun i hi=>?_
 rw[e i (List.mem_range.1 hi)]
theorem cyN_congr {f g:Nat->Nat} {M:Nat} (e:∀ x,x<M->f x=g x) (Q:Nat->Bool):cyN f M Q=cyN g M Q:=by
 unfold cyN cyW
 rw[eds_congr e]
theorem cyN_part {f:Nat->Nat} {M:Nat} (h:Bij f M) (Q:Nat->Bool) {a b:Nat} (ha:a<M) (hb:b<M) (hne:a≠b) (hc:Con (eds f M) a b) (hQ:∀ x y,x<M->Con (eds f M) x y->Q x=Q y):cyN f M Q+(if Q a=true then 1 else 0)=cyN (tr f a b) M Q:=by
 have hn:=con_part h ha hb hne hc
 have hB:=h.tr ha hb
 have hQ':∀ x y,x<M->Con (eds (tr f a b) M) x y->Q x=Q y:=fun x y hx hxy=>by
  have := hxy (fun z => Q x = Q z) (closed_eds.2 fun i hi => by
   have e:Q i=Q (tr f a b i):=by
    by_cases e1:i=a
    · rw[e1,tr_a,hQ a b ha hc];exact hQ b _ hb (con_f hb)
    · by_cases e2:i=b
      · rw[e2,tr_b,<-hQ a b ha hc];exact hQ a _ ha (con_f ha)
      · rw[tr_o f e1 e2];exact hQ i _ hi (con_f hi)
   rw[e]) rfl
  exact this
 have k:=cyN_join hB Q ha hb hn hQ' (hQ a b ha hc)
 rw[cyN_congr (fun x _=>tr_tr f a b x)]at k
 exact k
end Go.Proofs.Ytgagenmkpmmpfaa
/- Tellings of pieces: plain mathematics; the walk of ref.otherEnd. -/
namespace Go.Proofs.Ytgagenmkpmmpfaa
open Go.RowKit
def nbS (C:List Cr) (k s:Nat):Nat:=enS C ((C.getD k Cr.none).arc s).toNat (!(C.getD k Cr.none).comes s)
theorem nb_may {C : List Cr} {loops : Int} (hm : mayD C loops = true) (k s : Nat) (hk : k < C.length) (hs : s < 4) :
    (1<=((C.getD k Cr.none).arc s).toNat/\((C.getD k Cr.none).arc s).toNat<=2*C.length/\(C.getD k Cr.none).arc s=(((C.getD k Cr.none).arc s).toNat:Int))/\
    endTo C ((C.getD k Cr.none).arc s).toNat (!(C.getD k Cr.none).comes s) C.length=((nbC C k s:Int),(nbS C k s:Int))/\nbC C k s<C.length/\nbS C k s<4:=by
 have hf:=may_fit hm k s hk hs
 have g1:=hf.1
 have g2:=hf.2.1
 have ha:1<=((C.getD k Cr.none).arc s).toNat/\((C.getD k Cr.none).arc s).toNat<=2*C.length:=by omega
 have h:=en_may hm _ (!(C.getD k Cr.none).comes s) ha.1 ha.2
 exact⟨⟨ha.1,ha.2,by omega⟩,h.1,h.2.1,h.2.2.1⟩
def teS (C:List Cr) (c:Nat) (p:List Nat×List Int) (s:Nat):List Nat×List Int:=
 let o:=if nbC C c s∈p.1 then p.1 else p.1++[nbC C c s]
 (o,p.2++[(o.idxOf (nbC C c s):Int),(nbS C c s:Int)])
def teK (C:List Cr) (i:Nat) (p:List Nat×List Int):Nat->List Nat×List Int
 |0=>(p.1,p.2++[if(C.getD (p.1.getD i 0) Cr.none).plus=true then 1 else 0])
 |k+1=>teS C (p.1.getD i 0) (teK C i p k) k
def teI (C:List Cr) (first:Nat):Nat->List Nat×List Int
 |0=>([first],[])
 |i+1=>if i<(teI C first i).1.length then teK C i (teI C first i) 4 else teI C first i
def te (C:List Cr) (first:Nat):List Nat×List Int:=teI C first C.length
structure TeOk (C:List Cr) (p:List Nat×List Int):Prop where
 lt:∀ x,x∈p.1->x<C.length
 nd:p.1.Nodup
theorem TeOk.few {C:List Cr} {p:List Nat×List Int} (h:TeOk C p):p.1.length<=C.length:=by
 have:=List.Nodup.length_le_of_subset h.nd (l₂:=List.range C.length) (fun x hx=>List.mem_range.2 (h.lt x hx))
 simpa using this
theorem teS_ok {C:List Cr} {loops:Int} (hm:mayD C loops=true) {c:Nat} (hc:c<C.length) {p:List Nat×List Int} (h:TeOk C p) {s:Nat} (hs:s<4):TeOk C (teS C c p s):=by
 have hn:=(nb_may hm c s hc hs).2.2.1
 unfold teS
 simp only
 split
 · exact⟨h.lt,h.nd⟩
 · rename_i hno
   refine⟨fun x hx=>?_,?_⟩
   · rcases List.mem_append.1 hx with hx|hx
     · exact h.lt x hx
     · simp only[List.mem_singleton]at hx;omega
   · refine List.nodup_append.2 ⟨h.nd,by simp,fun a ha b hb e=>?_⟩
     simp only[List.mem_singleton]at hb
     rw[e,hb]at ha
     exact hno ha
end Go.Proofs.Ytgagenmkpmmpfaa
/- Lists of twists: which may be; the walks of tangle.size, ref.abs, tangle.refusal and ref.ListMay. -/
namespace Go.Proofs.Ytgagenmkpmmpfaa
open Go.RowKit
set_option maxHeartbeats 4000000
set_option maxRecDepth 100000
def szTo (l:List Int):Nat->Nat
 |0=>0
 |k+1=>szTo l k+(l.getD k 0).natAbs
def wide (x:Int):Bool:=decide (x < -16)||decide (16<x)
def listN (l:List Int):Int:=if l.any wide=true then 3 else if l.length%2=0∨16<szTo l l.length then 2 else 0
theorem wide_no {x:Int} (h:wide x=false) : -16<=x/\x<=16:=by
 simp only[wide,Bool.or_eq_false_iff,decide_eq_false_iff_not]at h
 omega
theorem wide_yes {x:Int} (h:x < -16∨16<x):wide x=true:=by
 simp only[wide,Bool.or_eq_true,decide_eq_true_eq]
 exact h
theorem getD_memT {l:List Int} {i:Nat} (h:i<l.length):l.getD i 0∈l:=by
 rw[List.getD_eq_getElem?_getD,List.getElem?_eq_getElem h]
 exact List.getElem_mem h
theorem szTo_le (l:List Int) (k:Nat) (h:∀ j,j<k -> -16<=l.getD j 0/\l.getD j 0<=16):szTo l k<=16*k:=by
 induction k with
 |zero=>exact Nat.le_refl _
 |succ k ih=>
  have h1:=ih fun j hj=>h j (by omega)
  have h2:=h k (by omega)
  simp only[szTo]
  omega
theorem listN_bad {l:List Int} {i:Nat} (h:i<l.length) (hb:l.getD i 0 < -16∨16<l.getD i 0):listN l=3:=by
 unfold listN
 rw[if_pos (List.any_eq_true.2 ⟨_,getD_memT h,wide_yes hb⟩)]
theorem listN_good {l:List Int} (h:∀ j,j<l.length -> -16<=l.getD j 0/\l.getD j 0<=16):listN l=if l.length%2=0∨16<szTo l l.length then 2 else 0:=by
 unfold listN
 rw[if_neg]
 intro hc
 obtain⟨x,hx,hw⟩:=List.any_eq_true.1 hc
 obtain⟨j,hj,rfl⟩:=List.getElem_of_mem hx
 have:=h j hj
 rw[List.getD_eq_getElem?_getD,List.getElem?_eq_getElem hj]at this
 simp only[wide,Bool.or_eq_true,decide_eq_true_eq,Option.getD_some]at hw this
 omega
theorem listN_ok {l:List Int} (h:listN l=0):(∀ j,j<l.length -> -16<=l.getD j 0/\l.getD j 0<=16)/\l.length%2=1/\szTo l l.length<=16:=by
 unfold listN at h
 by_cases h1:l.any wide=true
 · rw[if_pos h1]at h;cases h
 · rw[if_neg h1]at h
   by_cases h2:l.length%2=0∨16<szTo l l.length
   · rw[if_pos h2]at h;cases h
   · refine⟨fun j hj=>wide_no ?_,by omega,by omega⟩
     cases e:wide (l.getD j 0) with
     |false=>rfl
     |true=>exact absurd (List.any_eq_true.2 ⟨_,getD_memT hj,e⟩) h1
theorem RdAt.intAt {w : World} {B : Nat} {a : Option Addr} {cap : Nat} {l : List Int} (h : RdAt w B 1 (.slice a l.length cap) l.length (intsV l)) (k : Nat) (hk : k < l.length) :
    ∃ b off,a=some ⟨b,off,none⟩/\b<B/\w.cell? ⟨b,off+k,none⟩=some (.int .i64 (l.getD k 0)):=by
 obtain⟨a',cap',e,f⟩:=h
 injection e with e1 e2 e3
 obtain⟨b,off,eb,hlt,hc⟩:=f (by omega)
 refine⟨b,off,e1.trans eb,hlt,(hc k (by omega)).trans ?_⟩
 simp[intsV,List.getD,hk]
theorem size_any (x : Int) (w : World) (h1 : -1000 ≤ x) (h2 : x ≤ 1000) :
    Calls Try.prog 24 #[.int .i64 x] w fun e w'=>e=.returned (.int .i64 (x.natAbs:Int))/\w'=w:=by
 go_enter Try.func24,Try.ntmps24
 go_wp2
 all_goals(go_ret;exact⟨ret_int (by omega),rfl⟩)
theorem tgRefusal_any (a : Option Addr) (cap : Nat) (l : List Int) (w : World) (hl : l.length ≤ 140737488355328) (h : RdAt w w.heap.size 1 (.slice a l.length cap) l.length (intsV l)) :
    Calls Try.prog 12 #[.slice a l.length cap] w fun e w'=>e=.returned (.int .i64 (listN l))/\Below w.heap.size w w':=by
 have HR:Hid (RdAt w w.heap.size 1 (.slice a l.length cap) l.length (intsV l)):=h
 have HB:Hid (Below w.heap.size w w):=Below.refl _ _
 obtain⟨n,hN⟩:∃ n,l.length=n:=⟨_,rfl⟩
 have HN:Hid (l.length=n):=hN
 rw[hN]at hl ⊢
 clear h hN
 go_enter Try.func12,Try.ntmps12
 go_wp2
 go_loopw [3,8] (fun v3 v8 wr=>∃ i:Nat,i<=n/\v8=.int .i64 (i:Nat)/\v3=.int .i64 (szTo l i:Nat)/\Hid (∀ j,j<i -> -16<=l.getD j 0/\l.getD j 0<=16)/\Hid (Below w.heap.size w wr)) (fun _ v8 _=>n-(intOf v8).toNat)
 case atStart=>exact⟨0,Nat.zero_le _,rfl,rfl,(fun j hj=>by omega),HB.out⟩
 case round=>
  clear HB
  rename World=>W1
  obtain⟨i,hin,rfl,rfl,hall,hb⟩:=hrel
  have hsz:=szTo_le l i hall.out
  by_cases hil:i<n
  · obtain⟨b,off,ea,hbw,hc⟩:=HR.out.intAt i (by rw[HN.out];exact hil)
    have e0:=bcell hb.out hbw hc
    have hsW:=hb.out.size
    have hbW:b<W1.heap.size:=by omega
    have HIL:Hid (i<l.length):=(by rw[HN.out];exact hil:i<l.length)
    have HS:Hid (szTo l (i+1)=szTo l i+(l.getD i 0).natAbs):=(rfl:szTo l (i+1)=szTo l i+(l.getD i 0).natAbs)
    obtain⟨x,hx⟩:∃ x,l.getD i 0=x:=⟨_,rfl⟩
    have HX:Hid (l.getD i 0=x):=hx
    obtain⟨y,hy⟩:∃ y,szTo l i=y:=⟨_,rfl⟩
    rw[hx]at e0 HS
    rw[hy]at HS hsz ⊢
    have HEA:Hid (a=some ⟨b,off,none⟩):=ea
    subst ea
    clear hx hy hc
    by_cases h1:x < -16
    · have HL:Hid (listN l=3):=listN_bad HIL.out (by rw[HX.out];exact Or.inl h1)
      go_wp2
      go_ret
      exact⟨ret_int HL.out.symm,hb.out⟩
    · by_cases h2:16<x
      · have HL:Hid (listN l=3):=listN_bad HIL.out (by rw[HX.out];exact Or.inr h2)
        go_wp2
        go_ret
        exact⟨ret_int HL.out.symm,hb.out⟩
      · go_wp2_with (go_at_call 24;refine(size_any x _ (by omega) (by omega)).mono ?_;rintro e9 w9 ⟨rfl,rfl⟩;refine Hid.out ?_)
        refine Lib.hid ?_
        have hna:x.natAbs<=16:=by omega
        obtain⟨z,hz⟩:∃ z,x.natAbs=z:=⟨_,rfl⟩
        rw[hz]at hna HS ⊢
        clear hz
        go_wp2
        go_roundw
        case rel => exact ⟨i + 1, by omega, by go_num, by rw [HS.out]; go_num, (fun j hj => by
         by_cases e:j=i
         · rw[e,HX.out];omega
         · exact hall.out j (by omega):∀ j,j<i+1 -> -16<=l.getD j 0/\l.getD j 0<=16),hb.out⟩
        case measure=>simp only[intOf];omega
  · obtain rfl:i=n:=by omega
    have HL:Hid (listN l=if i%2=0∨16<szTo l i then 2 else 0):=(by rw[listN_good (by rw[HN.out];exact hall.out),HN.out]:listN l=if i%2=0∨16<szTo l i then 2 else 0)
    obtain⟨y,hy⟩:∃ y,szTo l i=y:=⟨_,rfl⟩
    rw[hy]at HL hsz ⊢
    clear hy
    have er:(i:Int).tmod 2=((i%2:Nat):Int):=rfl
    obtain⟨r,hr⟩:∃ r,i%2=r:=⟨_,rfl⟩
    have hr2:r<2:=by omega
    rw[hr]at er HL
    clear hr
    by_cases hr0:r=0
    · have HL2:Hid (listN l=2):=(by rw[HL.out,if_pos (Or.inl hr0)]:listN l=2)
      subst hr0
      go_wp2
      go_ret
      exact⟨ret_int HL2.out.symm,hb.out⟩
    · have hrz:((r:Int)==0)=false:=by simp;omega
      by_cases hy:16<y
      · have HL2:Hid (listN l=2):=(by rw[HL.out,if_pos (Or.inr hy)]:listN l=2)
        go_wp2
        go_ret
        exact⟨ret_int HL2.out.symm,hb.out⟩
      · have HL2:Hid (listN l=0):=(by rw[HL.out,if_neg (by omega)]:listN l=0)
        go_wp2
        go_ret
        exact⟨ret_int HL2.out.symm,hb.out⟩
end Go.Proofs.Ytgagenmkpmmpfaa

/- Several texts of the proof, one behind the other. -/
import Derived.Test.YtgagenmkpmmpfaaAS4P
import Derived.Test.YtgagenmkpmmpfaaCyHP
import Derived.Test.YtgagenmkpmmpfaaCySP
import Derived.Test.YtgagenmkpmmpfaaAS3P
import Derived.Test.YtgagenmkpmmpfaaAD2P
/- Alexander's minor of a sum, by arcs: the product of both but for powers of t. -/
namespace Go.Proofs.Ytgagenmkpmmpfaa
theorem dZ_rtrade (a b:Nat->Int) (Y:List (Nat->Int)):∀ (X:List (Nat->Int)) (cs:List Nat),dZ (X++a::b::Y) cs = -dZ (X++b::a::Y) cs
 |[],cs=>rowZ_swap a b cs (dZ Y)
 |x::X,cs=>by
  show rowZ x cs (dZ (X++a::b::Y)) = -rowZ x cs (dZ (X++b::a::Y))
  have e:dZ (X++a::b::Y)=fun rest => -1*dZ (X++b::a::Y) rest:=funext fun rest=>by rw[dZ_rtrade a b Y X rest];omega
  rw[e,rowZ_mul];omega
theorem dZ_rperm {R R':List (Nat->Int)} (h:R.Perm R') (cs:List Nat):(dZ R cs).natAbs=(dZ R' cs).natAbs:=by
 have key:∀ {R R':List (Nat->Int)},R.Perm R'->∀ X:List (Nat->Int),(dZ (X++R) cs).natAbs=(dZ (X++R') cs).natAbs:=fun h=>by
  induction h with
  |nil=>intro X;rfl
  |cons c _ ih=>
   intro X
   have:=ih (X++[c])
   simpa using this
  |swap c d l=>
   intro X
   rw[dZ_rtrade,Int.natAbs_neg]
  |trans _ _ ih1 ih2=>intro X;rw[ih1 X,ih2 X]
 exact key h []
theorem dZ_combI {α:Type} (f:α->Nat->Int) (w:α->Int) (cs:List Nat) (I:List α):∀ (X Z:List α) (a:Nat->Int),I=Z++X->dZ ((fun c=>a c+(X.map fun i=>w i*f i c).sum)::I.map f) cs=dZ (a::I.map f) cs
 |[],Z,a,_=>by simp
 |i::X,Z,a,e=>by
  have h1:=dZ_combI f w cs I X (Z++[i]) (fun c=>a c+w i*f i c) (by rw[e];simp)
  have h2:=dZ_lin [] (I.map f) a (f i) (w i) cs
  have h3:dZ (f i::I.map f) cs=0:=by rw[e,List.map_append,List.map_cons];exact dZ_same (Z.map f) (X.map f) (f i) cs
  simp only[List.nil_append]at h2
  rw[h2,h3,Int.mul_zero,Int.add_zero]at h1
  rw[<-h1]
  congr 2
  funext c
  simp only[List.map_cons,List.sum_cons]
  omega
theorem rowZ_block (r:Nat->Int) (Y:List Nat) (D:Int) (hr:∀ c∈Y,r c=0):∀ (X:List Nat) (h g:List Nat->Int),(∀ rest,rest.length+1=X.length->h (rest++Y)=g rest*D)->rowZ r (X++Y) h=rowZ r X g*D
 |[],h,_,_=>by
  show rowZ r Y h=0*D
  rw[rowZ_none r Y h hr];omega
 |c::X,h,g,hh=>by
  show r c*h (X++Y)-rowZ r (X++Y) _=(r c*g X-rowZ r X _)*D
  rw[hh X rfl,rowZ_block r Y D hr X (fun rest=>h (c::rest)) (fun rest=>g (c::rest)) (fun rest hl=>hh (c::rest) (by simp;omega))]
  grind
theorem dZ_block (Q:List (Nat->Int)) (Y:List Nat):∀ (P:List (Nat->Int)) (X:List Nat),P.length=X.length->(∀ r∈P,∀ c∈Y,r c=0)->dZ (P++Q) (X++Y)=dZ P X*dZ Q Y
 |[],X,hl,_=>by
  obtain rfl:X=[]:=List.length_eq_zero_iff.1 hl.symm
  show dZ Q Y=1*dZ Q Y
  omega
 |r::P,X,hl,hz=>rowZ_block r Y (dZ Q Y) (hz r (.head _)) X _ _ fun rest hr=>dZ_block Q Y P rest (by simp at hl;omega) fun r' h'=>hz r' (.tail _ h')
def lmK (C:List Cr) (L:Nat->Nat) (t:Int) (k:Nat):Int:=if(C.getD k Cr.none).plus=true then t ^ L (aAt C k 2) else -(t ^ L (aAt C k 0))
def leK (C:List Cr) (L:Nat->Nat) (k:Nat):Nat:=if(C.getD k Cr.none).plus=true then L (aAt C k 2) else L (aAt C k 0)
theorem lm_abs (C:List Cr) (L:Nat->Nat) (t:Int) (k:Nat):(lmK C L t k).natAbs=t.natAbs ^ leK C L k:=by
 unfold lmK leK
 split
 · rw[Int.natAbs_pow]
 · rw[Int.natAbs_neg,Int.natAbs_pow]
theorem lm_side {C : List Cr} {L : Nat → Nat} {t : Int} {k : Nat} (hL : ((C.getD k Cr.none).plus = true → L (aAt C k 3) = L (aAt C k 2) ∧ L (aAt C k 1) = L (aAt C k 0) ∧ L (aAt C k 0) = L (aAt C k 2) + 1) ∧
    ((C.getD k Cr.none).plus=false->L (aAt C k 1)=L (aAt C k 2)/\L (aAt C k 3)=L (aAt C k 0)/\L (aAt C k 2)=L (aAt C k 0)+1)) (s:Nat) (hs:s<4):
    lmK C L t k*(qR t (C.getD k Cr.none) s+qE s)=(if(C.getD k Cr.none).comes s=true then -1 else 1)*t ^ L (aAt C k s):=by
 have c:s=0∨s=1∨s=2∨s=3:=by omega
 cases hpl:(C.getD k Cr.none).plus
 · obtain⟨a1,a2,a3⟩:=hL.2 hpl
   have eL:lmK C L t k = -(t ^ L (aAt C k 0)):=by unfold lmK;rw[hpl];rfl
   have c1:(C.getD k Cr.none).comes 1=true:=by unfold Cr.comes;rw[hpl];rfl
   have c3:(C.getD k Cr.none).comes 3=false:=by unfold Cr.comes;rw[hpl];rfl
   have q0:qR t (C.getD k Cr.none) 0=1:=by unfold qR;rw[hpl];rfl
   have q2:qR t (C.getD k Cr.none) 2 = -t:=by unfold qR;rw[hpl];rfl
   rw[eL]
   rcases c with rfl|rfl|rfl|rfl
   · rw[q0,show(C.getD k Cr.none).comes 0=true from rfl,show qE 0=0 from rfl,if_pos rfl];omega
   · rw[show qR t (C.getD k Cr.none) 1=t-1 from rfl,c1,show qE 1=1 from rfl,if_pos rfl,a1,a3,Int.pow_succ];grind
   · rw[q2,show(C.getD k Cr.none).comes 2=false from rfl,show qE 2=0 from rfl,if_neg (by decide),a3,Int.pow_succ];grind
   · rw[show qR t (C.getD k Cr.none) 3=0 from rfl,c3,show qE 3 = -1 from rfl,if_neg (by decide),a2];omega
 · obtain⟨a1,a2,a3⟩:=hL.1 hpl
   have eL:lmK C L t k=t ^ L (aAt C k 2):=by unfold lmK;rw[hpl];rfl
   have c1:(C.getD k Cr.none).comes 1=false:=by unfold Cr.comes;rw[hpl];rfl
   have c3:(C.getD k Cr.none).comes 3=true:=by unfold Cr.comes;rw[hpl];rfl
   have q0:qR t (C.getD k Cr.none) 0 = -t:=by unfold qR;rw[hpl];rfl
   have q2:qR t (C.getD k Cr.none) 2=1:=by unfold qR;rw[hpl];rfl
   rw[eL]
   rcases c with rfl|rfl|rfl|rfl
   · rw[q0,show(C.getD k Cr.none).comes 0=true from rfl,show qE 0=0 from rfl,if_pos rfl,a3,Int.pow_succ];grind
   · rw[show qR t (C.getD k Cr.none) 1=t-1 from rfl,c1,show qE 1=1 from rfl,if_neg (by decide),a2,a3,Int.pow_succ];grind
   · rw[q2,show(C.getD k Cr.none).comes 2=false from rfl,show qE 2=0 from rfl,if_neg (by decide)];omega
   · rw[show qR t (C.getD k Cr.none) 3=0 from rfl,c3,show qE 3 = -1 from rfl,if_pos rfl,a1];omega
end Go.Proofs.Ytgagenmkpmmpfaa
/- Tables of tangles' crossings: their determinant is the list's own fraction's; plain mathematics. -/
namespace Go.Proofs.Ytgagenmkpmmpfaa
def tE (st:Nat->Bool×Bool):Nat->Nat->Nat
 |0,e=>if e=0∨e=1 then 1 else 2
 |k+1,e=>if(st k).1=true then(if e=1 then 2*k+3 else if e=3 then 2*k+4 else tE st k e) else(if e=2 then 2*k+3 else if e=3 then 2*k+4 else tE st k e)
def tG (b:Bool):Nat:=if b=true then 1 else 2
def tL (st:Nat->Bool×Bool):Nat->Nat->Int
 |0,e=>if e=0∨e=1 then 0 else 1
 | k + 1, e => if e = tG (st k).1 then (if (st k).2 = true then tL st k 3 else 2 * tL st k (tG (st k).1) - tL st k 3)
     else if e=3 then(if(st k).2=true then 2*tL st k 3-tL st k (tG (st k).1) else tL st k (tG (st k).1)) else tL st k e
def at1 (x c:Nat):Int:=if x=c then 1 else 0
def tP (st:Nat->Bool×Bool) (k:Nat) (c:Nat):Int:=if(st k).2=true then at1 (tE st k 3) c-at1 (2*k+3) c else at1 (tE st k (tG (st k).1)) c-at1 (2*k+4) c
def tQ (st:Nat->Bool×Bool) (k:Nat) (c:Nat):Int:=if(st k).2=true then at1 (tE st k (tG (st k).1)) c+at1 (2*k+4) c-2*at1 (tE st k 3) c else at1 (tE st k 3) c+at1 (2*k+3) c-2*at1 (tE st k (tG (st k).1)) c
def tR (st:Nat->Bool×Bool):Nat->List (Nat->Int)
 |0=>[]
 |k+1=>tR st k++[tP st k,tQ st k]
def tU (st:Nat->Bool×Bool) (k:Nat) (a0 a1 a2 a3:Int) (c:Nat):Int:=a0*at1 (tE st k 0) c+a1*at1 (tE st k 1) c+a2*at1 (tE st k 2) c+a3*at1 (tE st k 3) c
def tX (st:Nat->Bool×Bool) (k:Nat) (a0 a1 a2 a3:Int):Int:=a0*(1-tL st k 0)+a1*(1-tL st k 1)+a2*(1-tL st k 2)+a3*(1-tL st k 3)
def tY (st:Nat->Bool×Bool) (k:Nat) (a0 a1 a2 a3:Int):Int:=a0*tL st k 0+a1*tL st k 1+a2*tL st k 2+a3*tL st k 3
theorem tE_lt (st:Nat->Bool×Bool):∀ k e,1<=tE st k e/\tE st k e<=2*k+2
 |0,e=>by unfold tE;split<;>omega
 |k+1,e=>by
  have:=tE_lt st k e
  unfold tE
  split<;>split<;>(try split)<;>omega
theorem at1_no {x c:Nat} (h:x≠c):at1 x c=0:=if_neg h
theorem at1_yes (x:Nat):at1 x x=1:=if_pos rfl
theorem dZ_addr (X Y:List (Nat->Int)) (r a:Nat->Int) (k:Int) (cs:List Nat) (h:a∈X++Y):dZ (X++(fun c=>r c+k*a c)::Y) cs=dZ (X++r::Y) cs:=by
 rw[dZ_lin,dZ_front X Y a]
 obtain⟨P,Q,e⟩:=List.append_of_mem h
 rw[e,dZ_same,Int.mul_zero,Int.mul_zero,Int.add_zero]
theorem tR_len (st:Nat->Bool×Bool):∀ k,(tR st k).length=2*k
 |0=>rfl
 |k+1=>by show(tR st k++[_,_]).length=_;rw[List.length_append,tR_len st k];rfl
theorem tR_far (st:Nat->Bool×Bool):∀ k,∀ r∈tR st k,∀ c,2*k+2<c->r c=0
 |0,r,hr,_,_=>by cases hr
 |k+1,r,hr,c,hc=>by
  have hr:r∈tR st k++[tP st k,tQ st k]:=hr
  rcases List.mem_append.1 hr with h|h
  · exact tR_far st k r h c (by omega)
  · have h3:=tE_lt st k 3
    have h4:=tE_lt st k (tG (st k).1)
    have z1:=at1_no (x:=tE st k 3) (c:=c) (by omega)
    have z2:=at1_no (x:=tE st k (tG (st k).1)) (c:=c) (by omega)
    have z3:=at1_no (x:=2*k+3) (c:=c) (by omega)
    have z4:=at1_no (x:=2*k+4) (c:=c) (by omega)
    rcases List.mem_cons.1 h with rfl|h
    · unfold tP
      split<;>omega
    · rw[List.mem_singleton.1 h]
      unfold tQ
      split<;>omega
theorem tU_far (st:Nat->Bool×Bool) (k:Nat) (a0 a1 a2 a3:Int) (c:Nat) (hc:2*k+2<c):tU st k a0 a1 a2 a3 c=0:=by
 have h0:=tE_lt st k 0
 have h1:=tE_lt st k 1
 have h2:=tE_lt st k 2
 have h3:=tE_lt st k 3
 unfold tU
 rw[at1_no (by omega),at1_no (by omega),at1_no (by omega),at1_no (by omega)]
 omega
theorem tU_step (st:Nat->Bool×Bool) (k:Nat) (a0 a1 a2 a3:Int):∃ x y b0 b1 b2 b3,(∀ c,tU st (k+1) a0 a1 a2 a3 c+x*tP st k c+y*tQ st k c=tU st k b0 b1 b2 b3 c)/\tX st (k+1) a0 a1 a2 a3=tX st k b0 b1 b2 b3/\tY st (k+1) a0 a1 a2 a3=tY st k b0 b1 b2 b3:=by
 unfold tU tX tY tP tQ
 simp only[tE,tL,tG]
 rcases hs:st k with⟨right,up⟩
 cases right<;>cases up
 · refine⟨a3,-a2,a0,a1,2*a2+a3,-a2,fun c=>?_,?_,?_⟩<;>simp<;>grind
 · refine⟨a2,-a3,a0,a1,-a3,a2+2*a3,fun c=>?_,?_,?_⟩<;>simp<;>grind
 · refine⟨a3,-a1,a0,2*a1+a3,a2,-a1,fun c=>?_,?_,?_⟩<;>simp<;>grind
 · refine⟨a1,-a3,a0,-a3,a2,a1+2*a3,fun c=>?_,?_,?_⟩<;>simp<;>grind
theorem dZ_twoT (a b:Nat->Int) (c d:Nat):dZ [a,b] [c,d]=a c*b d-a d*b c:=by
 simp[dZ,rowZ]
theorem tan_det (st:Nat->Bool×Bool):∀ (k:Nat) (a0 a1 a2 a3 b0 b1 b2 b3:Int),(dZ (tR st k++[tU st k a0 a1 a2 a3,tU st k b0 b1 b2 b3]) (List.range' 1 (2*k+2))).natAbs=(tX st k a0 a1 a2 a3*tY st k b0 b1 b2 b3-tY st k a0 a1 a2 a3*tX st k b0 b1 b2 b3).natAbs
 |0,a0,a1,a2,a3,b0,b1,b2,b3=>by
  show(dZ [tU st 0 a0 a1 a2 a3,tU st 0 b0 b1 b2 b3] [1,2]).natAbs=_
  rw[dZ_twoT]
  simp[tU,tE,tX,tY,tL,at1]
 |k+1,a0,a1,a2,a3,b0,b1,b2,b3=>by
  obtain⟨x,y,c0,c1,c2,c3,hc,hX,hY⟩:=tU_step st k a0 a1 a2 a3
  obtain⟨x',y',d0,d1,d2,d3,hd,hX',hY'⟩:=tU_step st k b0 b1 b2 b3
  have m1:∀ X:List (Nat->Int),tP st k∈(tR st k++[tP st k,tQ st k]++X):=fun X=>by simp
  have m2:∀ X:List (Nat->Int),tQ st k∈(tR st k++[tP st k,tQ st k]++X):=fun X=>by simp
  have e1:dZ (tR st (k+1)++[tU st (k+1) a0 a1 a2 a3,tU st (k+1) b0 b1 b2 b3]) (List.range' 1 (2*(k+1)+2))=dZ (tR st k++[tP st k,tQ st k]++[tU st k c0 c1 c2 c3,tU st k d0 d1 d2 d3]) (List.range' 1 (2*(k+1)+2)):=by
   have s1:=dZ_addr (tR st k++[tP st k,tQ st k]) [tU st (k+1) b0 b1 b2 b3] (tU st (k+1) a0 a1 a2 a3) (tP st k) x (List.range' 1 (2*(k+1)+2)) (m1 _)
   have s2:=dZ_addr (tR st k++[tP st k,tQ st k]) [tU st (k+1) b0 b1 b2 b3] (fun c=>tU st (k+1) a0 a1 a2 a3 c+x*tP st k c) (tQ st k) y (List.range' 1 (2*(k+1)+2)) (m2 _)
   have s3:=dZ_addr (tR st k++[tP st k,tQ st k]++[tU st k c0 c1 c2 c3]) [] (tU st (k+1) b0 b1 b2 b3) (tP st k) x' (List.range' 1 (2*(k+1)+2)) (by rw[List.append_assoc];exact m1 _)
   have s4:=dZ_addr (tR st k++[tP st k,tQ st k]++[tU st k c0 c1 c2 c3]) [] (fun c=>tU st (k+1) b0 b1 b2 b3 c+x'*tP st k c) (tQ st k) y' (List.range' 1 (2*(k+1)+2)) (by rw[List.append_assoc];exact m2 _)
   rw[show(fun c=>tU st (k+1) a0 a1 a2 a3 c+x*tP st k c+y*tQ st k c)=tU st k c0 c1 c2 c3 from funext hc]at s2
   rw[show(fun c=>tU st (k+1) b0 b1 b2 b3 c+x'*tP st k c+y'*tQ st k c)=tU st k d0 d1 d2 d3 from funext hd]at s4
   show dZ (tR st k++[tP st k,tQ st k]++tU st (k+1) a0 a1 a2 a3::[tU st (k+1) b0 b1 b2 b3]) _=_
   rw[<-s1,<-s2]
   have f:∀ z:Nat->Int,tR st k++[tP st k,tQ st k]++[tU st k c0 c1 c2 c3,z]=tR st k++[tP st k,tQ st k]++[tU st k c0 c1 c2 c3]++z::[]:=fun z=>by simp
   rw[f,f,<-s3,<-s4]
  have e2:(tR st k++[tP st k,tQ st k]++[tU st k c0 c1 c2 c3,tU st k d0 d1 d2 d3]).Perm ((tR st k++[tU st k c0 c1 c2 c3,tU st k d0 d1 d2 d3])++[tP st k,tQ st k]):=by
   rw[List.append_assoc,List.append_assoc]
   exact List.Perm.append_left _ List.perm_append_comm
  have e3:List.range' 1 (2*(k+1)+2)=List.range' 1 (2*k+2)++[2*k+3,2*k+4]:=by
   rw[show 2*(k+1)+2=2*k+2+2 by omega,<-List.range'_append_1]
   rw[show 1+(2*k+2)=2*k+3 by omega]
   rfl
  rw [e1, dZ_rperm e2, e3, dZ_block _ _ _ _ (by rw [List.length_append, tR_len, List.length_range']; rfl) (fun r hr c hcc => by
   have hcc:c=2*k+3∨c=2*k+4:=by simpa using hcc
   rcases List.mem_append.1 hr with h|h
   · exact tR_far st k r h c (by omega)
   · rcases List.mem_cons.1 h with rfl|h
     · exact tU_far st k _ _ _ _ c (by omega)
     · rw[List.mem_singleton.1 h];exact tU_far st k _ _ _ _ c (by omega)),Int.natAbs_mul,tan_det st k,hX,hY,hX',hY',dZ_twoT]
  have h3:=tE_lt st k 3
  have h4:=tE_lt st k (tG (st k).1)
  have u:(tP st k (2*k+3)*tQ st k (2*k+4)-tP st k (2*k+4)*tQ st k (2*k+3)).natAbs=1:=by
   unfold tP tQ
   split
   · rw[at1_no (show tE st k 3≠2*k+3 by omega),at1_no (show tE st k 3≠2*k+4 by omega),at1_no (show tE st k (tG (st k).1)≠2*k+4 by omega),at1_yes,at1_yes,at1_no (show 2*k+3≠2*k+4 by omega)]
     simp
   · rw[at1_no (show tE st k 3≠2*k+3 by omega),at1_no (show tE st k 3≠2*k+4 by omega),at1_no (show tE st k (tG (st k).1)≠2*k+3 by omega),at1_no (show tE st k (tG (st k).1)≠2*k+4 by omega),at1_yes,at1_yes,at1_no (show 2*k+4≠2*k+3 by omega)]
     simp
  rw[u,Nat.mul_one]
end Go.Proofs.Ytgagenmkpmmpfaa
/- Alexander's minor of a sum. -/
namespace Go.Proofs.Ytgagenmkpmmpfaa
theorem range_sumS (n:Nat) (g:Nat->Int):((List.range n).map g).sum=sumS n g:=by
 induction n with
 |zero=>rfl
 |succ n ih=>rw[List.range_succ,List.map_append,List.sum_append,ih];simp[sumS]
end Go.Proofs.Ytgagenmkpmmpfaa
/- Alexander's polynomial of a sum: values at whole numbers; the product. -/
namespace Go.Proofs.Ytgagenmkpmmpfaa
open Poly
def vlT (t:Int):List (Int×Int)->Int
 |[]=>0
 |u::l=>t ^ u.1.toNat*u.2+vlT t l
def NnL (L:List (Int×Int)):Prop:=∀ u∈L,0<=u.1
theorem nn_nil:NnL []:=fun _ h=>nomatch h
theorem vlT_app (t:Int) (a b:List (Int×Int)):vlT t (a++b)=vlT t a+vlT t b:=by
 induction a with
 |nil=>simp[vlT]
 |cons u a ih=>simp only[List.cons_append,vlT,ih];omega
def EvT (t:Int) (f:Int->Int) (v:Int):Prop:=∃ L,NnL L/\(∀ y,coefL L y=f y)/\vlT t L=v
theorem coef_mapT (e c:Int) (L:List (Int×Int)) (y:Int):coefL (L.map fun u=>(u.1+e,c*u.2)) y=c*coefL L (y-e):=by
 induction L with
 |nil=>simp[coefL]
 |cons u L ih=>
  simp only[List.map_cons,coefL,ih,Int.mul_add]
  by_cases q:u.1+e=y
  · rw[if_pos q,if_pos (by omega)]
  · rw[if_neg q,if_neg (by omega)];omega
theorem vlT_map (t e c:Int) (he:0<=e) {L:List (Int×Int)} (h:NnL L):vlT t (L.map fun u=>(u.1+e,c*u.2))=t ^ e.toNat*c*vlT t L:=by
 induction L with
 |nil=>simp[vlT]
 |cons u L ih=>
  have h0:=h u (.head _)
  simp only[List.map_cons,vlT,ih fun v hv=>h v (.tail _ hv)]
  rw[show(u.1+e).toNat=u.1.toNat+e.toNat by omega,Int.pow_add]
  grind
theorem nn_map {e c:Int} (he:0<=e) {L:List (Int×Int)} (h:NnL L):NnL (L.map fun u=>(u.1+e,c*u.2)):=fun v hv=>by
 obtain⟨u,hu,rfl⟩:=List.mem_map.1 hv
 have:=h u hu
 show 0<=u.1+e
 omega
theorem nn_app {L M:List (Int×Int)} (h:NnL L) (h':NnL M):NnL (L++M):=fun u hu=>by
 rcases List.mem_append.1 hu with g|g
 · exact h u g
 · exact h' u g
theorem EvT.sub {t:Int} {f g:Int->Int} {v u:Int} (h:EvT t f v) (h':EvT t g u):EvT t (fun y=>f y-g y) (v-u):=by
 obtain⟨L,n1,h1,h2⟩:=h
 obtain⟨M,n2,h3,h4⟩:=h'
 refine⟨L++M.map (fun t=>(t.1+0,-1*t.2)),nn_app n1 (nn_map (Int.le_refl _) n2),fun y=>?_,?_⟩
 · rw[coefL_append,coef_mapT,h1,h3,show y-0=y by omega]
   show f y + -1*g y=f y-g y
   omega
 · rw[vlT_app,vlT_map t 0 (-1) (Int.le_refl _) n2,h2,h4]
   rw[show(0:Int).toNat=0 from rfl,Int.pow_zero]
   omega
theorem EvT.prod {t:Int} {f:Int->Int} {v:Int} (h:EvT t f v) (a:List (Int×Int)) (ha:NnL a):EvT t (prodL a f) (vlT t a*v):=by
 obtain⟨L,n1,h1,h2⟩:=h
 induction a with
 |nil=>exact⟨[],nn_nil,fun _=>rfl,by simp[vlT]⟩
 |cons s a ih=>
  obtain⟨M,n2,h3,h4⟩:=ih fun u hu=>ha u (.tail _ hu)
  have h0:=ha s (.head _)
  refine⟨L.map (fun u=>(u.1+s.1,s.2*u.2))++M,nn_app (nn_map h0 n1) n2,fun y=>?_,?_⟩
  · rw[coefL_append,coef_mapT,h1,h3];rfl
  · rw[vlT_app,vlT_map t s.1 s.2 h0 n1,h2,h4]
    show t ^ s.1.toNat*s.2*v+vlT t a*v=(t ^ s.1.toNat*s.2+vlT t a)*v
    grind
theorem EvT.row (t:Int) (r:Nat->List (Int×Int)) (hr:∀ c,NnL (r c)):∀ (cs:List Nat) (h:List Nat->Int->Int) (hv:List Nat->Int),(∀ rest,EvT t (h rest) (hv rest))->EvT t (Poly.rowF r cs h) (rowZ (fun c=>vlT t (r c)) cs hv)
 |[],_,_,_=>⟨[],nn_nil,fun _=>rfl,rfl⟩
 |c::cs,_,_,e=>((e cs).prod (r c) (hr c)).sub (EvT.row t r hr cs _ _ fun rest=>e (c::rest))
theorem EvT.det (t:Int):∀ (rows:List (Nat->List (Int×Int))),(∀ r∈rows,∀ c,NnL (r c))->∀ cs:List Nat,EvT t (detF rows cs) (detZ (rows.map fun r c=>vlT t (r c)) cs)
 |[],_,_=>by
  refine⟨[(0,1)],fun u hu=>?_,fun y=>?_,?_⟩
  · rw[List.mem_singleton.1 hu];exact Int.le_refl _
  · show(if(0:Int)=y then(1:Int) else 0)+0=(if y=0 then 1 else 0)
    by_cases q:y=0
    · rw[if_pos q,if_pos q.symm];rfl
    · rw[if_neg q,if_neg (fun z=>q z.symm)];rfl
  · show t ^ 0*1+0=1
    rw[Int.pow_zero];rfl
 |r::rows,h,cs=>EvT.row t r (h r (.head _)) cs _ _ fun rest=>EvT.det t rows (fun s hs=>h s (.tail _ hs)) rest
end Go.Proofs.Ytgagenmkpmmpfaa
/- Alexander's polynomial of a sum is the product. -/
namespace Go.Proofs.Ytgagenmkpmmpfaa
open Poly
structure UnL (l:List (Int×Int)):Prop where
 up:l.Pairwise fun a b=>a.1<b.1
 nz:∀ u∈l,u.2≠0
 first:l=[]∨∃ c m,l=(0,c)::m/\0<c
theorem coef_far {x:Int}:∀ {l:List (Int×Int)},(∀ u∈l,u.1≠x)->coefL l x=0
 |[],_=>rfl
 |u::l,h=>by
  show(if u.1=x then u.2 else 0)+coefL l x=0
  rw[if_neg (h u (.head _)),coef_far fun v hv=>h v (.tail _ hv)];rfl
theorem UnL.zero {l:List (Int×Int)} (h:UnL l) (hl:l≠[]):0<coefL l 0:=by
 rcases h.first with e|⟨c,m,e,hc⟩
 · exact absurd e hl
 · have hp:=h.up
   rw[e]at hp ⊢
   show 0<(if(0:Int)=0 then c else 0)+coefL m 0
   rw[if_pos rfl,coef_far fun u hu=>by have:=(List.pairwise_cons.1 hp).1 u hu;simp only at this;omega]
   omega
section
variable {C:List Cr} {loops:Int} (hm:mayD C loops=true)
include hm
theorem al_null (hp:planarB C=true) (h0:0<C.length) {t:Int} (ht:t≠0) (cs:List Nat):dZ ((List.range C.length).map (alV C t)) cs=0:=by
 obtain⟨L,hL⟩:=arcs_num hm hp
 obtain⟨n,hn⟩:∃ n,C.length=n+1:=⟨C.length - 1,by omega⟩
 have rel:∀ j,sumS C.length (fun k=>lmK C L t k*alV C t k j)=0:=fun j=>by
  have e:∀ k,k<C.length->lmK C L t k*alV C t k j=ioC (fun a=>t ^ L a*(if j=ovM C a then 1 else 0)) (C.getD k Cr.none) false-ioC (fun a=>t ^ L a*(if j=ovM C a then 1 else 0)) (C.getD k Cr.none) true:=fun k hk=>by
   have e1:alV C t k j=(qR t (C.getD k Cr.none) 0+qE 0)*(if j=ovM C (aAt C k 0) then 1 else 0)+(qR t (C.getD k Cr.none) 1+qE 1)*(if j=ovM C (aAt C k 1) then 1 else 0)+(qR t (C.getD k Cr.none) 2+qE 2)*(if j=ovM C (aAt C k 2) then 1 else 0)+(qR t (C.getD k Cr.none) 3+qE 3)*(if j=ovM C (aAt C k 3) then 1 else 0):=by
    have eb:ovM C (aAt C k 1)=ovM C (aAt C k 3):=ov_bd hm hk
    rw[alV_at,eb,show qE 0=0 from rfl,show qE 1=1 from rfl,show qE 2=0 from rfl,show qE 3 = -1 from rfl,show qR t (C.getD k Cr.none) 3=0 from rfl]
    grind
   have sd:=fun s hs=>lm_side (t:=t) (hL k hk) s hs
   have one:∀ s,s<4->lmK C L t k*((qR t (C.getD k Cr.none) s+qE s)*(if j=ovM C (aAt C k s) then 1 else 0))=(if(C.getD k Cr.none).comes s=false then t ^ L (aAt C k s)*(if j=ovM C (aAt C k s) then 1 else 0) else 0)-(if(C.getD k Cr.none).comes s=true then t ^ L (aAt C k s)*(if j=ovM C (aAt C k s) then 1 else 0) else 0):=fun s hs=>by
    rw[<-Int.mul_assoc,sd s hs]
    cases hc:(C.getD k Cr.none).comes s
    · rw[if_neg (show ¬ (false=true) by decide),if_pos (show false=false from rfl),if_neg (show ¬ (false=true) by decide)]
      generalize t ^ L (aAt C k s)=z
      by_cases h:j=ovM C (aAt C k s)
      · rw[if_pos h];omega
      · rw[if_neg h];omega
    · rw[if_pos (show true=true from rfl),if_neg (show ¬ (true=false) by decide),if_pos (show true=true from rfl)]
      generalize t ^ L (aAt C k s)=z
      by_cases h:j=ovM C (aAt C k s)
      · rw[if_pos h];omega
      · rw[if_neg h];omega
   rw[e1,Int.mul_add,Int.mul_add,Int.mul_add,one 0 (by omega),one 1 (by omega),one 2 (by omega),one 3 (by omega)]
   show _=(if(C.getD k Cr.none).comes 0=false then t ^ L (aAt C k 0)*(if j=ovM C (aAt C k 0) then 1 else 0) else 0)+(if(C.getD k Cr.none).comes 1=false then t ^ L (aAt C k 1)*(if j=ovM C (aAt C k 1) then 1 else 0) else 0)+(if(C.getD k Cr.none).comes 2=false then t ^ L (aAt C k 2)*(if j=ovM C (aAt C k 2) then 1 else 0) else 0)+(if(C.getD k Cr.none).comes 3=false then t ^ L (aAt C k 3)*(if j=ovM C (aAt C k 3) then 1 else 0) else 0)-((if(C.getD k Cr.none).comes 0=true then t ^ L (aAt C k 0)*(if j=ovM C (aAt C k 0) then 1 else 0) else 0)+(if(C.getD k Cr.none).comes 1=true then t ^ L (aAt C k 1)*(if j=ovM C (aAt C k 1) then 1 else 0) else 0)+(if(C.getD k Cr.none).comes 2=true then t ^ L (aAt C k 2)*(if j=ovM C (aAt C k 2) then 1 else 0) else 0)+(if(C.getD k Cr.none).comes 3=true then t ^ L (aAt C k 3)*(if j=ovM C (aAt C k 3) then 1 else 0) else 0))
   omega
  rw[sumS_congr e,<-sumS_sub,io_same hm]
  omega
 have hl:lmK C L t n≠0:=fun q=>by
  have:=lm_abs C L t n
  rw[q]at this
  have h2:0<t.natAbs ^ leK C L n:=Nat.pow_pos (by omega)
  simp at this
  omega
 rw[hn,List.range_succ,List.map_append,List.map_cons,List.map_nil,dZ_front,List.append_nil]
 have e1:=dZ_lin [] ((List.range n).map (alV C t)) (fun _=>0) (alV C t n) (lmK C L t n) cs
 simp only[List.nil_append]at e1
 rw[show dZ ((fun _=>(0:Int))::(List.range n).map (alV C t)) cs=0 from rowZ_none _ _ _ fun _ _=>rfl,Int.zero_add]at e1
 have e2:=dZ_combI (alV C t) (lmK C L t) cs (List.range n) (List.range n) [] (fun c=>0+lmK C L t n*alV C t n c) rfl
 have e3:dZ ((fun c=>0+lmK C L t n*alV C t n c+((List.range n).map fun i=>lmK C L t i*alV C t i c).sum)::(List.range n).map (alV C t)) cs=0:=rowZ_none _ _ _ fun c _=>by
  have:=rel c
  rw[hn]at this
  have h3:sumS n (fun k=>lmK C L t k*alV C t k c)+lmK C L t n*alV C t n c=0:=this
  rw[range_sumS]
  omega
 rw[e3]at e2
 rw[<-e2]at e1
 rcases Int.mul_eq_zero.1 e1.symm with q|q
 · exact absurd q hl
 · rw[q,Int.mul_zero]
end
end Go.Proofs.Ytgagenmkpmmpfaa

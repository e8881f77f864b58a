/- Several texts of the proof, one behind the other. -/
import Derived.Test.YtookanmeflbdlaaGreatDoorAX1P
import Derived.Test.YtookanmeflbdlaaGreatDoorCyHP
import Derived.Test.YtookanmeflbdlaaGreatDoorCySP
import Derived.Test.YtookanmeflbdlaaGreatDoorPB4P
/- Alexander's minor of a sum, by arcs: the product of both but for powers of t. -/
namespace Go.Proofs.YtookanmeflbdlaaGreatDoor
theorem Xj1 (a b:Nat->Int) (Y:List (Nat->Int)):∀ (X:List (Nat->Int)) (cs:List Nat),dZ (X++a::b::Y) cs = -dZ (X++b::a::Y) cs
 |[],cs=>Xz2 a b cs (dZ Y)
 |x::X,cs=>by
  show QJ3 x cs (dZ (X++a::b::Y)) = -QJ3 x cs (dZ (X++b::a::Y))
  have e:dZ (X++a::b::Y)=fun rest => -1*dZ (X++b::a::Y) rest:=funext fun rest=>by rw[Xj1 a b Y X rest];omega
  rw[e,Qf6];omega
theorem KF7 {R R':List (Nat->Int)} (h:R.Perm R') (cs:List Nat):(dZ R cs).natAbs=(dZ R' cs).natAbs:=by
 have key:∀ {R R':List (Nat->Int)},R.Perm R'->∀ X:List (Nat->Int),(dZ (X++R) cs).natAbs=(dZ (X++R') cs).natAbs:=fun h=>by
  induction h with
  |nil=>intro X;rfl
  |cons c _ ih=>
   intro X
   have:=ih (X++[c])
   simpa using this
  |swap c d l=>
   intro X
   rw[Xj1,Int.natAbs_neg]
  |trans _ _ ih1 ih2=>intro X;rw[ih1 X,ih2 X]
 exact key h []
theorem XH5 {α:Type} (f:α->Nat->Int) (w:α->Int) (cs:List Nat) (I:List α):∀ (X Z:List α) (a:Nat->Int),I=Z++X->dZ ((fun c=>a c+(X.map fun i=>w i*f i c).sum)::I.map f) cs=dZ (a::I.map f) cs
 |[],Z,a,_=>by simp
 |i::X,Z,a,e=>by
  have h1:=XH5 f w cs I X (Z++[i]) (fun c=>a c+w i*f i c) (by rw[e];simp)
  have h2:=Zx4 [] (I.map f) a (f i) (w i) cs
  have h3:dZ (f i::I.map f) cs=0:=by rw[e,List.map_append,List.map_cons];exact Kd7 (Z.map f) (X.map f) (f i) cs
  simp only[List.nil_append]at h2
  rw[h2,h3,Int.mul_zero,Int.add_zero]at h1
  rw[<-h1]
  congr 2
  funext c
  simp only[List.map_cons,List.sum_cons]
  omega
theorem XY3 (r:Nat->Int) (Y:List Nat) (D:Int) (hr:∀ c∈Y,r c=0):∀ (X:List Nat) (h g:List Nat->Int),(∀ rest,rest.length+1=X.length->h (rest++Y)=g rest*D)->QJ3 r (X++Y) h=QJ3 r X g*D
 |[],h,_,_=>by
  show QJ3 r Y h=0*D
  rw[QY2 r Y h hr];omega
 |c::X,h,g,hh=>by
  show r c*h (X++Y)-QJ3 r (X++Y) _=(r c*g X-QJ3 r X _)*D
  rw[hh X rfl,XY3 r Y D hr X (fun rest=>h (c::rest)) (fun rest=>g (c::rest)) (fun rest hl=>hh (c::rest) (by simp;omega))]
  grind
theorem ZU0 (Q:List (Nat->Int)) (Y:List Nat):∀ (P:List (Nat->Int)) (X:List Nat),P.length=X.length->(∀ r∈P,∀ c∈Y,r c=0)->dZ (P++Q) (X++Y)=dZ P X*dZ Q Y
 |[],X,hl,_=>by
  obtain rfl:X=[]:=List.length_eq_zero_iff.1 hl.symm
  show dZ Q Y=1*dZ Q Y
  omega
 |r::P,X,hl,hz=>XY3 r Y (dZ Q Y) (hz r (.head _)) X _ _ fun rest hr=>ZU0 Q Y P rest (by simp at hl;omega) fun r' h'=>hz r' (.tail _ h')
def ixL (n m:Nat):List (Nat ⊕ Nat):=(List.range n).map Sum.inl++(List.range m).map Sum.inr
def rwA (C:List Cr) (t:Int):Nat ⊕ Nat->Nat->Int:=Sum.elim (eA C) (rA C t)
theorem ZJ2 (C:List Cr) (t:Int):Qu5 C t=(ixL C.length (C.length-1)).map (rwA C t):=by
 unfold Qu5 ixL rwA
 rw[List.map_append,List.map_map,List.map_map]
 rfl
section
variable {C:List Cr} {loops:Int} (hm:QQ6 C loops=true)
include hm
theorem JJ5 (F:Nat->Int):QZ0 C.length (fun j=>ioC F (C.getD j Cr.none) false)=QZ0 (2*C.length) (fun i=>F (i+1)):=by
 obtain⟨-,h2⟩:=Zx2 hm F C.length (Nat.le_refl _)
 rw[<-h2]
 refine QQ4 fun i hi=>?_
 have h:=hm
 unfold QQ6 at h
 rw[Bool.and_eq_true,List.all_eq_true]at h
 have h3:=h.2 i (List.mem_range.2 hi)
 unfold Qh4 at h3
 rw[Bool.and_eq_true,decide_eq_true_eq,decide_eq_true_eq]at h3
 rw[h3.2]
 show F (i+1)*1=F (i+1)
 omega
end
def lmK (C:List Cr) (L:Nat->Nat) (t:Int) (k:Nat):Int:=if(C.getD k Cr.none).plus=true then t ^ L (aAt C k 2) else -(t ^ L (aAt C k 0))
def leK (C:List Cr) (L:Nat->Nat) (k:Nat):Nat:=if(C.getD k Cr.none).plus=true then L (aAt C k 2) else L (aAt C k 0)
theorem Kq7 (C:List Cr) (L:Nat->Nat) (t:Int) (k:Nat):(lmK C L t k).natAbs=t.natAbs ^ leK C L k:=by
 unfold lmK leK
 split
 · rw[Int.natAbs_pow]
 · rw[Int.natAbs_neg,Int.natAbs_pow]
theorem Xb4 {C : List Cr} {L : Nat → Nat} {t : Int} {k : Nat} (hL : ((C.getD k Cr.none).plus = true → L (aAt C k 3) = L (aAt C k 2) ∧ L (aAt C k 1) = L (aAt C k 0) ∧ L (aAt C k 0) = L (aAt C k 2) + 1) ∧
    ((C.getD k Cr.none).plus=false->L (aAt C k 1)=L (aAt C k 2)/\L (aAt C k 3)=L (aAt C k 0)/\L (aAt C k 2)=L (aAt C k 0)+1)) (s:Nat) (hs:s<4):
    lmK C L t k*(qR t (C.getD k Cr.none) s+qE s)=(if(C.getD k Cr.none).comes s=true then -1 else 1)*t ^ L (aAt C k s):=by
 have c:s=0∨s=1∨s=2∨s=3:=by omega
 cases hpl:(C.getD k Cr.none).plus
 · obtain⟨a1,a2,a3⟩:=hL.2 hpl
   have eL:lmK C L t k = -(t ^ L (aAt C k 0)):=by unfold lmK;rw[hpl];rfl
   have c1:(C.getD k Cr.none).comes 1=true:=by unfold Cr.comes;rw[hpl];rfl
   have c3:(C.getD k Cr.none).comes 3=false:=by unfold Cr.comes;rw[hpl];rfl
   have q0:qR t (C.getD k Cr.none) 0=1:=by unfold qR;rw[hpl];rfl
   have q2:qR t (C.getD k Cr.none) 2 = -t:=by unfold qR;rw[hpl];rfl
   rw[eL]
   rcases c with rfl|rfl|rfl|rfl
   · rw[q0,show(C.getD k Cr.none).comes 0=true from rfl,show qE 0=0 from rfl,if_pos rfl];omega
   · rw[show qR t (C.getD k Cr.none) 1=t-1 from rfl,c1,show qE 1=1 from rfl,if_pos rfl,a1,a3,Int.pow_succ];grind
   · rw[q2,show(C.getD k Cr.none).comes 2=false from rfl,show qE 2=0 from rfl,if_neg (by decide),a3,Int.pow_succ];grind
   · rw[show qR t (C.getD k Cr.none) 3=0 from rfl,c3,show qE 3 = -1 from rfl,if_neg (by decide),a2];omega
 · obtain⟨a1,a2,a3⟩:=hL.1 hpl
   have eL:lmK C L t k=t ^ L (aAt C k 2):=by unfold lmK;rw[hpl];rfl
   have c1:(C.getD k Cr.none).comes 1=false:=by unfold Cr.comes;rw[hpl];rfl
   have c3:(C.getD k Cr.none).comes 3=true:=by unfold Cr.comes;rw[hpl];rfl
   have q0:qR t (C.getD k Cr.none) 0 = -t:=by unfold qR;rw[hpl];rfl
   have q2:qR t (C.getD k Cr.none) 2=1:=by unfold qR;rw[hpl];rfl
   rw[eL]
   rcases c with rfl|rfl|rfl|rfl
   · rw[q0,show(C.getD k Cr.none).comes 0=true from rfl,show qE 0=0 from rfl,if_pos rfl,a3,Int.pow_succ];grind
   · rw[show qR t (C.getD k Cr.none) 1=t-1 from rfl,c1,show qE 1=1 from rfl,if_neg (by decide),a2,a3,Int.pow_succ];grind
   · rw[q2,show(C.getD k Cr.none).comes 2=false from rfl,show qE 2=0 from rfl,if_neg (by decide)];omega
   · rw[show qR t (C.getD k Cr.none) 3=0 from rfl,c3,show qE 3 = -1 from rfl,if_pos rfl,a1];omega
end Go.Proofs.YtookanmeflbdlaaGreatDoor
/- Alexander's minor of a sum. -/
namespace Go.Proofs.YtookanmeflbdlaaGreatDoor
theorem Qy5 (n:Nat) (g:Nat->Int):((List.range n).map g).sum=QZ0 n g:=by
 induction n with
 |zero=>rfl
 |succ n ih=>rw[List.range_succ,List.map_append,List.sum_append,ih];simp[QZ0]
theorem JD8 {C D:List Cr} {x y:Int} {i:Nat} (hi:i<C.length) (t:Int):qR t ((QX4 C D x y).getD i Cr.none)=qR t (C.getD i Cr.none):=by
 rw[Kk6 C D x y hi];rfl
theorem JF3 {C D:List Cr} {x y:Int} {j:Nat} (hj:j<D.length) (t:Int):qR t ((QX4 C D x y).getD (C.length+j) Cr.none)=qR t (D.getD j Cr.none):=by
 rw[Kk5 C D x y hj];rfl
section
variable {C D:List Cr} {l1 l2:Int} (hm:QQ6 C l1=true) (hm':QQ6 D l2=true) {x y:Nat} (hx1:1<=x) (hx2:x<=2*C.length) (hy1:1<=y) (hy2:y<=2*D.length)
include hm hm' hx1 hx2 hy1 hy2
theorem JU4 {i s:Nat} (hi:i<C.length) (hs:s<4):aAt (QX4 C D x y) i s=if aAt C i s=x/\(C.getD i Cr.none).comes s=true then y+2*C.length else aAt C i s:=by
 have ha:=XQ7 hm hm' hx1 hx2 hy1 hy2 hi hs
 show(((QX4 C D x y).getD i Cr.none).arc s).toNat=_
 rw[ha];exact Int.toNat_natCast _
theorem JF9 {j s:Nat} (hj:j<D.length) (hs:s<4):aAt (QX4 C D x y) (C.length+j) s=if aAt D j s=y/\(D.getD j Cr.none).comes s=true then x else aAt D j s+2*C.length:=by
 have ha:=XQ6 hm hm' hx1 hx2 hy1 hy2 hj hs
 show(((QX4 C D x y).getD (C.length+j) Cr.none).arc s).toNat=_
 rw[ha];exact Int.toNat_natCast _
theorem Kk8 {i:Nat} (hi:i<C.length) (q:Nat->Int) {c:Nat} (hc:c<=2*C.length) (hx:c≠x):sdR (QX4 C D x y) i q c=sdR C i q c:=by
 have e:∀ s,s<4->(if aAt (QX4 C D x y) i s=c then(1:Int) else 0)=if aAt C i s=c then 1 else 0:=fun s hs=>by
  rw[JU4 hm hm' hx1 hx2 hy1 hy2 hi hs]
  by_cases h:aAt C i s=x/\(C.getD i Cr.none).comes s=true
  · rw[if_pos h,if_neg (by omega),if_neg (by omega)]
  · rw[if_neg h]
 unfold sdR
 rw[e 0 (by omega),e 1 (by omega),e 2 (by omega),e 3 (by omega)]
theorem JY9 {i:Nat} (hi:i<C.length) (q:Nat->Int):sdR (QX4 C D x y) i q x=q 0*(if aAt C i 0=x/\(C.getD i Cr.none).comes 0=false then 1 else 0)+q 1*(if aAt C i 1=x/\(C.getD i Cr.none).comes 1=false then 1 else 0)+q 2*(if aAt C i 2=x/\(C.getD i Cr.none).comes 2=false then 1 else 0)+q 3*(if aAt C i 3=x/\(C.getD i Cr.none).comes 3=false then 1 else 0):=by
 have e:∀ s,s<4->(if aAt (QX4 C D x y) i s=x then(1:Int) else 0)=if aAt C i s=x/\(C.getD i Cr.none).comes s=false then 1 else 0:=fun s hs=>by
  have key:aAt (QX4 C D x y) i s=x↔aAt C i s=x/\(C.getD i Cr.none).comes s=false:=by
   rw[JU4 hm hm' hx1 hx2 hy1 hy2 hi hs]
   by_cases h:aAt C i s=x/\(C.getD i Cr.none).comes s=true
   · rw[if_pos h]
     constructor
     · intro q;omega
     · rintro⟨-,q⟩
       rw[h.2]at q
       cases q
   · rw[if_neg h]
     constructor
     · intro q
       refine⟨q,?_⟩
       cases hc:(C.getD i Cr.none).comes s
       · rfl
       · exact absurd ⟨q,hc⟩ h
     · exact fun q=>q.1
  by_cases g:aAt C i s=x/\(C.getD i Cr.none).comes s=false
  · rw[if_pos g,if_pos (key.2 g)]
  · rw[if_neg g,if_neg (fun z=>g (key.1 z))]
 unfold sdR
 rw[e 0 (by omega),e 1 (by omega),e 2 (by omega),e 3 (by omega)]
theorem Zk3 {i:Nat} (hi:i<C.length) (q:Nat->Int) {c:Nat} (h1:1<=c) (hy:c≠y):sdR (QX4 C D x y) i q (c+2*C.length)=0:=by
 have e:∀ s,s<4->(if aAt (QX4 C D x y) i s=c+2*C.length then(1:Int) else 0)=0:=fun s hs=>by
  have r:=QZ8 hm i s hi hs
  rw[JU4 hm hm' hx1 hx2 hy1 hy2 hi hs]
  by_cases h:aAt C i s=x/\(C.getD i Cr.none).comes s=true
  · rw[if_pos h,if_neg (by omega)]
  · rw[if_neg h,if_neg (by omega)]
 unfold sdR
 rw[e 0 (by omega),e 1 (by omega),e 2 (by omega),e 3 (by omega)]
 omega
theorem JQ1 {j:Nat} (hj:j<D.length) (q:Nat->Int) {c:Nat} (h1:1<=c) (hy:c≠y):sdR (QX4 C D x y) (C.length+j) q (c+2*C.length)=sdR D j q c:=by
 have e:∀ s,s<4->(if aAt (QX4 C D x y) (C.length+j) s=c+2*C.length then(1:Int) else 0)=if aAt D j s=c then 1 else 0:=fun s hs=>by
  rw[JF9 hm hm' hx1 hx2 hy1 hy2 hj hs]
  by_cases h:aAt D j s=y/\(D.getD j Cr.none).comes s=true
  · rw[if_pos h,if_neg (by omega),if_neg (by omega)]
  · rw[if_neg h]
    by_cases g:aAt D j s=c
    · rw[if_pos (by omega),if_pos g]
    · rw[if_neg (by omega),if_neg g]
 unfold sdR
 rw[e 0 (by omega),e 1 (by omega),e 2 (by omega),e 3 (by omega)]
theorem Kf0 {L : Nat → Nat} {t : Int} (hL : ∀ k, k < C.length → ((C.getD k Cr.none).plus = true → L (aAt C k 3) = L (aAt C k 2) ∧ L (aAt C k 1) = L (aAt C k 0) ∧ L (aAt C k 0) = L (aAt C k 2) + 1) ∧
    ((C.getD k Cr.none).plus=false->L (aAt C k 1)=L (aAt C k 2)/\L (aAt C k 3)=L (aAt C k 0)/\L (aAt C k 2)=L (aAt C k 0)+1)) {c:Nat} (h1:1<=c) (h2:c<=2*C.length):
    QZ0 C.length (fun k=>lmK C L t k*(rA (QX4 C D x y) t k c+eA (QX4 C D x y) k c))=if c=x then t ^ L x else 0:=by
 have both:∀ k,k<C.length->∀ d,rA (QX4 C D x y) t k d+eA (QX4 C D x y) k d=sdR (QX4 C D x y) k (fun s=>qR t (C.getD k Cr.none) s+qE s) d:=fun k hk d=>by
  unfold rA eA sdR
  rw[JD8 hk]
  simp only[Int.add_mul]
  omega
 by_cases hcx:c=x
 · rw[if_pos hcx]
   subst hcx
   have e:∀ k,k<C.length->lmK C L t k*(rA (QX4 C D c y) t k c+eA (QX4 C D c y) k c)=ioC (fun a=>t ^ L a*(if a=c then 1 else 0)) (C.getD k Cr.none) false:=fun k hk=>by
    rw[both k hk,JY9 hm hm' hx1 hx2 hy1 hy2 hk]
    have sd:=fun s hs=>Xb4 (t:=t) (hL k hk) s hs
    have one:∀ s,s<4->lmK C L t k*((qR t (C.getD k Cr.none) s+qE s)*(if aAt C k s=c/\(C.getD k Cr.none).comes s=false then 1 else 0))=if(C.getD k Cr.none).comes s=false then t ^ L (aAt C k s)*(if aAt C k s=c then 1 else 0) else 0:=fun s hs=>by
     rw[<-Int.mul_assoc,sd s hs]
     cases hc:(C.getD k Cr.none).comes s
     · rw[if_neg (show ¬ (false=true) by decide),if_pos (show false=false from rfl)]
       by_cases h:aAt C k s=c
       · rw[if_pos (⟨h,rfl⟩:aAt C k s=c/\false=false),if_pos h];omega
       · rw[if_neg (show ¬ (aAt C k s=c/\false=false) from fun z=>h z.1),if_neg h];omega
     · rw[if_neg (show ¬ (aAt C k s=c/\true=false) from fun z=>by cases z.2),if_neg (show ¬ (true=false) by decide)];omega
    rw[Int.mul_add,Int.mul_add,Int.mul_add,one 0 (by omega),one 1 (by omega),one 2 (by omega),one 3 (by omega)]
    rfl
   rw[QQ4 e,JJ5 hm]
   refine Eq.trans (QQ4 fun i _=>?_) (Qu7 (2*C.length) c h1 h2 fun a=>t ^ L a)
   by_cases h:i+1=c
   · rw[if_pos h,if_pos h];omega
   · rw[if_neg h,if_neg h];omega
 · rw[if_neg hcx]
   have e:∀ k,k<C.length->lmK C L t k*(rA (QX4 C D x y) t k c+eA (QX4 C D x y) k c)=ioC (fun a=>t ^ L a*(if a=c then 1 else 0)) (C.getD k Cr.none) false-ioC (fun a=>t ^ L a*(if a=c then 1 else 0)) (C.getD k Cr.none) true:=fun k hk=>by
    rw[both k hk,Kk8 hm hm' hx1 hx2 hy1 hy2 hk _ h2 hcx]
    have sd:=fun s hs=>Xb4 (t:=t) (hL k hk) s hs
    have one:∀ s,s<4->lmK C L t k*((qR t (C.getD k Cr.none) s+qE s)*(if aAt C k s=c then 1 else 0))=(if(C.getD k Cr.none).comes s=false then t ^ L (aAt C k s)*(if aAt C k s=c then 1 else 0) else 0)-(if(C.getD k Cr.none).comes s=true then t ^ L (aAt C k s)*(if aAt C k s=c then 1 else 0) else 0):=fun s hs=>by
     rw[<-Int.mul_assoc,sd s hs]
     cases hc:(C.getD k Cr.none).comes s
     · rw[if_neg (show ¬ (false=true) by decide),if_pos (show false=false from rfl),if_neg (show ¬ (false=true) by decide)]
       generalize t ^ L (aAt C k s)=z
       by_cases h:aAt C k s=c
       · rw[if_pos h];omega
       · rw[if_neg h];omega
     · rw[if_pos (show true=true from rfl),if_neg (show ¬ (true=false) by decide),if_pos (show true=true from rfl)]
       generalize t ^ L (aAt C k s)=z
       by_cases h:aAt C k s=c
       · rw[if_pos h];omega
       · rw[if_neg h];omega
    unfold sdR
    rw[Int.mul_add,Int.mul_add,Int.mul_add,one 0 (by omega),one 1 (by omega),one 2 (by omega),one 3 (by omega)]
    show _=(if(C.getD k Cr.none).comes 0=false then t ^ L (aAt C k 0)*(if aAt C k 0=c then 1 else 0) else 0)+(if(C.getD k Cr.none).comes 1=false then t ^ L (aAt C k 1)*(if aAt C k 1=c then 1 else 0) else 0)+(if(C.getD k Cr.none).comes 2=false then t ^ L (aAt C k 2)*(if aAt C k 2=c then 1 else 0) else 0)+(if(C.getD k Cr.none).comes 3=false then t ^ L (aAt C k 3)*(if aAt C k 3=c then 1 else 0) else 0)-((if(C.getD k Cr.none).comes 0=true then t ^ L (aAt C k 0)*(if aAt C k 0=c then 1 else 0) else 0)+(if(C.getD k Cr.none).comes 1=true then t ^ L (aAt C k 1)*(if aAt C k 1=c then 1 else 0) else 0)+(if(C.getD k Cr.none).comes 2=true then t ^ L (aAt C k 2)*(if aAt C k 2=c then 1 else 0) else 0)+(if(C.getD k Cr.none).comes 3=true then t ^ L (aAt C k 3)*(if aAt C k 3=c then 1 else 0) else 0))
    omega
   rw[QQ4 e,<-Qf4,Zj8 hm]
   omega
theorem Zy1 (hp : QX6 C = true) {l : Int} (hT : QQ6 (QX4 C D x y) l = true) : ∃ e f : Nat, ∀ t : Int,
    t.natAbs ^ e*(dZ (Qu5 (QX4 C D x y) t) (QU4 (2*(QX4 C D x y).length) 1)).natAbs=t.natAbs ^ f*((dZ (Qu5 C t) (QU4 (2*C.length) 1)).natAbs*(dZ (Qu5 D t) (QU4 (2*D.length) 1)).natAbs):=by
 have hlen:=QV8 C D (x:Int) (y:Int)
 obtain⟨L,hL⟩:=ZU6 hm hp
 refine⟨leK C L (C.length-1),L x,fun t=>?_⟩
 rw[Qb6 (XX3 hT t) (u:=1) (v:=y+2*C.length) (by omega) (by omega) (by omega) (by omega),Qb6 (XX3 hm t) (u:=1) (v:=x) (by omega) (by omega) hx1 hx2,Qb6 (XX3 hm' t) (u:=1) (v:=y) (by omega) (by omega) hy1 hy2,<-Kq7 C L t,<-Int.natAbs_pow]
 -- columns
 have pc:(QU4 (2*(QX4 C D x y).length) (y+2*C.length)).Perm (List.range' 1 (2*C.length)++(QU4 (2*D.length) y).map (fun c=>c+2*C.length)):=by
  have nd2:((QU4 (2*D.length) y).map (fun c=>c+2*C.length)).Nodup:=by
   rw[List.nodup_iff_pairwise_ne,List.pairwise_map]
   exact(List.nodup_iff_pairwise_ne.1 (QD2 (2*D.length) y)).imp fun q=>by omega
  rw [List.perm_ext_iff_of_nodup (QD2 _ _) (List.nodup_append.2 ⟨Qb5 _, nd2, fun a ha b hb => by
   rw[List.mem_range'_1]at ha
   obtain⟨c,hc,rfl⟩:=List.mem_map.1 hb
   have:=arcsL_mem.1 hc
   omega⟩)]
  intro c
  rw[List.mem_append,arcsL_mem,List.mem_range'_1,List.mem_map,hlen]
  constructor
  · rintro⟨a1,a2,a3⟩
    by_cases q:c<=2*C.length
    · exact Or.inl (by omega)
    · exact Or.inr ⟨c-2*C.length,arcsL_mem.2 (by omega),by omega⟩
  · rintro(q|⟨d,q1,q2⟩)
    · omega
    · have:=arcsL_mem.1 q1
      omega
 rw[QH6 _ pc]
 -- rows
 have pr:(Qu5 (QX4 C D x y) t).Perm (((ixL C.length C.length).map (rwA (QX4 C D x y) t))++((ixL D.length (D.length-1)).map fun i=>rwA (QX4 C D x y) t (Sum.elim (fun j=>Sum.inl (C.length+j)) (fun j=>Sum.inr (C.length+j)) i))):=by
  have rs:∀ (a b:Nat) (g:Nat->Nat->Int),(List.range (a+b)).map g=(List.range a).map g++(List.range b).map fun j=>g (a+j):=fun a b g=>by
   rw[List.range_add,List.map_append,List.map_map];rfl
  unfold Qu5
  rw[hlen,show C.length+D.length-1=C.length+(D.length-1) by omega,rs,rs]
  unfold ixL rwA
  rw[List.map_append,List.map_map,List.map_map,List.map_append,List.map_map,List.map_map]
  show List.Perm _ ((((List.range C.length).map (eA (QX4 C D x y)))++((List.range C.length).map (rA (QX4 C D x y) t)))++(((List.range D.length).map fun j=>eA (QX4 C D x y) (C.length+j))++((List.range (D.length-1)).map fun j=>rA (QX4 C D x y) t (C.length+j))))
  rw[List.append_assoc,List.append_assoc]
  refine List.Perm.append_left _ ?_
  rw[<-List.append_assoc,<-List.append_assoc]
  exact List.Perm.append_right _ List.perm_append_comm
 rw [KF7 pr, ZU0 _ _ _ _ (by simp [ixL]; omega) (fun r hr c hc => by
  obtain⟨i,hi,rfl⟩:=List.mem_map.1 hr
  obtain⟨d,hd,rfl⟩:=List.mem_map.1 hc
  obtain⟨d1,d2,d3⟩:=arcsL_mem.1 hd
  rcases List.mem_append.1 hi with g|g
  · obtain⟨k,hk,rfl⟩:=List.mem_map.1 g
    exact Zk3 hm hm' hx1 hx2 hy1 hy2 (List.mem_range.1 hk) _ d1 d3
  · obtain⟨k,hk,rfl⟩:=List.mem_map.1 g
    exact Zk3 hm hm' hx1 hx2 hy1 hy2 (List.mem_range.1 hk) _ d1 d3)]
 -- D's part
 have hQ:dZ ((ixL D.length (D.length-1)).map fun i=>rwA (QX4 C D x y) t (Sum.elim (fun j=>Sum.inl (C.length+j)) (fun j=>Sum.inr (C.length+j)) i)) ((QU4 (2*D.length) y).map (fun c=>c+2*C.length))=dZ (Qu5 D t) (QU4 (2*D.length) y):=by
  rw[ZX8,List.map_map,ZJ2]
  refine Qz8 _ _ _ _ fun i hi c hc=>?_
  obtain⟨c1,c2,c3⟩:=arcsL_mem.1 hc
  rcases List.mem_append.1 hi with g|g
  · obtain⟨k,hk,rfl⟩:=List.mem_map.1 g
    exact JQ1 hm hm' hx1 hx2 hy1 hy2 (List.mem_range.1 hk) _ c1 c3
  · obtain⟨k,hk,rfl⟩:=List.mem_map.1 g
    have hk:=List.mem_range.1 hk
    show sdR (QX4 C D x y) (C.length+k) (qR t ((QX4 C D x y).getD (C.length+k) Cr.none)) (c+2*C.length)=sdR D k (qR t (D.getD k Cr.none)) c
    rw[JF3 (by omega)]
    exact JQ1 hm hm' hx1 hx2 hy1 hy2 (by omega) _ c1 c3
 rw[hQ,Int.natAbs_mul,<-Nat.mul_assoc,<-Nat.mul_assoc]
 congr 1
 -- C's part
 obtain⟨n,hn⟩:∃ n,C.length=n+1:=⟨C.length - 1,by omega⟩
 have ix:ixL C.length C.length=ixL C.length (C.length-1)++[Sum.inr (C.length-1)]:=by
  unfold ixL
  rw[hn,Nat.add_sub_cancel,List.append_assoc]
  congr 1
  rw[List.range_succ,List.map_append]
  rfl
 rw[ix,List.map_append,List.map_cons,List.map_nil,XH4,List.append_nil,JW7,<-Int.natAbs_mul,<-Int.natAbs_mul]
 have hx:rwA (QX4 C D x y) t (Sum.inr (C.length-1))=rA (QX4 C D x y) t (C.length-1):=rfl
 rw[hx]
 have e1:=Zx4 [] ((ixL C.length (C.length-1)).map (rwA (QX4 C D x y) t)) (fun _=>0) (rA (QX4 C D x y) t (C.length-1)) (lmK C L t (C.length-1)) (List.range' 1 (2*C.length))
 simp only[List.nil_append]at e1
 rw[show dZ ((fun _=>(0:Int))::(ixL C.length (C.length-1)).map (rwA (QX4 C D x y) t)) (List.range' 1 (2*C.length))=0 from QY2 _ _ _ fun _ _=>rfl,Int.zero_add]at e1
 rw[<-e1]
 have e2:=XH5 (rwA (QX4 C D x y) t) (Sum.elim (lmK C L t) (lmK C L t)) (List.range' 1 (2*C.length)) (ixL C.length (C.length-1)) (ixL C.length (C.length-1)) [] (fun c=>0+lmK C L t (C.length-1)*rA (QX4 C D x y) t (C.length-1) c) rfl
 rw[<-e2]
 have e3:∀ c,1<=c->c<=2*C.length->(0+lmK C L t (C.length-1)*rA (QX4 C D x y) t (C.length-1) c)+((ixL C.length (C.length-1)).map fun i=>Sum.elim (lmK C L t) (lmK C L t) i*rwA (QX4 C D x y) t i c).sum=if c=x then t ^ L x else 0:=fun c h1 h2=>by
  rw[<-Kf0 hm hm' hx1 hx2 hy1 hy2 (t:=t) hL h1 h2]
  unfold ixL
  rw[List.map_append,List.sum_append,List.map_map,List.map_map]
  have f1:((List.range C.length).map ((fun i=>Sum.elim (lmK C L t) (lmK C L t) i*rwA (QX4 C D x y) t i c) ∘ Sum.inl)).sum=QZ0 C.length (fun k=>lmK C L t k*eA (QX4 C D x y) k c):=Qy5 _ _
  have f2:((List.range (C.length-1)).map ((fun i=>Sum.elim (lmK C L t) (lmK C L t) i*rwA (QX4 C D x y) t i c) ∘ Sum.inr)).sum=QZ0 (C.length-1) (fun k=>lmK C L t k*rA (QX4 C D x y) t k c):=Qy5 _ _
  rw[f1,f2]
  have f3:QZ0 C.length (fun k=>lmK C L t k*(rA (QX4 C D x y) t k c+eA (QX4 C D x y) k c))=QZ0 C.length (fun k=>lmK C L t k*rA (QX4 C D x y) t k c)+QZ0 C.length (fun k=>lmK C L t k*eA (QX4 C D x y) k c):=by
   rw[<-QZ5]
   exact QQ4 fun k _=>Int.mul_add _ _ _
  have f4:QZ0 C.length (fun k=>lmK C L t k*rA (QX4 C D x y) t k c)=QZ0 (C.length-1) (fun k=>lmK C L t k*rA (QX4 C D x y) t k c)+lmK C L t (C.length-1)*rA (QX4 C D x y) t (C.length-1) c:=by
   rw[hn,Nat.add_sub_cancel];rfl
  omega
 have e4:dZ ((fun c=>0+lmK C L t (C.length-1)*rA (QX4 C D x y) t (C.length-1) c+((ixL C.length (C.length-1)).map fun i=>Sum.elim (lmK C L t) (lmK C L t) i*rwA (QX4 C D x y) t i c).sum)::(ixL C.length (C.length-1)).map (rwA (QX4 C D x y) t)) (List.range' 1 (2*C.length))=dZ ((fun c=>if c=x then t ^ L x else 0)::(ixL C.length (C.length-1)).map (rwA (QX4 C D x y) t)) (List.range' 1 (2*C.length)):=
  Qj7 _ _ _ _ _ (fun c hc=>by rw[List.mem_range'_1]at hc;exact e3 c (by omega) (by omega)) (fun _ _ _=>rfl)
 rw[e4,QH6 _ (Xj7 hx1 hx2)]
 have e5:dZ ((fun c=>if c=x then t ^ L x else 0)::(ixL C.length (C.length-1)).map (rwA (QX4 C D x y) t)) (x::QU4 (2*C.length) x)=t ^ L x*dZ ((ixL C.length (C.length-1)).map (rwA (QX4 C D x y) t)) (QU4 (2*C.length) x):=by
  show(if x=x then t ^ L x else 0)*dZ _ (QU4 (2*C.length) x)-QJ3 _ (QU4 (2*C.length) x) _=_
  rw[if_pos rfl,QY2 _ _ _ (fun c hc=>if_neg (arcsL_mem.1 hc).2.2)]
  omega
 rw[e5]
 congr 2
 rw[ZJ2]
 refine Qz8 _ _ _ _ fun i hi c hc=>?_
 obtain⟨c1,c2,c3⟩:=arcsL_mem.1 hc
 rcases List.mem_append.1 hi with g|g
 · obtain⟨k,hk,rfl⟩:=List.mem_map.1 g
   exact Kk8 hm hm' hx1 hx2 hy1 hy2 (List.mem_range.1 hk) _ c2 c3
 · obtain⟨k,hk,rfl⟩:=List.mem_map.1 g
   have hk:=List.mem_range.1 hk
   show sdR (QX4 C D x y) k (qR t ((QX4 C D x y).getD k Cr.none)) c=sdR C k (qR t (C.getD k Cr.none)) c
   rw[JD8 (by omega)]
   exact Kk8 hm hm' hx1 hx2 hy1 hy2 (by omega) _ c2 c3
end
end Go.Proofs.YtookanmeflbdlaaGreatDoor
/- Alexander's polynomial of a sum: values at whole numbers; the product. -/
namespace Go.Proofs.YtookanmeflbdlaaGreatDoor
open Poly
def vlT (t:Int):List (Int×Int)->Int
 |[]=>0
 |u::l=>t ^ u.1.toNat*u.2+vlT t l
def NnL (L:List (Int×Int)):Prop:=∀ u∈L,0<=u.1
theorem Kq3:NnL []:=fun _ h=>nomatch h
theorem Zz2 (t:Int) (a b:List (Int×Int)):vlT t (a++b)=vlT t a+vlT t b:=by
 induction a with
 |nil=>simp[vlT]
 |cons u a ih=>simp only[List.cons_append,vlT,ih];omega
theorem XD6 (t:Int) (K:Nat):∀ L:List (Int×Int),(∀ u∈L,0<=u.1/\u.1<=K)->vlT t L=QZ0 (K+1) (fun i=>t ^ i*coefL L (i:Int))
 |[],_=>by rw[QQ4 (g:=fun _=>0) fun i _=>by show _*(0:Int)=0;simp,QV4];rfl
 |u::L,h=>by
  have hu:=h u (.head _)
  show t ^ u.1.toNat*u.2+vlT t L=_
  rw[XD6 t K L (fun v hv=>h v (.tail _ hv))]
  have e:∀ n:Nat,QZ0 n (fun i=>t ^ i*(if u.1=(i:Int) then u.2 else 0))=if u.1<n then t ^ u.1.toNat*u.2 else 0:=fun n=>by
   induction n with
   |zero=>rw[if_neg (by omega)];rfl
   |succ n ih=>
    show QZ0 n _+t ^ n*(if u.1=(n:Int) then u.2 else 0)=_
    rw[ih]
    by_cases q:u.1=(n:Int)
    · rw[if_neg (by omega),if_pos q,if_pos (by omega),show u.1.toNat=n by omega];omega
    · rw[if_neg q,Int.mul_zero,Int.add_zero]
      by_cases g:u.1<(n:Int)
      · rw[if_pos g,if_pos (by omega)]
      · rw[if_neg g,if_neg (by omega)]
  have e1:=e (K+1)
  rw[if_pos (by omega)]at e1
  rw[<-e1,<-QZ5]
  refine QQ4 fun i _=>?_
  show _=t ^ i*((if u.1=(i:Int) then u.2 else 0)+coefL L (i:Int))
  rw[Int.mul_add]
theorem KK6 {L:List (Int×Int)} (h:NnL L):∃ K:Nat,∀ u∈L,0<=u.1/\u.1<=K:=by
 induction L with
 |nil=>exact⟨0,fun t ht=>by cases ht⟩
 |cons v L ih=>
  obtain⟨K,hK⟩:=ih fun u hu=>h u (.tail _ hu)
  refine⟨K+v.1.toNat,fun u hu=>?_⟩
  cases hu with
  |head=>have:=h v (.head _);omega
  |tail _ hu=>have:=hK u hu;omega
theorem Zz1 (t:Int) {L M:List (Int×Int)} (hL:NnL L) (hM:NnL M) (h:∀ y,coefL L y=coefL M y):vlT t L=vlT t M:=by
 obtain⟨K1,h1⟩:=KK6 hL
 obtain⟨K2,h2⟩:=KK6 hM
 rw[XD6 t (K1+K2) L (fun u hu=>by have:=h1 u hu;omega),XD6 t (K1+K2) M (fun u hu=>by have:=h2 u hu;omega)]
 exact QQ4 fun i _=>by rw[h]
def EvT (t:Int) (f:Int->Int) (v:Int):Prop:=∃ L,NnL L/\(∀ y,coefL L y=f y)/\vlT t L=v
theorem XK3 (e c:Int) (L:List (Int×Int)) (y:Int):coefL (L.map fun u=>(u.1+e,c*u.2)) y=c*coefL L (y-e):=by
 induction L with
 |nil=>simp[coefL]
 |cons u L ih=>
  simp only[List.map_cons,coefL,ih,Int.mul_add]
  by_cases q:u.1+e=y
  · rw[if_pos q,if_pos (by omega)]
  · rw[if_neg q,if_neg (by omega)];omega
theorem XD7 (t e c:Int) (he:0<=e) {L:List (Int×Int)} (h:NnL L):vlT t (L.map fun u=>(u.1+e,c*u.2))=t ^ e.toNat*c*vlT t L:=by
 induction L with
 |nil=>simp[vlT]
 |cons u L ih=>
  have h0:=h u (.head _)
  simp only[List.map_cons,vlT,ih fun v hv=>h v (.tail _ hv)]
  rw[show(u.1+e).toNat=u.1.toNat+e.toNat by omega,Int.pow_add]
  grind
theorem Kq4 {e c:Int} (he:0<=e) {L:List (Int×Int)} (h:NnL L):NnL (L.map fun u=>(u.1+e,c*u.2)):=fun v hv=>by
 obtain⟨u,hu,rfl⟩:=List.mem_map.1 hv
 have:=h u hu
 show 0<=u.1+e
 omega
theorem Kq5 {L M:List (Int×Int)} (h:NnL L) (h':NnL M):NnL (L++M):=fun u hu=>by
 rcases List.mem_append.1 hu with g|g
 · exact h u g
 · exact h' u g
theorem EvT.sub {t:Int} {f g:Int->Int} {v u:Int} (h:EvT t f v) (h':EvT t g u):EvT t (fun y=>f y-g y) (v-u):=by
 obtain⟨L,n1,h1,h2⟩:=h
 obtain⟨M,n2,h3,h4⟩:=h'
 refine⟨L++M.map (fun t=>(t.1+0,-1*t.2)),Kq5 n1 (Kq4 (Int.le_refl _) n2),fun y=>?_,?_⟩
 · rw[Qx1,XK3,h1,h3,show y-0=y by omega]
   show f y + -1*g y=f y-g y
   omega
 · rw[Zz2,XD7 t 0 (-1) (Int.le_refl _) n2,h2,h4]
   rw[show(0:Int).toNat=0 from rfl,Int.pow_zero]
   omega
theorem EvT.prod {t:Int} {f:Int->Int} {v:Int} (h:EvT t f v) (a:List (Int×Int)) (ha:NnL a):EvT t (prodL a f) (vlT t a*v):=by
 obtain⟨L,n1,h1,h2⟩:=h
 induction a with
 |nil=>exact⟨[],Kq3,fun _=>rfl,by simp[vlT]⟩
 |cons s a ih=>
  obtain⟨M,n2,h3,h4⟩:=ih fun u hu=>ha u (.tail _ hu)
  have h0:=ha s (.head _)
  refine⟨L.map (fun u=>(u.1+s.1,s.2*u.2))++M,Kq5 (Kq4 h0 n1) n2,fun y=>?_,?_⟩
  · rw[Qx1,XK3,h1,h3];rfl
  · rw[Zz2,XD7 t s.1 s.2 h0 n1,h2,h4]
    show t ^ s.1.toNat*s.2*v+vlT t a*v=(t ^ s.1.toNat*s.2+vlT t a)*v
    grind
theorem EvT.row (t:Int) (r:Nat->List (Int×Int)) (hr:∀ c,NnL (r c)):∀ (cs:List Nat) (h:List Nat->Int->Int) (hv:List Nat->Int),(∀ rest,EvT t (h rest) (hv rest))->EvT t (Poly.rowF r cs h) (QJ3 (fun c=>vlT t (r c)) cs hv)
 |[],_,_,_=>⟨[],Kq3,fun _=>rfl,rfl⟩
 |c::cs,_,_,e=>((e cs).prod (r c) (hr c)).sub (EvT.row t r hr cs _ _ fun rest=>e (c::rest))
theorem EvT.det (t:Int):∀ (rows:List (Nat->List (Int×Int))),(∀ r∈rows,∀ c,NnL (r c))->∀ cs:List Nat,EvT t (Xq0 rows cs) (JU2 (rows.map fun r c=>vlT t (r c)) cs)
 |[],_,_=>by
  refine⟨[(0,1)],fun u hu=>?_,fun y=>?_,?_⟩
  · rw[List.mem_singleton.1 hu];exact Int.le_refl _
  · show(if(0:Int)=y then(1:Int) else 0)+0=(if y=0 then 1 else 0)
    by_cases q:y=0
    · rw[if_pos q,if_pos q.symm];rfl
    · rw[if_neg q,if_neg (fun z=>q z.symm)];rfl
  · show t ^ 0*1+0=1
    rw[Int.pow_zero];rfl
 |r::rows,h,cs=>EvT.row t r (h r (.head _)) cs _ _ fun rest=>EvT.det t rows (fun s hs=>h s (.tail _ hs)) rest
theorem Zw8 {C:List Cr} {N:Nat} {l:List (Int×Int)} (h:Canon l (detOf (alT C N))) (hn:NnL l) (t:Int):vlT t l=dZ ((List.range N).map (alV C t)) (List.range N):=by
 have hap:∀ x y,NnL (QY5 x y):=fun x y u hu=>by
  unfold QY5 at hu
  rcases List.mem_append.1 hu with g|g
  · split at g
    · cases g
    · rw[List.mem_singleton.1 g];exact Int.le_refl _
  · split at g
    · cases g
    · rw[List.mem_singleton.1 g];show(0:Int)<=1;omega
 obtain ⟨L, n1, h1, h2⟩ := EvT.det t (rowsOf (alT C N)) (fun r hr c => by
  unfold rowsOf at hr
  obtain⟨R,hR,rfl⟩:=List.mem_map.1 hr
  unfold alT at hR
  obtain⟨i,-,rfl⟩:=List.mem_map.1 hR
  show NnL ((alR C N i).getD c [])
  by_cases hc:c<N
  · rw[Zx8 C N i c hc];exact hap _ _
  · rw[List.getD_eq_getElem?_getD,List.getElem?_eq_none (by rw[XQ3];omega)]
    intro u hu;cases hu) (List.range (alT C N).length)
 have e:vlT t l=vlT t L:=Zz1 t hn n1 fun y=>by rw[XV3 h,h1];rfl
 rw[e,h2,Qk5,ZX9 _ _ (by simp)]
 have e2:(rowsOf (alT C N)).map (fun r c=>vlT t (r c))=(List.range N).map fun i c=>vlT t ((alR C N i).getD c []):=by
  unfold rowsOf alT
  rw[List.map_map,List.map_map]
  rfl
 rw[e2,<-ZX9 _ _ (by simp),<-ZX9 _ _ (by simp)]
 refine Qz8 _ _ _ _ fun i _ c hc=>?_
 rw[Zx8 C N i c (List.mem_range.1 hc)]
 unfold alV QY5
 by_cases hx:(alF C i c).1=0<;>by_cases hy:(alF C i c).2=0
 · rw[if_pos hx,if_pos hy,hx,hy];show(0:Int)=0+t*0;omega
 · rw[if_pos hx,if_neg hy,hx];show t ^ 1*(alF C i c).2+0=0+t*(alF C i c).2;rw[Int.pow_one];omega
 · rw[if_neg hx,if_pos hy,hy];show t ^ 0*(alF C i c).1+0=(alF C i c).1+t*0;rw[Int.pow_zero];omega
 · rw[if_neg hx,if_neg hy];show t ^ 0*(alF C i c).1+(t ^ 1*(alF C i c).2+0)=(alF C i c).1+t*(alF C i c).2;rw[Int.pow_zero,Int.pow_one];omega
theorem XG4:∀ (K:Nat) (f:Nat->Int),(∃ i,i<K/\f i≠0)->∃ B:Nat,∀ t:Nat,B<t->QZ0 K (fun i=>(t:Int) ^ i*f i)≠0
 |0,_,h=>by obtain⟨i,h,-⟩:=h;omega
 |K+1,f,h=>by
  have sp:∀ t:Nat,QZ0 (K+1) (fun i=>(t:Int) ^ i*f i)=f 0+(t:Int)*QZ0 K (fun i=>(t:Int) ^ i*f (i+1)):=fun t=>by
   have sp0:∀ M (g:Nat->Int),QZ0 (M+1) g=g 0+QZ0 M (fun i=>g (i+1)):=fun M g=>by
    induction M with
    |zero=>show 0+g 0=g 0+0;omega
    |succ M ih=>show QZ0 (M+1) g+g (M+1)=g 0+(QZ0 M (fun i=>g (i+1))+g (M+1));rw[ih];omega
   rw[sp0,<-XQ8]
   congr 1
   · rw[Int.pow_zero];omega
   · exact QQ4 fun i _=>by rw[Int.pow_succ];grind
  by_cases h0:f 0=0
  · obtain⟨i,hi,hf⟩:=h
    obtain ⟨B, hB⟩ := XG4 K (fun i => f (i + 1)) ⟨i - 1, by
     have:i≠0:=fun e=>hf (by rw[e];exact h0)
     omega,by
     have:i≠0:=fun e=>hf (by rw[e];exact h0)
     show f (i-1+1)≠0
     rw[show i-1+1=i by omega];exact hf⟩
    refine⟨B,fun t ht e=>?_⟩
    rw[sp,h0,Int.zero_add]at e
    rcases Int.mul_eq_zero.1 e with q|q
    · omega
    · exact hB t ht q
  · refine⟨(f 0).natAbs,fun t ht e=>?_⟩
    rw[sp]at e
    have hd:(t:Int) ∣ f 0:=⟨-QZ0 K (fun i=>(t:Int) ^ i*f (i+1)),by rw[Int.mul_neg];omega⟩
    have:=Int.natAbs_dvd_natAbs.2 hd
    have:=Nat.le_of_dvd (by omega) this
    omega
theorem Zy9 {K:Nat} {f g:Nat->Int} (h:∀ t:Nat,1<=t->(QZ0 K (fun i=>(t:Int) ^ i*f i)).natAbs=(QZ0 K (fun i=>(t:Int) ^ i*g i)).natAbs):(∀ i,i<K->f i=g i)∨∀ i,i<K->f i = -g i:=by
 refine Classical.byContradiction fun hn=>?_
 have h1:∃ i,i<K/\f i-g i≠0:=Classical.byContradiction fun q=>hn (Or.inl fun i hi=>Classical.byContradiction fun z=>q ⟨i,hi,by omega⟩)
 have h2:∃ i,i<K/\f i+g i≠0:=Classical.byContradiction fun q=>hn (Or.inr fun i hi=>Classical.byContradiction fun z=>q ⟨i,hi,by omega⟩)
 obtain⟨B1,b1⟩:=XG4 K (fun i=>f i - g i) h1
 obtain⟨B2,b2⟩:=XG4 K (fun i=>f i+g i) h2
 have e1:=b1 (B1+B2+1) (by omega)
 have e2:=b2 (B1+B2+1) (by omega)
 have e3:=h (B1+B2+1) (by omega)
 rw[QQ4 (g:=fun i=>((B1+B2+1:Nat):Int) ^ i*f i-((B1+B2+1:Nat):Int) ^ i*g i) (fun i _=>Int.mul_sub _ _ _),<-Qf4]at e1
 rw[QQ4 (g:=fun i=>((B1+B2+1:Nat):Int) ^ i*f i+((B1+B2+1:Nat):Int) ^ i*g i) (fun i _=>Int.mul_add _ _ _),QZ5]at e2
 omega
end Go.Proofs.YtookanmeflbdlaaGreatDoor
/- Alexander's polynomial of a sum is the product. -/
namespace Go.Proofs.YtookanmeflbdlaaGreatDoor
open Poly
structure UnL (l:List (Int×Int)):Prop where
 up:l.Pairwise fun a b=>a.1<b.1
 nz:∀ u∈l,u.2≠0
 first:l=[]∨∃ c m,l=(0,c)::m/\0<c
theorem Qx5 {x:Int}:∀ {l:List (Int×Int)},(∀ u∈l,u.1≠x)->coefL l x=0
 |[],_=>rfl
 |u::l,h=>by
  show(if u.1=x then u.2 else 0)+coefL l x=0
  rw[if_neg (h u (.head _)),Qx5 fun v hv=>h v (.tail _ hv)];rfl
theorem XK4:∀ {l:List (Int×Int)},l.Pairwise (fun a b=>a.1<b.1)->(∀ u∈l,u.2≠0)->Canon l (coefL l)
 |[],_,_=>⟨List.Pairwise.nil,fun x c=>⟨(fun h=>by cases h),fun h=>absurd h.1.symm h.2⟩⟩
 |u::l,hp,hn=>by
  obtain⟨h1,h2⟩:=List.pairwise_cons.1 hp
  obtain⟨i1,i2⟩:=XK4 h2 fun v hv=>hn v (.tail _ hv)
  refine⟨hp,fun x c=>?_⟩
  show(x,c)∈u::l↔(if u.1=x then u.2 else 0)+coefL l x=c/\c≠0
  by_cases e:u.1=x
  · rw[if_pos e,Qx5 (x:=x) (fun v hv=>by have:=h1 v hv;omega),Int.add_zero]
    constructor
    · intro q
      rcases List.mem_cons.1 q with g|g
      · have:=hn u (.head _)
        rw[<-g]at this ⊢
        exact⟨rfl,this⟩
      · have:=h1 _ g
        simp only at this
        omega
    · rintro⟨q,-⟩
      rw[<-q,<-e]
      exact .head _
  · rw[if_neg e,Int.zero_add,<-i2]
    constructor
    · intro q
      rcases List.mem_cons.1 q with g|g
      · exact absurd (by rw[<-g]) e
      · exact g
    · exact fun q=>.tail _ q
theorem UnL.nn {l:List (Int×Int)} (h:UnL l):NnL l:=fun u hu=>by
 rcases h.first with e|⟨c,m,e,-⟩
 · rw[e]at hu;cases hu
 · have hp:=h.up
   rw[e]at hu hp
   rcases List.mem_cons.1 hu with g|g
   · rw[g];exact Int.le_refl _
   · have:=(List.pairwise_cons.1 hp).1 u g
     simp only at this
     omega
theorem Qx4 {l:List (Int×Int)} (h:NnL l) {y:Int} (hy:y<0):coefL l y=0:=Qx5 fun u hu=>by have:=h u hu;omega
theorem UnL.zero {l:List (Int×Int)} (h:UnL l) (hl:l≠[]):0<coefL l 0:=by
 rcases h.first with e|⟨c,m,e,hc⟩
 · exact absurd e hl
 · have hp:=h.up
   rw[e]at hp ⊢
   show 0<(if(0:Int)=0 then c else 0)+coefL m 0
   rw[if_pos rfl,Qx5 fun u hu=>by have:=(List.pairwise_cons.1 hp).1 u hu;simp only at this;omega]
   omega
theorem ZZ7 {r u:List (Int×Int)} (hr:UnL r) (hu:UnL u) {a b:Nat} (h:∀ t:Nat,1<=t->t ^ a*(vlT t r).natAbs=t ^ b*(vlT t u).natAbs):r=u:=by
 obtain⟨K1,k1⟩:=KK6 hr.nn
 obtain⟨K2,k2⟩:=KK6 hu.nn
 have sh:∀ (l:List (Int×Int)) (c K:Nat),NnL l->(∀ v∈l,0<=v.1/\v.1<=K)->∀ M,K+c<=M->∀ t:Nat,QZ0 (M+1) (fun i=>(t:Int) ^ i*coefL l ((i:Int)-c))=(t:Int) ^ c*vlT t l:=fun l c K hn hk M hM t=>by
  have e1:=XD7 (t:Int) (c:Int) 1 (by omega) hn
  have e2 := XD6 (t : Int) M (l.map fun v => (v.1 + (c : Int), 1 * v.2)) (fun v hv => by
   obtain⟨w,hw,rfl⟩:=List.mem_map.1 hv
   have:=hk w hw
   show 0<=w.1+(c:Int)/\w.1+(c:Int)<=M
   omega)
  rw[e1,Int.toNat_natCast,Int.mul_one]at e2
  rw[e2]
  exact QQ4 fun i _=>by rw[XK3,Int.one_mul]
 have hs := Zy9 (K := K1 + K2 + a + b + 1) (f := fun i => coefL r ((i : Int) - a)) (g := fun i => coefL u ((i : Int) - b)) (fun t ht => by
  rw[sh r a K1 hr.nn k1 (K1+K2+a+b) (by omega) t,sh u b K2 hu.nn k2 (K1+K2+a+b) (by omega) t,Int.natAbs_mul,Int.natAbs_mul,Int.natAbs_pow,Int.natAbs_pow,Int.natAbs_natCast]
  exact h t ht)
 obtain⟨s,hs1,hs2⟩:∃ s:Int,(s=1∨s = -1)/\∀ y:Int,coefL r (y - a)=s*coefL u (y - b):=by
  have ext:∀ s:Int,(∀ i:Nat,i<K1+K2+a+b+1->coefL r ((i:Int)-a)=s*coefL u ((i:Int)-b))->∀ y:Int,coefL r (y-a)=s*coefL u (y-b):=fun s h y=>by
   by_cases h1:y<0
   · rw[Qx4 hr.nn (by omega),Qx4 hu.nn (by omega),Int.mul_zero]
   · by_cases h2:y<((K1+K2+a+b+1:Nat):Int)
     · obtain⟨i,rfl⟩:∃ i:Nat,y=(i:Int):=⟨y.toNat,by omega⟩
       exact h i (by omega)
     · rw[Qx5 fun v hv=>by have:=k1 v hv;omega,Qx5 fun v hv=>by have:=k2 v hv;omega,Int.mul_zero]
  rcases hs with q|q
  · exact⟨1,Or.inl rfl,ext 1 fun i hi=>by rw[Int.one_mul];exact q i hi⟩
  · exact⟨-1,Or.inr rfl,ext (-1) fun i hi=>by have:coefL r ((i:Int)-a) = -coefL u ((i:Int)-b):=q i hi;omega⟩
 by_cases r0:r=[]
 · by_cases u0:u=[]
   · rw[r0,u0]
   · have:=hs2 b
     have hz:=hu.zero u0
     rw[r0,show(b:Int)-b=0 by omega]at this
     have e:coefL [] ((b:Int)-a)=0:=rfl
     rw[e]at this
     rcases hs1 with q|q<;>rw[q]at this<;>omega
 · by_cases u0:u=[]
   · have:=hs2 a
     have hz:=hr.zero r0
     rw[u0,show(a:Int)-a=0 by omega]at this
     have e:coefL [] ((a:Int)-b)=0:=rfl
     rw[e,Int.mul_zero]at this
     omega
   · have zr:=hr.zero r0
     have zu:=hu.zero u0
     have e1:=hs2 a
     have e2:=hs2 b
     rw[show(a:Int)-a=0 by omega]at e1
     rw[show(b:Int)-b=0 by omega]at e2
     have hab:a=b:=by
      rcases Nat.lt_trichotomy a b with q|q|q
      · rw[Qx4 hu.nn (show(a:Int)-b<0 by omega),Int.mul_zero]at e1;omega
      · exact q
      · rw[Qx4 hr.nn (show(b:Int)-a<0 by omega)]at e2
        rcases hs1 with g|g<;>rw[g]at e2<;>omega
     subst hab
     rw[show(a:Int)-a=0 by omega]at e1
     have hs3:s=1:=by
      rcases hs1 with g|g
      · exact g
      · rw[g]at e1;omega
     subst hs3
     have hf:coefL r=coefL u:=funext fun z=>by
      have:=hs2 (z+a)
      rw[show z+a-a=z by omega,Int.one_mul]at this
      exact this
     have c1:=XK4 hr.up hr.nz
     have c2:=XK4 hu.up hu.nz
     rw[hf]at c1
     exact canon_unique c1 c2
theorem KJ4 {l:List (Int×Int)} {f:Int->Int} (h:Canon l f) (hn:NnL l):UnL (unitL l)/\∃ i:Nat,∀ t:Nat,(vlT t l).natAbs=t ^ i*(vlT t (unitL l)).natAbs:=by
 have nz:∀ u∈l,u.2≠0:=fun u hu=>((h.2 u.1 u.2).1 hu).2
 cases l with
 |nil=>exact⟨⟨List.Pairwise.nil,(fun u hu=>by cases hu),Or.inl rfl⟩,0,fun t=>by show(0:Int).natAbs=t ^ 0*(0:Int).natAbs;simp⟩
 |cons v m=>
  have e0:∃ s:Int,(s=1∨s = -1)/\0<s*v.2/\unitL (v::m)=(v::m).map fun u=>(u.1-v.1,s*u.2):=by
   have hv:=nz v (.head _)
   by_cases q:v.2<0
   · refine⟨-1,Or.inr rfl,by omega,?_⟩
     unfold unitL
     refine List.map_congr_left fun u _=>?_
     show(u.1-v.1,if v.2<0 then -u.2 else u.2)=_
     rw[if_pos q]
     congr 1
     omega
   · refine⟨1,Or.inl rfl,by omega,?_⟩
     unfold unitL
     refine List.map_congr_left fun u _=>?_
     show(u.1-v.1,if v.2<0 then -u.2 else u.2)=_
     rw[if_neg q]
     congr 1
     omega
  obtain⟨s,hs,hs0,es⟩:=e0
  have hv0:=hn v (.head _)
  have low:∀ u∈v::m,v.1<=u.1:=fun u hu=>by
   rcases List.mem_cons.1 hu with g|g
   · rw[g];exact Int.le_refl _
   · have:=(List.pairwise_cons.1 h.1).1 u g;omega
  refine⟨⟨?_,?_,Or.inr ⟨s*v.2,m.map fun u=>(u.1-v.1,s*u.2),?_,hs0⟩⟩,v.1.toNat,fun t=>?_⟩
  · rw[es,List.pairwise_map]
    exact h.1.imp fun q=>by show _-v.1<_-v.1;omega
  · rw[es]
    intro u hu
    obtain⟨w,hw,rfl⟩:=List.mem_map.1 hu
    have:=nz w hw
    show s*w.2≠0
    rcases hs with q|q<;>rw[q]<;>omega
  · rw[es,List.map_cons,Int.sub_self]
  · have back : v :: m = (unitL (v :: m)).map fun u => (u.1 + v.1, s * u.2) := by
      rw[es,List.map_map]
      refine Eq.symm ((List.map_congr_left (g:=id) fun u _=>?_).trans (List.map_id _))
      show(u.1-v.1+v.1,s*(s*u.2))=u
      rcases hs with q|q<;>rw[q]<;>(refine Prod.ext ?_ ?_<;>(simp only;omega))
    have e := XD7 (t : Int) v.1 s hv0 (L := unitL (v :: m)) (fun u hu => by
     rw[es]at hu
     obtain⟨w,hw,rfl⟩:=List.mem_map.1 hu
     have:=low w hw
     show 0<=w.1-v.1
     omega)
    rw[<-back]at e
    rw[e,Int.natAbs_mul,Int.natAbs_mul,Int.natAbs_pow,Int.natAbs_natCast]
    rcases hs with q|q<;>rw[q]<;>simp
section
variable {C:List Cr} {loops:Int} (hm:QQ6 C loops=true)
include hm
theorem Kg3 (hp:QX6 C=true) (h0:0<C.length) {t:Int} (ht:t≠0) (cs:List Nat):dZ ((List.range C.length).map (alV C t)) cs=0:=by
 obtain⟨L,hL⟩:=ZU6 hm hp
 obtain⟨n,hn⟩:∃ n,C.length=n+1:=⟨C.length - 1,by omega⟩
 have rel:∀ j,QZ0 C.length (fun k=>lmK C L t k*alV C t k j)=0:=fun j=>by
  have e:∀ k,k<C.length->lmK C L t k*alV C t k j=ioC (fun a=>t ^ L a*(if j=ovM C a then 1 else 0)) (C.getD k Cr.none) false-ioC (fun a=>t ^ L a*(if j=ovM C a then 1 else 0)) (C.getD k Cr.none) true:=fun k hk=>by
   have e1:alV C t k j=(qR t (C.getD k Cr.none) 0+qE 0)*(if j=ovM C (aAt C k 0) then 1 else 0)+(qR t (C.getD k Cr.none) 1+qE 1)*(if j=ovM C (aAt C k 1) then 1 else 0)+(qR t (C.getD k Cr.none) 2+qE 2)*(if j=ovM C (aAt C k 2) then 1 else 0)+(qR t (C.getD k Cr.none) 3+qE 3)*(if j=ovM C (aAt C k 3) then 1 else 0):=by
    have eb:ovM C (aAt C k 1)=ovM C (aAt C k 3):=JB4 hm hk
    rw[Zx7,eb,show qE 0=0 from rfl,show qE 1=1 from rfl,show qE 2=0 from rfl,show qE 3 = -1 from rfl,show qR t (C.getD k Cr.none) 3=0 from rfl]
    grind
   have sd:=fun s hs=>Xb4 (t:=t) (hL k hk) s hs
   have one:∀ s,s<4->lmK C L t k*((qR t (C.getD k Cr.none) s+qE s)*(if j=ovM C (aAt C k s) then 1 else 0))=(if(C.getD k Cr.none).comes s=false then t ^ L (aAt C k s)*(if j=ovM C (aAt C k s) then 1 else 0) else 0)-(if(C.getD k Cr.none).comes s=true then t ^ L (aAt C k s)*(if j=ovM C (aAt C k s) then 1 else 0) else 0):=fun s hs=>by
    rw[<-Int.mul_assoc,sd s hs]
    cases hc:(C.getD k Cr.none).comes s
    · rw[if_neg (show ¬ (false=true) by decide),if_pos (show false=false from rfl),if_neg (show ¬ (false=true) by decide)]
      generalize t ^ L (aAt C k s)=z
      by_cases h:j=ovM C (aAt C k s)
      · rw[if_pos h];omega
      · rw[if_neg h];omega
    · rw[if_pos (show true=true from rfl),if_neg (show ¬ (true=false) by decide),if_pos (show true=true from rfl)]
      generalize t ^ L (aAt C k s)=z
      by_cases h:j=ovM C (aAt C k s)
      · rw[if_pos h];omega
      · rw[if_neg h];omega
   rw[e1,Int.mul_add,Int.mul_add,Int.mul_add,one 0 (by omega),one 1 (by omega),one 2 (by omega),one 3 (by omega)]
   show _=(if(C.getD k Cr.none).comes 0=false then t ^ L (aAt C k 0)*(if j=ovM C (aAt C k 0) then 1 else 0) else 0)+(if(C.getD k Cr.none).comes 1=false then t ^ L (aAt C k 1)*(if j=ovM C (aAt C k 1) then 1 else 0) else 0)+(if(C.getD k Cr.none).comes 2=false then t ^ L (aAt C k 2)*(if j=ovM C (aAt C k 2) then 1 else 0) else 0)+(if(C.getD k Cr.none).comes 3=false then t ^ L (aAt C k 3)*(if j=ovM C (aAt C k 3) then 1 else 0) else 0)-((if(C.getD k Cr.none).comes 0=true then t ^ L (aAt C k 0)*(if j=ovM C (aAt C k 0) then 1 else 0) else 0)+(if(C.getD k Cr.none).comes 1=true then t ^ L (aAt C k 1)*(if j=ovM C (aAt C k 1) then 1 else 0) else 0)+(if(C.getD k Cr.none).comes 2=true then t ^ L (aAt C k 2)*(if j=ovM C (aAt C k 2) then 1 else 0) else 0)+(if(C.getD k Cr.none).comes 3=true then t ^ L (aAt C k 3)*(if j=ovM C (aAt C k 3) then 1 else 0) else 0))
   omega
  rw[QQ4 e,<-Qf4,Zj8 hm]
  omega
 have hl:lmK C L t n≠0:=fun q=>by
  have:=Kq7 C L t n
  rw[q]at this
  have h2:0<t.natAbs ^ leK C L n:=Nat.pow_pos (by omega)
  simp at this
  omega
 rw[hn,List.range_succ,List.map_append,List.map_cons,List.map_nil,XH4,List.append_nil]
 have e1:=Zx4 [] ((List.range n).map (alV C t)) (fun _=>0) (alV C t n) (lmK C L t n) cs
 simp only[List.nil_append]at e1
 rw[show dZ ((fun _=>(0:Int))::(List.range n).map (alV C t)) cs=0 from QY2 _ _ _ fun _ _=>rfl,Int.zero_add]at e1
 have e2:=XH5 (alV C t) (lmK C L t) cs (List.range n) (List.range n) [] (fun c=>0+lmK C L t n*alV C t n c) rfl
 have e3:dZ ((fun c=>0+lmK C L t n*alV C t n c+((List.range n).map fun i=>lmK C L t i*alV C t i c).sum)::(List.range n).map (alV C t)) cs=0:=QY2 _ _ _ fun c _=>by
  have:=rel c
  rw[hn]at this
  have h3:QZ0 n (fun k=>lmK C L t k*alV C t k c)+lmK C L t n*alV C t n c=0:=this
  rw[Qy5]
  omega
 rw[e3]at e2
 rw[<-e2]at e1
 rcases Int.mul_eq_zero.1 e1.symm with q|q
 · exact absurd q hl
 · rw[q,Int.mul_zero]
theorem Qh2 (hp:QX6 C=true) (h0:0<C.length) (hl0:loops=0) {l:List (Int×Int)} (hA:IsAlex C loops l):UnL l/\∃ i:Nat,∀ t:Nat,1<=t->(dZ (Qu5 C t) (QU4 (2*C.length) 1)).natAbs=t ^ i*(vlT t l).natAbs:=by
 subst hl0
 have hge:=ZX1 C
 have void:UnL []:=⟨List.Pairwise.nil,(fun u hu=>by cases hu),Or.inl rfl⟩
 unfold IsAlex at hA
 rw[if_neg (by omega)]at hA
 by_cases hs:C.length<ovC C-1
 · rw[if_pos (Or.inr (Or.inr hs))]at hA
   subst hA
   refine⟨void,0,fun t _=>?_⟩
   rw[Xd7 hm h0,if_neg (by omega)]
   show 0=t ^ 0*(0:Int).natAbs
   simp
 · rw[if_neg (by omega)]at hA
   obtain⟨l0,c0,rfl⟩:=hA
   have hn:NnL l0:=fun u hu=>by
    obtain⟨e,hc⟩:=(c0.2 u.1 u.2).1 hu
    exact(Xd3 _ _ (XQ2 C (ovC C-1)) u.1 (by rw[e];exact hc)).1
   obtain⟨u1,i,u2⟩:=KJ4 c0 hn
   by_cases hmn:ovC C=C.length
   · refine⟨u1,i,fun t _=>?_⟩
     rw[Xd7 hm h0,if_pos hmn,<-u2 t,Zw8 c0 hn t,hmn]
   · have hz : ∀ t : Nat, 1 ≤ t → vlT t l0 = 0 := fun t ht => by
       rw[Zw8 c0 hn t,show ovC C-1=C.length by omega]
       exact Kg3 hm hp h0 (by omega) _
     have hnil:unitL l0=[]:=ZZ7 (a:=0) (b:=0) u1 void fun t ht=>by
      have hh:=u2 t
      rw[hz t ht]at hh
      have h2:0<t ^ i:=Nat.pow_pos (by omega)
      have h3:(vlT t (unitL l0)).natAbs=0:=by
       rcases Nat.eq_zero_or_pos (vlT t (unitL l0)).natAbs with q|q
       · exact q
       · have h4:=Nat.mul_pos h2 q
         rw[<-hh]at h4
         exact absurd h4 (by decide)
      rw[h3]
      rfl
     rw[hnil]
     refine⟨void,0,fun t _=>?_⟩
     rw[Xd7 hm h0,if_neg hmn]
     show 0=t ^ 0*(0:Int).natAbs
     simp
end
theorem KH5 {C D : List Cr} {x y : Nat} (hm : QQ6 C 0 = true) (hm' : QQ6 D 0 = true) (hp : QX6 C = true) (hp' : QX6 D = true) (hx1 : 1 ≤ x) (hx2 : x ≤ 2 * C.length) (hy1 : 1 ≤ y) (hy2 : y ≤ 2 * D.length)
    (hT:QQ6 (QX4 C D x y) 0=true) (hpT:QX6 (QX4 C D x y)=true) {p q r tl:List (Int×Int)} (hA:IsAlex C 0 p) (hB:IsAlex D 0 q) (hR:IsAlex (QX4 C D x y) 0 r) (hc:Canon tl (fun z=>prodL p (coefL q) z)):tl=r:=by
 have hlen:=QV8 C D (x:Int) (y:Int)
 obtain⟨u1,i1,v1⟩:=Qh2 hm hp (by omega) rfl hA
 obtain⟨u2,i2,v2⟩:=Qh2 hm' hp' (by omega) rfl hB
 obtain⟨u3,i3,v3⟩:=Qh2 hT hpT (by omega) rfl hR
 obtain⟨e,f,h⟩:=Zy1 hm hm' hx1 hx2 hy1 hy2 hp hT
 have ev:∀ t:Int,∃ L,NnL L/\(∀ z,coefL L z=prodL p (coefL q) z)/\vlT t L=vlT t p*vlT t q:=fun t=>EvT.prod (t:=t) (f:=coefL q) (v:=vlT t q) ⟨q,u2.nn,fun _=>rfl,rfl⟩ p u1.nn
 have nz:∀ u∈tl,u.2≠0:=fun u hu=>((hc.2 u.1 u.2).1 hu).2
 have nn:NnL tl:=fun u hu=>by
  obtain⟨L,n1,n2,-⟩:=ev 1
  refine Classical.byContradiction fun hneg=>?_
  have h1:prodL p (coefL q) u.1=u.2/\u.2≠0:=(hc.2 u.1 u.2).1 hu
  have h2:=n2 u.1
  rw[Qx4 n1 (by omega),h1.1]at h2
  exact h1.2 h2.symm
 have vt:∀ t:Int,vlT t tl=vlT t p*vlT t q:=fun t=>by
  obtain⟨L,n1,n2,n3⟩:=ev t
  rw[<-n3]
  exact Zz1 t nn n1 fun z=>by rw[XV3 hc,n2]
 have u4:UnL tl:=by
  refine⟨hc.1,nz,?_⟩
  -- the lowest term
  cases tl with
  |nil=>exact Or.inl rfl
  |cons v m=>
   refine Or.inr ?_
   have h1:prodL p (coefL q) v.1=v.2/\v.2≠0:=(hc.2 v.1 v.2).1 (.head _)
   have pz:p≠[]:=fun q0=>h1.2 (by rw[<-h1.1,q0];rfl)
   have qz:q≠[]:=fun q0=>h1.2 (by rw[<-h1.1,q0];exact QG7 p v.1)
   have z1:=u1.zero pz
   have z2:=u2.zero qz
   obtain⟨c1,m1,e1,k1⟩:∃ c1 m1,p=(0,c1)::m1/\0<c1:=u1.first.resolve_left pz
   have low:prodL p (coefL q) 0=c1*coefL q 0:=by
    have up:=u1.up
    rw[e1]at up ⊢
    show c1*coefL q (0-0)+prodL m1 (coefL q) 0=_
    have hz:∀ m:List (Int×Int),(∀ w∈m,0<w.1)->prodL m (coefL q) 0=0:=fun m=>by
     induction m with
     |nil=>intro _;rfl
     |cons w m ih=>
      intro hw
      show w.2*coefL q (0-w.1)+prodL m (coefL q) 0=0
      rw[Qx4 u2.nn (by have:=hw w (.head _);omega),ih fun s hs=>hw s (.tail _ hs)]
      omega
    rw[hz m1 fun w hw=>by have:=(List.pairwise_cons.1 up).1 w hw;simp only at this;omega]
    show c1*coefL q 0+0=c1*coefL q 0
    omega
   have pos:0<prodL p (coefL q) 0:=by rw[low];exact Int.mul_pos k1 z2
   have hin:((0:Int),prodL p (coefL q) 0)∈v::m:=(hc.2 0 (prodL p (coefL q) 0)).2 ⟨rfl,by omega⟩
   have hv0:=nn v (.head _)
   have ev0:v=(0,prodL p (coefL q) 0):=by
    rcases List.mem_cons.1 hin with g|g
    · exact g.symm
    · have:=(List.pairwise_cons.1 hc.1).1 _ g
      simp only at this
      omega
   exact⟨_,m,by rw[ev0],pos⟩
 refine ZZ7 (a:=f+i1+i2) (b:=e+i3) u4 u3 fun t ht=>?_
 have hh:=h t
 rw[v1 t ht,v2 t ht,v3 t ht,Int.natAbs_natCast]at hh
 rw[vt,Int.natAbs_mul,Nat.pow_add,Nat.pow_add,Nat.pow_add]
 generalize (vlT (t:Int) p).natAbs=P at*
 generalize (vlT (t:Int) q).natAbs=Q at*
 generalize (vlT (t:Int) r).natAbs=R at*
 rw[Nat.mul_assoc (t ^ e),hh]
 grind
end Go.Proofs.YtookanmeflbdlaaGreatDoor

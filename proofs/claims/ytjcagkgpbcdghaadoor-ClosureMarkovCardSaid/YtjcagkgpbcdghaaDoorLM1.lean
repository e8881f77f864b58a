/- ClosureMarkov: Jones's polynomials of what Markov's moves close. -/
import Derived.Test.YtjcagkgpbcdghaaDoorLB0P
import Derived.Test.YtjcagkgpbcdghaaDoorBKaP
import Derived.Test.YtjcagkgpbcdghaaDoorF7P
namespace Go.Proofs.YtjcagkgpbcdghaaDoor
theorem JB7 {n:Nat} {l:List Int} (hw:QH1 n l) (h2:2<=n) (h5:n<=5):wrM (QV6 l n) (QV6 l n).length=(l.map sgL).sum:=by
 have h:=XH2 hw h2 h5
 rw[QU7]
 have key:∀ k,k<=l.length->wrM (QV6 l n) k=((l.take k).map sgL).sum:=fun k=>by
  induction k with
  |zero=>intro _;rfl
  |succ k ih=>
   intro hk
   rw[Xk1 l (by omega),List.map_append,List.sum_append,<-ih (by omega)]
   show wrM (QV6 l n) k+sgn ((QV6 l n).getD k Cr.none).plus=wrM (QV6 l n) k+(sgL (l.getD k 0)+0)
   rw[h.at_ k (by omega)]
   unfold sgL sgn
   by_cases q:0<l.getD k 0
   · rw[if_pos q,if_pos q];rfl
   · rw[if_neg q,if_neg q];rfl
 have:=key l.length (Nat.le_refl _)
 rw[List.take_length]at this
 exact this
theorem Kk6:∀ (v:List Int),(∀ x∈v,1<=x.natAbs)->((QV3 v).map sgL).sum = -(v.map sgL).sum
 |[],_=>rfl
 |x::v,h=>by
  have ih:=Kk6 v fun z hz=>h z (.tail _ hz)
  have e:((x::v).map sgL).sum=sgL x+(v.map sgL).sum:=List.sum_cons
  rw[Xj2,List.map_append,List.sum_append,ih,e]
  show -(v.map sgL).sum+(sgL (-x)+0)=_
  rw[Zv7 (h x (.head _))]
  omega
namespace Poly
theorem Zx6 {n:Nat} {l:List Int} (hw:QH1 n l) (h2:2<=n) (h5:n<=5) (h16:l.length<=16):jnF (QV6 l n) (QV5 l n)=fun y=>sgJ (l.map sgL).sum*brL n l (y+3*(l.map sgL).sum):=by
 funext y
 unfold jnF
 rw[JB7 hw h2 h5,JA9 hw h2 h5 h16]
theorem JX8 {n:Nat} {v w:List Int} (hv:QH1 n v) (hw:QH1 n w) (h2:2<=n) (h5:n<=5) (h16:(v++w++QV3 v).length<=16):jnF (QV6 (v++w++QV3 v) n) (QV5 (v++w++QV3 v) n)=jnF (QV6 w n) (QV5 w n):=by
 have hl:w.length<=16:=by rw[List.length_append,List.length_append]at h16;omega
 rw[Zx6 (QA9 (QA9 hv hw) (Xx6 hv)) h2 h5 h16,Zx6 hw h2 h5 hl,Zd9 h5 v w hv hw]
 have e:((v++w++QV3 v).map sgL).sum=(w.map sgL).sum:=by
  rw[List.map_append,List.map_append,List.sum_append,List.sum_append,Kk6 v fun x hx=>(wd_iff.1 hv x hx).1]
  omega
 rw[e]
theorem XQ6 {n:Nat} {l:List Int} (hw:QH1 n l) {x:Int} (hx:x.natAbs=n) (h1:1<=n):QH1 (n+1) (l++[x]):=wd_iff.2 fun z hz=>by
 rcases List.mem_append.1 hz with q|q
 · have:=wd_iff.1 hw z q;omega
 · rw[List.mem_singleton.1 q];omega
theorem JX7 {n:Nat} {l:List Int} {x:Int} (hw:QH1 n l) (hx:x.natAbs=n) (h2:2<=n) (h5:n+1<=5) (h16:l.length+1<=16):jnF (QV6 (l++[x]) (n+1)) (QV5 (l++[x]) (n+1))=jnF (QV6 l n) (QV5 l n):=by
 rw[Zx6 (XQ6 hw hx (by omega)) (by omega) h5 (by rw[List.length_append];exact h16),Zx6 hw h2 (by omega) (by omega)]
 funext y
 have e:((l++[x]).map sgL).sum=(l.map sgL).sum+sgL x:=by
  rw[List.map_append,List.sum_append]
  show _+(sgL x+0)=_
  omega
 rw[e,JV3 (by omega) h5 hw hx]
 generalize (l.map sgL).sum=z
 rw[show y+3*(z+sgL x)-3*sgL x=y+3*z by omega]
 have s:sgJ (z+sgL x) = - sgJ z:=by
  unfold sgJ
  rcases Xb7 x with q|q<;>rw[q]
  · by_cases e:z%2=0
    · rw[if_pos e,if_neg (by omega)]
    · rw[if_neg e,if_pos (by omega)];rfl
  · by_cases e:z%2=0
    · rw[if_pos e,if_neg (by omega)]
    · rw[if_neg e,if_pos (by omega)];rfl
 rw[s,Int.neg_mul_neg]
theorem JX6 {n:Nat} {l:List Int} (hw:QH1 n l) (h2:2<=n) (h5:n<=5) (h16:l.length<=16) {p:List (Int×Int)} (hp:Canon p (jnF (QV6 l n) (QV5 l n))):0<p.length:=by
 obtain⟨y,hy⟩:=JV2 n l
 rw[Zx6 hw h2 h5 h16]at hp
 have m : ((y - 3 * (l.map sgL).sum, sgJ (l.map sgL).sum * brL n l y) : Int × Int) ∈ p := (hp.2 _ _).2 ⟨by
  show _*brL n l (y-3*(l.map sgL).sum+3*(l.map sgL).sum)=_
  rw[Int.sub_add_cancel],fun q=>by
  rcases JD6 (l.map sgL).sum with s|s<;>rw[s]at q<;>omega⟩
 exact List.length_pos_of_mem m
theorem ZV8 {w:World} {B:Nat} {v:Value} {l:List (Int×Int)} (h:PolyC w B v l):∃ a c,v=.slice a l.length c/\l.length<=maxLen:=by
 obtain⟨h1,a,n,c,rfl,h2,h3⟩:=h
 rcases h1 with⟨e,rfl⟩|⟨ad,cap,e,rfl⟩|⟨b,off,cap,e,-,-⟩
 · injection e with e1 e2 e3
   subst e2
   exact⟨a,c,rfl,Nat.zero_le _⟩
 · injection e with e1 e2 e3
   subst e2
   exact⟨a,c,rfl,Nat.zero_le _⟩
 · injection e with e1 e2 e3
   subst e2
   exact⟨a,c,rfl,Nat.le_trans h2 h3⟩
end Poly
end Go.Proofs.YtjcagkgpbcdghaaDoor

/- Whole numbers below 2^53 in 64 bits of floating point: every sum, difference and product of them that stays below is exact. -/
import Derived.Laws.ComplexArith
namespace Go.Proofs.YtbobljddklldjaaGreatDoor
open Ieee
def Dl (d:Datum) (z:Int):Prop:=∃ (s:Bool) (m k:Nat),d=.number s m (-(k:Int))/\(if s=true then -(m:Int) else(m:Int))=z*2 ^ k
theorem fx_signed (s:Bool) (m u:Nat):signed s m u=(if s=true then -(m:Int) else(m:Int))*2 ^ u:=by
 unfold signed
 rw[Nat.shiftLeft_eq]
 cases s
 · simp
 · simp[Int.neg_mul]
theorem fx_pow (k l:Nat):(2:Int) ^ (k+l)=2 ^ k*2 ^ l:=by rw[Int.pow_add]
theorem fx_up {s:Bool} {m k K:Nat} {z:Int} (h:(if s=true then -(m:Int) else(m:Int))=z*2 ^ k) (hk:k<=K):signed s m (-(k:Int)-(-(K:Int))).toNat=z*2 ^ K:=by
 rw[fx_signed,h,show(-(k:Int)-(-(K:Int))).toNat=K-k by omega,Int.mul_assoc,<-fx_pow,show k+(K-k)=K by omega]
theorem fx_min (k l:Nat):min (-(k:Int)) (-(l:Int)) = -((max k l:Nat):Int):=by omega
theorem Dl.sum {d e:Datum} {x y:Int} (h:Dl d x) (g:Dl e y):∃ r,d.sum e=some r/\Dl r (x+y):=by
 obtain⟨s,m,k,rfl,h⟩:=h
 obtain⟨t,n,l,rfl,g⟩:=g
 refine⟨_,rfl,?_⟩
 rw[fx_min]
 rw[fx_up h (Nat.le_max_left k l),fx_up g (Nat.le_max_right k l),<-Int.add_mul]
 refine⟨_,_,_,rfl,?_⟩
 by_cases h0:(x+y)*2 ^ max k l=0
 · rw[h0]
   cases s<;>cases t<;>rfl
 · rw[if_neg h0]
   by_cases h1:(x+y)*2 ^ max k l<0
   · rw[if_pos (by simpa using h1)];omega
   · rw[if_neg (by simpa using h1)];omega
theorem Dl.product {d e:Datum} {x y:Int} (h:Dl d x) (g:Dl e y):∃ r,d.product e=some r/\Dl r (x*y):=by
 obtain⟨s,m,k,rfl,h⟩:=h
 obtain⟨t,n,l,rfl,g⟩:=g
 refine⟨_,rfl,_,_,k+l,by rw[show -(k:Int) + -(l:Int) = -((k+l:Nat):Int) by omega],?_⟩
 rw[fx_pow,show x*y*(2 ^ k*2 ^ l)=(x*2 ^ k)*(y*2 ^ l) by ac_rfl,<-h,<-g]
 cases s<;>cases t<;>simp[Int.mul_neg,Int.neg_mul]
theorem Dl.same {d e:Datum} {x:Int} (h:Dl d x) (g:Dl e x):d.order e=some .eq:=by
 obtain⟨s,m,k,rfl,h⟩:=h
 obtain⟨t,n,l,rfl,g⟩:=g
 show some (compare _ _)=_
 rw[fx_min,fx_up h (Nat.le_max_left k l),fx_up g (Nat.le_max_right k l)]
 simp
end Go.Proofs.YtbobljddklldjaaGreatDoor

/- Several texts of the proof, one behind the other. -/
import Derived.Test.YtookanmeflbdlaaGreatDoorW1P
/- Plain mathematics: in how many ways variables are coloured so that something holds. -/
namespace Go.Proofs.YtookanmeflbdlaaGreatDoor
def upd (f:Nat->Nat) (v c:Nat):Nat->Nat:=fun x=>if x=v then c else f x
theorem upd_same (f:Nat->Nat) (v c:Nat):upd f v c v=c:=by simp[upd]
theorem upd_ne (f:Nat->Nat) (v c x:Nat) (h:x≠v):upd f v c x=f x:=by simp[upd,h]
def Ext (n:Nat) (vs:List Nat) (f g:Nat->Nat):Prop:=(∀ x,x ∉ vs->g x=f x)/\∀ x,x∈vs->g x<n
theorem Ext.cons {n v c:Nat} {vs:List Nat} {f g:Nat->Nat} (hc:c<n) (hv:v ∉ vs) (h:Ext n vs (upd f v c) g):Ext n (v::vs) f g/\g v=c:=by
 have e:g v=c:=by rw[h.1 v hv,upd_same]
 refine⟨⟨fun x hx=>?_,fun x hx=>?_⟩,e⟩
 · have h1:x≠v:=fun q=>hx (by rw[q];exact List.Mem.head _)
   have h2:x ∉ vs:=fun q=>hx (List.Mem.tail _ q)
   rw[h.1 x h2,upd_ne _ _ _ _ h1]
 · by_cases q:x=v
   · rw[q,e];exact hc
   · exact h.2 x (by rcases List.mem_cons.1 hx with h1 | h1
                     · exact absurd h1 q
                     · exact h1)
end Go.Proofs.YtookanmeflbdlaaGreatDoor
/- Plain mathematics: a drawing is coloured in as many ways by arcs as by overpasses. -/
namespace Go.Proofs.YtookanmeflbdlaaGreatDoor
theorem Zb5 (W:List Nat) (a:Nat) (h1:1<=a):QQ7 W (a+1)=QQ7 W a+(if W.getD a 0=a then 1 else 0):=by
 show QQ7 W a+_=_
 by_cases e:W.getD a 0=a
 · rw[if_pos ⟨h1,e⟩,if_pos e]
 · rw[if_neg (fun h=>e h.2),if_neg e]
end Go.Proofs.YtookanmeflbdlaaGreatDoor
/- Plain mathematics: both searches count the same. -/
namespace Go.Proofs.YtookanmeflbdlaaGreatDoor
theorem Kq1 {C:List Cr} {loops:Int} (hm:QQ6 C loops=true) (a:Nat) (h1:1<=a) (h2:a<=2*C.length):ovM C a<ovC C:=by
 have hL:=QW5 (Qz7 hm)
 have hp:=hL.pos (fun e he=>⟨(QC4 hm e he).1.1,(QC4 hm e he).2.1⟩) (v:=a) (by omega) h1
 have h3:=Zb5 (QJ6 C) ((QJ6 C).getD a 0) hp
 rw[if_pos (hL.root (by omega))]at h3
 have h4:=QB9 (QJ6 C) ((QJ6 C).getD a 0+1) (2*C.length+1) (by have:=hL.le (v:=a) (by omega);omega)
 show QQ7 (QJ6 C) ((QJ6 C).getD a 0)<QQ7 (QJ6 C) (2*C.length+1)
 omega
end Go.Proofs.YtookanmeflbdlaaGreatDoor
/- Determinants of whole numbers, along the first row: rows may be traded and added to one another; modulo a prime a determinant is nought just where a column has no first place. -/
namespace Go.Proofs.YtookanmeflbdlaaGreatDoor
def QJ3 (a:Nat->Int):List Nat->(List Nat->Int)->Int
 |[],_=>0
 |c::cs,h=>a c*h cs-QJ3 a cs (fun rest=>h (c::rest))
def JU2:List (Nat->Int)->List Nat->Int
 |[],_=>1
 |r::rs,cs=>QJ3 r cs (JU2 rs)
theorem Qq2 (a:Nat->Int) (k:Int) (cs:List Nat) (h h':List Nat->Int):QJ3 a cs (fun rest=>h rest+k*h' rest)=QJ3 a cs h+k*QJ3 a cs h':=by
 induction cs generalizing h h' with
 |nil=>simp[QJ3]
 |cons c cs ih=>
  simp only[QJ3,ih (fun rest=>h (c::rest)) (fun rest=>h' (c::rest))]
  grind
theorem Qf6 (a:Nat->Int) (k:Int) (cs:List Nat) (h:List Nat->Int):QJ3 a cs (fun rest=>k*h rest)=k*QJ3 a cs h:=by
 induction cs generalizing h with
 |nil=>simp[QJ3]
 |cons c cs ih=>
  simp only[QJ3,ih (fun rest=>h (c::rest))]
  grind
theorem Qf7 (a b:Nat->Int) (k:Int) (cs:List Nat) (h:List Nat->Int):QJ3 (fun c=>a c+k*b c) cs h=QJ3 a cs h+k*QJ3 b cs h:=by
 induction cs generalizing h with
 |nil=>simp[QJ3]
 |cons c cs ih=>
  simp only[QJ3,ih (fun rest=>h (c::rest))]
  grind
theorem Qx8 (a:Nat->Int) (cs:List Nat) (h:List Nat->Int):QJ3 a cs (fun rest=>QJ3 a rest h)=0:=by
 induction cs generalizing h with
 |nil=>rfl
 |cons c cs ih=>
  have e:QJ3 a cs (fun rest=>QJ3 a (c::rest) h)=QJ3 a cs (fun rest=>a c*h rest+(-1)*QJ3 a rest (fun r2=>h (c::r2))):=by
   congr 1
   funext rest
   simp only[QJ3]
   omega
  show a c*QJ3 a cs h-QJ3 a cs (fun rest=>QJ3 a (c::rest) h)=0
  rw[e,Qq2,Qf6,ih]
  omega
theorem Xz2 (a b:Nat->Int) (cs:List Nat) (h:List Nat->Int):QJ3 a cs (fun rest=>QJ3 b rest h) = -QJ3 b cs (fun rest=>QJ3 a rest h):=by
 have t:=Qx8 (fun c=>a c+1*b c) cs h
 have e:(fun rest=>QJ3 (fun c=>a c+1*b c) rest h)=fun rest=>QJ3 a rest h+1*QJ3 b rest h:=funext fun rest=>Qf7 a b 1 rest h
 rw[e,Qq2,Qf7,Qf7,Qx8,Qx8]at t
 omega
def sgZ:Nat->Int
 |0=>1
 |n+1 => -sgZ n
theorem Kw9 (n:Nat):sgZ n=1∨sgZ n = -1:=by
 induction n with
 |zero=>exact Or.inl rfl
 |succ n ih=>simp only[sgZ];omega
end Go.Proofs.YtookanmeflbdlaaGreatDoor

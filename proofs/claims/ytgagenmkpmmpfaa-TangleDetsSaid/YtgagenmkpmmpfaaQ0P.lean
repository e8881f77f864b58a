/- Several texts of the proof, one behind the other. -/
import Derived.Test.YtgagenmkpmmpfaaO0P
/- Plain mathematics: rows modulo a prime, what they span, and how many columns have a first place in it. -/
namespace Go.Proofs.Ytgagenmkpmmpfaa
structure Sub (p m:Nat) (S:(Nat->Int)->Prop):Prop where
 zero:S (fun _=>0)
 add:∀ u v (k:Int),S u->S v->S (fun j=>u j+k*v j)
 mod:∀ u v,(∀ j,j<m->(p:Int) ∣ u j-v j)->S u->S v
def Sp (p m:Nat) (R:(Nat->Int)->Prop) (v:Nat->Int):Prop:=∀ S,Sub p m S->(∀ r,R r->S r)->S v
theorem Sp.mem {p m:Nat} {R:(Nat->Int)->Prop} {r:Nat->Int} (h:R r):Sp p m R r:=fun _ _ hR=>hR r h
theorem Sp.sub (p m:Nat) (R:(Nat->Int)->Prop):Sub p m (Sp p m R):=
 ⟨fun _ hS _=>hS.zero,fun u v k hu hv S hS hR=>hS.add u v k (hu S hS hR) (hv S hS hR),fun u v h hu S hS hR=>hS.mod u v h (hu S hS hR)⟩
theorem Sp.le {p m:Nat} {R R':(Nat->Int)->Prop} {v:Nat->Int} (h:∀ r,R r->Sp p m R' r) (hv:Sp p m R v):Sp p m R' v:=hv _ (Sp.sub p m R') h
def Vc (p m:Nat) (R0:(Nat->Int)->Prop) (c:Nat) (v:Nat->Int):Prop:=Sp p m R0 v/\∀ j,j<c->(p:Int) ∣ v j
def Inv (p m:Nat) (R0:(Nat->Int)->Prop) (c:Nat) (R:(Nat->Int)->Prop):Prop:=∀ v,Sp p m R v↔Vc p m R0 c v
theorem sp_col {p m c:Nat} {R:(Nat->Int)->Prop} (hc:c<m) (h:∀ r,R r->(p:Int) ∣ r c) {v:Nat->Int} (hv:Sp p m R v):(p:Int) ∣ v c:=
 hv (fun v => (p : Int) ∣ v c) ⟨Int.dvd_zero _, fun u v k hu hv => Int.dvd_add hu (Int.dvd_mul_of_dvd_right hv), fun u v h hu => by
  have h1:=Int.dvd_sub hu (h c hc)
  have e:u c-(u c-v c)=v c:=by omega
  rw[e]at h1
  exact h1⟩ h
theorem Inv.start {p m:Nat} {R0 R:(Nat->Int)->Prop} (h1:∀ r,R r->∃ q,R0 q/\∀ j,j<m->(p:Int) ∣ q j-r j) (h2:∀ r,R0 r->∃ q,R q/\∀ j,j<m->(p:Int) ∣ q j-r j):Inv p m R0 0 R:=fun v=>
 ⟨fun hv => ⟨Sp.le (fun r hr => by obtain ⟨q, hq, e⟩ := h1 r hr; exact (Sp.sub p m R0).mod q r e (Sp.mem hq)) hv, fun j hj => absurd hj (Nat.not_lt_zero _)⟩,
  fun hv=>Sp.le (fun r hr=>by obtain⟨q,hq,e⟩:=h2 r hr;exact(Sp.sub p m R).mod q r e (Sp.mem hq)) hv.1⟩
theorem Inv.none {p m c:Nat} {R0 R:(Nat->Int)->Prop} (h:Inv p m R0 c R) (hc:c<m) (hn:∀ r,R r->(p:Int) ∣ r c):Inv p m R0 (c+1) R:=fun v=>
 ⟨fun hv => ⟨((h v).1 hv).1, fun j hj => by
     by_cases e:j=c
     · rw[e];exact sp_col hc hn hv
     · exact((h v).1 hv).2 j (by omega)⟩,
  fun hv=>(h v).2 ⟨hv.1,fun j hj=>hv.2 j (by omega)⟩⟩
end Go.Proofs.Ytgagenmkpmmpfaa
/- Determinants of whole numbers, along the first row: rows may be traded and added to one another; modulo a prime a determinant is nought just where a column has no first place. -/
namespace Go.Proofs.Ytgagenmkpmmpfaa
def rowZ (a:Nat->Int):List Nat->(List Nat->Int)->Int
 |[],_=>0
 |c::cs,h=>a c*h cs-rowZ a cs (fun rest=>h (c::rest))
def detZ:List (Nat->Int)->List Nat->Int
 |[],_=>1
 |r::rs,cs=>rowZ r cs (detZ rs)
theorem rowZ_lin2 (a:Nat->Int) (k:Int) (cs:List Nat) (h h':List Nat->Int):rowZ a cs (fun rest=>h rest+k*h' rest)=rowZ a cs h+k*rowZ a cs h':=by
 induction cs generalizing h h' with
 |nil=>simp[rowZ]
 |cons c cs ih=>
  simp only[rowZ,ih (fun rest=>h (c::rest)) (fun rest=>h' (c::rest))]
  grind
theorem rowZ_mul (a:Nat->Int) (k:Int) (cs:List Nat) (h:List Nat->Int):rowZ a cs (fun rest=>k*h rest)=k*rowZ a cs h:=by
 induction cs generalizing h with
 |nil=>simp[rowZ]
 |cons c cs ih=>
  simp only[rowZ,ih (fun rest=>h (c::rest))]
  grind
theorem rowZ_lin (a b:Nat->Int) (k:Int) (cs:List Nat) (h:List Nat->Int):rowZ (fun c=>a c+k*b c) cs h=rowZ a cs h+k*rowZ b cs h:=by
 induction cs generalizing h with
 |nil=>simp[rowZ]
 |cons c cs ih=>
  simp only[rowZ,ih (fun rest=>h (c::rest))]
  grind
theorem rowZ_twice (a:Nat->Int) (cs:List Nat) (h:List Nat->Int):rowZ a cs (fun rest=>rowZ a rest h)=0:=by
 induction cs generalizing h with
 |nil=>rfl
 |cons c cs ih=>
  have e:rowZ a cs (fun rest=>rowZ a (c::rest) h)=rowZ a cs (fun rest=>a c*h rest+(-1)*rowZ a rest (fun r2=>h (c::r2))):=by
   congr 1
   funext rest
   simp only[rowZ]
   omega
  show a c*rowZ a cs h-rowZ a cs (fun rest=>rowZ a (c::rest) h)=0
  rw[e,rowZ_lin2,rowZ_mul,ih]
  omega
theorem rowZ_swap (a b:Nat->Int) (cs:List Nat) (h:List Nat->Int):rowZ a cs (fun rest=>rowZ b rest h) = -rowZ b cs (fun rest=>rowZ a rest h):=by
 have t:=rowZ_twice (fun c=>a c+1*b c) cs h
 have e:(fun rest=>rowZ (fun c=>a c+1*b c) rest h)=fun rest=>rowZ a rest h+1*rowZ b rest h:=funext fun rest=>rowZ_lin a b 1 rest h
 rw[e,rowZ_lin2,rowZ_lin,rowZ_lin,rowZ_twice,rowZ_twice]at t
 omega
def sgZ:Nat->Int
 |0=>1
 |n+1 => -sgZ n
theorem sgZ_two (n:Nat):sgZ n=1∨sgZ n = -1:=by
 induction n with
 |zero=>exact Or.inl rfl
 |succ n ih=>simp only[sgZ];omega
end Go.Proofs.Ytgagenmkpmmpfaa
/- Plain mathematics: in how many ways variables are coloured so that something holds. -/
namespace Go.Proofs.Ytgagenmkpmmpfaa
def upd (f:Nat->Nat) (v c:Nat):Nat->Nat:=fun x=>if x=v then c else f x
theorem upd_same (f:Nat->Nat) (v c:Nat):upd f v c v=c:=by simp[upd]
theorem upd_ne (f:Nat->Nat) (v c x:Nat) (h:x≠v):upd f v c x=f x:=by simp[upd,h]
def Ext (n:Nat) (vs:List Nat) (f g:Nat->Nat):Prop:=(∀ x,x ∉ vs->g x=f x)/\∀ x,x∈vs->g x<n
theorem Ext.cons {n v c:Nat} {vs:List Nat} {f g:Nat->Nat} (hc:c<n) (hv:v ∉ vs) (h:Ext n vs (upd f v c) g):Ext n (v::vs) f g/\g v=c:=by
 have e:g v=c:=by rw[h.1 v hv,upd_same]
 refine⟨⟨fun x hx=>?_,fun x hx=>?_⟩,e⟩
 · have h1:x≠v:=fun q=>hx (by rw[q];exact List.Mem.head _)
   have h2:x ∉ vs:=fun q=>hx (List.Mem.tail _ q)
   rw[h.1 x h2,upd_ne _ _ _ _ h1]
 · by_cases q:x=v
   · rw[q,e];exact hc
   · exact h.2 x (by rcases List.mem_cons.1 hx with h1 | h1
                     · exact absurd h1 q
                     · exact h1)
end Go.Proofs.Ytgagenmkpmmpfaa
/- Tables of numbers that are read. -/
namespace Go.Proofs.Ytgagenmkpmmpfaa
open Go.RowKit
def IntsRd (w:World) (B:Nat) (v:Value) (L:List (List Int)):Prop:=∃ ys:List Value,ys.length=L.length/\RdAt w B 1 v L.length ys/\∀ j,j<L.length->RdAt w B 1 (ys.getD j (.bool false)) (L.getD j []).length (intsV (L.getD j []))
theorem IntsRd.on {w w':World} {B:Nat} {v:Value} {L:List (List Int)} (h:IntsRd w B v L) (hb:Below B w w'):IntsRd w' B v L:=by
 obtain⟨ys,hy,h1,h2⟩:=h
 exact⟨ys,hy,h1.on hb,fun j hj=>(h2 j hj).on hb⟩
theorem IntsRd.up {w w':World} {v:Value} {L:List (List Int)} (h:IntsRd w w.heap.size v L) (hb:Below w.heap.size w w'):IntsRd w' w'.heap.size v L:=by
 obtain⟨ys,hy,h1,h2⟩:=h
 exact⟨ys,hy,(h1.on hb).mono hb.size,fun j hj=>((h2 j hj).on hb).mono hb.size⟩
theorem IntsRd.len {w:World} {B:Nat} {v:Value} {L:List (List Int)} (h:IntsRd w B v L):∃ a cap,v=.slice a L.length cap:=by
 obtain⟨ys,hy,⟨a,cap,e,-⟩,h2⟩:=h
 exact⟨a,cap,e⟩
theorem IntsRd.row {w : World} {B : Nat} {a : Option Addr} {cap : Nat} {L : List (List Int)} (h : IntsRd w B (.slice a L.length cap) L) (j : Nat) (hj : j < L.length) :
    ∃ b off ar cr,a=some ⟨b,off,none⟩/\b<B/\w.cell? ⟨b,off+j,none⟩=some (.slice ar (L.getD j []).length cr)/\RdAt w B 1 (.slice ar (L.getD j []).length cr) (L.getD j []).length (intsV (L.getD j [])):=by
 obtain⟨ys,hy,⟨a',cap',e,f⟩,h2⟩:=h
 injection e with e1 e2 e3
 obtain⟨b,off,eb,hlt,hc⟩:=f (by omega)
 have hr:=h2 j hj
 obtain⟨ar,cr,er,-⟩:=hr
 have hr:=h2 j hj
 rw[er]at hr
 refine⟨b,off,ar,cr,e1.trans eb,hlt,?_,hr⟩
 rw[hc j (by omega),<-er]
 simp[List.getD,hy,hj]
end Go.Proofs.Ytgagenmkpmmpfaa

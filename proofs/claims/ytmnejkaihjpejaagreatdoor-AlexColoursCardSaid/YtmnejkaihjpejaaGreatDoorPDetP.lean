/- Several texts of the proof, one behind the other. -/
import Derived.Test.YtmnejkaihjpejaaGreatDoorPB2P
import Derived.Test.YtmnejkaihjpejaaGreatDoorPMathP
/- Determinants of tables of polynomials, as functions from exponents to coefficients: along the first row and along the last row they are the same. Plain mathematics: no program is named here. -/
namespace Go.Proofs.YtmnejkaihjpejaaGreatDoor.Poly
def sgn:Nat->Int
 |0=>1
 |n+1 => -sgn n
theorem prodL_add (a:List (Int×Int)) (f g:Int->Int) (y:Int):prodL a (fun x=>f x+g x) y=prodL a f y+prodL a g y:=by
 induction a with
 |nil=>rfl
 |cons t a ih=>simp only[prodL,ih,Int.mul_add];omega
theorem prodL_mul (a:List (Int×Int)) (k:Int) (g:Int->Int) (y:Int):prodL a (fun x=>k*g x) y=k*prodL a g y:=by
 induction a with
 |nil=>simp[prodL]
 |cons t a ih=>simp only[prodL,ih,Int.mul_add];rw[Int.mul_left_comm]
theorem prodL_sub (a:List (Int×Int)) (f g:Int->Int) (y:Int):prodL a (fun x=>f x-g x) y=prodL a f y-prodL a g y:=by
 induction a with
 |nil=>rfl
 |cons t a ih=>simp only[prodL,ih,Int.mul_sub];omega
theorem prodL_zero (a:List (Int×Int)) (y:Int):prodL a (fun _=>0) y=0:=by
 induction a with
 |nil=>rfl
 |cons t a ih=>simp only[prodL,ih,Int.mul_zero];rfl
theorem prodL_shift (b:List (Int×Int)) (g:Int->Int) (e c y:Int):prodL b (fun z=>c*g (z-e)) y=c*prodL b g (y-e):=by
 induction b with
 |nil=>simp[prodL]
 |cons s b ih=>
  simp only[prodL,ih,Int.mul_add]
  have h:y-s.1-e=y-e-s.1:=by omega
  rw[h,Int.mul_left_comm]
theorem prodL_swap (a b:List (Int×Int)) (g:Int->Int) (y:Int):prodL a (prodL b g) y=prodL b (prodL a g) y:=by
 induction a with
 |nil=>exact(prodL_zero b y).symm
 |cons t a ih=>
  have h:prodL b (prodL (t::a) g) y=prodL b (fun z=>t.2*g (z-t.1)) y+prodL b (prodL a g) y:=prodL_add b _ _ y
  rw[h,prodL_shift]
  simp only[prodL,ih]
def rowF (a:Nat->List (Int×Int)):List Nat->(List Nat->Int->Int)->Int->Int
 |[],_=>fun _=>0
 |c::cs,h=>fun y=>prodL (a c) (h cs) y-rowF a cs (fun rest=>h (c::rest)) y
def rowE (b:Nat->List (Int×Int)):List Nat->(List Nat->Int->Int)->Int->Int
 |[],_=>fun _=>0
 |c::cs,h=>fun y=>sgn cs.length*prodL (b c) (h cs) y+rowE b cs (fun rest=>h (c::rest)) y
theorem rowF_congr (a:Nat->List (Int×Int)) (cs:List Nat) (h h':List Nat->Int->Int) (e:∀ rest,rest.length+1=cs.length->h rest=h' rest):rowF a cs h=rowF a cs h':=by
 induction cs generalizing h h' with
 |nil=>rfl
 |cons c cs ih=>
  have h1:=ih (fun rest=>h (c::rest)) (fun rest=>h' (c::rest)) fun rest hr=>e (c::rest) (by simp;omega)
  funext y
  simp only[rowF,h1,e cs (by simp)]
theorem rowE_congr (a:Nat->List (Int×Int)) (cs:List Nat) (h h':List Nat->Int->Int) (e:∀ rest,rest.length+1=cs.length->h rest=h' rest):rowE a cs h=rowE a cs h':=by
 induction cs generalizing h h' with
 |nil=>rfl
 |cons c cs ih=>
  have h1:=ih (fun rest=>h (c::rest)) (fun rest=>h' (c::rest)) fun rest hr=>e (c::rest) (by simp;omega)
  funext y
  simp only[rowE,h1,e cs (by simp)]
theorem rowF_add (a:Nat->List (Int×Int)) (cs:List Nat) (h h':List Nat->Int->Int) (y:Int):rowF a cs (fun rest z=>h rest z+h' rest z) y=rowF a cs h y+rowF a cs h' y:=by
 induction cs generalizing h h' with
 |nil=>rfl
 |cons c cs ih=>
  simp only[rowF,prodL_add,ih (fun rest=>h (c::rest)) (fun rest=>h' (c::rest))]
  omega
theorem rowE_sub (a:Nat->List (Int×Int)) (cs:List Nat) (h h':List Nat->Int->Int) (y:Int):rowE a cs (fun rest z=>h rest z-h' rest z) y=rowE a cs h y-rowE a cs h' y:=by
 induction cs generalizing h h' with
 |nil=>rfl
 |cons c cs ih=>
  simp only[rowE,prodL_sub,ih (fun rest=>h (c::rest)) (fun rest=>h' (c::rest)),Int.mul_sub]
  omega
theorem rowF_act (a:Nat->List (Int×Int)) (p:List (Int×Int)) (cs:List Nat) (h:List Nat->Int->Int) (y:Int):rowF a cs (fun rest=>prodL p (h rest)) y=prodL p (rowF a cs h) y:=by
 induction cs generalizing h y with
 |nil=>exact(prodL_zero p y).symm
 |cons c cs ih=>
  have e:prodL p (rowF a (c::cs) h) y=prodL p (prodL (a c) (h cs)) y-prodL p (rowF a cs fun rest=>h (c::rest)) y:=prodL_sub p _ _ y
  rw[e,<-ih,prodL_swap]
  rfl
theorem rowE_act (b:Nat->List (Int×Int)) (p:List (Int×Int)) (cs:List Nat) (h:List Nat->Int->Int) (y:Int):rowE b cs (fun rest=>prodL p (h rest)) y=prodL p (rowE b cs h) y:=by
 induction cs generalizing h y with
 |nil=>exact(prodL_zero p y).symm
 |cons c cs ih=>
  have e:prodL p (rowE b (c::cs) h) y=prodL p (fun z=>sgn cs.length*prodL (b c) (h cs) z) y+prodL p (rowE b cs fun rest=>h (c::rest)) y:=prodL_add p _ _ y
  rw[e,<-ih,prodL_mul,prodL_swap]
  rfl
theorem rowF_neg (a:Nat->List (Int×Int)) (cs:List Nat) (h:List Nat->Int->Int) (y:Int):rowF a cs (fun rest z => -h rest z) y = -rowF a cs h y:=by
 induction cs generalizing h y with
 |nil=>rfl
 |cons c cs ih=>
  have e:prodL (a c) (fun z => -h cs z) y = -prodL (a c) (h cs) y:=by
   have:=prodL_mul (a c) (-1) (h cs) y
   simp only[Int.neg_mul,Int.one_mul]at this
   exact this
  simp only[rowF,ih (fun rest=>h (c::rest)),e]
  omega
theorem rowF_sgn (a:Nat->List (Int×Int)) (cs:List Nat) (g:List Nat->Int->Int) (y:Int):rowF a cs (fun rest z=>sgn rest.length*g rest z) y = -(sgn cs.length*rowF a cs g y):=by
 induction cs generalizing g y with
 |nil=>simp[rowF]
 |cons c cs ih=>
  have e1:rowF a cs (fun rest z=>sgn (c::rest).length*g (c::rest) z) y=rowF a cs (fun rest z => -(sgn rest.length*g (c::rest) z)) y:=by
   congr 1
   congr 1
   funext rest z
   simp only[List.length_cons,sgn,Int.neg_mul]
  have e2:=rowF_neg a cs (fun rest z=>sgn rest.length*g (c::rest) z) y
  have e3:=ih (fun rest=>g (c::rest)) y
  have e0:rowF a (c::cs) (fun rest z=>sgn rest.length*g rest z) y=prodL (a c) (fun z=>sgn cs.length*g cs z) y-rowF a cs (fun rest z=>sgn (c::rest).length*g (c::rest) z) y:=rfl
  rw[e0,e1,e2,e3,prodL_mul]
  simp only[rowF,List.length_cons,sgn,Int.neg_mul,Int.mul_sub]
  omega
theorem row_swap (a b:Nat->List (Int×Int)) (cs:List Nat) (h:List Nat->Int->Int) (y:Int):rowF a cs (fun rest=>rowE b rest h) y=rowE b cs (fun rest=>rowF a rest h) y:=by
 induction cs generalizing h y with
 |nil=>rfl
 |cons c cs ih=>
  have l1:rowF a (c::cs) (fun rest=>rowE b rest h) y=prodL (a c) (rowE b cs h) y-rowF a cs (fun rest=>rowE b (c::rest) h) y:=rfl
  have l2:rowF a cs (fun rest=>rowE b (c::rest) h) y=rowF a cs (fun rest z=>sgn rest.length*prodL (b c) (h rest) z) y+rowF a cs (fun rest=>rowE b rest (fun r=>h (c::r))) y:=rowF_add a cs _ _ y
  have l3:=rowF_sgn a cs (fun rest=>prodL (b c) (h rest)) y
  have l4:=rowF_act a (b c) cs h y
  have r1:rowE b (c::cs) (fun rest=>rowF a rest h) y=sgn cs.length*prodL (b c) (rowF a cs h) y+rowE b cs (fun rest=>rowF a (c::rest) h) y:=rfl
  have r2:rowE b cs (fun rest=>rowF a (c::rest) h) y=rowE b cs (fun rest=>prodL (a c) (h rest)) y-rowE b cs (fun rest=>rowF a rest (fun r=>h (c::r))) y:=rowE_sub b cs _ _ y
  have r3:=rowE_act b (a c) cs h y
  have i:=ih (fun r=>h (c::r)) y
  rw[l1,l2,l3,l4,r1,r2,r3,i]
  omega
def oneF (y:Int):Int:=if y=0 then 1 else 0
def detF:List (Nat->List (Int×Int))->List Nat->Int->Int
 |[],_=>oneF
 |r::rs,cs=>rowF r cs (detF rs)
def detE:List (Nat->List (Int×Int))->List Nat->Int->Int
 |[],_=>oneF
 |r::rs,cs=>rowE r cs (detE rs)
theorem row_one (r:Nat->List (Int×Int)) (cs:List Nat) (h:cs.length=1) (g:List Nat->Int->Int):rowF r cs g=rowE r cs g:=by
 match cs,h with
 |[c],_=>
  funext y
  simp[rowF,rowE,sgn]
theorem det_same:∀ (n:Nat) (rows:List (Nat->List (Int×Int))) (cs:List Nat),rows.length=n->cs.length=n->detF rows cs=detE rows.reverse cs:=by
 intro n
 induction n using Nat.strongRecOn with
 |ind n ih=>
  intro rows cs hr hc
  match rows,hr with
  |[],_=>rfl
  |[r],hr=>
   simp only[List.length_cons,List.length_nil]at hr
   exact row_one r cs (by omega) _
  |r::r'::rs,hr=>
   simp only[List.length_cons]at hr
   obtain⟨mid,s,hms⟩:∃ mid s,r'::rs=mid++[s]:=⟨(r'::rs).dropLast,(r'::rs).getLast (by simp),(List.dropLast_concat_getLast (by simp)).symm⟩
   have hml:mid.length+1=rs.length+1:=by
    have:=congrArg List.length hms
    simp at this
    omega
   have h1:detF (r::r'::rs) cs=rowF r cs (fun rest=>rowE s rest (detE mid.reverse)):=by
    refine rowF_congr r cs _ _ fun rest hrest=>?_
    rw[ih (rs.length+1) (by omega) (r'::rs) rest (by simp) (by omega),hms]
    simp[detE]
   have h2:detE (r::r'::rs).reverse cs=rowE s cs (fun rest=>rowF r rest (detE mid.reverse)):=by
    have e:(r::r'::rs).reverse=s::(r::mid).reverse:=by rw[hms];simp
    rw[e]
    refine rowE_congr s cs _ _ fun rest hrest=>?_
    rw[<-ih (mid.length+1) (by omega) (r::mid) rest (by simp) (by omega)]
    refine rowF_congr r rest _ _ fun rest' hrest'=>?_
    exact ih mid.length (by omega) mid rest' rfl (by omega)
   rw[h1,h2]
   funext y
   exact row_swap r s cs _ y
end Go.Proofs.YtmnejkaihjpejaaGreatDoor.Poly
/- The walks of poly.size, knotworkref.abs and poly.small: the sum of the coefficients' sizes. -/
namespace Go.Proofs.YtmnejkaihjpejaaGreatDoor.Poly
open Go.RowKit Go.Maps
def absI (c:Int):Int:=if c<0 then -c else c
def sizeTo (l:List (Int×Int)):Nat->Int
 |0=>0
 |k+1=>sizeTo l k+absI (l.getD k (0,0)).2
def sizeL (l:List (Int×Int)):Int:=sizeTo l l.length
theorem sizeTo_le {l:List (Int×Int)} (hm:mayB l=true) (k:Nat) (hk:k<=l.length):0<=sizeTo l k/\sizeTo l k<=1000000*(k:Int):=by
 induction k with
 |zero=>simp[sizeTo]
 |succ k ih=>
  have h:=(okB_iff l k).1 (((may_iff l).1 hm).2 k (by omega))
  have:=ih (by omega)
  rw[sizeTo]
  unfold absI
  split<;>omega
end Go.Proofs.YtmnejkaihjpejaaGreatDoor.Poly
/- The walk of knotworkref.Put: a term put into a list in form. -/
namespace Go.Proofs.YtmnejkaihjpejaaGreatDoor.Poly
open Go.RowKit Go.Maps
def PolyC (w:World) (B:Nat) (v:Value) (l:List (Int×Int)):Prop:=Poly w B v l/\∃ a n c,v=.slice a n c/\n<=c/\c<=maxLen
theorem PolyC.ofRow {w:World} {base:Nat} {v:Value} {l:List (Int×Int)} (h:w.ownsRow base 63 2 v l.length (flat l)):PolyC w w.heap.size v l:=by
 refine⟨Poly.ofRow h,?_⟩
 rcases h.2 with⟨rfl,h0⟩|⟨g,cap,cur,rfl,_,_,h1,h2,_⟩
 · exact⟨none,0,0,rfl,Nat.le_refl _,Nat.zero_le _⟩
 · exact⟨_,_,_,rfl,h1,h2⟩
theorem PolyC.up {w w':World} {v:Value} {l:List (Int×Int)} (h:PolyC w w.heap.size v l) (hb:Below w.heap.size w w'):PolyC w' w'.heap.size v l:=⟨h.1.up hb,h.2⟩
end Go.Proofs.YtmnejkaihjpejaaGreatDoor.Poly

/- Several texts of the proof, one behind the other. -/
import Derived.Test.YtiliihlkpknhdaaDoorPA10P
import Derived.Test.YtiliihlkpknhdaaDoorBK0P
/- Determinants of tables of polynomials, as functions from exponents to coefficients: along the first row and along the last row they are the same. Plain mathematics: no program is named here. -/
namespace Go.Proofs.YtiliihlkpknhdaaDoor.Poly
def sgn:Nat->Int
 |0=>1
 |n+1 => -sgn n
theorem prodL_add (a:List (Int×Int)) (f g:Int->Int) (y:Int):prodL a (fun x=>f x+g x) y=prodL a f y+prodL a g y:=by
 induction a with
 |nil=>rfl
 |cons t a ih=>simp only[prodL,ih,Int.mul_add];omega
theorem prodL_mul (a:List (Int×Int)) (k:Int) (g:Int->Int) (y:Int):prodL a (fun x=>k*g x) y=k*prodL a g y:=by
 induction a with
 |nil=>simp[prodL]
 |cons t a ih=>simp only[prodL,ih,Int.mul_add];rw[Int.mul_left_comm]
theorem prodL_sub (a:List (Int×Int)) (f g:Int->Int) (y:Int):prodL a (fun x=>f x-g x) y=prodL a f y-prodL a g y:=by
 induction a with
 |nil=>rfl
 |cons t a ih=>simp only[prodL,ih,Int.mul_sub];omega
theorem prodL_zero (a:List (Int×Int)) (y:Int):prodL a (fun _=>0) y=0:=by
 induction a with
 |nil=>rfl
 |cons t a ih=>simp only[prodL,ih,Int.mul_zero];rfl
theorem prodL_shift (b:List (Int×Int)) (g:Int->Int) (e c y:Int):prodL b (fun z=>c*g (z-e)) y=c*prodL b g (y-e):=by
 induction b with
 |nil=>simp[prodL]
 |cons s b ih=>
  simp only[prodL,ih,Int.mul_add]
  have h:y-s.1-e=y-e-s.1:=by omega
  rw[h,Int.mul_left_comm]
theorem prodL_swap (a b:List (Int×Int)) (g:Int->Int) (y:Int):prodL a (prodL b g) y=prodL b (prodL a g) y:=by
 induction a with
 |nil=>exact(prodL_zero b y).symm
 |cons t a ih=>
  have h:prodL b (prodL (t::a) g) y=prodL b (fun z=>t.2*g (z-t.1)) y+prodL b (prodL a g) y:=prodL_add b _ _ y
  rw[h,prodL_shift]
  simp only[prodL,ih]
def rowF (a:Nat->List (Int×Int)):List Nat->(List Nat->Int->Int)->Int->Int
 |[],_=>fun _=>0
 |c::cs,h=>fun y=>prodL (a c) (h cs) y-rowF a cs (fun rest=>h (c::rest)) y
def rowE (b:Nat->List (Int×Int)):List Nat->(List Nat->Int->Int)->Int->Int
 |[],_=>fun _=>0
 |c::cs,h=>fun y=>sgn cs.length*prodL (b c) (h cs) y+rowE b cs (fun rest=>h (c::rest)) y
theorem rowF_congr (a:Nat->List (Int×Int)) (cs:List Nat) (h h':List Nat->Int->Int) (e:∀ rest,rest.length+1=cs.length->h rest=h' rest):rowF a cs h=rowF a cs h':=by
 induction cs generalizing h h' with
 |nil=>rfl
 |cons c cs ih=>
  have h1:=ih (fun rest=>h (c::rest)) (fun rest=>h' (c::rest)) fun rest hr=>e (c::rest) (by simp;omega)
  funext y
  simp only[rowF,h1,e cs (by simp)]
theorem rowE_congr (a:Nat->List (Int×Int)) (cs:List Nat) (h h':List Nat->Int->Int) (e:∀ rest,rest.length+1=cs.length->h rest=h' rest):rowE a cs h=rowE a cs h':=by
 induction cs generalizing h h' with
 |nil=>rfl
 |cons c cs ih=>
  have h1:=ih (fun rest=>h (c::rest)) (fun rest=>h' (c::rest)) fun rest hr=>e (c::rest) (by simp;omega)
  funext y
  simp only[rowE,h1,e cs (by simp)]
theorem rowF_add (a:Nat->List (Int×Int)) (cs:List Nat) (h h':List Nat->Int->Int) (y:Int):rowF a cs (fun rest z=>h rest z+h' rest z) y=rowF a cs h y+rowF a cs h' y:=by
 induction cs generalizing h h' with
 |nil=>rfl
 |cons c cs ih=>
  simp only[rowF,prodL_add,ih (fun rest=>h (c::rest)) (fun rest=>h' (c::rest))]
  omega
theorem rowE_sub (a:Nat->List (Int×Int)) (cs:List Nat) (h h':List Nat->Int->Int) (y:Int):rowE a cs (fun rest z=>h rest z-h' rest z) y=rowE a cs h y-rowE a cs h' y:=by
 induction cs generalizing h h' with
 |nil=>rfl
 |cons c cs ih=>
  simp only[rowE,prodL_sub,ih (fun rest=>h (c::rest)) (fun rest=>h' (c::rest)),Int.mul_sub]
  omega
theorem rowF_act (a:Nat->List (Int×Int)) (p:List (Int×Int)) (cs:List Nat) (h:List Nat->Int->Int) (y:Int):rowF a cs (fun rest=>prodL p (h rest)) y=prodL p (rowF a cs h) y:=by
 induction cs generalizing h y with
 |nil=>exact(prodL_zero p y).symm
 |cons c cs ih=>
  have e:prodL p (rowF a (c::cs) h) y=prodL p (prodL (a c) (h cs)) y-prodL p (rowF a cs fun rest=>h (c::rest)) y:=prodL_sub p _ _ y
  rw[e,<-ih,prodL_swap]
  rfl
theorem rowE_act (b:Nat->List (Int×Int)) (p:List (Int×Int)) (cs:List Nat) (h:List Nat->Int->Int) (y:Int):rowE b cs (fun rest=>prodL p (h rest)) y=prodL p (rowE b cs h) y:=by
 induction cs generalizing h y with
 |nil=>exact(prodL_zero p y).symm
 |cons c cs ih=>
  have e:prodL p (rowE b (c::cs) h) y=prodL p (fun z=>sgn cs.length*prodL (b c) (h cs) z) y+prodL p (rowE b cs fun rest=>h (c::rest)) y:=prodL_add p _ _ y
  rw[e,<-ih,prodL_mul,prodL_swap]
  rfl
theorem rowF_neg (a:Nat->List (Int×Int)) (cs:List Nat) (h:List Nat->Int->Int) (y:Int):rowF a cs (fun rest z => -h rest z) y = -rowF a cs h y:=by
 induction cs generalizing h y with
 |nil=>rfl
 |cons c cs ih=>
  have e:prodL (a c) (fun z => -h cs z) y = -prodL (a c) (h cs) y:=by
   have:=prodL_mul (a c) (-1) (h cs) y
   simp only[Int.neg_mul,Int.one_mul]at this
   exact this
  simp only[rowF,ih (fun rest=>h (c::rest)),e]
  omega
theorem rowF_sgn (a:Nat->List (Int×Int)) (cs:List Nat) (g:List Nat->Int->Int) (y:Int):rowF a cs (fun rest z=>sgn rest.length*g rest z) y = -(sgn cs.length*rowF a cs g y):=by
 induction cs generalizing g y with
 |nil=>simp[rowF]
 |cons c cs ih=>
  have e1:rowF a cs (fun rest z=>sgn (c::rest).length*g (c::rest) z) y=rowF a cs (fun rest z => -(sgn rest.length*g (c::rest) z)) y:=by
   congr 1
   congr 1
   funext rest z
   simp only[List.length_cons,sgn,Int.neg_mul]
  have e2:=rowF_neg a cs (fun rest z=>sgn rest.length*g (c::rest) z) y
  have e3:=ih (fun rest=>g (c::rest)) y
  have e0:rowF a (c::cs) (fun rest z=>sgn rest.length*g rest z) y=prodL (a c) (fun z=>sgn cs.length*g cs z) y-rowF a cs (fun rest z=>sgn (c::rest).length*g (c::rest) z) y:=rfl
  rw[e0,e1,e2,e3,prodL_mul]
  simp only[rowF,List.length_cons,sgn,Int.neg_mul,Int.mul_sub]
  omega
theorem row_swap (a b:Nat->List (Int×Int)) (cs:List Nat) (h:List Nat->Int->Int) (y:Int):rowF a cs (fun rest=>rowE b rest h) y=rowE b cs (fun rest=>rowF a rest h) y:=by
 induction cs generalizing h y with
 |nil=>rfl
 |cons c cs ih=>
  have l1:rowF a (c::cs) (fun rest=>rowE b rest h) y=prodL (a c) (rowE b cs h) y-rowF a cs (fun rest=>rowE b (c::rest) h) y:=rfl
  have l2:rowF a cs (fun rest=>rowE b (c::rest) h) y=rowF a cs (fun rest z=>sgn rest.length*prodL (b c) (h rest) z) y+rowF a cs (fun rest=>rowE b rest (fun r=>h (c::r))) y:=rowF_add a cs _ _ y
  have l3:=rowF_sgn a cs (fun rest=>prodL (b c) (h rest)) y
  have l4:=rowF_act a (b c) cs h y
  have r1:rowE b (c::cs) (fun rest=>rowF a rest h) y=sgn cs.length*prodL (b c) (rowF a cs h) y+rowE b cs (fun rest=>rowF a (c::rest) h) y:=rfl
  have r2:rowE b cs (fun rest=>rowF a (c::rest) h) y=rowE b cs (fun rest=>prodL (a c) (h rest)) y-rowE b cs (fun rest=>rowF a rest (fun r=>h (c::r))) y:=rowE_sub b cs _ _ y
  have r3:=rowE_act b (a c) cs h y
  have i:=ih (fun r=>h (c::r)) y
  rw[l1,l2,l3,l4,r1,r2,r3,i]
  omega
def oneF (y:Int):Int:=if y=0 then 1 else 0
def detF:List (Nat->List (Int×Int))->List Nat->Int->Int
 |[],_=>oneF
 |r::rs,cs=>rowF r cs (detF rs)
def detE:List (Nat->List (Int×Int))->List Nat->Int->Int
 |[],_=>oneF
 |r::rs,cs=>rowE r cs (detE rs)
theorem row_one (r:Nat->List (Int×Int)) (cs:List Nat) (h:cs.length=1) (g:List Nat->Int->Int):rowF r cs g=rowE r cs g:=by
 match cs,h with
 |[c],_=>
  funext y
  simp[rowF,rowE,sgn]
theorem det_same:∀ (n:Nat) (rows:List (Nat->List (Int×Int))) (cs:List Nat),rows.length=n->cs.length=n->detF rows cs=detE rows.reverse cs:=by
 intro n
 induction n using Nat.strongRecOn with
 |ind n ih=>
  intro rows cs hr hc
  match rows,hr with
  |[],_=>rfl
  |[r],hr=>
   simp only[List.length_cons,List.length_nil]at hr
   exact row_one r cs (by omega) _
  |r::r'::rs,hr=>
   simp only[List.length_cons]at hr
   obtain⟨mid,s,hms⟩:∃ mid s,r'::rs=mid++[s]:=⟨(r'::rs).dropLast,(r'::rs).getLast (by simp),(List.dropLast_concat_getLast (by simp)).symm⟩
   have hml:mid.length+1=rs.length+1:=by
    have:=congrArg List.length hms
    simp at this
    omega
   have h1:detF (r::r'::rs) cs=rowF r cs (fun rest=>rowE s rest (detE mid.reverse)):=by
    refine rowF_congr r cs _ _ fun rest hrest=>?_
    rw[ih (rs.length+1) (by omega) (r'::rs) rest (by simp) (by omega),hms]
    simp[detE]
   have h2:detE (r::r'::rs).reverse cs=rowE s cs (fun rest=>rowF r rest (detE mid.reverse)):=by
    have e:(r::r'::rs).reverse=s::(r::mid).reverse:=by rw[hms];simp
    rw[e]
    refine rowE_congr s cs _ _ fun rest hrest=>?_
    rw[<-ih (mid.length+1) (by omega) (r::mid) rest (by simp) (by omega)]
    refine rowF_congr r rest _ _ fun rest' hrest'=>?_
    exact ih mid.length (by omega) mid rest' rfl (by omega)
   rw[h1,h2]
   funext y
   exact row_swap r s cs _ y
end Go.Proofs.YtiliihlkpknhdaaDoor.Poly
/- The walks of poly.combined, poly.Add and poly.Mul. -/
namespace Go.Proofs.YtiliihlkpknhdaaDoor.Poly
open Go.RowKit Go.Maps
set_option maxHeartbeats 1000000
set_option maxRecDepth 100000
theorem coef_bd {D:DataW Unit} {l:List (Int×Int)} (hm:mayB l=true) (h:∀ x,coefOf D x=coefL l x):∀ x,-1000000<=coefOf D x/\coefOf D x<=1000000:=by
 intro x
 rw[h]
 by_cases h0:coefL l x=0
 · rw[h0];omega
 · have:=(coefL_mem ((may_rising hm).imp fun h=>by omega) (may_nonzero hm) x (coefL l x)).2 ⟨rfl,h0⟩
   exact(may_coef hm _ this).2.2
theorem perm_of_mem {a b:List (Int×Int)} (ha:a.Pairwise (fun s t=>s.1≠t.1)) (hb:b.Pairwise (fun s t=>s.1≠t.1)) (h:∀ t,t∈a↔t∈b):a.Perm b:=by
 have na:a.Nodup:=ha.imp fun h e=>h (by rw[e])
 have nb:b.Nodup:=hb.imp fun h e=>h (by rw[e])
 exact(List.perm_ext_iff_of_nodup na nb).2 h
theorem combined_add (v1 v2 : Value) (l1 l2 : List (Int × Int)) (w : World) (hm1 : mayB l1 = true) (hm2 : mayB l2 = true) (hP1 : Poly w w.heap.size v1 l1) (hP2 : Poly w w.heap.size v2 l2) :
    Calls Tryd.prog 21 #[v1,v2,.func (.func 39) #[] #[]] w fun e w'=>∃ v r,e=.returned (.tuple #[v,.int .i64 0])/\w'.ownsRow w.heap.size 40 2 v r.length (flat r)/\Canon r (fun x=>coefL l1 x+coefL l2 x)/\r.length<=128/\Below w.heap.size w w':=by
 have h164:=((may_iff l1).1 hm1).1
 have h264:=((may_iff l2).1 hm2).1
 have HP1:Hid (Poly w w.heap.size v1 l1):=hP1
 have HP2:Hid (Poly w w.heap.size v2 l2):=hP2
 have HL1:Hid (l1.length<=maxLen):=by show _<=_;unfold maxLen;omega
 have HL2:Hid (l2.length<=maxLen):=by show _<=_;unfold maxLen;omega
 have HM1:Hid (mayB l1=true):=hm1
 have HM2:Hid (mayB l2=true):=hm2
 clear hP1 hP2 hm1 hm2
 go_enter Tryd.func21,Tryd.ntmps21
 go_wp2_with (go_at_call 26;refine(mayBe_poly _ l1 _ HL1.out HP1.out).mono ?_;rw[HM1.out];rintro r w1 ⟨rfl,hb1⟩;refine Hid.out ?_)
 refine Lib.hid ?_
 go_wp2_with (go_at_call 26;refine(mayBe_poly _ l2 _ HL2.out (HP2.out.up hb1)).mono ?_;rw[HM2.out];rintro r w2 ⟨rfl,hb2⟩;refine Hid.out ?_)
 refine Lib.hid ?_
 have hB2:=hb1.trans (hb2.mono hb1.size)
 go_wp2_with (go_at_call 46;refine(collected_poly _ l1 _ HM1.out (HP1.out.up hB2)).mono ?_;rintro r w3 ⟨D1,rfl,hown1,hc1,hk1,hb3⟩;refine Hid.out ?_)
 refine Lib.hid ?_
 have hB3:=hB2.trans (hb3.mono hB2.size)
 go_wp2_with (go_at_call 46;refine(collected_poly _ l2 _ HM2.out (HP2.out.up hB3)).mono ?_;rintro r w4 ⟨D2,rfl,hown2,hc2,hk2,hb4⟩;refine Hid.out ?_)
 refine Lib.hid ?_
 have hB4:=hB3.trans (hb4.mono hB3.size)
 have hown1':=map_on hown1 hb4 hown1.lt
 go_wp2_with (go_at_call 39;refine(plus23 _ _ _ _ D1 D2 _ hown1' hown2 h164 h264 hk2 (coef_bd HM1.out hc1) (coef_bd HM2.out hc2)).mono ?_;rintro r w5 ⟨D,rfl,hown,hc,hb5⟩;refine Hid.out ?_)
 refine Lib.hid ?_
 have hB5:=hB4.trans (hb5.mono hB4.size)
 have hs:=size_le hown
 have HC:Hid (∀ x,coefOf D x=coefL l1 x+coefL l2 x):=fun x=>by rw[hc,hc1,hc2]
 clear hc hc1 hc2 hk1 hk2
 go_wp2_with (go_at_call 29;refine(terms34 _ _ D _ hown (by omega)).mono ?_;rintro r w6 ⟨v,m,rfl,hrow,hcan,hml,hb6⟩)
 go_ret2
 exact⟨v,m,rfl,own_lower hrow hB5.size,canon_congr hcan HC.out,by omega,hB5.trans (hb6.mono hB5.size)⟩
theorem combined_mul (v1 v2 : Value) (l1 l2 : List (Int × Int)) (w : World) (hm1 : mayB l1 = true) (hm2 : mayB l2 = true) (hP1 : Poly w w.heap.size v1 l1) (hP2 : Poly w w.heap.size v2 l2) :
    Calls Tryd.prog 21 #[v1,v2,.func (.func 22) #[] #[]] w fun e w'=>∃ v r,e=.returned (.tuple #[v,.int .i64 0])/\w'.ownsRow w.heap.size 40 2 v r.length (flat r)/\Canon r (fun y=>prodL l1 (coefL l2) y)/\r.length<=4096/\Below w.heap.size w w':=by
 have h164:=((may_iff l1).1 hm1).1
 have h264:=((may_iff l2).1 hm2).1
 have HP1:Hid (Poly w w.heap.size v1 l1):=hP1
 have HP2:Hid (Poly w w.heap.size v2 l2):=hP2
 have HL1:Hid (l1.length<=maxLen):=by show _<=_;unfold maxLen;omega
 have HL2:Hid (l2.length<=maxLen):=by show _<=_;unfold maxLen;omega
 have HM1:Hid (mayB l1=true):=hm1
 have HM2:Hid (mayB l2=true):=hm2
 clear hP1 hP2 hm1 hm2
 go_enter Tryd.func21,Tryd.ntmps21
 go_wp2_with (go_at_call 26;refine(mayBe_poly _ l1 _ HL1.out HP1.out).mono ?_;rw[HM1.out];rintro r w1 ⟨rfl,hb1⟩;refine Hid.out ?_)
 refine Lib.hid ?_
 go_wp2_with (go_at_call 26;refine(mayBe_poly _ l2 _ HL2.out (HP2.out.up hb1)).mono ?_;rw[HM2.out];rintro r w2 ⟨rfl,hb2⟩;refine Hid.out ?_)
 refine Lib.hid ?_
 have hB2:=hb1.trans (hb2.mono hb1.size)
 go_wp2_with (go_at_call 46;refine(collected_poly _ l1 _ HM1.out (HP1.out.up hB2)).mono ?_;rintro r w3 ⟨D1,rfl,hown1,hc1,hk1,hb3⟩;refine Hid.out ?_)
 refine Lib.hid ?_
 have hB3:=hB2.trans (hb3.mono hB2.size)
 go_wp2_with (go_at_call 46;refine(collected_poly _ l2 _ HM2.out (HP2.out.up hB3)).mono ?_;rintro r w4 ⟨D2,rfl,hown2,hc2,hk2,hb4⟩;refine Hid.out ?_)
 refine Lib.hid ?_
 have hB4:=hB3.trans (hb4.mono hB3.size)
 have hown1':=map_on hown1 hb4 hown1.lt
 go_wp2_with (go_at_call 22;refine(times24 _ _ _ _ D1 D2 _ hown1' hown2 h164 h264 hk1 hk2 (coef_bd HM1.out hc1) (coef_bd HM2.out hc2)).mono ?_;rintro r w5 ⟨D,acc,rfl,hown,hc,hmem,honce,hb5⟩;refine Hid.out ?_)
 refine Lib.hid ?_
 have hB5:=hB4.trans (hb5.mono hB4.size)
 have hs:=size_le hown
 have HC:Hid (∀ y,coefOf D y=prodL l1 (coefL l2) y):=fun y=>by
  have hp:acc.Perm l1:=perm_of_mem honce ((may_rising HM1.out).imp fun h=>by omega) fun t=>by
   rw[show t=(t.1,t.2) from rfl,hmem,hc1]
   exact(coefL_mem ((may_rising HM1.out).imp fun h=>by omega) (may_nonzero HM1.out) t.1 t.2).symm
  rw[hc,prodL_perm hp]
  congr 1
  funext x
  exact hc2 x
 clear hc hc1 hc2 hk1 hk2 hmem honce
 go_wp2_with (go_at_call 29;refine(terms34 _ _ D _ hown (by omega)).mono ?_;rintro r w6 ⟨v,m,rfl,hrow,hcan,hml,hb6⟩)
 go_ret2
 exact⟨v,m,rfl,own_lower hrow hB5.size,canon_congr hcan HC.out,by omega,hB5.trans (hb6.mono hB5.size)⟩
theorem add_yes (v1 v2 : Value) (l1 l2 : List (Int × Int)) (w : World) (hm1 : mayB l1 = true) (hm2 : mayB l2 = true) (hP1 : Poly w w.heap.size v1 l1) (hP2 : Poly w w.heap.size v2 l2) :
    Calls Tryd.prog 23 #[v1,v2] w fun e w'=>∃ v r,e=.returned (.tuple #[v,.int .i64 0])/\w'.ownsRow w.heap.size 40 2 v r.length (flat r)/\Canon r (fun x=>coefL l1 x+coefL l2 x)/\r.length<=128/\Below w.heap.size w w':=by
 have HP1:Hid (Poly w w.heap.size v1 l1):=hP1
 have HP2:Hid (Poly w w.heap.size v2 l2):=hP2
 have HM1:Hid (mayB l1=true):=hm1
 have HM2:Hid (mayB l2=true):=hm2
 clear hP1 hP2 hm1 hm2
 go_enter Tryd.func23,Tryd.ntmps23
 go_wp2_with (go_at_call 21;refine(combined_add v1 v2 l1 l2 w HM1.out HM2.out HP1.out HP2.out).mono ?_;rintro r w1 ⟨v,m,rfl,hrow,hcan,hml,hb1⟩)
 go_ret2
 exact⟨v,m,rfl,hrow,hcan,hml,hb1⟩
theorem mul_yes (v1 v2 : Value) (l1 l2 : List (Int × Int)) (w : World) (hm1 : mayB l1 = true) (hm2 : mayB l2 = true) (hP1 : Poly w w.heap.size v1 l1) (hP2 : Poly w w.heap.size v2 l2) :
    Calls Tryd.prog 9 #[v1,v2] w fun e w'=>∃ v r,e=.returned (.tuple #[v,.int .i64 0])/\w'.ownsRow w.heap.size 40 2 v r.length (flat r)/\Canon r (fun y=>prodL l1 (coefL l2) y)/\r.length<=4096/\Below w.heap.size w w':=by
 have HP1:Hid (Poly w w.heap.size v1 l1):=hP1
 have HP2:Hid (Poly w w.heap.size v2 l2):=hP2
 have HM1:Hid (mayB l1=true):=hm1
 have HM2:Hid (mayB l2=true):=hm2
 clear hP1 hP2 hm1 hm2
 go_enter Tryd.func9,Tryd.ntmps9
 go_wp2_with (go_at_call 21;refine(combined_mul v1 v2 l1 l2 w HM1.out HM2.out HP1.out HP2.out).mono ?_;rintro r w1 ⟨v,m,rfl,hrow,hcan,hml,hb1⟩)
 go_ret2
 exact⟨v,m,rfl,hrow,hcan,hml,hb1⟩
end Go.Proofs.YtiliihlkpknhdaaDoor.Poly
/- The walks of poly.size, knotworkref.abs and poly.small: the sum of the coefficients' sizes. -/
namespace Go.Proofs.YtiliihlkpknhdaaDoor.Poly
open Go.RowKit Go.Maps
set_option maxHeartbeats 1000000
set_option maxRecDepth 100000
def absI (c:Int):Int:=if c<0 then -c else c
def sizeTo (l:List (Int×Int)):Nat->Int
 |0=>0
 |k+1=>sizeTo l k+absI (l.getD k (0,0)).2
def sizeL (l:List (Int×Int)):Int:=sizeTo l l.length
theorem sizeTo_le {l:List (Int×Int)} (hm:mayB l=true) (k:Nat) (hk:k<=l.length):0<=sizeTo l k/\sizeTo l k<=1000000*(k:Int):=by
 induction k with
 |zero=>simp[sizeTo]
 |succ k ih=>
  have h:=(okB_iff l k).1 (((may_iff l).1 hm).2 k (by omega))
  have:=ih (by omega)
  rw[sizeTo]
  unfold absI
  split<;>omega
theorem psize_any (c : Int) (w : World) (h0 : -1000000 ≤ c) (h1 : c ≤ 1000000) :
    Calls Tryd.prog 48 #[.int .i64 c] w fun e w'=>e=.returned (.int .i64 (absI c))/\Below w.heap.size w w':=by
 by_cases hn:c<0
 · have hw:IntKind.i64.wrap (-c) = -c:=IntWalk.i64_in _ (by omega)
   have hd:absI c = -c:=if_pos hn
   rw[hd]
   clear hd
   go_enter Tryd.func48,Tryd.ntmps48
   go_wp2
   go_ret
   exact⟨rfl,Below.refl _ _⟩
 · have hd:absI c=c:=if_neg hn
   rw[hd]
   clear hd
   go_enter Tryd.func48,Tryd.ntmps48
   go_wp2
   go_ret
   exact⟨rfl,Below.refl _ _⟩
theorem small_some (b off cap : Nat) (l : List (Int × Int)) (w : World) (hm : mayB l = true) (hbw : b < w.heap.size) (hT : TermsAt w b off l) :
    Calls Tryd.prog 27 #[.slice (some ⟨b,off,none⟩) l.length cap] w fun e w'=>e=.returned (.bool (decide (sizeL l<=100)))/\Below w.heap.size w w':=by
 have hl64:=((may_iff l).1 hm).1
 have HM:Hid (mayB l=true):=hm
 have HT:Hid (TermsAt w b off l):=hT
 clear hm hT
 go_enter Tryd.func27,Tryd.ntmps27
 go_wp2
 go_loopw [3,8] (fun s i wr=>∃ k:Nat,k<=l.length/\i=.int .i64 k/\s=.int .i64 (sizeTo l k)/\Below w.heap.size w wr) (fun _ i _=>l.length-(intOf i).toNat)
 case atStart=>exact⟨0,Nat.zero_le _,rfl,rfl,Below.refl _ _⟩
 case round=>
  obtain⟨k,hk,rfl,rfl,hb⟩:=hrel
  have hsz:=hb.size
  have hbr:b<wr.heap.size:=Nat.lt_of_lt_of_le hbw hsz
  by_cases hlt:k<l.length
  · have c0:=bcell hb hbw (HT.out k hlt).1
    have c1:=bcell hb hbw (HT.out k hlt).2
    have hok:=(okB_iff l k).1 (((may_iff l).1 HM.out).2 k hlt)
    have hs1:=sizeTo_le HM.out (k+1) (by omega)
    have HS:Hid (sizeTo l (k+1)=sizeTo l k+absI (l.getD k (0,0)).2):=(rfl:sizeTo l (k+1)=sizeTo l k+absI (l.getD k (0,0)).2)
    have hs2:sizeTo l (k+1)=sizeTo l k+absI (l.getD k (0,0)).2:=rfl
    generalize he:(l.getD k (0,0)).1=e at c0
    generalize hc:(l.getD k (0,0)).2=c at c1 hok HS hs2
    have H0:Hid (-1000000<=c):=hok.2.2.1
    have H1:Hid (c<=1000000):=hok.2.2.2.1
    have hw1:IntKind.i64.wrap (sizeTo l k+absI c)=sizeTo l k+absI c:=IntWalk.i64_in _ (by omega)
    clear hok he hc hs1 hs2
    generalize sizeTo l k=s at*
    go_wp2_with (go_at_call 48;refine(psize_any c _ H0.out H1.out).mono ?_;rintro r w1 ⟨rfl,hb1⟩)
    go_roundw
    case rel=>exact⟨k+1,by omega,by go_num,by rw[HS.out],(hb.alloc hsz _).trans (hb1.mono (by simp;omega))⟩
    case measure=>simp only[intOf];omega
  · obtain rfl:k=l.length:=by omega
    go_wp2
    go_ret
    exact⟨rfl,hb⟩
end Go.Proofs.YtiliihlkpknhdaaDoor.Poly
/- The walk of bits.OnesCount at numbers below 1024. -/
namespace Go.Proofs.YtiliihlkpknhdaaDoor.Poly
open Go.RowKit Go.Maps
set_option maxHeartbeats 1000000
set_option maxRecDepth 100000
def onesTo (x:Nat):Nat->Nat
 |0=>0
 |k+1=>onesTo x k+(x >>> k)%2
theorem ones64 (x : Nat) (w : World) (hx : x < 1024) :
    Calls Tryd.prog 60 #[.int .u64 (x:Int)] w fun e w'=>e=.returned (.int .i64 (onesTo x 10:Nat))/\Below w.heap.size w w':=by
 go_enter Tryd.func60,Tryd.ntmps60
 go_wp2
 go_ret
 refine⟨ret_int ?_,Below.refl _ _⟩
 clear w
 revert x
 decide +kernel
theorem ones_any (x : Nat) (w : World) (hx : x < 1024) :
    Calls Tryd.prog 49 #[.int .u64 (x:Int)] w fun e w'=>e=.returned (.int .i64 (onesTo x 10:Nat))/\Below w.heap.size w w':=by
 go_enter Tryd.func49,Tryd.ntmps49
 go_wp2_with (go_at_call 60;refine(ones64 x _ hx).mono ?_;rintro r w1 ⟨rfl,hb1⟩)
 go_ret
 exact⟨rfl,hb1⟩
end Go.Proofs.YtiliihlkpknhdaaDoor.Poly
/- The walk of (poly.work).addProduct: a map is added the product of another map and a polynomial. -/
namespace Go.Proofs.YtiliihlkpknhdaaDoor.Poly
open Go.RowKit Go.Maps
set_option maxHeartbeats 4000000
set_option maxRecDepth 100000
theorem prodL_part (l : List (Int × Int)) (left : Lit → Bool) (f : Int → Int) (x y : Int) (hl : left (.int .i64 x) = true) :
    prodL l (part (fun z=>left z&&!z.sameKey (.int .i64 x)) f) y=prodL l (part left f) y+f x*coefL l (y-x):=by
 induction l with
 |nil=>simp[prodL,coefL]
 |cons t l ih=>
  simp only[prodL,coefL,ih,part_step,Int.mul_add]
  by_cases h:x=y-t.1
  · rw[if_pos h,if_pos (by omega),<-h,part_at hl,Int.mul_comm t.2 (f x)];omega
  · rw[if_neg h,if_neg (by omega)];omega
theorem coefL_size (l:List (Int×Int)) (x:Int) (k:Nat) (hk:k<=l.length) : -sizeTo l k<=coefL (l.take k) x/\coefL (l.take k) x<=sizeTo l k:=by
 induction k with
 |zero=>simp[sizeTo,coefL]
 |succ k ih=>
  have:=ih (by omega)
  rw[coefL_take l k (by omega),sizeTo]
  unfold absI
  split<;>split<;>omega
theorem sizeTo_mono (l:List (Int×Int)) (i j:Nat) (h:i<=j):sizeTo l i<=sizeTo l j:=by
 induction j with
 | zero => obtain rfl : i = 0 := by omega
           exact Int.le_refl _
 |succ j ih=>
  by_cases he:i=j+1
  · subst he;exact Int.le_refl _
  · have:=ih (by omega)
    rw[sizeTo]
    unfold absI
    split<;>omega
theorem mul_100 {c d:Int} (h0 : -2000000000000<=c) (h1:c<=2000000000000) (h2 : -4<=d) (h3:d<=4) : -200000000000000<=c*d/\c*d<=200000000000000:=by
 have e:(c*d).natAbs<=2000000000000*4:=by
  rw[Int.natAbs_mul]
  exact Nat.mul_le_mul (by omega) (by omega)
 omega
theorem prodL_size (l : List (Int × Int)) (g : Int → Int) (hg : ∀ x, -2000000000000 ≤ g x ∧ g x ≤ 2000000000000) (y : Int) (k : Nat) (hk : k ≤ l.length) :
    -(2000000000000*sizeTo l k)<=prodL (l.take k) g y/\prodL (l.take k) g y<=2000000000000*sizeTo l k:=by
 induction k with
 |zero=>simp[sizeTo,prodL]
 |succ k ih=>
  have ih:=ih (by omega)
  have hk':k<l.length:=by omega
  rw[List.take_succ_eq_append_getElem hk',prodL_append,sizeTo]
  have g0:l.getD k (0,0)=l[k]:=by simp[List.getD,hk']
  rw[g0]
  have hb:=hg (y-l[k].1)
  have e:prodL [l[k]] g y=l[k].2*g (y-l[k].1):=by simp[prodL]
  have e2 : -(2000000000000*absI l[k].2)<=l[k].2*g (y-l[k].1)/\l[k].2*g (y-l[k].1)<=2000000000000*absI l[k].2:=by
   have h:(l[k].2*g (y-l[k].1)).natAbs<=l[k].2.natAbs*2000000000000:=by
    rw[Int.natAbs_mul]
    exact Nat.mul_le_mul (Nat.le_refl _) (by omega)
   unfold absI
   split<;>omega
  rw[e]
  omega
theorem part_bd {left:Lit->Bool} {f:Int->Int} (hf:∀ x,-2000000000000<=f x/\f x<=2000000000000) (x:Int) : -2000000000000<=part left f x/\part left f x<=2000000000000:=by
 unfold part
 split
 · omega
 · exact hf x
theorem grown_trans {w w1 w2:World} {row:Option Nat} (h1:w.grownBy w1 row) (h2:w1.grownBy w2 row):w.grownBy w2 row:=
 ⟨h2.os.trans h1.os,h2.tape.trans h1.tape,h2.output.trans h1.output,Nat.le_trans h1.size h2.size,fun k hk hr=>(h2.block k (Nat.lt_of_lt_of_le hk h1.size) hr).trans (h1.block k hk hr)⟩
theorem grown_new {w w1 w2:World} {row:Option Nat} {it:Nat} (h1:w.grownBy w1 row) (h2:w1.grownBy w2 (some it)) (hit:w.heap.size<=it):w.grownBy w2 row:=
 ⟨h2.os.trans h1.os,h2.tape.trans h1.tape,h2.output.trans h1.output,Nat.le_trans h1.size h2.size,fun k hk hr=>(h2.block k (Nat.lt_of_lt_of_le hk h1.size) (fun e=>by have:=Option.some.inj e;omega)).trans (h1.block k hk hr)⟩
theorem grown_none {w w':World} (h:w.grownBy w' none) (row:Option Nat):w.grownBy w' row:=⟨h.os,h.tape,h.output,h.size,fun k hk _=>h.block k hk (by simp)⟩
theorem grown_cell {w w':World} {row:Option Nat} (h:w.grownBy w' row) {b o:Nat} {v:Value} (hb:b<w.heap.size) (hr:some b≠row) (hc:w.cell? ⟨b,o,none⟩=some v):w'.cell? ⟨b,o,none⟩=some v:=by
 rw[World.cell?_of_block (a:=⟨b,o,none⟩) (h.block b hb hr)]
 exact hc
theorem size_len (l:List (Int×Int)) (h:∀ i,i<l.length->(l.getD i (0,0)).2≠0) (k:Nat) (hk:k<=l.length):(k:Int)<=sizeTo l k:=by
 induction k with
 |zero=>simp[sizeTo]
 |succ k ih=>
  have:=ih (by omega)
  have h1:=h k (by omega)
  simp only[sizeTo]
  unfold absI
  split<;>omega
theorem len_four {l:List (Int×Int)} (hm:mayB l=true) (hS:sizeL l<=4):l.length<=4:=by
 have h := size_len l (fun i hi => by
  have ho:=((may_iff l).1 hm).2 i hi
  exact((okB_iff l i).1 ho).2.2.2.2.1) l.length (Nat.le_refl _)
 unfold sizeL at hS
 omega
theorem sg_bd {sg X B:Int} (hsg:sg=1∨sg = -1) (h : -B<=X/\X<=B) : -B<=sg*X/\sg*X<=B:=by
 rcases hsg with rfl|rfl<;>omega
theorem addp_some (sg : Int) (hsg : sg = 1 ∨ sg = -1) (bp np bq nq b off cap : Nat) (Dp Dq : DataW Unit) (l : List (Int × Int)) (w : World) (hp : w.ownsMap Tryd.prog 3 (plainElem Tryd.prog 3) bp np Dp) (hq : w.ownsMap Tryd.prog 3 (plainElem Tryd.prog 3) bq nq Dq) (hpq : bp ≠ bq)
    (hm:mayB l=true) (hS:sizeL l<=4) (hbw:b<w.heap.size) (hbp:b≠bp) (hT:TermsAt w b off l) (hnp:np<=1000000000000000) (hnq:nq<=10000000000000) (K N:Int) (hKN:K+1000<=N) (hN:N<=100000) (hK:0<=K)
    (hkp:KeysIn Dp N) (hkq:KeysIn Dq K) (hvp:∀ x,-1000000000000000<=coefOf Dp x/\coefOf Dp x<=1000000000000000) (hvq:∀ x,-2000000000000<=coefOf Dq x/\coefOf Dq x<=2000000000000):
    Calls Tryd.prog 50 #[.map (some bp),.map (some bq),.slice (some ⟨b,off,none⟩) l.length cap,.int .i64 sg] w fun e w'=>∃ D:DataW Unit,e=.returned (.tuple #[])/\w'.ownsMap Tryd.prog 3 (plainElem Tryd.prog 3) bp (np+4*nq) D/\
     (∀ y,coefOf D y=coefOf Dp y+sg*prodL l (coefOf Dq) y)/\KeysIn D N/\w.grownBy w' (some bp):=by
 have HSG:Hid (sg=1∨sg = -1):=hsg
 have hl64:l.length<=4:=len_four hm hS
 have hlp:=hp.lt
 have hlq:=hq.lt
 have hsq:=size_le hq
 have HM:Hid (mayB l=true):=hm
 have HS:Hid (sizeL l<=4):=hS
 have HT:Hid (TermsAt w b off l):=hT
 have HKP:Hid (KeysIn Dp N):=hkp
 have HKQ:Hid (KeysIn Dq K):=hkq
 have HVP:Hid (∀ x,-1000000000000000<=coefOf Dp x/\coefOf Dp x<=1000000000000000):=hvp
 have HVQ:Hid (∀ x,-2000000000000<=coefOf Dq x/\coefOf Dq x<=2000000000000):=hvq
 clear hm hS hT hkp hkq hvp hvq
 go_enter Tryd.func50,Tryd.ntmps50
 go_wp2_with (first
  |(at_range;refine wpList_range_own _ rfl _ 60 rfl 3 3 law3 Tryd.underlying60 _ bq nq _ rfl hq ?_;intro w0 hrg0 hg0 hs0))
 go_frame
 go_loopw [8, 9, 11] (fun _ _ _ wr => ∃ (left : Lit → Bool) (cnt k j : Nat) (D : DataW Unit), wr.ranges Tryd.prog 3 (plainElem Tryd.prog 3) bq w.heap.size nq Dq left cnt ∧ j + cnt ≤ nq ∧ k ≤ np + 4 * j ∧
     wr.ownsMap Tryd.prog 3 (plainElem Tryd.prog 3) bp k D/\Hid (∀ y,coefOf D y=coefOf Dp y+sg*prodL l (part left (coefOf Dq)) y)/\Hid (KeysIn D N)/\w.grownBy wr (some bp))
  (fun _ _ _ wr=>wr.rangeLeft bq w.heap.size)
 case atStart=>
  refine⟨_,_,np,0,Dp,hrg0,by omega,by omega,hp.kept hg0 (by simp),fun y=>?_,HKP.out,grown_none hg0 _⟩
  have e:part (Maps.has Dq) (coefOf Dq)=fun _=>0:=funext fun x=>part_start Dq x
  rw[e,prodL_zero,Int.mul_zero];omega
 case round=>
  clear hrg0 hg0 hs0
  rename World=>W1
  obtain⟨left,cnt,k,j,D,hrg,hcs,hkj,hout,hD,hKD,hgr⟩:=hrel
  go_wp2_with (first
   |(at_next;refine wpList_next_ranges_ii _ rfl _ rfl 3 3 .i64 .i64 law3 Tryd.underlying3 Tryd.underlying3 bq w.heap.size nq _ _ _ rfl hrg ?_ ?_)
   |go_in)
  · intro hc0 hl0
    go_wp2
    refine bodyPost_end (v:=.tuple #[]) (by simp[results,Tryd.results50,go_sem]) rfl ⟨D,rfl,hout.mono (by omega),fun y=>?_,hKD.out,hgr⟩
    have e:part left (coefOf Dq)=coefOf Dq:=funext fun x=>part_end hl0 x
    rw[hD.out,e]
  · intro x c w1 cnt1 hwx hwc hlx hat hrg1 hlt hg1 hs1 hen
    have hx:=HKQ.out x (has_at hat)
    have hcq:=HVQ.out x
    have HF:Hid (coefOf Dq x=c):=coefOf_at hat
    rw[coefOf_at hat]at hcq
    have HL:Hid (left (.int .i64 x)=true):=hlx
    obtain⟨s,hs⟩:∃ s,sg*c=s:=⟨_,rfl⟩
    have hsb : -2000000000000<=s/\s<=2000000000000:=by rw[<-hs];exact sg_bd HSG.out hcq
    have HSC:Hid (sg*c=s):=hs
    have hw1:IntKind.i64.wrap (sg*c)=s:=by rw[hs];exact IntWalk.i64_in _ (by omega)
    clear hs
    have hout1:=hout.kept hg1 (fun e=>by have:=Option.some.inj e;omega)
    have hgr1:=grown_new hgr hg1 (Nat.le_refl _)
    have HB:Hid (∀ y i,i<=l.length -> -2000000000000000<=coefOf Dp y+sg*prodL l (part left (coefOf Dq)) y+s*coefL (l.take i) (y-x)/\coefOf Dp y+sg*prodL l (part left (coefOf Dq)) y+s*coefL (l.take i) (y-x)<=2000000000000000):=fun y i hi=>by
     have h1:=HVP.out y
     have h2:=prodL_size l (part left (coefOf Dq)) (part_bd HVQ.out) y l.length (Nat.le_refl _)
     rw[List.take_length]at h2
     have h2:=sg_bd HSG.out h2
     have h3:=coefL_size l (y-x) i hi
     have h4:=sizeTo_mono l i l.length hi
     have h5:sizeTo l l.length<=4:=HS.out
     have h6:=mul_100 hsb.1 hsb.2 (d:=coefL (l.take i) (y-x)) (by omega) (by omega)
     omega
    clear hat hlx hs1 hg1 hout hgr
    go_wp2
    clear hen
    go_loopw [11, 21] (fun _ i ws => ∃ (i' k2 : Nat) (D2 : DataW Unit), i' ≤ l.length ∧ i = .int .i64 i' ∧ k2 ≤ k + i' ∧ ws.ranges Tryd.prog 3 (plainElem Tryd.prog 3) bq w.heap.size nq Dq (fun z => left z && !z.sameKey (.int .i64 x)) cnt1 ∧
        ws.ownsMap Tryd.prog 3 (plainElem Tryd.prog 3) bp k2 D2/\Hid (∀ y,coefOf D2 y=coefOf Dp y+sg*prodL l (part left (coefOf Dq)) y+s*coefL (l.take i') (y-x))/\Hid (KeysIn D2 N)/\w.grownBy ws (some bp))
     (fun _ i _=>l.length-(intOf i).toNat)
    case atStart=>
     exact⟨0,k,D,Nat.zero_le _,rfl,by omega,hrg1,hout1,fun y=>by rw[hD.out];simp[coefL],hKD.out,hgr1⟩
    case round=>
     rename World=>W2
     obtain⟨i',k2,D2,hi',rfl,hk2,hrq,hout,hD2,hKD2,hgr⟩:=hrel
     by_cases hil:i'<l.length
     · have hsz:=hgr.size
       have hbr:b<W2.heap.size:=Nat.lt_of_lt_of_le hbw hsz
       have c0:=grown_cell hgr hbw (fun e=>hbp (Option.some.inj e)) (HT.out i' hil).1
       have c1:=grown_cell hgr hbw (fun e=>hbp (Option.some.inj e)) (HT.out i' hil).2
       have hok:=(okB_iff l i').1 (((may_iff l).1 HM.out).2 i' hil)
       have hsz1:absI (l.getD i' (0,0)).2<=4:=by
        have h4:=sizeTo_mono l (i'+1) l.length (by omega)
        have h5:sizeTo l l.length<=4:=HS.out
        have h6:=(sizeTo_le HM.out i' (by omega)).1
        rw[sizeTo]at h4
        omega
       have HTK:Hid (∀ y,coefL (l.take (i'+1)) y=coefL (l.take i') y+(if(l.getD i' (0,0)).1=y then(l.getD i' (0,0)).2 else 0)):=fun y=>coefL_take l i' hil y
       generalize (l.getD i' (0,0)).1=e at c0 hok HTK
       generalize (l.getD i' (0,0)).2=d at c1 hok HTK hsz1
       have hd : -4<=d/\d<=4:=by
        unfold absI at hsz1
        split at hsz1<;>omega
       have hmul:=mul_100 hsb.1 hsb.2 hd.1 hd.2
       have hw2:IntKind.i64.wrap (s*d)=s*d:=IntWalk.i64_in _ (by omega)
       have hbd0:=HB.out (x+e) i' hi'
       have hdm:=hout.isMap
       have HKe:Hid (-N<=x+e/\x+e<=N):=(⟨by omega,by omega⟩ : -N<=x+e/\x+e<=N)
       obtain⟨o1,o2,-⟩:=hok
       clear hsz1
       go_wp2_with (first
        |(at_lookup;refine wpList_lookup_own_int _ rfl _ _ 60 rfl 3 3 .i64 law3 Tryd.underlying60 Tryd.underlying3 (zero3 _) bp k2 _ rfl (hout.alloc _) _ _ rfl (keyOf_int_mk Tryd.underlying3 (WalkArith.wf_i64 (by omega))) ?_;intro c' hat hwc;refine Hid.out ?_))
       refine Lib.hid ?_
       have hc':coefOf D2 (x+e)=c':=coefOf_look hat
       have hbd : -2000000000000000<=c'/\c'<=2000000000000000:=by rw[<-hc',hD2.out];exact hbd0
       have HC':Hid (coefOf D2 (x+e)=c'):=hc'
       clear hat hwc hc' hbd0
       go_wp2_with (first
        |(at_mapUpdate;refine wpList_mapUpdate_own _ rfl _ _ _ 60 rfl 3 3 law3 Tryd.underlying60 _ bp k2 _ rfl (hout.alloc _) (by unfold maxLen;omega) _ _ _ rfl rfl (keyOf_int_mk Tryd.underlying3 (WalkArith.wf_i64 (by omega))) _ [] (plainElem_int Tryd.underlying3 (WalkArith.wf_i64 (by omega))) ?_;intro w4 hown4 hg4;go_frame))
       go_roundw
       case rel=>
        refine⟨i'+1,k2+1,_,by omega,by go_num,by omega,(hrq.alloc _).kept hg4 (fun e=>hpq (Option.some.inj e).symm) (fun e=>by have:=Option.some.inj e;omega),hown4,fun y=>?_,keysIn_put hKD2.out HKe.out.1 HKe.out.2 _,grown_trans (grown_trans hgr (World.grownBy_alloc _ _ _)) hg4⟩
        rw[coefOf_put hdm,HTK.out]
        by_cases hxy:x+e=y
        · have hyx:e=y-x:=by omega
          rw[if_pos hxy,if_pos hyx,<-HC'.out,hD2.out,hxy,Int.mul_add];omega
        · have hyx:¬ e=y-x:=by omega
          rw[if_neg hxy,if_neg hyx,hD2.out];simp
       case measure=>simp only[intOf];omega
     · obtain rfl:i'=l.length:=by omega
       go_wp2
       go_roundw
       case rel=>
        refine⟨_,cnt1,k2,j+1,D2,hrq,by omega,by omega,hout,fun y=>?_,hKD2.out,hgr⟩
        rw[prodL_part l left (coefOf Dq) x y HL.out,HF.out,hD2.out,List.take_length,Int.mul_add,<-Int.mul_assoc,HSC.out];omega
       case measure=>rw[hrq.left_eq,hrg.left_eq];exact hlt
end Go.Proofs.YtiliihlkpknhdaaDoor.Poly
/- The walk of knotworkref.Put: a term put into a list in form. -/
namespace Go.Proofs.YtiliihlkpknhdaaDoor.Poly
open Go.RowKit Go.Maps
def PolyC (w:World) (B:Nat) (v:Value) (l:List (Int×Int)):Prop:=Poly w B v l/\∃ a n c,v=.slice a n c/\n<=c/\c<=maxLen
theorem PolyC.ofRow {w:World} {base:Nat} {v:Value} {l:List (Int×Int)} (h:w.ownsRow base 40 2 v l.length (flat l)):PolyC w w.heap.size v l:=by
 refine⟨Poly.ofRow h,?_⟩
 rcases h.2 with⟨rfl,h0⟩|⟨g,cap,cur,rfl,_,_,h1,h2,_⟩
 · exact⟨none,0,0,rfl,Nat.le_refl _,Nat.zero_le _⟩
 · exact⟨_,_,_,rfl,h1,h2⟩
theorem PolyC.up {w w':World} {v:Value} {l:List (Int×Int)} (h:PolyC w w.heap.size v l) (hb:Below w.heap.size w w'):PolyC w' w'.heap.size v l:=⟨h.1.up hb,h.2⟩
end Go.Proofs.YtiliihlkpknhdaaDoor.Poly
/- The walk of bits.OnesCount at numbers below 64. -/
namespace Go.Proofs.YtiliihlkpknhdaaDoor.Poly
open Go.RowKit Go.Maps
set_option maxHeartbeats 1000000
set_option maxRecDepth 100000
def onesToQ (x:Nat):Nat->Nat
 |0=>0
 |k+1=>onesToQ x k+(x >>> k)%2
theorem ones64Q (x : Nat) (w : World) (hx : x < 64) :
    Calls Tryd.prog 60 #[.int .u64 (x:Int)] w fun e w'=>e=.returned (.int .i64 (onesToQ x 6:Nat))/\Below w.heap.size w w':=by
 go_enter Tryd.func60,Tryd.ntmps60
 go_wp2
 go_ret
 refine⟨ret_int ?_,Below.refl _ _⟩
 clear w
 revert x
 decide +kernel
theorem ones_anyQ (x : Nat) (w : World) (hx : x < 64) :
    Calls Tryd.prog 49 #[.int .u64 (x:Int)] w fun e w'=>e=.returned (.int .i64 (onesToQ x 6:Nat))/\Below w.heap.size w w':=by
 go_enter Tryd.func49,Tryd.ntmps49
 go_wp2_with (go_at_call 60;refine(ones64Q x _ hx).mono ?_;rintro r w1 ⟨rfl,hb1⟩)
 go_ret
 exact⟨rfl,hb1⟩
end Go.Proofs.YtiliihlkpknhdaaDoor.Poly

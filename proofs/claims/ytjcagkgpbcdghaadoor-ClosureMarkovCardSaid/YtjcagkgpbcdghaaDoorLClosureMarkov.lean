/- The law ClosureMarkov: its walk. -/
import Derived.Test.YtjcagkgpbcdghaaDoorLM1
import Derived.Test.YtjcagkgpbcdghaaDoorAS3P
import Derived.Test.YtjcagkgpbcdghaaDoorPA5P
import Derived.Test.YtjcagkgpbcdghaaDoorR3
import Derived.Test.YtjcagkgpbcdghaaDoorOpenSP
import Derived.Deep.RegionHeld3
namespace Go.Proofs.YtjcagkgpbcdghaaDoor.Poly
open Go.RowKit Go.Maps
set_option maxHeartbeats 8000000
set_option maxRecDepth 100000
theorem QB6:QX8:=fun a cap C loops gF cF gT cT w hm hD=>Xu9 a cap C loops gF cF gT cT w hm hD
theorem closureMarkov_any (s : Int) (a a' : Option Addr) (c c' : Nat) (l l' : List Int) (up : Bool) (w : World) (hs : -9223372036854775808 ≤ s ∧ s ≤ 9223372036854775807) (hl : ∀ x ∈ l, -9223372036854775808 ≤ x ∧ x ≤ 9223372036854775807) (hl' : ∀ x ∈ l', -9223372036854775808 ≤ x ∧ x ≤ 9223372036854775807) (h : RdAt w w.heap.size 1 (.slice a l.length c) l.length (QQ3 l)) (h' : RdAt w w.heap.size 1 (.slice a' l'.length c') l'.length (QQ3 l')) (hR : RingAt w) :
    Calls Tryd.prog 3 #[.int .i64 s,.slice a l.length c,.slice a' l'.length c',.bool up] w fun e w'=>e=.returned (.bool true)/\Below w.heap.size w w':=by
 have HPK:Hid (∀ W,Calls Tryd.prog 4 #[.int .i64 s,.int .i64 3] W fun e w'=>∃ r:Nat,e=.returned (.int .i64 (r:Nat))/\r<3/\w'=W):=fun W=>XV2 s 3 W hs (by decide) (by decide)
 have HWD:Hid (∀ p n:Nat,n=p+1->1<=p->p<=3->Calls Tryd.prog 5 #[.int .i64 (n:Nat),.slice a l.length c,.int .i64 4] w fun e w'=>∃ a2 c2 L,e=.returned (.slice a2 L.length c2)/\w'.ownsRow w.heap.size 3 1 (.slice a2 L.length c2) L.length (QQ3 L)/\Hid (LtOk n L/\L.length<=4)/\Below w.heap.size w w'):=fun p n h1 h2 h3=>ZK7 n p 4 a c l w h1 h2 (by omega) (by decide) hl h
 have HWE:Hid (∀ W,Below w.heap.size w W->∀ p n:Nat,n=p+1->1<=p->p<=3->Calls Tryd.prog 5 #[.int .i64 (n:Nat),.slice a' l'.length c',.int .i64 2] W fun e w'=>∃ a2 c2 L,e=.returned (.slice a2 L.length c2)/\w'.ownsRow W.heap.size 3 1 (.slice a2 L.length c2) L.length (QQ3 L)/\Hid (LtOk n L/\L.length<=2)/\Below W.heap.size W w'):=fun W hW p n h1 h2 h3=>ZK7 n p 2 a' c' l' W h1 h2 (by omega) (by decide) hl' ((h'.on hW).mono hW.size)
 have HRA:Hid (RingAt w):=hR
 generalize l.length=N0 at HWD ⊢
 generalize l'.length=N1 at HWE ⊢
 clear hs hl h hl' h' hR
 go_enter Tryd.func3,Tryd.ntmps3
 go_wp2_with (go_at_call 4;refine(HPK.out _).mono ?_;rintro e9 w5 ⟨r,rfl,hr,e4⟩;obtain rfl:=e4.symm;refine Hid.out ?_)
 refine Lib.hid ?_
 clear HPK
 obtain⟨n,hn⟩:∃ n,n=r+1+1:=⟨_,rfl⟩
 have ew0:IntKind.i64.wrap (2+(r:Int))=(n:Int):=by rw[show 2+(r:Int)=n by omega];exact IntWalk.i64_in _ (by omega)
 have HW:=HWD.out (r+1) n hn (by omega) (by omega)
 have HV:=fun W hW=>HWE.out W hW (r+1) n hn (by omega) (by omega)
 have hn2:2<=n:=by omega
 have hn4:n<=4:=by omega
 have HWH:=QQ1 HW
 have HVH:=QQ1 HV
 clear HWD HWE HW HV hn hr
 go_wp2_with (go_at_call 5;refine HWH.out.mono ?_;rintro e9 w1 ⟨a2,c2,L,rfl,ho1,hL1,hb1⟩;refine Hid.out ?_)
 refine Lib.hid ?_
 have HB1:=QQ1 hb1
 have HVW:=QQ1 (HVH.out w1 hb1)
 have HO1:=QQ1 ho1
 clear hb1 ho1 HWH HVH
 go_wp2_with (go_at_call 5;refine HVW.out.mono ?_;rintro e9 w2 ⟨a3,c3,V,rfl,ho2,hL2,hb2⟩;refine Hid.out ?_)
 refine Lib.hid ?_
 have HB12:=QQ1 hb2
 have HB2:Hid (Below w.heap.size w w2):=HB1.out.trans (hb2.mono HB1.out.size)
 have HWW:Hid (QH1 n L):=wd_iff.2 hL1.out.1
 have HWV:Hid (QH1 n V):=wd_iff.2 hL2.out.1
 have HLL:Hid (L.length<=4/\V.length<=2):=⟨hL1.out.2,hL2.out.2⟩
 have HI1:Hid (InAt w1 w1.heap.size 1 (.slice a2 L.length c2) L.length (QQ3 L)):=Xx8 HO1.out
 have HI2:Hid (InAt w2 w2.heap.size 1 (.slice a3 V.length c3) V.length (QQ3 V)):=Xx8 ho2
 have HIN1:Hid (∀ W,Below w2.heap.size w2 W->InAt W W.heap.size 1 (.slice a2 L.length c2) L.length (QQ3 L)):=fun W hW=>InAt.up HI1.out (HB12.out.trans (hW.mono HB12.out.size))
 have HIN2:Hid (∀ W,Below w2.heap.size w2 W->InAt W W.heap.size 1 (.slice a3 V.length c3) V.length (QQ3 V)):=fun W hW=>InAt.up HI2.out hW
 have hwL:Qf1 (n:Int) L=0:=hL1.out.1.word hn2 (by omega) (by have:=hL1.out.2;omega)
 have HCA:Hid (Calls Tryd.prog 6 #[.int .i64 (n:Nat),.slice a2 L.length c2] w2 fun e w'=>∃ a2 c2,e=.returned (.tuple #[.agg #[.slice a2 L.length c2,.int .i64 (QV5 L n:Nat)],.int .i64 0])/\Crs w' w'.heap.size (.slice a2 L.length c2) (QV6 L n)/\Below w2.heap.size w2 w'):=XJ1 a2 c2 n L w2 hwL (by have:=hL1.out.2;omega) (InAt.rdI (HIN1.out _ (Below.refl _ _)))
 have HRV : Hid (∀ W, Below w2.heap.size w2 W → Calls Tryd.prog 8 #[.slice a3 V.length c3] W fun e w' => ∃ a4 c4, e = .returned (.slice a4 V.length c4) ∧ w'.ownsRow W.heap.size 3 1 (.slice a4 V.length c4) V.length (QQ3 (QV3 V)) ∧ Below W.heap.size W w') := fun W hW => ZF9 a3 c3 V W (by have := hL2.out.2; omega) (fun i => by
  by_cases q:i<V.length
  · have:=HWV.out i q;omega
  · rw[List.getD_eq_getElem?_getD,List.getElem?_eq_none (by omega)]
    show -6<=(0:Int)/\(0:Int)<=6
    omega) (InAt.rdI (HIN2.out W hW))
 have HJB:Hid (∀ (W W3:World) (a4:Option Addr) (c4:Nat),Below w2.heap.size w2 W->InAt W W.heap.size 1 (.slice a4 V.length c4) V.length (QQ3 (QV3 V))->W3=W.alloc (.cells #[.slice a3 V.length c3,.slice a2 L.length c2,.slice a4 V.length c4] 22)->Calls Tryd.prog 7 #[.slice (some ⟨W.heap.size,0,none⟩) 3 3] W3 fun e w'=>∃ a5 c5,e=.returned (.slice a5 (V++L++QV3 V).length c5)/\Hid (RdAt w' w'.heap.size 1 (.slice a5 (V++L++QV3 V).length c5) (V++L++QV3 V).length (QQ3 (V++L++QV3 V)))/\Below W3.heap.size W3 w'):=fun W W3 a4 c4 hW hin e=>by
  have hb:Below W.heap.size W W3:=by rw[e];exact(Below.refl _ _).alloc (Nat.le_refl _) _
  have hT:W3.heap[W.heap.size]?=some (.cells #[.slice a3 V.length c3,.slice a2 L.length c2,.slice a4 V.length c4] 22 (0,0)):=by rw[e];exact heap_alloc_new _ _
  have h1:=HLL.out.1
  have h2:=HLL.out.2
  have h3:=QA0 V
  refine(ZU0 W.heap.size 3 3 (fun i=>match i with|0=>.slice a3 V.length c3|1=>.slice a2 L.length c2|_=>.slice a4 V.length c4) (fun i=>match i with|0=>V|1=>L|_=>QV3 V) W3 (by decide) (fun i hi=>?_) (fun i hi=>?_) (Array.getElem?_eq_some_iff.1 hT).1).mono ?_
  · have c:i=0∨i=1∨i=2∨i=3:=by omega
    rcases c with rfl|rfl|rfl|rfl<;>simp only[XW5,List.length_append,List.length_nil]<;>omega
  · have c:i=0∨i=1∨i=2:=by omega
    rcases c with rfl|rfl|rfl
    · exact⟨QQ0 hT rfl,HIN2.out W3 (hW.trans (hb.mono hW.size))⟩
    · exact⟨QQ0 hT rfl,HIN1.out W3 (hW.trans (hb.mono hW.size))⟩
    · refine⟨QQ0 hT rfl,?_⟩
      show InAt W3 W3.heap.size 1 (.slice a4 V.length c4) (QV3 V).length (QQ3 (QV3 V))
      rw[h3]
      exact InAt.up hin hb
  · rintro e9 w' ⟨a5,c5,rfl,ho,hb5⟩
    exact⟨a5,c5,rfl,XU7 ho,hb5⟩
 have HJC:Hid (∀ (W W3:World) (x:Int) (g:Nat),W.heap.size=g->Below w2.heap.size w2 W->W3=(W.alloc (.cells #[.int .i64 x] 3)).alloc (.cells #[.slice a2 L.length c2,.slice (some ⟨g,0,none⟩) 1 1] 22)->Calls Tryd.prog 7 #[.slice (some ⟨g+1,0,none⟩) 2 2] W3 fun e w'=>∃ a5 c5,e=.returned (.slice a5 (L++[x]).length c5)/\Hid (RdAt w' w'.heap.size 1 (.slice a5 (L++[x]).length c5) (L++[x]).length (QQ3 (L++[x])))/\Below W3.heap.size W3 w'):=fun W W3 x g hg hW e=>by
  subst hg
  have hsz:(W.alloc (.cells #[.int .i64 x] 3)).heap.size=W.heap.size+1:=by simp
  rw[<-hsz]
  have h1:=HLL.out.1
  have hb1:Below W.heap.size W (W.alloc (.cells #[.int .i64 x] 3)):=(Below.refl _ _).alloc (Nat.le_refl _) _
  have hb2:Below (W.alloc (.cells #[.int .i64 x] 3)).heap.size (W.alloc (.cells #[.int .i64 x] 3)) W3:=by rw[e];exact(Below.refl _ _).alloc (Nat.le_refl _) _
  have hb:Below W.heap.size W W3:=hb1.trans (hb2.mono hb1.size)
  have hT:W3.heap[(W.alloc (.cells #[.int .i64 x] 3)).heap.size]?=some (.cells #[.slice a2 L.length c2,.slice (some ⟨W.heap.size,0,none⟩) 1 1] 22 (0,0)):=by rw[e];exact heap_alloc_new _ _
  have hT1:(W.alloc (.cells #[.int .i64 x] 3)).heap[W.heap.size]?=some (.cells #[.int .i64 x] 3 (0,0)):=heap_alloc_new _ _
  have hT2:=(hb2.block _ (Array.getElem?_eq_some_iff.1 hT1).1).trans hT1
  refine(ZU0 _ 2 2 (fun i=>match i with|0=>.slice a2 L.length c2|_=>.slice (some ⟨W.heap.size,0,none⟩) 1 1) (fun i=>match i with|0=>L|_=>[x]) W3 (by decide) (fun i hi=>?_) (fun i hi=>?_) (Array.getElem?_eq_some_iff.1 hT).1).mono ?_
  · have c:i=0∨i=1∨i=2:=by omega
    rcases c with rfl|rfl|rfl<;>simp only[XW5,List.length_append,List.length_nil,List.length_singleton]<;>omega
  · have c:i=0∨i=1:=by omega
    rcases c with rfl|rfl
    · exact⟨QQ0 hT rfl,HIN1.out W3 (hW.trans (hb.mono hW.size))⟩
    · refine⟨QQ0 hT rfl,Or.inr (Or.inr ⟨W.heap.size,0,1,rfl,(Array.getElem?_eq_some_iff.1 hT2).1,fun j hj=>?_⟩)⟩
      obtain rfl:j=0:=by have:j<1*1:=hj;omega
      exact QQ0 hT2 rfl
  · rintro e9 w' ⟨a5,c5,rfl,ho,hb5⟩
    exact⟨a5,c5,rfl,XU7 ho,hb5⟩
 clear hb2 ho2 HO1 HVW hL1 hL2 HB1 HB12 HI1 HI2 hwL
 have hwB:Qf1 (n:Int) (V++L++QV3 V)=0:=LtOk.word (wd_iff.1 (QA9 (QA9 HWV.out HWW.out) (Xx6 HWV.out))) hn2 (by omega) (by have:=HLL.out;rw[List.length_append,List.length_append,QA0];omega)
 have HCB:Hid (∀ (W:World) (a5:Option Addr) (c5:Nat),RdAt W W.heap.size 1 (.slice a5 (V++L++QV3 V).length c5) (V++L++QV3 V).length (QQ3 (V++L++QV3 V))->Calls Tryd.prog 6 #[.int .i64 (n:Nat),.slice a5 (V++L++QV3 V).length c5] W fun e w'=>∃ a2 c2,e=.returned (.tuple #[.agg #[.slice a2 (V++L++QV3 V).length c2,.int .i64 (QV5 (V++L++QV3 V) n:Nat)],.int .i64 0])/\Crs w' w'.heap.size (.slice a2 (V++L++QV3 V).length c2) (QV6 (V++L++QV3 V) n)/\Below W.heap.size W w'):=fun W a5 c5 hr=>XJ1 a5 c5 n _ W hwB (by have:=HLL.out;rw[List.length_append,List.length_append,QA0];omega) hr
 have HCC:Hid (∀ (W:World) (a5:Option Addr) (c5:Nat) (x:Int),x.natAbs=n->RdAt W W.heap.size 1 (.slice a5 (L++[x]).length c5) (L++[x]).length (QQ3 (L++[x]))->Calls Tryd.prog 6 #[.int .i64 ((n+1:Nat):Int),.slice a5 (L++[x]).length c5] W fun e w'=>∃ a2 c2,e=.returned (.tuple #[.agg #[.slice a2 (L++[x]).length c2,.int .i64 (QV5 (L++[x]) (n+1):Nat)],.int .i64 0])/\Crs w' w'.heap.size (.slice a2 (L++[x]).length c2) (QV6 (L++[x]) (n+1))/\Below W.heap.size W w'):=fun W a5 c5 x hx hr=>XJ1 a5 c5 (n+1) _ W (LtOk.word (wd_iff.1 (XQ6 HWW.out hx (by omega))) (by omega) (by omega) (by have:=HLL.out;rw[List.length_append];show L.length+1<=20;omega)) (by have:=HLL.out;rw[List.length_append];show L.length+1<=16;omega) hr
 clear hwB
 have hlB:(V++L++QV3 V).length<=8:=by have:=HLL.out;rw[List.length_append,List.length_append,QA0];omega
 have hWB:QH1 n (V++L++QV3 V):=QA9 (QA9 HWV.out HWW.out) (Xx6 HWV.out)
 have hno1:noN (QV6 L n) (QV5 L n:Nat)=0:=Qy6 HWW.out hn2 (by omega) (by have:=HLL.out;omega)
 have hno2:noN (QV6 (V++L++QV3 V) n) (QV5 (V++L++QV3 V) n:Nat)=0:=Qy6 hWB hn2 (by omega) (by omega)
 obtain⟨J,hJ⟩:∃ J,jnF (QV6 L n) (QV5 L n)=J:=⟨_,rfl⟩
 have hJ2:jnF (QV6 (V++L++QV3 V) n) (QV5 (V++L++QV3 V) n)=J:=by rw[<-hJ];exact JX8 HWV.out HWW.out hn2 (by omega) (by omega)
 have HJA:Hid (∀ (v:Value) (W:World),Crs W W.heap.size v (QV6 L n)->RingAt W->Calls Tryd.prog 9 #[.agg #[v,.int .i64 (QV5 L n:Nat)]] W fun e w'=>∃ v l,e=.returned (.tuple #[v,.int .i64 0])/\PolyC w' w'.heap.size v l/\Canon l J/\Below W.heap.size W w'):=fun v W hv hr=>by rw[<-hJ];exact XK2 QB6 v _ _ _ W rfl hno1 (by rw[QU7];have:=HLL.out;omega) hv hr
 have HJ2:Hid (∀ (v:Value) (W:World),Crs W W.heap.size v (QV6 (V++L++QV3 V) n)->RingAt W->Calls Tryd.prog 9 #[.agg #[v,.int .i64 (QV5 (V++L++QV3 V) n:Nat)]] W fun e w'=>∃ v l,e=.returned (.tuple #[v,.int .i64 0])/\PolyC w' w'.heap.size v l/\Canon l J/\Below W.heap.size W w'):=fun v W hv hr=>by rw[<-hJ2];exact XK2 QB6 v _ _ _ W rfl hno2 (by rw[QU7];omega) hv hr
 have HJX:Hid (∀ x:Int,x.natAbs=n->∀ (v:Value) (W:World),Crs W W.heap.size v (QV6 (L++[x]) (n+1))->RingAt W->Calls Tryd.prog 9 #[.agg #[v,.int .i64 (QV5 (L++[x]) (n+1):Nat)]] W fun e w'=>∃ v l,e=.returned (.tuple #[v,.int .i64 0])/\PolyC w' w'.heap.size v l/\Canon l J/\Below W.heap.size W w'):=fun x hx v W hv hr=>by
  have hl5:(L++[x]).length<=5:=by have:=HLL.out;rw[List.length_append];show L.length+1<=5;omega
  rw[<-hJ,<-JX7 HWW.out hx hn2 (by omega) (by have:=HLL.out;omega)]
  exact XK2 QB6 v _ _ _ W rfl (Qy6 (XQ6 HWW.out hx (by omega)) (by omega) (by omega) (by omega)) (by rw[QU7];omega) hv hr
 have HJP:Hid (∀ p,Canon p J->0<p.length):=fun p hp=>JX6 HWW.out hn2 (by omega) (by have:=HLL.out;omega) (by rw[hJ];exact hp)
 have HAA:Hid (∀ (v:Value) (W:World),Crs W W.heap.size v (QV6 L n)->Calls Tryd.prog 11 #[.agg #[v,.int .i64 (QV5 L n:Nat)]] W fun e w'=>∃ v l,e=.returned (.tuple #[v,.int .i64 0])/\Poly w' w'.heap.size v l/\IsAlex (QV6 L n) (QV5 L n) l/\Below W.heap.size W w'):=fun v W hv=>QA7 QB6 v _ _ W hno1 (by rw[QU7];have:=HLL.out;omega) hv
 have HA2:Hid (∀ (v:Value) (W:World),Crs W W.heap.size v (QV6 (V++L++QV3 V) n)->Calls Tryd.prog 11 #[.agg #[v,.int .i64 (QV5 (V++L++QV3 V) n:Nat)]] W fun e w'=>∃ v l,e=.returned (.tuple #[v,.int .i64 0])/\Poly w' w'.heap.size v l/\Hid (∀ l0,IsAlex (QV6 L n) (QV5 L n) l0->l0=l)/\Below W.heap.size W w'):=fun v W hv=>(QA7 QB6 v _ _ W hno2 (by rw[QU7];omega) hv).mono fun e w' ⟨v,l,h1,h2,h3,h4⟩=>⟨v,l,h1,h2,fun l0 h0=>Zf3 HWW.out hWB hn2 (by omega) hn2 (by omega) (by have:=HLL.out;omega) (by omega) (Zb8 hn2 V L HWV.out HWW.out).symm h0 h3,h4⟩
 have HAX:Hid (∀ x:Int,x.natAbs=n->∀ (v:Value) (W:World),Crs W W.heap.size v (QV6 (L++[x]) (n+1))->Calls Tryd.prog 11 #[.agg #[v,.int .i64 (QV5 (L++[x]) (n+1):Nat)]] W fun e w'=>∃ v l,e=.returned (.tuple #[v,.int .i64 0])/\Poly w' w'.heap.size v l/\Hid (∀ l0,IsAlex (QV6 L n) (QV5 L n) l0->l0=l)/\Below W.heap.size W w'):=fun x hx v W hv=>by
  have hl5:(L++[x]).length<=5:=by have:=HLL.out;rw[List.length_append];show L.length+1<=5;omega
  exact(QA7 QB6 v _ _ W (Qy6 (XQ6 HWW.out hx (by omega)) (by omega) (by omega) (by omega)) (by rw[QU7];omega) hv).mono fun e w' ⟨v,l,h1,h2,h3,h4⟩=>⟨v,l,h1,h2,fun l0 h0=>Zf3 HWW.out (XQ6 HWW.out hx (by omega)) hn2 (by omega) (by omega) (by omega) (by have:=HLL.out;omega) (by omega) (JK8 HWW.out hn2 hx).symm h0 h3,h4⟩
 have HAL:Hid (∀ l0,IsAlex (QV6 L n) (QV5 L n) l0->l0.length<=maxLen):=fun l0 h0=>by
  have:=((may_iff _).1 (h0.may (QD6 hno1).1 (by rw[QU7];have:=HLL.out;omega))).1
  unfold maxLen
  omega
 clear hno1 hno2 hJ hJ2 hWB hlB
 obtain⟨B,hB⟩:∃ B,V++L++QV3 V=B:=⟨_,rfl⟩
 have HBE:=QQ1 hB
 rw[hB]at HJB HCB HJ2 HA2
 clear hB
 obtain⟨nB,hnB⟩:∃ nB,B.length=nB:=⟨_,rfl⟩
 have HNB:=QQ1 hnB
 rw[hnB]at HJB HCB
 clear hnB
 cases up
 case true=>
  have HJD:=QQ1 (fun W W3 g hg hW e=>HJC.out W W3 ((n:Nat):Int) g hg hW e)
  have HCD:=QQ1 (fun W a5 c5 hr=>HCC.out W a5 c5 ((n:Nat):Int) (by simp) hr)
  have HJ7:=QQ1 (HJX.out ((n:Nat):Int) (by simp))
  have HA7:=QQ1 (HAX.out ((n:Nat):Int) (by simp))
  clear HJC HCC HJX HAX
  obtain⟨Cw,hCw⟩:∃ C,L++[((n:Nat):Int)]=C:=⟨_,rfl⟩
  have HCE:=QQ1 hCw
  rw[hCw]at HJD HCD HJ7 HA7
  clear hCw
  obtain⟨nC,hnC⟩:∃ nC,Cw.length=nC:=⟨_,rfl⟩
  have HNC:=QQ1 hnC
  rw[hnC]at HJD HCD
  clear hnC
  have ewn:IntKind.i64.wrap ((n:Int)+1)=((n+1:Nat):Int):=IntWalk.i64_in _ (by omega)
  obtain⟨n1,hn1⟩:∃ n1,n+1=n1:=⟨_,rfl⟩
  have HN1:=QQ1 hn1
  rw[hn1]at HCD ewn HJ7 HA7
  clear hn1
  go_wp2_with (go_at_call 6;refine HCA.out.mono ?_;rintro e9 wA ⟨aA,cA,rfl,hcrA,hbA⟩;refine Hid.out ?_)
  refine Lib.hid ?_
  have HBA:=QQ1 hbA
  have HCRA:=QQ1 hcrA
  clear hbA hcrA HCA
  obtain⟨X1,hX1⟩:∃ X,X=wA.alloc (.cells #[.slice aA L.length cA,.int .i64 (QV5 L n:Nat)] 27):=⟨_,rfl⟩
  have HX1:=QQ1 hX1
  have HBX1:Hid (Below w2.heap.size w2 X1):=HBA.out.trans ((by rw[hX1];exact(Below.refl _ _).alloc (Nat.le_refl _) _:Below wA.heap.size wA X1).mono HBA.out.size)
  have HT1:Hid (X1.heap[wA.heap.size]?=some (.cells #[.slice aA L.length cA,.int .i64 (QV5 L n:Nat)] 27 (0,0))):=(by rw[hX1];exact heap_alloc_new _ _)
  have HC1:Hid (Crs X1 X1.heap.size (.slice aA L.length cA) (QV6 L n)):=(HCRA.out.on (by rw[hX1];exact(Below.refl _ _).alloc (Nat.le_refl _) _)).mono (by rw[hX1];simp)
  clear hX1 HCRA
  go_wp2_with (go_at_call 8;rw[<-HX1.out];refine(HRV.out X1 HBX1.out).mono ?_;rintro e9 w3 ⟨a4,c4,rfl,ho4,hb3⟩;refine Hid.out ?_)
  refine Lib.hid ?_
  have HB3:Hid (Below X1.heap.size X1 w3):=hb3
  have HI4:Hid (InAt w3 w3.heap.size 1 (.slice a4 V.length c4) V.length (QQ3 (QV3 V))):=Xx8 ho4
  clear hb3 ho4 HRV HX1
  have HB23:Hid (Below w2.heap.size w2 w3):=HBX1.out.trans (HB3.out.mono HBX1.out.size)
  obtain⟨X3,hX3⟩:∃ X,X=w3.alloc (.cells #[.slice a3 V.length c3,.slice a2 L.length c2,.slice a4 V.length c4] 22):=⟨_,rfl⟩
  have HX3:=QQ1 hX3
  have HJ3:=QQ1 (HJB.out w3 X3 a4 c4 HB23.out HI4.out hX3)
  have HBX3:Hid (Below w3.heap.size w3 X3):=(by rw[hX3];exact(Below.refl _ _).alloc (Nat.le_refl _) _)
  clear hX3 HJB HI4
  go_wp2_with (go_at_call 7;rw[<-HX3.out];refine HJ3.out.mono ?_;rintro e9 w4 ⟨a5,c5,rfl,hr5,hb4⟩;refine Hid.out ?_)
  refine Lib.hid ?_
  have HB34:Hid (Below X1.heap.size X1 w4):=HB3.out.trans ((HBX3.out.trans (hb4.mono HBX3.out.size)).mono HB3.out.size)
  have HCB4:=QQ1 (HCB.out w4 a5 c5 hr5.out)
  clear hb4 hr5 HCB HJ3 HX3 HBX3 HB3 HB23
  go_wp2_with (go_at_call 6;refine HCB4.out.mono ?_;rintro e9 wB ⟨aB,cB,rfl,hcrB,hbB⟩;refine Hid.out ?_)
  refine Lib.hid ?_
  have HBB:=QQ1 hbB
  have HCRB:=QQ1 hcrB
  clear hbB hcrB HCB4
  obtain⟨X4,hX4⟩:∃ X,X=wB.alloc (.cells #[.slice aB nB cB,.int .i64 (QV5 B n:Nat)] 27):=⟨_,rfl⟩
  have HX4:=QQ1 hX4
  have hbX4:Below wB.heap.size wB X4:=by rw[hX4];exact(Below.refl _ _).alloc (Nat.le_refl _) _
  have HBX4:Hid (Below X1.heap.size X1 X4):=HB34.out.trans ((HBB.out.trans (hbX4.mono HBB.out.size)).mono HB34.out.size)
  have HT4:Hid (X4.heap[wB.heap.size]?=some (.cells #[.slice aB nB cB,.int .i64 (QV5 B n:Nat)] 27 (0,0))):=(by rw[hX4];exact heap_alloc_new _ _)
  have HC4:Hid (Crs X4 X4.heap.size (.slice aB nB cB) (QV6 B n)):=(HCRB.out.on hbX4).mono hbX4.size
  have HB24:Hid (Below w2.heap.size w2 X4):=HBX1.out.trans (HBX4.out.mono HBX1.out.size)
  obtain⟨X6,hX6⟩:∃ X,X=(X4.alloc (.cells #[.int .i64 (n:Nat)] 3)).alloc (.cells #[.slice a2 L.length c2,.slice (some ⟨wB.heap.size+1,0,none⟩) 1 1] 22):=⟨_,rfl⟩
  have HX6:=QQ1 hX6
  have HJ6:=QQ1 (HJD.out X4 X6 (wB.heap.size+1) (by rw[hX4];simp) HB24.out hX6)
  have HBX6:Hid (Below X4.heap.size X4 X6):=(by rw[hX6];exact((Below.refl _ _).alloc (Nat.le_refl _) _).alloc (by simp) _)
  clear hX4 hX6 hbX4 HCRB HBB HB34 HJD
  go_wp2_with (go_at_call 7;rw[<-HX4.out,<-HX6.out];refine HJ6.out.mono ?_;rintro e9 w6 ⟨a7,c7,rfl,hr7,hb7⟩;refine Hid.out ?_)
  refine Lib.hid ?_
  have HB46:Hid (Below X4.heap.size X4 w6):=HBX6.out.trans (hb7.mono HBX6.out.size)
  have HCC6:=QQ1 (HCD.out w6 a7 c7 hr7.out)
  clear hb7 hr7 HJ6 HX6 HBX6 HX4 HCD
  go_wp2_with (go_at_call 6;refine HCC6.out.mono ?_;rintro e9 wC ⟨aC,cC,rfl,hcrC,hbC⟩;refine Hid.out ?_)
  refine Lib.hid ?_
  have HBC:=QQ1 hbC
  have HCRC:=QQ1 hcrC
  clear hbC hcrC HCC6
  obtain⟨X7,hX7⟩:∃ X,X=wC.alloc (.cells #[.slice aC nC cC,.int .i64 (QV5 Cw n1:Nat)] 27):=⟨_,rfl⟩
  have HX7:=QQ1 hX7
  have hbX7:Below wC.heap.size wC X7:=by rw[hX7];exact(Below.refl _ _).alloc (Nat.le_refl _) _
  have HB47:Hid (Below X4.heap.size X4 X7):=HB46.out.trans ((HBC.out.trans (hbX7.mono HBC.out.size)).mono HB46.out.size)
  have HB17:Hid (Below X1.heap.size X1 X7):=HBX4.out.trans (HB47.out.mono HBX4.out.size)
  have HT7:Hid (X7.heap[wC.heap.size]?=some (.cells #[.slice aC nC cC,.int .i64 (QV5 Cw n1:Nat)] 27 (0,0))):=(by rw[hX7];exact heap_alloc_new _ _)
  have HC7:Hid (Crs X7 X7.heap.size (.slice aC nC cC) (QV6 Cw n1)):=(HCRC.out.on hbX7).mono hbX7.size
  have HB27:Hid (Below w2.heap.size w2 X7):=HB24.out.trans (HB47.out.mono HB24.out.size)
  have HB07:Hid (Below w.heap.size w X7):=HB2.out.trans (HB27.out.mono HB2.out.size)
  have HR7:Hid (RingAt X7):=HRA.out.any HB07.out
  have HF1:Hid (∀ W,Below X7.heap.size X7 W->W.cell? ⟨wA.heap.size,0,none⟩=some (.slice aA L.length cA)/\W.cell? ⟨wA.heap.size,1,none⟩=some (.int .i64 (QV5 L n:Nat))/\wA.heap.size<W.heap.size):=fun W hW=>by
   have hb:=HB17.out.trans (hW.mono HB17.out.size)
   have g0:=(hb.block _ (Array.getElem?_eq_some_iff.1 HT1.out).1).trans HT1.out
   exact⟨QQ0 g0 rfl,QQ0 g0 rfl,(Array.getElem?_eq_some_iff.1 g0).1⟩
  have HF4:Hid (∀ W,Below X7.heap.size X7 W->W.cell? ⟨wB.heap.size,0,none⟩=some (.slice aB nB cB)/\W.cell? ⟨wB.heap.size,1,none⟩=some (.int .i64 (QV5 B n:Nat))/\wB.heap.size<W.heap.size):=fun W hW=>by
   have hb:=HB47.out.trans (hW.mono HB47.out.size)
   have g0:=(hb.block _ (Array.getElem?_eq_some_iff.1 HT4.out).1).trans HT4.out
   exact⟨QQ0 g0 rfl,QQ0 g0 rfl,(Array.getElem?_eq_some_iff.1 g0).1⟩
  have HF7:Hid (∀ W,Below X7.heap.size X7 W->W.cell? ⟨wC.heap.size,0,none⟩=some (.slice aC nC cC)/\W.cell? ⟨wC.heap.size,1,none⟩=some (.int .i64 (QV5 Cw n1:Nat))/\wC.heap.size<W.heap.size):=fun W hW=>by
   have g0:=(hW.block _ (Array.getElem?_eq_some_iff.1 HT7.out).1).trans HT7.out
   exact⟨QQ0 g0 rfl,QQ0 g0 rfl,(Array.getElem?_eq_some_iff.1 g0).1⟩
  have HCA7:Hid (∀ W,Below X7.heap.size X7 W->Crs W W.heap.size (.slice aA L.length cA) (QV6 L n)):=fun W hW=>HC1.out.up (HB17.out.trans (hW.mono HB17.out.size))
  have HCB7:Hid (∀ W,Below X7.heap.size X7 W->Crs W W.heap.size (.slice aB nB cB) (QV6 B n)):=fun W hW=>HC4.out.up (HB47.out.trans (hW.mono HB47.out.size))
  have HCC7:Hid (∀ W,Below X7.heap.size X7 W->Crs W W.heap.size (.slice aC nC cC) (QV6 Cw n1)):=fun W hW=>HC7.out.up hW
  have HRW:Hid (∀ W,Below X7.heap.size X7 W->RingAt W):=fun W hW=>HR7.out.any hW
  obtain⟨p0,p1,p2⟩:=HF1.out X7 (Below.refl _ _)
  rw[hX7]at p0 p1 p2
  generalize QV5 L n=OA at HJA HAA HA2 HA7 HAL HF1 p1 ⊢
  clear hX7 hbX7 HB17 HB47 HT1 HT4 HT7 HC1 HC4 HC7 HR7 HRA HB27 HB24 HB46 HBX4 HBX1 HBC HCRC HB2 HBA HIN1 HIN2 HWW HWV
  go_wp2_with (go_at_call 9;rw[<-HX7.out];refine(HJA.out _ X7 (HCA7.out _ (Below.refl _ _)) (HRW.out _ (Below.refl _ _))).mono ?_;rintro e9 w8 ⟨vp,lp,rfl,hp8,hc8,hb8⟩;refine Hid.out ?_)
  refine Lib.hid ?_
  obtain⟨ap,cp,rfl,hlp⟩:=ZV8 hp8
  have HP8:=QQ1 hp8.1
  have HK8:=QQ1 hc8
  have HB8:Hid (Below X7.heap.size X7 w8):=hb8
  have hpp:=HJP.out lp hc8
  clear hp8 hc8 hb8 p0 p1 p2 HX7
  obtain⟨p0,p1,p2⟩:=HF4.out w8 HB8.out
  go_wp2_with (go_at_call 9;refine(HJ2.out _ w8 (HCB7.out _ HB8.out) (HRW.out _ HB8.out)).mono ?_;rintro e9 w9 ⟨vq,lq,rfl,hp9,hc9,hb9⟩;refine Hid.out ?_)
  refine Lib.hid ?_
  have HP9:=QQ1 hp9.1
  obtain rfl:=canon_unique HK8.out hc9
  have HB89:Hid (Below w8.heap.size w8 w9):=hb9
  have HB9:Hid (Below X7.heap.size X7 w9):=HB8.out.trans (hb9.mono HB8.out.size)
  clear hp9 hc9 hb9 p0 p1 p2
  obtain⟨p0,p1,p2⟩:=HF7.out w9 HB9.out
  go_wp2_with (go_at_call 9;refine(HJ7.out _ w9 (HCC7.out _ HB9.out) (HRW.out _ HB9.out)).mono ?_;rintro e9 wX ⟨vr,lr,rfl,hpX,hcX,hbX⟩;refine Hid.out ?_)
  refine Lib.hid ?_
  have HPX:=QQ1 hpX.1
  obtain rfl:=canon_unique HK8.out hcX
  have HB9X:Hid (Below w9.heap.size w9 wX):=hbX
  have HBX:Hid (Below X7.heap.size X7 wX):=HB9.out.trans (hbX.mono HB9.out.size)
  clear hpX hcX hbX p0 p1 p2 HJA HJ2 HJ7 HK8 HJP HRW
  have HP8X:Hid (Poly wX wX.heap.size (.slice ap lp.length cp) lp):=(HP8.out.up HB89.out).up HB9X.out
  have HSM:Hid (Calls Tryd.prog 10 #[.slice ap lp.length cp,vq] wX fun e w'=>e=.returned (.bool true)/\Below wX.heap.size wX w'):=(QU3 _ vq lp lp wX hlp HP8X.out (HP9.out.up HB9X.out)).mono fun e w' ⟨h1,h2⟩=>⟨by rw[h1];simp,h2⟩
  go_wp2_with (go_at_call 10;refine HSM.out.mono ?_;rintro e9 wY ⟨rfl,hbY⟩;refine Hid.out ?_)
  refine Lib.hid ?_
  have HBXY:Hid (Below wX.heap.size wX wY):=hbY
  have HBY:Hid (Below X7.heap.size X7 wY):=HBX.out.trans (hbY.mono HBX.out.size)
  have HSR:Hid (Calls Tryd.prog 10 #[.slice ap lp.length cp,vr] wY fun e w'=>e=.returned (.bool true)/\Below wY.heap.size wY w'):=(QU3 _ vr lp lp wY hlp (HP8X.out.up hbY) (HPX.out.up hbY)).mono fun e w' ⟨h1,h2⟩=>⟨by rw[h1];simp,h2⟩
  clear hbY HSM HP8 HP9 HPX HP8X HB89 HB9X HB8 HB9 HBX HBXY
  go_wp2_with (go_at_call 10;refine HSR.out.mono ?_;rintro e9 wZ ⟨rfl,hbZ⟩;refine Hid.out ?_)
  refine Lib.hid ?_
  have HBZ:Hid (Below X7.heap.size X7 wZ):=HBY.out.trans (hbZ.mono HBY.out.size)
  clear hbZ HSR HBY
  obtain⟨p0,p1,p2⟩:=HF1.out wZ HBZ.out
  go_wp2_with (go_at_call 11;refine(HAA.out _ wZ (HCA7.out _ HBZ.out)).mono ?_;rintro e9 y1 ⟨vs,ls,rfl,hps,his,hby1⟩;refine Hid.out ?_)
  refine Lib.hid ?_
  have HPS:=QQ1 hps
  have HIS:=QQ1 his
  have hls:=HAL.out ls his
  have HY1:Hid (Below X7.heap.size X7 y1):=HBZ.out.trans (hby1.mono HBZ.out.size)
  clear hps his hby1 p0 p1 p2 HAA HAL HBZ
  obtain⟨p0,p1,p2⟩:=HF4.out y1 HY1.out
  go_wp2_with (go_at_call 11;refine(HA2.out _ y1 (HCB7.out _ HY1.out)).mono ?_;rintro e9 y2 ⟨vt,lt,rfl,hpt,hit,hby2⟩;refine Hid.out ?_)
  refine Lib.hid ?_
  obtain rfl:=hit.out ls HIS.out
  have HPT:=QQ1 hpt
  have HPS2:Hid (Poly y2 y2.heap.size vs ls):=HPS.out.up hby2
  have HY2:Hid (Below X7.heap.size X7 y2):=HY1.out.trans (hby2.mono HY1.out.size)
  clear hpt hit hby2 p0 p1 p2 HA2 HPS HY1
  obtain⟨p0,p1,p2⟩:=HF7.out y2 HY2.out
  go_wp2_with (go_at_call 11;refine(HA7.out _ y2 (HCC7.out _ HY2.out)).mono ?_;rintro e9 y3 ⟨vu,lu,rfl,hpu,hiu,hby3⟩;refine Hid.out ?_)
  refine Lib.hid ?_
  obtain rfl:=hiu.out ls HIS.out
  have HPU:=QQ1 hpu
  have HPT3:Hid (Poly y3 y3.heap.size vt ls):=HPT.out.up hby3
  have HPS3:Hid (Poly y3 y3.heap.size vs ls):=HPS2.out.up hby3
  have HY3:Hid (Below X7.heap.size X7 y3):=HY2.out.trans (hby3.mono HY2.out.size)
  clear hpu hiu hby3 p0 p1 p2 HA7 HPS2 HPT HY2 HIS
  have HST:Hid (Calls Tryd.prog 10 #[vs,vt] y3 fun e w'=>e=.returned (.bool true)/\Below y3.heap.size y3 w'):=(QU3 vs vt ls ls y3 hls HPS3.out HPT3.out).mono fun e w' ⟨h1,h2⟩=>⟨by rw[h1];simp,h2⟩
  go_wp2_with (go_at_call 10;refine HST.out.mono ?_;rintro e9 y4 ⟨rfl,hby4⟩;refine Hid.out ?_)
  refine Lib.hid ?_
  have HSU:Hid (Calls Tryd.prog 10 #[vs,vu] y4 fun e w'=>e=.returned (.bool true)/\Below y4.heap.size y4 w'):=(QU3 vs vu ls ls y4 hls (HPS3.out.up hby4) (HPU.out.up hby4)).mono fun e w' ⟨h1,h2⟩=>⟨by rw[h1];simp,h2⟩
  have HY4:Hid (Below X7.heap.size X7 y4):=HY3.out.trans (hby4.mono HY3.out.size)
  clear hby4 HST HPS3 HPT3 HPU HY3
  go_wp2_with (go_at_call 10;refine HSU.out.mono ?_;rintro e9 y5 ⟨rfl,hby5⟩;refine Hid.out ?_)
  refine Lib.hid ?_
  have HEND:Hid (Below w.heap.size w y5):=HB07.out.trans ((HY4.out.trans (hby5.mono HY4.out.size)).mono HB07.out.size)
  have hpI:decide ((0:Int)<(lp.length:Int))=true:=decide_eq_true (by omega)
  clear hby5 HSU HY4 HB07
  go_wp2
  go_ret
  exact⟨ret_bool (by simp),HEND.out⟩
 case false=>
  have ewm:IntKind.i64.wrap (-((n:Nat):Int)) = -((n:Nat):Int):=IntWalk.i64_in _ (by omega)
  have HJD:=QQ1 (fun W W3 g hg hW e=>HJC.out W W3 (-((n:Nat):Int)) g hg hW e)
  have HCD:=QQ1 (fun W a5 c5 hr=>HCC.out W a5 c5 (-((n:Nat):Int)) (by simp) hr)
  have HJ7:=QQ1 (HJX.out (-((n:Nat):Int)) (by simp))
  have HA7:=QQ1 (HAX.out (-((n:Nat):Int)) (by simp))
  clear HJC HCC HJX HAX
  obtain⟨Cw,hCw⟩:∃ C,L++[(-((n:Nat):Int))]=C:=⟨_,rfl⟩
  have HCE:=QQ1 hCw
  rw[hCw]at HJD HCD HJ7 HA7
  clear hCw
  obtain⟨nC,hnC⟩:∃ nC,Cw.length=nC:=⟨_,rfl⟩
  have HNC:=QQ1 hnC
  rw[hnC]at HJD HCD
  clear hnC
  have ewn:IntKind.i64.wrap ((n:Int)+1)=((n+1:Nat):Int):=IntWalk.i64_in _ (by omega)
  obtain⟨n1,hn1⟩:∃ n1,n+1=n1:=⟨_,rfl⟩
  have HN1:=QQ1 hn1
  rw[hn1]at HCD ewn HJ7 HA7
  clear hn1
  go_wp2_with (go_at_call 6;refine HCA.out.mono ?_;rintro e9 wA ⟨aA,cA,rfl,hcrA,hbA⟩;refine Hid.out ?_)
  refine Lib.hid ?_
  have HBA:=QQ1 hbA
  have HCRA:=QQ1 hcrA
  clear hbA hcrA HCA
  obtain⟨X1,hX1⟩:∃ X,X=wA.alloc (.cells #[.slice aA L.length cA,.int .i64 (QV5 L n:Nat)] 27):=⟨_,rfl⟩
  have HX1:=QQ1 hX1
  have HBX1:Hid (Below w2.heap.size w2 X1):=HBA.out.trans ((by rw[hX1];exact(Below.refl _ _).alloc (Nat.le_refl _) _:Below wA.heap.size wA X1).mono HBA.out.size)
  have HT1:Hid (X1.heap[wA.heap.size]?=some (.cells #[.slice aA L.length cA,.int .i64 (QV5 L n:Nat)] 27 (0,0))):=(by rw[hX1];exact heap_alloc_new _ _)
  have HC1:Hid (Crs X1 X1.heap.size (.slice aA L.length cA) (QV6 L n)):=(HCRA.out.on (by rw[hX1];exact(Below.refl _ _).alloc (Nat.le_refl _) _)).mono (by rw[hX1];simp)
  clear hX1 HCRA
  go_wp2_with (go_at_call 8;rw[<-HX1.out];refine(HRV.out X1 HBX1.out).mono ?_;rintro e9 w3 ⟨a4,c4,rfl,ho4,hb3⟩;refine Hid.out ?_)
  refine Lib.hid ?_
  have HB3:Hid (Below X1.heap.size X1 w3):=hb3
  have HI4:Hid (InAt w3 w3.heap.size 1 (.slice a4 V.length c4) V.length (QQ3 (QV3 V))):=Xx8 ho4
  clear hb3 ho4 HRV HX1
  have HB23:Hid (Below w2.heap.size w2 w3):=HBX1.out.trans (HB3.out.mono HBX1.out.size)
  obtain⟨X3,hX3⟩:∃ X,X=w3.alloc (.cells #[.slice a3 V.length c3,.slice a2 L.length c2,.slice a4 V.length c4] 22):=⟨_,rfl⟩
  have HX3:=QQ1 hX3
  have HJ3:=QQ1 (HJB.out w3 X3 a4 c4 HB23.out HI4.out hX3)
  have HBX3:Hid (Below w3.heap.size w3 X3):=(by rw[hX3];exact(Below.refl _ _).alloc (Nat.le_refl _) _)
  clear hX3 HJB HI4
  go_wp2_with (go_at_call 7;rw[<-HX3.out];refine HJ3.out.mono ?_;rintro e9 w4 ⟨a5,c5,rfl,hr5,hb4⟩;refine Hid.out ?_)
  refine Lib.hid ?_
  have HB34:Hid (Below X1.heap.size X1 w4):=HB3.out.trans ((HBX3.out.trans (hb4.mono HBX3.out.size)).mono HB3.out.size)
  have HCB4:=QQ1 (HCB.out w4 a5 c5 hr5.out)
  clear hb4 hr5 HCB HJ3 HX3 HBX3 HB3 HB23
  go_wp2_with (go_at_call 6;refine HCB4.out.mono ?_;rintro e9 wB ⟨aB,cB,rfl,hcrB,hbB⟩;refine Hid.out ?_)
  refine Lib.hid ?_
  have HBB:=QQ1 hbB
  have HCRB:=QQ1 hcrB
  clear hbB hcrB HCB4
  obtain⟨X4,hX4⟩:∃ X,X=wB.alloc (.cells #[.slice aB nB cB,.int .i64 (QV5 B n:Nat)] 27):=⟨_,rfl⟩
  have HX4:=QQ1 hX4
  have hbX4:Below wB.heap.size wB X4:=by rw[hX4];exact(Below.refl _ _).alloc (Nat.le_refl _) _
  have HBX4:Hid (Below X1.heap.size X1 X4):=HB34.out.trans ((HBB.out.trans (hbX4.mono HBB.out.size)).mono HB34.out.size)
  have HT4:Hid (X4.heap[wB.heap.size]?=some (.cells #[.slice aB nB cB,.int .i64 (QV5 B n:Nat)] 27 (0,0))):=(by rw[hX4];exact heap_alloc_new _ _)
  have HC4:Hid (Crs X4 X4.heap.size (.slice aB nB cB) (QV6 B n)):=(HCRB.out.on hbX4).mono hbX4.size
  have HB24:Hid (Below w2.heap.size w2 X4):=HBX1.out.trans (HBX4.out.mono HBX1.out.size)
  obtain⟨X6,hX6⟩:∃ X,X=(X4.alloc (.cells #[.int .i64 (-((n:Nat):Int))] 3)).alloc (.cells #[.slice a2 L.length c2,.slice (some ⟨wB.heap.size+1,0,none⟩) 1 1] 22):=⟨_,rfl⟩
  have HX6:=QQ1 hX6
  have HJ6:=QQ1 (HJD.out X4 X6 (wB.heap.size+1) (by rw[hX4];simp) HB24.out hX6)
  have HBX6:Hid (Below X4.heap.size X4 X6):=(by rw[hX6];exact((Below.refl _ _).alloc (Nat.le_refl _) _).alloc (by simp) _)
  clear hX4 hX6 hbX4 HCRB HBB HB34 HJD
  go_wp2_with (go_at_call 7;rw[<-HX4.out,<-HX6.out];refine HJ6.out.mono ?_;rintro e9 w6 ⟨a7,c7,rfl,hr7,hb7⟩;refine Hid.out ?_)
  refine Lib.hid ?_
  have HB46:Hid (Below X4.heap.size X4 w6):=HBX6.out.trans (hb7.mono HBX6.out.size)
  have HCC6:=QQ1 (HCD.out w6 a7 c7 hr7.out)
  clear hb7 hr7 HJ6 HX6 HBX6 HX4 HCD
  go_wp2_with (go_at_call 6;refine HCC6.out.mono ?_;rintro e9 wC ⟨aC,cC,rfl,hcrC,hbC⟩;refine Hid.out ?_)
  refine Lib.hid ?_
  have HBC:=QQ1 hbC
  have HCRC:=QQ1 hcrC
  clear hbC hcrC HCC6
  obtain⟨X7,hX7⟩:∃ X,X=wC.alloc (.cells #[.slice aC nC cC,.int .i64 (QV5 Cw n1:Nat)] 27):=⟨_,rfl⟩
  have HX7:=QQ1 hX7
  have hbX7:Below wC.heap.size wC X7:=by rw[hX7];exact(Below.refl _ _).alloc (Nat.le_refl _) _
  have HB47:Hid (Below X4.heap.size X4 X7):=HB46.out.trans ((HBC.out.trans (hbX7.mono HBC.out.size)).mono HB46.out.size)
  have HB17:Hid (Below X1.heap.size X1 X7):=HBX4.out.trans (HB47.out.mono HBX4.out.size)
  have HT7:Hid (X7.heap[wC.heap.size]?=some (.cells #[.slice aC nC cC,.int .i64 (QV5 Cw n1:Nat)] 27 (0,0))):=(by rw[hX7];exact heap_alloc_new _ _)
  have HC7:Hid (Crs X7 X7.heap.size (.slice aC nC cC) (QV6 Cw n1)):=(HCRC.out.on hbX7).mono hbX7.size
  have HB27:Hid (Below w2.heap.size w2 X7):=HB24.out.trans (HB47.out.mono HB24.out.size)
  have HB07:Hid (Below w.heap.size w X7):=HB2.out.trans (HB27.out.mono HB2.out.size)
  have HR7:Hid (RingAt X7):=HRA.out.any HB07.out
  have HF1:Hid (∀ W,Below X7.heap.size X7 W->W.cell? ⟨wA.heap.size,0,none⟩=some (.slice aA L.length cA)/\W.cell? ⟨wA.heap.size,1,none⟩=some (.int .i64 (QV5 L n:Nat))/\wA.heap.size<W.heap.size):=fun W hW=>by
   have hb:=HB17.out.trans (hW.mono HB17.out.size)
   have g0:=(hb.block _ (Array.getElem?_eq_some_iff.1 HT1.out).1).trans HT1.out
   exact⟨QQ0 g0 rfl,QQ0 g0 rfl,(Array.getElem?_eq_some_iff.1 g0).1⟩
  have HF4:Hid (∀ W,Below X7.heap.size X7 W->W.cell? ⟨wB.heap.size,0,none⟩=some (.slice aB nB cB)/\W.cell? ⟨wB.heap.size,1,none⟩=some (.int .i64 (QV5 B n:Nat))/\wB.heap.size<W.heap.size):=fun W hW=>by
   have hb:=HB47.out.trans (hW.mono HB47.out.size)
   have g0:=(hb.block _ (Array.getElem?_eq_some_iff.1 HT4.out).1).trans HT4.out
   exact⟨QQ0 g0 rfl,QQ0 g0 rfl,(Array.getElem?_eq_some_iff.1 g0).1⟩
  have HF7:Hid (∀ W,Below X7.heap.size X7 W->W.cell? ⟨wC.heap.size,0,none⟩=some (.slice aC nC cC)/\W.cell? ⟨wC.heap.size,1,none⟩=some (.int .i64 (QV5 Cw n1:Nat))/\wC.heap.size<W.heap.size):=fun W hW=>by
   have g0:=(hW.block _ (Array.getElem?_eq_some_iff.1 HT7.out).1).trans HT7.out
   exact⟨QQ0 g0 rfl,QQ0 g0 rfl,(Array.getElem?_eq_some_iff.1 g0).1⟩
  have HCA7:Hid (∀ W,Below X7.heap.size X7 W->Crs W W.heap.size (.slice aA L.length cA) (QV6 L n)):=fun W hW=>HC1.out.up (HB17.out.trans (hW.mono HB17.out.size))
  have HCB7:Hid (∀ W,Below X7.heap.size X7 W->Crs W W.heap.size (.slice aB nB cB) (QV6 B n)):=fun W hW=>HC4.out.up (HB47.out.trans (hW.mono HB47.out.size))
  have HCC7:Hid (∀ W,Below X7.heap.size X7 W->Crs W W.heap.size (.slice aC nC cC) (QV6 Cw n1)):=fun W hW=>HC7.out.up hW
  have HRW:Hid (∀ W,Below X7.heap.size X7 W->RingAt W):=fun W hW=>HR7.out.any hW
  obtain⟨p0,p1,p2⟩:=HF1.out X7 (Below.refl _ _)
  rw[hX7]at p0 p1 p2
  generalize QV5 L n=OA at HJA HAA HA2 HA7 HAL HF1 p1 ⊢
  clear hX7 hbX7 HB17 HB47 HT1 HT4 HT7 HC1 HC4 HC7 HR7 HRA HB27 HB24 HB46 HBX4 HBX1 HBC HCRC HB2 HBA HIN1 HIN2 HWW HWV
  go_wp2_with (go_at_call 9;rw[<-HX7.out];refine(HJA.out _ X7 (HCA7.out _ (Below.refl _ _)) (HRW.out _ (Below.refl _ _))).mono ?_;rintro e9 w8 ⟨vp,lp,rfl,hp8,hc8,hb8⟩;refine Hid.out ?_)
  refine Lib.hid ?_
  obtain⟨ap,cp,rfl,hlp⟩:=ZV8 hp8
  have HP8:=QQ1 hp8.1
  have HK8:=QQ1 hc8
  have HB8:Hid (Below X7.heap.size X7 w8):=hb8
  have hpp:=HJP.out lp hc8
  clear hp8 hc8 hb8 p0 p1 p2 HX7
  obtain⟨p0,p1,p2⟩:=HF4.out w8 HB8.out
  go_wp2_with (go_at_call 9;refine(HJ2.out _ w8 (HCB7.out _ HB8.out) (HRW.out _ HB8.out)).mono ?_;rintro e9 w9 ⟨vq,lq,rfl,hp9,hc9,hb9⟩;refine Hid.out ?_)
  refine Lib.hid ?_
  have HP9:=QQ1 hp9.1
  obtain rfl:=canon_unique HK8.out hc9
  have HB89:Hid (Below w8.heap.size w8 w9):=hb9
  have HB9:Hid (Below X7.heap.size X7 w9):=HB8.out.trans (hb9.mono HB8.out.size)
  clear hp9 hc9 hb9 p0 p1 p2
  obtain⟨p0,p1,p2⟩:=HF7.out w9 HB9.out
  go_wp2_with (go_at_call 9;refine(HJ7.out _ w9 (HCC7.out _ HB9.out) (HRW.out _ HB9.out)).mono ?_;rintro e9 wX ⟨vr,lr,rfl,hpX,hcX,hbX⟩;refine Hid.out ?_)
  refine Lib.hid ?_
  have HPX:=QQ1 hpX.1
  obtain rfl:=canon_unique HK8.out hcX
  have HB9X:Hid (Below w9.heap.size w9 wX):=hbX
  have HBX:Hid (Below X7.heap.size X7 wX):=HB9.out.trans (hbX.mono HB9.out.size)
  clear hpX hcX hbX p0 p1 p2 HJA HJ2 HJ7 HK8 HJP HRW
  have HP8X:Hid (Poly wX wX.heap.size (.slice ap lp.length cp) lp):=(HP8.out.up HB89.out).up HB9X.out
  have HSM:Hid (Calls Tryd.prog 10 #[.slice ap lp.length cp,vq] wX fun e w'=>e=.returned (.bool true)/\Below wX.heap.size wX w'):=(QU3 _ vq lp lp wX hlp HP8X.out (HP9.out.up HB9X.out)).mono fun e w' ⟨h1,h2⟩=>⟨by rw[h1];simp,h2⟩
  go_wp2_with (go_at_call 10;refine HSM.out.mono ?_;rintro e9 wY ⟨rfl,hbY⟩;refine Hid.out ?_)
  refine Lib.hid ?_
  have HBXY:Hid (Below wX.heap.size wX wY):=hbY
  have HBY:Hid (Below X7.heap.size X7 wY):=HBX.out.trans (hbY.mono HBX.out.size)
  have HSR:Hid (Calls Tryd.prog 10 #[.slice ap lp.length cp,vr] wY fun e w'=>e=.returned (.bool true)/\Below wY.heap.size wY w'):=(QU3 _ vr lp lp wY hlp (HP8X.out.up hbY) (HPX.out.up hbY)).mono fun e w' ⟨h1,h2⟩=>⟨by rw[h1];simp,h2⟩
  clear hbY HSM HP8 HP9 HPX HP8X HB89 HB9X HB8 HB9 HBX HBXY
  go_wp2_with (go_at_call 10;refine HSR.out.mono ?_;rintro e9 wZ ⟨rfl,hbZ⟩;refine Hid.out ?_)
  refine Lib.hid ?_
  have HBZ:Hid (Below X7.heap.size X7 wZ):=HBY.out.trans (hbZ.mono HBY.out.size)
  clear hbZ HSR HBY
  obtain⟨p0,p1,p2⟩:=HF1.out wZ HBZ.out
  go_wp2_with (go_at_call 11;refine(HAA.out _ wZ (HCA7.out _ HBZ.out)).mono ?_;rintro e9 y1 ⟨vs,ls,rfl,hps,his,hby1⟩;refine Hid.out ?_)
  refine Lib.hid ?_
  have HPS:=QQ1 hps
  have HIS:=QQ1 his
  have hls:=HAL.out ls his
  have HY1:Hid (Below X7.heap.size X7 y1):=HBZ.out.trans (hby1.mono HBZ.out.size)
  clear hps his hby1 p0 p1 p2 HAA HAL HBZ
  obtain⟨p0,p1,p2⟩:=HF4.out y1 HY1.out
  go_wp2_with (go_at_call 11;refine(HA2.out _ y1 (HCB7.out _ HY1.out)).mono ?_;rintro e9 y2 ⟨vt,lt,rfl,hpt,hit,hby2⟩;refine Hid.out ?_)
  refine Lib.hid ?_
  obtain rfl:=hit.out ls HIS.out
  have HPT:=QQ1 hpt
  have HPS2:Hid (Poly y2 y2.heap.size vs ls):=HPS.out.up hby2
  have HY2:Hid (Below X7.heap.size X7 y2):=HY1.out.trans (hby2.mono HY1.out.size)
  clear hpt hit hby2 p0 p1 p2 HA2 HPS HY1
  obtain⟨p0,p1,p2⟩:=HF7.out y2 HY2.out
  go_wp2_with (go_at_call 11;refine(HA7.out _ y2 (HCC7.out _ HY2.out)).mono ?_;rintro e9 y3 ⟨vu,lu,rfl,hpu,hiu,hby3⟩;refine Hid.out ?_)
  refine Lib.hid ?_
  obtain rfl:=hiu.out ls HIS.out
  have HPU:=QQ1 hpu
  have HPT3:Hid (Poly y3 y3.heap.size vt ls):=HPT.out.up hby3
  have HPS3:Hid (Poly y3 y3.heap.size vs ls):=HPS2.out.up hby3
  have HY3:Hid (Below X7.heap.size X7 y3):=HY2.out.trans (hby3.mono HY2.out.size)
  clear hpu hiu hby3 p0 p1 p2 HA7 HPS2 HPT HY2 HIS
  have HST:Hid (Calls Tryd.prog 10 #[vs,vt] y3 fun e w'=>e=.returned (.bool true)/\Below y3.heap.size y3 w'):=(QU3 vs vt ls ls y3 hls HPS3.out HPT3.out).mono fun e w' ⟨h1,h2⟩=>⟨by rw[h1];simp,h2⟩
  go_wp2_with (go_at_call 10;refine HST.out.mono ?_;rintro e9 y4 ⟨rfl,hby4⟩;refine Hid.out ?_)
  refine Lib.hid ?_
  have HSU:Hid (Calls Tryd.prog 10 #[vs,vu] y4 fun e w'=>e=.returned (.bool true)/\Below y4.heap.size y4 w'):=(QU3 vs vu ls ls y4 hls (HPS3.out.up hby4) (HPU.out.up hby4)).mono fun e w' ⟨h1,h2⟩=>⟨by rw[h1];simp,h2⟩
  have HY4:Hid (Below X7.heap.size X7 y4):=HY3.out.trans (hby4.mono HY3.out.size)
  clear hby4 HST HPS3 HPT3 HPU HY3
  go_wp2_with (go_at_call 10;refine HSU.out.mono ?_;rintro e9 y5 ⟨rfl,hby5⟩;refine Hid.out ?_)
  refine Lib.hid ?_
  have HEND:Hid (Below w.heap.size w y5):=HB07.out.trans ((HY4.out.trans (hby5.mono HY4.out.size)).mono HB07.out.size)
  have hpI:decide ((0:Int)<(lp.length:Int))=true:=decide_eq_true (by omega)
  clear hby5 HSU HY4 HB07
  go_wp2
  go_ret
  exact⟨ret_bool (by simp),HEND.out⟩
end Go.Proofs.YtjcagkgpbcdghaaDoor.Poly

/- Several texts of the proof, one behind the other. -/
import Derived.Test.YtagaajlbkfkaiaaH6P
import Derived.Test.YtagaajlbkfkaiaaMV5
import Derived.Test.YtagaajlbkfkaiaaW5P
import Derived.Deep.RegionHeld
import Derived.Test.YtagaajlbkfkaiaaMVjP
import Derived.Test.YtagaajlbkfkaiaaMVl
import Derived.Test.YtagaajlbkfkaiaaF2P
import Derived.Test.YtagaajlbkfkaiaaMV6P
import Derived.Test.YtagaajlbkfkaiaaOmP
import Derived.Test.YtagaajlbkfkaiaaMV7
import Derived.Test.YtagaajlbkfkaiaaMV9b
import Derived.Deep.QuietTactic
import Derived.BigQuiet
import Derived.Test.YtagaajlbkfkaiaaTK3P
/- The walks of ref.heightOf, ref.curlAt and ref.fewLoops. Made by genme1.py. -/
namespace Go.Proofs.Ytagaajlbkfkaiaa
open Go.RowKit
def hgt (C:List Cr) (x:Nat):Nat:=enS C x true%2+enS C x false%2
def caB (C:List Cr) (k:Nat):Bool:=(List.range 4).any fun s=>decide ((C.getD k Cr.none).arc s=(C.getD k Cr.none).arc ((s+1)%4))
end Go.Proofs.Ytagaajlbkfkaiaa
/- Moves: the walk of the closure of bench.pull, and of slices.ContainsFunc over rings of darts. Made by genmw3.py. -/
namespace Go.Proofs.Ytagaajlbkfkaiaa
open Go.RowKit
set_option maxHeartbeats 4000000
set_option maxRecDepth 100000
def jlB (C:List Cr) (x y:Nat) (l:List Nat):Bool:=decide (l.length=2)&&((decide (dC C (l.getD 0 0)=x)&&decide (dC C (l.getD 1 0)=y))||(decide (dC C (l.getD 0 0)=y)&&decide (dC C (l.getD 1 0)=x)))&&(topB C l&&botB C l)
def RingAt (w:World) (g:Nat) (C:List Cr) (l:List Nat):Prop:=g<w.heap.size/\l.length<=1000/\∀ k,k<l.length->(1<=l.getD k 0/\l.getD k 0<=4*C.length)/\w.cell? ⟨g,k*2,none⟩=some (.int .i64 (dA (l.getD k 0):Nat))/\w.cell? ⟨g,k*2+1,none⟩=some (.bool (dB (l.getD k 0)))
theorem RingAt.on {w w':World} {g:Nat} {C:List Cr} {l:List Nat} (h:RingAt w g C l) (hb:Below w.heap.size w w'):RingAt w' g C l:=
 ⟨Nat.lt_of_lt_of_le h.1 hb.size,h.2.1,fun k hk=>⟨(h.2.2 k hk).1,bcell hb h.1 (h.2.2 k hk).2.1,bcell hb h.1 (h.2.2 k hk).2.2⟩⟩
def PbAt (a:Option Addr) (cap:Nat) (C:List Cr) (loops:Int) (gF cF gT cT:Nat) (k ua va:Int) (x y:Nat) (ub vb ov:Bool) (pb pm:Nat) (W:World):Prop:=W.heap[pb]?=some (.cells #[.slice a C.length cap,.int .i64 loops,.slice (some ⟨gF,0,none⟩) (2*C.length+1) cF,.slice (some ⟨gT,0,none⟩) (2*C.length+1) cT] 63 (0,0))/\W.heap[pm]?=some (.cells #[.int .i64 k,.int .i64 (x:Nat),.int .i64 (y:Nat),.int .i64 ua,.bool ub,.int .i64 va,.bool vb,.bool ov] 28 (0,0))
theorem joins_at (a:Option Addr) (cap:Nat) (C:List Cr) (loops:Int) (gF cF gT cT:Nat) (g c x y:Nat) (l:List Nat) (w:World) (hm:mayD C loops=true) (hd:Dr w a cap C gF gT) (hr:RingAt w g C l):
    Calls Try.prog 113 #[drV a cap C loops gF cF gT cT,.slice (some ⟨g,0,none⟩) l.length c,.int .i64 (x:Nat),.int .i64 (y:Nat)] w fun e w'=>e=.returned (.bool (decide (l.length=2)&&((decide (dC C (l.getD 0 0)=x)&&decide (dC C (l.getD 1 0)=y))||(decide (dC C (l.getD 0 0)=y)&&decide (dC C (l.getD 1 0)=x)))))/\Below w.heap.size w w':=by
 by_cases h2:l.length=2
 · have r0:=hr.2.2 0 (by omega)
   have r1:=hr.2.2 1 (by omega)
   rw[h2]
   exact joins_yes a cap C loops gF cF gT cT g c (l.getD 0 0) (l.getD 1 0) x y w hm hd hr.1 r0.1 r1.1 ⟨r0.2.1,r0.2.2,r1.2.1,r1.2.2⟩
 · rw[decide_eq_false h2]
   exact joins_no a cap C loops gF cF gT cT (some ⟨g,0,none⟩) l.length c (x:Nat) (y:Nat) w h2
theorem pullIn_any (a:Option Addr) (cap:Nat) (C:List Cr) (loops:Int) (gF cF gT cT:Nat) (k ua va:Int) (x y:Nat) (ub vb ov:Bool) (pb pm g c:Nat) (l:List Nat) (w:World) (hm:mayD C loops=true) (hd:Dr w a cap C gF gT) (hr:RingAt w g C l) (hp:PbAt a cap C loops gF cF gT cT k ua va x y ub vb ov pb pm w):
    Calls Try.prog 112 #[.slice (some ⟨g,0,none⟩) l.length c,.pointer (some ⟨pb,0,none⟩),.pointer (some ⟨pm,0,none⟩)] w fun e w'=>e=.returned (.bool (jlB C x y l))/\Below w.heap.size w w':=by
 have HJ:=QQ1 (joins_at a cap C loops gF cF gT cT g c x y l w hm hd hr)
 have HLA:Hid (∀ W,Below w.heap.size w W->Calls Try.prog 114 #[drV a cap C loops gF cF gT cT,.slice (some ⟨g,0,none⟩) l.length c] W fun e w'=>e=.returned (.bool (topB C l&&botB C l))/\Below W.heap.size W w'):=fun W hW=>by
  have hr2:=hr.on hW
  exact layered_any a cap C loops gF cF gT cT g l.length c l W hm (hd.on hW) hr2.1 rfl hr2.2.1 (fun j hj=>(hr2.2.2 j hj).1) (fun j hj=>(hr2.2.2 j hj).2)
 unfold jlB
 obtain⟨J,hJ⟩:∃ J,(decide (l.length=2)&&((decide (dC C (l.getD 0 0)=x)&&decide (dC C (l.getD 1 0)=y))||(decide (dC C (l.getD 0 0)=y)&&decide (dC C (l.getD 1 0)=x))))=J:=⟨_,rfl⟩
 rw[hJ]at HJ ⊢
 obtain⟨T,hT⟩:∃ T,(topB C l&&botB C l)=T:=⟨_,rfl⟩
 rw[hT]at HLA ⊢
 obtain⟨n,hn⟩:∃ n,l.length=n:=⟨_,rfl⟩
 rw[hn]at HJ HLA ⊢
 have HBX:Hid (∀ W,Below w.heap.size w W->PbAt a cap C loops gF cF gT cT k ua va x y ub vb ov pb pm W/\pb<W.heap.size/\pm<W.heap.size):=fun W hW=>by
  have l0:=(Array.getElem?_eq_some_iff.1 hp.1).1
  have l1:=(Array.getElem?_eq_some_iff.1 hp.2).1
  exact⟨⟨(hW.block _ l0).trans hp.1,(hW.block _ l1).trans hp.2⟩,by have:=hW.size;omega,by have:=hW.size;omega⟩
 obtain⟨⟨px,py⟩,pl,pl2⟩:=HBX.out w (Below.refl _ _)
 have pb0:w.cell? ⟨pb,0,none⟩=some (.slice a C.length cap):=QQ0 px rfl
 have pb1:w.cell? ⟨pb,1,none⟩=some (.int .i64 loops):=QQ0 px rfl
 have pb2:w.cell? ⟨pb,2,none⟩=some (.slice (some ⟨gF,0,none⟩) (2*C.length+1) cF):=QQ0 px rfl
 have pb3:w.cell? ⟨pb,3,none⟩=some (.slice (some ⟨gT,0,none⟩) (2*C.length+1) cT):=QQ0 px rfl
 have pm0:w.cell? ⟨pm,0,none⟩=some (.int .i64 k):=QQ0 py rfl
 have pm1:w.cell? ⟨pm,1,none⟩=some (.int .i64 (x:Nat)):=QQ0 py rfl
 have pm2:w.cell? ⟨pm,2,none⟩=some (.int .i64 (y:Nat)):=QQ0 py rfl
 have pm3:w.cell? ⟨pm,3,none⟩=some (.int .i64 ua):=QQ0 py rfl
 have pm4:w.cell? ⟨pm,4,none⟩=some (.bool ub):=QQ0 py rfl
 have pm5:w.cell? ⟨pm,5,none⟩=some (.int .i64 va):=QQ0 py rfl
 have pm6:w.cell? ⟨pm,6,none⟩=some (.bool vb):=QQ0 py rfl
 have pm7:w.cell? ⟨pm,7,none⟩=some (.bool ov):=QQ0 py rfl
 unfold drV at HJ HLA
 clear hJ hT hn hm hd hr hp px py
 cases J with
 |false=>
  go_enter Try.func112,Try.ntmps112
  go_wp2_with (go_at_call 113;refine HJ.out.mono ?_;rintro e9 w3 ⟨rfl,hb3⟩)
  go_ret
  exact⟨rfl,hb3⟩
 | true =>
  go_enter Try.func112,Try.ntmps112
  go_wp2_with (first
   | (go_at_call 113; refine HJ.out.mono ?_; rintro e9 w3 ⟨rfl, hb3⟩
      have HB3:=QQ1 hb3
      obtain⟨⟨qx,qy⟩,ql,ql2⟩:=HBX.out w3 hb3
      have qb0:w3.cell? ⟨pb,0,none⟩=some (.slice a C.length cap):=QQ0 qx rfl
      have qb1:w3.cell? ⟨pb,1,none⟩=some (.int .i64 loops):=QQ0 qx rfl
      have qb2:w3.cell? ⟨pb,2,none⟩=some (.slice (some ⟨gF,0,none⟩) (2*C.length+1) cF):=QQ0 qx rfl
      have qb3:w3.cell? ⟨pb,3,none⟩=some (.slice (some ⟨gT,0,none⟩) (2*C.length+1) cT):=QQ0 qx rfl
      have qm0:w3.cell? ⟨pm,0,none⟩=some (.int .i64 k):=QQ0 qy rfl
      have qm1:w3.cell? ⟨pm,1,none⟩=some (.int .i64 (x:Nat)):=QQ0 qy rfl
      have qm2:w3.cell? ⟨pm,2,none⟩=some (.int .i64 (y:Nat)):=QQ0 qy rfl
      have qm3:w3.cell? ⟨pm,3,none⟩=some (.int .i64 ua):=QQ0 qy rfl
      have qm4:w3.cell? ⟨pm,4,none⟩=some (.bool ub):=QQ0 qy rfl
      have qm5:w3.cell? ⟨pm,5,none⟩=some (.int .i64 va):=QQ0 qy rfl
      have qm6:w3.cell? ⟨pm,6,none⟩=some (.bool vb):=QQ0 qy rfl
      have qm7:w3.cell? ⟨pm,7,none⟩=some (.bool ov):=QQ0 qy rfl
      clear hb3 qx qy)
   | (go_at_call 114; refine (HLA.out _ HB3.out).mono ?_; rintro e9 w4 ⟨rfl, hb4⟩
      have HB4:=QQ1 (HB3.out.trans (hb4.mono HB3.out.size))
      clear hb4))
  go_ret
  exact⟨rfl,HB4.out⟩
def RingsR (w:World) (v:Value) (C:List Cr) (L:List (List Nat)):Prop:=∃ a cap,v=.slice a L.length cap/\(0<L.length->∃ b off,a=some ⟨b,off,none⟩/\b<w.heap.size/\∀ j,j<L.length->∃ g c,w.cell? ⟨b,off+j,none⟩=some (.slice (some ⟨g,0,none⟩) (L.getD j []).length c)/\RingAt w g C (L.getD j []))
theorem RingsR.on {w w':World} {v:Value} {C:List Cr} {L:List (List Nat)} (h:RingsR w v C L) (hb:Below w.heap.size w w'):RingsR w' v C L:=by
 obtain⟨a,cap,rfl,f⟩:=h
 refine⟨a,cap,rfl,fun h0=>?_⟩
 obtain⟨b,off,rfl,hlt,hc⟩:=f h0
 refine⟨b,off,rfl,Nat.lt_of_lt_of_le hlt hb.size,fun j hj=>?_⟩
 obtain⟨g,c,h1,h2⟩:=hc j hj
 exact⟨g,c,bcell hb hlt h1,h2.on hb⟩
theorem QV9 {w:World} {B:Nat} {v:Value} {C:List Cr} {loops:Int} (hm:mayD C loops=true) (h:DartsOwn w B v (QQ3 C)):RingsR w v C (QQ3 C):=by
 have hf:=QX6 hm
 have h16:=QK4 hm
 obtain⟨a,cap,rfl,f⟩:=h.rings (fun j hj=>(hf.2 j hj).1)
 refine⟨a,cap,rfl,fun h0=>?_⟩
 obtain⟨b,off,rfl,hlt,-,hc⟩:=f h0
 refine⟨b,off,rfl,hlt,fun j hj=>?_⟩
 obtain⟨g,c,h1,h2,-,h3⟩:=hc j hj
 have hj2:=hf.2 j hj
 exact⟨g,c,h1,h2,by omega,fun k hk=>⟨hj2.2.2 k hk,h3 k hk⟩⟩
theorem indexRings_any (a:Option Addr) (cap:Nat) (C:List Cr) (loops:Int) (gF cF gT cT:Nat) (k ua va:Int) (x y:Nat) (ub vb ov:Bool) (pb pm:Nat) (v:Value) (L:List (List Nat)) (w:World) (hm:mayD C loops=true) (hd:Dr w a cap C gF gT) (hl:L.length<=1000) (hr:RingsR w v C L) (hp:PbAt a cap C loops gF cF gT cT k ua va x y ub vb ov pb pm w):
    Calls Try.prog 125 #[v,.func (.func 112) #[] #[.pointer (some ⟨pb,0,none⟩),.pointer (some ⟨pm,0,none⟩)]] w fun e w'=>∃ r:Int,e=.returned (.int .i64 r)/\decide (0<=r)=L.any (jlB C x y)/\Below w.heap.size w w':=by
 have HR:=QQ1 hr
 have HIN:Hid (∀ (g c:Nat) (l:List Nat) (W:World),Below w.heap.size w W->RingAt W g C l->Calls Try.prog 112 #[.slice (some ⟨g,0,none⟩) l.length c,.pointer (some ⟨pb,0,none⟩),.pointer (some ⟨pm,0,none⟩)] W fun e w'=>e=.returned (.bool (jlB C x y l))/\Below W.heap.size W w'):=fun g c l W hW hrr=>
  pullIn_any a cap C loops gF cF gT cT k ua va x y ub vb ov pb pm g c l W hm (hd.on hW) hrr ⟨(hW.block _ (Array.getElem?_eq_some_iff.1 hp.1).1).trans hp.1,(hW.block _ (Array.getElem?_eq_some_iff.1 hp.2).1).trans hp.2⟩
 obtain⟨av,cv,rfl,-⟩:=hr
 obtain⟨m,hm2⟩:∃ m,L.length=m:=⟨_,rfl⟩
 have HM:=QQ1 hm2
 rw[hm2]at hl HR ⊢
 clear hm2 hm hd hp
 go_enter Try.func125,Try.ntmps125
 go_wp2
 go_loopw [8] (fun v8 wr=>∃ i:Nat,i<=m/\v8=.int .i64 (i:Nat)/\Hid ((L.take i).any (jlB C x y)=false)/\Below w.heap.size w wr) (fun v8 _=>m-(intOf v8).toNat)
 case atStart=>exact⟨0,Nat.zero_le _,rfl,rfl,Below.refl _ _⟩
 case round=>
  obtain⟨i,him,rfl,hno,hb⟩:=hrel
  by_cases hil:i<m
  · have hiI:(i:Int)<(m:Int):=by omega
    have hiL:i<L.length:=by rw[HM.out];exact hil
    obtain⟨a0,c0,e0,f0⟩:=HR.out.on hb
    rw[HM.out]at e0
    injection e0 with e1 e2 e3
    obtain⟨b,off,ea,hbw,hc⟩:=f0 (by omega)
    obtain⟨g,c,h1,h2⟩:=hc i hiL
    have HX:Hid ((L.take (i+1)).any (jlB C x y)=((L.take i).any (jlB C x y)||jlB C x y (L.getD i []))):=(by rw[List.take_add_one,List.getElem?_eq_getElem hiL,List.any_append,List.getD_eq_getElem?_getD,List.getElem?_eq_getElem hiL];simp:(L.take (i+1)).any (jlB C x y)=_)
    have HS:Hid (jlB C x y (L.getD i [])=true->L.any (jlB C x y)=true):=fun q=>List.any_eq_true.2 ⟨L.getD i [],by rw[List.getD_eq_getElem?_getD,List.getElem?_eq_getElem hiL];exact List.getElem_mem hiL,q⟩
    have HN:=QQ1 (HIN.out g c (L.getD i []) wr hb h2)
    generalize L.getD i []=l at h1 h2 HX HS HN
    obtain⟨n,hn⟩:∃ n,l.length=n:=⟨_,rfl⟩
    rw[hn]at h1 HN
    have ea2:av=some ⟨b,off,none⟩:=e1.trans ea
    subst ea2
    clear e1 e2 e3 ea hc h2 hn f0
    cases hb0:jlB C x y l with
    |true=>
     have HA:=hidB (HS.out hb0)
     rw[hb0]at HN
     clear hb0 HS HX
     go_wp2_with (go_at_call 112;refine HN.out.mono ?_;rintro e9 w9 ⟨rfl,hb9⟩;refine Hid.out ?_)
     refine Lib.hid ?_
     go_wp2
     go_ret
     exact⟨_,rfl,by rw[HA.out];exact decide_eq_true (by omega),hb.trans (hb9.mono hb.size)⟩
    |false=>
     have HA:=hidB (show(L.take (i+1)).any (jlB C x y)=false by rw[HX.out,hno.out,hb0];rfl)
     rw[hb0]at HN
     clear hb0 HS HX
     go_wp2_with (go_at_call 112;refine HN.out.mono ?_;rintro e9 w9 ⟨rfl,hb9⟩;refine Hid.out ?_)
     refine Lib.hid ?_
     go_wp2
     go_roundw
     case rel=>exact⟨i+1,by omega,by go_num,HA.out,hb.trans (hb9.mono hb.size)⟩
     case measure=>simp only[intOf];omega
  · obtain rfl:i=m:=by omega
    have HA:=hidB (show L.any (jlB C x y)=false by have:=hno.out;rw[<-HM.out,List.take_length]at this;exact this)
    go_wp2
    go_ret
    exact⟨_,rfl,by rw[HA.out];rfl,hb⟩
theorem QU2 (a:Option Addr) (cap:Nat) (C:List Cr) (loops:Int) (gF cF gT cT:Nat) (k ua va:Int) (x y:Nat) (ub vb ov:Bool) (pb pm:Nat) (v:Value) (L:List (List Nat)) (w:World) (hm:mayD C loops=true) (hd:Dr w a cap C gF gT) (hl:L.length<=1000) (hr:RingsR w v C L) (hp:PbAt a cap C loops gF cF gT cT k ua va x y ub vb ov pb pm w):
    Calls Try.prog 111 #[v,.func (.func 112) #[] #[.pointer (some ⟨pb,0,none⟩),.pointer (some ⟨pm,0,none⟩)]] w fun e w'=>e=.returned (.bool (L.any (jlB C x y)))/\Below w.heap.size w w':=by
 have HI:=QQ1 (indexRings_any a cap C loops gF cF gT cT k ua va x y ub vb ov pb pm v L w hm hd hl hr hp)
 obtain⟨av,cv,rfl,-⟩:=hr
 generalize L.any (jlB C x y)=bb at HI ⊢
 generalize L.length=m at HI ⊢
 clear hm hd hp hl
 go_enter Try.func111,Try.ntmps111
 go_wp2_with (go_at_call 125;refine HI.out.mono ?_;rintro e9 w2 ⟨r,rfl,hr,hb2⟩;refine Hid.out ?_)
 refine Lib.hid ?_
 have HR:=QQ1 hr
 clear hr
 go_wp2
 go_ret
 exact⟨by rw[<-HR.out];rfl,hb2⟩
end Go.Proofs.Ytagaajlbkfkaiaa
/- The walk of ref.pullable. Made by genme2.py. -/
namespace Go.Proofs.Ytagaajlbkfkaiaa
open Go.RowKit
def jlR (C:List Cr) (x y:Nat) (l:List Nat):Bool:=decide (l.length=2)&&(((decide (dC C (l.getD 0 0)=x)&&decide (dC C (l.getD 1 0)=y))||(decide (dC C (l.getD 0 0)=y)&&decide (dC C (l.getD 1 0)=x)))&&((decide (hgt C (dA (l.getD 0 0))=2)&&decide (hgt C (dA (l.getD 1 0))=0))||(decide (hgt C (dA (l.getD 0 0))=0)&&decide (hgt C (dA (l.getD 1 0))=2))))
theorem jl_same (C:List Cr) (x y:Nat) (l:List Nat):jlR C x y l=jlB C x y l:=by
 unfold jlR jlB
 by_cases h2:l.length=2
 · obtain⟨u,v,rfl⟩:∃ u v,l=[u,v]:=by
     match l,h2 with
     |[u,v],_=>exact⟨u,v,rfl⟩
   rw[decide_eq_true h2,Bool.true_and,Bool.true_and]
   congr 1
   have e0:[u,v].getD 0 0=u:=rfl
   have e1:[u,v].getD 1 0=v:=rfl
   rw[e0,e1]
   unfold topB botB hiB hgt
   simp only[List.any_cons,List.any_nil,Bool.or_false]
   generalize enS C (dA u) true=a
   generalize enS C (dA u) false=b
   generalize enS C (dA v) true=c
   generalize enS C (dA v) false=d
   rcases Nat.mod_two_eq_zero_or_one a with h1|h1<;>rcases Nat.mod_two_eq_zero_or_one b with h3|h3<;>rcases Nat.mod_two_eq_zero_or_one c with h4|h4<;>rcases Nat.mod_two_eq_zero_or_one d with h5|h5<;>rw[h1,h3,h4,h5]<;>decide
 · rw[decide_eq_false h2]
   rfl
end Go.Proofs.Ytagaajlbkfkaiaa
/- The walk of ref.set. Made by genme3.py. -/
namespace Go.Proofs.Ytagaajlbkfkaiaa
open Go.RowKit
def Cr.at (x:Cr) (k:Nat) (v:Int):Cr:=if k=0 then⟨v,x.b,x.c,x.d,x.plus⟩ else if k=1 then⟨x.a,v,x.c,x.d,x.plus⟩ else if k=2 then⟨x.a,x.b,v,x.d,x.plus⟩ else⟨x.a,x.b,x.c,v,x.plus⟩
def setL (C:List Cr) (i k:Nat) (v:Int):List Cr:=C.set i ((C.getD i Cr.none).at k v)
theorem QK8 (C:List Cr) (i k:Nat) (v:Int):(setL C i k v).length=C.length:=List.length_set
end Go.Proofs.Ytagaajlbkfkaiaa
/- The walk of ref.curlOf, where it refuses. Made by genme4.py. -/
namespace Go.Proofs.Ytagaajlbkfkaiaa
open Go.RowKit
end Go.Proofs.Ytagaajlbkfkaiaa
/- The walk of ref.curlOf, where it may be done. Made by genme5.py. -/
namespace Go.Proofs.Ytagaajlbkfkaiaa
open Go.RowKit
end Go.Proofs.Ytagaajlbkfkaiaa
/- Spots with other arcs: the program's map against the reference's set, one after another. -/
namespace Go.Proofs.Ytagaajlbkfkaiaa
open Go.RowKit
def putF (F:Nat->Option Int) (s:Nat) (y:Int):Nat->Option Int:=fun z=>if z=s then some y else F z
theorem relN_get (F:Nat->Option Int) (C:List Cr) (n q:Nat) (h:q<n):(relN F C n).getD q Cr.none=relX F q (C.getD q Cr.none):=by
 unfold relN
 rw[List.getD_eq_getElem?_getD,List.getElem?_map,List.getElem?_range h]
 rfl
theorem relX_other (F:Nat->Option Int) (i s q:Nat) (v:Int) (x:Cr) (hs:s<4) (h:q≠i):relX (putF F (4*i+4+s) v) q x=relX F q x:=by
 have e:∀ r,r<4->putF F (4*i+4+s) v (4*q+4+r)=F (4*q+4+r):=fun r hr=>by
  unfold putF
  exact if_neg (by omega)
 have e0:=e 0 (by omega)
 rw[Nat.add_zero]at e0
 unfold relX
 rw[e0,e 1 (by omega),e 2 (by omega),e 3 (by omega)]
theorem relX_same (F:Nat->Option Int) (i s:Nat) (v:Int) (x:Cr) (hs:s<4):relX (putF F (4*i+4+s) v) i x=(relX F i x).at s v:=by
 have h4:s=0∨s=1∨s=2∨s=3:=by omega
 rcases h4 with rfl|rfl|rfl|rfl<;>simp[relX,putF,Cr.at]
theorem relN_put (F:Nat->Option Int) (C:List Cr) (n i s:Nat) (v:Int) (hi:i<n) (hs:s<4):relN (putF F (4*i+4+s) v) C n=setL (relN F C n) i s v:=by
 apply List.ext_getElem?
 intro q
 unfold setL
 by_cases hq:q<n
 · by_cases e:q=i
   · subst e
     rw[List.getElem?_set_self (by rw[relN_len];exact hq),relN_get F C n q hq,<-relX_same F q s v _ hs]
     unfold relN
     rw[List.getElem?_map,List.getElem?_range hq]
     rfl
   · rw[List.getElem?_set_ne (fun h=>e h.symm)]
     unfold relN
     rw[List.getElem?_map,List.getElem?_map,List.getElem?_range hq]
     exact congrArg some (relX_other F i s q v _ hs e)
 · rw[List.getElem?_eq_none (by rw[relN_len];omega),List.getElem?_eq_none (by rw[List.length_set,relN_len];omega)]
theorem relN_none (C:List Cr):relN (fun _=>none) C C.length=C:=by
 apply List.ext_getElem?
 intro q
 unfold relN
 by_cases hq:q<C.length
 · rw[List.getElem?_map,List.getElem?_range hq,List.getElem?_eq_getElem hq]
   have e:C.getD q Cr.none=C[q]:=by rw[List.getD_eq_getElem?_getD,List.getElem?_eq_getElem hq];rfl
   show some (relX (fun _=>none) q (C.getD q Cr.none))=some C[q]
   rw[e]
   rfl
 · rw[List.getElem?_eq_none (by simp;omega),List.getElem?_eq_none (by omega)]
theorem one1_put (s:Nat) (y:Int):one1 s y=putF (fun _=>none) s y:=rfl
theorem curl_spots {C:List Cr} {loops:Int} (hm:mayD C loops=true) (x:Nat) (v:Int) (h1:1<=x) (h2:x<=2*C.length):relN (one1 (spN C x) v) C C.length=setL C (toC C x) (toS C x) v:=by
 have h:=(QJ0 hm x h1 h2).2
 rw[one1_put]
 unfold spN
 rw[relN_put _ _ _ _ _ _ h.1 h.2.1,relN_none]
end Go.Proofs.Ytagaajlbkfkaiaa
/- The walk of ref.cutIn. Made by genme7.py. -/
namespace Go.Proofs.Ytagaajlbkfkaiaa
open Go.RowKit
end Go.Proofs.Ytagaajlbkfkaiaa
/- Plain mathematics: a diagram told by which dart leaves from each place: its faces, its pieces, and when it is planar. -/
namespace Go.Proofs.Ytagaajlbkfkaiaa
theorem may_pdT {D:List Cr} {l:Int} (hs:sizeB D l=true) (hr:∀ k s,k<D.length->s<4->1<=(D.getD k Cr.none).arc s/\(D.getD k Cr.none).arc s<=2*(D.length:Int))
    (one:∀ k s j t,k<D.length->s<4->j<D.length->t<4->pd D (4*j+t)=pd D (4*k+s)->j=k/\t=s):mayD D l=true:=by
 refine may_one hs hr fun i k j t hi hk hj ht ha hc=>one i k j t hi hk hj ht (by
  unfold pd aAt
  rw[show(4*j+t) / 4=j by omega,show(4*j+t)%4=t by omega,show(4*i+k) / 4=i by omega,show(4*i+k)%4=k by omega,ha,hc])
theorem con_more {f:Nat->Nat} {M:Nat} (e:f M=M) (x y:Nat):Con (eds f (M+1)) x y↔Con (eds f M) x y:=by
 have hc:∀ S:Nat->Prop,Closed (eds f (M+1)) S↔Closed (eds f M) S:=fun S=>by
  rw[closed_eds,closed_eds]
  refine⟨fun h i hi=>h i (by omega),fun h i hi=>?_⟩
  rcases Nat.lt_or_ge i M with q|q
  · exact h i q
  · obtain rfl:i=M:=by omega
    rw[e]
 exact⟨fun h S hS=>h S ((hc S).2 hS),fun h S hS=>h S ((hc S).1 hS)⟩
theorem cyA_more {f:Nat->Nat} {M:Nat} (h:∀ x,x<M->f x<M) (e:f M=M):cyA f (M+1)=cyA f M+1:=by
 have h':∀ x,x<M+1->f x<M+1:=fun x hx=>by
  rcases Nat.lt_or_ge x M with q|q
  · have:=h x q
    omega
  · obtain rfl:x=M:=by omega
    rw[e]
    omega
 have r1:∀ v,v<M+1->((cyW f (M+1)).getD v 0=v↔∀ u,Con (eds f M) v u->v<=u):=fun v hv=>by
  rw[rootT_iff (QV7 h') hv]
  exact⟨fun g u hc=>g u ((con_more e v u).2 hc),fun g u hc=>g u ((con_more e v u).1 hc)⟩
 have r2:∀ v,v<M->((cyW f M).getD v 0=v↔∀ u,Con (eds f M) v u->v<=u):=fun v hv=>rootT_iff (QV7 h) hv
 unfold cyA cyN
 rw[rq_eq,rq_eq,List.range_succ,List.countP_append]
 congr 1
 · refine List.countP_congr fun v hv=>?_
   have hv':=List.mem_range.1 hv
   simp only[Bool.and_true,decide_eq_true_eq]
   rw[r1 v (by omega),r2 v hv']
 · have hM:(cyW f (M+1)).getD M 0=M:=by
     rw[r1 M (by omega)]
     intro u hc
     have hS:Closed (eds f M) (fun z=>z=M):=closed_eds.2 fun i hi=>by
      have:=h i hi
      constructor
      · intro q;omega
      · intro q;omega
     have:=hc _ hS rfl
     omega
   have hM2:(cyW f (M+1))[M]?.getD 0=M:=by rw[<-List.getD_eq_getElem?_getD];exact hM
   simp[hM2]
theorem cyA_ext {f:Nat->Nat} {M:Nat} (h:∀ x,x<M->f x<M):∀ t,(∀ x,M<=x->x<M+t->f x=x)->cyA f (M+t)=cyA f M+t
 |0,_=>rfl
 |t+1,g=>by
  have h1:∀ x,x<M+t->f x<M+t:=fun x hx=>by
   rcases Nat.lt_or_ge x M with q|q
   · have:=h x q
     omega
   · rw[g x q (by omega)]
     exact hx
  rw[show M+(t+1)=(M+t)+1 by omega,cyA_more h1 (g (M+t) (by omega) (by omega)),cyA_ext h t fun x h2 h3=>g x h2 (by omega)]
  omega
def xt (C:List Cr) (j:Nat):Nat:=if j<=4*C.length then up0 (fd C) j else j
theorem xt_low {C:List Cr} {j:Nat} (h1:1<=j) (h2:j<=4*C.length):xt C j=fd C j:=by
 unfold xt
 rw[if_pos h2,QX2 _ h1]
theorem xt_zero (C:List Cr):xt C 0=0:=by
 unfold xt up0
 rw[if_pos (Nat.zero_le _),if_pos rfl]
theorem QJ8 {C:List Cr} {j:Nat} (h:4*C.length<j):xt C j=j:=if_neg (by omega)
theorem xt_bij {C:List Cr} {loops:Int} (hm:mayD C loops=true) (t:Nat):Bij (xt C) (4*C.length+1+t):=by
 have hb:=fd_bij hm
 have hlow:∀ x,x<=4*C.length->xt C x=up0 (fd C) x:=fun x hx=>if_pos hx
 refine⟨fun x hx=>?_,fun x y hx hy e=>?_⟩
 · rcases Nat.lt_or_ge (4*C.length) x with q|q
   · rw[QJ8 q];exact hx
   · rw[hlow x q]
     have:=hb.1 x (by omega)
     omega
 · rcases Nat.lt_or_ge (4*C.length) x with q|q<;>rcases Nat.lt_or_ge (4*C.length) y with r|r
   · rwa [QJ8 q,QJ8 r]at e
   · rw[QJ8 q,hlow y r]at e
     have:=hb.1 y (by omega)
     omega
   · rw[QJ8 r,hlow x q]at e
     have:=hb.1 x (by omega)
     omega
   · rw[hlow x q,hlow y r]at e
     exact hb.2 x y (by omega) (by omega) e
theorem xt_count {C:List Cr} {loops:Int} (hm:mayD C loops=true) (t:Nat):cyA (xt C) (4*C.length+1+t)=(QQ3 C).length+1+t:=by
 have e1:cyA (xt C) (4*C.length+1)=cyA (up0 (fd C)) (4*C.length+1):=cyA_congr fun x hx=>if_pos (by omega)
 rw[cyA_ext (fun x hx=>?_) t (fun x h1 h2=>QJ8 (by omega)),e1,cyA_fd hm]
 have:xt C x=up0 (fd C) x:=if_pos (by omega)
 rw[this]
 exact(fd_bij hm).1 x hx
theorem face_by {D:List Cr} {lo:Int} (hm:mayD D lo=true) (h:Nat->Nat) (h0:h 0=0) (hh:∀ k s,k<D.length->s<4->h (al (pd D (4*k+s)))=pd D (4*k+(s+3)%4)):∀ v,v<4*D.length+1->up0 (fd D) v=h v:=fun v hv=>by
 rcases Nat.eq_zero_or_pos v with q|q
 · rw[q,h0];rfl
 · obtain⟨h1,h2,h3⟩:=QK9 hm q (by omega:v<=4*D.length)
   rw[QX2 _ q]
   conv=>lhs;rw[h3]
   conv=>rhs;rw[h3]
   unfold ein
   rw[pd_sig hm _ _ h1 h2,hh _ _ h1 h2]
theorem face_count {D:List Cr} {lo:Int} (hm:mayD D lo=true) (h:Nat->Nat) (h0:h 0=0) (hh:∀ k s,k<D.length->s<4->h (al (pd D (4*k+s)))=pd D (4*k+(s+3)%4)):cyA h (4*D.length+1)=(QQ3 D).length+1:=by
 rw[<-cyA_fd hm]
 exact(cyA_congr (face_by hm h h0 hh)).symm
theorem planar_more {C D:List Cr} {lo l2:Int} (hm:mayD C lo=true) (hm':mayD D l2=true) (hp:QX1 C=true) (hF:D.length+2*pcN D+(QQ3 C).length<=C.length+2*pcN C+(QQ3 D).length):QX1 D=true:=by
 have h1:=(planar_sum hm).2.1 hp
 have h2:=(planar_sum hm).1
 exact(planar_sum hm').2.2 (by omega)
theorem en_pd {D:List Cr} {lo:Int} (hm:mayD D lo=true) {k s a:Nat} {p:Bool} (hk:k<D.length) (hs:s<4) (h1:1<=a) (e:pd D (4*k+s)=mkD a p):enC D a p=k/\enS D a p=s:=by
 obtain⟨-,g1,g2,-,-⟩:=pd_at hm k s hk hs
 rw[e]at g1 g2
 unfold lvC at g1
 rw[dA_mk h1,dB_mk h1]at g1 g2
 exact⟨g1,g2⟩
theorem pd_en {C:List Cr} {lo:Int} (hm:mayD C lo=true) {a:Nat} (p:Bool) (h1:1<=a) (h2:a<=2*C.length):enC C a p<C.length/\enS C a p<4/\pd C (4*enC C a p+enS C a p)=mkD a p:=by
 obtain⟨-,g1,g2,g3,g4⟩:=QJ9 hm a p h1 h2
 refine⟨g1,g2,?_⟩
 rw[(pd_at hm _ _ g1 g2).1]
 unfold aAt
 rw[g3,g4]
 rfl
theorem pd_inj {C:List Cr} {lo:Int} (hm:mayD C lo=true) {k s j t:Nat} (hk:k<C.length) (hs:s<4) (hj:j<C.length) (ht:t<4) (e:pd C (4*k+s)=pd C (4*j+t)):k=j/\s=t:=by
 obtain⟨-,h1,h2,-,-⟩:=pd_at hm k s hk hs
 obtain⟨-,g1,g2,-,-⟩:=pd_at hm j t hj ht
 rw[e]at h1 h2
 exact⟨h1.symm.trans g1,h2.symm.trans g2⟩
theorem QW8 {D:List Cr} {a:Nat} (h1:1<=a) (h2:a<=2*D.length):Con (arcE D) (enC D a true) (enC D a false):=by
 refine Con.edge (List.mem_map.2 ⟨a-1,List.mem_range.2 (by omega),?_⟩)
 rw[show a-1+1=a by omega]
theorem arcE_mem {C:List Cr} {e:Nat×Nat} (h:e∈arcE C):∃ a,1<=a/\a<=2*C.length/\e=(enC C a true,enC C a false):=by
 obtain⟨i,hi,rfl⟩:=List.mem_map.1 h
 exact⟨i+1,by omega,by have:=List.mem_range.1 hi;omega,rfl⟩
theorem QU9 {C:List Cr} {lo:Int} (hm:mayD C lo=true):∀ e,e∈arcE C->e.1<C.length/\e.2<C.length:=fun e he=>by
 obtain⟨a,h1,h2,rfl⟩:=arcE_mem he
 exact⟨(QJ9 hm a true h1 h2).2.1,(QJ9 hm a false h1 h2).2.1⟩
theorem at_arc (x:Cr) {k s:Nat} (hk:k<4) (hs:s<4) (v:Int):(x.at k v).arc s=if s=k then v else x.arc s:=by
 have hk':k=0∨k=1∨k=2∨k=3:=by omega
 have hs':s=0∨s=1∨s=2∨s=3:=by omega
 rcases hk' with rfl|rfl|rfl|rfl<;>rcases hs' with rfl|rfl|rfl|rfl<;>rfl
theorem at_comes (x:Cr) (k s:Nat) (v:Int):(x.at k v).comes s=x.comes s:=by
 unfold Cr.at
 split
 · rfl
 · split
   · rfl
   · split<;>rfl
theorem setL_get (C:List Cr) {i:Nat} (hi:i<C.length) (k:Nat) (v:Int) (j:Nat):(setL C i k v).getD j Cr.none=if j=i then(C.getD i Cr.none).at k v else C.getD j Cr.none:=by
 unfold setL
 rw[List.getD_eq_getElem?_getD,List.getElem?_set]
 by_cases h:j=i
 · subst h
   rw[if_pos rfl,if_pos hi,if_pos rfl]
   rfl
 · rw[if_neg (fun e=>h e.symm),if_neg h,List.getD_eq_getElem?_getD]
theorem QU3 (C:List Cr) {i k:Nat} (hi:i<C.length) (hk:k<4) (v:Int) (j:Nat) {s:Nat} (hs:s<4):((setL C i k v).getD j Cr.none).arc s=if j=i/\s=k then v else(C.getD j Cr.none).arc s:=by
 rw[setL_get C hi]
 by_cases h:j=i
 · subst h
   rw[if_pos rfl,at_arc _ hk hs]
   by_cases h2:s=k
   · rw[if_pos h2,if_pos ⟨rfl,h2⟩]
   · rw[if_neg h2,if_neg fun q=>h2 q.2]
 · rw[if_neg h,if_neg fun q=>h q.1]
theorem setL_comes (C:List Cr) {i k:Nat} (hi:i<C.length) (v:Int) (j s:Nat):((setL C i k v).getD j Cr.none).comes s=(C.getD j Cr.none).comes s:=by
 rw[setL_get C hi]
 by_cases h:j=i
 · subst h
   rw[if_pos rfl,at_comes]
 · rw[if_neg h]
theorem QW0 (D:List Cr) (k:Nat) {s:Nat} (hs:s<4):pd D (4*k+s)=mkD ((D.getD k Cr.none).arc s).toNat ((D.getD k Cr.none).comes s):=by
 unfold pd aAt
 rw[show(4*k+s) / 4=k by omega,show(4*k+s)%4=s by omega]
theorem getDl {A B:List Cr} {k:Nat} (h:k<A.length):(A++B).getD k Cr.none=A.getD k Cr.none:=by
 rw[List.getD_eq_getElem?_getD,List.getD_eq_getElem?_getD,List.getElem?_append_left h]
theorem getDr {A B:List Cr} (k:Nat):(A++B).getD (A.length+k) Cr.none=B.getD k Cr.none:=by
 rw[List.getD_eq_getElem?_getD,List.getD_eq_getElem?_getD,List.getElem?_append_right (by omega),show A.length+k-A.length=k by omega]
end Go.Proofs.Ytagaajlbkfkaiaa
/- Plain mathematics: a curl more on an arc: a diagram again, and planar if it was. -/
namespace Go.Proofs.Ytagaajlbkfkaiaa
theorem al_back' {x:Nat} (h:1<=x):al (2*x)=2*x-1/\al (2*x-1)=2*x:=by
 obtain⟨y,rfl⟩:∃ y,x=y+1:=⟨x - 1,by omega⟩
 refine⟨?_,?_⟩
 · rw[show 2*(y+1)=2*y+2 by omega,al_even]
   omega
 · rw[show 2*(y+1)-1=2*y+1 by omega,al_odd]
   omega
structure CurlD (C D:List Cr) (x:Nat) (t:Bool) (g:Nat):Prop where
 len:D.length=C.length+1
 x1:1<=x
 x2:x<=2*C.length
 g4:g<4
 old:∀ k s,k<C.length->s<4->pd D (4*k+s)=if pd C (4*k+s)=2*x then 4*C.length+4 else pd C (4*k+s)
 n0:pd D (4*C.length+g)=2*x
 n1:pd D (4*C.length+(g+1)%4)=if t=true then 4*C.length+2 else 4*C.length+3
 n2:pd D (4*C.length+(g+2)%4)=4*C.length+1
 n3:pd D (4*C.length+(g+3)%4)=if t=true then 4*C.length+3 else 4*C.length+2
 arc:∀ k s,k<D.length->s<4->1<=(D.getD k Cr.none).arc s/\(D.getD k Cr.none).arc s<=2*(D.length:Int)
section
variable {C D:List Cr} {lo l2:Int} {x:Nat} {t:Bool} {g:Nat}
theorem quarter {s g:Nat} (hs:s<4) (hg:g<4):s=g∨s=(g+1)%4∨s=(g+2)%4∨s=(g+3)%4:=by omega
theorem CurlD.new (h:CurlD C D x t g) {s:Nat} (hs:s<4):(s=g/\pd D (4*C.length+s)=2*x)∨(s=(g+1)%4/\pd D (4*C.length+s)=if t=true then 4*C.length+2 else 4*C.length+3)∨(s=(g+2)%4/\pd D (4*C.length+s)=4*C.length+1)∨(s=(g+3)%4/\pd D (4*C.length+s)=if t=true then 4*C.length+3 else 4*C.length+2):=by
 rcases quarter hs h.g4 with e|e|e|e
 · exact Or.inl ⟨e,by rw[e];exact h.n0⟩
 · exact Or.inr (Or.inl ⟨e,by rw[e];exact h.n1⟩)
 · exact Or.inr (Or.inr (Or.inl ⟨e,by rw[e];exact h.n2⟩))
 · exact Or.inr (Or.inr (Or.inr ⟨e,by rw[e];exact h.n3⟩))
theorem CurlD.oldle (h:CurlD C D x t g) (hm:mayD C lo=true) {k s:Nat} (hk:k<C.length) (hs:s<4):pd D (4*k+s)≠2*x/\(pd D (4*k+s)<=4*C.length∨pd D (4*k+s)=4*C.length+4)/\1<=pd D (4*k+s):=by
 obtain⟨-,-,-,h1,h2⟩:=pd_at hm k s hk hs
 have:=h.x2
 rw[h.old k s hk hs]
 split<;>omega
theorem CurlD.may (h:CurlD C D x t g) (hm:mayD C lo=true) (hs:sizeB D l2=true):mayD D l2=true:=by
 refine may_pdT hs h.arc fun k s j u hk hs hj hu e=>?_
 have hl:=h.len
 have hx1:=h.x1
 have hx2:=h.x2
 rcases Nat.lt_or_ge k C.length with q|q<;>rcases Nat.lt_or_ge j C.length with r|r
 · rw[h.old k s q hs,h.old j u r hu]at e
   obtain⟨-,-,-,a1,a2⟩:=pd_at hm k s q hs
   obtain⟨-,-,-,b1,b2⟩:=pd_at hm j u r hu
   refine pd_inj hm r hu q hs ?_
   split at e<;>split at e<;>omega
 · obtain rfl:j=C.length:=by omega
   obtain⟨a1,a2,a3⟩:=h.oldle hm q hs
   rcases h.new hu with⟨-,f⟩|⟨-,f⟩|⟨-,f⟩|⟨-,f⟩<;>rw[f]at e<;>cases t<;>first|omega|(simp only[if_true]at e;omega)|(simp only[Bool.false_eq_true,if_false]at e;omega)
 · obtain rfl:k=C.length:=by omega
   obtain⟨a1,a2,a3⟩:=h.oldle hm r hu
   rcases h.new hs with⟨-,f⟩|⟨-,f⟩|⟨-,f⟩|⟨-,f⟩<;>rw[f]at e<;>cases t<;>first|omega|(simp only[if_true]at e;omega)|(simp only[Bool.false_eq_true,if_false]at e;omega)
 · obtain rfl:k=C.length:=by omega
   obtain rfl:j=C.length:=by omega
   refine⟨rfl,?_⟩
   rcases h.new hs with⟨e1,f⟩|⟨e1,f⟩|⟨e1,f⟩|⟨e1,f⟩<;>rcases h.new hu with⟨e2,f'⟩|⟨e2,f'⟩|⟨e2,f'⟩|⟨e2,f'⟩<;>rw[f,f']at e<;>cases t<;>first|omega|(simp only[if_true]at e;omega)|(simp only[Bool.false_eq_true,if_false]at e;omega)
def cuH (C:List Cr) (x j:Nat) (t:Bool):Nat->Nat:=
 if t=true then tr (tr (tr (xt C) (2*x-1) (4*C.length+3)) j (4*C.length+1)) j (4*C.length+4)
 else tr (tr (tr (xt C) (2*x-1) (4*C.length+3)) (2*x-1) (4*C.length+2)) j (4*C.length+4)
theorem cuH_count {j:Nat} (hm:mayD C lo=true) (hx1:1<=x) (hx2:x<=2*C.length) (hj2:j<=4*C.length):cyA (cuH C x j t) (4*C.length+5)=(QQ3 C).length+2:=by
 have b0:=xt_bij hm 4
 rw[show 4*C.length+1+4=4*C.length+5 by omega]at b0
 have c0:=xt_count hm 4
 rw[show 4*C.length+1+4=4*C.length+5 by omega]at c0
 have hi:∀ z,4*C.length<z->xt C z=z:=fun z hz=>QJ8 hz
 have b1:=b0.tr (a:=2*x-1) (b:=4*C.length+3) (by omega) (by omega)
 have c1:=QJ6 b0 (w:=2*x-1) (z:=4*C.length+3) (by omega) (by omega) (hi _ (by omega)) (by omega)
 unfold cuH
 cases t with
 |true=>
  rw[if_pos rfl]
  have b2:=b1.tr (a:=j) (b:=4*C.length+1) (by omega) (by omega)
  have c2:=QJ6 b1 (w:=j) (z:=4*C.length+1) (by omega) (by omega) (by rw[tr_o _ (by omega) (by omega)];exact hi _ (by omega)) (by omega)
  have c3:=QJ6 b2 (w:=j) (z:=4*C.length+4) (by omega) (by omega) (by rw[tr_o _ (by omega) (by omega),tr_o _ (by omega) (by omega)];exact hi _ (by omega)) (by omega)
  omega
 |false=>
  rw[if_neg (by decide)]
  have b2:=b1.tr (a:=2*x-1) (b:=4*C.length+2) (by omega) (by omega)
  have c2:=QJ6 b1 (w:=2*x-1) (z:=4*C.length+2) (by omega) (by omega) (by rw[tr_o _ (by omega) (by omega)];exact hi _ (by omega)) (by omega)
  have c3:=QJ6 b2 (w:=j) (z:=4*C.length+4) (by omega) (by omega) (by rw[tr_o _ (by omega) (by omega),tr_o _ (by omega) (by omega)];exact hi _ (by omega)) (by omega)
  omega
theorem cuH_at {j:Nat} (hx1:1<=x) (hx2:x<=2*C.length) (hj2:j<=4*C.length) (hne:j≠2*x-1):
    (∀ w,w<=4*C.length->w≠j->w≠2*x-1->cuH C x j t w=xt C w)/\cuH C x j t j=4*C.length+4/\cuH C x j t (4*C.length+3)=xt C (2*x-1)/\
    cuH C x j t (2*x-1)=(if t=true then 4*C.length+3 else 4*C.length+2)/\cuH C x j t (4*C.length+1)=(if t=true then xt C j else 4*C.length+1)/\cuH C x j t (4*C.length+2)=(if t=true then 4*C.length+2 else 4*C.length+3)/\cuH C x j t (4*C.length+4)=(if t=true then 4*C.length+1 else xt C j):=by
 have hi:∀ z,4*C.length<z->xt C z=z:=fun z hz=>QJ8 hz
 have i1:=hi (4*C.length+1) (by omega)
 have i2:=hi (4*C.length+2) (by omega)
 have i3:=hi (4*C.length+3) (by omega)
 have i4:=hi (4*C.length+4) (by omega)
 unfold cuH
 cases t with
 |true=>
  simp only[if_true]
  refine⟨fun w h1 h2 h3=>?_,?_,?_,?_,?_,?_,?_⟩
  · rw[tr_o _ h2 (by omega),tr_o _ h2 (by omega),tr_o _ h3 (by omega)]
  · rw[tr_a,tr_o _ (by omega) (by omega),tr_o _ (by omega) (by omega),i4]
  · rw[tr_o _ (by omega) (by omega),tr_o _ (by omega) (by omega),tr_b]
  · rw[tr_o _ (by omega) (by omega),tr_o _ (by omega) (by omega),tr_a,i3]
  · rw[tr_o _ (by omega) (by omega),tr_b,tr_o _ (by omega) (by omega)]
  · rw[tr_o _ (by omega) (by omega),tr_o _ (by omega) (by omega),tr_o _ (by omega) (by omega),i2]
  · rw[tr_b,tr_a,tr_o _ (by omega) (by omega),i1]
 |false=>
  simp only[Bool.false_eq_true,if_false]
  refine⟨fun w h1 h2 h3=>?_,?_,?_,?_,?_,?_,?_⟩
  · rw[tr_o _ h2 (by omega),tr_o _ h3 (by omega),tr_o _ h3 (by omega)]
  · rw[tr_a,tr_o _ (by omega) (by omega),tr_o _ (by omega) (by omega),i4]
  · rw[tr_o _ (by omega) (by omega),tr_o _ (by omega) (by omega),tr_b]
  · rw[tr_o _ (by omega) (by omega),tr_a,tr_o _ (by omega) (by omega),i2]
  · rw[tr_o _ (by omega) (by omega),tr_o _ (by omega) (by omega),tr_o _ (by omega) (by omega),i1]
  · rw[tr_o _ (by omega) (by omega),tr_b,tr_a,i3]
  · rw[tr_b,tr_o _ (by omega) (by omega),tr_o _ (by omega) (by omega)]
theorem al_ne {u w:Nat} (h:u≠w):al u≠al w:=fun e=>h (al_inj e)
theorem CurlD.faces (h:CurlD C D x t g) (hm:mayD C lo=true) (hm':mayD D l2=true):(QQ3 D).length=(QQ3 C).length+1:=by
 have hx1:=h.x1
 have hx2:=h.x2
 have hl:=h.len
 obtain⟨ek,es,eE⟩:=pd_en hm true hx1 hx2
 have eE:pd C (4*enC C x true+enS C x true)=2*x:=by rw[eE];rfl
 obtain⟨j,hj0,hj⟩:=(fd_bij hm).onto (y:=2*x) (by omega)
 have hj1:1<=j:=by
  rcases Nat.eq_zero_or_pos j with q|q
  · rw[q]at hj
    have:up0 (fd C) 0=0:=rfl
    omega
  · exact q
 rw[QX2 _ hj1]at hj
 have hj2:j<=4*C.length:=by omega
 -- the place ahead of the end of x
 have hT:fd C (2*x-1)=pd C (4*enC C x true+(enS C x true+3)%4):=by
  rw[<-pd_sig hm _ _ ek es,eE,(al_back' hx1).1]
 have hTx:fd C (2*x-1)≠2*x:=fun e=>by
  rw[hT,<-eE]at e
  have:=(pd_inj hm ek (Nat.mod_lt _ (by decide)) ek es e).2
  omega
 have hne:j≠2*x-1:=fun e=>hTx (by rw[<-e];exact hj)
 obtain⟨a0,a1,a2,a3,a4,a5,a6⟩:=cuH_at (C:=C) (x:=x) (j:=j) (t:=t) hx1 hx2 hj2 hne
 have hjx:xt C j=2*x:=by rw[xt_low hj1 hj2];exact hj
 have hTt:xt C (2*x-1)=fd C (2*x-1):=xt_low (by omega) (by omega)
 rw[hjx]at a4 a6
 rw[hTt]at a2
 have q1:al (4*C.length+1)=4*C.length+2:=by rw[show 4*C.length+1=2*(2*C.length)+1 by omega,al_odd];omega
 have q2:al (4*C.length+2)=4*C.length+1:=by rw[show 4*C.length+2=2*(2*C.length)+2 by omega,al_even];omega
 have q3:al (4*C.length+3)=4*C.length+4:=by rw[show 4*C.length+3=2*(2*C.length+1)+1 by omega,al_odd];omega
 have q4:al (4*C.length+4)=4*C.length+3:=by rw[show 4*C.length+4=2*(2*C.length+1)+2 by omega,al_even];omega
 have q0:=(al_back' hx1).1
 have hc:=face_count hm' (cuH C x j t) (by rw[a0 0 (Nat.zero_le _) (by omega) (by omega),xt_zero]) (fun k s hk hs=>?_)
 · rw[hl,show 4*(C.length+1)+1=4*C.length+5 by omega,cuH_count hm hx1 hx2 hj2]at hc
   omega
 · rcases Nat.lt_or_ge k C.length with q|q
   · have hs3:(s+3)%4<4:=Nat.mod_lt _ (by decide)
     have hsig:=pd_sig hm k s q hs
     obtain⟨-,-,-,w1,w2⟩:=pd_at hm k s q hs
     rw[h.old k s q hs,h.old k _ q hs3]
     by_cases e1:pd C (4*k+s)=2*x
     · rw[if_pos e1,q4,a2]
       rw[e1,q0]at hsig
       rw[if_neg (by rw[<-hsig];exact hTx),hsig]
     · rw[if_neg e1]
       have hw:=QW5 w1 w2
       have n1:al (pd C (4*k+s))≠2*x-1:=by rw[<-q0];exact al_ne e1
       by_cases e2:pd C (4*k+(s+3)%4)=2*x
       · rw[if_pos e2]
         have:al (pd C (4*k+s))=j:=by
          refine fd_inj hm _ _ hw.1 hw.2.1 hj1 hj2 ?_
          rw[hsig,hj,e2]
         rw[this,a1]
       · rw[if_neg e2]
         have n2:al (pd C (4*k+s))≠j:=fun e=>e2 (by rw[<-hsig,e];exact hj)
         rw[a0 _ hw.2.1 n2 n1,xt_low hw.1 hw.2.1,hsig]
   · obtain rfl:k=C.length:=by omega
     rcases h.new hs with⟨e1,f⟩|⟨e1,f⟩|⟨e1,f⟩|⟨e1,f⟩
     · rw[f,q0,a3,e1,h.n3]
     · have e2:(s+3)%4=g:=by have:=h.g4;omega
       rw[f,e2,h.n0]
       cases t<;>simp_all
     · have e2:(s+3)%4=(g+1)%4:=by omega
       rw[f,q1,a5,e2,h.n1]
     · have e2:(s+3)%4=(g+2)%4:=by omega
       rw[f,e2,h.n2]
       cases t<;>simp_all
theorem CurlD.pieces (h:CurlD C D x t g) (hm:mayD C lo=true) (hm':mayD D l2=true):pcN D<=pcN C:=by
 have hx1:=h.x1
 have hx2:=h.x2
 have hl:=h.len
 have hg:=h.g4
 have en:∀ a p,1<=a->a<=2*C.length->(a≠x∨p=false)->enC D a p=enC C a p:=fun a p h1 h2 h3=>by
  obtain⟨g1,g2,g3⟩:=pd_en hm p h1 h2
  refine(en_pd hm' (by omega) g2 h1 ?_).1
  rw[h.old _ _ g1 g2,g3,if_neg]
  intro e
  unfold mkD at e
  rcases h3 with h3|h3
  · split at e<;>omega
  · subst h3
    simp at e
    omega
 have nx:enC D x true=C.length:=(en_pd hm' (by omega) hg hx1 (by rw[h.n0];rfl)).1
 have zT:enC D (2*C.length+2) true=enC C x true:=by
  obtain⟨g1,g2,g3⟩:=pd_en hm true hx1 hx2
  refine(en_pd hm' (by omega) g2 (by omega) ?_).1
  rw[h.old _ _ g1 g2,g3,if_pos (show mkD x true=2*x from rfl)]
  show 4*C.length+4=2*(2*C.length+2)
  omega
 have zF:enC D (2*C.length+2) false=C.length:=by
  have e:mkD (2*C.length+2) false=4*C.length+3:=by unfold mkD;simp;omega
  cases t with
  |true=>exact(en_pd hm' (by omega) (Nat.mod_lt _ (by decide)) (by omega) (by rw[e,h.n3,if_pos rfl])).1
  |false=>exact(en_pd hm' (by omega) (Nat.mod_lt _ (by decide)) (by omega) (by rw[e,h.n1];simp)).1
 have c1:Con (arcE D) C.length (enC C x false):=by
  have:=QW8 (D:=D) hx1 (by omega)
  rw[nx,en x false hx1 hx2 (Or.inr rfl)]at this
  exact this
 have c2:Con (arcE D) (enC C x true) C.length:=by
  have:=QW8 (D:=D) (a:=2*C.length+2) (by omega) (by omega)
  rw[zT,zF]at this
  exact this
 have hsub:∀ u v,Con (arcE C) u v->Con (arcE D) u v:=fun u v=>con_sub fun e he=>by
  obtain⟨a,h1,h2,rfl⟩:=arcE_mem he
  by_cases ha:a=x
  · subst ha
    exact c2.trans c1
  · have:=QW8 (D:=D) h1 (by omega)
    rw[en a true h1 h2 (Or.inl ha),en a false h1 h2 (Or.inl ha)]at this
    exact this
 unfold pcN
 rw[hl]
 refine kN_inj (QU9 hm) (by have:=QU9 hm';rw[hl]at this;exact this) (fun v=>if v<C.length then v else enC C x true) (fun v hv=>?_) fun u v hu hv hc=>?_
 · split
   · assumption
   · exact(pd_en hm true hx1 hx2).1
 · have hd:=hsub _ _ hc
   have hto:∀ u,u<C.length+1->Con (arcE D) u (if u<C.length then u else enC C x true):=fun u hu=>by
    split
    · exact Con.refl _ _
    · obtain rfl:u=C.length:=by omega
      exact c2.symm
   exact((hto u hu).trans hd).trans (hto v hv).symm
theorem CurlD.planar (h:CurlD C D x t g) (hm:mayD C lo=true) (hm':mayD D l2=true) (hp:QX1 C=true):QX1 D=true:=by
 have h1:=h.faces hm hm'
 have h2:=h.pieces hm hm'
 have h3:=h.len
 exact planar_more hm hm' hp (by omega)
end
end Go.Proofs.Ytagaajlbkfkaiaa
/- Plain mathematics: the curls that moves lay: on an arc, and out of a loop. -/
namespace Go.Proofs.Ytagaajlbkfkaiaa
theorem sizeB_of {D:List Cr} {l:Int} (h1:D.length<=16) (h2:0<=l) (h3:l<=16) (h4:0<D.length):sizeB D l=true:=by
 unfold sizeB
 rw[decide_eq_true h1,decide_eq_true h2,decide_eq_true h3,decide_eq_false (by omega:¬ D.length=0)]
 rfl
def cuX (n:Nat) (x y:Nat):Cr:=QZ1 ((x:Int),2*(n:Int)+1) (2*(n:Int)+1,2*(n:Int)+2) (decide (2<=y)) (decide (y%2=1))
def cuL (C:List Cr) (x y:Nat):List Cr:=setL C (toC C x) (toS C x) (2*(C.length:Int)+2)++[cuX C.length x y]
theorem cuL_len (C:List Cr) (x y:Nat):(cuL C x y).length=C.length+1:=by simp[cuL,QK8]
theorem app_new {A:List Cr} {c:Cr} {n:Nat} (h:A.length=n):(A++[c]).getD n Cr.none=c:=by
 have:=getDr (A:=A) (B:=[c]) 0
 rw[Nat.add_zero,h]at this
 exact this
theorem cuL_new (C:List Cr) (x y:Nat):(cuL C x y).getD C.length Cr.none=cuX C.length x y:=app_new (QK8 _ _ _ _)
theorem cuL_old (C:List Cr) (x y:Nat) {k:Nat} (h:k<C.length):(cuL C x y).getD k Cr.none=(setL C (toC C x) (toS C x) (2*(C.length:Int)+2)).getD k Cr.none:=getDl (by rw[QK8];exact h)
theorem mk_t (a:Nat):mkD a true=2*a:=rfl
theorem mk_f (a:Nat):mkD a false=2*a-1:=rfl
theorem QZ6 (n:Nat):(2*(n:Int)+1).toNat=2*n+1:=by omega
theorem QW1 (n:Nat):(2*(n:Int)+2).toNat=2*n+2:=by omega
theorem cuX_pd (n x y:Nat) (hy:y<4):∃ (t:Bool) (g:Nat),g<4/\∀ (P:Nat->Nat),(∀ s,s<4->P s=mkD ((cuX n x y).arc s).toNat ((cuX n x y).comes s))->
    P g=2*x/\P ((g+1)%4)=(if t=true then 4*n+2 else 4*n+3)/\P ((g+2)%4)=4*n+1/\P ((g+3)%4)=(if t=true then 4*n+3 else 4*n+2):=by
 have hy':y=0∨y=1∨y=2∨y=3:=by omega
 rcases hy' with rfl|rfl|rfl|rfl
 · refine⟨true,0,by omega,fun P h=>?_⟩
   rw[h 0 (by omega),h 1 (by omega),h 2 (by omega),h 3 (by omega)]
   simp[cuX,QZ1,Cr.arc,Cr.comes,mk_t,mk_f,QZ6,QW1]
   omega
 · refine⟨false,0,by omega,fun P h=>?_⟩
   rw[h 0 (by omega),h 1 (by omega),h 2 (by omega),h 3 (by omega)]
   simp[cuX,QZ1,Cr.arc,Cr.comes,mk_t,mk_f,QZ6,QW1]
   omega
 · refine⟨false,1,by omega,fun P h=>?_⟩
   rw[h 1 (by omega),h 2 (by omega),h 3 (by omega),h 0 (by omega)]
   simp[cuX,QZ1,Cr.arc,Cr.comes,mk_t,mk_f,QZ6,QW1]
   omega
 · refine⟨true,3,by omega,fun P h=>?_⟩
   rw[h 3 (by omega),h 0 (by omega),h 1 (by omega),h 2 (by omega)]
   simp[cuX,QZ1,Cr.arc,Cr.comes,mk_t,mk_f,QZ6,QW1]
   omega
theorem cuX_arc (n x y:Nat) (hy:y<4):∀ s,s<4->(cuX n x y).arc s=(x:Int)∨(cuX n x y).arc s=2*(n:Int)+1∨(cuX n x y).arc s=2*(n:Int)+2:=fun s hs=>by
 have hy':y=0∨y=1∨y=2∨y=3:=by omega
 have hs':s=0∨s=1∨s=2∨s=3:=by omega
 rcases hy' with rfl|rfl|rfl|rfl<;>rcases hs' with rfl|rfl|rfl|rfl<;>simp[cuX,QZ1,Cr.arc]
theorem cuL_pd {C:List Cr} {lo:Int} (hm:mayD C lo=true) {x:Nat} (hx1:1<=x) (hx2:x<=2*C.length) (y:Nat) {k s:Nat} (hk:k<C.length) (hs:s<4):pd (cuL C x y) (4*k+s)=if pd C (4*k+s)=2*x then 4*C.length+4 else pd C (4*k+s):=by
 obtain⟨-,t1,t2,t3,t4⟩:=QJ0 hm x hx1 hx2
 have hE:pd C (4*toC C x+toS C x)=2*x:=by rw[QW0 C _ t2,t3,t4];rfl
 rw[QW0 _ _ hs,cuL_old C x y hk,QU3 C t1 t2 _ _ hs,setL_comes C t1]
 by_cases h:k=toC C x/\s=toS C x
 · obtain⟨rfl,rfl⟩:=h
   rw[if_pos ⟨rfl,rfl⟩,t4,if_pos hE,QW1,mk_t]
   omega
 · rw[if_neg h,if_neg,<-QW0 C k hs]
   intro e
   exact h (pd_inj hm hk hs t1 t2 (e.trans hE.symm))
theorem cuL_arc {C:List Cr} {lo:Int} (hm:mayD C lo=true) {x:Nat} (hx1:1<=x) (hx2:x<=2*C.length) {y:Nat} (hy:y<4):∀ k s,k<(cuL C x y).length->s<4->1<=((cuL C x y).getD k Cr.none).arc s/\((cuL C x y).getD k Cr.none).arc s<=2*((cuL C x y).length:Int):=fun k s hk hs=>by
 rw[cuL_len]at hk ⊢
 obtain⟨-,t1,t2,t3,t4⟩:=QJ0 hm x hx1 hx2
 rcases Nat.lt_or_ge k C.length with q|q
 · rw[cuL_old C x y q,QU3 C t1 t2 _ _ hs]
   split
   · omega
   · have:=QK7 hm k s q hs
     have h1:=this.1
     have h2:=this.2.1
     omega
 · obtain rfl:k=C.length:=by omega
   rw[cuL_new]
   rcases cuX_arc C.length x y hy s hs with e|e|e<;>rw[e]<;>omega
theorem cuL_curl {C:List Cr} {lo:Int} (hm:mayD C lo=true) {x:Nat} (hx1:1<=x) (hx2:x<=2*C.length) {y:Nat} (hy:y<4):∃ t g,CurlD C (cuL C x y) x t g:=by
 obtain⟨t,g,hg,h⟩:=cuX_pd C.length x y hy
 obtain⟨h0,h1,h2,h3⟩:=h (fun s=>pd (cuL C x y) (4*C.length+s)) (fun s hs=>by
  show pd (cuL C x y) (4*C.length+s)=_
  rw[QW0 _ _ hs,cuL_new])
 exact⟨t,g,cuL_len C x y,hx1,hx2,hg,fun k s hk hs=>cuL_pd hm hx1 hx2 y hk hs,h0,h1,h2,h3,cuL_arc hm hx1 hx2 hy⟩
theorem cuL_may {C:List Cr} {lo:Int} (hm:mayD C lo=true) (hp:QX1 C=true) {x:Nat} (hx1:1<=x) (hx2:x<=2*C.length) {y:Nat} (hy:y<4) (hn:C.length<16):mayD (cuL C x y) lo=true/\QX1 (cuL C x y)=true:=by
 obtain⟨t,g,h⟩:=cuL_curl hm hx1 hx2 hy
 obtain⟨-,l0,l16,-⟩:=QZ2 (QK3 hm)
 have hs:sizeB (cuL C x y) lo=true:=sizeB_of (by rw[cuL_len];omega) l0 l16 (by rw[cuL_len];omega)
 have h1:=h.may hm hs
 exact⟨h1,h.planar hm h1 hp⟩
def loX (n y:Nat):Cr:=QZ1 (2*(n:Int)+1,2*(n:Int)+2) (2*(n:Int)+2,2*(n:Int)+1) (decide (2<=y)) (decide (y%2=1))
def loL (C:List Cr) (y:Nat):List Cr:=C++[loX C.length y]
theorem loL_len (C:List Cr) (y:Nat):(loL C y).length=C.length+1:=by simp[loL]
theorem loL_new (C:List Cr) (y:Nat):(loL C y).getD C.length Cr.none=loX C.length y:=app_new rfl
theorem loL_old (C:List Cr) (y:Nat) {k:Nat} (h:k<C.length):(loL C y).getD k Cr.none=C.getD k Cr.none:=getDl h
theorem loX_pd (n y:Nat) (hy:y<4):∃ (t:Bool) (g:Nat),g<4/\∀ (P:Nat->Nat),(∀ s,s<4->P s=mkD ((loX n y).arc s).toNat ((loX n y).comes s))->
    P g=4*n+2/\P ((g+1)%4)=(if t=true then 4*n+4 else 4*n+1)/\P ((g+2)%4)=4*n+3/\P ((g+3)%4)=(if t=true then 4*n+1 else 4*n+4):=by
 have hy':y=0∨y=1∨y=2∨y=3:=by omega
 rcases hy' with rfl|rfl|rfl|rfl
 · refine⟨true,0,by omega,fun P h=>?_⟩
   rw[h 0 (by omega),h 1 (by omega),h 2 (by omega),h 3 (by omega)]
   simp[loX,QZ1,Cr.arc,Cr.comes,mk_t,mk_f,QZ6,QW1]
   omega
 · refine⟨false,0,by omega,fun P h=>?_⟩
   rw[h 0 (by omega),h 1 (by omega),h 2 (by omega),h 3 (by omega)]
   simp[loX,QZ1,Cr.arc,Cr.comes,mk_t,mk_f,QZ6,QW1]
   omega
 · refine⟨false,1,by omega,fun P h=>?_⟩
   rw[h 1 (by omega),h 2 (by omega),h 3 (by omega),h 0 (by omega)]
   simp[loX,QZ1,Cr.arc,Cr.comes,mk_t,mk_f,QZ6,QW1]
   omega
 · refine⟨true,3,by omega,fun P h=>?_⟩
   rw[h 3 (by omega),h 0 (by omega),h 1 (by omega),h 2 (by omega)]
   simp[loX,QZ1,Cr.arc,Cr.comes,mk_t,mk_f,QZ6,QW1]
   omega
theorem loX_arc (n y:Nat) (hy:y<4):∀ s,s<4->(loX n y).arc s=2*(n:Int)+1∨(loX n y).arc s=2*(n:Int)+2:=fun s hs=>by
 have hy':y=0∨y=1∨y=2∨y=3:=by omega
 have hs':s=0∨s=1∨s=2∨s=3:=by omega
 rcases hy' with rfl|rfl|rfl|rfl<;>rcases hs' with rfl|rfl|rfl|rfl<;>simp[loX,QZ1,Cr.arc]
theorem loL_pd (C:List Cr) (y:Nat) {k s:Nat} (hk:k<C.length) (hs:s<4):pd (loL C y) (4*k+s)=pd C (4*k+s):=by
 rw[QW0 _ _ hs,loL_old C y hk,<-QW0 _ _ hs]
theorem kN_more {E:List (Nat×Nat)} {n:Nat} (hE:∀ e,e∈E->e.1<n/\e.2<n):kN E (n+1)=kN E n+1:=by
 have hE':∀ e,e∈E->e.1<n+1/\e.2<n+1:=fun e he=>by have:=hE e he;omega
 have r1:∀ v,v<n+1->((levR (List.range (n+1)) E (n+1)).getD v 0=v↔∀ u,Con E v u->v<=u):=fun v hv=>rootT_iff (QZ9 hE' _ (Nat.le_refl _)) hv
 have r2:∀ v,v<n->((levR (List.range n) E n).getD v 0=v↔∀ u,Con E v u->v<=u):=fun v hv=>rootT_iff (QZ9 hE _ (Nat.le_refl _)) hv
 unfold kN
 rw[rq_eq,rq_eq,List.range_succ,List.countP_append]
 congr 1
 · refine List.countP_congr fun v hv=>?_
   have hv':=List.mem_range.1 hv
   have r1':=r1 v (by omega)
   rw[List.range_succ]at r1'
   simp only[Bool.and_true,decide_eq_true_eq]
   rw[r1',r2 v hv']
 · have hM:(levR (List.range (n+1)) E (n+1)).getD n 0=n:=by
     rw[r1 n (by omega)]
     intro u hc
     have hS:Closed E (fun z=>z=n):=fun e he=>by
      have:=hE e he
      constructor
      · intro q;omega
      · intro q;omega
     have:=hc _ hS rfl
     omega
   rw[List.range_succ,List.getD_eq_getElem?_getD]at hM
   simp[hM]
theorem loL_may {C:List Cr} {lo l2:Int} (hm:mayD C lo=true) (hp:QX1 C=true) {y:Nat} (hy:y<4) (hn:C.length<16) (h0:0<=l2) (h16:l2<=16):mayD (loL C y) l2=true/\QX1 (loL C y)=true:=by
 obtain⟨t,g,hg,h⟩:=loX_pd C.length y hy
 obtain⟨n0,n1,n2,n3⟩:=h (fun s=>pd (loL C y) (4*C.length+s)) (fun s hs=>by
  show pd (loL C y) (4*C.length+s)=_
  rw[QW0 _ _ hs,loL_new])
 have hl:=loL_len C y
 have hnew:∀ s,s<4->(s=g/\pd (loL C y) (4*C.length+s)=4*C.length+2)∨(s=(g+1)%4/\pd (loL C y) (4*C.length+s)=if t=true then 4*C.length+4 else 4*C.length+1)∨(s=(g+2)%4/\pd (loL C y) (4*C.length+s)=4*C.length+3)∨(s=(g+3)%4/\pd (loL C y) (4*C.length+s)=if t=true then 4*C.length+1 else 4*C.length+4):=fun s hs=>by
  rcases quarter hs hg with e|e|e|e
  · exact Or.inl ⟨e,by rw[e];exact n0⟩
  · exact Or.inr (Or.inl ⟨e,by rw[e];exact n1⟩)
  · exact Or.inr (Or.inr (Or.inl ⟨e,by rw[e];exact n2⟩))
  · exact Or.inr (Or.inr (Or.inr ⟨e,by rw[e];exact n3⟩))
 have hmD:mayD (loL C y) l2=true:=by
  refine may_pdT (sizeB_of (by omega) h0 h16 (by omega)) (fun k s hk hs=>?_) fun k s j u hk hs hj hu e=>?_
  · rw[hl]at hk ⊢
    rcases Nat.lt_or_ge k C.length with q|q
    · rw[loL_old C y q]
      have:=QK7 hm k s q hs
      have h1:=this.1
      have h2:=this.2.1
      omega
    · obtain rfl:k=C.length:=by omega
      rw[loL_new]
      rcases loX_arc C.length y hy s hs with e|e<;>rw[e]<;>omega
  · rw[hl]at hk hj
    rcases Nat.lt_or_ge k C.length with q|q<;>rcases Nat.lt_or_ge j C.length with r|r
    · rw[loL_pd C y q hs,loL_pd C y r hu]at e
      exact pd_inj hm r hu q hs e
    · obtain rfl:j=C.length:=by omega
      rw[loL_pd C y q hs]at e
      have:=(pd_at hm k s q hs).2.2.2.2
      rcases hnew u hu with⟨-,f⟩|⟨-,f⟩|⟨-,f⟩|⟨-,f⟩<;>rw[f]at e<;>cases t<;>first|omega|(simp only[if_true]at e;omega)|(simp only[Bool.false_eq_true,if_false]at e;omega)
    · obtain rfl:k=C.length:=by omega
      rw[loL_pd C y r hu]at e
      have:=(pd_at hm j u r hu).2.2.2.2
      rcases hnew s hs with⟨-,f⟩|⟨-,f⟩|⟨-,f⟩|⟨-,f⟩<;>rw[f]at e<;>cases t<;>first|omega|(simp only[if_true]at e;omega)|(simp only[Bool.false_eq_true,if_false]at e;omega)
    · obtain rfl:k=C.length:=by omega
      obtain rfl:j=C.length:=by omega
      refine⟨rfl,?_⟩
      rcases hnew s hs with⟨e1,f⟩|⟨e1,f⟩|⟨e1,f⟩|⟨e1,f⟩<;>rcases hnew u hu with⟨e2,f'⟩|⟨e2,f'⟩|⟨e2,f'⟩|⟨e2,f'⟩<;>rw[f,f']at e<;>cases t<;>first|omega|(simp only[if_true]at e;omega)|(simp only[Bool.false_eq_true,if_false]at e;omega)
 refine⟨hmD,?_⟩
 have q1:al (4*C.length+1)=4*C.length+2:=by rw[show 4*C.length+1=2*(2*C.length)+1 by omega,al_odd];omega
 have q2:al (4*C.length+2)=4*C.length+1:=by rw[show 4*C.length+2=2*(2*C.length)+2 by omega,al_even];omega
 have q3:al (4*C.length+3)=4*C.length+4:=by rw[show 4*C.length+3=2*(2*C.length+1)+1 by omega,al_odd];omega
 have q4:al (4*C.length+4)=4*C.length+3:=by rw[show 4*C.length+4=2*(2*C.length+1)+2 by omega,al_even];omega
 have i1:xt C (4*C.length+1)=4*C.length+1:=QJ8 (by omega)
 have i2:xt C (4*C.length+2)=4*C.length+2:=QJ8 (by omega)
 have i3:xt C (4*C.length+3)=4*C.length+3:=QJ8 (by omega)
 have i4:xt C (4*C.length+4)=4*C.length+4:=QJ8 (by omega)
 have b0:=xt_bij hm 4
 rw[show 4*C.length+1+4=4*C.length+5 by omega]at b0
 have c0:=xt_count hm 4
 rw[show 4*C.length+1+4=4*C.length+5 by omega]at c0
 have hF:(QQ3 (loL C y)).length=(QQ3 C).length+3:=by
  cases t with
  |true=>
   simp only[if_true]at n1 n3 hnew
   have c1:=QJ6 b0 (w:=4*C.length+2) (z:=4*C.length+3) (by omega) (by omega) i3 (by omega)
   have hc:=face_count hmD (tr (xt C) (4*C.length+2) (4*C.length+3)) (by rw[tr_o _ (by omega) (by omega),xt_zero]) (fun k s hk hs=>?_)
   · rw[hl,show 4*(C.length+1)+1=4*C.length+5 by omega]at hc
     omega
   · rcases Nat.lt_or_ge k C.length with q|q
     · obtain⟨-,-,-,w1,w2⟩:=pd_at hm k s q hs
       have hw:=QW5 w1 w2
       rw[loL_pd C y q hs,loL_pd C y q (Nat.mod_lt _ (by decide)),tr_o _ (by omega) (by omega),xt_low hw.1 hw.2.1,pd_sig hm k s q hs]
     · obtain rfl:k=C.length:=by omega
       rcases hnew s hs with⟨e1,f⟩|⟨e1,f⟩|⟨e1,f⟩|⟨e1,f⟩
       · rw[f,q2,tr_o _ (by omega) (by omega),i1,e1,n3]
       · have e2:(s+3)%4=g:=by omega
         rw[f,q4,tr_b,i2,e2,n0]
       · have e2:(s+3)%4=(g+1)%4:=by omega
         rw[f,q3,tr_o _ (by omega) (by omega),i4,e2,n1]
       · have e2:(s+3)%4=(g+2)%4:=by omega
         rw[f,q1,tr_a,i3,e2,n2]
  |false=>
   simp only[Bool.false_eq_true,if_false]at n1 n3 hnew
   have c1:=QJ6 b0 (w:=4*C.length+1) (z:=4*C.length+4) (by omega) (by omega) i4 (by omega)
   have hc:=face_count hmD (tr (xt C) (4*C.length+1) (4*C.length+4)) (by rw[tr_o _ (by omega) (by omega),xt_zero]) (fun k s hk hs=>?_)
   · rw[hl,show 4*(C.length+1)+1=4*C.length+5 by omega]at hc
     omega
   · rcases Nat.lt_or_ge k C.length with q|q
     · obtain⟨-,-,-,w1,w2⟩:=pd_at hm k s q hs
       have hw:=QW5 w1 w2
       rw[loL_pd C y q hs,loL_pd C y q (Nat.mod_lt _ (by decide)),tr_o _ (by omega) (by omega),xt_low hw.1 hw.2.1,pd_sig hm k s q hs]
     · obtain rfl:k=C.length:=by omega
       rcases hnew s hs with⟨e1,f⟩|⟨e1,f⟩|⟨e1,f⟩|⟨e1,f⟩
       · rw[f,q2,tr_a,i4,e1,n3]
       · have e2:(s+3)%4=g:=by omega
         rw[f,q1,tr_o _ (by omega) (by omega),i2,e2,n0]
       · have e2:(s+3)%4=(g+1)%4:=by omega
         rw[f,q3,tr_b,i1,e2,n1]
       · have e2:(s+3)%4=(g+2)%4:=by omega
         rw[f,q4,tr_o _ (by omega) (by omega),i3,e2,n2]
 have hP:pcN (loL C y)<=pcN C+1:=by
  unfold pcN
  rw[<-kN_more (QU9 hm),hl]
  refine kN_le (fun e he=>by have:=QU9 hm e he;omega) (by have:=QU9 hmD;rw[hl]at this;exact this) fun u v=>con_sub fun e he=>?_
  obtain⟨a,h1,h2,rfl⟩:=arcE_mem he
  have en:∀ p,enC (loL C y) a p=enC C a p:=fun p=>by
   obtain⟨g1,g2,g3⟩:=pd_en hm p h1 h2
   exact(en_pd hmD (by omega) g2 h1 (by rw[loL_pd C y g1 g2,g3])).1
  have:=QW8 (D:=loL C y) h1 (by omega)
  rw[en,en]at this
  exact this
 exact planar_more hm hmD hp (by omega)
end Go.Proofs.Ytagaajlbkfkaiaa

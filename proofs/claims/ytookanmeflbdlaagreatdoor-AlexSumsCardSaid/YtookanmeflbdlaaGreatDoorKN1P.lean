/- Several texts of the proof, one behind the other. -/
import Derived.Test.YtookanmeflbdlaaGreatDoorTkhP
import Derived.Test.YtookanmeflbdlaaGreatDoorA0t
import Derived.Test.YtookanmeflbdlaaGreatDoorSQ3P
import Derived.Test.YtookanmeflbdlaaGreatDoorAX1P
import Derived.Test.YtookanmeflbdlaaGreatDoorQ4P
import Derived.Test.YtookanmeflbdlaaGreatDoorF12P
import Derived.Test.YtookanmeflbdlaaGreatDoorBKaP
import Derived.Test.YtookanmeflbdlaaGreatDoorCyVP
import Derived.Test.YtookanmeflbdlaaGreatDoorAS5P
import Derived.Test.YtookanmeflbdlaaGreatDoorPA10P
import Derived.Test.YtookanmeflbdlaaGreatDoorPB4P
import Derived.Test.YtookanmeflbdlaaGreatDoorAL2P
/- What all layers tell of the trefoil; the walk of knotworkkeep.knows. -/
namespace Go.Proofs.YtookanmeflbdlaaGreatDoor
open Go.RowKit Go.Maps
set_option maxHeartbeats 4000000
set_option maxRecDepth 100000
def trS (f:Nat):Nat:=if f=1∨f=2∨f=4 then 1 else 0
theorem Kv6:∀ j,j<13->1<=j->trS (fo trC (tn j))=1-trS (fo trC j):=by decide +kernel
theorem Kv5:Shd trC trS:=⟨rfl,fun f=>by unfold trS;split<;>omega,fun j h1 h2=>Kv6 j (by have:trC.length=3:=rfl;omega) h1⟩
theorem KK5:noN trC 0=0:=by unfold noN;rw[if_pos Xu9,if_pos XU7]
theorem JX5:ZY2 trC 0=true:=by decide +kernel
theorem JU7:wrM trC trC.length = -3:=by decide +kernel
theorem JY1:cnS trS 0 (QQ3 trC).length=1+1:=by decide +kernel
theorem JX4:JW8 trC trS 1 = -2:=by decide +kernel
theorem Kh7:ovC trC=3:=by decide +kernel
theorem JY0:∀ i,i<3->(3:Int) ∣ eqR trC i 0-eqR trC i 1/\(3:Int) ∣ eqR trC i 1-eqR trC i 2:=by decide +kernel
theorem JX7:¬ (3:Int) ∣ eqR trC 0 0:=by decide +kernel
theorem Zz6 {v:Nat->Int} (h:Sp 3 3 (XV9 trC) v):(3:Int) ∣ v 0-v 1/\(3:Int) ∣ v 1-v 2:=by
 refine h (fun v=>(3:Int) ∣ v 0-v 1/\(3:Int) ∣ v 1-v 2) ⟨⟨by decide,by decide⟩,fun u v k hu hv=>⟨?_,?_⟩,fun u v hm hu=>?_⟩ ?_
 · have e:u 0+k*v 0-(u 1+k*v 1)=(u 0-u 1)+k*(v 0-v 1):=by rw[Int.mul_sub];omega
   show(3:Int) ∣ u 0+k*v 0-(u 1+k*v 1)
   rw[e]
   exact Int.dvd_add hu.1 (Int.dvd_mul_of_dvd_right hv.1)
 · have e:u 1+k*v 1-(u 2+k*v 2)=(u 1-u 2)+k*(v 1-v 2):=by rw[Int.mul_sub];omega
   show(3:Int) ∣ u 1+k*v 1-(u 2+k*v 2)
   rw[e]
   exact Int.dvd_add hu.2 (Int.dvd_mul_of_dvd_right hv.2)
 · have a0:=hm 0 (by omega)
   have a1:=hm 1 (by omega)
   have a2:=hm 2 (by omega)
   obtain⟨h1,h2⟩:=hu
   refine⟨?_,?_⟩<;>omega
 · rintro r ⟨i,hi,rfl⟩
   exact JY0 i hi
theorem JX6:foxM trC 0 3=2:=by
 unfold foxM
 rw[Kh7]
 have p0:ZC9 3 3 (XV9 trC) 0:=⟨eqR trC 0,⟨Sp.mem ⟨0,by decide,rfl⟩,fun j hj=>absurd hj (Nat.not_lt_zero _)⟩,JX7⟩
 have p1:¬ ZC9 3 3 (XV9 trC) 1:=fun⟨v,⟨h1,h2⟩,h3⟩=>by
  obtain⟨a,b⟩:=Zz6 h1
  have c:=h2 0 (by omega)
  exact h3 (by omega)
 have p2:¬ ZC9 3 3 (XV9 trC) 2:=fun⟨v,⟨h1,h2⟩,h3⟩=>by
  obtain⟨a,b⟩:=Zz6 h1
  have c:=h2 0 (by omega)
  exact h3 (by omega)
 rw[XQ0 p2,XQ0 p1,Qg0 p0]
 rfl
theorem JX3:alT trC 2=[[[(0,1)],[(1,-1)]],[[(0,-1),(1,1)],[(0,1)]]]:=by decide +kernel
theorem XV2 {a b c x y z:Int} (h1:a<b) (h2:b<c) (hx:x≠0) (hy:y≠0) (hz:z≠0):Poly.Canon [(a,x),(b,y),(c,z)] (Poly.coefL [(a,x),(b,y),(c,z)]):=by
 refine⟨?_,fun e k=>?_⟩
 · simp;omega
 · simp only[Poly.coefL,List.mem_cons,Prod.mk.injEq,List.not_mem_nil,or_false]
   by_cases c1:a=e
   · rw[if_pos c1,if_neg (by omega),if_neg (by omega)];omega
   · by_cases c2:b=e
     · rw[if_neg c1,if_pos c2,if_neg (by omega)];omega
     · by_cases c3:c=e
       · rw[if_neg c1,if_neg c2,if_pos c3];omega
       · rw[if_neg c1,if_neg c2,if_neg c3];omega
theorem JX8:Poly.detOf [[[(0,1)],[(1,-1)]],[[(0,-1),(1,1)],[(0,1)]]]=Poly.coefL [(0,1),(1,-1),(2,1)]:=by
 funext y
 have e:Poly.detOf [[[(0,1)],[(1,-1)]],[[(0,-1),(1,1)],[(0,1)]]] y=(1*((1*Poly.oneF (y-0-0)+0)-0)+0)-((-1*((-1*Poly.oneF (y-1-0)+(1*Poly.oneF (y-1-1)+0))-0)+0)-0):=rfl
 rw[e]
 simp only[Poly.coefL,Poly.oneF]
 by_cases h0:y=0
 · subst h0;decide
 · by_cases h1:y=1
   · subst h1;decide
   · by_cases h2:y=2
     · subst h2;decide
     · rw[if_neg (by omega),if_neg (by omega),if_neg (by omega),if_neg (by omega),if_neg (by omega),if_neg (by omega)]
       decide
theorem Kv4 {l:List (Int×Int)} (h:IsAlex trC 0 l):l.length=3:=by
 unfold IsAlex at h
 rw[Kh7,if_neg (by decide),if_neg (by decide)]at h
 obtain⟨l0,c0,rfl⟩:=h
 rw[show 3-1=2 from rfl,JX3,JX8]at c0
 rw[Poly.canon_unique c0 (XV2 (by decide) (by decide) (by decide) (by decide) (by decide))]
 rfl
theorem JU9:Poly.jnE trC 0=[(4,1),(12,1),(16,-1)]:=by decide +kernel
theorem KJ6 {l:List (Int×Int)} (h:Poly.Canon l (Poly.jnF trC 0)):l.length=3:=by
 rw[Poly.jnE_is Xu9 (by decide),JU9]at h
 rw[Poly.canon_unique h (XV2 (by decide) (by decide) (by decide) (by decide) (by decide))]
 rfl
theorem Zh2 (w:World) (hR:Poly.RingAt w):Calls Tryz.prog 4 #[] w fun e w'=>e=.returned (.bool true)/\Below w.heap.size w w':=by
 have HWR:=hidS (fun v W h=>XU4 QK4 v trC 0 W KK5 h)
 have HFX:=hidS (fun v W h=>Kd0 QK4 v trC 0 3 W (by omega) (by decide) KK5 h)
 have HAX:=hidS (fun v W h=>QJ2 QK4 v trC 0 W KK5 (by decide) h)
 have HSG:=hidS (fun v W h=>XA8 v trC 0 trS 1 W Xu9 XU7 JX5 Kv5 JY1 (by omega) h)
 have HJN:=hidS (fun v W h hr=>Poly.jones_yes QK4 v trC 0 0 W rfl KK5 (by decide) h hr)
 rw[JU7]at HWR
 rw[JX6]at HFX
 rw[JX4]at HSG
 have HRG:=hidS hR
 clear hR
 go_enter Tryz.func4,Tryz.ntmps4
 go_upto_region 2 with(go_at_call 11;refine(Xf1 _).mono ?_;rintro e9 w1 ⟨a,c,rfl,hc,hb1⟩)
 have hlen:trC.length=3:=rfl
 obtain⟨X,hX⟩:∃ X,X=w1.alloc (.cells #[.slice a trC.length c,.int .i64 0] 24):=⟨_,rfl⟩
 rw[<-hX]
 have hsX:w1.heap.size<X.heap.size:=by rw[hX];simp
 have HT:=hidB (show X.heap[w1.heap.size]?=some (.cells #[.slice a trC.length c,.int .i64 0] 24 (0,0)) by rw[hX];exact alloc_at rfl)
 have HBW:=hidB (show Below w.heap.size w X by rw[hX];exact hb1.alloc hb1.size _)
 have HC:Hid (∀ w',Below X.heap.size X w'->Crs w' w'.heap.size (.slice a trC.length c) trC):=fun w' hb=>(hc.up (by rw[hX];exact(Below.refl _ _).alloc (Nat.le_refl _) _)).up hb
 have HF:Hid (∀ w',Below X.heap.size X w'->w'.cell? ⟨w1.heap.size,0,none⟩=some (.slice a trC.length c)/\w'.cell? ⟨w1.heap.size,1,none⟩=some (.int .i64 0)/\w1.heap.size<w'.heap.size):=fun w' hb=>by
  have g:=(hb.block _ hsX).trans HT.out
  exact⟨QQ0 g rfl,QQ0 g rfl,(Array.getElem?_eq_some_iff.1 g).1⟩
 clear hX hc hb1 hlen hsX
 obtain⟨p0,p1,p2⟩:=HF.out X (Below.refl _ _)
 go_upto_region 3 with(go_at_call 12;refine(HWR.out _ _ (HC.out _ (Below.refl _ _))).mono ?_;rintro e9 w2 ⟨rfl,hb2⟩)
 have H2:=hidB hb2
 clear hb2 p0 p1 p2
 obtain⟨p0,p1,p2⟩:=HF.out w2 H2.out
 go_upto_region 4 with(go_at_call 13;refine(HFX.out _ _ (HC.out _ H2.out)).mono ?_;rintro e9 w3 ⟨rfl,hb3⟩)
 have H3:=hidB (H2.out.trans (hb3.mono H2.out.size))
 clear hb3 p0 p1 p2
 obtain⟨p0,p1,p2⟩:=HF.out w3 H3.out
 go_upto_region 5 with(go_at_call 5;refine(HAX.out _ _ (HC.out _ H3.out)).mono ?_;rintro e9 w4 ⟨v4,l4,rfl,hp4,hi4,hb4⟩;obtain⟨a4,c4,e4,-⟩:=hp4.slice;rw[Kv4 hi4]at e4;subst e4)
 have H4:=hidB (H3.out.trans (hb4.mono H3.out.size))
 clear hb4 p0 p1 p2 hp4 hi4
 obtain⟨p0,p1,p2⟩:=HF.out w4 H4.out
 go_upto_region 6 with(go_at_call 14;refine(HSG.out _ _ (HC.out _ H4.out)).mono ?_;rintro e9 w5 ⟨rfl,hb5⟩)
 have H5:=hidB (H4.out.trans (hb5.mono H4.out.size))
 clear hb5 p0 p1 p2
 obtain⟨p0,p1,p2⟩:=HF.out w5 H5.out
 go_upto_region 7 with(go_at_call 15;refine(HJN.out _ _ (HC.out _ H5.out) ((HRG.out.any HBW.out).any H5.out)).mono ?_;rintro e9 w6 ⟨v6,l6,rfl,hp6,hi6,hb6⟩;obtain⟨a6,c6,e6,-⟩:=hp6.1.slice;rw[KJ6 hi6]at e6;subst e6)
 have H6:=hidB (H5.out.trans (hb6.mono H5.out.size))
 clear hb6 p0 p1 p2 hp6 hi6
 go_wp2
 go_ret
 exact⟨rfl,HBW.out.trans (H6.out.mono HBW.out.size)⟩
end Go.Proofs.YtookanmeflbdlaaGreatDoor
/- The law AlexSums: its walk. -/
namespace Go.Proofs.YtookanmeflbdlaaGreatDoor
open Go.RowKit Go.Maps
set_option maxHeartbeats 8000000
set_option maxRecDepth 100000
theorem XJ4 (x : Int) (n : Nat) (w : World) (hx : -9223372036854775808 ≤ x ∧ x ≤ 9223372036854775807) (h0 : 0 < n) (h1 : n ≤ 1000) :
    Calls Tryz.prog 7 #[.int .i64 x,.int .i64 (n:Nat)] w fun e w'=>∃ r:Nat,e=.returned (.int .i64 (r:Nat))/\r<n/\w'=w:=by
 have hz:((n:Int)==0)=false:=beq_eq_false_iff_ne.2 (by omega)
 by_cases hn:x<0
 · have hd:decide (x<0)=true:=decide_eq_true hn
   have e1:IntKind.i64.wrap (x+1)=x+1:=IntWalk.i64_in _ (by omega)
   have e2:IntKind.i64.wrap (-(x+1)) = -(x+1):=IntWalk.i64_in _ (by omega)
   obtain⟨q,hq⟩:∃ q:Nat,-(x+1)=(q:Int):=⟨(-(x+1)).toNat,by omega⟩
   have er:(q:Int).tmod (n:Int)=((q%n:Nat):Int):=rfl
   have hlt:=Nat.mod_lt q h0
   have e3:IntKind.i64.wrap ((q%n:Nat):Int)=((q%n:Nat):Int):=IntWalk.i64_in _ (by omega)
   go_enter Tryz.func7,Tryz.ntmps7
   go_wp2
   go_ret
   exact⟨q%n,by simp,hlt,rfl⟩
 · have hd:decide (x<0)=false:=decide_eq_false hn
   obtain⟨q,hq⟩:∃ q:Nat,x=(q:Int):=⟨x.toNat,by omega⟩
   subst hq
   have er:(q:Int).tmod (n:Int)=((q%n:Nat):Int):=rfl
   have hlt:=Nat.mod_lt q h0
   have e3:IntKind.i64.wrap ((q%n:Nat):Int)=((q%n:Nat):Int):=IntWalk.i64_in _ (by omega)
   go_enter Tryz.func7,Tryz.ntmps7
   go_wp2
   go_ret
   exact⟨q%n,by simp,hlt,rfl⟩
theorem Qb4 {B z:Nat} {w w':World} {a b:Value} (h:Below B w w') (hB:B<=w'.heap.size) (hz:B<=z):Below B w ((w'.setCell ⟨z,0,none⟩ a).setCell ⟨z,1,none⟩ b):=
 (h.grown (QX3 w' z 0 a) hB (fun k hk=>by have:=Option.some.inj hk;omega)).grown (QX3 _ z 1 b) (by simpa using hB) (fun k hk=>by have:=Option.some.inj hk;omega)
theorem KG2 {W W2:World} {g:Nat} {c d:Value} {v:Value} {T:List Cr} (hT:W.heap[g]?=some (.cells #[c,d] 24 (0,0))) (hc:Crs W W.heap.size v T) (hg:W.grownBy W2 (some g)):Crs W2 W2.heap.size v T:=by
 obtain⟨a,cap,e,hl,hr⟩:=hc
 refine⟨a,cap,e,hl,fun h0=>?_⟩
 obtain⟨b,off,e1,hb,hx⟩:=hr h0
 have hne:b≠g:=fun q=>by
  have h5:=(hx 0 h0).2.2.2.2
  rw[q]at h5
  have h6:W.cell? ⟨g,off+0*5+4,none⟩=none:=by simp[World.cell?,hT]
  rw[h6]at h5
  cases h5
 have hk:W2.heap[b]?=W.heap[b]?:=hg.block b hb (fun q=>hne (Option.some.inj q))
 have hcell:∀ k,W2.cell? ⟨b,k,none⟩=W.cell? ⟨b,k,none⟩:=fun k=>by simp[World.cell?,hk]
 refine⟨b,off,e1,?_,fun i hi=>?_⟩
 · have hb2:b<W.heap.size:=hb
   have:W2.heap[b]?=some W.heap[b]:=by rw[hk];exact Array.getElem?_eq_getElem hb2
   exact(Array.getElem?_eq_some_iff.1 this).1
 · have h:=hx i hi
   simp only[hcell]
   exact h
theorem Xw0 {a b c:World} {r:Option Nat} (h1:a.grownBy b r) (h2:b.grownBy c r):a.grownBy c r:=
 ⟨h2.os.trans h1.os,h2.tape.trans h1.tape,h2.output.trans h1.output,Nat.le_trans h1.size h2.size,fun k hk hr=>(h2.block k (Nat.lt_of_lt_of_le hk h1.size) hr).trans (h1.block k hk hr)⟩
theorem Qb0 {W:World} {B:Nat} {v:Value} {C:List Cr} (h:Crs W B v C):∃ a c,v=.slice a C.length c:=by
 obtain⟨a,c,e,-,-⟩:=h
 exact⟨a,c,e⟩
theorem Zy6 {C D:List Cr} {x y l:Int} (h0:0<C.length) (h:C.length+D.length<=16) (hl0:0<=l) (hl1:l<=16):QF3 (QX4 C D x y) l=true:=by
 have hl:=QV8 C D x y
 unfold QF3
 rw[hl,decide_eq_true (show C.length+D.length<=16 by omega),decide_eq_true hl0,decide_eq_true hl1,decide_eq_false (show ¬ C.length+D.length=0 by omega)]
 rfl
theorem JD4 {w V:World} {a x b y:Value} (h:(w.alloc (.cells #[a,x] 24)).alloc (.cells #[b,y] 24)=V):∀ W,Below V.heap.size V W->W.cell? ⟨w.heap.size,0,none⟩=some a/\W.cell? ⟨w.heap.size,1,none⟩=some x/\W.cell? ⟨w.heap.size+1,0,none⟩=some b/\W.cell? ⟨w.heap.size+1,1,none⟩=some y/\w.heap.size+1<W.heap.size:=fun W hW=>by
 have g0:V.heap[w.heap.size]?=some (.cells #[a,x] 24 (0,0)):=by rw[<-h];exact alloc_old (alloc_at rfl)
 have g1:V.heap[w.heap.size+1]?=some (.cells #[b,y] 24 (0,0)):=by rw[<-h];exact alloc_at (by simp)
 have k0:=(hW.block _ (Array.getElem?_eq_some_iff.1 g0).1).trans g0
 have k1:=(hW.block _ (Array.getElem?_eq_some_iff.1 g1).1).trans g1
 exact⟨QQ0 k0 rfl,QQ0 k0 rfl,QQ0 k1 rfl,QQ0 k1 rfl,(Array.getElem?_eq_some_iff.1 k1).1⟩
theorem XK0 {W:World} {g n cap:Nat} {c d:Value} {a:Option Addr} {T:List Cr} {u:Value} (hT:W.heap[g]?=some (.cells #[c,d] 24 (0,0))) (hc:Crs W W.heap.size (.slice a n cap) T):Crs ((W.setCell ⟨g,0,none⟩ (.slice a n cap)).setCell ⟨g,1,none⟩ u) ((W.setCell ⟨g,0,none⟩ (.slice a n cap)).setCell ⟨g,1,none⟩ u).heap.size (.slice a n cap) T:=
 KG2 hT hc (Xw0 (QX3 W g 0 (.slice a n cap)) (QX3 (W.setCell ⟨g,0,none⟩ (.slice a n cap)) g 1 u))
def BxW (U:World) (g:Nat) (a:Option Addr) (n c:Nat) (l:Int):Prop:=∀ W,Below U.heap.size U W->W.cell? ⟨g,0,none⟩=some (.slice a n c)/\W.cell? ⟨g,1,none⟩=some (.int .i64 l)/\g<W.heap.size
theorem bxW {U:World} {g n c:Nat} {a:Option Addr} {l:Int} (h:U.heap[g]?=some (.cells #[.slice a n c,.int .i64 l] 24 (0,0))):BxW U g a n c l:=fun W hW=>by
 have k:=(hW.block _ (Array.getElem?_eq_some_iff.1 h).1).trans h
 exact⟨QQ0 k rfl,QQ0 k rfl,(Array.getElem?_eq_some_iff.1 k).1⟩
theorem Xy5 {W:World} {g:Nat} {a b x y:Value} {cs:Array Value} (hc:cs=#[a,b]) (h:W.heap[g]?=some (.cells cs 24 (0,0))):((W.setCell ⟨g,0,none⟩ x).setCell ⟨g,1,none⟩ y).heap[g]?=some (.cells #[x,y] 24 (0,0)):=by
 subst hc
 exact QX1 (i:=1) (u:=y) (QX1 (i:=0) (u:=x) h)
theorem XA4 (v : Value) (C : List Cr) (l : Int) (w : World) (hn : ¬ (noN C l = 0 ∧ C.length ≤ 10)) (h : Crs w w.heap.size v C) :
    Calls Tryz.prog 5 #[.agg #[v,.int .i64 l]] w fun e w'=>∃ r:Int,e=.returned (.tuple #[.slice none 0 0,.int .i64 r])/\(r != 0)=true/\Below w.heap.size w w':=by
 by_cases h1:noN C l=0
 · exact(XW8 QK4 v C l w h1 (by omega) h).mono fun e w' ⟨he,hb⟩=>⟨_,he,rfl,hb⟩
 · exact(Xw6 QK4 v C l w h1 h).mono fun e w' ⟨he,hb⟩=>⟨_,he,by simpa using h1,hb⟩
theorem KJ2 {l:List (Int×Int)} (h:UnL l):Poly.unitL l=l:=by
 rcases h.first with e|⟨c,m,e,hc⟩
 · rw[e];rfl
 · rw[e]
   unfold Poly.unitL
   refine(List.map_congr_left (g:=id) fun u _=>?_).trans (List.map_id _)
   show(u.1-0,if c<0 then -u.2 else u.2)=u
   rw[if_neg (by omega),Int.sub_zero]
theorem Xw7 (v1 v2 : Value) (C D : List Cr) (l1 l2 x y : Int) (w : World) (hx : -9223372036854775808 ≤ x ∧ x ≤ 9223372036854775807) (hy : -9223372036854775808 ≤ y ∧ y ≤ 9223372036854775807) (h1 : Crs w w.heap.size v1 C) (h2 : Crs w w.heap.size v2 D) (hR : Poly.RingAt w) :
    Calls Tryz.prog 3 #[.agg #[v1,.int .i64 l1],.int .i64 x,.agg #[v2,.int .i64 l2],.int .i64 y] w fun e w'=>e=.returned (.bool true)/\Below w.heap.size w w':=by
 obtain⟨a1,c1,rfl⟩:=Qb0 h1
 obtain⟨a2,c2,rfl⟩:=Qb0 h2
 obtain⟨n1,hN1⟩:∃ n,C.length=n:=⟨_,rfl⟩
 obtain⟨n2,hN2⟩:∃ n,D.length=n:=⟨_,rfl⟩
 rw[hN1]at h1 ⊢
 rw[hN2]at h2 ⊢
 have HN1:=hidS hN1
 have HN2:=hidS hN2
 clear hN1 hN2
 obtain⟨X,hX⟩:∃ X,(w.alloc (.cells #[.slice a1 n1 c1,.int .i64 l1] 24)).alloc (.cells #[.slice a2 n2 c2,.int .i64 l2] 24)=X:=⟨_,rfl⟩
 have hBX:Below w.heap.size w X:=by rw[<-hX];exact QW3 _ _ _
 have HF:=hidS (JD4 hX)
 have HBX:=hidS hBX
 have HC1:=hidS (fun(W:World) (hW:Below X.heap.size X W)=>(h1.up hBX).up hW)
 have HC2:=hidS (fun(W:World) (hW:Below X.heap.size X W)=>(h2.up hBX).up hW)
 have HRG:=hidS (fun(W:World) (hW:Below X.heap.size X W)=>(hR.any hBX).any hW)
 have HKN:=hidS (fun W hr=>Zh2 W hr)
 have HXX:=hidS hX
 have HXR:=hidS hx
 have HYR:=hidS hy
 clear h1 h2 hR hX hBX hx hy
 go_enter Tryz.func3,Tryz.ntmps3
 go_upto_region 3 with(go_at_call 4;rw[HXX.out];refine(HKN.out _ (HRG.out _ (Below.refl _ _))).mono ?_;rintro e9 w1 ⟨rfl,hb1⟩)
 have H1:Hid (Below X.heap.size X w1):=hb1
 clear hb1
 obtain⟨p0,p1,p2,p3,p4⟩:=HF.out w1 H1.out
 by_cases q1:¬ (noN C l1=0/\C.length<=10)
 · have HJ1:=hidS (fun W h=>XA4 (.slice a1 n1 c1) C l1 W q1 h)
   go_upto_region 4 with(go_at_call 5;refine(HJ1.out _ (HC1.out _ H1.out)).mono ?_;rintro e9 w2 ⟨r1,rfl,hr1,hb2⟩)
   have H2:Hid (Below X.heap.size X w2):=H1.out.trans (hb2.mono H1.out.size)
   clear hb2 p0 p1 p2 p3 p4 HJ1
   obtain⟨p0,p1,p2,p3,p4⟩:=HF.out w2 H2.out
   have HJ2:Hid (∀ W,Crs W W.heap.size (.slice a2 n2 c2) D->Calls Tryz.prog 5 #[.agg #[.slice a2 n2 c2,.int .i64 l2]] W fun e w'=>∃ (v:Value) (r:Int),e=.returned (.tuple #[v,.int .i64 r])/\Below W.heap.size W w'):=fun W h=>by
    by_cases q2:¬ (noN D l2=0/\D.length<=10)
    · exact(XA4 _ D l2 W q2 h).mono fun e w' ⟨r,he,_,hb⟩=>⟨_,r,he,hb⟩
    · have q2:=Classical.not_not.1 q2
      exact(QJ2 QK4 _ D l2 W q2.1 q2.2 h).mono fun e w' ⟨v,l,he,_,_,hb⟩=>⟨v,0,he,hb⟩
   go_upto_region 5 with(go_at_call 5;refine(HJ2.out _ (HC2.out _ H2.out)).mono ?_;rintro e9 w3 ⟨v3,r2,rfl,hb3⟩)
   have HE3:Hid (Below w.heap.size w w3):=(HBX.out.trans (H2.out.mono HBX.out.size)).trans (hb3.mono (HBX.out.trans (H2.out.mono HBX.out.size)).size)
   clear hb3
   go_wp2
   go_ret
   exact⟨by first|rfl|simp,HE3.out⟩
 have q1:=Classical.not_not.1 q1
 have HJ1:=hidS (fun W h=>QJ2 QK4 (.slice a1 n1 c1) C l1 W q1.1 q1.2 h)
 go_upto_region 4 with(go_at_call 5;refine(HJ1.out _ (HC1.out _ H1.out)).mono ?_;rintro e9 w2 ⟨vp,lp,rfl,hpp,hcp,hb2⟩)
 have H2:Hid (Below X.heap.size X w2):=H1.out.trans (hb2.mono H1.out.size)
 have HPP:=hidS hpp
 have HCP:=hidS hcp
 clear hb2 p0 p1 p2 p3 p4 HJ1 hpp hcp
 obtain⟨p0,p1,p2,p3,p4⟩:=HF.out w2 H2.out
 by_cases q2:¬ (noN D l2=0/\D.length<=10)
 · have HJ2:=hidS (fun W h=>XA4 (.slice a2 n2 c2) D l2 W q2 h)
   go_upto_region 5 with(go_at_call 5;refine(HJ2.out _ (HC2.out _ H2.out)).mono ?_;rintro e9 w3 ⟨r2,rfl,hr2,hb3⟩)
   have HE3:Hid (Below w.heap.size w w3):=(HBX.out.trans (H2.out.mono HBX.out.size)).trans (hb3.mono (HBX.out.trans (H2.out.mono HBX.out.size)).size)
   clear hb3
   go_wp2
   go_ret
   exact⟨by first|rfl|simp,HE3.out⟩
 have q2:=Classical.not_not.1 q2
 have HJ2:=hidS (fun W h=>QJ2 QK4 (.slice a2 n2 c2) D l2 W q2.1 q2.2 h)
 go_upto_region 5 with(go_at_call 5;refine(HJ2.out _ (HC2.out _ H2.out)).mono ?_;rintro e9 w3 ⟨vq,lq,rfl,hpq,hcq,hb3⟩)
 have H3:Hid (Below X.heap.size X w3):=H2.out.trans (hb3.mono H2.out.size)
 have HE3:Hid (Below w.heap.size w w3):=HBX.out.trans (H3.out.mono HBX.out.size)
 have HPP3:Hid (∀ W,Below w3.heap.size w3 W->Poly.Poly W W.heap.size vp lp):=fun W hW=>(HPP.out.up hb3).up hW
 have HPQ3:Hid (∀ W,Below w3.heap.size w3 W->Poly.Poly W W.heap.size vq lq):=fun W hW=>hpq.up hW
 have HCQ:=hidS hcq
 clear hb3 p0 p1 p2 p3 p4 HJ2 hpq hcq HPP
 obtain⟨p0,p1,p2,p3,p4⟩:=HF.out w3 H3.out
 obtain⟨m1,f1⟩:=QU7 q1.1
 obtain⟨m2,f2⟩:=QU7 q2.1
 obtain⟨b1,-⟩:n1<=10/\True:=⟨by have:=HN1.out;omega,trivial⟩
 obtain⟨b2,-⟩:n2<=10/\True:=⟨by have:=HN2.out;omega,trivial⟩
 have hlo:0<=l1/\l1<=16/\0<=l2/\l2<=16:=by
  obtain⟨-,s1,s2,-⟩:=QX5 (QZ6 m1)
  obtain⟨-,s3,s4,-⟩:=QX5 (QZ6 m2)
  exact⟨s1,s2,s3,s4⟩
 have HM1:=hidS m1
 have HM2:=hidS m2
 have HF1:=hidS f1
 have HF2:=hidS f2
 clear m1 m2 f1 f2 q1 q2
 have hadd:IntKind.i64.wrap ((n1:Int)+(n2:Int))=(n1:Int)+(n2:Int):=IntWalk.i64_in _ (by omega)
 obtain⟨m,hm⟩:∃ m,IntKind.i64.wrap (l1+l2)=m:=⟨_,rfl⟩
 have hmv:m=l1+l2:=by rw[<-hm];exact IntWalk.i64_in _ (by omega)
 have HMV:=hidS hmv
 have HLO:=hidS hlo
 by_cases z1:n1=0
 · have z1b:((n1:Int)==0)=true:=by simpa using z1
   subst z1
   clear hmv
   go_wp2
   go_ret
   exact⟨by first|rfl|simp,HE3.out⟩
 have z1b:((n1:Int)==0)=false:=beq_eq_false_iff_ne.2 (by omega)
 by_cases z2:n2=0
 · have z2b:((n2:Int)==0)=true:=by simpa using z2
   subst z2
   clear hmv
   go_wp2
   go_ret
   exact⟨by first|rfl|simp,HE3.out⟩
 have z2b:((n2:Int)==0)=false:=beq_eq_false_iff_ne.2 (by omega)
 by_cases q3:10<n1+n2
 · have hgt2:decide (10<(n1:Int)+(n2:Int))=true:=decide_eq_true (by omega)
   clear hmv
   go_wp2
   go_ret
   exact⟨by first|rfl|simp,HE3.out⟩
 have hgt2:decide (10<(n1:Int)+(n2:Int))=false:=decide_eq_false (by omega)
 by_cases q4:0<m
 · have hgt3:decide (0<m)=true:=decide_eq_true (by omega)
   clear hmv
   go_wp2
   go_ret
   exact⟨by first|rfl|simp,HE3.out⟩
 have hgt3:decide (0<m)=false:=decide_eq_false (by omega)
 have HL1:Hid (l1=0):=(by omega:l1=0)
 have HL2:Hid (l2=0):=(by omega:l2=0)
 clear hmv hlo
 obtain⟨d1,hd1⟩:∃ d,d=2*n1:=⟨_,rfl⟩
 obtain⟨d2,hd2⟩:∃ d,d=2*n2:=⟨_,rfl⟩
 obtain⟨l3,hl3⟩:∃ l,l=l1+l2:=⟨_,rfl⟩
 have HD1:=hidS hd1
 have HD2:=hidS hd2
 have HL3:=hidS hl3
 have hdb:IntKind.i64.wrap (2*(n1:Int))=(d1:Int):=by rw[IntWalk.i64_in _ (by omega)];omega
 have hdb2:IntKind.i64.wrap (2*(n2:Int))=(d2:Int):=by rw[IntWalk.i64_in _ (by omega)];omega
 have hdr:d1<=20/\d2<=20/\0<d1/\0<d2:=⟨by omega,by omega,by omega,by omega⟩
 clear hd1 hd2 hl3
 have HD:Hid (Below w3.heap.size w3 w3.drew):=below_drewN (Below.refl _ _) 1
 have HKP:Hid (∀ W,Below w3.heap.size w3 W->W.cell? ⟨w.heap.size,0,none⟩=some (.slice a1 n1 c1)/\W.cell? ⟨w.heap.size,1,none⟩=some (.int .i64 l1)/\W.cell? ⟨w.heap.size+1,0,none⟩=some (.slice a2 n2 c2)/\W.cell? ⟨w.heap.size+1,1,none⟩=some (.int .i64 l2)):=fun W hW=>by
  obtain⟨k0,k1,k2,k3,-⟩:=HF.out W (H3.out.trans (hW.mono H3.out.size))
  exact⟨k0,k1,k2,k3⟩
 have HPX:Hid (∀ W,Calls Tryz.prog 7 #[.int .i64 x,.int .i64 (d1:Int)] W fun e w'=>∃ r:Nat,e=.returned (.int .i64 (r:Nat))/\r<d1/\w'=W):=fun W=>XJ4 x d1 W HXR.out (by omega) (by omega)
 have HPY:Hid (∀ W,Calls Tryz.prog 7 #[.int .i64 y,.int .i64 (d2:Int)] W fun e w'=>∃ r:Nat,e=.returned (.int .i64 (r:Nat))/\r<d2/\w'=W):=fun W=>XJ4 y d2 W HYR.out (by omega) (by omega)
 have HSU:Hid (∀ (k1 k2:Nat) (W:World),k1<d1->k2<d2->Below w3.heap.size w3 W->Calls Tryz.prog 6 #[.agg #[.slice a1 n1 c1,.int .i64 l1],.int .i64 ((k1+1:Nat):Int),.agg #[.slice a2 n2 c2,.int .i64 l2],.int .i64 ((k2+1:Nat):Int)] W fun e w'=>∃ (a16:Option Addr) (cap16 n16:Nat) (T:List Cr),e=.returned (.tuple #[.agg #[.slice a16 n16 cap16,.int .i64 l3],.int .i64 0])/\Hid (n16=T.length)/\Hid (T=QX4 C D ((k1+1:Nat):Int) ((k2+1:Nat):Int))/\Crs w' w'.heap.size (.slice a16 n16 cap16) T/\Below W.heap.size W w'):=fun k1 k2 W h1 h2 hW=>by
  have e1:=HN1.out
  have e2:=HN2.out
  have e3:=HD1.out
  have e4:=HD2.out
  have e5:=HL1.out
  have e6:=HL2.out
  refine(JZ3 _ _ C D l1 l2 _ _ W (HC1.out W (H3.out.trans (hW.mono H3.out.size))) (HC2.out W (H3.out.trans (hW.mono H3.out.size))) HM1.out HM2.out (by unfold hasB;simp;omega) (by unfold hasB;simp;omega) (by omega) (by omega)).mono ?_
  rintro e w' ⟨r,rfl,hc,hb⟩
  obtain⟨a16,cap16,e16⟩:=Qb0 hc
  subst e16
  exact⟨a16,cap16,_,_,by rw[HL3.out],rfl,rfl,hc,hb⟩
 have HTL:Hid (∀ (k1 k2:Nat) (T:List Cr),k1<d1->k2<d2->T=QX4 C D ((k1+1:Nat):Int) ((k2+1:Nat):Int)->noN T l3=0/\T.length<=10/\∀ lr lt,IsAlex T l3 lr->Poly.Canon lt (fun z=>Poly.prodL lp (Poly.coefL lq) z)->lt=lr/\Poly.mayB lr=true/\Poly.unitL lr=lr):=fun k1 k2 T h1 h2 e=>by
  subst e
  have e1:=HN1.out
  have e2:=HN2.out
  have e3:=HD1.out
  have e4:=HD2.out
  have e5:=HL1.out
  have e6:=HL2.out
  have e8:l3=0:=by have:=HL3.out;omega
  have g1:=HM1.out
  have g2:=HM2.out
  have g3:=HCP.out
  have g4:=HCQ.out
  rw[e5]at g1 g3
  rw[e6]at g2 g4
  rw[e8]
  have hT:=Kv8 (l:=0) g1 g2 (x:=k1+1) (y:=k2+1) (by omega) (by omega) (by omega) (by omega) (Zy6 (by omega) (by omega) (by omega) (by omega))
  have hpT:=Zy0 g1 g2 (x:=k1+1) (y:=k2+1) (by omega) (by omega) (by omega) (by omega) hT HF1.out HF2.out
  refine⟨?_,by rw[QV8];omega,fun lr lt hA hc=>⟨?_,?_,?_⟩⟩
  · unfold noN
    rw[if_pos hT,if_pos hpT]
  · exact KH5 g1 g2 HF1.out HF2.out (x:=k1+1) (y:=k2+1) (by omega) (by omega) (by omega) (by omega) hT hpT g3 g4 hA hc
  · exact hA.may hT (by rw[QV8];omega)
  · exact KJ2 (Qh2 hT hpT (by rw[QV8];omega) rfl hA).1
 have HMP:Hid (Poly.mayB lp=true):=by
  have e1:=HN1.out
  exact(HCP.out.may HM1.out (by omega):Poly.mayB lp=true)
 have HMQ:Hid (Poly.mayB lq=true):=by
  have e1:=HN2.out
  exact(HCQ.out.may HM2.out (by omega):Poly.mayB lq=true)
 clear HXR HYR HXX HKN HM1 HM2 HF1 HF2 HCP HCQ HL1 HL2 HLO HN1 HN2 HD1 HD2 HL3 HMV HRG
 go_wp2
 refine wp_region_held_drew (S:=fun w'=>w'.cell? ⟨w.heap.size,0,none⟩=some (.slice a1 n1 c1)/\w'.cell? ⟨w.heap.size,1,none⟩=some (.int .i64 l1)/\w'.cell? ⟨w.heap.size+1,0,none⟩=some (.slice a2 n2 c2)/\w'.cell? ⟨w.heap.size+1,1,none⟩=some (.int .i64 l2)) (by kernel_rfl) (HKP.out _ HD.out) (fun hHeld=>?_)
 refine tk 0 (h:=?_)
 refine tk 1 (h:=?_)
 refine tk 2 (h:=?_)
 refine tk 3 (h:=?_)
 refine tk 4 (h:=?_)
 refine tk 5 (h:=?_)
 refine tk 8 (h:=?_)
 refine tk 9 (h:=?_)
 refine tk 10 (h:=?_)
 try simp only[List.getElem_toArray,List.getElem_cons_succ,List.getElem_cons_zero]
 refine tk 11 (h:=?_)
 try simp only[List.getElem_toArray,List.getElem_cons_succ,List.getElem_cons_zero]
 refine tk 12 (h:=?_)
 try simp only[List.getElem_toArray,List.getElem_cons_succ,List.getElem_cons_zero]
 refine tk 13 (h:=?_)
 try simp only[List.getElem_toArray,List.getElem_cons_succ,List.getElem_cons_zero]
 try simp only[Act.put]
 refine wpAnyH_ready (rs:=[6,20]) (by kernel_rfl) (by simp) ?_
 refine AllReadyH.cons (i:=6) (rs:=[20]) rfl (fun K hK=>?_) (AllReadyH.cons (i:=20) (rs:=[]) rfl (fun K hK=>?_) AllReadyH.nil)
 · go_simp
   go_wp2_with (go_at_call 7;refine(HPX.out _).mono ?_;rintro e9 w14 ⟨k1,rfl,hk1,e99⟩;obtain rfl:=e99.symm;clear e99)
   refine hK.out _ _ (HKP.out _ HD.out) (fun hHeld=>?_)
   clear hK K
   try simp only[Act.put]
   have hd1:IntKind.i64.wrap (1+(k1:Int))=((k1+1:Nat):Int):=(by rw[IntWalk.i64_in _ (by omega)];omega)
   refine tk 7 (h:=?_)
   try simp only[Act.put]
   refine wpAnyH_ready (rs:=[14,20]) (by kernel_rfl) (by simp) ?_
   refine AllReadyH.cons (i:=14) (rs:=[20]) rfl (fun K hK=>?_) (AllReadyH.cons (i:=20) (rs:=[]) rfl (fun K hK=>?_) AllReadyH.nil)
   · go_simp
     go_wp2_with (go_at_call 7;refine(HPY.out _).mono ?_;rintro e9 w15 ⟨k2,rfl,hk2,e99⟩;obtain rfl:=e99.symm;clear e99)
     refine hK.out _ _ (HKP.out _ HD.out) (fun hHeld=>?_)
     clear hK K
     try simp only[Act.put]
     have hd2:IntKind.i64.wrap (1+(k2:Int))=((k2+1:Nat):Int):=(by rw[IntWalk.i64_in _ (by omega)];omega)
     refine tk 15 (h:=?_)
     try simp only[List.getElem_toArray,List.getElem_cons_succ,List.getElem_cons_zero]
     try simp only[Act.put]
     refine wpAnyH_ready (rs:=[16,20]) (by kernel_rfl) (by simp) ?_
     refine AllReadyH.cons (i:=16) (rs:=[20]) rfl (fun K hK=>?_) (AllReadyH.cons (i:=20) (rs:=[]) rfl (fun K hK=>?_) AllReadyH.nil)
     · go_simp
       go_wp2_with (go_at_call 6;refine(HSU.out k1 k2 _ hk1 hk2 HD.out).mono ?_;rintro e9 w16 ⟨a16,cap16,n16,T,rfl,HNT,HTT,hc16,hb16⟩)
       have HB16:Hid (Below w3.heap.size w3 w16):=HD.out.trans (hb16.mono HD.out.size)
       have HC16:Hid (Crs w16 w16.heap.size (.slice a16 n16 cap16) T):=hc16
       clear hc16 hb16
       refine hK.out _ _ (HKP.out _ HB16.out) (fun hHeld=>?_)
       clear hK K
       refine tk 17 (h:=?_)
       try simp only[List.getElem_toArray,List.getElem_cons_succ,List.getElem_cons_zero]
       refine tk 18 (h:=?_)
       try simp only[List.getElem_toArray,List.getElem_cons_succ,List.getElem_cons_zero]
       refine tk 19 (h:=?_)
       try simp only[List.getElem_toArray,List.getElem_cons_succ,List.getElem_cons_zero]
       try simp only[Act.put]
       refine rd1 20 (fun K hK=>?_)
       go_simp
       have HBA:Hid (Below w3.heap.size w3 (w16.alloc (.cells #[.slice none 0 0,.int .i64 0] 24))):=HB16.out.alloc HB16.out.size _
       refine hK.out _ _ (HKP.out _ HBA.out) (fun hHeld=>?_)
       clear hK K
       try simp only[Act.put]
       have HBS:Hid (Below w3.heap.size w3 (w16.alloc (.cells #[.slice a16 n16 cap16,.int .i64 l3] 24))):=HB16.out.alloc HB16.out.size _
       refine rd1 21 (fun K hK=>?_)
       go_simp
       refine hK.out _ _ (HKP.out _ HBS.out) (fun hHeld=>?_)
       clear hK K
       refine tk 22 (h:=?_)
       try simp only[List.getElem_toArray,List.getElem_cons_succ,List.getElem_cons_zero]
       try simp only[Act.put]
       refine wpAnyH_done (by kernel_rfl) ?_ _
       try simp only[Act.put]
       obtain⟨U,hU⟩:∃ U,U=(w16.alloc (.cells #[.slice a16 n16 cap16,.int .i64 l3] 24)):=⟨_,rfl⟩
       have HTU:Hid (U.heap[w16.heap.size]?=some (.cells #[.slice a16 n16 cap16,.int .i64 l3] 24 (0,0))):=(by rw[hU];exact alloc_at rfl:U.heap[w16.heap.size]?=_)
       have HCU:Hid (Crs U U.heap.size (.slice a16 n16 cap16) T):=(by rw[hU];exact HC16.out.up ((Below.refl _ _).alloc (Nat.le_refl _) _):Crs U U.heap.size (.slice a16 n16 cap16) T)
       have HBU:Hid (Below w3.heap.size w3 U):=(by rw[hU];exact HBS.out:Below w3.heap.size w3 U)
       rw[<-hU]
       clear hU HBS HBA HB16 HC16
       clear hHeld
       have HGT:Hid (BxW U w16.heap.size a16 n16 cap16 l3):=bxW HTU.out
       have HCT:Hid (∀ W,Below U.heap.size U W->Crs W W.heap.size (.slice a16 n16 cap16) T):=fun W hW=>(HCU.out.up hW)
       have HFU:Hid (Below w3.heap.size w3 U):=HBU.out
       have HFX:Hid (Below X.heap.size X U):=H3.out.trans (HFU.out.mono H3.out.size)
       have HFN:Hid (Below w.heap.size w U):=HBX.out.trans (HFX.out.mono HBX.out.size)
       obtain⟨u1,u2,u3⟩:=HTL.out k1 k2 T hk1 hk2 HTT.out
       have HJT:=hidS (fun W h=>QJ2 QK4 (.slice a16 n16 cap16) T l3 W u1 u2 h)
       have HU4:=hidS u3
       clear HTU HKP HD HPX HPY HSU p0 p1 p2 p3 p4 u1 u2 u3 HTT HTL HBU HCU hk1 hk2 hdb hdb2 HNT
       obtain⟨t0,t3,t4⟩:=HGT.out U (Below.refl _ _)
       go_upto_region 9 with(go_at_call 5;refine(HJT.out _ (HCT.out _ (Below.refl _ _))).mono ?_;rintro e9 w17 ⟨vr,lr,rfl,hpr,hcr,hb17⟩)
       have K1:Hid (Below U.heap.size U w17):=hb17
       have HPR:=hidS hpr
       have HCR:=hidS hcr
       clear hb17 t0 t3 t4 hpr hcr HJT
       have K13:Hid (Below w3.heap.size w3 w17):=HFU.out.trans (K1.out.mono HFU.out.size)
       have HML:=hidS (Poly.mul_yes vp vq lp lq w17 HMP.out HMQ.out (HPP3.out w17 K13.out) (HPQ3.out w17 K13.out))
       go_upto_region 10 with(go_at_call 8;refine HML.out.mono ?_;rintro e9 w18 ⟨vt,lt,rfl,hrow,hct,hlt,hb18⟩)
       have K2:Hid (Below w.heap.size w w18):=(HFN.out.trans (K1.out.mono HFN.out.size)).trans (hb18.mono (HFN.out.trans (K1.out.mono HFN.out.size)).size)
       obtain⟨y1,y2,y3⟩:=HU4.out lr lt HCR.out hct
       have HPR8:=hidS (HPR.out.up hb18)
       have HUN:=hidS (Poly.unit_yes vt lt w18 (by rw[y1];exact y2) (Poly.PolyC.ofRow hrow).1)
       have HLL:Hid (lr.length<=maxLen):=(by have:=((Poly.may_iff lr).1 y2).1;unfold maxLen;omega:lr.length<=maxLen)
       rw[y1,y3]at HUN
       clear hrow hct hlt hb18 HML y1 y2 y3 HU4 HPR
       go_upto_region 11 with(go_at_call 9;refine HUN.out.mono ?_;rintro e9 w19 ⟨vu,rfl,hpu,hb19⟩)
       have K3:Hid (Below w.heap.size w w19):=K2.out.trans (hb19.mono K2.out.size)
       have HSM:=hidS (Poly.same_polyK vr vu lr lr w19 HLL.out (HPR8.out.up hb19) hpu)
       rw[decide_eq_true (rfl:lr=lr)]at HSM
       clear hb19 hpu HUN
       go_wp2_with (go_at_call 10;refine HSM.out.mono ?_;rintro e9 w20 ⟨rfl,hb20⟩)
       have K4:Hid (Below w.heap.size w w20):=K3.out.trans (hb20.mono K3.out.size)
       clear hb20
       go_ret
       exact⟨by first|rfl|simp,K4.out⟩
     · go_simp
       have HBA:Hid (Below w3.heap.size w3 (w3.drew.alloc (.cells #[.slice none 0 0,.int .i64 0] 24))):=HD.out.alloc (Nat.le_refl _) _
       have HTA:Hid ((w3.drew.alloc (.cells #[.slice none 0 0,.int .i64 0] 24)).heap[w3.drew.heap.size]?=some (.cells #[.slice none 0 0,.int .i64 0] 24 (0,0))):=alloc_at rfl
       refine hK.out _ _ (HKP.out _ HBA.out) (fun hHeld=>?_)
       clear hK K
       try simp only[Act.put]
       refine rd1 16 (fun K hK=>?_)
       go_simp
       go_wp2_with (go_at_call 6;refine(HSU.out k1 k2 _ hk1 hk2 HBA.out).mono ?_;rintro e9 w16 ⟨a16,cap16,n16,T,rfl,HNT,HTT,hc16,hb16⟩)
       have HB16:Hid (Below w3.heap.size w3 w16):=HBA.out.trans (hb16.mono HBA.out.size)
       have HC16:Hid (Crs w16 w16.heap.size (.slice a16 n16 cap16) T):=hc16
       have HB16V:Hid (Below ((w3.drew.alloc (.cells #[.slice none 0 0,.int .i64 0] 24))).heap.size ((w3.drew.alloc (.cells #[.slice none 0 0,.int .i64 0] 24))) w16):=hb16
       clear hc16 hb16
       refine hK.out _ _ (HKP.out _ HB16.out) (fun hHeld=>?_)
       clear hK K
       refine tk 17 (h:=?_)
       try simp only[List.getElem_toArray,List.getElem_cons_succ,List.getElem_cons_zero]
       refine tk 18 (h:=?_)
       try simp only[List.getElem_toArray,List.getElem_cons_succ,List.getElem_cons_zero]
       refine tk 19 (h:=?_)
       try simp only[List.getElem_toArray,List.getElem_cons_succ,List.getElem_cons_zero]
       try simp only[Act.put]
       have HT16:Hid (w16.heap[w3.heap.size]?=some (.cells #[.slice none 0 0,.int .i64 0] 24 (0,0))):=(HB16V.out.block _ (Array.getElem?_eq_some_iff.1 HTA.out).1).trans HTA.out
       have y0:w16.cell? ⟨w3.heap.size,0,none⟩=some (.slice none 0 0):=QQ0 HT16.out rfl
       have y1:w16.cell? ⟨w3.heap.size,1,none⟩=some (.int .i64 0):=QQ0 HT16.out rfl
       have y2:w3.heap.size<w16.heap.size:=(Array.getElem?_eq_some_iff.1 HT16.out).1
       have y3:w16.frozen? ⟨w3.heap.size,0,none⟩=false:=QQ1 HT16.out
       have y4:w16.frozen? ⟨w3.heap.size,1,none⟩=false:=QQ1 HT16.out
       have HBS:Hid (Below w3.heap.size w3 ((w16.setCell ⟨w3.heap.size,0,none⟩ (.slice a16 n16 cap16)).setCell ⟨w3.heap.size,1,none⟩ (.int .i64 l3))):=Qb4 HB16.out HB16.out.size (Nat.le_refl _)
       refine rd1 21 (fun K hK=>?_)
       go_simp
       refine hK.out _ _ (HKP.out _ HBS.out) (fun hHeld=>?_)
       clear hK K y0 y1 y2 y3 y4
       refine tk 22 (h:=?_)
       try simp only[List.getElem_toArray,List.getElem_cons_succ,List.getElem_cons_zero]
       try simp only[Act.put]
       refine wpAnyH_done (by kernel_rfl) ?_ _
       try simp only[Act.put]
       obtain⟨U,hU⟩:∃ U,U=((w16.setCell ⟨w3.heap.size,0,none⟩ (.slice a16 n16 cap16)).setCell ⟨w3.heap.size,1,none⟩ (.int .i64 l3)):=⟨_,rfl⟩
       have HTU:Hid (U.heap[w3.heap.size]?=some (.cells #[.slice a16 n16 cap16,.int .i64 l3] 24 (0,0))):=(by rw[hU];exact Xy5 rfl HT16.out:U.heap[w3.heap.size]?=_)
       have HCU:Hid (Crs U U.heap.size (.slice a16 n16 cap16) T):=(by rw[hU];exact XK0 HT16.out HC16.out:Crs U U.heap.size (.slice a16 n16 cap16) T)
       have HBU:Hid (Below w3.heap.size w3 U):=(by rw[hU];exact HBS.out:Below w3.heap.size w3 U)
       rw[<-hU]
       clear hU HBS HBA HTA HB16 HB16V HT16 HC16
       clear hHeld
       have HGT:Hid (BxW U w3.heap.size a16 n16 cap16 l3):=bxW HTU.out
       have HCT:Hid (∀ W,Below U.heap.size U W->Crs W W.heap.size (.slice a16 n16 cap16) T):=fun W hW=>(HCU.out.up hW)
       have HFU:Hid (Below w3.heap.size w3 U):=HBU.out
       have HFX:Hid (Below X.heap.size X U):=H3.out.trans (HFU.out.mono H3.out.size)
       have HFN:Hid (Below w.heap.size w U):=HBX.out.trans (HFX.out.mono HBX.out.size)
       obtain⟨u1,u2,u3⟩:=HTL.out k1 k2 T hk1 hk2 HTT.out
       have HJT:=hidS (fun W h=>QJ2 QK4 (.slice a16 n16 cap16) T l3 W u1 u2 h)
       have HU4:=hidS u3
       clear HTU HKP HD HPX HPY HSU p0 p1 p2 p3 p4 u1 u2 u3 HTT HTL HBU HCU hk1 hk2 hdb hdb2 HNT
       obtain⟨t0,t3,t4⟩:=HGT.out U (Below.refl _ _)
       go_upto_region 9 with(go_at_call 5;refine(HJT.out _ (HCT.out _ (Below.refl _ _))).mono ?_;rintro e9 w17 ⟨vr,lr,rfl,hpr,hcr,hb17⟩)
       have K1:Hid (Below U.heap.size U w17):=hb17
       have HPR:=hidS hpr
       have HCR:=hidS hcr
       clear hb17 t0 t3 t4 hpr hcr HJT
       have K13:Hid (Below w3.heap.size w3 w17):=HFU.out.trans (K1.out.mono HFU.out.size)
       have HML:=hidS (Poly.mul_yes vp vq lp lq w17 HMP.out HMQ.out (HPP3.out w17 K13.out) (HPQ3.out w17 K13.out))
       go_upto_region 10 with(go_at_call 8;refine HML.out.mono ?_;rintro e9 w18 ⟨vt,lt,rfl,hrow,hct,hlt,hb18⟩)
       have K2:Hid (Below w.heap.size w w18):=(HFN.out.trans (K1.out.mono HFN.out.size)).trans (hb18.mono (HFN.out.trans (K1.out.mono HFN.out.size)).size)
       obtain⟨y1,y2,y3⟩:=HU4.out lr lt HCR.out hct
       have HPR8:=hidS (HPR.out.up hb18)
       have HUN:=hidS (Poly.unit_yes vt lt w18 (by rw[y1];exact y2) (Poly.PolyC.ofRow hrow).1)
       have HLL:Hid (lr.length<=maxLen):=(by have:=((Poly.may_iff lr).1 y2).1;unfold maxLen;omega:lr.length<=maxLen)
       rw[y1,y3]at HUN
       clear hrow hct hlt hb18 HML y1 y2 y3 HU4 HPR
       go_upto_region 11 with(go_at_call 9;refine HUN.out.mono ?_;rintro e9 w19 ⟨vu,rfl,hpu,hb19⟩)
       have K3:Hid (Below w.heap.size w w19):=K2.out.trans (hb19.mono K2.out.size)
       have HSM:=hidS (Poly.same_polyK vr vu lr lr w19 HLL.out (HPR8.out.up hb19) hpu)
       rw[decide_eq_true (rfl:lr=lr)]at HSM
       clear hb19 hpu HUN
       go_wp2_with (go_at_call 10;refine HSM.out.mono ?_;rintro e9 w20 ⟨rfl,hb20⟩)
       have K4:Hid (Below w.heap.size w w20):=K3.out.trans (hb20.mono K3.out.size)
       clear hb20
       go_ret
       exact⟨by first|rfl|simp,K4.out⟩
   · go_simp
     have HBA:Hid (Below w3.heap.size w3 (w3.drew.alloc (.cells #[.slice none 0 0,.int .i64 0] 24))):=HD.out.alloc (Nat.le_refl _) _
     have HTA:Hid ((w3.drew.alloc (.cells #[.slice none 0 0,.int .i64 0] 24)).heap[w3.drew.heap.size]?=some (.cells #[.slice none 0 0,.int .i64 0] 24 (0,0))):=alloc_at rfl
     refine hK.out _ _ (HKP.out _ HBA.out) (fun hHeld=>?_)
     clear hK K
     try simp only[Act.put]
     refine rd1 14 (fun K hK=>?_)
     go_simp
     go_wp2_with (go_at_call 7;refine(HPY.out _).mono ?_;rintro e9 w15 ⟨k2,rfl,hk2,e99⟩;obtain rfl:=e99.symm;clear e99)
     refine hK.out _ _ (HKP.out _ HBA.out) (fun hHeld=>?_)
     clear hK K
     try simp only[Act.put]
     have hd2:IntKind.i64.wrap (1+(k2:Int))=((k2+1:Nat):Int):=(by rw[IntWalk.i64_in _ (by omega)];omega)
     refine tk 15 (h:=?_)
     try simp only[List.getElem_toArray,List.getElem_cons_succ,List.getElem_cons_zero]
     try simp only[Act.put]
     refine rd1 16 (fun K hK=>?_)
     go_simp
     go_wp2_with (go_at_call 6;refine(HSU.out k1 k2 _ hk1 hk2 HBA.out).mono ?_;rintro e9 w16 ⟨a16,cap16,n16,T,rfl,HNT,HTT,hc16,hb16⟩)
     have HB16:Hid (Below w3.heap.size w3 w16):=HBA.out.trans (hb16.mono HBA.out.size)
     have HC16:Hid (Crs w16 w16.heap.size (.slice a16 n16 cap16) T):=hc16
     have HB16V:Hid (Below ((w3.drew.alloc (.cells #[.slice none 0 0,.int .i64 0] 24))).heap.size ((w3.drew.alloc (.cells #[.slice none 0 0,.int .i64 0] 24))) w16):=hb16
     clear hc16 hb16
     refine hK.out _ _ (HKP.out _ HB16.out) (fun hHeld=>?_)
     clear hK K
     refine tk 17 (h:=?_)
     try simp only[List.getElem_toArray,List.getElem_cons_succ,List.getElem_cons_zero]
     refine tk 18 (h:=?_)
     try simp only[List.getElem_toArray,List.getElem_cons_succ,List.getElem_cons_zero]
     refine tk 19 (h:=?_)
     try simp only[List.getElem_toArray,List.getElem_cons_succ,List.getElem_cons_zero]
     try simp only[Act.put]
     have HT16:Hid (w16.heap[w3.heap.size]?=some (.cells #[.slice none 0 0,.int .i64 0] 24 (0,0))):=(HB16V.out.block _ (Array.getElem?_eq_some_iff.1 HTA.out).1).trans HTA.out
     have y0:w16.cell? ⟨w3.heap.size,0,none⟩=some (.slice none 0 0):=QQ0 HT16.out rfl
     have y1:w16.cell? ⟨w3.heap.size,1,none⟩=some (.int .i64 0):=QQ0 HT16.out rfl
     have y2:w3.heap.size<w16.heap.size:=(Array.getElem?_eq_some_iff.1 HT16.out).1
     have y3:w16.frozen? ⟨w3.heap.size,0,none⟩=false:=QQ1 HT16.out
     have y4:w16.frozen? ⟨w3.heap.size,1,none⟩=false:=QQ1 HT16.out
     have HBS:Hid (Below w3.heap.size w3 ((w16.setCell ⟨w3.heap.size,0,none⟩ (.slice a16 n16 cap16)).setCell ⟨w3.heap.size,1,none⟩ (.int .i64 l3))):=Qb4 HB16.out HB16.out.size (Nat.le_refl _)
     refine rd1 21 (fun K hK=>?_)
     go_simp
     refine hK.out _ _ (HKP.out _ HBS.out) (fun hHeld=>?_)
     clear hK K y0 y1 y2 y3 y4
     refine tk 22 (h:=?_)
     try simp only[List.getElem_toArray,List.getElem_cons_succ,List.getElem_cons_zero]
     try simp only[Act.put]
     refine wpAnyH_done (by kernel_rfl) ?_ _
     try simp only[Act.put]
     obtain⟨U,hU⟩:∃ U,U=((w16.setCell ⟨w3.heap.size,0,none⟩ (.slice a16 n16 cap16)).setCell ⟨w3.heap.size,1,none⟩ (.int .i64 l3)):=⟨_,rfl⟩
     have HTU:Hid (U.heap[w3.heap.size]?=some (.cells #[.slice a16 n16 cap16,.int .i64 l3] 24 (0,0))):=(by rw[hU];exact Xy5 rfl HT16.out:U.heap[w3.heap.size]?=_)
     have HCU:Hid (Crs U U.heap.size (.slice a16 n16 cap16) T):=(by rw[hU];exact XK0 HT16.out HC16.out:Crs U U.heap.size (.slice a16 n16 cap16) T)
     have HBU:Hid (Below w3.heap.size w3 U):=(by rw[hU];exact HBS.out:Below w3.heap.size w3 U)
     rw[<-hU]
     clear hU HBS HBA HTA HB16 HB16V HT16 HC16
     clear hHeld
     have HGT:Hid (BxW U w3.heap.size a16 n16 cap16 l3):=bxW HTU.out
     have HCT:Hid (∀ W,Below U.heap.size U W->Crs W W.heap.size (.slice a16 n16 cap16) T):=fun W hW=>(HCU.out.up hW)
     have HFU:Hid (Below w3.heap.size w3 U):=HBU.out
     have HFX:Hid (Below X.heap.size X U):=H3.out.trans (HFU.out.mono H3.out.size)
     have HFN:Hid (Below w.heap.size w U):=HBX.out.trans (HFX.out.mono HBX.out.size)
     obtain⟨u1,u2,u3⟩:=HTL.out k1 k2 T hk1 hk2 HTT.out
     have HJT:=hidS (fun W h=>QJ2 QK4 (.slice a16 n16 cap16) T l3 W u1 u2 h)
     have HU4:=hidS u3
     clear HTU HKP HD HPX HPY HSU p0 p1 p2 p3 p4 u1 u2 u3 HTT HTL HBU HCU hk1 hk2 hdb hdb2 HNT
     obtain⟨t0,t3,t4⟩:=HGT.out U (Below.refl _ _)
     go_upto_region 9 with(go_at_call 5;refine(HJT.out _ (HCT.out _ (Below.refl _ _))).mono ?_;rintro e9 w17 ⟨vr,lr,rfl,hpr,hcr,hb17⟩)
     have K1:Hid (Below U.heap.size U w17):=hb17
     have HPR:=hidS hpr
     have HCR:=hidS hcr
     clear hb17 t0 t3 t4 hpr hcr HJT
     have K13:Hid (Below w3.heap.size w3 w17):=HFU.out.trans (K1.out.mono HFU.out.size)
     have HML:=hidS (Poly.mul_yes vp vq lp lq w17 HMP.out HMQ.out (HPP3.out w17 K13.out) (HPQ3.out w17 K13.out))
     go_upto_region 10 with(go_at_call 8;refine HML.out.mono ?_;rintro e9 w18 ⟨vt,lt,rfl,hrow,hct,hlt,hb18⟩)
     have K2:Hid (Below w.heap.size w w18):=(HFN.out.trans (K1.out.mono HFN.out.size)).trans (hb18.mono (HFN.out.trans (K1.out.mono HFN.out.size)).size)
     obtain⟨y1,y2,y3⟩:=HU4.out lr lt HCR.out hct
     have HPR8:=hidS (HPR.out.up hb18)
     have HUN:=hidS (Poly.unit_yes vt lt w18 (by rw[y1];exact y2) (Poly.PolyC.ofRow hrow).1)
     have HLL:Hid (lr.length<=maxLen):=(by have:=((Poly.may_iff lr).1 y2).1;unfold maxLen;omega:lr.length<=maxLen)
     rw[y1,y3]at HUN
     clear hrow hct hlt hb18 HML y1 y2 y3 HU4 HPR
     go_upto_region 11 with(go_at_call 9;refine HUN.out.mono ?_;rintro e9 w19 ⟨vu,rfl,hpu,hb19⟩)
     have K3:Hid (Below w.heap.size w w19):=K2.out.trans (hb19.mono K2.out.size)
     have HSM:=hidS (Poly.same_polyK vr vu lr lr w19 HLL.out (HPR8.out.up hb19) hpu)
     rw[decide_eq_true (rfl:lr=lr)]at HSM
     clear hb19 hpu HUN
     go_wp2_with (go_at_call 10;refine HSM.out.mono ?_;rintro e9 w20 ⟨rfl,hb20⟩)
     have K4:Hid (Below w.heap.size w w20):=K3.out.trans (hb20.mono K3.out.size)
     clear hb20
     go_ret
     exact⟨by first|rfl|simp,K4.out⟩
 · go_simp
   have HBA:Hid (Below w3.heap.size w3 (w3.drew.alloc (.cells #[.slice none 0 0,.int .i64 0] 24))):=HD.out.alloc (Nat.le_refl _) _
   have HTA:Hid ((w3.drew.alloc (.cells #[.slice none 0 0,.int .i64 0] 24)).heap[w3.drew.heap.size]?=some (.cells #[.slice none 0 0,.int .i64 0] 24 (0,0))):=alloc_at rfl
   refine hK.out _ _ (HKP.out _ HBA.out) (fun hHeld=>?_)
   clear hK K
   try simp only[Act.put]
   refine rd1 6 (fun K hK=>?_)
   go_simp
   go_wp2_with (go_at_call 7;refine(HPX.out _).mono ?_;rintro e9 w14 ⟨k1,rfl,hk1,e99⟩;obtain rfl:=e99.symm;clear e99)
   refine hK.out _ _ (HKP.out _ HBA.out) (fun hHeld=>?_)
   clear hK K
   try simp only[Act.put]
   have hd1:IntKind.i64.wrap (1+(k1:Int))=((k1+1:Nat):Int):=(by rw[IntWalk.i64_in _ (by omega)];omega)
   refine tk 7 (h:=?_)
   try simp only[Act.put]
   refine rd1 14 (fun K hK=>?_)
   go_simp
   go_wp2_with (go_at_call 7;refine(HPY.out _).mono ?_;rintro e9 w15 ⟨k2,rfl,hk2,e99⟩;obtain rfl:=e99.symm;clear e99)
   refine hK.out _ _ (HKP.out _ HBA.out) (fun hHeld=>?_)
   clear hK K
   try simp only[Act.put]
   have hd2:IntKind.i64.wrap (1+(k2:Int))=((k2+1:Nat):Int):=(by rw[IntWalk.i64_in _ (by omega)];omega)
   refine tk 15 (h:=?_)
   try simp only[List.getElem_toArray,List.getElem_cons_succ,List.getElem_cons_zero]
   try simp only[Act.put]
   refine rd1 16 (fun K hK=>?_)
   go_simp
   go_wp2_with (go_at_call 6;refine(HSU.out k1 k2 _ hk1 hk2 HBA.out).mono ?_;rintro e9 w16 ⟨a16,cap16,n16,T,rfl,HNT,HTT,hc16,hb16⟩)
   have HB16:Hid (Below w3.heap.size w3 w16):=HBA.out.trans (hb16.mono HBA.out.size)
   have HC16:Hid (Crs w16 w16.heap.size (.slice a16 n16 cap16) T):=hc16
   have HB16V:Hid (Below ((w3.drew.alloc (.cells #[.slice none 0 0,.int .i64 0] 24))).heap.size ((w3.drew.alloc (.cells #[.slice none 0 0,.int .i64 0] 24))) w16):=hb16
   clear hc16 hb16
   refine hK.out _ _ (HKP.out _ HB16.out) (fun hHeld=>?_)
   clear hK K
   refine tk 17 (h:=?_)
   try simp only[List.getElem_toArray,List.getElem_cons_succ,List.getElem_cons_zero]
   refine tk 18 (h:=?_)
   try simp only[List.getElem_toArray,List.getElem_cons_succ,List.getElem_cons_zero]
   refine tk 19 (h:=?_)
   try simp only[List.getElem_toArray,List.getElem_cons_succ,List.getElem_cons_zero]
   try simp only[Act.put]
   have HT16:Hid (w16.heap[w3.heap.size]?=some (.cells #[.slice none 0 0,.int .i64 0] 24 (0,0))):=(HB16V.out.block _ (Array.getElem?_eq_some_iff.1 HTA.out).1).trans HTA.out
   have y0:w16.cell? ⟨w3.heap.size,0,none⟩=some (.slice none 0 0):=QQ0 HT16.out rfl
   have y1:w16.cell? ⟨w3.heap.size,1,none⟩=some (.int .i64 0):=QQ0 HT16.out rfl
   have y2:w3.heap.size<w16.heap.size:=(Array.getElem?_eq_some_iff.1 HT16.out).1
   have y3:w16.frozen? ⟨w3.heap.size,0,none⟩=false:=QQ1 HT16.out
   have y4:w16.frozen? ⟨w3.heap.size,1,none⟩=false:=QQ1 HT16.out
   have HBS:Hid (Below w3.heap.size w3 ((w16.setCell ⟨w3.heap.size,0,none⟩ (.slice a16 n16 cap16)).setCell ⟨w3.heap.size,1,none⟩ (.int .i64 l3))):=Qb4 HB16.out HB16.out.size (Nat.le_refl _)
   refine rd1 21 (fun K hK=>?_)
   go_simp
   refine hK.out _ _ (HKP.out _ HBS.out) (fun hHeld=>?_)
   clear hK K y0 y1 y2 y3 y4
   refine tk 22 (h:=?_)
   try simp only[List.getElem_toArray,List.getElem_cons_succ,List.getElem_cons_zero]
   try simp only[Act.put]
   refine wpAnyH_done (by kernel_rfl) ?_ _
   try simp only[Act.put]
   obtain⟨U,hU⟩:∃ U,U=((w16.setCell ⟨w3.heap.size,0,none⟩ (.slice a16 n16 cap16)).setCell ⟨w3.heap.size,1,none⟩ (.int .i64 l3)):=⟨_,rfl⟩
   have HTU:Hid (U.heap[w3.heap.size]?=some (.cells #[.slice a16 n16 cap16,.int .i64 l3] 24 (0,0))):=(by rw[hU];exact Xy5 rfl HT16.out:U.heap[w3.heap.size]?=_)
   have HCU:Hid (Crs U U.heap.size (.slice a16 n16 cap16) T):=(by rw[hU];exact XK0 HT16.out HC16.out:Crs U U.heap.size (.slice a16 n16 cap16) T)
   have HBU:Hid (Below w3.heap.size w3 U):=(by rw[hU];exact HBS.out:Below w3.heap.size w3 U)
   rw[<-hU]
   clear hU HBS HBA HTA HB16 HB16V HT16 HC16
   clear hHeld
   have HGT:Hid (BxW U w3.heap.size a16 n16 cap16 l3):=bxW HTU.out
   have HCT:Hid (∀ W,Below U.heap.size U W->Crs W W.heap.size (.slice a16 n16 cap16) T):=fun W hW=>(HCU.out.up hW)
   have HFU:Hid (Below w3.heap.size w3 U):=HBU.out
   have HFX:Hid (Below X.heap.size X U):=H3.out.trans (HFU.out.mono H3.out.size)
   have HFN:Hid (Below w.heap.size w U):=HBX.out.trans (HFX.out.mono HBX.out.size)
   obtain⟨u1,u2,u3⟩:=HTL.out k1 k2 T hk1 hk2 HTT.out
   have HJT:=hidS (fun W h=>QJ2 QK4 (.slice a16 n16 cap16) T l3 W u1 u2 h)
   have HU4:=hidS u3
   clear HTU HKP HD HPX HPY HSU p0 p1 p2 p3 p4 u1 u2 u3 HTT HTL HBU HCU hk1 hk2 hdb hdb2 HNT
   obtain⟨t0,t3,t4⟩:=HGT.out U (Below.refl _ _)
   go_upto_region 9 with(go_at_call 5;refine(HJT.out _ (HCT.out _ (Below.refl _ _))).mono ?_;rintro e9 w17 ⟨vr,lr,rfl,hpr,hcr,hb17⟩)
   have K1:Hid (Below U.heap.size U w17):=hb17
   have HPR:=hidS hpr
   have HCR:=hidS hcr
   clear hb17 t0 t3 t4 hpr hcr HJT
   have K13:Hid (Below w3.heap.size w3 w17):=HFU.out.trans (K1.out.mono HFU.out.size)
   have HML:=hidS (Poly.mul_yes vp vq lp lq w17 HMP.out HMQ.out (HPP3.out w17 K13.out) (HPQ3.out w17 K13.out))
   go_upto_region 10 with(go_at_call 8;refine HML.out.mono ?_;rintro e9 w18 ⟨vt,lt,rfl,hrow,hct,hlt,hb18⟩)
   have K2:Hid (Below w.heap.size w w18):=(HFN.out.trans (K1.out.mono HFN.out.size)).trans (hb18.mono (HFN.out.trans (K1.out.mono HFN.out.size)).size)
   obtain⟨y1,y2,y3⟩:=HU4.out lr lt HCR.out hct
   have HPR8:=hidS (HPR.out.up hb18)
   have HUN:=hidS (Poly.unit_yes vt lt w18 (by rw[y1];exact y2) (Poly.PolyC.ofRow hrow).1)
   have HLL:Hid (lr.length<=maxLen):=(by have:=((Poly.may_iff lr).1 y2).1;unfold maxLen;omega:lr.length<=maxLen)
   rw[y1,y3]at HUN
   clear hrow hct hlt hb18 HML y1 y2 y3 HU4 HPR
   go_upto_region 11 with(go_at_call 9;refine HUN.out.mono ?_;rintro e9 w19 ⟨vu,rfl,hpu,hb19⟩)
   have K3:Hid (Below w.heap.size w w19):=K2.out.trans (hb19.mono K2.out.size)
   have HSM:=hidS (Poly.same_polyK vr vu lr lr w19 HLL.out (HPR8.out.up hb19) hpu)
   rw[decide_eq_true (rfl:lr=lr)]at HSM
   clear hb19 hpu HUN
   go_wp2_with (go_at_call 10;refine HSM.out.mono ?_;rintro e9 w20 ⟨rfl,hb20⟩)
   have K4:Hid (Below w.heap.size w w20):=K3.out.trans (hb20.mono K3.out.size)
   clear hb20
   go_ret
   exact⟨by first|rfl|simp,K4.out⟩
end Go.Proofs.YtookanmeflbdlaaGreatDoor

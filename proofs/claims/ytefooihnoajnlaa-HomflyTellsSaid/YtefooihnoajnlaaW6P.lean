/- Several texts of the proof, one behind the other. -/
import Derived.Test.YtefooihnoajnlaaW5P
import Derived.Test.YtefooihnoajnlaaW3P
import Derived.Test.YtefooihnoajnlaaW2P
import Derived.Lib.Hide
/- Visits: lists of them that a call owns; the walks of gauss.visits and gauss.signs. -/
namespace Go.Proofs.Ytefooihnoajnlaa
open Go.RowKit
def vflat (V:List (Nat×Bool)):List Value:=V.flatMap fun t=>[.int .i64 (t.1:Nat),.bool t.2]
theorem vflat_append (l m:List (Nat×Bool)):vflat (l++m)=vflat l++vflat m:=by simp[vflat]
theorem vflat_get (l:List (Nat×Bool)) (i:Nat) (hi:i<l.length):(vflat l)[i*2]?=some (.int .i64 ((l.getD i (0,false)).1:Nat))/\(vflat l)[i*2+1]?=some (.bool (l.getD i (0,false)).2):=by
 induction l generalizing i with
 |nil=>simp at hi
 |cons t l ih=>
  have e:vflat (t::l)=.int .i64 (t.1:Nat)::.bool t.2::vflat l:=rfl
  cases i with
  |zero=>rw[e];exact⟨rfl,rfl⟩
  |succ i=>
   have:=ih i (by simpa using hi)
   rw[e,show(i+1)*2=i*2+1+1 by omega]
   exact this
theorem vflat_one (l:List (Nat×Bool)):∀ u∈vflat l,u.oneCell'=true:=by
 intro u hu
 simp only[vflat,List.mem_flatMap]at hu
 obtain⟨t,_,ht⟩:=hu
 simp at ht
 rcases ht with rfl|rfl<;>rfl
def WksAt (w:World) (v:Value) (L:List (List Nat)):Prop:=∃ ys:List Value,ys.length=L.length/\Slots w w.heap.size v ys/\∀ j,j<L.length->Slots w w.heap.size (ys.getD j (.bool false)) (nats (L.getD j []))
theorem NatsOwn.wks {w:World} {B:Nat} {v:Value} {L:List (List Nat)} (h:NatsOwn w B v L):WksAt w v L:=by
 obtain⟨ys,h1,h2,h3⟩:=h
 exact⟨ys,h1,slots_of_own h2,fun j hj=>slots_of_own (h3 j hj)⟩
theorem WksAt.on {w w':World} {v:Value} {L:List (List Nat)} (h:WksAt w v L) (hb:Below w.heap.size w w'):WksAt w' v L:=by
 obtain⟨ys,h1,h2,h3⟩:=h
 exact⟨ys,h1,(h2.on hb).mono hb.size,fun j hj=>((h3 j hj).on hb).mono hb.size⟩
theorem walksM_facts {C:List Cr} {loops:Int} (hm:mayD C loops=true):(walksM C).length<=2*C.length/\∀ j,j<(walksM C).length->0<((walksM C).getD j []).length/\((walksM C).getD j []).length<=2*C.length+1/\∀ i,i<((walksM C).getD j []).length->1<=((walksM C).getD j []).getD i 0/\((walksM C).getD j []).getD i 0<=2*C.length:=by
 refine⟨walksTo_count _ _ _,fun j hj=>?_⟩
 have hmem:(walksM C).getD j []∈walksM C:=by
  rw[List.getD_eq_getElem?_getD,List.getElem?_eq_getElem hj]
  exact List.getElem_mem hj
 have h:=walksTo_mem (nx_closed hm) (2*C.length) (Nat.le_refl _) _ hmem
 clear hmem
 generalize (walksM C).getD j []=l at h
 refine⟨List.length_pos_iff.2 h.1,h.2.1,fun i hi=>h.2.2 _ ?_⟩
 rw[List.getD_eq_getElem?_getD,List.getElem?_eq_getElem hi]
 exact List.getElem_mem hi
end Go.Proofs.Ytefooihnoajnlaa
/- The arc on which the other strand goes on; the walk of Drawing.Aside. -/
namespace Go.Proofs.Ytefooihnoajnlaa
open Go.RowKit
set_option maxHeartbeats 4000000
set_option maxRecDepth 100000
def sxS (C:List Cr) (a:Nat):Nat:=if toS C a≠0 then 2 else if(C.getD (toC C a) Cr.none).plus=true then 1 else 3
def sx (C:List Cr) (a:Nat):Nat:=((C.getD (toC C a) Cr.none).arc (sxS C a)).toNat
theorem sxS_lt (C:List Cr) (a:Nat):sxS C a<4:=by
 unfold sxS
 split
 · omega
 · split<;>omega
theorem sx_may {C:List Cr} {loops:Int} (hm:mayD C loops=true) (a:Nat) (h1:1<=a) (h2:a<=2*C.length):(C.getD (toC C a) Cr.none).arc (sxS C a)=(sx C a:Int)/\1<=sx C a/\sx C a<=2*C.length:=by
 obtain⟨h3,h4,h5,h6,h7⟩:=to_may hm a h1 h2
 have hf:=may_fit hm (toC C a) (sxS C a) h4 (sxS_lt C a)
 have g1:=hf.1
 have g2:=hf.2.1
 unfold sx
 omega
theorem sx_closed {C:List Cr} {loops:Int} (hm:mayD C loops=true):∀ a,1<=a->a<=2*C.length->1<=sx C a/\sx C a<=2*C.length:=fun a h1 h2=>(sx_may hm a h1 h2).2
theorem aside_any (a : Option Addr) (cap : Nat) (C : List Cr) (loops : Int) (gF cF gT cT : Nat) (x : Nat) (w : World) (hm : mayD C loops = true) (h1 : 1 ≤ x) (h2 : x ≤ 2 * C.length) (hD : Dr w a cap C gF gT) :
    Calls Try.prog 62 #[drV a cap C loops gF cF gT cT,.int .i64 x] w fun e w'=>e=.returned (.int .i64 (sx C x:Nat))/\Below w.heap.size w w':=by
 obtain⟨b,off,rfl,hbw,hC⟩:=hD.cross (by omega)
 unfold drV
 have hT:=hD.toAt hm x h1 h2
 have c0:=hT.1
 have c1:=hT.2
 have hlt:=hD.ltT
 obtain⟨-,hi,hk,-,-⟩:=to_may hm x h1 h2
 have hov:=toS_over hm x h1 h2
 have HSX:Hid ((C.getD (toC C x) Cr.none).arc (if toS C x≠0 then 2 else if(C.getD (toC C x) Cr.none).plus=true then 1 else 3)=(sx C x:Int)):=(sx_may hm x h1 h2).1
 have HC:Hid (CrossAt w b off C):=hC
 clear hT hD hm hC
 generalize toS C x=k at c1 hk HSX hov
 generalize toC C x=i at c0 hi HSX
 generalize sx C x=z at HSX
 have hx:x<2*C.length+1:=by omega
 have hfd:=field_dart (z:Int)
 have hx0:(0:Int)<=(x:Int):=by omega
 have hx9:(x:Int)<2*(C.length:Int)+1:=by omega
 go_enter Try.func62,Try.ntmps62
 go_wp2_with (go_at_call 88;refine(spotAbove_any i k _ hk).mono ?_;rintro e9 w4 ⟨rfl,hb4⟩;refine Hid.out ?_)
 refine Lib.hid ?_
 have HBX:Hid (Below w.heap.size w ((w.alloc (.cells #[.slice (some ⟨b,off,none⟩) C.length cap,.int .i64 loops,.slice (some ⟨gF,0,none⟩) (2*C.length+1) cF,.slice (some ⟨gT,0,none⟩) (2*C.length+1) cT] 41)).alloc (.cells #[.int .i64 i,.int .i64 k] 93))):=below2 _ _ _
 have HB4:Hid (Below w.heap.size w w4):=HBX.out.trans (hb4.mono (by simp;omega))
 have HP4:Hid (w4.heap[w.heap.size]?=some (.cells #[.slice (some ⟨b,off,none⟩) C.length cap,.int .i64 loops,.slice (some ⟨gF,0,none⟩) (2*C.length+1) cF,.slice (some ⟨gT,0,none⟩) (2*C.length+1) cT] 41 (0,0))):=(hb4.block _ (by simp;omega)).trans (alloc_old (alloc_at rfl))
 have HS4:Hid (w4.heap[w.heap.size+1]?=some (.cells #[.int .i64 i,.int .i64 k] 93 (0,0))):=(hb4.block _ (by simp)).trans (alloc_at (by simp))
 have hs4:w.heap.size+2<=w4.heap.size:=by have:=hb4.size;simpa using this
 have HK:Hid (∀ w',Below w4.heap.size w4 w'->w'.cell? ⟨w.heap.size,0,none⟩=some (.slice (some ⟨b,off,none⟩) C.length cap)/\w'.cell? ⟨w.heap.size,1,none⟩=some (.int .i64 loops)/\w'.cell? ⟨w.heap.size,2,none⟩=some (.slice (some ⟨gF,0,none⟩) (2*C.length+1) cF)/\w'.cell? ⟨w.heap.size,3,none⟩=some (.slice (some ⟨gT,0,none⟩) (2*C.length+1) cT)/\w'.cell? ⟨w.heap.size+1,0,none⟩=some (.int .i64 i)):=fun w' hb=>by
  have g:=(hb.block _ (by omega)).trans HP4.out
  have g2:=(hb.block _ (by omega)).trans HS4.out
  exact⟨block_cell g rfl,block_cell g rfl,block_cell g rfl,block_cell g rfl,block_cell g2 rfl⟩
 have HC4:Hid (∀ w',Below w4.heap.size w4 w'->CrossAt w' b off C/\b<w'.heap.size):=fun w' hb=>by
  have hb2:=HB4.out.trans (hb.mono (by omega))
  exact⟨HC.out.on hb2 hbw,Nat.lt_of_lt_of_le hbw hb2.size⟩
 have HD0:Hid (Below w4.heap.size w4 w4.drew):=(Below.refl _ _).drew
 clear hb4 c0 c1 HBX
 obtain⟨t0,t1,t2,t3,t4⟩:=HK.out w4 (Below.refl _ _)
 have hii:(i:Int)<(C.length:Int):=by omega
 obtain⟨e0,e1,e2,e3,e4⟩:=(HC4.out w4 (Below.refl _ _)).1 i hi
 obtain⟨c,hc⟩:∃ c,C.getD i Cr.none=c:=⟨_,rfl⟩
 rw[hc]at HSX e0 e1 e2 e3 e4
 have HCC:Hid (C.getD i Cr.none=c):=hc
 clear hc
 have hb4:b<w4.heap.size:=(HC4.out w4 (Below.refl _ _)).2
 rcases hov with⟨rfl,-⟩|⟨hk0,hk1⟩
 · rw[if_neg (by omega)]at HSX
   have hdk:decide (0%2=1)=false:=by decide
   rw[hdk]
   obtain⟨ca,cb,cc,cd,cp⟩:=c
   cases cp with
   |true=>
    have hc1:(Cr.mk ca cb cc cd true).comes 1=false:=rfl
    have HSX2:Hid ((Cr.mk ca cb cc cd true).arc 1=(z:Int)):=HSX.out
    go_wp2_with (first
     |(go_at_call 54;refine(comesIn_any (Cr.mk ca cb cc cd true) 1 _ (by omega)).mono ?_;rw[hc1];rintro e9 w5 ⟨rfl,hb5⟩;have HB5:Hid (Below w4.heap.size w4 w5):=hb5;obtain⟨u0,u1,u2,u3,u4⟩:=HK.out w5 HB5.out;clear hb5)
     |(go_at_call 89;refine(leaving_any b off cap C loops _ _ i 1 _ hi (by omega) (HC4.out _ HB5.out).2 (HC4.out _ HB5.out).1).mono ?_;rw[HCC.out,HSX2.out];rintro e9 w6 ⟨rfl,hb6⟩;have HL:Hid (Below w4.heap.size w4 w6):=HB5.out.trans (hb6.mono HB5.out.size)))
    go_ret
    exact⟨rfl,HB4.out.trans (HL.out.mono (by omega))⟩
   |false=>
    have hc1:(Cr.mk ca cb cc cd false).comes 1=true:=rfl
    have HSX2:Hid ((Cr.mk ca cb cc cd false).arc 3=(z:Int)):=HSX.out
    go_wp2_with (first
     |(go_at_call 54;refine(comesIn_any (Cr.mk ca cb cc cd false) 1 _ (by omega)).mono ?_;rw[hc1];rintro e9 w5 ⟨rfl,hb5⟩;have HB5:Hid (Below w4.heap.size w4 w5):=hb5;obtain⟨u0,u1,u2,u3,u4⟩:=HK.out w5 HB5.out;clear hb5)
     |(go_at_call 89;refine(leaving_any b off cap C loops _ _ i 3 _ hi (by omega) (HC4.out _ HB5.out).2 (HC4.out _ HB5.out).1).mono ?_;rw[HCC.out,HSX2.out];rintro e9 w6 ⟨rfl,hb6⟩;have HL:Hid (Below w4.heap.size w4 w6):=HB5.out.trans (hb6.mono HB5.out.size)))
    go_ret
    exact⟨rfl,HB4.out.trans (HL.out.mono (by omega))⟩
 · rw[if_pos hk0]at HSX
   rw[decide_eq_true hk1]
   go_wp2_with (go_at_call 89;refine(leaving_any b off cap C loops _ _ i 2 _ hi (by omega) (HC4.out _ (Below.refl _ _)).2 (HC4.out _ (Below.refl _ _)).1).mono ?_;rw[HCC.out,HSX.out];rintro e9 w5 ⟨rfl,hb5⟩)
   go_ret
   exact⟨rfl,HB4.out.trans (hb5.mono (by omega))⟩
end Go.Proofs.Ytefooihnoajnlaa
/- The walk of Drawing.Has. -/
namespace Go.Proofs.Ytefooihnoajnlaa
open Go.RowKit
set_option maxHeartbeats 1000000
set_option maxRecDepth 100000
def hasB (C:List Cr) (x:Int):Bool:=decide (1<=x)&&decide (x<=2*(C.length:Int))
theorem has_any (a : Option Addr) (cap : Nat) (C : List Cr) (loops : Int) (gF cF gT cT : Nat) (x : Int) (w : World) (hl : C.length ≤ 16) :
    Calls Try.prog 40 #[drV a cap C loops gF cF gT cT,.int .i64 x] w fun e w'=>e=.returned (.bool (hasB C x))/\Below w.heap.size w w':=by
 unfold drV
 have hb:∀ o,Below w.heap.size w (w.alloc o):=fun o=>(Below.refl _ _).alloc (Nat.le_refl _) o
 obtain⟨m,hm⟩:∃ m,2*C.length+1=m:=⟨_,rfl⟩
 have HM:=hidB hm
 have hm40:m<=40:=by omega
 rw[hm]
 clear hm
 by_cases h1:1<=x
 · have d1:decide (1<=x)=true:=by simpa using h1
   by_cases h2:x<(m:Int)
   · have d2:decide (x<(m:Int))=true:=by simpa using h2
     have HR:=hidB (show hasB C x=true by have:=HM.out;simp[hasB,h1];omega)
     go_enter Try.func40,Try.ntmps40
     go_wp2
     go_ret
     exact⟨ret_bool HR.out,hb _⟩
   · have d2:decide (x<(m:Int))=false:=by simpa using h2
     have HR:=hidB (show hasB C x=false by have:=HM.out;simp[hasB];omega)
     go_enter Try.func40,Try.ntmps40
     go_wp2
     go_ret
     exact⟨ret_bool HR.out,hb _⟩
 · have d1:decide (1<=x)=false:=by simpa using h1
   have HR:=hidB (show hasB C x=false by simp[hasB,h1])
   go_enter Try.func40,Try.ntmps40
   go_wp2
   go_ret
   exact⟨ret_bool HR.out,hb _⟩
end Go.Proofs.Ytefooihnoajnlaa
/- Diagrams under way: crossings that are appended to one; the walks of drawing.crossOf and drawing.Turned. -/
namespace Go.Proofs.Ytefooihnoajnlaa
open Go.RowKit
theorem cells_append (C D:List Cr):crossCells (C++D)=crossCells C++crossCells D:=by simp[crossCells]
theorem new_cell5 (W:World) (a b c d p:Value) (e:TypeId):∀ j u,[a,b,c,d,p][j]?=some u->(W.alloc (.cells #[a,b,c,d,p] e)).cell? ((⟨W.heap.size,0,none⟩:Addr).add j)=some u:=by
 intro j u hj
 rw[Addr.add_lit,Nat.zero_add]
 have hh:(W.alloc (.cells #[a,b,c,d,p] e)).heap[W.heap.size]?=some (.cells #[a,b,c,d,p] e (0,0)):=Array.getElem?_push_size
 match j,hj with
 |0,hj=>simp at hj;subst hj;exact block_cell hh rfl
 |1,hj=>simp at hj;subst hj;exact block_cell hh rfl
 |2,hj=>simp at hj;subst hj;exact block_cell hh rfl
 |3,hj=>simp at hj;subst hj;exact block_cell hh rfl
 |4,hj=>simp at hj;subst hj;exact block_cell hh rfl
theorem new_cell5' {W:World} {s:Nat} (hs:s=W.heap.size) (a b c d p:Value) (e:TypeId):∀ j u,[a,b,c,d,p][j]?=some u->(W.alloc (.cells #[a,b,c,d,p] e)).cell? ((⟨s,0,none⟩:Addr).add j)=some u:=by
 subst hs
 exact new_cell5 W a b c d p e
structure OutAt (w:World) (B g:Nat) (v:Value) (loops:Int) (C:List Cr):Prop where
 box:w.heap[g]?=some (.cells #[v,.int .i64 loops] 24 (0,0))
 row:w.ownsRow B 60 5 v C.length (crossCells C)
theorem OutAt.nil {w:World} {B g:Nat} {loops:Int} (h:w.heap[g]?=some (.cells #[.slice none 0 0,.int .i64 loops] 24 (0,0))):OutAt w B g (.slice none 0 0) loops []:=⟨h,World.ownsRow_nil _ _ _ _⟩
theorem OutAt.on {w w':World} {B g:Nat} {v:Value} {loops:Int} {C:List Cr} (h:OutAt w B g v loops C) (hb:Below w.heap.size w w'):OutAt w' B g v loops C:=
 ⟨(hb.block _ (Array.getElem?_eq_some_iff.1 h.box).1).trans h.box,own_any h.row (grown_below hb none)⟩
theorem OutAt.kept {w w':World} {B g q:Nat} {v:Value} {loops:Int} {C:List Cr} (h:OutAt w B g v loops C) (hg:w.grownBy w' (some q)) (hq:q≠g) (hB:q<B):OutAt w' B g v loops C:=by
 refine⟨(hg.block _ (Array.getElem?_eq_some_iff.1 h.box).1 (fun e=>hq (Option.some.inj e).symm)).trans h.box,h.row.kept hg ?_⟩
 cases hv:v.ownBlock with
 |none=>exact Or.inl rfl
 |some k=>exact Or.inr (fun e=>by have h1:=(h.row.lt k hv).1;have h2:=Option.some.inj e;omega)
theorem OutAt.app {w w8:World} {B g:Nat} {v v8:Value} {loops:Int} {C:List Cr} {x:Cr} {o:Obj} {m:Nat} (h:OutAt w B g v loops C) (hgB:g<B) (hm:m=C.length+1) (hown8:w8.ownsRow B 60 5 v8 m (crossCells C++crossCells [x])) (hg8:(w.alloc o).grownBy w8 v.ownBlock):OutAt (w8.setCell ⟨g,0,none⟩ v8) B g v8 loops (C++[x]):=by
 have hlt:=(Array.getElem?_eq_some_iff.1 h.box).1
 have hb8:w8.heap[g]?=some (.cells #[v,.int .i64 loops] 24 (0,0)):=
  (hg8.block _ (by simp;omega) (fun e=>by have:=(h.row.lt g e.symm).1;omega)).trans (alloc_old h.box)
 refine⟨set_block hb8,?_⟩
 have hl:(C++[x]).length=m:=by rw[hm];simp
 rw[hl,cells_append]
 refine hown8.kept (set_grown w8 g 0 v8) ?_
 cases hv:v8.ownBlock with
 |none=>exact Or.inl rfl
 |some k=>exact Or.inr (fun e=>by have h1:=(hown8.lt k hv).1;have h2:=Option.some.inj e;omega)
theorem OutAt.below {w w8 W:World} {B B0 g:Nat} {v v8:Value} {loops:Int} {C:List Cr} {o:Obj} (h:OutAt w B g v loops C) (hb:Below B0 W w) (hB:B0<=B) (hs:B0<=w.heap.size) (h0:B0<=g) (hg8:(w.alloc o).grownBy w8 v.ownBlock):Below B0 W (w8.setCell ⟨g,0,none⟩ v8):=
 ((hb.alloc hs _).grown hg8 (by simp;omega) (fun q hq=>Nat.le_trans hB (h.row.lt q hq).1)).grown (set_grown w8 g 0 v8) (by have:=hg8.size;simp at this;omega) (fun q hq=>by have:=Option.some.inj hq;omega)
theorem OutAt.other {w w8:World} {B g k:Nat} {v v8:Value} {loops:Int} {C:List Cr} {o p:Obj} (h:OutAt w B g v loops C) (hk:w.heap[k]?=some p) (hkB:k<B) (hkg:k≠g) (hg8:(w.alloc o).grownBy w8 v.ownBlock):(w8.setCell ⟨g,0,none⟩ v8).heap[k]?=some p:=by
 have hlt:=(Array.getElem?_eq_some_iff.1 hk).1
 have hs:=hg8.size
 simp only[World.size_alloc]at hs
 have hb8:w8.heap[k]?=some p:=(hg8.block _ (by simp;omega) (fun e=>by have:=(h.row.lt k e.symm).1;omega)).trans (alloc_old hk)
 exact((set_grown w8 g 0 v8).block k (by omega) (fun e=>hkg (Option.some.inj e))).trans hb8
theorem OutAt.box8 {w w8:World} {B g:Nat} {v:Value} {loops:Int} {C:List Cr} {o:Obj} (h:OutAt w B g v loops C) (hgB:g<B) (hg8:(w.alloc o).grownBy w8 v.ownBlock):w8.heap[g]?=some (.cells #[v,.int .i64 loops] 24 (0,0)):=by
 have hlt:=(Array.getElem?_eq_some_iff.1 h.box).1
 exact(hg8.block _ (by simp;omega) (fun e=>by have:=(h.row.lt g e.symm).1;omega)).trans (alloc_old h.box)
end Go.Proofs.Ytefooihnoajnlaa

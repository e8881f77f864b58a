/- ClosureBurau: polynomials that may be handed in; rows and tables that the law makes; what plus answers. -/
import Derived.Test.YtiliihlkpknhdaaDoorCB12P
import Derived.Test.YtiliihlkpknhdaaDoorBT6P
import Derived.Test.YtiliihlkpknhdaaDoorAD11P
namespace Go.Proofs.YtiliihlkpknhdaaDoor.Poly
open Go.RowKit Go.Maps
set_option maxHeartbeats 400000
set_option maxRecDepth 100000
theorem canon_may {l:List (Int×Int)} {f:Int->Int} (h:Canon l f) (K:Nat) (hK:K<=31) (hs:∀ x,f x≠0 -> -(K:Int)<=x/\x<=K) (hc:∀ x,-1000000<=f x/\f x<=1000000):mayB l=true:=by
 refine(may_iff l).2 ⟨by have:=canon_lenB h K hs;omega,fun i hi=>(okB_iff l i).2 ?_⟩
 have hm:l.getD i (0,0)∈l:=gd_mem l (0,0) hi
 obtain⟨e1,e2⟩:=(h.2 (l.getD i (0,0)).1 (l.getD i (0,0)).2).1 hm
 have h1:=hs (l.getD i (0,0)).1 (by rw[e1];exact e2)
 have h2:=hc (l.getD i (0,0)).1
 rw[e1]at h2
 refine⟨by omega,by omega,h2.1,h2.2,e2,fun h0=>?_⟩
 have:=(List.pairwise_iff_getElem.1 h.1) (i-1) i (by omega) hi (by omega)
 rw[gd_at l (0,0) (show i-1<l.length by omega),gd_at l (0,0) hi]
 exact this
theorem prod_sup {K M:Int} {a:List (Int×Int)} {f:Int->Int} (ha:∀ u∈a,-K<=u.1/\u.1<=K) (hf:∀ z,f z≠0 -> -M<=z/\z<=M) (y:Int) (h:prodL a f y≠0) : -(K+M)<=y/\y<=K+M:=by
 induction a with
 |nil=>exact absurd rfl h
 |cons u a ih=>
  by_cases q:f (y-u.1)=0
  · refine ih (fun v hv=>ha v (.tail _ hv)) fun z=>h ?_
    show u.2*f (y-u.1)+prodL a f y=0
    rw[q,z,Int.mul_zero];rfl
  · have:=hf _ q
    have:=ha u (.head _)
    omega
theorem row_sup {K M:Int} {r:Nat->List (Int×Int)} (hr:∀ c,∀ u∈r c,-K<=u.1/\u.1<=K):∀ (cs:List Nat) (h:List Nat->Int->Int),(∀ rest z,h rest z≠0 -> -M<=z/\z<=M)->∀ y,rowF r cs h y≠0 -> -(K+M)<=y/\y<=K+M
 |[],_,_,_,q=>absurd rfl q
 |c::cs,h,hh,y,q=>by
  by_cases z:prodL (r c) (h cs) y=0
  · refine row_sup hr cs (fun rest=>h (c::rest)) (fun rest=>hh (c::rest)) y fun w=>q ?_
    show prodL (r c) (h cs) y-rowF r cs _ y=0
    rw[z,w];rfl
  · exact prod_sup (hr c) (hh cs) y z
theorem det_sup {K:Int}:∀ (R:List (Nat->List (Int×Int))),(∀ r∈R,∀ c,∀ u∈r c,-K<=u.1/\u.1<=K)->∀ (cs:List Nat) (y:Int),detF R cs y≠0 -> -(K*R.length)<=y/\y<=K*R.length
 |[],_,_,y,h=>by
  have e:oneF y≠0:=h
  unfold oneF at e
  by_cases q:y=0
  · subst q;show -(K*0)<=0/\0<=K*0;rw[Int.mul_zero];omega
  · rw[if_neg q]at e;exact absurd rfl e
 |r::R,hr,cs,y,h=>by
  have:=row_sup (hr r (.head _)) cs (detF R) (fun rest z hz=>det_sup R (fun s hs=>hr s (.tail _ hs)) rest z hz) y h
  show -(K*((R.length+1:Nat):Int))<=y/\y<=K*((R.length+1:Nat):Int)
  rw[show K*((R.length+1:Nat):Int)=K+K*R.length by rw[Int.natCast_add,Int.mul_add];omega]
  exact this
theorem Canon.congr {l:List (Int×Int)} {f g:Int->Int} (h:Canon l f) (e:∀ y,f y=g y):Canon l g:=by rw[<-show f=g from funext e];exact h
theorem prod_minus (a:List (Int×Int)) (y:Int):prodL a (coefL [(0,-1)]) y = -coefL a y:=by
 induction a with
 |nil=>rfl
 |cons u a ih=>
  show u.2*((if(0:Int)=y-u.1 then -1 else 0)+0)+prodL a _ y = -((if u.1=y then u.2 else 0)+coefL a y)
  rw[ih]
  by_cases q:u.1=y
  · rw[if_pos q,if_pos (by omega)];omega
  · rw[if_neg q,if_neg (by omega)];omega
def leF (l:List Int) (r c:Nat) (y:Int):Int:=(if r=c/\y=0 then 1 else 0)-buT l l.length r c y
theorem leF_ok {l:List Int} (h7:l.length<=7) (r c:Nat):(∀ y,leF l r c y≠0 -> -(7:Int)<=y/\y<=7)/\∀ y,-1000000<=leF l r c y/\leF l r c y<=1000000:=by
 have h:=buT_ok l l.length r c
 have h3:3 ^ l.length<=2187:=Nat.le_trans (Nat.pow_le_pow_right (by decide) h7) (by decide)
 refine⟨fun y hy=>?_,fun y=>?_⟩
 · unfold leF at hy
   by_cases q:r=c/\y=0
   · omega
   · rw[if_neg q]at hy
     have:=h.sp y (by omega)
     omega
 · have:=h.bd y
   unfold leF
   split<;>omega
theorem buT_may {l:List Int} (h7:l.length<=7) {r c:Nat} {t:List (Int×Int)} (h:Canon t (buT l l.length r c)):mayB t=true:=by
 have hb:=buT_ok l l.length r c
 have h3:3 ^ l.length<=2187:=Nat.le_trans (Nat.pow_le_pow_right (by decide) h7) (by decide)
 exact canon_may h 7 (by decide) (fun x hx=>by have:=hb.sp x hx;omega) (fun x=>by have:=hb.bd x;omega)
theorem law_fin {n : Nat} {l : List Int} {T : List (List (List (Int × Int)))} (hw : ∀ j, j < l.length → 1 ≤ (l.getD j 0).natAbs ∧ (l.getD j 0).natAbs < n) (h2 : 2 ≤ n) (h4 : n ≤ 4) (h7 : l.length ≤ 7) (hT : T.length = n - 1) (hR : ∀ i, i < n - 1 → (T.getD i []).length = n - 1)
    (hC:∀ i j,i<n-1->j<n-1->Canon ((T.getD i []).getD j []) (leF l i j)) {a b:List (Int×Int)} (hb:Canon b (detOfQ T)) (hA:IsAlex (clsC l n) (clsO l n) a) (ha:mayB a=true):mayB b=true/\unitL b=a:=by
 have hb':Canon b (detOf T):=hb
 have e:=burau_alex hw h2 h4 (by omega) hT hR hC hb' hA
 refine⟨?_,e.symm⟩
 have sup:∀ y,detOf T y≠0 -> -(31:Int)<=y/\y<=31:=fun y hy=>by
  have := det_sup (K := 7) (rowsOf T) (fun r hr c u hu => by
   unfold rowsOf at hr
   obtain⟨R,hR',rfl⟩:=List.mem_map.1 hr
   obtain⟨i,hi,rfl⟩:=List.getElem_of_mem hR'
   have ei:T[i]=T.getD i []:=(gd_at T [] hi).symm
   rw[ei]at hu
   by_cases hc:c<n-1
   · have hcn:=hC i c (by omega) hc
     obtain⟨e1,e2⟩:=(hcn.2 u.1 u.2).1 hu
     exact(leF_ok h7 i c).1 u.1 (by rw[e1];exact e2)
   · have hlen:=hR i (by omega)
     generalize T.getD i []=R0 at hu hlen
     have e0:R0.getD c []=[]:=by rw[List.getD_eq_getElem?_getD,List.getElem?_eq_none (by omega)];rfl
     change u∈R0.getD c []at hu
     rw[e0]at hu
     cases hu) (List.range T.length) y hy
  have hl:(rowsOf T).length=n-1:=by unfold rowsOf;rw[List.length_map,hT]
  rw[hl]at this
  omega
 refine canon_may hb' 31 (Nat.le_refl _) sup fun y=>?_
 by_cases q:detOf T y=0
 · rw[q];omega
 · have hm:(y,detOf T y)∈b:=(hb'.2 y (detOf T y)).2 ⟨rfl,q⟩
   have hu:((y-(b.getD 0 (0,0)).1,if(b.getD 0 (0,0)).2<0 then -detOf T y else detOf T y):Int×Int)∈unitL b:=List.mem_map.2 ⟨_,hm,rfl⟩
   rw[<-e]at hu
   obtain⟨i,hi,ei⟩:=List.getElem_of_mem hu
   have ho:=(okB_iff a i).1 (((may_iff a).1 ha).2 i hi)
   rw[gd_at a (0,0) hi,ei]at ho
   have h3:=ho.2.2.1
   have h4:=ho.2.2.2.1
   simp only at h3 h4
   split at h3<;>omega
def RowOwnB (w:World) (B:Nat) (v:Value) (R:List (List (Int×Int))):Prop:=
 ∃ ys:List Value,ys.length=R.length/\w.ownsRow B 34 1 v ys.length ys/\∀ j,j<R.length->w.ownsRow B 40 2 (ys.getD j (.bool false)) (R.getD j []).length (flat (R.getD j []))
theorem RowOwnB.any {w w':World} {B:Nat} {v:Value} {R:List (List (Int×Int))} (h:RowOwnB w B v R) (hg:w.grownBy w' none):RowOwnB w' B v R:=by
 obtain⟨ys,h1,h2,h3⟩:=h
 exact⟨ys,h1,own_any h2 hg,fun j hj=>own_any (h3 j hj) hg⟩
theorem RowOwnB.low {w:World} {B B':Nat} {v:Value} {R:List (List (Int×Int))} (h:RowOwnB w B v R) (hB:B'<=B):RowOwnB w B' v R:=by
 obtain⟨ys,h1,h2,h3⟩:=h
 exact⟨ys,h1,own_low h2 hB,fun j hj=>own_low (h3 j hj) hB⟩
theorem RowOwnB.other {w w':World} {B B' n:Nat} {v u:Value} {R:List (List (Int×Int))} {xs:List Value} (h:RowOwnB w B v R) (ho:w.ownsRow B' 37 1 u n xs) (hg:w.grownBy w' u.ownBlock):RowOwnB w' B v R:=by
 obtain⟨ys,h1,h2,h3⟩:=h
 exact⟨ys,h1,h2.kept hg (own_ne h2 ho (by decide)),fun j hj=>(h3 j hj).kept hg (own_ne (h3 j hj) ho (by decide))⟩
theorem slots_ownB {w:World} {B e n:Nat} {v:Value} {xs:List Value} (h:w.ownsRow B e 1 v n xs):Slots w w.heap.size v xs:=by
 have hl:xs.length=n:=by simpa using h.1
 rcases h.2 with⟨rfl,h0⟩|⟨g,cap,cur,rfl,_,hg,_,_,_,_⟩
 · refine⟨none,0,by rw[hl,h0],fun hp=>by omega⟩
 · refine⟨some ⟨g,0,none⟩,cap,by rw[hl],fun _=>⟨g,0,rfl,(h.lt g rfl).2,fun i hi=>?_⟩⟩
   rw[Nat.zero_add,h.cellAt i (by omega),List.getD,List.getElem?_eq_getElem hi]
   rfl
theorem RowOwnB.row {w:World} {B:Nat} {v:Value} {R:List (List (Int×Int))} (h:RowOwnB w B v R):Row w w.heap.size v R:=by
 obtain⟨ys,h1,h2,h3⟩:=h
 exact⟨ys,h1,slots_ownB h2,fun j hj=>Poly.ofRow (h3 j hj)⟩
theorem table_ownB {w:World} {B:Nat} {v:Value} {T:List (List (List (Int×Int)))} {zs:List Value} (hz:zs.length=T.length) (ho:w.ownsRow B 37 1 v zs.length zs) (hr:∀ i,i<T.length->RowOwnB w B (zs.getD i (.bool false)) (T.getD i [])):Table w w.heap.size v T:=
 ⟨zs,hz,slots_ownB ho,fun i hi=>(hr i hi).row⟩
theorem getL_leftB {α:Type} (R:List (List α)) (m:List α) (i:Nat) (h:i<R.length):(R++[m]).getD i []=R.getD i []:=by simp[List.getD,List.getElem?_append_left h]
theorem getL_lastB {α:Type} (R:List (List α)) (m:List α):(R++[m]).getD R.length []=m:=by simp[List.getD]
theorem infoPolyB:(Tryd.prog.info? 34).map (fun i=>(i.zero,i.size,i.bytes))=some (some (.slice none 0 0),1,24):=by kernel_rfl
theorem infoRowB:(Tryd.prog.info? 37).map (fun i=>(i.zero,i.size,i.bytes))=some (some (.slice none 0 0),1,24):=by kernel_rfl
theorem plusB_own (v1 v2 : Value) (l1 l2 : List (Int × Int)) (w : World) (hm1 : mayB l1 = true) (hm2 : mayB l2 = true) (hP1 : Poly w w.heap.size v1 l1) (hP2 : Poly w w.heap.size v2 l2) :
    Calls Tryd.prog 10 #[v1,v2] w fun e w'=>∃ v r,e=.returned v/\w'.ownsRow w.heap.size 40 2 v r.length (flat r)/\Canon r (fun x=>coefL l1 x+coefL l2 x)/\Below w.heap.size w w':=by
 have HP1:Hid (Poly w w.heap.size v1 l1):=hP1
 have HP2:Hid (Poly w w.heap.size v2 l2):=hP2
 have HM1:Hid (mayB l1=true):=hm1
 have HM2:Hid (mayB l2=true):=hm2
 clear hP1 hP2 hm1 hm2
 go_enter Tryd.func10,Tryd.ntmps10
 go_wp2_with (go_at_call 23;refine(add_yes v1 v2 l1 l2 w HM1.out HM2.out HP1.out HP2.out).mono ?_;rintro r w1 ⟨v,m,rfl,hrow,hcan,hml,hb1⟩)
 go_ret
 exact⟨v,m,rfl,hrow,hcan,hb1⟩
theorem poly_lit {W:World} {x c:Int} {e:TypeId}:Poly (W.alloc (.cells #[.int .i64 x,.int .i64 c] e)) (W.alloc (.cells #[.int .i64 x,.int .i64 c] e)).heap.size (.slice (some ⟨W.heap.size,0,none⟩) 1 1) [(x,c)]:=by
 refine Or.inr (Or.inr ⟨W.heap.size,0,1,rfl,by simp,fun i hi=>?_⟩)
 obtain rfl:i=0:=by simp at hi;exact hi
 have hh:(W.alloc (.cells #[.int .i64 x,.int .i64 c] e)).heap[W.heap.size]?=some (.cells #[.int .i64 x,.int .i64 c] e (0,0)):=Array.getElem?_push_size
 exact⟨block_cell hh rfl,block_cell hh rfl⟩
end Go.Proofs.YtiliihlkpknhdaaDoor.Poly

/- Several texts of the proof, one behind the other. -/
import Derived.Test.YtookanmeflbdlaaGreatDoorTkhP
import Derived.Test.YtookanmeflbdlaaGreatDoorAL0P
import Derived.Deep.RegionLaw
/- The walk of the closure in alex.row. -/
namespace Go.Proofs.YtookanmeflbdlaaGreatDoor
open Go.RowKit
set_option maxHeartbeats 4000000
set_option maxRecDepth 100000
def XW3:Prop:=∀ (v1 v2:Value) (l1 l2:List (Int×Int)) (w:World),Poly.mayB l1=true->Poly.mayB l2=true->Poly.Poly w w.heap.size v1 l1->Poly.Poly w w.heap.size v2 l2->
 Calls Tryz.prog 87 #[v1,v2] w fun e w'=>∃ v r,e=.returned (.tuple #[v,.int .i64 0])/\w'.ownsRow w.heap.size 45 2 v r.length (Poly.flat r)/\Poly.Canon r (fun x=>Poly.coefL l1 x+Poly.coefL l2 x)/\r.length<=128/\Below w.heap.size w w'
theorem ZQ1 (hAdd : XW3) (B m g go gp : Nat) (vals : Nat → Value) (F : Nat → Int × Int) (ao : Option Addr) (no co bo oo arc p : Nat) (v2 : Value) (dx dy : Int) (w : World) (hB : B ≤ w.heap.size)
    (hF:QY0 F 10) (hdx : -1<=dx/\dx<=1) (hdy : -1<=dy/\dy<=1) (ha:1<=arc) (han:arc<=no) (hno:no<=40) (hp:p<m) (hao:ao=some ⟨bo,oo,none⟩)
    (cO:w.heap[go]?=some (.cells #[.slice ao no co] 67 (0,0))) (cP:w.heap[gp]?=some (.cells #[.slice (some ⟨g,0,none⟩) m m] 89 (0,0))) (cA:w.cell? ⟨bo,oo+(arc-1),none⟩=some (.int .i64 (p:Nat)))
    (h2:Poly.Poly w w.heap.size v2 (QY5 dx dy)) (hP:PlcAt B m g vals F w):
    Calls Tryz.prog 86 #[.int .i64 (arc:Nat),v2,.pointer (some ⟨go,0,none⟩),.pointer (some ⟨gp,0,none⟩)] w fun e w'=>e=.returned (.tuple #[])/\(∃ vals',PlcAt B m g vals' (QK0 F p dx dy) w')/\w.grownBy w' (some g):=by
 subst hao
 obtain⟨k,rfl⟩:∃ k,arc=k+1:=⟨arc - 1,by omega⟩
 rw[Nat.add_sub_cancel]at cA
 have HADD:Hid XW3:=hAdd
 have H2:=hidB h2
 have HP:=hidB hP
 have HF:=hidB hF
 have q0:=QQ0 (i:=0) cO rfl
 have q1:=QQ0 (i:=0) cP rfl
 have HBP:=hidB cP
 have hgo:=(Array.getElem?_eq_some_iff.1 cO).1
 have hgp:=(Array.getElem?_eq_some_iff.1 cP).1
 have hgl:=(hP.row.lt g rfl).2
 clear hP hF h2 cO cP
 have hev:=HP.out.each p hp
 obtain⟨av,cv,ev⟩:=QK8 hev
 have HEV:=hidB ev
 have q2:w.cell? ⟨g,p,none⟩=some (.slice av (QY5 (F p).1 (F p).2).length cv):=by rw[HP.out.row.cellAt p (by omega),QJ0 _ _ _ hp,ev]
 have HBD:Hid (Below w.heap.size w w.drew):=below_drewN (Below.refl _ _) 1
 have hpd:=own_any hev (grown_below HBD.out none)
 rw[ev]at hpd
 have HCA : Hid (Calls Tryz.prog 87 #[.slice av (QY5 (F p).1 (F p).2).length cv, v2] w.drew fun e w' => ∃ v, e = .returned (.tuple #[v, .int .i64 0]) ∧ w'.ownsRow w.heap.size 45 2 v (QY5 ((F p).1 + dx) ((F p).2 + dy)).length (Poly.flat (QY5 ((F p).1 + dx) ((F p).2 + dy))) ∧ Below w.heap.size w w') := (by
  have hs:=HF.out p
  refine(HADD.out _ v2 (QY5 (F p).1 (F p).2) (QY5 dx dy) w.drew (XA5 _ _ (by omega) (by omega)) (XA5 _ _ (by omega) (by omega)) (Poly.Poly.ofRow hpd) (H2.out.on HBD.out)).mono ?_
  rintro e w' ⟨v,r,e1,hr,hc,_,hb⟩
  rw[KH9 hc]at hr
  exact⟨v,e1,hr,HBD.out.trans hb⟩:Calls Tryz.prog 87 #[.slice av (QY5 (F p).1 (F p).2).length cv,v2] w.drew fun e w'=>∃ v,e=.returned (.tuple #[v,.int .i64 0])/\w'.ownsRow w.heap.size 45 2 v (QY5 ((F p).1+dx) ((F p).2+dy)).length (Poly.flat (QY5 ((F p).1+dx) ((F p).2+dy)))/\Below w.heap.size w w')
 have HRW:Hid (∀ w',Below w.heap.size w w'->w'.cell? ⟨g,p,none⟩=some (.slice av (QY5 (F p).1 (F p).2).length cv)/\w'.frozen? ⟨g,p,none⟩=false/\g<w'.heap.size/\w'.cell? ⟨gp,0,none⟩=some (.slice (some ⟨g,0,none⟩) m m)):=fun w' hb=>by
  have h:=(HP.out.any (grown_below hb none)).row
  exact⟨by rw[h.cellAt p (by omega),QJ0 _ _ _ hp,HEV.out],h.frozenAt p,(h.lt g rfl).2,QQ0 ((hb.block _ hgp).trans HBP.out) rfl⟩
 have hpi:(p:Int)<(m:Int):=by omega
 generalize (QY5 (F p).1 (F p).2).length=la at*
 clear hev ev hpd
 go_enter Tryz.func86,Tryz.ntmps86
 go_wp2
 go_region_law (first
  |(go_simp;go_at_call 87;refine HCA.out.mono ?_;rintro e9 w5 ⟨v5,rfl,hr5,hb5⟩;obtain⟨a5,c5,e5⟩:=QK8 hr5;subst e5;obtain⟨r0,r1,r2,r3⟩:=HRW.out w5 hb5))
 all_goals
  exact bodyPost_end (v:=.tuple #[]) (results_none rfl _ _ _) rfl ⟨rfl,⟨_,HP.out.set hb5 hB p dx dy _ hr5⟩,grown_trans (grown_below hb5 _) (QX3 _ _ _ _)⟩
end Go.Proofs.YtookanmeflbdlaaGreatDoor
/- The walk of the closure that lays a summand's crossings (canon.tied's own). -/
namespace Go.Proofs.YtookanmeflbdlaaGreatDoor
open Go.RowKit
set_option maxHeartbeats 8000000
set_option maxRecDepth 100000
theorem step_append_own {P : Program} {ops : Array Oper} {o : Oper} {a : Act} {w : World} {K : Act → World → Prop} {Q : Exit → Act → World → Prop} {E : Prop}
    (hg:o.guard=none) (s x:Operand) (t:TypeId)
    (ho:o.op=.call { callee:=.builtin .append,args:=#[s,x],argTypes:=#[t,t] })
    (base:Nat) (e:TypeId) (i:TypeInfo) (z:Value) (size bytes:Nat) (ht:P.underlying t=some (.slice e)) (hi:P.info? e=some i) (hz:i.zero=some z)
    (hsize:i.size=size) (hby:i.bytes=bytes) (hzs:z.cells.size=size) (hsz:0<size)
    (v:Value) (n:Nat) (xs:List Value) (hs:a.eval s=v) (hown:w.ownsRow base e size v n xs)
    (ad:Addr) (m c:Nat) (news:List Value) (hx:a.eval x=.slice (some ad) m c) (hl:news.length=m*size) (hnews:∀ j u,news[j]?=some u->w.cell? (ad.add j)=some u) (h1:∀ u∈news,u.oneCell'=true)
    (h63:n+m<=maxLen) (hbytes:(n+m)*bytes<=140737488355328) (hbase:base<=w.heap.size)
    (h:∀ v' w',w'.ownsRow base e size v' (n+m) (xs++news)->w.grownBy w' v.ownBlock->K (a.put o.dst v') w'):
    if Region.wanted o (yielded ops a.tmps)=true then Oper.wp P o a w K Q else E:=by
 have hw:Region.wanted o (yielded ops a.tmps)=true:=by simp[Region.wanted,hg]
 rw[if_pos hw]
 exact wp_append_own w s x t ho base e i z size bytes ht hi hz hsize hby hzs hsz v n xs hs hown ad m c news hx hl hnews h1 h63 hbytes hbase (fun v' w' h2 h3 _=>h v' w' h2 h3)
theorem OutAt.otherT {w w8:World} {B g k:Nat} {v v8:Value} {loops:Int} {C:List Cr} {o:Obj} {cs:Array Value} {t:TypeId} {fz:Nat×Nat} (h:OutAt w B g v loops C) (hk:w.heap[k]?=some (.cells cs t fz)) (ht:t≠63) (hkg:k≠g) (hg8:(w.alloc o).grownBy w8 v.ownBlock):(w8.setCell ⟨g,0,none⟩ v8).heap[k]?=some (.cells cs t fz):=by
 have hlt:=(Array.getElem?_eq_some_iff.1 hk).1
 have hs:=hg8.size
 simp only[World.size_alloc]at hs
 have hb8 : w8.heap[k]? = some (.cells cs t fz) := (hg8.block _ (by simp; omega) (fun e => by
  rcases h.row.2 with⟨hv,_⟩|⟨q,cap,cur,hv,_,hq,_⟩
  · rw[hv]at e;cases e
  · rw[hv]at e
    have e1:k=q:=Option.some.inj e
    rw[<-e1,hk]at hq
    injection hq with h1
    injection h1 with h2 h3
    exact ht h3)).trans (alloc_old hk)
 exact((QX3 w8 g 0 v8).block k (by omega) (fun e=>hkg (Option.some.inj e))).trans hb8
theorem XJ0 (a : Option Addr) (cap : Nat) (C : List Cr) (loops l0 : Int) (gF cF gT cT : Nat) (more cut other : Int) (B g : Nat) (v : Value) (acc0 : List Cr) (w : World) (hl : C.length ≤ 16) (hl0 : acc0.length ≤ 16) (hB : g < B) (hBw : B ≤ w.heap.size) (hD : Crs w g (.slice a C.length cap) C) (hA : ∀ i k, i < C.length → k < 4 → -1000 ≤ (C.getD i Cr.none).arc k ∧ (C.getD i Cr.none).arc k ≤ 1000) (h2 : -1000 ≤ more ∧ more ≤ 1000) (hO : OutAt w B g v l0 acc0) :
    Calls Tryz.prog 45 #[drV a cap C loops gF cF gT cT,.int .i64 more,.int .i64 cut,.int .i64 other,.pointer (some ⟨g,0,none⟩)] w fun e w'=>e=.returned (.tuple #[])/\(∃ v',OutAt w' B g v' l0 (acc0++C.map (Qb9 more cut other)))/\Below g w w':=by
 obtain⟨i0,hi,hz0,hz1,hz2⟩:=info_parts Zh7
 unfold drV
 have HD:=hidB hD
 have HAR:=hidB hA
 have HO:=hidB hO
 clear hD hA hO
 obtain⟨w0,hw0⟩:∃ w0,w0=(((w.alloc (.cells #[.slice a C.length cap,.int .i64 loops,.slice (some ⟨gF,0,none⟩) (2*C.length+1) cF,.slice (some ⟨gT,0,none⟩) (2*C.length+1) cT] 49)).alloc (.cells #[.int .i64 more] 3)).alloc (.cells #[.int .i64 cut] 3)).alloc (.cells #[.int .i64 other] 3):=⟨_,rfl⟩
 have HW0:=hidB hw0
 have hs0:w0.heap.size=w.heap.size+4:=by rw[hw0];simp
 have HB0:=hidB (show Below w.heap.size w w0 by rw[hw0];exact(QA8 _ _ _ _).alloc (by simp;omega) _)
 have HT1:=hidB (show w0.heap[w.heap.size+1]?=some (.cells #[.int .i64 more] 3 (0,0)) by rw[hw0];exact alloc_old (alloc_old (alloc_at (by simp))))
 have HT2:=hidB (show w0.heap[w.heap.size+1+1]?=some (.cells #[.int .i64 cut] 3 (0,0)) by rw[hw0];exact alloc_old (alloc_at (by simp)))
 have HT3:=hidB (show w0.heap[w.heap.size+1+1+1]?=some (.cells #[.int .i64 other] 3 (0,0)) by rw[hw0];exact alloc_at (by simp))
 have HO0:=hidB (HO.out.on HB0.out)
 clear hw0
 go_enter Tryz.func45,Tryz.ntmps45
 go_wp2
 rw[<-HW0.out]
 go_loopw [15] (fun v15 wr=>∃ (i:Nat) (v3:Value) (acc:List Cr),i<=C.length/\v15=.int .i64 (i:Nat)/\Hid (acc.length=acc0.length+i)/\Hid (acc=acc0++(C.take i).map (Qb9 more cut other))/\OutAt wr B g v3 l0 acc/\Hid (wr.heap[w.heap.size+1]?=some (.cells #[.int .i64 more] 3 (0,0))/\wr.heap[w.heap.size+1+1]?=some (.cells #[.int .i64 cut] 3 (0,0))/\wr.heap[w.heap.size+1+1+1]?=some (.cells #[.int .i64 other] 3 (0,0)))/\w0.heap.size<=wr.heap.size/\Below g w wr) (fun v15 _=>C.length-(intOf v15).toNat)
 case atStart=>exact⟨0,v,acc0,Nat.zero_le _,rfl,(rfl:acc0.length=acc0.length+0),(by simp:acc0=acc0++(C.take 0).map _),HO0.out,⟨HT1.out,HT2.out,HT3.out⟩,Nat.le_refl _,HB0.out.mono (by omega)⟩
 case round=>
  rename World=>W1
  obtain⟨i,v3,acc,hin,rfl,hal,hacc,hout,hbx,hszW,hb⟩:=hrel
  have hal32:acc.length<=32:=by have:=hal.out;omega
  have hlt1:=(Array.getElem?_eq_some_iff.1 hout.box).1
  by_cases hil:i<C.length
  · obtain⟨b,off,ea,hbq,hC⟩:=ZU1 HD.out (by omega)
    subst ea
    obtain⟨c0,c1,c2,c3,c4⟩:=(hC.on hb hbq) i hil
    have HNX : Hid ((C.take (i + 1)).map (Qb9 more cut other) = (C.take i).map (Qb9 more cut other) ++ [Qb9 more cut other (C.getD i Cr.none)]) := (by
     have e2:C.take (i+1)=C.take i++[C.getD i Cr.none]:=by
      rw[List.take_add_one,List.getD_eq_getElem?_getD,List.getElem?_eq_getElem hil]
      rfl
     rw[e2]
     simp:(C.take (i+1)).map (Qb9 more cut other)=(C.take i).map (Qb9 more cut other)++[Qb9 more cut other (C.getD i Cr.none)])
    have HRG:Hid (∀ k,k<4 -> -1000<=(C.getD i Cr.none).arc k/\(C.getD i Cr.none).arc k<=1000):=fun k hk=>HAR.out i k hil hk
    clear hC
    generalize C.getD i Cr.none=x at c0 c1 c2 c3 c4 HNX HRG
    have hb1:b<W1.heap.size:=by omega
    have HOUT:=hidB hout
    clear hout
    obtain⟨a3,c3',ev3⟩:=QK8 HOUT.out.row
    subst ev3
    obtain⟨Y,hY⟩:∃ Y,Y=W1.alloc (.cells #[.int .i64 x.a,.int .i64 x.b,.int .i64 x.c,.int .i64 x.d,.bool x.plus] 63):=⟨_,rfl⟩
    have HY:=hidB hY
    have hsY:Y.heap.size=W1.heap.size+1:=by rw[hY];simp
    have HBY:=hidB (show Below W1.heap.size W1 Y by rw[hY];exact(Below.refl _ _).alloc (Nat.le_refl _) _)
    have HTY:=hidB (show Y.heap[W1.heap.size]?=some (.cells #[.int .i64 x.a,.int .i64 x.b,.int .i64 x.c,.int .i64 x.d,.bool x.plus] 63 (0,0)) by rw[hY];exact alloc_at rfl)
    clear hY
    have HDW:Hid (Below Y.heap.size Y Y.drew):=(Below.refl _ _).drew
    have HBO : Hid (Boxes Y.drew x more cut other (w.heap.size + 1 + 1) W1.heap.size (w.heap.size + 1 + 1 + 1) (w.heap.size + 1)) := (by
     have k1:=(HBY.out.block _ (by omega)).trans hbx.out.1
     have k2:=(HBY.out.block _ (by omega)).trans hbx.out.2.1
     have k3:=(HBY.out.block _ (by omega)).trans hbx.out.2.2
     have e:Y.drew.heap=Y.heap:=rfl
     have e0:∀ p,Y.drew.cell? p=Y.cell? p:=fun p=>rfl
     refine⟨⟨by rw[e];omega,by rw[e];omega,by rw[e];omega,by rw[e];omega⟩,?_,?_,?_,?_,?_,?_,?_,?_⟩
     · rw[e0];exact QQ0 k2 rfl
     · rw[e0];exact QQ0 HTY.out rfl
     · rw[e0];exact QQ0 HTY.out rfl
     · rw[e0];exact QQ0 HTY.out rfl
     · rw[e0];exact QQ0 HTY.out rfl
     · rw[e0];exact QQ0 HTY.out rfl
     · rw[e0];exact QQ0 k3 rfl
     · rw[e0];exact QQ0 k1 rfl:Boxes Y.drew x more cut other (w.heap.size+1+1) W1.heap.size (w.heap.size+1+1+1) (w.heap.size+1))
    have s0:=QQ0 (i:=0) HTY.out rfl
    have s1:=QQ0 (i:=1) HTY.out rfl
    have s2:=QQ0 (i:=2) HTY.out rfl
    have s3:=QQ0 (i:=3) HTY.out rfl
    have s4:=QQ0 (i:=4) HTY.out rfl
    have HOY:=hidB (HOUT.out.on HBY.out)
    have t0:=QQ0 (i:=0) HOY.out.box rfl
    have t1:g<Y.heap.size:=by omega
    have hlY:W1.heap.size<Y.heap.size:=by omega
    go_wp2
    rw[<-HY.out]
    clear c0 c1 c2 c3 c4
    obtain⟨y,hy⟩:∃ y,Qb9 more cut other x=y:=⟨_,rfl⟩
    have HYY:=hidB hy
    have HYP:=hidB (show y.plus=x.plus by rw[<-hy];rfl)
    clear hy
    go_region_law (first
     | (refine step_append_own rfl (.tmp 20) (.tmp 24) 22 rfl B 63 i0 (.agg #[.int .i64 0, .int .i64 0, .int .i64 0, .int .i64 0, .bool false]) 5 40 Tryz.underlying22 hi hz0 hz1 hz2 rfl (by decide) _ acc.length _ (by simp [Act.eval]) (HOA.out.row.alloc _) ⟨wA.heap.size, 0, none⟩ 1 1 [.int .i64 y.a, .int .i64 y.b, .int .i64 y.c, .int .i64 y.d, .bool x.plus] (by simp [Act.eval]) rfl (Zf8 _ _ _ _ _ _ _) (cells_one [⟨y.a, y.b, y.c, y.d, x.plus⟩]) (by unfold maxLen; omega) (by omega) (by simp; omega) ?_; intro v8 w8 hown8 hg8
        have HOW8:=hidB hown8
        have HG8:=hidB hg8
        obtain⟨a8,c8,ev8⟩:=QK8 HOW8.out
        subst ev8
        have hb8:=HOA.out.box8 (by omega) HG8.out
        have r0:=QQ0 (i:=0) hb8 rfl
        have r1:=QQ1 (i:=0) hb8
        have r2:g<w8.heap.size:=(Array.getElem?_eq_some_iff.1 hb8).1
        clear hown8 hg8 hb8)
     | (go_simp; go_at_call 46; refine (XW5 x more cut other _ _ _ _ _ HRG.out h2 HBO.out).mono ?_; rw [HYY.out]; rintro e9 wA ⟨rfl, hbA⟩
        have HA:=hidB (HDW.out.trans hbA)
        have HOA:=hidB (HOY.out.on HA.out)
        have a0:=QQ0 (i:=0) HOA.out.box rfl
        have a1:g<wA.heap.size:=(Array.getElem?_eq_some_iff.1 HOA.out.box).1
        have hsA:Y.heap.size<=wA.heap.size:=HA.out.size
        clear hbA))
    all_goals
     have HYE:=hidB (show(⟨y.a,y.b,y.c,y.d,x.plus⟩:Cr)=y by rw[<-HYP.out])
     have HWA:=hidB (HBY.out.trans (HA.out.mono (by omega)))
     have hs8:=HG8.out.size
     simp only[World.size_alloc]at hs8
     clear s0 s1 s2 s3 s4 t0 a0 r0 r1
     go_wp2
     go_roundw
    all_goals first
     |(simp only[intOf];omega)
     |exact⟨i+1,.slice a8 (acc.length+1) c8,acc++[(⟨y.a,y.b,y.c,y.d,x.plus⟩:Cr)],by omega,by go_num,(by have:=hal.out;simp;omega:(acc++[(⟨y.a,y.b,y.c,y.d,x.plus⟩:Cr)]).length=acc0.length+(i+1)),(by rw[HYE.out,HNX.out,HYY.out,hacc.out,List.append_assoc]:acc++[(⟨y.a,y.b,y.c,y.d,x.plus⟩:Cr)]=acc0++(C.take (i+1)).map (Qb9 more cut other)),HOA.out.app (by omega) rfl HOW8.out HG8.out,⟨HOA.out.otherT ((HWA.out.block _ (by omega)).trans hbx.out.1) (by decide) (by omega) HG8.out,HOA.out.otherT ((HWA.out.block _ (by omega)).trans hbx.out.2.1) (by decide) (by omega) HG8.out,HOA.out.otherT ((HWA.out.block _ (by omega)).trans hbx.out.2.2) (by decide) (by omega) HG8.out⟩,(by simp;omega),HOA.out.below (hb.trans (HWA.out.mono (by omega))) (by omega) (by omega) (Nat.le_refl _) HG8.out⟩
  · obtain rfl:i=C.length:=by omega
    have e:acc=acc0++C.map (Qb9 more cut other):=by rw[hacc.out,List.take_length]
    have HOUT:=hidB (show OutAt W1 B g v3 l0 (acc0++C.map (Qb9 more cut other)) by rw[<-e];exact hout)
    clear hout e hacc hal
    go_wp2
    exact bodyPost_end (v:=.tuple #[]) (by simp[results,Tryz.results45,go_sem]) rfl ⟨rfl,⟨v3,HOUT.out⟩,hb⟩
end Go.Proofs.YtookanmeflbdlaaGreatDoor
/- The walks of Drawing.Has and canon.tied. -/
namespace Go.Proofs.YtookanmeflbdlaaGreatDoor
open Go.RowKit
set_option maxHeartbeats 4000000
set_option maxRecDepth 100000
def QX4 (C D:List Cr) (x y:Int):List Cr:=C.map (Qb9 0 x (y+2*(C.length:Int)))++D.map (Qb9 (2*(C.length:Int)) y x)
theorem Zw6 {C:List Cr} {loops:Int} (hm:QQ6 C loops=true):∀ i k,i<C.length->k<4 -> -1000<=(C.getD i Cr.none).arc k/\(C.getD i Cr.none).arc k<=1000:=fun i k hi hk=>by
 obtain⟨s,-,-,-⟩:=QX5 (QZ6 hm)
 have h:=QK9 hm i k hi hk
 have h1:=h.1
 have h2:=h.2.1
 omega
theorem KJ7 (a : Option Addr) (cap : Nat) (C : List Cr) (l1 : Int) (gF cF gT cT : Nat) (a' : Option Addr) (cap' : Nat) (D : List Cr) (l2 : Int) (gF' cF' gT' cT' : Nat) (x y : Int) (w : World) (hm : QQ6 C l1 = true) (hm' : QQ6 D l2 = true)
    (_hx:1<=x/\x<=32) (hy:1<=y/\y<=32) (hC:Crs w w.heap.size (.slice a C.length cap) C) (hD:Crs w w.heap.size (.slice a' D.length cap') D):
    Calls Tryz.prog 20 #[drV a cap C l1 gF cF gT cT,.int .i64 x,drV a' cap' D l2 gF' cF' gT' cT',.int .i64 y] w fun e w'=>∃ v,e=.returned (.agg #[v,.int .i64 (l1+l2)])/\w'.ownsRow w.heap.size 63 5 v (QX4 C D x y).length (QX8 (QX4 C D x y))/\Below w.heap.size w w':=by
 obtain⟨s1,p1,p2,-⟩:=QX5 (QZ6 hm)
 obtain⟨s2,p3,p4,-⟩:=QX5 (QZ6 hm')
 have HA1:=hidB (Zw6 hm)
 have HA2:=hidB (Zw6 hm')
 have HC:=hidB hC
 have HD:=hidB hD
 unfold drV
 clear hm hm' hC hD
 obtain⟨w0,hw0⟩:∃ w0,w0=(((w.alloc (.cells #[.slice a C.length cap,.int .i64 l1,.slice (some ⟨gF,0,none⟩) (2*C.length+1) cF,.slice (some ⟨gT,0,none⟩) (2*C.length+1) cT] 49)).alloc (.cells #[.slice a' D.length cap',.int .i64 l2,.slice (some ⟨gF',0,none⟩) (2*D.length+1) cF',.slice (some ⟨gT',0,none⟩) (2*D.length+1) cT'] 49)).alloc (.cells #[.slice none 0 0,.int .i64 0] 24)).alloc (.cells #[.slice none 0 0,.int .i64 (l1+l2)] 24):=⟨_,rfl⟩
 have HW0:=hidB hw0
 have hs0:w0.heap.size=w.heap.size+4:=by rw[hw0];simp
 have HB0:=hidB (show Below w.heap.size w w0 by rw[hw0];exact(QA8 _ _ _ _).alloc (by simp;omega) _)
 have HT1:=hidB (show w0.heap[w.heap.size+1]?=some (.cells #[.slice a' D.length cap',.int .i64 l2,.slice (some ⟨gF',0,none⟩) (2*D.length+1) cF',.slice (some ⟨gT',0,none⟩) (2*D.length+1) cT'] 49 (0,0)) by rw[hw0];exact alloc_old (alloc_old (alloc_at (by simp))))
 have HT2:=hidB (show w0.heap[w.heap.size+1+1]?=some (.cells #[.slice none 0 0,.int .i64 0] 24 (0,0)) by rw[hw0];exact alloc_old (alloc_at (by simp)))
 have HO0:=hidB (show OutAt w0 (w.heap.size+4) (w.heap.size+1+1+1) (.slice none 0 0) (l1+l2) [] by rw[hw0];exact OutAt.nil (alloc_at (by simp)))
 have HC0:Hid (Crs w0 (w.heap.size+1+1+1) (.slice a C.length cap) C):=(HC.out.on HB0.out).mono (by omega)
 clear hw0
 have q1:IntKind.i64.wrap (l1+l2)=l1+l2:=IntWalk.i64_in _ (by omega)
 have q2:IntKind.i64.wrap (2*(C.length:Int))=2*(C.length:Int):=IntWalk.i64_in _ (by omega)
 have q3:IntKind.i64.wrap (y+2*(C.length:Int))=y+2*(C.length:Int):=IntWalk.i64_in _ (by omega)
 go_enter Tryz.func20,Tryz.ntmps20
 go_wp2_with (go_at_call 45;rw[<-HW0.out];refine(XJ0 a cap C l1 (l1+l2) gF cF gT cT 0 x (y+2*(C.length:Int)) (w.heap.size+4) (w.heap.size+1+1+1) _ [] _ s1 (by simp) (by omega) (by omega) HC0.out HA1.out (by omega) HO0.out).mono ?_;rintro e9 w1 ⟨rfl,⟨v1,ho1⟩,hb1⟩;refine Hid.out ?_)
 refine Lib.hid ?_
 have HO1:Hid (OutAt w1 (w.heap.size+4) (w.heap.size+1+1+1) v1 (l1+l2) ([]++C.map (Qb9 0 x (y+2*(C.length:Int))))):=ho1
 have HB1:=hidB hb1
 have hs1:=hb1.size
 have g1:=(hb1.block _ (by omega)).trans HT1.out
 have HR1:=hidB ((hb1.block _ (by omega)).trans HT2.out)
 have HW1:=hidB (HB0.out.trans (hb1.mono (by omega)))
 have HD1:Hid (Crs w1 (w.heap.size+1+1+1) (.slice a' D.length cap') D):=(HD.out.on HW1.out).mono (by omega)
 have e0:=QQ0 (i:=0) g1 rfl
 have e1:=QQ0 (i:=1) g1 rfl
 have e2:=QQ0 (i:=2) g1 rfl
 have e3:=QQ0 (i:=3) g1 rfl
 have hl1:w.heap.size+1<w1.heap.size:=by omega
 have hlA:([]++C.map (Qb9 0 x (y+2*(C.length:Int)))).length<=16:=by simp;omega
 clear ho1 hb1 g1
 go_wp2_with (go_at_call 45;refine(XJ0 a' cap' D l2 (l1+l2) gF' cF' gT' cT' (2*(C.length:Int)) y x (w.heap.size+4) (w.heap.size+1+1+1) _ _ _ s2 hlA (by omega) (by omega) HD1.out HA2.out (by omega) HO1.out).mono ?_;rintro e9 w2 ⟨rfl,⟨v2,ho2⟩,hb2⟩;refine Hid.out ?_)
 refine Lib.hid ?_
 have HO2:Hid (OutAt w2 (w.heap.size+4) (w.heap.size+1+1+1) v2 (l1+l2) (QX4 C D x y)):=ho2
 have HB2:=hidB (HW1.out.trans (hb2.mono (by omega)))
 have HR2:=hidB ((hb2.block _ (by omega)).trans HR1.out)
 have hs2:=hb2.size
 clear ho2 hb2 e0 e1 e2 e3
 have hsl:(QX4 C D x y).length<=40:=by simp[QX4];omega
 obtain⟨E,hE⟩:∃ E,QX4 C D x y=E:=⟨_,rfl⟩
 rw[hE]at HO2 hsl
 have HE:=hidB hE
 clear hE
 obtain⟨a3,c3',ev3⟩:=QK8 HO2.out.row
 subst ev3
 have t0:=QQ0 (i:=0) HO2.out.box rfl
 have t1:=QQ0 (i:=1) HO2.out.box rfl
 have r0:=QQ0 (i:=0) HR2.out rfl
 have r1:=QQ0 (i:=1) HR2.out rfl
 have f0:=QQ1 (i:=0) HR2.out
 have f1:=QQ1 (i:=1) HR2.out
 have hl2:w.heap.size+1+1<w2.heap.size:=by omega
 have hl3:w.heap.size+1+1+1<w2.heap.size:=by omega
 go_wp2
 have hX:=QX1 (i:=1) (u:=.int .i64 (l1+l2)) (QX1 (i:=0) (u:=.slice a3 E.length c3') HR2.out)
 have x0:=QQ0 (i:=0) (v:=.slice a3 E.length c3') hX rfl
 have x1:=QQ0 (i:=1) (v:=.int .i64 (l1+l2)) hX rfl
 have hk:=HO2.out.kept (QK7 w2 (w.heap.size+1+1) 0 (.slice a3 E.length c3') (.int .i64 (l1+l2))) (by omega) (by omega)
 exact bodyPost_ret (v:=.agg #[.slice a3 E.length c3',.int .i64 (l1+l2)]) (by simp[results,Tryz.results20,go_sem,x0,x1]) rfl ⟨_,rfl,(by rw[HE.out];exact QZ7 hk.row (by omega)),HB2.out.grown (QK7 w2 (w.heap.size+1+1) 0 (.slice a3 E.length c3') (.int .i64 (l1+l2))) (by omega) (fun q hq=>by have:=Option.some.inj hq;omega)⟩
end Go.Proofs.YtookanmeflbdlaaGreatDoor

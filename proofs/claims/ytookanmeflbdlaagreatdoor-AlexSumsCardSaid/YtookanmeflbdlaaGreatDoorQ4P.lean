/- Several texts of the proof, one behind the other. -/
import Derived.Test.YtookanmeflbdlaaGreatDoorTkhP
import Derived.Test.YtookanmeflbdlaaGreatDoorSG0P
import Derived.Deep.Cut
import Derived.Test.YtookanmeflbdlaaGreatDoorF12P
import Derived.Test.YtookanmeflbdlaaGreatDoorF2P
import Derived.Test.YtookanmeflbdlaaGreatDoorPMathP
/- Tables under way; the walk of colour.equations. -/
namespace Go.Proofs.YtookanmeflbdlaaGreatDoor
open Go.RowKit
set_option maxHeartbeats 16000000
set_option maxRecDepth 100000
structure TabP (B n m:Nat) (gs:Nat->Nat) (T:Nat->Nat->Int) (v:Value) (W:World):Prop where
 outer:W.ownsRow B 67 1 v n (hdr n m gs)
 rows:∀ i,i<n->W.ownsRow B 3 1 (.slice (some ⟨gs i,0,none⟩) m m) m (QX2 (QF8 m (T i)))
 inj:∀ i j,i<n->j<n->gs i=gs j->i=j
theorem TabP.any {B n m:Nat} {gs:Nat->Nat} {T:Nat->Nat->Int} {v:Value} {W W':World} (h:TabP B n m gs T v W) (hg:W.grownBy W' none):TabP B n m gs T v W':=
 ⟨own_any h.outer hg,fun i hi=>own_any (h.rows i hi) hg,h.inj⟩
theorem TabP.nil (B m:Nat) (gs:Nat->Nat) (T:Nat->Nat->Int) (W:World):TabP B 0 m gs T (.slice none 0 0) W:=
 ⟨World.ownsRow_nil _ _ _ _,fun _ hi=>absurd hi (Nat.not_lt_zero _),fun _ _ hi=>absurd hi (Nat.not_lt_zero _)⟩
theorem TabP.other {B n m g:Nat} {gs:Nat->Nat} {T:Nat->Nat->Int} {v:Value} {W W':World} (h:TabP B n m gs T v W) (hg:W.grownBy W' (some g)) (hv:v.ownBlock≠some g) (hr:∀ i,i<n->gs i≠g):TabP B n m gs T v W':=
 ⟨h.outer.kept hg (Or.inr hv),fun i hi=>(h.rows i hi).kept hg (Or.inr (fun e=>hr i hi (Option.some.inj e))),h.inj⟩
theorem KD3 (n m g:Nat) (gs:Nat->Nat):hdr n m gs++[.slice (some ⟨g,0,none⟩) m m]=hdr (n+1) m (fun i=>if i=n then g else gs i):=by
 unfold hdr
 rw[List.range_succ,List.map_append]
 congr 1
 · refine List.map_congr_left fun i hi=>?_
   have h:i≠n:=by have:=List.mem_range.1 hi;omega
   simp[h]
 · simp
theorem TabP.more {B n m g : Nat} {gs : Nat → Nat} {T : Nat → Nat → Int} {v v' : Value} {W W' : World} (h : TabP B n m gs T v W) (hr : W.ownsRow B 3 1 (.slice (some ⟨g, 0, none⟩) m m) m (QX2 (QF8 m (T n)))) (hne : ∀ i, i < n → gs i ≠ g)
    (hg:W.grownBy W' v.ownBlock) (ho:W'.ownsRow B 67 1 v' (n+1) (hdr n m gs++[.slice (some ⟨g,0,none⟩) m m])):TabP B (n+1) m (fun i=>if i=n then g else gs i) T v' W':=by
 refine⟨by rw[<-KD3];exact ho,fun i hi=>?_,fun i j hi hj e=>?_⟩
 · by_cases e:i=n
   · subst e
     simp only[if_true]
     exact hr.kept hg (own_ne hr h.outer (by decide))
   · simp only[if_neg e]
     have:=h.rows i (by omega)
     exact this.kept hg (own_ne this h.outer (by decide))
 · have e:(if i=n then g else gs i)=(if j=n then g else gs j):=e
   by_cases e1:i=n
   · by_cases e2:j=n
     · omega
     · rw[if_pos e1,if_neg e2]at e;exact absurd e.symm (hne j (by omega))
   · by_cases e2:j=n
     · rw[if_neg e1,if_pos e2]at e;exact absurd e (hne i (by omega))
     · rw[if_neg e1,if_neg e2]at e;exact h.inj i j (by omega) (by omega) e
theorem TabP.whole {B n m:Nat} {gs:Nat->Nat} {T:Nat->Nat->Int} {v:Value} {W:World} (h:TabP B n m gs T v W) (hn:0<n):∃ gt cap,v=.slice (some ⟨gt,0,none⟩) n cap/\n<=cap/\TabO B gt cap n m gs T W:=by
 rcases h.outer.2 with⟨_,h0⟩|⟨g,cap,cur,hv,_,_,hc,_⟩
 · omega
 · subst hv
   exact⟨g,cap,rfl,hc,h.outer,h.rows,h.inj⟩
theorem TabP.empty {B m:Nat} {gs:Nat->Nat} {T:Nat->Nat->Int} {v:Value} {W:World} (h:TabP B 0 m gs T v W):∃ a c,v=.slice a 0 c:=by
 obtain⟨a,c,e⟩:=QK8 h.outer
 exact⟨a,c,e⟩
def eqF (oa ob oc j:Nat):Int:=(if j=ob then 2 else 0)-(if j=oa then 1 else 0)-(if j=oc then 1 else 0)
def eqZ (_:Nat):Int:=0
def eq1 (ob j:Nat):Int:=if j=ob then 2 else 0
def eq2 (oa ob j:Nat):Int:=(if j=ob then 2 else 0)-(if j=oa then 1 else 0)
def eqR (C:List Cr) (i:Nat):Nat->Int:=eqF (ovM C (C.getD i Cr.none).a.toNat) (ovM C (C.getD i Cr.none).b.toNat) (ovM C (C.getD i Cr.none).c.toNat)
theorem Kx8 (oa ob oc j:Nat) : -2<=eqF oa ob oc j/\eqF oa ob oc j<=2:=by unfold eqF;split<;>split<;>split<;>omega
def XV9 (C:List Cr):(Nat->Int)->Prop:=fun r=>∃ i,i<C.length/\r=eqR C i
theorem Kq0 {C:List Cr} {loops:Int} (hm:QQ6 C loops=true) (a:Nat) (h1:1<=a) (h2:a<2*C.length+1):ovM C a<ovC C:=by
 have hL:=QW5 (Qz7 hm)
 have hp:=hL.pos (fun e he=>⟨(QC4 hm e he).1.1,(QC4 hm e he).2.1⟩) h2 h1
 have h3:QQ7 (QJ6 C) ((QJ6 C).getD a 0+1)=ovM C a+1:=by
  show QQ7 (QJ6 C) _+_=_
  rw[if_pos ⟨hp,hL.root h2⟩];rfl
 have h4:=QB9 (QJ6 C) ((QJ6 C).getD a 0+1) (2*C.length+1) (by have:=hL.le h2;omega)
 unfold ovC
 omega
theorem Zq7 (C:List Cr):ovC C<=2*C.length+1:=Qw0 _ _
structure EqSt (w:World) (q gr k m:Nat) (gs:Nat->Nat) (T:Nat->Nat->Int) (v:Value) (box:Array Value) (f:Nat->Int) (X:World):Prop where
 row:X.ownsRow w.heap.size 3 1 (.slice (some ⟨gr,0,none⟩) m m) m (QX2 (QF8 m f))
 box:X.heap[q]?=some (.cells box 63 (0,0))
 tab:TabP w.heap.size k m gs T v X
 bel:Below w.heap.size w X
theorem EqSt.set {w X : World} {q gr k m : Nat} {gs : Nat → Nat} {T : Nat → Nat → Int} {v : Value} {box : Array Value} {f : Nat → Int} (h : EqSt w q gr k m gs T v box f X) (x : Nat) (z : Int) (f' : Nat → Int)
    (hf:∀ j,j<m->f' j=if j=x then z else f j) (hq:q≠gr) (hv:v.ownBlock≠some gr) (hr:∀ i,i<k->gs i≠gr):EqSt w q gr k m gs T v box f' (X.setCell ⟨gr,x,none⟩ (.int .i64 z)):=by
 have hst:=h.row.stored x (.int .i64 z)
 rw[QJ1,Qv0 m f f' x z hf]at hst
 have hl:=h.row.lt gr rfl
 refine⟨hst.1,?_,h.tab.other hst.2 hv hr,h.bel.grown hst.2 h.bel.size (fun k hk=>by have:=Option.some.inj hk;omega)⟩
 have hqs:q<X.heap.size:=(Array.getElem?_eq_some_iff.1 h.box).1
 exact(hst.2.block q hqs (fun e=>hq (Option.some.inj e))).trans h.box
theorem EqSt.any {w X X':World} {q gr k m:Nat} {gs:Nat->Nat} {T:Nat->Nat->Int} {v:Value} {box:Array Value} {f:Nat->Int} (h:EqSt w q gr k m gs T v box f X) (hg:X.grownBy X' none):EqSt w q gr k m gs T v box f X':=
 ⟨own_any h.row hg,(hg.block q (Array.getElem?_eq_some_iff.1 h.box).1 (by simp)).trans h.box,h.tab.any hg,h.bel.grown hg h.bel.size (fun k hk=>by cases hk)⟩
theorem EqSt.cell {w X:World} {q gr k m:Nat} {gs:Nat->Nat} {T:Nat->Nat->Int} {v:Value} {box:Array Value} {f:Nat->Int} (h:EqSt w q gr k m gs T v box f X) (x:Nat) (hx:x<m):X.cell? ⟨gr,x,none⟩=some (.int .i64 (f x)):=by
 rw[h.row.cellAt x (by omega),QZ1 _ x (by rw[QV1];exact hx),QC8 _ _ _ hx]
theorem XC2 (a : Option Addr) (cap : Nat) (C : List Cr) (loops : Int) (gF cF gT cT g p : Nat) (w : World) (hm : QQ6 C loops = true) (hD : Dr w a cap C gF gT) (hp : p < 98) (hp2 : 2 ≤ p)
    (hO:w.ownsRow 0 3 1 (.slice (some ⟨g,0,none⟩) (2*C.length+1) (2*C.length+1)) (2*C.length+1) (QJ7 (Qf1 C (2*C.length+1)))):
    Calls Tryz.prog 31 #[drV a cap C loops gF cF gT cT,.slice (some ⟨g,0,none⟩) (2*C.length+1) (2*C.length+1),.int .i64 (ovC C:Nat),.int .i64 (p:Nat)] w fun e w'=>∃ v gs,e=.returned v/\TabP w.heap.size C.length (ovC C) gs (fun i j=>(eqR C i j+p).tmod p) v w'/\Below w.heap.size w w':=by
 obtain⟨s1,-,-,-⟩:=QX5 (QZ6 hm)
 obtain⟨i2,hk,hx0,hx1,hx2⟩:=info_parts Qy0
 obtain⟨i1,hj,hy0,hy1,hy2⟩:=info_parts XG9
 have HM:=hidB hm
 have HD:=hidB hD
 have HO:=hidB hO
 have hgw:=(hO.lt g rfl).2
 have hmc:=Zq7 C
 obtain⟨m,hmm⟩:∃ m,ovC C=m:=⟨_,rfl⟩
 have HMM:=hidB hmm
 have HOL:Hid (∀ b,1<=b->b<2*C.length+1->ovM C b<m):=fun b h1 h2=>by rw[<-hmm];exact Kq0 HM.out b h1 h2
 obtain⟨N,hN⟩:∃ N,N=2*C.length+1:=⟨_,rfl⟩
 have HN:=hidB hN
 have hN1:1<=N:=by omega
 have hN2:N<=33:=by omega
 unfold drV
 rw[<-hN]at HO hmc HOL ⊢
 rw[hmm]at hmc ⊢
 clear hm hD hO hmm hN
 have HOC:Hid (∀ b,1<=b->b<N->w.cell? ⟨g,b,none⟩=some (.int .i64 (ovM C b:Nat))):=fun b h1 h2=>by
  rw[HO.out.cellAt b (by omega),QV0 _ b (by rw[QD6];have:=HN.out;omega),XF1 _ _ _ (by have:=HN.out;omega),if_pos ⟨h2,h1⟩]
 go_enter Tryz.func31,Tryz.ntmps31
 have HB0:Hid (Below w.heap.size w (w.alloc (.cells #[.slice a C.length cap,.int .i64 loops,.slice (some ⟨gF,0,none⟩) N cF,.slice (some ⟨gT,0,none⟩) N cT] 49))):=(Below.refl _ _).alloc (Nat.le_refl _) _
 go_wp2
 go_loopw [9,18] (fun v10 v18 wr=>∃ (k:Nat) (gs:Nat->Nat),k<=C.length/\v18=.int .i64 (k:Nat)/\Hid (TabP w.heap.size k m gs (fun i j=>(eqR C i j+p).tmod p) v10 wr/\Below w.heap.size w wr)) (fun _ v18 _=>C.length-(intOf v18).toNat)
 case atStart=>exact⟨0,fun _=>0,Nat.zero_le _,rfl,TabP.nil _ _ _ _ _,HB0.out⟩
 case round=>
  clear HB0
  rename World=>W1
  obtain⟨k,gs,hkn,rfl,hp1⟩:=hrel
  obtain⟨av,cv,rfl⟩:=QK8 hp1.out.1.outer
  by_cases hil:k<C.length
  · obtain⟨b,off,ea,hbw,hC⟩:=HD.out.cross (by omega)
    have HEA:=hidB ea
    obtain⟨e0,e1,e2,e3,e4⟩:=(hC.on hp1.out.2 hbw) k hil
    have fa:=QK9 HM.out k 0 hil (by omega)
    have fb:=QK9 HM.out k 1 hil (by omega)
    have fc:=QK9 HM.out k 2 hil (by omega)
    have HX:Hid ((C.getD k Cr.none).arc 0=(C.getD k Cr.none).a/\(C.getD k Cr.none).arc 1=(C.getD k Cr.none).b/\(C.getD k Cr.none).arc 2=(C.getD k Cr.none).c):=⟨rfl,rfl,rfl⟩
    have fa1:=fa.1
    have fa2:=fa.2.1
    have fb1:=fb.1
    have fb2:=fb.2.1
    have fc1:=fc.1
    have fc2:=fc.2.1
    rw[HX.out.1]at fa1 fa2
    rw[HX.out.2.1]at fb1 fb2
    rw[HX.out.2.2]at fc1 fc2
    obtain⟨xa,hxa⟩:∃ x:Nat,(C.getD k Cr.none).a=(x:Int):=⟨(C.getD k Cr.none).a.toNat,by omega⟩
    obtain⟨xb,hxb⟩:∃ x:Nat,(C.getD k Cr.none).b=(x:Int):=⟨(C.getD k Cr.none).b.toNat,by omega⟩
    obtain⟨xc,hxc⟩:∃ x:Nat,(C.getD k Cr.none).c=(x:Int):=⟨(C.getD k Cr.none).c.toNat,by omega⟩
    obtain⟨cd,hcd⟩:∃ z,(C.getD k Cr.none).d=z:=⟨_,rfl⟩
    obtain⟨cp,hcp⟩:∃ z,(C.getD k Cr.none).plus=z:=⟨_,rfl⟩
    rw[hxa]at e0 fa1 fa2
    rw[hxb]at e1 fb1 fb2
    rw[hxc]at e2 fc1 fc2
    rw[hcd]at e3
    rw[hcp]at e4
    have hxaN:1<=xa/\xa<N:=by have:=HN.out;omega
    have hxbN:1<=xb/\xb<N:=by have:=HN.out;omega
    have hxcN:1<=xc/\xc<N:=by have:=HN.out;omega
    have HEQ:=hidB (show eqR C k=eqF (ovM C xa) (ovM C xb) (ovM C xc) by unfold eqR;rw[hxa,hxb,hxc];rfl)
    have hoa:=HOL.out xa hxaN.1 hxaN.2
    have hob:=HOL.out xb hxbN.1 hxbN.2
    have hoc:=HOL.out xc hxcN.1 hxcN.2
    have HOX:Hid (∀ W,Below w.heap.size w W->W.cell? ⟨g,xa,none⟩=some (.int .i64 (ovM C xa:Nat))/\W.cell? ⟨g,xb,none⟩=some (.int .i64 (ovM C xb:Nat))/\W.cell? ⟨g,xc,none⟩=some (.int .i64 (ovM C xc:Nat))):=fun W hW=>⟨bcell hW hgw (HOC.out xa hxaN.1 hxaN.2),bcell hW hgw (HOC.out xb hxbN.1 hxbN.2),bcell hW hgw (HOC.out xc hxcN.1 hxcN.2)⟩
    obtain⟨oa,hoa'⟩:∃ o,ovM C xa=o:=⟨_,rfl⟩
    obtain⟨ob,hob'⟩:∃ o,ovM C xb=o:=⟨_,rfl⟩
    obtain⟨oc,hoc'⟩:∃ o,ovM C xc=o:=⟨_,rfl⟩
    rw[hoa',hob',hoc']at HEQ HOX
    rw[hoa']at hoa
    rw[hob']at hob
    rw[hoc']at hoc
    have hs1:=hp1.out.2.size
    have HVB:Hid ((Value.slice av k cv).ownBlock≠some (W1.heap.size+1)):=fun e=>by have:=(hp1.out.1.outer.lt _ e).2;omega
    have HGB:Hid (∀ i,i<k->gs i≠W1.heap.size+1):=fun i hi e=>by have:=((hp1.out.1.rows i hi).lt (gs i) rfl).2;omega
    have hbW:b<W1.heap.size:=by omega
    have hii:(k:Int)<(C.length:Int):=by omega
    obtain⟨X0,hX0⟩:∃ X,X=W1.alloc (.cells #[.int .i64 (xa:Nat),.int .i64 (xb:Nat),.int .i64 (xc:Nat),.int .i64 cd,.bool cp] 63):=⟨_,rfl⟩
    have HX0:=hidB hX0
    have hs0:X0.heap.size=W1.heap.size+1:=by rw[hX0];simp
    have HXB:=hidB (show X0.heap[W1.heap.size]?=some (.cells #[.int .i64 (xa:Nat),.int .i64 (xb:Nat),.int .i64 (xc:Nat),.int .i64 cd,.bool cp] 63 (0,0))/\W1.grownBy X0 none by rw[hX0];exact⟨alloc_at rfl,World.grownBy_alloc _ _ none⟩)
    clear hC fa fb fc fa1 fa2 fb1 fb2 fc1 fc2 hxa hxb hxc hcd hcp hoa' hob' hoc' hX0
    go_upto_region 6 with(first|(at_make;rw[<-HX0.out];refine wpList_make_full _ rfl _ _ 67 rfl w.heap.size 3 i2 (.int .i64 0) 1 Tryz.underlying67 hk hx0 hx1 .i64 .i64 _ _ m rfl rfl rfl rfl (by rw[hx2];omega) (by unfold maxLen;omega) (by omega) ?_;intro X1 hrow hg1;refine Hid.out ?_))
    refine Lib.hid ?_
    rw[<-ea]
    clear ea e0 e1 e2 e3 e4
    rw[Qw6,hs0,<-Xk5 m eqZ (fun _ _=>rfl)]at hrow
    have HS0:Hid (EqSt w W1.heap.size (W1.heap.size+1) k m gs (fun i j=>(eqR C i j+p).tmod p) (.slice av k cv) #[.int .i64 (xa:Nat),.int .i64 (xb:Nat),.int .i64 (xc:Nat),.int .i64 cd,.bool cp] eqZ X1):=⟨hrow,(hg1.block _ (by omega) (by simp)).trans HXB.out.1,(hp1.out.1.any HXB.out.2).any hg1,(hp1.out.2.grown HXB.out.2 hs1 (fun k hk=>by cases hk)).grown hg1 (by omega) (fun k hk=>by cases hk)⟩
    clear hrow hg1 HXB HX0 hs0 hp1
    go_upto_region 6 with(fail)
    have c0:=QQ0 (i:=1) HS0.out.box rfl
    have d0:X1.cell? ⟨g,xb,none⟩=some (.int .i64 (ob:Nat)):=(HOX.out _ HS0.out.bel).2.1
    have r0:X1.cell? ⟨W1.heap.size+1,ob,none⟩=some (.int .i64 (eqZ ob)):=HS0.out.cell ob hob
    have z0:X1.frozen? ⟨W1.heap.size+1,ob,none⟩=false:=HS0.out.row.frozenAt ob
    obtain⟨y0,hy0⟩:∃ y:Int,eqZ ob=y:=⟨_,rfl⟩
    have hyb0 : -9<=y0/\y0<=9:=by rw[<-hy0];simp only[eqZ];(repeat' split)<;>omega
    rw[hy0]at r0
    have w0:IntKind.i64.wrap (y0+2)=y0+2:=IntWalk.i64_in _ (by omega)
    have HS1 : Hid (EqSt w W1.heap.size (W1.heap.size + 1) k m gs (fun i j => (eqR C i j + p).tmod p) (.slice av k cv) #[.int .i64 (xa : Nat), .int .i64 (xb : Nat), .int .i64 (xc : Nat), .int .i64 cd, .bool cp] (eq1 ob) (X1.setCell ⟨W1.heap.size + 1, ob, none⟩ (.int .i64 (y0 + 2)))) := HS0.out.set ob (y0 + 2) (eq1 ob) (fun j hj => by
     rw[<-hy0]
     by_cases e:j=ob
     · subst e;simp[eqZ,eq1]
     · simp[eqZ,eq1,e]) (by omega) HVB.out HGB.out
    obtain⟨X2,hX2⟩:∃ X,X=X1.setCell ⟨W1.heap.size+1,ob,none⟩ (.int .i64 (y0+2)):=⟨_,rfl⟩
    rw[<-hX2]at HS1
    have hl0:W1.heap.size+1<X1.heap.size:=(HS0.out.row.lt (W1.heap.size+1) rfl).2
    have hb0:=HS0.out.bel.size
    have HQ0:=hidB hX2
    clear hX2 hy0
    go_upto_region 7 with(fail)
    rw[<-HQ0.out]
    clear c0 d0 r0 z0 w0 HS0 HQ0 hyb0 hl0 hb0
    have c1:=QQ0 (i:=0) HS1.out.box rfl
    have d1:X2.cell? ⟨g,xa,none⟩=some (.int .i64 (oa:Nat)):=(HOX.out _ HS1.out.bel).1
    have r1:X2.cell? ⟨W1.heap.size+1,oa,none⟩=some (.int .i64 ((eq1 ob) oa)):=HS1.out.cell oa hoa
    have z1:X2.frozen? ⟨W1.heap.size+1,oa,none⟩=false:=HS1.out.row.frozenAt oa
    obtain⟨y1,hy1⟩:∃ y:Int,(eq1 ob) oa=y:=⟨_,rfl⟩
    have hyb1 : -9<=y1/\y1<=9:=by rw[<-hy1];simp only[eq1];(repeat' split)<;>omega
    rw[hy1]at r1
    have w1:IntKind.i64.wrap (y1-1)=y1-1:=IntWalk.i64_in _ (by omega)
    have HS2 : Hid (EqSt w W1.heap.size (W1.heap.size + 1) k m gs (fun i j => (eqR C i j + p).tmod p) (.slice av k cv) #[.int .i64 (xa : Nat), .int .i64 (xb : Nat), .int .i64 (xc : Nat), .int .i64 cd, .bool cp] (eq2 oa ob) (X2.setCell ⟨W1.heap.size + 1, oa, none⟩ (.int .i64 (y1 - 1)))) := HS1.out.set oa (y1 - 1) (eq2 oa ob) (fun j hj => by
     rw[<-hy1]
     by_cases e:j=oa
     · subst e;simp[eq1,eq2]
     · simp[eq1,eq2,e]) (by omega) HVB.out HGB.out
    obtain⟨X3,hX3⟩:∃ X,X=X2.setCell ⟨W1.heap.size+1,oa,none⟩ (.int .i64 (y1 - 1)):=⟨_,rfl⟩
    rw[<-hX3]at HS2
    have hl1:W1.heap.size+1<X2.heap.size:=(HS1.out.row.lt (W1.heap.size+1) rfl).2
    have hb1:=HS1.out.bel.size
    have HQ1:=hidB hX3
    clear hX3 hy1
    go_upto_region 8 with(fail)
    rw[<-HQ1.out]
    clear c1 d1 r1 z1 w1 HS1 HQ1 hyb1 hl1 hb1
    have c2:=QQ0 (i:=2) HS2.out.box rfl
    have d2:X3.cell? ⟨g,xc,none⟩=some (.int .i64 (oc:Nat)):=(HOX.out _ HS2.out.bel).2.2
    have r2:X3.cell? ⟨W1.heap.size+1,oc,none⟩=some (.int .i64 ((eq2 oa ob) oc)):=HS2.out.cell oc hoc
    have z2:X3.frozen? ⟨W1.heap.size+1,oc,none⟩=false:=HS2.out.row.frozenAt oc
    obtain⟨y2,hy2⟩:∃ y:Int,(eq2 oa ob) oc=y:=⟨_,rfl⟩
    have hyb2 : -9<=y2/\y2<=9:=by rw[<-hy2];simp only[eq2];(repeat' split)<;>omega
    rw[hy2]at r2
    have w2:IntKind.i64.wrap (y2-1)=y2-1:=IntWalk.i64_in _ (by omega)
    have HS3 : Hid (EqSt w W1.heap.size (W1.heap.size + 1) k m gs (fun i j => (eqR C i j + p).tmod p) (.slice av k cv) #[.int .i64 (xa : Nat), .int .i64 (xb : Nat), .int .i64 (xc : Nat), .int .i64 cd, .bool cp] (eqF oa ob oc) (X3.setCell ⟨W1.heap.size + 1, oc, none⟩ (.int .i64 (y2 - 1)))) := HS2.out.set oc (y2 - 1) (eqF oa ob oc) (fun j hj => by
     rw[<-hy2]
     by_cases e:j=oc
     · subst e;simp[eq2,eqF]
     · simp[eq2,eqF,e]) (by omega) HVB.out HGB.out
    obtain⟨X4,hX4⟩:∃ X,X=X3.setCell ⟨W1.heap.size+1,oc,none⟩ (.int .i64 (y2 - 1)):=⟨_,rfl⟩
    rw[<-hX4]at HS3
    have hl2:W1.heap.size+1<X3.heap.size:=(HS2.out.row.lt (W1.heap.size+1) rfl).2
    have hb2:=HS2.out.bel.size
    have HQ2:=hidB hX4
    clear hX4 hy2
    go_upto_region 9 with(fail)
    rw[<-HQ2.out]
    clear c2 d2 r2 z2 w2 HS2 HQ2 hyb2 hl2 hb2
    have HS4:=hidB (show EqSt w W1.heap.size (W1.heap.size+1) k m gs (fun i j=>(eqR C i j+p).tmod p) (.slice av k cv) #[.int .i64 (xa:Nat),.int .i64 (xb:Nat),.int .i64 (xc:Nat),.int .i64 cd,.bool cp] (fun y=>if y<0 then(eqF oa ob oc y+p).tmod p else eqF oa ob oc y) X4 by have e:(fun y=>if y<0 then(eqF oa ob oc y+p).tmod p else eqF oa ob oc y)=eqF oa ob oc:=(by funext j;simp);rw[e];exact HS3.out)
    have hpz:(p:Int)≠0:=by omega
    have hpz2:((p:Int)==0)=false:=by simp;omega
    have hpz3:p≠0:=by omega
    have hdk:decide ((k:Int)<(C.length:Int))=true:=by simp;omega
    have hdk2:decide (k<C.length)=true:=by simp;omega
    clear HS3
    go_wp2
    go_loopw [56] (fun v56 wr=>∃ j:Nat,j<=m/\v56=.int .i64 (j:Nat)/\Hid (EqSt w W1.heap.size (W1.heap.size+1) k m gs (fun i j=>(eqR C i j+p).tmod p) (.slice av k cv) #[.int .i64 (xa:Nat),.int .i64 (xb:Nat),.int .i64 (xc:Nat),.int .i64 cd,.bool cp] (fun y=>if y<j then(eqF oa ob oc y+p).tmod p else eqF oa ob oc y) wr)) (fun v56 _=>m-(intOf v56).toNat)
    case atStart=>exact⟨0,Nat.zero_le _,rfl,HS4.out⟩
    case round=>
     clear HS4
     rename World=>W2
     obtain⟨j,hjm,rfl,hs⟩:=hrel
     have hl2:=hs.out.row.lt (W1.heap.size+1) rfl
     by_cases hjl:j<m
     · have r1:=hs.out.cell j hjl
       rw[if_neg (Nat.lt_irrefl j)]at r1
       have hyb:=Kx8 oa ob oc j
       obtain⟨y,hy⟩:∃ y:Int,eqF oa ob oc j=y:=⟨_,rfl⟩
       rw[hy]at r1 hyb
       have ew1:IntKind.i64.wrap (y+(p:Int))=y+p:=IntWalk.i64_in _ (by omega)
       obtain⟨z,hz⟩:∃ z,(y+(p:Int)).tmod p=z:=⟨_,rfl⟩
       have hzb:0<=z/\z<(p:Int):=by rw[<-hz];exact Qh9 (by omega) (by omega)
       have ew2:IntKind.i64.wrap z=z:=IntWalk.i64_in _ (by omega)
       have z0:W2.frozen? ⟨W1.heap.size+1,j,none⟩=false:=hs.out.row.frozenAt j
       have HN2 : Hid (EqSt w W1.heap.size (W1.heap.size + 1) k m gs (fun i j => (eqR C i j + p).tmod p) (.slice av k cv) #[.int .i64 (xa : Nat), .int .i64 (xb : Nat), .int .i64 (xc : Nat), .int .i64 cd, .bool cp] (fun y => if y < (j + 1) then (eqF oa ob oc y + p).tmod p else eqF oa ob oc y) (W2.setCell ⟨W1.heap.size + 1, j, none⟩ (.int .i64 z))) := hs.out.set j z (fun y => if y < (j + 1) then (eqF oa ob oc y + p).tmod p else eqF oa ob oc y) (fun b hb => by
        by_cases e:b=j
        · subst e;rw[if_pos (by omega),if_pos rfl,hy,hz]
        · rw[if_neg e]
          by_cases h2:b<j
          · rw[if_pos h2,if_pos (by omega)]
          · rw[if_neg h2,if_neg (by omega)]) (by omega) HVB.out HGB.out
       clear hy
       go_wp2
       go_roundw
       case rel=>exact⟨j+1,by omega,by go_num,HN2.out⟩
       case measure=>simp only[intOf];omega
     · obtain rfl:m=j:=by omega
       have HTT:Hid (QF8 m (fun y=>if y<m then(eqF oa ob oc y+p).tmod p else eqF oa ob oc y)=QF8 m ((fun i j=>(eqR C i j+p).tmod p) k)):=(QG8 m _ _ (fun b hb=>by rw[if_pos hb];show _=(eqR C k b+p).tmod p;rw[HEQ.out]):QF8 m (fun y=>if y<m then(eqF oa ob oc y+p).tmod p else eqF oa ob oc y)=QF8 m ((fun i j=>(eqR C i j+p).tmod p) k))
       have HROW:=hidB (show W2.ownsRow w.heap.size 3 1 (.slice (some ⟨W1.heap.size+1,0,none⟩) m m) m (QX2 (QF8 m ((fun i j=>(eqR C i j+p).tmod p) k))) by rw[<-HTT.out];exact hs.out.row)
       have HTAB:=hidB hs.out.tab
       have HBEL:=hidB hs.out.bel
       have HON:=hidB (ZV2 hs.out.row)
       have hs2:=hs.out.bel.size
       have hdm:decide ((m:Int)<(m:Int))=false:=by simp
       have hdm2:decide (m<m)=false:=by simp
       clear hs
       go_wp2_with (first
        |(at_builtin;refine wpList_append_own _ rfl _ _ 71 rfl w.heap.size 67 i1 (.slice none 0 0) 1 24 Tryz.underlying71 hj hy0 hy1 hy2 rfl (by decide) _ _ _ rfl (HTAB.out.outer.alloc _) ⟨W2.heap.size,0,none⟩ 1 1 [Value.slice (some ⟨W1.heap.size+1,0,none⟩) m m] rfl rfl (Qw5 _ _ _) HON.out (by unfold maxLen;omega) (by omega) (by simp;omega) ?_;intro v8 w8 hown8 hg8 _;refine Hid.out ?_))
       refine Lib.hid ?_
       have hA:=HTAB.out.outer.alloc (.cells #[Value.slice (some ⟨W1.heap.size+1,0,none⟩) m m] 67)
       have HFIN:Hid (TabP w.heap.size (k+1) m (fun i=>if i=k then W1.heap.size+1 else gs i) (fun i j=>(eqR C i j+p).tmod p) v8 w8/\Below w.heap.size w w8):=⟨(HTAB.out.any (World.grownBy_alloc _ _ none)).more (HROW.out.alloc _) HGB.out hg8 hown8,(HBEL.out.alloc hs2 _).grown hg8 (by simp;omega) (fun q hq=>(hA.lt q hq).1)⟩
       clear hg8 hown8 hA
       obtain⟨a9,c9,rfl⟩:=QK8 HFIN.out.1.outer
       go_wp2
       go_roundw
       case rel=>exact⟨k+1,_,by omega,by go_num,HFIN.out⟩
       case measure=>simp only[intOf];omega
  · obtain rfl:k=C.length:=by omega
    go_wp2
    go_ret
    exact⟨_,gs,rfl,hp1.out.1,hp1.out.2⟩
end Go.Proofs.YtookanmeflbdlaaGreatDoor
/- The walk of colour.Fox. -/
namespace Go.Proofs.YtookanmeflbdlaaGreatDoor
open Go.RowKit
set_option maxHeartbeats 8000000
set_option maxRecDepth 100000
theorem KU3 {p m:Nat} {R0:(Nat->Int)->Prop} (h:∀ r,¬ R0 r) (c:Nat) (hc:c<=m):rkTo p m R0 c=0:=by
 induction c with
 |zero=>rfl
 |succ c ih=>
  rw[XQ0,ih (by omega)]
  rintro⟨v,hv,hn⟩
  exact hn (Xq4 (by omega) (fun r hr=>absurd hr (h r)) hv.1)
noncomputable def foxM (C:List Cr) (loops:Int) (p:Nat):Int:=(ovC C:Int)-(rkTo p (ovC C) (XV9 C) (ovC C):Int)+loops
theorem KF2 (C:List Cr) (p:Nat):Inv p (ovC C) (XV9 C) 0 (QC1 C.length 0 (fun i j=>(eqR C i j+p).tmod p)):=by
 refine Inv.start ?_ ?_
 · rintro r ⟨i,_,hi,rfl⟩
   refine⟨eqR C i,⟨i,hi,rfl⟩,fun j _=>?_⟩
   have h:=Qq0 (eqR C i j+p) p
   have h2:=Int.dvd_sub h (Int.dvd_refl (p:Int))
   have e:eqR C i j+p-(eqR C i j+p).tmod p-p=eqR C i j-(eqR C i j+p).tmod p:=by omega
   rw[e]at h2
   exact h2
 · rintro r ⟨i,hi,rfl⟩
   refine⟨_,⟨i,Nat.zero_le _,hi,rfl⟩,fun j _=>?_⟩
   have h:=Int.dvd_neg.2 (Qq0 (eqR C i j+p) p)
   have h2:=Int.dvd_add h (Int.dvd_refl (p:Int))
   have e : -(eqR C i j+p-(eqR C i j+p).tmod p)+p=(eqR C i j+p).tmod p-eqR C i j:=by omega
   rw[e]at h2
   exact h2
theorem KF3 (C:List Cr) {p:Nat} (hp2:2<=p) (i j:Nat):0<=(eqR C i j+p).tmod p/\(eqR C i j+p).tmod p<p:=by
 have h : -2<=eqR C i j:=(Kx8 _ _ _ j).1
 exact Qh9 (by omega) (by omega)
theorem KU5 (a:Option Addr) (c p:Nat) (w:World):Calls Tryz.prog 30 #[.slice a 0 c,.int .i64 (p:Nat)] w fun e w'=>e=.returned (.int .i64 0)/\Below w.heap.size w w':=by
 have HB:Hid (Below w.heap.size w w):=Below.refl _ _
 go_enter Tryz.func30,Tryz.ntmps30
 go_wp2
 go_ret
 exact⟨rfl,HB.out⟩
theorem ZD6 (C : List Cr) (p : Nat) (gs : Nat → Nat) (B : Nat) (v : Value) (w : World) (hp : p < 98) (hpr : QU1 p = true) (hn : C.length ≤ 16) (hB : B ≤ w.heap.size) (h : TabP B C.length (ovC C) gs (fun i j => (eqR C i j + p).tmod p) v w) :
    Calls Tryz.prog 30 #[v,.int .i64 (p:Nat)] w fun e w'=>e=.returned (.int .i64 (rkTo p (ovC C) (XV9 C) (ovC C):Nat))/\Below B w w':=by
 have hp2:2<=p:=by have:=(Bool.and_eq_true_iff.1 hpr).1;simpa using this
 by_cases h0:0<C.length
 · obtain⟨gt,cap,rfl,hc,hT⟩:=h.whole h0
   exact KU6 B gt cap C.length (ovC C) gs _ p (XV9 C) w hp hpr hn h0 (by have:=Zq7 C;omega) hc (fun i j _ _=>KF3 C hp2 i j) (KF2 C p) hB hT
 · have e:C.length=0:=by omega
   rw[e]at h
   obtain⟨a,c,rfl⟩:=h.empty
   rw[KU3 (fun r hr=>by obtain⟨i,hi,_⟩:=hr;omega) _ (Nat.le_refl _)]
   exact(KU5 a c p w).mono fun e w' h=>⟨h.1,h.2.mono hB⟩
theorem Kd0 (hFR : QQ8) (v : Value) (C : List Cr) (loops : Int) (p : Nat) (w : World) (hp : p ≤ 97) (hpr : QU1 p = true) (hn : noN C loops = 0) (h : Crs w w.heap.size v C) :
    Calls Tryz.prog 13 #[.agg #[v,.int .i64 loops],.int .i64 (p:Nat)] w fun e w'=>e=.returned (.tuple #[.int .i64 (foxM C loops p),.int .i64 0])/\Below w.heap.size w w':=by
 have HC:=hidB h
 obtain⟨hm,hpl⟩:=QU7 hn
 have HM:=hidB hm
 have HPL:=hidB hpl
 have HFA:Hid QQ8:=hFR
 have HPR:=hidB (show QU1 (p:Int).toNat=true by rw[Int.toNat_natCast];exact hpr)
 have HPN:=hidB hpr
 have hp2:2<=p:=by have:=(Bool.and_eq_true_iff.1 hpr).1;simpa using this
 obtain⟨s1,s2,s3,s4⟩:=QX5 (QZ6 hm)
 obtain⟨a,cap,rfl,-,-⟩:=h
 obtain⟨w0,hw0⟩:∃ w0,w0=w.alloc (.cells #[.slice a C.length cap,.int .i64 loops] 24):=⟨_,rfl⟩
 have HW0:=hidB hw0
 have HB1:=hidB (show Below w.heap.size w w0 by rw[hw0];exact(Below.refl _ _).alloc (Nat.le_refl _) _)
 have hs0:w0.heap.size=w.heap.size+1:=by rw[hw0];simp
 have HT0:=hidB (show w0.heap[w.heap.size]?=some (.cells #[.slice a C.length cap,.int .i64 loops] 24 (0,0)) by rw[hw0];exact alloc_at rfl)
 have hp97:(p:Int)<=97:=by omega
 have hmc:=Zq7 C
 have hrk:=Ku7 p (ovC C) (XV9 C) (ovC C)
 obtain⟨rk,hrk'⟩:∃ rk,rkTo p (ovC C) (XV9 C) (ovC C)=rk:=⟨_,rfl⟩
 have HFX:=hidB (show foxM C loops p=(ovC C:Int)-(rk:Int)+loops by unfold foxM;rw[hrk'])
 rw[HFX.out]
 have HRA:Hid (∀ (B:Nat) (gs:Nat->Nat) (v:Value) (w:World),B<=w.heap.size->TabP B C.length (ovC C) gs (fun i j=>(eqR C i j+p).tmod p) v w->Calls Tryz.prog 30 #[v,.int .i64 (p:Nat)] w fun e w'=>e=.returned (.int .i64 (rk:Nat))/\Below B w w'):=fun B gs v w hB hT=>by
  rw[<-hrk']
  exact ZD6 C p gs B v w (by omega) HPN.out s1 hB hT
 rw[hrk']at hrk
 have HOV:Hid (∀ (W:World) (a':Option Addr) (cap' gF cF gT cT:Nat),Dr W a' cap' C gF gT->Calls Tryz.prog 29 #[drV a' cap' C loops gF cF gT cT] W fun e w'=>∃ g,e=.returned (.tuple #[.slice (some ⟨g,0,none⟩) (2*C.length+1) (2*C.length+1),.int .i64 (ovC C:Nat)])/\w'.ownsRow W.heap.size 3 1 (.slice (some ⟨g,0,none⟩) (2*C.length+1) (2*C.length+1)) (2*C.length+1) (QJ7 (Qf1 C (2*C.length+1)))/\Below W.heap.size W w'):=fun W a' cap' gF cF gT cT hW=>Qk0 a' cap' C loops gF cF gT cT W HM.out hW
 have HEQ:Hid (∀ (W:World) (a':Option Addr) (cap' gF cF gT cT g:Nat),Dr W a' cap' C gF gT->W.ownsRow 0 3 1 (.slice (some ⟨g,0,none⟩) (2*C.length+1) (2*C.length+1)) (2*C.length+1) (QJ7 (Qf1 C (2*C.length+1)))->Calls Tryz.prog 31 #[drV a' cap' C loops gF cF gT cT,.slice (some ⟨g,0,none⟩) (2*C.length+1) (2*C.length+1),.int .i64 (ovC C:Nat),.int .i64 (p:Nat)] W fun e w'=>∃ v gs,e=.returned v/\TabP W.heap.size C.length (ovC C) gs (fun i j=>(eqR C i j+p).tmod p) v w'/\Below W.heap.size W w'):=fun W a' cap' gF cF gT cT g hD hO=>XC2 a' cap' C loops gF cF gT cT g p W HM.out hD (by omega) hp2 hO
 unfold drV at HOV HEQ
 obtain⟨m,hmm⟩:∃ m,ovC C=m:=⟨_,rfl⟩
 rw[hmm]at HFX HRA HOV HEQ hmc hrk ⊢
 have ew1:IntKind.i64.wrap ((m:Int)-(rk:Int))=(m:Int)-(rk:Int):=IntWalk.i64_in _ (by omega)
 have ew2:IntKind.i64.wrap ((m:Int)-(rk:Int)+loops)=(m:Int)-(rk:Int)+loops:=IntWalk.i64_in _ (by omega)
 clear hw0 hpr hm hpl hn hFR hmm hrk'
 go_enter Tryz.func13,Tryz.ntmps13
 go_wp2_with (go_at_call 28;rw[<-HW0.out];refine(Zd5 (p:Int) _ hp97 (by omega)).mono ?_;rw[HPR.out];rintro e9 w2 ⟨rfl,hb2⟩;refine Hid.out ?_)
 refine Lib.hid ?_
 have HB2:=hidB hb2
 have t0:=QQ0 (i:=0) ((hb2.block _ (by omega)).trans HT0.out) rfl
 have t1:=QQ0 (i:=1) ((hb2.block _ (by omega)).trans HT0.out) rfl
 have HC2:=hidB ((HC.out.up HB1.out).up hb2)
 have hs2:=hb2.size
 clear hb2
 go_wp2_with (go_at_call 26;refine(XH0 HFA.out _ C loops _ HM.out HPL.out HC2.out).mono ?_;rintro e9 w3 ⟨a',cap',gF,cF,gT,cT,rfl,hdr,hb3⟩;refine Hid.out ?_)
 refine Lib.hid ?_
 have HDR:=hidB hdr
 unfold drV
 have HB3:=hidB (HB1.out.trans ((HB2.out.trans (hb3.mono HB2.out.size)).mono HB1.out.size))
 have hs3:=HB3.out.size
 have HBA:Hid (Below w3.heap.size w3 (w3.alloc (.cells #[.slice a' C.length cap',.int .i64 loops,.slice (some ⟨gF,0,none⟩) (2*C.length+1) cF,.slice (some ⟨gT,0,none⟩) (2*C.length+1) cT] 49))):=(Below.refl _ _).alloc (Nat.le_refl _) _
 clear hb3 hdr t0 t1
 go_wp2_with (go_at_call 29;refine(HOV.out _ a' cap' gF cF gT cT (HDR.out.on HBA.out)).mono ?_;rintro e9 w4 ⟨g,rfl,hr4,hb4⟩;refine Hid.out ?_)
 refine Lib.hid ?_
 have HB34:=hidB (HBA.out.trans (hb4.mono (by simp)))
 have HR4:=hidB (QZ7 hr4 (Nat.zero_le _))
 have hQ:w4.heap[w3.heap.size]?=some (.cells #[.slice a' C.length cap',.int .i64 loops,.slice (some ⟨gF,0,none⟩) (2*C.length+1) cF,.slice (some ⟨gT,0,none⟩) (2*C.length+1) cT] 49 (0,0)):=(hb4.block _ (by simp)).trans (alloc_at rfl)
 have hs4:w3.heap.size<w4.heap.size:=by have:=hb4.size;simp at this;omega
 have HQ:Hid (∀ W,Below w4.heap.size w4 W->W.cell? ⟨w3.heap.size,0,none⟩=some (.slice a' C.length cap')/\W.cell? ⟨w3.heap.size,1,none⟩=some (.int .i64 loops)/\W.cell? ⟨w3.heap.size,2,none⟩=some (.slice (some ⟨gF,0,none⟩) (2*C.length+1) cF)/\W.cell? ⟨w3.heap.size,3,none⟩=some (.slice (some ⟨gT,0,none⟩) (2*C.length+1) cT)):=fun W hW=>by
  have q:=(hW.block _ hs4).trans hQ
  exact⟨QQ0 q rfl,QQ0 q rfl,QQ0 q rfl,QQ0 q rfl⟩
 have HD4:=hidB (HDR.out.on HB34.out)
 obtain⟨q0,q1,q2,q3⟩:=HQ.out w4 (Below.refl _ _)
 clear hb4 hr4 hQ
 have HD0:Hid (Below w4.heap.size w4 w4.drew):=(Below.refl _ _).drew
 have HRD:=hidB (own_any HR4.out (grown_below ((Below.refl _ _).drew) none))
 go_wp2
 go_region_held3 (fun w' => w'.cell? ⟨w3.heap.size, 0, none⟩ = some (.slice a' C.length cap') ∧ w'.cell? ⟨w3.heap.size, 1, none⟩ = some (.int .i64 loops) ∧ w'.cell? ⟨w3.heap.size, 2, none⟩ = some (.slice (some ⟨gF, 0, none⟩) (2 * C.length + 1) cF) ∧ w'.cell? ⟨w3.heap.size, 3, none⟩ = some (.slice (some ⟨gT, 0, none⟩) (2 * C.length + 1) cT)) (first | exact HQ.out _ H6.out | exact HQ.out _ H5.out | exact HQ.out _ HD0.out | exact HQ.out _ (Below.refl _ _)) (first
  | (go_at_call 30; have hAA := H5; clear hAA; refine (HRA.out w4.drew.heap.size gs v5 w5 hsz5 HT5.out).mono ?_; rintro e9 w6 ⟨rfl, hb6⟩
     have H6:=hidB (H5.out.trans hb6)
     clear hb6)
  | (go_at_call 31; refine (HEQ.out w4.drew a' cap' gF cF gT cT g (HD4.out.on HD0.out) HRD.out).mono ?_; rintro e9 w5 ⟨v5, gs, rfl, ht5, hb5⟩
     have H5:=hidB (HD0.out.trans (hb5.mono HD0.out.size))
     have HT5:=hidB ht5
     have hsz5:w4.drew.heap.size<=w5.heap.size:=hb5.size
     clear hb5 ht5))
 all_goals
  go_wp2
  go_ret2
  exact⟨rfl,HB3.out.trans ((HB34.out.trans (H6.out.mono HB34.out.size)).mono HB3.out.size)⟩
end Go.Proofs.YtookanmeflbdlaaGreatDoor
/- What few says at 12; the walk of bracket.drawn. -/
namespace Go.Proofs.YtookanmeflbdlaaGreatDoor
open Go.RowKit
set_option maxHeartbeats 4000000
set_option maxRecDepth 100000
theorem JD0 {P:Prop} (h:P):Hid P:=h
theorem KX3 (hFR : QQ8) (a : Option Addr) (cap : Nat) (C : List Cr) (loops : Int) (w : World) (hn : noN C loops = 0) (h12 : C.length ≤ 12) (h : Crs w w.heap.size (.slice a C.length cap) C) :
    Calls Tryz.prog 37 #[.agg #[.slice a C.length cap,.int .i64 loops]] w fun e w'=>(∃ gF cF gT cT,e=.returned (.tuple #[drV a cap C loops gF cF gT cT,.int .i64 0]))/\Below w.heap.size w w':=by
 have HC:=hidB h
 obtain⟨hm,hp⟩:=QU7 hn
 have HF:=JD0 (fun W hW=>XZ8 hFR a cap C loops W hm hp hW)
 have hz1:decide ((12:Int)<(C.length:Int))=false:=by simp;omega
 clear hm hp
 have HB1:Hid (Below w.heap.size w ((w.alloc (.cells #[.slice a C.length cap,.int .i64 loops] 24)).alloc (.cells #[.slice none 0 0,.int .i64 0,.slice none 0 0,.slice none 0 0] 49))):=QW3 _ _ _
 go_enter Tryz.func37,Tryz.ntmps37
 go_wp2_with (go_at_call 26;refine(HF.out _ (HC.out.up HB1.out)).mono ?_;rintro e9 w2 ⟨gF,cF,gT,cT,rfl,-,hb2⟩;refine Hid.out ?_)
 refine Lib.hid ?_
 unfold drV
 have HB2:Hid (Below w.heap.size w w2):=HB1.out.trans (hb2.mono (by simp;omega))
 have hR:w2.heap[w.heap.size+1]?=some (.cells #[.slice none 0 0,.int .i64 0,.slice none 0 0,.slice none 0 0] 49 (0,0)):=(hb2.block _ (by simp)).trans (alloc_at (by simp))
 have hs2:w.heap.size+2<=w2.heap.size:=by have:=hb2.size;simpa using this
 have hA:(w2.alloc (.cells #[.slice a C.length cap,.int .i64 loops,.slice (some ⟨gF,0,none⟩) (2*C.length+1) cF,.slice (some ⟨gT,0,none⟩) (2*C.length+1) cT] 49)).heap[w.heap.size+1]?=some (.cells #[.slice none 0 0,.int .i64 0,.slice none 0 0,.slice none 0 0] 49 (0,0)):=alloc_old hR
 have HA:=hidB hA
 have HBA:Hid (Below w.heap.size w (w2.alloc (.cells #[.slice a C.length cap,.int .i64 loops,.slice (some ⟨gF,0,none⟩) (2*C.length+1) cF,.slice (some ⟨gT,0,none⟩) (2*C.length+1) cT] 49))):=HB2.out.alloc HB2.out.size _
 have c0:(w2.alloc (.cells #[.slice a C.length cap,.int .i64 loops,.slice (some ⟨gF,0,none⟩) (2*C.length+1) cF,.slice (some ⟨gT,0,none⟩) (2*C.length+1) cT] 49)).cell? ⟨w.heap.size+1,0,none⟩=some (.slice none 0 0):=QQ0 hA rfl
 have c1:(w2.alloc (.cells #[.slice a C.length cap,.int .i64 loops,.slice (some ⟨gF,0,none⟩) (2*C.length+1) cF,.slice (some ⟨gT,0,none⟩) (2*C.length+1) cT] 49)).cell? ⟨w.heap.size+1,1,none⟩=some (.int .i64 0):=QQ0 hA rfl
 have c2:(w2.alloc (.cells #[.slice a C.length cap,.int .i64 loops,.slice (some ⟨gF,0,none⟩) (2*C.length+1) cF,.slice (some ⟨gT,0,none⟩) (2*C.length+1) cT] 49)).cell? ⟨w.heap.size+1,2,none⟩=some (.slice none 0 0):=QQ0 hA rfl
 have c3:(w2.alloc (.cells #[.slice a C.length cap,.int .i64 loops,.slice (some ⟨gF,0,none⟩) (2*C.length+1) cF,.slice (some ⟨gT,0,none⟩) (2*C.length+1) cT] 49)).cell? ⟨w.heap.size+1,3,none⟩=some (.slice none 0 0):=QQ0 hA rfl
 have f0:(w2.alloc (.cells #[.slice a C.length cap,.int .i64 loops,.slice (some ⟨gF,0,none⟩) (2*C.length+1) cF,.slice (some ⟨gT,0,none⟩) (2*C.length+1) cT] 49)).frozen? ⟨w.heap.size+1,0,none⟩=false:=QQ1 hA
 have f1:(w2.alloc (.cells #[.slice a C.length cap,.int .i64 loops,.slice (some ⟨gF,0,none⟩) (2*C.length+1) cF,.slice (some ⟨gT,0,none⟩) (2*C.length+1) cT] 49)).frozen? ⟨w.heap.size+1,1,none⟩=false:=QQ1 hA
 have f2:(w2.alloc (.cells #[.slice a C.length cap,.int .i64 loops,.slice (some ⟨gF,0,none⟩) (2*C.length+1) cF,.slice (some ⟨gT,0,none⟩) (2*C.length+1) cT] 49)).frozen? ⟨w.heap.size+1,2,none⟩=false:=QQ1 hA
 have f3:(w2.alloc (.cells #[.slice a C.length cap,.int .i64 loops,.slice (some ⟨gF,0,none⟩) (2*C.length+1) cF,.slice (some ⟨gT,0,none⟩) (2*C.length+1) cT] 49)).frozen? ⟨w.heap.size+1,3,none⟩=false:=QQ1 hA
 have hN:(w2.alloc (.cells #[.slice a C.length cap,.int .i64 loops,.slice (some ⟨gF,0,none⟩) (2*C.length+1) cF,.slice (some ⟨gT,0,none⟩) (2*C.length+1) cT] 49)).heap[w2.heap.size]?=some (.cells #[.slice a C.length cap,.int .i64 loops,.slice (some ⟨gF,0,none⟩) (2*C.length+1) cF,.slice (some ⟨gT,0,none⟩) (2*C.length+1) cT] 49 (0,0)):=alloc_at rfl
 clear hb2 hR hA
 go_wp2
 have hG:=QQ5 (w2.alloc (.cells #[.slice a C.length cap,.int .i64 loops,.slice (some ⟨gF,0,none⟩) (2*C.length+1) cF,.slice (some ⟨gT,0,none⟩) (2*C.length+1) cT] 49)) (w.heap.size+1) (.slice a C.length cap) (.int .i64 loops) (.slice (some ⟨gF,0,none⟩) (2*C.length+1) cF) (.slice (some ⟨gT,0,none⟩) (2*C.length+1) cT)
 have hX:=QX7 (a:=.slice a C.length cap) (b:=.int .i64 loops) (c:=.slice (some ⟨gF,0,none⟩) (2*C.length+1) cF) (d:=.slice (some ⟨gT,0,none⟩) (2*C.length+1) cT) HA.out
 have x0:=QQ0 (i:=0) (v:=.slice a C.length cap) hX rfl
 have x1:=QQ0 (i:=1) (v:=.int .i64 loops) hX rfl
 have x2:=QQ0 (i:=2) (v:=.slice (some ⟨gF,0,none⟩) (2*C.length+1) cF) hX rfl
 have x3:=QQ0 (i:=3) (v:=.slice (some ⟨gT,0,none⟩) (2*C.length+1) cT) hX rfl
 have hbb:=HBA.out.grown hG HBA.out.size (fun k hk=>by have:=Option.some.inj hk;omega)
 unfold st4 at x0 x1 x2 x3
 exact bodyPost_ret (v:=.tuple #[.agg #[.slice a C.length cap,.int .i64 loops,.slice (some ⟨gF,0,none⟩) (2*C.length+1) cF,.slice (some ⟨gT,0,none⟩) (2*C.length+1) cT],.int .i64 0]) (by simp[results,Tryz.results37,go_sem,x0,x1,x2,x3]) rfl ⟨⟨gF,cF,gT,cT,rfl⟩,hbb⟩
end Go.Proofs.YtookanmeflbdlaaGreatDoor
/- Plain mathematics: what comes to crossings and what goes out, summed up; signs of crossings by shades: with these signs all equations of colourings together are nought. -/
namespace Go.Proofs.YtookanmeflbdlaaGreatDoor
theorem Xx8 (F:Nat->Int) {x:Int} (h1:1<=x):∀ M:Nat,QZ0 M (fun i=>F (i+1)*(if x=((i+1:Nat):Int) then 1 else 0))=if x<=M then F x.toNat else 0
 |0=>by rw[if_neg (by omega)];rfl
 |M+1=>by
  show QZ0 M _+F (M+1)*(if x=((M+1:Nat):Int) then 1 else 0)=_
  rw[Xx8 F h1 M]
  by_cases e:x=((M+1:Nat):Int)
  · rw[if_neg (by omega),if_pos e,if_pos (by omega),show x.toNat=M+1 by omega];omega
  · rw[if_neg e,Int.mul_zero,Int.add_zero]
    by_cases g:x<=(M:Int)
    · rw[if_pos g,if_pos (by omega)]
    · rw[if_neg g,if_neg (by omega)]
def ioC (F:Nat->Int) (c:Cr) (p:Bool):Int:=(if c.comes 0=p then F (c.arc 0).toNat else 0)+(if c.comes 1=p then F (c.arc 1).toNat else 0)+(if c.comes 2=p then F (c.arc 2).toNat else 0)+(if c.comes 3=p then F (c.arc 3).toNat else 0)
theorem Qd0 (F:Nat->Int) (c:Cr) (p:Bool) (M s:Nat) (h:1<=c.arc s/\c.arc s<=M):QZ0 M (fun i=>F (i+1)*(((if c.arc s=((i+1:Nat):Int)/\c.comes s=p then 1 else 0:Nat)):Int))=if c.comes s=p then F (c.arc s).toNat else 0:=by
 by_cases hc:c.comes s=p
 · rw[if_pos hc]
   have:=Xx8 F h.1 M
   rw[if_pos h.2]at this
   rw[<-this]
   refine QQ4 fun i _=>?_
   by_cases e:c.arc s=((i+1:Nat):Int)
   · rw[if_pos ⟨e,hc⟩,if_pos e];rfl
   · rw[if_neg (fun q=>e q.1),if_neg e];rfl
 · rw[if_neg hc,QQ4 (g:=fun _=>0) fun i _=>by rw[if_neg (fun q=>hc q.2)];simp,QV4]
theorem JB8 (F:Nat->Int) (c:Cr) (M:Nat) (h:∀ s,s<4->1<=c.arc s/\c.arc s<=M):QZ0 M (fun i=>F (i+1)*((Qz6 c ((i+1:Nat):Int) 4:Nat):Int))=ioC F c true:=by
 unfold ioC
 rw[<-Qd0 F c true M 0 (h 0 (by omega)),<-Qd0 F c true M 1 (h 1 (by omega)),<-Qd0 F c true M 2 (h 2 (by omega)),<-Qd0 F c true M 3 (h 3 (by omega)),<-QZ5,<-QZ5,<-QZ5]
 refine QQ4 fun i _=>?_
 have e:Qz6 c ((i+1:Nat):Int) 4=0+(if c.arc 0=((i+1:Nat):Int)/\c.comes 0=true then 1 else 0)+(if c.arc 1=((i+1:Nat):Int)/\c.comes 1=true then 1 else 0)+(if c.arc 2=((i+1:Nat):Int)/\c.comes 2=true then 1 else 0)+(if c.arc 3=((i+1:Nat):Int)/\c.comes 3=true then 1 else 0):=rfl
 rw[e,Nat.zero_add,Int.natCast_add,Int.natCast_add,Int.natCast_add,Int.mul_add,Int.mul_add,Int.mul_add]
theorem JJ6 (F:Nat->Int) (c:Cr) (M:Nat) (h:∀ s,s<4->1<=c.arc s/\c.arc s<=M):QZ0 M (fun i=>F (i+1)*((QF4 c ((i+1:Nat):Int) 4:Nat):Int))=ioC F c false:=by
 unfold ioC
 rw[<-Qd0 F c false M 0 (h 0 (by omega)),<-Qd0 F c false M 1 (h 1 (by omega)),<-Qd0 F c false M 2 (h 2 (by omega)),<-Qd0 F c false M 3 (h 3 (by omega)),<-QZ5,<-QZ5,<-QZ5]
 refine QQ4 fun i _=>?_
 have e:QF4 c ((i+1:Nat):Int) 4=0+(if c.arc 0=((i+1:Nat):Int)/\c.comes 0=false then 1 else 0)+(if c.arc 1=((i+1:Nat):Int)/\c.comes 1=false then 1 else 0)+(if c.arc 2=((i+1:Nat):Int)/\c.comes 2=false then 1 else 0)+(if c.arc 3=((i+1:Nat):Int)/\c.comes 3=false then 1 else 0):=rfl
 rw[e,Nat.zero_add,Int.natCast_add,Int.natCast_add,Int.natCast_add,Int.mul_add,Int.mul_add,Int.mul_add]
section
variable {C:List Cr} {loops:Int} (hm:QQ6 C loops=true)
include hm
theorem ZU5 {k s:Nat} (hk:k<C.length) (hs:s<4):1<=(C.getD k Cr.none).arc s/\(C.getD k Cr.none).arc s<=((2*C.length:Nat):Int):=by
 have h:=QK9 hm k s hk hs
 have h1:=h.1
 have h2:=h.2.1
 omega
theorem Zx2 (F:Nat->Int):∀ k,k<=C.length->QZ0 (2*C.length) (fun i=>F (i+1)*((KA4 C ((i+1:Nat):Int) k:Nat):Int))=QZ0 k (fun j=>ioC F (C.getD j Cr.none) true)/\QZ0 (2*C.length) (fun i=>F (i+1)*((Xq1 C ((i+1:Nat):Int) k:Nat):Int))=QZ0 k (fun j=>ioC F (C.getD j Cr.none) false)
 |0,_=>by
  constructor
  · rw[QQ4 (g:=fun _=>0) fun i _=>by show F (i+1)*((0:Nat):Int)=0;simp,QV4];rfl
  · rw[QQ4 (g:=fun _=>0) fun i _=>by show F (i+1)*((0:Nat):Int)=0;simp,QV4];rfl
 |k+1,hk=>by
  obtain⟨h1,h2⟩:=Zx2 F k (by omega)
  constructor
  · show _=QZ0 k _+ioC F (C.getD k Cr.none) true
    rw[<-h1,<-JB8 F _ (2*C.length) (fun s hs=>ZU5 hm (by omega) hs),<-QZ5]
    refine QQ4 fun i _=>?_
    show F (i+1)*((KA4 C _ k+Qz6 (C.getD k Cr.none) _ 4:Nat):Int)=_
    rw[Int.natCast_add,Int.mul_add]
  · show _=QZ0 k _+ioC F (C.getD k Cr.none) false
    rw[<-h2,<-JJ6 F _ (2*C.length) (fun s hs=>ZU5 hm (by omega) hs),<-QZ5]
    refine QQ4 fun i _=>?_
    show F (i+1)*((Xq1 C _ k+QF4 (C.getD k Cr.none) _ 4:Nat):Int)=_
    rw[Int.natCast_add,Int.mul_add]
theorem Zj8 (F:Nat->Int):QZ0 C.length (fun j=>ioC F (C.getD j Cr.none) true)=QZ0 C.length (fun j=>ioC F (C.getD j Cr.none) false):=by
 obtain⟨h1,h2⟩:=Zx2 hm F C.length (Nat.le_refl _)
 rw[<-h1,<-h2]
 refine QQ4 fun i hi=>?_
 have h:=hm
 unfold QQ6 at h
 rw[Bool.and_eq_true,List.all_eq_true]at h
 have h3:=h.2 i (List.mem_range.2 hi)
 unfold Qh4 at h3
 rw[Bool.and_eq_true,decide_eq_true_eq,decide_eq_true_eq]at h3
 rw[h3.1,h3.2]
theorem JB4 {k:Nat} (hk:k<C.length):ovM C (C.getD k Cr.none).b.toNat=ovM C (C.getD k Cr.none).d.toNat:=by
 have hL:=QW5 (Qz7 hm)
 have hmem:((C.getD k Cr.none).b.toNat,(C.getD k Cr.none).d.toNat)∈ovE C:=by
  unfold ovE
  refine List.mem_map.2 ⟨C.getD k Cr.none,?_,rfl⟩
  rw[List.getD_eq_getElem?_getD,List.getElem?_eq_getElem hk]
  exact List.getElem_mem hk
 have hb:=Qz7 hm _ hmem
 unfold ovM
 rw[(hL.same hb.1 hb.2).2 (Con.edge hmem)]
end
end Go.Proofs.YtookanmeflbdlaaGreatDoor

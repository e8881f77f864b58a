/- Several texts of the proof, one behind the other. -/
import Derived.Test.YtookanmeflbdlaaGreatDoorTkhP
import Derived.Deep.Cut
import Derived.Test.YtookanmeflbdlaaGreatDoorH7
import Derived.Test.YtookanmeflbdlaaGreatDoorW1P
import Derived.Test.YtookanmeflbdlaaGreatDoorTabP
import Derived.Test.YtookanmeflbdlaaGreatDoorAL0P
/- The walks of Drawing.Onward and ref.NextDart. -/
namespace Go.Proofs.YtookanmeflbdlaaGreatDoor
open Go.RowKit
set_option maxHeartbeats 4000000
set_option maxRecDepth 100000
theorem ZF6 (a : Option Addr) (cap : Nat) (C : List Cr) (loops : Int) (gF cF gT cT : Nat) (j : Nat) (w : World) (hm : QQ6 C loops = true) (h1 : 1 ≤ j) (h2 : j ≤ 4 * C.length) (hD : Dr w a cap C gF gT) :
    Calls Tryz.prog 79 #[drV a cap C loops gF cF gT cT,.agg #[.int .i64 (dA j:Nat),.bool (dB j)]] w fun e w'=>e=.returned (.agg #[.int .i64 (dA (fd C j):Nat),.bool (dB (fd C j))])/\Below w.heap.size w w':=by
 have HM:=hidB hm
 have hA:=QC3 h1 h2
 obtain⟨-,hi,hs⟩:=XW0 hm j h1 h2
 obtain⟨f1,f2,-,-⟩:=Xq7 hm j h1 h2
 have HF1:=hidB f1
 have HF2:=hidB f2
 obtain⟨i,hci⟩:∃ i,dC C j=i:=⟨_,rfl⟩
 obtain⟨k,hck⟩:∃ k,dS C j=k:=⟨_,rfl⟩
 have HE:Hid (∀ W,Dr W a cap C gF gT->Calls Tryz.prog 75 #[drV a cap C loops gF cF gT cT,.agg #[.int .i64 (dA j:Nat),.bool (dB j)]] W fun e w'=>e=.returned (.agg #[.int .i64 (i:Nat),.int .i64 (k:Nat)])/\Below W.heap.size W w'):=fun W hW=>by
  rw[<-hci,<-hck]
  exact XF7 a cap C loops gF cF gT cT (dA j) (dB j) W hm hA.1 hA.2 hW
 rw[hci,hck]at HF1 HF2
 rw[hci]at hi
 rw[hck]at hs
 generalize dA (fd C j)=zA at HF1 ⊢
 generalize dB (fd C j)=zB at HF2 ⊢
 obtain⟨k2,hk2⟩:∃ k2:Nat,k2=(k+3)%4:=⟨_,rfl⟩
 rw[<-hk2]at HF1 HF2
 have e0:IntKind.i64.wrap ((k:Int)+4)=(k:Int)+4:=IntWalk.i64_in _ (by omega)
 have e1:IntKind.i64.wrap ((k:Int)+4-1)=(k:Int)+4-1:=IntWalk.i64_in _ (by omega)
 have e2:((k:Int)+4-1).tmod 4=(k2:Int):=by rw[Int.tmod_eq_emod_of_nonneg (by omega)];omega
 have hk24:k2<4:=by omega
 have HD:=hidB hD
 clear hk2 hci hck f1 f2 hm hD
 obtain⟨b,off,rfl,hbw,hC⟩:=HD.out.cross (by omega)
 have HC:=hidB hC
 unfold drV
 unfold drV at HE
 generalize dA j=jA at HE hA ⊢
 generalize dB j=jB at HE ⊢
 obtain⟨w0,hw0⟩:∃ w0,w0=((w.alloc (.cells #[.slice (some ⟨b,off,none⟩) C.length cap,.int .i64 loops,.slice (some ⟨gF,0,none⟩) (2*C.length+1) cF,.slice (some ⟨gT,0,none⟩) (2*C.length+1) cT] 49)).alloc (.cells #[.int .i64 jA,.bool jB] 104)).alloc (.cells #[.int .i64 0,.bool false] 104):=⟨_,rfl⟩
 have HW0:=hidB hw0
 have hs0:w0.heap.size=w.heap.size+3:=by rw[hw0];simp
 have HB0:=hidB (show Below w.heap.size w w0 by rw[hw0];exact QA8 _ _ _ _)
 have HT0:=hidB (show w0.heap[w.heap.size]?=some (.cells #[.slice (some ⟨b,off,none⟩) C.length cap,.int .i64 loops,.slice (some ⟨gF,0,none⟩) (2*C.length+1) cF,.slice (some ⟨gT,0,none⟩) (2*C.length+1) cT] 49 (0,0)) by rw[hw0];exact alloc_old (alloc_old (alloc_at rfl)))
 have HT2:=hidB (show w0.heap[w.heap.size+1+1]?=some (.cells #[.int .i64 0,.bool false] 104 (0,0)) by rw[hw0];exact alloc_at (by simp))
 have HD0:=hidB (HD.out.on HB0.out)
 clear hw0 hC
 go_enter Tryz.func79,Tryz.ntmps79
 go_wp2_with (go_at_call 75;rw[<-HW0.out];refine(HE.out _ HD0.out).mono ?_;rintro e9 w1 ⟨rfl,hb1⟩;refine Hid.out ?_)
 refine Lib.hid ?_
 have hs1:=hb1.size
 have g0:=(hb1.block _ (by omega)).trans HT0.out
 have HG2:=hidB ((hb1.block _ (by omega)).trans HT2.out)
 have HB1:=hidB (HB0.out.trans (hb1.mono (by omega)))
 have p0:=QQ0 (i:=0) g0 rfl
 have p1:=QQ0 (i:=1) g0 rfl
 have p2:=QQ0 (i:=2) g0 rfl
 have p3:=QQ0 (i:=3) g0 rfl
 have l0:w.heap.size<w1.heap.size:=by omega
 obtain⟨X,hX⟩:∃ X,X=w1.alloc (.cells #[.int .i64 i,.int .i64 k2] 129):=⟨_,rfl⟩
 have HX:=hidB hX
 have H1X:=hidB (show Below w1.heap.size w1 X by rw[hX];exact(Below.refl _ _).alloc (Nat.le_refl _) _)
 have hsX:X.heap.size=w1.heap.size+1:=by rw[hX];simp
 have HBX:=hidB (HB1.out.trans (H1X.out.mono HB1.out.size))
 have HCX:=hidB (HC.out.on HBX.out hbw)
 clear hb1 g0 hX
 go_wp2_with (go_at_call 92;rw[<-HX.out];refine(QA6 b off cap C loops _ _ i k2 _ hi hk24 (by omega) HCX.out).mono ?_;rw[HF1.out,HF2.out];rintro e9 w2 ⟨rfl,hb2⟩;refine Hid.out ?_)
 refine Lib.hid ?_
 have hs2:=hb2.size
 have g2:=(hb2.block _ (by omega)).trans ((H1X.out.block _ (by omega)).trans HG2.out)
 have r0:=QQ0 (i:=0) (v:=.int .i64 0) g2 rfl
 have r1:=QQ0 (i:=1) (v:=.bool false) g2 rfl
 have f0:=QQ1 (i:=0) g2
 have f1:=QQ1 (i:=1) g2
 have lr:w.heap.size+1+1<w2.heap.size:=by omega
 have HB2:=hidB (HBX.out.trans (hb2.mono (by omega)))
 have HGG:=hidB g2
 clear hb2 g2 p0 p1 p2 p3
 go_wp2
 have hX2:=QX1 (i:=1) (u:=.bool zB) (QX1 (i:=0) (u:=.int .i64 zA) HGG.out)
 have x0:=QQ0 (i:=0) (v:=.int .i64 zA) hX2 rfl
 have x1:=QQ0 (i:=1) (v:=.bool zB) hX2 rfl
 exact bodyPost_ret (v:=.agg #[.int .i64 zA,.bool zB]) (by simp[results,Tryz.results79,go_sem,x0,x1]) rfl ⟨rfl,HB2.out.grown (QK7 w2 (w.heap.size+1+1) 0 (.int .i64 zA) (.bool zB)) (by omega) (fun q hq=>by have:=Option.some.inj hq;omega)⟩
end Go.Proofs.YtookanmeflbdlaaGreatDoor
/- The walk of ref.FacesOf. -/
namespace Go.Proofs.YtookanmeflbdlaaGreatDoor
open Go.RowKit
def dd (l:List Nat):List (Nat×Bool):=l.map fun j=>(dA j,dB j)
theorem JV7 (l:List Nat) (j:Nat):dd (l++[j])=dd l++[(dA j,dB j)]:=by simp[dd]
theorem Kz5 (l:List Nat):(dd l).length=l.length:=by simp[dd]
def DartsOwn (w:World) (B:Nat) (v:Value) (L:List (List Nat)):Prop:=
 ∃ ys:List Value,ys.length=L.length/\w.ownsRow B 102 1 v ys.length ys/\∀ j,j<L.length->w.ownsRow B 104 2 (ys.getD j (.bool false)) (L.getD j []).length (QF2 (dd (L.getD j [])))
theorem KD2:(Tryz.prog.info? 104).map (fun i=>(i.zero,i.size,i.bytes))=some (some (.agg #[.int .i64 0,.bool false]),2,16):=by kernel_rfl
theorem Zh6:(Tryz.prog.info? 102).map (fun i=>(i.zero,i.size,i.bytes))=some (some (.slice none 0 0),1,24):=by kernel_rfl
theorem JW1 {x:Nat} (_h:1<=x):(if dB x=true then 2*dA x+1 else 2*dA x)=x+1:=by
 unfold dB dA
 split
 · rename_i hd;simp at hd;omega
 · rename_i hd;simp at hd;omega
theorem KH4 (seen:List Bool) (x:Nat) (h:x<seen.length):(bools (false::seen))[x+1]?=some (.bool (seen.getD x true)):=by
 simp[bools,List.getD_eq_getElem?_getD,h]
theorem KZ7 (seen:List Bool) (x:Nat):(bools (false::seen)).set (x+1) (.bool true)=bools (false::seen.set x true):=by
 simp[bools]
theorem ZG1 {W:World} {s:Nat} (hs:s=W.heap.size) (a b:Value) (e:TypeId):∀ j u,[a,b][j]?=some u->(W.alloc (.cells #[a,b] e)).cell? ((⟨s,0,none⟩:Addr).add j)=some u:=by
 intro j u hu
 subst hs
 have hg:(W.alloc (.cells #[a,b] e)).heap[W.heap.size]?=some (.cells #[a,b] e (0,0)):=alloc_at rfl
 have hadd:∀ j,(⟨W.heap.size,0,none⟩:Addr).add j=⟨W.heap.size,j,none⟩:=fun j=>by unfold Addr.add;split<;>simp_all
 rw[hadd,cell_of_row _ _ _ _ _ _ hg]
 simpa using hu
end Go.Proofs.YtookanmeflbdlaaGreatDoor
/- The walk of ref.PiecesOf. -/
namespace Go.Proofs.YtookanmeflbdlaaGreatDoor
open Go.RowKit
theorem XY9 (n:Nat):(madeCells (Value.int .i64 0).cells (n*1)).toList=QJ7 (List.replicate n 0):=by
 have e:(Value.int .i64 0).cells=#[Value.int .i64 0]:=rfl
 rw[e,toList_madeCells_one,Nat.mul_one]
 simp[QJ7]
theorem Qg2 (l:List Nat) (i z:Nat):(QJ7 l).set i (.int .i64 (z:Nat))=QJ7 (l.set i z):=by simp[QJ7,List.map_set]
def Qz3 (n i:Nat):List Nat:=(List.range n).map fun v=>if v<i then v else 0
theorem ZH0 (n:Nat):List.replicate n 0=Qz3 n 0:=by
 refine List.ext_getElem (by simp[Qz3]) fun j h1 h2=>?_
 simp[Qz3]
theorem ZH1 (n i:Nat):(Qz3 n i).set i i=Qz3 n (i+1):=by
 refine List.ext_getElem (by simp[Qz3]) fun j h1 h2=>?_
 simp only[List.getElem_set,Qz3,List.getElem_map,List.getElem_range]
 split
 · rename_i h;subst h;simp
 · rename_i h
   by_cases h3:j<i
   · rw[if_pos h3,if_pos (by omega)]
   · rw[if_neg h3,if_neg (by omega)]
theorem Zh1 (n:Nat):Qz3 n n=List.range n:=by
 refine List.ext_getElem (by simp[Qz3]) fun j h1 h2=>?_
 simp only[Qz3,List.getElem_map,List.getElem_range]
 rw[if_pos (by simpa[Qz3] using h1)]
end Go.Proofs.YtookanmeflbdlaaGreatDoor
/- Rings of darts in a world; the walk of ref.PlanarIs. -/
namespace Go.Proofs.YtookanmeflbdlaaGreatDoor
open Go.RowKit
def RingsAt (w:World) (B:Nat) (v:Value) (L:List (List Nat)):Prop:=∃ a cap,v=.slice a L.length cap/\(0<L.length->∃ b off,a=some ⟨b,off,none⟩/\b<w.heap.size/\B<=b/\∀ j,j<L.length->∃ g c,w.cell? ⟨b,off+j,none⟩=some (.slice (some ⟨g,0,none⟩) (L.getD j []).length c)/\g<w.heap.size/\B<=g/\∀ k,k<(L.getD j []).length->w.cell? ⟨g,k*2,none⟩=some (.int .i64 (dA ((L.getD j []).getD k 0):Nat))/\w.cell? ⟨g,k*2+1,none⟩=some (.bool (dB ((L.getD j []).getD k 0))))
theorem RingsAt.on {w w':World} {B:Nat} {v:Value} {L:List (List Nat)} (h:RingsAt w B v L) (hb:Below w.heap.size w w'):RingsAt w' B v L:=by
 obtain⟨a,cap,rfl,f⟩:=h
 refine⟨a,cap,rfl,fun h0=>?_⟩
 obtain⟨b,off,rfl,hlt,hB,hc⟩:=f h0
 refine⟨b,off,rfl,Nat.lt_of_lt_of_le hlt hb.size,hB,fun j hj=>?_⟩
 obtain⟨g,c,h1,h2,hG,h3⟩:=hc j hj
 exact⟨g,c,bcell hb hlt h1,Nat.lt_of_lt_of_le h2 hb.size,hG,fun k hk=>⟨bcell hb h2 (h3 k hk).1,bcell hb h2 (h3 k hk).2⟩⟩
theorem Kz6 (l:List Nat) (k:Nat) (hk:k<l.length):(dd l).getD k (0,false)=(dA (l.getD k 0),dB (l.getD k 0)):=by
 simp[dd,List.getD_eq_getElem?_getD,hk]
theorem DartsOwn.rings {w:World} {B:Nat} {v:Value} {L:List (List Nat)} (h:DartsOwn w B v L) (hn:∀ j,j<L.length->0<(L.getD j []).length):RingsAt w B v L:=by
 obtain⟨ys,h1,h2,h3⟩:=h
 obtain⟨a,cap,ev,f⟩:=Xv3 h2
 refine⟨a,cap,by rw[ev,h1],fun h0=>?_⟩
 obtain⟨b,off,ea,hlt,hc⟩:=f (by omega)
 refine⟨b,off,ea,hlt,(h2.lt b (by rw[ev,ea];rfl)).1,fun j hj=>?_⟩
 have hr:=h3 j hj
 have hpos:=hn j hj
 have hcell:=hc j (by omega)
 rcases hr.2 with⟨_,hz⟩|⟨g,c,cur,e1,hBg,hg,_,_,_,htk⟩
 · omega
 · rw[e1]at hcell
   refine⟨g,c,hcell,(Array.getElem?_eq_some_iff.1 hg).1,hBg,fun k hk=>?_⟩
   have hv:=Xx3 (dd (L.getD j [])) k (by rw[Kz5];exact hk)
   rw[Kz6 _ k hk]at hv
   have hcl:=fun(o:Nat) (u:Value) (hu:(QF2 (dd (L.getD j [])))[o]?=some u)=>hr.cells (g:=g) (by rw[e1];rfl) o u hu
   have hadd:∀ o,(⟨g,0,none⟩:Addr).add o=⟨g,o,none⟩:=fun o=>by unfold Addr.add;split<;>simp_all
   have a1:=hcl _ _ hv.1
   have a2:=hcl _ _ hv.2
   rw[hadd]at a1 a2
   exact⟨a1,a2⟩
theorem QY4 {C:List Cr} {loops:Int} (hm:QQ6 C loops=true):(QQ3 C).length<=4*C.length/\∀ j,j<(QQ3 C).length->0<((QQ3 C).getD j []).length/\((QQ3 C).getD j []).length<=4*C.length+1/\∀ k,k<((QQ3 C).getD j []).length->1<=((QQ3 C).getD j []).getD k 0/\((QQ3 C).getD j []).getD k 0<=4*C.length:=by
 refine⟨XA6 _ _ _,fun j hj=>?_⟩
 have hmem:(QQ3 C).getD j []∈QQ3 C:=by rw[List.getD_eq_getElem?_getD,List.getElem?_eq_getElem hj];exact List.getElem_mem hj
 obtain⟨h1,h2,h3⟩:=Qk6 (QZ9 hm) (4*C.length) (Nat.le_refl _) _ hmem
 refine⟨List.length_pos_iff.2 h1,h2,fun k hk=>h3 _ ?_⟩
 generalize (QQ3 C).getD j []=l at hk ⊢
 rw[List.getD_eq_getElem?_getD,List.getElem?_eq_getElem hk]
 exact List.getElem_mem hk
theorem ZH6 {C:List Cr} (h:0<C.length):0<(QQ3 C).length:=by
 have h1:=QU5 (fd C) (4*C.length) 1 (Nat.le_refl _) (by omega)
 unfold QQ3
 cases hl:(QQ9 (fd C) (4*C.length) (4*C.length)).1 with
 |nil=>rw[hl]at h1;simp at h1
 |cons x l=>simp
def QX9 (C:List Cr):List Nat:=(QQ3 C).map fun l=>dC C (l.getD 0 0)
theorem QB3 (C:List Cr):(QX9 C).length=(QQ3 C).length:=by simp[QX9]
theorem KQ2 (C:List Cr) (i:Nat) (hi:i<(QQ3 C).length):(QX9 C).getD i 0=dC C (((QQ3 C).getD i []).getD 0 0):=by
 simp[QX9,List.getD_eq_getElem?_getD,hi]
theorem Qw8 {C:List Cr} {loops:Int} (hm:QQ6 C loops=true):∀ g,g∈QX9 C->g<C.length:=fun g hg=>by
 obtain⟨l,hl,rfl⟩:=List.mem_map.1 hg
 obtain⟨j,hj,rfl⟩:=List.getElem_of_mem hl
 obtain⟨h1,_,h3⟩:=(QY4 hm).2 j hj
 have e:(QQ3 C).getD j []=(QQ3 C)[j]:=by rw[List.getD_eq_getElem?_getD,List.getElem?_eq_getElem hj];rfl
 rw[e]at h1 h3
 exact(XW0 hm _ (h3 0 h1).1 (h3 0 h1).2).2.1
def QW6 (C:List Cr):List Nat:=Qu3 (List.range C.length) (QV5 C) C.length
def QX6 (C:List Cr):Bool:=(List.range C.length).all fun p=>!decide ((QW6 C).getD p 0=p)||decide (exN C.length (QX9 C) (QW6 C) p=2)
theorem QD0 (C:List Cr):QX6 C=true↔∀ p,p<C.length->(QW6 C).getD p 0=p->exN C.length (QX9 C) (QW6 C) p=2:=by
 unfold QX6
 rw[List.all_eq_true]
 constructor
 · intro h p hp e
   have:=h p (List.mem_range.2 hp)
   rw[e]at this
   simpa only[decide_true,Bool.not_true,Bool.false_or,decide_eq_true_eq] using this
 · intro h p hp
   by_cases e:(QW6 C).getD p 0=p
   · simp only[e,decide_true,Bool.not_true,Bool.false_or,decide_eq_true_eq];exact h p (List.mem_range.1 hp) e
   · simp only[e,decide_false,Bool.not_false,Bool.true_or]
theorem QK3 {C:List Cr} {loops:Int} (hm:QQ6 C loops=true):Least (QV5 C) C.length (QW6 C):=QU6 (XG0 hm) C.length (Nat.le_refl _)
end Go.Proofs.YtookanmeflbdlaaGreatDoor
/- Plain mathematics: in a planar diagram of one piece a set of arcs that comes to each crossing an even number of times parts two sets of faces. -/
namespace Go.Proofs.YtookanmeflbdlaaGreatDoor
theorem Kj6 (h:Nat->Nat->Bool) (m n:Nat):xs (fun i=>xs (fun j=>h i j) n) m=xs (fun j=>xs (fun i=>h i j) m) n:=by
 induction m with
 |zero=>
  have:xs (fun j=>xs (fun i=>h i j) 0) n=false:=Qh8 fun _ _=>rfl
  rw[this];rfl
 |succ m ih=>
  have:xs (fun j=>xs (fun i=>h i j) (m+1)) n=xor (xs (fun j=>xs (fun i=>h i j) m) n) (xs (fun j=>h m j) n):=by
   rw[<-KA6]
   rfl
  rw[this,<-ih]
  rfl
theorem Zx9 {n q:Nat} (hq:q<n) (b:Bool):xs (fun j=>decide (j=q)&&b) n=b:=by
 cases b with
 |false=>exact Qh8 fun _ _=>by simp
 |true=>exact Zz0 hq (by simp) (fun j hj=>by simp;omega) (fun j h1 _=>by simp;omega)
theorem Kj7 {M:Nat} (h:Nat->Bool) (p r:Nat->Nat) (hp:∀ j,j<M->p j<M) (hr:∀ q,q<M->r q<M) (h1:∀ j,j<M->r (p j)=j) (h2:∀ q,q<M->p (r q)=q):xs h M=xs (fun q=>h (r q)) M:=by
 have e1:xs h M=xs (fun j=>xs (fun q=>decide (q=p j)&&h j) M) M:=QH7 fun j hj=>(Zx9 (hp j hj) (h j)).symm
 have e2:xs (fun q=>h (r q)) M=xs (fun q=>xs (fun j=>decide (q=p j)&&h j) M) M:=QH7 fun q hq=>by
  rw[<-Zx9 (hr q hq) (h (r q))]
  refine QH7 fun j hj=>?_
  by_cases e:j=r q
  · subst e
    rw[h2 q hq]
    simp
  · have:¬ q=p j:=fun e3=>e (by rw[e3,h1 j hj])
    simp[e,this]
 rw[e1,e2,Kj6]
theorem JX0 (h:Nat->Bool) (m:Nat):xs h (2*m)=xs (fun i=>xor (h (2*i)) (h (2*i+1))) m:=by
 induction m with
 |zero=>rfl
 |succ m ih=>
  rw[show 2*(m+1)=2*m+1+1 by omega]
  simp only[xs]
  rw[ih]
  cases xs (fun i=>xor (h (2*i)) (h (2*i+1))) m<;>cases h (2*m)<;>cases h (2*m+1)<;>rfl
theorem Kj8 (h:Nat->Bool) (m:Nat):xs h (4*m)=xs (fun k=>xor (xor (h (4*k)) (h (4*k+1))) (xor (h (4*k+2)) (h (4*k+3)))) m:=by
 induction m with
 |zero=>rfl
 |succ m ih=>
  rw[show 4*(m+1)=4*m+1+1+1+1 by omega]
  simp only[xs]
  rw[ih]
  cases xs (fun k=>xor (xor (h (4*k)) (h (4*k+1))) (xor (h (4*k+2)) (h (4*k+3)))) m<;>cases h (4*m)<;>cases h (4*m+1)<;>cases h (4*m+2)<;>cases h (4*m+3)<;>rfl
def aAt (C:List Cr) (k s:Nat):Nat:=((C.getD k Cr.none).arc s).toNat
theorem QZ8 {C:List Cr} {loops:Int} (hm:QQ6 C loops=true) (k s:Nat) (hk:k<C.length) (hs:s<4):enC C (aAt C k s) ((C.getD k Cr.none).comes s)=k/\enS C (aAt C k s) ((C.getD k Cr.none).comes s)=s/\1<=aAt C k s/\aAt C k s<=2*C.length:=by
 have hf:=QK9 hm k s hk hs
 have g1:=hf.1
 have g2:=hf.2.1
 have ha:1<=aAt C k s/\aAt C k s<=2*C.length:=by unfold aAt;omega
 have e:=QC9 hm (aAt C k s) ha.1 ha.2 ((C.getD k Cr.none).comes s) k s hk hs (by unfold aAt;omega) rfl
 refine⟨?_,?_,ha.1,ha.2⟩
 · unfold enC;rw[e];rfl
 · unfold enS;rw[e];rfl
theorem ZZ6 {C:List Cr} {loops:Int} (hm:QQ6 C loops=true) (S d:Nat->Bool):xs (fun i=>xor (S (enC C (i+1) true)) (S (enC C (i+1) false))&&d (i+1)) (2*C.length)=xs (fun k=>S k&&xor (xor (d (aAt C k 0)) (d (aAt C k 1))) (xor (d (aAt C k 2)) (d (aAt C k 3)))) C.length:=by
 have e1:xs (fun i=>xor (S (enC C (i+1) true)) (S (enC C (i+1) false))&&d (i+1)) (2*C.length)=xs (fun j=>S (enC C (dA (j+1)) (dB (j+1)))&&d (dA (j+1))) (2*(2*C.length)):=by
  refine Eq.trans ?_ (JX0 (fun j=>S (enC C (dA (j+1)) (dB (j+1)))&&d (dA (j+1))) (2*C.length)).symm
  refine QH7 fun i _=>?_
  have a1:dA (2*i+1)=i+1:=by unfold dA;omega
  have a2:dA (2*i+1+1)=i+1:=by unfold dA;omega
  have b1:dB (2*i+1)=false:=by unfold dB;exact decide_eq_false (by omega)
  have b2:dB (2*i+1+1)=true:=by unfold dB;exact decide_eq_true (by omega)
  rw[a1,a2,b1,b2]
  cases S (enC C (i+1) true)<;>cases S (enC C (i+1) false)<;>cases d (i+1)<;>rfl
 rw[e1,show 2*(2*C.length)=4*C.length by omega]
 rw [Kj7 (fun j => S (enC C (dA (j + 1)) (dB (j + 1))) && d (dA (j + 1))) (fun j => 4 * enC C (dA (j + 1)) (dB (j + 1)) + enS C (dA (j + 1)) (dB (j + 1))) (fun q => mkD (aAt C (q / 4) (q % 4)) ((C.getD (q / 4) Cr.none).comes (q % 4)) - 1)
  (fun j hj => by
   have hA:=QC3 (j:=j+1) (n:=C.length) (by omega) (by omega)
   have h:=QV3 hm (dA (j+1)) (dB (j+1)) hA.1 hA.2
   omega)
  (fun q hq => by
   have h:=QZ8 hm (q / 4) (q%4) (by omega) (by omega)
   have h2:=QC2 (p:=(C.getD (q / 4) Cr.none).comes (q%4)) h.2.2.1 h.2.2.2
   omega)
  (fun j hj => by
   have hA:=QC3 (j:=j+1) (n:=C.length) (by omega) (by omega)
   obtain⟨-,h2,h3,h4,h5⟩:=QV3 hm (dA (j+1)) (dB (j+1)) hA.1 hA.2
   have q1:(4*enC C (dA (j+1)) (dB (j+1))+enS C (dA (j+1)) (dB (j+1))) / 4=enC C (dA (j+1)) (dB (j+1)):=by omega
   have q2:(4*enC C (dA (j+1)) (dB (j+1))+enS C (dA (j+1)) (dB (j+1)))%4=enS C (dA (j+1)) (dB (j+1)):=by omega
   simp only[q1,q2]
   have e:aAt C (enC C (dA (j+1)) (dB (j+1))) (enS C (dA (j+1)) (dB (j+1)))=dA (j+1):=by unfold aAt;rw[h4];omega
   rw[e,h5,Kh0 (by omega)]
   omega)
  (fun q hq => by
   have h:=QZ8 hm (q / 4) (q%4) (by omega) (by omega)
   have h2:=QC2 (p:=(C.getD (q / 4) Cr.none).comes (q%4)) h.2.2.1 h.2.2.2
   have e:mkD (aAt C (q / 4) (q%4)) ((C.getD (q / 4) Cr.none).comes (q%4))-1+1=mkD (aAt C (q / 4) (q%4)) ((C.getD (q / 4) Cr.none).comes (q%4)):=by omega
   simp only[e]
   rw[XW2 h.2.2.1,XW1 h.2.2.1,h.1,h.2.1]
   omega)]
 rw[Kj8]
 refine QH7 fun k hk=>?_
 have side:∀ s,s<4->(S (enC C (dA (mkD (aAt C ((4*k+s) / 4) ((4*k+s)%4)) ((C.getD ((4*k+s) / 4) Cr.none).comes ((4*k+s)%4))-1+1)) (dB (mkD (aAt C ((4*k+s) / 4) ((4*k+s)%4)) ((C.getD ((4*k+s) / 4) Cr.none).comes ((4*k+s)%4))-1+1)))&&d (dA (mkD (aAt C ((4*k+s) / 4) ((4*k+s)%4)) ((C.getD ((4*k+s) / 4) Cr.none).comes ((4*k+s)%4))-1+1)))=(S k&&d (aAt C k s)):=fun s hs=>by
  rw[show(4*k+s) / 4=k by omega,show(4*k+s)%4=s by omega]
  have h:=QZ8 hm k s hk hs
  have h2:=QC2 (p:=(C.getD k Cr.none).comes s) h.2.2.1 h.2.2.2
  rw[show mkD (aAt C k s) ((C.getD k Cr.none).comes s)-1+1=mkD (aAt C k s) ((C.getD k Cr.none).comes s) by omega,XW2 h.2.2.1,XW1 h.2.2.1,h.1]
 have s0:=side 0 (by omega)
 simp only[Nat.add_zero]at s0
 rw[s0,side 1 (by omega),side 2 (by omega),side 3 (by omega)]
 cases S k<;>cases d (aAt C k 0)<;>cases d (aAt C k 1)<;>cases d (aAt C k 2)<;>cases d (aAt C k 3)<;>rfl
def cor (C:List Cr) (k s:Nat):Nat:=fo C (mkD (aAt C k s) ((C.getD k Cr.none).comes s))
theorem QD8 {C:List Cr} {loops:Int} (hm:QQ6 C loops=true) (k s:Nat) (hk:k<C.length) (hs:s<4):fo C (mkD (aAt C k s) (!(C.getD k Cr.none).comes s))=cor C k ((s+3)%4):=by
 have h:=QZ8 hm k s hk hs
 have h2:=QC2 (p:=!(C.getD k Cr.none).comes s) h.2.2.1 h.2.2.2
 rw[<-JD1 hm _ h2.1 h2.2]
 unfold cor fd dC dS
 rw[XW2 h.2.2.1,XW1 h.2.2.1,Bool.not_not,h.1,h.2.1]
 rfl
def dfE (C:List Cr) (i:Nat):Nat×Nat:=(fo C (mkD (i+1) true),fo C (mkD (i+1) false))
def arE (C:List Cr) (i:Nat):Nat×Nat:=(enC C (i+1) true,enC C (i+1) false)
def sides (C:List Cr) (g:Nat->Bool) (a:Nat):Bool:=xor (g (fo C (mkD a true))) (g (fo C (mkD a false)))
theorem Qf5 {C:List Cr} {loops:Int} (hm:QQ6 C loops=true) (g:Nat->Bool) (k s:Nat) (hk:k<C.length) (hs:s<4):sides C g (aAt C k s)=xor (g (cor C k s)) (g (cor C k ((s+3)%4))):=by
 have h:=QD8 hm k s hk hs
 unfold sides
 unfold cor at h ⊢
 rw[<-h]
 cases (C.getD k Cr.none).comes s<;>simp[Bool.xor_comm]
theorem ZB6 {C:List Cr} {loops:Int} (hm:QQ6 C loops=true) (g:Nat->Bool) (k:Nat) (hk:k<C.length):xor (xor (sides C g (aAt C k 0)) (sides C g (aAt C k 1))) (xor (sides C g (aAt C k 2)) (sides C g (aAt C k 3)))=false:=by
 rw[Qf5 hm g k 0 hk (by omega),Qf5 hm g k 1 hk (by omega),Qf5 hm g k 2 hk (by omega),Qf5 hm g k 3 hk (by omega)]
 show xor (xor (xor (g (cor C k 0)) (g (cor C k 3))) (xor (g (cor C k 1)) (g (cor C k 0)))) (xor (xor (g (cor C k 2)) (g (cor C k 1))) (xor (g (cor C k 3)) (g (cor C k 2))))=false
 cases g (cor C k 0)<;>cases g (cor C k 1)<;>cases g (cor C k 2)<;>cases g (cor C k 3)<;>rfl
theorem ZA3 {C:List Cr} {loops:Int} (hm:QQ6 C loops=true) (S g:Nat->Bool):xs (fun i=>xor (S (arE C i).1) (S (arE C i).2)&&xor (g (dfE C i).1) (g (dfE C i).2)) (2*C.length)=false:=by
 have h:=ZZ6 hm S (sides C g)
 refine Eq.trans ?_ (h.trans (Qh8 fun k hk=>?_))
 · rfl
 · rw[ZB6 hm g k hk,Bool.and_false]
theorem ZW2 {E:Nat->Nat×Nat} {m:Nat}:Qk3 E (fun _=>true) m=(List.range m).map E:=by
 induction m with
 |zero=>rfl
 |succ m ih=>simp only[Qk3,if_true];rw[ih,List.range_succ,List.map_append];rfl
theorem Qd7 {C:List Cr} {loops:Int} (hm:QQ6 C loops=true) (h1:∀ k,k<C.length->Con (QV5 C) 0 k) (k s:Nat) (hk:k<C.length) (hs:s<4):Con (Qk3 (dfE C) (fun _=>true) (2*C.length)) (cor C 0 0) (cor C k s):=by
 intro T hT h0
 -- across an arc
 have hedge:∀ a,1<=a->a<=2*C.length->∀ p q,T (fo C (mkD a p))->T (fo C (mkD a q)):=fun a ha1 ha2 p q=>by
  have he:=hT _ (incl_mem.2 ⟨a-1,by omega,rfl,rfl⟩:dfE C (a-1)∈_)
  unfold dfE at he
  rw[show a-1+1=a by omega]at he
  cases p<;>cases q<;>simp only at he ⊢
  · exact id
  · exact he.2
  · exact he.1
  · exact id
 have hturn:∀ k s,k<C.length->s<4->(T (cor C k s)↔T (cor C k ((s+3)%4))):=fun k s hk hs=>by
  have h:=QZ8 hm k s hk hs
  rw[<-QD8 hm k s hk hs]
  unfold cor
  exact⟨hedge _ h.2.2.1 h.2.2.2 _ _,hedge _ h.2.2.1 h.2.2.2 _ _⟩
 have hall:∀ k,k<C.length->(∀ s,s<4->(T (cor C k s)↔T (cor C k 0))):=fun k hk s hs=>by
  have t1:=hturn k 1 hk (by omega)
  have t2:=hturn k 2 hk (by omega)
  have t3:=hturn k 3 hk (by omega)
  simp only[Nat.reduceAdd,Nat.reduceMod]at t1 t2 t3
  have:s=0∨s=1∨s=2∨s=3:=by omega
  rcases this with rfl|rfl|rfl|rfl
  · exact Iff.rfl
  · exact t1
  · exact t2.trans t1
  · exact t3.trans (t2.trans t1)
 have key : (fun c => c < C.length → T (cor C c 0)) k := h1 k hk (fun c => c < C.length → T (cor C c 0)) (fun e he => by
  obtain⟨i,hi,rfl⟩:=List.mem_map.1 he
  have hi2:=List.mem_range.1 hi
  have u:=QV3 hm (i+1) true (by omega) (by omega)
  have v:=QV3 hm (i+1) false (by omega) (by omega)
  have eu:fo C (mkD (i+1) true)=cor C (enC C (i+1) true) (enS C (i+1) true):=by
   unfold cor aAt
   rw[u.2.2.2.1,u.2.2.2.2]
   rfl
  have ev:fo C (mkD (i+1) false)=cor C (enC C (i+1) false) (enS C (i+1) false):=by
   unfold cor aAt
   rw[v.2.2.2.1,v.2.2.2.2]
   rfl
  have iu:=hall _ u.2.1 _ u.2.2.1
  have iv:=hall _ v.2.1 _ v.2.2.1
  rw[<-eu]at iu
  rw[<-ev]at iv
  have hx:=hedge (i+1) (by omega) (by omega)
  constructor
  · intro q _
    exact iv.1 (hx true false (iu.2 (q u.2.1)))
  · intro q _
    exact iu.1 (hx false true (iv.2 (q v.2.1)))) (fun _=>h0)
 exact(hall k hk s hs).2 (key hk)
end Go.Proofs.YtookanmeflbdlaaGreatDoor
/- Plain mathematics: a planar diagram of one piece: an even set of arcs parts two sets of faces. -/
namespace Go.Proofs.YtookanmeflbdlaaGreatDoor
theorem XB8 {α:Type} {p:α->Bool} {l:List α} (h:∀ x,x∈l->p x=true):l.countP p=l.length:=List.countP_eq_length.2 h
theorem KX0 {C:List Cr} {loops:Int} (hm:QQ6 C loops=true) (hp:QX6 C=true) (h0:0<C.length) (h1:∀ k,k<C.length->Con (QV5 C) 0 k):(QQ3 C).length=C.length+2:=by
 have hW:=QK3 hm
 have w0:(QW6 C).getD 0 0=0:=by have:=hW.le h0;omega
 have hall:∀ v,v<C.length->(QW6 C).getD v 0=0:=fun v hv=>by rw[<-(hW.same h0 hv).2 (h1 v hv)];exact w0
 have h:=(QD0 C).1 hp 0 h0 w0
 unfold exN at h
 rw[XB8 (l:=QX9 C) (fun g hg=>decide_eq_true (hall g (Qw8 hm g hg))),XB8 (l:=List.range C.length) (fun v hv=>decide_eq_true (hall v (List.mem_range.1 hv))),QB3,List.length_range]at h
 omega
theorem JJ8 {C:List Cr} {loops:Int} (hm:QQ6 C loops=true) (j:Nat) (h1:1<=j) (h2:j<=4*C.length):∃ k s,k<C.length/\s<4/\fo C j=cor C k s:=by
 have hA:=QC3 h1 h2
 have u:=QV3 hm (dA j) (dB j) hA.1 hA.2
 refine⟨_,_,u.2.1,u.2.2.1,?_⟩
 unfold cor aAt
 rw[u.2.2.2.1,u.2.2.2.2]
 show fo C j=fo C (mkD ((dA j:Int)).toNat (dB j))
 rw[Int.toNat_natCast,Kh0 h1]
theorem XH1 {C:List Cr} {loops:Int} (hm:QQ6 C loops=true) (f:Nat) (hf:f<(QQ3 C).length):∃ k s,k<C.length/\s<4/\f=cor C k s:=by
 obtain⟨-,hh⟩:=QY4 hm
 obtain⟨g1,-,g3⟩:=hh f hf
 have hb:=g3 0 g1
 obtain⟨k,s,hk,hs,e⟩:=JJ8 hm _ hb.1 hb.2
 refine⟨k,s,hk,hs,?_⟩
 rw[<-e]
 have hmem:((QQ3 C).getD f []).getD 0 0∈(QQ3 C).getD f []:=at_mem g1
 exact((ZQ7 (QU5 (fd C) (4*C.length) _ hb.1 hb.2) hf).1 hmem).symm
end Go.Proofs.YtookanmeflbdlaaGreatDoor
/- The walks of ref.level and ref.OversOf. -/
namespace Go.Proofs.YtookanmeflbdlaaGreatDoor
open Go.RowKit
def ovL (C:List Cr) (k:Nat):List Nat:=(List.range k).map fun i=>ovM C (i+1)
theorem Qu9 (C:List Cr) (k:Nat):(ovL C k).length=k:=by simp[ovL]
theorem KY4 (C:List Cr) (i:Nat) (hi:i<C.length):(ovE C).take (i+1)=(ovE C).take i++[((C.getD i Cr.none).b.toNat,(C.getD i Cr.none).d.toNat)]:=by
 rw[List.take_add_one]
 congr 1
 simp[ovE,hi,List.getD_eq_getElem?_getD]
theorem Ky0 (C:List Cr):(ovE C).take C.length=ovE C:=List.take_of_length_le (by simp[ovE])
end Go.Proofs.YtookanmeflbdlaaGreatDoor
/- Plain mathematics: Euler's number of a piece is even and at most two. -/
namespace Go.Proofs.YtookanmeflbdlaaGreatDoor
theorem XD2 (W:List Nat) (Q:Nat->Bool):∀ k,rq W Q k=(List.range k).countP fun v=>decide (W.getD v 0=v)&&Q v:=by
 intro k
 induction k with
 |zero=>rfl
 |succ k ih=>
  rw[List.range_succ,List.countP_append,List.countP_singleton,<-ih]
  simp only[rq,Bool.and_eq_true,decide_eq_true_eq]
theorem Bij.onto {f:Nat->Nat} {M:Nat} (h:Bij f M) {y:Nat} (hy:y<M):∃ x,x<M/\f x=y:=by
 obtain⟨p,h0,hp⟩:=period h hy
 refine⟨it f (p-1) y,XV8 h hy _,?_⟩
 have e:it f (p-1+1) y=f (it f (p-1) y):=rfl
 rw[<-e,show p-1+1=p by omega,hp]
theorem KG7 {r:Nat->Nat} {M:Nat} (h:Bij r M) (P:Nat->Bool):(List.range M).countP (fun q=>P (r q))=(List.range M).countP P:=by
 have hp:((List.range M).map r).Perm (List.range M):=by
  refine(List.perm_ext_iff_of_nodup ?_ List.nodup_range).2 fun y=>?_
  · unfold List.Nodup
    rw[List.pairwise_map]
    refine List.Pairwise.imp_of_mem ?_ (List.nodup_range (n:=M))
    intro a b ha hb hne e
    exact hne (h.inj a b (List.mem_range.1 ha) (List.mem_range.1 hb) e)
  · rw[List.mem_map]
    constructor
    · rintro⟨x,hx,rfl⟩
      exact List.mem_range.2 (h.lt x (List.mem_range.1 hx))
    · intro hy
      obtain⟨x,hx,e⟩:=h.onto (List.mem_range.1 hy)
      exact⟨x,List.mem_range.2 hx,e⟩
 rw[<-hp.countP_eq P,List.countP_map]
 rfl
theorem Kf5 {h Qc:Nat->Bool} {c:Nat} (n:Nat) (e:∀ k,k<n->(if h (4*k)=true then 1 else 0)+(if h (4*k+1)=true then 1 else 0)+(if h (4*k+2)=true then 1 else 0)+(if h (4*k+3)=true then 1 else 0)=if Qc k=true then c else 0):(List.range (4*n)).countP h=c*(List.range n).countP Qc:=by
 induction n with
 |zero=>rfl
 |succ n ih=>
  have e1:=e n (by omega)
  have e2:=ih fun k hk=>e k (by omega)
  rw[show 4*(n+1)=4*n+1+1+1+1 by omega]
  simp only[List.range_succ,List.countP_append,List.countP_singleton]
  rw[e2]
  by_cases hq:Qc n=true
  · rw[if_pos hq]at e1 ⊢
    rw[Nat.mul_add]
    omega
  · rw[if_neg hq]at e1 ⊢
    rw[show List.countP Qc (List.range n)+0=List.countP Qc (List.range n) from rfl]
    omega
theorem Xd5 (P:Nat->Bool) (M:Nat) (h:P 0=false):(List.range (M+1)).countP P=(List.range M).countP fun i=>P (i+1):=by
 rw[List.range_succ_eq_map,List.countP_cons,List.countP_map,h]
 simp only[Bool.false_eq_true,if_false,Nat.add_zero]
 rfl
def al (j:Nat):Nat:=mkD (dA j) (!dB j)
def lvC (C:List Cr) (j:Nat):Nat:=enC C (dA j) (dB j)
def pd (C:List Cr) (q:Nat):Nat:=mkD (aAt C (q / 4) (q%4)) ((C.getD (q / 4) Cr.none).comes (q%4))
theorem Qd2 {j n:Nat} (h1:1<=j) (h2:j<=4*n):1<=al j/\al j<=4*n/\dA (al j)=dA j/\dB (al j)=!dB j:=by
 have h:=QC3 h1 h2
 have g:=QC2 (p:=!dB j) h.1 h.2
 exact⟨g.1,g.2,XW2 h.1,XW1 h.1⟩
theorem ZZ5 (i:Nat):al (2*i+1)=2*i+2:=by
 unfold al dA dB mkD
 simp only[show(2*i+1)%2=1 by omega,show(2*i+1+1) / 2=i+1 by omega]
 simp
 omega
theorem XG1 (i:Nat):al (2*i+2)=2*i+1:=by
 unfold al dA dB mkD
 simp only[show(2*i+2)%2=0 by omega,show(2*i+2+1) / 2=i+1 by omega]
 simp
 omega
theorem Xu5 {j:Nat} (h1:1<=j):al (al j)=j:=by
 by_cases h:j%2=1
 · obtain⟨i,rfl⟩:∃ i,j=2*i+1:=⟨j / 2,by omega⟩
   rw[ZZ5,XG1]
 · obtain⟨i,rfl⟩:∃ i,j=2*i+2:=⟨j / 2 - 1,by omega⟩
   rw[XG1,ZZ5]
theorem JQ7 {C:List Cr} {j:Nat} (h1:1<=j) (h2:j<=4*C.length):dC C (al j)=lvC C j/\dS C (al j)=enS C (dA j) (dB j):=by
 obtain⟨-,-,a1,a2⟩:=Qd2 h1 h2
 unfold dC dS lvC
 rw[a1,a2,Bool.not_not]
 exact⟨rfl,rfl⟩
theorem KK7 {C:List Cr} {loops:Int} (hm:QQ6 C loops=true) {j:Nat} (h1:1<=j) (h2:j<=4*C.length):lvC C (fd C j)=dC C j:=by
 obtain⟨e1,e2,-⟩:=Xq7 hm j h1 h2
 obtain⟨-,h3,h4⟩:=XW0 hm j h1 h2
 have h:=(QZ8 hm (dC C j) ((dS C j+3)%4) h3 (Nat.mod_lt _ (by decide))).1
 unfold aAt at h
 rw[e1,e2,Int.toNat_natCast]at h
 exact h
theorem Qu6 {C:List Cr} {loops:Int} (hm:QQ6 C loops=true) {j:Nat} (h1:1<=j) (h2:j<=4*C.length):lvC C j<C.length:=by
 have h:=QC3 h1 h2
 exact(QV3 hm (dA j) (dB j) h.1 h.2).2.1
theorem KK8 {C:List Cr} {j:Nat} (h1:1<=j) (h2:j<=4*C.length):Con (QV5 C) (lvC C j) (dC C j):=by
 have h:=QC3 h1 h2
 have e:=Con.edge (ZV8 (C:=C) h.1 h.2)
 unfold lvC dC
 cases dB j
 · exact e.symm
 · exact e
theorem QF9 {C:List Cr} {loops:Int} (hm:QQ6 C loops=true) (k s:Nat) (hk:k<C.length) (hs:s<4):pd C (4*k+s)=mkD (aAt C k s) ((C.getD k Cr.none).comes s)/\lvC C (pd C (4*k+s))=k/\enS C (dA (pd C (4*k+s))) (dB (pd C (4*k+s)))=s/\1<=pd C (4*k+s)/\pd C (4*k+s)<=4*C.length:=by
 have e:pd C (4*k+s)=mkD (aAt C k s) ((C.getD k Cr.none).comes s):=by
  unfold pd
  rw[show(4*k+s) / 4=k by omega,show(4*k+s)%4=s by omega]
 have h:=QZ8 hm k s hk hs
 unfold lvC
 rw[e,XW2 h.2.2.1,XW1 h.2.2.1]
 have g:=QC2 (p:=(C.getD k Cr.none).comes s) h.2.2.1 h.2.2.2
 exact⟨rfl,h.1,h.2.1,g.1,g.2⟩
theorem Xq5 {C:List Cr} {loops:Int} (hm:QQ6 C loops=true) (k s:Nat) (hk:k<C.length) (hs:s<4):fd C (al (pd C (4*k+s)))=pd C (4*k+(s+3)%4):=by
 obtain⟨-,h1,h2,h3,h4⟩:=QF9 hm k s hk hs
 obtain⟨a1,a2⟩:=JQ7 (C:=C) h3 h4
 rw[(QF9 hm k ((s+3)%4) hk (Nat.mod_lt _ (by decide))).1]
 unfold fd
 rw[a1,a2,h1,h2]
 rfl
theorem ZX0 {C:List Cr} {loops:Int} (hm:QQ6 C loops=true):Bij (fun q=>pd C q-1) (4*C.length):=by
 have hb:∀ q,q<4*C.length->∃ k s,k<C.length/\s<4/\q=4*k+s:=fun q hq=>⟨q / 4,q%4,by omega,by omega,by omega⟩
 refine⟨fun q hq=>?_,fun q r hq hr e=>?_⟩
 · obtain⟨k,s,hk,hs,rfl⟩:=hb q hq
   obtain⟨-,-,-,h3,h4⟩:=QF9 hm k s hk hs
   show pd C (4*k+s)-1<_
   omega
 · obtain⟨k,s,hk,hs,rfl⟩:=hb q hq
   obtain⟨k',s',hk',hs',rfl⟩:=hb r hr
   obtain⟨-,h1,h2,h3,h4⟩:=QF9 hm k s hk hs
   obtain⟨-,g1,g2,g3,g4⟩:=QF9 hm k' s' hk' hs'
   have e1:pd C (4*k+s)=pd C (4*k'+s'):=by
    have e':pd C (4*k+s)-1=pd C (4*k'+s')-1:=e
    omega
   rw[e1]at h1 h2
   have:k=k':=by rw[<-h1,g1]
   have:s=s':=by rw[<-h2,g2]
   omega
theorem Xj5 {C : List Cr} {loops : Int} (hm : QQ6 C loops = true) {P Qc : Nat → Bool} {c : Nat} (h0 : P 0 = false)
    (e:∀ k,k<C.length->(if P (pd C (4*k))=true then 1 else 0)+(if P (pd C (4*k+1))=true then 1 else 0)+(if P (pd C (4*k+2))=true then 1 else 0)+(if P (pd C (4*k+3))=true then 1 else 0)=if Qc k=true then c else 0):
    (List.range (4*C.length+1)).countP P=c*(List.range C.length).countP Qc:=by
 rw[Xd5 P _ h0,<-KG7 (ZX0 hm) fun i=>P (i+1),<-Kf5 (h:=fun q=>P (pd C q)) C.length e]
 refine List.countP_congr fun q hq=>?_
 have hq:=List.mem_range.1 hq
 have h:=QF9 hm (q / 4) (q%4) (by omega) (by omega)
 rw[show 4*(q / 4)+q%4=q by omega]at h
 rw[show pd C q-1+1=pd C q by omega]
end Go.Proofs.YtookanmeflbdlaaGreatDoor
/- Plain mathematics: Euler's number of a piece is even and at most two, arc by arc. -/
namespace Go.Proofs.YtookanmeflbdlaaGreatDoor
theorem Bij.congr {f g:Nat->Nat} {M:Nat} (h:Bij f M) (e:∀ x,x<M->f x=g x):Bij g M:=
 ⟨fun x hx=>by rw[<-e x hx];exact h.lt x hx,fun x y hx hy q=>h.inj x y hx hy (by rw[e x hx,e y hy,q])⟩
def gI (C:List Cr) (i x:Nat):Nat:=up0 (fun j=>if j<=2*i then fd C j else fd C (al j)) x
theorem Zv0 {C:List Cr} {x:Nat} (h:1<=x):gI C 0 x=fd C (al x):=by
 unfold gI
 rw[QZ2 _ h,if_neg (by omega)]
theorem Zv1 (C:List Cr) (i x:Nat):tr (gI C i) (2*i+1) (2*i+2) x=gI C (i+1) x:=by
 by_cases h1:x=2*i+1
 · rw[h1,Xw9]
   unfold gI
   rw[QZ2 _ (by omega),QZ2 _ (by omega),if_neg (by omega),if_pos (by omega),XG1]
 · by_cases h2:x=2*i+2
   · rw[h2,ZC5]
     unfold gI
     rw[QZ2 _ (by omega),QZ2 _ (by omega),if_neg (by omega),if_pos (by omega),ZZ5]
   · rw[XV4 _ h1 h2]
     unfold gI
     by_cases h0:x=0
     · rw[h0];rfl
     · rw[QZ2 _ (by omega),QZ2 _ (by omega)]
       by_cases h3:x<=2*i
       · rw[if_pos h3,if_pos (by omega)]
       · rw[if_neg h3,if_neg (by omega)]
theorem Kx5 {C:List Cr} {loops:Int} (hm:QQ6 C loops=true):∀ i,i<=2*C.length->Bij (gI C i) (4*C.length+1):=by
 intro i
 induction i with
 |zero=>
  intro _
  refine(Qk4 (f:=fun j=>fd C (al j)) (n:=4*C.length) (fun a h1 h2=>?_) (fun a b h1 h2 h3 h4 e=>?_)).congr fun x hx=>?_
  · obtain⟨a1,a2,-,-⟩:=Qd2 h1 h2
    exact QZ9 hm _ a1 a2
  · obtain⟨a1,a2,-,-⟩:=Qd2 h1 h2
    obtain⟨b1,b2,-,-⟩:=Qd2 h3 h4
    have:=Qj5 hm _ _ a1 a2 b1 b2 e
    rw[<-Xu5 h1,this,Xu5 h3]
  · by_cases h0:x=0
    · rw[h0];rfl
    · rw[Zv0 (by omega),QZ2 _ (by omega)]
 |succ i ih=>
  intro hi
  exact((ih (by omega)).tr (a:=2*i+1) (b:=2*i+2) (by omega) (by omega)).congr fun x _=>Zv1 C i x
theorem Kb9 {C:List Cr} {x:Nat} (h:x<4*C.length+1):gI C (2*C.length) x=up0 (fd C) x:=by
 unfold gI
 by_cases h0:x=0
 · rw[h0];rfl
 · rw[QZ2 _ (by omega),QZ2 _ (by omega),if_pos (by omega)]
theorem Kx4 {C:List Cr} {loops:Int} (hm:QQ6 C loops=true) (i:Nat) {x:Nat} (h1:1<=x) (h2:x<=4*C.length):1<=gI C i x/\gI C i x<=4*C.length/\lvC C (gI C i x)=if x<=2*i then dC C x else lvC C x:=by
 unfold gI
 rw[QZ2 _ h1]
 by_cases h3:x<=2*i
 · rw[if_pos h3,if_pos h3]
   have:=QZ9 hm x h1 h2
   exact⟨this.1,this.2,KK7 hm h1 h2⟩
 · rw[if_neg h3,if_neg h3]
   obtain⟨a1,a2,-,-⟩:=Qd2 h1 h2
   have:=QZ9 hm _ a1 a2
   exact⟨this.1,this.2,by rw[KK7 hm a1 a2,(JQ7 h1 h2).1]⟩
theorem Zx1 (C:List Cr) (i:Nat):lvC C (2*i+1)=(arE C i).2/\lvC C (2*i+2)=(arE C i).1:=by
 unfold lvC arE dA dB
 constructor
 · simp only[show(2*i+1)%2=1 by omega,show(2*i+1+1) / 2=i+1 by omega]
   rfl
 · simp only[show(2*i+2)%2=0 by omega,show(2*i+2+1) / 2=i+1 by omega]
   rfl
theorem KB0 {C:List Cr} {i x:Nat} (h1:1<=x) (h2:x<=2*i):Con (Qk3 (arE C) (fun _=>true) i) (lvC C x) (dC C x):=by
 have h:1<=dA x/\dA x<=i:=by unfold dA;omega
 have hmem:arE C (dA x-1)∈Qk3 (arE C) (fun _=>true) i:=incl_mem.2 ⟨dA x-1,by omega,rfl,rfl⟩
 have e:arE C (dA x-1)=(enC C (dA x) true,enC C (dA x) false):=by
  unfold arE
  rw[show dA x-1+1=dA x by omega]
 rw[e]at hmem
 have hc:=Con.edge hmem
 unfold lvC dC
 cases dB x
 · exact hc.symm
 · exact hc
theorem Zb9 {C:List Cr} {loops:Int} (hm:QQ6 C loops=true) (i:Nat) {x y:Nat} (hx:1<=x) (hc:Con (eds (gI C i) (4*C.length+1)) x y):Con (Qk3 (arE C) (fun _=>true) i) (lvC C x) (lvC C y):=by
 have := hc (fun z => 1 ≤ z ∧ Con (Qk3 (arE C) (fun _ => true) i) (lvC C x) (lvC C z)) (closed_eds.2 fun z hz => by
  by_cases h0:z=0
  · rw[h0]
    have e:gI C i 0=0:=rfl
    rw[e]
  · obtain⟨g1,g2,g3⟩:=Kx4 hm i (x:=z) (by omega) (by omega)
    rw[g3]
    have hcz:Con (Qk3 (arE C) (fun _=>true) i) (lvC C z) (if z<=2*i then dC C z else lvC C z):=by
     by_cases h3:z<=2*i
     · rw[if_pos h3];exact KB0 (by omega) h3
     · rw[if_neg h3];exact Con.refl _ _
    exact⟨fun q=>⟨g1,q.2.trans hcz⟩,fun q=>⟨by omega,q.2.trans hcz.symm⟩⟩) ⟨hx,Con.refl _ _⟩
 exact this.2
theorem ZW1 {C : List Cr} {i : Nat} (hi : i ≤ 2 * C.length) {x y : Nat} (hc : Con (Qk3 (arE C) (fun _ => true) i) x y) : Con (QV5 C) x y := fun S hS hx => hc S (fun e he => by
 obtain⟨t,ht,-,rfl⟩:=incl_mem.1 he
 exact hS _ (List.mem_map.2 ⟨t,List.mem_range.2 (by omega),rfl⟩)) hx
theorem ZZ3 {C:List Cr} {loops:Int} (hm:QQ6 C loops=true):∀ i,i<2*C.length->(arE C i).1<C.length/\(arE C i).2<C.length:=fun i hi=>by
 have h:=XG0 hm (arE C i) (List.mem_map.2 ⟨i,List.mem_range.2 hi,rfl⟩)
 exact h
def qD (C:List Cr) (p j:Nat):Bool:=decide (1<=j)&&decide ((QW6 C).getD (lvC C j) 0=p)
def qC (C:List Cr) (p v:Nat):Bool:=decide ((QW6 C).getD v 0=p)
theorem JK4 {C:List Cr} {loops:Int} (hm:QQ6 C loops=true) (p:Nat) {i:Nat} (_hi:i<=2*C.length) (x y:Nat) (_hx:x<4*C.length+1) (hc:Con (eds (gI C i) (4*C.length+1)) x y):qD C p x=qD C p y:=by
 have hW:=QK3 hm
 exact hc (fun z => qD C p x = qD C p z) (closed_eds.2 fun z hz => by
  by_cases h0:z=0
  · rw[h0]
    exact Iff.rfl
  · obtain⟨g1,g2,g3⟩:=Kx4 hm i (x:=z) (by omega) (by omega)
    have l1:=Qu6 hm (j:=z) (by omega) (by omega)
    have l2:=Qu6 hm g1 g2
    have hcz:Con (QV5 C) (lvC C z) (lvC C (gI C i z)):=by
     rw[g3]
     by_cases h3:z<=2*i
     · rw[if_pos h3];exact KK8 (by omega) (by omega)
     · rw[if_neg h3];exact Con.refl _ _
    have e:qD C p z=qD C p (gI C i z):=by
     unfold qD
     rw[(hW.same l1 l2).2 hcz,decide_eq_true (show 1<=z by omega),decide_eq_true g1]
    rw[e]) rfl
theorem Xh4 {C : List Cr} {loops : Int} (hm : QQ6 C loops = true) (p : Nat) (hbase : cyN (gI C 0) (4 * C.length + 1) (qD C p) = (List.range C.length).countP (qC C p)) : ∀ i, i ≤ 2 * C.length →
    cyN (gI C i) (4*C.length+1) (qD C p)+(List.range C.length).countP (qC C p)<=(List.range i).countP (fun t=>qD C p (2*t+1))+2*rq (cls (arE C) (fun _=>true) C.length i) (qC C p) C.length/\
    (cyN (gI C i) (4*C.length+1) (qD C p)+(List.range C.length).countP (qC C p)+(List.range i).countP (fun t=>qD C p (2*t+1)))%2=0:=by
 have hW:=QK3 hm
 intro i
 induction i with
 |zero=>
  intro _
  rw[hbase]
  have e:rq (cls (arE C) (fun _=>true) C.length 0) (qC C p) C.length=(List.range C.length).countP (qC C p):=by
   rw[XD2]
   refine List.countP_congr fun v hv=>?_
   have:(cls (arE C) (fun _=>true) C.length 0).getD v 0=v:=by
    show(List.range C.length).getD v 0=v
    rw[List.getD_eq_getElem?_getD,List.getElem?_range (List.mem_range.1 hv)]
    rfl
   rw[this,decide_eq_true rfl,Bool.true_and]
  rw[e]
  simp only[List.range_zero,List.countP_nil]
  omega
 |succ i ih=>
  intro hi
  obtain⟨i1,i2⟩:=ih (by omega)
  have hB:=Kx5 hm i (by omega)
  have hL:=QW9 (E:=arE C) (K:=fun _=>true) (n:=C.length) (m:=i) fun t ht=>ZZ3 hm t (by omega)
  obtain⟨e1,e2⟩:=ZZ3 hm i (by omega)
  obtain⟨v1,v2⟩:=Zx1 C i
  have hQ:=JK4 hm p (i:=i) (by omega)
  have hedge:Con (QV5 C) (arE C i).1 (arE C i).2:=Con.edge (List.mem_map.2 ⟨i,List.mem_range.2 (by omega),rfl⟩)
  have hab:qD C p (2*i+1)=qD C p (2*i+2):=by
   unfold qD
   rw[v1,v2,(hW.same e1 e2).2 hedge,decide_eq_true (show 1<=2*i+1 by omega),decide_eq_true (show 1<=2*i+2 by omega)]
  have hcong:cyN (gI C (i+1)) (4*C.length+1) (qD C p)=cyN (tr (gI C i) (2*i+1) (2*i+2)) (4*C.length+1) (qD C p):=Qq5 (fun x _=>(Zv1 C i x).symm) _
  have hmm:(List.range (i+1)).countP (fun t=>qD C p (2*t+1))=(List.range i).countP (fun t=>qD C p (2*t+1))+if qD C p (2*i+1)=true then 1 else 0:=by
   rw[List.range_succ,List.countP_append,List.countP_singleton]
  have hq1:qD C p (2*i+1)=qC C p (arE C i).2:=by
   unfold qD qC
   rw[v1,decide_eq_true (show 1<=2*i+1 by omega),Bool.true_and]
  rw[hcong,hmm,Qh0 (E:=arE C) (K:=fun _=>true) rfl]
  by_cases hc:Con (eds (gI C i) (4*C.length+1)) (2*i+1) (2*i+2)
  · have k1:=XH6 hB (qD C p) (a:=2*i+1) (b:=2*i+2) (by omega) (by omega) (by omega) hc hQ
    have hcc:=Zb9 hm i (by omega) hc
    rw[v1,v2]at hcc
    rw[Qg4 ((hL.same e1 e2).2 hcc.symm),<-k1]
    split<;>rename_i hq<;>simp only[hq,if_true,if_false,Bool.false_eq_true] at*<;> omega
  · have k1:=Qv2 hB (qD C p) (a:=2*i+1) (b:=2*i+2) (by omega) (by omega) hc hQ hab
    by_cases hs:(cls (arE C) (fun _=>true) C.length i).getD (arE C i).1 0=(cls (arE C) (fun _=>true) C.length i).getD (arE C i).2 0
    · rw[Qg4 hs]
      by_cases hq:qD C p (2*i+1)=true
      · rw[if_pos hq]at k1 ⊢;omega
      · rw[if_neg hq]at k1 ⊢;omega
    · have hr:=KC6 hL (qC C p) e1 e2 hs C.length (Nat.le_refl _)
      have l1:=hL.lt e1
      have l2:=hL.lt e2
      have w1:=(hW.same e1 l1).2 (ZW1 (by omega) (hL.2 _ e1).1)
      have w2:=(hW.same e2 l2).2 (ZW1 (by omega) (hL.2 _ e2).1)
      have w3:=(hW.same e1 e2).2 hedge
      have hmax:qC C p (max ((cls (arE C) (fun _=>true) C.length i).getD (arE C i).1 0) ((cls (arE C) (fun _=>true) C.length i).getD (arE C i).2 0))=qD C p (2*i+1):=by
       rw[hq1]
       unfold qC
       rcases Nat.le_total ((cls (arE C) (fun _=>true) C.length i).getD (arE C i).1 0) ((cls (arE C) (fun _=>true) C.length i).getD (arE C i).2 0) with hle|hle
       · rw[Nat.max_eq_right hle,<-w2]
       · rw[Nat.max_eq_left hle,<-w1,w3]
      rw[hmax]at hr
      by_cases hq:qD C p (2*i+1)=true
      · rw[if_pos hq]at k1 ⊢
        rw[if_pos ⟨by omega,hq⟩]at hr
        omega
      · rw[if_neg hq]at k1 ⊢
        rw[if_neg fun q=>hq q.2]at hr
        omega
end Go.Proofs.YtookanmeflbdlaaGreatDoor
/- Plain mathematics: a walk of one strand; how often it comes by, modulo two. -/
namespace Go.Proofs.YtookanmeflbdlaaGreatDoor
theorem Qb2 (x:Cr) (s:Nat) (hs:s<4):x.comes ((s+2)%4)=!x.comes s:=by
 have:s=0∨s=1∨s=2∨s=3:=by omega
 unfold Cr.comes
 rcases this with rfl|rfl|rfl|rfl<;>cases x.plus<;>rfl
theorem JK9 {C:List Cr} {loops:Int} (hm:QQ6 C loops=true) (a b:Nat) (h1:1<=a) (h2:a<=2*C.length) (h3:1<=b) (h4:b<=2*C.length) (e:nx C a=nx C b):a=b:=by
 obtain⟨-,p2,p3,p4,p5⟩:=ZQ5 hm a h1 h2
 obtain⟨-,q2,q3,q4,q5⟩:=ZQ5 hm b h3 h4
 obtain⟨a1,a2,a3⟩:=ZX3 hm a h1 h2
 obtain⟨b1,b2,b3⟩:=ZX3 hm b h3 h4
 have ca:=Qb2 (C.getD (toC C a) Cr.none) (toS C a) p3
 have cb:=Qb2 (C.getD (toC C b) Cr.none) (toS C b) q3
 rw[p5]at ca
 rw[q5]at cb
 have e1:=QC9 hm _ a2 a3 _ _ _ p2 (Nat.mod_lt _ (by decide)) a1 ca
 have e2:=QC9 hm _ b2 b3 _ _ _ q2 (Nat.mod_lt _ (by decide)) b1 cb
 rw[e]at e1
 rw[e1]at e2
 have hcc:toC C a=toC C b:=by have:=congrArg Prod.fst e2;simp only at this;omega
 have hss:toS C a=toS C b:=by have:=congrArg Prod.snd e2;simp only at this;omega
 rw[hcc,hss]at p4
 omega
end Go.Proofs.YtookanmeflbdlaaGreatDoor
/- Plain mathematics: rings and pieces where a crossing, or two, are passed straight. -/
namespace Go.Proofs.YtookanmeflbdlaaGreatDoor
def cyA (f:Nat->Nat) (M:Nat):Nat:=cyN f M fun _=>true
theorem KG0 {f:Nat->Nat} {M:Nat} (h:Bij f M) {a b:Nat} (ha:a<M) (hb:b<M) (hn:¬ Con (eds f M) a b):cyA (tr f a b) M+1=cyA f M:=by
 have:=Qv2 h (fun _=>true) ha hb hn (fun _ _ _ _=>rfl) rfl
 rw[if_pos rfl]at this
 exact this
theorem KF9 {f:Nat->Nat} {M:Nat} (h:Bij f M) {a b:Nat} (ha:a<M) (hb:b<M) (hne:a≠b) (hc:Con (eds f M) a b):cyA f M+1=cyA (tr f a b) M:=by
 have:=XH6 h (fun _=>true) ha hb hne hc (fun _ _ _ _=>rfl)
 rw[if_pos rfl]at this
 exact this
theorem KX6 {f g:Nat->Nat} {M:Nat} (e:∀ x,x<M->f x=g x):cyA f M=cyA g M:=Qq5 e _
theorem Kd9 {f:Nat->Nat} {M:Nat} (h:Bij f M) {w z:Nat} (hw:w<M) (e:f w=z) (hne:w≠z):cyA f M+1=cyA (tr f w z) M:=
 KF9 h hw (e▸h.lt w hw) hne (e▸XD4 hw)
theorem Zv8 {f:Nat->Nat} {M:Nat} (h:Bij f M) {w z:Nat} (hw:w<M) (hz:z<M) (e:f z=z) (hne:w≠z):cyA (tr f w z) M+1=cyA f M:=by
 refine KG0 h hw hz fun hc=>hne ?_
 have hS:Closed (eds f M) fun y=>y=z:=closed_eds.2 fun i hi=>by
  constructor
  · intro q;rw[q];exact e
  · intro q;exact h.inj i z hi hz (by rw[q,e])
 exact hc.symm _ hS rfl
def kN (E:List (Nat×Nat)) (M:Nat):Nat:=rq (Qu3 (List.range M) E M) (fun _=>true) M
def edb (f a:Nat->Nat) (M:Nat):List (Nat×Nat):=eds f M++eds a M
theorem closed_edb {f a:Nat->Nat} {M:Nat} {S:Nat->Prop}:Closed (edb f a M) S↔(∀ i,i<M->(S i↔S (f i)))/\∀ i,i<M->(S i↔S (a i)):=by
 constructor
 · intro h
   exact⟨closed_eds.1 fun e he=>h e (List.mem_append_left _ he),closed_eds.1 fun e he=>h e (List.mem_append_right _ he)⟩
 · rintro⟨h1,h2⟩ e he
   rcases List.mem_append.1 he with he|he
   · exact closed_eds.2 h1 e he
   · exact closed_eds.2 h2 e he
structure CurlG (f g al:Nat->Nat) (M P Q U V:Nat):Prop where
 bf:Bij f M
 la:∀ x,x<M->al x<M
 lp:P<M
 lq:Q<M
 lu:U<M
 lv:V<M
 pq:P≠Q
 pu:P≠U
 pv:P≠V
 qu:Q≠U
 qv:Q≠V
 uv:U≠V
 aq:al P=Q
 fp:f P=P
 fq:f Q=al V
 fu:f U=Q
 fv:f V=al U
 gp:g P=al V
 gq:g Q=al U
 gu:g U=P
 gv:g V=Q
 go:∀ x,x<M->x≠P->x≠Q->x≠U->x≠V->g x=f x
theorem CurlG.count {f g al:Nat->Nat} {M P Q U V:Nat} (h:CurlG f g al M P Q U V):cyA g M+1=cyA f M:=by
 have b1:=h.bf.tr h.lu h.lq
 have c1:=Kd9 h.bf h.lu h.fu (Ne.symm h.qu)
 have e1:tr f U Q P=P:=by rw[XV4 f h.pu h.pq,h.fp]
 have c2:=Zv8 b1 h.lu h.lp e1 (Ne.symm h.pu)
 have b2:=b1.tr h.lu h.lp
 have e2:tr (tr f U Q) U P Q=Q:=by rw[XV4 _ h.qu (Ne.symm h.pq),ZC5,h.fu]
 have c3:=Zv8 b2 h.lv h.lq e2 (Ne.symm h.qv)
 have e:cyA (tr (tr (tr f U Q) U P) V Q) M=cyA g M:=KX6 fun x hx=>by
  by_cases x1:x=P
  · rw[x1,XV4 _ h.pv h.pq,ZC5,Xw9,h.fq,h.gp]
  · by_cases x2:x=Q
    · rw[x2,ZC5,XV4 _ (Ne.symm h.uv) (Ne.symm h.pv),XV4 _ (Ne.symm h.uv) (Ne.symm h.qv),h.fv,h.gq]
    · by_cases x3:x=U
      · rw[x3,XV4 _ h.uv (Ne.symm h.qu),Xw9,e1,h.gu]
      · by_cases x4:x=V
        · rw[x4,Xw9,e2,h.gv]
        · rw[XV4 _ x4 x2,XV4 _ x3 x1,XV4 _ x3 x2,h.go x hx x1 x2 x3 x4]
 omega
theorem CurlG.con {f g al:Nat->Nat} {M P Q U V:Nat} (h:CurlG f g al M P Q U V) (x y:Nat) (hc:Con (edb f al M) x y):Con (edb g al M) x y:=fun S hS=>by
 obtain⟨s1,s2⟩:=closed_edb.1 hS
 refine hc S (closed_edb.2 ⟨fun i hi=>?_,s2⟩)
 have a1:=s1 U h.lu
 have a2:=s2 P h.lp
 have a3:=s1 V h.lv
 have a4:=s2 U h.lu
 have a5:=s2 V h.lv
 rw[h.gu]at a1
 rw[h.aq]at a2
 rw[h.gv]at a3
 by_cases x1:i=P
 · rw[x1,h.fp]
 · by_cases x2:i=Q
   · rw[x2,h.fq,<-a5,<-a3]
   · by_cases x3:i=U
     · rw[x3,h.fu,a1,a2]
     · by_cases x4:i=V
       · rw[x4,h.fv,<-a4,a1,a2,a3]
       · rw[<-h.go i hi x1 x2 x3 x4];exact s1 i hi
end Go.Proofs.YtookanmeflbdlaaGreatDoor

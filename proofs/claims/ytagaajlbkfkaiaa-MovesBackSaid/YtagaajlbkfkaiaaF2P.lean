/- Several texts of the proof, one behind the other. -/
import Derived.Test.YtagaajlbkfkaiaaW5P
import Derived.Deep.Cut
import Derived.Test.YtagaajlbkfkaiaaOmP
import Derived.Test.YtagaajlbkfkaiaaH7
import Derived.Deep.RegionHeld3
import Derived.Test.YtagaajlbkfkaiaaH6P
/- The walks of Drawing.Onward and ref.NextDart. -/
namespace Go.Proofs.Ytagaajlbkfkaiaa
open Go.RowKit
set_option maxHeartbeats 4000000
set_option maxRecDepth 100000
theorem onward_any (a:Option Addr) (cap:Nat) (C:List Cr) (loops:Int) (gF cF gT cT:Nat) (j:Nat) (w:World) (hm:mayD C loops=true) (h1:1<=j) (h2:j<=4*C.length) (hD:Dr w a cap C gF gT):
    Calls Try.prog 95 #[drV a cap C loops gF cF gT cT,.agg #[.int .i64 (dA j:Nat),.bool (dB j)]] w fun e w'=>e=.returned (.agg #[.int .i64 (dA (fd C j):Nat),.bool (dB (fd C j))])/\Below w.heap.size w w':=by
 have HM:=hidB hm
 have hA:=dA_le h1 h2
 obtain⟨-,hi,hs⟩:=d_may hm j h1 h2
 obtain⟨f1,f2,-,-⟩:=fd_may hm j h1 h2
 have HF1:=hidB f1
 have HF2:=hidB f2
 obtain⟨i,hci⟩:∃ i,dC C j=i:=⟨_,rfl⟩
 obtain⟨k,hck⟩:∃ k,dS C j=k:=⟨_,rfl⟩
 have HE:Hid (∀ W,Dr W a cap C gF gT->Calls Try.prog 78 #[drV a cap C loops gF cF gT cT,.agg #[.int .i64 (dA j:Nat),.bool (dB j)]] W fun e w'=>e=.returned (.agg #[.int .i64 (i:Nat),.int .i64 (k:Nat)])/\Below W.heap.size W w'):=fun W hW=>by
  rw[<-hci,<-hck]
  exact end_any a cap C loops gF cF gT cT (dA j) (dB j) W hm hA.1 hA.2 hW
 rw[hci,hck]at HF1 HF2
 rw[hci]at hi
 rw[hck]at hs
 generalize dA (fd C j)=zA at HF1 ⊢
 generalize dB (fd C j)=zB at HF2 ⊢
 obtain⟨k2,hk2⟩:∃ k2:Nat,k2=(k+3)%4:=⟨_,rfl⟩
 rw[<-hk2]at HF1 HF2
 have e0:IntKind.i64.wrap ((k:Int)+4)=(k:Int)+4:=IntWalk.i64_in _ (by omega)
 have e1:IntKind.i64.wrap ((k:Int)+4-1)=(k:Int)+4-1:=IntWalk.i64_in _ (by omega)
 have e2:((k:Int)+4-1).tmod 4=(k2:Int):=by rw[Int.tmod_eq_emod_of_nonneg (by omega)];omega
 have hk24:k2<4:=by omega
 have HD:=hidB hD
 clear hk2 hci hck f1 f2 hm hD
 obtain⟨b,off,rfl,hbw,hC⟩:=HD.out.cross (by omega)
 have HC:=hidB hC
 unfold drV
 unfold drV at HE
 generalize dA j=jA at HE hA ⊢
 generalize dB j=jB at HE ⊢
 obtain⟨w0,hw0⟩:∃ w0,w0=((w.alloc (.cells #[.slice (some ⟨b,off,none⟩) C.length cap,.int .i64 loops,.slice (some ⟨gF,0,none⟩) (2*C.length+1) cF,.slice (some ⟨gT,0,none⟩) (2*C.length+1) cT] 61)).alloc (.cells #[.int .i64 jA,.bool jB] 26)).alloc (.cells #[.int .i64 0,.bool false] 26):=⟨_,rfl⟩
 have HW0:=hidB hw0
 have hs0:w0.heap.size=w.heap.size+3:=by rw[hw0];simp
 have HB0:=hidB (show Below w.heap.size w w0 by rw[hw0];exact QV1 _ _ _ _)
 have HT0:=hidB (show w0.heap[w.heap.size]?=some (.cells #[.slice (some ⟨b,off,none⟩) C.length cap,.int .i64 loops,.slice (some ⟨gF,0,none⟩) (2*C.length+1) cF,.slice (some ⟨gT,0,none⟩) (2*C.length+1) cT] 61 (0,0)) by rw[hw0];exact alloc_old (alloc_old (alloc_at rfl)))
 have HT2:=hidB (show w0.heap[w.heap.size+1+1]?=some (.cells #[.int .i64 0,.bool false] 26 (0,0)) by rw[hw0];exact alloc_at (by simp))
 have HD0:=hidB (HD.out.on HB0.out)
 clear hw0 hC
 go_enter Try.func95,Try.ntmps95
 go_wp2_with (go_at_call 78;rw[<-HW0.out];refine(HE.out _ HD0.out).mono ?_;rintro e9 w1 ⟨rfl,hb1⟩;refine Hid.out ?_)
 refine Lib.hid ?_
 have hs1:=hb1.size
 have g0:=(hb1.block _ (by omega)).trans HT0.out
 have HG2:=hidB ((hb1.block _ (by omega)).trans HT2.out)
 have HB1:=hidB (HB0.out.trans (hb1.mono (by omega)))
 have p0:=QQ0 (i:=0) g0 rfl
 have p1:=QQ0 (i:=1) g0 rfl
 have p2:=QQ0 (i:=2) g0 rfl
 have p3:=QQ0 (i:=3) g0 rfl
 have l0:w.heap.size<w1.heap.size:=by omega
 obtain⟨X,hX⟩:∃ X,X=w1.alloc (.cells #[.int .i64 i,.int .i64 k2] 120):=⟨_,rfl⟩
 have HX:=hidB hX
 have H1X:=hidB (show Below w1.heap.size w1 X by rw[hX];exact(Below.refl _ _).alloc (Nat.le_refl _) _)
 have hsX:X.heap.size=w1.heap.size+1:=by rw[hX];simp
 have HBX:=hidB (HB1.out.trans (H1X.out.mono HB1.out.size))
 have HCX:=hidB (HC.out.on HBX.out hbw)
 clear hb1 g0 hX
 go_wp2_with (go_at_call 117;rw[<-HX.out];refine(QU1 b off cap C loops _ _ i k2 _ hi hk24 (by omega) HCX.out).mono ?_;rw[HF1.out,HF2.out];rintro e9 w2 ⟨rfl,hb2⟩;refine Hid.out ?_)
 refine Lib.hid ?_
 have hs2:=hb2.size
 have g2:=(hb2.block _ (by omega)).trans ((H1X.out.block _ (by omega)).trans HG2.out)
 have r0:=QQ0 (i:=0) (v:=.int .i64 0) g2 rfl
 have r1:=QQ0 (i:=1) (v:=.bool false) g2 rfl
 have f0:=QQ2 (i:=0) g2
 have f1:=QQ2 (i:=1) g2
 have lr:w.heap.size+1+1<w2.heap.size:=by omega
 have HB2:=hidB (HBX.out.trans (hb2.mono (by omega)))
 have HGG:=hidB g2
 clear hb2 g2 p0 p1 p2 p3
 go_wp2
 have hX2:=QQ6 (i:=1) (u:=.bool zB) (QQ6 (i:=0) (u:=.int .i64 zA) HGG.out)
 have x0:=QQ0 (i:=0) (v:=.int .i64 zA) hX2 rfl
 have x1:=QQ0 (i:=1) (v:=.bool zB) hX2 rfl
 exact bodyPost_ret (v:=.agg #[.int .i64 zA,.bool zB]) (by simp[results,Try.results95,go_sem,x0,x1]) rfl ⟨rfl,HB2.out.grown (QZ5 w2 (w.heap.size+1+1) 0 (.int .i64 zA) (.bool zB)) (by omega) (fun q hq=>by have:=Option.some.inj hq;omega)⟩
end Go.Proofs.Ytagaajlbkfkaiaa
/- The walk of ref.FacesOf. -/
namespace Go.Proofs.Ytagaajlbkfkaiaa
open Go.RowKit
def dd (l:List Nat):List (Nat×Bool):=l.map fun j=>(dA j,dB j)
theorem dd_app (l:List Nat) (j:Nat):dd (l++[j])=dd l++[(dA j,dB j)]:=by simp[dd]
theorem dd_len (l:List Nat):(dd l).length=l.length:=by simp[dd]
def DartsOwn (w:World) (B:Nat) (v:Value) (L:List (List Nat)):Prop:=
 ∃ ys:List Value,ys.length=L.length/\w.ownsRow B 86 1 v ys.length ys/\∀ j,j<L.length->w.ownsRow B 26 2 (ys.getD j (.bool false)) (L.getD j []).length (vflat (dd (L.getD j [])))
theorem infoDart:(Try.prog.info? 26).map (fun i=>(i.zero,i.size,i.bytes))=some (some (.agg #[.int .i64 0,.bool false]),2,16):=by kernel_rfl
theorem infoDarts:(Try.prog.info? 86).map (fun i=>(i.zero,i.size,i.bytes))=some (some (.slice none 0 0),1,24):=by kernel_rfl
theorem code_d {x:Nat} (_h:1<=x):(if dB x=true then 2*dA x+1 else 2*dA x)=x+1:=by
 unfold dB dA
 split
 · rename_i hd;simp at hd;omega
 · rename_i hd;simp at hd;omega
theorem bools_at (seen:List Bool) (x:Nat) (h:x<seen.length):(bools (false::seen))[x+1]?=some (.bool (seen.getD x true)):=by
 simp[bools,List.getD_eq_getElem?_getD,h]
theorem bools_put (seen:List Bool) (x:Nat):(bools (false::seen)).set (x+1) (.bool true)=bools (false::seen.set x true):=by
 simp[bools]
theorem new_cell2' {W:World} {s:Nat} (hs:s=W.heap.size) (a b:Value) (e:TypeId):∀ j u,[a,b][j]?=some u->(W.alloc (.cells #[a,b] e)).cell? ((⟨s,0,none⟩:Addr).add j)=some u:=by
 intro j u hu
 subst hs
 have hg:(W.alloc (.cells #[a,b] e)).heap[W.heap.size]?=some (.cells #[a,b] e (0,0)):=alloc_at rfl
 have hadd:∀ j,(⟨W.heap.size,0,none⟩:Addr).add j=⟨W.heap.size,j,none⟩:=fun j=>by unfold Addr.add;split<;>simp_all
 rw[hadd,cell_of_row _ _ _ _ _ _ hg]
 simpa using hu
end Go.Proofs.Ytagaajlbkfkaiaa
/- The walk of ref.PiecesOf. -/
namespace Go.Proofs.Ytagaajlbkfkaiaa
open Go.RowKit
theorem made_zeroN (n:Nat):(madeCells (Value.int .i64 0).cells (n*1)).toList=nats (List.replicate n 0):=by
 have e:(Value.int .i64 0).cells=#[Value.int .i64 0]:=rfl
 rw[e,toList_madeCells_one,Nat.mul_one]
 simp[nats]
theorem nats_set (l:List Nat) (i z:Nat):(nats l).set i (.int .i64 (z:Nat))=nats (l.set i z):=by simp[nats,List.map_set]
def labTo (n i:Nat):List Nat:=(List.range n).map fun v=>if v<i then v else 0
theorem labTo_zero (n:Nat):List.replicate n 0=labTo n 0:=by
 refine List.ext_getElem (by simp[labTo]) fun j h1 h2=>?_
 simp[labTo]
theorem labTo_next (n i:Nat):(labTo n i).set i i=labTo n (i+1):=by
 refine List.ext_getElem (by simp[labTo]) fun j h1 h2=>?_
 simp only[List.getElem_set,labTo,List.getElem_map,List.getElem_range]
 split
 · rename_i h;subst h;simp
 · rename_i h
   by_cases h3:j<i
   · rw[if_pos h3,if_pos (by omega)]
   · rw[if_neg h3,if_neg (by omega)]
theorem labTo_all (n:Nat):labTo n n=List.range n:=by
 refine List.ext_getElem (by simp[labTo]) fun j h1 h2=>?_
 simp only[labTo,List.getElem_map,List.getElem_range]
 rw[if_pos (by simpa[labTo] using h1)]
end Go.Proofs.Ytagaajlbkfkaiaa
/- Rings of darts in a world; the walk of ref.PlanarIs. -/
namespace Go.Proofs.Ytagaajlbkfkaiaa
open Go.RowKit
def RingsAt (w:World) (B:Nat) (v:Value) (L:List (List Nat)):Prop:=∃ a cap,v=.slice a L.length cap/\(0<L.length->∃ b off,a=some ⟨b,off,none⟩/\b<w.heap.size/\B<=b/\∀ j,j<L.length->∃ g c,w.cell? ⟨b,off+j,none⟩=some (.slice (some ⟨g,0,none⟩) (L.getD j []).length c)/\g<w.heap.size/\B<=g/\∀ k,k<(L.getD j []).length->w.cell? ⟨g,k*2,none⟩=some (.int .i64 (dA ((L.getD j []).getD k 0):Nat))/\w.cell? ⟨g,k*2+1,none⟩=some (.bool (dB ((L.getD j []).getD k 0))))
theorem RingsAt.on {w w':World} {B:Nat} {v:Value} {L:List (List Nat)} (h:RingsAt w B v L) (hb:Below w.heap.size w w'):RingsAt w' B v L:=by
 obtain⟨a,cap,rfl,f⟩:=h
 refine⟨a,cap,rfl,fun h0=>?_⟩
 obtain⟨b,off,rfl,hlt,hB,hc⟩:=f h0
 refine⟨b,off,rfl,Nat.lt_of_lt_of_le hlt hb.size,hB,fun j hj=>?_⟩
 obtain⟨g,c,h1,h2,hG,h3⟩:=hc j hj
 exact⟨g,c,bcell hb hlt h1,Nat.lt_of_lt_of_le h2 hb.size,hG,fun k hk=>⟨bcell hb h2 (h3 k hk).1,bcell hb h2 (h3 k hk).2⟩⟩
theorem dd_get (l:List Nat) (k:Nat) (hk:k<l.length):(dd l).getD k (0,false)=(dA (l.getD k 0),dB (l.getD k 0)):=by
 simp[dd,List.getD_eq_getElem?_getD,hk]
theorem DartsOwn.rings {w:World} {B:Nat} {v:Value} {L:List (List Nat)} (h:DartsOwn w B v L) (hn:∀ j,j<L.length->0<(L.getD j []).length):RingsAt w B v L:=by
 obtain⟨ys,h1,h2,h3⟩:=h
 obtain⟨a,cap,ev,f⟩:=QW6 h2
 refine⟨a,cap,by rw[ev,h1],fun h0=>?_⟩
 obtain⟨b,off,ea,hlt,hc⟩:=f (by omega)
 refine⟨b,off,ea,hlt,(h2.lt b (by rw[ev,ea];rfl)).1,fun j hj=>?_⟩
 have hr:=h3 j hj
 have hpos:=hn j hj
 have hcell:=hc j (by omega)
 rcases hr.2 with⟨_,hz⟩|⟨g,c,cur,e1,hBg,hg,_,_,_,htk⟩
 · omega
 · rw[e1]at hcell
   refine⟨g,c,hcell,(Array.getElem?_eq_some_iff.1 hg).1,hBg,fun k hk=>?_⟩
   have hv:=vflat_get (dd (L.getD j [])) k (by rw[dd_len];exact hk)
   rw[dd_get _ k hk]at hv
   have hcl:=fun(o:Nat) (u:Value) (hu:(vflat (dd (L.getD j [])))[o]?=some u)=>hr.cells (g:=g) (by rw[e1];rfl) o u hu
   have hadd:∀ o,(⟨g,0,none⟩:Addr).add o=⟨g,o,none⟩:=fun o=>by unfold Addr.add;split<;>simp_all
   have a1:=hcl _ _ hv.1
   have a2:=hcl _ _ hv.2
   rw[hadd]at a1 a2
   exact⟨a1,a2⟩
theorem QX6 {C:List Cr} {loops:Int} (hm:mayD C loops=true):(QQ3 C).length<=4*C.length/\∀ j,j<(QQ3 C).length->0<((QQ3 C).getD j []).length/\((QQ3 C).getD j []).length<=4*C.length+1/\∀ k,k<((QQ3 C).getD j []).length->1<=((QQ3 C).getD j []).getD k 0/\((QQ3 C).getD j []).getD k 0<=4*C.length:=by
 refine⟨walksTo_count _ _ _,fun j hj=>?_⟩
 have hmem:(QQ3 C).getD j []∈QQ3 C:=by rw[List.getD_eq_getElem?_getD,List.getElem?_eq_getElem hj];exact List.getElem_mem hj
 obtain⟨h1,h2,h3⟩:=QV3 (QZ0 hm) (4*C.length) (Nat.le_refl _) _ hmem
 refine⟨List.length_pos_iff.2 h1,h2,fun k hk=>h3 _ ?_⟩
 generalize (QQ3 C).getD j []=l at hk ⊢
 rw[List.getD_eq_getElem?_getD,List.getElem?_eq_getElem hk]
 exact List.getElem_mem hk
theorem facesM_pos {C:List Cr} (h:0<C.length):0<(QQ3 C).length:=by
 have h1:=QJ2 (fd C) (4*C.length) 1 (Nat.le_refl _) (by omega)
 unfold QQ3
 cases hl:(QQ9 (fd C) (4*C.length) (4*C.length)).1 with
 |nil=>rw[hl]at h1;simp at h1
 |cons x l=>simp
def QZ4 (C:List Cr):List Nat:=(QQ3 C).map fun l=>dC C (l.getD 0 0)
theorem headsM_len (C:List Cr):(QZ4 C).length=(QQ3 C).length:=by simp[QZ4]
theorem headsM_at (C:List Cr) (i:Nat) (hi:i<(QQ3 C).length):(QZ4 C).getD i 0=dC C (((QQ3 C).getD i []).getD 0 0):=by
 simp[QZ4,List.getD_eq_getElem?_getD,hi]
theorem headsM_lt {C:List Cr} {loops:Int} (hm:mayD C loops=true):∀ g,g∈QZ4 C->g<C.length:=fun g hg=>by
 obtain⟨l,hl,rfl⟩:=List.mem_map.1 hg
 obtain⟨j,hj,rfl⟩:=List.getElem_of_mem hl
 obtain⟨h1,_,h3⟩:=(QX6 hm).2 j hj
 have e:(QQ3 C).getD j []=(QQ3 C)[j]:=by rw[List.getD_eq_getElem?_getD,List.getElem?_eq_getElem hj];rfl
 rw[e]at h1 h3
 exact(d_may hm _ (h3 0 h1).1 (h3 0 h1).2).2.1
def whoM (C:List Cr):List Nat:=levR (List.range C.length) (arcE C) C.length
def QX1 (C:List Cr):Bool:=(List.range C.length).all fun p=>!decide ((whoM C).getD p 0=p)||decide (exN C.length (QZ4 C) (whoM C) p=2)
theorem planarB_iff (C:List Cr):QX1 C=true↔∀ p,p<C.length->(whoM C).getD p 0=p->exN C.length (QZ4 C) (whoM C) p=2:=by
 unfold QX1
 rw[List.all_eq_true]
 constructor
 · intro h p hp e
   have:=h p (List.mem_range.2 hp)
   rw[e]at this
   simpa only[decide_true,Bool.not_true,Bool.false_or,decide_eq_true_eq] using this
 · intro h p hp
   by_cases e:(whoM C).getD p 0=p
   · simp only[e,decide_true,Bool.not_true,Bool.false_or,decide_eq_true_eq];exact h p (List.mem_range.1 hp) e
   · simp only[e,decide_false,Bool.not_false,Bool.true_or]
theorem QV8 {C:List Cr} {loops:Int} (hm:mayD C loops=true):Least (arcE C) C.length (whoM C):=QZ9 (arcE_lt hm) C.length (Nat.le_refl _)
end Go.Proofs.Ytagaajlbkfkaiaa
/- The walk of ref.PlanarIs. -/
namespace Go.Proofs.Ytagaajlbkfkaiaa
open Go.RowKit
end Go.Proofs.Ytagaajlbkfkaiaa
/- Two rows of rings are held against one another. -/
namespace Go.Proofs.Ytagaajlbkfkaiaa
open Go.RowKit
theorem DartsOwn.vs {w:World} {B:Nat} {v:Value} {L:List (List Nat)} (h:DartsOwn w B v L):VsAt w v (L.map dd):=by
 obtain⟨ys,h1,h2,h3⟩:=h
 refine⟨ys,by simp[h1],QW6 h2,fun j hj=>?_⟩
 have hj':j<L.length:=by simpa using hj
 have e:(L.map dd).getD j []=dd (L.getD j []):=by simp[List.getD_eq_getElem?_getD,hj']
 rw[e]
 have:=h3 j hj'
 rw[<-dd_len (L.getD j [])]at this
 exact vs_own this
theorem eqDart (a c:Int) (b d:Bool) (w:World):(Op.equalIn 10000 26 (.agg #[.int .i64 a,.bool b]) (.agg #[.int .i64 c,.bool d])).run Try.prog w=.ok (a==c&&b==d) w:=by
 have u3:=Try.underlying3
 have a3:=Try.isAgg3
 have z3:=Try.sizeOf3
 have u4:=Try.underlying4
 have a4:=Try.isAgg4
 have z4:=Try.sizeOf4
 have hS:Try.prog.underlying 26=some (.struct (Try.prog.fieldsOf 26)):=by kernel_rfl
 have hp:Try.prog.stoodInHeld 26=false:=by kernel_rfl
 rw[show(10000:Nat)=9999+1 from rfl,run_equalIn_agg w 9999 26 _ _ hS hp]
 simp only[Program.fieldsOf,Try.underlying26]
 go_simp
 by_cases h1:a=c<;>by_cases h2:b=d<;>simp[h1,h2]
end Go.Proofs.Ytagaajlbkfkaiaa
/- The walk of ref.DiagramOf, with what it owns (J7 without ref.ChangeOf). -/
namespace Go.Proofs.Ytagaajlbkfkaiaa
open Go.RowKit
end Go.Proofs.Ytagaajlbkfkaiaa
/- Plain mathematics: in a planar diagram of one piece a set of arcs that comes to each crossing an even number of times parts two sets of faces. -/
namespace Go.Proofs.Ytagaajlbkfkaiaa
def aAt (C:List Cr) (k s:Nat):Nat:=((C.getD k Cr.none).arc s).toNat
theorem QW3 {C:List Cr} {loops:Int} (hm:mayD C loops=true) (k s:Nat) (hk:k<C.length) (hs:s<4):enC C (aAt C k s) ((C.getD k Cr.none).comes s)=k/\enS C (aAt C k s) ((C.getD k Cr.none).comes s)=s/\1<=aAt C k s/\aAt C k s<=2*C.length:=by
 have hf:=QK7 hm k s hk hs
 have g1:=hf.1
 have g2:=hf.2.1
 have ha:1<=aAt C k s/\aAt C k s<=2*C.length:=by unfold aAt;omega
 have e:=end_one hm (aAt C k s) ha.1 ha.2 ((C.getD k Cr.none).comes s) k s hk hs (by unfold aAt;omega) rfl
 refine⟨?_,?_,ha.1,ha.2⟩
 · unfold enC;rw[e];rfl
 · unfold enS;rw[e];rfl
def arE (C:List Cr) (i:Nat):Nat×Nat:=(enC C (i+1) true,enC C (i+1) false)
def sides (C:List Cr) (g:Nat->Bool) (a:Nat):Bool:=xor (g (fo C (mkD a true))) (g (fo C (mkD a false)))
theorem incl_all {E:Nat->Nat×Nat} {m:Nat}:incl E (fun _=>true) m=(List.range m).map E:=by
 induction m with
 |zero=>rfl
 |succ m ih=>simp only[incl,if_true];rw[ih,List.range_succ,List.map_append];rfl
end Go.Proofs.Ytagaajlbkfkaiaa
/- Plain mathematics: a planar diagram of one piece: an even set of arcs parts two sets of faces. -/
namespace Go.Proofs.Ytagaajlbkfkaiaa
end Go.Proofs.Ytagaajlbkfkaiaa
/- Plain mathematics: a walk of one strand; how often it comes by, modulo two. -/
namespace Go.Proofs.Ytagaajlbkfkaiaa
theorem comes_over (x:Cr) (s:Nat) (hs:s<4):x.comes ((s+2)%4)=!x.comes s:=by
 have:s=0∨s=1∨s=2∨s=3:=by omega
 unfold Cr.comes
 rcases this with rfl|rfl|rfl|rfl<;>cases x.plus<;>rfl
theorem nx_inj {C:List Cr} {loops:Int} (hm:mayD C loops=true) (a b:Nat) (h1:1<=a) (h2:a<=2*C.length) (h3:1<=b) (h4:b<=2*C.length) (e:nx C a=nx C b):a=b:=by
 obtain⟨-,p2,p3,p4,p5⟩:=QJ0 hm a h1 h2
 obtain⟨-,q2,q3,q4,q5⟩:=QJ0 hm b h3 h4
 obtain⟨a1,a2,a3⟩:=nx_may hm a h1 h2
 obtain⟨b1,b2,b3⟩:=nx_may hm b h3 h4
 have ca:=comes_over (C.getD (toC C a) Cr.none) (toS C a) p3
 have cb:=comes_over (C.getD (toC C b) Cr.none) (toS C b) q3
 rw[p5]at ca
 rw[q5]at cb
 have e1:=end_one hm _ a2 a3 _ _ _ p2 (Nat.mod_lt _ (by decide)) a1 ca
 have e2:=end_one hm _ b2 b3 _ _ _ q2 (Nat.mod_lt _ (by decide)) b1 cb
 rw[e]at e1
 rw[e1]at e2
 have hcc:toC C a=toC C b:=by have:=congrArg Prod.fst e2;simp only at this;omega
 have hss:toS C a=toS C b:=by have:=congrArg Prod.snd e2;simp only at this;omega
 rw[hcc,hss]at p4
 omega
end Go.Proofs.Ytagaajlbkfkaiaa
/- Crossings that are taken out, their strands going on: what the reference's rounds and tests come to is what the code's merging comes to. Plain mathematics: no program is named here. -/
namespace Go.Proofs.Ytagaajlbkfkaiaa
theorem com_two (x:Cr) (s:Nat) (hs:s<4) (h:x.comes s=true):x.comes ((s+2)%4)=false:=by
 match s,hs,h with
 |0,_,_=>rfl
 |1,_,h=>simp[Cr.comes]at h ⊢;simp[h]
 |2,_,h=>simp[Cr.comes]at h
 |3,_,h=>simp[Cr.comes]at h ⊢;simp[h]
theorem com_three {x:Cr} (h:x.plus=true):x.comes 3=true:=by simp[Cr.comes,h]
theorem com_one {x:Cr} (h:x.plus=false):x.comes 1=true:=by simp[Cr.comes,h]
theorem nx_goes {C:List Cr} {loops:Int} (hm:mayD C loops=true):Goes C (nx C) where
 closed:=nx_closed hm
 inj:=fun a b a1 a2 b1 b2 e=>nx_inj hm a b a1 a2 b1 b2 e
 out:=fun a a1 a2=>by
  have ha:=nx_may hm a a1 a2
  obtain⟨-,i1,s1,r1,q1⟩:=QJ0 hm a a1 a2
  have ea:=end_one hm (nx C a) ha.2.1 ha.2.2 false (toC C a) ((toS C a+2)%4) i1 (by omega) ha.1 (com_two _ _ s1 q1)
  unfold enC
  rw[ea]
  rfl
def tkE (C:List Cr) (G:List Nat):List (Nat×Nat):=G.flatMap fun g=>[(((C.getD g Cr.none).arc 0).toNat,((C.getD g Cr.none).arc 2).toNat),(((C.getD g Cr.none).arc 1).toNat,((C.getD g Cr.none).arc 3).toNat)]
theorem mem_tkE {C:List Cr} {G:List Nat} {e:Nat×Nat}:e∈tkE C G↔∃ g,g∈G/\∃ k,k<2/\e=(((C.getD g Cr.none).arc k).toNat,((C.getD g Cr.none).arc (k+2)).toNat):=by
 unfold tkE
 rw[List.mem_flatMap]
 constructor
 · rintro⟨g,hg,he⟩
   rcases List.mem_cons.1 he with h|h
   · exact⟨g,hg,0,by omega,h⟩
   · rcases List.mem_cons.1 h with h|h
     · exact⟨g,hg,1,by omega,h⟩
     · cases h
 · rintro⟨g,hg,k,hk,rfl⟩
   refine⟨g,hg,?_⟩
   match k,hk with
   |0,_=>exact List.mem_cons_self
   |1,_=>exact List.mem_cons_of_mem _ List.mem_cons_self
theorem con_sub {E F:List (Nat×Nat)} (h:∀ e,e∈E->Con F e.1 e.2) {u v:Nat} (c:Con E u v):Con F u v:=fun S hS hu=>
 c S (fun e he=>⟨h e he S hS,(h e he).symm S hS⟩) hu
theorem nx_at {C:List Cr} {loops:Int} (hm:mayD C loops=true) (g s:Nat) (hg:g<C.length) (hs:s<4) (hc:(C.getD g Cr.none).comes s=true):
    1<=((C.getD g Cr.none).arc s).toNat/\((C.getD g Cr.none).arc s).toNat<=2*C.length/\toC C ((C.getD g Cr.none).arc s).toNat=g/\nx C ((C.getD g Cr.none).arc s).toNat=((C.getD g Cr.none).arc ((s+2)%4)).toNat:=by
 obtain⟨t1,t2,t3,t4⟩:=to_side hm g s hg hs hc
 have h:=(nx_may hm _ t1 t2).1
 rw[t3,t4]at h
 refine⟨t1,t2,t3,?_⟩
 omega
theorem con_tk {C:List Cr} {loops:Int} (hm:mayD C loops=true) (G:List Nat) (hG:∀ g,g∈G->g<C.length) (u v:Nat):Con (uTo C (nx C) G (2*C.length)) u v↔Con (tkE C G) u v:=by
 constructor
 · refine con_sub fun e he=>?_
   obtain⟨a,a1,a2,a3,rfl⟩:=mem_uTo.1 he
   obtain⟨-,i1,s1,r1,q1⟩:=QJ0 hm a a1 a2
   have h:=(nx_may hm a a1 a2).1
   have ea:a=((C.getD (toC C a) Cr.none).arc (toS C a)).toNat:=by omega
   have en:nx C a=((C.getD (toC C a) Cr.none).arc ((toS C a+2)%4)).toNat:=by omega
   show Con (tkE C G) a (nx C a)
   rw[en]
   have key:∀ k,k<2->Con (tkE C G) ((C.getD (toC C a) Cr.none).arc k).toNat ((C.getD (toC C a) Cr.none).arc (k+2)).toNat:=fun k hk=>Con.edge (mem_tkE.2 ⟨_,a3,k,hk,rfl⟩)
   conv=>lhs;rw[ea]
   generalize toS C a=s at s1 q1
   match s,s1,q1 with
   |0,_,_=>exact key 0 (by omega)
   |1,_,_=>exact key 1 (by omega)
   |2,_,q=>simp[Cr.comes]at q
   |3,_,_=>exact(key 1 (by omega)).symm
 · refine con_sub fun e he=>?_
   obtain⟨g,hg,k,hk,rfl⟩:=mem_tkE.1 he
   have hgl:=hG g hg
   have key:∀ s,s<4->(C.getD g Cr.none).comes s=true->Con (uTo C (nx C) G (2*C.length)) ((C.getD g Cr.none).arc s).toNat ((C.getD g Cr.none).arc ((s+2)%4)).toNat:=fun s hs hc=>by
    obtain⟨t1,t2,t3,t4⟩:=nx_at hm g s hgl hs hc
    rw[<-t4]
    exact Con.edge (mem_uTo.2 ⟨_,t1,t2,by rw[t3];exact hg,rfl⟩)
   match k,hk with
   |0,_=>exact key 0 (by omega) rfl
   |1,_=>
    cases hp:(C.getD g Cr.none).plus with
    |true=>exact(key 3 (by omega) (com_three hp)).symm
    |false=>exact key 1 (by omega) (com_one hp)
theorem tk_lt {C:List Cr} {loops:Int} (hm:mayD C loops=true) (G:List Nat) (hG:∀ g,g∈G->g<C.length):∀ e,e∈tkE C G->e.1<2*C.length+1/\e.2<2*C.length+1:=fun e he=>by
 obtain⟨g,hg,k,hk,rfl⟩:=mem_tkE.1 he
 have h1:=en_one hm g k (hG g hg) (by omega)
 have h2:=en_one hm g (k+2) (hG g hg) (by omega)
 exact⟨by have:=h1.2.1;simp only;omega,by have:=h2.2.1;simp only;omega⟩
theorem take_levels {C:List Cr} {loops:Int} (hm:mayD C loops=true) (G:List Nat) (hG:∀ g,g∈G->g<C.length):levR (List.range (2*C.length+1)) (tkE C G) (2*C.length+1)=uniM C (nx C) G:=by
 have h1:=uni_least (G:=G) (nx_goes hm).closed
 have h2:Least (tkE C G) (2*C.length+1) (uniM C (nx C) G):=⟨h1.1,fun v hv=>⟨(con_tk hm G hG _ _).1 (h1.2 v hv).1,fun u hu=>(h1.2 v hv).2 u ((con_tk hm G hG _ _).2 hu)⟩⟩
 exact Least.eq (QZ9 (tk_lt hm G hG) _ (Nat.le_refl _)) h2
end Go.Proofs.Ytagaajlbkfkaiaa
/- The walk of Drawing.united, with the arc on which the other strand goes on. -/
namespace Go.Proofs.Ytagaajlbkfkaiaa
open Go.RowKit
set_option maxHeartbeats 16000000
set_option maxRecDepth 100000
structure UnAt (w:World) (N:Nat) (box:Array Value) (L:List Nat) (wr:World):Prop where
 box:wr.heap[w.heap.size]?=some (.cells box 61 (0,0))
 row:wr.ownsRow (w.heap.size+1) 3 1 (.slice (some ⟨w.heap.size+1,0,none⟩) N N) N (nats L)
 bel:Below w.heap.size w wr
theorem UnAt.on {w wr w':World} {N:Nat} {box:Array Value} {L:List Nat} (h:UnAt w N box L wr) (hb:Below wr.heap.size wr w'):UnAt w N box L w':=
 ⟨(hb.block _ (Array.getElem?_eq_some_iff.1 h.box).1).trans h.box,QX0 h.row (QQ5 hb none),h.bel.trans (hb.mono h.bel.size)⟩
theorem UnAt.set {w wr:World} {N:Nat} {box:Array Value} {L M:List Nat} {i z:Nat} (h:UnAt w N box L wr) (e:L.set i z=M):UnAt w N box M (wr.setCell ⟨w.heap.size+1,i,none⟩ (.int .i64 (z:Nat))):=by
 have hst:=h.row.stored i (.int .i64 (z:Nat))
 rw[nats_set,e]at hst
 have hlt:=h.row.lt (w.heap.size+1) rfl
 exact⟨(hst.2.block _ (by omega) (fun e=>by have:w.heap.size=w.heap.size+1:=Option.some.inj e;omega)).trans h.box,hst.1,h.bel.grown hst.2 h.bel.size (fun q hq=>by have:=Option.some.inj hq;omega)⟩
theorem UnAt.at_ {w wr:World} {N:Nat} {box:Array Value} {L:List Nat} (h:UnAt w N box L wr) (hl:L.length=N) (i:Nat) (hi:i<N):wr.cell? ⟨w.heap.size+1,i,none⟩=some (.int .i64 (L.getD i 0:Nat)):=by
 rw[h.row.cellAt i (by omega)];exact nats_get _ i (by omega)
theorem UnAt.fz {w wr:World} {N:Nat} {box:Array Value} {L:List Nat} (h:UnAt w N box L wr) (i:Nat):wr.frozen? ⟨w.heap.size+1,i,none⟩=false:=h.row.frozenAt i
theorem UnAt.lt {w wr:World} {N:Nat} {box:Array Value} {L:List Nat} (h:UnAt w N box L wr):w.heap.size+1<wr.heap.size:=(h.row.lt (w.heap.size+1) rfl).2
def GonAt (w:World) (b:Nat) (G:List Nat):Prop:=b<w.heap.size/\∀ i,i<G.length->w.cell? ⟨b,0+i,none⟩=some (.int .i64 (G.getD i 0:Nat))
theorem GonAt.on {w w':World} {b:Nat} {G:List Nat} (h:GonAt w b G) (hb:Below w.heap.size w w'):GonAt w' b G:=⟨Nat.lt_of_lt_of_le h.1 hb.size,fun i hi=>bcell hb h.1 (h.2 i hi)⟩
theorem mers_uTo (C:List Cr) (f:Nat->Nat) (G:List Nat) (V:List Nat) (a:Nat):mers V (uTo C f G (a+1))=if toC C (a+1)∈G then mer (mers V (uTo C f G a)) (a+1) (f (a+1)) else mers V (uTo C f G a):=by
 rw[uTo,mers_app]
 split<;>rfl
theorem united_ahead (a:Option Addr) (cap:Nat) (C:List Cr) (loops:Int) (gF cF gT cT:Nat) (bG cG:Nat) (G:List Nat) (w:World) (hm:mayD C loops=true) (hD:Dr w a cap C gF gT) (hG1:G.length<=16) (hG:GonAt w bG G):
    Calls Try.prog 132 #[drV a cap C loops gF cF gT cT,.func (.func 97) #[drV a cap C loops gF cF gT cT] #[],.slice (some ⟨bG,0,none⟩) G.length cG] w fun e w'=>∃ g,e=.returned (.slice (some ⟨g,0,none⟩) (2*C.length+1) (2*C.length+1))/\w'.ownsRow w.heap.size 3 1 (.slice (some ⟨g,0,none⟩) (2*C.length+1) (2*C.length+1)) (2*C.length+1) (nats (uniM C (nx C) G))/\Below w.heap.size w w':=by
 obtain⟨s1,-,-,-⟩:=QZ2 (QK3 hm)
 obtain⟨i2,hk,hx0,hx1,hx2⟩:=info_parts infoInt
 have HM:Hid (mayD C loops=true):=hm
 have HD:Hid (Dr w a cap C gF gT):=hD
 have HG:Hid (GonAt w bG G):=hG
 have hbG:=hG.1
 have HAS:Hid (∀ x W,1<=x->x<=2*C.length->Dr W a cap C gF gT->Calls Try.prog 97 #[drV a cap C loops gF cF gT cT,.int .i64 x] W fun e w'=>e=.returned (.int .i64 (nx C x:Nat))/\Below W.heap.size W w'):=fun x W h1 h2 hW=>ahead_any a cap C loops gF cF gT cT x W HM.out h1 h2 hW
 have HHS:Hid (∀ (x:Nat) W,Calls Try.prog 104 #[drV a cap C loops gF cF gT cT,.int .i64 (x:Nat)] W fun e w'=>e=.returned (.bool (hasB C x))/\Below W.heap.size W w'):=fun x W=>has_any a cap C loops gF cF gT cT x W s1
 unfold drV at HAS HHS ⊢
 obtain⟨N,hN⟩:∃ N,N=2*C.length+1:=⟨_,rfl⟩
 have HN:Hid (N=2*C.length+1):=hN
 have hN1:1<=N:=by omega
 have hN2:N<=33:=by omega
 rw[<-hN]at HAS HHS ⊢
 clear hN hm hD hG
 obtain⟨w0,hw0⟩:∃ w0,w0=w.alloc (.cells #[.slice a C.length cap,.int .i64 loops,.slice (some ⟨gF,0,none⟩) N cF,.slice (some ⟨gT,0,none⟩) N cT] 61):=⟨_,rfl⟩
 have HW0:Hid (w0=w.alloc (.cells #[.slice a C.length cap,.int .i64 loops,.slice (some ⟨gF,0,none⟩) N cF,.slice (some ⟨gT,0,none⟩) N cT] 61)):=hw0
 have hs0:w0.heap.size=w.heap.size+1:=by rw[hw0];simp
 have HB0:Hid (Below w.heap.size w w0):=(by rw[hw0];exact(Below.refl _ _).alloc (Nat.le_refl _) _:Below w.heap.size w w0)
 have HT0:Hid (w0.heap[w.heap.size]?=some (.cells #[.slice a C.length cap,.int .i64 loops,.slice (some ⟨gF,0,none⟩) N cF,.slice (some ⟨gT,0,none⟩) N cT] 61 (0,0))):=(by rw[hw0];exact alloc_at rfl:w0.heap[w.heap.size]?=some (.cells #[.slice a C.length cap,.int .i64 loops,.slice (some ⟨gF,0,none⟩) N cF,.slice (some ⟨gT,0,none⟩) N cT] 61 (0,0)))
 clear hw0
 go_enter Try.func132,Try.ntmps132
 go_wp2_with (first|(at_make;refine wpList_make_full _ rfl _ _ 46 rfl (w.heap.size+1) 3 i2 (.int .i64 0) 1 Try.underlying46 hk hx0 hx1 .i64 .i64 _ _ N rfl rfl rfl rfl (by rw[hx2];omega) (by unfold maxLen;omega) (by simp) ?_;intro w1 hrow hg1;refine Hid.out ?_))
 refine Lib.hid ?_
 rw[<-HW0.out]at hrow hg1
 rw[made_zeroN,hs0,labTo_zero]at hrow
 have HP0:Hid (UnAt w N #[.slice a C.length cap,.int .i64 loops,.slice (some ⟨gF,0,none⟩) N cF,.slice (some ⟨gT,0,none⟩) N cT] (labTo N 0) w1):=⟨(hg1.block _ (by omega) (by simp)).trans HT0.out,hrow,HB0.out.grown hg1 (by omega) (fun k hk=>by cases hk)⟩
 clear hrow hg1 HT0 HB0 hs0 HW0
 go_wp2
 go_loopw [19] (fun v5 wr=>∃ i:Nat,i<=N/\v5=.int .i64 (i:Nat)/\Hid (UnAt w N #[.slice a C.length cap,.int .i64 loops,.slice (some ⟨gF,0,none⟩) N cF,.slice (some ⟨gT,0,none⟩) N cT] (labTo N i) wr)) (fun v5 _=>N-(intOf v5).toNat)
 case atStart=>exact⟨0,Nat.zero_le _,rfl,HP0.out⟩
 case round=>
  clear HP0
  rename World=>W1
  obtain⟨i,hin,rfl,hp⟩:=hrel
  have hlt:=hp.out.lt
  by_cases hil:i<N
  · have HST:Hid (UnAt w N #[.slice a C.length cap,.int .i64 loops,.slice (some ⟨gF,0,none⟩) N cF,.slice (some ⟨gT,0,none⟩) N cT] (labTo N (i+1)) (W1.setCell ⟨w.heap.size+1,i,none⟩ (.int .i64 (i:Nat)))):=hp.out.set (labTo_next N i)
    have e0:=hp.out.at_ (by simp[labTo]) i hil
    have z0:=hp.out.fz i
    generalize (labTo N i).getD i 0=u at e0
    go_wp2
    go_roundw
    case rel=>exact⟨i+1,by omega,by go_num,HST.out⟩
    case measure=>simp only[intOf];omega
  · obtain rfl:N=i:=by omega
    have HP1:Hid (UnAt w N #[.slice a C.length cap,.int .i64 loops,.slice (some ⟨gF,0,none⟩) N cF,.slice (some ⟨gT,0,none⟩) N cT] (mers (List.range N) (uTo C (nx C) G 0)) W1):=(by have h:=hp.out;rw[labTo_all]at h;exact h:UnAt w N #[.slice a C.length cap,.int .i64 loops,.slice (some ⟨gF,0,none⟩) N cF,.slice (some ⟨gT,0,none⟩) N cT] (mers (List.range N) (uTo C (nx C) G 0)) W1)
    have hdn:decide ((N:Int)<(N:Int))=false:=by simp
    have hdn2:decide (N<N)=false:=by simp
    clear hp
    go_wp2
    go_loopw [9] (fun v9 wr=>∃ k:Nat,k<N/\v9=.int .i64 ((k+1:Nat):Int)/\Hid (UnAt w N #[.slice a C.length cap,.int .i64 loops,.slice (some ⟨gF,0,none⟩) N cF,.slice (some ⟨gT,0,none⟩) N cT] (mers (List.range N) (uTo C (nx C) G k)) wr)) (fun v9 _=>N+1-(intOf v9).toNat)
    case atStart=>exact⟨0,by omega,rfl,HP1.out⟩
    case round=>
     clear HP1
     rename World=>W2
     obtain⟨k,hkN,rfl,hp⟩:=hrel
     obtain⟨x,hxk⟩:∃ x,x=k+1:=⟨_,rfl⟩
     have HXK:Hid (x=k+1):=hxk
     rw[<-hxk]
     have hx1':1<=x:=by omega
     have hxN1:x<=N:=by omega
     have HLL:Hid ((mers (List.range N) (uTo C (nx C) G k)).length=N):=(by rw[mers_len];simp:(mers (List.range N) (uTo C (nx C) G k)).length=N)
     have HLV:Hid (mers (List.range N) (uTo C (nx C) G x)=if toC C x∈G then mer (mers (List.range N) (uTo C (nx C) G k)) x (nx C x) else mers (List.range N) (uTo C (nx C) G k)):=(by rw[hxk];exact mers_uTo C (nx C) G _ k:mers (List.range N) (uTo C (nx C) G x)=if toC C x∈G then mer (mers (List.range N) (uTo C (nx C) G k)) x (nx C x) else mers (List.range N) (uTo C (nx C) G k))
     have HDN : Hid (x = N → mers (List.range N) (uTo C (nx C) G k) = uniM C (nx C) G) := (fun e => by unfold uniM; rw [← HN.out]; have : k = 2 * C.length := by have := HN.out; omega
                                                                                                       rw [this] : x = N → mers (List.range N) (uTo C (nx C) G k) = uniM C (nx C) G)
     clear hxk
     obtain⟨L,hL⟩:∃ L,mers (List.range N) (uTo C (nx C) G k)=L:=⟨_,rfl⟩
     rw[hL]at HLL HLV HDN hp
     clear hL hkN
     have HP:Hid (UnAt w N #[.slice a C.length cap,.int .i64 loops,.slice (some ⟨gF,0,none⟩) N cF,.slice (some ⟨gT,0,none⟩) N cT] L W2):=hp.out
     have hs2:=hp.out.bel.size
     have hbx:=hp.out.box
     have t0:W2.cell? ⟨w.heap.size,0,none⟩=some (.slice a C.length cap):=QQ0 hbx rfl
     have t1:W2.cell? ⟨w.heap.size,1,none⟩=some (.int .i64 loops):=QQ0 hbx rfl
     have t2:W2.cell? ⟨w.heap.size,2,none⟩=some (.slice (some ⟨gF,0,none⟩) N cF):=QQ0 hbx rfl
     have t3:W2.cell? ⟨w.heap.size,3,none⟩=some (.slice (some ⟨gT,0,none⟩) N cT):=QQ0 hbx rfl
     have lt2:w.heap.size<W2.heap.size:=(Array.getElem?_eq_some_iff.1 hbx).1
     clear hbx hp
     by_cases hxl:x<N
     · have HHB:Hid (hasB C (x:Int)=true):=(by have:=HN.out;simp[hasB];omega:hasB C (x:Int)=true)
       have hx2':x<=2*C.length:=by have:=HN.out;omega
       go_wp2_with (go_at_call 104;refine(HHS.out x _).mono ?_;rw[HHB.out];rintro e9 w3 ⟨rfl,hb3⟩;refine Hid.out ?_)
       refine Lib.hid ?_
       have HP3:Hid (UnAt w N #[.slice a C.length cap,.int .i64 loops,.slice (some ⟨gF,0,none⟩) N cF,.slice (some ⟨gT,0,none⟩) N cT] L w3):=HP.out.on hb3
       have hs3:=HP3.out.bel.size
       have HTO:=(HD.out.on HP3.out.bel).toAt HM.out x hx1' hx2'
       have c3:w3.cell? ⟨w.heap.size,3,none⟩=some (.slice (some ⟨gT,0,none⟩) N cT):=QQ0 HP3.out.box rfl
       have c4:=HTO.1
       have HG3:Hid (GonAt w3 bG G):=HG.out.on HP3.out.bel
       have lt3:w.heap.size<w3.heap.size:=(Array.getElem?_eq_some_iff.1 HP3.out.box).1
       have hgT:gT<w3.heap.size:=(HD.out.on HP3.out.bel).ltT
       clear hb3 HTO t0 t1 t2 t3
       by_cases hg:toC C x∈G
       · have HH:Hid (hasG G (toC C x:Nat)=true):=(by rw[hasG_nat];simpa using hg:hasG G (toC C x:Nat)=true)
         rw[if_pos hg]at HLV
         clear hg
         go_wp2_with (go_at_call 133;refine(QW9 bG 0 cG G _ _ (by omega) HG3.out.1 HG3.out.2).mono ?_;rw[HH.out];rintro e9 w4 ⟨rfl,hb4⟩;refine Hid.out ?_)
         refine Lib.hid ?_
         have HP4:Hid (UnAt w N #[.slice a C.length cap,.int .i64 loops,.slice (some ⟨gF,0,none⟩) N cF,.slice (some ⟨gT,0,none⟩) N cT] L w4):=HP3.out.on hb4
         clear hb4 c3 c4
         have HD4:Hid (∀ W,Below w4.heap.size w4 W->Dr W a cap C gF gT):=fun W hW=>HD.out.on (HP4.out.on hW).bel
         have HD1:Hid (Below w4.heap.size w4 w4.drew):=(Below.refl _ _).drew
         have hsxc:=nx_closed HM.out x hx1' hx2'
         obtain⟨y,hy⟩:∃ y,nx C x=y:=⟨_,rfl⟩
         have HY:Hid (nx C x=y):=hy
         rw[hy]at hsxc HLV
         have hyN:y<N:=by have:=HN.out;omega
         clear hy
         obtain⟨p,hpx⟩:∃ p,L.getD x 0=p:=⟨_,rfl⟩
         obtain⟨q,hqx⟩:∃ q,L.getD y 0=q:=⟨_,rfl⟩
         have HPQ:Hid (L.getD x 0=p/\L.getD y 0=q):=⟨hpx,hqx⟩
         have HQ:Hid (∀ W,Below w4.heap.size w4 W->W.cell? ⟨w.heap.size+1,x,none⟩=some (.int .i64 (p:Nat))/\W.cell? ⟨w.heap.size+1,y,none⟩=some (.int .i64 (q:Nat))):=fun W hW=>by
          have h:=HP4.out.on hW
          exact⟨by rw[h.at_ HLL.out x hxl,HPQ.out.1],by rw[h.at_ HLL.out y hyN,HPQ.out.2]⟩
         clear hpx hqx
         have ix0:(0:Int)<=(x:Int):=by omega
         have ix1:(x:Int)<(N:Int):=by omega
         have iy0:(0:Int)<=(y:Int):=by omega
         have iy1:(y:Int)<(N:Int):=by omega
         go_wp2
         go_region_held3 (fun w'=>w'.cell? ⟨w.heap.size+1,x,none⟩=some (.int .i64 (p:Nat))/\w'.cell? ⟨w.heap.size+1,y,none⟩=some (.int .i64 (q:Nat))) (first|exact HQ.out _ HZ.out|exact HQ.out _ HD1.out|exact HQ.out _ (Below.refl _ _)) (first|(go_at_call 97;refine(HAS.out x _ hx1' hx2' (HD4.out _ HD1.out)).mono ?_;rw[HY.out];rintro e9 w5 ⟨rfl,hb5⟩;have HZ:Hid (Below w4.heap.size w4 w5):=HD1.out.trans (hb5.mono HD1.out.size);clear hb5))
         have HP5:Hid (UnAt w N #[.slice a C.length cap,.int .i64 loops,.slice (some ⟨gF,0,none⟩) N cF,.slice (some ⟨gT,0,none⟩) N cT] (merTo L x y 0) w5):=(by rw[merTo_zero];exact HP4.out.on HZ.out:UnAt w N #[.slice a C.length cap,.int .i64 loops,.slice (some ⟨gF,0,none⟩) N cF,.slice (some ⟨gT,0,none⟩) N cT] (merTo L x y 0) w5)
         obtain⟨lo,hlo⟩:∃ lo,min p q=lo:=⟨_,rfl⟩
         obtain⟨hi,hhi⟩:∃ hi,max p q=hi:=⟨_,rfl⟩
         have E1:(if q<p then(q:Int) else(p:Int))=(lo:Int):=by rw[<-hlo];split<;>omega
         have E2:(if p<q then(q:Int) else(p:Int))=(hi:Int):=by rw[<-hhi];split<;>omega
         have HLH:Hid (min p q=lo/\max p q=hi):=⟨hlo,hhi⟩
         clear hlo hhi
         have HME:Hid (∀ v,v<N->(mer L x y).getD v 0=if L.getD v 0=hi then lo else L.getD v 0):=fun v hv=>by rw[mer_at L x y v (by rw[HLL.out];exact hv),HPQ.out.1,HPQ.out.2,HLH.out.1,HLH.out.2]
         have hdx:decide ((x:Int)<(N:Int))=true:=by simp;omega
         clear HP HP3 HP4 HQ HD4 HD1 HZ HPQ HLH HG3
         go_wp2
         go_loopw [53] (fun v53 wr=>∃ j:Nat,j<=N/\v53=.int .i64 (j:Nat)/\Hid (UnAt w N #[.slice a C.length cap,.int .i64 loops,.slice (some ⟨gF,0,none⟩) N cF,.slice (some ⟨gT,0,none⟩) N cT] (merTo L x y j) wr)) (fun v53 _=>N-(intOf v53).toNat)
         case atStart=>exact⟨0,Nat.zero_le _,rfl,HP5.out⟩
         case round=>
          clear HP5
          rename World=>W3
          obtain⟨j,hjn,rfl,hq⟩:=hrel
          have hg3:=hq.out.lt
          by_cases hjl:j<N
          · have f0:W3.cell? ⟨w.heap.size+1,j,none⟩=some (.int .i64 (L.getD j 0:Nat)):=by
              rw[hq.out.at_ (by rw[QW2,HLL.out]) j hjl,merTo_at _ _ _ _ _ (by rw[HLL.out];exact hjl),if_neg (by omega)]
            obtain⟨z,hz⟩:∃ z,L.getD j 0=z:=⟨_,rfl⟩
            have HZ:Hid (L.getD j 0=z):=hz
            rw[hz]at f0
            clear hz
            by_cases hzh:z=hi
            · subst hzh
              have HST:Hid (UnAt w N #[.slice a C.length cap,.int .i64 loops,.slice (some ⟨gF,0,none⟩) N cF,.slice (some ⟨gT,0,none⟩) N cT] (merTo L x y (j+1)) (W3.setCell ⟨w.heap.size+1,j,none⟩ (.int .i64 (lo:Nat)))):=hq.out.set (merTo_next L x y j lo (by rw[HLL.out];exact hjl) (by rw[HME.out j hjl,HZ.out,if_pos rfl]))
              have z0:=hq.out.fz j
              have hzz:((z:Int)==(z:Int))=true:=by simp
              go_wp2
              go_roundw
              case rel=>exact⟨j+1,by omega,by go_num,HST.out⟩
              case measure=>simp only[intOf];omega
            · have hzz:((z:Int)==(hi:Int))=false:=by simp;omega
              have hzz2:(z==hi)=false:=by simp;omega
              have HST:Hid (UnAt w N #[.slice a C.length cap,.int .i64 loops,.slice (some ⟨gF,0,none⟩) N cF,.slice (some ⟨gT,0,none⟩) N cT] (merTo L x y (j+1)) W3):=(by rw[<-merTo_same L x y j (by rw[HLL.out];exact hjl) (by rw[HME.out j hjl,HZ.out,if_neg hzh])];exact hq.out:UnAt w N #[.slice a C.length cap,.int .i64 loops,.slice (some ⟨gF,0,none⟩) N cF,.slice (some ⟨gT,0,none⟩) N cT] (merTo L x y (j+1)) W3)
              go_wp2
              go_roundw
              case rel=>exact⟨j+1,by omega,by go_num,HST.out⟩
              case measure=>simp only[intOf];omega
          · obtain rfl:N=j:=by omega
            have HST:Hid (UnAt w N #[.slice a C.length cap,.int .i64 loops,.slice (some ⟨gF,0,none⟩) N cF,.slice (some ⟨gT,0,none⟩) N cT] (mers (List.range N) (uTo C (nx C) G x)) W3):=(by have h:=hq.out;rw[<-HLL.out,merTo_all,HLL.out]at h;rw[HLV.out];exact h:UnAt w N #[.slice a C.length cap,.int .i64 loops,.slice (some ⟨gF,0,none⟩) N cF,.slice (some ⟨gT,0,none⟩) N cT] (mers (List.range N) (uTo C (nx C) G x)) W3)
            clear hq
            go_wp2
            go_roundw
            case rel=>exact⟨x,hxl,by go_num,HST.out⟩
            case measure=>simp only[intOf];omega
       · have HH:Hid (hasG G (toC C x:Nat)=false):=(by rw[hasG_nat];simpa using hg:hasG G (toC C x:Nat)=false)
         rw[if_neg hg]at HLV
         clear hg
         go_wp2_with (go_at_call 133;refine(QW9 bG 0 cG G _ _ (by omega) HG3.out.1 HG3.out.2).mono ?_;rw[HH.out];rintro e9 w4 ⟨rfl,hb4⟩;refine Hid.out ?_)
         refine Lib.hid ?_
         have HST:Hid (UnAt w N #[.slice a C.length cap,.int .i64 loops,.slice (some ⟨gF,0,none⟩) N cF,.slice (some ⟨gT,0,none⟩) N cT] (mers (List.range N) (uTo C (nx C) G x)) w4):=(by rw[HLV.out];exact HP3.out.on hb4:UnAt w N #[.slice a C.length cap,.int .i64 loops,.slice (some ⟨gF,0,none⟩) N cF,.slice (some ⟨gT,0,none⟩) N cT] (mers (List.range N) (uTo C (nx C) G x)) w4)
         clear hb4 c3 c4
         go_wp2
         go_roundw
         case rel=>exact⟨x,hxl,by go_num,HST.out⟩
         case measure=>simp only[intOf];omega
     · obtain rfl:N=x:=by omega
       have HDE:Hid (L=uniM C (nx C) G):=HDN.out rfl
       clear HDN
       have HHB:Hid (hasB C (N:Int)=false):=(by have:=HN.out;simp[hasB];omega:hasB C (N:Int)=false)
       go_wp2_with (go_at_call 104;refine(HHS.out N _).mono ?_;rw[HHB.out];rintro e9 w3 ⟨rfl,hb3⟩;refine Hid.out ?_)
       refine Lib.hid ?_
       have HP3:Hid (UnAt w N #[.slice a C.length cap,.int .i64 loops,.slice (some ⟨gF,0,none⟩) N cF,.slice (some ⟨gT,0,none⟩) N cT] (uniM C (nx C) G) w3):=(by rw[<-HDE.out];exact HP.out.on hb3:UnAt w N #[.slice a C.length cap,.int .i64 loops,.slice (some ⟨gF,0,none⟩) N cF,.slice (some ⟨gT,0,none⟩) N cT] (uniM C (nx C) G) w3)
       clear hb3
       go_wp2
       go_ret
       exact⟨_,rfl,QX4 HP3.out.row (by omega),HP3.out.bel⟩
end Go.Proofs.Ytagaajlbkfkaiaa
/- The walk of ref.level. -/
namespace Go.Proofs.Ytagaajlbkfkaiaa
open Go.RowKit
end Go.Proofs.Ytagaajlbkfkaiaa
/- Plain mathematics: Euler's number of a piece is even and at most two. -/
namespace Go.Proofs.Ytagaajlbkfkaiaa
theorem rq_eq (W:List Nat) (Q:Nat->Bool):∀ k,rq W Q k=(List.range k).countP fun v=>decide (W.getD v 0=v)&&Q v:=by
 intro k
 induction k with
 |zero=>rfl
 |succ k ih=>
  rw[List.range_succ,List.countP_append,List.countP_singleton,<-ih]
  simp only[rq,Bool.and_eq_true,decide_eq_true_eq]
theorem Bij.onto {f:Nat->Nat} {M:Nat} (h:Bij f M) {y:Nat} (hy:y<M):∃ x,x<M/\f x=y:=by
 obtain⟨p,h0,hp⟩:=period h hy
 refine⟨it f (p-1) y,it_lt h hy _,?_⟩
 have e:it f (p-1+1) y=f (it f (p-1) y):=rfl
 rw[<-e,show p-1+1=p by omega,hp]
theorem cnt_perm {r:Nat->Nat} {M:Nat} (h:Bij r M) (P:Nat->Bool):(List.range M).countP (fun q=>P (r q))=(List.range M).countP P:=by
 have hp:((List.range M).map r).Perm (List.range M):=by
  refine(List.perm_ext_iff_of_nodup ?_ List.nodup_range).2 fun y=>?_
  · unfold List.Nodup
    rw[List.pairwise_map]
    refine List.Pairwise.imp_of_mem ?_ (List.nodup_range (n:=M))
    intro a b ha hb hne e
    exact hne (h.inj a b (List.mem_range.1 ha) (List.mem_range.1 hb) e)
  · rw[List.mem_map]
    constructor
    · rintro⟨x,hx,rfl⟩
      exact List.mem_range.2 (h.lt x (List.mem_range.1 hx))
    · intro hy
      obtain⟨x,hx,e⟩:=h.onto (List.mem_range.1 hy)
      exact⟨x,List.mem_range.2 hx,e⟩
 rw[<-hp.countP_eq P,List.countP_map]
 rfl
theorem cnt_by4 {h Qc:Nat->Bool} {c:Nat} (n:Nat) (e:∀ k,k<n->(if h (4*k)=true then 1 else 0)+(if h (4*k+1)=true then 1 else 0)+(if h (4*k+2)=true then 1 else 0)+(if h (4*k+3)=true then 1 else 0)=if Qc k=true then c else 0):(List.range (4*n)).countP h=c*(List.range n).countP Qc:=by
 induction n with
 |zero=>rfl
 |succ n ih=>
  have e1:=e n (by omega)
  have e2:=ih fun k hk=>e k (by omega)
  rw[show 4*(n+1)=4*n+1+1+1+1 by omega]
  simp only[List.range_succ,List.countP_append,List.countP_singleton]
  rw[e2]
  by_cases hq:Qc n=true
  · rw[if_pos hq]at e1 ⊢
    rw[Nat.mul_add]
    omega
  · rw[if_neg hq]at e1 ⊢
    rw[show List.countP Qc (List.range n)+0=List.countP Qc (List.range n) from rfl]
    omega
theorem cnt_up1 (P:Nat->Bool) (M:Nat) (h:P 0=false):(List.range (M+1)).countP P=(List.range M).countP fun i=>P (i+1):=by
 rw[List.range_succ_eq_map,List.countP_cons,List.countP_map,h]
 simp only[Bool.false_eq_true,if_false,Nat.add_zero]
 rfl
def al (j:Nat):Nat:=mkD (dA j) (!dB j)
def lvC (C:List Cr) (j:Nat):Nat:=enC C (dA j) (dB j)
def pd (C:List Cr) (q:Nat):Nat:=mkD (aAt C (q / 4) (q%4)) ((C.getD (q / 4) Cr.none).comes (q%4))
theorem QW5 {j n:Nat} (h1:1<=j) (h2:j<=4*n):1<=al j/\al j<=4*n/\dA (al j)=dA j/\dB (al j)=!dB j:=by
 have h:=dA_le h1 h2
 have g:=mk_le (p:=!dB j) h.1 h.2
 exact⟨g.1,g.2,dA_mk h.1,dB_mk h.1⟩
theorem al_odd (i:Nat):al (2*i+1)=2*i+2:=by
 unfold al dA dB mkD
 simp only[show(2*i+1)%2=1 by omega,show(2*i+1+1) / 2=i+1 by omega]
 simp
 omega
theorem al_even (i:Nat):al (2*i+2)=2*i+1:=by
 unfold al dA dB mkD
 simp only[show(2*i+2)%2=0 by omega,show(2*i+2+1) / 2=i+1 by omega]
 simp
 omega
theorem al_al {j:Nat} (h1:1<=j):al (al j)=j:=by
 by_cases h:j%2=1
 · obtain⟨i,rfl⟩:∃ i,j=2*i+1:=⟨j / 2,by omega⟩
   rw[al_odd,al_even]
 · obtain⟨i,rfl⟩:∃ i,j=2*i+2:=⟨j / 2 - 1,by omega⟩
   rw[al_even,al_odd]
theorem dC_al {C:List Cr} {j:Nat} (h1:1<=j) (h2:j<=4*C.length):dC C (al j)=lvC C j/\dS C (al j)=enS C (dA j) (dB j):=by
 obtain⟨-,-,a1,a2⟩:=QW5 h1 h2
 unfold dC dS lvC
 rw[a1,a2,Bool.not_not]
 exact⟨rfl,rfl⟩
theorem lv_fd {C:List Cr} {loops:Int} (hm:mayD C loops=true) {j:Nat} (h1:1<=j) (h2:j<=4*C.length):lvC C (fd C j)=dC C j:=by
 obtain⟨e1,e2,-⟩:=fd_may hm j h1 h2
 obtain⟨-,h3,h4⟩:=d_may hm j h1 h2
 have h:=(QW3 hm (dC C j) ((dS C j+3)%4) h3 (Nat.mod_lt _ (by decide))).1
 unfold aAt at h
 rw[e1,e2,Int.toNat_natCast]at h
 exact h
theorem lv_lt {C:List Cr} {loops:Int} (hm:mayD C loops=true) {j:Nat} (h1:1<=j) (h2:j<=4*C.length):lvC C j<C.length:=by
 have h:=dA_le h1 h2
 exact(QJ9 hm (dA j) (dB j) h.1 h.2).2.1
theorem lv_dC {C:List Cr} {j:Nat} (h1:1<=j) (h2:j<=4*C.length):Con (arcE C) (lvC C j) (dC C j):=by
 have h:=dA_le h1 h2
 have e:=Con.edge (mem_arcE (C:=C) h.1 h.2)
 unfold lvC dC
 cases dB j
 · exact e.symm
 · exact e
theorem pd_at {C:List Cr} {loops:Int} (hm:mayD C loops=true) (k s:Nat) (hk:k<C.length) (hs:s<4):pd C (4*k+s)=mkD (aAt C k s) ((C.getD k Cr.none).comes s)/\lvC C (pd C (4*k+s))=k/\enS C (dA (pd C (4*k+s))) (dB (pd C (4*k+s)))=s/\1<=pd C (4*k+s)/\pd C (4*k+s)<=4*C.length:=by
 have e:pd C (4*k+s)=mkD (aAt C k s) ((C.getD k Cr.none).comes s):=by
  unfold pd
  rw[show(4*k+s) / 4=k by omega,show(4*k+s)%4=s by omega]
 have h:=QW3 hm k s hk hs
 unfold lvC
 rw[e,dA_mk h.2.2.1,dB_mk h.2.2.1]
 have g:=mk_le (p:=(C.getD k Cr.none).comes s) h.2.2.1 h.2.2.2
 exact⟨rfl,h.1,h.2.1,g.1,g.2⟩
theorem pd_sig {C:List Cr} {loops:Int} (hm:mayD C loops=true) (k s:Nat) (hk:k<C.length) (hs:s<4):fd C (al (pd C (4*k+s)))=pd C (4*k+(s+3)%4):=by
 obtain⟨-,h1,h2,h3,h4⟩:=pd_at hm k s hk hs
 obtain⟨a1,a2⟩:=dC_al (C:=C) h3 h4
 rw[(pd_at hm k ((s+3)%4) hk (Nat.mod_lt _ (by decide))).1]
 unfold fd
 rw[a1,a2,h1,h2]
 rfl
theorem pd_bij {C:List Cr} {loops:Int} (hm:mayD C loops=true):Bij (fun q=>pd C q-1) (4*C.length):=by
 have hb:∀ q,q<4*C.length->∃ k s,k<C.length/\s<4/\q=4*k+s:=fun q hq=>⟨q / 4,q%4,by omega,by omega,by omega⟩
 refine⟨fun q hq=>?_,fun q r hq hr e=>?_⟩
 · obtain⟨k,s,hk,hs,rfl⟩:=hb q hq
   obtain⟨-,-,-,h3,h4⟩:=pd_at hm k s hk hs
   show pd C (4*k+s)-1<_
   omega
 · obtain⟨k,s,hk,hs,rfl⟩:=hb q hq
   obtain⟨k',s',hk',hs',rfl⟩:=hb r hr
   obtain⟨-,h1,h2,h3,h4⟩:=pd_at hm k s hk hs
   obtain⟨-,g1,g2,g3,g4⟩:=pd_at hm k' s' hk' hs'
   have e1:pd C (4*k+s)=pd C (4*k'+s'):=by
    have e':pd C (4*k+s)-1=pd C (4*k'+s')-1:=e
    omega
   rw[e1]at h1 h2
   have:k=k':=by rw[<-h1,g1]
   have:s=s':=by rw[<-h2,g2]
   omega
theorem cnt_darts {C:List Cr} {loops:Int} (hm:mayD C loops=true) {P Qc:Nat->Bool} {c:Nat} (h0:P 0=false)
    (e:∀ k,k<C.length->(if P (pd C (4*k))=true then 1 else 0)+(if P (pd C (4*k+1))=true then 1 else 0)+(if P (pd C (4*k+2))=true then 1 else 0)+(if P (pd C (4*k+3))=true then 1 else 0)=if Qc k=true then c else 0):
    (List.range (4*C.length+1)).countP P=c*(List.range C.length).countP Qc:=by
 rw[cnt_up1 P _ h0,<-cnt_perm (pd_bij hm) fun i=>P (i+1),<-cnt_by4 (h:=fun q=>P (pd C q)) C.length e]
 refine List.countP_congr fun q hq=>?_
 have hq:=List.mem_range.1 hq
 have h:=pd_at hm (q / 4) (q%4) (by omega) (by omega)
 rw[show 4*(q / 4)+q%4=q by omega]at h
 rw[show pd C q-1+1=pd C q by omega]
end Go.Proofs.Ytagaajlbkfkaiaa
/- Plain mathematics: rings and pieces where a crossing, or two, are passed straight. -/
namespace Go.Proofs.Ytagaajlbkfkaiaa
def cyA (f:Nat->Nat) (M:Nat):Nat:=cyN f M fun _=>true
theorem cyA_join {f:Nat->Nat} {M:Nat} (h:Bij f M) {a b:Nat} (ha:a<M) (hb:b<M) (hn:¬ Con (eds f M) a b):cyA (tr f a b) M+1=cyA f M:=by
 have:=cyN_join h (fun _=>true) ha hb hn (fun _ _ _ _=>rfl) rfl
 rw[if_pos rfl]at this
 exact this
theorem cyA_part {f:Nat->Nat} {M:Nat} (h:Bij f M) {a b:Nat} (ha:a<M) (hb:b<M) (hne:a≠b) (hc:Con (eds f M) a b):cyA f M+1=cyA (tr f a b) M:=by
 have:=cyN_part h (fun _=>true) ha hb hne hc (fun _ _ _ _=>rfl)
 rw[if_pos rfl]at this
 exact this
theorem cyA_congr {f g:Nat->Nat} {M:Nat} (e:∀ x,x<M->f x=g x):cyA f M=cyA g M:=cyN_congr e _
theorem cyA_del {f:Nat->Nat} {M:Nat} (h:Bij f M) {w z:Nat} (hw:w<M) (e:f w=z) (hne:w≠z):cyA f M+1=cyA (tr f w z) M:=
 cyA_part h hw (e▸h.lt w hw) hne (e▸con_f hw)
theorem QJ6 {f:Nat->Nat} {M:Nat} (h:Bij f M) {w z:Nat} (hw:w<M) (hz:z<M) (e:f z=z) (hne:w≠z):cyA (tr f w z) M+1=cyA f M:=by
 refine cyA_join h hw hz fun hc=>hne ?_
 have hS:Closed (eds f M) fun y=>y=z:=closed_eds.2 fun i hi=>by
  constructor
  · intro q;rw[q];exact e
  · intro q;exact h.inj i z hi hz (by rw[q,e])
 exact hc.symm _ hS rfl
theorem rootT_iff {E:List (Nat×Nat)} {n:Nat} {W:List Nat} (h:Least E n W) {v:Nat} (hv:v<n):W.getD v 0=v↔∀ u,Con E v u->v<=u:=by
 constructor
 · intro e u hu
   have:=(h.2 v hv).2 u hu
   omega
 · intro q
   have h1:=q _ (h.2 v hv).1
   have h2:=h.le hv
   omega
def kN (E:List (Nat×Nat)) (M:Nat):Nat:=rq (levR (List.range M) E M) (fun _=>true) M
theorem kN_le {E F:List (Nat×Nat)} {M:Nat} (hE:∀ e,e∈E->e.1<M/\e.2<M) (hF:∀ e,e∈F->e.1<M/\e.2<M) (h:∀ x y,Con E x y->Con F x y):kN F M<=kN E M:=by
 have lE:=QZ9 hE M (Nat.le_refl _)
 have lF:=QZ9 hF M (Nat.le_refl _)
 unfold kN
 rw[rq_eq,rq_eq]
 refine List.countP_mono_left fun v hv q=>?_
 have hv:=List.mem_range.1 hv
 simp only[Bool.and_true,decide_eq_true_eq]at q ⊢
 exact(rootT_iff lE hv).2 fun u hu=>(rootT_iff lF hv).1 q u (h _ _ hu)
theorem kN_edge {E:List (Nat×Nat)} {M:Nat} (hE:∀ e,e∈E->e.1<M/\e.2<M) {a b:Nat} (ha:a<M) (hb:b<M):kN E M<=kN (E++[(a,b)]) M+1:=by
 have lE:=QZ9 hE M (Nat.le_refl _)
 have hF:∀ e,e∈E++[(a,b)]->e.1<M/\e.2<M:=fun e he=>by
  rcases List.mem_append.1 he with he|he
  · exact hE e he
  · rw[List.mem_singleton.1 he];exact⟨ha,hb⟩
 have lF:=QZ9 hF M (Nat.le_refl _)
 have em:=lF.eq (mer_least lE a b ha hb hE)
 unfold kN
 rw[em]
 by_cases hne:(levR (List.range M) E M).getD a 0=(levR (List.range M) E M).getD b 0
 · rw[mer_same hne];omega
 · have:=rq_mer lE (fun _=>true) ha hb hne M (Nat.le_refl _)
   have q:=Nat.le_refl (rq (levR (List.range M) E M) (fun _=>true) M)
   split at this<;>omega
def edb (f a:Nat->Nat) (M:Nat):List (Nat×Nat):=eds f M++eds a M
theorem edb_lt {f a:Nat->Nat} {M:Nat} (hf:∀ x,x<M->f x<M) (ha:∀ x,x<M->a x<M):∀ e,e∈edb f a M->e.1<M/\e.2<M:=fun e he=>by
 rcases List.mem_append.1 he with he|he
 · exact eds_lt hf e he
 · exact eds_lt ha e he
theorem closed_edb {f a:Nat->Nat} {M:Nat} {S:Nat->Prop}:Closed (edb f a M) S↔(∀ i,i<M->(S i↔S (f i)))/\∀ i,i<M->(S i↔S (a i)):=by
 constructor
 · intro h
   exact⟨closed_eds.1 fun e he=>h e (List.mem_append_left _ he),closed_eds.1 fun e he=>h e (List.mem_append_right _ he)⟩
 · rintro⟨h1,h2⟩ e he
   rcases List.mem_append.1 he with he|he
   · exact closed_eds.2 h1 e he
   · exact closed_eds.2 h2 e he
structure CurlG (f g al:Nat->Nat) (M P Q U V:Nat):Prop where
 bf:Bij f M
 la:∀ x,x<M->al x<M
 lp:P<M
 lq:Q<M
 lu:U<M
 lv:V<M
 pq:P≠Q
 pu:P≠U
 pv:P≠V
 qu:Q≠U
 qv:Q≠V
 uv:U≠V
 aq:al P=Q
 fp:f P=P
 fq:f Q=al V
 fu:f U=Q
 fv:f V=al U
 gp:g P=al V
 gq:g Q=al U
 gu:g U=P
 gv:g V=Q
 go:∀ x,x<M->x≠P->x≠Q->x≠U->x≠V->g x=f x
theorem CurlG.count {f g al:Nat->Nat} {M P Q U V:Nat} (h:CurlG f g al M P Q U V):cyA g M+1=cyA f M:=by
 have b1:=h.bf.tr h.lu h.lq
 have c1:=cyA_del h.bf h.lu h.fu (Ne.symm h.qu)
 have e1:tr f U Q P=P:=by rw[tr_o f h.pu h.pq,h.fp]
 have c2:=QJ6 b1 h.lu h.lp e1 (Ne.symm h.pu)
 have b2:=b1.tr h.lu h.lp
 have e2:tr (tr f U Q) U P Q=Q:=by rw[tr_o _ h.qu (Ne.symm h.pq),tr_b,h.fu]
 have c3:=QJ6 b2 h.lv h.lq e2 (Ne.symm h.qv)
 have e:cyA (tr (tr (tr f U Q) U P) V Q) M=cyA g M:=cyA_congr fun x hx=>by
  by_cases x1:x=P
  · rw[x1,tr_o _ h.pv h.pq,tr_b,tr_a,h.fq,h.gp]
  · by_cases x2:x=Q
    · rw[x2,tr_b,tr_o _ (Ne.symm h.uv) (Ne.symm h.pv),tr_o _ (Ne.symm h.uv) (Ne.symm h.qv),h.fv,h.gq]
    · by_cases x3:x=U
      · rw[x3,tr_o _ h.uv (Ne.symm h.qu),tr_a,e1,h.gu]
      · by_cases x4:x=V
        · rw[x4,tr_a,e2,h.gv]
        · rw[tr_o _ x4 x2,tr_o _ x3 x1,tr_o _ x3 x2,h.go x hx x1 x2 x3 x4]
 omega
theorem CurlG.con {f g al:Nat->Nat} {M P Q U V:Nat} (h:CurlG f g al M P Q U V) (x y:Nat) (hc:Con (edb f al M) x y):Con (edb g al M) x y:=fun S hS=>by
 obtain⟨s1,s2⟩:=closed_edb.1 hS
 refine hc S (closed_edb.2 ⟨fun i hi=>?_,s2⟩)
 have a1:=s1 U h.lu
 have a2:=s2 P h.lp
 have a3:=s1 V h.lv
 have a4:=s2 U h.lu
 have a5:=s2 V h.lv
 rw[h.gu]at a1
 rw[h.aq]at a2
 rw[h.gv]at a3
 by_cases x1:i=P
 · rw[x1,h.fp]
 · by_cases x2:i=Q
   · rw[x2,h.fq,<-a5,<-a3]
   · by_cases x3:i=U
     · rw[x3,h.fu,a1,a2]
     · by_cases x4:i=V
       · rw[x4,h.fv,<-a4,a1,a2,a3]
       · rw[<-h.go i hi x1 x2 x3 x4];exact s1 i hi
end Go.Proofs.Ytagaajlbkfkaiaa
/- Plain mathematics: rings and pieces where the two crossings of a face of two are passed straight. -/
namespace Go.Proofs.Ytagaajlbkfkaiaa
structure PullG (f g al:Nat->Nat) (M X Y XX YY A B K D:Nat):Prop where
 bf:Bij f M
 la:∀ x,x<M->al x<M
 aa:∀ x,x<M->al (al x)=x
 lt:X<M/\Y<M/\XX<M/\YY<M/\A<M/\B<M/\K<M/\D<M
 nd:[X,Y,XX,YY,A,B,K,D].Nodup
 ax:al X=XX
 ay:al Y=YY
 fx:f X=Y
 fy:f Y=X
 fxx:f XX=al B
 fyy:f YY=al K
 fa:f A=YY
 fb:f B=al A
 fk:f K=al D
 fd:f D=XX
 gx:g X=al K
 gy:g Y=al B
 gxx:g XX=al A
 gyy:g YY=al D
 ga:g A=X
 gb:g B=YY
 gk:g K=XX
 gd:g D=Y
 go:∀ x,x<M->x ∉ [X,Y,XX,YY,A,B,K,D]->g x=f x
theorem PullG.count {f g al:Nat->Nat} {M X Y XX YY A B K D:Nat} (h:PullG f g al M X Y XX YY A B K D):cyA g M+1=cyA (tr f B K) M:=by
 obtain⟨lx,ly,lxx,lyy,lA,lB,lK,lD⟩:=h.lt
 have nd:=h.nd
 simp only[List.nodup_cons,List.mem_cons,List.not_mem_nil,or_false,not_or,not_false_eq_true,and_true,List.nodup_nil]at nd
 obtain⟨⟨n1,n2,n3,n4,n5,n6,n7⟩,⟨m1,m2,m3,m4,m5,m6⟩,⟨k1,k2,k3,k4,k5⟩,⟨j1,j2,j3,j4⟩,⟨i1,i2,i3⟩,⟨o1,o2⟩,p1⟩:=nd
 have b1:=h.bf.tr lB lK
 -- D to XX, A to YY, X to Y: taken out
 have e1:tr f B K D=XX:=by rw[tr_o f (Ne.symm o2) (Ne.symm p1),h.fd]
 have c1:=cyA_del b1 lD e1 (Ne.symm k5)
 have b2:=b1.tr lD lxx
 have e2:tr (tr f B K) D XX A=YY:=by rw[tr_o _ i3 (Ne.symm k2),tr_o _ i1 i2,h.fa]
 have c2:=cyA_del b2 lA e2 (Ne.symm j1)
 have b3:=b2.tr lA lyy
 have e3:tr (tr (tr f B K) D XX) A YY X=Y:=by rw[tr_o _ n4 n3,tr_o _ n7 n2,tr_o _ n5 n6,h.fx]
 have c3:=cyA_del b3 lx e3 n1
 have b4:=b3.tr lx ly
 -- they lie alone
 have a1:tr (tr (tr (tr f B K) D XX) A YY) X Y XX=XX:=by rw[tr_o _ (Ne.symm n2) (Ne.symm m1),tr_o _ k2 k1,tr_b,e1]
 have a2:tr (tr (tr (tr f B K) D XX) A YY) X Y YY=YY:=by rw[tr_o _ (Ne.symm n3) (Ne.symm m2),tr_b,e2]
 have a3:tr (tr (tr (tr f B K) D XX) A YY) X Y X=X:=by rw[tr_a,tr_o _ m3 m2,tr_o _ m6 m1,tr_o _ m4 m5,h.fy]
 have a4:tr (tr (tr (tr f B K) D XX) A YY) X Y Y=Y:=by rw[tr_b,e3]
 -- laid behind others
 have c4:=QJ6 b4 lK lxx a1 (Ne.symm k4)
 have b5:=b4.tr lK lxx
 have c5:=QJ6 b5 lB lyy (by rw[tr_o _ j3 (Ne.symm k1),a2]) (Ne.symm j2)
 have b6:=b5.tr lB lyy
 have c6:=QJ6 b6 lA lx (by rw[tr_o _ n5 n3,tr_o _ n6 n2,a3]) (Ne.symm n4)
 have b7:=b6.tr lA lx
 have c7:=QJ6 b7 lD ly (by rw[tr_o _ m3 (Ne.symm n1),tr_o _ m4 m2,tr_o _ m5 m1,a4]) (Ne.symm m6)
 have e:cyA (tr (tr (tr (tr (tr (tr (tr (tr f B K) D XX) A YY) X Y) K XX) B YY) A X) D Y) M=cyA g M:=cyA_congr fun x hx=>by
  by_cases x1:x=X
  · rw[x1,h.gx,tr_o _ n7 n1,tr_b,tr_o _ i1 (Ne.symm j1),tr_o _ i2 (Ne.symm k2),tr_o _ (Ne.symm n4) (Ne.symm m3),tr_a,tr_o _ j4 (Ne.symm k1),tr_o _ j2 j3,h.fyy]
  by_cases x2:x=Y
  · rw[x2,h.gy,tr_b,tr_o _ (Ne.symm i3) (Ne.symm n7),tr_o _ (Ne.symm o2) (Ne.symm j4),tr_o _ (Ne.symm p1) (Ne.symm k5),tr_o _ (Ne.symm n7) (Ne.symm m6),tr_o _ (Ne.symm i3) (Ne.symm j4),tr_a,tr_o _ k3 k4,h.fxx]
  by_cases x3:x=XX
  · rw[x3,h.gxx,tr_o _ k5 (Ne.symm m1),tr_o _ k2 (Ne.symm n2),tr_o _ k3 k1,tr_b,tr_o _ (Ne.symm n6) (Ne.symm m5),tr_o _ (Ne.symm i2) (Ne.symm j3),tr_o _ p1 (Ne.symm k4),tr_b,h.fb]
  by_cases x4:x=YY
  · rw[x4,h.gyy,tr_o _ j4 (Ne.symm m2),tr_o _ j1 (Ne.symm n3),tr_b,tr_o _ o1 (Ne.symm k3),tr_o _ (Ne.symm n5) (Ne.symm m4),tr_o _ (Ne.symm i1) (Ne.symm j2),tr_o _ o2 (Ne.symm k3),tr_a,h.fk]
  by_cases x5:x=A
  · rw[x5,h.ga,tr_o _ i3 (Ne.symm m3),tr_a,tr_o _ n5 n3,tr_o _ n6 n2,a3]
  by_cases x6:x=B
  · rw[x6,h.gb,tr_o _ o2 (Ne.symm m4),tr_o _ (Ne.symm i1) (Ne.symm n5),tr_a,tr_o _ j3 (Ne.symm k1),a2]
  by_cases x7:x=K
  · rw[x7,h.gk,tr_o _ p1 (Ne.symm m5),tr_o _ (Ne.symm i2) (Ne.symm n6),tr_o _ (Ne.symm o1) (Ne.symm j3),tr_a,a1]
  by_cases x8:x=D
  · rw[x8,h.gd,tr_a,tr_o _ m3 (Ne.symm n1),tr_o _ m4 m2,tr_o _ m5 m1,a4]
  rw[tr_o _ x8 x2,tr_o _ x5 x1,tr_o _ x6 x4,tr_o _ x7 x3,tr_o _ x1 x2,tr_o _ x5 x4,tr_o _ x8 x3,tr_o _ x6 x7,h.go x hx (by simp only[List.mem_cons,List.not_mem_nil,or_false,not_or];exact⟨x1,x2,x3,x4,x5,x6,x7,x8⟩)]
 omega
theorem PullG.strands {f g al:Nat->Nat} {M X Y XX YY A B K D:Nat} (h:PullG f g al M X Y XX YY A B K D) {S:Nat->Prop} (hS:Closed (edb g al M) S):
    ((S A↔S X)/\(S A↔S XX)/\(S A↔S K)/\(S A↔S (al A))/\(S A↔S (al K)))/\(S B↔S Y)/\(S B↔S YY)/\(S B↔S D)/\(S B↔S (al B))/\(S B↔S (al D)):=by
 obtain⟨lx,ly,lxx,lyy,lA,lB,lK,lD⟩:=h.lt
 obtain⟨s1,s2⟩:=closed_edb.1 hS
 have q1:=s1 A lA
 have q2:=s2 X lx
 have q3:=s1 K lK
 have q4:=s1 B lB
 have q5:=s2 Y ly
 have q6:=s1 D lD
 have r1:=s2 A lA
 have r2:=s2 K lK
 have r3:=s2 B lB
 have r4:=s2 D lD
 rw[h.ga]at q1
 rw[h.ax]at q2
 rw[h.gk]at q3
 rw[h.gb]at q4
 rw[h.ay]at q5
 rw[h.gd]at q6
 have t1:S A↔S K:=q1.trans (q2.trans q3.symm)
 have t2:S B↔S D:=q4.trans (q5.symm.trans q6.symm)
 exact⟨⟨q1,q1.trans q2,t1,r1,t1.trans r2⟩,q4.trans q5.symm,q4,t2,r3,t2.trans r4⟩
theorem PullG.keeps {f g al:Nat->Nat} {M X Y XX YY A B K D:Nat} (h:PullG f g al M X Y XX YY A B K D) {S:Nat->Prop} (hS:Closed (edb g al M) S) (hAB:S A↔S B):Closed (edb f al M) S:=by
 obtain⟨⟨a1,a2,a3,a4,a5⟩,b1,b2,b3,b4,b5⟩:=h.strands hS
 obtain⟨s1,s2⟩:=closed_edb.1 hS
 refine closed_edb.2 ⟨fun i hi=>?_,s2⟩
 by_cases x1:i=X
 · rw[x1,h.fx,<-a1,<-b1,hAB]
 by_cases x2:i=Y
 · rw[x2,h.fy,<-a1,<-b1,hAB]
 by_cases x3:i=XX
 · rw[x3,h.fxx,<-a2,<-b4,hAB]
 by_cases x4:i=YY
 · rw[x4,h.fyy,<-a5,<-b2,hAB]
 by_cases x5:i=A
 · rw[x5,h.fa,<-b2,hAB]
 by_cases x6:i=B
 · rw[x6,h.fb,<-a4,hAB]
 by_cases x7:i=K
 · rw[x7,h.fk,<-a3,<-b5,hAB]
 by_cases x8:i=D
 · rw[x8,h.fd,<-a2,<-b3,hAB]
 rw[<-h.go i hi (by simp only[List.mem_cons,List.not_mem_nil,or_false,not_or];exact⟨x1,x2,x3,x4,x5,x6,x7,x8⟩)]
 exact s1 i hi
theorem PullG.one {f g al:Nat->Nat} {M X Y XX YY A B K D:Nat} (h:PullG f g al M X Y XX YY A B K D) (hn:¬ Con (eds f M) B K) {S:Nat->Prop} (hS:Closed (edb g al M) S) (hA:S A):S B:=by
 refine Classical.byContradiction fun hB=>?_
 obtain⟨lx,ly,lxx,lyy,lA,lB,lK,lD⟩:=h.lt
 have nd:=h.nd
 simp only[List.nodup_cons,List.mem_cons,List.not_mem_nil,or_false,not_or,not_false_eq_true,and_true,List.nodup_nil]at nd
 obtain⟨⟨n1,n2,n3,n4,n5,n6,n7⟩,⟨m1,m2,m3,m4,m5,m6⟩,⟨k1,k2,k3,k4,k5⟩,⟨j1,j2,j3,j4⟩,⟨i1,i2,i3⟩,⟨o1,o2⟩,p1⟩:=nd
 obtain⟨⟨a1,a2,a3,a4,a5⟩,b1,b2,b3,b4,b5⟩:=h.strands hS
 obtain⟨s1,s2⟩:=closed_edb.1 hS
 have alx:∀ z,z<M->al z=X->z=XX:=fun z hz e=>by rw[<-h.aa z hz,e,h.ax]
 have alxx:∀ z,z<M->al z=XX->z=X:=fun z hz e=>by rw[<-h.aa z hz,e,<-h.ax,h.aa X lx]
 obtain⟨p,h0,hp⟩:=period h.bf lB
 have key:∀ i,(S (it f (i+1) B)/\it f (i+1) B≠X/\it f (i+1) B≠XX)∨it f (i+1) B=YY:=by
  intro i
  induction i with
  |zero=>
   show(S (f B)/\f B≠X/\f B≠XX)∨_
   rw[h.fb]
   exact Or.inl ⟨a4.1 hA,fun e=>k2 (alx A lA e).symm,fun e=>n4 (alxx A lA e).symm⟩
  |succ i ih=>
   have hz:=it_lt h.bf lB (i+1)
   have hk:it f (i+1) B≠K:=fun q=>hn (q▸con_it h.bf lB (i+1))
   show(S (f (it f (i+1) B))/\f (it f (i+1) B)≠X/\f (it f (i+1) B)≠XX)∨f (it f (i+1) B)=YY
   generalize it f (i+1) B=z at ih hz hk ⊢
   by_cases z1:z=YY
   · rw[z1,h.fyy]
     exact Or.inl ⟨a5.1 hA,fun e=>k4 (alx K lK e).symm,fun e=>n6 (alxx K lK e).symm⟩
   obtain⟨hs,z2,z3⟩:=ih.resolve_right z1
   by_cases z4:z=A
   · exact Or.inr (by rw[z4,h.fa])
   have z5:z≠B:=fun e=>hB (e▸hs)
   have z6:z≠D:=fun e=>hB (b3.2 (e▸hs))
   have z7:z≠Y:=fun e=>hB (b1.2 (e▸hs))
   have e:=h.go z hz (by simp only[List.mem_cons,List.not_mem_nil,or_false,not_or];exact⟨z2,z7,z3,z1,z4,z5,hk,z6⟩)
   have s:=s1 z hz
   rw[e]at s
   exact Or.inl ⟨s.1 hs,fun q=>z7 (h.bf.inj z Y hz ly (by rw[q,h.fy])),fun q=>z6 (h.bf.inj z D hz lD (by rw[q,h.fd]))⟩
 have:=key (p-1)
 rw[show p-1+1=p by omega,hp]at this
 rcases this with q|q
 · exact hB q.1
 · exact j2 q.symm
theorem PullG.euler {f g al:Nat->Nat} {M X Y XX YY A B K D:Nat} (h:PullG f g al M X Y XX YY A B K D) (hg:∀ x,x<M->g x<M):
    (cyA g M+2=cyA f M/\kN (edb g al M) M<=kN (edb f al M) M)∨(cyA g M=cyA f M/\kN (edb g al M) M<=kN (edb f al M) M+1):=by
 obtain⟨lx,ly,lxx,lyy,lA,lB,lK,lD⟩:=h.lt
 have nd:=h.nd
 simp only[List.nodup_cons,List.mem_cons,List.not_mem_nil,or_false,not_or,not_false_eq_true,and_true,List.nodup_nil]at nd
 have c:=h.count
 by_cases hc:Con (eds f M) B K
 · refine Or.inr ⟨?_,?_⟩
   · have:=cyA_part h.bf lB lK nd.2.2.2.2.2.1.1 hc
     omega
   · have k1:=kN_edge (edb_lt hg h.la) lA lB
     have k2:=kN_le (M:=M) (edb_lt h.bf.lt h.la) (F:=edb g al M++[(A,B)]) (fun e he=>by
      rcases List.mem_append.1 he with he|he
      · exact edb_lt hg h.la e he
      · rw[List.mem_singleton.1 he];exact⟨lA,lB⟩) fun x y hxy S hS=>
        hxy S (h.keeps (fun e he=>hS e (List.mem_append_left _ he)) (hS (A,B) (List.mem_append_right _ (List.Mem.head _))))
     omega
 · refine Or.inl ⟨?_,?_⟩
   · have:=cyA_join h.bf lB lK hc
     omega
   · refine kN_le (edb_lt h.bf.lt h.la) (edb_lt hg h.la) fun x y hxy S hS=>hxy S (h.keeps hS ⟨h.one hc hS,fun hb=>?_⟩)
     refine Classical.byContradiction fun ha=>?_
     have hS':Closed (edb g al M) fun z=>¬ S z:=fun e he=>by have:=hS e he;exact not_congr this
     exact h.one hc hS' ha hb
end Go.Proofs.Ytagaajlbkfkaiaa
/- Plain mathematics: Euler's number of a piece is even and at most two, arc by arc. -/
namespace Go.Proofs.Ytagaajlbkfkaiaa
theorem Bij.congr {f g:Nat->Nat} {M:Nat} (h:Bij f M) (e:∀ x,x<M->f x=g x):Bij g M:=
 ⟨fun x hx=>by rw[<-e x hx];exact h.lt x hx,fun x y hx hy q=>h.inj x y hx hy (by rw[e x hx,e y hy,q])⟩
def gI (C:List Cr) (i x:Nat):Nat:=up0 (fun j=>if j<=2*i then fd C j else fd C (al j)) x
theorem gI_zero {C:List Cr} {x:Nat} (h:1<=x):gI C 0 x=fd C (al x):=by
 unfold gI
 rw[QX2 _ h,if_neg (by omega)]
theorem gI_next (C:List Cr) (i x:Nat):tr (gI C i) (2*i+1) (2*i+2) x=gI C (i+1) x:=by
 by_cases h1:x=2*i+1
 · rw[h1,tr_a]
   unfold gI
   rw[QX2 _ (by omega),QX2 _ (by omega),if_neg (by omega),if_pos (by omega),al_even]
 · by_cases h2:x=2*i+2
   · rw[h2,tr_b]
     unfold gI
     rw[QX2 _ (by omega),QX2 _ (by omega),if_neg (by omega),if_pos (by omega),al_odd]
   · rw[tr_o _ h1 h2]
     unfold gI
     by_cases h0:x=0
     · rw[h0];rfl
     · rw[QX2 _ (by omega),QX2 _ (by omega)]
       by_cases h3:x<=2*i
       · rw[if_pos h3,if_pos (by omega)]
       · rw[if_neg h3,if_neg (by omega)]
theorem gI_bij {C:List Cr} {loops:Int} (hm:mayD C loops=true):∀ i,i<=2*C.length->Bij (gI C i) (4*C.length+1):=by
 intro i
 induction i with
 |zero=>
  intro _
  refine(bij_up0 (f:=fun j=>fd C (al j)) (n:=4*C.length) (fun a h1 h2=>?_) (fun a b h1 h2 h3 h4 e=>?_)).congr fun x hx=>?_
  · obtain⟨a1,a2,-,-⟩:=QW5 h1 h2
    exact QZ0 hm _ a1 a2
  · obtain⟨a1,a2,-,-⟩:=QW5 h1 h2
    obtain⟨b1,b2,-,-⟩:=QW5 h3 h4
    have:=fd_inj hm _ _ a1 a2 b1 b2 e
    rw[<-al_al h1,this,al_al h3]
  · by_cases h0:x=0
    · rw[h0];rfl
    · rw[gI_zero (by omega),QX2 _ (by omega)]
 |succ i ih=>
  intro hi
  exact((ih (by omega)).tr (a:=2*i+1) (b:=2*i+2) (by omega) (by omega)).congr fun x _=>gI_next C i x
theorem gI_last {C:List Cr} {x:Nat} (h:x<4*C.length+1):gI C (2*C.length) x=up0 (fd C) x:=by
 unfold gI
 by_cases h0:x=0
 · rw[h0];rfl
 · rw[QX2 _ (by omega),QX2 _ (by omega),if_pos (by omega)]
theorem gI_pos {C:List Cr} {loops:Int} (hm:mayD C loops=true) (i:Nat) {x:Nat} (h1:1<=x) (h2:x<=4*C.length):1<=gI C i x/\gI C i x<=4*C.length/\lvC C (gI C i x)=if x<=2*i then dC C x else lvC C x:=by
 unfold gI
 rw[QX2 _ h1]
 by_cases h3:x<=2*i
 · rw[if_pos h3,if_pos h3]
   have:=QZ0 hm x h1 h2
   exact⟨this.1,this.2,lv_fd hm h1 h2⟩
 · rw[if_neg h3,if_neg h3]
   obtain⟨a1,a2,-,-⟩:=QW5 h1 h2
   have:=QZ0 hm _ a1 a2
   exact⟨this.1,this.2,by rw[lv_fd hm a1 a2,(dC_al h1 h2).1]⟩
theorem lv_odd (C:List Cr) (i:Nat):lvC C (2*i+1)=(arE C i).2/\lvC C (2*i+2)=(arE C i).1:=by
 unfold lvC arE dA dB
 constructor
 · simp only[show(2*i+1)%2=1 by omega,show(2*i+1+1) / 2=i+1 by omega]
   rfl
 · simp only[show(2*i+2)%2=0 by omega,show(2*i+2+1) / 2=i+1 by omega]
   rfl
theorem lv_dC_in {C:List Cr} {i x:Nat} (h1:1<=x) (h2:x<=2*i):Con (incl (arE C) (fun _=>true) i) (lvC C x) (dC C x):=by
 have h:1<=dA x/\dA x<=i:=by unfold dA;omega
 have hmem:arE C (dA x-1)∈incl (arE C) (fun _=>true) i:=incl_mem.2 ⟨dA x-1,by omega,rfl,rfl⟩
 have e:arE C (dA x-1)=(enC C (dA x) true,enC C (dA x) false):=by
  unfold arE
  rw[show dA x-1+1=dA x by omega]
 rw[e]at hmem
 have hc:=Con.edge hmem
 unfold lvC dC
 cases dB x
 · exact hc.symm
 · exact hc
theorem ring_arcs {C:List Cr} {loops:Int} (hm:mayD C loops=true) (i:Nat) {x y:Nat} (hx:1<=x) (hc:Con (eds (gI C i) (4*C.length+1)) x y):Con (incl (arE C) (fun _=>true) i) (lvC C x) (lvC C y):=by
 have:=hc (fun z=>1<=z/\Con (incl (arE C) (fun _=>true) i) (lvC C x) (lvC C z)) (closed_eds.2 fun z hz=>by
  by_cases h0:z=0
  · rw[h0]
    have e:gI C i 0=0:=rfl
    rw[e]
  · obtain⟨g1,g2,g3⟩:=gI_pos hm i (x:=z) (by omega) (by omega)
    rw[g3]
    have hcz:Con (incl (arE C) (fun _=>true) i) (lvC C z) (if z<=2*i then dC C z else lvC C z):=by
     by_cases h3:z<=2*i
     · rw[if_pos h3];exact lv_dC_in (by omega) h3
     · rw[if_neg h3];exact Con.refl _ _
    exact⟨fun q=>⟨g1,q.2.trans hcz⟩,fun q=>⟨by omega,q.2.trans hcz.symm⟩⟩) ⟨hx,Con.refl _ _⟩
 exact this.2
theorem incl_sub {C:List Cr} {i:Nat} (hi:i<=2*C.length) {x y:Nat} (hc:Con (incl (arE C) (fun _=>true) i) x y):Con (arcE C) x y:=fun S hS hx=>hc S (fun e he=>by
 obtain⟨t,ht,-,rfl⟩:=incl_mem.1 he
 exact hS _ (List.mem_map.2 ⟨t,List.mem_range.2 (by omega),rfl⟩)) hx
theorem arE_lt {C:List Cr} {loops:Int} (hm:mayD C loops=true):∀ i,i<2*C.length->(arE C i).1<C.length/\(arE C i).2<C.length:=fun i hi=>by
 have h:=arcE_lt hm (arE C i) (List.mem_map.2 ⟨i,List.mem_range.2 hi,rfl⟩)
 exact h
def qD (C:List Cr) (p j:Nat):Bool:=decide (1<=j)&&decide ((whoM C).getD (lvC C j) 0=p)
def qC (C:List Cr) (p v:Nat):Bool:=decide ((whoM C).getD v 0=p)
theorem qD_inv {C:List Cr} {loops:Int} (hm:mayD C loops=true) (p:Nat) {i:Nat} (_hi:i<=2*C.length) (x y:Nat) (_hx:x<4*C.length+1) (hc:Con (eds (gI C i) (4*C.length+1)) x y):qD C p x=qD C p y:=by
 have hW:=QV8 hm
 exact hc (fun z=>qD C p x=qD C p z) (closed_eds.2 fun z hz=>by
  by_cases h0:z=0
  · rw[h0]
    exact Iff.rfl
  · obtain⟨g1,g2,g3⟩:=gI_pos hm i (x:=z) (by omega) (by omega)
    have l1:=lv_lt hm (j:=z) (by omega) (by omega)
    have l2:=lv_lt hm g1 g2
    have hcz:Con (arcE C) (lvC C z) (lvC C (gI C i z)):=by
     rw[g3]
     by_cases h3:z<=2*i
     · rw[if_pos h3];exact lv_dC (by omega) (by omega)
     · rw[if_neg h3];exact Con.refl _ _
    have e:qD C p z=qD C p (gI C i z):=by
     unfold qD
     rw[(hW.same l1 l2).2 hcz,decide_eq_true (show 1<=z by omega),decide_eq_true g1]
    rw[e]) rfl
theorem euler_steps {C:List Cr} {loops:Int} (hm:mayD C loops=true) (p:Nat) (hbase:cyN (gI C 0) (4*C.length+1) (qD C p)=(List.range C.length).countP (qC C p)):∀ i,i<=2*C.length->
    cyN (gI C i) (4*C.length+1) (qD C p)+(List.range C.length).countP (qC C p)<=(List.range i).countP (fun t=>qD C p (2*t+1))+2*rq (cls (arE C) (fun _=>true) C.length i) (qC C p) C.length/\
    (cyN (gI C i) (4*C.length+1) (qD C p)+(List.range C.length).countP (qC C p)+(List.range i).countP (fun t=>qD C p (2*t+1)))%2=0:=by
 have hW:=QV8 hm
 intro i
 induction i with
 |zero=>
  intro _
  rw[hbase]
  have e:rq (cls (arE C) (fun _=>true) C.length 0) (qC C p) C.length=(List.range C.length).countP (qC C p):=by
   rw[rq_eq]
   refine List.countP_congr fun v hv=>?_
   have:(cls (arE C) (fun _=>true) C.length 0).getD v 0=v:=by
    show(List.range C.length).getD v 0=v
    rw[List.getD_eq_getElem?_getD,List.getElem?_range (List.mem_range.1 hv)]
    rfl
   rw[this,decide_eq_true rfl,Bool.true_and]
  rw[e]
  simp only[List.range_zero,List.countP_nil]
  omega
 |succ i ih=>
  intro hi
  obtain⟨i1,i2⟩:=ih (by omega)
  have hB:=gI_bij hm i (by omega)
  have hL:=cls_least (E:=arE C) (K:=fun _=>true) (n:=C.length) (m:=i) fun t ht=>arE_lt hm t (by omega)
  obtain⟨e1,e2⟩:=arE_lt hm i (by omega)
  obtain⟨v1,v2⟩:=lv_odd C i
  have hQ:=qD_inv hm p (i:=i) (by omega)
  have hedge:Con (arcE C) (arE C i).1 (arE C i).2:=Con.edge (List.mem_map.2 ⟨i,List.mem_range.2 (by omega),rfl⟩)
  have hab:qD C p (2*i+1)=qD C p (2*i+2):=by
   unfold qD
   rw[v1,v2,(hW.same e1 e2).2 hedge,decide_eq_true (show 1<=2*i+1 by omega),decide_eq_true (show 1<=2*i+2 by omega)]
  have hcong:cyN (gI C (i+1)) (4*C.length+1) (qD C p)=cyN (tr (gI C i) (2*i+1) (2*i+2)) (4*C.length+1) (qD C p):=cyN_congr (fun x _=>(gI_next C i x).symm) _
  have hmm:(List.range (i+1)).countP (fun t=>qD C p (2*t+1))=(List.range i).countP (fun t=>qD C p (2*t+1))+if qD C p (2*i+1)=true then 1 else 0:=by
   rw[List.range_succ,List.countP_append,List.countP_singleton]
  have hq1:qD C p (2*i+1)=qC C p (arE C i).2:=by
   unfold qD qC
   rw[v1,decide_eq_true (show 1<=2*i+1 by omega),Bool.true_and]
  rw[hcong,hmm,cls_next (E:=arE C) (K:=fun _=>true) rfl]
  by_cases hc:Con (eds (gI C i) (4*C.length+1)) (2*i+1) (2*i+2)
  · have k1:=cyN_part hB (qD C p) (a:=2*i+1) (b:=2*i+2) (by omega) (by omega) (by omega) hc hQ
    have hcc:=ring_arcs hm i (by omega) hc
    rw[v1,v2]at hcc
    rw[mer_same ((hL.same e1 e2).2 hcc.symm),<-k1]
    split<;>rename_i hq<;>simp only[hq,if_true,if_false,Bool.false_eq_true] at*<;> omega
  · have k1:=cyN_join hB (qD C p) (a:=2*i+1) (b:=2*i+2) (by omega) (by omega) hc hQ hab
    by_cases hs:(cls (arE C) (fun _=>true) C.length i).getD (arE C i).1 0=(cls (arE C) (fun _=>true) C.length i).getD (arE C i).2 0
    · rw[mer_same hs]
      by_cases hq:qD C p (2*i+1)=true
      · rw[if_pos hq]at k1 ⊢;omega
      · rw[if_neg hq]at k1 ⊢;omega
    · have hr:=rq_mer hL (qC C p) e1 e2 hs C.length (Nat.le_refl _)
      have l1:=hL.lt e1
      have l2:=hL.lt e2
      have w1:=(hW.same e1 l1).2 (incl_sub (by omega) (hL.2 _ e1).1)
      have w2:=(hW.same e2 l2).2 (incl_sub (by omega) (hL.2 _ e2).1)
      have w3:=(hW.same e1 e2).2 hedge
      have hmax:qC C p (max ((cls (arE C) (fun _=>true) C.length i).getD (arE C i).1 0) ((cls (arE C) (fun _=>true) C.length i).getD (arE C i).2 0))=qD C p (2*i+1):=by
       rw[hq1]
       unfold qC
       rcases Nat.le_total ((cls (arE C) (fun _=>true) C.length i).getD (arE C i).1 0) ((cls (arE C) (fun _=>true) C.length i).getD (arE C i).2 0) with hle|hle
       · rw[Nat.max_eq_right hle,<-w2]
       · rw[Nat.max_eq_left hle,<-w1,w3]
      rw[hmax]at hr
      by_cases hq:qD C p (2*i+1)=true
      · rw[if_pos hq]at k1 ⊢
        rw[if_pos ⟨by omega,hq⟩]at hr
        omega
      · rw[if_neg hq]at k1 ⊢
        rw[if_neg fun q=>hq q.2]at hr
        omega
end Go.Proofs.Ytagaajlbkfkaiaa
/- Plain mathematics: Euler's number of a piece: the crossings as rings, and the end. -/
namespace Go.Proofs.Ytagaajlbkfkaiaa
theorem pd_ne {C:List Cr} {loops:Int} (hm:mayD C loops=true) {k s t:Nat} (hk:k<C.length) (hs:s<4) (ht:t<4) (e:pd C (4*k+s)=pd C (4*k+t)):s=t:=by
 have h1:=(pd_at hm k s hk hs).2.2.1
 have h2:=(pd_at hm k t hk ht).2.2.1
 rw[e]at h1
 omega
theorem crossing_ring {C:List Cr} {loops:Int} (hm:mayD C loops=true) {k:Nat} (hk:k<C.length):∃ s0,s0<4/\∀ s,s<4->(cyW (gI C 0) (4*C.length+1)).getD (pd C (4*k+s)) 0=pd C (4*k+s0):=by
 have hB:=gI_bij hm 0 (Nat.zero_le _)
 have hW:=QV7 hB.lt
 have hg:∀ s,s<4->gI C 0 (pd C (4*k+s))=pd C (4*k+(s+3)%4):=fun s hs=>by
  obtain⟨-,-,-,h3,h4⟩:=pd_at hm k s hk hs
  rw[gI_zero h3,pd_sig hm k s hk hs]
 have hlt:∀ s,s<4->pd C (4*k+s)<4*C.length+1:=fun s hs=>by have:=(pd_at hm k s hk hs).2.2.2.2;omega
 have hcl:Closed (eds (gI C 0) (4*C.length+1)) fun z=>∃ s,s<4/\z=pd C (4*k+s):=closed_eds.2 fun z hz=>by
  constructor
  · rintro⟨s,hs,rfl⟩
    exact⟨(s+3)%4,Nat.mod_lt _ (by decide),hg s hs⟩
  · rintro⟨s,hs,e⟩
    have h:=hg ((s+1)%4) (Nat.mod_lt _ (by decide))
    rw[show((s+1)%4+3)%4=s by omega,<-e]at h
    exact⟨(s+1)%4,Nat.mod_lt _ (by decide),(hB.inj _ _ (hlt _ (Nat.mod_lt _ (by decide))) hz h).symm⟩
 have c1:∀ s,s<4->Con (eds (gI C 0) (4*C.length+1)) (pd C (4*k+s)) (pd C (4*k+(s+3)%4)):=fun s hs=>by
  rw[<-hg s hs]
  exact con_f (hlt s hs)
 have c0:∀ s,s<4->Con (eds (gI C 0) (4*C.length+1)) (pd C (4*k+0)) (pd C (4*k+s)):=fun s hs=>by
  have d0:=c1 0 (by decide)
  have d3:=c1 3 (by decide)
  have d2:=c1 2 (by decide)
  match s,hs with
  |0,_=>exact Con.refl _ _
  |3,_=>exact d0
  |2,_=>exact d0.trans d3
  |1,_=>exact d0.trans (d3.trans d2)
 obtain⟨s0,hs0,e0⟩:=(hW.2 _ (hlt 0 (by decide))).1 _ hcl ⟨0,by decide,rfl⟩
 refine⟨s0,hs0,fun s hs=>?_⟩
 rw[<-e0]
 exact(hW.same (hlt s hs) (hlt 0 (by decide))).2 (c0 s hs).symm
theorem qD_pd {C:List Cr} {loops:Int} (hm:mayD C loops=true) (p:Nat) {k s:Nat} (hk:k<C.length) (hs:s<4):qD C p (pd C (4*k+s))=qC C p k:=by
 obtain⟨-,h1,-,h3,-⟩:=pd_at hm k s hk hs
 unfold qD qC
 rw[h1,decide_eq_true h3,Bool.true_and]
theorem euler_base {C:List Cr} {loops:Int} (hm:mayD C loops=true) (p:Nat):cyN (gI C 0) (4*C.length+1) (qD C p)=(List.range C.length).countP (qC C p):=by
 unfold cyN
 rw[rq_eq,cnt_darts hm (P:=fun v=>decide ((cyW (gI C 0) (4*C.length+1)).getD v 0=v)&&qD C p v) (Qc:=qC C p) (c:=1) (by simp[qD]) ?_,Nat.one_mul]
 intro k hk
 obtain⟨s0,hs0,h⟩:=crossing_ring hm hk
 have key:∀ s,s<4->(decide ((cyW (gI C 0) (4*C.length+1)).getD (pd C (4*k+s)) 0=pd C (4*k+s))&&qD C p (pd C (4*k+s)))=(decide (s0=s)&&qC C p k):=fun s hs=>by
  rw[h s hs,qD_pd hm p hk hs]
  congr 1
  by_cases e:s0=s
  · rw[e];simp
  · rw[decide_eq_false e,decide_eq_false fun q=>e (pd_ne hm hk hs0 hs q)]
 have k0:(decide ((cyW (gI C 0) (4*C.length+1)).getD (pd C (4*k)) 0=pd C (4*k))&&qD C p (pd C (4*k)))=(decide (s0=0)&&qC C p k):=key 0 (by decide)
 simp only[k0,key 1 (by decide),key 2 (by decide),key 3 (by decide)]
 cases qC C p k with
 |false=>simp
 |true=>
  match s0,hs0 with
  |0,_=>rfl
  |1,_=>rfl
  |2,_=>rfl
  |3,_=>rfl
theorem cnt_by2 {h Q:Nat->Bool} (m:Nat) (e:∀ t,t<m->h (2*t)=Q t/\h (2*t+1)=Q t):(List.range (2*m)).countP h=2*(List.range m).countP Q:=by
 induction m with
 |zero=>rfl
 |succ m ih=>
  have e1:=e m (by omega)
  have e2:=ih fun t ht=>e t (by omega)
  rw[show 2*(m+1)=2*m+1+1 by omega]
  simp only[List.range_succ,List.countP_append,List.countP_singleton]
  rw[e2,e1.1,e1.2]
  omega
theorem euler_arcs {C:List Cr} {loops:Int} (hm:mayD C loops=true) (p:Nat):(List.range (2*C.length)).countP (fun t=>qD C p (2*t+1))=2*(List.range C.length).countP (qC C p):=by
 have hW:=QV8 hm
 have h4:=cnt_darts hm (P:=qD C p) (Qc:=qC C p) (c:=4) (by simp[qD]) (fun k hk=>by
  have k0:qD C p (pd C (4*k))=qC C p k:=qD_pd hm p (s:=0) hk (by decide)
  rw[k0,qD_pd hm p (s:=1) hk (by decide),qD_pd hm p (s:=2) hk (by decide),qD_pd hm p (s:=3) hk (by decide)]
  cases qC C p k<;>rfl)
 rw[cnt_up1 _ _ (by simp[qD]),show 4*C.length=2*(2*C.length) by omega,cnt_by2 (h:=fun i=>qD C p (i+1)) (Q:=fun t=>qD C p (2*t+1)) (2*C.length) (fun t ht=>⟨rfl,?_⟩)]at h4
 · omega
 · obtain⟨v1,v2⟩:=lv_odd C t
   obtain⟨e1,e2⟩:=arE_lt hm t ht
   have hedge:Con (arcE C) (arE C t).1 (arE C t).2:=Con.edge (List.mem_map.2 ⟨t,List.mem_range.2 ht,rfl⟩)
   show qD C p (2*t+1+1)=qD C p (2*t+1)
   unfold qD
   rw[show 2*t+1+1=2*t+2 by omega,v1,v2,(hW.same e1 e2).2 hedge,decide_eq_true (show 1<=2*t+1 by omega),decide_eq_true (show 1<=2*t+2 by omega)]
theorem one_piece {C:List Cr} {loops:Int} (hm:mayD C loops=true) {p:Nat} (hp:p<C.length) (hr:(whoM C).getD p 0=p):rq (cls (arE C) (fun _=>true) C.length (2*C.length)) (qC C p) C.length=1:=by
 have hW:=QV8 hm
 have hL:=cls_least (E:=arE C) (K:=fun _=>true) (n:=C.length) (m:=2*C.length) fun t ht=>arE_lt hm t ht
 rw[incl_all]at hL
 have e:cls (arE C) (fun _=>true) C.length (2*C.length)=whoM C:=hL.eq hW
 rw[e,rq_eq]
 have h1:(List.range C.length).count p=1:=by
  rw[List.Nodup.count List.nodup_range,if_pos (List.mem_range.2 hp)]
 rw[<-h1]
 unfold List.count
 refine List.countP_congr fun v _=>?_
 unfold qC
 simp only[Bool.and_eq_true,decide_eq_true_eq,beq_iff_eq]
 constructor
 · rintro⟨a,b⟩;omega
 · intro a
   rw[a]
   exact⟨hr,hr⟩
theorem faces_count {C:List Cr} {loops:Int} (hm:mayD C loops=true) (p:Nat):(QZ4 C).countP (fun g=>decide ((whoM C).getD g 0=p))=cyN (up0 (fd C)) (4*C.length+1) (qD C p):=by
 have hW:=QV8 hm
 rw[<-walks_cyN (QZ0 hm) (fun a b h1 h2 h3 h4 e=>fd_inj hm a b h1 h2 h3 h4 e) (qD C p) (by simp[qD])]
 unfold QZ4
 rw[List.countP_map]
 refine List.countP_congr fun l hl=>?_
 have hb:=(heads_roots (QZ0 hm) (fun a b h1 h2 h3 h4 e=>fd_inj hm a b h1 h2 h3 h4 e) (4*C.length) (Nat.le_refl _)).1 l hl
 show decide ((whoM C).getD (dC C (l.getD 0 0)) 0=p)=true↔qD C p (l.getD 0 0)=true
 unfold qD
 rw[(hW.same (lv_lt hm hb.1 hb.2) (d_may hm _ hb.1 hb.2).2.1).2 (lv_dC hb.1 hb.2),decide_eq_true hb.1,Bool.true_and]
theorem euler_piece {C:List Cr} {loops:Int} (hm:mayD C loops=true) {p:Nat} (hp:p<C.length) (hr:(whoM C).getD p 0=p):exN C.length (QZ4 C) (whoM C) p<=2/\exN C.length (QZ4 C) (whoM C) p%2=0:=by
 obtain⟨h1,h2⟩:=euler_steps hm p (euler_base hm p) (2*C.length) (Nat.le_refl _)
 rw[one_piece hm hp hr,euler_arcs hm p,cyN_congr (fun x hx=>gI_last hx),<-faces_count hm p] at*
 have e:exN C.length (QZ4 C) (whoM C) p=(((QZ4 C).countP (fun g=>decide ((whoM C).getD g 0=p)):Nat):Int)-(((List.range C.length).countP (qC C p):Nat):Int):=rfl
 rw[e]
 omega
end Go.Proofs.Ytagaajlbkfkaiaa
/- Plain mathematics: planar, told by all rings and all pieces at once. -/
namespace Go.Proofs.Ytagaajlbkfkaiaa
def sN (h:Nat->Nat):Nat->Nat
 |0=>0
 |n+1=>sN h n+h n
theorem sN_congr {a b:Nat->Nat} {n:Nat} (e:∀ p,p<n->a p=b p):sN a n=sN b n:=by
 induction n with
 |zero=>rfl
 |succ n ih=>show sN a n+a n=sN b n+b n;rw[ih fun p hp=>e p (by omega),e n (by omega)]
theorem sN_le {a b:Nat->Nat} {n:Nat} (e:∀ p,p<n->a p<=b p):sN a n<=sN b n:=by
 induction n with
 |zero=>exact Nat.le_refl _
 |succ n ih=>have:=ih fun p hp=>e p (by omega);have:=e n (by omega);show sN a n+a n<=sN b n+b n;omega
theorem sN_eq {a b:Nat->Nat} {n:Nat} (e:∀ p,p<n->a p<=b p) (h:sN b n<=sN a n):∀ p,p<n->a p=b p:=by
 induction n with
 |zero=>intro p hp;omega
 |succ n ih=>
  have h1:=sN_le (n:=n) fun p hp=>e p (by omega)
  have h2:=e n (by omega)
  have h3:sN b n+b n<=sN a n+a n:=h
  intro p hp
  by_cases q:p=n
  · rw[q];omega
  · exact ih (fun p hp=>e p (by omega)) (by omega) p (by omega)
theorem sN_add (a b:Nat->Nat) (n:Nat):sN (fun p=>a p+b p) n=sN a n+sN b n:=by
 induction n with
 |zero=>rfl
 |succ n ih=>show sN (fun p=>a p+b p) n+(a n+b n)=sN a n+a n+(sN b n+b n);omega
theorem sN_zero {a:Nat->Nat} {n:Nat} (h:∀ p,p<n->a p=0):sN a n=0:=by
 induction n with
 |zero=>rfl
 |succ n ih=>show sN a n+a n=0;rw[ih fun p hp=>h p (by omega),h n (by omega)]
theorem sN_only {n q:Nat} (hq:q<n):sN (fun p=>if q=p then 1 else 0) n=1:=by
 induction n with
 |zero=>omega
 |succ n ih=>
  show sN (fun p=>if q=p then 1 else 0) n+(if q=n then 1 else 0)=1
  by_cases e:q=n
  · rw[if_pos e,sN_zero fun p hp=>if_neg (by omega)]
  · rw[if_neg e,ih (by omega)]
theorem sum_cnt (W:Nat->Nat) (n:Nat):∀ G:List Nat,(∀ g,g∈G->W g<n)->sN (fun p=>G.countP fun g=>decide (W g=p)) n=G.length:=by
 intro G
 induction G with
 |nil=>intro _;exact sN_zero fun _ _=>rfl
 |cons g G ih=>
  intro h
  have e:sN (fun p=>(g::G).countP fun g=>decide (W g=p)) n=sN (fun p=>(G.countP fun g=>decide (W g=p))+if W g=p then 1 else 0) n:=sN_congr fun p _=>by
   rw[List.countP_cons]
   by_cases q:W g=p
   · rw[if_pos (decide_eq_true q),if_pos q]
   · rw[if_neg (by simpa using q),if_neg q]
  rw[e,sN_add,ih fun x hx=>h x (List.mem_cons_of_mem _ hx),sN_only (h g (List.mem_cons_self ..))]
  rfl
theorem sN_cnt (P:Nat->Bool) (n:Nat):sN (fun p=>if P p=true then 2 else 0) n=2*(List.range n).countP P:=by
 induction n with
 |zero=>rfl
 |succ n ih=>
  show sN (fun p=>if P p=true then 2 else 0) n+(if P n=true then 2 else 0)=_
  rw[ih,List.range_succ,List.countP_append,List.countP_singleton]
  split<;>omega
def pcN (C:List Cr):Nat:=kN (arcE C) C.length
theorem pcN_eq (C:List Cr):pcN C=(List.range C.length).countP fun p=>decide ((whoM C).getD p 0=p):=by
 unfold pcN kN
 rw[rq_eq]
 refine List.countP_congr fun v _=>?_
 rw[Bool.and_true]
 rfl
theorem planar_sum {C:List Cr} {loops:Int} (hm:mayD C loops=true):(QQ3 C).length<=C.length+2*pcN C/\(QX1 C=true↔C.length+2*pcN C<=(QQ3 C).length):=by
 have hW:=QV8 hm
 have s1:=sum_cnt (fun g=>(whoM C).getD g 0) C.length (QZ4 C) fun g hg=>hW.lt (headsM_lt hm g hg)
 have s2:=sum_cnt (fun g=>(whoM C).getD g 0) C.length (List.range C.length) fun g hg=>hW.lt (List.mem_range.1 hg)
 have s3:=sN_cnt (fun p=>decide ((whoM C).getD p 0=p)) C.length
 rw[headsM_len]at s1
 rw[List.length_range]at s2
 rw[<-pcN_eq]at s3
 have s4:=sN_add (fun p=>(List.range C.length).countP fun g=>decide ((whoM C).getD g 0=p)) (fun p=>if decide ((whoM C).getD p 0=p)=true then 2 else 0) C.length
 rw[s2,s3]at s4
 have hle:∀ p,p<C.length->((QZ4 C).countP fun g=>decide ((whoM C).getD g 0=p))<=((List.range C.length).countP fun g=>decide ((whoM C).getD g 0=p))+if decide ((whoM C).getD p 0=p)=true then 2 else 0:=fun p hp=>by
  by_cases hr:(whoM C).getD p 0=p
  · have:=(euler_piece hm hp hr).1
    unfold exN at this
    rw[if_pos (decide_eq_true hr)]
    omega
  · have h0:((QZ4 C).countP fun g=>decide ((whoM C).getD g 0=p))=0:=List.countP_eq_zero.2 fun g hg q=>hr (by
      have q:=of_decide_eq_true q
      have hg:=headsM_lt hm g hg
      have:=(hW.same (hW.lt hg) hg).2 (hW.2 g hg).1.symm
      rw[q]at this
      exact this)
    rw[h0]
    exact Nat.zero_le _
 have hsum:=sN_le hle
 rw[s1,s4]at hsum
 refine⟨hsum,?_⟩
 rw[planarB_iff]
 constructor
 · intro h
   rw[<-s1,<-s4]
   refine sN_le fun p hp=>?_
   by_cases hr:(whoM C).getD p 0=p
   · have:=h p hp hr
     unfold exN at this
     rw[if_pos (decide_eq_true hr)]
     omega
   · rw[if_neg (by simpa using hr)]
     have h0:((List.range C.length).countP fun g=>decide ((whoM C).getD g 0=p))=0:=List.countP_eq_zero.2 fun g hg q=>hr (by
      have q:=of_decide_eq_true q
      have hg:=List.mem_range.1 hg
      have:=(hW.same (hW.lt hg) hg).2 (hW.2 g hg).1.symm
      rw[q]at this
      exact this)
     rw[h0]
     exact Nat.zero_le _
 · intro h p hp hr
   rw[<-s1,<-s4]at h
   have:=sN_eq hle h p hp
   rw[if_pos (decide_eq_true hr)]at this
   unfold exN
   omega
theorem kN_inj {E F:List (Nat×Nat)} {M n:Nat} (hE:∀ e,e∈E->e.1<M/\e.2<M) (hF:∀ e,e∈F->e.1<n/\e.2<n) (m:Nat->Nat) (hl:∀ v,v<n->m v<M) (h:∀ u v,u<n->v<n->Con E (m u) (m v)->Con F u v):kN F n<=kN E M:=by
 have lE:=QZ9 hE M (Nat.le_refl _)
 have lF:=QZ9 hF n (Nat.le_refl _)
 unfold kN
 rw[rq_eq,rq_eq,List.countP_eq_length_filter,List.countP_eq_length_filter,<-List.length_map (f:=fun v=>(levR (List.range M) E M).getD (m v) 0)]
 have hnd:(((List.range n).filter fun v=>decide ((levR (List.range n) F n).getD v 0=v)&&true).map fun v=>(levR (List.range M) E M).getD (m v) 0).Nodup:=by
  unfold List.Nodup
  rw[List.pairwise_map]
  refine List.Pairwise.imp_of_mem ?_ (List.Pairwise.filter _ List.nodup_range)
  intro u v hu hv huv e
  obtain⟨hu,ru⟩:=List.mem_filter.1 hu
  obtain⟨hv,rv⟩:=List.mem_filter.1 hv
  have hu:=List.mem_range.1 hu
  have hv:=List.mem_range.1 hv
  rw[Bool.and_true,decide_eq_true_eq]at ru rv
  have c:=h u v hu hv ((lE.same (hl u hu) (hl v hv)).1 e)
  have:=(lF.same hu hv).2 c
  rw[ru,rv]at this
  exact huv this
 refine hnd.length_le_of_subset fun x hx=>?_
 obtain⟨v,hv,rfl⟩:=List.mem_map.1 hx
 have hv:=List.mem_range.1 (List.mem_filter.1 hv).1
 refine List.mem_filter.2 ⟨List.mem_range.2 (lE.lt (hl v hv)),?_⟩
 rw[Bool.and_true,decide_eq_true_eq]
 exact(lE.same (lE.lt (hl v hv)) (hl v hv)).2 (lE.2 _ (hl v hv)).1.symm
end Go.Proofs.Ytagaajlbkfkaiaa

/- Several texts of the proof, one behind the other. -/
import Derived.Test.YtmnejkaihjpejaaGreatDoorQueP
import Derived.Deep.Cut
import Derived.Test.YtmnejkaihjpejaaGreatDoorH7
import Derived.Test.YtmnejkaihjpejaaGreatDoorZ0P
import Derived.Test.YtmnejkaihjpejaaGreatDoorW1P
/- The walks of Drawing.Onward and ref.NextDart. -/
namespace Go.Proofs.YtmnejkaihjpejaaGreatDoor
open Go.RowKit
set_option maxHeartbeats 4000000
set_option maxRecDepth 100000
theorem onward_any (a : Option Addr) (cap : Nat) (C : List Cr) (loops : Int) (gF cF gT cT : Nat) (j : Nat) (w : World) (hm : mayD C loops = true) (h1 : 1 ≤ j) (h2 : j ≤ 4 * C.length) (hD : Dr w a cap C gF gT) :
    Calls Tryz.prog 62 #[drV a cap C loops gF cF gT cT,.agg #[.int .i64 (dA j:Nat),.bool (dB j)]] w fun e w'=>e=.returned (.agg #[.int .i64 (dA (fd C j):Nat),.bool (dB (fd C j))])/\Below w.heap.size w w':=by
 have HM:Hid (mayD C loops=true):=hm
 have hA:=dA_le h1 h2
 obtain⟨-,hi,hs⟩:=d_may hm j h1 h2
 obtain⟨f1,f2,-,-⟩:=fd_may hm j h1 h2
 have HF1:Hid ((C.getD (dC C j) Cr.none).arc ((dS C j+3)%4)=(dA (fd C j):Int)):=f1
 have HF2:Hid ((C.getD (dC C j) Cr.none).comes ((dS C j+3)%4)=dB (fd C j)):=f2
 obtain⟨i,hci⟩:∃ i,dC C j=i:=⟨_,rfl⟩
 obtain⟨k,hck⟩:∃ k,dS C j=k:=⟨_,rfl⟩
 have HE:Hid (∀ W,Dr W a cap C gF gT->Calls Tryz.prog 66 #[drV a cap C loops gF cF gT cT,.agg #[.int .i64 (dA j:Nat),.bool (dB j)]] W fun e w'=>e=.returned (.agg #[.int .i64 (i:Nat),.int .i64 (k:Nat)])/\Below W.heap.size W w'):=fun W hW=>by
  rw[<-hci,<-hck]
  exact end_any a cap C loops gF cF gT cT (dA j) (dB j) W hm hA.1 hA.2 hW
 rw[hci,hck]at HF1 HF2
 rw[hci]at hi
 rw[hck]at hs
 generalize dA (fd C j)=zA at HF1 ⊢
 generalize dB (fd C j)=zB at HF2 ⊢
 obtain⟨k2,hk2⟩:∃ k2:Nat,k2=(k+3)%4:=⟨_,rfl⟩
 rw[<-hk2]at HF1 HF2
 have e0:IntKind.i64.wrap ((k:Int)+4)=(k:Int)+4:=IntWalk.i64_in _ (by omega)
 have e1:IntKind.i64.wrap ((k:Int)+4-1)=(k:Int)+4-1:=IntWalk.i64_in _ (by omega)
 have e2:((k:Int)+4-1).tmod 4=(k2:Int):=by rw[Int.tmod_eq_emod_of_nonneg (by omega)];omega
 have hk24:k2<4:=by omega
 have HD:Hid (Dr w a cap C gF gT):=hD
 clear hk2 hci hck f1 f2 hm hD
 obtain⟨b,off,rfl,hbw,hC⟩:=HD.out.cross (by omega)
 have HC:Hid (CrossAt w b off C):=hC
 unfold drV
 unfold drV at HE
 generalize dA j=jA at HE hA ⊢
 generalize dB j=jB at HE ⊢
 obtain⟨w0,hw0⟩:∃ w0,w0=((w.alloc (.cells #[.slice (some ⟨b,off,none⟩) C.length cap,.int .i64 loops,.slice (some ⟨gF,0,none⟩) (2*C.length+1) cF,.slice (some ⟨gT,0,none⟩) (2*C.length+1) cT] 41)).alloc (.cells #[.int .i64 jA,.bool jB] 81)).alloc (.cells #[.int .i64 0,.bool false] 81):=⟨_,rfl⟩
 have HW0:Hid (w0=((w.alloc (.cells #[.slice (some ⟨b,off,none⟩) C.length cap,.int .i64 loops,.slice (some ⟨gF,0,none⟩) (2*C.length+1) cF,.slice (some ⟨gT,0,none⟩) (2*C.length+1) cT] 41)).alloc (.cells #[.int .i64 jA,.bool jB] 81)).alloc (.cells #[.int .i64 0,.bool false] 81)):=hw0
 have hs0:w0.heap.size=w.heap.size+3:=by rw[hw0];simp
 have HB0:Hid (Below w.heap.size w w0):=(by rw[hw0];exact below3 _ _ _ _:Below w.heap.size w w0)
 have HT0:Hid (w0.heap[w.heap.size]?=some (.cells #[.slice (some ⟨b,off,none⟩) C.length cap,.int .i64 loops,.slice (some ⟨gF,0,none⟩) (2*C.length+1) cF,.slice (some ⟨gT,0,none⟩) (2*C.length+1) cT] 41 (0,0))):=(by rw[hw0];exact alloc_old (alloc_old (alloc_at rfl)):w0.heap[w.heap.size]?=some (.cells #[.slice (some ⟨b,off,none⟩) C.length cap,.int .i64 loops,.slice (some ⟨gF,0,none⟩) (2*C.length+1) cF,.slice (some ⟨gT,0,none⟩) (2*C.length+1) cT] 41 (0,0)))
 have HT2:Hid (w0.heap[w.heap.size+1+1]?=some (.cells #[.int .i64 0,.bool false] 81 (0,0))):=(by rw[hw0];exact alloc_at (by simp):w0.heap[w.heap.size+1+1]?=some (.cells #[.int .i64 0,.bool false] 81 (0,0)))
 have HD0:Hid (Dr w0 (some ⟨b,off,none⟩) cap C gF gT):=HD.out.on HB0.out
 clear hw0 hC
 go_enter Tryz.func62,Tryz.ntmps62
 go_wp2_with (go_at_call 66;rw[<-HW0.out];refine(HE.out _ HD0.out).mono ?_;rintro e9 w1 ⟨rfl,hb1⟩;refine Hid.out ?_)
 refine Lib.hid ?_
 have hs1:=hb1.size
 have g0:=(hb1.block _ (by omega)).trans HT0.out
 have HG2:Hid (w1.heap[w.heap.size+1+1]?=some (.cells #[.int .i64 0,.bool false] 81 (0,0))):=(hb1.block _ (by omega)).trans HT2.out
 have HB1:Hid (Below w.heap.size w w1):=HB0.out.trans (hb1.mono (by omega))
 have p0:w1.cell? ⟨w.heap.size,0,none⟩=some (.slice (some ⟨b,off,none⟩) C.length cap):=block_cell g0 rfl
 have p1:w1.cell? ⟨w.heap.size,1,none⟩=some (.int .i64 loops):=block_cell g0 rfl
 have p2:w1.cell? ⟨w.heap.size,2,none⟩=some (.slice (some ⟨gF,0,none⟩) (2*C.length+1) cF):=block_cell g0 rfl
 have p3:w1.cell? ⟨w.heap.size,3,none⟩=some (.slice (some ⟨gT,0,none⟩) (2*C.length+1) cT):=block_cell g0 rfl
 have l0:w.heap.size<w1.heap.size:=by omega
 obtain⟨X,hX⟩:∃ X,X=w1.alloc (.cells #[.int .i64 i,.int .i64 k2] 121):=⟨_,rfl⟩
 have HX:Hid (X=w1.alloc (.cells #[.int .i64 i,.int .i64 k2] 121)):=hX
 have H1X:Hid (Below w1.heap.size w1 X):=(by rw[hX];exact(Below.refl _ _).alloc (Nat.le_refl _) _:Below w1.heap.size w1 X)
 have hsX:X.heap.size=w1.heap.size+1:=by rw[hX];simp
 have HBX:Hid (Below w.heap.size w X):=HB1.out.trans (H1X.out.mono HB1.out.size)
 have HCX:Hid (CrossAt X b off C):=HC.out.on HBX.out hbw
 clear hb1 g0 hX
 go_wp2_with (go_at_call 80;rw[<-HX.out];refine(leaving_any b off cap C loops _ _ i k2 _ hi hk24 (by omega) HCX.out).mono ?_;rw[HF1.out,HF2.out];rintro e9 w2 ⟨rfl,hb2⟩;refine Hid.out ?_)
 refine Lib.hid ?_
 have hs2:=hb2.size
 have g2:=(hb2.block _ (by omega)).trans ((H1X.out.block _ (by omega)).trans HG2.out)
 have r0:=block_cell (i:=0) (v:=.int .i64 0) g2 rfl
 have r1:=block_cell (i:=1) (v:=.bool false) g2 rfl
 have f0:=block_frozen (i:=0) g2
 have f1:=block_frozen (i:=1) g2
 have lr:w.heap.size+1+1<w2.heap.size:=by omega
 have HB2:Hid (Below w.heap.size w w2):=HBX.out.trans (hb2.mono (by omega))
 have HGG:Hid (w2.heap[w.heap.size+1+1]?=some (.cells #[.int .i64 0,.bool false] 81 (0,0))):=g2
 clear hb2 g2 p0 p1 p2 p3
 go_wp2
 have hX2:=set_block (i:=1) (u:=.bool zB) (set_block (i:=0) (u:=.int .i64 zA) HGG.out)
 have x0:=block_cell (i:=0) (v:=.int .i64 zA) hX2 rfl
 have x1:=block_cell (i:=1) (v:=.bool zB) hX2 rfl
 exact bodyPost_ret (v:=.agg #[.int .i64 zA,.bool zB]) (by simp[results,Tryz.results62,go_sem,x0,x1]) rfl ⟨rfl,HB2.out.grown (st2_grown w2 (w.heap.size+1+1) 0 (.int .i64 zA) (.bool zB)) (by omega) (fun q hq=>by have:=Option.some.inj hq;omega)⟩
end Go.Proofs.YtmnejkaihjpejaaGreatDoor
/- The walk of ref.FacesOf. -/
namespace Go.Proofs.YtmnejkaihjpejaaGreatDoor
open Go.RowKit
def dd (l:List Nat):List (Nat×Bool):=l.map fun j=>(dA j,dB j)
theorem dd_app (l:List Nat) (j:Nat):dd (l++[j])=dd l++[(dA j,dB j)]:=by simp[dd]
theorem dd_len (l:List Nat):(dd l).length=l.length:=by simp[dd]
def DartsOwn (w:World) (B:Nat) (v:Value) (L:List (List Nat)):Prop:=
 ∃ ys:List Value,ys.length=L.length/\w.ownsRow B 79 1 v ys.length ys/\∀ j,j<L.length->w.ownsRow B 81 2 (ys.getD j (.bool false)) (L.getD j []).length (vflat (dd (L.getD j [])))
theorem infoDart:(Tryz.prog.info? 81).map (fun i=>(i.zero,i.size,i.bytes))=some (some (.agg #[.int .i64 0,.bool false]),2,16):=by kernel_rfl
theorem infoDarts:(Tryz.prog.info? 79).map (fun i=>(i.zero,i.size,i.bytes))=some (some (.slice none 0 0),1,24):=by kernel_rfl
theorem code_d {x:Nat} (_h:1<=x):(if dB x=true then 2*dA x+1 else 2*dA x)=x+1:=by
 unfold dB dA
 split
 · rename_i hd;simp at hd;omega
 · rename_i hd;simp at hd;omega
theorem bools_at (seen:List Bool) (x:Nat) (h:x<seen.length):(bools (false::seen))[x+1]?=some (.bool (seen.getD x true)):=by
 simp[bools,List.getD_eq_getElem?_getD,h]
theorem bools_put (seen:List Bool) (x:Nat):(bools (false::seen)).set (x+1) (.bool true)=bools (false::seen.set x true):=by
 simp[bools]
theorem new_cell2' {W:World} {s:Nat} (hs:s=W.heap.size) (a b:Value) (e:TypeId):∀ j u,[a,b][j]?=some u->(W.alloc (.cells #[a,b] e)).cell? ((⟨s,0,none⟩:Addr).add j)=some u:=by
 intro j u hu
 subst hs
 have hg:(W.alloc (.cells #[a,b] e)).heap[W.heap.size]?=some (.cells #[a,b] e (0,0)):=alloc_at rfl
 have hadd:∀ j,(⟨W.heap.size,0,none⟩:Addr).add j=⟨W.heap.size,j,none⟩:=fun j=>by unfold Addr.add;split<;>simp_all
 rw[hadd,cell_of_row _ _ _ _ _ _ hg]
 simpa using hu
end Go.Proofs.YtmnejkaihjpejaaGreatDoor
/- The walk of ref.PiecesOf. -/
namespace Go.Proofs.YtmnejkaihjpejaaGreatDoor
open Go.RowKit
theorem made_zeroN (n:Nat):(madeCells (Value.int .i64 0).cells (n*1)).toList=nats (List.replicate n 0):=by
 have e:(Value.int .i64 0).cells=#[Value.int .i64 0]:=rfl
 rw[e,toList_madeCells_one,Nat.mul_one]
 simp[nats]
theorem nats_set (l:List Nat) (i z:Nat):(nats l).set i (.int .i64 (z:Nat))=nats (l.set i z):=by simp[nats,List.map_set]
def labTo (n i:Nat):List Nat:=(List.range n).map fun v=>if v<i then v else 0
theorem labTo_zero (n:Nat):List.replicate n 0=labTo n 0:=by
 refine List.ext_getElem (by simp[labTo]) fun j h1 h2=>?_
 simp[labTo]
theorem labTo_next (n i:Nat):(labTo n i).set i i=labTo n (i+1):=by
 refine List.ext_getElem (by simp[labTo]) fun j h1 h2=>?_
 simp only[List.getElem_set,labTo,List.getElem_map,List.getElem_range]
 split
 · rename_i h;subst h;simp
 · rename_i h
   by_cases h3:j<i
   · rw[if_pos h3,if_pos (by omega)]
   · rw[if_neg h3,if_neg (by omega)]
theorem labTo_all (n:Nat):labTo n n=List.range n:=by
 refine List.ext_getElem (by simp[labTo]) fun j h1 h2=>?_
 simp only[labTo,List.getElem_map,List.getElem_range]
 rw[if_pos (by simpa[labTo] using h1)]
end Go.Proofs.YtmnejkaihjpejaaGreatDoor
/- Rings of darts in a world; the walk of ref.PlanarIs. -/
namespace Go.Proofs.YtmnejkaihjpejaaGreatDoor
open Go.RowKit
def RingsAt (w:World) (B:Nat) (v:Value) (L:List (List Nat)):Prop:=∃ a cap,v=.slice a L.length cap/\(0<L.length->∃ b off,a=some ⟨b,off,none⟩/\b<w.heap.size/\B<=b/\∀ j,j<L.length->∃ g c,w.cell? ⟨b,off+j,none⟩=some (.slice (some ⟨g,0,none⟩) (L.getD j []).length c)/\g<w.heap.size/\B<=g/\∀ k,k<(L.getD j []).length->w.cell? ⟨g,k*2,none⟩=some (.int .i64 (dA ((L.getD j []).getD k 0):Nat))/\w.cell? ⟨g,k*2+1,none⟩=some (.bool (dB ((L.getD j []).getD k 0))))
theorem RingsAt.on {w w':World} {B:Nat} {v:Value} {L:List (List Nat)} (h:RingsAt w B v L) (hb:Below w.heap.size w w'):RingsAt w' B v L:=by
 obtain⟨a,cap,rfl,f⟩:=h
 refine⟨a,cap,rfl,fun h0=>?_⟩
 obtain⟨b,off,rfl,hlt,hB,hc⟩:=f h0
 refine⟨b,off,rfl,Nat.lt_of_lt_of_le hlt hb.size,hB,fun j hj=>?_⟩
 obtain⟨g,c,h1,h2,hG,h3⟩:=hc j hj
 exact⟨g,c,bcell hb hlt h1,Nat.lt_of_lt_of_le h2 hb.size,hG,fun k hk=>⟨bcell hb h2 (h3 k hk).1,bcell hb h2 (h3 k hk).2⟩⟩
theorem dd_get (l:List Nat) (k:Nat) (hk:k<l.length):(dd l).getD k (0,false)=(dA (l.getD k 0),dB (l.getD k 0)):=by
 simp[dd,List.getD_eq_getElem?_getD,hk]
theorem DartsOwn.rings {w:World} {B:Nat} {v:Value} {L:List (List Nat)} (h:DartsOwn w B v L) (hn:∀ j,j<L.length->0<(L.getD j []).length):RingsAt w B v L:=by
 obtain⟨ys,h1,h2,h3⟩:=h
 obtain⟨a,cap,ev,f⟩:=slots_of_own h2
 refine⟨a,cap,by rw[ev,h1],fun h0=>?_⟩
 obtain⟨b,off,ea,hlt,hc⟩:=f (by omega)
 refine⟨b,off,ea,hlt,(h2.lt b (by rw[ev,ea];rfl)).1,fun j hj=>?_⟩
 have hr:=h3 j hj
 have hpos:=hn j hj
 have hcell:=hc j (by omega)
 rcases hr.2 with⟨_,hz⟩|⟨g,c,cur,e1,hBg,hg,_,_,_,htk⟩
 · omega
 · rw[e1]at hcell
   refine⟨g,c,hcell,(Array.getElem?_eq_some_iff.1 hg).1,hBg,fun k hk=>?_⟩
   have hv:=vflat_get (dd (L.getD j [])) k (by rw[dd_len];exact hk)
   rw[dd_get _ k hk]at hv
   have hcl:=fun(o:Nat) (u:Value) (hu:(vflat (dd (L.getD j [])))[o]?=some u)=>hr.cells (g:=g) (by rw[e1];rfl) o u hu
   have hadd:∀ o,(⟨g,0,none⟩:Addr).add o=⟨g,o,none⟩:=fun o=>by unfold Addr.add;split<;>simp_all
   have a1:=hcl _ _ hv.1
   have a2:=hcl _ _ hv.2
   rw[hadd]at a1 a2
   exact⟨a1,a2⟩
theorem facesM_facts {C:List Cr} {loops:Int} (hm:mayD C loops=true):(facesM C).length<=4*C.length/\∀ j,j<(facesM C).length->0<((facesM C).getD j []).length/\((facesM C).getD j []).length<=4*C.length+1/\∀ k,k<((facesM C).getD j []).length->1<=((facesM C).getD j []).getD k 0/\((facesM C).getD j []).getD k 0<=4*C.length:=by
 refine⟨walksTo_count _ _ _,fun j hj=>?_⟩
 have hmem:(facesM C).getD j []∈facesM C:=by rw[List.getD_eq_getElem?_getD,List.getElem?_eq_getElem hj];exact List.getElem_mem hj
 obtain⟨h1,h2,h3⟩:=walksTo_mem (fd_closed hm) (4*C.length) (Nat.le_refl _) _ hmem
 refine⟨List.length_pos_iff.2 h1,h2,fun k hk=>h3 _ ?_⟩
 generalize (facesM C).getD j []=l at hk ⊢
 rw[List.getD_eq_getElem?_getD,List.getElem?_eq_getElem hk]
 exact List.getElem_mem hk
theorem facesM_pos {C:List Cr} (h:0<C.length):0<(facesM C).length:=by
 have h1:=walks_once (fd C) (4*C.length) 1 (Nat.le_refl _) (by omega)
 unfold facesM
 cases hl:(walksTo (fd C) (4*C.length) (4*C.length)).1 with
 |nil=>rw[hl]at h1;simp at h1
 |cons x l=>simp
def headsM (C:List Cr):List Nat:=(facesM C).map fun l=>dC C (l.getD 0 0)
theorem headsM_len (C:List Cr):(headsM C).length=(facesM C).length:=by simp[headsM]
theorem headsM_at (C:List Cr) (i:Nat) (hi:i<(facesM C).length):(headsM C).getD i 0=dC C (((facesM C).getD i []).getD 0 0):=by
 simp[headsM,List.getD_eq_getElem?_getD,hi]
theorem headsM_lt {C:List Cr} {loops:Int} (hm:mayD C loops=true):∀ g,g∈headsM C->g<C.length:=fun g hg=>by
 obtain⟨l,hl,rfl⟩:=List.mem_map.1 hg
 obtain⟨j,hj,rfl⟩:=List.getElem_of_mem hl
 obtain⟨h1,_,h3⟩:=(facesM_facts hm).2 j hj
 have e:(facesM C).getD j []=(facesM C)[j]:=by rw[List.getD_eq_getElem?_getD,List.getElem?_eq_getElem hj];rfl
 rw[e]at h1 h3
 exact(d_may hm _ (h3 0 h1).1 (h3 0 h1).2).2.1
def whoM (C:List Cr):List Nat:=levR (List.range C.length) (arcE C) C.length
def planarB (C:List Cr):Bool:=(List.range C.length).all fun p=>!decide ((whoM C).getD p 0=p)||decide (exN C.length (headsM C) (whoM C) p=2)
theorem planarB_iff (C:List Cr):planarB C=true↔∀ p,p<C.length->(whoM C).getD p 0=p->exN C.length (headsM C) (whoM C) p=2:=by
 unfold planarB
 rw[List.all_eq_true]
 constructor
 · intro h p hp e
   have:=h p (List.mem_range.2 hp)
   rw[e]at this
   simpa only[decide_true,Bool.not_true,Bool.false_or,decide_eq_true_eq] using this
 · intro h p hp
   by_cases e:(whoM C).getD p 0=p
   · simp only[e,decide_true,Bool.not_true,Bool.false_or,decide_eq_true_eq];exact h p (List.mem_range.1 hp) e
   · simp only[e,decide_false,Bool.not_false,Bool.true_or]
theorem whoM_least {C:List Cr} {loops:Int} (hm:mayD C loops=true):Least (arcE C) C.length (whoM C):=levR_least (arcE_lt hm) C.length (Nat.le_refl _)
end Go.Proofs.YtmnejkaihjpejaaGreatDoor
/- Plain mathematics: in a planar diagram of one piece a set of arcs that comes to each crossing an even number of times parts two sets of faces. -/
namespace Go.Proofs.YtmnejkaihjpejaaGreatDoor
theorem xs_swap (h:Nat->Nat->Bool) (m n:Nat):xs (fun i=>xs (fun j=>h i j) n) m=xs (fun j=>xs (fun i=>h i j) m) n:=by
 induction m with
 |zero=>
  have:xs (fun j=>xs (fun i=>h i j) 0) n=false:=xs_none fun _ _=>rfl
  rw[this];rfl
 |succ m ih=>
  have:xs (fun j=>xs (fun i=>h i j) (m+1)) n=xor (xs (fun j=>xs (fun i=>h i j) m) n) (xs (fun j=>h m j) n):=by
   rw[<-xs_xor]
   rfl
  rw[this,<-ih]
  rfl
theorem xs_only {n q:Nat} (hq:q<n) (b:Bool):xs (fun j=>decide (j=q)&&b) n=b:=by
 cases b with
 |false=>exact xs_none fun _ _=>by simp
 |true=>exact xs_last hq (by simp) (fun j hj=>by simp;omega) (fun j h1 _=>by simp;omega)
theorem xs_perm {M:Nat} (h:Nat->Bool) (p r:Nat->Nat) (hp:∀ j,j<M->p j<M) (hr:∀ q,q<M->r q<M) (h1:∀ j,j<M->r (p j)=j) (h2:∀ q,q<M->p (r q)=q):xs h M=xs (fun q=>h (r q)) M:=by
 have e1:xs h M=xs (fun j=>xs (fun q=>decide (q=p j)&&h j) M) M:=xs_congr fun j hj=>(xs_only (hp j hj) (h j)).symm
 have e2:xs (fun q=>h (r q)) M=xs (fun q=>xs (fun j=>decide (q=p j)&&h j) M) M:=xs_congr fun q hq=>by
  rw[<-xs_only (hr q hq) (h (r q))]
  refine xs_congr fun j hj=>?_
  by_cases e:j=r q
  · subst e
    rw[h2 q hq]
    simp
  · have:¬ q=p j:=fun e3=>e (by rw[e3,h1 j hj])
    simp[e,this]
 rw[e1,e2,xs_swap]
theorem xs_two (h:Nat->Bool) (m:Nat):xs h (2*m)=xs (fun i=>xor (h (2*i)) (h (2*i+1))) m:=by
 induction m with
 |zero=>rfl
 |succ m ih=>
  rw[show 2*(m+1)=2*m+1+1 by omega]
  simp only[xs]
  rw[ih]
  cases xs (fun i=>xor (h (2*i)) (h (2*i+1))) m<;>cases h (2*m)<;>cases h (2*m+1)<;>rfl
theorem xs_four (h:Nat->Bool) (m:Nat):xs h (4*m)=xs (fun k=>xor (xor (h (4*k)) (h (4*k+1))) (xor (h (4*k+2)) (h (4*k+3)))) m:=by
 induction m with
 |zero=>rfl
 |succ m ih=>
  rw[show 4*(m+1)=4*m+1+1+1+1 by omega]
  simp only[xs]
  rw[ih]
  cases xs (fun k=>xor (xor (h (4*k)) (h (4*k+1))) (xor (h (4*k+2)) (h (4*k+3)))) m<;>cases h (4*m)<;>cases h (4*m+1)<;>cases h (4*m+2)<;>cases h (4*m+3)<;>rfl
def aAt (C:List Cr) (k s:Nat):Nat:=((C.getD k Cr.none).arc s).toNat
theorem en_side {C:List Cr} {loops:Int} (hm:mayD C loops=true) (k s:Nat) (hk:k<C.length) (hs:s<4):enC C (aAt C k s) ((C.getD k Cr.none).comes s)=k/\enS C (aAt C k s) ((C.getD k Cr.none).comes s)=s/\1<=aAt C k s/\aAt C k s<=2*C.length:=by
 have hf:=may_fit hm k s hk hs
 have g1:=hf.1
 have g2:=hf.2.1
 have ha:1<=aAt C k s/\aAt C k s<=2*C.length:=by unfold aAt;omega
 have e:=end_one hm (aAt C k s) ha.1 ha.2 ((C.getD k Cr.none).comes s) k s hk hs (by unfold aAt;omega) rfl
 refine⟨?_,?_,ha.1,ha.2⟩
 · unfold enC;rw[e];rfl
 · unfold enS;rw[e];rfl
theorem xs_sides {C:List Cr} {loops:Int} (hm:mayD C loops=true) (S d:Nat->Bool):xs (fun i=>xor (S (enC C (i+1) true)) (S (enC C (i+1) false))&&d (i+1)) (2*C.length)=xs (fun k=>S k&&xor (xor (d (aAt C k 0)) (d (aAt C k 1))) (xor (d (aAt C k 2)) (d (aAt C k 3)))) C.length:=by
 have e1:xs (fun i=>xor (S (enC C (i+1) true)) (S (enC C (i+1) false))&&d (i+1)) (2*C.length)=xs (fun j=>S (enC C (dA (j+1)) (dB (j+1)))&&d (dA (j+1))) (2*(2*C.length)):=by
  refine Eq.trans ?_ (xs_two (fun j=>S (enC C (dA (j+1)) (dB (j+1)))&&d (dA (j+1))) (2*C.length)).symm
  refine xs_congr fun i _=>?_
  have a1:dA (2*i+1)=i+1:=by unfold dA;omega
  have a2:dA (2*i+1+1)=i+1:=by unfold dA;omega
  have b1:dB (2*i+1)=false:=by unfold dB;exact decide_eq_false (by omega)
  have b2:dB (2*i+1+1)=true:=by unfold dB;exact decide_eq_true (by omega)
  rw[a1,a2,b1,b2]
  cases S (enC C (i+1) true)<;>cases S (enC C (i+1) false)<;>cases d (i+1)<;>rfl
 rw[e1,show 2*(2*C.length)=4*C.length by omega]
 rw [xs_perm (fun j => S (enC C (dA (j + 1)) (dB (j + 1))) && d (dA (j + 1))) (fun j => 4 * enC C (dA (j + 1)) (dB (j + 1)) + enS C (dA (j + 1)) (dB (j + 1))) (fun q => mkD (aAt C (q / 4) (q % 4)) ((C.getD (q / 4) Cr.none).comes (q % 4)) - 1)
  (fun j hj => by
   have hA:=dA_le (j:=j+1) (n:=C.length) (by omega) (by omega)
   have h:=en_may hm (dA (j+1)) (dB (j+1)) hA.1 hA.2
   omega)
  (fun q hq => by
   have h:=en_side hm (q / 4) (q%4) (by omega) (by omega)
   have h2:=mk_le (p:=(C.getD (q / 4) Cr.none).comes (q%4)) h.2.2.1 h.2.2.2
   omega)
  (fun j hj => by
   have hA:=dA_le (j:=j+1) (n:=C.length) (by omega) (by omega)
   obtain⟨-,h2,h3,h4,h5⟩:=en_may hm (dA (j+1)) (dB (j+1)) hA.1 hA.2
   have q1:(4*enC C (dA (j+1)) (dB (j+1))+enS C (dA (j+1)) (dB (j+1))) / 4=enC C (dA (j+1)) (dB (j+1)):=by omega
   have q2:(4*enC C (dA (j+1)) (dB (j+1))+enS C (dA (j+1)) (dB (j+1)))%4=enS C (dA (j+1)) (dB (j+1)):=by omega
   simp only[q1,q2]
   have e:aAt C (enC C (dA (j+1)) (dB (j+1))) (enS C (dA (j+1)) (dB (j+1)))=dA (j+1):=by unfold aAt;rw[h4];omega
   rw[e,h5,mk_d (by omega)]
   omega)
  (fun q hq => by
   have h:=en_side hm (q / 4) (q%4) (by omega) (by omega)
   have h2:=mk_le (p:=(C.getD (q / 4) Cr.none).comes (q%4)) h.2.2.1 h.2.2.2
   have e:mkD (aAt C (q / 4) (q%4)) ((C.getD (q / 4) Cr.none).comes (q%4))-1+1=mkD (aAt C (q / 4) (q%4)) ((C.getD (q / 4) Cr.none).comes (q%4)):=by omega
   simp only[e]
   rw[dA_mk h.2.2.1,dB_mk h.2.2.1,h.1,h.2.1]
   omega)]
 rw[xs_four]
 refine xs_congr fun k hk=>?_
 have side:∀ s,s<4->(S (enC C (dA (mkD (aAt C ((4*k+s) / 4) ((4*k+s)%4)) ((C.getD ((4*k+s) / 4) Cr.none).comes ((4*k+s)%4))-1+1)) (dB (mkD (aAt C ((4*k+s) / 4) ((4*k+s)%4)) ((C.getD ((4*k+s) / 4) Cr.none).comes ((4*k+s)%4))-1+1)))&&d (dA (mkD (aAt C ((4*k+s) / 4) ((4*k+s)%4)) ((C.getD ((4*k+s) / 4) Cr.none).comes ((4*k+s)%4))-1+1)))=(S k&&d (aAt C k s)):=fun s hs=>by
  rw[show(4*k+s) / 4=k by omega,show(4*k+s)%4=s by omega]
  have h:=en_side hm k s hk hs
  have h2:=mk_le (p:=(C.getD k Cr.none).comes s) h.2.2.1 h.2.2.2
  rw[show mkD (aAt C k s) ((C.getD k Cr.none).comes s)-1+1=mkD (aAt C k s) ((C.getD k Cr.none).comes s) by omega,dA_mk h.2.2.1,dB_mk h.2.2.1,h.1]
 have s0:=side 0 (by omega)
 simp only[Nat.add_zero]at s0
 rw[s0,side 1 (by omega),side 2 (by omega),side 3 (by omega)]
 cases S k<;>cases d (aAt C k 0)<;>cases d (aAt C k 1)<;>cases d (aAt C k 2)<;>cases d (aAt C k 3)<;>rfl
def cor (C:List Cr) (k s:Nat):Nat:=fo C (mkD (aAt C k s) ((C.getD k Cr.none).comes s))
theorem cor_back {C:List Cr} {loops:Int} (hm:mayD C loops=true) (k s:Nat) (hk:k<C.length) (hs:s<4):fo C (mkD (aAt C k s) (!(C.getD k Cr.none).comes s))=cor C k ((s+3)%4):=by
 have h:=en_side hm k s hk hs
 have h2:=mk_le (p:=!(C.getD k Cr.none).comes s) h.2.2.1 h.2.2.2
 rw[<-fo_fd hm _ h2.1 h2.2]
 unfold cor fd dC dS
 rw[dA_mk h.2.2.1,dB_mk h.2.2.1,Bool.not_not,h.1,h.2.1]
 rfl
def dfE (C:List Cr) (i:Nat):Nat×Nat:=(fo C (mkD (i+1) true),fo C (mkD (i+1) false))
def arE (C:List Cr) (i:Nat):Nat×Nat:=(enC C (i+1) true,enC C (i+1) false)
def sides (C:List Cr) (g:Nat->Bool) (a:Nat):Bool:=xor (g (fo C (mkD a true))) (g (fo C (mkD a false)))
theorem sides_at {C:List Cr} {loops:Int} (hm:mayD C loops=true) (g:Nat->Bool) (k s:Nat) (hk:k<C.length) (hs:s<4):sides C g (aAt C k s)=xor (g (cor C k s)) (g (cor C k ((s+3)%4))):=by
 have h:=cor_back hm k s hk hs
 unfold sides
 unfold cor at h ⊢
 rw[<-h]
 cases (C.getD k Cr.none).comes s<;>simp[Bool.xor_comm]
theorem sides_even {C:List Cr} {loops:Int} (hm:mayD C loops=true) (g:Nat->Bool) (k:Nat) (hk:k<C.length):xor (xor (sides C g (aAt C k 0)) (sides C g (aAt C k 1))) (xor (sides C g (aAt C k 2)) (sides C g (aAt C k 3)))=false:=by
 rw[sides_at hm g k 0 hk (by omega),sides_at hm g k 1 hk (by omega),sides_at hm g k 2 hk (by omega),sides_at hm g k 3 hk (by omega)]
 show xor (xor (xor (g (cor C k 0)) (g (cor C k 3))) (xor (g (cor C k 1)) (g (cor C k 0)))) (xor (xor (g (cor C k 2)) (g (cor C k 1))) (xor (g (cor C k 3)) (g (cor C k 2))))=false
 cases g (cor C k 0)<;>cases g (cor C k 1)<;>cases g (cor C k 2)<;>cases g (cor C k 3)<;>rfl
theorem cross_even {C:List Cr} {loops:Int} (hm:mayD C loops=true) (S g:Nat->Bool):xs (fun i=>xor (S (arE C i).1) (S (arE C i).2)&&xor (g (dfE C i).1) (g (dfE C i).2)) (2*C.length)=false:=by
 have h:=xs_sides hm S (sides C g)
 refine Eq.trans ?_ (h.trans (xs_none fun k hk=>?_))
 · rfl
 · rw[sides_even hm g k hk,Bool.and_false]
theorem rt_one {W:List Nat} {n v:Nat} (h:∀ u,u<n->W.getD u 0=v):∀ k,k<=n->rt W k<=1/\(k<=v->rt W k=0):=by
 intro k
 induction k with
 |zero=>intro _;exact⟨Nat.zero_le _,fun _=>rfl⟩
 |succ k ih=>
  intro hk
  obtain⟨i1,i2⟩:=ih (by omega)
  simp only[rt]
  have e:=h k (by omega)
  by_cases hr:W.getD k 0=k
  · rw[if_pos hr]
    have:=i2 (by omega)
    exact⟨by omega,fun _=>by omega⟩
  · rw[if_neg hr]
    exact⟨by omega,fun _=>by have:=i2 (by omega);omega⟩
theorem incl_all {E:Nat->Nat×Nat} {m:Nat}:incl E (fun _=>true) m=(List.range m).map E:=by
 induction m with
 |zero=>rfl
 |succ m ih=>simp only[incl,if_true];rw[ih,List.range_succ,List.map_append];rfl
theorem faces_joined {C:List Cr} {loops:Int} (hm:mayD C loops=true) (h1:∀ k,k<C.length->Con (arcE C) 0 k) (k s:Nat) (hk:k<C.length) (hs:s<4):Con (incl (dfE C) (fun _=>true) (2*C.length)) (cor C 0 0) (cor C k s):=by
 intro T hT h0
 -- across an arc
 have hedge:∀ a,1<=a->a<=2*C.length->∀ p q,T (fo C (mkD a p))->T (fo C (mkD a q)):=fun a ha1 ha2 p q=>by
  have he:=hT _ (incl_mem.2 ⟨a-1,by omega,rfl,rfl⟩:dfE C (a-1)∈_)
  unfold dfE at he
  rw[show a-1+1=a by omega]at he
  cases p<;>cases q<;>simp only at he ⊢
  · exact id
  · exact he.2
  · exact he.1
  · exact id
 have hturn:∀ k s,k<C.length->s<4->(T (cor C k s)↔T (cor C k ((s+3)%4))):=fun k s hk hs=>by
  have h:=en_side hm k s hk hs
  rw[<-cor_back hm k s hk hs]
  unfold cor
  exact⟨hedge _ h.2.2.1 h.2.2.2 _ _,hedge _ h.2.2.1 h.2.2.2 _ _⟩
 have hall:∀ k,k<C.length->(∀ s,s<4->(T (cor C k s)↔T (cor C k 0))):=fun k hk s hs=>by
  have t1:=hturn k 1 hk (by omega)
  have t2:=hturn k 2 hk (by omega)
  have t3:=hturn k 3 hk (by omega)
  simp only[Nat.reduceAdd,Nat.reduceMod]at t1 t2 t3
  have:s=0∨s=1∨s=2∨s=3:=by omega
  rcases this with rfl|rfl|rfl|rfl
  · exact Iff.rfl
  · exact t1
  · exact t2.trans t1
  · exact t3.trans (t2.trans t1)
 have key : (fun c => c < C.length → T (cor C c 0)) k := h1 k hk (fun c => c < C.length → T (cor C c 0)) (fun e he => by
  obtain⟨i,hi,rfl⟩:=List.mem_map.1 he
  have hi2:=List.mem_range.1 hi
  have u:=en_may hm (i+1) true (by omega) (by omega)
  have v:=en_may hm (i+1) false (by omega) (by omega)
  have eu:fo C (mkD (i+1) true)=cor C (enC C (i+1) true) (enS C (i+1) true):=by
   unfold cor aAt
   rw[u.2.2.2.1,u.2.2.2.2]
   rfl
  have ev:fo C (mkD (i+1) false)=cor C (enC C (i+1) false) (enS C (i+1) false):=by
   unfold cor aAt
   rw[v.2.2.2.1,v.2.2.2.2]
   rfl
  have iu:=hall _ u.2.1 _ u.2.2.1
  have iv:=hall _ v.2.1 _ v.2.2.1
  rw[<-eu]at iu
  rw[<-ev]at iv
  have hx:=hedge (i+1) (by omega) (by omega)
  constructor
  · intro q _
    exact iv.1 (hx true false (iu.2 (q u.2.1)))
  · intro q _
    exact iu.1 (hx false true (iv.2 (q v.2.1)))) (fun _=>h0)
 exact(hall k hk s hs).2 (key hk)
end Go.Proofs.YtmnejkaihjpejaaGreatDoor
/- Plain mathematics: a planar diagram of one piece: an even set of arcs parts two sets of faces. -/
namespace Go.Proofs.YtmnejkaihjpejaaGreatDoor
theorem countP_all {α:Type} {p:α->Bool} {l:List α} (h:∀ x,x∈l->p x=true):l.countP p=l.length:=List.countP_eq_length.2 h
theorem euler_one {C:List Cr} {loops:Int} (hm:mayD C loops=true) (hp:planarB C=true) (h0:0<C.length) (h1:∀ k,k<C.length->Con (arcE C) 0 k):(facesM C).length=C.length+2:=by
 have hW:=whoM_least hm
 have w0:(whoM C).getD 0 0=0:=by have:=hW.le h0;omega
 have hall:∀ v,v<C.length->(whoM C).getD v 0=0:=fun v hv=>by rw[<-(hW.same h0 hv).2 (h1 v hv)];exact w0
 have h:=(planarB_iff C).1 hp 0 h0 w0
 unfold exN at h
 rw[countP_all (l:=headsM C) (fun g hg=>decide_eq_true (hall g (headsM_lt hm g hg))),countP_all (l:=List.range C.length) (fun v hv=>decide_eq_true (hall v (List.mem_range.1 hv))),headsM_len,List.length_range]at h
 omega
theorem fo_cor {C:List Cr} {loops:Int} (hm:mayD C loops=true) (j:Nat) (h1:1<=j) (h2:j<=4*C.length):∃ k s,k<C.length/\s<4/\fo C j=cor C k s:=by
 have hA:=dA_le h1 h2
 have u:=en_may hm (dA j) (dB j) hA.1 hA.2
 refine⟨_,_,u.2.1,u.2.2.1,?_⟩
 unfold cor aAt
 rw[u.2.2.2.1,u.2.2.2.2]
 show fo C j=fo C (mkD ((dA j:Int)).toNat (dB j))
 rw[Int.toNat_natCast,mk_d h1]
theorem face_cor {C:List Cr} {loops:Int} (hm:mayD C loops=true) (f:Nat) (hf:f<(facesM C).length):∃ k s,k<C.length/\s<4/\f=cor C k s:=by
 obtain⟨-,hh⟩:=facesM_facts hm
 obtain⟨g1,-,g3⟩:=hh f hf
 have hb:=g3 0 g1
 obtain⟨k,s,hk,hs,e⟩:=fo_cor hm _ hb.1 hb.2
 refine⟨k,s,hk,hs,?_⟩
 rw[<-e]
 have hmem:((facesM C).getD f []).getD 0 0∈(facesM C).getD f []:=at_mem g1
 exact((pt_mem (walks_once (fd C) (4*C.length) _ hb.1 hb.2) hf).1 hmem).symm
theorem planar_even {C : List Cr} {loops : Int} (hm : mayD C loops = true) (hp : planarB C = true) (h0 : 0 < C.length) (h1 : ∀ k, k < C.length → Con (arcE C) 0 k) (A : Nat → Bool)
    (hA:∀ k,k<C.length->xor (xor (A (aAt C k 0)) (A (aAt C k 1))) (xor (A (aAt C k 2)) (A (aAt C k 3)))=false):∃ g:Nat->Bool,∀ a,1<=a->a<=2*C.length->A a=sides C g a:=by
 have hE:∀ i,i<2*C.length->(arE C i).1<C.length/\(arE C i).2<C.length:=fun i hi=>⟨(en_may hm (i+1) true (by omega) (by omega)).2.1,(en_may hm (i+1) false (by omega) (by omega)).2.1⟩
 have hD:∀ i,i<2*C.length->(dfE C i).1<(facesM C).length/\(dfE C i).2<(facesM C).length:=fun i hi=>by
  have u:=mk_le (a:=i+1) (p:=true) (n:=C.length) (by omega) (by omega)
  have v:=mk_le (a:=i+1) (p:=false) (n:=C.length) (by omega) (by omega)
  exact⟨fo_lt _ u.1 u.2,fo_lt _ v.1 v.2⟩
 have hF:=euler_one hm hp h0 h1
 have r1:rt (cls (arE C) (fun _=>true) C.length (2*C.length)) C.length<=1:=by
  have hL:=cls_least (E:=arE C) (K:=fun _=>true) (n:=C.length) (m:=2*C.length) hE
  have e:incl (arE C) (fun _=>true) (2*C.length)=arcE C:=incl_all
  rw[e]at hL
  exact(rt_one (fun u hu=>(hL.same hu h0).2 (h1 u hu).symm) _ (Nat.le_refl _)).1
 have r2:rt (cls (dfE C) (fun _=>true) (facesM C).length (2*C.length)) (facesM C).length<=1:=by
  have hL:=cls_least (E:=dfE C) (K:=fun _=>true) (n:=(facesM C).length) (m:=2*C.length) hD
  have hc0:cor C 0 0<(facesM C).length:=by
   have h:=en_side hm 0 0 h0 (by omega)
   have u:=mk_le (p:=(C.getD 0 Cr.none).comes 0) h.2.2.1 h.2.2.2
   exact fo_lt _ u.1 u.2
  refine(rt_one (fun u hu=>(hL.same hu hc0).2 ?_) _ (Nat.le_refl _)).1
  obtain⟨k,s,hk,hs,rfl⟩:=face_cor hm u hu
  exact(faces_joined hm h1 k s hk hs).symm
 obtain ⟨g, hg⟩ := sphere_even hE hD (fun S g => cross_even hm S g) (by omega) (fun i => A (i + 1)) (fun S => by
  refine Eq.trans (xs_congr fun i _=>Bool.and_comm _ _) ((xs_sides hm S A).trans (xs_none fun k hk=>?_))
  rw[hA k hk,Bool.and_false])
 refine⟨g,fun a ha1 ha2=>?_⟩
 have:=hg (a-1) (by omega)
 rw[show a-1+1=a by omega]at this
 rw[this]
 unfold sides dfE
 rw[show a-1+1=a by omega]
theorem two_shades {C:List Cr} {loops:Int} (hm:mayD C loops=true) (hp:planarB C=true) (h0:0<C.length) (h1:∀ k,k<C.length->Con (arcE C) 0 k):∃ g:Nat->Bool,∀ a,1<=a->a<=2*C.length->sides C g a=true:=by
 obtain⟨g,hg⟩:=planar_even hm hp h0 h1 (fun _=>true) (fun _ _=>rfl)
 exact⟨g,fun a ha1 ha2=>(hg a ha1 ha2).symm⟩
end Go.Proofs.YtmnejkaihjpejaaGreatDoor
/- The walks of ref.level and ref.OversOf. -/
namespace Go.Proofs.YtmnejkaihjpejaaGreatDoor
open Go.RowKit
def ovL (C:List Cr) (k:Nat):List Nat:=(List.range k).map fun i=>ovM C (i+1)
theorem ovL_len (C:List Cr) (k:Nat):(ovL C k).length=k:=by simp[ovL]
theorem ovE_next (C:List Cr) (i:Nat) (hi:i<C.length):(ovE C).take (i+1)=(ovE C).take i++[((C.getD i Cr.none).b.toNat,(C.getD i Cr.none).d.toNat)]:=by
 rw[List.take_add_one]
 congr 1
 simp[ovE,hi,List.getD_eq_getElem?_getD]
theorem ovE_all (C:List Cr):(ovE C).take C.length=ovE C:=List.take_of_length_le (by simp[ovE])
end Go.Proofs.YtmnejkaihjpejaaGreatDoor

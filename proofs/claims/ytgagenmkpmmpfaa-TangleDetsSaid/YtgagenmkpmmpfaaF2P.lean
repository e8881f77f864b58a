/- Several texts of the proof, one behind the other. -/
import Derived.Test.YtgagenmkpmmpfaaF1P
import Derived.Deep.Cut
import Derived.Test.YtgagenmkpmmpfaaO0P
import Derived.Test.YtgagenmkpmmpfaaH7
/- The walks of Drawing.Onward and ref.NextDart. -/
namespace Go.Proofs.Ytgagenmkpmmpfaa
open Go.RowKit
set_option maxHeartbeats 4000000
set_option maxRecDepth 100000
theorem onward_any (a : Option Addr) (cap : Nat) (C : List Cr) (loops : Int) (gF cF gT cT : Nat) (j : Nat) (w : World) (hm : mayD C loops = true) (h1 : 1 ≤ j) (h2 : j ≤ 4 * C.length) (hD : Dr w a cap C gF gT) :
    Calls Try.prog 51 #[drV a cap C loops gF cF gT cT,.agg #[.int .i64 (dA j:Nat),.bool (dB j)]] w fun e w'=>e=.returned (.agg #[.int .i64 (dA (fd C j):Nat),.bool (dB (fd C j))])/\Below w.heap.size w w':=by
 have HM:Hid (mayD C loops=true):=hm
 have hA:=dA_le h1 h2
 obtain⟨-,hi,hs⟩:=d_may hm j h1 h2
 obtain⟨f1,f2,-,-⟩:=fd_may hm j h1 h2
 have HF1:Hid ((C.getD (dC C j) Cr.none).arc ((dS C j+3)%4)=(dA (fd C j):Int)):=f1
 have HF2:Hid ((C.getD (dC C j) Cr.none).comes ((dS C j+3)%4)=dB (fd C j)):=f2
 obtain⟨i,hci⟩:∃ i,dC C j=i:=⟨_,rfl⟩
 obtain⟨k,hck⟩:∃ k,dS C j=k:=⟨_,rfl⟩
 have HE:Hid (∀ W,Dr W a cap C gF gT->Calls Try.prog 35 #[drV a cap C loops gF cF gT cT,.agg #[.int .i64 (dA j:Nat),.bool (dB j)]] W fun e w'=>e=.returned (.agg #[.int .i64 (i:Nat),.int .i64 (k:Nat)])/\Below W.heap.size W w'):=fun W hW=>by
  rw[<-hci,<-hck]
  exact end_any a cap C loops gF cF gT cT (dA j) (dB j) W hm hA.1 hA.2 hW
 rw[hci,hck]at HF1 HF2
 rw[hci]at hi
 rw[hck]at hs
 generalize dA (fd C j)=zA at HF1 ⊢
 generalize dB (fd C j)=zB at HF2 ⊢
 obtain⟨k2,hk2⟩:∃ k2:Nat,k2=(k+3)%4:=⟨_,rfl⟩
 rw[<-hk2]at HF1 HF2
 have e0:IntKind.i64.wrap ((k:Int)+4)=(k:Int)+4:=IntWalk.i64_in _ (by omega)
 have e1:IntKind.i64.wrap ((k:Int)+4-1)=(k:Int)+4-1:=IntWalk.i64_in _ (by omega)
 have e2:((k:Int)+4-1).tmod 4=(k2:Int):=by rw[Int.tmod_eq_emod_of_nonneg (by omega)];omega
 have hk24:k2<4:=by omega
 have HD:Hid (Dr w a cap C gF gT):=hD
 clear hk2 hci hck f1 f2 hm hD
 obtain⟨b,off,rfl,hbw,hC⟩:=HD.out.cross (by omega)
 have HC:Hid (CrossAt w b off C):=hC
 unfold drV
 unfold drV at HE
 generalize dA j=jA at HE hA ⊢
 generalize dB j=jB at HE ⊢
 obtain⟨w0,hw0⟩:∃ w0,w0=((w.alloc (.cells #[.slice (some ⟨b,off,none⟩) C.length cap,.int .i64 loops,.slice (some ⟨gF,0,none⟩) (2*C.length+1) cF,.slice (some ⟨gT,0,none⟩) (2*C.length+1) cT] 52)).alloc (.cells #[.int .i64 jA,.bool jB] 90)).alloc (.cells #[.int .i64 0,.bool false] 90):=⟨_,rfl⟩
 have HW0:Hid (w0=((w.alloc (.cells #[.slice (some ⟨b,off,none⟩) C.length cap,.int .i64 loops,.slice (some ⟨gF,0,none⟩) (2*C.length+1) cF,.slice (some ⟨gT,0,none⟩) (2*C.length+1) cT] 52)).alloc (.cells #[.int .i64 jA,.bool jB] 90)).alloc (.cells #[.int .i64 0,.bool false] 90)):=hw0
 have hs0:w0.heap.size=w.heap.size+3:=by rw[hw0];simp
 have HB0:Hid (Below w.heap.size w w0):=(by rw[hw0];exact below3 _ _ _ _:Below w.heap.size w w0)
 have HT0:Hid (w0.heap[w.heap.size]?=some (.cells #[.slice (some ⟨b,off,none⟩) C.length cap,.int .i64 loops,.slice (some ⟨gF,0,none⟩) (2*C.length+1) cF,.slice (some ⟨gT,0,none⟩) (2*C.length+1) cT] 52 (0,0))):=(by rw[hw0];exact alloc_old (alloc_old (alloc_at rfl)):w0.heap[w.heap.size]?=some (.cells #[.slice (some ⟨b,off,none⟩) C.length cap,.int .i64 loops,.slice (some ⟨gF,0,none⟩) (2*C.length+1) cF,.slice (some ⟨gT,0,none⟩) (2*C.length+1) cT] 52 (0,0)))
 have HT2:Hid (w0.heap[w.heap.size+1+1]?=some (.cells #[.int .i64 0,.bool false] 90 (0,0))):=(by rw[hw0];exact alloc_at (by simp):w0.heap[w.heap.size+1+1]?=some (.cells #[.int .i64 0,.bool false] 90 (0,0)))
 have HD0:Hid (Dr w0 (some ⟨b,off,none⟩) cap C gF gT):=HD.out.on HB0.out
 clear hw0 hC
 go_enter Try.func51,Try.ntmps51
 go_wp2_with (go_at_call 35;rw[<-HW0.out];refine(HE.out _ HD0.out).mono ?_;rintro e9 w1 ⟨rfl,hb1⟩;refine Hid.out ?_)
 refine Lib.hid ?_
 have hs1:=hb1.size
 have g0:=(hb1.block _ (by omega)).trans HT0.out
 have HG2:Hid (w1.heap[w.heap.size+1+1]?=some (.cells #[.int .i64 0,.bool false] 90 (0,0))):=(hb1.block _ (by omega)).trans HT2.out
 have HB1:Hid (Below w.heap.size w w1):=HB0.out.trans (hb1.mono (by omega))
 have p0:w1.cell? ⟨w.heap.size,0,none⟩=some (.slice (some ⟨b,off,none⟩) C.length cap):=block_cell g0 rfl
 have p1:w1.cell? ⟨w.heap.size,1,none⟩=some (.int .i64 loops):=block_cell g0 rfl
 have p2:w1.cell? ⟨w.heap.size,2,none⟩=some (.slice (some ⟨gF,0,none⟩) (2*C.length+1) cF):=block_cell g0 rfl
 have p3:w1.cell? ⟨w.heap.size,3,none⟩=some (.slice (some ⟨gT,0,none⟩) (2*C.length+1) cT):=block_cell g0 rfl
 have l0:w.heap.size<w1.heap.size:=by omega
 obtain⟨X,hX⟩:∃ X,X=w1.alloc (.cells #[.int .i64 i,.int .i64 k2] 66):=⟨_,rfl⟩
 have HX:Hid (X=w1.alloc (.cells #[.int .i64 i,.int .i64 k2] 66)):=hX
 have H1X:Hid (Below w1.heap.size w1 X):=(by rw[hX];exact(Below.refl _ _).alloc (Nat.le_refl _) _:Below w1.heap.size w1 X)
 have hsX:X.heap.size=w1.heap.size+1:=by rw[hX];simp
 have HBX:Hid (Below w.heap.size w X):=HB1.out.trans (H1X.out.mono HB1.out.size)
 have HCX:Hid (CrossAt X b off C):=HC.out.on HBX.out hbw
 clear hb1 g0 hX
 go_wp2_with (go_at_call 59;rw[<-HX.out];refine(leaving_any b off cap C loops _ _ i k2 _ hi hk24 (by omega) HCX.out).mono ?_;rw[HF1.out,HF2.out];rintro e9 w2 ⟨rfl,hb2⟩;refine Hid.out ?_)
 refine Lib.hid ?_
 have hs2:=hb2.size
 have g2:=(hb2.block _ (by omega)).trans ((H1X.out.block _ (by omega)).trans HG2.out)
 have r0:=block_cell (i:=0) (v:=.int .i64 0) g2 rfl
 have r1:=block_cell (i:=1) (v:=.bool false) g2 rfl
 have f0:=block_frozen (i:=0) g2
 have f1:=block_frozen (i:=1) g2
 have lr:w.heap.size+1+1<w2.heap.size:=by omega
 have HB2:Hid (Below w.heap.size w w2):=HBX.out.trans (hb2.mono (by omega))
 have HGG:Hid (w2.heap[w.heap.size+1+1]?=some (.cells #[.int .i64 0,.bool false] 90 (0,0))):=g2
 clear hb2 g2 p0 p1 p2 p3
 go_wp2
 have hX2:=set_block (i:=1) (u:=.bool zB) (set_block (i:=0) (u:=.int .i64 zA) HGG.out)
 have x0:=block_cell (i:=0) (v:=.int .i64 zA) hX2 rfl
 have x1:=block_cell (i:=1) (v:=.bool zB) hX2 rfl
 exact bodyPost_ret (v:=.agg #[.int .i64 zA,.bool zB]) (by simp[results,Try.results51,go_sem,x0,x1]) rfl ⟨rfl,HB2.out.grown (st2_grown w2 (w.heap.size+1+1) 0 (.int .i64 zA) (.bool zB)) (by omega) (fun q hq=>by have:=Option.some.inj hq;omega)⟩
end Go.Proofs.Ytgagenmkpmmpfaa
/- The walk of ref.FacesOf. -/
namespace Go.Proofs.Ytgagenmkpmmpfaa
open Go.RowKit
def dd (l:List Nat):List (Nat×Bool):=l.map fun j=>(dA j,dB j)
theorem dd_app (l:List Nat) (j:Nat):dd (l++[j])=dd l++[(dA j,dB j)]:=by simp[dd]
theorem dd_len (l:List Nat):(dd l).length=l.length:=by simp[dd]
def DartsOwn (w:World) (B:Nat) (v:Value) (L:List (List Nat)):Prop:=
 ∃ ys:List Value,ys.length=L.length/\w.ownsRow B 87 1 v ys.length ys/\∀ j,j<L.length->w.ownsRow B 90 2 (ys.getD j (.bool false)) (L.getD j []).length (vflat (dd (L.getD j [])))
theorem infoDart:(Try.prog.info? 90).map (fun i=>(i.zero,i.size,i.bytes))=some (some (.agg #[.int .i64 0,.bool false]),2,16):=by kernel_rfl
theorem infoDarts:(Try.prog.info? 87).map (fun i=>(i.zero,i.size,i.bytes))=some (some (.slice none 0 0),1,24):=by kernel_rfl
theorem code_d {x:Nat} (_h:1<=x):(if dB x=true then 2*dA x+1 else 2*dA x)=x+1:=by
 unfold dB dA
 split
 · rename_i hd;simp at hd;omega
 · rename_i hd;simp at hd;omega
theorem bools_at (seen:List Bool) (x:Nat) (h:x<seen.length):(bools (false::seen))[x+1]?=some (.bool (seen.getD x true)):=by
 simp[bools,List.getD_eq_getElem?_getD,h]
theorem bools_put (seen:List Bool) (x:Nat):(bools (false::seen)).set (x+1) (.bool true)=bools (false::seen.set x true):=by
 simp[bools]
theorem new_cell2' {W:World} {s:Nat} (hs:s=W.heap.size) (a b:Value) (e:TypeId):∀ j u,[a,b][j]?=some u->(W.alloc (.cells #[a,b] e)).cell? ((⟨s,0,none⟩:Addr).add j)=some u:=by
 intro j u hu
 subst hs
 have hg:(W.alloc (.cells #[a,b] e)).heap[W.heap.size]?=some (.cells #[a,b] e (0,0)):=alloc_at rfl
 have hadd:∀ j,(⟨W.heap.size,0,none⟩:Addr).add j=⟨W.heap.size,j,none⟩:=fun j=>by unfold Addr.add;split<;>simp_all
 rw[hadd,cell_of_row _ _ _ _ _ _ hg]
 simpa using hu
end Go.Proofs.Ytgagenmkpmmpfaa
/- The walk of ref.PiecesOf. -/
namespace Go.Proofs.Ytgagenmkpmmpfaa
open Go.RowKit
theorem made_zeroN (n:Nat):(madeCells (Value.int .i64 0).cells (n*1)).toList=nats (List.replicate n 0):=by
 have e:(Value.int .i64 0).cells=#[Value.int .i64 0]:=rfl
 rw[e,toList_madeCells_one,Nat.mul_one]
 simp[nats]
theorem nats_set (l:List Nat) (i z:Nat):(nats l).set i (.int .i64 (z:Nat))=nats (l.set i z):=by simp[nats,List.map_set]
def labTo (n i:Nat):List Nat:=(List.range n).map fun v=>if v<i then v else 0
theorem labTo_zero (n:Nat):List.replicate n 0=labTo n 0:=by
 refine List.ext_getElem (by simp[labTo]) fun j h1 h2=>?_
 simp[labTo]
theorem labTo_next (n i:Nat):(labTo n i).set i i=labTo n (i+1):=by
 refine List.ext_getElem (by simp[labTo]) fun j h1 h2=>?_
 simp only[List.getElem_set,labTo,List.getElem_map,List.getElem_range]
 split
 · rename_i h;subst h;simp
 · rename_i h
   by_cases h3:j<i
   · rw[if_pos h3,if_pos (by omega)]
   · rw[if_neg h3,if_neg (by omega)]
theorem labTo_all (n:Nat):labTo n n=List.range n:=by
 refine List.ext_getElem (by simp[labTo]) fun j h1 h2=>?_
 simp only[labTo,List.getElem_map,List.getElem_range]
 rw[if_pos (by simpa[labTo] using h1)]
end Go.Proofs.Ytgagenmkpmmpfaa
/- Rings of darts in a world; the walk of ref.PlanarIs. -/
namespace Go.Proofs.Ytgagenmkpmmpfaa
open Go.RowKit
def RingsAt (w:World) (B:Nat) (v:Value) (L:List (List Nat)):Prop:=∃ a cap,v=.slice a L.length cap/\(0<L.length->∃ b off,a=some ⟨b,off,none⟩/\b<w.heap.size/\B<=b/\∀ j,j<L.length->∃ g c,w.cell? ⟨b,off+j,none⟩=some (.slice (some ⟨g,0,none⟩) (L.getD j []).length c)/\g<w.heap.size/\B<=g/\∀ k,k<(L.getD j []).length->w.cell? ⟨g,k*2,none⟩=some (.int .i64 (dA ((L.getD j []).getD k 0):Nat))/\w.cell? ⟨g,k*2+1,none⟩=some (.bool (dB ((L.getD j []).getD k 0))))
theorem RingsAt.on {w w':World} {B:Nat} {v:Value} {L:List (List Nat)} (h:RingsAt w B v L) (hb:Below w.heap.size w w'):RingsAt w' B v L:=by
 obtain⟨a,cap,rfl,f⟩:=h
 refine⟨a,cap,rfl,fun h0=>?_⟩
 obtain⟨b,off,rfl,hlt,hB,hc⟩:=f h0
 refine⟨b,off,rfl,Nat.lt_of_lt_of_le hlt hb.size,hB,fun j hj=>?_⟩
 obtain⟨g,c,h1,h2,hG,h3⟩:=hc j hj
 exact⟨g,c,bcell hb hlt h1,Nat.lt_of_lt_of_le h2 hb.size,hG,fun k hk=>⟨bcell hb h2 (h3 k hk).1,bcell hb h2 (h3 k hk).2⟩⟩
theorem dd_get (l:List Nat) (k:Nat) (hk:k<l.length):(dd l).getD k (0,false)=(dA (l.getD k 0),dB (l.getD k 0)):=by
 simp[dd,List.getD_eq_getElem?_getD,hk]
theorem DartsOwn.rings {w:World} {B:Nat} {v:Value} {L:List (List Nat)} (h:DartsOwn w B v L) (hn:∀ j,j<L.length->0<(L.getD j []).length):RingsAt w B v L:=by
 obtain⟨ys,h1,h2,h3⟩:=h
 obtain⟨a,cap,ev,f⟩:=slots_of_own h2
 refine⟨a,cap,by rw[ev,h1],fun h0=>?_⟩
 obtain⟨b,off,ea,hlt,hc⟩:=f (by omega)
 refine⟨b,off,ea,hlt,(h2.lt b (by rw[ev,ea];rfl)).1,fun j hj=>?_⟩
 have hr:=h3 j hj
 have hpos:=hn j hj
 have hcell:=hc j (by omega)
 rcases hr.2 with⟨_,hz⟩|⟨g,c,cur,e1,hBg,hg,_,_,_,htk⟩
 · omega
 · rw[e1]at hcell
   refine⟨g,c,hcell,(Array.getElem?_eq_some_iff.1 hg).1,hBg,fun k hk=>?_⟩
   have hv:=vflat_get (dd (L.getD j [])) k (by rw[dd_len];exact hk)
   rw[dd_get _ k hk]at hv
   have hcl:=fun(o:Nat) (u:Value) (hu:(vflat (dd (L.getD j [])))[o]?=some u)=>hr.cells (g:=g) (by rw[e1];rfl) o u hu
   have hadd:∀ o,(⟨g,0,none⟩:Addr).add o=⟨g,o,none⟩:=fun o=>by unfold Addr.add;split<;>simp_all
   have a1:=hcl _ _ hv.1
   have a2:=hcl _ _ hv.2
   rw[hadd]at a1 a2
   exact⟨a1,a2⟩
theorem facesM_facts {C:List Cr} {loops:Int} (hm:mayD C loops=true):(facesM C).length<=4*C.length/\∀ j,j<(facesM C).length->0<((facesM C).getD j []).length/\((facesM C).getD j []).length<=4*C.length+1/\∀ k,k<((facesM C).getD j []).length->1<=((facesM C).getD j []).getD k 0/\((facesM C).getD j []).getD k 0<=4*C.length:=by
 refine⟨walksTo_count _ _ _,fun j hj=>?_⟩
 have hmem:(facesM C).getD j []∈facesM C:=by rw[List.getD_eq_getElem?_getD,List.getElem?_eq_getElem hj];exact List.getElem_mem hj
 obtain⟨h1,h2,h3⟩:=walksTo_mem (fd_closed hm) (4*C.length) (Nat.le_refl _) _ hmem
 refine⟨List.length_pos_iff.2 h1,h2,fun k hk=>h3 _ ?_⟩
 generalize (facesM C).getD j []=l at hk ⊢
 rw[List.getD_eq_getElem?_getD,List.getElem?_eq_getElem hk]
 exact List.getElem_mem hk
theorem facesM_pos {C:List Cr} (h:0<C.length):0<(facesM C).length:=by
 have h1:=walks_once (fd C) (4*C.length) 1 (Nat.le_refl _) (by omega)
 unfold facesM
 cases hl:(walksTo (fd C) (4*C.length) (4*C.length)).1 with
 |nil=>rw[hl]at h1;simp at h1
 |cons x l=>simp
def headsM (C:List Cr):List Nat:=(facesM C).map fun l=>dC C (l.getD 0 0)
theorem headsM_len (C:List Cr):(headsM C).length=(facesM C).length:=by simp[headsM]
theorem headsM_at (C:List Cr) (i:Nat) (hi:i<(facesM C).length):(headsM C).getD i 0=dC C (((facesM C).getD i []).getD 0 0):=by
 simp[headsM,List.getD_eq_getElem?_getD,hi]
theorem headsM_lt {C:List Cr} {loops:Int} (hm:mayD C loops=true):∀ g,g∈headsM C->g<C.length:=fun g hg=>by
 obtain⟨l,hl,rfl⟩:=List.mem_map.1 hg
 obtain⟨j,hj,rfl⟩:=List.getElem_of_mem hl
 obtain⟨h1,_,h3⟩:=(facesM_facts hm).2 j hj
 have e:(facesM C).getD j []=(facesM C)[j]:=by rw[List.getD_eq_getElem?_getD,List.getElem?_eq_getElem hj];rfl
 rw[e]at h1 h3
 exact(d_may hm _ (h3 0 h1).1 (h3 0 h1).2).2.1
def whoM (C:List Cr):List Nat:=levR (List.range C.length) (arcE C) C.length
def planarB (C:List Cr):Bool:=(List.range C.length).all fun p=>!decide ((whoM C).getD p 0=p)||decide (exN C.length (headsM C) (whoM C) p=2)
theorem planarB_iff (C:List Cr):planarB C=true↔∀ p,p<C.length->(whoM C).getD p 0=p->exN C.length (headsM C) (whoM C) p=2:=by
 unfold planarB
 rw[List.all_eq_true]
 constructor
 · intro h p hp e
   have:=h p (List.mem_range.2 hp)
   rw[e]at this
   simpa only[decide_true,Bool.not_true,Bool.false_or,decide_eq_true_eq] using this
 · intro h p hp
   by_cases e:(whoM C).getD p 0=p
   · simp only[e,decide_true,Bool.not_true,Bool.false_or,decide_eq_true_eq];exact h p (List.mem_range.1 hp) e
   · simp only[e,decide_false,Bool.not_false,Bool.true_or]
theorem whoM_least {C:List Cr} {loops:Int} (hm:mayD C loops=true):Least (arcE C) C.length (whoM C):=levR_least (arcE_lt hm) C.length (Nat.le_refl _)
end Go.Proofs.Ytgagenmkpmmpfaa
/- Plain mathematics: in a planar diagram of one piece a set of arcs that comes to each crossing an even number of times parts two sets of faces. -/
namespace Go.Proofs.Ytgagenmkpmmpfaa
theorem xs_swap (h:Nat->Nat->Bool) (m n:Nat):xs (fun i=>xs (fun j=>h i j) n) m=xs (fun j=>xs (fun i=>h i j) m) n:=by
 induction m with
 |zero=>
  have:xs (fun j=>xs (fun i=>h i j) 0) n=false:=xs_none fun _ _=>rfl
  rw[this];rfl
 |succ m ih=>
  have:xs (fun j=>xs (fun i=>h i j) (m+1)) n=xor (xs (fun j=>xs (fun i=>h i j) m) n) (xs (fun j=>h m j) n):=by
   rw[<-xs_xor]
   rfl
  rw[this,<-ih]
  rfl
theorem xs_only {n q:Nat} (hq:q<n) (b:Bool):xs (fun j=>decide (j=q)&&b) n=b:=by
 cases b with
 |false=>exact xs_none fun _ _=>by simp
 |true=>exact xs_last hq (by simp) (fun j hj=>by simp;omega) (fun j h1 _=>by simp;omega)
theorem xs_perm {M:Nat} (h:Nat->Bool) (p r:Nat->Nat) (hp:∀ j,j<M->p j<M) (hr:∀ q,q<M->r q<M) (h1:∀ j,j<M->r (p j)=j) (h2:∀ q,q<M->p (r q)=q):xs h M=xs (fun q=>h (r q)) M:=by
 have e1:xs h M=xs (fun j=>xs (fun q=>decide (q=p j)&&h j) M) M:=xs_congr fun j hj=>(xs_only (hp j hj) (h j)).symm
 have e2:xs (fun q=>h (r q)) M=xs (fun q=>xs (fun j=>decide (q=p j)&&h j) M) M:=xs_congr fun q hq=>by
  rw[<-xs_only (hr q hq) (h (r q))]
  refine xs_congr fun j hj=>?_
  by_cases e:j=r q
  · subst e
    rw[h2 q hq]
    simp
  · have:¬ q=p j:=fun e3=>e (by rw[e3,h1 j hj])
    simp[e,this]
 rw[e1,e2,xs_swap]
theorem xs_two (h:Nat->Bool) (m:Nat):xs h (2*m)=xs (fun i=>xor (h (2*i)) (h (2*i+1))) m:=by
 induction m with
 |zero=>rfl
 |succ m ih=>
  rw[show 2*(m+1)=2*m+1+1 by omega]
  simp only[xs]
  rw[ih]
  cases xs (fun i=>xor (h (2*i)) (h (2*i+1))) m<;>cases h (2*m)<;>cases h (2*m+1)<;>rfl
theorem xs_four (h:Nat->Bool) (m:Nat):xs h (4*m)=xs (fun k=>xor (xor (h (4*k)) (h (4*k+1))) (xor (h (4*k+2)) (h (4*k+3)))) m:=by
 induction m with
 |zero=>rfl
 |succ m ih=>
  rw[show 4*(m+1)=4*m+1+1+1+1 by omega]
  simp only[xs]
  rw[ih]
  cases xs (fun k=>xor (xor (h (4*k)) (h (4*k+1))) (xor (h (4*k+2)) (h (4*k+3)))) m<;>cases h (4*m)<;>cases h (4*m+1)<;>cases h (4*m+2)<;>cases h (4*m+3)<;>rfl
def aAt (C:List Cr) (k s:Nat):Nat:=((C.getD k Cr.none).arc s).toNat
theorem en_side {C:List Cr} {loops:Int} (hm:mayD C loops=true) (k s:Nat) (hk:k<C.length) (hs:s<4):enC C (aAt C k s) ((C.getD k Cr.none).comes s)=k/\enS C (aAt C k s) ((C.getD k Cr.none).comes s)=s/\1<=aAt C k s/\aAt C k s<=2*C.length:=by
 have hf:=may_fit hm k s hk hs
 have g1:=hf.1
 have g2:=hf.2.1
 have ha:1<=aAt C k s/\aAt C k s<=2*C.length:=by unfold aAt;omega
 have e:=end_one hm (aAt C k s) ha.1 ha.2 ((C.getD k Cr.none).comes s) k s hk hs (by unfold aAt;omega) rfl
 refine⟨?_,?_,ha.1,ha.2⟩
 · unfold enC;rw[e];rfl
 · unfold enS;rw[e];rfl
theorem xs_sides {C:List Cr} {loops:Int} (hm:mayD C loops=true) (S d:Nat->Bool):xs (fun i=>xor (S (enC C (i+1) true)) (S (enC C (i+1) false))&&d (i+1)) (2*C.length)=xs (fun k=>S k&&xor (xor (d (aAt C k 0)) (d (aAt C k 1))) (xor (d (aAt C k 2)) (d (aAt C k 3)))) C.length:=by
 have e1:xs (fun i=>xor (S (enC C (i+1) true)) (S (enC C (i+1) false))&&d (i+1)) (2*C.length)=xs (fun j=>S (enC C (dA (j+1)) (dB (j+1)))&&d (dA (j+1))) (2*(2*C.length)):=by
  refine Eq.trans ?_ (xs_two (fun j=>S (enC C (dA (j+1)) (dB (j+1)))&&d (dA (j+1))) (2*C.length)).symm
  refine xs_congr fun i _=>?_
  have a1:dA (2*i+1)=i+1:=by unfold dA;omega
  have a2:dA (2*i+1+1)=i+1:=by unfold dA;omega
  have b1:dB (2*i+1)=false:=by unfold dB;exact decide_eq_false (by omega)
  have b2:dB (2*i+1+1)=true:=by unfold dB;exact decide_eq_true (by omega)
  rw[a1,a2,b1,b2]
  cases S (enC C (i+1) true)<;>cases S (enC C (i+1) false)<;>cases d (i+1)<;>rfl
 rw[e1,show 2*(2*C.length)=4*C.length by omega]
 rw [xs_perm (fun j => S (enC C (dA (j + 1)) (dB (j + 1))) && d (dA (j + 1))) (fun j => 4 * enC C (dA (j + 1)) (dB (j + 1)) + enS C (dA (j + 1)) (dB (j + 1))) (fun q => mkD (aAt C (q / 4) (q % 4)) ((C.getD (q / 4) Cr.none).comes (q % 4)) - 1)
  (fun j hj => by
   have hA:=dA_le (j:=j+1) (n:=C.length) (by omega) (by omega)
   have h:=en_may hm (dA (j+1)) (dB (j+1)) hA.1 hA.2
   omega)
  (fun q hq => by
   have h:=en_side hm (q / 4) (q%4) (by omega) (by omega)
   have h2:=mk_le (p:=(C.getD (q / 4) Cr.none).comes (q%4)) h.2.2.1 h.2.2.2
   omega)
  (fun j hj => by
   have hA:=dA_le (j:=j+1) (n:=C.length) (by omega) (by omega)
   obtain⟨-,h2,h3,h4,h5⟩:=en_may hm (dA (j+1)) (dB (j+1)) hA.1 hA.2
   have q1:(4*enC C (dA (j+1)) (dB (j+1))+enS C (dA (j+1)) (dB (j+1))) / 4=enC C (dA (j+1)) (dB (j+1)):=by omega
   have q2:(4*enC C (dA (j+1)) (dB (j+1))+enS C (dA (j+1)) (dB (j+1)))%4=enS C (dA (j+1)) (dB (j+1)):=by omega
   simp only[q1,q2]
   have e:aAt C (enC C (dA (j+1)) (dB (j+1))) (enS C (dA (j+1)) (dB (j+1)))=dA (j+1):=by unfold aAt;rw[h4];omega
   rw[e,h5,mk_d (by omega)]
   omega)
  (fun q hq => by
   have h:=en_side hm (q / 4) (q%4) (by omega) (by omega)
   have h2:=mk_le (p:=(C.getD (q / 4) Cr.none).comes (q%4)) h.2.2.1 h.2.2.2
   have e:mkD (aAt C (q / 4) (q%4)) ((C.getD (q / 4) Cr.none).comes (q%4))-1+1=mkD (aAt C (q / 4) (q%4)) ((C.getD (q / 4) Cr.none).comes (q%4)):=by omega
   simp only[e]
   rw[dA_mk h.2.2.1,dB_mk h.2.2.1,h.1,h.2.1]
   omega)]
 rw[xs_four]
 refine xs_congr fun k hk=>?_
 have side:∀ s,s<4->(S (enC C (dA (mkD (aAt C ((4*k+s) / 4) ((4*k+s)%4)) ((C.getD ((4*k+s) / 4) Cr.none).comes ((4*k+s)%4))-1+1)) (dB (mkD (aAt C ((4*k+s) / 4) ((4*k+s)%4)) ((C.getD ((4*k+s) / 4) Cr.none).comes ((4*k+s)%4))-1+1)))&&d (dA (mkD (aAt C ((4*k+s) / 4) ((4*k+s)%4)) ((C.getD ((4*k+s) / 4) Cr.none).comes ((4*k+s)%4))-1+1)))=(S k&&d (aAt C k s)):=fun s hs=>by
  rw[show(4*k+s) / 4=k by omega,show(4*k+s)%4=s by omega]
  have h:=en_side hm k s hk hs
  have h2:=mk_le (p:=(C.getD k Cr.none).comes s) h.2.2.1 h.2.2.2
  rw[show mkD (aAt C k s) ((C.getD k Cr.none).comes s)-1+1=mkD (aAt C k s) ((C.getD k Cr.none).comes s) by omega,dA_mk h.2.2.1,dB_mk h.2.2.1,h.1]
 have s0:=side 0 (by omega)
 simp only[Nat.add_zero]at s0
 rw[s0,side 1 (by omega),side 2 (by omega),side 3 (by omega)]
 cases S k<;>cases d (aAt C k 0)<;>cases d (aAt C k 1)<;>cases d (aAt C k 2)<;>cases d (aAt C k 3)<;>rfl
def cor (C:List Cr) (k s:Nat):Nat:=fo C (mkD (aAt C k s) ((C.getD k Cr.none).comes s))
theorem cor_back {C:List Cr} {loops:Int} (hm:mayD C loops=true) (k s:Nat) (hk:k<C.length) (hs:s<4):fo C (mkD (aAt C k s) (!(C.getD k Cr.none).comes s))=cor C k ((s+3)%4):=by
 have h:=en_side hm k s hk hs
 have h2:=mk_le (p:=!(C.getD k Cr.none).comes s) h.2.2.1 h.2.2.2
 rw[<-fo_fd hm _ h2.1 h2.2]
 unfold cor fd dC dS
 rw[dA_mk h.2.2.1,dB_mk h.2.2.1,Bool.not_not,h.1,h.2.1]
 rfl
def dfE (C:List Cr) (i:Nat):Nat×Nat:=(fo C (mkD (i+1) true),fo C (mkD (i+1) false))
def arE (C:List Cr) (i:Nat):Nat×Nat:=(enC C (i+1) true,enC C (i+1) false)
def sides (C:List Cr) (g:Nat->Bool) (a:Nat):Bool:=xor (g (fo C (mkD a true))) (g (fo C (mkD a false)))
theorem sides_at {C:List Cr} {loops:Int} (hm:mayD C loops=true) (g:Nat->Bool) (k s:Nat) (hk:k<C.length) (hs:s<4):sides C g (aAt C k s)=xor (g (cor C k s)) (g (cor C k ((s+3)%4))):=by
 have h:=cor_back hm k s hk hs
 unfold sides
 unfold cor at h ⊢
 rw[<-h]
 cases (C.getD k Cr.none).comes s<;>simp[Bool.xor_comm]
theorem sides_even {C:List Cr} {loops:Int} (hm:mayD C loops=true) (g:Nat->Bool) (k:Nat) (hk:k<C.length):xor (xor (sides C g (aAt C k 0)) (sides C g (aAt C k 1))) (xor (sides C g (aAt C k 2)) (sides C g (aAt C k 3)))=false:=by
 rw[sides_at hm g k 0 hk (by omega),sides_at hm g k 1 hk (by omega),sides_at hm g k 2 hk (by omega),sides_at hm g k 3 hk (by omega)]
 show xor (xor (xor (g (cor C k 0)) (g (cor C k 3))) (xor (g (cor C k 1)) (g (cor C k 0)))) (xor (xor (g (cor C k 2)) (g (cor C k 1))) (xor (g (cor C k 3)) (g (cor C k 2))))=false
 cases g (cor C k 0)<;>cases g (cor C k 1)<;>cases g (cor C k 2)<;>cases g (cor C k 3)<;>rfl
theorem cross_even {C:List Cr} {loops:Int} (hm:mayD C loops=true) (S g:Nat->Bool):xs (fun i=>xor (S (arE C i).1) (S (arE C i).2)&&xor (g (dfE C i).1) (g (dfE C i).2)) (2*C.length)=false:=by
 have h:=xs_sides hm S (sides C g)
 refine Eq.trans ?_ (h.trans (xs_none fun k hk=>?_))
 · rfl
 · rw[sides_even hm g k hk,Bool.and_false]
theorem incl_all {E:Nat->Nat×Nat} {m:Nat}:incl E (fun _=>true) m=(List.range m).map E:=by
 induction m with
 |zero=>rfl
 |succ m ih=>simp only[incl,if_true];rw[ih,List.range_succ,List.map_append];rfl
end Go.Proofs.Ytgagenmkpmmpfaa
/- Plain mathematics: a planar diagram of one piece: an even set of arcs parts two sets of faces. -/
namespace Go.Proofs.Ytgagenmkpmmpfaa
theorem fo_cor {C:List Cr} {loops:Int} (hm:mayD C loops=true) (j:Nat) (h1:1<=j) (h2:j<=4*C.length):∃ k s,k<C.length/\s<4/\fo C j=cor C k s:=by
 have hA:=dA_le h1 h2
 have u:=en_may hm (dA j) (dB j) hA.1 hA.2
 refine⟨_,_,u.2.1,u.2.2.1,?_⟩
 unfold cor aAt
 rw[u.2.2.2.1,u.2.2.2.2]
 show fo C j=fo C (mkD ((dA j:Int)).toNat (dB j))
 rw[Int.toNat_natCast,mk_d h1]
theorem face_cor {C:List Cr} {loops:Int} (hm:mayD C loops=true) (f:Nat) (hf:f<(facesM C).length):∃ k s,k<C.length/\s<4/\f=cor C k s:=by
 obtain⟨-,hh⟩:=facesM_facts hm
 obtain⟨g1,-,g3⟩:=hh f hf
 have hb:=g3 0 g1
 obtain⟨k,s,hk,hs,e⟩:=fo_cor hm _ hb.1 hb.2
 refine⟨k,s,hk,hs,?_⟩
 rw[<-e]
 have hmem:((facesM C).getD f []).getD 0 0∈(facesM C).getD f []:=at_mem g1
 exact((pt_mem (walks_once (fd C) (4*C.length) _ hb.1 hb.2) hf).1 hmem).symm
end Go.Proofs.Ytgagenmkpmmpfaa
/- Plain mathematics: Euler's number of a piece is even and at most two. -/
namespace Go.Proofs.Ytgagenmkpmmpfaa
theorem rq_eq (W:List Nat) (Q:Nat->Bool):∀ k,rq W Q k=(List.range k).countP fun v=>decide (W.getD v 0=v)&&Q v:=by
 intro k
 induction k with
 |zero=>rfl
 |succ k ih=>
  rw[List.range_succ,List.countP_append,List.countP_singleton,<-ih]
  simp only[rq,Bool.and_eq_true,decide_eq_true_eq]
theorem Bij.onto {f:Nat->Nat} {M:Nat} (h:Bij f M) {y:Nat} (hy:y<M):∃ x,x<M/\f x=y:=by
 obtain⟨p,h0,hp⟩:=period h hy
 refine⟨it f (p-1) y,it_lt h hy _,?_⟩
 have e:it f (p-1+1) y=f (it f (p-1) y):=rfl
 rw[<-e,show p-1+1=p by omega,hp]
theorem cnt_perm {r:Nat->Nat} {M:Nat} (h:Bij r M) (P:Nat->Bool):(List.range M).countP (fun q=>P (r q))=(List.range M).countP P:=by
 have hp:((List.range M).map r).Perm (List.range M):=by
  refine(List.perm_ext_iff_of_nodup ?_ List.nodup_range).2 fun y=>?_
  · unfold List.Nodup
    rw[List.pairwise_map]
    refine List.Pairwise.imp_of_mem ?_ (List.nodup_range (n:=M))
    intro a b ha hb hne e
    exact hne (h.inj a b (List.mem_range.1 ha) (List.mem_range.1 hb) e)
  · rw[List.mem_map]
    constructor
    · rintro⟨x,hx,rfl⟩
      exact List.mem_range.2 (h.lt x (List.mem_range.1 hx))
    · intro hy
      obtain⟨x,hx,e⟩:=h.onto (List.mem_range.1 hy)
      exact⟨x,List.mem_range.2 hx,e⟩
 rw[<-hp.countP_eq P,List.countP_map]
 rfl
theorem cnt_by4 {h Qc:Nat->Bool} {c:Nat} (n:Nat) (e:∀ k,k<n->(if h (4*k)=true then 1 else 0)+(if h (4*k+1)=true then 1 else 0)+(if h (4*k+2)=true then 1 else 0)+(if h (4*k+3)=true then 1 else 0)=if Qc k=true then c else 0):(List.range (4*n)).countP h=c*(List.range n).countP Qc:=by
 induction n with
 |zero=>rfl
 |succ n ih=>
  have e1:=e n (by omega)
  have e2:=ih fun k hk=>e k (by omega)
  rw[show 4*(n+1)=4*n+1+1+1+1 by omega]
  simp only[List.range_succ,List.countP_append,List.countP_singleton]
  rw[e2]
  by_cases hq:Qc n=true
  · rw[if_pos hq]at e1 ⊢
    rw[Nat.mul_add]
    omega
  · rw[if_neg hq]at e1 ⊢
    rw[show List.countP Qc (List.range n)+0=List.countP Qc (List.range n) from rfl]
    omega
theorem cnt_up1 (P:Nat->Bool) (M:Nat) (h:P 0=false):(List.range (M+1)).countP P=(List.range M).countP fun i=>P (i+1):=by
 rw[List.range_succ_eq_map,List.countP_cons,List.countP_map,h]
 simp only[Bool.false_eq_true,if_false,Nat.add_zero]
 rfl
def al (j:Nat):Nat:=mkD (dA j) (!dB j)
def lvC (C:List Cr) (j:Nat):Nat:=enC C (dA j) (dB j)
def pd (C:List Cr) (q:Nat):Nat:=mkD (aAt C (q / 4) (q%4)) ((C.getD (q / 4) Cr.none).comes (q%4))
theorem al_may {j n:Nat} (h1:1<=j) (h2:j<=4*n):1<=al j/\al j<=4*n/\dA (al j)=dA j/\dB (al j)=!dB j:=by
 have h:=dA_le h1 h2
 have g:=mk_le (p:=!dB j) h.1 h.2
 exact⟨g.1,g.2,dA_mk h.1,dB_mk h.1⟩
theorem al_odd (i:Nat):al (2*i+1)=2*i+2:=by
 unfold al dA dB mkD
 simp only[show(2*i+1)%2=1 by omega,show(2*i+1+1) / 2=i+1 by omega]
 simp
 omega
theorem al_even (i:Nat):al (2*i+2)=2*i+1:=by
 unfold al dA dB mkD
 simp only[show(2*i+2)%2=0 by omega,show(2*i+2+1) / 2=i+1 by omega]
 simp
 omega
theorem al_al {j:Nat} (h1:1<=j):al (al j)=j:=by
 by_cases h:j%2=1
 · obtain⟨i,rfl⟩:∃ i,j=2*i+1:=⟨j / 2,by omega⟩
   rw[al_odd,al_even]
 · obtain⟨i,rfl⟩:∃ i,j=2*i+2:=⟨j / 2 - 1,by omega⟩
   rw[al_even,al_odd]
theorem dC_al {C:List Cr} {j:Nat} (h1:1<=j) (h2:j<=4*C.length):dC C (al j)=lvC C j/\dS C (al j)=enS C (dA j) (dB j):=by
 obtain⟨-,-,a1,a2⟩:=al_may h1 h2
 unfold dC dS lvC
 rw[a1,a2,Bool.not_not]
 exact⟨rfl,rfl⟩
theorem lv_fd {C:List Cr} {loops:Int} (hm:mayD C loops=true) {j:Nat} (h1:1<=j) (h2:j<=4*C.length):lvC C (fd C j)=dC C j:=by
 obtain⟨e1,e2,-⟩:=fd_may hm j h1 h2
 obtain⟨-,h3,h4⟩:=d_may hm j h1 h2
 have h:=(en_side hm (dC C j) ((dS C j+3)%4) h3 (Nat.mod_lt _ (by decide))).1
 unfold aAt at h
 rw[e1,e2,Int.toNat_natCast]at h
 exact h
theorem lv_lt {C:List Cr} {loops:Int} (hm:mayD C loops=true) {j:Nat} (h1:1<=j) (h2:j<=4*C.length):lvC C j<C.length:=by
 have h:=dA_le h1 h2
 exact(en_may hm (dA j) (dB j) h.1 h.2).2.1
theorem lv_dC {C:List Cr} {j:Nat} (h1:1<=j) (h2:j<=4*C.length):Con (arcE C) (lvC C j) (dC C j):=by
 have h:=dA_le h1 h2
 have e:=Con.edge (mem_arcE (C:=C) h.1 h.2)
 unfold lvC dC
 cases dB j
 · exact e.symm
 · exact e
theorem pd_at {C:List Cr} {loops:Int} (hm:mayD C loops=true) (k s:Nat) (hk:k<C.length) (hs:s<4):pd C (4*k+s)=mkD (aAt C k s) ((C.getD k Cr.none).comes s)/\lvC C (pd C (4*k+s))=k/\enS C (dA (pd C (4*k+s))) (dB (pd C (4*k+s)))=s/\1<=pd C (4*k+s)/\pd C (4*k+s)<=4*C.length:=by
 have e:pd C (4*k+s)=mkD (aAt C k s) ((C.getD k Cr.none).comes s):=by
  unfold pd
  rw[show(4*k+s) / 4=k by omega,show(4*k+s)%4=s by omega]
 have h:=en_side hm k s hk hs
 unfold lvC
 rw[e,dA_mk h.2.2.1,dB_mk h.2.2.1]
 have g:=mk_le (p:=(C.getD k Cr.none).comes s) h.2.2.1 h.2.2.2
 exact⟨rfl,h.1,h.2.1,g.1,g.2⟩
theorem pd_sig {C:List Cr} {loops:Int} (hm:mayD C loops=true) (k s:Nat) (hk:k<C.length) (hs:s<4):fd C (al (pd C (4*k+s)))=pd C (4*k+(s+3)%4):=by
 obtain⟨-,h1,h2,h3,h4⟩:=pd_at hm k s hk hs
 obtain⟨a1,a2⟩:=dC_al (C:=C) h3 h4
 rw[(pd_at hm k ((s+3)%4) hk (Nat.mod_lt _ (by decide))).1]
 unfold fd
 rw[a1,a2,h1,h2]
 rfl
theorem pd_bij {C:List Cr} {loops:Int} (hm:mayD C loops=true):Bij (fun q=>pd C q-1) (4*C.length):=by
 have hb:∀ q,q<4*C.length->∃ k s,k<C.length/\s<4/\q=4*k+s:=fun q hq=>⟨q / 4,q%4,by omega,by omega,by omega⟩
 refine⟨fun q hq=>?_,fun q r hq hr e=>?_⟩
 · obtain⟨k,s,hk,hs,rfl⟩:=hb q hq
   obtain⟨-,-,-,h3,h4⟩:=pd_at hm k s hk hs
   show pd C (4*k+s)-1<_
   omega
 · obtain⟨k,s,hk,hs,rfl⟩:=hb q hq
   obtain⟨k',s',hk',hs',rfl⟩:=hb r hr
   obtain⟨-,h1,h2,h3,h4⟩:=pd_at hm k s hk hs
   obtain⟨-,g1,g2,g3,g4⟩:=pd_at hm k' s' hk' hs'
   have e1:pd C (4*k+s)=pd C (4*k'+s'):=by
    have e':pd C (4*k+s)-1=pd C (4*k'+s')-1:=e
    omega
   rw[e1]at h1 h2
   have:k=k':=by rw[<-h1,g1]
   have:s=s':=by rw[<-h2,g2]
   omega
theorem cnt_darts {C : List Cr} {loops : Int} (hm : mayD C loops = true) {P Qc : Nat → Bool} {c : Nat} (h0 : P 0 = false)
    (e:∀ k,k<C.length->(if P (pd C (4*k))=true then 1 else 0)+(if P (pd C (4*k+1))=true then 1 else 0)+(if P (pd C (4*k+2))=true then 1 else 0)+(if P (pd C (4*k+3))=true then 1 else 0)=if Qc k=true then c else 0):
    (List.range (4*C.length+1)).countP P=c*(List.range C.length).countP Qc:=by
 rw[cnt_up1 P _ h0,<-cnt_perm (pd_bij hm) fun i=>P (i+1),<-cnt_by4 (h:=fun q=>P (pd C q)) C.length e]
 refine List.countP_congr fun q hq=>?_
 have hq:=List.mem_range.1 hq
 have h:=pd_at hm (q / 4) (q%4) (by omega) (by omega)
 rw[show 4*(q / 4)+q%4=q by omega]at h
 rw[show pd C q-1+1=pd C q by omega]
end Go.Proofs.Ytgagenmkpmmpfaa
/- Plain mathematics: Euler's number of a piece is even and at most two, arc by arc. -/
namespace Go.Proofs.Ytgagenmkpmmpfaa
theorem Bij.congr {f g:Nat->Nat} {M:Nat} (h:Bij f M) (e:∀ x,x<M->f x=g x):Bij g M:=
 ⟨fun x hx=>by rw[<-e x hx];exact h.lt x hx,fun x y hx hy q=>h.inj x y hx hy (by rw[e x hx,e y hy,q])⟩
def gI (C:List Cr) (i x:Nat):Nat:=up0 (fun j=>if j<=2*i then fd C j else fd C (al j)) x
theorem gI_zero {C:List Cr} {x:Nat} (h:1<=x):gI C 0 x=fd C (al x):=by
 unfold gI
 rw[up0_pos _ h,if_neg (by omega)]
theorem gI_next (C:List Cr) (i x:Nat):tr (gI C i) (2*i+1) (2*i+2) x=gI C (i+1) x:=by
 by_cases h1:x=2*i+1
 · rw[h1,tr_a]
   unfold gI
   rw[up0_pos _ (by omega),up0_pos _ (by omega),if_neg (by omega),if_pos (by omega),al_even]
 · by_cases h2:x=2*i+2
   · rw[h2,tr_b]
     unfold gI
     rw[up0_pos _ (by omega),up0_pos _ (by omega),if_neg (by omega),if_pos (by omega),al_odd]
   · rw[tr_o _ h1 h2]
     unfold gI
     by_cases h0:x=0
     · rw[h0];rfl
     · rw[up0_pos _ (by omega),up0_pos _ (by omega)]
       by_cases h3:x<=2*i
       · rw[if_pos h3,if_pos (by omega)]
       · rw[if_neg h3,if_neg (by omega)]
theorem gI_bij {C:List Cr} {loops:Int} (hm:mayD C loops=true):∀ i,i<=2*C.length->Bij (gI C i) (4*C.length+1):=by
 intro i
 induction i with
 |zero=>
  intro _
  refine(bij_up0 (f:=fun j=>fd C (al j)) (n:=4*C.length) (fun a h1 h2=>?_) (fun a b h1 h2 h3 h4 e=>?_)).congr fun x hx=>?_
  · obtain⟨a1,a2,-,-⟩:=al_may h1 h2
    exact fd_closed hm _ a1 a2
  · obtain⟨a1,a2,-,-⟩:=al_may h1 h2
    obtain⟨b1,b2,-,-⟩:=al_may h3 h4
    have:=fd_inj hm _ _ a1 a2 b1 b2 e
    rw[<-al_al h1,this,al_al h3]
  · by_cases h0:x=0
    · rw[h0];rfl
    · rw[gI_zero (by omega),up0_pos _ (by omega)]
 |succ i ih=>
  intro hi
  exact((ih (by omega)).tr (a:=2*i+1) (b:=2*i+2) (by omega) (by omega)).congr fun x _=>gI_next C i x
theorem gI_last {C:List Cr} {x:Nat} (h:x<4*C.length+1):gI C (2*C.length) x=up0 (fd C) x:=by
 unfold gI
 by_cases h0:x=0
 · rw[h0];rfl
 · rw[up0_pos _ (by omega),up0_pos _ (by omega),if_pos (by omega)]
theorem gI_pos {C:List Cr} {loops:Int} (hm:mayD C loops=true) (i:Nat) {x:Nat} (h1:1<=x) (h2:x<=4*C.length):1<=gI C i x/\gI C i x<=4*C.length/\lvC C (gI C i x)=if x<=2*i then dC C x else lvC C x:=by
 unfold gI
 rw[up0_pos _ h1]
 by_cases h3:x<=2*i
 · rw[if_pos h3,if_pos h3]
   have:=fd_closed hm x h1 h2
   exact⟨this.1,this.2,lv_fd hm h1 h2⟩
 · rw[if_neg h3,if_neg h3]
   obtain⟨a1,a2,-,-⟩:=al_may h1 h2
   have:=fd_closed hm _ a1 a2
   exact⟨this.1,this.2,by rw[lv_fd hm a1 a2,(dC_al h1 h2).1]⟩
theorem lv_odd (C:List Cr) (i:Nat):lvC C (2*i+1)=(arE C i).2/\lvC C (2*i+2)=(arE C i).1:=by
 unfold lvC arE dA dB
 constructor
 · simp only[show(2*i+1)%2=1 by omega,show(2*i+1+1) / 2=i+1 by omega]
   rfl
 · simp only[show(2*i+2)%2=0 by omega,show(2*i+2+1) / 2=i+1 by omega]
   rfl
theorem lv_dC_in {C:List Cr} {i x:Nat} (h1:1<=x) (h2:x<=2*i):Con (incl (arE C) (fun _=>true) i) (lvC C x) (dC C x):=by
 have h:1<=dA x/\dA x<=i:=by unfold dA;omega
 have hmem:arE C (dA x-1)∈incl (arE C) (fun _=>true) i:=incl_mem.2 ⟨dA x-1,by omega,rfl,rfl⟩
 have e:arE C (dA x-1)=(enC C (dA x) true,enC C (dA x) false):=by
  unfold arE
  rw[show dA x-1+1=dA x by omega]
 rw[e]at hmem
 have hc:=Con.edge hmem
 unfold lvC dC
 cases dB x
 · exact hc.symm
 · exact hc
theorem ring_arcs {C:List Cr} {loops:Int} (hm:mayD C loops=true) (i:Nat) {x y:Nat} (hx:1<=x) (hc:Con (eds (gI C i) (4*C.length+1)) x y):Con (incl (arE C) (fun _=>true) i) (lvC C x) (lvC C y):=by
 have := hc (fun z => 1 ≤ z ∧ Con (incl (arE C) (fun _ => true) i) (lvC C x) (lvC C z)) (closed_eds.2 fun z hz => by
  by_cases h0:z=0
  · rw[h0]
    have e:gI C i 0=0:=rfl
    rw[e]
  · obtain⟨g1,g2,g3⟩:=gI_pos hm i (x:=z) (by omega) (by omega)
    rw[g3]
    have hcz:Con (incl (arE C) (fun _=>true) i) (lvC C z) (if z<=2*i then dC C z else lvC C z):=by
     by_cases h3:z<=2*i
     · rw[if_pos h3];exact lv_dC_in (by omega) h3
     · rw[if_neg h3];exact Con.refl _ _
    exact⟨fun q=>⟨g1,q.2.trans hcz⟩,fun q=>⟨by omega,q.2.trans hcz.symm⟩⟩) ⟨hx,Con.refl _ _⟩
 exact this.2
theorem incl_sub {C : List Cr} {i : Nat} (hi : i ≤ 2 * C.length) {x y : Nat} (hc : Con (incl (arE C) (fun _ => true) i) x y) : Con (arcE C) x y := fun S hS hx => hc S (fun e he => by
 obtain⟨t,ht,-,rfl⟩:=incl_mem.1 he
 exact hS _ (List.mem_map.2 ⟨t,List.mem_range.2 (by omega),rfl⟩)) hx
theorem arE_lt {C:List Cr} {loops:Int} (hm:mayD C loops=true):∀ i,i<2*C.length->(arE C i).1<C.length/\(arE C i).2<C.length:=fun i hi=>by
 have h:=arcE_lt hm (arE C i) (List.mem_map.2 ⟨i,List.mem_range.2 hi,rfl⟩)
 exact h
def qD (C:List Cr) (p j:Nat):Bool:=decide (1<=j)&&decide ((whoM C).getD (lvC C j) 0=p)
def qC (C:List Cr) (p v:Nat):Bool:=decide ((whoM C).getD v 0=p)
theorem qD_inv {C:List Cr} {loops:Int} (hm:mayD C loops=true) (p:Nat) {i:Nat} (_hi:i<=2*C.length) (x y:Nat) (_hx:x<4*C.length+1) (hc:Con (eds (gI C i) (4*C.length+1)) x y):qD C p x=qD C p y:=by
 have hW:=whoM_least hm
 exact hc (fun z => qD C p x = qD C p z) (closed_eds.2 fun z hz => by
  by_cases h0:z=0
  · rw[h0]
    exact Iff.rfl
  · obtain⟨g1,g2,g3⟩:=gI_pos hm i (x:=z) (by omega) (by omega)
    have l1:=lv_lt hm (j:=z) (by omega) (by omega)
    have l2:=lv_lt hm g1 g2
    have hcz:Con (arcE C) (lvC C z) (lvC C (gI C i z)):=by
     rw[g3]
     by_cases h3:z<=2*i
     · rw[if_pos h3];exact lv_dC (by omega) (by omega)
     · rw[if_neg h3];exact Con.refl _ _
    have e:qD C p z=qD C p (gI C i z):=by
     unfold qD
     rw[(hW.same l1 l2).2 hcz,decide_eq_true (show 1<=z by omega),decide_eq_true g1]
    rw[e]) rfl
theorem euler_steps {C : List Cr} {loops : Int} (hm : mayD C loops = true) (p : Nat) (hbase : cyN (gI C 0) (4 * C.length + 1) (qD C p) = (List.range C.length).countP (qC C p)) : ∀ i, i ≤ 2 * C.length →
    cyN (gI C i) (4*C.length+1) (qD C p)+(List.range C.length).countP (qC C p)<=(List.range i).countP (fun t=>qD C p (2*t+1))+2*rq (cls (arE C) (fun _=>true) C.length i) (qC C p) C.length/\
    (cyN (gI C i) (4*C.length+1) (qD C p)+(List.range C.length).countP (qC C p)+(List.range i).countP (fun t=>qD C p (2*t+1)))%2=0:=by
 have hW:=whoM_least hm
 intro i
 induction i with
 |zero=>
  intro _
  rw[hbase]
  have e:rq (cls (arE C) (fun _=>true) C.length 0) (qC C p) C.length=(List.range C.length).countP (qC C p):=by
   rw[rq_eq]
   refine List.countP_congr fun v hv=>?_
   have:(cls (arE C) (fun _=>true) C.length 0).getD v 0=v:=by
    show(List.range C.length).getD v 0=v
    rw[List.getD_eq_getElem?_getD,List.getElem?_range (List.mem_range.1 hv)]
    rfl
   rw[this,decide_eq_true rfl,Bool.true_and]
  rw[e]
  simp only[List.range_zero,List.countP_nil]
  omega
 |succ i ih=>
  intro hi
  obtain⟨i1,i2⟩:=ih (by omega)
  have hB:=gI_bij hm i (by omega)
  have hL:=cls_least (E:=arE C) (K:=fun _=>true) (n:=C.length) (m:=i) fun t ht=>arE_lt hm t (by omega)
  obtain⟨e1,e2⟩:=arE_lt hm i (by omega)
  obtain⟨v1,v2⟩:=lv_odd C i
  have hQ:=qD_inv hm p (i:=i) (by omega)
  have hedge:Con (arcE C) (arE C i).1 (arE C i).2:=Con.edge (List.mem_map.2 ⟨i,List.mem_range.2 (by omega),rfl⟩)
  have hab:qD C p (2*i+1)=qD C p (2*i+2):=by
   unfold qD
   rw[v1,v2,(hW.same e1 e2).2 hedge,decide_eq_true (show 1<=2*i+1 by omega),decide_eq_true (show 1<=2*i+2 by omega)]
  have hcong:cyN (gI C (i+1)) (4*C.length+1) (qD C p)=cyN (tr (gI C i) (2*i+1) (2*i+2)) (4*C.length+1) (qD C p):=cyN_congr (fun x _=>(gI_next C i x).symm) _
  have hmm:(List.range (i+1)).countP (fun t=>qD C p (2*t+1))=(List.range i).countP (fun t=>qD C p (2*t+1))+if qD C p (2*i+1)=true then 1 else 0:=by
   rw[List.range_succ,List.countP_append,List.countP_singleton]
  have hq1:qD C p (2*i+1)=qC C p (arE C i).2:=by
   unfold qD qC
   rw[v1,decide_eq_true (show 1<=2*i+1 by omega),Bool.true_and]
  rw[hcong,hmm,cls_next (E:=arE C) (K:=fun _=>true) rfl]
  by_cases hc:Con (eds (gI C i) (4*C.length+1)) (2*i+1) (2*i+2)
  · have k1:=cyN_part hB (qD C p) (a:=2*i+1) (b:=2*i+2) (by omega) (by omega) (by omega) hc hQ
    have hcc:=ring_arcs hm i (by omega) hc
    rw[v1,v2]at hcc
    rw[mer_same ((hL.same e1 e2).2 hcc.symm),<-k1]
    split<;>rename_i hq<;>simp only[hq,if_true,if_false,Bool.false_eq_true] at*<;> omega
  · have k1:=cyN_join hB (qD C p) (a:=2*i+1) (b:=2*i+2) (by omega) (by omega) hc hQ hab
    by_cases hs:(cls (arE C) (fun _=>true) C.length i).getD (arE C i).1 0=(cls (arE C) (fun _=>true) C.length i).getD (arE C i).2 0
    · rw[mer_same hs]
      by_cases hq:qD C p (2*i+1)=true
      · rw[if_pos hq]at k1 ⊢;omega
      · rw[if_neg hq]at k1 ⊢;omega
    · have hr:=rq_mer hL (qC C p) e1 e2 hs C.length (Nat.le_refl _)
      have l1:=hL.lt e1
      have l2:=hL.lt e2
      have w1:=(hW.same e1 l1).2 (incl_sub (by omega) (hL.2 _ e1).1)
      have w2:=(hW.same e2 l2).2 (incl_sub (by omega) (hL.2 _ e2).1)
      have w3:=(hW.same e1 e2).2 hedge
      have hmax:qC C p (max ((cls (arE C) (fun _=>true) C.length i).getD (arE C i).1 0) ((cls (arE C) (fun _=>true) C.length i).getD (arE C i).2 0))=qD C p (2*i+1):=by
       rw[hq1]
       unfold qC
       rcases Nat.le_total ((cls (arE C) (fun _=>true) C.length i).getD (arE C i).1 0) ((cls (arE C) (fun _=>true) C.length i).getD (arE C i).2 0) with hle|hle
       · rw[Nat.max_eq_right hle,<-w2]
       · rw[Nat.max_eq_left hle,<-w1,w3]
      rw[hmax]at hr
      by_cases hq:qD C p (2*i+1)=true
      · rw[if_pos hq]at k1 ⊢
        rw[if_pos ⟨by omega,hq⟩]at hr
        omega
      · rw[if_neg hq]at k1 ⊢
        rw[if_neg fun q=>hq q.2]at hr
        omega
end Go.Proofs.Ytgagenmkpmmpfaa
/- Plain mathematics: a walk of one strand; how often it comes by, modulo two. -/
namespace Go.Proofs.Ytgagenmkpmmpfaa
theorem comes_over (x:Cr) (s:Nat) (hs:s<4):x.comes ((s+2)%4)=!x.comes s:=by
 have:s=0∨s=1∨s=2∨s=3:=by omega
 unfold Cr.comes
 rcases this with rfl|rfl|rfl|rfl<;>cases x.plus<;>rfl
theorem nx_inj {C:List Cr} {loops:Int} (hm:mayD C loops=true) (a b:Nat) (h1:1<=a) (h2:a<=2*C.length) (h3:1<=b) (h4:b<=2*C.length) (e:nx C a=nx C b):a=b:=by
 obtain⟨-,p2,p3,p4,p5⟩:=to_may hm a h1 h2
 obtain⟨-,q2,q3,q4,q5⟩:=to_may hm b h3 h4
 obtain⟨a1,a2,a3⟩:=nx_may hm a h1 h2
 obtain⟨b1,b2,b3⟩:=nx_may hm b h3 h4
 have ca:=comes_over (C.getD (toC C a) Cr.none) (toS C a) p3
 have cb:=comes_over (C.getD (toC C b) Cr.none) (toS C b) q3
 rw[p5]at ca
 rw[q5]at cb
 have e1:=end_one hm _ a2 a3 _ _ _ p2 (Nat.mod_lt _ (by decide)) a1 ca
 have e2:=end_one hm _ b2 b3 _ _ _ q2 (Nat.mod_lt _ (by decide)) b1 cb
 rw[e]at e1
 rw[e1]at e2
 have hcc:toC C a=toC C b:=by have:=congrArg Prod.fst e2;simp only at this;omega
 have hss:toS C a=toS C b:=by have:=congrArg Prod.snd e2;simp only at this;omega
 rw[hcc,hss]at p4
 omega
end Go.Proofs.Ytgagenmkpmmpfaa
/- Lists of fractions: their mathematics; the walks of tangle.expanded, tangle.Expand and ref.ExpandOf. -/
namespace Go.Proofs.Ytgagenmkpmmpfaa
open Go.RowKit
set_option maxHeartbeats 8000000
set_option maxRecDepth 100000
def exF:Nat->Nat->Nat->List Int
 |0,_,_=>[]
 |f+1,a,b=>if b=0 then [] else((a / b:Nat):Int)::exF f b (a%b)
theorem exF_bd:∀ (f a b:Nat),a<=1000->b<=1000->∀ x∈exF f a b,0<=x/\x<=1000
 |0,_,_,_,_,x,hx=>by simp[exF]at hx
 |f+1,a,b,ha,hb,x,hx=>by
  unfold exF at hx
  by_cases h0:b=0
  · rw[if_pos h0]at hx;simp at hx
  · rw[if_neg h0]at hx
    rcases List.mem_cons.1 hx with rfl|h
    · have h2:=Nat.div_le_self a b
      generalize a / b=d at h2
      omega
    · exact exF_bd f b (a%b) hb (Nat.le_trans (Nat.mod_le _ _) ha) x h
def fixL (L:List Int):List Int:=if L.length%2=0 then L.set (L.length-1) (L.getD (L.length-1) 0-1)++[1] else L
def exLt (p q:Nat):List Int:=exF (q+1) p q
theorem exL_some {p q:Nat} (hq:1<=q):1<=(exLt p q).length:=by
 unfold exLt exF
 rw[if_neg (by omega)]
 simp
theorem one_int (x:Int):∀ u∈[Value.int .i64 x],u.oneCell'=true:=by
 intro u hu
 simp only[List.mem_singleton]at hu
 subst hu
 rfl
theorem own_some {w:World} {B e s n:Nat} {v:Value} {xs:List Value} (h:w.ownsRow B e s v n xs) (hn:1<=n):∃ g c,v=.slice (some ⟨g,0,none⟩) n c/\B<=g/\g<w.heap.size:=by
 have h0:=h
 rcases h.2 with⟨rfl,h1⟩|⟨g,cap,cur,rfl,h2,_⟩
 · omega
 · exact⟨g,cap,rfl,(h0.lt g rfl).1,(h0.lt g rfl).2⟩
theorem intsV_snoc (l:List Int) (x:Int):intsV l++[.int .i64 x]=intsV (l++[x]):=by simp[intsV]
theorem push_int {w W1 w8 : World} {v v8 : Value} {l : List Int} {x : Int} {e : TypeId} (hb : Below w.heap.size w W1) (hO : W1.ownsRow w.heap.size 3 1 v l.length (intsV l)) (hown : w8.ownsRow w.heap.size 3 1 v8 (l.length + 1) (intsV l ++ [.int .i64 x])) (hg : (W1.alloc (.cells #[.int .i64 x] e)).grownBy w8 v.ownBlock) :
    w8.ownsRow w.heap.size 3 1 v8 (l++[x]).length (intsV (l++[x]))/\Below w.heap.size w w8:=by
 refine⟨?_,(hb.alloc hb.size _).grown hg (by have:=hb.size;simp;omega) (fun q hq=>(hO.lt q hq).1)⟩
 rw[<-intsV_snoc]
 simpa using hown
theorem expanded_any (p q : Nat) (w : World) (hp : p ≤ 1000) (hq1 : 1 ≤ q) (hq : q ≤ 1000) :
    Calls Try.prog 23 #[.int .i64 (p:Nat),.int .i64 (q:Nat)] w fun e w'=>∃ v,e=.returned v/\w'.ownsRow w.heap.size 3 1 v (fixL (exLt p q)).reverse.length (intsV (fixL (exLt p q)).reverse)/\Below w.heap.size w w':=by
 obtain⟨i2,hk,hx0,hx1,hx2⟩:=info_parts infoInt
 obtain⟨L,hL⟩:∃ L,exLt p q=L:=⟨_,rfl⟩
 have HL:Hid (exF (q+1) p q=L):=hL
 have HL1:Hid (1<=L.length):=(by rw[<-hL];exact exL_some hq1:1<=L.length)
 have HLB:Hid (∀ x∈L,0<=x/\x<=1000):=(by rw[<-hL];exact exF_bd _ _ _ hp hq:∀ x∈L,0<=x/\x<=1000)
 have HB:Hid (Below w.heap.size w w):=Below.refl _ _
 have HO0:Hid (w.ownsRow w.heap.size 3 1 (.slice none 0 0) ([]:List Int).length (intsV [])):=World.ownsRow_nil _ _ _ _
 rw[hL]
 clear hL
 go_enter Try.func23,Try.ntmps23
 go_wp2
 go_loopw [0,1,5] (fun v0 v1 v5 wr=>∃ (f a b:Nat) (acc:List Int) (a5:Option Addr) (c5:Nat),b<f/\a<=1000/\b<=1000/\acc.length+b<=1000/\v0=.int .i64 (a:Nat)/\v1=.int .i64 (b:Nat)/\v5=.slice a5 acc.length c5/\Hid (acc++exF f a b=L)/\Hid (wr.ownsRow w.heap.size 3 1 (.slice a5 acc.length c5) acc.length (intsV acc))/\Hid (Below w.heap.size w wr)) (fun _ v1 _ _=>(intOf v1).toNat)
 case atStart=>exact⟨q+1,p,q,[],none,0,by omega,hp,hq,by simpa using hq,rfl,rfl,rfl,HL.out,HO0.out,HB.out⟩
 case round=>
  clear HB HO0 HL
  rename World=>W1
  obtain⟨f,a,b,acc,a5,c5,hbf,ha,hbb,hac,rfl,rfl,rfl,heq,hO,hb⟩:=hrel
  by_cases h0:b=0
  · obtain rfl : acc = L := by
      have h:=heq.out
      cases f with
      |zero=>omega
      |succ f=>
       unfold exF at h
       rw[if_pos h0,List.append_nil]at h
       exact h
    subst h0
    obtain⟨n,hn⟩:∃ n,acc.length=n:=⟨_,rfl⟩
    have HN:Hid (acc.length=n):=hn
    have hn1:1<=n:=by rw[<-hn];exact HL1.out
    rw[hn]at hac hO ⊢
    obtain⟨g,c,e5,hg1,hg2⟩:=own_some hO.out hn1
    injection e5 with e1 e2 e3
    subst e1
    clear e2 e3 hn heq hbf hbb
    have er:(n:Int).tmod 2=((n%2:Nat):Int):=rfl
    obtain⟨r,hr⟩:∃ r,n%2=r:=⟨_,rfl⟩
    have HR:Hid (n%2=r):=hr
    have hr2:r<2:=by omega
    rw[hr]at er
    clear hr
    by_cases hr0:r=0
    · subst hr0
      obtain⟨m,hm⟩:∃ m,n - 1=m:=⟨_,rfl⟩
      have hmn:m<n:=by omega
      have hmI:(n:Int)-1=(m:Int):=by omega
      have ew0:IntKind.i64.wrap ((n:Int)-1)=(m:Int):=by rw[hmI];exact IntWalk.i64_in _ (by omega)
      have hxb:=HLB.out (acc.getD m 0) (by rw[List.getD_eq_getElem?_getD,List.getElem?_eq_getElem (by rw[HN.out];exact hmn)];exact List.getElem_mem _)
      have e0:W1.cell? ⟨g,m,none⟩=some (.int .i64 (acc.getD m 0)):=by
       rw[hO.out.cellAt m (by omega),intsV_getG _ m (by rw[HN.out];exact hmn)]
      have f0:W1.frozen? ⟨g,m,none⟩=false:=hO.out.frozenAt m
      have HFX:Hid (fixL acc=acc.set m (acc.getD m 0-1)++[1]):=(by unfold fixL;rw[HN.out,HR.out,if_pos rfl,hm]:fixL acc=acc.set m (acc.getD m 0-1)++[1])
      have hst:=hO.out.stored m (.int .i64 (acc.getD m 0-1))
      rw[intsV_set]at hst
      obtain⟨x,hx⟩:∃ x,acc.getD m 0=x:=⟨_,rfl⟩
      rw[hx]at hxb e0 HFX hst
      have ew1:IntKind.i64.wrap (x-1)=x-1:=IntWalk.i64_in _ (by omega)
      obtain⟨A,hA⟩:∃ A,acc.set m (x - 1)=A:=⟨_,rfl⟩
      have hAl:A.length=n:=by rw[<-hA,List.length_set,HN.out]
      have HAL:Hid (A.length=n):=hAl
      rw[hA]at HFX hst
      obtain⟨X,hX⟩:∃ X,X=W1.setCell ⟨g,m,none⟩ (.int .i64 (x - 1)):=⟨_,rfl⟩
      have HX:Hid (X=W1.setCell ⟨g,m,none⟩ (.int .i64 (x-1))):=hX
      have HOX:Hid (X.ownsRow w.heap.size 3 1 (.slice (some ⟨g,0,none⟩) A.length c5) A.length (intsV A)):=(by rw[hX,hAl];exact hst.1:X.ownsRow w.heap.size 3 1 (.slice (some ⟨g,0,none⟩) A.length c5) A.length (intsV A))
      have HBX:Hid (Below w.heap.size w X):=(by rw[hX];exact hb.out.grown hst.2 hb.out.size (fun q hq=>by have:=Option.some.inj hq;omega):Below w.heap.size w X)
      clear hm hx hA hst hX hAl
      go_upto_region 7 with(fail)
      rw[<-HX.out]
      clear HX e0 f0 ew1 ew0 hmI
      rw[<-HAL.out]at hac hn1 ⊢
      go_wp2_with (first
       |(at_builtin;refine wpList_append_own _ rfl _ _ 22 rfl w.heap.size 3 i2 (.int .i64 0) 1 8 Try.underlying22 hk hx0 hx1 hx2 rfl (by decide) _ _ _ rfl (HOX.out.alloc _) ⟨X.heap.size,0,none⟩ 1 1 [.int .i64 1] rfl rfl (new_cell1 _ _ _) (one_int 1) (by unfold maxLen;omega) (by omega) (by have:=HBX.out.size;simp;omega) ?_;intro v8 w8 hown8 hg8 _;refine Hid.out ?_))
      refine Lib.hid ?_
      have hpu:=push_int HBX.out HOX.out hown8 hg8
      obtain⟨F,hF⟩:∃ F,fixL acc=F:=⟨_,rfl⟩
      have HF:Hid (fixL acc=F):=hF
      rw[<-HFX.out,hF]at hpu
      have hF1:F.length=A.length+1:=by rw[<-hF,HFX.out];simp
      obtain⟨g8,c8,rfl,hg81,hg82⟩:=own_some hpu.1 (by omega)
      have HP8:Hid (w8.ownsRow w.heap.size 3 1 (.slice (some ⟨g8,0,none⟩) F.length c8) F.length (intsV F)):=hpu.1
      have HB8:Hid (Below w.heap.size w w8):=hpu.2
      have HRV:Hid (Calls Try.prog 43 #[.slice (some ⟨g8,0,none⟩) F.length c8] w8 fun e w'=>e=.returned (.tuple #[])/\w'.ownsRow w.heap.size 3 1 (.slice (some ⟨g8,0,none⟩) F.length c8) F.length (intsV F.reverse)/\w8.grownBy w' (some g8)):=reverse_any w.heap.size g8 c8 F w8 (by omega) (by omega) HP8.out
      clear hown8 hg8 hpu hF hF1
      go_wp2_with (go_at_call 43;refine HRV.out.mono ?_;rintro e9 w9 ⟨rfl,hr9,hg9⟩;refine Hid.out ?_)
      refine Lib.hid ?_
      have HFN:Hid (w9.ownsRow w.heap.size 3 1 (.slice (some ⟨g8,0,none⟩) F.length c8) F.reverse.length (intsV F.reverse)/\Below w.heap.size w w9):=⟨by rw[List.length_reverse];exact hr9,HB8.out.grown hg9 HB8.out.size (fun q hq=>by have:=Option.some.inj hq;omega)⟩
      clear hr9 hg9
      go_wp2
      go_ret
      exact⟨_,rfl,by rw[HF.out];exact HFN.out.1,HFN.out.2⟩
    · have hrz:((r:Int)==0)=false:=by simp;omega
      have HFX:Hid (fixL acc=acc):=(by unfold fixL;rw[HN.out,HR.out,if_neg hr0]:fixL acc=acc)
      have HP8:Hid (W1.ownsRow w.heap.size 3 1 (.slice (some ⟨g,0,none⟩) acc.length c5) acc.length (intsV acc)):=(by rw[HN.out];exact hO.out:W1.ownsRow w.heap.size 3 1 (.slice (some ⟨g,0,none⟩) acc.length c5) acc.length (intsV acc))
      have HRV:Hid (Calls Try.prog 43 #[.slice (some ⟨g,0,none⟩) acc.length c5] W1 fun e w'=>e=.returned (.tuple #[])/\w'.ownsRow w.heap.size 3 1 (.slice (some ⟨g,0,none⟩) acc.length c5) acc.length (intsV acc.reverse)/\W1.grownBy w' (some g)):=reverse_any w.heap.size g c5 acc W1 (by rw[HN.out];omega) (by rw[HN.out];omega) HP8.out
      rw[HN.out]at HRV
      go_wp2_with (go_at_call 43;refine HRV.out.mono ?_;rintro e9 w9 ⟨rfl,hr9,hg9⟩;refine Hid.out ?_)
      refine Lib.hid ?_
      have HFN:Hid (w9.ownsRow w.heap.size 3 1 (.slice (some ⟨g,0,none⟩) n c5) acc.reverse.length (intsV acc.reverse)/\Below w.heap.size w w9):=⟨by rw[List.length_reverse,HN.out];exact hr9,hb.out.grown hg9 hb.out.size (fun q hq=>by have:=Option.some.inj hq;omega)⟩
      clear hr9 hg9
      go_wp2
      go_ret
      exact⟨_,rfl,by rw[HFX.out];exact HFN.out.1,HFN.out.2⟩
  · have eq:(a:Int).tdiv (b:Int)=((a / b:Nat):Int):=rfl
    have er:(a:Int).tmod (b:Int)=((a%b:Nat):Int):=rfl
    have hf0:((b:Int)==0)=false:=by simp;omega
    have hfn:(b:Int)≠0:=by omega
    have hlt:a%b<b:=Nat.mod_lt _ (by omega)
    have hdl:=Nat.div_le_self a b
    have HST : Hid (∃ f', (acc ++ [((a / b : Nat) : Int)]) ++ exF f' b (a % b) = L ∧ a % b < f') := (by
     have h:=heq.out
     cases f with
     |zero=>omega
     |succ f=>
      unfold exF at h
      rw[if_neg h0]at h
      exact⟨f,by rw[List.append_assoc];exact h,by omega⟩:∃ f',(acc++[((a / b:Nat):Int)])++exF f' b (a%b)=L/\a%b<f')
    obtain⟨d,hd⟩:∃ d,a / b=d:=⟨_,rfl⟩
    obtain⟨r,hr⟩:∃ r,a%b=r:=⟨_,rfl⟩
    rw[hd]at eq HST hdl
    rw[hr]at er HST hlt
    clear hd hr heq
    go_wp2_with (first
     |(at_builtin;refine wpList_append_own _ rfl _ _ 22 rfl w.heap.size 3 i2 (.int .i64 0) 1 8 Try.underlying22 hk hx0 hx1 hx2 rfl (by decide) _ _ _ rfl (hO.out.alloc _) ⟨W1.heap.size,0,none⟩ 1 1 [.int .i64 (d:Nat)] rfl rfl (new_cell1 _ _ _) (one_int _) (by unfold maxLen;omega) (by omega) (by have:=hb.out.size;simp;omega) ?_;intro v8 w8 hown8 hg8 _;refine Hid.out ?_))
    refine Lib.hid ?_
    have hpu:=push_int hb.out hO.out hown8 hg8
    obtain⟨a8,c8,rfl⟩:=own_capS hown8
    have hl8:(acc++[(d:Int)]).length=acc.length+1:=by simp
    have HP8:Hid (∀ n,(w8.drewN n).ownsRow w.heap.size 3 1 (.slice a8 (acc++[(d:Int)]).length c8) (acc++[(d:Int)]).length (intsV (acc++[(d:Int)]))/\Below w.heap.size w (w8.drewN n)):=fun n=>⟨own_any (by rw[hl8];have:=hpu.1;rw[hl8]at this;exact this) (grown_below (below_drewN (Below.refl _ _) n) none),below_drewN hpu.2 n⟩
    have HL8:Hid ((acc++[(d:Int)]).length=acc.length+1):=hl8
    clear hown8 hg8 hpu hl8
    go_wp2
    go_quiet (fail)
    go_wp2
    go_roundw
    case rel=>
     obtain⟨f',h1,h2⟩:=HST.out
     exact⟨f',b,r,acc++[(d:Int)],a8,c8,h2,hbb,by omega,by rw[HL8.out];omega,rfl,rfl,by rw[HL8.out],h1,(HP8.out _).1,(HP8.out _).2⟩
    case measure=>simp only[intOf];omega
end Go.Proofs.Ytgagenmkpmmpfaa

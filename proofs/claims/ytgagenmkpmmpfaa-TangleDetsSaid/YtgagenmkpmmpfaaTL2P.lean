/- Several texts of the proof, one behind the other. -/
import Derived.Test.YtgagenmkpmmpfaaBaseP
import Derived.Maps.OwnOps
import Derived.Maps.OwnSet
import Derived.DeepKeys4
import Derived.Test.YtgagenmkpmmpfaaO0P
import Derived.Test.YtgagenmkpmmpfaaF1P
/- Maps from spots to spots; the walks of tangle.ties.tie, lead and join. -/
namespace Go.Proofs.Ytgagenmkpmmpfaa
open Go.RowKit Go.Maps
def spV (x:Nat):Value:=.agg #[.int .i64 (((x / 4:Nat):Int)-1),.int .i64 ((x%4:Nat):Int)]
def spD (x:Nat):DataW Unit:=.agg [.lit (.int .i64 (((x / 4:Nat):Int)-1)),.lit (.int .i64 ((x%4:Nat):Int))]
def spR (v:Value):Option (DataW Unit×List MemPlace):=
 match v with
 |.agg cs=>match cs.toList with
  |[.int .i64 a,.int .i64 b]=>some (.agg [.lit (.int .i64 a),.lit (.int .i64 b)],[])
  |_=>none
 |_=>none
theorem spR_mk (x:Nat):spR (spV x)=some (spD x,[]):=rfl
theorem spR_inv {v:Value} {x:Nat} {ps:List MemPlace} (h:spR v=some (spD x,ps)):v=spV x:=by
 unfold spR at h
 split at h
 · rename_i cs
   split at h
   · rename_i a b e
     simp only[Option.some.injEq,Prod.mk.injEq,spD,DataW.agg.injEq,List.cons.injEq,DataW.lit.injEq,Lit.int.injEq,and_true,true_and]at h
     obtain⟨⟨h1,h2⟩,-⟩:=h
     have ec:cs=#[.int .i64 a,.int .i64 b]:=by rw[<-Array.toArray_toList (xs:=cs),e]
     rw[ec,h1,h2]
     rfl
   · cases h
 · cases h
theorem spV_inj {x y:Nat} (h:spV x=spV y):x=y:=by
 unfold spV at h
 simp only[Value.agg.injEq,Array.mk.injEq,List.cons.injEq,Value.int.injEq,and_true,true_and]at h
 omega
theorem lawS:Keyed Try.prog 66:=Keyed.of_law (deep_law_laid (by kernel_rfl) (m:=5) (by decide) (by decide +kernel) (by kernel_rfl) (by kernel_rfl))
theorem keyS_all:((List.range 80).all fun x=>(keyOf Try.prog 66 (spV x)).isSome)=true:=by decide +kernel
theorem keyS {x:Nat} (h:x<80):∃ l,keyOf Try.prog 66 (spV x)=some l:=by
 have:=List.all_eq_true.1 keyS_all x (List.mem_range.2 h)
 exact Option.isSome_iff_exists.1 this
theorem zeroS (w:World):(zeroValue 66).run Try.prog w=.ok (spV 4) w:=by kernel_rfl
def MapT (W:World) (b m:Nat) (S:Nat->Prop) (T:Nat->Nat):Prop:=∃ D,W.ownsMap Try.prog 66 spR b m D/\∀ x l,S x->keyOf Try.prog 66 (spV x)=some l->∀ zd,D.atKey l zd=spD (T x)
theorem MapT.kept {W W':World} {b m:Nat} {S:Nat->Prop} {T:Nat->Nat} {row:Option Nat} (h:MapT W b m S T) (hg:W.grownBy W' row) (hne:some b≠row):MapT W' b m S T:=by
 obtain⟨D,h1,h2⟩:=h
 exact⟨D,h1.kept hg hne,h2⟩
theorem MapT.lt {W:World} {b m:Nat} {S:Nat->Prop} {T:Nat->Nat} (h:MapT W b m S T):b<W.heap.size:=by
 obtain⟨D,h1,h2⟩:=h
 exact h1.lt
theorem MapT.congr {W:World} {b m m':Nat} {S S':Nat->Prop} {T T':Nat->Nat} (h:MapT W b m S T) (hm:m<=m') (hS:∀ x,S' x->S x/\T' x=T x):MapT W b m' S' T':=by
 obtain⟨D,h1,h2⟩:=h
 exact⟨D,h1.mono hm,fun x l hx hl zd=>by rw[(hS x hx).2];exact h2 x l (hS x hx).1 hl zd⟩
theorem MapT.look {W:World} {b m:Nat} {S:Nat->Prop} {T:Nat->Nat} (h:MapT W b m S T) (x:Nat) (hx:S x) (hN:x<80):(Instr.lookup 46 (.map (some b)) (spV x) false).run Try.prog W=.ok (spV (T x)) W:=by
 obtain⟨D,h1,h2⟩:=h
 obtain⟨l,hl⟩:=keyS hN
 obtain⟨v,ps,hrun,hv⟩:=h1.lookup lawS Try.underlying46 (zeroS W) (spR_mk 4) hl
 rw[h2 x l hx hl]at hv
 rw[hrun,spR_inv hv]
theorem MapT.put {W : World} {b m : Nat} {S : Nat → Prop} {T : Nat → Nat} (h : MapT W b m S T) (x y : Nat) (hx : x < 80) (hm : m ≤ 1000) :
    ∃ w',(Instr.mapUpdate 46 (.map (some b)) (spV x) (spV y)).run Try.prog W=.ok () w'/\MapT w' b (m+1) (fun z=>z=x∨S z) (fun z=>if z=x then y else T z)/\W.grownBy w' (some b):=by
 obtain⟨D,h1,h2⟩:=h
 obtain⟨l,hl⟩:=keyS hx
 obtain⟨w',hrun,hown,hg⟩:=h1.update lawS Try.underlying46 (show m<maxLen by unfold maxLen;omega) hl (spR_mk y)
 refine⟨w',hrun,⟨D.put l (spD y),hown,fun z lz hz hlz zd=>?_⟩,hg⟩
 show _=spD (if z=x then y else T z)
 by_cases e:z=x
 · subst e
   rw[if_pos rfl]
   rw[hl]at hlz
   obtain rfl:=Option.some.inj hlz
   exact atKey_put_same h1.isMap (lawS.key hl) _ _
 · rw[if_neg e]
   have hne:l≠lz:=fun h0=>e (spV_inj (lawS.inj hlz (h0▸hl)))
   rw[atKey_put_other (by intro h0;exact hne h0.symm)]
   rcases hz with h0|h0
   · exact absurd h0 e
   · exact h2 z lz h0 hlz zd
end Go.Proofs.Ytgagenmkpmmpfaa
/- The walks of tangle.ties.tie, lead and join. -/
namespace Go.Proofs.Ytgagenmkpmmpfaa
open Go.RowKit Go.Maps
set_option maxHeartbeats 4000000
set_option maxRecDepth 100000
def tieF (T:Nat->Nat) (a b:Nat):Nat->Nat:=fun x=>if x=b then a else if x=a then b else T x
theorem two_boxes (w:World) (p q r s:Value) (t:TypeId):((w.alloc (.cells #[p,q] t)).alloc (.cells #[r,s] t)).cell? ⟨w.heap.size,0,none⟩=some p/\((w.alloc (.cells #[p,q] t)).alloc (.cells #[r,s] t)).cell? ⟨w.heap.size,1,none⟩=some q/\((w.alloc (.cells #[p,q] t)).alloc (.cells #[r,s] t)).cell? ⟨w.heap.size+1,0,none⟩=some r/\((w.alloc (.cells #[p,q] t)).alloc (.cells #[r,s] t)).cell? ⟨w.heap.size+1,1,none⟩=some s:=by
 have h1:((w.alloc (.cells #[p,q] t)).alloc (.cells #[r,s] t)).heap[w.heap.size]?=some (.cells #[p,q] t (0,0)):=by
  have e:((w.alloc (.cells #[p,q] t)).alloc (.cells #[r,s] t)).heap=(w.heap.push (.cells #[p,q] t)).push (.cells #[r,s] t):=rfl
  rw[e,Array.getElem?_push_lt (by simp),Array.getElem_push_eq]
 have h2:((w.alloc (.cells #[p,q] t)).alloc (.cells #[r,s] t)).heap[w.heap.size+1]?=some (.cells #[r,s] t (0,0)):=by
  have e:((w.alloc (.cells #[p,q] t)).alloc (.cells #[r,s] t)).heap=(w.heap.push (.cells #[p,q] t)).push (.cells #[r,s] t):=rfl
  rw[e,show w.heap.size+1=(w.heap.push (.cells #[p,q] t)).size by simp]
  exact Array.getElem?_push_size
 unfold World.cell?
 rw[h1,h2]
 exact⟨rfl,rfl,rfl,rfl⟩
theorem grown_two {a b c:World} {row:Option Nat} (h:a.grownBy b row) (k:b.grownBy c row):a.grownBy c row:=
 ⟨k.os.trans h.os,k.tape.trans h.tape,k.output.trans h.output,Nat.le_trans h.size k.size,fun i hi hr=>(k.block i (Nat.lt_of_lt_of_le hi h.size) hr).trans (h.block i hi hr)⟩
theorem tie_any (b m : Nat) (S : Nat → Prop) (T : Nat → Nat) (x y : Nat) (w : World) (h : MapT w b m S T) (hx : x < 80) (hy : y < 80) (hm : m ≤ 900) :
    Calls Try.prog 25 #[.map (some b),spV x,spV y] w fun e w'=>e=.returned (.tuple #[])/\MapT w' b (m+2) (fun z=>z=y∨z=x∨S z) (tieF T x y)/\w.grownBy w' (some b):=by
 obtain⟨W2,hW2⟩:∃ W2,W2=(w.alloc (.cells #[.int .i64 (((x / 4:Nat):Int) - 1),.int .i64 ((x%4:Nat):Int)] 66)).alloc (.cells #[.int .i64 (((y / 4:Nat):Int) - 1),.int .i64 ((y%4:Nat):Int)] 66):=⟨_,rfl⟩
 have HW2:Hid (W2=(w.alloc (.cells #[.int .i64 (((x / 4:Nat):Int)-1),.int .i64 ((x%4:Nat):Int)] 66)).alloc (.cells #[.int .i64 (((y / 4:Nat):Int)-1),.int .i64 ((y%4:Nat):Int)] 66)):=hW2
 have hg0:w.grownBy W2 (some b):=by rw[hW2];exact grown_two (World.grownBy_alloc _ _ _) (World.grownBy_alloc _ _ _)
 have hM2:MapT W2 b m S T:=by rw[hW2];exact(h.kept (World.grownBy_alloc _ _ none) (by simp)).kept (World.grownBy_alloc _ _ none) (by simp)
 obtain⟨c0,c1,c2,c3⟩:=two_boxes w (.int .i64 (((x / 4:Nat):Int) - 1)) (.int .i64 ((x%4:Nat):Int)) (.int .i64 (((y / 4:Nat):Int) - 1)) (.int .i64 ((y%4:Nat):Int)) 66
 rw[<-hW2]at c0 c1 c2 c3
 have hM2d:MapT W2.drew b m S T:=hM2.kept (grown_below ((Below.refl _ _).drew) none) (by simp)
 obtain⟨X1,hr1,hM3,hg1⟩:=hM2d.put x y hx (by omega)
 have hbw:=h.lt
 have hsz2:W2.heap.size=w.heap.size+2:=by rw[hW2];simp
 have hX:∀ k o:Nat,w.heap.size<=k->k<W2.heap.size->X1.cell? ⟨k,o,none⟩=W2.cell? ⟨k,o,none⟩:=fun k o h1 h2=>by
  unfold World.cell?
  rw[hg1.block k h2 (fun e=>by have:=Option.some.inj e;omega)]
  rfl
 have d0:=(hX w.heap.size 0 (by omega) (by omega)).trans c0
 have d1:=(hX w.heap.size 1 (by omega) (by omega)).trans c1
 have d2:=(hX (w.heap.size+1) 0 (by omega) (by omega)).trans c2
 have d3:=(hX (w.heap.size+1) 1 (by omega) (by omega)).trans c3
 obtain⟨X2,hr2,hM4,hg2⟩:=hM3.put y x hy (by omega)
 have HFN:Hid (MapT X2 b (m+2) (fun z=>z=y∨z=x∨S z) (tieF T x y)/\w.grownBy X2 (some b)):=⟨hM4.congr (Nat.le_refl _) (fun z hz=>⟨hz,rfl⟩),grown_two hg0 (grown_two (grown_below ((Below.refl _ _).drew) _) (grown_two hg1 hg2))⟩
 clear hW2 hg0 hM2 hM2d hM3 hM4 hg1 hg2 h hX hsz2
 unfold spV at hr1 hr2 ⊢
 generalize (((x / 4:Nat):Int)-1)=p at HW2 c0 d0 hr1 hr2 ⊢
 generalize ((x%4:Nat):Int)=q at HW2 c1 d1 hr1 hr2 ⊢
 generalize (((y / 4:Nat):Int)-1)=r at HW2 c2 d2 hr1 hr2 ⊢
 generalize ((y%4:Nat):Int)=s at HW2 c3 d3 hr1 hr2 ⊢
 go_enter Try.func25,Try.ntmps25
 go_wp2
 rw[<-HW2.out]
 apply cut_one
 case h=>
  intro key
  go_region_with (fail)
  all_goals exact key.out
 exact bodyPost_end (v:=.tuple #[]) (results_none rfl _ _ _) rfl ⟨rfl,HFN.out⟩
theorem box_at (w:World) (o:Obj):(w.alloc o).heap[w.heap.size]?=some o:=Array.getElem?_push_size
theorem box_low (w:World) (o:Obj) {k:Nat} (h:k<w.heap.size):(w.alloc o).heap[k]?=w.heap[k]?:=Array.getElem?_push_lt h |>.trans (Array.getElem?_eq_getElem h).symm
theorem box_cell {w:World} {g i:Nat} {cs:Array Value} {t:TypeId} {fz:Nat×Nat} {v:Value} (h:w.heap[g]?=some (.cells cs t fz)) (hv:cs[i]?=some v):w.cell? ⟨g,i,none⟩=some v:=by
 unfold World.cell?
 rw[h]
 exact hv
def leadF (T:Nat->Nat) (e i o:Nat):Nat->Nat:=tieF (tieF T (T e) i) e o
theorem lead_any (b m e : Nat) (S : Nat → Prop) (T : Nat → Nat) (i o : Nat) (w : World) (h : MapT w b m S T) (he : e < 4) (hS : S e) (hT : T e < 80) (hi : i < 80) (ho : o < 80) (hm : m ≤ 800) :
    Calls Try.prog 27 #[.map (some b),.int .i64 (e:Nat),spV i,spV o] w fun r w'=>r=.returned (.tuple #[])/\MapT w' b (m+4) (fun z=>z=o∨z=e∨z=i∨z=T e∨S z) (leadF T e i o)/\w.grownBy w' (some b):=by
 have eE:spV e=.agg #[.int .i64 (-1),.int .i64 (e:Nat)]:=by
  unfold spV
  rw[show e / 4=0 by omega,show e%4=e by omega]
  rfl
 have HI:Hid (spV i=.agg #[.int .i64 (((i / 4:Nat):Int)-1),.int .i64 ((i%4:Nat):Int)]):=(rfl:spV i=.agg #[.int .i64 (((i / 4:Nat):Int)-1),.int .i64 ((i%4:Nat):Int)])
 have HO:Hid (spV o=.agg #[.int .i64 (((o / 4:Nat):Int)-1),.int .i64 ((o%4:Nat):Int)]):=(rfl:spV o=.agg #[.int .i64 (((o / 4:Nat):Int)-1),.int .i64 ((o%4:Nat):Int)])
 rw[HI.out,HO.out]
 generalize (((i / 4:Nat):Int)-1)=p at HI ⊢
 generalize ((i%4:Nat):Int)=q at HI ⊢
 generalize (((o / 4:Nat):Int)-1)=r at HO ⊢
 generalize ((o%4:Nat):Int)=s at HO ⊢
 obtain⟨Y,hY⟩:∃ Y,Y=((w.alloc (.cells #[.int .i64 p,.int .i64 q] 66)).alloc (.cells #[.int .i64 r,.int .i64 s] 66)).alloc (.cells #[.int .i64 (-1),.int .i64 (e:Nat)] 66):=⟨_,rfl⟩
 have HY:Hid (Y=((w.alloc (.cells #[.int .i64 p,.int .i64 q] 66)).alloc (.cells #[.int .i64 r,.int .i64 s] 66)).alloc (.cells #[.int .i64 (-1),.int .i64 (e:Nat)] 66)):=hY
 have hgY:w.grownBy Y (some b):=by rw[hY];exact grown_two (grown_two (World.grownBy_alloc _ _ _) (World.grownBy_alloc _ _ _)) (World.grownBy_alloc _ _ _)
 have hMY:MapT Y b m S T:=h.kept (row:=none) (by rw[hY];exact grown_two (grown_two (World.grownBy_alloc _ _ _) (World.grownBy_alloc _ _ _)) (World.grownBy_alloc _ _ _)) (by simp)
 have hsY:Y.heap.size=w.heap.size+3:=by rw[hY];simp
 have hbw:=h.lt
 have b0:Y.heap[w.heap.size]?=some (.cells #[.int .i64 p,.int .i64 q] 66 (0,0)):=by
  rw[hY,box_low _ _ (by simp;omega),box_low _ _ (by simp)];exact box_at _ _
 have b1:Y.heap[w.heap.size+1]?=some (.cells #[.int .i64 r,.int .i64 s] 66 (0,0)):=by
  rw[hY,box_low _ _ (by simp)]
  have:=box_at (w.alloc (.cells #[.int .i64 p,.int .i64 q] 66)) (.cells #[.int .i64 r,.int .i64 s] 66)
  simpa using this
 have b2:Y.heap[w.heap.size+1+1]?=some (.cells #[.int .i64 (-1),.int .i64 (e:Nat)] 66 (0,0)):=by
  have:=box_at ((w.alloc (.cells #[.int .i64 p,.int .i64 q] 66)).alloc (.cells #[.int .i64 r,.int .i64 s] 66)) (.cells #[.int .i64 (-1),.int .i64 (e:Nat)] 66)
  rw[hY]
  simpa using this
 have HKP:Hid (∀ W,Y.grownBy W (some b)->W.cell? ⟨w.heap.size,0,none⟩=some (.int .i64 p)/\W.cell? ⟨w.heap.size,1,none⟩=some (.int .i64 q)/\W.cell? ⟨w.heap.size+1,0,none⟩=some (.int .i64 r)/\W.cell? ⟨w.heap.size+1,1,none⟩=some (.int .i64 s)/\W.cell? ⟨w.heap.size+1+1,0,none⟩=some (.int .i64 (-1))/\W.cell? ⟨w.heap.size+1+1,1,none⟩=some (.int .i64 (e:Nat))):=fun W hW=>by
  have g0:=(hW.block w.heap.size (by omega) (fun e=>by have:=Option.some.inj e;omega)).trans b0
  have g1:=(hW.block (w.heap.size+1) (by omega) (fun e=>by have:=Option.some.inj e;omega)).trans b1
  have g2:=(hW.block (w.heap.size+1+1) (by omega) (fun e=>by have:=Option.some.inj e;omega)).trans b2
  exact⟨box_cell g0 rfl,box_cell g0 rfl,box_cell g1 rfl,box_cell g1 rfl,box_cell g2 rfl,box_cell g2 rfl⟩
 have HGD:Hid (Y.grownBy Y.drew (some b)):=grown_below ((Below.refl _ _).drew) _
 have HGY:Hid (w.grownBy Y (some b)):=hgY
 have hMD:MapT Y.drew b m S T:=hMY.kept (grown_below ((Below.refl _ _).drew) none) (by simp)
 have hlk:=hMD.look e hS (by omega)
 rw[eE]at hlk
 have HT1:Hid (Calls Try.prog 25 #[.map (some b),spV (T e),.agg #[.int .i64 p,.int .i64 q]] Y.drew fun r w'=>r=.returned (.tuple #[])/\MapT w' b (m+2) (fun z=>z=i∨z=T e∨S z) (tieF T (T e) i)/\Y.drew.grownBy w' (some b)):=(by rw[<-HI.out];exact tie_any b m S T (T e) i Y.drew hMD hT hi (by omega):Calls Try.prog 25 #[.map (some b),spV (T e),.agg #[.int .i64 p,.int .i64 q]] Y.drew fun r w'=>r=.returned (.tuple #[])/\MapT w' b (m+2) (fun z=>z=i∨z=T e∨S z) (tieF T (T e) i)/\Y.drew.grownBy w' (some b))
 have HT2:Hid (∀ W,MapT W b (m+2) (fun z=>z=i∨z=T e∨S z) (tieF T (T e) i)->Calls Try.prog 25 #[.map (some b),.agg #[.int .i64 (-1),.int .i64 (e:Nat)],.agg #[.int .i64 r,.int .i64 s]] W fun r w'=>r=.returned (.tuple #[])/\MapT w' b (m+2+2) (fun z=>z=o∨z=e∨z=i∨z=T e∨S z) (leadF T e i o)/\W.grownBy w' (some b)):=fun W hW=>by rw[<-HO.out,<-eE];exact tie_any b (m+2) _ _ e o W hW (by omega) ho (by omega)
 obtain⟨y0,y1,hTe⟩:∃ y0 y1:Int,spV (T e)=.agg #[.int .i64 y0,.int .i64 y1]:=⟨_,_,rfl⟩
 rw[hTe]at hlk HT1
 clear hY hgY hMY b0 b1 b2 h hMD eE hTe
 go_enter Try.func27,Try.ntmps27
 go_wp2
 rw[<-HY.out]
 go_region_held3 (fun W => W.cell? ⟨w.heap.size, 0, none⟩ = some (.int .i64 p) ∧ W.cell? ⟨w.heap.size, 1, none⟩ = some (.int .i64 q) ∧ W.cell? ⟨w.heap.size + 1 + 1, 0, none⟩ = some (.int .i64 (-1)) ∧ W.cell? ⟨w.heap.size + 1 + 1, 1, none⟩ = some (.int .i64 (e : Nat))) (first | (obtain ⟨k0, k1, k2, k3, k4, k5⟩ := HKP.out _ HGD.out; exact ⟨k0, k1, k4, k5⟩) | exact HK3.out) (first
  | (go_at_call 25; refine HT1.out.mono ?_; rintro e9 w3 ⟨rfl, hM3, hg3⟩
     have HG3:Hid (Y.grownBy w3 (some b)):=grown_two HGD.out hg3
     have HK3:Hid (w3.cell? ⟨w.heap.size,0,none⟩=some (.int .i64 p)/\w3.cell? ⟨w.heap.size,1,none⟩=some (.int .i64 q)/\w3.cell? ⟨w.heap.size+1+1,0,none⟩=some (.int .i64 (-1))/\w3.cell? ⟨w.heap.size+1+1,1,none⟩=some (.int .i64 (e:Nat))):=(by obtain⟨k0,k1,k2,k3,k4,k5⟩:=HKP.out _ (grown_two HGD.out hg3);exact⟨k0,k1,k4,k5⟩)))
 obtain⟨k0,k1,k2,k3,k4,k5⟩:=HKP.out _ HG3.out
 have HM3:Hid (MapT w3 b (m+2) (fun z=>z=i∨z=T e∨S z) (tieF T (T e) i)):=hM3
 have hsw3:=HG3.out.size
 clear hM3 hg3 hlk
 go_wp2_with (go_at_call 25;refine(HT2.out _ HM3.out).mono ?_;rintro e9 w4 ⟨rfl,hM4,hg4⟩;refine Hid.out ?_)
 refine Lib.hid ?_
 have HFN:Hid (MapT w4 b (m+4) (fun z=>z=o∨z=e∨z=i∨z=T e∨S z) (leadF T e i o)/\w.grownBy w4 (some b)):=⟨hM4,grown_two HGY.out (grown_two HG3.out hg4)⟩
 clear hM4 hg4
 go_wp2
 exact bodyPost_end (v:=.tuple #[]) (results_none rfl _ _ _) rfl ⟨rfl,HFN.out⟩
end Go.Proofs.Ytgagenmkpmmpfaa
/- Links of lists: plain mathematics: walks from spot to spot, and what they number. -/
namespace Go.Proofs.Ytgagenmkpmmpfaa
def acr (x:Nat):Nat:=4*(x / 4)+(x%4+2)%4
def SpT (n x:Nat):Prop:=4<=x/\x<4*n+4
theorem acr_sp {n x:Nat} (h:SpT n x):SpT n (acr x):=by unfold SpT acr at *;omega
theorem acr_acr (x:Nat):acr (acr x)=x:=by unfold acr;omega
theorem acr_ne (x:Nat):acr x≠x:=by unfold acr;omega
theorem acr_inj {x y:Nat} (h:acr x=acr y):x=y:=by rw[<-acr_acr x,h,acr_acr]
structure Ties (n:Nat) (U:Nat->Nat):Prop where
 sp:∀ x,SpT n x->SpT n (U x)
 inv:∀ x,SpT n x->U (U x)=x
 ne:∀ x,SpT n x->U x≠x
def nxt (U:Nat->Nat) (x:Nat):Nat:=U (acr x)
theorem Ties.inj {n:Nat} {U:Nat->Nat} (h:Ties n U) {x y:Nat} (hx:SpT n x) (hy:SpT n y) (e:U x=U y):x=y:=by rw[<-h.inv x hx,e,h.inv y hy]
theorem Ties.nxt_sp {n:Nat} {U:Nat->Nat} (h:Ties n U) {x:Nat} (hx:SpT n x):SpT n (nxt U x):=h.sp _ (acr_sp hx)
theorem Ties.nxt_inj {n:Nat} {U:Nat->Nat} (h:Ties n U) {x y:Nat} (hx:SpT n x) (hy:SpT n y) (e:nxt U x=nxt U y):x=y:=acr_inj (h.inj (acr_sp hx) (acr_sp hy) e)
structure Way (n:Nat) (U:Nat->Nat) (L:List Nat) (s x:Nat):Prop where
 sp:∀ y∈L,SpT n y
 nd:L.Nodup
 xs:SpT n x
 a:∀ y∈L,acr y ∉ L
 b:∀ y∈L,nxt U y∈L∨nxt U y=x
 c:(x=s/\s ∉ L/\acr s ∉ L)∨∃ y∈L,x=nxt U y
 d:∀ y∈L,y=s∨∃ z∈L,y=nxt U z
 e:x∈L->x=s
structure Rest (n:Nat) (U:Nat->Nat) (L:List Nat):Prop where
 sp:∀ y∈L,SpT n y
 nd:L.Nodup
 a:∀ y∈L,acr y ∉ L
 b:∀ y∈L,nxt U y∈L
 d:∀ y∈L,∃ z∈L,y=nxt U z
theorem Rest.nil (n:Nat) (U:Nat->Nat):Rest n U []:=⟨by simp,List.nodup_nil,by simp,by simp,by simp⟩
theorem Rest.way {n:Nat} {U:Nat->Nat} {L:List Nat} (h:Rest n U L) {s:Nat} (hs:SpT n s) (h1:s ∉ L) (h2:acr s ∉ L):Way n U L s s:=
 ⟨h.sp,h.nd,hs,h.a,fun y hy=>Or.inl (h.b y hy),Or.inl ⟨rfl,h1,h2⟩,fun y hy=>Or.inr (h.d y hy),fun _=>rfl⟩
theorem Way.new {n:Nat} {U:Nat->Nat} {L:List Nat} {s x:Nat} (hU:Ties n U) (h:Way n U L s x) (hx:x ∉ L):acr x ∉ L/\U x ∉ L:=by
 rcases h.c with⟨rfl,-,h2⟩|⟨y,hy,rfl⟩
 · refine⟨h2,fun h3=>?_⟩
   rcases h.d _ h3 with e|⟨z,hz,e⟩
   · exact hU.ne _ h.xs e
   · have h4:=hU.inj h.xs (acr_sp (h.sp z hz)) e
     rw[h4,acr_acr]at h2
     exact h2 hz
 · have hys:=h.sp y hy
   have e1:U (nxt U y)=acr y:=hU.inv _ (acr_sp hys)
   refine⟨fun h3=>?_,by rw[e1];exact h.a y hy⟩
   have e2:nxt U (acr (nxt U y))=acr y:=by unfold nxt;rw[acr_acr];exact hU.inv _ (acr_sp hys)
   rcases h.b _ h3 with h4|h4
   · rw[e2]at h4;exact h.a y hy h4
   · rw[e2]at h4
     exact hU.ne _ h.xs (e1.trans h4)
theorem Way.step {n:Nat} {U:Nat->Nat} {L:List Nat} {s x:Nat} (hU:Ties n U) (h:Way n U L s x) (hx:x ∉ L):Way n U (L++[x]) s (nxt U x):=by
 obtain⟨n1,n2⟩:=h.new hU hx
 refine⟨fun y hy=>?_,?_,hU.nxt_sp h.xs,fun y hy hc=>?_,fun y hy=>?_,Or.inr ⟨x,by simp,rfl⟩,fun y hy=>?_,fun hm=>?_⟩
 · rcases List.mem_append.1 hy with h1|h1
   · exact h.sp y h1
   · rw[List.mem_singleton.1 h1];exact h.xs
 · rw[List.nodup_append]
   refine⟨h.nd,by simp,fun a ha b hb e=>?_⟩
   rw[List.mem_singleton.1 hb]at e
   exact hx (e▸ha)
 · rcases List.mem_append.1 hy with h1|h1<;>rcases List.mem_append.1 hc with h2|h2
   · exact h.a y h1 h2
   · have:=List.mem_singleton.1 h2
     rw[<-this,acr_acr]at n1
     exact n1 h1
   · rw[List.mem_singleton.1 h1]at h2
     exact n1 h2
   · rw[List.mem_singleton.1 h1]at h2
     exact acr_ne x (List.mem_singleton.1 h2)
 · rcases List.mem_append.1 hy with h1|h1
   · rcases h.b y h1 with h2|h2
     · exact Or.inl (List.mem_append_left _ h2)
     · exact Or.inl (by rw[h2];simp)
   · rw[List.mem_singleton.1 h1];exact Or.inr rfl
 · rcases List.mem_append.1 hy with h1|h1
   · rcases h.d y h1 with h2|⟨z,hz,e⟩
     · exact Or.inl h2
     · exact Or.inr ⟨z,List.mem_append_left _ hz,e⟩
   · rw[List.mem_singleton.1 h1]
     rcases h.c with⟨e,-,-⟩|⟨z,hz,e⟩
     · exact Or.inl e
     · exact Or.inr ⟨z,List.mem_append_left _ hz,e⟩
 · rcases List.mem_append.1 hm with h1|h1
   · rcases h.d _ h1 with h2|⟨z,hz,e⟩
     · exact h2
     · exact absurd (hU.nxt_inj h.xs (h.sp z hz) e▸hz) hx
   · have e0:=List.mem_singleton.1 h1
     rcases h.c with⟨e,-,-⟩|⟨z,hz,e⟩
     · rw[e0,e]
     · rw[e]at e0
       exact absurd (hU.nxt_inj (h.sp z hz) (hU.nxt_sp (h.sp z hz)) e0.symm▸hz) (by rw[<-e];exact hx)
theorem Way.done {n:Nat} {U:Nat->Nat} {L:List Nat} {s x:Nat} (h:Way n U L s x) (hx:x∈L):Rest n U L/\s∈L/\x=s:=by
 have e:=h.e hx
 subst e
 refine⟨⟨h.sp,h.nd,h.a,fun y hy=>?_,fun y hy=>?_⟩,hx,rfl⟩
 · rcases h.b y hy with h1|h1
   · exact h1
   · rw[h1];exact hx
 · rcases h.d y hy with rfl|h1
   · rcases h.c with⟨-,h2,-⟩|h2
     · exact absurd hx h2
     · obtain⟨z,hz,e⟩:=h2
       exact⟨z,hz,e⟩
   · exact h1
theorem nodup_short:∀ (m:Nat) (L:List Nat),L.Nodup->(∀ y∈L,y<m)->L.length<=m
 |0,L,_,h=>by
  cases L with
  |nil=>simp
  |cons a t=>exact absurd (h a (by simp)) (by omega)
 |m+1,L,hn,h=>by
  by_cases hm:m∈L
  · have h1 := nodup_short m (L.erase m) (hn.erase m) fun y hy => by
      have h2:=h y (List.mem_of_mem_erase hy)
      have h3:y≠m:=fun e=>by rw[e]at hy;exact(List.Nodup.not_mem_erase hn) hy
      omega
    rw[List.length_erase_of_mem hm]at h1
    omega
  · have h1 := nodup_short m L hn fun y hy => by
      have h2:=h y hy
      have h3:y≠m:=fun e=>hm (e▸hy)
      omega
    omega
theorem Way.short {n:Nat} {U:Nat->Nat} {L:List Nat} {s x:Nat} (h:Way n U L s x):L.length<=4*n+4:=nodup_short _ L h.nd fun y hy=>(h.sp y hy).2
def goL (U:Nat->Nat):Nat->List Nat->Nat->List Nat
 |0,L,_=>L
 |f+1,L,x=>if x∈L then L else goL U f (L++[x]) (nxt U x)
def goS (n:Nat) (U:Nat->Nat) (L:List Nat) (s:Nat):List Nat:=if s∈L∨acr s∈L then L else goL U (4*n+5) L s
def goC (n:Nat) (U:Nat->Nat):Nat->List Nat
 |0=>[]
 |k+1=>goS n U (goS n U (goC n U k) (4*k+4)) (4*k+5)
theorem goL_rest {n:Nat} {U:Nat->Nat} (hU:Ties n U):∀ (f:Nat) (L:List Nat) (s x:Nat),Way n U L s x->4*n+4<L.length+f->Rest n U (goL U f L x)/\s∈goL U f L x/\∀ y∈L,y∈goL U f L x
 |0,L,s,x,h,hf=>by have:=h.short;omega
 |f+1,L,s,x,h,hf=>by
  unfold goL
  by_cases hx:x∈L
  · rw[if_pos hx]
    obtain⟨h1,h2,-⟩:=h.done hx
    exact⟨h1,h2,fun y hy=>hy⟩
  · rw[if_neg hx]
    obtain⟨h1,h2,h3⟩:=goL_rest hU f _ s _ (h.step hU hx) (by simp;omega)
    exact⟨h1,h2,fun y hy=>h3 y (List.mem_append_left _ hy)⟩
theorem goS_rest {n:Nat} {U:Nat->Nat} (hU:Ties n U) {L:List Nat} (h:Rest n U L) {s:Nat} (hs:SpT n s):Rest n U (goS n U L s)/\(s∈goS n U L s∨acr s∈goS n U L s)/\∀ y∈L,y∈goS n U L s:=by
 unfold goS
 by_cases h0:s∈L∨acr s∈L
 · rw[if_pos h0]
   exact⟨h,h0,fun y hy=>hy⟩
 · rw[if_neg h0]
   obtain⟨h1,h2,h3⟩:=goL_rest hU (4*n+5) L s s (h.way hs (fun e=>h0 (Or.inl e)) (fun e=>h0 (Or.inr e))) (by omega)
   exact⟨h1,Or.inl h2,h3⟩
theorem goC_rest {n:Nat} {U:Nat->Nat} (hU:Ties n U) (k:Nat) (hk:k<=n):Rest n U (goC n U k)/\∀ c,c<k->(4*c+4∈goC n U k∨4*c+6∈goC n U k)/\(4*c+5∈goC n U k∨4*c+7∈goC n U k):=by
 induction k with
 |zero=>exact⟨Rest.nil _ _,fun c hc=>by omega⟩
 |succ k ih=>
  obtain⟨h1,h2⟩:=ih (by omega)
  obtain⟨h3,h4,h5⟩:=goS_rest hU h1 (s:=4*k+4) (by unfold SpT;omega)
  obtain⟨h6,h7,h8⟩:=goS_rest hU h3 (s:=4*k+5) (by unfold SpT;omega)
  have e1:acr (4*k+4)=4*k+6:=by unfold acr;omega
  have e2:acr (4*k+5)=4*k+7:=by unfold acr;omega
  rw[e1]at h4
  rw[e2]at h7
  refine⟨h6,fun c hc=>?_⟩
  by_cases e:c=k
  · subst e
    exact⟨h4.imp (h8 _) (h8 _),h7⟩
  · obtain⟨h9,h10⟩:=h2 c (by omega)
    exact⟨h9.imp (fun h=>h8 _ (h5 _ h)) (fun h=>h8 _ (h5 _ h)),h10.imp (fun h=>h8 _ (h5 _ h)) (fun h=>h8 _ (h5 _ h))⟩
def FL (U:Nat->Nat) (L:List Nat) (y:Nat):Int:=if y∈L then(L.idxOf y:Int)+1 else if U y∈L then(L.idxOf (U y):Int)+1 else 0
theorem FL_zero {U:Nat->Nat} {L:List Nat} {y:Nat}:FL U L y=0↔y ∉ L/\U y ∉ L:=by
 unfold FL
 by_cases h1:y∈L
 · rw[if_pos h1]
   constructor
   · intro h;omega
   · intro h;exact absurd h1 h.1
 · rw[if_neg h1]
   by_cases h2:U y∈L
   · rw[if_pos h2]
     constructor
     · intro h;omega
     · intro h;exact absurd h2 h.2
   · rw[if_neg h2]
     exact⟨fun _=>⟨h1,h2⟩,fun _=>rfl⟩
theorem FL_step {n:Nat} {U:Nat->Nat} (hU:Ties n U) {L:List Nat} {x:Nat} (hx:x ∉ L) (hx2:U x ∉ L) (hxs:SpT n x) {y:Nat} (hy:SpT n y):FL U (L++[x]) y=if y=x∨y=U x then(L.length:Int)+1 else FL U L y:=by
 have ei:∀ z,(L++[x]).idxOf z=if z∈L then L.idxOf z else L.length+(if x=z then 0 else 1):=fun z=>by
  rw[List.idxOf_append]
  split
  · rfl
  · by_cases e:x=z
    · subst e;simp
    · rw[if_neg e];simp[List.idxOf_cons,beq_eq_false_iff_ne.2 e];omega
 unfold FL
 by_cases e1:y=x
 · subst e1
   rw[if_pos (by simp),if_pos (Or.inl rfl),ei,if_neg hx,if_pos rfl]
   simp
 · by_cases e2:y=U x
   · subst e2
     have e3:U (U x)=x:=hU.inv x hxs
     rw[if_neg (by simp[hx2,hU.ne x hxs]),e3,if_pos (by simp),if_pos (Or.inr rfl),ei,if_neg hx,if_pos rfl]
     simp
   · have e5:¬ (y=x∨y=U x):=fun h=>h.elim e1 e2
     rw[if_neg e5]
     have e4:U y≠x:=fun h=>e2 (by rw[<-h,hU.inv y hy])
     by_cases m1:y∈L
     · rw[if_pos (List.mem_append_left _ m1),if_pos m1,ei,if_pos m1]
     · rw[if_neg (by simp[m1,e1]),if_neg m1]
       by_cases m2:U y∈L
       · rw[if_pos (List.mem_append_left _ m2),if_pos m2,ei,if_pos m2]
       · rw[if_neg (by simp[m2,e4]),if_neg m2]
end Go.Proofs.Ytgagenmkpmmpfaa
/- What the walker keeps: its cells; the walk of tangle.walker.number. -/
namespace Go.Proofs.Ytgagenmkpmmpfaa
open Go.RowKit Go.Maps
set_option maxHeartbeats 4000000
set_option maxRecDepth 100000
def ixA (x:Nat):Nat:=6*(x / 4-1)+x%4
def dBt (L:List Nat) (c k:Nat):Int:=if 4*c+4+k+2∈L then(k:Int)+2 else if 4*c+4+k∈L then(k:Int) else 0
def cellF (U:Nat->Nat) (L:List Nat) (j:Nat):Int:=if j%6<4 then FL U L (4*(j / 6)+4+j%6) else dBt L (j / 6) (j%6-4)
theorem spV_at {n x:Nat} (h:SpT n x):spV x=.agg #[.int .i64 ((x / 4-1:Nat):Int),.int .i64 ((x%4:Nat):Int)]:=by
 unfold SpT at h
 unfold spV
 rw[show(((x / 4:Nat):Int)-1)=((x / 4-1:Nat):Int) by omega]
theorem cellF_ix {n x:Nat} (U:Nat->Nat) (L:List Nat) (h:SpT n x):cellF U L (ixA x)=FL U L x:=by
 unfold SpT at h
 have e1:ixA x%6=x%4:=by unfold ixA;omega
 have e2:ixA x / 6=x / 4-1:=by unfold ixA;omega
 unfold cellF
 rw[e1,e2,if_pos (by omega)]
 congr 1
 omega
theorem dB_step {n:Nat} {L:List Nat} {x:Nat} (hx:SpT n x) (h2:acr x ∉ L) (c k:Nat) (hk:k<2):dBt (L++[x]) c k=if c=x / 4-1/\k=x%2 then((x%4:Nat):Int) else dBt L c k:=by
 unfold SpT at hx
 unfold dBt
 by_cases e:c=x / 4-1/\k=x%2
 · rw[if_pos e]
   obtain⟨rfl,rfl⟩:=e
   by_cases hs:x%4<2
   · have e1:4*(x / 4-1)+4+x%2=x:=by omega
     have e2:4*(x / 4-1)+4+x%2+2=acr x:=by unfold acr;omega
     rw[e2,e1,if_neg (by simp[h2,acr_ne]),if_pos (by simp)]
     omega
   · have e2:4*(x / 4-1)+4+x%2+2=x:=by omega
     rw[e2,if_pos (by simp)]
     omega
 · rw[if_neg e]
   have e1:4*c+4+k≠x:=fun h=>e ⟨by omega,by omega⟩
   have e2:4*c+4+k+2≠x:=fun h=>e ⟨by omega,by omega⟩
   have m1:(4*c+4+k+2∈L++[x])↔(4*c+4+k+2∈L):=by simp[e2]
   have m2:(4*c+4+k∈L++[x])↔(4*c+4+k∈L):=by simp[e1]
   simp only[m1,m2]
theorem cell_step {n : Nat} {U : Nat → Nat} (hU : Ties n U) {L : List Nat} {x : Nat} (hx : SpT n x) (h1 : x ∉ L) (h2 : acr x ∉ L) (h3 : U x ∉ L) :
    (((mapI (6*n) (cellF U L)).set (ixA x) ((L.length:Int)+1)).set (ixA (U x)) ((L.length:Int)+1)).set (6*(x / 4-1)+4+x%2) ((x%4:Nat):Int)=mapI (6*n) (cellF U (L++[x])):=by
 have hUx:=hU.sp x hx
 rw[mapI_set _ _ (fun j=>if j=ixA x then(L.length:Int)+1 else cellF U L j) (ixA x) _ (fun j _=>rfl),mapI_set _ _ (fun j=>if j=ixA (U x) then(L.length:Int)+1 else if j=ixA x then(L.length:Int)+1 else cellF U L j) (ixA (U x)) _ (fun j _=>rfl)]
 refine mapI_set _ _ _ _ _ fun j hj=>?_
 have q1:=hx
 have q2:=hUx
 unfold SpT at q1 q2
 unfold cellF
 by_cases hr:j%6<4
 · rw[if_pos hr,if_pos hr,FL_step hU h1 h3 hx (y:=4*(j / 6)+4+j%6) (by unfold SpT;omega)]
   rw[if_neg (show ¬ j=6*(x / 4-1)+4+x%2 by omega)]
   by_cases e1:4*(j / 6)+4+j%6=x
   · rw[if_pos (Or.inl e1)]
     have:j=ixA x:=by unfold ixA;omega
     by_cases e2:j=ixA (U x)
     · rw[if_pos e2]
     · rw[if_neg e2,if_pos this]
   · by_cases e2:4*(j / 6)+4+j%6=U x
     · rw[if_pos (Or.inr e2)]
       have:j=ixA (U x):=by unfold ixA;omega
       rw[if_pos this]
     · rw[if_neg (fun h=>h.elim e1 e2),if_neg (fun h=>e2 (by unfold ixA at h;omega)),if_neg (fun h=>e1 (by unfold ixA at h;omega))]
 · rw[if_neg hr,if_neg hr,dB_step hx h2 _ _ (by omega)]
   rw[if_neg (show ¬ j=ixA (U x) by unfold ixA;omega),if_neg (show ¬ j=ixA x by unfold ixA;omega)]
   by_cases e:j=6*(x / 4-1)+4+x%2
   · rw[if_pos e,if_pos ⟨by omega,by omega⟩]
   · rw[if_neg e,if_neg (fun h=>e (by omega))]
theorem number_any (gW gP b B n x : Nat) (k : Int) (row : List Int) (w : World) (hx : SpT n x) (hW : w.heap[gW]? = some (.cells #[.map (some b), .slice (some ⟨gP, 0, none⟩) n n, .int .i64 k] 72 (0, 0)))
    (hP:w.ownsRow B 76 6 (.slice (some ⟨gP,0,none⟩) n n) n (intsV row)):
    Calls Try.prog 45 #[.pointer (some ⟨gW,0,none⟩),spV x] w fun r w'=>r=.returned (.tuple #[])/\w'.ownsRow B 76 6 (.slice (some ⟨gP,0,none⟩) n n) n (intsV (row.set (ixA x) k))/\w.grownBy w' (some gP):=by
 have hgP:=(hP.lt gP rfl).2
 have hlen:row.length=n*6:=by have:=hP.1;simpa[intsV] using this
 rw[spV_at hx]
 have hx':=hx
 unfold SpT at hx'
 have HIX:Hid (ixA x=6*(x / 4-1)+x%4):=(rfl:ixA x=6*(x / 4-1)+x%4)
 have hc1:x / 4-1<n:=by omega
 have hs1:x%4<4:=by omega
 generalize x / 4-1=c at HIX hc1 ⊢
 generalize x%4=s at HIX hs1 ⊢
 obtain⟨Y,hY⟩:∃ Y,Y=w.alloc (.cells #[.int .i64 (c:Nat),.int .i64 (s:Nat)] 66):=⟨_,rfl⟩
 have HY:Hid (Y=w.alloc (.cells #[.int .i64 (c:Nat),.int .i64 (s:Nat)] 66)):=hY
 have hbY:Y.heap[w.heap.size]?=some (.cells #[.int .i64 (c:Nat),.int .i64 (s:Nat)] 66 (0,0)):=by rw[hY];exact box_at _ _
 have hgW:=(Array.getElem?_eq_some_iff.1 hW).1
 have hWY:Y.heap[gW]?=some (.cells #[.map (some b),.slice (some ⟨gP,0,none⟩) n n,.int .i64 k] 72 (0,0)):=by rw[hY,box_low _ _ hgW];exact hW
 have hPY:Y.ownsRow B 76 6 (.slice (some ⟨gP,0,none⟩) n n) n (intsV row):=by rw[hY];exact hP.alloc _
 have c0:Y.cell? ⟨w.heap.size,0,none⟩=some (.int .i64 (c:Nat)):=block_cell hbY rfl
 have c1:Y.cell? ⟨w.heap.size,1,none⟩=some (.int .i64 (s:Nat)):=block_cell hbY rfl
 have d1:Y.cell? ⟨gW,1,none⟩=some (.slice (some ⟨gP,0,none⟩) n n):=block_cell hWY rfl
 have d2:Y.cell? ⟨gW,2,none⟩=some (.int .i64 k):=block_cell hWY rfl
 have e0:Y.cell? ⟨gP,c*6+s,none⟩=some (.int .i64 (row.getD (c*6+s) 0)):=by
  rw[hPY.cellAt (c*6+s) (by omega),intsV_getG _ _ (by omega)]
 have f0:Y.frozen? ⟨gP,c*6+s,none⟩=false:=hPY.frozenAt _
 have hst:=hPY.stored (c*6+s) (.int .i64 k)
 rw[intsV_set]at hst
 have HFN : Hid ((Y.setCell ⟨gP, c * 6 + s, none⟩ (.int .i64 k)).drew.ownsRow B 76 6 (.slice (some ⟨gP, 0, none⟩) n n) n (intsV (row.set (ixA x) k)) ∧ w.grownBy (Y.setCell ⟨gP, c * 6 + s, none⟩ (.int .i64 k)).drew (some gP)) := (by
  rw[HIX.out,show 6*c+s=c*6+s by omega]
  refine⟨own_any hst.1 (grown_below ((Below.refl _ _).drew) none),?_⟩
  have h1:w.grownBy Y (some gP):=by rw[hY];exact World.grownBy_alloc _ _ _
  exact grown_two h1 (grown_two hst.2 (grown_below ((Below.refl _ _).drew) _)))
 have hcI:(c:Int)<(n:Int):=by omega
 have hsI:(s:Int)<4:=by omega
 have hgW2:gW<Y.heap.size:=by rw[hY];simp;omega
 have hsY:w.heap.size<Y.heap.size:=by rw[hY];simp
 have hgP2:gP<Y.heap.size:=by rw[hY];simp;omega
 clear hY hbY hWY hPY hst hW hP HIX hx hx'
 go_enter Try.func45,Try.ntmps45
 go_wp2
 rw[<-HY.out]
 apply cut_one
 case h=>
  intro key
  go_region_with (fail)
  all_goals exact key.out
 exact bodyPost_end (v:=.tuple #[]) (results_none rfl _ _ _) rfl ⟨rfl,HFN.out⟩
end Go.Proofs.Ytgagenmkpmmpfaa
/- The walk of tangle.cornersOf. -/
namespace Go.Proofs.Ytgagenmkpmmpfaa
open Go.RowKit Go.Maps
set_option maxHeartbeats 4000000
set_option maxRecDepth 100000
def sdOf (up:Bool) (c:Nat):Nat:=if up=true then(if c=0 then 0 else if c=1 then 3 else if c=2 then 1 else 2) else(if c=0 then 3 else if c=1 then 2 else if c=2 then 0 else 1)
def corT (k:Nat) (up:Bool) (c:Nat):Nat:=4*k+4+sdOf up c
theorem sdOf_lt (up:Bool) (c:Nat):sdOf up c<4:=by
 unfold sdOf
 cases up<;>simp<;>(repeat' split)<;>omega
theorem spV_cor (k:Nat) (up:Bool) (c:Nat):spV (corT k up c)=.agg #[.int .i64 (k:Nat),.int .i64 (sdOf up c:Nat)]:=by
 have h:=sdOf_lt up c
 unfold spV corT
 rw[show(4*k+4+sdOf up c) / 4=k+1 by omega,show(4*k+4+sdOf up c)%4=sdOf up c by omega]
 simp
def cor8 (k:Int) (s0 s1 s2 s3:Int) (i:Nat):Array Value:=#[.int .i64 (if 0<i then k else 0),.int .i64 (if 0<i then s0 else 0),.int .i64 (if 1<i then k else 0),.int .i64 (if 1<i then s1 else 0),.int .i64 (if 2<i then k else 0),.int .i64 (if 2<i then s2 else 0),.int .i64 (if 3<i then k else 0),.int .i64 (if 3<i then s3 else 0)]
def corV (k:Int) (s0 s1 s2 s3:Int):Value:=.agg #[.int .i64 k,.int .i64 s0,.int .i64 k,.int .i64 s1,.int .i64 k,.int .i64 s2,.int .i64 k,.int .i64 s3]
theorem froz {w:World} {g i:Nat} {cs:Array Value} {t:TypeId} (h:w.heap[g]?=some (.cells cs t (0,0))):w.frozen? ⟨g,i,none⟩=false:=by
 unfold World.frozen?
 rw[h]
 simp
theorem corners_up (k : Nat) (w : World) :
    Calls Try.prog 26 #[.int .i64 (k:Nat),.bool true] w fun r w'=>r=.returned (corV k 0 3 1 2)/\Below w.heap.size w w':=by
 obtain⟨Y,hY⟩:∃ Y,Y=((w.alloc (.cells #[.int .i64 0,.int .i64 0,.int .i64 0,.int .i64 0,.int .i64 0,.int .i64 0,.int .i64 0,.int .i64 0] 67)).alloc (.cells #[.int .i64 0,.int .i64 3,.int .i64 1,.int .i64 2] 74)).alloc (.cells #[.int .i64 0,.int .i64 0,.int .i64 0,.int .i64 0,.int .i64 0,.int .i64 0,.int .i64 0,.int .i64 0] 67):=⟨_,rfl⟩
 have HY:Hid (Y=((w.alloc (.cells #[.int .i64 0,.int .i64 0,.int .i64 0,.int .i64 0,.int .i64 0,.int .i64 0,.int .i64 0,.int .i64 0] 67)).alloc (.cells #[.int .i64 0,.int .i64 3,.int .i64 1,.int .i64 2] 74)).alloc (.cells #[.int .i64 0,.int .i64 0,.int .i64 0,.int .i64 0,.int .i64 0,.int .i64 0,.int .i64 0,.int .i64 0] 67)):=hY
 have HBY:Hid (Below w.heap.size w Y):=(by rw[hY];exact(((Below.refl _ _).alloc (Nat.le_refl _) _).alloc (by simp) _).alloc (by simp;omega) _:Below w.heap.size w Y)
 have hsY:Y.heap.size=w.heap.size+3:=by rw[hY];simp
 have HT0 : Hid (Y.heap[w.heap.size]? = some (.cells #[.int .i64 0, .int .i64 0, .int .i64 0, .int .i64 0, .int .i64 0, .int .i64 0, .int .i64 0, .int .i64 0] 67 (0, 0))) := (by
  rw[hY,box_low _ _ (by simp;omega),box_low _ _ (by simp)];exact box_at _ _:Y.heap[w.heap.size]?=some (.cells #[.int .i64 0,.int .i64 0,.int .i64 0,.int .i64 0,.int .i64 0,.int .i64 0,.int .i64 0,.int .i64 0] 67 (0,0)))
 have HT2 : Hid (Y.heap[w.heap.size + 1 + 1]? = some (.cells (cor8 k 0 3 1 2 0) 67 (0, 0))) := (by
  have:=box_at ((w.alloc (.cells #[.int .i64 0,.int .i64 0,.int .i64 0,.int .i64 0,.int .i64 0,.int .i64 0,.int .i64 0,.int .i64 0] 67)).alloc (.cells #[.int .i64 0,.int .i64 3,.int .i64 1,.int .i64 2] 74)) (.cells #[.int .i64 0,.int .i64 0,.int .i64 0,.int .i64 0,.int .i64 0,.int .i64 0,.int .i64 0,.int .i64 0] 67)
  rw[hY]
  simpa[cor8] using this:Y.heap[w.heap.size+1+1]?=some (.cells (cor8 k 0 3 1 2 0) 67 (0,0)))
 have hix0:∀ W:World,(Instr.index 74 (.agg #[.int .i64 0,.int .i64 3,.int .i64 1,.int .i64 2]) (.int .i64 0)).run Try.prog W=.ok (.int .i64 0) W:=fun W=>by kernel_rfl
 have hix1:∀ W:World,(Instr.index 74 (.agg #[.int .i64 0,.int .i64 3,.int .i64 1,.int .i64 2]) (.int .i64 1)).run Try.prog W=.ok (.int .i64 3) W:=fun W=>by kernel_rfl
 have hix2:∀ W:World,(Instr.index 74 (.agg #[.int .i64 0,.int .i64 3,.int .i64 1,.int .i64 2]) (.int .i64 2)).run Try.prog W=.ok (.int .i64 1) W:=fun W=>by kernel_rfl
 have hix3:∀ W:World,(Instr.index 74 (.agg #[.int .i64 0,.int .i64 3,.int .i64 1,.int .i64 2]) (.int .i64 3)).run Try.prog W=.ok (.int .i64 2) W:=fun W=>by kernel_rfl
 clear hY
 go_enter Try.func26,Try.ntmps26
 go_wp2
 rw[<-HY.out]
 go_loopw [13] (fun v13 wr=>∃ i:Nat,i<=4/\v13=.int .i64 (i:Nat)/\Hid (wr.heap[w.heap.size+1+1]?=some (.cells (cor8 k 0 3 1 2 i) 67 (0,0))/\Y.grownBy wr (some (w.heap.size+1+1)))) (fun v13 _=>4-(intOf v13).toNat)
 case atStart=>exact⟨0,by omega,rfl,HT2.out,World.grownBy.refl _ _⟩
 case round=>
  rename World=>W1
  obtain⟨i,hi4,rfl,hp⟩:=hrel
  have hb:=hp.out.1
  have hsz:=(Array.getElem?_eq_some_iff.1 hb).1
  by_cases hil:i<4
  · have hcase:i=0∨i=1∨i=2∨i=3:=by omega
    rcases hcase with rfl|rfl|rfl|rfl
    · rw[show((0:Nat):Int)=0 from rfl]
      have c0:W1.cell? ⟨w.heap.size+1+1,0,none⟩=some (.int .i64 0):=block_cell hb rfl
      have c1:W1.cell? ⟨w.heap.size+1+1,1,none⟩=some (.int .i64 0):=block_cell hb rfl
      have f0:W1.frozen? ⟨w.heap.size+1+1,0,none⟩=false:=froz hb
      have f1:W1.frozen? ⟨w.heap.size+1+1,1,none⟩=false:=froz hb
      have HNX:Hid (((W1.setCell ⟨w.heap.size+1+1,0,none⟩ (.int .i64 (k:Nat))).setCell ⟨w.heap.size+1+1,1,none⟩ (.int .i64 0)).heap[w.heap.size+1+1]?=some (.cells (cor8 k 0 3 1 2 1) 67 (0,0))/\Y.grownBy ((W1.setCell ⟨w.heap.size+1+1,0,none⟩ (.int .i64 (k:Nat))).setCell ⟨w.heap.size+1+1,1,none⟩ (.int .i64 0)) (some (w.heap.size+1+1))):=⟨by rw[set_block (set_block hb)];rfl,grown_two hp.out.2 (grown_two (set_grown _ _ _ _) (set_grown _ _ _ _))⟩
      clear hb
      go_wp2
      go_roundw
      case rel=>exact⟨1,by omega,by go_num,HNX.out⟩
      case measure=>simp only[intOf];omega
    · rw[show((1:Nat):Int)=1 from rfl]
      have c0:W1.cell? ⟨w.heap.size+1+1,2,none⟩=some (.int .i64 0):=block_cell hb rfl
      have c1:W1.cell? ⟨w.heap.size+1+1,3,none⟩=some (.int .i64 0):=block_cell hb rfl
      have f0:W1.frozen? ⟨w.heap.size+1+1,2,none⟩=false:=froz hb
      have f1:W1.frozen? ⟨w.heap.size+1+1,3,none⟩=false:=froz hb
      have HNX:Hid (((W1.setCell ⟨w.heap.size+1+1,2,none⟩ (.int .i64 (k:Nat))).setCell ⟨w.heap.size+1+1,3,none⟩ (.int .i64 3)).heap[w.heap.size+1+1]?=some (.cells (cor8 k 0 3 1 2 2) 67 (0,0))/\Y.grownBy ((W1.setCell ⟨w.heap.size+1+1,2,none⟩ (.int .i64 (k:Nat))).setCell ⟨w.heap.size+1+1,3,none⟩ (.int .i64 3)) (some (w.heap.size+1+1))):=⟨by rw[set_block (set_block hb)];rfl,grown_two hp.out.2 (grown_two (set_grown _ _ _ _) (set_grown _ _ _ _))⟩
      clear hb
      go_wp2
      go_roundw
      case rel=>exact⟨2,by omega,by go_num,HNX.out⟩
      case measure=>simp only[intOf];omega
    · rw[show((2:Nat):Int)=2 from rfl]
      have c0:W1.cell? ⟨w.heap.size+1+1,4,none⟩=some (.int .i64 0):=block_cell hb rfl
      have c1:W1.cell? ⟨w.heap.size+1+1,5,none⟩=some (.int .i64 0):=block_cell hb rfl
      have f0:W1.frozen? ⟨w.heap.size+1+1,4,none⟩=false:=froz hb
      have f1:W1.frozen? ⟨w.heap.size+1+1,5,none⟩=false:=froz hb
      have HNX:Hid (((W1.setCell ⟨w.heap.size+1+1,4,none⟩ (.int .i64 (k:Nat))).setCell ⟨w.heap.size+1+1,5,none⟩ (.int .i64 1)).heap[w.heap.size+1+1]?=some (.cells (cor8 k 0 3 1 2 3) 67 (0,0))/\Y.grownBy ((W1.setCell ⟨w.heap.size+1+1,4,none⟩ (.int .i64 (k:Nat))).setCell ⟨w.heap.size+1+1,5,none⟩ (.int .i64 1)) (some (w.heap.size+1+1))):=⟨by rw[set_block (set_block hb)];rfl,grown_two hp.out.2 (grown_two (set_grown _ _ _ _) (set_grown _ _ _ _))⟩
      clear hb
      go_wp2
      go_roundw
      case rel=>exact⟨3,by omega,by go_num,HNX.out⟩
      case measure=>simp only[intOf];omega
    · rw[show((3:Nat):Int)=3 from rfl]
      have c0:W1.cell? ⟨w.heap.size+1+1,6,none⟩=some (.int .i64 0):=block_cell hb rfl
      have c1:W1.cell? ⟨w.heap.size+1+1,7,none⟩=some (.int .i64 0):=block_cell hb rfl
      have f0:W1.frozen? ⟨w.heap.size+1+1,6,none⟩=false:=froz hb
      have f1:W1.frozen? ⟨w.heap.size+1+1,7,none⟩=false:=froz hb
      have HNX:Hid (((W1.setCell ⟨w.heap.size+1+1,6,none⟩ (.int .i64 (k:Nat))).setCell ⟨w.heap.size+1+1,7,none⟩ (.int .i64 2)).heap[w.heap.size+1+1]?=some (.cells (cor8 k 0 3 1 2 4) 67 (0,0))/\Y.grownBy ((W1.setCell ⟨w.heap.size+1+1,6,none⟩ (.int .i64 (k:Nat))).setCell ⟨w.heap.size+1+1,7,none⟩ (.int .i64 2)) (some (w.heap.size+1+1))):=⟨by rw[set_block (set_block hb)];rfl,grown_two hp.out.2 (grown_two (set_grown _ _ _ _) (set_grown _ _ _ _))⟩
      clear hb
      go_wp2
      go_roundw
      case rel=>exact⟨4,by omega,by go_num,HNX.out⟩
      case measure=>simp only[intOf];omega
  · obtain rfl:i=4:=by omega
    rw[show((4:Nat):Int)=4 from rfl]
    have hb0:=(hp.out.2.block w.heap.size (by omega) (fun e=>by have:w.heap.size=w.heap.size+1+1:=Option.some.inj e;omega)).trans HT0.out
    have d0:W1.cell? ⟨w.heap.size+1+1,0,none⟩=some (.int .i64 (k:Nat)):=block_cell hb rfl
    have g0:W1.cell? ⟨w.heap.size,0,none⟩=some (.int .i64 0):=block_cell hb0 rfl
    have z0:W1.frozen? ⟨w.heap.size,0,none⟩=false:=froz hb0
    have d1:W1.cell? ⟨w.heap.size+1+1,1,none⟩=some (.int .i64 0):=block_cell hb rfl
    have g1:W1.cell? ⟨w.heap.size,1,none⟩=some (.int .i64 0):=block_cell hb0 rfl
    have z1:W1.frozen? ⟨w.heap.size,1,none⟩=false:=froz hb0
    have d2:W1.cell? ⟨w.heap.size+1+1,2,none⟩=some (.int .i64 (k:Nat)):=block_cell hb rfl
    have g2:W1.cell? ⟨w.heap.size,2,none⟩=some (.int .i64 0):=block_cell hb0 rfl
    have z2:W1.frozen? ⟨w.heap.size,2,none⟩=false:=froz hb0
    have d3:W1.cell? ⟨w.heap.size+1+1,3,none⟩=some (.int .i64 3):=block_cell hb rfl
    have g3:W1.cell? ⟨w.heap.size,3,none⟩=some (.int .i64 0):=block_cell hb0 rfl
    have z3:W1.frozen? ⟨w.heap.size,3,none⟩=false:=froz hb0
    have d4:W1.cell? ⟨w.heap.size+1+1,4,none⟩=some (.int .i64 (k:Nat)):=block_cell hb rfl
    have g4:W1.cell? ⟨w.heap.size,4,none⟩=some (.int .i64 0):=block_cell hb0 rfl
    have z4:W1.frozen? ⟨w.heap.size,4,none⟩=false:=froz hb0
    have d5:W1.cell? ⟨w.heap.size+1+1,5,none⟩=some (.int .i64 1):=block_cell hb rfl
    have g5:W1.cell? ⟨w.heap.size,5,none⟩=some (.int .i64 0):=block_cell hb0 rfl
    have z5:W1.frozen? ⟨w.heap.size,5,none⟩=false:=froz hb0
    have d6:W1.cell? ⟨w.heap.size+1+1,6,none⟩=some (.int .i64 (k:Nat)):=block_cell hb rfl
    have g6:W1.cell? ⟨w.heap.size,6,none⟩=some (.int .i64 0):=block_cell hb0 rfl
    have z6:W1.frozen? ⟨w.heap.size,6,none⟩=false:=froz hb0
    have d7:W1.cell? ⟨w.heap.size+1+1,7,none⟩=some (.int .i64 2):=block_cell hb rfl
    have g7:W1.cell? ⟨w.heap.size,7,none⟩=some (.int .i64 0):=block_cell hb0 rfl
    have z7:W1.frozen? ⟨w.heap.size,7,none⟩=false:=froz hb0
    have hszw:w.heap.size<W1.heap.size:=(Array.getElem?_eq_some_iff.1 hb0).1
    obtain⟨V,hV⟩:∃ V,V=((((((((W1.setCell ⟨w.heap.size,0,none⟩ (.int .i64 (k:Nat))).setCell ⟨w.heap.size,1,none⟩ (.int .i64 0)).setCell ⟨w.heap.size,2,none⟩ (.int .i64 (k:Nat))).setCell ⟨w.heap.size,3,none⟩ (.int .i64 3)).setCell ⟨w.heap.size,4,none⟩ (.int .i64 (k:Nat))).setCell ⟨w.heap.size,5,none⟩ (.int .i64 1)).setCell ⟨w.heap.size,6,none⟩ (.int .i64 (k:Nat))).setCell ⟨w.heap.size,7,none⟩ (.int .i64 2)):=⟨_,rfl⟩
    have HV:Hid (V=((((((((W1.setCell ⟨w.heap.size,0,none⟩ (.int .i64 (k:Nat))).setCell ⟨w.heap.size,1,none⟩ (.int .i64 0)).setCell ⟨w.heap.size,2,none⟩ (.int .i64 (k:Nat))).setCell ⟨w.heap.size,3,none⟩ (.int .i64 3)).setCell ⟨w.heap.size,4,none⟩ (.int .i64 (k:Nat))).setCell ⟨w.heap.size,5,none⟩ (.int .i64 1)).setCell ⟨w.heap.size,6,none⟩ (.int .i64 (k:Nat))).setCell ⟨w.heap.size,7,none⟩ (.int .i64 2))):=hV
    have HVB:Hid (V.heap[w.heap.size]?=some (.cells #[.int .i64 (k:Nat),.int .i64 0,.int .i64 (k:Nat),.int .i64 3,.int .i64 (k:Nat),.int .i64 1,.int .i64 (k:Nat),.int .i64 2] 67 (0,0))):=(by rw[hV,(set_block (set_block (set_block (set_block (set_block (set_block (set_block (set_block hb0))))))))];rfl:V.heap[w.heap.size]?=some (.cells #[.int .i64 (k:Nat),.int .i64 0,.int .i64 (k:Nat),.int .i64 3,.int .i64 (k:Nat),.int .i64 1,.int .i64 (k:Nat),.int .i64 2] 67 (0,0)))
    have HVG:Hid (W1.grownBy V (some w.heap.size)):=(by rw[hV];exact grown_two (grown_two (grown_two (grown_two (grown_two (grown_two (grown_two (grown_two (World.grownBy.refl _ _) (set_grown _ _ _ _)) (set_grown _ _ _ _)) (set_grown _ _ _ _)) (set_grown _ _ _ _)) (set_grown _ _ _ _)) (set_grown _ _ _ _)) (set_grown _ _ _ _)) (set_grown _ _ _ _):W1.grownBy V (some w.heap.size))
    have HBW:Hid (Below w.heap.size w V):=(HBY.out.grown hp.out.2 HBY.out.size (fun q hq=>by have:=Option.some.inj hq;omega)).grown HVG.out (by omega) (fun q hq=>by have:=Option.some.inj hq;omega)
    clear hb hb0 hV
    go_wp2
    rw[<-HV.out]
    have y0:V.cell? ⟨w.heap.size,0,none⟩=some (.int .i64 (k:Nat)):=block_cell HVB.out rfl
    have y1:V.cell? ⟨w.heap.size,1,none⟩=some (.int .i64 0):=block_cell HVB.out rfl
    have y2:V.cell? ⟨w.heap.size,2,none⟩=some (.int .i64 (k:Nat)):=block_cell HVB.out rfl
    have y3:V.cell? ⟨w.heap.size,3,none⟩=some (.int .i64 3):=block_cell HVB.out rfl
    have y4:V.cell? ⟨w.heap.size,4,none⟩=some (.int .i64 (k:Nat)):=block_cell HVB.out rfl
    have y5:V.cell? ⟨w.heap.size,5,none⟩=some (.int .i64 1):=block_cell HVB.out rfl
    have y6:V.cell? ⟨w.heap.size,6,none⟩=some (.int .i64 (k:Nat)):=block_cell HVB.out rfl
    have y7:V.cell? ⟨w.heap.size,7,none⟩=some (.int .i64 2):=block_cell HVB.out rfl
    exact bodyPost_ret (v:=corV k 0 3 1 2) (by simp[results,Try.results26,go_sem,corV,y0,y1,y2,y3,y4,y5,y6,y7]) rfl ⟨rfl,HBW.out⟩
theorem corners_down (k : Nat) (w : World) :
    Calls Try.prog 26 #[.int .i64 (k:Nat),.bool false] w fun r w'=>r=.returned (corV k 3 2 0 1)/\Below w.heap.size w w':=by
 obtain⟨Y,hY⟩:∃ Y,Y=((w.alloc (.cells #[.int .i64 0,.int .i64 0,.int .i64 0,.int .i64 0,.int .i64 0,.int .i64 0,.int .i64 0,.int .i64 0] 67)).alloc (.cells #[.int .i64 3,.int .i64 2,.int .i64 0,.int .i64 1] 74)).alloc (.cells #[.int .i64 0,.int .i64 0,.int .i64 0,.int .i64 0,.int .i64 0,.int .i64 0,.int .i64 0,.int .i64 0] 67):=⟨_,rfl⟩
 have HY:Hid (Y=((w.alloc (.cells #[.int .i64 0,.int .i64 0,.int .i64 0,.int .i64 0,.int .i64 0,.int .i64 0,.int .i64 0,.int .i64 0] 67)).alloc (.cells #[.int .i64 3,.int .i64 2,.int .i64 0,.int .i64 1] 74)).alloc (.cells #[.int .i64 0,.int .i64 0,.int .i64 0,.int .i64 0,.int .i64 0,.int .i64 0,.int .i64 0,.int .i64 0] 67)):=hY
 have HBY:Hid (Below w.heap.size w Y):=(by rw[hY];exact(((Below.refl _ _).alloc (Nat.le_refl _) _).alloc (by simp) _).alloc (by simp;omega) _:Below w.heap.size w Y)
 have hsY:Y.heap.size=w.heap.size+3:=by rw[hY];simp
 have HT0 : Hid (Y.heap[w.heap.size]? = some (.cells #[.int .i64 0, .int .i64 0, .int .i64 0, .int .i64 0, .int .i64 0, .int .i64 0, .int .i64 0, .int .i64 0] 67 (0, 0))) := (by
  rw[hY,box_low _ _ (by simp;omega),box_low _ _ (by simp)];exact box_at _ _:Y.heap[w.heap.size]?=some (.cells #[.int .i64 0,.int .i64 0,.int .i64 0,.int .i64 0,.int .i64 0,.int .i64 0,.int .i64 0,.int .i64 0] 67 (0,0)))
 have HT2 : Hid (Y.heap[w.heap.size + 1 + 1]? = some (.cells (cor8 k 3 2 0 1 0) 67 (0, 0))) := (by
  have:=box_at ((w.alloc (.cells #[.int .i64 0,.int .i64 0,.int .i64 0,.int .i64 0,.int .i64 0,.int .i64 0,.int .i64 0,.int .i64 0] 67)).alloc (.cells #[.int .i64 3,.int .i64 2,.int .i64 0,.int .i64 1] 74)) (.cells #[.int .i64 0,.int .i64 0,.int .i64 0,.int .i64 0,.int .i64 0,.int .i64 0,.int .i64 0,.int .i64 0] 67)
  rw[hY]
  simpa[cor8] using this:Y.heap[w.heap.size+1+1]?=some (.cells (cor8 k 3 2 0 1 0) 67 (0,0)))
 have hix0:∀ W:World,(Instr.index 74 (.agg #[.int .i64 3,.int .i64 2,.int .i64 0,.int .i64 1]) (.int .i64 0)).run Try.prog W=.ok (.int .i64 3) W:=fun W=>by kernel_rfl
 have hix1:∀ W:World,(Instr.index 74 (.agg #[.int .i64 3,.int .i64 2,.int .i64 0,.int .i64 1]) (.int .i64 1)).run Try.prog W=.ok (.int .i64 2) W:=fun W=>by kernel_rfl
 have hix2:∀ W:World,(Instr.index 74 (.agg #[.int .i64 3,.int .i64 2,.int .i64 0,.int .i64 1]) (.int .i64 2)).run Try.prog W=.ok (.int .i64 0) W:=fun W=>by kernel_rfl
 have hix3:∀ W:World,(Instr.index 74 (.agg #[.int .i64 3,.int .i64 2,.int .i64 0,.int .i64 1]) (.int .i64 3)).run Try.prog W=.ok (.int .i64 1) W:=fun W=>by kernel_rfl
 clear hY
 go_enter Try.func26,Try.ntmps26
 go_wp2
 rw[<-HY.out]
 go_loopw [13] (fun v13 wr=>∃ i:Nat,i<=4/\v13=.int .i64 (i:Nat)/\Hid (wr.heap[w.heap.size+1+1]?=some (.cells (cor8 k 3 2 0 1 i) 67 (0,0))/\Y.grownBy wr (some (w.heap.size+1+1)))) (fun v13 _=>4-(intOf v13).toNat)
 case atStart=>exact⟨0,by omega,rfl,HT2.out,World.grownBy.refl _ _⟩
 case round=>
  rename World=>W1
  obtain⟨i,hi4,rfl,hp⟩:=hrel
  have hb:=hp.out.1
  have hsz:=(Array.getElem?_eq_some_iff.1 hb).1
  by_cases hil:i<4
  · have hcase:i=0∨i=1∨i=2∨i=3:=by omega
    rcases hcase with rfl|rfl|rfl|rfl
    · rw[show((0:Nat):Int)=0 from rfl]
      have c0:W1.cell? ⟨w.heap.size+1+1,0,none⟩=some (.int .i64 0):=block_cell hb rfl
      have c1:W1.cell? ⟨w.heap.size+1+1,1,none⟩=some (.int .i64 0):=block_cell hb rfl
      have f0:W1.frozen? ⟨w.heap.size+1+1,0,none⟩=false:=froz hb
      have f1:W1.frozen? ⟨w.heap.size+1+1,1,none⟩=false:=froz hb
      have HNX:Hid (((W1.setCell ⟨w.heap.size+1+1,0,none⟩ (.int .i64 (k:Nat))).setCell ⟨w.heap.size+1+1,1,none⟩ (.int .i64 3)).heap[w.heap.size+1+1]?=some (.cells (cor8 k 3 2 0 1 1) 67 (0,0))/\Y.grownBy ((W1.setCell ⟨w.heap.size+1+1,0,none⟩ (.int .i64 (k:Nat))).setCell ⟨w.heap.size+1+1,1,none⟩ (.int .i64 3)) (some (w.heap.size+1+1))):=⟨by rw[set_block (set_block hb)];rfl,grown_two hp.out.2 (grown_two (set_grown _ _ _ _) (set_grown _ _ _ _))⟩
      clear hb
      go_wp2
      go_roundw
      case rel=>exact⟨1,by omega,by go_num,HNX.out⟩
      case measure=>simp only[intOf];omega
    · rw[show((1:Nat):Int)=1 from rfl]
      have c0:W1.cell? ⟨w.heap.size+1+1,2,none⟩=some (.int .i64 0):=block_cell hb rfl
      have c1:W1.cell? ⟨w.heap.size+1+1,3,none⟩=some (.int .i64 0):=block_cell hb rfl
      have f0:W1.frozen? ⟨w.heap.size+1+1,2,none⟩=false:=froz hb
      have f1:W1.frozen? ⟨w.heap.size+1+1,3,none⟩=false:=froz hb
      have HNX:Hid (((W1.setCell ⟨w.heap.size+1+1,2,none⟩ (.int .i64 (k:Nat))).setCell ⟨w.heap.size+1+1,3,none⟩ (.int .i64 2)).heap[w.heap.size+1+1]?=some (.cells (cor8 k 3 2 0 1 2) 67 (0,0))/\Y.grownBy ((W1.setCell ⟨w.heap.size+1+1,2,none⟩ (.int .i64 (k:Nat))).setCell ⟨w.heap.size+1+1,3,none⟩ (.int .i64 2)) (some (w.heap.size+1+1))):=⟨by rw[set_block (set_block hb)];rfl,grown_two hp.out.2 (grown_two (set_grown _ _ _ _) (set_grown _ _ _ _))⟩
      clear hb
      go_wp2
      go_roundw
      case rel=>exact⟨2,by omega,by go_num,HNX.out⟩
      case measure=>simp only[intOf];omega
    · rw[show((2:Nat):Int)=2 from rfl]
      have c0:W1.cell? ⟨w.heap.size+1+1,4,none⟩=some (.int .i64 0):=block_cell hb rfl
      have c1:W1.cell? ⟨w.heap.size+1+1,5,none⟩=some (.int .i64 0):=block_cell hb rfl
      have f0:W1.frozen? ⟨w.heap.size+1+1,4,none⟩=false:=froz hb
      have f1:W1.frozen? ⟨w.heap.size+1+1,5,none⟩=false:=froz hb
      have HNX:Hid (((W1.setCell ⟨w.heap.size+1+1,4,none⟩ (.int .i64 (k:Nat))).setCell ⟨w.heap.size+1+1,5,none⟩ (.int .i64 0)).heap[w.heap.size+1+1]?=some (.cells (cor8 k 3 2 0 1 3) 67 (0,0))/\Y.grownBy ((W1.setCell ⟨w.heap.size+1+1,4,none⟩ (.int .i64 (k:Nat))).setCell ⟨w.heap.size+1+1,5,none⟩ (.int .i64 0)) (some (w.heap.size+1+1))):=⟨by rw[set_block (set_block hb)];rfl,grown_two hp.out.2 (grown_two (set_grown _ _ _ _) (set_grown _ _ _ _))⟩
      clear hb
      go_wp2
      go_roundw
      case rel=>exact⟨3,by omega,by go_num,HNX.out⟩
      case measure=>simp only[intOf];omega
    · rw[show((3:Nat):Int)=3 from rfl]
      have c0:W1.cell? ⟨w.heap.size+1+1,6,none⟩=some (.int .i64 0):=block_cell hb rfl
      have c1:W1.cell? ⟨w.heap.size+1+1,7,none⟩=some (.int .i64 0):=block_cell hb rfl
      have f0:W1.frozen? ⟨w.heap.size+1+1,6,none⟩=false:=froz hb
      have f1:W1.frozen? ⟨w.heap.size+1+1,7,none⟩=false:=froz hb
      have HNX:Hid (((W1.setCell ⟨w.heap.size+1+1,6,none⟩ (.int .i64 (k:Nat))).setCell ⟨w.heap.size+1+1,7,none⟩ (.int .i64 1)).heap[w.heap.size+1+1]?=some (.cells (cor8 k 3 2 0 1 4) 67 (0,0))/\Y.grownBy ((W1.setCell ⟨w.heap.size+1+1,6,none⟩ (.int .i64 (k:Nat))).setCell ⟨w.heap.size+1+1,7,none⟩ (.int .i64 1)) (some (w.heap.size+1+1))):=⟨by rw[set_block (set_block hb)];rfl,grown_two hp.out.2 (grown_two (set_grown _ _ _ _) (set_grown _ _ _ _))⟩
      clear hb
      go_wp2
      go_roundw
      case rel=>exact⟨4,by omega,by go_num,HNX.out⟩
      case measure=>simp only[intOf];omega
  · obtain rfl:i=4:=by omega
    rw[show((4:Nat):Int)=4 from rfl]
    have hb0:=(hp.out.2.block w.heap.size (by omega) (fun e=>by have:w.heap.size=w.heap.size+1+1:=Option.some.inj e;omega)).trans HT0.out
    have d0:W1.cell? ⟨w.heap.size+1+1,0,none⟩=some (.int .i64 (k:Nat)):=block_cell hb rfl
    have g0:W1.cell? ⟨w.heap.size,0,none⟩=some (.int .i64 0):=block_cell hb0 rfl
    have z0:W1.frozen? ⟨w.heap.size,0,none⟩=false:=froz hb0
    have d1:W1.cell? ⟨w.heap.size+1+1,1,none⟩=some (.int .i64 3):=block_cell hb rfl
    have g1:W1.cell? ⟨w.heap.size,1,none⟩=some (.int .i64 0):=block_cell hb0 rfl
    have z1:W1.frozen? ⟨w.heap.size,1,none⟩=false:=froz hb0
    have d2:W1.cell? ⟨w.heap.size+1+1,2,none⟩=some (.int .i64 (k:Nat)):=block_cell hb rfl
    have g2:W1.cell? ⟨w.heap.size,2,none⟩=some (.int .i64 0):=block_cell hb0 rfl
    have z2:W1.frozen? ⟨w.heap.size,2,none⟩=false:=froz hb0
    have d3:W1.cell? ⟨w.heap.size+1+1,3,none⟩=some (.int .i64 2):=block_cell hb rfl
    have g3:W1.cell? ⟨w.heap.size,3,none⟩=some (.int .i64 0):=block_cell hb0 rfl
    have z3:W1.frozen? ⟨w.heap.size,3,none⟩=false:=froz hb0
    have d4:W1.cell? ⟨w.heap.size+1+1,4,none⟩=some (.int .i64 (k:Nat)):=block_cell hb rfl
    have g4:W1.cell? ⟨w.heap.size,4,none⟩=some (.int .i64 0):=block_cell hb0 rfl
    have z4:W1.frozen? ⟨w.heap.size,4,none⟩=false:=froz hb0
    have d5:W1.cell? ⟨w.heap.size+1+1,5,none⟩=some (.int .i64 0):=block_cell hb rfl
    have g5:W1.cell? ⟨w.heap.size,5,none⟩=some (.int .i64 0):=block_cell hb0 rfl
    have z5:W1.frozen? ⟨w.heap.size,5,none⟩=false:=froz hb0
    have d6:W1.cell? ⟨w.heap.size+1+1,6,none⟩=some (.int .i64 (k:Nat)):=block_cell hb rfl
    have g6:W1.cell? ⟨w.heap.size,6,none⟩=some (.int .i64 0):=block_cell hb0 rfl
    have z6:W1.frozen? ⟨w.heap.size,6,none⟩=false:=froz hb0
    have d7:W1.cell? ⟨w.heap.size+1+1,7,none⟩=some (.int .i64 1):=block_cell hb rfl
    have g7:W1.cell? ⟨w.heap.size,7,none⟩=some (.int .i64 0):=block_cell hb0 rfl
    have z7:W1.frozen? ⟨w.heap.size,7,none⟩=false:=froz hb0
    have hszw:w.heap.size<W1.heap.size:=(Array.getElem?_eq_some_iff.1 hb0).1
    obtain⟨V,hV⟩:∃ V,V=((((((((W1.setCell ⟨w.heap.size,0,none⟩ (.int .i64 (k:Nat))).setCell ⟨w.heap.size,1,none⟩ (.int .i64 3)).setCell ⟨w.heap.size,2,none⟩ (.int .i64 (k:Nat))).setCell ⟨w.heap.size,3,none⟩ (.int .i64 2)).setCell ⟨w.heap.size,4,none⟩ (.int .i64 (k:Nat))).setCell ⟨w.heap.size,5,none⟩ (.int .i64 0)).setCell ⟨w.heap.size,6,none⟩ (.int .i64 (k:Nat))).setCell ⟨w.heap.size,7,none⟩ (.int .i64 1)):=⟨_,rfl⟩
    have HV:Hid (V=((((((((W1.setCell ⟨w.heap.size,0,none⟩ (.int .i64 (k:Nat))).setCell ⟨w.heap.size,1,none⟩ (.int .i64 3)).setCell ⟨w.heap.size,2,none⟩ (.int .i64 (k:Nat))).setCell ⟨w.heap.size,3,none⟩ (.int .i64 2)).setCell ⟨w.heap.size,4,none⟩ (.int .i64 (k:Nat))).setCell ⟨w.heap.size,5,none⟩ (.int .i64 0)).setCell ⟨w.heap.size,6,none⟩ (.int .i64 (k:Nat))).setCell ⟨w.heap.size,7,none⟩ (.int .i64 1))):=hV
    have HVB:Hid (V.heap[w.heap.size]?=some (.cells #[.int .i64 (k:Nat),.int .i64 3,.int .i64 (k:Nat),.int .i64 2,.int .i64 (k:Nat),.int .i64 0,.int .i64 (k:Nat),.int .i64 1] 67 (0,0))):=(by rw[hV,(set_block (set_block (set_block (set_block (set_block (set_block (set_block (set_block hb0))))))))];rfl:V.heap[w.heap.size]?=some (.cells #[.int .i64 (k:Nat),.int .i64 3,.int .i64 (k:Nat),.int .i64 2,.int .i64 (k:Nat),.int .i64 0,.int .i64 (k:Nat),.int .i64 1] 67 (0,0)))
    have HVG:Hid (W1.grownBy V (some w.heap.size)):=(by rw[hV];exact grown_two (grown_two (grown_two (grown_two (grown_two (grown_two (grown_two (grown_two (World.grownBy.refl _ _) (set_grown _ _ _ _)) (set_grown _ _ _ _)) (set_grown _ _ _ _)) (set_grown _ _ _ _)) (set_grown _ _ _ _)) (set_grown _ _ _ _)) (set_grown _ _ _ _)) (set_grown _ _ _ _):W1.grownBy V (some w.heap.size))
    have HBW:Hid (Below w.heap.size w V):=(HBY.out.grown hp.out.2 HBY.out.size (fun q hq=>by have:=Option.some.inj hq;omega)).grown HVG.out (by omega) (fun q hq=>by have:=Option.some.inj hq;omega)
    clear hb hb0 hV
    go_wp2
    rw[<-HV.out]
    have y0:V.cell? ⟨w.heap.size,0,none⟩=some (.int .i64 (k:Nat)):=block_cell HVB.out rfl
    have y1:V.cell? ⟨w.heap.size,1,none⟩=some (.int .i64 3):=block_cell HVB.out rfl
    have y2:V.cell? ⟨w.heap.size,2,none⟩=some (.int .i64 (k:Nat)):=block_cell HVB.out rfl
    have y3:V.cell? ⟨w.heap.size,3,none⟩=some (.int .i64 2):=block_cell HVB.out rfl
    have y4:V.cell? ⟨w.heap.size,4,none⟩=some (.int .i64 (k:Nat)):=block_cell HVB.out rfl
    have y5:V.cell? ⟨w.heap.size,5,none⟩=some (.int .i64 0):=block_cell HVB.out rfl
    have y6:V.cell? ⟨w.heap.size,6,none⟩=some (.int .i64 (k:Nat)):=block_cell HVB.out rfl
    have y7:V.cell? ⟨w.heap.size,7,none⟩=some (.int .i64 1):=block_cell HVB.out rfl
    exact bodyPost_ret (v:=corV k 3 2 0 1) (by simp[results,Try.results26,go_sem,corV,y0,y1,y2,y3,y4,y5,y6,y7]) rfl ⟨rfl,HBW.out⟩
end Go.Proofs.Ytgagenmkpmmpfaa
/- The walk of tangle.ties.join. -/
namespace Go.Proofs.Ytgagenmkpmmpfaa
open Go.RowKit Go.Maps
set_option maxHeartbeats 4000000
set_option maxRecDepth 100000
theorem join_any (b m e f : Nat) (S : Nat → Prop) (T : Nat → Nat) (w : World) (h : MapT w b m S T) (he : e < 4) (hf : f < 4) (hSe : S e) (hSf : S f) (hTe : T e < 80) (hTf : T f < 80) (hm : m ≤ 800) :
    Calls Try.prog 15 #[.map (some b),.int .i64 (e:Nat),.int .i64 (f:Nat)] w fun r w'=>r=.returned (.int .i64 (if T e=f then 1 else 0))/\MapT w' b (m+2) S (if T e=f then T else tieF T (T e) (T f))/\w.grownBy w' (some b):=by
 have eE:spV e=.agg #[.int .i64 (-1),.int .i64 (e:Nat)]:=by
  unfold spV
  rw[show e / 4=0 by omega,show e%4=e by omega]
  rfl
 have eF:spV f=.agg #[.int .i64 (-1),.int .i64 (f:Nat)]:=by
  unfold spV
  rw[show f / 4=0 by omega,show f%4=f by omega]
  rfl
 obtain⟨Y,hY⟩:∃ Y,Y=(w.alloc (.cells #[.int .i64 (-1),.int .i64 (e:Nat)] 66)).alloc (.cells #[.int .i64 (-1),.int .i64 (f:Nat)] 66):=⟨_,rfl⟩
 have HY:Hid (Y=(w.alloc (.cells #[.int .i64 (-1),.int .i64 (e:Nat)] 66)).alloc (.cells #[.int .i64 (-1),.int .i64 (f:Nat)] 66)):=hY
 have HGY:Hid (w.grownBy Y (some b)):=(by rw[hY];exact grown_two (World.grownBy_alloc _ _ _) (World.grownBy_alloc _ _ _):w.grownBy Y (some b))
 have hMY:MapT Y b m S T:=h.kept (row:=none) (by rw[hY];exact grown_two (World.grownBy_alloc _ _ _) (World.grownBy_alloc _ _ _)) (by simp)
 obtain⟨c0,c1,c2,c3⟩:=two_boxes w (.int .i64 (-1)) (.int .i64 (e:Nat)) (.int .i64 (-1)) (.int .i64 (f:Nat)) 66
 rw[<-hY]at c0 c1 c2 c3
 have hMD:∀ n,MapT (Y.drewN n) b m S T:=fun n=>hMY.kept (grown_below (below_drewN (Below.refl _ _) n) none) (by simp)
 have HGD:Hid (∀ n,Y.grownBy (Y.drewN n) (some b)):=fun n=>grown_below (below_drewN (Below.refl _ _) n) _
 have HMD:Hid (∀ n,MapT (Y.drewN n) b m S T):=hMD
 have hlk:∀ n,(Instr.lookup 46 (.map (some b)) (.agg #[.int .i64 (-1),.int .i64 (e:Nat)]) false).run Try.prog (Y.drewN n)=.ok (spV (T e)) (Y.drewN n):=fun n=>by rw[<-eE];exact(hMD n).look e hSe (by omega)
 have hlf:∀ n,(Instr.lookup 46 (.map (some b)) (.agg #[.int .i64 (-1),.int .i64 (f:Nat)]) false).run Try.prog (Y.drewN n)=.ok (spV (T f)) (Y.drewN n):=fun n=>by rw[<-eF];exact(hMD n).look f hSf (by omega)
 have HT:Hid (∀ W,MapT W b m S T->Calls Try.prog 25 #[.map (some b),spV (T e),spV (T f)] W fun r w'=>r=.returned (.tuple #[])/\MapT w' b (m+2) (fun z=>z=T f∨z=T e∨S z) (tieF T (T e) (T f))/\W.grownBy w' (some b)):=fun W hW=>tie_any b m S T (T e) (T f) W hW hTe hTf (by omega)
 by_cases hef:T e=f
 · rw[if_pos hef,if_pos hef]
   rw[hef,eF]at hlk
   clear hlf HT hY hMY hMD
   go_enter Try.func15,Try.ntmps15
   go_wp2
   rw[<-HY.out]
   go_quiet (fail)
   go_wp2
   go_ret
   exact⟨rfl,(HMD.out _).congr (by omega) (fun z hz=>⟨hz,rfl⟩),grown_two HGY.out (HGD.out _)⟩
 · rw[if_neg hef,if_neg hef]
   have HMF:Hid (∀ W,MapT W b (m+2) (fun z=>z=T f∨z=T e∨S z) (tieF T (T e) (T f))->MapT W b (m+2) S (tieF T (T e) (T f))):=fun W hW=>hW.congr (Nat.le_refl _) (fun z hz=>⟨Or.inr (Or.inr hz),rfl⟩)
   obtain⟨y0,y1,z0,z1,eTe,eTf,hne⟩:∃ y0 y1 z0 z1:Int,spV (T e)=.agg #[.int .i64 y0,.int .i64 y1]/\spV (T f)=.agg #[.int .i64 z0,.int .i64 z1]/\((y0 == -1)=false∨(y0 = -1/\(y1==(f:Int))=false)):=by
    refine⟨_,_,_,_,rfl,rfl,?_⟩
    by_cases h4:T e<4
    · refine Or.inr ⟨by omega,?_⟩
      simp
      omega
    · refine Or.inl ?_
      simp
      omega
   rw[eTe]at hlk HT
   rw[eTf]at hlf HT
   have HCS:Hid (∀ n,(Y.drewN n).cell? ⟨w.heap.size,0,none⟩=some (.int .i64 (-1))/\(Y.drewN n).cell? ⟨w.heap.size,1,none⟩=some (.int .i64 (e:Nat))/\(Y.drewN n).cell? ⟨w.heap.size+1,0,none⟩=some (.int .i64 (-1))/\(Y.drewN n).cell? ⟨w.heap.size+1,1,none⟩=some (.int .i64 (f:Nat))):=fun n=>by
    have hk:∀ (W:World) (a:Addr),(W.drewN n).cell? a=W.cell? a:=fun W a=>by
     induction n with
     |zero=>rfl
     |succ n ih=>exact ih
    rw[hk,hk,hk,hk]
    exact⟨c0,c1,c2,c3⟩
   have hsY:Y.heap.size=w.heap.size+2:=by rw[hY];simp
   have HBY:Hid (b<w.heap.size):=h.lt
   have HKP:Hid (∀ W,Y.grownBy W (some b)->W.cell? ⟨w.heap.size,0,none⟩=some (.int .i64 (-1))/\W.cell? ⟨w.heap.size,1,none⟩=some (.int .i64 (e:Nat))/\W.cell? ⟨w.heap.size+1,0,none⟩=some (.int .i64 (-1))/\W.cell? ⟨w.heap.size+1,1,none⟩=some (.int .i64 (f:Nat))):=fun W hW=>by
    have hbk:=HBY.out
    have hk:∀ k o:Nat,w.heap.size<=k->k<Y.heap.size->W.cell? ⟨k,o,none⟩=Y.cell? ⟨k,o,none⟩:=fun k o h1 h2=>by
     unfold World.cell?
     rw[hW.block k h2 (fun e=>by have:=Option.some.inj e;omega)]
    exact⟨(hk _ _ (by omega) (by omega)).trans c0,(hk _ _ (by omega) (by omega)).trans c1,(hk _ _ (by omega) (by omega)).trans c2,(hk _ _ (by omega) (by omega)).trans c3⟩
   have hlkD:∀ n,(Instr.lookup 46 (.map (some b)) (.agg #[.int .i64 (-1),.int .i64 (e:Nat)]) false).run Try.prog ((Y.drewN n).drew)=.ok (.agg #[.int .i64 y0,.int .i64 y1]) ((Y.drewN n).drew):=fun n=>hlk (n+1)
   have hlfD:∀ n,(Instr.lookup 46 (.map (some b)) (.agg #[.int .i64 (-1),.int .i64 (f:Nat)]) false).run Try.prog ((Y.drewN n).drew)=.ok (.agg #[.int .i64 z0,.int .i64 z1]) ((Y.drewN n).drew):=fun n=>hlf (n+1)
   clear hY hMY hMD eTe eTf hsY h hef
   rcases hne with hne|⟨rfl,hne⟩<;>
   · go_enter Try.func15,Try.ntmps15
     go_wp2
     rw[<-HY.out]
     go_quiet (fail)
     clear hlk hlf
     go_wp2
     have q1:=hlkD nq
     have q2:=hlfD nq
     have HQD:Hid (Y.grownBy (Y.drewN nq).drew (some b)):=HGD.out (nq+1)
     have HMQ:Hid (MapT (Y.drewN nq).drew b m S T):=HMD.out (nq+1)
     clear hlkD hlfD
     generalize Y.drewN nq=V at q1 q2 HQD HMQ ⊢
     go_region_held3 (fun W => W.cell? ⟨w.heap.size, 0, none⟩ = some (.int .i64 (-1)) ∧ W.cell? ⟨w.heap.size, 1, none⟩ = some (.int .i64 (e : Nat)) ∧ W.cell? ⟨w.heap.size + 1, 0, none⟩ = some (.int .i64 (-1)) ∧ W.cell? ⟨w.heap.size + 1, 1, none⟩ = some (.int .i64 (f : Nat))) (first | exact HKP.out _ HQD.out | exact HK3.out) (first
      | (go_at_call 25; refine (HT.out _ HMQ.out).mono ?_; rintro e9 w3 ⟨rfl, hM3, hg3⟩
         have HG3:Hid (Y.grownBy w3 (some b)):=grown_two HQD.out hg3
         have HK3:Hid (w3.cell? ⟨w.heap.size,0,none⟩=some (.int .i64 (-1))/\w3.cell? ⟨w.heap.size,1,none⟩=some (.int .i64 (e:Nat))/\w3.cell? ⟨w.heap.size+1,0,none⟩=some (.int .i64 (-1))/\w3.cell? ⟨w.heap.size+1,1,none⟩=some (.int .i64 (f:Nat))):=HKP.out _ (grown_two HQD.out hg3)))
     all_goals
      have HFN:Hid (MapT w3 b (m+2) S (tieF T (T e) (T f))/\w.grownBy w3 (some b)):=⟨HMF.out _ hM3,grown_two HGY.out HG3.out⟩
      clear hM3 hg3
      go_wp2
      go_ret
      exact⟨rfl,HFN.out⟩
end Go.Proofs.Ytgagenmkpmmpfaa

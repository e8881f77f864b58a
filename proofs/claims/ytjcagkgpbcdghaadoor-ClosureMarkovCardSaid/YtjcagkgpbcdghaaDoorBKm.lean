/- Ties as keys of a map; sums of states in memory. -/
import Derived.Test.YtjcagkgpbcdghaaDoorBT2P
import Derived.Test.YtjcagkgpbcdghaaDoorW3P
import Derived.WideKeyArr2
import Derived.Laws.Rows
import Derived.Laws.Tables
namespace Go.Proofs.YtjcagkgpbcdghaaDoor.Poly
open Go.RowKit Go.Maps
def tiA (T:List Nat):Array Value:=(T.map fun x=>Value.int .i64 (x:Nat)).toArray
def tiV (T:List Nat):Value:=.agg (tiA T)
structure GoodK (T:List Nat):Prop where
 len:T.length=26
 lt:∀ v,T.getD v 0<26
theorem QZ3 {T:List Nat} (h:GoodK T):(tiA T).size=26:=by unfold tiA;simp[h.len]
theorem Kk2 {T:List Nat} (h:GoodK T) {x:Nat} (hx:x<26):(tiA T)[x]?=some (.int .i64 (T.getD x 0:Nat)):=by
 unfold tiA
 have hl:=h.len
 simp[List.getElem?_map,List.getElem?_eq_getElem (show x<T.length by omega),List.getD]
theorem Kf1 {T:List Nat} (x a:Nat):(tiA T).setIfInBounds x (.int .i64 (a:Nat))=tiA (T.set x a):=by
 unfold tiA
 rw[List.setIfInBounds_toArray,List.map_set]
theorem QC5 (T:List Nat):(tiA T).all (·.oneCell')=true:=by
 rw[Array.all_eq_true_iff_forall_mem]
 intro v hv
 unfold tiA at hv
 simp at hv
 obtain⟨x,-,rfl⟩:=hv
 rfl
theorem Xb3 {T U:List Nat} (h:tiV T=tiV U):T=U:=by
 unfold tiV tiA at h
 simp only[Value.agg.injEq]at h
 have h2:=congrArg Array.toList h
 simp only at h2
 revert h2
 induction T generalizing U with
 |nil=>intro h2;cases U with
  |nil=>rfl
  |cons u U=>simp at h2
 |cons t T ih=>intro h2;cases U with
  |nil=>simp at h2
  |cons u U=>
   simp only[List.map_cons,List.cons.injEq,Value.int.injEq,true_and]at h2
   have e1:t=u:=by have:=h2.1;omega
   rw[e1,ih (U:=U) (by rw[h2.2]) h2.2]
theorem GoodK.set {T:List Nat} (h:GoodK T) {x a:Nat} (ha:a<26):GoodK (T.set x a):=by
 refine⟨by rw[List.length_set];exact h.len,fun v=>?_⟩
 rw[XK5]
 split
 · exact ha
 · exact h.lt v
theorem GoodK.tie {T:List Nat} (h:GoodK T) (x y:Nat):GoodK (Qu8 T x y):=by
 unfold Qu8
 split
 · exact(h.set (by omega)).set (by omega)
 · exact(((h.set (by omega)).set (by omega)).set (h.lt y)).set (h.lt x)
theorem GoodK.first:GoodK (List.range 26):=⟨by simp,tied_first.lt⟩
theorem QF4 (C:List Cr) (s k:Nat):GoodK (kyS C s k):=by
 unfold kyS
 generalize 2*k=i
 induction i with
 |zero=>exact GoodK.first
 |succ i ih=>exact ih.tie _ _
theorem arT:WideMaps.ArrKey Tryd.prog 78 3 26:=⟨Tryd.underlying78,by kernel_rfl,by kernel_rfl,by kernel_rfl⟩
theorem lawT:Keyed Tryd.prog 78:=Keyed.of_law arT.law
theorem keyT {T:List Nat} (h:GoodK T):∃ l,keyOf Tryd.prog 78 (tiV T)=some l:=by
 have hu:Tryd.prog.underlying 78=some (.array 26 3):=Tryd.underlying78
 have ht:Tryd.prog.keyType 78=true:=by kernel_rfl
 have hc:Tryd.prog.cellsOf 78=26:=by kernel_rfl
 have hc3:Tryd.prog.cellsOf 3=1:=by kernel_rfl
 have hi:Tryd.prog.underlying 3=some (.int .i64):=Tryd.underlying3
 have hpos:0<Tryd.prog.types.size:=by decide +kernel
 obtain⟨m,hm⟩:∃ m,Tryd.prog.types.size=m+1:=⟨Tryd.prog.types.size - 1,by omega⟩
 have hf:(tiV T).formed Tryd.prog 78=true:=by
  unfold tiV Value.formed
  simp only[hu,hc,QZ3 h];rfl
 have hall:(List.range 26).mapM (fun i=>Tryd.prog.keyLits (m+1) 3 (((tiA T).toList.drop (i*1)).take 1))=some ((List.range 26).map fun i=>[Lit.int .i64 (T.getD i 0:Nat)]):=by
  have hmm:∀ (L:List Nat),(∀ i∈L,i<26)->L.mapM (fun i=>Tryd.prog.keyLits (m+1) 3 (((tiA T).toList.drop (i*1)).take 1))=some (L.map fun i=>[Lit.int .i64 (T.getD i 0:Nat)]):=by
   intro L
   induction L with
   |nil=>intro _;rfl
   |cons i L ih=>
    intro hL
    have hi26:=hL i List.mem_cons_self
    have hcell:((tiA T).toList.drop (i*1)).take 1=[.int .i64 (T.getD i 0:Nat)]:=by
     have hat:=Kk2 h hi26
     rw[Nat.mul_one]
     have hlt:i<(tiA T).toList.length:=by simp[QZ3 h];exact hi26
     rw[List.drop_eq_getElem_cons hlt]
     simp only[List.take_succ_cons,List.take_zero]
     have:(tiA T).toList[i]?=some (.int .i64 (T.getD i 0:Nat)):=by rw[Array.getElem?_toList];exact hat
     rw[List.getElem?_eq_getElem hlt]at this
     rw[Option.some.inj this]
    have hk:Tryd.prog.keyLits (m+1) 3 [.int .i64 (T.getD i 0:Nat)]=some [Lit.int .i64 (T.getD i 0:Nat)]:=by
     unfold Program.keyLits
     simp only[hi]
     have:=h.lt i
     rw[if_pos ⟨trivial,WalkArith.wf_i64 ⟨by omega,by omega⟩⟩]
    rw[List.mapM_cons,hcell,hk,ih fun j hj=>hL j (List.mem_cons_of_mem _ hj)]
    rfl
  exact hmm _ fun i hi=>List.mem_range.1 hi
 refine⟨.string (keyBytes (((List.range 26).map fun i=>[Lit.int .i64 (T.getD i 0:Nat)]).flatten)),?_⟩
 unfold keyOf
 simp only[hu,ht,hf,Bool.and_self,if_true]
 rw[hm]
 unfold Program.keyLits
 simp only[hu,hc,hc3]
 rw[if_pos (show(tiV T).cells.toList.length=26 from by show(tiA T).toList.length=26;simp[QZ3 h])]
 show Option.map _ (Option.map List.flatten ((List.range 26).mapM (fun i=>Tryd.prog.keyLits (m+1) 3 (((tiA T).toList.drop (i*1)).take 1))))=_
 rw[hall]
 rfl
def Xy4 (v:Value):Option (DataW Unit×List MemPlace):=
 match v with
 |.map (some b)=>some (.lit (.int .i64 (b:Nat)),[])
 |_=>none
theorem Qv2 {v:Value} {z:DataW Unit×List MemPlace} (h:Xy4 v=some z):∃ b,v=.map (some b)/\z=(.lit (.int .i64 (b:Nat)),[]):=by
 unfold Xy4 at h
 split at h
 · rename_i b;exact⟨b,rfl,(Option.some.inj h).symm⟩
 · cases h
structure SumD (W:World) (L B b n K N:Nat) (V:List Nat->Int->Int) (D:DataW Unit):Prop where
 own:W.ownsMap Tryd.prog 78 Xy4 b n D
 keys:∀ kl,Maps.has D kl=true->∃ T,GoodK T/\keyOf Tryd.prog 78 (tiV T)=some kl
 vals:∀ T l,GoodK T->keyOf Tryd.prog 78 (tiV T)=some l->Maps.has D l=true->∃ c,(∀ zd,D.atKey l zd=.lit (.int .i64 (c:Nat)))/\L<=c/\WkV W B (.map (some c)) N K (V T)
 off:∀ T l,GoodK T->keyOf Tryd.prog 78 (tiV T)=some l->Maps.has D l=false->∀ y,V T y=0
theorem SumD.on {W W':World} {L B b n K N:Nat} {V:List Nat->Int->Int} {D:DataW Unit} (h:SumD W L B b n K N V D) (hb:Below B W W') (hlt:b<B):SumD W' L B b n K N V D:=
 ⟨by obtain ⟨es, clock, hh, rest⟩ := h.own; exact ⟨es, clock, (hb.block b hlt).trans hh, rest⟩, h.keys, fun T l g1 g2 g3 => by
  obtain⟨c,k1,k2,k3⟩:=h.vals T l g1 g2 g3
  exact⟨c,k1,k2,k3.on hb⟩,h.off⟩
theorem SumD.mono {W:World} {L L' B B' b n n' K K' N N':Nat} {V:List Nat->Int->Int} {D:DataW Unit} (h:SumD W L B b n K N V D) (hL:L'<=L) (hB:B<=B') (hn:n<=n') (hK:K<=K') (hN:N<=N'):SumD W L' B' b n' K' N' V D:=
 ⟨h.own.mono hn, h.keys, fun T l g1 g2 g3 => by
  obtain⟨c,k1,k2,k3⟩:=h.vals T l g1 g2 g3
  exact⟨c,k1,Nat.le_trans hL k2,k3.mono hB hN hK⟩,h.off⟩
theorem SumD.congr {W:World} {L B b n K N:Nat} {V V':List Nat->Int->Int} {D:DataW Unit} (h:SumD W L B b n K N V D) (hV:∀ T,GoodK T->V T=V' T):SumD W L B b n K N V' D:=
 ⟨h.own,h.keys,fun T l g1 g2 g3=>by rw[<-hV T g1];exact h.vals T l g1 g2 g3,fun T l g1 g2 g3 y=>by rw[<-hV T g1];exact h.off T l g1 g2 g3 y⟩
theorem SumD.kept {W W':World} {L b n K N g:Nat} {V:List Nat->Int->Int} {D:DataW Unit} (h:SumD W L W.heap.size b n K N V D) (hg:W.grownBy W' (some g)) (hL:g<L) (hb:b≠g):SumD W' L W'.heap.size b n K N V D:=
 ⟨h.own.kept hg (fun e => hb (Option.some.inj e)), h.keys, fun T l g1 g2 g3 => by
  obtain⟨c,k1,k2,k3⟩:=h.vals T l g1 g2 g3
  refine⟨c,k1,k2,?_⟩
  rcases k3 with⟨e,-⟩|⟨c',D',e,hlt,ho,hk,hc⟩
  · cases e
  · cases e
    exact Or.inr ⟨c,D',rfl,Nat.lt_of_lt_of_le hlt hg.size,ho.kept hg (fun e=>by have:=Option.some.inj e;omega),hk,hc⟩,h.off⟩
theorem SumD.look {W:World} {L B b n K N:Nat} {V:List Nat->Int->Int} {D:DataW Unit} (h:SumD W L B b n K N V D) {T:List Nat} (hT:GoodK T) {l:Lit} (hl:keyOf Tryd.prog 78 (tiV T)=some l):∃ v,(Instr.lookup 81 (.map (some b)) (tiV T) false).run Tryd.prog W=.ok v W/\WkV W B v N K (V T)/\((Maps.has D l=false/\v=.map none)∨∃ c:Nat,(∀ zd,D.atKey l zd=.lit (.int .i64 (c:Nat)))/\v=.map (some c)):=by
 have hz:(zeroValue 50).run Tryd.prog W=.ok (.map none) W:=by kernel_rfl
 obtain⟨es,clock,hb,hF,hs,rfl⟩:=h.own
 rcases fit_look false lawT Tryd.underlying81 hz hb hF hl with⟨h1,h2,h3⟩|⟨e0,y,h1,h2,h3,h4,h5⟩
 · have hn:=Maps.has_false_of_atKey h3
   exact⟨_,h1,Or.inl ⟨rfl,h.off T l hT hl hn⟩,Or.inl ⟨hn,rfl⟩⟩
 · refine⟨_,h3,?_⟩
   obtain⟨b',e1,e2⟩:=Qv2 h4
   have hat:∀ zd,(DataW.map ((es.toList.map (WideElems.rg Tryd.prog 78 Xy4)).foldr DataW.insert [])).atKey l zd=y.1:=h5.1
   obtain⟨c,k1,k2,k3⟩:=h.vals T l hT hl (Maps.has_true_of_atKey hat)
   have:=(hat (.nil)).symm.trans (k1 .nil)
   rw[e2]at this
   simp only[DataW.lit.injEq,Lit.int.injEq,true_and]at this
   have e3:b'=c:=by omega
   refine⟨?_,Or.inr ⟨c,k1,?_⟩⟩
   · show WkV W B e0.val N K (V T)
     rw[e1,e3];exact k3
   · show e0.val=_
     rw[e1,e3]
theorem SumD.look2 {W:World} {L B b n K N:Nat} {V:List Nat->Int->Int} {D:DataW Unit} (h:SumD W L B b n K N V D) {T:List Nat} (hT:GoodK T) (hlt:b<B):∃ v,WkV W B v N K (V T)/\∀ W',Below B W W'->(Instr.lookup 81 (.map (some b)) (tiV T) false).run Tryd.prog W'=.ok v W':=by
 obtain⟨l,hl⟩:=keyT hT
 obtain⟨v,h1,h2,h3⟩:=h.look hT hl
 refine⟨v,h2,fun W' hb=>?_⟩
 obtain⟨v',k1,k2,k3⟩:=(h.on hb hlt).look hT hl
 have e:v'=v:=by
  rcases h3 with⟨q1,q2⟩|⟨c,q1,q2⟩
  · rcases k3 with⟨r1,r2⟩|⟨c',r1,r2⟩
    · rw[q2,r2]
    · rw[Maps.has_true_of_atKey r1]at q1;cases q1
  · rcases k3 with⟨r1,r2⟩|⟨c',r1,r2⟩
    · rw[Maps.has_true_of_atKey q1]at r1;cases r1
    · have:=(q1 .nil).symm.trans (r1 .nil)
      simp only[DataW.lit.injEq,Lit.int.injEq,true_and]at this
      rw[q2,r2,show c=c' by omega]
 rw[<-e];exact k1
theorem SumD.put {W : World} {L b n K N : Nat} {V : List Nat → Int → Int} {D : DataW Unit} (h : SumD W L W.heap.size b n K N V D) {T : List Nat} (hT : GoodK T) (hn : n < 100000000) (hbL : b < L) {c : Nat} {f : Int → Int} (hc : L ≤ c) (hf : WkV W W.heap.size (.map (some c)) N K f) :
    ∃ w' D',(Instr.mapUpdate 81 (.map (some b)) (tiV T) (.map (some c))).run Tryd.prog W=.ok () w'/\SumD w' L w'.heap.size b (n+1) K N (fun U=>if U=T then f else V U) D'/\W.grownBy w' (some b)/\(∀ l,keyOf Tryd.prog 78 (tiV T)=some l->Maps.has D' l=true)/\(∀ kl,Maps.has D kl=true->Maps.has D' kl=true):=by
 obtain⟨l,hl⟩:=keyT hT
 obtain⟨w',hrun,hown,hg⟩:=h.own.update lawT Tryd.underlying81 (show n<maxLen by unfold maxLen;omega) hl (show Xy4 (.map (some c))=some (.lit (.int .i64 (c:Nat)),[]) from rfl)
 have hk:=lawT.key hl
 have im:=h.own.isMap
 have keep:∀ (c':Nat) (F:Int->Int),L<=c'->WkV W W.heap.size (.map (some c')) N K F->WkV w' w'.heap.size (.map (some c')) N K F:=by
  intro c' F h1 h2
  rcases h2 with⟨e,-⟩|⟨c2,D',e,hlt,ho,hk,hc⟩
  · cases e
  · cases e
    exact Or.inr ⟨c',D',rfl,Nat.lt_of_lt_of_le hlt hg.size,ho.kept hg (fun e=>by have:=Option.some.inj e;omega),hk,hc⟩
 refine⟨w',_,hrun,⟨hown,fun kl hkl=>?_,fun U lu hU hlu hhas=>?_,fun U lu hU hlu hhas y=>?_⟩,hg,fun l' hl'=>?_,fun kl hkl=>?_⟩
 · by_cases e:kl=l
   · subst e;exact⟨T,hT,hl⟩
   · rw[has_put_other e]at hkl;exact h.keys kl hkl
 · by_cases e:U=T
   · subst e
     rw[hl]at hlu
     obtain rfl:=Option.some.inj hlu
     refine⟨c,fun zd=>atKey_put_same im hk _ _,hc,?_⟩
     rw[if_pos rfl];exact keep c f hc hf
   · have hne:lu≠l:=fun h0=>e (Xb3 (lawT.inj hlu (h0▸hl)))
     rw[has_put_other hne]at hhas
     obtain⟨c',k1,k2,k3⟩:=h.vals U lu hU hlu hhas
     refine⟨c',fun zd=>by rw[atKey_put_other hne];exact k1 zd,k2,?_⟩
     rw[if_neg e];exact keep c' _ k2 k3
 · by_cases e:U=T
   · subst e
     rw[hl]at hlu
     obtain rfl:=Option.some.inj hlu
     rw[has_put_same im hk]at hhas;cases hhas
   · have hne:lu≠l:=fun h0=>e (Xb3 (lawT.inj hlu (h0▸hl)))
     rw[has_put_other hne]at hhas
     show(if U=T then f else V U) y=0
     rw[if_neg e];exact h.off U lu hU hlu hhas y
 · rw[hl]at hl'
   obtain rfl:=Option.some.inj hl'
   exact has_put_same im hk _
 · by_cases e:kl=l
   · subst e;exact has_put_same im hk _
   · rw[has_put_other e];exact hkl
theorem SumD.made (W:World) (L B K N:Nat):SumD (W.alloc (.map #[] 0)) L B W.heap.size 0 K N (fun _ _=>0) (.map []):=
 ⟨World.ownsMap_made W _ _ _,(fun kl h=>by cases h),(fun T l _ _ h=>by cases h),fun _ _ _ _ _ _=>rfl⟩
end Go.Proofs.YtjcagkgpbcdghaaDoor.Poly

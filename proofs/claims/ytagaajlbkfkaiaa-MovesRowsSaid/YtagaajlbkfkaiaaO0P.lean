/- Several texts of the proof, one behind the other. -/
import Derived.Test.YtagaajlbkfkaiaaW2P
import Derived.Lib.Hide
import Derived.Test.YtagaajlbkfkaiaaQueP
import Derived.Test.YtagaajlbkfkaiaaBaseP
import Derived.Deep.RegionHeld3
/- Plain mathematics: overpasses; labels that are merged edge by edge come to the least of what is joined. -/
namespace Go.Proofs.Ytagaajlbkfkaiaa
def mer (W:List Nat) (x y:Nat):List Nat:=W.map fun z=>if z=max (W.getD x 0) (W.getD y 0) then min (W.getD x 0) (W.getD y 0) else z
theorem mer_len (W:List Nat) (x y:Nat):(mer W x y).length=W.length:=by simp[mer]
theorem mer_at (W:List Nat) (x y v:Nat) (hv:v<W.length):(mer W x y).getD v 0=if W.getD v 0=max (W.getD x 0) (W.getD y 0) then min (W.getD x 0) (W.getD y 0) else W.getD v 0:=by
 simp[mer,List.getD_eq_getElem?_getD,hv]
theorem mer_least {F:List (Nat×Nat)} {n:Nat} {W:List Nat} (h:Least F n W) (x y:Nat) (hx:x<n) (hy:y<n) (hF:∀ e,e∈F->e.1<n/\e.2<n):Least (F++[(x,y)]) n (mer W x y):=by
 obtain⟨hl,h2⟩:=h
 have up:∀ {u v:Nat},Con F u v->Con (F++[(x,y)]) u v:=fun hc S hS hu=>hc S (fun e he=>hS e (List.mem_append_left _ he)) hu
 have hxy:Con (F++[(x,y)]) x y:=Con.edge (List.mem_append_right _ (List.Mem.head _))
 have lx:=up (h2 x hx).1
 have ly:=up (h2 y hy).1
 have hWW:Con (F++[(x,y)]) (W.getD x 0) (W.getD y 0):=lx.symm.trans (hxy.trans ly)
 have hmm:Con (F++[(x,y)]) (max (W.getD x 0) (W.getD y 0)) (min (W.getD x 0) (W.getD y 0)):=by
  rcases Nat.le_total (W.getD x 0) (W.getD y 0) with hle|hle
  · rw[Nat.max_eq_right hle,Nat.min_eq_left hle];exact hWW.symm
  · rw[Nat.max_eq_left hle,Nat.min_eq_right hle];exact hWW
 have hcon:∀ v,v<n->Con (F++[(x,y)]) v ((mer W x y).getD v 0):=fun v hv=>by
  rw[mer_at W x y v (by omega)]
  split
  · rename_i he
    have:=up (h2 v hv).1
    rw[he]at this
    exact this.trans hmm
  · exact up (h2 v hv).1
 have hle:∀ v,v<n->(mer W x y).getD v 0<=v:=fun v hv=>by
  have h3:=(h2 v hv).2 v (Con.refl F v)
  rw[mer_at W x y v (by omega)]
  split
  · rename_i he;omega
  · exact h3
 refine⟨by rw[mer_len];exact hl,fun v hv=>⟨hcon v hv,fun u hu=>?_⟩⟩
 have hcl:Closed (F++[(x,y)]) (fun z=>z<n/\(mer W x y).getD z 0=(mer W x y).getD v 0):=fun e he=>by
  rcases List.mem_append.1 he with h4|h4
  · obtain⟨e1,e2⟩:=hF e h4
    have hs:W.getD e.1 0=W.getD e.2 0:=by
     have c:Con F e.1 e.2:=Con.edge (by cases e;exact h4)
     exact Nat.le_antisymm ((h2 _ e1).2 _ (c.trans (h2 _ e2).1)) ((h2 _ e2).2 _ (c.symm.trans (h2 _ e1).1))
    have hm:(mer W x y).getD e.1 0=(mer W x y).getD e.2 0:=by
     rw[mer_at W x y _ (by omega),mer_at W x y _ (by omega),hs]
    show(e.1<n/\(mer W x y).getD e.1 0=_)↔(e.2<n/\(mer W x y).getD e.2 0=_)
    rw[hm];exact⟨fun q=>⟨e2,q.2⟩,fun q=>⟨e1,q.2⟩⟩
  · have:e=(x,y):=by simpa using h4
    subst this
    have hm:(mer W x y).getD x 0=(mer W x y).getD y 0:=by
     rw[mer_at W x y _ (by omega),mer_at W x y _ (by omega)]
     split<;>split<;>omega
    show(x<n/\(mer W x y).getD x 0=_)↔(y<n/\(mer W x y).getD y 0=_)
    rw[hm];exact⟨fun q=>⟨hy,q.2⟩,fun q=>⟨hx,q.2⟩⟩
 obtain⟨a1,a2⟩:=hu _ hcl ⟨hv,rfl⟩
 rw[<-a2]
 exact hle u a1
def mers (W:List Nat):List (Nat×Nat)->List Nat
 |[]=>W
 |e::E=>mers (mer W e.1 e.2) E
theorem mers_app (W:List Nat) (E F:List (Nat×Nat)):mers W (E++F)=mers (mers W E) F:=by
 induction E generalizing W with
 |nil=>rfl
 |cons e E ih=>exact ih _
theorem least_nil (n:Nat):Least [] n (List.range n):=by
 refine⟨by simp,fun v hv=>?_⟩
 have e:(List.range n).getD v 0=v:=by simp[List.getD_eq_getElem?_getD,hv]
 rw[e]
 exact⟨Con.refl _ v,fun u hu=>by
  have:=hu (fun z=>z=v) (fun e he=>by cases he) rfl
  omega⟩
theorem mers_least (n:Nat):∀ (E F:List (Nat×Nat)) (W:List Nat),(∀ e,e∈F++E->e.1<n/\e.2<n)->Least F n W->Least (F++E) n (mers W E):=by
 intro E
 induction E with
 |nil=>intro F W _ h;simpa[mers] using h
 |cons e E ih=>
  intro F W hE h
  obtain⟨e1,e2⟩:=hE e (by simp)
  have h':=mer_least h e.1 e.2 e1 e2 (fun f hf=>hE f (List.mem_append_left _ hf))
  have:=ih (F++[(e.1,e.2)]) _ (fun f hf=>hE f (by simpa using hf)) h'
  simpa[mers] using this
theorem Least.root {E:List (Nat×Nat)} {n:Nat} {W:List Nat} (h:Least E n W) {v:Nat} (hv:v<n):W.getD (W.getD v 0) 0=W.getD v 0:=(h.same (h.lt hv) hv).2 (h.2 v hv).1.symm
theorem Least.le {E:List (Nat×Nat)} {n:Nat} {W:List Nat} (h:Least E n W) {v:Nat} (hv:v<n):W.getD v 0<=v:=(h.2 v hv).2 v (Con.refl E v)
theorem Least.pos {E:List (Nat×Nat)} {n:Nat} {W:List Nat} (h:Least E n W) (hE:∀ e,e∈E->1<=e.1/\1<=e.2) {v:Nat} (hv:v<n) (h1:1<=v):1<=W.getD v 0:=by
 have:=(h.2 v hv).1 (fun z=>1<=z) (fun e he=>by simp[hE e he]) h1
 exact this
end Go.Proofs.Ytagaajlbkfkaiaa
/- Plain mathematics: labels merged place by place. -/
namespace Go.Proofs.Ytagaajlbkfkaiaa
open Go.RowKit
theorem cut_one {T G:Prop} (h:Hid T->G) (hT:T):G:=h hT
def merTo (W:List Nat) (x y k:Nat):List Nat:=(List.range W.length).map fun v=>if v<k then(mer W x y).getD v 0 else W.getD v 0
theorem merTo_len (W:List Nat) (x y k:Nat):(merTo W x y k).length=W.length:=by simp[merTo]
theorem merTo_at (W:List Nat) (x y k v:Nat) (hv:v<W.length):(merTo W x y k).getD v 0=if v<k then(mer W x y).getD v 0 else W.getD v 0:=by simp[merTo,List.getD_eq_getElem?_getD,hv]
theorem getD_ext {l m:List Nat} (h:l.length=m.length) (g:∀ v,v<l.length->l.getD v 0=m.getD v 0):l=m:=by
 refine List.ext_getElem h fun i h1 h2=>?_
 have:=g i h1
 simpa[List.getD_eq_getElem?_getD,h1,h2] using this
theorem merTo_zero (W:List Nat) (x y:Nat):merTo W x y 0=W:=getD_ext (merTo_len _ _ _ _) fun v hv=>by
 rw[merTo_len]at hv;rw[merTo_at _ _ _ _ _ hv,if_neg (by omega)]
theorem merTo_all (W:List Nat) (x y:Nat):merTo W x y W.length=mer W x y:=getD_ext (by rw[merTo_len,mer_len]) fun v hv=>by
 rw[merTo_len]at hv;rw[merTo_at _ _ _ _ _ hv,if_pos hv]
theorem merTo_next (W:List Nat) (x y k z:Nat) (hk:k<W.length) (hz:(mer W x y).getD k 0=z):(merTo W x y k).set k z=merTo W x y (k+1):=getD_ext (by simp[merTo_len]) fun v hv=>by
 have hv':v<W.length:=by simpa[merTo_len] using hv
 rw[getD_set _ _ _ _ (by rw[merTo_len];exact hk),merTo_at _ _ _ _ _ hv',merTo_at _ _ _ _ _ hv']
 by_cases e:v=k
 · subst e;rw[if_pos rfl,if_pos (by omega),hz]
 · rw[if_neg e]
   by_cases h2:v<k
   · rw[if_pos h2,if_pos (by omega)]
   · rw[if_neg h2,if_neg (by omega)]
theorem merTo_same (W:List Nat) (x y k:Nat) (hk:k<W.length) (hz:(mer W x y).getD k 0=W.getD k 0):merTo W x y k=merTo W x y (k+1):=getD_ext (by simp[merTo_len]) fun v hv=>by
 have hv':v<W.length:=by simpa[merTo_len] using hv
 rw[merTo_at _ _ _ _ _ hv',merTo_at _ _ _ _ _ hv']
 by_cases e:v=k
 · subst e;rw[if_neg (by omega),if_pos (by omega),hz]
 · by_cases h2:v<k
   · rw[if_pos h2,if_pos (by omega)]
   · rw[if_neg h2,if_neg (by omega)]
theorem mers_len (E:List (Nat×Nat)):∀ W:List Nat,(mers W E).length=W.length:=by
 induction E with
 |nil=>intro W;rfl
 |cons e E ih=>intro W;rw[mers,ih,mer_len]
end Go.Proofs.Ytagaajlbkfkaiaa
/- Visits: lists of them that a call owns; the walks of gauss.visits and gauss.signs. -/
namespace Go.Proofs.Ytagaajlbkfkaiaa
open Go.RowKit
def vflat (V:List (Nat×Bool)):List Value:=V.flatMap fun t=>[.int .i64 (t.1:Nat),.bool t.2]
theorem vflat_append (l m:List (Nat×Bool)):vflat (l++m)=vflat l++vflat m:=by simp[vflat]
theorem vflat_get (l:List (Nat×Bool)) (i:Nat) (hi:i<l.length):(vflat l)[i*2]?=some (.int .i64 ((l.getD i (0,false)).1:Nat))/\(vflat l)[i*2+1]?=some (.bool (l.getD i (0,false)).2):=by
 induction l generalizing i with
 |nil=>simp at hi
 |cons t l ih=>
  have e:vflat (t::l)=.int .i64 (t.1:Nat)::.bool t.2::vflat l:=rfl
  cases i with
  |zero=>rw[e];exact⟨rfl,rfl⟩
  |succ i=>
   have:=ih i (by simpa using hi)
   rw[e,show(i+1)*2=i*2+1+1 by omega]
   exact this
theorem vflat_one (l:List (Nat×Bool)):∀ u∈vflat l,u.oneCell'=true:=by
 intro u hu
 simp only[vflat,List.mem_flatMap]at hu
 obtain⟨t,_,ht⟩:=hu
 simp at ht
 rcases ht with rfl|rfl<;>rfl
def WksAt (w:World) (v:Value) (L:List (List Nat)):Prop:=∃ ys:List Value,ys.length=L.length/\Slots w w.heap.size v ys/\∀ j,j<L.length->Slots w w.heap.size (ys.getD j (.bool false)) (nats (L.getD j []))
theorem WksAt.on {w w':World} {v:Value} {L:List (List Nat)} (h:WksAt w v L) (hb:Below w.heap.size w w'):WksAt w' v L:=by
 obtain⟨ys,h1,h2,h3⟩:=h
 exact⟨ys,h1,(h2.on hb).mono hb.size,fun j hj=>((h3 j hj).on hb).mono hb.size⟩
end Go.Proofs.Ytagaajlbkfkaiaa
/- The walks of canon.mirrored, canon.Mirror and ref.MirrorOf. -/
namespace Go.Proofs.Ytagaajlbkfkaiaa
open Go.RowKit
end Go.Proofs.Ytagaajlbkfkaiaa
/- Crossings compared; the walks of ref.SameDiagram and ref.MirrorOf, and of canon.Mirror. -/
namespace Go.Proofs.Ytagaajlbkfkaiaa
open Go.RowKit
set_option maxHeartbeats 4000000
set_option maxRecDepth 100000
def crEq (x y:Cr):Bool:=x.a==y.a&&x.b==y.b&&x.c==y.c&&x.d==y.d&&x.plus==y.plus
theorem crEq_refl (x:Cr):crEq x x=true:=by simp[crEq]
def crsEq (C D:List Cr):Bool:=decide (C.length=D.length)&&(List.range C.length).all fun i=>crEq (C.getD i Cr.none) (D.getD i Cr.none)
def sameD (l1 l2:Int) (C D:List Cr):Bool:=decide (l1=l2)&&crsEq C D
theorem sameD_iff (l1 l2:Int) (C D:List Cr):sameD l1 l2 C D=true↔l1=l2/\C.length=D.length/\∀ i,i<C.length->crEq (C.getD i Cr.none) (D.getD i Cr.none)=true:=by
 simp only[sameD,crsEq,Bool.and_eq_true,decide_eq_true_eq,List.all_eq_true,List.mem_range]
theorem sameD_no {l1 l2:Int} {C D:List Cr} (h:¬ (l1=l2/\C.length=D.length/\∀ i,i<C.length->crEq (C.getD i Cr.none) (D.getD i Cr.none)=true)):sameD l1 l2 C D=false:=by
 cases hs:sameD l1 l2 C D with
 |false=>rfl
 |true=>exact absurd ((sameD_iff l1 l2 C D).1 hs) h
theorem eqCross (x y:Cr) (w:World):(Op.equalIn 10000 71 (.agg #[.int .i64 x.a,.int .i64 x.b,.int .i64 x.c,.int .i64 x.d,.bool x.plus]) (.agg #[.int .i64 y.a,.int .i64 y.b,.int .i64 y.c,.int .i64 y.d,.bool y.plus])).run Try.prog w=.ok (crEq x y) w:=by
 have u3:=Try.underlying3
 have a3:=Try.isAgg3
 have z3:=Try.sizeOf3
 have u4:=Try.underlying4
 have a4:=Try.isAgg4
 have z4:=Try.sizeOf4
 have hS:Try.prog.underlying 71=some (.struct (Try.prog.fieldsOf 71)):=by kernel_rfl
 have hp:Try.prog.stoodInHeld 71=false:=by kernel_rfl
 rw[show(10000:Nat)=9999+1 from rfl,run_equalIn_agg w 9999 71 _ _ hS hp]
 simp only[Program.fieldsOf,Try.underlying71]
 go_simp
 unfold crEq
 by_cases h1:x.a=y.a<;>by_cases h2:x.b=y.b<;>by_cases h3:x.c=y.c<;>by_cases h4:x.d=y.d<;>by_cases h5:x.plus=y.plus<;>simp[h1,h2,h3,h4,h5]
theorem neqCross (x y:Cr) (w:World):(binOp .neq 71 (.agg #[.int .i64 x.a,.int .i64 x.b,.int .i64 x.c,.int .i64 x.d,.bool x.plus]) (.agg #[.int .i64 y.a,.int .i64 y.b,.int .i64 y.c,.int .i64 y.d,.bool y.plus])).run Try.prog w=.ok (.bool (!crEq x y)) w:=by
 rw[run_neq_struct,eqCross]
 simp[Result.andThen]
theorem sameDiagram_any (v1 v2:Value) (C D:List Cr) (l1 l2:Int) (w:World) (h1:Crs w w.heap.size v1 C) (h2:Crs w w.heap.size v2 D):
    Calls Try.prog 12 #[.agg #[v1,.int .i64 l1],.agg #[v2,.int .i64 l2]] w fun e w'=>e=.returned (.bool (sameD l1 l2 C D))/\Below w.heap.size w w':=by
 have HC1:=hidB h1
 have HC2:=hidB h2
 obtain⟨a1,c1,rfl,hn1,-⟩:=h1
 obtain⟨a2,c2,rfl,hn2,-⟩:=h2
 have hn1':C.length<=9223372036854775807:=hn1
 have hn2':D.length<=9223372036854775807:=hn2
 clear hn1 hn2
 have HB0:Hid (Below w.heap.size w ((w.alloc (.cells #[.slice a1 C.length c1,.int .i64 l1] 24)).alloc (.cells #[.slice a2 D.length c2,.int .i64 l2] 24))):=below2 _ _ _
 by_cases hll:l1=l2
 · subst hll
   have hd1:(l1 != l1)=false:=by simp
   by_cases hlen:C.length=D.length
   · have HLEN:Hid (C.length=D.length):=hlen
     have e2:D.length=C.length:=hlen.symm
     rw[e2]
     clear hlen e2 hn2'
     have hd2:((C.length:Int) != (C.length:Int))=false:=by simp
     obtain⟨w0,hw0⟩:∃ w0,w0=(w.alloc (.cells #[.slice a1 C.length c1,.int .i64 l1] 24)).alloc (.cells #[.slice a2 C.length c2,.int .i64 l1] 24):=⟨_,rfl⟩
     have HW0:=hidB hw0
     have hs0:w0.heap.size=w.heap.size+2:=by rw[hw0];simp
     have HBW:=hidB (show Below w.heap.size w w0 by rw[hw0];exact below2 _ _ _)
     have HT1:=hidB (show w0.heap[w.heap.size]?=some (.cells #[.slice a1 C.length c1,.int .i64 l1] 24 (0,0)) by rw[hw0];exact alloc_old (alloc_at rfl))
     have HT2:=hidB (show w0.heap[w.heap.size+1]?=some (.cells #[.slice a2 C.length c2,.int .i64 l1] 24 (0,0)) by rw[hw0];exact alloc_at (by simp))
     clear hw0
     go_enter Try.func12,Try.ntmps12
     go_wp2
     rw[<-HW0.out]
     go_loopw [5] (fun v5 wr=>∃ i:Nat,i<=C.length/\v5=.int .i64 (i:Nat)/\Hid (∀ j,j<i->crEq (C.getD j Cr.none) (D.getD j Cr.none)=true)/\Below w0.heap.size w0 wr) (fun v5 _=>C.length-(intOf v5).toNat)
     case atStart=>exact⟨0,Nat.zero_le _,rfl,fun j hj=>absurd hj (Nat.not_lt_zero _),Below.refl _ _⟩
     case round=>
      rename World=>W1
      obtain⟨i,hin,rfl,hall,hb⟩:=hrel
      have hszW:=hb.size
      have g1:=(hb.block _ (by omega)).trans HT1.out
      have g2:=(hb.block _ (by omega)).trans HT2.out
      have p1:=block_cell (i:=0) g1 rfl
      have p2:=block_cell (i:=0) g2 rfl
      have hl1:w.heap.size<W1.heap.size:=by omega
      have hl2:w.heap.size+1<W1.heap.size:=by omega
      have HBB:=hidB (HBW.out.trans (hb.mono HBW.out.size))
      clear g1 g2
      by_cases hil:i<C.length
      · have hdi:decide ((i:Int)<(C.length:Int))=true:=by simp;omega
        have hdi2:decide (i<C.length)=true:=by simp;omega
        obtain⟨b1,o1,ea1,hb1,hC1⟩:=crs_some HC1.out (by omega)
        subst ea1
        obtain⟨x0,x1,x2,x3,x4⟩:=(hC1.on HBB.out hb1) i hil
        have hl:=HLEN.out
        obtain⟨b2,o2,ea2,hb2,hC2⟩:∃ b off,a2=some ⟨b,off,none⟩/\b<w.heap.size/\CrossAt w b off D:=by
         obtain⟨a',cap',e,_,g⟩:=HC2.out
         injection e with e1 e2 e3
         obtain⟨b,off,h1,h2,h3⟩:=g (by omega)
         exact⟨b,off,by rw[e1,h1],h2,h3⟩
        subst ea2
        obtain⟨y0,y1,y2,y3,y4⟩:=(hC2.on HBB.out hb2) i (by omega)
        clear hC1 hC2 hl
        have HCI:Hid (∀ q,crEq (C.getD i Cr.none) (D.getD i Cr.none)=q->crEq (C.getD i Cr.none) (D.getD i Cr.none)=q):=fun _ h=>h
        obtain⟨x,hx⟩:∃ x,C.getD i Cr.none=x:=⟨_,rfl⟩
        obtain⟨y,hy⟩:∃ y,D.getD i Cr.none=y:=⟨_,rfl⟩
        rw[hx]at x0 x1 x2 x3 x4
        rw[hy]at y0 y1 y2 y3 y4
        have HXY:=hidB (show crEq (C.getD i Cr.none) (D.getD i Cr.none)=crEq x y by rw[hx,hy])
        clear hx hy HCI
        have hb1w:b1<W1.heap.size:=by omega
        have hb2w:b2<W1.heap.size:=by omega
        have n0:(0:Int)<=(i:Int):=by omega
        have n1:(i:Int)<(C.length:Int):=by omega
        have hcmp:=neqCross x y
        cases hq:crEq x y with
        |true=>
         rw[hq]at hcmp
         simp only[Bool.not_true]at hcmp
         go_wp2
         go_quiet (fail)
         go_wp2
         go_roundw
         case rel=>
          refine⟨i+1,by omega,by go_num,fun j hj=>?_,below_drewN hb _⟩
          by_cases e:j=i
          · rw[e,HXY.out];exact hq
          · exact hall.out j (by omega)
         case measure=>simp only[intOf];omega
        |false=>
         rw[hq]at hcmp
         simp only[Bool.not_false]at hcmp
         have HNO:Hid (sameD l1 l1 C D=false):=sameD_no (fun h=>by
          have:=h.2.2 i hil
          rw[HXY.out,hq]at this
          exact absurd this (by simp))
         go_wp2
         go_quiet (fail)
         go_wp2
         go_ret
         exact⟨ret_bool HNO.out,HBW.out.trans ((below_drewN hb _).mono HBW.out.size)⟩
      · obtain rfl:i=C.length:=by omega
        have HYES:=hidB ((sameD_iff l1 l1 C D).2 ⟨rfl,HLEN.out,fun j hj=>hall.out j hj⟩)
        have hdi:decide ((C.length:Int)<(C.length:Int))=false:=by simp
        go_wp2
        go_ret
        exact⟨ret_bool HYES.out,HBB.out⟩
   · have hd2:((C.length:Int) != (D.length:Int))=true:=by rw[bne_iff_ne];omega
     have HNO:Hid (sameD l1 l1 C D=false):=sameD_no (fun h=>hlen h.2.1)
     go_enter Try.func12,Try.ntmps12
     go_wp2
     go_ret
     exact⟨ret_bool HNO.out,HB0.out⟩
 · have hd1:(l1 != l2)=true:=by rw[bne_iff_ne];exact hll
   have HNO:Hid (sameD l1 l2 C D=false):=sameD_no (fun h=>hll h.1)
   go_enter Try.func12,Try.ntmps12
   go_wp2
   go_ret
   exact⟨ret_bool HNO.out,HB0.out⟩
theorem sameDiagram_eq (v1 v2:Value) (C:List Cr) (l:Int) (w:World) (h1:Crs w w.heap.size v1 C) (h2:Crs w w.heap.size v2 C):
    Calls Try.prog 12 #[.agg #[v1,.int .i64 l],.agg #[v2,.int .i64 l]] w fun e w'=>e=.returned (.bool true)/\Below w.heap.size w w':=by
 refine(sameDiagram_any v1 v2 C C l l w h1 h2).mono fun e w' ⟨he,hb⟩=>⟨?_,hb⟩
 rw[he,(sameD_iff l l C C).2 ⟨rfl,rfl,fun i _=>crEq_refl _⟩]
end Go.Proofs.Ytagaajlbkfkaiaa
/- The walks of ref.MirrorOf and canon.Mirror. -/
namespace Go.Proofs.Ytagaajlbkfkaiaa
open Go.RowKit
end Go.Proofs.Ytagaajlbkfkaiaa
/- The arc on which the other strand goes on; the walk of Drawing.Aside. -/
namespace Go.Proofs.Ytagaajlbkfkaiaa
open Go.RowKit
end Go.Proofs.Ytagaajlbkfkaiaa
/- One operation of a region that draws its order, taken by hand. -/
namespace Go.Proofs.Ytagaajlbkfkaiaa
open Go.RowKit
theorem take_q {P:Program} {md:Region.Mode} {ops:Array Oper} {Q:Exit->Act->World->Prop} {S:World->Prop} {i:Nat} (d:Nat) {oi:Oper} {v:Value} {fuel:Nat} {listed:Array Bool} {ts:Array Value} {ds:List Deferred} {w:World} (hi:ops[i]?=some oi) (hdst:oi.dst=some d)
    (hs:Region.noSelect ops=true) (hf:Region.free md ops listed i=true) (hr:(Region.ready md ops listed).contains i=true) (hq:∀ x a w',Q (.panic x) (Act.put a oi.dst v) w'->Q (.panic x) a w') (hy:YieldsIf P ops S oi v { tmps:=ts,defers:=ds }) (hS:S w)
    (h:wpAnyH P md ops Q S fuel (listed.setIfInBounds i true) { tmps:=ts.setIfInBounds d v,defers:=ds } w):wpAnyH P md ops Q S (fuel+1) listed { tmps:=ts,defers:=ds } w:=by
 refine wpAnyH_take hi hs hf hr hq hy hS ?_
 rw[hdst]
 exact h
end Go.Proofs.Ytagaajlbkfkaiaa

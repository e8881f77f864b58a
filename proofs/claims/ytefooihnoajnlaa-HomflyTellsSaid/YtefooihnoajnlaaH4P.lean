/- Several texts of the proof, one behind the other. -/
import Derived.Test.YtefooihnoajnlaaH1P
import Derived.Test.YtefooihnoajnlaaBaseP
/- The walk of ref.DiagramMay at whatever diagram; the walk of drawing.unknown. -/
namespace Go.Proofs.Ytefooihnoajnlaa
open Go.RowKit
set_option maxHeartbeats 2000000
set_option maxRecDepth 100000
theorem may17_none (a : Option Addr) (cap : Nat) (loops : Int) (w : World) (h0 : 1 ≤ loops) (h1 : loops ≤ 16) :
    Calls Try.prog 31 #[.agg #[.slice a 0 cap,.int .i64 loops]] w fun e w'=>e=.returned (.bool true)/\Below w.heap.size w w':=by
 have dB:decide (loops<0)=false:=by simp;omega
 have dC:decide (16<loops)=false:=by simp;omega
 have dD:(loops==0)=false:=by rw[beq_eq_false_iff_ne];omega
 go_enter Try.func31,Try.ntmps31
 go_wp2
 go_loopw [4] (fun va wr=>va=.int .i64 1/\Below w.heap.size w wr) (fun _ _=>0)
 case atStart=>exact⟨rfl,(Below.refl _ _).alloc (Nat.le_refl _) _⟩
 case round=>
  obtain⟨rfl,hb⟩:=hrel
  go_wp2
  go_ret
  exact⟨rfl,hb⟩
theorem may17_any (v : Value) (C : List Cr) (loops : Int) (w : World) (h : Crs w w.heap.size v C) :
    Calls Try.prog 31 #[.agg #[v,.int .i64 loops]] w fun e w'=>e=.returned (.bool (mayD C loops))/\Below w.heap.size w w':=by
 cases hs:sizeB C loops with
 |false=>
  rw[mayD_size hs]
  exact may17_size v C loops w h hs
 |true=>
  obtain⟨a,cap,rfl,hn,g⟩:=h
  rcases Nat.eq_zero_or_pos C.length with h0|h0
  · have e0:C=[]:=List.length_eq_zero_iff.1 h0
    subst e0
    have hz:=sizeB_iff hs
    have e:mayD [] loops=true:=mayD_yes hs (fun j h1 h2=>by simp at h2;omega)
    rw[e]
    have h1:1<=loops:=by
     rcases Int.lt_or_le 0 loops with h|h
     · omega
     · exact absurd ⟨rfl,by omega⟩ hz.2.2.2
    exact may17_none a cap loops w h1 hz.2.2.1
  · obtain⟨b,off,rfl,hlt,hC⟩:=g h0
    exact may17_some b off cap C loops w hs h0 hlt hC
theorem infoSpot:(Try.prog.info? 93).map (fun i=>(i.zero,i.size,i.bytes))=some (some (.agg #[.int .i64 0,.int .i64 0]),2,16):=by kernel_rfl
theorem unknown_any (n : Nat) (w : World) (hn : n ≤ 40) :
    Calls Try.prog 52 #[.int .i64 n] w fun e w'=>∃ v,e=.returned v/\w'.ownsRow w.heap.size 93 2 v n (flat (List.replicate n (-1,0)))/\Below w.heap.size w w':=by
 obtain⟨i0,hi,hz0,hz1,hz2⟩:=info_parts infoSpot
 go_enter Try.func52,Try.ntmps52
 go_wp2_with (first|(at_make;refine wpList_make_full _ rfl _ _ 39 rfl w.heap.size 93 i0 (.agg #[.int .i64 0,.int .i64 0]) 2 Try.underlying39 hi hz0 hz1 .i64 .i64 _ _ n rfl rfl rfl rfl (by rw[hz2];omega) (by unfold maxLen;omega) (Nat.le_refl _) ?_;intro w1 hrow hg1;refine Hid.out ?_))
 refine Lib.hid ?_
 have hz:(madeCells (Value.agg #[.int .i64 0,.int .i64 0]).cells (n*2)).toList=flat (unkTo n 0):=by
  have e:(Value.agg #[.int .i64 0,.int .i64 0]).cells=#[Value.int .i64 0,.int .i64 0]:=rfl
  rw[e,flat_zeros]
  simp[unkTo]
 rw[hz]at hrow
 have HB1:Hid (Below w.heap.size w w1):=(Below.refl _ _).grown hg1 (Nat.le_refl _) (fun j hj=>by cases hj)
 clear hz hg1
 go_wp2
 go_loopw [9] (fun v9 wr=>∃ i:Nat,i<=n/\v9=.int .i64 i/\wr.ownsRow w.heap.size 93 2 (.slice (some ⟨w.heap.size,0,none⟩) n n) n (flat (unkTo n i))/\Below w.heap.size w wr) (fun v9 _=>n-(intOf v9).toNat)
 case atStart=>exact⟨0,Nat.zero_le _,rfl,hrow,HB1.out⟩
 case round=>
  clear hrow
  obtain⟨i,hin,rfl,hown,hb⟩:=hrel
  have hlow:=(hown.lt w.heap.size rfl).2
  by_cases hil:i<n
  · have hul:(unkTo n i).length=n:=by simp[unkTo];omega
    have f0:=hown.frozenAt (i*2)
    have c0:wr.cell? ⟨w.heap.size,i*2,none⟩=some (.int .i64 ((unkTo n i).getD i (0,0)).1):=by rw[hown.cellAt (i*2) (by omega)];exact flat_cellE _ i (by omega)
    have hst:=hown.stored (i*2) (.int .i64 (-1))
    rw[flat_setE _ i (-1) (by omega),unk_next n i hil]at hst
    have HST:Hid ((wr.setCell ⟨w.heap.size,i*2,none⟩ (.int .i64 (-1))).ownsRow w.heap.size 93 2 (.slice (some ⟨w.heap.size,0,none⟩) n n) n (flat (unkTo n (i+1)))):=hst.1
    have HBB:Hid (Below w.heap.size w (wr.setCell ⟨w.heap.size,i*2,none⟩ (.int .i64 (-1)))):=hb.grown hst.2 hb.size (fun j hj=>by cases hj;exact Nat.le_refl _)
    generalize ((unkTo n i).getD i (0,0)).1=u at c0
    clear hst hown
    go_wp2
    go_roundw
    case rel=>exact⟨i+1,by omega,by go_num,HST.out,HBB.out⟩
    case measure=>simp only[intOf];omega
  · obtain rfl:i=n:=by omega
    go_wp2
    go_ret
    exact ⟨_, rfl, by have e : unkTo i i = List.replicate i (-1, 0) := by simp [unkTo]
                      rw[<-e];exact hown,hb⟩
end Go.Proofs.Ytefooihnoajnlaa
/- Homfly's polynomial by descents: what a walk knows; one whose strands go aside at a crossing, and the diagram that is smoothed there; plain mathematics. -/
namespace Go.Proofs.Ytefooihnoajnlaa
def cnP (P:Nat->Bool):Nat->Nat
 |0=>0
 |n+1=>cnP P n+(if P (n+1)=true then 1 else 0)
theorem cnP_congr {P Q:Nat->Bool}:∀ n,(∀ b,1<=b->b<=n->P b=Q b)->cnP P n=cnP Q n
 |0,_=>rfl
 |n+1,h=>by
  show cnP P n+_=cnP Q n+_
  rw[cnP_congr n (fun b h1 h2=>h b h1 (by omega)),h (n+1) (by omega) (Nat.le_refl _)]
theorem cnP_less {P Q:Nat->Bool} {a:Nat} (h1:1<=a) (hp:P a=true) (hq:Q a=false):∀ n,a<=n->(∀ b,1<=b->b<=n->b≠a->P b=Q b)->cnP P n=cnP Q n+1
 |0,hn,_=>by omega
 |n+1,hn,h=>by
  show cnP P n+_=cnP Q n+_+1
  by_cases e:a=n+1
  · rw[cnP_congr n (fun b h1 h2=>h b h1 (by omega) (by omega)),<-e,hp,hq,if_pos rfl,if_neg (by decide)]
  · rw[cnP_less h1 hp hq n (by omega) (fun b h1 h2 h3=>h b h1 (by omega) h3),h (n+1) (by omega) (Nat.le_refl _) (fun q=>e q.symm)]
    omega
theorem cnP_pos {P:Nat->Bool} {a:Nat} (h1:1<=a) (hp:P a=true):∀ n,a<=n->1<=cnP P n
 |0,hn=>by omega
 |n+1,hn=>by
  show 1<=cnP P n+_
  by_cases e:a=n+1
  · rw[<-e,hp,if_pos rfl];omega
  · have:=cnP_pos h1 hp n (by omega);omega
theorem cnP_zero {P:Nat->Bool}:∀ n,(∀ b,1<=b->b<=n->P b=false)->cnP P n=0
 |0,_=>rfl
 |n+1,h=>by
  show cnP P n+_=0
  rw[cnP_zero n (fun b h1 h2=>h b h1 (by omega)),h (n+1) (by omega) (Nat.le_refl _)]
  rfl
def unw (N:Nat) (w:Nat->Bool):Nat:=cnP (fun a=>!w a) N
theorem unw_less {N:Nat} {w:Nat->Bool} {a:Nat} (h1:1<=a) (h2:a<=N) (h:w a=false):unw N w=unw N (upd w a true)+1:=
 cnP_less h1 (by simp[h]) (by simp[upd_same]) N h2 (fun b _ _ hb=>by simp[upd_other _ _ hb])
theorem unw_pos {N:Nat} {w:Nat->Bool} {a:Nat} (h1:1<=a) (h2:a<=N) (h:w a=false):1<=unw N w:=cnP_pos h1 (by simp[h]) N h2
structure Gd (S:Sys):Prop where
 cl:∀ ways a,1<=a->a<=S.N->1<=nxW S ways a/\nxW S ways a<=S.N
 inj:∀ ways a b,1<=a->a<=S.N->1<=b->b<=S.N->nxW S ways a=nxW S ways b->a=b
structure Run (S:Sys) (s:Dst) (st:Nat):Prop where
 a1:1<=s.arc
 a2:s.arc<=S.N
 un:s.w s.arc=false
 win:∀ y,s.w y=true->1<=y/\y<=S.N
 dec:∀ z,s.w z=true->s.ways (S.cr z)≠0
 fwd:∀ z,s.w z=true->s.w (nxW S s.ways z)=true∨nxW S s.ways z=s.arc
 prd:∀ y,s.w y=true∨y=s.arc->y≠st->∃ z,s.w z=true/\nxW S s.ways z=y
structure Fin (S:Sys) (w:Nat->Bool) (ways:Nat->Nat):Prop where
 win:∀ y,w y=true->1<=y/\y<=S.N
 dec:∀ z,w z=true->ways (S.cr z)≠0
 fwd:∀ z,w z=true->w (nxW S ways z)=true
 prd:∀ y,w y=true->∃ z,w z=true/\nxW S ways z=y
theorem upd_true {w:Nat->Bool} {a y:Nat} (h:upd w a true y=true):w y=true∨y=a:=by
 by_cases e:y=a
 · exact Or.inr e
 · rw[upd_other _ _ e]at h;exact Or.inl h
theorem upd_in {w:Nat->Bool} {a y:Nat} (h:w y=true):upd w a true y=true:=by
 by_cases e:y=a
 · rw[e];exact upd_same _ _ _
 · rw[upd_other _ _ e];exact h
structure More (S:Sys) (s:Dst) (ways:Nat->Nat):Prop where
 old:∀ z,s.w z=true->ways (S.cr z)=s.ways (S.cr z)
 new:ways (S.cr s.arc)≠0
theorem More.nx {S:Sys} {s:Dst} {ways:Nat->Nat} (h:More S s ways) {z:Nat} (hz:s.w z=true):nxW S ways z=nxW S s.ways z:=by
 unfold nxW
 rw[h.old z hz]
theorem Run.next {S:Sys} (g:Gd S) {s:Dst} {st:Nat} (h:Run S s st) {ways:Nat->Nat} (hm:More S s ways) {r:Nat} (hx:upd s.w s.arc true (nxW S ways s.arc)=false):Run S ⟨nxW S ways s.arc,upd s.w s.arc true,ways,r⟩ st:=by
 obtain⟨x1,x2⟩:=g.cl ways s.arc h.a1 h.a2
 refine⟨x1,x2,hx,fun y hy=>?_,fun z hz=>?_,fun z hz=>?_,fun y hy hne=>?_⟩
 · rcases upd_true hy with e|e
   · exact h.win y e
   · rw[e];exact⟨h.a1,h.a2⟩
 · show ways (S.cr z)≠0
   rcases upd_true hz with e|e
   · rw[hm.old z e];exact h.dec z e
   · rw[e];exact hm.new
 · show upd s.w s.arc true (nxW S ways z)=true∨nxW S ways z=nxW S ways s.arc
   rcases upd_true hz with e|e
   · rw[hm.nx e]
     rcases h.fwd z e with f|f
     · exact Or.inl (upd_in f)
     · exact Or.inl (by rw[f];exact upd_same _ _ _)
   · exact Or.inr (by rw[e])
 · rcases hy with hy|hy
   · have:s.w y=true∨y=s.arc:=upd_true hy
     obtain⟨z,z1,z2⟩:=h.prd y this hne
     exact⟨z,upd_in z1,by show nxW S ways z=y;rw[hm.nx z1];exact z2⟩
   · exact⟨s.arc,upd_same _ _ _,hy.symm⟩
theorem Run.close {S:Sys} (g:Gd S) {s:Dst} {st:Nat} (h:Run S s st) {ways:Nat->Nat} (hm:More S s ways) (hx:upd s.w s.arc true (nxW S ways s.arc)=true):Fin S (upd s.w s.arc true) ways:=by
 have hst:nxW S ways s.arc=st:=by
  refine Decidable.byContradiction fun hne=>?_
  rcases upd_true hx with e|e
  · obtain⟨z,z1,z2⟩:=h.prd _ (Or.inl e) hne
    rw[<-hm.nx z1]at z2
    have:=g.inj ways z s.arc (h.win z z1).1 (h.win z z1).2 h.a1 h.a2 z2
    rw[this,h.un]at z1
    cases z1
  · obtain⟨z,z1,z2⟩:=h.prd _ (Or.inr e) hne
    rw[<-hm.nx z1]at z2
    have:=g.inj ways z s.arc (h.win z z1).1 (h.win z z1).2 h.a1 h.a2 z2
    rw[this,h.un]at z1
    cases z1
 refine⟨fun y hy=>?_,fun z hz=>?_,fun z hz=>?_,fun y hy=>?_⟩
 · rcases upd_true hy with e|e
   · exact h.win y e
   · rw[e];exact⟨h.a1,h.a2⟩
 · rcases upd_true hz with e|e
   · rw[hm.old z e];exact h.dec z e
   · rw[e];exact hm.new
 · rcases upd_true hz with e|e
   · rw[hm.nx e]
     rcases h.fwd z e with f|f
     · exact upd_in f
     · rw[f];exact upd_same _ _ _
   · rw[e];exact hx
 · by_cases hne:y=st
   · exact⟨s.arc,upd_same _ _ _,by rw[hst,hne]⟩
   · obtain⟨z,z1,z2⟩:=h.prd y (upd_true hy) hne
     exact⟨z,upd_in z1,by rw[hm.nx z1];exact z2⟩
theorem lowU_is {N:Nat} {w:Nat->Bool}:1<=lowU N w/\lowU N w<=N+1/\(∀ b,1<=b->b<lowU N w->w b=true)/\(lowU N w<=N->w (lowU N w)=false):=by
 obtain⟨h1,h2,h3,h4⟩:=lowF_is w N 1
 unfold lowU
 exact⟨h1,by omega,h3,fun h=>h4 (by omega)⟩
theorem lowU_eq {N:Nat} {w:Nat->Bool} {x:Nat} (h1:1<=x) (h2:x<=N+1) (h3:∀ b,1<=b->b<x->w b=true) (h4:x<=N->w x=false):lowU N w=x:=by
 obtain⟨l1,l2,l3,l4⟩:=lowU_is (N:=N) (w:=w)
 rcases Nat.lt_trichotomy (lowU N w) x with e|e|e
 · have:=h3 _ l1 e
   rw[l4 (by omega)]at this
   cases this
 · exact e
 · have:=l3 _ h1 e
   rw[h4 (by omega)]at this
   cases this
theorem Fin.start {S:Sys} {w:Nat->Bool} {ways:Nat->Nat} (h:Fin S w ways) {r:Nat} (hx:lowU S.N w<=S.N):Run S ⟨lowU S.N w,w,ways,r⟩ (lowU S.N w):=by
 obtain⟨l1,l2,l3,l4⟩:=lowU_is (N:=S.N) (w:=w)
 refine⟨l1,hx,l4 hx,h.win,h.dec,fun z hz=>Or.inl (h.fwd z hz),fun y hy hne=>?_⟩
 rcases hy with e|e
 · exact h.prd y e
 · exact(hne e).elim
structure Col (S T:Sys) (k:Nat) (φ L ρ:Nat->Nat):Prop where
 g:Gd S
 ex:∀ a,1<=a->a<=S.N->S.cr a≠k->1<=φ a/\φ a<=T.N
 exi:∀ a b,1<=a->a<=S.N->1<=b->b<=S.N->S.cr a≠k->S.cr b≠k->φ a=φ b->a=b
 sur:∀ c,1<=c->c<=T.N->∃ a,1<=a/\a<=S.N/\S.cr a≠k/\φ a=c
 crT:∀ a,1<=a->a<=S.N->S.cr a≠k->T.cr (φ a)=ρ (S.cr a)
 beT:∀ a,1<=a->a<=S.N->S.cr a≠k->T.be (φ a)=S.be a
 ahT:∀ a,1<=a->a<=S.N->S.cr a≠k->T.ah (φ a)=φ (S.ah a)
 sxT:∀ a,1<=a->a<=S.N->S.cr a≠k->T.sx (φ a)=φ (S.sx a)
 nz:∀ a,1<=a->a<=S.N->S.cr a≠k->1<=φ (S.ah a)/\1<=φ (S.sx a)
 plT:∀ a,1<=a->a<=S.N->S.cr a≠k->T.plus (ρ (S.cr a))=S.plus (S.cr a)
 ri:∀ a b,1<=a->a<=S.N->1<=b->b<=S.N->S.cr a≠k->S.cr b≠k->ρ (S.cr a)=ρ (S.cr b)->S.cr a=S.cr b
 pa:∀ p,1<=p->p<=S.N->S.cr p=k->φ (S.sx p)=φ p
 two:∀ p q u,1<=p->p<=S.N->1<=q->q<=S.N->1<=u->u<=S.N->S.cr p=k->S.cr q=k->S.cr u=k->p=q∨q=u∨p=u
 lz:∀ p,1<=p->p<=S.N->S.cr p=k->S.sx p=p∨(S.cr (S.sx p)=k/\S.sx (S.sx p)=p)->φ p=0
 l1:∀ p,1<=p->p<=S.N->S.cr p=k->S.sx p=p->L p=p
 lo:∀ a,1<=a->a<=S.N->1<=L a/\L a<=a/\φ (L a)=φ a
 ord:∀ a b,1<=a->a<=S.N->1<=b->b<=S.N->1<=φ a->φ a<φ b->L a<L b
 lp:∀ p,1<=p->p<=S.N->S.cr p=k->L (S.sx p)=L p
 leq:∀ a b,1<=a->a<=S.N->1<=b->b<=S.N->1<=φ a->φ a=φ b->L a=L b
theorem nx_pass {S:Sys} {k:Nat} {ways:Nat->Nat} (hk:ways k=2) {p:Nat} (hp:S.cr p=k):nxW S ways p=S.sx p:=by unfold nxW;rw[hp,if_pos hk]
section
variable {S T:Sys} {k:Nat} {φ L ρ:Nat->Nat} (h:Col S T k φ L ρ)
include h
theorem Col.sx_in {p:Nat} (h1:1<=p) (h2:p<=S.N):1<=S.sx p/\S.sx p<=S.N:=by
 have:=h.g.cl (fun _=>2) p h1 h2
 unfold nxW at this
 rwa [if_pos rfl]at this
theorem Col.sx_inj {p q:Nat} (h1:1<=p) (h2:p<=S.N) (q1:1<=q) (q2:q<=S.N) (e:S.sx p=S.sx q):p=q:=by
 refine h.g.inj (fun _=>2) p q h1 h2 q1 q2 ?_
 unfold nxW
 rw[if_pos rfl,if_pos rfl,e]
theorem Col.out {p:Nat} (h1:1<=p) (h2:p<=S.N) (hp:S.cr p=k):S.cr (S.sx p)≠k∨(S.cr (S.sx p)=k/\S.sx p≠p/\S.cr (S.sx (S.sx p))≠k)∨(S.sx p=p)∨(S.cr (S.sx p)=k/\S.sx p≠p/\S.sx (S.sx p)=p):=by
 obtain⟨q1,q2⟩:=h.sx_in h1 h2
 obtain⟨u1,u2⟩:=h.sx_in q1 q2
 by_cases hq:S.cr (S.sx p)=k
 · by_cases e:S.sx p=p
   · exact Or.inr (Or.inr (Or.inl e))
   · by_cases hu:S.cr (S.sx (S.sx p))=k
     · rcases h.two p (S.sx p) (S.sx (S.sx p)) h1 h2 q1 q2 u1 u2 hp hq hu with f|f|f
       · exact(e f.symm).elim
       · exact(e (h.sx_inj q1 q2 h1 h2 f.symm)).elim
       · exact Or.inr (Or.inr (Or.inr ⟨hq,e,f.symm⟩))
     · exact Or.inr (Or.inl ⟨hq,e,hu⟩)
 · exact Or.inl hq
end
end Go.Proofs.Ytefooihnoajnlaa

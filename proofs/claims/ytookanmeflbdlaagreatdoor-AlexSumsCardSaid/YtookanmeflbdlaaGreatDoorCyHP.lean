/- Several texts of the proof, one behind the other. -/
import Derived.Test.YtookanmeflbdlaaGreatDoorF2P
import Derived.Test.YtookanmeflbdlaaGreatDoorPMathP
/- Plain mathematics: Euler's number of a piece: the crossings as rings, and the end. -/
namespace Go.Proofs.YtookanmeflbdlaaGreatDoor
theorem JB3 {C:List Cr} {loops:Int} (hm:QQ6 C loops=true) {k s t:Nat} (hk:k<C.length) (hs:s<4) (ht:t<4) (e:pd C (4*k+s)=pd C (4*k+t)):s=t:=by
 have h1:=(QF9 hm k s hk hs).2.2.1
 have h2:=(QF9 hm k t hk ht).2.2.1
 rw[e]at h1
 omega
theorem XC3 {C:List Cr} {loops:Int} (hm:QQ6 C loops=true) {k:Nat} (hk:k<C.length):∃ s0,s0<4/\∀ s,s<4->(cyW (gI C 0) (4*C.length+1)).getD (pd C (4*k+s)) 0=pd C (4*k+s0):=by
 have hB:=Kx5 hm 0 (Nat.zero_le _)
 have hW:=QB7 hB.lt
 have hg:∀ s,s<4->gI C 0 (pd C (4*k+s))=pd C (4*k+(s+3)%4):=fun s hs=>by
  obtain⟨-,-,-,h3,h4⟩:=QF9 hm k s hk hs
  rw[Zv0 h3,Xq5 hm k s hk hs]
 have hlt:∀ s,s<4->pd C (4*k+s)<4*C.length+1:=fun s hs=>by have:=(QF9 hm k s hk hs).2.2.2.2;omega
 have hcl:Closed (eds (gI C 0) (4*C.length+1)) fun z=>∃ s,s<4/\z=pd C (4*k+s):=closed_eds.2 fun z hz=>by
  constructor
  · rintro⟨s,hs,rfl⟩
    exact⟨(s+3)%4,Nat.mod_lt _ (by decide),hg s hs⟩
  · rintro⟨s,hs,e⟩
    have h:=hg ((s+1)%4) (Nat.mod_lt _ (by decide))
    rw[show((s+1)%4+3)%4=s by omega,<-e]at h
    exact⟨(s+1)%4,Nat.mod_lt _ (by decide),(hB.inj _ _ (hlt _ (Nat.mod_lt _ (by decide))) hz h).symm⟩
 have c1:∀ s,s<4->Con (eds (gI C 0) (4*C.length+1)) (pd C (4*k+s)) (pd C (4*k+(s+3)%4)):=fun s hs=>by
  rw[<-hg s hs]
  exact XD4 (hlt s hs)
 have c0:∀ s,s<4->Con (eds (gI C 0) (4*C.length+1)) (pd C (4*k+0)) (pd C (4*k+s)):=fun s hs=>by
  have d0:=c1 0 (by decide)
  have d3:=c1 3 (by decide)
  have d2:=c1 2 (by decide)
  match s,hs with
  |0,_=>exact Con.refl _ _
  |3,_=>exact d0
  |2,_=>exact d0.trans d3
  |1,_=>exact d0.trans (d3.trans d2)
 obtain⟨s0,hs0,e0⟩:=(hW.2 _ (hlt 0 (by decide))).1 _ hcl ⟨0,by decide,rfl⟩
 refine⟨s0,hs0,fun s hs=>?_⟩
 rw[<-e0]
 exact(hW.same (hlt s hs) (hlt 0 (by decide))).2 (c0 s hs).symm
theorem Zq0 {C:List Cr} {loops:Int} (hm:QQ6 C loops=true) (p:Nat) {k s:Nat} (hk:k<C.length) (hs:s<4):qD C p (pd C (4*k+s))=qC C p k:=by
 obtain⟨-,h1,-,h3,-⟩:=QF9 hm k s hk hs
 unfold qD qC
 rw[h1,decide_eq_true h3,Bool.true_and]
theorem ZH8 {C:List Cr} {loops:Int} (hm:QQ6 C loops=true) (p:Nat):cyN (gI C 0) (4*C.length+1) (qD C p)=(List.range C.length).countP (qC C p):=by
 unfold cyN
 rw[XD2,Xj5 hm (P:=fun v=>decide ((cyW (gI C 0) (4*C.length+1)).getD v 0=v)&&qD C p v) (Qc:=qC C p) (c:=1) (by simp[qD]) ?_,Nat.one_mul]
 intro k hk
 obtain⟨s0,hs0,h⟩:=XC3 hm hk
 have key:∀ s,s<4->(decide ((cyW (gI C 0) (4*C.length+1)).getD (pd C (4*k+s)) 0=pd C (4*k+s))&&qD C p (pd C (4*k+s)))=(decide (s0=s)&&qC C p k):=fun s hs=>by
  rw[h s hs,Zq0 hm p hk hs]
  congr 1
  by_cases e:s0=s
  · rw[e];simp
  · rw[decide_eq_false e,decide_eq_false fun q=>e (JB3 hm hk hs0 hs q)]
 have k0:(decide ((cyW (gI C 0) (4*C.length+1)).getD (pd C (4*k)) 0=pd C (4*k))&&qD C p (pd C (4*k)))=(decide (s0=0)&&qC C p k):=key 0 (by decide)
 simp only[k0,key 1 (by decide),key 2 (by decide),key 3 (by decide)]
 cases qC C p k with
 |false=>simp
 |true=>
  match s0,hs0 with
  |0,_=>rfl
  |1,_=>rfl
  |2,_=>rfl
  |3,_=>rfl
theorem Kf6 {h Q:Nat->Bool} (m:Nat) (e:∀ t,t<m->h (2*t)=Q t/\h (2*t+1)=Q t):(List.range (2*m)).countP h=2*(List.range m).countP Q:=by
 induction m with
 |zero=>rfl
 |succ m ih=>
  have e1:=e m (by omega)
  have e2:=ih fun t ht=>e t (by omega)
  rw[show 2*(m+1)=2*m+1+1 by omega]
  simp only[List.range_succ,List.countP_append,List.countP_singleton]
  rw[e2,e1.1,e1.2]
  omega
theorem ZH9 {C:List Cr} {loops:Int} (hm:QQ6 C loops=true) (p:Nat):(List.range (2*C.length)).countP (fun t=>qD C p (2*t+1))=2*(List.range C.length).countP (qC C p):=by
 have hW:=QK3 hm
 have h4 := Xj5 hm (P := qD C p) (Qc := qC C p) (c := 4) (by simp [qD]) (fun k hk => by
  have k0:qD C p (pd C (4*k))=qC C p k:=Zq0 hm p (s:=0) hk (by decide)
  rw[k0,Zq0 hm p (s:=1) hk (by decide),Zq0 hm p (s:=2) hk (by decide),Zq0 hm p (s:=3) hk (by decide)]
  cases qC C p k<;>rfl)
 rw[Xd5 _ _ (by simp[qD]),show 4*C.length=2*(2*C.length) by omega,Kf6 (h:=fun i=>qD C p (i+1)) (Q:=fun t=>qD C p (2*t+1)) (2*C.length) (fun t ht=>⟨rfl,?_⟩)]at h4
 · omega
 · obtain⟨v1,v2⟩:=Zx1 C t
   obtain⟨e1,e2⟩:=ZZ3 hm t ht
   have hedge:Con (QV5 C) (arE C t).1 (arE C t).2:=Con.edge (List.mem_map.2 ⟨t,List.mem_range.2 ht,rfl⟩)
   show qD C p (2*t+1+1)=qD C p (2*t+1)
   unfold qD
   rw[show 2*t+1+1=2*t+2 by omega,v1,v2,(hW.same e1 e2).2 hedge,decide_eq_true (show 1<=2*t+1 by omega),decide_eq_true (show 1<=2*t+2 by omega)]
theorem Zf7 {C:List Cr} {loops:Int} (hm:QQ6 C loops=true) {p:Nat} (hp:p<C.length) (hr:(QW6 C).getD p 0=p):rq (cls (arE C) (fun _=>true) C.length (2*C.length)) (qC C p) C.length=1:=by
 have hW:=QK3 hm
 have hL:=QW9 (E:=arE C) (K:=fun _=>true) (n:=C.length) (m:=2*C.length) fun t ht=>ZZ3 hm t ht
 rw[ZW2]at hL
 have e:cls (arE C) (fun _=>true) C.length (2*C.length)=QW6 C:=hL.eq hW
 rw[e,XD2]
 have h1:(List.range C.length).count p=1:=by
  rw[List.Nodup.count List.nodup_range,if_pos (List.mem_range.2 hp)]
 rw[<-h1]
 unfold List.count
 refine List.countP_congr fun v _=>?_
 unfold qC
 simp only[Bool.and_eq_true,decide_eq_true_eq,beq_iff_eq]
 constructor
 · rintro⟨a,b⟩;omega
 · intro a
   rw[a]
   exact⟨hr,hr⟩
theorem XJ6 {C:List Cr} {loops:Int} (hm:QQ6 C loops=true) (p:Nat):(QX9 C).countP (fun g=>decide ((QW6 C).getD g 0=p))=cyN (up0 (fd C)) (4*C.length+1) (qD C p):=by
 have hW:=QK3 hm
 rw[<-Zu2 (QZ9 hm) (fun a b h1 h2 h3 h4 e=>Qj5 hm a b h1 h2 h3 h4 e) (qD C p) (by simp[qD])]
 unfold QX9
 rw[List.countP_map]
 refine List.countP_congr fun l hl=>?_
 have hb:=(XJ5 (QZ9 hm) (fun a b h1 h2 h3 h4 e=>Qj5 hm a b h1 h2 h3 h4 e) (4*C.length) (Nat.le_refl _)).1 l hl
 show decide ((QW6 C).getD (dC C (l.getD 0 0)) 0=p)=true↔qD C p (l.getD 0 0)=true
 unfold qD
 rw[(hW.same (Qu6 hm hb.1 hb.2) (XW0 hm _ hb.1 hb.2).2.1).2 (KK8 hb.1 hb.2),decide_eq_true hb.1,Bool.true_and]
theorem XJ8 {C:List Cr} {loops:Int} (hm:QQ6 C loops=true) {p:Nat} (hp:p<C.length) (hr:(QW6 C).getD p 0=p):exN C.length (QX9 C) (QW6 C) p<=2/\exN C.length (QX9 C) (QW6 C) p%2=0:=by
 obtain⟨h1,h2⟩:=Xh4 hm p (ZH8 hm p) (2*C.length) (Nat.le_refl _)
 rw[Zf7 hm hp hr,ZH9 hm p,Qq5 (fun x hx=>Kb9 hx),<-XJ6 hm p] at*
 have e:exN C.length (QX9 C) (QW6 C) p=(((QX9 C).countP (fun g=>decide ((QW6 C).getD g 0=p)):Nat):Int)-(((List.range C.length).countP (qC C p):Nat):Int):=rfl
 rw[e]
 omega
end Go.Proofs.YtookanmeflbdlaaGreatDoor
/- Plain mathematics: planar, told by all rings and all pieces at once. -/
namespace Go.Proofs.YtookanmeflbdlaaGreatDoor
def sN (h:Nat->Nat):Nat->Nat
 |0=>0
 |n+1=>sN h n+h n
theorem KW0 {a b:Nat->Nat} {n:Nat} (e:∀ p,p<n->a p=b p):sN a n=sN b n:=by
 induction n with
 |zero=>rfl
 |succ n ih=>show sN a n+a n=sN b n+b n;rw[ih fun p hp=>e p (by omega),e n (by omega)]
theorem Kk9 {a b:Nat->Nat} {n:Nat} (e:∀ p,p<n->a p<=b p):sN a n<=sN b n:=by
 induction n with
 |zero=>exact Nat.le_refl _
 |succ n ih=>have:=ih fun p hp=>e p (by omega);have:=e n (by omega);show sN a n+a n<=sN b n+b n;omega
theorem JB0 {a b:Nat->Nat} {n:Nat} (e:∀ p,p<n->a p<=b p) (h:sN b n<=sN a n):∀ p,p<n->a p=b p:=by
 induction n with
 |zero=>intro p hp;omega
 |succ n ih=>
  have h1:=Kk9 (n:=n) fun p hp=>e p (by omega)
  have h2:=e n (by omega)
  have h3:sN b n+b n<=sN a n+a n:=h
  intro p hp
  by_cases q:p=n
  · rw[q];omega
  · exact ih (fun p hp=>e p (by omega)) (by omega) p (by omega)
theorem KC5 (a b:Nat->Nat) (n:Nat):sN (fun p=>a p+b p) n=sN a n+sN b n:=by
 induction n with
 |zero=>rfl
 |succ n ih=>show sN (fun p=>a p+b p) n+(a n+b n)=sN a n+a n+(sN b n+b n);omega
theorem Zk4 {a:Nat->Nat} {n:Nat} (h:∀ p,p<n->a p=0):sN a n=0:=by
 induction n with
 |zero=>rfl
 |succ n ih=>show sN a n+a n=0;rw[ih fun p hp=>h p (by omega),h n (by omega)]
theorem Ku0 {n q:Nat} (hq:q<n):sN (fun p=>if q=p then 1 else 0) n=1:=by
 induction n with
 |zero=>omega
 |succ n ih=>
  show sN (fun p=>if q=p then 1 else 0) n+(if q=n then 1 else 0)=1
  by_cases e:q=n
  · rw[if_pos e,Zk4 fun p hp=>if_neg (by omega)]
  · rw[if_neg e,ih (by omega)]
theorem Zz8 (W:Nat->Nat) (n:Nat):∀ G:List Nat,(∀ g,g∈G->W g<n)->sN (fun p=>G.countP fun g=>decide (W g=p)) n=G.length:=by
 intro G
 induction G with
 |nil=>intro _;exact Zk4 fun _ _=>rfl
 |cons g G ih=>
  intro h
  have e:sN (fun p=>(g::G).countP fun g=>decide (W g=p)) n=sN (fun p=>(G.countP fun g=>decide (W g=p))+if W g=p then 1 else 0) n:=KW0 fun p _=>by
   rw[List.countP_cons]
   by_cases q:W g=p
   · rw[if_pos (decide_eq_true q),if_pos q]
   · rw[if_neg (by simpa using q),if_neg q]
  rw[e,KC5,ih fun x hx=>h x (List.mem_cons_of_mem _ hx),Ku0 (h g (List.mem_cons_self ..))]
  rfl
theorem JK0 (P:Nat->Bool) (n:Nat):sN (fun p=>if P p=true then 2 else 0) n=2*(List.range n).countP P:=by
 induction n with
 |zero=>rfl
 |succ n ih=>
  show sN (fun p=>if P p=true then 2 else 0) n+(if P n=true then 2 else 0)=_
  rw[ih,List.range_succ,List.countP_append,List.countP_singleton]
  split<;>omega
def pcN (C:List Cr):Nat:=kN (QV5 C) C.length
theorem JK7 (C:List Cr):pcN C=(List.range C.length).countP fun p=>decide ((QW6 C).getD p 0=p):=by
 unfold pcN kN
 rw[XD2]
 refine List.countP_congr fun v _=>?_
 rw[Bool.and_true]
 rfl
theorem ZF3 {C:List Cr} {loops:Int} (hm:QQ6 C loops=true):(QQ3 C).length<=C.length+2*pcN C/\(QX6 C=true↔C.length+2*pcN C<=(QQ3 C).length):=by
 have hW:=QK3 hm
 have s1:=Zz8 (fun g=>(QW6 C).getD g 0) C.length (QX9 C) fun g hg=>hW.lt (Qw8 hm g hg)
 have s2:=Zz8 (fun g=>(QW6 C).getD g 0) C.length (List.range C.length) fun g hg=>hW.lt (List.mem_range.1 hg)
 have s3:=JK0 (fun p=>decide ((QW6 C).getD p 0=p)) C.length
 rw[QB3]at s1
 rw[List.length_range]at s2
 rw[<-JK7]at s3
 have s4:=KC5 (fun p=>(List.range C.length).countP fun g=>decide ((QW6 C).getD g 0=p)) (fun p=>if decide ((QW6 C).getD p 0=p)=true then 2 else 0) C.length
 rw[s2,s3]at s4
 have hle:∀ p,p<C.length->((QX9 C).countP fun g=>decide ((QW6 C).getD g 0=p))<=((List.range C.length).countP fun g=>decide ((QW6 C).getD g 0=p))+if decide ((QW6 C).getD p 0=p)=true then 2 else 0:=fun p hp=>by
  by_cases hr:(QW6 C).getD p 0=p
  · have:=(XJ8 hm hp hr).1
    unfold exN at this
    rw[if_pos (decide_eq_true hr)]
    omega
  · have h0 : ((QX9 C).countP fun g => decide ((QW6 C).getD g 0 = p)) = 0 := List.countP_eq_zero.2 fun g hg q => hr (by
      have q:=of_decide_eq_true q
      have hg:=Qw8 hm g hg
      have:=(hW.same (hW.lt hg) hg).2 (hW.2 g hg).1.symm
      rw[q]at this
      exact this)
    rw[h0]
    exact Nat.zero_le _
 have hsum:=Kk9 hle
 rw[s1,s4]at hsum
 refine⟨hsum,?_⟩
 rw[QD0]
 constructor
 · intro h
   rw[<-s1,<-s4]
   refine Kk9 fun p hp=>?_
   by_cases hr:(QW6 C).getD p 0=p
   · have:=h p hp hr
     unfold exN at this
     rw[if_pos (decide_eq_true hr)]
     omega
   · rw[if_neg (by simpa using hr)]
     have h0 : ((List.range C.length).countP fun g => decide ((QW6 C).getD g 0 = p)) = 0 := List.countP_eq_zero.2 fun g hg q => hr (by
      have q:=of_decide_eq_true q
      have hg:=List.mem_range.1 hg
      have:=(hW.same (hW.lt hg) hg).2 (hW.2 g hg).1.symm
      rw[q]at this
      exact this)
     rw[h0]
     exact Nat.zero_le _
 · intro h p hp hr
   rw[<-s1,<-s4]at h
   have:=JB0 hle h p hp
   rw[if_pos (decide_eq_true hr)]at this
   unfold exN
   omega
theorem JJ3 {E F:List (Nat×Nat)} {M n:Nat} (hE:∀ e,e∈E->e.1<M/\e.2<M) (hF:∀ e,e∈F->e.1<n/\e.2<n) (m:Nat->Nat) (hl:∀ v,v<n->m v<M) (h:∀ u v,u<n->v<n->Con E (m u) (m v)->Con F u v):kN F n<=kN E M:=by
 have lE:=QU6 hE M (Nat.le_refl _)
 have lF:=QU6 hF n (Nat.le_refl _)
 unfold kN
 rw[XD2,XD2,List.countP_eq_length_filter,List.countP_eq_length_filter,<-List.length_map (f:=fun v=>(Qu3 (List.range M) E M).getD (m v) 0)]
 have hnd:(((List.range n).filter fun v=>decide ((Qu3 (List.range n) F n).getD v 0=v)&&true).map fun v=>(Qu3 (List.range M) E M).getD (m v) 0).Nodup:=by
  unfold List.Nodup
  rw[List.pairwise_map]
  refine List.Pairwise.imp_of_mem ?_ (List.Pairwise.filter _ List.nodup_range)
  intro u v hu hv huv e
  obtain⟨hu,ru⟩:=List.mem_filter.1 hu
  obtain⟨hv,rv⟩:=List.mem_filter.1 hv
  have hu:=List.mem_range.1 hu
  have hv:=List.mem_range.1 hv
  rw[Bool.and_true,decide_eq_true_eq]at ru rv
  have c:=h u v hu hv ((lE.same (hl u hu) (hl v hv)).1 e)
  have:=(lF.same hu hv).2 c
  rw[ru,rv]at this
  exact huv this
 refine hnd.length_le_of_subset fun x hx=>?_
 obtain⟨v,hv,rfl⟩:=List.mem_map.1 hx
 have hv:=List.mem_range.1 (List.mem_filter.1 hv).1
 refine List.mem_filter.2 ⟨List.mem_range.2 (lE.lt (hl v hv)),?_⟩
 rw[Bool.and_true,decide_eq_true_eq]
 exact(lE.same (lE.lt (hl v hv)) (hl v hv)).2 (lE.2 _ (hl v hv)).1.symm
end Go.Proofs.YtookanmeflbdlaaGreatDoor
/- Alexander's numbering: the faces of a planar diagram have numbers, one more on one side of an arc than on the other. -/
namespace Go.Proofs.YtookanmeflbdlaaGreatDoor
theorem XC1 {C:List Cr} {loops:Int} (hm:QQ6 C loops=true) {k0 k:Nat} (hk0:k0<C.length) (hk:k<C.length) (hc:Con (QV5 C) k0 k) (s0 s:Nat) (hs0:s0<4) (hs:s<4):Con (Qk3 (dfE C) (fun _=>true) (2*C.length)) (cor C k0 s0) (cor C k s):=by
 intro T hT h0
 have hedge:∀ a,1<=a->a<=2*C.length->∀ p q,T (fo C (mkD a p))->T (fo C (mkD a q)):=fun a ha1 ha2 p q=>by
  have he:=hT _ (incl_mem.2 ⟨a-1,by omega,rfl,rfl⟩:dfE C (a-1)∈_)
  unfold dfE at he
  rw[show a-1+1=a by omega]at he
  cases p<;>cases q<;>simp only at he ⊢
  · exact id
  · exact he.2
  · exact he.1
  · exact id
 have hturn:∀ k s,k<C.length->s<4->(T (cor C k s)↔T (cor C k ((s+3)%4))):=fun k s hk hs=>by
  have h:=QZ8 hm k s hk hs
  rw[<-QD8 hm k s hk hs]
  unfold cor
  exact⟨hedge _ h.2.2.1 h.2.2.2 _ _,hedge _ h.2.2.1 h.2.2.2 _ _⟩
 have hall:∀ k,k<C.length->(∀ s,s<4->(T (cor C k s)↔T (cor C k 0))):=fun k hk s hs=>by
  have t1:=hturn k 1 hk (by omega)
  have t2:=hturn k 2 hk (by omega)
  have t3:=hturn k 3 hk (by omega)
  simp only[Nat.reduceAdd,Nat.reduceMod]at t1 t2 t3
  have:s=0∨s=1∨s=2∨s=3:=by omega
  rcases this with rfl|rfl|rfl|rfl
  · exact Iff.rfl
  · exact t1
  · exact t2.trans t1
  · exact t3.trans (t2.trans t1)
 have key : (fun c => c < C.length → T (cor C c 0)) k := hc (fun c => c < C.length → T (cor C c 0)) (fun e he => by
  obtain⟨i,hi,rfl⟩:=List.mem_map.1 he
  have hi2:=List.mem_range.1 hi
  have u:=QV3 hm (i+1) true (by omega) (by omega)
  have v:=QV3 hm (i+1) false (by omega) (by omega)
  have eu:fo C (mkD (i+1) true)=cor C (enC C (i+1) true) (enS C (i+1) true):=by
   unfold cor aAt
   rw[u.2.2.2.1,u.2.2.2.2]
   rfl
  have ev:fo C (mkD (i+1) false)=cor C (enC C (i+1) false) (enS C (i+1) false):=by
   unfold cor aAt
   rw[v.2.2.2.1,v.2.2.2.2]
   rfl
  have iu:=hall _ u.2.1 _ u.2.2.1
  have iv:=hall _ v.2.1 _ v.2.2.1
  rw[<-eu]at iu
  rw[<-ev]at iv
  have hx:=hedge (i+1) (by omega) (by omega)
  constructor
  · intro q _
    exact iv.1 (hx true false (iu.2 (q u.2.1)))
  · intro q _
    exact iu.1 (hx false true (iv.2 (q v.2.1)))) (fun _=>(hall k0 hk0 s0 hs0).1 h0)
 exact(hall k hk s hs).2 (key hk)
theorem JQ2 {E:Nat->Nat×Nat} {n m:Nat} (hE:∀ i,i<m->(E i).1<n/\(E i).2<n):rt (cls E (fun _=>true) n m) n=kN (Qk3 E (fun _=>true) m) n:=by
 have hL:=QW9 (E:=E) (K:=fun _=>true) (n:=n) (m:=m) hE
 have hi:∀ e,e∈Qk3 E (fun _=>true) m->e.1<n/\e.2<n:=fun e he=>by
  obtain⟨i,h1,-,rfl⟩:=incl_mem.1 he
  exact hE i h1
 have e:cls E (fun _=>true) n m=Qu3 (List.range n) (Qk3 E (fun _=>true) m) n:=hL.eq (QU6 hi _ (Nat.le_refl _))
 unfold kN
 rw[<-e]
 generalize cls E (fun _=>true) n m=W
 have:∀ k,rt W k=rq W (fun _=>true) k:=fun k=>by
  induction k with
  |zero=>rfl
  |succ k ih=>simp only[rt,rq,ih,and_true]
 exact this n
theorem Xv9 {C : List Cr} {loops : Int} (hm : QQ6 C loops = true) (hp : QX6 C = true) (A : Nat → Bool)
    (hA:∀ k,k<C.length->xor (xor (A (aAt C k 0)) (A (aAt C k 1))) (xor (A (aAt C k 2)) (A (aAt C k 3)))=false):∃ g:Nat->Bool,∀ a,1<=a->a<=2*C.length->A a=sides C g a:=by
 have hE:∀ i,i<2*C.length->(arE C i).1<C.length/\(arE C i).2<C.length:=fun i hi=>⟨(QV3 hm (i+1) true (by omega) (by omega)).2.1,(QV3 hm (i+1) false (by omega) (by omega)).2.1⟩
 have hD:∀ i,i<2*C.length->(dfE C i).1<(QQ3 C).length/\(dfE C i).2<(QQ3 C).length:=fun i hi=>by
  have u:=QC2 (a:=i+1) (p:=true) (n:=C.length) (by omega) (by omega)
  have v:=QC2 (a:=i+1) (p:=false) (n:=C.length) (by omega) (by omega)
  exact⟨Xq3 _ u.1 u.2,Xq3 _ v.1 v.2⟩
 have hF:=(ZF3 hm).2.1 hp
 have ea:Qk3 (arE C) (fun _=>true) (2*C.length)=QV5 C:=ZW2
 have r1:rt (cls (arE C) (fun _=>true) C.length (2*C.length)) C.length=pcN C:=by
  rw[JQ2 hE,ea];rfl
 have r2:rt (cls (dfE C) (fun _=>true) (QQ3 C).length (2*C.length)) (QQ3 C).length<=pcN C:=by
  rw[JQ2 hD]
  have hf:∀ u,∃ k s,u<(QQ3 C).length->k<C.length/\s<4/\u=cor C k s:=fun u=>by
   by_cases hu:u<(QQ3 C).length
   · obtain⟨k,s,hk,hs,e⟩:=XH1 hm u hu
     exact⟨k,s,fun _=>⟨hk,hs,e⟩⟩
   · exact⟨0,0,fun h=>absurd h hu⟩
  refine JJ3 (fun e he => by
      obtain⟨i,hi,rfl⟩:=List.mem_map.1 he
      exact hE i (List.mem_range.1 hi)) (fun e he=>by
      obtain⟨i,h1,-,rfl⟩:=incl_mem.1 he
      exact hD i h1) (fun u=>Classical.choose (hf u)) (fun v hv=>?_) (fun u v hu hv hc=>?_)
  · obtain⟨s,h⟩:=Classical.choose_spec (hf v)
    exact(h hv).1
  · obtain⟨s,h⟩:=Classical.choose_spec (hf u)
    obtain⟨s',h'⟩:=Classical.choose_spec (hf v)
    obtain⟨a1,a2,a3⟩:=h hu
    obtain⟨b1,b2,b3⟩:=h' hv
    have:=XC1 hm a1 b1 hc s s' a2 b2
    rw[<-a3,<-b3]at this
    exact this
 obtain ⟨g, hg⟩ := Xf6 hE hD (fun S g => ZA3 hm S g) (by omega) (fun i => A (i + 1)) (fun S => by
  refine Eq.trans (QH7 fun i _=>Bool.and_comm _ _) ((ZZ6 hm S A).trans (Qh8 fun k hk=>?_))
  rw[hA k hk,Bool.and_false])
 refine⟨g,fun a ha1 ha2=>?_⟩
 have:=hg (a-1) (by omega)
 rw[show a-1+1=a by omega]at this
 rw[this]
 unfold sides dfE
 rw[show a-1+1=a by omega]
def Kg9 (C:List Cr) (k:Nat):Nat×Nat:=(aAt C k 0,if(C.getD k Cr.none).plus=true then aAt C k 1 else aAt C k 3)
def Kg8 (C:List Cr) (k:Nat):Nat×Nat:=(aAt C k 2,if(C.getD k Cr.none).plus=true then aAt C k 3 else aAt C k 1)
def sfL (C:List Cr):List (Nat×Nat):=(List.range C.length).map (Kg9 C)++(List.range C.length).map (Kg8 C)
theorem KQ9 {C:List Cr} {loops:Int} (hm:QQ6 C loops=true) (hp:QX6 C=true):∃ f:Nat->Int,(∀ a,1<=a->a<=2*C.length->f (fo C (mkD a false))=f (fo C (mkD a true))+1)/\∀ x,-(2*C.length+1:Nat)<=f x/\f x<=(2*C.length+1:Nat):=by
 have hE:∀ e,e∈sfL C->e.1<2*C.length+1/\e.2<2*C.length+1:=fun e he=>by
  have r:∀ k s,k<C.length->s<4->aAt C k s<2*C.length+1:=fun k s hk hs=>by have:=QZ8 hm k s hk hs;omega
  rcases List.mem_append.1 he with h|h
  · obtain⟨k,hk,rfl⟩:=List.mem_map.1 h
    have hk:=List.mem_range.1 hk
    unfold Kg9
    refine⟨r k 0 hk (by omega),?_⟩
    simp only
    split
    · exact r k 1 hk (by omega)
    · exact r k 3 hk (by omega)
  · obtain⟨k,hk,rfl⟩:=List.mem_map.1 h
    have hk:=List.mem_range.1 hk
    unfold Kg8
    refine⟨r k 2 hk (by omega),?_⟩
    simp only
    split
    · exact r k 3 hk (by omega)
    · exact r k 1 hk (by omega)
 have hL:Least (sfL C) (2*C.length+1) (Qu3 (List.range (2*C.length+1)) (sfL C) (2*C.length+1)):=QU6 hE _ (Nat.le_refl _)
 generalize Qu3 (List.range (2*C.length+1)) (sfL C) (2*C.length+1)=W at hL
 have hsame:∀ e,e∈sfL C->W.getD e.1 0=W.getD e.2 0:=fun e he=>(hL.same (hE e he).1 (hE e he).2).2 (Con.edge (by cases e;exact he))
 have m1:∀ k,k<C.length->Kg9 C k∈sfL C:=fun k hk=>List.mem_append_left _ (List.mem_map.2 ⟨k,List.mem_range.2 hk,rfl⟩)
 have m2:∀ k,k<C.length->Kg8 C k∈sfL C:=fun k hk=>List.mem_append_right _ (List.mem_map.2 ⟨k,List.mem_range.2 hk,rfl⟩)
 have hg:∀ c,∃ g:Nat->Bool,∀ a,1<=a->a<=2*C.length->decide (W.getD a 0=c)=sides C g a:=fun c=>Xv9 hm hp (fun a=>decide (W.getD a 0=c)) fun k hk=>by
  have e1:=hsame _ (m1 k hk)
  have e2:=hsame _ (m2 k hk)
  unfold Kg9 at e1
  unfold Kg8 at e2
  simp only at e1 e2 ⊢
  cases hpl:(C.getD k Cr.none).plus
  · rw[hpl]at e1 e2
    simp only[Bool.false_eq_true,if_false]at e1 e2
    rw[e1,e2]
    cases decide (W.getD (aAt C k 3) 0=c)<;>cases decide (W.getD (aAt C k 1) 0=c)<;>rfl
  · rw[hpl]at e1 e2
    simp only[if_true]at e1 e2
    rw[e1,e2]
    cases decide (W.getD (aAt C k 1) 0=c)<;>cases decide (W.getD (aAt C k 3) 0=c)<;>rfl
 let G:Nat->Nat->Bool:=fun c=>Classical.choose (hg c)
 have hG:∀ c a,1<=a->a<=2*C.length->decide (W.getD a 0=c)=sides C (G c) a:=fun c=>Classical.choose_spec (hg c)
 -- along a circle the side is the same
 have along:∀ c a b,Con (sfL C) a b->1<=a->a<=2*C.length->1<=b->b<=2*C.length->W.getD a 0=c->W.getD b 0=c->(G c (fo C (mkD a false))=true↔G c (fo C (mkD b false))=true):=fun c a b hc ha1 ha2 hb1 hb2 wa wb=>by
  have closed:Closed (sfL C) (fun z=>W.getD z 0=c/\G c (fo C (mkD z false))=true):=fun e he=>by
   have hw:=hsame e he
   have key:W.getD e.1 0=c->(G c (fo C (mkD e.1 false))=true↔G c (fo C (mkD e.2 false))=true):=fun hw1=>by
    have hw2:W.getD e.2 0=c:=by rw[<-hw];exact hw1
    have flip:∀ z,1<=z->z<=2*C.length->W.getD z 0=c->(G c (fo C (mkD z false))=!G c (fo C (mkD z true))):=fun z h1 h2 h3=>by
     have:=hG c z h1 h2
     rw[decide_eq_true h3]at this
     unfold sides at this
     cases q1:G c (fo C (mkD z true))<;>cases q2:G c (fo C (mkD z false))<;>rw[q1,q2]at this<;>simp at this ⊢
    have two:∀ k s t,k<C.length->s<4->t<4->e=(aAt C k s,aAt C k t)->(fo C (mkD (aAt C k s) false)=fo C (mkD (aAt C k t) false)∨fo C (mkD (aAt C k s) true)=fo C (mkD (aAt C k t) true))->(G c (fo C (mkD e.1 false))=true↔G c (fo C (mkD e.2 false))=true):=fun k s t hk hs ht ee hor=>by
     have r1:=QZ8 hm k s hk hs
     have r2:=QZ8 hm k t hk ht
     rw[ee]at hw1 hw2 ⊢
     simp only at hw1 hw2 ⊢
     rcases hor with h|h
     · rw[h]
     · rw[flip _ r1.2.2.1 r1.2.2.2 hw1,flip _ r2.2.2.1 r2.2.2.2 hw2,h]
    have oF:∀ k s,k<C.length->s<4->(C.getD k Cr.none).comes s=false->fo C (mkD (aAt C k s) false)=cor C k s/\fo C (mkD (aAt C k s) true)=cor C k ((s+3)%4):=fun k s hk hs hcm=>by
     have h:=QD8 hm k s hk hs
     rw[hcm]at h
     refine⟨?_,h⟩
     unfold cor
     rw[hcm]
    have iF:∀ k s,k<C.length->s<4->(C.getD k Cr.none).comes s=true->fo C (mkD (aAt C k s) true)=cor C k s/\fo C (mkD (aAt C k s) false)=cor C k ((s+3)%4):=fun k s hk hs hcm=>by
     have h:=QD8 hm k s hk hs
     rw[hcm]at h
     refine⟨?_,h⟩
     unfold cor
     rw[hcm]
    rcases List.mem_append.1 he with h|h
    · obtain⟨k,hk,ee⟩:=List.mem_map.1 h
      have hk:=List.mem_range.1 hk
      unfold Kg9 at ee
      have i0:=iF k 0 hk (by omega) rfl
      cases hpl:(C.getD k Cr.none).plus
      · rw[hpl]at ee
        simp only[Bool.false_eq_true,if_false]at ee
        have o3:=oF k 3 hk (by omega) (by unfold Cr.comes;rw[hpl];rfl)
        exact two k 0 3 hk (by omega) (by omega) ee.symm (Or.inl (by rw[i0.2,o3.1]))
      · rw[hpl]at ee
        simp only[if_true]at ee
        have o1:=oF k 1 hk (by omega) (by unfold Cr.comes;rw[hpl];rfl)
        exact two k 0 1 hk (by omega) (by omega) ee.symm (Or.inr (by rw[i0.1,o1.2]))
    · obtain⟨k,hk,ee⟩:=List.mem_map.1 h
      have hk:=List.mem_range.1 hk
      unfold Kg8 at ee
      have o2:=oF k 2 hk (by omega) rfl
      cases hpl:(C.getD k Cr.none).plus
      · rw[hpl]at ee
        simp only[Bool.false_eq_true,if_false]at ee
        have i1:=iF k 1 hk (by omega) (by unfold Cr.comes;rw[hpl];rfl)
        exact two k 2 1 hk (by omega) (by omega) ee.symm (Or.inr (by rw[o2.2,i1.1]))
      · rw[hpl]at ee
        simp only[if_true]at ee
        have i3:=iF k 3 hk (by omega) (by unfold Cr.comes;rw[hpl];rfl)
        exact two k 2 3 hk (by omega) (by omega) ee.symm (Or.inl (by rw[o2.1,i3.2]))
   constructor
   · rintro⟨q1,q2⟩
     exact⟨by rw[<-hw];exact q1,(key q1).1 q2⟩
   · rintro⟨q1,q2⟩
     have q3:W.getD e.1 0=c:=by rw[hw];exact q1
     exact⟨q3,(key q3).2 q2⟩
  constructor
  · intro q;exact(hc _ closed ⟨wa,q⟩).2
  · intro q;exact(hc.symm _ closed ⟨wb,q⟩).2
 let vl:Bool->Int:=fun b=>if b=true then 1 else 0
 let tm:Nat->Nat->Int:=fun x c=>if 1<=c/\W.getD c 0=c then(if G c (fo C (mkD c false))=true then 1 else -1)*vl (G c x) else 0
 have tmb:∀ x c,-1<=tm x c/\tm x c<=1:=fun x c=>by
  show -1<=(if 1<=c/\W.getD c 0=c then(if G c (fo C (mkD c false))=true then 1 else -1)*(if G c x=true then 1 else 0) else 0)/\(if 1<=c/\W.getD c 0=c then(if G c (fo C (mkD c false))=true then 1 else -1)*(if G c x=true then 1 else 0) else 0)<=(1:Int)
  split<;>(try split)<;>(try split)<;>omega
 refine⟨fun x=>QZ0 (2*C.length+1) (tm x),fun a ha1 ha2=>?_,fun x=>?_⟩
 · have ha:a<2*C.length+1:=by omega
   have hr:=hL.lt ha
   have hroot:=hL.root ha
   have hcon:=(hL.2 a ha).1
   have hpos := hL.pos (fun e he => by
    have r:∀ k s,k<C.length->s<4->1<=aAt C k s:=fun k s hk hs=>by have:=QZ8 hm k s hk hs;omega
    rcases List.mem_append.1 he with h|h
    · obtain⟨k,hk,rfl⟩:=List.mem_map.1 h
      have hk:=List.mem_range.1 hk
      unfold Kg9
      refine⟨r k 0 hk (by omega),?_⟩
      simp only
      split
      · exact r k 1 hk (by omega)
      · exact r k 3 hk (by omega)
    · obtain⟨k,hk,rfl⟩:=List.mem_map.1 h
      have hk:=List.mem_range.1 hk
      unfold Kg8
      refine⟨r k 2 hk (by omega),?_⟩
      simp only
      split
      · exact r k 3 hk (by omega)
      · exact r k 1 hk (by omega)) ha ha1
   have e:∀ c,c<2*C.length+1->tm (fo C (mkD a false)) c=tm (fo C (mkD a true)) c+(if c=W.getD a 0 then 1 else 0):=fun c hc=>by
    show(if 1<=c/\W.getD c 0=c then(if G c (fo C (mkD c false))=true then 1 else -1)*(if G c (fo C (mkD a false))=true then 1 else 0) else 0)=(if 1<=c/\W.getD c 0=c then(if G c (fo C (mkD c false))=true then 1 else -1)*(if G c (fo C (mkD a true))=true then 1 else 0) else 0)+(if c=W.getD a 0 then(1:Int) else 0)
    have hs:=hG c a ha1 ha2
    unfold sides at hs
    by_cases hc1:c=W.getD a 0
    · rw[if_pos (⟨by omega,by rw[hc1];exact hroot⟩:1<=c/\W.getD c 0=c),if_pos (⟨by omega,by rw[hc1];exact hroot⟩:1<=c/\W.getD c 0=c),if_pos hc1]
      rw[decide_eq_true hc1.symm]at hs
      have al:=along c a c (by rw[hc1];exact hcon) ha1 ha2 (by omega) (by omega) hc1.symm (by rw[hc1];exact hroot)
      cases q1:G c (fo C (mkD a true))<;>cases q2:G c (fo C (mkD a false))<;>cases q3:G c (fo C (mkD c false))<;>rw[q1,q2]at hs<;>rw[q2,q3]at al<;>simp at hs al ⊢
    · rw[if_neg hc1,Int.add_zero]
      rw[decide_eq_false (fun q=>hc1 q.symm)]at hs
      have:G c (fo C (mkD a false))=G c (fo C (mkD a true)):=by
       cases q1:G c (fo C (mkD a true))<;>cases q2:G c (fo C (mkD a false))<;>rw[q1,q2]at hs<;>simp at hs ⊢
      rw[this]
   show QZ0 (2*C.length+1) (tm (fo C (mkD a false)))=QZ0 (2*C.length+1) (tm (fo C (mkD a true)))+1
   rw[QQ4 fun c hc=>e c hc,QZ5]
   congr 1
   have one:∀ M,W.getD a 0<M->QZ0 M (fun c=>if c=W.getD a 0 then(1:Int) else 0)=1:=fun M=>by
    induction M with
    |zero=>intro h;omega
    |succ M ih=>
     intro h
     show QZ0 M _+(if M=W.getD a 0 then(1:Int) else 0)=1
     by_cases q:M=W.getD a 0
     · rw[if_pos q,QQ4 (g:=fun _=>0) fun i hi=>if_neg (by omega),QV4];rfl
     · rw[if_neg q,ih (by omega)];rfl
   exact one _ hr
 · have : ∀ M : Nat, -(M : Int) ≤ QZ0 M (tm x) ∧ QZ0 M (tm x) ≤ M := fun M => by
     induction M with
     |zero=>exact⟨Int.le_refl _,Int.le_refl _⟩
     |succ M ih=>
      have:=tmb x M
      show -((M+1:Nat):Int)<=QZ0 M (tm x)+tm x M/\QZ0 M (tm x)+tm x M<=((M+1:Nat):Int)
      omega
   exact this _
theorem ZU6 {C : List Cr} {loops : Int} (hm : QQ6 C loops = true) (hp : QX6 C = true) : ∃ L : Nat → Nat, ∀ k, k < C.length →
    ((C.getD k Cr.none).plus=true->L (aAt C k 3)=L (aAt C k 2)/\L (aAt C k 1)=L (aAt C k 0)/\L (aAt C k 0)=L (aAt C k 2)+1)/\
    ((C.getD k Cr.none).plus=false->L (aAt C k 1)=L (aAt C k 2)/\L (aAt C k 3)=L (aAt C k 0)/\L (aAt C k 2)=L (aAt C k 0)+1):=by
 obtain⟨f,h1,h2⟩:=KQ9 hm hp
 refine⟨fun a=>((2*C.length+1:Nat)-f (fo C (mkD a false)):Int).toNat,fun k hk=>?_⟩
 have oF:∀ s,s<4->(C.getD k Cr.none).comes s=false->f (fo C (mkD (aAt C k s) false))=f (cor C k s)/\f (cor C k s)=f (cor C k ((s+3)%4))+1:=fun s hs hcm=>by
  have h:=QD8 hm k s hk hs
  have r:=QZ8 hm k s hk hs
  have n:=h1 _ r.2.2.1 r.2.2.2
  rw[hcm]at h
  have e:fo C (mkD (aAt C k s) false)=cor C k s:=by unfold cor;rw[hcm]
  rw[<-h,<-e]
  exact⟨rfl,n⟩
 have iF:∀ s,s<4->(C.getD k Cr.none).comes s=true->f (fo C (mkD (aAt C k s) false))=f (cor C k ((s+3)%4))/\f (cor C k ((s+3)%4))=f (cor C k s)+1:=fun s hs hcm=>by
  have h:=QD8 hm k s hk hs
  have r:=QZ8 hm k s hk hs
  have n:=h1 _ r.2.2.1 r.2.2.2
  rw[hcm]at h
  have e:fo C (mkD (aAt C k s) true)=cor C k s:=by unfold cor;rw[hcm]
  rw[<-h,<-e]
  exact⟨rfl,n⟩
 have b0:=h2 (cor C k 0)
 have b1:=h2 (cor C k 1)
 have b2:=h2 (cor C k 2)
 have b3:=h2 (cor C k 3)
 have i0:=iF 0 (by omega) rfl
 have o2:=oF 2 (by omega) rfl
 simp only[show(0+3)%4=3 from rfl,show(2+3)%4=1 from rfl]at i0 o2
 constructor
 · intro hpl
   have o1:=oF 1 (by omega) (by unfold Cr.comes;rw[hpl];rfl)
   have i3:=iF 3 (by omega) (by unfold Cr.comes;rw[hpl];rfl)
   simp only[show(1+3)%4=0 from rfl,show(3+3)%4=2 from rfl]at o1 i3
   simp only
   rw[i0.1,o1.1,o2.1,i3.1]
   omega
 · intro hpl
   have i1:=iF 1 (by omega) (by unfold Cr.comes;rw[hpl];rfl)
   have o3:=oF 3 (by omega) (by unfold Cr.comes;rw[hpl];rfl)
   simp only[show(1+3)%4=0 from rfl,show(3+3)%4=2 from rfl]at i1 o3
   simp only
   rw[i0.1,i1.1,o2.1,o3.1]
   omega
end Go.Proofs.YtookanmeflbdlaaGreatDoor

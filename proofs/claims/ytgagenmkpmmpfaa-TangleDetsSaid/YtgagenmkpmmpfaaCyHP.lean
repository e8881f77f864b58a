/- Several texts of the proof, one behind the other. -/
import Derived.Test.YtgagenmkpmmpfaaF2P
import Derived.Test.YtgagenmkpmmpfaaTK0P
import Derived.Test.YtgagenmkpmmpfaaBK0P
/- Plain mathematics: Euler's number of a piece: the crossings as rings, and the end. -/
namespace Go.Proofs.Ytgagenmkpmmpfaa
theorem pd_ne {C:List Cr} {loops:Int} (hm:mayD C loops=true) {k s t:Nat} (hk:k<C.length) (hs:s<4) (ht:t<4) (e:pd C (4*k+s)=pd C (4*k+t)):s=t:=by
 have h1:=(pd_at hm k s hk hs).2.2.1
 have h2:=(pd_at hm k t hk ht).2.2.1
 rw[e]at h1
 omega
theorem crossing_ring {C:List Cr} {loops:Int} (hm:mayD C loops=true) {k:Nat} (hk:k<C.length):∃ s0,s0<4/\∀ s,s<4->(cyW (gI C 0) (4*C.length+1)).getD (pd C (4*k+s)) 0=pd C (4*k+s0):=by
 have hB:=gI_bij hm 0 (Nat.zero_le _)
 have hW:=cyW_least hB.lt
 have hg:∀ s,s<4->gI C 0 (pd C (4*k+s))=pd C (4*k+(s+3)%4):=fun s hs=>by
  obtain⟨-,-,-,h3,h4⟩:=pd_at hm k s hk hs
  rw[gI_zero h3,pd_sig hm k s hk hs]
 have hlt:∀ s,s<4->pd C (4*k+s)<4*C.length+1:=fun s hs=>by have:=(pd_at hm k s hk hs).2.2.2.2;omega
 have hcl:Closed (eds (gI C 0) (4*C.length+1)) fun z=>∃ s,s<4/\z=pd C (4*k+s):=closed_eds.2 fun z hz=>by
  constructor
  · rintro⟨s,hs,rfl⟩
    exact⟨(s+3)%4,Nat.mod_lt _ (by decide),hg s hs⟩
  · rintro⟨s,hs,e⟩
    have h:=hg ((s+1)%4) (Nat.mod_lt _ (by decide))
    rw[show((s+1)%4+3)%4=s by omega,<-e]at h
    exact⟨(s+1)%4,Nat.mod_lt _ (by decide),(hB.inj _ _ (hlt _ (Nat.mod_lt _ (by decide))) hz h).symm⟩
 have c1:∀ s,s<4->Con (eds (gI C 0) (4*C.length+1)) (pd C (4*k+s)) (pd C (4*k+(s+3)%4)):=fun s hs=>by
  rw[<-hg s hs]
  exact con_f (hlt s hs)
 have c0:∀ s,s<4->Con (eds (gI C 0) (4*C.length+1)) (pd C (4*k+0)) (pd C (4*k+s)):=fun s hs=>by
  have d0:=c1 0 (by decide)
  have d3:=c1 3 (by decide)
  have d2:=c1 2 (by decide)
  match s,hs with
  |0,_=>exact Con.refl _ _
  |3,_=>exact d0
  |2,_=>exact d0.trans d3
  |1,_=>exact d0.trans (d3.trans d2)
 obtain⟨s0,hs0,e0⟩:=(hW.2 _ (hlt 0 (by decide))).1 _ hcl ⟨0,by decide,rfl⟩
 refine⟨s0,hs0,fun s hs=>?_⟩
 rw[<-e0]
 exact(hW.same (hlt s hs) (hlt 0 (by decide))).2 (c0 s hs).symm
theorem qD_pd {C:List Cr} {loops:Int} (hm:mayD C loops=true) (p:Nat) {k s:Nat} (hk:k<C.length) (hs:s<4):qD C p (pd C (4*k+s))=qC C p k:=by
 obtain⟨-,h1,-,h3,-⟩:=pd_at hm k s hk hs
 unfold qD qC
 rw[h1,decide_eq_true h3,Bool.true_and]
theorem euler_base {C:List Cr} {loops:Int} (hm:mayD C loops=true) (p:Nat):cyN (gI C 0) (4*C.length+1) (qD C p)=(List.range C.length).countP (qC C p):=by
 unfold cyN
 rw[rq_eq,cnt_darts hm (P:=fun v=>decide ((cyW (gI C 0) (4*C.length+1)).getD v 0=v)&&qD C p v) (Qc:=qC C p) (c:=1) (by simp[qD]) ?_,Nat.one_mul]
 intro k hk
 obtain⟨s0,hs0,h⟩:=crossing_ring hm hk
 have key:∀ s,s<4->(decide ((cyW (gI C 0) (4*C.length+1)).getD (pd C (4*k+s)) 0=pd C (4*k+s))&&qD C p (pd C (4*k+s)))=(decide (s0=s)&&qC C p k):=fun s hs=>by
  rw[h s hs,qD_pd hm p hk hs]
  congr 1
  by_cases e:s0=s
  · rw[e];simp
  · rw[decide_eq_false e,decide_eq_false fun q=>e (pd_ne hm hk hs0 hs q)]
 have k0:(decide ((cyW (gI C 0) (4*C.length+1)).getD (pd C (4*k)) 0=pd C (4*k))&&qD C p (pd C (4*k)))=(decide (s0=0)&&qC C p k):=key 0 (by decide)
 simp only[k0,key 1 (by decide),key 2 (by decide),key 3 (by decide)]
 cases qC C p k with
 |false=>simp
 |true=>
  match s0,hs0 with
  |0,_=>rfl
  |1,_=>rfl
  |2,_=>rfl
  |3,_=>rfl
theorem cnt_by2 {h Q:Nat->Bool} (m:Nat) (e:∀ t,t<m->h (2*t)=Q t/\h (2*t+1)=Q t):(List.range (2*m)).countP h=2*(List.range m).countP Q:=by
 induction m with
 |zero=>rfl
 |succ m ih=>
  have e1:=e m (by omega)
  have e2:=ih fun t ht=>e t (by omega)
  rw[show 2*(m+1)=2*m+1+1 by omega]
  simp only[List.range_succ,List.countP_append,List.countP_singleton]
  rw[e2,e1.1,e1.2]
  omega
theorem euler_arcs {C:List Cr} {loops:Int} (hm:mayD C loops=true) (p:Nat):(List.range (2*C.length)).countP (fun t=>qD C p (2*t+1))=2*(List.range C.length).countP (qC C p):=by
 have hW:=whoM_least hm
 have h4 := cnt_darts hm (P := qD C p) (Qc := qC C p) (c := 4) (by simp [qD]) (fun k hk => by
  have k0:qD C p (pd C (4*k))=qC C p k:=qD_pd hm p (s:=0) hk (by decide)
  rw[k0,qD_pd hm p (s:=1) hk (by decide),qD_pd hm p (s:=2) hk (by decide),qD_pd hm p (s:=3) hk (by decide)]
  cases qC C p k<;>rfl)
 rw[cnt_up1 _ _ (by simp[qD]),show 4*C.length=2*(2*C.length) by omega,cnt_by2 (h:=fun i=>qD C p (i+1)) (Q:=fun t=>qD C p (2*t+1)) (2*C.length) (fun t ht=>⟨rfl,?_⟩)]at h4
 · omega
 · obtain⟨v1,v2⟩:=lv_odd C t
   obtain⟨e1,e2⟩:=arE_lt hm t ht
   have hedge:Con (arcE C) (arE C t).1 (arE C t).2:=Con.edge (List.mem_map.2 ⟨t,List.mem_range.2 ht,rfl⟩)
   show qD C p (2*t+1+1)=qD C p (2*t+1)
   unfold qD
   rw[show 2*t+1+1=2*t+2 by omega,v1,v2,(hW.same e1 e2).2 hedge,decide_eq_true (show 1<=2*t+1 by omega),decide_eq_true (show 1<=2*t+2 by omega)]
theorem one_piece {C:List Cr} {loops:Int} (hm:mayD C loops=true) {p:Nat} (hp:p<C.length) (hr:(whoM C).getD p 0=p):rq (cls (arE C) (fun _=>true) C.length (2*C.length)) (qC C p) C.length=1:=by
 have hW:=whoM_least hm
 have hL:=cls_least (E:=arE C) (K:=fun _=>true) (n:=C.length) (m:=2*C.length) fun t ht=>arE_lt hm t ht
 rw[incl_all]at hL
 have e:cls (arE C) (fun _=>true) C.length (2*C.length)=whoM C:=hL.eq hW
 rw[e,rq_eq]
 have h1:(List.range C.length).count p=1:=by
  rw[List.Nodup.count List.nodup_range,if_pos (List.mem_range.2 hp)]
 rw[<-h1]
 unfold List.count
 refine List.countP_congr fun v _=>?_
 unfold qC
 simp only[Bool.and_eq_true,decide_eq_true_eq,beq_iff_eq]
 constructor
 · rintro⟨a,b⟩;omega
 · intro a
   rw[a]
   exact⟨hr,hr⟩
theorem faces_count {C:List Cr} {loops:Int} (hm:mayD C loops=true) (p:Nat):(headsM C).countP (fun g=>decide ((whoM C).getD g 0=p))=cyN (up0 (fd C)) (4*C.length+1) (qD C p):=by
 have hW:=whoM_least hm
 rw[<-walks_cyN (fd_closed hm) (fun a b h1 h2 h3 h4 e=>fd_inj hm a b h1 h2 h3 h4 e) (qD C p) (by simp[qD])]
 unfold headsM
 rw[List.countP_map]
 refine List.countP_congr fun l hl=>?_
 have hb:=(heads_roots (fd_closed hm) (fun a b h1 h2 h3 h4 e=>fd_inj hm a b h1 h2 h3 h4 e) (4*C.length) (Nat.le_refl _)).1 l hl
 show decide ((whoM C).getD (dC C (l.getD 0 0)) 0=p)=true↔qD C p (l.getD 0 0)=true
 unfold qD
 rw[(hW.same (lv_lt hm hb.1 hb.2) (d_may hm _ hb.1 hb.2).2.1).2 (lv_dC hb.1 hb.2),decide_eq_true hb.1,Bool.true_and]
theorem euler_piece {C:List Cr} {loops:Int} (hm:mayD C loops=true) {p:Nat} (hp:p<C.length) (hr:(whoM C).getD p 0=p):exN C.length (headsM C) (whoM C) p<=2/\exN C.length (headsM C) (whoM C) p%2=0:=by
 obtain⟨h1,h2⟩:=euler_steps hm p (euler_base hm p) (2*C.length) (Nat.le_refl _)
 rw[one_piece hm hp hr,euler_arcs hm p,cyN_congr (fun x hx=>gI_last hx),<-faces_count hm p] at*
 have e:exN C.length (headsM C) (whoM C) p=(((headsM C).countP (fun g=>decide ((whoM C).getD g 0=p)):Nat):Int)-(((List.range C.length).countP (qC C p):Nat):Int):=rfl
 rw[e]
 omega
end Go.Proofs.Ytgagenmkpmmpfaa
/- Plain mathematics: planar, told by all rings and all pieces at once. -/
namespace Go.Proofs.Ytgagenmkpmmpfaa
def sN (h:Nat->Nat):Nat->Nat
 |0=>0
 |n+1=>sN h n+h n
theorem sN_congr {a b:Nat->Nat} {n:Nat} (e:∀ p,p<n->a p=b p):sN a n=sN b n:=by
 induction n with
 |zero=>rfl
 |succ n ih=>show sN a n+a n=sN b n+b n;rw[ih fun p hp=>e p (by omega),e n (by omega)]
theorem sN_le {a b:Nat->Nat} {n:Nat} (e:∀ p,p<n->a p<=b p):sN a n<=sN b n:=by
 induction n with
 |zero=>exact Nat.le_refl _
 |succ n ih=>have:=ih fun p hp=>e p (by omega);have:=e n (by omega);show sN a n+a n<=sN b n+b n;omega
theorem sN_eq {a b:Nat->Nat} {n:Nat} (e:∀ p,p<n->a p<=b p) (h:sN b n<=sN a n):∀ p,p<n->a p=b p:=by
 induction n with
 |zero=>intro p hp;omega
 |succ n ih=>
  have h1:=sN_le (n:=n) fun p hp=>e p (by omega)
  have h2:=e n (by omega)
  have h3:sN b n+b n<=sN a n+a n:=h
  intro p hp
  by_cases q:p=n
  · rw[q];omega
  · exact ih (fun p hp=>e p (by omega)) (by omega) p (by omega)
theorem sN_add (a b:Nat->Nat) (n:Nat):sN (fun p=>a p+b p) n=sN a n+sN b n:=by
 induction n with
 |zero=>rfl
 |succ n ih=>show sN (fun p=>a p+b p) n+(a n+b n)=sN a n+a n+(sN b n+b n);omega
theorem sN_zero {a:Nat->Nat} {n:Nat} (h:∀ p,p<n->a p=0):sN a n=0:=by
 induction n with
 |zero=>rfl
 |succ n ih=>show sN a n+a n=0;rw[ih fun p hp=>h p (by omega),h n (by omega)]
theorem sN_only {n q:Nat} (hq:q<n):sN (fun p=>if q=p then 1 else 0) n=1:=by
 induction n with
 |zero=>omega
 |succ n ih=>
  show sN (fun p=>if q=p then 1 else 0) n+(if q=n then 1 else 0)=1
  by_cases e:q=n
  · rw[if_pos e,sN_zero fun p hp=>if_neg (by omega)]
  · rw[if_neg e,ih (by omega)]
theorem sum_cnt (W:Nat->Nat) (n:Nat):∀ G:List Nat,(∀ g,g∈G->W g<n)->sN (fun p=>G.countP fun g=>decide (W g=p)) n=G.length:=by
 intro G
 induction G with
 |nil=>intro _;exact sN_zero fun _ _=>rfl
 |cons g G ih=>
  intro h
  have e:sN (fun p=>(g::G).countP fun g=>decide (W g=p)) n=sN (fun p=>(G.countP fun g=>decide (W g=p))+if W g=p then 1 else 0) n:=sN_congr fun p _=>by
   rw[List.countP_cons]
   by_cases q:W g=p
   · rw[if_pos (decide_eq_true q),if_pos q]
   · rw[if_neg (by simpa using q),if_neg q]
  rw[e,sN_add,ih fun x hx=>h x (List.mem_cons_of_mem _ hx),sN_only (h g (List.mem_cons_self ..))]
  rfl
theorem sN_cnt (P:Nat->Bool) (n:Nat):sN (fun p=>if P p=true then 2 else 0) n=2*(List.range n).countP P:=by
 induction n with
 |zero=>rfl
 |succ n ih=>
  show sN (fun p=>if P p=true then 2 else 0) n+(if P n=true then 2 else 0)=_
  rw[ih,List.range_succ,List.countP_append,List.countP_singleton]
  split<;>omega
def pcN (C:List Cr):Nat:=kN (arcE C) C.length
theorem pcN_eq (C:List Cr):pcN C=(List.range C.length).countP fun p=>decide ((whoM C).getD p 0=p):=by
 unfold pcN kN
 rw[rq_eq]
 refine List.countP_congr fun v _=>?_
 rw[Bool.and_true]
 rfl
theorem planar_sum {C:List Cr} {loops:Int} (hm:mayD C loops=true):(facesM C).length<=C.length+2*pcN C/\(planarB C=true↔C.length+2*pcN C<=(facesM C).length):=by
 have hW:=whoM_least hm
 have s1:=sum_cnt (fun g=>(whoM C).getD g 0) C.length (headsM C) fun g hg=>hW.lt (headsM_lt hm g hg)
 have s2:=sum_cnt (fun g=>(whoM C).getD g 0) C.length (List.range C.length) fun g hg=>hW.lt (List.mem_range.1 hg)
 have s3:=sN_cnt (fun p=>decide ((whoM C).getD p 0=p)) C.length
 rw[headsM_len]at s1
 rw[List.length_range]at s2
 rw[<-pcN_eq]at s3
 have s4:=sN_add (fun p=>(List.range C.length).countP fun g=>decide ((whoM C).getD g 0=p)) (fun p=>if decide ((whoM C).getD p 0=p)=true then 2 else 0) C.length
 rw[s2,s3]at s4
 have hle:∀ p,p<C.length->((headsM C).countP fun g=>decide ((whoM C).getD g 0=p))<=((List.range C.length).countP fun g=>decide ((whoM C).getD g 0=p))+if decide ((whoM C).getD p 0=p)=true then 2 else 0:=fun p hp=>by
  by_cases hr:(whoM C).getD p 0=p
  · have:=(euler_piece hm hp hr).1
    unfold exN at this
    rw[if_pos (decide_eq_true hr)]
    omega
  · have h0 : ((headsM C).countP fun g => decide ((whoM C).getD g 0 = p)) = 0 := List.countP_eq_zero.2 fun g hg q => hr (by
      have q:=of_decide_eq_true q
      have hg:=headsM_lt hm g hg
      have:=(hW.same (hW.lt hg) hg).2 (hW.2 g hg).1.symm
      rw[q]at this
      exact this)
    rw[h0]
    exact Nat.zero_le _
 have hsum:=sN_le hle
 rw[s1,s4]at hsum
 refine⟨hsum,?_⟩
 rw[planarB_iff]
 constructor
 · intro h
   rw[<-s1,<-s4]
   refine sN_le fun p hp=>?_
   by_cases hr:(whoM C).getD p 0=p
   · have:=h p hp hr
     unfold exN at this
     rw[if_pos (decide_eq_true hr)]
     omega
   · rw[if_neg (by simpa using hr)]
     have h0 : ((List.range C.length).countP fun g => decide ((whoM C).getD g 0 = p)) = 0 := List.countP_eq_zero.2 fun g hg q => hr (by
      have q:=of_decide_eq_true q
      have hg:=List.mem_range.1 hg
      have:=(hW.same (hW.lt hg) hg).2 (hW.2 g hg).1.symm
      rw[q]at this
      exact this)
     rw[h0]
     exact Nat.zero_le _
 · intro h p hp hr
   rw[<-s1,<-s4]at h
   have:=sN_eq hle h p hp
   rw[if_pos (decide_eq_true hr)]at this
   unfold exN
   omega
theorem kN_inj {E F:List (Nat×Nat)} {M n:Nat} (hE:∀ e,e∈E->e.1<M/\e.2<M) (hF:∀ e,e∈F->e.1<n/\e.2<n) (m:Nat->Nat) (hl:∀ v,v<n->m v<M) (h:∀ u v,u<n->v<n->Con E (m u) (m v)->Con F u v):kN F n<=kN E M:=by
 have lE:=levR_least hE M (Nat.le_refl _)
 have lF:=levR_least hF n (Nat.le_refl _)
 unfold kN
 rw[rq_eq,rq_eq,List.countP_eq_length_filter,List.countP_eq_length_filter,<-List.length_map (f:=fun v=>(levR (List.range M) E M).getD (m v) 0)]
 have hnd:(((List.range n).filter fun v=>decide ((levR (List.range n) F n).getD v 0=v)&&true).map fun v=>(levR (List.range M) E M).getD (m v) 0).Nodup:=by
  unfold List.Nodup
  rw[List.pairwise_map]
  refine List.Pairwise.imp_of_mem ?_ (List.Pairwise.filter _ List.nodup_range)
  intro u v hu hv huv e
  obtain⟨hu,ru⟩:=List.mem_filter.1 hu
  obtain⟨hv,rv⟩:=List.mem_filter.1 hv
  have hu:=List.mem_range.1 hu
  have hv:=List.mem_range.1 hv
  rw[Bool.and_true,decide_eq_true_eq]at ru rv
  have c:=h u v hu hv ((lE.same (hl u hu) (hl v hv)).1 e)
  have:=(lF.same hu hv).2 c
  rw[ru,rv]at this
  exact huv this
 refine hnd.length_le_of_subset fun x hx=>?_
 obtain⟨v,hv,rfl⟩:=List.mem_map.1 hx
 have hv:=List.mem_range.1 (List.mem_filter.1 hv).1
 refine List.mem_filter.2 ⟨List.mem_range.2 (lE.lt (hl v hv)),?_⟩
 rw[Bool.and_true,decide_eq_true_eq]
 exact(lE.same (lE.lt (hl v hv)) (hl v hv)).2 (lE.2 _ (hl v hv)).1.symm
end Go.Proofs.Ytgagenmkpmmpfaa
/- Alexander's numbering: the faces of a planar diagram have numbers, one more on one side of an arc than on the other. -/
namespace Go.Proofs.Ytgagenmkpmmpfaa
theorem faces_joinedP {C:List Cr} {loops:Int} (hm:mayD C loops=true) {k0 k:Nat} (hk0:k0<C.length) (hk:k<C.length) (hc:Con (arcE C) k0 k) (s0 s:Nat) (hs0:s0<4) (hs:s<4):Con (incl (dfE C) (fun _=>true) (2*C.length)) (cor C k0 s0) (cor C k s):=by
 intro T hT h0
 have hedge:∀ a,1<=a->a<=2*C.length->∀ p q,T (fo C (mkD a p))->T (fo C (mkD a q)):=fun a ha1 ha2 p q=>by
  have he:=hT _ (incl_mem.2 ⟨a-1,by omega,rfl,rfl⟩:dfE C (a-1)∈_)
  unfold dfE at he
  rw[show a-1+1=a by omega]at he
  cases p<;>cases q<;>simp only at he ⊢
  · exact id
  · exact he.2
  · exact he.1
  · exact id
 have hturn:∀ k s,k<C.length->s<4->(T (cor C k s)↔T (cor C k ((s+3)%4))):=fun k s hk hs=>by
  have h:=en_side hm k s hk hs
  rw[<-cor_back hm k s hk hs]
  unfold cor
  exact⟨hedge _ h.2.2.1 h.2.2.2 _ _,hedge _ h.2.2.1 h.2.2.2 _ _⟩
 have hall:∀ k,k<C.length->(∀ s,s<4->(T (cor C k s)↔T (cor C k 0))):=fun k hk s hs=>by
  have t1:=hturn k 1 hk (by omega)
  have t2:=hturn k 2 hk (by omega)
  have t3:=hturn k 3 hk (by omega)
  simp only[Nat.reduceAdd,Nat.reduceMod]at t1 t2 t3
  have:s=0∨s=1∨s=2∨s=3:=by omega
  rcases this with rfl|rfl|rfl|rfl
  · exact Iff.rfl
  · exact t1
  · exact t2.trans t1
  · exact t3.trans (t2.trans t1)
 have key : (fun c => c < C.length → T (cor C c 0)) k := hc (fun c => c < C.length → T (cor C c 0)) (fun e he => by
  obtain⟨i,hi,rfl⟩:=List.mem_map.1 he
  have hi2:=List.mem_range.1 hi
  have u:=en_may hm (i+1) true (by omega) (by omega)
  have v:=en_may hm (i+1) false (by omega) (by omega)
  have eu:fo C (mkD (i+1) true)=cor C (enC C (i+1) true) (enS C (i+1) true):=by
   unfold cor aAt
   rw[u.2.2.2.1,u.2.2.2.2]
   rfl
  have ev:fo C (mkD (i+1) false)=cor C (enC C (i+1) false) (enS C (i+1) false):=by
   unfold cor aAt
   rw[v.2.2.2.1,v.2.2.2.2]
   rfl
  have iu:=hall _ u.2.1 _ u.2.2.1
  have iv:=hall _ v.2.1 _ v.2.2.1
  rw[<-eu]at iu
  rw[<-ev]at iv
  have hx:=hedge (i+1) (by omega) (by omega)
  constructor
  · intro q _
    exact iv.1 (hx true false (iu.2 (q u.2.1)))
  · intro q _
    exact iu.1 (hx false true (iv.2 (q v.2.1)))) (fun _=>(hall k0 hk0 s0 hs0).1 h0)
 exact(hall k hk s hs).2 (key hk)
theorem rt_kN {E:Nat->Nat×Nat} {n m:Nat} (hE:∀ i,i<m->(E i).1<n/\(E i).2<n):rt (cls E (fun _=>true) n m) n=kN (incl E (fun _=>true) m) n:=by
 have hL:=cls_least (E:=E) (K:=fun _=>true) (n:=n) (m:=m) hE
 have hi:∀ e,e∈incl E (fun _=>true) m->e.1<n/\e.2<n:=fun e he=>by
  obtain⟨i,h1,-,rfl⟩:=incl_mem.1 he
  exact hE i h1
 have e:cls E (fun _=>true) n m=levR (List.range n) (incl E (fun _=>true) m) n:=hL.eq (levR_least hi _ (Nat.le_refl _))
 unfold kN
 rw[<-e]
 generalize cls E (fun _=>true) n m=W
 have:∀ k,rt W k=rq W (fun _=>true) k:=fun k=>by
  induction k with
  |zero=>rfl
  |succ k ih=>simp only[rt,rq,ih,and_true]
 exact this n
theorem planar_evenP {C : List Cr} {loops : Int} (hm : mayD C loops = true) (hp : planarB C = true) (A : Nat → Bool)
    (hA:∀ k,k<C.length->xor (xor (A (aAt C k 0)) (A (aAt C k 1))) (xor (A (aAt C k 2)) (A (aAt C k 3)))=false):∃ g:Nat->Bool,∀ a,1<=a->a<=2*C.length->A a=sides C g a:=by
 have hE:∀ i,i<2*C.length->(arE C i).1<C.length/\(arE C i).2<C.length:=fun i hi=>⟨(en_may hm (i+1) true (by omega) (by omega)).2.1,(en_may hm (i+1) false (by omega) (by omega)).2.1⟩
 have hD:∀ i,i<2*C.length->(dfE C i).1<(facesM C).length/\(dfE C i).2<(facesM C).length:=fun i hi=>by
  have u:=mk_le (a:=i+1) (p:=true) (n:=C.length) (by omega) (by omega)
  have v:=mk_le (a:=i+1) (p:=false) (n:=C.length) (by omega) (by omega)
  exact⟨fo_lt _ u.1 u.2,fo_lt _ v.1 v.2⟩
 have hF:=(planar_sum hm).2.1 hp
 have ea:incl (arE C) (fun _=>true) (2*C.length)=arcE C:=incl_all
 have r1:rt (cls (arE C) (fun _=>true) C.length (2*C.length)) C.length=pcN C:=by
  rw[rt_kN hE,ea];rfl
 have r2:rt (cls (dfE C) (fun _=>true) (facesM C).length (2*C.length)) (facesM C).length<=pcN C:=by
  rw[rt_kN hD]
  have hf:∀ u,∃ k s,u<(facesM C).length->k<C.length/\s<4/\u=cor C k s:=fun u=>by
   by_cases hu:u<(facesM C).length
   · obtain⟨k,s,hk,hs,e⟩:=face_cor hm u hu
     exact⟨k,s,fun _=>⟨hk,hs,e⟩⟩
   · exact⟨0,0,fun h=>absurd h hu⟩
  refine kN_inj (fun e he => by
      obtain⟨i,hi,rfl⟩:=List.mem_map.1 he
      exact hE i (List.mem_range.1 hi)) (fun e he=>by
      obtain⟨i,h1,-,rfl⟩:=incl_mem.1 he
      exact hD i h1) (fun u=>Classical.choose (hf u)) (fun v hv=>?_) (fun u v hu hv hc=>?_)
  · obtain⟨s,h⟩:=Classical.choose_spec (hf v)
    exact(h hv).1
  · obtain⟨s,h⟩:=Classical.choose_spec (hf u)
    obtain⟨s',h'⟩:=Classical.choose_spec (hf v)
    obtain⟨a1,a2,a3⟩:=h hu
    obtain⟨b1,b2,b3⟩:=h' hv
    have:=faces_joinedP hm a1 b1 hc s s' a2 b2
    rw[<-a3,<-b3]at this
    exact this
 obtain ⟨g, hg⟩ := sphere_even hE hD (fun S g => cross_even hm S g) (by omega) (fun i => A (i + 1)) (fun S => by
  refine Eq.trans (xs_congr fun i _=>Bool.and_comm _ _) ((xs_sides hm S A).trans (xs_none fun k hk=>?_))
  rw[hA k hk,Bool.and_false])
 refine⟨g,fun a ha1 ha2=>?_⟩
 have:=hg (a-1) (by omega)
 rw[show a-1+1=a by omega]at this
 rw[this]
 unfold sides dfE
 rw[show a-1+1=a by omega]
def sfE1 (C:List Cr) (k:Nat):Nat×Nat:=(aAt C k 0,if(C.getD k Cr.none).plus=true then aAt C k 1 else aAt C k 3)
def sfE2 (C:List Cr) (k:Nat):Nat×Nat:=(aAt C k 2,if(C.getD k Cr.none).plus=true then aAt C k 3 else aAt C k 1)
def sfL (C:List Cr):List (Nat×Nat):=(List.range C.length).map (sfE1 C)++(List.range C.length).map (sfE2 C)
theorem faces_num {C:List Cr} {loops:Int} (hm:mayD C loops=true) (hp:planarB C=true):∃ f:Nat->Int,(∀ a,1<=a->a<=2*C.length->f (fo C (mkD a false))=f (fo C (mkD a true))+1)/\∀ x,-(2*C.length+1:Nat)<=f x/\f x<=(2*C.length+1:Nat):=by
 have hE:∀ e,e∈sfL C->e.1<2*C.length+1/\e.2<2*C.length+1:=fun e he=>by
  have r:∀ k s,k<C.length->s<4->aAt C k s<2*C.length+1:=fun k s hk hs=>by have:=en_side hm k s hk hs;omega
  rcases List.mem_append.1 he with h|h
  · obtain⟨k,hk,rfl⟩:=List.mem_map.1 h
    have hk:=List.mem_range.1 hk
    unfold sfE1
    refine⟨r k 0 hk (by omega),?_⟩
    simp only
    split
    · exact r k 1 hk (by omega)
    · exact r k 3 hk (by omega)
  · obtain⟨k,hk,rfl⟩:=List.mem_map.1 h
    have hk:=List.mem_range.1 hk
    unfold sfE2
    refine⟨r k 2 hk (by omega),?_⟩
    simp only
    split
    · exact r k 3 hk (by omega)
    · exact r k 1 hk (by omega)
 have hL:Least (sfL C) (2*C.length+1) (levR (List.range (2*C.length+1)) (sfL C) (2*C.length+1)):=levR_least hE _ (Nat.le_refl _)
 generalize levR (List.range (2*C.length+1)) (sfL C) (2*C.length+1)=W at hL
 have hsame:∀ e,e∈sfL C->W.getD e.1 0=W.getD e.2 0:=fun e he=>(hL.same (hE e he).1 (hE e he).2).2 (Con.edge (by cases e;exact he))
 have m1:∀ k,k<C.length->sfE1 C k∈sfL C:=fun k hk=>List.mem_append_left _ (List.mem_map.2 ⟨k,List.mem_range.2 hk,rfl⟩)
 have m2:∀ k,k<C.length->sfE2 C k∈sfL C:=fun k hk=>List.mem_append_right _ (List.mem_map.2 ⟨k,List.mem_range.2 hk,rfl⟩)
 have hg:∀ c,∃ g:Nat->Bool,∀ a,1<=a->a<=2*C.length->decide (W.getD a 0=c)=sides C g a:=fun c=>planar_evenP hm hp (fun a=>decide (W.getD a 0=c)) fun k hk=>by
  have e1:=hsame _ (m1 k hk)
  have e2:=hsame _ (m2 k hk)
  unfold sfE1 at e1
  unfold sfE2 at e2
  simp only at e1 e2 ⊢
  cases hpl:(C.getD k Cr.none).plus
  · rw[hpl]at e1 e2
    simp only[Bool.false_eq_true,if_false]at e1 e2
    rw[e1,e2]
    cases decide (W.getD (aAt C k 3) 0=c)<;>cases decide (W.getD (aAt C k 1) 0=c)<;>rfl
  · rw[hpl]at e1 e2
    simp only[if_true]at e1 e2
    rw[e1,e2]
    cases decide (W.getD (aAt C k 1) 0=c)<;>cases decide (W.getD (aAt C k 3) 0=c)<;>rfl
 let G:Nat->Nat->Bool:=fun c=>Classical.choose (hg c)
 have hG:∀ c a,1<=a->a<=2*C.length->decide (W.getD a 0=c)=sides C (G c) a:=fun c=>Classical.choose_spec (hg c)
 -- along a circle the side is the same
 have along:∀ c a b,Con (sfL C) a b->1<=a->a<=2*C.length->1<=b->b<=2*C.length->W.getD a 0=c->W.getD b 0=c->(G c (fo C (mkD a false))=true↔G c (fo C (mkD b false))=true):=fun c a b hc ha1 ha2 hb1 hb2 wa wb=>by
  have closed:Closed (sfL C) (fun z=>W.getD z 0=c/\G c (fo C (mkD z false))=true):=fun e he=>by
   have hw:=hsame e he
   have key:W.getD e.1 0=c->(G c (fo C (mkD e.1 false))=true↔G c (fo C (mkD e.2 false))=true):=fun hw1=>by
    have hw2:W.getD e.2 0=c:=by rw[<-hw];exact hw1
    have flip:∀ z,1<=z->z<=2*C.length->W.getD z 0=c->(G c (fo C (mkD z false))=!G c (fo C (mkD z true))):=fun z h1 h2 h3=>by
     have:=hG c z h1 h2
     rw[decide_eq_true h3]at this
     unfold sides at this
     cases q1:G c (fo C (mkD z true))<;>cases q2:G c (fo C (mkD z false))<;>rw[q1,q2]at this<;>simp at this ⊢
    have two:∀ k s t,k<C.length->s<4->t<4->e=(aAt C k s,aAt C k t)->(fo C (mkD (aAt C k s) false)=fo C (mkD (aAt C k t) false)∨fo C (mkD (aAt C k s) true)=fo C (mkD (aAt C k t) true))->(G c (fo C (mkD e.1 false))=true↔G c (fo C (mkD e.2 false))=true):=fun k s t hk hs ht ee hor=>by
     have r1:=en_side hm k s hk hs
     have r2:=en_side hm k t hk ht
     rw[ee]at hw1 hw2 ⊢
     simp only at hw1 hw2 ⊢
     rcases hor with h|h
     · rw[h]
     · rw[flip _ r1.2.2.1 r1.2.2.2 hw1,flip _ r2.2.2.1 r2.2.2.2 hw2,h]
    have oF:∀ k s,k<C.length->s<4->(C.getD k Cr.none).comes s=false->fo C (mkD (aAt C k s) false)=cor C k s/\fo C (mkD (aAt C k s) true)=cor C k ((s+3)%4):=fun k s hk hs hcm=>by
     have h:=cor_back hm k s hk hs
     rw[hcm]at h
     refine⟨?_,h⟩
     unfold cor
     rw[hcm]
    have iF:∀ k s,k<C.length->s<4->(C.getD k Cr.none).comes s=true->fo C (mkD (aAt C k s) true)=cor C k s/\fo C (mkD (aAt C k s) false)=cor C k ((s+3)%4):=fun k s hk hs hcm=>by
     have h:=cor_back hm k s hk hs
     rw[hcm]at h
     refine⟨?_,h⟩
     unfold cor
     rw[hcm]
    rcases List.mem_append.1 he with h|h
    · obtain⟨k,hk,ee⟩:=List.mem_map.1 h
      have hk:=List.mem_range.1 hk
      unfold sfE1 at ee
      have i0:=iF k 0 hk (by omega) rfl
      cases hpl:(C.getD k Cr.none).plus
      · rw[hpl]at ee
        simp only[Bool.false_eq_true,if_false]at ee
        have o3:=oF k 3 hk (by omega) (by unfold Cr.comes;rw[hpl];rfl)
        exact two k 0 3 hk (by omega) (by omega) ee.symm (Or.inl (by rw[i0.2,o3.1]))
      · rw[hpl]at ee
        simp only[if_true]at ee
        have o1:=oF k 1 hk (by omega) (by unfold Cr.comes;rw[hpl];rfl)
        exact two k 0 1 hk (by omega) (by omega) ee.symm (Or.inr (by rw[i0.1,o1.2]))
    · obtain⟨k,hk,ee⟩:=List.mem_map.1 h
      have hk:=List.mem_range.1 hk
      unfold sfE2 at ee
      have o2:=oF k 2 hk (by omega) rfl
      cases hpl:(C.getD k Cr.none).plus
      · rw[hpl]at ee
        simp only[Bool.false_eq_true,if_false]at ee
        have i1:=iF k 1 hk (by omega) (by unfold Cr.comes;rw[hpl];rfl)
        exact two k 2 1 hk (by omega) (by omega) ee.symm (Or.inr (by rw[o2.2,i1.1]))
      · rw[hpl]at ee
        simp only[if_true]at ee
        have i3:=iF k 3 hk (by omega) (by unfold Cr.comes;rw[hpl];rfl)
        exact two k 2 3 hk (by omega) (by omega) ee.symm (Or.inl (by rw[o2.1,i3.2]))
   constructor
   · rintro⟨q1,q2⟩
     exact⟨by rw[<-hw];exact q1,(key q1).1 q2⟩
   · rintro⟨q1,q2⟩
     have q3:W.getD e.1 0=c:=by rw[hw];exact q1
     exact⟨q3,(key q3).2 q2⟩
  constructor
  · intro q;exact(hc _ closed ⟨wa,q⟩).2
  · intro q;exact(hc.symm _ closed ⟨wb,q⟩).2
 let vl:Bool->Int:=fun b=>if b=true then 1 else 0
 let tm:Nat->Nat->Int:=fun x c=>if 1<=c/\W.getD c 0=c then(if G c (fo C (mkD c false))=true then 1 else -1)*vl (G c x) else 0
 have tmb:∀ x c,-1<=tm x c/\tm x c<=1:=fun x c=>by
  show -1<=(if 1<=c/\W.getD c 0=c then(if G c (fo C (mkD c false))=true then 1 else -1)*(if G c x=true then 1 else 0) else 0)/\(if 1<=c/\W.getD c 0=c then(if G c (fo C (mkD c false))=true then 1 else -1)*(if G c x=true then 1 else 0) else 0)<=(1:Int)
  split<;>(try split)<;>(try split)<;>omega
 refine⟨fun x=>sumS (2*C.length+1) (tm x),fun a ha1 ha2=>?_,fun x=>?_⟩
 · have ha:a<2*C.length+1:=by omega
   have hr:=hL.lt ha
   have hroot:=hL.root ha
   have hcon:=(hL.2 a ha).1
   have hpos := hL.pos (fun e he => by
    have r:∀ k s,k<C.length->s<4->1<=aAt C k s:=fun k s hk hs=>by have:=en_side hm k s hk hs;omega
    rcases List.mem_append.1 he with h|h
    · obtain⟨k,hk,rfl⟩:=List.mem_map.1 h
      have hk:=List.mem_range.1 hk
      unfold sfE1
      refine⟨r k 0 hk (by omega),?_⟩
      simp only
      split
      · exact r k 1 hk (by omega)
      · exact r k 3 hk (by omega)
    · obtain⟨k,hk,rfl⟩:=List.mem_map.1 h
      have hk:=List.mem_range.1 hk
      unfold sfE2
      refine⟨r k 2 hk (by omega),?_⟩
      simp only
      split
      · exact r k 3 hk (by omega)
      · exact r k 1 hk (by omega)) ha ha1
   have e:∀ c,c<2*C.length+1->tm (fo C (mkD a false)) c=tm (fo C (mkD a true)) c+(if c=W.getD a 0 then 1 else 0):=fun c hc=>by
    show(if 1<=c/\W.getD c 0=c then(if G c (fo C (mkD c false))=true then 1 else -1)*(if G c (fo C (mkD a false))=true then 1 else 0) else 0)=(if 1<=c/\W.getD c 0=c then(if G c (fo C (mkD c false))=true then 1 else -1)*(if G c (fo C (mkD a true))=true then 1 else 0) else 0)+(if c=W.getD a 0 then(1:Int) else 0)
    have hs:=hG c a ha1 ha2
    unfold sides at hs
    by_cases hc1:c=W.getD a 0
    · rw[if_pos (⟨by omega,by rw[hc1];exact hroot⟩:1<=c/\W.getD c 0=c),if_pos (⟨by omega,by rw[hc1];exact hroot⟩:1<=c/\W.getD c 0=c),if_pos hc1]
      rw[decide_eq_true hc1.symm]at hs
      have al:=along c a c (by rw[hc1];exact hcon) ha1 ha2 (by omega) (by omega) hc1.symm (by rw[hc1];exact hroot)
      cases q1:G c (fo C (mkD a true))<;>cases q2:G c (fo C (mkD a false))<;>cases q3:G c (fo C (mkD c false))<;>rw[q1,q2]at hs<;>rw[q2,q3]at al<;>simp at hs al ⊢
    · rw[if_neg hc1,Int.add_zero]
      rw[decide_eq_false (fun q=>hc1 q.symm)]at hs
      have:G c (fo C (mkD a false))=G c (fo C (mkD a true)):=by
       cases q1:G c (fo C (mkD a true))<;>cases q2:G c (fo C (mkD a false))<;>rw[q1,q2]at hs<;>simp at hs ⊢
      rw[this]
   show sumS (2*C.length+1) (tm (fo C (mkD a false)))=sumS (2*C.length+1) (tm (fo C (mkD a true)))+1
   rw[sumS_congr fun c hc=>e c hc,sumS_add]
   congr 1
   have one:∀ M,W.getD a 0<M->sumS M (fun c=>if c=W.getD a 0 then(1:Int) else 0)=1:=fun M=>by
    induction M with
    |zero=>intro h;omega
    |succ M ih=>
     intro h
     show sumS M _+(if M=W.getD a 0 then(1:Int) else 0)=1
     by_cases q:M=W.getD a 0
     · rw[if_pos q,sumS_congr (g:=fun _=>0) fun i hi=>if_neg (by omega),sumS_zero];rfl
     · rw[if_neg q,ih (by omega)];rfl
   exact one _ hr
 · have : ∀ M : Nat, -(M : Int) ≤ sumS M (tm x) ∧ sumS M (tm x) ≤ M := fun M => by
     induction M with
     |zero=>exact⟨Int.le_refl _,Int.le_refl _⟩
     |succ M ih=>
      have:=tmb x M
      show -((M+1:Nat):Int)<=sumS M (tm x)+tm x M/\sumS M (tm x)+tm x M<=((M+1:Nat):Int)
      omega
   exact this _
theorem arcs_num {C : List Cr} {loops : Int} (hm : mayD C loops = true) (hp : planarB C = true) : ∃ L : Nat → Nat, ∀ k, k < C.length →
    ((C.getD k Cr.none).plus=true->L (aAt C k 3)=L (aAt C k 2)/\L (aAt C k 1)=L (aAt C k 0)/\L (aAt C k 0)=L (aAt C k 2)+1)/\
    ((C.getD k Cr.none).plus=false->L (aAt C k 1)=L (aAt C k 2)/\L (aAt C k 3)=L (aAt C k 0)/\L (aAt C k 2)=L (aAt C k 0)+1):=by
 obtain⟨f,h1,h2⟩:=faces_num hm hp
 refine⟨fun a=>((2*C.length+1:Nat)-f (fo C (mkD a false)):Int).toNat,fun k hk=>?_⟩
 have oF:∀ s,s<4->(C.getD k Cr.none).comes s=false->f (fo C (mkD (aAt C k s) false))=f (cor C k s)/\f (cor C k s)=f (cor C k ((s+3)%4))+1:=fun s hs hcm=>by
  have h:=cor_back hm k s hk hs
  have r:=en_side hm k s hk hs
  have n:=h1 _ r.2.2.1 r.2.2.2
  rw[hcm]at h
  have e:fo C (mkD (aAt C k s) false)=cor C k s:=by unfold cor;rw[hcm]
  rw[<-h,<-e]
  exact⟨rfl,n⟩
 have iF:∀ s,s<4->(C.getD k Cr.none).comes s=true->f (fo C (mkD (aAt C k s) false))=f (cor C k ((s+3)%4))/\f (cor C k ((s+3)%4))=f (cor C k s)+1:=fun s hs hcm=>by
  have h:=cor_back hm k s hk hs
  have r:=en_side hm k s hk hs
  have n:=h1 _ r.2.2.1 r.2.2.2
  rw[hcm]at h
  have e:fo C (mkD (aAt C k s) true)=cor C k s:=by unfold cor;rw[hcm]
  rw[<-h,<-e]
  exact⟨rfl,n⟩
 have b0:=h2 (cor C k 0)
 have b1:=h2 (cor C k 1)
 have b2:=h2 (cor C k 2)
 have b3:=h2 (cor C k 3)
 have i0:=iF 0 (by omega) rfl
 have o2:=oF 2 (by omega) rfl
 simp only[show(0+3)%4=3 from rfl,show(2+3)%4=1 from rfl]at i0 o2
 constructor
 · intro hpl
   have o1:=oF 1 (by omega) (by unfold Cr.comes;rw[hpl];rfl)
   have i3:=iF 3 (by omega) (by unfold Cr.comes;rw[hpl];rfl)
   simp only[show(1+3)%4=0 from rfl,show(3+3)%4=2 from rfl]at o1 i3
   simp only
   rw[i0.1,o1.1,o2.1,i3.1]
   omega
 · intro hpl
   have i1:=iF 1 (by omega) (by unfold Cr.comes;rw[hpl];rfl)
   have o3:=oF 3 (by omega) (by unfold Cr.comes;rw[hpl];rfl)
   simp only[show(1+3)%4=0 from rfl,show(3+3)%4=2 from rfl]at i1 o3
   simp only
   rw[i0.1,i1.1,o2.1,o3.1]
   omega
end Go.Proofs.Ytgagenmkpmmpfaa
/- Plain mathematics: rings and pieces where the two crossings of a face of two are passed straight. -/
namespace Go.Proofs.Ytgagenmkpmmpfaa
structure PullG (f g al:Nat->Nat) (M X Y XX YY A B K D:Nat):Prop where
 bf:Bij f M
 la:∀ x,x<M->al x<M
 aa:∀ x,x<M->al (al x)=x
 lt:X<M/\Y<M/\XX<M/\YY<M/\A<M/\B<M/\K<M/\D<M
 nd:[X,Y,XX,YY,A,B,K,D].Nodup
 ax:al X=XX
 ay:al Y=YY
 fx:f X=Y
 fy:f Y=X
 fxx:f XX=al B
 fyy:f YY=al K
 fa:f A=YY
 fb:f B=al A
 fk:f K=al D
 fd:f D=XX
 gx:g X=al K
 gy:g Y=al B
 gxx:g XX=al A
 gyy:g YY=al D
 ga:g A=X
 gb:g B=YY
 gk:g K=XX
 gd:g D=Y
 go:∀ x,x<M->x ∉ [X,Y,XX,YY,A,B,K,D]->g x=f x
theorem PullG.count {f g al:Nat->Nat} {M X Y XX YY A B K D:Nat} (h:PullG f g al M X Y XX YY A B K D):cyA g M+1=cyA (tr f B K) M:=by
 obtain⟨lx,ly,lxx,lyy,lA,lB,lK,lD⟩:=h.lt
 have nd:=h.nd
 simp only[List.nodup_cons,List.mem_cons,List.not_mem_nil,or_false,not_or,not_false_eq_true,and_true,List.nodup_nil]at nd
 obtain⟨⟨n1,n2,n3,n4,n5,n6,n7⟩,⟨m1,m2,m3,m4,m5,m6⟩,⟨k1,k2,k3,k4,k5⟩,⟨j1,j2,j3,j4⟩,⟨i1,i2,i3⟩,⟨o1,o2⟩,p1⟩:=nd
 have b1:=h.bf.tr lB lK
 -- D to XX, A to YY, X to Y: taken out
 have e1:tr f B K D=XX:=by rw[tr_o f (Ne.symm o2) (Ne.symm p1),h.fd]
 have c1:=cyA_del b1 lD e1 (Ne.symm k5)
 have b2:=b1.tr lD lxx
 have e2:tr (tr f B K) D XX A=YY:=by rw[tr_o _ i3 (Ne.symm k2),tr_o _ i1 i2,h.fa]
 have c2:=cyA_del b2 lA e2 (Ne.symm j1)
 have b3:=b2.tr lA lyy
 have e3:tr (tr (tr f B K) D XX) A YY X=Y:=by rw[tr_o _ n4 n3,tr_o _ n7 n2,tr_o _ n5 n6,h.fx]
 have c3:=cyA_del b3 lx e3 n1
 have b4:=b3.tr lx ly
 -- they lie alone
 have a1:tr (tr (tr (tr f B K) D XX) A YY) X Y XX=XX:=by rw[tr_o _ (Ne.symm n2) (Ne.symm m1),tr_o _ k2 k1,tr_b,e1]
 have a2:tr (tr (tr (tr f B K) D XX) A YY) X Y YY=YY:=by rw[tr_o _ (Ne.symm n3) (Ne.symm m2),tr_b,e2]
 have a3:tr (tr (tr (tr f B K) D XX) A YY) X Y X=X:=by rw[tr_a,tr_o _ m3 m2,tr_o _ m6 m1,tr_o _ m4 m5,h.fy]
 have a4:tr (tr (tr (tr f B K) D XX) A YY) X Y Y=Y:=by rw[tr_b,e3]
 -- laid behind others
 have c4:=cyA_ins b4 lK lxx a1 (Ne.symm k4)
 have b5:=b4.tr lK lxx
 have c5:=cyA_ins b5 lB lyy (by rw[tr_o _ j3 (Ne.symm k1),a2]) (Ne.symm j2)
 have b6:=b5.tr lB lyy
 have c6:=cyA_ins b6 lA lx (by rw[tr_o _ n5 n3,tr_o _ n6 n2,a3]) (Ne.symm n4)
 have b7:=b6.tr lA lx
 have c7:=cyA_ins b7 lD ly (by rw[tr_o _ m3 (Ne.symm n1),tr_o _ m4 m2,tr_o _ m5 m1,a4]) (Ne.symm m6)
 have e:cyA (tr (tr (tr (tr (tr (tr (tr (tr f B K) D XX) A YY) X Y) K XX) B YY) A X) D Y) M=cyA g M:=cyA_congr fun x hx=>by
  by_cases x1:x=X
  · rw[x1,h.gx,tr_o _ n7 n1,tr_b,tr_o _ i1 (Ne.symm j1),tr_o _ i2 (Ne.symm k2),tr_o _ (Ne.symm n4) (Ne.symm m3),tr_a,tr_o _ j4 (Ne.symm k1),tr_o _ j2 j3,h.fyy]
  by_cases x2:x=Y
  · rw[x2,h.gy,tr_b,tr_o _ (Ne.symm i3) (Ne.symm n7),tr_o _ (Ne.symm o2) (Ne.symm j4),tr_o _ (Ne.symm p1) (Ne.symm k5),tr_o _ (Ne.symm n7) (Ne.symm m6),tr_o _ (Ne.symm i3) (Ne.symm j4),tr_a,tr_o _ k3 k4,h.fxx]
  by_cases x3:x=XX
  · rw[x3,h.gxx,tr_o _ k5 (Ne.symm m1),tr_o _ k2 (Ne.symm n2),tr_o _ k3 k1,tr_b,tr_o _ (Ne.symm n6) (Ne.symm m5),tr_o _ (Ne.symm i2) (Ne.symm j3),tr_o _ p1 (Ne.symm k4),tr_b,h.fb]
  by_cases x4:x=YY
  · rw[x4,h.gyy,tr_o _ j4 (Ne.symm m2),tr_o _ j1 (Ne.symm n3),tr_b,tr_o _ o1 (Ne.symm k3),tr_o _ (Ne.symm n5) (Ne.symm m4),tr_o _ (Ne.symm i1) (Ne.symm j2),tr_o _ o2 (Ne.symm k3),tr_a,h.fk]
  by_cases x5:x=A
  · rw[x5,h.ga,tr_o _ i3 (Ne.symm m3),tr_a,tr_o _ n5 n3,tr_o _ n6 n2,a3]
  by_cases x6:x=B
  · rw[x6,h.gb,tr_o _ o2 (Ne.symm m4),tr_o _ (Ne.symm i1) (Ne.symm n5),tr_a,tr_o _ j3 (Ne.symm k1),a2]
  by_cases x7:x=K
  · rw[x7,h.gk,tr_o _ p1 (Ne.symm m5),tr_o _ (Ne.symm i2) (Ne.symm n6),tr_o _ (Ne.symm o1) (Ne.symm j3),tr_a,a1]
  by_cases x8:x=D
  · rw[x8,h.gd,tr_a,tr_o _ m3 (Ne.symm n1),tr_o _ m4 m2,tr_o _ m5 m1,a4]
  rw[tr_o _ x8 x2,tr_o _ x5 x1,tr_o _ x6 x4,tr_o _ x7 x3,tr_o _ x1 x2,tr_o _ x5 x4,tr_o _ x8 x3,tr_o _ x6 x7,h.go x hx (by simp only[List.mem_cons,List.not_mem_nil,or_false,not_or];exact⟨x1,x2,x3,x4,x5,x6,x7,x8⟩)]
 omega
theorem PullG.strands {f g al : Nat → Nat} {M X Y XX YY A B K D : Nat} (h : PullG f g al M X Y XX YY A B K D) {S : Nat → Prop} (hS : Closed (edb g al M) S) :
    ((S A↔S X)/\(S A↔S XX)/\(S A↔S K)/\(S A↔S (al A))/\(S A↔S (al K)))/\(S B↔S Y)/\(S B↔S YY)/\(S B↔S D)/\(S B↔S (al B))/\(S B↔S (al D)):=by
 obtain⟨lx,ly,lxx,lyy,lA,lB,lK,lD⟩:=h.lt
 obtain⟨s1,s2⟩:=closed_edb.1 hS
 have q1:=s1 A lA
 have q2:=s2 X lx
 have q3:=s1 K lK
 have q4:=s1 B lB
 have q5:=s2 Y ly
 have q6:=s1 D lD
 have r1:=s2 A lA
 have r2:=s2 K lK
 have r3:=s2 B lB
 have r4:=s2 D lD
 rw[h.ga]at q1
 rw[h.ax]at q2
 rw[h.gk]at q3
 rw[h.gb]at q4
 rw[h.ay]at q5
 rw[h.gd]at q6
 have t1:S A↔S K:=q1.trans (q2.trans q3.symm)
 have t2:S B↔S D:=q4.trans (q5.symm.trans q6.symm)
 exact⟨⟨q1,q1.trans q2,t1,r1,t1.trans r2⟩,q4.trans q5.symm,q4,t2,r3,t2.trans r4⟩
theorem PullG.one {f g al:Nat->Nat} {M X Y XX YY A B K D:Nat} (h:PullG f g al M X Y XX YY A B K D) (hn:¬ Con (eds f M) B K) {S:Nat->Prop} (hS:Closed (edb g al M) S) (hA:S A):S B:=by
 refine Classical.byContradiction fun hB=>?_
 obtain⟨lx,ly,lxx,lyy,lA,lB,lK,lD⟩:=h.lt
 have nd:=h.nd
 simp only[List.nodup_cons,List.mem_cons,List.not_mem_nil,or_false,not_or,not_false_eq_true,and_true,List.nodup_nil]at nd
 obtain⟨⟨n1,n2,n3,n4,n5,n6,n7⟩,⟨m1,m2,m3,m4,m5,m6⟩,⟨k1,k2,k3,k4,k5⟩,⟨j1,j2,j3,j4⟩,⟨i1,i2,i3⟩,⟨o1,o2⟩,p1⟩:=nd
 obtain⟨⟨a1,a2,a3,a4,a5⟩,b1,b2,b3,b4,b5⟩:=h.strands hS
 obtain⟨s1,s2⟩:=closed_edb.1 hS
 have alx:∀ z,z<M->al z=X->z=XX:=fun z hz e=>by rw[<-h.aa z hz,e,h.ax]
 have alxx:∀ z,z<M->al z=XX->z=X:=fun z hz e=>by rw[<-h.aa z hz,e,<-h.ax,h.aa X lx]
 obtain⟨p,h0,hp⟩:=period h.bf lB
 have key:∀ i,(S (it f (i+1) B)/\it f (i+1) B≠X/\it f (i+1) B≠XX)∨it f (i+1) B=YY:=by
  intro i
  induction i with
  |zero=>
   show(S (f B)/\f B≠X/\f B≠XX)∨_
   rw[h.fb]
   exact Or.inl ⟨a4.1 hA,fun e=>k2 (alx A lA e).symm,fun e=>n4 (alxx A lA e).symm⟩
  |succ i ih=>
   have hz:=it_lt h.bf lB (i+1)
   have hk:it f (i+1) B≠K:=fun q=>hn (q▸con_it h.bf lB (i+1))
   show(S (f (it f (i+1) B))/\f (it f (i+1) B)≠X/\f (it f (i+1) B)≠XX)∨f (it f (i+1) B)=YY
   generalize it f (i+1) B=z at ih hz hk ⊢
   by_cases z1:z=YY
   · rw[z1,h.fyy]
     exact Or.inl ⟨a5.1 hA,fun e=>k4 (alx K lK e).symm,fun e=>n6 (alxx K lK e).symm⟩
   obtain⟨hs,z2,z3⟩:=ih.resolve_right z1
   by_cases z4:z=A
   · exact Or.inr (by rw[z4,h.fa])
   have z5:z≠B:=fun e=>hB (e▸hs)
   have z6:z≠D:=fun e=>hB (b3.2 (e▸hs))
   have z7:z≠Y:=fun e=>hB (b1.2 (e▸hs))
   have e:=h.go z hz (by simp only[List.mem_cons,List.not_mem_nil,or_false,not_or];exact⟨z2,z7,z3,z1,z4,z5,hk,z6⟩)
   have s:=s1 z hz
   rw[e]at s
   exact Or.inl ⟨s.1 hs,fun q=>z7 (h.bf.inj z Y hz ly (by rw[q,h.fy])),fun q=>z6 (h.bf.inj z D hz lD (by rw[q,h.fd]))⟩
 have:=key (p-1)
 rw[show p-1+1=p by omega,hp]at this
 rcases this with q|q
 · exact hB q.1
 · exact j2 q.symm
end Go.Proofs.Ytgagenmkpmmpfaa

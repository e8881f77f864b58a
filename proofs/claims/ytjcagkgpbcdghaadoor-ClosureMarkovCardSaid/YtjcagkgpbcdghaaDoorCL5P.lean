/- Several texts of the proof, one behind the other. -/
import Derived.Test.YtjcagkgpbcdghaaDoorCL4P
import Derived.Test.YtjcagkgpbcdghaaDoorCL1P
/- Braids closed: the walk of closure.Close. -/
namespace Go.Proofs.YtjcagkgpbcdghaaDoor
open Go.RowKit
set_option maxHeartbeats 8000000
set_option maxRecDepth 100000
def QV6 (l:List Int) (n:Nat):List Cr:=clC l (cF l (rgs (fun p=>pl l p l.length) n).2).1 l.length
def QV5 (l:List Int) (n:Nat):Nat:=(cF l (rgs (fun p=>pl l p l.length) n).2).2.2
theorem QU7 (l:List Int) (n:Nat):(QV6 l n).length=l.length:=JJ9 _ _ _
theorem ZA3 {n:Nat} {l:List Int} (h:Qf1 (n:Int) l=0):∀ j,j<l.length->1<=(l.getD j 0).natAbs/\(l.getD j 0).natAbs<n:=fun j hj=>by
 obtain⟨-,-,h3,-⟩:=Qf5 h
 have:=h3 j hj
 omega
theorem XJ1 (a : Option Addr) (c n : Nat) (l : List Int) (w : World) (hn : Qf1 (n : Int) l = 0) (h16 : l.length ≤ 16) (h : RdAt w w.heap.size 1 (.slice a l.length c) l.length (QQ3 l)) :
    Calls Tryd.prog 6 #[.int .i64 (n:Nat),.slice a l.length c] w fun e w'=>∃ a2 c2,e=.returned (.tuple #[.agg #[.slice a2 l.length c2,.int .i64 (QV5 l n:Nat)],.int .i64 0])/\Crs w' w'.heap.size (.slice a2 l.length c2) (QV6 l n)/\Below w.heap.size w w':=by
 have hl20:=(Qf5 hn).2.2.2
 have hn6:=(Qf5 hn).2.1
 have hlet:=ZA3 hn
 have hok:=Qy8 n l (fun j hj=>(hlet j hj).2) l.length (Nat.le_refl _)
 obtain⟨Y,hY⟩:∃ Y,Y=w.alloc (.cells #[.slice none 0 0,.int .i64 0] 27):=⟨_,rfl⟩
 have HY:Hid (Y=w.alloc (.cells #[.slice none 0 0,.int .i64 0] 27)):=hY
 have HBY:Hid (Below w.heap.size w Y):=(by rw[hY];exact(Below.refl _ _).alloc (Nat.le_refl _) _:Below w.heap.size w Y)
 have HT:Hid (Y.heap[w.heap.size]?=some (.cells #[.slice none 0 0,.int .i64 0] 27 (0,0))):=(by rw[hY];exact alloc_at rfl:Y.heap[w.heap.size]?=some (.cells #[.slice none 0 0,.int .i64 0] 27 (0,0)))
 have hsY:w.heap.size<Y.heap.size:=by rw[hY];simp
 have HF:Hid (Calls Tryd.prog 12 #[.int .i64 (n:Nat),.slice a l.length c] Y fun e w'=>∃ a2 c2,e=.returned (.tuple #[.slice a2 n c2,.int .i64 0])/\RdAt w' w'.heap.size 1 (.slice a2 n c2) n (QQ3 (Qd9 (Qj2 n l l.length) n))/\Below Y.heap.size Y w'):=KC3 a c n l Y (by omega) hn ((h.on HBY.out).mono HBY.out.size)
 have HCD:Hid (∀ W a3 c3,Below w.heap.size w W->RdAt W W.heap.size 1 (.slice a3 n c3) n (QQ3 (Qd9 (Qj2 n l l.length) n))->Calls Tryd.prog 13 #[.slice a l.length c,.slice a3 n c3] W fun e w'=>∃ a2 c2,e=.returned (.agg #[.slice a2 l.length c2,.int .i64 (QV5 l n:Nat)])/\w'.ownsRow W.heap.size 72 5 (.slice a2 l.length c2) l.length (QQ7 (QV6 l n))/\Below W.heap.size W w'):=fun W a3 c3 hW hr=>Zq0 a a3 c c3 n l _ W hlet (by omega) h16 (by rw[XA9];exact hok.ln) (fun p h1 h2=>JZ9 n l hlet p h1 h2) ((h.on hW).mono hW.size) hr
 have HCN:Hid ((QV6 l n).length=l.length):=QU7 l n
 generalize QV6 l n=C at HCD HCN ⊢
 generalize QV5 l n=O at HCD ⊢
 generalize Qd9 (Qj2 n l l.length) n=T at HF HCD
 generalize l.length=m at HF HCD h16 hl20 HCN ⊢
 have h16I:¬ (16:Int)<(m:Int):=by omega
 clear h hY hn hlet hok
 go_enter Tryd.func6,Tryd.ntmps6
 go_wp2_with (go_at_call 12;rw[<-HY.out];refine HF.out.mono ?_;rintro e9 w3 ⟨a3,c3,rfl,hr3,hb3⟩;refine Hid.out ?_)
 refine Lib.hid ?_
 have HB3:Hid (Below w.heap.size w w3):=HBY.out.trans (hb3.mono HBY.out.size)
 have HT3:Hid (w3.heap[w.heap.size]?=some (.cells #[.slice none 0 0,.int .i64 0] 27 (0,0))):=(hb3.block _ hsY).trans HT.out
 have HR3:=Xf2 hr3
 clear hb3 hr3
 go_wp2_with (go_at_call 13;refine(HCD.out _ a3 c3 HB3.out HR3.out).mono ?_;rintro e9 w4 ⟨a4,c4,rfl,hr4,hb4⟩;refine Hid.out ?_)
 refine Lib.hid ?_
 have HB2:Hid (Below w.heap.size w w4):=HB3.out.trans (hb4.mono HB3.out.size)
 have HT2:Hid (w4.heap[w.heap.size]?=some (.cells #[.slice none 0 0,.int .i64 0] 27 (0,0))):=(hb4.block _ (Array.getElem?_eq_some_iff.1 HT3.out).1).trans HT3.out
 have HR4:Hid (w4.ownsRow (w.heap.size+1) 72 5 (.slice a4 m c4) m (QQ7 C)):=QZ6 hr4 (Array.getElem?_eq_some_iff.1 HT3.out).1
 clear hb4 hr4
 have c0:w4.cell? ⟨w.heap.size,0,none⟩=some (.slice none 0 0):=QQ0 HT2.out rfl
 have c1:w4.cell? ⟨w.heap.size,1,none⟩=some (.int .i64 0):=QQ0 HT2.out rfl
 have f0:w4.frozen? ⟨w.heap.size,0,none⟩=false:=QQ4 HT2.out
 have f1:w4.frozen? ⟨w.heap.size,1,none⟩=false:=QQ4 HT2.out
 have l2:=(Array.getElem?_eq_some_iff.1 HT2.out).1
 go_wp2
 obtain⟨Z,hZ⟩:∃ Z,Z=(w4.setCell ⟨w.heap.size,0,none⟩ (.slice a4 m c4)).setCell ⟨w.heap.size,1,none⟩ (.int .i64 (O:Nat)):=⟨_,rfl⟩
 have hzb:Z.heap[w.heap.size]?=some (.cells #[.slice a4 m c4,.int .i64 (O:Nat)] 27 (0,0)):=by rw[hZ,QZ0 (QZ0 HT2.out)];rfl
 have hgZ:w4.grownBy Z (some w.heap.size):=by rw[hZ];exact grown_trans (QX9 _ _ _ _) (QX9 _ _ _ _)
 rw[<-hZ]
 have x0:Z.cell? ⟨w.heap.size,0,none⟩=some (.slice a4 m c4):=QQ0 hzb rfl
 have x1:Z.cell? ⟨w.heap.size,1,none⟩=some (.int .i64 (O:Nat)):=QQ0 hzb rfl
 exact bodyPost_ret (v := .tuple #[.agg #[.slice a4 m c4, .int .i64 (O : Nat)], .int .i64 0]) (by simp [results, Tryd.results6, go_sem, x0, x1]) rfl ⟨a4, c4, rfl, by
  have h4 := HR4.out.kept hgZ (by
   cases hv:(Value.slice a4 m c4).ownBlock with
   |none=>exact Or.inl rfl
   |some q=>exact Or.inr (fun e=>by have:=(HR4.out.lt q hv).1;have:=Option.some.inj e;omega))
  have h5:Z.ownsRow (w.heap.size+1) 72 5 (.slice a4 m c4) C.length (QQ7 C):=by rw[HCN.out];exact h4
  exact JJ0 h5 (by rw[HCN.out];unfold maxLen;omega),HB2.out.grown hgZ HB2.out.size (fun q hq=>by have:=Option.some.inj hq;omega)⟩
end Go.Proofs.YtjcagkgpbcdghaaDoor
/- Plain mathematics: Euler's number of a piece: the crossings as rings, and the end. -/
namespace Go.Proofs.YtjcagkgpbcdghaaDoor
theorem Jx0 {C:List Cr} {loops:Int} (hm:QX3 C loops=true) {k s t:Nat} (hk:k<C.length) (hs:s<4) (ht:t<4) (e:pd C (4*k+s)=pd C (4*k+t)):s=t:=by
 have h1:=(Qj5 hm k s hk hs).2.2.1
 have h2:=(Qj5 hm k t hk ht).2.2.1
 rw[e]at h1
 omega
theorem Xq2 {C:List Cr} {loops:Int} (hm:QX3 C loops=true) {k:Nat} (hk:k<C.length):∃ s0,s0<4/\∀ s,s<4->(cyW (gI C 0) (4*C.length+1)).getD (pd C (4*k+s)) 0=pd C (4*k+s0):=by
 have hB:=Kw8 hm 0 (Nat.zero_le _)
 have hW:=QG3 hB.lt
 have hg:∀ s,s<4->gI C 0 (pd C (4*k+s))=pd C (4*k+(s+3)%4):=fun s hs=>by
  obtain⟨-,-,-,h3,h4⟩:=Qj5 hm k s hk hs
  rw[Zy8 h3,JF9 hm k s hk hs]
 have hlt:∀ s,s<4->pd C (4*k+s)<4*C.length+1:=fun s hs=>by have:=(Qj5 hm k s hk hs).2.2.2.2;omega
 have hcl:Closed (eds (gI C 0) (4*C.length+1)) fun z=>∃ s,s<4/\z=pd C (4*k+s):=closed_eds.2 fun z hz=>by
  constructor
  · rintro⟨s,hs,rfl⟩
    exact⟨(s+3)%4,Nat.mod_lt _ (by decide),hg s hs⟩
  · rintro⟨s,hs,e⟩
    have h:=hg ((s+1)%4) (Nat.mod_lt _ (by decide))
    rw[show((s+1)%4+3)%4=s by omega,<-e]at h
    exact⟨(s+1)%4,Nat.mod_lt _ (by decide),(hB.inj _ _ (hlt _ (Nat.mod_lt _ (by decide))) hz h).symm⟩
 have c1:∀ s,s<4->Con (eds (gI C 0) (4*C.length+1)) (pd C (4*k+s)) (pd C (4*k+(s+3)%4)):=fun s hs=>by
  rw[<-hg s hs]
  exact Xy9 (hlt s hs)
 have c0:∀ s,s<4->Con (eds (gI C 0) (4*C.length+1)) (pd C (4*k+0)) (pd C (4*k+s)):=fun s hs=>by
  have d0:=c1 0 (by decide)
  have d3:=c1 3 (by decide)
  have d2:=c1 2 (by decide)
  match s,hs with
  |0,_=>exact Con.refl _ _
  |3,_=>exact d0
  |2,_=>exact d0.trans d3
  |1,_=>exact d0.trans (d3.trans d2)
 obtain⟨s0,hs0,e0⟩:=(hW.2 _ (hlt 0 (by decide))).1 _ hcl ⟨0,by decide,rfl⟩
 refine⟨s0,hs0,fun s hs=>?_⟩
 rw[<-e0]
 exact(hW.same (hlt s hs) (hlt 0 (by decide))).2 (c0 s hs).symm
theorem Zx4 {C:List Cr} {loops:Int} (hm:QX3 C loops=true) (p:Nat) {k s:Nat} (hk:k<C.length) (hs:s<4):qD C p (pd C (4*k+s))=qC C p k:=by
 obtain⟨-,h1,-,h3,-⟩:=Qj5 hm k s hk hs
 unfold qD qC
 rw[h1,decide_eq_true h3,Bool.true_and]
theorem ZC1 {C:List Cr} {loops:Int} (hm:QX3 C loops=true) (p:Nat):cyN (gI C 0) (4*C.length+1) (qD C p)=(List.range C.length).countP (qC C p):=by
 unfold cyN
 rw[Qy1,Xw5 hm (P:=fun v=>decide ((cyW (gI C 0) (4*C.length+1)).getD v 0=v)&&qD C p v) (Qc:=qC C p) (c:=1) (by simp[qD]) ?_,Nat.one_mul]
 intro k hk
 obtain⟨s0,hs0,h⟩:=Xq2 hm hk
 have key:∀ s,s<4->(decide ((cyW (gI C 0) (4*C.length+1)).getD (pd C (4*k+s)) 0=pd C (4*k+s))&&qD C p (pd C (4*k+s)))=(decide (s0=s)&&qC C p k):=fun s hs=>by
  rw[h s hs,Zx4 hm p hk hs]
  congr 1
  by_cases e:s0=s
  · rw[e];simp
  · rw[decide_eq_false e,decide_eq_false fun q=>e (Jx0 hm hk hs0 hs q)]
 have k0:(decide ((cyW (gI C 0) (4*C.length+1)).getD (pd C (4*k)) 0=pd C (4*k))&&qD C p (pd C (4*k)))=(decide (s0=0)&&qC C p k):=key 0 (by decide)
 simp only[k0,key 1 (by decide),key 2 (by decide),key 3 (by decide)]
 cases qC C p k with
 |false=>simp
 |true=>
  match s0,hs0 with
  |0,_=>rfl
  |1,_=>rfl
  |2,_=>rfl
  |3,_=>rfl
theorem JJ4 {h Q:Nat->Bool} (m:Nat) (e:∀ t,t<m->h (2*t)=Q t/\h (2*t+1)=Q t):(List.range (2*m)).countP h=2*(List.range m).countP Q:=by
 induction m with
 |zero=>rfl
 |succ m ih=>
  have e1:=e m (by omega)
  have e2:=ih fun t ht=>e t (by omega)
  rw[show 2*(m+1)=2*m+1+1 by omega]
  simp only[List.range_succ,List.countP_append,List.countP_singleton]
  rw[e2,e1.1,e1.2]
  omega
theorem ZC2 {C:List Cr} {loops:Int} (hm:QX3 C loops=true) (p:Nat):(List.range (2*C.length)).countP (fun t=>qD C p (2*t+1))=2*(List.range C.length).countP (qC C p):=by
 have hW:=QU1 hm
 have h4 := Xw5 hm (P := qD C p) (Qc := qC C p) (c := 4) (by simp [qD]) (fun k hk => by
  have k0:qD C p (pd C (4*k))=qC C p k:=Zx4 hm p (s:=0) hk (by decide)
  rw[k0,Zx4 hm p (s:=1) hk (by decide),Zx4 hm p (s:=2) hk (by decide),Zx4 hm p (s:=3) hk (by decide)]
  cases qC C p k<;>rfl)
 rw[Xg1 _ _ (by simp[qD]),show 4*C.length=2*(2*C.length) by omega,JJ4 (h:=fun i=>qD C p (i+1)) (Q:=fun t=>qD C p (2*t+1)) (2*C.length) (fun t ht=>⟨rfl,?_⟩)]at h4
 · omega
 · obtain⟨v1,v2⟩:=Kv5 C t
   obtain⟨e1,e2⟩:=ZK4 hm t ht
   have hedge:Con (Qz0 C) (arE C t).1 (arE C t).2:=Con.edge (List.mem_map.2 ⟨t,List.mem_range.2 ht,rfl⟩)
   show qD C p (2*t+1+1)=qD C p (2*t+1)
   unfold qD
   rw[show 2*t+1+1=2*t+2 by omega,v1,v2,(hW.same e1 e2).2 hedge,decide_eq_true (show 1<=2*t+1 by omega),decide_eq_true (show 1<=2*t+2 by omega)]
theorem KZ4 {C:List Cr} {loops:Int} (hm:QX3 C loops=true) {p:Nat} (hp:p<C.length) (hr:(Qx8 C).getD p 0=p):rq (cls (arE C) (fun _=>true) C.length (2*C.length)) (qC C p) C.length=1:=by
 have hW:=QU1 hm
 have hL:=QU8 (E:=arE C) (K:=fun _=>true) (n:=C.length) (m:=2*C.length) fun t ht=>ZK4 hm t ht
 rw[ZU3]at hL
 have e:cls (arE C) (fun _=>true) C.length (2*C.length)=Qx8 C:=hL.eq hW
 rw[e,Qy1]
 have h1:(List.range C.length).count p=1:=by
  rw[List.Nodup.count List.nodup_range,if_pos (List.mem_range.2 hp)]
 rw[<-h1]
 unfold List.count
 refine List.countP_congr fun v _=>?_
 unfold qC
 simp only[Bool.and_eq_true,decide_eq_true_eq,beq_iff_eq]
 constructor
 · rintro⟨a,b⟩;omega
 · intro a
   rw[a]
   exact⟨hr,hr⟩
theorem ZX1 {C:List Cr} {loops:Int} (hm:QX3 C loops=true) (p:Nat):(QX6 C).countP (fun g=>decide ((Qx8 C).getD g 0=p))=cyN (up0 (fd C)) (4*C.length+1) (qD C p):=by
 have hW:=QU1 hm
 rw[<-Xz6 (QJ8 hm) (fun a b h1 h2 h3 h4 e=>XQ2 hm a b h1 h2 h3 h4 e) (qD C p) (by simp[qD])]
 unfold QX6
 rw[List.countP_map]
 refine List.countP_congr fun l hl=>?_
 have hb:=(Qk9 (QJ8 hm) (fun a b h1 h2 h3 h4 e=>XQ2 hm a b h1 h2 h3 h4 e) (4*C.length) (Nat.le_refl _)).1 l hl
 show decide ((Qx8 C).getD (dC C (l.getD 0 0)) 0=p)=true↔qD C p (l.getD 0 0)=true
 unfold qD
 rw[(hW.same (Kb4 hm hb.1 hb.2) (XF6 hm _ hb.1 hb.2).2.1).2 (JY4 hb.1 hb.2),decide_eq_true hb.1,Bool.true_and]
theorem ZX3 {C:List Cr} {loops:Int} (hm:QX3 C loops=true) {p:Nat} (hp:p<C.length) (hr:(Qx8 C).getD p 0=p):exN C.length (QX6 C) (Qx8 C) p<=2/\exN C.length (QX6 C) (Qx8 C) p%2=0:=by
 obtain⟨h1,h2⟩:=ZX2 hm p (ZC1 hm p) (2*C.length) (Nat.le_refl _)
 rw[KZ4 hm hp hr,ZC2 hm p,Qu1 (fun x hx=>JZ5 hx),<-ZX1 hm p] at*
 have e:exN C.length (QX6 C) (Qx8 C) p=(((QX6 C).countP (fun g=>decide ((Qx8 C).getD g 0=p)):Nat):Int)-(((List.range C.length).countP (qC C p):Nat):Int):=rfl
 rw[e]
 omega
end Go.Proofs.YtjcagkgpbcdghaaDoor
/- Plain mathematics: rings and pieces where a crossing, or two, are passed straight. -/
namespace Go.Proofs.YtjcagkgpbcdghaaDoor
def cyA (f:Nat->Nat) (M:Nat):Nat:=cyN f M fun _=>true
theorem KC8 {f:Nat->Nat} {M:Nat} (h:Bij f M) {a b:Nat} (ha:a<M) (hb:b<M) (hn:¬ Con (eds f M) a b):cyA (tr f a b) M+1=cyA f M:=by
 have:=XC2 h (fun _=>true) ha hb hn (fun _ _ _ _=>rfl) rfl
 rw[if_pos rfl]at this
 exact this
theorem KC7 {f:Nat->Nat} {M:Nat} (h:Bij f M) {a b:Nat} (ha:a<M) (hb:b<M) (hne:a≠b) (hc:Con (eds f M) a b):cyA f M+1=cyA (tr f a b) M:=by
 have:=ZU9 h (fun _=>true) ha hb hne hc (fun _ _ _ _=>rfl)
 rw[if_pos rfl]at this
 exact this
theorem Xw2 {f g:Nat->Nat} {M:Nat} (e:∀ x,x<M->f x=g x):cyA f M=cyA g M:=Qu1 e _
theorem XH0 {f:Nat->Nat} {M:Nat} (h:Bij f M) {w z:Nat} (hw:w<M) (e:f w=z) (hne:w≠z):cyA f M+1=cyA (tr f w z) M:=
 KC7 h hw (e▸h.lt w hw) hne (e▸Xy9 hw)
theorem Qy5 {f:Nat->Nat} {M:Nat} (h:Bij f M) {w z:Nat} (hw:w<M) (hz:z<M) (e:f z=z) (hne:w≠z):cyA (tr f w z) M+1=cyA f M:=by
 refine KC8 h hw hz fun hc=>hne ?_
 have hS:Closed (eds f M) fun y=>y=z:=closed_eds.2 fun i hi=>by
  constructor
  · intro q;rw[q];exact e
  · intro q;exact h.inj i z hi hz (by rw[q,e])
 exact hc.symm _ hS rfl
theorem Xj0 {E:List (Nat×Nat)} {n:Nat} {W:List Nat} (h:Least E n W) {v:Nat} (hv:v<n):W.getD v 0=v↔∀ u,Con E v u->v<=u:=by
 constructor
 · intro e u hu
   have:=(h.2 v hv).2 u hu
   omega
 · intro q
   have h1:=q _ (h.2 v hv).1
   have h2:=h.le hv
   omega
def kN (E:List (Nat×Nat)) (M:Nat):Nat:=rq (Qj3 (List.range M) E M) (fun _=>true) M
theorem JY6 {E F:List (Nat×Nat)} {M:Nat} (hE:∀ e,e∈E->e.1<M/\e.2<M) (hF:∀ e,e∈F->e.1<M/\e.2<M) (h:∀ x y,Con E x y->Con F x y):kN F M<=kN E M:=by
 have lE:=QK8 hE M (Nat.le_refl _)
 have lF:=QK8 hF M (Nat.le_refl _)
 unfold kN
 rw[Qy1,Qy1]
 refine List.countP_mono_left fun v hv q=>?_
 have hv:=List.mem_range.1 hv
 simp only[Bool.and_true,decide_eq_true_eq]at q ⊢
 exact(Xj0 lE hv).2 fun u hu=>(Xj0 lF hv).1 q u (h _ _ hu)
def edb (f a:Nat->Nat) (M:Nat):List (Nat×Nat):=eds f M++eds a M
theorem closed_edb {f a:Nat->Nat} {M:Nat} {S:Nat->Prop}:Closed (edb f a M) S↔(∀ i,i<M->(S i↔S (f i)))/\∀ i,i<M->(S i↔S (a i)):=by
 constructor
 · intro h
   exact⟨closed_eds.1 fun e he=>h e (List.mem_append_left _ he),closed_eds.1 fun e he=>h e (List.mem_append_right _ he)⟩
 · rintro⟨h1,h2⟩ e he
   rcases List.mem_append.1 he with he|he
   · exact closed_eds.2 h1 e he
   · exact closed_eds.2 h2 e he
structure CurlG (f g al:Nat->Nat) (M P Q U V:Nat):Prop where
 bf:Bij f M
 la:∀ x,x<M->al x<M
 lp:P<M
 lq:Q<M
 lu:U<M
 lv:V<M
 pq:P≠Q
 pu:P≠U
 pv:P≠V
 qu:Q≠U
 qv:Q≠V
 uv:U≠V
 aq:al P=Q
 fp:f P=P
 fq:f Q=al V
 fu:f U=Q
 fv:f V=al U
 gp:g P=al V
 gq:g Q=al U
 gu:g U=P
 gv:g V=Q
 go:∀ x,x<M->x≠P->x≠Q->x≠U->x≠V->g x=f x
theorem CurlG.count {f g al:Nat->Nat} {M P Q U V:Nat} (h:CurlG f g al M P Q U V):cyA g M+1=cyA f M:=by
 have b1:=h.bf.tr h.lu h.lq
 have c1:=XH0 h.bf h.lu h.fu (Ne.symm h.qu)
 have e1:tr f U Q P=P:=by rw[QJ0 f h.pu h.pq,h.fp]
 have c2:=Qy5 b1 h.lu h.lp e1 (Ne.symm h.pu)
 have b2:=b1.tr h.lu h.lp
 have e2:tr (tr f U Q) U P Q=Q:=by rw[QJ0 _ h.qu (Ne.symm h.pq),Xq6,h.fu]
 have c3:=Qy5 b2 h.lv h.lq e2 (Ne.symm h.qv)
 have e:cyA (tr (tr (tr f U Q) U P) V Q) M=cyA g M:=Xw2 fun x hx=>by
  by_cases x1:x=P
  · rw[x1,QJ0 _ h.pv h.pq,Xq6,XW2,h.fq,h.gp]
  · by_cases x2:x=Q
    · rw[x2,Xq6,QJ0 _ (Ne.symm h.uv) (Ne.symm h.pv),QJ0 _ (Ne.symm h.uv) (Ne.symm h.qv),h.fv,h.gq]
    · by_cases x3:x=U
      · rw[x3,QJ0 _ h.uv (Ne.symm h.qu),XW2,e1,h.gu]
      · by_cases x4:x=V
        · rw[x4,XW2,e2,h.gv]
        · rw[QJ0 _ x4 x2,QJ0 _ x3 x1,QJ0 _ x3 x2,h.go x hx x1 x2 x3 x4]
 omega
theorem CurlG.con {f g al:Nat->Nat} {M P Q U V:Nat} (h:CurlG f g al M P Q U V) (x y:Nat) (hc:Con (edb f al M) x y):Con (edb g al M) x y:=fun S hS=>by
 obtain⟨s1,s2⟩:=closed_edb.1 hS
 refine hc S (closed_edb.2 ⟨fun i hi=>?_,s2⟩)
 have a1:=s1 U h.lu
 have a2:=s2 P h.lp
 have a3:=s1 V h.lv
 have a4:=s2 U h.lu
 have a5:=s2 V h.lv
 rw[h.gu]at a1
 rw[h.aq]at a2
 rw[h.gv]at a3
 by_cases x1:i=P
 · rw[x1,h.fp]
 · by_cases x2:i=Q
   · rw[x2,h.fq,<-a5,<-a3]
   · by_cases x3:i=U
     · rw[x3,h.fu,a1,a2]
     · by_cases x4:i=V
       · rw[x4,h.fv,<-a4,a1,a2,a3]
       · rw[<-h.go i hi x1 x2 x3 x4];exact s1 i hi
end Go.Proofs.YtjcagkgpbcdghaaDoor
/- Plain mathematics: rings and pieces where the two crossings of a face of two are passed straight. -/
namespace Go.Proofs.YtjcagkgpbcdghaaDoor
structure PullG (f g al:Nat->Nat) (M X Y XX YY A B K D:Nat):Prop where
 bf:Bij f M
 la:∀ x,x<M->al x<M
 aa:∀ x,x<M->al (al x)=x
 lt:X<M/\Y<M/\XX<M/\YY<M/\A<M/\B<M/\K<M/\D<M
 nd:[X,Y,XX,YY,A,B,K,D].Nodup
 ax:al X=XX
 ay:al Y=YY
 fx:f X=Y
 fy:f Y=X
 fxx:f XX=al B
 fyy:f YY=al K
 fa:f A=YY
 fb:f B=al A
 fk:f K=al D
 fd:f D=XX
 gx:g X=al K
 gy:g Y=al B
 gxx:g XX=al A
 gyy:g YY=al D
 ga:g A=X
 gb:g B=YY
 gk:g K=XX
 gd:g D=Y
 go:∀ x,x<M->x ∉ [X,Y,XX,YY,A,B,K,D]->g x=f x
theorem PullG.count {f g al:Nat->Nat} {M X Y XX YY A B K D:Nat} (h:PullG f g al M X Y XX YY A B K D):cyA g M+1=cyA (tr f B K) M:=by
 obtain⟨lx,ly,lxx,lyy,lA,lB,lK,lD⟩:=h.lt
 have nd:=h.nd
 simp only[List.nodup_cons,List.mem_cons,List.not_mem_nil,or_false,not_or,not_false_eq_true,and_true,List.nodup_nil]at nd
 obtain⟨⟨n1,n2,n3,n4,n5,n6,n7⟩,⟨m1,m2,m3,m4,m5,m6⟩,⟨k1,k2,k3,k4,k5⟩,⟨j1,j2,j3,j4⟩,⟨i1,i2,i3⟩,⟨o1,o2⟩,p1⟩:=nd
 have b1:=h.bf.tr lB lK
 -- D to XX, A to YY, X to Y: taken out
 have e1:tr f B K D=XX:=by rw[QJ0 f (Ne.symm o2) (Ne.symm p1),h.fd]
 have c1:=XH0 b1 lD e1 (Ne.symm k5)
 have b2:=b1.tr lD lxx
 have e2:tr (tr f B K) D XX A=YY:=by rw[QJ0 _ i3 (Ne.symm k2),QJ0 _ i1 i2,h.fa]
 have c2:=XH0 b2 lA e2 (Ne.symm j1)
 have b3:=b2.tr lA lyy
 have e3:tr (tr (tr f B K) D XX) A YY X=Y:=by rw[QJ0 _ n4 n3,QJ0 _ n7 n2,QJ0 _ n5 n6,h.fx]
 have c3:=XH0 b3 lx e3 n1
 have b4:=b3.tr lx ly
 -- they lie alone
 have a1:tr (tr (tr (tr f B K) D XX) A YY) X Y XX=XX:=by rw[QJ0 _ (Ne.symm n2) (Ne.symm m1),QJ0 _ k2 k1,Xq6,e1]
 have a2:tr (tr (tr (tr f B K) D XX) A YY) X Y YY=YY:=by rw[QJ0 _ (Ne.symm n3) (Ne.symm m2),Xq6,e2]
 have a3:tr (tr (tr (tr f B K) D XX) A YY) X Y X=X:=by rw[XW2,QJ0 _ m3 m2,QJ0 _ m6 m1,QJ0 _ m4 m5,h.fy]
 have a4:tr (tr (tr (tr f B K) D XX) A YY) X Y Y=Y:=by rw[Xq6,e3]
 -- laid behind others
 have c4:=Qy5 b4 lK lxx a1 (Ne.symm k4)
 have b5:=b4.tr lK lxx
 have c5:=Qy5 b5 lB lyy (by rw[QJ0 _ j3 (Ne.symm k1),a2]) (Ne.symm j2)
 have b6:=b5.tr lB lyy
 have c6:=Qy5 b6 lA lx (by rw[QJ0 _ n5 n3,QJ0 _ n6 n2,a3]) (Ne.symm n4)
 have b7:=b6.tr lA lx
 have c7:=Qy5 b7 lD ly (by rw[QJ0 _ m3 (Ne.symm n1),QJ0 _ m4 m2,QJ0 _ m5 m1,a4]) (Ne.symm m6)
 have e:cyA (tr (tr (tr (tr (tr (tr (tr (tr f B K) D XX) A YY) X Y) K XX) B YY) A X) D Y) M=cyA g M:=Xw2 fun x hx=>by
  by_cases x1:x=X
  · rw[x1,h.gx,QJ0 _ n7 n1,Xq6,QJ0 _ i1 (Ne.symm j1),QJ0 _ i2 (Ne.symm k2),QJ0 _ (Ne.symm n4) (Ne.symm m3),XW2,QJ0 _ j4 (Ne.symm k1),QJ0 _ j2 j3,h.fyy]
  by_cases x2:x=Y
  · rw[x2,h.gy,Xq6,QJ0 _ (Ne.symm i3) (Ne.symm n7),QJ0 _ (Ne.symm o2) (Ne.symm j4),QJ0 _ (Ne.symm p1) (Ne.symm k5),QJ0 _ (Ne.symm n7) (Ne.symm m6),QJ0 _ (Ne.symm i3) (Ne.symm j4),XW2,QJ0 _ k3 k4,h.fxx]
  by_cases x3:x=XX
  · rw[x3,h.gxx,QJ0 _ k5 (Ne.symm m1),QJ0 _ k2 (Ne.symm n2),QJ0 _ k3 k1,Xq6,QJ0 _ (Ne.symm n6) (Ne.symm m5),QJ0 _ (Ne.symm i2) (Ne.symm j3),QJ0 _ p1 (Ne.symm k4),Xq6,h.fb]
  by_cases x4:x=YY
  · rw[x4,h.gyy,QJ0 _ j4 (Ne.symm m2),QJ0 _ j1 (Ne.symm n3),Xq6,QJ0 _ o1 (Ne.symm k3),QJ0 _ (Ne.symm n5) (Ne.symm m4),QJ0 _ (Ne.symm i1) (Ne.symm j2),QJ0 _ o2 (Ne.symm k3),XW2,h.fk]
  by_cases x5:x=A
  · rw[x5,h.ga,QJ0 _ i3 (Ne.symm m3),XW2,QJ0 _ n5 n3,QJ0 _ n6 n2,a3]
  by_cases x6:x=B
  · rw[x6,h.gb,QJ0 _ o2 (Ne.symm m4),QJ0 _ (Ne.symm i1) (Ne.symm n5),XW2,QJ0 _ j3 (Ne.symm k1),a2]
  by_cases x7:x=K
  · rw[x7,h.gk,QJ0 _ p1 (Ne.symm m5),QJ0 _ (Ne.symm i2) (Ne.symm n6),QJ0 _ (Ne.symm o1) (Ne.symm j3),XW2,a1]
  by_cases x8:x=D
  · rw[x8,h.gd,XW2,QJ0 _ m3 (Ne.symm n1),QJ0 _ m4 m2,QJ0 _ m5 m1,a4]
  rw[QJ0 _ x8 x2,QJ0 _ x5 x1,QJ0 _ x6 x4,QJ0 _ x7 x3,QJ0 _ x1 x2,QJ0 _ x5 x4,QJ0 _ x8 x3,QJ0 _ x6 x7,h.go x hx (by simp only[List.mem_cons,List.not_mem_nil,or_false,not_or];exact⟨x1,x2,x3,x4,x5,x6,x7,x8⟩)]
 omega
theorem PullG.strands {f g al : Nat → Nat} {M X Y XX YY A B K D : Nat} (h : PullG f g al M X Y XX YY A B K D) {S : Nat → Prop} (hS : Closed (edb g al M) S) :
    ((S A↔S X)/\(S A↔S XX)/\(S A↔S K)/\(S A↔S (al A))/\(S A↔S (al K)))/\(S B↔S Y)/\(S B↔S YY)/\(S B↔S D)/\(S B↔S (al B))/\(S B↔S (al D)):=by
 obtain⟨lx,ly,lxx,lyy,lA,lB,lK,lD⟩:=h.lt
 obtain⟨s1,s2⟩:=closed_edb.1 hS
 have q1:=s1 A lA
 have q2:=s2 X lx
 have q3:=s1 K lK
 have q4:=s1 B lB
 have q5:=s2 Y ly
 have q6:=s1 D lD
 have r1:=s2 A lA
 have r2:=s2 K lK
 have r3:=s2 B lB
 have r4:=s2 D lD
 rw[h.ga]at q1
 rw[h.ax]at q2
 rw[h.gk]at q3
 rw[h.gb]at q4
 rw[h.ay]at q5
 rw[h.gd]at q6
 have t1:S A↔S K:=q1.trans (q2.trans q3.symm)
 have t2:S B↔S D:=q4.trans (q5.symm.trans q6.symm)
 exact⟨⟨q1,q1.trans q2,t1,r1,t1.trans r2⟩,q4.trans q5.symm,q4,t2,r3,t2.trans r4⟩
theorem PullG.one {f g al:Nat->Nat} {M X Y XX YY A B K D:Nat} (h:PullG f g al M X Y XX YY A B K D) (hn:¬ Con (eds f M) B K) {S:Nat->Prop} (hS:Closed (edb g al M) S) (hA:S A):S B:=by
 refine Classical.byContradiction fun hB=>?_
 obtain⟨lx,ly,lxx,lyy,lA,lB,lK,lD⟩:=h.lt
 have nd:=h.nd
 simp only[List.nodup_cons,List.mem_cons,List.not_mem_nil,or_false,not_or,not_false_eq_true,and_true,List.nodup_nil]at nd
 obtain⟨⟨n1,n2,n3,n4,n5,n6,n7⟩,⟨m1,m2,m3,m4,m5,m6⟩,⟨k1,k2,k3,k4,k5⟩,⟨j1,j2,j3,j4⟩,⟨i1,i2,i3⟩,⟨o1,o2⟩,p1⟩:=nd
 obtain⟨⟨a1,a2,a3,a4,a5⟩,b1,b2,b3,b4,b5⟩:=h.strands hS
 obtain⟨s1,s2⟩:=closed_edb.1 hS
 have alx:∀ z,z<M->al z=X->z=XX:=fun z hz e=>by rw[<-h.aa z hz,e,h.ax]
 have alxx:∀ z,z<M->al z=XX->z=X:=fun z hz e=>by rw[<-h.aa z hz,e,<-h.ax,h.aa X lx]
 obtain⟨p,h0,hp⟩:=period h.bf lB
 have key:∀ i,(S (it f (i+1) B)/\it f (i+1) B≠X/\it f (i+1) B≠XX)∨it f (i+1) B=YY:=by
  intro i
  induction i with
  |zero=>
   show(S (f B)/\f B≠X/\f B≠XX)∨_
   rw[h.fb]
   exact Or.inl ⟨a4.1 hA,fun e=>k2 (alx A lA e).symm,fun e=>n4 (alxx A lA e).symm⟩
  |succ i ih=>
   have hz:=Qh7 h.bf lB (i+1)
   have hk:it f (i+1) B≠K:=fun q=>hn (q▸Ku9 h.bf lB (i+1))
   show(S (f (it f (i+1) B))/\f (it f (i+1) B)≠X/\f (it f (i+1) B)≠XX)∨f (it f (i+1) B)=YY
   generalize it f (i+1) B=z at ih hz hk ⊢
   by_cases z1:z=YY
   · rw[z1,h.fyy]
     exact Or.inl ⟨a5.1 hA,fun e=>k4 (alx K lK e).symm,fun e=>n6 (alxx K lK e).symm⟩
   obtain⟨hs,z2,z3⟩:=ih.resolve_right z1
   by_cases z4:z=A
   · exact Or.inr (by rw[z4,h.fa])
   have z5:z≠B:=fun e=>hB (e▸hs)
   have z6:z≠D:=fun e=>hB (b3.2 (e▸hs))
   have z7:z≠Y:=fun e=>hB (b1.2 (e▸hs))
   have e:=h.go z hz (by simp only[List.mem_cons,List.not_mem_nil,or_false,not_or];exact⟨z2,z7,z3,z1,z4,z5,hk,z6⟩)
   have s:=s1 z hz
   rw[e]at s
   exact Or.inl ⟨s.1 hs,fun q=>z7 (h.bf.inj z Y hz ly (by rw[q,h.fy])),fun q=>z6 (h.bf.inj z D hz lD (by rw[q,h.fd]))⟩
 have:=key (p-1)
 rw[show p-1+1=p by omega,hp]at this
 rcases this with q|q
 · exact hB q.1
 · exact j2 q.symm
end Go.Proofs.YtjcagkgpbcdghaaDoor

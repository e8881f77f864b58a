/- Moves: the walk of bench.onOneFace. -/
import Derived.Test.YtagaajlbkfkaiaaMV5
import Derived.Test.YtagaajlbkfkaiaaF2P
import Derived.Deep.LoopGhost
namespace Go.Proofs.Ytagaajlbkfkaiaa
open Go.RowKit
set_option maxHeartbeats 4000000
set_option maxRecDepth 100000
theorem d_same {i j:Nat} (h1:1<=i) (h2:1<=j):(((dA i:Nat):Int)==((dA j:Nat):Int)&&dB i==dB j)=decide (i=j):=by
 by_cases h:i=j
 · subst h
   simp
 · have:¬ (dA i=dA j/\dB i=dB j):=fun⟨e1,e2⟩=>h (by rw[<-mk_d h1,<-mk_d h2,e1,e2])
   simp only[h,decide_false]
   cases hb:(((dA i:Nat):Int)==((dA j:Nat):Int)&&dB i==dB j) with
   |false=>rfl
   |true=>
    simp at hb
    exact absurd ⟨by omega,hb.2⟩ this
theorem onOneFace_any (a:Option Addr) (cap:Nat) (C:List Cr) (loops:Int) (gF cF gT cT:Nat) (u v:Nat) (g:Nat->Nat) (p:Nat) (b:Bool) (w:World) (hm:mayD C loops=true) (hu:1<=u) (hv:1<=v) (hd:Dr w a cap C gF gT)
    (hg0:g 0=u) (hgs:∀ r,g (r+1)=fd C (g r)) (hgl:∀ r,1<=g r/\g r<=4*C.length) (hp:0<p) (hgp:g p=u) (hne:∀ r,0<r->r<p->g r≠u) (hb:b=true↔∃ r,0<r/\r<p/\g r=v):
    Calls Try.prog 110 #[drV a cap C loops gF cF gT cT,.agg #[.int .i64 (dA u:Nat),.bool (dB u)],.agg #[.int .i64 (dA v:Nat),.bool (dB v)]] w fun e w'=>e=.returned (.bool b)/\Below w.heap.size w w':=by
 have HD:=QQ1 hd
 have HON:=QQ1 (fun(j:Nat) (W:World) (h1:1<=j) (h2:j<=4*C.length) (hW:Dr W a cap C gF gT)=>onward_any a cap C loops gF cF gT cT j W hm h1 h2 hW)
 unfold drV at HON ⊢
 have HG:=QQ1 (And.intro hgs (And.intro hgl (And.intro hne hb)))
 have HGP:=QQ1 hgp
 have HG1:Hid (g 1=fd C u):=(by rw[<-hg0];exact hgs 0)
 have HU4:Hid (u<=4*C.length):=(by rw[<-hg0];exact(hgl 0).2)
 clear hg0 hgs hgl hne hb hgp hd hm
 obtain⟨Y,hY⟩:∃ Y,Y=((w.alloc (.cells #[.slice a C.length cap,.int .i64 loops,.slice (some ⟨gF,0,none⟩) (2*C.length+1) cF,.slice (some ⟨gT,0,none⟩) (2*C.length+1) cT] 63)).alloc (.cells #[.int .i64 (dA u:Nat),.bool (dB u)] 26)).alloc (.cells #[.int .i64 (dA v:Nat),.bool (dB v)] 26):=⟨_,rfl⟩
 have HY:=QQ1 hY
 have HBY:Hid (Below w.heap.size w Y):=(by rw[hY];exact QV1 _ _ _ _)
 have HT0:Hid (Y.heap[w.heap.size]?=some (.cells #[.slice a C.length cap,.int .i64 loops,.slice (some ⟨gF,0,none⟩) (2*C.length+1) cF,.slice (some ⟨gT,0,none⟩) (2*C.length+1) cT] 63 (0,0))):=(by rw[hY];exact alloc_old (alloc_old (alloc_at rfl)))
 have HT1:Hid (Y.heap[w.heap.size+1]?=some (.cells #[.int .i64 (dA u:Nat),.bool (dB u)] 26 (0,0))):=(by rw[hY];exact alloc_old (alloc_at (by simp)))
 have HT2:Hid (Y.heap[w.heap.size+1+1]?=some (.cells #[.int .i64 (dA v:Nat),.bool (dB v)] 26 (0,0))):=(by rw[hY];exact alloc_at (by simp))
 have hsY:Y.heap.size=w.heap.size+3:=by rw[hY];simp
 clear hY
 go_enter Try.func110,Try.ntmps110
 go_wp2_with (go_at_call 95;rw[<-HY.out];refine(HON.out u _ hu HU4.out (HD.out.on HBY.out)).mono ?_;rw[<-HG1.out];rintro e9 w3 ⟨rfl,hb3⟩;refine Hid.out ?_)
 refine Lib.hid ?_
 have HB3:=QQ1 hb3
 have hs3:=hb3.size
 clear hb3
 obtain⟨V,hV⟩:∃ V,V=w3.alloc (.cells #[.int .i64 (dA (g 1):Nat),.bool (dB (g 1))] 26):=⟨_,rfl⟩
 have HV:=QQ1 hV
 have hsV:V.heap.size=w3.heap.size+1:=by rw[hV];simp
 have HBV:Hid (Below Y.heap.size Y V):=(by rw[hV];exact HB3.out.alloc (by omega) _)
 have HQ:Hid (V.heap[w3.heap.size]?=some (.cells #[.int .i64 (dA (g 1):Nat),.bool (dB (g 1))] 26 (0,0))):=(by rw[hV];exact alloc_at rfl)
 clear hV
 go_wp2
 rw[<-HV.out]
 go_loopg [7] (p-1) (fun k v7 wr=>∃ r q:Nat,0<r/\r<=p/\k=p-r/\v7=.pointer (some ⟨q,0,none⟩)/\Y.heap.size<=q/\Hid (wr.heap[q]?=some (.cells #[.int .i64 (dA (g r):Nat),.bool (dB (g r))] 26 (0,0)))/\Hid (∀ i,0<i->i<r->g i≠v)/\Hid (Below Y.heap.size Y wr))
 case atStart=>exact⟨1,w3.heap.size,by omega,by omega,rfl,rfl,by omega,HQ.out,(fun i h1 h2=>by omega),HBV.out⟩
 case round=>
  obtain⟨r,q,hr0,hrp,hk,rfl,hq,hQ,hN,hB⟩:=hrel
  rename World=>W1
  have hsW:=hB.out.size
  have HBW:=QQ1 hB.out
  have HQ1:=QQ1 hQ.out
  have HN1:=QQ1 hN.out
  have hqs:q<W1.heap.size:=(Array.getElem?_eq_some_iff.1 hQ.out).1
  have HDW:Hid (∀ W,Below W1.heap.size W1 W->Dr W a cap C gF gT):=fun W hW=>HD.out.on (HBY.out.trans ((HBW.out.mono (by omega)).trans (hW.mono (by omega))))
  have hgr:=HG.out.2.1 r
  have c0:=QQ0 (i:=0) ((HBW.out.block _ (by omega)).trans HT0.out) rfl
  have c1:=QQ0 (i:=1) ((HBW.out.block _ (by omega)).trans HT0.out) rfl
  have c2:=QQ0 (i:=2) ((HBW.out.block _ (by omega)).trans HT0.out) rfl
  have c3:=QQ0 (i:=3) ((HBW.out.block _ (by omega)).trans HT0.out) rfl
  have u0:=QQ0 (i:=0) ((HBW.out.block _ (by omega)).trans HT1.out) rfl
  have u1:=QQ0 (i:=1) ((HBW.out.block _ (by omega)).trans HT1.out) rfl
  have v0:=QQ0 (i:=0) ((HBW.out.block _ (by omega)).trans HT2.out) rfl
  have v1:=QQ0 (i:=1) ((HBW.out.block _ (by omega)).trans HT2.out) rfl
  have d0:=QQ0 (i:=0) hQ.out rfl
  have d1:=QQ0 (i:=1) hQ.out rfl
  have l0:w.heap.size<W1.heap.size:=by omega
  have l1:w.heap.size+1<W1.heap.size:=by omega
  have l2:w.heap.size+1+1<W1.heap.size:=by omega
  have HNX:=QQ1 (HG.out.1 r)
  clear hQ hN hB
  by_cases hrl:r=p
  · subst hrl
    have HF:Hid (b=false):=(by
     cases hb:b with
     |false=>rfl
     |true=>
      obtain⟨i,h1,h2,h3⟩:=HG.out.2.2.2.1 hb
      exact absurd h3 (HN1.out i h1 h2))
    have hq1:∀ W,(Op.equalIn 10000 26 (.agg #[.int .i64 (dA (g r):Nat),.bool (dB (g r))]) (.agg #[.int .i64 (dA u:Nat),.bool (dB u)])).run Try.prog W=.ok true W:=fun W=>by rw[eqDart,d_same hgr.1 hu,HGP.out];simp
    clear hk hgr
    go_wp2
    go_ret
    exact⟨QX8 HF.out,HBY.out.trans (HBW.out.mono (by omega))⟩
  · have hru:g r≠u:=HG.out.2.2.1 r hr0 (by omega)
    have hq1:∀ W,(Op.equalIn 10000 26 (.agg #[.int .i64 (dA (g r):Nat),.bool (dB (g r))]) (.agg #[.int .i64 (dA u:Nat),.bool (dB u)])).run Try.prog W=.ok false W:=fun W=>by rw[eqDart,d_same hgr.1 hu];simp[hru]
    clear hru
    by_cases hrv:g r=v
    · have HF:Hid (b=true):=(HG.out.2.2.2.2 ⟨r,hr0,by omega,hrv⟩)
      have hq2:∀ W,(Op.equalIn 10000 26 (.agg #[.int .i64 (dA (g r):Nat),.bool (dB (g r))]) (.agg #[.int .i64 (dA v:Nat),.bool (dB v)])).run Try.prog W=.ok true W:=fun W=>by rw[eqDart,d_same hgr.1 hv,hrv];simp
      clear hrv hk hgr
      go_wp2
      go_ret
      exact⟨QX8 HF.out,HBY.out.trans (HBW.out.mono (by omega))⟩
    · have hq2:∀ W,(Op.equalIn 10000 26 (.agg #[.int .i64 (dA (g r):Nat),.bool (dB (g r))]) (.agg #[.int .i64 (dA v:Nat),.bool (dB v)])).run Try.prog W=.ok false W:=fun W=>by rw[eqDart,d_same hgr.1 hv];simp[hrv]
      have HNN:Hid (∀ i,0<i->i<r+1->g i≠v):=fun i h1 h2=>by
       by_cases e:i=r
       · rw[e];exact hrv
       · exact HN1.out i h1 (by omega)
      have HGR:=QQ1 hgr
      have HKE:=QQ1 hk
      clear hrv hgr hk
      obtain⟨Z,hZ⟩:∃ Z,Z=W1.alloc (.cells #[.int .i64 (dA (g r):Nat),.bool (dB (g r))] 26):=⟨_,rfl⟩
      have HZ:=QQ1 hZ
      have HBZ:Hid (Below W1.heap.size W1 Z):=(by rw[hZ];exact(Below.refl _ _).alloc (Nat.le_refl _) _)
      have hsZ:Z.heap.size=W1.heap.size+1:=by rw[hZ];simp
      have HQZ:Hid (Z.heap[W1.heap.size]?=some (.cells #[.int .i64 (dA (g r):Nat),.bool (dB (g r))] 26 (0,0))):=(by rw[hZ];exact alloc_at rfl)
      clear hZ
      go_wp2_with (go_at_call 95;rw[<-HZ.out];refine(HON.out (g r) _ HGR.out.1 HGR.out.2 (HDW.out _ HBZ.out)).mono ?_;rw[<-HNX.out];rintro e9 w5 ⟨rfl,hb5⟩;refine Hid.out ?_)
      refine Lib.hid ?_
      have HB5:=QQ1 hb5
      have hs5:=hb5.size
      have hq5:=(hb5.block _ (by omega)).trans HQZ.out
      have HQ5:=QQ1 hq5
      have e0:=QQ0 (i:=0) hq5 rfl
      have e1:=QQ0 (i:=1) hq5 rfl
      have z0:=QQ2 (i:=0) hq5
      have z1:=QQ2 (i:=1) hq5
      have l5:W1.heap.size<w5.heap.size:=by omega
      clear hb5 hq5
      go_wp2
      go_roundg (p-(r+1))
      case measure=>have:=HKE.out;omega
      case rel=>exact⟨r+1,W1.heap.size,by omega,by omega,rfl,rfl,by omega,QQ6 (QQ6 HQ5.out),HNN.out,((HBW.out.trans (HBZ.out.mono (by omega))).trans (HB5.out.mono (by omega))).grown (QQ8 (QQ7 _ _ _ _) (QQ7 _ _ _ _)) (by omega) (fun k hk=>by have:=Option.some.inj hk;omega)⟩
end Go.Proofs.Ytagaajlbkfkaiaa

/- Several texts of the proof, one behind the other. -/
import Derived.Test.YtjcagkgpbcdghaaDoorCL1P
import Derived.Test.YtjcagkgpbcdghaaDoorCL0P
import Derived.Test.YtjcagkgpbcdghaaDoorW3P
import Derived.Deep.Cut
import Derived.Test.YtjcagkgpbcdghaaDoorH7
import Derived.Test.YtjcagkgpbcdghaaDoorTG1P
/- Braids closed: the walk of closure.closed. -/
namespace Go.Proofs.YtjcagkgpbcdghaaDoor
open Go.RowKit
set_option maxHeartbeats 8000000
set_option maxRecDepth 100000
theorem JH3:(Tryd.prog.info? 74).map (fun i=>(i.zero,i.size,i.bytes))=some (some (.agg #[.int .i64 0,.int .i64 0,.int .i64 0,.int .i64 0]),4,32):=by kernel_rfl
theorem KH1 (m:Nat):(madeCells (Value.agg #[.int .i64 0,.int .i64 0,.int .i64 0,.int .i64 0]).cells (m*4)).toList=crV m (fun _=>0):=by
 have e:(Value.agg #[.int .i64 0,.int .i64 0,.int .i64 0,.int .i64 0]).cells=#[.int .i64 0,.int .i64 0,.int .i64 0,.int .i64 0]:=rfl
 rw[e]
 apply List.ext_getElem?
 intro j
 by_cases hj:j<m*4
 · rw[XH1 m (fun _=>0) j (by omega)]
   have hm:j%4=0∨j%4=1∨j%4=2∨j%4=3:=by omega
   simp only[madeCells]
   rcases hm with h|h|h|h<;>simp[hj,h]
 · rw[List.getElem?_eq_none (by simp[madeCells];omega),List.getElem?_eq_none (by unfold crV;rw[XK3,QB3];omega)]
theorem XC9 (n:Nat):(madeCells (Value.agg #[.int .i64 0,.int .i64 0,.int .i64 0,.int .i64 0,.bool false]).cells (n*5)).toList=QQ7 (List.replicate n Cr.none):=by
 have e:(Value.agg #[.int .i64 0,.int .i64 0,.int .i64 0,.int .i64 0,.bool false]).cells=#[.int .i64 0,.int .i64 0,.int .i64 0,.int .i64 0,.bool false]:=rfl
 rw[e]
 apply List.ext_getElem?
 intro j
 by_cases hj:j<n*5
 · obtain⟨q0,q1,q2,q3,q4⟩:=XJ2 (List.replicate n Cr.none) (j / 5) (by simp;omega)
   have eg:(List.replicate n Cr.none).getD (j / 5) Cr.none=Cr.none:=by
    rw[List.getD_eq_getElem?_getD,List.getElem?_replicate];split<;>rfl
   rw[eg]at q0 q1 q2 q3 q4
   have hm:j%5=0∨j%5=1∨j%5=2∨j%5=3∨j%5=4:=by omega
   simp only[madeCells]
   rcases hm with h|h|h|h|h
   · rw[show j / 5*5=j by omega]at q0;rw[q0];simp[hj,h,Cr.none]
   · rw[show j / 5*5+1=j by omega]at q1;rw[q1];simp[hj,h,Cr.none]
   · rw[show j / 5*5+2=j by omega]at q2;rw[q2];simp[hj,h,Cr.none]
   · rw[show j / 5*5+3=j by omega]at q3;rw[q3];simp[hj,h,Cr.none]
   · rw[show j / 5*5+4=j by omega]at q4;rw[q4];simp[hj,h,Cr.none]
 · rw[List.getElem?_eq_none (by simp[madeCells];omega),List.getElem?_eq_none (by rw[Qd8];simp;omega)]
structure CdAtC (w:World) (g m:Nat) (G:Nat->Int) (ar:Option Addr) (nr cr:Nat) (L:List (List Nat)) (W:World):Prop where
 box:W.heap[w.heap.size]?=some (.cells #[.slice none 0 0,.int .i64 0] 27 (0,0))
 row:W.ownsRow (w.heap.size+1) 74 4 (.slice (some ⟨g,0,none⟩) m m) m (crV m G)
 rings:NatsOwn W (w.heap.size+1) (.slice ar nr cr) L
 bel:Below w.heap.size w W
theorem CdAtC.any {w:World} {g m:Nat} {G:Nat->Int} {ar:Option Addr} {nr cr:Nat} {L:List (List Nat)} {W W':World} (h:CdAtC w g m G ar nr cr L W) (hg:W.grownBy W' none):CdAtC w g m G ar nr cr L W':=
 ⟨(hg.block _ (Array.getElem?_eq_some_iff.1 h.box).1 (by simp)).trans h.box,own_any h.row hg,h.rings.any hg,h.bel.grown hg h.bel.size (fun q hq=>by cases hq)⟩
theorem CdAtC.num {w:World} {g m:Nat} {G G':Nat->Int} {ar:Option Addr} {nr cr:Nat} {L:List (List Nat)} {W W':World} (h:CdAtC w g m G ar nr cr L W) (hg:W.grownBy W' (some g)) (hr:W'.ownsRow (w.heap.size+1) 74 4 (.slice (some ⟨g,0,none⟩) m m) m (crV m G')):CdAtC w g m G' ar nr cr L W':=by
 have hlt:=(h.row.lt g rfl).1
 obtain⟨ys,h1,h2,h3⟩:=h.rings
 exact⟨(hg.block _ (Array.getElem?_eq_some_iff.1 h.box).1 (fun e=>by have:=Option.some.inj e;omega)).trans h.box,hr,⟨ys,h1,h2.kept hg (own_ne h2 h.row (by decide)),fun j hj=>(h3 j hj).kept hg (own_ne (h3 j hj) h.row (by decide))⟩,h.bel.grown hg h.bel.size (fun q hq=>by have:=Option.some.inj hq;omega)⟩
def Xx0 (l:List Int) (G:Nat->Int) (m k:Nat):List Cr:=(List.range m).map fun i=>if i<k then clX l G i else Cr.none
theorem Qq8 (l:List Int) (G:Nat->Int) (m k:Nat):(Xx0 l G m k).length=m:=by simp[Xx0]
theorem KW1 (l:List Int) (G:Nat->Int) (m:Nat):List.replicate m Cr.none=Xx0 l G m 0:=by
 apply List.ext_getElem?
 intro j
 by_cases hj:j<m<;>simp[Xx0,hj]
theorem Kq9 (l:List Int) (G:Nat->Int) (m:Nat):Xx0 l G m m=clC l G m:=List.map_congr_left fun _ hj=>if_pos (List.mem_range.1 hj)
theorem KW2 (l:List Int) (G:Nat->Int) (m k:Nat):(Xx0 l G m k).set k (clX l G k)=Xx0 l G m (k+1):=by
 apply List.ext_getElem?
 intro j
 rw[List.getElem?_set,Qq8]
 by_cases hj:j<m
 · by_cases e:k=j
   · subst e;simp[Xx0,hj]
   · rw[if_neg e]
     simp only[Xx0,List.getElem?_map,List.getElem?_range hj,Option.map_some]
     congr 1
     by_cases h2:j<k
     · rw[if_pos h2,if_pos (by omega)]
     · rw[if_neg h2,if_neg (by omega)]
 · rw[List.getElem?_eq_none (show(Xx0 l G m (k+1)).length<=j by rw[Qq8];omega)]
   split
   · rw[if_neg (by omega)]
   · rw[List.getElem?_eq_none (by rw[Qq8];omega)]
theorem Kd9 (l:List Int) (G:Nat->Int) (k:Nat):toX (l.getD k 0) (G (sw (k*4))) (G (sw (k*4+1))) (G (sw (k*4+2))) (G (sw (k*4+3)))=clX l G k:=by
 have e0:sw (k*4)=4*k:=by unfold sw;rw[if_neg (by omega),if_neg (by omega)];omega
 have e1:sw (k*4+1)=4*k+1:=by unfold sw;rw[if_neg (by omega),if_neg (by omega)];omega
 have e2:sw (k*4+2)=4*k+3:=by unfold sw;rw[if_pos (by omega)];omega
 have e3:sw (k*4+3)=4*k+2:=by unfold sw;rw[if_neg (by omega),if_pos (by omega)];omega
 rw[e0,e1,e2,e3]
 rfl
theorem Zq0 (a ae : Option Addr) (c ce n : Nat) (l T : List Int) (w : World) (hw : ∀ j, j < l.length → 1 ≤ (l.getD j 0).natAbs ∧ (l.getD j 0).natAbs < n) (hn : n ≤ 6) (hl : l.length ≤ 16) (hT : T.length = n) (hTE : ∀ p, 1 ≤ p → p ≤ n → T.getD (p - 1) 0 = (pl l p l.length : Int))
    (h:RdAt w w.heap.size 1 (.slice a l.length c) l.length (QQ3 l)) (he:RdAt w w.heap.size 1 (.slice ae n ce) n (QQ3 T)):
    Calls Tryd.prog 13 #[.slice a l.length c,.slice ae n ce] w fun e w'=>∃ a2 c2,e=.returned (.agg #[.slice a2 l.length c2,.int .i64 ((cF l (rgs (fun p=>pl l p l.length) n).2).2.2:Nat)])/\w'.ownsRow w.heap.size 72 5 (.slice a2 l.length c2) l.length (QQ7 (clC l (cF l (rgs (fun p=>pl l p l.length) n).2).1 l.length))/\Below w.heap.size w w':=by
 obtain⟨i4,hk,hx0,hx1,hx2⟩:=info_parts JH3
 obtain⟨i5,hj,hy0,hy1,hy2⟩:=info_parts KJ1
 obtain⟨i3,hp,hv0,hv1,hv2⟩:=info_parts Kw4
 have HE:Hid (∀ p,1<=p->p<=n->1<=(fun p=>pl l p l.length) p/\(fun p=>pl l p l.length) p<=n):=fun p h1 h2=>XU6 hw h1 h2 l.length (Nat.le_refl _)
 obtain⟨L,hL⟩:∃ L,(rgs (fun p=>pl l p l.length) n).2=L:=⟨_,rfl⟩
 have HLL:Hid (L.length<=6):=(by rw[<-hL];have:=Xd1 (fun p=>pl l p l.length) n;omega:L.length<=6)
 have HLM:Hid (∀ r∈L,r.length<=7/\∀ q∈r,1<=q/\q<=n):=(by rw[<-hL];exact Xd0 _ n HE.out n (Nat.le_refl _):∀ r∈L,r.length<=7/\∀ q∈r,1<=q/\q<=n)
 have HLE:Hid (∀ k,k<=L.length->(cF l (L.take k)).2.1<=112*k/\(cF l (L.take k)).2.2<=k):=JB1 l hl L (fun r hr=>(HLM.out r hr).1)
 have HRI:Hid (∀ W,Below w.heap.size w W->Calls Tryd.prog 28 #[.slice ae n ce] W fun e w'=>∃ v,e=.returned v/\NatsOwn w' W.heap.size v L/\Below W.heap.size W w'):=fun W hW=>by rw[<-hL];exact rings_any ae ce n T (fun p=>pl l p l.length) W hn hT HE.out hTE ((he.on hW).mono hW.size)
 have HCL:Hid (∀ W p,Below w.heap.size w W->1<=p->p<=n->Calls Tryd.prog 29 #[.slice a l.length c,.int .i64 (p:Nat)] W fun e w'=>∃ a2 c2,e=.returned (.slice a2 (cl l p l.length).length c2)/\w'.ownsRow W.heap.size 98 3 (.slice a2 (cl l p l.length).length c2) (cl l p l.length).length (psV (cl l p l.length))/\Below W.heap.size W w'):=fun W p hW h1 h2=>ZX6 a c n p l W hw hn h1 h2 (by omega) ((h.on hW).mono hW.size)
 have HLT:Hid (∀ j,j<l.length->1<=(l.getD j 0).natAbs/\(l.getD j 0).natAbs<n):=hw
 have HRD:Hid (RdAt w w.heap.size 1 (.slice a l.length c) l.length (QQ3 l)):=h
 have HWL:Hid (∀ r:List Nat,(wk l r).length<=r.length*l.length):=Zx9 l
 have HWM:Hid (∀ (r:List Nat) (q:Nat×Nat),q∈wk l r->q.1<l.length/\q.2<2):=fun r q hq=>Xx5 l r q hq
 have HCN:Hid (∀ p,(cl l p l.length).length<=16):=fun p=>Nat.le_trans (ZK2 l p l.length) hl
 have HWA:Hid (∀ (r:List Nat) (p:Nat),wk l (r++[p])=wk l r++cl l p l.length):=Kz8 l
 rw[hL]
 clear hL h he hw hT hTE HE
 obtain⟨m,hm⟩:∃ m,l.length=m:=⟨_,rfl⟩
 have HM:Hid (l.length=m):=hm
 rw[hm]at HCL HLT HWL HWM HCN HWA hl ⊢
 clear hm
 obtain⟨Y,hY⟩:∃ Y,Y=w.alloc (.cells #[.slice none 0 0,.int .i64 0] 27):=⟨_,rfl⟩
 have HY:Hid (Y=w.alloc (.cells #[.slice none 0 0,.int .i64 0] 27)):=hY
 have hsY:Y.heap.size=w.heap.size+1:=by rw[hY];simp
 have HSY:Hid (Y.heap.size=w.heap.size+1):=hsY
 have HBY:Hid (Below w.heap.size w Y):=(by rw[hY];exact(Below.refl _ _).alloc (Nat.le_refl _) _:Below w.heap.size w Y)
 have HTY:Hid (Y.heap[w.heap.size]?=some (.cells #[.slice none 0 0,.int .i64 0] 27 (0,0))):=(by rw[hY];exact alloc_at rfl:Y.heap[w.heap.size]?=some (.cells #[.slice none 0 0,.int .i64 0] 27 (0,0)))
 clear hY hsY
 go_enter Tryd.func13,Tryd.ntmps13
 go_wp2_with (first|(at_make;rw[<-HY.out];refine wpList_make_full _ rfl _ _ 66 rfl Y.heap.size 74 i4 (.agg #[.int .i64 0,.int .i64 0,.int .i64 0,.int .i64 0]) 4 Tryd.underlying66 hk hx0 hx1 .i64 .i64 _ _ m rfl rfl rfl rfl (by rw[hx2];omega) (by unfold maxLen;omega) (by simp) ?_;intro w1 hrow1 hg1;refine Hid.out ?_))
 refine Lib.hid ?_
 rw[KH1 m]at hrow1
 obtain⟨g,hg⟩:∃ g,Y.heap.size=g:=⟨_,rfl⟩
 rw[hg]at hrow1 ⊢
 have HG:Hid (g=w.heap.size+1):=(by rw[<-hg];exact HSY.out:g=w.heap.size+1)
 have HR1:Hid (w1.ownsRow (w.heap.size+1) 74 4 (.slice (some ⟨g,0,none⟩) m m) m (crV m (fun _=>0))):=(by rw[<-HG.out];exact hrow1:w1.ownsRow (w.heap.size+1) 74 4 (.slice (some ⟨g,0,none⟩) m m) m (crV m (fun _=>0)))
 have HB1:Hid (Below w.heap.size w w1):=HBY.out.grown hg1 HBY.out.size (fun q hq=>by cases hq)
 have HT1:Hid (w1.heap[w.heap.size]?=some (.cells #[.slice none 0 0,.int .i64 0] 27 (0,0))):=(hg1.block _ (by have:=HSY.out;omega) (by simp)).trans HTY.out
 have HS1:Hid (w.heap.size+1<=w1.heap.size):=(by have h1:=hg1.size;have:=HSY.out;omega:w.heap.size+1<=w1.heap.size)
 clear hrow1 hg1 hg HBY HTY HY HSY
 go_wp2_with (go_at_call 28;refine(HRI.out _ HB1.out).mono ?_;rintro e9 w2 ⟨v2,rfl,hr2,hb2⟩;refine Hid.out ?_)
 refine Lib.hid ?_
 obtain⟨ar,cr,ev⟩:=hr2.slice
 obtain⟨nr,hnr⟩:∃ nr,L.length=nr:=⟨_,rfl⟩
 have HNR:Hid (L.length=nr):=hnr
 rw[hnr]at ev HLE HLL
 subst ev
 have HC2:Hid (CdAtC w g m (cF l (L.take 0)).1 ar nr cr L w2):=⟨(hb2.block _ (by have:=HS1.out;omega)).trans HT1.out,own_any HR1.out (grown_below hb2 none),hr2.low HS1.out,HB1.out.trans (hb2.mono HB1.out.size)⟩
 have hnr6:nr<=6:=HLL.out
 clear hr2 hb2 hnr HR1 HB1 HT1 HS1
 go_wp2
 go_loopw [6,7,22] (fun v6 v7 v22 wr=>∃ (j ac lo:Nat),j<=nr/\ac<=112*j/\lo<=j/\v6=.int .i64 (ac:Nat)/\v7=.int .i64 (lo:Nat)/\v22=.int .i64 (j:Nat)/\Hid ((cF l (L.take j)).2.1=ac/\(cF l (L.take j)).2.2=lo)/\Hid (CdAtC w g m (cF l (L.take j)).1 ar nr cr L wr)) (fun _ _ v22 _=>nr-(intOf v22).toNat)
 case atStart=>exact⟨0,0,0,Nat.zero_le _,Nat.le_refl _,Nat.le_refl _,rfl,rfl,rfl,⟨rfl,rfl⟩,HC2.out⟩
 case round=>
  clear HC2
  rename World=>W1
  obtain⟨j,ac,lo,hjn,hac,hlo,rfl,rfl,rfl,HAL,hC⟩:=hrel
  by_cases hjl:j<nr
  · have hjI:(j:Int)<(nr:Int):=by omega
    have hrd:=hC.out.rings.rd
    rw[<-HNR.out]at hrd
    obtain⟨b,off,arr,crr,ea,hlt,hc,hrow⟩:=hrd.row j (by rw[HNR.out];exact hjl)
    have hmem:L.getD j []∈L:=by rw[List.getD_eq_getElem?_getD,List.getElem?_eq_getElem (by rw[HNR.out];exact hjl)];exact List.getElem_mem _
    have hmm:=HLM.out _ hmem
    have HQN : Hid (cF l (L.take (j + 1)) = cS l (cF l (L.take j)) (L.getD j [])) := (by
     rw[List.take_succ_eq_append_getElem (by rw[HNR.out];exact hjl),XQ4,List.getD_eq_getElem?_getD,List.getElem?_eq_getElem (by rw[HNR.out];exact hjl)]
     rfl:cF l (L.take (j+1))=cS l (cF l (L.take j)) (L.getD j []))
    clear hrd hmem
    obtain⟨r,hr⟩:∃ r,L.getD j []=r:=⟨_,rfl⟩
    rw[hr]at hc hrow hmm HQN
    have HRM:Hid (∀ q∈r,1<=q/\q<=n):=hmm.2
    obtain⟨k,hk⟩:∃ k,r.length=k:=⟨_,rfl⟩
    have HK:Hid (r.length=k):=hk
    have hk7:k<=7:=by rw[<-hk];exact hmm.1
    have HRW:Hid (RdAt W1 W1.heap.size 1 (.slice arr r.length crr) r.length (QK9 r)):=hrow
    rw[hk]at hc
    have HEA:Hid (ar=some ⟨b,off,none⟩):=ea
    have hlo6:lo<=6:=by omega
    have hac6:ac<=1000:=by omega
    subst ea
    clear hk hmm hrow hr
    go_wp2
    go_loopw [10,28] (fun v10 v28 ws=>∃ (i n10 c10:Nat) (a10:Option Addr),i<=k/\n10<=16*i/\v28=.int .i64 (i:Nat)/\v10=.slice a10 n10 c10/\Hid ((wk l (r.take i)).length=n10)/\Hid (ws.ownsRow W1.heap.size 98 3 (.slice a10 n10 c10) n10 (psV (wk l (r.take i))))/\Hid (Below W1.heap.size W1 ws)) (fun _ v28 _=>k-(intOf v28).toNat)
    case atStart=>exact⟨0,0,0,none,Nat.zero_le _,Nat.le_refl _,rfl,rfl,rfl,World.ownsRow_nil _ _ _ _,Below.refl _ _⟩
    case round=>
     rename World=>W2
     obtain⟨i,n10,c10,a10,hik,hn10,rfl,rfl,HN10,hO,hB⟩:=hrel
     by_cases hil:i<k
     · have hiI:(i:Int)<(k:Int):=by omega
       obtain⟨b3,off3,ea3,hlt3,hc3⟩:=(HRW.out.on hB.out).nat i (by rw[HK.out];exact hil)
       have hqm:=HRM.out (r.getD i 0) (by rw[List.getD_eq_getElem?_getD,List.getElem?_eq_getElem (by rw[HK.out];exact hil)];exact List.getElem_mem _)
       have HTK : Hid (wk l (r.take (i + 1)) = wk l (r.take i) ++ cl l (r.getD i 0) m) := (by
        rw[List.take_succ_eq_append_getElem (by rw[HK.out];exact hil),HWA.out,List.getD_eq_getElem?_getD,List.getElem?_eq_getElem (by rw[HK.out];exact hil)]
        rfl:wk l (r.take (i+1))=wk l (r.take i)++cl l (r.getD i 0) m)
       obtain⟨p,hpp⟩:∃ p,r.getD i 0=p:=⟨_,rfl⟩
       rw[hpp]at hc3 hqm HTK
       have HF:=HCL.out W2 p (hC.out.bel.trans (hB.out.mono hC.out.bel.size)) hqm.1 hqm.2
       have hcn:=HCN.out p
       obtain⟨n2,hn2⟩:∃ n2,(cl l p m).length=n2:=⟨_,rfl⟩
       rw[hn2]at HF hcn
       have HN2:Hid ((cl l p m).length=n2):=hn2
       have HFF:Hid (Calls Tryd.prog 29 #[.slice a m c,.int .i64 (p:Nat)] W2 fun e w'=>∃ a2 c2,e=.returned (.slice a2 n2 c2)/\w'.ownsRow W2.heap.size 98 3 (.slice a2 n2 c2) n2 (psV (cl l p m))/\Below W2.heap.size W2 w'):=HF
       have lb3:b3<W2.heap.size:=Nat.lt_of_lt_of_le hlt3 hB.out.size
       subst ea3
       clear HF hn2 hpp
       go_wp2_with (first
        |(at_builtin;refine QC1 rfl _ _ 68 rfl W1.heap.size 98 i3 (.agg #[.int .i64 0,.int .i64 0,.int .i64 0]) 3 24 Tryd.underlying68 hp hv0 hv1 hv2 rfl (by decide) _ _ _ rfl HO5.out _ w5.heap.size n2 (psV (cl l p m)) rfl HI5.out (by rw[Kh2,HN2.out]) (Kh1 _) (by unfold maxLen;omega) (by omega) HB5.out.2 ?_;intro v8 w8 hown8 hg8;refine Hid.out ?_)
        |(go_at_call 29;refine HFF.out.mono ?_;rintro e9 w5 ⟨a5,c5,rfl,hr5,hb5⟩;have HO5:Hid (w5.ownsRow W1.heap.size 98 3 (.slice a10 n10 c10) n10 (psV (wk l (r.take i)))):=own_any hO.out (grown_below hb5 none);have HI5:Hid (InAt w5 w5.heap.size 3 (.slice a5 n2 c5) n2 (psV (cl l p m))):=Xx8 hr5;have HB5:Hid (Below W1.heap.size W1 w5/\W1.heap.size<=w5.heap.size):=⟨hB.out.trans (hb5.mono hB.out.size),Nat.le_trans hB.out.size hb5.size⟩;clear hr5 hb5))
       refine Lib.hid ?_
       obtain⟨a8,c8,rfl⟩:=QZ7 hown8
       have HO8:Hid (w8.ownsRow W1.heap.size 98 3 (.slice a8 (n10+n2) c8) (n10+n2) (psV (wk l (r.take (i+1))))):=(by rw[HTK.out,Xd4];exact hown8:w8.ownsRow W1.heap.size 98 3 (.slice a8 (n10+n2) c8) (n10+n2) (psV (wk l (r.take (i+1)))))
       have HB8:Hid (Below W1.heap.size W1 w8):=HB5.out.1.grown hg8 HB5.out.2 (fun q hq=>(HO5.out.lt q hq).1)
       have HL8:Hid ((wk l (r.take (i+1))).length=n10+n2):=(by rw[HTK.out,List.length_append,HN10.out,HN2.out]:(wk l (r.take (i+1))).length=n10+n2)
       clear hown8 hg8
       go_wp2
       go_roundw
       case rel=>exact⟨i+1,n10+n2,c8,a8,by omega,by omega,by go_num,rfl,HL8.out,HO8.out,HB8.out⟩
       case measure=>simp only[intOf];omega
     · obtain rfl:i=k:=by omega
       have HTW:Hid (r.take i=r):=(by rw[<-HK.out];exact List.take_length:r.take i=r)
       rw[HTW.out]at HN10 hO
       have hC2:=hC.out.any (grown_below hB.out none)
       have HNU : Hid (Calls Tryd.prog 30 #[.slice (some ⟨g, 0, none⟩) m m, .slice a10 n10 c10, .int .i64 (ac : Nat)] W2 fun e w' => e = .returned (.tuple #[]) ∧ CdAtC w g m (cF l (L.take (j + 1))).1 (some ⟨b, off, none⟩) nr cr L w') := (by
        have h1:=ZH1 (w.heap.size+1) W1.heap.size g m m ac a10 c10 (wk l r) (cF l (L.take j)).1 W2 (by omega) (by rw[HN10.out];omega) (HWM.out r) hC2.row (by rw[HN10.out];exact hO.out)
        rw[HN10.out]at h1
        refine h1.mono ?_
        rintro e9 w9 ⟨rfl,h2,h3⟩
        refine⟨rfl,hC2.num h3 ?_⟩
        rw[HQN.out]
        unfold cS
        rw[HAL.out.1]
        exact h2)
       have HLO : Hid ((cF l (L.take (j + 1))).2.1 = ac + n10 ∧ (cF l (L.take (j + 1))).2.2 = lo + if n10 = 0 then 1 else 0) := (by
        rw[HQN.out]
        unfold cS
        rw[HAL.out.1,HAL.out.2,HN10.out]
        exact⟨rfl,rfl⟩:(cF l (L.take (j+1))).2.1=ac+n10/\(cF l (L.take (j+1))).2.2=lo+if n10=0 then 1 else 0)
       have hacn:ac+n10<=112*(j+1):=by omega
       clear hC2
       by_cases h0:n10=0
       · have t0:((n10:Int)==0)=true:=by rw[h0];rfl
         rw[if_pos h0]at HLO
         clear h0
         go_wp2_with (go_at_call 30;refine HNU.out.mono ?_;rintro e9 w9 ⟨rfl,h9⟩;have H9:Hid (CdAtC w g m (cF l (L.take (j+1))).1 (some ⟨b,off,none⟩) nr cr L w9):=h9;clear h9)
         go_roundw
         case rel=>exact⟨j+1,ac+n10,lo+1,by omega,hacn,by omega,by go_num,by go_num,by go_num,HLO.out,H9.out⟩
         case measure=>simp only[intOf];omega
       · have t0:((n10:Int)==0)=false:=by rw[beq_eq_false_iff_ne];omega
         rw[if_neg h0]at HLO
         clear h0
         go_wp2_with (go_at_call 30;refine HNU.out.mono ?_;rintro e9 w9 ⟨rfl,h9⟩;have H9:Hid (CdAtC w g m (cF l (L.take (j+1))).1 (some ⟨b,off,none⟩) nr cr L w9):=h9;clear h9)
         go_roundw
         case rel=>exact⟨j+1,ac+n10,lo,by omega,hacn,by omega,by go_num,rfl,by go_num,HLO.out,H9.out⟩
         case measure=>simp only[intOf];omega
  · obtain rfl:j=nr:=by omega
    have HTL:Hid (L.take j=L):=(by rw[<-HNR.out];exact List.take_length:L.take j=L)
    rw[HTL.out]at HAL hC
    obtain⟨G,hG⟩:∃ G,(cF l L).1=G:=⟨_,rfl⟩
    have HGG:Hid ((cF l L).1=G):=hG
    rw[hG]at hC
    clear hG hjl HLE HRI HCL HWL HWM HCN HWA HLM
    have HLO:Hid ((cF l L).2.2=lo):=HAL.out.2
    go_wp2_with (first|(at_make;refine wpList_make_full _ rfl _ _ 25 rfl W1.heap.size 72 i5 (.agg #[.int .i64 0,.int .i64 0,.int .i64 0,.int .i64 0,.bool false]) 5 Tryd.underlying25 hj hy0 hy1 .i64 .i64 _ _ m rfl rfl rfl rfl (by rw[hy2];omega) (by unfold maxLen;omega) (by simp) ?_;intro w5 hrow hg5;refine Hid.out ?_))
    refine Lib.hid ?_
    rw[XC9 m,KW1 l G m]at hrow
    have HR5:Hid (w5.ownsRow W1.heap.size 72 5 (.slice (some ⟨W1.heap.size,0,none⟩) m m) m (QQ7 (Xx0 l G m 0))):=hrow
    have HC5:Hid (CdAtC w g m G ar j cr L w5):=hC.out.any hg5
    have hgl:w.heap.size<W1.heap.size:=(Array.getElem?_eq_some_iff.1 hC.out.box).1
    generalize W1.heap.size=g7 at HR5 hgl ⊢
    clear hrow hg5 hC
    go_wp2
    go_loopw [57] (fun v57 wr=>∃ k:Nat,k<=m/\v57=.int .i64 (k:Nat)/\Hid (CdAtC w g m G ar j cr L wr)/\Hid (wr.ownsRow g7 72 5 (.slice (some ⟨g7,0,none⟩) m m) m (QQ7 (Xx0 l G m k)))) (fun v57 _=>m-(intOf v57).toNat)
    case atStart=>exact⟨0,Nat.zero_le _,rfl,HC5.out,HR5.out⟩
    case round=>
     clear HC5 HR5
     rename World=>W2
     obtain⟨k,hkm,rfl,hst,hrw⟩:=hrel
     by_cases hkl:k<m
     · have hkI:(k:Int)<(m:Int):=by omega
       obtain⟨b,off,ea,hlt,hc⟩:=(HRD.out.on hst.out.bel).intAt k (by rw[HM.out];exact hkl)
       have e0:=hst.out.row.cellAt (k*4) (by omega)
       have e1:=hst.out.row.cellAt (k*4+1) (by omega)
       have e2:=hst.out.row.cellAt (k*4+2) (by omega)
       have e3:=hst.out.row.cellAt (k*4+3) (by omega)
       rw[XH1 _ _ _ (by omega)]at e0 e1 e2 e3
       have HX:=Kd9 l G k
       have HNX:=KW2 l G m k
       generalize l.getD k 0=x at hc HX
       generalize G (sw (k*4))=A0 at e0 HX
       generalize G (sw (k*4+1))=A1 at e1 HX
       generalize G (sw (k*4+2))=A2 at e2 HX
       generalize G (sw (k*4+3))=A3 at e3 HX
       have HTD:Hid (∀ W,Calls Tryd.prog 31 #[.agg #[.int .i64 A0,.int .i64 A1,.int .i64 A2,.int .i64 A3],.int .i64 x] W fun e w'=>∃ y:Cr,y=clX l G k/\e=.returned (.agg #[.int .i64 y.a,.int .i64 y.b,.int .i64 y.c,.int .i64 y.d,.bool y.plus])/\Below W.heap.size W w'):=fun W=>(Zq1 x A0 A1 A2 A3 W).mono fun e w' h=>⟨_,HX,h.1,h.2⟩
       have HNXT:=Xf2 HNX
       have lg:=(hst.out.row.lt g rfl).2
       have l7a:=(hrw.out.lt g7 rfl).2
       have lb:b<W2.heap.size:=Nat.lt_of_lt_of_le hlt hst.out.bel.size
       subst ea
       clear HX HNX
       go_wp2_with (go_at_call 31;refine(HTD.out _).mono ?_;rintro e9 w7 ⟨y,hy,rfl,hb7⟩;have HXX:Hid (y=clX l G k):=hy;clear hy;refine Hid.out ?_)
       refine Lib.hid ?_
       have HS7:Hid (CdAtC w g m G ar j cr L w7):=hst.out.any (grown_below hb7 none)
       have hr7:w7.ownsRow g7 72 5 (.slice (some ⟨g7,0,none⟩) m m) m (QQ7 (Xx0 l G m k)):=own_any hrw.out (grown_below hb7 none)
       have hp:=Jq7 (c:=k) hr7 (by rw[Qq8];exact hkl) y
       have hnx:=HNXT.out
       rw[<-HXX.out]at hnx
       rw[hnx]at hp
       have hcl:(QQ7 (Xx0 l G m k)).length=m*5:=by rw[Qd8,Qq8]
       have HP:Hid ((JU2 w7 g7 k y).ownsRow g7 72 5 (.slice (some ⟨g7,0,none⟩) m m) m (QQ7 (Xx0 l G m (k+1)))/\w7.grownBy (JU2 w7 g7 k y) (some g7)):=hp
       obtain⟨cg0,cg1,cg2,cg3,cg4⟩:=XJ2 (Xx0 l G m k) k (by rw[Qq8];exact hkl)
       have v0:=(hr7.cellAt (k*5) (by omega)).trans cg0
       have v1:=(hr7.cellAt (k*5+1) (by omega)).trans cg1
       have v2:=(hr7.cellAt (k*5+2) (by omega)).trans cg2
       have v3:=(hr7.cellAt (k*5+3) (by omega)).trans cg3
       have v4:=(hr7.cellAt (k*5+4) (by omega)).trans cg4
       have y0:w7.frozen? ⟨g7,k*5,none⟩=false:=hr7.frozenAt _
       have y1:w7.frozen? ⟨g7,k*5+1,none⟩=false:=hr7.frozenAt _
       have y2:w7.frozen? ⟨g7,k*5+2,none⟩=false:=hr7.frozenAt _
       have y3:w7.frozen? ⟨g7,k*5+3,none⟩=false:=hr7.frozenAt _
       have y4:w7.frozen? ⟨g7,k*5+4,none⟩=false:=hr7.frozenAt _
       have l7:=(hr7.lt g7 rfl).2
       have HSQ : Hid (CdAtC w g m G ar j cr L (JU2 w7 g7 k y)) := (by
        obtain⟨ys,h1,h2,h3⟩:=HS7.out.rings
        have hgr:=HP.out.2
        exact⟨(hgr.block _ (Array.getElem?_eq_some_iff.1 HS7.out.box).1 (fun e=>by have:=Option.some.inj e;omega)).trans HS7.out.box,HS7.out.row.kept hgr (own_ne HS7.out.row hr7 (by decide)),⟨ys,h1,h2.kept hgr (own_ne h2 hr7 (by decide)),fun j hj=>(h3 j hj).kept hgr (own_ne (h3 j hj) hr7 (by decide))⟩,HS7.out.bel.grown hgr HS7.out.bel.size (fun q hq=>by have:=Option.some.inj hq;omega)⟩)
       clear hb7 hp hcl hnx cg0 cg1 cg2 cg3 cg4 hr7 e0 e1 e2 e3 hst hrw
       generalize (Xx0 l G m k).getD k Cr.none=y9 at v0 v1 v2 v3 v4
       go_wp2
       obtain⟨Q,hQ⟩:∃ Q,Q=JU2 w7 g7 k y:=⟨_,rfl⟩
       have HFN : Hid (CdAtC w g m G ar j cr L Q ∧ Q.ownsRow g7 72 5 (.slice (some ⟨g7, 0, none⟩) m m) m (QQ7 (Xx0 l G m (k + 1)))) := (by
        rw[hQ]
        exact⟨HSQ.out,HP.out.1⟩)
       unfold JU2 at hQ
       rw[<-hQ]
       clear hQ v0 v1 v2 v3 v4 y0 y1 y2 y3 y4
       go_roundw
       case rel=>exact⟨k+1,by omega,by go_num,HFN.out.1,HFN.out.2⟩
       case measure=>simp only[intOf];omega
     · obtain rfl:k=m:=by omega
       have HFN:Hid (W2.ownsRow g7 72 5 (.slice (some ⟨g7,0,none⟩) k k) k (QQ7 (clC l (cF l L).1 k))/\Below w.heap.size w W2):=⟨by rw[HGG.out,<-Kq9];exact hrw.out,hst.out.bel⟩
       have HBX:Hid (W2.heap[w.heap.size]?=some (.cells #[.slice none 0 0,.int .i64 0] 27 (0,0))):=hst.out.box
       have r0:W2.cell? ⟨w.heap.size,0,none⟩=some (.slice none 0 0):=QQ0 HBX.out rfl
       have r1:W2.cell? ⟨w.heap.size,1,none⟩=some (.int .i64 0):=QQ0 HBX.out rfl
       have f0:W2.frozen? ⟨w.heap.size,0,none⟩=false:=QQ4 HBX.out
       have f1:W2.frozen? ⟨w.heap.size,1,none⟩=false:=QQ4 HBX.out
       have lw:w.heap.size<W2.heap.size:=(Array.getElem?_eq_some_iff.1 HBX.out).1
       clear hst hrw
       go_wp2
       have hX:=QZ0 (i:=1) (u:=.int .i64 (lo:Nat)) (QZ0 (i:=0) (u:=.slice (some ⟨g7,0,none⟩) k k) HBX.out)
       have x0:=QQ0 (i:=0) (v:=.slice (some ⟨g7,0,none⟩) k k) hX rfl
       have x1:=QQ0 (i:=1) (v:=.int .i64 (lo:Nat)) hX rfl
       refine bodyPost_ret (v:=.agg #[.slice (some ⟨g7,0,none⟩) k k,.int .i64 (lo:Nat)]) (by simp[results,Tryd.results13,go_sem,x0,x1]) rfl ⟨some ⟨g7,0,none⟩,k,by rw[HLO.out],?_,?_⟩
       · refine QZ6 ((HFN.out.1.kept (QX9 _ _ _ _) ?_).kept (QX9 _ _ _ _) ?_) (by omega)
         · exact Or.inr (fun e=>by have h1:g7=w.heap.size:=Option.some.inj e;omega)
         · exact Or.inr (fun e=>by have h1:g7=w.heap.size:=Option.some.inj e;omega)
       · have hst:∀ (W:World) (u:Value) (i:Nat),Below w.heap.size w W->Below w.heap.size w (W.setCell ⟨w.heap.size,i,none⟩ u):=fun W u i h=>h.grown (QX9 W w.heap.size i u) h.size (fun q hq=>by have:=Option.some.inj hq;omega)
         exact hst _ _ _ (hst _ _ _ HFN.out.2)
end Go.Proofs.YtjcagkgpbcdghaaDoor
/- The walks of Drawing.Onward and ref.NextDart. -/
namespace Go.Proofs.YtjcagkgpbcdghaaDoor
open Go.RowKit
set_option maxHeartbeats 4000000
set_option maxRecDepth 100000
theorem ZH0 (a : Option Addr) (cap : Nat) (C : List Cr) (loops : Int) (gF cF gT cT : Nat) (j : Nat) (w : World) (hm : QX3 C loops = true) (h1 : 1 ≤ j) (h2 : j ≤ 4 * C.length) (hD : Dr w a cap C gF gT) :
    Calls Tryd.prog 89 #[drV a cap C loops gF cF gT cT,.agg #[.int .i64 (dA j:Nat),.bool (dB j)]] w fun e w'=>e=.returned (.agg #[.int .i64 (dA (fd C j):Nat),.bool (dB (fd C j))])/\Below w.heap.size w w':=by
 have HM:Hid (QX3 C loops=true):=hm
 have hA:=Qx7 h1 h2
 obtain⟨-,hi,hs⟩:=XF6 hm j h1 h2
 obtain⟨f1,f2,-,-⟩:=XY1 hm j h1 h2
 have HF1:Hid ((C.getD (dC C j) Cr.none).arc ((dS C j+3)%4)=(dA (fd C j):Int)):=f1
 have HF2:Hid ((C.getD (dC C j) Cr.none).comes ((dS C j+3)%4)=dB (fd C j)):=f2
 obtain⟨i,hci⟩:∃ i,dC C j=i:=⟨_,rfl⟩
 obtain⟨k,hck⟩:∃ k,dS C j=k:=⟨_,rfl⟩
 have HE:Hid (∀ W,Dr W a cap C gF gT->Calls Tryd.prog 69 #[drV a cap C loops gF cF gT cT,.agg #[.int .i64 (dA j:Nat),.bool (dB j)]] W fun e w'=>e=.returned (.agg #[.int .i64 (i:Nat),.int .i64 (k:Nat)])/\Below W.heap.size W w'):=fun W hW=>by
  rw[<-hci,<-hck]
  exact XG9 a cap C loops gF cF gT cT (dA j) (dB j) W hm hA.1 hA.2 hW
 rw[hci,hck]at HF1 HF2
 rw[hci]at hi
 rw[hck]at hs
 generalize dA (fd C j)=zA at HF1 ⊢
 generalize dB (fd C j)=zB at HF2 ⊢
 obtain⟨k2,hk2⟩:∃ k2:Nat,k2=(k+3)%4:=⟨_,rfl⟩
 rw[<-hk2]at HF1 HF2
 have e0:IntKind.i64.wrap ((k:Int)+4)=(k:Int)+4:=IntWalk.i64_in _ (by omega)
 have e1:IntKind.i64.wrap ((k:Int)+4-1)=(k:Int)+4-1:=IntWalk.i64_in _ (by omega)
 have e2:((k:Int)+4-1).tmod 4=(k2:Int):=by rw[Int.tmod_eq_emod_of_nonneg (by omega)];omega
 have hk24:k2<4:=by omega
 have HD:Hid (Dr w a cap C gF gT):=hD
 clear hk2 hci hck f1 f2 hm hD
 obtain⟨b,off,rfl,hbw,hC⟩:=HD.out.cross (by omega)
 have HC:Hid (CrossAt w b off C):=hC
 unfold drV
 unfold drV at HE
 generalize dA j=jA at HE hA ⊢
 generalize dB j=jB at HE ⊢
 obtain⟨w0,hw0⟩:∃ w0,w0=((w.alloc (.cells #[.slice (some ⟨b,off,none⟩) C.length cap,.int .i64 loops,.slice (some ⟨gF,0,none⟩) (2*C.length+1) cF,.slice (some ⟨gT,0,none⟩) (2*C.length+1) cT] 44)).alloc (.cells #[.int .i64 jA,.bool jB] 125)).alloc (.cells #[.int .i64 0,.bool false] 125):=⟨_,rfl⟩
 have HW0:Hid (w0=((w.alloc (.cells #[.slice (some ⟨b,off,none⟩) C.length cap,.int .i64 loops,.slice (some ⟨gF,0,none⟩) (2*C.length+1) cF,.slice (some ⟨gT,0,none⟩) (2*C.length+1) cT] 44)).alloc (.cells #[.int .i64 jA,.bool jB] 125)).alloc (.cells #[.int .i64 0,.bool false] 125)):=hw0
 have hs0:w0.heap.size=w.heap.size+3:=by rw[hw0];simp
 have HB0:Hid (Below w.heap.size w w0):=(by rw[hw0];exact XY3 _ _ _ _:Below w.heap.size w w0)
 have HT0:Hid (w0.heap[w.heap.size]?=some (.cells #[.slice (some ⟨b,off,none⟩) C.length cap,.int .i64 loops,.slice (some ⟨gF,0,none⟩) (2*C.length+1) cF,.slice (some ⟨gT,0,none⟩) (2*C.length+1) cT] 44 (0,0))):=(by rw[hw0];exact alloc_old (alloc_old (alloc_at rfl)):w0.heap[w.heap.size]?=some (.cells #[.slice (some ⟨b,off,none⟩) C.length cap,.int .i64 loops,.slice (some ⟨gF,0,none⟩) (2*C.length+1) cF,.slice (some ⟨gT,0,none⟩) (2*C.length+1) cT] 44 (0,0)))
 have HT2:Hid (w0.heap[w.heap.size+1+1]?=some (.cells #[.int .i64 0,.bool false] 125 (0,0))):=(by rw[hw0];exact alloc_at (by simp):w0.heap[w.heap.size+1+1]?=some (.cells #[.int .i64 0,.bool false] 125 (0,0)))
 have HD0:Hid (Dr w0 (some ⟨b,off,none⟩) cap C gF gT):=HD.out.on HB0.out
 clear hw0 hC
 go_enter Tryd.func89,Tryd.ntmps89
 go_wp2_with (go_at_call 69;rw[<-HW0.out];refine(HE.out _ HD0.out).mono ?_;rintro e9 w1 ⟨rfl,hb1⟩;refine Hid.out ?_)
 refine Lib.hid ?_
 have hs1:=hb1.size
 have g0:=(hb1.block _ (by omega)).trans HT0.out
 have HG2:Hid (w1.heap[w.heap.size+1+1]?=some (.cells #[.int .i64 0,.bool false] 125 (0,0))):=(hb1.block _ (by omega)).trans HT2.out
 have HB1:Hid (Below w.heap.size w w1):=HB0.out.trans (hb1.mono (by omega))
 have p0:w1.cell? ⟨w.heap.size,0,none⟩=some (.slice (some ⟨b,off,none⟩) C.length cap):=QQ0 g0 rfl
 have p1:w1.cell? ⟨w.heap.size,1,none⟩=some (.int .i64 loops):=QQ0 g0 rfl
 have p2:w1.cell? ⟨w.heap.size,2,none⟩=some (.slice (some ⟨gF,0,none⟩) (2*C.length+1) cF):=QQ0 g0 rfl
 have p3:w1.cell? ⟨w.heap.size,3,none⟩=some (.slice (some ⟨gT,0,none⟩) (2*C.length+1) cT):=QQ0 g0 rfl
 have l0:w.heap.size<w1.heap.size:=by omega
 obtain⟨X,hX⟩:∃ X,X=w1.alloc (.cells #[.int .i64 i,.int .i64 k2] 118):=⟨_,rfl⟩
 have HX:Hid (X=w1.alloc (.cells #[.int .i64 i,.int .i64 k2] 118)):=hX
 have H1X:Hid (Below w1.heap.size w1 X):=(by rw[hX];exact(Below.refl _ _).alloc (Nat.le_refl _) _:Below w1.heap.size w1 X)
 have hsX:X.heap.size=w1.heap.size+1:=by rw[hX];simp
 have HBX:Hid (Below w.heap.size w X):=HB1.out.trans (H1X.out.mono HB1.out.size)
 have HCX:Hid (CrossAt X b off C):=HC.out.on HBX.out hbw
 clear hb1 g0 hX
 go_wp2_with (go_at_call 96;rw[<-HX.out];refine(Qk8 b off cap C loops _ _ i k2 _ hi hk24 (by omega) HCX.out).mono ?_;rw[HF1.out,HF2.out];rintro e9 w2 ⟨rfl,hb2⟩;refine Hid.out ?_)
 refine Lib.hid ?_
 have hs2:=hb2.size
 have g2:=(hb2.block _ (by omega)).trans ((H1X.out.block _ (by omega)).trans HG2.out)
 have r0:=QQ0 (i:=0) (v:=.int .i64 0) g2 rfl
 have r1:=QQ0 (i:=1) (v:=.bool false) g2 rfl
 have f0:=QQ4 (i:=0) g2
 have f1:=QQ4 (i:=1) g2
 have lr:w.heap.size+1+1<w2.heap.size:=by omega
 have HB2:Hid (Below w.heap.size w w2):=HBX.out.trans (hb2.mono (by omega))
 have HGG:Hid (w2.heap[w.heap.size+1+1]?=some (.cells #[.int .i64 0,.bool false] 125 (0,0))):=g2
 clear hb2 g2 p0 p1 p2 p3
 go_wp2
 have hX2:=QZ0 (i:=1) (u:=.bool zB) (QZ0 (i:=0) (u:=.int .i64 zA) HGG.out)
 have x0:=QQ0 (i:=0) (v:=.int .i64 zA) hX2 rfl
 have x1:=QQ0 (i:=1) (v:=.bool zB) hX2 rfl
 exact bodyPost_ret (v:=.agg #[.int .i64 zA,.bool zB]) (by simp[results,Tryd.results89,go_sem,x0,x1]) rfl ⟨rfl,HB2.out.grown (QV9 w2 (w.heap.size+1+1) 0 (.int .i64 zA) (.bool zB)) (by omega) (fun q hq=>by have:=Option.some.inj hq;omega)⟩
end Go.Proofs.YtjcagkgpbcdghaaDoor
/- The walk of ref.FacesOf. -/
namespace Go.Proofs.YtjcagkgpbcdghaaDoor
open Go.RowKit
def dd (l:List Nat):List (Nat×Bool):=l.map fun j=>(dA j,dB j)
theorem JA2 (l:List Nat) (j:Nat):dd (l++[j])=dd l++[(dA j,dB j)]:=by simp[dd]
theorem JA0 (l:List Nat):(dd l).length=l.length:=by simp[dd]
def DartsOwn (w:World) (B:Nat) (v:Value) (L:List (List Nat)):Prop:=
 ∃ ys:List Value,ys.length=L.length/\w.ownsRow B 122 1 v ys.length ys/\∀ j,j<L.length->w.ownsRow B 125 2 (ys.getD j (.bool false)) (L.getD j []).length (QF1 (dd (L.getD j [])))
theorem KA4:(Tryd.prog.info? 125).map (fun i=>(i.zero,i.size,i.bytes))=some (some (.agg #[.int .i64 0,.bool false]),2,16):=by kernel_rfl
theorem KJ0:(Tryd.prog.info? 122).map (fun i=>(i.zero,i.size,i.bytes))=some (some (.slice none 0 0),1,24):=by kernel_rfl
theorem JA6 {x:Nat} (_h:1<=x):(if dB x=true then 2*dA x+1 else 2*dA x)=x+1:=by
 unfold dB dA
 split
 · rename_i hd;simp at hd;omega
 · rename_i hd;simp at hd;omega
theorem Kx3 (seen:List Bool) (x:Nat) (h:x<seen.length):(bools (false::seen))[x+1]?=some (.bool (seen.getD x true)):=by
 simp[bools,List.getD_eq_getElem?_getD,h]
theorem KW6 (seen:List Bool) (x:Nat):(bools (false::seen)).set (x+1) (.bool true)=bools (false::seen.set x true):=by
 simp[bools]
theorem ZH3 {W:World} {s:Nat} (hs:s=W.heap.size) (a b:Value) (e:TypeId):∀ j u,[a,b][j]?=some u->(W.alloc (.cells #[a,b] e)).cell? ((⟨s,0,none⟩:Addr).add j)=some u:=by
 intro j u hu
 subst hs
 have hg:(W.alloc (.cells #[a,b] e)).heap[W.heap.size]?=some (.cells #[a,b] e (0,0)):=alloc_at rfl
 have hadd:∀ j,(⟨W.heap.size,0,none⟩:Addr).add j=⟨W.heap.size,j,none⟩:=fun j=>by unfold Addr.add;split<;>simp_all
 rw[hadd,cell_of_row _ _ _ _ _ _ hg]
 simpa using hu
end Go.Proofs.YtjcagkgpbcdghaaDoor
/- The walk of ref.PiecesOf. -/
namespace Go.Proofs.YtjcagkgpbcdghaaDoor
open Go.RowKit
theorem XD0 (n:Nat):(madeCells (Value.int .i64 0).cells (n*1)).toList=QK9 (List.replicate n 0):=by
 have e:(Value.int .i64 0).cells=#[Value.int .i64 0]:=rfl
 rw[e,toList_madeCells_one,Nat.mul_one]
 simp[QK9]
theorem Qg3 (l:List Nat) (i z:Nat):(QK9 l).set i (.int .i64 (z:Nat))=QK9 (l.set i z):=by simp[QK9,List.map_set]
def Qx6 (n i:Nat):List Nat:=(List.range n).map fun v=>if v<i then v else 0
theorem ZA5 (n:Nat):List.replicate n 0=Qx6 n 0:=by
 refine List.ext_getElem (by simp[Qx6]) fun j h1 h2=>?_
 simp[Qx6]
theorem ZA6 (n i:Nat):(Qx6 n i).set i i=Qx6 n (i+1):=by
 refine List.ext_getElem (by simp[Qx6]) fun j h1 h2=>?_
 simp only[List.getElem_set,Qx6,List.getElem_map,List.getElem_range]
 split
 · rename_i h;subst h;simp
 · rename_i h
   by_cases h3:j<i
   · rw[if_pos h3,if_pos (by omega)]
   · rw[if_neg h3,if_neg (by omega)]
theorem KK7 (n:Nat):Qx6 n n=List.range n:=by
 refine List.ext_getElem (by simp[Qx6]) fun j h1 h2=>?_
 simp only[Qx6,List.getElem_map,List.getElem_range]
 rw[if_pos (by simpa[Qx6] using h1)]
end Go.Proofs.YtjcagkgpbcdghaaDoor
/- Rings of darts in a world; the walk of ref.PlanarIs. -/
namespace Go.Proofs.YtjcagkgpbcdghaaDoor
open Go.RowKit
def RingsAt (w:World) (B:Nat) (v:Value) (L:List (List Nat)):Prop:=∃ a cap,v=.slice a L.length cap/\(0<L.length->∃ b off,a=some ⟨b,off,none⟩/\b<w.heap.size/\B<=b/\∀ j,j<L.length->∃ g c,w.cell? ⟨b,off+j,none⟩=some (.slice (some ⟨g,0,none⟩) (L.getD j []).length c)/\g<w.heap.size/\B<=g/\∀ k,k<(L.getD j []).length->w.cell? ⟨g,k*2,none⟩=some (.int .i64 (dA ((L.getD j []).getD k 0):Nat))/\w.cell? ⟨g,k*2+1,none⟩=some (.bool (dB ((L.getD j []).getD k 0))))
theorem RingsAt.on {w w':World} {B:Nat} {v:Value} {L:List (List Nat)} (h:RingsAt w B v L) (hb:Below w.heap.size w w'):RingsAt w' B v L:=by
 obtain⟨a,cap,rfl,f⟩:=h
 refine⟨a,cap,rfl,fun h0=>?_⟩
 obtain⟨b,off,rfl,hlt,hB,hc⟩:=f h0
 refine⟨b,off,rfl,Nat.lt_of_lt_of_le hlt hb.size,hB,fun j hj=>?_⟩
 obtain⟨g,c,h1,h2,hG,h3⟩:=hc j hj
 exact⟨g,c,bcell hb hlt h1,Nat.lt_of_lt_of_le h2 hb.size,hG,fun k hk=>⟨bcell hb h2 (h3 k hk).1,bcell hb h2 (h3 k hk).2⟩⟩
theorem JA1 (l:List Nat) (k:Nat) (hk:k<l.length):(dd l).getD k (0,false)=(dA (l.getD k 0),dB (l.getD k 0)):=by
 simp[dd,List.getD_eq_getElem?_getD,hk]
theorem DartsOwn.rings {w:World} {B:Nat} {v:Value} {L:List (List Nat)} (h:DartsOwn w B v L) (hn:∀ j,j<L.length->0<(L.getD j []).length):RingsAt w B v L:=by
 obtain⟨ys,h1,h2,h3⟩:=h
 obtain⟨a,cap,ev,f⟩:=Xu2 h2
 refine⟨a,cap,by rw[ev,h1],fun h0=>?_⟩
 obtain⟨b,off,ea,hlt,hc⟩:=f (by omega)
 refine⟨b,off,ea,hlt,(h2.lt b (by rw[ev,ea];rfl)).1,fun j hj=>?_⟩
 have hr:=h3 j hj
 have hpos:=hn j hj
 have hcell:=hc j (by omega)
 rcases hr.2 with⟨_,hz⟩|⟨g,c,cur,e1,hBg,hg,_,_,_,htk⟩
 · omega
 · rw[e1]at hcell
   refine⟨g,c,hcell,(Array.getElem?_eq_some_iff.1 hg).1,hBg,fun k hk=>?_⟩
   have hv:=Zg1 (dd (L.getD j [])) k (by rw[JA0];exact hk)
   rw[JA1 _ k hk]at hv
   have hcl:=fun(o:Nat) (u:Value) (hu:(QF1 (dd (L.getD j [])))[o]?=some u)=>hr.cells (g:=g) (by rw[e1];rfl) o u hu
   have hadd:∀ o,(⟨g,0,none⟩:Addr).add o=⟨g,o,none⟩:=fun o=>by unfold Addr.add;split<;>simp_all
   have a1:=hcl _ _ hv.1
   have a2:=hcl _ _ hv.2
   rw[hadd]at a1 a2
   exact⟨a1,a2⟩
theorem Qq3 {C:List Cr} {loops:Int} (hm:QX3 C loops=true):(QX0 C).length<=4*C.length/\∀ j,j<(QX0 C).length->0<((QX0 C).getD j []).length/\((QX0 C).getD j []).length<=4*C.length+1/\∀ k,k<((QX0 C).getD j []).length->1<=((QX0 C).getD j []).getD k 0/\((QX0 C).getD j []).getD k 0<=4*C.length:=by
 refine⟨XC6 _ _ _,fun j hj=>?_⟩
 have hmem:(QX0 C).getD j []∈QX0 C:=by rw[List.getD_eq_getElem?_getD,List.getElem?_eq_getElem hj];exact List.getElem_mem hj
 obtain⟨h1,h2,h3⟩:=Qk4 (QJ8 hm) (4*C.length) (Nat.le_refl _) _ hmem
 refine⟨List.length_pos_iff.2 h1,h2,fun k hk=>h3 _ ?_⟩
 generalize (QX0 C).getD j []=l at hk ⊢
 rw[List.getD_eq_getElem?_getD,List.getElem?_eq_getElem hk]
 exact List.getElem_mem hk
theorem ZC0 {C:List Cr} (h:0<C.length):0<(QX0 C).length:=by
 have h1:=QG5 (fd C) (4*C.length) 1 (Nat.le_refl _) (by omega)
 unfold QX0
 cases hl:(QQ8 (fd C) (4*C.length) (4*C.length)).1 with
 |nil=>rw[hl]at h1;simp at h1
 |cons x l=>simp
def QX6 (C:List Cr):List Nat:=(QX0 C).map fun l=>dC C (l.getD 0 0)
theorem QG6 (C:List Cr):(QX6 C).length=(QX0 C).length:=by simp[QX6]
theorem KJ6 (C:List Cr) (i:Nat) (hi:i<(QX0 C).length):(QX6 C).getD i 0=dC C (((QX0 C).getD i []).getD 0 0):=by
 simp[QX6,List.getD_eq_getElem?_getD,hi]
theorem XK4 {C:List Cr} {loops:Int} (hm:QX3 C loops=true):∀ g,g∈QX6 C->g<C.length:=fun g hg=>by
 obtain⟨l,hl,rfl⟩:=List.mem_map.1 hg
 obtain⟨j,hj,rfl⟩:=List.getElem_of_mem hl
 obtain⟨h1,_,h3⟩:=(Qq3 hm).2 j hj
 have e:(QX0 C).getD j []=(QX0 C)[j]:=by rw[List.getD_eq_getElem?_getD,List.getElem?_eq_getElem hj];rfl
 rw[e]at h1 h3
 exact(XF6 hm _ (h3 0 h1).1 (h3 0 h1).2).2.1
def Qx8 (C:List Cr):List Nat:=Qj3 (List.range C.length) (Qz0 C) C.length
def QZ1 (C:List Cr):Bool:=(List.range C.length).all fun p=>!decide ((Qx8 C).getD p 0=p)||decide (exN C.length (QX6 C) (Qx8 C) p=2)
theorem Qk6 (C:List Cr):QZ1 C=true↔∀ p,p<C.length->(Qx8 C).getD p 0=p->exN C.length (QX6 C) (Qx8 C) p=2:=by
 unfold QZ1
 rw[List.all_eq_true]
 constructor
 · intro h p hp e
   have:=h p (List.mem_range.2 hp)
   rw[e]at this
   simpa only[decide_true,Bool.not_true,Bool.false_or,decide_eq_true_eq] using this
 · intro h p hp
   by_cases e:(Qx8 C).getD p 0=p
   · simp only[e,decide_true,Bool.not_true,Bool.false_or,decide_eq_true_eq];exact h p (List.mem_range.1 hp) e
   · simp only[e,decide_false,Bool.not_false,Bool.true_or]
theorem QU1 {C:List Cr} {loops:Int} (hm:QX3 C loops=true):Least (Qz0 C) C.length (Qx8 C):=QK8 (Xg6 hm) C.length (Nat.le_refl _)
end Go.Proofs.YtjcagkgpbcdghaaDoor
/- Plain mathematics: in a planar diagram of one piece a set of arcs that comes to each crossing an even number of times parts two sets of faces. -/
namespace Go.Proofs.YtjcagkgpbcdghaaDoor
theorem Kd0 (h:Nat->Nat->Bool) (m n:Nat):xs (fun i=>xs (fun j=>h i j) n) m=xs (fun j=>xs (fun i=>h i j) m) n:=by
 induction m with
 |zero=>
  have:xs (fun j=>xs (fun i=>h i j) 0) n=false:=XQ5 fun _ _=>rfl
  rw[this];rfl
 |succ m ih=>
  have:xs (fun j=>xs (fun i=>h i j) (m+1)) n=xor (xs (fun j=>xs (fun i=>h i j) m) n) (xs (fun j=>h m j) n):=by
   rw[<-Kz7]
   rfl
  rw[this,<-ih]
  rfl
theorem Zj0 {n q:Nat} (hq:q<n) (b:Bool):xs (fun j=>decide (j=q)&&b) n=b:=by
 cases b with
 |false=>exact XQ5 fun _ _=>by simp
 |true=>exact Zj1 hq (by simp) (fun j hj=>by simp;omega) (fun j h1 _=>by simp;omega)
theorem Kd1 {M:Nat} (h:Nat->Bool) (p r:Nat->Nat) (hp:∀ j,j<M->p j<M) (hr:∀ q,q<M->r q<M) (h1:∀ j,j<M->r (p j)=j) (h2:∀ q,q<M->p (r q)=q):xs h M=xs (fun q=>h (r q)) M:=by
 have e1:xs h M=xs (fun j=>xs (fun q=>decide (q=p j)&&h j) M) M:=QH6 fun j hj=>(Zj0 (hp j hj) (h j)).symm
 have e2:xs (fun q=>h (r q)) M=xs (fun q=>xs (fun j=>decide (q=p j)&&h j) M) M:=QH6 fun q hq=>by
  rw[<-Zj0 (hr q hq) (h (r q))]
  refine QH6 fun j hj=>?_
  by_cases e:j=r q
  · subst e
    rw[h2 q hq]
    simp
  · have:¬ q=p j:=fun e3=>e (by rw[e3,h1 j hj])
    simp[e,this]
 rw[e1,e2,Kd0]
theorem JB6 (h:Nat->Bool) (m:Nat):xs h (2*m)=xs (fun i=>xor (h (2*i)) (h (2*i+1))) m:=by
 induction m with
 |zero=>rfl
 |succ m ih=>
  rw[show 2*(m+1)=2*m+1+1 by omega]
  simp only[xs]
  rw[ih]
  cases xs (fun i=>xor (h (2*i)) (h (2*i+1))) m<;>cases h (2*m)<;>cases h (2*m+1)<;>rfl
theorem Kd2 (h:Nat->Bool) (m:Nat):xs h (4*m)=xs (fun k=>xor (xor (h (4*k)) (h (4*k+1))) (xor (h (4*k+2)) (h (4*k+3)))) m:=by
 induction m with
 |zero=>rfl
 |succ m ih=>
  rw[show 4*(m+1)=4*m+1+1+1+1 by omega]
  simp only[xs]
  rw[ih]
  cases xs (fun k=>xor (xor (h (4*k)) (h (4*k+1))) (xor (h (4*k+2)) (h (4*k+3)))) m<;>cases h (4*m)<;>cases h (4*m+1)<;>cases h (4*m+2)<;>cases h (4*m+3)<;>rfl
def aAt (C:List Cr) (k s:Nat):Nat:=((C.getD k Cr.none).arc s).toNat
theorem QV8 {C:List Cr} {loops:Int} (hm:QX3 C loops=true) (k s:Nat) (hk:k<C.length) (hs:s<4):enC C (aAt C k s) ((C.getD k Cr.none).comes s)=k/\enS C (aAt C k s) ((C.getD k Cr.none).comes s)=s/\1<=aAt C k s/\aAt C k s<=2*C.length:=by
 have hf:=QV7 hm k s hk hs
 have g1:=hf.1
 have g2:=hf.2.1
 have ha:1<=aAt C k s/\aAt C k s<=2*C.length:=by unfold aAt;omega
 have e:=XQ9 hm (aAt C k s) ha.1 ha.2 ((C.getD k Cr.none).comes s) k s hk hs (by unfold aAt;omega) rfl
 refine⟨?_,?_,ha.1,ha.2⟩
 · unfold enC;rw[e];rfl
 · unfold enS;rw[e];rfl
theorem ZK6 {C:List Cr} {loops:Int} (hm:QX3 C loops=true) (S d:Nat->Bool):xs (fun i=>xor (S (enC C (i+1) true)) (S (enC C (i+1) false))&&d (i+1)) (2*C.length)=xs (fun k=>S k&&xor (xor (d (aAt C k 0)) (d (aAt C k 1))) (xor (d (aAt C k 2)) (d (aAt C k 3)))) C.length:=by
 have e1:xs (fun i=>xor (S (enC C (i+1) true)) (S (enC C (i+1) false))&&d (i+1)) (2*C.length)=xs (fun j=>S (enC C (dA (j+1)) (dB (j+1)))&&d (dA (j+1))) (2*(2*C.length)):=by
  refine Eq.trans ?_ (JB6 (fun j=>S (enC C (dA (j+1)) (dB (j+1)))&&d (dA (j+1))) (2*C.length)).symm
  refine QH6 fun i _=>?_
  have a1:dA (2*i+1)=i+1:=by unfold dA;omega
  have a2:dA (2*i+1+1)=i+1:=by unfold dA;omega
  have b1:dB (2*i+1)=false:=by unfold dB;exact decide_eq_false (by omega)
  have b2:dB (2*i+1+1)=true:=by unfold dB;exact decide_eq_true (by omega)
  rw[a1,a2,b1,b2]
  cases S (enC C (i+1) true)<;>cases S (enC C (i+1) false)<;>cases d (i+1)<;>rfl
 rw[e1,show 2*(2*C.length)=4*C.length by omega]
 rw [Kd1 (fun j => S (enC C (dA (j + 1)) (dB (j + 1))) && d (dA (j + 1))) (fun j => 4 * enC C (dA (j + 1)) (dB (j + 1)) + enS C (dA (j + 1)) (dB (j + 1))) (fun q => mkD (aAt C (q / 4) (q % 4)) ((C.getD (q / 4) Cr.none).comes (q % 4)) - 1)
  (fun j hj => by
   have hA:=Qx7 (j:=j+1) (n:=C.length) (by omega) (by omega)
   have h:=QJ3 hm (dA (j+1)) (dB (j+1)) hA.1 hA.2
   omega)
  (fun q hq => by
   have h:=QV8 hm (q / 4) (q%4) (by omega) (by omega)
   have h2:=XF5 (p:=(C.getD (q / 4) Cr.none).comes (q%4)) h.2.2.1 h.2.2.2
   omega)
  (fun j hj => by
   have hA:=Qx7 (j:=j+1) (n:=C.length) (by omega) (by omega)
   obtain⟨-,h2,h3,h4,h5⟩:=QJ3 hm (dA (j+1)) (dB (j+1)) hA.1 hA.2
   have q1:(4*enC C (dA (j+1)) (dB (j+1))+enS C (dA (j+1)) (dB (j+1))) / 4=enC C (dA (j+1)) (dB (j+1)):=by omega
   have q2:(4*enC C (dA (j+1)) (dB (j+1))+enS C (dA (j+1)) (dB (j+1)))%4=enS C (dA (j+1)) (dB (j+1)):=by omega
   simp only[q1,q2]
   have e:aAt C (enC C (dA (j+1)) (dB (j+1))) (enS C (dA (j+1)) (dB (j+1)))=dA (j+1):=by unfold aAt;rw[h4];omega
   rw[e,h5,JC2 (by omega)]
   omega)
  (fun q hq => by
   have h:=QV8 hm (q / 4) (q%4) (by omega) (by omega)
   have h2:=XF5 (p:=(C.getD (q / 4) Cr.none).comes (q%4)) h.2.2.1 h.2.2.2
   have e:mkD (aAt C (q / 4) (q%4)) ((C.getD (q / 4) Cr.none).comes (q%4))-1+1=mkD (aAt C (q / 4) (q%4)) ((C.getD (q / 4) Cr.none).comes (q%4)):=by omega
   simp only[e]
   rw[ZB4 h.2.2.1,ZB3 h.2.2.1,h.1,h.2.1]
   omega)]
 rw[Kd2]
 refine QH6 fun k hk=>?_
 have side:∀ s,s<4->(S (enC C (dA (mkD (aAt C ((4*k+s) / 4) ((4*k+s)%4)) ((C.getD ((4*k+s) / 4) Cr.none).comes ((4*k+s)%4))-1+1)) (dB (mkD (aAt C ((4*k+s) / 4) ((4*k+s)%4)) ((C.getD ((4*k+s) / 4) Cr.none).comes ((4*k+s)%4))-1+1)))&&d (dA (mkD (aAt C ((4*k+s) / 4) ((4*k+s)%4)) ((C.getD ((4*k+s) / 4) Cr.none).comes ((4*k+s)%4))-1+1)))=(S k&&d (aAt C k s)):=fun s hs=>by
  rw[show(4*k+s) / 4=k by omega,show(4*k+s)%4=s by omega]
  have h:=QV8 hm k s hk hs
  have h2:=XF5 (p:=(C.getD k Cr.none).comes s) h.2.2.1 h.2.2.2
  rw[show mkD (aAt C k s) ((C.getD k Cr.none).comes s)-1+1=mkD (aAt C k s) ((C.getD k Cr.none).comes s) by omega,ZB4 h.2.2.1,ZB3 h.2.2.1,h.1]
 have s0:=side 0 (by omega)
 simp only[Nat.add_zero]at s0
 rw[s0,side 1 (by omega),side 2 (by omega),side 3 (by omega)]
 cases S k<;>cases d (aAt C k 0)<;>cases d (aAt C k 1)<;>cases d (aAt C k 2)<;>cases d (aAt C k 3)<;>rfl
def cor (C:List Cr) (k s:Nat):Nat:=fo C (mkD (aAt C k s) ((C.getD k Cr.none).comes s))
theorem Qq6 {C:List Cr} {loops:Int} (hm:QX3 C loops=true) (k s:Nat) (hk:k<C.length) (hs:s<4):fo C (mkD (aAt C k s) (!(C.getD k Cr.none).comes s))=cor C k ((s+3)%4):=by
 have h:=QV8 hm k s hk hs
 have h2:=XF5 (p:=!(C.getD k Cr.none).comes s) h.2.2.1 h.2.2.2
 rw[<-Jz4 hm _ h2.1 h2.2]
 unfold cor fd dC dS
 rw[ZB4 h.2.2.1,ZB3 h.2.2.1,Bool.not_not,h.1,h.2.1]
 rfl
def dfE (C:List Cr) (i:Nat):Nat×Nat:=(fo C (mkD (i+1) true),fo C (mkD (i+1) false))
def arE (C:List Cr) (i:Nat):Nat×Nat:=(enC C (i+1) true,enC C (i+1) false)
def sides (C:List Cr) (g:Nat->Bool) (a:Nat):Bool:=xor (g (fo C (mkD a true))) (g (fo C (mkD a false)))
theorem Qf8 {C:List Cr} {loops:Int} (hm:QX3 C loops=true) (g:Nat->Bool) (k s:Nat) (hk:k<C.length) (hs:s<4):sides C g (aAt C k s)=xor (g (cor C k s)) (g (cor C k ((s+3)%4))):=by
 have h:=Qq6 hm k s hk hs
 unfold sides
 unfold cor at h ⊢
 rw[<-h]
 cases (C.getD k Cr.none).comes s<;>simp[Bool.xor_comm]
theorem ZD9 {C:List Cr} {loops:Int} (hm:QX3 C loops=true) (g:Nat->Bool) (k:Nat) (hk:k<C.length):xor (xor (sides C g (aAt C k 0)) (sides C g (aAt C k 1))) (xor (sides C g (aAt C k 2)) (sides C g (aAt C k 3)))=false:=by
 rw[Qf8 hm g k 0 hk (by omega),Qf8 hm g k 1 hk (by omega),Qf8 hm g k 2 hk (by omega),Qf8 hm g k 3 hk (by omega)]
 show xor (xor (xor (g (cor C k 0)) (g (cor C k 3))) (xor (g (cor C k 1)) (g (cor C k 0)))) (xor (xor (g (cor C k 2)) (g (cor C k 1))) (xor (g (cor C k 3)) (g (cor C k 2))))=false
 cases g (cor C k 0)<;>cases g (cor C k 1)<;>cases g (cor C k 2)<;>cases g (cor C k 3)<;>rfl
theorem ZC6 {C:List Cr} {loops:Int} (hm:QX3 C loops=true) (S g:Nat->Bool):xs (fun i=>xor (S (arE C i).1) (S (arE C i).2)&&xor (g (dfE C i).1) (g (dfE C i).2)) (2*C.length)=false:=by
 have h:=ZK6 hm S (sides C g)
 refine Eq.trans ?_ (h.trans (XQ5 fun k hk=>?_))
 · rfl
 · rw[ZD9 hm g k hk,Bool.and_false]
theorem ZU3 {E:Nat->Nat×Nat} {m:Nat}:Qj4 E (fun _=>true) m=(List.range m).map E:=by
 induction m with
 |zero=>rfl
 |succ m ih=>simp only[Qj4,if_true];rw[ih,List.range_succ,List.map_append];rfl
end Go.Proofs.YtjcagkgpbcdghaaDoor
/- Plain mathematics: Euler's number of a piece is even and at most two. -/
namespace Go.Proofs.YtjcagkgpbcdghaaDoor
theorem Qy1 (W:List Nat) (Q:Nat->Bool):∀ k,rq W Q k=(List.range k).countP fun v=>decide (W.getD v 0=v)&&Q v:=by
 intro k
 induction k with
 |zero=>rfl
 |succ k ih=>
  rw[List.range_succ,List.countP_append,List.countP_singleton,<-ih]
  simp only[rq,Bool.and_eq_true,decide_eq_true_eq]
theorem Bij.onto {f:Nat->Nat} {M:Nat} (h:Bij f M) {y:Nat} (hy:y<M):∃ x,x<M/\f x=y:=by
 obtain⟨p,h0,hp⟩:=period h hy
 refine⟨it f (p-1) y,Qh7 h hy _,?_⟩
 have e:it f (p-1+1) y=f (it f (p-1) y):=rfl
 rw[<-e,show p-1+1=p by omega,hp]
theorem Kq6 {r:Nat->Nat} {M:Nat} (h:Bij r M) (P:Nat->Bool):(List.range M).countP (fun q=>P (r q))=(List.range M).countP P:=by
 have hp:((List.range M).map r).Perm (List.range M):=by
  refine(List.perm_ext_iff_of_nodup ?_ List.nodup_range).2 fun y=>?_
  · unfold List.Nodup
    rw[List.pairwise_map]
    refine List.Pairwise.imp_of_mem ?_ (List.nodup_range (n:=M))
    intro a b ha hb hne e
    exact hne (h.inj a b (List.mem_range.1 ha) (List.mem_range.1 hb) e)
  · rw[List.mem_map]
    constructor
    · rintro⟨x,hx,rfl⟩
      exact List.mem_range.2 (h.lt x (List.mem_range.1 hx))
    · intro hy
      obtain⟨x,hx,e⟩:=h.onto (List.mem_range.1 hy)
      exact⟨x,List.mem_range.2 hx,e⟩
 rw[<-hp.countP_eq P,List.countP_map]
 rfl
theorem JJ3 {h Qc:Nat->Bool} {c:Nat} (n:Nat) (e:∀ k,k<n->(if h (4*k)=true then 1 else 0)+(if h (4*k+1)=true then 1 else 0)+(if h (4*k+2)=true then 1 else 0)+(if h (4*k+3)=true then 1 else 0)=if Qc k=true then c else 0):(List.range (4*n)).countP h=c*(List.range n).countP Qc:=by
 induction n with
 |zero=>rfl
 |succ n ih=>
  have e1:=e n (by omega)
  have e2:=ih fun k hk=>e k (by omega)
  rw[show 4*(n+1)=4*n+1+1+1+1 by omega]
  simp only[List.range_succ,List.countP_append,List.countP_singleton]
  rw[e2]
  by_cases hq:Qc n=true
  · rw[if_pos hq]at e1 ⊢
    rw[Nat.mul_add]
    omega
  · rw[if_neg hq]at e1 ⊢
    rw[show List.countP Qc (List.range n)+0=List.countP Qc (List.range n) from rfl]
    omega
theorem Xg1 (P:Nat->Bool) (M:Nat) (h:P 0=false):(List.range (M+1)).countP P=(List.range M).countP fun i=>P (i+1):=by
 rw[List.range_succ_eq_map,List.countP_cons,List.countP_map,h]
 simp only[Bool.false_eq_true,if_false,Nat.add_zero]
 rfl
def al (j:Nat):Nat:=mkD (dA j) (!dB j)
def lvC (C:List Cr) (j:Nat):Nat:=enC C (dA j) (dB j)
def pd (C:List Cr) (q:Nat):Nat:=mkD (aAt C (q / 4) (q%4)) ((C.getD (q / 4) Cr.none).comes (q%4))
theorem Xz4 {j n:Nat} (h1:1<=j) (h2:j<=4*n):1<=al j/\al j<=4*n/\dA (al j)=dA j/\dB (al j)=!dB j:=by
 have h:=Qx7 h1 h2
 have g:=XF5 (p:=!dB j) h.1 h.2
 exact⟨g.1,g.2,ZB4 h.1,ZB3 h.1⟩
theorem Zk5 (i:Nat):al (2*i+1)=2*i+2:=by
 unfold al dA dB mkD
 simp only[show(2*i+1)%2=1 by omega,show(2*i+1+1) / 2=i+1 by omega]
 simp
 omega
theorem Xg7 (i:Nat):al (2*i+2)=2*i+1:=by
 unfold al dA dB mkD
 simp only[show(2*i+2)%2=0 by omega,show(2*i+2+1) / 2=i+1 by omega]
 simp
 omega
theorem JB4 {j:Nat} (h1:1<=j):al (al j)=j:=by
 by_cases h:j%2=1
 · obtain⟨i,rfl⟩:∃ i,j=2*i+1:=⟨j / 2,by omega⟩
   rw[Zk5,Xg7]
 · obtain⟨i,rfl⟩:∃ i,j=2*i+2:=⟨j / 2 - 1,by omega⟩
   rw[Xg7,Zk5]
theorem JY9 {C:List Cr} {j:Nat} (h1:1<=j) (h2:j<=4*C.length):dC C (al j)=lvC C j/\dS C (al j)=enS C (dA j) (dB j):=by
 obtain⟨-,-,a1,a2⟩:=Xz4 h1 h2
 unfold dC dS lvC
 rw[a1,a2,Bool.not_not]
 exact⟨rfl,rfl⟩
theorem JY3 {C:List Cr} {loops:Int} (hm:QX3 C loops=true) {j:Nat} (h1:1<=j) (h2:j<=4*C.length):lvC C (fd C j)=dC C j:=by
 obtain⟨e1,e2,-⟩:=XY1 hm j h1 h2
 obtain⟨-,h3,h4⟩:=XF6 hm j h1 h2
 have h:=(QV8 hm (dC C j) ((dS C j+3)%4) h3 (Nat.mod_lt _ (by decide))).1
 unfold aAt at h
 rw[e1,e2,Int.toNat_natCast]at h
 exact h
theorem Kb4 {C:List Cr} {loops:Int} (hm:QX3 C loops=true) {j:Nat} (h1:1<=j) (h2:j<=4*C.length):lvC C j<C.length:=by
 have h:=Qx7 h1 h2
 exact(QJ3 hm (dA j) (dB j) h.1 h.2).2.1
theorem JY4 {C:List Cr} {j:Nat} (h1:1<=j) (h2:j<=4*C.length):Con (Qz0 C) (lvC C j) (dC C j):=by
 have h:=Qx7 h1 h2
 have e:=Con.edge (XA2 (C:=C) h.1 h.2)
 unfold lvC dC
 cases dB j
 · exact e.symm
 · exact e
theorem Qj5 {C:List Cr} {loops:Int} (hm:QX3 C loops=true) (k s:Nat) (hk:k<C.length) (hs:s<4):pd C (4*k+s)=mkD (aAt C k s) ((C.getD k Cr.none).comes s)/\lvC C (pd C (4*k+s))=k/\enS C (dA (pd C (4*k+s))) (dB (pd C (4*k+s)))=s/\1<=pd C (4*k+s)/\pd C (4*k+s)<=4*C.length:=by
 have e:pd C (4*k+s)=mkD (aAt C k s) ((C.getD k Cr.none).comes s):=by
  unfold pd
  rw[show(4*k+s) / 4=k by omega,show(4*k+s)%4=s by omega]
 have h:=QV8 hm k s hk hs
 unfold lvC
 rw[e,ZB4 h.2.2.1,ZB3 h.2.2.1]
 have g:=XF5 (p:=(C.getD k Cr.none).comes s) h.2.2.1 h.2.2.2
 exact⟨rfl,h.1,h.2.1,g.1,g.2⟩
theorem JF9 {C:List Cr} {loops:Int} (hm:QX3 C loops=true) (k s:Nat) (hk:k<C.length) (hs:s<4):fd C (al (pd C (4*k+s)))=pd C (4*k+(s+3)%4):=by
 obtain⟨-,h1,h2,h3,h4⟩:=Qj5 hm k s hk hs
 obtain⟨a1,a2⟩:=JY9 (C:=C) h3 h4
 rw[(Qj5 hm k ((s+3)%4) hk (Nat.mod_lt _ (by decide))).1]
 unfold fd
 rw[a1,a2,h1,h2]
 rfl
theorem JG0 {C:List Cr} {loops:Int} (hm:QX3 C loops=true):Bij (fun q=>pd C q-1) (4*C.length):=by
 have hb:∀ q,q<4*C.length->∃ k s,k<C.length/\s<4/\q=4*k+s:=fun q hq=>⟨q / 4,q%4,by omega,by omega,by omega⟩
 refine⟨fun q hq=>?_,fun q r hq hr e=>?_⟩
 · obtain⟨k,s,hk,hs,rfl⟩:=hb q hq
   obtain⟨-,-,-,h3,h4⟩:=Qj5 hm k s hk hs
   show pd C (4*k+s)-1<_
   omega
 · obtain⟨k,s,hk,hs,rfl⟩:=hb q hq
   obtain⟨k',s',hk',hs',rfl⟩:=hb r hr
   obtain⟨-,h1,h2,h3,h4⟩:=Qj5 hm k s hk hs
   obtain⟨-,g1,g2,g3,g4⟩:=Qj5 hm k' s' hk' hs'
   have e1:pd C (4*k+s)=pd C (4*k'+s'):=by
    have e':pd C (4*k+s)-1=pd C (4*k'+s')-1:=e
    omega
   rw[e1]at h1 h2
   have:k=k':=by rw[<-h1,g1]
   have:s=s':=by rw[<-h2,g2]
   omega
theorem Xw5 {C : List Cr} {loops : Int} (hm : QX3 C loops = true) {P Qc : Nat → Bool} {c : Nat} (h0 : P 0 = false)
    (e:∀ k,k<C.length->(if P (pd C (4*k))=true then 1 else 0)+(if P (pd C (4*k+1))=true then 1 else 0)+(if P (pd C (4*k+2))=true then 1 else 0)+(if P (pd C (4*k+3))=true then 1 else 0)=if Qc k=true then c else 0):
    (List.range (4*C.length+1)).countP P=c*(List.range C.length).countP Qc:=by
 rw[Xg1 P _ h0,<-Kq6 (JG0 hm) fun i=>P (i+1),<-JJ3 (h:=fun q=>P (pd C q)) C.length e]
 refine List.countP_congr fun q hq=>?_
 have hq:=List.mem_range.1 hq
 have h:=Qj5 hm (q / 4) (q%4) (by omega) (by omega)
 rw[show 4*(q / 4)+q%4=q by omega]at h
 rw[show pd C q-1+1=pd C q by omega]
end Go.Proofs.YtjcagkgpbcdghaaDoor
/- Plain mathematics: Euler's number of a piece is even and at most two, arc by arc. -/
namespace Go.Proofs.YtjcagkgpbcdghaaDoor
theorem Bij.congr {f g:Nat->Nat} {M:Nat} (h:Bij f M) (e:∀ x,x<M->f x=g x):Bij g M:=
 ⟨fun x hx=>by rw[<-e x hx];exact h.lt x hx,fun x y hx hy q=>h.inj x y hx hy (by rw[e x hx,e y hy,q])⟩
def gI (C:List Cr) (i x:Nat):Nat:=up0 (fun j=>if j<=2*i then fd C j else fd C (al j)) x
theorem Zy8 {C:List Cr} {x:Nat} (h:1<=x):gI C 0 x=fd C (al x):=by
 unfold gI
 rw[QK7 _ h,if_neg (by omega)]
theorem Zy9 (C:List Cr) (i x:Nat):tr (gI C i) (2*i+1) (2*i+2) x=gI C (i+1) x:=by
 by_cases h1:x=2*i+1
 · rw[h1,XW2]
   unfold gI
   rw[QK7 _ (by omega),QK7 _ (by omega),if_neg (by omega),if_pos (by omega),Xg7]
 · by_cases h2:x=2*i+2
   · rw[h2,Xq6]
     unfold gI
     rw[QK7 _ (by omega),QK7 _ (by omega),if_neg (by omega),if_pos (by omega),Zk5]
   · rw[QJ0 _ h1 h2]
     unfold gI
     by_cases h0:x=0
     · rw[h0];rfl
     · rw[QK7 _ (by omega),QK7 _ (by omega)]
       by_cases h3:x<=2*i
       · rw[if_pos h3,if_pos (by omega)]
       · rw[if_neg h3,if_neg (by omega)]
theorem Kw8 {C:List Cr} {loops:Int} (hm:QX3 C loops=true):∀ i,i<=2*C.length->Bij (gI C i) (4*C.length+1):=by
 intro i
 induction i with
 |zero=>
  intro _
  refine(Xg5 (f:=fun j=>fd C (al j)) (n:=4*C.length) (fun a h1 h2=>?_) (fun a b h1 h2 h3 h4 e=>?_)).congr fun x hx=>?_
  · obtain⟨a1,a2,-,-⟩:=Xz4 h1 h2
    exact QJ8 hm _ a1 a2
  · obtain⟨a1,a2,-,-⟩:=Xz4 h1 h2
    obtain⟨b1,b2,-,-⟩:=Xz4 h3 h4
    have:=XQ2 hm _ _ a1 a2 b1 b2 e
    rw[<-JB4 h1,this,JB4 h3]
  · by_cases h0:x=0
    · rw[h0];rfl
    · rw[Zy8 (by omega),QK7 _ (by omega)]
 |succ i ih=>
  intro hi
  exact((ih (by omega)).tr (a:=2*i+1) (b:=2*i+2) (by omega) (by omega)).congr fun x _=>Zy9 C i x
theorem JZ5 {C:List Cr} {x:Nat} (h:x<4*C.length+1):gI C (2*C.length) x=up0 (fd C) x:=by
 unfold gI
 by_cases h0:x=0
 · rw[h0];rfl
 · rw[QK7 _ (by omega),QK7 _ (by omega),if_pos (by omega)]
theorem Kw7 {C:List Cr} {loops:Int} (hm:QX3 C loops=true) (i:Nat) {x:Nat} (h1:1<=x) (h2:x<=4*C.length):1<=gI C i x/\gI C i x<=4*C.length/\lvC C (gI C i x)=if x<=2*i then dC C x else lvC C x:=by
 unfold gI
 rw[QK7 _ h1]
 by_cases h3:x<=2*i
 · rw[if_pos h3,if_pos h3]
   have:=QJ8 hm x h1 h2
   exact⟨this.1,this.2,JY3 hm h1 h2⟩
 · rw[if_neg h3,if_neg h3]
   obtain⟨a1,a2,-,-⟩:=Xz4 h1 h2
   have:=QJ8 hm _ a1 a2
   exact⟨this.1,this.2,by rw[JY3 hm a1 a2,(JY9 h1 h2).1]⟩
theorem Kv5 (C:List Cr) (i:Nat):lvC C (2*i+1)=(arE C i).2/\lvC C (2*i+2)=(arE C i).1:=by
 unfold lvC arE dA dB
 constructor
 · simp only[show(2*i+1)%2=1 by omega,show(2*i+1+1) / 2=i+1 by omega]
   rfl
 · simp only[show(2*i+2)%2=0 by omega,show(2*i+2+1) / 2=i+1 by omega]
   rfl
theorem KH2 {C:List Cr} {i x:Nat} (h1:1<=x) (h2:x<=2*i):Con (Qj4 (arE C) (fun _=>true) i) (lvC C x) (dC C x):=by
 have h:1<=dA x/\dA x<=i:=by unfold dA;omega
 have hmem:arE C (dA x-1)∈Qj4 (arE C) (fun _=>true) i:=incl_mem.2 ⟨dA x-1,by omega,rfl,rfl⟩
 have e:arE C (dA x-1)=(enC C (dA x) true,enC C (dA x) false):=by
  unfold arE
  rw[show dA x-1+1=dA x by omega]
 rw[e]at hmem
 have hc:=Con.edge hmem
 unfold lvC dC
 cases dB x
 · exact hc.symm
 · exact hc
theorem KQ5 {C:List Cr} {loops:Int} (hm:QX3 C loops=true) (i:Nat) {x y:Nat} (hx:1<=x) (hc:Con (eds (gI C i) (4*C.length+1)) x y):Con (Qj4 (arE C) (fun _=>true) i) (lvC C x) (lvC C y):=by
 have := hc (fun z => 1 ≤ z ∧ Con (Qj4 (arE C) (fun _ => true) i) (lvC C x) (lvC C z)) (closed_eds.2 fun z hz => by
  by_cases h0:z=0
  · rw[h0]
    have e:gI C i 0=0:=rfl
    rw[e]
  · obtain⟨g1,g2,g3⟩:=Kw7 hm i (x:=z) (by omega) (by omega)
    rw[g3]
    have hcz:Con (Qj4 (arE C) (fun _=>true) i) (lvC C z) (if z<=2*i then dC C z else lvC C z):=by
     by_cases h3:z<=2*i
     · rw[if_pos h3];exact KH2 (by omega) h3
     · rw[if_neg h3];exact Con.refl _ _
    exact⟨fun q=>⟨g1,q.2.trans hcz⟩,fun q=>⟨by omega,q.2.trans hcz.symm⟩⟩) ⟨hx,Con.refl _ _⟩
 exact this.2
theorem ZU2 {C : List Cr} {i : Nat} (hi : i ≤ 2 * C.length) {x y : Nat} (hc : Con (Qj4 (arE C) (fun _ => true) i) x y) : Con (Qz0 C) x y := fun S hS hx => hc S (fun e he => by
 obtain⟨t,ht,-,rfl⟩:=incl_mem.1 he
 exact hS _ (List.mem_map.2 ⟨t,List.mem_range.2 (by omega),rfl⟩)) hx
theorem ZK4 {C:List Cr} {loops:Int} (hm:QX3 C loops=true):∀ i,i<2*C.length->(arE C i).1<C.length/\(arE C i).2<C.length:=fun i hi=>by
 have h:=Xg6 hm (arE C i) (List.mem_map.2 ⟨i,List.mem_range.2 hi,rfl⟩)
 exact h
def qD (C:List Cr) (p j:Nat):Bool:=decide (1<=j)&&decide ((Qx8 C).getD (lvC C j) 0=p)
def qC (C:List Cr) (p v:Nat):Bool:=decide ((Qx8 C).getD v 0=p)
theorem JF6 {C:List Cr} {loops:Int} (hm:QX3 C loops=true) (p:Nat) {i:Nat} (_hi:i<=2*C.length) (x y:Nat) (_hx:x<4*C.length+1) (hc:Con (eds (gI C i) (4*C.length+1)) x y):qD C p x=qD C p y:=by
 have hW:=QU1 hm
 exact hc (fun z => qD C p x = qD C p z) (closed_eds.2 fun z hz => by
  by_cases h0:z=0
  · rw[h0]
    exact Iff.rfl
  · obtain⟨g1,g2,g3⟩:=Kw7 hm i (x:=z) (by omega) (by omega)
    have l1:=Kb4 hm (j:=z) (by omega) (by omega)
    have l2:=Kb4 hm g1 g2
    have hcz:Con (Qz0 C) (lvC C z) (lvC C (gI C i z)):=by
     rw[g3]
     by_cases h3:z<=2*i
     · rw[if_pos h3];exact JY4 (by omega) (by omega)
     · rw[if_neg h3];exact Con.refl _ _
    have e:qD C p z=qD C p (gI C i z):=by
     unfold qD
     rw[(hW.same l1 l2).2 hcz,decide_eq_true (show 1<=z by omega),decide_eq_true g1]
    rw[e]) rfl
theorem ZX2 {C : List Cr} {loops : Int} (hm : QX3 C loops = true) (p : Nat) (hbase : cyN (gI C 0) (4 * C.length + 1) (qD C p) = (List.range C.length).countP (qC C p)) : ∀ i, i ≤ 2 * C.length →
    cyN (gI C i) (4*C.length+1) (qD C p)+(List.range C.length).countP (qC C p)<=(List.range i).countP (fun t=>qD C p (2*t+1))+2*rq (cls (arE C) (fun _=>true) C.length i) (qC C p) C.length/\
    (cyN (gI C i) (4*C.length+1) (qD C p)+(List.range C.length).countP (qC C p)+(List.range i).countP (fun t=>qD C p (2*t+1)))%2=0:=by
 have hW:=QU1 hm
 intro i
 induction i with
 |zero=>
  intro _
  rw[hbase]
  have e:rq (cls (arE C) (fun _=>true) C.length 0) (qC C p) C.length=(List.range C.length).countP (qC C p):=by
   rw[Qy1]
   refine List.countP_congr fun v hv=>?_
   have:(cls (arE C) (fun _=>true) C.length 0).getD v 0=v:=by
    show(List.range C.length).getD v 0=v
    rw[List.getD_eq_getElem?_getD,List.getElem?_range (List.mem_range.1 hv)]
    rfl
   rw[this,decide_eq_true rfl,Bool.true_and]
  rw[e]
  simp only[List.range_zero,List.countP_nil]
  omega
 |succ i ih=>
  intro hi
  obtain⟨i1,i2⟩:=ih (by omega)
  have hB:=Kw8 hm i (by omega)
  have hL:=QU8 (E:=arE C) (K:=fun _=>true) (n:=C.length) (m:=i) fun t ht=>ZK4 hm t (by omega)
  obtain⟨e1,e2⟩:=ZK4 hm i (by omega)
  obtain⟨v1,v2⟩:=Kv5 C i
  have hQ:=JF6 hm p (i:=i) (by omega)
  have hedge:Con (Qz0 C) (arE C i).1 (arE C i).2:=Con.edge (List.mem_map.2 ⟨i,List.mem_range.2 (by omega),rfl⟩)
  have hab:qD C p (2*i+1)=qD C p (2*i+2):=by
   unfold qD
   rw[v1,v2,(hW.same e1 e2).2 hedge,decide_eq_true (show 1<=2*i+1 by omega),decide_eq_true (show 1<=2*i+2 by omega)]
  have hcong:cyN (gI C (i+1)) (4*C.length+1) (qD C p)=cyN (tr (gI C i) (2*i+1) (2*i+2)) (4*C.length+1) (qD C p):=Qu1 (fun x _=>(Zy9 C i x).symm) _
  have hmm:(List.range (i+1)).countP (fun t=>qD C p (2*t+1))=(List.range i).countP (fun t=>qD C p (2*t+1))+if qD C p (2*i+1)=true then 1 else 0:=by
   rw[List.range_succ,List.countP_append,List.countP_singleton]
  have hq1:qD C p (2*i+1)=qC C p (arE C i).2:=by
   unfold qD qC
   rw[v1,decide_eq_true (show 1<=2*i+1 by omega),Bool.true_and]
  rw[hcong,hmm,Qh3 (E:=arE C) (K:=fun _=>true) rfl]
  by_cases hc:Con (eds (gI C i) (4*C.length+1)) (2*i+1) (2*i+2)
  · have k1:=ZU9 hB (qD C p) (a:=2*i+1) (b:=2*i+2) (by omega) (by omega) (by omega) hc hQ
    have hcc:=KQ5 hm i (by omega) hc
    rw[v1,v2]at hcc
    rw[Qg5 ((hL.same e1 e2).2 hcc.symm),<-k1]
    split<;>rename_i hq<;>simp only[hq,if_true,if_false,Bool.false_eq_true] at*<;> omega
  · have k1:=XC2 hB (qD C p) (a:=2*i+1) (b:=2*i+2) (by omega) (by omega) hc hQ hab
    by_cases hs:(cls (arE C) (fun _=>true) C.length i).getD (arE C i).1 0=(cls (arE C) (fun _=>true) C.length i).getD (arE C i).2 0
    · rw[Qg5 hs]
      by_cases hq:qD C p (2*i+1)=true
      · rw[if_pos hq]at k1 ⊢;omega
      · rw[if_neg hq]at k1 ⊢;omega
    · have hr:=Zz0 hL (qC C p) e1 e2 hs C.length (Nat.le_refl _)
      have l1:=hL.lt e1
      have l2:=hL.lt e2
      have w1:=(hW.same e1 l1).2 (ZU2 (by omega) (hL.2 _ e1).1)
      have w2:=(hW.same e2 l2).2 (ZU2 (by omega) (hL.2 _ e2).1)
      have w3:=(hW.same e1 e2).2 hedge
      have hmax:qC C p (max ((cls (arE C) (fun _=>true) C.length i).getD (arE C i).1 0) ((cls (arE C) (fun _=>true) C.length i).getD (arE C i).2 0))=qD C p (2*i+1):=by
       rw[hq1]
       unfold qC
       rcases Nat.le_total ((cls (arE C) (fun _=>true) C.length i).getD (arE C i).1 0) ((cls (arE C) (fun _=>true) C.length i).getD (arE C i).2 0) with hle|hle
       · rw[Nat.max_eq_right hle,<-w2]
       · rw[Nat.max_eq_left hle,<-w1,w3]
      rw[hmax]at hr
      by_cases hq:qD C p (2*i+1)=true
      · rw[if_pos hq]at k1 ⊢
        rw[if_pos ⟨by omega,hq⟩]at hr
        omega
      · rw[if_neg hq]at k1 ⊢
        rw[if_neg fun q=>hq q.2]at hr
        omega
end Go.Proofs.YtjcagkgpbcdghaaDoor
/- Plain mathematics: a planar diagram of one piece: an even set of arcs parts two sets of faces. -/
namespace Go.Proofs.YtjcagkgpbcdghaaDoor
theorem JH5 {C:List Cr} {loops:Int} (hm:QX3 C loops=true) (j:Nat) (h1:1<=j) (h2:j<=4*C.length):∃ k s,k<C.length/\s<4/\fo C j=cor C k s:=by
 have hA:=Qx7 h1 h2
 have u:=QJ3 hm (dA j) (dB j) hA.1 hA.2
 refine⟨_,_,u.2.1,u.2.2.1,?_⟩
 unfold cor aAt
 rw[u.2.2.2.1,u.2.2.2.2]
 show fo C j=fo C (mkD ((dA j:Int)).toNat (dB j))
 rw[Int.toNat_natCast,JC2 h1]
theorem KA9 {C:List Cr} {loops:Int} (hm:QX3 C loops=true) (f:Nat) (hf:f<(QX0 C).length):∃ k s,k<C.length/\s<4/\f=cor C k s:=by
 obtain⟨-,hh⟩:=Qq3 hm
 obtain⟨g1,-,g3⟩:=hh f hf
 have hb:=g3 0 g1
 obtain⟨k,s,hk,hs,e⟩:=JH5 hm _ hb.1 hb.2
 refine⟨k,s,hk,hs,?_⟩
 rw[<-e]
 have hmem:((QX0 C).getD f []).getD 0 0∈(QX0 C).getD f []:=at_mem g1
 exact((Kj5 (QG5 (fd C) (4*C.length) _ hb.1 hb.2) hf).1 hmem).symm
end Go.Proofs.YtjcagkgpbcdghaaDoor

/- Several texts of the proof, one behind the other. -/
import Derived.Test.YtjcagkgpbcdghaaDoorCL0P
import Derived.Test.YtjcagkgpbcdghaaDoorW3P
import Derived.Test.YtjcagkgpbcdghaaDoorTG1P
import Derived.Test.YtjcagkgpbcdghaaDoorPMathP
/- Braids closed: the walks of closure.size, crossing.told and climbed. -/
namespace Go.Proofs.YtjcagkgpbcdghaaDoor
open Go.RowKit
set_option maxHeartbeats 8000000
set_option maxRecDepth 100000
theorem Zq2 (x : Int) (w : World) (h1 : -1000 ≤ x) (h2 : x ≤ 1000) :
    Calls Tryd.prog 50 #[.int .i64 x] w fun e w'=>e=.returned (.int .i64 (x.natAbs:Int))/\w'=w:=by
 by_cases h0:x<0
 · have HE:Hid (-x=(x.natAbs:Int)):=(by omega : -x=(x.natAbs:Int))
   have hc:x < -x:=by omega
   go_enter Tryd.func50,Tryd.ntmps50
   go_wp2
   go_ret
   exact⟨by rw[<-HE.out];rfl,rfl⟩
 · have HE:Hid (x=(x.natAbs:Int)):=(by omega:x=(x.natAbs:Int))
   have hc:¬ x < -x:=by omega
   go_enter Tryd.func50,Tryd.ntmps50
   go_wp2
   go_ret
   exact⟨by rw[<-HE.out];rfl,rfl⟩
def toX (x g0 g1 g2 g3:Int):Cr:=if 0<x then⟨g1,g3,g2,g0,true⟩ else⟨g0,g1,g3,g2,false⟩
theorem Zq1 (x g0 g1 g2 g3 : Int) (w : World) :
    Calls Tryd.prog 31 #[.agg #[.int .i64 g0,.int .i64 g1,.int .i64 g2,.int .i64 g3],.int .i64 x] w fun e w'=>e=.returned (.agg #[.int .i64 (toX x g0 g1 g2 g3).a,.int .i64 (toX x g0 g1 g2 g3).b,.int .i64 (toX x g0 g1 g2 g3).c,.int .i64 (toX x g0 g1 g2 g3).d,.bool (toX x g0 g1 g2 g3).plus])/\Below w.heap.size w w':=by
 by_cases h0:0<x
 · have e:toX x g0 g1 g2 g3=⟨g1,g3,g2,g0,true⟩:=if_pos h0
   rw[e]
   go_enter Tryd.func31,Tryd.ntmps31
   go_wp2
   exact bodyPost_ret (v:=.agg #[.int .i64 g1,.int .i64 g3,.int .i64 g2,.int .i64 g0,.bool true]) (by simp[results,Tryd.results31,go_sem]) rfl ⟨rfl,QF9 _ _ _⟩
 · have e:toX x g0 g1 g2 g3=⟨g0,g1,g3,g2,false⟩:=if_neg h0
   rw[e]
   go_enter Tryd.func31,Tryd.ntmps31
   go_wp2
   exact bodyPost_ret (v:=.agg #[.int .i64 g0,.int .i64 g1,.int .i64 g3,.int .i64 g2,.bool false]) (by simp[results,Tryd.results31,go_sem]) rfl ⟨rfl,QF9 _ _ _⟩
def psV (W:List (Nat×Nat)):List Value:=W.flatMap fun p=>[.int .i64 (p.1:Nat),.int .i64 (p.2:Nat),.int .i64 ((3-p.2:Nat):Nat)]
theorem Kh2 (W:List (Nat×Nat)):(psV W).length=W.length*3:=by
 induction W with
 |nil=>rfl
 |cons t l ih=>simp[psV]at *;omega
theorem Xd4 (W V:List (Nat×Nat)):psV (W++V)=psV W++psV V:=by simp[psV]
theorem Kh3 (R:List (Nat×Nat)) (k:Nat) (h:k<R.length):(psV R)[k*3]?=some (.int .i64 ((R.getD k (0,0)).1:Nat))/\(psV R)[k*3+1]?=some (.int .i64 ((R.getD k (0,0)).2:Nat))/\(psV R)[k*3+2]?=some (.int .i64 ((3-(R.getD k (0,0)).2:Nat):Nat)):=by
 induction R generalizing k with
 |nil=>simp at h
 |cons v V ih=>
  have e:psV (v::V)=.int .i64 (v.1:Nat)::.int .i64 (v.2:Nat)::.int .i64 ((3-v.2:Nat):Nat)::psV V:=by simp[psV]
  cases k with
  |zero=>rw[e];exact⟨rfl,rfl,rfl⟩
  |succ k=>
   have:=ih k (by simpa using h)
   rw[e,show(k+1)*3=k*3+1+1+1 by omega]
   simpa using this
theorem Kh1 (W:List (Nat×Nat)):∀ u∈psV W,u.oneCell'=true:=by
 intro u hu
 obtain⟨p,-,h⟩:=List.mem_flatMap.1 hu
 simp only[List.mem_cons,List.not_mem_nil,or_false]at h
 rcases h with rfl|rfl|rfl<;>rfl
theorem XB6 (W:World) (a b c:Value) (e:TypeId):∀ j u,[a,b,c][j]?=some u->(W.alloc (.cells #[a,b,c] e)).cell? ((⟨W.heap.size,0,none⟩:Addr).add j)=some u:=by
 intro j u hj
 rw[Addr.add_lit,Nat.zero_add]
 have hh:(W.alloc (.cells #[a,b,c] e)).heap[W.heap.size]?=some (.cells #[a,b,c] e (0,0)):=Array.getElem?_push_size
 match j,hj with
 |0,hj=>simp at hj;subst hj;exact QQ0 hh rfl
 |1,hj=>simp at hj;subst hj;exact QQ0 hh rfl
 |2,hj=>simp at hj;subst hj;exact QQ0 hh rfl
theorem XY7 (x:Nat) (y z:Int):∀ u∈[Value.int .i64 (x:Nat),.int .i64 y,.int .i64 z],u.oneCell'=true:=by
 intro u hu
 simp only[List.mem_cons,List.not_mem_nil,or_false]at hu
 rcases hu with rfl|rfl|rfl<;>rfl
theorem Kw4:(Tryd.prog.info? 98).map (fun i=>(i.zero,i.size,i.bytes))=some (some (.agg #[.int .i64 0,.int .i64 0,.int .i64 0]),3,24):=by kernel_rfl
theorem ZX6 (a : Option Addr) (c n p : Nat) (l : List Int) (w : World) (hw : ∀ j, j < l.length → 1 ≤ (l.getD j 0).natAbs ∧ (l.getD j 0).natAbs < n) (hn : n ≤ 6) (h1 : 1 ≤ p) (h2 : p ≤ n) (hl : l.length ≤ 20) (h : RdAt w w.heap.size 1 (.slice a l.length c) l.length (QQ3 l)) :
    Calls Tryd.prog 29 #[.slice a l.length c,.int .i64 (p:Nat)] w fun e w'=>∃ a2 c2,e=.returned (.slice a2 (cl l p l.length).length c2)/\w'.ownsRow w.heap.size 98 3 (.slice a2 (cl l p l.length).length c2) (cl l p l.length).length (psV (cl l p l.length))/\Below w.heap.size w w':=by
 have HLT:Hid (∀ j,j<l.length->1<=(l.getD j 0).natAbs/\(l.getD j 0).natAbs<n):=hw
 have HPR:Hid (∀ k,k<=l.length->1<=pl l p k/\pl l p k<=n):=fun k hk=>XU6 hw h1 h2 k hk
 have HCL:Hid (∀ k,(cl l p k).length<=k):=ZK2 l p
 have HRD:Hid (RdAt w w.heap.size 1 (.slice a l.length c) l.length (QQ3 l)):=h
 obtain⟨i1,hj,hy0,hy1,hy2⟩:=info_parts Kw4
 clear h hw
 obtain⟨m,hm⟩:∃ m,l.length=m:=⟨_,rfl⟩
 have HM:Hid (l.length=m):=hm
 rw[hm]at hl HLT HPR ⊢
 clear hm
 go_enter Tryd.func29,Tryd.ntmps29
 go_wp2
 go_loopw [1,5,10] (fun v1 v5 v10 wr=>∃ (k q n5 c5:Nat) (a5:Option Addr),k<=m/\n5<=k/\1<=q/\q<=n/\v10=.int .i64 (k:Nat)/\v1=.int .i64 (q:Nat)/\v5=.slice a5 n5 c5/\Hid (pl l p k=q)/\Hid ((cl l p k).length=n5)/\Hid (wr.ownsRow w.heap.size 98 3 (.slice a5 n5 c5) n5 (psV (cl l p k)))/\Hid (Below w.heap.size w wr)) (fun _ _ v10 _=>m-(intOf v10).toNat)
 case atStart=>exact⟨0,p,0,0,none,Nat.zero_le _,Nat.le_refl _,h1,h2,rfl,rfl,rfl,rfl,rfl,World.ownsRow_nil _ _ _ _,Below.refl _ _⟩
 case round=>
  rename World=>W1
  obtain⟨k,q,n5,c5,a5,hkm,hn5,hq1,hq2,rfl,rfl,rfl,HQ,HN5,hO,hb⟩:=hrel
  by_cases hk:k<m
  · have hkI:(k:Int)<(m:Int):=by omega
    obtain⟨b,off,ea,hlt,hc⟩:=(HRD.out.on hb.out).intAt k (by rw[HM.out];exact hk)
    have hx:=HLT.out k hk
    have HNX:Hid (pl l p (k+1)=plc q (l.getD k 0).natAbs/\cl l p (k+1)=cl l p k++(if q=(l.getD k 0).natAbs then [(k,0)] else if q=(l.getD k 0).natAbs+1 then [(k,1)] else [])):=(⟨by rw[<-HQ.out];rfl,by rw[<-HQ.out];rfl⟩:pl l p (k+1)=plc q (l.getD k 0).natAbs/\cl l p (k+1)=cl l p k++(if q=(l.getD k 0).natAbs then [(k,0)] else if q=(l.getD k 0).natAbs+1 then [(k,1)] else []))
    generalize l.getD k 0=x at hc hx HNX
    have HSZ:Hid (∀ W,Calls Tryd.prog 50 #[.int .i64 x] W fun e w'=>e=.returned (.int .i64 (x.natAbs:Int))/\w'=W):=fun W=>Zq2 x W (by omega) (by omega)
    obtain⟨i,hi⟩:∃ i,x.natAbs=i:=⟨_,rfl⟩
    rw[hi]at HSZ HNX hx
    have lb:b<W1.heap.size:=Nat.lt_of_lt_of_le hlt hb.out.size
    subst ea
    clear hi
    have hx1:=hx.1
    have hx2:=hx.2
    clear hx
    by_cases e1:q=i
    · have t1:((i:Int)==(q:Int))=true:=by rw[e1];exact beq_self_eq_true _
      have HN1:Hid (pl l p (k+1)=q+1/\cl l p (k+1)=cl l p k++[(k,0)]):=(by rw[HNX.out.1,HNX.out.2,if_pos e1];unfold plc;rw[if_pos e1,e1];exact⟨rfl,rfl⟩:pl l p (k+1)=q+1/\cl l p (k+1)=cl l p k++[(k,0)])
      have hqn:q+1<=n:=by omega
      clear HNX e1
      go_wp2_with (first
       |(at_builtin;refine wpList_append_own _ rfl _ _ 68 rfl w.heap.size 98 i1 (.agg #[.int .i64 0,.int .i64 0,.int .i64 0]) 3 24 Tryd.underlying68 hj hy0 hy1 hy2 rfl (by decide) _ _ _ rfl (hO.out.alloc _) ⟨W1.heap.size,0,none⟩ 1 1 [.int .i64 (k:Nat),.int .i64 0,.int .i64 3] rfl rfl (XB6 _ _ _ _ _) (XY7 _ _ _) (by unfold maxLen;omega) (by omega) (by have:=hb.out.size;simp;omega) ?_;intro v8 w8 hown8 hg8 _;refine Hid.out ?_)
       |(go_at_call 50;refine(HSZ.out _).mono ?_;rintro e9 w5 ⟨rfl,e5⟩;obtain rfl:=e5.symm))
      refine Lib.hid ?_
      obtain⟨a8,c8,rfl⟩:=QZ7 hown8
      have HO8:Hid (w8.ownsRow w.heap.size 98 3 (.slice a8 (n5+1) c8) (n5+1) (psV (cl l p (k+1)))):=(by rw[HN1.out.2,Xd4];exact hown8:w8.ownsRow w.heap.size 98 3 (.slice a8 (n5+1) c8) (n5+1) (psV (cl l p (k+1))))
      have HB8:Hid (Below w.heap.size w w8):=(hb.out.alloc hb.out.size _).grown hg8 (by have:=hb.out.size;simp;omega) (fun q hq=>(hO.out.lt q hq).1)
      have HL8:Hid ((cl l p (k+1)).length=n5+1):=(by rw[HN1.out.2,List.length_append,HN5.out];rfl:(cl l p (k+1)).length=n5+1)
      clear hown8 hg8
      go_wp2
      go_roundw
      case rel=>exact⟨k+1,q+1,n5+1,c8,a8,by omega,by omega,by omega,hqn,by go_num,by go_num,rfl,HN1.out.1,HL8.out,HO8.out,HB8.out⟩
      case measure=>simp only[intOf];omega
    · have t1:((i:Int)==(q:Int))=false:=by rw[beq_eq_false_iff_ne];omega
      by_cases e2:q=i+1
      · have t2:((i:Int)==(q:Int)-1)=true:=by rw[beq_iff_eq];omega
        have HN1:Hid (pl l p (k+1)=i/\cl l p (k+1)=cl l p k++[(k,1)]):=(by rw[HNX.out.1,HNX.out.2,if_neg e1,if_pos e2];unfold plc;rw[if_neg e1,if_pos e2];exact⟨rfl,rfl⟩:pl l p (k+1)=i/\cl l p (k+1)=cl l p k++[(k,1)])
        have HQI:Hid ((q:Int)-1=(i:Int)):=(by omega:(q:Int)-1=(i:Int))
        clear HNX e1 e2
        go_wp2_with (first
         |(at_builtin;refine wpList_append_own _ rfl _ _ 68 rfl w.heap.size 98 i1 (.agg #[.int .i64 0,.int .i64 0,.int .i64 0]) 3 24 Tryd.underlying68 hj hy0 hy1 hy2 rfl (by decide) _ _ _ rfl (hO.out.alloc _) ⟨W1.heap.size,0,none⟩ 1 1 [.int .i64 (k:Nat),.int .i64 1,.int .i64 2] rfl rfl (XB6 _ _ _ _ _) (XY7 _ _ _) (by unfold maxLen;omega) (by omega) (by have:=hb.out.size;simp;omega) ?_;intro v8 w8 hown8 hg8 _;refine Hid.out ?_)
         |(go_at_call 50;refine(HSZ.out _).mono ?_;rintro e9 w5 ⟨rfl,e5⟩;obtain rfl:=e5.symm))
        refine Lib.hid ?_
        obtain⟨a8,c8,rfl⟩:=QZ7 hown8
        have HO8:Hid (w8.ownsRow w.heap.size 98 3 (.slice a8 (n5+1) c8) (n5+1) (psV (cl l p (k+1)))):=(by rw[HN1.out.2,Xd4];exact hown8:w8.ownsRow w.heap.size 98 3 (.slice a8 (n5+1) c8) (n5+1) (psV (cl l p (k+1))))
        have HB8:Hid (Below w.heap.size w w8):=(hb.out.alloc hb.out.size _).grown hg8 (by have:=hb.out.size;simp;omega) (fun q hq=>(hO.out.lt q hq).1)
        have HL8:Hid ((cl l p (k+1)).length=n5+1):=(by rw[HN1.out.2,List.length_append,HN5.out];rfl:(cl l p (k+1)).length=n5+1)
        clear hown8 hg8
        go_wp2
        go_roundw
        case rel=>exact⟨k+1,i,n5+1,c8,a8,by omega,by omega,by omega,by omega,by go_num,congrArg (Value.int .i64) HQI.out,rfl,HN1.out.1,HL8.out,HO8.out,HB8.out⟩
        case measure=>simp only[intOf];omega
      · have t2:((i:Int)==(q:Int)-1)=false:=by rw[beq_eq_false_iff_ne];omega
        have HN1:Hid (pl l p (k+1)=q/\cl l p (k+1)=cl l p k):=(by rw[HNX.out.1,HNX.out.2,if_neg e1,if_neg e2,List.append_nil];unfold plc;rw[if_neg e1,if_neg e2];exact⟨rfl,rfl⟩:pl l p (k+1)=q/\cl l p (k+1)=cl l p k)
        clear HNX e1 e2
        go_wp2_with (go_at_call 50;refine(HSZ.out _).mono ?_;rintro e9 w5 ⟨rfl,e5⟩;obtain rfl:=e5.symm)
        go_roundw
        case rel=>exact⟨k+1,q,n5,c5,a5,by omega,by omega,hq1,hq2,by go_num,rfl,rfl,HN1.out.1,by rw[HN1.out.2];exact HN5.out,by rw[HN1.out.2];exact hO.out,hb.out⟩
        case measure=>simp only[intOf];omega
  · obtain rfl:k=m:=by omega
    have HFN:Hid (W1.ownsRow w.heap.size 98 3 (.slice a5 (cl l p k).length c5) (cl l p k).length (psV (cl l p k))/\Below w.heap.size w W1):=(⟨by rw[HN5.out];exact hO.out,hb.out⟩:W1.ownsRow w.heap.size 98 3 (.slice a5 (cl l p k).length c5) (cl l p k).length (psV (cl l p k))/\Below w.heap.size w W1)
    have HN6:Hid (n5=(cl l p k).length):=HN5.out.symm
    go_wp2
    go_ret
    exact⟨a5,c5,by rw[HN5.out];rfl,HFN.out⟩
end Go.Proofs.YtjcagkgpbcdghaaDoor
/- Braids closed: the walk of closure.number. -/
namespace Go.Proofs.YtjcagkgpbcdghaaDoor
open Go.RowKit
set_option maxHeartbeats 8000000
set_option maxRecDepth 100000
def sw (j:Nat):Nat:=if j%4=2 then j+1 else if j%4=3 then j-1 else j
theorem JD3 {i j:Nat} (h:sw i=sw j):i=j:=by
 unfold sw at h
 split at h<;>split at h<;>(try split at h)<;>(try split at h)<;>omega
theorem Jq3 (k s:Nat) (h:s<2):sw (4*k+s)=4*k+s:=by
 unfold sw
 rw[if_neg (by omega),if_neg (by omega)]
theorem JD2 (k s:Nat) (h:s<2):sw (4*k+(3-s))=4*k+2+s:=by
 unfold sw
 split
 · omega
 · split<;>omega
def crV (m:Nat) (G:Nat->Int):List Value:=QQ3 (QA8 (4*m) fun j=>G (sw j))
theorem Zd0 (m:Nat) (G:Nat->Int) (i c:Nat) (x:Int) (h:sw i=c):(crV m G).set i (.int .i64 x)=crV m (up G c x):=by
 unfold crV
 rw[QK0,Qq5 (4*m) (fun j=>G (sw j)) (fun j=>up G c x (sw j)) i x]
 intro j _
 unfold up
 subst h
 by_cases e:j=i
 · rw[if_pos e,if_pos (by rw[e])]
 · rw[if_neg e,if_neg (fun q=>e (JD3 q))]
theorem XH1 (m:Nat) (G:Nat->Int) (i:Nat) (h:i<4*m):(crV m G)[i]?=some (.int .i64 (G (sw i))):=by
 unfold crV
 rw[QZ5 _ i (by rw[QB3];exact h),XQ8 _ _ _ h]
theorem Xf2 {P:Prop} (h:P):Hid P:=h
theorem ZH1 (B B2 g cx m b : Nat) (a2 : Option Addr) (c2 : Nat) (W : List (Nat × Nat)) (G : Nat → Int) (w : World) (hb : b ≤ 100000) (hW : W.length ≤ 1000) (hmem : ∀ q ∈ W, q.1 < m ∧ q.2 < 2)
    (hR:w.ownsRow B 74 4 (.slice (some ⟨g,0,none⟩) m cx) m (crV m G)) (hP:w.ownsRow B2 98 3 (.slice a2 W.length c2) W.length (psV W)):
    Calls Tryd.prog 30 #[.slice (some ⟨g,0,none⟩) m cx,.slice a2 W.length c2,.int .i64 (b:Nat)] w fun e w'=>e=.returned (.tuple #[])/\w'.ownsRow B 74 4 (.slice (some ⟨g,0,none⟩) m cx) m (crV m (nG G b W))/\w.grownBy w' (some g):=by
 have HMM:Hid (∀ i,i<W.length->(W.getD i (0,0)).1<m/\(W.getD i (0,0)).2<2):=fun i hi=>hmem _ (by rw[List.getD_eq_getElem?_getD,List.getElem?_eq_getElem hi];exact List.getElem_mem hi)
 have HNX:Hid (∀ i,i<W.length->Qu9 G b W (i+1)=up (up (Qu9 G b W i) (4*(W.getD i (0,0)).1+(W.getD i (0,0)).2) ((b+i+1:Nat):Int)) (4*(W.getD i (0,0)).1+2+(W.getD i (0,0)).2) ((b+(i+1)%W.length+1:Nat):Int)):=fun i hi=>Xv1 G b W i hi
 have HRW:Hid (w.ownsRow B 74 4 (.slice (some ⟨g,0,none⟩) m cx) m (crV m (Qu9 G b W 0))):=(by rw[Xv0];exact hR:w.ownsRow B 74 4 (.slice (some ⟨g,0,none⟩) m cx) m (crV m (Qu9 G b W 0)))
 have HPW:Hid (w.ownsRow B2 98 3 (.slice a2 W.length c2) W.length (psV W)):=hP
 have HAL:Hid (Qu9 G b W W.length=nG G b W):=ZW3 G b W
 have hgw:=(hR.lt g rfl).2
 have HPG:Hid (∀ i,i<W.length->(psV W)[i*3]?=some (.int .i64 ((W.getD i (0,0)).1:Nat))/\(psV W)[i*3+1]?=some (.int .i64 ((W.getD i (0,0)).2:Nat))/\(psV W)[i*3+2]?=some (.int .i64 ((3-(W.getD i (0,0)).2:Nat):Nat))):=fun i hi=>Kh3 W i hi
 clear hR hP hmem
 obtain⟨n,hn⟩:∃ n,W.length=n:=⟨_,rfl⟩
 have HN:Hid (W.length=n):=hn
 rw[hn]at HMM HNX HPW HAL HPG hW ⊢
 clear hn
 go_enter Tryd.func30,Tryd.ntmps30
 go_wp2
 go_loopw [11] (fun v11 wr=>∃ i:Nat,i<=n/\v11=.int .i64 (i:Nat)/\Hid (wr.ownsRow B 74 4 (.slice (some ⟨g,0,none⟩) m cx) m (crV m (Qu9 G b W i)))/\Hid (wr.ownsRow B2 98 3 (.slice a2 n c2) n (psV W))/\Hid (w.grownBy wr (some g))) (fun v11 _=>n-(intOf v11).toNat)
 case atStart=>exact⟨0,Nat.zero_le _,rfl,HRW.out,HPW.out,World.grownBy.refl _ _⟩
 case round=>
  rename World=>W1
  obtain⟨i,hin,rfl,hr,hp,hg⟩:=hrel
  by_cases hil:i<n
  · have hiI:(i:Int)<(n:Int):=by omega
    obtain⟨q,c3,e3,-,hqw⟩:=Xj6 hp.out (by omega)
    injection e3 with e4 e5 e6
    subst e4 e6
    clear e5
    obtain⟨p0,p1,p2⟩:=HPG.out i hil
    have x0:=hp.out.cellAt (i*3) (by omega)
    have x1:=hp.out.cellAt (i*3+1) (by omega)
    have x2:=hp.out.cellAt (i*3+2) (by omega)
    rw[p0]at x0
    rw[p1]at x1
    rw[p2]at x2
    obtain⟨m0,m1⟩:=HMM.out i hil
    have HNN:=HNX.out i hil
    obtain⟨k,hk⟩:∃ k,(W.getD i (0,0)).1=k:=⟨_,rfl⟩
    obtain⟨s,hs⟩:∃ s,(W.getD i (0,0)).2=s:=⟨_,rfl⟩
    rw[hk]at x0 m0 HNN
    rw[hs]at x1 x2 m1 HNN
    obtain⟨o,ho⟩:∃ o,3 - s=o:=⟨_,rfl⟩
    rw[ho]at x2
    have HSO:Hid (sw (4*k+s)=4*k+s/\sw (4*k+o)=4*k+2+s):=(⟨Jq3 k s m1,by rw[<-ho];exact JD2 k s m1⟩:sw (4*k+s)=4*k+s/\sw (4*k+o)=4*k+2+s)
    have ho4:o<4:=by omega
    clear hk hs ho p0 p1 p2
    obtain⟨t,ht⟩:∃ t,(i+1)%n=t:=⟨_,rfl⟩
    have htn:t<n:=by rw[<-ht];exact Nat.mod_lt _ (by omega)
    have htI:((i:Int)+1)%(n:Int)=(t:Int):=by rw[<-ht];simp
    rw[ht]at HNN
    have HTI:Hid (((i:Int)+1)%(n:Int)=(t:Int)):=htI
    have HNS:=Xf2 HNN
    have hmI:(k:Int)<(m:Int):=by omega
    have hs4:(s:Int)<4:=by omega
    have ho4I:(o:Int)<4:=by omega
    clear HNN htI ht
    go_wp2
    rw[HTI.out]
    obtain⟨X,hX⟩:∃ X,X=W1.alloc (Obj.cells #[.int .i64 (k:Nat),.int .i64 (s:Nat),.int .i64 (o:Nat)] 98):=⟨_,rfl⟩
    have HX:Hid (X=W1.alloc (Obj.cells #[.int .i64 (k:Nat),.int .i64 (s:Nat),.int .i64 (o:Nat)] 98)):=hX
    have hsX:X.heap.size=W1.heap.size+1:=by rw[hX];simp
    have hT:X.heap[W1.heap.size]?=some (.cells #[.int .i64 (k:Nat),.int .i64 (s:Nat),.int .i64 (o:Nat)] 98 (0,0)):=by rw[hX];exact alloc_at rfl
    rw[<-hX]
    have HRX:Hid (X.ownsRow B 74 4 (.slice (some ⟨g,0,none⟩) m cx) m (crV m (Qu9 G b W i))):=(by rw[hX];exact hr.out.alloc _:X.ownsRow B 74 4 (.slice (some ⟨g,0,none⟩) m cx) m (crV m (Qu9 G b W i)))
    have HPX:Hid (X.ownsRow B2 98 3 (.slice (some ⟨q,0,none⟩) n c2) n (psV W)):=(by rw[hX];exact hp.out.alloc _:X.ownsRow B2 98 3 (.slice (some ⟨q,0,none⟩) n c2) n (psV W))
    have HGX:Hid (w.grownBy X (some g)):=(by rw[hX];exact grown_new hg.out (grown_below ((Below.refl W1.heap.size W1).alloc (Nat.le_refl _) _) none) (fun k hk=>by cases hk):w.grownBy X (some g))
    obtain⟨W1s,hW1s⟩:∃ z,W1.heap.size=z:=⟨_,rfl⟩
    rw[hW1s]at hT hsX hqw ⊢
    have HST0:Hid (X.heap[W1s]?=some (.cells #[.int .i64 (k:Nat),.int .i64 (s:Nat),.int .i64 (o:Nat)] 98 (0,0))):=hT
    have y0:X.cell? ⟨W1s,0,none⟩=some (.int .i64 (k:Nat)):=QQ0 hT rfl
    have y1:X.cell? ⟨W1s,1,none⟩=some (.int .i64 (s:Nat)):=QQ0 hT rfl
    have e0:=HRX.out.cellAt (k*4+s) (by omega)
    rw[XH1 _ _ _ (by omega)]at e0
    generalize Qu9 G b W i (sw (k*4+s))=z0 at e0
    have f0:=HRX.out.frozenAt (k*4+s)
    have lg:g<X.heap.size:=(HRX.out.lt g rfl).2
    have lq:W1s<X.heap.size:=by omega
    have hgW:g≠W1s:=by have:=(hr.out.lt g rfl).2;omega
    have HGW:Hid (g≠W1s):=hgW
    clear hX hT hW1s hsX x0 x1 x2
    go_region
    obtain⟨Y,hY⟩:∃ Y,Y=(X.setCell ⟨g,k*4+s,none⟩ (.int .i64 ((b:Int)+(i:Int)+1))).drew:=⟨_,rfl⟩
    rw[<-hY]
    have hst:=HRX.out.stored (k*4+s) (.int .i64 ((b:Int)+(i:Int)+1))
    rw[Zd0 m (Qu9 G b W i) (k*4+s) (4*k+s) _ (by rw[Nat.mul_comm k 4];exact HSO.out.1)]at hst
    have hdY:∀ (U:World) (r:Option Nat),U.grownBy U.drew r:=fun U r=>grown_below (below_drewN (Below.refl _ _) 1) r
    have HRY:Hid (Y.ownsRow B 74 4 (.slice (some ⟨g,0,none⟩) m cx) m (crV m (up (Qu9 G b W i) (4*k+s) ((b:Int)+(i:Int)+1)))):=(by rw[hY];exact own_any hst.1 (hdY _ _):Y.ownsRow B 74 4 (.slice (some ⟨g,0,none⟩) m cx) m (crV m (up (Qu9 G b W i) (4*k+s) ((b:Int)+(i:Int)+1))))
    have HXY:Hid (X.grownBy Y (some g)):=(by rw[hY];exact grown_new hst.2 (hdY _ none) (fun k hk=>by cases hk):X.grownBy Y (some g))
    have hT:Y.heap[W1s]?=some (.cells #[.int .i64 (k:Nat),.int .i64 (s:Nat),.int .i64 (o:Nat)] 98 (0,0)):=(HXY.out.block _ lq (fun e=>HGW.out (Option.some.inj e).symm)).trans HST0.out
    have lg:g<Y.heap.size:=(HRY.out.lt g rfl).2
    have lq:W1s<Y.heap.size:=Nat.lt_of_lt_of_le lq HXY.out.size
    have y0:Y.cell? ⟨W1s,0,none⟩=some (.int .i64 (k:Nat)):=QQ0 hT rfl
    have y2:Y.cell? ⟨W1s,2,none⟩=some (.int .i64 (o:Nat)):=QQ0 hT rfl
    have e0:=HRY.out.cellAt (k*4+o) (by omega)
    rw[XH1 _ _ _ (by omega)]at e0
    generalize up (Qu9 G b W i) (4*k+s) ((b:Int)+(i:Int)+1) (sw (k*4+o))=z1 at e0
    have f0:=HRY.out.frozenAt (k*4+o)
    clear hst hY hT hdY
    go_wp2
    go_region
    obtain⟨Z,hZ⟩:∃ Z,Z=(Y.setCell ⟨g,k*4+o,none⟩ (.int .i64 ((b:Int)+(t:Int)+1))).drew:=⟨_,rfl⟩
    rw[<-hZ]
    have hst:=HRY.out.stored (k*4+o) (.int .i64 ((b:Int)+(t:Int)+1))
    rw[Zd0 m _ (k*4+o) (4*k+2+s) _ (by rw[Nat.mul_comm k 4];exact HSO.out.2)]at hst
    have hdY:∀ (U:World) (r:Option Nat),U.grownBy U.drew r:=fun U r=>grown_below (below_drewN (Below.refl _ _) 1) r
    have HRZ:Hid (Z.ownsRow B 74 4 (.slice (some ⟨g,0,none⟩) m cx) m (crV m (Qu9 G b W (i+1)))):=(by rw[hZ,HNS.out];exact own_any hst.1 (hdY _ _):Z.ownsRow B 74 4 (.slice (some ⟨g,0,none⟩) m cx) m (crV m (Qu9 G b W (i+1))))
    have HYZ:Hid (Y.grownBy Z (some g)):=(by rw[hZ];exact grown_new hst.2 (hdY _ none) (fun k hk=>by cases hk):Y.grownBy Z (some g))
    have HPZ:Hid (Z.ownsRow B2 98 3 (.slice (some ⟨q,0,none⟩) n c2) n (psV W)):=(HPX.out.kept HXY.out (own_ne HPX.out HRX.out (by decide))).kept HYZ.out (own_ne (HPX.out.kept HXY.out (own_ne HPX.out HRX.out (by decide))) HRY.out (by decide))
    have HGZ:Hid (w.grownBy Z (some g)):=(HGX.out.trans HXY.out).trans HYZ.out
    clear hst hZ hdY
    go_wp2
    go_roundw
    case rel=>exact⟨i+1,by omega,by go_num,HRZ.out,HPZ.out,HGZ.out⟩
    case measure=>simp only[intOf];omega
  · obtain rfl:i=n:=by omega
    have HFN:Hid (W1.ownsRow B 74 4 (.slice (some ⟨g,0,none⟩) m cx) m (crV m (nG G b W))/\w.grownBy W1 (some g)):=(⟨by rw[<-HAL.out];exact hr.out,hg.out⟩:W1.ownsRow B 74 4 (.slice (some ⟨g,0,none⟩) m cx) m (crV m (nG G b W))/\w.grownBy W1 (some g))
    go_wp2
    exact bodyPost_end (v:=.tuple #[]) (by simp[results,Tryd.results30,go_sem]) rfl ⟨rfl,HFN.out⟩
end Go.Proofs.YtjcagkgpbcdghaaDoor
/- Braids closed: the walk of closure.rings. -/
namespace Go.Proofs.YtjcagkgpbcdghaaDoor
open Go.RowKit
set_option maxHeartbeats 8000000
set_option maxRecDepth 100000
def flA (D:Nat->Bool):Array Value:=#[.bool (D 0),.bool (D 1),.bool (D 2),.bool (D 3),.bool (D 4),.bool (D 5),.bool (D 6)]
theorem JZ8 (D:Nat->Bool) (x:Nat) (h:x<7):(flA D)[x]?=some (.bool (D x)):=by
 have:x=0∨x=1∨x=2∨x=3∨x=4∨x=5∨x=6:=by omega
 rcases this with rfl|rfl|rfl|rfl|rfl|rfl|rfl<;>rfl
theorem JZ7 (D:Nat->Bool) (x:Nat) (h:x<7):(flA D).setIfInBounds x (.bool true)=flA (upB D x):=by
 have:x=0∨x=1∨x=2∨x=3∨x=4∨x=5∨x=6:=by omega
 rcases this with rfl|rfl|rfl|rfl|rfl|rfl|rfl<;>simp[flA,upB]
structure RnAt (w:World) (D:Nat->Bool) (L:List (List Nat)) (v:Value) (wr:World):Prop where
 box:wr.heap[w.heap.size]?=some (.cells (flA D) 96 (0,0))
 rows:NatsOwn wr (w.heap.size+1) v L
 bel:Below w.heap.size w wr
theorem NatsOwn.slice {w:World} {B:Nat} {v:Value} {L:List (List Nat)} (h:NatsOwn w B v L):∃ a c,v=.slice a L.length c:=by
 obtain⟨ys,h1,h2,-⟩:=h
 obtain⟨a,c,e⟩:=QZ7 h2
 exact⟨a,c,by rw[e,h1]⟩
theorem ZQ2 {w w8:World} {B m:Nat} {v v8 r:Value} {L:List (List Nat)} {R:List Nat} {ys:List Value} (h:NatsOwn w B v L) (hr:w.ownsRow B 3 1 r R.length (QK9 R)) (hl:ys.length=L.length) (hy:w.ownsRow B 22 1 v m ys) (hg:w.grownBy w8 v.ownBlock) (h8:w8.ownsRow B 22 1 v8 (m+1) (ys++[r])) (hm:L.length=m):NatsOwn w8 B v8 (L++[R]):=by
 obtain⟨zs,h1,h2,h3⟩:=h
 obtain rfl:m=zs.length:=by omega
 obtain rfl:ys=zs:=by
  apply List.ext_getElem?
  intro j
  by_cases hj:j<ys.length
  · rcases h2.2 with⟨rfl,h0⟩|⟨g,cap,cur,rfl,_⟩
    · omega
    · have e1:=World.ownsRow.cellAt hy j (by omega)
      have e2:=World.ownsRow.cellAt h2 j (by omega)
      exact e1.symm.trans e2
  · rw[List.getElem?_eq_none (by omega),List.getElem?_eq_none (by omega)]
 refine⟨ys++[r],by simp[h1],by rw[List.length_append,List.length_singleton];exact h8,fun j hj=>?_⟩
 by_cases hjk:j<ys.length
 · have e1:(L++[R]).getD j []=L.getD j []:=by rw[List.getD_eq_getElem?_getD,List.getD_eq_getElem?_getD,List.getElem?_append_left (by omega)]
   rw[Xv5 ys _ j hjk,e1]
   have h4:=h3 j (by omega)
   exact h4.kept hg (own_ne h4 h2 (by decide))
 · have ej:j=ys.length:=by simp at hj;omega
   have e1:(L++[R]).getD j []=R:=by rw[ej,h1];simp[List.getD]
   have e2:(ys++[r]).getD j (.bool false)=r:=by rw[ej];exact Xv6 ys _
   rw[e1,e2]
   exact hr.kept hg (own_ne hr h2 (by decide))
theorem rings_any (a : Option Addr) (c n : Nat) (T : List Int) (E : Nat → Nat) (w : World) (hn : n ≤ 6) (hT : T.length = n) (hE : ∀ p, 1 ≤ p → p ≤ n → 1 ≤ E p ∧ E p ≤ n) (hTE : ∀ p, 1 ≤ p → p ≤ n → T.getD (p - 1) 0 = (E p : Int)) (h : RdAt w w.heap.size 1 (.slice a n c) n (QQ3 T)) :
    Calls Tryd.prog 28 #[.slice a n c] w fun e w'=>∃ v,e=.returned v/\NatsOwn w' w.heap.size v (rgs E n).2/\Below w.heap.size w w':=by
 obtain⟨i0,hi,hz0,hz1,hz2⟩:=info_parts QB7
 obtain⟨i1,hj,hy0,hy1,hy2⟩:=info_parts KA3
 have HRD:Hid (RdAt w w.heap.size 1 (.slice a T.length c) T.length (QQ3 T)):=(by rw[hT];exact h:RdAt w w.heap.size 1 (.slice a T.length c) T.length (QQ3 T))
 have HT:Hid (T.length=n):=hT
 have HE:Hid (∀ p,1<=p->p<=n->1<=E p/\E p<=n):=hE
 have HTE:Hid (∀ p,1<=p->p<=n->T.getD (p-1) 0=(E p:Int)):=hTE
 clear h hT hE hTE
 obtain⟨Y,hY⟩:∃ Y,Y=w.alloc (.cells #[.bool false,.bool false,.bool false,.bool false,.bool false,.bool false,.bool false] 96):=⟨_,rfl⟩
 have HY:Hid (Y=w.alloc (.cells #[.bool false,.bool false,.bool false,.bool false,.bool false,.bool false,.bool false] 96)):=hY
 have HR0:Hid (RnAt w (rgs E 0).1 (rgs E 0).2 (.slice none 0 0) Y):=⟨by rw[hY];exact alloc_at rfl,⟨[],rfl,World.ownsRow_nil _ _ _ _,fun j hj=>absurd hj (Nat.not_lt_zero _)⟩,by rw[hY];exact(Below.refl _ _).alloc (Nat.le_refl _) _⟩
 clear hY
 go_enter Tryd.func28,Tryd.ntmps28
 go_wp2
 rw[<-HY.out]
 go_loopw [3,5] (fun v3 v5 wr=>∃ (k n3 c3:Nat) (a3:Option Addr),k<=n/\n3<=k/\v5=.int .i64 ((k:Int)+1)/\v3=.slice a3 n3 c3/\Hid ((rgs E k).2.length=n3)/\Hid (RnAt w (rgs E k).1 (rgs E k).2 (.slice a3 n3 c3) wr)) (fun _ v5 _=>n+1-(intOf v5).toNat)
 case atStart=>exact⟨0,0,0,none,Nat.zero_le _,Nat.le_refl _,rfl,rfl,rfl,HR0.out⟩
 case round=>
  clear HR0
  rename World=>W1
  obtain⟨k,n3,c3,a3,hkn,hn3,rfl,rfl,HN3,hK⟩:=hrel
  have hsW:=hK.out.bel.size
  have hgW:w.heap.size<W1.heap.size:=(Array.getElem?_eq_some_iff.1 hK.out.box).1
  by_cases hk:k<n
  · have hkI:(k:Int)+1<=(n:Int):=by omega
    go_wp2
    go_loopw [6,7] (fun v6 v7 ws=>∃ (R:List Nat) (D':Nat->Bool) (y f n6 c6:Nat) (a6:Option Addr),y<n/\n6<=7/\v7=.int .i64 ((y:Int)+1)/\v6=.slice a6 n6 c6/\Hid (R.length=n6)/\Hid (RgS E n (rgs E k).1 (k+1) R D' (y+1) f)/\Hid (ws.heap[w.heap.size]?=some (.cells (flA D') 96 (0,0)))/\Hid (ws.ownsRow W1.heap.size 3 1 (.slice a6 n6 c6) n6 (QK9 R))/\Hid (W1.grownBy ws (some w.heap.size))/\Hid (Below w.heap.size w ws)) (fun v6 _ _=>8-lenOf v6)
    case atStart=>exact⟨[],(rgs E k).1,k,7,0,0,none,hk,by omega,rfl,rfl,rfl,RgS.start E n _ (k+1) (by omega) (by omega),hK.out.box,World.ownsRow_nil _ _ _ _,World.grownBy.refl _ _,hK.out.bel⟩
    case round=>
     rename World=>W2
     obtain⟨R,D',y,f,n6,c6,a6,hyn,hn6,rfl,rfl,HN6,HRG,hbx,hO,hg,hb⟩:=hrel
     have e0:W2.cell? ⟨w.heap.size,y+1,none⟩=some (.bool (D' (y+1))):=QQ0 hbx.out (JZ8 D' (y+1) (by omega))
     have f0:W2.frozen? ⟨w.heap.size,y+1,none⟩=false:=QQ4 hbx.out
     have hy6:(y:Int)+1<7:=by omega
     have hs2:=hb.out.size
     have hg2:w.heap.size<W2.heap.size:=(Array.getElem?_eq_some_iff.1 hbx.out).1
     cases hd:D' (y+1) with
     |false=>
      rw[hd]at e0
      obtain⟨b,off,ea,hlt,hc⟩:=HRD.out.intAt y (by rw[HT.out];exact hyn)
      have hE2:=HE.out (y+1) (by omega) (by omega)
      have hTE2:=HTE.out (y+1) (by omega) (by omega)
      rw[Nat.add_sub_cancel]at hTE2
      rw[hTE2]at hc
      obtain⟨z,hz⟩:∃ z,E (y+1)=z+1:=⟨E (y+1) - 1,by omega⟩
      obtain⟨f',-,HS'⟩:=HRG.out.step hn HE.out hd
      rw[hz]at hc hE2 HS'
      have HRN:Hid (RgS E n (rgs E k).1 (k+1) (R++[y+1]) (upB D' (y+1)) (z+1) f'):=HS'
      have hL7:n6+1<=7:=by have:=HRN.out.len;rw[List.length_append,HN6.out]at this;simpa using this
      have hzn:z<n:=by omega
      have hc2:w.cell? ⟨b,off+y,none⟩=some (.int .i64 ((z:Int)+1)):=hc
      obtain⟨X,hX⟩:∃ X,X=W2.setCell ⟨w.heap.size,y+1,none⟩ (.bool true):=⟨_,rfl⟩
      have HX:Hid (X=W2.setCell ⟨w.heap.size,y+1,none⟩ (.bool true)):=hX
      have hst:=QX9 W2 w.heap.size (y+1) (.bool true)
      have HBX:Hid (X.heap[w.heap.size]?=some (.cells (flA (upB D' (y+1))) 96 (0,0))):=(by rw[hX,<-JZ7 D' (y+1) (by omega)];exact QZ0 hbx.out:X.heap[w.heap.size]?=some (.cells (flA (upB D' (y+1))) 96 (0,0)))
      rw[<-hX]at hst
      have HOX : Hid (X.ownsRow W1.heap.size 3 1 (.slice a6 n6 c6) n6 (QK9 R)) := hO.out.kept hst (by
       cases hv:(Value.slice a6 n6 c6).ownBlock with
       |none=>exact Or.inl rfl
       |some q=>exact Or.inr (fun e=>by have:=(hO.out.lt q hv).1;have:=Option.some.inj e;omega))
      have HGX:Hid (W1.grownBy X (some w.heap.size)):=grown_trans hg.out hst
      have HBE:Hid (Below w.heap.size w X):=hb.out.grown hst hb.out.size (fun q hq=>by have:=Option.some.inj hq;omega)
      have hsX:X.heap.size=W2.heap.size:=by rw[hX];simp
      have HSX:Hid (X.heap.size=W2.heap.size):=hsX
      clear hX hst hc hz hTE2 HS' hsX
      subst ea
      go_wp2_with (first
       |(at_builtin;rw[<-HX.out,<-HSX.out];refine wpList_append_own _ rfl _ _ 22 rfl W1.heap.size 3 i0 (.int .i64 0) 1 8 Tryd.underlying22 hi hz0 hz1 hz2 rfl (by decide) _ _ _ rfl (HOX.out.alloc _) ⟨X.heap.size,0,none⟩ 1 1 [.int .i64 ((y:Int)+1)] rfl rfl (QG1 _ _ _) (JZ2 _) (by unfold maxLen;omega) (by omega) (by have:=HGX.out.size;simp;omega) ?_;intro v8 w8 hown8 hg8 _;refine Hid.out ?_))
      refine Lib.hid ?_
      obtain⟨a8,c8,rfl⟩:=QZ7 hown8
      have HO8:Hid (w8.ownsRow W1.heap.size 3 1 (.slice a8 (n6+1) c8) (n6+1) (QK9 (R++[y+1]))):=(by rw[XA1];exact hown8:w8.ownsRow W1.heap.size 3 1 (.slice a8 (n6+1) c8) (n6+1) (QK9 (R++[y+1])))
      have hA:=HOX.out.alloc (.cells #[.int .i64 ((y:Int)+1)] 3)
      have HG8:Hid (W1.grownBy w8 (some w.heap.size)):=grown_new (grown_trans HGX.out (grown_none (World.grownBy_alloc _ _ none))) hg8 (fun q hq=>(hA.lt q hq).1)
      have HB8:Hid (Below w.heap.size w w8):=(HBE.out.alloc HBE.out.size _).grown hg8 (by have:=HBE.out.size;simp;omega) (fun q hq=>by have:=(hA.lt q hq).1;omega)
      have HX8:Hid (w8.heap[w.heap.size]?=some (.cells (flA (upB D' (y+1))) 96 (0,0))):=(hg8.block _ (by have:=HSX.out;simp;omega) (fun e=>by have:=(hA.lt _ e.symm).1;omega)).trans (alloc_old HBX.out)
      have HL8:Hid ((R++[y+1]).length=n6+1):=(by rw[List.length_append,HN6.out];rfl:(R++[y+1]).length=n6+1)
      have hc8:w8.cell? ⟨b,off+y,none⟩=some (.int .i64 ((z:Int)+1)):=bcell HB8.out hlt hc2
      have lb:b<w8.heap.size:=Nat.lt_of_lt_of_le hlt HB8.out.size
      have hyI:(y:Int)<(n:Int):=by omega
      clear hown8 hg8 hA hc2 e0 f0
      go_wp2
      go_roundw
      case rel=>exact⟨R++[y+1],upB D' (y+1),z,f',n6+1,c8,a8,hzn,hL7,rfl,rfl,HL8.out,HRN.out,HX8.out,HO8.out,HG8.out,HB8.out⟩
      case measure=>simp only[lenOf];omega
     |true=>
      rw[hd]at e0
      have HST:Hid (rg E 7 (rgs E k).1 (k+1)=(R,D')):=HRG.out.stop hd
      obtain⟨ys,hyl,hyr,hye⟩:=hK.out.rows
      have HRW : Hid (NatsOwn W2 (w.heap.size + 1) (.slice a3 n3 c3) (rgs E k).2) := (⟨ys, hyl, hyr.kept hg.out (by
       cases hv:(Value.slice a3 n3 c3).ownBlock with
       |none=>exact Or.inl rfl
       |some q=>exact Or.inr (fun e=>by have:=(hyr.lt q hv).1;have:=Option.some.inj e;omega)),fun j hj=>(hye j hj).kept hg.out (by
       cases hv:(ys.getD j (.bool false)).ownBlock with
       |none=>exact Or.inl rfl
       |some q=>exact Or.inr (fun e=>by have:=((hye j hj).lt q hv).1;have:=Option.some.inj e;omega))⟩:NatsOwn W2 (w.heap.size+1) (.slice a3 n3 c3) (rgs E k).2)
      clear hyr hye hyl
      by_cases h6:n6=0
      · have HNX : Hid (rgs E (k + 1) = (D', (rgs E k).2)) := (by
          show((rg E 7 (rgs E k).1 (k+1)).2,if(rg E 7 (rgs E k).1 (k+1)).1.length=0 then(rgs E k).2 else(rgs E k).2++[(rg E 7 (rgs E k).1 (k+1)).1])=_
          rw[HST.out,if_pos (by show R.length=0;rw[HN6.out];exact h6)]:rgs E (k+1)=(D',(rgs E k).2))
        subst h6
        go_wp2
        go_roundw
        case rel=>exact⟨k+1,n3,c3,a3,by omega,by omega,by go_num,rfl,by rw[HNX.out];exact HN3.out,by rw[HNX.out];exact⟨hbx.out,HRW.out,hb.out⟩⟩
        case measure=>simp only[intOf];omega
      · have HNX : Hid (rgs E (k + 1) = (D', (rgs E k).2 ++ [R])) := (by
          show((rg E 7 (rgs E k).1 (k+1)).2,if(rg E 7 (rgs E k).1 (k+1)).1.length=0 then(rgs E k).2 else(rgs E k).2++[(rg E 7 (rgs E k).1 (k+1)).1])=_
          rw[HST.out,if_neg (by show ¬ R.length=0;rw[HN6.out];exact h6)]:rgs E (k+1)=(D',(rgs E k).2++[R]))
        have h6p:0<n6:=by omega
        have hdp:decide (0<(n6:Int))=true:=by simp;omega
        have hdp2:decide (0<n6)=true:=by simp;omega
        have HON:Hid (∀ u∈[Value.slice a6 n6 c6],u.oneCell'=true):=ZW1 hO.out
        obtain⟨ys,hyl,hyr,-⟩:=HRW.out
        have HYR:Hid (W2.ownsRow (w.heap.size+1) 22 1 (.slice a3 n3 c3) n3 ys):=(by have h:=hyr;rw[hyl,HN3.out]at h;exact h:W2.ownsRow (w.heap.size+1) 22 1 (.slice a3 n3 c3) n3 ys)
        have HYL:Hid (ys.length=(rgs E k).2.length):=hyl
        clear hyr hyl
        go_wp2_with (first
         |(at_builtin;refine wpList_append_own _ rfl _ _ 41 rfl (w.heap.size+1) 22 i1 (.slice none 0 0) 1 24 Tryd.underlying41 hj hy0 hy1 hy2 rfl (by decide) _ _ _ rfl (HYR.out.alloc _) ⟨W2.heap.size,0,none⟩ 1 1 [Value.slice a6 n6 c6] rfl rfl (QG1 _ _ _) HON.out (by unfold maxLen;omega) (by omega) (by simp;omega) ?_;intro v8 w8 hown8 hg8 _;refine Hid.out ?_))
        refine Lib.hid ?_
        obtain⟨a8,c8,rfl⟩:=QZ7 hown8
        have HRA:Hid (NatsOwn (W2.alloc (.cells #[Value.slice a6 n6 c6] 22)) (w.heap.size+1) (.slice a3 n3 c3) (rgs E k).2):=HRW.out.any (World.grownBy_alloc _ _ none)
        have hA:=HYR.out.alloc (.cells #[Value.slice a6 n6 c6] 22)
        have HR8:Hid (NatsOwn w8 (w.heap.size+1) (.slice a8 (n3+1) c8) ((rgs E k).2++[R])):=ZQ2 HRA.out (QZ6 (by rw[HN6.out];exact hO.out.alloc _) (by omega)) HYL.out hA hg8 hown8 HN3.out
        have HX8:Hid (w8.heap[w.heap.size]?=some (.cells (flA D') 96 (0,0))):=(hg8.block _ (by simp;omega) (fun e=>by have:=(hA.lt _ e.symm).1;omega)).trans (alloc_old hbx.out)
        have HB8:Hid (Below w.heap.size w w8):=(hb.out.alloc hb.out.size _).grown hg8 (by have:=hb.out.size;simp;omega) (fun q hq=>by have:=(hA.lt q hq).1;omega)
        clear hown8 hg8 hA
        go_wp2
        go_roundw
        case rel=>exact⟨k+1,n3+1,c8,a8,by omega,by omega,by go_num,rfl,by rw[HNX.out,List.length_append,HN3.out];rfl,by rw[HNX.out];exact⟨HX8.out,HR8.out,HB8.out⟩⟩
        case measure=>simp only[intOf];omega
  · obtain rfl:k=n:=by omega
    obtain⟨ys,hyl,hyr,hye⟩:=hK.out.rows
    have HFN:Hid (NatsOwn W1 w.heap.size (.slice a3 n3 c3) (rgs E k).2/\Below w.heap.size w W1):=(⟨hK.out.rows.low (by omega),hK.out.bel⟩:NatsOwn W1 w.heap.size (.slice a3 n3 c3) (rgs E k).2/\Below w.heap.size w W1)
    clear hyr hyl hye
    go_wp2
    go_ret
    exact⟨_,rfl,HFN.out⟩
end Go.Proofs.YtjcagkgpbcdghaaDoor
/- Plain mathematics: rings of a renaming, and what becomes of them where two places are traded: two rings become one, or one becomes two. -/
namespace Go.Proofs.YtjcagkgpbcdghaaDoor
structure Bij (f:Nat->Nat) (M:Nat):Prop where
 lt:∀ x,x<M->f x<M
 inj:∀ x y,x<M->y<M->f x=f y->x=y
def it (f:Nat->Nat):Nat->Nat->Nat
 |0,x=>x
 |i+1,x=>f (it f i x)
theorem Qh7 {f:Nat->Nat} {M:Nat} (h:Bij f M) {x:Nat} (hx:x<M):∀ i,it f i x<M:=by
 intro i
 induction i with
 |zero=>exact hx
 |succ i ih=>exact h.lt _ ih
theorem Kw2 (f:Nat->Nat) (x:Nat):∀ i j,it f (i+j) x=it f i (it f j x):=by
 intro i j
 induction i with
 |zero=>rw[Nat.zero_add];rfl
 |succ i ih=>rw[show i+1+j=(i+j)+1 by omega];show f (it f (i+j) x)=f (it f i (it f j x));rw[ih]
theorem JZ0 {f:Nat->Nat} {M:Nat} (h:Bij f M) {x y:Nat} (hx:x<M) (hy:y<M):∀ i,it f i x=it f i y->x=y:=by
 intro i
 induction i with
 |zero=>exact id
 |succ i ih=>intro e;exact ih (h.inj _ _ (Qh7 h hx i) (Qh7 h hy i) e)
theorem period {f:Nat->Nat} {M:Nat} (h:Bij f M) {x:Nat} (hx:x<M):∃ p,0<p/\it f p x=x:=by
 refine Classical.byContradiction fun hn=>?_
 have hp:∀ p,0<p->it f p x≠x:=fun p h0 e=>hn ⟨p,h0,e⟩
 have hd:((List.range (M+1)).map fun i=>it f i x).Nodup:=by
  unfold List.Nodup
  rw[List.pairwise_map]
  refine List.Pairwise.imp ?_ (List.pairwise_lt_range (n:=M+1))
  intro i j hij e
  have e2:it f i x=it f i (it f (j-i) x):=by rw[<-Kw2,show i+(j-i)=j by omega];exact e
  exact hp (j-i) (by omega) (JZ0 h hx (Qh7 h hx _) i e2).symm
 have hl := hd.length_le_of_subset (l₂ := List.range M) (fun y hy => by
  obtain⟨i,-,rfl⟩:=List.mem_map.1 hy
  exact List.mem_range.2 (Qh7 h hx i))
 rw[List.length_map,List.length_range,List.length_range]at hl
 omega
def eds (f:Nat->Nat) (M:Nat):List (Nat×Nat):=(List.range M).map fun i=>(i,f i)
theorem Zb3 {f:Nat->Nat} {M i:Nat} (h:i<M):(i,f i)∈eds f M:=List.mem_map.2 ⟨i,List.mem_range.2 h,rfl⟩
theorem Ku1 {f:Nat->Nat} {M:Nat} (h:∀ x,x<M->f x<M):∀ e,e∈eds f M->e.1<M/\e.2<M:=fun e he=>by
 obtain⟨i,hi,rfl⟩:=List.mem_map.1 he
 exact⟨List.mem_range.1 hi,h _ (List.mem_range.1 hi)⟩
theorem closed_eds {f:Nat->Nat} {M:Nat} {S:Nat->Prop}:Closed (eds f M) S↔∀ i,i<M->(S i↔S (f i)):=by
 constructor
 · intro h i hi
   exact h _ (Zb3 hi)
 · intro h e he
   obtain⟨i,hi,rfl⟩:=List.mem_map.1 he
   exact h i (List.mem_range.1 hi)
theorem Xy9 {f:Nat->Nat} {M x:Nat} (hx:x<M):Con (eds f M) x (f x):=Con.edge (Zb3 hx)
theorem Ku9 {f:Nat->Nat} {M:Nat} (h:Bij f M) {x:Nat} (hx:x<M):∀ i,Con (eds f M) x (it f i x):=by
 intro i
 induction i with
 |zero=>exact Con.refl _ _
 |succ i ih=>exact ih.trans (Xy9 (Qh7 h hx i))
theorem JH1 {f:Nat->Nat} {M:Nat} (h:Bij f M) {x y:Nat} (hx:x<M) (hc:Con (eds f M) x y):∃ i,it f i x=y:=by
 refine hc (fun z=>∃ i,it f i x=z) (closed_eds.2 fun z hz=>⟨?_,?_⟩) ⟨0,rfl⟩
 · rintro⟨i,rfl⟩
   exact⟨i+1,rfl⟩
 · rintro⟨i,e⟩
   cases i with
   |zero=>
    obtain⟨p,h0,hp⟩:=period h hx
    cases p with
    |zero=>omega
    |succ p=>
     refine⟨p,h.inj _ _ (Qh7 h hx p) hz ?_⟩
     have e1:x=f z:=e
     exact Eq.trans hp e1
   |succ i=>exact⟨i,h.inj _ _ (Qh7 h hx i) hz e⟩
theorem KA7 {P:Nat->Prop} (h:∃ i,P i):∃ r,P r/\∀ i,i<r->¬ P i:=by
 obtain⟨i,hi⟩:=h
 induction i using Nat.strongRecOn with
 |ind i ih=>
  by_cases hs:∃ j,j<i/\P j
  · obtain⟨j,hj,hp⟩:=hs
    exact ih j hj hp
  · exact⟨i,hi,fun j hj hp=>hs ⟨j,hj,hp⟩⟩
def tr (f:Nat->Nat) (a b x:Nat):Nat:=if x=a then f b else if x=b then f a else f x
theorem XW2 (f:Nat->Nat) (a b:Nat):tr f a b a=f b:=by simp[tr]
theorem Xq6 (f:Nat->Nat) (a b:Nat):tr f a b b=f a:=by
 unfold tr
 by_cases h:b=a
 · rw[if_pos h,h]
 · rw[if_neg h,if_pos rfl]
theorem QJ0 (f:Nat->Nat) {a b x:Nat} (h1:x≠a) (h2:x≠b):tr f a b x=f x:=by simp[tr,h1,h2]
theorem Jq2 (f:Nat->Nat) (a b x:Nat):tr (tr f a b) a b x=f x:=by
 by_cases h1:x=a
 · rw[h1,XW2,Xq6]
 · by_cases h2:x=b
   · rw[h2,Xq6,XW2]
   · rw[QJ0 _ h1 h2,QJ0 _ h1 h2]
theorem Bij.tr {f:Nat->Nat} {M:Nat} (h:Bij f M) {a b:Nat} (ha:a<M) (hb:b<M):Bij (tr f a b) M:=by
 have key:∀ x,x<M->∃ z,z<M/\Proofs.YtjcagkgpbcdghaaDoor.tr f a b x=f z/\(x=a->z=b)/\(x=b->z=a)/\(x≠a->x≠b->z=x):=by
  intro x hx
  by_cases h1:x=a
  · exact⟨b,hb,by rw[h1,XW2],fun _=>rfl,fun e=>by omega,fun q=>absurd h1 q⟩
  · by_cases h2:x=b
    · exact⟨a,ha,by rw[h2,Xq6],fun q=>absurd q h1,fun _=>rfl,fun _ q=>absurd h2 q⟩
    · exact⟨x,hx,QJ0 f h1 h2,fun q=>absurd q h1,fun q=>absurd q h2,fun _ _=>rfl⟩
 refine⟨fun x hx=>?_,fun x y hx hy e=>?_⟩
 · obtain⟨z,hz,e,-⟩:=key x hx
   rw[e]
   exact h.lt z hz
 · obtain⟨z,hz,e1,p1,p2,p3⟩:=key x hx
   obtain⟨u,hu,e2,q1,q2,q3⟩:=key y hy
   have e3:z=u:=h.inj z u hz hu (by rw[<-e1,<-e2,e])
   by_cases c1:x=a
   · have:=p1 c1
     by_cases c2:y=a
     · omega
     · by_cases c3:y=b
       · have:=q2 c3;omega
       · have:=q3 c2 c3;omega
   · by_cases c1b:x=b
     · have:=p2 c1b
       by_cases c2:y=a
       · have:=q1 c2;omega
       · by_cases c3:y=b
         · omega
         · have:=q3 c2 c3;omega
     · have:=p3 c1 c1b
       by_cases c2:y=a
       · have:=q1 c2;omega
       · by_cases c3:y=b
         · have:=q2 c3;omega
         · have:=q3 c2 c3;omega
theorem JA5 {f:Nat->Nat} {M:Nat} (h:Bij f M) {a b:Nat} (ha:a<M) (hb:b<M) (hn:¬ Con (eds f M) a b):Con (eds (tr f a b) M) a b:=by
 intro S hS hSa
 have hS':=closed_eds.1 hS
 have h1:S (f b):=by have:=(hS' a ha).1 hSa;rwa [XW2]at this
 obtain⟨p,h0,hp⟩:=period h hb
 have key:∀ i,S b∨S (it f (i+1) b):=by
  intro i
  induction i with
  |zero=>exact Or.inr h1
  |succ i ih=>
   rcases ih with ih|ih
   · exact Or.inl ih
   · by_cases e:it f (i+1) b=b
     · rw[e]at ih;exact Or.inl ih
     · have ea:it f (i+1) b≠a:=fun q=>hn (q▸(Ku9 h hb (i+1)).symm)
       have:=(hS' _ (Qh7 h hb (i+1))).1 ih
       rw[QJ0 f ea e]at this
       exact Or.inr this
 have:=key (p-1)
 rw[show p-1+1=p by omega,hp]at this
 exact this.elim id id
theorem Kq2 {f:Nat->Nat} {M:Nat} (h:Bij f M) {a b:Nat} (ha:a<M) (hb:b<M) (hn:¬ Con (eds f M) a b) (x y:Nat):Con (eds (tr f a b) M) x y↔Con (eds f M++[(a,b)]) x y:=by
 have hab:=JA5 h ha hb hn
 constructor
 · intro hc S hS
   refine hc S (closed_eds.2 fun i hi=>?_)
   have h1:=closed_eds.1 (fun e he=>hS e (List.mem_append_left _ he):Closed (eds f M) S)
   have h2:S a↔S b:=hS (a,b) (List.mem_append_right _ (List.Mem.head _))
   by_cases e1:i=a
   · rw[e1,XW2,h2];exact h1 b hb
   · by_cases e2:i=b
     · rw[e2,Xq6,<-h2];exact h1 a ha
     · rw[QJ0 f e1 e2];exact h1 i hi
 · intro hc S hS
   have h1:=closed_eds.1 hS
   have h2:S a↔S b:=⟨hab S hS,hab.symm S hS⟩
   refine hc S fun e he=>?_
   rcases List.mem_append.1 he with he|he
   · obtain⟨i,hi,rfl⟩:=List.mem_map.1 he
     have hi:=List.mem_range.1 hi
     show S i↔S (f i)
     by_cases e1:i=a
     · rw[e1,h2];have:=h1 b hb;rwa [Xq6]at this
     · by_cases e2:i=b
       · rw[e2,<-h2];have:=h1 a ha;rwa [XW2]at this
       · have:=h1 i hi;rwa [QJ0 f e1 e2]at this
   · rw[List.mem_singleton.1 he];exact h2
theorem Kq1 {f:Nat->Nat} {M:Nat} (h:Bij f M) {a b:Nat} (ha:a<M) (hb:b<M) (hab:a≠b) (hc:Con (eds f M) a b):¬ Con (eds (tr f a b) M) a b:=by
 intro hcon
 obtain⟨r,hr,hmin⟩:=KA7 (JH1 h hb hc.symm)
 have r0:0<r:=Nat.pos_of_ne_zero fun q=>by rw[q]at hr;exact hab hr.symm
 have hB:=h.tr ha hb
 have nb:∀ i,1<=i->i<=r->it f i b≠b:=fun i h1 h2 e=>by
  by_cases e2:i=r
  · rw[e2,hr]at e;exact hab e
  · refine hmin (r-i) (by omega) ?_
    have:=Kw2 f b (r-i) i
    rw[e,show r-i+i=r by omega,hr]at this
    exact this.symm
 have nxt:∀ i,1<=i->i<r->tr f a b (it f i b)=it f (i+1) b:=fun i h1 h2=>QJ0 f (hmin i h2) (nb i h1 (by omega))
 have hS:Closed (eds (tr f a b) M) fun z=>∃ i,1<=i/\i<=r/\it f i b=z:=closed_eds.2 fun z hz=>by
  constructor
  · rintro⟨i,h1,h2,rfl⟩
    by_cases e:i=r
    · rw[e,hr,XW2];exact⟨1,Nat.le_refl _,r0,rfl⟩
    · exact⟨i+1,by omega,by omega,(nxt i h1 (by omega)).symm⟩
  · rintro⟨i,h1,h2,e⟩
    by_cases e1:i=1
    · refine⟨r,r0,Nat.le_refl _,?_⟩
      rw[hr]
      refine hB.inj a z ha hz ?_
      rw[XW2,<-e,e1]
      rfl
    · refine⟨i-1,by omega,by omega,?_⟩
      refine hB.inj _ z (Qh7 h hb _) hz ?_
      rw[nxt (i-1) (by omega) (by omega),<-e,show i-1+1=i by omega]
 obtain⟨i,h1,h2,e⟩:=hcon _ hS ⟨r,r0,Nat.le_refl _,hr⟩
 exact nb i h1 h2 e
def rq (W:List Nat) (Q:Nat->Bool):Nat->Nat
 |0=>0
 |k+1=>rq W Q k+(if W.getD k 0=k/\Q k=true then 1 else 0)
theorem Zz0 {Ed:List (Nat×Nat)} {n:Nat} {W:List Nat} (h:Least Ed n W) (Q:Nat->Bool) {x y:Nat} (hx:x<n) (hy:y<n) (hne:W.getD x 0≠W.getD y 0):∀ k,k<=n->rq (mer W x y) Q k+(if max (W.getD x 0) (W.getD y 0)<k/\Q (max (W.getD x 0) (W.getD y 0))=true then 1 else 0)=rq W Q k:=by
 have rx:=h.root hx
 have ry:=h.root hy
 generalize hmx:max (W.getD x 0) (W.getD y 0)=m
 have hmr:W.getD m 0=m:=by
  rcases Nat.le_total (W.getD x 0) (W.getD y 0) with hle|hle
  · have:m=W.getD y 0:=by omega
    rw[this];exact ry
  · have:m=W.getD x 0:=by omega
    rw[this];exact rx
 intro k
 induction k with
 |zero=>intro _;simp[rq]
 |succ k ih=>
  intro hk
  have i1:=ih (by omega)
  have hm:=QC0 W x y k (by rw[h.1];omega)
  rw[hmx]at hm
  simp only[rq]
  by_cases he:k=m
  · subst he
    rw[if_pos hmr]at hm
    rw[if_neg (by omega)]at i1
    rw[if_neg (show ¬ ((mer W x y).getD k 0=k/\Q k=true) from fun q=>by have:=q.1;omega)]
    by_cases hq:Q k=true
    · rw[if_pos (show k<k+1/\Q k=true from⟨by omega,hq⟩),if_pos (show W.getD k 0=k/\Q k=true from⟨hmr,hq⟩)];omega
    · rw[if_neg (show ¬ (k<k+1/\Q k=true) from fun q=>hq q.2),if_neg (show ¬ (W.getD k 0=k/\Q k=true) from fun q=>hq q.2)];omega
  · have hiff : ((mer W x y).getD k 0 = k) ↔ (W.getD k 0 = k) := by
      by_cases hr:W.getD k 0=k
      · rw[if_neg (by omega)]at hm
        rw[hm]
      · have h2 : ¬ (mer W x y).getD k 0 = k := by
          rw[hm]
          split
          · intro e
            rcases Nat.le_total (W.getD x 0) (W.getD y 0) with hle2|hle2
            · have e1:k=W.getD x 0:=by omega
              exact hr (by rw[e1];exact rx)
            · have e1:k=W.getD y 0:=by omega
              exact hr (by rw[e1];exact ry)
          · exact hr
        exact⟨fun q=>absurd q h2,fun q=>absurd q hr⟩
    rw[show(if(mer W x y).getD k 0=k/\Q k=true then 1 else 0)=(if W.getD k 0=k/\Q k=true then 1 else 0) by simp only[hiff]]
    by_cases hq:m<k/\Q m=true
    · rw[if_pos hq]at i1
      rw[if_pos (show m<k+1/\Q m=true from⟨by omega,hq.2⟩)]
      omega
    · rw[if_neg hq]at i1
      rw[if_neg (show ¬ (m<k+1/\Q m=true) from fun q=>hq ⟨by omega,q.2⟩)]
      omega
def cyW (f:Nat->Nat) (M:Nat):List Nat:=Qj3 (List.range M) (eds f M) M
theorem QG3 {f:Nat->Nat} {M:Nat} (h:∀ x,x<M->f x<M):Least (eds f M) M (cyW f M):=QK8 (Ku1 h) M (Nat.le_refl _)
def cyN (f:Nat->Nat) (M:Nat) (Q:Nat->Bool):Nat:=rq (cyW f M) Q M
theorem ZQ4 {E F:List (Nat×Nat)} {n:Nat} {W:List Nat} (h:Least E n W) (e:∀ x y,Con E x y↔Con F x y):Least F n W:=
 ⟨h.1,fun v hv=>⟨(e _ _).1 (h.2 v hv).1,fun u hu=>(h.2 v hv).2 u ((e _ _).2 hu)⟩⟩
theorem XC2 {f:Nat->Nat} {M:Nat} (h:Bij f M) (Q:Nat->Bool) {a b:Nat} (ha:a<M) (hb:b<M) (hn:¬ Con (eds f M) a b) (hQ:∀ x y,x<M->Con (eds f M) x y->Q x=Q y) (hab:Q a=Q b):cyN (tr f a b) M Q+(if Q a=true then 1 else 0)=cyN f M Q:=by
 have hW:=QG3 h.lt
 have hW':=QG3 (h.tr ha hb).lt
 have e:cyW (tr f a b) M=mer (cyW f M) a b:=hW'.eq (ZQ4 (Qw6 hW a b ha hb (Ku1 h.lt)) fun x y=>(Kq2 h ha hb hn x y).symm)
 have hne:(cyW f M).getD a 0≠(cyW f M).getD b 0:=fun q=>hn ((hW.same ha hb).1 q)
 have hm:=Zz0 hW Q ha hb hne M (Nat.le_refl _)
 have la:=hW.lt ha
 have lb:=hW.lt hb
 have qa:=hQ a _ ha (hW.2 a ha).1
 have qb:=hQ b _ hb (hW.2 b hb).1
 have qm:Q (max ((cyW f M).getD a 0) ((cyW f M).getD b 0))=Q a:=by
  rcases Nat.le_total ((cyW f M).getD a 0) ((cyW f M).getD b 0) with hle|hle
  · rw[Nat.max_eq_right hle,<-qb,hab]
  · rw[Nat.max_eq_left hle,<-qa]
 rw[qm]at hm
 unfold cyN
 rw[e,<-hm]
 by_cases hq:Q a=true
 · rw[if_pos hq,if_pos ⟨by omega,hq⟩]
 · rw[if_neg hq,if_neg fun q=>hq q.2]
theorem KV1 {f g:Nat->Nat} {M:Nat} (e:∀ x,x<M->f x=g x):eds f M=eds g M:=by
 unfold eds
 refine List.map_congr_left fun i hi=>?_
 rw[e i (List.mem_range.1 hi)]
theorem Qu1 {f g:Nat->Nat} {M:Nat} (e:∀ x,x<M->f x=g x) (Q:Nat->Bool):cyN f M Q=cyN g M Q:=by
 unfold cyN cyW
 rw[KV1 e]
theorem ZU9 {f:Nat->Nat} {M:Nat} (h:Bij f M) (Q:Nat->Bool) {a b:Nat} (ha:a<M) (hb:b<M) (hne:a≠b) (hc:Con (eds f M) a b) (hQ:∀ x y,x<M->Con (eds f M) x y->Q x=Q y):cyN f M Q+(if Q a=true then 1 else 0)=cyN (tr f a b) M Q:=by
 have hn:=Kq1 h ha hb hne hc
 have hB:=h.tr ha hb
 have hQ':∀ x y,x<M->Con (eds (tr f a b) M) x y->Q x=Q y:=fun x y hx hxy=>by
  have := hxy (fun z => Q x = Q z) (closed_eds.2 fun i hi => by
   have e:Q i=Q (tr f a b i):=by
    by_cases e1:i=a
    · rw[e1,XW2,hQ a b ha hc];exact hQ b _ hb (Xy9 hb)
    · by_cases e2:i=b
      · rw[e2,Xq6,<-hQ a b ha hc];exact hQ a _ ha (Xy9 ha)
      · rw[QJ0 f e1 e2];exact hQ i _ hi (Xy9 hi)
   rw[e]) rfl
  exact this
 have k:=XC2 hB Q ha hb hn hQ' (hQ a b ha hc)
 rw[Qu1 (fun x _=>Jq2 f a b x)]at k
 exact k
end Go.Proofs.YtjcagkgpbcdghaaDoor
/- Plain mathematics: the walks along a renaming begin each at the lowest of its ring: there are as many as rings. -/
namespace Go.Proofs.YtjcagkgpbcdghaaDoor
def up0 (f:Nat->Nat) (x:Nat):Nat:=if x=0 then 0 else f x
theorem QK7 (f:Nat->Nat) {x:Nat} (h:1<=x):up0 f x=f x:=by unfold up0;rw[if_neg (by omega)]
theorem Xg5 {f:Nat->Nat} {n:Nat} (hf:∀ a,1<=a->a<=n->1<=f a/\f a<=n) (hi:∀ a b,1<=a->a<=n->1<=b->b<=n->f a=f b->a=b):Bij (up0 f) (n+1):=by
 refine⟨fun x hx=>?_,fun x y hx hy e=>?_⟩
 · by_cases h:x=0
   · rw[h];exact Nat.succ_pos n
   · rw[QK7 f (by omega)];have:=hf x (by omega) (by omega);omega
 · by_cases h:x=0
   · by_cases g:y=0
     · omega
     · rw[h,QK7 f (show 1<=y by omega)]at e
       have:=hf y (by omega) (by omega)
       have e0:up0 f 0=0:=rfl
       omega
   · by_cases g:y=0
     · rw[g,QK7 f (show 1<=x by omega)]at e
       have:=hf x (by omega) (by omega)
       have e0:up0 f 0=0:=rfl
       omega
     · rw[QK7 f (show 1<=x by omega),QK7 f (show 1<=y by omega)]at e
       exact hi x y (by omega) (by omega) (by omega) (by omega) e
theorem ZD1 (f:Nat->Nat):∀ (m:Nat) (seen:List Bool) (x z:Nat) (acc:List Nat),(QZ2 f m seen x (z::acc)).1.getD 0 0=z/\(QZ2 f m seen x (z::acc)).1≠[]:=by
 intro m
 induction m with
 |zero=>intro seen x z acc;exact⟨rfl,by simp[QZ2]⟩
 |succ m ih=>
  intro seen x z acc
  simp only[QZ2]
  split
  · exact⟨rfl,by simp⟩
  · exact ih _ _ z (acc++[x])
theorem Zf8 (f:Nat->Nat) (m:Nat) (seen:List Bool) (x:Nat) (h:un seen x=1):(QZ2 f (m+1) seen x []).1.getD 0 0=x/\(QZ2 f (m+1) seen x []).1≠[]:=by
 have h1:¬ seen.getD x true=true:=fun q=>by unfold un at h;rw[if_pos q]at h;omega
 simp only[QZ2]
 rw[if_neg h1]
 exact ZD1 f m _ _ x []
theorem Kd7 {seen:List Bool} {x:Nat} (h:un seen x=0):seen.getD x true=true:=by
 refine Classical.byContradiction fun q=>?_
 unfold un at h
 rw[if_neg q]at h
 omega
theorem Xb8 {f:Nat->Nat} {n a y:Nat} (h1:1<=y) (h2:y<=n):un (QQ8 f n a).2 y=0↔∃ l,l∈(QQ8 f n a).1/\y∈l:=by
 have h:=XJ5 f n a y h1 h2
 have hc:1<=(QQ8 f n a).1.flatten.count y↔∃ l,l∈(QQ8 f n a).1/\y∈l:=by rw[List.one_le_count_iff,List.mem_flatten]
 rw[<-hc]
 omega
theorem ZB6 {f:Nat->Nat} {n:Nat} (hf:∀ a,1<=a->a<=n->1<=f a/\f a<=n) {x:Nat} (hx:1<=x):¬ Con (eds (up0 f) (n+1)) x 0:=fun hc=>by
 have := hc (fun z => 1 ≤ z) (closed_eds.2 fun i hi => by
  by_cases h:i=0
  · subst h;exact Iff.rfl
  · rw[QK7 f (by omega)]
    have:=(hf i (by omega) (by omega)).1
    exact⟨fun _=>this,fun _=>by omega⟩) hx
 exact absurd this (by decide)
theorem Xh6 {f:Nat->Nat} {n:Nat} (hf:∀ a,1<=a->a<=n->1<=f a/\f a<=n) (hi:∀ a b,1<=a->a<=n->1<=b->b<=n->f a=f b->a=b) (a:Nat) (ha:a<=n):Closed (eds (up0 f) (n+1)) fun z=>1<=z/\un (QQ8 f n a).2 z=0:=by
 obtain⟨r1,r2,-⟩:=Qq1 hf hi a ha
 refine closed_eds.2 fun i hin=>?_
 by_cases h:i=0
 · subst h;exact Iff.rfl
 · rw[QK7 f (by omega)]
   have hfi:=hf i (by omega) (by omega)
   constructor
   · rintro⟨h1,h2⟩
     obtain⟨l,hl,hy⟩:=(Xb8 h1 (by omega)).1 h2
     exact⟨hfi.1,(Xb8 hfi.1 hfi.2).2 ⟨l,hl,r1 l hl i hy⟩⟩
   · rintro⟨-,h2⟩
     exact⟨by omega,r2 i (by omega) (by omega) h2⟩
theorem KF4 {f:Nat->Nat} {n:Nat} {l:List Nat} (hm:∀ y,y∈l->1<=y/\y<=n) (hc:∀ i,i+1<l.length->l.getD (i+1) 0=f (l.getD i 0)):∀ i,i<l.length->Con (eds (up0 f) (n+1)) (l.getD 0 0) (l.getD i 0):=by
 intro i
 induction i with
 |zero=>intro _;exact Con.refl _ _
 |succ i ih=>
  intro hi
  have hb:=hm _ (at_mem (l:=l) (i:=i) (by omega))
  have h1:=Xy9 (f:=up0 f) (M:=n+1) (x:=l.getD i 0) (by omega)
  rw[QK7 f hb.1,<-hc i hi]at h1
  exact(ih (by omega)).trans h1
theorem Qk9 {f : Nat → Nat} {n : Nat} (hf : ∀ a, 1 ≤ a → a ≤ n → 1 ≤ f a ∧ f a ≤ n) (hi : ∀ a b, 1 ≤ a → a ≤ n → 1 ≤ b → b ≤ n → f a = f b → a = b) : ∀ a, a ≤ n →
    (∀ l,l∈(QQ8 f n a).1->1<=l.getD 0 0/\l.getD 0 0<=a)/\
    ∀ Q:Nat->Bool,Q 0=false->(QQ8 f n a).1.countP (fun l=>Q (l.getD 0 0))=rq (cyW (up0 f) (n+1)) Q (a+1):=by
 have hB:=Xg5 hf hi
 have hW:=QG3 hB.lt
 intro a
 induction a with
 |zero=>
  intro _
  refine⟨fun l hl=>absurd hl (by simp[QQ8]),fun Q q0=>?_⟩
  simp[QQ8,rq,q0]
 |succ a ih=>
  intro ha
  obtain⟨i1,i2⟩:=ih (by omega)
  have hcl:=Xh6 hf hi a (by omega)
  have hin:=Qk4 hf a (by omega)
  obtain⟨-,-,r3⟩:=Qq1 hf hi a (by omega)
  by_cases hs:un (QQ8 f n a).2 (a+1)=0
  · have e : QQ8 f n (a + 1) = QQ8 f n a := by
      simp only[QQ8]
      rw[Qb0 (Kd7 hs)]
      rfl
    rw[e]
    refine⟨fun l hl=>⟨(i1 l hl).1,by have:=(i1 l hl).2;omega⟩,fun Q q0=>?_⟩
    rw[i2 Q q0]
    have hnr:(cyW (up0 f) (n+1)).getD (a+1) 0≠a+1:=fun q=>by
     obtain⟨l,hl,hy⟩:=(Xb8 (by omega) ha).1 hs
     obtain⟨i,hil,ei⟩:=XG5 hy
     have hc:=KF4 (f:=f) (n:=n) (hin l hl).2.2 (r3 l hl).1 i hil
     rw[ei]at hc
     have:=(hW.2 (a+1) (by omega)).2 _ hc.symm
     have:=(i1 l hl).2
     omega
    show _=rq (cyW (up0 f) (n+1)) Q (a+1)+(if(cyW (up0 f) (n+1)).getD (a+1) 0=a+1/\Q (a+1)=true then 1 else 0)
    rw[if_neg fun q=>hnr q.1]
    rfl
  · have hs1:un (QQ8 f n a).2 (a+1)=1:=by have:=Ky9 (QQ8 f n a).2 (a+1);omega
    obtain⟨hh,hne⟩:=Zf8 f n (QQ8 f n a).2 (a+1) hs1
    have e:(QQ8 f n (a+1)).1=(QQ8 f n a).1++[(QZ2 f (n+1) (QQ8 f n a).2 (a+1) []).1]:=by
     simp only[QQ8]
     rw[if_neg hne]
    rw[e]
    refine⟨fun l hl=>?_,fun Q q0=>?_⟩
    · rcases List.mem_append.1 hl with h|h
      · exact⟨(i1 l h).1,by have:=(i1 l h).2;omega⟩
      · rw[List.mem_singleton.1 h,hh];omega
    · have hr : (cyW (up0 f) (n + 1)).getD (a + 1) 0 = a + 1 := by
        refine Classical.byContradiction fun q=>?_
        have hle:=hW.le (v:=a+1) (by omega)
        have hcn:=(hW.2 (a+1) (by omega)).1
        generalize hu:(cyW (up0 f) (n+1)).getD (a+1) 0=u at q hle hcn
        by_cases h0:u=0
        · rw[h0]at hcn
          exact ZB6 hf (by omega) hcn
        · have:=hcn.symm _ hcl ⟨by omega,Qd5 f n a u (by omega) (by omega)⟩
          exact hs this.2
      rw[List.countP_append,i2 Q q0]
      show _=rq (cyW (up0 f) (n+1)) Q (a+1)+(if(cyW (up0 f) (n+1)).getD (a+1) 0=a+1/\Q (a+1)=true then 1 else 0)
      rw[List.countP_singleton,hh]
      by_cases hq:Q (a+1)=true
      · rw[if_pos hq,if_pos ⟨hr,hq⟩]
      · rw[if_neg hq,if_neg fun q=>hq q.2]
theorem Xz6 {f:Nat->Nat} {n:Nat} (hf:∀ a,1<=a->a<=n->1<=f a/\f a<=n) (hi:∀ a b,1<=a->a<=n->1<=b->b<=n->f a=f b->a=b) (Q:Nat->Bool) (q0:Q 0=false):(QQ8 f n n).1.countP (fun l=>Q (l.getD 0 0))=cyN (up0 f) (n+1) Q:=(Qk9 hf hi n (Nat.le_refl _)).2 Q q0
end Go.Proofs.YtjcagkgpbcdghaaDoor
/- Determinants: labels that are merged edge by edge; which column is left out where all rows come to nought. -/
namespace Go.Proofs.YtjcagkgpbcdghaaDoor
theorem QK3 (a:Nat->Int) (cs:List Nat) (h:List Nat->Int) (ha:∀ c∈cs,a c=0):QK5 a cs h=0:=by
 have e:∀ cs h,QK5 (fun _=>0) cs h=0:=fun cs=>by
  induction cs with
  |nil=>intro h;rfl
  |cons c cs ih=>intro h;show 0*h cs - QK5 (fun _=>0) cs _=0;rw[ih];omega
 rw[QH8 a (fun _=>0) cs h h ha (fun _ _ _=>rfl),e]
theorem Ku7 {R:List (Nat->Int)} {u v:Nat} {q:List Nat} (h:∀ r∈R,r u+r v+(q.map r).sum=0):(dZ R (u::q)).natAbs=(dZ R (v::q)).natAbs:=by
 by_cases hR:R=[]
 · subst hR;rfl
 obtain⟨B,hu,hv,hq⟩:∃ B,u<B/\v<B/\∀ c∈q,c<B:=by
  refine⟨u+v+q.sum+1,by omega,by omega,fun c hc=>?_⟩
  have:∀ l:List Nat,c∈l->c<=l.sum:=fun l=>by
   induction l with
   |nil=>intro h;cases h
   |cons x l ih=>
    intro h
    rw[List.sum_cons]
    cases h with
    |head=>omega
    |tail _ h=>have:=ih h;omega
  have:=this q hc
  omega
 let ex:(Nat->Int)->Nat->Int:=fun r c=>if c<B then r c else if c=B then 0 else -(r v)-((q.take (c-B-1)).map r).sum
 have low:∀ l:List Nat,(∀ c∈l,c<B)->dZ (R.map ex) l=dZ R l:=fun l hl=>by
  have:=QW2 ex id R l (fun r _ c hc=>by show(if c<B then r c else _)=r c;rw[if_pos (hl c hc)])
  rw[List.map_id]at this
  exact this
 have hR':R.map ex≠[]:=by simpa using hR
 have z0 : dZ (R.map ex) (B :: q) = 0 := JK2 _ B hR' (fun r hr => by
  obtain⟨s,-,rfl⟩:=List.mem_map.1 hr
  show(if B<B then s B else if B=B then 0 else _)=0
  rw[if_neg (by omega),if_pos rfl]) q
 have z1:dZ (R.map ex) ((B+1)::q) = -dZ R (v::q):=by
  have := XQ3 (u := B) (v := v) (w := B + 1) (-1) (R.map ex) hR' (fun r hr => by
   obtain⟨s,-,rfl⟩:=List.mem_map.1 hr
   show(if B+1<B then s (B+1) else if B+1=B then 0 else -(s v)-((q.take (B+1-B-1)).map s).sum)=(if B<B then s B else if B=B then 0 else _) + -1*(if v<B then s v else _)
   rw[if_neg (by omega),if_neg (by omega),if_neg (by omega),if_pos rfl,if_pos hv,show B+1-B-1=0 by omega]
   simp) q
  rw [this, z0, low (v :: q) (fun c hc => by
   cases hc with
   |head=>exact hv
   |tail _ hc=>exact hq c hc)]
  omega
 have zi:∀ i,i<=q.length->dZ (R.map ex) ((B+1+i)::q) = -dZ R (v::q):=fun i=>by
  induction i with
  |zero=>intro _;exact z1
  |succ i ih=>
   intro hi
   have hqi:q[i]∈q:=List.getElem_mem (by omega)
   have := XQ3 (u := B + 1 + i) (v := q[i]) (w := B + 1 + (i + 1)) (-1) (R.map ex) hR' (fun r hr => by
    obtain⟨s,-,rfl⟩:=List.mem_map.1 hr
    show(if B+1+(i+1)<B then s (B+1+(i+1)) else if B+1+(i+1)=B then 0 else -(s v)-((q.take (B+1+(i+1)-B-1)).map s).sum)=(if B+1+i<B then s (B+1+i) else if B+1+i=B then 0 else -(s v)-((q.take (B+1+i-B-1)).map s).sum) + -1*(if q[i]<B then s q[i] else _)
    rw[if_neg (by omega),if_neg (by omega),if_neg (by omega),if_neg (by omega),if_pos (hq _ hqi),show B+1+(i+1)-B-1=i+1 by omega,show B+1+i-B-1=i by omega,List.take_succ_eq_append_getElem (by omega),List.map_append,List.sum_append]
    simp
    omega) q
   rw[this,ih (by omega),Ku6 _ _ _ hqi]
   omega
 have last:=zi q.length (Nat.le_refl _)
 have e2:dZ (R.map ex) ((B+1+q.length)::q)=dZ R (u::q):=by
  have h1 := XQ3 (u := B) (v := u) (w := B + 1 + q.length) 1 (R.map ex) hR' (fun r hr => by
   obtain⟨s,hs,rfl⟩:=List.mem_map.1 hr
   have hh:=h s hs
   show(if B+1+q.length<B then s (B+1+q.length) else if B+1+q.length=B then 0 else -(s v)-((q.take (B+1+q.length-B-1)).map s).sum)=(if B<B then s B else if B=B then 0 else _)+1*(if u<B then s u else _)
   rw[if_neg (by omega),if_neg (by omega),if_neg (by omega),if_pos rfl,if_pos hu,show B+1+q.length-B-1=q.length by omega,List.take_length]
   omega) q
  rw [h1, z0, low (u :: q) (fun c hc => by
   cases hc with
   |head=>exact hu
   |tail _ hc=>exact hq c hc)]
  omega
 rw[last]at e2
 omega
def QJ9 (M:Nat) (W:List Nat) (r:Nat->Int) (c:Nat):Int:=QX4 M (fun i=>if W.getD (i+1) 0=c then r (i+1) else 0)
def dfR (e:Nat×Nat):Nat->Int:=fun a=>(if a=e.1 then 1 else 0)-(if a=e.2 then 1 else 0)
theorem QY3 (M b:Nat) (h1:1<=b) (h2:b<=M) (g:Nat->Int):QX4 M (fun i=>if i+1=b then g (i+1) else 0)=g b:=by
 induction M with
 |zero=>omega
 |succ M ih=>
  show QX4 M _+(if M+1=b then g (M+1) else 0)=_
  by_cases e:M+1=b
  · rw[if_pos e,QQ2 (g:=fun _=>0) fun i hi=>if_neg (by omega),QJ4,e];omega
  · rw[if_neg e,ih (by omega)];omega
theorem QB1 (M:Nat) (f g:Nat->Int):QX4 M f-QX4 M g=QX4 M (fun i=>f i-g i):=by
 induction M with
 |zero=>rfl
 |succ M ih=>show QX4 M f+f M-(QX4 M g+g M)=QX4 M (fun i=>f i-g i)+(f M-g M);rw[<-ih];omega
theorem Zw3 {M:Nat} {W:List Nat} {b d:Nat} (hb:1<=b/\b<=M) (hd:1<=d/\d<=M) (c:Nat):QJ9 M W (dfR (b,d)) c=(if W.getD b 0=c then 1 else 0)-(if W.getD d 0=c then 1 else 0):=by
 have e1:=QY3 M b hb.1 hb.2 (fun a=>if W.getD a 0=c then(1:Int) else 0)
 have e2:=QY3 M d hd.1 hd.2 (fun a=>if W.getD a 0=c then(1:Int) else 0)
 unfold QJ9
 rw[<-e1,<-e2]
 rw[QB1]
 refine QQ2 fun i _=>?_
 show(if W.getD (i+1) 0=c then(if i+1=b then(1:Int) else 0)-(if i+1=d then 1 else 0) else 0)=_
 by_cases q:W.getD (i+1) 0=c
 · rw[if_pos q,if_pos q]
 · rw[if_neg q,if_neg q]
   split<;>split<;>rfl
theorem KD2 {M n:Nat} {W:List Nat} (hW:W.length=n) (hM:M<n) {x y:Nat} (hne:W.getD x 0≠W.getD y 0) (r:Nat->Int) (c:Nat):QJ9 M (mer W x y) r c=if c=min (W.getD x 0) (W.getD y 0) then QJ9 M W r c+QJ9 M W r (max (W.getD x 0) (W.getD y 0)) else if c=max (W.getD x 0) (W.getD y 0) then 0 else QJ9 M W r c:=by
 unfold QJ9
 have key:∀ i,i<M->(if(mer W x y).getD (i+1) 0=c then r (i+1) else 0)=if c=min (W.getD x 0) (W.getD y 0) then(if W.getD (i+1) 0=c then r (i+1) else 0)+(if W.getD (i+1) 0=max (W.getD x 0) (W.getD y 0) then r (i+1) else 0) else if c=max (W.getD x 0) (W.getD y 0) then 0 else(if W.getD (i+1) 0=c then r (i+1) else 0):=fun i hi=>by
  rw[QC0 W x y (i+1) (by omega)]
  by_cases e1:W.getD (i+1) 0=max (W.getD x 0) (W.getD y 0)
  · rw[if_pos e1]
    by_cases e2:c=min (W.getD x 0) (W.getD y 0)
    · rw[if_pos e2,if_pos e2.symm,if_neg (by omega),if_pos e1];omega
    · rw[if_neg e2,if_neg (fun q=>e2 q.symm)]
      by_cases e3:c=max (W.getD x 0) (W.getD y 0)
      · rw[if_pos e3]
      · rw[if_neg e3,if_neg (by omega)]
  · rw[if_neg e1]
    by_cases e2:c=min (W.getD x 0) (W.getD y 0)
    · rw[if_pos e2,if_neg e1];omega
    · rw[if_neg e2]
      by_cases e3:c=max (W.getD x 0) (W.getD y 0)
      · rw[if_pos e3,if_neg (by omega)]
      · rw[if_neg e3]
 rw[QQ2 key]
 by_cases e2:c=min (W.getD x 0) (W.getD y 0)
 · simp only[if_pos e2];rw[QX1]
 · simp only[if_neg e2]
   by_cases e3:c=max (W.getD x 0) (W.getD y 0)
   · simp only[if_pos e3];rw[QJ4]
   · simp only[if_neg e3]
def rtL (M:Nat) (W:List Nat):List Nat:=(List.range' 2 (M-1)).filter fun c=>decide (W.getD c 0=c)
theorem rtL_mem {M:Nat} {W:List Nat} {c:Nat}:c∈rtL M W↔2<=c/\c<=M/\W.getD c 0=c:=by
 unfold rtL
 rw[List.mem_filter,List.mem_range'_1,decide_eq_true_eq]
 omega
theorem Qw1 (M:Nat) (W:List Nat):(rtL M W).Nodup:=(List.nodup_range' ..).filter _
theorem KK1 {F : List (Nat × Nat)} {M : Nat} {W : List Nat} (h : Least F (M + 1) W) (hF : ∀ e ∈ F, 1 ≤ e.1 ∧ 1 ≤ e.2) {b d : Nat} (hb : 1 ≤ b ∧ b ≤ M) (hd : 1 ≤ d ∧ d ≤ M) (hne : W.getD b 0 ≠ W.getD d 0) (R : List (Nat → Int)) :
    (dZ (QJ9 M W (dfR (b,d))::R.map (QJ9 M W)) (rtL M W)).natAbs=(dZ (R.map (QJ9 M (mer W b d))) (rtL M (mer W b d))).natAbs/\(rtL M (mer W b d)).length+1=(rtL M W).length:=by
 have lb:=h.lt (v:=b) (by omega)
 have ld:=h.lt (v:=d) (by omega)
 have pb:=h.pos hF (v:=b) (by omega) hb.1
 have pd:=h.pos hF (v:=d) (by omega) hd.1
 have rb:=h.root (v:=b) (by omega)
 have rd:=h.root (v:=d) (by omega)
 have hrow:=fun c=>Zw3 (W:=W) hb hd c
 have hmer:=fun(r:Nat->Int) c=>KD2 (M:=M) h.1 (by omega) hne r c
 have hroot:∀ c,2<=c->c<=M->((mer W b d).getD c 0=c↔W.getD c 0=c/\c≠max (W.getD b 0) (W.getD d 0)):=fun c h2 hM=>by
  have hl:=h.1
  rw[QC0 W b d c (by omega)]
  by_cases e:W.getD c 0=max (W.getD b 0) (W.getD d 0)
  · rw[if_pos e]
    have hc:=(h.2 c (by omega)).2 c (Con.refl _ _)
    constructor
    · intro q;omega
    · rintro⟨q1,q2⟩;omega
  · rw[if_neg e]
    constructor
    · intro q;exact⟨q,by omega⟩
    · intro q;exact q.1
 generalize hu:W.getD b 0=u at*
 generalize hv:W.getD d 0=v at*
 have hhi:max u v∈rtL M W:=rtL_mem.2 ⟨by omega,by omega,(Nat.le_total u v).elim (fun q=>by rw[Nat.max_eq_right q];exact rd) (fun q=>by rw[Nat.max_eq_left q];exact rb)⟩
 have hlo:min u v≠1->min u v∈rtL M W:=fun q1=>rtL_mem.2 ⟨by omega,by omega,(Nat.le_total u v).elim (fun q=>by rw[Nat.min_eq_left q];exact rb) (fun q=>by rw[Nat.min_eq_right q];exact rd)⟩
 have hsub:∀ c,c∈rtL M (mer W b d)↔c∈rtL M W/\c≠max u v:=fun c=>by
  rw[rtL_mem,rtL_mem]
  constructor
  · rintro⟨a1,a2,a3⟩
    have:=(hroot c a1 a2).1 a3
    exact⟨⟨a1,a2,this.1⟩,this.2⟩
  · rintro⟨⟨a1,a2,a3⟩,a4⟩
    exact⟨a1,a2,(hroot c a1 a2).2 ⟨a3,a4⟩⟩
 have perm1:(rtL M W).Perm (max u v::rtL M (mer W b d)):=by
  rw[List.perm_ext_iff_of_nodup (Qw1 M W) (List.nodup_cons.2 ⟨fun q=>((hsub _).1 q).2 rfl,Qw1 M _⟩)]
  intro c
  rw[List.mem_cons,hsub]
  constructor
  · intro q
    by_cases e:c=max u v
    · exact Or.inl e
    · exact Or.inr ⟨q,e⟩
  · rintro(q|q)
    · rw[q];exact hhi
    · exact q.1
 refine⟨?_,by rw[perm1.length_eq];rfl⟩
 rw[QW8 _ perm1]
 have dhi:QJ9 M W (dfR (b,d)) (max u v)=1∨QJ9 M W (dfR (b,d)) (max u v) = -1:=by
  rw[hrow];split<;>split<;>omega
 have dlo:QJ9 M W (dfR (b,d)) (min u v) = -QJ9 M W (dfR (b,d)) (max u v):=by
  rw[hrow,hrow];split<;>split<;>split<;>split<;>omega
 have doth:∀ c,c≠max u v->c≠min u v->QJ9 M W (dfR (b,d)) c=0:=fun c q1 q2=>by
  rw[hrow];split<;>split<;>omega
 by_cases hl1:min u v∈rtL M (mer W b d)
 · obtain⟨x,y,hxy⟩:=List.append_of_mem hl1
   have nd:=Qw1 M (mer W b d)
   rw[hxy]at nd
   have perm2:(rtL M (mer W b d)).Perm (min u v::(x++y)):=by rw[hxy];exact List.perm_middle
   have ndl:min u v ∉ x++y:=(List.nodup_cons.1 ((List.perm_middle.nodup_iff).1 nd)).1
   have hin:∀ c∈x++y,c∈rtL M (mer W b d):=fun c hc=>perm2.mem_iff.2 (.tail _ hc)
   rw[QW8 _ (List.Perm.cons (max u v) perm2),QW8 _ perm2]
   have e1:dZ (QJ9 M W (dfR (b,d))::R.map (QJ9 M W)) (max u v::min u v::(x++y))=QJ9 M W (dfR (b,d)) (max u v)*(dZ (R.map (QJ9 M W)) (min u v::(x++y))+1*dZ (R.map (QJ9 M W)) (max u v::(x++y))):=by
    show QJ9 M W (dfR (b,d)) (max u v)*dZ (R.map (QJ9 M W)) (min u v::(x++y))-(QJ9 M W (dfR (b,d)) (min u v)*dZ (R.map (QJ9 M W)) (max u v::(x++y))-QK5 (QJ9 M W (dfR (b,d))) (x++y) _)=_
    rw[QK3 _ _ _ (fun c hc=>doth c ((hsub c).1 (hin c hc)).2 (fun q=>ndl (q▸hc))),dlo]
    grind
   rw[e1]
   have e2:dZ (R.map (QJ9 M W)) (min u v::(x++y))+1*dZ (R.map (QJ9 M W)) (max u v::(x++y))=dZ (R.map (QJ9 M (mer W b d))) (min u v::(x++y)):=by
    by_cases hR:R=[]
    · subst hR
      show(if min u v::(x++y)=[] then(1:Int) else 0)+1*(if max u v::(x++y)=[] then(1:Int) else 0)=(if min u v::(x++y)=[] then(1:Int) else 0)
      rw[if_neg (by simp),if_neg (by simp)];rfl
    · have pos:∀ c∈x++y,c≠0:=fun c hc=>by have:=(rtL_mem.1 (hin c hc)).1;omega
      let ex:(Nat->Int)->Nat->Int:=fun r c=>if c=0 then QJ9 M W r (min u v)+1*QJ9 M W r (max u v) else QJ9 M W r c
      have low:∀ l:List Nat,(∀ c∈l,c≠0)->dZ (R.map ex) l=dZ (R.map (QJ9 M W)) l:=fun l hl=>QW2 ex (QJ9 M W) R l fun r _ c hc=>if_neg (hl c hc)
      have s1 := XQ3 (u := min u v) (v := max u v) (w := 0) 1 (R.map ex) (by simpa using hR) (fun r hr => by
       obtain⟨s,-,rfl⟩:=List.mem_map.1 hr
       show(if(0:Nat)=0 then _ else _)=(if min u v=0 then _ else QJ9 M W s (min u v))+1*(if max u v=0 then _ else QJ9 M W s (max u v))
       rw[if_pos rfl,if_neg (by omega),if_neg (by omega)]) (x++y)
      rw [low (min u v :: (x ++ y)) (fun c hc => by
       cases hc with
       |head=>omega
       |tail _ hc=>exact pos c hc),low (max u v::(x++y)) (fun c hc=>by
       cases hc with
       |head=>omega
       |tail _ hc=>exact pos c hc)]at s1
      rw[<-s1]
      have em:(min u v::(x++y)).map (fun c=>if c=min u v then 0 else c)=0::(x++y):=by
       rw[List.map_cons,if_pos rfl]
       congr 1
       refine(List.map_congr_left (g:=id) fun c hc=>?_).trans (List.map_id _)
       exact if_neg (fun q=>ndl (by rw[<-q];exact hc))
      rw[<-em,XY2,List.map_map]
      refine QW2 _ _ R _ fun r _ c hc=>?_
      show ex r (if c=min u v then 0 else c)=QJ9 M (mer W b d) r c
      rw[hmer]
      cases hc with
      |head=>rw[if_pos rfl,if_pos rfl];show(if(0:Nat)=0 then QJ9 M W r (min u v)+1*QJ9 M W r (max u v) else _)=_;rw[if_pos rfl];omega
      |tail _ hc=>
       have q1:c≠min u v:=fun q=>ndl (q▸hc)
       rw[if_neg q1,if_neg q1,if_neg ((hsub c).1 (hin c hc)).2]
       exact if_neg (pos c hc)
   rw[e2]
   rcases dhi with q|q<;>rw[q]<;>omega
 · have e1 : dZ (QJ9 M W (dfR (b, d)) :: R.map (QJ9 M W)) (max u v :: rtL M (mer W b d)) = QJ9 M W (dfR (b, d)) (max u v) * dZ (R.map (QJ9 M W)) (rtL M (mer W b d)) := by
     show QJ9 M W (dfR (b,d)) (max u v)*dZ (R.map (QJ9 M W)) (rtL M (mer W b d))-QK5 (QJ9 M W (dfR (b,d))) (rtL M (mer W b d)) _=_
     rw[QK3 _ _ _ (fun c hc=>doth c ((hsub c).1 hc).2 (fun q=>hl1 (q▸hc)))]
     omega
   rw [e1, QW2 (QJ9 M W) (QJ9 M (mer W b d)) R (rtL M (mer W b d)) (fun r _ c hc => by
    rw[hmer,if_neg (show ¬ c=min u v from fun q=>hl1 (by rw[<-q];exact hc)),if_neg ((hsub c).1 hc).2])]
   rcases dhi with q|q<;>rw[q]<;>omega
theorem KG7 {W:List Nat} {x y:Nat} (h:W.getD x 0=W.getD y 0):mer W x y=W:=by
 unfold mer
 rw[h,Nat.max_self,Nat.min_self]
 refine(List.map_congr_left (g:=id) fun z _=>?_).trans (List.map_id _)
 by_cases q:z=W.getD y 0
 · rw[if_pos q];exact q.symm
 · rw[if_neg q];rfl
theorem Qw5 {M : Nat} (R : List (Nat → Int)) : ∀ (E F : List (Nat × Nat)) (W : List Nat), Least F (M + 1) W → (∀ e ∈ F ++ E, 1 ≤ e.1 ∧ e.1 ≤ M ∧ 1 ≤ e.2 ∧ e.2 ≤ M) →
    (rtL M W).length<=(rtL M (QF5 W E)).length+E.length/\
    ((rtL M W).length=(rtL M (QF5 W E)).length+E.length->(dZ ((E.map dfR++R).map (QJ9 M W)) (rtL M W)).natAbs=(dZ (R.map (QJ9 M (QF5 W E))) (rtL M (QF5 W E))).natAbs)/\
    ((rtL M W).length≠(rtL M (QF5 W E)).length+E.length->dZ ((E.map dfR++R).map (QJ9 M W)) (rtL M W)=0)
 |[],_,_,_,_=>⟨Nat.le_refl _,fun _=>rfl,fun h=>absurd rfl h⟩
 |(b,d)::E,F,W,h,hF=>by
  have he:1<=b/\b<=M/\1<=d/\d<=M:=hF (b,d) (List.mem_append_right _ (.head _))
  have hF1:∀ e∈F,1<=e.1/\1<=e.2:=fun e q=>by have:=hF e (List.mem_append_left _ q);omega
  by_cases hne:W.getD b 0=W.getD d 0
  · have em:QF5 W ((b,d)::E)=QF5 W E:=by show QF5 (mer W b d) E=_;rw[KG7 hne]
    obtain ⟨i1, -, -⟩ := Qw5 R E F W h (fun e q => hF e (by
     rcases List.mem_append.1 q with g|g
     · exact List.mem_append_left _ g
     · exact List.mem_append_right _ (.tail _ g)))
    rw[em,List.length_cons]
    refine⟨by omega,fun q=>by omega,fun _=>?_⟩
    show QK5 (QJ9 M W (dfR (b,d))) (rtL M W) _=0
    refine QK3 _ _ _ fun c _=>?_
    rw[Zw3 ⟨he.1,he.2.1⟩ ⟨he.2.2.1,he.2.2.2⟩,hne,Int.sub_self]
  · obtain⟨s1,s2⟩:=KK1 h hF1 ⟨he.1,he.2.1⟩ ⟨he.2.2.1,he.2.2.2⟩ hne (E.map dfR++R)
    obtain⟨i1,i2,i3⟩:=Qw5 R E (F++[(b,d)]) (mer W b d) (Qw6 h b d (by omega) (by omega) (fun e q=>by have:=hF e (List.mem_append_left _ q);omega)) (fun e q=>hF e (by simpa using q))
    have em:QF5 W ((b,d)::E)=QF5 (mer W b d) E:=rfl
    rw[em,List.length_cons]
    refine⟨by omega,fun q=>?_,fun q=>?_⟩
    · rw[<-i2 (by omega),<-s1]
      rfl
    · have:=i3 (by omega)
      have s3:(dZ (((b,d)::E).map dfR++R |>.map (QJ9 M W)) (rtL M W)).natAbs=0:=by
       show(dZ (QJ9 M W (dfR (b,d))::(E.map dfR++R).map (QJ9 M W)) (rtL M W)).natAbs=0
       rw[s1,this];rfl
      omega
end Go.Proofs.YtjcagkgpbcdghaaDoor

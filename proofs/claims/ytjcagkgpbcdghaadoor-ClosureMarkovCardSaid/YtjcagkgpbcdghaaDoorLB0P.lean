/- Several texts of the proof, one behind the other. -/
import Derived.Test.YtjcagkgpbcdghaaDoorCB6P
import Derived.Test.YtjcagkgpbcdghaaDoorPA10P
import Derived.Test.YtjcagkgpbcdghaaDoorTG1P
import Derived.Test.YtjcagkgpbcdghaaDoorW3P
import Derived.Deep.Cut
import Derived.Test.YtjcagkgpbcdghaaDoorCM0P
import Derived.Test.YtjcagkgpbcdghaaDoorCL0P
/- The walks of knotworkkeep.picked, word and plus. -/
namespace Go.Proofs.YtjcagkgpbcdghaaDoor
open Go.RowKit
set_option maxHeartbeats 8000000
set_option maxRecDepth 100000
theorem XV2 (x : Int) (n : Nat) (w : World) (hx : -9223372036854775808 ≤ x ∧ x ≤ 9223372036854775807) (h0 : 0 < n) (h1 : n ≤ 1000) :
    Calls Tryd.prog 4 #[.int .i64 x,.int .i64 (n:Nat)] w fun e w'=>∃ r:Nat,e=.returned (.int .i64 (r:Nat))/\r<n/\w'=w:=by
 have hz:((n:Int)==0)=false:=beq_eq_false_iff_ne.2 (by omega)
 by_cases hn:x<0
 · have hd:decide (x<0)=true:=decide_eq_true hn
   have e1:IntKind.i64.wrap (x+1)=x+1:=IntWalk.i64_in _ (by omega)
   have e2:IntKind.i64.wrap (-(x+1)) = -(x+1):=IntWalk.i64_in _ (by omega)
   obtain⟨q,hq⟩:∃ q:Nat,-(x+1)=(q:Int):=⟨(-(x+1)).toNat,by omega⟩
   have er:(q:Int).tmod (n:Int)=((q%n:Nat):Int):=rfl
   have hlt:=Nat.mod_lt q h0
   have e3:IntKind.i64.wrap ((q%n:Nat):Int)=((q%n:Nat):Int):=IntWalk.i64_in _ (by omega)
   go_enter Tryd.func4,Tryd.ntmps4
   go_wp2
   go_ret
   exact⟨q%n,by simp,hlt,rfl⟩
 · have hd:decide (x<0)=false:=decide_eq_false hn
   obtain⟨q,hq⟩:∃ q:Nat,x=(q:Int):=⟨x.toNat,by omega⟩
   subst hq
   have er:(q:Int).tmod (n:Int)=((q%n:Nat):Int):=rfl
   have hlt:=Nat.mod_lt q h0
   have e3:IntKind.i64.wrap ((q%n:Nat):Int)=((q%n:Nat):Int):=IntWalk.i64_in _ (by omega)
   go_enter Tryd.func4,Tryd.ntmps4
   go_wp2
   go_ret
   exact⟨q%n,by simp,hlt,rfl⟩
theorem XH9 (x:Int):∀ u∈[Value.int .i64 x],u.oneCell'=true:=by
 intro u hu
 simp only[List.mem_singleton]at hu
 subst hu
 rfl
theorem XZ1 {w W1 w8 : World} {v v8 : Value} {l : List Int} {x : Int} {e : TypeId} (hb : Below w.heap.size w W1) (hO : W1.ownsRow w.heap.size 3 1 v l.length (QQ3 l)) (hown : w8.ownsRow w.heap.size 3 1 v8 (l.length + 1) (QQ3 l ++ [.int .i64 x])) (hg : (W1.alloc (.cells #[.int .i64 x] e)).grownBy w8 v.ownBlock) :
    w8.ownsRow w.heap.size 3 1 v8 (l++[x]).length (QQ3 (l++[x]))/\Below w.heap.size w w8:=by
 refine⟨?_,(hb.alloc hb.size _).grown hg (by have:=hb.size;simp;omega) (fun q hq=>(hO.lt q hq).1)⟩
 have e1:QQ3 l++[.int .i64 x]=QQ3 (l++[x]):=by simp[QQ3]
 rw[<-e1]
 simpa using hown
def LtOk (n:Nat) (l:List Int):Prop:=∀ x∈l,1<=x.natAbs/\x.natAbs<n
theorem LtOk.snoc {n:Nat} {l:List Int} (h:LtOk n l) {x:Int} (hx:1<=x.natAbs/\x.natAbs<n):LtOk n (l++[x]):=fun y hy=>by
 rcases List.mem_append.1 hy with g|g
 · exact h y g
 · rw[List.mem_singleton.1 g];exact hx
theorem LtOk.word {n:Nat} {l:List Int} (h:LtOk n l) (h2:2<=n) (h6:n<=6) (hl:l.length<=20):Qf1 (n:Int) l=0:=by
 unfold Qf1
 rw[if_neg (by omega),if_neg,if_neg (by omega)]
 intro q
 obtain⟨x,hx,hb⟩:=List.any_eq_true.1 q
 have:=h x hx
 unfold QY4 at hb
 rw[decide_eq_false (show ¬ x=0 by omega),decide_eq_false (show ¬ x <= -(n:Int) by omega),decide_eq_false (show ¬ (n:Int)<=x by omega)]at hb
 cases hb
theorem ZK7 (n p q : Nat) (a : Option Addr) (c : Nat) (l : List Int) (w : World) (hnp : n = p + 1) (h1 : 1 ≤ p) (h5 : p ≤ 5) (hq : q ≤ 20) (hl : ∀ x ∈ l, -9223372036854775808 ≤ x ∧ x ≤ 9223372036854775807) (h : RdAt w w.heap.size 1 (.slice a l.length c) l.length (QQ3 l)) :
    Calls Tryd.prog 5 #[.int .i64 (n:Nat),.slice a l.length c,.int .i64 (q:Nat)] w fun e w'=>∃ a2 c2 L,e=.returned (.slice a2 L.length c2)/\w'.ownsRow w.heap.size 3 1 (.slice a2 L.length c2) L.length (QQ3 L)/\Hid (LtOk n L/\L.length<=q)/\Below w.heap.size w w':=by
 obtain⟨i2,hk,hx0,hx1,hx2⟩:=info_parts QB7
 have HRD:Hid (∀ W,Below w.heap.size w W->RdAt W W.heap.size 1 (.slice a l.length c) l.length (QQ3 l)):=fun W hW=>(h.on hW).mono hW.size
 have HL:Hid (∀ x∈l,-9223372036854775808<=x/\x<=9223372036854775807):=hl
 have HNP:Hid (n=p+1):=hnp
 have ew1:IntKind.i64.wrap ((n:Int)-1)=(p:Int):=by rw[show(n:Int)-1=p by omega];exact IntWalk.i64_in _ (by omega)
 obtain⟨d,hd⟩:∃ d,d=2*p:=⟨_,rfl⟩
 have HD:Hid (d=2*p):=hd
 have ew2:IntKind.i64.wrap (2*(p:Int))=(d:Int):=by rw[show 2*(p:Int)=d by omega];exact IntWalk.i64_in _ (by omega)
 obtain⟨p2,hp2⟩:∃ p2:Int,p2=(p:Int) - 1:=⟨_,rfl⟩
 have ew3:IntKind.i64.wrap ((n:Int)-2)=p2:=by rw[show(n:Int)-2=p2 by omega];exact IntWalk.i64_in _ (by omega)
 have hp2b:p2<=5/\0<=p2:=by omega
 have HP2:Hid (p2=(p:Int)-1):=hp2
 have HO0:Hid (w.ownsRow w.heap.size 3 1 (.slice none 0 0) ([]:List Int).length (QQ3 [])):=World.ownsRow_nil _ _ _ _
 have hd1:0<d:=by omega
 have hd2:d<=1000:=by omega
 clear h hl hnp hd hp2
 go_enter Tryd.func5,Tryd.ntmps5
 go_wp2
 go_loopw [7,8] (fun v7 v8 wr=>∃ (i:Nat) (L:List Int) (a7:Option Addr) (c7:Nat),i<=l.length/\i<=q/\v8=.int .i64 (i:Nat)/\v7=.slice a7 L.length c7/\Hid (L.length=i/\LtOk n L)/\Hid (wr.ownsRow w.heap.size 3 1 (.slice a7 L.length c7) L.length (QQ3 L))/\Hid (Below w.heap.size w wr)) (fun _ v8 _=>q-(intOf v8).toNat)
 case atStart=>exact⟨0,[],none,0,Nat.zero_le _,Nat.zero_le _,rfl,rfl,⟨rfl,fun x hx=>by cases hx⟩,HO0.out,Below.refl _ _⟩
 case round=>
  clear HO0
  rename World=>W1
  obtain⟨i,L,a7,c7,hil,hiq,rfl,rfl,hLL,hO,hB⟩:=hrel
  by_cases hi1:i<l.length
  · by_cases hi2:i<q
    · have hd3:decide ((i:Int)<(l.length:Int))=true:=decide_eq_true (by omega)
      have hd4:decide ((i:Int)<(q:Int))=true:=decide_eq_true (by omega)
      obtain⟨b,off,ea,hlt,hc⟩:=(HRD.out W1 hB.out).intAt i hi1
      have hxr:=HL.out (l.getD i 0) (by rw[List.getD_eq_getElem?_getD,List.getElem?_eq_getElem hi1];exact List.getElem_mem _)
      have HPK:Hid (∀ W,Calls Tryd.prog 4 #[.int .i64 (l.getD i 0),.int .i64 (d:Nat)] W fun e w'=>∃ r:Nat,e=.returned (.int .i64 (r:Nat))/\r<d/\w'=W):=fun W=>XV2 _ d W hxr hd1 hd2
      generalize l.getD i 0=x at hc hxr HPK
      generalize l.length=N at hil hi1 hd3 ea HRD ⊢
      subst ea
      have hiI:(i:Int)<(N:Int):=by omega
      clear hxr
      go_wp2_with (go_at_call 4;refine(HPK.out _).mono ?_;rintro e9 w5 ⟨r,rfl,hr,e4⟩;obtain rfl:=e4.symm;refine Hid.out ?_)
      refine Lib.hid ?_
      clear HPK hc
      have hLi:=hLL.out.1
      have HLL:Hid (LtOk n L):=hLL.out.2
      have HLI:Hid (L.length=i):=hLi
      clear hLL hLi
      by_cases hrp:r<p
      · have hd5:decide ((r:Int)<(p:Int))=true:=decide_eq_true (by omega)
        have ew4:IntKind.i64.wrap ((r:Int)+1)=(r:Int)+1:=IntWalk.i64_in _ (by omega)
        have HY:Hid (1<=((r:Int)+1).natAbs/\((r:Int)+1).natAbs<n):=(by have:=HNP.out;omega:1<=((r:Int)+1).natAbs/\((r:Int)+1).natAbs<n)
        have hLm:L.length<=20:=by have:=HLI.out;omega
        go_wp2_with (first
         |(at_builtin;refine wpList_append_own _ rfl _ _ 22 rfl w.heap.size 3 i2 (.int .i64 0) 1 8 Tryd.underlying22 hk hx0 hx1 hx2 rfl (by decide) _ _ _ rfl (hO.out.alloc _) ⟨W1.heap.size,0,none⟩ 1 1 [.int .i64 ((r:Int)+1)] rfl rfl (QG1 _ _ _) (XH9 _) (by unfold maxLen;omega) (by omega) (by have:=hB.out.size;simp;omega) ?_;intro v8 w8 hown8 hg8 _;refine Hid.out ?_))
        refine Lib.hid ?_
        have hpu:=XZ1 hB.out hO.out hown8 hg8
        obtain⟨a8,c8,rfl⟩:=QZ7 hpu.1
        have HO8:Hid (w8.ownsRow w.heap.size 3 1 (.slice a8 (L++[(r:Int)+1]).length c8) (L++[(r:Int)+1]).length (QQ3 (L++[(r:Int)+1]))):=hpu.1
        have HB8:Hid (Below w.heap.size w w8):=hpu.2
        have HLL8:Hid ((L++[(r:Int)+1]).length=i+1/\LtOk n (L++[(r:Int)+1])):=(⟨by rw[List.length_append,HLI.out];rfl,HLL.out.snoc HY.out⟩:(L++[(r:Int)+1]).length=i+1/\LtOk n (L++[(r:Int)+1]))
        clear hpu hown8 hg8 hO hB hLm
        generalize L++[(r:Int)+1]=L8 at*
        go_wp2
        go_roundw
        case rel=>exact⟨i+1,L8,a8,c8,by omega,by omega,by go_num,rfl,HLL8.out,HO8.out,HB8.out⟩
        case measure=>simp only[intOf];omega
      · have hd5:decide ((r:Int)<(p:Int))=false:=decide_eq_false (by omega)
        have ew4:IntKind.i64.wrap (p2-(r:Int))=p2-(r:Int):=IntWalk.i64_in _ (by have:=HD.out;omega)
        have HY:Hid (1<=(p2-(r:Int)).natAbs/\(p2-(r:Int)).natAbs<n):=(by have:=HNP.out;have:=HP2.out;have:=HD.out;omega:1<=(p2-(r:Int)).natAbs/\(p2-(r:Int)).natAbs<n)
        have hLm:L.length<=20:=by have:=HLI.out;omega
        go_wp2_with (first
         |(at_builtin;refine wpList_append_own _ rfl _ _ 22 rfl w.heap.size 3 i2 (.int .i64 0) 1 8 Tryd.underlying22 hk hx0 hx1 hx2 rfl (by decide) _ _ _ rfl (hO.out.alloc _) ⟨W1.heap.size,0,none⟩ 1 1 [.int .i64 (p2 - (r:Int))] rfl rfl (QG1 _ _ _) (XH9 _) (by unfold maxLen;omega) (by omega) (by have:=hB.out.size;simp;omega) ?_;intro v8 w8 hown8 hg8 _;refine Hid.out ?_))
        refine Lib.hid ?_
        have hpu:=XZ1 hB.out hO.out hown8 hg8
        obtain⟨a8,c8,rfl⟩:=QZ7 hpu.1
        have HO8:Hid (w8.ownsRow w.heap.size 3 1 (.slice a8 (L++[p2-(r:Int)]).length c8) (L++[p2-(r:Int)]).length (QQ3 (L++[p2-(r:Int)]))):=hpu.1
        have HB8:Hid (Below w.heap.size w w8):=hpu.2
        have HLL8:Hid ((L++[p2-(r:Int)]).length=i+1/\LtOk n (L++[p2-(r:Int)])):=(⟨by rw[List.length_append,HLI.out];rfl,HLL.out.snoc HY.out⟩:(L++[p2-(r:Int)]).length=i+1/\LtOk n (L++[p2-(r:Int)]))
        clear hpu hown8 hg8 hO hB hLm
        generalize L++[p2-(r:Int)]=L8 at*
        go_wp2
        go_roundw
        case rel=>exact⟨i+1,L8,a8,c8,by omega,by omega,by go_num,rfl,HLL8.out,HO8.out,HB8.out⟩
        case measure=>simp only[intOf];omega
    · have hd3:decide ((i:Int)<(l.length:Int))=true:=decide_eq_true (by omega)
      have hd4:decide ((i:Int)<(q:Int))=false:=decide_eq_false (by omega)
      go_wp2
      go_ret
      exact⟨a7,c7,L,rfl,hO.out,⟨hLL.out.2,by have:=hLL.out.1;omega⟩,hB.out⟩
  · have hd3:decide ((i:Int)<(l.length:Int))=false:=decide_eq_false (by omega)
    go_wp2
    go_ret
    exact⟨a7,c7,L,rfl,hO.out,⟨hLL.out.2,by have:=hLL.out.1;omega⟩,hB.out⟩
end Go.Proofs.YtjcagkgpbcdghaaDoor
/- States of a closed braid: loops are the places that no letter touches; how many rings a state has. -/
namespace Go.Proofs.YtjcagkgpbcdghaaDoor
def JW8 (l:List Int) (p:Nat):Bool:=!(List.range l.length).any fun k=>decide (p=(l.getD k 0).natAbs∨p=(l.getD k 0).natAbs+1)
theorem off_iff {l:List Int} {p:Nat}:JW8 l p=true↔∀ k,k<l.length->¬ Tch l p k:=by
 unfold JW8
 rw[Bool.not_eq_true',Bool.eq_false_iff,ne_eq,any_tch]
 exact⟨fun q k hk t=>q ⟨k,hk,t⟩,fun q ⟨k,hk,t⟩=>q k hk t⟩
theorem KY6 (l:List Int) {n:Nat} (h5:n<=5):vdN l n 6=(List.range' 1 n).countP (JW8 l):=by
 have c:n=0∨n=1∨n=2∨n=3∨n=4∨n=5:=by omega
 have e:∀ p,(if JW8 l p=true then 1 else 0)=if(List.range l.length).any (fun k=>decide (p=(l.getD k 0).natAbs∨p=(l.getD k 0).natAbs+1))=true then 0 else 1:=fun p=>by
  unfold JW8
  cases (List.range l.length).any (fun k=>decide (p=(l.getD k 0).natAbs∨p=(l.getD k 0).natAbs+1))<;>rfl
 rcases c with rfl|rfl|rfl|rfl|rfl|rfl
 all_goals
  simp only[vdN,List.range',List.countP_cons,List.countP_nil,e]
  simp
  try omega
theorem Zd2 {α β:Type} (f:α->List β) (P:β->Bool) (Q:α->Bool):∀ L:List α,(∀ r∈L,(f r).countP P=if Q r=true then 1 else 0)->(L.map f).flatten.countP P=L.countP Q
 |[],_=>rfl
 |r::L,h=>by
  rw[List.map_cons,List.flatten_cons,List.countP_append,h r (.head _),Zd2 f P Q L fun x hx=>h x (.tail _ hx),List.countP_cons]
  omega
theorem Ky1 (l:List Int) (L:List (List Nat)):∀ t,t<=L.length->(cF l (L.take t)).2.2=(L.take t).countP fun r=>decide ((wk l r).length=0)
 |0,_=>rfl
 |t+1,ht=>by
  rw[List.take_succ_eq_append_getElem (by omega),XQ4,List.countP_append,<-Ky1 l L t (by omega),List.countP_singleton]
  show(cF l (L.take t)).2.2+(if(wk l L[t]).length=0 then 1 else 0)=_
  by_cases q:(wk l L[t]).length=0
  · rw[if_pos q,if_pos (decide_eq_true q)]
  · rw[if_neg q,if_neg (by simpa using q)]
theorem ZU1 (P:Nat->Nat×Nat):∀ i,QF2 P i<=i
 |0=>Nat.le_refl _
 |i+1=>by
  have:=ZU1 P i
  show QF2 P i+_<=i+1
  split<;>omega
section
variable {n:Nat} {l:List Int} (hw:QH1 n l) (h2:2<=n) (h5:n<=5)
include hw h2 h5
theorem KH3:QV5 l n=vdN l n 6:=by
 rw[KY6 l h5]
 have hw':∀ j,j<l.length->1<=(l.getD j 0).natAbs/\(l.getD j 0).natAbs<n:=hw
 obtain⟨r1,r2,r3,r4⟩:=QH4 hw' h2 h5
 have hc:=Ky1 l (rgs (fun p=>pl l p l.length) n).2 _ (Nat.le_refl _)
 rw[List.take_length]at hc
 unfold QV5
 generalize (rgs (fun p=>pl l p l.length) n).2=L at*
 rw[hc]
 have perm:L.flatten.Perm (List.range' 1 n):=by
  rw[List.perm_ext_iff_of_nodup r3 List.nodup_range']
  intro p
  rw[List.mem_range'_1]
  constructor
  · intro q;have:=r4 p q;omega
  · intro q
    obtain⟨a1,a2,a3,-⟩:=r1 (p - 1) (by omega)
    rw[show p-1+1=p by omega]at a1 a2 a3
    exact List.mem_flatten.2 ⟨_,Qj8 L [] a1,by have:=Qj8 (L.getD (rgJ L p) []) 0 a2;rw[a3]at this;exact this⟩
 rw[<-perm.countP_eq]
 have single:∀ r∈L,∀ x∈r,pl l x l.length=x->r=[x]:=fun r hr x hx e=>by
  have hxr:=r4 x (List.mem_flatten.2 ⟨r,hr,hx⟩)
  obtain⟨a1,a2,a3,-,a5⟩:=r1 (x - 1) (by omega)
  rw[show x-1+1=x by omega]at a1 a2 a3 a5
  simp only at a5
  rw[e]at a5
  have hd:r=L.getD (rgJ L x) []:=by
   obtain⟨j,hj,rfl⟩:=List.getElem_of_mem hr
   by_cases q:j=rgJ L x
   · rw[<-q,XW9 L [] hj]
   · have pw:=r3
     unfold List.Nodup at pw
     rw[List.pairwise_flatten]at pw
     have pw:=List.pairwise_iff_getElem.1 pw.2
     have m2:x∈L[rgJ L x]'a1:=by rw[<-XW9 L [] a1];have:=Qj8 (L.getD (rgJ L x) []) 0 a2;rw[a3]at this;exact this
     rcases Nat.lt_or_gt_of_ne q with g|g
     · exact absurd rfl (pw _ _ hj a1 g x hx x m2)
     · exact absurd rfl (pw _ _ a1 hj g x m2 x hx)
  rw[hd]
  generalize L.getD (rgJ L x) []=r' at*
  have h6:r'.length=1:=by
   by_cases q:rgI L x+1<r'.length
   · rw[Nat.mod_eq_of_lt q]at a5;omega
   · rw[show rgI L x+1=r'.length by omega,Nat.mod_self]at a5;omega
  obtain⟨y,rfl⟩:=List.length_eq_one_iff.1 h6
  have h7:rgI L x=0:=by simp at a2;exact a2
  rw[h7]at a3
  exact congrArg (fun z=>[z]) a3
 have key:=Zd2 (fun r=>r) (JW8 l) (fun r=>decide ((wk l r).length=0)) L fun r hr=>by
  by_cases q:(wk l r).length=0
  · rw[if_pos (decide_eq_true q)]
    obtain⟨j,hj,rfl⟩:=List.getElem_of_mem hr
    have hp:=r2 j hj
    rw[XW9 L [] hj]at hp
    have hm:=Qj8 _ 0 hp
    have hz:=List.length_eq_zero_iff.1 q
    unfold wk at hz
    have hz2:=List.flatMap_eq_nil_iff.1 hz _ hm
    have hv:=Xb1 hz2 l.length (Nat.le_refl _)
    rw[single _ hr _ hm hv.1,List.countP_singleton,if_pos (off_iff.2 hv.2)]
  · rw[if_neg (by simpa using q),List.countP_eq_zero]
    intro x hx ho
    have hv:=Xg2 (off_iff.1 ho)
    apply q
    rw[single r hr x hx (hv _ (Nat.le_refl _)).1]
    unfold wk
    simp[(hv l.length (Nat.le_refl _)).2]
 rw[List.map_id']at key
 exact key.symm
theorem KF3 (h16:l.length<=16) (s:Nat):rgS (QV6 l n) (QV5 l n) s+1=kN (gL n l (sgS l s)) (6+l.length):=by
 have hw':∀ j,j<l.length->1<=(l.getD j 0).natAbs/\(l.getD j 0).natAbs<n:=hw
 have h:=XH2 hw' h2 h5
 have hm:=(QD6 (Qy6 hw' h2 h5 h16)).1
 have hl:=h.len
 have lt:∀ i,i<2*l.length->(prS (arN (QV6 l n)) s i).1<2*l.length+1/\(prS (arN (QV6 l n)) s i).2<2*l.length+1:=fun i hi=>by
  have r4:∀ t,t<4->arN (QV6 l n) (i / 2) t<2*l.length+1:=fun t ht=>by
   have:=QK6 hm (k:=i / 2) (by omega) ht
   omega
  unfold prS
  split<;>split<;>exact⟨r4 _ (by decide),r4 _ (by decide)⟩
 have j:=(Zy2 (P:=prS (arN (QV6 l n)) s) (M:=2*l.length+1) (2*l.length) lt).2
 have p := XH6 (A := aL n l) (l := l) (n := n) (M := 2 * l.length + 1) (E := arG (QV6 l n) s) (fun e he => by
  obtain⟨i,hi,rfl⟩:=List.mem_map.1 he
  exact lt i (by have:=List.mem_range.1 hi;omega)) (by omega) (fun j j1 j2 ht=>by
  obtain⟨i,i1,i2,i3⟩:=reach ht (Nat.zero_le _)
  have e1:=i3 _ (h.stay j1 j2)
  rw[e1]
  obtain⟨r,hr,rfl⟩:∃ r,r<2/\j=(l.getD i 0).natAbs+r:=by
   rcases i2 with q|q
   · exact⟨0,by decide,q⟩
   · exact⟨1,by decide,q⟩
  have:=h.rng i i1 r hr
  omega) 6
 have g:=Jz0 h hm h5 s
 have a:kN (arG (QV6 l n) s) (2*l.length+1)+QF2 (prS (arN (QV6 l n)) s) (2*l.length)=2*l.length+1:=by
  unfold arG
  rw[hl]
  exact j
 have lo:=KH3 hw h2 h5
 have p2:=p.2
 have jl:=ZU1 (prS (arN (QV6 l n)) s) (2*l.length)
 unfold gX at g
 unfold rgS
 rw[hl]
 omega
end
end Go.Proofs.YtjcagkgpbcdghaaDoor
/- Tangles of ties: labels below and above, edges; systems that are equal but for the names of nodes. -/
namespace Go.Proofs.YtjcagkgpbcdghaaDoor
structure Sy where
 f:Nat->Nat
 b:Nat->Nat
 E:List (Nat×Nat)
 M:Nat
def QW0 (i:Nat) (S:Sy):Sy:=⟨fun p=>if p=i∨p=i+1 then S.M else S.f p,S.b,S.E++[(S.f i,S.f (i+1))],S.M+1⟩
def flY (S:Sy):Sy:=⟨S.b,S.f,S.E,S.M⟩
def btY (i:Nat) (S:Sy):Sy:=flY (QW0 i (flY S))
def idY (S:Sy):Sy:=⟨S.f,S.b,S.E++[(S.M,S.b 0)],S.M+1⟩
def oY:Sy:=⟨fun p=>p,fun p=>p,[],6⟩
def clY (n:Nat) (S:Sy):List (Nat×Nat):=S.E++((List.range' 1 n).map (fun p=>(S.f p,S.b p))++(List.range' (n+1) (5-n)).map fun p=>(S.b p,S.b 0))
structure OkY (S:Sy):Prop where
 e:InE S.E S.M
 f:∀ p,p<6->S.f p<S.M
 b:∀ p,p<6->S.b p<S.M
structure EqY (S T:Sy) (φ ψ:Nat->Nat):Prop where
 l1:∀ u,u<S.M->φ u<T.M
 l2:∀ v,v<T.M->ψ v<S.M
 e1:∀ e,e∈S.E->Con T.E (φ e.1) (φ e.2)
 e2:∀ e,e∈T.E->Con S.E (ψ e.1) (ψ e.2)
 b1:∀ v,v<T.M->Con T.E (φ (ψ v)) v
 b2:∀ u,u<S.M->Con S.E (ψ (φ u)) u
 f:∀ p,p<6->Con T.E (φ (S.f p)) (T.f p)
 b:∀ p,p<6->Con T.E (φ (S.b p)) (T.b p)
def Eqv (S T:Sy):Prop:=OkY S/\OkY T/\∃ φ ψ,EqY S T φ ψ
theorem QQ9 {E F:List (Nat×Nat)} {x y:Nat} (h:Con E x y):Con (E++F) x y:=fun S hS hx=>h S (fun e he=>hS e (List.mem_append_left _ he)) hx
theorem con_last {E:List (Nat×Nat)} {x y:Nat}:Con (E++[(x,y)]) x y:=Con.edge (List.mem_append_right _ (.head _))
theorem InE.snoc {E:List (Nat×Nat)} {M x y:Nat} (h:InE E M) (hx:x<M) (hy:y<M):InE (E++[(x,y)]) M:=fun e he=>by
 rcases List.mem_append.1 he with q|q
 · exact h e q
 · rw[List.mem_singleton.1 q];exact⟨hx,hy⟩
theorem InE.mono {E:List (Nat×Nat)} {M N:Nat} (h:InE E M) (hN:M<=N):InE E N:=fun e he=>by have:=h e he;omega
theorem OkY.fl {S:Sy} (h:OkY S):OkY (flY S):=⟨h.e,h.b,h.f⟩
theorem OkY.tie {S:Sy} (h:OkY S) {i:Nat} (hi:i+1<6):OkY (QW0 i S):=
 ⟨((h.e.snoc (h.f i (by omega)) (h.f (i + 1) hi)).mono (Nat.le_succ _)), fun p hp => by
  show(if p=i∨p=i+1 then S.M else S.f p)<S.M+1
  have:=h.f p hp
  split<;>omega,fun p hp=>by have:=h.b p hp;show S.b p<S.M+1;omega⟩
theorem OkY.bt {S:Sy} (h:OkY S) {i:Nat} (hi:i+1<6):OkY (btY i S):=(h.fl.tie hi).fl
theorem OkY.id {S:Sy} (h:OkY S):OkY (idY S):=
 ⟨(h.e.mono (Nat.le_succ _)).snoc (Nat.lt_succ_self _) (by have:=h.b 0 (by decide);omega),fun p hp=>by have:=h.f p hp;show S.f p<S.M+1;omega,fun p hp=>by have:=h.b p hp;show S.b p<S.M+1;omega⟩
theorem ok_o:OkY oY:=⟨fun e he=>(by cases he),fun p hp=>hp,fun p hp=>hp⟩
theorem Eqv.refl {S:Sy} (h:OkY S):Eqv S S:=⟨h,h,fun u=>u,fun u=>u,⟨fun _ h=>h,fun _ h=>h,fun _ he=>Con.edge he,fun _ he=>Con.edge he,fun _ _=>Con.refl _ _,fun _ _=>Con.refl _ _,fun _ _=>Con.refl _ _,fun _ _=>Con.refl _ _⟩⟩
theorem Eqv.trans {S T U:Sy} (h:Eqv S T) (g:Eqv T U):Eqv S U:=by
 obtain⟨o1,o2,φ,ψ,q⟩:=h
 obtain⟨-,o3,φ',ψ',r⟩:=g
 refine⟨o1,o3,fun u=>φ' (φ u),fun v=>ψ (ψ' v),⟨fun u hu=>r.l1 _ (q.l1 u hu),fun v hv=>q.l2 _ (r.l2 v hv),fun e he=>QY9 r.e1 (q.e1 e he),fun e he=>QY9 q.e2 (r.e2 e he),fun v hv=>?_,fun u hu=>?_,fun p hp=>(QY9 r.e1 (q.f p hp)).trans (r.f p hp),fun p hp=>(QY9 r.e1 (q.b p hp)).trans (r.b p hp)⟩⟩
 · exact(QY9 r.e1 (q.b1 _ (r.l2 v hv))).trans (r.b1 v hv)
 · exact(QY9 q.e2 (r.b2 _ (q.l1 u hu))).trans (q.b2 u hu)
theorem Eqv.fl {S T:Sy} (h:Eqv S T):Eqv (flY S) (flY T):=by
 obtain⟨o1,o2,φ,ψ,q⟩:=h
 exact⟨o1.fl,o2.fl,φ,ψ,⟨q.l1,q.l2,q.e1,q.e2,q.b1,q.b2,q.b,q.f⟩⟩
theorem Eqv.tie {S T:Sy} (h:Eqv S T) {i:Nat} (hi:i+1<6):Eqv (QW0 i S) (QW0 i T):=by
 obtain⟨o1,o2,φ,ψ,q⟩:=h
 have pf:∀ p,p<6->Con S.E (ψ (T.f p)) (S.f p):=fun p hp=>(QY9 q.e2 (q.f p hp).symm).trans (q.b2 _ (o1.f p hp))
 have a1:∀ u,u<S.M->(if u=S.M then T.M else φ u)=φ u:=fun u hu=>if_neg (by omega)
 have a2:∀ v,v<T.M->(if v=T.M then S.M else ψ v)=ψ v:=fun v hv=>if_neg (by omega)
 refine⟨o1.tie hi,o2.tie hi,fun u=>if u=S.M then T.M else φ u,fun v=>if v=T.M then S.M else ψ v,⟨fun u hu=>?_,fun v hv=>?_,fun e he=>?_,fun e he=>?_,fun v hv=>?_,fun u hu=>?_,fun p hp=>?_,fun p hp=>?_⟩⟩
 · show(if u=S.M then T.M else φ u)<T.M+1
   have hu:u<S.M+1:=hu
   split
   · omega
   · have:=q.l1 u (by omega);omega
 · show(if v=T.M then S.M else ψ v)<S.M+1
   have hv:v<T.M+1:=hv
   split
   · omega
   · have:=q.l2 v (by omega);omega
 · show Con (T.E++[(T.f i,T.f (i+1))]) (if e.1=S.M then T.M else φ e.1) (if e.2=S.M then T.M else φ e.2)
   rcases List.mem_append.1 he with g|g
   · have:=o1.e e g
     rw[a1 _ this.1,a1 _ this.2]
     exact QQ9 (q.e1 e g)
   · rw[List.mem_singleton.1 g,a1 _ (o1.f i (by omega)),a1 _ (o1.f (i+1) hi)]
     exact(QQ9 (q.f i (by omega))).trans (con_last.trans (QQ9 (q.f (i+1) hi)).symm)
 · show Con (S.E++[(S.f i,S.f (i+1))]) (if e.1=T.M then S.M else ψ e.1) (if e.2=T.M then S.M else ψ e.2)
   rcases List.mem_append.1 he with g|g
   · have:=o2.e e g
     rw[a2 _ this.1,a2 _ this.2]
     exact QQ9 (q.e2 e g)
   · rw[List.mem_singleton.1 g,a2 _ (o2.f i (by omega)),a2 _ (o2.f (i+1) hi)]
     exact(QQ9 (pf i (by omega))).trans (con_last.trans (QQ9 (pf (i+1) hi)).symm)
 · show Con (T.E++[(T.f i,T.f (i+1))]) (if(if v=T.M then S.M else ψ v)=S.M then T.M else φ (if v=T.M then S.M else ψ v)) v
   have hv:v<T.M+1:=hv
   by_cases g:v=T.M
   · rw[if_pos g,if_pos rfl,g];exact Con.refl _ _
   · rw[a2 v (by omega),a1 _ (q.l2 v (by omega))]
     exact QQ9 (q.b1 v (by omega))
 · show Con (S.E++[(S.f i,S.f (i+1))]) (if(if u=S.M then T.M else φ u)=T.M then S.M else ψ (if u=S.M then T.M else φ u)) u
   have hu:u<S.M+1:=hu
   by_cases g:u=S.M
   · rw[if_pos g,if_pos rfl,g];exact Con.refl _ _
   · rw[a1 u (by omega),a2 _ (q.l1 u (by omega))]
     exact QQ9 (q.b2 u (by omega))
 · show Con (T.E++[(T.f i,T.f (i+1))]) (if(if p=i∨p=i+1 then S.M else S.f p)=S.M then T.M else φ (if p=i∨p=i+1 then S.M else S.f p)) (if p=i∨p=i+1 then T.M else T.f p)
   by_cases g:p=i∨p=i+1
   · rw[if_pos g,if_pos g,if_pos rfl];exact Con.refl _ _
   · rw[if_neg g,if_neg g,a1 _ (o1.f p hp)]
     exact QQ9 (q.f p hp)
 · show Con (T.E++[(T.f i,T.f (i+1))]) (if S.b p=S.M then T.M else φ (S.b p)) (T.b p)
   rw[a1 _ (o1.b p hp)]
   exact QQ9 (q.b p hp)
theorem Eqv.bt {S T:Sy} (h:Eqv S T) {i:Nat} (hi:i+1<6):Eqv (btY i S) (btY i T):=(h.fl.tie hi).fl
theorem Eqv.id {S T:Sy} (h:Eqv S T):Eqv (idY S) T:=by
 obtain⟨o1,o2,φ,ψ,q⟩:=h
 have a1:∀ u,u<S.M->(if u=S.M then T.b 0 else φ u)=φ u:=fun u hu=>if_neg (by omega)
 refine⟨o1.id,o2,fun u=>if u=S.M then T.b 0 else φ u,ψ,⟨fun u hu=>?_,fun v hv=>?_,fun e he=>?_,fun e he=>?_,fun v hv=>?_,fun u hu=>?_,fun p hp=>?_,fun p hp=>?_⟩⟩
 · show(if u=S.M then T.b 0 else φ u)<T.M
   have hu:u<S.M+1:=hu
   split
   · exact o2.b 0 (by decide)
   · exact q.l1 u (by omega)
 · have:=q.l2 v hv
   show ψ v<S.M+1
   omega
 · show Con T.E (if e.1=S.M then T.b 0 else φ e.1) (if e.2=S.M then T.b 0 else φ e.2)
   rcases List.mem_append.1 he with g|g
   · have:=o1.e e g
     rw[a1 _ this.1,a1 _ this.2]
     exact q.e1 e g
   · rw[List.mem_singleton.1 g,a1 _ (o1.b 0 (by decide)),if_pos rfl]
     exact(q.b 0 (by decide)).symm
 · exact QQ9 (q.e2 e he)
 · show Con T.E (if ψ v=S.M then T.b 0 else φ (ψ v)) v
   rw[a1 _ (q.l2 v hv)]
   exact q.b1 v hv
 · show Con (S.E++[(S.M,S.b 0)]) (ψ (if u=S.M then T.b 0 else φ u)) u
   have hu:u<S.M+1:=hu
   by_cases g:u=S.M
   · rw[if_pos g,g]
     exact(QQ9 ((QY9 q.e2 (q.b 0 (by decide)).symm).trans (q.b2 _ (o1.b 0 (by decide))))).trans con_last.symm
   · rw[if_neg g]
     exact QQ9 (q.b2 u (by omega))
 · show Con T.E (if S.f p=S.M then T.b 0 else φ (S.f p)) (T.f p)
   rw[a1 _ (o1.f p hp)]
   exact q.f p hp
 · show Con T.E (if S.b p=S.M then T.b 0 else φ (S.b p)) (T.b p)
   rw[a1 _ (o1.b p hp)]
   exact q.b p hp
theorem Qz6 {n:Nat} {S:Sy} (h:OkY S) (h5:n<=5):InE (clY n S) S.M:=fun e he=>by
 rcases List.mem_append.1 he with q|q
 · exact h.e e q
 · rcases List.mem_append.1 q with q|q
   · obtain⟨p,hp,rfl⟩:=List.mem_map.1 q
     have hp:=List.mem_range'_1.1 hp
     exact⟨h.f p (by omega),h.b p (by omega)⟩
   · obtain⟨p,hp,rfl⟩:=List.mem_map.1 q
     have hp:=List.mem_range'_1.1 hp
     exact⟨h.b p (by omega),h.b 0 (by omega)⟩
theorem QW9 {n p:Nat} (S:Sy) (h1:1<=p) (h2:p<=n):Con (clY n S) (S.f p) (S.b p):=Con.edge (List.mem_append_right _ (List.mem_append_left _ (List.mem_map.2 ⟨p,List.mem_range'_1.2 (by omega),rfl⟩)))
theorem Qz5 {n p:Nat} (S:Sy) (h1:n<p) (h2:p<=5):Con (clY n S) (S.b p) (S.b 0):=Con.edge (List.mem_append_right _ (List.mem_append_right _ (List.mem_map.2 ⟨p,List.mem_range'_1.2 (by omega),rfl⟩)))
theorem QH5 {n:Nat} {S:Sy} {P:Nat×Nat->Prop} (h5:n<=5) (h1:∀ e,e∈S.E->P e) (h2:∀ p,1<=p->p<=n->P (S.f p,S.b p)) (h3:∀ p,n<p->p<=5->P (S.b p,S.b 0)):∀ e,e∈clY n S->P e:=fun e he=>by
 rcases List.mem_append.1 he with q|q
 · exact h1 e q
 · rcases List.mem_append.1 q with q|q
   · obtain⟨p,hp,rfl⟩:=List.mem_map.1 q
     have hp:=List.mem_range'_1.1 hp
     exact h2 p (by omega) (by omega)
   · obtain⟨p,hp,rfl⟩:=List.mem_map.1 q
     have hp:=List.mem_range'_1.1 hp
     exact h3 p (by omega) (by omega)
def kY (n:Nat) (S:Sy):Nat:=kN (clY n S) S.M
theorem Eqv.k {S T:Sy} (h:Eqv S T) {n:Nat} (h5:n<=5):kY n S=kY n T:=by
 obtain⟨o1,o2,φ,ψ,q⟩:=h
 have pf:∀ p,p<6->Con S.E (ψ (T.f p)) (S.f p):=fun p hp=>(QY9 q.e2 (q.f p hp).symm).trans (q.b2 _ (o1.f p hp))
 have pb:∀ p,p<6->Con S.E (ψ (T.b p)) (S.b p):=fun p hp=>(QY9 q.e2 (q.b p hp).symm).trans (q.b2 _ (o1.b p hp))
 refine XY0 (Qz6 o1 h5) (Qz6 o2 h5) φ ψ q.l1 q.l2 (QH5 h5 (fun e he=>QQ9 (q.e1 e he)) (fun p p1 p2=>?_) (fun p p1 p2=>?_)) (QH5 h5 (fun e he=>QQ9 (q.e2 e he)) (fun p p1 p2=>?_) (fun p p1 p2=>?_)) (fun v hv=>QQ9 (q.b1 v hv)) (fun u hu=>QQ9 (q.b2 u hu))
 · exact(QQ9 (q.f p (by omega))).trans ((QW9 T p1 p2).trans (QQ9 (q.b p (by omega))).symm)
 · exact(QQ9 (q.b p (by omega))).trans ((Qz5 T p1 p2).trans (QQ9 (q.b 0 (by omega))).symm)
 · exact(QQ9 (pf p (by omega))).trans ((QW9 S p1 p2).trans (QQ9 (pb p (by omega))).symm)
 · exact(QQ9 (pb p (by omega))).trans ((Qz5 S p1 p2).trans (QQ9 (pb 0 (by omega))).symm)
theorem JA7 {S:Sy} (h:OkY S) {i j:Nat} (hi:i+1<6) (hj:j+1<6):Eqv (btY j (QW0 i S)) (QW0 i (btY j S)):=by
 have sw:∀ u,u<S.M->(if u=S.M then S.M+1 else if u=S.M+1 then S.M else u)=u:=fun u hu=>by rw[if_neg (by omega),if_neg (by omega)]
 have s0:(if S.M=S.M then S.M+1 else if S.M=S.M+1 then S.M else S.M)=S.M+1:=if_pos rfl
 have s1:(if S.M+1=S.M then S.M+1 else if S.M+1=S.M+1 then S.M else S.M+1)=S.M:=by rw[if_neg (by omega),if_pos rfl]
 have lt:∀ u,u<S.M+1+1->(if u=S.M then S.M+1 else if u=S.M+1 then S.M else u)<S.M+1+1:=fun u hu=>by split<;>(try split)<;>omega
 have inv:∀ u,u<S.M+1+1->(if(if u=S.M then S.M+1 else if u=S.M+1 then S.M else u)=S.M then S.M+1 else if(if u=S.M then S.M+1 else if u=S.M+1 then S.M else u)=S.M+1 then S.M else(if u=S.M then S.M+1 else if u=S.M+1 then S.M else u))=u:=fun u hu=>by
  by_cases a:u=S.M
  · rw[a,s0,s1]
  · by_cases b:u=S.M+1
    · rw[b,s1,s0]
    · rw[sw u (by omega),sw u (by omega)]
 have f1:Con (S.E++[(S.b j,S.b (j+1))]++[(S.f i,S.f (i+1))]) (S.f i) (S.f (i+1)):=con_last
 have b1:Con (S.E++[(S.b j,S.b (j+1))]++[(S.f i,S.f (i+1))]) (S.b j) (S.b (j+1)):=QQ9 con_last
 have f2:Con (S.E++[(S.f i,S.f (i+1))]++[(S.b j,S.b (j+1))]) (S.f i) (S.f (i+1)):=QQ9 con_last
 have b2:Con (S.E++[(S.f i,S.f (i+1))]++[(S.b j,S.b (j+1))]) (S.b j) (S.b (j+1)):=con_last
 refine⟨(h.tie hi).bt hj,(h.bt hj).tie hi,fun u=>if u=S.M then S.M+1 else if u=S.M+1 then S.M else u,fun u=>if u=S.M then S.M+1 else if u=S.M+1 then S.M else u,⟨lt,lt,fun e he=>?_,fun e he=>?_,fun v hv=>?_,fun u hu=>?_,fun p hp=>?_,fun p hp=>?_⟩⟩
 · show Con (S.E++[(S.b j,S.b (j+1))]++[(S.f i,S.f (i+1))]) (if e.1=S.M then S.M+1 else if e.1=S.M+1 then S.M else e.1) (if e.2=S.M then S.M+1 else if e.2=S.M+1 then S.M else e.2)
   have he:e∈S.E++[(S.f i,S.f (i+1))]++[(S.b j,S.b (j+1))]:=he
   rcases List.mem_append.1 he with g|g
   · rcases List.mem_append.1 g with g|g
     · have:=h.e e g
       rw[sw _ this.1,sw _ this.2]
       exact QQ9 (QQ9 (Con.edge g))
     · rw[List.mem_singleton.1 g,sw _ (h.f i (by omega)),sw _ (h.f _ hi)]
       exact f1
   · rw[List.mem_singleton.1 g,sw _ (h.b j (by omega)),sw _ (h.b _ hj)]
     exact b1
 · show Con (S.E++[(S.f i,S.f (i+1))]++[(S.b j,S.b (j+1))]) (if e.1=S.M then S.M+1 else if e.1=S.M+1 then S.M else e.1) (if e.2=S.M then S.M+1 else if e.2=S.M+1 then S.M else e.2)
   have he:e∈S.E++[(S.b j,S.b (j+1))]++[(S.f i,S.f (i+1))]:=he
   rcases List.mem_append.1 he with g|g
   · rcases List.mem_append.1 g with g|g
     · have:=h.e e g
       rw[sw _ this.1,sw _ this.2]
       exact QQ9 (QQ9 (Con.edge g))
     · rw[List.mem_singleton.1 g,sw _ (h.b j (by omega)),sw _ (h.b _ hj)]
       exact b2
   · rw[List.mem_singleton.1 g,sw _ (h.f i (by omega)),sw _ (h.f _ hi)]
     exact f2
 · have:=inv v hv
   simp only[this]
   exact Con.refl _ _
 · have:=inv u hu
   simp only[this]
   exact Con.refl _ _
 · show Con _ (if(if p=i∨p=i+1 then S.M else S.f p)=S.M then S.M+1 else if(if p=i∨p=i+1 then S.M else S.f p)=S.M+1 then S.M else(if p=i∨p=i+1 then S.M else S.f p)) (if p=i∨p=i+1 then S.M+1 else S.f p)
   by_cases g:p=i∨p=i+1
   · rw[if_pos g,if_pos g,s0];exact Con.refl _ _
   · rw[if_neg g,if_neg g,sw _ (h.f p hp)];exact Con.refl _ _
 · show Con _ (if(if p=j∨p=j+1 then S.M+1 else S.b p)=S.M then S.M+1 else if(if p=j∨p=j+1 then S.M+1 else S.b p)=S.M+1 then S.M else(if p=j∨p=j+1 then S.M+1 else S.b p)) (if p=j∨p=j+1 then S.M else S.b p)
   by_cases g:p=j∨p=j+1
   · rw[if_pos g,if_pos g,s1];exact Con.refl _ _
   · rw[if_neg g,if_neg g,sw _ (h.b p hp)];exact Con.refl _ _
end Go.Proofs.YtjcagkgpbcdghaaDoor
/- Closed tangles of ties: around, twice, one place more. -/
namespace Go.Proofs.YtjcagkgpbcdghaaDoor
def gY:List (Nat×Bool)->Sy->Sy
 |[],S=>S
 |e::u,S=>gY u (if e.2=true then QW0 e.1 S else S)
def OkU (n:Nat) (u:List (Nat×Bool)):Prop:=∀ e,e∈u->1<=e.1/\e.1<n
def kG (n:Nat) (u:List (Nat×Bool)):Nat:=kY n (gY u oY)
theorem Qz3 (u v:List (Nat×Bool)) (S:Sy):gY (u++v) S=gY v (gY u S):=by
 induction u generalizing S with
 |nil=>rfl
 |cons e u ih=>exact ih _
theorem JW7 {n:Nat} (h5:n<=5):∀ (u:List (Nat×Bool)) (S:Sy),OkU n u->OkY S->OkY (gY u S)
 |[],_,_,h=>h
 |e::u,S,hu,h=>by
  refine JW7 h5 u _ (fun x hx=>hu x (.tail _ hx)) ?_
  have:=hu e (.head _)
  split
  · exact h.tie (by omega)
  · exact h
theorem Kb7 {n:Nat} (h5:n<=5):∀ (u:List (Nat×Bool)) (S T:Sy),OkU n u->Eqv S T->Eqv (gY u S) (gY u T)
 |[],_,_,_,h=>h
 |e::u,S,T,hu,h=>by
  refine Kb7 h5 u _ _ (fun x hx=>hu x (.tail _ hx)) ?_
  have:=hu e (.head _)
  split
  · exact h.tie (by omega)
  · exact h
theorem JC6 {n j:Nat} (h5:n<=5) (hj:j+1<6):∀ (u:List (Nat×Bool)) (S:Sy),OkU n u->OkY S->Eqv (btY j (gY u S)) (gY u (btY j S))
 |[],_,_,h=>Eqv.refl (h.bt hj)
 |e::u,S,hu,h=>by
  have hu':OkU n u:=fun x hx=>hu x (.tail _ hx)
  have:=hu e (.head _)
  show Eqv (btY j (gY u (if e.2=true then QW0 e.1 S else S))) (gY u (if e.2=true then QW0 e.1 (btY j S) else btY j S))
  cases e.2 with
  |true=>exact(JC6 h5 hj u _ hu' (h.tie (by omega))).trans (Kb7 h5 u _ _ hu' (JA7 h (by omega) hj))
  |false=>exact JC6 h5 hj u S hu' h
theorem KJ9 {i:Nat} (hi:i+1<6):Eqv (QW0 i oY) (btY i oY):=by
 have s6:(if 6=6 then i else if 6=i∨6=i+1 then 6 else 6)=i:=if_pos rfl
 have si:∀ p,p=i∨p=i+1->(if p=6 then i else if p=i∨p=i+1 then 6 else p)=6:=fun p q=>by rw[if_neg (by omega),if_pos q]
 have sn:∀ p,p≠6->¬ (p=i∨p=i+1)->(if p=6 then i else if p=i∨p=i+1 then 6 else p)=p:=fun p a b=>by rw[if_neg a,if_neg b]
 have lt:∀ u,u<7->(if u=6 then i else if u=i∨u=i+1 then 6 else u)<7:=fun u hu=>by split<;>(try split)<;>omega
 have two:Con ([]++[(i,i+1)]) i (i+1):=con_last
 have back:∀ v,v<7->Con ([]++[(i,i+1)]) (if(if v=6 then i else if v=i∨v=i+1 then 6 else v)=6 then i else if(if v=6 then i else if v=i∨v=i+1 then 6 else v)=i∨(if v=6 then i else if v=i∨v=i+1 then 6 else v)=i+1 then 6 else(if v=6 then i else if v=i∨v=i+1 then 6 else v)) v:=fun v hv=>by
  by_cases a:v=6
  · rw[a,s6,si i (Or.inl rfl)];exact Con.refl _ _
  · by_cases b:v=i∨v=i+1
    · rw[si v b,s6]
      rcases b with b|b<;>rw[b]
      · exact Con.refl _ _
      · exact two
    · rw[sn v a b,sn v a b];exact Con.refl _ _
 have ed:∀ e,e∈([]:List (Nat×Nat))++[(i,i+1)]->Con ([]++[(i,i+1)]) (if e.1=6 then i else if e.1=i∨e.1=i+1 then 6 else e.1) (if e.2=6 then i else if e.2=i∨e.2=i+1 then 6 else e.2):=fun e he=>by
  rw[List.mem_singleton.1 he,si i (Or.inl rfl),si (i+1) (Or.inr rfl)]
  exact Con.refl _ _
 refine⟨ok_o.tie hi,ok_o.bt hi,fun p=>if p=6 then i else if p=i∨p=i+1 then 6 else p,fun p=>if p=6 then i else if p=i∨p=i+1 then 6 else p,⟨lt,lt,ed,ed,back,back,fun p hp=>?_,fun p hp=>?_⟩⟩
 · show Con ([]++[(i,i+1)]) (if(if p=i∨p=i+1 then 6 else p)=6 then i else if(if p=i∨p=i+1 then 6 else p)=i∨(if p=i∨p=i+1 then 6 else p)=i+1 then 6 else(if p=i∨p=i+1 then 6 else p)) p
   by_cases b:p=i∨p=i+1
   · rw[if_pos b,s6]
     rcases b with b|b<;>rw[b]
     · exact Con.refl _ _
     · exact two
   · rw[if_neg b,sn p (by omega) b];exact Con.refl _ _
 · show Con ([]++[(i,i+1)]) (if p=6 then i else if p=i∨p=i+1 then 6 else p) (if p=i∨p=i+1 then 6 else p)
   by_cases b:p=i∨p=i+1
   · rw[si p b,if_pos b];exact Con.refl _ _
   · rw[sn p (by omega) b,if_neg b];exact Con.refl _ _
theorem KW0 {S:Sy} (h:OkY S) {n i:Nat} (h5:n<=5) (h1:1<=i) (h2:i<n):kY n (btY i S)=kY n (QW0 i S):=by
 have a1:=h.f i (by omega)
 have a2:=h.b i (by omega)
 have aff:∀ u,u<S.M->(if u=S.M then S.f i else u)=u:=fun u hu=>if_neg (by omega)
 have abb:∀ u,u<S.M->(if u=S.M then S.b i else u)=u:=fun u hu=>if_neg (by omega)
 -- below: bB p; above: fT p
 have bi:(btY i S).b i=S.M:=if_pos (Or.inl rfl)
 have bj:(btY i S).b (i+1)=S.M:=if_pos (Or.inr rfl)
 have bo:∀ p,¬ (p=i∨p=i+1)->(btY i S).b p=S.b p:=fun p q=>if_neg q
 have ti:(QW0 i S).f i=S.M:=if_pos (Or.inl rfl)
 have tj:(QW0 i S).f (i+1)=S.M:=if_pos (Or.inr rfl)
 have to:∀ p,¬ (p=i∨p=i+1)->(QW0 i S).f p=S.f p:=fun p q=>if_neg q
 have B1:Con (clY n (btY i S)) (S.b i) (S.b (i+1)):=QQ9 con_last
 have B2:Con (clY n (btY i S)) (S.f i) S.M:=bi▸QW9 (btY i S) h1 (by omega)
 have B3:Con (clY n (btY i S)) (S.f (i+1)) S.M:=bj▸QW9 (btY i S) (show 1<=i+1 by omega) (by omega)
 have T1:Con (clY n (QW0 i S)) (S.f i) (S.f (i+1)):=QQ9 con_last
 have T2:Con (clY n (QW0 i S)) S.M (S.b i):=ti▸QW9 (QW0 i S) h1 (by omega)
 have T3:Con (clY n (QW0 i S)) S.M (S.b (i+1)):=tj▸QW9 (QW0 i S) (show 1<=i+1 by omega) (by omega)
 refine XY0 (Qz6 (h.bt (by omega)) h5) (Qz6 (h.tie (by omega)) h5) (fun u=>if u=S.M then S.f i else u) (fun u=>if u=S.M then S.b i else u) (fun u hu=>?_) (fun v hv=>?_) (QH5 h5 (fun e he=>?_) (fun p p1 p2=>?_) (fun p p1 p2=>?_)) (QH5 h5 (fun e he=>?_) (fun p p1 p2=>?_) (fun p p1 p2=>?_)) (fun v hv=>?_) (fun u hu=>?_)
 · show(if u=S.M then S.f i else u)<S.M+1
   have hu:u<S.M+1:=hu
   split<;>omega
 · show(if v=S.M then S.b i else v)<S.M+1
   have hv:v<S.M+1:=hv
   split<;>omega
 · show Con (clY n (QW0 i S)) (if e.1=S.M then S.f i else e.1) (if e.2=S.M then S.f i else e.2)
   have he:e∈S.E++[(S.b i,S.b (i+1))]:=he
   rcases List.mem_append.1 he with g|g
   · have:=h.e e g
     rw[aff _ this.1,aff _ this.2]
     exact QQ9 (QQ9 (Con.edge g))
   · rw[List.mem_singleton.1 g,aff _ a2,aff _ (h.b _ (by omega))]
     exact T2.symm.trans T3
 · show Con (clY n (QW0 i S)) (if S.f p=S.M then S.f i else S.f p) (if(btY i S).b p=S.M then S.f i else(btY i S).b p)
   rw[aff _ (h.f p (by omega))]
   by_cases q:p=i∨p=i+1
   · rcases q with q|q<;>rw[q]
     · rw[bi,if_pos rfl];exact Con.refl _ _
     · rw[bj,if_pos rfl];exact T1.symm
   · rw[bo p q,aff _ (h.b p (by omega))]
     have:=QW9 (QW0 i S) p1 p2
     rw[to p q]at this
     exact this
 · show Con (clY n (QW0 i S)) (if(btY i S).b p=S.M then S.f i else(btY i S).b p) (if(btY i S).b 0=S.M then S.f i else(btY i S).b 0)
   rw[bo p (by omega),bo 0 (by omega),aff _ (h.b p (by omega)),aff _ (h.b 0 (by omega))]
   exact Qz5 (QW0 i S) p1 p2
 · show Con (clY n (btY i S)) (if e.1=S.M then S.b i else e.1) (if e.2=S.M then S.b i else e.2)
   have he:e∈S.E++[(S.f i,S.f (i+1))]:=he
   rcases List.mem_append.1 he with g|g
   · have:=h.e e g
     rw[abb _ this.1,abb _ this.2]
     exact QQ9 (QQ9 (Con.edge g))
   · rw[List.mem_singleton.1 g,abb _ a1,abb _ (h.f _ (by omega))]
     exact B2.trans B3.symm
 · show Con (clY n (btY i S)) (if(QW0 i S).f p=S.M then S.b i else(QW0 i S).f p) (if S.b p=S.M then S.b i else S.b p)
   rw[abb _ (h.b p (by omega))]
   by_cases q:p=i∨p=i+1
   · rcases q with q|q<;>rw[q]
     · rw[ti,if_pos rfl];exact Con.refl _ _
     · rw[tj,if_pos rfl];exact B1
   · rw[to p q,abb _ (h.f p (by omega))]
     have:=QW9 (btY i S) p1 p2
     rw[bo p q]at this
     exact this
 · show Con (clY n (btY i S)) (if S.b p=S.M then S.b i else S.b p) (if S.b 0=S.M then S.b i else S.b 0)
   rw[abb _ (h.b p (by omega)),abb _ (h.b 0 (by omega))]
   have:=Qz5 (btY i S) p1 p2
   rw[bo p (by omega),bo 0 (by omega)]at this
   exact this
 · show Con (clY n (QW0 i S)) (if(if v=S.M then S.b i else v)=S.M then S.f i else(if v=S.M then S.b i else v)) v
   have hv:v<S.M+1:=hv
   by_cases q:v=S.M
   · rw[if_pos q,aff _ a2,q];exact T2.symm
   · rw[if_neg q,if_neg q];exact Con.refl _ _
 · show Con (clY n (btY i S)) (if(if u=S.M then S.f i else u)=S.M then S.b i else(if u=S.M then S.f i else u)) u
   have hu:u<S.M+1:=hu
   by_cases q:u=S.M
   · rw[if_pos q,abb _ a1,q];exact B2
   · rw[if_neg q,if_neg q];exact Con.refl _ _
theorem JX3 {n:Nat} (h5:n<=5) {e:Nat×Bool} {u:List (Nat×Bool)} (he:1<=e.1/\e.1<n) (hu:OkU n u):kG n (e::u)=kG n (u++[e]):=by
 unfold kG
 rw[Qz3]
 show kY n (gY u (if e.2=true then QW0 e.1 oY else oY))=kY n (if e.2=true then QW0 e.1 (gY u oY) else gY u oY)
 cases e.2 with
 |false=>rfl
 |true=>
  have a:=(Kb7 h5 u _ _ hu (KJ9 (i:=e.1) (by omega))).k h5
  have b:=(JC6 (j:=e.1) h5 (by omega) u oY hu ok_o).k h5
  have c:=KW0 (JW7 h5 u oY hu ok_o) h5 he.1 he.2
  show kY n (gY u (QW0 e.1 oY))=kY n (QW0 e.1 (gY u oY))
  exact a.trans (b.symm.trans c)
def Jk4 (S:Sy):Sy:=⟨S.f,S.b,S.E,S.M+1⟩
theorem JG8 {S:Sy} (h:OkY S) {n:Nat} (h5:n<=5):kY n (Jk4 S)=kY n S+1:=Kv9 (Qz6 h h5) (by have:=h.b 0 (by decide);omega)
theorem Zg8 {S:Sy} (h:OkY S) {n i:Nat} (h5:n<=5) (h2:i<n):kY n (QW0 i (QW0 i S))=kY n (QW0 i S)+1:=by
 have ht:=h.tie (i:=i) (by omega)
 rw[<-JG8 ht h5]
 have sw:∀ u,u<S.M->(if u=S.M then S.M+1 else if u=S.M+1 then S.M else u)=u:=fun u hu=>by rw[if_neg (by omega),if_neg (by omega)]
 have s0:(if S.M=S.M then S.M+1 else if S.M=S.M+1 then S.M else S.M)=S.M+1:=if_pos rfl
 have s1:(if S.M+1=S.M then S.M+1 else if S.M+1=S.M+1 then S.M else S.M+1)=S.M:=by rw[if_neg (by omega),if_pos rfl]
 have lt:∀ u,u<S.M+1+1->(if u=S.M then S.M+1 else if u=S.M+1 then S.M else u)<S.M+1+1:=fun u hu=>by split<;>(try split)<;>omega
 have inv:∀ u,u<S.M+1+1->(if(if u=S.M then S.M+1 else if u=S.M+1 then S.M else u)=S.M then S.M+1 else if(if u=S.M then S.M+1 else if u=S.M+1 then S.M else u)=S.M+1 then S.M else(if u=S.M then S.M+1 else if u=S.M+1 then S.M else u))=u:=fun u hu=>by
  by_cases a:u=S.M
  · rw[a,s0,s1]
  · by_cases b:u=S.M+1
    · rw[b,s1,s0]
    · rw[sw u (by omega),sw u (by omega)]
 have ti:(QW0 i S).f i=S.M:=if_pos (Or.inl rfl)
 have tj:(QW0 i S).f (i+1)=S.M:=if_pos (Or.inr rfl)
 suffices key:Eqv (QW0 i (QW0 i S)) (Jk4 (QW0 i S)) from key.k h5
 refine⟨ht.tie (by omega),⟨ht.e.mono (Nat.le_succ _),fun p hp=>Nat.lt_succ_of_lt (ht.f p hp),fun p hp=>Nat.lt_succ_of_lt (ht.b p hp)⟩,fun u=>if u=S.M then S.M+1 else if u=S.M+1 then S.M else u,fun u=>if u=S.M then S.M+1 else if u=S.M+1 then S.M else u,⟨lt,lt,fun e he=>?_,fun e he=>?_,fun v hv=>?_,fun u hu=>?_,fun p hp=>?_,fun p hp=>?_⟩⟩
 · show Con (S.E++[(S.f i,S.f (i+1))]) (if e.1=S.M then S.M+1 else if e.1=S.M+1 then S.M else e.1) (if e.2=S.M then S.M+1 else if e.2=S.M+1 then S.M else e.2)
   have he:e∈S.E++[(S.f i,S.f (i+1))]++[((QW0 i S).f i,(QW0 i S).f (i+1))]:=he
   rcases List.mem_append.1 he with g|g
   · rcases List.mem_append.1 g with g|g
     · have:=h.e e g
       rw[sw _ this.1,sw _ this.2]
       exact QQ9 (Con.edge g)
     · rw[List.mem_singleton.1 g,sw _ (h.f i (by omega)),sw _ (h.f (i+1) (by omega))]
       exact con_last
   · rw[List.mem_singleton.1 g,ti,tj];exact Con.refl _ _
 · show Con (S.E++[(S.f i,S.f (i+1))]++[((QW0 i S).f i,(QW0 i S).f (i+1))]) (if e.1=S.M then S.M+1 else if e.1=S.M+1 then S.M else e.1) (if e.2=S.M then S.M+1 else if e.2=S.M+1 then S.M else e.2)
   have he:e∈S.E++[(S.f i,S.f (i+1))]:=he
   rcases List.mem_append.1 he with g|g
   · have:=h.e e g
     rw[sw _ this.1,sw _ this.2]
     exact QQ9 (QQ9 (Con.edge g))
   · rw[List.mem_singleton.1 g,sw _ (h.f i (by omega)),sw _ (h.f (i+1) (by omega))]
     exact QQ9 con_last
 · have:=inv v hv
   simp only[this]
   exact Con.refl _ _
 · have:=inv u hu
   simp only[this]
   exact Con.refl _ _
 · show Con _ (if(if p=i∨p=i+1 then S.M+1 else if p=i∨p=i+1 then S.M else S.f p)=S.M then S.M+1 else if(if p=i∨p=i+1 then S.M+1 else if p=i∨p=i+1 then S.M else S.f p)=S.M+1 then S.M else(if p=i∨p=i+1 then S.M+1 else if p=i∨p=i+1 then S.M else S.f p)) (if p=i∨p=i+1 then S.M else S.f p)
   by_cases g:p=i∨p=i+1
   · rw[if_pos g,if_pos g,s1];exact Con.refl _ _
   · rw[if_neg g,if_neg g,sw _ (h.f p hp)];exact Con.refl _ _
 · show Con _ (if S.b p=S.M then S.M+1 else if S.b p=S.M+1 then S.M else S.b p) (S.b p)
   rw[sw _ (h.b p hp)];exact Con.refl _ _
end Go.Proofs.YtjcagkgpbcdghaaDoor
/- Closed tangles of ties: two classes at least; one place more; a braid's states are such. -/
namespace Go.Proofs.YtjcagkgpbcdghaaDoor
def VP (n v:Nat):Prop:=(1<=v/\v<=n)∨6<=v
structure Inn (n:Nat) (S:Sy):Prop where
 e:∀ e,e∈S.E->VP n e.1/\VP n e.2
 f:∀ p,1<=p->p<=n->VP n (S.f p)
 o:∀ p,p=0∨n<p->S.f p=p
 b:S.b=fun p=>p
 m:6<=S.M
theorem KY0 (n:Nat):Inn n oY:=⟨fun e he=>(by cases he),fun p a b=>Or.inl ⟨a,b⟩,fun _ _=>rfl,rfl,Nat.le_refl _⟩
theorem Inn.tie {n i:Nat} {S:Sy} (h:Inn n S) (h1:1<=i) (h2:i<n):Inn n (QW0 i S):=by
 refine⟨fun e he=>?_,fun p a b=>?_,fun p q=>?_,h.b,by have:=h.m;show 6<=S.M+1;omega⟩
 · have he:e∈S.E++[(S.f i,S.f (i+1))]:=he
   rcases List.mem_append.1 he with g|g
   · exact h.e e g
   · rw[List.mem_singleton.1 g]
     exact⟨h.f i h1 (by omega),h.f (i+1) (by omega) h2⟩
 · show VP n (if p=i∨p=i+1 then S.M else S.f p)
   split
   · exact Or.inr h.m
   · exact h.f p a b
 · show(if p=i∨p=i+1 then S.M else S.f p)=p
   rw[if_neg (by omega)]
   exact h.o p q
theorem Zx7 {n:Nat}:∀ (u:List (Nat×Bool)) (S:Sy),OkU n u->Inn n S->Inn n (gY u S)
 |[],_,_,h=>h
 |e::u,S,hu,h=>by
  refine Zx7 u _ (fun x hx=>hu x (.tail _ hx)) ?_
  have:=hu e (.head _)
  split
  · exact h.tie this.1 this.2
  · exact h
theorem OkU.up {n:Nat} {u:List (Nat×Bool)} (h:OkU n u):OkU (n+1) u:=fun e he=>by have:=h e he;omega
theorem far {n:Nat} {S:Sy} (h:Inn n S) (h5:n<=5) {v:Nat} (hv:VP n v):¬ Con (clY n S) v 0:=fun c=>by
 have k:=c (VP n) (QH5 h5 (fun e he=>⟨fun _=>(h.e e he).2,fun _=>(h.e e he).1⟩) (fun p a b=>?_) (fun p a b=>?_)) hv
 · unfold VP at k;omega
 · have:=h.f p a b
   rw[h.b]
   exact⟨fun _=>Or.inl ⟨a,b⟩,fun _=>this⟩
 · rw[h.b]
   constructor
   · intro q;simp only[VP]at q;omega
   · intro q;simp only[VP]at q;omega
theorem JG9 {E:List (Nat×Nat)} {M:Nat} (hE:InE E M) (hM:0<M):1<=kN E M:=by
 have:=ZZ9 hE (F:=[]) (n:=1) (fun e he=>by cases he) (fun _=>0) (fun _ _=>hM) (fun u v hu hv _=>by rw[show u=v by omega];exact Con.refl _ _)
 rw[Kv8]at this
 exact this
theorem Kw1 {n:Nat} (h5:n<=5) (h1:1<=n) {u:List (Nat×Bool)} (hu:OkU n u):2<=kG n u:=by
 have ok:=JW7 h5 u oY hu ok_o
 have inn:=Zx7 u oY hu (KY0 n)
 have hi:=Qz6 ok h5
 have hM:1<(gY u oY).M:=by have:=inn.m;omega
 have a:=XG8 hi hM (by omega) (far inn h5 (Or.inl ⟨Nat.le_refl _,h1⟩))
 have b:=JG9 (hi.snoc (y:=0) hM (by omega)) (by omega)
 unfold kG kY
 omega
theorem JX4 {n:Nat} (h5:n+1<=5) {u:List (Nat×Bool)} (hu:OkU n u):kG (n+1) u=kG n u+1:=by
 have ok:=JW7 (by omega) u oY hu ok_o
 have inn:=Zx7 u oY hu.up (KY0 (n+1))
 have inn0:=Zx7 u oY hu (KY0 n)
 have hi:=Qz6 ok h5
 have hi0:=Qz6 ok (show n<=5 by omega)
 have hM:=inn.m
 have a:=XG8 hi (a:=n+1) (b:=0) (by omega) (by omega) (far inn h5 (Or.inl ⟨by omega,Nat.le_refl _⟩))
 unfold kG kY
 rw[<-a]
 have e:kN (clY n (gY u oY)) (gY u oY).M=kN (clY (n+1) (gY u oY)++[(n+1,0)]) (gY u oY).M:=by
  generalize gY u oY=S at*
  have hb:=inn.b
  refine XY0 hi0 (hi.snoc (by omega) (by omega)) (fun u=>u) (fun u=>u) (fun _ h=>h) (fun _ h=>h) (QH5 (by omega) (fun e he=>QQ9 (QQ9 (Con.edge he))) (fun p p1 p2=>?_) (fun p p1 p2=>?_)) (fun e he=>?_) (fun _ _=>Con.refl _ _) (fun _ _=>Con.refl _ _)
  · exact QQ9 (QW9 S p1 (by omega))
  · by_cases q:p=n+1
    · rw[hb,q];exact con_last
    · exact QQ9 (Qz5 S (by omega) p2)
  · rcases List.mem_append.1 he with g|g
    · refine QH5 (P:=fun e=>Con (clY n S) e.1 e.2) h5 (fun e he=>QQ9 (Con.edge he)) (fun p p1 p2=>?_) (fun p p1 p2=>?_) e g
      · by_cases q:p=n+1
        · show Con _ (S.f p) (S.b p)
          rw[inn0.o p (by omega),hb];exact Con.refl _ _
        · exact QW9 S p1 (by omega)
      · exact Qz5 S (by omega) p2
    · rw[List.mem_singleton.1 g]
      have:=Qz5 S (show n<n+1 by omega) h5
      rw[hb]at this
      exact this
 rw[e]
theorem JX5 {n:Nat} (h1:1<=n) (h5:n+1<=5) {u:List (Nat×Bool)} (hu:OkU n u):kG (n+1) (u++[(n,true)])=kG n u:=by
 unfold kG
 rw[Qz3]
 show kY (n+1) (QW0 n (gY u oY))=kY n (gY u oY)
 have ok:=JW7 (by omega) u oY hu ok_o
 have inn:=Zx7 u oY hu (KY0 n)
 generalize gY u oY=S at*
 have hM:=inn.m
 have hb:=inn.b
 have fo:=inn.o (n+1) (Or.inr (Nat.lt_succ_self _))
 have hbp:∀ p,S.b p=p:=fun p=>by rw[hb]
 have ti:(QW0 n S).f n=S.M:=if_pos (Or.inl rfl)
 have tj:(QW0 n S).f (n+1)=S.M:=if_pos (Or.inr rfl)
 have to:∀ p,¬ (p=n∨p=n+1)->(QW0 n S).f p=S.f p:=fun p q=>if_neg q
 have V:∀ v,VP n v->v<S.M->(if v=S.M∨v=n+1 then n else v)=v:=fun v hv hl=>if_neg (by unfold VP at hv;omega)
 have W:∀ v,v≠n+1->(if v=n+1 then 0 else v)=v:=fun v hv=>if_neg hv
 have A1:Con (clY (n+1) (QW0 n S)) (S.f n) (n+1):=by
  have:Con (clY (n+1) (QW0 n S)) (S.f n) (S.f (n+1)):=QQ9 con_last
  rw[fo]at this;exact this
 have A2:Con (clY (n+1) (QW0 n S)) S.M n:=by
  have:=QW9 (QW0 n S) (n:=n+1) h1 (by omega)
  rw[ti]at this
  have k2:Con (clY (n+1) (QW0 n S)) S.M (S.b n):=this
  rw[hbp]at k2
  exact k2
 have A3:Con (clY (n+1) (QW0 n S)) S.M (n+1):=by
  have:=QW9 (QW0 n S) (n:=n+1) (p:=n+1) (by omega) (by omega)
  rw[tj]at this
  have k2:Con (clY (n+1) (QW0 n S)) S.M (S.b (n+1)):=this
  rw[hbp]at k2
  exact k2
 have Z1:Con (clY n S) (S.f n) n:=by
  have k2:=QW9 S h1 (Nat.le_refl _)
  rw[hbp]at k2
  exact k2
 have Z0:Con (clY n S) (n+1) 0:=by
  have:=Qz5 S (show n<n+1 by omega) h5
  rw[hbp,hbp]at this
  exact this
 have fv:∀ p,1<=p->p<=n->VP n (S.f p)/\S.f p<S.M:=fun p a b=>⟨inn.f p a b,ok.f p (by omega)⟩
 refine XY0 (Qz6 (ok.tie (by omega)) h5) (Qz6 ok (by omega)) (fun v=>if v=S.M∨v=n+1 then n else v) (fun v=>if v=n+1 then 0 else v) (fun u hu=>?_) (fun v hv=>?_) (QH5 h5 (fun e he=>?_) (fun p p1 p2=>?_) (fun p p1 p2=>?_)) (QH5 (by omega) (fun e he=>?_) (fun p p1 p2=>?_) (fun p p1 p2=>?_)) (fun v hv=>?_) (fun u hu=>?_)
 · show(if u=S.M∨u=n+1 then n else u)<S.M
   have hu:u<S.M+1:=hu
   split<;>omega
 · show(if v=n+1 then 0 else v)<S.M+1
   split<;>omega
 · show Con (clY n S) (if e.1=S.M∨e.1=n+1 then n else e.1) (if e.2=S.M∨e.2=n+1 then n else e.2)
   have he:e∈S.E++[(S.f n,S.f (n+1))]:=he
   rcases List.mem_append.1 he with g|g
   · have a:=inn.e e g
     have b:=ok.e e g
     rw[V _ a.1 b.1,V _ a.2 b.2]
     exact QQ9 (Con.edge g)
   · rw[List.mem_singleton.1 g]
     have:=fv n h1 (Nat.le_refl _)
     rw[V _ this.1 this.2,fo,if_pos (Or.inr rfl)]
     exact Z1
 · show Con (clY n S) (if(QW0 n S).f p=S.M∨(QW0 n S).f p=n+1 then n else(QW0 n S).f p) (if S.b p=S.M∨S.b p=n+1 then n else S.b p)
   rw[hbp]
   by_cases q:p=n
   · rw[q,ti,if_pos (Or.inl rfl),if_neg (by omega)];exact Con.refl _ _
   · by_cases r:p=n+1
     · rw[r,tj,if_pos (Or.inl rfl),if_pos (Or.inr rfl)];exact Con.refl _ _
     · have:=fv p p1 (by omega)
       rw[to p (by omega),V _ this.1 this.2,if_neg (by omega)]
       have k:=QW9 S p1 (show p<=n by omega)
       rw[hbp]at k
       exact k
 · show Con (clY n S) (if S.b p=S.M∨S.b p=n+1 then n else S.b p) (if S.b 0=S.M∨S.b 0=n+1 then n else S.b 0)
   rw[hbp,hbp,if_neg (by omega),if_neg (by omega)]
   have:=Qz5 S (n:=n) (p:=p) (by omega) p2
   rw[hbp,hbp]at this
   exact this
 · show Con (clY (n+1) (QW0 n S)) (if e.1=n+1 then 0 else e.1) (if e.2=n+1 then 0 else e.2)
   have a:=inn.e e he
   unfold VP at a
   rw[W _ (by omega),W _ (by omega)]
   exact QQ9 (QQ9 (Con.edge he))
 · show Con (clY (n+1) (QW0 n S)) (if S.f p=n+1 then 0 else S.f p) (if S.b p=n+1 then 0 else S.b p)
   have:=(fv p p1 p2).1
   unfold VP at this
   rw[hbp,W _ (by omega),W _ (by omega)]
   by_cases q:p=n
   · rw[q];exact A1.trans (A3.symm.trans A2)
   · have k:=QW9 (QW0 n S) (n:=n+1) (p:=p) p1 (by omega)
     rw[to p (by omega)]at k
     have k2:Con (clY (n+1) (QW0 n S)) (S.f p) (S.b p):=k
     rw[hbp]at k2
     exact k2
 · show Con (clY (n+1) (QW0 n S)) (if S.b p=n+1 then 0 else S.b p) (if S.b 0=n+1 then 0 else S.b 0)
   rw[hbp,hbp,W 0 (by omega)]
   by_cases q:p=n+1
   · rw[if_pos q];exact Con.refl _ _
   · rw[if_neg q]
     have k:=Qz5 (QW0 n S) (n:=n+1) (p:=p) (by omega) p2
     have k2:Con (clY (n+1) (QW0 n S)) (S.b p) (S.b 0):=k
     rw[hbp,hbp]at k2
     exact k2
 · show Con (clY n S) (if(if v=n+1 then 0 else v)=S.M∨(if v=n+1 then 0 else v)=n+1 then n else(if v=n+1 then 0 else v)) v
   have hv:v<S.M:=hv
   by_cases q:v=n+1
   · rw[if_pos q,if_neg (by omega),q];exact Z0.symm
   · rw[if_neg q,if_neg (by omega)];exact Con.refl _ _
 · show Con (clY (n+1) (QW0 n S)) (if(if u=S.M∨u=n+1 then n else u)=n+1 then 0 else(if u=S.M∨u=n+1 then n else u)) u
   have hu:u<S.M+1:=hu
   by_cases q:u=S.M
   · rw[if_pos (Or.inl q),if_neg (by omega),q];exact A2.symm
   · by_cases r:u=n+1
     · rw[if_pos (Or.inr r),if_neg (by omega),r];exact A2.symm.trans A3
     · have z:¬ (u=S.M∨u=n+1):=fun z=>z.elim q r
       rw[if_neg z,if_neg r];exact Con.refl _ _
def usF (l:List Int) (σ:Nat->Bool) (k:Nat):List (Nat×Bool):=(List.range k).map fun j=>((l.getD j 0).natAbs,σ j)
def gF (l:List Int) (σ:Nat->Bool) (k:Nat):Sy:=⟨lbF (fun p=>p) 6 l σ k,fun p=>p,(List.range k).map (lbE (fun p=>p) 6 l σ),6+k⟩
theorem JZ6 (l:List Int) (σ:Nat->Bool) (k:Nat):gF l σ (k+1)=if σ k=true then QW0 (l.getD k 0).natAbs (gF l σ k) else idY (gF l σ k):=by
 unfold gF QW0 idY
 rw[List.range_succ,List.map_append,List.map_cons,List.map_nil]
 cases hs:σ k with
 |true=>
  rw[if_pos rfl]
  congr 1
  · funext p
    show(if σ k=true/\_ then _ else _)=_
    rw[hs]
    simp
  · unfold lbE
    rw[if_pos hs]
 |false=>
  rw[if_neg (by decide)]
  congr 1
  · funext p
    show(if σ k=true/\_ then _ else _)=_
    rw[hs]
    simp
  · unfold lbE
    rw[if_neg (by rw[hs];decide)]
theorem Kw9 {n:Nat} (h5:n<=5) {l:List Int} (hw:QH1 n l) (σ:Nat->Bool):∀ k,k<=l.length->Eqv (gF l σ k) (gY (usF l σ k) oY)
 |0,_=>Eqv.refl ok_o
 |k+1,hk=>by
  have ih:=Kw9 h5 hw σ k (by omega)
  have hx:=hw k (by omega)
  rw[JZ6]
  unfold usF
  rw[List.range_succ,List.map_append,List.map_cons,List.map_nil,Qz3]
  show Eqv _ (if σ k=true then QW0 (l.getD k 0).natAbs (gY (usF l σ k) oY) else gY (usF l σ k) oY)
  split
  · exact ih.tie (by omega)
  · exact ih.id
theorem Jz2 {n:Nat} (h5:n<=5) {l:List Int} (hw:QH1 n l) (σ:Nat->Bool):kN (gL n l σ) (6+l.length)=kG n (usF l σ l.length):=(Kw9 h5 hw σ l.length (Nat.le_refl _)).k h5
end Go.Proofs.YtjcagkgpbcdghaaDoor
/- The bracket of a closed braid: letter by letter; around; cancelled; one strand more; never nothing. -/
namespace Go.Proofs.YtjcagkgpbcdghaaDoor
def sgL (x:Int):Int:=if 0<x then 1 else -1
theorem Xb7 (x:Int):sgL x=1∨sgL x = -1:=by unfold sgL;split<;>simp
def bsG:List Int->(List (Nat×Bool)->Int->Int)->Int->Int
 |[],F=>F []
 |x::l,F=>fun y=>bsG l (fun u=>F ((x.natAbs,false)::u)) (y-sgL x)+bsG l (fun u=>F ((x.natAbs,true)::u)) (y+sgL x)
theorem XH3 (l r:List Int) (F:List (Nat×Bool)->Int->Int):bsG (l++r) F=bsG l (fun u=>bsG r (fun v=>F (u++v))):=by
 induction l generalizing F with
 |nil=>rfl
 |cons x l ih=>
  funext y
  show bsG (l++r) _ _+bsG (l++r) _ _=_
  rw[ih,ih]
  rfl
theorem Qq0 {n:Nat}:∀ (l:List Int) (F G:List (Nat×Bool)->Int->Int),(∀ x∈l,1<=x.natAbs/\x.natAbs<n)->(∀ u,OkU n u->F u=G u)->bsG l F=bsG l G
 |[],F,G,_,h=>h [] (fun e he=>by cases he)
 |x::l,F,G,hl,h=>by
  have c:∀ t u,OkU n u->OkU n ((x.natAbs,t)::u):=fun t u hu e he=>by
   rcases List.mem_cons.1 he with q|q
   · rw[q];exact hl x (.head _)
   · exact hu e q
  funext y
  show bsG l _ _+bsG l _ _=bsG l _ _+bsG l _ _
  rw[Qq0 l _ _ (fun z hz=>hl z (.tail _ hz)) fun u hu=>h _ (c false u hu),Qq0 l _ _ (fun z hz=>hl z (.tail _ hz)) fun u hu=>h _ (c true u hu)]
theorem Xg3 (e:Int):∀ (l:List Int) (P Q:List (Nat×Bool)->Int->Int) (y:Int),bsG l (fun u y=>P u (y-e)+Q u (y+e)) y=bsG l P (y-e)+bsG l Q (y+e)
 |[],_,_,_=>rfl
 |x::l,P,Q,y=>by
  show bsG l _ _+bsG l _ _=bsG l _ _+bsG l _ _+(bsG l _ _+bsG l _ _)
  rw[Xg3 e l (fun u=>P ((x.natAbs,false)::u)) (fun u=>Q ((x.natAbs,false)::u)),Xg3 e l (fun u=>P ((x.natAbs,true)::u)) (fun u=>Q ((x.natAbs,true)::u))]
  rw[show y-sgL x-e=y-e-sgL x by omega,show y-sgL x+e=y+e-sgL x by omega,show y+sgL x-e=y-e+sgL x by omega,show y+sgL x+e=y+e+sgL x by omega]
  omega
theorem Xg4 (e:Int):∀ (l:List Int) (P:List (Nat×Bool)->Int->Int) (y:Int),bsG l (fun u y => - P u (y-e)) y = - bsG l P (y-e)
 |[],_,_=>rfl
 |x::l,P,y=>by
  show bsG l _ _+bsG l _ _ = -(bsG l _ _+bsG l _ _)
  rw[Xg4 e l (fun u=>P ((x.natAbs,false)::u)),Xg4 e l (fun u=>P ((x.natAbs,true)::u))]
  rw[show y-sgL x-e=y-e-sgL x by omega,show y+sgL x-e=y-e+sgL x by omega]
  omega
def kD (n:Nat) (u:List (Nat×Bool)):Int->Int:=dlN (kG n u-2) QJ2
def brL (n:Nat) (l:List Int):Int->Int:=bsG l (kD n)
theorem Xk1 (l:List Int) {k:Nat} (hk:k<l.length):l.take (k+1)=l.take k++[l.getD k 0]:=by
 rw[List.take_succ_eq_append_getElem hk,List.getD_eq_getElem?_getD,List.getElem?_eq_getElem hk];rfl
theorem Xk5 (l:List Int):∀ k,k<=l.length->∀ (F:List (Nat×Bool)->Int->Int) (y:Int),QX4 (2 ^ k) (fun s=>shA (exS s k) (F (usF l (sgS l s) k)) y)=bsG (l.take k) F y
 |0,_,F,y=>by
  show 0+F [] (y-0)=F [] y
  rw[Int.zero_add,Int.sub_zero]
 |k+1,hk,F,y=>by
  have ih:=Xk5 l k (by omega)
  rw[Xk1 l (by omega),XH3,ZJ3]
  show _=bsG (l.take k) (fun u y=>F (u++[((l.getD k 0).natAbs,false)]) (y-sgL (l.getD k 0))+F (u++[((l.getD k 0).natAbs,true)]) (y+sgL (l.getD k 0))) y
  rw[<-ih]
  refine QQ2 fun s hs=>?_
  have low:usF l (sgS l (2 ^ k+s)) k=usF l (sgS l s) k:=by
   unfold usF
   refine List.map_congr_left fun j hj=>?_
   unfold sgS
   rw[Zk4 (List.mem_range.1 hj)]
  have nx:∀ σ,usF l σ (k+1)=usF l σ k++[((l.getD k 0).natAbs,σ k)]:=fun σ=>by
   unfold usF
   rw[List.range_succ,List.map_append];rfl
  have e0:exS s (k+1)=exS s k-1:=by
   show exS s k+(if s / 2 ^ k%2=1 then 1 else -1)=_
   rw[XH4 hs,if_neg (by decide)];omega
  have e1:exS (2 ^ k+s) (k+1)=exS s k+1:=by
   show exS (2 ^ k+s) k+(if(2 ^ k+s) / 2 ^ k%2=1 then 1 else -1)=_
   rw[Xz2 hs,if_pos rfl,Zz9 k (Nat.le_refl _)]
  have b0:sgS l s k=decide (0<l.getD k 0):=by
   unfold sgS
   rw[XH4 hs]
   cases decide (0<l.getD k 0)<;>rfl
  have b1:sgS l (2 ^ k+s) k=!decide (0<l.getD k 0):=by
   unfold sgS
   rw[Xz2 hs]
   cases decide (0<l.getD k 0)<;>rfl
  show F (usF l (sgS l s) (k+1)) (y-exS s (k+1))+F (usF l (sgS l (2 ^ k+s)) (k+1)) (y-exS (2 ^ k+s) (k+1))=F _ (y-exS s k-_)+F _ (y-exS s k+_)
  rw[nx,nx,low,e0,e1,b0,b1]
  unfold sgL
  by_cases q:0<l.getD k 0
  · rw[decide_eq_true q,if_pos q,show y-(exS s k-1)=y-exS s k+1 by omega,show y-(exS s k+1)=y-exS s k-1 by omega,Int.add_comm]
    rfl
  · rw[decide_eq_false q,if_neg q,show y-(exS s k-1)=y-exS s k - -1 by omega,show y-(exS s k+1)=y-exS s k + -1 by omega]
    rfl
theorem JA9 {n:Nat} {l:List Int} (hw:QH1 n l) (h2:2<=n) (h5:n<=5) (h16:l.length<=16):brS (QV6 l n) (QV5 l n)=brL n l:=by
 funext y
 have st:=Xk5 l l.length (Nat.le_refl _) (kD n) y
 rw[List.take_length]at st
 unfold brL
 rw[<-st]
 unfold brS
 rw[QU7]
 refine QQ2 fun s _=>?_
 have r:=KF3 hw h2 h5 h16 s
 rw[Jz2 h5 hw]at r
 unfold kD
 rw[show rgS (QV6 l n) (QV5 l n) s-1=kG n (usF l (sgS l s) l.length)-2 by omega]
theorem JV1 {n:Nat} (h5:n<=5) {x:Int} {l:List Int} (hw:QH1 n (x::l)):brL n (x::l)=brL n (l++[x]):=by
 have hw:=wd_iff.1 hw
 have hx:=hw x (.head _)
 have hl:∀ z∈l,1<=z.natAbs/\z.natAbs<n:=fun z hz=>hw z (.tail _ hz)
 unfold brL
 rw[XH3]
 funext y
 show bsG l (fun u=>kD n ((x.natAbs,false)::u)) (y-sgL x)+bsG l (fun u=>kD n ((x.natAbs,true)::u)) (y+sgL x)=bsG l (fun u y=>kD n (u++[(x.natAbs,false)]) (y-sgL x)+kD n (u++[(x.natAbs,true)]) (y+sgL x)) y
 rw[Xg3 (sgL x) l (fun u=>kD n (u++[(x.natAbs,false)])) (fun u=>kD n (u++[(x.natAbs,true)]))]
 have c:∀ t,bsG l (fun u=>kD n ((x.natAbs,t)::u))=bsG l (fun u=>kD n (u++[(x.natAbs,t)])):=fun t=>Qq0 l _ _ hl fun u hu=>by
  unfold kD
  rw[JX3 h5 hx hu]
 rw[c,c]
theorem Zz8 (n:Nat) (u:List (Nat×Bool)) (i:Nat):kG n (u++[(i,false)])=kG n u:=by
 unfold kG
 rw[Qz3];rfl
theorem Zv7 {x:Int} (h:1<=x.natAbs):sgL (-x) = - sgL x:=by
 unfold sgL
 by_cases q:0<x
 · rw[if_pos q,if_neg (by omega)]
 · rw[if_neg q,if_pos (by omega)];rfl
theorem JA8 {n:Nat} (h5:n<=5) {x:Int} {l:List Int} (hw:QH1 n l) (hx:1<=x.natAbs/\x.natAbs<n):brL n (l++[x,-x])=brL n l:=by
 unfold brL
 rw[XH3]
 refine Qq0 l _ _ (wd_iff.1 hw) fun u hu=>?_
 funext y
 show(kD n (u++[(x.natAbs,false),((-x).natAbs,false)]) (y-sgL x-sgL (-x))+kD n (u++[(x.natAbs,false),((-x).natAbs,true)]) (y-sgL x+sgL (-x)))+(kD n (u++[(x.natAbs,true),((-x).natAbs,false)]) (y+sgL x-sgL (-x))+kD n (u++[(x.natAbs,true),((-x).natAbs,true)]) (y+sgL x+sgL (-x)))=kD n u y
 rw[Zv7 hx.1,Int.natAbs_neg]
 have e1:kG n (u++[(x.natAbs,false),(x.natAbs,false)])=kG n u:=by
  rw[show u++[(x.natAbs,false),(x.natAbs,false)]=(u++[(x.natAbs,false)])++[(x.natAbs,false)] by simp,Zz8,Zz8]
 have e2:kG n (u++[(x.natAbs,false),(x.natAbs,true)])=kG n (u++[(x.natAbs,true)]):=by
  unfold kG
  rw[Qz3,Qz3];rfl
 have e3:kG n (u++[(x.natAbs,true),(x.natAbs,false)])=kG n (u++[(x.natAbs,true)]):=by
  unfold kG
  rw[Qz3,Qz3];rfl
 have e4:kG n (u++[(x.natAbs,true),(x.natAbs,true)])=kG n (u++[(x.natAbs,true)])+1:=by
  unfold kG
  rw[Qz3,Qz3]
  exact Zg8 (JW7 h5 u oY hu ok_o) h5 hx.2
 have k2 := Kw1 h5 (by omega) (u := u ++ [(x.natAbs, true)]) (fun e he => by
  rcases List.mem_append.1 he with q|q
  · exact hu e q
  · rw[List.mem_singleton.1 q];exact hx)
 unfold kD
 rw[e1,e2,e3,e4,show kG n (u++[(x.natAbs,true)])+1-2=(kG n (u++[(x.natAbs,true)])-2)+1 by omega]
 generalize kG n (u++[(x.natAbs,true)])-2=K
 show dlN _ QJ2 _+dlN K QJ2 _+(dlN K QJ2 _+(- dlN K QJ2 (_+2)-dlN K QJ2 (_-2)))=_
 rcases Xb7 x with q|q<;>rw[q]
 · rw[show y-1 - -1=y by omega,show y-1 + -1=y+1 + -1-2 by omega,show y+1 - -1=y+1 + -1+2 by omega];omega
 · rw[show y - -1 - - -1=y by omega,show y - -1 + - -1=y + -1 + - -1+2 by omega,show y + -1 - - -1=y + -1 + - -1-2 by omega];omega
theorem Zd9 {n:Nat} (h5:n<=5):∀ (v w:List Int),QH1 n v->QH1 n w->brL n (v++w++QV3 v)=brL n w
 |[],w,_,_=>by
  show brL n (w++[])=_
  rw[List.append_nil]
 |x::v,w,hv,hw=>by
  have hv1:=wd_iff.1 hv
  have hx:=hv1 x (.head _)
  have hv2:QH1 n v:=wd_iff.2 fun z hz=>hv1 z (.tail _ hz)
  have hu:=QA9 (QA9 hv2 hw) (Xx6 hv2)
  have e:x::v++w++QV3 (x::v)=x::(v++w++QV3 v++[-x]):=by
   unfold QV3
   simp
  have hm:QH1 n [-x]:=wd_iff.2 fun z hz=>by rw[List.mem_singleton.1 hz,Int.natAbs_neg];exact hx
  have hx1:QH1 n [x]:=wd_iff.2 fun z hz=>by rw[List.mem_singleton.1 hz];exact hx
  have hc:QH1 n (x::(v++w++QV3 v++[-x])):=by
   have:=QA9 hx1 (QA9 hu hm)
   exact this
  rw[e,JV1 h5 hc,List.append_assoc]
  have o:=JA8 h5 (x := -x) hu (by rw[Int.natAbs_neg];exact hx)
  rw[Int.neg_neg]at o
  exact o.trans (Zd9 h5 v w hv2 hw)
theorem JV3 {n:Nat} (h1:1<=n) (h5:n+1<=5) {x:Int} {l:List Int} (hw:QH1 n l) (hx:x.natAbs=n) (y:Int):brL (n+1) (l++[x]) y = - brL n l (y-3*sgL x):=by
 unfold brL
 rw[XH3,<-Xg4]
 refine congrFun (Qq0 (n:=n) l _ _ (wd_iff.1 hw) fun u hu=>?_) y
 funext y
 show kD (n+1) (u++[(x.natAbs,false)]) (y-sgL x)+kD (n+1) (u++[(x.natAbs,true)]) (y+sgL x) = - kD n u (y-3*sgL x)
 have k2:=Kw1 (show n<=5 by omega) h1 hu
 unfold kD
 rw[Zz8,JX4 h5 hu,hx,JX5 h1 h5 hu,show kG n u+1-2=(kG n u-2)+1 by omega]
 generalize kG n u-2=K
 show(- dlN K QJ2 (_+2)-dlN K QJ2 (_-2))+dlN K QJ2 _=_
 rcases Xb7 x with q|q<;>rw[q]
 · rw[show y-1+2=y+1 by omega,show y-1-2=y-3*1 by omega];omega
 · rw[show y - -1+2=y-3 * -1 by omega,show y - -1-2=y + -1 by omega];omega
end Go.Proofs.YtjcagkgpbcdghaaDoor
/- The bracket of a closed braid is never nothing: its coefficients' sum, by threes. -/
namespace Go.Proofs.YtjcagkgpbcdghaaDoor
def tmF (L:List (Int×Int)) (y:Int):Int:=(L.map fun t=>if t.1=y then t.2 else 0).sum
def tmS (L:List (Int×Int)):Int:=(L.map fun t=>t.2).sum
theorem Zj9 (L R:List (Int×Int)) (y:Int):tmF (L++R) y=tmF L y+tmF R y:=by
 unfold tmF
 rw[List.map_append,List.sum_append]
theorem Zj8 (L R:List (Int×Int)):tmS (L++R)=tmS L+tmS R:=by
 unfold tmS
 rw[List.map_append,List.sum_append]
theorem Zj6 (e:Int):∀ L:List (Int×Int),tmS L=tmF L e+tmS (L.filter fun t=>decide (t.1≠e))/\∀ y,y≠e->tmF (L.filter fun t=>decide (t.1≠e)) y=tmF L y
 |[]=>⟨rfl,fun _ _=>rfl⟩
 |t::L=>by
  obtain⟨i1,i2⟩:=Zj6 e L
  have a:tmS (t::L)=t.2+tmS L:=rfl
  have b:∀ y,tmF (t::L) y=(if t.1=y then t.2 else 0)+tmF L y:=fun _=>rfl
  by_cases q:t.1=e
  · rw[List.filter_cons_of_neg (by simpa using q),a,b,if_pos q]
    refine⟨by omega,fun y hy=>?_⟩
    rw[b,if_neg (by omega),i2 y hy,Int.zero_add]
  · rw[List.filter_cons_of_pos (by simpa using q),a,b,if_neg q]
    refine⟨?_,fun y hy=>?_⟩
    · show _=0+tmF L e+(t.2+tmS _)
      omega
    · rw[b]
      show(if t.1=y then t.2 else 0)+tmF _ y=_
      rw[i2 y hy]
theorem Zj7:∀ (n:Nat) (L:List (Int×Int)),L.length<=n->(∀ y,tmF L y=0)->tmS L=0
 |0,L,hn,_=>by
  obtain rfl:=List.length_eq_zero_iff.1 (show L.length=0 by omega)
  rfl
 |n+1,[],_,_=>rfl
 |n+1,t::L,hn,h=>by
  obtain⟨i1,i2⟩:=Zj6 t.1 (t::L)
  rw[i1,h]
  have hl:((t::L).filter fun s=>decide (s.1≠t.1)).length<=n:=by
   rw[List.filter_cons_of_neg (by simp)]
   have:=List.length_filter_le (fun s:Int×Int=>decide (s.1≠t.1)) L
   have hn:L.length+1<=n+1:=hn
   omega
  rw [Zj7 n _ hl fun y => by
   by_cases q:y=t.1
   · rw[q]
     unfold tmF
     have z:∀ R:List (Int×Int),(∀ s∈R,s.1≠t.1)->(R.map fun s=>if s.1=t.1 then s.2 else 0).sum=0:=fun R=>by
      induction R with
      |nil=>intro _;rfl
      |cons s R ih=>
       intro hR
       rw[List.map_cons,List.sum_cons,if_neg (hR s (.head _)),ih fun x hx=>hR x (.tail _ hx)]
       rfl
     refine z _ fun s hs=>?_
     have:=(List.mem_filter.1 hs).2
     exact of_decide_eq_true this
   · rw[i2 y q,h]]
  rfl
def By3 (f:Int->Int) (c:Int):Prop:=∃ L,(∀ y,f y=tmF L y)/\(tmS L-c)%3=0
theorem By3.some {f:Int->Int} {c:Int} (h:By3 f c) (hc:c%3≠0):∃ y,f y≠0:=by
 obtain⟨L,h1,h2⟩:=h
 refine Classical.byContradiction fun hn=>?_
 have:=Zj7 L.length L (Nat.le_refl _) fun y=>by
  rw[<-h1]
  exact Classical.byContradiction fun q=>hn ⟨y,q⟩
 rw[this]at h2
 omega
theorem ZZ1 (e a:Int):∀ L:List (Int×Int),(∀ y,tmF (L.map fun t=>(t.1+e,a*t.2)) y=a*tmF L (y-e))/\tmS (L.map fun t=>(t.1+e,a*t.2))=a*tmS L
 |[]=>⟨fun _=>(Int.mul_zero a).symm,(Int.mul_zero a).symm⟩
 |t::L=>by
  obtain⟨i1,i2⟩:=ZZ1 e a L
  constructor
  · intro y
    show(if t.1+e=y then a*t.2 else 0)+tmF (L.map _) y=a*((if t.1=y-e then t.2 else 0)+tmF L (y-e))
    rw[i1,Int.mul_add]
    congr 1
    by_cases q:t.1+e=y
    · rw[if_pos q,if_pos (by omega)]
    · rw[if_neg q,if_neg (by omega),Int.mul_zero]
  · show a*t.2+tmS (L.map _)=a*(t.2+tmS L)
    rw[i2,Int.mul_add]
theorem By3.sh {f:Int->Int} {c:Int} (h:By3 f c) (e:Int):By3 (fun y=>f (y-e)) c:=by
 obtain⟨L,h1,h2⟩:=h
 obtain⟨m1,m2⟩:=ZZ1 e 1 L
 refine⟨L.map fun t=>(t.1+e,1*t.2),fun y=>?_,?_⟩
 · show f (y-e)=_
   rw[m1,Int.one_mul,h1]
 · rw[m2,Int.one_mul];exact h2
theorem By3.add {f g:Int->Int} {c d:Int} (h:By3 f c) (h':By3 g d):By3 (fun y=>f y+g y) (c+d):=by
 obtain⟨L,h1,h2⟩:=h
 obtain⟨R,g1,g2⟩:=h'
 refine⟨L++R,fun y=>?_,?_⟩
 · show f y+g y=_
   rw[Zj9,h1,g1]
 · rw[Zj8];omega
theorem By3.dl {f:Int->Int} {c:Int} (h:By3 f c):By3 (dlA f) c:=by
 obtain⟨L,h1,h2⟩:=h
 obtain⟨m1,m2⟩:=ZZ1 2 (-1) L
 obtain⟨n1,n2⟩:=ZZ1 (-2) (-1) L
 refine⟨(L.map fun t=>(t.1 + -2,-1*t.2))++L.map fun t=>(t.1+2,-1*t.2),fun y=>?_,?_⟩
 · rw[Zj9,m1,n1]
   show-f (y+2)-f (y-2)=_
   rw[h1,h1,show y - -2=y+2 by omega]
   omega
 · rw[Zj8,m2,n2];omega
theorem JV0 : By3 QJ2 1 := ⟨[(0, 1)], fun y => by
 show(if y=0 then(1:Int) else 0)=(if(0:Int)=y then 1 else 0)+0
 by_cases q:y=0
 · rw[if_pos q,if_pos q.symm];rfl
 · rw[if_neg q,if_neg fun e=>q e.symm];rfl,rfl⟩
theorem Zd7:∀ n,By3 (dlN n QJ2) 1
 |0=>JV0
 |n+1=>(Zd7 n).dl
theorem Zk3:∀ (l:List Int) (F:List (Nat×Bool)->Int->Int),(∀ u,By3 (F u) 1)->∃ c,c%3≠0/\By3 (bsG l F) c/\c=2 ^ l.length
 |[],F,h=>⟨1,by decide,h [],rfl⟩
 |x::l,F,h=>by
  obtain⟨c,c1,c2,c3⟩:=Zk3 l (fun u=>F ((x.natAbs,false)::u)) fun u=>h _
  obtain⟨d,d1,d2,d3⟩:=Zk3 l (fun u=>F ((x.natAbs,true)::u)) fun u=>h _
  have a:=(c2.sh (sgL x)).add (d2.sh (-sgL x))
  refine⟨c+d,by omega,?_,?_⟩
  · have e : bsG (x :: l) F = fun y => bsG l (fun u => F ((x.natAbs, false) :: u)) (y - sgL x) + bsG l (fun u => F ((x.natAbs, true) :: u)) (y - -sgL x) := by
      funext y
      rw[show y - -sgL x=y+sgL x by omega]
      rfl
    rw[e]
    exact a
  · rw[c3,d3,List.length_cons,Int.pow_succ];omega
theorem JV2 (n:Nat) (l:List Int):∃ y,brL n l y≠0:=by
 obtain⟨c,c1,c2,-⟩:=Zk3 l (kD n) fun u=>Zd7 _
 exact c2.some c1
end Go.Proofs.YtjcagkgpbcdghaaDoor
/- The walks of knotworkkeep.recip and join. -/
namespace Go.Proofs.YtjcagkgpbcdghaaDoor
open Go.RowKit
set_option maxHeartbeats 8000000
set_option maxRecDepth 100000
theorem QA0 (a:List Int):(QV3 a).length=a.length:=by unfold QV3;simp
theorem KQ6 (a:List Int) (k:Nat) (h:k<a.length):(QV3 a).take (k+1)=(QV3 a).take k++[-a.getD (a.length-1-k) 0]:=by
 rw[List.take_succ_eq_append_getElem (by rw[QA0];exact h)]
 congr 2
 unfold QV3
 rw[List.getElem_reverse,List.getElem_map,List.getD_eq_getElem?_getD,List.getElem?_eq_getElem (by omega)]
 simp
theorem ZF9 (a1 : Option Addr) (c1 : Nat) (a : List Int) (w : World) (la : a.length ≤ 20) (sa : ∀ i, -6 ≤ a.getD i 0 ∧ a.getD i 0 ≤ 6) (h : RdAt w w.heap.size 1 (.slice a1 a.length c1) a.length (QQ3 a)) :
    Calls Tryd.prog 8 #[.slice a1 a.length c1] w fun e w'=>∃ a3 c3,e=.returned (.slice a3 a.length c3)/\w'.ownsRow w.heap.size 3 1 (.slice a3 a.length c3) a.length (QQ3 (QV3 a))/\Below w.heap.size w w':=by
 obtain⟨i2,hk,hx0,hx1,hx2⟩:=info_parts QB7
 have H1:Hid (RdAt w w.heap.size 1 (.slice a1 a.length c1) a.length (QQ3 a)):=h
 have HSA:Hid (∀ i,-6<=a.getD i 0/\a.getD i 0<=6):=sa
 have HNX:Hid (∀ k,k<a.length->(QV3 a).take (k+1)=(QV3 a).take k++[-a.getD (a.length-1-k) 0]):=fun k hk=>KQ6 a k hk
 have HLN:Hid (∀ k,k<=a.length->((QV3 a).take k).length=k):=fun k hk=>by rw[List.length_take,QA0];omega
 have HAL:Hid ((QV3 a).take a.length=QV3 a):=(by rw[<-QA0 a,List.take_length]:(QV3 a).take a.length=QV3 a)
 obtain⟨n,hn⟩:∃ n,a.length=n:=⟨_,rfl⟩
 have HN:Hid (a.length=n):=hn
 rw[hn]at la HNX HLN HAL ⊢
 clear h sa hn
 have ew0:IntKind.i64.wrap ((n:Int)-1)=(n:Int)-1:=IntWalk.i64_in _ (by omega)
 go_enter Tryd.func8,Tryd.ntmps8
 go_wp2
 go_loopw [3,4] (fun v3 v4 wr=>∃ (k:Nat) (a3:Option Addr) (c3:Nat),k<=n/\v4=.int .i64 ((n:Int)-1-(k:Int))/\v3=.slice a3 k c3/\Hid (wr.ownsRow w.heap.size 3 1 (.slice a3 k c3) k (QQ3 ((QV3 a).take k)))/\Hid (Below w.heap.size w wr)) (fun _ v4 _=>(intOf v4+1).toNat)
 case atStart=>exact⟨0,none,0,Nat.zero_le _,by congr 1;omega,rfl,World.ownsRow_nil _ _ _ _,Below.refl _ _⟩
 case round=>
  rename World=>W2
  obtain⟨k,a3,c3,hkn,rfl,rfl,hp,hb⟩:=hrel
  by_cases hkl:k<n
  · obtain⟨j,hj⟩:∃ j:Nat,n - 1 - k=j:=⟨_,rfl⟩
    have HJ:Hid (n-1-k=j):=hj
    have hjI:(n:Int)-1-(k:Int)=(j:Int):=by omega
    rw[hjI]
    have hjn:j<n:=by omega
    have hjI2:(j:Int)<(n:Int):=by omega
    obtain⟨b2,off2,ea2,hlt2,hc2⟩:=(H1.out.on hb.out).intAt j (by rw[HN.out];exact hjn)
    have lb2:b2<W2.heap.size:=Nat.lt_of_lt_of_le hlt2 hb.out.size
    have hx6:=HSA.out j
    have hnx:=HNX.out k hkl
    rw[hj]at hnx
    generalize a.getD j 0=x at hc2 hx6 hnx
    have HNN:Hid ((QV3 a).take (k+1)=(QV3 a).take k++[-x]):=hnx
    have HOW:Hid (W2.ownsRow w.heap.size 3 1 (.slice a3 k c3) k (QQ3 ((QV3 a).take k))):=hp.out
    have HBW:Hid (Below w.heap.size w W2):=hb.out
    have HKL:=HLN.out k hkn
    subst ea2
    have ew1:IntKind.i64.wrap ((j:Int)-1)=(j:Int)-1:=IntWalk.i64_in _ (by omega)
    have ew2:IntKind.i64.wrap (-x) = -x:=IntWalk.i64_in _ (by omega)
    clear hp hb hnx hj hjI hlt2 ew0
    go_wp2_with (first
     |(at_builtin;refine wpList_append_own _ rfl _ _ 22 rfl w.heap.size 3 i2 (.int .i64 0) 1 8 Tryd.underlying22 hk hx0 hx1 hx2 rfl (by decide) _ k (QQ3 ((QV3 a).take k)) rfl (HOW.out.alloc _) ⟨W2.heap.size,0,none⟩ 1 1 [.int .i64 (-x)] rfl rfl (QG1 _ _ _) (XH9 (-x)) (by unfold maxLen;omega) (by omega) (by have:=HBW.out.size;simp;omega) ?_;intro v8 w8 hown8 hg8 _;refine Hid.out ?_))
    refine Lib.hid ?_
    have hpu:=XZ1 (l:=(QV3 a).take k) (x := -x) HBW.out (by rw[HKL];exact HOW.out) (by rw[HKL];exact hown8) hg8
    rw[<-HNN.out,HLN.out (k+1) (by omega)]at hpu
    obtain⟨a8,c8,rfl⟩:=QZ7 hpu.1
    have HF1:Hid (w8.ownsRow w.heap.size 3 1 (.slice a8 (k+1) c8) (k+1) (QQ3 ((QV3 a).take (k+1)))):=hpu.1
    have HF2:Hid (Below w.heap.size w w8):=hpu.2
    clear hpu hown8 hg8
    go_wp2
    go_roundw
    case rel=>exact⟨k+1,a8,c8,by omega,by congr 1;have:=HJ.out;omega,rfl,HF1.out,HF2.out⟩
    case measure=>simp only[intOf];omega
  · obtain rfl:n=k:=by omega
    rw[HAL.out]at hp
    have hd:decide (0<=(n:Int)-1-(n:Int))=false:=by simp;omega
    go_wp2
    go_ret
    exact⟨a3,c3,rfl,hp.out,hb.out⟩
def XW5 (T:Nat->List Int):Nat->List Int
 |0=>[]
 |i+1=>XW5 T i++T i
theorem ZQ7 (a b:List Int):QQ3 a++QQ3 b=QQ3 (a++b):=by unfold QQ3;simp
theorem ZU0 (g c k : Nat) (V : Nat → Value) (T : Nat → List Int) (w : World) (hk3 : k ≤ 3) (hT : ∀ i, i ≤ k → (XW5 T i).length ≤ 100 ∧ (T i).length ≤ 100) (h : ∀ i, i < k → w.cell? ⟨g, i, none⟩ = some (V i) ∧ InAt w w.heap.size 1 (V i) (T i).length (QQ3 (T i))) (hg : g < w.heap.size) :
    Calls Tryd.prog 7 #[.slice (some ⟨g,0,none⟩) k c] w fun e w'=>∃ a2 c2,e=.returned (.slice a2 (XW5 T k).length c2)/\w'.ownsRow w.heap.size 3 1 (.slice a2 (XW5 T k).length c2) (XW5 T k).length (QQ3 (XW5 T k))/\Below w.heap.size w w':=by
 obtain⟨i2,hk,hx0,hx1,hx2⟩:=info_parts QB7
 have HV:Hid (∀ W i,Below w.heap.size w W->i<k->W.cell? ⟨g,i,none⟩=some (V i)/\InAt W w.heap.size 1 (V i) (T i).length (QQ3 (T i))):=fun W i hW hi=>⟨bcell hW hg (h i hi).1,(h i hi).2.on hW⟩
 have HG:Hid (g<w.heap.size):=hg
 have HTL:Hid (∀ i,i<=k->(XW5 T i).length<=100/\(T i).length<=100):=hT
 clear h hg hT
 go_enter Tryd.func7,Tryd.ntmps7
 go_wp2
 go_loopw [3,4] (fun v3 v4 wr=>∃ (i:Nat) (a3:Option Addr) (n c3:Nat),i<=k/\v4=.int .i64 (i:Nat)/\v3=.slice a3 n c3/\Hid (n=(XW5 T i).length)/\Hid (wr.ownsRow w.heap.size 3 1 (.slice a3 n c3) n (QQ3 (XW5 T i)))/\Hid (Below w.heap.size w wr)) (fun _ v4 _=>k-(intOf v4).toNat)
 case atStart=>exact⟨0,none,0,0,Nat.zero_le _,rfl,rfl,rfl,World.ownsRow_nil _ _ _ _,Below.refl _ _⟩
 case round=>
  rename World=>W2
  obtain⟨i,a3,n,c3,hik,rfl,rfl,hn,hp,hb⟩:=hrel
  by_cases hkl:i<k
  · have hdI:decide ((i:Int)<(k:Int))=true:=decide_eq_true (by omega)
    have hiI:(i:Int)<(k:Int):=by omega
    obtain⟨hc,hin⟩:=HV.out W2 i hb.out hkl
    have HIN:Hid (InAt W2 w.heap.size 1 (V i) (T i).length (QQ3 (T i))):=hin
    have hlg:g<W2.heap.size:=Nat.lt_of_lt_of_le HG.out hb.out.size
    have htl:=(HTL.out i hik).2
    have hcl:=(HTL.out i hik).1
    have HON:=ZA7 (T i)
    have HLN:Hid ((QQ3 (T i)).length=(T i).length):=XK3 (T i)
    have HC1:Hid (QQ3 (XW5 T i)++QQ3 (T i)=QQ3 (XW5 T (i+1))):=ZQ7 _ _
    have HC2:Hid (n+(T i).length=(XW5 T (i+1)).length):=(by rw[hn.out];show _=(XW5 T i++T i).length;rw[List.length_append]:n+(T i).length=(XW5 T (i+1)).length)
    have hn100:n<=100:=by rw[hn.out];exact hcl
    generalize V i=v at hc HIN
    generalize (T i).length=m at*
    clear hin hn hcl
    go_wp2_with (first
     |(at_builtin;refine QC1 rfl _ _ 22 rfl w.heap.size 3 i2 (.int .i64 0) 1 8 Tryd.underlying22 hk hx0 hx1 hx2 rfl (by decide) _ n (QQ3 (XW5 T i)) rfl hp.out _ w.heap.size m (QQ3 (T i)) rfl HIN.out (by rw[HLN.out,Nat.mul_one]) HON (by unfold maxLen;omega) (by omega) hb.out.size ?_;intro v8 w8 hown8 hg8;refine Hid.out ?_))
    refine Lib.hid ?_
    have hbl:=hb.out.grown hg8 hb.out.size (fun q hq=>(hp.out.lt q hq).1)
    rw[HC1.out]at hown8
    obtain⟨a8,c8,rfl⟩:=QZ7 hown8
    have HF1:Hid (w8.ownsRow w.heap.size 3 1 (.slice a8 (n+m) c8) (n+m) (QQ3 (XW5 T (i+1)))):=hown8
    have HF2:Hid (Below w.heap.size w w8):=hbl
    clear hown8 hg8 hbl
    go_wp2
    go_roundw
    case rel=>exact⟨i+1,a8,n+m,c8,by omega,by go_num,rfl,HC2.out,HF1.out,HF2.out⟩
    case measure=>simp only[intOf];omega
  · obtain rfl:k=i:=by omega
    have hdI:decide ((k:Int)<(k:Int))=false:=decide_eq_false (by omega)
    have HFN:Hid (W2.ownsRow w.heap.size 3 1 (.slice a3 (XW5 T k).length c3) (XW5 T k).length (QQ3 (XW5 T k))):=(by have:=hp.out;rw[hn.out]at this;exact this)
    go_wp2
    go_ret
    exact⟨a3,c3,by rw[<-hn.out];rfl,HFN.out,hb.out⟩
end Go.Proofs.YtjcagkgpbcdghaaDoor

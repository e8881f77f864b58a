/- Several texts of the proof, one behind the other. -/
import Derived.Test.YtjcagkgpbcdghaaDoorW3P
import Derived.Test.YtjcagkgpbcdghaaDoorBaseP
/- Lists of twists: which may be; the walks of tangle.size, ref.abs, tangle.refusal and ref.ListMay. -/
namespace Go.Proofs.YtjcagkgpbcdghaaDoor
open Go.RowKit
def wide (x:Int):Bool:=decide (x < -16)||decide (16<x)
theorem RdAt.intAt {w : World} {B : Nat} {a : Option Addr} {cap : Nat} {l : List Int} (h : RdAt w B 1 (.slice a l.length cap) l.length (QQ3 l)) (k : Nat) (hk : k < l.length) :
    ∃ b off,a=some ⟨b,off,none⟩/\b<B/\w.cell? ⟨b,off+k,none⟩=some (.int .i64 (l.getD k 0)):=by
 obtain⟨a',cap',e,f⟩:=h
 injection e with e1 e2 e3
 obtain⟨b,off,eb,hlt,hc⟩:=f (by omega)
 refine⟨b,off,e1.trans eb,hlt,(hc k (by omega)).trans ?_⟩
 simp[QQ3,List.getD,hk]
end Go.Proofs.YtjcagkgpbcdghaaDoor
/- Tables of numbers that are read. -/
namespace Go.Proofs.YtjcagkgpbcdghaaDoor
open Go.RowKit
def IntsRd (w:World) (B:Nat) (v:Value) (L:List (List Int)):Prop:=∃ ys:List Value,ys.length=L.length/\RdAt w B 1 v L.length ys/\∀ j,j<L.length->RdAt w B 1 (ys.getD j (.bool false)) (L.getD j []).length (QQ3 (L.getD j []))
theorem IntsRd.on {w w':World} {B:Nat} {v:Value} {L:List (List Int)} (h:IntsRd w B v L) (hb:Below B w w'):IntsRd w' B v L:=by
 obtain⟨ys,hy,h1,h2⟩:=h
 exact⟨ys,hy,h1.on hb,fun j hj=>(h2 j hj).on hb⟩
theorem IntsRd.up {w w':World} {v:Value} {L:List (List Int)} (h:IntsRd w w.heap.size v L) (hb:Below w.heap.size w w'):IntsRd w' w'.heap.size v L:=by
 obtain⟨ys,hy,h1,h2⟩:=h
 exact⟨ys,hy,(h1.on hb).mono hb.size,fun j hj=>((h2 j hj).on hb).mono hb.size⟩
theorem IntsRd.len {w:World} {B:Nat} {v:Value} {L:List (List Int)} (h:IntsRd w B v L):∃ a cap,v=.slice a L.length cap:=by
 obtain⟨ys,hy,⟨a,cap,e,-⟩,h2⟩:=h
 exact⟨a,cap,e⟩
theorem IntsRd.row {w : World} {B : Nat} {a : Option Addr} {cap : Nat} {L : List (List Int)} (h : IntsRd w B (.slice a L.length cap) L) (j : Nat) (hj : j < L.length) :
    ∃ b off ar cr,a=some ⟨b,off,none⟩/\b<B/\w.cell? ⟨b,off+j,none⟩=some (.slice ar (L.getD j []).length cr)/\RdAt w B 1 (.slice ar (L.getD j []).length cr) (L.getD j []).length (QQ3 (L.getD j [])):=by
 obtain⟨ys,hy,⟨a',cap',e,f⟩,h2⟩:=h
 injection e with e1 e2 e3
 obtain⟨b,off,eb,hlt,hc⟩:=f (by omega)
 have hr:=h2 j hj
 obtain⟨ar,cr,er,-⟩:=hr
 have hr:=h2 j hj
 rw[er]at hr
 refine⟨b,off,ar,cr,e1.trans eb,hlt,?_,hr⟩
 rw[hc j (by omega),<-er]
 simp[List.getD,hy,hj]
end Go.Proofs.YtjcagkgpbcdghaaDoor
/- What is wrong with words: the walks of braid.refusal and of what it calls. -/
namespace Go.Proofs.YtjcagkgpbcdghaaDoor
open Go.RowKit
set_option maxHeartbeats 4000000
set_option maxRecDepth 100000
def Qj6 (n:Int) (L:List (List Int)):Int:=if n<2∨6<n then 3 else if L.any (fun w=>w.any (QY4 n)) then 3 else if L.any (fun w=>decide (20<w.length)) then 2 else 0
theorem ZB8 (n:Int) (w:List Int):Qj6 n [w]=Qf1 n w:=by
 unfold Qj6 Qf1
 simp
theorem Xq4 (l:List Int) (p:Int->Bool) (i:Nat) (hi:i<l.length):(l.take (i+1)).any p=((l.take i).any p||p (l.getD i 0)):=by
 rw[List.take_succ_eq_append_getElem hi,List.any_append,List.getD_eq_getElem?_getD,List.getElem?_eq_getElem hi]
 simp
theorem any_some (l:List Int) (p:Int->Bool) (i:Nat) (hi:i<l.length) (h:p (l.getD i 0)=true):l.any p=true:=
 List.any_eq_true.2 ⟨l.getD i 0,by rw[List.getD_eq_getElem?_getD,List.getElem?_eq_getElem hi];exact List.getElem_mem hi,h⟩
theorem Qk0 (L:List (List Int)) (p:List Int->Bool) (i:Nat) (hi:i<L.length):(L.take (i+1)).any p=((L.take i).any p||p (L.getD i [])):=by
 rw[List.take_succ_eq_append_getElem hi,List.any_append,List.getD_eq_getElem?_getD,List.getElem?_eq_getElem hi]
 simp
theorem Xw9 (L:List (List Int)) (p:List Int->Bool) (i:Nat) (hi:i<L.length) (h:p (L.getD i [])=true):L.any p=true:=
 List.any_eq_true.2 ⟨L.getD i [],by rw[List.getD_eq_getElem?_getD,List.getElem?_eq_getElem hi];exact List.getElem_mem hi,h⟩
theorem KG5 (x n : Int) (g : Nat) (w : World) (h2 : 2 ≤ n) (h6 : n ≤ 6) (hg : w.heap[g]? = some (.cells #[.int .i64 n] 3 (0, 0))) :
    Calls Tryd.prog 48 #[.int .i64 x,.pointer (some ⟨g,0,none⟩)] w fun e w'=>e=.returned (.bool (QY4 n x))/\w'=w:=by
 have c0:w.cell? ⟨g,0,none⟩=some (.int .i64 n):=QQ0 hg rfl
 have l0:g<w.heap.size:=(Array.getElem?_eq_some_iff.1 hg).1
 clear hg
 by_cases e0:x=0
 · have HR:Hid (QY4 n x=true):=(by unfold QY4;simp[e0]:QY4 n x=true)
   go_enter Tryd.func48,Tryd.ntmps48
   go_wp2
   go_ret
   exact⟨by rw[HR.out];rfl,rfl⟩
 · have e0b:(x==0)=false:=beq_eq_false_iff_ne.2 e0
   by_cases e1:x <= -n
   · have HR:Hid (QY4 n x=true):=(by unfold QY4;simp[e1]:QY4 n x=true)
     go_enter Tryd.func48,Tryd.ntmps48
     go_wp2
     go_ret
     exact⟨by rw[HR.out];rfl,rfl⟩
   · by_cases e2:n<=x
     · have HR:Hid (QY4 n x=true):=(by unfold QY4;simp[e2]:QY4 n x=true)
       go_enter Tryd.func48,Tryd.ntmps48
       go_wp2
       go_ret
       exact⟨by rw[HR.out];rfl,rfl⟩
     · have HR:Hid (QY4 n x=false):=(by unfold QY4;simp[e0,e1,e2]:QY4 n x=false)
       go_enter Tryd.func48,Tryd.ntmps48
       go_wp2
       go_ret
       exact⟨by rw[HR.out];rfl,rfl⟩
theorem Xu8 (a : Option Addr) (cap : Nat) (l : List Int) (n : Int) (g : Nat) (w : World) (h2 : 2 ≤ n) (h6 : n ≤ 6) (hl : l.length ≤ 140737488355328) (hg : w.heap[g]? = some (.cells #[.int .i64 n] 3 (0, 0))) (h : RdAt w w.heap.size 1 (.slice a l.length cap) l.length (QQ3 l)) :
    Calls Tryd.prog 64 #[.slice a l.length cap,.func (.func 48) #[] #[.pointer (some ⟨g,0,none⟩)]] w fun e w'=>∃ r:Int,e=.returned (.int .i64 r)/\decide (0<=r)=l.any (QY4 n)/\w'=w:=by
 have HR:Hid (RdAt w w.heap.size 1 (.slice a l.length cap) l.length (QQ3 l)):=h
 have HG:Hid (w.heap[g]?=some (.cells #[.int .i64 n] 3 (0,0))):=hg
 obtain⟨m,hm⟩:∃ m,l.length=m:=⟨_,rfl⟩
 have HM:Hid (l.length=m):=hm
 rw[hm]at hl ⊢
 clear h hg hm
 go_enter Tryd.func64,Tryd.ntmps64
 go_wp2
 go_loopw [8] (fun v8 wr=>∃ i:Nat,i<=m/\v8=.int .i64 (i:Nat)/\Hid ((l.take i).any (QY4 n)=false)/\wr=w) (fun v8 _=>m-(intOf v8).toNat)
 case atStart=>exact⟨0,Nat.zero_le _,rfl,rfl,rfl⟩
 case round=>
  obtain⟨i,him,rfl,hno,rfl⟩:=hrel
  by_cases hil:i<m
  · have hiI:(i:Int)<(m:Int):=by omega
    have hr:=HR.out
    rw[HM.out]at hr
    obtain⟨b,off,ea,hb,hc⟩:=HR.out.intAt i (by rw[HM.out];exact hil)
    have HX:Hid ((l.take (i+1)).any (QY4 n)=((l.take i).any (QY4 n)||QY4 n (l.getD i 0))):=Xq4 l _ i (by rw[HM.out];exact hil)
    have HS:Hid (QY4 n (l.getD i 0)=true->l.any (QY4 n)=true):=fun q=>any_some l _ i (by rw[HM.out];exact hil) q
    generalize l.getD i 0=x at hc HX HS
    subst ea
    have HN:Hid (Calls Tryd.prog 48 #[.int .i64 x,.pointer (some ⟨g,0,none⟩)] wr fun e w'=>e=.returned (.bool (QY4 n x))/\w'=wr):=KG5 x n g wr h2 h6 HG.out
    clear hr
    cases hb0:QY4 n x with
    |true=>
     have HA:Hid (l.any (QY4 n)=true):=HS.out hb0
     rw[hb0]at HN
     clear hb0 HS HX
     go_wp2_with (go_at_call 48;refine HN.out.mono ?_;rintro e9 w9 ⟨rfl,rfl⟩;refine Hid.out ?_)
     refine Lib.hid ?_
     go_wp2
     go_ret
     exact⟨_,rfl,by rw[HA.out];exact decide_eq_true (by omega),rfl⟩
    |false=>
     have HA:Hid ((l.take (i+1)).any (QY4 n)=false):=(by rw[HX.out,hno.out,hb0];rfl:(l.take (i+1)).any (QY4 n)=false)
     rw[hb0]at HN
     clear hb0 HS HX
     go_wp2_with (go_at_call 48;refine HN.out.mono ?_;rintro e9 w9 ⟨rfl,rfl⟩;refine Hid.out ?_)
     refine Lib.hid ?_
     go_wp2
     go_roundw
     case rel=>exact⟨i+1,by omega,by go_num,HA.out,by first|trivial|rfl⟩
     case measure=>simp only[intOf];omega
  · obtain rfl:i=m:=by omega
    have HA:Hid (l.any (QY4 n)=false):=(by have:=hno.out;rw[<-HM.out,List.take_length]at this;exact this:l.any (QY4 n)=false)
    go_wp2
    go_ret
    exact⟨_,rfl,by rw[HA.out];rfl,rfl⟩
theorem XW0 (a : Option Addr) (cap : Nat) (l : List Int) (n : Int) (g : Nat) (w : World) (h2 : 2 ≤ n) (h6 : n ≤ 6) (hl : l.length ≤ 140737488355328) (hg : w.heap[g]? = some (.cells #[.int .i64 n] 3 (0, 0))) (h : RdAt w w.heap.size 1 (.slice a l.length cap) l.length (QQ3 l)) :
    Calls Tryd.prog 49 #[.slice a l.length cap,.func (.func 48) #[] #[.pointer (some ⟨g,0,none⟩)]] w fun e w'=>e=.returned (.bool (l.any (QY4 n)))/\w'=w:=by
 have HI:Hid (Calls Tryd.prog 64 #[.slice a l.length cap,.func (.func 48) #[] #[.pointer (some ⟨g,0,none⟩)]] w fun e w'=>∃ r:Int,e=.returned (.int .i64 r)/\decide (0<=r)=l.any (QY4 n)/\w'=w):=Xu8 a cap l n g w h2 h6 hl hg h
 clear h hg
 generalize l.any (QY4 n)=bb at HI ⊢
 generalize l.length=m at HI hl ⊢
 go_enter Tryd.func49,Tryd.ntmps49
 go_wp2_with (go_at_call 64;refine HI.out.mono ?_;rintro e9 w2 ⟨r,rfl,hr,rfl⟩;refine Hid.out ?_)
 refine Lib.hid ?_
 have HR:Hid (decide (0<=r)=bb):=hr
 clear hr
 go_wp2
 go_ret
 exact⟨by rw[<-HR.out];rfl,rfl⟩
theorem Xh9 (v : Value) (L : List (List Int)) (n : Int) (w : World) (hL : L.length ≤ 1000) (hl : ∀ j, j < L.length → (L.getD j []).length ≤ 140737488355328) (h : IntsRd w w.heap.size v L) :
    Calls Tryd.prog 23 #[.int .i64 n,v] w fun e w'=>e=.returned (.int .i64 (Qj6 n L))/\Below w.heap.size w w':=by
 obtain⟨a,cap,rfl⟩:=h.len
 have HI:Hid (IntsRd w w.heap.size (.slice a L.length cap) L):=h
 have HLL:Hid (∀ j,j<L.length->(L.getD j []).length<=140737488355328):=hl
 obtain⟨Y,hY⟩:∃ Y,Y=w.alloc (.cells #[.int .i64 n] 3):=⟨_,rfl⟩
 have HY:Hid (Y=w.alloc (.cells #[.int .i64 n] 3)):=hY
 have HBY:Hid (Below w.heap.size w Y):=(by rw[hY];exact(Below.refl _ _).alloc (Nat.le_refl _) _:Below w.heap.size w Y)
 have HT:Hid (Y.heap[w.heap.size]?=some (.cells #[.int .i64 n] 3 (0,0))):=(by rw[hY];exact alloc_at rfl:Y.heap[w.heap.size]?=some (.cells #[.int .i64 n] 3 (0,0)))
 have HIY:Hid (IntsRd Y Y.heap.size (.slice a L.length cap) L):=HI.out.up HBY.out
 have c0:Y.cell? ⟨w.heap.size,0,none⟩=some (.int .i64 n):=QQ0 HT.out rfl
 have l0:w.heap.size<Y.heap.size:=(Array.getElem?_eq_some_iff.1 HT.out).1
 obtain⟨m,hm⟩:∃ m,L.length=m:=⟨_,rfl⟩
 have HM:Hid (L.length=m):=hm
 rw[hm]at hL ⊢
 clear h hl hY hm
 by_cases hn:n<2∨6<n
 · have HW:Hid (Qj6 n L=3):=(by unfold Qj6;rw[if_pos hn]:Qj6 n L=3)
   rcases hn with h1|h1
   · go_enter Tryd.func23,Tryd.ntmps23
     go_wp2
     rw[<-HY.out]
     go_ret
     exact⟨by rw[HW.out];rfl,HBY.out⟩
   · have h1':¬ n<2:=by omega
     go_enter Tryd.func23,Tryd.ntmps23
     go_wp2
     rw[<-HY.out]
     go_ret
     exact⟨by rw[HW.out];rfl,HBY.out⟩
 · have h2:2<=n:=by omega
   have h6:n<=6:=by omega
   have HW:Hid (Qj6 n L=if L.any (fun w=>w.any (QY4 n)) then 3 else if L.any (fun w=>decide (20<w.length)) then 2 else 0):=(by unfold Qj6;rw[if_neg hn]:Qj6 n L=if L.any (fun w=>w.any (QY4 n)) then 3 else if L.any (fun w=>decide (20<w.length)) then 2 else 0)
   clear hn
   go_enter Tryd.func23,Tryd.ntmps23
   go_wp2
   rw[<-HY.out]
   clear c0
   go_loopw [19] (fun v19 wr=>∃ i:Nat,i<=m/\v19=.int .i64 (i:Nat)/\Hid ((L.take i).any (fun w=>w.any (QY4 n))=false)/\wr=Y) (fun v19 _=>m-(intOf v19).toNat)
   case atStart=>exact⟨0,Nat.zero_le _,rfl,rfl,rfl⟩
   case round=>
    obtain⟨i,him,rfl,hno,rfl⟩:=hrel
    by_cases hil:i<m
    · have hiI:(i:Int)<(m:Int):=by omega
      have hiL:i<L.length:=by rw[HM.out];exact hil
      obtain⟨b,off,ar,cr,ea,hb,hc,hrd⟩:=HIY.out.row i hiL
      have HX:Hid ((L.take (i+1)).any (fun w=>w.any (QY4 n))=((L.take i).any (fun w=>w.any (QY4 n))||(L.getD i []).any (QY4 n))):=Qk0 L _ i hiL
      have HS:Hid ((L.getD i []).any (QY4 n)=true->L.any (fun w=>w.any (QY4 n))=true):=fun q=>Xw9 L _ i hiL q
      have HC:Hid (Calls Tryd.prog 49 #[.slice ar (L.getD i []).length cr,.func (.func 48) #[] #[.pointer (some ⟨w.heap.size,0,none⟩)]] wr fun e w'=>e=.returned (.bool ((L.getD i []).any (QY4 n)))/\w'=wr):=XW0 ar cr (L.getD i []) n w.heap.size wr h2 h6 (HLL.out i hiL) HT.out hrd
      subst ea
      clear hrd hiL
      generalize (L.getD i []).length=q at hc HC
      cases hb0:(L.getD i []).any (QY4 n) with
      |true=>
       have HA:Hid (L.any (fun w=>w.any (QY4 n))=true):=HS.out hb0
       rw[hb0]at HC
       clear hb0 HS HX
       go_wp2_with (go_at_call 49;refine HC.out.mono ?_;rintro e9 w9 ⟨rfl,rfl⟩;refine Hid.out ?_)
       refine Lib.hid ?_
       go_wp2
       go_ret
       exact⟨by rw[HW.out,HA.out];rfl,HBY.out⟩
      |false=>
       have HA:Hid ((L.take (i+1)).any (fun w=>w.any (QY4 n))=false):=(by rw[HX.out,hno.out,hb0];rfl:(L.take (i+1)).any (fun w=>w.any (QY4 n))=false)
       rw[hb0]at HC
       clear hb0 HS HX
       go_wp2_with (go_at_call 49;refine HC.out.mono ?_;rintro e9 w9 ⟨rfl,rfl⟩;refine Hid.out ?_)
       refine Lib.hid ?_
       go_wp2
       go_roundw
       case rel=>exact⟨i+1,by omega,by go_num,HA.out,by first|trivial|rfl⟩
       case measure=>simp only[intOf];omega
    · obtain rfl:i=m:=by omega
      have HA:Hid (L.any (fun w=>w.any (QY4 n))=false):=(by have:=hno.out;rw[<-HM.out,List.take_length]at this;exact this:L.any (fun w=>w.any (QY4 n))=false)
      clear hno hil
      go_wp2
      go_loopw [29] (fun v29 w'=>∃ k:Nat,k<=i/\v29=.int .i64 (k:Nat)/\Hid ((L.take k).any (fun w=>decide (20<w.length))=false)/\w'=wr) (fun v29 _=>i-(intOf v29).toNat)
      case atStart=>exact⟨0,Nat.zero_le _,rfl,rfl,rfl⟩
      case round=>
       obtain⟨k,hkm,rfl,hno2,rfl⟩:=hrel
       by_cases hkl:k<i
       · have hkI:(k:Int)<(i:Int):=by omega
         have hkL:k<L.length:=by rw[HM.out];exact hkl
         obtain⟨b,off,ar,cr,ea,hb,hc,-⟩:=HIY.out.row k hkL
         have HX:Hid ((L.take (k+1)).any (fun w=>decide (20<w.length))=((L.take k).any (fun w=>decide (20<w.length))||decide (20<(L.getD k []).length))):=Qk0 L _ k hkL
         have HS:Hid (decide (20<(L.getD k []).length)=true->L.any (fun w=>decide (20<w.length))=true):=fun q=>Xw9 L _ k hkL q
         have hql:=HLL.out k hkL
         subst ea
         clear hkL
         generalize (L.getD k []).length=q at hc HX HS hql
         by_cases hq:20<q
         · have HAA:Hid (L.any (fun w=>decide (20<w.length))=true):=HS.out (decide_eq_true hq)
           have hqI:(20:Int)<(q:Int):=by omega
           clear HS HX
           go_wp2
           go_ret
           exact⟨by rw[HW.out,HA.out,HAA.out];rfl,HBY.out⟩
         · have HAA:Hid ((L.take (k+1)).any (fun w=>decide (20<w.length))=false):=(by rw[HX.out,hno2.out,decide_eq_false hq];rfl:(L.take (k+1)).any (fun w=>decide (20<w.length))=false)
           have hqI:¬ (20:Int)<(q:Int):=by omega
           clear HS HX
           go_wp2
           go_roundw
           case rel=>exact⟨k+1,by omega,by go_num,HAA.out,by first|trivial|rfl⟩
           case measure=>simp only[intOf];omega
       · obtain rfl:k=i:=by omega
         have HAA:Hid (L.any (fun w=>decide (20<w.length))=false):=(by have:=hno2.out;rw[<-HM.out,List.take_length]at this;exact this:L.any (fun w=>decide (20<w.length))=false)
         go_wp2
         go_ret
         exact⟨by rw[HW.out,HA.out,HAA.out];rfl,HBY.out⟩
end Go.Proofs.YtjcagkgpbcdghaaDoor
/- The walk of the law's ints: a copy of a list of numbers. -/
namespace Go.Proofs.YtjcagkgpbcdghaaDoor
open Go.RowKit
theorem ZA7 (l:List Int):∀ u∈QQ3 l,u.oneCell'=true:=by
 intro u hu
 simp only[QQ3,List.mem_map]at hu
 obtain⟨x,-,rfl⟩:=hu
 rfl
theorem InAt.rdI {w:World} {B size n:Nat} {v:Value} {xs:List Value} (h:InAt w B size v n xs):RdAt w B size v n xs:=by
 rcases h with⟨rfl,rfl⟩|⟨ad,cap,rfl,rfl⟩|⟨b,off,cap,rfl,hlt,hc⟩
 · exact⟨none,0,rfl,fun h=>absurd h (Nat.lt_irrefl 0)⟩
 · exact⟨some ad,cap,rfl,fun h=>absurd h (Nat.lt_irrefl 0)⟩
 · exact⟨_,cap,rfl,fun _=>⟨b,off,rfl,hlt,hc⟩⟩
end Go.Proofs.YtjcagkgpbcdghaaDoor
/- Plain mathematics: edges and the edges that cross them; where Euler's number is that of spheres, a set of edges that comes to each corner an even number of times is the boundary of a set of faces. -/
namespace Go.Proofs.YtjcagkgpbcdghaaDoor
def xs (g:Nat->Bool):Nat->Bool
 |0=>false
 |m+1=>xor (xs g m) (g m)
theorem QH6 {g h:Nat->Bool} {m:Nat} (e:∀ i,i<m->g i=h i):xs g m=xs h m:=by
 induction m with
 |zero=>rfl
 |succ m ih=>simp only[xs];rw[ih fun i hi=>e i (by omega),e m (by omega)]
theorem XQ5 {g:Nat->Bool} {m:Nat} (e:∀ i,i<m->g i=false):xs g m=false:=by
 induction m with
 |zero=>rfl
 |succ m ih=>simp only[xs];rw[ih fun i hi=>e i (by omega),e m (by omega)];rfl
theorem Kz7 (g h:Nat->Bool) (m:Nat):xs (fun i=>xor (g i) (h i)) m=xor (xs g m) (xs h m):=by
 induction m with
 |zero=>rfl
 |succ m ih=>
  simp only[xs]
  rw[ih]
  cases xs g m<;>cases xs h m<;>cases g m<;>cases h m<;>rfl
theorem Zj1 {g:Nat->Bool} {m i:Nat} (hi:i<m) (hg:g i=true) (lo:∀ j,j<i->g j=false) (hi2:∀ j,i<j->j<m->g j=false):xs g m=true:=by
 induction m with
 |zero=>omega
 |succ m ih=>
  simp only[xs]
  by_cases e:i=m
  · subst e
    rw[XQ5 lo,hg];rfl
  · rw[ih (by omega) fun j h1 h2=>hi2 j h1 (by omega),hi2 m (by omega) (by omega)];rfl
def Xy7 (g:Nat->Bool):Nat->Nat
 |0=>0
 |m+1=>Xy7 g m+(if g m=true then 1 else 0)
theorem Kq7 (g:Nat->Bool) (m:Nat):Xy7 g m+Xy7 (fun i=>!g i) m=m:=by
 induction m with
 |zero=>rfl
 |succ m ih=>
  simp only[Xy7]
  by_cases h:g m=true
  · simp[h];omega
  · simp[h];omega
theorem JJ5 {g h:Nat->Bool} {m:Nat} (e:∀ i,i<m->g i=true->h i=true):Xy7 g m<=Xy7 h m:=by
 induction m with
 |zero=>exact Nat.le_refl _
 |succ m ih=>
  have h1:=ih fun i hi=>e i (by omega)
  simp only[Xy7]
  by_cases hg:g m=true
  · rw[if_pos hg,if_pos (e m (by omega) hg)];omega
  · rw[if_neg hg];omega
theorem KV7 {g h:Nat->Bool} {m:Nat} (e:∀ i,i<m->g i=true->h i=true) (hc:Xy7 h m<=Xy7 g m):∀ i,i<m->h i=true->g i=true:=by
 induction m with
 |zero=>intro i hi;omega
 |succ m ih=>
  have h1:=JJ5 (m:=m) fun i hi=>e i (by omega)
  simp only[Xy7]at hc
  intro i hi hh
  by_cases hg:g m=true
  · have h2:=e m (by omega) hg
    rw[if_pos hg,if_pos h2]at hc
    by_cases ei:i=m
    · rw[ei];exact hg
    · exact ih (fun i hi=>e i (by omega)) (by omega) i (by omega) hh
  · rw[if_neg hg]at hc
    by_cases h2:h m=true
    · rw[if_pos h2]at hc;omega
    · rw[if_neg h2]at hc
      by_cases ei:i=m
      · rw[ei]at hh;exact absurd hh h2
      · exact ih (fun i hi=>e i (by omega)) (by omega) i (by omega) hh
def Qj4 (E:Nat->Nat×Nat) (K:Nat->Bool):Nat->List (Nat×Nat)
 |0=>[]
 |m+1=>Qj4 E K m++(if K m=true then [E m] else [])
theorem incl_mem {E:Nat->Nat×Nat} {K:Nat->Bool} {m:Nat} {e:Nat×Nat}:e∈Qj4 E K m↔∃ i,i<m/\K i=true/\e=E i:=by
 induction m with
 |zero=>simp[Qj4]
 |succ m ih=>
  simp only[Qj4,List.mem_append,ih]
  constructor
  · rintro(⟨i,h1,h2,h3⟩|h)
    · exact⟨i,by omega,h2,h3⟩
    · by_cases hk:K m=true
      · rw[if_pos hk]at h
        exact⟨m,by omega,hk,List.mem_singleton.1 h⟩
      · rw[if_neg hk]at h;cases h
  · rintro⟨i,h1,h2,h3⟩
    by_cases e2:i=m
    · subst e2
      exact Or.inr (by rw[if_pos h2,h3];exact List.mem_singleton.2 rfl)
    · exact Or.inl ⟨i,by omega,h2,h3⟩
def cls (E:Nat->Nat×Nat) (K:Nat->Bool) (n m:Nat):List Nat:=QF5 (List.range n) (Qj4 E K m)
theorem QU8 {E:Nat->Nat×Nat} {K:Nat->Bool} {n m:Nat} (hE:∀ i,i<m->(E i).1<n/\(E i).2<n):Least (Qj4 E K m) n (cls E K n m):=by
 have h := Qb4 n (Qj4 E K m) [] (List.range n) (fun e he => by
  obtain⟨i,h1,-,rfl⟩:=incl_mem.1 (by simpa using he)
  exact hE i h1) (QC8 n)
 simpa[cls] using h
theorem Qh3 {E:Nat->Nat×Nat} {K:Nat->Bool} {n m:Nat} (h:K m=true):cls E K n (m+1)=mer (cls E K n m) (E m).1 (E m).2:=by
 unfold cls
 simp only[Qj4]
 rw[if_pos h,ZW5]
 rfl
theorem ZY2 {E:Nat->Nat×Nat} {K:Nat->Bool} {n m:Nat} (h:¬ K m=true):cls E K n (m+1)=cls E K n m:=by
 unfold cls
 simp only[Qj4]
 rw[if_neg h,List.append_nil]
theorem Qg5 {W:List Nat} {x y:Nat} (h:W.getD x 0=W.getD y 0):mer W x y=W:=by
 unfold mer
 rw[h]
 have:∀ z:Nat,(if z=max (W.getD y 0) (W.getD y 0) then min (W.getD y 0) (W.getD y 0) else z)=z:=fun z=>by
  split<;>omega
 simp only[this]
 exact List.map_id' W
def rt (W:List Nat):Nat->Nat
 |0=>0
 |k+1=>rt W k+(if W.getD k 0=k then 1 else 0)
theorem JF1 (n:Nat):∀ k,k<=n->rt (List.range n) k=k:=by
 intro k
 induction k with
 |zero=>intro _;rfl
 |succ k ih=>
  intro hk
  have e:(List.range n).getD k 0=k:=by simp[List.getD_eq_getElem?_getD,show k<n by omega]
  simp only[rt]
  rw[ih (by omega),if_pos e]
theorem JF0 {Ed:List (Nat×Nat)} {n:Nat} {W:List Nat} (h:Least Ed n W) {x y:Nat} (hx:x<n) (hy:y<n) (hne:W.getD x 0≠W.getD y 0):∀ k,k<=n->rt (mer W x y) k+(if max (W.getD x 0) (W.getD y 0)<k then 1 else 0)=rt W k:=by
 have rx:=h.root hx
 have ry:=h.root hy
 intro k
 induction k with
 |zero=>intro _;simp[rt]
 |succ k ih=>
  intro hk
  have i1:=ih (by omega)
  have hm:=QC0 W x y k (by rw[h.1];omega)
  simp only[rt]
  by_cases he:k=max (W.getD x 0) (W.getD y 0)
  · have hroot : W.getD k 0 = k := by
      rcases Nat.le_total (W.getD x 0) (W.getD y 0) with hle|hle
      · have:k=W.getD y 0:=by omega
        rw[this];exact ry
      · have:k=W.getD x 0:=by omega
        rw[this];exact rx
    rw[if_pos (by rw[hroot];exact he)]at hm
    rw[if_neg (by omega)]at i1
    rw[if_pos hroot,if_neg (by rw[hm];omega),if_pos (by omega)]
    omega
  · by_cases hr:W.getD k 0=k
    · rw[if_neg (by rw[hr];exact he)]at hm
      rw[if_pos hr,if_pos (by rw[hm];exact hr)]
      by_cases hq:max (W.getD x 0) (W.getD y 0)<k
      · rw[if_pos hq]at i1
        rw[if_pos (by omega)]
        omega
      · rw[if_neg hq]at i1
        rw[if_neg (by omega)]
        omega
    · have h2 : ¬ (mer W x y).getD k 0 = k := by
        rw[hm]
        have hle:=h.le (v:=k) (by omega)
        have hlx:=h.lt hx
        split
        · rename_i q
          intro e
          rcases Nat.le_total (W.getD x 0) (W.getD y 0) with hle2|hle2
          · have e1:k=W.getD x 0:=by omega
            exact hr (by rw[e1];exact rx)
          · have e1:k=W.getD y 0:=by omega
            exact hr (by rw[e1];exact ry)
        · exact hr
      rw[if_neg hr,if_neg h2]
      by_cases hq:max (W.getD x 0) (W.getD y 0)<k
      · rw[if_pos hq]at i1
        rw[if_pos (by omega)]
        omega
      · rw[if_neg hq]at i1
        rw[if_neg (by omega)]
        omega
def Xx1 (E:Nat->Nat×Nat) (K:Nat->Bool) (n i:Nat):Bool:=K i&&decide ((cls E K n i).getD (E i).1 0≠(cls E K n i).getD (E i).2 0)
theorem Zw1 {E:Nat->Nat×Nat} {K:Nat->Bool} {n m:Nat} (hE:∀ i,i<m->(E i).1<n/\(E i).2<n):rt (cls E K n m) n+Xy7 (Xx1 E K n) m=n:=by
 induction m with
 |zero=>simp[cls,Qj4,QF5,Xy7,JF1 n n (Nat.le_refl _)]
 |succ m ih=>
  have h1:=ih fun i hi=>hE i (by omega)
  have hL:=QU8 (E:=E) (K:=K) (n:=n) (m:=m) fun i hi=>hE i (by omega)
  simp only[Xy7]
  by_cases hk:K m=true
  · rw[Qh3 hk]
    by_cases hne:(cls E K n m).getD (E m).1 0=(cls E K n m).getD (E m).2 0
    · rw[Qg5 hne,if_neg (by simp[Xx1,hne,-List.getD_eq_getElem?_getD])]
      omega
    · have h2:=JF0 hL (hE m (by omega)).1 (hE m (by omega)).2 hne n (Nat.le_refl _)
      rw[if_pos (by have:=hL.lt (hE m (by omega)).1;have:=hL.lt (hE m (by omega)).2;omega)]at h2
      rw[if_pos (by simp[Xx1,hk,hne,-List.getD_eq_getElem?_getD])]
      omega
  · rw[ZY2 hk,if_neg (by simp[Xx1,hk])]
    omega
theorem XV5 {E : Nat → Nat × Nat} {K B : Nat → Bool} {n m : Nat} (hE : ∀ i, i < m → (E i).1 < n ∧ (E i).2 < n) (hF : ∀ i, i < m → K i = true → Xx1 E K n i = true) (hB : ∀ i, i < m → B i = true → K i = true)
    (hev:∀ S:Nat->Bool,xs (fun i=>B i&&xor (S (E i).1) (S (E i).2)) m=false):∀ i,i<m->B i=false:=by
 have key:∀ d i,i<m->m<=i+d->B i=false:=by
  intro d
  induction d with
  |zero=>intro i h1 h2;omega
  |succ d ih=>
   intro i h1 h2
   by_cases hb:B i=true
   · exfalso
     have hn:=hF i h1 (hB i h1 hb)
     have hL:=QU8 (E:=E) (K:=K) (n:=n) (m:=i) fun j hj=>hE j (by omega)
     have h3 := Zj1 (g := fun j => B j && xor (decide ((cls E K n i).getD (E j).1 0 = (cls E K n i).getD (E i).1 0)) (decide ((cls E K n i).getD (E j).2 0 = (cls E K n i).getD (E i).1 0))) h1 (by
      simp only[Xx1,Bool.and_eq_true,decide_eq_true_eq]at hn
      have:¬ (cls E K n i).getD (E i).2 0=(cls E K n i).getD (E i).1 0:=fun e=>hn.2 e.symm
      simp[hb,this,-List.getD_eq_getElem?_getD]) (fun j hj=>by
      by_cases hbj:B j=true
      · have hs:(cls E K n i).getD (E j).1 0=(cls E K n i).getD (E j).2 0:=(hL.same (hE j (by omega)).1 (hE j (by omega)).2).2 (Con.edge (incl_mem.2 ⟨j,hj,hB j (by omega) hbj,rfl⟩))
        simp only[hs,Bool.xor_self,Bool.and_false]
      · simp[hbj]) (fun j h4 h5=>by
      rw[ih j h5 (by omega)];rfl)
     have h4:=hev fun v=>decide ((cls E K n i).getD v 0=(cls E K n i).getD (E i).1 0)
     rw[h3]at h4
     cases h4
   · simpa using hb
 exact fun i hi=>key m i hi (by omega)
theorem JH4 {E:Nat->Nat×Nat} {n:Nat} {K:Nat->Bool} (hK:∀ i,K i=Xx1 E (fun _=>true) n i):∀ m,cls E K n m=cls E (fun _=>true) n m:=by
 intro m
 induction m with
 |zero=>rfl
 |succ m ih=>
  rw[Qh3 (K:=fun _=>true) rfl]
  by_cases hk:K m=true
  · rw[Qh3 hk,ih]
  · rw[ZY2 hk,ih]
    rw[hK m]at hk
    simp only[Xx1,Bool.true_and,decide_eq_true_eq,Classical.not_not]at hk
    exact(Qg5 hk).symm
theorem JJ2 {E:Nat->Nat×Nat} {K:Nat->Bool} {m:Nat} (h:∀ i,i<m->Con (Qj4 E K m) (E i).1 (E i).2) {x y:Nat}:Con (Qj4 E K m) x y↔Con (Qj4 E (fun _=>true) m) x y:=by
 constructor
 · intro hc S hS hx
   exact hc S (fun e he => hS e (by
    obtain⟨i,h1,-,h3⟩:=incl_mem.1 he
    exact incl_mem.2 ⟨i,h1,rfl,h3⟩)) hx
 · intro hc S hS hx
   refine hc S (fun e he=>?_) hx
   obtain⟨i,h1,-,rfl⟩:=incl_mem.1 he
   exact⟨fun q=>h i h1 S hS q,fun q=>(h i h1).symm S hS q⟩
theorem Xh4 {E D : Nat → Nat × Nat} {m n f : Nat} (hE : ∀ i, i < m → (E i).1 < n ∧ (E i).2 < n) (hD : ∀ i, i < m → (D i).1 < f ∧ (D i).2 < f)
    (hX:∀ S g:Nat->Bool,xs (fun i=>xor (S (E i).1) (S (E i).2)&&xor (g (D i).1) (g (D i).2)) m=false)
    (hEu:m+rt (cls E (fun _=>true) n m) n+rt (cls D (fun _=>true) f m) f<=n+f)
    (A:Nat->Bool) (hA:∀ S:Nat->Bool,xs (fun i=>A i&&xor (S (E i).1) (S (E i).2)) m=false):
    ∃ g:Nat->Bool,∀ i,i<m->A i=xor (g (D i).1) (g (D i).2):=by
 obtain⟨T,hT⟩:∃ T:Nat->Bool,∀ i,T i=Xx1 D (fun _=>true) f i:=⟨_,fun _=>rfl⟩
 have hg:=JH4 hT
 have hTF:∀ i,i<m->T i=true->Xx1 D T f i=true:=fun i _ h=>by
  have h2:=h
  rw[hT i]at h2
  simp only[Xx1,Bool.true_and]at h2
  simp only[Xx1,h,Bool.true_and]
  rw[hg i]
  exact h2
 -- the faces along the forest
 have step:∀ k,k<=m->∃ g:Nat->Bool,∀ i,i<k->T i=true->A i=xor (g (D i).1) (g (D i).2):=by
  intro k
  induction k with
  |zero=>intro _;exact⟨fun _=>false,fun i hi=>by omega⟩
  |succ k ih=>
   intro hk
   obtain⟨g,hgk⟩:=ih (by omega)
   by_cases hq:T k=true/\A k≠xor (g (D k).1) (g (D k).2)
   · have hn:=hTF k (by omega) hq.1
     simp only[Xx1,hq.1,Bool.true_and,decide_eq_true_eq]at hn
     have hL:=QU8 (E:=D) (K:=T) (n:=f) (m:=k) fun j hj=>hD j (by omega)
     refine⟨fun v=>xor (g v) (decide ((cls D T f k).getD v 0=(cls D T f k).getD (D k).2 0)),fun i hi ht=>?_⟩
     by_cases e:i=k
     · subst e
       have h2:=hq.2
       simp only[hn,decide_false,decide_true]
       revert h2
       cases A i<;>cases g (D i).1<;>cases g (D i).2<;>simp
     · have hs:(cls D T f k).getD (D i).1 0=(cls D T f k).getD (D i).2 0:=(hL.same (hD i (by omega)).1 (hD i (by omega)).2).2 (Con.edge (incl_mem.2 ⟨i,by omega,ht,rfl⟩))
       have h1:=hgk i (by omega) ht
       simp only[hs]
       rw[h1]
       cases g (D i).1<;>cases g (D i).2<;>cases (decide ((cls D T f k).getD (D i).2 0=(cls D T f k).getD (D k).2 0))<;>rfl
   · refine⟨g,fun i hi ht=>?_⟩
     by_cases e:i=k
     · subst e
       exact Classical.byContradiction fun h=>hq ⟨ht,h⟩
     · exact hgk i (by omega) ht
 obtain⟨g,hgm⟩:=step m (Nat.le_refl _)
 refine⟨g,?_⟩
 -- the others join all corners
 have hcon:∀ i,i<m->(cls E (fun j=>!T j) n m).getD (E i).1 0=(cls E (fun j=>!T j) n m).getD (E i).2 0:=by
  intro i hi
  have hL:=QU8 (E:=E) (K:=fun j=>!T j) (n:=n) (m:=m) hE
  refine Classical.byContradiction fun hne=>?_
  have h1 := XV5 (E := D) (K := T) (B := fun j => xor (decide ((cls E (fun j => !T j) n m).getD (E j).1 0 = (cls E (fun j => !T j) n m).getD (E i).1 0)) (decide ((cls E (fun j => !T j) n m).getD (E j).2 0 = (cls E (fun j => !T j) n m).getD (E i).1 0))) hD hTF (fun j hj hb => by
   refine Classical.byContradiction fun ht=>?_
   have hs:(cls E (fun j=>!T j) n m).getD (E j).1 0=(cls E (fun j=>!T j) n m).getD (E j).2 0:=(hL.same (hE j hj).1 (hE j hj).2).2 (Con.edge (incl_mem.2 ⟨j,hj,by simpa using ht,rfl⟩))
   simp only[hs,Bool.xor_self]at hb
   cases hb) (fun S=>hX (fun v=>decide ((cls E (fun j=>!T j) n m).getD v 0=(cls E (fun j=>!T j) n m).getD (E i).1 0)) S) i hi
  have:¬ (cls E (fun j=>!T j) n m).getD (E i).2 0=(cls E (fun j=>!T j) n m).getD (E i).1 0:=fun e=>hne e.symm
  simp[this,-List.getD_eq_getElem?_getD]at h1
 have hLK:=QU8 (E:=E) (K:=fun j=>!T j) (n:=n) (m:=m) hE
 have hLA:=QU8 (E:=E) (K:=fun _=>true) (n:=n) (m:=m) hE
 have heq:cls E (fun j=>!T j) n m=cls E (fun _=>true) n m:=by
  have hc:∀ {x y:Nat},Con (Qj4 E (fun j=>!T j) m) x y↔Con (Qj4 E (fun _=>true) m) x y:=fun {x y}=>JJ2 fun i hi=>(hLK.same (hE i hi).1 (hE i hi).2).1 (hcon i hi)
  refine Least.eq (E:=Qj4 E (fun _=>true) m) (n:=n) ⟨hLK.1,fun v hv=>⟨hc.1 (hLK.2 v hv).1,fun u hu=>(hLK.2 v hv).2 u (hc.2 hu)⟩⟩ hLA
 -- so they are a forest
 have c1:=Zw1 (E:=E) (K:=fun j=>!T j) (n:=n) (m:=m) hE
 have c2:=Zw1 (E:=D) (K:=fun _=>true) (n:=f) (m:=m) hD
 have c3:=Kq7 T m
 have c4:Xy7 (Xx1 D (fun _=>true) f) m=Xy7 T m:=by
  have:Xx1 D (fun _=>true) f=T:=funext fun i=>(hT i).symm
  rw[this]
 rw[heq]at c1
 have hKF : ∀ i, i < m → (!T i) = true → Xx1 E (fun j => !T j) n i = true := KV7 (fun i _ h => by
  simp only[Xx1,Bool.and_eq_true]at h
  exact h.1) (by omega)
 have hz := XV5 (E := E) (K := fun j => !T j) (B := fun i => xor (A i) (xor (g (D i).1) (g (D i).2))) hE hKF (fun i hi hb => by
  by_cases ht:T i=true
  · rw[hgm i hi ht]at hb
    simp at hb
  · simpa using ht) (fun S=>by
  have h1:=hA S
  have h2:=hX S g
  have h3:=Kz7 (fun i=>A i&&xor (S (E i).1) (S (E i).2)) (fun i=>xor (S (E i).1) (S (E i).2)&&xor (g (D i).1) (g (D i).2)) m
  rw[h1,h2]at h3
  rw[<-show xor false false=false from rfl,<-h3]
  refine QH6 fun i _=>?_
  cases A i<;>cases g (D i).1<;>cases g (D i).2<;>cases S (E i).1<;>cases S (E i).2<;>rfl)
 intro i hi
 have:=hz i hi
 revert this
 cases A i<;>cases g (D i).1<;>cases g (D i).2<;>simp
end Go.Proofs.YtjcagkgpbcdghaaDoor
/- Plain mathematics: rings of a renaming are closed; in which face a dart lies. -/
namespace Go.Proofs.YtjcagkgpbcdghaaDoor
theorem Ky9 (l:List Bool) (y:Nat):un l y<=1:=by unfold un;split<;>omega
theorem Xh1 {l:List Bool} (h:unseen l=0) (x:Nat):l.getD x true=true:=by
 cases e:l.getD x true with
 |true=>rfl
 |false=>have:=ZD3 e;omega
theorem Xh0 (f : Nat → Nat) : ∀ (m : Nat) (seen : List Bool) (x : Nat) (acc : List Nat), unseen seen ≤ m → (∀ i, i + 1 < acc.length → acc.getD (i + 1) 0 = f (acc.getD i 0)) → (0 < acc.length → x = f (acc.getD (acc.length - 1) 0)) →
    (∀ i,i+1<(QZ2 f m seen x acc).1.length->(QZ2 f m seen x acc).1.getD (i+1) 0=f ((QZ2 f m seen x acc).1.getD i 0))/\(0<(QZ2 f m seen x acc).1.length->un (QZ2 f m seen x acc).2 (f ((QZ2 f m seen x acc).1.getD ((QZ2 f m seen x acc).1.length-1) 0))=0):=by
 intro m
 induction m with
 |zero=>
  intro seen x acc hu hc hx
  refine⟨hc,fun h0=>?_⟩
  show un seen (f (acc.getD (acc.length-1) 0))=0
  rw[<-hx h0]
  unfold un
  rw[if_pos (Xh1 (by omega) x)]
 |succ m ih=>
  intro seen x acc hu hc hx
  by_cases hs:seen.getD x true=true
  · rw[Qb0 hs]
    refine⟨hc,fun h0=>?_⟩
    show un seen (f (acc.getD (acc.length-1) 0))=0
    rw[<-hx h0]
    unfold un
    rw[if_pos hs]
  · have hs':seen.getD x true=false:=by simpa using hs
    obtain⟨e,hu2⟩:=XY5 (f:=f) (acc:=acc) hs' hu
    rw[e]
    refine ih _ _ _ hu2 (fun i hi=>?_) (fun _=>?_)
    · rw[List.length_append,List.length_singleton]at hi
      by_cases hi2:i+1<acc.length
      · have e1:(acc++[x]).getD (i+1) 0=acc.getD (i+1) 0:=by simp[List.getD_eq_getElem?_getD,List.getElem?_append_left hi2]
        have e2:(acc++[x]).getD i 0=acc.getD i 0:=by simp[List.getD_eq_getElem?_getD,List.getElem?_append_left (show i<acc.length by omega)]
        rw[e1,e2]
        exact hc i hi2
      · have hl:acc.length=i+1:=by omega
        have e1:(acc++[x]).getD (i+1) 0=x:=by rw[<-hl];simp[List.getD_eq_getElem?_getD]
        have e2:(acc++[x]).getD i 0=acc.getD i 0:=by simp[List.getD_eq_getElem?_getD,List.getElem?_append_left (show i<acc.length by omega)]
        rw[e1,e2,hx (by omega),hl]
        rfl
    · have e1:(acc++[x]).getD ((acc++[x]).length-1) 0=x:=by simp[List.getD_eq_getElem?_getD]
      rw[e1]
theorem XG5 {l:List Nat} {y:Nat} (h:y∈l):∃ i,i<l.length/\l.getD i 0=y:=by
 obtain⟨i,hi,e⟩:=List.getElem_of_mem h
 exact⟨i,hi,by rw[List.getD_eq_getElem?_getD,List.getElem?_eq_getElem hi];exact e⟩
theorem at_mem {l:List Nat} {i:Nat} (h:i<l.length):l.getD i 0∈l:=by
 rw[List.getD_eq_getElem?_getD,List.getElem?_eq_getElem h]
 exact List.getElem_mem h
theorem Jz7 {l:List Nat} (h:∀ y,l.count y<=1) {i j:Nat} (hij:i<j) (hj:j<l.length):l.getD i 0≠l.getD j 0:=by
 have hn:l.Nodup:=List.nodup_iff_count.2 h
 have:=List.pairwise_iff_getElem.1 hn i j (by omega) hj hij
 rw[List.getD_eq_getElem?_getD,List.getElem?_eq_getElem (by omega),List.getD_eq_getElem?_getD,List.getElem?_eq_getElem hj]
 exact this
theorem Qq1 {f : Nat → Nat} {n : Nat} (hf : ∀ a, 1 ≤ a → a ≤ n → 1 ≤ f a ∧ f a ≤ n) (hi : ∀ a b, 1 ≤ a → a ≤ n → 1 ≤ b → b ≤ n → f a = f b → a = b) : ∀ a, a ≤ n →
    (∀ l,l∈(QQ8 f n a).1->∀ y,y∈l->f y∈l)/\(∀ y,1<=y->y<=n->un (QQ8 f n a).2 (f y)=0->un (QQ8 f n a).2 y=0)/\
    (∀ l,l∈(QQ8 f n a).1->(∀ i,i+1<l.length->l.getD (i+1) 0=f (l.getD i 0))/\f (l.getD (l.length-1) 0)=l.getD 0 0):=by
 intro a
 induction a with
 |zero=>
  intro _
  refine⟨fun l hl=>absurd hl (by simp[QQ8]),fun y h1 h2 h3=>?_,fun l hl=>absurd hl (by simp[QQ8])⟩
  have h4:=hf y h1 h2
  exfalso
  have:un (QQ8 f n 0).2 (f y)=1:=by
   simp[QQ8,un,List.getD_eq_getElem?_getD,show f y<n+1 by omega]
  omega
 |succ a ih=>
  intro ha
  obtain⟨i1,i2,i3⟩:=ih (by omega)
  have hin:=Qk4 hf a (by omega)
  generalize hr:QQ8 f n a=r at i1 i2 i3 hin
  have hlen:r.2.length=n+1:=by rw[<-hr];exact XJ6 f n a
  have hch:=Xh0 f (n+1) r.2 (a+1) [] (by have:=Qv8 r.2;omega) (fun i hi=>by simp at hi) (fun h0=>by simp at h0)
  have hmem:=Xz7 hf (n+1) r.2 (a+1) [] (by omega) ha (fun y hy=>by cases hy)
  have hcnt:=XJ7 f (n+1) r.2 (a+1) []
  have hkeep:=Qb1 f (n+1) r.2 (a+1) []
  have e:QQ8 f n (a+1)=(if(QZ2 f (n+1) r.2 (a+1) []).1=[] then r.1 else r.1++[(QZ2 f (n+1) r.2 (a+1) []).1],(QZ2 f (n+1) r.2 (a+1) []).2):=by simp only[QQ8,hr]
  rw[e]
  generalize QZ2 f (n+1) r.2 (a+1) []=s at hch hmem hcnt hkeep
  obtain⟨l,sn⟩:=s
  simp only[List.count_nil,Nat.zero_add]at hch hmem hcnt hkeep ⊢
  have hc1:∀ y,l.count y<=1:=fun y=>by have:=hcnt y;have:=Ky9 r.2 y;omega
  have hin1:∀ y,y∈l->un r.2 y=1/\un sn y=0:=fun y hy=>by
   have h1:1<=l.count y:=List.one_le_count_iff.2 hy
   have h2:=hcnt y
   have h3:=Ky9 r.2 y
   omega
  -- what stands behind the last is the first
  have hend:0<l.length->f (l.getD (l.length-1) 0)=l.getD 0 0:=fun h0=>by
   have hlast:=at_mem (l:=l) (i:=l.length-1) (by omega)
   have hb:=hmem _ hlast
   have hz:=hch.2 h0
   have hnz:un r.2 (f (l.getD (l.length-1) 0))≠0:=fun q=>by
    have:=i2 _ hb.1 hb.2 q
    have:=(hin1 _ hlast).1
    omega
   have hz1:f (l.getD (l.length-1) 0)∈l:=by
    have h2:=hcnt (f (l.getD (l.length-1) 0))
    refine List.one_le_count_iff.1 ?_
    omega
   obtain⟨j,hj,ej⟩:=XG5 hz1
   cases j with
   |zero=>exact ej.symm
   |succ j=>
    exfalso
    have h5:=hch.1 j hj
    rw[ej]at h5
    have hbj:=hmem _ (at_mem (l:=l) (i:=j) (by omega))
    have h6:=hi _ _ hb.1 hb.2 hbj.1 hbj.2 h5
    exact Jz7 hc1 (i:=j) (j:=l.length-1) (by omega) (by omega) h6.symm
  refine⟨?_,fun y h1 h2 h3=>?_,fun l' hl'=>?_⟩
  · intro l' hl' y hy
    by_cases hnil:l=[]
    · rw[if_pos hnil]at hl'
      exact i1 l' hl' y hy
    · rw[if_neg hnil]at hl'
      rcases List.mem_append.1 hl' with h|h
      · exact i1 l' h y hy
      · obtain rfl:=List.mem_singleton.1 h
        obtain⟨i,hil,rfl⟩:=XG5 hy
        by_cases hlast:i+1<l'.length
        · rw[<-hch.1 i hlast]
          exact at_mem hlast
        · have hi1:i=l'.length-1:=by omega
          rw[hi1,hend (by omega)]
          exact at_mem (by omega)
  · by_cases hq:un r.2 (f y)=0
    · exact hkeep y (i2 y h1 h2 hq)
    · have hmy:f y∈l:=List.one_le_count_iff.1 (by have:=hcnt (f y);omega)
      obtain⟨j,hj,ej⟩:=XG5 hmy
      cases j with
      |zero=>
       have hlast:=at_mem (l:=l) (i:=l.length-1) (by omega)
       have hb:=hmem _ hlast
       have:=hi y _ h1 h2 hb.1 hb.2 (by rw[hend (by omega),ej])
       rw[this]
       exact(hin1 _ hlast).2
      |succ j=>
       have h5:=hch.1 j hj
       rw[ej]at h5
       have hbj:=hmem _ (at_mem (l:=l) (i:=j) (by omega))
       have:=hi y _ h1 h2 hbj.1 hbj.2 h5
       rw[this]
       exact(hin1 _ (at_mem (by omega))).2
  · by_cases hnil:l=[]
    · rw[if_pos hnil]at hl'
      exact i3 l' hl'
    · rw[if_neg hnil]at hl'
      rcases List.mem_append.1 hl' with h|h
      · exact i3 l' h
      · obtain rfl:=List.mem_singleton.1 h
        have h0:0<l'.length:=by
         cases l' with
         |nil=>exact absurd rfl hnil
         |cons=>simp
        exact⟨hch.1,hend h0⟩
theorem XQ2 {C:List Cr} {loops:Int} (hm:QX3 C loops=true) (i j:Nat) (h1:1<=i) (h2:i<=4*C.length) (h3:1<=j) (h4:j<=4*C.length) (e:fd C i=fd C j):i=j:=by
 obtain⟨p1,p2,p3⟩:=XF6 hm i h1 h2
 obtain⟨q1,q2,q3⟩:=XF6 hm j h3 h4
 obtain⟨a1,a2,a3,a4⟩:=XY1 hm i h1 h2
 obtain⟨b1,b2,b3,b4⟩:=XY1 hm j h3 h4
 rw[e]at a1 a2
 have hA:=Qx7 b3 b4
 have e1:=XQ9 hm _ hA.1 hA.2 _ _ _ p2 (Nat.mod_lt _ (by decide)) a1 a2
 have e2:=XQ9 hm _ hA.1 hA.2 _ _ _ q2 (Nat.mod_lt _ (by decide)) b1 b2
 rw[e1]at e2
 have hcc:dC C i=dC C j:=by have:=congrArg Prod.fst e2;simp only at this;omega
 have hss:dS C i=dS C j:=by have:=congrArg Prod.snd e2;simp only at this;omega
 have u:=QJ3 hm (dA i) (!dB i) (Qx7 h1 h2).1 (Qx7 h1 h2).2
 have v:=QJ3 hm (dA j) (!dB j) (Qx7 h3 h4).1 (Qx7 h3 h4).2
 have u1:(C.getD (dC C i) Cr.none).arc (dS C i)=(dA i:Int):=u.2.2.2.1
 have v1:(C.getD (dC C j) Cr.none).arc (dS C j)=(dA j:Int):=v.2.2.2.1
 have u2:(C.getD (dC C i) Cr.none).comes (dS C i)=(!dB i):=u.2.2.2.2
 have v2:(C.getD (dC C j) Cr.none).comes (dS C j)=(!dB j):=v.2.2.2.2
 rw[hcc,hss]at u1 u2
 have h5:dA i=dA j:=by omega
 have h6:dB i=dB j:=by
  rw[u2]at v2
  revert v2
  cases dB i<;>cases dB j<;>simp
 rw[<-JC2 h1,<-JC2 h3,h5,h6]
def fo (C:List Cr) (j:Nat):Nat:=pt (QX0 C) j
theorem Kb8 {C:List Cr} (j:Nat) (h1:1<=j) (h2:j<=4*C.length):fo C j<(QX0 C).length:=Jq8 (QG5 (fd C) (4*C.length) j h1 h2)
theorem Jz4 {C:List Cr} {loops:Int} (hm:QX3 C loops=true) (j:Nat) (h1:1<=j) (h2:j<=4*C.length):fo C (fd C j)=fo C j:=by
 have hc:=QJ8 hm j h1 h2
 have hl:=Kb8 j h1 h2
 have hj:j∈(QX0 C).getD (fo C j) []:=(Kj5 (QG5 (fd C) (4*C.length) j h1 h2) hl).2 rfl
 have hin:(QX0 C).getD (fo C j) []∈QX0 C:=by
  rw[List.getD_eq_getElem?_getD,List.getElem?_eq_getElem hl]
  exact List.getElem_mem hl
 have h3:=(Qq1 (QJ8 hm) (fun a b p q r s t=>XQ2 hm a b p q r s t) (4*C.length) (Nat.le_refl _)).1 _ hin j hj
 exact JY0 (QG5 (fd C) (4*C.length) _ hc.1 hc.2) hl h3
end Go.Proofs.YtjcagkgpbcdghaaDoor
/- Plain mathematics: in how many ways variables are coloured so that something holds. -/
namespace Go.Proofs.YtjcagkgpbcdghaaDoor
def upd (f:Nat->Nat) (v c:Nat):Nat->Nat:=fun x=>if x=v then c else f x
theorem upd_same (f:Nat->Nat) (v c:Nat):upd f v c v=c:=by simp[upd]
theorem upd_ne (f:Nat->Nat) (v c x:Nat) (h:x≠v):upd f v c x=f x:=by simp[upd,h]
def Ext (n:Nat) (vs:List Nat) (f g:Nat->Nat):Prop:=(∀ x,x ∉ vs->g x=f x)/\∀ x,x∈vs->g x<n
theorem Ext.cons {n v c:Nat} {vs:List Nat} {f g:Nat->Nat} (hc:c<n) (hv:v ∉ vs) (h:Ext n vs (upd f v c) g):Ext n (v::vs) f g/\g v=c:=by
 have e:g v=c:=by rw[h.1 v hv,upd_same]
 refine⟨⟨fun x hx=>?_,fun x hx=>?_⟩,e⟩
 · have h1:x≠v:=fun q=>hx (by rw[q];exact List.Mem.head _)
   have h2:x ∉ vs:=fun q=>hx (List.Mem.tail _ q)
   rw[h.1 x h2,upd_ne _ _ _ _ h1]
 · by_cases q:x=v
   · rw[q,e];exact hc
   · exact h.2 x (by rcases List.mem_cons.1 hx with h1 | h1
                     · exact absurd h1 q
                     · exact h1)
end Go.Proofs.YtjcagkgpbcdghaaDoor
/- Plain mathematics: a drawing is coloured in as many ways by arcs as by overpasses. -/
namespace Go.Proofs.YtjcagkgpbcdghaaDoor
theorem KQ1 (W:List Nat) (a:Nat) (h1:1<=a):QQ6 W (a+1)=QQ6 W a+(if W.getD a 0=a then 1 else 0):=by
 show QQ6 W a+_=_
 by_cases e:W.getD a 0=a
 · rw[if_pos ⟨h1,e⟩,if_pos e]
 · rw[if_neg (fun h=>e h.2),if_neg e]
end Go.Proofs.YtjcagkgpbcdghaaDoor

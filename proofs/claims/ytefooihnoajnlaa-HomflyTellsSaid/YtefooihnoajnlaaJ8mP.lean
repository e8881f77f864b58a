/- Several texts of the proof, one behind the other. -/
import Derived.Test.YtefooihnoajnlaaW7P
import Derived.Test.YtefooihnoajnlaaCyP
import Derived.Test.YtefooihnoajnlaaW11P
/- Plain mathematics: what the reference's smoothing leaves is what the code's leaves. -/
namespace Go.Proofs.Ytefooihnoajnlaa
def rowB (C:List Cr) (L:List Nat) (i s v:Nat):Bool:=(List.range s).any fun t=>decide (L.getD ((C.getD i Cr.none).arc t).toNat 0=v)
def thB (C:List Cr) (k:Nat) (L:List Nat) (i s v:Nat):Bool:=((List.range i).any fun j=>decide (j≠k)&&rowB C L j 4 v)||(decide (i≠k)&&rowB C L i s v)
theorem rowB_next (C:List Cr) (L:List Nat) (i s v:Nat):rowB C L i (s+1) v=(rowB C L i s v||decide (L.getD ((C.getD i Cr.none).arc s).toNat 0=v)):=by
 unfold rowB
 rw[List.range_succ,List.any_append]
 simp
theorem thB_row (C:List Cr) (k:Nat) (L:List Nat) (i v:Nat):thB C k L i 4 v=thB C k L (i+1) 0 v:=by
 unfold thB
 rw[List.range_succ,List.any_append]
 have e:rowB C L (i+1) 0 v=false:=by simp[rowB]
 rw[e]
 simp
theorem thB_skip (C:List Cr) (k:Nat) (L:List Nat) (v:Nat):thB C k L k 0 v=thB C k L (k+1) 0 v:=by
 rw[<-thB_row]
 unfold thB
 simp
def thTo (C:List Cr) (k:Nat) (L:List Nat) (N i s:Nat):List Bool:=(List.range N).map (thB C k L i s)
theorem thTo_len (C:List Cr) (k:Nat) (L:List Nat) (N i s:Nat):(thTo C k L N i s).length=N:=by simp[thTo]
theorem thTo_at (C:List Cr) (k:Nat) (L:List Nat) (N i s v:Nat) (hv:v<N):(thTo C k L N i s).getD v true=thB C k L i s v:=by simp[thTo,List.getD_eq_getElem?_getD,hv]
theorem thTo_zero (C:List Cr) (k:Nat) (L:List Nat) (N:Nat):List.replicate N false=thTo C k L N 0 0:=by
 refine List.ext_getElem (by simp[thTo]) fun j h1 h2=>?_
 simp[thTo,thB,rowB]
theorem thTo_row (C:List Cr) (k:Nat) (L:List Nat) (N i:Nat):thTo C k L N i 4=thTo C k L N (i+1) 0:=List.map_congr_left fun v _=>thB_row C k L i v
theorem thTo_skip (C:List Cr) (k:Nat) (L:List Nat) (N:Nat):thTo C k L N k 0=thTo C k L N (k+1) 0:=List.map_congr_left fun v _=>thB_skip C k L v
theorem thTo_next (C:List Cr) (k:Nat) (L:List Nat) (N i s q:Nat) (hik:i≠k) (hq:L.getD ((C.getD i Cr.none).arc s).toNat 0=q):(thTo C k L N i s).set q true=thTo C k L N i (s+1):=by
 refine List.ext_getElem (by simp[thTo]) fun j h1 h2=>?_
 simp only[List.getElem_set,thTo,List.getElem_map,List.getElem_range]
 unfold thB
 rw[rowB_next,hq]
 by_cases e:q=j
 · subst e;rw[if_pos rfl];simp[hik]
 · rw[if_neg e];simp[e]
theorem thB_iff (C:List Cr) (k:Nat) (L:List Nat) (v:Nat):thB C k L C.length 0 v=true↔thP C [k] L v:=by
 unfold thB thP
 have e:rowB C L C.length 0 v=false:=by simp[rowB]
 rw[e]
 simp only[Bool.and_false,Bool.or_false,List.any_eq_true,List.mem_range,Bool.and_eq_true,decide_eq_true_eq]
 unfold rowB
 simp only[List.any_eq_true,List.mem_range,decide_eq_true_eq]
 constructor
 · rintro⟨i,hi,hk,s,hs,h⟩
   exact⟨i,s,hi,by simpa using hk,hs,h⟩
 · rintro⟨i,s,hi,hk,hs,h⟩
   exact⟨i,hi,by simpa using hk,s,hs,h⟩
def rfTo (P:Nat->Bool) (N j:Nat):List Nat:=(List.range N).map fun v=>if v<j/\1<=v/\P v=true then cntB P v+1 else 0
theorem rfTo_len (P:Nat->Bool) (N j:Nat):(rfTo P N j).length=N:=by simp[rfTo]
theorem rfTo_at (P:Nat->Bool) (N j v:Nat) (hv:v<N):(rfTo P N j).getD v 0=if v<j/\1<=v/\P v=true then cntB P v+1 else 0:=by simp[rfTo,List.getD_eq_getElem?_getD,hv]
theorem rfTo_zero (P:Nat->Bool) (N:Nat):List.replicate N 0=rfTo P N 1:=by
 refine List.ext_getElem (by simp[rfTo]) fun j h1 h2=>?_
 simp only[rfTo,List.getElem_map,List.getElem_range,List.getElem_replicate]
 rw[if_neg (by omega)]
theorem rfTo_yes (P:Nat->Bool) (N j:Nat) (h1:1<=j) (h:P j=true):(rfTo P N j).set j (cntB P j+1)=rfTo P N (j+1):=by
 refine List.ext_getElem (by simp[rfTo]) fun i h2 h3=>?_
 simp only[List.getElem_set,rfTo,List.getElem_map,List.getElem_range]
 by_cases e:j=i
 · subst e;rw[if_pos rfl,if_pos ⟨by omega,h1,h⟩]
 · rw[if_neg e]
   by_cases h4:i<j/\1<=i/\P i=true
   · rw[if_pos h4,if_pos ⟨by omega,h4.2⟩]
   · rw[if_neg h4,if_neg (fun q=>h4 ⟨by omega,q.2⟩)]
theorem rfTo_no (P:Nat->Bool) (N j:Nat) (h:P j=false):rfTo P N j=rfTo P N (j+1):=by
 refine List.map_congr_left fun i _=>?_
 by_cases h4:i<j/\1<=i/\P i=true
 · rw[if_pos h4,if_pos ⟨by omega,h4.2⟩]
 · rw [if_neg h4, if_neg (fun q => h4 ⟨by
     have:i≠j:=fun e=>by rw[e,h]at q;cases q.2.2
     omega,q.2⟩)]
def nfB (L:List Nat) (P:Nat->Bool) (v:Nat):Bool:=!P v&&decide (L.getD v 0=v)
theorem may_natsJ {C:List Cr} {loops:Int} (hm:mayD C loops=true) (i:Nat) (hi:i<C.length):∃ (p0 p1 p2 p3:Nat) (xp:Bool),C.getD i Cr.none=⟨(p0:Nat),(p1:Nat),(p2:Nat),(p3:Nat),xp⟩/\p0<=2*C.length/\p1<=2*C.length/\p2<=2*C.length/\p3<=2*C.length:=by
 have h:∀ k,k<4->1<=(C.getD i Cr.none).arc k/\(C.getD i Cr.none).arc k<=2*(C.length:Int):=fun k hk=>⟨(may_fit hm i k hi hk).1,(may_fit hm i k hi hk).2.1⟩
 generalize C.getD i Cr.none=x at h
 obtain⟨xa,xb,xc,xd,xp⟩:=x
 have h0:=h 0 (by omega)
 have h1:=h 1 (by omega)
 have h2:=h 2 (by omega)
 have h3:=h 3 (by omega)
 simp only[Cr.arc]at h0 h1 h2 h3
 simp at h0 h1 h2 h3
 refine⟨xa.toNat,xb.toNat,xc.toNat,xd.toNat,xp,?_,by omega,by omega,by omega,by omega⟩
 congr 1<;>omega
end Go.Proofs.Ytefooihnoajnlaa
/- Parts that run the other way round; the walk of ref.within. -/
namespace Go.Proofs.Ytefooihnoajnlaa
open Go.RowKit
set_option maxHeartbeats 2000000
set_option maxRecDepth 100000
def wi (l:List Nat) (z:Int):Bool:=l.any fun y=>decide ((y:Int)=z)
theorem wi_yes {l:List Nat} {z:Int} {i:Nat} (hi:i<l.length) (h:((l.getD i 0:Nat):Int)=z):wi l z=true:=by
 simp only[wi,List.any_eq_true,decide_eq_true_eq]
 refine⟨l.getD i 0,?_,h⟩
 rw[List.getD_eq_getElem?_getD,List.getElem?_eq_getElem hi]
 exact List.getElem_mem hi
theorem wi_no {l:List Nat} {z:Int} (h:∀ i,i<l.length->((l.getD i 0:Nat):Int)≠z):wi l z=false:=by
 cases hw:wi l z with
 |false=>rfl
 |true=>
  simp only[wi,List.any_eq_true,decide_eq_true_eq]at hw
  obtain⟨y,hy,rfl⟩:=hw
  obtain⟨i,hi,rfl⟩:=List.getElem_of_mem hy
  have:=h i hi
  rw[List.getD_eq_getElem?_getD,List.getElem?_eq_getElem hi]at this
  exact absurd rfl this
theorem wi_iff (l:List Nat) (a:Nat):wi l (a:Int)=true↔a∈l:=by
 simp only[wi,List.any_eq_true,decide_eq_true_eq]
 constructor
 · rintro⟨y,hy,h⟩
   have:y=a:=by omega
   rw[<-this]
   exact hy
 · intro h
   exact⟨a,h,rfl⟩
theorem within_any (v : Value) (l : List Nat) (z : Int) (w : World) (hl : l.length ≤ 100000) (h1 : Slots w w.heap.size v (nats l)) :
    Calls Try.prog 34 #[v,.int .i64 z] w fun e w'=>e=.returned (.bool (wi l z))/\Below w.heap.size w w':=by
 obtain⟨a1,c1,rfl,g1⟩:=h1
 rw[nats_len]at g1 ⊢
 have HG1:=hidB g1
 have HV:Hid (∀ i,i<l.length->(nats l).getD i (.bool false)=.int .i64 (l.getD i 0:Nat)):=fun i hi=>by rw[List.getD_eq_getElem?_getD,nats_get l i hi];rfl
 clear g1
 go_enter Try.func34,Try.ntmps34
 go_wp2
 go_loopw [5] (fun v5 wr=>∃ k:Nat,k<=l.length/\v5=.int .i64 k/\Hid (∀ j,j<k->((l.getD j 0:Nat):Int)≠z)/\Below w.heap.size w wr) (fun v5 _=>l.length-(intOf v5).toNat)
 case atStart=>exact⟨0,Nat.zero_le _,rfl,fun j hj=>absurd hj (Nat.not_lt_zero _),Below.refl _ _⟩
 case round=>
  obtain⟨k,hk,rfl,hno,hb⟩:=hrel
  by_cases hlt:k<l.length
  · obtain⟨b1,o1,rfl,hb1,q1⟩:=HG1.out (by omega)
    have p1:=bcell hb hb1 (q1 k hlt)
    rw[HV.out k hlt]at p1
    obtain⟨y,hy⟩:∃ y,l.getD k 0=y:=⟨_,rfl⟩
    rw[hy]at p1
    have HY:=hidB hy
    have hsz:=hb.size
    have hbw:b1<wr.heap.size:=by omega
    clear q1 hy
    by_cases hz:(y:Int)=z
    · have hd:((y:Int)==z)=true:=by simpa using hz
      have HW:Hid (wi l z=true):=wi_yes hlt (by rw[HY.out];exact hz)
      go_wp2
      go_ret
      exact⟨ret_bool HW.out,hb⟩
    · have hd:((y:Int)==z)=false:=by rw[beq_eq_false_iff_ne];exact hz
      go_wp2
      go_roundw
      case rel=>
       refine⟨k+1,by omega,by go_num,fun j hj=>?_,hb⟩
       by_cases e:j=k
       · rw[e,HY.out];exact hz
       · exact hno.out j (by omega)
      case measure=>simp[intOf];omega
  · obtain rfl:k=l.length:=by omega
    have HW:=hidB (wi_no (fun j hj=>hno.out j hj))
    go_wp2
    go_ret
    exact⟨ret_bool HW.out,hb⟩
end Go.Proofs.Ytefooihnoajnlaa

/- Several texts of the proof, one behind the other. -/
import Derived.Test.YtgagenmkpmmpfaaF2P
import Derived.Test.YtgagenmkpmmpfaaO0P
import Derived.Test.YtgagenmkpmmpfaaCyHP
import Derived.Test.YtgagenmkpmmpfaaTK0P
/- The walks of ref.level and ref.OversOf. -/
namespace Go.Proofs.Ytgagenmkpmmpfaa
open Go.RowKit
def ovL (C:List Cr) (k:Nat):List Nat:=(List.range k).map fun i=>ovM C (i+1)
theorem ovL_len (C:List Cr) (k:Nat):(ovL C k).length=k:=by simp[ovL]
theorem ovE_next (C:List Cr) (i:Nat) (hi:i<C.length):(ovE C).take (i+1)=(ovE C).take i++[((C.getD i Cr.none).b.toNat,(C.getD i Cr.none).d.toNat)]:=by
 rw[List.take_add_one]
 congr 1
 simp[ovE,hi,List.getD_eq_getElem?_getD]
theorem ovE_all (C:List Cr):(ovE C).take C.length=ovE C:=List.take_of_length_le (by simp[ovE])
end Go.Proofs.Ytgagenmkpmmpfaa
/- Plain mathematics: a curl, or a face of two, of a diagram, passed straight. -/
namespace Go.Proofs.Ytgagenmkpmmpfaa
theorem fd_bij {C:List Cr} {loops:Int} (hm:mayD C loops=true):Bij (up0 (fd C)) (4*C.length+1):=bij_up0 (fd_closed hm) fun a b h1 h2 h3 h4 e=>fd_inj hm a b h1 h2 h3 h4 e
end Go.Proofs.Ytgagenmkpmmpfaa
/- Plain mathematics: what a planar diagram's rings and pieces are where some crossings are passed straight. -/
namespace Go.Proofs.Ytgagenmkpmmpfaa
theorem inj_cnt {n M:Nat} {P Q:Nat->Bool} (m:Nat->Nat) (hl:∀ v,v<n->P v=true->m v<M/\Q (m v)=true) (hi:∀ u v,u<n->v<n->P u=true->P v=true->m u=m v->u=v):(List.range n).countP P<=(List.range M).countP Q:=by
 rw[List.countP_eq_length_filter,List.countP_eq_length_filter,<-List.length_map (f:=m)]
 have hnd:(((List.range n).filter P).map m).Nodup:=by
  unfold List.Nodup
  rw[List.pairwise_map]
  refine List.Pairwise.imp_of_mem ?_ (List.Pairwise.filter _ List.nodup_range)
  intro u v hu hv huv e
  obtain⟨hu,ru⟩:=List.mem_filter.1 hu
  obtain⟨hv,rv⟩:=List.mem_filter.1 hv
  exact huv (hi u v (List.mem_range.1 hu) (List.mem_range.1 hv) ru rv e)
 refine hnd.length_le_of_subset fun x hx=>?_
 obtain⟨v,hv,rfl⟩:=List.mem_map.1 hx
 obtain⟨hv,rv⟩:=List.mem_filter.1 hv
 have:=hl v (List.mem_range.1 hv) rv
 exact List.mem_filter.2 ⟨List.mem_range.2 this.1,this.2⟩
theorem cnt_zero (P:Nat->Bool) (m:Nat) (h:P 0=true):(List.range (m+1)).countP P=(List.range (m+1)).countP (fun v=>P v&&decide (1<=v))+1:=by
 rw[cnt_up1 (fun v=>P v&&decide (1<=v)) m (by simp),List.range_succ_eq_map,List.countP_cons,List.countP_map,if_pos h]
 congr 1
 refine List.countP_congr fun v _=>?_
 show P (v+1)=true↔(P (v+1)&&decide (1<=v+1))=true
 rw[decide_eq_true (by omega),Bool.and_true]
theorem rq_pos {E:List (Nat×Nat)} {W:List Nat} {m:Nat} (h:Least E (m+1) W):rq W (fun _=>true) (m+1)=rq W (fun v=>decide (1<=v)) (m+1)+1:=by
 rw[rq_eq,rq_eq]
 have h0:=h.le (v:=0) (by omega)
 rw[cnt_zero _ m (by rw[Bool.and_true];exact decide_eq_true (by omega))]
 congr 1
 refine List.countP_congr fun v _=>?_
 rw[Bool.and_true]
theorem cyA_fd {C:List Cr} {loops:Int} (hm:mayD C loops=true):cyA (up0 (fd C)) (4*C.length+1)=(facesM C).length+1:=by
 have h:=walks_cyN (fd_closed hm) (fun a b h1 h2 h3 h4 e=>fd_inj hm a b h1 h2 h3 h4 e) (fun v=>decide (1<=v)) (by simp)
 have hb:=(heads_roots (fd_closed hm) (fun a b h1 h2 h3 h4 e=>fd_inj hm a b h1 h2 h3 h4 e) (4*C.length) (Nat.le_refl _)).1
 have e:(walksTo (fd C) (4*C.length) (4*C.length)).1.countP (fun l=>decide (1<=l.getD 0 0))=(facesM C).length:=List.countP_eq_length.2 fun l hl=>decide_eq_true (hb l hl).1
 unfold cyA cyN
 rw[rq_pos (cyW_least (fd_bij hm).lt),<-e,h]
 rfl
end Go.Proofs.Ytgagenmkpmmpfaa
/- The walk of knotworkkeep.picked; a list's numbers as TangleDets takes them. -/
namespace Go.Proofs.Ytgagenmkpmmpfaa
open Go.RowKit
set_option maxHeartbeats 1000000
set_option maxRecDepth 100000
theorem picked_any (x : Int) (n : Nat) (w : World) (hx : -9223372036854775808 ≤ x ∧ x ≤ 9223372036854775807) (h0 : 0 < n) (h1 : n ≤ 1000) :
    Calls Try.prog 5 #[.int .i64 x,.int .i64 (n:Nat)] w fun e w'=>∃ r:Nat,e=.returned (.int .i64 (r:Nat))/\r<n/\w'=w:=by
 have hz:((n:Int)==0)=false:=beq_eq_false_iff_ne.2 (by omega)
 by_cases hn:x<0
 · have hd:decide (x<0)=true:=decide_eq_true hn
   have e1:IntKind.i64.wrap (x+1)=x+1:=IntWalk.i64_in _ (by omega)
   have e2:IntKind.i64.wrap (-(x+1)) = -(x+1):=IntWalk.i64_in _ (by omega)
   obtain⟨q,hq⟩:∃ q:Nat,-(x+1)=(q:Int):=⟨(-(x+1)).toNat,by omega⟩
   have er:(q:Int).tmod (n:Int)=((q%n:Nat):Int):=rfl
   have hlt:=Nat.mod_lt q h0
   have e3:IntKind.i64.wrap ((q%n:Nat):Int)=((q%n:Nat):Int):=IntWalk.i64_in _ (by omega)
   go_enter Try.func5,Try.ntmps5
   go_wp2
   go_ret
   exact⟨q%n,by simp,hlt,rfl⟩
 · have hd:decide (x<0)=false:=decide_eq_false hn
   obtain⟨q,hq⟩:∃ q:Nat,x=(q:Int):=⟨x.toNat,by omega⟩
   subst hq
   have er:(q:Int).tmod (n:Int)=((q%n:Nat):Int):=rfl
   have hlt:=Nat.mod_lt q h0
   have e3:IntKind.i64.wrap ((q%n:Nat):Int)=((q%n:Nat):Int):=IntWalk.i64_in _ (by omega)
   go_enter Try.func5,Try.ntmps5
   go_wp2
   go_ret
   exact⟨q%n,by simp,hlt,rfl⟩
end Go.Proofs.Ytgagenmkpmmpfaa

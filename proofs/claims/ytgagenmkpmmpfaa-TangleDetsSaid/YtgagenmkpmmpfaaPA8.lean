/- slices.SortFunc over a row of terms, by exponent: its library contract applied, and said of lists. -/
import Derived.Test.YtgagenmkpmmpfaaPA7
import Derived.Test.YtgagenmkpmmpfaaPShelf
import Derived.Shelf.SlSortCmp.NoneTotal
import Derived.Sort.OwnSorted
namespace Go.Proofs.Ytgagenmkpmmpfaa.Poly
open Go.RowKit Go.Sort
set_option maxHeartbeats 400000
set_option maxRecDepth 100000
def encT (x:Int×Int):List Value:=[.int .i64 x.1,.int .i64 x.2]
theorem less43 (x y:Int×Int) (W:World):Calls Try.prog 68 #[.agg #[.int .i64 x.1,.int .i64 x.2],.agg #[.int .i64 y.1,.int .i64 y.2]] W fun e w'=>e=.returned (.int .i64 (Lib.compareInt x.1 y.1))/\∃ q os',w'=grow (W.drewN q) os':=by
 have hcon:=fun W'=>AnyG.cmp_Compare_int Try.cmpInt x.1 y.1 W'
 change ∀ W',Calls Try.prog 69 _ _ _ at hcon
 generalize Lib.compareInt x.1 y.1=r at hcon ⊢
 go_enter Try.func68,Try.ntmps68
 go_wp2_with (go_at_call 69;refine(hcon _).mono ?_;rintro e w' ⟨rfl,rfl⟩)
 go_ret
 exact⟨rfl,0,_,by rw[alloc_eq_grow,alloc_eq_grow,grow_grow];rfl⟩
theorem ltE (x y:Int×Int):ltOf (fun x y:Int×Int=>Lib.compareInt x.1 y.1) x y=decide (x.1<y.1):=by
 unfold ltOf Lib.compareInt
 by_cases h1:x.1<y.1
 · simp[h1]
 · by_cases h2:y.1<x.1<;>simp[h1,h2]
theorem swoE:SWO (ltOf fun x y:Int×Int=>Lib.compareInt x.1 y.1) where
 irrefl x:=by rw[ltE];simp
 trans x y z h1 h2:=by rw[ltE]at *;simp at *;omega
 ntrans x y z h1 h2:=by rw[ltE]at *;simp at *;omega
theorem flatK_list (d:Array (Int×Int)):(flatK encT 2 d).toList=flat d.toList:=by
 apply List.ext_getElem?
 intro t
 by_cases ht:t<d.size*2
 · have hi:t / 2<d.toList.length:=by simp;omega
   have g:=flat_get d.toList (t / 2) hi
   have e0 : (flatK encT 2 d)[t]! = (encT d[t / 2]!)[t % 2]! := get_flatK encT 2 d t ht
   have hsz:t<(flatK encT 2 d).size:=by simpa using ht
   have gd:d.toList.getD (t / 2) (0,0)=d[t / 2]!:=by
    have:t / 2<d.size:=by omega
    simp[List.getD,this]
   rw[Array.getElem?_toList,Array.getElem?_eq_getElem hsz]
   rw[getElem!_pos _ t hsz]at e0
   rw[e0]
   rcases Nat.mod_two_eq_zero_or_one t with h|h
   · have h2:t / 2*2=t:=by omega
     rw[h2]at g
     rw[h,g.1,gd]
     rfl
   · have h2:t / 2*2+1=t:=by omega
     rw[h2]at g
     rw[h,g.2,gd]
     rfl
 · rw[List.getElem?_eq_none (by simp;omega),List.getElem?_eq_none (by rw[flat_length];simp;omega)]
theorem holds_row {w:World} {g:Nat} {cur:Array Value} {l:List (Int×Int)} (hb:w.heap[g]?=some (.cells cur 95 (0,0))) (ht:cur.toList.take (l.length*2)=flat l):HoldsK encT 2 w g 0 l.toArray:=by
 intro j hj
 have hj':j<l.length*2:=by simpa using hj
 have hl:(flatK encT 2 l.toArray).toList=flat l:=flatK_list l.toArray
 refine⟨?_,by simp[World.frozen?,hb]⟩
 have h1:cur.toList[j]?=(flatK encT 2 l.toArray).toList[j]?:=by rw[hl,<-ht,List.getElem?_take_of_lt hj']
 rw[Array.getElem?_toList,Array.getElem?_toList,Array.getElem?_eq_getElem hj]at h1
 unfold World.cell?
 rw[hb]
 simp only[Nat.zero_add,Option.isSome_none,Bool.false_eq_true,if_false]
 rw[h1,getElem!_pos _ j hj]
 rfl
theorem heap_after {w : World} {g n : Nat} {os : Array Obj} {cur : Array Value} (d : Array (Int × Int)) (hb : w.heap[g]? = some (.cells cur 95 (0, 0))) :
    (sortWorldK encT 2 w g 0 n d os).heap[g]?=some (.cells (putCells id 0 (flatK encT 2 d) cur) 95 (0,0)):=by
 have hg:g<w.heap.size:=(Array.getElem?_eq_some_iff.1 hb).1
 unfold sortWorldK putRowK
 rw[heap_grow_old _ _ (by simpa using hg)]
 simp[putRow,mapBlock,Sort.ahead,Array.getElem?_modify,hb,onCells]
theorem grown_after {w:World} {g n:Nat} {os:Array Obj} (d:Array (Int×Int)):w.grownBy (sortWorldK encT 2 w g 0 n d os) (some g):=by
 refine⟨rfl,rfl,rfl,by simp[sortWorldK,putRowK],fun k hk hne=>?_⟩
 unfold sortWorldK putRowK
 rw[heap_grow_old _ _ (by simpa using hk)]
 have:g≠k:=fun e=>hne (by rw[e])
 simp[putRow,mapBlock,Sort.ahead,Array.getElem?_modify,this]
theorem take_after (cur:Array Value) (d:Array (Int×Int)) (h:d.size*2<=cur.size):(putCells id 0 (flatK encT 2 d) cur).toList.take (d.size*2)=flat d.toList:=by
 rw[<-flatK_list]
 apply List.ext_getElem?
 intro j
 by_cases hj:j<d.size*2
 · rw[List.getElem?_take_of_lt hj,Array.getElem?_toList,Array.getElem?_toList]
   have h2:j<(flatK encT 2 d).size:=by simpa using hj
   rw[Array.getElem?_eq_getElem h2]
   simp only[putCells,Nat.zero_le,Nat.zero_add,true_and,Nat.sub_zero,Array.getElem?_mapIdx,Array.getElem?_eq_getElem (show j<cur.size by omega),Option.map_some,if_pos h2]
   rw[getElem!_pos _ j h2]
   rfl
 · rw[List.getElem?_take_eq_none (by omega),List.getElem?_eq_none (by simp;omega)]
theorem sort_list (base : Nat) (v : Value) (acc : List (Int × Int)) (w : World) (hn : acc.length < 4611686018427387904) (hrow : w.ownsRow base 95 2 v acc.length (flat acc)) :
    Calls Try.prog 67 #[v,.func (.func 68) #[] #[]] w fun e w'=>e=.returned (.tuple #[])/\∃ l:List (Int×Int),l.Perm acc/\l.Pairwise (fun x y=>x.1<=y.1)/\w'.ownsRow base 95 2 v l.length (flat l)/\w.grownBy w' v.ownBlock:=by
 rcases Nat.eq_zero_or_pos acc.length with h0|h0
 · have e0:acc=[]:=List.length_eq_zero_iff.1 h0
   subst e0
   have hcon:∀ p cap fv,Calls Try.prog 67 #[.slice p 0 cap,fv] w fun e w'=>e=.returned (.tuple #[])/\w'=w:=fun p cap fv=>AnyF.slices_SortFunc_none Try.sortTerm p cap fv w
   have hsl:∃ p cap,v=.slice p 0 cap:=by
    rcases hrow.2 with⟨hv,_⟩|⟨g,cap,cur,hv,_⟩
    · exact⟨_,_,hv⟩
    · exact⟨_,_,hv⟩
   obtain⟨p,cap,rfl⟩:=hsl
   refine(hcon p cap _).mono ?_
   rintro e w' ⟨rfl,rfl⟩
   exact⟨rfl,[],List.Perm.refl _,List.Pairwise.nil,hrow,⟨rfl,rfl,rfl,Nat.le_refl _,fun _ _ _=>rfl⟩⟩
 · rcases hrow.2 with⟨_,hz⟩|⟨g,cap,cur,rfl,hbase,hb,h1,h2,h3,h4⟩
   · omega
   have eg:∀ args w,(callFunc 68 args).run Try.prog w=.ok (.enter 68 args) w:=enters_of Try.func68 (by kernel_rfl) rfl
   have hgl:g<w.heap.size:=(Array.getElem?_eq_some_iff.1 hb).1
   have hcon:=AnyQ.slices_SortFunc Try.sortTerm 2 Try.isAgg95 Try.sizeOf95 encT (fun _=>rfl) (fun x v hv=>by simp[encT]at hv;rcases hv with rfl|rfl<;>rfl) (fun x y=>Lib.compareInt x.1 y.1) swoE 68 #[] g 0 cap acc.toArray w eg
    (fun _ _ _ _ x y=>less43 x y _) (holds_row hb h4) hgl (by simpa using hn)
   change Calls Try.prog 67 _ _ _ at hcon
   rw[List.size_toArray]at hcon
   refine hcon.mono ?_
   rintro e w' ⟨rfl,d',n,os,⟨hsz,_,hperm⟩,hsort,rfl⟩
   have hsz':d'.size=acc.length:=by simpa using hsz
   have hp:d'.toList.Perm acc:=by
    have e1:d'.extract 0 acc.length=d':=by rw[<-hsz'];simp
    have e2:acc.toArray.extract 0 acc.length=acc.toArray:=by simp
    rw[e1,e2]at hperm
    simpa using hperm
   refine⟨rfl,d'.toList,hp,?_,?_,grown_after d'⟩
   · rw[List.pairwise_iff_getElem]
     intro i j hi hj hij
     have hi':i<d'.size:=by simpa using hi
     have hj':j<d'.size:=by simpa using hj
     have:=hsort i j (Nat.zero_le _) hij (by omega)
     rw[ltE,getElem!_pos d' j hj',getElem!_pos d' i hi']at this
     simp only[decide_eq_false_iff_not]at this
     simp only[Array.getElem_toList]
     omega
   · have hlen:d'.toList.length=acc.length:=by simpa using hsz'
     rw[hlen]
     refine⟨by rw[flat_length,hlen],.inr ⟨g,cap,_,rfl,hbase,heap_after d' hb,h1,h2,by simp[putCells,h3],?_⟩⟩
     have:=take_after cur d' (by rw[hsz',h3];omega)
     rw[hsz']at this
     exact this
end Go.Proofs.Ytgagenmkpmmpfaa.Poly

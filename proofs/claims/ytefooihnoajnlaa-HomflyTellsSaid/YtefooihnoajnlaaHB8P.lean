/- Several texts of the proof, one behind the other. -/
import Derived.Test.YtefooihnoajnlaaHB1P
import Derived.Test.YtefooihnoajnlaaPA8
import Derived.Test.YtefooihnoajnlaaHShelf
import Derived.Shelf.SlSortCmp.NoneTotal
import Derived.Sort.OwnSorted
import Derived.Test.YtefooihnoajnlaaPA10P
/- Terms of two variables as rows of three cells; slices.SortFunc over them: its library contract applied, and said of lists. -/
namespace Go.Proofs.Ytefooihnoajnlaa.Poly
open Go.RowKit Go.Sort
set_option maxHeartbeats 4000000
set_option maxRecDepth 100000
def flatU (l:List (Int×Int)):List Value:=l.flatMap fun t=>[.int .i64 (dx t.1),.int .i64 (dz t.1),.int .i64 t.2]
theorem flatU_length (l:List (Int×Int)):(flatU l).length=l.length*3:=by
 induction l with
 |nil=>rfl
 |cons t l ih=>simp[flatU]at *;omega
theorem flatU_append (l m:List (Int×Int)):flatU (l++m)=flatU l++flatU m:=by simp[flatU]
theorem flatU_get (l:List (Int×Int)) (i:Nat) (hi:i<l.length):(flatU l)[i*3]?=some (.int .i64 (dx (l.getD i (0,0)).1))/\(flatU l)[i*3+1]?=some (.int .i64 (dz (l.getD i (0,0)).1))/\(flatU l)[i*3+2]?=some (.int .i64 (l.getD i (0,0)).2):=by
 induction l generalizing i with
 |nil=>simp at hi
 |cons t l ih=>
  cases i with
  |zero=>simp[flatU]
  |succ i=>
   have:=ih i (by simpa using hi)
   simp only[flatU,List.flatMap_cons]at this ⊢
   rw[List.getElem?_append_right (by simp;omega),List.getElem?_append_right (by simp;omega),List.getElem?_append_right (by simp;omega)]
   simpa[show(i+1)*3-3=i*3 by omega,show(i+1)*3+1-3=i*3+1 by omega,show(i+1)*3+2-3=i*3+2 by omega] using this
theorem flatU_one (l:List (Int×Int)):∀ u∈flatU l,u.oneCell'=true:=by
 intro u hu
 simp only[flatU,List.mem_flatMap]at hu
 obtain⟨t,_,ht⟩:=hu
 simp at ht
 rcases ht with rfl|rfl|rfl<;>rfl
def encU (x:Int×Int):List Value:=[.int .i64 (dx x.1),.int .i64 (dz x.1),.int .i64 x.2]
theorem or_two (b : Nat) (x y : Int) (w : World) (h0 : w.cell? ⟨b, 0, none⟩ = some (.int .i64 x)) (h1 : w.cell? ⟨b, 1, none⟩ = some (.int .i64 y)) :
    Calls Try.prog 27 #[.slice (some ⟨b,0,none⟩) 2 2] w fun e w'=>e=.returned (.int .i64 (if x=0 then y else x))/\w'=w:=by
 obtain⟨r,hr⟩:∃ r,(if x=0 then y else x)=r:=⟨_,rfl⟩
 have HR:=hidH hr
 rw[hr]
 clear hr
 go_enter Try.func27,Try.ntmps27
 go_wp2
 go_loopw [5,8] (fun _ i wr=>∃ k:Nat,k<=2/\i=.int .i64 (k:Nat)/\w=wr/\Hid (1<=k->x=0)/\Hid (k=2->y=0)) (fun _ i _=>2-(intOf i).toNat)
 case atStart=>exact⟨0,by omega,rfl,rfl,(fun h=>by omega:1<=0->x=0),(fun h=>by omega:0=2->y=0)⟩
 case round=>
  obtain⟨k,hk,rfl,rfl,hx,hy⟩:=hrel
  have hk3:k=0∨k=1∨k=2:=by omega
  rcases hk3 with rfl|rfl|rfl
  · by_cases h:x=0
    · have HX:=hidH h
      have hb0:(x==0)=true:=by simp[h]
      have hb1:(x != 0)=false:=by simp[h]
      clear h
      go_wp2
      go_roundw
      case rel=>exact⟨1,by omega,by go_num,trivial,(fun _=>HX.out:1<=1->x=0),(fun h=>by omega:1=2->y=0)⟩
      case measure=>simp[intOf]
    · have HX:Hid (r=x):=(by rw[<-HR.out,if_neg h]:r=x)
      have hb0:(x==0)=false:=by rw[beq_eq_false_iff_ne];exact h
      have hb1:(x != 0)=true:=by rw[bne_iff_ne];exact h
      clear h
      go_wp2
      go_ret
      exact⟨by rw[HX.out];rfl,rfl⟩
  · have HX:Hid (r=y):=(by rw[<-HR.out,if_pos (hx.out (by omega))]:r=y)
    by_cases h:y=0
    · have HY:=hidH h
      have hb0:(y==0)=true:=by simp[h]
      have hb1:(y != 0)=false:=by simp[h]
      clear h
      go_wp2
      go_roundw
      case rel=>exact⟨2,by omega,by go_num,trivial,(fun _=>hx.out (by omega):1<=2->x=0),(fun _=>HY.out:2=2->y=0)⟩
      case measure=>simp[intOf]
    · have hb0:(y==0)=false:=by rw[beq_eq_false_iff_ne];exact h
      have hb1:(y != 0)=true:=by rw[bne_iff_ne];exact h
      clear h
      go_wp2
      go_ret
      exact⟨by rw[HX.out];rfl,rfl⟩
  · have HX:Hid (r=0):=(by rw[<-HR.out,if_pos (hx.out (by omega))];exact hy.out rfl:r=0)
    go_wp2
    go_ret
    exact⟨by rw[HX.out];rfl,rfl⟩
theorem lex_cmp (a b:Int):(if Lib.compareInt (dx a) (dx b)=0 then Lib.compareInt (dz a) (dz b) else Lib.compareInt (dx a) (dx b))=Lib.compareInt a b:=by
 have ha:=dxz a
 have hb:=dxz b
 unfold Lib.compareInt
 by_cases h1:dx a<dx b
 · rw[if_pos h1,if_pos (show a<b by omega)];rfl
 · rw[if_neg h1]
   by_cases h2:dx b<dx a
   · rw[if_pos h2,if_neg (show ¬ a<b by omega),if_pos (show b<a by omega)];rfl
   · rw[if_neg h2,if_pos rfl]
     by_cases h3:dz a<dz b
     · rw[if_pos h3,if_pos (show a<b by omega)]
     · rw[if_neg h3,if_neg (show ¬ a<b by omega)]
       by_cases h4:dz b<dz a
       · rw[if_pos h4,if_pos (show b<a by omega)]
       · rw[if_neg h4,if_neg (show ¬ b<a by omega)]
theorem less_two (x y:Int×Int) (W:World):Calls Try.prog 26 #[.agg #[.int .i64 (dx x.1),.int .i64 (dz x.1),.int .i64 x.2],.agg #[.int .i64 (dx y.1),.int .i64 (dz y.1),.int .i64 y.2]] W fun e w'=>e=.returned (.int .i64 (Lib.compareInt x.1 y.1))/\∃ q os',w'=grow (W.drewN q) os':=by
 have hcon:=fun x y W'=>AnyG.cmp_Compare_int Try.cmpInt x y W'
 change ∀ x y W',Calls Try.prog 28 _ _ _ at hcon
 rw[<-lex_cmp]
 obtain⟨x1,z1,c1,hx1,hz1⟩:∃ x1 z1 c1,dx x.1=x1/\dz x.1=z1:=⟨_,_,x.2,rfl,rfl⟩
 obtain⟨x2,z2,hx2,hz2⟩:∃ x2 z2,dx y.1=x2/\dz y.1=z2:=⟨_,_,rfl,rfl⟩
 rw[hx1,hz1,hx2,hz2]
 have HC1:=hidH (hcon x1 x2)
 have HC2:=hidH (hcon z1 z2)
 generalize Lib.compareInt x1 x2=r1 at HC1 ⊢
 generalize Lib.compareInt z1 z2=r2 at HC2 ⊢
 clear hcon hx1 hz1 hx2 hz2
 generalize x.2=c at*
 generalize y.2=d at*
 obtain⟨V,hV⟩:∃ V,(W.alloc (.cells #[.int .i64 x1,.int .i64 z1,.int .i64 c] 51)).alloc (.cells #[.int .i64 x2,.int .i64 z2,.int .i64 d] 51)=V:=⟨_,rfl⟩
 have HV:=hidH hV
 have HA:Hid (V.heap[W.heap.size]?=some (.cells #[.int .i64 x1,.int .i64 z1,.int .i64 c] 51 (0,0))):=(by rw[<-hV];exact alloc_old (alloc_at rfl):V.heap[W.heap.size]?=_)
 have HB:Hid (V.heap[W.heap.size+1]?=some (.cells #[.int .i64 x2,.int .i64 z2,.int .i64 d] 51 (0,0))):=(by rw[<-hV];exact alloc_at (by simp):V.heap[W.heap.size+1]?=_)
 have HS:Hid (∀ U,Below V.heap.size V U->(fun X':World=>X'.cell? ⟨W.heap.size,0,none⟩=some (.int .i64 x1)/\X'.cell? ⟨W.heap.size,1,none⟩=some (.int .i64 z1)/\X'.cell? ⟨W.heap.size+1,0,none⟩=some (.int .i64 x2)/\X'.cell? ⟨W.heap.size+1,1,none⟩=some (.int .i64 z2)) U):=fun U hU=>by
  have k1:=(hU.block _ (Array.getElem?_eq_some_iff.1 HA.out).1).trans HA.out
  have k2:=(hU.block _ (Array.getElem?_eq_some_iff.1 HB.out).1).trans HB.out
  exact⟨block_cell k1 rfl,block_cell k1 rfl,block_cell k2 rfl,block_cell k2 rfl⟩
 have HD:Hid (Below V.heap.size V V.drew):=(Below.refl _ _).drew
 have HSL:Hid (Below V.heap.size V (V.drew.alloc (.cells #[.int .i64 r1,.int .i64 r2] 3))):=HD.out.alloc HD.out.size _
 have hsl:(V.drew.alloc (.cells #[.int .i64 r1,.int .i64 r2] 3)).heap[V.drew.heap.size]?=some (.cells #[.int .i64 r1,.int .i64 r2] 3 (0,0)):=alloc_at rfl
 have HOR:=hidH (or_two V.drew.heap.size r1 r2 (V.drew.alloc (.cells #[.int .i64 r1,.int .i64 r2] 3)) (block_cell hsl rfl) (block_cell hsl rfl))
 obtain⟨r,hr⟩:∃ r,(if r1=0 then r2 else r1)=r:=⟨_,rfl⟩
 rw[hr]at HOR ⊢
 clear hr
 have HFIN : Hid (V.drew.alloc (.cells #[.int .i64 r1, .int .i64 r2] 3) = grow (W.drewN 1) [.cells #[.int .i64 x1, .int .i64 z1, .int .i64 c] 51 (0, 0), .cells #[.int .i64 x2, .int .i64 z2, .int .i64 d] 51 (0, 0), .cells #[.int .i64 r1, .int .i64 r2] 3 (0, 0)].toArray) := (by
  rw[<-hV]
  rfl)
 clear hV hsl
 go_enter Try.func26,Try.ntmps26
 go_upto_region 1 with(fail)
 rw[HV.out]
 refine rhd HS HD.out (fun hHeld=>?_)
 refine tq 5 0 (h:=?_)
 refine tq 6 1 (h:=?_)
 refine tq 7 2 (h:=?_)
 refine tq 8 3 (h:=?_)
 refine tq 10 5 (h:=?_)
 refine tq 11 6 (h:=?_)
 refine tq 12 7 (h:=?_)
 refine tq 13 8 (h:=?_)
 simp only[List.setIfInBounds_toArray,List.set_cons_succ,List.set_cons_zero]
 refine rd1 4 ?_
 intro K0 hK0
 go_simp
 go_wp2_with (go_at_call 28;refine(HC1.out _).mono ?_;rintro e9 w4 ⟨rfl,rfl⟩)
 refine hK0.out _ _ (HS.out _ HD.out) (fun hHeld=>?_)
 clear hK0 K0
 try simp only[Act.put]
 try simp only[List.getElem_toArray]
 try simp only[List.getElem_cons_succ]
 try simp only[List.getElem_cons_zero]
 try simp only[List.setIfInBounds_toArray,List.set_cons_succ,List.set_cons_zero]
 refine rd1 9 ?_
 intro K0 hK0
 go_simp
 go_wp2_with (go_at_call 28;refine(HC2.out _).mono ?_;rintro e9 w4 ⟨rfl,rfl⟩)
 refine hK0.out _ _ (HS.out _ HD.out) (fun hHeld=>?_)
 clear hK0 K0
 try simp only[Act.put]
 try simp only[List.getElem_toArray]
 try simp only[List.getElem_cons_succ]
 try simp only[List.getElem_cons_zero]
 try simp only[List.setIfInBounds_toArray,List.set_cons_succ,List.set_cons_zero]
 refine rd1 10 ?_
 intro K0 hK0
 go_simp
 refine hK0.out _ _ (HS.out _ HSL.out) (fun hHeld=>?_)
 clear hK0 K0
 try simp only[Act.put]
 try simp only[List.getElem_toArray]
 try simp only[List.getElem_cons_succ]
 try simp only[List.getElem_cons_zero]
 try simp only[List.setIfInBounds_toArray,List.set_cons_succ,List.set_cons_zero]
 refine rd1 11 ?_
 intro K0 hK0
 go_simp
 go_wp2_with (go_at_call 27;refine HOR.out.mono ?_;rintro e9 w4 ⟨rfl,rfl⟩)
 refine hK0.out _ _ (HS.out _ HSL.out) (fun hHeld=>?_)
 clear hK0 K0
 try simp only[Act.put]
 try simp only[List.getElem_toArray]
 try simp only[List.getElem_cons_succ]
 try simp only[List.getElem_cons_zero]
 try  refine tq 4 12 (h:=?_)
 simp only[List.setIfInBounds_toArray,List.set_cons_succ,List.set_cons_zero]
 refine wpAnyH_done (by kernel_rfl) ?_ _
 go_wp2
 go_ret
 exact⟨rfl,1,_,HFIN.out⟩
theorem flatK_listU (d:Array (Int×Int)):(flatK encU 3 d).toList=flatU d.toList:=by
 apply List.ext_getElem?
 intro t
 by_cases ht:t<d.size*3
 · have hi:t / 3<d.toList.length:=by simp;omega
   have g:=flatU_get d.toList (t / 3) hi
   have e0 : (flatK encU 3 d)[t]! = (encU d[t / 3]!)[t % 3]! := get_flatK encU 3 d t ht
   have hsz:t<(flatK encU 3 d).size:=by simpa using ht
   have gd:d.toList.getD (t / 3) (0,0)=d[t / 3]!:=by
    have:t / 3<d.size:=by omega
    simp[List.getD,this]
   rw[Array.getElem?_toList,Array.getElem?_eq_getElem hsz]
   rw[getElem!_pos _ t hsz]at e0
   rw[e0]
   have h3:t%3=0∨t%3=1∨t%3=2:=by omega
   rcases h3 with h|h|h
   · have h2:t / 3*3=t:=by omega
     rw[h2]at g
     rw[h,g.1,gd]
     rfl
   · have h2:t / 3*3+1=t:=by omega
     rw[h2]at g
     rw[h,g.2.1,gd]
     rfl
   · have h2:t / 3*3+2=t:=by omega
     rw[h2]at g
     rw[h,g.2.2,gd]
     rfl
 · rw[List.getElem?_eq_none (by simp;omega),List.getElem?_eq_none (by rw[flatU_length];simp;omega)]
theorem holds_rowU {w:World} {g:Nat} {cur:Array Value} {l:List (Int×Int)} (hb:w.heap[g]?=some (.cells cur 51 (0,0))) (ht:cur.toList.take (l.length*3)=flatU l):HoldsK encU 3 w g 0 l.toArray:=by
 intro j hj
 have hj':j<l.length*3:=by simpa using hj
 have hl:(flatK encU 3 l.toArray).toList=flatU l:=flatK_listU l.toArray
 refine⟨?_,by simp[World.frozen?,hb]⟩
 have h1:cur.toList[j]?=(flatK encU 3 l.toArray).toList[j]?:=by rw[hl,<-ht,List.getElem?_take_of_lt hj']
 rw[Array.getElem?_toList,Array.getElem?_toList,Array.getElem?_eq_getElem hj]at h1
 unfold World.cell?
 rw[hb]
 simp only[Nat.zero_add,Option.isSome_none,Bool.false_eq_true,if_false]
 rw[h1,getElem!_pos _ j hj]
 rfl
theorem heap_afterU {w : World} {g n : Nat} {os : Array Obj} {cur : Array Value} (d : Array (Int × Int)) (hb : w.heap[g]? = some (.cells cur 51 (0, 0))) :
    (sortWorldK encU 3 w g 0 n d os).heap[g]?=some (.cells (putCells id 0 (flatK encU 3 d) cur) 51 (0,0)):=by
 have hg:g<w.heap.size:=(Array.getElem?_eq_some_iff.1 hb).1
 unfold sortWorldK putRowK
 rw[heap_grow_old _ _ (by simpa using hg)]
 simp[putRow,mapBlock,Sort.ahead,Array.getElem?_modify,hb,onCells]
theorem grown_afterU {w:World} {g n:Nat} {os:Array Obj} (d:Array (Int×Int)):w.grownBy (sortWorldK encU 3 w g 0 n d os) (some g):=by
 refine⟨rfl,rfl,rfl,by simp[sortWorldK,putRowK],fun k hk hne=>?_⟩
 unfold sortWorldK putRowK
 rw[heap_grow_old _ _ (by simpa using hk)]
 have:g≠k:=fun e=>hne (by rw[e])
 simp[putRow,mapBlock,Sort.ahead,Array.getElem?_modify,this]
theorem take_afterU (cur:Array Value) (d:Array (Int×Int)) (h:d.size*3<=cur.size):(putCells id 0 (flatK encU 3 d) cur).toList.take (d.size*3)=flatU d.toList:=by
 rw[<-flatK_listU]
 apply List.ext_getElem?
 intro j
 by_cases hj:j<d.size*3
 · rw[List.getElem?_take_of_lt hj,Array.getElem?_toList,Array.getElem?_toList]
   have h2:j<(flatK encU 3 d).size:=by simpa using hj
   rw[Array.getElem?_eq_getElem h2]
   simp only[putCells,Nat.zero_le,Nat.zero_add,true_and,Nat.sub_zero,Array.getElem?_mapIdx,Array.getElem?_eq_getElem (show j<cur.size by omega),Option.map_some,if_pos h2]
   rw[getElem!_pos _ j h2]
   rfl
 · rw[List.getElem?_take_eq_none (by omega),List.getElem?_eq_none (by simp;omega)]
theorem sort_two (base : Nat) (v : Value) (acc : List (Int × Int)) (w : World) (hn : acc.length < 4611686018427387904) (hrow : w.ownsRow base 51 3 v acc.length (flatU acc)) :
    Calls Try.prog 25 #[v,.func (.func 26) #[] #[]] w fun e w'=>e=.returned (.tuple #[])/\∃ l:List (Int×Int),l.Perm acc/\l.Pairwise (fun x y=>x.1<=y.1)/\w'.ownsRow base 51 3 v l.length (flatU l)/\w.grownBy w' v.ownBlock:=by
 rcases Nat.eq_zero_or_pos acc.length with h0|h0
 · have e0:acc=[]:=List.length_eq_zero_iff.1 h0
   subst e0
   have hcon:∀ p cap fv,Calls Try.prog 25 #[.slice p 0 cap,fv] w fun e w'=>e=.returned (.tuple #[])/\w'=w:=fun p cap fv=>AnyF.slices_SortFunc_none Try.sortTwo p cap fv w
   have hsl:∃ p cap,v=.slice p 0 cap:=by
    rcases hrow.2 with⟨hv,_⟩|⟨g,cap,cur,hv,_⟩
    · exact⟨_,_,hv⟩
    · exact⟨_,_,hv⟩
   obtain⟨p,cap,rfl⟩:=hsl
   refine(hcon p cap _).mono ?_
   rintro e w' ⟨rfl,rfl⟩
   exact⟨rfl,[],List.Perm.refl _,List.Pairwise.nil,hrow,⟨rfl,rfl,rfl,Nat.le_refl _,fun _ _ _=>rfl⟩⟩
 · rcases hrow.2 with⟨_,hz⟩|⟨g,cap,cur,rfl,hbase,hb,h1,h2,h3,h4⟩
   · omega
   have eg:∀ args w,(callFunc 26 args).run Try.prog w=.ok (.enter 26 args) w:=enters_of Try.func26 (by kernel_rfl) rfl
   have hgl:g<w.heap.size:=(Array.getElem?_eq_some_iff.1 hb).1
   have hcon:=AnyQ.slices_SortFunc Try.sortTwo 3 Try.isAgg51 Try.sizeOf51 encU (fun _=>rfl) (fun x v hv=>by simp[encU]at hv;rcases hv with rfl|rfl|rfl<;>rfl) (fun x y=>Lib.compareInt x.1 y.1) swoE 26 #[] g 0 cap acc.toArray w eg
    (fun _ _ _ _ x y=>less_two x y _) (holds_rowU hb h4) hgl (by simpa using hn)
   change Calls Try.prog 25 _ _ _ at hcon
   rw[List.size_toArray]at hcon
   refine hcon.mono ?_
   rintro e w' ⟨rfl,d',n,os,⟨hsz,_,hperm⟩,hsort,rfl⟩
   have hsz':d'.size=acc.length:=by simpa using hsz
   have hp:d'.toList.Perm acc:=by
    have e1:d'.extract 0 acc.length=d':=by rw[<-hsz'];simp
    have e2:acc.toArray.extract 0 acc.length=acc.toArray:=by simp
    rw[e1,e2]at hperm
    simpa using hperm
   refine⟨rfl,d'.toList,hp,?_,?_,grown_afterU d'⟩
   · rw[List.pairwise_iff_getElem]
     intro i j hi hj hij
     have hi':i<d'.size:=by simpa using hi
     have hj':j<d'.size:=by simpa using hj
     have:=hsort i j (Nat.zero_le _) hij (by omega)
     rw[ltE,getElem!_pos d' j hj',getElem!_pos d' i hi']at this
     simp only[decide_eq_false_iff_not]at this
     simp only[Array.getElem_toList]
     omega
   · have hlen:d'.toList.length=acc.length:=by simpa using hsz'
     rw[hlen]
     refine⟨by rw[flatU_length,hlen],.inr ⟨g,cap,_,rfl,hbase,heap_afterU d' hb,h1,h2,by simp[putCells,h3],?_⟩⟩
     have:=take_afterU cur d' (by rw[hsz',h3];omega)
     rw[hsz']at this
     exact this
end Go.Proofs.Ytefooihnoajnlaa.Poly
/- The walk of (terms.Pairs).InForm. -/
namespace Go.Proofs.Ytefooihnoajnlaa.Poly
open Go.RowKit Go.Maps
set_option maxHeartbeats 2000000
set_option maxRecDepth 100000
structure CollP (K:Nat) (f:Int->Int) (left:Lit->Bool) (acc:List (Int×Int)):Prop where
 mem:∀ e c,(e,c)∈acc↔(Inb K e/\left (klP e)=false/\f e=c/\c≠0)
 once:acc.Pairwise (fun a b=>a.1≠b.1)
theorem CollP.len {K:Nat} {f:Int->Int} {left:Lit->Bool} {acc:List (Int×Int)} (h:CollP K f left acc) (hK:K<=300):acc.length<=800001:=by
 have := few_intsB 400000 (acc.map (·.1)) (by rw [List.pairwise_map]; exact h.once) (fun x hx => by
  obtain⟨t,ht,rfl⟩:=List.mem_map.1 hx
  exact((h.mem t.1 t.2).1 ht).1.rg hK)
 simpa using this
theorem collP_start {W:World} {b n B K:Nat} {f:Int->Int} {D:DataW Unit} (h:PrD W b n B K f D) (hK:K<=300):CollP K f (Maps.has D) []:=
 ⟨fun e c => ⟨fun q => (by cases q), fun ⟨h1, h2, h3, h4⟩ => by
  rw[<-h.val e (h1.rg hK),co_none h2]at h3
  exact absurd h3.symm h4⟩,List.Pairwise.nil⟩
theorem collP_zero {K:Nat} {f:Int->Int} {left:Lit->Bool} {acc:List (Int×Int)} (h:CollP K f left acc) (hK:K<=300) {x:Int} (hx:Rg x) (h0:f x=0):CollP K f (fun z=>left z&&!z.sameKey (klP x)) acc:=by
 refine⟨fun e c=>?_,h.once⟩
 rw[h.mem]
 show _↔(Inb K e/\(left (klP e)&&!(klP e).sameKey (klP x))=false/\f e=c/\c≠0)
 constructor
 · rintro⟨h1,h2,h3,h4⟩
   refine⟨h1,?_,h3,h4⟩
   rw[left_struck left hx (h1.rg hK)]
   split
   · rfl
   · exact h2
 · rintro⟨h1,h2,h3,h4⟩
   rw[left_struck left hx (h1.rg hK)]at h2
   by_cases e1:e=x
   · rw[e1,h0]at h3;exact absurd h3.symm h4
   · rw[if_neg e1]at h2;exact⟨h1,h2,h3,h4⟩
theorem collP_more {K:Nat} {f:Int->Int} {left:Lit->Bool} {acc:List (Int×Int)} (h:CollP K f left acc) (hK:K<=300) {x c:Int} (hx:Inb K x) (hl:left (klP x)=true) (hc:c≠0) (hf:f x=c):CollP K f (fun z=>left z&&!z.sameKey (klP x)) (acc++[(x,c)]):=by
 refine⟨fun e d=>?_,?_⟩
 · show _↔(Inb K e/\(left (klP e)&&!(klP e).sameKey (klP x))=false/\f e=d/\d≠0)
   rw[List.mem_append,h.mem]
   constructor
   · rintro(⟨h1,h2,h3,h4⟩|h1)
     · refine⟨h1,?_,h3,h4⟩
       rw[left_struck left (hx.rg hK) (h1.rg hK)]
       split
       · rfl
       · exact h2
     · simp at h1
       obtain⟨rfl,rfl⟩:=h1
       exact⟨hx,by rw[left_struck left (hx.rg hK) (hx.rg hK),if_pos rfl],hf,hc⟩
   · rintro⟨h1,h2,h3,h4⟩
     rw[left_struck left (hx.rg hK) (h1.rg hK)]at h2
     by_cases e1:e=x
     · right
       rw[e1,hf]at h3
       simp[e1,h3]
     · rw[if_neg e1]at h2;exact Or.inl ⟨h1,h2,h3,h4⟩
 · rw[List.pairwise_append]
   refine⟨h.once,List.pairwise_singleton _ _,fun a ha b hb=>?_⟩
   simp at hb
   subst hb
   intro e
   have:=((h.mem a.1 a.2).1 ha).2.1
   rw[e]at this
   simp only at this
   rw[hl]at this
   cases this
theorem collP_end {K:Nat} {f:Int->Int} {left:Lit->Bool} {acc l:List (Int×Int)} (h:CollP K f left acc) (hl:∀ kl,left kl=false) (hs:∀ e,¬ Inb K e->f e=0) (hp:l.Perm acc) (ho:l.Pairwise (fun a b=>a.1<=b.1)):Canon l f:=
 ⟨rising_of hp ho h.once, fun x c => by
  rw[hp.mem_iff,h.mem]
  constructor
  · rintro⟨-,-,h3,h4⟩
    exact⟨h3,h4⟩
  · rintro⟨h3,h4⟩
    refine⟨Classical.byContradiction fun q=>?_,hl _,h3,h4⟩
    rw[hs x q]at h3
    exact h4 h3.symm⟩
theorem infoTwo:(Try.prog.info? 51).map (fun i=>(i.zero,i.size,i.bytes))=some (some (.agg #[.int .i64 0,.int .i64 0,.int .i64 0]),3,24):=by kernel_rfl
theorem new_three (W:World) (x y z:Value):∀ j u,[x,y,z][j]?=some u->(W.alloc (.cells #[x,y,z] 51)).cell? ((⟨W.heap.size,0,none⟩:Addr).add j)=some u:=by
 intro j u hj
 rw[Addr.add_lit,Nat.zero_add]
 have hh:(W.alloc (.cells #[x,y,z] 51)).heap[W.heap.size]?=some (.cells #[x,y,z] 51 (0,0)):=alloc_at rfl
 match j,hj with
 |0,hj=>simp at hj;subst hj;exact block_cell hh rfl
 |1,hj=>simp at hj;subst hj;exact block_cell hh rfl
 |2,hj=>simp at hj;subst hj;exact block_cell hh rfl
theorem three_one (a b c:Int):∀ u∈[Value.int .i64 a,Value.int .i64 b,Value.int .i64 c],u.oneCell'=true:=by
 intro u hu
 simp at hu
 rcases hu with rfl|rfl|rfl<;>rfl
theorem inform_pairs (b n B K : Nat) (f : Int → Int) (D : DataW Unit) (w : World) (hP : PrD w b n B K f D) (hK : K ≤ 300) :
    Calls Try.prog 14 #[.map (some b)] w fun e w'=>∃ v l,e=.returned v/\w'.ownsRow w.heap.size 51 3 v l.length (flatU l)/\Canon l f/\l.length<=800001/\Below w.heap.size w w':=by
 obtain⟨i0,hi,hz0,hz1,hz2⟩:=info_parts infoTwo
 have hbl:=hP.lt
 have HP:=hidH hP
 clear hP
 go_enter Try.func14,Try.ntmps14
 go_wp2_with (first|(at_range;refine wpList_range_own _ rfl _ 45 rfl 74 3 lawP Try.underlying45 _ b n _ rfl HP.out.own ?_;intro w0 hrg0 hg0 hs0)|go_in)
 go_frame
 go_loopw [3, 4, 5] (fun v _ _ wr => ∃ (left : Lit → Bool) (cnt : Nat) (acc : List (Int × Int)), wr.ranges Try.prog 74 (plainElem Try.prog 3) b w.heap.size n D left cnt ∧
     wr.ownsRow w.heap.size 51 3 v acc.length (flatU acc)/\Hid (CollP K f left acc)/\Below w.heap.size w wr)
  (fun _ _ _ wr=>wr.rangeLeft b w.heap.size)
 case atStart=>
  exact⟨_,_,[],hrg0,World.ownsRow_nil _ _ _ _,collP_start HP.out hK,(Below.refl _ _).grown hg0 (Nat.le_refl _) (fun j hj=>by cases hj)⟩
 case round=>
  rename_i u3 _ _
  obtain⟨left,cnt,acc,hrg,hrow,hC,hnx⟩:=hrel
  have hlen:=hC.out.len hK
  go_wp2_with (first
   |(at_next;refine wpList_next_ranges _ rfl _ rfl 74 lawP (plainElem Try.prog 3) (fun v:Value=>v) (fun c:Int=>Value.int .i64 c) (fun key _ _=>⟨key,rfl⟩) (fun v y hv=>by obtain⟨c,e,-⟩:=plainElem_int_inv Try.underlying3 hv;exact⟨c,e⟩) b w.heap.size n _ _ _ rfl hrg ?_ ?_)
   |go_in)
  · intro hc0 hl0
    have hc:=sort_two w.heap.size _ acc _ (by omega) hrow
    go_wp2_with (go_at_call 25;refine hc.mono ?_;rintro e w' ⟨rfl,l,hp,hs,hrow2,hg2⟩)
    go_ret
    refine⟨_,l,rfl,hrow2,collP_end hC.out hl0 HP.out.sup hp hs,by rw[hp.length_eq];exact hlen,hnx.grown hg2 hnx.size (fun k hk=>(hrow.lt k hk).1)⟩
  · intro x cq kl y yp w1 cnt1 hkey hlk hRy hat hrg1 hlt hg1 hs1 hen
    obtain⟨c',ec,hyc,hwc⟩:=plainElem_int_inv Try.underlying3 hRy
    have hc':cq=c':=by injection ec
    rw[show y=.lit (.int .i64 c') from congrArg Prod.fst hyc,<-hc']at hat
    obtain⟨e0,he0,rfl,rfl,hcg⟩:=key_val HP.out hK hkey hat
    unfold prV at hen
    have hrow1:=hrow.kept hg1 (Or.inr (row_ne_iter hrow hrg).symm)
    have hnx1:Below w.heap.size w w1:=hnx.grown hg1 hnx.size (fun j hj=>by cases hj;exact Nat.le_refl _)
    have HE0:=hidH he0
    have HCG:=hidH hcg
    have HLK:=hidH hlk
    have hsz1:=hnx1.size
    obtain⟨x1,hx1⟩:∃ x1,dx e0=x1:=⟨_,rfl⟩
    obtain⟨z1,hz1'⟩:∃ z1,dz e0=z1:=⟨_,rfl⟩
    have HX1:Hid (dx e0=x1/\dz e0=z1):=⟨hx1,hz1'⟩
    rw[hx1,hz1']at hen
    have HRG:=hidH hrg1
    have HRO:=hidH hrow1
    have HNX:=hidH hnx1
    clear hs1 hat hkey hRy he0 hcg hlk hyc ec hwc hc' hx1 hz1' hrg1 hrow1 hnx1
    obtain⟨V2,hV2⟩:∃ V2,w1.alloc (.cells #[.int .i64 x1,.int .i64 z1] 74)=V2:=⟨_,rfl⟩
    have hgV:w1.grownBy V2 none:=by rw[<-hV2];exact World.grownBy_alloc _ _ none
    have hbV:V2.heap[w1.heap.size]?=some (.cells #[.int .i64 x1,.int .i64 z1] 74 (0,0)):=by rw[<-hV2];exact alloc_at rfl
    have v0:V2.cell? ⟨w1.heap.size,0,none⟩=some (.int .i64 x1):=block_cell hbV rfl
    have v1:V2.cell? ⟨w1.heap.size,1,none⟩=some (.int .i64 z1):=block_cell hbV rfl
    have HV2:=hidH hV2
    have HR2:=hidH (HRG.out.kept hgV (by simp) (by simp))
    have HW2:Hid (V2.ownsRow w.heap.size 51 3 u3 acc.length (flatU acc)):=(by rw[<-hV2];exact HRO.out.alloc _:V2.ownsRow w.heap.size 51 3 u3 acc.length (flatU acc))
    have HN2:=hidH (HNX.out.grown hgV HNX.out.size (fun q hq=>by cases hq))
    have hs2:=hgV.size
    have hlv:w1.heap.size<V2.heap.size:=(Array.getElem?_eq_some_iff.1 hbV).1
    clear hgV hbV hV2
    by_cases hc:cq=0
    · have hb0:(cq != 0)=false:=by simp[hc]
      have HC0:=hidH hc
      clear hc
      go_upto_region 5 with(fail)
      rw[HV2.out]
      go_wp2
      go_roundw
      case rel=>exact⟨_,cnt1,acc,HR2.out,HW2.out,collP_zero hC.out hK (HE0.out.rg hK) (by rw[<-HCG.out];exact HC0.out),HN2.out⟩
      case measure=>rw[HR2.out.left_eq,hrg.left_eq];exact hlt
    · have hcb:(cq != 0)=true:=by rw[bne_iff_ne];exact hc
      have HC0:=hidH hc
      clear hc
      go_upto_region 5 with(fail)
      rw[HV2.out]
      go_wp2_with (first
       |(at_builtin;refine wpList_append_own _ rfl _ _ 25 rfl w.heap.size 51 i0 (.agg #[.int .i64 0,.int .i64 0,.int .i64 0]) 3 24 Try.underlying25 hi hz0 hz1 hz2 rfl (by decide) _ _ _ rfl (HW2.out.alloc _) ⟨V2.heap.size,0,none⟩ 1 1 [.int .i64 x1,.int .i64 z1,.int .i64 cq] rfl rfl (new_three _ _ _ _) (three_one _ _ _) (by unfold maxLen;omega) (by omega) (by simp;omega) ?_;intro v' w3 hown' hg3 _;go_frame)
       |go_in)
      have hrg3:=(HR2.out.alloc _).kept hg3 (row_ne_low HW2.out hbl) (row_ne_iter HW2.out HR2.out)
      go_roundw
      case rel=>
       refine⟨_,cnt1,acc++[(e0,cq)],hrg3,?_,collP_more hC.out hK HE0.out HLK.out HC0.out HCG.out.symm,(HN2.out.alloc HN2.out.size _).grown hg3 (by simp;have:=HN2.out.size;omega) (fun j hj=>(HW2.out.lt j hj).1)⟩
       rw[flatU_append,List.length_append]
       show w3.ownsRow w.heap.size 51 3 v' (acc.length+1) (flatU acc++[.int .i64 (dx e0),.int .i64 (dz e0),.int .i64 cq])
       rw[HX1.out.1,HX1.out.2]
       exact hown'
      case measure=>rw[hrg3.left_eq,hrg.left_eq];exact hlt
end Go.Proofs.Ytefooihnoajnlaa.Poly

/- Several texts of the proof, one behind the other. -/
import Derived.Test.YtmnejkaihjpejaaGreatDoorW1P
import Derived.Test.YtmnejkaihjpejaaGreatDoorBaseP
import Derived.Lib.Hide
import Derived.Test.YtmnejkaihjpejaaGreatDoorBK1P
/- A row that is taken from at its head and appended to at its end: in the world, and the step of append upon it. -/
namespace Go.Proofs.YtmnejkaihjpejaaGreatDoor
open Go.RowKit
def QueAt (w:World) (base:Nat) (e:TypeId) (v:Value) (xs:List Value):Prop:=
 ∃ g off cap cur,v=.slice (some ⟨g,off,none⟩) xs.length cap/\base<=g/\w.heap[g]?=some (.cells cur e (0,0))/\xs.length<=cap/\cap<=maxLen/\off+cap<=cur.size/\(cur.toList.drop off).take xs.length=xs
theorem QueAt.kept {w w':World} {base:Nat} {e:TypeId} {v:Value} {xs:List Value} {row:Option Nat} (h:QueAt w base e v xs) (hg:w.grownBy w' row) (hne:v.ownBlock≠row):QueAt w' base e v xs:=by
 obtain⟨g,off,cap,cur,rfl,hb,hgg,rest⟩:=h
 refine⟨g,off,cap,cur,rfl,hb,?_,rest⟩
 rw[hg.block g (Array.getElem?_eq_some_iff.1 hgg).1 (by simpa[Value.ownBlock] using hne)]
 exact hgg
theorem QueAt.lt {w:World} {base:Nat} {e:TypeId} {v:Value} {xs:List Value} (h:QueAt w base e v xs):∀ k,v.ownBlock=some k->base<=k/\k<w.heap.size:=by
 intro k hk
 obtain⟨g,off,cap,cur,rfl,hb,hgg,rest⟩:=h
 have e:=Option.some.inj hk
 have e2:g=k:=e
 subst e2
 exact⟨hb,(Array.getElem?_eq_some_iff.1 hgg).1⟩
theorem QueAt.shape {w:World} {base:Nat} {e:TypeId} {v:Value} {xs:List Value} (h:QueAt w base e v xs):∃ g off cap,v=.slice (some ⟨g,off,none⟩) xs.length cap/\xs.length<=cap:=by
 obtain⟨g,off,cap,cur,rfl,_,_,h2,_⟩:=h
 exact⟨g,off,cap,rfl,h2⟩
theorem QueAt.size {w:World} {base g off n cap:Nat} {e:TypeId} {xs:List Value} (h:QueAt w base e (.slice (some ⟨g,off,none⟩) n cap) xs):n=xs.length/\n<=cap/\cap<=maxLen/\base<=g/\g<w.heap.size:=by
 obtain⟨g',off',cap',cur,ev,hb,hgg,h1,h2,_⟩:=h
 injection ev with e1 e2 e3
 injection e1 with e1
 injection e1 with e4 e5
 subst e4 e2 e3
 exact⟨rfl,h1,h2,hb,(Array.getElem?_eq_some_iff.1 hgg).1⟩
theorem QueAt.cell {w:World} {base g off n cap:Nat} {e:TypeId} {xs:List Value} (h:QueAt w base e (.slice (some ⟨g,off,none⟩) n cap) xs) (j:Nat) (u:Value) (hj:xs[j]?=some u):w.cell? ⟨g,off+j,none⟩=some u:=by
 obtain⟨g',off',cap',cur,ev,hb,hgg,h1,h2,h3,h4⟩:=h
 injection ev with e1 e2 e3
 injection e1 with e1
 injection e1 with e4 e5
 subst e4 e5
 rw[cell_of_row w g _ cur e (0,0) hgg]
 rw[<-h4,List.getElem?_take]at hj
 split at hj
 · rw[List.getElem?_drop]at hj
   simpa using hj
 · cases hj
theorem QueAt.tail {w:World} {base g off n cap:Nat} {e:TypeId} {x:Value} {xs:List Value} (h:QueAt w base e (.slice (some ⟨g,off,none⟩) n cap) (x::xs)):QueAt w base e (.slice (some ⟨g,off+1,none⟩) (n-1) (cap-1)) xs:=by
 obtain⟨g',off',cap',cur,ev,hb,hgg,h1,h2,h3,h4⟩:=h
 injection ev with e1 e2 e3
 injection e1 with e1
 injection e1 with e4 e5
 subst e4 e5 e3
 simp only[List.length_cons]at e2 h1 h4
 refine⟨g,off+1,cap-1,cur,by rw[e2];simp,hb,hgg,by omega,by omega,by omega,?_⟩
 have h5:((cur.toList.drop off).take (xs.length+1)).drop 1=xs:=by rw[h4];rfl
 rw[List.drop_take,List.drop_drop]at h5
 simpa using h5
theorem QueAt.tail1 {w:World} {base g off n:Nat} {e:TypeId} {x:Value} {xs:List Value} (h:QueAt w base e (.slice (some ⟨g,off,none⟩) n 1) (x::xs)):QueAt w base e (.slice (some ⟨g,off,none⟩) (n-1) 0) xs/\xs=[]:=by
 obtain⟨g',off',cap',cur,ev,hb,hgg,h1,h2,h3,h4⟩:=h
 injection ev with e1 e2 e3
 injection e1 with e1
 injection e1 with e4 e5
 subst e4 e5 e3
 simp only[List.length_cons]at e2 h1 h4
 have hx:xs=[]:=List.length_eq_zero_iff.1 (by omega)
 subst hx
 exact⟨⟨g,off,0,cur,by rw[e2];simp,hb,hgg,Nat.zero_le _,Nat.zero_le _,by omega,by simp⟩,rfl⟩
theorem QueAt.made {w:World} {base g n cap:Nat} {e:TypeId} {xs:List Value} (h:w.ownsRow base e 1 (.slice (some ⟨g,0,none⟩) n cap) n xs):QueAt w base e (.slice (some ⟨g,0,none⟩) n cap) xs:=by
 obtain⟨hl,h⟩:=h
 rcases h with⟨h,_⟩|⟨g',cap',cur,ev,hb,hgg,h1,h2,h3,h4⟩
 · cases h
 · injection ev with e1 e2 e3
   injection e1 with e1
   injection e1 with e4
   subst e4 e3
   rw[Nat.mul_one]at hl h3 h4
   exact⟨g,0,cap,cur,by rw[hl],hb,hgg,by omega,h2,by omega,by rw[hl];simpa using h4⟩
theorem run_append_que {P : Program} (w : World) (base : Nat) (t ty e : TypeId) (i : TypeInfo) (z : Value) (bytes : Nat) (ht : P.underlying t = some (.slice e)) (hi : P.info? e = some i) (hz : i.zero = some z)
    (hsize:i.size=1) (hby:i.bytes=bytes) (hzs:z.cells.size=1)
    (v:Value) (xs:List Value) (hown:QueAt w base e v xs)
    (a:Addr) (c:Nat) (u:Value) (hnews:w.cell? a=some u) (h1:u.oneCell'=true)
    (h63:xs.length+1<=maxLen) (hbytes:(xs.length+1)*bytes<=140737488355328) (hbase:base<=w.heap.size):
    ∃ v' w',(Builtin.append_ #[t,t] ty #[v,.slice (some a) 1 c]).run P w=.ok v' w'/\QueAt w' base e v' (xs++[u])/\w.grownBy w' v.ownBlock:=by
 subst hby
 have hsmall:xs.length+1<=9223372036854775807:=by simp only[maxLen]at h63;omega
 have hl:[u].length=1*i.size:=by rw[hsize];rfl
 have hcells:∀ j v,[u][j]?=some v->w.cell? (a.add j)=some v:=by
  intro j v hj
  cases j with
  |zero=>
   have e:v=u:=by simpa using hj.symm
   subst e
   have ha:a.add 0=a:=by unfold Addr.add;split<;>simp_all
   rw[ha]
   exact hnews
  |succ j=>simp at hj
 obtain⟨g,off,cap,cur,rfl,hb,hgg,hnc,hcm,hcs,htake⟩:=hown
 by_cases hroom:xs.length+1<=cap
 · have hf:=run_firstCells_some (P:=P) w i.size 1 a 1 c [u] hl hcells
   have hst:=run_storeCells_at P g (off+xs.length) e [u] 0 cur w hgg (by simp;omega) (by simpa using h1)
   simp only[Nat.add_zero]at hst
   refine⟨.slice (some ⟨g,off,none⟩) (xs.length+1) cap,w.setRow g (cur.toList.take (off+xs.length)++[u]++cur.toList.drop (off+xs.length+[u].length)).toArray,?_,⟨g,off,cap,_,by simp,hb,setRow_heap w g cur _ e _ hgg,by simpa using hroom,hcm,?_,?_⟩,⟨rfl,rfl,rfl,by simp,fun k _ hk=>setRow_other w g k _ (fun e=>hk (by simp[Value.ownBlock,e]))⟩⟩
   · rw[hsize]at hf
     simp[Builtin.append_,run_underlying ht,sizeOf,typeInfo,hi,hsize,Builtin.lenOf,hroom,hf,Addr.add_lit]
     simp at hst
     simp[hst]
   · simp only[List.size_toArray,List.length_append,List.length_take,List.length_drop,Array.length_toList,List.length_cons,List.length_nil]
     omega
   · have h5:(cur.toList.take (off+xs.length)).drop off=xs:=by rw[List.drop_take,Nat.add_sub_cancel_left];exact htake
     simp only[List.append_assoc]
     rw[List.drop_append_of_le_length (by simp;omega),h5,<-List.append_assoc]
     exact List.take_left
 · have holds : ∀ j v, xs[j]? = some v → w.cell? ((⟨g, off, none⟩ : Addr).add j) = some v := fun j v hj => by
     have hadd:(⟨g,off,none⟩:Addr).add j=⟨g,off+j,none⟩:=by unfold Addr.add;split<;>simp_all
     rw[hadd]
     exact QueAt.cell (⟨g,off,cap,cur,rfl,hb,hgg,hnc,hcm,hcs,htake⟩:QueAt w base e (.slice (some ⟨g,off,none⟩) xs.length cap) xs) j v hj
   have hr:=run_append_grow (P:=P) w t ty e i z ht hi hz ⟨g,off,none⟩ xs.length cap xs (by rw[hsize,Nat.mul_one]) holds a 1 c [u] hl hcells (by omega) (by omega) (growslice_fits (by omega) hbytes)
   have hge:=grownCap_ge w (xs.length+1) cap e
   refine⟨_,_,hr,⟨w.heap.size,0,_,_,by simp,hbase,heap_alloc_new w.drew _,by simpa using hge,grownCap_le_maxLen w (xs.length+1) cap e h63,?_,?_⟩,⟨rfl,rfl,rfl,by simp,fun k hk _=>Array.getElem?_push_lt hk▸(Array.getElem?_eq_getElem hk).symm⟩⟩
   · simp only[Array.size_append,List.size_toArray,size_zeroCells,hzs,List.length_cons,List.length_nil]
     omega
   · simp only[Array.toList_append,List.drop_zero]
     exact List.take_left
theorem wpList_append_que {P : Program} (w : World) {ops : Array Oper} {rest : List Oper} {o : Oper} {a : Act} {Q : Exit → Act → World → Prop} (hgd : o.guard = none) (s x : Operand) (t : TypeId)
    (ho:o.op=.call { callee:=.builtin .append,args:=#[s,x],argTypes:=#[t,t] })
    (base:Nat) (e:TypeId) (i:TypeInfo) (z:Value) (bytes:Nat) (ht:P.underlying t=some (.slice e)) (hi:P.info? e=some i) (hz:i.zero=some z)
    (hsize:i.size=1) (hby:i.bytes=bytes) (hzs:z.cells.size=1)
    (v:Value) (xs:List Value) (hs:a.eval s=v) (hown:QueAt w base e v xs)
    (ad:Addr) (c:Nat) (u:Value) (hx:a.eval x=.slice (some ad) 1 c) (hnews:w.cell? ad=some u) (h1:u.oneCell'=true)
    (h63:xs.length+1<=maxLen) (hbytes:(xs.length+1)*bytes<=140737488355328) (hbase:base<=w.heap.size)
    (h:∀ v' w',QueAt w' base e v' (xs++[u])->w.grownBy w' v.ownBlock->wpList P ops Q rest (a.put o.dst v') w'):wpList P ops Q (o::rest) a w:=by
 refine wpList_plain hgd fun _ hK=>?_
 obtain⟨v',w',hr,h2,h3⟩:=run_append_que (P:=P) w base t o.type e i z bytes ht hi hz hsize hby hzs v xs hown ad c u hnews h1 h63 hbytes hbase
 unfold Oper.wp execOp
 simp only[ho,resolve,invoke,builtin,Sem.run_bind,Sem.run_pure,Result.andThen_ok,List.map_toArray,List.map_cons,List.map_nil,hs,hx,hr]
 exact hK _ _ (h v' w' h2 h3)
end Go.Proofs.YtmnejkaihjpejaaGreatDoor
/- The walks of Drawing.End, Drawing.Onward, way; ref.dartCode, ref.NextDart. -/
namespace Go.Proofs.YtmnejkaihjpejaaGreatDoor
open Go.RowKit
set_option maxHeartbeats 2000000
set_option maxRecDepth 100000
theorem Dr.endAt {w : World} {a : Option Addr} {cap : Nat} {C : List Cr} {gF gT : Nat} {loops : Int} (h : Dr w a cap C gF gT) (hm : mayD C loops = true) (x : Nat) (h1 : 1 ≤ x) (h2 : x ≤ 2 * C.length) :
    w.cell? ⟨gT,x*2,none⟩=some (.int .i64 (enC C x true:Nat))/\w.cell? ⟨gT,x*2+1,none⟩=some (.int .i64 (enS C x true:Nat))/\w.cell? ⟨gF,x*2,none⟩=some (.int .i64 (enC C x false:Nat))/\w.cell? ⟨gF,x*2+1,none⟩=some (.int .i64 (enS C x false:Nat)):=by
 have hT:=h.to x (by rw[ends_length];omega)
 have hF:=h.from_ x (by rw[ends_length];omega)
 rw[ends_at C true C.length 0 x h1 h2,Nat.zero_add]at hT
 rw[ends_at C false C.length 0 x h1 h2,Nat.zero_add]at hF
 have e:endAh C x true C.length 0=endTo C x true C.length:=rfl
 have e2:endAh C x false C.length 0=endTo C x false C.length:=rfl
 rw[e,(en_may hm x true h1 h2).1]at hT
 rw[e2,(en_may hm x false h1 h2).1]at hF
 exact⟨hT.1,hT.2,hF.1,hF.2⟩
theorem end_any (a : Option Addr) (cap : Nat) (C : List Cr) (loops : Int) (gF cF gT cT : Nat) (x : Nat) (p : Bool) (w : World) (hm : mayD C loops = true) (h1 : 1 ≤ x) (h2 : x ≤ 2 * C.length) (hD : Dr w a cap C gF gT) :
    Calls Tryz.prog 66 #[drV a cap C loops gF cF gT cT,.agg #[.int .i64 x,.bool p]] w fun e w'=>e=.returned (.agg #[.int .i64 (enC C x (!p):Nat),.int .i64 (enS C x (!p):Nat)])/\Below w.heap.size w w':=by
 unfold drV
 obtain⟨c0,c1,c2,c3⟩:=hD.endAt hm x h1 h2
 have l1:=hD.ltT
 have l2:=hD.ltF
 clear hD
 have hB3:Below w.heap.size w (((w.alloc (.cells #[.slice a C.length cap,.int .i64 loops,.slice (some ⟨gF,0,none⟩) (2*C.length+1) cF,.slice (some ⟨gT,0,none⟩) (2*C.length+1) cT] 41)).alloc (.cells #[.int .i64 x,.bool p] 81)).alloc (.cells #[.int .i64 0,.int .i64 0] 121)):=below3 _ _ _ _
 have d0:=bcell hB3 l1 c0
 have d1:=bcell hB3 l1 c1
 have d2:=bcell hB3 l2 c2
 have d3:=bcell hB3 l2 c3
 clear hB3 c0 c1 c2 c3
 obtain⟨t0,ht0⟩:∃ t0,enC C x true=t0:=⟨_,rfl⟩
 obtain⟨t1,ht1⟩:∃ t1,enS C x true=t1:=⟨_,rfl⟩
 obtain⟨f0,hf0⟩:∃ f0,enC C x false=f0:=⟨_,rfl⟩
 obtain⟨f1,hf1⟩:∃ f1,enS C x false=f1:=⟨_,rfl⟩
 rw[ht0]at d0
 rw[ht1]at d1
 rw[hf0]at d2
 rw[hf1]at d3
 have hx:x<2*C.length+1:=by omega
 cases p with
 |true=>
  have hG:(((w.alloc (.cells #[.slice a C.length cap,.int .i64 loops,.slice (some ⟨gF,0,none⟩) (2*C.length+1) cF,.slice (some ⟨gT,0,none⟩) (2*C.length+1) cT] 41)).alloc (.cells #[.int .i64 x,.bool true] 81)).alloc (.cells #[.int .i64 f0,.int .i64 f1] 121)).heap[w.heap.size+1+1]?=some (.cells #[.int .i64 f0,.int .i64 f1] 121 (0,0)):=alloc_at (by simp)
  have x0:=block_cell (i:=0) (v:=.int .i64 f0) hG rfl
  have x1:=block_cell (i:=1) (v:=.int .i64 f1) hG rfl
  have HB:Hid (Below w.heap.size w (((w.alloc (.cells #[.slice a C.length cap,.int .i64 loops,.slice (some ⟨gF,0,none⟩) (2*C.length+1) cF,.slice (some ⟨gT,0,none⟩) (2*C.length+1) cT] 41)).alloc (.cells #[.int .i64 x,.bool true] 81)).alloc (.cells #[.int .i64 f0,.int .i64 f1] 121))):=below3 _ _ _ _
  clear hG
  go_enter Tryz.func66,Tryz.ntmps66
  go_wp2
  exact bodyPost_ret (v:=.agg #[.int .i64 f0,.int .i64 f1]) (by simp[results,Tryz.results66,go_sem,x0,x1]) rfl ⟨by simp[hf0,hf1],HB.out⟩
 |false=>
  have hG:(((w.alloc (.cells #[.slice a C.length cap,.int .i64 loops,.slice (some ⟨gF,0,none⟩) (2*C.length+1) cF,.slice (some ⟨gT,0,none⟩) (2*C.length+1) cT] 41)).alloc (.cells #[.int .i64 x,.bool false] 81)).alloc (.cells #[.int .i64 t0,.int .i64 t1] 121)).heap[w.heap.size+1+1]?=some (.cells #[.int .i64 t0,.int .i64 t1] 121 (0,0)):=alloc_at (by simp)
  have x0:=block_cell (i:=0) (v:=.int .i64 t0) hG rfl
  have x1:=block_cell (i:=1) (v:=.int .i64 t1) hG rfl
  have HB:Hid (Below w.heap.size w (((w.alloc (.cells #[.slice a C.length cap,.int .i64 loops,.slice (some ⟨gF,0,none⟩) (2*C.length+1) cF,.slice (some ⟨gT,0,none⟩) (2*C.length+1) cT] 41)).alloc (.cells #[.int .i64 x,.bool false] 81)).alloc (.cells #[.int .i64 t0,.int .i64 t1] 121))):=below3 _ _ _ _
  clear hG
  go_enter Tryz.func66,Tryz.ntmps66
  go_wp2
  exact bodyPost_ret (v:=.agg #[.int .i64 t0,.int .i64 t1]) (by simp[results,Tryz.results66,go_sem,x0,x1]) rfl ⟨by simp[ht0,ht1],HB.out⟩
theorem way_any (x : Int) (p : Bool) (w : World) :
    Calls Tryz.prog 61 #[.agg #[.int .i64 x,.bool p]] w fun e w'=>e=.returned (.int .i64 (if p=true then 1 else 0))/\Below w.heap.size w w':=by
 go_enter Tryz.func61,Tryz.ntmps61
 cases p with
 |true=>
  go_wp2
  go_ret
  exact⟨rfl,(Below.refl _ _).alloc (Nat.le_refl _) _⟩
 |false=>
  go_wp2
  go_ret
  exact⟨rfl,(Below.refl _ _).alloc (Nat.le_refl _) _⟩
end Go.Proofs.YtmnejkaihjpejaaGreatDoor
/- Visits: lists of them that a call owns; the walks of gauss.visits and gauss.signs. -/
namespace Go.Proofs.YtmnejkaihjpejaaGreatDoor
open Go.RowKit
def vflat (V:List (Nat×Bool)):List Value:=V.flatMap fun t=>[.int .i64 (t.1:Nat),.bool t.2]
theorem vflat_append (l m:List (Nat×Bool)):vflat (l++m)=vflat l++vflat m:=by simp[vflat]
theorem vflat_get (l:List (Nat×Bool)) (i:Nat) (hi:i<l.length):(vflat l)[i*2]?=some (.int .i64 ((l.getD i (0,false)).1:Nat))/\(vflat l)[i*2+1]?=some (.bool (l.getD i (0,false)).2):=by
 induction l generalizing i with
 |nil=>simp at hi
 |cons t l ih=>
  have e:vflat (t::l)=.int .i64 (t.1:Nat)::.bool t.2::vflat l:=rfl
  cases i with
  |zero=>rw[e];exact⟨rfl,rfl⟩
  |succ i=>
   have:=ih i (by simpa using hi)
   rw[e,show(i+1)*2=i*2+1+1 by omega]
   exact this
theorem vflat_one (l:List (Nat×Bool)):∀ u∈vflat l,u.oneCell'=true:=by
 intro u hu
 simp only[vflat,List.mem_flatMap]at hu
 obtain⟨t,_,ht⟩:=hu
 simp at ht
 rcases ht with rfl|rfl<;>rfl
def WksAt (w:World) (v:Value) (L:List (List Nat)):Prop:=∃ ys:List Value,ys.length=L.length/\Slots w w.heap.size v ys/\∀ j,j<L.length->Slots w w.heap.size (ys.getD j (.bool false)) (nats (L.getD j []))
theorem WksAt.on {w w':World} {v:Value} {L:List (List Nat)} (h:WksAt w v L) (hb:Below w.heap.size w w'):WksAt w' v L:=by
 obtain⟨ys,h1,h2,h3⟩:=h
 exact⟨ys,h1,(h2.on hb).mono hb.size,fun j hj=>((h3 j hj).on hb).mono hb.size⟩
end Go.Proofs.YtmnejkaihjpejaaGreatDoor
/- The walk of gauss.signs; rows of visits and of signs that are the same. -/
namespace Go.Proofs.YtmnejkaihjpejaaGreatDoor
open Go.RowKit
def VS (w:World) (v:Value) (V:List (Nat×Bool)):Prop:=∃ a cap,v=.slice a V.length cap/\(0<V.length->∃ b off,a=some ⟨b,off,none⟩/\b<w.heap.size/\∀ i,i<V.length->w.cell? ⟨b,off+i*2,none⟩=some (.int .i64 ((V.getD i (0,false)).1:Nat))/\w.cell? ⟨b,off+i*2+1,none⟩=some (.bool (V.getD i (0,false)).2))
def VsAt (w:World) (v:Value) (L:List (List (Nat×Bool))):Prop:=∃ ys:List Value,ys.length=L.length/\Slots w w.heap.size v ys/\∀ j,j<L.length->VS w (ys.getD j (.bool false)) (L.getD j [])
theorem VS.on {w w':World} {v:Value} {V:List (Nat×Bool)} (h:VS w v V) (hb:Below w.heap.size w w'):VS w' v V:=by
 obtain⟨a,cap,rfl,g⟩:=h
 refine⟨a,cap,rfl,fun hp=>?_⟩
 obtain⟨b,off,rfl,hlt,hc⟩:=g hp
 exact⟨b,off,rfl,Nat.lt_of_lt_of_le hlt hb.size,fun i hi=>⟨bcell hb hlt (hc i hi).1,bcell hb hlt (hc i hi).2⟩⟩
theorem VsAt.on {w w':World} {v:Value} {L:List (List (Nat×Bool))} (h:VsAt w v L) (hb:Below w.heap.size w w'):VsAt w' v L:=by
 obtain⟨ys,h1,h2,h3⟩:=h
 exact⟨ys,h1,(h2.on hb).mono hb.size,fun j hj=>(h3 j hj).on hb⟩
end Go.Proofs.YtmnejkaihjpejaaGreatDoor
/- Lists of whole numbers that a call owns; the walk of gauss.evenNumbers. -/
namespace Go.Proofs.YtmnejkaihjpejaaGreatDoor
open Go.RowKit
def intsV (l:List Int):List Value:=l.map fun x=>.int .i64 x
theorem intsV_len (l:List Int):(intsV l).length=l.length:=by simp[intsV]
theorem intsV_get (l:List Int) (i:Nat) (h:i<l.length):(intsV l)[i]?=some (.int .i64 (l.getD i 0)):=by simp[intsV,List.getD,h]
theorem intsV_set (l:List Int) (i:Nat) (x:Int):(intsV l).set i (.int .i64 x)=intsV (l.set i x):=by simp[intsV,List.map_set]
theorem made_zero (n:Nat):(madeCells (Value.int .i64 0).cells (n*1)).toList=intsV (List.replicate n 0):=by
 have e:(Value.int .i64 0).cells=#[Value.int .i64 0]:=rfl
 rw[e,toList_madeCells_one,Nat.mul_one]
 simp[intsV]
end Go.Proofs.YtmnejkaihjpejaaGreatDoor
/- Slices that are read; lists of numbers that stand in a function's values; which walk an arc lies in. -/
namespace Go.Proofs.YtmnejkaihjpejaaGreatDoor
open Go.RowKit
def RdAt (w:World) (B size:Nat) (v:Value) (n:Nat) (xs:List Value):Prop:=∃ a cap,v=.slice a n cap/\(0<n->∃ b off,a=some ⟨b,off,none⟩/\b<B/\∀ j,j<n*size->w.cell? ⟨b,off+j,none⟩=xs[j]?)
theorem RdAt.on {w w':World} {B size n:Nat} {v:Value} {xs:List Value} (h:RdAt w B size v n xs) (hb:Below B w w'):RdAt w' B size v n xs:=by
 obtain⟨a,cap,rfl,f⟩:=h
 refine⟨a,cap,rfl,fun h0=>?_⟩
 obtain⟨b,off,rfl,hlt,hc⟩:=f h0
 exact⟨b,off,rfl,hlt,fun j hj=>bcell hb hlt (hc j hj)⟩
theorem RdAt.mono {w:World} {B B' size n:Nat} {v:Value} {xs:List Value} (h:RdAt w B size v n xs) (hB:B<=B'):RdAt w B' size v n xs:=by
 obtain⟨a,cap,rfl,f⟩:=h
 refine⟨a,cap,rfl,fun h0=>?_⟩
 obtain⟨b,off,rfl,hlt,hc⟩:=f h0
 exact⟨b,off,rfl,Nat.lt_of_lt_of_le hlt hB,hc⟩
theorem own_rd {w:World} {B e size n:Nat} {v:Value} {xs:List Value} (h:w.ownsRow B e size v n xs):RdAt w w.heap.size size v n xs:=by
 have h0:=h
 rcases h.2 with⟨rfl,h1⟩|⟨g,cap,cur,rfl,_,_,_⟩
 · exact⟨none,0,by rw[h1],fun hp=>by omega⟩
 · exact⟨some ⟨g,0,none⟩,cap,rfl,fun _=>⟨g,0,rfl,(h0.lt g rfl).2,fun j hj=>by rw[Nat.zero_add];exact h0.cellAt j hj⟩⟩
def NatsRd (w:World) (B:Nat) (v:Value) (L:List (List Nat)):Prop:=∃ ys:List Value,ys.length=L.length/\RdAt w B 1 v L.length ys/\∀ j,j<L.length->RdAt w B 1 (ys.getD j (.bool false)) (L.getD j []).length (nats (L.getD j []))
theorem NatsRd.on {w w':World} {B:Nat} {v:Value} {L:List (List Nat)} (h:NatsRd w B v L) (hb:Below B w w'):NatsRd w' B v L:=by
 obtain⟨ys,hy,h1,h2⟩:=h
 exact⟨ys,hy,h1.on hb,fun j hj=>(h2 j hj).on hb⟩
theorem NatsRd.mono {w:World} {B B':Nat} {v:Value} {L:List (List Nat)} (h:NatsRd w B v L) (hB:B<=B'):NatsRd w B' v L:=by
 obtain⟨ys,hy,h1,h2⟩:=h
 exact⟨ys,hy,h1.mono hB,fun j hj=>(h2 j hj).mono hB⟩
theorem NatsRd.up {w w':World} {v:Value} {L:List (List Nat)} (h:NatsRd w w.heap.size v L) (hb:Below w.heap.size w w'):NatsRd w' w'.heap.size v L:=(h.on hb).mono hb.size
theorem NatsOwn.rd {w:World} {B:Nat} {v:Value} {L:List (List Nat)} (h:NatsOwn w B v L):NatsRd w w.heap.size v L:=by
 obtain⟨ys,hy,h1,h2⟩:=h
 exact⟨ys,hy,by rw[<-hy];exact own_rd h1,fun j hj=>own_rd (h2 j hj)⟩
theorem NatsRd.len {w:World} {B:Nat} {v:Value} {L:List (List Nat)} (h:NatsRd w B v L):∃ a cap,v=.slice a L.length cap:=by
 obtain⟨ys,hy,⟨a,cap,e,-⟩,h2⟩:=h
 exact⟨a,cap,e⟩
theorem NatsRd.row {w : World} {B : Nat} {a : Option Addr} {cap : Nat} {L : List (List Nat)} (h : NatsRd w B (.slice a L.length cap) L) (j : Nat) (hj : j < L.length) :
    ∃ b off ar cr,a=some ⟨b,off,none⟩/\b<B/\w.cell? ⟨b,off+j,none⟩=some (.slice ar (L.getD j []).length cr)/\RdAt w B 1 (.slice ar (L.getD j []).length cr) (L.getD j []).length (nats (L.getD j [])):=by
 obtain⟨ys,hy,⟨a',cap',e,f⟩,h2⟩:=h
 injection e with e1 e2 e3
 obtain⟨b,off,eb,hlt,hc⟩:=f (by omega)
 have hr:=h2 j hj
 obtain⟨ar,cr,er,-⟩:=hr
 have hr:=h2 j hj
 rw[er]at hr
 refine⟨b,off,ar,cr,e1.trans eb,hlt,?_,hr⟩
 rw[hc j (by omega),<-er]
 simp[List.getD,hy,hj]
def mapI (m:Nat) (f:Nat->Int):List Int:=(List.range m).map f
theorem mapI_len (m:Nat) (f:Nat->Int):(mapI m f).length=m:=by simp[mapI]
theorem mapI_get (m:Nat) (f:Nat->Int) (i:Nat) (h:i<m):(mapI m f)[i]?=some (f i):=by simp[mapI,h]
theorem mapI_at (m:Nat) (f:Nat->Int) (i:Nat) (h:i<m):(mapI m f).getD i 0=f i:=by rw[List.getD_eq_getElem?_getD,mapI_get m f i h];rfl
theorem mapI_set (m:Nat) (f g:Nat->Int) (i:Nat) (x:Int) (h:∀ j,j<m->g j=if j=i then x else f j):(mapI m f).set i x=mapI m g:=by
 apply List.ext_getElem?
 intro j
 by_cases hj:j<m
 · rw[mapI_get m g j hj,h j hj,List.getElem?_set]
   by_cases e:i=j
   · subst e;simp[mapI_len,hj]
   · rw[if_neg e,if_neg (fun h=>e h.symm),mapI_get m f j hj]
 · rw[List.getElem?_eq_none (by simp[mapI_len];omega),List.getElem?_eq_none (by simp[mapI_len];omega)]
theorem mapI_zero (m:Nat) (f:Nat->Int) (h:∀ j,j<m->f j=0):mapI m f=List.replicate m 0:=by
 apply List.ext_getElem?
 intro j
 by_cases hj:j<m
 · rw[mapI_get m f j hj,h j hj];simp[hj]
 · rw[List.getElem?_eq_none (by simp[mapI_len];omega),List.getElem?_eq_none (by simp;omega)]
theorem mapI_congr (m:Nat) (f g:Nat->Int) (h:∀ j,j<m->f j=g j):mapI m f=mapI m g:=List.map_congr_left fun j hj=>h j (List.mem_range.1 hj)
def pt (L:List (List Nat)) (a:Nat):Nat:=L.findIdx fun l=>decide (a∈l)
theorem two_rows (a:Nat):∀ (L:List (List Nat)) (i j:Nat),i<j->j<L.length->a∈L.getD i []->a∈L.getD j []->2<=L.flatten.count a
 |[],i,j,_,h,_,_=>absurd h (by simp)
 |x::t,0,j+1,_,hj,h1,h2=>by
  have h3:1<=x.count a:=List.one_le_count_iff.2 (by simpa using h1)
  have hj':j<t.length:=by simpa using hj
  have h4:a∈t.flatten:=by
   refine List.mem_flatten.2 ⟨t.getD j [],?_,by simpa using h2⟩
   rw[List.getD_eq_getElem?_getD,List.getElem?_eq_getElem hj']
   exact List.getElem_mem hj'
  have h5:1<=t.flatten.count a:=List.one_le_count_iff.2 h4
  rw[List.flatten_cons,List.count_append]
  omega
 |x::t,i+1,j+1,hij,hj,h1,h2=>by
  have:=two_rows a t i j (by omega) (by simpa using hj) (by simpa using h1) (by simpa using h2)
  rw[List.flatten_cons,List.count_append]
  omega
theorem pt_is {L:List (List Nat)} {a i:Nat} (h1:L.flatten.count a=1) (hi:i<L.length) (ha:a∈L.getD i []):pt L a=i:=by
 have hle:pt L a<=i:=by
  refine Classical.byContradiction fun hc=>?_
  have:=List.not_of_lt_findIdx (p:=fun l=>decide (a∈l)) (xs:=L) (i:=i) (by unfold pt at hc;omega)
  rw[List.getD_eq_getElem?_getD,List.getElem?_eq_getElem hi]at ha
  simp at this
  exact this (by simpa using ha)
 rcases Nat.lt_or_ge (pt L a) i with h|h
 · have hl:pt L a<L.length:=by omega
   have hm:=List.findIdx_getElem (p:=fun l=>decide (a∈l)) (xs:=L) (w:=hl)
   have hm2:a∈L.getD (pt L a) []:=by
    rw[List.getD_eq_getElem?_getD,List.getElem?_eq_getElem hl]
    exact of_decide_eq_true hm
   have:=two_rows a L (pt L a) i h hi hm2 ha
   omega
 · omega
theorem pt_lt {L:List (List Nat)} {a:Nat} (h1:L.flatten.count a=1):pt L a<L.length:=by
 have:a∈L.flatten:=List.one_le_count_iff.1 (by omega)
 obtain⟨l,hl,ha⟩:=List.mem_flatten.1 this
 exact List.findIdx_lt_length_of_exists ⟨l,hl,by simpa using ha⟩
theorem pt_mem {L:List (List Nat)} {a i:Nat} (h1:L.flatten.count a=1) (hi:i<L.length):a∈L.getD i []↔pt L a=i:=by
 constructor
 · exact pt_is h1 hi
 · intro e
   have hl:pt L a<L.length:=by omega
   have hm:=List.findIdx_getElem (p:=fun l=>decide (a∈l)) (xs:=L) (w:=hl)
   rw[<-e,List.getD_eq_getElem?_getD,List.getElem?_eq_getElem hl]
   exact of_decide_eq_true hm
end Go.Proofs.YtmnejkaihjpejaaGreatDoor
/- Plain mathematics: labels merged place by place. -/
namespace Go.Proofs.YtmnejkaihjpejaaGreatDoor
open Go.RowKit
theorem cut_one {T G:Prop} (h:Hid T->G) (hT:T):G:=h hT
def merTo (W:List Nat) (x y k:Nat):List Nat:=(List.range W.length).map fun v=>if v<k then(mer W x y).getD v 0 else W.getD v 0
theorem merTo_len (W:List Nat) (x y k:Nat):(merTo W x y k).length=W.length:=by simp[merTo]
theorem merTo_at (W:List Nat) (x y k v:Nat) (hv:v<W.length):(merTo W x y k).getD v 0=if v<k then(mer W x y).getD v 0 else W.getD v 0:=by simp[merTo,List.getD_eq_getElem?_getD,hv]
theorem getD_ext {l m:List Nat} (h:l.length=m.length) (g:∀ v,v<l.length->l.getD v 0=m.getD v 0):l=m:=by
 refine List.ext_getElem h fun i h1 h2=>?_
 have:=g i h1
 simpa[List.getD_eq_getElem?_getD,h1,h2] using this
theorem merTo_zero (W:List Nat) (x y:Nat):merTo W x y 0=W:=getD_ext (merTo_len _ _ _ _) fun v hv=>by
 rw[merTo_len]at hv;rw[merTo_at _ _ _ _ _ hv,if_neg (by omega)]
theorem merTo_all (W:List Nat) (x y:Nat):merTo W x y W.length=mer W x y:=getD_ext (by rw[merTo_len,mer_len]) fun v hv=>by
 rw[merTo_len]at hv;rw[merTo_at _ _ _ _ _ hv,if_pos hv]
theorem merTo_next (W:List Nat) (x y k z:Nat) (hk:k<W.length) (hz:(mer W x y).getD k 0=z):(merTo W x y k).set k z=merTo W x y (k+1):=getD_ext (by simp[merTo_len]) fun v hv=>by
 have hv':v<W.length:=by simpa[merTo_len] using hv
 rw[getD_set _ _ _ _ (by rw[merTo_len];exact hk),merTo_at _ _ _ _ _ hv',merTo_at _ _ _ _ _ hv']
 by_cases e:v=k
 · subst e;rw[if_pos rfl,if_pos (by omega),hz]
 · rw[if_neg e]
   by_cases h2:v<k
   · rw[if_pos h2,if_pos (by omega)]
   · rw[if_neg h2,if_neg (by omega)]
theorem merTo_same (W:List Nat) (x y k:Nat) (hk:k<W.length) (hz:(mer W x y).getD k 0=W.getD k 0):merTo W x y k=merTo W x y (k+1):=getD_ext (by simp[merTo_len]) fun v hv=>by
 have hv':v<W.length:=by simpa[merTo_len] using hv
 rw[merTo_at _ _ _ _ _ hv',merTo_at _ _ _ _ _ hv']
 by_cases e:v=k
 · subst e;rw[if_neg (by omega),if_pos (by omega),hz]
 · by_cases h2:v<k
   · rw[if_pos h2,if_pos (by omega)]
   · rw[if_neg h2,if_neg (by omega)]
theorem mers_len (E:List (Nat×Nat)):∀ W:List Nat,(mers W E).length=W.length:=by
 induction E with
 |nil=>intro W;rfl
 |cons e E ih=>intro W;rw[mers,ih,mer_len]
end Go.Proofs.YtmnejkaihjpejaaGreatDoor
/- Plain mathematics of the bracket: what a state ties, crossing by crossing; the rings with one arc cut. -/
namespace Go.Proofs.YtmnejkaihjpejaaGreatDoor
def arN (C:List Cr) (k s:Nat):Nat:=((C.getD k Cr.none).arc s).toNat
def arQ (C:List Cr) (k s:Nat):Nat:=if k=0/\s=0 then 25 else arN C k s
def prS (ar:Nat->Nat->Nat) (s i:Nat):Nat×Nat:=
 if s / 2 ^ (i / 2)%2=1 then(if i%2=0 then(ar (i / 2) 0,ar (i / 2) 1) else(ar (i / 2) 2,ar (i / 2) 3))
 else(if i%2=0 then(ar (i / 2) 1,ar (i / 2) 2) else(ar (i / 2) 3,ar (i / 2) 0))
def in4 (ar:Nat->Nat->Nat) (v k:Nat):Nat:=(if ar k 0=v then 1 else 0)+(if ar k 1=v then 1 else 0)+(if ar k 2=v then 1 else 0)+(if ar k 3=v then 1 else 0)
def oc (ar:Nat->Nat->Nat) (v:Nat):Nat->Nat
 |0=>0
 |k+1=>oc ar v k+in4 ar v k
theorem pr_lo (ar:Nat->Nat->Nat) (s k:Nat):prS ar s (2*k)=if s / 2 ^ k%2=1 then(ar k 0,ar k 1) else(ar k 1,ar k 2):=by
 unfold prS
 rw[show 2*k / 2=k by omega,show 2*k%2=0 by omega];rfl
theorem pr_hi (ar:Nat->Nat->Nat) (s k:Nat):prS ar s (2*k+1)=if s / 2 ^ k%2=1 then(ar k 2,ar k 3) else(ar k 3,ar k 0):=by
 unfold prS
 rw[show(2*k+1) / 2=k by omega,show(2*k+1)%2=1 by omega];rfl
theorem dg_oc (ar:Nat->Nat->Nat) (s v k:Nat):dgP (prS ar s) (2*k) v=oc ar v k:=by
 induction k with
 |zero=>rfl
 |succ k ih=>
  rw[show 2*(k+1)=2*k+1+1 by omega]
  show dgm (dgm (dgP (prS ar s) (2*k)) (prS ar s (2*k)).1 (prS ar s (2*k)).2) (prS ar s (2*k+1)).1 (prS ar s (2*k+1)).2 v=oc ar v k+in4 ar v k
  unfold dgm in4
  rw[ih,pr_lo,pr_hi]
  by_cases h:s / 2 ^ k%2=1
  · simp only[if_pos h];omega
  · simp only[if_neg h];omega
theorem in4_sides {C:List Cr} {k v:Nat} (hf:∀ s,s<4->1<=(C.getD k Cr.none).arc s):in4 (arN C) v k=sideIn (C.getD k Cr.none) v 4+sideOut (C.getD k Cr.none) v 4:=by
 have e:∀ s,s<4->(if arN C k s=v then 1 else 0)=(if(C.getD k Cr.none).arc s=(v:Int)/\(C.getD k Cr.none).comes s=true then 1 else 0)+(if(C.getD k Cr.none).arc s=(v:Int)/\(C.getD k Cr.none).comes s=false then 1 else 0):=by
  intro s hs
  have h1:=hf s hs
  unfold arN
  by_cases h:((C.getD k Cr.none).arc s).toNat=v
  · have h2:(C.getD k Cr.none).arc s=(v:Int):=by omega
    rw[if_pos h]
    cases hc:(C.getD k Cr.none).comes s
    · rw[if_neg (fun e=>by simp at e),if_pos ⟨h2,rfl⟩]
    · rw[if_pos ⟨h2,rfl⟩,if_neg (fun e=>by simp at e)]
  · have h2:¬ (C.getD k Cr.none).arc s=(v:Int):=by omega
    rw[if_neg h,if_neg (fun e=>h2 e.1),if_neg (fun e=>h2 e.1)]
 unfold in4
 rw[e 0 (by omega),e 1 (by omega),e 2 (by omega),e 3 (by omega)]
 have i4:sideIn (C.getD k Cr.none) v 4=0+(if(C.getD k Cr.none).arc 0=(v:Int)/\(C.getD k Cr.none).comes 0=true then 1 else 0)+(if(C.getD k Cr.none).arc 1=(v:Int)/\(C.getD k Cr.none).comes 1=true then 1 else 0)+(if(C.getD k Cr.none).arc 2=(v:Int)/\(C.getD k Cr.none).comes 2=true then 1 else 0)+(if(C.getD k Cr.none).arc 3=(v:Int)/\(C.getD k Cr.none).comes 3=true then 1 else 0):=rfl
 have o4:sideOut (C.getD k Cr.none) v 4=0+(if(C.getD k Cr.none).arc 0=(v:Int)/\(C.getD k Cr.none).comes 0=false then 1 else 0)+(if(C.getD k Cr.none).arc 1=(v:Int)/\(C.getD k Cr.none).comes 1=false then 1 else 0)+(if(C.getD k Cr.none).arc 2=(v:Int)/\(C.getD k Cr.none).comes 2=false then 1 else 0)+(if(C.getD k Cr.none).arc 3=(v:Int)/\(C.getD k Cr.none).comes 3=false then 1 else 0):=rfl
 rw[i4,o4]
 omega
theorem oc_in {C:List Cr} {v:Nat}:∀ k,(∀ i,i<k->∀ s,s<4->1<=(C.getD i Cr.none).arc s)->oc (arN C) v k=inTo C v k+outTo C v k
 |0,_=>rfl
 |k+1,h=>by
  show oc (arN C) v k+in4 (arN C) v k=(inTo C v k+sideIn _ v 4)+(outTo C v k+sideOut _ v 4)
  rw[oc_in k (fun i hi=>h i (by omega)),in4_sides (h k (by omega))];omega
theorem ar_range {C:List Cr} {loops:Int} (hm:mayD C loops=true) {k s:Nat} (hk:k<C.length) (hs:s<4):1<=(C.getD k Cr.none).arc s/\(C.getD k Cr.none).arc s<=2*C.length/\1<=arN C k s/\arN C k s<=2*C.length:=by
 have h:=may_fit hm k s hk hs
 have h1:=h.1
 have h2:=h.2.1
 unfold arN
 omega
theorem oc_two {C:List Cr} {loops:Int} (hm:mayD C loops=true) {v:Nat} (h1:1<=v) (h2:v<=2*C.length):oc (arN C) v C.length=2:=by
 rw[oc_in C.length (fun i hi s hs=>(ar_range hm hi hs).1)]
 have h:=hm
 unfold mayD at h
 rw[Bool.and_eq_true,List.all_eq_true]at h
 have h3:=h.2 (v-1) (List.mem_range.2 (by omega))
 rw[show v-1+1=v by omega]at h3
 unfold onceB at h3
 rw[Bool.and_eq_true,decide_eq_true_eq,decide_eq_true_eq]at h3
 omega
theorem oc_none {C:List Cr} {loops:Int} (hm:mayD C loops=true) {v:Nat} (h:v=0∨2*C.length<v):∀ k,k<=C.length->oc (arN C) v k=0
 |0,_=>rfl
 |k+1,hk=>by
  show oc (arN C) v k+in4 (arN C) v k=0
  rw[oc_none hm h k (by omega)]
  have a0:=ar_range hm (k:=k) (by omega) (s:=0) (by omega)
  have a1:=ar_range hm (k:=k) (by omega) (s:=1) (by omega)
  have a2:=ar_range hm (k:=k) (by omega) (s:=2) (by omega)
  have a3:=ar_range hm (k:=k) (by omega) (s:=3) (by omega)
  unfold in4
  rw[if_neg (by omega),if_neg (by omega),if_neg (by omega),if_neg (by omega)]
theorem oc_cut (C:List Cr) (v:Nat):∀ k,oc (arQ C) v (k+1)+(if arN C 0 0=v then 1 else 0)=oc (arN C) v (k+1)+(if 25=v then 1 else 0)
 |0=>by
  show 0+in4 (arQ C) v 0+_=0+in4 (arN C) v 0+_
  unfold in4
  rw[show arQ C 0 0=25 from rfl,show arQ C 0 1=arN C 0 1 from rfl,show arQ C 0 2=arN C 0 2 from rfl,show arQ C 0 3=arN C 0 3 from rfl]
  omega
 |k+1=>by
  have:=oc_cut C v k
  have e:in4 (arQ C) v (k+1)=in4 (arN C) v (k+1):=by
   unfold in4 arQ
   simp only[Nat.succ_ne_zero,false_and,if_false]
  show oc (arQ C) v (k+1)+in4 (arQ C) v (k+1)+_=oc (arN C) v (k+1)+in4 (arN C) v (k+1)+_
  rw[e];omega
theorem pr_cut {C:List Cr} {loops:Int} (hm:mayD C loops=true) (h12:C.length<=12) (s i:Nat) (hi:i<2*C.length):(prS (arN C) s i).1=sg (arN C 0 0) (prS (arQ C) s i).1/\(prS (arN C) s i).2=sg (arN C 0 0) (prS (arQ C) s i).2:=by
 have e:∀ k t,k<C.length->t<4->arN C k t=sg (arN C 0 0) (arQ C k t):=by
  intro k t hk ht
  have a:=ar_range hm hk ht
  unfold arQ sg
  by_cases h:k=0/\t=0
  · rw[if_pos h,if_pos rfl,h.1,h.2]
  · rw[if_neg h,if_neg (by omega)]
 unfold prS
 have hk:i / 2<C.length:=by omega
 split<;>split<;>exact⟨e _ _ hk (by omega),e _ _ hk (by omega)⟩
theorem pr_range {C:List Cr} {loops:Int} (hm:mayD C loops=true) (h12:C.length<=12) (s i:Nat) (hi:i<2*C.length):1<=(prS (arQ C) s i).1/\(prS (arQ C) s i).1<26/\1<=(prS (arQ C) s i).2/\(prS (arQ C) s i).2<26:=by
 have e:∀ k t,k<C.length->t<4->1<=arQ C k t/\arQ C k t<26:=by
  intro k t hk ht
  have a:=ar_range hm hk ht
  unfold arQ
  split<;>omega
 unfold prS
 have hk:i / 2<C.length:=by omega
 split<;>split<;>exact⟨(e _ _ hk (by omega)).1,(e _ _ hk (by omega)).2,(e _ _ hk (by omega)).1,(e _ _ hk (by omega)).2⟩
theorem oc_le {C:List Cr} {loops:Int} (hm:mayD C loops=true) (h12:C.length<=12) (h0:0<C.length) (v:Nat):oc (arQ C) v C.length<=2:=by
 obtain⟨n,hn⟩:∃ n,C.length=n+1:=⟨C.length - 1,by omega⟩
 have h:=oc_cut C v n
 rw[<-hn]at h
 have a:=ar_range hm h0 (s:=0) (by omega)
 by_cases hv:1<=v/\v<=2*C.length
 · rw[oc_two hm hv.1 hv.2,if_neg (by omega:¬ 25=v)]at h;omega
 · rw[oc_none hm (by omega) C.length (Nat.le_refl _)]at h
   split at h<;>split at h<;>omega
theorem tied_state {C:List Cr} {loops:Int} (hm:mayD C loops=true) (h12:C.length<=12) (h0:0<C.length) (s i:Nat) (hi:i<=2*C.length):Tied (tieP (prS (arQ C) s) i) (dgP (prS (arQ C) s) i) (labP (prS (arQ C) s) i)/\closP (prS (arQ C) s) i+joinP (prS (arQ C) s) i=i:=
 tied_all (fun i hi=>pr_range hm h12 s i hi) (fun v=>by rw[dg_oc];exact oc_le hm h12 h0 v) i hi
theorem rings_cut {C:List Cr} {loops:Int} (hm:mayD C loops=true) (h12:C.length<=12) (h0:0<C.length) (s:Nat):closP (prS (arQ C) s) (2*C.length)+1+joinP (prS (arN C) s) (2*C.length)=2*C.length:=by
 obtain⟨h1,h2⟩:=tied_state hm h12 h0 s (2*C.length) (Nat.le_refl _)
 have a:=ar_range hm h0 (s:=0) (by omega)
 obtain⟨-,h3⟩:=cut_join (P:=prS (arN C) s) (Q:=prS (arQ C) s) (m:=2*C.length) (A:=arN C 0 0) (by omega) (fun i hi=>pr_cut hm h12 s i hi) (2*C.length) (Nat.le_refl _)
 obtain⟨n,hn⟩:∃ n,C.length=n+1:=⟨C.length - 1,by omega⟩
 have hd:∀ v,dgP (prS (arQ C) s) (2*C.length) v+(if arN C 0 0=v then 1 else 0)=oc (arN C) v C.length+(if 25=v then 1 else 0):=by
  intro v;rw[dg_oc,hn];exact oc_cut C v n
 have dA:dgP (prS (arQ C) s) (2*C.length) (arN C 0 0)=1:=by
  have:=hd (arN C 0 0)
  rw[if_pos rfl,oc_two hm a.2.2.1 a.2.2.2,if_neg (by omega)]at this;omega
 obtain⟨o1,o2,o3,o4,o5⟩:=h1.one (arN C 0 0) a.2.2.1 (by omega) dA
 have hlt:=h1.lt (arN C 0 0)
 have e25:(tieP (prS (arQ C) s) (2*C.length)).getD (arN C 0 0) 0=25:=by
  generalize (tieP (prS (arQ C) s) (2*C.length)).getD (arN C 0 0) 0=u at*
  have:=hd u
  rw[o3,if_neg (Ne.symm o1)]at this
  by_cases hu:u<=2*C.length
  · rw[oc_two hm o2 hu]at this;omega
  · rw[oc_none hm (Or.inr (by omega)) C.length (Nat.le_refl _)]at this
    by_cases e:25=u
    · exact e.symm
    · rw[if_neg e]at this;omega
 rw[e25]at o5
 rw[if_pos o5]at h3
 omega
theorem bit_lo {k j s:Nat} (h:j<k):(2 ^ k+s) / 2 ^ j%2=s / 2 ^ j%2:=by
 have e:2 ^ k=2 ^ j*(2*2 ^ (k-j-1)):=by
  rw[<-Nat.mul_assoc,Nat.mul_comm (2 ^ j) 2,Nat.mul_assoc,<-Nat.pow_add,show j+(k-j-1)=k-1 by omega,<-Nat.pow_succ']
  congr 1;omega
 rw[e,Nat.mul_add_div (Nat.two_pow_pos j)];omega
theorem bit_hi {k s:Nat} (h:s<2 ^ k):(2 ^ k+s) / 2 ^ k%2=1:=by
 rw[show 2 ^ k+s=2 ^ k*1+s by omega,Nat.mul_add_div (Nat.two_pow_pos k),Nat.div_eq_of_lt h]
theorem bit_off {k s:Nat} (h:s<2 ^ k):s / 2 ^ k%2=0:=by rw[Nat.div_eq_of_lt h]
theorem pr_low (ar:Nat->Nat->Nat) {k s i:Nat} (hi:i<2*k):prS ar (2 ^ k+s) i=prS ar s i:=by
 unfold prS
 rw[bit_lo (by omega:i / 2<k)]
theorem tie_congr {P Q:Nat->Nat×Nat}:∀ i,(∀ j,j<i->P j=Q j)->tieP P i=tieP Q i/\closP P i=closP Q i/\labP P i=labP Q i/\joinP P i=joinP Q i
 |0,_=>⟨rfl,rfl,rfl,rfl⟩
 |i+1,h=>by
  obtain⟨e1,e2,e3,e4⟩:=tie_congr i fun j hj=>h j (by omega)
  have e:=h i (by omega)
  refine⟨?_,?_,?_,?_⟩
  · show tieT (tieP P i) _ _=tieT (tieP Q i) _ _;rw[e1,e]
  · show closP P i+tieN (tieP P i) _ _=closP Q i+tieN (tieP Q i) _ _;rw[e1,e2,e]
  · show lab (labP P i) _ _=lab (labP Q i) _ _;rw[e3,e]
  · show joinP P i+(if labP P i _=labP P i _ then 0 else 1)=joinP Q i+(if labP Q i _=labP Q i _ then 0 else 1);rw[e3,e4,e]
end Go.Proofs.YtmnejkaihjpejaaGreatDoor

/- Several texts of the proof, one behind the other. -/
import Derived.Test.YtbobljddklldjaaGreatDoorBaseP
import Derived.Test.YtbobljddklldjaaGreatDoorH7
import Derived.Lib.Hide
/- The walk of ref.EndOf. -/
namespace Go.Proofs.YtbobljddklldjaaGreatDoor
open Go.RowKit
theorem may_size {C:List Cr} {loops:Int} (hm:mayD C loops=true):sizeB C loops=true:=by
 cases hs:sizeB C loops with
 |true=>rfl
 |false=>rw[mayD_size hs]at hm;cases hm
end Go.Proofs.YtbobljddklldjaaGreatDoor
/- A row that is taken from at its head and appended to at its end: in the world, and the step of append upon it. -/
namespace Go.Proofs.YtbobljddklldjaaGreatDoor
open Go.RowKit
def QueAt (w:World) (base:Nat) (e:TypeId) (v:Value) (xs:List Value):Prop:=
 ∃ g off cap cur,v=.slice (some ⟨g,off,none⟩) xs.length cap/\base<=g/\w.heap[g]?=some (.cells cur e (0,0))/\xs.length<=cap/\cap<=maxLen/\off+cap<=cur.size/\(cur.toList.drop off).take xs.length=xs
theorem QueAt.kept {w w':World} {base:Nat} {e:TypeId} {v:Value} {xs:List Value} {row:Option Nat} (h:QueAt w base e v xs) (hg:w.grownBy w' row) (hne:v.ownBlock≠row):QueAt w' base e v xs:=by
 obtain⟨g,off,cap,cur,rfl,hb,hgg,rest⟩:=h
 refine⟨g,off,cap,cur,rfl,hb,?_,rest⟩
 rw[hg.block g (Array.getElem?_eq_some_iff.1 hgg).1 (by simpa[Value.ownBlock] using hne)]
 exact hgg
theorem QueAt.lt {w:World} {base:Nat} {e:TypeId} {v:Value} {xs:List Value} (h:QueAt w base e v xs):∀ k,v.ownBlock=some k->base<=k/\k<w.heap.size:=by
 intro k hk
 obtain⟨g,off,cap,cur,rfl,hb,hgg,rest⟩:=h
 have e:=Option.some.inj hk
 have e2:g=k:=e
 subst e2
 exact⟨hb,(Array.getElem?_eq_some_iff.1 hgg).1⟩
theorem QueAt.shape {w:World} {base:Nat} {e:TypeId} {v:Value} {xs:List Value} (h:QueAt w base e v xs):∃ g off cap,v=.slice (some ⟨g,off,none⟩) xs.length cap/\xs.length<=cap:=by
 obtain⟨g,off,cap,cur,rfl,_,_,h2,_⟩:=h
 exact⟨g,off,cap,rfl,h2⟩
theorem QueAt.size {w:World} {base g off n cap:Nat} {e:TypeId} {xs:List Value} (h:QueAt w base e (.slice (some ⟨g,off,none⟩) n cap) xs):n=xs.length/\n<=cap/\cap<=maxLen/\base<=g/\g<w.heap.size:=by
 obtain⟨g',off',cap',cur,ev,hb,hgg,h1,h2,_⟩:=h
 injection ev with e1 e2 e3
 injection e1 with e1
 injection e1 with e4 e5
 subst e4 e2 e3
 exact⟨rfl,h1,h2,hb,(Array.getElem?_eq_some_iff.1 hgg).1⟩
theorem QueAt.cell {w:World} {base g off n cap:Nat} {e:TypeId} {xs:List Value} (h:QueAt w base e (.slice (some ⟨g,off,none⟩) n cap) xs) (j:Nat) (u:Value) (hj:xs[j]?=some u):w.cell? ⟨g,off+j,none⟩=some u:=by
 obtain⟨g',off',cap',cur,ev,hb,hgg,h1,h2,h3,h4⟩:=h
 injection ev with e1 e2 e3
 injection e1 with e1
 injection e1 with e4 e5
 subst e4 e5
 rw[cell_of_row w g _ cur e (0,0) hgg]
 rw[<-h4,List.getElem?_take]at hj
 split at hj
 · rw[List.getElem?_drop]at hj
   simpa using hj
 · cases hj
theorem QueAt.tail {w:World} {base g off n cap:Nat} {e:TypeId} {x:Value} {xs:List Value} (h:QueAt w base e (.slice (some ⟨g,off,none⟩) n cap) (x::xs)):QueAt w base e (.slice (some ⟨g,off+1,none⟩) (n-1) (cap-1)) xs:=by
 obtain⟨g',off',cap',cur,ev,hb,hgg,h1,h2,h3,h4⟩:=h
 injection ev with e1 e2 e3
 injection e1 with e1
 injection e1 with e4 e5
 subst e4 e5 e3
 simp only[List.length_cons]at e2 h1 h4
 refine⟨g,off+1,cap-1,cur,by rw[e2];simp,hb,hgg,by omega,by omega,by omega,?_⟩
 have h5:((cur.toList.drop off).take (xs.length+1)).drop 1=xs:=by rw[h4];rfl
 rw[List.drop_take,List.drop_drop]at h5
 simpa using h5
theorem QueAt.tail1 {w:World} {base g off n:Nat} {e:TypeId} {x:Value} {xs:List Value} (h:QueAt w base e (.slice (some ⟨g,off,none⟩) n 1) (x::xs)):QueAt w base e (.slice (some ⟨g,off,none⟩) (n-1) 0) xs/\xs=[]:=by
 obtain⟨g',off',cap',cur,ev,hb,hgg,h1,h2,h3,h4⟩:=h
 injection ev with e1 e2 e3
 injection e1 with e1
 injection e1 with e4 e5
 subst e4 e5 e3
 simp only[List.length_cons]at e2 h1 h4
 have hx:xs=[]:=List.length_eq_zero_iff.1 (by omega)
 subst hx
 exact⟨⟨g,off,0,cur,by rw[e2];simp,hb,hgg,Nat.zero_le _,Nat.zero_le _,by omega,by simp⟩,rfl⟩
theorem QueAt.made {w:World} {base g n cap:Nat} {e:TypeId} {xs:List Value} (h:w.ownsRow base e 1 (.slice (some ⟨g,0,none⟩) n cap) n xs):QueAt w base e (.slice (some ⟨g,0,none⟩) n cap) xs:=by
 obtain⟨hl,h⟩:=h
 rcases h with⟨h,_⟩|⟨g',cap',cur,ev,hb,hgg,h1,h2,h3,h4⟩
 · cases h
 · injection ev with e1 e2 e3
   injection e1 with e1
   injection e1 with e4
   subst e4 e3
   rw[Nat.mul_one]at hl h3 h4
   exact⟨g,0,cap,cur,by rw[hl],hb,hgg,by omega,h2,by omega,by rw[hl];simpa using h4⟩
theorem run_append_que {P : Program} (w : World) (base : Nat) (t ty e : TypeId) (i : TypeInfo) (z : Value) (bytes : Nat) (ht : P.underlying t = some (.slice e)) (hi : P.info? e = some i) (hz : i.zero = some z)
    (hsize:i.size=1) (hby:i.bytes=bytes) (hzs:z.cells.size=1)
    (v:Value) (xs:List Value) (hown:QueAt w base e v xs)
    (a:Addr) (c:Nat) (u:Value) (hnews:w.cell? a=some u) (h1:u.oneCell'=true)
    (h63:xs.length+1<=maxLen) (hbytes:(xs.length+1)*bytes<=140737488355328) (hbase:base<=w.heap.size):
    ∃ v' w',(Builtin.append_ #[t,t] ty #[v,.slice (some a) 1 c]).run P w=.ok v' w'/\QueAt w' base e v' (xs++[u])/\w.grownBy w' v.ownBlock:=by
 subst hby
 have hsmall:xs.length+1<=9223372036854775807:=by simp only[maxLen]at h63;omega
 have hl:[u].length=1*i.size:=by rw[hsize];rfl
 have hcells:∀ j v,[u][j]?=some v->w.cell? (a.add j)=some v:=by
  intro j v hj
  cases j with
  |zero=>
   have e:v=u:=by simpa using hj.symm
   subst e
   have ha:a.add 0=a:=by unfold Addr.add;split<;>simp_all
   rw[ha]
   exact hnews
  |succ j=>simp at hj
 obtain⟨g,off,cap,cur,rfl,hb,hgg,hnc,hcm,hcs,htake⟩:=hown
 by_cases hroom:xs.length+1<=cap
 · have hf:=run_firstCells_some (P:=P) w i.size 1 a 1 c [u] hl hcells
   have hst:=run_storeCells_at P g (off+xs.length) e [u] 0 cur w hgg (by simp;omega) (by simpa using h1)
   simp only[Nat.add_zero]at hst
   refine⟨.slice (some ⟨g,off,none⟩) (xs.length+1) cap,w.setRow g (cur.toList.take (off+xs.length)++[u]++cur.toList.drop (off+xs.length+[u].length)).toArray,?_,⟨g,off,cap,_,by simp,hb,setRow_heap w g cur _ e _ hgg,by simpa using hroom,hcm,?_,?_⟩,⟨rfl,rfl,rfl,by simp,fun k _ hk=>setRow_other w g k _ (fun e=>hk (by simp[Value.ownBlock,e]))⟩⟩
   · rw[hsize]at hf
     simp[Builtin.append_,run_underlying ht,sizeOf,typeInfo,hi,hsize,Builtin.lenOf,hroom,hf,Addr.add_lit]
     simp at hst
     simp[hst]
   · simp only[List.size_toArray,List.length_append,List.length_take,List.length_drop,Array.length_toList,List.length_cons,List.length_nil]
     omega
   · have h5:(cur.toList.take (off+xs.length)).drop off=xs:=by rw[List.drop_take,Nat.add_sub_cancel_left];exact htake
     simp only[List.append_assoc]
     rw[List.drop_append_of_le_length (by simp;omega),h5,<-List.append_assoc]
     exact List.take_left
 · have holds : ∀ j v, xs[j]? = some v → w.cell? ((⟨g, off, none⟩ : Addr).add j) = some v := fun j v hj => by
     have hadd:(⟨g,off,none⟩:Addr).add j=⟨g,off+j,none⟩:=by unfold Addr.add;split<;>simp_all
     rw[hadd]
     exact QueAt.cell (⟨g,off,cap,cur,rfl,hb,hgg,hnc,hcm,hcs,htake⟩:QueAt w base e (.slice (some ⟨g,off,none⟩) xs.length cap) xs) j v hj
   have hr:=run_append_grow (P:=P) w t ty e i z ht hi hz ⟨g,off,none⟩ xs.length cap xs (by rw[hsize,Nat.mul_one]) holds a 1 c [u] hl hcells (by omega) (by omega) (growslice_fits (by omega) hbytes)
   have hge:=grownCap_ge w (xs.length+1) cap e
   refine⟨_,_,hr,⟨w.heap.size,0,_,_,by simp,hbase,heap_alloc_new w.drew _,by simpa using hge,grownCap_le_maxLen w (xs.length+1) cap e h63,?_,?_⟩,⟨rfl,rfl,rfl,by simp,fun k hk _=>Array.getElem?_push_lt hk▸(Array.getElem?_eq_getElem hk).symm⟩⟩
   · simp only[Array.size_append,List.size_toArray,size_zeroCells,hzs,List.length_cons,List.length_nil]
     omega
   · simp only[Array.toList_append,List.drop_zero]
     exact List.take_left
theorem wpList_append_que {P : Program} (w : World) {ops : Array Oper} {rest : List Oper} {o : Oper} {a : Act} {Q : Exit → Act → World → Prop} (hgd : o.guard = none) (s x : Operand) (t : TypeId)
    (ho:o.op=.call { callee:=.builtin .append,args:=#[s,x],argTypes:=#[t,t] })
    (base:Nat) (e:TypeId) (i:TypeInfo) (z:Value) (bytes:Nat) (ht:P.underlying t=some (.slice e)) (hi:P.info? e=some i) (hz:i.zero=some z)
    (hsize:i.size=1) (hby:i.bytes=bytes) (hzs:z.cells.size=1)
    (v:Value) (xs:List Value) (hs:a.eval s=v) (hown:QueAt w base e v xs)
    (ad:Addr) (c:Nat) (u:Value) (hx:a.eval x=.slice (some ad) 1 c) (hnews:w.cell? ad=some u) (h1:u.oneCell'=true)
    (h63:xs.length+1<=maxLen) (hbytes:(xs.length+1)*bytes<=140737488355328) (hbase:base<=w.heap.size)
    (h:∀ v' w',QueAt w' base e v' (xs++[u])->w.grownBy w' v.ownBlock->wpList P ops Q rest (a.put o.dst v') w'):wpList P ops Q (o::rest) a w:=by
 refine wpList_plain hgd fun _ hK=>?_
 obtain⟨v',w',hr,h2,h3⟩:=run_append_que (P:=P) w base t o.type e i z bytes ht hi hz hsize hby hzs v xs hown ad c u hnews h1 h63 hbytes hbase
 unfold Oper.wp execOp
 simp only[ho,resolve,invoke,builtin,Sem.run_bind,Sem.run_pure,Result.andThen_ok,List.map_toArray,List.map_cons,List.map_nil,hs,hx,hr]
 exact hK _ _ (h v' w' h2 h3)
end Go.Proofs.YtbobljddklldjaaGreatDoor
/- The walks of Drawing.End, Drawing.Onward, way; ref.dartCode, ref.NextDart. -/
namespace Go.Proofs.YtbobljddklldjaaGreatDoor
open Go.RowKit
set_option maxHeartbeats 2000000
set_option maxRecDepth 100000
theorem Dr.endAt {w : World} {a : Option Addr} {cap : Nat} {C : List Cr} {gF gT : Nat} {loops : Int} (h : Dr w a cap C gF gT) (hm : mayD C loops = true) (x : Nat) (h1 : 1 ≤ x) (h2 : x ≤ 2 * C.length) :
    w.cell? ⟨gT,x*2,none⟩=some (.int .i64 (enC C x true:Nat))/\w.cell? ⟨gT,x*2+1,none⟩=some (.int .i64 (enS C x true:Nat))/\w.cell? ⟨gF,x*2,none⟩=some (.int .i64 (enC C x false:Nat))/\w.cell? ⟨gF,x*2+1,none⟩=some (.int .i64 (enS C x false:Nat)):=by
 have hT:=h.to x (by rw[ends_length];omega)
 have hF:=h.from_ x (by rw[ends_length];omega)
 rw[ends_at C true C.length 0 x h1 h2,Nat.zero_add]at hT
 rw[ends_at C false C.length 0 x h1 h2,Nat.zero_add]at hF
 have e:endAh C x true C.length 0=endTo C x true C.length:=rfl
 have e2:endAh C x false C.length 0=endTo C x false C.length:=rfl
 rw[e,(en_may hm x true h1 h2).1]at hT
 rw[e2,(en_may hm x false h1 h2).1]at hF
 exact⟨hT.1,hT.2,hF.1,hF.2⟩
theorem end_any (a : Option Addr) (cap : Nat) (C : List Cr) (loops : Int) (gF cF gT cT : Nat) (x : Nat) (p : Bool) (w : World) (hm : mayD C loops = true) (h1 : 1 ≤ x) (h2 : x ≤ 2 * C.length) (hD : Dr w a cap C gF gT) :
    Calls Tryz.prog 77 #[drV a cap C loops gF cF gT cT,.agg #[.int .i64 x,.bool p]] w fun e w'=>e=.returned (.agg #[.int .i64 (enC C x (!p):Nat),.int .i64 (enS C x (!p):Nat)])/\Below w.heap.size w w':=by
 unfold drV
 obtain⟨c0,c1,c2,c3⟩:=hD.endAt hm x h1 h2
 have l1:=hD.ltT
 have l2:=hD.ltF
 clear hD
 have hB3:Below w.heap.size w (((w.alloc (.cells #[.slice a C.length cap,.int .i64 loops,.slice (some ⟨gF,0,none⟩) (2*C.length+1) cF,.slice (some ⟨gT,0,none⟩) (2*C.length+1) cT] 42)).alloc (.cells #[.int .i64 x,.bool p] 114)).alloc (.cells #[.int .i64 0,.int .i64 0] 128)):=below3 _ _ _ _
 have d0:=bcell hB3 l1 c0
 have d1:=bcell hB3 l1 c1
 have d2:=bcell hB3 l2 c2
 have d3:=bcell hB3 l2 c3
 clear hB3 c0 c1 c2 c3
 obtain⟨t0,ht0⟩:∃ t0,enC C x true=t0:=⟨_,rfl⟩
 obtain⟨t1,ht1⟩:∃ t1,enS C x true=t1:=⟨_,rfl⟩
 obtain⟨f0,hf0⟩:∃ f0,enC C x false=f0:=⟨_,rfl⟩
 obtain⟨f1,hf1⟩:∃ f1,enS C x false=f1:=⟨_,rfl⟩
 rw[ht0]at d0
 rw[ht1]at d1
 rw[hf0]at d2
 rw[hf1]at d3
 have hx:x<2*C.length+1:=by omega
 cases p with
 |true=>
  have hG:(((w.alloc (.cells #[.slice a C.length cap,.int .i64 loops,.slice (some ⟨gF,0,none⟩) (2*C.length+1) cF,.slice (some ⟨gT,0,none⟩) (2*C.length+1) cT] 42)).alloc (.cells #[.int .i64 x,.bool true] 114)).alloc (.cells #[.int .i64 f0,.int .i64 f1] 128)).heap[w.heap.size+1+1]?=some (.cells #[.int .i64 f0,.int .i64 f1] 128 (0,0)):=alloc_at (by simp)
  have x0:=block_cell (i:=0) (v:=.int .i64 f0) hG rfl
  have x1:=block_cell (i:=1) (v:=.int .i64 f1) hG rfl
  have HB:Hid (Below w.heap.size w (((w.alloc (.cells #[.slice a C.length cap,.int .i64 loops,.slice (some ⟨gF,0,none⟩) (2*C.length+1) cF,.slice (some ⟨gT,0,none⟩) (2*C.length+1) cT] 42)).alloc (.cells #[.int .i64 x,.bool true] 114)).alloc (.cells #[.int .i64 f0,.int .i64 f1] 128))):=below3 _ _ _ _
  clear hG
  go_enter Tryz.func77,Tryz.ntmps77
  go_wp2
  exact bodyPost_ret (v:=.agg #[.int .i64 f0,.int .i64 f1]) (by simp[results,Tryz.results77,go_sem,x0,x1]) rfl ⟨by simp[hf0,hf1],HB.out⟩
 |false=>
  have hG:(((w.alloc (.cells #[.slice a C.length cap,.int .i64 loops,.slice (some ⟨gF,0,none⟩) (2*C.length+1) cF,.slice (some ⟨gT,0,none⟩) (2*C.length+1) cT] 42)).alloc (.cells #[.int .i64 x,.bool false] 114)).alloc (.cells #[.int .i64 t0,.int .i64 t1] 128)).heap[w.heap.size+1+1]?=some (.cells #[.int .i64 t0,.int .i64 t1] 128 (0,0)):=alloc_at (by simp)
  have x0:=block_cell (i:=0) (v:=.int .i64 t0) hG rfl
  have x1:=block_cell (i:=1) (v:=.int .i64 t1) hG rfl
  have HB:Hid (Below w.heap.size w (((w.alloc (.cells #[.slice a C.length cap,.int .i64 loops,.slice (some ⟨gF,0,none⟩) (2*C.length+1) cF,.slice (some ⟨gT,0,none⟩) (2*C.length+1) cT] 42)).alloc (.cells #[.int .i64 x,.bool false] 114)).alloc (.cells #[.int .i64 t0,.int .i64 t1] 128))):=below3 _ _ _ _
  clear hG
  go_enter Tryz.func77,Tryz.ntmps77
  go_wp2
  exact bodyPost_ret (v:=.agg #[.int .i64 t0,.int .i64 t1]) (by simp[results,Tryz.results77,go_sem,x0,x1]) rfl ⟨by simp[ht0,ht1],HB.out⟩
theorem way_any (x : Int) (p : Bool) (w : World) :
    Calls Tryz.prog 83 #[.agg #[.int .i64 x,.bool p]] w fun e w'=>e=.returned (.int .i64 (if p=true then 1 else 0))/\Below w.heap.size w w':=by
 go_enter Tryz.func83,Tryz.ntmps83
 cases p with
 |true=>
  go_wp2
  go_ret
  exact⟨rfl,(Below.refl _ _).alloc (Nat.le_refl _) _⟩
 |false=>
  go_wp2
  go_ret
  exact⟨rfl,(Below.refl _ _).alloc (Nat.le_refl _) _⟩
end Go.Proofs.YtbobljddklldjaaGreatDoor
/- Lists of numbers that a call owns; the walk of Drawing.Walks. -/
namespace Go.Proofs.YtbobljddklldjaaGreatDoor
open Go.RowKit
def nats (l:List Nat):List Value:=l.map fun x=>.int .i64 (x:Nat)
def bools (l:List Bool):List Value:=l.map fun x=>.bool x
theorem nats_len (l:List Nat):(nats l).length=l.length:=by simp[nats]
theorem nats_get (l:List Nat) (i:Nat) (h:i<l.length):(nats l)[i]?=some (.int .i64 (l.getD i 0:Nat)):=by simp[nats,List.getD,h]
theorem bools_set (l:List Bool) (i:Nat) (b:Bool):(bools l).set i (.bool b)=bools (l.set i b):=by simp[bools,List.map_set]
theorem nats_app (l:List Nat) (x:Nat):nats (l++[x])=nats l++[.int .i64 (x:Nat)]:=by simp[nats]
def NatsOwn (w:World) (B:Nat) (v:Value) (L:List (List Nat)):Prop:=
 ∃ ys:List Value,ys.length=L.length/\w.ownsRow B 62 1 v ys.length ys/\∀ j,j<L.length->w.ownsRow B 3 1 (ys.getD j (.bool false)) (L.getD j []).length (nats (L.getD j []))
theorem NatsOwn.any {w w':World} {B:Nat} {v:Value} {L:List (List Nat)} (h:NatsOwn w B v L) (hg:w.grownBy w' none):NatsOwn w' B v L:=by
 obtain⟨ys,h1,h2,h3⟩:=h
 exact⟨ys,h1,own_any h2 hg,fun j hj=>own_any (h3 j hj) hg⟩
theorem NatsOwn.low {w:World} {B B':Nat} {v:Value} {L:List (List Nat)} (h:NatsOwn w B v L) (hB:B'<=B):NatsOwn w B' v L:=by
 obtain⟨ys,h1,h2,h3⟩:=h
 exact⟨ys,h1,own_low h2 hB,fun j hj=>own_low (h3 j hj) hB⟩
theorem grown_none {w w':World} {row:Option Nat} (h:w.grownBy w' none):w.grownBy w' row:=⟨h.os,h.tape,h.output,h.size,fun k hk _=>h.block k hk (by simp)⟩
theorem grown_new {W X Y:World} {row r2:Option Nat} (h:W.grownBy X row) (g:X.grownBy Y r2) (hr:∀ k,r2=some k->W.heap.size<=k):W.grownBy Y row:=
 ⟨g.os.trans h.os,g.tape.trans h.tape,g.output.trans h.output,Nat.le_trans h.size g.size,fun k hk hn=>(g.block k (Nat.lt_of_lt_of_le hk h.size) (fun e=>by have:=hr k e.symm;omega)).trans (h.block k hk hn)⟩
def lenOf:Value->Nat
 |.slice _ n _=>n
 |_=>0
theorem infoInt:(Tryz.prog.info? 3).map (fun i=>(i.zero,i.size,i.bytes))=some (some (.int .i64 0),1,8):=by kernel_rfl
theorem infoInts:(Tryz.prog.info? 62).map (fun i=>(i.zero,i.size,i.bytes))=some (some (.slice none 0 0),1,24):=by kernel_rfl
end Go.Proofs.YtbobljddklldjaaGreatDoor
/- The walks of ref.DiagramOf and gauss.Strands; rows that are the same. -/
namespace Go.Proofs.YtbobljddklldjaaGreatDoor
open Go.RowKit
def crossCells (C:List Cr):List Value:=C.flatMap fun x=>[.int .i64 x.a,.int .i64 x.b,.int .i64 x.c,.int .i64 x.d,.bool x.plus]
theorem cells_get (C:List Cr) (i:Nat) (hi:i<C.length):(crossCells C)[i*5]?=some (.int .i64 (C.getD i Cr.none).a)/\(crossCells C)[i*5+1]?=some (.int .i64 (C.getD i Cr.none).b)/\(crossCells C)[i*5+2]?=some (.int .i64 (C.getD i Cr.none).c)/\(crossCells C)[i*5+3]?=some (.int .i64 (C.getD i Cr.none).d)/\(crossCells C)[i*5+4]?=some (.bool (C.getD i Cr.none).plus):=by
 induction C generalizing i with
 |nil=>simp at hi
 |cons t l ih=>
  have e:crossCells (t::l)=.int .i64 t.a::.int .i64 t.b::.int .i64 t.c::.int .i64 t.d::.bool t.plus::crossCells l:=rfl
  cases i with
  |zero=>rw[e];exact⟨rfl,rfl,rfl,rfl,rfl⟩
  |succ i=>
   have:=ih i (by simpa using hi)
   have e1:(i+1)*5=i*5+1+1+1+1+1:=by omega
   rw[e,e1]
   exact this
theorem cells_one (C:List Cr):∀ u∈crossCells C,u.oneCell'=true:=by
 intro u hu
 simp only[crossCells,List.mem_flatMap]at hu
 obtain⟨t,_,ht⟩:=hu
 simp at ht
 rcases ht with rfl|rfl|rfl|rfl|rfl<;>rfl
theorem crs_own {w:World} {B e:Nat} {v:Value} {C:List Cr} (h:w.ownsRow B e 5 v C.length (crossCells C)) (hn:C.length<=maxLen):Crs w w.heap.size v C:=by
 have h0:=h
 rcases h.2 with⟨rfl,h1⟩|⟨g,cap,cur,rfl,_,_,_⟩
 · exact⟨none,0,by rw[h1],hn,fun hp=>by omega⟩
 · refine⟨some ⟨g,0,none⟩,cap,rfl,hn,fun _=>⟨g,0,rfl,(h0.lt g rfl).2,fun i hi=>?_⟩⟩
   have g0:=cells_get C i hi
   rw[Nat.zero_add]
   exact⟨(h0.cellAt (i*5) (by omega)).trans g0.1,(h0.cellAt (i*5+1) (by omega)).trans g0.2.1,(h0.cellAt (i*5+2) (by omega)).trans g0.2.2.1,(h0.cellAt (i*5+3) (by omega)).trans g0.2.2.2.1,(h0.cellAt (i*5+4) (by omega)).trans g0.2.2.2.2⟩
def CrsW (w:World) (B:Nat) (v:Value) (C:List Cr):Prop:=
 (v=.slice none 0 0/\C=[])∨(∃ ad cap,v=.slice (some ad) 0 cap/\C=[])∨∃ b off cap,v=.slice (some ⟨b,off,none⟩) C.length cap/\b<B/\CrossAt w b off C
theorem CrsW.crs {w:World} {B:Nat} {v:Value} {C:List Cr} (h:CrsW w B v C) (hn:C.length<=maxLen):Crs w B v C:=by
 rcases h with⟨rfl,rfl⟩|⟨ad,cap,rfl,rfl⟩|⟨b,off,cap,rfl,hlt,hC⟩
 · exact⟨none,0,rfl,hn,fun hp=>by simp at hp⟩
 · exact⟨some ad,cap,rfl,hn,fun hp=>by simp at hp⟩
 · exact⟨some ⟨b,off,none⟩,cap,rfl,hn,fun _=>⟨b,off,rfl,hlt,hC⟩⟩
theorem CrsW.up {w w':World} {v:Value} {C:List Cr} (h:CrsW w w.heap.size v C) (hb:Below w.heap.size w w'):CrsW w' w'.heap.size v C:=by
 rcases h with h|h|⟨b,off,cap,hv,hlt,hC⟩
 · exact Or.inl h
 · exact Or.inr (Or.inl h)
 · exact Or.inr (Or.inr ⟨b,off,cap,hv,Nat.lt_of_lt_of_le hlt hb.size,hC.on hb hlt⟩)
theorem infoCross:(Tryz.prog.info? 60).map (fun i=>(i.zero,i.size,i.bytes))=some (some (.agg #[.int .i64 0,.int .i64 0,.int .i64 0,.int .i64 0,.bool false]),5,40):=by kernel_rfl
theorem own_terms {w:World} {B e n g c:Nat} {l:List (Int×Int)} (h:w.ownsRow B e 2 (.slice (some ⟨g,0,none⟩) n c) n (flat l)) (hl:l.length=n):TermsAt w g 0 l:=by
 intro i hi
 have g0:=flat_get l i hi
 rw[Nat.zero_add]
 exact⟨(h.cellAt (i*2) (by omega)).trans g0.1,(h.cellAt (i*2+1) (by omega)).trans g0.2⟩
theorem Drawn.dr {w w' : World} {a : Option Addr} {cap : Nat} {loops : Int} {C : List Cr} {D : Value} (h : Drawn w w' w.heap.size (.slice a C.length cap) loops C D) (hm : mayD C loops = true) (hb : Below w.heap.size w w') (hC : Crs w w.heap.size (.slice a C.length cap) C) :
    ∃ gF cF gT cT,D=drV a cap C loops gF cF gT cT/\Dr w' a cap C gF gT:=by
 obtain⟨gF,cF,gT,cT,rfl,h1,h2⟩:=h.yes hm
 exact⟨gF,cF,gT,cT,rfl,hC.up hb,(h1.lt gF rfl).2,(h2.lt gT rfl).2,own_terms h1 (ends_length _ _ _ _),own_terms h2 (ends_length _ _ _ _)⟩
end Go.Proofs.YtbobljddklldjaaGreatDoor
/- Visits: lists of them that a call owns; the walks of gauss.visits and gauss.signs. -/
namespace Go.Proofs.YtbobljddklldjaaGreatDoor
open Go.RowKit
def vflat (V:List (Nat×Bool)):List Value:=V.flatMap fun t=>[.int .i64 (t.1:Nat),.bool t.2]
theorem vflat_append (l m:List (Nat×Bool)):vflat (l++m)=vflat l++vflat m:=by simp[vflat]
theorem vflat_get (l:List (Nat×Bool)) (i:Nat) (hi:i<l.length):(vflat l)[i*2]?=some (.int .i64 ((l.getD i (0,false)).1:Nat))/\(vflat l)[i*2+1]?=some (.bool (l.getD i (0,false)).2):=by
 induction l generalizing i with
 |nil=>simp at hi
 |cons t l ih=>
  have e:vflat (t::l)=.int .i64 (t.1:Nat)::.bool t.2::vflat l:=rfl
  cases i with
  |zero=>rw[e];exact⟨rfl,rfl⟩
  |succ i=>
   have:=ih i (by simpa using hi)
   rw[e,show(i+1)*2=i*2+1+1 by omega]
   exact this
theorem vflat_one (l:List (Nat×Bool)):∀ u∈vflat l,u.oneCell'=true:=by
 intro u hu
 simp only[vflat,List.mem_flatMap]at hu
 obtain⟨t,_,ht⟩:=hu
 simp at ht
 rcases ht with rfl|rfl<;>rfl
def WksAt (w:World) (v:Value) (L:List (List Nat)):Prop:=∃ ys:List Value,ys.length=L.length/\Slots w w.heap.size v ys/\∀ j,j<L.length->Slots w w.heap.size (ys.getD j (.bool false)) (nats (L.getD j []))
theorem WksAt.on {w w':World} {v:Value} {L:List (List Nat)} (h:WksAt w v L) (hb:Below w.heap.size w w'):WksAt w' v L:=by
 obtain⟨ys,h1,h2,h3⟩:=h
 exact⟨ys,h1,(h2.on hb).mono hb.size,fun j hj=>((h3 j hj).on hb).mono hb.size⟩
end Go.Proofs.YtbobljddklldjaaGreatDoor
/- The walk of gauss.signs; rows of visits and of signs that are the same. -/
namespace Go.Proofs.YtbobljddklldjaaGreatDoor
open Go.RowKit
def VS (w:World) (v:Value) (V:List (Nat×Bool)):Prop:=∃ a cap,v=.slice a V.length cap/\(0<V.length->∃ b off,a=some ⟨b,off,none⟩/\b<w.heap.size/\∀ i,i<V.length->w.cell? ⟨b,off+i*2,none⟩=some (.int .i64 ((V.getD i (0,false)).1:Nat))/\w.cell? ⟨b,off+i*2+1,none⟩=some (.bool (V.getD i (0,false)).2))
def VsAt (w:World) (v:Value) (L:List (List (Nat×Bool))):Prop:=∃ ys:List Value,ys.length=L.length/\Slots w w.heap.size v ys/\∀ j,j<L.length->VS w (ys.getD j (.bool false)) (L.getD j [])
theorem VS.on {w w':World} {v:Value} {V:List (Nat×Bool)} (h:VS w v V) (hb:Below w.heap.size w w'):VS w' v V:=by
 obtain⟨a,cap,rfl,g⟩:=h
 refine⟨a,cap,rfl,fun hp=>?_⟩
 obtain⟨b,off,rfl,hlt,hc⟩:=g hp
 exact⟨b,off,rfl,Nat.lt_of_lt_of_le hlt hb.size,fun i hi=>⟨bcell hb hlt (hc i hi).1,bcell hb hlt (hc i hi).2⟩⟩
theorem VsAt.on {w w':World} {v:Value} {L:List (List (Nat×Bool))} (h:VsAt w v L) (hb:Below w.heap.size w w'):VsAt w' v L:=by
 obtain⟨ys,h1,h2,h3⟩:=h
 exact⟨ys,h1,(h2.on hb).mono hb.size,fun j hj=>(h3 j hj).on hb⟩
end Go.Proofs.YtbobljddklldjaaGreatDoor
/- Lists of whole numbers that a call owns; the walk of gauss.evenNumbers. -/
namespace Go.Proofs.YtbobljddklldjaaGreatDoor
open Go.RowKit
def intsV (l:List Int):List Value:=l.map fun x=>.int .i64 x
theorem intsV_len (l:List Int):(intsV l).length=l.length:=by simp[intsV]
theorem intsV_get (l:List Int) (i:Nat) (h:i<l.length):(intsV l)[i]?=some (.int .i64 (l.getD i 0)):=by simp[intsV,List.getD,h]
theorem intsV_set (l:List Int) (i:Nat) (x:Int):(intsV l).set i (.int .i64 x)=intsV (l.set i x):=by simp[intsV,List.map_set]
theorem made_zero (n:Nat):(madeCells (Value.int .i64 0).cells (n*1)).toList=intsV (List.replicate n 0):=by
 have e:(Value.int .i64 0).cells=#[Value.int .i64 0]:=rfl
 rw[e,toList_madeCells_one,Nat.mul_one]
 simp[intsV]
end Go.Proofs.YtbobljddklldjaaGreatDoor
/- Plain mathematics: overpasses; labels that are merged edge by edge come to the least of what is joined. -/
namespace Go.Proofs.YtbobljddklldjaaGreatDoor
def mer (W:List Nat) (x y:Nat):List Nat:=W.map fun z=>if z=max (W.getD x 0) (W.getD y 0) then min (W.getD x 0) (W.getD y 0) else z
theorem mer_len (W:List Nat) (x y:Nat):(mer W x y).length=W.length:=by simp[mer]
theorem mer_at (W:List Nat) (x y v:Nat) (hv:v<W.length):(mer W x y).getD v 0=if W.getD v 0=max (W.getD x 0) (W.getD y 0) then min (W.getD x 0) (W.getD y 0) else W.getD v 0:=by
 simp[mer,List.getD_eq_getElem?_getD,hv]
theorem mer_least {F:List (Nat×Nat)} {n:Nat} {W:List Nat} (h:Least F n W) (x y:Nat) (hx:x<n) (hy:y<n) (hF:∀ e,e∈F->e.1<n/\e.2<n):Least (F++[(x,y)]) n (mer W x y):=by
 obtain⟨hl,h2⟩:=h
 have up:∀ {u v:Nat},Con F u v->Con (F++[(x,y)]) u v:=fun hc S hS hu=>hc S (fun e he=>hS e (List.mem_append_left _ he)) hu
 have hxy:Con (F++[(x,y)]) x y:=Con.edge (List.mem_append_right _ (List.Mem.head _))
 have lx:=up (h2 x hx).1
 have ly:=up (h2 y hy).1
 have hWW:Con (F++[(x,y)]) (W.getD x 0) (W.getD y 0):=lx.symm.trans (hxy.trans ly)
 have hmm:Con (F++[(x,y)]) (max (W.getD x 0) (W.getD y 0)) (min (W.getD x 0) (W.getD y 0)):=by
  rcases Nat.le_total (W.getD x 0) (W.getD y 0) with hle|hle
  · rw[Nat.max_eq_right hle,Nat.min_eq_left hle];exact hWW.symm
  · rw[Nat.max_eq_left hle,Nat.min_eq_right hle];exact hWW
 have hcon:∀ v,v<n->Con (F++[(x,y)]) v ((mer W x y).getD v 0):=fun v hv=>by
  rw[mer_at W x y v (by omega)]
  split
  · rename_i he
    have:=up (h2 v hv).1
    rw[he]at this
    exact this.trans hmm
  · exact up (h2 v hv).1
 have hle:∀ v,v<n->(mer W x y).getD v 0<=v:=fun v hv=>by
  have h3:=(h2 v hv).2 v (Con.refl F v)
  rw[mer_at W x y v (by omega)]
  split
  · rename_i he;omega
  · exact h3
 refine⟨by rw[mer_len];exact hl,fun v hv=>⟨hcon v hv,fun u hu=>?_⟩⟩
 have hcl:Closed (F++[(x,y)]) (fun z=>z<n/\(mer W x y).getD z 0=(mer W x y).getD v 0):=fun e he=>by
  rcases List.mem_append.1 he with h4|h4
  · obtain⟨e1,e2⟩:=hF e h4
    have hs:W.getD e.1 0=W.getD e.2 0:=by
     have c:Con F e.1 e.2:=Con.edge (by cases e;exact h4)
     exact Nat.le_antisymm ((h2 _ e1).2 _ (c.trans (h2 _ e2).1)) ((h2 _ e2).2 _ (c.symm.trans (h2 _ e1).1))
    have hm:(mer W x y).getD e.1 0=(mer W x y).getD e.2 0:=by
     rw[mer_at W x y _ (by omega),mer_at W x y _ (by omega),hs]
    show(e.1<n/\(mer W x y).getD e.1 0=_)↔(e.2<n/\(mer W x y).getD e.2 0=_)
    rw[hm];exact⟨fun q=>⟨e2,q.2⟩,fun q=>⟨e1,q.2⟩⟩
  · have:e=(x,y):=by simpa using h4
    subst this
    have hm:(mer W x y).getD x 0=(mer W x y).getD y 0:=by
     rw[mer_at W x y _ (by omega),mer_at W x y _ (by omega)]
     split<;>split<;>omega
    show(x<n/\(mer W x y).getD x 0=_)↔(y<n/\(mer W x y).getD y 0=_)
    rw[hm];exact⟨fun q=>⟨hy,q.2⟩,fun q=>⟨hx,q.2⟩⟩
 obtain⟨a1,a2⟩:=hu _ hcl ⟨hv,rfl⟩
 rw[<-a2]
 exact hle u a1
def mers (W:List Nat):List (Nat×Nat)->List Nat
 |[]=>W
 |e::E=>mers (mer W e.1 e.2) E
theorem mers_app (W:List Nat) (E F:List (Nat×Nat)):mers W (E++F)=mers (mers W E) F:=by
 induction E generalizing W with
 |nil=>rfl
 |cons e E ih=>exact ih _
theorem least_nil (n:Nat):Least [] n (List.range n):=by
 refine⟨by simp,fun v hv=>?_⟩
 have e:(List.range n).getD v 0=v:=by simp[List.getD_eq_getElem?_getD,hv]
 rw[e]
 exact ⟨Con.refl _ v, fun u hu => by
  have:=hu (fun z=>z=v) (fun e he=>by cases he) rfl
  omega⟩
theorem mers_least (n:Nat):∀ (E F:List (Nat×Nat)) (W:List Nat),(∀ e,e∈F++E->e.1<n/\e.2<n)->Least F n W->Least (F++E) n (mers W E):=by
 intro E
 induction E with
 |nil=>intro F W _ h;simpa[mers] using h
 |cons e E ih=>
  intro F W hE h
  obtain⟨e1,e2⟩:=hE e (by simp)
  have h':=mer_least h e.1 e.2 e1 e2 (fun f hf=>hE f (List.mem_append_left _ hf))
  have:=ih (F++[(e.1,e.2)]) _ (fun f hf=>hE f (by simpa using hf)) h'
  simpa[mers] using this
def ovE (C:List Cr):List (Nat×Nat):=C.map fun c=>(c.b.toNat,c.d.toNat)
def lowM (C:List Cr):List Nat:=mers (List.range (2*C.length+1)) (ovE C)
def rootsN (L:List Nat):Nat->Nat
 |0=>0
 |k+1=>rootsN L k+(if 1<=k/\L.getD k 0=k then 1 else 0)
def ovM (C:List Cr) (a:Nat):Nat:=rootsN (lowM C) ((lowM C).getD a 0)
def ovC (C:List Cr):Nat:=rootsN (lowM C) (2*C.length+1)
theorem rootsN_mono (L:List Nat) (i j:Nat) (h:i<=j):rootsN L i<=rootsN L j:=by
 induction j with
 | zero => obtain rfl : i = 0 := by omega
           exact Nat.le_refl _
 |succ j ih=>
  rcases Nat.lt_or_ge j i with h1|h1
  · obtain rfl:i=j+1:=by omega
    exact Nat.le_refl _
  · exact Nat.le_trans (ih h1) (by simp[rootsN])
theorem rootsN_le (L:List Nat) (i:Nat):rootsN L i<=i:=by
 induction i with
 |zero=>exact Nat.le_refl _
 |succ i ih=>simp only[rootsN];split<;>omega
theorem ovE_in {C:List Cr} {loops:Int} (hm:mayD C loops=true):∀ e,e∈ovE C->(1<=e.1/\e.1<2*C.length+1)/\(1<=e.2/\e.2<2*C.length+1):=fun e he=>by
 obtain⟨c,hc,rfl⟩:=List.mem_map.1 he
 obtain⟨i,hi,rfl⟩:=List.getElem_of_mem hc
 have h1:=may_fit hm i 1 hi (by omega)
 have h3:=may_fit hm i 3 hi (by omega)
 have e:C.getD i Cr.none=C[i]:=by simp[List.getD_eq_getElem?_getD,hi]
 have a1:(C.getD i Cr.none).arc 1=C[i].b:=by rw[e];rfl
 have a3:(C.getD i Cr.none).arc 3=C[i].d:=by rw[e];rfl
 have g1:=h1.1
 have g2:=h1.2.1
 have g3:=h3.1
 have g4:=h3.2.1
 rw[a1]at g1 g2
 rw[a3]at g3 g4
 refine⟨⟨?_,?_⟩,?_,?_⟩<;>dsimp only<;>omega
theorem ovE_lt {C:List Cr} {loops:Int} (hm:mayD C loops=true):∀ e,e∈ovE C->e.1<2*C.length+1/\e.2<2*C.length+1:=fun e he=>⟨(ovE_in hm e he).1.2,(ovE_in hm e he).2.2⟩
theorem lowM_least {C:List Cr} (hE:∀ e,e∈ovE C->e.1<2*C.length+1/\e.2<2*C.length+1):Least (ovE C) (2*C.length+1) (lowM C):=by
 have:=mers_least (2*C.length+1) (ovE C) [] (List.range (2*C.length+1)) (fun e he=>hE e (by simpa using he)) (least_nil _)
 simpa[lowM] using this
theorem Least.root {E:List (Nat×Nat)} {n:Nat} {W:List Nat} (h:Least E n W) {v:Nat} (hv:v<n):W.getD (W.getD v 0) 0=W.getD v 0:=(h.same (h.lt hv) hv).2 (h.2 v hv).1.symm
theorem Least.le {E:List (Nat×Nat)} {n:Nat} {W:List Nat} (h:Least E n W) {v:Nat} (hv:v<n):W.getD v 0<=v:=(h.2 v hv).2 v (Con.refl E v)
theorem Least.pos {E:List (Nat×Nat)} {n:Nat} {W:List Nat} (h:Least E n W) (hE:∀ e,e∈E->1<=e.1/\1<=e.2) {v:Nat} (hv:v<n) (h1:1<=v):1<=W.getD v 0:=by
 have:=(h.2 v hv).1 (fun z=>1<=z) (fun e he=>by simp[hE e he]) h1
 exact this
end Go.Proofs.YtbobljddklldjaaGreatDoor
/- Plain mathematics: edges and the edges that cross them; where Euler's number is that of spheres, a set of edges that comes to each corner an even number of times is the boundary of a set of faces. -/
namespace Go.Proofs.YtbobljddklldjaaGreatDoor
def xs (g:Nat->Bool):Nat->Bool
 |0=>false
 |m+1=>xor (xs g m) (g m)
def incl (E:Nat->Nat×Nat) (K:Nat->Bool):Nat->List (Nat×Nat)
 |0=>[]
 |m+1=>incl E K m++(if K m=true then [E m] else [])
theorem incl_mem {E:Nat->Nat×Nat} {K:Nat->Bool} {m:Nat} {e:Nat×Nat}:e∈incl E K m↔∃ i,i<m/\K i=true/\e=E i:=by
 induction m with
 |zero=>simp[incl]
 |succ m ih=>
  simp only[incl,List.mem_append,ih]
  constructor
  · rintro(⟨i,h1,h2,h3⟩|h)
    · exact⟨i,by omega,h2,h3⟩
    · by_cases hk:K m=true
      · rw[if_pos hk]at h
        exact⟨m,by omega,hk,List.mem_singleton.1 h⟩
      · rw[if_neg hk]at h;cases h
  · rintro⟨i,h1,h2,h3⟩
    by_cases e2:i=m
    · subst e2
      exact Or.inr (by rw[if_pos h2,h3];exact List.mem_singleton.2 rfl)
    · exact Or.inl ⟨i,by omega,h2,h3⟩
def cls (E:Nat->Nat×Nat) (K:Nat->Bool) (n m:Nat):List Nat:=mers (List.range n) (incl E K m)
theorem cls_least {E:Nat->Nat×Nat} {K:Nat->Bool} {n m:Nat} (hE:∀ i,i<m->(E i).1<n/\(E i).2<n):Least (incl E K m) n (cls E K n m):=by
 have h := mers_least n (incl E K m) [] (List.range n) (fun e he => by
  obtain⟨i,h1,-,rfl⟩:=incl_mem.1 (by simpa using he)
  exact hE i h1) (least_nil n)
 simpa[cls] using h
theorem cls_next {E:Nat->Nat×Nat} {K:Nat->Bool} {n m:Nat} (h:K m=true):cls E K n (m+1)=mer (cls E K n m) (E m).1 (E m).2:=by
 unfold cls
 simp only[incl]
 rw[if_pos h,mers_app]
 rfl
theorem mer_same {W:List Nat} {x y:Nat} (h:W.getD x 0=W.getD y 0):mer W x y=W:=by
 unfold mer
 rw[h]
 have:∀ z:Nat,(if z=max (W.getD y 0) (W.getD y 0) then min (W.getD y 0) (W.getD y 0) else z)=z:=fun z=>by
  split<;>omega
 simp only[this]
 exact List.map_id' W
end Go.Proofs.YtbobljddklldjaaGreatDoor
/- Slices that are read; lists of numbers that stand in a function's values; which walk an arc lies in. -/
namespace Go.Proofs.YtbobljddklldjaaGreatDoor
open Go.RowKit
def RdAt (w:World) (B size:Nat) (v:Value) (n:Nat) (xs:List Value):Prop:=∃ a cap,v=.slice a n cap/\(0<n->∃ b off,a=some ⟨b,off,none⟩/\b<B/\∀ j,j<n*size->w.cell? ⟨b,off+j,none⟩=xs[j]?)
theorem RdAt.on {w w':World} {B size n:Nat} {v:Value} {xs:List Value} (h:RdAt w B size v n xs) (hb:Below B w w'):RdAt w' B size v n xs:=by
 obtain⟨a,cap,rfl,f⟩:=h
 refine⟨a,cap,rfl,fun h0=>?_⟩
 obtain⟨b,off,rfl,hlt,hc⟩:=f h0
 exact⟨b,off,rfl,hlt,fun j hj=>bcell hb hlt (hc j hj)⟩
theorem RdAt.mono {w:World} {B B' size n:Nat} {v:Value} {xs:List Value} (h:RdAt w B size v n xs) (hB:B<=B'):RdAt w B' size v n xs:=by
 obtain⟨a,cap,rfl,f⟩:=h
 refine⟨a,cap,rfl,fun h0=>?_⟩
 obtain⟨b,off,rfl,hlt,hc⟩:=f h0
 exact⟨b,off,rfl,Nat.lt_of_lt_of_le hlt hB,hc⟩
theorem own_rd {w:World} {B e size n:Nat} {v:Value} {xs:List Value} (h:w.ownsRow B e size v n xs):RdAt w w.heap.size size v n xs:=by
 have h0:=h
 rcases h.2 with⟨rfl,h1⟩|⟨g,cap,cur,rfl,_,_,_⟩
 · exact⟨none,0,by rw[h1],fun hp=>by omega⟩
 · exact⟨some ⟨g,0,none⟩,cap,rfl,fun _=>⟨g,0,rfl,(h0.lt g rfl).2,fun j hj=>by rw[Nat.zero_add];exact h0.cellAt j hj⟩⟩
def NatsRd (w:World) (B:Nat) (v:Value) (L:List (List Nat)):Prop:=∃ ys:List Value,ys.length=L.length/\RdAt w B 1 v L.length ys/\∀ j,j<L.length->RdAt w B 1 (ys.getD j (.bool false)) (L.getD j []).length (nats (L.getD j []))
theorem NatsRd.on {w w':World} {B:Nat} {v:Value} {L:List (List Nat)} (h:NatsRd w B v L) (hb:Below B w w'):NatsRd w' B v L:=by
 obtain⟨ys,hy,h1,h2⟩:=h
 exact⟨ys,hy,h1.on hb,fun j hj=>(h2 j hj).on hb⟩
theorem NatsRd.mono {w:World} {B B':Nat} {v:Value} {L:List (List Nat)} (h:NatsRd w B v L) (hB:B<=B'):NatsRd w B' v L:=by
 obtain⟨ys,hy,h1,h2⟩:=h
 exact⟨ys,hy,h1.mono hB,fun j hj=>(h2 j hj).mono hB⟩
theorem NatsRd.up {w w':World} {v:Value} {L:List (List Nat)} (h:NatsRd w w.heap.size v L) (hb:Below w.heap.size w w'):NatsRd w' w'.heap.size v L:=(h.on hb).mono hb.size
theorem NatsOwn.rd {w:World} {B:Nat} {v:Value} {L:List (List Nat)} (h:NatsOwn w B v L):NatsRd w w.heap.size v L:=by
 obtain⟨ys,hy,h1,h2⟩:=h
 exact⟨ys,hy,by rw[<-hy];exact own_rd h1,fun j hj=>own_rd (h2 j hj)⟩
theorem NatsRd.len {w:World} {B:Nat} {v:Value} {L:List (List Nat)} (h:NatsRd w B v L):∃ a cap,v=.slice a L.length cap:=by
 obtain⟨ys,hy,⟨a,cap,e,-⟩,h2⟩:=h
 exact⟨a,cap,e⟩
theorem NatsRd.row {w : World} {B : Nat} {a : Option Addr} {cap : Nat} {L : List (List Nat)} (h : NatsRd w B (.slice a L.length cap) L) (j : Nat) (hj : j < L.length) :
    ∃ b off ar cr,a=some ⟨b,off,none⟩/\b<B/\w.cell? ⟨b,off+j,none⟩=some (.slice ar (L.getD j []).length cr)/\RdAt w B 1 (.slice ar (L.getD j []).length cr) (L.getD j []).length (nats (L.getD j [])):=by
 obtain⟨ys,hy,⟨a',cap',e,f⟩,h2⟩:=h
 injection e with e1 e2 e3
 obtain⟨b,off,eb,hlt,hc⟩:=f (by omega)
 have hr:=h2 j hj
 obtain⟨ar,cr,er,-⟩:=hr
 have hr:=h2 j hj
 rw[er]at hr
 refine⟨b,off,ar,cr,e1.trans eb,hlt,?_,hr⟩
 rw[hc j (by omega),<-er]
 simp[List.getD,hy,hj]
def mapI (m:Nat) (f:Nat->Int):List Int:=(List.range m).map f
theorem mapI_len (m:Nat) (f:Nat->Int):(mapI m f).length=m:=by simp[mapI]
theorem mapI_get (m:Nat) (f:Nat->Int) (i:Nat) (h:i<m):(mapI m f)[i]?=some (f i):=by simp[mapI,h]
theorem mapI_at (m:Nat) (f:Nat->Int) (i:Nat) (h:i<m):(mapI m f).getD i 0=f i:=by rw[List.getD_eq_getElem?_getD,mapI_get m f i h];rfl
theorem mapI_set (m:Nat) (f g:Nat->Int) (i:Nat) (x:Int) (h:∀ j,j<m->g j=if j=i then x else f j):(mapI m f).set i x=mapI m g:=by
 apply List.ext_getElem?
 intro j
 by_cases hj:j<m
 · rw[mapI_get m g j hj,h j hj,List.getElem?_set]
   by_cases e:i=j
   · subst e;simp[mapI_len,hj]
   · rw[if_neg e,if_neg (fun h=>e h.symm),mapI_get m f j hj]
 · rw[List.getElem?_eq_none (by simp[mapI_len];omega),List.getElem?_eq_none (by simp[mapI_len];omega)]
theorem mapI_zero (m:Nat) (f:Nat->Int) (h:∀ j,j<m->f j=0):mapI m f=List.replicate m 0:=by
 apply List.ext_getElem?
 intro j
 by_cases hj:j<m
 · rw[mapI_get m f j hj,h j hj];simp[hj]
 · rw[List.getElem?_eq_none (by simp[mapI_len];omega),List.getElem?_eq_none (by simp;omega)]
theorem mapI_congr (m:Nat) (f g:Nat->Int) (h:∀ j,j<m->f j=g j):mapI m f=mapI m g:=List.map_congr_left fun j hj=>h j (List.mem_range.1 hj)
def pt (L:List (List Nat)) (a:Nat):Nat:=L.findIdx fun l=>decide (a∈l)
theorem two_rows (a:Nat):∀ (L:List (List Nat)) (i j:Nat),i<j->j<L.length->a∈L.getD i []->a∈L.getD j []->2<=L.flatten.count a
 |[],i,j,_,h,_,_=>absurd h (by simp)
 |x::t,0,j+1,_,hj,h1,h2=>by
  have h3:1<=x.count a:=List.one_le_count_iff.2 (by simpa using h1)
  have hj':j<t.length:=by simpa using hj
  have h4:a∈t.flatten:=by
   refine List.mem_flatten.2 ⟨t.getD j [],?_,by simpa using h2⟩
   rw[List.getD_eq_getElem?_getD,List.getElem?_eq_getElem hj']
   exact List.getElem_mem hj'
  have h5:1<=t.flatten.count a:=List.one_le_count_iff.2 h4
  rw[List.flatten_cons,List.count_append]
  omega
 |x::t,i+1,j+1,hij,hj,h1,h2=>by
  have:=two_rows a t i j (by omega) (by simpa using hj) (by simpa using h1) (by simpa using h2)
  rw[List.flatten_cons,List.count_append]
  omega
theorem pt_is {L:List (List Nat)} {a i:Nat} (h1:L.flatten.count a=1) (hi:i<L.length) (ha:a∈L.getD i []):pt L a=i:=by
 have hle:pt L a<=i:=by
  refine Classical.byContradiction fun hc=>?_
  have:=List.not_of_lt_findIdx (p:=fun l=>decide (a∈l)) (xs:=L) (i:=i) (by unfold pt at hc;omega)
  rw[List.getD_eq_getElem?_getD,List.getElem?_eq_getElem hi]at ha
  simp at this
  exact this (by simpa using ha)
 rcases Nat.lt_or_ge (pt L a) i with h|h
 · have hl:pt L a<L.length:=by omega
   have hm:=List.findIdx_getElem (p:=fun l=>decide (a∈l)) (xs:=L) (w:=hl)
   have hm2:a∈L.getD (pt L a) []:=by
    rw[List.getD_eq_getElem?_getD,List.getElem?_eq_getElem hl]
    exact of_decide_eq_true hm
   have:=two_rows a L (pt L a) i h hi hm2 ha
   omega
 · omega
theorem pt_lt {L:List (List Nat)} {a:Nat} (h1:L.flatten.count a=1):pt L a<L.length:=by
 have:a∈L.flatten:=List.one_le_count_iff.1 (by omega)
 obtain⟨l,hl,ha⟩:=List.mem_flatten.1 this
 exact List.findIdx_lt_length_of_exists ⟨l,hl,by simpa using ha⟩
theorem pt_mem {L:List (List Nat)} {a i:Nat} (h1:L.flatten.count a=1) (hi:i<L.length):a∈L.getD i []↔pt L a=i:=by
 constructor
 · exact pt_is h1 hi
 · intro e
   have hl:pt L a<L.length:=by omega
   have hm:=List.findIdx_getElem (p:=fun l=>decide (a∈l)) (xs:=L) (w:=hl)
   rw[<-e,List.getD_eq_getElem?_getD,List.getElem?_eq_getElem hl]
   exact of_decide_eq_true hm
end Go.Proofs.YtbobljddklldjaaGreatDoor
/- Plain mathematics: rings of a renaming are closed; in which face a dart lies. -/
namespace Go.Proofs.YtbobljddklldjaaGreatDoor
theorem un_le (l:List Bool) (y:Nat):un l y<=1:=by unfold un;split<;>omega
theorem unseen_none {l:List Bool} (h:unseen l=0) (x:Nat):l.getD x true=true:=by
 cases e:l.getD x true with
 |true=>rfl
 |false=>have:=unseen_pos e;omega
theorem walkF_chain (f : Nat → Nat) : ∀ (m : Nat) (seen : List Bool) (x : Nat) (acc : List Nat), unseen seen ≤ m → (∀ i, i + 1 < acc.length → acc.getD (i + 1) 0 = f (acc.getD i 0)) → (0 < acc.length → x = f (acc.getD (acc.length - 1) 0)) →
    (∀ i,i+1<(walkF f m seen x acc).1.length->(walkF f m seen x acc).1.getD (i+1) 0=f ((walkF f m seen x acc).1.getD i 0))/\(0<(walkF f m seen x acc).1.length->un (walkF f m seen x acc).2 (f ((walkF f m seen x acc).1.getD ((walkF f m seen x acc).1.length-1) 0))=0):=by
 intro m
 induction m with
 |zero=>
  intro seen x acc hu hc hx
  refine⟨hc,fun h0=>?_⟩
  show un seen (f (acc.getD (acc.length-1) 0))=0
  rw[<-hx h0]
  unfold un
  rw[if_pos (unseen_none (by omega) x)]
 |succ m ih=>
  intro seen x acc hu hc hx
  by_cases hs:seen.getD x true=true
  · rw[walkF_seen hs]
    refine⟨hc,fun h0=>?_⟩
    show un seen (f (acc.getD (acc.length-1) 0))=0
    rw[<-hx h0]
    unfold un
    rw[if_pos hs]
  · have hs':seen.getD x true=false:=by simpa using hs
    obtain⟨e,hu2⟩:=walkF_more (f:=f) (acc:=acc) hs' hu
    rw[e]
    refine ih _ _ _ hu2 (fun i hi=>?_) (fun _=>?_)
    · rw[List.length_append,List.length_singleton]at hi
      by_cases hi2:i+1<acc.length
      · have e1:(acc++[x]).getD (i+1) 0=acc.getD (i+1) 0:=by simp[List.getD_eq_getElem?_getD,List.getElem?_append_left hi2]
        have e2:(acc++[x]).getD i 0=acc.getD i 0:=by simp[List.getD_eq_getElem?_getD,List.getElem?_append_left (show i<acc.length by omega)]
        rw[e1,e2]
        exact hc i hi2
      · have hl:acc.length=i+1:=by omega
        have e1:(acc++[x]).getD (i+1) 0=x:=by rw[<-hl];simp[List.getD_eq_getElem?_getD]
        have e2:(acc++[x]).getD i 0=acc.getD i 0:=by simp[List.getD_eq_getElem?_getD,List.getElem?_append_left (show i<acc.length by omega)]
        rw[e1,e2,hx (by omega),hl]
        rfl
    · have e1:(acc++[x]).getD ((acc++[x]).length-1) 0=x:=by simp[List.getD_eq_getElem?_getD]
      rw[e1]
theorem mem_atZ {l:List Nat} {y:Nat} (h:y∈l):∃ i,i<l.length/\l.getD i 0=y:=by
 obtain⟨i,hi,e⟩:=List.getElem_of_mem h
 exact⟨i,hi,by rw[List.getD_eq_getElem?_getD,List.getElem?_eq_getElem hi];exact e⟩
theorem at_mem {l:List Nat} {i:Nat} (h:i<l.length):l.getD i 0∈l:=by
 rw[List.getD_eq_getElem?_getD,List.getElem?_eq_getElem h]
 exact List.getElem_mem h
theorem at_ne {l:List Nat} (h:∀ y,l.count y<=1) {i j:Nat} (hij:i<j) (hj:j<l.length):l.getD i 0≠l.getD j 0:=by
 have hn:l.Nodup:=List.nodup_iff_count.2 h
 have:=List.pairwise_iff_getElem.1 hn i j (by omega) hj hij
 rw[List.getD_eq_getElem?_getD,List.getElem?_eq_getElem (by omega),List.getD_eq_getElem?_getD,List.getElem?_eq_getElem hj]
 exact this
theorem rings_closed {f : Nat → Nat} {n : Nat} (hf : ∀ a, 1 ≤ a → a ≤ n → 1 ≤ f a ∧ f a ≤ n) (hi : ∀ a b, 1 ≤ a → a ≤ n → 1 ≤ b → b ≤ n → f a = f b → a = b) : ∀ a, a ≤ n →
    (∀ l,l∈(walksTo f n a).1->∀ y,y∈l->f y∈l)/\(∀ y,1<=y->y<=n->un (walksTo f n a).2 (f y)=0->un (walksTo f n a).2 y=0)/\
    (∀ l,l∈(walksTo f n a).1->(∀ i,i+1<l.length->l.getD (i+1) 0=f (l.getD i 0))/\f (l.getD (l.length-1) 0)=l.getD 0 0):=by
 intro a
 induction a with
 |zero=>
  intro _
  refine⟨fun l hl=>absurd hl (by simp[walksTo]),fun y h1 h2 h3=>?_,fun l hl=>absurd hl (by simp[walksTo])⟩
  have h4:=hf y h1 h2
  exfalso
  have:un (walksTo f n 0).2 (f y)=1:=by
   simp[walksTo,un,List.getD_eq_getElem?_getD,show f y<n+1 by omega]
  omega
 |succ a ih=>
  intro ha
  obtain⟨i1,i2,i3⟩:=ih (by omega)
  have hin:=walksTo_mem hf a (by omega)
  generalize hr:walksTo f n a=r at i1 i2 i3 hin
  have hlen:r.2.length=n+1:=by rw[<-hr];exact walksTo_len f n a
  have hch:=walkF_chain f (n+1) r.2 (a+1) [] (by have:=unseen_le r.2;omega) (fun i hi=>by simp at hi) (fun h0=>by simp at h0)
  have hmem:=walkF_mem hf (n+1) r.2 (a+1) [] (by omega) ha (fun y hy=>by cases hy)
  have hcnt:=walkF_count f (n+1) r.2 (a+1) []
  have hkeep:=walkF_keep f (n+1) r.2 (a+1) []
  have e:walksTo f n (a+1)=(if(walkF f (n+1) r.2 (a+1) []).1=[] then r.1 else r.1++[(walkF f (n+1) r.2 (a+1) []).1],(walkF f (n+1) r.2 (a+1) []).2):=by simp only[walksTo,hr]
  rw[e]
  generalize walkF f (n+1) r.2 (a+1) []=s at hch hmem hcnt hkeep
  obtain⟨l,sn⟩:=s
  simp only[List.count_nil,Nat.zero_add]at hch hmem hcnt hkeep ⊢
  have hc1:∀ y,l.count y<=1:=fun y=>by have:=hcnt y;have:=un_le r.2 y;omega
  have hin1:∀ y,y∈l->un r.2 y=1/\un sn y=0:=fun y hy=>by
   have h1:1<=l.count y:=List.one_le_count_iff.2 hy
   have h2:=hcnt y
   have h3:=un_le r.2 y
   omega
  -- what stands behind the last is the first
  have hend:0<l.length->f (l.getD (l.length-1) 0)=l.getD 0 0:=fun h0=>by
   have hlast:=at_mem (l:=l) (i:=l.length-1) (by omega)
   have hb:=hmem _ hlast
   have hz:=hch.2 h0
   have hnz:un r.2 (f (l.getD (l.length-1) 0))≠0:=fun q=>by
    have:=i2 _ hb.1 hb.2 q
    have:=(hin1 _ hlast).1
    omega
   have hz1:f (l.getD (l.length-1) 0)∈l:=by
    have h2:=hcnt (f (l.getD (l.length-1) 0))
    refine List.one_le_count_iff.1 ?_
    omega
   obtain⟨j,hj,ej⟩:=mem_atZ hz1
   cases j with
   |zero=>exact ej.symm
   |succ j=>
    exfalso
    have h5:=hch.1 j hj
    rw[ej]at h5
    have hbj:=hmem _ (at_mem (l:=l) (i:=j) (by omega))
    have h6:=hi _ _ hb.1 hb.2 hbj.1 hbj.2 h5
    exact at_ne hc1 (i:=j) (j:=l.length-1) (by omega) (by omega) h6.symm
  refine⟨?_,fun y h1 h2 h3=>?_,fun l' hl'=>?_⟩
  · intro l' hl' y hy
    by_cases hnil:l=[]
    · rw[if_pos hnil]at hl'
      exact i1 l' hl' y hy
    · rw[if_neg hnil]at hl'
      rcases List.mem_append.1 hl' with h|h
      · exact i1 l' h y hy
      · obtain rfl:=List.mem_singleton.1 h
        obtain⟨i,hil,rfl⟩:=mem_atZ hy
        by_cases hlast:i+1<l'.length
        · rw[<-hch.1 i hlast]
          exact at_mem hlast
        · have hi1:i=l'.length-1:=by omega
          rw[hi1,hend (by omega)]
          exact at_mem (by omega)
  · by_cases hq:un r.2 (f y)=0
    · exact hkeep y (i2 y h1 h2 hq)
    · have hmy:f y∈l:=List.one_le_count_iff.1 (by have:=hcnt (f y);omega)
      obtain⟨j,hj,ej⟩:=mem_atZ hmy
      cases j with
      |zero=>
       have hlast:=at_mem (l:=l) (i:=l.length-1) (by omega)
       have hb:=hmem _ hlast
       have:=hi y _ h1 h2 hb.1 hb.2 (by rw[hend (by omega),ej])
       rw[this]
       exact(hin1 _ hlast).2
      |succ j=>
       have h5:=hch.1 j hj
       rw[ej]at h5
       have hbj:=hmem _ (at_mem (l:=l) (i:=j) (by omega))
       have:=hi y _ h1 h2 hbj.1 hbj.2 h5
       rw[this]
       exact(hin1 _ (at_mem (by omega))).2
  · by_cases hnil:l=[]
    · rw[if_pos hnil]at hl'
      exact i3 l' hl'
    · rw[if_neg hnil]at hl'
      rcases List.mem_append.1 hl' with h|h
      · exact i3 l' h
      · obtain rfl:=List.mem_singleton.1 h
        have h0:0<l'.length:=by
         cases l' with
         |nil=>exact absurd rfl hnil
         |cons=>simp
        exact⟨hch.1,hend h0⟩
theorem fd_inj {C:List Cr} {loops:Int} (hm:mayD C loops=true) (i j:Nat) (h1:1<=i) (h2:i<=4*C.length) (h3:1<=j) (h4:j<=4*C.length) (e:fd C i=fd C j):i=j:=by
 obtain⟨p1,p2,p3⟩:=d_may hm i h1 h2
 obtain⟨q1,q2,q3⟩:=d_may hm j h3 h4
 obtain⟨a1,a2,a3,a4⟩:=fd_may hm i h1 h2
 obtain⟨b1,b2,b3,b4⟩:=fd_may hm j h3 h4
 rw[e]at a1 a2
 have hA:=dA_le b3 b4
 have e1:=end_one hm _ hA.1 hA.2 _ _ _ p2 (Nat.mod_lt _ (by decide)) a1 a2
 have e2:=end_one hm _ hA.1 hA.2 _ _ _ q2 (Nat.mod_lt _ (by decide)) b1 b2
 rw[e1]at e2
 have hcc:dC C i=dC C j:=by have:=congrArg Prod.fst e2;simp only at this;omega
 have hss:dS C i=dS C j:=by have:=congrArg Prod.snd e2;simp only at this;omega
 have u:=en_may hm (dA i) (!dB i) (dA_le h1 h2).1 (dA_le h1 h2).2
 have v:=en_may hm (dA j) (!dB j) (dA_le h3 h4).1 (dA_le h3 h4).2
 have u1:(C.getD (dC C i) Cr.none).arc (dS C i)=(dA i:Int):=u.2.2.2.1
 have v1:(C.getD (dC C j) Cr.none).arc (dS C j)=(dA j:Int):=v.2.2.2.1
 have u2:(C.getD (dC C i) Cr.none).comes (dS C i)=(!dB i):=u.2.2.2.2
 have v2:(C.getD (dC C j) Cr.none).comes (dS C j)=(!dB j):=v.2.2.2.2
 rw[hcc,hss]at u1 u2
 have h5:dA i=dA j:=by omega
 have h6:dB i=dB j:=by
  rw[u2]at v2
  revert v2
  cases dB i<;>cases dB j<;>simp
 rw[<-mk_d h1,<-mk_d h3,h5,h6]
def fo (C:List Cr) (j:Nat):Nat:=pt (facesM C) j
theorem fo_lt {C:List Cr} (j:Nat) (h1:1<=j) (h2:j<=4*C.length):fo C j<(facesM C).length:=pt_lt (walks_once (fd C) (4*C.length) j h1 h2)
theorem fo_fd {C:List Cr} {loops:Int} (hm:mayD C loops=true) (j:Nat) (h1:1<=j) (h2:j<=4*C.length):fo C (fd C j)=fo C j:=by
 have hc:=fd_closed hm j h1 h2
 have hl:=fo_lt j h1 h2
 have hj:j∈(facesM C).getD (fo C j) []:=(pt_mem (walks_once (fd C) (4*C.length) j h1 h2) hl).2 rfl
 have hin:(facesM C).getD (fo C j) []∈facesM C:=by
  rw[List.getD_eq_getElem?_getD,List.getElem?_eq_getElem hl]
  exact List.getElem_mem hl
 have h3:=(rings_closed (fd_closed hm) (fun a b p q r s t=>fd_inj hm a b p q r s t) (4*C.length) (Nat.le_refl _)).1 _ hin j hj
 exact pt_is (walks_once (fd C) (4*C.length) _ hc.1 hc.2) hl h3
end Go.Proofs.YtbobljddklldjaaGreatDoor
/- Tables of numbers that a call owns. -/
namespace Go.Proofs.YtbobljddklldjaaGreatDoor
open Go.RowKit
def outC0 (m:Nat) (gs:Nat->Nat) (k:Nat):List Value:=(List.range m).map fun i=>if i<k then .slice (some ⟨gs i,0,none⟩) m m else .slice none 0 0
theorem outC0_len (m:Nat) (gs:Nat->Nat) (k:Nat):(outC0 m gs k).length=m:=by simp[outC0]
theorem outC0_get (m:Nat) (gs:Nat->Nat) (k i:Nat) (h:i<m):(outC0 m gs k)[i]?=some (if i<k then .slice (some ⟨gs i,0,none⟩) m m else .slice none 0 0):=by simp[outC0,h]
structure TabAt (B gt m:Nat) (gs:Nat->Nat) (k:Nat) (T:Nat->Nat->Int) (W:World):Prop where
 outer:W.ownsRow B 62 1 (.slice (some ⟨gt,0,none⟩) m m) m (outC0 m gs k)
 rows:∀ i,i<k->W.ownsRow B 3 1 (.slice (some ⟨gs i,0,none⟩) m m) m (intsV (mapI m (T i)))
 inj:∀ i j,i<k->j<k->gs i=gs j->i=j
theorem TabAt.any {B gt m k:Nat} {gs:Nat->Nat} {T:Nat->Nat->Int} {W W':World} (h:TabAt B gt m gs k T W) (hg:W.grownBy W' none):TabAt B gt m gs k T W':=
 ⟨own_any h.outer hg,fun i hi=>own_any (h.rows i hi) hg,h.inj⟩
theorem TabAt.cellO {B gt m k:Nat} {gs:Nat->Nat} {T:Nat->Nat->Int} {W:World} (h:TabAt B gt m gs k T W) (i:Nat) (hi:i<k) (hm:i<m):W.cell? ⟨gt,i,none⟩=some (.slice (some ⟨gs i,0,none⟩) m m):=by
 rw[h.outer.cellAt i (by omega),outC0_get m gs k i hm,if_pos hi]
theorem TabAt.cellR {B gt m k:Nat} {gs:Nat->Nat} {T:Nat->Nat->Int} {W:World} (h:TabAt B gt m gs k T W) (i j:Nat) (hi:i<k) (hj:j<m):W.cell? ⟨gs i,j,none⟩=some (.int .i64 (T i j)):=by
 rw[(h.rows i hi).cellAt j (by omega),intsV_get _ j (by rw[mapI_len];exact hj),mapI_at _ _ _ hj]
theorem TabAt.set {B gt m k:Nat} {gs:Nat->Nat} {T T':Nat->Nat->Int} {W:World} (h:TabAt B gt m gs k T W) (i j:Nat) (x:Int) (hi:i<k) (hT:∀ a b,a<k->b<m->T' a b=if a=i/\b=j then x else T a b):TabAt B gt m gs k T' (W.setCell ⟨gs i,j,none⟩ (.int .i64 x))/\W.grownBy (W.setCell ⟨gs i,j,none⟩ (.int .i64 x)) (some (gs i)):=by
 have hst:=(h.rows i hi).stored j (.int .i64 x)
 rw[intsV_set]at hst
 refine⟨⟨h.outer.kept hst.2 (own_ne h.outer (h.rows i hi) (by decide)),fun a ha=>?_,h.inj⟩,hst.2⟩
 by_cases e:a=i
 · subst e
   rw[mapI_set m (T a) (T' a) j x (fun b hb=>by rw[hT a b ha hb];by_cases e:b=j<;>simp[e])]at hst
   exact hst.1
 · have hr:=(h.rows a ha).kept hst.2 (Or.inr (fun q=>e (h.inj a i ha hi (Option.some.inj q))))
   rw[mapI_congr m (T' a) (T a) (fun b hb=>by rw[hT a b ha hb,if_neg (fun q=>e q.1)])]
   exact hr
theorem TabAt.more {B gt m k g : Nat} {gs : Nat → Nat} {T : Nat → Nat → Int} {W W1 : World} (h : TabAt B gt m gs k T W) (hg : W.grownBy W1 none) (hrow : W1.ownsRow B 3 1 (.slice (some ⟨g, 0, none⟩) m m) m (intsV (mapI m (T k)))) (hnew : W.heap.size ≤ g) :
    TabAt B gt m (fun i=>if i=k then g else gs i) (k+1) T (W1.setCell ⟨gt,k,none⟩ (.slice (some ⟨g,0,none⟩) m m))/\W1.grownBy (W1.setCell ⟨gt,k,none⟩ (.slice (some ⟨g,0,none⟩) m m)) (some gt):=by
 have h1:=h.any hg
 have hst:=h1.outer.stored k (.slice (some ⟨g,0,none⟩) m m)
 have hlt:∀ i,i<k->gs i<g:=fun i hi=>by have:=((h.rows i hi).lt (gs i) rfl).2;omega
 refine⟨⟨?_,fun i hi=>?_,fun i j hi hj e=>?_⟩,hst.2⟩
 · have e : (outC0 m gs k).set k (.slice (some ⟨g, 0, none⟩) m m) = outC0 m (fun i => if i = k then g else gs i) (k + 1) := by
     apply List.ext_getElem?
     intro j
     by_cases hj:j<m
     · rw[outC0_get _ _ _ _ hj,List.getElem?_set,outC0_len]
       by_cases e:k=j
       · subst e;simp[hj]
       · rw[if_neg e,outC0_get _ _ _ _ hj]
         by_cases h2:j<k
         · rw[if_pos h2,if_pos (by omega),if_neg (by omega)]
         · rw[if_neg h2,if_neg (by omega)]
     · rw[List.getElem?_eq_none (by simp[outC0_len];omega),List.getElem?_eq_none (by simp[outC0_len];omega)]
   rw[<-e]
   exact hst.1
 · by_cases e:i=k
   · subst e
     simp only[if_true]
     exact hrow.kept hst.2 (own_ne hrow h1.outer (by decide))
   · simp only[if_neg e]
     have hr:=h1.rows i (by omega)
     exact hr.kept hst.2 (own_ne hr h1.outer (by decide))
 · have e:(if i=k then g else gs i)=(if j=k then g else gs j):=e
   by_cases e1:i=k
   · by_cases e2:j=k
     · omega
     · rw[if_pos e1,if_neg e2]at e
       have:=hlt j (by omega)
       omega
   · by_cases e2:j=k
     · rw[if_neg e1,if_pos e2]at e
       have:=hlt i (by omega)
       omega
     · rw[if_neg e1,if_neg e2]at e
       exact h.inj i j (by omega) (by omega) e
theorem made_nils (n:Nat):(madeCells (Value.slice none 0 0).cells (n*1)).toList=outC0 n (fun _=>0) 0:=by
 have e:(Value.slice none 0 0).cells=#[Value.slice none 0 0]:=rfl
 rw[e,toList_madeCells_one,Nat.mul_one]
 apply List.ext_getElem?
 intro j
 by_cases hj:j<n
 · rw[outC0_get _ _ _ _ hj,if_neg (by omega)];simp[hj]
 · rw[List.getElem?_eq_none (by simp;omega),List.getElem?_eq_none (by simp[outC0_len];omega)]
theorem TabAt.congr {B gt m k:Nat} {gs:Nat->Nat} {T T':Nat->Nat->Int} {W:World} (h:TabAt B gt m gs k T W) (e:∀ x y,x<k->y<m->T' x y=T x y):TabAt B gt m gs k T' W:=
 ⟨h.outer,fun i hi=>by rw[mapI_congr m (T' i) (T i) (fun y hy=>e i y hi hy)];exact h.rows i hi,h.inj⟩
theorem TabAt.low {B B' gt m k:Nat} {gs:Nat->Nat} {T:Nat->Nat->Int} {W:World} (h:TabAt B gt m gs k T W) (hB:B'<=B):TabAt B' gt m gs k T W:=
 ⟨own_low h.outer hB,fun i hi=>own_low (h.rows i hi) hB,h.inj⟩
end Go.Proofs.YtbobljddklldjaaGreatDoor
/- Plain mathematics: labels merged place by place. -/
namespace Go.Proofs.YtbobljddklldjaaGreatDoor
open Go.RowKit
theorem cut_one {T G:Prop} (h:Hid T->G) (hT:T):G:=h hT
def merTo (W:List Nat) (x y k:Nat):List Nat:=(List.range W.length).map fun v=>if v<k then(mer W x y).getD v 0 else W.getD v 0
theorem merTo_len (W:List Nat) (x y k:Nat):(merTo W x y k).length=W.length:=by simp[merTo]
theorem merTo_at (W:List Nat) (x y k v:Nat) (hv:v<W.length):(merTo W x y k).getD v 0=if v<k then(mer W x y).getD v 0 else W.getD v 0:=by simp[merTo,List.getD_eq_getElem?_getD,hv]
theorem getD_ext {l m:List Nat} (h:l.length=m.length) (g:∀ v,v<l.length->l.getD v 0=m.getD v 0):l=m:=by
 refine List.ext_getElem h fun i h1 h2=>?_
 have:=g i h1
 simpa[List.getD_eq_getElem?_getD,h1,h2] using this
theorem merTo_zero (W:List Nat) (x y:Nat):merTo W x y 0=W:=getD_ext (merTo_len _ _ _ _) fun v hv=>by
 rw[merTo_len]at hv;rw[merTo_at _ _ _ _ _ hv,if_neg (by omega)]
theorem merTo_all (W:List Nat) (x y:Nat):merTo W x y W.length=mer W x y:=getD_ext (by rw[merTo_len,mer_len]) fun v hv=>by
 rw[merTo_len]at hv;rw[merTo_at _ _ _ _ _ hv,if_pos hv]
theorem merTo_next (W:List Nat) (x y k z:Nat) (hk:k<W.length) (hz:(mer W x y).getD k 0=z):(merTo W x y k).set k z=merTo W x y (k+1):=getD_ext (by simp[merTo_len]) fun v hv=>by
 have hv':v<W.length:=by simpa[merTo_len] using hv
 rw[getD_set _ _ _ _ (by rw[merTo_len];exact hk),merTo_at _ _ _ _ _ hv',merTo_at _ _ _ _ _ hv']
 by_cases e:v=k
 · subst e;rw[if_pos rfl,if_pos (by omega),hz]
 · rw[if_neg e]
   by_cases h2:v<k
   · rw[if_pos h2,if_pos (by omega)]
   · rw[if_neg h2,if_neg (by omega)]
theorem merTo_same (W:List Nat) (x y k:Nat) (hk:k<W.length) (hz:(mer W x y).getD k 0=W.getD k 0):merTo W x y k=merTo W x y (k+1):=getD_ext (by simp[merTo_len]) fun v hv=>by
 have hv':v<W.length:=by simpa[merTo_len] using hv
 rw[merTo_at _ _ _ _ _ hv',merTo_at _ _ _ _ _ hv']
 by_cases e:v=k
 · subst e;rw[if_neg (by omega),if_pos (by omega),hz]
 · by_cases h2:v<k
   · rw[if_pos h2,if_pos (by omega)]
   · rw[if_neg h2,if_neg (by omega)]
theorem mers_len (E:List (Nat×Nat)):∀ W:List Nat,(mers W E).length=W.length:=by
 induction E with
 |nil=>intro W;rfl
 |cons e E ih=>intro W;rw[mers,ih,mer_len]
end Go.Proofs.YtbobljddklldjaaGreatDoor
/- Plain mathematics: in how many ways variables are coloured so that something holds. -/
namespace Go.Proofs.YtbobljddklldjaaGreatDoor
def upd (f:Nat->Nat) (v c:Nat):Nat->Nat:=fun x=>if x=v then c else f x
theorem upd_same (f:Nat->Nat) (v c:Nat):upd f v c v=c:=by simp[upd]
theorem upd_ne (f:Nat->Nat) (v c x:Nat) (h:x≠v):upd f v c x=f x:=by simp[upd,h]
def Ext (n:Nat) (vs:List Nat) (f g:Nat->Nat):Prop:=(∀ x,x ∉ vs->g x=f x)/\∀ x,x∈vs->g x<n
theorem Ext.cons {n v c:Nat} {vs:List Nat} {f g:Nat->Nat} (hc:c<n) (hv:v ∉ vs) (h:Ext n vs (upd f v c) g):Ext n (v::vs) f g/\g v=c:=by
 have e:g v=c:=by rw[h.1 v hv,upd_same]
 refine⟨⟨fun x hx=>?_,fun x hx=>?_⟩,e⟩
 · have h1:x≠v:=fun q=>hx (by rw[q];exact List.Mem.head _)
   have h2:x ∉ vs:=fun q=>hx (List.Mem.tail _ q)
   rw[h.1 x h2,upd_ne _ _ _ _ h1]
 · by_cases q:x=v
   · rw[q,e];exact hc
   · exact h.2 x (by rcases List.mem_cons.1 hx with h1 | h1
                     · exact absurd h1 q
                     · exact h1)
end Go.Proofs.YtbobljddklldjaaGreatDoor
/- Plain mathematics: rings of a renaming, and what becomes of them where two places are traded: two rings become one, or one becomes two. -/
namespace Go.Proofs.YtbobljddklldjaaGreatDoor
structure Bij (f:Nat->Nat) (M:Nat):Prop where
 lt:∀ x,x<M->f x<M
 inj:∀ x y,x<M->y<M->f x=f y->x=y
def it (f:Nat->Nat):Nat->Nat->Nat
 |0,x=>x
 |i+1,x=>f (it f i x)
theorem it_lt {f:Nat->Nat} {M:Nat} (h:Bij f M) {x:Nat} (hx:x<M):∀ i,it f i x<M:=by
 intro i
 induction i with
 |zero=>exact hx
 |succ i ih=>exact h.lt _ ih
theorem it_add (f:Nat->Nat) (x:Nat):∀ i j,it f (i+j) x=it f i (it f j x):=by
 intro i j
 induction i with
 |zero=>rw[Nat.zero_add];rfl
 |succ i ih=>rw[show i+1+j=(i+j)+1 by omega];show f (it f (i+j) x)=f (it f i (it f j x));rw[ih]
theorem it_back {f:Nat->Nat} {M:Nat} (h:Bij f M) {x y:Nat} (hx:x<M) (hy:y<M):∀ i,it f i x=it f i y->x=y:=by
 intro i
 induction i with
 |zero=>exact id
 |succ i ih=>intro e;exact ih (h.inj _ _ (it_lt h hx i) (it_lt h hy i) e)
theorem period {f:Nat->Nat} {M:Nat} (h:Bij f M) {x:Nat} (hx:x<M):∃ p,0<p/\it f p x=x:=by
 refine Classical.byContradiction fun hn=>?_
 have hp:∀ p,0<p->it f p x≠x:=fun p h0 e=>hn ⟨p,h0,e⟩
 have hd:((List.range (M+1)).map fun i=>it f i x).Nodup:=by
  unfold List.Nodup
  rw[List.pairwise_map]
  refine List.Pairwise.imp ?_ (List.pairwise_lt_range (n:=M+1))
  intro i j hij e
  have e2:it f i x=it f i (it f (j-i) x):=by rw[<-it_add,show i+(j-i)=j by omega];exact e
  exact hp (j-i) (by omega) (it_back h hx (it_lt h hx _) i e2).symm
 have hl := hd.length_le_of_subset (l₂ := List.range M) (fun y hy => by
  obtain⟨i,-,rfl⟩:=List.mem_map.1 hy
  exact List.mem_range.2 (it_lt h hx i))
 rw[List.length_map,List.length_range,List.length_range]at hl
 omega
def eds (f:Nat->Nat) (M:Nat):List (Nat×Nat):=(List.range M).map fun i=>(i,f i)
theorem eds_mem {f:Nat->Nat} {M i:Nat} (h:i<M):(i,f i)∈eds f M:=List.mem_map.2 ⟨i,List.mem_range.2 h,rfl⟩
theorem eds_lt {f:Nat->Nat} {M:Nat} (h:∀ x,x<M->f x<M):∀ e,e∈eds f M->e.1<M/\e.2<M:=fun e he=>by
 obtain⟨i,hi,rfl⟩:=List.mem_map.1 he
 exact⟨List.mem_range.1 hi,h _ (List.mem_range.1 hi)⟩
theorem closed_eds {f:Nat->Nat} {M:Nat} {S:Nat->Prop}:Closed (eds f M) S↔∀ i,i<M->(S i↔S (f i)):=by
 constructor
 · intro h i hi
   exact h _ (eds_mem hi)
 · intro h e he
   obtain⟨i,hi,rfl⟩:=List.mem_map.1 he
   exact h i (List.mem_range.1 hi)
theorem con_f {f:Nat->Nat} {M x:Nat} (hx:x<M):Con (eds f M) x (f x):=Con.edge (eds_mem hx)
theorem con_it {f:Nat->Nat} {M:Nat} (h:Bij f M) {x:Nat} (hx:x<M):∀ i,Con (eds f M) x (it f i x):=by
 intro i
 induction i with
 |zero=>exact Con.refl _ _
 |succ i ih=>exact ih.trans (con_f (it_lt h hx i))
theorem it_con {f:Nat->Nat} {M:Nat} (h:Bij f M) {x y:Nat} (hx:x<M) (hc:Con (eds f M) x y):∃ i,it f i x=y:=by
 refine hc (fun z=>∃ i,it f i x=z) (closed_eds.2 fun z hz=>⟨?_,?_⟩) ⟨0,rfl⟩
 · rintro⟨i,rfl⟩
   exact⟨i+1,rfl⟩
 · rintro⟨i,e⟩
   cases i with
   |zero=>
    obtain⟨p,h0,hp⟩:=period h hx
    cases p with
    |zero=>omega
    |succ p=>
     refine⟨p,h.inj _ _ (it_lt h hx p) hz ?_⟩
     have e1:x=f z:=e
     exact Eq.trans hp e1
   |succ i=>exact⟨i,h.inj _ _ (it_lt h hx i) hz e⟩
theorem first_of {P:Nat->Prop} (h:∃ i,P i):∃ r,P r/\∀ i,i<r->¬ P i:=by
 obtain⟨i,hi⟩:=h
 induction i using Nat.strongRecOn with
 |ind i ih=>
  by_cases hs:∃ j,j<i/\P j
  · obtain⟨j,hj,hp⟩:=hs
    exact ih j hj hp
  · exact⟨i,hi,fun j hj hp=>hs ⟨j,hj,hp⟩⟩
def tr (f:Nat->Nat) (a b x:Nat):Nat:=if x=a then f b else if x=b then f a else f x
theorem tr_a (f:Nat->Nat) (a b:Nat):tr f a b a=f b:=by simp[tr]
theorem tr_b (f:Nat->Nat) (a b:Nat):tr f a b b=f a:=by
 unfold tr
 by_cases h:b=a
 · rw[if_pos h,h]
 · rw[if_neg h,if_pos rfl]
theorem tr_o (f:Nat->Nat) {a b x:Nat} (h1:x≠a) (h2:x≠b):tr f a b x=f x:=by simp[tr,h1,h2]
theorem tr_tr (f:Nat->Nat) (a b x:Nat):tr (tr f a b) a b x=f x:=by
 by_cases h1:x=a
 · rw[h1,tr_a,tr_b]
 · by_cases h2:x=b
   · rw[h2,tr_b,tr_a]
   · rw[tr_o _ h1 h2,tr_o _ h1 h2]
theorem Bij.tr {f:Nat->Nat} {M:Nat} (h:Bij f M) {a b:Nat} (ha:a<M) (hb:b<M):Bij (tr f a b) M:=by
 have key:∀ x,x<M->∃ z,z<M/\Proofs.YtbobljddklldjaaGreatDoor.tr f a b x=f z/\(x=a->z=b)/\(x=b->z=a)/\(x≠a->x≠b->z=x):=by
  intro x hx
  by_cases h1:x=a
  · exact⟨b,hb,by rw[h1,tr_a],fun _=>rfl,fun e=>by omega,fun q=>absurd h1 q⟩
  · by_cases h2:x=b
    · exact⟨a,ha,by rw[h2,tr_b],fun q=>absurd q h1,fun _=>rfl,fun _ q=>absurd h2 q⟩
    · exact⟨x,hx,tr_o f h1 h2,fun q=>absurd q h1,fun q=>absurd q h2,fun _ _=>rfl⟩
 refine⟨fun x hx=>?_,fun x y hx hy e=>?_⟩
 · obtain⟨z,hz,e,-⟩:=key x hx
   rw[e]
   exact h.lt z hz
 · obtain⟨z,hz,e1,p1,p2,p3⟩:=key x hx
   obtain⟨u,hu,e2,q1,q2,q3⟩:=key y hy
   have e3:z=u:=h.inj z u hz hu (by rw[<-e1,<-e2,e])
   by_cases c1:x=a
   · have:=p1 c1
     by_cases c2:y=a
     · omega
     · by_cases c3:y=b
       · have:=q2 c3;omega
       · have:=q3 c2 c3;omega
   · by_cases c1b:x=b
     · have:=p2 c1b
       by_cases c2:y=a
       · have:=q1 c2;omega
       · by_cases c3:y=b
         · omega
         · have:=q3 c2 c3;omega
     · have:=p3 c1 c1b
       by_cases c2:y=a
       · have:=q1 c2;omega
       · by_cases c3:y=b
         · have:=q2 c3;omega
         · have:=q3 c2 c3;omega
theorem con_tr {f:Nat->Nat} {M:Nat} (h:Bij f M) {a b:Nat} (ha:a<M) (hb:b<M) (hn:¬ Con (eds f M) a b):Con (eds (tr f a b) M) a b:=by
 intro S hS hSa
 have hS':=closed_eds.1 hS
 have h1:S (f b):=by have:=(hS' a ha).1 hSa;rwa [tr_a]at this
 obtain⟨p,h0,hp⟩:=period h hb
 have key:∀ i,S b∨S (it f (i+1) b):=by
  intro i
  induction i with
  |zero=>exact Or.inr h1
  |succ i ih=>
   rcases ih with ih|ih
   · exact Or.inl ih
   · by_cases e:it f (i+1) b=b
     · rw[e]at ih;exact Or.inl ih
     · have ea:it f (i+1) b≠a:=fun q=>hn (q▸(con_it h hb (i+1)).symm)
       have:=(hS' _ (it_lt h hb (i+1))).1 ih
       rw[tr_o f ea e]at this
       exact Or.inr this
 have:=key (p-1)
 rw[show p-1+1=p by omega,hp]at this
 exact this.elim id id
theorem con_join {f:Nat->Nat} {M:Nat} (h:Bij f M) {a b:Nat} (ha:a<M) (hb:b<M) (hn:¬ Con (eds f M) a b) (x y:Nat):Con (eds (tr f a b) M) x y↔Con (eds f M++[(a,b)]) x y:=by
 have hab:=con_tr h ha hb hn
 constructor
 · intro hc S hS
   refine hc S (closed_eds.2 fun i hi=>?_)
   have h1:=closed_eds.1 (fun e he=>hS e (List.mem_append_left _ he):Closed (eds f M) S)
   have h2:S a↔S b:=hS (a,b) (List.mem_append_right _ (List.Mem.head _))
   by_cases e1:i=a
   · rw[e1,tr_a,h2];exact h1 b hb
   · by_cases e2:i=b
     · rw[e2,tr_b,<-h2];exact h1 a ha
     · rw[tr_o f e1 e2];exact h1 i hi
 · intro hc S hS
   have h1:=closed_eds.1 hS
   have h2:S a↔S b:=⟨hab S hS,hab.symm S hS⟩
   refine hc S fun e he=>?_
   rcases List.mem_append.1 he with he|he
   · obtain⟨i,hi,rfl⟩:=List.mem_map.1 he
     have hi:=List.mem_range.1 hi
     show S i↔S (f i)
     by_cases e1:i=a
     · rw[e1,h2];have:=h1 b hb;rwa [tr_b]at this
     · by_cases e2:i=b
       · rw[e2,<-h2];have:=h1 a ha;rwa [tr_a]at this
       · have:=h1 i hi;rwa [tr_o f e1 e2]at this
   · rw[List.mem_singleton.1 he];exact h2
theorem con_part {f:Nat->Nat} {M:Nat} (h:Bij f M) {a b:Nat} (ha:a<M) (hb:b<M) (hab:a≠b) (hc:Con (eds f M) a b):¬ Con (eds (tr f a b) M) a b:=by
 intro hcon
 obtain⟨r,hr,hmin⟩:=first_of (it_con h hb hc.symm)
 have r0:0<r:=Nat.pos_of_ne_zero fun q=>by rw[q]at hr;exact hab hr.symm
 have hB:=h.tr ha hb
 have nb:∀ i,1<=i->i<=r->it f i b≠b:=fun i h1 h2 e=>by
  by_cases e2:i=r
  · rw[e2,hr]at e;exact hab e
  · refine hmin (r-i) (by omega) ?_
    have:=it_add f b (r-i) i
    rw[e,show r-i+i=r by omega,hr]at this
    exact this.symm
 have nxt:∀ i,1<=i->i<r->tr f a b (it f i b)=it f (i+1) b:=fun i h1 h2=>tr_o f (hmin i h2) (nb i h1 (by omega))
 have hS:Closed (eds (tr f a b) M) fun z=>∃ i,1<=i/\i<=r/\it f i b=z:=closed_eds.2 fun z hz=>by
  constructor
  · rintro⟨i,h1,h2,rfl⟩
    by_cases e:i=r
    · rw[e,hr,tr_a];exact⟨1,Nat.le_refl _,r0,rfl⟩
    · exact⟨i+1,by omega,by omega,(nxt i h1 (by omega)).symm⟩
  · rintro⟨i,h1,h2,e⟩
    by_cases e1:i=1
    · refine⟨r,r0,Nat.le_refl _,?_⟩
      rw[hr]
      refine hB.inj a z ha hz ?_
      rw[tr_a,<-e,e1]
      rfl
    · refine⟨i-1,by omega,by omega,?_⟩
      refine hB.inj _ z (it_lt h hb _) hz ?_
      rw[nxt (i-1) (by omega) (by omega),<-e,show i-1+1=i by omega]
 obtain⟨i,h1,h2,e⟩:=hcon _ hS ⟨r,r0,Nat.le_refl _,hr⟩
 exact nb i h1 h2 e
def rq (W:List Nat) (Q:Nat->Bool):Nat->Nat
 |0=>0
 |k+1=>rq W Q k+(if W.getD k 0=k/\Q k=true then 1 else 0)
theorem rq_mer {Ed:List (Nat×Nat)} {n:Nat} {W:List Nat} (h:Least Ed n W) (Q:Nat->Bool) {x y:Nat} (hx:x<n) (hy:y<n) (hne:W.getD x 0≠W.getD y 0):∀ k,k<=n->rq (mer W x y) Q k+(if max (W.getD x 0) (W.getD y 0)<k/\Q (max (W.getD x 0) (W.getD y 0))=true then 1 else 0)=rq W Q k:=by
 have rx:=h.root hx
 have ry:=h.root hy
 generalize hmx:max (W.getD x 0) (W.getD y 0)=m
 have hmr:W.getD m 0=m:=by
  rcases Nat.le_total (W.getD x 0) (W.getD y 0) with hle|hle
  · have:m=W.getD y 0:=by omega
    rw[this];exact ry
  · have:m=W.getD x 0:=by omega
    rw[this];exact rx
 intro k
 induction k with
 |zero=>intro _;simp[rq]
 |succ k ih=>
  intro hk
  have i1:=ih (by omega)
  have hm:=mer_at W x y k (by rw[h.1];omega)
  rw[hmx]at hm
  simp only[rq]
  by_cases he:k=m
  · subst he
    rw[if_pos hmr]at hm
    rw[if_neg (by omega)]at i1
    rw[if_neg (show ¬ ((mer W x y).getD k 0=k/\Q k=true) from fun q=>by have:=q.1;omega)]
    by_cases hq:Q k=true
    · rw[if_pos (show k<k+1/\Q k=true from⟨by omega,hq⟩),if_pos (show W.getD k 0=k/\Q k=true from⟨hmr,hq⟩)];omega
    · rw[if_neg (show ¬ (k<k+1/\Q k=true) from fun q=>hq q.2),if_neg (show ¬ (W.getD k 0=k/\Q k=true) from fun q=>hq q.2)];omega
  · have hiff : ((mer W x y).getD k 0 = k) ↔ (W.getD k 0 = k) := by
      by_cases hr:W.getD k 0=k
      · rw[if_neg (by omega)]at hm
        rw[hm]
      · have h2 : ¬ (mer W x y).getD k 0 = k := by
          rw[hm]
          split
          · intro e
            rcases Nat.le_total (W.getD x 0) (W.getD y 0) with hle2|hle2
            · have e1:k=W.getD x 0:=by omega
              exact hr (by rw[e1];exact rx)
            · have e1:k=W.getD y 0:=by omega
              exact hr (by rw[e1];exact ry)
          · exact hr
        exact⟨fun q=>absurd q h2,fun q=>absurd q hr⟩
    rw[show(if(mer W x y).getD k 0=k/\Q k=true then 1 else 0)=(if W.getD k 0=k/\Q k=true then 1 else 0) by simp only[hiff]]
    by_cases hq:m<k/\Q m=true
    · rw[if_pos hq]at i1
      rw[if_pos (show m<k+1/\Q m=true from⟨by omega,hq.2⟩)]
      omega
    · rw[if_neg hq]at i1
      rw[if_neg (show ¬ (m<k+1/\Q m=true) from fun q=>hq ⟨by omega,q.2⟩)]
      omega
def cyW (f:Nat->Nat) (M:Nat):List Nat:=levR (List.range M) (eds f M) M
theorem cyW_least {f:Nat->Nat} {M:Nat} (h:∀ x,x<M->f x<M):Least (eds f M) M (cyW f M):=levR_least (eds_lt h) M (Nat.le_refl _)
def cyN (f:Nat->Nat) (M:Nat) (Q:Nat->Bool):Nat:=rq (cyW f M) Q M
theorem least_congr {E F:List (Nat×Nat)} {n:Nat} {W:List Nat} (h:Least E n W) (e:∀ x y,Con E x y↔Con F x y):Least F n W:=
 ⟨h.1,fun v hv=>⟨(e _ _).1 (h.2 v hv).1,fun u hu=>(h.2 v hv).2 u ((e _ _).2 hu)⟩⟩
theorem cyN_join {f:Nat->Nat} {M:Nat} (h:Bij f M) (Q:Nat->Bool) {a b:Nat} (ha:a<M) (hb:b<M) (hn:¬ Con (eds f M) a b) (hQ:∀ x y,x<M->Con (eds f M) x y->Q x=Q y) (hab:Q a=Q b):cyN (tr f a b) M Q+(if Q a=true then 1 else 0)=cyN f M Q:=by
 have hW:=cyW_least h.lt
 have hW':=cyW_least (h.tr ha hb).lt
 have e:cyW (tr f a b) M=mer (cyW f M) a b:=hW'.eq (least_congr (mer_least hW a b ha hb (eds_lt h.lt)) fun x y=>(con_join h ha hb hn x y).symm)
 have hne:(cyW f M).getD a 0≠(cyW f M).getD b 0:=fun q=>hn ((hW.same ha hb).1 q)
 have hm:=rq_mer hW Q ha hb hne M (Nat.le_refl _)
 have la:=hW.lt ha
 have lb:=hW.lt hb
 have qa:=hQ a _ ha (hW.2 a ha).1
 have qb:=hQ b _ hb (hW.2 b hb).1
 have qm:Q (max ((cyW f M).getD a 0) ((cyW f M).getD b 0))=Q a:=by
  rcases Nat.le_total ((cyW f M).getD a 0) ((cyW f M).getD b 0) with hle|hle
  · rw[Nat.max_eq_right hle,<-qb,hab]
  · rw[Nat.max_eq_left hle,<-qa]
 rw[qm]at hm
 unfold cyN
 rw[e,<-hm]
 by_cases hq:Q a=true
 · rw[if_pos hq,if_pos ⟨by omega,hq⟩]
 · rw[if_neg hq,if_neg fun q=>hq q.2]
theorem eds_congr {f g:Nat->Nat} {M:Nat} (e:∀ x,x<M->f x=g x):eds f M=eds g M:=by
 unfold eds
 refine List.map_congr_left fun i hi=>?_
 rw[e i (List.mem_range.1 hi)]
theorem cyN_congr {f g:Nat->Nat} {M:Nat} (e:∀ x,x<M->f x=g x) (Q:Nat->Bool):cyN f M Q=cyN g M Q:=by
 unfold cyN cyW
 rw[eds_congr e]
theorem cyN_part {f:Nat->Nat} {M:Nat} (h:Bij f M) (Q:Nat->Bool) {a b:Nat} (ha:a<M) (hb:b<M) (hne:a≠b) (hc:Con (eds f M) a b) (hQ:∀ x y,x<M->Con (eds f M) x y->Q x=Q y):cyN f M Q+(if Q a=true then 1 else 0)=cyN (tr f a b) M Q:=by
 have hn:=con_part h ha hb hne hc
 have hB:=h.tr ha hb
 have hQ':∀ x y,x<M->Con (eds (tr f a b) M) x y->Q x=Q y:=fun x y hx hxy=>by
  have := hxy (fun z => Q x = Q z) (closed_eds.2 fun i hi => by
   have e:Q i=Q (tr f a b i):=by
    by_cases e1:i=a
    · rw[e1,tr_a,hQ a b ha hc];exact hQ b _ hb (con_f hb)
    · by_cases e2:i=b
      · rw[e2,tr_b,<-hQ a b ha hc];exact hQ a _ ha (con_f ha)
      · rw[tr_o f e1 e2];exact hQ i _ hi (con_f hi)
   rw[e]) rfl
  exact this
 have k:=cyN_join hB Q ha hb hn hQ' (hQ a b ha hc)
 rw[cyN_congr (fun x _=>tr_tr f a b x)]at k
 exact k
end Go.Proofs.YtbobljddklldjaaGreatDoor
/- Diagrams under way: crossings that are appended to one; the walks of drawing.crossOf and drawing.Turned. -/
namespace Go.Proofs.YtbobljddklldjaaGreatDoor
open Go.RowKit
set_option maxHeartbeats 2000000
set_option maxRecDepth 100000
theorem cells_append (C D:List Cr):crossCells (C++D)=crossCells C++crossCells D:=by simp[crossCells]
theorem new_cell5 (W:World) (a b c d p:Value) (e:TypeId):∀ j u,[a,b,c,d,p][j]?=some u->(W.alloc (.cells #[a,b,c,d,p] e)).cell? ((⟨W.heap.size,0,none⟩:Addr).add j)=some u:=by
 intro j u hj
 rw[Addr.add_lit,Nat.zero_add]
 have hh:(W.alloc (.cells #[a,b,c,d,p] e)).heap[W.heap.size]?=some (.cells #[a,b,c,d,p] e (0,0)):=Array.getElem?_push_size
 match j,hj with
 |0,hj=>simp at hj;subst hj;exact block_cell hh rfl
 |1,hj=>simp at hj;subst hj;exact block_cell hh rfl
 |2,hj=>simp at hj;subst hj;exact block_cell hh rfl
 |3,hj=>simp at hj;subst hj;exact block_cell hh rfl
 |4,hj=>simp at hj;subst hj;exact block_cell hh rfl
structure OutAt (w:World) (B g:Nat) (v:Value) (loops:Int) (C:List Cr):Prop where
 box:w.heap[g]?=some (.cells #[v,.int .i64 loops] 24 (0,0))
 row:w.ownsRow B 60 5 v C.length (crossCells C)
theorem OutAt.nil {w:World} {B g:Nat} {loops:Int} (h:w.heap[g]?=some (.cells #[.slice none 0 0,.int .i64 loops] 24 (0,0))):OutAt w B g (.slice none 0 0) loops []:=⟨h,World.ownsRow_nil _ _ _ _⟩
theorem OutAt.on {w w':World} {B g:Nat} {v:Value} {loops:Int} {C:List Cr} (h:OutAt w B g v loops C) (hb:Below w.heap.size w w'):OutAt w' B g v loops C:=
 ⟨(hb.block _ (Array.getElem?_eq_some_iff.1 h.box).1).trans h.box,own_any h.row (grown_below hb none)⟩
theorem OutAt.kept {w w':World} {B g q:Nat} {v:Value} {loops:Int} {C:List Cr} (h:OutAt w B g v loops C) (hg:w.grownBy w' (some q)) (hq:q≠g) (hB:q<B):OutAt w' B g v loops C:=by
 refine⟨(hg.block _ (Array.getElem?_eq_some_iff.1 h.box).1 (fun e=>hq (Option.some.inj e).symm)).trans h.box,h.row.kept hg ?_⟩
 cases hv:v.ownBlock with
 |none=>exact Or.inl rfl
 |some k=>exact Or.inr (fun e=>by have h1:=(h.row.lt k hv).1;have h2:=Option.some.inj e;omega)
theorem OutAt.app {w w8:World} {B g:Nat} {v v8:Value} {loops:Int} {C:List Cr} {x:Cr} {o:Obj} {m:Nat} (h:OutAt w B g v loops C) (hgB:g<B) (hm:m=C.length+1) (hown8:w8.ownsRow B 60 5 v8 m (crossCells C++crossCells [x])) (hg8:(w.alloc o).grownBy w8 v.ownBlock):OutAt (w8.setCell ⟨g,0,none⟩ v8) B g v8 loops (C++[x]):=by
 have hlt:=(Array.getElem?_eq_some_iff.1 h.box).1
 have hb8:w8.heap[g]?=some (.cells #[v,.int .i64 loops] 24 (0,0)):=
  (hg8.block _ (by simp;omega) (fun e=>by have:=(h.row.lt g e.symm).1;omega)).trans (alloc_old h.box)
 refine⟨set_block hb8,?_⟩
 have hl:(C++[x]).length=m:=by rw[hm];simp
 rw[hl,cells_append]
 refine hown8.kept (set_grown w8 g 0 v8) ?_
 cases hv:v8.ownBlock with
 |none=>exact Or.inl rfl
 |some k=>exact Or.inr (fun e=>by have h1:=(hown8.lt k hv).1;have h2:=Option.some.inj e;omega)
theorem OutAt.below {w w8 W:World} {B B0 g:Nat} {v v8:Value} {loops:Int} {C:List Cr} {o:Obj} (h:OutAt w B g v loops C) (hb:Below B0 W w) (hB:B0<=B) (hs:B0<=w.heap.size) (h0:B0<=g) (hg8:(w.alloc o).grownBy w8 v.ownBlock):Below B0 W (w8.setCell ⟨g,0,none⟩ v8):=
 ((hb.alloc hs _).grown hg8 (by simp;omega) (fun q hq=>Nat.le_trans hB (h.row.lt q hq).1)).grown (set_grown w8 g 0 v8) (by have:=hg8.size;simp at this;omega) (fun q hq=>by have:=Option.some.inj hq;omega)
theorem OutAt.other {w w8:World} {B g k:Nat} {v v8:Value} {loops:Int} {C:List Cr} {o p:Obj} (h:OutAt w B g v loops C) (hk:w.heap[k]?=some p) (hkB:k<B) (hkg:k≠g) (hg8:(w.alloc o).grownBy w8 v.ownBlock):(w8.setCell ⟨g,0,none⟩ v8).heap[k]?=some p:=by
 have hlt:=(Array.getElem?_eq_some_iff.1 hk).1
 have hs:=hg8.size
 simp only[World.size_alloc]at hs
 have hb8:w8.heap[k]?=some p:=(hg8.block _ (by simp;omega) (fun e=>by have:=(h.row.lt k e.symm).1;omega)).trans (alloc_old hk)
 exact((set_grown w8 g 0 v8).block k (by omega) (fun e=>hkg (Option.some.inj e))).trans hb8
theorem OutAt.box8 {w w8:World} {B g:Nat} {v:Value} {loops:Int} {C:List Cr} {o:Obj} (h:OutAt w B g v loops C) (hgB:g<B) (hg8:(w.alloc o).grownBy w8 v.ownBlock):w8.heap[g]?=some (.cells #[v,.int .i64 loops] 24 (0,0)):=by
 have hlt:=(Array.getElem?_eq_some_iff.1 h.box).1
 exact(hg8.block _ (by simp;omega) (fun e=>by have:=(h.row.lt g e.symm).1;omega)).trans (alloc_old h.box)
def turn (x:Cr) (f:Nat):Cr:=⟨x.arc (f%4),x.arc ((f+1)%4),x.arc ((f+2)%4),x.arc ((f+3)%4),x.plus⟩
theorem crossOf_any (x : Cr) (w : World) :
    Calls Tryz.prog 74 #[.agg #[.int .i64 x.a,.int .i64 x.b,.int .i64 x.c,.int .i64 x.d],.bool x.plus] w fun e w'=>e=.returned (.agg #[.int .i64 x.a,.int .i64 x.b,.int .i64 x.c,.int .i64 x.d,.bool x.plus])/\Below w.heap.size w w':=by
 go_enter Tryz.func74,Tryz.ntmps74
 go_wp2
 exact bodyPost_ret (v:=.agg #[.int .i64 x.a,.int .i64 x.b,.int .i64 x.c,.int .i64 x.d,.bool x.plus]) (by simp[results,Tryz.results74,go_sem]) rfl ⟨rfl,below2 _ _ _⟩
def intArr (l:List Int):Array Value:=(l.map fun x=>Value.int .i64 x).toArray
theorem intArr_set (l:List Int) (p:Nat) (z:Int):(intArr l).setIfInBounds p (.int .i64 z)=intArr (l.set p z):=by
 simp[intArr,List.map_set]
theorem intArr_get (l:List Int) (p:Nat) (h:p<l.length):(intArr l)[p]?=some (.int .i64 (l.getD p 0)):=by
 simp[intArr,List.getD,h]
end Go.Proofs.YtbobljddklldjaaGreatDoor
/- Sums: the walks of Drawing.Has and of the closure that numbers arcs anew, and of drawing.Renumbered with it. -/
namespace Go.Proofs.YtbobljddklldjaaGreatDoor
open Go.RowKit
set_option maxHeartbeats 4000000
set_option maxRecDepth 100000
def tnum (x:Cr) (more cut other:Int) (k:Nat):Int:=if x.arc k=cut/\x.comes k=true then other else x.arc k+more
def tieX (more cut other:Int) (x:Cr):Cr:=⟨tnum x more cut other 0,tnum x more cut other 1,tnum x more cut other 2,tnum x more cut other 3,x.plus⟩
theorem tiedNum_any (x : Cr) (k : Nat) (more cut other : Int) (pc px po pm : Nat) (w : World) (hk : k < 4) (h1 : -1000 ≤ x.arc k ∧ x.arc k ≤ 1000) (h2 : -1000 ≤ more ∧ more ≤ 1000) (_l1 : pc < w.heap.size) (_l2 : px < w.heap.size) (l3 : po < w.heap.size) (l4 : pm < w.heap.size)
    (c0:w.cell? ⟨pc,0,none⟩=some (.int .i64 cut)) (c1:w.cell? ⟨px,0,none⟩=some (.int .i64 x.a)) (c2:w.cell? ⟨px,1,none⟩=some (.int .i64 x.b)) (c3:w.cell? ⟨px,2,none⟩=some (.int .i64 x.c)) (c4:w.cell? ⟨px,3,none⟩=some (.int .i64 x.d)) (c5:w.cell? ⟨px,4,none⟩=some (.bool x.plus))
    (c6:w.cell? ⟨po,0,none⟩=some (.int .i64 other)) (c7:w.cell? ⟨pm,0,none⟩=some (.int .i64 more)):
    Calls Tryz.prog 49 #[.int .i64 (k:Nat),.int .i64 (x.arc k),.pointer (some ⟨pc,0,none⟩),.pointer (some ⟨px,0,none⟩),.pointer (some ⟨po,0,none⟩),.pointer (some ⟨pm,0,none⟩)] w fun e w'=>e=.returned (.int .i64 (tnum x more cut other k))/\Below w.heap.size w w':=by
 have HT:Hid (tnum x more cut other k=if x.arc k=cut/\x.comes k=true then other else x.arc k+more):=(rfl:tnum x more cut other k=if x.arc k=cut/\x.comes k=true then other else x.arc k+more)
 generalize tnum x more cut other k=r at HT
 by_cases he:x.arc k=cut
 · have hd:(x.arc k==cut)=true:=by simpa using he
   cases hcm:x.comes k with
   |true=>
    rw[if_pos ⟨he,hcm⟩]at HT
    generalize x.arc k=z at hd h1 he
    go_enter Tryz.func49,Tryz.ntmps49
    go_wp2_with (go_at_call 50;refine(comesIn_any x k _ hk).mono ?_;rw[hcm];rintro e9 w1 ⟨rfl,hb1⟩;refine Hid.out ?_)
    refine Lib.hid ?_
    have d6:=bcell hb1 l3 c6
    have hs:=hb1.size
    have l5:po<w1.heap.size:=by omega
    clear c0 c1 c2 c3 c4 c5 c6 c7
    go_wp2
    go_ret
    exact⟨ret_int HT.out.symm,hb1⟩
   |false=>
    rw[if_neg (fun h=>by rw[hcm]at h;cases h.2)]at HT
    generalize x.arc k=z at hd h1 he HT
    have hw:IntKind.i64.wrap (z+more)=z+more:=IntWalk.i64_in _ (by omega)
    go_enter Tryz.func49,Tryz.ntmps49
    go_wp2_with (go_at_call 50;refine(comesIn_any x k _ hk).mono ?_;rw[hcm];rintro e9 w1 ⟨rfl,hb1⟩;refine Hid.out ?_)
    refine Lib.hid ?_
    have d7:=bcell hb1 l4 c7
    have hs:=hb1.size
    have l5:pm<w1.heap.size:=by omega
    clear c0 c1 c2 c3 c4 c5 c6 c7
    go_wp2
    go_ret
    exact⟨ret_int (by have:=HT.out;omega),hb1⟩
 · have hd:(x.arc k==cut)=false:=by rw[beq_eq_false_iff_ne];exact he
   rw[if_neg (fun h=>he h.1)]at HT
   generalize x.arc k=z at hd h1 he HT
   have hw:IntKind.i64.wrap (z+more)=z+more:=IntWalk.i64_in _ (by omega)
   go_enter Tryz.func49,Tryz.ntmps49
   go_wp2
   go_ret
   exact⟨ret_int (by have:=HT.out;omega),Below.refl _ _⟩
def numTo (g:Nat->Int) (k:Nat):List Int:=(List.range 4).map fun j=>if j<k then g j else 0
theorem numTo_len (g:Nat->Int) (k:Nat):(numTo g k).length=4:=by simp[numTo]
theorem numTo_next (g:Nat->Int) (k:Nat) (hk:k<4):(numTo g k).set k (g k)=numTo g (k+1):=by
 apply List.ext_getElem?
 intro i
 rw[List.getElem?_set]
 by_cases hi:i<4
 · by_cases e:k=i
   · subst e
     simp[numTo,hi]
   · rw[if_neg e]
     simp only[numTo,List.getElem?_map,List.getElem?_range hi,Option.map_some]
     congr 1
     by_cases h2:i<k
     · rw[if_pos h2,if_pos (by omega)]
     · rw[if_neg h2,if_neg (by omega)]
 · rw[List.getElem?_eq_none (by rw[numTo_len];omega),List.getElem?_eq_none (by rw[numTo_len];omega)]
   split
   · next e=>rw[if_neg (by rw[numTo_len];omega)]
   · rfl
theorem numTo_zero (g:Nat->Int):numTo g 0=[0,0,0,0]:=by simp[numTo,List.range_succ]
theorem numTo_four (g:Nat->Int):intArr (numTo g 4)=#[.int .i64 (g 0),.int .i64 (g 1),.int .i64 (g 2),.int .i64 (g 3)]:=by
 simp[numTo,intArr,List.range_succ]
def Boxes (w:World) (x:Cr) (more cut other:Int) (pc px po pm:Nat):Prop:=(pc<w.heap.size/\px<w.heap.size/\po<w.heap.size/\pm<w.heap.size)/\w.cell? ⟨pc,0,none⟩=some (.int .i64 cut)/\w.cell? ⟨px,0,none⟩=some (.int .i64 x.a)/\w.cell? ⟨px,1,none⟩=some (.int .i64 x.b)/\w.cell? ⟨px,2,none⟩=some (.int .i64 x.c)/\w.cell? ⟨px,3,none⟩=some (.int .i64 x.d)/\w.cell? ⟨px,4,none⟩=some (.bool x.plus)/\w.cell? ⟨po,0,none⟩=some (.int .i64 other)/\w.cell? ⟨pm,0,none⟩=some (.int .i64 more)
theorem Boxes.kept {B:Nat} {w w':World} {x:Cr} {more cut other:Int} {pc px po pm:Nat} (h:Boxes w x more cut other pc px po pm) (hb:Below B w w') (l1:pc<B) (l2:px<B) (l3:po<B) (l4:pm<B):Boxes w' x more cut other pc px po pm:=by
 obtain⟨⟨a1,a2,a3,a4⟩,c0,c1,c2,c3,c4,c5,c6,c7⟩:=h
 have hs:=hb.size
 exact⟨⟨by omega,by omega,by omega,by omega⟩,bcell hb l1 c0,bcell hb l2 c1,bcell hb l2 c2,bcell hb l2 c3,bcell hb l2 c4,bcell hb l2 c5,bcell hb l3 c6,bcell hb l4 c7⟩
theorem renumbered_any (x : Cr) (more cut other : Int) (pc px po pm : Nat) (w : World) (h1 : ∀ k, k < 4 → -1000 ≤ x.arc k ∧ x.arc k ≤ 1000) (h2 : -1000 ≤ more ∧ more ≤ 1000) (hX : Boxes w x more cut other pc px po pm) :
    Calls Tryz.prog 48 #[.agg #[.int .i64 x.a,.int .i64 x.b,.int .i64 x.c,.int .i64 x.d,.bool x.plus],.func (.func 49) #[] #[.pointer (some ⟨pc,0,none⟩),.pointer (some ⟨px,0,none⟩),.pointer (some ⟨po,0,none⟩),.pointer (some ⟨pm,0,none⟩)]] w fun e w'=>e=.returned (.agg #[.int .i64 (tieX more cut other x).a,.int .i64 (tieX more cut other x).b,.int .i64 (tieX more cut other x).c,.int .i64 (tieX more cut other x).d,.bool x.plus])/\Below w.heap.size w w':=by
 have HX:Hid (Boxes w x more cut other pc px po pm):=hX
 have H1:Hid (∀ k,k<4 -> -1000<=x.arc k/\x.arc k<=1000):=h1
 obtain⟨⟨l1,l2,l3,l4⟩,-⟩:=hX
 clear h1
 obtain⟨w0,hw0⟩:∃ w0,w0=((w.alloc (.cells #[.int .i64 x.a,.int .i64 x.b,.int .i64 x.c,.int .i64 x.d,.bool x.plus] 60)).alloc (.cells #[.int .i64 0,.int .i64 0,.int .i64 0,.int .i64 0,.bool false] 60)).alloc (.cells #[.int .i64 0,.int .i64 0,.int .i64 0,.int .i64 0] 88):=⟨_,rfl⟩
 have HW0:Hid (w0=((w.alloc (.cells #[.int .i64 x.a,.int .i64 x.b,.int .i64 x.c,.int .i64 x.d,.bool x.plus] 60)).alloc (.cells #[.int .i64 0,.int .i64 0,.int .i64 0,.int .i64 0,.bool false] 60)).alloc (.cells #[.int .i64 0,.int .i64 0,.int .i64 0,.int .i64 0] 88)):=hw0
 have hs0:w0.heap.size=w.heap.size+3:=by rw[hw0];simp
 have HB0:Hid (Below w.heap.size w w0):=(by rw[hw0];exact below3 _ _ _ _:Below w.heap.size w w0)
 have HT0:Hid (w0.heap[w.heap.size]?=some (.cells #[.int .i64 x.a,.int .i64 x.b,.int .i64 x.c,.int .i64 x.d,.bool x.plus] 60 (0,0))):=(by rw[hw0];exact alloc_old (alloc_old (alloc_at rfl)):w0.heap[w.heap.size]?=some (.cells #[.int .i64 x.a,.int .i64 x.b,.int .i64 x.c,.int .i64 x.d,.bool x.plus] 60 (0,0)))
 have HT1:Hid (w0.heap[w.heap.size+1]?=some (.cells #[.int .i64 0,.int .i64 0,.int .i64 0,.int .i64 0,.bool false] 60 (0,0))):=(by rw[hw0];exact alloc_old (alloc_at (by simp)):w0.heap[w.heap.size+1]?=some (.cells #[.int .i64 0,.int .i64 0,.int .i64 0,.int .i64 0,.bool false] 60 (0,0)))
 obtain⟨g,hg⟩:∃ g:Nat->Int,g=tnum x more cut other:=⟨_,rfl⟩
 have HG:Hid (g=tnum x more cut other):=hg
 clear hg
 have HT2:Hid (w0.heap[w.heap.size+1+1]?=some (.cells (intArr (numTo g 0)) 88 (0,0))):=(by rw[hw0,numTo_zero];exact alloc_at (by simp):w0.heap[w.heap.size+1+1]?=some (.cells (intArr (numTo g 0)) 88 (0,0)))
 have HTI:Hid (tieX more cut other x=⟨g 0,g 1,g 2,g 3,x.plus⟩):=(by rw[HG.out];rfl:tieX more cut other x=⟨g 0,g 1,g 2,g 3,x.plus⟩)
 clear hw0
 generalize tieX more cut other x=t at HTI
 obtain rfl:t=⟨g 0,g 1,g 2,g 3,x.plus⟩:=HTI.out
 clear HTI
 go_enter Tryz.func48,Tryz.ntmps48
 go_wp2_with (go_at_call 40;rw[<-HW0.out];refine(arcs_any x _).mono ?_;rintro e9 w1 ⟨rfl,hb1⟩;refine Hid.out ?_)
 refine Lib.hid ?_
 have HB1:Hid (Below w.heap.size w w1):=HB0.out.trans (hb1.mono (by omega))
 have hs1:=hb1.size
 have HA1:Hid (w1.heap[w.heap.size+1+1]?=some (.cells (intArr (numTo g 0)) 88 (0,0))):=(hb1.block _ (by omega)).trans HT2.out
 have HC1:Hid (w1.heap[w.heap.size]?=some (.cells #[.int .i64 x.a,.int .i64 x.b,.int .i64 x.c,.int .i64 x.d,.bool x.plus] 60 (0,0))):=(hb1.block _ (by omega)).trans HT0.out
 have HR1:Hid (w1.heap[w.heap.size+1]?=some (.cells #[.int .i64 0,.int .i64 0,.int .i64 0,.int .i64 0,.bool false] 60 (0,0))):=(hb1.block _ (by omega)).trans HT1.out
 clear hb1
 go_wp2
 go_loopw [10] (fun v10 wr=>∃ k:Nat,k<=4/\v10=.int .i64 (k:Nat)/\Hid (wr.heap[w.heap.size+1+1]?=some (.cells (intArr (numTo g k)) 88 (0,0)))/\Below (w.heap.size+1+1) w1 wr) (fun v10 _=>4-(intOf v10).toNat)
 case atStart=>exact⟨0,Nat.zero_le _,rfl,HA1.out,Below.refl _ _⟩
 case round=>
  rename World=>W1
  obtain⟨k,hk,rfl,hA,hb⟩:=hrel
  have hsz:=hb.size
  by_cases hkl:k<4
  · have hix:=index_arr x k hkl
    have HBX:Hid (Boxes W1 x more cut other pc px po pm):=HX.out.kept (HB1.out.trans (hb.mono (by omega))) l1 l2 l3 l4
    obtain⟨⟨m1,m2,m3,m4⟩,d0,d1,d2,d3,d4,d5,d6,d7⟩:=HBX.out
    have HGK:Hid (tnum x more cut other k=g k):=(by rw[HG.out]:tnum x more cut other k=g k)
    have HN:Hid (numTo g (k+1)=(numTo g k).set k (g k)):=(numTo_next g k hkl).symm
    have D0:Hid (Boxes W1 x more cut other pc px po pm):=HBX.out
    clear d0 d1 d2 d3 d4 d5 d6 d7
    go_wp2_with (go_at_call 49;refine(tiedNum_any x k more cut other pc px po pm _ hkl (H1.out k hkl) h2 m1 m2 m3 m4 D0.out.2.1 D0.out.2.2.1 D0.out.2.2.2.1 D0.out.2.2.2.2.1 D0.out.2.2.2.2.2.1 D0.out.2.2.2.2.2.2.1 D0.out.2.2.2.2.2.2.2.1 D0.out.2.2.2.2.2.2.2.2).mono ?_;rw[HGK.out];rintro e9 w2 ⟨rfl,hb2⟩;refine Hid.out ?_)
    refine Lib.hid ?_
    have HB2:Hid (Below W1.heap.size W1 w2):=hb2
    have hs2:=hb2.size
    have hA2:w2.heap[w.heap.size+1+1]?=some (.cells (intArr (numTo g k)) 88 (0,0)):=(hb2.block _ (by omega)).trans hA.out
    have HA2:Hid (w2.heap[w.heap.size+1+1]?=some (.cells (intArr (numTo g k)) 88 (0,0))):=hA2
    have e0:w2.cell? ⟨w.heap.size+1+1,k,none⟩=some (.int .i64 ((numTo g k).getD k 0)):=block_cell hA2 (intArr_get _ k (by rw[numTo_len];exact hkl))
    have z0:w2.frozen? ⟨w.heap.size+1+1,k,none⟩=false:=block_frozen hA2
    have hlt:w.heap.size+1+1<w2.heap.size:=by omega
    generalize (numTo g k).getD k 0=u at e0
    clear hb2 hA2
    go_wp2
    go_roundw
    case rel=>exact⟨k+1,by omega,by go_num,(by rw[HN.out,<-intArr_set];exact set_block HA2.out:(w2.setCell ⟨w.heap.size+1+1,k,none⟩ (.int .i64 (g k))).heap[w.heap.size+1+1]?=some (.cells (intArr (numTo g (k+1))) 88 (0,0))),(hb.trans (HB2.out.mono (by omega))).grown (set_grown w2 (w.heap.size+1+1) k (.int .i64 (g k))) (by omega) (fun q hq=>by have:=Option.some.inj hq;omega)⟩
    case measure=>simp only[intOf];omega
  · obtain rfl:k=4:=by omega
    have hA4:=hA.out
    rw[numTo_four]at hA4
    have hC:=(hb.block _ (by omega)).trans HC1.out
    have hR:=(hb.block _ (by omega)).trans HR1.out
    have HR:Hid (W1.heap[w.heap.size+1]?=some (.cells #[.int .i64 0,.int .i64 0,.int .i64 0,.int .i64 0,.bool false] 60 (0,0))):=hR
    have a0:W1.cell? ⟨w.heap.size+1+1,0,none⟩=some (.int .i64 (g 0)):=block_cell hA4 rfl
    have a1:W1.cell? ⟨w.heap.size+1+1,1,none⟩=some (.int .i64 (g 1)):=block_cell hA4 rfl
    have a2:W1.cell? ⟨w.heap.size+1+1,2,none⟩=some (.int .i64 (g 2)):=block_cell hA4 rfl
    have a3:W1.cell? ⟨w.heap.size+1+1,3,none⟩=some (.int .i64 (g 3)):=block_cell hA4 rfl
    have a4:W1.cell? ⟨w.heap.size,4,none⟩=some (.bool x.plus):=block_cell hC rfl
    have hlt:w.heap.size+1+1<W1.heap.size:=by omega
    have HBW:Hid (Below w.heap.size w W1):=HB1.out.trans (hb.mono (by omega))
    clear hA4 hC hR hA hb
    go_wp2_with (go_at_call 74;refine(crossOf_any ⟨(g 0),(g 1),(g 2),(g 3),x.plus⟩ _).mono ?_;rintro e9 w4 ⟨rfl,hb4⟩;refine Hid.out ?_)
    refine Lib.hid ?_
    have HR4:Hid (w4.heap[w.heap.size+1]?=some (.cells #[.int .i64 0,.int .i64 0,.int .i64 0,.int .i64 0,.bool false] 60 (0,0))):=(hb4.block _ (by omega)).trans HR.out
    have HB4:Hid (Below w.heap.size w w4):=HBW.out.trans (hb4.mono (by omega))
    have hs4:=hb4.size
    clear hb4 a0 a1 a2 a3 a4
    have r0:w4.cell? ⟨w.heap.size+1,0,none⟩=some (.int .i64 0):=block_cell HR4.out rfl
    have r1:w4.cell? ⟨w.heap.size+1,1,none⟩=some (.int .i64 0):=block_cell HR4.out rfl
    have r2:w4.cell? ⟨w.heap.size+1,2,none⟩=some (.int .i64 0):=block_cell HR4.out rfl
    have r3:w4.cell? ⟨w.heap.size+1,3,none⟩=some (.int .i64 0):=block_cell HR4.out rfl
    have r4:w4.cell? ⟨w.heap.size+1,4,none⟩=some (.bool false):=block_cell HR4.out rfl
    have f0:w4.frozen? ⟨w.heap.size+1,0,none⟩=false:=block_frozen HR4.out
    have f1:w4.frozen? ⟨w.heap.size+1,1,none⟩=false:=block_frozen HR4.out
    have f2:w4.frozen? ⟨w.heap.size+1,2,none⟩=false:=block_frozen HR4.out
    have f3:w4.frozen? ⟨w.heap.size+1,3,none⟩=false:=block_frozen HR4.out
    have f4:w4.frozen? ⟨w.heap.size+1,4,none⟩=false:=block_frozen HR4.out
    go_wp2
    have hX:=set_block (i:=4) (u:=.bool x.plus) (set_block (i:=3) (u:=.int .i64 (g 3)) (set_block (i:=2) (u:=.int .i64 (g 2)) (set_block (i:=1) (u:=.int .i64 (g 1)) (set_block (i:=0) (u:=.int .i64 (g 0)) HR4.out))))
    have x0:=block_cell (i:=0) (v:=.int .i64 (g 0)) hX rfl
    have x1:=block_cell (i:=1) (v:=.int .i64 (g 1)) hX rfl
    have x2:=block_cell (i:=2) (v:=.int .i64 (g 2)) hX rfl
    have x3:=block_cell (i:=3) (v:=.int .i64 (g 3)) hX rfl
    have x4:=block_cell (i:=4) (v:=.bool x.plus) hX rfl
    refine bodyPost_ret (v:=.agg #[.int .i64 (g 0),.int .i64 (g 1),.int .i64 (g 2),.int .i64 (g 3),.bool x.plus]) (by simp[results,Tryz.results48,go_sem,x0,x1,x2,x3,x4]) rfl ⟨rfl,?_⟩
    have hst:∀ (W:World) (u:Value) (i:Nat),Below w.heap.size w W->Below w.heap.size w (W.setCell ⟨w.heap.size+1,i,none⟩ u):=fun W u i h=>h.grown (set_grown W (w.heap.size+1) i u) h.size (fun q hq=>by have:=Option.some.inj hq;omega)
    exact hst _ _ _ (hst _ _ _ (hst _ _ _ (hst _ _ _ (hst _ _ _ HB4.out))))
end Go.Proofs.YtbobljddklldjaaGreatDoor
/- The walk of Drawing.Has. -/
namespace Go.Proofs.YtbobljddklldjaaGreatDoor
open Go.RowKit
set_option maxHeartbeats 1000000
set_option maxRecDepth 100000
def hasB (C:List Cr) (x:Int):Bool:=decide (1<=x)&&decide (x<=2*(C.length:Int))
theorem has_any (a : Option Addr) (cap : Nat) (C : List Cr) (loops : Int) (gF cF gT cT : Nat) (x : Int) (w : World) (hl : C.length ≤ 16) :
    Calls Tryz.prog 21 #[drV a cap C loops gF cF gT cT,.int .i64 x] w fun e w'=>e=.returned (.bool (hasB C x))/\Below w.heap.size w w':=by
 unfold drV
 have hb:∀ o,Below w.heap.size w (w.alloc o):=fun o=>(Below.refl _ _).alloc (Nat.le_refl _) o
 obtain⟨m,hm⟩:∃ m,2*C.length+1=m:=⟨_,rfl⟩
 have HM:=hidB hm
 have hm40:m<=40:=by omega
 rw[hm]
 clear hm
 by_cases h1:1<=x
 · have d1:decide (1<=x)=true:=by simpa using h1
   by_cases h2:x<(m:Int)
   · have d2:decide (x<(m:Int))=true:=by simpa using h2
     have HR:=hidB (show hasB C x=true by have:=HM.out;simp[hasB,h1];omega)
     go_enter Tryz.func21,Tryz.ntmps21
     go_wp2
     go_ret
     exact⟨ret_bool HR.out,hb _⟩
   · have d2:decide (x<(m:Int))=false:=by simpa using h2
     have HR:=hidB (show hasB C x=false by have:=HM.out;simp[hasB];omega)
     go_enter Tryz.func21,Tryz.ntmps21
     go_wp2
     go_ret
     exact⟨ret_bool HR.out,hb _⟩
 · have d1:decide (1<=x)=false:=by simpa using h1
   have HR:=hidB (show hasB C x=false by simp[hasB,h1])
   go_enter Tryz.func21,Tryz.ntmps21
   go_wp2
   go_ret
   exact⟨ret_bool HR.out,hb _⟩
end Go.Proofs.YtbobljddklldjaaGreatDoor
/- The arc on which the other strand goes on; the walk of Drawing.Aside. -/
namespace Go.Proofs.YtbobljddklldjaaGreatDoor
open Go.RowKit
def sxS (C:List Cr) (a:Nat):Nat:=if toS C a≠0 then 2 else if(C.getD (toC C a) Cr.none).plus=true then 1 else 3
def sx (C:List Cr) (a:Nat):Nat:=((C.getD (toC C a) Cr.none).arc (sxS C a)).toNat
def circM (C:List Cr):List (List Nat):=(walksTo (sx C) (2*C.length) (2*C.length)).1
end Go.Proofs.YtbobljddklldjaaGreatDoor

/- Several texts of the proof, one behind the other. -/
import Derived.Test.YtagaajlbkfkaiaaW2P
import Derived.Test.YtagaajlbkfkaiaaH7
/- A row that is taken from at its head and appended to at its end: in the world, and the step of append upon it. -/
namespace Go.Proofs.Ytagaajlbkfkaiaa
open Go.RowKit
def QueAt (w:World) (base:Nat) (e:TypeId) (v:Value) (xs:List Value):Prop:=
 ∃ g off cap cur,v=.slice (some ⟨g,off,none⟩) xs.length cap/\base<=g/\w.heap[g]?=some (.cells cur e (0,0))/\xs.length<=cap/\cap<=maxLen/\off+cap<=cur.size/\(cur.toList.drop off).take xs.length=xs
theorem QueAt.kept {w w':World} {base:Nat} {e:TypeId} {v:Value} {xs:List Value} {row:Option Nat} (h:QueAt w base e v xs) (hg:w.grownBy w' row) (hne:v.ownBlock≠row):QueAt w' base e v xs:=by
 obtain⟨g,off,cap,cur,rfl,hb,hgg,rest⟩:=h
 refine⟨g,off,cap,cur,rfl,hb,?_,rest⟩
 rw[hg.block g (Array.getElem?_eq_some_iff.1 hgg).1 (by simpa[Value.ownBlock] using hne)]
 exact hgg
theorem QueAt.lt {w:World} {base:Nat} {e:TypeId} {v:Value} {xs:List Value} (h:QueAt w base e v xs):∀ k,v.ownBlock=some k->base<=k/\k<w.heap.size:=by
 intro k hk
 obtain⟨g,off,cap,cur,rfl,hb,hgg,rest⟩:=h
 have e:=Option.some.inj hk
 have e2:g=k:=e
 subst e2
 exact⟨hb,(Array.getElem?_eq_some_iff.1 hgg).1⟩
theorem QueAt.shape {w:World} {base:Nat} {e:TypeId} {v:Value} {xs:List Value} (h:QueAt w base e v xs):∃ g off cap,v=.slice (some ⟨g,off,none⟩) xs.length cap/\xs.length<=cap:=by
 obtain⟨g,off,cap,cur,rfl,_,_,h2,_⟩:=h
 exact⟨g,off,cap,rfl,h2⟩
theorem QueAt.size {w:World} {base g off n cap:Nat} {e:TypeId} {xs:List Value} (h:QueAt w base e (.slice (some ⟨g,off,none⟩) n cap) xs):n=xs.length/\n<=cap/\cap<=maxLen/\base<=g/\g<w.heap.size:=by
 obtain⟨g',off',cap',cur,ev,hb,hgg,h1,h2,_⟩:=h
 injection ev with e1 e2 e3
 injection e1 with e1
 injection e1 with e4 e5
 subst e4 e2 e3
 exact⟨rfl,h1,h2,hb,(Array.getElem?_eq_some_iff.1 hgg).1⟩
theorem QueAt.cell {w:World} {base g off n cap:Nat} {e:TypeId} {xs:List Value} (h:QueAt w base e (.slice (some ⟨g,off,none⟩) n cap) xs) (j:Nat) (u:Value) (hj:xs[j]?=some u):w.cell? ⟨g,off+j,none⟩=some u:=by
 obtain⟨g',off',cap',cur,ev,hb,hgg,h1,h2,h3,h4⟩:=h
 injection ev with e1 e2 e3
 injection e1 with e1
 injection e1 with e4 e5
 subst e4 e5
 rw[cell_of_row w g _ cur e (0,0) hgg]
 rw[<-h4,List.getElem?_take]at hj
 split at hj
 · rw[List.getElem?_drop]at hj
   simpa using hj
 · cases hj
theorem QueAt.tail {w:World} {base g off n cap:Nat} {e:TypeId} {x:Value} {xs:List Value} (h:QueAt w base e (.slice (some ⟨g,off,none⟩) n cap) (x::xs)):QueAt w base e (.slice (some ⟨g,off+1,none⟩) (n-1) (cap-1)) xs:=by
 obtain⟨g',off',cap',cur,ev,hb,hgg,h1,h2,h3,h4⟩:=h
 injection ev with e1 e2 e3
 injection e1 with e1
 injection e1 with e4 e5
 subst e4 e5 e3
 simp only[List.length_cons]at e2 h1 h4
 refine⟨g,off+1,cap-1,cur,by rw[e2];simp,hb,hgg,by omega,by omega,by omega,?_⟩
 have h5:((cur.toList.drop off).take (xs.length+1)).drop 1=xs:=by rw[h4];rfl
 rw[List.drop_take,List.drop_drop]at h5
 simpa using h5
theorem QueAt.tail1 {w:World} {base g off n:Nat} {e:TypeId} {x:Value} {xs:List Value} (h:QueAt w base e (.slice (some ⟨g,off,none⟩) n 1) (x::xs)):QueAt w base e (.slice (some ⟨g,off,none⟩) (n-1) 0) xs/\xs=[]:=by
 obtain⟨g',off',cap',cur,ev,hb,hgg,h1,h2,h3,h4⟩:=h
 injection ev with e1 e2 e3
 injection e1 with e1
 injection e1 with e4 e5
 subst e4 e5 e3
 simp only[List.length_cons]at e2 h1 h4
 have hx:xs=[]:=List.length_eq_zero_iff.1 (by omega)
 subst hx
 exact⟨⟨g,off,0,cur,by rw[e2];simp,hb,hgg,Nat.zero_le _,Nat.zero_le _,by omega,by simp⟩,rfl⟩
theorem QueAt.made {w:World} {base g n cap:Nat} {e:TypeId} {xs:List Value} (h:w.ownsRow base e 1 (.slice (some ⟨g,0,none⟩) n cap) n xs):QueAt w base e (.slice (some ⟨g,0,none⟩) n cap) xs:=by
 obtain⟨hl,h⟩:=h
 rcases h with⟨h,_⟩|⟨g',cap',cur,ev,hb,hgg,h1,h2,h3,h4⟩
 · cases h
 · injection ev with e1 e2 e3
   injection e1 with e1
   injection e1 with e4
   subst e4 e3
   rw[Nat.mul_one]at hl h3 h4
   exact⟨g,0,cap,cur,by rw[hl],hb,hgg,by omega,h2,by omega,by rw[hl];simpa using h4⟩
theorem run_append_que {P:Program} (w:World) (base:Nat) (t ty e:TypeId) (i:TypeInfo) (z:Value) (bytes:Nat) (ht:P.underlying t=some (.slice e)) (hi:P.info? e=some i) (hz:i.zero=some z)
    (hsize:i.size=1) (hby:i.bytes=bytes) (hzs:z.cells.size=1)
    (v:Value) (xs:List Value) (hown:QueAt w base e v xs)
    (a:Addr) (c:Nat) (u:Value) (hnews:w.cell? a=some u) (h1:u.oneCell'=true)
    (h63:xs.length+1<=maxLen) (hbytes:(xs.length+1)*bytes<=140737488355328) (hbase:base<=w.heap.size):
    ∃ v' w',(Builtin.append_ #[t,t] ty #[v,.slice (some a) 1 c]).run P w=.ok v' w'/\QueAt w' base e v' (xs++[u])/\w.grownBy w' v.ownBlock:=by
 subst hby
 have hsmall:xs.length+1<=9223372036854775807:=by simp only[maxLen]at h63;omega
 have hl:[u].length=1*i.size:=by rw[hsize];rfl
 have hcells:∀ j v,[u][j]?=some v->w.cell? (a.add j)=some v:=by
  intro j v hj
  cases j with
  |zero=>
   have e:v=u:=by simpa using hj.symm
   subst e
   have ha:a.add 0=a:=by unfold Addr.add;split<;>simp_all
   rw[ha]
   exact hnews
  |succ j=>simp at hj
 obtain⟨g,off,cap,cur,rfl,hb,hgg,hnc,hcm,hcs,htake⟩:=hown
 by_cases hroom:xs.length+1<=cap
 · have hf:=run_firstCells_some (P:=P) w i.size 1 a 1 c [u] hl hcells
   have hst:=run_storeCells_at P g (off+xs.length) e [u] 0 cur w hgg (by simp;omega) (by simpa using h1)
   simp only[Nat.add_zero]at hst
   refine⟨.slice (some ⟨g,off,none⟩) (xs.length+1) cap,w.setRow g (cur.toList.take (off+xs.length)++[u]++cur.toList.drop (off+xs.length+[u].length)).toArray,?_,⟨g,off,cap,_,by simp,hb,setRow_heap w g cur _ e _ hgg,by simpa using hroom,hcm,?_,?_⟩,⟨rfl,rfl,rfl,by simp,fun k _ hk=>setRow_other w g k _ (fun e=>hk (by simp[Value.ownBlock,e]))⟩⟩
   · rw[hsize]at hf
     simp[Builtin.append_,run_underlying ht,sizeOf,typeInfo,hi,hsize,Builtin.lenOf,hroom,hf,Addr.add_lit]
     simp at hst
     simp[hst]
   · simp only[List.size_toArray,List.length_append,List.length_take,List.length_drop,Array.length_toList,List.length_cons,List.length_nil]
     omega
   · have h5:(cur.toList.take (off+xs.length)).drop off=xs:=by rw[List.drop_take,Nat.add_sub_cancel_left];exact htake
     simp only[List.append_assoc]
     rw[List.drop_append_of_le_length (by simp;omega),h5,<-List.append_assoc]
     exact List.take_left
 · have holds:∀ j v,xs[j]?=some v->w.cell? ((⟨g,off,none⟩:Addr).add j)=some v:=fun j v hj=>by
     have hadd:(⟨g,off,none⟩:Addr).add j=⟨g,off+j,none⟩:=by unfold Addr.add;split<;>simp_all
     rw[hadd]
     exact QueAt.cell (⟨g,off,cap,cur,rfl,hb,hgg,hnc,hcm,hcs,htake⟩:QueAt w base e (.slice (some ⟨g,off,none⟩) xs.length cap) xs) j v hj
   have hr:=run_append_grow (P:=P) w t ty e i z ht hi hz ⟨g,off,none⟩ xs.length cap xs (by rw[hsize,Nat.mul_one]) holds a 1 c [u] hl hcells (by omega) (by omega) (growslice_fits (by omega) hbytes)
   have hge:=grownCap_ge w (xs.length+1) cap e
   refine⟨_,_,hr,⟨w.heap.size,0,_,_,by simp,hbase,heap_alloc_new w.drew _,by simpa using hge,grownCap_le_maxLen w (xs.length+1) cap e h63,?_,?_⟩,⟨rfl,rfl,rfl,by simp,fun k hk _=>Array.getElem?_push_lt hk▸(Array.getElem?_eq_getElem hk).symm⟩⟩
   · simp only[Array.size_append,List.size_toArray,size_zeroCells,hzs,List.length_cons,List.length_nil]
     omega
   · simp only[Array.toList_append,List.drop_zero]
     exact List.take_left
theorem wpList_append_que {P:Program} (w:World) {ops:Array Oper} {rest:List Oper} {o:Oper} {a:Act} {Q:Exit->Act->World->Prop} (hgd:o.guard=none) (s x:Operand) (t:TypeId)
    (ho:o.op=.call { callee:=.builtin .append,args:=#[s,x],argTypes:=#[t,t] })
    (base:Nat) (e:TypeId) (i:TypeInfo) (z:Value) (bytes:Nat) (ht:P.underlying t=some (.slice e)) (hi:P.info? e=some i) (hz:i.zero=some z)
    (hsize:i.size=1) (hby:i.bytes=bytes) (hzs:z.cells.size=1)
    (v:Value) (xs:List Value) (hs:a.eval s=v) (hown:QueAt w base e v xs)
    (ad:Addr) (c:Nat) (u:Value) (hx:a.eval x=.slice (some ad) 1 c) (hnews:w.cell? ad=some u) (h1:u.oneCell'=true)
    (h63:xs.length+1<=maxLen) (hbytes:(xs.length+1)*bytes<=140737488355328) (hbase:base<=w.heap.size)
    (h:∀ v' w',QueAt w' base e v' (xs++[u])->w.grownBy w' v.ownBlock->wpList P ops Q rest (a.put o.dst v') w'):wpList P ops Q (o::rest) a w:=by
 refine wpList_plain hgd fun _ hK=>?_
 obtain⟨v',w',hr,h2,h3⟩:=run_append_que (P:=P) w base t o.type e i z bytes ht hi hz hsize hby hzs v xs hown ad c u hnews h1 h63 hbytes hbase
 unfold Oper.wp execOp
 simp only[ho,resolve,invoke,builtin,Sem.run_bind,Sem.run_pure,Result.andThen_ok,List.map_toArray,List.map_cons,List.map_nil,hs,hx,hr]
 exact hK _ _ (h v' w' h2 h3)
end Go.Proofs.Ytagaajlbkfkaiaa
/- The walks of ref.DiagramOf and gauss.Strands; rows that are the same. -/
namespace Go.Proofs.Ytagaajlbkfkaiaa
open Go.RowKit
set_option maxHeartbeats 2000000
set_option maxRecDepth 100000
def crossCells (C:List Cr):List Value:=C.flatMap fun x=>[.int .i64 x.a,.int .i64 x.b,.int .i64 x.c,.int .i64 x.d,.bool x.plus]
theorem cells_length (C:List Cr):(crossCells C).length=C.length*5:=by
 induction C with
 |nil=>rfl
 |cons t l ih=>simp[crossCells]at *;omega
theorem cells_get (C:List Cr) (i:Nat) (hi:i<C.length):(crossCells C)[i*5]?=some (.int .i64 (C.getD i Cr.none).a)/\(crossCells C)[i*5+1]?=some (.int .i64 (C.getD i Cr.none).b)/\(crossCells C)[i*5+2]?=some (.int .i64 (C.getD i Cr.none).c)/\(crossCells C)[i*5+3]?=some (.int .i64 (C.getD i Cr.none).d)/\(crossCells C)[i*5+4]?=some (.bool (C.getD i Cr.none).plus):=by
 induction C generalizing i with
 |nil=>simp at hi
 |cons t l ih=>
  have e:crossCells (t::l)=.int .i64 t.a::.int .i64 t.b::.int .i64 t.c::.int .i64 t.d::.bool t.plus::crossCells l:=rfl
  cases i with
  |zero=>rw[e];exact⟨rfl,rfl,rfl,rfl,rfl⟩
  |succ i=>
   have:=ih i (by simpa using hi)
   have e1:(i+1)*5=i*5+1+1+1+1+1:=by omega
   rw[e,e1]
   exact this
theorem cells_one (C:List Cr):∀ u∈crossCells C,u.oneCell'=true:=by
 intro u hu
 simp only[crossCells,List.mem_flatMap]at hu
 obtain⟨t,_,ht⟩:=hu
 simp at ht
 rcases ht with rfl|rfl|rfl|rfl|rfl<;>rfl
theorem cells_at {w:World} {b off:Nat} {C:List Cr} (h:CrossAt w b off C):∀ j u,(crossCells C)[j]?=some u->w.cell? ((⟨b,off,none⟩:Addr).add j)=some u:=by
 intro j u hj
 have hlt:j<(crossCells C).length:=by
  rcases Nat.lt_or_ge j (crossCells C).length with h|h
  · exact h
  · rw[List.getElem?_eq_none h]at hj;cases hj
 rw[cells_length]at hlt
 have hi:j / 5<C.length:=by omega
 have g:=cells_get C (j / 5) hi
 have c:=h (j / 5) hi
 rw[Addr.add_lit]
 have h5:j%5=0∨j%5=1∨j%5=2∨j%5=3∨j%5=4:=by omega
 rcases h5 with e|e|e|e|e
 · rw[show j / 5*5=j by omega]at g c
   rw[g.1]at hj
   rw[<-hj]
   exact c.1
 · rw[show j / 5*5+1=j by omega]at g
   rw[show off+j / 5*5+1=off+j by omega]at c
   rw[g.2.1]at hj
   rw[<-hj]
   exact c.2.1
 · rw[show j / 5*5+2=j by omega]at g
   rw[show off+j / 5*5+2=off+j by omega]at c
   rw[g.2.2.1]at hj
   rw[<-hj]
   exact c.2.2.1
 · rw[show j / 5*5+3=j by omega]at g
   rw[show off+j / 5*5+3=off+j by omega]at c
   rw[g.2.2.2.1]at hj
   rw[<-hj]
   exact c.2.2.2.1
 · rw[show j / 5*5+4=j by omega]at g
   rw[show off+j / 5*5+4=off+j by omega]at c
   rw[g.2.2.2.2]at hj
   rw[<-hj]
   exact c.2.2.2.2
theorem crs_own {w:World} {B e:Nat} {v:Value} {C:List Cr} (h:w.ownsRow B e 5 v C.length (crossCells C)) (hn:C.length<=maxLen):Crs w w.heap.size v C:=by
 have h0:=h
 rcases h.2 with⟨rfl,h1⟩|⟨g,cap,cur,rfl,_,_,_⟩
 · exact⟨none,0,by rw[h1],hn,fun hp=>by omega⟩
 · refine⟨some ⟨g,0,none⟩,cap,rfl,hn,fun _=>⟨g,0,rfl,(h0.lt g rfl).2,fun i hi=>?_⟩⟩
   have g0:=cells_get C i hi
   rw[Nat.zero_add]
   exact⟨(h0.cellAt (i*5) (by omega)).trans g0.1,(h0.cellAt (i*5+1) (by omega)).trans g0.2.1,(h0.cellAt (i*5+2) (by omega)).trans g0.2.2.1,(h0.cellAt (i*5+3) (by omega)).trans g0.2.2.2.1,(h0.cellAt (i*5+4) (by omega)).trans g0.2.2.2.2⟩
def CrsW (w:World) (B:Nat) (v:Value) (C:List Cr):Prop:=
 (v=.slice none 0 0/\C=[])∨(∃ ad cap,v=.slice (some ad) 0 cap/\C=[])∨∃ b off cap,v=.slice (some ⟨b,off,none⟩) C.length cap/\b<B/\CrossAt w b off C
theorem CrsW.crs {w:World} {B:Nat} {v:Value} {C:List Cr} (h:CrsW w B v C) (hn:C.length<=maxLen):Crs w B v C:=by
 rcases h with⟨rfl,rfl⟩|⟨ad,cap,rfl,rfl⟩|⟨b,off,cap,rfl,hlt,hC⟩
 · exact⟨none,0,rfl,hn,fun hp=>by simp at hp⟩
 · exact⟨some ad,cap,rfl,hn,fun hp=>by simp at hp⟩
 · exact⟨some ⟨b,off,none⟩,cap,rfl,hn,fun _=>⟨b,off,rfl,hlt,hC⟩⟩
theorem CrsW.up {w w':World} {v:Value} {C:List Cr} (h:CrsW w w.heap.size v C) (hb:Below w.heap.size w w'):CrsW w' w'.heap.size v C:=by
 rcases h with h|h|⟨b,off,cap,hv,hlt,hC⟩
 · exact Or.inl h
 · exact Or.inr (Or.inl h)
 · exact Or.inr (Or.inr ⟨b,off,cap,hv,Nat.lt_of_lt_of_le hlt hb.size,hC.on hb hlt⟩)
theorem infoCross:(Try.prog.info? 71).map (fun i=>(i.zero,i.size,i.bytes))=some (some (.agg #[.int .i64 0,.int .i64 0,.int .i64 0,.int .i64 0,.bool false]),5,40):=by kernel_rfl
theorem diagramOf_any (v:Value) (C:List Cr) (loops:Int) (w:World) (hl:C.length*40<=140737488355328) (h:CrsW w w.heap.size v C):
    Calls Try.prog 10 #[.agg #[v,.int .i64 loops]] w fun e w'=>∃ v',e=.returned (.agg #[v',.int .i64 loops])/\Crs w' w'.heap.size v' C/\Below w.heap.size w w':=by
 obtain⟨i0,hi,hz0,hz1,hz2⟩:=info_parts infoCross
 have hm:C.length<=maxLen:=by unfold maxLen;omega
 obtain⟨w0,hw0⟩:∃ w0,w0=(w.alloc (.cells #[v,.int .i64 loops] 24)).alloc (.cells #[.slice none 0 0,.int .i64 0] 24):=⟨_,rfl⟩
 have HW0:Hid (w0=(w.alloc (.cells #[v,.int .i64 loops] 24)).alloc (.cells #[.slice none 0 0,.int .i64 0] 24)):=hw0
 have hs0:w0.heap.size=w.heap.size+2:=by rw[hw0];simp
 have HB0:Hid (Below w.heap.size w w0):=(by rw[hw0];exact below2 _ _ _:Below w.heap.size w w0)
 clear hw0
 rcases h with⟨rfl,rfl⟩|⟨ad,cap,rfl,rfl⟩|⟨b,off,cap,rfl,hlt,hC⟩
 · go_enter Try.func10,Try.ntmps10
   go_wp2_with (at_builtin;refine wpList_append_own_none rfl _ _ 22 rfl w.heap.size 71 i0 5 Try.underlying22 hi _ 0 [] rfl (World.ownsRow_nil _ _ _ _) rfl ?_)
   exact bodyPost_ret (v:=.agg #[.slice none 0 0,.int .i64 loops]) (by simp[results,Try.results10,go_sem]) rfl ⟨_,rfl,⟨none,0,rfl,hm,fun hp=>by simp at hp⟩,below2 _ _ _⟩
 · have c0:w0.heap[w.heap.size]?=some (.cells #[.slice (some ad) 0 cap,.int .i64 loops] 24 (0,0)):=by rw[HW0.out];exact alloc_old (alloc_at rfl)
   have c1:w0.heap[w.heap.size+1]?=some (.cells #[.slice none 0 0,.int .i64 0] 24 (0,0)):=by rw[HW0.out];exact alloc_at (by simp)
   have HC0:Hid (w0.heap[w.heap.size]?=some (.cells #[.slice (some ad) 0 cap,.int .i64 loops] 24 (0,0))):=c0
   have HC1:Hid (w0.heap[w.heap.size+1]?=some (.cells #[.slice none 0 0,.int .i64 0] 24 (0,0))):=c1
   clear c0 c1
   go_enter Try.func10,Try.ntmps10
   go_wp2_with (at_builtin;refine wpList_append_own _ rfl _ _ 22 rfl (w.heap.size+2) 71 i0 (.agg #[.int .i64 0,.int .i64 0,.int .i64 0,.int .i64 0,.bool false]) 5 40 Try.underlying22 hi hz0 hz1 hz2 rfl (by decide) _ 0 [] rfl (World.ownsRow_nil _ _ _ _) ad 0 cap [] rfl rfl (fun j u h=>by simp at h) (fun u h=>by simp at h) (by decide) (by decide) (by simp) ?_;intro v' w1 hown hgr _;refine Hid.out ?_)
   refine Lib.hid ?_
   rw[<-HW0.out]at hgr
   have HGR:Hid (w0.grownBy w1 none):=hgr
   have HOW:Hid (w1.ownsRow (w.heap.size+2) 71 5 v' (0+0) ([]++[])):=hown
   obtain⟨a',c',rfl⟩:=own_capS hown
   have hs1:=hgr.size
   clear hown hgr
   have hg0:=(HGR.out.block _ (by omega) (by simp)).trans HC0.out
   have hg1:=(HGR.out.block _ (by omega) (by simp)).trans HC1.out
   have p0:w1.cell? ⟨w.heap.size,0,none⟩=some (.slice (some ad) 0 cap):=block_cell hg0 rfl
   have p1:w1.cell? ⟨w.heap.size,1,none⟩=some (.int .i64 loops):=block_cell hg0 rfl
   have p2:w1.cell? ⟨w.heap.size+1,0,none⟩=some (.slice none 0 0):=block_cell hg1 rfl
   have p3:w1.cell? ⟨w.heap.size+1,1,none⟩=some (.int .i64 0):=block_cell hg1 rfl
   have f0:w1.frozen? ⟨w.heap.size,0,none⟩=false:=block_frozen hg0
   have f2:w1.frozen? ⟨w.heap.size+1,0,none⟩=false:=block_frozen hg1
   have f3:w1.frozen? ⟨w.heap.size+1,1,none⟩=false:=block_frozen hg1
   have HG1:Hid (w1.heap[w.heap.size+1]?=some (.cells #[.slice none 0 0,.int .i64 0] 24 (0,0))):=hg1
   clear hg0 hg1
   go_wp2
   have hq0:=((set_grown w1 w.heap.size 0 (.slice a' 0 c')).block (w.heap.size+1) (by omega) (fun e=>by have:=Option.some.inj e;omega)).trans HG1.out
   have hq:=set_block (i:=1) (u:=.int .i64 loops) (set_block (i:=0) (u:=.slice a' 0 c') hq0)
   have x0:=block_cell (i:=0) (v:=.slice a' 0 c') hq rfl
   have x1:=block_cell (i:=1) (v:=.int .i64 loops) hq rfl
   have hk1:=HOW.out.kept (set_grown w1 w.heap.size 0 (.slice a' 0 c')) (by rcases HOW.out.2 with⟨e,_⟩|⟨g,cp,cu,e,hg,_⟩<;>injection e with e1 e2 e3<;>subst e1<;>first|exact Or.inl rfl|(refine Or.inr (fun e=>?_);have:g=w.heap.size:=Option.some.inj e;omega))
   have hk2:=hk1.kept (st2_grown (w1.setCell ⟨w.heap.size,0,none⟩ (.slice a' 0 c')) (w.heap.size+1) 0 (.slice a' 0 c') (.int .i64 loops)) (by rcases HOW.out.2 with⟨e,_⟩|⟨g,cp,cu,e,hg,_⟩<;>injection e with e1 e2 e3<;>subst e1<;>first|exact Or.inl rfl|(refine Or.inr (fun e=>?_);have:g=w.heap.size+1:=Option.some.inj e;omega))
   refine bodyPost_ret (v:=.agg #[.slice a' 0 c',.int .i64 loops]) (by simp[results,Try.results10,go_sem,x0,x1]) rfl ⟨_,rfl,?_,?_⟩
   · rw[Nat.zero_add,List.nil_append]at hk2
     exact crs_own (C:=[]) hk2 hm
   · exact((HB0.out.grown HGR.out (by omega) (fun k hk=>by cases hk)).grown (set_grown w1 w.heap.size 0 (.slice a' 0 c')) (by omega) (fun k hk=>by have:=Option.some.inj hk;omega)).grown (st2_grown (w1.setCell ⟨w.heap.size,0,none⟩ (.slice a' 0 c')) (w.heap.size+1) 0 (.slice a' 0 c') (.int .i64 loops)) (by simp;omega) (fun k hk=>by have:=Option.some.inj hk;omega)
 · have c0:w0.heap[w.heap.size]?=some (.cells #[.slice (some ⟨b,off,none⟩) C.length cap,.int .i64 loops] 24 (0,0)):=by rw[HW0.out];exact alloc_old (alloc_at rfl)
   have c1:w0.heap[w.heap.size+1]?=some (.cells #[.slice none 0 0,.int .i64 0] 24 (0,0)):=by rw[HW0.out];exact alloc_at (by simp)
   have HC0:Hid (w0.heap[w.heap.size]?=some (.cells #[.slice (some ⟨b,off,none⟩) C.length cap,.int .i64 loops] 24 (0,0))):=c0
   have HC1:Hid (w0.heap[w.heap.size+1]?=some (.cells #[.slice none 0 0,.int .i64 0] 24 (0,0))):=c1
   clear c0 c1
   have HCA:Hid (CrossAt ((w.alloc (.cells #[.slice (some ⟨b,off,none⟩) C.length cap,.int .i64 loops] 24)).alloc (.cells #[.slice none 0 0,.int .i64 0] 24)) b off C):=hC.on (below2 _ _ _) hlt
   clear hC
   go_enter Try.func10,Try.ntmps10
   go_wp2_with (at_builtin;refine wpList_append_own _ rfl _ _ 22 rfl (w.heap.size+2) 71 i0 (.agg #[.int .i64 0,.int .i64 0,.int .i64 0,.int .i64 0,.bool false]) 5 40 Try.underlying22 hi hz0 hz1 hz2 rfl (by decide) _ 0 [] rfl (World.ownsRow_nil _ _ _ _) ⟨b,off,none⟩ C.length cap (crossCells C) rfl (cells_length C) (cells_at HCA.out) (cells_one C) (by unfold maxLen;omega) (by omega) (by simp) ?_;intro v' w1 hown hgr _;refine Hid.out ?_)
   refine Lib.hid ?_
   rw[<-HW0.out]at hgr
   have HGR:Hid (w0.grownBy w1 none):=hgr
   have HOW:Hid (w1.ownsRow (w.heap.size+2) 71 5 v' (0+C.length) ([]++(crossCells C))):=hown
   obtain⟨a',c',rfl⟩:=own_capS hown
   have hs1:=hgr.size
   clear hown hgr
   have hg0:=(HGR.out.block _ (by omega) (by simp)).trans HC0.out
   have hg1:=(HGR.out.block _ (by omega) (by simp)).trans HC1.out
   have p0:w1.cell? ⟨w.heap.size,0,none⟩=some (.slice (some ⟨b,off,none⟩) C.length cap):=block_cell hg0 rfl
   have p1:w1.cell? ⟨w.heap.size,1,none⟩=some (.int .i64 loops):=block_cell hg0 rfl
   have p2:w1.cell? ⟨w.heap.size+1,0,none⟩=some (.slice none 0 0):=block_cell hg1 rfl
   have p3:w1.cell? ⟨w.heap.size+1,1,none⟩=some (.int .i64 0):=block_cell hg1 rfl
   have f0:w1.frozen? ⟨w.heap.size,0,none⟩=false:=block_frozen hg0
   have f2:w1.frozen? ⟨w.heap.size+1,0,none⟩=false:=block_frozen hg1
   have f3:w1.frozen? ⟨w.heap.size+1,1,none⟩=false:=block_frozen hg1
   have HG1:Hid (w1.heap[w.heap.size+1]?=some (.cells #[.slice none 0 0,.int .i64 0] 24 (0,0))):=hg1
   clear hg0 hg1
   go_wp2
   have hq0:=((set_grown w1 w.heap.size 0 (.slice a' C.length c')).block (w.heap.size+1) (by omega) (fun e=>by have:=Option.some.inj e;omega)).trans HG1.out
   have hq:=set_block (i:=1) (u:=.int .i64 loops) (set_block (i:=0) (u:=.slice a' C.length c') hq0)
   have x0:=block_cell (i:=0) (v:=.slice a' C.length c') hq rfl
   have x1:=block_cell (i:=1) (v:=.int .i64 loops) hq rfl
   have hk1:=HOW.out.kept (set_grown w1 w.heap.size 0 (.slice a' C.length c')) (by rcases HOW.out.2 with⟨e,_⟩|⟨g,cp,cu,e,hg,_⟩<;>injection e with e1 e2 e3<;>subst e1<;>first|exact Or.inl rfl|(refine Or.inr (fun e=>?_);have:g=w.heap.size:=Option.some.inj e;omega))
   have hk2:=hk1.kept (st2_grown (w1.setCell ⟨w.heap.size,0,none⟩ (.slice a' C.length c')) (w.heap.size+1) 0 (.slice a' C.length c') (.int .i64 loops)) (by rcases HOW.out.2 with⟨e,_⟩|⟨g,cp,cu,e,hg,_⟩<;>injection e with e1 e2 e3<;>subst e1<;>first|exact Or.inl rfl|(refine Or.inr (fun e=>?_);have:g=w.heap.size+1:=Option.some.inj e;omega))
   refine bodyPost_ret (v:=.agg #[.slice a' C.length c',.int .i64 loops]) (by simp[results,Try.results10,go_sem,x0,x1]) rfl ⟨_,rfl,?_,?_⟩
   · rw[Nat.zero_add,List.nil_append]at hk2
     exact crs_own (C:=C) hk2 hm
   · exact((HB0.out.grown HGR.out (by omega) (fun k hk=>by cases hk)).grown (set_grown w1 w.heap.size 0 (.slice a' C.length c')) (by omega) (fun k hk=>by have:=Option.some.inj hk;omega)).grown (st2_grown (w1.setCell ⟨w.heap.size,0,none⟩ (.slice a' C.length c')) (w.heap.size+1) 0 (.slice a' C.length c') (.int .i64 loops)) (by simp;omega) (fun k hk=>by have:=Option.some.inj hk;omega)
theorem own_terms {w:World} {B e n g c:Nat} {l:List (Int×Int)} (h:w.ownsRow B e 2 (.slice (some ⟨g,0,none⟩) n c) n (flat l)) (hl:l.length=n):TermsAt w g 0 l:=by
 intro i hi
 have g0:=flat_get l i hi
 rw[Nat.zero_add]
 exact⟨(h.cellAt (i*2) (by omega)).trans g0.1,(h.cellAt (i*2+1) (by omega)).trans g0.2⟩
theorem Drawn.dr {w w':World} {a:Option Addr} {cap:Nat} {loops:Int} {C:List Cr} {D:Value} (h:Drawn w w' w.heap.size (.slice a C.length cap) loops C D) (hm:mayD C loops=true) (hb:Below w.heap.size w w') (hC:Crs w w.heap.size (.slice a C.length cap) C):
    ∃ gF cF gT cT,D=drV a cap C loops gF cF gT cT/\Dr w' a cap C gF gT:=by
 obtain⟨gF,cF,gT,cT,rfl,h1,h2⟩:=h.yes hm
 exact⟨gF,cF,gT,cT,rfl,hC.up hb,(h1.lt gF rfl).2,(h2.lt gT rfl).2,own_terms h1 (ends_length _ _ _ _),own_terms h2 (ends_length _ _ _ _)⟩
end Go.Proofs.Ytagaajlbkfkaiaa
/- Diagrams under way: crossings that are appended to one; the walks of drawing.crossOf and drawing.Turned. -/
namespace Go.Proofs.Ytagaajlbkfkaiaa
open Go.RowKit
set_option maxHeartbeats 2000000
set_option maxRecDepth 100000
theorem cells_append (C D:List Cr):crossCells (C++D)=crossCells C++crossCells D:=by simp[crossCells]
theorem new_cell5 (W:World) (a b c d p:Value) (e:TypeId):∀ j u,[a,b,c,d,p][j]?=some u->(W.alloc (.cells #[a,b,c,d,p] e)).cell? ((⟨W.heap.size,0,none⟩:Addr).add j)=some u:=by
 intro j u hj
 rw[Addr.add_lit,Nat.zero_add]
 have hh:(W.alloc (.cells #[a,b,c,d,p] e)).heap[W.heap.size]?=some (.cells #[a,b,c,d,p] e (0,0)):=Array.getElem?_push_size
 match j,hj with
 |0,hj=>simp at hj;subst hj;exact block_cell hh rfl
 |1,hj=>simp at hj;subst hj;exact block_cell hh rfl
 |2,hj=>simp at hj;subst hj;exact block_cell hh rfl
 |3,hj=>simp at hj;subst hj;exact block_cell hh rfl
 |4,hj=>simp at hj;subst hj;exact block_cell hh rfl
structure OutAt (w:World) (B g:Nat) (v:Value) (loops:Int) (C:List Cr):Prop where
 box:w.heap[g]?=some (.cells #[v,.int .i64 loops] 24 (0,0))
 row:w.ownsRow B 71 5 v C.length (crossCells C)
theorem OutAt.nil {w:World} {B g:Nat} {loops:Int} (h:w.heap[g]?=some (.cells #[.slice none 0 0,.int .i64 loops] 24 (0,0))):OutAt w B g (.slice none 0 0) loops []:=⟨h,World.ownsRow_nil _ _ _ _⟩
theorem OutAt.on {w w':World} {B g:Nat} {v:Value} {loops:Int} {C:List Cr} (h:OutAt w B g v loops C) (hb:Below w.heap.size w w'):OutAt w' B g v loops C:=
 ⟨(hb.block _ (Array.getElem?_eq_some_iff.1 h.box).1).trans h.box,own_any h.row (grown_below hb none)⟩
theorem OutAt.kept {w w':World} {B g q:Nat} {v:Value} {loops:Int} {C:List Cr} (h:OutAt w B g v loops C) (hg:w.grownBy w' (some q)) (hq:q≠g) (hB:q<B):OutAt w' B g v loops C:=by
 refine⟨(hg.block _ (Array.getElem?_eq_some_iff.1 h.box).1 (fun e=>hq (Option.some.inj e).symm)).trans h.box,h.row.kept hg ?_⟩
 cases hv:v.ownBlock with
 |none=>exact Or.inl rfl
 |some k=>exact Or.inr (fun e=>by have h1:=(h.row.lt k hv).1;have h2:=Option.some.inj e;omega)
theorem OutAt.app {w w8:World} {B g:Nat} {v v8:Value} {loops:Int} {C:List Cr} {x:Cr} {o:Obj} {m:Nat} (h:OutAt w B g v loops C) (hgB:g<B) (hm:m=C.length+1) (hown8:w8.ownsRow B 71 5 v8 m (crossCells C++crossCells [x])) (hg8:(w.alloc o).grownBy w8 v.ownBlock):OutAt (w8.setCell ⟨g,0,none⟩ v8) B g v8 loops (C++[x]):=by
 have hlt:=(Array.getElem?_eq_some_iff.1 h.box).1
 have hb8:w8.heap[g]?=some (.cells #[v,.int .i64 loops] 24 (0,0)):=
  (hg8.block _ (by simp;omega) (fun e=>by have:=(h.row.lt g e.symm).1;omega)).trans (alloc_old h.box)
 refine⟨set_block hb8,?_⟩
 have hl:(C++[x]).length=m:=by rw[hm];simp
 rw[hl,cells_append]
 refine hown8.kept (set_grown w8 g 0 v8) ?_
 cases hv:v8.ownBlock with
 |none=>exact Or.inl rfl
 |some k=>exact Or.inr (fun e=>by have h1:=(hown8.lt k hv).1;have h2:=Option.some.inj e;omega)
theorem OutAt.below {w w8 W:World} {B B0 g:Nat} {v v8:Value} {loops:Int} {C:List Cr} {o:Obj} (h:OutAt w B g v loops C) (hb:Below B0 W w) (hB:B0<=B) (hs:B0<=w.heap.size) (h0:B0<=g) (hg8:(w.alloc o).grownBy w8 v.ownBlock):Below B0 W (w8.setCell ⟨g,0,none⟩ v8):=
 ((hb.alloc hs _).grown hg8 (by simp;omega) (fun q hq=>Nat.le_trans hB (h.row.lt q hq).1)).grown (set_grown w8 g 0 v8) (by have:=hg8.size;simp at this;omega) (fun q hq=>by have:=Option.some.inj hq;omega)
theorem OutAt.other {w w8:World} {B g k:Nat} {v v8:Value} {loops:Int} {C:List Cr} {o p:Obj} (h:OutAt w B g v loops C) (hk:w.heap[k]?=some p) (hkB:k<B) (hkg:k≠g) (hg8:(w.alloc o).grownBy w8 v.ownBlock):(w8.setCell ⟨g,0,none⟩ v8).heap[k]?=some p:=by
 have hlt:=(Array.getElem?_eq_some_iff.1 hk).1
 have hs:=hg8.size
 simp only[World.size_alloc]at hs
 have hb8:w8.heap[k]?=some p:=(hg8.block _ (by simp;omega) (fun e=>by have:=(h.row.lt k e.symm).1;omega)).trans (alloc_old hk)
 exact((set_grown w8 g 0 v8).block k (by omega) (fun e=>hkg (Option.some.inj e))).trans hb8
theorem OutAt.box8 {w w8:World} {B g:Nat} {v:Value} {loops:Int} {C:List Cr} {o:Obj} (h:OutAt w B g v loops C) (hgB:g<B) (hg8:(w.alloc o).grownBy w8 v.ownBlock):w8.heap[g]?=some (.cells #[v,.int .i64 loops] 24 (0,0)):=by
 have hlt:=(Array.getElem?_eq_some_iff.1 h.box).1
 exact(hg8.block _ (by simp;omega) (fun e=>by have:=(h.row.lt g e.symm).1;omega)).trans (alloc_old h.box)
def turn (x:Cr) (f:Nat):Cr:=⟨x.arc (f%4),x.arc ((f+1)%4),x.arc ((f+2)%4),x.arc ((f+3)%4),x.plus⟩
theorem crossOf_any (x:Cr) (w:World):
    Calls Try.prog 122 #[.agg #[.int .i64 x.a,.int .i64 x.b,.int .i64 x.c,.int .i64 x.d],.bool x.plus] w fun e w'=>e=.returned (.agg #[.int .i64 x.a,.int .i64 x.b,.int .i64 x.c,.int .i64 x.d,.bool x.plus])/\Below w.heap.size w w':=by
 go_enter Try.func122,Try.ntmps122
 go_wp2
 exact bodyPost_ret (v:=.agg #[.int .i64 x.a,.int .i64 x.b,.int .i64 x.c,.int .i64 x.d,.bool x.plus]) (by simp[results,Try.results122,go_sem]) rfl ⟨rfl,below2 _ _ _⟩
def intArr (l:List Int):Array Value:=(l.map fun x=>Value.int .i64 x).toArray
theorem intArr_set (l:List Int) (p:Nat) (z:Int):(intArr l).setIfInBounds p (.int .i64 z)=intArr (l.set p z):=by
 simp[intArr,List.map_set]
theorem intArr_get (l:List Int) (p:Nat) (h:p<l.length):(intArr l)[p]?=some (.int .i64 (l.getD p 0)):=by
 simp[intArr,List.getD,h]
end Go.Proofs.Ytagaajlbkfkaiaa

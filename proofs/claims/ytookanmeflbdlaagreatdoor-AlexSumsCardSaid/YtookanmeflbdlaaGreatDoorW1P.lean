/- Several texts of the proof, one behind the other. -/
import Derived.Test.YtookanmeflbdlaaGreatDoorBaseP
import Derived.Lib.Hide
/- The walk of ref.EndOf. -/
namespace Go.Proofs.YtookanmeflbdlaaGreatDoor
open Go.RowKit
theorem QZ6 {C:List Cr} {loops:Int} (hm:QQ6 C loops=true):QF3 C loops=true:=by
 cases hs:QF3 C loops with
 |true=>rfl
 |false=>rw[Xk4 hs]at hm;cases hm
end Go.Proofs.YtookanmeflbdlaaGreatDoor
/- A row that is taken from at its head and appended to at its end: in the world, and the step of append upon it. -/
namespace Go.Proofs.YtookanmeflbdlaaGreatDoor
open Go.RowKit
def QueAt (w:World) (base:Nat) (e:TypeId) (v:Value) (xs:List Value):Prop:=
 ∃ g off cap cur,v=.slice (some ⟨g,off,none⟩) xs.length cap/\base<=g/\w.heap[g]?=some (.cells cur e (0,0))/\xs.length<=cap/\cap<=maxLen/\off+cap<=cur.size/\(cur.toList.drop off).take xs.length=xs
theorem QueAt.kept {w w':World} {base:Nat} {e:TypeId} {v:Value} {xs:List Value} {row:Option Nat} (h:QueAt w base e v xs) (hg:w.grownBy w' row) (hne:v.ownBlock≠row):QueAt w' base e v xs:=by
 obtain⟨g,off,cap,cur,rfl,hb,hgg,rest⟩:=h
 refine⟨g,off,cap,cur,rfl,hb,?_,rest⟩
 rw[hg.block g (Array.getElem?_eq_some_iff.1 hgg).1 (by simpa[Value.ownBlock] using hne)]
 exact hgg
theorem QueAt.lt {w:World} {base:Nat} {e:TypeId} {v:Value} {xs:List Value} (h:QueAt w base e v xs):∀ k,v.ownBlock=some k->base<=k/\k<w.heap.size:=by
 intro k hk
 obtain⟨g,off,cap,cur,rfl,hb,hgg,rest⟩:=h
 have e:=Option.some.inj hk
 have e2:g=k:=e
 subst e2
 exact⟨hb,(Array.getElem?_eq_some_iff.1 hgg).1⟩
theorem QueAt.shape {w:World} {base:Nat} {e:TypeId} {v:Value} {xs:List Value} (h:QueAt w base e v xs):∃ g off cap,v=.slice (some ⟨g,off,none⟩) xs.length cap/\xs.length<=cap:=by
 obtain⟨g,off,cap,cur,rfl,_,_,h2,_⟩:=h
 exact⟨g,off,cap,rfl,h2⟩
theorem QueAt.size {w:World} {base g off n cap:Nat} {e:TypeId} {xs:List Value} (h:QueAt w base e (.slice (some ⟨g,off,none⟩) n cap) xs):n=xs.length/\n<=cap/\cap<=maxLen/\base<=g/\g<w.heap.size:=by
 obtain⟨g',off',cap',cur,ev,hb,hgg,h1,h2,_⟩:=h
 injection ev with e1 e2 e3
 injection e1 with e1
 injection e1 with e4 e5
 subst e4 e2 e3
 exact⟨rfl,h1,h2,hb,(Array.getElem?_eq_some_iff.1 hgg).1⟩
theorem QueAt.cell {w:World} {base g off n cap:Nat} {e:TypeId} {xs:List Value} (h:QueAt w base e (.slice (some ⟨g,off,none⟩) n cap) xs) (j:Nat) (u:Value) (hj:xs[j]?=some u):w.cell? ⟨g,off+j,none⟩=some u:=by
 obtain⟨g',off',cap',cur,ev,hb,hgg,h1,h2,h3,h4⟩:=h
 injection ev with e1 e2 e3
 injection e1 with e1
 injection e1 with e4 e5
 subst e4 e5
 rw[cell_of_row w g _ cur e (0,0) hgg]
 rw[<-h4,List.getElem?_take]at hj
 split at hj
 · rw[List.getElem?_drop]at hj
   simpa using hj
 · cases hj
theorem QueAt.tail {w:World} {base g off n cap:Nat} {e:TypeId} {x:Value} {xs:List Value} (h:QueAt w base e (.slice (some ⟨g,off,none⟩) n cap) (x::xs)):QueAt w base e (.slice (some ⟨g,off+1,none⟩) (n-1) (cap-1)) xs:=by
 obtain⟨g',off',cap',cur,ev,hb,hgg,h1,h2,h3,h4⟩:=h
 injection ev with e1 e2 e3
 injection e1 with e1
 injection e1 with e4 e5
 subst e4 e5 e3
 simp only[List.length_cons]at e2 h1 h4
 refine⟨g,off+1,cap-1,cur,by rw[e2];simp,hb,hgg,by omega,by omega,by omega,?_⟩
 have h5:((cur.toList.drop off).take (xs.length+1)).drop 1=xs:=by rw[h4];rfl
 rw[List.drop_take,List.drop_drop]at h5
 simpa using h5
theorem QueAt.tail1 {w:World} {base g off n:Nat} {e:TypeId} {x:Value} {xs:List Value} (h:QueAt w base e (.slice (some ⟨g,off,none⟩) n 1) (x::xs)):QueAt w base e (.slice (some ⟨g,off,none⟩) (n-1) 0) xs/\xs=[]:=by
 obtain⟨g',off',cap',cur,ev,hb,hgg,h1,h2,h3,h4⟩:=h
 injection ev with e1 e2 e3
 injection e1 with e1
 injection e1 with e4 e5
 subst e4 e5 e3
 simp only[List.length_cons]at e2 h1 h4
 have hx:xs=[]:=List.length_eq_zero_iff.1 (by omega)
 subst hx
 exact⟨⟨g,off,0,cur,by rw[e2];simp,hb,hgg,Nat.zero_le _,Nat.zero_le _,by omega,by simp⟩,rfl⟩
theorem QueAt.made {w:World} {base g n cap:Nat} {e:TypeId} {xs:List Value} (h:w.ownsRow base e 1 (.slice (some ⟨g,0,none⟩) n cap) n xs):QueAt w base e (.slice (some ⟨g,0,none⟩) n cap) xs:=by
 obtain⟨hl,h⟩:=h
 rcases h with⟨h,_⟩|⟨g',cap',cur,ev,hb,hgg,h1,h2,h3,h4⟩
 · cases h
 · injection ev with e1 e2 e3
   injection e1 with e1
   injection e1 with e4
   subst e4 e3
   rw[Nat.mul_one]at hl h3 h4
   exact⟨g,0,cap,cur,by rw[hl],hb,hgg,by omega,h2,by omega,by rw[hl];simpa using h4⟩
theorem XW4 {P : Program} (w : World) (base : Nat) (t ty e : TypeId) (i : TypeInfo) (z : Value) (bytes : Nat) (ht : P.underlying t = some (.slice e)) (hi : P.info? e = some i) (hz : i.zero = some z)
    (hsize:i.size=1) (hby:i.bytes=bytes) (hzs:z.cells.size=1)
    (v:Value) (xs:List Value) (hown:QueAt w base e v xs)
    (a:Addr) (c:Nat) (u:Value) (hnews:w.cell? a=some u) (h1:u.oneCell'=true)
    (h63:xs.length+1<=maxLen) (hbytes:(xs.length+1)*bytes<=140737488355328) (hbase:base<=w.heap.size):
    ∃ v' w',(Builtin.append_ #[t,t] ty #[v,.slice (some a) 1 c]).run P w=.ok v' w'/\QueAt w' base e v' (xs++[u])/\w.grownBy w' v.ownBlock:=by
 subst hby
 have hsmall:xs.length+1<=9223372036854775807:=by simp only[maxLen]at h63;omega
 have hl:[u].length=1*i.size:=by rw[hsize];rfl
 have hcells:∀ j v,[u][j]?=some v->w.cell? (a.add j)=some v:=by
  intro j v hj
  cases j with
  |zero=>
   have e:v=u:=by simpa using hj.symm
   subst e
   have ha:a.add 0=a:=by unfold Addr.add;split<;>simp_all
   rw[ha]
   exact hnews
  |succ j=>simp at hj
 obtain⟨g,off,cap,cur,rfl,hb,hgg,hnc,hcm,hcs,htake⟩:=hown
 by_cases hroom:xs.length+1<=cap
 · have hf:=run_firstCells_some (P:=P) w i.size 1 a 1 c [u] hl hcells
   have hst:=run_storeCells_at P g (off+xs.length) e [u] 0 cur w hgg (by simp;omega) (by simpa using h1)
   simp only[Nat.add_zero]at hst
   refine⟨.slice (some ⟨g,off,none⟩) (xs.length+1) cap,w.setRow g (cur.toList.take (off+xs.length)++[u]++cur.toList.drop (off+xs.length+[u].length)).toArray,?_,⟨g,off,cap,_,by simp,hb,setRow_heap w g cur _ e _ hgg,by simpa using hroom,hcm,?_,?_⟩,⟨rfl,rfl,rfl,by simp,fun k _ hk=>setRow_other w g k _ (fun e=>hk (by simp[Value.ownBlock,e]))⟩⟩
   · rw[hsize]at hf
     simp[Builtin.append_,run_underlying ht,sizeOf,typeInfo,hi,hsize,Builtin.lenOf,hroom,hf,Addr.add_lit]
     simp at hst
     simp[hst]
   · simp only[List.size_toArray,List.length_append,List.length_take,List.length_drop,Array.length_toList,List.length_cons,List.length_nil]
     omega
   · have h5:(cur.toList.take (off+xs.length)).drop off=xs:=by rw[List.drop_take,Nat.add_sub_cancel_left];exact htake
     simp only[List.append_assoc]
     rw[List.drop_append_of_le_length (by simp;omega),h5,<-List.append_assoc]
     exact List.take_left
 · have holds : ∀ j v, xs[j]? = some v → w.cell? ((⟨g, off, none⟩ : Addr).add j) = some v := fun j v hj => by
     have hadd:(⟨g,off,none⟩:Addr).add j=⟨g,off+j,none⟩:=by unfold Addr.add;split<;>simp_all
     rw[hadd]
     exact QueAt.cell (⟨g,off,cap,cur,rfl,hb,hgg,hnc,hcm,hcs,htake⟩:QueAt w base e (.slice (some ⟨g,off,none⟩) xs.length cap) xs) j v hj
   have hr:=run_append_grow (P:=P) w t ty e i z ht hi hz ⟨g,off,none⟩ xs.length cap xs (by rw[hsize,Nat.mul_one]) holds a 1 c [u] hl hcells (by omega) (by omega) (growslice_fits (by omega) hbytes)
   have hge:=grownCap_ge w (xs.length+1) cap e
   refine⟨_,_,hr,⟨w.heap.size,0,_,_,by simp,hbase,heap_alloc_new w.drew _,by simpa using hge,grownCap_le_maxLen w (xs.length+1) cap e h63,?_,?_⟩,⟨rfl,rfl,rfl,by simp,fun k hk _=>Array.getElem?_push_lt hk▸(Array.getElem?_eq_getElem hk).symm⟩⟩
   · simp only[Array.size_append,List.size_toArray,size_zeroCells,hzs,List.length_cons,List.length_nil]
     omega
   · simp only[Array.toList_append,List.drop_zero]
     exact List.take_left
theorem QH1 {P : Program} (w : World) {ops : Array Oper} {rest : List Oper} {o : Oper} {a : Act} {Q : Exit → Act → World → Prop} (hgd : o.guard = none) (s x : Operand) (t : TypeId)
    (ho:o.op=.call { callee:=.builtin .append,args:=#[s,x],argTypes:=#[t,t] })
    (base:Nat) (e:TypeId) (i:TypeInfo) (z:Value) (bytes:Nat) (ht:P.underlying t=some (.slice e)) (hi:P.info? e=some i) (hz:i.zero=some z)
    (hsize:i.size=1) (hby:i.bytes=bytes) (hzs:z.cells.size=1)
    (v:Value) (xs:List Value) (hs:a.eval s=v) (hown:QueAt w base e v xs)
    (ad:Addr) (c:Nat) (u:Value) (hx:a.eval x=.slice (some ad) 1 c) (hnews:w.cell? ad=some u) (h1:u.oneCell'=true)
    (h63:xs.length+1<=maxLen) (hbytes:(xs.length+1)*bytes<=140737488355328) (hbase:base<=w.heap.size)
    (h:∀ v' w',QueAt w' base e v' (xs++[u])->w.grownBy w' v.ownBlock->wpList P ops Q rest (a.put o.dst v') w'):wpList P ops Q (o::rest) a w:=by
 refine wpList_plain hgd fun _ hK=>?_
 obtain⟨v',w',hr,h2,h3⟩:=XW4 (P:=P) w base t o.type e i z bytes ht hi hz hsize hby hzs v xs hown ad c u hnews h1 h63 hbytes hbase
 unfold Oper.wp execOp
 simp only[ho,resolve,invoke,builtin,Sem.run_bind,Sem.run_pure,Result.andThen_ok,List.map_toArray,List.map_cons,List.map_nil,hs,hx,hr]
 exact hK _ _ (h v' w' h2 h3)
end Go.Proofs.YtookanmeflbdlaaGreatDoor
/- Plain mathematics: overpasses; labels that are merged edge by edge come to the least of what is joined. -/
namespace Go.Proofs.YtookanmeflbdlaaGreatDoor
def mer (W:List Nat) (x y:Nat):List Nat:=W.map fun z=>if z=max (W.getD x 0) (W.getD y 0) then min (W.getD x 0) (W.getD y 0) else z
theorem XF4 (W:List Nat) (x y:Nat):(mer W x y).length=W.length:=by simp[mer]
theorem QA7 (W:List Nat) (x y v:Nat) (hv:v<W.length):(mer W x y).getD v 0=if W.getD v 0=max (W.getD x 0) (W.getD y 0) then min (W.getD x 0) (W.getD y 0) else W.getD v 0:=by
 simp[mer,List.getD_eq_getElem?_getD,hv]
theorem XZ2 {F:List (Nat×Nat)} {n:Nat} {W:List Nat} (h:Least F n W) (x y:Nat) (hx:x<n) (hy:y<n) (hF:∀ e,e∈F->e.1<n/\e.2<n):Least (F++[(x,y)]) n (mer W x y):=by
 obtain⟨hl,h2⟩:=h
 have up:∀ {u v:Nat},Con F u v->Con (F++[(x,y)]) u v:=fun hc S hS hu=>hc S (fun e he=>hS e (List.mem_append_left _ he)) hu
 have hxy:Con (F++[(x,y)]) x y:=Con.edge (List.mem_append_right _ (List.Mem.head _))
 have lx:=up (h2 x hx).1
 have ly:=up (h2 y hy).1
 have hWW:Con (F++[(x,y)]) (W.getD x 0) (W.getD y 0):=lx.symm.trans (hxy.trans ly)
 have hmm:Con (F++[(x,y)]) (max (W.getD x 0) (W.getD y 0)) (min (W.getD x 0) (W.getD y 0)):=by
  rcases Nat.le_total (W.getD x 0) (W.getD y 0) with hle|hle
  · rw[Nat.max_eq_right hle,Nat.min_eq_left hle];exact hWW.symm
  · rw[Nat.max_eq_left hle,Nat.min_eq_right hle];exact hWW
 have hcon:∀ v,v<n->Con (F++[(x,y)]) v ((mer W x y).getD v 0):=fun v hv=>by
  rw[QA7 W x y v (by omega)]
  split
  · rename_i he
    have:=up (h2 v hv).1
    rw[he]at this
    exact this.trans hmm
  · exact up (h2 v hv).1
 have hle:∀ v,v<n->(mer W x y).getD v 0<=v:=fun v hv=>by
  have h3:=(h2 v hv).2 v (Con.refl F v)
  rw[QA7 W x y v (by omega)]
  split
  · rename_i he;omega
  · exact h3
 refine⟨by rw[XF4];exact hl,fun v hv=>⟨hcon v hv,fun u hu=>?_⟩⟩
 have hcl:Closed (F++[(x,y)]) (fun z=>z<n/\(mer W x y).getD z 0=(mer W x y).getD v 0):=fun e he=>by
  rcases List.mem_append.1 he with h4|h4
  · obtain⟨e1,e2⟩:=hF e h4
    have hs:W.getD e.1 0=W.getD e.2 0:=by
     have c:Con F e.1 e.2:=Con.edge (by cases e;exact h4)
     exact Nat.le_antisymm ((h2 _ e1).2 _ (c.trans (h2 _ e2).1)) ((h2 _ e2).2 _ (c.symm.trans (h2 _ e1).1))
    have hm:(mer W x y).getD e.1 0=(mer W x y).getD e.2 0:=by
     rw[QA7 W x y _ (by omega),QA7 W x y _ (by omega),hs]
    show(e.1<n/\(mer W x y).getD e.1 0=_)↔(e.2<n/\(mer W x y).getD e.2 0=_)
    rw[hm];exact⟨fun q=>⟨e2,q.2⟩,fun q=>⟨e1,q.2⟩⟩
  · have:e=(x,y):=by simpa using h4
    subst this
    have hm:(mer W x y).getD x 0=(mer W x y).getD y 0:=by
     rw[QA7 W x y _ (by omega),QA7 W x y _ (by omega)]
     split<;>split<;>omega
    show(x<n/\(mer W x y).getD x 0=_)↔(y<n/\(mer W x y).getD y 0=_)
    rw[hm];exact⟨fun q=>⟨hy,q.2⟩,fun q=>⟨hx,q.2⟩⟩
 obtain⟨a1,a2⟩:=hu _ hcl ⟨hv,rfl⟩
 rw[<-a2]
 exact hle u a1
def QC0 (W:List Nat):List (Nat×Nat)->List Nat
 |[]=>W
 |e::E=>QC0 (mer W e.1 e.2) E
theorem ZV7 (W:List Nat) (E F:List (Nat×Nat)):QC0 W (E++F)=QC0 (QC0 W E) F:=by
 induction E generalizing W with
 |nil=>rfl
 |cons e E ih=>exact ih _
theorem XZ5 (n:Nat):Least [] n (List.range n):=by
 refine⟨by simp,fun v hv=>?_⟩
 have e:(List.range n).getD v 0=v:=by simp[List.getD_eq_getElem?_getD,hv]
 rw[e]
 exact ⟨Con.refl _ v, fun u hu => by
  have:=hu (fun z=>z=v) (fun e he=>by cases he) rfl
  omega⟩
theorem XY8 (n:Nat):∀ (E F:List (Nat×Nat)) (W:List Nat),(∀ e,e∈F++E->e.1<n/\e.2<n)->Least F n W->Least (F++E) n (QC0 W E):=by
 intro E
 induction E with
 |nil=>intro F W _ h;simpa[QC0] using h
 |cons e E ih=>
  intro F W hE h
  obtain⟨e1,e2⟩:=hE e (by simp)
  have h':=XZ2 h e.1 e.2 e1 e2 (fun f hf=>hE f (List.mem_append_left _ hf))
  have:=ih (F++[(e.1,e.2)]) _ (fun f hf=>hE f (by simpa using hf)) h'
  simpa[QC0] using this
def ovE (C:List Cr):List (Nat×Nat):=C.map fun c=>(c.b.toNat,c.d.toNat)
def QJ6 (C:List Cr):List Nat:=QC0 (List.range (2*C.length+1)) (ovE C)
def QQ7 (L:List Nat):Nat->Nat
 |0=>0
 |k+1=>QQ7 L k+(if 1<=k/\L.getD k 0=k then 1 else 0)
def ovM (C:List Cr) (a:Nat):Nat:=QQ7 (QJ6 C) ((QJ6 C).getD a 0)
def ovC (C:List Cr):Nat:=QQ7 (QJ6 C) (2*C.length+1)
theorem QB9 (L:List Nat) (i j:Nat) (h:i<=j):QQ7 L i<=QQ7 L j:=by
 induction j with
 | zero => obtain rfl : i = 0 := by omega
           exact Nat.le_refl _
 |succ j ih=>
  rcases Nat.lt_or_ge j i with h1|h1
  · obtain rfl:i=j+1:=by omega
    exact Nat.le_refl _
  · exact Nat.le_trans (ih h1) (by simp[QQ7])
theorem Qw0 (L:List Nat) (i:Nat):QQ7 L i<=i:=by
 induction i with
 |zero=>exact Nat.le_refl _
 |succ i ih=>simp only[QQ7];split<;>omega
theorem QC4 {C:List Cr} {loops:Int} (hm:QQ6 C loops=true):∀ e,e∈ovE C->(1<=e.1/\e.1<2*C.length+1)/\(1<=e.2/\e.2<2*C.length+1):=fun e he=>by
 obtain⟨c,hc,rfl⟩:=List.mem_map.1 he
 obtain⟨i,hi,rfl⟩:=List.getElem_of_mem hc
 have h1:=QK9 hm i 1 hi (by omega)
 have h3:=QK9 hm i 3 hi (by omega)
 have e:C.getD i Cr.none=C[i]:=by simp[List.getD_eq_getElem?_getD,hi]
 have a1:(C.getD i Cr.none).arc 1=C[i].b:=by rw[e];rfl
 have a3:(C.getD i Cr.none).arc 3=C[i].d:=by rw[e];rfl
 have g1:=h1.1
 have g2:=h1.2.1
 have g3:=h3.1
 have g4:=h3.2.1
 rw[a1]at g1 g2
 rw[a3]at g3 g4
 refine⟨⟨?_,?_⟩,?_,?_⟩<;>dsimp only<;>omega
theorem Qz7 {C:List Cr} {loops:Int} (hm:QQ6 C loops=true):∀ e,e∈ovE C->e.1<2*C.length+1/\e.2<2*C.length+1:=fun e he=>⟨(QC4 hm e he).1.2,(QC4 hm e he).2.2⟩
theorem QW5 {C:List Cr} (hE:∀ e,e∈ovE C->e.1<2*C.length+1/\e.2<2*C.length+1):Least (ovE C) (2*C.length+1) (QJ6 C):=by
 have:=XY8 (2*C.length+1) (ovE C) [] (List.range (2*C.length+1)) (fun e he=>hE e (by simpa using he)) (XZ5 _)
 simpa[QJ6] using this
theorem Least.root {E:List (Nat×Nat)} {n:Nat} {W:List Nat} (h:Least E n W) {v:Nat} (hv:v<n):W.getD (W.getD v 0) 0=W.getD v 0:=(h.same (h.lt hv) hv).2 (h.2 v hv).1.symm
theorem Least.le {E:List (Nat×Nat)} {n:Nat} {W:List Nat} (h:Least E n W) {v:Nat} (hv:v<n):W.getD v 0<=v:=(h.2 v hv).2 v (Con.refl E v)
theorem Least.pos {E:List (Nat×Nat)} {n:Nat} {W:List Nat} (h:Least E n W) (hE:∀ e,e∈E->1<=e.1/\1<=e.2) {v:Nat} (hv:v<n) (h1:1<=v):1<=W.getD v 0:=by
 have:=(h.2 v hv).1 (fun z=>1<=z) (fun e he=>by simp[hE e he]) h1
 exact this
end Go.Proofs.YtookanmeflbdlaaGreatDoor
/- Plain mathematics: edges and the edges that cross them; where Euler's number is that of spheres, a set of edges that comes to each corner an even number of times is the boundary of a set of faces. -/
namespace Go.Proofs.YtookanmeflbdlaaGreatDoor
def xs (g:Nat->Bool):Nat->Bool
 |0=>false
 |m+1=>xor (xs g m) (g m)
theorem QH7 {g h:Nat->Bool} {m:Nat} (e:∀ i,i<m->g i=h i):xs g m=xs h m:=by
 induction m with
 |zero=>rfl
 |succ m ih=>simp only[xs];rw[ih fun i hi=>e i (by omega),e m (by omega)]
theorem Qh8 {g:Nat->Bool} {m:Nat} (e:∀ i,i<m->g i=false):xs g m=false:=by
 induction m with
 |zero=>rfl
 |succ m ih=>simp only[xs];rw[ih fun i hi=>e i (by omega),e m (by omega)];rfl
theorem KA6 (g h:Nat->Bool) (m:Nat):xs (fun i=>xor (g i) (h i)) m=xor (xs g m) (xs h m):=by
 induction m with
 |zero=>rfl
 |succ m ih=>
  simp only[xs]
  rw[ih]
  cases xs g m<;>cases xs h m<;>cases g m<;>cases h m<;>rfl
theorem Zz0 {g:Nat->Bool} {m i:Nat} (hi:i<m) (hg:g i=true) (lo:∀ j,j<i->g j=false) (hi2:∀ j,i<j->j<m->g j=false):xs g m=true:=by
 induction m with
 |zero=>omega
 |succ m ih=>
  simp only[xs]
  by_cases e:i=m
  · subst e
    rw[Qh8 lo,hg];rfl
  · rw[ih (by omega) fun j h1 h2=>hi2 j h1 (by omega),hi2 m (by omega) (by omega)];rfl
def Xu2 (g:Nat->Bool):Nat->Nat
 |0=>0
 |m+1=>Xu2 g m+(if g m=true then 1 else 0)
theorem KG8 (g:Nat->Bool) (m:Nat):Xu2 g m+Xu2 (fun i=>!g i) m=m:=by
 induction m with
 |zero=>rfl
 |succ m ih=>
  simp only[Xu2]
  by_cases h:g m=true
  · simp[h];omega
  · simp[h];omega
theorem Kf7 {g h:Nat->Bool} {m:Nat} (e:∀ i,i<m->g i=true->h i=true):Xu2 g m<=Xu2 h m:=by
 induction m with
 |zero=>exact Nat.le_refl _
 |succ m ih=>
  have h1:=ih fun i hi=>e i (by omega)
  simp only[Xu2]
  by_cases hg:g m=true
  · rw[if_pos hg,if_pos (e m (by omega) hg)];omega
  · rw[if_neg hg];omega
theorem KX9 {g h:Nat->Bool} {m:Nat} (e:∀ i,i<m->g i=true->h i=true) (hc:Xu2 h m<=Xu2 g m):∀ i,i<m->h i=true->g i=true:=by
 induction m with
 |zero=>intro i hi;omega
 |succ m ih=>
  have h1:=Kf7 (m:=m) fun i hi=>e i (by omega)
  simp only[Xu2]at hc
  intro i hi hh
  by_cases hg:g m=true
  · have h2:=e m (by omega) hg
    rw[if_pos hg,if_pos h2]at hc
    by_cases ei:i=m
    · rw[ei];exact hg
    · exact ih (fun i hi=>e i (by omega)) (by omega) i (by omega) hh
  · rw[if_neg hg]at hc
    by_cases h2:h m=true
    · rw[if_pos h2]at hc;omega
    · rw[if_neg h2]at hc
      by_cases ei:i=m
      · rw[ei]at hh;exact absurd hh h2
      · exact ih (fun i hi=>e i (by omega)) (by omega) i (by omega) hh
def Qk3 (E:Nat->Nat×Nat) (K:Nat->Bool):Nat->List (Nat×Nat)
 |0=>[]
 |m+1=>Qk3 E K m++(if K m=true then [E m] else [])
theorem incl_mem {E:Nat->Nat×Nat} {K:Nat->Bool} {m:Nat} {e:Nat×Nat}:e∈Qk3 E K m↔∃ i,i<m/\K i=true/\e=E i:=by
 induction m with
 |zero=>simp[Qk3]
 |succ m ih=>
  simp only[Qk3,List.mem_append,ih]
  constructor
  · rintro(⟨i,h1,h2,h3⟩|h)
    · exact⟨i,by omega,h2,h3⟩
    · by_cases hk:K m=true
      · rw[if_pos hk]at h
        exact⟨m,by omega,hk,List.mem_singleton.1 h⟩
      · rw[if_neg hk]at h;cases h
  · rintro⟨i,h1,h2,h3⟩
    by_cases e2:i=m
    · subst e2
      exact Or.inr (by rw[if_pos h2,h3];exact List.mem_singleton.2 rfl)
    · exact Or.inl ⟨i,by omega,h2,h3⟩
def cls (E:Nat->Nat×Nat) (K:Nat->Bool) (n m:Nat):List Nat:=QC0 (List.range n) (Qk3 E K m)
theorem QW9 {E:Nat->Nat×Nat} {K:Nat->Bool} {n m:Nat} (hE:∀ i,i<m->(E i).1<n/\(E i).2<n):Least (Qk3 E K m) n (cls E K n m):=by
 have h := XY8 n (Qk3 E K m) [] (List.range n) (fun e he => by
  obtain⟨i,h1,-,rfl⟩:=incl_mem.1 (by simpa using he)
  exact hE i h1) (XZ5 n)
 simpa[cls] using h
theorem Qh0 {E:Nat->Nat×Nat} {K:Nat->Bool} {n m:Nat} (h:K m=true):cls E K n (m+1)=mer (cls E K n m) (E m).1 (E m).2:=by
 unfold cls
 simp only[Qk3]
 rw[if_pos h,ZV7]
 rfl
theorem ZU3 {E:Nat->Nat×Nat} {K:Nat->Bool} {n m:Nat} (h:¬ K m=true):cls E K n (m+1)=cls E K n m:=by
 unfold cls
 simp only[Qk3]
 rw[if_neg h,List.append_nil]
theorem Qg4 {W:List Nat} {x y:Nat} (h:W.getD x 0=W.getD y 0):mer W x y=W:=by
 unfold mer
 rw[h]
 have:∀ z:Nat,(if z=max (W.getD y 0) (W.getD y 0) then min (W.getD y 0) (W.getD y 0) else z)=z:=fun z=>by
  split<;>omega
 simp only[this]
 exact List.map_id' W
def rt (W:List Nat):Nat->Nat
 |0=>0
 |k+1=>rt W k+(if W.getD k 0=k then 1 else 0)
theorem JK2 (n:Nat):∀ k,k<=n->rt (List.range n) k=k:=by
 intro k
 induction k with
 |zero=>intro _;rfl
 |succ k ih=>
  intro hk
  have e:(List.range n).getD k 0=k:=by simp[List.getD_eq_getElem?_getD,show k<n by omega]
  simp only[rt]
  rw[ih (by omega),if_pos e]
theorem JK1 {Ed:List (Nat×Nat)} {n:Nat} {W:List Nat} (h:Least Ed n W) {x y:Nat} (hx:x<n) (hy:y<n) (hne:W.getD x 0≠W.getD y 0):∀ k,k<=n->rt (mer W x y) k+(if max (W.getD x 0) (W.getD y 0)<k then 1 else 0)=rt W k:=by
 have rx:=h.root hx
 have ry:=h.root hy
 intro k
 induction k with
 |zero=>intro _;simp[rt]
 |succ k ih=>
  intro hk
  have i1:=ih (by omega)
  have hm:=QA7 W x y k (by rw[h.1];omega)
  simp only[rt]
  by_cases he:k=max (W.getD x 0) (W.getD y 0)
  · have hroot : W.getD k 0 = k := by
      rcases Nat.le_total (W.getD x 0) (W.getD y 0) with hle|hle
      · have:k=W.getD y 0:=by omega
        rw[this];exact ry
      · have:k=W.getD x 0:=by omega
        rw[this];exact rx
    rw[if_pos (by rw[hroot];exact he)]at hm
    rw[if_neg (by omega)]at i1
    rw[if_pos hroot,if_neg (by rw[hm];omega),if_pos (by omega)]
    omega
  · by_cases hr:W.getD k 0=k
    · rw[if_neg (by rw[hr];exact he)]at hm
      rw[if_pos hr,if_pos (by rw[hm];exact hr)]
      by_cases hq:max (W.getD x 0) (W.getD y 0)<k
      · rw[if_pos hq]at i1
        rw[if_pos (by omega)]
        omega
      · rw[if_neg hq]at i1
        rw[if_neg (by omega)]
        omega
    · have h2 : ¬ (mer W x y).getD k 0 = k := by
        rw[hm]
        have hle:=h.le (v:=k) (by omega)
        have hlx:=h.lt hx
        split
        · rename_i q
          intro e
          rcases Nat.le_total (W.getD x 0) (W.getD y 0) with hle2|hle2
          · have e1:k=W.getD x 0:=by omega
            exact hr (by rw[e1];exact rx)
          · have e1:k=W.getD y 0:=by omega
            exact hr (by rw[e1];exact ry)
        · exact hr
      rw[if_neg hr,if_neg h2]
      by_cases hq:max (W.getD x 0) (W.getD y 0)<k
      · rw[if_pos hq]at i1
        rw[if_pos (by omega)]
        omega
      · rw[if_neg hq]at i1
        rw[if_neg (by omega)]
        omega
def XC9 (E:Nat->Nat×Nat) (K:Nat->Bool) (n i:Nat):Bool:=K i&&decide ((cls E K n i).getD (E i).1 0≠(cls E K n i).getD (E i).2 0)
theorem Zk5 {E:Nat->Nat×Nat} {K:Nat->Bool} {n m:Nat} (hE:∀ i,i<m->(E i).1<n/\(E i).2<n):rt (cls E K n m) n+Xu2 (XC9 E K n) m=n:=by
 induction m with
 |zero=>simp[cls,Qk3,QC0,Xu2,JK2 n n (Nat.le_refl _)]
 |succ m ih=>
  have h1:=ih fun i hi=>hE i (by omega)
  have hL:=QW9 (E:=E) (K:=K) (n:=n) (m:=m) fun i hi=>hE i (by omega)
  simp only[Xu2]
  by_cases hk:K m=true
  · rw[Qh0 hk]
    by_cases hne:(cls E K n m).getD (E m).1 0=(cls E K n m).getD (E m).2 0
    · rw[Qg4 hne,if_neg (by simp[XC9,hne,-List.getD_eq_getElem?_getD])]
      omega
    · have h2:=JK1 hL (hE m (by omega)).1 (hE m (by omega)).2 hne n (Nat.le_refl _)
      rw[if_pos (by have:=hL.lt (hE m (by omega)).1;have:=hL.lt (hE m (by omega)).2;omega)]at h2
      rw[if_pos (by simp[XC9,hk,hne,-List.getD_eq_getElem?_getD])]
      omega
  · rw[ZU3 hk,if_neg (by simp[XC9,hk])]
    omega
theorem XJ7 {E : Nat → Nat × Nat} {K B : Nat → Bool} {n m : Nat} (hE : ∀ i, i < m → (E i).1 < n ∧ (E i).2 < n) (hF : ∀ i, i < m → K i = true → XC9 E K n i = true) (hB : ∀ i, i < m → B i = true → K i = true)
    (hev:∀ S:Nat->Bool,xs (fun i=>B i&&xor (S (E i).1) (S (E i).2)) m=false):∀ i,i<m->B i=false:=by
 have key:∀ d i,i<m->m<=i+d->B i=false:=by
  intro d
  induction d with
  |zero=>intro i h1 h2;omega
  |succ d ih=>
   intro i h1 h2
   by_cases hb:B i=true
   · exfalso
     have hn:=hF i h1 (hB i h1 hb)
     have hL:=QW9 (E:=E) (K:=K) (n:=n) (m:=i) fun j hj=>hE j (by omega)
     have h3 := Zz0 (g := fun j => B j && xor (decide ((cls E K n i).getD (E j).1 0 = (cls E K n i).getD (E i).1 0)) (decide ((cls E K n i).getD (E j).2 0 = (cls E K n i).getD (E i).1 0))) h1 (by
      simp only[XC9,Bool.and_eq_true,decide_eq_true_eq]at hn
      have:¬ (cls E K n i).getD (E i).2 0=(cls E K n i).getD (E i).1 0:=fun e=>hn.2 e.symm
      simp[hb,this,-List.getD_eq_getElem?_getD]) (fun j hj=>by
      by_cases hbj:B j=true
      · have hs:(cls E K n i).getD (E j).1 0=(cls E K n i).getD (E j).2 0:=(hL.same (hE j (by omega)).1 (hE j (by omega)).2).2 (Con.edge (incl_mem.2 ⟨j,hj,hB j (by omega) hbj,rfl⟩))
        simp only[hs,Bool.xor_self,Bool.and_false]
      · simp[hbj]) (fun j h4 h5=>by
      rw[ih j h5 (by omega)];rfl)
     have h4:=hev fun v=>decide ((cls E K n i).getD v 0=(cls E K n i).getD (E i).1 0)
     rw[h3]at h4
     cases h4
   · simpa using hb
 exact fun i hi=>key m i hi (by omega)
theorem JJ7 {E:Nat->Nat×Nat} {n:Nat} {K:Nat->Bool} (hK:∀ i,K i=XC9 E (fun _=>true) n i):∀ m,cls E K n m=cls E (fun _=>true) n m:=by
 intro m
 induction m with
 |zero=>rfl
 |succ m ih=>
  rw[Qh0 (K:=fun _=>true) rfl]
  by_cases hk:K m=true
  · rw[Qh0 hk,ih]
  · rw[ZU3 hk,ih]
    rw[hK m]at hk
    simp only[XC9,Bool.true_and,decide_eq_true_eq,Classical.not_not]at hk
    exact(Qg4 hk).symm
theorem Kf3 {E:Nat->Nat×Nat} {K:Nat->Bool} {m:Nat} (h:∀ i,i<m->Con (Qk3 E K m) (E i).1 (E i).2) {x y:Nat}:Con (Qk3 E K m) x y↔Con (Qk3 E (fun _=>true) m) x y:=by
 constructor
 · intro hc S hS hx
   exact hc S (fun e he => hS e (by
    obtain⟨i,h1,-,h3⟩:=incl_mem.1 he
    exact incl_mem.2 ⟨i,h1,rfl,h3⟩)) hx
 · intro hc S hS hx
   refine hc S (fun e he=>?_) hx
   obtain⟨i,h1,-,rfl⟩:=incl_mem.1 he
   exact⟨fun q=>h i h1 S hS q,fun q=>(h i h1).symm S hS q⟩
theorem Xf6 {E D : Nat → Nat × Nat} {m n f : Nat} (hE : ∀ i, i < m → (E i).1 < n ∧ (E i).2 < n) (hD : ∀ i, i < m → (D i).1 < f ∧ (D i).2 < f)
    (hX:∀ S g:Nat->Bool,xs (fun i=>xor (S (E i).1) (S (E i).2)&&xor (g (D i).1) (g (D i).2)) m=false)
    (hEu:m+rt (cls E (fun _=>true) n m) n+rt (cls D (fun _=>true) f m) f<=n+f)
    (A:Nat->Bool) (hA:∀ S:Nat->Bool,xs (fun i=>A i&&xor (S (E i).1) (S (E i).2)) m=false):
    ∃ g:Nat->Bool,∀ i,i<m->A i=xor (g (D i).1) (g (D i).2):=by
 obtain⟨T,hT⟩:∃ T:Nat->Bool,∀ i,T i=XC9 D (fun _=>true) f i:=⟨_,fun _=>rfl⟩
 have hg:=JJ7 hT
 have hTF:∀ i,i<m->T i=true->XC9 D T f i=true:=fun i _ h=>by
  have h2:=h
  rw[hT i]at h2
  simp only[XC9,Bool.true_and]at h2
  simp only[XC9,h,Bool.true_and]
  rw[hg i]
  exact h2
 -- the faces along the forest
 have step:∀ k,k<=m->∃ g:Nat->Bool,∀ i,i<k->T i=true->A i=xor (g (D i).1) (g (D i).2):=by
  intro k
  induction k with
  |zero=>intro _;exact⟨fun _=>false,fun i hi=>by omega⟩
  |succ k ih=>
   intro hk
   obtain⟨g,hgk⟩:=ih (by omega)
   by_cases hq:T k=true/\A k≠xor (g (D k).1) (g (D k).2)
   · have hn:=hTF k (by omega) hq.1
     simp only[XC9,hq.1,Bool.true_and,decide_eq_true_eq]at hn
     have hL:=QW9 (E:=D) (K:=T) (n:=f) (m:=k) fun j hj=>hD j (by omega)
     refine⟨fun v=>xor (g v) (decide ((cls D T f k).getD v 0=(cls D T f k).getD (D k).2 0)),fun i hi ht=>?_⟩
     by_cases e:i=k
     · subst e
       have h2:=hq.2
       simp only[hn,decide_false,decide_true]
       revert h2
       cases A i<;>cases g (D i).1<;>cases g (D i).2<;>simp
     · have hs:(cls D T f k).getD (D i).1 0=(cls D T f k).getD (D i).2 0:=(hL.same (hD i (by omega)).1 (hD i (by omega)).2).2 (Con.edge (incl_mem.2 ⟨i,by omega,ht,rfl⟩))
       have h1:=hgk i (by omega) ht
       simp only[hs]
       rw[h1]
       cases g (D i).1<;>cases g (D i).2<;>cases (decide ((cls D T f k).getD (D i).2 0=(cls D T f k).getD (D k).2 0))<;>rfl
   · refine⟨g,fun i hi ht=>?_⟩
     by_cases e:i=k
     · subst e
       exact Classical.byContradiction fun h=>hq ⟨ht,h⟩
     · exact hgk i (by omega) ht
 obtain⟨g,hgm⟩:=step m (Nat.le_refl _)
 refine⟨g,?_⟩
 -- the others join all corners
 have hcon:∀ i,i<m->(cls E (fun j=>!T j) n m).getD (E i).1 0=(cls E (fun j=>!T j) n m).getD (E i).2 0:=by
  intro i hi
  have hL:=QW9 (E:=E) (K:=fun j=>!T j) (n:=n) (m:=m) hE
  refine Classical.byContradiction fun hne=>?_
  have h1 := XJ7 (E := D) (K := T) (B := fun j => xor (decide ((cls E (fun j => !T j) n m).getD (E j).1 0 = (cls E (fun j => !T j) n m).getD (E i).1 0)) (decide ((cls E (fun j => !T j) n m).getD (E j).2 0 = (cls E (fun j => !T j) n m).getD (E i).1 0))) hD hTF (fun j hj hb => by
   refine Classical.byContradiction fun ht=>?_
   have hs:(cls E (fun j=>!T j) n m).getD (E j).1 0=(cls E (fun j=>!T j) n m).getD (E j).2 0:=(hL.same (hE j hj).1 (hE j hj).2).2 (Con.edge (incl_mem.2 ⟨j,hj,by simpa using ht,rfl⟩))
   simp only[hs,Bool.xor_self]at hb
   cases hb) (fun S=>hX (fun v=>decide ((cls E (fun j=>!T j) n m).getD v 0=(cls E (fun j=>!T j) n m).getD (E i).1 0)) S) i hi
  have:¬ (cls E (fun j=>!T j) n m).getD (E i).2 0=(cls E (fun j=>!T j) n m).getD (E i).1 0:=fun e=>hne e.symm
  simp[this,-List.getD_eq_getElem?_getD]at h1
 have hLK:=QW9 (E:=E) (K:=fun j=>!T j) (n:=n) (m:=m) hE
 have hLA:=QW9 (E:=E) (K:=fun _=>true) (n:=n) (m:=m) hE
 have heq:cls E (fun j=>!T j) n m=cls E (fun _=>true) n m:=by
  have hc:∀ {x y:Nat},Con (Qk3 E (fun j=>!T j) m) x y↔Con (Qk3 E (fun _=>true) m) x y:=fun {x y}=>Kf3 fun i hi=>(hLK.same (hE i hi).1 (hE i hi).2).1 (hcon i hi)
  refine Least.eq (E:=Qk3 E (fun _=>true) m) (n:=n) ⟨hLK.1,fun v hv=>⟨hc.1 (hLK.2 v hv).1,fun u hu=>(hLK.2 v hv).2 u (hc.2 hu)⟩⟩ hLA
 -- so they are a forest
 have c1:=Zk5 (E:=E) (K:=fun j=>!T j) (n:=n) (m:=m) hE
 have c2:=Zk5 (E:=D) (K:=fun _=>true) (n:=f) (m:=m) hD
 have c3:=KG8 T m
 have c4:Xu2 (XC9 D (fun _=>true) f) m=Xu2 T m:=by
  have:XC9 D (fun _=>true) f=T:=funext fun i=>(hT i).symm
  rw[this]
 rw[heq]at c1
 have hKF : ∀ i, i < m → (!T i) = true → XC9 E (fun j => !T j) n i = true := KX9 (fun i _ h => by
  simp only[XC9,Bool.and_eq_true]at h
  exact h.1) (by omega)
 have hz := XJ7 (E := E) (K := fun j => !T j) (B := fun i => xor (A i) (xor (g (D i).1) (g (D i).2))) hE hKF (fun i hi hb => by
  by_cases ht:T i=true
  · rw[hgm i hi ht]at hb
    simp at hb
  · simpa using ht) (fun S=>by
  have h1:=hA S
  have h2:=hX S g
  have h3:=KA6 (fun i=>A i&&xor (S (E i).1) (S (E i).2)) (fun i=>xor (S (E i).1) (S (E i).2)&&xor (g (D i).1) (g (D i).2)) m
  rw[h1,h2]at h3
  rw[<-show xor false false=false from rfl,<-h3]
  refine QH7 fun i _=>?_
  cases A i<;>cases g (D i).1<;>cases g (D i).2<;>cases S (E i).1<;>cases S (E i).2<;>rfl)
 intro i hi
 have:=hz i hi
 revert this
 cases A i<;>cases g (D i).1<;>cases g (D i).2<;>simp
end Go.Proofs.YtookanmeflbdlaaGreatDoor
/- Plain mathematics: labels merged place by place. -/
namespace Go.Proofs.YtookanmeflbdlaaGreatDoor
open Go.RowKit
theorem XF8 {T G:Prop} (h:Hid T->G) (hT:T):G:=h hT
def Qj2 (W:List Nat) (x y k:Nat):List Nat:=(List.range W.length).map fun v=>if v<k then(mer W x y).getD v 0 else W.getD v 0
theorem QW0 (W:List Nat) (x y k:Nat):(Qj2 W x y k).length=W.length:=by simp[Qj2]
theorem QA3 (W:List Nat) (x y k v:Nat) (hv:v<W.length):(Qj2 W x y k).getD v 0=if v<k then(mer W x y).getD v 0 else W.getD v 0:=by simp[Qj2,List.getD_eq_getElem?_getD,hv]
theorem Qv1 {l m:List Nat} (h:l.length=m.length) (g:∀ v,v<l.length->l.getD v 0=m.getD v 0):l=m:=by
 refine List.ext_getElem h fun i h1 h2=>?_
 have:=g i h1
 simpa[List.getD_eq_getElem?_getD,h1,h2] using this
theorem ZG6 (W:List Nat) (x y:Nat):Qj2 W x y 0=W:=Qv1 (QW0 _ _ _ _) fun v hv=>by
 rw[QW0]at hv;rw[QA3 _ _ _ _ _ hv,if_neg (by omega)]
theorem Zg5 (W:List Nat) (x y:Nat):Qj2 W x y W.length=mer W x y:=Qv1 (by rw[QW0,XF4]) fun v hv=>by
 rw[QW0]at hv;rw[QA3 _ _ _ _ _ hv,if_pos hv]
theorem ZG8 (W:List Nat) (x y k z:Nat) (hk:k<W.length) (hz:(mer W x y).getD k 0=z):(Qj2 W x y k).set k z=Qj2 W x y (k+1):=Qv1 (by simp[QW0]) fun v hv=>by
 have hv':v<W.length:=by simpa[QW0] using hv
 rw[QD7 _ _ _ _ (by rw[QW0];exact hk),QA3 _ _ _ _ _ hv',QA3 _ _ _ _ _ hv']
 by_cases e:v=k
 · subst e;rw[if_pos rfl,if_pos (by omega),hz]
 · rw[if_neg e]
   by_cases h2:v<k
   · rw[if_pos h2,if_pos (by omega)]
   · rw[if_neg h2,if_neg (by omega)]
theorem ZG7 (W:List Nat) (x y k:Nat) (hk:k<W.length) (hz:(mer W x y).getD k 0=W.getD k 0):Qj2 W x y k=Qj2 W x y (k+1):=Qv1 (by simp[QW0]) fun v hv=>by
 have hv':v<W.length:=by simpa[QW0] using hv
 rw[QA3 _ _ _ _ _ hv',QA3 _ _ _ _ _ hv']
 by_cases e:v=k
 · subst e;rw[if_neg (by omega),if_pos (by omega),hz]
 · by_cases h2:v<k
   · rw[if_pos h2,if_pos (by omega)]
   · rw[if_neg h2,if_neg (by omega)]
theorem KY5 (E:List (Nat×Nat)):∀ W:List Nat,(QC0 W E).length=W.length:=by
 induction E with
 |nil=>intro W;rfl
 |cons e E ih=>intro W;rw[QC0,ih,XF4]
end Go.Proofs.YtookanmeflbdlaaGreatDoor
/- Plain mathematics: rows modulo a prime, what they span, and how many columns have a first place in it. -/
namespace Go.Proofs.YtookanmeflbdlaaGreatDoor
def QU1 (p:Nat):Bool:=decide (2<=p)&&(List.range p).all fun k=>decide (k<2)||decide (p%k≠0)
theorem Kb7:((List.range 98).all fun p=>!QU1 p||(List.range p).all fun a=>a==0||(List.range p).any fun b=>a*b%p==1)=true:=by decide +kernel
theorem Kx0 {p a:Nat} (hp:p<98) (h:QU1 p=true) (ha:a<p) (h0:a≠0):∃ b,b<p/\a*b%p=1:=by
 have h1:=List.all_eq_true.1 Kb7 p (List.mem_range.2 hp)
 rw[h]at h1
 have h2:=List.all_eq_true.1 (by simpa using h1:((List.range p).all fun a=>a==0||(List.range p).any fun b=>a*b%p==1)=true) a (List.mem_range.2 ha)
 rcases Bool.or_eq_true_iff.1 h2 with h3|h3
 · exact absurd (by simpa using h3) h0
 · obtain⟨b,hb,e⟩:=List.any_eq_true.1 h3
   exact⟨b,List.mem_range.1 hb,by simpa using e⟩
structure Sub (p m:Nat) (S:(Nat->Int)->Prop):Prop where
 zero:S (fun _=>0)
 add:∀ u v (k:Int),S u->S v->S (fun j=>u j+k*v j)
 mod:∀ u v,(∀ j,j<m->(p:Int) ∣ u j-v j)->S u->S v
def Sp (p m:Nat) (R:(Nat->Int)->Prop) (v:Nat->Int):Prop:=∀ S,Sub p m S->(∀ r,R r->S r)->S v
theorem Sp.mem {p m:Nat} {R:(Nat->Int)->Prop} {r:Nat->Int} (h:R r):Sp p m R r:=fun _ _ hR=>hR r h
theorem Sp.sub (p m:Nat) (R:(Nat->Int)->Prop):Sub p m (Sp p m R):=
 ⟨fun _ hS _=>hS.zero,fun u v k hu hv S hS hR=>hS.add u v k (hu S hS hR) (hv S hS hR),fun u v h hu S hS hR=>hS.mod u v h (hu S hS hR)⟩
theorem Sp.le {p m:Nat} {R R':(Nat->Int)->Prop} {v:Nat->Int} (h:∀ r,R r->Sp p m R' r) (hv:Sp p m R v):Sp p m R' v:=hv _ (Sp.sub p m R') h
def Vc (p m:Nat) (R0:(Nat->Int)->Prop) (c:Nat) (v:Nat->Int):Prop:=Sp p m R0 v/\∀ j,j<c->(p:Int) ∣ v j
def Inv (p m:Nat) (R0:(Nat->Int)->Prop) (c:Nat) (R:(Nat->Int)->Prop):Prop:=∀ v,Sp p m R v↔Vc p m R0 c v
theorem Xq4 {p m c:Nat} {R:(Nat->Int)->Prop} (hc:c<m) (h:∀ r,R r->(p:Int) ∣ r c) {v:Nat->Int} (hv:Sp p m R v):(p:Int) ∣ v c:=
 hv (fun v => (p : Int) ∣ v c) ⟨Int.dvd_zero _, fun u v k hu hv => Int.dvd_add hu (Int.dvd_mul_of_dvd_right hv), fun u v h hu => by
  have h1:=Int.dvd_sub hu (h c hc)
  have e:u c-(u c-v c)=v c:=by omega
  rw[e]at h1
  exact h1⟩ h
theorem Inv.start {p m:Nat} {R0 R:(Nat->Int)->Prop} (h1:∀ r,R r->∃ q,R0 q/\∀ j,j<m->(p:Int) ∣ q j-r j) (h2:∀ r,R0 r->∃ q,R q/\∀ j,j<m->(p:Int) ∣ q j-r j):Inv p m R0 0 R:=fun v=>
 ⟨fun hv => ⟨Sp.le (fun r hr => by obtain ⟨q, hq, e⟩ := h1 r hr; exact (Sp.sub p m R0).mod q r e (Sp.mem hq)) hv, fun j hj => absurd hj (Nat.not_lt_zero _)⟩,
  fun hv=>Sp.le (fun r hr=>by obtain⟨q,hq,e⟩:=h2 r hr;exact(Sp.sub p m R).mod q r e (Sp.mem hq)) hv.1⟩
theorem Inv.none {p m c:Nat} {R0 R:(Nat->Int)->Prop} (h:Inv p m R0 c R) (hc:c<m) (hn:∀ r,R r->(p:Int) ∣ r c):Inv p m R0 (c+1) R:=fun v=>
 ⟨fun hv => ⟨((h v).1 hv).1, fun j hj => by
     by_cases e:j=c
     · rw[e];exact Xq4 hc hn hv
     · exact((h v).1 hv).2 j (by omega)⟩,
  fun hv=>(h v).2 ⟨hv.1,fun j hj=>hv.2 j (by omega)⟩⟩
theorem Inv.piv {p m c : Nat} {R0 R R' : (Nat → Int) → Prop} (h : Inv p m R0 c R) (hc : c < m) (a : Nat → Int) (ha : R a) (b : Int) (hb : (p : Int) ∣ a c * b - 1)
    (h1:∀ r',R' r'->(p:Int) ∣ r' c/\∃ r k,R r/\∀ j,j<m->(p:Int) ∣ (r j+k*a j)-r' j)
    (h2:∀ r,R r->r=a∨∃ r' k,R' r'/\∀ j,j<m->(p:Int) ∣ (r' j+k*a j)-r j):Inv p m R0 (c+1) R':=by
 have in1:∀ r',R' r'->Sp p m R r':=fun r' hr'=>by
  obtain⟨-,r,k,hr,e⟩:=h1 r' hr'
  exact(Sp.sub p m R).mod _ r' e ((Sp.sub p m R).add r a k (Sp.mem hr) (Sp.mem ha))
 have col:∀ r',R' r'->(p:Int) ∣ r' c:=fun r' hr'=>(h1 r' hr').1
 intro v
 constructor
 · intro hv
   have hv1:=(h v).1 (Sp.le in1 hv)
   refine⟨hv1.1,fun j hj=>?_⟩
   by_cases e:j=c
   · rw[e];exact Xq4 hc col hv
   · exact hv1.2 j (by omega)
 · intro hv
   have hv1:Sp p m R v:=(h v).2 ⟨hv.1,fun j hj=>hv.2 j (by omega)⟩
   have hsub:=Sp.sub p m R'
   -- each is a multiple of the pivot and what the new rows span
   have key:∃ k:Int,Sp p m R' (fun j=>v j+k*a j):=by
    refine hv1 (fun v=>∃ k:Int,Sp p m R' (fun j=>v j+k*a j)) ⟨⟨0,?_⟩,?_,?_⟩ ?_
    · exact hsub.mod _ _ (fun j _=>by simp) hsub.zero
    · rintro u w k ⟨k1,hu⟩ ⟨k2,hw⟩
      refine⟨k1+k*k2,hsub.mod _ _ (fun j _=>?_) (hsub.add _ _ k hu hw)⟩
      have e:(u j+k1*a j+k*(w j+k2*a j))-(u j+k*w j+(k1+k*k2)*a j)=0:=by
       rw[Int.mul_add,Int.add_mul,Int.mul_assoc];omega
      rw[e];exact Int.dvd_zero _
    · rintro u w e ⟨k,hu⟩
      refine⟨k,hsub.mod _ _ (fun j hj=>?_) hu⟩
      have e2:u j+k*a j-(w j+k*a j)=u j-w j:=by omega
      rw[e2];exact e j hj
    · intro r hr
      rcases h2 r hr with rfl|⟨r',k,hr',e⟩
      · exact ⟨-1, hsub.mod _ _ (fun j _ => by have e : (0 : Int) - (r j + -1 * r j) = 0 := by omega
                                               rw[e];exact Int.dvd_zero _) hsub.zero⟩
      · refine⟨-k,hsub.mod r' _ (fun j hj=>?_) (Sp.mem hr')⟩
        have e2:r' j-(r j + -k*a j)=r' j+k*a j-r j:=by rw[Int.neg_mul];omega
        rw[e2];exact e j hj
   obtain⟨k,hk⟩:=key
   have hkc:=Xq4 hc col hk
   have hvc:=hv.2 c (by omega)
   have d1:(p:Int) ∣ k*a c:=by
    have:=Int.dvd_sub hkc hvc
    have e:v c+k*a c-v c=k*a c:=by omega
    rw[e]at this;exact this
   have d2:(p:Int) ∣ k:=by
    have e1:(p:Int) ∣ k*(a c*b-1):=Int.dvd_mul_of_dvd_right hb
    have e2:(p:Int) ∣ k*a c*b:=Int.dvd_mul_of_dvd_left d1
    have e3:=Int.dvd_sub e2 e1
    have e4:k*a c*b-k*(a c*b-1)=k:=by rw[Int.mul_sub,Int.mul_assoc];omega
    rw[e4]at e3;exact e3
   refine hsub.mod _ v (fun j _=>?_) hk
   have e:v j+k*a j-v j=k*a j:=by omega
   rw[e];exact Int.dvd_mul_of_dvd_left d2
def ZC9 (p m:Nat) (R0:(Nat->Int)->Prop) (c:Nat):Prop:=∃ v,Vc p m R0 c v/\¬ (p:Int) ∣ v c
theorem Xy8 {p m c:Nat} {R0 R:(Nat->Int)->Prop} (h:Inv p m R0 c R) (hc:c<m):ZC9 p m R0 c↔∃ r,R r/\¬ (p:Int) ∣ r c:=by
 constructor
 · rintro⟨v,hv,hn⟩
   refine Classical.byContradiction fun hno=>hn (Xq4 hc (fun r hr=>Classical.byContradiction fun hd=>hno ⟨r,hr,hd⟩) ((h v).2 hv))
 · rintro⟨r,hr,hn⟩
   exact⟨r,(h r).1 (Sp.mem hr),hn⟩
open Classical in
noncomputable def rkTo (p m:Nat) (R0:(Nat->Int)->Prop):Nat->Nat
 |0=>0
 |c+1=>rkTo p m R0 c+(if ZC9 p m R0 c then 1 else 0)
theorem Qg0 {p m c:Nat} {R0:(Nat->Int)->Prop} (h:ZC9 p m R0 c):rkTo p m R0 (c+1)=rkTo p m R0 c+1:=by
 show rkTo p m R0 c+_=_;rw[if_pos h]
theorem XQ0 {p m c:Nat} {R0:(Nat->Int)->Prop} (h:¬ ZC9 p m R0 c):rkTo p m R0 (c+1)=rkTo p m R0 c:=by
 show rkTo p m R0 c+_=_;rw[if_neg h];rfl
theorem Ku7 (p m:Nat) (R0:(Nat->Int)->Prop) (c:Nat):rkTo p m R0 c<=c:=by
 induction c with
 |zero=>exact Nat.le_refl _
 |succ c ih=>
  by_cases h:ZC9 p m R0 c
  · rw[Qg0 h];omega
  · rw[XQ0 h];omega
theorem Qq0 (x:Int) (p:Nat):(p:Int) ∣ x-x.tmod p:=⟨x.tdiv p,by have:=Int.mul_tdiv_add_tmod x p;omega⟩
theorem Qh9 {x:Int} {p:Nat} (hp:0<p) (hx:0<=x):0<=x.tmod p/\x.tmod p<p:=⟨Int.tmod_nonneg _ hx,Int.tmod_lt_of_pos _ (by omega)⟩
theorem Zu8 (x:Int) (p:Nat):x.tmod p=0↔(p:Int) ∣ x:=by
 constructor
 · intro h;have:=Qq0 x p;rw[h]at this;simpa using this
 · intro h;exact Int.tmod_eq_zero_of_dvd h
theorem Qv7 {x:Int} {p:Nat} (h0:0<=x) (h1:x<p):(p:Int) ∣ x↔x=0:=by
 constructor
 · rintro⟨k,e⟩
   by_cases hk:k<=0
   · have:(p:Int)*k<=0:=Int.mul_nonpos_of_nonneg_of_nonpos (by omega) hk
     omega
   · have:(p:Int)*1<=p*k:=Int.mul_le_mul_of_nonneg_left (by omega) (by omega)
     omega
 · intro e;rw[e];exact Int.dvd_zero _
theorem Kb6 {p:Nat} (hp:p<98) (h:QU1 p=true) (x:Int) (hx:¬ (p:Int) ∣ x):∃ b:Int,(p:Int) ∣ x*b-1:=by
 have h2:2<=p:=by
  have:=(Bool.and_eq_true_iff.1 h).1
  simpa using this
 have hr0:0<=x%p:=Int.emod_nonneg _ (by omega)
 have hr1:x%p<p:=Int.emod_lt_of_pos _ (by omega)
 obtain⟨a,ha⟩:∃ a:Nat,x%p=(a:Int):=⟨(x%p).toNat,by omega⟩
 have ha0:a≠0:=fun e=>hx (Int.dvd_of_emod_eq_zero (by rw[ha,e];rfl))
 obtain⟨b,-,e⟩:=Kx0 hp h (by omega) ha0
 refine⟨b,?_⟩
 have e1:(p:Int) ∣ (a:Int)*b-1:=by
  refine⟨((a*b / p:Nat):Int),?_⟩
  have:=Nat.div_add_mod (a*b) p
  rw[e]at this
  have t:((p*(a*b / p)+1:Nat):Int)=((a*b:Nat):Int):=by rw[this]
  push_cast at t
  push_cast
  omega
 have e2:(p:Int) ∣ (x-a)*b:=Int.dvd_mul_of_dvd_left (by rw[<-ha];exact⟨x / p,by have:=Int.mul_ediv_add_emod x p;omega⟩)
 have e3:=Int.dvd_add e1 e2
 have e4:(a:Int)*b-1+(x-a)*b=x*b-1:=by rw[Int.sub_mul];omega
 rw[e4]at e3;exact e3
end Go.Proofs.YtookanmeflbdlaaGreatDoor
/- Plain mathematics of the bracket: states that tie the same, together; one crossing more; all states. -/
namespace Go.Proofs.YtookanmeflbdlaaGreatDoor
def exS (s:Nat):Nat->Int
 |0=>0
 |k+1=>exS s k+(if s / 2 ^ k%2=1 then 1 else -1)
def kyS (C:List Cr) (s k:Nat):List Nat:=XC5 (prS (arQ C) s) (2*k)
def wS (C:List Cr) (c0 s k:Nat):Int->Int:=shA (exS s k) (dlN (c0+QA9 (prS (arQ C) s) (2*k)) QU9)
def mS (C:List Cr) (c0 k:Nat) (T:List Nat):Int->Int:=fun y=>QZ0 (2 ^ k) fun s=>if kyS C s k=T then wS C c0 s k y else 0
def t4 (T:List Nat) (p q r s:Nat):List Nat:=Qu2 (Qu2 T p q) r s
def c4 (T:List Nat) (p q r s:Nat):Nat:=XC6 T p q+XC6 (Qu2 T p q) r s
def tA (C:List Cr) (k:Nat) (T:List Nat):List Nat:=t4 T (arQ C k 0) (arQ C k 1) (arQ C k 2) (arQ C k 3)
def cA (C:List Cr) (k:Nat) (T:List Nat):Nat:=c4 T (arQ C k 0) (arQ C k 1) (arQ C k 2) (arQ C k 3)
def tB (C:List Cr) (k:Nat) (T:List Nat):List Nat:=t4 T (arQ C k 1) (arQ C k 2) (arQ C k 3) (arQ C k 0)
def cB (C:List Cr) (k:Nat) (T:List Nat):Nat:=c4 T (arQ C k 1) (arQ C k 2) (arQ C k 3) (arQ C k 0)
theorem XD5 (T:List Nat) (p q r s:Nat):c4 T p q r s<=2:=by
 unfold c4 XC6;split<;>split<;>omega
theorem Kx7 {k s:Nat}:∀ j,j<=k->exS (2 ^ k+s) j=exS s j
 |0,_=>rfl
 |j+1,h=>by
  show exS (2 ^ k+s) j+_=exS s j+_
  rw[Kx7 j (by omega),Kz8 (by omega:j<k)]
theorem ZX6 (C:List Cr) {k s j:Nat} (h:j<=k):kyS C (2 ^ k+s) j=kyS C s j:=(XQ5 (2*j) fun i hi=>KC9 _ (by omega)).1
theorem KG9 (C:List Cr) {k s j:Nat} (h:j<=k):QA9 (prS (arQ C) (2 ^ k+s)) (2*j)=QA9 (prS (arQ C) s) (2*j):=(XQ5 (2*j) fun i hi=>KC9 _ (by omega)).2.1
theorem JU5 (C:List Cr) (c0:Nat) {k s j:Nat} (h:j<=k):wS C c0 (2 ^ k+s) j=wS C c0 s j:=by
 unfold wS;rw[Kx7 j h,KG9 C h]
theorem XQ1 (C:List Cr) (s k:Nat):kyS C s (k+1)=if s / 2 ^ k%2=1 then tA C k (kyS C s k) else tB C k (kyS C s k):=by
 unfold kyS tA tB t4
 rw[show 2*(k+1)=2*k+1+1 by omega]
 show Qu2 (Qu2 (XC5 _ (2*k)) (prS _ s (2*k)).1 (prS _ s (2*k)).2) (prS _ s (2*k+1)).1 (prS _ s (2*k+1)).2=_
 rw[Kj1,Kj2]
 by_cases h:s / 2 ^ k%2=1
 · simp only[if_pos h]
 · simp only[if_neg h]
theorem Xj6 (C:List Cr) (s k:Nat):QA9 (prS (arQ C) s) (2*(k+1))=QA9 (prS (arQ C) s) (2*k)+if s / 2 ^ k%2=1 then cA C k (kyS C s k) else cB C k (kyS C s k):=by
 unfold kyS cA cB c4
 rw[show 2*(k+1)=2*k+1+1 by omega]
 show QA9 _ (2*k)+XC6 (XC5 _ (2*k)) (prS _ s (2*k)).1 (prS _ s (2*k)).2+XC6 (Qu2 (XC5 _ (2*k)) (prS _ s (2*k)).1 (prS _ s (2*k)).2) (prS _ s (2*k+1)).1 (prS _ s (2*k+1)).2=_
 rw[Kj1,Kj2]
 by_cases h:s / 2 ^ k%2=1
 · simp only[if_pos h];omega
 · simp only[if_neg h];omega
theorem KA7 (C:List Cr) (c0 s k:Nat):wS C c0 s (k+1)=if s / 2 ^ k%2=1 then dlN (cA C k (kyS C s k)) (shA 1 (wS C c0 s k)) else dlN (cB C k (kyS C s k)) (shA (-1) (wS C c0 s k)):=by
 unfold wS
 rw[Xj6]
 show shA (exS s k+_) _=_
 by_cases h:s / 2 ^ k%2=1
 · simp only[if_pos h]
   rw[Kh9,Kz3,Zv7,Int.add_comm 1]
   congr 2;omega
 · simp only[if_neg h]
   rw[Kh9,Kz3,Zv7,Int.add_comm (-1)]
   congr 2;omega
def KA2 (C:List Cr) (c0 k:Nat) (U:List Nat) (y:Int) (s:Nat):Int:=
 (if tA C k (kyS C s k)=U then dlN (cA C k (kyS C s k)) (shA 1 (wS C c0 s k)) y else 0)+(if tB C k (kyS C s k)=U then dlN (cB C k (kyS C s k)) (shA (-1) (wS C c0 s k)) y else 0)
def XD1 (C:List Cr) (c0 k:Nat) (dn:List Nat->Bool) (U:List Nat):Int->Int:=fun y=>QZ0 (2 ^ k) fun s=>if dn (kyS C s k)=true then KA2 C c0 k U y s else 0
theorem ZZ9 (C:List Cr) (c0 k:Nat) (U:List Nat) {dn:List Nat->Bool} (h:∀ s,s<2 ^ k->dn (kyS C s k)=true):XD1 C c0 k dn U=mS C c0 (k+1) U:=by
 funext y
 unfold mS XD1
 rw[KV2]
 refine QQ4 fun s hs=>?_
 rw[if_pos (h s hs)]
 unfold KA2
 have b0:¬ s / 2 ^ k%2=1:=by rw[Zw4 hs];decide
 have k0:kyS C s (k+1)=tB C k (kyS C s k):=by rw[XQ1,if_neg b0]
 have w0:wS C c0 s (k+1)=dlN (cB C k (kyS C s k)) (shA (-1) (wS C c0 s k)):=by rw[KA7,if_neg b0]
 have k1:kyS C (2 ^ k+s) (k+1)=tA C k (kyS C s k):=by rw[XQ1,if_pos (Zx6 hs),ZX6 C (Nat.le_refl k)]
 have w1:wS C c0 (2 ^ k+s) (k+1)=dlN (cA C k (kyS C s k)) (shA 1 (wS C c0 s k)):=by rw[KA7,if_pos (Zx6 hs),ZX6 C (Nat.le_refl k),JU5 C c0 (Nat.le_refl k)]
 rw[k0,w0,k1,w1]
 omega
theorem Kz4 (c n:Nat) (P:Nat->Prop) [∀ s,Decidable (P s)] (F:Nat->Int->Int):dlN c (fun y=>QZ0 n fun s=>if P s then F s y else 0)=fun y=>QZ0 n fun s=>if P s then dlN c (F s) y else 0:=by
 have e:(fun y=>QZ0 n fun s=>if P s then F s y else 0)=fun y=>QZ0 n fun s=>(if P s then F s else fun _=>0) y:=by
  funext y;refine QQ4 fun s _=>?_;split<;>rfl
 have z:∀ c,dlN c (fun _=>0)=fun _=>0:=by
  intro c
  induction c with
  |zero=>rfl
  |succ c ih=>show dlA (dlN c _)=_;rw[ih];rfl
 rw[e,Kd4]
 funext y
 refine QQ4 fun s _=>?_
 by_cases h:P s
 · rw[if_pos h,if_pos h]
 · rw[if_neg h,if_neg h,z]
theorem Xx5 (C : List Cr) (c0 k : Nat) (U T : List Nat) {dn dn' : List Nat → Bool} (h0 : dn T = false) (h : ∀ s, dn' (kyS C s k) = true ↔ dn (kyS C s k) = true ∨ kyS C s k = T) (y : Int) :
    XD1 C c0 k dn' U y=XD1 C c0 k dn U y+(if tA C k T=U then dlN (cA C k T) (shA 1 (mS C c0 k T)) y else 0)+(if tB C k T=U then dlN (cB C k T) (shA (-1) (mS C c0 k T)) y else 0):=by
 unfold XD1
 rw[Xx9 (F:=KA2 C c0 k U y) (P:=fun s=>dn (kyS C s k)) (Q:=fun s=>decide (kyS C s k=T)) (R:=fun s=>dn' (kyS C s k)) (fun s _=>by rw[h s];simp) (fun s _ e=>by have:=of_decide_eq_true e.2;rw[this,h0]at e;simp at e)]
 rw[Int.add_assoc]
 congr 1
 have hs:∀ e,shA e (mS C c0 k T)=fun y=>QZ0 (2 ^ k) fun s=>if kyS C s k=T then shA e (wS C c0 s k) y else 0:=fun e=>rfl
 rw[hs,hs,Kz4,Kz4]
 by_cases h1:tA C k T=U<;>by_cases h2:tB C k T=U
 · rw[if_pos h1,if_pos h2,<-QZ5]
   refine QQ4 fun s _=>?_
   by_cases e:kyS C s k=T
   · unfold KA2;rw[e];simp[h1,h2]
   · simp[e]
 · rw[if_pos h1,if_neg h2,Int.add_zero]
   refine QQ4 fun s _=>?_
   by_cases e:kyS C s k=T
   · unfold KA2;rw[e];simp[h1,h2]
   · simp[e]
 · rw[if_neg h1,if_pos h2,Int.zero_add]
   refine QQ4 fun s _=>?_
   by_cases e:kyS C s k=T
   · unfold KA2;rw[e];simp[h1,h2]
   · simp[e]
 · rw[if_neg h1,if_neg h2]
   rw[show(0:Int)+0=QZ0 (2 ^ k) (fun _=>0) from(QV4 _).symm]
   refine QQ4 fun s _=>?_
   by_cases e:kyS C s k=T
   · unfold KA2;rw[e];simp[h1,h2]
   · simp[e]
theorem Xx6 (C:List Cr) (c0 k:Nat) (U:List Nat) {dn:List Nat->Bool} (h:∀ s,s<2 ^ k->dn (kyS C s k)=false) (y:Int):XD1 C c0 k dn U y=0:=by
 unfold XD1
 rw[QQ4 (g:=fun _=>0) fun s hs=>by rw[h s hs];rfl,QV4]
def ZC7 (C:List Cr) (c0 k:Nat) (dn:List Nat->Bool):Int->Int:=fun y=>QZ0 (2 ^ k) fun s=>if dn (kyS C s k)=true then wS C c0 s k y else 0
def JU0 (C:List Cr) (c0 k:Nat):Int->Int:=fun y=>QZ0 (2 ^ k) fun s=>wS C c0 s k y
theorem XA3 (C:List Cr) (c0 k:Nat) {dn:List Nat->Bool} (h:∀ s,s<2 ^ k->dn (kyS C s k)=true):ZC7 C c0 k dn=JU0 C c0 k:=by
 funext y;exact QQ4 fun s hs=>by rw[if_pos (h s hs)]
theorem Xj9 (C:List Cr) (c0 k:Nat) {dn:List Nat->Bool} (h:∀ s,s<2 ^ k->dn (kyS C s k)=false) (y:Int):ZC7 C c0 k dn y=0:=by
 unfold ZC7
 rw[QQ4 (g:=fun _=>0) fun s hs=>by rw[h s hs];rfl,QV4]
theorem Xj8 (C:List Cr) (c0 k:Nat) (T:List Nat) {dn dn':List Nat->Bool} (h0:dn T=false) (h:∀ s,dn' (kyS C s k)=true↔dn (kyS C s k)=true∨kyS C s k=T) (y:Int):ZC7 C c0 k dn' y=ZC7 C c0 k dn y+mS C c0 k T y:=by
 unfold ZC7 mS
 rw[Xx9 (F:=fun s=>wS C c0 s k y) (P:=fun s=>dn (kyS C s k)) (Q:=fun s=>decide (kyS C s k=T)) (R:=fun s=>dn' (kyS C s k)) (fun s _=>by rw[h s];simp) (fun s _ e=>by have:=of_decide_eq_true e.2;rw[this,h0]at e;simp at e)]
 congr 1
 exact QQ4 fun s _=>by simp
theorem Zw2 (C:List Cr) (s:Nat):∀ k,QA9 (prS (arQ C) s) (2*k)<=2*k
 |0=>Nat.le_refl _
 |k+1=>by
  have:=Zw2 C s k
  have a:=XD5 (kyS C s k) (arQ C k 0) (arQ C k 1) (arQ C k 2) (arQ C k 3)
  have b:=XD5 (kyS C s k) (arQ C k 1) (arQ C k 2) (arQ C k 3) (arQ C k 0)
  rw[Xj6];unfold cA cB;split<;>omega
theorem JU1 (C:List Cr) (c0 s k:Nat) (y:Int):(wS C c0 s k y).natAbs<=2 ^ (c0+2*k):=by
 have h:=ZX7 Kq2 (c0+QA9 (prS (arQ C) s) (2*k)) (y-exS s k)
 rw[Nat.mul_one]at h
 exact Nat.le_trans h (Nat.pow_le_pow_right (by omega) (by have:=Zw2 C s k;omega))
theorem Kh2 (C:List Cr) (c0 k:Nat) (T:List Nat) (y:Int):(mS C c0 k T y).natAbs<=2 ^ (c0+3*k):=by
 refine Nat.le_trans (Xy4 (H:=2 ^ (c0+2*k)) fun s _=>?_) ?_
 · by_cases e:kyS C s k=T
   · rw[if_pos e];exact JU1 C c0 s k y
   · rw[if_neg e];exact Nat.zero_le _
 · rw[<-Nat.pow_add];exact Nat.pow_le_pow_right (by omega) (by omega)
theorem Kz0 (C:List Cr) (c0 s k c:Nat) (e:Int) (hc:c<=2) (y:Int):(dlN c (shA e (wS C c0 s k)) y).natAbs<=2 ^ (c0+2*k+2):=by
 have h:=ZX7 (f:=shA e (wS C c0 s k)) (H:=2 ^ (c0+2*k)) (fun y=>JU1 C c0 s k (y-e)) c y
 rw[<-Nat.pow_add]at h
 exact Nat.le_trans h (Nat.pow_le_pow_right (by omega) (by omega))
theorem Kv2 (C:List Cr) (c0 k:Nat) (dn:List Nat->Bool) (U:List Nat) (y:Int):(XD1 C c0 k dn U y).natAbs<=2 ^ (c0+3*k+3):=by
 refine Nat.le_trans (Xy4 (H:=2 ^ (c0+2*k+3)) fun s _=>?_) ?_
 · have a:=Kz0 C c0 s k (cA C k (kyS C s k)) 1 (XD5 _ _ _ _ _) y
   have b:=Kz0 C c0 s k (cB C k (kyS C s k)) (-1) (XD5 _ _ _ _ _) y
   have e:2 ^ (c0+2*k+3)=2 ^ (c0+2*k+2)+2 ^ (c0+2*k+2):=by rw[Nat.pow_succ];omega
   unfold KA2
   split
   · split<;>split<;>omega
   · exact Nat.zero_le _
 · rw[<-Nat.pow_add];exact Nat.pow_le_pow_right (by omega) (by omega)
theorem Zw7 (C:List Cr) (c0 k:Nat) (dn:List Nat->Bool) (y:Int):(ZC7 C c0 k dn y).natAbs<=2 ^ (c0+3*k):=by
 refine Nat.le_trans (Xy4 (H:=2 ^ (c0+2*k)) fun s _=>?_) ?_
 · split
   · exact JU1 C c0 s k y
   · exact Nat.zero_le _
 · rw[<-Nat.pow_add];exact Nat.pow_le_pow_right (by omega) (by omega)
def rgS (C:List Cr) (loops s:Nat):Nat:=2*C.length+loops-Qz4 (prS (arN C) s) (2*C.length)
def brS (C:List Cr) (loops:Nat):Int->Int:=fun y=>QZ0 (2 ^ C.length) fun s=>shA (exS s C.length) (dlN (rgS C loops s-1) QU9) y
theorem Xd6 {C:List Cr} {l:Int} {loops:Nat} (hm:QQ6 C l=true) (_hl:l=loops) (h12:C.length<=12):JU0 C (if C.length=0 then loops-1 else loops) C.length=brS C loops:=by
 funext y
 refine QQ4 fun s _=>?_
 unfold wS rgS
 by_cases h0:C.length=0
 · rw[if_pos h0,h0]
   have e1:loops-1+QA9 (prS (arQ C) s) (2*0)=loops-1:=rfl
   have e2:2*0+loops-Qz4 (prS (arN C) s) (2*0)-1=loops-1:=by
    have:Qz4 (prS (arN C) s) (2*0)=0:=rfl
    rw[this];omega
   rw[e1,e2]
 · rw[if_neg h0]
   have h:=Zb8 hm h12 (by omega) s
   congr 2;congr 1;omega
end Go.Proofs.YtookanmeflbdlaaGreatDoor

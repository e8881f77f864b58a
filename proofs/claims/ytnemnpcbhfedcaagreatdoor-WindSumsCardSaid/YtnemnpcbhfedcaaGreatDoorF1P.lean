/- Several texts of the proof, one behind the other. -/
import Derived.Test.YtnemnpcbhfedcaaGreatDoorW2P
import Derived.Test.YtnemnpcbhfedcaaGreatDoorH6P
import Derived.Lib.Hide
import Derived.Deep.QuietTactic
import Derived.BigQuiet
/- The walks of Drawing.End, Drawing.Onward, way; ref.dartCode, ref.NextDart. -/
namespace Go.Proofs.YtnemnpcbhfedcaaGreatDoor
open Go.RowKit
set_option maxHeartbeats 2000000
set_option maxRecDepth 100000
theorem Dr.endAt {w : World} {a : Option Addr} {cap : Nat} {C : List Cr} {gF gT : Nat} {loops : Int} (h : Dr w a cap C gF gT) (hm : mayD C loops = true) (x : Nat) (h1 : 1 ≤ x) (h2 : x ≤ 2 * C.length) :
    w.cell? ⟨gT,x*2,none⟩=some (.int .i64 (enC C x true:Nat))/\w.cell? ⟨gT,x*2+1,none⟩=some (.int .i64 (enS C x true:Nat))/\w.cell? ⟨gF,x*2,none⟩=some (.int .i64 (enC C x false:Nat))/\w.cell? ⟨gF,x*2+1,none⟩=some (.int .i64 (enS C x false:Nat)):=by
 have hT:=h.to x (by rw[ends_length];omega)
 have hF:=h.from_ x (by rw[ends_length];omega)
 rw[ends_at C true C.length 0 x h1 h2,Nat.zero_add]at hT
 rw[ends_at C false C.length 0 x h1 h2,Nat.zero_add]at hF
 have e:endAh C x true C.length 0=endTo C x true C.length:=rfl
 have e2:endAh C x false C.length 0=endTo C x false C.length:=rfl
 rw[e,(en_may hm x true h1 h2).1]at hT
 rw[e2,(en_may hm x false h1 h2).1]at hF
 exact⟨hT.1,hT.2,hF.1,hF.2⟩
theorem end_any (a : Option Addr) (cap : Nat) (C : List Cr) (loops : Int) (gF cF gT cT : Nat) (x : Nat) (p : Bool) (w : World) (hm : mayD C loops = true) (h1 : 1 ≤ x) (h2 : x ≤ 2 * C.length) (hD : Dr w a cap C gF gT) :
    Calls Tryz.prog 77 #[drV a cap C loops gF cF gT cT,.agg #[.int .i64 x,.bool p]] w fun e w'=>e=.returned (.agg #[.int .i64 (enC C x (!p):Nat),.int .i64 (enS C x (!p):Nat)])/\Below w.heap.size w w':=by
 unfold drV
 obtain⟨c0,c1,c2,c3⟩:=hD.endAt hm x h1 h2
 have l1:=hD.ltT
 have l2:=hD.ltF
 clear hD
 have hB3:Below w.heap.size w (((w.alloc (.cells #[.slice a C.length cap,.int .i64 loops,.slice (some ⟨gF,0,none⟩) (2*C.length+1) cF,.slice (some ⟨gT,0,none⟩) (2*C.length+1) cT] 40)).alloc (.cells #[.int .i64 x,.bool p] 103)).alloc (.cells #[.int .i64 0,.int .i64 0] 125)):=below3 _ _ _ _
 have d0:=bcell hB3 l1 c0
 have d1:=bcell hB3 l1 c1
 have d2:=bcell hB3 l2 c2
 have d3:=bcell hB3 l2 c3
 clear hB3 c0 c1 c2 c3
 obtain⟨t0,ht0⟩:∃ t0,enC C x true=t0:=⟨_,rfl⟩
 obtain⟨t1,ht1⟩:∃ t1,enS C x true=t1:=⟨_,rfl⟩
 obtain⟨f0,hf0⟩:∃ f0,enC C x false=f0:=⟨_,rfl⟩
 obtain⟨f1,hf1⟩:∃ f1,enS C x false=f1:=⟨_,rfl⟩
 rw[ht0]at d0
 rw[ht1]at d1
 rw[hf0]at d2
 rw[hf1]at d3
 have hx:x<2*C.length+1:=by omega
 cases p with
 |true=>
  have hG:(((w.alloc (.cells #[.slice a C.length cap,.int .i64 loops,.slice (some ⟨gF,0,none⟩) (2*C.length+1) cF,.slice (some ⟨gT,0,none⟩) (2*C.length+1) cT] 40)).alloc (.cells #[.int .i64 x,.bool true] 103)).alloc (.cells #[.int .i64 f0,.int .i64 f1] 125)).heap[w.heap.size+1+1]?=some (.cells #[.int .i64 f0,.int .i64 f1] 125 (0,0)):=alloc_at (by simp)
  have x0:=block_cell (i:=0) (v:=.int .i64 f0) hG rfl
  have x1:=block_cell (i:=1) (v:=.int .i64 f1) hG rfl
  have HB:Hid (Below w.heap.size w (((w.alloc (.cells #[.slice a C.length cap,.int .i64 loops,.slice (some ⟨gF,0,none⟩) (2*C.length+1) cF,.slice (some ⟨gT,0,none⟩) (2*C.length+1) cT] 40)).alloc (.cells #[.int .i64 x,.bool true] 103)).alloc (.cells #[.int .i64 f0,.int .i64 f1] 125))):=below3 _ _ _ _
  clear hG
  go_enter Tryz.func77,Tryz.ntmps77
  go_wp2
  exact bodyPost_ret (v:=.agg #[.int .i64 f0,.int .i64 f1]) (by simp[results,Tryz.results77,go_sem,x0,x1]) rfl ⟨by simp[hf0,hf1],HB.out⟩
 |false=>
  have hG:(((w.alloc (.cells #[.slice a C.length cap,.int .i64 loops,.slice (some ⟨gF,0,none⟩) (2*C.length+1) cF,.slice (some ⟨gT,0,none⟩) (2*C.length+1) cT] 40)).alloc (.cells #[.int .i64 x,.bool false] 103)).alloc (.cells #[.int .i64 t0,.int .i64 t1] 125)).heap[w.heap.size+1+1]?=some (.cells #[.int .i64 t0,.int .i64 t1] 125 (0,0)):=alloc_at (by simp)
  have x0:=block_cell (i:=0) (v:=.int .i64 t0) hG rfl
  have x1:=block_cell (i:=1) (v:=.int .i64 t1) hG rfl
  have HB:Hid (Below w.heap.size w (((w.alloc (.cells #[.slice a C.length cap,.int .i64 loops,.slice (some ⟨gF,0,none⟩) (2*C.length+1) cF,.slice (some ⟨gT,0,none⟩) (2*C.length+1) cT] 40)).alloc (.cells #[.int .i64 x,.bool false] 103)).alloc (.cells #[.int .i64 t0,.int .i64 t1] 125))):=below3 _ _ _ _
  clear hG
  go_enter Tryz.func77,Tryz.ntmps77
  go_wp2
  exact bodyPost_ret (v:=.agg #[.int .i64 t0,.int .i64 t1]) (by simp[results,Tryz.results77,go_sem,x0,x1]) rfl ⟨by simp[ht0,ht1],HB.out⟩
theorem way_any (x : Int) (p : Bool) (w : World) :
    Calls Tryz.prog 84 #[.agg #[.int .i64 x,.bool p]] w fun e w'=>e=.returned (.int .i64 (if p=true then 1 else 0))/\Below w.heap.size w w':=by
 go_enter Tryz.func84,Tryz.ntmps84
 cases p with
 |true=>
  go_wp2
  go_ret
  exact⟨rfl,(Below.refl _ _).alloc (Nat.le_refl _) _⟩
 |false=>
  go_wp2
  go_ret
  exact⟨rfl,(Below.refl _ _).alloc (Nat.le_refl _) _⟩
end Go.Proofs.YtnemnpcbhfedcaaGreatDoor
/- Visits: lists of them that a call owns; the walks of gauss.visits and gauss.signs. -/
namespace Go.Proofs.YtnemnpcbhfedcaaGreatDoor
open Go.RowKit
def vflat (V:List (Nat×Bool)):List Value:=V.flatMap fun t=>[.int .i64 (t.1:Nat),.bool t.2]
theorem vflat_append (l m:List (Nat×Bool)):vflat (l++m)=vflat l++vflat m:=by simp[vflat]
theorem vflat_get (l:List (Nat×Bool)) (i:Nat) (hi:i<l.length):(vflat l)[i*2]?=some (.int .i64 ((l.getD i (0,false)).1:Nat))/\(vflat l)[i*2+1]?=some (.bool (l.getD i (0,false)).2):=by
 induction l generalizing i with
 |nil=>simp at hi
 |cons t l ih=>
  have e:vflat (t::l)=.int .i64 (t.1:Nat)::.bool t.2::vflat l:=rfl
  cases i with
  |zero=>rw[e];exact⟨rfl,rfl⟩
  |succ i=>
   have:=ih i (by simpa using hi)
   rw[e,show(i+1)*2=i*2+1+1 by omega]
   exact this
theorem vflat_one (l:List (Nat×Bool)):∀ u∈vflat l,u.oneCell'=true:=by
 intro u hu
 simp only[vflat,List.mem_flatMap]at hu
 obtain⟨t,_,ht⟩:=hu
 simp at ht
 rcases ht with rfl|rfl<;>rfl
def WksAt (w:World) (v:Value) (L:List (List Nat)):Prop:=∃ ys:List Value,ys.length=L.length/\Slots w w.heap.size v ys/\∀ j,j<L.length->Slots w w.heap.size (ys.getD j (.bool false)) (nats (L.getD j []))
theorem WksAt.on {w w':World} {v:Value} {L:List (List Nat)} (h:WksAt w v L) (hb:Below w.heap.size w w'):WksAt w' v L:=by
 obtain⟨ys,h1,h2,h3⟩:=h
 exact⟨ys,h1,(h2.on hb).mono hb.size,fun j hj=>((h3 j hj).on hb).mono hb.size⟩
end Go.Proofs.YtnemnpcbhfedcaaGreatDoor
/- The walk of gauss.signs; rows of visits and of signs that are the same. -/
namespace Go.Proofs.YtnemnpcbhfedcaaGreatDoor
open Go.RowKit
def VS (w:World) (v:Value) (V:List (Nat×Bool)):Prop:=∃ a cap,v=.slice a V.length cap/\(0<V.length->∃ b off,a=some ⟨b,off,none⟩/\b<w.heap.size/\∀ i,i<V.length->w.cell? ⟨b,off+i*2,none⟩=some (.int .i64 ((V.getD i (0,false)).1:Nat))/\w.cell? ⟨b,off+i*2+1,none⟩=some (.bool (V.getD i (0,false)).2))
def VsAt (w:World) (v:Value) (L:List (List (Nat×Bool))):Prop:=∃ ys:List Value,ys.length=L.length/\Slots w w.heap.size v ys/\∀ j,j<L.length->VS w (ys.getD j (.bool false)) (L.getD j [])
theorem VS.on {w w':World} {v:Value} {V:List (Nat×Bool)} (h:VS w v V) (hb:Below w.heap.size w w'):VS w' v V:=by
 obtain⟨a,cap,rfl,g⟩:=h
 refine⟨a,cap,rfl,fun hp=>?_⟩
 obtain⟨b,off,rfl,hlt,hc⟩:=g hp
 exact⟨b,off,rfl,Nat.lt_of_lt_of_le hlt hb.size,fun i hi=>⟨bcell hb hlt (hc i hi).1,bcell hb hlt (hc i hi).2⟩⟩
theorem VsAt.on {w w':World} {v:Value} {L:List (List (Nat×Bool))} (h:VsAt w v L) (hb:Below w.heap.size w w'):VsAt w' v L:=by
 obtain⟨ys,h1,h2,h3⟩:=h
 exact⟨ys,h1,(h2.on hb).mono hb.size,fun j hj=>(h3 j hj).on hb⟩
end Go.Proofs.YtnemnpcbhfedcaaGreatDoor
/- Lists of whole numbers that a call owns; the walk of gauss.evenNumbers. -/
namespace Go.Proofs.YtnemnpcbhfedcaaGreatDoor
open Go.RowKit
def intsV (l:List Int):List Value:=l.map fun x=>.int .i64 x
theorem intsV_len (l:List Int):(intsV l).length=l.length:=by simp[intsV]
theorem intsV_get (l:List Int) (i:Nat) (h:i<l.length):(intsV l)[i]?=some (.int .i64 (l.getD i 0)):=by simp[intsV,List.getD,h]
theorem intsV_set (l:List Int) (i:Nat) (x:Int):(intsV l).set i (.int .i64 x)=intsV (l.set i x):=by simp[intsV,List.map_set]
theorem made_zero (n:Nat):(madeCells (Value.int .i64 0).cells (n*1)).toList=intsV (List.replicate n 0):=by
 have e:(Value.int .i64 0).cells=#[Value.int .i64 0]:=rfl
 rw[e,toList_madeCells_one,Nat.mul_one]
 simp[intsV]
end Go.Proofs.YtnemnpcbhfedcaaGreatDoor
/- Plain mathematics: edges and the edges that cross them; where Euler's number is that of spheres, a set of edges that comes to each corner an even number of times is the boundary of a set of faces. -/
namespace Go.Proofs.YtnemnpcbhfedcaaGreatDoor
def xs (g:Nat->Bool):Nat->Bool
 |0=>false
 |m+1=>xor (xs g m) (g m)
def incl (E:Nat->Nat×Nat) (K:Nat->Bool):Nat->List (Nat×Nat)
 |0=>[]
 |m+1=>incl E K m++(if K m=true then [E m] else [])
theorem incl_mem {E:Nat->Nat×Nat} {K:Nat->Bool} {m:Nat} {e:Nat×Nat}:e∈incl E K m↔∃ i,i<m/\K i=true/\e=E i:=by
 induction m with
 |zero=>simp[incl]
 |succ m ih=>
  simp only[incl,List.mem_append,ih]
  constructor
  · rintro(⟨i,h1,h2,h3⟩|h)
    · exact⟨i,by omega,h2,h3⟩
    · by_cases hk:K m=true
      · rw[if_pos hk]at h
        exact⟨m,by omega,hk,List.mem_singleton.1 h⟩
      · rw[if_neg hk]at h;cases h
  · rintro⟨i,h1,h2,h3⟩
    by_cases e2:i=m
    · subst e2
      exact Or.inr (by rw[if_pos h2,h3];exact List.mem_singleton.2 rfl)
    · exact Or.inl ⟨i,by omega,h2,h3⟩
def cls (E:Nat->Nat×Nat) (K:Nat->Bool) (n m:Nat):List Nat:=mers (List.range n) (incl E K m)
theorem cls_least {E:Nat->Nat×Nat} {K:Nat->Bool} {n m:Nat} (hE:∀ i,i<m->(E i).1<n/\(E i).2<n):Least (incl E K m) n (cls E K n m):=by
 have h := mers_least n (incl E K m) [] (List.range n) (fun e he => by
  obtain⟨i,h1,-,rfl⟩:=incl_mem.1 (by simpa using he)
  exact hE i h1) (least_nil n)
 simpa[cls] using h
theorem cls_next {E:Nat->Nat×Nat} {K:Nat->Bool} {n m:Nat} (h:K m=true):cls E K n (m+1)=mer (cls E K n m) (E m).1 (E m).2:=by
 unfold cls
 simp only[incl]
 rw[if_pos h,mers_app]
 rfl
theorem mer_same {W:List Nat} {x y:Nat} (h:W.getD x 0=W.getD y 0):mer W x y=W:=by
 unfold mer
 rw[h]
 have:∀ z:Nat,(if z=max (W.getD y 0) (W.getD y 0) then min (W.getD y 0) (W.getD y 0) else z)=z:=fun z=>by
  split<;>omega
 simp only[this]
 exact List.map_id' W
end Go.Proofs.YtnemnpcbhfedcaaGreatDoor
/- Slices that are read; lists of numbers that stand in a function's values; which walk an arc lies in. -/
namespace Go.Proofs.YtnemnpcbhfedcaaGreatDoor
open Go.RowKit
def RdAt (w:World) (B size:Nat) (v:Value) (n:Nat) (xs:List Value):Prop:=∃ a cap,v=.slice a n cap/\(0<n->∃ b off,a=some ⟨b,off,none⟩/\b<B/\∀ j,j<n*size->w.cell? ⟨b,off+j,none⟩=xs[j]?)
theorem RdAt.on {w w':World} {B size n:Nat} {v:Value} {xs:List Value} (h:RdAt w B size v n xs) (hb:Below B w w'):RdAt w' B size v n xs:=by
 obtain⟨a,cap,rfl,f⟩:=h
 refine⟨a,cap,rfl,fun h0=>?_⟩
 obtain⟨b,off,rfl,hlt,hc⟩:=f h0
 exact⟨b,off,rfl,hlt,fun j hj=>bcell hb hlt (hc j hj)⟩
theorem RdAt.mono {w:World} {B B' size n:Nat} {v:Value} {xs:List Value} (h:RdAt w B size v n xs) (hB:B<=B'):RdAt w B' size v n xs:=by
 obtain⟨a,cap,rfl,f⟩:=h
 refine⟨a,cap,rfl,fun h0=>?_⟩
 obtain⟨b,off,rfl,hlt,hc⟩:=f h0
 exact⟨b,off,rfl,Nat.lt_of_lt_of_le hlt hB,hc⟩
theorem own_rd {w:World} {B e size n:Nat} {v:Value} {xs:List Value} (h:w.ownsRow B e size v n xs):RdAt w w.heap.size size v n xs:=by
 have h0:=h
 rcases h.2 with⟨rfl,h1⟩|⟨g,cap,cur,rfl,_,_,_⟩
 · exact⟨none,0,by rw[h1],fun hp=>by omega⟩
 · exact⟨some ⟨g,0,none⟩,cap,rfl,fun _=>⟨g,0,rfl,(h0.lt g rfl).2,fun j hj=>by rw[Nat.zero_add];exact h0.cellAt j hj⟩⟩
def NatsRd (w:World) (B:Nat) (v:Value) (L:List (List Nat)):Prop:=∃ ys:List Value,ys.length=L.length/\RdAt w B 1 v L.length ys/\∀ j,j<L.length->RdAt w B 1 (ys.getD j (.bool false)) (L.getD j []).length (nats (L.getD j []))
theorem NatsRd.on {w w':World} {B:Nat} {v:Value} {L:List (List Nat)} (h:NatsRd w B v L) (hb:Below B w w'):NatsRd w' B v L:=by
 obtain⟨ys,hy,h1,h2⟩:=h
 exact⟨ys,hy,h1.on hb,fun j hj=>(h2 j hj).on hb⟩
theorem NatsRd.mono {w:World} {B B':Nat} {v:Value} {L:List (List Nat)} (h:NatsRd w B v L) (hB:B<=B'):NatsRd w B' v L:=by
 obtain⟨ys,hy,h1,h2⟩:=h
 exact⟨ys,hy,h1.mono hB,fun j hj=>(h2 j hj).mono hB⟩
theorem NatsRd.up {w w':World} {v:Value} {L:List (List Nat)} (h:NatsRd w w.heap.size v L) (hb:Below w.heap.size w w'):NatsRd w' w'.heap.size v L:=(h.on hb).mono hb.size
theorem NatsOwn.rd {w:World} {B:Nat} {v:Value} {L:List (List Nat)} (h:NatsOwn w B v L):NatsRd w w.heap.size v L:=by
 obtain⟨ys,hy,h1,h2⟩:=h
 exact⟨ys,hy,by rw[<-hy];exact own_rd h1,fun j hj=>own_rd (h2 j hj)⟩
theorem NatsRd.len {w:World} {B:Nat} {v:Value} {L:List (List Nat)} (h:NatsRd w B v L):∃ a cap,v=.slice a L.length cap:=by
 obtain⟨ys,hy,⟨a,cap,e,-⟩,h2⟩:=h
 exact⟨a,cap,e⟩
theorem NatsRd.row {w : World} {B : Nat} {a : Option Addr} {cap : Nat} {L : List (List Nat)} (h : NatsRd w B (.slice a L.length cap) L) (j : Nat) (hj : j < L.length) :
    ∃ b off ar cr,a=some ⟨b,off,none⟩/\b<B/\w.cell? ⟨b,off+j,none⟩=some (.slice ar (L.getD j []).length cr)/\RdAt w B 1 (.slice ar (L.getD j []).length cr) (L.getD j []).length (nats (L.getD j [])):=by
 obtain⟨ys,hy,⟨a',cap',e,f⟩,h2⟩:=h
 injection e with e1 e2 e3
 obtain⟨b,off,eb,hlt,hc⟩:=f (by omega)
 have hr:=h2 j hj
 obtain⟨ar,cr,er,-⟩:=hr
 have hr:=h2 j hj
 rw[er]at hr
 refine⟨b,off,ar,cr,e1.trans eb,hlt,?_,hr⟩
 rw[hc j (by omega),<-er]
 simp[List.getD,hy,hj]
def mapI (m:Nat) (f:Nat->Int):List Int:=(List.range m).map f
theorem mapI_len (m:Nat) (f:Nat->Int):(mapI m f).length=m:=by simp[mapI]
theorem mapI_get (m:Nat) (f:Nat->Int) (i:Nat) (h:i<m):(mapI m f)[i]?=some (f i):=by simp[mapI,h]
theorem mapI_at (m:Nat) (f:Nat->Int) (i:Nat) (h:i<m):(mapI m f).getD i 0=f i:=by rw[List.getD_eq_getElem?_getD,mapI_get m f i h];rfl
theorem mapI_set (m:Nat) (f g:Nat->Int) (i:Nat) (x:Int) (h:∀ j,j<m->g j=if j=i then x else f j):(mapI m f).set i x=mapI m g:=by
 apply List.ext_getElem?
 intro j
 by_cases hj:j<m
 · rw[mapI_get m g j hj,h j hj,List.getElem?_set]
   by_cases e:i=j
   · subst e;simp[mapI_len,hj]
   · rw[if_neg e,if_neg (fun h=>e h.symm),mapI_get m f j hj]
 · rw[List.getElem?_eq_none (by simp[mapI_len];omega),List.getElem?_eq_none (by simp[mapI_len];omega)]
theorem mapI_zero (m:Nat) (f:Nat->Int) (h:∀ j,j<m->f j=0):mapI m f=List.replicate m 0:=by
 apply List.ext_getElem?
 intro j
 by_cases hj:j<m
 · rw[mapI_get m f j hj,h j hj];simp[hj]
 · rw[List.getElem?_eq_none (by simp[mapI_len];omega),List.getElem?_eq_none (by simp;omega)]
theorem mapI_congr (m:Nat) (f g:Nat->Int) (h:∀ j,j<m->f j=g j):mapI m f=mapI m g:=List.map_congr_left fun j hj=>h j (List.mem_range.1 hj)
def pt (L:List (List Nat)) (a:Nat):Nat:=L.findIdx fun l=>decide (a∈l)
theorem two_rows (a:Nat):∀ (L:List (List Nat)) (i j:Nat),i<j->j<L.length->a∈L.getD i []->a∈L.getD j []->2<=L.flatten.count a
 |[],i,j,_,h,_,_=>absurd h (by simp)
 |x::t,0,j+1,_,hj,h1,h2=>by
  have h3:1<=x.count a:=List.one_le_count_iff.2 (by simpa using h1)
  have hj':j<t.length:=by simpa using hj
  have h4:a∈t.flatten:=by
   refine List.mem_flatten.2 ⟨t.getD j [],?_,by simpa using h2⟩
   rw[List.getD_eq_getElem?_getD,List.getElem?_eq_getElem hj']
   exact List.getElem_mem hj'
  have h5:1<=t.flatten.count a:=List.one_le_count_iff.2 h4
  rw[List.flatten_cons,List.count_append]
  omega
 |x::t,i+1,j+1,hij,hj,h1,h2=>by
  have:=two_rows a t i j (by omega) (by simpa using hj) (by simpa using h1) (by simpa using h2)
  rw[List.flatten_cons,List.count_append]
  omega
theorem pt_is {L:List (List Nat)} {a i:Nat} (h1:L.flatten.count a=1) (hi:i<L.length) (ha:a∈L.getD i []):pt L a=i:=by
 have hle:pt L a<=i:=by
  refine Classical.byContradiction fun hc=>?_
  have:=List.not_of_lt_findIdx (p:=fun l=>decide (a∈l)) (xs:=L) (i:=i) (by unfold pt at hc;omega)
  rw[List.getD_eq_getElem?_getD,List.getElem?_eq_getElem hi]at ha
  simp at this
  exact this (by simpa using ha)
 rcases Nat.lt_or_ge (pt L a) i with h|h
 · have hl:pt L a<L.length:=by omega
   have hm:=List.findIdx_getElem (p:=fun l=>decide (a∈l)) (xs:=L) (w:=hl)
   have hm2:a∈L.getD (pt L a) []:=by
    rw[List.getD_eq_getElem?_getD,List.getElem?_eq_getElem hl]
    exact of_decide_eq_true hm
   have:=two_rows a L (pt L a) i h hi hm2 ha
   omega
 · omega
theorem pt_lt {L:List (List Nat)} {a:Nat} (h1:L.flatten.count a=1):pt L a<L.length:=by
 have:a∈L.flatten:=List.one_le_count_iff.1 (by omega)
 obtain⟨l,hl,ha⟩:=List.mem_flatten.1 this
 exact List.findIdx_lt_length_of_exists ⟨l,hl,by simpa using ha⟩
theorem pt_mem {L:List (List Nat)} {a i:Nat} (h1:L.flatten.count a=1) (hi:i<L.length):a∈L.getD i []↔pt L a=i:=by
 constructor
 · exact pt_is h1 hi
 · intro e
   have hl:pt L a<L.length:=by omega
   have hm:=List.findIdx_getElem (p:=fun l=>decide (a∈l)) (xs:=L) (w:=hl)
   rw[<-e,List.getD_eq_getElem?_getD,List.getElem?_eq_getElem hl]
   exact of_decide_eq_true hm
end Go.Proofs.YtnemnpcbhfedcaaGreatDoor
/- Plain mathematics: rings of a renaming are closed; in which face a dart lies. -/
namespace Go.Proofs.YtnemnpcbhfedcaaGreatDoor
theorem un_le (l:List Bool) (y:Nat):un l y<=1:=by unfold un;split<;>omega
theorem unseen_none {l:List Bool} (h:unseen l=0) (x:Nat):l.getD x true=true:=by
 cases e:l.getD x true with
 |true=>rfl
 |false=>have:=unseen_pos e;omega
theorem walkF_chain (f : Nat → Nat) : ∀ (m : Nat) (seen : List Bool) (x : Nat) (acc : List Nat), unseen seen ≤ m → (∀ i, i + 1 < acc.length → acc.getD (i + 1) 0 = f (acc.getD i 0)) → (0 < acc.length → x = f (acc.getD (acc.length - 1) 0)) →
    (∀ i,i+1<(walkF f m seen x acc).1.length->(walkF f m seen x acc).1.getD (i+1) 0=f ((walkF f m seen x acc).1.getD i 0))/\(0<(walkF f m seen x acc).1.length->un (walkF f m seen x acc).2 (f ((walkF f m seen x acc).1.getD ((walkF f m seen x acc).1.length-1) 0))=0):=by
 intro m
 induction m with
 |zero=>
  intro seen x acc hu hc hx
  refine⟨hc,fun h0=>?_⟩
  show un seen (f (acc.getD (acc.length-1) 0))=0
  rw[<-hx h0]
  unfold un
  rw[if_pos (unseen_none (by omega) x)]
 |succ m ih=>
  intro seen x acc hu hc hx
  by_cases hs:seen.getD x true=true
  · rw[walkF_seen hs]
    refine⟨hc,fun h0=>?_⟩
    show un seen (f (acc.getD (acc.length-1) 0))=0
    rw[<-hx h0]
    unfold un
    rw[if_pos hs]
  · have hs':seen.getD x true=false:=by simpa using hs
    obtain⟨e,hu2⟩:=walkF_more (f:=f) (acc:=acc) hs' hu
    rw[e]
    refine ih _ _ _ hu2 (fun i hi=>?_) (fun _=>?_)
    · rw[List.length_append,List.length_singleton]at hi
      by_cases hi2:i+1<acc.length
      · have e1:(acc++[x]).getD (i+1) 0=acc.getD (i+1) 0:=by simp[List.getD_eq_getElem?_getD,List.getElem?_append_left hi2]
        have e2:(acc++[x]).getD i 0=acc.getD i 0:=by simp[List.getD_eq_getElem?_getD,List.getElem?_append_left (show i<acc.length by omega)]
        rw[e1,e2]
        exact hc i hi2
      · have hl:acc.length=i+1:=by omega
        have e1:(acc++[x]).getD (i+1) 0=x:=by rw[<-hl];simp[List.getD_eq_getElem?_getD]
        have e2:(acc++[x]).getD i 0=acc.getD i 0:=by simp[List.getD_eq_getElem?_getD,List.getElem?_append_left (show i<acc.length by omega)]
        rw[e1,e2,hx (by omega),hl]
        rfl
    · have e1:(acc++[x]).getD ((acc++[x]).length-1) 0=x:=by simp[List.getD_eq_getElem?_getD]
      rw[e1]
theorem mem_atZ {l:List Nat} {y:Nat} (h:y∈l):∃ i,i<l.length/\l.getD i 0=y:=by
 obtain⟨i,hi,e⟩:=List.getElem_of_mem h
 exact⟨i,hi,by rw[List.getD_eq_getElem?_getD,List.getElem?_eq_getElem hi];exact e⟩
theorem at_mem {l:List Nat} {i:Nat} (h:i<l.length):l.getD i 0∈l:=by
 rw[List.getD_eq_getElem?_getD,List.getElem?_eq_getElem h]
 exact List.getElem_mem h
theorem at_ne {l:List Nat} (h:∀ y,l.count y<=1) {i j:Nat} (hij:i<j) (hj:j<l.length):l.getD i 0≠l.getD j 0:=by
 have hn:l.Nodup:=List.nodup_iff_count.2 h
 have:=List.pairwise_iff_getElem.1 hn i j (by omega) hj hij
 rw[List.getD_eq_getElem?_getD,List.getElem?_eq_getElem (by omega),List.getD_eq_getElem?_getD,List.getElem?_eq_getElem hj]
 exact this
theorem rings_closed {f : Nat → Nat} {n : Nat} (hf : ∀ a, 1 ≤ a → a ≤ n → 1 ≤ f a ∧ f a ≤ n) (hi : ∀ a b, 1 ≤ a → a ≤ n → 1 ≤ b → b ≤ n → f a = f b → a = b) : ∀ a, a ≤ n →
    (∀ l,l∈(walksTo f n a).1->∀ y,y∈l->f y∈l)/\(∀ y,1<=y->y<=n->un (walksTo f n a).2 (f y)=0->un (walksTo f n a).2 y=0)/\
    (∀ l,l∈(walksTo f n a).1->(∀ i,i+1<l.length->l.getD (i+1) 0=f (l.getD i 0))/\f (l.getD (l.length-1) 0)=l.getD 0 0):=by
 intro a
 induction a with
 |zero=>
  intro _
  refine⟨fun l hl=>absurd hl (by simp[walksTo]),fun y h1 h2 h3=>?_,fun l hl=>absurd hl (by simp[walksTo])⟩
  have h4:=hf y h1 h2
  exfalso
  have:un (walksTo f n 0).2 (f y)=1:=by
   simp[walksTo,un,List.getD_eq_getElem?_getD,show f y<n+1 by omega]
  omega
 |succ a ih=>
  intro ha
  obtain⟨i1,i2,i3⟩:=ih (by omega)
  have hin:=walksTo_mem hf a (by omega)
  generalize hr:walksTo f n a=r at i1 i2 i3 hin
  have hlen:r.2.length=n+1:=by rw[<-hr];exact walksTo_len f n a
  have hch:=walkF_chain f (n+1) r.2 (a+1) [] (by have:=unseen_le r.2;omega) (fun i hi=>by simp at hi) (fun h0=>by simp at h0)
  have hmem:=walkF_mem hf (n+1) r.2 (a+1) [] (by omega) ha (fun y hy=>by cases hy)
  have hcnt:=walkF_count f (n+1) r.2 (a+1) []
  have hkeep:=walkF_keep f (n+1) r.2 (a+1) []
  have e:walksTo f n (a+1)=(if(walkF f (n+1) r.2 (a+1) []).1=[] then r.1 else r.1++[(walkF f (n+1) r.2 (a+1) []).1],(walkF f (n+1) r.2 (a+1) []).2):=by simp only[walksTo,hr]
  rw[e]
  generalize walkF f (n+1) r.2 (a+1) []=s at hch hmem hcnt hkeep
  obtain⟨l,sn⟩:=s
  simp only[List.count_nil,Nat.zero_add]at hch hmem hcnt hkeep ⊢
  have hc1:∀ y,l.count y<=1:=fun y=>by have:=hcnt y;have:=un_le r.2 y;omega
  have hin1:∀ y,y∈l->un r.2 y=1/\un sn y=0:=fun y hy=>by
   have h1:1<=l.count y:=List.one_le_count_iff.2 hy
   have h2:=hcnt y
   have h3:=un_le r.2 y
   omega
  -- what stands behind the last is the first
  have hend:0<l.length->f (l.getD (l.length-1) 0)=l.getD 0 0:=fun h0=>by
   have hlast:=at_mem (l:=l) (i:=l.length-1) (by omega)
   have hb:=hmem _ hlast
   have hz:=hch.2 h0
   have hnz:un r.2 (f (l.getD (l.length-1) 0))≠0:=fun q=>by
    have:=i2 _ hb.1 hb.2 q
    have:=(hin1 _ hlast).1
    omega
   have hz1:f (l.getD (l.length-1) 0)∈l:=by
    have h2:=hcnt (f (l.getD (l.length-1) 0))
    refine List.one_le_count_iff.1 ?_
    omega
   obtain⟨j,hj,ej⟩:=mem_atZ hz1
   cases j with
   |zero=>exact ej.symm
   |succ j=>
    exfalso
    have h5:=hch.1 j hj
    rw[ej]at h5
    have hbj:=hmem _ (at_mem (l:=l) (i:=j) (by omega))
    have h6:=hi _ _ hb.1 hb.2 hbj.1 hbj.2 h5
    exact at_ne hc1 (i:=j) (j:=l.length-1) (by omega) (by omega) h6.symm
  refine⟨?_,fun y h1 h2 h3=>?_,fun l' hl'=>?_⟩
  · intro l' hl' y hy
    by_cases hnil:l=[]
    · rw[if_pos hnil]at hl'
      exact i1 l' hl' y hy
    · rw[if_neg hnil]at hl'
      rcases List.mem_append.1 hl' with h|h
      · exact i1 l' h y hy
      · obtain rfl:=List.mem_singleton.1 h
        obtain⟨i,hil,rfl⟩:=mem_atZ hy
        by_cases hlast:i+1<l'.length
        · rw[<-hch.1 i hlast]
          exact at_mem hlast
        · have hi1:i=l'.length-1:=by omega
          rw[hi1,hend (by omega)]
          exact at_mem (by omega)
  · by_cases hq:un r.2 (f y)=0
    · exact hkeep y (i2 y h1 h2 hq)
    · have hmy:f y∈l:=List.one_le_count_iff.1 (by have:=hcnt (f y);omega)
      obtain⟨j,hj,ej⟩:=mem_atZ hmy
      cases j with
      |zero=>
       have hlast:=at_mem (l:=l) (i:=l.length-1) (by omega)
       have hb:=hmem _ hlast
       have:=hi y _ h1 h2 hb.1 hb.2 (by rw[hend (by omega),ej])
       rw[this]
       exact(hin1 _ hlast).2
      |succ j=>
       have h5:=hch.1 j hj
       rw[ej]at h5
       have hbj:=hmem _ (at_mem (l:=l) (i:=j) (by omega))
       have:=hi y _ h1 h2 hbj.1 hbj.2 h5
       rw[this]
       exact(hin1 _ (at_mem (by omega))).2
  · by_cases hnil:l=[]
    · rw[if_pos hnil]at hl'
      exact i3 l' hl'
    · rw[if_neg hnil]at hl'
      rcases List.mem_append.1 hl' with h|h
      · exact i3 l' h
      · obtain rfl:=List.mem_singleton.1 h
        have h0:0<l'.length:=by
         cases l' with
         |nil=>exact absurd rfl hnil
         |cons=>simp
        exact⟨hch.1,hend h0⟩
theorem fd_inj {C:List Cr} {loops:Int} (hm:mayD C loops=true) (i j:Nat) (h1:1<=i) (h2:i<=4*C.length) (h3:1<=j) (h4:j<=4*C.length) (e:fd C i=fd C j):i=j:=by
 obtain⟨p1,p2,p3⟩:=d_may hm i h1 h2
 obtain⟨q1,q2,q3⟩:=d_may hm j h3 h4
 obtain⟨a1,a2,a3,a4⟩:=fd_may hm i h1 h2
 obtain⟨b1,b2,b3,b4⟩:=fd_may hm j h3 h4
 rw[e]at a1 a2
 have hA:=dA_le b3 b4
 have e1:=end_one hm _ hA.1 hA.2 _ _ _ p2 (Nat.mod_lt _ (by decide)) a1 a2
 have e2:=end_one hm _ hA.1 hA.2 _ _ _ q2 (Nat.mod_lt _ (by decide)) b1 b2
 rw[e1]at e2
 have hcc:dC C i=dC C j:=by have:=congrArg Prod.fst e2;simp only at this;omega
 have hss:dS C i=dS C j:=by have:=congrArg Prod.snd e2;simp only at this;omega
 have u:=en_may hm (dA i) (!dB i) (dA_le h1 h2).1 (dA_le h1 h2).2
 have v:=en_may hm (dA j) (!dB j) (dA_le h3 h4).1 (dA_le h3 h4).2
 have u1:(C.getD (dC C i) Cr.none).arc (dS C i)=(dA i:Int):=u.2.2.2.1
 have v1:(C.getD (dC C j) Cr.none).arc (dS C j)=(dA j:Int):=v.2.2.2.1
 have u2:(C.getD (dC C i) Cr.none).comes (dS C i)=(!dB i):=u.2.2.2.2
 have v2:(C.getD (dC C j) Cr.none).comes (dS C j)=(!dB j):=v.2.2.2.2
 rw[hcc,hss]at u1 u2
 have h5:dA i=dA j:=by omega
 have h6:dB i=dB j:=by
  rw[u2]at v2
  revert v2
  cases dB i<;>cases dB j<;>simp
 rw[<-mk_d h1,<-mk_d h3,h5,h6]
def fo (C:List Cr) (j:Nat):Nat:=pt (facesM C) j
theorem fo_lt {C:List Cr} (j:Nat) (h1:1<=j) (h2:j<=4*C.length):fo C j<(facesM C).length:=pt_lt (walks_once (fd C) (4*C.length) j h1 h2)
theorem fo_fd {C:List Cr} {loops:Int} (hm:mayD C loops=true) (j:Nat) (h1:1<=j) (h2:j<=4*C.length):fo C (fd C j)=fo C j:=by
 have hc:=fd_closed hm j h1 h2
 have hl:=fo_lt j h1 h2
 have hj:j∈(facesM C).getD (fo C j) []:=(pt_mem (walks_once (fd C) (4*C.length) j h1 h2) hl).2 rfl
 have hin:(facesM C).getD (fo C j) []∈facesM C:=by
  rw[List.getD_eq_getElem?_getD,List.getElem?_eq_getElem hl]
  exact List.getElem_mem hl
 have h3:=(rings_closed (fd_closed hm) (fun a b p q r s t=>fd_inj hm a b p q r s t) (4*C.length) (Nat.le_refl _)).1 _ hin j hj
 exact pt_is (walks_once (fd C) (4*C.length) _ hc.1 hc.2) hl h3
end Go.Proofs.YtnemnpcbhfedcaaGreatDoor
/- Tables of numbers that a call owns. -/
namespace Go.Proofs.YtnemnpcbhfedcaaGreatDoor
open Go.RowKit
def outC0 (m:Nat) (gs:Nat->Nat) (k:Nat):List Value:=(List.range m).map fun i=>if i<k then .slice (some ⟨gs i,0,none⟩) m m else .slice none 0 0
theorem outC0_len (m:Nat) (gs:Nat->Nat) (k:Nat):(outC0 m gs k).length=m:=by simp[outC0]
theorem outC0_get (m:Nat) (gs:Nat->Nat) (k i:Nat) (h:i<m):(outC0 m gs k)[i]?=some (if i<k then .slice (some ⟨gs i,0,none⟩) m m else .slice none 0 0):=by simp[outC0,h]
structure TabAt (B gt m:Nat) (gs:Nat->Nat) (k:Nat) (T:Nat->Nat->Int) (W:World):Prop where
 outer:W.ownsRow B 53 1 (.slice (some ⟨gt,0,none⟩) m m) m (outC0 m gs k)
 rows:∀ i,i<k->W.ownsRow B 3 1 (.slice (some ⟨gs i,0,none⟩) m m) m (intsV (mapI m (T i)))
 inj:∀ i j,i<k->j<k->gs i=gs j->i=j
theorem TabAt.any {B gt m k:Nat} {gs:Nat->Nat} {T:Nat->Nat->Int} {W W':World} (h:TabAt B gt m gs k T W) (hg:W.grownBy W' none):TabAt B gt m gs k T W':=
 ⟨own_any h.outer hg,fun i hi=>own_any (h.rows i hi) hg,h.inj⟩
theorem TabAt.cellO {B gt m k:Nat} {gs:Nat->Nat} {T:Nat->Nat->Int} {W:World} (h:TabAt B gt m gs k T W) (i:Nat) (hi:i<k) (hm:i<m):W.cell? ⟨gt,i,none⟩=some (.slice (some ⟨gs i,0,none⟩) m m):=by
 rw[h.outer.cellAt i (by omega),outC0_get m gs k i hm,if_pos hi]
theorem TabAt.cellR {B gt m k:Nat} {gs:Nat->Nat} {T:Nat->Nat->Int} {W:World} (h:TabAt B gt m gs k T W) (i j:Nat) (hi:i<k) (hj:j<m):W.cell? ⟨gs i,j,none⟩=some (.int .i64 (T i j)):=by
 rw[(h.rows i hi).cellAt j (by omega),intsV_get _ j (by rw[mapI_len];exact hj),mapI_at _ _ _ hj]
theorem TabAt.set {B gt m k:Nat} {gs:Nat->Nat} {T T':Nat->Nat->Int} {W:World} (h:TabAt B gt m gs k T W) (i j:Nat) (x:Int) (hi:i<k) (hT:∀ a b,a<k->b<m->T' a b=if a=i/\b=j then x else T a b):TabAt B gt m gs k T' (W.setCell ⟨gs i,j,none⟩ (.int .i64 x))/\W.grownBy (W.setCell ⟨gs i,j,none⟩ (.int .i64 x)) (some (gs i)):=by
 have hst:=(h.rows i hi).stored j (.int .i64 x)
 rw[intsV_set]at hst
 refine⟨⟨h.outer.kept hst.2 (own_ne h.outer (h.rows i hi) (by decide)),fun a ha=>?_,h.inj⟩,hst.2⟩
 by_cases e:a=i
 · subst e
   rw[mapI_set m (T a) (T' a) j x (fun b hb=>by rw[hT a b ha hb];by_cases e:b=j<;>simp[e])]at hst
   exact hst.1
 · have hr:=(h.rows a ha).kept hst.2 (Or.inr (fun q=>e (h.inj a i ha hi (Option.some.inj q))))
   rw[mapI_congr m (T' a) (T a) (fun b hb=>by rw[hT a b ha hb,if_neg (fun q=>e q.1)])]
   exact hr
theorem TabAt.more {B gt m k g : Nat} {gs : Nat → Nat} {T : Nat → Nat → Int} {W W1 : World} (h : TabAt B gt m gs k T W) (hg : W.grownBy W1 none) (hrow : W1.ownsRow B 3 1 (.slice (some ⟨g, 0, none⟩) m m) m (intsV (mapI m (T k)))) (hnew : W.heap.size ≤ g) :
    TabAt B gt m (fun i=>if i=k then g else gs i) (k+1) T (W1.setCell ⟨gt,k,none⟩ (.slice (some ⟨g,0,none⟩) m m))/\W1.grownBy (W1.setCell ⟨gt,k,none⟩ (.slice (some ⟨g,0,none⟩) m m)) (some gt):=by
 have h1:=h.any hg
 have hst:=h1.outer.stored k (.slice (some ⟨g,0,none⟩) m m)
 have hlt:∀ i,i<k->gs i<g:=fun i hi=>by have:=((h.rows i hi).lt (gs i) rfl).2;omega
 refine⟨⟨?_,fun i hi=>?_,fun i j hi hj e=>?_⟩,hst.2⟩
 · have e : (outC0 m gs k).set k (.slice (some ⟨g, 0, none⟩) m m) = outC0 m (fun i => if i = k then g else gs i) (k + 1) := by
     apply List.ext_getElem?
     intro j
     by_cases hj:j<m
     · rw[outC0_get _ _ _ _ hj,List.getElem?_set,outC0_len]
       by_cases e:k=j
       · subst e;simp[hj]
       · rw[if_neg e,outC0_get _ _ _ _ hj]
         by_cases h2:j<k
         · rw[if_pos h2,if_pos (by omega),if_neg (by omega)]
         · rw[if_neg h2,if_neg (by omega)]
     · rw[List.getElem?_eq_none (by simp[outC0_len];omega),List.getElem?_eq_none (by simp[outC0_len];omega)]
   rw[<-e]
   exact hst.1
 · by_cases e:i=k
   · subst e
     simp only[if_true]
     exact hrow.kept hst.2 (own_ne hrow h1.outer (by decide))
   · simp only[if_neg e]
     have hr:=h1.rows i (by omega)
     exact hr.kept hst.2 (own_ne hr h1.outer (by decide))
 · have e:(if i=k then g else gs i)=(if j=k then g else gs j):=e
   by_cases e1:i=k
   · by_cases e2:j=k
     · omega
     · rw[if_pos e1,if_neg e2]at e
       have:=hlt j (by omega)
       omega
   · by_cases e2:j=k
     · rw[if_neg e1,if_pos e2]at e
       have:=hlt i (by omega)
       omega
     · rw[if_neg e1,if_neg e2]at e
       exact h.inj i j (by omega) (by omega) e
theorem made_nils (n:Nat):(madeCells (Value.slice none 0 0).cells (n*1)).toList=outC0 n (fun _=>0) 0:=by
 have e:(Value.slice none 0 0).cells=#[Value.slice none 0 0]:=rfl
 rw[e,toList_madeCells_one,Nat.mul_one]
 apply List.ext_getElem?
 intro j
 by_cases hj:j<n
 · rw[outC0_get _ _ _ _ hj,if_neg (by omega)];simp[hj]
 · rw[List.getElem?_eq_none (by simp;omega),List.getElem?_eq_none (by simp[outC0_len];omega)]
theorem TabAt.congr {B gt m k:Nat} {gs:Nat->Nat} {T T':Nat->Nat->Int} {W:World} (h:TabAt B gt m gs k T W) (e:∀ x y,x<k->y<m->T' x y=T x y):TabAt B gt m gs k T' W:=
 ⟨h.outer,fun i hi=>by rw[mapI_congr m (T' i) (T i) (fun y hy=>e i y hi hy)];exact h.rows i hi,h.inj⟩
theorem TabAt.low {B B' gt m k:Nat} {gs:Nat->Nat} {T:Nat->Nat->Int} {W:World} (h:TabAt B gt m gs k T W) (hB:B'<=B):TabAt B' gt m gs k T W:=
 ⟨own_low h.outer hB,fun i hi=>own_low (h.rows i hi) hB,h.inj⟩
end Go.Proofs.YtnemnpcbhfedcaaGreatDoor
/- Plain mathematics: labels merged place by place. -/
namespace Go.Proofs.YtnemnpcbhfedcaaGreatDoor
open Go.RowKit
theorem cut_one {T G:Prop} (h:Hid T->G) (hT:T):G:=h hT
def merTo (W:List Nat) (x y k:Nat):List Nat:=(List.range W.length).map fun v=>if v<k then(mer W x y).getD v 0 else W.getD v 0
theorem merTo_len (W:List Nat) (x y k:Nat):(merTo W x y k).length=W.length:=by simp[merTo]
theorem merTo_at (W:List Nat) (x y k v:Nat) (hv:v<W.length):(merTo W x y k).getD v 0=if v<k then(mer W x y).getD v 0 else W.getD v 0:=by simp[merTo,List.getD_eq_getElem?_getD,hv]
theorem getD_ext {l m:List Nat} (h:l.length=m.length) (g:∀ v,v<l.length->l.getD v 0=m.getD v 0):l=m:=by
 refine List.ext_getElem h fun i h1 h2=>?_
 have:=g i h1
 simpa[List.getD_eq_getElem?_getD,h1,h2] using this
theorem merTo_zero (W:List Nat) (x y:Nat):merTo W x y 0=W:=getD_ext (merTo_len _ _ _ _) fun v hv=>by
 rw[merTo_len]at hv;rw[merTo_at _ _ _ _ _ hv,if_neg (by omega)]
theorem merTo_all (W:List Nat) (x y:Nat):merTo W x y W.length=mer W x y:=getD_ext (by rw[merTo_len,mer_len]) fun v hv=>by
 rw[merTo_len]at hv;rw[merTo_at _ _ _ _ _ hv,if_pos hv]
theorem merTo_next (W:List Nat) (x y k z:Nat) (hk:k<W.length) (hz:(mer W x y).getD k 0=z):(merTo W x y k).set k z=merTo W x y (k+1):=getD_ext (by simp[merTo_len]) fun v hv=>by
 have hv':v<W.length:=by simpa[merTo_len] using hv
 rw[getD_set _ _ _ _ (by rw[merTo_len];exact hk),merTo_at _ _ _ _ _ hv',merTo_at _ _ _ _ _ hv']
 by_cases e:v=k
 · subst e;rw[if_pos rfl,if_pos (by omega),hz]
 · rw[if_neg e]
   by_cases h2:v<k
   · rw[if_pos h2,if_pos (by omega)]
   · rw[if_neg h2,if_neg (by omega)]
theorem merTo_same (W:List Nat) (x y k:Nat) (hk:k<W.length) (hz:(mer W x y).getD k 0=W.getD k 0):merTo W x y k=merTo W x y (k+1):=getD_ext (by simp[merTo_len]) fun v hv=>by
 have hv':v<W.length:=by simpa[merTo_len] using hv
 rw[merTo_at _ _ _ _ _ hv',merTo_at _ _ _ _ _ hv']
 by_cases e:v=k
 · subst e;rw[if_neg (by omega),if_pos (by omega),hz]
 · by_cases h2:v<k
   · rw[if_pos h2,if_pos (by omega)]
   · rw[if_neg h2,if_neg (by omega)]
theorem mers_len (E:List (Nat×Nat)):∀ W:List Nat,(mers W E).length=W.length:=by
 induction E with
 |nil=>intro W;rfl
 |cons e E ih=>intro W;rw[mers,ih,mer_len]
end Go.Proofs.YtnemnpcbhfedcaaGreatDoor
/- Plain mathematics: a drawing is coloured in as many ways by arcs as by overpasses. -/
namespace Go.Proofs.YtnemnpcbhfedcaaGreatDoor
theorem rootsN_at (W:List Nat) (a:Nat) (h1:1<=a):rootsN W (a+1)=rootsN W a+(if W.getD a 0=a then 1 else 0):=by
 show rootsN W a+_=_
 by_cases e:W.getD a 0=a
 · rw[if_pos ⟨h1,e⟩,if_pos e]
 · rw[if_neg (fun h=>e h.2),if_neg e]
end Go.Proofs.YtnemnpcbhfedcaaGreatDoor
/- Plain mathematics: both searches count the same. -/
namespace Go.Proofs.YtnemnpcbhfedcaaGreatDoor
theorem ovM_in {C:List Cr} {loops:Int} (hm:mayD C loops=true) (a:Nat) (h1:1<=a) (h2:a<=2*C.length):ovM C a<ovC C:=by
 have hL:=lowM_least (ovE_lt hm)
 have hp:=hL.pos (fun e he=>⟨(ovE_in hm e he).1.1,(ovE_in hm e he).2.1⟩) (v:=a) (by omega) h1
 have h3:=rootsN_at (lowM C) ((lowM C).getD a 0) hp
 rw[if_pos (hL.root (by omega))]at h3
 have h4:=rootsN_mono (lowM C) ((lowM C).getD a 0+1) (2*C.length+1) (by have:=hL.le (v:=a) (by omega);omega)
 show rootsN (lowM C) ((lowM C).getD a 0)<rootsN (lowM C) (2*C.length+1)
 omega
end Go.Proofs.YtnemnpcbhfedcaaGreatDoor
/- Tellings of pieces: plain mathematics; the walk of ref.otherEnd. -/
namespace Go.Proofs.YtnemnpcbhfedcaaGreatDoor
open Go.RowKit
def nbS (C:List Cr) (k s:Nat):Nat:=enS C ((C.getD k Cr.none).arc s).toNat (!(C.getD k Cr.none).comes s)
theorem nb_may {C : List Cr} {loops : Int} (hm : mayD C loops = true) (k s : Nat) (hk : k < C.length) (hs : s < 4) :
    (1<=((C.getD k Cr.none).arc s).toNat/\((C.getD k Cr.none).arc s).toNat<=2*C.length/\(C.getD k Cr.none).arc s=(((C.getD k Cr.none).arc s).toNat:Int))/\
    endTo C ((C.getD k Cr.none).arc s).toNat (!(C.getD k Cr.none).comes s) C.length=((nbC C k s:Int),(nbS C k s:Int))/\nbC C k s<C.length/\nbS C k s<4:=by
 have hf:=may_fit hm k s hk hs
 have g1:=hf.1
 have g2:=hf.2.1
 have ha:1<=((C.getD k Cr.none).arc s).toNat/\((C.getD k Cr.none).arc s).toNat<=2*C.length:=by omega
 have h:=en_may hm _ (!(C.getD k Cr.none).comes s) ha.1 ha.2
 exact⟨⟨ha.1,ha.2,by omega⟩,h.1,h.2.1,h.2.2.1⟩
def teS (C:List Cr) (c:Nat) (p:List Nat×List Int) (s:Nat):List Nat×List Int:=
 let o:=if nbC C c s∈p.1 then p.1 else p.1++[nbC C c s]
 (o,p.2++[(o.idxOf (nbC C c s):Int),(nbS C c s:Int)])
def teK (C:List Cr) (i:Nat) (p:List Nat×List Int):Nat->List Nat×List Int
 |0=>(p.1,p.2++[if(C.getD (p.1.getD i 0) Cr.none).plus=true then 1 else 0])
 |k+1=>teS C (p.1.getD i 0) (teK C i p k) k
def teI (C:List Cr) (first:Nat):Nat->List Nat×List Int
 |0=>([first],[])
 |i+1=>if i<(teI C first i).1.length then teK C i (teI C first i) 4 else teI C first i
def te (C:List Cr) (first:Nat):List Nat×List Int:=teI C first C.length
structure TeOk (C:List Cr) (p:List Nat×List Int):Prop where
 lt:∀ x,x∈p.1->x<C.length
 nd:p.1.Nodup
theorem TeOk.few {C:List Cr} {p:List Nat×List Int} (h:TeOk C p):p.1.length<=C.length:=by
 have:=List.Nodup.length_le_of_subset h.nd (l₂:=List.range C.length) (fun x hx=>List.mem_range.2 (h.lt x hx))
 simpa using this
theorem teS_ok {C:List Cr} {loops:Int} (hm:mayD C loops=true) {c:Nat} (hc:c<C.length) {p:List Nat×List Int} (h:TeOk C p) {s:Nat} (hs:s<4):TeOk C (teS C c p s):=by
 have hn:=(nb_may hm c s hc hs).2.2.1
 unfold teS
 simp only
 split
 · exact⟨h.lt,h.nd⟩
 · rename_i hno
   refine⟨fun x hx=>?_,?_⟩
   · rcases List.mem_append.1 hx with hx|hx
     · exact h.lt x hx
     · simp only[List.mem_singleton]at hx;omega
   · refine List.nodup_append.2 ⟨h.nd,by simp,fun a ha b hb e=>?_⟩
     simp only[List.mem_singleton]at hb
     rw[e,hb]at ha
     exact hno ha
end Go.Proofs.YtnemnpcbhfedcaaGreatDoor
/- Which of two tellings is less: the walks of cmp.Compare, slices.Compare and canon.compare. -/
namespace Go.Proofs.YtnemnpcbhfedcaaGreatDoor
open Go.RowKit
def cmpI (x y:Int):Int:=if x<y then -1 else if y<x then 1 else 0
def lexC:List Int->List Int->Int
 |[],[]=>0
 |[],_::_ => -1
 |_::_,[]=>1
 |x::s,y::t=>if x=y then lexC s t else cmpI x y
def cmpT (p q:List Nat×List Int):Int:=if p.1.length=q.1.length then lexC p.2 q.2 else cmpI p.1.length q.1.length
end Go.Proofs.YtnemnpcbhfedcaaGreatDoor
/- Diagrams under way: crossings that are appended to one; the walks of drawing.crossOf and drawing.Turned. -/
namespace Go.Proofs.YtnemnpcbhfedcaaGreatDoor
open Go.RowKit
set_option maxHeartbeats 2000000
set_option maxRecDepth 100000
theorem cells_append (C D:List Cr):crossCells (C++D)=crossCells C++crossCells D:=by simp[crossCells]
theorem new_cell5 (W:World) (a b c d p:Value) (e:TypeId):∀ j u,[a,b,c,d,p][j]?=some u->(W.alloc (.cells #[a,b,c,d,p] e)).cell? ((⟨W.heap.size,0,none⟩:Addr).add j)=some u:=by
 intro j u hj
 rw[Addr.add_lit,Nat.zero_add]
 have hh:(W.alloc (.cells #[a,b,c,d,p] e)).heap[W.heap.size]?=some (.cells #[a,b,c,d,p] e (0,0)):=Array.getElem?_push_size
 match j,hj with
 |0,hj=>simp at hj;subst hj;exact block_cell hh rfl
 |1,hj=>simp at hj;subst hj;exact block_cell hh rfl
 |2,hj=>simp at hj;subst hj;exact block_cell hh rfl
 |3,hj=>simp at hj;subst hj;exact block_cell hh rfl
 |4,hj=>simp at hj;subst hj;exact block_cell hh rfl
structure OutAt (w:World) (B g:Nat) (v:Value) (loops:Int) (C:List Cr):Prop where
 box:w.heap[g]?=some (.cells #[v,.int .i64 loops] 24 (0,0))
 row:w.ownsRow B 51 5 v C.length (crossCells C)
theorem OutAt.nil {w:World} {B g:Nat} {loops:Int} (h:w.heap[g]?=some (.cells #[.slice none 0 0,.int .i64 loops] 24 (0,0))):OutAt w B g (.slice none 0 0) loops []:=⟨h,World.ownsRow_nil _ _ _ _⟩
theorem OutAt.on {w w':World} {B g:Nat} {v:Value} {loops:Int} {C:List Cr} (h:OutAt w B g v loops C) (hb:Below w.heap.size w w'):OutAt w' B g v loops C:=
 ⟨(hb.block _ (Array.getElem?_eq_some_iff.1 h.box).1).trans h.box,own_any h.row (grown_below hb none)⟩
theorem OutAt.kept {w w':World} {B g q:Nat} {v:Value} {loops:Int} {C:List Cr} (h:OutAt w B g v loops C) (hg:w.grownBy w' (some q)) (hq:q≠g) (hB:q<B):OutAt w' B g v loops C:=by
 refine⟨(hg.block _ (Array.getElem?_eq_some_iff.1 h.box).1 (fun e=>hq (Option.some.inj e).symm)).trans h.box,h.row.kept hg ?_⟩
 cases hv:v.ownBlock with
 |none=>exact Or.inl rfl
 |some k=>exact Or.inr (fun e=>by have h1:=(h.row.lt k hv).1;have h2:=Option.some.inj e;omega)
theorem OutAt.app {w w8:World} {B g:Nat} {v v8:Value} {loops:Int} {C:List Cr} {x:Cr} {o:Obj} {m:Nat} (h:OutAt w B g v loops C) (hgB:g<B) (hm:m=C.length+1) (hown8:w8.ownsRow B 51 5 v8 m (crossCells C++crossCells [x])) (hg8:(w.alloc o).grownBy w8 v.ownBlock):OutAt (w8.setCell ⟨g,0,none⟩ v8) B g v8 loops (C++[x]):=by
 have hlt:=(Array.getElem?_eq_some_iff.1 h.box).1
 have hb8:w8.heap[g]?=some (.cells #[v,.int .i64 loops] 24 (0,0)):=
  (hg8.block _ (by simp;omega) (fun e=>by have:=(h.row.lt g e.symm).1;omega)).trans (alloc_old h.box)
 refine⟨set_block hb8,?_⟩
 have hl:(C++[x]).length=m:=by rw[hm];simp
 rw[hl,cells_append]
 refine hown8.kept (set_grown w8 g 0 v8) ?_
 cases hv:v8.ownBlock with
 |none=>exact Or.inl rfl
 |some k=>exact Or.inr (fun e=>by have h1:=(hown8.lt k hv).1;have h2:=Option.some.inj e;omega)
theorem OutAt.below {w w8 W:World} {B B0 g:Nat} {v v8:Value} {loops:Int} {C:List Cr} {o:Obj} (h:OutAt w B g v loops C) (hb:Below B0 W w) (hB:B0<=B) (hs:B0<=w.heap.size) (h0:B0<=g) (hg8:(w.alloc o).grownBy w8 v.ownBlock):Below B0 W (w8.setCell ⟨g,0,none⟩ v8):=
 ((hb.alloc hs _).grown hg8 (by simp;omega) (fun q hq=>Nat.le_trans hB (h.row.lt q hq).1)).grown (set_grown w8 g 0 v8) (by have:=hg8.size;simp at this;omega) (fun q hq=>by have:=Option.some.inj hq;omega)
theorem OutAt.other {w w8:World} {B g k:Nat} {v v8:Value} {loops:Int} {C:List Cr} {o p:Obj} (h:OutAt w B g v loops C) (hk:w.heap[k]?=some p) (hkB:k<B) (hkg:k≠g) (hg8:(w.alloc o).grownBy w8 v.ownBlock):(w8.setCell ⟨g,0,none⟩ v8).heap[k]?=some p:=by
 have hlt:=(Array.getElem?_eq_some_iff.1 hk).1
 have hs:=hg8.size
 simp only[World.size_alloc]at hs
 have hb8:w8.heap[k]?=some p:=(hg8.block _ (by simp;omega) (fun e=>by have:=(h.row.lt k e.symm).1;omega)).trans (alloc_old hk)
 exact((set_grown w8 g 0 v8).block k (by omega) (fun e=>hkg (Option.some.inj e))).trans hb8
theorem OutAt.box8 {w w8:World} {B g:Nat} {v:Value} {loops:Int} {C:List Cr} {o:Obj} (h:OutAt w B g v loops C) (hgB:g<B) (hg8:(w.alloc o).grownBy w8 v.ownBlock):w8.heap[g]?=some (.cells #[v,.int .i64 loops] 24 (0,0)):=by
 have hlt:=(Array.getElem?_eq_some_iff.1 h.box).1
 exact(hg8.block _ (by simp;omega) (fun e=>by have:=(h.row.lt g e.symm).1;omega)).trans (alloc_old h.box)
def turn (x:Cr) (f:Nat):Cr:=⟨x.arc (f%4),x.arc ((f+1)%4),x.arc ((f+2)%4),x.arc ((f+3)%4),x.plus⟩
theorem crossOf_any (x : Cr) (w : World) :
    Calls Tryz.prog 76 #[.agg #[.int .i64 x.a,.int .i64 x.b,.int .i64 x.c,.int .i64 x.d],.bool x.plus] w fun e w'=>e=.returned (.agg #[.int .i64 x.a,.int .i64 x.b,.int .i64 x.c,.int .i64 x.d,.bool x.plus])/\Below w.heap.size w w':=by
 go_enter Tryz.func76,Tryz.ntmps76
 go_wp2
 exact bodyPost_ret (v:=.agg #[.int .i64 x.a,.int .i64 x.b,.int .i64 x.c,.int .i64 x.d,.bool x.plus]) (by simp[results,Tryz.results76,go_sem]) rfl ⟨rfl,below2 _ _ _⟩
def intArr (l:List Int):Array Value:=(l.map fun x=>Value.int .i64 x).toArray
theorem intArr_set (l:List Int) (p:Nat) (z:Int):(intArr l).setIfInBounds p (.int .i64 z)=intArr (l.set p z):=by
 simp[intArr,List.map_set]
theorem intArr_get (l:List Int) (p:Nat) (h:p<l.length):(intArr l)[p]?=some (.int .i64 (l.getD p 0)):=by
 simp[intArr,List.getD,h]
end Go.Proofs.YtnemnpcbhfedcaaGreatDoor
/- Sums: the walks of Drawing.Has and of the closure that numbers arcs anew, and of drawing.Renumbered with it. -/
namespace Go.Proofs.YtnemnpcbhfedcaaGreatDoor
open Go.RowKit
set_option maxHeartbeats 4000000
set_option maxRecDepth 100000
def tnum (x:Cr) (more cut other:Int) (k:Nat):Int:=if x.arc k=cut/\x.comes k=true then other else x.arc k+more
def tieX (more cut other:Int) (x:Cr):Cr:=⟨tnum x more cut other 0,tnum x more cut other 1,tnum x more cut other 2,tnum x more cut other 3,x.plus⟩
theorem tiedNum_any (x : Cr) (k : Nat) (more cut other : Int) (pc px po pm : Nat) (w : World) (hk : k < 4) (h1 : -1000 ≤ x.arc k ∧ x.arc k ≤ 1000) (h2 : -1000 ≤ more ∧ more ≤ 1000) (_l1 : pc < w.heap.size) (_l2 : px < w.heap.size) (l3 : po < w.heap.size) (l4 : pm < w.heap.size)
    (c0:w.cell? ⟨pc,0,none⟩=some (.int .i64 cut)) (c1:w.cell? ⟨px,0,none⟩=some (.int .i64 x.a)) (c2:w.cell? ⟨px,1,none⟩=some (.int .i64 x.b)) (c3:w.cell? ⟨px,2,none⟩=some (.int .i64 x.c)) (c4:w.cell? ⟨px,3,none⟩=some (.int .i64 x.d)) (c5:w.cell? ⟨px,4,none⟩=some (.bool x.plus))
    (c6:w.cell? ⟨po,0,none⟩=some (.int .i64 other)) (c7:w.cell? ⟨pm,0,none⟩=some (.int .i64 more)):
    Calls Tryz.prog 46 #[.int .i64 (k:Nat),.int .i64 (x.arc k),.pointer (some ⟨pc,0,none⟩),.pointer (some ⟨px,0,none⟩),.pointer (some ⟨po,0,none⟩),.pointer (some ⟨pm,0,none⟩)] w fun e w'=>e=.returned (.int .i64 (tnum x more cut other k))/\Below w.heap.size w w':=by
 have HT:Hid (tnum x more cut other k=if x.arc k=cut/\x.comes k=true then other else x.arc k+more):=(rfl:tnum x more cut other k=if x.arc k=cut/\x.comes k=true then other else x.arc k+more)
 generalize tnum x more cut other k=r at HT
 by_cases he:x.arc k=cut
 · have hd:(x.arc k==cut)=true:=by simpa using he
   cases hcm:x.comes k with
   |true=>
    rw[if_pos ⟨he,hcm⟩]at HT
    generalize x.arc k=z at hd h1 he
    go_enter Tryz.func46,Tryz.ntmps46
    go_wp2_with (go_at_call 47;refine(comesIn_any x k _ hk).mono ?_;rw[hcm];rintro e9 w1 ⟨rfl,hb1⟩;refine Hid.out ?_)
    refine Lib.hid ?_
    have d6:=bcell hb1 l3 c6
    have hs:=hb1.size
    have l5:po<w1.heap.size:=by omega
    clear c0 c1 c2 c3 c4 c5 c6 c7
    go_wp2
    go_ret
    exact⟨ret_int HT.out.symm,hb1⟩
   |false=>
    rw[if_neg (fun h=>by rw[hcm]at h;cases h.2)]at HT
    generalize x.arc k=z at hd h1 he HT
    have hw:IntKind.i64.wrap (z+more)=z+more:=IntWalk.i64_in _ (by omega)
    go_enter Tryz.func46,Tryz.ntmps46
    go_wp2_with (go_at_call 47;refine(comesIn_any x k _ hk).mono ?_;rw[hcm];rintro e9 w1 ⟨rfl,hb1⟩;refine Hid.out ?_)
    refine Lib.hid ?_
    have d7:=bcell hb1 l4 c7
    have hs:=hb1.size
    have l5:pm<w1.heap.size:=by omega
    clear c0 c1 c2 c3 c4 c5 c6 c7
    go_wp2
    go_ret
    exact⟨ret_int (by have:=HT.out;omega),hb1⟩
 · have hd:(x.arc k==cut)=false:=by rw[beq_eq_false_iff_ne];exact he
   rw[if_neg (fun h=>he h.1)]at HT
   generalize x.arc k=z at hd h1 he HT
   have hw:IntKind.i64.wrap (z+more)=z+more:=IntWalk.i64_in _ (by omega)
   go_enter Tryz.func46,Tryz.ntmps46
   go_wp2
   go_ret
   exact⟨ret_int (by have:=HT.out;omega),Below.refl _ _⟩
def numTo (g:Nat->Int) (k:Nat):List Int:=(List.range 4).map fun j=>if j<k then g j else 0
theorem numTo_len (g:Nat->Int) (k:Nat):(numTo g k).length=4:=by simp[numTo]
theorem numTo_next (g:Nat->Int) (k:Nat) (hk:k<4):(numTo g k).set k (g k)=numTo g (k+1):=by
 apply List.ext_getElem?
 intro i
 rw[List.getElem?_set]
 by_cases hi:i<4
 · by_cases e:k=i
   · subst e
     simp[numTo,hi]
   · rw[if_neg e]
     simp only[numTo,List.getElem?_map,List.getElem?_range hi,Option.map_some]
     congr 1
     by_cases h2:i<k
     · rw[if_pos h2,if_pos (by omega)]
     · rw[if_neg h2,if_neg (by omega)]
 · rw[List.getElem?_eq_none (by rw[numTo_len];omega),List.getElem?_eq_none (by rw[numTo_len];omega)]
   split
   · next e=>rw[if_neg (by rw[numTo_len];omega)]
   · rfl
theorem numTo_zero (g:Nat->Int):numTo g 0=[0,0,0,0]:=by simp[numTo,List.range_succ]
theorem numTo_four (g:Nat->Int):intArr (numTo g 4)=#[.int .i64 (g 0),.int .i64 (g 1),.int .i64 (g 2),.int .i64 (g 3)]:=by
 simp[numTo,intArr,List.range_succ]
def Boxes (w:World) (x:Cr) (more cut other:Int) (pc px po pm:Nat):Prop:=(pc<w.heap.size/\px<w.heap.size/\po<w.heap.size/\pm<w.heap.size)/\w.cell? ⟨pc,0,none⟩=some (.int .i64 cut)/\w.cell? ⟨px,0,none⟩=some (.int .i64 x.a)/\w.cell? ⟨px,1,none⟩=some (.int .i64 x.b)/\w.cell? ⟨px,2,none⟩=some (.int .i64 x.c)/\w.cell? ⟨px,3,none⟩=some (.int .i64 x.d)/\w.cell? ⟨px,4,none⟩=some (.bool x.plus)/\w.cell? ⟨po,0,none⟩=some (.int .i64 other)/\w.cell? ⟨pm,0,none⟩=some (.int .i64 more)
theorem Boxes.kept {B:Nat} {w w':World} {x:Cr} {more cut other:Int} {pc px po pm:Nat} (h:Boxes w x more cut other pc px po pm) (hb:Below B w w') (l1:pc<B) (l2:px<B) (l3:po<B) (l4:pm<B):Boxes w' x more cut other pc px po pm:=by
 obtain⟨⟨a1,a2,a3,a4⟩,c0,c1,c2,c3,c4,c5,c6,c7⟩:=h
 have hs:=hb.size
 exact⟨⟨by omega,by omega,by omega,by omega⟩,bcell hb l1 c0,bcell hb l2 c1,bcell hb l2 c2,bcell hb l2 c3,bcell hb l2 c4,bcell hb l2 c5,bcell hb l3 c6,bcell hb l4 c7⟩
theorem renumbered_any (x : Cr) (more cut other : Int) (pc px po pm : Nat) (w : World) (h1 : ∀ k, k < 4 → -1000 ≤ x.arc k ∧ x.arc k ≤ 1000) (h2 : -1000 ≤ more ∧ more ≤ 1000) (hX : Boxes w x more cut other pc px po pm) :
    Calls Tryz.prog 45 #[.agg #[.int .i64 x.a,.int .i64 x.b,.int .i64 x.c,.int .i64 x.d,.bool x.plus],.func (.func 46) #[] #[.pointer (some ⟨pc,0,none⟩),.pointer (some ⟨px,0,none⟩),.pointer (some ⟨po,0,none⟩),.pointer (some ⟨pm,0,none⟩)]] w fun e w'=>e=.returned (.agg #[.int .i64 (tieX more cut other x).a,.int .i64 (tieX more cut other x).b,.int .i64 (tieX more cut other x).c,.int .i64 (tieX more cut other x).d,.bool x.plus])/\Below w.heap.size w w':=by
 have HX:Hid (Boxes w x more cut other pc px po pm):=hX
 have H1:Hid (∀ k,k<4 -> -1000<=x.arc k/\x.arc k<=1000):=h1
 obtain⟨⟨l1,l2,l3,l4⟩,-⟩:=hX
 clear h1
 obtain⟨w0,hw0⟩:∃ w0,w0=((w.alloc (.cells #[.int .i64 x.a,.int .i64 x.b,.int .i64 x.c,.int .i64 x.d,.bool x.plus] 51)).alloc (.cells #[.int .i64 0,.int .i64 0,.int .i64 0,.int .i64 0,.bool false] 51)).alloc (.cells #[.int .i64 0,.int .i64 0,.int .i64 0,.int .i64 0] 115):=⟨_,rfl⟩
 have HW0:Hid (w0=((w.alloc (.cells #[.int .i64 x.a,.int .i64 x.b,.int .i64 x.c,.int .i64 x.d,.bool x.plus] 51)).alloc (.cells #[.int .i64 0,.int .i64 0,.int .i64 0,.int .i64 0,.bool false] 51)).alloc (.cells #[.int .i64 0,.int .i64 0,.int .i64 0,.int .i64 0] 115)):=hw0
 have hs0:w0.heap.size=w.heap.size+3:=by rw[hw0];simp
 have HB0:Hid (Below w.heap.size w w0):=(by rw[hw0];exact below3 _ _ _ _:Below w.heap.size w w0)
 have HT0:Hid (w0.heap[w.heap.size]?=some (.cells #[.int .i64 x.a,.int .i64 x.b,.int .i64 x.c,.int .i64 x.d,.bool x.plus] 51 (0,0))):=(by rw[hw0];exact alloc_old (alloc_old (alloc_at rfl)):w0.heap[w.heap.size]?=some (.cells #[.int .i64 x.a,.int .i64 x.b,.int .i64 x.c,.int .i64 x.d,.bool x.plus] 51 (0,0)))
 have HT1:Hid (w0.heap[w.heap.size+1]?=some (.cells #[.int .i64 0,.int .i64 0,.int .i64 0,.int .i64 0,.bool false] 51 (0,0))):=(by rw[hw0];exact alloc_old (alloc_at (by simp)):w0.heap[w.heap.size+1]?=some (.cells #[.int .i64 0,.int .i64 0,.int .i64 0,.int .i64 0,.bool false] 51 (0,0)))
 obtain⟨g,hg⟩:∃ g:Nat->Int,g=tnum x more cut other:=⟨_,rfl⟩
 have HG:Hid (g=tnum x more cut other):=hg
 clear hg
 have HT2:Hid (w0.heap[w.heap.size+1+1]?=some (.cells (intArr (numTo g 0)) 115 (0,0))):=(by rw[hw0,numTo_zero];exact alloc_at (by simp):w0.heap[w.heap.size+1+1]?=some (.cells (intArr (numTo g 0)) 115 (0,0)))
 have HTI:Hid (tieX more cut other x=⟨g 0,g 1,g 2,g 3,x.plus⟩):=(by rw[HG.out];rfl:tieX more cut other x=⟨g 0,g 1,g 2,g 3,x.plus⟩)
 clear hw0
 generalize tieX more cut other x=t at HTI
 obtain rfl:t=⟨g 0,g 1,g 2,g 3,x.plus⟩:=HTI.out
 clear HTI
 go_enter Tryz.func45,Tryz.ntmps45
 go_wp2_with (go_at_call 65;rw[<-HW0.out];refine(arcs_any x _).mono ?_;rintro e9 w1 ⟨rfl,hb1⟩;refine Hid.out ?_)
 refine Lib.hid ?_
 have HB1:Hid (Below w.heap.size w w1):=HB0.out.trans (hb1.mono (by omega))
 have hs1:=hb1.size
 have HA1:Hid (w1.heap[w.heap.size+1+1]?=some (.cells (intArr (numTo g 0)) 115 (0,0))):=(hb1.block _ (by omega)).trans HT2.out
 have HC1:Hid (w1.heap[w.heap.size]?=some (.cells #[.int .i64 x.a,.int .i64 x.b,.int .i64 x.c,.int .i64 x.d,.bool x.plus] 51 (0,0))):=(hb1.block _ (by omega)).trans HT0.out
 have HR1:Hid (w1.heap[w.heap.size+1]?=some (.cells #[.int .i64 0,.int .i64 0,.int .i64 0,.int .i64 0,.bool false] 51 (0,0))):=(hb1.block _ (by omega)).trans HT1.out
 clear hb1
 go_wp2
 go_loopw [10] (fun v10 wr=>∃ k:Nat,k<=4/\v10=.int .i64 (k:Nat)/\Hid (wr.heap[w.heap.size+1+1]?=some (.cells (intArr (numTo g k)) 115 (0,0)))/\Below (w.heap.size+1+1) w1 wr) (fun v10 _=>4-(intOf v10).toNat)
 case atStart=>exact⟨0,Nat.zero_le _,rfl,HA1.out,Below.refl _ _⟩
 case round=>
  rename World=>W1
  obtain⟨k,hk,rfl,hA,hb⟩:=hrel
  have hsz:=hb.size
  by_cases hkl:k<4
  · have hix:=index_arr x k hkl
    have HBX:Hid (Boxes W1 x more cut other pc px po pm):=HX.out.kept (HB1.out.trans (hb.mono (by omega))) l1 l2 l3 l4
    obtain⟨⟨m1,m2,m3,m4⟩,d0,d1,d2,d3,d4,d5,d6,d7⟩:=HBX.out
    have HGK:Hid (tnum x more cut other k=g k):=(by rw[HG.out]:tnum x more cut other k=g k)
    have HN:Hid (numTo g (k+1)=(numTo g k).set k (g k)):=(numTo_next g k hkl).symm
    have D0:Hid (Boxes W1 x more cut other pc px po pm):=HBX.out
    clear d0 d1 d2 d3 d4 d5 d6 d7
    go_wp2_with (go_at_call 46;refine(tiedNum_any x k more cut other pc px po pm _ hkl (H1.out k hkl) h2 m1 m2 m3 m4 D0.out.2.1 D0.out.2.2.1 D0.out.2.2.2.1 D0.out.2.2.2.2.1 D0.out.2.2.2.2.2.1 D0.out.2.2.2.2.2.2.1 D0.out.2.2.2.2.2.2.2.1 D0.out.2.2.2.2.2.2.2.2).mono ?_;rw[HGK.out];rintro e9 w2 ⟨rfl,hb2⟩;refine Hid.out ?_)
    refine Lib.hid ?_
    have HB2:Hid (Below W1.heap.size W1 w2):=hb2
    have hs2:=hb2.size
    have hA2:w2.heap[w.heap.size+1+1]?=some (.cells (intArr (numTo g k)) 115 (0,0)):=(hb2.block _ (by omega)).trans hA.out
    have HA2:Hid (w2.heap[w.heap.size+1+1]?=some (.cells (intArr (numTo g k)) 115 (0,0))):=hA2
    have e0:w2.cell? ⟨w.heap.size+1+1,k,none⟩=some (.int .i64 ((numTo g k).getD k 0)):=block_cell hA2 (intArr_get _ k (by rw[numTo_len];exact hkl))
    have z0:w2.frozen? ⟨w.heap.size+1+1,k,none⟩=false:=block_frozen hA2
    have hlt:w.heap.size+1+1<w2.heap.size:=by omega
    generalize (numTo g k).getD k 0=u at e0
    clear hb2 hA2
    go_wp2
    go_roundw
    case rel=>exact⟨k+1,by omega,by go_num,(by rw[HN.out,<-intArr_set];exact set_block HA2.out:(w2.setCell ⟨w.heap.size+1+1,k,none⟩ (.int .i64 (g k))).heap[w.heap.size+1+1]?=some (.cells (intArr (numTo g (k+1))) 115 (0,0))),(hb.trans (HB2.out.mono (by omega))).grown (set_grown w2 (w.heap.size+1+1) k (.int .i64 (g k))) (by omega) (fun q hq=>by have:=Option.some.inj hq;omega)⟩
    case measure=>simp only[intOf];omega
  · obtain rfl:k=4:=by omega
    have hA4:=hA.out
    rw[numTo_four]at hA4
    have hC:=(hb.block _ (by omega)).trans HC1.out
    have hR:=(hb.block _ (by omega)).trans HR1.out
    have HR:Hid (W1.heap[w.heap.size+1]?=some (.cells #[.int .i64 0,.int .i64 0,.int .i64 0,.int .i64 0,.bool false] 51 (0,0))):=hR
    have a0:W1.cell? ⟨w.heap.size+1+1,0,none⟩=some (.int .i64 (g 0)):=block_cell hA4 rfl
    have a1:W1.cell? ⟨w.heap.size+1+1,1,none⟩=some (.int .i64 (g 1)):=block_cell hA4 rfl
    have a2:W1.cell? ⟨w.heap.size+1+1,2,none⟩=some (.int .i64 (g 2)):=block_cell hA4 rfl
    have a3:W1.cell? ⟨w.heap.size+1+1,3,none⟩=some (.int .i64 (g 3)):=block_cell hA4 rfl
    have a4:W1.cell? ⟨w.heap.size,4,none⟩=some (.bool x.plus):=block_cell hC rfl
    have hlt:w.heap.size+1+1<W1.heap.size:=by omega
    have HBW:Hid (Below w.heap.size w W1):=HB1.out.trans (hb.mono (by omega))
    clear hA4 hC hR hA hb
    go_wp2_with (go_at_call 76;refine(crossOf_any ⟨(g 0),(g 1),(g 2),(g 3),x.plus⟩ _).mono ?_;rintro e9 w4 ⟨rfl,hb4⟩;refine Hid.out ?_)
    refine Lib.hid ?_
    have HR4:Hid (w4.heap[w.heap.size+1]?=some (.cells #[.int .i64 0,.int .i64 0,.int .i64 0,.int .i64 0,.bool false] 51 (0,0))):=(hb4.block _ (by omega)).trans HR.out
    have HB4:Hid (Below w.heap.size w w4):=HBW.out.trans (hb4.mono (by omega))
    have hs4:=hb4.size
    clear hb4 a0 a1 a2 a3 a4
    have r0:w4.cell? ⟨w.heap.size+1,0,none⟩=some (.int .i64 0):=block_cell HR4.out rfl
    have r1:w4.cell? ⟨w.heap.size+1,1,none⟩=some (.int .i64 0):=block_cell HR4.out rfl
    have r2:w4.cell? ⟨w.heap.size+1,2,none⟩=some (.int .i64 0):=block_cell HR4.out rfl
    have r3:w4.cell? ⟨w.heap.size+1,3,none⟩=some (.int .i64 0):=block_cell HR4.out rfl
    have r4:w4.cell? ⟨w.heap.size+1,4,none⟩=some (.bool false):=block_cell HR4.out rfl
    have f0:w4.frozen? ⟨w.heap.size+1,0,none⟩=false:=block_frozen HR4.out
    have f1:w4.frozen? ⟨w.heap.size+1,1,none⟩=false:=block_frozen HR4.out
    have f2:w4.frozen? ⟨w.heap.size+1,2,none⟩=false:=block_frozen HR4.out
    have f3:w4.frozen? ⟨w.heap.size+1,3,none⟩=false:=block_frozen HR4.out
    have f4:w4.frozen? ⟨w.heap.size+1,4,none⟩=false:=block_frozen HR4.out
    go_wp2
    have hX:=set_block (i:=4) (u:=.bool x.plus) (set_block (i:=3) (u:=.int .i64 (g 3)) (set_block (i:=2) (u:=.int .i64 (g 2)) (set_block (i:=1) (u:=.int .i64 (g 1)) (set_block (i:=0) (u:=.int .i64 (g 0)) HR4.out))))
    have x0:=block_cell (i:=0) (v:=.int .i64 (g 0)) hX rfl
    have x1:=block_cell (i:=1) (v:=.int .i64 (g 1)) hX rfl
    have x2:=block_cell (i:=2) (v:=.int .i64 (g 2)) hX rfl
    have x3:=block_cell (i:=3) (v:=.int .i64 (g 3)) hX rfl
    have x4:=block_cell (i:=4) (v:=.bool x.plus) hX rfl
    refine bodyPost_ret (v:=.agg #[.int .i64 (g 0),.int .i64 (g 1),.int .i64 (g 2),.int .i64 (g 3),.bool x.plus]) (by simp[results,Tryz.results45,go_sem,x0,x1,x2,x3,x4]) rfl ⟨rfl,?_⟩
    have hst:∀ (W:World) (u:Value) (i:Nat),Below w.heap.size w W->Below w.heap.size w (W.setCell ⟨w.heap.size+1,i,none⟩ u):=fun W u i h=>h.grown (set_grown W (w.heap.size+1) i u) h.size (fun q hq=>by have:=Option.some.inj hq;omega)
    exact hst _ _ _ (hst _ _ _ (hst _ _ _ (hst _ _ _ (hst _ _ _ HB4.out))))
end Go.Proofs.YtnemnpcbhfedcaaGreatDoor
/- The walk of Drawing.Has. -/
namespace Go.Proofs.YtnemnpcbhfedcaaGreatDoor
open Go.RowKit
set_option maxHeartbeats 1000000
set_option maxRecDepth 100000
def hasB (C:List Cr) (x:Int):Bool:=decide (1<=x)&&decide (x<=2*(C.length:Int))
theorem has_any (a : Option Addr) (cap : Nat) (C : List Cr) (loops : Int) (gF cF gT cT : Nat) (x : Int) (w : World) (hl : C.length ≤ 16) :
    Calls Tryz.prog 18 #[drV a cap C loops gF cF gT cT,.int .i64 x] w fun e w'=>e=.returned (.bool (hasB C x))/\Below w.heap.size w w':=by
 unfold drV
 have hb:∀ o,Below w.heap.size w (w.alloc o):=fun o=>(Below.refl _ _).alloc (Nat.le_refl _) o
 obtain⟨m,hm⟩:∃ m,2*C.length+1=m:=⟨_,rfl⟩
 have HM:=hidB hm
 have hm40:m<=40:=by omega
 rw[hm]
 clear hm
 by_cases h1:1<=x
 · have d1:decide (1<=x)=true:=by simpa using h1
   by_cases h2:x<(m:Int)
   · have d2:decide (x<(m:Int))=true:=by simpa using h2
     have HR:=hidB (show hasB C x=true by have:=HM.out;simp[hasB,h1];omega)
     go_enter Tryz.func18,Tryz.ntmps18
     go_wp2
     go_ret
     exact⟨ret_bool HR.out,hb _⟩
   · have d2:decide (x<(m:Int))=false:=by simpa using h2
     have HR:=hidB (show hasB C x=false by have:=HM.out;simp[hasB];omega)
     go_enter Tryz.func18,Tryz.ntmps18
     go_wp2
     go_ret
     exact⟨ret_bool HR.out,hb _⟩
 · have d1:decide (1<=x)=false:=by simpa using h1
   have HR:=hidB (show hasB C x=false by simp[hasB,h1])
   go_enter Tryz.func18,Tryz.ntmps18
   go_wp2
   go_ret
   exact⟨ret_bool HR.out,hb _⟩
end Go.Proofs.YtnemnpcbhfedcaaGreatDoor
/- The arc on which the other strand goes on; the walk of Drawing.Aside. -/
namespace Go.Proofs.YtnemnpcbhfedcaaGreatDoor
open Go.RowKit
set_option maxHeartbeats 4000000
set_option maxRecDepth 100000
def sxS (C:List Cr) (a:Nat):Nat:=if toS C a≠0 then 2 else if(C.getD (toC C a) Cr.none).plus=true then 1 else 3
def sx (C:List Cr) (a:Nat):Nat:=((C.getD (toC C a) Cr.none).arc (sxS C a)).toNat
theorem sxS_lt (C:List Cr) (a:Nat):sxS C a<4:=by
 unfold sxS
 split
 · omega
 · split<;>omega
theorem sx_may {C:List Cr} {loops:Int} (hm:mayD C loops=true) (a:Nat) (h1:1<=a) (h2:a<=2*C.length):(C.getD (toC C a) Cr.none).arc (sxS C a)=(sx C a:Int)/\1<=sx C a/\sx C a<=2*C.length:=by
 obtain⟨h3,h4,h5,h6,h7⟩:=to_may hm a h1 h2
 have hf:=may_fit hm (toC C a) (sxS C a) h4 (sxS_lt C a)
 have g1:=hf.1
 have g2:=hf.2.1
 unfold sx
 omega
theorem sx_closed {C:List Cr} {loops:Int} (hm:mayD C loops=true):∀ a,1<=a->a<=2*C.length->1<=sx C a/\sx C a<=2*C.length:=fun a h1 h2=>(sx_may hm a h1 h2).2
def circM (C:List Cr):List (List Nat):=(walksTo (sx C) (2*C.length) (2*C.length)).1
theorem aside_any (a : Option Addr) (cap : Nat) (C : List Cr) (loops : Int) (gF cF gT cT : Nat) (x : Nat) (w : World) (hm : mayD C loops = true) (h1 : 1 ≤ x) (h2 : x ≤ 2 * C.length) (hD : Dr w a cap C gF gT) :
    Calls Tryz.prog 42 #[drV a cap C loops gF cF gT cT,.int .i64 x] w fun e w'=>e=.returned (.int .i64 (sx C x:Nat))/\Below w.heap.size w w':=by
 obtain⟨b,off,rfl,hbw,hC⟩:=hD.cross (by omega)
 unfold drV
 have hT:=hD.toAt hm x h1 h2
 have c0:=hT.1
 have c1:=hT.2
 have hlt:=hD.ltT
 obtain⟨-,hi,hk,-,-⟩:=to_may hm x h1 h2
 have hov:=toS_over hm x h1 h2
 have HSX:Hid ((C.getD (toC C x) Cr.none).arc (if toS C x≠0 then 2 else if(C.getD (toC C x) Cr.none).plus=true then 1 else 3)=(sx C x:Int)):=(sx_may hm x h1 h2).1
 have HC:Hid (CrossAt w b off C):=hC
 clear hT hD hm hC
 generalize toS C x=k at c1 hk HSX hov
 generalize toC C x=i at c0 hi HSX
 generalize sx C x=z at HSX
 have hx:x<2*C.length+1:=by omega
 have hfd:=field_dart (z:Int)
 have hx0:(0:Int)<=(x:Int):=by omega
 have hx9:(x:Int)<2*(C.length:Int)+1:=by omega
 go_enter Tryz.func42,Tryz.ntmps42
 go_wp2_with (go_at_call 74;refine(spotAbove_any i k _ hk).mono ?_;rintro e9 w4 ⟨rfl,hb4⟩;refine Hid.out ?_)
 refine Lib.hid ?_
 have HBX:Hid (Below w.heap.size w ((w.alloc (.cells #[.slice (some ⟨b,off,none⟩) C.length cap,.int .i64 loops,.slice (some ⟨gF,0,none⟩) (2*C.length+1) cF,.slice (some ⟨gT,0,none⟩) (2*C.length+1) cT] 40)).alloc (.cells #[.int .i64 i,.int .i64 k] 125))):=below2 _ _ _
 have HB4:Hid (Below w.heap.size w w4):=HBX.out.trans (hb4.mono (by simp;omega))
 have HP4:Hid (w4.heap[w.heap.size]?=some (.cells #[.slice (some ⟨b,off,none⟩) C.length cap,.int .i64 loops,.slice (some ⟨gF,0,none⟩) (2*C.length+1) cF,.slice (some ⟨gT,0,none⟩) (2*C.length+1) cT] 40 (0,0))):=(hb4.block _ (by simp;omega)).trans (alloc_old (alloc_at rfl))
 have HS4:Hid (w4.heap[w.heap.size+1]?=some (.cells #[.int .i64 i,.int .i64 k] 125 (0,0))):=(hb4.block _ (by simp)).trans (alloc_at (by simp))
 have hs4:w.heap.size+2<=w4.heap.size:=by have:=hb4.size;simpa using this
 have HK:Hid (∀ w',Below w4.heap.size w4 w'->w'.cell? ⟨w.heap.size,0,none⟩=some (.slice (some ⟨b,off,none⟩) C.length cap)/\w'.cell? ⟨w.heap.size,1,none⟩=some (.int .i64 loops)/\w'.cell? ⟨w.heap.size,2,none⟩=some (.slice (some ⟨gF,0,none⟩) (2*C.length+1) cF)/\w'.cell? ⟨w.heap.size,3,none⟩=some (.slice (some ⟨gT,0,none⟩) (2*C.length+1) cT)/\w'.cell? ⟨w.heap.size+1,0,none⟩=some (.int .i64 i)):=fun w' hb=>by
  have g:=(hb.block _ (by omega)).trans HP4.out
  have g2:=(hb.block _ (by omega)).trans HS4.out
  exact⟨block_cell g rfl,block_cell g rfl,block_cell g rfl,block_cell g rfl,block_cell g2 rfl⟩
 have HC4:Hid (∀ w',Below w4.heap.size w4 w'->CrossAt w' b off C/\b<w'.heap.size):=fun w' hb=>by
  have hb2:=HB4.out.trans (hb.mono (by omega))
  exact⟨HC.out.on hb2 hbw,Nat.lt_of_lt_of_le hbw hb2.size⟩
 have HD0:Hid (Below w4.heap.size w4 w4.drew):=(Below.refl _ _).drew
 clear hb4 c0 c1 HBX
 obtain⟨t0,t1,t2,t3,t4⟩:=HK.out w4 (Below.refl _ _)
 have hii:(i:Int)<(C.length:Int):=by omega
 obtain⟨e0,e1,e2,e3,e4⟩:=(HC4.out w4 (Below.refl _ _)).1 i hi
 obtain⟨c,hc⟩:∃ c,C.getD i Cr.none=c:=⟨_,rfl⟩
 rw[hc]at HSX e0 e1 e2 e3 e4
 have HCC:Hid (C.getD i Cr.none=c):=hc
 clear hc
 have hb4:b<w4.heap.size:=(HC4.out w4 (Below.refl _ _)).2
 rcases hov with⟨rfl,-⟩|⟨hk0,hk1⟩
 · rw[if_neg (by omega)]at HSX
   have hdk:decide (0%2=1)=false:=by decide
   rw[hdk]
   obtain⟨ca,cb,cc,cd,cp⟩:=c
   cases cp with
   |true=>
    have hc1:(Cr.mk ca cb cc cd true).comes 1=false:=rfl
    have HSX2:Hid ((Cr.mk ca cb cc cd true).arc 1=(z:Int)):=HSX.out
    go_wp2_with (first
     |(go_at_call 47;refine(comesIn_any (Cr.mk ca cb cc cd true) 1 _ (by omega)).mono ?_;rw[hc1];rintro e9 w5 ⟨rfl,hb5⟩;have HB5:Hid (Below w4.heap.size w4 w5):=hb5;obtain⟨u0,u1,u2,u3,u4⟩:=HK.out w5 HB5.out;clear hb5)
     |(go_at_call 72;refine(leaving_any b off cap C loops _ _ i 1 _ hi (by omega) (HC4.out _ HB5.out).2 (HC4.out _ HB5.out).1).mono ?_;rw[HCC.out,HSX2.out];rintro e9 w6 ⟨rfl,hb6⟩;have HL:Hid (Below w4.heap.size w4 w6):=HB5.out.trans (hb6.mono HB5.out.size)))
    go_ret
    exact⟨rfl,HB4.out.trans (HL.out.mono (by omega))⟩
   |false=>
    have hc1:(Cr.mk ca cb cc cd false).comes 1=true:=rfl
    have HSX2:Hid ((Cr.mk ca cb cc cd false).arc 3=(z:Int)):=HSX.out
    go_wp2_with (first
     |(go_at_call 47;refine(comesIn_any (Cr.mk ca cb cc cd false) 1 _ (by omega)).mono ?_;rw[hc1];rintro e9 w5 ⟨rfl,hb5⟩;have HB5:Hid (Below w4.heap.size w4 w5):=hb5;obtain⟨u0,u1,u2,u3,u4⟩:=HK.out w5 HB5.out;clear hb5)
     |(go_at_call 72;refine(leaving_any b off cap C loops _ _ i 3 _ hi (by omega) (HC4.out _ HB5.out).2 (HC4.out _ HB5.out).1).mono ?_;rw[HCC.out,HSX2.out];rintro e9 w6 ⟨rfl,hb6⟩;have HL:Hid (Below w4.heap.size w4 w6):=HB5.out.trans (hb6.mono HB5.out.size)))
    go_ret
    exact⟨rfl,HB4.out.trans (HL.out.mono (by omega))⟩
 · rw[if_pos hk0]at HSX
   rw[decide_eq_true hk1]
   go_wp2_with (go_at_call 72;refine(leaving_any b off cap C loops _ _ i 2 _ hi (by omega) (HC4.out _ (Below.refl _ _)).2 (HC4.out _ (Below.refl _ _)).1).mono ?_;rw[HCC.out,HSX.out];rintro e9 w5 ⟨rfl,hb5⟩)
   go_ret
   exact⟨rfl,HB4.out.trans (hb5.mono (by omega))⟩
end Go.Proofs.YtnemnpcbhfedcaaGreatDoor
/- Plain mathematics: arcs that are one when crossings are gone; their numbers; what is left of a diagram. -/
namespace Go.Proofs.YtnemnpcbhfedcaaGreatDoor
structure Goes (C:List Cr) (f:Nat->Nat):Prop where
 closed:∀ a,1<=a->a<=2*C.length->1<=f a/\f a<=2*C.length
 inj:∀ a b,1<=a->a<=2*C.length->1<=b->b<=2*C.length->f a=f b->a=b
 out:∀ a,1<=a->a<=2*C.length->enC C (f a) false=toC C a
theorem sx_comes {C:List Cr} (a:Nat):(C.getD (toC C a) Cr.none).comes (sxS C a)=false:=by
 unfold sxS
 generalize C.getD (toC C a) Cr.none=x
 split
 · rfl
 · split
   · rename_i h;simp[Cr.comes,h]
   · rename_i h;simp[Cr.comes];simpa using h
theorem sx_goes {C:List Cr} {loops:Int} (hm:mayD C loops=true):Goes C (sx C) where
 closed:=sx_closed hm
 inj:=fun a b a1 a2 b1 b2 e=>by
  have ha:=sx_may hm a a1 a2
  have hb:=sx_may hm b b1 b2
  obtain⟨-,i1,s1,r1,q1⟩:=to_may hm a a1 a2
  obtain⟨-,i2,s2,r2,q2⟩:=to_may hm b b1 b2
  have ea:=end_one hm (sx C a) ha.2.1 ha.2.2 false (toC C a) (sxS C a) i1 (sxS_lt C a) ha.1 (sx_comes a)
  have eb:=end_one hm (sx C b) hb.2.1 hb.2.2 false (toC C b) (sxS C b) i2 (sxS_lt C b) hb.1 (sx_comes b)
  rw[e,eb]at ea
  have hc:toC C b=toC C a:=by have h:=congrArg Prod.fst ea;simp only at h;omega
  have hs:sxS C b=sxS C a:=by have h:=congrArg Prod.snd ea;simp only at h;omega
  rw[hc]at r2 q2
  have ht:toS C a=toS C b:=by
   unfold sxS at hs
   rw[hc]at hs
   generalize C.getD (toC C a) Cr.none=x at r1 q1 r2 q2 hs
   generalize toS C a=s at s1 r1 q1 hs ⊢
   generalize toS C b=t at s2 r2 q2 hs ⊢
   have k1:s=0∨(s=1/\x.plus=false)∨(s=3/\x.plus=true):=by
    match s,s1,q1 with
    |0,_,_=>exact Or.inl rfl
    |1,_,q=>exact Or.inr (Or.inl ⟨rfl,by simpa[Cr.comes] using q⟩)
    |2,_,q=>simp[Cr.comes]at q
    |3,_,q=>exact Or.inr (Or.inr ⟨rfl,by simpa[Cr.comes] using q⟩)
   have k2:t=0∨(t=1/\x.plus=false)∨(t=3/\x.plus=true):=by
    match t,s2,q2 with
    |0,_,_=>exact Or.inl rfl
    |1,_,q=>exact Or.inr (Or.inl ⟨rfl,by simpa[Cr.comes] using q⟩)
    |2,_,q=>simp[Cr.comes]at q
    |3,_,q=>exact Or.inr (Or.inr ⟨rfl,by simpa[Cr.comes] using q⟩)
   rcases k1 with rfl|⟨rfl,p1⟩|⟨rfl,p1⟩<;>rcases k2 with rfl|⟨rfl,p2⟩|⟨rfl,p2⟩<;>first|rfl|(simp[p1]at hs;done)|(simp[p2]at hs;done)|(rw[p1]at p2;cases p2)
  rw[ht,r2]at r1
  omega
 out:=fun a a1 a2=>by
  have ha:=sx_may hm a a1 a2
  obtain⟨-,i1,-,-,-⟩:=to_may hm a a1 a2
  have ea:=end_one hm (sx C a) ha.2.1 ha.2.2 false (toC C a) (sxS C a) i1 (sxS_lt C a) ha.1 (sx_comes a)
  unfold enC
  rw[ea]
  rfl
end Go.Proofs.YtnemnpcbhfedcaaGreatDoor

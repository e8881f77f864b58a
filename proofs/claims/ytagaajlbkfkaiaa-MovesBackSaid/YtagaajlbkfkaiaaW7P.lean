/- Several texts of the proof, one behind the other. -/
import Derived.Test.YtagaajlbkfkaiaaW3P
import Derived.Test.YtagaajlbkfkaiaaH6P
/- The walk of gauss.signs; rows of visits and of signs that are the same. -/
namespace Go.Proofs.Ytagaajlbkfkaiaa
open Go.RowKit
def VS (w:World) (v:Value) (V:List (Nat×Bool)):Prop:=∃ a cap,v=.slice a V.length cap/\(0<V.length->∃ b off,a=some ⟨b,off,none⟩/\b<w.heap.size/\∀ i,i<V.length->w.cell? ⟨b,off+i*2,none⟩=some (.int .i64 ((V.getD i (0,false)).1:Nat))/\w.cell? ⟨b,off+i*2+1,none⟩=some (.bool (V.getD i (0,false)).2))
def VsAt (w:World) (v:Value) (L:List (List (Nat×Bool))):Prop:=∃ ys:List Value,ys.length=L.length/\Slots w w.heap.size v ys/\∀ j,j<L.length->VS w (ys.getD j (.bool false)) (L.getD j [])
theorem vs_own {w:World} {B e:Nat} {v:Value} {V:List (Nat×Bool)} (h:w.ownsRow B e 2 v V.length (vflat V)):VS w v V:=by
 have h0:=h
 rcases h.2 with⟨rfl,h1⟩|⟨g,cap,cur,rfl,_,_,_⟩
 · exact⟨none,0,by rw[h1],fun hp=>by omega⟩
 · refine⟨some ⟨g,0,none⟩,cap,rfl,fun _=>⟨g,0,rfl,(h0.lt g rfl).2,fun i hi=>?_⟩⟩
   have g0:=vflat_get V i hi
   rw[Nat.zero_add]
   exact⟨(h0.cellAt (i*2) (by omega)).trans g0.1,(h0.cellAt (i*2+1) (by omega)).trans g0.2⟩
theorem VS.on {w w':World} {v:Value} {V:List (Nat×Bool)} (h:VS w v V) (hb:Below w.heap.size w w'):VS w' v V:=by
 obtain⟨a,cap,rfl,g⟩:=h
 refine⟨a,cap,rfl,fun hp=>?_⟩
 obtain⟨b,off,rfl,hlt,hc⟩:=g hp
 exact⟨b,off,rfl,Nat.lt_of_lt_of_le hlt hb.size,fun i hi=>⟨bcell hb hlt (hc i hi).1,bcell hb hlt (hc i hi).2⟩⟩
theorem VsAt.on {w w':World} {v:Value} {L:List (List (Nat×Bool))} (h:VsAt w v L) (hb:Below w.heap.size w w'):VsAt w' v L:=by
 obtain⟨ys,h1,h2,h3⟩:=h
 exact⟨ys,h1,(h2.on hb).mono hb.size,fun j hj=>(h3 j hj).on hb⟩
end Go.Proofs.Ytagaajlbkfkaiaa
/- Lists of whole numbers that a call owns; the walk of gauss.evenNumbers. -/
namespace Go.Proofs.Ytagaajlbkfkaiaa
open Go.RowKit
def intsV (l:List Int):List Value:=l.map fun x=>.int .i64 x
theorem intsV_len (l:List Int):(intsV l).length=l.length:=by simp[intsV]
theorem intsV_get (l:List Int) (i:Nat) (h:i<l.length):(intsV l)[i]?=some (.int .i64 (l.getD i 0)):=by simp[intsV,List.getD,h]
theorem intsV_set (l:List Int) (i:Nat) (x:Int):(intsV l).set i (.int .i64 x)=intsV (l.set i x):=by simp[intsV,List.map_set]
theorem made_zero (n:Nat):(madeCells (Value.int .i64 0).cells (n*1)).toList=intsV (List.replicate n 0):=by
 have e:(Value.int .i64 0).cells=#[Value.int .i64 0]:=rfl
 rw[e,toList_madeCells_one,Nat.mul_one]
 simp[intsV]
end Go.Proofs.Ytagaajlbkfkaiaa
/- The walks of canon.mirrored, canon.Mirror and ref.MirrorOf. -/
namespace Go.Proofs.Ytagaajlbkfkaiaa
open Go.RowKit
end Go.Proofs.Ytagaajlbkfkaiaa
/- Plain mathematics: edges and the edges that cross them; where Euler's number is that of spheres, a set of edges that comes to each corner an even number of times is the boundary of a set of faces. -/
namespace Go.Proofs.Ytagaajlbkfkaiaa
def xs (g:Nat->Bool):Nat->Bool
 |0=>false
 |m+1=>xor (xs g m) (g m)
def incl (E:Nat->Nat×Nat) (K:Nat->Bool):Nat->List (Nat×Nat)
 |0=>[]
 |m+1=>incl E K m++(if K m=true then [E m] else [])
theorem incl_mem {E:Nat->Nat×Nat} {K:Nat->Bool} {m:Nat} {e:Nat×Nat}:e∈incl E K m↔∃ i,i<m/\K i=true/\e=E i:=by
 induction m with
 |zero=>simp[incl]
 |succ m ih=>
  simp only[incl,List.mem_append,ih]
  constructor
  · rintro(⟨i,h1,h2,h3⟩|h)
    · exact⟨i,by omega,h2,h3⟩
    · by_cases hk:K m=true
      · rw[if_pos hk]at h
        exact⟨m,by omega,hk,List.mem_singleton.1 h⟩
      · rw[if_neg hk]at h;cases h
  · rintro⟨i,h1,h2,h3⟩
    by_cases e2:i=m
    · subst e2
      exact Or.inr (by rw[if_pos h2,h3];exact List.mem_singleton.2 rfl)
    · exact Or.inl ⟨i,by omega,h2,h3⟩
def cls (E:Nat->Nat×Nat) (K:Nat->Bool) (n m:Nat):List Nat:=mers (List.range n) (incl E K m)
theorem cls_least {E:Nat->Nat×Nat} {K:Nat->Bool} {n m:Nat} (hE:∀ i,i<m->(E i).1<n/\(E i).2<n):Least (incl E K m) n (cls E K n m):=by
 have h:=mers_least n (incl E K m) [] (List.range n) (fun e he=>by
  obtain⟨i,h1,-,rfl⟩:=incl_mem.1 (by simpa using he)
  exact hE i h1) (least_nil n)
 simpa[cls] using h
theorem cls_next {E:Nat->Nat×Nat} {K:Nat->Bool} {n m:Nat} (h:K m=true):cls E K n (m+1)=mer (cls E K n m) (E m).1 (E m).2:=by
 unfold cls
 simp only[incl]
 rw[if_pos h,mers_app]
 rfl
theorem mer_same {W:List Nat} {x y:Nat} (h:W.getD x 0=W.getD y 0):mer W x y=W:=by
 unfold mer
 rw[h]
 have:∀ z:Nat,(if z=max (W.getD y 0) (W.getD y 0) then min (W.getD y 0) (W.getD y 0) else z)=z:=fun z=>by
  split<;>omega
 simp only[this]
 exact List.map_id' W
end Go.Proofs.Ytagaajlbkfkaiaa
/- Slices that are read; lists of numbers that stand in a function's values; which walk an arc lies in. -/
namespace Go.Proofs.Ytagaajlbkfkaiaa
open Go.RowKit
def RdAt (w:World) (B size:Nat) (v:Value) (n:Nat) (xs:List Value):Prop:=∃ a cap,v=.slice a n cap/\(0<n->∃ b off,a=some ⟨b,off,none⟩/\b<B/\∀ j,j<n*size->w.cell? ⟨b,off+j,none⟩=xs[j]?)
theorem RdAt.on {w w':World} {B size n:Nat} {v:Value} {xs:List Value} (h:RdAt w B size v n xs) (hb:Below B w w'):RdAt w' B size v n xs:=by
 obtain⟨a,cap,rfl,f⟩:=h
 refine⟨a,cap,rfl,fun h0=>?_⟩
 obtain⟨b,off,rfl,hlt,hc⟩:=f h0
 exact⟨b,off,rfl,hlt,fun j hj=>bcell hb hlt (hc j hj)⟩
theorem RdAt.mono {w:World} {B B' size n:Nat} {v:Value} {xs:List Value} (h:RdAt w B size v n xs) (hB:B<=B'):RdAt w B' size v n xs:=by
 obtain⟨a,cap,rfl,f⟩:=h
 refine⟨a,cap,rfl,fun h0=>?_⟩
 obtain⟨b,off,rfl,hlt,hc⟩:=f h0
 exact⟨b,off,rfl,Nat.lt_of_lt_of_le hlt hB,hc⟩
theorem own_rd {w:World} {B e size n:Nat} {v:Value} {xs:List Value} (h:w.ownsRow B e size v n xs):RdAt w w.heap.size size v n xs:=by
 have h0:=h
 rcases h.2 with⟨rfl,h1⟩|⟨g,cap,cur,rfl,_,_,_⟩
 · exact⟨none,0,by rw[h1],fun hp=>by omega⟩
 · exact⟨some ⟨g,0,none⟩,cap,rfl,fun _=>⟨g,0,rfl,(h0.lt g rfl).2,fun j hj=>by rw[Nat.zero_add];exact h0.cellAt j hj⟩⟩
def NatsRd (w:World) (B:Nat) (v:Value) (L:List (List Nat)):Prop:=∃ ys:List Value,ys.length=L.length/\RdAt w B 1 v L.length ys/\∀ j,j<L.length->RdAt w B 1 (ys.getD j (.bool false)) (L.getD j []).length (nats (L.getD j []))
theorem NatsRd.on {w w':World} {B:Nat} {v:Value} {L:List (List Nat)} (h:NatsRd w B v L) (hb:Below B w w'):NatsRd w' B v L:=by
 obtain⟨ys,hy,h1,h2⟩:=h
 exact⟨ys,hy,h1.on hb,fun j hj=>(h2 j hj).on hb⟩
theorem NatsRd.mono {w:World} {B B':Nat} {v:Value} {L:List (List Nat)} (h:NatsRd w B v L) (hB:B<=B'):NatsRd w B' v L:=by
 obtain⟨ys,hy,h1,h2⟩:=h
 exact⟨ys,hy,h1.mono hB,fun j hj=>(h2 j hj).mono hB⟩
theorem NatsRd.up {w w':World} {v:Value} {L:List (List Nat)} (h:NatsRd w w.heap.size v L) (hb:Below w.heap.size w w'):NatsRd w' w'.heap.size v L:=(h.on hb).mono hb.size
theorem NatsOwn.rd {w:World} {B:Nat} {v:Value} {L:List (List Nat)} (h:NatsOwn w B v L):NatsRd w w.heap.size v L:=by
 obtain⟨ys,hy,h1,h2⟩:=h
 exact⟨ys,hy,by rw[<-hy];exact own_rd h1,fun j hj=>own_rd (h2 j hj)⟩
theorem NatsRd.len {w:World} {B:Nat} {v:Value} {L:List (List Nat)} (h:NatsRd w B v L):∃ a cap,v=.slice a L.length cap:=by
 obtain⟨ys,hy,⟨a,cap,e,-⟩,h2⟩:=h
 exact⟨a,cap,e⟩
theorem NatsRd.row {w:World} {B:Nat} {a:Option Addr} {cap:Nat} {L:List (List Nat)} (h:NatsRd w B (.slice a L.length cap) L) (j:Nat) (hj:j<L.length):
    ∃ b off ar cr,a=some ⟨b,off,none⟩/\b<B/\w.cell? ⟨b,off+j,none⟩=some (.slice ar (L.getD j []).length cr)/\RdAt w B 1 (.slice ar (L.getD j []).length cr) (L.getD j []).length (nats (L.getD j [])):=by
 obtain⟨ys,hy,⟨a',cap',e,f⟩,h2⟩:=h
 injection e with e1 e2 e3
 obtain⟨b,off,eb,hlt,hc⟩:=f (by omega)
 have hr:=h2 j hj
 obtain⟨ar,cr,er,-⟩:=hr
 have hr:=h2 j hj
 rw[er]at hr
 refine⟨b,off,ar,cr,e1.trans eb,hlt,?_,hr⟩
 rw[hc j (by omega),<-er]
 simp[List.getD,hy,hj]
def mapI (m:Nat) (f:Nat->Int):List Int:=(List.range m).map f
theorem mapI_len (m:Nat) (f:Nat->Int):(mapI m f).length=m:=by simp[mapI]
theorem mapI_get (m:Nat) (f:Nat->Int) (i:Nat) (h:i<m):(mapI m f)[i]?=some (f i):=by simp[mapI,h]
theorem mapI_set (m:Nat) (f g:Nat->Int) (i:Nat) (x:Int) (h:∀ j,j<m->g j=if j=i then x else f j):(mapI m f).set i x=mapI m g:=by
 apply List.ext_getElem?
 intro j
 by_cases hj:j<m
 · rw[mapI_get m g j hj,h j hj,List.getElem?_set]
   by_cases e:i=j
   · subst e;simp[mapI_len,hj]
   · rw[if_neg e,if_neg (fun h=>e h.symm),mapI_get m f j hj]
 · rw[List.getElem?_eq_none (by simp[mapI_len];omega),List.getElem?_eq_none (by simp[mapI_len];omega)]
def pt (L:List (List Nat)) (a:Nat):Nat:=L.findIdx fun l=>decide (a∈l)
theorem two_rows (a:Nat):∀ (L:List (List Nat)) (i j:Nat),i<j->j<L.length->a∈L.getD i []->a∈L.getD j []->2<=L.flatten.count a
 |[],i,j,_,h,_,_=>absurd h (by simp)
 |x::t,0,j+1,_,hj,h1,h2=>by
  have h3:1<=x.count a:=List.one_le_count_iff.2 (by simpa using h1)
  have hj':j<t.length:=by simpa using hj
  have h4:a∈t.flatten:=by
   refine List.mem_flatten.2 ⟨t.getD j [],?_,by simpa using h2⟩
   rw[List.getD_eq_getElem?_getD,List.getElem?_eq_getElem hj']
   exact List.getElem_mem hj'
  have h5:1<=t.flatten.count a:=List.one_le_count_iff.2 h4
  rw[List.flatten_cons,List.count_append]
  omega
 |x::t,i+1,j+1,hij,hj,h1,h2=>by
  have:=two_rows a t i j (by omega) (by simpa using hj) (by simpa using h1) (by simpa using h2)
  rw[List.flatten_cons,List.count_append]
  omega
theorem pt_is {L:List (List Nat)} {a i:Nat} (h1:L.flatten.count a=1) (hi:i<L.length) (ha:a∈L.getD i []):pt L a=i:=by
 have hle:pt L a<=i:=by
  refine Classical.byContradiction fun hc=>?_
  have:=List.not_of_lt_findIdx (p:=fun l=>decide (a∈l)) (xs:=L) (i:=i) (by unfold pt at hc;omega)
  rw[List.getD_eq_getElem?_getD,List.getElem?_eq_getElem hi]at ha
  simp at this
  exact this (by simpa using ha)
 rcases Nat.lt_or_ge (pt L a) i with h|h
 · have hl:pt L a<L.length:=by omega
   have hm:=List.findIdx_getElem (p:=fun l=>decide (a∈l)) (xs:=L) (w:=hl)
   have hm2:a∈L.getD (pt L a) []:=by
    rw[List.getD_eq_getElem?_getD,List.getElem?_eq_getElem hl]
    exact of_decide_eq_true hm
   have:=two_rows a L (pt L a) i h hi hm2 ha
   omega
 · omega
theorem pt_lt {L:List (List Nat)} {a:Nat} (h1:L.flatten.count a=1):pt L a<L.length:=by
 have:a∈L.flatten:=List.one_le_count_iff.1 (by omega)
 obtain⟨l,hl,ha⟩:=List.mem_flatten.1 this
 exact List.findIdx_lt_length_of_exists ⟨l,hl,by simpa using ha⟩
theorem pt_mem {L:List (List Nat)} {a i:Nat} (h1:L.flatten.count a=1) (hi:i<L.length):a∈L.getD i []↔pt L a=i:=by
 constructor
 · exact pt_is h1 hi
 · intro e
   have hl:pt L a<L.length:=by omega
   have hm:=List.findIdx_getElem (p:=fun l=>decide (a∈l)) (xs:=L) (w:=hl)
   rw[<-e,List.getD_eq_getElem?_getD,List.getElem?_eq_getElem hl]
   exact of_decide_eq_true hm
end Go.Proofs.Ytagaajlbkfkaiaa
/- Plain mathematics: rings of a renaming are closed; in which face a dart lies. -/
namespace Go.Proofs.Ytagaajlbkfkaiaa
theorem un_le (l:List Bool) (y:Nat):un l y<=1:=by unfold un;split<;>omega
theorem unseen_none {l:List Bool} (h:unseen l=0) (x:Nat):l.getD x true=true:=by
 cases e:l.getD x true with
 |true=>rfl
 |false=>have:=unseen_pos e;omega
theorem walkF_chain (f:Nat->Nat):∀ (m:Nat) (seen:List Bool) (x:Nat) (acc:List Nat),unseen seen<=m->(∀ i,i+1<acc.length->acc.getD (i+1) 0=f (acc.getD i 0))->(0<acc.length->x=f (acc.getD (acc.length-1) 0))->
    (∀ i,i+1<(walkF f m seen x acc).1.length->(walkF f m seen x acc).1.getD (i+1) 0=f ((walkF f m seen x acc).1.getD i 0))/\(0<(walkF f m seen x acc).1.length->un (walkF f m seen x acc).2 (f ((walkF f m seen x acc).1.getD ((walkF f m seen x acc).1.length-1) 0))=0):=by
 intro m
 induction m with
 |zero=>
  intro seen x acc hu hc hx
  refine⟨hc,fun h0=>?_⟩
  show un seen (f (acc.getD (acc.length-1) 0))=0
  rw[<-hx h0]
  unfold un
  rw[if_pos (unseen_none (by omega) x)]
 |succ m ih=>
  intro seen x acc hu hc hx
  by_cases hs:seen.getD x true=true
  · rw[walkF_seen hs]
    refine⟨hc,fun h0=>?_⟩
    show un seen (f (acc.getD (acc.length-1) 0))=0
    rw[<-hx h0]
    unfold un
    rw[if_pos hs]
  · have hs':seen.getD x true=false:=by simpa using hs
    obtain⟨e,hu2⟩:=walkF_more (f:=f) (acc:=acc) hs' hu
    rw[e]
    refine ih _ _ _ hu2 (fun i hi=>?_) (fun _=>?_)
    · rw[List.length_append,List.length_singleton]at hi
      by_cases hi2:i+1<acc.length
      · have e1:(acc++[x]).getD (i+1) 0=acc.getD (i+1) 0:=by simp[List.getD_eq_getElem?_getD,List.getElem?_append_left hi2]
        have e2:(acc++[x]).getD i 0=acc.getD i 0:=by simp[List.getD_eq_getElem?_getD,List.getElem?_append_left (show i<acc.length by omega)]
        rw[e1,e2]
        exact hc i hi2
      · have hl:acc.length=i+1:=by omega
        have e1:(acc++[x]).getD (i+1) 0=x:=by rw[<-hl];simp[List.getD_eq_getElem?_getD]
        have e2:(acc++[x]).getD i 0=acc.getD i 0:=by simp[List.getD_eq_getElem?_getD,List.getElem?_append_left (show i<acc.length by omega)]
        rw[e1,e2,hx (by omega),hl]
        rfl
    · have e1:(acc++[x]).getD ((acc++[x]).length-1) 0=x:=by simp[List.getD_eq_getElem?_getD]
      rw[e1]
theorem mem_atZ {l:List Nat} {y:Nat} (h:y∈l):∃ i,i<l.length/\l.getD i 0=y:=by
 obtain⟨i,hi,e⟩:=List.getElem_of_mem h
 exact⟨i,hi,by rw[List.getD_eq_getElem?_getD,List.getElem?_eq_getElem hi];exact e⟩
theorem at_mem {l:List Nat} {i:Nat} (h:i<l.length):l.getD i 0∈l:=by
 rw[List.getD_eq_getElem?_getD,List.getElem?_eq_getElem h]
 exact List.getElem_mem h
theorem at_ne {l:List Nat} (h:∀ y,l.count y<=1) {i j:Nat} (hij:i<j) (hj:j<l.length):l.getD i 0≠l.getD j 0:=by
 have hn:l.Nodup:=List.nodup_iff_count.2 h
 have:=List.pairwise_iff_getElem.1 hn i j (by omega) hj hij
 rw[List.getD_eq_getElem?_getD,List.getElem?_eq_getElem (by omega),List.getD_eq_getElem?_getD,List.getElem?_eq_getElem hj]
 exact this
theorem rings_closed {f:Nat->Nat} {n:Nat} (hf:∀ a,1<=a->a<=n->1<=f a/\f a<=n) (hi:∀ a b,1<=a->a<=n->1<=b->b<=n->f a=f b->a=b):∀ a,a<=n->
    (∀ l,l∈(walksTo f n a).1->∀ y,y∈l->f y∈l)/\(∀ y,1<=y->y<=n->un (walksTo f n a).2 (f y)=0->un (walksTo f n a).2 y=0)/\
    (∀ l,l∈(walksTo f n a).1->(∀ i,i+1<l.length->l.getD (i+1) 0=f (l.getD i 0))/\f (l.getD (l.length-1) 0)=l.getD 0 0):=by
 intro a
 induction a with
 |zero=>
  intro _
  refine⟨fun l hl=>absurd hl (by simp[walksTo]),fun y h1 h2 h3=>?_,fun l hl=>absurd hl (by simp[walksTo])⟩
  have h4:=hf y h1 h2
  exfalso
  have:un (walksTo f n 0).2 (f y)=1:=by
   simp[walksTo,un,List.getD_eq_getElem?_getD,show f y<n+1 by omega]
  omega
 |succ a ih=>
  intro ha
  obtain⟨i1,i2,i3⟩:=ih (by omega)
  have hin:=walksTo_mem hf a (by omega)
  generalize hr:walksTo f n a=r at i1 i2 i3 hin
  have hlen:r.2.length=n+1:=by rw[<-hr];exact walksTo_len f n a
  have hch:=walkF_chain f (n+1) r.2 (a+1) [] (by have:=unseen_le r.2;omega) (fun i hi=>by simp at hi) (fun h0=>by simp at h0)
  have hmem:=walkF_mem hf (n+1) r.2 (a+1) [] (by omega) ha (fun y hy=>by cases hy)
  have hcnt:=walkF_count f (n+1) r.2 (a+1) []
  have hkeep:=walkF_keep f (n+1) r.2 (a+1) []
  have e:walksTo f n (a+1)=(if(walkF f (n+1) r.2 (a+1) []).1=[] then r.1 else r.1++[(walkF f (n+1) r.2 (a+1) []).1],(walkF f (n+1) r.2 (a+1) []).2):=by simp only[walksTo,hr]
  rw[e]
  generalize walkF f (n+1) r.2 (a+1) []=s at hch hmem hcnt hkeep
  obtain⟨l,sn⟩:=s
  simp only[List.count_nil,Nat.zero_add]at hch hmem hcnt hkeep ⊢
  have hc1:∀ y,l.count y<=1:=fun y=>by have:=hcnt y;have:=un_le r.2 y;omega
  have hin1:∀ y,y∈l->un r.2 y=1/\un sn y=0:=fun y hy=>by
   have h1:1<=l.count y:=List.one_le_count_iff.2 hy
   have h2:=hcnt y
   have h3:=un_le r.2 y
   omega
  -- what stands behind the last is the first
  have hend:0<l.length->f (l.getD (l.length-1) 0)=l.getD 0 0:=fun h0=>by
   have hlast:=at_mem (l:=l) (i:=l.length-1) (by omega)
   have hb:=hmem _ hlast
   have hz:=hch.2 h0
   have hnz:un r.2 (f (l.getD (l.length-1) 0))≠0:=fun q=>by
    have:=i2 _ hb.1 hb.2 q
    have:=(hin1 _ hlast).1
    omega
   have hz1:f (l.getD (l.length-1) 0)∈l:=by
    have h2:=hcnt (f (l.getD (l.length-1) 0))
    refine List.one_le_count_iff.1 ?_
    omega
   obtain⟨j,hj,ej⟩:=mem_atZ hz1
   cases j with
   |zero=>exact ej.symm
   |succ j=>
    exfalso
    have h5:=hch.1 j hj
    rw[ej]at h5
    have hbj:=hmem _ (at_mem (l:=l) (i:=j) (by omega))
    have h6:=hi _ _ hb.1 hb.2 hbj.1 hbj.2 h5
    exact at_ne hc1 (i:=j) (j:=l.length-1) (by omega) (by omega) h6.symm
  refine⟨?_,fun y h1 h2 h3=>?_,fun l' hl'=>?_⟩
  · intro l' hl' y hy
    by_cases hnil:l=[]
    · rw[if_pos hnil]at hl'
      exact i1 l' hl' y hy
    · rw[if_neg hnil]at hl'
      rcases List.mem_append.1 hl' with h|h
      · exact i1 l' h y hy
      · obtain rfl:=List.mem_singleton.1 h
        obtain⟨i,hil,rfl⟩:=mem_atZ hy
        by_cases hlast:i+1<l'.length
        · rw[<-hch.1 i hlast]
          exact at_mem hlast
        · have hi1:i=l'.length-1:=by omega
          rw[hi1,hend (by omega)]
          exact at_mem (by omega)
  · by_cases hq:un r.2 (f y)=0
    · exact hkeep y (i2 y h1 h2 hq)
    · have hmy:f y∈l:=List.one_le_count_iff.1 (by have:=hcnt (f y);omega)
      obtain⟨j,hj,ej⟩:=mem_atZ hmy
      cases j with
      |zero=>
       have hlast:=at_mem (l:=l) (i:=l.length-1) (by omega)
       have hb:=hmem _ hlast
       have:=hi y _ h1 h2 hb.1 hb.2 (by rw[hend (by omega),ej])
       rw[this]
       exact(hin1 _ hlast).2
      |succ j=>
       have h5:=hch.1 j hj
       rw[ej]at h5
       have hbj:=hmem _ (at_mem (l:=l) (i:=j) (by omega))
       have:=hi y _ h1 h2 hbj.1 hbj.2 h5
       rw[this]
       exact(hin1 _ (at_mem (by omega))).2
  · by_cases hnil:l=[]
    · rw[if_pos hnil]at hl'
      exact i3 l' hl'
    · rw[if_neg hnil]at hl'
      rcases List.mem_append.1 hl' with h|h
      · exact i3 l' h
      · obtain rfl:=List.mem_singleton.1 h
        have h0:0<l'.length:=by
         cases l' with
         |nil=>exact absurd rfl hnil
         |cons=>simp
        exact⟨hch.1,hend h0⟩
theorem fd_inj {C:List Cr} {loops:Int} (hm:mayD C loops=true) (i j:Nat) (h1:1<=i) (h2:i<=4*C.length) (h3:1<=j) (h4:j<=4*C.length) (e:fd C i=fd C j):i=j:=by
 obtain⟨p1,p2,p3⟩:=d_may hm i h1 h2
 obtain⟨q1,q2,q3⟩:=d_may hm j h3 h4
 obtain⟨a1,a2,a3,a4⟩:=fd_may hm i h1 h2
 obtain⟨b1,b2,b3,b4⟩:=fd_may hm j h3 h4
 rw[e]at a1 a2
 have hA:=dA_le b3 b4
 have e1:=end_one hm _ hA.1 hA.2 _ _ _ p2 (Nat.mod_lt _ (by decide)) a1 a2
 have e2:=end_one hm _ hA.1 hA.2 _ _ _ q2 (Nat.mod_lt _ (by decide)) b1 b2
 rw[e1]at e2
 have hcc:dC C i=dC C j:=by have:=congrArg Prod.fst e2;simp only at this;omega
 have hss:dS C i=dS C j:=by have:=congrArg Prod.snd e2;simp only at this;omega
 have u:=en_may hm (dA i) (!dB i) (dA_le h1 h2).1 (dA_le h1 h2).2
 have v:=en_may hm (dA j) (!dB j) (dA_le h3 h4).1 (dA_le h3 h4).2
 have u1:(C.getD (dC C i) Cr.none).arc (dS C i)=(dA i:Int):=u.2.2.2.1
 have v1:(C.getD (dC C j) Cr.none).arc (dS C j)=(dA j:Int):=v.2.2.2.1
 have u2:(C.getD (dC C i) Cr.none).comes (dS C i)=(!dB i):=u.2.2.2.2
 have v2:(C.getD (dC C j) Cr.none).comes (dS C j)=(!dB j):=v.2.2.2.2
 rw[hcc,hss]at u1 u2
 have h5:dA i=dA j:=by omega
 have h6:dB i=dB j:=by
  rw[u2]at v2
  revert v2
  cases dB i<;>cases dB j<;>simp
 rw[<-mk_d h1,<-mk_d h3,h5,h6]
def fo (C:List Cr) (j:Nat):Nat:=pt (facesM C) j
theorem fo_lt {C:List Cr} (j:Nat) (h1:1<=j) (h2:j<=4*C.length):fo C j<(facesM C).length:=pt_lt (walks_once (fd C) (4*C.length) j h1 h2)
end Go.Proofs.Ytagaajlbkfkaiaa

/- Several texts of the proof, one behind the other. -/
import Derived.Test.YtiliihlkpknhdaaDoorRows
import Derived.WalkKit
import Derived.WalkSpells
import Derived.WalkLawsBesides
import Derived.Deep.QuietTactic
import Derived.BigQuiet
import Derived.Deep.RegionWith
import Derived.Deep.RegionHeld3
import Derived.Laws.AppendOwnNone
import Derived.OwnWalk
import Derived.Lib.Hide
import Derived.Laws.StructEq
/- What is said of worlds, rows and lists of pairs without naming the program. -/
namespace Go.Proofs.YtiliihlkpknhdaaDoor
open Go.RowKit
theorem bcell {B:Nat} {W w1:World} (hb:Below B W w1) {b o:Nat} {v:Option Value} (h:b<B) (hc:W.cell? ⟨b,o,none⟩=v):w1.cell? ⟨b,o,none⟩=v:=by
 rw[<-hc];exact hb.cell (p:=⟨b,o,none⟩) h
theorem below_drewN {B:Nat} {w w1:World} (h:Below B w w1):∀ n,Below B w (w1.drewN n):=fun n=>by
 induction n with
 |zero=>exact h
 |succ n ih=>exact ih.drew
theorem ret_bool {a b:Bool} (h:b=a):Ending.returned (.bool a)=.returned (.bool b):=by rw[h]
/-- The cells of the terms l, from address ⟨b, off⟩ on. -/
def TermsAt (w:World) (b off:Nat) (l:List (Int×Int)):Prop:=
 ∀ i,i<l.length->w.cell? ⟨b,off+i*2,none⟩=some (.int .i64 (l.getD i (0,0)).1)/\w.cell? ⟨b,off+i*2+1,none⟩=some (.int .i64 (l.getD i (0,0)).2)
theorem TermsAt.on {B:Nat} {W w1:World} {b off:Nat} {l:List (Int×Int)} (h:TermsAt W b off l) (hb:Below B W w1) (hlt:b<B):TermsAt w1 b off l:=
 fun i hi=>⟨bcell hb hlt (h i hi).1,bcell hb hlt (h i hi).2⟩
/-- The terms as cells, one behind the other. -/
def flat (l:List (Int×Int)):List Value:=l.flatMap fun t=>[.int .i64 t.1,.int .i64 t.2]
theorem flat_length (l:List (Int×Int)):(flat l).length=l.length*2:=by
 induction l with
 |nil=>rfl
 |cons t l ih=>simp[flat]at *;omega
theorem flat_append (l m:List (Int×Int)):flat (l++m)=flat l++flat m:=by simp[flat]
theorem flat_get (l : List (Int × Int)) (i : Nat) (hi : i < l.length) :
    (flat l)[i*2]?=some (.int .i64 (l.getD i (0,0)).1)/\(flat l)[i*2+1]?=some (.int .i64 (l.getD i (0,0)).2):=by
 induction l generalizing i with
 |nil=>simp at hi
 |cons t l ih=>
  cases i with
  |zero=>simp[flat]
  |succ i=>
   have:=ih i (by simpa using hi)
   simp only[flat,List.flatMap_cons]at this ⊢
   rw[List.getElem?_append_right (by simp;omega),List.getElem?_append_right (by simp;omega)]
   simpa[show(i+1)*2-2=i*2 by omega,show(i+1)*2+1-2=i*2+1 by omega] using this
theorem ret_int {k:IntKind} {a b:Int} (h:a=b):Ending.returned (.int k a)=.returned (.int k b):=by rw[h]
theorem grown_below {w w':World} (h:Below w.heap.size w w') (row:Option Nat):w.grownBy w' row:=⟨h.os,h.tape,h.output,h.size,fun k hk _=>h.block k hk⟩
/-- The slice v holds these values, a cell each, in blocks below B. -/
def Slots (w:World) (B:Nat) (v:Value) (xs:List Value):Prop:=
 ∃ a cap,v=.slice a xs.length cap/\(0<xs.length->∃ b off,a=some ⟨b,off,none⟩/\b<B/\∀ i,i<xs.length->w.cell? ⟨b,off+i,none⟩=some (xs.getD i (.bool false)))
theorem Slots.on {w w':World} {B:Nat} {v:Value} {xs:List Value} (h:Slots w B v xs) (hb:Below B w w'):Slots w' B v xs:=by
 obtain⟨a,cap,rfl,g⟩:=h
 refine⟨a,cap,rfl,fun h0=>?_⟩
 obtain⟨b,off,rfl,hlt,hc⟩:=g h0
 exact⟨b,off,rfl,hlt,fun i hi=>bcell hb hlt (hc i hi)⟩
theorem Slots.mono {w:World} {B B':Nat} {v:Value} {xs:List Value} (h:Slots w B v xs) (hB:B<=B'):Slots w B' v xs:=by
 obtain⟨a,cap,rfl,g⟩:=h
 refine⟨a,cap,rfl,fun h0=>?_⟩
 obtain⟨b,off,rfl,hlt,hc⟩:=g h0
 exact⟨b,off,rfl,Nat.lt_of_lt_of_le hlt hB,hc⟩
theorem slots_of_own {w:World} {B e n:Nat} {v:Value} {xs:List Value} (h:w.ownsRow B e 1 v n xs):Slots w w.heap.size v xs:=by
 have hl:xs.length=n:=by simpa using h.1
 rcases h.2 with⟨rfl,h0⟩|⟨g,cap,cur,rfl,_,hg,_,_,_,_⟩
 · refine⟨none,0,by rw[hl,h0],fun hp=>by omega⟩
 · refine⟨some ⟨g,0,none⟩,cap,by rw[hl],fun _=>⟨g,0,rfl,(h.lt g rfl).2,fun i hi=>?_⟩⟩
   rw[Nat.zero_add,h.cellAt i (by omega),List.getD,List.getElem?_eq_getElem hi]
   rfl
theorem own_low {w:World} {B B' e s n:Nat} {v:Value} {xs:List Value} (h:w.ownsRow B e s v n xs) (hB:B'<=B):w.ownsRow B' e s v n xs:=by
 refine⟨h.1,?_⟩
 rcases h.2 with h1|⟨g,cap,cur,h1,h2,h3⟩
 · exact Or.inl h1
 · exact Or.inr ⟨g,cap,cur,h1,Nat.le_trans hB h2,h3⟩
/-- Rows of different element types lie in different blocks. -/
theorem own_ne {w:World} {B B' e e' s s' n n':Nat} {v v':Value} {xs xs':List Value} (h:w.ownsRow B e s v n xs) (h':w.ownsRow B' e' s' v' n' xs') (he:e≠e'):v.ownBlock=none∨v.ownBlock≠v'.ownBlock:=by
 rcases h.2 with⟨rfl,_⟩|⟨g,cap,cur,rfl,_,hg,_⟩
 · exact Or.inl rfl
 · right
   rcases h'.2 with⟨rfl,_⟩|⟨g',cap',cur',rfl,_,hg',_⟩
   · simp[Value.ownBlock]
   · simp only[Value.ownBlock]
     intro e0
     have e1:=Option.some.inj e0
     subst e1
     rw[hg]at hg'
     injection hg' with h1
     injection h1 with h2 h3
     exact he h3
theorem new_cell1 (W:World) (x:Value) (e:TypeId):∀ j u,[x][j]?=some u->(W.alloc (.cells #[x] e)).cell? ((⟨W.heap.size,0,none⟩:Addr).add j)=some u:=by
 intro j u hj
 rw[Addr.add_lit,Nat.zero_add]
 have hh:(W.alloc (.cells #[x] e)).heap[W.heap.size]?=some (.cells #[x] e (0,0)):=Array.getElem?_push_size
 match j,hj with
 |0,hj=>simp at hj;subst hj;unfold World.cell?;rw[hh];rfl
theorem own_capS {w:World} {B e s n:Nat} {v:Value} {xs:List Value} (h:w.ownsRow B e s v n xs):∃ a c,v=.slice a n c:=by
 rcases h.2 with⟨rfl,h0⟩|⟨g,cap,cur,rfl,_,_,h1,h2,_⟩
 · exact⟨none,0,by rw[h0]⟩
 · exact⟨_,_,rfl⟩
theorem own_oneS {w:World} {B e s n:Nat} {v:Value} {xs:List Value} (h:w.ownsRow B e s v n xs):∀ u∈[v],u.oneCell'=true:=by
 obtain⟨a,c,rfl⟩:=own_capS h
 intro u hu
 simp only[List.mem_singleton]at hu
 subst hu
 rfl
theorem own_any {w w':World} {B e s n:Nat} {v:Value} {xs:List Value} (h:w.ownsRow B e s v n xs) (hg:w.grownBy w' none):w'.ownsRow B e s v n xs:=
 h.kept hg (by cases v.ownBlock with|none=>exact Or.inl rfl|some q=>exact Or.inr (by simp))
theorem getD_left (zs:List Value) (x:Value) (i:Nat) (h:i<zs.length):(zs++[x]).getD i (.bool false)=zs.getD i (.bool false):=by simp[List.getD,List.getElem?_append_left h]
theorem getD_last (zs:List Value) (x:Value):(zs++[x]).getD zs.length (.bool false)=x:=by simp[List.getD]
/-- Another coefficient at place i. -/
def setC (l:List (Int×Int)) (i:Nat) (c:Int):List (Int×Int):=l.set i ((l.getD i (0,0)).1,c)
theorem flat_setC (l:List (Int×Int)) (i:Nat) (c:Int) (hi:i<l.length):(flat l).set (i*2+1) (.int .i64 c)=flat (setC l i c):=by
 induction l generalizing i with
 |nil=>simp at hi
 |cons t l ih=>
  have e:flat (t::l)=.int .i64 t.1::.int .i64 t.2::flat l:=rfl
  cases i with
  |zero=>
   have e2:setC (t::l) 0 c=(t.1,c)::l:=rfl
   rw[e,e2]
   rfl
  |succ i=>
   have e2:setC (t::l) (i+1) c=t::setC l i c:=rfl
   have e3:flat (t::setC l i c)=.int .i64 t.1::.int .i64 t.2::flat (setC l i c):=rfl
   rw[e,e2,e3,show(i+1)*2+1=i*2+1+1+1 by omega,List.set_cons_succ,List.set_cons_succ,ih i (by simpa using hi)]
theorem flat_cellC (l:List (Int×Int)) (i:Nat) (hi:i<l.length):(flat l)[i*2+1]?=some (.int .i64 (l.getD i (0,0)).2):=by
 induction l generalizing i with
 |nil=>simp at hi
 |cons t l ih=>
  have e:flat (t::l)=.int .i64 t.1::.int .i64 t.2::flat l:=rfl
  cases i with
  |zero=>rw[e];rfl
  |succ i=>
   have:=ih i (by simpa using hi)
   rw[e,show(i+1)*2+1=i*2+1+1+1 by omega,List.getElem?_cons_succ,List.getElem?_cons_succ,this]
   rfl
/-- Another first number at place i. -/
def setE (l:List (Int×Int)) (i:Nat) (e:Int):List (Int×Int):=l.set i (e,(l.getD i (0,0)).2)
theorem setE_length (l:List (Int×Int)) (i:Nat) (c:Int):(setE l i c).length=l.length:=by simp[setE]
theorem flat_setE (l:List (Int×Int)) (i:Nat) (c:Int) (hi:i<l.length):(flat l).set (i*2) (.int .i64 c)=flat (setE l i c):=by
 induction l generalizing i with
 |nil=>simp at hi
 |cons t l ih=>
  have e:flat (t::l)=.int .i64 t.1::.int .i64 t.2::flat l:=rfl
  cases i with
  |zero=>
   have e2:setE (t::l) 0 c=(c,t.2)::l:=rfl
   rw[e,e2]
   rfl
  |succ i=>
   have e2:setE (t::l) (i+1) c=t::setE l i c:=rfl
   have e3:flat (t::setE l i c)=.int .i64 t.1::.int .i64 t.2::flat (setE l i c):=rfl
   rw[e,e2,e3,show(i+1)*2=i*2+1+1 by omega,List.set_cons_succ,List.set_cons_succ,ih i (by simpa using hi)]
theorem flat_cellE (l:List (Int×Int)) (i:Nat) (hi:i<l.length):(flat l)[i*2]?=some (.int .i64 (l.getD i (0,0)).1):=by
 induction l generalizing i with
 |nil=>simp at hi
 |cons t l ih=>
  have e:flat (t::l)=.int .i64 t.1::.int .i64 t.2::flat l:=rfl
  cases i with
  |zero=>rw[e];rfl
  |succ i=>
   have:=ih i (by simpa using hi)
   rw[e,show(i+1)*2=i*2+1+1 by omega,List.getElem?_cons_succ,List.getElem?_cons_succ,this]
   rfl
theorem flat_zeros (n:Nat):(madeCells #[Value.int .i64 0,.int .i64 0] (n*2)).toList=flat (List.replicate n (0,0)):=by
 apply List.ext_getElem?
 intro j
 by_cases hj:j<n*2
 · have hlen:(flat (List.replicate n ((0:Int),(0:Int)))).length=n*2:=by rw[flat_length];simp
   have h1:∀ (m k:Nat),k<m*2->(flat (List.replicate m ((0:Int),(0:Int))))[k]?=some (.int .i64 0):=by
    intro m
    induction m with
    |zero=>intro k hk;omega
    |succ m ih=>
     intro k hk
     have e:flat (List.replicate (m+1) ((0:Int),(0:Int)))=.int .i64 0::.int .i64 0::flat (List.replicate m ((0:Int),(0:Int))):=rfl
     rw[e]
     match k with
     |0=>rfl
     |1=>rfl
     |k+2=>
      rw[List.getElem?_cons_succ,List.getElem?_cons_succ]
      exact ih k (by omega)
   rw[h1 n j hj]
   simp only[madeCells]
   rcases Nat.mod_two_eq_zero_or_one j with h|h<;>simp[hj,h]
 · rw[List.getElem?_eq_none (by simp[madeCells];omega),List.getElem?_eq_none (by rw[flat_length];simp;omega)]
/-- What the loop has done behind i spots. -/
def unkTo (n i:Nat):List (Int×Int):=List.replicate i (-1,0)++List.replicate (n-i) (0,0)
theorem unk_next (n i:Nat) (h:i<n):setE (unkTo n i) i (-1)=unkTo n (i+1):=by
 obtain⟨m,hm⟩:∃ m,n - i=m+1:=⟨n - i - 1,by omega⟩
 have hm2:n-(i+1)=m:=by omega
 unfold setE unkTo
 rw[hm,hm2,List.replicate_succ,List.replicate_succ' (n:=i)]
 have hg:(List.replicate i ((-1:Int),(0:Int))++(0,0)::List.replicate m (0,0)).getD i (0,0)=(0,0):=by simp[List.getD]
 rw[hg,List.set_append_right _ _ (by simp)]
 simp
theorem hidB {P:Prop} (h:P):Go.RowKit.Hid P:=h
end Go.Proofs.YtiliihlkpknhdaaDoor
/- Diagrams in a world; the walks of ref.ArcAt, ref.Entry, drawing.Arcs and drawing.ComesIn. -/
namespace Go.Proofs.YtiliihlkpknhdaaDoor
open Go.RowKit
set_option maxHeartbeats 1000000
set_option maxRecDepth 100000
structure Cr where
 a:Int
 b:Int
 c:Int
 d:Int
 plus:Bool
def Cr.none:Cr:=⟨0,0,0,0,false⟩
def Cr.arc (x:Cr) (k:Nat):Int:=if k=0 then x.a else if k=1 then x.b else if k=2 then x.c else x.d
def Cr.comes (x:Cr) (k:Nat):Bool:=k==0||(k==1&&!x.plus)||(k==3&&x.plus)
def CrossAt (w:World) (b off:Nat) (C:List Cr):Prop:=∀ i,i<C.length->
 w.cell? ⟨b,off+i*5,none⟩=some (.int .i64 (C.getD i Cr.none).a)/\w.cell? ⟨b,off+i*5+1,none⟩=some (.int .i64 (C.getD i Cr.none).b)/\w.cell? ⟨b,off+i*5+2,none⟩=some (.int .i64 (C.getD i Cr.none).c)/\
 w.cell? ⟨b,off+i*5+3,none⟩=some (.int .i64 (C.getD i Cr.none).d)/\w.cell? ⟨b,off+i*5+4,none⟩=some (.bool (C.getD i Cr.none).plus)
theorem CrossAt.on {w w':World} {B b off:Nat} {C:List Cr} (h:CrossAt w b off C) (hb:Below B w w') (hlt:b<B):CrossAt w' b off C:=fun i hi=>
 ⟨bcell hb hlt (h i hi).1,bcell hb hlt (h i hi).2.1,bcell hb hlt (h i hi).2.2.1,bcell hb hlt (h i hi).2.2.2.1,bcell hb hlt (h i hi).2.2.2.2⟩
theorem below2 (w:World) (o1 o2:Obj):Below w.heap.size w ((w.alloc o1).alloc o2):=((Below.refl _ _).alloc (Nat.le_refl _) _).alloc (by simp) _
theorem below3 (w:World) (o1 o2 o3:Obj):Below w.heap.size w (((w.alloc o1).alloc o2).alloc o3):=(below2 w o1 o2).alloc (by simp;omega) _
theorem comesIn_any (x : Cr) (k : Nat) (w : World) (hk : k < 4) :
    Calls Tryd.prog 81 #[.agg #[.int .i64 x.a,.int .i64 x.b,.int .i64 x.c,.int .i64 x.d,.bool x.plus],.int .i64 k] w fun e w'=>e=.returned (.bool (x.comes k))/\Below w.heap.size w w':=by
 obtain⟨xa,xb,xc,xd,xp⟩:=x
 have hk4:k=0∨k=1∨k=2∨k=3:=by omega
 rcases hk4 with rfl|rfl|rfl|rfl
 · go_enter Tryd.func81,Tryd.ntmps81
   go_wp2
   go_ret
   exact⟨rfl,(Below.refl _ _).alloc (Nat.le_refl _) _⟩
 · cases xp
   · go_enter Tryd.func81,Tryd.ntmps81
     go_wp2
     go_ret
     exact⟨rfl,(Below.refl _ _).alloc (Nat.le_refl _) _⟩
   · go_enter Tryd.func81,Tryd.ntmps81
     go_wp2
     go_ret
     exact⟨rfl,(Below.refl _ _).alloc (Nat.le_refl _) _⟩
 · go_enter Tryd.func81,Tryd.ntmps81
   go_wp2
   go_ret
   exact⟨rfl,(Below.refl _ _).alloc (Nat.le_refl _) _⟩
 · cases xp
   · go_enter Tryd.func81,Tryd.ntmps81
     go_wp2
     go_ret
     exact⟨rfl,(Below.refl _ _).alloc (Nat.le_refl _) _⟩
   · go_enter Tryd.func81,Tryd.ntmps81
     go_wp2
     go_ret
     exact⟨rfl,(Below.refl _ _).alloc (Nat.le_refl _) _⟩
theorem arcs_any (x : Cr) (w : World) :
    Calls Tryd.prog 80 #[.agg #[.int .i64 x.a,.int .i64 x.b,.int .i64 x.c,.int .i64 x.d,.bool x.plus]] w fun e w'=>e=.returned (.agg #[.int .i64 x.a,.int .i64 x.b,.int .i64 x.c,.int .i64 x.d])/\Below w.heap.size w w':=by
 go_enter Tryd.func80,Tryd.ntmps80
 go_wp2
 exact bodyPost_ret (v:=.agg #[.int .i64 x.a,.int .i64 x.b,.int .i64 x.c,.int .i64 x.d]) (by simp[results,Tryd.results80,go_sem]) rfl ⟨rfl,below2 _ _ _⟩
end Go.Proofs.YtiliihlkpknhdaaDoor
/- The walk of ref.DiagramMay: which diagrams may be, by counting. -/
namespace Go.Proofs.YtiliihlkpknhdaaDoor
open Go.RowKit
def sideIn (x:Cr) (a:Int):Nat->Nat
 |0=>0
 |k+1=>sideIn x a k+(if x.arc k=a/\x.comes k=true then 1 else 0)
def sideOut (x:Cr) (a:Int):Nat->Nat
 |0=>0
 |k+1=>sideOut x a k+(if x.arc k=a/\x.comes k=false then 1 else 0)
def inTo (C:List Cr) (a:Int):Nat->Nat
 |0=>0
 |i+1=>inTo C a i+sideIn (C.getD i Cr.none) a 4
def outTo (C:List Cr) (a:Int):Nat->Nat
 |0=>0
 |i+1=>outTo C a i+sideOut (C.getD i Cr.none) a 4
def onceB (C:List Cr) (a:Nat):Bool:=decide (inTo C a C.length=1)&&decide (outTo C a C.length=1)
def sizeB (C:List Cr) (loops:Int):Bool:=decide (C.length<=16)&&decide (0<=loops)&&decide (loops<=16)&&!(decide (C.length=0)&&decide (loops=0))
def mayD (C:List Cr) (loops:Int):Bool:=sizeB C loops&&(List.range (2*C.length)).all fun j=>onceB C (j+1)
theorem mayD_no {C:List Cr} {loops:Int} {a:Nat} (h0:1<=a) (h1:a<=2*C.length) (h:onceB C a=false):mayD C loops=false:=by
 cases hm:mayD C loops with
 |false=>rfl
 |true=>
  simp only[mayD,Bool.and_eq_true,List.all_eq_true,List.mem_range]at hm
  have:=hm.2 (a-1) (by omega)
  rw[show a-1+1=a by omega,h]at this
  cases this
theorem mayD_yes {C:List Cr} {loops:Int} (hs:sizeB C loops=true) (h:∀ a:Nat,1<=a->a<=2*C.length->onceB C a=true):mayD C loops=true:=by
 simp only[mayD,Bool.and_eq_true,List.all_eq_true,List.mem_range]
 exact⟨hs,fun j hj=>h (j+1) (by omega) (by omega)⟩
theorem mayD_size {C:List Cr} {loops:Int} (hs:sizeB C loops=false):mayD C loops=false:=by
 simp[mayD,hs]
def Crs (w:World) (B:Nat) (v:Value) (C:List Cr):Prop:=∃ a cap,v=.slice a C.length cap/\C.length<=maxLen/\(0<C.length->∃ b off,a=some ⟨b,off,none⟩/\b<B/\CrossAt w b off C)
end Go.Proofs.YtiliihlkpknhdaaDoor
/- The walk of ref.DiagramMay where crossings and loops are not too many. -/
namespace Go.Proofs.YtiliihlkpknhdaaDoor
open Go.RowKit
theorem sizeB_iff {C:List Cr} {loops:Int} (h:sizeB C loops=true):C.length<=16/\0<=loops/\loops<=16/\¬(C.length=0/\loops=0):=by
 simp only[sizeB,Bool.and_eq_true,decide_eq_true_eq,Bool.not_eq_true',Bool.and_eq_false_iff,decide_eq_false_iff_not]at h
 omega
end Go.Proofs.YtiliihlkpknhdaaDoor
/- The walk of ref.DiagramMay at whatever diagram; the walk of drawing.unknown. -/
namespace Go.Proofs.YtiliihlkpknhdaaDoor
open Go.RowKit
set_option maxHeartbeats 2000000
set_option maxRecDepth 100000
theorem infoSpot:(Tryd.prog.info? 133).map (fun i=>(i.zero,i.size,i.bytes))=some (some (.agg #[.int .i64 0,.int .i64 0]),2,16):=by kernel_rfl
theorem unknown_any (n : Nat) (w : World) (hn : n ≤ 40) :
    Calls Tryd.prog 79 #[.int .i64 n] w fun e w'=>∃ v,e=.returned v/\w'.ownsRow w.heap.size 133 2 v n (flat (List.replicate n (-1,0)))/\Below w.heap.size w w':=by
 obtain⟨i0,hi,hz0,hz1,hz2⟩:=info_parts infoSpot
 go_enter Tryd.func79,Tryd.ntmps79
 go_wp2_with (first|(at_make;refine wpList_make_full _ rfl _ _ 102 rfl w.heap.size 133 i0 (.agg #[.int .i64 0,.int .i64 0]) 2 Tryd.underlying102 hi hz0 hz1 .i64 .i64 _ _ n rfl rfl rfl rfl (by rw[hz2];omega) (by unfold maxLen;omega) (Nat.le_refl _) ?_;intro w1 hrow hg1;refine Hid.out ?_))
 refine Lib.hid ?_
 have hz:(madeCells (Value.agg #[.int .i64 0,.int .i64 0]).cells (n*2)).toList=flat (unkTo n 0):=by
  have e:(Value.agg #[.int .i64 0,.int .i64 0]).cells=#[Value.int .i64 0,.int .i64 0]:=rfl
  rw[e,flat_zeros]
  simp[unkTo]
 rw[hz]at hrow
 have HB1:Hid (Below w.heap.size w w1):=(Below.refl _ _).grown hg1 (Nat.le_refl _) (fun j hj=>by cases hj)
 clear hz hg1
 go_wp2
 go_loopw [9] (fun v9 wr=>∃ i:Nat,i<=n/\v9=.int .i64 i/\wr.ownsRow w.heap.size 133 2 (.slice (some ⟨w.heap.size,0,none⟩) n n) n (flat (unkTo n i))/\Below w.heap.size w wr) (fun v9 _=>n-(intOf v9).toNat)
 case atStart=>exact⟨0,Nat.zero_le _,rfl,hrow,HB1.out⟩
 case round=>
  clear hrow
  obtain⟨i,hin,rfl,hown,hb⟩:=hrel
  have hlow:=(hown.lt w.heap.size rfl).2
  by_cases hil:i<n
  · have hul:(unkTo n i).length=n:=by simp[unkTo];omega
    have f0:=hown.frozenAt (i*2)
    have c0:wr.cell? ⟨w.heap.size,i*2,none⟩=some (.int .i64 ((unkTo n i).getD i (0,0)).1):=by rw[hown.cellAt (i*2) (by omega)];exact flat_cellE _ i (by omega)
    have hst:=hown.stored (i*2) (.int .i64 (-1))
    rw[flat_setE _ i (-1) (by omega),unk_next n i hil]at hst
    have HST:Hid ((wr.setCell ⟨w.heap.size,i*2,none⟩ (.int .i64 (-1))).ownsRow w.heap.size 133 2 (.slice (some ⟨w.heap.size,0,none⟩) n n) n (flat (unkTo n (i+1)))):=hst.1
    have HBB:Hid (Below w.heap.size w (wr.setCell ⟨w.heap.size,i*2,none⟩ (.int .i64 (-1)))):=hb.grown hst.2 hb.size (fun j hj=>by cases hj;exact Nat.le_refl _)
    generalize ((unkTo n i).getD i (0,0)).1=u at c0
    clear hst hown
    go_wp2
    go_roundw
    case rel=>exact⟨i+1,by omega,by go_num,HST.out,HBB.out⟩
    case measure=>simp only[intOf];omega
  · obtain rfl:i=n:=by omega
    go_wp2
    go_ret
    exact ⟨_, rfl, by have e : unkTo i i = List.replicate i (-1, 0) := by simp [unkTo]
                      rw[<-e];exact hown,hb⟩
end Go.Proofs.YtiliihlkpknhdaaDoor
/- A diagram may be just if no arc stands twice where strands come in, nor where they go out, and none is out of range. Plain mathematics: no program is named here. -/
namespace Go.Proofs.YtiliihlkpknhdaaDoor
def sd (x:Cr) (a:Int) (p:Bool):Nat->Nat
 |0=>0
 |k+1=>sd x a p k+(if x.arc k=a/\x.comes k=p then 1 else 0)
def sdTo (C:List Cr) (a:Int) (p:Bool):Nat->Nat
 |0=>0
 |i+1=>sdTo C a p i+sd (C.getD i Cr.none) a p 4
theorem sd_in (x:Cr) (a:Int) (k:Nat):sd x a true k=sideIn x a k:=by
 induction k with
 |zero=>rfl
 |succ k ih=>simp only[sd,sideIn,ih]
theorem sd_out (x:Cr) (a:Int) (k:Nat):sd x a false k=sideOut x a k:=by
 induction k with
 |zero=>rfl
 |succ k ih=>simp only[sd,sideOut,ih]
theorem sdTo_in (C:List Cr) (a:Int) (i:Nat):sdTo C a true i=inTo C a i:=by
 induction i with
 |zero=>rfl
 |succ i ih=>simp only[sdTo,inTo,ih,sd_in]
theorem sdTo_out (C:List Cr) (a:Int) (i:Nat):sdTo C a false i=outTo C a i:=by
 induction i with
 |zero=>rfl
 |succ i ih=>simp only[sdTo,outTo,ih,sd_out]
def sumA (f:Nat->Nat):Nat->Nat
 |0=>0
 |m+1=>sumA f m+f (m+1)
theorem sumA_add (f g:Nat->Nat) (m:Nat):sumA (fun a=>f a+g a) m=sumA f m+sumA g m:=by
 induction m with
 |zero=>rfl
 |succ m ih=>simp only[sumA,ih];omega
theorem sumA_congr {f g:Nat->Nat} (m:Nat) (h:∀ a,1<=a->a<=m->f a=g a):sumA f m=sumA g m:=by
 induction m with
 |zero=>rfl
 |succ m ih=>simp only[sumA];rw[ih fun a h1 h2=>h a h1 (by omega),h (m+1) (by omega) (Nat.le_refl _)]
theorem sumA_zero (m:Nat):sumA (fun _=>0) m=0:=by
 induction m with
 |zero=>rfl
 |succ m ih=>simp only[sumA,ih]
theorem sumA_one (m:Nat):sumA (fun _=>1) m=m:=by
 induction m with
 |zero=>rfl
 |succ m ih=>simp only[sumA,ih]
theorem sumA_at (v:Int) (m:Nat):sumA (fun a=>if v=(a:Int) then 1 else 0) m=if 1<=v/\v<=m then 1 else 0:=by
 induction m with
 |zero=>simp only[sumA];rw[if_neg (by omega)]
 |succ m ih=>
  simp only[sumA,ih]
  by_cases h1:1<=v/\v<=m
  · rw[if_pos h1,if_neg (by omega),if_pos (by omega)]
  · rw[if_neg h1]
    by_cases h2:v=((m+1:Nat):Int)
    · rw[if_pos h2,if_pos (by omega)]
    · rw[if_neg h2,if_neg (by omega)]
theorem sumA_all {f:Nat->Nat} {m:Nat} (h1:∀ a,1<=a->a<=m->f a<=1) (hs:sumA f m=m):∀ a,1<=a->a<=m->f a=1:=by
 have hle:∀ k,k<=m->sumA f k<=k:=by
  intro k
  induction k with
  |zero=>intro _;exact Nat.le_refl _
  |succ k ih=>
   intro hk
   have:=ih (by omega)
   have:=h1 (k+1) (by omega) hk
   simp only[sumA]
   omega
 induction m with
 |zero=>intro a h2 h3;omega
 |succ m ih=>
  have hm:=hle m (by omega)
  have hl:=h1 (m+1) (by omega) (Nat.le_refl _)
  simp only[sumA]at hs
  intro a h2 h3
  by_cases e:a=m+1
  · rw[e];omega
  · exact ih (fun b hb1 hb2=>h1 b hb1 (by omega)) (by omega) (fun k hk=>hle k (by omega)) a h2 (by omega)
def cnt (x:Cr) (p:Bool):Nat->Nat
 |0=>0
 |k+1=>cnt x p k+(if x.comes k=p then 1 else 0)
theorem cnt_four (x:Cr) (p:Bool):cnt x p 4=2:=by
 obtain⟨a,b,c,d,q⟩:=x
 cases p<;>cases q<;>rfl
def rng (x:Cr) (p:Bool) (m:Nat):Nat->Nat
 |0=>0
 |k+1=>rng x p m k+(if x.comes k=p/\1<=x.arc k/\x.arc k<=m then 1 else 0)
def rngTo (C:List Cr) (p:Bool) (m:Nat):Nat->Nat
 |0=>0
 |i+1=>rngTo C p m i+rng (C.getD i Cr.none) p m 4
theorem sum_sd (x:Cr) (p:Bool) (m k:Nat):sumA (fun a=>sd x a p k) m=rng x p m k:=by
 induction k with
 |zero=>exact sumA_zero m
 |succ k ih=>
  simp only[sd,rng,sumA_add,ih]
  congr 1
  by_cases h:x.comes k=p
  · rw[sumA_congr m (g:=fun a=>if x.arc k=(a:Int) then 1 else 0) (fun a _ _=>by simp[h]),sumA_at]
    simp[h]
  · rw[sumA_congr m (g:=fun _=>0) (fun a _ _=>by simp[h]),sumA_zero,if_neg (fun e=>h e.1)]
theorem sum_sdTo (C:List Cr) (p:Bool) (m i:Nat):sumA (fun a=>sdTo C a p i) m=rngTo C p m i:=by
 induction i with
 |zero=>exact sumA_zero m
 |succ i ih=>simp only[sdTo,rngTo,sumA_add,ih,sum_sd]
theorem rng_le (x:Cr) (p:Bool) (m k:Nat):rng x p m k<=cnt x p k:=by
 induction k with
 |zero=>exact Nat.le_refl _
 |succ k ih=>
  simp only[rng,cnt]
  by_cases h:x.comes k=p
  · rw[if_pos h];split<;>omega
  · rw[if_neg h,if_neg (fun e=>h e.1)];omega
theorem rng_lt (x:Cr) (p:Bool) (m k j:Nat) (hj:j<k) (hc:x.comes j=p) (ho:¬(1<=x.arc j/\x.arc j<=m)):rng x p m k<cnt x p k:=by
 induction k with
 |zero=>omega
 |succ k ih=>
  simp only[rng,cnt]
  by_cases e:j=k
  · subst e
    have:=rng_le x p m j
    rw[if_pos hc,if_neg (fun e=>ho e.2)]
    omega
  · have:=ih (by omega)
    by_cases h:x.comes k=p
    · rw[if_pos h];split<;>omega
    · rw[if_neg h,if_neg (fun e=>h e.1)];omega
theorem rng_all (x:Cr) (p:Bool) (m k:Nat) (h:∀ j,j<k->x.comes j=p->1<=x.arc j/\x.arc j<=m):rng x p m k=cnt x p k:=by
 induction k with
 |zero=>rfl
 |succ k ih=>
  simp only[rng,cnt]
  rw[ih fun j hj=>h j (by omega)]
  by_cases hc:x.comes k=p
  · rw[if_pos hc,if_pos ⟨hc,h k (by omega) hc⟩]
  · rw[if_neg hc,if_neg (fun e=>hc e.1)]
theorem rngTo_le (C:List Cr) (p:Bool) (m i:Nat):rngTo C p m i<=2*i:=by
 induction i with
 |zero=>exact Nat.le_refl _
 |succ i ih=>
  have:=rng_le (C.getD i Cr.none) p m 4
  rw[cnt_four]at this
  simp only[rngTo]
  omega
theorem rngTo_lt (C:List Cr) (p:Bool) (m n i k:Nat) (hi:i<n) (hk:k<4) (hc:(C.getD i Cr.none).comes k=p) (ho:¬(1<=(C.getD i Cr.none).arc k/\(C.getD i Cr.none).arc k<=m)):rngTo C p m n<2*n:=by
 induction n with
 |zero=>omega
 |succ n ih=>
  simp only[rngTo]
  by_cases e:i=n
  · subst e
    have h1:=rng_lt (C.getD i Cr.none) p m 4 k hk hc ho
    have h2:=rngTo_le C p m i
    rw[cnt_four]at h1
    omega
  · have h1:=ih (by omega)
    have h2:=rng_le (C.getD n Cr.none) p m 4
    rw[cnt_four]at h2
    omega
theorem rngTo_all (C:List Cr) (p:Bool) (m n:Nat) (h:∀ i k,i<n->k<4->(C.getD i Cr.none).comes k=p->1<=(C.getD i Cr.none).arc k/\(C.getD i Cr.none).arc k<=m):rngTo C p m n=2*n:=by
 induction n with
 |zero=>rfl
 |succ n ih=>
  simp only[rngTo]
  rw[ih fun i k hi=>h i k (by omega),rng_all _ p m 4 (fun j hj hc=>h n j (by omega) hj hc),cnt_four]
  omega
def ahd (C:List Cr) (a:Int) (p:Bool) (i k:Nat):Nat:=sdTo C a p i+sd (C.getD i Cr.none) a p k
theorem ahd_next (C:List Cr) (a:Int) (p:Bool) (i k:Nat):ahd C a p i (k+1)=ahd C a p i k+(if(C.getD i Cr.none).arc k=a/\(C.getD i Cr.none).comes k=p then 1 else 0):=by
 simp only[ahd,sd];omega
theorem sd_mono (x:Cr) (a:Int) (p:Bool) (j k:Nat) (h:j<=k):sd x a p j<=sd x a p k:=by
 induction k with
 | zero => obtain rfl : j = 0 := by omega
           exact Nat.le_refl _
 |succ k ih=>
  by_cases e:j=k+1
  · subst e;exact Nat.le_refl _
  · have:=ih (by omega)
    simp only[sd]
    omega
theorem sdTo_mono (C:List Cr) (a:Int) (p:Bool) (i n:Nat) (h:i<=n):sdTo C a p i<=sdTo C a p n:=by
 induction n with
 | zero => obtain rfl : i = 0 := by omega
           exact Nat.le_refl _
 |succ n ih=>
  by_cases e:i=n+1
  · subst e;exact Nat.le_refl _
  · have:=ih (by omega)
    simp only[sdTo]
    omega
theorem ahd_le (C:List Cr) (a:Int) (p:Bool) (i k n:Nat) (hi:i<n) (hk:k<=4):ahd C a p i k<=sdTo C a p n:=by
 have h1:=sd_mono (C.getD i Cr.none) a p k 4 hk
 have h2:=sdTo_mono C a p (i+1) n (by omega)
 simp only[sdTo]at h2
 simp only[ahd]
 omega
def fit (C:List Cr) (i k:Nat):Prop:=1<=(C.getD i Cr.none).arc k/\(C.getD i Cr.none).arc k<=2*(C.length:Int)/\ahd C ((C.getD i Cr.none).arc k) ((C.getD i Cr.none).comes k) i k=0
theorem once_sd {C:List Cr} {a:Nat} (h:onceB C a=true) (p:Bool):sdTo C a p C.length=1:=by
 simp only[onceB,Bool.and_eq_true,decide_eq_true_eq]at h
 cases p
 · rw[sdTo_out];exact h.2
 · rw[sdTo_in];exact h.1
theorem may_once {C:List Cr} {loops:Int} (h:mayD C loops=true) (a:Nat) (h1:1<=a) (h2:a<=2*C.length):onceB C a=true:=by
 cases ho:onceB C a with
 |true=>rfl
 |false=>rw[mayD_no h1 h2 ho]at h;cases h
theorem unfit_no {C:List Cr} {loops:Int} {i k:Nat} (hi:i<C.length) (hk:k<4) (h:¬fit C i k):mayD C loops=false:=by
 cases hm:mayD C loops with
 |false=>rfl
 |true=>
  exfalso
  by_cases hr:1<=(C.getD i Cr.none).arc k/\(C.getD i Cr.none).arc k<=2*(C.length:Int)
  · obtain⟨a,ha⟩:∃ a:Nat,(C.getD i Cr.none).arc k=(a:Int):=⟨((C.getD i Cr.none).arc k).toNat,by omega⟩
    have h1:=once_sd (may_once hm a (by omega) (by omega)) ((C.getD i Cr.none).comes k)
    have h2:=ahd_le C a ((C.getD i Cr.none).comes k) i (k+1) C.length hi (by omega)
    rw[ahd_next,if_pos ⟨ha,rfl⟩]at h2
    refine h ⟨hr.1,hr.2,?_⟩
    rw[ha]
    omega
  · have h1:=rngTo_lt C ((C.getD i Cr.none).comes k) (2*C.length) C.length i k hi hk rfl (by omega)
    rw[<-sum_sdTo,sumA_congr (2*C.length) (g:=fun _=>1) (fun a h2 h3=>once_sd (may_once hm a h2 h3) _),sumA_one]at h1
    omega
theorem fit_yes {C:List Cr} {loops:Int} (hs:sizeB C loops=true) (h:∀ i k,i<C.length->k<4->fit C i k):mayD C loops=true:=by
 have key:∀ p,∀ a:Nat,1<=a->a<=2*C.length->sdTo C a p C.length=1:=by
  intro p
  refine sumA_all (f:=fun a=>sdTo C a p C.length) ?_ ?_
  · intro a h1 h2
    have hrow:∀ i,i<=C.length->sdTo C a p i<=1:=by
     intro i
     induction i with
     |zero=>intro _;exact Nat.zero_le _
     |succ i ih=>
      intro hi
      have ih:=ih (by omega)
      have hcol:∀ k,k<=4->ahd C a p i k<=1:=by
       intro k
       induction k with
       |zero=>intro _;exact ih
       |succ k ihk=>
        intro hk
        have ihk:=ihk (by omega)
        rw[ahd_next]
        split
        · next e=>
          have hf:=(h i k (by omega) (by omega)).2.2
          rw[e.1,e.2]at hf
          omega
        · omega
      have:=hcol 4 (Nat.le_refl _)
      exact this
    exact hrow C.length (Nat.le_refl _)
  · rw[sum_sdTo]
    exact rngTo_all C p _ C.length fun i k hi hk _=>by
     have:=h i k hi hk
     exact⟨this.1,by have:=this.2.1;omega⟩
 refine mayD_yes hs fun a h1 h2=>?_
 simp only[onceB,Bool.and_eq_true,decide_eq_true_eq]
 exact⟨by rw[<-sdTo_in];exact key true a h1 h2,by rw[<-sdTo_out];exact key false a h1 h2⟩
end Go.Proofs.YtiliihlkpknhdaaDoor
/- Where arcs begin and end; walks along strands; Dowker's numbers. Plain mathematics: no program is named here. -/
namespace Go.Proofs.YtiliihlkpknhdaaDoor
def sideEnd (x:Cr) (i:Nat) (a:Int) (p:Bool) (z:Int×Int):Nat->Int×Int
 |0=>z
 |k+1=>if x.arc k=a/\x.comes k=p then((i:Int),(k:Int)) else sideEnd x i a p z k
def endTo (C:List Cr) (a:Int) (p:Bool):Nat->Int×Int
 |0=>(-1,0)
 |i+1=>sideEnd (C.getD i Cr.none) i a p (endTo C a p i) 4
def endAh (C:List Cr) (a:Int) (p:Bool) (i k:Nat):Int×Int:=sideEnd (C.getD i Cr.none) i a p (endTo C a p i) k
theorem endAh_next (C:List Cr) (a:Int) (p:Bool) (i k:Nat):endAh C a p i (k+1)=if(C.getD i Cr.none).arc k=a/\(C.getD i Cr.none).comes k=p then((i:Int),(k:Int)) else endAh C a p i k:=rfl
theorem sideEnd_cases (x:Cr) (i:Nat) (a:Int) (p:Bool) (z:Int×Int) (k:Nat):(sd x a p k=0/\sideEnd x i a p z k=z)∨(0<sd x a p k/\∃ j,j<k/\x.arc j=a/\x.comes j=p/\sideEnd x i a p z k=((i:Int),(j:Int))):=by
 induction k with
 |zero=>exact Or.inl ⟨rfl,rfl⟩
 |succ k ih=>
  by_cases h:x.arc k=a/\x.comes k=p
  · refine Or.inr ⟨?_,k,by omega,h.1,h.2,?_⟩
    · simp only[sd];rw[if_pos h];omega
    · simp only[sideEnd];rw[if_pos h]
  · have e1:sd x a p (k+1)=sd x a p k:=by simp only[sd];rw[if_neg h];rfl
    have e2:sideEnd x i a p z (k+1)=sideEnd x i a p z k:=by simp only[sideEnd];rw[if_neg h]
    rw[e1,e2]
    rcases ih with ih|⟨h1,j,h2,h3⟩
    · exact Or.inl ih
    · exact Or.inr ⟨h1,j,by omega,h3⟩
theorem endTo_cases (C:List Cr) (a:Int) (p:Bool) (n:Nat):(sdTo C a p n=0/\endTo C a p n=(-1,0))∨(0<sdTo C a p n/\∃ i j,i<n/\j<4/\(C.getD i Cr.none).arc j=a/\(C.getD i Cr.none).comes j=p/\endTo C a p n=((i:Int),(j:Int))):=by
 induction n with
 |zero=>exact Or.inl ⟨rfl,rfl⟩
 |succ n ih=>
  simp only[sdTo,endTo]
  rcases sideEnd_cases (C.getD n Cr.none) n a p (endTo C a p n) 4 with⟨h1,h2⟩|⟨h1,j,h2,h3,h4,h5⟩
  · rw[h1,h2]
    rcases ih with ih|⟨h1,i,j,h2,h3⟩
    · exact Or.inl ih
    · exact Or.inr ⟨h1,i,j,by omega,h3⟩
  · exact Or.inr ⟨by omega,n,j,by omega,h2,h3,h4,h5⟩
theorem endAh_cases (C:List Cr) (a:Int) (p:Bool) (i k:Nat) (hk:k<=4):(ahd C a p i k=0/\endAh C a p i k=(-1,0))∨(0<ahd C a p i k/\∃ i' j:Nat,j<4/\endAh C a p i k=((i':Int),(j:Int))):=by
 simp only[ahd,endAh]
 rcases sideEnd_cases (C.getD i Cr.none) i a p (endTo C a p i) k with⟨h1,h2⟩|⟨h1,j,h2,h3,h4,h5⟩
 · rw[h1,h2]
   rcases endTo_cases C a p i with h|⟨h1,i',j,h2,h3,h4,h5,h6⟩
   · exact Or.inl h
   · exact Or.inr ⟨h1,i',j,h3,h6⟩
 · exact Or.inr ⟨by omega,i,j,by omega,h5⟩
theorem endAh_free (C:List Cr) (a:Int) (p:Bool) (i k:Nat) (hk:k<=4):(endAh C a p i k).1 = -1↔ahd C a p i k=0:=by
 rcases endAh_cases C a p i k hk with⟨h1,h2⟩|⟨h1,i',j,h2,h3⟩
 · rw[h1,h2];simp
 · rw[h3]
   constructor
   · intro h
     have:(i':Int) = -1:=h
     omega
   · intro h;omega
def ends (C:List Cr) (p:Bool) (i k:Nat):List (Int×Int):=(List.range (2*C.length+1)).map fun a=>if a=0 then(-1,0) else endAh C (a:Nat) p i k
theorem ends_length (C:List Cr) (p:Bool) (i k:Nat):(ends C p i k).length=2*C.length+1:=by simp[ends]
theorem ends_at (C:List Cr) (p:Bool) (i k a:Nat) (h1:1<=a) (h2:a<=2*C.length):(ends C p i k).getD a (0,0)=endAh C a p i k:=by
 unfold ends
 rw[List.getD_eq_getElem?_getD,List.getElem?_map,List.getElem?_range (by omega)]
 simp
 omega
theorem ends_start (C:List Cr) (p:Bool):ends C p 0 0=List.replicate (2*C.length+1) (-1,0):=by
 apply List.ext_getElem
 · simp[ends]
 · intro j h1 h2
   simp only[ends,List.getElem_map,List.getElem_range,List.getElem_replicate]
   split<;>rfl
theorem ends_keep (C:List Cr) (p:Bool) (i k:Nat) (h:(C.getD i Cr.none).comes k≠p):ends C p i (k+1)=ends C p i k:=by
 unfold ends
 apply List.map_congr_left
 intro a _
 have e:endAh C (a:Nat) p i (k+1)=endAh C (a:Nat) p i k:=by rw[endAh_next,if_neg (fun e=>h e.2)]
 simp only[e]
theorem ends_set (C:List Cr) (p:Bool) (i k a:Nat) (h1:1<=a) (hc:(C.getD i Cr.none).comes k=p) (ha:(C.getD i Cr.none).arc k=(a:Int)):(ends C p i k).set a ((i:Int),(k:Int))=ends C p i (k+1):=by
 apply List.ext_getElem
 · simp[ends]
 · intro j h2 h3
   rw[List.getElem_set]
   simp only[ends,List.getElem_map,List.getElem_range]
   by_cases e:a=j
   · subst e
     rw[if_pos rfl,if_neg (by omega),endAh_next,if_pos ⟨ha,hc⟩]
   · have e2:endAh C (j:Nat) p i (k+1)=endAh C (j:Nat) p i k:=by rw[endAh_next,if_neg (fun h=>e (by have:=h.1;rw[ha]at this;omega))]
     rw[if_neg e,e2]
theorem end_may {C:List Cr} {loops:Int} (hm:mayD C loops=true) (a:Nat) (h1:1<=a) (h2:a<=2*C.length) (p:Bool):∃ i k:Nat,i<C.length/\k<4/\(C.getD i Cr.none).arc k=(a:Int)/\(C.getD i Cr.none).comes k=p/\endTo C a p C.length=((i:Int),(k:Int)):=by
 have ho:=once_sd (may_once hm a h1 h2) p
 rcases endTo_cases C a p C.length with⟨h,_⟩|⟨_,i,j,h3,h4,h5,h6,h7⟩
 · omega
 · exact⟨i,j,h3,h4,h5,h6,h7⟩
theorem sd_at (x:Cr) (a:Int) (p:Bool) (k n:Nat) (hk:k<n) (h:x.arc k=a/\x.comes k=p):0<sd x a p n:=by
 have:=sd_mono x a p (k+1) n (by omega)
 simp only[sd]at this
 rw[if_pos h]at this
 omega
theorem sd_two (x:Cr) (a:Int) (p:Bool) (j k n:Nat) (hj:j<k) (hk:k<n) (h:x.arc j=a/\x.comes j=p) (h2:x.arc k=a/\x.comes k=p):2<=sd x a p n:=by
 have h3:=sd_at x a p j k hj h
 have:=sd_mono x a p (k+1) n (by omega)
 simp only[sd]at this
 rw[if_pos h2]at this
 omega
theorem end_one {C:List Cr} {loops:Int} (hm:mayD C loops=true) (a:Nat) (h1:1<=a) (h2:a<=2*C.length) (p:Bool) (i k:Nat) (hi:i<C.length) (hk:k<4) (ha:(C.getD i Cr.none).arc k=(a:Int)) (hc:(C.getD i Cr.none).comes k=p):endTo C a p C.length=((i:Int),(k:Int)):=by
 have ho:=once_sd (may_once hm a h1 h2) p
 obtain⟨i',k',h3,h4,h5,h6,h7⟩:=end_may hm a h1 h2 p
 rw[h7]
 have row:∀ u v s t:Nat,u<v->v<C.length->s<4->t<4->(C.getD u Cr.none).arc s=(a:Int)->(C.getD u Cr.none).comes s=p->(C.getD v Cr.none).arc t=(a:Int)->(C.getD v Cr.none).comes t=p->False:=by
  intro u v s t huv hv hs ht e1 e2 e3 e4
  have g1:=sd_at (C.getD u Cr.none) a p s 4 hs ⟨e1,e2⟩
  have g2:=sd_at (C.getD v Cr.none) a p t 4 ht ⟨e3,e4⟩
  have g3:=sdTo_mono C a p (u+1) v (by omega)
  have g4:=sdTo_mono C a p (v+1) C.length (by omega)
  simp only[sdTo]at g3 g4
  omega
 have col:∀ u s t:Nat,s<t->u<C.length->t<4->(C.getD u Cr.none).arc s=(a:Int)->(C.getD u Cr.none).comes s=p->(C.getD u Cr.none).arc t=(a:Int)->(C.getD u Cr.none).comes t=p->False:=by
  intro u s t hst hu ht e1 e2 e3 e4
  have g2:=sd_two (C.getD u Cr.none) a p s t 4 hst ht ⟨e1,e2⟩ ⟨e3,e4⟩
  have g4:=sdTo_mono C a p (u+1) C.length (by omega)
  simp only[sdTo]at g4
  omega
 rcases Nat.lt_trichotomy i i' with h|h|h
 · exact(row i i' k k' h h3 hk h4 ha hc h5 h6).elim
 · subst h
   rcases Nat.lt_trichotomy k k' with h|h|h
   · exact(col i k k' h hi h4 ha hc h5 h6).elim
   · subst h;rfl
   · exact(col i k' k h hi hk h5 h6 ha hc).elim
 · exact(row i' i k' k h hi h4 hk h5 h6 ha hc).elim
theorem may_fit {C:List Cr} {loops:Int} (hm:mayD C loops=true) (i k:Nat) (hi:i<C.length) (hk:k<4):fit C i k:=by
 refine Classical.byContradiction fun h=>?_
 rw[unfit_no hi hk h]at hm
 cases hm
def toC (C:List Cr) (a:Nat):Nat:=(endTo C a true C.length).1.toNat
def toS (C:List Cr) (a:Nat):Nat:=(endTo C a true C.length).2.toNat
def nx (C:List Cr) (a:Nat):Nat:=((C.getD (toC C a) Cr.none).arc ((toS C a+2)%4)).toNat
def walkF (f:Nat->Nat):Nat->List Bool->Nat->List Nat->List Nat×List Bool
 |0,seen,_,acc=>(acc,seen)
 |m+1,seen,x,acc=>if seen.getD x true=true then(acc,seen) else walkF f m (seen.set x true) (f x) (acc++[x])
def unseen (l:List Bool):Nat:=l.countP (fun b=>!b)
theorem unseen_set {l:List Bool} {x:Nat} (h:l.getD x true=false):unseen (l.set x true)+1=unseen l:=by
 induction l generalizing x with
 |nil=>simp at h
 |cons b l ih=>
  cases x with
  |zero=>
   have:b=false:=by simpa using h
   subst this
   simp[unseen]
  |succ x=>
   have:=ih (x:=x) (by simpa using h)
   simp only[unseen,List.set_cons_succ,List.countP_cons]at this ⊢
   omega
theorem unseen_pos {l:List Bool} {x:Nat} (h:l.getD x true=false):0<unseen l:=by have:=unseen_set h;omega
theorem walkF_seen {f:Nat->Nat} {m:Nat} {seen:List Bool} {x:Nat} {acc:List Nat} (h:seen.getD x true=true):walkF f m seen x acc=(acc,seen):=by
 cases m with
 |zero=>rfl
 |succ m=>simp only[walkF];rw[if_pos h]
theorem walkF_more {f:Nat->Nat} {m:Nat} {seen:List Bool} {x:Nat} {acc:List Nat} (h:seen.getD x true=false) (hm:unseen seen<=m):walkF f m seen x acc=walkF f (m-1) (seen.set x true) (f x) (acc++[x])/\unseen (seen.set x true)<=m-1:=by
 have h2:=unseen_set h
 cases m with
 |zero=>omega
 |succ m=>
  simp only[walkF]
  rw[if_neg (by rw[h];decide)]
  exact⟨rfl,by omega⟩
def walksTo (f:Nat->Nat) (n:Nat):Nat->List (List Nat)×List Bool
 |0=>([],List.replicate (n+1) false)
 |a+1=>let r:=walksTo f n a;let s:=walkF f (n+1) r.2 (a+1) [];(if s.1=[] then r.1 else r.1++[s.1],s.2)
theorem walkF_len (f:Nat->Nat) (m:Nat) (seen:List Bool) (x:Nat) (acc:List Nat):(walkF f m seen x acc).2.length=seen.length:=by
 induction m generalizing seen x acc with
 |zero=>rfl
 |succ m ih=>
  simp only[walkF]
  split
  · rfl
  · rw[ih];simp
theorem unseen_le (l:List Bool):unseen l<=l.length:=List.countP_le_length
theorem walksTo_len (f:Nat->Nat) (n a:Nat):(walksTo f n a).2.length=n+1:=by
 induction a with
 |zero=>simp[walksTo]
 |succ a ih=>simp only[walksTo];rw[walkF_len,ih]
theorem walkF_mem {f:Nat->Nat} {n:Nat} (hf:∀ a,1<=a->a<=n->1<=f a/\f a<=n) (m:Nat) (seen:List Bool) (x:Nat) (acc:List Nat) (h1:1<=x) (h2:x<=n) (ha:∀ y,y∈acc->1<=y/\y<=n):∀ y,y∈(walkF f m seen x acc).1->1<=y/\y<=n:=by
 induction m generalizing seen x acc with
 |zero=>exact ha
 |succ m ih=>
  simp only[walkF]
  split
  · exact ha
  · refine ih _ _ _ (hf x h1 h2).1 (hf x h1 h2).2 fun y hy=>?_
    rcases List.mem_append.1 hy with hy|hy
    · exact ha y hy
    · rw[List.mem_singleton.1 hy];exact⟨h1,h2⟩
theorem walkF_size (f:Nat->Nat) (m:Nat) (seen:List Bool) (x:Nat) (acc:List Nat):(walkF f m seen x acc).1.length+unseen (walkF f m seen x acc).2=acc.length+unseen seen:=by
 induction m generalizing seen x acc with
 |zero=>rfl
 |succ m ih=>
  simp only[walkF]
  split
  · rfl
  · next h=>
    have h':seen.getD x true=false:=by cases hb:seen.getD x true with
     |true=>exact absurd hb h
     |false=>rfl
    have:=unseen_set h'
    rw[ih]
    simp only[List.length_append,List.length_cons,List.length_nil]
    omega
theorem walksTo_mem {f:Nat->Nat} {n:Nat} (hf:∀ a,1<=a->a<=n->1<=f a/\f a<=n) (a:Nat) (ha:a<=n):∀ l,l∈(walksTo f n a).1->l≠[]/\l.length<=n+1/\∀ y,y∈l->1<=y/\y<=n:=by
 induction a with
 |zero=>intro l hl;simp[walksTo]at hl
 |succ a ih=>
  intro l hl
  simp only[walksTo]at hl
  split at hl
  · exact ih (by omega) l hl
  · next he=>
    rcases List.mem_append.1 hl with hl|hl
    · exact ih (by omega) l hl
    · rw[List.mem_singleton.1 hl]
      refine⟨he,?_,walkF_mem hf _ _ _ _ (by omega) ha fun y hy=>by cases hy⟩
      have h1:=walkF_size f (n+1) (walksTo f n a).2 (a+1) []
      have h2:=unseen_le (walksTo f n a).2
      rw[walksTo_len]at h2
      simp only[List.length_nil]at h1
      omega
theorem walksTo_count (f:Nat->Nat) (n a:Nat):(walksTo f n a).1.length<=a:=by
 induction a with
 |zero=>exact Nat.le_refl _
 |succ a ih=>
  simp only[walksTo]
  split
  · omega
  · simp only[List.length_append,List.length_cons,List.length_nil];omega
def cp (x:Nat->Nat) (c r:Nat):Nat->Nat
 |0=>0
 |m+1=>cp x c r m+(if x m=c/\m%2=r then 1 else 0)
def un (l:List Bool) (y:Nat):Nat:=if l.getD y true=true then 0 else 1
theorem un_set_same {l:List Bool} {x:Nat}:un (l.set x true) x=0:=by
 unfold un
 rw[if_pos]
 rw[List.getD_eq_getElem?_getD]
 by_cases h:x<l.length
 · simp[h]
 · rw[List.getElem?_eq_none (by simp;omega)];rfl
theorem un_set_other {l:List Bool} {x y:Nat} (h:x≠y):un (l.set x true) y=un l y:=by
 unfold un
 rw[List.getD_eq_getElem?_getD,List.getD_eq_getElem?_getD,List.getElem?_set_ne h]
theorem walkF_count (f:Nat->Nat) (m:Nat) (seen:List Bool) (x:Nat) (acc:List Nat) (y:Nat):(walkF f m seen x acc).1.count y+un (walkF f m seen x acc).2 y=acc.count y+un seen y:=by
 induction m generalizing seen x acc with
 |zero=>rfl
 |succ m ih=>
  simp only[walkF]
  split
  · rfl
  · next h=>
    rw[ih,List.count_append]
    by_cases e:x=y
    · subst e
      have e1:un seen x=1:=by unfold un;rw[if_neg h]
      rw[un_set_same,e1]
      simp
    · rw[un_set_other e,List.count_cons_of_ne e]
      simp
theorem walkF_keep (f:Nat->Nat) (m:Nat) (seen:List Bool) (x:Nat) (acc:List Nat) (y:Nat) (h:un seen y=0):un (walkF f m seen x acc).2 y=0:=by
 induction m generalizing seen x acc with
 |zero=>exact h
 |succ m ih=>
  simp only[walkF]
  split
  · exact h
  · apply ih
    by_cases e:x=y
    · subst e;exact un_set_same
    · rw[un_set_other e];exact h
theorem walkF_first (f:Nat->Nat) (m:Nat) (seen:List Bool) (x:Nat) (acc:List Nat):un (walkF f (m+1) seen x acc).2 x=0:=by
 simp only[walkF]
 split
 · next h=>unfold un;rw[if_pos h]
 · exact walkF_keep f m _ _ _ x un_set_same
theorem walksTo_seen (f:Nat->Nat) (n a:Nat):∀ y,1<=y->y<=a->un (walksTo f n a).2 y=0:=by
 induction a with
 |zero=>intro y h1 h2;omega
 |succ a ih=>
  intro y h1 h2
  simp only[walksTo]
  by_cases e:y=a+1
  · subst e;exact walkF_first f n _ _ _
  · exact walkF_keep f (n+1) _ _ _ y (ih y h1 (by omega))
theorem walksTo_one (f:Nat->Nat) (n a y:Nat) (_h1:1<=y) (h2:y<=n):(walksTo f n a).1.flatten.count y+un (walksTo f n a).2 y=1:=by
 induction a with
 |zero=>
  have e:un (walksTo f n 0).2 y=1:=by
   have e2:(walksTo f n 0).2.getD y true=false:=by
    show(List.replicate (n+1) false).getD y true=false
    rw[List.getD_eq_getElem?_getD,List.getElem?_replicate,if_pos (by omega)]
    rfl
   unfold un
   rw[e2]
   rfl
  rw[e]
  rfl
 |succ a ih=>
  have hc:=walkF_count f (n+1) (walksTo f n a).2 (a+1) [] y
  simp only[walksTo]
  split
  · next he=>
    rw[he]at hc
    simp at hc
    omega
  · rw[List.flatten_append,List.count_append]
    simp at hc ⊢
    omega
theorem walks_once (f:Nat->Nat) (n y:Nat) (h1:1<=y) (h2:y<=n):(walksTo f n n).1.flatten.count y=1:=by
 have e1:=walksTo_one f n n y h1 h2
 have e2:=walksTo_seen f n n y h1 h2
 omega
end Go.Proofs.YtiliihlkpknhdaaDoor
/- Plain mathematics: what edges join; labels that are levelled along edges, round by round, come to the least of what is joined. -/
namespace Go.Proofs.YtiliihlkpknhdaaDoor
def Closed (E:List (Nat×Nat)) (S:Nat->Prop):Prop:=∀ e,e∈E->(S e.1↔S e.2)
def Con (E:List (Nat×Nat)) (x y:Nat):Prop:=∀ S,Closed E S->S x->S y
theorem Con.refl (E:List (Nat×Nat)) (x:Nat):Con E x x:=fun _ _ h=>h
theorem Con.trans {E:List (Nat×Nat)} {x y z:Nat} (h:Con E x y) (g:Con E y z):Con E x z:=fun S hS hx=>g S hS (h S hS hx)
theorem Con.symm {E:List (Nat×Nat)} {x y:Nat} (h:Con E x y):Con E y x:=fun S hS hy=>
 Classical.byContradiction fun hx=>h (fun z=>¬ S z) (fun e he=>not_congr (hS e he)) hx hy
theorem Con.edge {E:List (Nat×Nat)} {x y:Nat} (h:(x,y)∈E):Con E x y:=fun _ hS hx=>(hS (x,y) h).1 hx
theorem con_min (E:List (Nat×Nat)) (v:Nat):∃ m,Con E v m/\∀ u,Con E v u->m<=u:=by
 have key:∀ k x,x<=k->Con E v x->∃ m,Con E v m/\∀ u,Con E v u->m<=u:=by
  intro k
  induction k with
  |zero=>intro x hx h;exact⟨x,h,fun u _=>by omega⟩
  |succ k ih=>
   intro x hx h
   by_cases hs:∃ y,y<x/\Con E v y
   · obtain⟨y,hy,hc⟩:=hs
     exact ih y (by omega) hc
   · exact⟨x,h,fun u hu=>Nat.le_of_not_lt fun hlt=>hs ⟨u,hlt,hu⟩⟩
 exact key v v (Nat.le_refl _) (Con.refl E v)
def lev (W:List Nat) (x y:Nat):List Nat:=if W.getD x 0<W.getD y 0 then W.set y (W.getD x 0) else W.set x (W.getD y 0)
theorem lev_len (W:List Nat) (x y:Nat):(lev W x y).length=W.length:=by unfold lev;split<;>simp
theorem getD_set (W:List Nat) (i v z:Nat) (hi:i<W.length):(W.set i z).getD v 0=if v=i then z else W.getD v 0:=by
 simp only[List.getD_eq_getElem?_getD,List.getElem?_set]
 by_cases h:i=v
 · subst h;simp[hi]
 · simp[h,Ne.symm h]
structure Lab (E:List (Nat×Nat)) (n:Nat) (W:List Nat):Prop where
 len:W.length=n
 le:∀ v,v<n->W.getD v 0<=v
 con:∀ v,v<n->Con E v (W.getD v 0)
theorem lev_at {W:List Nat} {x y v:Nat} (hx:x<W.length) (hy:y<W.length):(lev W x y).getD v 0<=W.getD v 0/\((lev W x y).getD v 0=W.getD v 0∨(v=x/\(lev W x y).getD v 0=W.getD y 0)∨(v=y/\(lev W x y).getD v 0=W.getD x 0)):=by
 unfold lev
 split
 · rw[getD_set _ _ _ _ hy]
   split
   · subst v;exact⟨by omega,Or.inr (Or.inr ⟨rfl,rfl⟩)⟩
   · exact⟨Nat.le_refl _,Or.inl rfl⟩
 · rw[getD_set _ _ _ _ hx]
   split
   · subst v;exact⟨by omega,Or.inr (Or.inl ⟨rfl,rfl⟩)⟩
   · exact⟨Nat.le_refl _,Or.inl rfl⟩
theorem lev_both {W:List Nat} {x y:Nat} (hx:x<W.length) (hy:y<W.length):(lev W x y).getD x 0<=W.getD y 0/\(lev W x y).getD y 0<=W.getD x 0:=by
 unfold lev
 split
 · rename_i h
   rw[getD_set _ _ _ _ hy,getD_set _ _ _ _ hy,if_pos rfl]
   refine⟨?_,Nat.le_refl _⟩
   split<;>omega
 · rename_i h
   rw[getD_set _ _ _ _ hx,getD_set _ _ _ _ hx,if_pos rfl]
   refine⟨Nat.le_refl _,?_⟩
   split<;>omega
theorem Lab.lev {E:List (Nat×Nat)} {n:Nat} {W:List Nat} (h:Lab E n W) {x y:Nat} (hx:x<n) (hy:y<n) (he:Con E x y):Lab E n (lev W x y):=by
 have hl:=h.len
 refine⟨by rw[lev_len,hl],fun v hv=>?_,fun v hv=>?_⟩
 · have:=(lev_at (W:=W) (x:=x) (y:=y) (v:=v) (by omega) (by omega)).1
   have:=h.le v hv
   omega
 · rcases(lev_at (W:=W) (x:=x) (y:=y) (v:=v) (by omega) (by omega)).2 with e|⟨hvx,e⟩|⟨hvy,e⟩
   · rw[e];exact h.con v hv
   · rw[e,hvx];exact he.trans (h.con y hy)
   · rw[e,hvy];exact he.symm.trans (h.con x hx)
def levs (W:List Nat):List (Nat×Nat)->List Nat
 |[]=>W
 |e::E=>levs (lev W e.1 e.2) E
def Done (E:List (Nat×Nat)) (W:List Nat) (v:Nat):Prop:=∀ u,Con E v u->W.getD v 0<=u
theorem levs_lab {E:List (Nat×Nat)} {n:Nat} (F:List (Nat×Nat)) (hF:∀ e,e∈F->e.1<n/\e.2<n/\Con E e.1 e.2):∀ W,Lab E n W->Lab E n (levs W F)/\∀ v,(levs W F).getD v 0<=W.getD v 0:=by
 induction F with
 |nil=>intro W h;exact⟨h,fun v=>Nat.le_refl _⟩
 |cons e F ih=>
  intro W h
  obtain⟨h1,h2,h3⟩:=hF e (List.Mem.head _)
  have hl:=h.len
  have h':=h.lev h1 h2 h3
  obtain⟨g1,g2⟩:=ih (fun e' he'=>hF e' (List.Mem.tail _ he')) _ h'
  exact⟨g1,fun v=>Nat.le_trans (g2 v) (lev_at (by omega) (by omega)).1⟩
theorem levs_done {E:List (Nat×Nat)} {n:Nat} (F:List (Nat×Nat)) (hF:∀ e,e∈F->e.1<n/\e.2<n/\Con E e.1 e.2) (e:Nat×Nat) (he:e∈F):∀ W,Lab E n W->(Done E W e.1∨Done E W e.2)->Done E (levs W F) e.1/\Done E (levs W F) e.2:=by
 induction F with
 |nil=>cases he
 |cons f F ih=>
  intro W h hd
  obtain⟨h1,h2,h3⟩:=hF f (List.Mem.head _)
  have hl:=h.len
  have h':=h.lev h1 h2 h3
  have hF':∀ e,e∈F->e.1<n/\e.2<n/\Con E e.1 e.2:=fun e' he'=>hF e' (List.Mem.tail _ he')
  rcases List.mem_cons.1 he with rfl|he'
  · have g:∀ v,(levs W (e::F)).getD v 0<=(lev W e.1 e.2).getD v 0:=(levs_lab F hF' _ h').2
    have hb:=lev_both (W:=W) (x:=e.1) (y:=e.2) (by omega) (by omega)
    have ha1:=(lev_at (W:=W) (x:=e.1) (y:=e.2) (v:=e.1) (by omega) (by omega)).1
    have ha2:=(lev_at (W:=W) (x:=e.1) (y:=e.2) (v:=e.2) (by omega) (by omega)).1
    rcases hd with hd|hd
    · exact⟨fun u hu=>by have:=hd u hu;have:=g e.1;omega,fun u hu=>by have:=hd u (h3.trans hu);have:=g e.2;omega⟩
    · exact⟨fun u hu=>by have:=hd u (h3.symm.trans hu);have:=g e.1;omega,fun u hu=>by have:=hd u hu;have:=g e.2;omega⟩
  · refine ih hF' he' _ h' ?_
    rcases hd with hd|hd
    · exact Or.inl fun u hu=>Nat.le_trans (lev_at (by omega) (by omega)).1 (hd u hu)
    · exact Or.inr fun u hu=>Nat.le_trans (lev_at (by omega) (by omega)).1 (hd u hu)
def levR (W:List Nat) (E:List (Nat×Nat)):Nat->List Nat
 |0=>W
 |r+1=>levs (levR W E r) E
theorem levR_lab {E:List (Nat×Nat)} {n:Nat} (hE:∀ e,e∈E->e.1<n/\e.2<n) {W:List Nat} (h:Lab E n W) (r:Nat):Lab E n (levR W E r):=by
 induction r with
 |zero=>exact h
 |succ r ih=>exact(levs_lab E (fun e he=>⟨(hE e he).1,(hE e he).2,Con.edge he⟩) _ ih).1
theorem countP_more {p q:Nat->Bool} (l:List Nat) (h:∀ x,p x=true->q x=true) (y:Nat) (hy:y∈l) (h1:p y=false) (h2:q y=true):l.countP p<l.countP q:=by
 induction l with
 |nil=>cases hy
 |cons x l ih=>
  have hm:l.countP p<=l.countP q:=List.countP_mono_left (fun a _=>h a)
  rcases List.mem_cons.1 hy with rfl|hy'
  · simp[h1,h2];omega
  · have:=ih hy'
    simp only[List.countP_cons]
    have:(if p x=true then 1 else 0)<=(if q x=true then 1 else(0:Nat)):=by
     by_cases hp:p x=true
     · simp[hp,h x hp]
     · simp[hp]
    omega
open Classical in
theorem levR_done {E:List (Nat×Nat)} {n:Nat} (hE:∀ e,e∈E->e.1<n/\e.2<n) {W:List Nat} (h:Lab E n W) (r:Nat):(∀ v,v<n->Done E (levR W E r) v)∨r<=(List.range n).countP (fun v=>decide (Done E (levR W E r) v)):=by
 induction r with
 |zero=>exact Or.inr (Nat.zero_le _)
 |succ r ih=>
  have hF:∀ e,e∈E->e.1<n/\e.2<n/\Con E e.1 e.2:=fun e he=>⟨(hE e he).1,(hE e he).2,Con.edge he⟩
  have hl:=levR_lab hE h r
  have hg:=(levs_lab E hF _ hl).2
  have hmono:∀ v,Done E (levR W E r) v->Done E (levR W E (r+1)) v:=fun v hd u hu=>Nat.le_trans (hg v) (hd u hu)
  by_cases hall:∀ v,v<n->Done E (levR W E r) v
  · exact Or.inl fun v hv=>hmono v (hall v hv)
  · right
    have hr:r<=(List.range n).countP (fun v=>decide (Done E (levR W E r) v)):=by
     rcases ih with h1|h1
     · exact absurd h1 hall
     · exact h1
    obtain⟨v,hv⟩:=Classical.not_forall.1 hall
    have hvn:v<n:=Classical.byContradiction fun hc=>hv fun hh=>absurd hh hc
    have hvd:¬ Done E (levR W E r) v:=fun hd=>hv fun _=>hd
    obtain⟨m,hm1,hm2⟩:=con_min E v
    have hmn:m<n:=Nat.lt_of_le_of_lt (hm2 v (Con.refl E v)) hvn
    have hmd:Done E (levR W E r) m:=fun u hu=>Nat.le_trans (hl.le m hmn) (hm2 u (hm1.trans hu))
    -- a done and an undone end of an edge
    have hex:∃ e,e∈E/\((Done E (levR W E r) e.1/\¬ Done E (levR W E r) e.2)∨(¬ Done E (levR W E r) e.1/\Done E (levR W E r) e.2)):=Classical.byContradiction fun hno=>by
     have hcl:Closed E (fun z=>Done E (levR W E r) z):=fun e he=>by
      constructor
      · intro h1
        exact Classical.byContradiction fun h2=>hno ⟨e,he,Or.inl ⟨h1,h2⟩⟩
      · intro h1
        exact Classical.byContradiction fun h2=>hno ⟨e,he,Or.inr ⟨h2,h1⟩⟩
     exact hvd (hm1.symm _ hcl hmd)
    obtain⟨e,he,hone⟩:=hex
    have hb:=levs_done E hF e he _ hl (hone.elim (fun a=>Or.inl a.1) (fun a=>Or.inr a.2))
    refine Nat.lt_of_le_of_lt hr ?_
    rcases hone with⟨_,h2⟩|⟨h1,_⟩
    · exact countP_more _ (fun x hx=>by simp only[decide_eq_true_eq]at hx ⊢;exact hmono x hx) e.2 (List.mem_range.2 (hE e he).2) (by simp[h2]) (by simp;exact hb.2)
    · exact countP_more _ (fun x hx=>by simp only[decide_eq_true_eq]at hx ⊢;exact hmono x hx) e.1 (List.mem_range.2 (hE e he).1) (by simp[h1]) (by simp;exact hb.1)
def Least (E:List (Nat×Nat)) (n:Nat) (W:List Nat):Prop:=W.length=n/\∀ v,v<n->Con E v (W.getD v 0)/\∀ u,Con E v u->W.getD v 0<=u
theorem Least.eq {E:List (Nat×Nat)} {n:Nat} {W V:List Nat} (h:Least E n W) (g:Least E n V):W=V:=by
 refine List.ext_getElem (by rw[h.1,g.1]) fun i h1 h2=>?_
 have hi:i<n:=by rw[<-h.1];exact h1
 have a:=h.2 i hi
 have b:=g.2 i hi
 have e:W.getD i 0=V.getD i 0:=Nat.le_antisymm (a.2 _ b.1) (b.2 _ a.1)
 simpa[List.getD_eq_getElem?_getD,h1,h2] using e
theorem Least.lt {E:List (Nat×Nat)} {n:Nat} {W:List Nat} (h:Least E n W) {v:Nat} (hv:v<n):W.getD v 0<n:=Nat.lt_of_le_of_lt ((h.2 v hv).2 v (Con.refl E v)) hv
theorem Least.same {E:List (Nat×Nat)} {n:Nat} {W:List Nat} (h:Least E n W) {u v:Nat} (hu:u<n) (hv:v<n):W.getD u 0=W.getD v 0↔Con E u v:=by
 constructor
 · intro e
   have a:=(h.2 u hu).1
   rw[e]at a
   exact a.trans (h.2 v hv).1.symm
 · intro c
   exact Nat.le_antisymm ((h.2 u hu).2 _ (c.trans (h.2 v hv).1)) ((h.2 v hv).2 _ (c.symm.trans (h.2 u hu).1))
theorem levR_least {E:List (Nat×Nat)} {n:Nat} (hE:∀ e,e∈E->e.1<n/\e.2<n) (r:Nat) (hr:n<=r):Least E n (levR (List.range n) E r):=by
 have h0:Lab E n (List.range n):=⟨by simp,fun v hv=>by simp[List.getD_eq_getElem?_getD,hv],fun v hv=>by simp[List.getD_eq_getElem?_getD,hv,Con.refl]⟩
 have hl:=levR_lab hE h0 r
 have hall:∀ v,v<n->Done E (levR (List.range n) E r) v:=by
  rcases levR_done hE h0 r with h|h
  · exact h
  · intro v hv
    have hc:(List.range n).countP (fun v=>@decide (Done E (levR (List.range n) E r) v) (Classical.propDecidable _))=(List.range n).length:=Nat.le_antisymm List.countP_le_length (by simp;omega)
    have:=List.countP_eq_length.1 hc v (List.mem_range.2 hv)
    simpa using this
 exact⟨hl.len,fun v hv=>⟨hl.con v hv,hall v hv⟩⟩
end Go.Proofs.YtiliihlkpknhdaaDoor
/- The walk of drawing.Of. -/
namespace Go.Proofs.YtiliihlkpknhdaaDoor
open Go.RowKit
set_option maxHeartbeats 4000000
set_option maxRecDepth 100000
def noDrawing:Value:=.agg #[.slice none 0 0,.int .i64 0,.slice none 0 0,.slice none 0 0]
theorem of_size (v : Value) (C : List Cr) (loops : Int) (w : World) (h : Crs w w.heap.size v C) (hs : sizeB C loops = false) :
    Calls Tryd.prog 65 #[.agg #[v,.int .i64 loops]] w fun e w'=>e=.returned (.tuple #[noDrawing,.bool false])/\Below w.heap.size w w':=by
 obtain⟨a,cap,rfl,hn,_⟩:=h
 have hn':C.length<=9223372036854775807:=hn
 by_cases h1:16<C.length
 · have d1:decide (16<(C.length:Int))=true:=by simp;omega
   have d2:decide (16<C.length)=true:=by simp;omega
   go_enter Tryd.func65,Tryd.ntmps65
   go_wp2
   exact bodyPost_ret (v:=.tuple #[noDrawing,.bool false]) (by simp[results,Tryd.results65,go_sem,noDrawing]) rfl ⟨rfl,below2 _ _ _⟩
 · by_cases h2:loops<0
   · have d2:decide (loops<0)=true:=by simpa using h2
     go_enter Tryd.func65,Tryd.ntmps65
     go_wp2
     exact bodyPost_ret (v:=.tuple #[noDrawing,.bool false]) (by simp[results,Tryd.results65,go_sem,noDrawing]) rfl ⟨rfl,below2 _ _ _⟩
   · by_cases h3:16<loops
     · have d3:decide (16<loops)=true:=by simpa using h3
       go_enter Tryd.func65,Tryd.ntmps65
       go_wp2
       exact bodyPost_ret (v:=.tuple #[noDrawing,.bool false]) (by simp[results,Tryd.results65,go_sem,noDrawing]) rfl ⟨rfl,below2 _ _ _⟩
     · have h4 : C.length = 0 ∧ loops = 0 := by
         simp only[sizeB,Bool.and_eq_false_iff,decide_eq_false_iff_not,Bool.not_eq_false',Bool.and_eq_true,decide_eq_true_eq]at hs
         omega
       obtain⟨h4,rfl⟩:=h4
       rw[h4]
       go_enter Tryd.func65,Tryd.ntmps65
       go_wp2
       exact bodyPost_ret (v:=.tuple #[noDrawing,.bool false]) (by simp[results,Tryd.results65,go_sem,noDrawing]) rfl ⟨rfl,below2 _ _ _⟩
end Go.Proofs.YtiliihlkpknhdaaDoor
/- Helps for the walk of drawing.Of: stores of four and of two cells; the state of its loops. -/
namespace Go.Proofs.YtiliihlkpknhdaaDoor
open Go.RowKit
theorem set_block {w:World} {g i:Nat} {cs:Array Value} {t:TypeId} {fz:Nat×Nat} {u:Value} (h:w.heap[g]?=some (.cells cs t fz)):(w.setCell ⟨g,i,none⟩ u).heap[g]?=some (.cells (cs.setIfInBounds i u) t fz):=by
 simp only[World.setCell,Array.getElem?_modify,if_true,h]
 rfl
theorem set_grown (w:World) (g i:Nat) (u:Value):w.grownBy (w.setCell ⟨g,i,none⟩ u) (some g):=
 ⟨rfl,rfl,rfl,by simp,fun k _ hk=>heap_setCell_other w ⟨g,i,none⟩ k u (fun e=>hk (by simp[e]))⟩
theorem grown_trans {a b c:World} {row:Option Nat} (h:a.grownBy b row) (k:b.grownBy c row):a.grownBy c row:=
 ⟨k.os.trans h.os,k.tape.trans h.tape,k.output.trans h.output,Nat.le_trans h.size k.size,fun j hj hn=>(k.block j (Nat.lt_of_lt_of_le hj h.size) hn).trans (h.block j hj hn)⟩
def st4 (w:World) (g:Nat) (a b c d:Value):World:=(((w.setCell ⟨g,0,none⟩ a).setCell ⟨g,1,none⟩ b).setCell ⟨g,2,none⟩ c).setCell ⟨g,3,none⟩ d
theorem st4_grown (w:World) (g:Nat) (a b c d:Value):w.grownBy (st4 w g a b c d) (some g):=
 grown_trans (grown_trans (grown_trans (set_grown _ _ _ _) (set_grown _ _ _ _)) (set_grown _ _ _ _)) (set_grown _ _ _ _)
theorem st4_block {w:World} {g:Nat} {t:TypeId} {a0 b0 c0 d0 a b c d:Value} (h:w.heap[g]?=some (.cells #[a0,b0,c0,d0] t (0,0))):(st4 w g a b c d).heap[g]?=some (.cells #[a,b,c,d] t (0,0)):=by
 unfold st4
 rw[set_block (set_block (set_block (set_block h)))]
 rfl
theorem st4_cell {w:World} {g h o:Nat} {v a b c d:Value} (hne:h≠g) (hc:w.cell? ⟨h,o,none⟩=some v):((((w.setCell ⟨g,0,none⟩ a).setCell ⟨g,1,none⟩ b).setCell ⟨g,2,none⟩ c).setCell ⟨g,3,none⟩ d).cell? ⟨h,o,none⟩=some v:=
 (st4_grown w g a b c d).cell (a:=⟨h,o,none⟩) hc (fun e=>hne (Option.some.inj e))
theorem block_cell {w:World} {g i:Nat} {cs:Array Value} {t:TypeId} {fz:Nat×Nat} {v:Value} (h:w.heap[g]?=some (.cells cs t fz)) (hv:cs[i]?=some v):w.cell? ⟨g,i,none⟩=some v:=by
 unfold World.cell?
 rw[h]
 simpa using hv
theorem block_frozen {w:World} {g i:Nat} {cs:Array Value} {t:TypeId} (h:w.heap[g]?=some (.cells cs t (0,0))):w.frozen? ⟨g,i,none⟩=false:=by simp[World.frozen?,h]
theorem own_block {w:World} {B e s n:Nat} {v:Value} {xs:List Value} (h:w.ownsRow B e s v n xs) (hn:0<n):∃ g c,v=.slice (some ⟨g,0,none⟩) n c/\B<=g/\g<w.heap.size:=by
 rcases h.2 with⟨_,h0⟩|⟨g,cap,cur,rfl,hb,hg,_⟩
 · omega
 · exact⟨g,cap,rfl,(h.lt g rfl).1,(h.lt g rfl).2⟩
structure OfAt (sz gF cF gT cT:Nat) (A:Value) (loops:Int) (C:List Cr) (i k:Nat) (wr:World):Prop where
 dia:wr.heap[sz]?=some (.cells #[A,.int .i64 loops] 31 (0,0))
 dra:wr.heap[sz+1]?=some (.cells #[A,.int .i64 loops,.slice (some ⟨gF,0,none⟩) (2*C.length+1) cF,.slice (some ⟨gT,0,none⟩) (2*C.length+1) cT] 104 (0,0))
 from_:wr.ownsRow (sz+2) 133 2 (.slice (some ⟨gF,0,none⟩) (2*C.length+1) cF) (2*C.length+1) (flat (ends C false i k))
 to:wr.ownsRow (sz+2) 133 2 (.slice (some ⟨gT,0,none⟩) (2*C.length+1) cT) (2*C.length+1) (flat (ends C true i k))
 ne:gF≠gT
theorem OfAt.on {sz gF cF gT cT:Nat} {A:Value} {loops:Int} {C:List Cr} {i k:Nat} {w w':World} (h:OfAt sz gF cF gT cT A loops C i k w) (hb:Below w.heap.size w w') (hs:sz+1<w.heap.size):OfAt sz gF cF gT cT A loops C i k w':=
 ⟨(hb.block _ (by omega)).trans h.dia,(hb.block _ hs).trans h.dra,own_any h.from_ (grown_below hb none),own_any h.to (grown_below hb none),h.ne⟩
theorem OfAt.row {sz gF cF gT cT:Nat} {A:Value} {loops:Int} {C:List Cr} {i:Nat} {w:World} (h:OfAt sz gF cF gT cT A loops C i 4 w):OfAt sz gF cF gT cT A loops C (i+1) 0 w:=⟨h.dia,h.dra,h.from_,h.to,h.ne⟩
theorem flat_set2 (l:List (Int×Int)) (a:Nat) (i k:Int) (ha:a<l.length):((flat l).set (a*2) (.int .i64 i)).set (a*2+1) (.int .i64 k)=flat (l.set a (i,k)):=by
 rw[flat_setE _ _ _ ha,flat_setC _ _ _ (by rw[setE_length];exact ha)]
 congr 1
 unfold setC setE
 rw[List.set_set]
 congr 1
 simp[List.getD,ha]
def st2 (w:World) (g o:Nat) (a b:Value):World:=(w.setCell ⟨g,o,none⟩ a).setCell ⟨g,o+1,none⟩ b
theorem st2_grown (w:World) (g o:Nat) (a b:Value):w.grownBy (st2 w g o a b) (some g):=grown_trans (set_grown _ _ _ _) (set_grown _ _ _ _)
theorem own_st2 {w:World} {B e n g cap a:Nat} {l:List (Int×Int)} {i k:Int} (h:w.ownsRow B e 2 (.slice (some ⟨g,0,none⟩) n cap) n (flat l)) (ha:a<l.length):(st2 w g (a*2) (.int .i64 i) (.int .i64 k)).ownsRow B e 2 (.slice (some ⟨g,0,none⟩) n cap) n (flat (l.set a (i,k))):=by
 have h1:=(h.stored (a*2) (.int .i64 i)).1
 have h2:=(h1.stored (a*2+1) (.int .i64 k)).1
 rw[flat_set2 l a i k ha]at h2
 exact h2
theorem OfAt.storeT {sz gF cF gT cT a:Nat} {A:Value} {loops:Int} {C:List Cr} {i k:Nat} {w:World} (h:OfAt sz gF cF gT cT A loops C i k w) (h1:1<=a) (h2:a<=2*C.length) (hc:(C.getD i Cr.none).comes k=true) (ha:(C.getD i Cr.none).arc k=(a:Int)):OfAt sz gF cF gT cT A loops C i (k+1) (st2 w gT (a*2) (.int .i64 (i:Nat)) (.int .i64 (k:Nat))):=by
 have hg:=st2_grown w gT (a*2) (.int .i64 (i:Nat)) (.int .i64 (k:Nat))
 have hT:=(h.to.lt gT rfl)
 have hF:=(h.from_.lt gF rfl)
 refine⟨(hg.block _ (by omega) (fun e=>by have:=Option.some.inj e;omega)).trans h.dia,(hg.block _ (by omega) (fun e=>by have:=Option.some.inj e;omega)).trans h.dra,?_,?_,h.ne⟩
 · rw[ends_keep C false i k (by rw[hc];decide)]
   exact h.from_.kept hg (Or.inr (fun e=>h.ne (Option.some.inj e)))
 · rw[<-ends_set C true i k a h1 hc ha]
   exact own_st2 h.to (by rw[ends_length];omega)
theorem OfAt.storeF {sz gF cF gT cT a:Nat} {A:Value} {loops:Int} {C:List Cr} {i k:Nat} {w:World} (h:OfAt sz gF cF gT cT A loops C i k w) (h1:1<=a) (h2:a<=2*C.length) (hc:(C.getD i Cr.none).comes k=false) (ha:(C.getD i Cr.none).arc k=(a:Int)):OfAt sz gF cF gT cT A loops C i (k+1) (st2 w gF (a*2) (.int .i64 (i:Nat)) (.int .i64 (k:Nat))):=by
 have hg:=st2_grown w gF (a*2) (.int .i64 (i:Nat)) (.int .i64 (k:Nat))
 have hT:=(h.to.lt gT rfl)
 have hF:=(h.from_.lt gF rfl)
 refine⟨(hg.block _ (by omega) (fun e=>by have:=Option.some.inj e;omega)).trans h.dia,(hg.block _ (by omega) (fun e=>by have:=Option.some.inj e;omega)).trans h.dra,?_,?_,h.ne⟩
 · rw[<-ends_set C false i k a h1 hc ha]
   exact own_st2 h.from_ (by rw[ends_length];omega)
 · rw[ends_keep C true i k (by rw[hc];decide)]
   exact h.to.kept hg (Or.inr (fun e=>h.ne (Option.some.inj e).symm))
theorem index_arr (x:Cr) (k:Nat) (hk:k<4) (w:World):(Instr.index 85 (.agg #[.int .i64 x.a,.int .i64 x.b,.int .i64 x.c,.int .i64 x.d]) (.int .i64 (k:Nat))).run Tryd.prog w=.ok (.int .i64 (x.arc k)) w:=by
 have hk4:k=0∨k=1∨k=2∨k=3:=by omega
 rcases hk4 with rfl|rfl|rfl|rfl<;>simp[Instr.index,asIntOf,run_underlying Tryd.underlying85,go_sem,Cr.arc]
structure Drawn (w w':World) (B:Nat) (A:Value) (loops:Int) (C:List Cr) (D:Value):Prop where
 no:mayD C loops=false->D=noDrawing
 yes:mayD C loops=true->∃ gF cF gT cT,D=.agg #[A,.int .i64 loops,.slice (some ⟨gF,0,none⟩) (2*C.length+1) cF,.slice (some ⟨gT,0,none⟩) (2*C.length+1) cT]/\
  w'.ownsRow B 133 2 (.slice (some ⟨gF,0,none⟩) (2*C.length+1) cF) (2*C.length+1) (flat (ends C false C.length 0))/\
  w'.ownsRow B 133 2 (.slice (some ⟨gT,0,none⟩) (2*C.length+1) cT) (2*C.length+1) (flat (ends C true C.length 0))
end Go.Proofs.YtiliihlkpknhdaaDoor
/- A drawing in a world; the walks of Drawing.Above, Drawing.Leaving and Drawing.Ahead. -/
namespace Go.Proofs.YtiliihlkpknhdaaDoor
open Go.RowKit
set_option maxHeartbeats 4000000
set_option maxRecDepth 100000
theorem alloc_at {w:World} {o:Obj} {k:Nat} (h:k=w.heap.size):(w.alloc o).heap[k]?=some o:=by
 rw[h]
 exact Array.getElem?_push_size
theorem alloc_old {w:World} {o p:Obj} {k:Nat} (h:w.heap[k]?=some p):(w.alloc o).heap[k]?=some p:=by
 have hk:k<w.heap.size:=(Array.getElem?_eq_some_iff.1 h).1
 exact((World.grownBy_alloc w o none).block k hk (by simp)).trans h
structure Dr (w:World) (a:Option Addr) (cap:Nat) (C:List Cr) (gF gT:Nat):Prop where
 crs:Crs w w.heap.size (.slice a C.length cap) C
 ltF:gF<w.heap.size
 ltT:gT<w.heap.size
 from_:TermsAt w gF 0 (ends C false C.length 0)
 to:TermsAt w gT 0 (ends C true C.length 0)
theorem Crs.on {w w':World} {B:Nat} {v:Value} {C:List Cr} (h:Crs w B v C) (hb:Below B w w'):Crs w' B v C:=by
 obtain⟨a,cap,rfl,hn,g⟩:=h
 refine⟨a,cap,rfl,hn,fun h0=>?_⟩
 obtain⟨b,off,rfl,hlt,hC⟩:=g h0
 exact⟨b,off,rfl,hlt,hC.on hb hlt⟩
theorem Crs.mono {w:World} {B B':Nat} {v:Value} {C:List Cr} (h:Crs w B v C) (hB:B<=B'):Crs w B' v C:=by
 obtain⟨a,cap,rfl,hn,g⟩:=h
 refine⟨a,cap,rfl,hn,fun h0=>?_⟩
 obtain⟨b,off,rfl,hlt,hC⟩:=g h0
 exact⟨b,off,rfl,Nat.lt_of_lt_of_le hlt hB,hC⟩
theorem Crs.up {w w':World} {v:Value} {C:List Cr} (h:Crs w w.heap.size v C) (hb:Below w.heap.size w w'):Crs w' w'.heap.size v C:=(h.on hb).mono hb.size
theorem Dr.on {w w':World} {a:Option Addr} {cap:Nat} {C:List Cr} {gF gT:Nat} (h:Dr w a cap C gF gT) (hb:Below w.heap.size w w'):Dr w' a cap C gF gT:=
 ⟨h.crs.up hb,Nat.lt_of_lt_of_le h.ltF hb.size,Nat.lt_of_lt_of_le h.ltT hb.size,h.from_.on hb h.ltF,h.to.on hb h.ltT⟩
theorem Dr.cross {w:World} {a:Option Addr} {cap:Nat} {C:List Cr} {gF gT:Nat} (h:Dr w a cap C gF gT) (hp:0<C.length):∃ b off,a=some ⟨b,off,none⟩/\b<w.heap.size/\CrossAt w b off C:=by
 obtain⟨a',cap',e,_,g⟩:=h.crs
 injection e with e1 e2 e3
 obtain⟨b,off,h1,h2,h3⟩:=g hp
 exact⟨b,off,by rw[e1,h1],h2,h3⟩
def drV (a:Option Addr) (cap:Nat) (C:List Cr) (loops:Int) (gF cF gT cT:Nat):Value:=.agg #[.slice a C.length cap,.int .i64 loops,.slice (some ⟨gF,0,none⟩) (2*C.length+1) cF,.slice (some ⟨gT,0,none⟩) (2*C.length+1) cT]
theorem leaving_any (b off cap : Nat) (C : List Cr) (loops : Int) (vF vT : Value) (i k : Nat) (w : World) (hi : i < C.length) (hk : k < 4) (hbw : b < w.heap.size) (hC : CrossAt w b off C) :
    Calls Tryd.prog 95 #[.agg #[.slice (some ⟨b,off,none⟩) C.length cap,.int .i64 loops,vF,vT],.agg #[.int .i64 i,.int .i64 k]] w fun e w'=>e=.returned (.agg #[.int .i64 ((C.getD i Cr.none).arc k),.bool ((C.getD i Cr.none).comes k)])/\Below w.heap.size w w':=by
 obtain⟨c0,c1,c2,c3,c4⟩:=hC i hi
 clear hC
 generalize C.getD i Cr.none=x at c0 c1 c2 c3 c4
 have hB3:Below w.heap.size w (((w.alloc (.cells #[.slice (some ⟨b,off,none⟩) C.length cap,.int .i64 loops,vF,vT] 104)).alloc (.cells #[.int .i64 i,.int .i64 k] 133)).alloc (.cells #[.int .i64 0,.bool false] 140)):=below3 _ _ _ _
 have e0:=bcell hB3 hbw c0
 have e1:=bcell hB3 hbw c1
 have e2:=bcell hB3 hbw c2
 have e3:=bcell hB3 hbw c3
 have e4:=bcell hB3 hbw c4
 clear hB3 c0 c1 c2 c3 c4
 go_enter Tryd.func95,Tryd.ntmps95
 go_wp2
 clear e0 e1 e2 e3 e4
 obtain⟨W0,hW0⟩:∃ W0,W0=(((w.alloc (.cells #[.slice (some ⟨b,off,none⟩) C.length cap,.int .i64 loops,vF,vT] 104)).alloc (.cells #[.int .i64 i,.int .i64 k] 133)).alloc (.cells #[.int .i64 0,.bool false] 140)).alloc (.cells #[.int .i64 x.a,.int .i64 x.b,.int .i64 x.c,.int .i64 x.d,.bool x.plus] 84):=⟨_,rfl⟩
 rw[<-hW0]
 have hs0:W0.heap.size=w.heap.size+4:=by rw[hW0];simp
 have HB0:Hid (Below w.heap.size w W0):=(by rw[hW0];exact(below3 _ _ _ _).alloc (by simp;omega) _:Below w.heap.size w W0)
 have HT1:Hid (W0.heap[w.heap.size+1]?=some (.cells #[.int .i64 i,.int .i64 k] 133 (0,0))):=(by rw[hW0];exact alloc_old (alloc_old (alloc_at (by simp))):W0.heap[w.heap.size+1]?=some (.cells #[.int .i64 i,.int .i64 k] 133 (0,0)))
 have HT2:Hid (W0.heap[w.heap.size+1+1]?=some (.cells #[.int .i64 0,.bool false] 140 (0,0))):=(by rw[hW0];exact alloc_old (alloc_at (by simp)):W0.heap[w.heap.size+1+1]?=some (.cells #[.int .i64 0,.bool false] 140 (0,0)))
 have HT3:Hid (W0.heap[w.heap.size+1+1+1]?=some (.cells #[.int .i64 x.a,.int .i64 x.b,.int .i64 x.c,.int .i64 x.d,.bool x.plus] 84 (0,0))):=(by rw[hW0];exact alloc_at (by simp):W0.heap[w.heap.size+1+1+1]?=some (.cells #[.int .i64 x.a,.int .i64 x.b,.int .i64 x.c,.int .i64 x.d,.bool x.plus] 84 (0,0)))
 clear hW0
 have HF:Hid (∀ w',Below W0.heap.size W0 w'->w'.cell? ⟨w.heap.size+1+1+1,0,none⟩=some (.int .i64 x.a)/\w'.cell? ⟨w.heap.size+1+1+1,1,none⟩=some (.int .i64 x.b)/\w'.cell? ⟨w.heap.size+1+1+1,2,none⟩=some (.int .i64 x.c)/\w'.cell? ⟨w.heap.size+1+1+1,3,none⟩=some (.int .i64 x.d)/\w'.cell? ⟨w.heap.size+1+1+1,4,none⟩=some (.bool x.plus)/\w'.cell? ⟨w.heap.size+1,1,none⟩=some (.int .i64 k)):=fun w' hb=>by
  have g3:=(hb.block _ (by omega)).trans HT3.out
  have g1:=(hb.block _ (by omega)).trans HT1.out
  exact⟨block_cell g3 rfl,block_cell g3 rfl,block_cell g3 rfl,block_cell g3 rfl,block_cell g3 rfl,block_cell g1 rfl⟩
 have HFS:Hid (∀ wX u v,Below W0.heap.size W0 wX->(fun w'=>w'.cell? ⟨w.heap.size+1+1+1,0,none⟩=some (.int .i64 x.a)/\w'.cell? ⟨w.heap.size+1+1+1,1,none⟩=some (.int .i64 x.b)/\w'.cell? ⟨w.heap.size+1+1+1,2,none⟩=some (.int .i64 x.c)/\w'.cell? ⟨w.heap.size+1+1+1,3,none⟩=some (.int .i64 x.d)/\w'.cell? ⟨w.heap.size+1+1+1,4,none⟩=some (.bool x.plus)/\w'.cell? ⟨w.heap.size+1,1,none⟩=some (.int .i64 k)) (st2 wX (w.heap.size+1+1) 0 u v)):=fun wX u v hb=>by
  have hg:=st2_grown wX (w.heap.size+1+1) 0 u v
  have hsz:=hb.size
  have g3:=(hg.block (w.heap.size+1+1+1) (by omega) (fun e=>by have:=Option.some.inj e;omega)).trans ((hb.block _ (by omega)).trans HT3.out)
  have g1:=(hg.block (w.heap.size+1) (by omega) (fun e=>by have:=Option.some.inj e;omega)).trans ((hb.block _ (by omega)).trans HT1.out)
  exact⟨block_cell g3 rfl,block_cell g3 rfl,block_cell g3 rfl,block_cell g3 rfl,block_cell g3 rfl,block_cell g1 rfl⟩
 have HZ:Hid (∀ wX,Below W0.heap.size W0 wX->wX.cell? ⟨w.heap.size+1+1,0,none⟩=some (.int .i64 0)/\wX.cell? ⟨w.heap.size+1+1,1,none⟩=some (.bool false)/\wX.frozen? ⟨w.heap.size+1+1,0,none⟩=false/\wX.frozen? ⟨w.heap.size+1+1,1,none⟩=false):=fun wX hb=>by
  have g2:=(hb.block _ (by omega)).trans HT2.out
  exact⟨block_cell g2 rfl,block_cell g2 rfl,block_frozen g2,block_frozen g2⟩
 have HD0:Hid (Below W0.heap.size W0 W0.drew):=(Below.refl _ _).drew
 obtain⟨t0,t1,t2,t3,t4,t5⟩:=HF.out W0 (Below.refl _ _)
 have hix:=index_arr x k hk
 go_region_held3 (fun w' => w'.cell? ⟨w.heap.size + 1 + 1 + 1, 0, none⟩ = some (.int .i64 x.a) ∧ w'.cell? ⟨w.heap.size + 1 + 1 + 1, 1, none⟩ = some (.int .i64 x.b) ∧ w'.cell? ⟨w.heap.size + 1 + 1 + 1, 2, none⟩ = some (.int .i64 x.c) ∧ w'.cell? ⟨w.heap.size + 1 + 1 + 1, 3, none⟩ = some (.int .i64 x.d) ∧ w'.cell? ⟨w.heap.size + 1 + 1 + 1, 4, none⟩ = some (.bool x.plus) ∧ w'.cell? ⟨w.heap.size + 1, 1, none⟩ = some (.int .i64 k)) (first | exact HF.out _ HY.out | exact HF.out _ HA.out | exact HF.out _ HD0.out | exact HF.out _ (Below.refl _ _) | exact HFS.out _ _ _ HY.out | exact HFS.out _ _ _ HA.out) (first
  | (go_at_call 80; refine (arcs_any x _).mono ?_; rintro e9 wA ⟨rfl, hbA⟩
     first
      |have HA:Hid (Below W0.heap.size W0 wA):=HY.out.trans (hbA.mono HY.out.size)
      |have HA:Hid (Below W0.heap.size W0 wA):=HD0.out.trans hbA
     obtain⟨a0,a1,a2,a3,a4,a5⟩:=HF.out wA HA.out
     obtain⟨b0,b1,b2,b3⟩:=HZ.out wA HA.out
     clear hbA)
  | (go_at_call 81; refine (comesIn_any x k _ hk).mono ?_; rintro e9 wC ⟨rfl, hbC⟩
     first
      |have HY:Hid (Below W0.heap.size W0 wC):=HA.out.trans (hbC.mono HA.out.size)
      |have HY:Hid (Below W0.heap.size W0 wC):=HD0.out.trans hbC
     obtain⟨p0,p1,p2,p3,p4,p5⟩:=HF.out wC HY.out
     obtain⟨q0,q1,q2,q3⟩:=HZ.out wC HY.out
     clear hbC))
 all_goals first
  | (have hX := set_block (i := 1) (u := .bool (x.comes k)) (set_block (i := 0) (u := .int .i64 (x.arc k)) ((HY.out.block _ (by omega)).trans HT2.out))
     have x0:=block_cell (i:=0) (v:=.int .i64 (x.arc k)) hX rfl
     have x1:=block_cell (i:=1) (v:=.bool (x.comes k)) hX rfl
     go_wp2
     exact bodyPost_ret (v:=.agg #[.int .i64 (x.arc k),.bool (x.comes k)]) (by simp[results,Tryd.results95,go_sem,x0,x1]) rfl ⟨rfl,(HB0.out.trans (HY.out.mono (by omega))).grown (st2_grown wC (w.heap.size+1+1) 0 (.int .i64 (x.arc k)) (.bool (x.comes k))) (by have:=HY.out.size;omega) (fun q hq=>by have:=Option.some.inj hq;omega)⟩)
  | (have hX := set_block (i := 1) (u := .bool (x.comes k)) (set_block (i := 0) (u := .int .i64 (x.arc k)) ((HA.out.block _ (by omega)).trans HT2.out))
     have x0:=block_cell (i:=0) (v:=.int .i64 (x.arc k)) hX rfl
     have x1:=block_cell (i:=1) (v:=.bool (x.comes k)) hX rfl
     go_wp2
     exact bodyPost_ret (v:=.agg #[.int .i64 (x.arc k),.bool (x.comes k)]) (by simp[results,Tryd.results95,go_sem,x0,x1]) rfl ⟨rfl,(HB0.out.trans (HA.out.mono (by omega))).grown (st2_grown wA (w.heap.size+1+1) 0 (.int .i64 (x.arc k)) (.bool (x.comes k))) (by have:=HA.out.size;omega) (fun q hq=>by have:=Option.some.inj hq;omega)⟩)
end Go.Proofs.YtiliihlkpknhdaaDoor

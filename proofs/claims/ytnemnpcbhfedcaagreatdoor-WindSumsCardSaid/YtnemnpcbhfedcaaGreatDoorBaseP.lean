/- Several texts of the proof, one behind the other. -/
import Derived.Test.YtnemnpcbhfedcaaGreatDoorRows
import Derived.WalkKit
import Derived.WalkSpells
import Derived.WalkLawsBesides
import Derived.Deep.QuietTactic
import Derived.BigQuiet
import Derived.Deep.RegionWith
import Derived.Deep.RegionHeld3
import Derived.Laws.AppendOwnNone
import Derived.OwnWalk
import Derived.Lib.Hide
import Derived.Laws.StructEq
import Derived.Test.YtnemnpcbhfedcaaGreatDoorPMathP
/- What is said of worlds, rows and lists of pairs without naming the program. -/
namespace Go.Proofs.YtnemnpcbhfedcaaGreatDoor
open Go.RowKit
theorem bcell {B:Nat} {W w1:World} (hb:Below B W w1) {b o:Nat} {v:Option Value} (h:b<B) (hc:W.cell? ⟨b,o,none⟩=v):w1.cell? ⟨b,o,none⟩=v:=by
 rw[<-hc];exact hb.cell (p:=⟨b,o,none⟩) h
theorem below_drewN {B:Nat} {w w1:World} (h:Below B w w1):∀ n,Below B w (w1.drewN n):=fun n=>by
 induction n with
 |zero=>exact h
 |succ n ih=>exact ih.drew
theorem ret_bool {a b:Bool} (h:b=a):Ending.returned (.bool a)=.returned (.bool b):=by rw[h]
/-- The cells of the terms l, from address ⟨b, off⟩ on. -/
def TermsAt (w:World) (b off:Nat) (l:List (Int×Int)):Prop:=
 ∀ i,i<l.length->w.cell? ⟨b,off+i*2,none⟩=some (.int .i64 (l.getD i (0,0)).1)/\w.cell? ⟨b,off+i*2+1,none⟩=some (.int .i64 (l.getD i (0,0)).2)
theorem TermsAt.on {B:Nat} {W w1:World} {b off:Nat} {l:List (Int×Int)} (h:TermsAt W b off l) (hb:Below B W w1) (hlt:b<B):TermsAt w1 b off l:=
 fun i hi=>⟨bcell hb hlt (h i hi).1,bcell hb hlt (h i hi).2⟩
/-- The terms as cells, one behind the other. -/
def flat (l:List (Int×Int)):List Value:=l.flatMap fun t=>[.int .i64 t.1,.int .i64 t.2]
theorem flat_length (l:List (Int×Int)):(flat l).length=l.length*2:=by
 induction l with
 |nil=>rfl
 |cons t l ih=>simp[flat]at *;omega
theorem flat_append (l m:List (Int×Int)):flat (l++m)=flat l++flat m:=by simp[flat]
theorem flat_get (l : List (Int × Int)) (i : Nat) (hi : i < l.length) :
    (flat l)[i*2]?=some (.int .i64 (l.getD i (0,0)).1)/\(flat l)[i*2+1]?=some (.int .i64 (l.getD i (0,0)).2):=by
 induction l generalizing i with
 |nil=>simp at hi
 |cons t l ih=>
  cases i with
  |zero=>simp[flat]
  |succ i=>
   have:=ih i (by simpa using hi)
   simp only[flat,List.flatMap_cons]at this ⊢
   rw[List.getElem?_append_right (by simp;omega),List.getElem?_append_right (by simp;omega)]
   simpa[show(i+1)*2-2=i*2 by omega,show(i+1)*2+1-2=i*2+1 by omega] using this
theorem ret_int {k:IntKind} {a b:Int} (h:a=b):Ending.returned (.int k a)=.returned (.int k b):=by rw[h]
theorem grown_below {w w':World} (h:Below w.heap.size w w') (row:Option Nat):w.grownBy w' row:=⟨h.os,h.tape,h.output,h.size,fun k hk _=>h.block k hk⟩
/-- The slice v holds these values, a cell each, in blocks below B. -/
def Slots (w:World) (B:Nat) (v:Value) (xs:List Value):Prop:=
 ∃ a cap,v=.slice a xs.length cap/\(0<xs.length->∃ b off,a=some ⟨b,off,none⟩/\b<B/\∀ i,i<xs.length->w.cell? ⟨b,off+i,none⟩=some (xs.getD i (.bool false)))
theorem Slots.on {w w':World} {B:Nat} {v:Value} {xs:List Value} (h:Slots w B v xs) (hb:Below B w w'):Slots w' B v xs:=by
 obtain⟨a,cap,rfl,g⟩:=h
 refine⟨a,cap,rfl,fun h0=>?_⟩
 obtain⟨b,off,rfl,hlt,hc⟩:=g h0
 exact⟨b,off,rfl,hlt,fun i hi=>bcell hb hlt (hc i hi)⟩
theorem Slots.mono {w:World} {B B':Nat} {v:Value} {xs:List Value} (h:Slots w B v xs) (hB:B<=B'):Slots w B' v xs:=by
 obtain⟨a,cap,rfl,g⟩:=h
 refine⟨a,cap,rfl,fun h0=>?_⟩
 obtain⟨b,off,rfl,hlt,hc⟩:=g h0
 exact⟨b,off,rfl,Nat.lt_of_lt_of_le hlt hB,hc⟩
theorem slots_of_own {w:World} {B e n:Nat} {v:Value} {xs:List Value} (h:w.ownsRow B e 1 v n xs):Slots w w.heap.size v xs:=by
 have hl:xs.length=n:=by simpa using h.1
 rcases h.2 with⟨rfl,h0⟩|⟨g,cap,cur,rfl,_,hg,_,_,_,_⟩
 · refine⟨none,0,by rw[hl,h0],fun hp=>by omega⟩
 · refine⟨some ⟨g,0,none⟩,cap,by rw[hl],fun _=>⟨g,0,rfl,(h.lt g rfl).2,fun i hi=>?_⟩⟩
   rw[Nat.zero_add,h.cellAt i (by omega),List.getD,List.getElem?_eq_getElem hi]
   rfl
theorem own_low {w:World} {B B' e s n:Nat} {v:Value} {xs:List Value} (h:w.ownsRow B e s v n xs) (hB:B'<=B):w.ownsRow B' e s v n xs:=by
 refine⟨h.1,?_⟩
 rcases h.2 with h1|⟨g,cap,cur,h1,h2,h3⟩
 · exact Or.inl h1
 · exact Or.inr ⟨g,cap,cur,h1,Nat.le_trans hB h2,h3⟩
/-- Rows of different element types lie in different blocks. -/
theorem own_ne {w:World} {B B' e e' s s' n n':Nat} {v v':Value} {xs xs':List Value} (h:w.ownsRow B e s v n xs) (h':w.ownsRow B' e' s' v' n' xs') (he:e≠e'):v.ownBlock=none∨v.ownBlock≠v'.ownBlock:=by
 rcases h.2 with⟨rfl,_⟩|⟨g,cap,cur,rfl,_,hg,_⟩
 · exact Or.inl rfl
 · right
   rcases h'.2 with⟨rfl,_⟩|⟨g',cap',cur',rfl,_,hg',_⟩
   · simp[Value.ownBlock]
   · simp only[Value.ownBlock]
     intro e0
     have e1:=Option.some.inj e0
     subst e1
     rw[hg]at hg'
     injection hg' with h1
     injection h1 with h2 h3
     exact he h3
theorem new_cell1 (W:World) (x:Value) (e:TypeId):∀ j u,[x][j]?=some u->(W.alloc (.cells #[x] e)).cell? ((⟨W.heap.size,0,none⟩:Addr).add j)=some u:=by
 intro j u hj
 rw[Addr.add_lit,Nat.zero_add]
 have hh:(W.alloc (.cells #[x] e)).heap[W.heap.size]?=some (.cells #[x] e (0,0)):=Array.getElem?_push_size
 match j,hj with
 |0,hj=>simp at hj;subst hj;unfold World.cell?;rw[hh];rfl
theorem own_capS {w:World} {B e s n:Nat} {v:Value} {xs:List Value} (h:w.ownsRow B e s v n xs):∃ a c,v=.slice a n c:=by
 rcases h.2 with⟨rfl,h0⟩|⟨g,cap,cur,rfl,_,_,h1,h2,_⟩
 · exact⟨none,0,by rw[h0]⟩
 · exact⟨_,_,rfl⟩
theorem own_oneS {w:World} {B e s n:Nat} {v:Value} {xs:List Value} (h:w.ownsRow B e s v n xs):∀ u∈[v],u.oneCell'=true:=by
 obtain⟨a,c,rfl⟩:=own_capS h
 intro u hu
 simp only[List.mem_singleton]at hu
 subst hu
 rfl
theorem own_any {w w':World} {B e s n:Nat} {v:Value} {xs:List Value} (h:w.ownsRow B e s v n xs) (hg:w.grownBy w' none):w'.ownsRow B e s v n xs:=
 h.kept hg (by cases v.ownBlock with|none=>exact Or.inl rfl|some q=>exact Or.inr (by simp))
theorem getD_left (zs:List Value) (x:Value) (i:Nat) (h:i<zs.length):(zs++[x]).getD i (.bool false)=zs.getD i (.bool false):=by simp[List.getD,List.getElem?_append_left h]
theorem getD_last (zs:List Value) (x:Value):(zs++[x]).getD zs.length (.bool false)=x:=by simp[List.getD]
/-- Another coefficient at place i. -/
def setC (l:List (Int×Int)) (i:Nat) (c:Int):List (Int×Int):=l.set i ((l.getD i (0,0)).1,c)
theorem flat_setC (l:List (Int×Int)) (i:Nat) (c:Int) (hi:i<l.length):(flat l).set (i*2+1) (.int .i64 c)=flat (setC l i c):=by
 induction l generalizing i with
 |nil=>simp at hi
 |cons t l ih=>
  have e:flat (t::l)=.int .i64 t.1::.int .i64 t.2::flat l:=rfl
  cases i with
  |zero=>
   have e2:setC (t::l) 0 c=(t.1,c)::l:=rfl
   rw[e,e2]
   rfl
  |succ i=>
   have e2:setC (t::l) (i+1) c=t::setC l i c:=rfl
   have e3:flat (t::setC l i c)=.int .i64 t.1::.int .i64 t.2::flat (setC l i c):=rfl
   rw[e,e2,e3,show(i+1)*2+1=i*2+1+1+1 by omega,List.set_cons_succ,List.set_cons_succ,ih i (by simpa using hi)]
theorem flat_cellC (l:List (Int×Int)) (i:Nat) (hi:i<l.length):(flat l)[i*2+1]?=some (.int .i64 (l.getD i (0,0)).2):=by
 induction l generalizing i with
 |nil=>simp at hi
 |cons t l ih=>
  have e:flat (t::l)=.int .i64 t.1::.int .i64 t.2::flat l:=rfl
  cases i with
  |zero=>rw[e];rfl
  |succ i=>
   have:=ih i (by simpa using hi)
   rw[e,show(i+1)*2+1=i*2+1+1+1 by omega,List.getElem?_cons_succ,List.getElem?_cons_succ,this]
   rfl
/-- Another first number at place i. -/
def setE (l:List (Int×Int)) (i:Nat) (e:Int):List (Int×Int):=l.set i (e,(l.getD i (0,0)).2)
theorem setE_length (l:List (Int×Int)) (i:Nat) (c:Int):(setE l i c).length=l.length:=by simp[setE]
theorem flat_setE (l:List (Int×Int)) (i:Nat) (c:Int) (hi:i<l.length):(flat l).set (i*2) (.int .i64 c)=flat (setE l i c):=by
 induction l generalizing i with
 |nil=>simp at hi
 |cons t l ih=>
  have e:flat (t::l)=.int .i64 t.1::.int .i64 t.2::flat l:=rfl
  cases i with
  |zero=>
   have e2:setE (t::l) 0 c=(c,t.2)::l:=rfl
   rw[e,e2]
   rfl
  |succ i=>
   have e2:setE (t::l) (i+1) c=t::setE l i c:=rfl
   have e3:flat (t::setE l i c)=.int .i64 t.1::.int .i64 t.2::flat (setE l i c):=rfl
   rw[e,e2,e3,show(i+1)*2=i*2+1+1 by omega,List.set_cons_succ,List.set_cons_succ,ih i (by simpa using hi)]
theorem flat_cellE (l:List (Int×Int)) (i:Nat) (hi:i<l.length):(flat l)[i*2]?=some (.int .i64 (l.getD i (0,0)).1):=by
 induction l generalizing i with
 |nil=>simp at hi
 |cons t l ih=>
  have e:flat (t::l)=.int .i64 t.1::.int .i64 t.2::flat l:=rfl
  cases i with
  |zero=>rw[e];rfl
  |succ i=>
   have:=ih i (by simpa using hi)
   rw[e,show(i+1)*2=i*2+1+1 by omega,List.getElem?_cons_succ,List.getElem?_cons_succ,this]
   rfl
theorem flat_zeros (n:Nat):(madeCells #[Value.int .i64 0,.int .i64 0] (n*2)).toList=flat (List.replicate n (0,0)):=by
 apply List.ext_getElem?
 intro j
 by_cases hj:j<n*2
 · have hlen:(flat (List.replicate n ((0:Int),(0:Int)))).length=n*2:=by rw[flat_length];simp
   have h1:∀ (m k:Nat),k<m*2->(flat (List.replicate m ((0:Int),(0:Int))))[k]?=some (.int .i64 0):=by
    intro m
    induction m with
    |zero=>intro k hk;omega
    |succ m ih=>
     intro k hk
     have e:flat (List.replicate (m+1) ((0:Int),(0:Int)))=.int .i64 0::.int .i64 0::flat (List.replicate m ((0:Int),(0:Int))):=rfl
     rw[e]
     match k with
     |0=>rfl
     |1=>rfl
     |k+2=>
      rw[List.getElem?_cons_succ,List.getElem?_cons_succ]
      exact ih k (by omega)
   rw[h1 n j hj]
   simp only[madeCells]
   rcases Nat.mod_two_eq_zero_or_one j with h|h<;>simp[hj,h]
 · rw[List.getElem?_eq_none (by simp[madeCells];omega),List.getElem?_eq_none (by rw[flat_length];simp;omega)]
/-- What the loop has done behind i spots. -/
def unkTo (n i:Nat):List (Int×Int):=List.replicate i (-1,0)++List.replicate (n-i) (0,0)
theorem unk_next (n i:Nat) (h:i<n):setE (unkTo n i) i (-1)=unkTo n (i+1):=by
 obtain⟨m,hm⟩:∃ m,n - i=m+1:=⟨n - i - 1,by omega⟩
 have hm2:n-(i+1)=m:=by omega
 unfold setE unkTo
 rw[hm,hm2,List.replicate_succ,List.replicate_succ' (n:=i)]
 have hg:(List.replicate i ((-1:Int),(0:Int))++(0,0)::List.replicate m (0,0)).getD i (0,0)=(0,0):=by simp[List.getD]
 rw[hg,List.set_append_right _ _ (by simp)]
 simp
theorem hidB {P:Prop} (h:P):Go.RowKit.Hid P:=h
end Go.Proofs.YtnemnpcbhfedcaaGreatDoor
/- Diagrams in a world; the walks of ref.ArcAt, ref.Entry, drawing.Arcs and drawing.ComesIn. -/
namespace Go.Proofs.YtnemnpcbhfedcaaGreatDoor
open Go.RowKit
set_option maxHeartbeats 1000000
set_option maxRecDepth 100000
structure Cr where
 a:Int
 b:Int
 c:Int
 d:Int
 plus:Bool
def Cr.none:Cr:=⟨0,0,0,0,false⟩
def Cr.arc (x:Cr) (k:Nat):Int:=if k=0 then x.a else if k=1 then x.b else if k=2 then x.c else x.d
def Cr.comes (x:Cr) (k:Nat):Bool:=k==0||(k==1&&!x.plus)||(k==3&&x.plus)
def CrossAt (w:World) (b off:Nat) (C:List Cr):Prop:=∀ i,i<C.length->
 w.cell? ⟨b,off+i*5,none⟩=some (.int .i64 (C.getD i Cr.none).a)/\w.cell? ⟨b,off+i*5+1,none⟩=some (.int .i64 (C.getD i Cr.none).b)/\w.cell? ⟨b,off+i*5+2,none⟩=some (.int .i64 (C.getD i Cr.none).c)/\
 w.cell? ⟨b,off+i*5+3,none⟩=some (.int .i64 (C.getD i Cr.none).d)/\w.cell? ⟨b,off+i*5+4,none⟩=some (.bool (C.getD i Cr.none).plus)
theorem CrossAt.on {w w':World} {B b off:Nat} {C:List Cr} (h:CrossAt w b off C) (hb:Below B w w') (hlt:b<B):CrossAt w' b off C:=fun i hi=>
 ⟨bcell hb hlt (h i hi).1,bcell hb hlt (h i hi).2.1,bcell hb hlt (h i hi).2.2.1,bcell hb hlt (h i hi).2.2.2.1,bcell hb hlt (h i hi).2.2.2.2⟩
theorem below2 (w:World) (o1 o2:Obj):Below w.heap.size w ((w.alloc o1).alloc o2):=((Below.refl _ _).alloc (Nat.le_refl _) _).alloc (by simp) _
theorem below3 (w:World) (o1 o2 o3:Obj):Below w.heap.size w (((w.alloc o1).alloc o2).alloc o3):=(below2 w o1 o2).alloc (by simp;omega) _
theorem comesIn_any (x : Cr) (k : Nat) (w : World) (hk : k < 4) :
    Calls Tryz.prog 47 #[.agg #[.int .i64 x.a,.int .i64 x.b,.int .i64 x.c,.int .i64 x.d,.bool x.plus],.int .i64 k] w fun e w'=>e=.returned (.bool (x.comes k))/\Below w.heap.size w w':=by
 obtain⟨xa,xb,xc,xd,xp⟩:=x
 have hk4:k=0∨k=1∨k=2∨k=3:=by omega
 rcases hk4 with rfl|rfl|rfl|rfl
 · go_enter Tryz.func47,Tryz.ntmps47
   go_wp2
   go_ret
   exact⟨rfl,(Below.refl _ _).alloc (Nat.le_refl _) _⟩
 · cases xp
   · go_enter Tryz.func47,Tryz.ntmps47
     go_wp2
     go_ret
     exact⟨rfl,(Below.refl _ _).alloc (Nat.le_refl _) _⟩
   · go_enter Tryz.func47,Tryz.ntmps47
     go_wp2
     go_ret
     exact⟨rfl,(Below.refl _ _).alloc (Nat.le_refl _) _⟩
 · go_enter Tryz.func47,Tryz.ntmps47
   go_wp2
   go_ret
   exact⟨rfl,(Below.refl _ _).alloc (Nat.le_refl _) _⟩
 · cases xp
   · go_enter Tryz.func47,Tryz.ntmps47
     go_wp2
     go_ret
     exact⟨rfl,(Below.refl _ _).alloc (Nat.le_refl _) _⟩
   · go_enter Tryz.func47,Tryz.ntmps47
     go_wp2
     go_ret
     exact⟨rfl,(Below.refl _ _).alloc (Nat.le_refl _) _⟩
theorem arcs_any (x : Cr) (w : World) :
    Calls Tryz.prog 65 #[.agg #[.int .i64 x.a,.int .i64 x.b,.int .i64 x.c,.int .i64 x.d,.bool x.plus]] w fun e w'=>e=.returned (.agg #[.int .i64 x.a,.int .i64 x.b,.int .i64 x.c,.int .i64 x.d])/\Below w.heap.size w w':=by
 go_enter Tryz.func65,Tryz.ntmps65
 go_wp2
 exact bodyPost_ret (v:=.agg #[.int .i64 x.a,.int .i64 x.b,.int .i64 x.c,.int .i64 x.d]) (by simp[results,Tryz.results65,go_sem]) rfl ⟨rfl,below2 _ _ _⟩
end Go.Proofs.YtnemnpcbhfedcaaGreatDoor
/- The walk of ref.DiagramMay: which diagrams may be, by counting. -/
namespace Go.Proofs.YtnemnpcbhfedcaaGreatDoor
open Go.RowKit
def sideIn (x:Cr) (a:Int):Nat->Nat
 |0=>0
 |k+1=>sideIn x a k+(if x.arc k=a/\x.comes k=true then 1 else 0)
def sideOut (x:Cr) (a:Int):Nat->Nat
 |0=>0
 |k+1=>sideOut x a k+(if x.arc k=a/\x.comes k=false then 1 else 0)
def inTo (C:List Cr) (a:Int):Nat->Nat
 |0=>0
 |i+1=>inTo C a i+sideIn (C.getD i Cr.none) a 4
def outTo (C:List Cr) (a:Int):Nat->Nat
 |0=>0
 |i+1=>outTo C a i+sideOut (C.getD i Cr.none) a 4
def onceB (C:List Cr) (a:Nat):Bool:=decide (inTo C a C.length=1)&&decide (outTo C a C.length=1)
def sizeB (C:List Cr) (loops:Int):Bool:=decide (C.length<=16)&&decide (0<=loops)&&decide (loops<=16)&&!(decide (C.length=0)&&decide (loops=0))
def mayD (C:List Cr) (loops:Int):Bool:=sizeB C loops&&(List.range (2*C.length)).all fun j=>onceB C (j+1)
theorem mayD_no {C:List Cr} {loops:Int} {a:Nat} (h0:1<=a) (h1:a<=2*C.length) (h:onceB C a=false):mayD C loops=false:=by
 cases hm:mayD C loops with
 |false=>rfl
 |true=>
  simp only[mayD,Bool.and_eq_true,List.all_eq_true,List.mem_range]at hm
  have:=hm.2 (a-1) (by omega)
  rw[show a-1+1=a by omega,h]at this
  cases this
theorem mayD_yes {C:List Cr} {loops:Int} (hs:sizeB C loops=true) (h:∀ a:Nat,1<=a->a<=2*C.length->onceB C a=true):mayD C loops=true:=by
 simp only[mayD,Bool.and_eq_true,List.all_eq_true,List.mem_range]
 exact⟨hs,fun j hj=>h (j+1) (by omega) (by omega)⟩
theorem mayD_size {C:List Cr} {loops:Int} (hs:sizeB C loops=false):mayD C loops=false:=by
 simp[mayD,hs]
def Crs (w:World) (B:Nat) (v:Value) (C:List Cr):Prop:=∃ a cap,v=.slice a C.length cap/\C.length<=maxLen/\(0<C.length->∃ b off,a=some ⟨b,off,none⟩/\b<B/\CrossAt w b off C)
end Go.Proofs.YtnemnpcbhfedcaaGreatDoor
/- The walk of ref.DiagramMay where crossings and loops are not too many. -/
namespace Go.Proofs.YtnemnpcbhfedcaaGreatDoor
open Go.RowKit
theorem sizeB_iff {C:List Cr} {loops:Int} (h:sizeB C loops=true):C.length<=16/\0<=loops/\loops<=16/\¬(C.length=0/\loops=0):=by
 simp only[sizeB,Bool.and_eq_true,decide_eq_true_eq,Bool.not_eq_true',Bool.and_eq_false_iff,decide_eq_false_iff_not]at h
 omega
end Go.Proofs.YtnemnpcbhfedcaaGreatDoor
/- The walk of ref.DiagramMay at whatever diagram; the walk of drawing.unknown. -/
namespace Go.Proofs.YtnemnpcbhfedcaaGreatDoor
open Go.RowKit
set_option maxHeartbeats 2000000
set_option maxRecDepth 100000
theorem infoSpot:(Tryz.prog.info? 125).map (fun i=>(i.zero,i.size,i.bytes))=some (some (.agg #[.int .i64 0,.int .i64 0]),2,16):=by kernel_rfl
theorem unknown_any (n : Nat) (w : World) (hn : n ≤ 40) :
    Calls Tryz.prog 75 #[.int .i64 n] w fun e w'=>∃ v,e=.returned v/\w'.ownsRow w.heap.size 125 2 v n (flat (List.replicate n (-1,0)))/\Below w.heap.size w w':=by
 obtain⟨i0,hi,hz0,hz1,hz2⟩:=info_parts infoSpot
 go_enter Tryz.func75,Tryz.ntmps75
 go_wp2_with (first|(at_make;refine wpList_make_full _ rfl _ _ 38 rfl w.heap.size 125 i0 (.agg #[.int .i64 0,.int .i64 0]) 2 Tryz.underlying38 hi hz0 hz1 .i64 .i64 _ _ n rfl rfl rfl rfl (by rw[hz2];omega) (by unfold maxLen;omega) (Nat.le_refl _) ?_;intro w1 hrow hg1;refine Hid.out ?_))
 refine Lib.hid ?_
 have hz:(madeCells (Value.agg #[.int .i64 0,.int .i64 0]).cells (n*2)).toList=flat (unkTo n 0):=by
  have e:(Value.agg #[.int .i64 0,.int .i64 0]).cells=#[Value.int .i64 0,.int .i64 0]:=rfl
  rw[e,flat_zeros]
  simp[unkTo]
 rw[hz]at hrow
 have HB1:Hid (Below w.heap.size w w1):=(Below.refl _ _).grown hg1 (Nat.le_refl _) (fun j hj=>by cases hj)
 clear hz hg1
 go_wp2
 go_loopw [9] (fun v9 wr=>∃ i:Nat,i<=n/\v9=.int .i64 i/\wr.ownsRow w.heap.size 125 2 (.slice (some ⟨w.heap.size,0,none⟩) n n) n (flat (unkTo n i))/\Below w.heap.size w wr) (fun v9 _=>n-(intOf v9).toNat)
 case atStart=>exact⟨0,Nat.zero_le _,rfl,hrow,HB1.out⟩
 case round=>
  clear hrow
  obtain⟨i,hin,rfl,hown,hb⟩:=hrel
  have hlow:=(hown.lt w.heap.size rfl).2
  by_cases hil:i<n
  · have hul:(unkTo n i).length=n:=by simp[unkTo];omega
    have f0:=hown.frozenAt (i*2)
    have c0:wr.cell? ⟨w.heap.size,i*2,none⟩=some (.int .i64 ((unkTo n i).getD i (0,0)).1):=by rw[hown.cellAt (i*2) (by omega)];exact flat_cellE _ i (by omega)
    have hst:=hown.stored (i*2) (.int .i64 (-1))
    rw[flat_setE _ i (-1) (by omega),unk_next n i hil]at hst
    have HST:Hid ((wr.setCell ⟨w.heap.size,i*2,none⟩ (.int .i64 (-1))).ownsRow w.heap.size 125 2 (.slice (some ⟨w.heap.size,0,none⟩) n n) n (flat (unkTo n (i+1)))):=hst.1
    have HBB:Hid (Below w.heap.size w (wr.setCell ⟨w.heap.size,i*2,none⟩ (.int .i64 (-1)))):=hb.grown hst.2 hb.size (fun j hj=>by cases hj;exact Nat.le_refl _)
    generalize ((unkTo n i).getD i (0,0)).1=u at c0
    clear hst hown
    go_wp2
    go_roundw
    case rel=>exact⟨i+1,by omega,by go_num,HST.out,HBB.out⟩
    case measure=>simp only[intOf];omega
  · obtain rfl:i=n:=by omega
    go_wp2
    go_ret
    exact ⟨_, rfl, by have e : unkTo i i = List.replicate i (-1, 0) := by simp [unkTo]
                      rw[<-e];exact hown,hb⟩
end Go.Proofs.YtnemnpcbhfedcaaGreatDoor
/- A diagram may be just if no arc stands twice where strands come in, nor where they go out, and none is out of range. Plain mathematics: no program is named here. -/
namespace Go.Proofs.YtnemnpcbhfedcaaGreatDoor
def sd (x:Cr) (a:Int) (p:Bool):Nat->Nat
 |0=>0
 |k+1=>sd x a p k+(if x.arc k=a/\x.comes k=p then 1 else 0)
def sdTo (C:List Cr) (a:Int) (p:Bool):Nat->Nat
 |0=>0
 |i+1=>sdTo C a p i+sd (C.getD i Cr.none) a p 4
theorem sd_in (x:Cr) (a:Int) (k:Nat):sd x a true k=sideIn x a k:=by
 induction k with
 |zero=>rfl
 |succ k ih=>simp only[sd,sideIn,ih]
theorem sd_out (x:Cr) (a:Int) (k:Nat):sd x a false k=sideOut x a k:=by
 induction k with
 |zero=>rfl
 |succ k ih=>simp only[sd,sideOut,ih]
theorem sdTo_in (C:List Cr) (a:Int) (i:Nat):sdTo C a true i=inTo C a i:=by
 induction i with
 |zero=>rfl
 |succ i ih=>simp only[sdTo,inTo,ih,sd_in]
theorem sdTo_out (C:List Cr) (a:Int) (i:Nat):sdTo C a false i=outTo C a i:=by
 induction i with
 |zero=>rfl
 |succ i ih=>simp only[sdTo,outTo,ih,sd_out]
def sumA (f:Nat->Nat):Nat->Nat
 |0=>0
 |m+1=>sumA f m+f (m+1)
theorem sumA_add (f g:Nat->Nat) (m:Nat):sumA (fun a=>f a+g a) m=sumA f m+sumA g m:=by
 induction m with
 |zero=>rfl
 |succ m ih=>simp only[sumA,ih];omega
theorem sumA_congr {f g:Nat->Nat} (m:Nat) (h:∀ a,1<=a->a<=m->f a=g a):sumA f m=sumA g m:=by
 induction m with
 |zero=>rfl
 |succ m ih=>simp only[sumA];rw[ih fun a h1 h2=>h a h1 (by omega),h (m+1) (by omega) (Nat.le_refl _)]
theorem sumA_zero (m:Nat):sumA (fun _=>0) m=0:=by
 induction m with
 |zero=>rfl
 |succ m ih=>simp only[sumA,ih]
theorem sumA_one (m:Nat):sumA (fun _=>1) m=m:=by
 induction m with
 |zero=>rfl
 |succ m ih=>simp only[sumA,ih]
theorem sumA_at (v:Int) (m:Nat):sumA (fun a=>if v=(a:Int) then 1 else 0) m=if 1<=v/\v<=m then 1 else 0:=by
 induction m with
 |zero=>simp only[sumA];rw[if_neg (by omega)]
 |succ m ih=>
  simp only[sumA,ih]
  by_cases h1:1<=v/\v<=m
  · rw[if_pos h1,if_neg (by omega),if_pos (by omega)]
  · rw[if_neg h1]
    by_cases h2:v=((m+1:Nat):Int)
    · rw[if_pos h2,if_pos (by omega)]
    · rw[if_neg h2,if_neg (by omega)]
theorem sumA_all {f:Nat->Nat} {m:Nat} (h1:∀ a,1<=a->a<=m->f a<=1) (hs:sumA f m=m):∀ a,1<=a->a<=m->f a=1:=by
 have hle:∀ k,k<=m->sumA f k<=k:=by
  intro k
  induction k with
  |zero=>intro _;exact Nat.le_refl _
  |succ k ih=>
   intro hk
   have:=ih (by omega)
   have:=h1 (k+1) (by omega) hk
   simp only[sumA]
   omega
 induction m with
 |zero=>intro a h2 h3;omega
 |succ m ih=>
  have hm:=hle m (by omega)
  have hl:=h1 (m+1) (by omega) (Nat.le_refl _)
  simp only[sumA]at hs
  intro a h2 h3
  by_cases e:a=m+1
  · rw[e];omega
  · exact ih (fun b hb1 hb2=>h1 b hb1 (by omega)) (by omega) (fun k hk=>hle k (by omega)) a h2 (by omega)
def cnt (x:Cr) (p:Bool):Nat->Nat
 |0=>0
 |k+1=>cnt x p k+(if x.comes k=p then 1 else 0)
theorem cnt_four (x:Cr) (p:Bool):cnt x p 4=2:=by
 obtain⟨a,b,c,d,q⟩:=x
 cases p<;>cases q<;>rfl
def rng (x:Cr) (p:Bool) (m:Nat):Nat->Nat
 |0=>0
 |k+1=>rng x p m k+(if x.comes k=p/\1<=x.arc k/\x.arc k<=m then 1 else 0)
def rngTo (C:List Cr) (p:Bool) (m:Nat):Nat->Nat
 |0=>0
 |i+1=>rngTo C p m i+rng (C.getD i Cr.none) p m 4
theorem sum_sd (x:Cr) (p:Bool) (m k:Nat):sumA (fun a=>sd x a p k) m=rng x p m k:=by
 induction k with
 |zero=>exact sumA_zero m
 |succ k ih=>
  simp only[sd,rng,sumA_add,ih]
  congr 1
  by_cases h:x.comes k=p
  · rw[sumA_congr m (g:=fun a=>if x.arc k=(a:Int) then 1 else 0) (fun a _ _=>by simp[h]),sumA_at]
    simp[h]
  · rw[sumA_congr m (g:=fun _=>0) (fun a _ _=>by simp[h]),sumA_zero,if_neg (fun e=>h e.1)]
theorem sum_sdTo (C:List Cr) (p:Bool) (m i:Nat):sumA (fun a=>sdTo C a p i) m=rngTo C p m i:=by
 induction i with
 |zero=>exact sumA_zero m
 |succ i ih=>simp only[sdTo,rngTo,sumA_add,ih,sum_sd]
theorem rng_le (x:Cr) (p:Bool) (m k:Nat):rng x p m k<=cnt x p k:=by
 induction k with
 |zero=>exact Nat.le_refl _
 |succ k ih=>
  simp only[rng,cnt]
  by_cases h:x.comes k=p
  · rw[if_pos h];split<;>omega
  · rw[if_neg h,if_neg (fun e=>h e.1)];omega
theorem rng_lt (x:Cr) (p:Bool) (m k j:Nat) (hj:j<k) (hc:x.comes j=p) (ho:¬(1<=x.arc j/\x.arc j<=m)):rng x p m k<cnt x p k:=by
 induction k with
 |zero=>omega
 |succ k ih=>
  simp only[rng,cnt]
  by_cases e:j=k
  · subst e
    have:=rng_le x p m j
    rw[if_pos hc,if_neg (fun e=>ho e.2)]
    omega
  · have:=ih (by omega)
    by_cases h:x.comes k=p
    · rw[if_pos h];split<;>omega
    · rw[if_neg h,if_neg (fun e=>h e.1)];omega
theorem rng_all (x:Cr) (p:Bool) (m k:Nat) (h:∀ j,j<k->x.comes j=p->1<=x.arc j/\x.arc j<=m):rng x p m k=cnt x p k:=by
 induction k with
 |zero=>rfl
 |succ k ih=>
  simp only[rng,cnt]
  rw[ih fun j hj=>h j (by omega)]
  by_cases hc:x.comes k=p
  · rw[if_pos hc,if_pos ⟨hc,h k (by omega) hc⟩]
  · rw[if_neg hc,if_neg (fun e=>hc e.1)]
theorem rngTo_le (C:List Cr) (p:Bool) (m i:Nat):rngTo C p m i<=2*i:=by
 induction i with
 |zero=>exact Nat.le_refl _
 |succ i ih=>
  have:=rng_le (C.getD i Cr.none) p m 4
  rw[cnt_four]at this
  simp only[rngTo]
  omega
theorem rngTo_lt (C:List Cr) (p:Bool) (m n i k:Nat) (hi:i<n) (hk:k<4) (hc:(C.getD i Cr.none).comes k=p) (ho:¬(1<=(C.getD i Cr.none).arc k/\(C.getD i Cr.none).arc k<=m)):rngTo C p m n<2*n:=by
 induction n with
 |zero=>omega
 |succ n ih=>
  simp only[rngTo]
  by_cases e:i=n
  · subst e
    have h1:=rng_lt (C.getD i Cr.none) p m 4 k hk hc ho
    have h2:=rngTo_le C p m i
    rw[cnt_four]at h1
    omega
  · have h1:=ih (by omega)
    have h2:=rng_le (C.getD n Cr.none) p m 4
    rw[cnt_four]at h2
    omega
theorem rngTo_all (C:List Cr) (p:Bool) (m n:Nat) (h:∀ i k,i<n->k<4->(C.getD i Cr.none).comes k=p->1<=(C.getD i Cr.none).arc k/\(C.getD i Cr.none).arc k<=m):rngTo C p m n=2*n:=by
 induction n with
 |zero=>rfl
 |succ n ih=>
  simp only[rngTo]
  rw[ih fun i k hi=>h i k (by omega),rng_all _ p m 4 (fun j hj hc=>h n j (by omega) hj hc),cnt_four]
  omega
def ahd (C:List Cr) (a:Int) (p:Bool) (i k:Nat):Nat:=sdTo C a p i+sd (C.getD i Cr.none) a p k
theorem ahd_next (C:List Cr) (a:Int) (p:Bool) (i k:Nat):ahd C a p i (k+1)=ahd C a p i k+(if(C.getD i Cr.none).arc k=a/\(C.getD i Cr.none).comes k=p then 1 else 0):=by
 simp only[ahd,sd];omega
theorem sd_mono (x:Cr) (a:Int) (p:Bool) (j k:Nat) (h:j<=k):sd x a p j<=sd x a p k:=by
 induction k with
 | zero => obtain rfl : j = 0 := by omega
           exact Nat.le_refl _
 |succ k ih=>
  by_cases e:j=k+1
  · subst e;exact Nat.le_refl _
  · have:=ih (by omega)
    simp only[sd]
    omega
theorem sdTo_mono (C:List Cr) (a:Int) (p:Bool) (i n:Nat) (h:i<=n):sdTo C a p i<=sdTo C a p n:=by
 induction n with
 | zero => obtain rfl : i = 0 := by omega
           exact Nat.le_refl _
 |succ n ih=>
  by_cases e:i=n+1
  · subst e;exact Nat.le_refl _
  · have:=ih (by omega)
    simp only[sdTo]
    omega
theorem ahd_le (C:List Cr) (a:Int) (p:Bool) (i k n:Nat) (hi:i<n) (hk:k<=4):ahd C a p i k<=sdTo C a p n:=by
 have h1:=sd_mono (C.getD i Cr.none) a p k 4 hk
 have h2:=sdTo_mono C a p (i+1) n (by omega)
 simp only[sdTo]at h2
 simp only[ahd]
 omega
def fit (C:List Cr) (i k:Nat):Prop:=1<=(C.getD i Cr.none).arc k/\(C.getD i Cr.none).arc k<=2*(C.length:Int)/\ahd C ((C.getD i Cr.none).arc k) ((C.getD i Cr.none).comes k) i k=0
theorem once_sd {C:List Cr} {a:Nat} (h:onceB C a=true) (p:Bool):sdTo C a p C.length=1:=by
 simp only[onceB,Bool.and_eq_true,decide_eq_true_eq]at h
 cases p
 · rw[sdTo_out];exact h.2
 · rw[sdTo_in];exact h.1
theorem may_once {C:List Cr} {loops:Int} (h:mayD C loops=true) (a:Nat) (h1:1<=a) (h2:a<=2*C.length):onceB C a=true:=by
 cases ho:onceB C a with
 |true=>rfl
 |false=>rw[mayD_no h1 h2 ho]at h;cases h
theorem unfit_no {C:List Cr} {loops:Int} {i k:Nat} (hi:i<C.length) (hk:k<4) (h:¬fit C i k):mayD C loops=false:=by
 cases hm:mayD C loops with
 |false=>rfl
 |true=>
  exfalso
  by_cases hr:1<=(C.getD i Cr.none).arc k/\(C.getD i Cr.none).arc k<=2*(C.length:Int)
  · obtain⟨a,ha⟩:∃ a:Nat,(C.getD i Cr.none).arc k=(a:Int):=⟨((C.getD i Cr.none).arc k).toNat,by omega⟩
    have h1:=once_sd (may_once hm a (by omega) (by omega)) ((C.getD i Cr.none).comes k)
    have h2:=ahd_le C a ((C.getD i Cr.none).comes k) i (k+1) C.length hi (by omega)
    rw[ahd_next,if_pos ⟨ha,rfl⟩]at h2
    refine h ⟨hr.1,hr.2,?_⟩
    rw[ha]
    omega
  · have h1:=rngTo_lt C ((C.getD i Cr.none).comes k) (2*C.length) C.length i k hi hk rfl (by omega)
    rw[<-sum_sdTo,sumA_congr (2*C.length) (g:=fun _=>1) (fun a h2 h3=>once_sd (may_once hm a h2 h3) _),sumA_one]at h1
    omega
theorem fit_yes {C:List Cr} {loops:Int} (hs:sizeB C loops=true) (h:∀ i k,i<C.length->k<4->fit C i k):mayD C loops=true:=by
 have key:∀ p,∀ a:Nat,1<=a->a<=2*C.length->sdTo C a p C.length=1:=by
  intro p
  refine sumA_all (f:=fun a=>sdTo C a p C.length) ?_ ?_
  · intro a h1 h2
    have hrow:∀ i,i<=C.length->sdTo C a p i<=1:=by
     intro i
     induction i with
     |zero=>intro _;exact Nat.zero_le _
     |succ i ih=>
      intro hi
      have ih:=ih (by omega)
      have hcol:∀ k,k<=4->ahd C a p i k<=1:=by
       intro k
       induction k with
       |zero=>intro _;exact ih
       |succ k ihk=>
        intro hk
        have ihk:=ihk (by omega)
        rw[ahd_next]
        split
        · next e=>
          have hf:=(h i k (by omega) (by omega)).2.2
          rw[e.1,e.2]at hf
          omega
        · omega
      have:=hcol 4 (Nat.le_refl _)
      exact this
    exact hrow C.length (Nat.le_refl _)
  · rw[sum_sdTo]
    exact rngTo_all C p _ C.length fun i k hi hk _=>by
     have:=h i k hi hk
     exact⟨this.1,by have:=this.2.1;omega⟩
 refine mayD_yes hs fun a h1 h2=>?_
 simp only[onceB,Bool.and_eq_true,decide_eq_true_eq]
 exact⟨by rw[<-sdTo_in];exact key true a h1 h2,by rw[<-sdTo_out];exact key false a h1 h2⟩
end Go.Proofs.YtnemnpcbhfedcaaGreatDoor
/- Where arcs begin and end; walks along strands; Dowker's numbers. Plain mathematics: no program is named here. -/
namespace Go.Proofs.YtnemnpcbhfedcaaGreatDoor
def sideEnd (x:Cr) (i:Nat) (a:Int) (p:Bool) (z:Int×Int):Nat->Int×Int
 |0=>z
 |k+1=>if x.arc k=a/\x.comes k=p then((i:Int),(k:Int)) else sideEnd x i a p z k
def endTo (C:List Cr) (a:Int) (p:Bool):Nat->Int×Int
 |0=>(-1,0)
 |i+1=>sideEnd (C.getD i Cr.none) i a p (endTo C a p i) 4
def endAh (C:List Cr) (a:Int) (p:Bool) (i k:Nat):Int×Int:=sideEnd (C.getD i Cr.none) i a p (endTo C a p i) k
theorem endAh_next (C:List Cr) (a:Int) (p:Bool) (i k:Nat):endAh C a p i (k+1)=if(C.getD i Cr.none).arc k=a/\(C.getD i Cr.none).comes k=p then((i:Int),(k:Int)) else endAh C a p i k:=rfl
theorem sideEnd_cases (x:Cr) (i:Nat) (a:Int) (p:Bool) (z:Int×Int) (k:Nat):(sd x a p k=0/\sideEnd x i a p z k=z)∨(0<sd x a p k/\∃ j,j<k/\x.arc j=a/\x.comes j=p/\sideEnd x i a p z k=((i:Int),(j:Int))):=by
 induction k with
 |zero=>exact Or.inl ⟨rfl,rfl⟩
 |succ k ih=>
  by_cases h:x.arc k=a/\x.comes k=p
  · refine Or.inr ⟨?_,k,by omega,h.1,h.2,?_⟩
    · simp only[sd];rw[if_pos h];omega
    · simp only[sideEnd];rw[if_pos h]
  · have e1:sd x a p (k+1)=sd x a p k:=by simp only[sd];rw[if_neg h];rfl
    have e2:sideEnd x i a p z (k+1)=sideEnd x i a p z k:=by simp only[sideEnd];rw[if_neg h]
    rw[e1,e2]
    rcases ih with ih|⟨h1,j,h2,h3⟩
    · exact Or.inl ih
    · exact Or.inr ⟨h1,j,by omega,h3⟩
theorem endTo_cases (C:List Cr) (a:Int) (p:Bool) (n:Nat):(sdTo C a p n=0/\endTo C a p n=(-1,0))∨(0<sdTo C a p n/\∃ i j,i<n/\j<4/\(C.getD i Cr.none).arc j=a/\(C.getD i Cr.none).comes j=p/\endTo C a p n=((i:Int),(j:Int))):=by
 induction n with
 |zero=>exact Or.inl ⟨rfl,rfl⟩
 |succ n ih=>
  simp only[sdTo,endTo]
  rcases sideEnd_cases (C.getD n Cr.none) n a p (endTo C a p n) 4 with⟨h1,h2⟩|⟨h1,j,h2,h3,h4,h5⟩
  · rw[h1,h2]
    rcases ih with ih|⟨h1,i,j,h2,h3⟩
    · exact Or.inl ih
    · exact Or.inr ⟨h1,i,j,by omega,h3⟩
  · exact Or.inr ⟨by omega,n,j,by omega,h2,h3,h4,h5⟩
theorem endAh_cases (C:List Cr) (a:Int) (p:Bool) (i k:Nat) (hk:k<=4):(ahd C a p i k=0/\endAh C a p i k=(-1,0))∨(0<ahd C a p i k/\∃ i' j:Nat,j<4/\endAh C a p i k=((i':Int),(j:Int))):=by
 simp only[ahd,endAh]
 rcases sideEnd_cases (C.getD i Cr.none) i a p (endTo C a p i) k with⟨h1,h2⟩|⟨h1,j,h2,h3,h4,h5⟩
 · rw[h1,h2]
   rcases endTo_cases C a p i with h|⟨h1,i',j,h2,h3,h4,h5,h6⟩
   · exact Or.inl h
   · exact Or.inr ⟨h1,i',j,h3,h6⟩
 · exact Or.inr ⟨by omega,i,j,by omega,h5⟩
theorem endAh_free (C:List Cr) (a:Int) (p:Bool) (i k:Nat) (hk:k<=4):(endAh C a p i k).1 = -1↔ahd C a p i k=0:=by
 rcases endAh_cases C a p i k hk with⟨h1,h2⟩|⟨h1,i',j,h2,h3⟩
 · rw[h1,h2];simp
 · rw[h3]
   constructor
   · intro h
     have:(i':Int) = -1:=h
     omega
   · intro h;omega
def ends (C:List Cr) (p:Bool) (i k:Nat):List (Int×Int):=(List.range (2*C.length+1)).map fun a=>if a=0 then(-1,0) else endAh C (a:Nat) p i k
theorem ends_length (C:List Cr) (p:Bool) (i k:Nat):(ends C p i k).length=2*C.length+1:=by simp[ends]
theorem ends_at (C:List Cr) (p:Bool) (i k a:Nat) (h1:1<=a) (h2:a<=2*C.length):(ends C p i k).getD a (0,0)=endAh C a p i k:=by
 unfold ends
 rw[List.getD_eq_getElem?_getD,List.getElem?_map,List.getElem?_range (by omega)]
 simp
 omega
theorem ends_start (C:List Cr) (p:Bool):ends C p 0 0=List.replicate (2*C.length+1) (-1,0):=by
 apply List.ext_getElem
 · simp[ends]
 · intro j h1 h2
   simp only[ends,List.getElem_map,List.getElem_range,List.getElem_replicate]
   split<;>rfl
theorem ends_keep (C:List Cr) (p:Bool) (i k:Nat) (h:(C.getD i Cr.none).comes k≠p):ends C p i (k+1)=ends C p i k:=by
 unfold ends
 apply List.map_congr_left
 intro a _
 have e:endAh C (a:Nat) p i (k+1)=endAh C (a:Nat) p i k:=by rw[endAh_next,if_neg (fun e=>h e.2)]
 simp only[e]
theorem ends_set (C:List Cr) (p:Bool) (i k a:Nat) (h1:1<=a) (hc:(C.getD i Cr.none).comes k=p) (ha:(C.getD i Cr.none).arc k=(a:Int)):(ends C p i k).set a ((i:Int),(k:Int))=ends C p i (k+1):=by
 apply List.ext_getElem
 · simp[ends]
 · intro j h2 h3
   rw[List.getElem_set]
   simp only[ends,List.getElem_map,List.getElem_range]
   by_cases e:a=j
   · subst e
     rw[if_pos rfl,if_neg (by omega),endAh_next,if_pos ⟨ha,hc⟩]
   · have e2:endAh C (j:Nat) p i (k+1)=endAh C (j:Nat) p i k:=by rw[endAh_next,if_neg (fun h=>e (by have:=h.1;rw[ha]at this;omega))]
     rw[if_neg e,e2]
theorem end_may {C:List Cr} {loops:Int} (hm:mayD C loops=true) (a:Nat) (h1:1<=a) (h2:a<=2*C.length) (p:Bool):∃ i k:Nat,i<C.length/\k<4/\(C.getD i Cr.none).arc k=(a:Int)/\(C.getD i Cr.none).comes k=p/\endTo C a p C.length=((i:Int),(k:Int)):=by
 have ho:=once_sd (may_once hm a h1 h2) p
 rcases endTo_cases C a p C.length with⟨h,_⟩|⟨_,i,j,h3,h4,h5,h6,h7⟩
 · omega
 · exact⟨i,j,h3,h4,h5,h6,h7⟩
theorem sd_at (x:Cr) (a:Int) (p:Bool) (k n:Nat) (hk:k<n) (h:x.arc k=a/\x.comes k=p):0<sd x a p n:=by
 have:=sd_mono x a p (k+1) n (by omega)
 simp only[sd]at this
 rw[if_pos h]at this
 omega
theorem sd_two (x:Cr) (a:Int) (p:Bool) (j k n:Nat) (hj:j<k) (hk:k<n) (h:x.arc j=a/\x.comes j=p) (h2:x.arc k=a/\x.comes k=p):2<=sd x a p n:=by
 have h3:=sd_at x a p j k hj h
 have:=sd_mono x a p (k+1) n (by omega)
 simp only[sd]at this
 rw[if_pos h2]at this
 omega
theorem end_one {C:List Cr} {loops:Int} (hm:mayD C loops=true) (a:Nat) (h1:1<=a) (h2:a<=2*C.length) (p:Bool) (i k:Nat) (hi:i<C.length) (hk:k<4) (ha:(C.getD i Cr.none).arc k=(a:Int)) (hc:(C.getD i Cr.none).comes k=p):endTo C a p C.length=((i:Int),(k:Int)):=by
 have ho:=once_sd (may_once hm a h1 h2) p
 obtain⟨i',k',h3,h4,h5,h6,h7⟩:=end_may hm a h1 h2 p
 rw[h7]
 have row:∀ u v s t:Nat,u<v->v<C.length->s<4->t<4->(C.getD u Cr.none).arc s=(a:Int)->(C.getD u Cr.none).comes s=p->(C.getD v Cr.none).arc t=(a:Int)->(C.getD v Cr.none).comes t=p->False:=by
  intro u v s t huv hv hs ht e1 e2 e3 e4
  have g1:=sd_at (C.getD u Cr.none) a p s 4 hs ⟨e1,e2⟩
  have g2:=sd_at (C.getD v Cr.none) a p t 4 ht ⟨e3,e4⟩
  have g3:=sdTo_mono C a p (u+1) v (by omega)
  have g4:=sdTo_mono C a p (v+1) C.length (by omega)
  simp only[sdTo]at g3 g4
  omega
 have col:∀ u s t:Nat,s<t->u<C.length->t<4->(C.getD u Cr.none).arc s=(a:Int)->(C.getD u Cr.none).comes s=p->(C.getD u Cr.none).arc t=(a:Int)->(C.getD u Cr.none).comes t=p->False:=by
  intro u s t hst hu ht e1 e2 e3 e4
  have g2:=sd_two (C.getD u Cr.none) a p s t 4 hst ht ⟨e1,e2⟩ ⟨e3,e4⟩
  have g4:=sdTo_mono C a p (u+1) C.length (by omega)
  simp only[sdTo]at g4
  omega
 rcases Nat.lt_trichotomy i i' with h|h|h
 · exact(row i i' k k' h h3 hk h4 ha hc h5 h6).elim
 · subst h
   rcases Nat.lt_trichotomy k k' with h|h|h
   · exact(col i k k' h hi h4 ha hc h5 h6).elim
   · subst h;rfl
   · exact(col i k' k h hi hk h5 h6 ha hc).elim
 · exact(row i' i k' k h hi h4 hk h5 h6 ha hc).elim
theorem may_fit {C:List Cr} {loops:Int} (hm:mayD C loops=true) (i k:Nat) (hi:i<C.length) (hk:k<4):fit C i k:=by
 refine Classical.byContradiction fun h=>?_
 rw[unfit_no hi hk h]at hm
 cases hm
def toC (C:List Cr) (a:Nat):Nat:=(endTo C a true C.length).1.toNat
def toS (C:List Cr) (a:Nat):Nat:=(endTo C a true C.length).2.toNat
def nx (C:List Cr) (a:Nat):Nat:=((C.getD (toC C a) Cr.none).arc ((toS C a+2)%4)).toNat
theorem to_may {C:List Cr} {loops:Int} (hm:mayD C loops=true) (a:Nat) (h1:1<=a) (h2:a<=2*C.length):endTo C a true C.length=((toC C a:Int),(toS C a:Int))/\toC C a<C.length/\toS C a<4/\(C.getD (toC C a) Cr.none).arc (toS C a)=(a:Int)/\(C.getD (toC C a) Cr.none).comes (toS C a)=true:=by
 obtain⟨i,k,h3,h4,h5,h6,h7⟩:=end_may hm a h1 h2 true
 have e1:toC C a=i:=by unfold toC;rw[h7];simp
 have e2:toS C a=k:=by unfold toS;rw[h7];simp
 rw[e1,e2]
 exact⟨h7,h3,h4,h5,h6⟩
theorem nx_may {C:List Cr} {loops:Int} (hm:mayD C loops=true) (a:Nat) (h1:1<=a) (h2:a<=2*C.length):(C.getD (toC C a) Cr.none).arc ((toS C a+2)%4)=(nx C a:Int)/\1<=nx C a/\nx C a<=2*C.length:=by
 obtain⟨h3,h4,h5,h6,h7⟩:=to_may hm a h1 h2
 have hf:=may_fit hm (toC C a) ((toS C a+2)%4) h4 (by omega)
 have g1:=hf.1
 have g2:=hf.2.1
 unfold nx
 omega
theorem toS_over {C:List Cr} {loops:Int} (hm:mayD C loops=true) (a:Nat) (h1:1<=a) (h2:a<=2*C.length):(toS C a=0/\toS C a%2=0)∨(toS C a≠0/\toS C a%2=1):=by
 obtain⟨h3,h4,h5,h6,h7⟩:=to_may hm a h1 h2
 generalize toS C a=k at h5 h7
 have hk4:k=0∨k=1∨k=2∨k=3:=by omega
 rcases hk4 with rfl|rfl|rfl|rfl
 · exact Or.inl ⟨rfl,rfl⟩
 · exact Or.inr ⟨by omega,rfl⟩
 · simp[Cr.comes]at h7
 · exact Or.inr ⟨by omega,rfl⟩
def walkF (f:Nat->Nat):Nat->List Bool->Nat->List Nat->List Nat×List Bool
 |0,seen,_,acc=>(acc,seen)
 |m+1,seen,x,acc=>if seen.getD x true=true then(acc,seen) else walkF f m (seen.set x true) (f x) (acc++[x])
def unseen (l:List Bool):Nat:=l.countP (fun b=>!b)
theorem unseen_set {l:List Bool} {x:Nat} (h:l.getD x true=false):unseen (l.set x true)+1=unseen l:=by
 induction l generalizing x with
 |nil=>simp at h
 |cons b l ih=>
  cases x with
  |zero=>
   have:b=false:=by simpa using h
   subst this
   simp[unseen]
  |succ x=>
   have:=ih (x:=x) (by simpa using h)
   simp only[unseen,List.set_cons_succ,List.countP_cons]at this ⊢
   omega
theorem unseen_pos {l:List Bool} {x:Nat} (h:l.getD x true=false):0<unseen l:=by have:=unseen_set h;omega
theorem walkF_seen {f:Nat->Nat} {m:Nat} {seen:List Bool} {x:Nat} {acc:List Nat} (h:seen.getD x true=true):walkF f m seen x acc=(acc,seen):=by
 cases m with
 |zero=>rfl
 |succ m=>simp only[walkF];rw[if_pos h]
theorem walkF_more {f:Nat->Nat} {m:Nat} {seen:List Bool} {x:Nat} {acc:List Nat} (h:seen.getD x true=false) (hm:unseen seen<=m):walkF f m seen x acc=walkF f (m-1) (seen.set x true) (f x) (acc++[x])/\unseen (seen.set x true)<=m-1:=by
 have h2:=unseen_set h
 cases m with
 |zero=>omega
 |succ m=>
  simp only[walkF]
  rw[if_neg (by rw[h];decide)]
  exact⟨rfl,by omega⟩
def walksTo (f:Nat->Nat) (n:Nat):Nat->List (List Nat)×List Bool
 |0=>([],List.replicate (n+1) false)
 |a+1=>let r:=walksTo f n a;let s:=walkF f (n+1) r.2 (a+1) [];(if s.1=[] then r.1 else r.1++[s.1],s.2)
def walksM (C:List Cr):List (List Nat):=(walksTo (nx C) (2*C.length) (2*C.length)).1
theorem walkF_len (f:Nat->Nat) (m:Nat) (seen:List Bool) (x:Nat) (acc:List Nat):(walkF f m seen x acc).2.length=seen.length:=by
 induction m generalizing seen x acc with
 |zero=>rfl
 |succ m ih=>
  simp only[walkF]
  split
  · rfl
  · rw[ih];simp
theorem unseen_le (l:List Bool):unseen l<=l.length:=List.countP_le_length
theorem walksTo_len (f:Nat->Nat) (n a:Nat):(walksTo f n a).2.length=n+1:=by
 induction a with
 |zero=>simp[walksTo]
 |succ a ih=>simp only[walksTo];rw[walkF_len,ih]
theorem walkF_mem {f:Nat->Nat} {n:Nat} (hf:∀ a,1<=a->a<=n->1<=f a/\f a<=n) (m:Nat) (seen:List Bool) (x:Nat) (acc:List Nat) (h1:1<=x) (h2:x<=n) (ha:∀ y,y∈acc->1<=y/\y<=n):∀ y,y∈(walkF f m seen x acc).1->1<=y/\y<=n:=by
 induction m generalizing seen x acc with
 |zero=>exact ha
 |succ m ih=>
  simp only[walkF]
  split
  · exact ha
  · refine ih _ _ _ (hf x h1 h2).1 (hf x h1 h2).2 fun y hy=>?_
    rcases List.mem_append.1 hy with hy|hy
    · exact ha y hy
    · rw[List.mem_singleton.1 hy];exact⟨h1,h2⟩
theorem walkF_size (f:Nat->Nat) (m:Nat) (seen:List Bool) (x:Nat) (acc:List Nat):(walkF f m seen x acc).1.length+unseen (walkF f m seen x acc).2=acc.length+unseen seen:=by
 induction m generalizing seen x acc with
 |zero=>rfl
 |succ m ih=>
  simp only[walkF]
  split
  · rfl
  · next h=>
    have h':seen.getD x true=false:=by cases hb:seen.getD x true with
     |true=>exact absurd hb h
     |false=>rfl
    have:=unseen_set h'
    rw[ih]
    simp only[List.length_append,List.length_cons,List.length_nil]
    omega
theorem walksTo_mem {f:Nat->Nat} {n:Nat} (hf:∀ a,1<=a->a<=n->1<=f a/\f a<=n) (a:Nat) (ha:a<=n):∀ l,l∈(walksTo f n a).1->l≠[]/\l.length<=n+1/\∀ y,y∈l->1<=y/\y<=n:=by
 induction a with
 |zero=>intro l hl;simp[walksTo]at hl
 |succ a ih=>
  intro l hl
  simp only[walksTo]at hl
  split at hl
  · exact ih (by omega) l hl
  · next he=>
    rcases List.mem_append.1 hl with hl|hl
    · exact ih (by omega) l hl
    · rw[List.mem_singleton.1 hl]
      refine⟨he,?_,walkF_mem hf _ _ _ _ (by omega) ha fun y hy=>by cases hy⟩
      have h1:=walkF_size f (n+1) (walksTo f n a).2 (a+1) []
      have h2:=unseen_le (walksTo f n a).2
      rw[walksTo_len]at h2
      simp only[List.length_nil]at h1
      omega
theorem walksTo_count (f:Nat->Nat) (n a:Nat):(walksTo f n a).1.length<=a:=by
 induction a with
 |zero=>exact Nat.le_refl _
 |succ a ih=>
  simp only[walksTo]
  split
  · omega
  · simp only[List.length_append,List.length_cons,List.length_nil];omega
theorem nx_closed {C:List Cr} {loops:Int} (hm:mayD C loops=true):∀ a,1<=a->a<=2*C.length->1<=nx C a/\nx C a<=2*C.length:=fun a h1 h2=>(nx_may hm a h1 h2).2
def cp (x:Nat->Nat) (c r:Nat):Nat->Nat
 |0=>0
 |m+1=>cp x c r m+(if x m=c/\m%2=r then 1 else 0)
def un (l:List Bool) (y:Nat):Nat:=if l.getD y true=true then 0 else 1
theorem un_set_same {l:List Bool} {x:Nat}:un (l.set x true) x=0:=by
 unfold un
 rw[if_pos]
 rw[List.getD_eq_getElem?_getD]
 by_cases h:x<l.length
 · simp[h]
 · rw[List.getElem?_eq_none (by simp;omega)];rfl
theorem un_set_other {l:List Bool} {x y:Nat} (h:x≠y):un (l.set x true) y=un l y:=by
 unfold un
 rw[List.getD_eq_getElem?_getD,List.getD_eq_getElem?_getD,List.getElem?_set_ne h]
theorem walkF_count (f:Nat->Nat) (m:Nat) (seen:List Bool) (x:Nat) (acc:List Nat) (y:Nat):(walkF f m seen x acc).1.count y+un (walkF f m seen x acc).2 y=acc.count y+un seen y:=by
 induction m generalizing seen x acc with
 |zero=>rfl
 |succ m ih=>
  simp only[walkF]
  split
  · rfl
  · next h=>
    rw[ih,List.count_append]
    by_cases e:x=y
    · subst e
      have e1:un seen x=1:=by unfold un;rw[if_neg h]
      rw[un_set_same,e1]
      simp
    · rw[un_set_other e,List.count_cons_of_ne e]
      simp
theorem walkF_keep (f:Nat->Nat) (m:Nat) (seen:List Bool) (x:Nat) (acc:List Nat) (y:Nat) (h:un seen y=0):un (walkF f m seen x acc).2 y=0:=by
 induction m generalizing seen x acc with
 |zero=>exact h
 |succ m ih=>
  simp only[walkF]
  split
  · exact h
  · apply ih
    by_cases e:x=y
    · subst e;exact un_set_same
    · rw[un_set_other e];exact h
theorem walkF_first (f:Nat->Nat) (m:Nat) (seen:List Bool) (x:Nat) (acc:List Nat):un (walkF f (m+1) seen x acc).2 x=0:=by
 simp only[walkF]
 split
 · next h=>unfold un;rw[if_pos h]
 · exact walkF_keep f m _ _ _ x un_set_same
theorem walksTo_seen (f:Nat->Nat) (n a:Nat):∀ y,1<=y->y<=a->un (walksTo f n a).2 y=0:=by
 induction a with
 |zero=>intro y h1 h2;omega
 |succ a ih=>
  intro y h1 h2
  simp only[walksTo]
  by_cases e:y=a+1
  · subst e;exact walkF_first f n _ _ _
  · exact walkF_keep f (n+1) _ _ _ y (ih y h1 (by omega))
theorem walksTo_one (f:Nat->Nat) (n a y:Nat) (_h1:1<=y) (h2:y<=n):(walksTo f n a).1.flatten.count y+un (walksTo f n a).2 y=1:=by
 induction a with
 |zero=>
  have e:un (walksTo f n 0).2 y=1:=by
   have e2:(walksTo f n 0).2.getD y true=false:=by
    show(List.replicate (n+1) false).getD y true=false
    rw[List.getD_eq_getElem?_getD,List.getElem?_replicate,if_pos (by omega)]
    rfl
   unfold un
   rw[e2]
   rfl
  rw[e]
  rfl
 |succ a ih=>
  have hc:=walkF_count f (n+1) (walksTo f n a).2 (a+1) [] y
  simp only[walksTo]
  split
  · next he=>
    rw[he]at hc
    simp at hc
    omega
  · rw[List.flatten_append,List.count_append]
    simp at hc ⊢
    omega
theorem walks_once (f:Nat->Nat) (n y:Nat) (h1:1<=y) (h2:y<=n):(walksTo f n n).1.flatten.count y=1:=by
 have e1:=walksTo_one f n n y h1 h2
 have e2:=walksTo_seen f n n y h1 h2
 omega
end Go.Proofs.YtnemnpcbhfedcaaGreatDoor
/- Plain mathematics of the bracket: what a state ties, crossing by crossing; the rings with one arc cut. -/
namespace Go.Proofs.YtnemnpcbhfedcaaGreatDoor
def arN (C:List Cr) (k s:Nat):Nat:=((C.getD k Cr.none).arc s).toNat
def arQ (C:List Cr) (k s:Nat):Nat:=if k=0/\s=0 then 25 else arN C k s
def prS (ar:Nat->Nat->Nat) (s i:Nat):Nat×Nat:=
 if s / 2 ^ (i / 2)%2=1 then(if i%2=0 then(ar (i / 2) 0,ar (i / 2) 1) else(ar (i / 2) 2,ar (i / 2) 3))
 else(if i%2=0 then(ar (i / 2) 1,ar (i / 2) 2) else(ar (i / 2) 3,ar (i / 2) 0))
def in4 (ar:Nat->Nat->Nat) (v k:Nat):Nat:=(if ar k 0=v then 1 else 0)+(if ar k 1=v then 1 else 0)+(if ar k 2=v then 1 else 0)+(if ar k 3=v then 1 else 0)
def oc (ar:Nat->Nat->Nat) (v:Nat):Nat->Nat
 |0=>0
 |k+1=>oc ar v k+in4 ar v k
theorem pr_lo (ar:Nat->Nat->Nat) (s k:Nat):prS ar s (2*k)=if s / 2 ^ k%2=1 then(ar k 0,ar k 1) else(ar k 1,ar k 2):=by
 unfold prS
 rw[show 2*k / 2=k by omega,show 2*k%2=0 by omega];rfl
theorem pr_hi (ar:Nat->Nat->Nat) (s k:Nat):prS ar s (2*k+1)=if s / 2 ^ k%2=1 then(ar k 2,ar k 3) else(ar k 3,ar k 0):=by
 unfold prS
 rw[show(2*k+1) / 2=k by omega,show(2*k+1)%2=1 by omega];rfl
theorem dg_oc (ar:Nat->Nat->Nat) (s v k:Nat):dgP (prS ar s) (2*k) v=oc ar v k:=by
 induction k with
 |zero=>rfl
 |succ k ih=>
  rw[show 2*(k+1)=2*k+1+1 by omega]
  show dgm (dgm (dgP (prS ar s) (2*k)) (prS ar s (2*k)).1 (prS ar s (2*k)).2) (prS ar s (2*k+1)).1 (prS ar s (2*k+1)).2 v=oc ar v k+in4 ar v k
  unfold dgm in4
  rw[ih,pr_lo,pr_hi]
  by_cases h:s / 2 ^ k%2=1
  · simp only[if_pos h];omega
  · simp only[if_neg h];omega
theorem in4_sides {C:List Cr} {k v:Nat} (hf:∀ s,s<4->1<=(C.getD k Cr.none).arc s):in4 (arN C) v k=sideIn (C.getD k Cr.none) v 4+sideOut (C.getD k Cr.none) v 4:=by
 have e:∀ s,s<4->(if arN C k s=v then 1 else 0)=(if(C.getD k Cr.none).arc s=(v:Int)/\(C.getD k Cr.none).comes s=true then 1 else 0)+(if(C.getD k Cr.none).arc s=(v:Int)/\(C.getD k Cr.none).comes s=false then 1 else 0):=by
  intro s hs
  have h1:=hf s hs
  unfold arN
  by_cases h:((C.getD k Cr.none).arc s).toNat=v
  · have h2:(C.getD k Cr.none).arc s=(v:Int):=by omega
    rw[if_pos h]
    cases hc:(C.getD k Cr.none).comes s
    · rw[if_neg (fun e=>by simp at e),if_pos ⟨h2,rfl⟩]
    · rw[if_pos ⟨h2,rfl⟩,if_neg (fun e=>by simp at e)]
  · have h2:¬ (C.getD k Cr.none).arc s=(v:Int):=by omega
    rw[if_neg h,if_neg (fun e=>h2 e.1),if_neg (fun e=>h2 e.1)]
 unfold in4
 rw[e 0 (by omega),e 1 (by omega),e 2 (by omega),e 3 (by omega)]
 have i4:sideIn (C.getD k Cr.none) v 4=0+(if(C.getD k Cr.none).arc 0=(v:Int)/\(C.getD k Cr.none).comes 0=true then 1 else 0)+(if(C.getD k Cr.none).arc 1=(v:Int)/\(C.getD k Cr.none).comes 1=true then 1 else 0)+(if(C.getD k Cr.none).arc 2=(v:Int)/\(C.getD k Cr.none).comes 2=true then 1 else 0)+(if(C.getD k Cr.none).arc 3=(v:Int)/\(C.getD k Cr.none).comes 3=true then 1 else 0):=rfl
 have o4:sideOut (C.getD k Cr.none) v 4=0+(if(C.getD k Cr.none).arc 0=(v:Int)/\(C.getD k Cr.none).comes 0=false then 1 else 0)+(if(C.getD k Cr.none).arc 1=(v:Int)/\(C.getD k Cr.none).comes 1=false then 1 else 0)+(if(C.getD k Cr.none).arc 2=(v:Int)/\(C.getD k Cr.none).comes 2=false then 1 else 0)+(if(C.getD k Cr.none).arc 3=(v:Int)/\(C.getD k Cr.none).comes 3=false then 1 else 0):=rfl
 rw[i4,o4]
 omega
theorem oc_in {C:List Cr} {v:Nat}:∀ k,(∀ i,i<k->∀ s,s<4->1<=(C.getD i Cr.none).arc s)->oc (arN C) v k=inTo C v k+outTo C v k
 |0,_=>rfl
 |k+1,h=>by
  show oc (arN C) v k+in4 (arN C) v k=(inTo C v k+sideIn _ v 4)+(outTo C v k+sideOut _ v 4)
  rw[oc_in k (fun i hi=>h i (by omega)),in4_sides (h k (by omega))];omega
theorem ar_range {C:List Cr} {loops:Int} (hm:mayD C loops=true) {k s:Nat} (hk:k<C.length) (hs:s<4):1<=(C.getD k Cr.none).arc s/\(C.getD k Cr.none).arc s<=2*C.length/\1<=arN C k s/\arN C k s<=2*C.length:=by
 have h:=may_fit hm k s hk hs
 have h1:=h.1
 have h2:=h.2.1
 unfold arN
 omega
theorem oc_two {C:List Cr} {loops:Int} (hm:mayD C loops=true) {v:Nat} (h1:1<=v) (h2:v<=2*C.length):oc (arN C) v C.length=2:=by
 rw[oc_in C.length (fun i hi s hs=>(ar_range hm hi hs).1)]
 have h:=hm
 unfold mayD at h
 rw[Bool.and_eq_true,List.all_eq_true]at h
 have h3:=h.2 (v-1) (List.mem_range.2 (by omega))
 rw[show v-1+1=v by omega]at h3
 unfold onceB at h3
 rw[Bool.and_eq_true,decide_eq_true_eq,decide_eq_true_eq]at h3
 omega
theorem oc_none {C:List Cr} {loops:Int} (hm:mayD C loops=true) {v:Nat} (h:v=0∨2*C.length<v):∀ k,k<=C.length->oc (arN C) v k=0
 |0,_=>rfl
 |k+1,hk=>by
  show oc (arN C) v k+in4 (arN C) v k=0
  rw[oc_none hm h k (by omega)]
  have a0:=ar_range hm (k:=k) (by omega) (s:=0) (by omega)
  have a1:=ar_range hm (k:=k) (by omega) (s:=1) (by omega)
  have a2:=ar_range hm (k:=k) (by omega) (s:=2) (by omega)
  have a3:=ar_range hm (k:=k) (by omega) (s:=3) (by omega)
  unfold in4
  rw[if_neg (by omega),if_neg (by omega),if_neg (by omega),if_neg (by omega)]
theorem oc_cut (C:List Cr) (v:Nat):∀ k,oc (arQ C) v (k+1)+(if arN C 0 0=v then 1 else 0)=oc (arN C) v (k+1)+(if 25=v then 1 else 0)
 |0=>by
  show 0+in4 (arQ C) v 0+_=0+in4 (arN C) v 0+_
  unfold in4
  rw[show arQ C 0 0=25 from rfl,show arQ C 0 1=arN C 0 1 from rfl,show arQ C 0 2=arN C 0 2 from rfl,show arQ C 0 3=arN C 0 3 from rfl]
  omega
 |k+1=>by
  have:=oc_cut C v k
  have e:in4 (arQ C) v (k+1)=in4 (arN C) v (k+1):=by
   unfold in4 arQ
   simp only[Nat.succ_ne_zero,false_and,if_false]
  show oc (arQ C) v (k+1)+in4 (arQ C) v (k+1)+_=oc (arN C) v (k+1)+in4 (arN C) v (k+1)+_
  rw[e];omega
theorem pr_cut {C:List Cr} {loops:Int} (hm:mayD C loops=true) (h12:C.length<=12) (s i:Nat) (hi:i<2*C.length):(prS (arN C) s i).1=sg (arN C 0 0) (prS (arQ C) s i).1/\(prS (arN C) s i).2=sg (arN C 0 0) (prS (arQ C) s i).2:=by
 have e:∀ k t,k<C.length->t<4->arN C k t=sg (arN C 0 0) (arQ C k t):=by
  intro k t hk ht
  have a:=ar_range hm hk ht
  unfold arQ sg
  by_cases h:k=0/\t=0
  · rw[if_pos h,if_pos rfl,h.1,h.2]
  · rw[if_neg h,if_neg (by omega)]
 unfold prS
 have hk:i / 2<C.length:=by omega
 split<;>split<;>exact⟨e _ _ hk (by omega),e _ _ hk (by omega)⟩
theorem pr_range {C:List Cr} {loops:Int} (hm:mayD C loops=true) (h12:C.length<=12) (s i:Nat) (hi:i<2*C.length):1<=(prS (arQ C) s i).1/\(prS (arQ C) s i).1<26/\1<=(prS (arQ C) s i).2/\(prS (arQ C) s i).2<26:=by
 have e:∀ k t,k<C.length->t<4->1<=arQ C k t/\arQ C k t<26:=by
  intro k t hk ht
  have a:=ar_range hm hk ht
  unfold arQ
  split<;>omega
 unfold prS
 have hk:i / 2<C.length:=by omega
 split<;>split<;>exact⟨(e _ _ hk (by omega)).1,(e _ _ hk (by omega)).2,(e _ _ hk (by omega)).1,(e _ _ hk (by omega)).2⟩
theorem oc_le {C:List Cr} {loops:Int} (hm:mayD C loops=true) (h12:C.length<=12) (h0:0<C.length) (v:Nat):oc (arQ C) v C.length<=2:=by
 obtain⟨n,hn⟩:∃ n,C.length=n+1:=⟨C.length - 1,by omega⟩
 have h:=oc_cut C v n
 rw[<-hn]at h
 have a:=ar_range hm h0 (s:=0) (by omega)
 by_cases hv:1<=v/\v<=2*C.length
 · rw[oc_two hm hv.1 hv.2,if_neg (by omega:¬ 25=v)]at h;omega
 · rw[oc_none hm (by omega) C.length (Nat.le_refl _)]at h
   split at h<;>split at h<;>omega
theorem tied_state {C:List Cr} {loops:Int} (hm:mayD C loops=true) (h12:C.length<=12) (h0:0<C.length) (s i:Nat) (hi:i<=2*C.length):Tied (tieP (prS (arQ C) s) i) (dgP (prS (arQ C) s) i) (labP (prS (arQ C) s) i)/\closP (prS (arQ C) s) i+joinP (prS (arQ C) s) i=i:=
 tied_all (fun i hi=>pr_range hm h12 s i hi) (fun v=>by rw[dg_oc];exact oc_le hm h12 h0 v) i hi
theorem rings_cut {C:List Cr} {loops:Int} (hm:mayD C loops=true) (h12:C.length<=12) (h0:0<C.length) (s:Nat):closP (prS (arQ C) s) (2*C.length)+1+joinP (prS (arN C) s) (2*C.length)=2*C.length:=by
 obtain⟨h1,h2⟩:=tied_state hm h12 h0 s (2*C.length) (Nat.le_refl _)
 have a:=ar_range hm h0 (s:=0) (by omega)
 obtain⟨-,h3⟩:=cut_join (P:=prS (arN C) s) (Q:=prS (arQ C) s) (m:=2*C.length) (A:=arN C 0 0) (by omega) (fun i hi=>pr_cut hm h12 s i hi) (2*C.length) (Nat.le_refl _)
 obtain⟨n,hn⟩:∃ n,C.length=n+1:=⟨C.length - 1,by omega⟩
 have hd:∀ v,dgP (prS (arQ C) s) (2*C.length) v+(if arN C 0 0=v then 1 else 0)=oc (arN C) v C.length+(if 25=v then 1 else 0):=by
  intro v;rw[dg_oc,hn];exact oc_cut C v n
 have dA:dgP (prS (arQ C) s) (2*C.length) (arN C 0 0)=1:=by
  have:=hd (arN C 0 0)
  rw[if_pos rfl,oc_two hm a.2.2.1 a.2.2.2,if_neg (by omega)]at this;omega
 obtain⟨o1,o2,o3,o4,o5⟩:=h1.one (arN C 0 0) a.2.2.1 (by omega) dA
 have hlt:=h1.lt (arN C 0 0)
 have e25:(tieP (prS (arQ C) s) (2*C.length)).getD (arN C 0 0) 0=25:=by
  generalize (tieP (prS (arQ C) s) (2*C.length)).getD (arN C 0 0) 0=u at*
  have:=hd u
  rw[o3,if_neg (Ne.symm o1)]at this
  by_cases hu:u<=2*C.length
  · rw[oc_two hm o2 hu]at this;omega
  · rw[oc_none hm (Or.inr (by omega)) C.length (Nat.le_refl _)]at this
    by_cases e:25=u
    · exact e.symm
    · rw[if_neg e]at this;omega
 rw[e25]at o5
 rw[if_pos o5]at h3
 omega
theorem bit_lo {k j s:Nat} (h:j<k):(2 ^ k+s) / 2 ^ j%2=s / 2 ^ j%2:=by
 have e:2 ^ k=2 ^ j*(2*2 ^ (k-j-1)):=by
  rw[<-Nat.mul_assoc,Nat.mul_comm (2 ^ j) 2,Nat.mul_assoc,<-Nat.pow_add,show j+(k-j-1)=k-1 by omega,<-Nat.pow_succ']
  congr 1;omega
 rw[e,Nat.mul_add_div (Nat.two_pow_pos j)];omega
theorem bit_hi {k s:Nat} (h:s<2 ^ k):(2 ^ k+s) / 2 ^ k%2=1:=by
 rw[show 2 ^ k+s=2 ^ k*1+s by omega,Nat.mul_add_div (Nat.two_pow_pos k),Nat.div_eq_of_lt h]
theorem bit_off {k s:Nat} (h:s<2 ^ k):s / 2 ^ k%2=0:=by rw[Nat.div_eq_of_lt h]
theorem pr_low (ar:Nat->Nat->Nat) {k s i:Nat} (hi:i<2*k):prS ar (2 ^ k+s) i=prS ar s i:=by
 unfold prS
 rw[bit_lo (by omega:i / 2<k)]
theorem tie_congr {P Q:Nat->Nat×Nat}:∀ i,(∀ j,j<i->P j=Q j)->tieP P i=tieP Q i/\closP P i=closP Q i/\labP P i=labP Q i/\joinP P i=joinP Q i
 |0,_=>⟨rfl,rfl,rfl,rfl⟩
 |i+1,h=>by
  obtain⟨e1,e2,e3,e4⟩:=tie_congr i fun j hj=>h j (by omega)
  have e:=h i (by omega)
  refine⟨?_,?_,?_,?_⟩
  · show tieT (tieP P i) _ _=tieT (tieP Q i) _ _;rw[e1,e]
  · show closP P i+tieN (tieP P i) _ _=closP Q i+tieN (tieP Q i) _ _;rw[e1,e2,e]
  · show lab (labP P i) _ _=lab (labP Q i) _ _;rw[e3,e]
  · show joinP P i+(if labP P i _=labP P i _ then 0 else 1)=joinP Q i+(if labP Q i _=labP Q i _ then 0 else 1);rw[e3,e4,e]
end Go.Proofs.YtnemnpcbhfedcaaGreatDoor

/- Several texts of the proof, one behind the other. -/
import Derived.Test.YtagaajlbkfkaiaaRows
import Derived.WalkKit
import Derived.WalkSpells
import Derived.WalkLawsBesides
import Derived.Deep.QuietTactic
import Derived.BigQuiet
import Derived.Deep.RegionWith
import Derived.Deep.RegionHeld3
import Derived.Laws.AppendOwnNone
import Derived.OwnWalk
import Derived.Lib.Hide
import Derived.Laws.StructEq
/- What is said of worlds, rows and lists of pairs without naming the program. -/
namespace Go.Proofs.Ytagaajlbkfkaiaa
open Go.RowKit
theorem bcell {B:Nat} {W w1:World} (hb:Below B W w1) {b o:Nat} {v:Option Value} (h:b<B) (hc:W.cell? ⟨b,o,none⟩=v):w1.cell? ⟨b,o,none⟩=v:=by
 rw[<-hc];exact hb.cell (p:=⟨b,o,none⟩) h
theorem below_drewN {B:Nat} {w w1:World} (h:Below B w w1):∀ n,Below B w (w1.drewN n):=fun n=>by
 induction n with
 |zero=>exact h
 |succ n ih=>exact ih.drew
theorem QX8 {a b:Bool} (h:b=a):Ending.returned (.bool a)=.returned (.bool b):=by rw[h]
/-- The cells of the terms l, from address ⟨b, off⟩ on. -/
def TermsAt (w:World) (b off:Nat) (l:List (Int×Int)):Prop:=
 ∀ i,i<l.length->w.cell? ⟨b,off+i*2,none⟩=some (.int .i64 (l.getD i (0,0)).1)/\w.cell? ⟨b,off+i*2+1,none⟩=some (.int .i64 (l.getD i (0,0)).2)
theorem TermsAt.on {B:Nat} {W w1:World} {b off:Nat} {l:List (Int×Int)} (h:TermsAt W b off l) (hb:Below B W w1) (hlt:b<B):TermsAt w1 b off l:=
 fun i hi=>⟨bcell hb hlt (h i hi).1,bcell hb hlt (h i hi).2⟩
/-- The terms as cells, one behind the other. -/
def flat (l:List (Int×Int)):List Value:=l.flatMap fun t=>[.int .i64 t.1,.int .i64 t.2]
theorem flat_length (l:List (Int×Int)):(flat l).length=l.length*2:=by
 induction l with
 |nil=>rfl
 |cons t l ih=>simp[flat]at *;omega
theorem flat_get (l:List (Int×Int)) (i:Nat) (hi:i<l.length):
    (flat l)[i*2]?=some (.int .i64 (l.getD i (0,0)).1)/\(flat l)[i*2+1]?=some (.int .i64 (l.getD i (0,0)).2):=by
 induction l generalizing i with
 |nil=>simp at hi
 |cons t l ih=>
  cases i with
  |zero=>simp[flat]
  |succ i=>
   have:=ih i (by simpa using hi)
   simp only[flat,List.flatMap_cons]at this ⊢
   rw[List.getElem?_append_right (by simp;omega),List.getElem?_append_right (by simp;omega)]
   simpa[show(i+1)*2-2=i*2 by omega,show(i+1)*2+1-2=i*2+1 by omega] using this
theorem QQ5 {w w':World} (h:Below w.heap.size w w') (row:Option Nat):w.grownBy w' row:=⟨h.os,h.tape,h.output,h.size,fun k hk _=>h.block k hk⟩
/-- The slice v holds these values, a cell each, in blocks below B. -/
def Slots (w:World) (B:Nat) (v:Value) (xs:List Value):Prop:=
 ∃ a cap,v=.slice a xs.length cap/\(0<xs.length->∃ b off,a=some ⟨b,off,none⟩/\b<B/\∀ i,i<xs.length->w.cell? ⟨b,off+i,none⟩=some (xs.getD i (.bool false)))
theorem Slots.on {w w':World} {B:Nat} {v:Value} {xs:List Value} (h:Slots w B v xs) (hb:Below B w w'):Slots w' B v xs:=by
 obtain⟨a,cap,rfl,g⟩:=h
 refine⟨a,cap,rfl,fun h0=>?_⟩
 obtain⟨b,off,rfl,hlt,hc⟩:=g h0
 exact⟨b,off,rfl,hlt,fun i hi=>bcell hb hlt (hc i hi)⟩
theorem Slots.mono {w:World} {B B':Nat} {v:Value} {xs:List Value} (h:Slots w B v xs) (hB:B<=B'):Slots w B' v xs:=by
 obtain⟨a,cap,rfl,g⟩:=h
 refine⟨a,cap,rfl,fun h0=>?_⟩
 obtain⟨b,off,rfl,hlt,hc⟩:=g h0
 exact⟨b,off,rfl,Nat.lt_of_lt_of_le hlt hB,hc⟩
theorem QW6 {w:World} {B e n:Nat} {v:Value} {xs:List Value} (h:w.ownsRow B e 1 v n xs):Slots w w.heap.size v xs:=by
 have hl:xs.length=n:=by simpa using h.1
 rcases h.2 with⟨rfl,h0⟩|⟨g,cap,cur,rfl,_,hg,_,_,_,_⟩
 · refine⟨none,0,by rw[hl,h0],fun hp=>by omega⟩
 · refine⟨some ⟨g,0,none⟩,cap,by rw[hl],fun _=>⟨g,0,rfl,(h.lt g rfl).2,fun i hi=>?_⟩⟩
   rw[Nat.zero_add,h.cellAt i (by omega),List.getD,List.getElem?_eq_getElem hi]
   rfl
theorem QX4 {w:World} {B B' e s n:Nat} {v:Value} {xs:List Value} (h:w.ownsRow B e s v n xs) (hB:B'<=B):w.ownsRow B' e s v n xs:=by
 refine⟨h.1,?_⟩
 rcases h.2 with h1|⟨g,cap,cur,h1,h2,h3⟩
 · exact Or.inl h1
 · exact Or.inr ⟨g,cap,cur,h1,Nat.le_trans hB h2,h3⟩
/-- Rows of different element types lie in different blocks. -/
theorem own_ne {w:World} {B B' e e' s s' n n':Nat} {v v':Value} {xs xs':List Value} (h:w.ownsRow B e s v n xs) (h':w.ownsRow B' e' s' v' n' xs') (he:e≠e'):v.ownBlock=none∨v.ownBlock≠v'.ownBlock:=by
 rcases h.2 with⟨rfl,_⟩|⟨g,cap,cur,rfl,_,hg,_⟩
 · exact Or.inl rfl
 · right
   rcases h'.2 with⟨rfl,_⟩|⟨g',cap',cur',rfl,_,hg',_⟩
   · simp[Value.ownBlock]
   · simp only[Value.ownBlock]
     intro e0
     have e1:=Option.some.inj e0
     subst e1
     rw[hg]at hg'
     injection hg' with h1
     injection h1 with h2 h3
     exact he h3
theorem new_cell1 (W:World) (x:Value) (e:TypeId):∀ j u,[x][j]?=some u->(W.alloc (.cells #[x] e)).cell? ((⟨W.heap.size,0,none⟩:Addr).add j)=some u:=by
 intro j u hj
 rw[Addr.add_lit,Nat.zero_add]
 have hh:(W.alloc (.cells #[x] e)).heap[W.heap.size]?=some (.cells #[x] e (0,0)):=Array.getElem?_push_size
 match j,hj with
 |0,hj=>simp at hj;subst hj;unfold World.cell?;rw[hh];rfl
theorem QX5 {w:World} {B e s n:Nat} {v:Value} {xs:List Value} (h:w.ownsRow B e s v n xs):∃ a c,v=.slice a n c:=by
 rcases h.2 with⟨rfl,h0⟩|⟨g,cap,cur,rfl,_,_,h1,h2,_⟩
 · exact⟨none,0,by rw[h0]⟩
 · exact⟨_,_,rfl⟩
theorem own_oneS {w:World} {B e s n:Nat} {v:Value} {xs:List Value} (h:w.ownsRow B e s v n xs):∀ u∈[v],u.oneCell'=true:=by
 obtain⟨a,c,rfl⟩:=QX5 h
 intro u hu
 simp only[List.mem_singleton]at hu
 subst hu
 rfl
theorem QX0 {w w':World} {B e s n:Nat} {v:Value} {xs:List Value} (h:w.ownsRow B e s v n xs) (hg:w.grownBy w' none):w'.ownsRow B e s v n xs:=
 h.kept hg (by cases v.ownBlock with|none=>exact Or.inl rfl|some q=>exact Or.inr (by simp))
theorem getD_left (zs:List Value) (x:Value) (i:Nat) (h:i<zs.length):(zs++[x]).getD i (.bool false)=zs.getD i (.bool false):=by simp[List.getD,List.getElem?_append_left h]
theorem getD_last (zs:List Value) (x:Value):(zs++[x]).getD zs.length (.bool false)=x:=by simp[List.getD]
/-- Another coefficient at place i. -/
def setC (l:List (Int×Int)) (i:Nat) (c:Int):List (Int×Int):=l.set i ((l.getD i (0,0)).1,c)
theorem flat_setC (l:List (Int×Int)) (i:Nat) (c:Int) (hi:i<l.length):(flat l).set (i*2+1) (.int .i64 c)=flat (setC l i c):=by
 induction l generalizing i with
 |nil=>simp at hi
 |cons t l ih=>
  have e:flat (t::l)=.int .i64 t.1::.int .i64 t.2::flat l:=rfl
  cases i with
  |zero=>
   have e2:setC (t::l) 0 c=(t.1,c)::l:=rfl
   rw[e,e2]
   rfl
  |succ i=>
   have e2:setC (t::l) (i+1) c=t::setC l i c:=rfl
   have e3:flat (t::setC l i c)=.int .i64 t.1::.int .i64 t.2::flat (setC l i c):=rfl
   rw[e,e2,e3,show(i+1)*2+1=i*2+1+1+1 by omega,List.set_cons_succ,List.set_cons_succ,ih i (by simpa using hi)]
theorem flat_cellC (l:List (Int×Int)) (i:Nat) (hi:i<l.length):(flat l)[i*2+1]?=some (.int .i64 (l.getD i (0,0)).2):=by
 induction l generalizing i with
 |nil=>simp at hi
 |cons t l ih=>
  have e:flat (t::l)=.int .i64 t.1::.int .i64 t.2::flat l:=rfl
  cases i with
  |zero=>rw[e];rfl
  |succ i=>
   have:=ih i (by simpa using hi)
   rw[e,show(i+1)*2+1=i*2+1+1+1 by omega,List.getElem?_cons_succ,List.getElem?_cons_succ,this]
   rfl
/-- Another first number at place i. -/
def setE (l:List (Int×Int)) (i:Nat) (e:Int):List (Int×Int):=l.set i (e,(l.getD i (0,0)).2)
theorem setE_length (l:List (Int×Int)) (i:Nat) (c:Int):(setE l i c).length=l.length:=by simp[setE]
theorem flat_setE (l:List (Int×Int)) (i:Nat) (c:Int) (hi:i<l.length):(flat l).set (i*2) (.int .i64 c)=flat (setE l i c):=by
 induction l generalizing i with
 |nil=>simp at hi
 |cons t l ih=>
  have e:flat (t::l)=.int .i64 t.1::.int .i64 t.2::flat l:=rfl
  cases i with
  |zero=>
   have e2:setE (t::l) 0 c=(c,t.2)::l:=rfl
   rw[e,e2]
   rfl
  |succ i=>
   have e2:setE (t::l) (i+1) c=t::setE l i c:=rfl
   have e3:flat (t::setE l i c)=.int .i64 t.1::.int .i64 t.2::flat (setE l i c):=rfl
   rw[e,e2,e3,show(i+1)*2=i*2+1+1 by omega,List.set_cons_succ,List.set_cons_succ,ih i (by simpa using hi)]
theorem flat_cellE (l:List (Int×Int)) (i:Nat) (hi:i<l.length):(flat l)[i*2]?=some (.int .i64 (l.getD i (0,0)).1):=by
 induction l generalizing i with
 |nil=>simp at hi
 |cons t l ih=>
  have e:flat (t::l)=.int .i64 t.1::.int .i64 t.2::flat l:=rfl
  cases i with
  |zero=>rw[e];rfl
  |succ i=>
   have:=ih i (by simpa using hi)
   rw[e,show(i+1)*2=i*2+1+1 by omega,List.getElem?_cons_succ,List.getElem?_cons_succ,this]
   rfl
theorem flat_zeros (n:Nat):(madeCells #[Value.int .i64 0,.int .i64 0] (n*2)).toList=flat (List.replicate n (0,0)):=by
 apply List.ext_getElem?
 intro j
 by_cases hj:j<n*2
 · have hlen:(flat (List.replicate n ((0:Int),(0:Int)))).length=n*2:=by rw[flat_length];simp
   have h1:∀ (m k:Nat),k<m*2->(flat (List.replicate m ((0:Int),(0:Int))))[k]?=some (.int .i64 0):=by
    intro m
    induction m with
    |zero=>intro k hk;omega
    |succ m ih=>
     intro k hk
     have e:flat (List.replicate (m+1) ((0:Int),(0:Int)))=.int .i64 0::.int .i64 0::flat (List.replicate m ((0:Int),(0:Int))):=rfl
     rw[e]
     match k with
     |0=>rfl
     |1=>rfl
     |k+2=>
      rw[List.getElem?_cons_succ,List.getElem?_cons_succ]
      exact ih k (by omega)
   rw[h1 n j hj]
   simp only[madeCells]
   rcases Nat.mod_two_eq_zero_or_one j with h|h<;>simp[hj,h]
 · rw[List.getElem?_eq_none (by simp[madeCells];omega),List.getElem?_eq_none (by rw[flat_length];simp;omega)]
/-- What the loop has done behind i spots. -/
def unkTo (n i:Nat):List (Int×Int):=List.replicate i (-1,0)++List.replicate (n-i) (0,0)
theorem unk_next (n i:Nat) (h:i<n):setE (unkTo n i) i (-1)=unkTo n (i+1):=by
 obtain⟨m,hm⟩:∃ m,n - i=m+1:=⟨n - i - 1,by omega⟩
 have hm2:n-(i+1)=m:=by omega
 unfold setE unkTo
 rw[hm,hm2,List.replicate_succ,List.replicate_succ' (n:=i)]
 have hg:(List.replicate i ((-1:Int),(0:Int))++(0,0)::List.replicate m (0,0)).getD i (0,0)=(0,0):=by simp[List.getD]
 rw[hg,List.set_append_right _ _ (by simp)]
 simp
theorem hidB {P:Prop} (h:P):Go.RowKit.Hid P:=h
end Go.Proofs.Ytagaajlbkfkaiaa
/- Diagrams in a world; the walks of ref.ArcAt, ref.Entry, drawing.Arcs and drawing.ComesIn. -/
namespace Go.Proofs.Ytagaajlbkfkaiaa
open Go.RowKit
set_option maxHeartbeats 1000000
set_option maxRecDepth 100000
structure Cr where
 a:Int
 b:Int
 c:Int
 d:Int
 plus:Bool
def Cr.none:Cr:=⟨0,0,0,0,false⟩
def Cr.arc (x:Cr) (k:Nat):Int:=if k=0 then x.a else if k=1 then x.b else if k=2 then x.c else x.d
def Cr.comes (x:Cr) (k:Nat):Bool:=k==0||(k==1&&!x.plus)||(k==3&&x.plus)
def CrossAt (w:World) (b off:Nat) (C:List Cr):Prop:=∀ i,i<C.length->
 w.cell? ⟨b,off+i*5,none⟩=some (.int .i64 (C.getD i Cr.none).a)/\w.cell? ⟨b,off+i*5+1,none⟩=some (.int .i64 (C.getD i Cr.none).b)/\w.cell? ⟨b,off+i*5+2,none⟩=some (.int .i64 (C.getD i Cr.none).c)/\
 w.cell? ⟨b,off+i*5+3,none⟩=some (.int .i64 (C.getD i Cr.none).d)/\w.cell? ⟨b,off+i*5+4,none⟩=some (.bool (C.getD i Cr.none).plus)
theorem CrossAt.on {w w':World} {B b off:Nat} {C:List Cr} (h:CrossAt w b off C) (hb:Below B w w') (hlt:b<B):CrossAt w' b off C:=fun i hi=>
 ⟨bcell hb hlt (h i hi).1,bcell hb hlt (h i hi).2.1,bcell hb hlt (h i hi).2.2.1,bcell hb hlt (h i hi).2.2.2.1,bcell hb hlt (h i hi).2.2.2.2⟩
theorem QJ3 (w:World) (o1 o2:Obj):Below w.heap.size w ((w.alloc o1).alloc o2):=((Below.refl _ _).alloc (Nat.le_refl _) _).alloc (by simp) _
theorem QV1 (w:World) (o1 o2 o3:Obj):Below w.heap.size w (((w.alloc o1).alloc o2).alloc o3):=(QJ3 w o1 o2).alloc (by simp;omega) _
theorem comesIn_any (x:Cr) (k:Nat) (w:World) (hk:k<4):
    Calls Try.prog 76 #[.agg #[.int .i64 x.a,.int .i64 x.b,.int .i64 x.c,.int .i64 x.d,.bool x.plus],.int .i64 k] w fun e w'=>e=.returned (.bool (x.comes k))/\Below w.heap.size w w':=by
 obtain⟨xa,xb,xc,xd,xp⟩:=x
 have hk4:k=0∨k=1∨k=2∨k=3:=by omega
 rcases hk4 with rfl|rfl|rfl|rfl
 · go_enter Try.func76,Try.ntmps76
   go_wp2
   go_ret
   exact⟨rfl,(Below.refl _ _).alloc (Nat.le_refl _) _⟩
 · cases xp
   · go_enter Try.func76,Try.ntmps76
     go_wp2
     go_ret
     exact⟨rfl,(Below.refl _ _).alloc (Nat.le_refl _) _⟩
   · go_enter Try.func76,Try.ntmps76
     go_wp2
     go_ret
     exact⟨rfl,(Below.refl _ _).alloc (Nat.le_refl _) _⟩
 · go_enter Try.func76,Try.ntmps76
   go_wp2
   go_ret
   exact⟨rfl,(Below.refl _ _).alloc (Nat.le_refl _) _⟩
 · cases xp
   · go_enter Try.func76,Try.ntmps76
     go_wp2
     go_ret
     exact⟨rfl,(Below.refl _ _).alloc (Nat.le_refl _) _⟩
   · go_enter Try.func76,Try.ntmps76
     go_wp2
     go_ret
     exact⟨rfl,(Below.refl _ _).alloc (Nat.le_refl _) _⟩
theorem arcs_any (x:Cr) (w:World):
    Calls Try.prog 75 #[.agg #[.int .i64 x.a,.int .i64 x.b,.int .i64 x.c,.int .i64 x.d,.bool x.plus]] w fun e w'=>e=.returned (.agg #[.int .i64 x.a,.int .i64 x.b,.int .i64 x.c,.int .i64 x.d])/\Below w.heap.size w w':=by
 go_enter Try.func75,Try.ntmps75
 go_wp2
 exact bodyPost_ret (v:=.agg #[.int .i64 x.a,.int .i64 x.b,.int .i64 x.c,.int .i64 x.d]) (by simp[results,Try.results75,go_sem]) rfl ⟨rfl,QJ3 _ _ _⟩
end Go.Proofs.Ytagaajlbkfkaiaa
/- The walk of ref.DiagramMay: which diagrams may be, by counting. -/
namespace Go.Proofs.Ytagaajlbkfkaiaa
open Go.RowKit
def sideIn (x:Cr) (a:Int):Nat->Nat
 |0=>0
 |k+1=>sideIn x a k+(if x.arc k=a/\x.comes k=true then 1 else 0)
def sideOut (x:Cr) (a:Int):Nat->Nat
 |0=>0
 |k+1=>sideOut x a k+(if x.arc k=a/\x.comes k=false then 1 else 0)
def inTo (C:List Cr) (a:Int):Nat->Nat
 |0=>0
 |i+1=>inTo C a i+sideIn (C.getD i Cr.none) a 4
def outTo (C:List Cr) (a:Int):Nat->Nat
 |0=>0
 |i+1=>outTo C a i+sideOut (C.getD i Cr.none) a 4
def onceB (C:List Cr) (a:Nat):Bool:=decide (inTo C a C.length=1)&&decide (outTo C a C.length=1)
def sizeB (C:List Cr) (loops:Int):Bool:=decide (C.length<=16)&&decide (0<=loops)&&decide (loops<=16)&&!(decide (C.length=0)&&decide (loops=0))
def mayD (C:List Cr) (loops:Int):Bool:=sizeB C loops&&(List.range (2*C.length)).all fun j=>onceB C (j+1)
theorem mayD_no {C:List Cr} {loops:Int} {a:Nat} (h0:1<=a) (h1:a<=2*C.length) (h:onceB C a=false):mayD C loops=false:=by
 cases hm:mayD C loops with
 |false=>rfl
 |true=>
  simp only[mayD,Bool.and_eq_true,List.all_eq_true,List.mem_range]at hm
  have:=hm.2 (a-1) (by omega)
  rw[show a-1+1=a by omega,h]at this
  cases this
theorem mayD_yes {C:List Cr} {loops:Int} (hs:sizeB C loops=true) (h:∀ a:Nat,1<=a->a<=2*C.length->onceB C a=true):mayD C loops=true:=by
 simp only[mayD,Bool.and_eq_true,List.all_eq_true,List.mem_range]
 exact⟨hs,fun j hj=>h (j+1) (by omega) (by omega)⟩
theorem mayD_size {C:List Cr} {loops:Int} (hs:sizeB C loops=false):mayD C loops=false:=by
 simp[mayD,hs]
def Crs (w:World) (B:Nat) (v:Value) (C:List Cr):Prop:=∃ a cap,v=.slice a C.length cap/\C.length<=maxLen/\(0<C.length->∃ b off,a=some ⟨b,off,none⟩/\b<B/\CrossAt w b off C)
end Go.Proofs.Ytagaajlbkfkaiaa
/- The walk of ref.DiagramMay where crossings and loops are not too many. -/
namespace Go.Proofs.Ytagaajlbkfkaiaa
open Go.RowKit
theorem QZ2 {C:List Cr} {loops:Int} (h:sizeB C loops=true):C.length<=16/\0<=loops/\loops<=16/\¬(C.length=0/\loops=0):=by
 simp only[sizeB,Bool.and_eq_true,decide_eq_true_eq,Bool.not_eq_true',Bool.and_eq_false_iff,decide_eq_false_iff_not]at h
 omega
end Go.Proofs.Ytagaajlbkfkaiaa
/- The walk of ref.DiagramMay at whatever diagram; the walk of drawing.unknown. -/
namespace Go.Proofs.Ytagaajlbkfkaiaa
open Go.RowKit
set_option maxHeartbeats 2000000
set_option maxRecDepth 100000
theorem infoSpot:(Try.prog.info? 120).map (fun i=>(i.zero,i.size,i.bytes))=some (some (.agg #[.int .i64 0,.int .i64 0]),2,16):=by kernel_rfl
theorem unknown_any (n:Nat) (w:World) (hn:n<=40):
    Calls Try.prog 74 #[.int .i64 n] w fun e w'=>∃ v,e=.returned v/\w'.ownsRow w.heap.size 120 2 v n (flat (List.replicate n (-1,0)))/\Below w.heap.size w w':=by
 obtain⟨i0,hi,hz0,hz1,hz2⟩:=info_parts infoSpot
 go_enter Try.func74,Try.ntmps74
 go_wp2_with (first|(at_make;refine wpList_make_full _ rfl _ _ 59 rfl w.heap.size 120 i0 (.agg #[.int .i64 0,.int .i64 0]) 2 Try.underlying59 hi hz0 hz1 .i64 .i64 _ _ n rfl rfl rfl rfl (by rw[hz2];omega) (by unfold maxLen;omega) (Nat.le_refl _) ?_;intro w1 hrow hg1;refine Hid.out ?_))
 refine Lib.hid ?_
 have hz:(madeCells (Value.agg #[.int .i64 0,.int .i64 0]).cells (n*2)).toList=flat (unkTo n 0):=by
  have e:(Value.agg #[.int .i64 0,.int .i64 0]).cells=#[Value.int .i64 0,.int .i64 0]:=rfl
  rw[e,flat_zeros]
  simp[unkTo]
 rw[hz]at hrow
 have HB1:Hid (Below w.heap.size w w1):=(Below.refl _ _).grown hg1 (Nat.le_refl _) (fun j hj=>by cases hj)
 clear hz hg1
 go_wp2
 go_loopw [9] (fun v9 wr=>∃ i:Nat,i<=n/\v9=.int .i64 i/\wr.ownsRow w.heap.size 120 2 (.slice (some ⟨w.heap.size,0,none⟩) n n) n (flat (unkTo n i))/\Below w.heap.size w wr) (fun v9 _=>n-(intOf v9).toNat)
 case atStart=>exact⟨0,Nat.zero_le _,rfl,hrow,HB1.out⟩
 case round=>
  clear hrow
  obtain⟨i,hin,rfl,hown,hb⟩:=hrel
  have hlow:=(hown.lt w.heap.size rfl).2
  by_cases hil:i<n
  · have hul:(unkTo n i).length=n:=by simp[unkTo];omega
    have f0:=hown.frozenAt (i*2)
    have c0:wr.cell? ⟨w.heap.size,i*2,none⟩=some (.int .i64 ((unkTo n i).getD i (0,0)).1):=by rw[hown.cellAt (i*2) (by omega)];exact flat_cellE _ i (by omega)
    have hst:=hown.stored (i*2) (.int .i64 (-1))
    rw[flat_setE _ i (-1) (by omega),unk_next n i hil]at hst
    have HST:Hid ((wr.setCell ⟨w.heap.size,i*2,none⟩ (.int .i64 (-1))).ownsRow w.heap.size 120 2 (.slice (some ⟨w.heap.size,0,none⟩) n n) n (flat (unkTo n (i+1)))):=hst.1
    have HBB:Hid (Below w.heap.size w (wr.setCell ⟨w.heap.size,i*2,none⟩ (.int .i64 (-1)))):=hb.grown hst.2 hb.size (fun j hj=>by cases hj;exact Nat.le_refl _)
    generalize ((unkTo n i).getD i (0,0)).1=u at c0
    clear hst hown
    go_wp2
    go_roundw
    case rel=>exact⟨i+1,by omega,by go_num,HST.out,HBB.out⟩
    case measure=>simp only[intOf];omega
  · obtain rfl:i=n:=by omega
    go_wp2
    go_ret
    exact ⟨_, rfl, by have e : unkTo i i = List.replicate i (-1, 0) := by simp [unkTo]
                      rw[<-e];exact hown,hb⟩
end Go.Proofs.Ytagaajlbkfkaiaa
/- A diagram may be just if no arc stands twice where strands come in, nor where they go out, and none is out of range. Plain mathematics: no program is named here. -/
namespace Go.Proofs.Ytagaajlbkfkaiaa
def sd (x:Cr) (a:Int) (p:Bool):Nat->Nat
 |0=>0
 |k+1=>sd x a p k+(if x.arc k=a/\x.comes k=p then 1 else 0)
def sdTo (C:List Cr) (a:Int) (p:Bool):Nat->Nat
 |0=>0
 |i+1=>sdTo C a p i+sd (C.getD i Cr.none) a p 4
theorem sd_in (x:Cr) (a:Int) (k:Nat):sd x a true k=sideIn x a k:=by
 induction k with
 |zero=>rfl
 |succ k ih=>simp only[sd,sideIn,ih]
theorem sd_out (x:Cr) (a:Int) (k:Nat):sd x a false k=sideOut x a k:=by
 induction k with
 |zero=>rfl
 |succ k ih=>simp only[sd,sideOut,ih]
theorem sdTo_in (C:List Cr) (a:Int) (i:Nat):sdTo C a true i=inTo C a i:=by
 induction i with
 |zero=>rfl
 |succ i ih=>simp only[sdTo,inTo,ih,sd_in]
theorem sdTo_out (C:List Cr) (a:Int) (i:Nat):sdTo C a false i=outTo C a i:=by
 induction i with
 |zero=>rfl
 |succ i ih=>simp only[sdTo,outTo,ih,sd_out]
def sumA (f:Nat->Nat):Nat->Nat
 |0=>0
 |m+1=>sumA f m+f (m+1)
theorem sumA_add (f g:Nat->Nat) (m:Nat):sumA (fun a=>f a+g a) m=sumA f m+sumA g m:=by
 induction m with
 |zero=>rfl
 |succ m ih=>simp only[sumA,ih];omega
theorem sumA_congr {f g:Nat->Nat} (m:Nat) (h:∀ a,1<=a->a<=m->f a=g a):sumA f m=sumA g m:=by
 induction m with
 |zero=>rfl
 |succ m ih=>simp only[sumA];rw[ih fun a h1 h2=>h a h1 (by omega),h (m+1) (by omega) (Nat.le_refl _)]
theorem sumA_zero (m:Nat):sumA (fun _=>0) m=0:=by
 induction m with
 |zero=>rfl
 |succ m ih=>simp only[sumA,ih]
theorem sumA_one (m:Nat):sumA (fun _=>1) m=m:=by
 induction m with
 |zero=>rfl
 |succ m ih=>simp only[sumA,ih]
theorem sumA_at (v:Int) (m:Nat):sumA (fun a=>if v=(a:Int) then 1 else 0) m=if 1<=v/\v<=m then 1 else 0:=by
 induction m with
 |zero=>simp only[sumA];rw[if_neg (by omega)]
 |succ m ih=>
  simp only[sumA,ih]
  by_cases h1:1<=v/\v<=m
  · rw[if_pos h1,if_neg (by omega),if_pos (by omega)]
  · rw[if_neg h1]
    by_cases h2:v=((m+1:Nat):Int)
    · rw[if_pos h2,if_pos (by omega)]
    · rw[if_neg h2,if_neg (by omega)]
theorem sumA_all {f:Nat->Nat} {m:Nat} (h1:∀ a,1<=a->a<=m->f a<=1) (hs:sumA f m=m):∀ a,1<=a->a<=m->f a=1:=by
 have hle:∀ k,k<=m->sumA f k<=k:=by
  intro k
  induction k with
  |zero=>intro _;exact Nat.le_refl _
  |succ k ih=>
   intro hk
   have:=ih (by omega)
   have:=h1 (k+1) (by omega) hk
   simp only[sumA]
   omega
 induction m with
 |zero=>intro a h2 h3;omega
 |succ m ih=>
  have hm:=hle m (by omega)
  have hl:=h1 (m+1) (by omega) (Nat.le_refl _)
  simp only[sumA]at hs
  intro a h2 h3
  by_cases e:a=m+1
  · rw[e];omega
  · exact ih (fun b hb1 hb2=>h1 b hb1 (by omega)) (by omega) (fun k hk=>hle k (by omega)) a h2 (by omega)
def cnt (x:Cr) (p:Bool):Nat->Nat
 |0=>0
 |k+1=>cnt x p k+(if x.comes k=p then 1 else 0)
theorem cnt_four (x:Cr) (p:Bool):cnt x p 4=2:=by
 obtain⟨a,b,c,d,q⟩:=x
 cases p<;>cases q<;>rfl
def rng (x:Cr) (p:Bool) (m:Nat):Nat->Nat
 |0=>0
 |k+1=>rng x p m k+(if x.comes k=p/\1<=x.arc k/\x.arc k<=m then 1 else 0)
def rngTo (C:List Cr) (p:Bool) (m:Nat):Nat->Nat
 |0=>0
 |i+1=>rngTo C p m i+rng (C.getD i Cr.none) p m 4
theorem sum_sd (x:Cr) (p:Bool) (m k:Nat):sumA (fun a=>sd x a p k) m=rng x p m k:=by
 induction k with
 |zero=>exact sumA_zero m
 |succ k ih=>
  simp only[sd,rng,sumA_add,ih]
  congr 1
  by_cases h:x.comes k=p
  · rw[sumA_congr m (g:=fun a=>if x.arc k=(a:Int) then 1 else 0) (fun a _ _=>by simp[h]),sumA_at]
    simp[h]
  · rw[sumA_congr m (g:=fun _=>0) (fun a _ _=>by simp[h]),sumA_zero,if_neg (fun e=>h e.1)]
theorem sum_sdTo (C:List Cr) (p:Bool) (m i:Nat):sumA (fun a=>sdTo C a p i) m=rngTo C p m i:=by
 induction i with
 |zero=>exact sumA_zero m
 |succ i ih=>simp only[sdTo,rngTo,sumA_add,ih,sum_sd]
theorem rng_le (x:Cr) (p:Bool) (m k:Nat):rng x p m k<=cnt x p k:=by
 induction k with
 |zero=>exact Nat.le_refl _
 |succ k ih=>
  simp only[rng,cnt]
  by_cases h:x.comes k=p
  · rw[if_pos h];split<;>omega
  · rw[if_neg h,if_neg (fun e=>h e.1)];omega
theorem rng_lt (x:Cr) (p:Bool) (m k j:Nat) (hj:j<k) (hc:x.comes j=p) (ho:¬(1<=x.arc j/\x.arc j<=m)):rng x p m k<cnt x p k:=by
 induction k with
 |zero=>omega
 |succ k ih=>
  simp only[rng,cnt]
  by_cases e:j=k
  · subst e
    have:=rng_le x p m j
    rw[if_pos hc,if_neg (fun e=>ho e.2)]
    omega
  · have:=ih (by omega)
    by_cases h:x.comes k=p
    · rw[if_pos h];split<;>omega
    · rw[if_neg h,if_neg (fun e=>h e.1)];omega
theorem rng_all (x:Cr) (p:Bool) (m k:Nat) (h:∀ j,j<k->x.comes j=p->1<=x.arc j/\x.arc j<=m):rng x p m k=cnt x p k:=by
 induction k with
 |zero=>rfl
 |succ k ih=>
  simp only[rng,cnt]
  rw[ih fun j hj=>h j (by omega)]
  by_cases hc:x.comes k=p
  · rw[if_pos hc,if_pos ⟨hc,h k (by omega) hc⟩]
  · rw[if_neg hc,if_neg (fun e=>hc e.1)]
theorem rngTo_le (C:List Cr) (p:Bool) (m i:Nat):rngTo C p m i<=2*i:=by
 induction i with
 |zero=>exact Nat.le_refl _
 |succ i ih=>
  have:=rng_le (C.getD i Cr.none) p m 4
  rw[cnt_four]at this
  simp only[rngTo]
  omega
theorem rngTo_lt (C:List Cr) (p:Bool) (m n i k:Nat) (hi:i<n) (hk:k<4) (hc:(C.getD i Cr.none).comes k=p) (ho:¬(1<=(C.getD i Cr.none).arc k/\(C.getD i Cr.none).arc k<=m)):rngTo C p m n<2*n:=by
 induction n with
 |zero=>omega
 |succ n ih=>
  simp only[rngTo]
  by_cases e:i=n
  · subst e
    have h1:=rng_lt (C.getD i Cr.none) p m 4 k hk hc ho
    have h2:=rngTo_le C p m i
    rw[cnt_four]at h1
    omega
  · have h1:=ih (by omega)
    have h2:=rng_le (C.getD n Cr.none) p m 4
    rw[cnt_four]at h2
    omega
theorem rngTo_all (C:List Cr) (p:Bool) (m n:Nat) (h:∀ i k,i<n->k<4->(C.getD i Cr.none).comes k=p->1<=(C.getD i Cr.none).arc k/\(C.getD i Cr.none).arc k<=m):rngTo C p m n=2*n:=by
 induction n with
 |zero=>rfl
 |succ n ih=>
  simp only[rngTo]
  rw[ih fun i k hi=>h i k (by omega),rng_all _ p m 4 (fun j hj hc=>h n j (by omega) hj hc),cnt_four]
  omega
def ahd (C:List Cr) (a:Int) (p:Bool) (i k:Nat):Nat:=sdTo C a p i+sd (C.getD i Cr.none) a p k
theorem ahd_next (C:List Cr) (a:Int) (p:Bool) (i k:Nat):ahd C a p i (k+1)=ahd C a p i k+(if(C.getD i Cr.none).arc k=a/\(C.getD i Cr.none).comes k=p then 1 else 0):=by
 simp only[ahd,sd];omega
theorem sd_mono (x:Cr) (a:Int) (p:Bool) (j k:Nat) (h:j<=k):sd x a p j<=sd x a p k:=by
 induction k with
 | zero => obtain rfl : j = 0 := by omega
           exact Nat.le_refl _
 |succ k ih=>
  by_cases e:j=k+1
  · subst e;exact Nat.le_refl _
  · have:=ih (by omega)
    simp only[sd]
    omega
theorem sdTo_mono (C:List Cr) (a:Int) (p:Bool) (i n:Nat) (h:i<=n):sdTo C a p i<=sdTo C a p n:=by
 induction n with
 | zero => obtain rfl : i = 0 := by omega
           exact Nat.le_refl _
 |succ n ih=>
  by_cases e:i=n+1
  · subst e;exact Nat.le_refl _
  · have:=ih (by omega)
    simp only[sdTo]
    omega
theorem ahd_le (C:List Cr) (a:Int) (p:Bool) (i k n:Nat) (hi:i<n) (hk:k<=4):ahd C a p i k<=sdTo C a p n:=by
 have h1:=sd_mono (C.getD i Cr.none) a p k 4 hk
 have h2:=sdTo_mono C a p (i+1) n (by omega)
 simp only[sdTo]at h2
 simp only[ahd]
 omega
def fit (C:List Cr) (i k:Nat):Prop:=1<=(C.getD i Cr.none).arc k/\(C.getD i Cr.none).arc k<=2*(C.length:Int)/\ahd C ((C.getD i Cr.none).arc k) ((C.getD i Cr.none).comes k) i k=0
theorem once_sd {C:List Cr} {a:Nat} (h:onceB C a=true) (p:Bool):sdTo C a p C.length=1:=by
 simp only[onceB,Bool.and_eq_true,decide_eq_true_eq]at h
 cases p
 · rw[sdTo_out];exact h.2
 · rw[sdTo_in];exact h.1
theorem may_once {C:List Cr} {loops:Int} (h:mayD C loops=true) (a:Nat) (h1:1<=a) (h2:a<=2*C.length):onceB C a=true:=by
 cases ho:onceB C a with
 |true=>rfl
 |false=>rw[mayD_no h1 h2 ho]at h;cases h
theorem unfit_no {C:List Cr} {loops:Int} {i k:Nat} (hi:i<C.length) (hk:k<4) (h:¬fit C i k):mayD C loops=false:=by
 cases hm:mayD C loops with
 |false=>rfl
 |true=>
  exfalso
  by_cases hr:1<=(C.getD i Cr.none).arc k/\(C.getD i Cr.none).arc k<=2*(C.length:Int)
  · obtain⟨a,ha⟩:∃ a:Nat,(C.getD i Cr.none).arc k=(a:Int):=⟨((C.getD i Cr.none).arc k).toNat,by omega⟩
    have h1:=once_sd (may_once hm a (by omega) (by omega)) ((C.getD i Cr.none).comes k)
    have h2:=ahd_le C a ((C.getD i Cr.none).comes k) i (k+1) C.length hi (by omega)
    rw[ahd_next,if_pos ⟨ha,rfl⟩]at h2
    refine h ⟨hr.1,hr.2,?_⟩
    rw[ha]
    omega
  · have h1:=rngTo_lt C ((C.getD i Cr.none).comes k) (2*C.length) C.length i k hi hk rfl (by omega)
    rw[<-sum_sdTo,sumA_congr (2*C.length) (g:=fun _=>1) (fun a h2 h3=>once_sd (may_once hm a h2 h3) _),sumA_one]at h1
    omega
theorem fit_yes {C:List Cr} {loops:Int} (hs:sizeB C loops=true) (h:∀ i k,i<C.length->k<4->fit C i k):mayD C loops=true:=by
 have key:∀ p,∀ a:Nat,1<=a->a<=2*C.length->sdTo C a p C.length=1:=by
  intro p
  refine sumA_all (f:=fun a=>sdTo C a p C.length) ?_ ?_
  · intro a h1 h2
    have hrow:∀ i,i<=C.length->sdTo C a p i<=1:=by
     intro i
     induction i with
     |zero=>intro _;exact Nat.zero_le _
     |succ i ih=>
      intro hi
      have ih:=ih (by omega)
      have hcol:∀ k,k<=4->ahd C a p i k<=1:=by
       intro k
       induction k with
       |zero=>intro _;exact ih
       |succ k ihk=>
        intro hk
        have ihk:=ihk (by omega)
        rw[ahd_next]
        split
        · next e=>
          have hf:=(h i k (by omega) (by omega)).2.2
          rw[e.1,e.2]at hf
          omega
        · omega
      have:=hcol 4 (Nat.le_refl _)
      exact this
    exact hrow C.length (Nat.le_refl _)
  · rw[sum_sdTo]
    exact rngTo_all C p _ C.length fun i k hi hk _=>by
     have:=h i k hi hk
     exact⟨this.1,by have:=this.2.1;omega⟩
 refine mayD_yes hs fun a h1 h2=>?_
 simp only[onceB,Bool.and_eq_true,decide_eq_true_eq]
 exact⟨by rw[<-sdTo_in];exact key true a h1 h2,by rw[<-sdTo_out];exact key false a h1 h2⟩
end Go.Proofs.Ytagaajlbkfkaiaa

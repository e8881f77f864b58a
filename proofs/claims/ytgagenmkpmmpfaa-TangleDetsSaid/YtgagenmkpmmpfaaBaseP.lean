/- Several texts of the proof, one behind the other. -/
import Derived.Test.YtgagenmkpmmpfaaRows
import Derived.WalkKit
import Derived.WalkSpells
import Derived.WalkLawsBesides
import Derived.Deep.QuietTactic
import Derived.BigQuiet
import Derived.Deep.RegionWith
import Derived.Deep.RegionHeld3
import Derived.Laws.AppendOwnNone
import Derived.OwnWalk
import Derived.Lib.Hide
import Derived.Laws.StructEq
/- What is said of worlds, rows and lists of pairs without naming the program. -/
namespace Go.Proofs.Ytgagenmkpmmpfaa
open Go.RowKit
theorem bcell {B:Nat} {W w1:World} (hb:Below B W w1) {b o:Nat} {v:Option Value} (h:b<B) (hc:W.cell? ⟨b,o,none⟩=v):w1.cell? ⟨b,o,none⟩=v:=by
 rw[<-hc];exact hb.cell (p:=⟨b,o,none⟩) h
theorem below_drewN {B:Nat} {w w1:World} (h:Below B w w1):∀ n,Below B w (w1.drewN n):=fun n=>by
 induction n with
 |zero=>exact h
 |succ n ih=>exact ih.drew
theorem ret_bool {a b:Bool} (h:b=a):Ending.returned (.bool a)=.returned (.bool b):=by rw[h]
/-- The cells of the terms l, from address ⟨b, off⟩ on. -/
def TermsAt (w:World) (b off:Nat) (l:List (Int×Int)):Prop:=
 ∀ i,i<l.length->w.cell? ⟨b,off+i*2,none⟩=some (.int .i64 (l.getD i (0,0)).1)/\w.cell? ⟨b,off+i*2+1,none⟩=some (.int .i64 (l.getD i (0,0)).2)
theorem TermsAt.on {B:Nat} {W w1:World} {b off:Nat} {l:List (Int×Int)} (h:TermsAt W b off l) (hb:Below B W w1) (hlt:b<B):TermsAt w1 b off l:=
 fun i hi=>⟨bcell hb hlt (h i hi).1,bcell hb hlt (h i hi).2⟩
/-- The terms as cells, one behind the other. -/
def flat (l:List (Int×Int)):List Value:=l.flatMap fun t=>[.int .i64 t.1,.int .i64 t.2]
theorem flat_length (l:List (Int×Int)):(flat l).length=l.length*2:=by
 induction l with
 |nil=>rfl
 |cons t l ih=>simp[flat]at *;omega
theorem flat_append (l m:List (Int×Int)):flat (l++m)=flat l++flat m:=by simp[flat]
theorem flat_get (l : List (Int × Int)) (i : Nat) (hi : i < l.length) :
    (flat l)[i*2]?=some (.int .i64 (l.getD i (0,0)).1)/\(flat l)[i*2+1]?=some (.int .i64 (l.getD i (0,0)).2):=by
 induction l generalizing i with
 |nil=>simp at hi
 |cons t l ih=>
  cases i with
  |zero=>simp[flat]
  |succ i=>
   have:=ih i (by simpa using hi)
   simp only[flat,List.flatMap_cons]at this ⊢
   rw[List.getElem?_append_right (by simp;omega),List.getElem?_append_right (by simp;omega)]
   simpa[show(i+1)*2-2=i*2 by omega,show(i+1)*2+1-2=i*2+1 by omega] using this
theorem ret_int {k:IntKind} {a b:Int} (h:a=b):Ending.returned (.int k a)=.returned (.int k b):=by rw[h]
theorem tmod2 (e:Int):(e.tmod 2==0)=decide (e%2=0):=by
 rw[Bool.eq_iff_iff]
 simp only[beq_iff_eq,decide_eq_true_eq]
 exact⟨fun h=>Int.emod_eq_zero_of_dvd (Int.dvd_of_tmod_eq_zero h),fun h=>Int.tmod_eq_zero_of_dvd (Int.dvd_of_emod_eq_zero h)⟩
theorem grown_below {w w':World} (h:Below w.heap.size w w') (row:Option Nat):w.grownBy w' row:=⟨h.os,h.tape,h.output,h.size,fun k hk _=>h.block k hk⟩
/-- The slice v holds these values, a cell each, in blocks below B. -/
def Slots (w:World) (B:Nat) (v:Value) (xs:List Value):Prop:=
 ∃ a cap,v=.slice a xs.length cap/\(0<xs.length->∃ b off,a=some ⟨b,off,none⟩/\b<B/\∀ i,i<xs.length->w.cell? ⟨b,off+i,none⟩=some (xs.getD i (.bool false)))
theorem Slots.on {w w':World} {B:Nat} {v:Value} {xs:List Value} (h:Slots w B v xs) (hb:Below B w w'):Slots w' B v xs:=by
 obtain⟨a,cap,rfl,g⟩:=h
 refine⟨a,cap,rfl,fun h0=>?_⟩
 obtain⟨b,off,rfl,hlt,hc⟩:=g h0
 exact⟨b,off,rfl,hlt,fun i hi=>bcell hb hlt (hc i hi)⟩
theorem Slots.mono {w:World} {B B':Nat} {v:Value} {xs:List Value} (h:Slots w B v xs) (hB:B<=B'):Slots w B' v xs:=by
 obtain⟨a,cap,rfl,g⟩:=h
 refine⟨a,cap,rfl,fun h0=>?_⟩
 obtain⟨b,off,rfl,hlt,hc⟩:=g h0
 exact⟨b,off,rfl,Nat.lt_of_lt_of_le hlt hB,hc⟩
theorem slots_of_own {w:World} {B e n:Nat} {v:Value} {xs:List Value} (h:w.ownsRow B e 1 v n xs):Slots w w.heap.size v xs:=by
 have hl:xs.length=n:=by simpa using h.1
 rcases h.2 with⟨rfl,h0⟩|⟨g,cap,cur,rfl,_,hg,_,_,_,_⟩
 · refine⟨none,0,by rw[hl,h0],fun hp=>by omega⟩
 · refine⟨some ⟨g,0,none⟩,cap,by rw[hl],fun _=>⟨g,0,rfl,(h.lt g rfl).2,fun i hi=>?_⟩⟩
   rw[Nat.zero_add,h.cellAt i (by omega),List.getD,List.getElem?_eq_getElem hi]
   rfl
theorem own_low {w:World} {B B' e s n:Nat} {v:Value} {xs:List Value} (h:w.ownsRow B e s v n xs) (hB:B'<=B):w.ownsRow B' e s v n xs:=by
 refine⟨h.1,?_⟩
 rcases h.2 with h1|⟨g,cap,cur,h1,h2,h3⟩
 · exact Or.inl h1
 · exact Or.inr ⟨g,cap,cur,h1,Nat.le_trans hB h2,h3⟩
/-- Rows of different element types lie in different blocks. -/
theorem own_ne {w:World} {B B' e e' s s' n n':Nat} {v v':Value} {xs xs':List Value} (h:w.ownsRow B e s v n xs) (h':w.ownsRow B' e' s' v' n' xs') (he:e≠e'):v.ownBlock=none∨v.ownBlock≠v'.ownBlock:=by
 rcases h.2 with⟨rfl,_⟩|⟨g,cap,cur,rfl,_,hg,_⟩
 · exact Or.inl rfl
 · right
   rcases h'.2 with⟨rfl,_⟩|⟨g',cap',cur',rfl,_,hg',_⟩
   · simp[Value.ownBlock]
   · simp only[Value.ownBlock]
     intro e0
     have e1:=Option.some.inj e0
     subst e1
     rw[hg]at hg'
     injection hg' with h1
     injection h1 with h2 h3
     exact he h3
theorem new_cell1 (W:World) (x:Value) (e:TypeId):∀ j u,[x][j]?=some u->(W.alloc (.cells #[x] e)).cell? ((⟨W.heap.size,0,none⟩:Addr).add j)=some u:=by
 intro j u hj
 rw[Addr.add_lit,Nat.zero_add]
 have hh:(W.alloc (.cells #[x] e)).heap[W.heap.size]?=some (.cells #[x] e (0,0)):=Array.getElem?_push_size
 match j,hj with
 |0,hj=>simp at hj;subst hj;unfold World.cell?;rw[hh];rfl
theorem own_capS {w:World} {B e s n:Nat} {v:Value} {xs:List Value} (h:w.ownsRow B e s v n xs):∃ a c,v=.slice a n c:=by
 rcases h.2 with⟨rfl,h0⟩|⟨g,cap,cur,rfl,_,_,h1,h2,_⟩
 · exact⟨none,0,by rw[h0]⟩
 · exact⟨_,_,rfl⟩
theorem own_oneS {w:World} {B e s n:Nat} {v:Value} {xs:List Value} (h:w.ownsRow B e s v n xs):∀ u∈[v],u.oneCell'=true:=by
 obtain⟨a,c,rfl⟩:=own_capS h
 intro u hu
 simp only[List.mem_singleton]at hu
 subst hu
 rfl
theorem own_any {w w':World} {B e s n:Nat} {v:Value} {xs:List Value} (h:w.ownsRow B e s v n xs) (hg:w.grownBy w' none):w'.ownsRow B e s v n xs:=
 h.kept hg (by cases v.ownBlock with|none=>exact Or.inl rfl|some q=>exact Or.inr (by simp))
theorem getD_left (zs:List Value) (x:Value) (i:Nat) (h:i<zs.length):(zs++[x]).getD i (.bool false)=zs.getD i (.bool false):=by simp[List.getD,List.getElem?_append_left h]
theorem getD_last (zs:List Value) (x:Value):(zs++[x]).getD zs.length (.bool false)=x:=by simp[List.getD]
/-- Another coefficient at place i. -/
def setC (l:List (Int×Int)) (i:Nat) (c:Int):List (Int×Int):=l.set i ((l.getD i (0,0)).1,c)
theorem flat_setC (l:List (Int×Int)) (i:Nat) (c:Int) (hi:i<l.length):(flat l).set (i*2+1) (.int .i64 c)=flat (setC l i c):=by
 induction l generalizing i with
 |nil=>simp at hi
 |cons t l ih=>
  have e:flat (t::l)=.int .i64 t.1::.int .i64 t.2::flat l:=rfl
  cases i with
  |zero=>
   have e2:setC (t::l) 0 c=(t.1,c)::l:=rfl
   rw[e,e2]
   rfl
  |succ i=>
   have e2:setC (t::l) (i+1) c=t::setC l i c:=rfl
   have e3:flat (t::setC l i c)=.int .i64 t.1::.int .i64 t.2::flat (setC l i c):=rfl
   rw[e,e2,e3,show(i+1)*2+1=i*2+1+1+1 by omega,List.set_cons_succ,List.set_cons_succ,ih i (by simpa using hi)]
theorem flat_cellC (l:List (Int×Int)) (i:Nat) (hi:i<l.length):(flat l)[i*2+1]?=some (.int .i64 (l.getD i (0,0)).2):=by
 induction l generalizing i with
 |nil=>simp at hi
 |cons t l ih=>
  have e:flat (t::l)=.int .i64 t.1::.int .i64 t.2::flat l:=rfl
  cases i with
  |zero=>rw[e];rfl
  |succ i=>
   have:=ih i (by simpa using hi)
   rw[e,show(i+1)*2+1=i*2+1+1+1 by omega,List.getElem?_cons_succ,List.getElem?_cons_succ,this]
   rfl
/-- Another first number at place i. -/
def setE (l:List (Int×Int)) (i:Nat) (e:Int):List (Int×Int):=l.set i (e,(l.getD i (0,0)).2)
theorem setE_length (l:List (Int×Int)) (i:Nat) (c:Int):(setE l i c).length=l.length:=by simp[setE]
theorem flat_setE (l:List (Int×Int)) (i:Nat) (c:Int) (hi:i<l.length):(flat l).set (i*2) (.int .i64 c)=flat (setE l i c):=by
 induction l generalizing i with
 |nil=>simp at hi
 |cons t l ih=>
  have e:flat (t::l)=.int .i64 t.1::.int .i64 t.2::flat l:=rfl
  cases i with
  |zero=>
   have e2:setE (t::l) 0 c=(c,t.2)::l:=rfl
   rw[e,e2]
   rfl
  |succ i=>
   have e2:setE (t::l) (i+1) c=t::setE l i c:=rfl
   have e3:flat (t::setE l i c)=.int .i64 t.1::.int .i64 t.2::flat (setE l i c):=rfl
   rw[e,e2,e3,show(i+1)*2=i*2+1+1 by omega,List.set_cons_succ,List.set_cons_succ,ih i (by simpa using hi)]
theorem flat_cellE (l:List (Int×Int)) (i:Nat) (hi:i<l.length):(flat l)[i*2]?=some (.int .i64 (l.getD i (0,0)).1):=by
 induction l generalizing i with
 |nil=>simp at hi
 |cons t l ih=>
  have e:flat (t::l)=.int .i64 t.1::.int .i64 t.2::flat l:=rfl
  cases i with
  |zero=>rw[e];rfl
  |succ i=>
   have:=ih i (by simpa using hi)
   rw[e,show(i+1)*2=i*2+1+1 by omega,List.getElem?_cons_succ,List.getElem?_cons_succ,this]
   rfl
theorem flat_zeros (n:Nat):(madeCells #[Value.int .i64 0,.int .i64 0] (n*2)).toList=flat (List.replicate n (0,0)):=by
 apply List.ext_getElem?
 intro j
 by_cases hj:j<n*2
 · have hlen:(flat (List.replicate n ((0:Int),(0:Int)))).length=n*2:=by rw[flat_length];simp
   have h1:∀ (m k:Nat),k<m*2->(flat (List.replicate m ((0:Int),(0:Int))))[k]?=some (.int .i64 0):=by
    intro m
    induction m with
    |zero=>intro k hk;omega
    |succ m ih=>
     intro k hk
     have e:flat (List.replicate (m+1) ((0:Int),(0:Int)))=.int .i64 0::.int .i64 0::flat (List.replicate m ((0:Int),(0:Int))):=rfl
     rw[e]
     match k with
     |0=>rfl
     |1=>rfl
     |k+2=>
      rw[List.getElem?_cons_succ,List.getElem?_cons_succ]
      exact ih k (by omega)
   rw[h1 n j hj]
   simp only[madeCells]
   rcases Nat.mod_two_eq_zero_or_one j with h|h<;>simp[hj,h]
 · rw[List.getElem?_eq_none (by simp[madeCells];omega),List.getElem?_eq_none (by rw[flat_length];simp;omega)]
/-- What the loop has done behind i spots. -/
def unkTo (n i:Nat):List (Int×Int):=List.replicate i (-1,0)++List.replicate (n-i) (0,0)
theorem unk_next (n i:Nat) (h:i<n):setE (unkTo n i) i (-1)=unkTo n (i+1):=by
 obtain⟨m,hm⟩:∃ m,n - i=m+1:=⟨n - i - 1,by omega⟩
 have hm2:n-(i+1)=m:=by omega
 unfold setE unkTo
 rw[hm,hm2,List.replicate_succ,List.replicate_succ' (n:=i)]
 have hg:(List.replicate i ((-1:Int),(0:Int))++(0,0)::List.replicate m (0,0)).getD i (0,0)=(0,0):=by simp[List.getD]
 rw[hg,List.set_append_right _ _ (by simp)]
 simp
theorem hidB {P:Prop} (h:P):Go.RowKit.Hid P:=h
end Go.Proofs.Ytgagenmkpmmpfaa
/- Diagrams in a world; the walks of ref.ArcAt, ref.Entry, drawing.Arcs and drawing.ComesIn. -/
namespace Go.Proofs.Ytgagenmkpmmpfaa
open Go.RowKit
set_option maxHeartbeats 1000000
set_option maxRecDepth 100000
structure Cr where
 a:Int
 b:Int
 c:Int
 d:Int
 plus:Bool
def Cr.none:Cr:=⟨0,0,0,0,false⟩
def Cr.arc (x:Cr) (k:Nat):Int:=if k=0 then x.a else if k=1 then x.b else if k=2 then x.c else x.d
def Cr.comes (x:Cr) (k:Nat):Bool:=k==0||(k==1&&!x.plus)||(k==3&&x.plus)
def CrossAt (w:World) (b off:Nat) (C:List Cr):Prop:=∀ i,i<C.length->
 w.cell? ⟨b,off+i*5,none⟩=some (.int .i64 (C.getD i Cr.none).a)/\w.cell? ⟨b,off+i*5+1,none⟩=some (.int .i64 (C.getD i Cr.none).b)/\w.cell? ⟨b,off+i*5+2,none⟩=some (.int .i64 (C.getD i Cr.none).c)/\
 w.cell? ⟨b,off+i*5+3,none⟩=some (.int .i64 (C.getD i Cr.none).d)/\w.cell? ⟨b,off+i*5+4,none⟩=some (.bool (C.getD i Cr.none).plus)
theorem CrossAt.on {w w':World} {B b off:Nat} {C:List Cr} (h:CrossAt w b off C) (hb:Below B w w') (hlt:b<B):CrossAt w' b off C:=fun i hi=>
 ⟨bcell hb hlt (h i hi).1,bcell hb hlt (h i hi).2.1,bcell hb hlt (h i hi).2.2.1,bcell hb hlt (h i hi).2.2.2.1,bcell hb hlt (h i hi).2.2.2.2⟩
theorem below2 (w:World) (o1 o2:Obj):Below w.heap.size w ((w.alloc o1).alloc o2):=((Below.refl _ _).alloc (Nat.le_refl _) _).alloc (by simp) _
theorem below3 (w:World) (o1 o2 o3:Obj):Below w.heap.size w (((w.alloc o1).alloc o2).alloc o3):=(below2 w o1 o2).alloc (by simp;omega) _
theorem comesIn_any (x : Cr) (k : Nat) (w : World) (hk : k < 4) :
    Calls Try.prog 32 #[.agg #[.int .i64 x.a,.int .i64 x.b,.int .i64 x.c,.int .i64 x.d,.bool x.plus],.int .i64 k] w fun e w'=>e=.returned (.bool (x.comes k))/\Below w.heap.size w w':=by
 obtain⟨xa,xb,xc,xd,xp⟩:=x
 have hk4:k=0∨k=1∨k=2∨k=3:=by omega
 rcases hk4 with rfl|rfl|rfl|rfl
 · go_enter Try.func32,Try.ntmps32
   go_wp2
   go_ret
   exact⟨rfl,(Below.refl _ _).alloc (Nat.le_refl _) _⟩
 · cases xp
   · go_enter Try.func32,Try.ntmps32
     go_wp2
     go_ret
     exact⟨rfl,(Below.refl _ _).alloc (Nat.le_refl _) _⟩
   · go_enter Try.func32,Try.ntmps32
     go_wp2
     go_ret
     exact⟨rfl,(Below.refl _ _).alloc (Nat.le_refl _) _⟩
 · go_enter Try.func32,Try.ntmps32
   go_wp2
   go_ret
   exact⟨rfl,(Below.refl _ _).alloc (Nat.le_refl _) _⟩
 · cases xp
   · go_enter Try.func32,Try.ntmps32
     go_wp2
     go_ret
     exact⟨rfl,(Below.refl _ _).alloc (Nat.le_refl _) _⟩
   · go_enter Try.func32,Try.ntmps32
     go_wp2
     go_ret
     exact⟨rfl,(Below.refl _ _).alloc (Nat.le_refl _) _⟩
theorem arcs_any (x : Cr) (w : World) :
    Calls Try.prog 31 #[.agg #[.int .i64 x.a,.int .i64 x.b,.int .i64 x.c,.int .i64 x.d,.bool x.plus]] w fun e w'=>e=.returned (.agg #[.int .i64 x.a,.int .i64 x.b,.int .i64 x.c,.int .i64 x.d])/\Below w.heap.size w w':=by
 go_enter Try.func31,Try.ntmps31
 go_wp2
 exact bodyPost_ret (v:=.agg #[.int .i64 x.a,.int .i64 x.b,.int .i64 x.c,.int .i64 x.d]) (by simp[results,Try.results31,go_sem]) rfl ⟨rfl,below2 _ _ _⟩
end Go.Proofs.Ytgagenmkpmmpfaa
/- The walk of ref.DiagramMay: which diagrams may be, by counting. -/
namespace Go.Proofs.Ytgagenmkpmmpfaa
open Go.RowKit
def sideIn (x:Cr) (a:Int):Nat->Nat
 |0=>0
 |k+1=>sideIn x a k+(if x.arc k=a/\x.comes k=true then 1 else 0)
def sideOut (x:Cr) (a:Int):Nat->Nat
 |0=>0
 |k+1=>sideOut x a k+(if x.arc k=a/\x.comes k=false then 1 else 0)
def inTo (C:List Cr) (a:Int):Nat->Nat
 |0=>0
 |i+1=>inTo C a i+sideIn (C.getD i Cr.none) a 4
def outTo (C:List Cr) (a:Int):Nat->Nat
 |0=>0
 |i+1=>outTo C a i+sideOut (C.getD i Cr.none) a 4
def onceB (C:List Cr) (a:Nat):Bool:=decide (inTo C a C.length=1)&&decide (outTo C a C.length=1)
def sizeB (C:List Cr) (loops:Int):Bool:=decide (C.length<=16)&&decide (0<=loops)&&decide (loops<=16)&&!(decide (C.length=0)&&decide (loops=0))
def mayD (C:List Cr) (loops:Int):Bool:=sizeB C loops&&(List.range (2*C.length)).all fun j=>onceB C (j+1)
theorem mayD_no {C:List Cr} {loops:Int} {a:Nat} (h0:1<=a) (h1:a<=2*C.length) (h:onceB C a=false):mayD C loops=false:=by
 cases hm:mayD C loops with
 |false=>rfl
 |true=>
  simp only[mayD,Bool.and_eq_true,List.all_eq_true,List.mem_range]at hm
  have:=hm.2 (a-1) (by omega)
  rw[show a-1+1=a by omega,h]at this
  cases this
theorem mayD_yes {C:List Cr} {loops:Int} (hs:sizeB C loops=true) (h:∀ a:Nat,1<=a->a<=2*C.length->onceB C a=true):mayD C loops=true:=by
 simp only[mayD,Bool.and_eq_true,List.all_eq_true,List.mem_range]
 exact⟨hs,fun j hj=>h (j+1) (by omega) (by omega)⟩
theorem mayD_size {C:List Cr} {loops:Int} (hs:sizeB C loops=false):mayD C loops=false:=by
 simp[mayD,hs]
def Crs (w:World) (B:Nat) (v:Value) (C:List Cr):Prop:=∃ a cap,v=.slice a C.length cap/\C.length<=maxLen/\(0<C.length->∃ b off,a=some ⟨b,off,none⟩/\b<B/\CrossAt w b off C)
end Go.Proofs.Ytgagenmkpmmpfaa
/- The walk of ref.DiagramMay where crossings and loops are not too many. -/
namespace Go.Proofs.Ytgagenmkpmmpfaa
open Go.RowKit
theorem sizeB_iff {C:List Cr} {loops:Int} (h:sizeB C loops=true):C.length<=16/\0<=loops/\loops<=16/\¬(C.length=0/\loops=0):=by
 simp only[sizeB,Bool.and_eq_true,decide_eq_true_eq,Bool.not_eq_true',Bool.and_eq_false_iff,decide_eq_false_iff_not]at h
 omega
end Go.Proofs.Ytgagenmkpmmpfaa
/- The walk of ref.DiagramMay at whatever diagram; the walk of drawing.unknown. -/
namespace Go.Proofs.Ytgagenmkpmmpfaa
open Go.RowKit
set_option maxHeartbeats 2000000
set_option maxRecDepth 100000
theorem infoSpot:(Try.prog.info? 66).map (fun i=>(i.zero,i.size,i.bytes))=some (some (.agg #[.int .i64 0,.int .i64 0]),2,16):=by kernel_rfl
theorem unknown_any (n : Nat) (w : World) (hn : n ≤ 40) :
    Calls Try.prog 30 #[.int .i64 n] w fun e w'=>∃ v,e=.returned v/\w'.ownsRow w.heap.size 66 2 v n (flat (List.replicate n (-1,0)))/\Below w.heap.size w w':=by
 obtain⟨i0,hi,hz0,hz1,hz2⟩:=info_parts infoSpot
 go_enter Try.func30,Try.ntmps30
 go_wp2_with (first|(at_make;refine wpList_make_full _ rfl _ _ 50 rfl w.heap.size 66 i0 (.agg #[.int .i64 0,.int .i64 0]) 2 Try.underlying50 hi hz0 hz1 .i64 .i64 _ _ n rfl rfl rfl rfl (by rw[hz2];omega) (by unfold maxLen;omega) (Nat.le_refl _) ?_;intro w1 hrow hg1;refine Hid.out ?_))
 refine Lib.hid ?_
 have hz:(madeCells (Value.agg #[.int .i64 0,.int .i64 0]).cells (n*2)).toList=flat (unkTo n 0):=by
  have e:(Value.agg #[.int .i64 0,.int .i64 0]).cells=#[Value.int .i64 0,.int .i64 0]:=rfl
  rw[e,flat_zeros]
  simp[unkTo]
 rw[hz]at hrow
 have HB1:Hid (Below w.heap.size w w1):=(Below.refl _ _).grown hg1 (Nat.le_refl _) (fun j hj=>by cases hj)
 clear hz hg1
 go_wp2
 go_loopw [9] (fun v9 wr=>∃ i:Nat,i<=n/\v9=.int .i64 i/\wr.ownsRow w.heap.size 66 2 (.slice (some ⟨w.heap.size,0,none⟩) n n) n (flat (unkTo n i))/\Below w.heap.size w wr) (fun v9 _=>n-(intOf v9).toNat)
 case atStart=>exact⟨0,Nat.zero_le _,rfl,hrow,HB1.out⟩
 case round=>
  clear hrow
  obtain⟨i,hin,rfl,hown,hb⟩:=hrel
  have hlow:=(hown.lt w.heap.size rfl).2
  by_cases hil:i<n
  · have hul:(unkTo n i).length=n:=by simp[unkTo];omega
    have f0:=hown.frozenAt (i*2)
    have c0:wr.cell? ⟨w.heap.size,i*2,none⟩=some (.int .i64 ((unkTo n i).getD i (0,0)).1):=by rw[hown.cellAt (i*2) (by omega)];exact flat_cellE _ i (by omega)
    have hst:=hown.stored (i*2) (.int .i64 (-1))
    rw[flat_setE _ i (-1) (by omega),unk_next n i hil]at hst
    have HST:Hid ((wr.setCell ⟨w.heap.size,i*2,none⟩ (.int .i64 (-1))).ownsRow w.heap.size 66 2 (.slice (some ⟨w.heap.size,0,none⟩) n n) n (flat (unkTo n (i+1)))):=hst.1
    have HBB:Hid (Below w.heap.size w (wr.setCell ⟨w.heap.size,i*2,none⟩ (.int .i64 (-1)))):=hb.grown hst.2 hb.size (fun j hj=>by cases hj;exact Nat.le_refl _)
    generalize ((unkTo n i).getD i (0,0)).1=u at c0
    clear hst hown
    go_wp2
    go_roundw
    case rel=>exact⟨i+1,by omega,by go_num,HST.out,HBB.out⟩
    case measure=>simp only[intOf];omega
  · obtain rfl:i=n:=by omega
    go_wp2
    go_ret
    exact ⟨_, rfl, by have e : unkTo i i = List.replicate i (-1, 0) := by simp [unkTo]
                      rw[<-e];exact hown,hb⟩
end Go.Proofs.Ytgagenmkpmmpfaa
/- A diagram may be just if no arc stands twice where strands come in, nor where they go out, and none is out of range. Plain mathematics: no program is named here. -/
namespace Go.Proofs.Ytgagenmkpmmpfaa
def sd (x:Cr) (a:Int) (p:Bool):Nat->Nat
 |0=>0
 |k+1=>sd x a p k+(if x.arc k=a/\x.comes k=p then 1 else 0)
def sdTo (C:List Cr) (a:Int) (p:Bool):Nat->Nat
 |0=>0
 |i+1=>sdTo C a p i+sd (C.getD i Cr.none) a p 4
theorem sd_in (x:Cr) (a:Int) (k:Nat):sd x a true k=sideIn x a k:=by
 induction k with
 |zero=>rfl
 |succ k ih=>simp only[sd,sideIn,ih]
theorem sd_out (x:Cr) (a:Int) (k:Nat):sd x a false k=sideOut x a k:=by
 induction k with
 |zero=>rfl
 |succ k ih=>simp only[sd,sideOut,ih]
theorem sdTo_in (C:List Cr) (a:Int) (i:Nat):sdTo C a true i=inTo C a i:=by
 induction i with
 |zero=>rfl
 |succ i ih=>simp only[sdTo,inTo,ih,sd_in]
theorem sdTo_out (C:List Cr) (a:Int) (i:Nat):sdTo C a false i=outTo C a i:=by
 induction i with
 |zero=>rfl
 |succ i ih=>simp only[sdTo,outTo,ih,sd_out]
def sumA (f:Nat->Nat):Nat->Nat
 |0=>0
 |m+1=>sumA f m+f (m+1)
theorem sumA_add (f g:Nat->Nat) (m:Nat):sumA (fun a=>f a+g a) m=sumA f m+sumA g m:=by
 induction m with
 |zero=>rfl
 |succ m ih=>simp only[sumA,ih];omega
theorem sumA_congr {f g:Nat->Nat} (m:Nat) (h:∀ a,1<=a->a<=m->f a=g a):sumA f m=sumA g m:=by
 induction m with
 |zero=>rfl
 |succ m ih=>simp only[sumA];rw[ih fun a h1 h2=>h a h1 (by omega),h (m+1) (by omega) (Nat.le_refl _)]
theorem sumA_zero (m:Nat):sumA (fun _=>0) m=0:=by
 induction m with
 |zero=>rfl
 |succ m ih=>simp only[sumA,ih]
theorem sumA_one (m:Nat):sumA (fun _=>1) m=m:=by
 induction m with
 |zero=>rfl
 |succ m ih=>simp only[sumA,ih]
theorem sumA_at (v:Int) (m:Nat):sumA (fun a=>if v=(a:Int) then 1 else 0) m=if 1<=v/\v<=m then 1 else 0:=by
 induction m with
 |zero=>simp only[sumA];rw[if_neg (by omega)]
 |succ m ih=>
  simp only[sumA,ih]
  by_cases h1:1<=v/\v<=m
  · rw[if_pos h1,if_neg (by omega),if_pos (by omega)]
  · rw[if_neg h1]
    by_cases h2:v=((m+1:Nat):Int)
    · rw[if_pos h2,if_pos (by omega)]
    · rw[if_neg h2,if_neg (by omega)]
theorem sumA_all {f:Nat->Nat} {m:Nat} (h1:∀ a,1<=a->a<=m->f a<=1) (hs:sumA f m=m):∀ a,1<=a->a<=m->f a=1:=by
 have hle:∀ k,k<=m->sumA f k<=k:=by
  intro k
  induction k with
  |zero=>intro _;exact Nat.le_refl _
  |succ k ih=>
   intro hk
   have:=ih (by omega)
   have:=h1 (k+1) (by omega) hk
   simp only[sumA]
   omega
 induction m with
 |zero=>intro a h2 h3;omega
 |succ m ih=>
  have hm:=hle m (by omega)
  have hl:=h1 (m+1) (by omega) (Nat.le_refl _)
  simp only[sumA]at hs
  intro a h2 h3
  by_cases e:a=m+1
  · rw[e];omega
  · exact ih (fun b hb1 hb2=>h1 b hb1 (by omega)) (by omega) (fun k hk=>hle k (by omega)) a h2 (by omega)
def cnt (x:Cr) (p:Bool):Nat->Nat
 |0=>0
 |k+1=>cnt x p k+(if x.comes k=p then 1 else 0)
theorem cnt_four (x:Cr) (p:Bool):cnt x p 4=2:=by
 obtain⟨a,b,c,d,q⟩:=x
 cases p<;>cases q<;>rfl
def rng (x:Cr) (p:Bool) (m:Nat):Nat->Nat
 |0=>0
 |k+1=>rng x p m k+(if x.comes k=p/\1<=x.arc k/\x.arc k<=m then 1 else 0)
def rngTo (C:List Cr) (p:Bool) (m:Nat):Nat->Nat
 |0=>0
 |i+1=>rngTo C p m i+rng (C.getD i Cr.none) p m 4
theorem sum_sd (x:Cr) (p:Bool) (m k:Nat):sumA (fun a=>sd x a p k) m=rng x p m k:=by
 induction k with
 |zero=>exact sumA_zero m
 |succ k ih=>
  simp only[sd,rng,sumA_add,ih]
  congr 1
  by_cases h:x.comes k=p
  · rw[sumA_congr m (g:=fun a=>if x.arc k=(a:Int) then 1 else 0) (fun a _ _=>by simp[h]),sumA_at]
    simp[h]
  · rw[sumA_congr m (g:=fun _=>0) (fun a _ _=>by simp[h]),sumA_zero,if_neg (fun e=>h e.1)]
theorem sum_sdTo (C:List Cr) (p:Bool) (m i:Nat):sumA (fun a=>sdTo C a p i) m=rngTo C p m i:=by
 induction i with
 |zero=>exact sumA_zero m
 |succ i ih=>simp only[sdTo,rngTo,sumA_add,ih,sum_sd]
theorem rng_le (x:Cr) (p:Bool) (m k:Nat):rng x p m k<=cnt x p k:=by
 induction k with
 |zero=>exact Nat.le_refl _
 |succ k ih=>
  simp only[rng,cnt]
  by_cases h:x.comes k=p
  · rw[if_pos h];split<;>omega
  · rw[if_neg h,if_neg (fun e=>h e.1)];omega
theorem rng_lt (x:Cr) (p:Bool) (m k j:Nat) (hj:j<k) (hc:x.comes j=p) (ho:¬(1<=x.arc j/\x.arc j<=m)):rng x p m k<cnt x p k:=by
 induction k with
 |zero=>omega
 |succ k ih=>
  simp only[rng,cnt]
  by_cases e:j=k
  · subst e
    have:=rng_le x p m j
    rw[if_pos hc,if_neg (fun e=>ho e.2)]
    omega
  · have:=ih (by omega)
    by_cases h:x.comes k=p
    · rw[if_pos h];split<;>omega
    · rw[if_neg h,if_neg (fun e=>h e.1)];omega
theorem rng_all (x:Cr) (p:Bool) (m k:Nat) (h:∀ j,j<k->x.comes j=p->1<=x.arc j/\x.arc j<=m):rng x p m k=cnt x p k:=by
 induction k with
 |zero=>rfl
 |succ k ih=>
  simp only[rng,cnt]
  rw[ih fun j hj=>h j (by omega)]
  by_cases hc:x.comes k=p
  · rw[if_pos hc,if_pos ⟨hc,h k (by omega) hc⟩]
  · rw[if_neg hc,if_neg (fun e=>hc e.1)]
theorem rngTo_le (C:List Cr) (p:Bool) (m i:Nat):rngTo C p m i<=2*i:=by
 induction i with
 |zero=>exact Nat.le_refl _
 |succ i ih=>
  have:=rng_le (C.getD i Cr.none) p m 4
  rw[cnt_four]at this
  simp only[rngTo]
  omega
theorem rngTo_lt (C:List Cr) (p:Bool) (m n i k:Nat) (hi:i<n) (hk:k<4) (hc:(C.getD i Cr.none).comes k=p) (ho:¬(1<=(C.getD i Cr.none).arc k/\(C.getD i Cr.none).arc k<=m)):rngTo C p m n<2*n:=by
 induction n with
 |zero=>omega
 |succ n ih=>
  simp only[rngTo]
  by_cases e:i=n
  · subst e
    have h1:=rng_lt (C.getD i Cr.none) p m 4 k hk hc ho
    have h2:=rngTo_le C p m i
    rw[cnt_four]at h1
    omega
  · have h1:=ih (by omega)
    have h2:=rng_le (C.getD n Cr.none) p m 4
    rw[cnt_four]at h2
    omega
theorem rngTo_all (C:List Cr) (p:Bool) (m n:Nat) (h:∀ i k,i<n->k<4->(C.getD i Cr.none).comes k=p->1<=(C.getD i Cr.none).arc k/\(C.getD i Cr.none).arc k<=m):rngTo C p m n=2*n:=by
 induction n with
 |zero=>rfl
 |succ n ih=>
  simp only[rngTo]
  rw[ih fun i k hi=>h i k (by omega),rng_all _ p m 4 (fun j hj hc=>h n j (by omega) hj hc),cnt_four]
  omega
def ahd (C:List Cr) (a:Int) (p:Bool) (i k:Nat):Nat:=sdTo C a p i+sd (C.getD i Cr.none) a p k
theorem ahd_next (C:List Cr) (a:Int) (p:Bool) (i k:Nat):ahd C a p i (k+1)=ahd C a p i k+(if(C.getD i Cr.none).arc k=a/\(C.getD i Cr.none).comes k=p then 1 else 0):=by
 simp only[ahd,sd];omega
theorem sd_mono (x:Cr) (a:Int) (p:Bool) (j k:Nat) (h:j<=k):sd x a p j<=sd x a p k:=by
 induction k with
 | zero => obtain rfl : j = 0 := by omega
           exact Nat.le_refl _
 |succ k ih=>
  by_cases e:j=k+1
  · subst e;exact Nat.le_refl _
  · have:=ih (by omega)
    simp only[sd]
    omega
theorem sdTo_mono (C:List Cr) (a:Int) (p:Bool) (i n:Nat) (h:i<=n):sdTo C a p i<=sdTo C a p n:=by
 induction n with
 | zero => obtain rfl : i = 0 := by omega
           exact Nat.le_refl _
 |succ n ih=>
  by_cases e:i=n+1
  · subst e;exact Nat.le_refl _
  · have:=ih (by omega)
    simp only[sdTo]
    omega
theorem ahd_le (C:List Cr) (a:Int) (p:Bool) (i k n:Nat) (hi:i<n) (hk:k<=4):ahd C a p i k<=sdTo C a p n:=by
 have h1:=sd_mono (C.getD i Cr.none) a p k 4 hk
 have h2:=sdTo_mono C a p (i+1) n (by omega)
 simp only[sdTo]at h2
 simp only[ahd]
 omega
def fit (C:List Cr) (i k:Nat):Prop:=1<=(C.getD i Cr.none).arc k/\(C.getD i Cr.none).arc k<=2*(C.length:Int)/\ahd C ((C.getD i Cr.none).arc k) ((C.getD i Cr.none).comes k) i k=0
theorem once_sd {C:List Cr} {a:Nat} (h:onceB C a=true) (p:Bool):sdTo C a p C.length=1:=by
 simp only[onceB,Bool.and_eq_true,decide_eq_true_eq]at h
 cases p
 · rw[sdTo_out];exact h.2
 · rw[sdTo_in];exact h.1
theorem may_once {C:List Cr} {loops:Int} (h:mayD C loops=true) (a:Nat) (h1:1<=a) (h2:a<=2*C.length):onceB C a=true:=by
 cases ho:onceB C a with
 |true=>rfl
 |false=>rw[mayD_no h1 h2 ho]at h;cases h
theorem unfit_no {C:List Cr} {loops:Int} {i k:Nat} (hi:i<C.length) (hk:k<4) (h:¬fit C i k):mayD C loops=false:=by
 cases hm:mayD C loops with
 |false=>rfl
 |true=>
  exfalso
  by_cases hr:1<=(C.getD i Cr.none).arc k/\(C.getD i Cr.none).arc k<=2*(C.length:Int)
  · obtain⟨a,ha⟩:∃ a:Nat,(C.getD i Cr.none).arc k=(a:Int):=⟨((C.getD i Cr.none).arc k).toNat,by omega⟩
    have h1:=once_sd (may_once hm a (by omega) (by omega)) ((C.getD i Cr.none).comes k)
    have h2:=ahd_le C a ((C.getD i Cr.none).comes k) i (k+1) C.length hi (by omega)
    rw[ahd_next,if_pos ⟨ha,rfl⟩]at h2
    refine h ⟨hr.1,hr.2,?_⟩
    rw[ha]
    omega
  · have h1:=rngTo_lt C ((C.getD i Cr.none).comes k) (2*C.length) C.length i k hi hk rfl (by omega)
    rw[<-sum_sdTo,sumA_congr (2*C.length) (g:=fun _=>1) (fun a h2 h3=>once_sd (may_once hm a h2 h3) _),sumA_one]at h1
    omega
theorem fit_yes {C:List Cr} {loops:Int} (hs:sizeB C loops=true) (h:∀ i k,i<C.length->k<4->fit C i k):mayD C loops=true:=by
 have key:∀ p,∀ a:Nat,1<=a->a<=2*C.length->sdTo C a p C.length=1:=by
  intro p
  refine sumA_all (f:=fun a=>sdTo C a p C.length) ?_ ?_
  · intro a h1 h2
    have hrow:∀ i,i<=C.length->sdTo C a p i<=1:=by
     intro i
     induction i with
     |zero=>intro _;exact Nat.zero_le _
     |succ i ih=>
      intro hi
      have ih:=ih (by omega)
      have hcol:∀ k,k<=4->ahd C a p i k<=1:=by
       intro k
       induction k with
       |zero=>intro _;exact ih
       |succ k ihk=>
        intro hk
        have ihk:=ihk (by omega)
        rw[ahd_next]
        split
        · next e=>
          have hf:=(h i k (by omega) (by omega)).2.2
          rw[e.1,e.2]at hf
          omega
        · omega
      have:=hcol 4 (Nat.le_refl _)
      exact this
    exact hrow C.length (Nat.le_refl _)
  · rw[sum_sdTo]
    exact rngTo_all C p _ C.length fun i k hi hk _=>by
     have:=h i k hi hk
     exact⟨this.1,by have:=this.2.1;omega⟩
 refine mayD_yes hs fun a h1 h2=>?_
 simp only[onceB,Bool.and_eq_true,decide_eq_true_eq]
 exact⟨by rw[<-sdTo_in];exact key true a h1 h2,by rw[<-sdTo_out];exact key false a h1 h2⟩
end Go.Proofs.Ytgagenmkpmmpfaa
/- Where arcs begin and end; walks along strands; Dowker's numbers. Plain mathematics: no program is named here. -/
namespace Go.Proofs.Ytgagenmkpmmpfaa
def sideEnd (x:Cr) (i:Nat) (a:Int) (p:Bool) (z:Int×Int):Nat->Int×Int
 |0=>z
 |k+1=>if x.arc k=a/\x.comes k=p then((i:Int),(k:Int)) else sideEnd x i a p z k
def endTo (C:List Cr) (a:Int) (p:Bool):Nat->Int×Int
 |0=>(-1,0)
 |i+1=>sideEnd (C.getD i Cr.none) i a p (endTo C a p i) 4
def endAh (C:List Cr) (a:Int) (p:Bool) (i k:Nat):Int×Int:=sideEnd (C.getD i Cr.none) i a p (endTo C a p i) k
theorem endAh_next (C:List Cr) (a:Int) (p:Bool) (i k:Nat):endAh C a p i (k+1)=if(C.getD i Cr.none).arc k=a/\(C.getD i Cr.none).comes k=p then((i:Int),(k:Int)) else endAh C a p i k:=rfl
theorem sideEnd_cases (x:Cr) (i:Nat) (a:Int) (p:Bool) (z:Int×Int) (k:Nat):(sd x a p k=0/\sideEnd x i a p z k=z)∨(0<sd x a p k/\∃ j,j<k/\x.arc j=a/\x.comes j=p/\sideEnd x i a p z k=((i:Int),(j:Int))):=by
 induction k with
 |zero=>exact Or.inl ⟨rfl,rfl⟩
 |succ k ih=>
  by_cases h:x.arc k=a/\x.comes k=p
  · refine Or.inr ⟨?_,k,by omega,h.1,h.2,?_⟩
    · simp only[sd];rw[if_pos h];omega
    · simp only[sideEnd];rw[if_pos h]
  · have e1:sd x a p (k+1)=sd x a p k:=by simp only[sd];rw[if_neg h];rfl
    have e2:sideEnd x i a p z (k+1)=sideEnd x i a p z k:=by simp only[sideEnd];rw[if_neg h]
    rw[e1,e2]
    rcases ih with ih|⟨h1,j,h2,h3⟩
    · exact Or.inl ih
    · exact Or.inr ⟨h1,j,by omega,h3⟩
theorem endTo_cases (C:List Cr) (a:Int) (p:Bool) (n:Nat):(sdTo C a p n=0/\endTo C a p n=(-1,0))∨(0<sdTo C a p n/\∃ i j,i<n/\j<4/\(C.getD i Cr.none).arc j=a/\(C.getD i Cr.none).comes j=p/\endTo C a p n=((i:Int),(j:Int))):=by
 induction n with
 |zero=>exact Or.inl ⟨rfl,rfl⟩
 |succ n ih=>
  simp only[sdTo,endTo]
  rcases sideEnd_cases (C.getD n Cr.none) n a p (endTo C a p n) 4 with⟨h1,h2⟩|⟨h1,j,h2,h3,h4,h5⟩
  · rw[h1,h2]
    rcases ih with ih|⟨h1,i,j,h2,h3⟩
    · exact Or.inl ih
    · exact Or.inr ⟨h1,i,j,by omega,h3⟩
  · exact Or.inr ⟨by omega,n,j,by omega,h2,h3,h4,h5⟩
theorem endAh_cases (C:List Cr) (a:Int) (p:Bool) (i k:Nat) (hk:k<=4):(ahd C a p i k=0/\endAh C a p i k=(-1,0))∨(0<ahd C a p i k/\∃ i' j:Nat,j<4/\endAh C a p i k=((i':Int),(j:Int))):=by
 simp only[ahd,endAh]
 rcases sideEnd_cases (C.getD i Cr.none) i a p (endTo C a p i) k with⟨h1,h2⟩|⟨h1,j,h2,h3,h4,h5⟩
 · rw[h1,h2]
   rcases endTo_cases C a p i with h|⟨h1,i',j,h2,h3,h4,h5,h6⟩
   · exact Or.inl h
   · exact Or.inr ⟨h1,i',j,h3,h6⟩
 · exact Or.inr ⟨by omega,i,j,by omega,h5⟩
theorem endAh_free (C:List Cr) (a:Int) (p:Bool) (i k:Nat) (hk:k<=4):(endAh C a p i k).1 = -1↔ahd C a p i k=0:=by
 rcases endAh_cases C a p i k hk with⟨h1,h2⟩|⟨h1,i',j,h2,h3⟩
 · rw[h1,h2];simp
 · rw[h3]
   constructor
   · intro h
     have:(i':Int) = -1:=h
     omega
   · intro h;omega
def ends (C:List Cr) (p:Bool) (i k:Nat):List (Int×Int):=(List.range (2*C.length+1)).map fun a=>if a=0 then(-1,0) else endAh C (a:Nat) p i k
theorem ends_length (C:List Cr) (p:Bool) (i k:Nat):(ends C p i k).length=2*C.length+1:=by simp[ends]
theorem ends_at (C:List Cr) (p:Bool) (i k a:Nat) (h1:1<=a) (h2:a<=2*C.length):(ends C p i k).getD a (0,0)=endAh C a p i k:=by
 unfold ends
 rw[List.getD_eq_getElem?_getD,List.getElem?_map,List.getElem?_range (by omega)]
 simp
 omega
theorem ends_start (C:List Cr) (p:Bool):ends C p 0 0=List.replicate (2*C.length+1) (-1,0):=by
 apply List.ext_getElem
 · simp[ends]
 · intro j h1 h2
   simp only[ends,List.getElem_map,List.getElem_range,List.getElem_replicate]
   split<;>rfl
theorem ends_keep (C:List Cr) (p:Bool) (i k:Nat) (h:(C.getD i Cr.none).comes k≠p):ends C p i (k+1)=ends C p i k:=by
 unfold ends
 apply List.map_congr_left
 intro a _
 have e:endAh C (a:Nat) p i (k+1)=endAh C (a:Nat) p i k:=by rw[endAh_next,if_neg (fun e=>h e.2)]
 simp only[e]
theorem ends_set (C:List Cr) (p:Bool) (i k a:Nat) (h1:1<=a) (hc:(C.getD i Cr.none).comes k=p) (ha:(C.getD i Cr.none).arc k=(a:Int)):(ends C p i k).set a ((i:Int),(k:Int))=ends C p i (k+1):=by
 apply List.ext_getElem
 · simp[ends]
 · intro j h2 h3
   rw[List.getElem_set]
   simp only[ends,List.getElem_map,List.getElem_range]
   by_cases e:a=j
   · subst e
     rw[if_pos rfl,if_neg (by omega),endAh_next,if_pos ⟨ha,hc⟩]
   · have e2:endAh C (j:Nat) p i (k+1)=endAh C (j:Nat) p i k:=by rw[endAh_next,if_neg (fun h=>e (by have:=h.1;rw[ha]at this;omega))]
     rw[if_neg e,e2]
theorem end_may {C:List Cr} {loops:Int} (hm:mayD C loops=true) (a:Nat) (h1:1<=a) (h2:a<=2*C.length) (p:Bool):∃ i k:Nat,i<C.length/\k<4/\(C.getD i Cr.none).arc k=(a:Int)/\(C.getD i Cr.none).comes k=p/\endTo C a p C.length=((i:Int),(k:Int)):=by
 have ho:=once_sd (may_once hm a h1 h2) p
 rcases endTo_cases C a p C.length with⟨h,_⟩|⟨_,i,j,h3,h4,h5,h6,h7⟩
 · omega
 · exact⟨i,j,h3,h4,h5,h6,h7⟩
theorem sd_at (x:Cr) (a:Int) (p:Bool) (k n:Nat) (hk:k<n) (h:x.arc k=a/\x.comes k=p):0<sd x a p n:=by
 have:=sd_mono x a p (k+1) n (by omega)
 simp only[sd]at this
 rw[if_pos h]at this
 omega
theorem sd_two (x:Cr) (a:Int) (p:Bool) (j k n:Nat) (hj:j<k) (hk:k<n) (h:x.arc j=a/\x.comes j=p) (h2:x.arc k=a/\x.comes k=p):2<=sd x a p n:=by
 have h3:=sd_at x a p j k hj h
 have:=sd_mono x a p (k+1) n (by omega)
 simp only[sd]at this
 rw[if_pos h2]at this
 omega
theorem end_one {C:List Cr} {loops:Int} (hm:mayD C loops=true) (a:Nat) (h1:1<=a) (h2:a<=2*C.length) (p:Bool) (i k:Nat) (hi:i<C.length) (hk:k<4) (ha:(C.getD i Cr.none).arc k=(a:Int)) (hc:(C.getD i Cr.none).comes k=p):endTo C a p C.length=((i:Int),(k:Int)):=by
 have ho:=once_sd (may_once hm a h1 h2) p
 obtain⟨i',k',h3,h4,h5,h6,h7⟩:=end_may hm a h1 h2 p
 rw[h7]
 have row:∀ u v s t:Nat,u<v->v<C.length->s<4->t<4->(C.getD u Cr.none).arc s=(a:Int)->(C.getD u Cr.none).comes s=p->(C.getD v Cr.none).arc t=(a:Int)->(C.getD v Cr.none).comes t=p->False:=by
  intro u v s t huv hv hs ht e1 e2 e3 e4
  have g1:=sd_at (C.getD u Cr.none) a p s 4 hs ⟨e1,e2⟩
  have g2:=sd_at (C.getD v Cr.none) a p t 4 ht ⟨e3,e4⟩
  have g3:=sdTo_mono C a p (u+1) v (by omega)
  have g4:=sdTo_mono C a p (v+1) C.length (by omega)
  simp only[sdTo]at g3 g4
  omega
 have col:∀ u s t:Nat,s<t->u<C.length->t<4->(C.getD u Cr.none).arc s=(a:Int)->(C.getD u Cr.none).comes s=p->(C.getD u Cr.none).arc t=(a:Int)->(C.getD u Cr.none).comes t=p->False:=by
  intro u s t hst hu ht e1 e2 e3 e4
  have g2:=sd_two (C.getD u Cr.none) a p s t 4 hst ht ⟨e1,e2⟩ ⟨e3,e4⟩
  have g4:=sdTo_mono C a p (u+1) C.length (by omega)
  simp only[sdTo]at g4
  omega
 rcases Nat.lt_trichotomy i i' with h|h|h
 · exact(row i i' k k' h h3 hk h4 ha hc h5 h6).elim
 · subst h
   rcases Nat.lt_trichotomy k k' with h|h|h
   · exact(col i k k' h hi h4 ha hc h5 h6).elim
   · subst h;rfl
   · exact(col i k' k h hi hk h5 h6 ha hc).elim
 · exact(row i' i k' k h hi h4 hk h5 h6 ha hc).elim
theorem may_fit {C:List Cr} {loops:Int} (hm:mayD C loops=true) (i k:Nat) (hi:i<C.length) (hk:k<4):fit C i k:=by
 refine Classical.byContradiction fun h=>?_
 rw[unfit_no hi hk h]at hm
 cases hm
def toC (C:List Cr) (a:Nat):Nat:=(endTo C a true C.length).1.toNat
def toS (C:List Cr) (a:Nat):Nat:=(endTo C a true C.length).2.toNat
def nx (C:List Cr) (a:Nat):Nat:=((C.getD (toC C a) Cr.none).arc ((toS C a+2)%4)).toNat
theorem to_may {C:List Cr} {loops:Int} (hm:mayD C loops=true) (a:Nat) (h1:1<=a) (h2:a<=2*C.length):endTo C a true C.length=((toC C a:Int),(toS C a:Int))/\toC C a<C.length/\toS C a<4/\(C.getD (toC C a) Cr.none).arc (toS C a)=(a:Int)/\(C.getD (toC C a) Cr.none).comes (toS C a)=true:=by
 obtain⟨i,k,h3,h4,h5,h6,h7⟩:=end_may hm a h1 h2 true
 have e1:toC C a=i:=by unfold toC;rw[h7];simp
 have e2:toS C a=k:=by unfold toS;rw[h7];simp
 rw[e1,e2]
 exact⟨h7,h3,h4,h5,h6⟩
theorem nx_may {C:List Cr} {loops:Int} (hm:mayD C loops=true) (a:Nat) (h1:1<=a) (h2:a<=2*C.length):(C.getD (toC C a) Cr.none).arc ((toS C a+2)%4)=(nx C a:Int)/\1<=nx C a/\nx C a<=2*C.length:=by
 obtain⟨h3,h4,h5,h6,h7⟩:=to_may hm a h1 h2
 have hf:=may_fit hm (toC C a) ((toS C a+2)%4) h4 (by omega)
 have g1:=hf.1
 have g2:=hf.2.1
 unfold nx
 omega
def walkF (f:Nat->Nat):Nat->List Bool->Nat->List Nat->List Nat×List Bool
 |0,seen,_,acc=>(acc,seen)
 |m+1,seen,x,acc=>if seen.getD x true=true then(acc,seen) else walkF f m (seen.set x true) (f x) (acc++[x])
def unseen (l:List Bool):Nat:=l.countP (fun b=>!b)
theorem unseen_set {l:List Bool} {x:Nat} (h:l.getD x true=false):unseen (l.set x true)+1=unseen l:=by
 induction l generalizing x with
 |nil=>simp at h
 |cons b l ih=>
  cases x with
  |zero=>
   have:b=false:=by simpa using h
   subst this
   simp[unseen]
  |succ x=>
   have:=ih (x:=x) (by simpa using h)
   simp only[unseen,List.set_cons_succ,List.countP_cons]at this ⊢
   omega
theorem unseen_pos {l:List Bool} {x:Nat} (h:l.getD x true=false):0<unseen l:=by have:=unseen_set h;omega
theorem walkF_seen {f:Nat->Nat} {m:Nat} {seen:List Bool} {x:Nat} {acc:List Nat} (h:seen.getD x true=true):walkF f m seen x acc=(acc,seen):=by
 cases m with
 |zero=>rfl
 |succ m=>simp only[walkF];rw[if_pos h]
theorem walkF_more {f:Nat->Nat} {m:Nat} {seen:List Bool} {x:Nat} {acc:List Nat} (h:seen.getD x true=false) (hm:unseen seen<=m):walkF f m seen x acc=walkF f (m-1) (seen.set x true) (f x) (acc++[x])/\unseen (seen.set x true)<=m-1:=by
 have h2:=unseen_set h
 cases m with
 |zero=>omega
 |succ m=>
  simp only[walkF]
  rw[if_neg (by rw[h];decide)]
  exact⟨rfl,by omega⟩
def walksTo (f:Nat->Nat) (n:Nat):Nat->List (List Nat)×List Bool
 |0=>([],List.replicate (n+1) false)
 |a+1=>let r:=walksTo f n a;let s:=walkF f (n+1) r.2 (a+1) [];(if s.1=[] then r.1 else r.1++[s.1],s.2)
def walksM (C:List Cr):List (List Nat):=(walksTo (nx C) (2*C.length) (2*C.length)).1
theorem walkF_len (f:Nat->Nat) (m:Nat) (seen:List Bool) (x:Nat) (acc:List Nat):(walkF f m seen x acc).2.length=seen.length:=by
 induction m generalizing seen x acc with
 |zero=>rfl
 |succ m ih=>
  simp only[walkF]
  split
  · rfl
  · rw[ih];simp
theorem unseen_le (l:List Bool):unseen l<=l.length:=List.countP_le_length
theorem walksTo_len (f:Nat->Nat) (n a:Nat):(walksTo f n a).2.length=n+1:=by
 induction a with
 |zero=>simp[walksTo]
 |succ a ih=>simp only[walksTo];rw[walkF_len,ih]
theorem walkF_mem {f:Nat->Nat} {n:Nat} (hf:∀ a,1<=a->a<=n->1<=f a/\f a<=n) (m:Nat) (seen:List Bool) (x:Nat) (acc:List Nat) (h1:1<=x) (h2:x<=n) (ha:∀ y,y∈acc->1<=y/\y<=n):∀ y,y∈(walkF f m seen x acc).1->1<=y/\y<=n:=by
 induction m generalizing seen x acc with
 |zero=>exact ha
 |succ m ih=>
  simp only[walkF]
  split
  · exact ha
  · refine ih _ _ _ (hf x h1 h2).1 (hf x h1 h2).2 fun y hy=>?_
    rcases List.mem_append.1 hy with hy|hy
    · exact ha y hy
    · rw[List.mem_singleton.1 hy];exact⟨h1,h2⟩
theorem walkF_size (f:Nat->Nat) (m:Nat) (seen:List Bool) (x:Nat) (acc:List Nat):(walkF f m seen x acc).1.length+unseen (walkF f m seen x acc).2=acc.length+unseen seen:=by
 induction m generalizing seen x acc with
 |zero=>rfl
 |succ m ih=>
  simp only[walkF]
  split
  · rfl
  · next h=>
    have h':seen.getD x true=false:=by cases hb:seen.getD x true with
     |true=>exact absurd hb h
     |false=>rfl
    have:=unseen_set h'
    rw[ih]
    simp only[List.length_append,List.length_cons,List.length_nil]
    omega
theorem walksTo_mem {f:Nat->Nat} {n:Nat} (hf:∀ a,1<=a->a<=n->1<=f a/\f a<=n) (a:Nat) (ha:a<=n):∀ l,l∈(walksTo f n a).1->l≠[]/\l.length<=n+1/\∀ y,y∈l->1<=y/\y<=n:=by
 induction a with
 |zero=>intro l hl;simp[walksTo]at hl
 |succ a ih=>
  intro l hl
  simp only[walksTo]at hl
  split at hl
  · exact ih (by omega) l hl
  · next he=>
    rcases List.mem_append.1 hl with hl|hl
    · exact ih (by omega) l hl
    · rw[List.mem_singleton.1 hl]
      refine⟨he,?_,walkF_mem hf _ _ _ _ (by omega) ha fun y hy=>by cases hy⟩
      have h1:=walkF_size f (n+1) (walksTo f n a).2 (a+1) []
      have h2:=unseen_le (walksTo f n a).2
      rw[walksTo_len]at h2
      simp only[List.length_nil]at h1
      omega
theorem walksTo_count (f:Nat->Nat) (n a:Nat):(walksTo f n a).1.length<=a:=by
 induction a with
 |zero=>exact Nat.le_refl _
 |succ a ih=>
  simp only[walksTo]
  split
  · omega
  · simp only[List.length_append,List.length_cons,List.length_nil];omega
theorem nx_closed {C:List Cr} {loops:Int} (hm:mayD C loops=true):∀ a,1<=a->a<=2*C.length->1<=nx C a/\nx C a<=2*C.length:=fun a h1 h2=>(nx_may hm a h1 h2).2
def cp (x:Nat->Nat) (c r:Nat):Nat->Nat
 |0=>0
 |m+1=>cp x c r m+(if x m=c/\m%2=r then 1 else 0)
def par (r:Nat):Nat->Nat
 |0=>0
 |m+1=>par r m+(if m%2=r then 1 else 0)
def un (l:List Bool) (y:Nat):Nat:=if l.getD y true=true then 0 else 1
theorem un_set_same {l:List Bool} {x:Nat}:un (l.set x true) x=0:=by
 unfold un
 rw[if_pos]
 rw[List.getD_eq_getElem?_getD]
 by_cases h:x<l.length
 · simp[h]
 · rw[List.getElem?_eq_none (by simp;omega)];rfl
theorem un_set_other {l:List Bool} {x y:Nat} (h:x≠y):un (l.set x true) y=un l y:=by
 unfold un
 rw[List.getD_eq_getElem?_getD,List.getD_eq_getElem?_getD,List.getElem?_set_ne h]
theorem walkF_count (f:Nat->Nat) (m:Nat) (seen:List Bool) (x:Nat) (acc:List Nat) (y:Nat):(walkF f m seen x acc).1.count y+un (walkF f m seen x acc).2 y=acc.count y+un seen y:=by
 induction m generalizing seen x acc with
 |zero=>rfl
 |succ m ih=>
  simp only[walkF]
  split
  · rfl
  · next h=>
    rw[ih,List.count_append]
    by_cases e:x=y
    · subst e
      have e1:un seen x=1:=by unfold un;rw[if_neg h]
      rw[un_set_same,e1]
      simp
    · rw[un_set_other e,List.count_cons_of_ne e]
      simp
theorem walkF_keep (f:Nat->Nat) (m:Nat) (seen:List Bool) (x:Nat) (acc:List Nat) (y:Nat) (h:un seen y=0):un (walkF f m seen x acc).2 y=0:=by
 induction m generalizing seen x acc with
 |zero=>exact h
 |succ m ih=>
  simp only[walkF]
  split
  · exact h
  · apply ih
    by_cases e:x=y
    · subst e;exact un_set_same
    · rw[un_set_other e];exact h
theorem walkF_first (f:Nat->Nat) (m:Nat) (seen:List Bool) (x:Nat) (acc:List Nat):un (walkF f (m+1) seen x acc).2 x=0:=by
 simp only[walkF]
 split
 · next h=>unfold un;rw[if_pos h]
 · exact walkF_keep f m _ _ _ x un_set_same
theorem walksTo_seen (f:Nat->Nat) (n a:Nat):∀ y,1<=y->y<=a->un (walksTo f n a).2 y=0:=by
 induction a with
 |zero=>intro y h1 h2;omega
 |succ a ih=>
  intro y h1 h2
  simp only[walksTo]
  by_cases e:y=a+1
  · subst e;exact walkF_first f n _ _ _
  · exact walkF_keep f (n+1) _ _ _ y (ih y h1 (by omega))
theorem walksTo_one (f:Nat->Nat) (n a y:Nat) (_h1:1<=y) (h2:y<=n):(walksTo f n a).1.flatten.count y+un (walksTo f n a).2 y=1:=by
 induction a with
 |zero=>
  have e:un (walksTo f n 0).2 y=1:=by
   have e2:(walksTo f n 0).2.getD y true=false:=by
    show(List.replicate (n+1) false).getD y true=false
    rw[List.getD_eq_getElem?_getD,List.getElem?_replicate,if_pos (by omega)]
    rfl
   unfold un
   rw[e2]
   rfl
  rw[e]
  rfl
 |succ a ih=>
  have hc:=walkF_count f (n+1) (walksTo f n a).2 (a+1) [] y
  simp only[walksTo]
  split
  · next he=>
    rw[he]at hc
    simp at hc
    omega
  · rw[List.flatten_append,List.count_append]
    simp at hc ⊢
    omega
theorem walks_once (f:Nat->Nat) (n y:Nat) (h1:1<=y) (h2:y<=n):(walksTo f n n).1.flatten.count y=1:=by
 have e1:=walksTo_one f n n y h1 h2
 have e2:=walksTo_seen f n n y h1 h2
 omega
end Go.Proofs.Ytgagenmkpmmpfaa
/- Plain mathematics: what edges join; labels that are levelled along edges, round by round, come to the least of what is joined. -/
namespace Go.Proofs.Ytgagenmkpmmpfaa
def Closed (E:List (Nat×Nat)) (S:Nat->Prop):Prop:=∀ e,e∈E->(S e.1↔S e.2)
def Con (E:List (Nat×Nat)) (x y:Nat):Prop:=∀ S,Closed E S->S x->S y
theorem Con.refl (E:List (Nat×Nat)) (x:Nat):Con E x x:=fun _ _ h=>h
theorem Con.trans {E:List (Nat×Nat)} {x y z:Nat} (h:Con E x y) (g:Con E y z):Con E x z:=fun S hS hx=>g S hS (h S hS hx)
theorem Con.symm {E:List (Nat×Nat)} {x y:Nat} (h:Con E x y):Con E y x:=fun S hS hy=>
 Classical.byContradiction fun hx=>h (fun z=>¬ S z) (fun e he=>not_congr (hS e he)) hx hy
theorem Con.edge {E:List (Nat×Nat)} {x y:Nat} (h:(x,y)∈E):Con E x y:=fun _ hS hx=>(hS (x,y) h).1 hx
theorem con_min (E:List (Nat×Nat)) (v:Nat):∃ m,Con E v m/\∀ u,Con E v u->m<=u:=by
 have key:∀ k x,x<=k->Con E v x->∃ m,Con E v m/\∀ u,Con E v u->m<=u:=by
  intro k
  induction k with
  |zero=>intro x hx h;exact⟨x,h,fun u _=>by omega⟩
  |succ k ih=>
   intro x hx h
   by_cases hs:∃ y,y<x/\Con E v y
   · obtain⟨y,hy,hc⟩:=hs
     exact ih y (by omega) hc
   · exact⟨x,h,fun u hu=>Nat.le_of_not_lt fun hlt=>hs ⟨u,hlt,hu⟩⟩
 exact key v v (Nat.le_refl _) (Con.refl E v)
def lev (W:List Nat) (x y:Nat):List Nat:=if W.getD x 0<W.getD y 0 then W.set y (W.getD x 0) else W.set x (W.getD y 0)
theorem lev_len (W:List Nat) (x y:Nat):(lev W x y).length=W.length:=by unfold lev;split<;>simp
theorem getD_set (W:List Nat) (i v z:Nat) (hi:i<W.length):(W.set i z).getD v 0=if v=i then z else W.getD v 0:=by
 simp only[List.getD_eq_getElem?_getD,List.getElem?_set]
 by_cases h:i=v
 · subst h;simp[hi]
 · simp[h,Ne.symm h]
structure Lab (E:List (Nat×Nat)) (n:Nat) (W:List Nat):Prop where
 len:W.length=n
 le:∀ v,v<n->W.getD v 0<=v
 con:∀ v,v<n->Con E v (W.getD v 0)
theorem lev_at {W:List Nat} {x y v:Nat} (hx:x<W.length) (hy:y<W.length):(lev W x y).getD v 0<=W.getD v 0/\((lev W x y).getD v 0=W.getD v 0∨(v=x/\(lev W x y).getD v 0=W.getD y 0)∨(v=y/\(lev W x y).getD v 0=W.getD x 0)):=by
 unfold lev
 split
 · rw[getD_set _ _ _ _ hy]
   split
   · subst v;exact⟨by omega,Or.inr (Or.inr ⟨rfl,rfl⟩)⟩
   · exact⟨Nat.le_refl _,Or.inl rfl⟩
 · rw[getD_set _ _ _ _ hx]
   split
   · subst v;exact⟨by omega,Or.inr (Or.inl ⟨rfl,rfl⟩)⟩
   · exact⟨Nat.le_refl _,Or.inl rfl⟩
theorem lev_both {W:List Nat} {x y:Nat} (hx:x<W.length) (hy:y<W.length):(lev W x y).getD x 0<=W.getD y 0/\(lev W x y).getD y 0<=W.getD x 0:=by
 unfold lev
 split
 · rename_i h
   rw[getD_set _ _ _ _ hy,getD_set _ _ _ _ hy,if_pos rfl]
   refine⟨?_,Nat.le_refl _⟩
   split<;>omega
 · rename_i h
   rw[getD_set _ _ _ _ hx,getD_set _ _ _ _ hx,if_pos rfl]
   refine⟨Nat.le_refl _,?_⟩
   split<;>omega
theorem Lab.lev {E:List (Nat×Nat)} {n:Nat} {W:List Nat} (h:Lab E n W) {x y:Nat} (hx:x<n) (hy:y<n) (he:Con E x y):Lab E n (lev W x y):=by
 have hl:=h.len
 refine⟨by rw[lev_len,hl],fun v hv=>?_,fun v hv=>?_⟩
 · have:=(lev_at (W:=W) (x:=x) (y:=y) (v:=v) (by omega) (by omega)).1
   have:=h.le v hv
   omega
 · rcases(lev_at (W:=W) (x:=x) (y:=y) (v:=v) (by omega) (by omega)).2 with e|⟨hvx,e⟩|⟨hvy,e⟩
   · rw[e];exact h.con v hv
   · rw[e,hvx];exact he.trans (h.con y hy)
   · rw[e,hvy];exact he.symm.trans (h.con x hx)
def levs (W:List Nat):List (Nat×Nat)->List Nat
 |[]=>W
 |e::E=>levs (lev W e.1 e.2) E
def Done (E:List (Nat×Nat)) (W:List Nat) (v:Nat):Prop:=∀ u,Con E v u->W.getD v 0<=u
theorem levs_lab {E:List (Nat×Nat)} {n:Nat} (F:List (Nat×Nat)) (hF:∀ e,e∈F->e.1<n/\e.2<n/\Con E e.1 e.2):∀ W,Lab E n W->Lab E n (levs W F)/\∀ v,(levs W F).getD v 0<=W.getD v 0:=by
 induction F with
 |nil=>intro W h;exact⟨h,fun v=>Nat.le_refl _⟩
 |cons e F ih=>
  intro W h
  obtain⟨h1,h2,h3⟩:=hF e (List.Mem.head _)
  have hl:=h.len
  have h':=h.lev h1 h2 h3
  obtain⟨g1,g2⟩:=ih (fun e' he'=>hF e' (List.Mem.tail _ he')) _ h'
  exact⟨g1,fun v=>Nat.le_trans (g2 v) (lev_at (by omega) (by omega)).1⟩
theorem levs_done {E:List (Nat×Nat)} {n:Nat} (F:List (Nat×Nat)) (hF:∀ e,e∈F->e.1<n/\e.2<n/\Con E e.1 e.2) (e:Nat×Nat) (he:e∈F):∀ W,Lab E n W->(Done E W e.1∨Done E W e.2)->Done E (levs W F) e.1/\Done E (levs W F) e.2:=by
 induction F with
 |nil=>cases he
 |cons f F ih=>
  intro W h hd
  obtain⟨h1,h2,h3⟩:=hF f (List.Mem.head _)
  have hl:=h.len
  have h':=h.lev h1 h2 h3
  have hF':∀ e,e∈F->e.1<n/\e.2<n/\Con E e.1 e.2:=fun e' he'=>hF e' (List.Mem.tail _ he')
  rcases List.mem_cons.1 he with rfl|he'
  · have g:∀ v,(levs W (e::F)).getD v 0<=(lev W e.1 e.2).getD v 0:=(levs_lab F hF' _ h').2
    have hb:=lev_both (W:=W) (x:=e.1) (y:=e.2) (by omega) (by omega)
    have ha1:=(lev_at (W:=W) (x:=e.1) (y:=e.2) (v:=e.1) (by omega) (by omega)).1
    have ha2:=(lev_at (W:=W) (x:=e.1) (y:=e.2) (v:=e.2) (by omega) (by omega)).1
    rcases hd with hd|hd
    · exact⟨fun u hu=>by have:=hd u hu;have:=g e.1;omega,fun u hu=>by have:=hd u (h3.trans hu);have:=g e.2;omega⟩
    · exact⟨fun u hu=>by have:=hd u (h3.symm.trans hu);have:=g e.1;omega,fun u hu=>by have:=hd u hu;have:=g e.2;omega⟩
  · refine ih hF' he' _ h' ?_
    rcases hd with hd|hd
    · exact Or.inl fun u hu=>Nat.le_trans (lev_at (by omega) (by omega)).1 (hd u hu)
    · exact Or.inr fun u hu=>Nat.le_trans (lev_at (by omega) (by omega)).1 (hd u hu)
def levR (W:List Nat) (E:List (Nat×Nat)):Nat->List Nat
 |0=>W
 |r+1=>levs (levR W E r) E
theorem levR_lab {E:List (Nat×Nat)} {n:Nat} (hE:∀ e,e∈E->e.1<n/\e.2<n) {W:List Nat} (h:Lab E n W) (r:Nat):Lab E n (levR W E r):=by
 induction r with
 |zero=>exact h
 |succ r ih=>exact(levs_lab E (fun e he=>⟨(hE e he).1,(hE e he).2,Con.edge he⟩) _ ih).1
theorem countP_more {p q:Nat->Bool} (l:List Nat) (h:∀ x,p x=true->q x=true) (y:Nat) (hy:y∈l) (h1:p y=false) (h2:q y=true):l.countP p<l.countP q:=by
 induction l with
 |nil=>cases hy
 |cons x l ih=>
  have hm:l.countP p<=l.countP q:=List.countP_mono_left (fun a _=>h a)
  rcases List.mem_cons.1 hy with rfl|hy'
  · simp[h1,h2];omega
  · have:=ih hy'
    simp only[List.countP_cons]
    have:(if p x=true then 1 else 0)<=(if q x=true then 1 else(0:Nat)):=by
     by_cases hp:p x=true
     · simp[hp,h x hp]
     · simp[hp]
    omega
open Classical in
theorem levR_done {E:List (Nat×Nat)} {n:Nat} (hE:∀ e,e∈E->e.1<n/\e.2<n) {W:List Nat} (h:Lab E n W) (r:Nat):(∀ v,v<n->Done E (levR W E r) v)∨r<=(List.range n).countP (fun v=>decide (Done E (levR W E r) v)):=by
 induction r with
 |zero=>exact Or.inr (Nat.zero_le _)
 |succ r ih=>
  have hF:∀ e,e∈E->e.1<n/\e.2<n/\Con E e.1 e.2:=fun e he=>⟨(hE e he).1,(hE e he).2,Con.edge he⟩
  have hl:=levR_lab hE h r
  have hg:=(levs_lab E hF _ hl).2
  have hmono:∀ v,Done E (levR W E r) v->Done E (levR W E (r+1)) v:=fun v hd u hu=>Nat.le_trans (hg v) (hd u hu)
  by_cases hall:∀ v,v<n->Done E (levR W E r) v
  · exact Or.inl fun v hv=>hmono v (hall v hv)
  · right
    have hr:r<=(List.range n).countP (fun v=>decide (Done E (levR W E r) v)):=by
     rcases ih with h1|h1
     · exact absurd h1 hall
     · exact h1
    obtain⟨v,hv⟩:=Classical.not_forall.1 hall
    have hvn:v<n:=Classical.byContradiction fun hc=>hv fun hh=>absurd hh hc
    have hvd:¬ Done E (levR W E r) v:=fun hd=>hv fun _=>hd
    obtain⟨m,hm1,hm2⟩:=con_min E v
    have hmn:m<n:=Nat.lt_of_le_of_lt (hm2 v (Con.refl E v)) hvn
    have hmd:Done E (levR W E r) m:=fun u hu=>Nat.le_trans (hl.le m hmn) (hm2 u (hm1.trans hu))
    -- a done and an undone end of an edge
    have hex:∃ e,e∈E/\((Done E (levR W E r) e.1/\¬ Done E (levR W E r) e.2)∨(¬ Done E (levR W E r) e.1/\Done E (levR W E r) e.2)):=Classical.byContradiction fun hno=>by
     have hcl:Closed E (fun z=>Done E (levR W E r) z):=fun e he=>by
      constructor
      · intro h1
        exact Classical.byContradiction fun h2=>hno ⟨e,he,Or.inl ⟨h1,h2⟩⟩
      · intro h1
        exact Classical.byContradiction fun h2=>hno ⟨e,he,Or.inr ⟨h2,h1⟩⟩
     exact hvd (hm1.symm _ hcl hmd)
    obtain⟨e,he,hone⟩:=hex
    have hb:=levs_done E hF e he _ hl (hone.elim (fun a=>Or.inl a.1) (fun a=>Or.inr a.2))
    refine Nat.lt_of_le_of_lt hr ?_
    rcases hone with⟨_,h2⟩|⟨h1,_⟩
    · exact countP_more _ (fun x hx=>by simp only[decide_eq_true_eq]at hx ⊢;exact hmono x hx) e.2 (List.mem_range.2 (hE e he).2) (by simp[h2]) (by simp;exact hb.2)
    · exact countP_more _ (fun x hx=>by simp only[decide_eq_true_eq]at hx ⊢;exact hmono x hx) e.1 (List.mem_range.2 (hE e he).1) (by simp[h1]) (by simp;exact hb.1)
def Least (E:List (Nat×Nat)) (n:Nat) (W:List Nat):Prop:=W.length=n/\∀ v,v<n->Con E v (W.getD v 0)/\∀ u,Con E v u->W.getD v 0<=u
theorem Least.eq {E:List (Nat×Nat)} {n:Nat} {W V:List Nat} (h:Least E n W) (g:Least E n V):W=V:=by
 refine List.ext_getElem (by rw[h.1,g.1]) fun i h1 h2=>?_
 have hi:i<n:=by rw[<-h.1];exact h1
 have a:=h.2 i hi
 have b:=g.2 i hi
 have e:W.getD i 0=V.getD i 0:=Nat.le_antisymm (a.2 _ b.1) (b.2 _ a.1)
 simpa[List.getD_eq_getElem?_getD,h1,h2] using e
theorem Least.lt {E:List (Nat×Nat)} {n:Nat} {W:List Nat} (h:Least E n W) {v:Nat} (hv:v<n):W.getD v 0<n:=Nat.lt_of_le_of_lt ((h.2 v hv).2 v (Con.refl E v)) hv
theorem Least.same {E:List (Nat×Nat)} {n:Nat} {W:List Nat} (h:Least E n W) {u v:Nat} (hu:u<n) (hv:v<n):W.getD u 0=W.getD v 0↔Con E u v:=by
 constructor
 · intro e
   have a:=(h.2 u hu).1
   rw[e]at a
   exact a.trans (h.2 v hv).1.symm
 · intro c
   exact Nat.le_antisymm ((h.2 u hu).2 _ (c.trans (h.2 v hv).1)) ((h.2 v hv).2 _ (c.symm.trans (h.2 u hu).1))
theorem levR_least {E:List (Nat×Nat)} {n:Nat} (hE:∀ e,e∈E->e.1<n/\e.2<n) (r:Nat) (hr:n<=r):Least E n (levR (List.range n) E r):=by
 have h0:Lab E n (List.range n):=⟨by simp,fun v hv=>by simp[List.getD_eq_getElem?_getD,hv],fun v hv=>by simp[List.getD_eq_getElem?_getD,hv,Con.refl]⟩
 have hl:=levR_lab hE h0 r
 have hall:∀ v,v<n->Done E (levR (List.range n) E r) v:=by
  rcases levR_done hE h0 r with h|h
  · exact h
  · intro v hv
    have hc:(List.range n).countP (fun v=>@decide (Done E (levR (List.range n) E r) v) (Classical.propDecidable _))=(List.range n).length:=Nat.le_antisymm List.countP_le_length (by simp;omega)
    have:=List.countP_eq_length.1 hc v (List.mem_range.2 hv)
    simpa using this
 exact⟨hl.len,fun v hv=>⟨hl.con v hv,hall v hv⟩⟩
end Go.Proofs.Ytgagenmkpmmpfaa
/- Plain mathematics: darts and the faces that they go around; pieces. -/
namespace Go.Proofs.Ytgagenmkpmmpfaa
def enC (C:List Cr) (a:Nat) (p:Bool):Nat:=(endTo C a p C.length).1.toNat
def enS (C:List Cr) (a:Nat) (p:Bool):Nat:=(endTo C a p C.length).2.toNat
theorem en_may {C:List Cr} {loops:Int} (hm:mayD C loops=true) (a:Nat) (p:Bool) (h1:1<=a) (h2:a<=2*C.length):endTo C a p C.length=((enC C a p:Int),(enS C a p:Int))/\enC C a p<C.length/\enS C a p<4/\(C.getD (enC C a p) Cr.none).arc (enS C a p)=(a:Int)/\(C.getD (enC C a p) Cr.none).comes (enS C a p)=p:=by
 obtain⟨i,k,h3,h4,h5,h6,h7⟩:=end_may hm a h1 h2 p
 have e1:enC C a p=i:=by unfold enC;rw[h7];simp
 have e2:enS C a p=k:=by unfold enS;rw[h7];simp
 rw[e1,e2]
 exact⟨h7,h3,h4,h5,h6⟩
def dA (j:Nat):Nat:=(j+1) / 2
def dB (j:Nat):Bool:=decide (j%2=0)
def mkD (a:Nat) (p:Bool):Nat:=if p=true then 2*a else 2*a-1
theorem dA_mk {a:Nat} {p:Bool} (h:1<=a):dA (mkD a p)=a:=by unfold dA mkD;split<;>omega
theorem dB_mk {a:Nat} {p:Bool} (h:1<=a):dB (mkD a p)=p:=by
 unfold dB mkD
 cases p
 · simp;omega
 · simp
theorem mk_d {j:Nat} (h:1<=j):mkD (dA j) (dB j)=j:=by
 unfold mkD dA dB
 split
 · rename_i hd;simp at hd;omega
 · rename_i hd;simp at hd;omega
theorem dA_le {j n:Nat} (h1:1<=j) (h:j<=4*n):1<=dA j/\dA j<=2*n:=by unfold dA;omega
theorem mk_le {a n:Nat} {p:Bool} (h1:1<=a) (h:a<=2*n):1<=mkD a p/\mkD a p<=4*n:=by unfold mkD;split<;>omega
def dC (C:List Cr) (j:Nat):Nat:=enC C (dA j) (!dB j)
def dS (C:List Cr) (j:Nat):Nat:=enS C (dA j) (!dB j)
def fd (C:List Cr) (j:Nat):Nat:=mkD ((C.getD (dC C j) Cr.none).arc ((dS C j+3)%4)).toNat ((C.getD (dC C j) Cr.none).comes ((dS C j+3)%4))
theorem d_may {C:List Cr} {loops:Int} (hm:mayD C loops=true) (j:Nat) (h1:1<=j) (h2:j<=4*C.length):endTo C (dA j) (!dB j) C.length=((dC C j:Int),(dS C j:Int))/\dC C j<C.length/\dS C j<4:=by
 have h:=dA_le h1 h2
 have g:=en_may hm (dA j) (!dB j) h.1 h.2
 exact⟨g.1,g.2.1,g.2.2.1⟩
theorem fd_may {C:List Cr} {loops:Int} (hm:mayD C loops=true) (j:Nat) (h1:1<=j) (h2:j<=4*C.length):(C.getD (dC C j) Cr.none).arc ((dS C j+3)%4)=(dA (fd C j):Int)/\(C.getD (dC C j) Cr.none).comes ((dS C j+3)%4)=dB (fd C j)/\1<=fd C j/\fd C j<=4*C.length:=by
 have g:=d_may hm j h1 h2
 have hf:=may_fit hm (dC C j) ((dS C j+3)%4) g.2.1 (by omega)
 have g1:=hf.1
 have g2:=hf.2.1
 unfold fd
 generalize (C.getD (dC C j) Cr.none).comes ((dS C j+3)%4)=p
 generalize (C.getD (dC C j) Cr.none).arc ((dS C j+3)%4)=x at g1 g2
 have hx:1<=x.toNat/\x.toNat<=2*C.length:=by omega
 rw[dA_mk hx.1,dB_mk hx.1]
 have:=mk_le (p:=p) hx.1 hx.2
 exact⟨by omega,rfl,this.1,this.2⟩
theorem fd_closed {C:List Cr} {loops:Int} (hm:mayD C loops=true):∀ j,1<=j->j<=4*C.length->1<=fd C j/\fd C j<=4*C.length:=fun j h1 h2=>(fd_may hm j h1 h2).2.2
def facesM (C:List Cr):List (List Nat):=(walksTo (fd C) (4*C.length) (4*C.length)).1
def nbC (C:List Cr) (k s:Nat):Nat:=enC C ((C.getD k Cr.none).arc s).toNat (!(C.getD k Cr.none).comes s)
def arcE (C:List Cr):List (Nat×Nat):=(List.range (2*C.length)).map fun i=>(enC C (i+1) true,enC C (i+1) false)
theorem en_one {C:List Cr} {loops:Int} (hm:mayD C loops=true) (k s:Nat) (hk:k<C.length) (hs:s<4):1<=((C.getD k Cr.none).arc s).toNat/\((C.getD k Cr.none).arc s).toNat<=2*C.length/\enC C ((C.getD k Cr.none).arc s).toNat ((C.getD k Cr.none).comes s)=k:=by
 have hf:=may_fit hm k s hk hs
 have g1:=hf.1
 have g2:=hf.2.1
 have ha:1<=((C.getD k Cr.none).arc s).toNat/\((C.getD k Cr.none).arc s).toNat<=2*C.length:=by omega
 refine⟨ha.1,ha.2,?_⟩
 have e:=end_one hm _ ha.1 ha.2 ((C.getD k Cr.none).comes s) k s hk hs (by omega) rfl
 unfold enC
 rw[e]
 rfl
theorem nb_lt {C:List Cr} {loops:Int} (hm:mayD C loops=true) (k s:Nat) (hk:k<C.length) (hs:s<4):nbC C k s<C.length:=by
 have h:=en_one hm k s hk hs
 exact(en_may hm _ _ h.1 h.2.1).2.1
theorem mem_arcE {C:List Cr} {a:Nat} (h1:1<=a) (h2:a<=2*C.length):(enC C a true,enC C a false)∈arcE C:=by
 unfold arcE
 refine List.mem_map.2 ⟨a-1,List.mem_range.2 (by omega),?_⟩
 rw[Nat.sub_add_cancel h1]
theorem nb_con {C:List Cr} {loops:Int} (hm:mayD C loops=true) (k s:Nat) (hk:k<C.length) (hs:s<4):Con (arcE C) k (nbC C k s):=by
 have h:=en_one hm k s hk hs
 have he:=Con.edge (mem_arcE h.1 h.2.1)
 unfold nbC
 cases hc:(C.getD k Cr.none).comes s with
 |true=>
  rw[hc]at h
  rw[h.2.2]at he
  exact he
 |false=>
  rw[hc]at h
  rw[h.2.2]at he
  exact he.symm
theorem edge_nb {C:List Cr} {loops:Int} (hm:mayD C loops=true) (e:Nat×Nat) (he:e∈arcE C):e.1<C.length/\e.2<C.length/\(∃ s,s<4/\nbC C e.1 s=e.2)/\∃ s,s<4/\nbC C e.2 s=e.1:=by
 obtain⟨i,hi,rfl⟩:=List.mem_map.1 he
 have hi':=List.mem_range.1 hi
 have h1:=en_may hm (i+1) true (by omega) (by omega)
 have h2:=en_may hm (i+1) false (by omega) (by omega)
 refine⟨h1.2.1,h2.2.1,⟨enS C (i+1) true,h1.2.2.1,?_⟩,⟨enS C (i+1) false,h2.2.2.1,?_⟩⟩
 · unfold nbC
   rw[h1.2.2.2.1,h1.2.2.2.2]
   rfl
 · unfold nbC
   rw[h2.2.2.2.1,h2.2.2.2.2]
   rfl
theorem arcE_lt {C:List Cr} {loops:Int} (hm:mayD C loops=true):∀ e,e∈arcE C->e.1<C.length/\e.2<C.length:=fun e he=>⟨(edge_nb hm e he).1,(edge_nb hm e he).2.1⟩
structure Spr (C:List Cr) (P0 P:List Int) (f:Nat) (num:Int) (todo:List Nat) (k s:Nat):Prop where
 len:P.length=C.length
 old:∀ v,v<C.length->P0.getD v 0 ≠ -1->P.getD v 0=P0.getD v 0
 new:∀ v,v<C.length->P0.getD v 0 = -1->P.getD v 0 = -1∨(P.getD v 0=num/\Con (arcE C) f v)
 fst:P.getD f 0=num
 tod:∀ v,v∈todo->v<C.length/\Con (arcE C) f v
 proc:∀ v,v<C.length->P.getD v 0=num->v∈todo∨∀ t,t<4->(v=k->t<s)->P.getD (nbC C v t) 0 ≠ -1
theorem getI_set (P:List Int) (i v:Nat) (z:Int) (hi:i<P.length):(P.set i z).getD v 0=if v=i then z else P.getD v 0:=by
 simp only[List.getD_eq_getElem?_getD,List.getElem?_set]
 by_cases h:i=v
 · subst h;simp[hi]
 · simp[h,Ne.symm h]
theorem Spr.start {C:List Cr} {P0:List Int} {f:Nat} {num:Int} (hl:P0.length=C.length) (hf:f<C.length) (h0:P0.getD f 0 = -1) (hn:∀ v,v<C.length->P0.getD v 0≠num):Spr C P0 (P0.set f num) f num [f] 0 4:=by
 have hs:∀ v,(P0.set f num).getD v 0=if v=f then num else P0.getD v 0:=fun v=>getI_set _ _ _ _ (by omega)
 refine⟨by simp[hl],fun v hv h=>?_,fun v hv h=>?_,by rw[hs,if_pos rfl],fun v hv=>?_,fun v hv h=>?_⟩
 · rw[hs,if_neg (fun e=>h (by rw[e,h0]))]
 · rw[hs]
   by_cases e:v=f
   · rw[if_pos e,e];exact Or.inr ⟨rfl,Con.refl _ _⟩
   · rw[if_neg e];exact Or.inl h
 · rw[List.mem_singleton.1 hv];exact⟨hf,Con.refl _ _⟩
 · rw[hs]at h
   by_cases e:v=f
   · exact Or.inl (by rw[e];exact List.mem_singleton.2 rfl)
   · rw[if_neg e]at h
     exact absurd h (hn v hv)
theorem Spr.take {C:List Cr} {P0 P:List Int} {f:Nat} {num:Int} {k:Nat} {todo:List Nat} {k0:Nat} (h:Spr C P0 P f num (k::todo) k0 4):Spr C P0 P f num todo k 0:=by
 refine⟨h.len,h.old,h.new,h.fst,fun v hv=>h.tod v (List.Mem.tail _ hv),fun v hv e=>?_⟩
 by_cases hk:v=k
 · exact Or.inr fun t _ hs=>absurd (hs hk) (Nat.not_lt_zero _)
 · rcases h.proc v hv e with h1|h1
   · rcases List.mem_cons.1 h1 with h2|h2
     · exact absurd h2 hk
     · exact Or.inl h2
   · exact Or.inr fun t ht _=>h1 t ht (fun _=>ht)
theorem Spr.old_side {C:List Cr} {P0 P:List Int} {f:Nat} {num:Int} {k s:Nat} {todo:List Nat} (h:Spr C P0 P f num todo k s) (hn:P.getD (nbC C k s) 0 ≠ -1):Spr C P0 P f num todo k (s+1):=by
 refine⟨h.len,h.old,h.new,h.fst,h.tod,fun v hv e=>?_⟩
 rcases h.proc v hv e with h1|h1
 · exact Or.inl h1
 · refine Or.inr fun t ht hs=>?_
   by_cases hvk:v=k
   · by_cases hts:t=s
     · rw[hvk,hts];exact hn
     · exact h1 t ht (fun e=>by have:=hs e;omega)
   · exact h1 t ht (fun e=>absurd e hvk)
theorem Spr.new_side {C:List Cr} {loops:Int} (hm:mayD C loops=true) {P0 P:List Int} {f:Nat} {num:Int} {k s:Nat} {todo:List Nat} (h:Spr C P0 P f num todo k s) (hnum:num ≠ -1) (hk:k<C.length) (hs:s<4) (hc:Con (arcE C) f k) (hn:P.getD (nbC C k s) 0 = -1):Spr C P0 (P.set (nbC C k s) num) f num (todo++[nbC C k s]) k (s+1):=by
 have hb:=nb_lt hm k s hk hs
 have hcon:=hc.trans (nb_con hm k s hk hs)
 generalize hy:nbC C k s=y at hb hcon hn ⊢
 have hg:∀ v,(P.set y num).getD v 0=if v=y then num else P.getD v 0:=fun v=>getI_set _ _ _ _ (by rw[h.len];exact hb)
 have hne:∀ v,P.getD v 0 ≠ -1->(P.set y num).getD v 0 ≠ -1:=fun v hv=>by
  rw[hg]
  split
  · exact hnum
  · exact hv
 refine⟨by simp[h.len],fun v hv e=>?_,fun v hv e=>?_,?_,fun v hv=>?_,fun v hv e=>?_⟩
 · rw[hg,if_neg (fun e2=>by rw[e2]at e;have:=h.old y hb e;rw[hn]at this;exact e this.symm)]
   exact h.old v hv e
 · rw[hg]
   by_cases e2:v=y
   · rw[if_pos e2,e2];exact Or.inr ⟨rfl,hcon⟩
   · rw[if_neg e2];exact h.new v hv e
 · rw[hg,h.fst];split<;>rfl
 · rcases List.mem_append.1 hv with h1|h1
   · exact h.tod v h1
   · rw[List.mem_singleton.1 h1];exact⟨hb,hcon⟩
 · by_cases e2:v=y
   · exact Or.inl (List.mem_append.2 (Or.inr (List.mem_singleton.2 e2)))
   · rw[hg,if_neg e2]at e
     rcases h.proc v hv e with h1|h1
     · exact Or.inl (List.mem_append.2 (Or.inl h1))
     · refine Or.inr fun t ht hst=>?_
       by_cases hvk:v=k
       · by_cases hts:t=s
         · rw[hvk,hts,hy,hg,if_pos rfl];exact hnum
         · exact hne _ (h1 t ht (fun e=>by have:=hst e;omega))
       · exact hne _ (h1 t ht (fun e=>absurd e hvk))
structure Pcs (C:List Cr) (P:List Int) (c k:Nat):Prop where
 len:P.length=C.length
 few:c<=k
 cl:∀ e,e∈arcE C->P.getD e.1 0=P.getD e.2 0
 vals:∀ v,v<C.length->P.getD v 0 = -1∨(0<=P.getD v 0/\P.getD v 0<(c:Int))
 join:∀ u v,u<C.length->v<C.length->P.getD u 0 ≠ -1->P.getD u 0=P.getD v 0->Con (arcE C) u v
 used:∀ p,p<c->∃ v,v<C.length/\P.getD v 0=(p:Int)
 done:∀ v,v<k->v<C.length->P.getD v 0 ≠ -1
theorem Pcs.start (C:List Cr) (P:List Int) (hP:P=List.replicate C.length (-1)) (hE:∀ e,e∈arcE C->e.1<C.length/\e.2<C.length):Pcs C P 0 0:=by
 have hg:∀ v,v<C.length->P.getD v 0 = -1:=fun v hv=>by rw[hP];simp[List.getD_eq_getElem?_getD,hv]
 exact⟨by rw[hP];simp,Nat.le_refl _,fun e he=>by rw[hg _ (hE e he).1,hg _ (hE e he).2],fun v hv=>Or.inl (hg v hv),fun u v hu _ h _=>absurd (hg u hu) h,fun p hp=>absurd hp (Nat.not_lt_zero _),fun v hv=>absurd hv (Nat.not_lt_zero _)⟩
theorem Pcs.skip {C:List Cr} {P:List Int} {c k:Nat} (h:Pcs C P c k) (hk:P.getD k 0 ≠ -1):Pcs C P c (k+1):=
 ⟨h.len, by have := h.few; omega, h.cl, h.vals, h.join, h.used, fun v hv hn => by
  by_cases e:v=k
  · rw[e];exact hk
  · exact h.done v (by omega) hn⟩
theorem Pcs.more {C:List Cr} {loops:Int} (hm:mayD C loops=true) {P0 P:List Int} {c k k1:Nat} (h:Pcs C P0 c k) (hk:k<C.length) (_h0:P0.getD k 0 = -1) (g:Spr C P0 P k c [] k1 4):Pcs C P (c+1) (k+1):=by
 have hc1:((c:Nat):Int) ≠ -1:=by omega
 have hold:∀ v,v<C.length->P.getD v 0=(c:Int)->P0.getD v 0 = -1:=fun v hv e=>Classical.byContradiction fun hne=>by
  have h1:=g.old v hv hne
  rcases h.vals v hv with h2|h2
  · exact hne h2
  · omega
 have hone:∀ u v,u<C.length->v<C.length->P0.getD u 0=P0.getD v 0->(∃ t,t<4/\nbC C u t=v)->(∃ t,t<4/\nbC C v t=u)->P.getD u 0=P.getD v 0:=by
  intro u v hu hv e ⟨t,ht,ht'⟩ ⟨t2,ht2,ht2'⟩
  by_cases h1:P0.getD u 0 = -1
  · have h2:P0.getD v 0 = -1:=by rw[<-e];exact h1
    rcases g.new u hu h1 with a|a
    · rcases g.new v hv h2 with b|b
      · rw[a,b]
      · rcases g.proc v hv b.1 with c1|c1
        · cases c1
        · have:=c1 t2 ht2 (fun _=>ht2)
          rw[ht2']at this
          exact absurd a this
    · rcases g.proc u hu a.1 with c1|c1
      · cases c1
      · have hx:=c1 t ht (fun _=>ht)
        rw[ht']at hx
        rcases g.new v hv h2 with b|b
        · exact absurd b hx
        · rw[a.1,b.1]
  · have h2:P0.getD v 0 ≠ -1:=by rw[<-e];exact h1
    rw[g.old u hu h1,g.old v hv h2,e]
 refine⟨g.len,by have:=h.few;omega,fun e he=>?_,fun v hv=>?_,fun u v hu hv hne e=>?_,fun p hp=>?_,fun v hv hn=>?_⟩
 · obtain⟨a1,a2,a3,a4⟩:=edge_nb hm e he
   exact hone _ _ a1 a2 (h.cl e he) a3 a4
 · by_cases h1:P0.getD v 0 = -1
   · rcases g.new v hv h1 with a|a
     · exact Or.inl a
     · exact Or.inr (by rw[a.1];omega)
   · rw[g.old v hv h1]
     rcases h.vals v hv with a|a
     · exact Or.inl a
     · exact Or.inr (by omega)
 · by_cases h1:P.getD u 0=(c:Int)
   · have hu1:=hold u hu h1
     have hv1:=hold v hv (by rw[<-e];exact h1)
     rcases g.new u hu hu1 with a|a
     · exact absurd a hne
     · rcases g.new v hv hv1 with b|b
       · exact absurd (by rw[e];exact b) hne
       · exact a.2.symm.trans b.2
   · have hu1 : P0.getD u 0 ≠ -1 := fun hx => by
       rcases g.new u hu hx with a|a
       · exact hne a
       · exact h1 a.1
     have hv1:P0.getD v 0 ≠ -1:=fun hx=>by
      rcases g.new v hv hx with a|a
      · exact hne (by rw[e];exact a)
      · exact h1 (by rw[e];exact a.1)
     rw[g.old u hu hu1,g.old v hv hv1]at e
     exact h.join u v hu hv hu1 e
 · by_cases e:p=c
   · exact⟨k,hk,by rw[g.fst,e]⟩
   · obtain⟨v,hv,e2⟩:=h.used p (by omega)
     exact⟨v,hv,by rw[g.old v hv (by rw[e2];omega),e2]⟩
 · by_cases e:v=k
   · rw[e,g.fst];exact hc1
   · have:=h.done v (by omega) hn
     rw[g.old v hn this];exact this
structure PcsAll (C:List Cr) (P:List Int) (c:Nat):Prop where
 len:P.length=C.length
 few:c<=C.length
 vals:∀ v,v<C.length->0<=P.getD v 0/\P.getD v 0<(c:Int)
 same:∀ u v,u<C.length->v<C.length->(P.getD u 0=P.getD v 0↔Con (arcE C) u v)
 used:∀ p,p<c->∃ v,v<C.length/\P.getD v 0=(p:Int)
theorem Pcs.all {C:List Cr} {P:List Int} {c:Nat} (h:Pcs C P c C.length):PcsAll C P c:=by
 refine⟨h.len,h.few,fun v hv=>?_,fun u v hu hv=>⟨fun e=>h.join u v hu hv (h.done u hu hu) e,fun hc=>?_⟩,h.used⟩
 · rcases h.vals v hv with a|a
   · exact absurd a (h.done v hv hv)
   · exact a
 · exact(hc (fun z=>P.getD u 0=P.getD z 0) (fun e he=>by show P.getD u 0=P.getD e.1 0↔P.getD u 0=P.getD e.2 0;rw[h.cl e he]) rfl)
def exI (n:Nat) (G:List Nat) (P:List Int) (p:Nat):Int:=((G.countP fun g=>decide (P.getD g 0=(p:Int)):Nat):Int)-(((List.range n).countP fun v=>decide (P.getD v 0=(p:Int)):Nat):Int)
def exN (n:Nat) (G:List Nat) (W:List Nat) (p:Nat):Int:=((G.countP fun g=>decide (W.getD g 0=p):Nat):Int)-(((List.range n).countP fun v=>decide (W.getD v 0=p):Nat):Int)
theorem ex_same {C:List Cr} {P:List Int} {c:Nat} {W:List Nat} {G:List Nat} (hP:PcsAll C P c) (hW:Least (arcE C) C.length W) (hG:∀ g,g∈G->g<C.length) (v:Nat) (hv:v<C.length) (p:Nat) (hp:P.getD v 0=(p:Int)):exI C.length G P p=exN C.length G W (W.getD v 0):=by
 have key:∀ g,g<C.length->decide (P.getD g 0=(p:Int))=decide (W.getD g 0=W.getD v 0):=fun g hg=>by
  rw[<-hp]
  exact decide_eq_decide.2 ((hP.same g v hg hv).trans (hW.same hg hv).symm)
 unfold exI exN
 rw [List.countP_congr (p := fun g => decide (P.getD g 0 = (p : Int))) (q := fun g => decide (W.getD g 0 = W.getD v 0)) (l := G) (fun g hg => by rw [key g (hG g hg)]),
  List.countP_congr (p:=fun g=>decide (P.getD g 0=(p:Int))) (q:=fun g=>decide (W.getD g 0=W.getD v 0)) (l:=List.range C.length) (fun g hg=>by rw[key g (List.mem_range.1 hg)])]
theorem sphere_iff {C:List Cr} {P:List Int} {c:Nat} {W:List Nat} {G:List Nat} (hP:PcsAll C P c) (hW:Least (arcE C) C.length W) (hG:∀ g,g∈G->g<C.length):(∀ p,p<c->exI C.length G P p=2)↔∀ p,p<C.length->W.getD p 0=p->exN C.length G W p=2:=by
 constructor
 · intro h p hp e
   have hv:=hP.vals p hp
   have:=ex_same hP hW hG p hp (P.getD p 0).toNat (by omega)
   rw[e]at this
   rw[<-this]
   exact h _ (by omega)
 · intro h p hp
   obtain⟨v,hv,e⟩:=hP.used p hp
   rw[ex_same hP hW hG v hv p e]
   have hw:=hW.lt hv
   exact h _ hw ((hW.same hw hv).2 (hW.2 v hv).1.symm)
end Go.Proofs.Ytgagenmkpmmpfaa
/- The walk of drawing.Of. -/
namespace Go.Proofs.Ytgagenmkpmmpfaa
open Go.RowKit
set_option maxHeartbeats 4000000
set_option maxRecDepth 100000
def noDrawing:Value:=.agg #[.slice none 0 0,.int .i64 0,.slice none 0 0,.slice none 0 0]
theorem of_size (v : Value) (C : List Cr) (loops : Int) (w : World) (h : Crs w w.heap.size v C) (hs : sizeB C loops = false) :
    Calls Try.prog 17 #[.agg #[v,.int .i64 loops]] w fun e w'=>e=.returned (.tuple #[noDrawing,.bool false])/\Below w.heap.size w w':=by
 obtain⟨a,cap,rfl,hn,_⟩:=h
 have hn':C.length<=9223372036854775807:=hn
 by_cases h1:16<C.length
 · have d1:decide (16<(C.length:Int))=true:=by simp;omega
   have d2:decide (16<C.length)=true:=by simp;omega
   go_enter Try.func17,Try.ntmps17
   go_wp2
   exact bodyPost_ret (v:=.tuple #[noDrawing,.bool false]) (by simp[results,Try.results17,go_sem,noDrawing]) rfl ⟨rfl,below2 _ _ _⟩
 · by_cases h2:loops<0
   · have d2:decide (loops<0)=true:=by simpa using h2
     go_enter Try.func17,Try.ntmps17
     go_wp2
     exact bodyPost_ret (v:=.tuple #[noDrawing,.bool false]) (by simp[results,Try.results17,go_sem,noDrawing]) rfl ⟨rfl,below2 _ _ _⟩
   · by_cases h3:16<loops
     · have d3:decide (16<loops)=true:=by simpa using h3
       go_enter Try.func17,Try.ntmps17
       go_wp2
       exact bodyPost_ret (v:=.tuple #[noDrawing,.bool false]) (by simp[results,Try.results17,go_sem,noDrawing]) rfl ⟨rfl,below2 _ _ _⟩
     · have h4 : C.length = 0 ∧ loops = 0 := by
         simp only[sizeB,Bool.and_eq_false_iff,decide_eq_false_iff_not,Bool.not_eq_false',Bool.and_eq_true,decide_eq_true_eq]at hs
         omega
       obtain⟨h4,rfl⟩:=h4
       rw[h4]
       go_enter Try.func17,Try.ntmps17
       go_wp2
       exact bodyPost_ret (v:=.tuple #[noDrawing,.bool false]) (by simp[results,Try.results17,go_sem,noDrawing]) rfl ⟨rfl,below2 _ _ _⟩
end Go.Proofs.Ytgagenmkpmmpfaa
/- Helps for the walk of drawing.Of: stores of four and of two cells; the state of its loops. -/
namespace Go.Proofs.Ytgagenmkpmmpfaa
open Go.RowKit
theorem set_block {w:World} {g i:Nat} {cs:Array Value} {t:TypeId} {fz:Nat×Nat} {u:Value} (h:w.heap[g]?=some (.cells cs t fz)):(w.setCell ⟨g,i,none⟩ u).heap[g]?=some (.cells (cs.setIfInBounds i u) t fz):=by
 simp only[World.setCell,Array.getElem?_modify,if_true,h]
 rfl
theorem set_grown (w:World) (g i:Nat) (u:Value):w.grownBy (w.setCell ⟨g,i,none⟩ u) (some g):=
 ⟨rfl,rfl,rfl,by simp,fun k _ hk=>heap_setCell_other w ⟨g,i,none⟩ k u (fun e=>hk (by simp[e]))⟩
theorem grown_trans {a b c:World} {row:Option Nat} (h:a.grownBy b row) (k:b.grownBy c row):a.grownBy c row:=
 ⟨k.os.trans h.os,k.tape.trans h.tape,k.output.trans h.output,Nat.le_trans h.size k.size,fun j hj hn=>(k.block j (Nat.lt_of_lt_of_le hj h.size) hn).trans (h.block j hj hn)⟩
def st4 (w:World) (g:Nat) (a b c d:Value):World:=(((w.setCell ⟨g,0,none⟩ a).setCell ⟨g,1,none⟩ b).setCell ⟨g,2,none⟩ c).setCell ⟨g,3,none⟩ d
theorem st4_grown (w:World) (g:Nat) (a b c d:Value):w.grownBy (st4 w g a b c d) (some g):=
 grown_trans (grown_trans (grown_trans (set_grown _ _ _ _) (set_grown _ _ _ _)) (set_grown _ _ _ _)) (set_grown _ _ _ _)
theorem st4_block {w:World} {g:Nat} {t:TypeId} {a0 b0 c0 d0 a b c d:Value} (h:w.heap[g]?=some (.cells #[a0,b0,c0,d0] t (0,0))):(st4 w g a b c d).heap[g]?=some (.cells #[a,b,c,d] t (0,0)):=by
 unfold st4
 rw[set_block (set_block (set_block (set_block h)))]
 rfl
theorem st4_cell {w:World} {g h o:Nat} {v a b c d:Value} (hne:h≠g) (hc:w.cell? ⟨h,o,none⟩=some v):((((w.setCell ⟨g,0,none⟩ a).setCell ⟨g,1,none⟩ b).setCell ⟨g,2,none⟩ c).setCell ⟨g,3,none⟩ d).cell? ⟨h,o,none⟩=some v:=
 (st4_grown w g a b c d).cell (a:=⟨h,o,none⟩) hc (fun e=>hne (Option.some.inj e))
theorem block_cell {w:World} {g i:Nat} {cs:Array Value} {t:TypeId} {fz:Nat×Nat} {v:Value} (h:w.heap[g]?=some (.cells cs t fz)) (hv:cs[i]?=some v):w.cell? ⟨g,i,none⟩=some v:=by
 unfold World.cell?
 rw[h]
 simpa using hv
theorem block_frozen {w:World} {g i:Nat} {cs:Array Value} {t:TypeId} (h:w.heap[g]?=some (.cells cs t (0,0))):w.frozen? ⟨g,i,none⟩=false:=by simp[World.frozen?,h]
theorem own_block {w:World} {B e s n:Nat} {v:Value} {xs:List Value} (h:w.ownsRow B e s v n xs) (hn:0<n):∃ g c,v=.slice (some ⟨g,0,none⟩) n c/\B<=g/\g<w.heap.size:=by
 rcases h.2 with⟨_,h0⟩|⟨g,cap,cur,rfl,hb,hg,_⟩
 · omega
 · exact⟨g,cap,rfl,(h.lt g rfl).1,(h.lt g rfl).2⟩
structure OfAt (sz gF cF gT cT:Nat) (A:Value) (loops:Int) (C:List Cr) (i k:Nat) (wr:World):Prop where
 dia:wr.heap[sz]?=some (.cells #[A,.int .i64 loops] 29 (0,0))
 dra:wr.heap[sz+1]?=some (.cells #[A,.int .i64 loops,.slice (some ⟨gF,0,none⟩) (2*C.length+1) cF,.slice (some ⟨gT,0,none⟩) (2*C.length+1) cT] 52 (0,0))
 from_:wr.ownsRow (sz+2) 66 2 (.slice (some ⟨gF,0,none⟩) (2*C.length+1) cF) (2*C.length+1) (flat (ends C false i k))
 to:wr.ownsRow (sz+2) 66 2 (.slice (some ⟨gT,0,none⟩) (2*C.length+1) cT) (2*C.length+1) (flat (ends C true i k))
 ne:gF≠gT
theorem OfAt.on {sz gF cF gT cT:Nat} {A:Value} {loops:Int} {C:List Cr} {i k:Nat} {w w':World} (h:OfAt sz gF cF gT cT A loops C i k w) (hb:Below w.heap.size w w') (hs:sz+1<w.heap.size):OfAt sz gF cF gT cT A loops C i k w':=
 ⟨(hb.block _ (by omega)).trans h.dia,(hb.block _ hs).trans h.dra,own_any h.from_ (grown_below hb none),own_any h.to (grown_below hb none),h.ne⟩
theorem OfAt.row {sz gF cF gT cT:Nat} {A:Value} {loops:Int} {C:List Cr} {i:Nat} {w:World} (h:OfAt sz gF cF gT cT A loops C i 4 w):OfAt sz gF cF gT cT A loops C (i+1) 0 w:=⟨h.dia,h.dra,h.from_,h.to,h.ne⟩
theorem flat_set2 (l:List (Int×Int)) (a:Nat) (i k:Int) (ha:a<l.length):((flat l).set (a*2) (.int .i64 i)).set (a*2+1) (.int .i64 k)=flat (l.set a (i,k)):=by
 rw[flat_setE _ _ _ ha,flat_setC _ _ _ (by rw[setE_length];exact ha)]
 congr 1
 unfold setC setE
 rw[List.set_set]
 congr 1
 simp[List.getD,ha]
def st2 (w:World) (g o:Nat) (a b:Value):World:=(w.setCell ⟨g,o,none⟩ a).setCell ⟨g,o+1,none⟩ b
theorem st2_grown (w:World) (g o:Nat) (a b:Value):w.grownBy (st2 w g o a b) (some g):=grown_trans (set_grown _ _ _ _) (set_grown _ _ _ _)
theorem own_st2 {w:World} {B e n g cap a:Nat} {l:List (Int×Int)} {i k:Int} (h:w.ownsRow B e 2 (.slice (some ⟨g,0,none⟩) n cap) n (flat l)) (ha:a<l.length):(st2 w g (a*2) (.int .i64 i) (.int .i64 k)).ownsRow B e 2 (.slice (some ⟨g,0,none⟩) n cap) n (flat (l.set a (i,k))):=by
 have h1:=(h.stored (a*2) (.int .i64 i)).1
 have h2:=(h1.stored (a*2+1) (.int .i64 k)).1
 rw[flat_set2 l a i k ha]at h2
 exact h2
theorem OfAt.storeT {sz gF cF gT cT a:Nat} {A:Value} {loops:Int} {C:List Cr} {i k:Nat} {w:World} (h:OfAt sz gF cF gT cT A loops C i k w) (h1:1<=a) (h2:a<=2*C.length) (hc:(C.getD i Cr.none).comes k=true) (ha:(C.getD i Cr.none).arc k=(a:Int)):OfAt sz gF cF gT cT A loops C i (k+1) (st2 w gT (a*2) (.int .i64 (i:Nat)) (.int .i64 (k:Nat))):=by
 have hg:=st2_grown w gT (a*2) (.int .i64 (i:Nat)) (.int .i64 (k:Nat))
 have hT:=(h.to.lt gT rfl)
 have hF:=(h.from_.lt gF rfl)
 refine⟨(hg.block _ (by omega) (fun e=>by have:=Option.some.inj e;omega)).trans h.dia,(hg.block _ (by omega) (fun e=>by have:=Option.some.inj e;omega)).trans h.dra,?_,?_,h.ne⟩
 · rw[ends_keep C false i k (by rw[hc];decide)]
   exact h.from_.kept hg (Or.inr (fun e=>h.ne (Option.some.inj e)))
 · rw[<-ends_set C true i k a h1 hc ha]
   exact own_st2 h.to (by rw[ends_length];omega)
theorem OfAt.storeF {sz gF cF gT cT a:Nat} {A:Value} {loops:Int} {C:List Cr} {i k:Nat} {w:World} (h:OfAt sz gF cF gT cT A loops C i k w) (h1:1<=a) (h2:a<=2*C.length) (hc:(C.getD i Cr.none).comes k=false) (ha:(C.getD i Cr.none).arc k=(a:Int)):OfAt sz gF cF gT cT A loops C i (k+1) (st2 w gF (a*2) (.int .i64 (i:Nat)) (.int .i64 (k:Nat))):=by
 have hg:=st2_grown w gF (a*2) (.int .i64 (i:Nat)) (.int .i64 (k:Nat))
 have hT:=(h.to.lt gT rfl)
 have hF:=(h.from_.lt gF rfl)
 refine⟨(hg.block _ (by omega) (fun e=>by have:=Option.some.inj e;omega)).trans h.dia,(hg.block _ (by omega) (fun e=>by have:=Option.some.inj e;omega)).trans h.dra,?_,?_,h.ne⟩
 · rw[<-ends_set C false i k a h1 hc ha]
   exact own_st2 h.from_ (by rw[ends_length];omega)
 · rw[ends_keep C true i k (by rw[hc];decide)]
   exact h.to.kept hg (Or.inr (fun e=>h.ne (Option.some.inj e).symm))
theorem index_arr (x:Cr) (k:Nat) (hk:k<4) (w:World):(Instr.index 74 (.agg #[.int .i64 x.a,.int .i64 x.b,.int .i64 x.c,.int .i64 x.d]) (.int .i64 (k:Nat))).run Try.prog w=.ok (.int .i64 (x.arc k)) w:=by
 have hk4:k=0∨k=1∨k=2∨k=3:=by omega
 rcases hk4 with rfl|rfl|rfl|rfl<;>simp[Instr.index,asIntOf,run_underlying Try.underlying74,go_sem,Cr.arc]
structure Drawn (w w':World) (B:Nat) (A:Value) (loops:Int) (C:List Cr) (D:Value):Prop where
 no:mayD C loops=false->D=noDrawing
 yes:mayD C loops=true->∃ gF cF gT cT,D=.agg #[A,.int .i64 loops,.slice (some ⟨gF,0,none⟩) (2*C.length+1) cF,.slice (some ⟨gT,0,none⟩) (2*C.length+1) cT]/\
  w'.ownsRow B 66 2 (.slice (some ⟨gF,0,none⟩) (2*C.length+1) cF) (2*C.length+1) (flat (ends C false C.length 0))/\
  w'.ownsRow B 66 2 (.slice (some ⟨gT,0,none⟩) (2*C.length+1) cT) (2*C.length+1) (flat (ends C true C.length 0))
end Go.Proofs.Ytgagenmkpmmpfaa
/- The walk of ref.EndOf. -/
namespace Go.Proofs.Ytgagenmkpmmpfaa
open Go.RowKit
theorem may_size {C:List Cr} {loops:Int} (hm:mayD C loops=true):sizeB C loops=true:=by
 cases hs:sizeB C loops with
 |true=>rfl
 |false=>rw[mayD_size hs]at hm;cases hm
end Go.Proofs.Ytgagenmkpmmpfaa

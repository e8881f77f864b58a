/- Several texts of the proof, one behind the other. -/
import Derived.Test.YtjcagkgpbcdghaaDoorRows
import Derived.WalkKit
import Derived.WalkSpells
import Derived.WalkLawsBesides
import Derived.Deep.QuietTactic
import Derived.BigQuiet
import Derived.Deep.RegionWith
import Derived.Deep.RegionHeld3
import Derived.Laws.AppendOwnNone
import Derived.OwnWalk
import Derived.Lib.Hide
import Derived.Laws.StructEq
import Derived.Test.YtjcagkgpbcdghaaDoorPMathP
/- What is said of worlds, rows and lists of pairs without naming the program. -/
namespace Go.Proofs.YtjcagkgpbcdghaaDoor
open Go.RowKit
theorem bcell {B:Nat} {W w1:World} (hb:Below B W w1) {b o:Nat} {v:Option Value} (h:b<B) (hc:W.cell? ⟨b,o,none⟩=v):w1.cell? ⟨b,o,none⟩=v:=by
 rw[<-hc];exact hb.cell (p:=⟨b,o,none⟩) h
theorem below_drewN {B:Nat} {w w1:World} (h:Below B w w1):∀ n,Below B w (w1.drewN n):=fun n=>by
 induction n with
 |zero=>exact h
 |succ n ih=>exact ih.drew
theorem ret_bool {a b:Bool} (h:b=a):Ending.returned (.bool a)=.returned (.bool b):=by rw[h]
/-- The cells of the terms l, from address ⟨b, off⟩ on. -/
def TermsAt (w:World) (b off:Nat) (l:List (Int×Int)):Prop:=
 ∀ i,i<l.length->w.cell? ⟨b,off+i*2,none⟩=some (.int .i64 (l.getD i (0,0)).1)/\w.cell? ⟨b,off+i*2+1,none⟩=some (.int .i64 (l.getD i (0,0)).2)
theorem TermsAt.on {B:Nat} {W w1:World} {b off:Nat} {l:List (Int×Int)} (h:TermsAt W b off l) (hb:Below B W w1) (hlt:b<B):TermsAt w1 b off l:=
 fun i hi=>⟨bcell hb hlt (h i hi).1,bcell hb hlt (h i hi).2⟩
/-- The terms as cells, one behind the other. -/
def flat (l:List (Int×Int)):List Value:=l.flatMap fun t=>[.int .i64 t.1,.int .i64 t.2]
theorem flat_length (l:List (Int×Int)):(flat l).length=l.length*2:=by
 induction l with
 |nil=>rfl
 |cons t l ih=>simp[flat]at *;omega
theorem flat_append (l m:List (Int×Int)):flat (l++m)=flat l++flat m:=by simp[flat]
theorem flat_get (l : List (Int × Int)) (i : Nat) (hi : i < l.length) :
    (flat l)[i*2]?=some (.int .i64 (l.getD i (0,0)).1)/\(flat l)[i*2+1]?=some (.int .i64 (l.getD i (0,0)).2):=by
 induction l generalizing i with
 |nil=>simp at hi
 |cons t l ih=>
  cases i with
  |zero=>simp[flat]
  |succ i=>
   have:=ih i (by simpa using hi)
   simp only[flat,List.flatMap_cons]at this ⊢
   rw[List.getElem?_append_right (by simp;omega),List.getElem?_append_right (by simp;omega)]
   simpa[show(i+1)*2-2=i*2 by omega,show(i+1)*2+1-2=i*2+1 by omega] using this
theorem ret_int {k:IntKind} {a b:Int} (h:a=b):Ending.returned (.int k a)=.returned (.int k b):=by rw[h]
theorem grown_below {w w':World} (h:Below w.heap.size w w') (row:Option Nat):w.grownBy w' row:=⟨h.os,h.tape,h.output,h.size,fun k hk _=>h.block k hk⟩
/-- The slice v holds these values, a cell each, in blocks below B. -/
def Slots (w:World) (B:Nat) (v:Value) (xs:List Value):Prop:=
 ∃ a cap,v=.slice a xs.length cap/\(0<xs.length->∃ b off,a=some ⟨b,off,none⟩/\b<B/\∀ i,i<xs.length->w.cell? ⟨b,off+i,none⟩=some (xs.getD i (.bool false)))
theorem Slots.on {w w':World} {B:Nat} {v:Value} {xs:List Value} (h:Slots w B v xs) (hb:Below B w w'):Slots w' B v xs:=by
 obtain⟨a,cap,rfl,g⟩:=h
 refine⟨a,cap,rfl,fun h0=>?_⟩
 obtain⟨b,off,rfl,hlt,hc⟩:=g h0
 exact⟨b,off,rfl,hlt,fun i hi=>bcell hb hlt (hc i hi)⟩
theorem Slots.mono {w:World} {B B':Nat} {v:Value} {xs:List Value} (h:Slots w B v xs) (hB:B<=B'):Slots w B' v xs:=by
 obtain⟨a,cap,rfl,g⟩:=h
 refine⟨a,cap,rfl,fun h0=>?_⟩
 obtain⟨b,off,rfl,hlt,hc⟩:=g h0
 exact⟨b,off,rfl,Nat.lt_of_lt_of_le hlt hB,hc⟩
theorem Xu2 {w:World} {B e n:Nat} {v:Value} {xs:List Value} (h:w.ownsRow B e 1 v n xs):Slots w w.heap.size v xs:=by
 have hl:xs.length=n:=by simpa using h.1
 rcases h.2 with⟨rfl,h0⟩|⟨g,cap,cur,rfl,_,hg,_,_,_,_⟩
 · refine⟨none,0,by rw[hl,h0],fun hp=>by omega⟩
 · refine⟨some ⟨g,0,none⟩,cap,by rw[hl],fun _=>⟨g,0,rfl,(h.lt g rfl).2,fun i hi=>?_⟩⟩
   rw[Nat.zero_add,h.cellAt i (by omega),List.getD,List.getElem?_eq_getElem hi]
   rfl
theorem QZ6 {w:World} {B B' e s n:Nat} {v:Value} {xs:List Value} (h:w.ownsRow B e s v n xs) (hB:B'<=B):w.ownsRow B' e s v n xs:=by
 refine⟨h.1,?_⟩
 rcases h.2 with h1|⟨g,cap,cur,h1,h2,h3⟩
 · exact Or.inl h1
 · exact Or.inr ⟨g,cap,cur,h1,Nat.le_trans hB h2,h3⟩
/-- Rows of different element types lie in different blocks. -/
theorem own_ne {w:World} {B B' e e' s s' n n':Nat} {v v':Value} {xs xs':List Value} (h:w.ownsRow B e s v n xs) (h':w.ownsRow B' e' s' v' n' xs') (he:e≠e'):v.ownBlock=none∨v.ownBlock≠v'.ownBlock:=by
 rcases h.2 with⟨rfl,_⟩|⟨g,cap,cur,rfl,_,hg,_⟩
 · exact Or.inl rfl
 · right
   rcases h'.2 with⟨rfl,_⟩|⟨g',cap',cur',rfl,_,hg',_⟩
   · simp[Value.ownBlock]
   · simp only[Value.ownBlock]
     intro e0
     have e1:=Option.some.inj e0
     subst e1
     rw[hg]at hg'
     injection hg' with h1
     injection h1 with h2 h3
     exact he h3
theorem QG1 (W:World) (x:Value) (e:TypeId):∀ j u,[x][j]?=some u->(W.alloc (.cells #[x] e)).cell? ((⟨W.heap.size,0,none⟩:Addr).add j)=some u:=by
 intro j u hj
 rw[Addr.add_lit,Nat.zero_add]
 have hh:(W.alloc (.cells #[x] e)).heap[W.heap.size]?=some (.cells #[x] e (0,0)):=Array.getElem?_push_size
 match j,hj with
 |0,hj=>simp at hj;subst hj;unfold World.cell?;rw[hh];rfl
theorem QZ7 {w:World} {B e s n:Nat} {v:Value} {xs:List Value} (h:w.ownsRow B e s v n xs):∃ a c,v=.slice a n c:=by
 rcases h.2 with⟨rfl,h0⟩|⟨g,cap,cur,rfl,_,_,h1,h2,_⟩
 · exact⟨none,0,by rw[h0]⟩
 · exact⟨_,_,rfl⟩
theorem ZW1 {w:World} {B e s n:Nat} {v:Value} {xs:List Value} (h:w.ownsRow B e s v n xs):∀ u∈[v],u.oneCell'=true:=by
 obtain⟨a,c,rfl⟩:=QZ7 h
 intro u hu
 simp only[List.mem_singleton]at hu
 subst hu
 rfl
theorem own_any {w w':World} {B e s n:Nat} {v:Value} {xs:List Value} (h:w.ownsRow B e s v n xs) (hg:w.grownBy w' none):w'.ownsRow B e s v n xs:=
 h.kept hg (by cases v.ownBlock with|none=>exact Or.inl rfl|some q=>exact Or.inr (by simp))
theorem Xv5 (zs:List Value) (x:Value) (i:Nat) (h:i<zs.length):(zs++[x]).getD i (.bool false)=zs.getD i (.bool false):=by simp[List.getD,List.getElem?_append_left h]
theorem Xv6 (zs:List Value) (x:Value):(zs++[x]).getD zs.length (.bool false)=x:=by simp[List.getD]
/-- Another coefficient at place i. -/
def Ky4 (l:List (Int×Int)) (i:Nat) (c:Int):List (Int×Int):=l.set i ((l.getD i (0,0)).1,c)
theorem KJ7 (l:List (Int×Int)) (i:Nat) (c:Int) (hi:i<l.length):(flat l).set (i*2+1) (.int .i64 c)=flat (Ky4 l i c):=by
 induction l generalizing i with
 |nil=>simp at hi
 |cons t l ih=>
  have e:flat (t::l)=.int .i64 t.1::.int .i64 t.2::flat l:=rfl
  cases i with
  |zero=>
   have e2:Ky4 (t::l) 0 c=(t.1,c)::l:=rfl
   rw[e,e2]
   rfl
  |succ i=>
   have e2:Ky4 (t::l) (i+1) c=t::Ky4 l i c:=rfl
   have e3:flat (t::Ky4 l i c)=.int .i64 t.1::.int .i64 t.2::flat (Ky4 l i c):=rfl
   rw[e,e2,e3,show(i+1)*2+1=i*2+1+1+1 by omega,List.set_cons_succ,List.set_cons_succ,ih i (by simpa using hi)]
theorem XD5 (l:List (Int×Int)) (i:Nat) (hi:i<l.length):(flat l)[i*2+1]?=some (.int .i64 (l.getD i (0,0)).2):=by
 induction l generalizing i with
 |nil=>simp at hi
 |cons t l ih=>
  have e:flat (t::l)=.int .i64 t.1::.int .i64 t.2::flat l:=rfl
  cases i with
  |zero=>rw[e];rfl
  |succ i=>
   have:=ih i (by simpa using hi)
   rw[e,show(i+1)*2+1=i*2+1+1+1 by omega,List.getElem?_cons_succ,List.getElem?_cons_succ,this]
   rfl
/-- Another first number at place i. -/
def Zx1 (l:List (Int×Int)) (i:Nat) (e:Int):List (Int×Int):=l.set i (e,(l.getD i (0,0)).2)
theorem Xh5 (l:List (Int×Int)) (i:Nat) (c:Int):(Zx1 l i c).length=l.length:=by simp[Zx1]
theorem Xv8 (l:List (Int×Int)) (i:Nat) (c:Int) (hi:i<l.length):(flat l).set (i*2) (.int .i64 c)=flat (Zx1 l i c):=by
 induction l generalizing i with
 |nil=>simp at hi
 |cons t l ih=>
  have e:flat (t::l)=.int .i64 t.1::.int .i64 t.2::flat l:=rfl
  cases i with
  |zero=>
   have e2:Zx1 (t::l) 0 c=(c,t.2)::l:=rfl
   rw[e,e2]
   rfl
  |succ i=>
   have e2:Zx1 (t::l) (i+1) c=t::Zx1 l i c:=rfl
   have e3:flat (t::Zx1 l i c)=.int .i64 t.1::.int .i64 t.2::flat (Zx1 l i c):=rfl
   rw[e,e2,e3,show(i+1)*2=i*2+1+1 by omega,List.set_cons_succ,List.set_cons_succ,ih i (by simpa using hi)]
theorem Qb7 (l:List (Int×Int)) (i:Nat) (hi:i<l.length):(flat l)[i*2]?=some (.int .i64 (l.getD i (0,0)).1):=by
 induction l generalizing i with
 |nil=>simp at hi
 |cons t l ih=>
  have e:flat (t::l)=.int .i64 t.1::.int .i64 t.2::flat l:=rfl
  cases i with
  |zero=>rw[e];rfl
  |succ i=>
   have:=ih i (by simpa using hi)
   rw[e,show(i+1)*2=i*2+1+1 by omega,List.getElem?_cons_succ,List.getElem?_cons_succ,this]
   rfl
theorem ZA9 (n:Nat):(madeCells #[Value.int .i64 0,.int .i64 0] (n*2)).toList=flat (List.replicate n (0,0)):=by
 apply List.ext_getElem?
 intro j
 by_cases hj:j<n*2
 · have hlen:(flat (List.replicate n ((0:Int),(0:Int)))).length=n*2:=by rw[flat_length];simp
   have h1:∀ (m k:Nat),k<m*2->(flat (List.replicate m ((0:Int),(0:Int))))[k]?=some (.int .i64 0):=by
    intro m
    induction m with
    |zero=>intro k hk;omega
    |succ m ih=>
     intro k hk
     have e:flat (List.replicate (m+1) ((0:Int),(0:Int)))=.int .i64 0::.int .i64 0::flat (List.replicate m ((0:Int),(0:Int))):=rfl
     rw[e]
     match k with
     |0=>rfl
     |1=>rfl
     |k+2=>
      rw[List.getElem?_cons_succ,List.getElem?_cons_succ]
      exact ih k (by omega)
   rw[h1 n j hj]
   simp only[madeCells]
   rcases Nat.mod_two_eq_zero_or_one j with h|h<;>simp[hj,h]
 · rw[List.getElem?_eq_none (by simp[madeCells];omega),List.getElem?_eq_none (by rw[flat_length];simp;omega)]
/-- What the loop has done behind i spots. -/
def Qy0 (n i:Nat):List (Int×Int):=List.replicate i (-1,0)++List.replicate (n-i) (0,0)
theorem KY7 (n i:Nat) (h:i<n):Zx1 (Qy0 n i) i (-1)=Qy0 n (i+1):=by
 obtain⟨m,hm⟩:∃ m,n - i=m+1:=⟨n - i - 1,by omega⟩
 have hm2:n-(i+1)=m:=by omega
 unfold Zx1 Qy0
 rw[hm,hm2,List.replicate_succ,List.replicate_succ' (n:=i)]
 have hg:(List.replicate i ((-1:Int),(0:Int))++(0,0)::List.replicate m (0,0)).getD i (0,0)=(0,0):=by simp[List.getD]
 rw[hg,List.set_append_right _ _ (by simp)]
 simp
theorem KU4 {P:Prop} (h:P):Go.RowKit.Hid P:=h
end Go.Proofs.YtjcagkgpbcdghaaDoor
/- Diagrams in a world; the walks of ref.ArcAt, ref.Entry, drawing.Arcs and drawing.ComesIn. -/
namespace Go.Proofs.YtjcagkgpbcdghaaDoor
open Go.RowKit
set_option maxHeartbeats 1000000
set_option maxRecDepth 100000
structure Cr where
 a:Int
 b:Int
 c:Int
 d:Int
 plus:Bool
def Cr.none:Cr:=⟨0,0,0,0,false⟩
def Cr.arc (x:Cr) (k:Nat):Int:=if k=0 then x.a else if k=1 then x.b else if k=2 then x.c else x.d
def Cr.comes (x:Cr) (k:Nat):Bool:=k==0||(k==1&&!x.plus)||(k==3&&x.plus)
def CrossAt (w:World) (b off:Nat) (C:List Cr):Prop:=∀ i,i<C.length->
 w.cell? ⟨b,off+i*5,none⟩=some (.int .i64 (C.getD i Cr.none).a)/\w.cell? ⟨b,off+i*5+1,none⟩=some (.int .i64 (C.getD i Cr.none).b)/\w.cell? ⟨b,off+i*5+2,none⟩=some (.int .i64 (C.getD i Cr.none).c)/\
 w.cell? ⟨b,off+i*5+3,none⟩=some (.int .i64 (C.getD i Cr.none).d)/\w.cell? ⟨b,off+i*5+4,none⟩=some (.bool (C.getD i Cr.none).plus)
theorem CrossAt.on {w w':World} {B b off:Nat} {C:List Cr} (h:CrossAt w b off C) (hb:Below B w w') (hlt:b<B):CrossAt w' b off C:=fun i hi=>
 ⟨bcell hb hlt (h i hi).1,bcell hb hlt (h i hi).2.1,bcell hb hlt (h i hi).2.2.1,bcell hb hlt (h i hi).2.2.2.1,bcell hb hlt (h i hi).2.2.2.2⟩
theorem QF9 (w:World) (o1 o2:Obj):Below w.heap.size w ((w.alloc o1).alloc o2):=((Below.refl _ _).alloc (Nat.le_refl _) _).alloc (by simp) _
theorem XY3 (w:World) (o1 o2 o3:Obj):Below w.heap.size w (((w.alloc o1).alloc o2).alloc o3):=(QF9 w o1 o2).alloc (by simp;omega) _
theorem Qj1 (x : Cr) (k : Nat) (w : World) (hk : k < 4) :
    Calls Tryd.prog 66 #[.agg #[.int .i64 x.a,.int .i64 x.b,.int .i64 x.c,.int .i64 x.d,.bool x.plus],.int .i64 k] w fun e w'=>e=.returned (.bool (x.comes k))/\Below w.heap.size w w':=by
 obtain⟨xa,xb,xc,xd,xp⟩:=x
 have hk4:k=0∨k=1∨k=2∨k=3:=by omega
 rcases hk4 with rfl|rfl|rfl|rfl
 · go_enter Tryd.func66,Tryd.ntmps66
   go_wp2
   go_ret
   exact⟨rfl,(Below.refl _ _).alloc (Nat.le_refl _) _⟩
 · cases xp
   · go_enter Tryd.func66,Tryd.ntmps66
     go_wp2
     go_ret
     exact⟨rfl,(Below.refl _ _).alloc (Nat.le_refl _) _⟩
   · go_enter Tryd.func66,Tryd.ntmps66
     go_wp2
     go_ret
     exact⟨rfl,(Below.refl _ _).alloc (Nat.le_refl _) _⟩
 · go_enter Tryd.func66,Tryd.ntmps66
   go_wp2
   go_ret
   exact⟨rfl,(Below.refl _ _).alloc (Nat.le_refl _) _⟩
 · cases xp
   · go_enter Tryd.func66,Tryd.ntmps66
     go_wp2
     go_ret
     exact⟨rfl,(Below.refl _ _).alloc (Nat.le_refl _) _⟩
   · go_enter Tryd.func66,Tryd.ntmps66
     go_wp2
     go_ret
     exact⟨rfl,(Below.refl _ _).alloc (Nat.le_refl _) _⟩
theorem Qh5 (x : Cr) (w : World) :
    Calls Tryd.prog 36 #[.agg #[.int .i64 x.a,.int .i64 x.b,.int .i64 x.c,.int .i64 x.d,.bool x.plus]] w fun e w'=>e=.returned (.agg #[.int .i64 x.a,.int .i64 x.b,.int .i64 x.c,.int .i64 x.d])/\Below w.heap.size w w':=by
 go_enter Tryd.func36,Tryd.ntmps36
 go_wp2
 exact bodyPost_ret (v:=.agg #[.int .i64 x.a,.int .i64 x.b,.int .i64 x.c,.int .i64 x.d]) (by simp[results,Tryd.results36,go_sem]) rfl ⟨rfl,QF9 _ _ _⟩
end Go.Proofs.YtjcagkgpbcdghaaDoor
/- The walk of ref.DiagramMay: which diagrams may be, by counting. -/
namespace Go.Proofs.YtjcagkgpbcdghaaDoor
open Go.RowKit
def Qz1 (x:Cr) (a:Int):Nat->Nat
 |0=>0
 |k+1=>Qz1 x a k+(if x.arc k=a/\x.comes k=true then 1 else 0)
def QF3 (x:Cr) (a:Int):Nat->Nat
 |0=>0
 |k+1=>QF3 x a k+(if x.arc k=a/\x.comes k=false then 1 else 0)
def Kz3 (C:List Cr) (a:Int):Nat->Nat
 |0=>0
 |i+1=>Kz3 C a i+Qz1 (C.getD i Cr.none) a 4
def Xx4 (C:List Cr) (a:Int):Nat->Nat
 |0=>0
 |i+1=>Xx4 C a i+QF3 (C.getD i Cr.none) a 4
def XW8 (C:List Cr) (a:Nat):Bool:=decide (Kz3 C a C.length=1)&&decide (Xx4 C a C.length=1)
def QF7 (C:List Cr) (loops:Int):Bool:=decide (C.length<=16)&&decide (0<=loops)&&decide (loops<=16)&&!(decide (C.length=0)&&decide (loops=0))
def QX3 (C:List Cr) (loops:Int):Bool:=QF7 C loops&&(List.range (2*C.length)).all fun j=>XW8 C (j+1)
theorem JQ8 {C:List Cr} {loops:Int} {a:Nat} (h0:1<=a) (h1:a<=2*C.length) (h:XW8 C a=false):QX3 C loops=false:=by
 cases hm:QX3 C loops with
 |false=>rfl
 |true=>
  simp only[QX3,Bool.and_eq_true,List.all_eq_true,List.mem_range]at hm
  have:=hm.2 (a-1) (by omega)
  rw[show a-1+1=a by omega,h]at this
  cases this
theorem KG9 {C:List Cr} {loops:Int} (hs:QF7 C loops=true) (h:∀ a:Nat,1<=a->a<=2*C.length->XW8 C a=true):QX3 C loops=true:=by
 simp only[QX3,Bool.and_eq_true,List.all_eq_true,List.mem_range]
 exact⟨hs,fun j hj=>h (j+1) (by omega) (by omega)⟩
theorem Xv3 {C:List Cr} {loops:Int} (hs:QF7 C loops=false):QX3 C loops=false:=by
 simp[QX3,hs]
def Crs (w:World) (B:Nat) (v:Value) (C:List Cr):Prop:=∃ a cap,v=.slice a C.length cap/\C.length<=maxLen/\(0<C.length->∃ b off,a=some ⟨b,off,none⟩/\b<B/\CrossAt w b off C)
end Go.Proofs.YtjcagkgpbcdghaaDoor
/- The walk of ref.DiagramMay where crossings and loops are not too many. -/
namespace Go.Proofs.YtjcagkgpbcdghaaDoor
open Go.RowKit
theorem QJ7 {C:List Cr} {loops:Int} (h:QF7 C loops=true):C.length<=16/\0<=loops/\loops<=16/\¬(C.length=0/\loops=0):=by
 simp only[QF7,Bool.and_eq_true,decide_eq_true_eq,Bool.not_eq_true',Bool.and_eq_false_iff,decide_eq_false_iff_not]at h
 omega
end Go.Proofs.YtjcagkgpbcdghaaDoor
/- The walk of ref.DiagramMay at whatever diagram; the walk of drawing.unknown. -/
namespace Go.Proofs.YtjcagkgpbcdghaaDoor
open Go.RowKit
set_option maxHeartbeats 2000000
set_option maxRecDepth 100000
theorem KA2:(Tryd.prog.info? 118).map (fun i=>(i.zero,i.size,i.bytes))=some (some (.agg #[.int .i64 0,.int .i64 0]),2,16):=by kernel_rfl
theorem XJ8 (n : Nat) (w : World) (hn : n ≤ 40) :
    Calls Tryd.prog 65 #[.int .i64 n] w fun e w'=>∃ v,e=.returned v/\w'.ownsRow w.heap.size 118 2 v n (flat (List.replicate n (-1,0)))/\Below w.heap.size w w':=by
 obtain⟨i0,hi,hz0,hz1,hz2⟩:=info_parts KA2
 go_enter Tryd.func65,Tryd.ntmps65
 go_wp2_with (first|(at_make;refine wpList_make_full _ rfl _ _ 42 rfl w.heap.size 118 i0 (.agg #[.int .i64 0,.int .i64 0]) 2 Tryd.underlying42 hi hz0 hz1 .i64 .i64 _ _ n rfl rfl rfl rfl (by rw[hz2];omega) (by unfold maxLen;omega) (Nat.le_refl _) ?_;intro w1 hrow hg1;refine Hid.out ?_))
 refine Lib.hid ?_
 have hz:(madeCells (Value.agg #[.int .i64 0,.int .i64 0]).cells (n*2)).toList=flat (Qy0 n 0):=by
  have e:(Value.agg #[.int .i64 0,.int .i64 0]).cells=#[Value.int .i64 0,.int .i64 0]:=rfl
  rw[e,ZA9]
  simp[Qy0]
 rw[hz]at hrow
 have HB1:Hid (Below w.heap.size w w1):=(Below.refl _ _).grown hg1 (Nat.le_refl _) (fun j hj=>by cases hj)
 clear hz hg1
 go_wp2
 go_loopw [9] (fun v9 wr=>∃ i:Nat,i<=n/\v9=.int .i64 i/\wr.ownsRow w.heap.size 118 2 (.slice (some ⟨w.heap.size,0,none⟩) n n) n (flat (Qy0 n i))/\Below w.heap.size w wr) (fun v9 _=>n-(intOf v9).toNat)
 case atStart=>exact⟨0,Nat.zero_le _,rfl,hrow,HB1.out⟩
 case round=>
  clear hrow
  obtain⟨i,hin,rfl,hown,hb⟩:=hrel
  have hlow:=(hown.lt w.heap.size rfl).2
  by_cases hil:i<n
  · have hul:(Qy0 n i).length=n:=by simp[Qy0];omega
    have f0:=hown.frozenAt (i*2)
    have c0:wr.cell? ⟨w.heap.size,i*2,none⟩=some (.int .i64 ((Qy0 n i).getD i (0,0)).1):=by rw[hown.cellAt (i*2) (by omega)];exact Qb7 _ i (by omega)
    have hst:=hown.stored (i*2) (.int .i64 (-1))
    rw[Xv8 _ i (-1) (by omega),KY7 n i hil]at hst
    have HST:Hid ((wr.setCell ⟨w.heap.size,i*2,none⟩ (.int .i64 (-1))).ownsRow w.heap.size 118 2 (.slice (some ⟨w.heap.size,0,none⟩) n n) n (flat (Qy0 n (i+1)))):=hst.1
    have HBB:Hid (Below w.heap.size w (wr.setCell ⟨w.heap.size,i*2,none⟩ (.int .i64 (-1)))):=hb.grown hst.2 hb.size (fun j hj=>by cases hj;exact Nat.le_refl _)
    generalize ((Qy0 n i).getD i (0,0)).1=u at c0
    clear hst hown
    go_wp2
    go_roundw
    case rel=>exact⟨i+1,by omega,by go_num,HST.out,HBB.out⟩
    case measure=>simp only[intOf];omega
  · obtain rfl:i=n:=by omega
    go_wp2
    go_ret
    exact ⟨_, rfl, by have e : Qy0 i i = List.replicate i (-1, 0) := by simp [Qy0]
                      rw[<-e];exact hown,hb⟩
end Go.Proofs.YtjcagkgpbcdghaaDoor
/- A diagram may be just if no arc stands twice where strands come in, nor where they go out, and none is out of range. Plain mathematics: no program is named here. -/
namespace Go.Proofs.YtjcagkgpbcdghaaDoor
def sd (x:Cr) (a:Int) (p:Bool):Nat->Nat
 |0=>0
 |k+1=>sd x a p k+(if x.arc k=a/\x.comes k=p then 1 else 0)
def Qf3 (C:List Cr) (a:Int) (p:Bool):Nat->Nat
 |0=>0
 |i+1=>Qf3 C a p i+sd (C.getD i Cr.none) a p 4
theorem Jq4 (x:Cr) (a:Int) (k:Nat):sd x a true k=Qz1 x a k:=by
 induction k with
 |zero=>rfl
 |succ k ih=>simp only[sd,Qz1,ih]
theorem JD8 (x:Cr) (a:Int) (k:Nat):sd x a false k=QF3 x a k:=by
 induction k with
 |zero=>rfl
 |succ k ih=>simp only[sd,QF3,ih]
theorem Zv8 (C:List Cr) (a:Int) (i:Nat):Qf3 C a true i=Kz3 C a i:=by
 induction i with
 |zero=>rfl
 |succ i ih=>simp only[Qf3,Kz3,ih,Jq4]
theorem ZJ9 (C:List Cr) (a:Int) (i:Nat):Qf3 C a false i=Xx4 C a i:=by
 induction i with
 |zero=>rfl
 |succ i ih=>simp only[Qf3,Xx4,ih,JD8]
def XW3 (f:Nat->Nat):Nat->Nat
 |0=>0
 |m+1=>XW3 f m+f (m+1)
theorem ZJ7 (f g:Nat->Nat) (m:Nat):XW3 (fun a=>f a+g a) m=XW3 f m+XW3 g m:=by
 induction m with
 |zero=>rfl
 |succ m ih=>simp only[XW3,ih];omega
theorem Qb2 {f g:Nat->Nat} (m:Nat) (h:∀ a,1<=a->a<=m->f a=g a):XW3 f m=XW3 g m:=by
 induction m with
 |zero=>rfl
 |succ m ih=>simp only[XW3];rw[ih fun a h1 h2=>h a h1 (by omega),h (m+1) (by omega) (Nat.le_refl _)]
theorem XX6 (m:Nat):XW3 (fun _=>0) m=0:=by
 induction m with
 |zero=>rfl
 |succ m ih=>simp only[XW3,ih]
theorem KB7 (m:Nat):XW3 (fun _=>1) m=m:=by
 induction m with
 |zero=>rfl
 |succ m ih=>simp only[XW3,ih]
theorem Kf3 (v:Int) (m:Nat):XW3 (fun a=>if v=(a:Int) then 1 else 0) m=if 1<=v/\v<=m then 1 else 0:=by
 induction m with
 |zero=>simp only[XW3];rw[if_neg (by omega)]
 |succ m ih=>
  simp only[XW3,ih]
  by_cases h1:1<=v/\v<=m
  · rw[if_pos h1,if_neg (by omega),if_pos (by omega)]
  · rw[if_neg h1]
    by_cases h2:v=((m+1:Nat):Int)
    · rw[if_pos h2,if_pos (by omega)]
    · rw[if_neg h2,if_neg (by omega)]
theorem KB8 {f:Nat->Nat} {m:Nat} (h1:∀ a,1<=a->a<=m->f a<=1) (hs:XW3 f m=m):∀ a,1<=a->a<=m->f a=1:=by
 have hle:∀ k,k<=m->XW3 f k<=k:=by
  intro k
  induction k with
  |zero=>intro _;exact Nat.le_refl _
  |succ k ih=>
   intro hk
   have:=ih (by omega)
   have:=h1 (k+1) (by omega) hk
   simp only[XW3]
   omega
 induction m with
 |zero=>intro a h2 h3;omega
 |succ m ih=>
  have hm:=hle m (by omega)
  have hl:=h1 (m+1) (by omega) (Nat.le_refl _)
  simp only[XW3]at hs
  intro a h2 h3
  by_cases e:a=m+1
  · rw[e];omega
  · exact ih (fun b hb1 hb2=>h1 b hb1 (by omega)) (by omega) (fun k hk=>hle k (by omega)) a h2 (by omega)
def cnt (x:Cr) (p:Bool):Nat->Nat
 |0=>0
 |k+1=>cnt x p k+(if x.comes k=p then 1 else 0)
theorem Qh2 (x:Cr) (p:Bool):cnt x p 4=2:=by
 obtain⟨a,b,c,d,q⟩:=x
 cases p<;>cases q<;>rfl
def rng (x:Cr) (p:Bool) (m:Nat):Nat->Nat
 |0=>0
 |k+1=>rng x p m k+(if x.comes k=p/\1<=x.arc k/\x.arc k<=m then 1 else 0)
def XF4 (C:List Cr) (p:Bool) (m:Nat):Nat->Nat
 |0=>0
 |i+1=>XF4 C p m i+rng (C.getD i Cr.none) p m 4
theorem JD4 (x:Cr) (p:Bool) (m k:Nat):XW3 (fun a=>sd x a p k) m=rng x p m k:=by
 induction k with
 |zero=>exact XX6 m
 |succ k ih=>
  simp only[sd,rng,ZJ7,ih]
  congr 1
  by_cases h:x.comes k=p
  · rw[Qb2 m (g:=fun a=>if x.arc k=(a:Int) then 1 else 0) (fun a _ _=>by simp[h]),Kf3]
    simp[h]
  · rw[Qb2 m (g:=fun _=>0) (fun a _ _=>by simp[h]),XX6,if_neg (fun e=>h e.1)]
theorem ZJ2 (C:List Cr) (p:Bool) (m i:Nat):XW3 (fun a=>Qf3 C a p i) m=XF4 C p m i:=by
 induction i with
 |zero=>exact XX6 m
 |succ i ih=>simp only[Qf3,XF4,ZJ7,ih,JD4]
theorem Zz1 (x:Cr) (p:Bool) (m k:Nat):rng x p m k<=cnt x p k:=by
 induction k with
 |zero=>exact Nat.le_refl _
 |succ k ih=>
  simp only[rng,cnt]
  by_cases h:x.comes k=p
  · rw[if_pos h];split<;>omega
  · rw[if_neg h,if_neg (fun e=>h e.1)];omega
theorem JF4 (x:Cr) (p:Bool) (m k j:Nat) (hj:j<k) (hc:x.comes j=p) (ho:¬(1<=x.arc j/\x.arc j<=m)):rng x p m k<cnt x p k:=by
 induction k with
 |zero=>omega
 |succ k ih=>
  simp only[rng,cnt]
  by_cases e:j=k
  · subst e
    have:=Zz1 x p m j
    rw[if_pos hc,if_neg (fun e=>ho e.2)]
    omega
  · have:=ih (by omega)
    by_cases h:x.comes k=p
    · rw[if_pos h];split<;>omega
    · rw[if_neg h,if_neg (fun e=>h e.1)];omega
theorem Kg6 (x:Cr) (p:Bool) (m k:Nat) (h:∀ j,j<k->x.comes j=p->1<=x.arc j/\x.arc j<=m):rng x p m k=cnt x p k:=by
 induction k with
 |zero=>rfl
 |succ k ih=>
  simp only[rng,cnt]
  rw[ih fun j hj=>h j (by omega)]
  by_cases hc:x.comes k=p
  · rw[if_pos hc,if_pos ⟨hc,h k (by omega) hc⟩]
  · rw[if_neg hc,if_neg (fun e=>hc e.1)]
theorem KF2 (C:List Cr) (p:Bool) (m i:Nat):XF4 C p m i<=2*i:=by
 induction i with
 |zero=>exact Nat.le_refl _
 |succ i ih=>
  have:=Zz1 (C.getD i Cr.none) p m 4
  rw[Qh2]at this
  simp only[XF4]
  omega
theorem KF1 (C:List Cr) (p:Bool) (m n i k:Nat) (hi:i<n) (hk:k<4) (hc:(C.getD i Cr.none).comes k=p) (ho:¬(1<=(C.getD i Cr.none).arc k/\(C.getD i Cr.none).arc k<=m)):XF4 C p m n<2*n:=by
 induction n with
 |zero=>omega
 |succ n ih=>
  simp only[XF4]
  by_cases e:i=n
  · subst e
    have h1:=JF4 (C.getD i Cr.none) p m 4 k hk hc ho
    have h2:=KF2 C p m i
    rw[Qh2]at h1
    omega
  · have h1:=ih (by omega)
    have h2:=Zz1 (C.getD n Cr.none) p m 4
    rw[Qh2]at h2
    omega
theorem KQ2 (C:List Cr) (p:Bool) (m n:Nat) (h:∀ i k,i<n->k<4->(C.getD i Cr.none).comes k=p->1<=(C.getD i Cr.none).arc k/\(C.getD i Cr.none).arc k<=m):XF4 C p m n=2*n:=by
 induction n with
 |zero=>rfl
 |succ n ih=>
  simp only[XF4]
  rw[ih fun i k hi=>h i k (by omega),Kg6 _ p m 4 (fun j hj hc=>h n j (by omega) hj hc),Qh2]
  omega
def ahd (C:List Cr) (a:Int) (p:Bool) (i k:Nat):Nat:=Qf3 C a p i+sd (C.getD i Cr.none) a p k
theorem ZY8 (C:List Cr) (a:Int) (p:Bool) (i k:Nat):ahd C a p i (k+1)=ahd C a p i k+(if(C.getD i Cr.none).arc k=a/\(C.getD i Cr.none).comes k=p then 1 else 0):=by
 simp only[ahd,sd];omega
theorem Xb9 (x:Cr) (a:Int) (p:Bool) (j k:Nat) (h:j<=k):sd x a p j<=sd x a p k:=by
 induction k with
 | zero => obtain rfl : j = 0 := by omega
           exact Nat.le_refl _
 |succ k ih=>
  by_cases e:j=k+1
  · subst e;exact Nat.le_refl _
  · have:=ih (by omega)
    simp only[sd]
    omega
theorem Qw0 (C:List Cr) (a:Int) (p:Bool) (i n:Nat) (h:i<=n):Qf3 C a p i<=Qf3 C a p n:=by
 induction n with
 | zero => obtain rfl : i = 0 := by omega
           exact Nat.le_refl _
 |succ n ih=>
  by_cases e:i=n+1
  · subst e;exact Nat.le_refl _
  · have:=ih (by omega)
    simp only[Qf3]
    omega
theorem JC1 (C:List Cr) (a:Int) (p:Bool) (i k n:Nat) (hi:i<n) (hk:k<=4):ahd C a p i k<=Qf3 C a p n:=by
 have h1:=Xb9 (C.getD i Cr.none) a p k 4 hk
 have h2:=Qw0 C a p (i+1) n (by omega)
 simp only[Qf3]at h2
 simp only[ahd]
 omega
def fit (C:List Cr) (i k:Nat):Prop:=1<=(C.getD i Cr.none).arc k/\(C.getD i Cr.none).arc k<=2*(C.length:Int)/\ahd C ((C.getD i Cr.none).arc k) ((C.getD i Cr.none).comes k) i k=0
theorem XG3 {C:List Cr} {a:Nat} (h:XW8 C a=true) (p:Bool):Qf3 C a p C.length=1:=by
 simp only[XW8,Bool.and_eq_true,decide_eq_true_eq]at h
 cases p
 · rw[ZJ9];exact h.2
 · rw[Zv8];exact h.1
theorem Qg6 {C:List Cr} {loops:Int} (h:QX3 C loops=true) (a:Nat) (h1:1<=a) (h2:a<=2*C.length):XW8 C a=true:=by
 cases ho:XW8 C a with
 |true=>rfl
 |false=>rw[JQ8 h1 h2 ho]at h;cases h
theorem QH7 {C:List Cr} {loops:Int} {i k:Nat} (hi:i<C.length) (hk:k<4) (h:¬fit C i k):QX3 C loops=false:=by
 cases hm:QX3 C loops with
 |false=>rfl
 |true=>
  exfalso
  by_cases hr:1<=(C.getD i Cr.none).arc k/\(C.getD i Cr.none).arc k<=2*(C.length:Int)
  · obtain⟨a,ha⟩:∃ a:Nat,(C.getD i Cr.none).arc k=(a:Int):=⟨((C.getD i Cr.none).arc k).toNat,by omega⟩
    have h1:=XG3 (Qg6 hm a (by omega) (by omega)) ((C.getD i Cr.none).comes k)
    have h2:=JC1 C a ((C.getD i Cr.none).comes k) i (k+1) C.length hi (by omega)
    rw[ZY8,if_pos ⟨ha,rfl⟩]at h2
    refine h ⟨hr.1,hr.2,?_⟩
    rw[ha]
    omega
  · have h1:=KF1 C ((C.getD i Cr.none).comes k) (2*C.length) C.length i k hi hk rfl (by omega)
    rw[<-ZJ2,Qb2 (2*C.length) (g:=fun _=>1) (fun a h2 h3=>XG3 (Qg6 hm a h2 h3) _),KB7]at h1
    omega
theorem Xf5 {C:List Cr} {loops:Int} (hs:QF7 C loops=true) (h:∀ i k,i<C.length->k<4->fit C i k):QX3 C loops=true:=by
 have key:∀ p,∀ a:Nat,1<=a->a<=2*C.length->Qf3 C a p C.length=1:=by
  intro p
  refine KB8 (f:=fun a=>Qf3 C a p C.length) ?_ ?_
  · intro a h1 h2
    have hrow:∀ i,i<=C.length->Qf3 C a p i<=1:=by
     intro i
     induction i with
     |zero=>intro _;exact Nat.zero_le _
     |succ i ih=>
      intro hi
      have ih:=ih (by omega)
      have hcol:∀ k,k<=4->ahd C a p i k<=1:=by
       intro k
       induction k with
       |zero=>intro _;exact ih
       |succ k ihk=>
        intro hk
        have ihk:=ihk (by omega)
        rw[ZY8]
        split
        · next e=>
          have hf:=(h i k (by omega) (by omega)).2.2
          rw[e.1,e.2]at hf
          omega
        · omega
      have:=hcol 4 (Nat.le_refl _)
      exact this
    exact hrow C.length (Nat.le_refl _)
  · rw[ZJ2]
    exact KQ2 C p _ C.length fun i k hi hk _=>by
     have:=h i k hi hk
     exact⟨this.1,by have:=this.2.1;omega⟩
 refine KG9 hs fun a h1 h2=>?_
 simp only[XW8,Bool.and_eq_true,decide_eq_true_eq]
 exact⟨by rw[<-Zv8];exact key true a h1 h2,by rw[<-ZJ9];exact key false a h1 h2⟩
end Go.Proofs.YtjcagkgpbcdghaaDoor
/- The walk of drawing.Of. -/
namespace Go.Proofs.YtjcagkgpbcdghaaDoor
open Go.RowKit
set_option maxHeartbeats 4000000
set_option maxRecDepth 100000
def QX2:Value:=.agg #[.slice none 0 0,.int .i64 0,.slice none 0 0,.slice none 0 0]
theorem JQ0 (v : Value) (C : List Cr) (loops : Int) (w : World) (h : Crs w w.heap.size v C) (hs : QF7 C loops = false) :
    Calls Tryd.prog 51 #[.agg #[v,.int .i64 loops]] w fun e w'=>e=.returned (.tuple #[QX2,.bool false])/\Below w.heap.size w w':=by
 obtain⟨a,cap,rfl,hn,_⟩:=h
 have hn':C.length<=9223372036854775807:=hn
 by_cases h1:16<C.length
 · have d1:decide (16<(C.length:Int))=true:=by simp;omega
   have d2:decide (16<C.length)=true:=by simp;omega
   go_enter Tryd.func51,Tryd.ntmps51
   go_wp2
   exact bodyPost_ret (v:=.tuple #[QX2,.bool false]) (by simp[results,Tryd.results51,go_sem,QX2]) rfl ⟨rfl,QF9 _ _ _⟩
 · by_cases h2:loops<0
   · have d2:decide (loops<0)=true:=by simpa using h2
     go_enter Tryd.func51,Tryd.ntmps51
     go_wp2
     exact bodyPost_ret (v:=.tuple #[QX2,.bool false]) (by simp[results,Tryd.results51,go_sem,QX2]) rfl ⟨rfl,QF9 _ _ _⟩
   · by_cases h3:16<loops
     · have d3:decide (16<loops)=true:=by simpa using h3
       go_enter Tryd.func51,Tryd.ntmps51
       go_wp2
       exact bodyPost_ret (v:=.tuple #[QX2,.bool false]) (by simp[results,Tryd.results51,go_sem,QX2]) rfl ⟨rfl,QF9 _ _ _⟩
     · have h4 : C.length = 0 ∧ loops = 0 := by
         simp only[QF7,Bool.and_eq_false_iff,decide_eq_false_iff_not,Bool.not_eq_false',Bool.and_eq_true,decide_eq_true_eq]at hs
         omega
       obtain⟨h4,rfl⟩:=h4
       rw[h4]
       go_enter Tryd.func51,Tryd.ntmps51
       go_wp2
       exact bodyPost_ret (v:=.tuple #[QX2,.bool false]) (by simp[results,Tryd.results51,go_sem,QX2]) rfl ⟨rfl,QF9 _ _ _⟩
end Go.Proofs.YtjcagkgpbcdghaaDoor
/- Where arcs begin and end; walks along strands; Dowker's numbers. Plain mathematics: no program is named here. -/
namespace Go.Proofs.YtjcagkgpbcdghaaDoor
def QH3 (x:Cr) (i:Nat) (a:Int) (p:Bool) (z:Int×Int):Nat->Int×Int
 |0=>z
 |k+1=>if x.arc k=a/\x.comes k=p then((i:Int),(k:Int)) else QH3 x i a p z k
def QC2 (C:List Cr) (a:Int) (p:Bool):Nat->Int×Int
 |0=>(-1,0)
 |i+1=>QH3 (C.getD i Cr.none) i a p (QC2 C a p i) 4
def QB0 (C:List Cr) (a:Int) (p:Bool) (i k:Nat):Int×Int:=QH3 (C.getD i Cr.none) i a p (QC2 C a p i) k
theorem Qb9 (C:List Cr) (a:Int) (p:Bool) (i k:Nat):QB0 C a p i (k+1)=if(C.getD i Cr.none).arc k=a/\(C.getD i Cr.none).comes k=p then((i:Int),(k:Int)) else QB0 C a p i k:=rfl
theorem Qu6 (x:Cr) (i:Nat) (a:Int) (p:Bool) (z:Int×Int) (k:Nat):(sd x a p k=0/\QH3 x i a p z k=z)∨(0<sd x a p k/\∃ j,j<k/\x.arc j=a/\x.comes j=p/\QH3 x i a p z k=((i:Int),(j:Int))):=by
 induction k with
 |zero=>exact Or.inl ⟨rfl,rfl⟩
 |succ k ih=>
  by_cases h:x.arc k=a/\x.comes k=p
  · refine Or.inr ⟨?_,k,by omega,h.1,h.2,?_⟩
    · simp only[sd];rw[if_pos h];omega
    · simp only[QH3];rw[if_pos h]
  · have e1:sd x a p (k+1)=sd x a p k:=by simp only[sd];rw[if_neg h];rfl
    have e2:QH3 x i a p z (k+1)=QH3 x i a p z k:=by simp only[QH3];rw[if_neg h]
    rw[e1,e2]
    rcases ih with ih|⟨h1,j,h2,h3⟩
    · exact Or.inl ih
    · exact Or.inr ⟨h1,j,by omega,h3⟩
theorem XV7 (C:List Cr) (a:Int) (p:Bool) (n:Nat):(Qf3 C a p n=0/\QC2 C a p n=(-1,0))∨(0<Qf3 C a p n/\∃ i j,i<n/\j<4/\(C.getD i Cr.none).arc j=a/\(C.getD i Cr.none).comes j=p/\QC2 C a p n=((i:Int),(j:Int))):=by
 induction n with
 |zero=>exact Or.inl ⟨rfl,rfl⟩
 |succ n ih=>
  simp only[Qf3,QC2]
  rcases Qu6 (C.getD n Cr.none) n a p (QC2 C a p n) 4 with⟨h1,h2⟩|⟨h1,j,h2,h3,h4,h5⟩
  · rw[h1,h2]
    rcases ih with ih|⟨h1,i,j,h2,h3⟩
    · exact Or.inl ih
    · exact Or.inr ⟨h1,i,j,by omega,h3⟩
  · exact Or.inr ⟨by omega,n,j,by omega,h2,h3,h4,h5⟩
theorem ZX4 (C:List Cr) (a:Int) (p:Bool) (i k:Nat) (hk:k<=4):(ahd C a p i k=0/\QB0 C a p i k=(-1,0))∨(0<ahd C a p i k/\∃ i' j:Nat,j<4/\QB0 C a p i k=((i':Int),(j:Int))):=by
 simp only[ahd,QB0]
 rcases Qu6 (C.getD i Cr.none) i a p (QC2 C a p i) k with⟨h1,h2⟩|⟨h1,j,h2,h3,h4,h5⟩
 · rw[h1,h2]
   rcases XV7 C a p i with h|⟨h1,i',j,h2,h3,h4,h5,h6⟩
   · exact Or.inl h
   · exact Or.inr ⟨h1,i',j,h3,h6⟩
 · exact Or.inr ⟨by omega,i,j,by omega,h5⟩
theorem XD8 (C:List Cr) (a:Int) (p:Bool) (i k:Nat) (hk:k<=4):(QB0 C a p i k).1 = -1↔ahd C a p i k=0:=by
 rcases ZX4 C a p i k hk with⟨h1,h2⟩|⟨h1,i',j,h2,h3⟩
 · rw[h1,h2];simp
 · rw[h3]
   constructor
   · intro h
     have:(i':Int) = -1:=h
     omega
   · intro h;omega
def ends (C:List Cr) (p:Bool) (i k:Nat):List (Int×Int):=(List.range (2*C.length+1)).map fun a=>if a=0 then(-1,0) else QB0 C (a:Nat) p i k
theorem QZ4 (C:List Cr) (p:Bool) (i k:Nat):(ends C p i k).length=2*C.length+1:=by simp[ends]
theorem Qy4 (C:List Cr) (p:Bool) (i k a:Nat) (h1:1<=a) (h2:a<=2*C.length):(ends C p i k).getD a (0,0)=QB0 C a p i k:=by
 unfold ends
 rw[List.getD_eq_getElem?_getD,List.getElem?_map,List.getElem?_range (by omega)]
 simp
 omega
theorem XD7 (C:List Cr) (p:Bool):ends C p 0 0=List.replicate (2*C.length+1) (-1,0):=by
 apply List.ext_getElem
 · simp[ends]
 · intro j h1 h2
   simp only[ends,List.getElem_map,List.getElem_range,List.getElem_replicate]
   split<;>rfl
theorem Xw0 (C:List Cr) (p:Bool) (i k:Nat) (h:(C.getD i Cr.none).comes k≠p):ends C p i (k+1)=ends C p i k:=by
 unfold ends
 apply List.map_congr_left
 intro a _
 have e:QB0 C (a:Nat) p i (k+1)=QB0 C (a:Nat) p i k:=by rw[Qb9,if_neg (fun e=>h e.2)]
 simp only[e]
theorem ZU7 (C:List Cr) (p:Bool) (i k a:Nat) (h1:1<=a) (hc:(C.getD i Cr.none).comes k=p) (ha:(C.getD i Cr.none).arc k=(a:Int)):(ends C p i k).set a ((i:Int),(k:Int))=ends C p i (k+1):=by
 apply List.ext_getElem
 · simp[ends]
 · intro j h2 h3
   rw[List.getElem_set]
   simp only[ends,List.getElem_map,List.getElem_range]
   by_cases e:a=j
   · subst e
     rw[if_pos rfl,if_neg (by omega),Qb9,if_pos ⟨ha,hc⟩]
   · have e2:QB0 C (j:Nat) p i (k+1)=QB0 C (j:Nat) p i k:=by rw[Qb9,if_neg (fun h=>e (by have:=h.1;rw[ha]at this;omega))]
     rw[if_neg e,e2]
theorem Xf7 {C:List Cr} {loops:Int} (hm:QX3 C loops=true) (a:Nat) (h1:1<=a) (h2:a<=2*C.length) (p:Bool):∃ i k:Nat,i<C.length/\k<4/\(C.getD i Cr.none).arc k=(a:Int)/\(C.getD i Cr.none).comes k=p/\QC2 C a p C.length=((i:Int),(k:Int)):=by
 have ho:=XG3 (Qg6 hm a h1 h2) p
 rcases XV7 C a p C.length with⟨h,_⟩|⟨_,i,j,h3,h4,h5,h6,h7⟩
 · omega
 · exact⟨i,j,h3,h4,h5,h6,h7⟩
theorem Kb0 (x:Cr) (a:Int) (p:Bool) (k n:Nat) (hk:k<n) (h:x.arc k=a/\x.comes k=p):0<sd x a p n:=by
 have:=Xb9 x a p (k+1) n (by omega)
 simp only[sd]at this
 rw[if_pos h]at this
 omega
theorem JD7 (x:Cr) (a:Int) (p:Bool) (j k n:Nat) (hj:j<k) (hk:k<n) (h:x.arc j=a/\x.comes j=p) (h2:x.arc k=a/\x.comes k=p):2<=sd x a p n:=by
 have h3:=Kb0 x a p j k hj h
 have:=Xb9 x a p (k+1) n (by omega)
 simp only[sd]at this
 rw[if_pos h2]at this
 omega
theorem XQ9 {C:List Cr} {loops:Int} (hm:QX3 C loops=true) (a:Nat) (h1:1<=a) (h2:a<=2*C.length) (p:Bool) (i k:Nat) (hi:i<C.length) (hk:k<4) (ha:(C.getD i Cr.none).arc k=(a:Int)) (hc:(C.getD i Cr.none).comes k=p):QC2 C a p C.length=((i:Int),(k:Int)):=by
 have ho:=XG3 (Qg6 hm a h1 h2) p
 obtain⟨i',k',h3,h4,h5,h6,h7⟩:=Xf7 hm a h1 h2 p
 rw[h7]
 have row:∀ u v s t:Nat,u<v->v<C.length->s<4->t<4->(C.getD u Cr.none).arc s=(a:Int)->(C.getD u Cr.none).comes s=p->(C.getD v Cr.none).arc t=(a:Int)->(C.getD v Cr.none).comes t=p->False:=by
  intro u v s t huv hv hs ht e1 e2 e3 e4
  have g1:=Kb0 (C.getD u Cr.none) a p s 4 hs ⟨e1,e2⟩
  have g2:=Kb0 (C.getD v Cr.none) a p t 4 ht ⟨e3,e4⟩
  have g3:=Qw0 C a p (u+1) v (by omega)
  have g4:=Qw0 C a p (v+1) C.length (by omega)
  simp only[Qf3]at g3 g4
  omega
 have col:∀ u s t:Nat,s<t->u<C.length->t<4->(C.getD u Cr.none).arc s=(a:Int)->(C.getD u Cr.none).comes s=p->(C.getD u Cr.none).arc t=(a:Int)->(C.getD u Cr.none).comes t=p->False:=by
  intro u s t hst hu ht e1 e2 e3 e4
  have g2:=JD7 (C.getD u Cr.none) a p s t 4 hst ht ⟨e1,e2⟩ ⟨e3,e4⟩
  have g4:=Qw0 C a p (u+1) C.length (by omega)
  simp only[Qf3]at g4
  omega
 rcases Nat.lt_trichotomy i i' with h|h|h
 · exact(row i i' k k' h h3 hk h4 ha hc h5 h6).elim
 · subst h
   rcases Nat.lt_trichotomy k k' with h|h|h
   · exact(col i k k' h hi h4 ha hc h5 h6).elim
   · subst h;rfl
   · exact(col i k' k h hi hk h5 h6 ha hc).elim
 · exact(row i' i k' k h hi h4 hk h5 h6 ha hc).elim
theorem QV7 {C:List Cr} {loops:Int} (hm:QX3 C loops=true) (i k:Nat) (hi:i<C.length) (hk:k<4):fit C i k:=by
 refine Classical.byContradiction fun h=>?_
 rw[QH7 hi hk h]at hm
 cases hm
def toC (C:List Cr) (a:Nat):Nat:=(QC2 C a true C.length).1.toNat
def toS (C:List Cr) (a:Nat):Nat:=(QC2 C a true C.length).2.toNat
def nx (C:List Cr) (a:Nat):Nat:=((C.getD (toC C a) Cr.none).arc ((toS C a+2)%4)).toNat
def QZ2 (f:Nat->Nat):Nat->List Bool->Nat->List Nat->List Nat×List Bool
 |0,seen,_,acc=>(acc,seen)
 |m+1,seen,x,acc=>if seen.getD x true=true then(acc,seen) else QZ2 f m (seen.set x true) (f x) (acc++[x])
def unseen (l:List Bool):Nat:=l.countP (fun b=>!b)
theorem Qx0 {l:List Bool} {x:Nat} (h:l.getD x true=false):unseen (l.set x true)+1=unseen l:=by
 induction l generalizing x with
 |nil=>simp at h
 |cons b l ih=>
  cases x with
  |zero=>
   have:b=false:=by simpa using h
   subst this
   simp[unseen]
  |succ x=>
   have:=ih (x:=x) (by simpa using h)
   simp only[unseen,List.set_cons_succ,List.countP_cons]at this ⊢
   omega
theorem ZD3 {l:List Bool} {x:Nat} (h:l.getD x true=false):0<unseen l:=by have:=Qx0 h;omega
theorem Qb0 {f:Nat->Nat} {m:Nat} {seen:List Bool} {x:Nat} {acc:List Nat} (h:seen.getD x true=true):QZ2 f m seen x acc=(acc,seen):=by
 cases m with
 |zero=>rfl
 |succ m=>simp only[QZ2];rw[if_pos h]
theorem XY5 {f:Nat->Nat} {m:Nat} {seen:List Bool} {x:Nat} {acc:List Nat} (h:seen.getD x true=false) (hm:unseen seen<=m):QZ2 f m seen x acc=QZ2 f (m-1) (seen.set x true) (f x) (acc++[x])/\unseen (seen.set x true)<=m-1:=by
 have h2:=Qx0 h
 cases m with
 |zero=>omega
 |succ m=>
  simp only[QZ2]
  rw[if_neg (by rw[h];decide)]
  exact⟨rfl,by omega⟩
def QQ8 (f:Nat->Nat) (n:Nat):Nat->List (List Nat)×List Bool
 |0=>([],List.replicate (n+1) false)
 |a+1=>let r:=QQ8 f n a;let s:=QZ2 f (n+1) r.2 (a+1) [];(if s.1=[] then r.1 else r.1++[s.1],s.2)
theorem Xz8 (f:Nat->Nat) (m:Nat) (seen:List Bool) (x:Nat) (acc:List Nat):(QZ2 f m seen x acc).2.length=seen.length:=by
 induction m generalizing seen x acc with
 |zero=>rfl
 |succ m ih=>
  simp only[QZ2]
  split
  · rfl
  · rw[ih];simp
theorem Qv8 (l:List Bool):unseen l<=l.length:=List.countP_le_length
theorem XJ6 (f:Nat->Nat) (n a:Nat):(QQ8 f n a).2.length=n+1:=by
 induction a with
 |zero=>simp[QQ8]
 |succ a ih=>simp only[QQ8];rw[Xz8,ih]
theorem Xz7 {f:Nat->Nat} {n:Nat} (hf:∀ a,1<=a->a<=n->1<=f a/\f a<=n) (m:Nat) (seen:List Bool) (x:Nat) (acc:List Nat) (h1:1<=x) (h2:x<=n) (ha:∀ y,y∈acc->1<=y/\y<=n):∀ y,y∈(QZ2 f m seen x acc).1->1<=y/\y<=n:=by
 induction m generalizing seen x acc with
 |zero=>exact ha
 |succ m ih=>
  simp only[QZ2]
  split
  · exact ha
  · refine ih _ _ _ (hf x h1 h2).1 (hf x h1 h2).2 fun y hy=>?_
    rcases List.mem_append.1 hy with hy|hy
    · exact ha y hy
    · rw[List.mem_singleton.1 hy];exact⟨h1,h2⟩
theorem ZD0 (f:Nat->Nat) (m:Nat) (seen:List Bool) (x:Nat) (acc:List Nat):(QZ2 f m seen x acc).1.length+unseen (QZ2 f m seen x acc).2=acc.length+unseen seen:=by
 induction m generalizing seen x acc with
 |zero=>rfl
 |succ m ih=>
  simp only[QZ2]
  split
  · rfl
  · next h=>
    have h':seen.getD x true=false:=by cases hb:seen.getD x true with
     |true=>exact absurd hb h
     |false=>rfl
    have:=Qx0 h'
    rw[ih]
    simp only[List.length_append,List.length_cons,List.length_nil]
    omega
theorem Qk4 {f:Nat->Nat} {n:Nat} (hf:∀ a,1<=a->a<=n->1<=f a/\f a<=n) (a:Nat) (ha:a<=n):∀ l,l∈(QQ8 f n a).1->l≠[]/\l.length<=n+1/\∀ y,y∈l->1<=y/\y<=n:=by
 induction a with
 |zero=>intro l hl;simp[QQ8]at hl
 |succ a ih=>
  intro l hl
  simp only[QQ8]at hl
  split at hl
  · exact ih (by omega) l hl
  · next he=>
    rcases List.mem_append.1 hl with hl|hl
    · exact ih (by omega) l hl
    · rw[List.mem_singleton.1 hl]
      refine⟨he,?_,Xz7 hf _ _ _ _ (by omega) ha fun y hy=>by cases hy⟩
      have h1:=ZD0 f (n+1) (QQ8 f n a).2 (a+1) []
      have h2:=Qv8 (QQ8 f n a).2
      rw[XJ6]at h2
      simp only[List.length_nil]at h1
      omega
theorem XC6 (f:Nat->Nat) (n a:Nat):(QQ8 f n a).1.length<=a:=by
 induction a with
 |zero=>exact Nat.le_refl _
 |succ a ih=>
  simp only[QQ8]
  split
  · omega
  · simp only[List.length_append,List.length_cons,List.length_nil];omega
def cp (x:Nat->Nat) (c r:Nat):Nat->Nat
 |0=>0
 |m+1=>cp x c r m+(if x m=c/\m%2=r then 1 else 0)
def un (l:List Bool) (y:Nat):Nat:=if l.getD y true=true then 0 else 1
theorem Qk5 {l:List Bool} {x:Nat}:un (l.set x true) x=0:=by
 unfold un
 rw[if_pos]
 rw[List.getD_eq_getElem?_getD]
 by_cases h:x<l.length
 · simp[h]
 · rw[List.getElem?_eq_none (by simp;omega)];rfl
theorem Qd6 {l:List Bool} {x y:Nat} (h:x≠y):un (l.set x true) y=un l y:=by
 unfold un
 rw[List.getD_eq_getElem?_getD,List.getD_eq_getElem?_getD,List.getElem?_set_ne h]
theorem XJ7 (f:Nat->Nat) (m:Nat) (seen:List Bool) (x:Nat) (acc:List Nat) (y:Nat):(QZ2 f m seen x acc).1.count y+un (QZ2 f m seen x acc).2 y=acc.count y+un seen y:=by
 induction m generalizing seen x acc with
 |zero=>rfl
 |succ m ih=>
  simp only[QZ2]
  split
  · rfl
  · next h=>
    rw[ih,List.count_append]
    by_cases e:x=y
    · subst e
      have e1:un seen x=1:=by unfold un;rw[if_neg h]
      rw[Qk5,e1]
      simp
    · rw[Qd6 e,List.count_cons_of_ne e]
      simp
theorem Qb1 (f:Nat->Nat) (m:Nat) (seen:List Bool) (x:Nat) (acc:List Nat) (y:Nat) (h:un seen y=0):un (QZ2 f m seen x acc).2 y=0:=by
 induction m generalizing seen x acc with
 |zero=>exact h
 |succ m ih=>
  simp only[QZ2]
  split
  · exact h
  · apply ih
    by_cases e:x=y
    · subst e;exact Qk5
    · rw[Qd6 e];exact h
theorem Xg9 (f:Nat->Nat) (m:Nat) (seen:List Bool) (x:Nat) (acc:List Nat):un (QZ2 f (m+1) seen x acc).2 x=0:=by
 simp only[QZ2]
 split
 · next h=>unfold un;rw[if_pos h]
 · exact Qb1 f m _ _ _ x Qk5
theorem Qd5 (f:Nat->Nat) (n a:Nat):∀ y,1<=y->y<=a->un (QQ8 f n a).2 y=0:=by
 induction a with
 |zero=>intro y h1 h2;omega
 |succ a ih=>
  intro y h1 h2
  simp only[QQ8]
  by_cases e:y=a+1
  · subst e;exact Xg9 f n _ _ _
  · exact Qb1 f (n+1) _ _ _ y (ih y h1 (by omega))
theorem XJ5 (f:Nat->Nat) (n a y:Nat) (_h1:1<=y) (h2:y<=n):(QQ8 f n a).1.flatten.count y+un (QQ8 f n a).2 y=1:=by
 induction a with
 |zero=>
  have e:un (QQ8 f n 0).2 y=1:=by
   have e2:(QQ8 f n 0).2.getD y true=false:=by
    show(List.replicate (n+1) false).getD y true=false
    rw[List.getD_eq_getElem?_getD,List.getElem?_replicate,if_pos (by omega)]
    rfl
   unfold un
   rw[e2]
   rfl
  rw[e]
  rfl
 |succ a ih=>
  have hc:=XJ7 f (n+1) (QQ8 f n a).2 (a+1) [] y
  simp only[QQ8]
  split
  · next he=>
    rw[he]at hc
    simp at hc
    omega
  · rw[List.flatten_append,List.count_append]
    simp at hc ⊢
    omega
theorem QG5 (f:Nat->Nat) (n y:Nat) (h1:1<=y) (h2:y<=n):(QQ8 f n n).1.flatten.count y=1:=by
 have e1:=XJ5 f n n y h1 h2
 have e2:=Qd5 f n n y h1 h2
 omega
end Go.Proofs.YtjcagkgpbcdghaaDoor
/- Helps for the walk of drawing.Of: stores of four and of two cells; the state of its loops. -/
namespace Go.Proofs.YtjcagkgpbcdghaaDoor
open Go.RowKit
theorem QZ0 {w:World} {g i:Nat} {cs:Array Value} {t:TypeId} {fz:Nat×Nat} {u:Value} (h:w.heap[g]?=some (.cells cs t fz)):(w.setCell ⟨g,i,none⟩ u).heap[g]?=some (.cells (cs.setIfInBounds i u) t fz):=by
 simp only[World.setCell,Array.getElem?_modify,if_true,h]
 rfl
theorem QX9 (w:World) (g i:Nat) (u:Value):w.grownBy (w.setCell ⟨g,i,none⟩ u) (some g):=
 ⟨rfl,rfl,rfl,by simp,fun k _ hk=>heap_setCell_other w ⟨g,i,none⟩ k u (fun e=>hk (by simp[e]))⟩
theorem grown_trans {a b c:World} {row:Option Nat} (h:a.grownBy b row) (k:b.grownBy c row):a.grownBy c row:=
 ⟨k.os.trans h.os,k.tape.trans h.tape,k.output.trans h.output,Nat.le_trans h.size k.size,fun j hj hn=>(k.block j (Nat.lt_of_lt_of_le hj h.size) hn).trans (h.block j hj hn)⟩
def st4 (w:World) (g:Nat) (a b c d:Value):World:=(((w.setCell ⟨g,0,none⟩ a).setCell ⟨g,1,none⟩ b).setCell ⟨g,2,none⟩ c).setCell ⟨g,3,none⟩ d
theorem QJ6 (w:World) (g:Nat) (a b c d:Value):w.grownBy (st4 w g a b c d) (some g):=
 grown_trans (grown_trans (grown_trans (QX9 _ _ _ _) (QX9 _ _ _ _)) (QX9 _ _ _ _)) (QX9 _ _ _ _)
theorem QW5 {w:World} {g:Nat} {t:TypeId} {a0 b0 c0 d0 a b c d:Value} (h:w.heap[g]?=some (.cells #[a0,b0,c0,d0] t (0,0))):(st4 w g a b c d).heap[g]?=some (.cells #[a,b,c,d] t (0,0)):=by
 unfold st4
 rw[QZ0 (QZ0 (QZ0 (QZ0 h)))]
 rfl
theorem ZJ8 {w:World} {g h o:Nat} {v a b c d:Value} (hne:h≠g) (hc:w.cell? ⟨h,o,none⟩=some v):((((w.setCell ⟨g,0,none⟩ a).setCell ⟨g,1,none⟩ b).setCell ⟨g,2,none⟩ c).setCell ⟨g,3,none⟩ d).cell? ⟨h,o,none⟩=some v:=
 (QJ6 w g a b c d).cell (a:=⟨h,o,none⟩) hc (fun e=>hne (Option.some.inj e))
theorem QQ0 {w:World} {g i:Nat} {cs:Array Value} {t:TypeId} {fz:Nat×Nat} {v:Value} (h:w.heap[g]?=some (.cells cs t fz)) (hv:cs[i]?=some v):w.cell? ⟨g,i,none⟩=some v:=by
 unfold World.cell?
 rw[h]
 simpa using hv
theorem QQ4 {w:World} {g i:Nat} {cs:Array Value} {t:TypeId} (h:w.heap[g]?=some (.cells cs t (0,0))):w.frozen? ⟨g,i,none⟩=false:=by simp[World.frozen?,h]
theorem Xj8 {w:World} {B e s n:Nat} {v:Value} {xs:List Value} (h:w.ownsRow B e s v n xs) (hn:0<n):∃ g c,v=.slice (some ⟨g,0,none⟩) n c/\B<=g/\g<w.heap.size:=by
 rcases h.2 with⟨_,h0⟩|⟨g,cap,cur,rfl,hb,hg,_⟩
 · omega
 · exact⟨g,cap,rfl,(h.lt g rfl).1,(h.lt g rfl).2⟩
structure OfAt (sz gF cF gT cT:Nat) (A:Value) (loops:Int) (C:List Cr) (i k:Nat) (wr:World):Prop where
 dia:wr.heap[sz]?=some (.cells #[A,.int .i64 loops] 27 (0,0))
 dra:wr.heap[sz+1]?=some (.cells #[A,.int .i64 loops,.slice (some ⟨gF,0,none⟩) (2*C.length+1) cF,.slice (some ⟨gT,0,none⟩) (2*C.length+1) cT] 44 (0,0))
 from_:wr.ownsRow (sz+2) 118 2 (.slice (some ⟨gF,0,none⟩) (2*C.length+1) cF) (2*C.length+1) (flat (ends C false i k))
 to:wr.ownsRow (sz+2) 118 2 (.slice (some ⟨gT,0,none⟩) (2*C.length+1) cT) (2*C.length+1) (flat (ends C true i k))
 ne:gF≠gT
theorem OfAt.on {sz gF cF gT cT:Nat} {A:Value} {loops:Int} {C:List Cr} {i k:Nat} {w w':World} (h:OfAt sz gF cF gT cT A loops C i k w) (hb:Below w.heap.size w w') (hs:sz+1<w.heap.size):OfAt sz gF cF gT cT A loops C i k w':=
 ⟨(hb.block _ (by omega)).trans h.dia,(hb.block _ hs).trans h.dra,own_any h.from_ (grown_below hb none),own_any h.to (grown_below hb none),h.ne⟩
theorem OfAt.row {sz gF cF gT cT:Nat} {A:Value} {loops:Int} {C:List Cr} {i:Nat} {w:World} (h:OfAt sz gF cF gT cT A loops C i 4 w):OfAt sz gF cF gT cT A loops C (i+1) 0 w:=⟨h.dia,h.dra,h.from_,h.to,h.ne⟩
theorem KJ8 (l:List (Int×Int)) (a:Nat) (i k:Int) (ha:a<l.length):((flat l).set (a*2) (.int .i64 i)).set (a*2+1) (.int .i64 k)=flat (l.set a (i,k)):=by
 rw[Xv8 _ _ _ ha,KJ7 _ _ _ (by rw[Xh5];exact ha)]
 congr 1
 unfold Ky4 Zx1
 rw[List.set_set]
 congr 1
 simp[List.getD,ha]
def st2 (w:World) (g o:Nat) (a b:Value):World:=(w.setCell ⟨g,o,none⟩ a).setCell ⟨g,o+1,none⟩ b
theorem QV9 (w:World) (g o:Nat) (a b:Value):w.grownBy (st2 w g o a b) (some g):=grown_trans (QX9 _ _ _ _) (QX9 _ _ _ _)
theorem Zw9 {w:World} {B e n g cap a:Nat} {l:List (Int×Int)} {i k:Int} (h:w.ownsRow B e 2 (.slice (some ⟨g,0,none⟩) n cap) n (flat l)) (ha:a<l.length):(st2 w g (a*2) (.int .i64 i) (.int .i64 k)).ownsRow B e 2 (.slice (some ⟨g,0,none⟩) n cap) n (flat (l.set a (i,k))):=by
 have h1:=(h.stored (a*2) (.int .i64 i)).1
 have h2:=(h1.stored (a*2+1) (.int .i64 k)).1
 rw[KJ8 l a i k ha]at h2
 exact h2
theorem OfAt.storeT {sz gF cF gT cT a:Nat} {A:Value} {loops:Int} {C:List Cr} {i k:Nat} {w:World} (h:OfAt sz gF cF gT cT A loops C i k w) (h1:1<=a) (h2:a<=2*C.length) (hc:(C.getD i Cr.none).comes k=true) (ha:(C.getD i Cr.none).arc k=(a:Int)):OfAt sz gF cF gT cT A loops C i (k+1) (st2 w gT (a*2) (.int .i64 (i:Nat)) (.int .i64 (k:Nat))):=by
 have hg:=QV9 w gT (a*2) (.int .i64 (i:Nat)) (.int .i64 (k:Nat))
 have hT:=(h.to.lt gT rfl)
 have hF:=(h.from_.lt gF rfl)
 refine⟨(hg.block _ (by omega) (fun e=>by have:=Option.some.inj e;omega)).trans h.dia,(hg.block _ (by omega) (fun e=>by have:=Option.some.inj e;omega)).trans h.dra,?_,?_,h.ne⟩
 · rw[Xw0 C false i k (by rw[hc];decide)]
   exact h.from_.kept hg (Or.inr (fun e=>h.ne (Option.some.inj e)))
 · rw[<-ZU7 C true i k a h1 hc ha]
   exact Zw9 h.to (by rw[QZ4];omega)
theorem OfAt.storeF {sz gF cF gT cT a:Nat} {A:Value} {loops:Int} {C:List Cr} {i k:Nat} {w:World} (h:OfAt sz gF cF gT cT A loops C i k w) (h1:1<=a) (h2:a<=2*C.length) (hc:(C.getD i Cr.none).comes k=false) (ha:(C.getD i Cr.none).arc k=(a:Int)):OfAt sz gF cF gT cT A loops C i (k+1) (st2 w gF (a*2) (.int .i64 (i:Nat)) (.int .i64 (k:Nat))):=by
 have hg:=QV9 w gF (a*2) (.int .i64 (i:Nat)) (.int .i64 (k:Nat))
 have hT:=(h.to.lt gT rfl)
 have hF:=(h.from_.lt gF rfl)
 refine⟨(hg.block _ (by omega) (fun e=>by have:=Option.some.inj e;omega)).trans h.dia,(hg.block _ (by omega) (fun e=>by have:=Option.some.inj e;omega)).trans h.dra,?_,?_,h.ne⟩
 · rw[<-ZU7 C false i k a h1 hc ha]
   exact Zw9 h.from_ (by rw[QZ4];omega)
 · rw[Xw0 C true i k (by rw[hc];decide)]
   exact h.to.kept hg (Or.inr (fun e=>h.ne (Option.some.inj e).symm))
theorem Xv4 (x:Cr) (k:Nat) (hk:k<4) (w:World):(Instr.index 73 (.agg #[.int .i64 x.a,.int .i64 x.b,.int .i64 x.c,.int .i64 x.d]) (.int .i64 (k:Nat))).run Tryd.prog w=.ok (.int .i64 (x.arc k)) w:=by
 have hk4:k=0∨k=1∨k=2∨k=3:=by omega
 rcases hk4 with rfl|rfl|rfl|rfl<;>simp[Instr.index,asIntOf,run_underlying Tryd.underlying73,go_sem,Cr.arc]
structure Drawn (w w':World) (B:Nat) (A:Value) (loops:Int) (C:List Cr) (D:Value):Prop where
 no:QX3 C loops=false->D=QX2
 yes:QX3 C loops=true->∃ gF cF gT cT,D=.agg #[A,.int .i64 loops,.slice (some ⟨gF,0,none⟩) (2*C.length+1) cF,.slice (some ⟨gT,0,none⟩) (2*C.length+1) cT]/\
  w'.ownsRow B 118 2 (.slice (some ⟨gF,0,none⟩) (2*C.length+1) cF) (2*C.length+1) (flat (ends C false C.length 0))/\
  w'.ownsRow B 118 2 (.slice (some ⟨gT,0,none⟩) (2*C.length+1) cT) (2*C.length+1) (flat (ends C true C.length 0))
end Go.Proofs.YtjcagkgpbcdghaaDoor
/- The walk of ref.EndOf. -/
namespace Go.Proofs.YtjcagkgpbcdghaaDoor
open Go.RowKit
theorem QU6 {C:List Cr} {loops:Int} (hm:QX3 C loops=true):QF7 C loops=true:=by
 cases hs:QF7 C loops with
 |true=>rfl
 |false=>rw[Xv3 hs]at hm;cases hm
end Go.Proofs.YtjcagkgpbcdghaaDoor
/- A drawing in a world; the walks of Drawing.Above, Drawing.Leaving and Drawing.Ahead. -/
namespace Go.Proofs.YtjcagkgpbcdghaaDoor
open Go.RowKit
set_option maxHeartbeats 4000000
set_option maxRecDepth 100000
theorem alloc_at {w:World} {o:Obj} {k:Nat} (h:k=w.heap.size):(w.alloc o).heap[k]?=some o:=by
 rw[h]
 exact Array.getElem?_push_size
theorem alloc_old {w:World} {o p:Obj} {k:Nat} (h:w.heap[k]?=some p):(w.alloc o).heap[k]?=some p:=by
 have hk:k<w.heap.size:=(Array.getElem?_eq_some_iff.1 h).1
 exact((World.grownBy_alloc w o none).block k hk (by simp)).trans h
structure Dr (w:World) (a:Option Addr) (cap:Nat) (C:List Cr) (gF gT:Nat):Prop where
 crs:Crs w w.heap.size (.slice a C.length cap) C
 ltF:gF<w.heap.size
 ltT:gT<w.heap.size
 from_:TermsAt w gF 0 (ends C false C.length 0)
 to:TermsAt w gT 0 (ends C true C.length 0)
theorem Crs.on {w w':World} {B:Nat} {v:Value} {C:List Cr} (h:Crs w B v C) (hb:Below B w w'):Crs w' B v C:=by
 obtain⟨a,cap,rfl,hn,g⟩:=h
 refine⟨a,cap,rfl,hn,fun h0=>?_⟩
 obtain⟨b,off,rfl,hlt,hC⟩:=g h0
 exact⟨b,off,rfl,hlt,hC.on hb hlt⟩
theorem Crs.mono {w:World} {B B':Nat} {v:Value} {C:List Cr} (h:Crs w B v C) (hB:B<=B'):Crs w B' v C:=by
 obtain⟨a,cap,rfl,hn,g⟩:=h
 refine⟨a,cap,rfl,hn,fun h0=>?_⟩
 obtain⟨b,off,rfl,hlt,hC⟩:=g h0
 exact⟨b,off,rfl,Nat.lt_of_lt_of_le hlt hB,hC⟩
theorem Crs.up {w w':World} {v:Value} {C:List Cr} (h:Crs w w.heap.size v C) (hb:Below w.heap.size w w'):Crs w' w'.heap.size v C:=(h.on hb).mono hb.size
theorem Dr.on {w w':World} {a:Option Addr} {cap:Nat} {C:List Cr} {gF gT:Nat} (h:Dr w a cap C gF gT) (hb:Below w.heap.size w w'):Dr w' a cap C gF gT:=
 ⟨h.crs.up hb,Nat.lt_of_lt_of_le h.ltF hb.size,Nat.lt_of_lt_of_le h.ltT hb.size,h.from_.on hb h.ltF,h.to.on hb h.ltT⟩
theorem Dr.cross {w:World} {a:Option Addr} {cap:Nat} {C:List Cr} {gF gT:Nat} (h:Dr w a cap C gF gT) (hp:0<C.length):∃ b off,a=some ⟨b,off,none⟩/\b<w.heap.size/\CrossAt w b off C:=by
 obtain⟨a',cap',e,_,g⟩:=h.crs
 injection e with e1 e2 e3
 obtain⟨b,off,h1,h2,h3⟩:=g hp
 exact⟨b,off,by rw[e1,h1],h2,h3⟩
def drV (a:Option Addr) (cap:Nat) (C:List Cr) (loops:Int) (gF cF gT cT:Nat):Value:=.agg #[.slice a C.length cap,.int .i64 loops,.slice (some ⟨gF,0,none⟩) (2*C.length+1) cF,.slice (some ⟨gT,0,none⟩) (2*C.length+1) cT]
theorem Qk8 (b off cap : Nat) (C : List Cr) (loops : Int) (vF vT : Value) (i k : Nat) (w : World) (hi : i < C.length) (hk : k < 4) (hbw : b < w.heap.size) (hC : CrossAt w b off C) :
    Calls Tryd.prog 96 #[.agg #[.slice (some ⟨b,off,none⟩) C.length cap,.int .i64 loops,vF,vT],.agg #[.int .i64 i,.int .i64 k]] w fun e w'=>e=.returned (.agg #[.int .i64 ((C.getD i Cr.none).arc k),.bool ((C.getD i Cr.none).comes k)])/\Below w.heap.size w w':=by
 obtain⟨c0,c1,c2,c3,c4⟩:=hC i hi
 clear hC
 generalize C.getD i Cr.none=x at c0 c1 c2 c3 c4
 have hB3:Below w.heap.size w (((w.alloc (.cells #[.slice (some ⟨b,off,none⟩) C.length cap,.int .i64 loops,vF,vT] 44)).alloc (.cells #[.int .i64 i,.int .i64 k] 118)).alloc (.cells #[.int .i64 0,.bool false] 125)):=XY3 _ _ _ _
 have e0:=bcell hB3 hbw c0
 have e1:=bcell hB3 hbw c1
 have e2:=bcell hB3 hbw c2
 have e3:=bcell hB3 hbw c3
 have e4:=bcell hB3 hbw c4
 clear hB3 c0 c1 c2 c3 c4
 go_enter Tryd.func96,Tryd.ntmps96
 go_wp2
 clear e0 e1 e2 e3 e4
 obtain⟨W0,hW0⟩:∃ W0,W0=(((w.alloc (.cells #[.slice (some ⟨b,off,none⟩) C.length cap,.int .i64 loops,vF,vT] 44)).alloc (.cells #[.int .i64 i,.int .i64 k] 118)).alloc (.cells #[.int .i64 0,.bool false] 125)).alloc (.cells #[.int .i64 x.a,.int .i64 x.b,.int .i64 x.c,.int .i64 x.d,.bool x.plus] 72):=⟨_,rfl⟩
 rw[<-hW0]
 have hs0:W0.heap.size=w.heap.size+4:=by rw[hW0];simp
 have HB0:Hid (Below w.heap.size w W0):=(by rw[hW0];exact(XY3 _ _ _ _).alloc (by simp;omega) _:Below w.heap.size w W0)
 have HT1:Hid (W0.heap[w.heap.size+1]?=some (.cells #[.int .i64 i,.int .i64 k] 118 (0,0))):=(by rw[hW0];exact alloc_old (alloc_old (alloc_at (by simp))):W0.heap[w.heap.size+1]?=some (.cells #[.int .i64 i,.int .i64 k] 118 (0,0)))
 have HT2:Hid (W0.heap[w.heap.size+1+1]?=some (.cells #[.int .i64 0,.bool false] 125 (0,0))):=(by rw[hW0];exact alloc_old (alloc_at (by simp)):W0.heap[w.heap.size+1+1]?=some (.cells #[.int .i64 0,.bool false] 125 (0,0)))
 have HT3:Hid (W0.heap[w.heap.size+1+1+1]?=some (.cells #[.int .i64 x.a,.int .i64 x.b,.int .i64 x.c,.int .i64 x.d,.bool x.plus] 72 (0,0))):=(by rw[hW0];exact alloc_at (by simp):W0.heap[w.heap.size+1+1+1]?=some (.cells #[.int .i64 x.a,.int .i64 x.b,.int .i64 x.c,.int .i64 x.d,.bool x.plus] 72 (0,0)))
 clear hW0
 have HF:Hid (∀ w',Below W0.heap.size W0 w'->w'.cell? ⟨w.heap.size+1+1+1,0,none⟩=some (.int .i64 x.a)/\w'.cell? ⟨w.heap.size+1+1+1,1,none⟩=some (.int .i64 x.b)/\w'.cell? ⟨w.heap.size+1+1+1,2,none⟩=some (.int .i64 x.c)/\w'.cell? ⟨w.heap.size+1+1+1,3,none⟩=some (.int .i64 x.d)/\w'.cell? ⟨w.heap.size+1+1+1,4,none⟩=some (.bool x.plus)/\w'.cell? ⟨w.heap.size+1,1,none⟩=some (.int .i64 k)):=fun w' hb=>by
  have g3:=(hb.block _ (by omega)).trans HT3.out
  have g1:=(hb.block _ (by omega)).trans HT1.out
  exact⟨QQ0 g3 rfl,QQ0 g3 rfl,QQ0 g3 rfl,QQ0 g3 rfl,QQ0 g3 rfl,QQ0 g1 rfl⟩
 have HFS:Hid (∀ wX u v,Below W0.heap.size W0 wX->(fun w'=>w'.cell? ⟨w.heap.size+1+1+1,0,none⟩=some (.int .i64 x.a)/\w'.cell? ⟨w.heap.size+1+1+1,1,none⟩=some (.int .i64 x.b)/\w'.cell? ⟨w.heap.size+1+1+1,2,none⟩=some (.int .i64 x.c)/\w'.cell? ⟨w.heap.size+1+1+1,3,none⟩=some (.int .i64 x.d)/\w'.cell? ⟨w.heap.size+1+1+1,4,none⟩=some (.bool x.plus)/\w'.cell? ⟨w.heap.size+1,1,none⟩=some (.int .i64 k)) (st2 wX (w.heap.size+1+1) 0 u v)):=fun wX u v hb=>by
  have hg:=QV9 wX (w.heap.size+1+1) 0 u v
  have hsz:=hb.size
  have g3:=(hg.block (w.heap.size+1+1+1) (by omega) (fun e=>by have:=Option.some.inj e;omega)).trans ((hb.block _ (by omega)).trans HT3.out)
  have g1:=(hg.block (w.heap.size+1) (by omega) (fun e=>by have:=Option.some.inj e;omega)).trans ((hb.block _ (by omega)).trans HT1.out)
  exact⟨QQ0 g3 rfl,QQ0 g3 rfl,QQ0 g3 rfl,QQ0 g3 rfl,QQ0 g3 rfl,QQ0 g1 rfl⟩
 have HZ:Hid (∀ wX,Below W0.heap.size W0 wX->wX.cell? ⟨w.heap.size+1+1,0,none⟩=some (.int .i64 0)/\wX.cell? ⟨w.heap.size+1+1,1,none⟩=some (.bool false)/\wX.frozen? ⟨w.heap.size+1+1,0,none⟩=false/\wX.frozen? ⟨w.heap.size+1+1,1,none⟩=false):=fun wX hb=>by
  have g2:=(hb.block _ (by omega)).trans HT2.out
  exact⟨QQ0 g2 rfl,QQ0 g2 rfl,QQ4 g2,QQ4 g2⟩
 have HD0:Hid (Below W0.heap.size W0 W0.drew):=(Below.refl _ _).drew
 obtain⟨t0,t1,t2,t3,t4,t5⟩:=HF.out W0 (Below.refl _ _)
 have hix:=Xv4 x k hk
 go_region_held3 (fun w' => w'.cell? ⟨w.heap.size + 1 + 1 + 1, 0, none⟩ = some (.int .i64 x.a) ∧ w'.cell? ⟨w.heap.size + 1 + 1 + 1, 1, none⟩ = some (.int .i64 x.b) ∧ w'.cell? ⟨w.heap.size + 1 + 1 + 1, 2, none⟩ = some (.int .i64 x.c) ∧ w'.cell? ⟨w.heap.size + 1 + 1 + 1, 3, none⟩ = some (.int .i64 x.d) ∧ w'.cell? ⟨w.heap.size + 1 + 1 + 1, 4, none⟩ = some (.bool x.plus) ∧ w'.cell? ⟨w.heap.size + 1, 1, none⟩ = some (.int .i64 k)) (first | exact HF.out _ HY.out | exact HF.out _ HA.out | exact HF.out _ HD0.out | exact HF.out _ (Below.refl _ _) | exact HFS.out _ _ _ HY.out | exact HFS.out _ _ _ HA.out) (first
  | (go_at_call 36; refine (Qh5 x _).mono ?_; rintro e9 wA ⟨rfl, hbA⟩
     first
      |have HA:Hid (Below W0.heap.size W0 wA):=HY.out.trans (hbA.mono HY.out.size)
      |have HA:Hid (Below W0.heap.size W0 wA):=HD0.out.trans hbA
     obtain⟨a0,a1,a2,a3,a4,a5⟩:=HF.out wA HA.out
     obtain⟨b0,b1,b2,b3⟩:=HZ.out wA HA.out
     clear hbA)
  | (go_at_call 66; refine (Qj1 x k _ hk).mono ?_; rintro e9 wC ⟨rfl, hbC⟩
     first
      |have HY:Hid (Below W0.heap.size W0 wC):=HA.out.trans (hbC.mono HA.out.size)
      |have HY:Hid (Below W0.heap.size W0 wC):=HD0.out.trans hbC
     obtain⟨p0,p1,p2,p3,p4,p5⟩:=HF.out wC HY.out
     obtain⟨q0,q1,q2,q3⟩:=HZ.out wC HY.out
     clear hbC))
 all_goals first
  | (have hX := QZ0 (i := 1) (u := .bool (x.comes k)) (QZ0 (i := 0) (u := .int .i64 (x.arc k)) ((HY.out.block _ (by omega)).trans HT2.out))
     have x0:=QQ0 (i:=0) (v:=.int .i64 (x.arc k)) hX rfl
     have x1:=QQ0 (i:=1) (v:=.bool (x.comes k)) hX rfl
     go_wp2
     exact bodyPost_ret (v:=.agg #[.int .i64 (x.arc k),.bool (x.comes k)]) (by simp[results,Tryd.results96,go_sem,x0,x1]) rfl ⟨rfl,(HB0.out.trans (HY.out.mono (by omega))).grown (QV9 wC (w.heap.size+1+1) 0 (.int .i64 (x.arc k)) (.bool (x.comes k))) (by have:=HY.out.size;omega) (fun q hq=>by have:=Option.some.inj hq;omega)⟩)
  | (have hX := QZ0 (i := 1) (u := .bool (x.comes k)) (QZ0 (i := 0) (u := .int .i64 (x.arc k)) ((HA.out.block _ (by omega)).trans HT2.out))
     have x0:=QQ0 (i:=0) (v:=.int .i64 (x.arc k)) hX rfl
     have x1:=QQ0 (i:=1) (v:=.bool (x.comes k)) hX rfl
     go_wp2
     exact bodyPost_ret (v:=.agg #[.int .i64 (x.arc k),.bool (x.comes k)]) (by simp[results,Tryd.results96,go_sem,x0,x1]) rfl ⟨rfl,(HB0.out.trans (HA.out.mono (by omega))).grown (QV9 wA (w.heap.size+1+1) 0 (.int .i64 (x.arc k)) (.bool (x.comes k))) (by have:=HA.out.size;omega) (fun q hq=>by have:=Option.some.inj hq;omega)⟩)
end Go.Proofs.YtjcagkgpbcdghaaDoor
/- Plain mathematics: what edges join; labels that are levelled along edges, round by round, come to the least of what is joined. -/
namespace Go.Proofs.YtjcagkgpbcdghaaDoor
def Closed (E:List (Nat×Nat)) (S:Nat->Prop):Prop:=∀ e,e∈E->(S e.1↔S e.2)
def Con (E:List (Nat×Nat)) (x y:Nat):Prop:=∀ S,Closed E S->S x->S y
theorem Con.refl (E:List (Nat×Nat)) (x:Nat):Con E x x:=fun _ _ h=>h
theorem Con.trans {E:List (Nat×Nat)} {x y z:Nat} (h:Con E x y) (g:Con E y z):Con E x z:=fun S hS hx=>g S hS (h S hS hx)
theorem Con.symm {E:List (Nat×Nat)} {x y:Nat} (h:Con E x y):Con E y x:=fun S hS hy=>
 Classical.byContradiction fun hx=>h (fun z=>¬ S z) (fun e he=>not_congr (hS e he)) hx hy
theorem Con.edge {E:List (Nat×Nat)} {x y:Nat} (h:(x,y)∈E):Con E x y:=fun _ hS hx=>(hS (x,y) h).1 hx
theorem JJ1 (E:List (Nat×Nat)) (v:Nat):∃ m,Con E v m/\∀ u,Con E v u->m<=u:=by
 have key:∀ k x,x<=k->Con E v x->∃ m,Con E v m/\∀ u,Con E v u->m<=u:=by
  intro k
  induction k with
  |zero=>intro x hx h;exact⟨x,h,fun u _=>by omega⟩
  |succ k ih=>
   intro x hx h
   by_cases hs:∃ y,y<x/\Con E v y
   · obtain⟨y,hy,hc⟩:=hs
     exact ih y (by omega) hc
   · exact⟨x,h,fun u hu=>Nat.le_of_not_lt fun hlt=>hs ⟨u,hlt,hu⟩⟩
 exact key v v (Nat.le_refl _) (Con.refl E v)
def lev (W:List Nat) (x y:Nat):List Nat:=if W.getD x 0<W.getD y 0 then W.set y (W.getD x 0) else W.set x (W.getD y 0)
theorem JX0 (W:List Nat) (x y:Nat):(lev W x y).length=W.length:=by unfold lev;split<;>simp
theorem QD7 (W:List Nat) (i v z:Nat) (hi:i<W.length):(W.set i z).getD v 0=if v=i then z else W.getD v 0:=by
 simp only[List.getD_eq_getElem?_getD,List.getElem?_set]
 by_cases h:i=v
 · subst h;simp[hi]
 · simp[h,Ne.symm h]
structure Lab (E:List (Nat×Nat)) (n:Nat) (W:List Nat):Prop where
 len:W.length=n
 le:∀ v,v<n->W.getD v 0<=v
 con:∀ v,v<n->Con E v (W.getD v 0)
theorem Qh9 {W:List Nat} {x y v:Nat} (hx:x<W.length) (hy:y<W.length):(lev W x y).getD v 0<=W.getD v 0/\((lev W x y).getD v 0=W.getD v 0∨(v=x/\(lev W x y).getD v 0=W.getD y 0)∨(v=y/\(lev W x y).getD v 0=W.getD x 0)):=by
 unfold lev
 split
 · rw[QD7 _ _ _ _ hy]
   split
   · subst v;exact⟨by omega,Or.inr (Or.inr ⟨rfl,rfl⟩)⟩
   · exact⟨Nat.le_refl _,Or.inl rfl⟩
 · rw[QD7 _ _ _ _ hx]
   split
   · subst v;exact⟨by omega,Or.inr (Or.inl ⟨rfl,rfl⟩)⟩
   · exact⟨Nat.le_refl _,Or.inl rfl⟩
theorem KH4 {W:List Nat} {x y:Nat} (hx:x<W.length) (hy:y<W.length):(lev W x y).getD x 0<=W.getD y 0/\(lev W x y).getD y 0<=W.getD x 0:=by
 unfold lev
 split
 · rename_i h
   rw[QD7 _ _ _ _ hy,QD7 _ _ _ _ hy,if_pos rfl]
   refine⟨?_,Nat.le_refl _⟩
   split<;>omega
 · rename_i h
   rw[QD7 _ _ _ _ hx,QD7 _ _ _ _ hx,if_pos rfl]
   refine⟨Nat.le_refl _,?_⟩
   split<;>omega
theorem Lab.lev {E:List (Nat×Nat)} {n:Nat} {W:List Nat} (h:Lab E n W) {x y:Nat} (hx:x<n) (hy:y<n) (he:Con E x y):Lab E n (lev W x y):=by
 have hl:=h.len
 refine⟨by rw[JX0,hl],fun v hv=>?_,fun v hv=>?_⟩
 · have:=(Qh9 (W:=W) (x:=x) (y:=y) (v:=v) (by omega) (by omega)).1
   have:=h.le v hv
   omega
 · rcases(Qh9 (W:=W) (x:=x) (y:=y) (v:=v) (by omega) (by omega)).2 with e|⟨hvx,e⟩|⟨hvy,e⟩
   · rw[e];exact h.con v hv
   · rw[e,hvx];exact he.trans (h.con y hy)
   · rw[e,hvy];exact he.symm.trans (h.con x hx)
def Ky5 (W:List Nat):List (Nat×Nat)->List Nat
 |[]=>W
 |e::E=>Ky5 (lev W e.1 e.2) E
def Done (E:List (Nat×Nat)) (W:List Nat) (v:Nat):Prop:=∀ u,Con E v u->W.getD v 0<=u
theorem XA5 {E:List (Nat×Nat)} {n:Nat} (F:List (Nat×Nat)) (hF:∀ e,e∈F->e.1<n/\e.2<n/\Con E e.1 e.2):∀ W,Lab E n W->Lab E n (Ky5 W F)/\∀ v,(Ky5 W F).getD v 0<=W.getD v 0:=by
 induction F with
 |nil=>intro W h;exact⟨h,fun v=>Nat.le_refl _⟩
 |cons e F ih=>
  intro W h
  obtain⟨h1,h2,h3⟩:=hF e (List.Mem.head _)
  have hl:=h.len
  have h':=h.lev h1 h2 h3
  obtain⟨g1,g2⟩:=ih (fun e' he'=>hF e' (List.Mem.tail _ he')) _ h'
  exact⟨g1,fun v=>Nat.le_trans (g2 v) (Qh9 (by omega) (by omega)).1⟩
theorem KK5 {E:List (Nat×Nat)} {n:Nat} (F:List (Nat×Nat)) (hF:∀ e,e∈F->e.1<n/\e.2<n/\Con E e.1 e.2) (e:Nat×Nat) (he:e∈F):∀ W,Lab E n W->(Done E W e.1∨Done E W e.2)->Done E (Ky5 W F) e.1/\Done E (Ky5 W F) e.2:=by
 induction F with
 |nil=>cases he
 |cons f F ih=>
  intro W h hd
  obtain⟨h1,h2,h3⟩:=hF f (List.Mem.head _)
  have hl:=h.len
  have h':=h.lev h1 h2 h3
  have hF':∀ e,e∈F->e.1<n/\e.2<n/\Con E e.1 e.2:=fun e' he'=>hF e' (List.Mem.tail _ he')
  rcases List.mem_cons.1 he with rfl|he'
  · have g:∀ v,(Ky5 W (e::F)).getD v 0<=(lev W e.1 e.2).getD v 0:=(XA5 F hF' _ h').2
    have hb:=KH4 (W:=W) (x:=e.1) (y:=e.2) (by omega) (by omega)
    have ha1:=(Qh9 (W:=W) (x:=e.1) (y:=e.2) (v:=e.1) (by omega) (by omega)).1
    have ha2:=(Qh9 (W:=W) (x:=e.1) (y:=e.2) (v:=e.2) (by omega) (by omega)).1
    rcases hd with hd|hd
    · exact⟨fun u hu=>by have:=hd u hu;have:=g e.1;omega,fun u hu=>by have:=hd u (h3.trans hu);have:=g e.2;omega⟩
    · exact⟨fun u hu=>by have:=hd u (h3.symm.trans hu);have:=g e.1;omega,fun u hu=>by have:=hd u hu;have:=g e.2;omega⟩
  · refine ih hF' he' _ h' ?_
    rcases hd with hd|hd
    · exact Or.inl fun u hu=>Nat.le_trans (Qh9 (by omega) (by omega)).1 (hd u hu)
    · exact Or.inr fun u hu=>Nat.le_trans (Qh9 (by omega) (by omega)).1 (hd u hu)
def Qj3 (W:List Nat) (E:List (Nat×Nat)):Nat->List Nat
 |0=>W
 |r+1=>Ky5 (Qj3 W E r) E
theorem ZW7 {E:List (Nat×Nat)} {n:Nat} (hE:∀ e,e∈E->e.1<n/\e.2<n) {W:List Nat} (h:Lab E n W) (r:Nat):Lab E n (Qj3 W E r):=by
 induction r with
 |zero=>exact h
 |succ r ih=>exact(XA5 E (fun e he=>⟨(hE e he).1,(hE e he).2,Con.edge he⟩) _ ih).1
theorem XV8 {p q:Nat->Bool} (l:List Nat) (h:∀ x,p x=true->q x=true) (y:Nat) (hy:y∈l) (h1:p y=false) (h2:q y=true):l.countP p<l.countP q:=by
 induction l with
 |nil=>cases hy
 |cons x l ih=>
  have hm:l.countP p<=l.countP q:=List.countP_mono_left (fun a _=>h a)
  rcases List.mem_cons.1 hy with rfl|hy'
  · simp[h1,h2];omega
  · have:=ih hy'
    simp only[List.countP_cons]
    have:(if p x=true then 1 else 0)<=(if q x=true then 1 else(0:Nat)):=by
     by_cases hp:p x=true
     · simp[hp,h x hp]
     · simp[hp]
    omega
open Classical in
theorem KK6 {E:List (Nat×Nat)} {n:Nat} (hE:∀ e,e∈E->e.1<n/\e.2<n) {W:List Nat} (h:Lab E n W) (r:Nat):(∀ v,v<n->Done E (Qj3 W E r) v)∨r<=(List.range n).countP (fun v=>decide (Done E (Qj3 W E r) v)):=by
 induction r with
 |zero=>exact Or.inr (Nat.zero_le _)
 |succ r ih=>
  have hF:∀ e,e∈E->e.1<n/\e.2<n/\Con E e.1 e.2:=fun e he=>⟨(hE e he).1,(hE e he).2,Con.edge he⟩
  have hl:=ZW7 hE h r
  have hg:=(XA5 E hF _ hl).2
  have hmono:∀ v,Done E (Qj3 W E r) v->Done E (Qj3 W E (r+1)) v:=fun v hd u hu=>Nat.le_trans (hg v) (hd u hu)
  by_cases hall:∀ v,v<n->Done E (Qj3 W E r) v
  · exact Or.inl fun v hv=>hmono v (hall v hv)
  · right
    have hr:r<=(List.range n).countP (fun v=>decide (Done E (Qj3 W E r) v)):=by
     rcases ih with h1|h1
     · exact absurd h1 hall
     · exact h1
    obtain⟨v,hv⟩:=Classical.not_forall.1 hall
    have hvn:v<n:=Classical.byContradiction fun hc=>hv fun hh=>absurd hh hc
    have hvd:¬ Done E (Qj3 W E r) v:=fun hd=>hv fun _=>hd
    obtain⟨m,hm1,hm2⟩:=JJ1 E v
    have hmn:m<n:=Nat.lt_of_le_of_lt (hm2 v (Con.refl E v)) hvn
    have hmd:Done E (Qj3 W E r) m:=fun u hu=>Nat.le_trans (hl.le m hmn) (hm2 u (hm1.trans hu))
    -- a done and an undone end of an edge
    have hex:∃ e,e∈E/\((Done E (Qj3 W E r) e.1/\¬ Done E (Qj3 W E r) e.2)∨(¬ Done E (Qj3 W E r) e.1/\Done E (Qj3 W E r) e.2)):=Classical.byContradiction fun hno=>by
     have hcl:Closed E (fun z=>Done E (Qj3 W E r) z):=fun e he=>by
      constructor
      · intro h1
        exact Classical.byContradiction fun h2=>hno ⟨e,he,Or.inl ⟨h1,h2⟩⟩
      · intro h1
        exact Classical.byContradiction fun h2=>hno ⟨e,he,Or.inr ⟨h2,h1⟩⟩
     exact hvd (hm1.symm _ hcl hmd)
    obtain⟨e,he,hone⟩:=hex
    have hb:=KK5 E hF e he _ hl (hone.elim (fun a=>Or.inl a.1) (fun a=>Or.inr a.2))
    refine Nat.lt_of_le_of_lt hr ?_
    rcases hone with⟨_,h2⟩|⟨h1,_⟩
    · exact XV8 _ (fun x hx=>by simp only[decide_eq_true_eq]at hx ⊢;exact hmono x hx) e.2 (List.mem_range.2 (hE e he).2) (by simp[h2]) (by simp;exact hb.2)
    · exact XV8 _ (fun x hx=>by simp only[decide_eq_true_eq]at hx ⊢;exact hmono x hx) e.1 (List.mem_range.2 (hE e he).1) (by simp[h1]) (by simp;exact hb.1)
def Least (E:List (Nat×Nat)) (n:Nat) (W:List Nat):Prop:=W.length=n/\∀ v,v<n->Con E v (W.getD v 0)/\∀ u,Con E v u->W.getD v 0<=u
theorem Least.eq {E:List (Nat×Nat)} {n:Nat} {W V:List Nat} (h:Least E n W) (g:Least E n V):W=V:=by
 refine List.ext_getElem (by rw[h.1,g.1]) fun i h1 h2=>?_
 have hi:i<n:=by rw[<-h.1];exact h1
 have a:=h.2 i hi
 have b:=g.2 i hi
 have e:W.getD i 0=V.getD i 0:=Nat.le_antisymm (a.2 _ b.1) (b.2 _ a.1)
 simpa[List.getD_eq_getElem?_getD,h1,h2] using e
theorem Least.lt {E:List (Nat×Nat)} {n:Nat} {W:List Nat} (h:Least E n W) {v:Nat} (hv:v<n):W.getD v 0<n:=Nat.lt_of_le_of_lt ((h.2 v hv).2 v (Con.refl E v)) hv
theorem Least.same {E:List (Nat×Nat)} {n:Nat} {W:List Nat} (h:Least E n W) {u v:Nat} (hu:u<n) (hv:v<n):W.getD u 0=W.getD v 0↔Con E u v:=by
 constructor
 · intro e
   have a:=(h.2 u hu).1
   rw[e]at a
   exact a.trans (h.2 v hv).1.symm
 · intro c
   exact Nat.le_antisymm ((h.2 u hu).2 _ (c.trans (h.2 v hv).1)) ((h.2 v hv).2 _ (c.symm.trans (h.2 u hu).1))
theorem QK8 {E:List (Nat×Nat)} {n:Nat} (hE:∀ e,e∈E->e.1<n/\e.2<n) (r:Nat) (hr:n<=r):Least E n (Qj3 (List.range n) E r):=by
 have h0:Lab E n (List.range n):=⟨by simp,fun v hv=>by simp[List.getD_eq_getElem?_getD,hv],fun v hv=>by simp[List.getD_eq_getElem?_getD,hv,Con.refl]⟩
 have hl:=ZW7 hE h0 r
 have hall:∀ v,v<n->Done E (Qj3 (List.range n) E r) v:=by
  rcases KK6 hE h0 r with h|h
  · exact h
  · intro v hv
    have hc:(List.range n).countP (fun v=>@decide (Done E (Qj3 (List.range n) E r) v) (Classical.propDecidable _))=(List.range n).length:=Nat.le_antisymm List.countP_le_length (by simp;omega)
    have:=List.countP_eq_length.1 hc v (List.mem_range.2 hv)
    simpa using this
 exact⟨hl.len,fun v hv=>⟨hl.con v hv,hall v hv⟩⟩
end Go.Proofs.YtjcagkgpbcdghaaDoor
/- Plain mathematics: darts and the faces that they go around; pieces. -/
namespace Go.Proofs.YtjcagkgpbcdghaaDoor
def enC (C:List Cr) (a:Nat) (p:Bool):Nat:=(QC2 C a p C.length).1.toNat
def enS (C:List Cr) (a:Nat) (p:Bool):Nat:=(QC2 C a p C.length).2.toNat
theorem QJ3 {C:List Cr} {loops:Int} (hm:QX3 C loops=true) (a:Nat) (p:Bool) (h1:1<=a) (h2:a<=2*C.length):QC2 C a p C.length=((enC C a p:Int),(enS C a p:Int))/\enC C a p<C.length/\enS C a p<4/\(C.getD (enC C a p) Cr.none).arc (enS C a p)=(a:Int)/\(C.getD (enC C a p) Cr.none).comes (enS C a p)=p:=by
 obtain⟨i,k,h3,h4,h5,h6,h7⟩:=Xf7 hm a h1 h2 p
 have e1:enC C a p=i:=by unfold enC;rw[h7];simp
 have e2:enS C a p=k:=by unfold enS;rw[h7];simp
 rw[e1,e2]
 exact⟨h7,h3,h4,h5,h6⟩
def dA (j:Nat):Nat:=(j+1) / 2
def dB (j:Nat):Bool:=decide (j%2=0)
def mkD (a:Nat) (p:Bool):Nat:=if p=true then 2*a else 2*a-1
theorem ZB4 {a:Nat} {p:Bool} (h:1<=a):dA (mkD a p)=a:=by unfold dA mkD;split<;>omega
theorem ZB3 {a:Nat} {p:Bool} (h:1<=a):dB (mkD a p)=p:=by
 unfold dB mkD
 cases p
 · simp;omega
 · simp
theorem JC2 {j:Nat} (h:1<=j):mkD (dA j) (dB j)=j:=by
 unfold mkD dA dB
 split
 · rename_i hd;simp at hd;omega
 · rename_i hd;simp at hd;omega
theorem Qx7 {j n:Nat} (h1:1<=j) (h:j<=4*n):1<=dA j/\dA j<=2*n:=by unfold dA;omega
theorem XF5 {a n:Nat} {p:Bool} (h1:1<=a) (h:a<=2*n):1<=mkD a p/\mkD a p<=4*n:=by unfold mkD;split<;>omega
def dC (C:List Cr) (j:Nat):Nat:=enC C (dA j) (!dB j)
def dS (C:List Cr) (j:Nat):Nat:=enS C (dA j) (!dB j)
def fd (C:List Cr) (j:Nat):Nat:=mkD ((C.getD (dC C j) Cr.none).arc ((dS C j+3)%4)).toNat ((C.getD (dC C j) Cr.none).comes ((dS C j+3)%4))
theorem XF6 {C:List Cr} {loops:Int} (hm:QX3 C loops=true) (j:Nat) (h1:1<=j) (h2:j<=4*C.length):QC2 C (dA j) (!dB j) C.length=((dC C j:Int),(dS C j:Int))/\dC C j<C.length/\dS C j<4:=by
 have h:=Qx7 h1 h2
 have g:=QJ3 hm (dA j) (!dB j) h.1 h.2
 exact⟨g.1,g.2.1,g.2.2.1⟩
theorem XY1 {C:List Cr} {loops:Int} (hm:QX3 C loops=true) (j:Nat) (h1:1<=j) (h2:j<=4*C.length):(C.getD (dC C j) Cr.none).arc ((dS C j+3)%4)=(dA (fd C j):Int)/\(C.getD (dC C j) Cr.none).comes ((dS C j+3)%4)=dB (fd C j)/\1<=fd C j/\fd C j<=4*C.length:=by
 have g:=XF6 hm j h1 h2
 have hf:=QV7 hm (dC C j) ((dS C j+3)%4) g.2.1 (by omega)
 have g1:=hf.1
 have g2:=hf.2.1
 unfold fd
 generalize (C.getD (dC C j) Cr.none).comes ((dS C j+3)%4)=p
 generalize (C.getD (dC C j) Cr.none).arc ((dS C j+3)%4)=x at g1 g2
 have hx:1<=x.toNat/\x.toNat<=2*C.length:=by omega
 rw[ZB4 hx.1,ZB3 hx.1]
 have:=XF5 (p:=p) hx.1 hx.2
 exact⟨by omega,rfl,this.1,this.2⟩
theorem QJ8 {C:List Cr} {loops:Int} (hm:QX3 C loops=true):∀ j,1<=j->j<=4*C.length->1<=fd C j/\fd C j<=4*C.length:=fun j h1 h2=>(XY1 hm j h1 h2).2.2
def QX0 (C:List Cr):List (List Nat):=(QQ8 (fd C) (4*C.length) (4*C.length)).1
def nbC (C:List Cr) (k s:Nat):Nat:=enC C ((C.getD k Cr.none).arc s).toNat (!(C.getD k Cr.none).comes s)
def Qz0 (C:List Cr):List (Nat×Nat):=(List.range (2*C.length)).map fun i=>(enC C (i+1) true,enC C (i+1) false)
theorem Qd3 {C:List Cr} {loops:Int} (hm:QX3 C loops=true) (k s:Nat) (hk:k<C.length) (hs:s<4):1<=((C.getD k Cr.none).arc s).toNat/\((C.getD k Cr.none).arc s).toNat<=2*C.length/\enC C ((C.getD k Cr.none).arc s).toNat ((C.getD k Cr.none).comes s)=k:=by
 have hf:=QV7 hm k s hk hs
 have g1:=hf.1
 have g2:=hf.2.1
 have ha:1<=((C.getD k Cr.none).arc s).toNat/\((C.getD k Cr.none).arc s).toNat<=2*C.length:=by omega
 refine⟨ha.1,ha.2,?_⟩
 have e:=XQ9 hm _ ha.1 ha.2 ((C.getD k Cr.none).comes s) k s hk hs (by omega) rfl
 unfold enC
 rw[e]
 rfl
theorem Zx5 {C:List Cr} {loops:Int} (hm:QX3 C loops=true) (k s:Nat) (hk:k<C.length) (hs:s<4):nbC C k s<C.length:=by
 have h:=Qd3 hm k s hk hs
 exact(QJ3 hm _ _ h.1 h.2.1).2.1
theorem XA2 {C:List Cr} {a:Nat} (h1:1<=a) (h2:a<=2*C.length):(enC C a true,enC C a false)∈Qz0 C:=by
 unfold Qz0
 refine List.mem_map.2 ⟨a-1,List.mem_range.2 (by omega),?_⟩
 rw[Nat.sub_add_cancel h1]
theorem Zz5 {C:List Cr} {loops:Int} (hm:QX3 C loops=true) (k s:Nat) (hk:k<C.length) (hs:s<4):Con (Qz0 C) k (nbC C k s):=by
 have h:=Qd3 hm k s hk hs
 have he:=Con.edge (XA2 h.1 h.2.1)
 unfold nbC
 cases hc:(C.getD k Cr.none).comes s with
 |true=>
  rw[hc]at h
  rw[h.2.2]at he
  exact he
 |false=>
  rw[hc]at h
  rw[h.2.2]at he
  exact he.symm
theorem Xf8 {C:List Cr} {loops:Int} (hm:QX3 C loops=true) (e:Nat×Nat) (he:e∈Qz0 C):e.1<C.length/\e.2<C.length/\(∃ s,s<4/\nbC C e.1 s=e.2)/\∃ s,s<4/\nbC C e.2 s=e.1:=by
 obtain⟨i,hi,rfl⟩:=List.mem_map.1 he
 have hi':=List.mem_range.1 hi
 have h1:=QJ3 hm (i+1) true (by omega) (by omega)
 have h2:=QJ3 hm (i+1) false (by omega) (by omega)
 refine⟨h1.2.1,h2.2.1,⟨enS C (i+1) true,h1.2.2.1,?_⟩,⟨enS C (i+1) false,h2.2.2.1,?_⟩⟩
 · unfold nbC
   rw[h1.2.2.2.1,h1.2.2.2.2]
   rfl
 · unfold nbC
   rw[h2.2.2.2.1,h2.2.2.2.2]
   rfl
theorem Xg6 {C:List Cr} {loops:Int} (hm:QX3 C loops=true):∀ e,e∈Qz0 C->e.1<C.length/\e.2<C.length:=fun e he=>⟨(Xf8 hm e he).1,(Xf8 hm e he).2.1⟩
structure Spr (C:List Cr) (P0 P:List Int) (f:Nat) (num:Int) (todo:List Nat) (k s:Nat):Prop where
 len:P.length=C.length
 old:∀ v,v<C.length->P0.getD v 0 ≠ -1->P.getD v 0=P0.getD v 0
 new:∀ v,v<C.length->P0.getD v 0 = -1->P.getD v 0 = -1∨(P.getD v 0=num/\Con (Qz0 C) f v)
 fst:P.getD f 0=num
 tod:∀ v,v∈todo->v<C.length/\Con (Qz0 C) f v
 proc:∀ v,v<C.length->P.getD v 0=num->v∈todo∨∀ t,t<4->(v=k->t<s)->P.getD (nbC C v t) 0 ≠ -1
theorem ZU4 (P:List Int) (i v:Nat) (z:Int) (hi:i<P.length):(P.set i z).getD v 0=if v=i then z else P.getD v 0:=by
 simp only[List.getD_eq_getElem?_getD,List.getElem?_set]
 by_cases h:i=v
 · subst h;simp[hi]
 · simp[h,Ne.symm h]
theorem Spr.start {C:List Cr} {P0:List Int} {f:Nat} {num:Int} (hl:P0.length=C.length) (hf:f<C.length) (h0:P0.getD f 0 = -1) (hn:∀ v,v<C.length->P0.getD v 0≠num):Spr C P0 (P0.set f num) f num [f] 0 4:=by
 have hs:∀ v,(P0.set f num).getD v 0=if v=f then num else P0.getD v 0:=fun v=>ZU4 _ _ _ _ (by omega)
 refine⟨by simp[hl],fun v hv h=>?_,fun v hv h=>?_,by rw[hs,if_pos rfl],fun v hv=>?_,fun v hv h=>?_⟩
 · rw[hs,if_neg (fun e=>h (by rw[e,h0]))]
 · rw[hs]
   by_cases e:v=f
   · rw[if_pos e,e];exact Or.inr ⟨rfl,Con.refl _ _⟩
   · rw[if_neg e];exact Or.inl h
 · rw[List.mem_singleton.1 hv];exact⟨hf,Con.refl _ _⟩
 · rw[hs]at h
   by_cases e:v=f
   · exact Or.inl (by rw[e];exact List.mem_singleton.2 rfl)
   · rw[if_neg e]at h
     exact absurd h (hn v hv)
theorem Spr.take {C:List Cr} {P0 P:List Int} {f:Nat} {num:Int} {k:Nat} {todo:List Nat} {k0:Nat} (h:Spr C P0 P f num (k::todo) k0 4):Spr C P0 P f num todo k 0:=by
 refine⟨h.len,h.old,h.new,h.fst,fun v hv=>h.tod v (List.Mem.tail _ hv),fun v hv e=>?_⟩
 by_cases hk:v=k
 · exact Or.inr fun t _ hs=>absurd (hs hk) (Nat.not_lt_zero _)
 · rcases h.proc v hv e with h1|h1
   · rcases List.mem_cons.1 h1 with h2|h2
     · exact absurd h2 hk
     · exact Or.inl h2
   · exact Or.inr fun t ht _=>h1 t ht (fun _=>ht)
theorem Spr.old_side {C:List Cr} {P0 P:List Int} {f:Nat} {num:Int} {k s:Nat} {todo:List Nat} (h:Spr C P0 P f num todo k s) (hn:P.getD (nbC C k s) 0 ≠ -1):Spr C P0 P f num todo k (s+1):=by
 refine⟨h.len,h.old,h.new,h.fst,h.tod,fun v hv e=>?_⟩
 rcases h.proc v hv e with h1|h1
 · exact Or.inl h1
 · refine Or.inr fun t ht hs=>?_
   by_cases hvk:v=k
   · by_cases hts:t=s
     · rw[hvk,hts];exact hn
     · exact h1 t ht (fun e=>by have:=hs e;omega)
   · exact h1 t ht (fun e=>absurd e hvk)
theorem Spr.new_side {C:List Cr} {loops:Int} (hm:QX3 C loops=true) {P0 P:List Int} {f:Nat} {num:Int} {k s:Nat} {todo:List Nat} (h:Spr C P0 P f num todo k s) (hnum:num ≠ -1) (hk:k<C.length) (hs:s<4) (hc:Con (Qz0 C) f k) (hn:P.getD (nbC C k s) 0 = -1):Spr C P0 (P.set (nbC C k s) num) f num (todo++[nbC C k s]) k (s+1):=by
 have hb:=Zx5 hm k s hk hs
 have hcon:=hc.trans (Zz5 hm k s hk hs)
 generalize hy:nbC C k s=y at hb hcon hn ⊢
 have hg:∀ v,(P.set y num).getD v 0=if v=y then num else P.getD v 0:=fun v=>ZU4 _ _ _ _ (by rw[h.len];exact hb)
 have hne:∀ v,P.getD v 0 ≠ -1->(P.set y num).getD v 0 ≠ -1:=fun v hv=>by
  rw[hg]
  split
  · exact hnum
  · exact hv
 refine⟨by simp[h.len],fun v hv e=>?_,fun v hv e=>?_,?_,fun v hv=>?_,fun v hv e=>?_⟩
 · rw[hg,if_neg (fun e2=>by rw[e2]at e;have:=h.old y hb e;rw[hn]at this;exact e this.symm)]
   exact h.old v hv e
 · rw[hg]
   by_cases e2:v=y
   · rw[if_pos e2,e2];exact Or.inr ⟨rfl,hcon⟩
   · rw[if_neg e2];exact h.new v hv e
 · rw[hg,h.fst];split<;>rfl
 · rcases List.mem_append.1 hv with h1|h1
   · exact h.tod v h1
   · rw[List.mem_singleton.1 h1];exact⟨hb,hcon⟩
 · by_cases e2:v=y
   · exact Or.inl (List.mem_append.2 (Or.inr (List.mem_singleton.2 e2)))
   · rw[hg,if_neg e2]at e
     rcases h.proc v hv e with h1|h1
     · exact Or.inl (List.mem_append.2 (Or.inl h1))
     · refine Or.inr fun t ht hst=>?_
       by_cases hvk:v=k
       · by_cases hts:t=s
         · rw[hvk,hts,hy,hg,if_pos rfl];exact hnum
         · exact hne _ (h1 t ht (fun e=>by have:=hst e;omega))
       · exact hne _ (h1 t ht (fun e=>absurd e hvk))
structure Pcs (C:List Cr) (P:List Int) (c k:Nat):Prop where
 len:P.length=C.length
 few:c<=k
 cl:∀ e,e∈Qz0 C->P.getD e.1 0=P.getD e.2 0
 vals:∀ v,v<C.length->P.getD v 0 = -1∨(0<=P.getD v 0/\P.getD v 0<(c:Int))
 join:∀ u v,u<C.length->v<C.length->P.getD u 0 ≠ -1->P.getD u 0=P.getD v 0->Con (Qz0 C) u v
 used:∀ p,p<c->∃ v,v<C.length/\P.getD v 0=(p:Int)
 done:∀ v,v<k->v<C.length->P.getD v 0 ≠ -1
theorem Pcs.start (C:List Cr) (P:List Int) (hP:P=List.replicate C.length (-1)) (hE:∀ e,e∈Qz0 C->e.1<C.length/\e.2<C.length):Pcs C P 0 0:=by
 have hg:∀ v,v<C.length->P.getD v 0 = -1:=fun v hv=>by rw[hP];simp[List.getD_eq_getElem?_getD,hv]
 exact⟨by rw[hP];simp,Nat.le_refl _,fun e he=>by rw[hg _ (hE e he).1,hg _ (hE e he).2],fun v hv=>Or.inl (hg v hv),fun u v hu _ h _=>absurd (hg u hu) h,fun p hp=>absurd hp (Nat.not_lt_zero _),fun v hv=>absurd hv (Nat.not_lt_zero _)⟩
theorem Pcs.skip {C:List Cr} {P:List Int} {c k:Nat} (h:Pcs C P c k) (hk:P.getD k 0 ≠ -1):Pcs C P c (k+1):=
 ⟨h.len, by have := h.few; omega, h.cl, h.vals, h.join, h.used, fun v hv hn => by
  by_cases e:v=k
  · rw[e];exact hk
  · exact h.done v (by omega) hn⟩
theorem Pcs.more {C:List Cr} {loops:Int} (hm:QX3 C loops=true) {P0 P:List Int} {c k k1:Nat} (h:Pcs C P0 c k) (hk:k<C.length) (_h0:P0.getD k 0 = -1) (g:Spr C P0 P k c [] k1 4):Pcs C P (c+1) (k+1):=by
 have hc1:((c:Nat):Int) ≠ -1:=by omega
 have hold:∀ v,v<C.length->P.getD v 0=(c:Int)->P0.getD v 0 = -1:=fun v hv e=>Classical.byContradiction fun hne=>by
  have h1:=g.old v hv hne
  rcases h.vals v hv with h2|h2
  · exact hne h2
  · omega
 have hone:∀ u v,u<C.length->v<C.length->P0.getD u 0=P0.getD v 0->(∃ t,t<4/\nbC C u t=v)->(∃ t,t<4/\nbC C v t=u)->P.getD u 0=P.getD v 0:=by
  intro u v hu hv e ⟨t,ht,ht'⟩ ⟨t2,ht2,ht2'⟩
  by_cases h1:P0.getD u 0 = -1
  · have h2:P0.getD v 0 = -1:=by rw[<-e];exact h1
    rcases g.new u hu h1 with a|a
    · rcases g.new v hv h2 with b|b
      · rw[a,b]
      · rcases g.proc v hv b.1 with c1|c1
        · cases c1
        · have:=c1 t2 ht2 (fun _=>ht2)
          rw[ht2']at this
          exact absurd a this
    · rcases g.proc u hu a.1 with c1|c1
      · cases c1
      · have hx:=c1 t ht (fun _=>ht)
        rw[ht']at hx
        rcases g.new v hv h2 with b|b
        · exact absurd b hx
        · rw[a.1,b.1]
  · have h2:P0.getD v 0 ≠ -1:=by rw[<-e];exact h1
    rw[g.old u hu h1,g.old v hv h2,e]
 refine⟨g.len,by have:=h.few;omega,fun e he=>?_,fun v hv=>?_,fun u v hu hv hne e=>?_,fun p hp=>?_,fun v hv hn=>?_⟩
 · obtain⟨a1,a2,a3,a4⟩:=Xf8 hm e he
   exact hone _ _ a1 a2 (h.cl e he) a3 a4
 · by_cases h1:P0.getD v 0 = -1
   · rcases g.new v hv h1 with a|a
     · exact Or.inl a
     · exact Or.inr (by rw[a.1];omega)
   · rw[g.old v hv h1]
     rcases h.vals v hv with a|a
     · exact Or.inl a
     · exact Or.inr (by omega)
 · by_cases h1:P.getD u 0=(c:Int)
   · have hu1:=hold u hu h1
     have hv1:=hold v hv (by rw[<-e];exact h1)
     rcases g.new u hu hu1 with a|a
     · exact absurd a hne
     · rcases g.new v hv hv1 with b|b
       · exact absurd (by rw[e];exact b) hne
       · exact a.2.symm.trans b.2
   · have hu1 : P0.getD u 0 ≠ -1 := fun hx => by
       rcases g.new u hu hx with a|a
       · exact hne a
       · exact h1 a.1
     have hv1:P0.getD v 0 ≠ -1:=fun hx=>by
      rcases g.new v hv hx with a|a
      · exact hne (by rw[e];exact a)
      · exact h1 (by rw[e];exact a.1)
     rw[g.old u hu hu1,g.old v hv hv1]at e
     exact h.join u v hu hv hu1 e
 · by_cases e:p=c
   · exact⟨k,hk,by rw[g.fst,e]⟩
   · obtain⟨v,hv,e2⟩:=h.used p (by omega)
     exact⟨v,hv,by rw[g.old v hv (by rw[e2];omega),e2]⟩
 · by_cases e:v=k
   · rw[e,g.fst];exact hc1
   · have:=h.done v (by omega) hn
     rw[g.old v hn this];exact this
structure PcsAll (C:List Cr) (P:List Int) (c:Nat):Prop where
 len:P.length=C.length
 few:c<=C.length
 vals:∀ v,v<C.length->0<=P.getD v 0/\P.getD v 0<(c:Int)
 same:∀ u v,u<C.length->v<C.length->(P.getD u 0=P.getD v 0↔Con (Qz0 C) u v)
 used:∀ p,p<c->∃ v,v<C.length/\P.getD v 0=(p:Int)
theorem Pcs.all {C:List Cr} {P:List Int} {c:Nat} (h:Pcs C P c C.length):PcsAll C P c:=by
 refine⟨h.len,h.few,fun v hv=>?_,fun u v hu hv=>⟨fun e=>h.join u v hu hv (h.done u hu hu) e,fun hc=>?_⟩,h.used⟩
 · rcases h.vals v hv with a|a
   · exact absurd a (h.done v hv hv)
   · exact a
 · exact(hc (fun z=>P.getD u 0=P.getD z 0) (fun e he=>by show P.getD u 0=P.getD e.1 0↔P.getD u 0=P.getD e.2 0;rw[h.cl e he]) rfl)
def exI (n:Nat) (G:List Nat) (P:List Int) (p:Nat):Int:=((G.countP fun g=>decide (P.getD g 0=(p:Int)):Nat):Int)-(((List.range n).countP fun v=>decide (P.getD v 0=(p:Int)):Nat):Int)
def exN (n:Nat) (G:List Nat) (W:List Nat) (p:Nat):Int:=((G.countP fun g=>decide (W.getD g 0=p):Nat):Int)-(((List.range n).countP fun v=>decide (W.getD v 0=p):Nat):Int)
theorem Zb1 {C:List Cr} {P:List Int} {c:Nat} {W:List Nat} {G:List Nat} (hP:PcsAll C P c) (hW:Least (Qz0 C) C.length W) (hG:∀ g,g∈G->g<C.length) (v:Nat) (hv:v<C.length) (p:Nat) (hp:P.getD v 0=(p:Int)):exI C.length G P p=exN C.length G W (W.getD v 0):=by
 have key:∀ g,g<C.length->decide (P.getD g 0=(p:Int))=decide (W.getD g 0=W.getD v 0):=fun g hg=>by
  rw[<-hp]
  exact decide_eq_decide.2 ((hP.same g v hg hv).trans (hW.same hg hv).symm)
 unfold exI exN
 rw [List.countP_congr (p := fun g => decide (P.getD g 0 = (p : Int))) (q := fun g => decide (W.getD g 0 = W.getD v 0)) (l := G) (fun g hg => by rw [key g (hG g hg)]),
  List.countP_congr (p:=fun g=>decide (P.getD g 0=(p:Int))) (q:=fun g=>decide (W.getD g 0=W.getD v 0)) (l:=List.range C.length) (fun g hg=>by rw[key g (List.mem_range.1 hg)])]
theorem ZD8 {C:List Cr} {P:List Int} {c:Nat} {W:List Nat} {G:List Nat} (hP:PcsAll C P c) (hW:Least (Qz0 C) C.length W) (hG:∀ g,g∈G->g<C.length):(∀ p,p<c->exI C.length G P p=2)↔∀ p,p<C.length->W.getD p 0=p->exN C.length G W p=2:=by
 constructor
 · intro h p hp e
   have hv:=hP.vals p hp
   have:=Zb1 hP hW hG p hp (P.getD p 0).toNat (by omega)
   rw[e]at this
   rw[<-this]
   exact h _ (by omega)
 · intro h p hp
   obtain⟨v,hv,e⟩:=hP.used p hp
   rw[Zb1 hP hW hG v hv p e]
   have hw:=hW.lt hv
   exact h _ hw ((hW.same hw hv).2 (hW.2 v hv).1.symm)
end Go.Proofs.YtjcagkgpbcdghaaDoor
/- Plain mathematics of the bracket: what a state ties, crossing by crossing; the rings with one arc cut. -/
namespace Go.Proofs.YtjcagkgpbcdghaaDoor
def arN (C:List Cr) (k s:Nat):Nat:=((C.getD k Cr.none).arc s).toNat
def arQ (C:List Cr) (k s:Nat):Nat:=if k=0/\s=0 then 25 else arN C k s
def prS (ar:Nat->Nat->Nat) (s i:Nat):Nat×Nat:=
 if s / 2 ^ (i / 2)%2=1 then(if i%2=0 then(ar (i / 2) 0,ar (i / 2) 1) else(ar (i / 2) 2,ar (i / 2) 3))
 else(if i%2=0 then(ar (i / 2) 1,ar (i / 2) 2) else(ar (i / 2) 3,ar (i / 2) 0))
def in4 (ar:Nat->Nat->Nat) (v k:Nat):Nat:=(if ar k 0=v then 1 else 0)+(if ar k 1=v then 1 else 0)+(if ar k 2=v then 1 else 0)+(if ar k 3=v then 1 else 0)
def oc (ar:Nat->Nat->Nat) (v:Nat):Nat->Nat
 |0=>0
 |k+1=>oc ar v k+in4 ar v k
theorem KU7 (ar:Nat->Nat->Nat) (s k:Nat):prS ar s (2*k)=if s / 2 ^ k%2=1 then(ar k 0,ar k 1) else(ar k 1,ar k 2):=by
 unfold prS
 rw[show 2*k / 2=k by omega,show 2*k%2=0 by omega];rfl
theorem KU8 (ar:Nat->Nat->Nat) (s k:Nat):prS ar s (2*k+1)=if s / 2 ^ k%2=1 then(ar k 2,ar k 3) else(ar k 3,ar k 0):=by
 unfold prS
 rw[show(2*k+1) / 2=k by omega,show(2*k+1)%2=1 by omega];rfl
theorem JY8 (ar:Nat->Nat->Nat) (s v k:Nat):dgP (prS ar s) (2*k) v=oc ar v k:=by
 induction k with
 |zero=>rfl
 |succ k ih=>
  rw[show 2*(k+1)=2*k+1+1 by omega]
  show dgm (dgm (dgP (prS ar s) (2*k)) (prS ar s (2*k)).1 (prS ar s (2*k)).2) (prS ar s (2*k+1)).1 (prS ar s (2*k+1)).2 v=oc ar v k+in4 ar v k
  unfold dgm in4
  rw[ih,KU7,KU8]
  by_cases h:s / 2 ^ k%2=1
  · simp only[if_pos h];omega
  · simp only[if_neg h];omega
theorem KJ3 {C:List Cr} {k v:Nat} (hf:∀ s,s<4->1<=(C.getD k Cr.none).arc s):in4 (arN C) v k=Qz1 (C.getD k Cr.none) v 4+QF3 (C.getD k Cr.none) v 4:=by
 have e:∀ s,s<4->(if arN C k s=v then 1 else 0)=(if(C.getD k Cr.none).arc s=(v:Int)/\(C.getD k Cr.none).comes s=true then 1 else 0)+(if(C.getD k Cr.none).arc s=(v:Int)/\(C.getD k Cr.none).comes s=false then 1 else 0):=by
  intro s hs
  have h1:=hf s hs
  unfold arN
  by_cases h:((C.getD k Cr.none).arc s).toNat=v
  · have h2:(C.getD k Cr.none).arc s=(v:Int):=by omega
    rw[if_pos h]
    cases hc:(C.getD k Cr.none).comes s
    · rw[if_neg (fun e=>by simp at e),if_pos ⟨h2,rfl⟩]
    · rw[if_pos ⟨h2,rfl⟩,if_neg (fun e=>by simp at e)]
  · have h2:¬ (C.getD k Cr.none).arc s=(v:Int):=by omega
    rw[if_neg h,if_neg (fun e=>h2 e.1),if_neg (fun e=>h2 e.1)]
 unfold in4
 rw[e 0 (by omega),e 1 (by omega),e 2 (by omega),e 3 (by omega)]
 have i4:Qz1 (C.getD k Cr.none) v 4=0+(if(C.getD k Cr.none).arc 0=(v:Int)/\(C.getD k Cr.none).comes 0=true then 1 else 0)+(if(C.getD k Cr.none).arc 1=(v:Int)/\(C.getD k Cr.none).comes 1=true then 1 else 0)+(if(C.getD k Cr.none).arc 2=(v:Int)/\(C.getD k Cr.none).comes 2=true then 1 else 0)+(if(C.getD k Cr.none).arc 3=(v:Int)/\(C.getD k Cr.none).comes 3=true then 1 else 0):=rfl
 have o4:QF3 (C.getD k Cr.none) v 4=0+(if(C.getD k Cr.none).arc 0=(v:Int)/\(C.getD k Cr.none).comes 0=false then 1 else 0)+(if(C.getD k Cr.none).arc 1=(v:Int)/\(C.getD k Cr.none).comes 1=false then 1 else 0)+(if(C.getD k Cr.none).arc 2=(v:Int)/\(C.getD k Cr.none).comes 2=false then 1 else 0)+(if(C.getD k Cr.none).arc 3=(v:Int)/\(C.getD k Cr.none).comes 3=false then 1 else 0):=rfl
 rw[i4,o4]
 omega
theorem JY2 {C:List Cr} {v:Nat}:∀ k,(∀ i,i<k->∀ s,s<4->1<=(C.getD i Cr.none).arc s)->oc (arN C) v k=Kz3 C v k+Xx4 C v k
 |0,_=>rfl
 |k+1,h=>by
  show oc (arN C) v k+in4 (arN C) v k=(Kz3 C v k+Qz1 _ v 4)+(Xx4 C v k+QF3 _ v 4)
  rw[JY2 k (fun i hi=>h i (by omega)),KJ3 (h k (by omega))];omega
theorem QK6 {C:List Cr} {loops:Int} (hm:QX3 C loops=true) {k s:Nat} (hk:k<C.length) (hs:s<4):1<=(C.getD k Cr.none).arc s/\(C.getD k Cr.none).arc s<=2*C.length/\1<=arN C k s/\arN C k s<=2*C.length:=by
 have h:=QV7 hm k s hk hs
 have h1:=h.1
 have h2:=h.2.1
 unfold arN
 omega
theorem Zz3 {C:List Cr} {loops:Int} (hm:QX3 C loops=true) {v:Nat} (h1:1<=v) (h2:v<=2*C.length):oc (arN C) v C.length=2:=by
 rw[JY2 C.length (fun i hi s hs=>(QK6 hm hi hs).1)]
 have h:=hm
 unfold QX3 at h
 rw[Bool.and_eq_true,List.all_eq_true]at h
 have h3:=h.2 (v-1) (List.mem_range.2 (by omega))
 rw[show v-1+1=v by omega]at h3
 unfold XW8 at h3
 rw[Bool.and_eq_true,decide_eq_true_eq,decide_eq_true_eq]at h3
 omega
theorem Xd7 {C:List Cr} {loops:Int} (hm:QX3 C loops=true) {v:Nat} (h:v=0∨2*C.length<v):∀ k,k<=C.length->oc (arN C) v k=0
 |0,_=>rfl
 |k+1,hk=>by
  show oc (arN C) v k+in4 (arN C) v k=0
  rw[Xd7 hm h k (by omega)]
  have a0:=QK6 hm (k:=k) (by omega) (s:=0) (by omega)
  have a1:=QK6 hm (k:=k) (by omega) (s:=1) (by omega)
  have a2:=QK6 hm (k:=k) (by omega) (s:=2) (by omega)
  have a3:=QK6 hm (k:=k) (by omega) (s:=3) (by omega)
  unfold in4
  rw[if_neg (by omega),if_neg (by omega),if_neg (by omega),if_neg (by omega)]
theorem Zz4 (C:List Cr) (v:Nat):∀ k,oc (arQ C) v (k+1)+(if arN C 0 0=v then 1 else 0)=oc (arN C) v (k+1)+(if 25=v then 1 else 0)
 |0=>by
  show 0+in4 (arQ C) v 0+_=0+in4 (arN C) v 0+_
  unfold in4
  rw[show arQ C 0 0=25 from rfl,show arQ C 0 1=arN C 0 1 from rfl,show arQ C 0 2=arN C 0 2 from rfl,show arQ C 0 3=arN C 0 3 from rfl]
  omega
 |k+1=>by
  have:=Zz4 C v k
  have e:in4 (arQ C) v (k+1)=in4 (arN C) v (k+1):=by
   unfold in4 arQ
   simp only[Nat.succ_ne_zero,false_and,if_false]
  show oc (arQ C) v (k+1)+in4 (arQ C) v (k+1)+_=oc (arN C) v (k+1)+in4 (arN C) v (k+1)+_
  rw[e];omega
theorem JF7 {C:List Cr} {loops:Int} (hm:QX3 C loops=true) (h12:C.length<=12) (s i:Nat) (hi:i<2*C.length):(prS (arN C) s i).1=sg (arN C 0 0) (prS (arQ C) s i).1/\(prS (arN C) s i).2=sg (arN C 0 0) (prS (arQ C) s i).2:=by
 have e:∀ k t,k<C.length->t<4->arN C k t=sg (arN C 0 0) (arQ C k t):=by
  intro k t hk ht
  have a:=QK6 hm hk ht
  unfold arQ sg
  by_cases h:k=0/\t=0
  · rw[if_pos h,if_pos rfl,h.1,h.2]
  · rw[if_neg h,if_neg (by omega)]
 unfold prS
 have hk:i / 2<C.length:=by omega
 split<;>split<;>exact⟨e _ _ hk (by omega),e _ _ hk (by omega)⟩
theorem KF9 {C:List Cr} {loops:Int} (hm:QX3 C loops=true) (h12:C.length<=12) (s i:Nat) (hi:i<2*C.length):1<=(prS (arQ C) s i).1/\(prS (arQ C) s i).1<26/\1<=(prS (arQ C) s i).2/\(prS (arQ C) s i).2<26:=by
 have e:∀ k t,k<C.length->t<4->1<=arQ C k t/\arQ C k t<26:=by
  intro k t hk ht
  have a:=QK6 hm hk ht
  unfold arQ
  split<;>omega
 unfold prS
 have hk:i / 2<C.length:=by omega
 split<;>split<;>exact⟨(e _ _ hk (by omega)).1,(e _ _ hk (by omega)).2,(e _ _ hk (by omega)).1,(e _ _ hk (by omega)).2⟩
theorem Jx2 {C:List Cr} {loops:Int} (hm:QX3 C loops=true) (h12:C.length<=12) (h0:0<C.length) (v:Nat):oc (arQ C) v C.length<=2:=by
 obtain⟨n,hn⟩:∃ n,C.length=n+1:=⟨C.length - 1,by omega⟩
 have h:=Zz4 C v n
 rw[<-hn]at h
 have a:=QK6 hm h0 (s:=0) (by omega)
 by_cases hv:1<=v/\v<=2*C.length
 · rw[Zz3 hm hv.1 hv.2,if_neg (by omega:¬ 25=v)]at h;omega
 · rw[Xd7 hm (by omega) C.length (Nat.le_refl _)]at h
   split at h<;>split at h<;>omega
theorem ZD4 {C:List Cr} {loops:Int} (hm:QX3 C loops=true) (h12:C.length<=12) (h0:0<C.length) (s i:Nat) (hi:i<=2*C.length):Tied (Xq7 (prS (arQ C) s) i) (dgP (prS (arQ C) s) i) (QD2 (prS (arQ C) s) i)/\QC3 (prS (arQ C) s) i+QF2 (prS (arQ C) s) i=i:=
 KB2 (fun i hi=>KF9 hm h12 s i hi) (fun v=>by rw[JY8];exact Jx2 hm h12 h0 v) i hi
theorem KQ4 {C:List Cr} {loops:Int} (hm:QX3 C loops=true) (h12:C.length<=12) (h0:0<C.length) (s:Nat):QC3 (prS (arQ C) s) (2*C.length)+1+QF2 (prS (arN C) s) (2*C.length)=2*C.length:=by
 obtain⟨h1,h2⟩:=ZD4 hm h12 h0 s (2*C.length) (Nat.le_refl _)
 have a:=QK6 hm h0 (s:=0) (by omega)
 obtain⟨-,h3⟩:=KC9 (P:=prS (arN C) s) (Q:=prS (arQ C) s) (m:=2*C.length) (A:=arN C 0 0) (by omega) (fun i hi=>JF7 hm h12 s i hi) (2*C.length) (Nat.le_refl _)
 obtain⟨n,hn⟩:∃ n,C.length=n+1:=⟨C.length - 1,by omega⟩
 have hd:∀ v,dgP (prS (arQ C) s) (2*C.length) v+(if arN C 0 0=v then 1 else 0)=oc (arN C) v C.length+(if 25=v then 1 else 0):=by
  intro v;rw[JY8,hn];exact Zz4 C v n
 have dA:dgP (prS (arQ C) s) (2*C.length) (arN C 0 0)=1:=by
  have:=hd (arN C 0 0)
  rw[if_pos rfl,Zz3 hm a.2.2.1 a.2.2.2,if_neg (by omega)]at this;omega
 obtain⟨o1,o2,o3,o4,o5⟩:=h1.one (arN C 0 0) a.2.2.1 (by omega) dA
 have hlt:=h1.lt (arN C 0 0)
 have e25:(Xq7 (prS (arQ C) s) (2*C.length)).getD (arN C 0 0) 0=25:=by
  generalize (Xq7 (prS (arQ C) s) (2*C.length)).getD (arN C 0 0) 0=u at*
  have:=hd u
  rw[o3,if_neg (Ne.symm o1)]at this
  by_cases hu:u<=2*C.length
  · rw[Zz3 hm o2 hu]at this;omega
  · rw[Xd7 hm (Or.inr (by omega)) C.length (Nat.le_refl _)]at this
    by_cases e:25=u
    · exact e.symm
    · rw[if_neg e]at this;omega
 rw[e25]at o5
 rw[if_pos o5]at h3
 omega
theorem Zk4 {k j s:Nat} (h:j<k):(2 ^ k+s) / 2 ^ j%2=s / 2 ^ j%2:=by
 have e:2 ^ k=2 ^ j*(2*2 ^ (k-j-1)):=by
  rw[<-Nat.mul_assoc,Nat.mul_comm (2 ^ j) 2,Nat.mul_assoc,<-Nat.pow_add,show j+(k-j-1)=k-1 by omega,<-Nat.pow_succ']
  congr 1;omega
 rw[e,Nat.mul_add_div (Nat.two_pow_pos j)];omega
theorem Xz2 {k s:Nat} (h:s<2 ^ k):(2 ^ k+s) / 2 ^ k%2=1:=by
 rw[show 2 ^ k+s=2 ^ k*1+s by omega,Nat.mul_add_div (Nat.two_pow_pos k),Nat.div_eq_of_lt h]
theorem XH4 {k s:Nat} (h:s<2 ^ k):s / 2 ^ k%2=0:=by rw[Nat.div_eq_of_lt h]
theorem Kj6 (ar:Nat->Nat->Nat) {k s i:Nat} (hi:i<2*k):prS ar (2 ^ k+s) i=prS ar s i:=by
 unfold prS
 rw[Zk4 (by omega:i / 2<k)]
theorem XX4 {P Q:Nat->Nat×Nat}:∀ i,(∀ j,j<i->P j=Q j)->Xq7 P i=Xq7 Q i/\QC3 P i=QC3 Q i/\QD2 P i=QD2 Q i/\QF2 P i=QF2 Q i
 |0,_=>⟨rfl,rfl,rfl,rfl⟩
 |i+1,h=>by
  obtain⟨e1,e2,e3,e4⟩:=XX4 i fun j hj=>h j (by omega)
  have e:=h i (by omega)
  refine⟨?_,?_,?_,?_⟩
  · show Qu8 (Xq7 P i) _ _=Qu8 (Xq7 Q i) _ _;rw[e1,e]
  · show QC3 P i+XF3 (Xq7 P i) _ _=QC3 Q i+XF3 (Xq7 Q i) _ _;rw[e1,e2,e]
  · show lab (QD2 P i) _ _=lab (QD2 Q i) _ _;rw[e3,e]
  · show QF2 P i+(if QD2 P i _=QD2 P i _ then 0 else 1)=QF2 Q i+(if QD2 Q i _=QD2 Q i _ then 0 else 1);rw[e3,e4,e]
end Go.Proofs.YtjcagkgpbcdghaaDoor

/- Several texts of the proof, one behind the other. -/
import Derived.Test.YtefooihnoajnlaaRows
import Derived.WalkKit
import Derived.WalkSpells
import Derived.WalkLawsBesides
import Derived.Deep.QuietTactic
import Derived.BigQuiet
import Derived.Deep.RegionWith
import Derived.Deep.RegionHeld3
import Derived.Laws.AppendOwnNone
import Derived.OwnWalk
import Derived.Lib.Hide
import Derived.Laws.StructEq
/- What is said of worlds, rows and lists of pairs without naming the program. -/
namespace Go.Proofs.Ytefooihnoajnlaa
open Go.RowKit
theorem bcell {B:Nat} {W w1:World} (hb:Below B W w1) {b o:Nat} {v:Option Value} (h:b<B) (hc:W.cell? ⟨b,o,none⟩=v):w1.cell? ⟨b,o,none⟩=v:=by
 rw[<-hc];exact hb.cell (p:=⟨b,o,none⟩) h
theorem below_drewN {B:Nat} {w w1:World} (h:Below B w w1):∀ n,Below B w (w1.drewN n):=fun n=>by
 induction n with
 |zero=>exact h
 |succ n ih=>exact ih.drew
theorem ret_bool {a b:Bool} (h:b=a):Ending.returned (.bool a)=.returned (.bool b):=by rw[h]
/-- The cells of the terms l, from address ⟨b, off⟩ on. -/
def TermsAt (w:World) (b off:Nat) (l:List (Int×Int)):Prop:=
 ∀ i,i<l.length->w.cell? ⟨b,off+i*2,none⟩=some (.int .i64 (l.getD i (0,0)).1)/\w.cell? ⟨b,off+i*2+1,none⟩=some (.int .i64 (l.getD i (0,0)).2)
theorem TermsAt.on {B:Nat} {W w1:World} {b off:Nat} {l:List (Int×Int)} (h:TermsAt W b off l) (hb:Below B W w1) (hlt:b<B):TermsAt w1 b off l:=
 fun i hi=>⟨bcell hb hlt (h i hi).1,bcell hb hlt (h i hi).2⟩
/-- The terms as cells, one behind the other. -/
def flat (l:List (Int×Int)):List Value:=l.flatMap fun t=>[.int .i64 t.1,.int .i64 t.2]
theorem flat_length (l:List (Int×Int)):(flat l).length=l.length*2:=by
 induction l with
 |nil=>rfl
 |cons t l ih=>simp[flat]at *;omega
theorem flat_append (l m:List (Int×Int)):flat (l++m)=flat l++flat m:=by simp[flat]
theorem flat_get (l : List (Int × Int)) (i : Nat) (hi : i < l.length) :
    (flat l)[i*2]?=some (.int .i64 (l.getD i (0,0)).1)/\(flat l)[i*2+1]?=some (.int .i64 (l.getD i (0,0)).2):=by
 induction l generalizing i with
 |nil=>simp at hi
 |cons t l ih=>
  cases i with
  |zero=>simp[flat]
  |succ i=>
   have:=ih i (by simpa using hi)
   simp only[flat,List.flatMap_cons]at this ⊢
   rw[List.getElem?_append_right (by simp;omega),List.getElem?_append_right (by simp;omega)]
   simpa[show(i+1)*2-2=i*2 by omega,show(i+1)*2+1-2=i*2+1 by omega] using this
theorem flat_one (l:List (Int×Int)):∀ u∈flat l,u.oneCell'=true:=by
 intro u hu
 simp only[flat,List.mem_flatMap]at hu
 obtain⟨t,_,ht⟩:=hu
 simp at ht
 rcases ht with rfl|rfl<;>rfl
/-- The cells of the row, asked by their place. -/
theorem flat_at {w:World} {b off:Nat} {l:List (Int×Int)} (h:TermsAt w b off l):∀ j u,(flat l)[j]?=some u->w.cell? ((⟨b,off,none⟩:Addr).add j)=some u:=by
 intro j u hj
 have hlt:j<(flat l).length:=by
  rcases Nat.lt_or_ge j (flat l).length with h|h
  · exact h
  · rw[List.getElem?_eq_none h]at hj;cases hj
 rw[flat_length]at hlt
 have hi:j / 2<l.length:=by omega
 have g:=flat_get l (j / 2) hi
 have c:=h (j / 2) hi
 rcases Nat.mod_two_eq_zero_or_one j with e|e
 · have e2:j / 2*2=j:=by omega
   rw[e2]at g c
   rw[g.1]at hj
   rw[<-hj,Addr.add_lit]
   exact c.1
 · have e2:j / 2*2+1=j:=by omega
   have e3:off+j / 2*2+1=off+j:=by omega
   rw[e2]at g
   rw[e3]at c
   rw[g.2]at hj
   rw[<-hj,Addr.add_lit]
   exact c.2
theorem grown_below {w w':World} (h:Below w.heap.size w w') (row:Option Nat):w.grownBy w' row:=⟨h.os,h.tape,h.output,h.size,fun k hk _=>h.block k hk⟩
/-- The slice v holds these values, a cell each, in blocks below B. -/
def Slots (w:World) (B:Nat) (v:Value) (xs:List Value):Prop:=
 ∃ a cap,v=.slice a xs.length cap/\(0<xs.length->∃ b off,a=some ⟨b,off,none⟩/\b<B/\∀ i,i<xs.length->w.cell? ⟨b,off+i,none⟩=some (xs.getD i (.bool false)))
theorem Slots.on {w w':World} {B:Nat} {v:Value} {xs:List Value} (h:Slots w B v xs) (hb:Below B w w'):Slots w' B v xs:=by
 obtain⟨a,cap,rfl,g⟩:=h
 refine⟨a,cap,rfl,fun h0=>?_⟩
 obtain⟨b,off,rfl,hlt,hc⟩:=g h0
 exact⟨b,off,rfl,hlt,fun i hi=>bcell hb hlt (hc i hi)⟩
theorem Slots.mono {w:World} {B B':Nat} {v:Value} {xs:List Value} (h:Slots w B v xs) (hB:B<=B'):Slots w B' v xs:=by
 obtain⟨a,cap,rfl,g⟩:=h
 refine⟨a,cap,rfl,fun h0=>?_⟩
 obtain⟨b,off,rfl,hlt,hc⟩:=g h0
 exact⟨b,off,rfl,Nat.lt_of_lt_of_le hlt hB,hc⟩
theorem slots_of_own {w:World} {B e n:Nat} {v:Value} {xs:List Value} (h:w.ownsRow B e 1 v n xs):Slots w w.heap.size v xs:=by
 have hl:xs.length=n:=by simpa using h.1
 rcases h.2 with⟨rfl,h0⟩|⟨g,cap,cur,rfl,_,hg,_,_,_,_⟩
 · refine⟨none,0,by rw[hl,h0],fun hp=>by omega⟩
 · refine⟨some ⟨g,0,none⟩,cap,by rw[hl],fun _=>⟨g,0,rfl,(h.lt g rfl).2,fun i hi=>?_⟩⟩
   rw[Nat.zero_add,h.cellAt i (by omega),List.getD,List.getElem?_eq_getElem hi]
   rfl
theorem own_low {w:World} {B B' e s n:Nat} {v:Value} {xs:List Value} (h:w.ownsRow B e s v n xs) (hB:B'<=B):w.ownsRow B' e s v n xs:=by
 refine⟨h.1,?_⟩
 rcases h.2 with h1|⟨g,cap,cur,h1,h2,h3⟩
 · exact Or.inl h1
 · exact Or.inr ⟨g,cap,cur,h1,Nat.le_trans hB h2,h3⟩
/-- Rows of different element types lie in different blocks. -/
theorem own_ne {w:World} {B B' e e' s s' n n':Nat} {v v':Value} {xs xs':List Value} (h:w.ownsRow B e s v n xs) (h':w.ownsRow B' e' s' v' n' xs') (he:e≠e'):v.ownBlock=none∨v.ownBlock≠v'.ownBlock:=by
 rcases h.2 with⟨rfl,_⟩|⟨g,cap,cur,rfl,_,hg,_⟩
 · exact Or.inl rfl
 · right
   rcases h'.2 with⟨rfl,_⟩|⟨g',cap',cur',rfl,_,hg',_⟩
   · simp[Value.ownBlock]
   · simp only[Value.ownBlock]
     intro e0
     have e1:=Option.some.inj e0
     subst e1
     rw[hg]at hg'
     injection hg' with h1
     injection h1 with h2 h3
     exact he h3
theorem new_cell1 (W:World) (x:Value) (e:TypeId):∀ j u,[x][j]?=some u->(W.alloc (.cells #[x] e)).cell? ((⟨W.heap.size,0,none⟩:Addr).add j)=some u:=by
 intro j u hj
 rw[Addr.add_lit,Nat.zero_add]
 have hh:(W.alloc (.cells #[x] e)).heap[W.heap.size]?=some (.cells #[x] e (0,0)):=Array.getElem?_push_size
 match j,hj with
 |0,hj=>simp at hj;subst hj;unfold World.cell?;rw[hh];rfl
theorem own_capS {w:World} {B e s n:Nat} {v:Value} {xs:List Value} (h:w.ownsRow B e s v n xs):∃ a c,v=.slice a n c:=by
 rcases h.2 with⟨rfl,h0⟩|⟨g,cap,cur,rfl,_,_,h1,h2,_⟩
 · exact⟨none,0,by rw[h0]⟩
 · exact⟨_,_,rfl⟩
theorem own_oneS {w:World} {B e s n:Nat} {v:Value} {xs:List Value} (h:w.ownsRow B e s v n xs):∀ u∈[v],u.oneCell'=true:=by
 obtain⟨a,c,rfl⟩:=own_capS h
 intro u hu
 simp only[List.mem_singleton]at hu
 subst hu
 rfl
theorem own_any {w w':World} {B e s n:Nat} {v:Value} {xs:List Value} (h:w.ownsRow B e s v n xs) (hg:w.grownBy w' none):w'.ownsRow B e s v n xs:=
 h.kept hg (by cases v.ownBlock with|none=>exact Or.inl rfl|some q=>exact Or.inr (by simp))
theorem getD_left (zs:List Value) (x:Value) (i:Nat) (h:i<zs.length):(zs++[x]).getD i (.bool false)=zs.getD i (.bool false):=by simp[List.getD,List.getElem?_append_left h]
theorem getD_last (zs:List Value) (x:Value):(zs++[x]).getD zs.length (.bool false)=x:=by simp[List.getD]
/-- Another coefficient at place i. -/
def setC (l:List (Int×Int)) (i:Nat) (c:Int):List (Int×Int):=l.set i ((l.getD i (0,0)).1,c)
theorem flat_setC (l:List (Int×Int)) (i:Nat) (c:Int) (hi:i<l.length):(flat l).set (i*2+1) (.int .i64 c)=flat (setC l i c):=by
 induction l generalizing i with
 |nil=>simp at hi
 |cons t l ih=>
  have e:flat (t::l)=.int .i64 t.1::.int .i64 t.2::flat l:=rfl
  cases i with
  |zero=>
   have e2:setC (t::l) 0 c=(t.1,c)::l:=rfl
   rw[e,e2]
   rfl
  |succ i=>
   have e2:setC (t::l) (i+1) c=t::setC l i c:=rfl
   have e3:flat (t::setC l i c)=.int .i64 t.1::.int .i64 t.2::flat (setC l i c):=rfl
   rw[e,e2,e3,show(i+1)*2+1=i*2+1+1+1 by omega,List.set_cons_succ,List.set_cons_succ,ih i (by simpa using hi)]
theorem flat_cellC (l:List (Int×Int)) (i:Nat) (hi:i<l.length):(flat l)[i*2+1]?=some (.int .i64 (l.getD i (0,0)).2):=by
 induction l generalizing i with
 |nil=>simp at hi
 |cons t l ih=>
  have e:flat (t::l)=.int .i64 t.1::.int .i64 t.2::flat l:=rfl
  cases i with
  |zero=>rw[e];rfl
  |succ i=>
   have:=ih i (by simpa using hi)
   rw[e,show(i+1)*2+1=i*2+1+1+1 by omega,List.getElem?_cons_succ,List.getElem?_cons_succ,this]
   rfl
/-- Another first number at place i. -/
def setE (l:List (Int×Int)) (i:Nat) (e:Int):List (Int×Int):=l.set i (e,(l.getD i (0,0)).2)
theorem setE_length (l:List (Int×Int)) (i:Nat) (c:Int):(setE l i c).length=l.length:=by simp[setE]
theorem flat_setE (l:List (Int×Int)) (i:Nat) (c:Int) (hi:i<l.length):(flat l).set (i*2) (.int .i64 c)=flat (setE l i c):=by
 induction l generalizing i with
 |nil=>simp at hi
 |cons t l ih=>
  have e:flat (t::l)=.int .i64 t.1::.int .i64 t.2::flat l:=rfl
  cases i with
  |zero=>
   have e2:setE (t::l) 0 c=(c,t.2)::l:=rfl
   rw[e,e2]
   rfl
  |succ i=>
   have e2:setE (t::l) (i+1) c=t::setE l i c:=rfl
   have e3:flat (t::setE l i c)=.int .i64 t.1::.int .i64 t.2::flat (setE l i c):=rfl
   rw[e,e2,e3,show(i+1)*2=i*2+1+1 by omega,List.set_cons_succ,List.set_cons_succ,ih i (by simpa using hi)]
theorem flat_cellE (l:List (Int×Int)) (i:Nat) (hi:i<l.length):(flat l)[i*2]?=some (.int .i64 (l.getD i (0,0)).1):=by
 induction l generalizing i with
 |nil=>simp at hi
 |cons t l ih=>
  have e:flat (t::l)=.int .i64 t.1::.int .i64 t.2::flat l:=rfl
  cases i with
  |zero=>rw[e];rfl
  |succ i=>
   have:=ih i (by simpa using hi)
   rw[e,show(i+1)*2=i*2+1+1 by omega,List.getElem?_cons_succ,List.getElem?_cons_succ,this]
   rfl
theorem flat_zeros (n:Nat):(madeCells #[Value.int .i64 0,.int .i64 0] (n*2)).toList=flat (List.replicate n (0,0)):=by
 apply List.ext_getElem?
 intro j
 by_cases hj:j<n*2
 · have hlen:(flat (List.replicate n ((0:Int),(0:Int)))).length=n*2:=by rw[flat_length];simp
   have h1:∀ (m k:Nat),k<m*2->(flat (List.replicate m ((0:Int),(0:Int))))[k]?=some (.int .i64 0):=by
    intro m
    induction m with
    |zero=>intro k hk;omega
    |succ m ih=>
     intro k hk
     have e:flat (List.replicate (m+1) ((0:Int),(0:Int)))=.int .i64 0::.int .i64 0::flat (List.replicate m ((0:Int),(0:Int))):=rfl
     rw[e]
     match k with
     |0=>rfl
     |1=>rfl
     |k+2=>
      rw[List.getElem?_cons_succ,List.getElem?_cons_succ]
      exact ih k (by omega)
   rw[h1 n j hj]
   simp only[madeCells]
   rcases Nat.mod_two_eq_zero_or_one j with h|h<;>simp[hj,h]
 · rw[List.getElem?_eq_none (by simp[madeCells];omega),List.getElem?_eq_none (by rw[flat_length];simp;omega)]
/-- What the loop has done behind i spots. -/
def unkTo (n i:Nat):List (Int×Int):=List.replicate i (-1,0)++List.replicate (n-i) (0,0)
theorem unk_next (n i:Nat) (h:i<n):setE (unkTo n i) i (-1)=unkTo n (i+1):=by
 obtain⟨m,hm⟩:∃ m,n - i=m+1:=⟨n - i - 1,by omega⟩
 have hm2:n-(i+1)=m:=by omega
 unfold setE unkTo
 rw[hm,hm2,List.replicate_succ,List.replicate_succ' (n:=i)]
 have hg:(List.replicate i ((-1:Int),(0:Int))++(0,0)::List.replicate m (0,0)).getD i (0,0)=(0,0):=by simp[List.getD]
 rw[hg,List.set_append_right _ _ (by simp)]
 simp
theorem hidB {P:Prop} (h:P):Go.RowKit.Hid P:=h
end Go.Proofs.Ytefooihnoajnlaa
/- Homfly's polynomial by descents: walks on which crossings are changed or smoothed; plain mathematics. -/
namespace Go.Proofs.Ytefooihnoajnlaa
structure Sys where
 N:Nat
 cr:Nat->Nat
 be:Nat->Bool
 ah:Nat->Nat
 sx:Nat->Nat
 plus:Nat->Bool
def Pol2:=Int->Int
def sh2 (X Z c:Int) (p:Pol2):Pol2:=fun e=>c*p (e-(1000*X+Z))
def add2 (p q:Pol2):Pol2:=fun e=>p e+q e
def one2:Pol2:=fun e=>if e=0 then 1 else 0
def pwR:Nat->Pol2
 |0=>one2
 |1=>one2
 |n+2=>add2 (sh2 1 (-1) 1 (pwR (n+1))) (sh2 (-1) (-1) (-1) (pwR (n+1)))
def chX (p:Bool):Int:=if p=true then -2 else 2
def smX (p:Bool):Int:=if p=true then -1 else 1
def smC (p:Bool):Int:=if p=true then 1 else -1
def fork2 (p:Bool) (a b:Pol2):Pol2:=add2 (sh2 (chX p) 0 1 a) (sh2 (smX p) 1 (smC p) b)
def upd {α:Type} (f:Nat->α) (k:Nat) (v:α):Nat->α:=fun j=>if j=k then v else f j
theorem upd_same {α:Type} (f:Nat->α) (k:Nat) (v:α):upd f k v k=v:=if_pos rfl
theorem upd_other {α:Type} (f:Nat->α) {k j:Nat} (v:α) (h:j≠k):upd f k v j=f j:=if_neg h
theorem upd_swap {α:Type} (f:Nat->α) {k j:Nat} (u v:α) (h:j≠k):upd (upd f k u) j v=upd (upd f j v) k u:=by
 funext i
 unfold upd
 by_cases e:i=j
 · subst e;rw[if_pos rfl,if_neg h,if_pos rfl]
 · by_cases e2:i=k
   · subst e2;rw[if_neg e,if_pos rfl,if_pos rfl]
   · rw[if_neg e,if_neg e2,if_neg e2,if_neg e]
def lowF (w:Nat->Bool):Nat->Nat->Nat
 |0,a=>a
 |m+1,a=>if w a=true then lowF w m (a+1) else a
theorem lowF_is (w:Nat->Bool):∀ m a,a<=lowF w m a/\lowF w m a<=a+m/\(∀ b,a<=b->b<lowF w m a->w b=true)/\(lowF w m a<a+m->w (lowF w m a)=false)
 |0,a=>⟨Nat.le_refl _,Nat.le_refl _,fun b h1 h2=>by unfold lowF at h2;omega,fun h=>by unfold lowF at h;omega⟩
 |m+1,a=>by
  obtain⟨h1,h2,h3,h4⟩:=lowF_is w m (a+1)
  by_cases h:w a=true
  · have e:lowF w (m+1) a=lowF w m (a+1):=by show(if w a=true then _ else _)=_;rw[if_pos h]
    rw[e]
    refine⟨by omega,by omega,fun b hb hlt=>?_,fun hlt=>h4 (by omega)⟩
    by_cases e2:b=a
    · rw[e2];exact h
    · exact h3 b (by omega) hlt
  · have e:lowF w (m+1) a=a:=by show(if w a=true then _ else _)=_;rw[if_neg h]
    rw[e]
    exact⟨Nat.le_refl _,by omega,fun b hb hlt=>by omega,fun _=>by simpa using h⟩
def lowU (N:Nat) (w:Nat->Bool):Nat:=lowF w N 1
structure Dst where
 arc:Nat
 w:Nat->Bool
 ways:Nat->Nat
 r:Nat
def nxW (S:Sys) (ways:Nat->Nat) (a:Nat):Nat:=if ways (S.cr a)=2 then S.sx a else S.ah a
def onw (S:Sys) (w:Nat->Bool) (ways:Nat->Nat) (a r:Nat):Dst:=if w (nxW S ways a)=true then⟨lowU S.N w,w,ways,r+1⟩ else⟨nxW S ways a,w,ways,r⟩
def wk (S:Sys):Nat->Dst->Pol2
 |0,s=>pwR s.r
 |m+1,s=>if s.arc=0∨S.N<s.arc then pwR s.r else
  if s.ways (S.cr s.arc)=0 then
   if S.be s.arc=true then fork2 (S.plus (S.cr s.arc)) (wk S m (onw S (upd s.w s.arc true) (upd s.ways (S.cr s.arc) 1) s.arc s.r)) (wk S m (onw S (upd s.w s.arc true) (upd s.ways (S.cr s.arc) 2) s.arc s.r))
   else wk S m (onw S (upd s.w s.arc true) (upd s.ways (S.cr s.arc) 1) s.arc s.r)
  else wk S m (onw S (upd s.w s.arc true) s.ways s.arc s.r)
def Dst.set (s:Dst) (k v:Nat):Dst:=⟨s.arc,s.w,upd s.ways k v,s.r⟩
def ff (S:Sys):Nat->Dst->Option Nat
 |0,_=>none
 |m+1,s=>if s.arc=0∨S.N<s.arc then none else
  if s.ways (S.cr s.arc)=0 then
   if S.be s.arc=true then some (S.cr s.arc)
   else ff S m (onw S (upd s.w s.arc true) (upd s.ways (S.cr s.arc) 1) s.arc s.r)
  else ff S m (onw S (upd s.w s.arc true) s.ways s.arc s.r)
def rgW (S:Sys):Nat->Dst->Nat
 |0,s=>s.r
 |m+1,s=>if s.arc=0∨S.N<s.arc then s.r else rgW S m (onw S (upd s.w s.arc true) (if s.ways (S.cr s.arc)=0 then upd s.ways (S.cr s.arc) 1 else s.ways) s.arc s.r)
theorem onw_set (S:Sys) (w:Nat->Bool) (ways:Nat->Nat) (a r k v:Nat) (h:S.cr a≠k):(onw S w ways a r).set k v=onw S w (upd ways k v) a r:=by
 have e:nxW S (upd ways k v) a=nxW S ways a:=by unfold nxW;rw[upd_other _ _ h]
 unfold onw
 rw[e]
 split<;>rfl
theorem onw_ways (S:Sys) (w:Nat->Bool) (ways:Nat->Nat) (a r:Nat):(onw S w ways a r).ways=ways:=by unfold onw;split<;>rfl
theorem wk_fork (S:Sys) (k:Nat):∀ m s,s.ways k=0->ff S m s=some k->wk S m s=fork2 (S.plus k) (wk S m (s.set k 1)) (wk S m (s.set k 2))
 |0,s,_,h=>by cases h
 |m+1,s,hk,h=>by
  unfold ff at h
  unfold wk
  by_cases h0:s.arc=0∨S.N<s.arc
  · rw[if_pos h0]at h;cases h
  · rw[if_neg h0]at h ⊢
    rw[if_neg (show ¬ ((s.set k 1).arc=0∨S.N<(s.set k 1).arc) from h0),if_neg (show ¬ ((s.set k 2).arc=0∨S.N<(s.set k 2).arc) from h0)]
    show _=fork2 (S.plus k) (if upd s.ways k 1 (S.cr s.arc)=0 then if S.be s.arc=true then fork2 (S.plus (S.cr s.arc)) (wk S m (onw S (upd s.w s.arc true) (upd (upd s.ways k 1) (S.cr s.arc) 1) s.arc s.r)) (wk S m (onw S (upd s.w s.arc true) (upd (upd s.ways k 1) (S.cr s.arc) 2) s.arc s.r)) else wk S m (onw S (upd s.w s.arc true) (upd (upd s.ways k 1) (S.cr s.arc) 1) s.arc s.r) else wk S m (onw S (upd s.w s.arc true) (upd s.ways k 1) s.arc s.r))
     (if upd s.ways k 2 (S.cr s.arc)=0 then if S.be s.arc=true then fork2 (S.plus (S.cr s.arc)) (wk S m (onw S (upd s.w s.arc true) (upd (upd s.ways k 2) (S.cr s.arc) 1) s.arc s.r)) (wk S m (onw S (upd s.w s.arc true) (upd (upd s.ways k 2) (S.cr s.arc) 2) s.arc s.r)) else wk S m (onw S (upd s.w s.arc true) (upd (upd s.ways k 2) (S.cr s.arc) 1) s.arc s.r) else wk S m (onw S (upd s.w s.arc true) (upd s.ways k 2) s.arc s.r))
    by_cases hc:S.cr s.arc=k
    · rw[hc,if_pos hk]at h ⊢
      rw[upd_same,upd_same,if_neg (show ¬ (1:Nat)=0 by decide),if_neg (show ¬ (2:Nat)=0 by decide)]
      by_cases hb:S.be s.arc=true
      · rw[if_pos hb]
      · rw[if_neg hb]at h
        exfalso
        revert h
        exact ff_met S k m _ (by rw[onw_ways,upd_same];decide)
    · rw[upd_other _ _ hc,upd_other _ _ hc]
      by_cases hw:s.ways (S.cr s.arc)=0
      · rw[if_pos hw]at h ⊢
        rw[if_pos hw,if_pos hw]
        by_cases hb:S.be s.arc=true
        · rw[if_pos hb]at h
          exact(hc (Option.some.inj h)).elim
        · rw[if_neg hb]at h ⊢
          rw[if_neg hb,if_neg hb]
          have ih:=wk_fork S k m _ (by rw[onw_ways,upd_other _ _ (fun e=>hc e.symm)];exact hk) h
          rw[onw_set _ _ _ _ _ _ _ hc,onw_set _ _ _ _ _ _ _ hc]at ih
          rw[ih,upd_swap _ _ _ hc,upd_swap _ _ _ hc]
      · rw[if_neg hw]at h ⊢
        rw[if_neg hw,if_neg hw]
        have ih:=wk_fork S k m _ (by rw[onw_ways];exact hk) h
        rw[onw_set _ _ _ _ _ _ _ hc,onw_set _ _ _ _ _ _ _ hc]at ih
        exact ih
where
 ff_met (S:Sys) (k:Nat):∀ m s,s.ways k≠0->¬ ff S m s=some k
  |0,s,_=>by intro h;cases h
  |m+1,s,hk=>by
   unfold ff
   split
   · intro h;cases h
   · split
     · rename_i hw
       have hc:S.cr s.arc≠k:=fun e=>hk (by rw[<-e];exact hw)
       split
       · intro h;exact hc (Option.some.inj h)
       · exact ff_met S k m _ (by rw[onw_ways,upd_other _ _ (fun e=>hc e.symm)];exact hk)
     · exact ff_met S k m _ (by rw[onw_ways];exact hk)
theorem wk_none (S:Sys):∀ m s,ff S m s=none->wk S m s=pwR (rgW S m s)
 |0,s,_=>rfl
 |m+1,s,h=>by
  unfold ff at h
  unfold wk rgW
  by_cases h0:s.arc=0∨S.N<s.arc
  · rw[if_pos h0,if_pos h0]
  · rw[if_neg h0]at h ⊢
    rw[if_neg h0]
    by_cases hw:s.ways (S.cr s.arc)=0
    · rw[if_pos hw]at h ⊢
      rw[if_pos hw]
      by_cases hb:S.be s.arc=true
      · rw[if_pos hb]at h;cases h
      · rw[if_neg hb]at h ⊢
        exact wk_none S m _ h
    · rw[if_neg hw]at h ⊢
      rw[if_neg hw]
      exact wk_none S m _ h
structure SameBut (S T:Sys) (k:Nat):Prop where
 N:T.N=S.N
 cr:∀ a,1<=a->a<=S.N->T.cr a=S.cr a
 ah:∀ a,1<=a->a<=S.N->T.ah a=S.ah a
 sx:∀ a,1<=a->a<=S.N->T.sx a=S.sx a
 be:∀ a,1<=a->a<=S.N->S.cr a≠k->T.be a=S.be a
 at_:∀ a,1<=a->a<=S.N->S.cr a=k->S.be a=true->T.be a=false
 plus:∀ j,j≠k->T.plus j=S.plus j
theorem SameBut.onw {S T:Sys} {k:Nat} (h:SameBut S T k) (w:Nat->Bool) (ways:Nat->Nat) (a r:Nat) (h1:1<=a) (h2:a<=S.N):Go.Proofs.Ytefooihnoajnlaa.onw T w ways a r=Go.Proofs.Ytefooihnoajnlaa.onw S w ways a r:=by
 unfold Go.Proofs.Ytefooihnoajnlaa.onw nxW
 rw[h.N,h.cr a h1 h2,h.ah a h1 h2,h.sx a h1 h2]
theorem wk_met {S T:Sys} {k:Nat} (h:SameBut S T k):∀ m s,s.ways k≠0->wk T m s=wk S m s
 |0,_,_=>rfl
 |m+1,s,hk=>by
  unfold wk
  rw[h.N]
  by_cases h0:s.arc=0∨S.N<s.arc
  · rw[if_pos h0,if_pos h0]
  · have h1:1<=s.arc:=by omega
    have h2:s.arc<=S.N:=by omega
    rw[if_neg h0,if_neg h0,h.cr _ h1 h2]
    by_cases hw:s.ways (S.cr s.arc)=0
    · have hc:S.cr s.arc≠k:=fun e=>hk (by rw[<-e];exact hw)
      rw[if_pos hw,if_pos hw,h.be _ h1 h2 hc,h.plus _ hc,h.onw _ _ _ _ h1 h2,h.onw _ _ _ _ h1 h2]
      rw[wk_met h m _ (by rw[onw_ways,upd_other _ _ (fun e=>hc e.symm)];exact hk),wk_met h m _ (by rw[onw_ways,upd_other _ _ (fun e=>hc e.symm)];exact hk)]
    · rw[if_neg hw,if_neg hw,h.onw _ _ _ _ h1 h2]
      exact wk_met h m _ (by rw[onw_ways];exact hk)
theorem wk_change {S T:Sys} {k:Nat} (h:SameBut S T k):∀ m s,s.ways k=0->ff S m s=some k->wk T m s=wk S m (s.set k 1)
 |0,s,_,e=>by cases e
 |m+1,s,hk,e=>by
  unfold ff at e
  unfold wk
  rw[h.N]
  by_cases h0:s.arc=0∨S.N<s.arc
  · rw[if_pos h0]at e;cases e
  · have h1:1<=s.arc:=by omega
    have h2:s.arc<=S.N:=by omega
    rw[if_neg h0]at e ⊢
    rw[h.cr _ h1 h2]
    rw[if_neg (show ¬ ((s.set k 1).arc=0∨S.N<(s.set k 1).arc) from h0)]
    show _=(if upd s.ways k 1 (S.cr s.arc)=0 then if S.be s.arc=true then fork2 (S.plus (S.cr s.arc)) (wk S m (Go.Proofs.Ytefooihnoajnlaa.onw S (upd s.w s.arc true) (upd (upd s.ways k 1) (S.cr s.arc) 1) s.arc s.r)) (wk S m (Go.Proofs.Ytefooihnoajnlaa.onw S (upd s.w s.arc true) (upd (upd s.ways k 1) (S.cr s.arc) 2) s.arc s.r)) else wk S m (Go.Proofs.Ytefooihnoajnlaa.onw S (upd s.w s.arc true) (upd (upd s.ways k 1) (S.cr s.arc) 1) s.arc s.r) else wk S m (Go.Proofs.Ytefooihnoajnlaa.onw S (upd s.w s.arc true) (upd s.ways k 1) s.arc s.r))
    by_cases hc:S.cr s.arc=k
    · rw[hc,if_pos hk]at e ⊢
      rw[upd_same,if_neg (show ¬ (1:Nat)=0 by decide)]
      by_cases hb:S.be s.arc=true
      · rw[h.at_ _ h1 h2 hc hb,if_neg (show ¬ false=true by decide),h.onw _ _ _ _ h1 h2]
        exact wk_met h m _ (by rw[onw_ways,upd_same];decide)
      · rw[if_neg hb]at e
        exfalso
        exact wk_fork.ff_met S k m _ (by rw[onw_ways,upd_same];decide) e
    · rw[upd_other _ _ hc,h.be _ h1 h2 hc,h.plus _ hc,h.onw _ _ _ _ h1 h2,h.onw _ _ _ _ h1 h2,h.onw _ _ _ _ h1 h2]
      by_cases hw:s.ways (S.cr s.arc)=0
      · rw[if_pos hw]at e ⊢
        rw[if_pos hw]
        by_cases hb:S.be s.arc=true
        · rw[if_pos hb]at e
          exact(hc (Option.some.inj e)).elim
        · rw[if_neg hb]at e ⊢
          rw[if_neg hb]
          have ih:=wk_change h m _ (by rw[onw_ways,upd_other _ _ (fun e=>hc e.symm)];exact hk) e
          rw[onw_set _ _ _ _ _ _ _ hc]at ih
          rw[ih,upd_swap _ _ _ hc]
      · rw[if_neg hw]at e ⊢
        rw[if_neg hw]
        have ih:=wk_change h m _ (by rw[onw_ways];exact hk) e
        rw[onw_set _ _ _ _ _ _ _ hc]at ih
        exact ih
end Go.Proofs.Ytefooihnoajnlaa

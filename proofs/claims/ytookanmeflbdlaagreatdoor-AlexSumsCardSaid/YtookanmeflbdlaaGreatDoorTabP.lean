/- Several texts of the proof, one behind the other. -/
import Derived.Test.YtookanmeflbdlaaGreatDoorTkhP
import Derived.Test.YtookanmeflbdlaaGreatDoorAL0P
import Derived.Test.YtookanmeflbdlaaGreatDoorBaseP
import Derived.Deep.QuietTactic
import Derived.BigQuiet
/- Tables of numbers that a call owns. -/
namespace Go.Proofs.YtookanmeflbdlaaGreatDoor
open Go.RowKit
def Xq2 (m:Nat) (gs:Nat->Nat) (k:Nat):List Value:=(List.range m).map fun i=>if i<k then .slice (some ⟨gs i,0,none⟩) m m else .slice none 0 0
theorem Qw3 (m:Nat) (gs:Nat->Nat) (k:Nat):(Xq2 m gs k).length=m:=by simp[Xq2]
theorem Qq4 (m:Nat) (gs:Nat->Nat) (k i:Nat) (h:i<m):(Xq2 m gs k)[i]?=some (if i<k then .slice (some ⟨gs i,0,none⟩) m m else .slice none 0 0):=by simp[Xq2,h]
structure TabAt (B gt m:Nat) (gs:Nat->Nat) (k:Nat) (T:Nat->Nat->Int) (W:World):Prop where
 outer:W.ownsRow B 67 1 (.slice (some ⟨gt,0,none⟩) m m) m (Xq2 m gs k)
 rows:∀ i,i<k->W.ownsRow B 3 1 (.slice (some ⟨gs i,0,none⟩) m m) m (QX2 (QF8 m (T i)))
 inj:∀ i j,i<k->j<k->gs i=gs j->i=j
theorem TabAt.any {B gt m k:Nat} {gs:Nat->Nat} {T:Nat->Nat->Int} {W W':World} (h:TabAt B gt m gs k T W) (hg:W.grownBy W' none):TabAt B gt m gs k T W':=
 ⟨own_any h.outer hg,fun i hi=>own_any (h.rows i hi) hg,h.inj⟩
theorem TabAt.cellO {B gt m k:Nat} {gs:Nat->Nat} {T:Nat->Nat->Int} {W:World} (h:TabAt B gt m gs k T W) (i:Nat) (hi:i<k) (hm:i<m):W.cell? ⟨gt,i,none⟩=some (.slice (some ⟨gs i,0,none⟩) m m):=by
 rw[h.outer.cellAt i (by omega),Qq4 m gs k i hm,if_pos hi]
theorem TabAt.cellR {B gt m k:Nat} {gs:Nat->Nat} {T:Nat->Nat->Int} {W:World} (h:TabAt B gt m gs k T W) (i j:Nat) (hi:i<k) (hj:j<m):W.cell? ⟨gs i,j,none⟩=some (.int .i64 (T i j)):=by
 rw[(h.rows i hi).cellAt j (by omega),QZ1 _ j (by rw[QV1];exact hj),QC8 _ _ _ hj]
theorem TabAt.set {B gt m k:Nat} {gs:Nat->Nat} {T T':Nat->Nat->Int} {W:World} (h:TabAt B gt m gs k T W) (i j:Nat) (x:Int) (hi:i<k) (hT:∀ a b,a<k->b<m->T' a b=if a=i/\b=j then x else T a b):TabAt B gt m gs k T' (W.setCell ⟨gs i,j,none⟩ (.int .i64 x))/\W.grownBy (W.setCell ⟨gs i,j,none⟩ (.int .i64 x)) (some (gs i)):=by
 have hst:=(h.rows i hi).stored j (.int .i64 x)
 rw[QJ1]at hst
 refine⟨⟨h.outer.kept hst.2 (own_ne h.outer (h.rows i hi) (by decide)),fun a ha=>?_,h.inj⟩,hst.2⟩
 by_cases e:a=i
 · subst e
   rw[Qv0 m (T a) (T' a) j x (fun b hb=>by rw[hT a b ha hb];by_cases e:b=j<;>simp[e])]at hst
   exact hst.1
 · have hr:=(h.rows a ha).kept hst.2 (Or.inr (fun q=>e (h.inj a i ha hi (Option.some.inj q))))
   rw[QG8 m (T' a) (T a) (fun b hb=>by rw[hT a b ha hb,if_neg (fun q=>e q.1)])]
   exact hr
theorem TabAt.more {B gt m k g : Nat} {gs : Nat → Nat} {T : Nat → Nat → Int} {W W1 : World} (h : TabAt B gt m gs k T W) (hg : W.grownBy W1 none) (hrow : W1.ownsRow B 3 1 (.slice (some ⟨g, 0, none⟩) m m) m (QX2 (QF8 m (T k)))) (hnew : W.heap.size ≤ g) :
    TabAt B gt m (fun i=>if i=k then g else gs i) (k+1) T (W1.setCell ⟨gt,k,none⟩ (.slice (some ⟨g,0,none⟩) m m))/\W1.grownBy (W1.setCell ⟨gt,k,none⟩ (.slice (some ⟨g,0,none⟩) m m)) (some gt):=by
 have h1:=h.any hg
 have hst:=h1.outer.stored k (.slice (some ⟨g,0,none⟩) m m)
 have hlt:∀ i,i<k->gs i<g:=fun i hi=>by have:=((h.rows i hi).lt (gs i) rfl).2;omega
 refine⟨⟨?_,fun i hi=>?_,fun i j hi hj e=>?_⟩,hst.2⟩
 · have e : (Xq2 m gs k).set k (.slice (some ⟨g, 0, none⟩) m m) = Xq2 m (fun i => if i = k then g else gs i) (k + 1) := by
     apply List.ext_getElem?
     intro j
     by_cases hj:j<m
     · rw[Qq4 _ _ _ _ hj,List.getElem?_set,Qw3]
       by_cases e:k=j
       · subst e;simp[hj]
       · rw[if_neg e,Qq4 _ _ _ _ hj]
         by_cases h2:j<k
         · rw[if_pos h2,if_pos (by omega),if_neg (by omega)]
         · rw[if_neg h2,if_neg (by omega)]
     · rw[List.getElem?_eq_none (by simp[Qw3];omega),List.getElem?_eq_none (by simp[Qw3];omega)]
   rw[<-e]
   exact hst.1
 · by_cases e:i=k
   · subst e
     simp only[if_true]
     exact hrow.kept hst.2 (own_ne hrow h1.outer (by decide))
   · simp only[if_neg e]
     have hr:=h1.rows i (by omega)
     exact hr.kept hst.2 (own_ne hr h1.outer (by decide))
 · have e:(if i=k then g else gs i)=(if j=k then g else gs j):=e
   by_cases e1:i=k
   · by_cases e2:j=k
     · omega
     · rw[if_pos e1,if_neg e2]at e
       have:=hlt j (by omega)
       omega
   · by_cases e2:j=k
     · rw[if_neg e1,if_pos e2]at e
       have:=hlt i (by omega)
       omega
     · rw[if_neg e1,if_neg e2]at e
       exact h.inj i j (by omega) (by omega) e
theorem Zg8 (n:Nat):(madeCells (Value.slice none 0 0).cells (n*1)).toList=Xq2 n (fun _=>0) 0:=by
 have e:(Value.slice none 0 0).cells=#[Value.slice none 0 0]:=rfl
 rw[e,toList_madeCells_one,Nat.mul_one]
 apply List.ext_getElem?
 intro j
 by_cases hj:j<n
 · rw[Qq4 _ _ _ _ hj,if_neg (by omega)];simp[hj]
 · rw[List.getElem?_eq_none (by simp;omega),List.getElem?_eq_none (by simp[Qw3];omega)]
theorem TabAt.congr {B gt m k:Nat} {gs:Nat->Nat} {T T':Nat->Nat->Int} {W:World} (h:TabAt B gt m gs k T W) (e:∀ x y,x<k->y<m->T' x y=T x y):TabAt B gt m gs k T' W:=
 ⟨h.outer,fun i hi=>by rw[QG8 m (T' i) (T i) (fun y hy=>e i y hi hy)];exact h.rows i hi,h.inj⟩
theorem TabAt.low {B B' gt m k:Nat} {gs:Nat->Nat} {T:Nat->Nat->Int} {W:World} (h:TabAt B gt m gs k T W) (hB:B'<=B):TabAt B' gt m gs k T W:=
 ⟨QZ7 h.outer hB,fun i hi=>QZ7 (h.rows i hi) hB,h.inj⟩
end Go.Proofs.YtookanmeflbdlaaGreatDoor
/- Plain mathematics: the walks along a renaming begin each at the lowest of its ring: there are as many as rings. -/
namespace Go.Proofs.YtookanmeflbdlaaGreatDoor
def up0 (f:Nat->Nat) (x:Nat):Nat:=if x=0 then 0 else f x
theorem QZ2 (f:Nat->Nat) {x:Nat} (h:1<=x):up0 f x=f x:=by unfold up0;rw[if_neg (by omega)]
theorem Qk4 {f:Nat->Nat} {n:Nat} (hf:∀ a,1<=a->a<=n->1<=f a/\f a<=n) (hi:∀ a b,1<=a->a<=n->1<=b->b<=n->f a=f b->a=b):Bij (up0 f) (n+1):=by
 refine⟨fun x hx=>?_,fun x y hx hy e=>?_⟩
 · by_cases h:x=0
   · rw[h];exact Nat.succ_pos n
   · rw[QZ2 f (by omega)];have:=hf x (by omega) (by omega);omega
 · by_cases h:x=0
   · by_cases g:y=0
     · omega
     · rw[h,QZ2 f (show 1<=y by omega)]at e
       have:=hf y (by omega) (by omega)
       have e0:up0 f 0=0:=rfl
       omega
   · by_cases g:y=0
     · rw[g,QZ2 f (show 1<=x by omega)]at e
       have:=hf x (by omega) (by omega)
       have e0:up0 f 0=0:=rfl
       omega
     · rw[QZ2 f (show 1<=x by omega),QZ2 f (show 1<=y by omega)]at e
       exact hi x y (by omega) (by omega) (by omega) (by omega) e
theorem ZY7 (f:Nat->Nat):∀ (m:Nat) (seen:List Bool) (x z:Nat) (acc:List Nat),(QK1 f m seen x (z::acc)).1.getD 0 0=z/\(QK1 f m seen x (z::acc)).1≠[]:=by
 intro m
 induction m with
 |zero=>intro seen x z acc;exact⟨rfl,by simp[QK1]⟩
 |succ m ih=>
  intro seen x z acc
  simp only[QK1]
  split
  · exact⟨rfl,by simp⟩
  · exact ih _ _ z (acc++[x])
theorem Zu3 (f:Nat->Nat) (m:Nat) (seen:List Bool) (x:Nat) (h:un seen x=1):(QK1 f (m+1) seen x []).1.getD 0 0=x/\(QK1 f (m+1) seen x []).1≠[]:=by
 have h1:¬ seen.getD x true=true:=fun q=>by unfold un at h;rw[if_pos q]at h;omega
 simp only[QK1]
 rw[if_neg h1]
 exact ZY7 f m _ _ x []
theorem Kv3 {seen:List Bool} {x:Nat} (h:un seen x=0):seen.getD x true=true:=by
 refine Classical.byContradiction fun q=>?_
 unfold un at h
 rw[if_neg q]at h
 omega
theorem Xy6 {f:Nat->Nat} {n a y:Nat} (h1:1<=y) (h2:y<=n):un (QQ9 f n a).2 y=0↔∃ l,l∈(QQ9 f n a).1/\y∈l:=by
 have h:=XK6 f n a y h1 h2
 have hc:1<=(QQ9 f n a).1.flatten.count y↔∃ l,l∈(QQ9 f n a).1/\y∈l:=by rw[List.one_le_count_iff,List.mem_flatten]
 rw[<-hc]
 omega
theorem XU3 {f:Nat->Nat} {n:Nat} (hf:∀ a,1<=a->a<=n->1<=f a/\f a<=n) {x:Nat} (hx:1<=x):¬ Con (eds (up0 f) (n+1)) x 0:=fun hc=>by
 have := hc (fun z => 1 ≤ z) (closed_eds.2 fun i hi => by
  by_cases h:i=0
  · subst h;exact Iff.rfl
  · rw[QZ2 f (by omega)]
    have:=(hf i (by omega) (by omega)).1
    exact⟨fun _=>this,fun _=>by omega⟩) hx
 exact absurd this (by decide)
theorem Xf9 {f:Nat->Nat} {n:Nat} (hf:∀ a,1<=a->a<=n->1<=f a/\f a<=n) (hi:∀ a b,1<=a->a<=n->1<=b->b<=n->f a=f b->a=b) (a:Nat) (ha:a<=n):Closed (eds (up0 f) (n+1)) fun z=>1<=z/\un (QQ9 f n a).2 z=0:=by
 obtain⟨r1,r2,-⟩:=Qq9 hf hi a ha
 refine closed_eds.2 fun i hin=>?_
 by_cases h:i=0
 · subst h;exact Iff.rfl
 · rw[QZ2 f (by omega)]
   have hfi:=hf i (by omega) (by omega)
   constructor
   · rintro⟨h1,h2⟩
     obtain⟨l,hl,hy⟩:=(Xy6 h1 (by omega)).1 h2
     exact⟨hfi.1,(Xy6 hfi.1 hfi.2).2 ⟨l,hl,r1 l hl i hy⟩⟩
   · rintro⟨-,h2⟩
     exact⟨by omega,r2 i (by omega) (by omega) h2⟩
theorem KU4 {f:Nat->Nat} {n:Nat} {l:List Nat} (hm:∀ y,y∈l->1<=y/\y<=n) (hc:∀ i,i+1<l.length->l.getD (i+1) 0=f (l.getD i 0)):∀ i,i<l.length->Con (eds (up0 f) (n+1)) (l.getD 0 0) (l.getD i 0):=by
 intro i
 induction i with
 |zero=>intro _;exact Con.refl _ _
 |succ i ih=>
  intro hi
  have hb:=hm _ (at_mem (l:=l) (i:=i) (by omega))
  have h1:=XD4 (f:=up0 f) (M:=n+1) (x:=l.getD i 0) (by omega)
  rw[QZ2 f hb.1,<-hc i hi]at h1
  exact(ih (by omega)).trans h1
theorem XJ5 {f : Nat → Nat} {n : Nat} (hf : ∀ a, 1 ≤ a → a ≤ n → 1 ≤ f a ∧ f a ≤ n) (hi : ∀ a b, 1 ≤ a → a ≤ n → 1 ≤ b → b ≤ n → f a = f b → a = b) : ∀ a, a ≤ n →
    (∀ l,l∈(QQ9 f n a).1->1<=l.getD 0 0/\l.getD 0 0<=a)/\
    ∀ Q:Nat->Bool,Q 0=false->(QQ9 f n a).1.countP (fun l=>Q (l.getD 0 0))=rq (cyW (up0 f) (n+1)) Q (a+1):=by
 have hB:=Qk4 hf hi
 have hW:=QB7 hB.lt
 intro a
 induction a with
 |zero=>
  intro _
  refine⟨fun l hl=>absurd hl (by simp[QQ9]),fun Q q0=>?_⟩
  simp[QQ9,rq,q0]
 |succ a ih=>
  intro ha
  obtain⟨i1,i2⟩:=ih (by omega)
  have hcl:=Xf9 hf hi a (by omega)
  have hin:=Qk6 hf a (by omega)
  obtain⟨-,-,r3⟩:=Qq9 hf hi a (by omega)
  by_cases hs:un (QQ9 f n a).2 (a+1)=0
  · have e : QQ9 f n (a + 1) = QQ9 f n a := by
      simp only[QQ9]
      rw[Qy2 (Kv3 hs)]
      rfl
    rw[e]
    refine⟨fun l hl=>⟨(i1 l hl).1,by have:=(i1 l hl).2;omega⟩,fun Q q0=>?_⟩
    rw[i2 Q q0]
    have hnr:(cyW (up0 f) (n+1)).getD (a+1) 0≠a+1:=fun q=>by
     obtain⟨l,hl,hy⟩:=(Xy6 (by omega) ha).1 hs
     obtain⟨i,hil,ei⟩:=XF5 hy
     have hc:=KU4 (f:=f) (n:=n) (hin l hl).2.2 (r3 l hl).1 i hil
     rw[ei]at hc
     have:=(hW.2 (a+1) (by omega)).2 _ hc.symm
     have:=(i1 l hl).2
     omega
    show _=rq (cyW (up0 f) (n+1)) Q (a+1)+(if(cyW (up0 f) (n+1)).getD (a+1) 0=a+1/\Q (a+1)=true then 1 else 0)
    rw[if_neg fun q=>hnr q.1]
    rfl
  · have hs1:un (QQ9 f n a).2 (a+1)=1:=by have:=Kk4 (QQ9 f n a).2 (a+1);omega
    obtain⟨hh,hne⟩:=Zu3 f n (QQ9 f n a).2 (a+1) hs1
    have e:(QQ9 f n (a+1)).1=(QQ9 f n a).1++[(QK1 f (n+1) (QQ9 f n a).2 (a+1) []).1]:=by
     simp only[QQ9]
     rw[if_neg hne]
    rw[e]
    refine⟨fun l hl=>?_,fun Q q0=>?_⟩
    · rcases List.mem_append.1 hl with h|h
      · exact⟨(i1 l h).1,by have:=(i1 l h).2;omega⟩
      · rw[List.mem_singleton.1 h,hh];omega
    · have hr : (cyW (up0 f) (n + 1)).getD (a + 1) 0 = a + 1 := by
        refine Classical.byContradiction fun q=>?_
        have hle:=hW.le (v:=a+1) (by omega)
        have hcn:=(hW.2 (a+1) (by omega)).1
        generalize hu:(cyW (up0 f) (n+1)).getD (a+1) 0=u at q hle hcn
        by_cases h0:u=0
        · rw[h0]at hcn
          exact XU3 hf (by omega) hcn
        · have:=hcn.symm _ hcl ⟨by omega,Qd3 f n a u (by omega) (by omega)⟩
          exact hs this.2
      rw[List.countP_append,i2 Q q0]
      show _=rq (cyW (up0 f) (n+1)) Q (a+1)+(if(cyW (up0 f) (n+1)).getD (a+1) 0=a+1/\Q (a+1)=true then 1 else 0)
      rw[List.countP_singleton,hh]
      by_cases hq:Q (a+1)=true
      · rw[if_pos hq,if_pos ⟨hr,hq⟩]
      · rw[if_neg hq,if_neg fun q=>hq q.2]
theorem Zu2 {f:Nat->Nat} {n:Nat} (hf:∀ a,1<=a->a<=n->1<=f a/\f a<=n) (hi:∀ a b,1<=a->a<=n->1<=b->b<=n->f a=f b->a=b) (Q:Nat->Bool) (q0:Q 0=false):(QQ9 f n n).1.countP (fun l=>Q (l.getD 0 0))=cyN (up0 f) (n+1) Q:=(XJ5 hf hi n (Nat.le_refl _)).2 Q q0
end Go.Proofs.YtookanmeflbdlaaGreatDoor
/- Tellings of pieces: plain mathematics; the walk of ref.otherEnd. -/
namespace Go.Proofs.YtookanmeflbdlaaGreatDoor
open Go.RowKit
def nbS (C:List Cr) (k s:Nat):Nat:=enS C ((C.getD k Cr.none).arc s).toNat (!(C.getD k Cr.none).comes s)
theorem XU0 {C : List Cr} {loops : Int} (hm : QQ6 C loops = true) (k s : Nat) (hk : k < C.length) (hs : s < 4) :
    (1<=((C.getD k Cr.none).arc s).toNat/\((C.getD k Cr.none).arc s).toNat<=2*C.length/\(C.getD k Cr.none).arc s=(((C.getD k Cr.none).arc s).toNat:Int))/\
    QG0 C ((C.getD k Cr.none).arc s).toNat (!(C.getD k Cr.none).comes s) C.length=((nbC C k s:Int),(nbS C k s:Int))/\nbC C k s<C.length/\nbS C k s<4:=by
 have hf:=QK9 hm k s hk hs
 have g1:=hf.1
 have g2:=hf.2.1
 have ha:1<=((C.getD k Cr.none).arc s).toNat/\((C.getD k Cr.none).arc s).toNat<=2*C.length:=by omega
 have h:=QV3 hm _ (!(C.getD k Cr.none).comes s) ha.1 ha.2
 exact⟨⟨ha.1,ha.2,by omega⟩,h.1,h.2.1,h.2.2.1⟩
def teS (C:List Cr) (c:Nat) (p:List Nat×List Int) (s:Nat):List Nat×List Int:=
 let o:=if nbC C c s∈p.1 then p.1 else p.1++[nbC C c s]
 (o,p.2++[(o.idxOf (nbC C c s):Int),(nbS C c s:Int)])
def teK (C:List Cr) (i:Nat) (p:List Nat×List Int):Nat->List Nat×List Int
 |0=>(p.1,p.2++[if(C.getD (p.1.getD i 0) Cr.none).plus=true then 1 else 0])
 |k+1=>teS C (p.1.getD i 0) (teK C i p k) k
def teI (C:List Cr) (first:Nat):Nat->List Nat×List Int
 |0=>([first],[])
 |i+1=>if i<(teI C first i).1.length then teK C i (teI C first i) 4 else teI C first i
def te (C:List Cr) (first:Nat):List Nat×List Int:=teI C first C.length
structure TeOk (C:List Cr) (p:List Nat×List Int):Prop where
 lt:∀ x,x∈p.1->x<C.length
 nd:p.1.Nodup
theorem TeOk.few {C:List Cr} {p:List Nat×List Int} (h:TeOk C p):p.1.length<=C.length:=by
 have:=List.Nodup.length_le_of_subset h.nd (l₂:=List.range C.length) (fun x hx=>List.mem_range.2 (h.lt x hx))
 simpa using this
theorem JZ0 {C:List Cr} {loops:Int} (hm:QQ6 C loops=true) {c:Nat} (hc:c<C.length) {p:List Nat×List Int} (h:TeOk C p) {s:Nat} (hs:s<4):TeOk C (teS C c p s):=by
 have hn:=(XU0 hm c s hc hs).2.2.1
 unfold teS
 simp only
 split
 · exact⟨h.lt,h.nd⟩
 · rename_i hno
   refine⟨fun x hx=>?_,?_⟩
   · rcases List.mem_append.1 hx with hx|hx
     · exact h.lt x hx
     · simp only[List.mem_singleton]at hx;omega
   · refine List.nodup_append.2 ⟨h.nd,by simp,fun a ha b hb e=>?_⟩
     simp only[List.mem_singleton]at hb
     rw[e,hb]at ha
     exact hno ha
end Go.Proofs.YtookanmeflbdlaaGreatDoor
/- Which of two tellings is less: the walks of cmp.Compare, slices.Compare and canon.compare. -/
namespace Go.Proofs.YtookanmeflbdlaaGreatDoor
open Go.RowKit
def JF1 (x y:Int):Int:=if x<y then -1 else if y<x then 1 else 0
def JD9:List Int->List Int->Int
 |[],[]=>0
 |[],_::_ => -1
 |_::_,[]=>1
 |x::s,y::t=>if x=y then JD9 s t else JF1 x y
def JU3 (p q:List Nat×List Int):Int:=if p.1.length=q.1.length then JD9 p.2 q.2 else JF1 p.1.length q.1.length
end Go.Proofs.YtookanmeflbdlaaGreatDoor

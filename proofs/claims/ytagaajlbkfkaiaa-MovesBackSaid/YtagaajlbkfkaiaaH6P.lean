/- Several texts of the proof, one behind the other. -/
import Derived.Test.YtagaajlbkfkaiaaBaseP
import Derived.Test.YtagaajlbkfkaiaaEndsP
import Derived.Lib.Hide
/- The walk of drawing.Of. -/
namespace Go.Proofs.Ytagaajlbkfkaiaa
open Go.RowKit
set_option maxHeartbeats 4000000
set_option maxRecDepth 100000
def noDrawing:Value:=.agg #[.slice none 0 0,.int .i64 0,.slice none 0 0,.slice none 0 0]
theorem of_size (v:Value) (C:List Cr) (loops:Int) (w:World) (h:Crs w w.heap.size v C) (hs:sizeB C loops=false):
    Calls Try.prog 50 #[.agg #[v,.int .i64 loops]] w fun e w'=>e=.returned (.tuple #[noDrawing,.bool false])/\Below w.heap.size w w':=by
 obtain⟨a,cap,rfl,hn,_⟩:=h
 have hn':C.length<=9223372036854775807:=hn
 by_cases h1:16<C.length
 · have d1:decide (16<(C.length:Int))=true:=by simp;omega
   have d2:decide (16<C.length)=true:=by simp;omega
   go_enter Try.func50,Try.ntmps50
   go_wp2
   exact bodyPost_ret (v:=.tuple #[noDrawing,.bool false]) (by simp[results,Try.results50,go_sem,noDrawing]) rfl ⟨rfl,below2 _ _ _⟩
 · by_cases h2:loops<0
   · have d2:decide (loops<0)=true:=by simpa using h2
     go_enter Try.func50,Try.ntmps50
     go_wp2
     exact bodyPost_ret (v:=.tuple #[noDrawing,.bool false]) (by simp[results,Try.results50,go_sem,noDrawing]) rfl ⟨rfl,below2 _ _ _⟩
   · by_cases h3:16<loops
     · have d3:decide (16<loops)=true:=by simpa using h3
       go_enter Try.func50,Try.ntmps50
       go_wp2
       exact bodyPost_ret (v:=.tuple #[noDrawing,.bool false]) (by simp[results,Try.results50,go_sem,noDrawing]) rfl ⟨rfl,below2 _ _ _⟩
     · have h4:C.length=0/\loops=0:=by
         simp only[sizeB,Bool.and_eq_false_iff,decide_eq_false_iff_not,Bool.not_eq_false',Bool.and_eq_true,decide_eq_true_eq]at hs
         omega
       obtain⟨h4,rfl⟩:=h4
       rw[h4]
       go_enter Try.func50,Try.ntmps50
       go_wp2
       exact bodyPost_ret (v:=.tuple #[noDrawing,.bool false]) (by simp[results,Try.results50,go_sem,noDrawing]) rfl ⟨rfl,below2 _ _ _⟩
end Go.Proofs.Ytagaajlbkfkaiaa
/- Plain mathematics: overpasses; labels that are merged edge by edge come to the least of what is joined. -/
namespace Go.Proofs.Ytagaajlbkfkaiaa
def mer (W:List Nat) (x y:Nat):List Nat:=W.map fun z=>if z=max (W.getD x 0) (W.getD y 0) then min (W.getD x 0) (W.getD y 0) else z
theorem mer_len (W:List Nat) (x y:Nat):(mer W x y).length=W.length:=by simp[mer]
theorem mer_at (W:List Nat) (x y v:Nat) (hv:v<W.length):(mer W x y).getD v 0=if W.getD v 0=max (W.getD x 0) (W.getD y 0) then min (W.getD x 0) (W.getD y 0) else W.getD v 0:=by
 simp[mer,List.getD_eq_getElem?_getD,hv]
theorem mer_least {F:List (Nat×Nat)} {n:Nat} {W:List Nat} (h:Least F n W) (x y:Nat) (hx:x<n) (hy:y<n) (hF:∀ e,e∈F->e.1<n/\e.2<n):Least (F++[(x,y)]) n (mer W x y):=by
 obtain⟨hl,h2⟩:=h
 have up:∀ {u v:Nat},Con F u v->Con (F++[(x,y)]) u v:=fun hc S hS hu=>hc S (fun e he=>hS e (List.mem_append_left _ he)) hu
 have hxy:Con (F++[(x,y)]) x y:=Con.edge (List.mem_append_right _ (List.Mem.head _))
 have lx:=up (h2 x hx).1
 have ly:=up (h2 y hy).1
 have hWW:Con (F++[(x,y)]) (W.getD x 0) (W.getD y 0):=lx.symm.trans (hxy.trans ly)
 have hmm:Con (F++[(x,y)]) (max (W.getD x 0) (W.getD y 0)) (min (W.getD x 0) (W.getD y 0)):=by
  rcases Nat.le_total (W.getD x 0) (W.getD y 0) with hle|hle
  · rw[Nat.max_eq_right hle,Nat.min_eq_left hle];exact hWW.symm
  · rw[Nat.max_eq_left hle,Nat.min_eq_right hle];exact hWW
 have hcon:∀ v,v<n->Con (F++[(x,y)]) v ((mer W x y).getD v 0):=fun v hv=>by
  rw[mer_at W x y v (by omega)]
  split
  · rename_i he
    have:=up (h2 v hv).1
    rw[he]at this
    exact this.trans hmm
  · exact up (h2 v hv).1
 have hle:∀ v,v<n->(mer W x y).getD v 0<=v:=fun v hv=>by
  have h3:=(h2 v hv).2 v (Con.refl F v)
  rw[mer_at W x y v (by omega)]
  split
  · rename_i he;omega
  · exact h3
 refine⟨by rw[mer_len];exact hl,fun v hv=>⟨hcon v hv,fun u hu=>?_⟩⟩
 have hcl:Closed (F++[(x,y)]) (fun z=>z<n/\(mer W x y).getD z 0=(mer W x y).getD v 0):=fun e he=>by
  rcases List.mem_append.1 he with h4|h4
  · obtain⟨e1,e2⟩:=hF e h4
    have hs:W.getD e.1 0=W.getD e.2 0:=by
     have c:Con F e.1 e.2:=Con.edge (by cases e;exact h4)
     exact Nat.le_antisymm ((h2 _ e1).2 _ (c.trans (h2 _ e2).1)) ((h2 _ e2).2 _ (c.symm.trans (h2 _ e1).1))
    have hm:(mer W x y).getD e.1 0=(mer W x y).getD e.2 0:=by
     rw[mer_at W x y _ (by omega),mer_at W x y _ (by omega),hs]
    show(e.1<n/\(mer W x y).getD e.1 0=_)↔(e.2<n/\(mer W x y).getD e.2 0=_)
    rw[hm];exact⟨fun q=>⟨e2,q.2⟩,fun q=>⟨e1,q.2⟩⟩
  · have:e=(x,y):=by simpa using h4
    subst this
    have hm:(mer W x y).getD x 0=(mer W x y).getD y 0:=by
     rw[mer_at W x y _ (by omega),mer_at W x y _ (by omega)]
     split<;>split<;>omega
    show(x<n/\(mer W x y).getD x 0=_)↔(y<n/\(mer W x y).getD y 0=_)
    rw[hm];exact⟨fun q=>⟨hy,q.2⟩,fun q=>⟨hx,q.2⟩⟩
 obtain⟨a1,a2⟩:=hu _ hcl ⟨hv,rfl⟩
 rw[<-a2]
 exact hle u a1
def mers (W:List Nat):List (Nat×Nat)->List Nat
 |[]=>W
 |e::E=>mers (mer W e.1 e.2) E
theorem mers_app (W:List Nat) (E F:List (Nat×Nat)):mers W (E++F)=mers (mers W E) F:=by
 induction E generalizing W with
 |nil=>rfl
 |cons e E ih=>exact ih _
theorem least_nil (n:Nat):Least [] n (List.range n):=by
 refine⟨by simp,fun v hv=>?_⟩
 have e:(List.range n).getD v 0=v:=by simp[List.getD_eq_getElem?_getD,hv]
 rw[e]
 exact⟨Con.refl _ v,fun u hu=>by
  have:=hu (fun z=>z=v) (fun e he=>by cases he) rfl
  omega⟩
theorem mers_least (n:Nat):∀ (E F:List (Nat×Nat)) (W:List Nat),(∀ e,e∈F++E->e.1<n/\e.2<n)->Least F n W->Least (F++E) n (mers W E):=by
 intro E
 induction E with
 |nil=>intro F W _ h;simpa[mers] using h
 |cons e E ih=>
  intro F W hE h
  obtain⟨e1,e2⟩:=hE e (by simp)
  have h':=mer_least h e.1 e.2 e1 e2 (fun f hf=>hE f (List.mem_append_left _ hf))
  have:=ih (F++[(e.1,e.2)]) _ (fun f hf=>hE f (by simpa using hf)) h'
  simpa[mers] using this
theorem Least.root {E:List (Nat×Nat)} {n:Nat} {W:List Nat} (h:Least E n W) {v:Nat} (hv:v<n):W.getD (W.getD v 0) 0=W.getD v 0:=(h.same (h.lt hv) hv).2 (h.2 v hv).1.symm
theorem Least.le {E:List (Nat×Nat)} {n:Nat} {W:List Nat} (h:Least E n W) {v:Nat} (hv:v<n):W.getD v 0<=v:=(h.2 v hv).2 v (Con.refl E v)
theorem Least.pos {E:List (Nat×Nat)} {n:Nat} {W:List Nat} (h:Least E n W) (hE:∀ e,e∈E->1<=e.1/\1<=e.2) {v:Nat} (hv:v<n) (h1:1<=v):1<=W.getD v 0:=by
 have:=(h.2 v hv).1 (fun z=>1<=z) (fun e he=>by simp[hE e he]) h1
 exact this
end Go.Proofs.Ytagaajlbkfkaiaa
/- Plain mathematics: labels merged place by place. -/
namespace Go.Proofs.Ytagaajlbkfkaiaa
open Go.RowKit
theorem cut_one {T G:Prop} (h:Hid T->G) (hT:T):G:=h hT
def merTo (W:List Nat) (x y k:Nat):List Nat:=(List.range W.length).map fun v=>if v<k then(mer W x y).getD v 0 else W.getD v 0
theorem merTo_len (W:List Nat) (x y k:Nat):(merTo W x y k).length=W.length:=by simp[merTo]
theorem merTo_at (W:List Nat) (x y k v:Nat) (hv:v<W.length):(merTo W x y k).getD v 0=if v<k then(mer W x y).getD v 0 else W.getD v 0:=by simp[merTo,List.getD_eq_getElem?_getD,hv]
theorem getD_ext {l m:List Nat} (h:l.length=m.length) (g:∀ v,v<l.length->l.getD v 0=m.getD v 0):l=m:=by
 refine List.ext_getElem h fun i h1 h2=>?_
 have:=g i h1
 simpa[List.getD_eq_getElem?_getD,h1,h2] using this
theorem merTo_zero (W:List Nat) (x y:Nat):merTo W x y 0=W:=getD_ext (merTo_len _ _ _ _) fun v hv=>by
 rw[merTo_len]at hv;rw[merTo_at _ _ _ _ _ hv,if_neg (by omega)]
theorem merTo_all (W:List Nat) (x y:Nat):merTo W x y W.length=mer W x y:=getD_ext (by rw[merTo_len,mer_len]) fun v hv=>by
 rw[merTo_len]at hv;rw[merTo_at _ _ _ _ _ hv,if_pos hv]
theorem merTo_next (W:List Nat) (x y k z:Nat) (hk:k<W.length) (hz:(mer W x y).getD k 0=z):(merTo W x y k).set k z=merTo W x y (k+1):=getD_ext (by simp[merTo_len]) fun v hv=>by
 have hv':v<W.length:=by simpa[merTo_len] using hv
 rw[getD_set _ _ _ _ (by rw[merTo_len];exact hk),merTo_at _ _ _ _ _ hv',merTo_at _ _ _ _ _ hv']
 by_cases e:v=k
 · subst e;rw[if_pos rfl,if_pos (by omega),hz]
 · rw[if_neg e]
   by_cases h2:v<k
   · rw[if_pos h2,if_pos (by omega)]
   · rw[if_neg h2,if_neg (by omega)]
theorem merTo_same (W:List Nat) (x y k:Nat) (hk:k<W.length) (hz:(mer W x y).getD k 0=W.getD k 0):merTo W x y k=merTo W x y (k+1):=getD_ext (by simp[merTo_len]) fun v hv=>by
 have hv':v<W.length:=by simpa[merTo_len] using hv
 rw[merTo_at _ _ _ _ _ hv',merTo_at _ _ _ _ _ hv']
 by_cases e:v=k
 · subst e;rw[if_neg (by omega),if_pos (by omega),hz]
 · by_cases h2:v<k
   · rw[if_pos h2,if_pos (by omega)]
   · rw[if_neg h2,if_neg (by omega)]
theorem mers_len (E:List (Nat×Nat)):∀ W:List Nat,(mers W E).length=W.length:=by
 induction E with
 |nil=>intro W;rfl
 |cons e E ih=>intro W;rw[mers,ih,mer_len]
end Go.Proofs.Ytagaajlbkfkaiaa
/- Plain mathematics: darts and the faces that they go around; pieces. -/
namespace Go.Proofs.Ytagaajlbkfkaiaa
def enC (C:List Cr) (a:Nat) (p:Bool):Nat:=(endTo C a p C.length).1.toNat
def enS (C:List Cr) (a:Nat) (p:Bool):Nat:=(endTo C a p C.length).2.toNat
theorem en_may {C:List Cr} {loops:Int} (hm:mayD C loops=true) (a:Nat) (p:Bool) (h1:1<=a) (h2:a<=2*C.length):endTo C a p C.length=((enC C a p:Int),(enS C a p:Int))/\enC C a p<C.length/\enS C a p<4/\(C.getD (enC C a p) Cr.none).arc (enS C a p)=(a:Int)/\(C.getD (enC C a p) Cr.none).comes (enS C a p)=p:=by
 obtain⟨i,k,h3,h4,h5,h6,h7⟩:=end_may hm a h1 h2 p
 have e1:enC C a p=i:=by unfold enC;rw[h7];simp
 have e2:enS C a p=k:=by unfold enS;rw[h7];simp
 rw[e1,e2]
 exact⟨h7,h3,h4,h5,h6⟩
def dA (j:Nat):Nat:=(j+1) / 2
def dB (j:Nat):Bool:=decide (j%2=0)
def mkD (a:Nat) (p:Bool):Nat:=if p=true then 2*a else 2*a-1
theorem dA_mk {a:Nat} {p:Bool} (h:1<=a):dA (mkD a p)=a:=by unfold dA mkD;split<;>omega
theorem dB_mk {a:Nat} {p:Bool} (h:1<=a):dB (mkD a p)=p:=by
 unfold dB mkD
 cases p
 · simp;omega
 · simp
theorem mk_d {j:Nat} (h:1<=j):mkD (dA j) (dB j)=j:=by
 unfold mkD dA dB
 split
 · rename_i hd;simp at hd;omega
 · rename_i hd;simp at hd;omega
theorem dA_le {j n:Nat} (h1:1<=j) (h:j<=4*n):1<=dA j/\dA j<=2*n:=by unfold dA;omega
theorem mk_le {a n:Nat} {p:Bool} (h1:1<=a) (h:a<=2*n):1<=mkD a p/\mkD a p<=4*n:=by unfold mkD;split<;>omega
def dC (C:List Cr) (j:Nat):Nat:=enC C (dA j) (!dB j)
def dS (C:List Cr) (j:Nat):Nat:=enS C (dA j) (!dB j)
def fd (C:List Cr) (j:Nat):Nat:=mkD ((C.getD (dC C j) Cr.none).arc ((dS C j+3)%4)).toNat ((C.getD (dC C j) Cr.none).comes ((dS C j+3)%4))
theorem d_may {C:List Cr} {loops:Int} (hm:mayD C loops=true) (j:Nat) (h1:1<=j) (h2:j<=4*C.length):endTo C (dA j) (!dB j) C.length=((dC C j:Int),(dS C j:Int))/\dC C j<C.length/\dS C j<4:=by
 have h:=dA_le h1 h2
 have g:=en_may hm (dA j) (!dB j) h.1 h.2
 exact⟨g.1,g.2.1,g.2.2.1⟩
theorem fd_may {C:List Cr} {loops:Int} (hm:mayD C loops=true) (j:Nat) (h1:1<=j) (h2:j<=4*C.length):(C.getD (dC C j) Cr.none).arc ((dS C j+3)%4)=(dA (fd C j):Int)/\(C.getD (dC C j) Cr.none).comes ((dS C j+3)%4)=dB (fd C j)/\1<=fd C j/\fd C j<=4*C.length:=by
 have g:=d_may hm j h1 h2
 have hf:=may_fit hm (dC C j) ((dS C j+3)%4) g.2.1 (by omega)
 have g1:=hf.1
 have g2:=hf.2.1
 unfold fd
 generalize (C.getD (dC C j) Cr.none).comes ((dS C j+3)%4)=p
 generalize (C.getD (dC C j) Cr.none).arc ((dS C j+3)%4)=x at g1 g2
 have hx:1<=x.toNat/\x.toNat<=2*C.length:=by omega
 rw[dA_mk hx.1,dB_mk hx.1]
 have:=mk_le (p:=p) hx.1 hx.2
 exact⟨by omega,rfl,this.1,this.2⟩
theorem fd_closed {C:List Cr} {loops:Int} (hm:mayD C loops=true):∀ j,1<=j->j<=4*C.length->1<=fd C j/\fd C j<=4*C.length:=fun j h1 h2=>(fd_may hm j h1 h2).2.2
def facesM (C:List Cr):List (List Nat):=(walksTo (fd C) (4*C.length) (4*C.length)).1
def nbC (C:List Cr) (k s:Nat):Nat:=enC C ((C.getD k Cr.none).arc s).toNat (!(C.getD k Cr.none).comes s)
def arcE (C:List Cr):List (Nat×Nat):=(List.range (2*C.length)).map fun i=>(enC C (i+1) true,enC C (i+1) false)
theorem en_one {C:List Cr} {loops:Int} (hm:mayD C loops=true) (k s:Nat) (hk:k<C.length) (hs:s<4):1<=((C.getD k Cr.none).arc s).toNat/\((C.getD k Cr.none).arc s).toNat<=2*C.length/\enC C ((C.getD k Cr.none).arc s).toNat ((C.getD k Cr.none).comes s)=k:=by
 have hf:=may_fit hm k s hk hs
 have g1:=hf.1
 have g2:=hf.2.1
 have ha:1<=((C.getD k Cr.none).arc s).toNat/\((C.getD k Cr.none).arc s).toNat<=2*C.length:=by omega
 refine⟨ha.1,ha.2,?_⟩
 have e:=end_one hm _ ha.1 ha.2 ((C.getD k Cr.none).comes s) k s hk hs (by omega) rfl
 unfold enC
 rw[e]
 rfl
theorem nb_lt {C:List Cr} {loops:Int} (hm:mayD C loops=true) (k s:Nat) (hk:k<C.length) (hs:s<4):nbC C k s<C.length:=by
 have h:=en_one hm k s hk hs
 exact(en_may hm _ _ h.1 h.2.1).2.1
theorem mem_arcE {C:List Cr} {a:Nat} (h1:1<=a) (h2:a<=2*C.length):(enC C a true,enC C a false)∈arcE C:=by
 unfold arcE
 refine List.mem_map.2 ⟨a-1,List.mem_range.2 (by omega),?_⟩
 rw[Nat.sub_add_cancel h1]
theorem nb_con {C:List Cr} {loops:Int} (hm:mayD C loops=true) (k s:Nat) (hk:k<C.length) (hs:s<4):Con (arcE C) k (nbC C k s):=by
 have h:=en_one hm k s hk hs
 have he:=Con.edge (mem_arcE h.1 h.2.1)
 unfold nbC
 cases hc:(C.getD k Cr.none).comes s with
 |true=>
  rw[hc]at h
  rw[h.2.2]at he
  exact he
 |false=>
  rw[hc]at h
  rw[h.2.2]at he
  exact he.symm
theorem edge_nb {C:List Cr} {loops:Int} (hm:mayD C loops=true) (e:Nat×Nat) (he:e∈arcE C):e.1<C.length/\e.2<C.length/\(∃ s,s<4/\nbC C e.1 s=e.2)/\∃ s,s<4/\nbC C e.2 s=e.1:=by
 obtain⟨i,hi,rfl⟩:=List.mem_map.1 he
 have hi':=List.mem_range.1 hi
 have h1:=en_may hm (i+1) true (by omega) (by omega)
 have h2:=en_may hm (i+1) false (by omega) (by omega)
 refine⟨h1.2.1,h2.2.1,⟨enS C (i+1) true,h1.2.2.1,?_⟩,⟨enS C (i+1) false,h2.2.2.1,?_⟩⟩
 · unfold nbC
   rw[h1.2.2.2.1,h1.2.2.2.2]
   rfl
 · unfold nbC
   rw[h2.2.2.2.1,h2.2.2.2.2]
   rfl
theorem arcE_lt {C:List Cr} {loops:Int} (hm:mayD C loops=true):∀ e,e∈arcE C->e.1<C.length/\e.2<C.length:=fun e he=>⟨(edge_nb hm e he).1,(edge_nb hm e he).2.1⟩
structure Spr (C:List Cr) (P0 P:List Int) (f:Nat) (num:Int) (todo:List Nat) (k s:Nat):Prop where
 len:P.length=C.length
 old:∀ v,v<C.length->P0.getD v 0 ≠ -1->P.getD v 0=P0.getD v 0
 new:∀ v,v<C.length->P0.getD v 0 = -1->P.getD v 0 = -1∨(P.getD v 0=num/\Con (arcE C) f v)
 fst:P.getD f 0=num
 tod:∀ v,v∈todo->v<C.length/\Con (arcE C) f v
 proc:∀ v,v<C.length->P.getD v 0=num->v∈todo∨∀ t,t<4->(v=k->t<s)->P.getD (nbC C v t) 0 ≠ -1
theorem getI_set (P:List Int) (i v:Nat) (z:Int) (hi:i<P.length):(P.set i z).getD v 0=if v=i then z else P.getD v 0:=by
 simp only[List.getD_eq_getElem?_getD,List.getElem?_set]
 by_cases h:i=v
 · subst h;simp[hi]
 · simp[h,Ne.symm h]
theorem Spr.start {C:List Cr} {P0:List Int} {f:Nat} {num:Int} (hl:P0.length=C.length) (hf:f<C.length) (h0:P0.getD f 0 = -1) (hn:∀ v,v<C.length->P0.getD v 0≠num):Spr C P0 (P0.set f num) f num [f] 0 4:=by
 have hs:∀ v,(P0.set f num).getD v 0=if v=f then num else P0.getD v 0:=fun v=>getI_set _ _ _ _ (by omega)
 refine⟨by simp[hl],fun v hv h=>?_,fun v hv h=>?_,by rw[hs,if_pos rfl],fun v hv=>?_,fun v hv h=>?_⟩
 · rw[hs,if_neg (fun e=>h (by rw[e,h0]))]
 · rw[hs]
   by_cases e:v=f
   · rw[if_pos e,e];exact Or.inr ⟨rfl,Con.refl _ _⟩
   · rw[if_neg e];exact Or.inl h
 · rw[List.mem_singleton.1 hv];exact⟨hf,Con.refl _ _⟩
 · rw[hs]at h
   by_cases e:v=f
   · exact Or.inl (by rw[e];exact List.mem_singleton.2 rfl)
   · rw[if_neg e]at h
     exact absurd h (hn v hv)
theorem Spr.take {C:List Cr} {P0 P:List Int} {f:Nat} {num:Int} {k:Nat} {todo:List Nat} {k0:Nat} (h:Spr C P0 P f num (k::todo) k0 4):Spr C P0 P f num todo k 0:=by
 refine⟨h.len,h.old,h.new,h.fst,fun v hv=>h.tod v (List.Mem.tail _ hv),fun v hv e=>?_⟩
 by_cases hk:v=k
 · exact Or.inr fun t _ hs=>absurd (hs hk) (Nat.not_lt_zero _)
 · rcases h.proc v hv e with h1|h1
   · rcases List.mem_cons.1 h1 with h2|h2
     · exact absurd h2 hk
     · exact Or.inl h2
   · exact Or.inr fun t ht _=>h1 t ht (fun _=>ht)
theorem Spr.old_side {C:List Cr} {P0 P:List Int} {f:Nat} {num:Int} {k s:Nat} {todo:List Nat} (h:Spr C P0 P f num todo k s) (hn:P.getD (nbC C k s) 0 ≠ -1):Spr C P0 P f num todo k (s+1):=by
 refine⟨h.len,h.old,h.new,h.fst,h.tod,fun v hv e=>?_⟩
 rcases h.proc v hv e with h1|h1
 · exact Or.inl h1
 · refine Or.inr fun t ht hs=>?_
   by_cases hvk:v=k
   · by_cases hts:t=s
     · rw[hvk,hts];exact hn
     · exact h1 t ht (fun e=>by have:=hs e;omega)
   · exact h1 t ht (fun e=>absurd e hvk)
theorem Spr.new_side {C:List Cr} {loops:Int} (hm:mayD C loops=true) {P0 P:List Int} {f:Nat} {num:Int} {k s:Nat} {todo:List Nat} (h:Spr C P0 P f num todo k s) (hnum:num ≠ -1) (hk:k<C.length) (hs:s<4) (hc:Con (arcE C) f k) (hn:P.getD (nbC C k s) 0 = -1):Spr C P0 (P.set (nbC C k s) num) f num (todo++[nbC C k s]) k (s+1):=by
 have hb:=nb_lt hm k s hk hs
 have hcon:=hc.trans (nb_con hm k s hk hs)
 generalize hy:nbC C k s=y at hb hcon hn ⊢
 have hg:∀ v,(P.set y num).getD v 0=if v=y then num else P.getD v 0:=fun v=>getI_set _ _ _ _ (by rw[h.len];exact hb)
 have hne:∀ v,P.getD v 0 ≠ -1->(P.set y num).getD v 0 ≠ -1:=fun v hv=>by
  rw[hg]
  split
  · exact hnum
  · exact hv
 refine⟨by simp[h.len],fun v hv e=>?_,fun v hv e=>?_,?_,fun v hv=>?_,fun v hv e=>?_⟩
 · rw[hg,if_neg (fun e2=>by rw[e2]at e;have:=h.old y hb e;rw[hn]at this;exact e this.symm)]
   exact h.old v hv e
 · rw[hg]
   by_cases e2:v=y
   · rw[if_pos e2,e2];exact Or.inr ⟨rfl,hcon⟩
   · rw[if_neg e2];exact h.new v hv e
 · rw[hg,h.fst];split<;>rfl
 · rcases List.mem_append.1 hv with h1|h1
   · exact h.tod v h1
   · rw[List.mem_singleton.1 h1];exact⟨hb,hcon⟩
 · by_cases e2:v=y
   · exact Or.inl (List.mem_append.2 (Or.inr (List.mem_singleton.2 e2)))
   · rw[hg,if_neg e2]at e
     rcases h.proc v hv e with h1|h1
     · exact Or.inl (List.mem_append.2 (Or.inl h1))
     · refine Or.inr fun t ht hst=>?_
       by_cases hvk:v=k
       · by_cases hts:t=s
         · rw[hvk,hts,hy,hg,if_pos rfl];exact hnum
         · exact hne _ (h1 t ht (fun e=>by have:=hst e;omega))
       · exact hne _ (h1 t ht (fun e=>absurd e hvk))
structure Pcs (C:List Cr) (P:List Int) (c k:Nat):Prop where
 len:P.length=C.length
 few:c<=k
 cl:∀ e,e∈arcE C->P.getD e.1 0=P.getD e.2 0
 vals:∀ v,v<C.length->P.getD v 0 = -1∨(0<=P.getD v 0/\P.getD v 0<(c:Int))
 join:∀ u v,u<C.length->v<C.length->P.getD u 0 ≠ -1->P.getD u 0=P.getD v 0->Con (arcE C) u v
 used:∀ p,p<c->∃ v,v<C.length/\P.getD v 0=(p:Int)
 done:∀ v,v<k->v<C.length->P.getD v 0 ≠ -1
theorem Pcs.start (C:List Cr) (P:List Int) (hP:P=List.replicate C.length (-1)) (hE:∀ e,e∈arcE C->e.1<C.length/\e.2<C.length):Pcs C P 0 0:=by
 have hg:∀ v,v<C.length->P.getD v 0 = -1:=fun v hv=>by rw[hP];simp[List.getD_eq_getElem?_getD,hv]
 exact⟨by rw[hP];simp,Nat.le_refl _,fun e he=>by rw[hg _ (hE e he).1,hg _ (hE e he).2],fun v hv=>Or.inl (hg v hv),fun u v hu _ h _=>absurd (hg u hu) h,fun p hp=>absurd hp (Nat.not_lt_zero _),fun v hv=>absurd hv (Nat.not_lt_zero _)⟩
theorem Pcs.skip {C:List Cr} {P:List Int} {c k:Nat} (h:Pcs C P c k) (hk:P.getD k 0 ≠ -1):Pcs C P c (k+1):=
 ⟨h.len,by have:=h.few;omega,h.cl,h.vals,h.join,h.used,fun v hv hn=>by
  by_cases e:v=k
  · rw[e];exact hk
  · exact h.done v (by omega) hn⟩
theorem Pcs.more {C:List Cr} {loops:Int} (hm:mayD C loops=true) {P0 P:List Int} {c k k1:Nat} (h:Pcs C P0 c k) (hk:k<C.length) (_h0:P0.getD k 0 = -1) (g:Spr C P0 P k c [] k1 4):Pcs C P (c+1) (k+1):=by
 have hc1:((c:Nat):Int) ≠ -1:=by omega
 have hold:∀ v,v<C.length->P.getD v 0=(c:Int)->P0.getD v 0 = -1:=fun v hv e=>Classical.byContradiction fun hne=>by
  have h1:=g.old v hv hne
  rcases h.vals v hv with h2|h2
  · exact hne h2
  · omega
 have hone:∀ u v,u<C.length->v<C.length->P0.getD u 0=P0.getD v 0->(∃ t,t<4/\nbC C u t=v)->(∃ t,t<4/\nbC C v t=u)->P.getD u 0=P.getD v 0:=by
  intro u v hu hv e ⟨t,ht,ht'⟩ ⟨t2,ht2,ht2'⟩
  by_cases h1:P0.getD u 0 = -1
  · have h2:P0.getD v 0 = -1:=by rw[<-e];exact h1
    rcases g.new u hu h1 with a|a
    · rcases g.new v hv h2 with b|b
      · rw[a,b]
      · rcases g.proc v hv b.1 with c1|c1
        · cases c1
        · have:=c1 t2 ht2 (fun _=>ht2)
          rw[ht2']at this
          exact absurd a this
    · rcases g.proc u hu a.1 with c1|c1
      · cases c1
      · have hx:=c1 t ht (fun _=>ht)
        rw[ht']at hx
        rcases g.new v hv h2 with b|b
        · exact absurd b hx
        · rw[a.1,b.1]
  · have h2:P0.getD v 0 ≠ -1:=by rw[<-e];exact h1
    rw[g.old u hu h1,g.old v hv h2,e]
 refine⟨g.len,by have:=h.few;omega,fun e he=>?_,fun v hv=>?_,fun u v hu hv hne e=>?_,fun p hp=>?_,fun v hv hn=>?_⟩
 · obtain⟨a1,a2,a3,a4⟩:=edge_nb hm e he
   exact hone _ _ a1 a2 (h.cl e he) a3 a4
 · by_cases h1:P0.getD v 0 = -1
   · rcases g.new v hv h1 with a|a
     · exact Or.inl a
     · exact Or.inr (by rw[a.1];omega)
   · rw[g.old v hv h1]
     rcases h.vals v hv with a|a
     · exact Or.inl a
     · exact Or.inr (by omega)
 · by_cases h1:P.getD u 0=(c:Int)
   · have hu1:=hold u hu h1
     have hv1:=hold v hv (by rw[<-e];exact h1)
     rcases g.new u hu hu1 with a|a
     · exact absurd a hne
     · rcases g.new v hv hv1 with b|b
       · exact absurd (by rw[e];exact b) hne
       · exact a.2.symm.trans b.2
   · have hu1:P0.getD u 0 ≠ -1:=fun hx=>by
       rcases g.new u hu hx with a|a
       · exact hne a
       · exact h1 a.1
     have hv1:P0.getD v 0 ≠ -1:=fun hx=>by
      rcases g.new v hv hx with a|a
      · exact hne (by rw[e];exact a)
      · exact h1 (by rw[e];exact a.1)
     rw[g.old u hu hu1,g.old v hv hv1]at e
     exact h.join u v hu hv hu1 e
 · by_cases e:p=c
   · exact⟨k,hk,by rw[g.fst,e]⟩
   · obtain⟨v,hv,e2⟩:=h.used p (by omega)
     exact⟨v,hv,by rw[g.old v hv (by rw[e2];omega),e2]⟩
 · by_cases e:v=k
   · rw[e,g.fst];exact hc1
   · have:=h.done v (by omega) hn
     rw[g.old v hn this];exact this
structure PcsAll (C:List Cr) (P:List Int) (c:Nat):Prop where
 len:P.length=C.length
 few:c<=C.length
 vals:∀ v,v<C.length->0<=P.getD v 0/\P.getD v 0<(c:Int)
 same:∀ u v,u<C.length->v<C.length->(P.getD u 0=P.getD v 0↔Con (arcE C) u v)
 used:∀ p,p<c->∃ v,v<C.length/\P.getD v 0=(p:Int)
theorem Pcs.all {C:List Cr} {P:List Int} {c:Nat} (h:Pcs C P c C.length):PcsAll C P c:=by
 refine⟨h.len,h.few,fun v hv=>?_,fun u v hu hv=>⟨fun e=>h.join u v hu hv (h.done u hu hu) e,fun hc=>?_⟩,h.used⟩
 · rcases h.vals v hv with a|a
   · exact absurd a (h.done v hv hv)
   · exact a
 · exact(hc (fun z=>P.getD u 0=P.getD z 0) (fun e he=>by show P.getD u 0=P.getD e.1 0↔P.getD u 0=P.getD e.2 0;rw[h.cl e he]) rfl)
def exI (n:Nat) (G:List Nat) (P:List Int) (p:Nat):Int:=((G.countP fun g=>decide (P.getD g 0=(p:Int)):Nat):Int)-(((List.range n).countP fun v=>decide (P.getD v 0=(p:Int)):Nat):Int)
def exN (n:Nat) (G:List Nat) (W:List Nat) (p:Nat):Int:=((G.countP fun g=>decide (W.getD g 0=p):Nat):Int)-(((List.range n).countP fun v=>decide (W.getD v 0=p):Nat):Int)
theorem ex_same {C:List Cr} {P:List Int} {c:Nat} {W:List Nat} {G:List Nat} (hP:PcsAll C P c) (hW:Least (arcE C) C.length W) (hG:∀ g,g∈G->g<C.length) (v:Nat) (hv:v<C.length) (p:Nat) (hp:P.getD v 0=(p:Int)):exI C.length G P p=exN C.length G W (W.getD v 0):=by
 have key:∀ g,g<C.length->decide (P.getD g 0=(p:Int))=decide (W.getD g 0=W.getD v 0):=fun g hg=>by
  rw[<-hp]
  exact decide_eq_decide.2 ((hP.same g v hg hv).trans (hW.same hg hv).symm)
 unfold exI exN
 rw[List.countP_congr (p:=fun g=>decide (P.getD g 0=(p:Int))) (q:=fun g=>decide (W.getD g 0=W.getD v 0)) (l:=G) (fun g hg=>by rw[key g (hG g hg)]),
  List.countP_congr (p:=fun g=>decide (P.getD g 0=(p:Int))) (q:=fun g=>decide (W.getD g 0=W.getD v 0)) (l:=List.range C.length) (fun g hg=>by rw[key g (List.mem_range.1 hg)])]
theorem sphere_iff {C:List Cr} {P:List Int} {c:Nat} {W:List Nat} {G:List Nat} (hP:PcsAll C P c) (hW:Least (arcE C) C.length W) (hG:∀ g,g∈G->g<C.length):(∀ p,p<c->exI C.length G P p=2)↔∀ p,p<C.length->W.getD p 0=p->exN C.length G W p=2:=by
 constructor
 · intro h p hp e
   have hv:=hP.vals p hp
   have:=ex_same hP hW hG p hp (P.getD p 0).toNat (by omega)
   rw[e]at this
   rw[<-this]
   exact h _ (by omega)
 · intro h p hp
   obtain⟨v,hv,e⟩:=hP.used p hp
   rw[ex_same hP hW hG v hv p e]
   have hw:=hW.lt hv
   exact h _ hw ((hW.same hw hv).2 (hW.2 v hv).1.symm)
end Go.Proofs.Ytagaajlbkfkaiaa
/- A row that is taken from at its head and appended to at its end: in the world, and the step of append upon it. -/
namespace Go.Proofs.Ytagaajlbkfkaiaa
open Go.RowKit
def QueAt (w:World) (base:Nat) (e:TypeId) (v:Value) (xs:List Value):Prop:=
 ∃ g off cap cur,v=.slice (some ⟨g,off,none⟩) xs.length cap/\base<=g/\w.heap[g]?=some (.cells cur e (0,0))/\xs.length<=cap/\cap<=maxLen/\off+cap<=cur.size/\(cur.toList.drop off).take xs.length=xs
theorem QueAt.kept {w w':World} {base:Nat} {e:TypeId} {v:Value} {xs:List Value} {row:Option Nat} (h:QueAt w base e v xs) (hg:w.grownBy w' row) (hne:v.ownBlock≠row):QueAt w' base e v xs:=by
 obtain⟨g,off,cap,cur,rfl,hb,hgg,rest⟩:=h
 refine⟨g,off,cap,cur,rfl,hb,?_,rest⟩
 rw[hg.block g (Array.getElem?_eq_some_iff.1 hgg).1 (by simpa[Value.ownBlock] using hne)]
 exact hgg
theorem QueAt.lt {w:World} {base:Nat} {e:TypeId} {v:Value} {xs:List Value} (h:QueAt w base e v xs):∀ k,v.ownBlock=some k->base<=k/\k<w.heap.size:=by
 intro k hk
 obtain⟨g,off,cap,cur,rfl,hb,hgg,rest⟩:=h
 have e:=Option.some.inj hk
 have e2:g=k:=e
 subst e2
 exact⟨hb,(Array.getElem?_eq_some_iff.1 hgg).1⟩
theorem QueAt.shape {w:World} {base:Nat} {e:TypeId} {v:Value} {xs:List Value} (h:QueAt w base e v xs):∃ g off cap,v=.slice (some ⟨g,off,none⟩) xs.length cap/\xs.length<=cap:=by
 obtain⟨g,off,cap,cur,rfl,_,_,h2,_⟩:=h
 exact⟨g,off,cap,rfl,h2⟩
theorem QueAt.size {w:World} {base g off n cap:Nat} {e:TypeId} {xs:List Value} (h:QueAt w base e (.slice (some ⟨g,off,none⟩) n cap) xs):n=xs.length/\n<=cap/\cap<=maxLen/\base<=g/\g<w.heap.size:=by
 obtain⟨g',off',cap',cur,ev,hb,hgg,h1,h2,_⟩:=h
 injection ev with e1 e2 e3
 injection e1 with e1
 injection e1 with e4 e5
 subst e4 e2 e3
 exact⟨rfl,h1,h2,hb,(Array.getElem?_eq_some_iff.1 hgg).1⟩
theorem QueAt.cell {w:World} {base g off n cap:Nat} {e:TypeId} {xs:List Value} (h:QueAt w base e (.slice (some ⟨g,off,none⟩) n cap) xs) (j:Nat) (u:Value) (hj:xs[j]?=some u):w.cell? ⟨g,off+j,none⟩=some u:=by
 obtain⟨g',off',cap',cur,ev,hb,hgg,h1,h2,h3,h4⟩:=h
 injection ev with e1 e2 e3
 injection e1 with e1
 injection e1 with e4 e5
 subst e4 e5
 rw[cell_of_row w g _ cur e (0,0) hgg]
 rw[<-h4,List.getElem?_take]at hj
 split at hj
 · rw[List.getElem?_drop]at hj
   simpa using hj
 · cases hj
theorem QueAt.tail {w:World} {base g off n cap:Nat} {e:TypeId} {x:Value} {xs:List Value} (h:QueAt w base e (.slice (some ⟨g,off,none⟩) n cap) (x::xs)):QueAt w base e (.slice (some ⟨g,off+1,none⟩) (n-1) (cap-1)) xs:=by
 obtain⟨g',off',cap',cur,ev,hb,hgg,h1,h2,h3,h4⟩:=h
 injection ev with e1 e2 e3
 injection e1 with e1
 injection e1 with e4 e5
 subst e4 e5 e3
 simp only[List.length_cons]at e2 h1 h4
 refine⟨g,off+1,cap-1,cur,by rw[e2];simp,hb,hgg,by omega,by omega,by omega,?_⟩
 have h5:((cur.toList.drop off).take (xs.length+1)).drop 1=xs:=by rw[h4];rfl
 rw[List.drop_take,List.drop_drop]at h5
 simpa using h5
theorem QueAt.tail1 {w:World} {base g off n:Nat} {e:TypeId} {x:Value} {xs:List Value} (h:QueAt w base e (.slice (some ⟨g,off,none⟩) n 1) (x::xs)):QueAt w base e (.slice (some ⟨g,off,none⟩) (n-1) 0) xs/\xs=[]:=by
 obtain⟨g',off',cap',cur,ev,hb,hgg,h1,h2,h3,h4⟩:=h
 injection ev with e1 e2 e3
 injection e1 with e1
 injection e1 with e4 e5
 subst e4 e5 e3
 simp only[List.length_cons]at e2 h1 h4
 have hx:xs=[]:=List.length_eq_zero_iff.1 (by omega)
 subst hx
 exact⟨⟨g,off,0,cur,by rw[e2];simp,hb,hgg,Nat.zero_le _,Nat.zero_le _,by omega,by simp⟩,rfl⟩
theorem QueAt.made {w:World} {base g n cap:Nat} {e:TypeId} {xs:List Value} (h:w.ownsRow base e 1 (.slice (some ⟨g,0,none⟩) n cap) n xs):QueAt w base e (.slice (some ⟨g,0,none⟩) n cap) xs:=by
 obtain⟨hl,h⟩:=h
 rcases h with⟨h,_⟩|⟨g',cap',cur,ev,hb,hgg,h1,h2,h3,h4⟩
 · cases h
 · injection ev with e1 e2 e3
   injection e1 with e1
   injection e1 with e4
   subst e4 e3
   rw[Nat.mul_one]at hl h3 h4
   exact⟨g,0,cap,cur,by rw[hl],hb,hgg,by omega,h2,by omega,by rw[hl];simpa using h4⟩
theorem run_append_que {P:Program} (w:World) (base:Nat) (t ty e:TypeId) (i:TypeInfo) (z:Value) (bytes:Nat) (ht:P.underlying t=some (.slice e)) (hi:P.info? e=some i) (hz:i.zero=some z)
    (hsize:i.size=1) (hby:i.bytes=bytes) (hzs:z.cells.size=1)
    (v:Value) (xs:List Value) (hown:QueAt w base e v xs)
    (a:Addr) (c:Nat) (u:Value) (hnews:w.cell? a=some u) (h1:u.oneCell'=true)
    (h63:xs.length+1<=maxLen) (hbytes:(xs.length+1)*bytes<=140737488355328) (hbase:base<=w.heap.size):
    ∃ v' w',(Builtin.append_ #[t,t] ty #[v,.slice (some a) 1 c]).run P w=.ok v' w'/\QueAt w' base e v' (xs++[u])/\w.grownBy w' v.ownBlock:=by
 subst hby
 have hsmall:xs.length+1<=9223372036854775807:=by simp only[maxLen]at h63;omega
 have hl:[u].length=1*i.size:=by rw[hsize];rfl
 have hcells:∀ j v,[u][j]?=some v->w.cell? (a.add j)=some v:=by
  intro j v hj
  cases j with
  |zero=>
   have e:v=u:=by simpa using hj.symm
   subst e
   have ha:a.add 0=a:=by unfold Addr.add;split<;>simp_all
   rw[ha]
   exact hnews
  |succ j=>simp at hj
 obtain⟨g,off,cap,cur,rfl,hb,hgg,hnc,hcm,hcs,htake⟩:=hown
 by_cases hroom:xs.length+1<=cap
 · have hf:=run_firstCells_some (P:=P) w i.size 1 a 1 c [u] hl hcells
   have hst:=run_storeCells_at P g (off+xs.length) e [u] 0 cur w hgg (by simp;omega) (by simpa using h1)
   simp only[Nat.add_zero]at hst
   refine⟨.slice (some ⟨g,off,none⟩) (xs.length+1) cap,w.setRow g (cur.toList.take (off+xs.length)++[u]++cur.toList.drop (off+xs.length+[u].length)).toArray,?_,⟨g,off,cap,_,by simp,hb,setRow_heap w g cur _ e _ hgg,by simpa using hroom,hcm,?_,?_⟩,⟨rfl,rfl,rfl,by simp,fun k _ hk=>setRow_other w g k _ (fun e=>hk (by simp[Value.ownBlock,e]))⟩⟩
   · rw[hsize]at hf
     simp[Builtin.append_,run_underlying ht,sizeOf,typeInfo,hi,hsize,Builtin.lenOf,hroom,hf,Addr.add_lit]
     simp at hst
     simp[hst]
   · simp only[List.size_toArray,List.length_append,List.length_take,List.length_drop,Array.length_toList,List.length_cons,List.length_nil]
     omega
   · have h5:(cur.toList.take (off+xs.length)).drop off=xs:=by rw[List.drop_take,Nat.add_sub_cancel_left];exact htake
     simp only[List.append_assoc]
     rw[List.drop_append_of_le_length (by simp;omega),h5,<-List.append_assoc]
     exact List.take_left
 · have holds:∀ j v,xs[j]?=some v->w.cell? ((⟨g,off,none⟩:Addr).add j)=some v:=fun j v hj=>by
     have hadd:(⟨g,off,none⟩:Addr).add j=⟨g,off+j,none⟩:=by unfold Addr.add;split<;>simp_all
     rw[hadd]
     exact QueAt.cell (⟨g,off,cap,cur,rfl,hb,hgg,hnc,hcm,hcs,htake⟩:QueAt w base e (.slice (some ⟨g,off,none⟩) xs.length cap) xs) j v hj
   have hr:=run_append_grow (P:=P) w t ty e i z ht hi hz ⟨g,off,none⟩ xs.length cap xs (by rw[hsize,Nat.mul_one]) holds a 1 c [u] hl hcells (by omega) (by omega) (growslice_fits (by omega) hbytes)
   have hge:=grownCap_ge w (xs.length+1) cap e
   refine⟨_,_,hr,⟨w.heap.size,0,_,_,by simp,hbase,heap_alloc_new w.drew _,by simpa using hge,grownCap_le_maxLen w (xs.length+1) cap e h63,?_,?_⟩,⟨rfl,rfl,rfl,by simp,fun k hk _=>Array.getElem?_push_lt hk▸(Array.getElem?_eq_getElem hk).symm⟩⟩
   · simp only[Array.size_append,List.size_toArray,size_zeroCells,hzs,List.length_cons,List.length_nil]
     omega
   · simp only[Array.toList_append,List.drop_zero]
     exact List.take_left
theorem wpList_append_que {P:Program} (w:World) {ops:Array Oper} {rest:List Oper} {o:Oper} {a:Act} {Q:Exit->Act->World->Prop} (hgd:o.guard=none) (s x:Operand) (t:TypeId)
    (ho:o.op=.call { callee:=.builtin .append,args:=#[s,x],argTypes:=#[t,t] })
    (base:Nat) (e:TypeId) (i:TypeInfo) (z:Value) (bytes:Nat) (ht:P.underlying t=some (.slice e)) (hi:P.info? e=some i) (hz:i.zero=some z)
    (hsize:i.size=1) (hby:i.bytes=bytes) (hzs:z.cells.size=1)
    (v:Value) (xs:List Value) (hs:a.eval s=v) (hown:QueAt w base e v xs)
    (ad:Addr) (c:Nat) (u:Value) (hx:a.eval x=.slice (some ad) 1 c) (hnews:w.cell? ad=some u) (h1:u.oneCell'=true)
    (h63:xs.length+1<=maxLen) (hbytes:(xs.length+1)*bytes<=140737488355328) (hbase:base<=w.heap.size)
    (h:∀ v' w',QueAt w' base e v' (xs++[u])->w.grownBy w' v.ownBlock->wpList P ops Q rest (a.put o.dst v') w'):wpList P ops Q (o::rest) a w:=by
 refine wpList_plain hgd fun _ hK=>?_
 obtain⟨v',w',hr,h2,h3⟩:=run_append_que (P:=P) w base t o.type e i z bytes ht hi hz hsize hby hzs v xs hown ad c u hnews h1 h63 hbytes hbase
 unfold Oper.wp execOp
 simp only[ho,resolve,invoke,builtin,Sem.run_bind,Sem.run_pure,Result.andThen_ok,List.map_toArray,List.map_cons,List.map_nil,hs,hx,hr]
 exact hK _ _ (h v' w' h2 h3)
end Go.Proofs.Ytagaajlbkfkaiaa

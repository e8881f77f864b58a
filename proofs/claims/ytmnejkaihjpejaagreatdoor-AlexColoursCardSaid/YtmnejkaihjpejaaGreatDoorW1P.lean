/- Several texts of the proof, one behind the other. -/
import Derived.Test.YtmnejkaihjpejaaGreatDoorBaseP
import Derived.Test.YtmnejkaihjpejaaGreatDoorH7
import Derived.Test.YtmnejkaihjpejaaGreatDoorPMathP
import Derived.Test.YtmnejkaihjpejaaGreatDoorPT4
/- The walk of ref.EndOf. -/
namespace Go.Proofs.YtmnejkaihjpejaaGreatDoor
open Go.RowKit
theorem may_size {C:List Cr} {loops:Int} (hm:mayD C loops=true):sizeB C loops=true:=by
 cases hs:sizeB C loops with
 |true=>rfl
 |false=>rw[mayD_size hs]at hm;cases hm
end Go.Proofs.YtmnejkaihjpejaaGreatDoor
/- Plain mathematics: darts and the faces that they go around; pieces. -/
namespace Go.Proofs.YtmnejkaihjpejaaGreatDoor
def enC (C:List Cr) (a:Nat) (p:Bool):Nat:=(endTo C a p C.length).1.toNat
def enS (C:List Cr) (a:Nat) (p:Bool):Nat:=(endTo C a p C.length).2.toNat
theorem en_may {C:List Cr} {loops:Int} (hm:mayD C loops=true) (a:Nat) (p:Bool) (h1:1<=a) (h2:a<=2*C.length):endTo C a p C.length=((enC C a p:Int),(enS C a p:Int))/\enC C a p<C.length/\enS C a p<4/\(C.getD (enC C a p) Cr.none).arc (enS C a p)=(a:Int)/\(C.getD (enC C a p) Cr.none).comes (enS C a p)=p:=by
 obtain⟨i,k,h3,h4,h5,h6,h7⟩:=end_may hm a h1 h2 p
 have e1:enC C a p=i:=by unfold enC;rw[h7];simp
 have e2:enS C a p=k:=by unfold enS;rw[h7];simp
 rw[e1,e2]
 exact⟨h7,h3,h4,h5,h6⟩
def dA (j:Nat):Nat:=(j+1) / 2
def dB (j:Nat):Bool:=decide (j%2=0)
def mkD (a:Nat) (p:Bool):Nat:=if p=true then 2*a else 2*a-1
theorem dA_mk {a:Nat} {p:Bool} (h:1<=a):dA (mkD a p)=a:=by unfold dA mkD;split<;>omega
theorem dB_mk {a:Nat} {p:Bool} (h:1<=a):dB (mkD a p)=p:=by
 unfold dB mkD
 cases p
 · simp;omega
 · simp
theorem mk_d {j:Nat} (h:1<=j):mkD (dA j) (dB j)=j:=by
 unfold mkD dA dB
 split
 · rename_i hd;simp at hd;omega
 · rename_i hd;simp at hd;omega
theorem dA_le {j n:Nat} (h1:1<=j) (h:j<=4*n):1<=dA j/\dA j<=2*n:=by unfold dA;omega
theorem mk_le {a n:Nat} {p:Bool} (h1:1<=a) (h:a<=2*n):1<=mkD a p/\mkD a p<=4*n:=by unfold mkD;split<;>omega
def dC (C:List Cr) (j:Nat):Nat:=enC C (dA j) (!dB j)
def dS (C:List Cr) (j:Nat):Nat:=enS C (dA j) (!dB j)
def fd (C:List Cr) (j:Nat):Nat:=mkD ((C.getD (dC C j) Cr.none).arc ((dS C j+3)%4)).toNat ((C.getD (dC C j) Cr.none).comes ((dS C j+3)%4))
theorem d_may {C:List Cr} {loops:Int} (hm:mayD C loops=true) (j:Nat) (h1:1<=j) (h2:j<=4*C.length):endTo C (dA j) (!dB j) C.length=((dC C j:Int),(dS C j:Int))/\dC C j<C.length/\dS C j<4:=by
 have h:=dA_le h1 h2
 have g:=en_may hm (dA j) (!dB j) h.1 h.2
 exact⟨g.1,g.2.1,g.2.2.1⟩
theorem fd_may {C:List Cr} {loops:Int} (hm:mayD C loops=true) (j:Nat) (h1:1<=j) (h2:j<=4*C.length):(C.getD (dC C j) Cr.none).arc ((dS C j+3)%4)=(dA (fd C j):Int)/\(C.getD (dC C j) Cr.none).comes ((dS C j+3)%4)=dB (fd C j)/\1<=fd C j/\fd C j<=4*C.length:=by
 have g:=d_may hm j h1 h2
 have hf:=may_fit hm (dC C j) ((dS C j+3)%4) g.2.1 (by omega)
 have g1:=hf.1
 have g2:=hf.2.1
 unfold fd
 generalize (C.getD (dC C j) Cr.none).comes ((dS C j+3)%4)=p
 generalize (C.getD (dC C j) Cr.none).arc ((dS C j+3)%4)=x at g1 g2
 have hx:1<=x.toNat/\x.toNat<=2*C.length:=by omega
 rw[dA_mk hx.1,dB_mk hx.1]
 have:=mk_le (p:=p) hx.1 hx.2
 exact⟨by omega,rfl,this.1,this.2⟩
theorem fd_closed {C:List Cr} {loops:Int} (hm:mayD C loops=true):∀ j,1<=j->j<=4*C.length->1<=fd C j/\fd C j<=4*C.length:=fun j h1 h2=>(fd_may hm j h1 h2).2.2
def facesM (C:List Cr):List (List Nat):=(walksTo (fd C) (4*C.length) (4*C.length)).1
def nbC (C:List Cr) (k s:Nat):Nat:=enC C ((C.getD k Cr.none).arc s).toNat (!(C.getD k Cr.none).comes s)
def arcE (C:List Cr):List (Nat×Nat):=(List.range (2*C.length)).map fun i=>(enC C (i+1) true,enC C (i+1) false)
theorem en_one {C:List Cr} {loops:Int} (hm:mayD C loops=true) (k s:Nat) (hk:k<C.length) (hs:s<4):1<=((C.getD k Cr.none).arc s).toNat/\((C.getD k Cr.none).arc s).toNat<=2*C.length/\enC C ((C.getD k Cr.none).arc s).toNat ((C.getD k Cr.none).comes s)=k:=by
 have hf:=may_fit hm k s hk hs
 have g1:=hf.1
 have g2:=hf.2.1
 have ha:1<=((C.getD k Cr.none).arc s).toNat/\((C.getD k Cr.none).arc s).toNat<=2*C.length:=by omega
 refine⟨ha.1,ha.2,?_⟩
 have e:=end_one hm _ ha.1 ha.2 ((C.getD k Cr.none).comes s) k s hk hs (by omega) rfl
 unfold enC
 rw[e]
 rfl
theorem nb_lt {C:List Cr} {loops:Int} (hm:mayD C loops=true) (k s:Nat) (hk:k<C.length) (hs:s<4):nbC C k s<C.length:=by
 have h:=en_one hm k s hk hs
 exact(en_may hm _ _ h.1 h.2.1).2.1
theorem mem_arcE {C:List Cr} {a:Nat} (h1:1<=a) (h2:a<=2*C.length):(enC C a true,enC C a false)∈arcE C:=by
 unfold arcE
 refine List.mem_map.2 ⟨a-1,List.mem_range.2 (by omega),?_⟩
 rw[Nat.sub_add_cancel h1]
theorem nb_con {C:List Cr} {loops:Int} (hm:mayD C loops=true) (k s:Nat) (hk:k<C.length) (hs:s<4):Con (arcE C) k (nbC C k s):=by
 have h:=en_one hm k s hk hs
 have he:=Con.edge (mem_arcE h.1 h.2.1)
 unfold nbC
 cases hc:(C.getD k Cr.none).comes s with
 |true=>
  rw[hc]at h
  rw[h.2.2]at he
  exact he
 |false=>
  rw[hc]at h
  rw[h.2.2]at he
  exact he.symm
theorem edge_nb {C:List Cr} {loops:Int} (hm:mayD C loops=true) (e:Nat×Nat) (he:e∈arcE C):e.1<C.length/\e.2<C.length/\(∃ s,s<4/\nbC C e.1 s=e.2)/\∃ s,s<4/\nbC C e.2 s=e.1:=by
 obtain⟨i,hi,rfl⟩:=List.mem_map.1 he
 have hi':=List.mem_range.1 hi
 have h1:=en_may hm (i+1) true (by omega) (by omega)
 have h2:=en_may hm (i+1) false (by omega) (by omega)
 refine⟨h1.2.1,h2.2.1,⟨enS C (i+1) true,h1.2.2.1,?_⟩,⟨enS C (i+1) false,h2.2.2.1,?_⟩⟩
 · unfold nbC
   rw[h1.2.2.2.1,h1.2.2.2.2]
   rfl
 · unfold nbC
   rw[h2.2.2.2.1,h2.2.2.2.2]
   rfl
theorem arcE_lt {C:List Cr} {loops:Int} (hm:mayD C loops=true):∀ e,e∈arcE C->e.1<C.length/\e.2<C.length:=fun e he=>⟨(edge_nb hm e he).1,(edge_nb hm e he).2.1⟩
structure Spr (C:List Cr) (P0 P:List Int) (f:Nat) (num:Int) (todo:List Nat) (k s:Nat):Prop where
 len:P.length=C.length
 old:∀ v,v<C.length->P0.getD v 0 ≠ -1->P.getD v 0=P0.getD v 0
 new:∀ v,v<C.length->P0.getD v 0 = -1->P.getD v 0 = -1∨(P.getD v 0=num/\Con (arcE C) f v)
 fst:P.getD f 0=num
 tod:∀ v,v∈todo->v<C.length/\Con (arcE C) f v
 proc:∀ v,v<C.length->P.getD v 0=num->v∈todo∨∀ t,t<4->(v=k->t<s)->P.getD (nbC C v t) 0 ≠ -1
theorem getI_set (P:List Int) (i v:Nat) (z:Int) (hi:i<P.length):(P.set i z).getD v 0=if v=i then z else P.getD v 0:=by
 simp only[List.getD_eq_getElem?_getD,List.getElem?_set]
 by_cases h:i=v
 · subst h;simp[hi]
 · simp[h,Ne.symm h]
theorem Spr.start {C:List Cr} {P0:List Int} {f:Nat} {num:Int} (hl:P0.length=C.length) (hf:f<C.length) (h0:P0.getD f 0 = -1) (hn:∀ v,v<C.length->P0.getD v 0≠num):Spr C P0 (P0.set f num) f num [f] 0 4:=by
 have hs:∀ v,(P0.set f num).getD v 0=if v=f then num else P0.getD v 0:=fun v=>getI_set _ _ _ _ (by omega)
 refine⟨by simp[hl],fun v hv h=>?_,fun v hv h=>?_,by rw[hs,if_pos rfl],fun v hv=>?_,fun v hv h=>?_⟩
 · rw[hs,if_neg (fun e=>h (by rw[e,h0]))]
 · rw[hs]
   by_cases e:v=f
   · rw[if_pos e,e];exact Or.inr ⟨rfl,Con.refl _ _⟩
   · rw[if_neg e];exact Or.inl h
 · rw[List.mem_singleton.1 hv];exact⟨hf,Con.refl _ _⟩
 · rw[hs]at h
   by_cases e:v=f
   · exact Or.inl (by rw[e];exact List.mem_singleton.2 rfl)
   · rw[if_neg e]at h
     exact absurd h (hn v hv)
theorem Spr.take {C:List Cr} {P0 P:List Int} {f:Nat} {num:Int} {k:Nat} {todo:List Nat} {k0:Nat} (h:Spr C P0 P f num (k::todo) k0 4):Spr C P0 P f num todo k 0:=by
 refine⟨h.len,h.old,h.new,h.fst,fun v hv=>h.tod v (List.Mem.tail _ hv),fun v hv e=>?_⟩
 by_cases hk:v=k
 · exact Or.inr fun t _ hs=>absurd (hs hk) (Nat.not_lt_zero _)
 · rcases h.proc v hv e with h1|h1
   · rcases List.mem_cons.1 h1 with h2|h2
     · exact absurd h2 hk
     · exact Or.inl h2
   · exact Or.inr fun t ht _=>h1 t ht (fun _=>ht)
theorem Spr.old_side {C:List Cr} {P0 P:List Int} {f:Nat} {num:Int} {k s:Nat} {todo:List Nat} (h:Spr C P0 P f num todo k s) (hn:P.getD (nbC C k s) 0 ≠ -1):Spr C P0 P f num todo k (s+1):=by
 refine⟨h.len,h.old,h.new,h.fst,h.tod,fun v hv e=>?_⟩
 rcases h.proc v hv e with h1|h1
 · exact Or.inl h1
 · refine Or.inr fun t ht hs=>?_
   by_cases hvk:v=k
   · by_cases hts:t=s
     · rw[hvk,hts];exact hn
     · exact h1 t ht (fun e=>by have:=hs e;omega)
   · exact h1 t ht (fun e=>absurd e hvk)
theorem Spr.new_side {C:List Cr} {loops:Int} (hm:mayD C loops=true) {P0 P:List Int} {f:Nat} {num:Int} {k s:Nat} {todo:List Nat} (h:Spr C P0 P f num todo k s) (hnum:num ≠ -1) (hk:k<C.length) (hs:s<4) (hc:Con (arcE C) f k) (hn:P.getD (nbC C k s) 0 = -1):Spr C P0 (P.set (nbC C k s) num) f num (todo++[nbC C k s]) k (s+1):=by
 have hb:=nb_lt hm k s hk hs
 have hcon:=hc.trans (nb_con hm k s hk hs)
 generalize hy:nbC C k s=y at hb hcon hn ⊢
 have hg:∀ v,(P.set y num).getD v 0=if v=y then num else P.getD v 0:=fun v=>getI_set _ _ _ _ (by rw[h.len];exact hb)
 have hne:∀ v,P.getD v 0 ≠ -1->(P.set y num).getD v 0 ≠ -1:=fun v hv=>by
  rw[hg]
  split
  · exact hnum
  · exact hv
 refine⟨by simp[h.len],fun v hv e=>?_,fun v hv e=>?_,?_,fun v hv=>?_,fun v hv e=>?_⟩
 · rw[hg,if_neg (fun e2=>by rw[e2]at e;have:=h.old y hb e;rw[hn]at this;exact e this.symm)]
   exact h.old v hv e
 · rw[hg]
   by_cases e2:v=y
   · rw[if_pos e2,e2];exact Or.inr ⟨rfl,hcon⟩
   · rw[if_neg e2];exact h.new v hv e
 · rw[hg,h.fst];split<;>rfl
 · rcases List.mem_append.1 hv with h1|h1
   · exact h.tod v h1
   · rw[List.mem_singleton.1 h1];exact⟨hb,hcon⟩
 · by_cases e2:v=y
   · exact Or.inl (List.mem_append.2 (Or.inr (List.mem_singleton.2 e2)))
   · rw[hg,if_neg e2]at e
     rcases h.proc v hv e with h1|h1
     · exact Or.inl (List.mem_append.2 (Or.inl h1))
     · refine Or.inr fun t ht hst=>?_
       by_cases hvk:v=k
       · by_cases hts:t=s
         · rw[hvk,hts,hy,hg,if_pos rfl];exact hnum
         · exact hne _ (h1 t ht (fun e=>by have:=hst e;omega))
       · exact hne _ (h1 t ht (fun e=>absurd e hvk))
structure Pcs (C:List Cr) (P:List Int) (c k:Nat):Prop where
 len:P.length=C.length
 few:c<=k
 cl:∀ e,e∈arcE C->P.getD e.1 0=P.getD e.2 0
 vals:∀ v,v<C.length->P.getD v 0 = -1∨(0<=P.getD v 0/\P.getD v 0<(c:Int))
 join:∀ u v,u<C.length->v<C.length->P.getD u 0 ≠ -1->P.getD u 0=P.getD v 0->Con (arcE C) u v
 used:∀ p,p<c->∃ v,v<C.length/\P.getD v 0=(p:Int)
 done:∀ v,v<k->v<C.length->P.getD v 0 ≠ -1
theorem Pcs.start (C:List Cr) (P:List Int) (hP:P=List.replicate C.length (-1)) (hE:∀ e,e∈arcE C->e.1<C.length/\e.2<C.length):Pcs C P 0 0:=by
 have hg:∀ v,v<C.length->P.getD v 0 = -1:=fun v hv=>by rw[hP];simp[List.getD_eq_getElem?_getD,hv]
 exact⟨by rw[hP];simp,Nat.le_refl _,fun e he=>by rw[hg _ (hE e he).1,hg _ (hE e he).2],fun v hv=>Or.inl (hg v hv),fun u v hu _ h _=>absurd (hg u hu) h,fun p hp=>absurd hp (Nat.not_lt_zero _),fun v hv=>absurd hv (Nat.not_lt_zero _)⟩
theorem Pcs.skip {C:List Cr} {P:List Int} {c k:Nat} (h:Pcs C P c k) (hk:P.getD k 0 ≠ -1):Pcs C P c (k+1):=
 ⟨h.len, by have := h.few; omega, h.cl, h.vals, h.join, h.used, fun v hv hn => by
  by_cases e:v=k
  · rw[e];exact hk
  · exact h.done v (by omega) hn⟩
theorem Pcs.more {C:List Cr} {loops:Int} (hm:mayD C loops=true) {P0 P:List Int} {c k k1:Nat} (h:Pcs C P0 c k) (hk:k<C.length) (_h0:P0.getD k 0 = -1) (g:Spr C P0 P k c [] k1 4):Pcs C P (c+1) (k+1):=by
 have hc1:((c:Nat):Int) ≠ -1:=by omega
 have hold:∀ v,v<C.length->P.getD v 0=(c:Int)->P0.getD v 0 = -1:=fun v hv e=>Classical.byContradiction fun hne=>by
  have h1:=g.old v hv hne
  rcases h.vals v hv with h2|h2
  · exact hne h2
  · omega
 have hone:∀ u v,u<C.length->v<C.length->P0.getD u 0=P0.getD v 0->(∃ t,t<4/\nbC C u t=v)->(∃ t,t<4/\nbC C v t=u)->P.getD u 0=P.getD v 0:=by
  intro u v hu hv e ⟨t,ht,ht'⟩ ⟨t2,ht2,ht2'⟩
  by_cases h1:P0.getD u 0 = -1
  · have h2:P0.getD v 0 = -1:=by rw[<-e];exact h1
    rcases g.new u hu h1 with a|a
    · rcases g.new v hv h2 with b|b
      · rw[a,b]
      · rcases g.proc v hv b.1 with c1|c1
        · cases c1
        · have:=c1 t2 ht2 (fun _=>ht2)
          rw[ht2']at this
          exact absurd a this
    · rcases g.proc u hu a.1 with c1|c1
      · cases c1
      · have hx:=c1 t ht (fun _=>ht)
        rw[ht']at hx
        rcases g.new v hv h2 with b|b
        · exact absurd b hx
        · rw[a.1,b.1]
  · have h2:P0.getD v 0 ≠ -1:=by rw[<-e];exact h1
    rw[g.old u hu h1,g.old v hv h2,e]
 refine⟨g.len,by have:=h.few;omega,fun e he=>?_,fun v hv=>?_,fun u v hu hv hne e=>?_,fun p hp=>?_,fun v hv hn=>?_⟩
 · obtain⟨a1,a2,a3,a4⟩:=edge_nb hm e he
   exact hone _ _ a1 a2 (h.cl e he) a3 a4
 · by_cases h1:P0.getD v 0 = -1
   · rcases g.new v hv h1 with a|a
     · exact Or.inl a
     · exact Or.inr (by rw[a.1];omega)
   · rw[g.old v hv h1]
     rcases h.vals v hv with a|a
     · exact Or.inl a
     · exact Or.inr (by omega)
 · by_cases h1:P.getD u 0=(c:Int)
   · have hu1:=hold u hu h1
     have hv1:=hold v hv (by rw[<-e];exact h1)
     rcases g.new u hu hu1 with a|a
     · exact absurd a hne
     · rcases g.new v hv hv1 with b|b
       · exact absurd (by rw[e];exact b) hne
       · exact a.2.symm.trans b.2
   · have hu1 : P0.getD u 0 ≠ -1 := fun hx => by
       rcases g.new u hu hx with a|a
       · exact hne a
       · exact h1 a.1
     have hv1:P0.getD v 0 ≠ -1:=fun hx=>by
      rcases g.new v hv hx with a|a
      · exact hne (by rw[e];exact a)
      · exact h1 (by rw[e];exact a.1)
     rw[g.old u hu hu1,g.old v hv hv1]at e
     exact h.join u v hu hv hu1 e
 · by_cases e:p=c
   · exact⟨k,hk,by rw[g.fst,e]⟩
   · obtain⟨v,hv,e2⟩:=h.used p (by omega)
     exact⟨v,hv,by rw[g.old v hv (by rw[e2];omega),e2]⟩
 · by_cases e:v=k
   · rw[e,g.fst];exact hc1
   · have:=h.done v (by omega) hn
     rw[g.old v hn this];exact this
structure PcsAll (C:List Cr) (P:List Int) (c:Nat):Prop where
 len:P.length=C.length
 few:c<=C.length
 vals:∀ v,v<C.length->0<=P.getD v 0/\P.getD v 0<(c:Int)
 same:∀ u v,u<C.length->v<C.length->(P.getD u 0=P.getD v 0↔Con (arcE C) u v)
 used:∀ p,p<c->∃ v,v<C.length/\P.getD v 0=(p:Int)
theorem Pcs.all {C:List Cr} {P:List Int} {c:Nat} (h:Pcs C P c C.length):PcsAll C P c:=by
 refine⟨h.len,h.few,fun v hv=>?_,fun u v hu hv=>⟨fun e=>h.join u v hu hv (h.done u hu hu) e,fun hc=>?_⟩,h.used⟩
 · rcases h.vals v hv with a|a
   · exact absurd a (h.done v hv hv)
   · exact a
 · exact(hc (fun z=>P.getD u 0=P.getD z 0) (fun e he=>by show P.getD u 0=P.getD e.1 0↔P.getD u 0=P.getD e.2 0;rw[h.cl e he]) rfl)
def exI (n:Nat) (G:List Nat) (P:List Int) (p:Nat):Int:=((G.countP fun g=>decide (P.getD g 0=(p:Int)):Nat):Int)-(((List.range n).countP fun v=>decide (P.getD v 0=(p:Int)):Nat):Int)
def exN (n:Nat) (G:List Nat) (W:List Nat) (p:Nat):Int:=((G.countP fun g=>decide (W.getD g 0=p):Nat):Int)-(((List.range n).countP fun v=>decide (W.getD v 0=p):Nat):Int)
theorem ex_same {C:List Cr} {P:List Int} {c:Nat} {W:List Nat} {G:List Nat} (hP:PcsAll C P c) (hW:Least (arcE C) C.length W) (hG:∀ g,g∈G->g<C.length) (v:Nat) (hv:v<C.length) (p:Nat) (hp:P.getD v 0=(p:Int)):exI C.length G P p=exN C.length G W (W.getD v 0):=by
 have key:∀ g,g<C.length->decide (P.getD g 0=(p:Int))=decide (W.getD g 0=W.getD v 0):=fun g hg=>by
  rw[<-hp]
  exact decide_eq_decide.2 ((hP.same g v hg hv).trans (hW.same hg hv).symm)
 unfold exI exN
 rw [List.countP_congr (p := fun g => decide (P.getD g 0 = (p : Int))) (q := fun g => decide (W.getD g 0 = W.getD v 0)) (l := G) (fun g hg => by rw [key g (hG g hg)]),
  List.countP_congr (p:=fun g=>decide (P.getD g 0=(p:Int))) (q:=fun g=>decide (W.getD g 0=W.getD v 0)) (l:=List.range C.length) (fun g hg=>by rw[key g (List.mem_range.1 hg)])]
theorem sphere_iff {C:List Cr} {P:List Int} {c:Nat} {W:List Nat} {G:List Nat} (hP:PcsAll C P c) (hW:Least (arcE C) C.length W) (hG:∀ g,g∈G->g<C.length):(∀ p,p<c->exI C.length G P p=2)↔∀ p,p<C.length->W.getD p 0=p->exN C.length G W p=2:=by
 constructor
 · intro h p hp e
   have hv:=hP.vals p hp
   have:=ex_same hP hW hG p hp (P.getD p 0).toNat (by omega)
   rw[e]at this
   rw[<-this]
   exact h _ (by omega)
 · intro h p hp
   obtain⟨v,hv,e⟩:=hP.used p hp
   rw[ex_same hP hW hG v hv p e]
   have hw:=hW.lt hv
   exact h _ hw ((hW.same hw hv).2 (hW.2 v hv).1.symm)
end Go.Proofs.YtmnejkaihjpejaaGreatDoor
/- Lists of numbers that a call owns; the walk of Drawing.Walks. -/
namespace Go.Proofs.YtmnejkaihjpejaaGreatDoor
open Go.RowKit
def nats (l:List Nat):List Value:=l.map fun x=>.int .i64 (x:Nat)
def bools (l:List Bool):List Value:=l.map fun x=>.bool x
theorem nats_len (l:List Nat):(nats l).length=l.length:=by simp[nats]
theorem nats_get (l:List Nat) (i:Nat) (h:i<l.length):(nats l)[i]?=some (.int .i64 (l.getD i 0:Nat)):=by simp[nats,List.getD,h]
theorem nats_app (l:List Nat) (x:Nat):nats (l++[x])=nats l++[.int .i64 (x:Nat)]:=by simp[nats]
def NatsOwn (w:World) (B:Nat) (v:Value) (L:List (List Nat)):Prop:=
 ∃ ys:List Value,ys.length=L.length/\w.ownsRow B 26 1 v ys.length ys/\∀ j,j<L.length->w.ownsRow B 3 1 (ys.getD j (.bool false)) (L.getD j []).length (nats (L.getD j []))
theorem NatsOwn.any {w w':World} {B:Nat} {v:Value} {L:List (List Nat)} (h:NatsOwn w B v L) (hg:w.grownBy w' none):NatsOwn w' B v L:=by
 obtain⟨ys,h1,h2,h3⟩:=h
 exact⟨ys,h1,own_any h2 hg,fun j hj=>own_any (h3 j hj) hg⟩
theorem NatsOwn.low {w:World} {B B':Nat} {v:Value} {L:List (List Nat)} (h:NatsOwn w B v L) (hB:B'<=B):NatsOwn w B' v L:=by
 obtain⟨ys,h1,h2,h3⟩:=h
 exact⟨ys,h1,own_low h2 hB,fun j hj=>own_low (h3 j hj) hB⟩
theorem grown_none {w w':World} {row:Option Nat} (h:w.grownBy w' none):w.grownBy w' row:=⟨h.os,h.tape,h.output,h.size,fun k hk _=>h.block k hk (by simp)⟩
theorem grown_new {W X Y:World} {row r2:Option Nat} (h:W.grownBy X row) (g:X.grownBy Y r2) (hr:∀ k,r2=some k->W.heap.size<=k):W.grownBy Y row:=
 ⟨g.os.trans h.os,g.tape.trans h.tape,g.output.trans h.output,Nat.le_trans h.size g.size,fun k hk hn=>(g.block k (Nat.lt_of_lt_of_le hk h.size) (fun e=>by have:=hr k e.symm;omega)).trans (h.block k hk hn)⟩
def lenOf:Value->Nat
 |.slice _ n _=>n
 |_=>0
theorem infoInt:(Tryz.prog.info? 3).map (fun i=>(i.zero,i.size,i.bytes))=some (some (.int .i64 0),1,8):=by kernel_rfl
theorem infoInts:(Tryz.prog.info? 26).map (fun i=>(i.zero,i.size,i.bytes))=some (some (.slice none 0 0),1,24):=by kernel_rfl
end Go.Proofs.YtmnejkaihjpejaaGreatDoor
/- The walks of ref.DiagramOf and gauss.Strands; rows that are the same. -/
namespace Go.Proofs.YtmnejkaihjpejaaGreatDoor
open Go.RowKit
def CrsW (w:World) (B:Nat) (v:Value) (C:List Cr):Prop:=
 (v=.slice none 0 0/\C=[])∨(∃ ad cap,v=.slice (some ad) 0 cap/\C=[])∨∃ b off cap,v=.slice (some ⟨b,off,none⟩) C.length cap/\b<B/\CrossAt w b off C
theorem CrsW.crs {w:World} {B:Nat} {v:Value} {C:List Cr} (h:CrsW w B v C) (hn:C.length<=maxLen):Crs w B v C:=by
 rcases h with⟨rfl,rfl⟩|⟨ad,cap,rfl,rfl⟩|⟨b,off,cap,rfl,hlt,hC⟩
 · exact⟨none,0,rfl,hn,fun hp=>by simp at hp⟩
 · exact⟨some ad,cap,rfl,hn,fun hp=>by simp at hp⟩
 · exact⟨some ⟨b,off,none⟩,cap,rfl,hn,fun _=>⟨b,off,rfl,hlt,hC⟩⟩
theorem CrsW.up {w w':World} {v:Value} {C:List Cr} (h:CrsW w w.heap.size v C) (hb:Below w.heap.size w w'):CrsW w' w'.heap.size v C:=by
 rcases h with h|h|⟨b,off,cap,hv,hlt,hC⟩
 · exact Or.inl h
 · exact Or.inr (Or.inl h)
 · exact Or.inr (Or.inr ⟨b,off,cap,hv,Nat.lt_of_lt_of_le hlt hb.size,hC.on hb hlt⟩)
theorem own_terms {w:World} {B e n g c:Nat} {l:List (Int×Int)} (h:w.ownsRow B e 2 (.slice (some ⟨g,0,none⟩) n c) n (flat l)) (hl:l.length=n):TermsAt w g 0 l:=by
 intro i hi
 have g0:=flat_get l i hi
 rw[Nat.zero_add]
 exact⟨(h.cellAt (i*2) (by omega)).trans g0.1,(h.cellAt (i*2+1) (by omega)).trans g0.2⟩
theorem Drawn.dr {w w' : World} {a : Option Addr} {cap : Nat} {loops : Int} {C : List Cr} {D : Value} (h : Drawn w w' w.heap.size (.slice a C.length cap) loops C D) (hm : mayD C loops = true) (hb : Below w.heap.size w w') (hC : Crs w w.heap.size (.slice a C.length cap) C) :
    ∃ gF cF gT cT,D=drV a cap C loops gF cF gT cT/\Dr w' a cap C gF gT:=by
 obtain⟨gF,cF,gT,cT,rfl,h1,h2⟩:=h.yes hm
 exact⟨gF,cF,gT,cT,rfl,hC.up hb,(h1.lt gF rfl).2,(h2.lt gT rfl).2,own_terms h1 (ends_length _ _ _ _),own_terms h2 (ends_length _ _ _ _)⟩
end Go.Proofs.YtmnejkaihjpejaaGreatDoor
/- Plain mathematics: overpasses; labels that are merged edge by edge come to the least of what is joined. -/
namespace Go.Proofs.YtmnejkaihjpejaaGreatDoor
def mer (W:List Nat) (x y:Nat):List Nat:=W.map fun z=>if z=max (W.getD x 0) (W.getD y 0) then min (W.getD x 0) (W.getD y 0) else z
theorem mer_len (W:List Nat) (x y:Nat):(mer W x y).length=W.length:=by simp[mer]
theorem mer_at (W:List Nat) (x y v:Nat) (hv:v<W.length):(mer W x y).getD v 0=if W.getD v 0=max (W.getD x 0) (W.getD y 0) then min (W.getD x 0) (W.getD y 0) else W.getD v 0:=by
 simp[mer,List.getD_eq_getElem?_getD,hv]
theorem mer_least {F:List (Nat×Nat)} {n:Nat} {W:List Nat} (h:Least F n W) (x y:Nat) (hx:x<n) (hy:y<n) (hF:∀ e,e∈F->e.1<n/\e.2<n):Least (F++[(x,y)]) n (mer W x y):=by
 obtain⟨hl,h2⟩:=h
 have up:∀ {u v:Nat},Con F u v->Con (F++[(x,y)]) u v:=fun hc S hS hu=>hc S (fun e he=>hS e (List.mem_append_left _ he)) hu
 have hxy:Con (F++[(x,y)]) x y:=Con.edge (List.mem_append_right _ (List.Mem.head _))
 have lx:=up (h2 x hx).1
 have ly:=up (h2 y hy).1
 have hWW:Con (F++[(x,y)]) (W.getD x 0) (W.getD y 0):=lx.symm.trans (hxy.trans ly)
 have hmm:Con (F++[(x,y)]) (max (W.getD x 0) (W.getD y 0)) (min (W.getD x 0) (W.getD y 0)):=by
  rcases Nat.le_total (W.getD x 0) (W.getD y 0) with hle|hle
  · rw[Nat.max_eq_right hle,Nat.min_eq_left hle];exact hWW.symm
  · rw[Nat.max_eq_left hle,Nat.min_eq_right hle];exact hWW
 have hcon:∀ v,v<n->Con (F++[(x,y)]) v ((mer W x y).getD v 0):=fun v hv=>by
  rw[mer_at W x y v (by omega)]
  split
  · rename_i he
    have:=up (h2 v hv).1
    rw[he]at this
    exact this.trans hmm
  · exact up (h2 v hv).1
 have hle:∀ v,v<n->(mer W x y).getD v 0<=v:=fun v hv=>by
  have h3:=(h2 v hv).2 v (Con.refl F v)
  rw[mer_at W x y v (by omega)]
  split
  · rename_i he;omega
  · exact h3
 refine⟨by rw[mer_len];exact hl,fun v hv=>⟨hcon v hv,fun u hu=>?_⟩⟩
 have hcl:Closed (F++[(x,y)]) (fun z=>z<n/\(mer W x y).getD z 0=(mer W x y).getD v 0):=fun e he=>by
  rcases List.mem_append.1 he with h4|h4
  · obtain⟨e1,e2⟩:=hF e h4
    have hs:W.getD e.1 0=W.getD e.2 0:=by
     have c:Con F e.1 e.2:=Con.edge (by cases e;exact h4)
     exact Nat.le_antisymm ((h2 _ e1).2 _ (c.trans (h2 _ e2).1)) ((h2 _ e2).2 _ (c.symm.trans (h2 _ e1).1))
    have hm:(mer W x y).getD e.1 0=(mer W x y).getD e.2 0:=by
     rw[mer_at W x y _ (by omega),mer_at W x y _ (by omega),hs]
    show(e.1<n/\(mer W x y).getD e.1 0=_)↔(e.2<n/\(mer W x y).getD e.2 0=_)
    rw[hm];exact⟨fun q=>⟨e2,q.2⟩,fun q=>⟨e1,q.2⟩⟩
  · have:e=(x,y):=by simpa using h4
    subst this
    have hm:(mer W x y).getD x 0=(mer W x y).getD y 0:=by
     rw[mer_at W x y _ (by omega),mer_at W x y _ (by omega)]
     split<;>split<;>omega
    show(x<n/\(mer W x y).getD x 0=_)↔(y<n/\(mer W x y).getD y 0=_)
    rw[hm];exact⟨fun q=>⟨hy,q.2⟩,fun q=>⟨hx,q.2⟩⟩
 obtain⟨a1,a2⟩:=hu _ hcl ⟨hv,rfl⟩
 rw[<-a2]
 exact hle u a1
def mers (W:List Nat):List (Nat×Nat)->List Nat
 |[]=>W
 |e::E=>mers (mer W e.1 e.2) E
theorem mers_app (W:List Nat) (E F:List (Nat×Nat)):mers W (E++F)=mers (mers W E) F:=by
 induction E generalizing W with
 |nil=>rfl
 |cons e E ih=>exact ih _
theorem least_nil (n:Nat):Least [] n (List.range n):=by
 refine⟨by simp,fun v hv=>?_⟩
 have e:(List.range n).getD v 0=v:=by simp[List.getD_eq_getElem?_getD,hv]
 rw[e]
 exact ⟨Con.refl _ v, fun u hu => by
  have:=hu (fun z=>z=v) (fun e he=>by cases he) rfl
  omega⟩
theorem mers_least (n:Nat):∀ (E F:List (Nat×Nat)) (W:List Nat),(∀ e,e∈F++E->e.1<n/\e.2<n)->Least F n W->Least (F++E) n (mers W E):=by
 intro E
 induction E with
 |nil=>intro F W _ h;simpa[mers] using h
 |cons e E ih=>
  intro F W hE h
  obtain⟨e1,e2⟩:=hE e (by simp)
  have h':=mer_least h e.1 e.2 e1 e2 (fun f hf=>hE f (List.mem_append_left _ hf))
  have:=ih (F++[(e.1,e.2)]) _ (fun f hf=>hE f (by simpa using hf)) h'
  simpa[mers] using this
def ovE (C:List Cr):List (Nat×Nat):=C.map fun c=>(c.b.toNat,c.d.toNat)
def lowM (C:List Cr):List Nat:=mers (List.range (2*C.length+1)) (ovE C)
def rootsN (L:List Nat):Nat->Nat
 |0=>0
 |k+1=>rootsN L k+(if 1<=k/\L.getD k 0=k then 1 else 0)
def ovM (C:List Cr) (a:Nat):Nat:=rootsN (lowM C) ((lowM C).getD a 0)
def ovC (C:List Cr):Nat:=rootsN (lowM C) (2*C.length+1)
theorem rootsN_mono (L:List Nat) (i j:Nat) (h:i<=j):rootsN L i<=rootsN L j:=by
 induction j with
 | zero => obtain rfl : i = 0 := by omega
           exact Nat.le_refl _
 |succ j ih=>
  rcases Nat.lt_or_ge j i with h1|h1
  · obtain rfl:i=j+1:=by omega
    exact Nat.le_refl _
  · exact Nat.le_trans (ih h1) (by simp[rootsN])
theorem rootsN_le (L:List Nat) (i:Nat):rootsN L i<=i:=by
 induction i with
 |zero=>exact Nat.le_refl _
 |succ i ih=>simp only[rootsN];split<;>omega
theorem ovE_in {C:List Cr} {loops:Int} (hm:mayD C loops=true):∀ e,e∈ovE C->(1<=e.1/\e.1<2*C.length+1)/\(1<=e.2/\e.2<2*C.length+1):=fun e he=>by
 obtain⟨c,hc,rfl⟩:=List.mem_map.1 he
 obtain⟨i,hi,rfl⟩:=List.getElem_of_mem hc
 have h1:=may_fit hm i 1 hi (by omega)
 have h3:=may_fit hm i 3 hi (by omega)
 have e:C.getD i Cr.none=C[i]:=by simp[List.getD_eq_getElem?_getD,hi]
 have a1:(C.getD i Cr.none).arc 1=C[i].b:=by rw[e];rfl
 have a3:(C.getD i Cr.none).arc 3=C[i].d:=by rw[e];rfl
 have g1:=h1.1
 have g2:=h1.2.1
 have g3:=h3.1
 have g4:=h3.2.1
 rw[a1]at g1 g2
 rw[a3]at g3 g4
 refine⟨⟨?_,?_⟩,?_,?_⟩<;>dsimp only<;>omega
theorem ovE_lt {C:List Cr} {loops:Int} (hm:mayD C loops=true):∀ e,e∈ovE C->e.1<2*C.length+1/\e.2<2*C.length+1:=fun e he=>⟨(ovE_in hm e he).1.2,(ovE_in hm e he).2.2⟩
theorem lowM_least {C:List Cr} (hE:∀ e,e∈ovE C->e.1<2*C.length+1/\e.2<2*C.length+1):Least (ovE C) (2*C.length+1) (lowM C):=by
 have:=mers_least (2*C.length+1) (ovE C) [] (List.range (2*C.length+1)) (fun e he=>hE e (by simpa using he)) (least_nil _)
 simpa[lowM] using this
theorem Least.root {E:List (Nat×Nat)} {n:Nat} {W:List Nat} (h:Least E n W) {v:Nat} (hv:v<n):W.getD (W.getD v 0) 0=W.getD v 0:=(h.same (h.lt hv) hv).2 (h.2 v hv).1.symm
theorem Least.le {E:List (Nat×Nat)} {n:Nat} {W:List Nat} (h:Least E n W) {v:Nat} (hv:v<n):W.getD v 0<=v:=(h.2 v hv).2 v (Con.refl E v)
theorem Least.pos {E:List (Nat×Nat)} {n:Nat} {W:List Nat} (h:Least E n W) (hE:∀ e,e∈E->1<=e.1/\1<=e.2) {v:Nat} (hv:v<n) (h1:1<=v):1<=W.getD v 0:=by
 have:=(h.2 v hv).1 (fun z=>1<=z) (fun e he=>by simp[hE e he]) h1
 exact this
end Go.Proofs.YtmnejkaihjpejaaGreatDoor
/- Plain mathematics of Alexander's table: polynomials of two terms, and the places of a row. -/
namespace Go.Proofs.YtmnejkaihjpejaaGreatDoor
open Go.RowKit
def aPol (x y:Int):List (Int×Int):=(if x=0 then [] else [(0,x)])++(if y=0 then [] else [(1,y)])
def aFun (x y:Int) (e:Int):Int:=if e=0 then x else if e=1 then y else 0
theorem canon_aPol (x y:Int):Poly.Canon (aPol x y) (aFun x y):=by
 unfold aPol
 constructor
 · by_cases hx:x=0<;>by_cases hy:y=0<;>simp[hx,hy]
 · intro e c
   by_cases hx:x=0<;>by_cases hy:y=0<;>by_cases h0:e=0<;>by_cases h1:e=1<;>simp[aFun,hx,hy,h0,h1]<;>omega
theorem aPol_len (x y:Int):(aPol x y).length<=2:=by
 unfold aPol
 by_cases hx:x=0<;>by_cases hy:y=0<;>simp[hx,hy]
theorem aPol_may (x y:Int) (hx : -100<=x/\x<=100) (hy : -100<=y/\y<=100):Poly.mayB (aPol x y)=true:=by
 refine(Poly.may_iff _).2 ⟨Nat.le_trans (aPol_len x y) (by decide),fun i hi=>?_⟩
 rw[Poly.okB_iff]
 unfold aPol at hi ⊢
 by_cases h0:x=0<;>by_cases h1:y=0<;>simp only[h0,h1,if_true,if_false,List.nil_append,List.append_nil,List.length_nil,List.length_cons,List.singleton_append]at hi ⊢
 · omega
 · obtain rfl:i=0:=by omega
   simp
   omega
 · obtain rfl:i=0:=by omega
   simp
   omega
 · have:i=0∨i=1:=by omega
   rcases this with rfl|rfl<;>simp<;>omega
theorem coef_aPol (x y e:Int):Poly.coefL (aPol x y) e=aFun x y e:=by
 unfold aPol aFun
 by_cases hx:x=0<;>by_cases hy:y=0<;>by_cases h0:e=0<;>by_cases h1:e=1<;>simp[Poly.coefL,hx,hy,h0,h1]<;>omega
theorem aFun_add (x y dx dy e:Int):aFun x y e+aFun dx dy e=aFun (x+dx) (y+dy) e:=by
 unfold aFun
 by_cases h0:e=0
 · simp[h0]
 · by_cases h1:e=1
   · simp[h1]
   · simp[h0,h1]
theorem aPol_sum {r:List (Int×Int)} {x y dx dy:Int} (h:Poly.Canon r (fun e=>Poly.coefL (aPol x y) e+Poly.coefL (aPol dx dy) e)):r=aPol (x+dx) (y+dy):=
 Poly.canon_unique (Poly.canon_congr h fun e=>by rw[coef_aPol,coef_aPol,aFun_add]) (canon_aPol _ _)
def addFa (F:Nat->Int×Int) (p:Nat) (dx dy:Int):Nat->Int×Int:=fun j=>if j=p then((F j).1+dx,(F j).2+dy) else F j
def zeroF:Nat->Int×Int:=fun _=>(0,0)
def rowF (o i v:Nat):Nat->Int×Int:=addFa (addFa (addFa zeroF o 1 0) i 0 (-1)) v (-1) 1
def inC (C:List Cr) (c:Cr):Nat:=if c.plus=true then ovM C c.a.toNat else ovM C c.c.toNat
def outC' (C:List Cr) (c:Cr):Nat:=if c.plus=true then ovM C c.c.toNat else ovM C c.a.toNat
def alF (C:List Cr) (k:Nat):Nat->Int×Int:=rowF (outC' C (C.getD k Cr.none)) (inC C (C.getD k Cr.none)) (ovM C (C.getD k Cr.none).b.toNat)
def smallF (F:Nat->Int×Int) (b:Int):Prop:=∀ j,-b<=(F j).1/\(F j).1<=b /\ -b<=(F j).2/\(F j).2<=b
theorem small_zero:smallF zeroF 0:=fun _=>by simp[zeroF]
theorem small_add {F:Nat->Int×Int} {b:Int} (h:smallF F b) (p:Nat) {dx dy:Int} (hx : -1<=dx/\dx<=1) (hy : -1<=dy/\dy<=1):smallF (addFa F p dx dy) (b+1):=fun j=>by
 have:=h j
 unfold addFa
 by_cases e:j=p
 · rw[if_pos e];simp only;omega
 · rw[if_neg e];omega
def valsL (m:Nat) (f:Nat->Value):List Value:=(List.range m).map f
theorem valsL_len (m:Nat) (f:Nat->Value):(valsL m f).length=m:=by simp[valsL]
theorem valsL_get (m:Nat) (f:Nat->Value) (i:Nat) (h:i<m):(valsL m f)[i]?=some (f i):=by simp[valsL,h]
theorem valsL_set (m:Nat) (f g:Nat->Value) (i:Nat) (x:Value) (h:∀ j,j<m->g j=if j=i then x else f j):(valsL m f).set i x=valsL m g:=by
 apply List.ext_getElem?
 intro j
 by_cases hj:j<m
 · rw[valsL_get m g j hj,h j hj,List.getElem?_set]
   by_cases e:i=j
   · subst e;simp[valsL_len,hj]
   · rw[if_neg e,if_neg (fun h=>e h.symm),valsL_get m f j hj]
 · rw[List.getElem?_eq_none (by simp[valsL_len];omega),List.getElem?_eq_none (by simp[valsL_len];omega)]
theorem made_nilsV (n:Nat):(madeCells (Value.slice none 0 0).cells (n*1)).toList=valsL n fun _=>.slice none 0 0:=by
 have e:(Value.slice none 0 0).cells=#[Value.slice none 0 0]:=rfl
 rw[e,toList_madeCells_one,Nat.mul_one]
 apply List.ext_getElem?
 intro j
 by_cases hj:j<n
 · rw[valsL_get _ _ _ hj];simp[hj]
 · rw[List.getElem?_eq_none (by simp;omega),List.getElem?_eq_none (by simp[valsL_len];omega)]
structure PlcAt (B m g:Nat) (vals:Nat->Value) (F:Nat->Int×Int) (wr:World):Prop where
 row:wr.ownsRow B 36 1 (.slice (some ⟨g,0,none⟩) m m) m (valsL m vals)
 each:∀ j,j<m->wr.ownsRow B 63 2 (vals j) (aPol (F j).1 (F j).2).length (Poly.flat (aPol (F j).1 (F j).2))
theorem PlcAt.any {B m g:Nat} {vals:Nat->Value} {F:Nat->Int×Int} {w w':World} (h:PlcAt B m g vals F w) (hg:w.grownBy w' none):PlcAt B m g vals F w':=⟨own_any h.row hg,fun j hj=>own_any (h.each j hj) hg⟩
theorem PlcAt.set {B m g : Nat} {vals : Nat → Value} {F : Nat → Int × Int} {w w' : World} (h : PlcAt B m g vals F w) (hb : Below w.heap.size w w') (hB : B ≤ w.heap.size) (p : Nat) (dx dy : Int) (v : Value)
    (hv:w'.ownsRow w.heap.size 63 2 v (aPol ((F p).1+dx) ((F p).2+dy)).length (Poly.flat (aPol ((F p).1+dx) ((F p).2+dy)))):PlcAt B m g (fun j=>if j=p then v else vals j) (addFa F p dx dy) (w'.setCell ⟨g,p,none⟩ v):=by
 have h1:=h.any (grown_below hb none)
 have hst:=h1.row.stored p v
 refine⟨?_,fun j hj=>?_⟩
 · rw[<-valsL_set m vals _ p v fun j _=>rfl]
   exact hst.1
 · unfold addFa
   by_cases e:j=p
   · rw[if_pos e,if_pos e,e]
     exact(own_low hv hB).kept hst.2 (own_ne (own_low hv hB) h1.row (by decide))
   · rw[if_neg e,if_neg e]
     exact(h1.each j hj).kept hst.2 (own_ne (h1.each j hj) h1.row (by decide))
end Go.Proofs.YtmnejkaihjpejaaGreatDoor
/- Plain mathematics: in how many ways variables are coloured so that something holds. -/
namespace Go.Proofs.YtmnejkaihjpejaaGreatDoor
def upd (f:Nat->Nat) (v c:Nat):Nat->Nat:=fun x=>if x=v then c else f x
theorem upd_same (f:Nat->Nat) (v c:Nat):upd f v c v=c:=by simp[upd]
theorem upd_ne (f:Nat->Nat) (v c x:Nat) (h:x≠v):upd f v c x=f x:=by simp[upd,h]
def Ext (n:Nat) (vs:List Nat) (f g:Nat->Nat):Prop:=(∀ x,x ∉ vs->g x=f x)/\∀ x,x∈vs->g x<n
theorem Ext.cons {n v c:Nat} {vs:List Nat} {f g:Nat->Nat} (hc:c<n) (hv:v ∉ vs) (h:Ext n vs (upd f v c) g):Ext n (v::vs) f g/\g v=c:=by
 have e:g v=c:=by rw[h.1 v hv,upd_same]
 refine⟨⟨fun x hx=>?_,fun x hx=>?_⟩,e⟩
 · have h1:x≠v:=fun q=>hx (by rw[q];exact List.Mem.head _)
   have h2:x ∉ vs:=fun q=>hx (List.Mem.tail _ q)
   rw[h.1 x h2,upd_ne _ _ _ _ h1]
 · by_cases q:x=v
   · rw[q,e];exact hc
   · exact h.2 x (by rcases List.mem_cons.1 hx with h1 | h1
                     · exact absurd h1 q
                     · exact h1)
end Go.Proofs.YtmnejkaihjpejaaGreatDoor

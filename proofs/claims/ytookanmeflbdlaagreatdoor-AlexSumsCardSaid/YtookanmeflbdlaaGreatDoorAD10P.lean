/- Several texts of the proof, one behind the other. -/
import Derived.Test.YtookanmeflbdlaaGreatDoorAD4P
import Derived.Test.YtookanmeflbdlaaGreatDoorAL0P
import Derived.Test.YtookanmeflbdlaaGreatDoorPB4P
/- The minors of a table by sets of columns, and their bounds. Plain mathematics: no program is named here. -/
namespace Go.Proofs.YtookanmeflbdlaaGreatDoor.Poly
def rowAt (T:List (List (List (Int×Int)))) (k:Nat) (c:Nat):List (Int×Int):=(T.getD k []).getD c []
def QW1 (T:List (List (List (Int×Int)))):Nat->List (Nat->List (Int×Int))
 |0=>[]
 |k+1=>rowAt T k::QW1 T k
def QU3 (T:List (List (List (Int×Int)))) (s:Nat):Int->Int:=Xu1 (QW1 T (QK6 s 10)) (Qz9 s)
def bd:Nat->Nat
 |0=>1
 |k+1=>(k+1)*(4*bd k)
def szd:Nat->Nat
 |0=>1
 |k+1=>(k+1)*(4*szd k)
theorem Xz7 (l : List (Int × Int)) (g : Int → Int) (H : Nat) (hg : ∀ x, (g x).natAbs ≤ H) (y : Int) (k : Nat) (hk : k ≤ l.length) :
    ((prodL (l.take k) g y).natAbs:Int)<=QK5 l k*(H:Int):=by
 induction k with
 |zero=>simp[QK5,prodL]
 |succ k ih=>
  have ih:=ih (by omega)
  have hk':k<l.length:=by omega
  rw[List.take_succ_eq_append_getElem hk',QD9,QK5]
  have g0:l.getD k (0,0)=l[k]:=by simp[List.getD,hk']
  rw[g0,Int.add_mul]
  have e:prodL [l[k]] g y=l[k].2*g (y-l[k].1):=by simp[prodL]
  rw[e]
  have e1:((l[k].2*g (y-l[k].1)).natAbs:Int)<=Xu3 l[k].2*(H:Int):=by
   have h:(l[k].2*g (y-l[k].1)).natAbs<=l[k].2.natAbs*H:=by
    rw[Int.natAbs_mul]
    exact Nat.mul_le_mul (Nat.le_refl _) (hg _)
   have ha:Xu3 l[k].2=(l[k].2.natAbs:Int):=by unfold Xu3;split<;>omega
   rw[ha,<-Int.natCast_mul]
   exact Int.ofNat_le.2 h
  have e2:=Int.natAbs_add_le (prodL (l.take k) g y) (l[k].2*g (y-l[k].1))
  omega
theorem Zd4 (l:List (Int×Int)) (hl:QH3 l<=4) (g:Int->Int) (H:Nat) (hg:∀ x,(g x).natAbs<=H) (y:Int):(prodL l g y).natAbs<=4*H:=by
 have h:=Xz7 l g H hg y l.length (Nat.le_refl _)
 rw[List.take_length]at h
 have h2:QK5 l l.length*(H:Int)<=4*(H:Int):=Int.mul_le_mul_of_nonneg_right hl (by omega)
 omega
theorem ZK6 (b : Nat → List (Int × Int)) (h : List Nat → Int → Int) (H : Nat) (ps : List (Int × Nat × List Nat)) (hp : ∀ p ∈ ps, p.1.natAbs ≤ 1 ∧ QH3 (b p.2.1) ≤ 4 ∧ ∀ x, (h p.2.2 x).natAbs ≤ H) (y : Int) :
    (sumE b h ps y).natAbs<=ps.length*(4*H):=by
 induction ps with
 |nil=>simp[sumE]
 |cons p ps ih=>
  have h1:=hp p (by simp)
  have h2:=ih fun q hq=>hp q (by simp[hq])
  have h3:=Zd4 (b p.2.1) h1.2.1 (h p.2.2) H h1.2.2 y
  have h4:(p.1*prodL (b p.2.1) (h p.2.2) y).natAbs<=1*(4*H):=by
   rw[Int.natAbs_mul]
   exact Nat.mul_le_mul h1.1 h3
  have h5:=Int.natAbs_add_le (p.1*prodL (b p.2.1) (h p.2.2) y) (sumE b h ps y)
  rw[sumE,List.length_cons,Nat.add_mul]
  omega
theorem ZJ8 {s m:Nat} {p:Int×Nat×List Nat} (h:p∈QV7 s m):∃ c,c<m/\(s >>> c)%2=1/\p=(signOf s c,c,Qz9 (s-2 ^ c)):=by
 unfold QV7 at h
 simp only[List.mem_map,List.mem_filter,List.mem_range,beq_iff_eq]at h
 obtain⟨c,⟨h1,h2⟩,h3⟩:=h
 exact⟨c,h1,h2,h3.symm⟩
theorem Qg1:∀ s,s<1024->∀ m,m<11->(QV7 s m).length<=QK6 s 10:=by decide +kernel
theorem Zk0 (s c:Nat):(signOf s c).natAbs<=1:=by unfold signOf;split<;>decide
theorem ZG4 (T:List (List (List (Int×Int)))):QU3 T 0=oneF:=rfl
theorem XY7 (T : List (List (List (Int × Int)))) (n s k : Nat) (hn : n < 11) (hs : s < 2 ^ n) (hk : QK6 s 10 = k + 1) (y : Int) :
    sumE (rowAt T k) (Xu1 (QW1 T k)) (QV7 s n) y=QU3 T s y:=by
 rw[Zb1 _ _ n s hn hs]
 unfold QU3
 rw[hk]
 rfl
theorem Qy6 (T:List (List (List (Int×Int)))) (s k c:Nat) (hs:s<1024) (hc:c<10) (hb:(s >>> c)%2=1) (hk:QK6 s 10=k+1):Xu1 (QW1 T k) (Qz9 (s-2 ^ c))=QU3 T (s-2 ^ c)/\QK6 (s-2 ^ c) 10=k:=by
 have h:=(Qw9 s hs c hc hb).2
 have e:QK6 (s-2 ^ c) 10=k:=by omega
 unfold QU3
 rw[e]
 exact⟨rfl,rfl⟩
theorem ZQ8 {n s:Nat} (hn:n<11) (hs:s<2 ^ n):s<1024:=Nat.lt_of_lt_of_le hs (Nat.pow_le_pow_right (n:=2) (by decide) (show n<=10 by omega))
theorem Xk3 (T:List (List (List (Int×Int)))) (n:Nat) (hn:n<11) (hT:∀ i c,i<n->c<n->QH3 (rowAt T i c)<=4):∀ s,s<2 ^ n->∀ y,(QU3 T s y).natAbs<=bd (QK6 s 10):=by
 intro s
 induction s using Nat.strongRecOn with
 |ind s ih=>
  intro hs y
  have h64:=ZQ8 hn hs
  rcases hk:QK6 s 10 with _|k
  · unfold QU3
    rw[hk]
    show(oneF y).natAbs<=1
    unfold oneF
    split<;>decide
  · rw[<-XY7 T n s k hn hs hk]
    have ho:=(Xy9 n hn s hs).1
    have h := ZK6 (rowAt T k) (Xu1 (QW1 T k)) (bd k) (QV7 s n) (fun p hp => by
     obtain⟨c,hc,hb,rfl⟩:=ZJ8 hp
     have hl:=Qw9 s h64 c (by omega) hb
     obtain⟨e1,e2⟩:=Qy6 T s k c h64 (by omega) hb hk
     refine⟨Zk0 s c,hT k c (by omega) hc,fun x=>?_⟩
     rw[e1]
     have:=ih (s-2 ^ c) hl.1 (by omega) x
     rw[e2]at this
     exact this) y
    have hlen:=Qg1 s h64 n hn
    rw[hk]at hlen
    exact Nat.le_trans h (Nat.mul_le_mul_right _ hlen)
theorem KY2 (T : List (List (List (Int × Int)))) (n : Nat) (hn : n < 11) (hT : ∀ i c, i < n → c < n → QH3 (rowAt T i c) ≤ 4) (s k m : Nat) (hs : s < 2 ^ n) (hk : QK6 s 10 = k + 1) (hm : m ≤ n) (y : Int) :
    (sumE (rowAt T k) (Xu1 (QW1 T k)) (QV7 s m) y).natAbs<=bd (k+1):=by
 have h64:=ZQ8 hn hs
 have ho:=(Xy9 n hn s hs).1
 have h := ZK6 (rowAt T k) (Xu1 (QW1 T k)) (bd k) (QV7 s m) (fun p hp => by
  obtain⟨c,hc,hb,rfl⟩:=ZJ8 hp
  have hl:=Qw9 s h64 c (by omega) hb
  obtain⟨e1,e2⟩:=Qy6 T s k c h64 (by omega) hb hk
  refine⟨Zk0 s c,hT k c (by omega) (by omega),fun x=>?_⟩
  rw[e1]
  have:=Xk3 T n hn hT (s-2 ^ c) (by omega) x
  rw[e2]at this
  exact this) y
 have hlen:=Qg1 s h64 m (by omega)
 rw[hk]at hlen
 exact Nat.le_trans h (Nat.mul_le_mul_right _ hlen)
theorem JQ8:∀ k,k<11->bd k<=1000000000000000/\(k<10->bd k<=2000000000000):=by decide +kernel
theorem KC0:∀ k,k<11->szd k<=1000000000000000/\(k<10->szd k<=10000000000000):=by decide +kernel
theorem KV1 (b:Nat->List (Int×Int)) (h:List Nat->Int->Int) (s m:Nat) (hb:(s >>> m)%2=1) (y:Int):sumE b h (QV7 s (m+1)) y=sumE b h (QV7 s m) y+signOf s m*prodL (b m) (h (Qz9 (s-2 ^ m))) y:=by
 rw[XX5,if_pos hb,Xf4]
 simp[sumE]
theorem KV0 (s m:Nat) (hb:¬(s >>> m)%2=1):QV7 s (m+1)=QV7 s m:=by
 rw[XX5,if_neg hb]
 simp
theorem KB2 (s m:Nat) (hb:(s >>> m)%2=1):(QV7 s (m+1)).length=(QV7 s m).length+1:=by
 rw[XX5,if_pos hb]
 simp
theorem Xg7 (T:List (List (List (Int×Int)))) (k:Nat):QW1 T k=((List.range k).map (rowAt T)).reverse:=by
 induction k with
 |zero=>rfl
 |succ k ih=>simp[QW1,ih,List.range_succ]
theorem ZG5 (T:List (List (List (Int×Int)))) (n:Nat) (hn:n<11):QU3 T (2 ^ n-1)=Xq0 ((List.range n).map (rowAt T)) (List.range n):=by
 have h0:0<2 ^ n:=Nat.pow_pos (by decide)
 have e:QK6 (2 ^ n-1) 10=n:=by
  have:=ZU2 (2 ^ n-1) (ZQ8 hn (by omega))
  rw[XK2 n hn]at this
  simpa using this.symm
 unfold QU3
 rw[e,XK2 n hn,Xg7,KF5 n _ _ (by simp) (by simp)]
end Go.Proofs.YtookanmeflbdlaaGreatDoor.Poly
/- Determinants along the first row, their exponents and their bounds. Plain mathematics: no program is named here. -/
namespace Go.Proofs.YtookanmeflbdlaaGreatDoor.Poly
theorem KD8:∀ (n:Nat) (l:List Nat),l.Pairwise (·≠·)->(∀ x∈l,x<n)->l.length<=n:=by
 intro n
 induction n with
 |zero=>
  intro l _ h
  cases l with
  |nil=>simp
  |cons x l=>exact absurd (h x (by simp)) (by omega)
 |succ n ih=>
  intro l hp h
  have h1 := ih (l.filter fun x => x != n) (hp.sublist List.filter_sublist) (fun x hx => by
   simp only[List.mem_filter,bne_iff_ne,ne_eq]at hx
   have:=h x hx.1
   omega)
  have h2:∀ (l:List Nat),l.Pairwise (·≠·)->l.length<=(l.filter fun x=>x != n).length+1:=by
   intro l hp
   induction l with
   |nil=>simp
   |cons x l ihl=>
    rw[List.pairwise_cons]at hp
    by_cases hx:x=n
    · have e : (l.filter fun x => x != n) = l := by
        rw[List.filter_eq_self]
        intro y hy
        have:=hp.1 y hy
        simp only[bne_iff_ne,ne_eq]
        omega
      simp[hx,e]
    · have:=ihl hp.2
      simp[hx]
      omega
  have:=h2 l hp
  omega
theorem ZW5 (K:Nat) (l:List Int) (hp:l.Pairwise (·≠·)) (h:∀ x∈l,-(K:Int)<=x/\x<=K):l.length<=2*K+1:=by
 have := KD8 (2 * K + 1) (l.map fun x : Int => (x + (K : Int)).toNat) (by
  rw[List.pairwise_map]
  refine List.Pairwise.imp_of_mem ?_ hp
  intro a b ha hb hab e
  have:=h a ha
  have:=h b hb
  omega) (fun x hx=>by
  simp only[List.mem_map]at hx
  obtain⟨y,hy,rfl⟩:=hx
  have:=h y hy
  omega)
 simpa using this
theorem KZ5 {l:List (Int×Int)} {f:Int->Int} (h:Canon l f) (K:Nat) (hf:∀ x,f x≠0 -> -(K:Int)<=x/\x<=K):l.length<=2*K+1:=by
 have := ZW5 K (l.map Prod.fst) (by
  rw[List.pairwise_map]
  exact h.1.imp fun hab=>by omega) (fun x hx=>by
  simp only[List.mem_map]at hx
  obtain⟨t,ht,rfl⟩:=hx
  have:=(h.2 t.1 t.2).1 ht
  exact hf t.1 (by rw[this.1];exact this.2))
 simpa using this
def QH4 (g:Nat->Int->Int):Nat->Int->Int
 |0,_=>0
 |m+1,y=>QH4 g m y+sgn m*g m y
theorem Xh9 (g:Nat->Int->Int) (m:Nat) (y:Int):QH4 g (m+1) y=g 0 y-QH4 (fun j=>g (j+1)) m y:=by
 induction m with
 |zero=>simp[QH4,sgn]
 |succ m ih=>
  have e:QH4 g (m+1+1) y=QH4 g (m+1) y+sgn (m+1)*g (m+1) y:=rfl
  have e2:QH4 (fun j=>g (j+1)) (m+1) y=QH4 (fun j=>g (j+1)) m y+sgn m*g (m+1) y:=rfl
  have e3:sgn (m+1)*g (m+1) y = -(sgn m*g (m+1) y):=by simp only[sgn,Int.neg_mul]
  rw[e,ih,e2,e3]
  omega
theorem KW6 (a:Nat->List (Int×Int)) (cs:List Nat) (h:List Nat->Int->Int) (y:Int):rowF a cs h y=QH4 (fun j=>prodL (a (cs.getD j 0)) (h (cs.eraseIdx j))) cs.length y:=by
 induction cs generalizing h with
 |nil=>rfl
 |cons c cs ih=>
  rw[List.length_cons,Xh9]
  simp only[rowF,ih]
  rfl
theorem KW5 (a:Nat->List (Int×Int)) (p:Nat->Nat) (cs:List Nat) (h:List Nat->Int->Int) (y:Int):rowF a (cs.map p) h y=rowF (fun c=>a (p c)) cs (fun rest=>h (rest.map p)) y:=by
 induction cs generalizing h with
 |nil=>rfl
 |cons c cs ih=>simp only[List.map_cons,rowF,ih]
theorem KF6 (rows:List (Nat->List (Int×Int))) (p:Nat->Nat):∀ cs,Xq0 rows (cs.map p)=Xq0 (rows.map fun r c=>r (p c)) cs:=by
 induction rows with
 |nil=>intro cs;rfl
 |cons r rows ih=>
  intro cs
  funext y
  simp only[Xq0,List.map_cons,KW5]
  have e:(fun rest=>Xq0 rows (rest.map p))=Xq0 (rows.map fun r c=>r (p c)):=funext ih
  rw[e]
def skip (c i:Nat):Nat:=if i<c then i else i+1
theorem ZD7 (n c:Nat) (hc:c<n+1):(List.range (n+1)).eraseIdx c=(List.range n).map (skip c):=by
 apply List.ext_getElem?
 intro i
 rw[List.getElem?_eraseIdx,List.getElem?_map]
 unfold skip
 by_cases h:i<c
 · rw[if_pos h,List.getElem?_range (by omega),List.getElem?_range (by omega)]
   simp[h]
 · rw[if_neg h]
   by_cases hi:i<n
   · rw[List.getElem?_range (by omega),List.getElem?_range (by omega)]
     simp[h]
   · rw[List.getElem?_eq_none (by simp;omega),List.getElem?_eq_none (by simp;omega)]
     rfl
theorem ZA0 {α:Type} (l:List α) (c i:Nat) (d:α):(l.eraseIdx c).getD i d=l.getD (skip c i) d:=by
 unfold skip List.getD
 rw[List.getElem?_eraseIdx]
 split<;>rfl
def rowsOf (T:List (List (List (Int×Int)))):List (Nat->List (Int×Int)):=T.map fun R c=>R.getD c []
def detOf (T:List (List (List (Int×Int)))):Int->Int:=Xq0 (rowsOf T) (List.range T.length)
def Qh6 (T:List (List (List (Int×Int)))) (c:Nat):List (List (List (Int×Int))):=T.tail.map fun R=>R.eraseIdx c
theorem ZA1 (R:List (List (Int×Int))) (T:List (List (List (Int×Int)))) (c:Nat) (hc:c<T.length+1):detOf (Qh6 (R::T) c)=Xq0 (rowsOf T) ((List.range (T.length+1)).eraseIdx c):=by
 rw[ZD7 _ _ hc,KF6]
 unfold detOf Qh6 rowsOf
 simp only[List.tail_cons,List.map_map,List.length_map]
 congr 1
 apply List.map_congr_left
 intro Q _
 funext i
 simp only[Function.comp]
 exact ZA0 Q c i []
theorem XB7 (R:List (List (Int×Int))) (T:List (List (List (Int×Int)))) (y:Int):detOf (R::T) y=QH4 (fun c=>prodL (R.getD c []) (detOf (Qh6 (R::T) c))) (T.length+1) y:=by
 have e:detOf (R::T) y=rowF (fun c=>R.getD c []) (List.range (T.length+1)) (Xq0 (rowsOf T)) y:=rfl
 rw[e,KW6,List.length_range]
 have g:∀ m,m<=T.length+1->QH4 (fun j=>prodL (R.getD ((List.range (T.length+1)).getD j 0) []) (Xq0 (rowsOf T) ((List.range (T.length+1)).eraseIdx j))) m y=QH4 (fun c=>prodL (R.getD c []) (detOf (Qh6 (R::T) c))) m y:=by
  intro m hm
  induction m with
  |zero=>rfl
  |succ m ih=>
   simp only[QH4]
   rw[ih (by omega),ZA1 R T m (by omega)]
   have e2:(List.range (T.length+1)).getD m 0=m:=by simp[List.getD,show m<T.length+1 by omega]
   rw[e2]
 exact g _ (Nat.le_refl _)
theorem Xv4 (T:List (List (List (Int×Int)))):(List.range T.length).map (rowAt T)=rowsOf T:=by
 apply List.ext_getElem?
 intro i
 unfold rowsOf rowAt
 rw[List.getElem?_map,List.getElem?_map]
 by_cases h:i<T.length
 · rw[List.getElem?_range h]
   simp[List.getD,h]
 · rw[List.getElem?_eq_none (by simp;omega),List.getElem?_eq_none (by omega)]
   rfl
theorem Zg2 (T:List (List (List (Int×Int)))) (h:T.length<11):QU3 T (2 ^ T.length-1)=detOf T:=by
 rw[ZG5 T T.length h,Xv4]
 rfl
def KK9 (T:List (List (List (Int×Int)))) (n:Nat):Prop:=T.length=n/\∀ R∈T,R.length=n/\∀ l∈R,mayB l=true/\QH3 l<=4
theorem getD_mem {α:Type} (l:List α) (i:Nat) (d:α) (h:i<l.length):l.getD i d∈l:=by
 have e:l.getD i d=l[i]:=by simp[List.getD,h]
 rw[e]
 exact List.getElem_mem h
theorem Xb8 {T:List (List (List (Int×Int)))} {n:Nat} (h:KK9 T n) {i c:Nat} (hi:i<n) (hc:c<n):mayB ((T.getD i []).getD c [])=true/\QH3 ((T.getD i []).getD c [])<=4:=by
 have h1:=h.2 _ (getD_mem T i [] (by have:=h.1;omega))
 exact h1.2 _ (getD_mem _ c [] (by have:=h1.1;omega))
theorem ZC3 (g:Nat->Int->Int) (m:Nat) (y:Int) (h:QH4 g m y≠0):∃ j,j<m/\g j y≠0:=by
 induction m with
 |zero=>exact absurd rfl h
 |succ m ih=>
  by_cases h0:g m y=0
  · obtain⟨j,hj,hg⟩:=ih (fun e=>h (by simp[QH4,h0,e]))
    exact⟨j,by omega,hg⟩
  · exact⟨m,by omega,h0⟩
theorem Zf5 (n:Nat) (hn:n<11):QK6 (2 ^ n-1) 10=n:=by
 have h0:0<2 ^ n:=Nat.pow_pos (by decide)
 have:=ZU2 (2 ^ n-1) (ZQ8 hn (by omega))
 rw[XK2 n hn]at this
 simpa using this.symm
theorem Kw8 (m:Nat):sgn m=1∨sgn m = -1:=by
 induction m with
 |zero=>exact Or.inl rfl
 |succ m ih=>simp only[sgn];omega
end Go.Proofs.YtookanmeflbdlaaGreatDoor.Poly
/- Plain mathematics: the determinant of Alexander's table is small, and of few terms; there are as many overpasses as crossings, or more. -/
namespace Go.Proofs.YtookanmeflbdlaaGreatDoor
open Poly
theorem ZY0 (c:Int):Xu3 c=(c.natAbs:Int):=by unfold Xu3;split<;>omega
theorem XY1 (x y:Int):QH3 (QY5 x y)=(x.natAbs:Int)+(y.natAbs:Int):=by
 unfold QH3 QY5
 by_cases hx:x=0<;>by_cases hy:y=0<;>simp[hx,hy,QK5,ZY0]
theorem XA7 (l:List (Int×Int)) (k:Nat):0<=QK5 l k:=by
 induction k with
 |zero=>simp[QK5]
 |succ k ih=>simp only[QK5];rw[ZY0];omega
theorem Qd5 (l:List (Int×Int)):0<=QH3 l:=XA7 l l.length
def XC7 (F:Nat->Int×Int):Nat->Int
 |0=>0
 |m+1=>XC7 F m+(((F m).1.natAbs:Int)+((F m).2.natAbs:Int))
theorem Xg0 (F:Nat->Int×Int) (m:Nat):0<=XC7 F m:=by
 induction m with
 |zero=>exact Int.le_refl _
 |succ m ih=>simp only[XC7];omega
theorem Qf8 (F:Nat->Int×Int) (p:Nat) (dx dy:Int) (m:Nat) (h:m<=p):XC7 (QK0 F p dx dy) m=XC7 F m:=by
 induction m with
 |zero=>rfl
 |succ m ih=>
  simp only[XC7]
  rw[ih (by omega)]
  have e:QK0 F p dx dy m=F m:=by unfold QK0;rw[if_neg (by omega)]
  rw[e]
theorem QY9 (F:Nat->Int×Int) (p:Nat) (dx dy:Int) (m:Nat):XC7 (QK0 F p dx dy) m<=XC7 F m+((dx.natAbs:Int)+(dy.natAbs:Int)):=by
 induction m with
 |zero=>simp only[XC7];omega
 |succ m ih=>
  simp only[XC7]
  by_cases e:m=p
  · rw[Qf8 F p dx dy m (by omega)]
    have e2:QK0 F p dx dy m=((F m).1+dx,(F m).2+dy):=by unfold QK0;rw[if_pos e]
    rw[e2]
    simp only
    omega
  · have e2:QK0 F p dx dy m=F m:=by unfold QK0;rw[if_neg e]
    rw[e2]
    omega
theorem Qv9 (m:Nat):XC7 QJ4 m=0:=by
 induction m with
 |zero=>rfl
 |succ m ih=>simp[XC7,ih,QJ4]
theorem Zk7 (C:List Cr) (k m:Nat):XC7 (alF C k) m<=4:=by
 unfold alF rowF
 refine Int.le_trans (QY9 _ _ _ _ m) ?_
 have h1:=QY9 (QK0 QJ4 (XV7 C (C.getD k Cr.none)) 1 0) (inC C (C.getD k Cr.none)) 0 (-1) m
 have h2:=QY9 QJ4 (XV7 C (C.getD k Cr.none)) 1 0 m
 rw[Qv9]at h2
 simp only[Int.natAbs_neg,Int.natAbs_one,Int.natAbs_zero]at h1 h2 ⊢
 omega
theorem Ku5 (F:Nat->Int×Int) (m j:Nat) (h:j<m):((F j).1.natAbs:Int)+((F j).2.natAbs:Int)<=XC7 F m:=by
 induction m with
 |zero=>omega
 |succ m ih=>
  simp only[XC7]
  by_cases e:j=m
  · subst e;have:=Xg0 F j;omega
  · have:=ih (by omega);omega
theorem ZU7 (C:List Cr) (k j:Nat):((alF C k j).1.natAbs:Int)+((alF C k j).2.natAbs:Int)<=4:=Int.le_trans (Ku5 _ (j+1) j (by omega)) (Zk7 C k (j+1))
def alR (C:List Cr) (n i:Nat):List (List (Int×Int)):=(List.range n).map fun j=>QY5 (alF C i j).1 (alF C i j).2
def alT (C:List Cr) (n:Nat):List (List (List (Int×Int))):=(List.range n).map (alR C n)
theorem XQ3 (C:List Cr) (n i:Nat):(alR C n i).length=n:=by simp[alR]
theorem Qk5 (C:List Cr) (n:Nat):(alT C n).length=n:=by simp[alT]
theorem Zx8 (C:List Cr) (n i j:Nat) (h:j<n):(alR C n i).getD j []=QY5 (alF C i j).1 (alF C i j).2:=by simp[alR,List.getD_eq_getElem?_getD,h]
theorem JW5 (C:List Cr) (n i:Nat) (h:i<n):(alT C n).getD i []=alR C n i:=by simp[alT,List.getD_eq_getElem?_getD,h]
theorem Kg4 (C:List Cr) (i j:Nat):mayB (QY5 (alF C i j).1 (alF C i j).2)=true:=by
 have:=ZU7 C i j
 exact XA5 _ _ (by omega) (by omega)
theorem Kg5 (C:List Cr) (n:Nat):KK9 (alT C n) n:=by
 refine⟨Qk5 C n,fun R hR=>?_⟩
 obtain⟨i,-,rfl⟩:=List.mem_map.1 hR
 refine⟨XQ3 C n i,fun l hl=>?_⟩
 obtain⟨j,-,rfl⟩:=List.mem_map.1 hl
 exact⟨Kg4 C i j,by rw[XY1];exact ZU7 C i j⟩
def QD4 (R:List (List (Int×Int))):Int:=(R.map QH3).sum
theorem Qq1 (l:List (Int×Int)) (R:List (List (Int×Int))):QD4 (l::R)=QH3 l+QD4 R:=by simp[QD4]
theorem Xf3 (R:List (List (Int×Int))):0<=QD4 R:=by
 induction R with
 |nil=>simp[QD4]
 |cons l R ih=>rw[Qq1];have:=Qd5 l;omega
theorem XU9 (R:List (List (Int×Int))) (c:Nat):QD4 (R.eraseIdx c)<=QD4 R:=by
 induction R generalizing c with
 |nil=>simp[QD4]
 |cons l R ih=>
  cases c with
  |zero=>rw[List.eraseIdx_cons_zero,Qq1];have:=Qd5 l;omega
  |succ c=>rw[List.eraseIdx_cons_succ,Qq1,Qq1];have:=ih c;omega
theorem ZK5 (C:List Cr) (m i:Nat):QD4 (alR C m i)=XC7 (alF C i) m:=by
 induction m with
 |zero=>rfl
 |succ m ih=>
  have:alR C (m+1) i=alR C m i++[QY5 (alF C i m).1 (alF C i m).2]:=by simp[alR,List.range_succ]
  rw[this]
  unfold QD4 at ih ⊢
  rw[List.map_append,List.sum_append,ih]
  simp[XC7,XY1]
theorem Kw1 (C:List Cr) (n i:Nat):QD4 (alR C n i)<=4:=by
 rw[ZK5]
 exact Zk7 C i n
def Kh6 (T:List (List (List (Int×Int)))) (n:Nat):Prop:=T.length=n/\∀ R∈T,R.length=n/\QD4 R<=4/\∀ l∈R,∀ t∈l,0<=t.1/\t.1<=1
theorem Xz0 {R:List (List (Int×Int))} {T:List (List (List (Int×Int)))} {n c:Nat} (h:Kh6 (R::T) (n+1)) (hc:c<n+1):Kh6 (Qh6 (R::T) c) n:=by
 obtain⟨h1,h2⟩:=h
 refine⟨by simp[Qh6]at h1 ⊢;omega,fun R' hR'=>?_⟩
 obtain⟨Q,hQ,rfl⟩:=List.mem_map.1 hR'
 obtain⟨q1,q2,q3⟩:=h2 Q (List.Mem.tail _ hQ)
 refine⟨by rw[List.length_eraseIdx_of_lt (by omega)];omega,Int.le_trans (XU9 Q c) q2,fun l hl=>q3 l (List.mem_of_mem_eraseIdx hl)⟩
def Qh3 (R:List (List (Int×Int))):Nat->Int
 |0=>0
 |m+1=>Qh3 R m+QH3 (R.getD m [])
theorem ZF5 (l:List (Int×Int)) (R:List (List (Int×Int))) (m:Nat):Qh3 (l::R) (m+1)=QH3 l+Qh3 R m:=by
 induction m with
 |zero=>simp[Qh3]
 |succ m ih=>rw[Qh3,ih,Qh3];simp;omega
theorem Zf0 (R:List (List (Int×Int))):Qh3 R R.length=QD4 R:=by
 induction R with
 |nil=>rfl
 |cons l R ih=>rw[List.length_cons,ZF5,ih,Qq1]
theorem prodL_size (l:List (Int×Int)) (g:Int->Int) (H:Nat) (hg:∀ x,(g x).natAbs<=H) (y:Int):((prodL l g y).natAbs:Int)<=QH3 l*(H:Int):=by
 have h:=Xz7 l g H hg y l.length (Nat.le_refl _)
 rw[List.take_length]at h
 exact h
theorem ZC4 (R:List (List (Int×Int))) (h:Nat->Int->Int) (H:Nat) (m:Nat) (hh:∀ c,c<m->∀ x,(h c x).natAbs<=H) (y:Int):((QH4 (fun c=>prodL (R.getD c []) (h c)) m y).natAbs:Int)<=Qh3 R m*(H:Int):=by
 induction m with
 |zero=>simp[QH4,Qh3]
 |succ m ih=>
  have i1:=ih (fun c hc=>hh c (by omega))
  have i2:=prodL_size (R.getD m []) (h m) H (hh m (by omega)) y
  simp only[QH4,Qh3,Int.add_mul]
  have i3:=Int.natAbs_add_le (QH4 (fun c=>prodL (R.getD c []) (h c)) m y) (sgn m*prodL (R.getD m []) (h m) y)
  have i4:(sgn m*prodL (R.getD m []) (h m) y).natAbs=(prodL (R.getD m []) (h m) y).natAbs:=by
   rcases Kw8 m with e|e<;>rw[e]<;>simp
  omega
def XC8:List (List (List (Int×Int)))->Nat
 |[]=>1
 |R::T=>(QD4 R).toNat*XC8 T
theorem Zd8 (T:List (List (List (Int×Int)))) (c:Nat):XC8 (T.map (fun R=>R.eraseIdx c))<=XC8 T:=by
 induction T with
 |nil=>exact Nat.le_refl _
 |cons R T ih=>
  simp only[List.map_cons,XC8]
  have:=XU9 R c
  exact Nat.mul_le_mul (by omega) ih
theorem ZJ9 (T:List (List (List (Int×Int)))) (h:∀ R∈T,QD4 R<=4):XC8 T<=4 ^ T.length:=by
 induction T with
 |nil=>exact Nat.le_refl _
 |cons R T ih=>
  have h1:=ih fun R' h'=>h R' (List.Mem.tail _ h')
  have h2:=h R (List.Mem.head _)
  rw[List.length_cons,Nat.pow_succ,Nat.mul_comm (4 ^ T.length)]
  exact Nat.mul_le_mul (by omega) h1
theorem Zd7 (T:List (List (List (Int×Int)))) (h:∀ R∈T,QD4 R<=4) (R0:List (List (Int×Int))) (h0:R0∈T) (h3:QD4 R0<=3):4*XC8 T<=3*4 ^ T.length:=by
 induction T with
 |nil=>cases h0
 |cons R T ih=>
  have h4:4 ^ (T.length+1)=4*4 ^ T.length:=by rw[Nat.pow_succ];omega
  rw[List.length_cons,h4]
  simp only[XC8]
  rcases List.mem_cons.1 h0 with e|e
  · have h1:=ZJ9 T fun R' h'=>h R' (List.Mem.tail _ h')
    have h2:(QD4 R).toNat*XC8 T<=3*4 ^ T.length:=Nat.mul_le_mul (by rw[<-e];omega) h1
    omega
  · have h1:=ih (fun R' h'=>h R' (List.Mem.tail _ h')) e
    have h2:=h R (List.Mem.head _)
    have h5:(QD4 R).toNat*XC8 T<=4*XC8 T:=Nat.mul_le_mul (by omega) (Nat.le_refl _)
    omega
theorem KX4:∀ (n:Nat) (T:List (List (List (Int×Int)))),Kh6 T n->∀ y,(detOf T y).natAbs<=XC8 T:=by
 intro n
 induction n with
 |zero=>
  intro T hT y
  obtain rfl:T=[]:=List.length_eq_zero_iff.1 hT.1
  by_cases e:y=0
  · simp[detOf,Xq0,rowsOf,oneF,e,XC8]
  · simp[detOf,Xq0,rowsOf,oneF,e,XC8]
 |succ n ih=>
  intro T hT y
  obtain⟨R,T',rfl⟩:∃ R T',T=R::T':=by
   cases T with
   |nil=>exact absurd hT.1 (by simp)
   |cons R T'=>exact⟨R,T',rfl⟩
  have hl:T'.length=n:=by have:=hT.1;simpa using this
  rw[XB7,hl]
  have h1:=ZC4 R (fun c=>detOf (Qh6 (R::T') c)) (XC8 T') (n+1) (fun c hc x=>Nat.le_trans (ih _ (Xz0 hT hc) x) (Zd8 T' c)) y
  obtain⟨q1,-,-⟩:=hT.2 R (List.Mem.head _)
  have h2:Qh3 R (n+1)=QD4 R:=by rw[<-q1,Zf0]
  rw[h2]at h1
  have h3:=Xf3 R
  have h4:((XC8 (R::T'):Nat):Int)=QD4 R*((XC8 T':Nat):Int):=by
   simp only[XC8]
   rw[Int.natCast_mul,Int.toNat_of_nonneg h3]
  rw[<-h4]at h1
  omega
theorem ZD8 (l:List (Int×Int)) (g:Int->Int) (y:Int) (h:prodL l g y≠0):∃ t∈l,g (y-t.1)≠0:=by
 induction l with
 |nil=>exact absurd rfl h
 |cons t l ih=>
  by_cases e:g (y-t.1)=0
  · have h2:prodL l g y≠0:=fun q=>h (by simp[prodL,e,q])
    obtain⟨u,hu,hg⟩:=ih h2
    exact⟨u,List.Mem.tail _ hu,hg⟩
  · exact⟨t,List.Mem.head _,e⟩
theorem Xd3:∀ (n:Nat) (T:List (List (List (Int×Int)))),Kh6 T n->∀ y,detOf T y≠0->0<=y/\y<=(n:Int):=by
 intro n
 induction n with
 |zero=>
  intro T hT y hy
  obtain rfl:T=[]:=List.length_eq_zero_iff.1 hT.1
  by_cases e:y=0
  · omega
  · exact absurd (by simp[detOf,Xq0,rowsOf,oneF,e]) hy
 |succ n ih=>
  intro T hT y hy
  obtain⟨R,T',rfl⟩:∃ R T',T=R::T':=by
   cases T with
   |nil=>exact absurd hT.1 (by simp)
   |cons R T'=>exact⟨R,T',rfl⟩
  have hl:T'.length=n:=by have:=hT.1;simpa using this
  rw[XB7,hl]at hy
  obtain⟨j,hj,hne⟩:=ZC3 _ _ y hy
  obtain⟨t,ht,hg⟩:=ZD8 _ _ y hne
  have h1:=ih _ (Xz0 hT hj) _ hg
  obtain⟨q1,-,q3⟩:=hT.2 R (List.Mem.head _)
  have h2:=q3 (R.getD j []) (getD_mem R j [] (by omega)) t ht
  omega
theorem KK1 (x y:Int):∀ t∈QY5 x y,0<=t.1/\t.1<=1:=by
 intro t ht
 unfold QY5 at ht
 rcases List.mem_append.1 ht with h|h
 · split at h
   · cases h
   · obtain rfl:=List.mem_singleton.1 h
     exact⟨by simp,by simp⟩
 · split at h
   · cases h
   · obtain rfl:=List.mem_singleton.1 h
     exact⟨by simp,by simp⟩
theorem XQ2 (C:List Cr) (n:Nat):Kh6 (alT C n) n:=by
 refine⟨Qk5 C n,fun R hR=>?_⟩
 obtain⟨i,-,rfl⟩:=List.mem_map.1 hR
 refine⟨XQ3 C n i,Kw1 C n i,fun l hl=>?_⟩
 obtain⟨j,-,rfl⟩:=List.mem_map.1 hl
 exact KK1 _ _
theorem ZC0 {l:List (Int×Int)} {f:Int->Int} (h:Canon l f) (h1:∀ x,f x≠0->0<=x/\x<=10) (h2:∀ x,(f x).natAbs<=1000000):mayB l=true:=by
 have hlen:=KZ5 h 10 (fun x hx=>by have:=h1 x hx;omega)
 refine(may_iff l).2 ⟨by omega,fun i hi=>?_⟩
 have hm:(l.getD i (0,0))∈l:=getD_mem l i (0,0) hi
 obtain⟨e,hc⟩:=(h.2 (l.getD i (0,0)).1 (l.getD i (0,0)).2).1 hm
 have hx:=h1 (l.getD i (0,0)).1 (by rw[e];exact hc)
 have hb:=h2 (l.getD i (0,0)).1
 rw[e]at hb
 rw[okB_iff]
 refine⟨by omega,by omega,by omega,by omega,hc,fun h0=>?_⟩
 have hp:=List.pairwise_iff_getElem.1 h.1 (i-1) i (by omega) hi (by omega)
 have g1:l.getD i (0,0)=l[i]:=by simp[List.getD_eq_getElem?_getD,hi]
 have g2:l.getD (i-1) (0,0)=l[i-1]:=by simp[List.getD_eq_getElem?_getD,show i-1<l.length by omega]
 rw[g1,g2]
 exact hp
theorem Kg6 {C:List Cr} {n:Nat} (hn:n<=10) (hp:XC8 (alT C n)<=1000000) {l:List (Int×Int)} (h:Canon l (detOf (alT C n))):mayB l=true:=by
 refine ZC0 h (fun x hx=>?_) (fun x=>?_)
 · have:=Xd3 n _ (XQ2 C n) x hx
   omega
 · have h1:=KX4 n _ (XQ2 C n) x
   omega
theorem Zb2 (W:List Nat) (x y:Nat) (n:Nat) (hl:W.length=n):∀ k,k<=n->QQ7 W k<=QQ7 (mer W x y) k+(if max (W.getD x 0) (W.getD y 0)<k then 1 else 0):=by
 intro k
 induction k with
 |zero=>intro _;simp[QQ7]
 |succ k ih=>
  intro hk
  have i1:=ih (by omega)
  simp only[QQ7]
  have hm:=QA7 W x y k (by omega)
  by_cases hr:1<=k/\W.getD k 0=k
  · rw[if_pos hr]
    by_cases he:k=max (W.getD x 0) (W.getD y 0)
    · rw[if_neg (by omega)]at i1
      rw[if_pos (show max (W.getD x 0) (W.getD y 0)<k+1 by omega)]
      omega
    · rw[if_neg (by rw[hr.2];exact he)]at hm
      rw[if_pos (show 1<=k/\(mer W x y).getD k 0=k from⟨hr.1,by rw[hm];exact hr.2⟩)]
      split at i1<;>split<;>omega
  · rw[if_neg hr]
    by_cases hq:max (W.getD x 0) (W.getD y 0)<k
    · rw[if_pos hq]at i1
      rw[if_pos (show max (W.getD x 0) (W.getD y 0)<k+1 by omega)]
      omega
    · rw[if_neg hq]at i1
      omega
theorem ZD2 (n:Nat):∀ (E:List (Nat×Nat)) (W:List Nat),W.length=n->QQ7 W n<=QQ7 (QC0 W E) n+E.length:=by
 intro E
 induction E with
 |nil=>intro W _;simp[QC0]
 |cons e E ih=>
  intro W hl
  have h1:=Zb2 W e.1 e.2 n hl n (Nat.le_refl _)
  have h2:=ih (mer W e.1 e.2) (by rw[XF4];exact hl)
  simp only[QC0,List.length_cons]
  split at h1<;>omega
theorem Zb4 (n:Nat):∀ k,k<=n->QQ7 (List.range n) k=k-1:=by
 intro k
 induction k with
 |zero=>intro _;rfl
 |succ k ih=>
  intro hk
  have:=ih (by omega)
  have e:(List.range n).getD k 0=k:=by simp[List.getD_eq_getElem?_getD,show k<n by omega]
  simp only[QQ7,e]
  by_cases h1:1<=k
  · rw[if_pos ⟨h1,trivial⟩];omega
  · rw[if_neg (fun q=>h1 q.1)];omega
theorem ZX1 (C:List Cr):C.length<=ovC C:=by
 have h:=ZD2 (2*C.length+1) (ovE C) (List.range (2*C.length+1)) (by simp)
 rw[Zb4 _ _ (Nat.le_refl _)]at h
 have e:(ovE C).length=C.length:=by simp[ovE]
 unfold ovC QJ6
 omega
theorem ZD3 (L:List Nat):∀ k,0<QQ7 L k->∃ r,1<=r/\r<k/\L.getD r 0=r/\QQ7 L r+1=QQ7 L k:=by
 intro k
 induction k with
 |zero=>intro h;simp[QQ7]at h
 |succ k ih=>
  intro h
  by_cases hr:1<=k/\L.getD k 0=k
  · refine⟨k,hr.1,by omega,hr.2,?_⟩
    simp only[QQ7]
    rw[if_pos hr]
  · have e:QQ7 L (k+1)=QQ7 L k:=by simp only[QQ7];rw[if_neg hr];rfl
    rw[e]at h ⊢
    obtain⟨r,r1,r2,r3,r4⟩:=ih h
    exact⟨r,r1,by omega,r3,r4⟩
theorem ZG9 {C:List Cr} {loops:Int} (hm:QQ6 C loops=true) (h0:0<C.length):∃ i,i<C.length/\(XV7 C (C.getD i Cr.none)=ovC C-1∨inC C (C.getD i Cr.none)=ovC C-1∨ovM C (C.getD i Cr.none).b.toNat=ovC C-1):=by
 obtain⟨r,r1,r2,r3,r4⟩:=ZD3 (QJ6 C) (2*C.length+1) (by have:=ZX1 C;unfold ovC at this;omega)
 have hr:ovM C r=ovC C-1:=by unfold ovM ovC;rw[r3];omega
 obtain⟨i,k,hi,hk,ha,-,-⟩:=XF6 hm r r1 (by omega) true
 have hL:=QW5 (Qz7 hm)
 have hmem:C.getD i Cr.none∈C:=(by simp[List.getD_eq_getElem?_getD,hi])
 refine⟨i,hi,?_⟩
 have hk4:k=0∨k=1∨k=2∨k=3:=by omega
 rcases hk4 with rfl|rfl|rfl|rfl
 · have e:(C.getD i Cr.none).a.toNat=r:=by have:(C.getD i Cr.none).a=(r:Int):=ha;omega
   unfold XV7 inC
   rw[e]
   cases (C.getD i Cr.none).plus
   · left;exact hr
   · right;left;exact hr
 · have e:(C.getD i Cr.none).b.toNat=r:=by have:(C.getD i Cr.none).b=(r:Int):=ha;omega
   right;right;rw[e];exact hr
 · have e:(C.getD i Cr.none).c.toNat=r:=by have:(C.getD i Cr.none).c=(r:Int):=ha;omega
   unfold XV7 inC
   rw[e]
   cases (C.getD i Cr.none).plus
   · right;left;exact hr
   · left;exact hr
 · have e:(C.getD i Cr.none).d.toNat=r:=by have:(C.getD i Cr.none).d=(r:Int):=ha;omega
   right;right
   have hE:((C.getD i Cr.none).b.toNat,(C.getD i Cr.none).d.toNat)∈ovE C:=List.mem_map.2 ⟨_,hmem,rfl⟩
   have hlt:=Qz7 hm _ hE
   have hbd:(QJ6 C).getD (C.getD i Cr.none).b.toNat 0=(QJ6 C).getD (C.getD i Cr.none).d.toNat 0:=(hL.same hlt.1 hlt.2).2 (Con.edge hE)
   unfold ovM at hr ⊢
   rw[hbd,e]
   exact hr
theorem ZB9 (o i v m:Nat) (h:o=m∨i=m∨v=m):XC7 (rowF o i v) m<=3:=by
 unfold rowF
 rcases h with rfl|rfl|rfl
 · have h1:=QY9 (QK0 (QK0 QJ4 o 1 0) i 0 (-1)) v (-1) 1 o
   have h2:=QY9 (QK0 QJ4 o 1 0) i 0 (-1) o
   have h3:=Qf8 QJ4 o 1 0 o (Nat.le_refl _)
   rw[Qv9]at h3
   simp only[Int.natAbs_neg,Int.natAbs_one,Int.natAbs_zero]at h1 h2
   omega
 · have h1:=QY9 (QK0 (QK0 QJ4 o 1 0) i 0 (-1)) v (-1) 1 i
   have h2:=Qf8 (QK0 QJ4 o 1 0) i 0 (-1) i (Nat.le_refl _)
   have h3:=QY9 QJ4 o 1 0 i
   rw[Qv9]at h3
   simp only[Int.natAbs_neg,Int.natAbs_one,Int.natAbs_zero]at h1 h3
   omega
 · have h1:=Qf8 (QK0 (QK0 QJ4 o 1 0) i 0 (-1)) v (-1) 1 v (Nat.le_refl _)
   have h2:=QY9 (QK0 QJ4 o 1 0) i 0 (-1) v
   have h3:=QY9 QJ4 o 1 0 v
   rw[Qv9]at h3
   simp only[Int.natAbs_neg,Int.natAbs_one,Int.natAbs_zero]at h2 h3
   omega
theorem Kz9 {C:List Cr} {loops:Int} (hm:QQ6 C loops=true) (h0:0<C.length) (h10:C.length<=10) (hs:ovC C-1<=C.length) {l:List (Int×Int)} (h:Canon l (detOf (alT C (ovC C-1)))):mayB l=true:=by
 have hS:=XQ2 C (ovC C-1)
 have h4:∀ R∈alT C (ovC C-1),QD4 R<=4:=fun R hR=>(hS.2 R hR).2.1
 refine Kg6 (by omega) ?_ h
 by_cases h9:ovC C-1<=9
 · have h1:=ZJ9 _ h4
   rw[Qk5]at h1
   have h2:4 ^ (ovC C-1)<=4 ^ 9:=Nat.pow_le_pow_right (by decide) h9
   have h3:(4:Nat) ^ 9<=1000000:=by decide
   omega
 · obtain⟨i,hi,ht⟩:=ZG9 hm h0
   have h1 := Zd7 _ h4 (alR C (ovC C - 1) i) (List.mem_map.2 ⟨i, List.mem_range.2 (by omega), rfl⟩) (by
    rw[ZK5]
    exact ZB9 _ _ _ _ ht)
   rw[Qk5]at h1
   have e:ovC C-1=10:=by omega
   rw[e]at h1
   rw[e]
   have h3:3*4 ^ 10<=4*1000000:=by decide
   omega
end Go.Proofs.YtookanmeflbdlaaGreatDoor
/- The walk of poly.determinant: the map that it hands back has the determinant's coefficients. -/
namespace Go.Proofs.YtookanmeflbdlaaGreatDoor.Poly
open Go.RowKit Go.Maps
set_option maxHeartbeats 4000000
set_option maxRecDepth 100000
theorem KD0:(Tryz.prog.info? 58).map (fun i=>(i.zero,i.size,i.bytes))=some (some (.map none),1,8):=by kernel_rfl
theorem KY1:∀ n,n<11->wrap64 (2 ^ n)=((2 ^ n:Nat):Int):=by decide +kernel
theorem Zw5:∀ s:Nat,s<1024->∀ m,m<10->bits BinOp.and IntKind.i64 ((s:Int) / 2 ^ m) 1=(((s >>> m)%2:Nat):Int):=by decide +kernel
theorem Kg0:∀ s:Nat,s<1024->∀ m,m<10->(s >>> m)%2=1->bits BinOp.andNot IntKind.i64 (s:Int) (wrap64 (2 ^ m))=((s-2 ^ m:Nat):Int):=by decide +kernel
theorem Kf9:∀ s:Nat,s<1024->∀ m,m<10->IntKind.u64.wrap ((s:Int) / 2 ^ m)=((s >>> m:Nat):Int)/\s >>> m<1024:=by decide +kernel
theorem Xg8 (N:Int):QZ4 (.map []:DataW Unit) N:=fun x hx=>by cases hx
theorem Zj6 (w:World):(Instr.makeMap 58 none).run Tryz.prog w=.ok (.map (some w.heap.size)) (w.alloc (.map #[] 0)):=rfl
def Kg7 (w:World) (T:List (List (List (Int×Int)))) (t b:Nat):Prop:=
 ∃ D:DataW Unit,w.ownsMap Tryz.prog 3 (plainElem Tryz.prog 3) b (szd (QK6 t 10)) D/\(∀ y,coefOf D y=QU3 T t y)/\QZ4 D (1000*(QK6 t 10:Int))
def Minors (w:World) (B C:Nat) (T:List (List (List (Int×Int)))) (xs:List Value) (s:Nat):Prop:=
 ∀ t,t<s->∃ b,xs[t]?=some (.map (some b))/\B<b/\b<C/\Kg7 w T t b
theorem Minors.kept {w w':World} {B C s:Nat} {T:List (List (List (Int×Int)))} {xs:List Value} {row:Option Nat} (h:Minors w B C T xs s) (hg:w.grownBy w' row) (hne:∀ b,B<b->b<C->row≠some b):Minors w' B C T xs s:=by
 intro t ht
 obtain⟨b,h1,h2,h3,D,h4,h5,h6⟩:=h t ht
 exact⟨b,h1,h2,h3,D,h4.kept hg (fun e=>hne b h2 h3 e.symm),h5,h6⟩
theorem Minors.mono {w:World} {B C C' s:Nat} {T:List (List (List (Int×Int)))} {xs:List Value} (h:Minors w B C T xs s) (hC:C<=C'):Minors w B C' T xs s:=by
 intro t ht
 obtain⟨b,h1,h2,h3,h4⟩:=h t ht
 exact⟨b,h1,h2,Nat.lt_of_lt_of_le h3 hC,h4⟩
theorem Xg5 {w : World} {B C b : Nat} {T : List (List (List (Int × Int)))} {xs : List Value} (hB : B < b) (hC : b < C) (hx : xs[0]? = some (.map (some b)))
    (ho:w.ownsMap Tryz.prog 3 (plainElem Tryz.prog 3) b 1 ((DataW.map []:DataW Unit).put (.int .i64 0) (.lit (.int .i64 1)))):Minors w B C T xs 1:=by
 intro t ht
 obtain rfl:t=0:=by omega
 refine⟨b,hx,hB,hC,_,ho,fun y=>?_,QV6 (fun x hx=>by cases hx) (by decide) (by decide) _⟩
 rw[coefOf_put ⟨_,rfl⟩,ZG4]
 unfold oneF
 by_cases h:(0:Int)=y
 · rw[if_pos h,if_pos h.symm]
 · rw[if_neg h,if_neg (fun e=>h e.symm)]
   exact coefOf_none rfl
theorem determinant_any (v : Value) (T : List (List (List (Int × Int)))) (n : Nat) (w : World) (hn : n ≤ 10) (hT : KK9 T n) (h : Table w w.heap.size v T) :
    Calls Tryz.prog 43 #[v] w fun e w'=>∃ (b:Nat) (D:DataW Unit),e=.returned (.map (some b))/\w.heap.size<=b/\w'.ownsMap Tryz.prog 3 (plainElem Tryz.prog 3) b (szd n) D/\(∀ y,coefOf D y=detOf T y)/\QZ4 D (1000*(n:Int))/\Below w.heap.size w w':=by
 obtain⟨i0,hi,hz0,hz1,hz2⟩:=info_parts KD0
 obtain⟨rs,hrl,⟨a,cap,rfl,g⟩,hR⟩:=h
 have hTl:=hT.1
 obtain⟨N,hNe,hN,hN1,hN2⟩:∃ N:Nat,N=2 ^ n/\wrap64 (2 ^ n)=(N:Int)/\1<=N/\N<=1024:=⟨2 ^ n,rfl,KY1 n (by omega),Nat.pow_pos (by decide),Nat.pow_le_pow_right (n:=2) (by decide) hn⟩
 have HN:Hid (wrap64 (2 ^ n)=(N:Int)):=hN
 have HNe:Hid (N=2 ^ n):=hNe
 have HGT:Hid (KK9 T n):=hT
 have HR:Hid (∀ i,i<n->Row w w.heap.size (rs.getD i (.bool false)) (T.getD i [])):=fun i hi=>hR i (by omega)
 rw[hrl,hTl]at g ⊢
 have HG:Hid (0<n->∃ b off,a=some ⟨b,off,none⟩/\b<w.heap.size/\∀ i,i<n->w.cell? ⟨b,off+i,none⟩=some (rs.getD i (.bool false))):=g
 have hmm:=Zj6
 clear hN hNe hT hR g hTl hrl
 go_enter Tryz.func43,Tryz.ntmps43
 go_wp2_with (first|(at_make;refine wpList_make_full _ rfl _ _ 123 rfl w.heap.size 58 i0 (.map none) 1 Tryz.underlying123 hi hz0 hz1 .i64 .i64 _ _ N rfl rfl HN.out HN.out (by rw[hz2];omega) (by unfold maxLen;omega) (Nat.le_refl _) ?_;intro w1 hrow hg1;refine Hid.out ?_))
 refine Lib.hid ?_
 have hown0:(w1.alloc (.map #[] 0)).ownsMap Tryz.prog 3 (plainElem Tryz.prog 3) w1.heap.size 0 (.map []:DataW Unit):=World.ownsMap_made _ _ _ _
 obtain⟨w2,hins,hown2,hg2⟩:=hown0.update law3 Tryz.underlying58 (by unfold maxLen;omega) (keyOf_int_mk Tryz.underlying3 (WalkArith.wf_i64 (by omega : -9223372036854775808<=(0:Int)/\(0:Int)<=9223372036854775807))) (plainElem_int Tryz.underlying3 (WalkArith.wf_i64 (by omega : -9223372036854775808<=(1:Int)/\(1:Int)<=9223372036854775807)))
 have hsz1:=hg1.size
 have hsz2:=hg2.size
 simp only[World.alloc,Array.size_push]at hsz2
 have hlt1:w.heap.size<w1.heap.size:=(hrow.lt w.heap.size rfl).2
 have hrow2:=(hrow.alloc (.map #[] 0)).kept hg2 (Or.inr (by simp[Value.ownBlock];omega))
 rw[show(madeCells (Value.map none).cells (N*1)).toList=List.replicate N (Value.map none) by rw[Nat.mul_one];exact toList_madeCells_one _ _]at hrow2
 have f0:=hrow2.frozenAt 0
 have d0:w2.cell? ⟨w.heap.size,0,none⟩=some (.map none):=by
  rw[hrow2.cellAt 0 (by omega),List.getElem?_replicate,if_pos (by omega)]
 have hB2:Below w.heap.size w w2:=(((Below.refl _ _).grown hg1 (Nat.le_refl _) (fun j hj=>by cases hj)).alloc hsz1 _).grown hg2 (by simp;omega) (fun j hj=>by cases hj;omega)
 have HST:Hid (∀ u,(w2.setCell ⟨w.heap.size,0,none⟩ u).ownsRow w.heap.size 58 1 (.slice (some ⟨w.heap.size,0,none⟩) N N) N ((List.replicate N (Value.map none)).set 0 u)/\w2.grownBy (w2.setCell ⟨w.heap.size,0,none⟩ u) (some w.heap.size)):=fun u=>hrow2.stored 0 u
 have HO2:Hid (w2.ownsMap Tryz.prog 3 (plainElem Tryz.prog 3) w1.heap.size 1 ((DataW.map []:DataW Unit).put (.int .i64 0) (.lit (.int .i64 1)))):=hown2
 have HB2:Hid (Below w.heap.size w w2):=hB2
 clear hB2 hown2 hrow2 hg1 hg2 hown0 hrow
 go_wp2
 clear hins f0 d0 hmm
 have hmm:=Zj6
 go_loopw [4] (fun i wr=>∃ (s:Nat) (xs:List Value),1<=s/\s<=N/\i=.int .i64 s/\xs.length=N/\wr.ownsRow w.heap.size 58 1 (.slice (some ⟨w.heap.size,0,none⟩) N N) N xs/\Hid (Minors wr w.heap.size wr.heap.size T xs s)/\Below w.heap.size w wr) (fun i _=>N-(intOf i).toNat)
 case atStart=>
  have hst:=HST.out (.map (some w1.heap.size))
  refine⟨1,(List.replicate N (Value.map none)).set 0 (.map (some w1.heap.size)),Nat.le_refl _,hN1,rfl,by simp,hst.1,?_,HB2.out.grown hst.2 (by omega) (fun j hj=>by cases hj;omega)⟩
  exact Xg5 hlt1 (Nat.lt_of_lt_of_le (by omega) hst.2.size) (by rw[List.getElem?_set_self (by simp;omega)]) (HO2.out.kept hst.2 (fun e=>by have:=Option.some.inj e;omega))
 case round=>
  clear HST HO2 HB2 hlt1 hsz1 hsz2 w2
  rename World=>W1
  obtain⟨s,xs,hs1,hsN,rfl,hxl,hrow,hMin,hb⟩:=hrel
  by_cases hlt:s<N
  · have hs2:s<2 ^ n:=by rw[<-HNe.out];exact hlt
    have ho:=Xy9 n (by omega) s hs2
    have hn1:0<n:=by omega
    obtain⟨k,hk⟩:∃ k,QK6 s 10=k+1:=⟨QK6 s 10 - 1,by have:=ho.2 hs1;omega⟩
    have hkn:k<n:=by omega
    have HK:Hid (QK6 s 10=k+1):=hk
    obtain⟨b,off,rfl,hbw,hc⟩:=HG.out hn1
    have c0:=bcell hb hbw (hc k hkn)
    obtain⟨ps,hpl,⟨a2,cap2,hv2,g2⟩,hPs⟩:=HR.out k hkn
    have hRl:(T.getD k []).length=n:=(HGT.out.2 _ (getD_mem T k [] (by rw[HGT.out.1];exact hkn))).1
    rw[hv2,hpl,hRl]at c0
    rw[hpl,hRl]at g2
    obtain⟨b2,off2,rfl,hbw2,hc2⟩:=g2 hn1
    have HC2:Hid (∀ i,i<n->w.cell? ⟨b2,off2+i,none⟩=some (ps.getD i (.bool false))):=hc2
    have HPs:Hid (∀ j,j<n->Poly w w.heap.size (ps.getD j (.bool false)) ((T.getD k []).getD j [])):=fun j hj=>hPs j (by rw[hRl];exact hj)
    have hbr:b<W1.heap.size:=Nat.lt_of_lt_of_le hbw hb.size
    have hszW:=hb.size
    clear hc hpl hv2 g2 hPs hc2 hRl ho hk hs2
    go_wp2_with (go_at_call 70;refine(ZV3 s _ (by omega)).mono ?_;rw[HK.out];rintro r w3 ⟨rfl,hb3⟩;refine Hid.out ?_)
    refine Lib.hid ?_
    have hszW3:=hb3.size
    have c3:w3.cell? ⟨b,off+k,none⟩=some (.slice (some ⟨b2,off2,none⟩) n cap2):=bcell hb3 hbr c0
    have hbr3:b<w3.heap.size:=Nat.lt_of_lt_of_le hbr hszW3
    have hg3:W1.grownBy (w3.alloc (.map #[] 0)) none:=grown_trans (grown_below hb3 none) (World.grownBy_alloc _ _ _)
    have hrow3:=hrow.kept hg3 (Or.inr (by simp[Value.ownBlock]))
    have hlow:w.heap.size<W1.heap.size:=(hrow.lt w.heap.size rfl).2
    have HM3:Hid (Minors (w3.alloc (.map #[] 0)) w.heap.size w3.heap.size T xs s):=(hMin.out.kept hg3 (by simp)).mono hszW3
    have HO3:Hid ((w3.alloc (.map #[] 0)).ownsMap Tryz.prog 3 (plainElem Tryz.prog 3) w3.heap.size 0 (.map []:DataW Unit)):=World.ownsMap_made _ _ _ _
    have HB3:Hid (Below w.heap.size w (w3.alloc (.map #[] 0))):=(hb.trans (hb3.mono hszW)).alloc (by omega) _
    clear c0 hrow hMin hb hb3 hg3
    go_wp2
    clear c3
    go_loopw [34] (fun i ws => ∃ (m np : Nat) (D : DataW Unit), m ≤ n ∧ i = .int .i64 m ∧ ws.ownsRow w.heap.size 58 1 (.slice (some ⟨w.heap.size, 0, none⟩) N N) N xs ∧ Hid (Minors ws w.heap.size w3.heap.size T xs s) ∧
        ws.ownsMap Tryz.prog 3 (plainElem Tryz.prog 3) w3.heap.size np D/\Hid (np<=(QV7 s m).length*(4*szd k))/\Hid (∀ y,coefOf D y=sumE (rowAt T k) (Xu1 (QW1 T k)) (QV7 s m) y)/\Hid (QZ4 D (1000*((k:Int)+1)))/\Below w.heap.size w ws) (fun i _=>n-(intOf i).toNat)
    case atStart=>exact⟨0,0,.map [],Nat.zero_le _,rfl,hrow3,HM3,HO3.out,Nat.zero_le _,fun y=>coefOf_none rfl,Xg8 _,HB3.out⟩
    case round=>
     clear hrow3 HM3 HO3 HB3
     rename World=>W2
     obtain⟨m,np,D,hm,rfl,hrow,hMin,hown,hnp,hD,hKD,hb⟩:=hrel
     by_cases hml:m<n
     · have hszX:=hb.size
       have c2:=bcell hb hbw2 (HC2.out m hml)
       have hbr2:b2<W2.heap.size:=Nat.lt_of_lt_of_le hbw2 hszX
       have HQ:Hid (Poly W2 W2.heap.size (ps.getD m (.bool false)) ((T.getD k []).getD m [])):=((HPs.out m hml).on hb).mono hszX
       generalize ps.getD m (.bool false)=pv at c2 HQ
       by_cases hbit:(s >>> m)%2=1
       · have hcw:=Kf9 s (by omega) m (by omega)
         have HX:Hid (s >>> m<1024):=hcw.2
         have hshr:=hcw.1
         have hand:=Zw5 s (by omega) m (by omega)
         rw[hbit]at hand
         have hnot:=Kg0 s (by omega) m (by omega) hbit
         have hql:=Qw9 s (by omega) m (by omega) hbit
         have hqe:=Qy6 T s k m (by omega) (by omega) hbit HK.out
         have HSN:Hid (∀ y,sumE (rowAt T k) (Xu1 (QW1 T k)) (QV7 s (m+1)) y=sumE (rowAt T k) (Xu1 (QW1 T k)) (QV7 s m) y+signOf s m*prodL ((T.getD k []).getD m []) (QU3 T (s-2 ^ m)) y):=fun y=>by
          rw[KV1 _ _ s m hbit y,hqe.1];rfl
         have HSG:Hid (signOf s m=if QK6 (s >>> m) 10%2=0 then -1 else 1):=(rfl:signOf s m=if QK6 (s >>> m) 10%2=0 then -1 else 1)
         have HLN:Hid ((QV7 s (m+1)).length=(QV7 s m).length+1):=KB2 s m hbit
         have HPL:Hid ((QV7 s m).length<=k+1):=(by have:=Qg1 s (by omega) m (by omega);rw[HK.out]at this;exact this:(QV7 s m).length<=k+1)
         have hs2:s<2 ^ n:=by rw[<-HNe.out];exact hlt
         have HBP:Hid (∀ x,-1000000000000000<=coefOf D x/\coefOf D x<=1000000000000000):=fun x=>by
          have h1:=KY2 T n (by omega) (fun i c hi hc=>(Xb8 HGT.out hi hc).2) s k m hs2 HK.out hm x
          have h2:=(JQ8 (k+1) (by omega)).1
          rw[hD.out]
          omega
         have HBQ:Hid (∀ x,-2000000000000<=QU3 T (s-2 ^ m) x/\QU3 T (s-2 ^ m) x<=2000000000000):=fun x=>by
          have h1:=Xk3 T n (by omega) (fun i c hi hc=>(Xb8 HGT.out hi hc).2) (s-2 ^ m) (by omega) x
          have h2:=(JQ8 k (by omega)).2 (by omega)
          rw[hqe.2]at h1
          omega
         have hnp1:np<=1000000000000000:=by
          have h1:=(KC0 (k+1) (by omega)).1
          have h2:(QV7 s m).length*(4*szd k)<=(k+1)*(4*szd k):=Nat.mul_le_mul_right _ HPL.out
          have h3:szd (k+1)=(k+1)*(4*szd k):=rfl
          have h4:=hnp.out
          omega
         have hnq1:szd k<=10000000000000:=(KC0 k (by omega)).2 (by omega)
         have hGD:=Xb8 HGT.out hkn hml
         have HGD:Hid (mayB ((T.getD k []).getD m [])=true/\QH3 ((T.getD k []).getD m [])<=4):=hGD
         obtain⟨bq,hxq,hBq,hCq,Dq,hoq,hcq,hkq⟩:=hMin.out (s - 2 ^ m) (by omega)
         rw[hqe.2]at hoq hkq
         have HCQ:Hid (∀ y,coefOf Dq y=QU3 T (s-2 ^ m) y):=hcq
         have HKQ:Hid (QZ4 Dq (1000*(k:Int))):=hkq
         generalize hq:s-2 ^ m=q at hnot hql HSN HBQ hxq HCQ
         have hqN:q<N:=by omega
         have e0:W2.cell? ⟨w.heap.size,q,none⟩=some (.map (some bq)):=by rw[hrow.cellAt q (by omega)];exact hxq
         have hlow2:w.heap.size<W2.heap.size:=(hrow.lt w.heap.size rfl).2
         have hbpl:=hown.lt
         generalize (T.getD k []).getD m []=l at HQ HSN HGD
         have HE0:Hid (W2.cell? ⟨w.heap.size,q,none⟩=some (.map (some bq))):=e0
         have HOQ:Hid (W2.ownsMap Tryz.prog 3 (plainElem Tryz.prog 3) bq (szd k) Dq):=hoq
         have HOP:Hid (W2.ownsMap Tryz.prog 3 (plainElem Tryz.prog 3) w3.heap.size np D):=hown
         have HRW:Hid (W2.ownsRow w.heap.size 58 1 (.slice (some ⟨w.heap.size,0,none⟩) N N) N xs):=hrow
         have HBL:Hid (Below w.heap.size w W2):=hb
         clear e0 hoq hown hrow hb hxq hcq hkq hq hqe hql hGD hcw hs2
         obtain⟨c,hc⟩:∃ c,QK6 (s >>> m) 10=c:=⟨_,rfl⟩
         have HCC:Hid (QK6 (s >>> m) 10=c):=hc
         rw[hc]at HSG
         clear hc
         go_wp2_with (go_at_call 70;refine(ZV3 (s >>> m) _ HX.out).mono ?_;rw[HCC.out];rintro r w4 ⟨rfl,hb4⟩;refine Hid.out ?_)
         refine Lib.hid ?_
         have hsz4:=hb4.size
         have HP4:Hid (Poly w4 w4.heap.size pv l):=HQ.out.up hb4
         have HB4:Hid (Below W2.heap.size W2 w4):=hb4
         clear hb4 c2 hand hshr
         by_cases hc2:c%2=0
         · rw[if_pos hc2]at HSG
           have hd:((c:Int)%2==0)=true:=by rw[beq_iff_eq];omega
           have HG1:Hid (mayB l=true):=HGD.out.1
           have e4:w4.cell? ⟨w.heap.size,q,none⟩=some (.map (some bq)):=bcell HB4.out hlow2 HE0.out
           have hl4:w.heap.size<w4.heap.size:=by omega
           go_wp2_with (go_at_call 71;refine(Xv0 (-1) (Or.inr rfl) w3.heap.size np bq (szd k) D Dq pv l _ (HOP.out.kept (grown_below HB4.out none) (by simp)) (HOQ.out.kept (grown_below HB4.out none) (by simp)) (by omega) HG1.out HGD.out.2 HP4.out hnp1 hnq1 (1000*(k:Int)) (1000*((k:Int)+1)) (by omega) (by omega) (by omega) hKD.out HKQ.out HBP.out (fun x=>by rw[HCQ.out];exact HBQ.out x)).mono ?_;rintro r w6 ⟨D6,rfl,hown6,hD6,hK6,hg6⟩)
           go_roundw
           case rel=>
            have hgX:W2.grownBy w6 (some w3.heap.size):=grown_trans (grown_below HB4.out _) hg6
            refine⟨m+1,_,D6,by omega,by go_num,HRW.out.kept hgX (Or.inr (by simp[Value.ownBlock];omega)),hMin.out.kept hgX (fun b h1 h2 e=>by have:=Option.some.inj e;omega),hown6,?_,fun y=>?_,hK6,HBL.out.grown hgX (by omega) (fun j hj=>by cases hj;omega)⟩
            · show np+4*szd k<=_
              rw[HLN.out,Nat.add_mul]
              have:=hnp.out
              omega
            · rw[HSN.out,HSG.out,hD6,hD.out,show coefOf Dq=QU3 T q from funext HCQ.out]
           case measure=>simp only[intOf];omega
         · rw[if_neg hc2]at HSG
           have hd:((c:Int)%2==0)=false:=by rw[beq_eq_false_iff_ne];omega
           have HG1:Hid (mayB l=true):=HGD.out.1
           have e4:w4.cell? ⟨w.heap.size,q,none⟩=some (.map (some bq)):=bcell HB4.out hlow2 HE0.out
           have hl4:w.heap.size<w4.heap.size:=by omega
           go_wp2_with (go_at_call 71;refine(Xv0 1 (Or.inl rfl) w3.heap.size np bq (szd k) D Dq pv l _ (HOP.out.kept (grown_below HB4.out none) (by simp)) (HOQ.out.kept (grown_below HB4.out none) (by simp)) (by omega) HG1.out HGD.out.2 HP4.out hnp1 hnq1 (1000*(k:Int)) (1000*((k:Int)+1)) (by omega) (by omega) (by omega) hKD.out HKQ.out HBP.out (fun x=>by rw[HCQ.out];exact HBQ.out x)).mono ?_;rintro r w6 ⟨D6,rfl,hown6,hD6,hK6,hg6⟩)
           go_roundw
           case rel=>
            have hgX:W2.grownBy w6 (some w3.heap.size):=grown_trans (grown_below HB4.out _) hg6
            refine⟨m+1,_,D6,by omega,by go_num,HRW.out.kept hgX (Or.inr (by simp[Value.ownBlock];omega)),hMin.out.kept hgX (fun b h1 h2 e=>by have:=Option.some.inj e;omega),hown6,?_,fun y=>?_,hK6,HBL.out.grown hgX (by omega) (fun j hj=>by cases hj;omega)⟩
            · show np+4*szd k<=_
              rw[HLN.out,Nat.add_mul]
              have:=hnp.out
              omega
            · rw[HSN.out,HSG.out,hD6,hD.out,show coefOf Dq=QU3 T q from funext HCQ.out]
           case measure=>simp only[intOf];omega
       · have hand:=Zw5 s (by omega) m (by omega)
         have hz:(s >>> m)%2=0:=by omega
         rw[hz]at hand
         have HSK:Hid (QV7 s (m+1)=QV7 s m):=KV0 s m hbit
         clear hbit hz
         go_wp2
         go_roundw
         case rel=>exact⟨m+1,np,D,by omega,by go_num,hrow,hMin,hown,by rw[HSK.out];exact hnp,by rw[HSK.out];exact hD,hKD,hb⟩
         case measure=>simp only[intOf];omega
     · obtain rfl:m=n:=by omega
       have f0:=hrow.frozenAt s
       obtain⟨u0,hu0⟩:∃ u,xs[s]?=some u:=⟨xs[s]'(by omega),List.getElem?_eq_getElem (by omega)⟩
       have d0:W2.cell? ⟨w.heap.size,s,none⟩=some u0:=by rw[hrow.cellAt s (by omega)];exact hu0
       have hlow2:w.heap.size<W2.heap.size:=(hrow.lt w.heap.size rfl).2
       have hs2:s<2 ^ m:=by rw[<-HNe.out];exact hlt
       have HST:Hid ((W2.setCell ⟨w.heap.size,s,none⟩ (.map (some w3.heap.size))).ownsRow w.heap.size 58 1 (.slice (some ⟨w.heap.size,0,none⟩) N N) N (xs.set s (.map (some w3.heap.size)))/\W2.grownBy (W2.setCell ⟨w.heap.size,s,none⟩ (.map (some w3.heap.size))) (some w.heap.size)):=hrow.stored s _
       have hbpl:=hown.lt
       have HOP:Hid (W2.ownsMap Tryz.prog 3 (plainElem Tryz.prog 3) w3.heap.size np D):=hown
       have HBL:Hid (Below w.heap.size w W2):=hb
       have HMI:Hid (Minors W2 w.heap.size w3.heap.size T xs s):=hMin
       clear hown hb hrow hu0 hMin
       go_wp2
       go_roundw
       case rel=>
        obtain⟨hst,hgs⟩:=HST.out
        refine⟨s+1,_,by omega,by omega,by go_num,by simpa using hxl,hst,?_,HBL.out.grown hgs (by omega) (fun j hj=>by cases hj;omega)⟩
        intro t ht
        by_cases hts:t=s
        · subst hts
          refine⟨w3.heap.size,by rw[List.getElem?_set_self (by omega)],by omega,Nat.lt_of_lt_of_le hbpl hgs.size,D,?_,fun y=>?_,?_⟩
          · refine(HOP.out.kept hgs (fun e=>by have:=Option.some.inj e;omega)).mono ?_
            rw[HK.out]
            have h1:=Qg1 t (by omega) m (by omega)
            rw[HK.out]at h1
            exact Nat.le_trans hnp.out (Nat.mul_le_mul_right _ h1)
          · rw[hD.out,XY7 T m t k (by omega) hs2 HK.out]
          · rw[HK.out]
            exact hKD.out
        · obtain⟨b',h1,h2,h3,D',h4,h5,h6⟩:=HMI.out t (by omega)
          exact⟨b',by rw[List.getElem?_set_ne (by omega)];exact h1,h2,by have:=hgs.size;omega,D',h4.kept hgs (fun e=>by have:=Option.some.inj e;omega),h5,h6⟩
       case measure=>simp only[intOf];omega
  · obtain rfl:s=N:=by omega
    obtain⟨b',h1,h2,h3,D',h4,h5,h6⟩:=hMin.out (s - 1) (by omega)
    have d0:W1.cell? ⟨w.heap.size,s-1,none⟩=some (.map (some b')):=by rw[hrow.cellAt (s-1) (by omega)];exact h1
    have hlow2:w.heap.size<W1.heap.size:=(hrow.lt w.heap.size rfl).2
    have HO:Hid (W1.ownsMap Tryz.prog 3 (plainElem Tryz.prog 3) b' (szd (QK6 (s-1) 10)) D'):=h4
    have H5:Hid (∀ y,coefOf D' y=QU3 T (s-1) y):=h5
    have H6:Hid (QZ4 D' (1000*(QK6 (s-1) 10:Int))):=h6
    clear h1 h4 h5 h6 hrow hMin
    have hix:(s:Int)-1=((s-1:Nat):Int):=by omega
    go_wp2
    go_ret
    have ho:=Zf5 n (by omega)
    have hmd:=Zg2 T (by rw[HGT.out.1];omega)
    rw[HGT.out.1]at hmd
    have hO:=HO.out
    have h5:=H5.out
    have h6:=H6.out
    rw[HNe.out,ho]at hO h6
    rw[HNe.out,hmd]at h5
    exact⟨b',D',rfl,by omega,hO,h5,h6,hb⟩
end Go.Proofs.YtookanmeflbdlaaGreatDoor.Poly
/- The walk of poly.Det. -/
namespace Go.Proofs.YtookanmeflbdlaaGreatDoor.Poly
open Go.RowKit Go.Maps
set_option maxHeartbeats 1000000
set_option maxRecDepth 100000
theorem coll_len {D:DataW Unit} {left:Lit->Bool} {acc:List (Int×Int)} (h:Coll D left acc) (N:Nat) (hK:QZ4 D (N:Int)):acc.length<=2*N+1:=by
 have := ZW5 N (acc.map Prod.fst) (by
  rw[List.pairwise_map]
  exact h.once) (fun x hx=>by
  simp only[List.mem_map]at hx
  obtain⟨t,ht,rfl⟩:=hx
  have h1:=(h.mem t.1 t.2).1 ht
  refine hK t.1 ?_
  cases hh:Maps.has D (.int .i64 t.1) with
  |true=>rfl
  |false=>rw[coefOf_none hh]at h1;exact absurd h1.2.1.symm h1.2.2)
 simpa using this
theorem terms34k (b n : Nat) (D : DataW Unit) (w : World) (hown : w.ownsMap Tryz.prog 3 (plainElem Tryz.prog 3) b n D) (hn : ∀ left acc, Coll D left acc → acc.length ≤ 1000000) :
    Calls Tryz.prog 40 #[.map (some b)] w fun e w'=>∃ v l,e=.returned v/\w'.ownsRow w.heap.size 45 2 v l.length (flat l)/\Canon l (coefOf D)/\Below w.heap.size w w':=by
 obtain⟨i0,hi,hz0,hz1,hz2⟩:=info_parts XG8
 have hbl:=hown.lt
 have HL:Hid (∀ left acc,Coll D left acc->acc.length<=1000000):=hn
 clear hn
 go_enter Tryz.func40,Tryz.ntmps40
 go_wp2_with (first|(at_range;refine wpList_range_own _ rfl _ 58 rfl 3 3 law3 Tryz.underlying58 _ b n _ rfl hown ?_;intro w0 hrg0 hg0 hs0)|go_in)
 go_frame
 go_loopw [3] (fun v wr => ∃ (left : Lit → Bool) (cnt : Nat) (acc : List (Int × Int)), wr.ranges Tryz.prog 3 (plainElem Tryz.prog 3) b w.heap.size n D left cnt ∧
     wr.ownsRow w.heap.size 45 2 v acc.length (flat acc)/\Hid (Coll D left acc)/\Below w.heap.size w wr)
  (fun _ wr=>wr.rangeLeft b w.heap.size)
 case atStart=>
  exact⟨_,_,[],hrg0,World.ownsRow_nil _ _ _ _,QG9 D,(Below.refl _ _).grown hg0 (Nat.le_refl _) (fun j hj=>by cases hj)⟩
 case round=>
  obtain⟨left,cnt,acc,hrg,hrow,hC,hnx⟩:=hrel
  have hal:=HL.out _ _ hC.out
  go_wp2_with (first
   |(at_next;refine wpList_next_ranges_ii _ rfl _ rfl 3 3 .i64 .i64 law3 Tryz.underlying3 Tryz.underlying3 b w.heap.size n _ _ _ rfl hrg ?_ ?_)
   |go_in)
  · intro hc0 hl0
    have hc:=XX0 w.heap.size _ acc _ (by omega) hrow
    go_wp2_with (go_at_call 66;refine hc.mono ?_;rintro e w' ⟨rfl,l,hp,hs,hrow2,hg2⟩)
    go_ret
    refine⟨_,l,rfl,hrow2,XA0 hC.out hl0 hp hs,hnx.grown hg2 hnx.size (fun k hk=>(hrow.lt k hk).1)⟩
  · intro x c w1 cnt1 hwx hwc hlx hat hrg1 hlt hg1 hs1 hen
    have hrow1:=hrow.kept hg1 (Or.inr (row_ne_iter hrow hrg).symm)
    have hnx1:Below w.heap.size w w1:=hnx.grown hg1 hnx.size (fun j hj=>by cases hj;exact Nat.le_refl _)
    have Hat:Hid _:=hat
    clear hs1 hat
    by_cases hc:c=0
    · subst hc
      go_wp2
      go_roundw
      case rel=>exact⟨_,cnt1,acc,hrg1,hrow1,Qq6 hC.out Hat.out,hnx1⟩
      case measure=>rw[hrg1.left_eq,hrg.left_eq];exact hlt
    · have hcb:(c != 0)=true:=by rw[bne_iff_ne];exact hc
      have HC0:Hid (c≠0):=hc
      have hsz1:=hnx1.size
      clear hc
      go_wp2_with (first
       |(at_builtin;refine wpList_append_own _ rfl _ _ 26 rfl w.heap.size 45 i0 (.agg #[.int .i64 0,.int .i64 0]) 2 16 Tryz.underlying26 hi hz0 hz1 hz2 rfl (by decide) _ _ _ rfl (hrow1.alloc _) ⟨w1.heap.size,0,none⟩ 1 1 [.int .i64 x,.int .i64 c] rfl rfl (XZ0 _ _ _) (XG2 _ _) (by unfold maxLen;omega) (by omega) (by simp;omega) ?_;intro v' w3 hown' hg3 _;go_frame)
       |go_in)
      have hrg3:=(hrg1.alloc _).kept hg3 (row_ne_low hrow1 hbl) (row_ne_iter hrow1 hrg1)
      go_roundw
      case rel=>
       refine⟨_,cnt1,acc++[(x,c)],hrg3,?_,Qq7 hC.out hlx HC0.out Hat.out,(hnx1.alloc hsz1 _).grown hg3 (by simp;omega) (fun j hj=>(hrow1.lt j hj).1)⟩
       rw[flat_append,List.length_append]
       exact hown'
      case measure=>rw[hrg3.left_eq,hrg.left_eq];exact hlt
end Go.Proofs.YtookanmeflbdlaaGreatDoor.Poly

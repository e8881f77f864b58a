/- Several texts of the proof, one behind the other. -/
import Derived.Test.YtiliihlkpknhdaaDoorAD5P
import Derived.Test.YtiliihlkpknhdaaDoorPDetP
import Derived.Test.YtiliihlkpknhdaaDoorPA10P
/- The walk of knotworkref.DetMay. -/
namespace Go.Proofs.YtiliihlkpknhdaaDoor.Poly
open Go.RowKit Go.Maps
def detMayN (T:List (List (List (Int×Int)))):Int:=if squareB T=false then 2 else if everyB mayB T=false then 1 else if everyB fewB T=false then 3 else 0
theorem detMay_size {T:List (List (List (Int×Int)))} (h:squareB T=false):detMayN T=2:=by unfold detMayN;rw[if_pos h]
theorem detMay_form {T:List (List (List (Int×Int)))} (h:squareB T=true) (h1:everyB mayB T=false):detMayN T=1:=by unfold detMayN;rw[if_neg (by simp[h]),if_pos h1]
theorem detMay_range {T:List (List (List (Int×Int)))} (h:squareB T=true) (h1:everyB mayB T=true) (h2:everyB fewB T=false):detMayN T=3:=by unfold detMayN;rw[if_neg (by simp[h]),if_neg (by simp[h1]),if_pos h2]
theorem detMay_ok {T:List (List (List (Int×Int)))} (h:squareB T=true) (h1:everyB mayB T=true) (h2:everyB fewB T=true):detMayN T=0:=by unfold detMayN;rw[if_neg (by simp[h]),if_neg (by simp[h1]),if_neg (by simp[h2])]
end Go.Proofs.YtiliihlkpknhdaaDoor.Poly
/- The columns of a set of bits, and a last row taken column by column. Plain mathematics: no program is named here. -/
namespace Go.Proofs.YtiliihlkpknhdaaDoor.Poly
def picksE:List Nat->List (Int×Nat×List Nat)
 |[]=>[]
 |c::cs=>(sgn cs.length,c,cs)::(picksE cs).map fun p=>(p.1,p.2.1,c::p.2.2)
def sumE (b:Nat->List (Int×Int)) (h:List Nat->Int->Int):List (Int×Nat×List Nat)->Int->Int
 |[],_=>0
 |p::ps,y=>p.1*prodL (b p.2.1) (h p.2.2) y+sumE b h ps y
theorem sumE_map (b:Nat->List (Int×Int)) (h:List Nat->Int->Int) (c:Nat) (ps:List (Int×Nat×List Nat)) (y:Int):sumE b h (ps.map fun p=>(p.1,p.2.1,c::p.2.2)) y=sumE b (fun r=>h (c::r)) ps y:=by
 induction ps with
 |nil=>rfl
 |cons p ps ih=>simp only[List.map_cons,sumE,ih]
theorem rowE_picks (b:Nat->List (Int×Int)) (h:List Nat->Int->Int) (cs:List Nat) (y:Int):rowE b cs h y=sumE b h (picksE cs) y:=by
 induction cs generalizing h with
 |nil=>rfl
 |cons c cs ih=>simp only[rowE,picksE,sumE,sumE_map,ih]
theorem sumE_append (b:Nat->List (Int×Int)) (h:List Nat->Int->Int) (ps qs:List (Int×Nat×List Nat)) (y:Int):sumE b h (ps++qs) y=sumE b h ps y+sumE b h qs y:=by
 induction ps with
 |nil=>simp[sumE]
 |cons p ps ih=>simp only[List.cons_append,sumE,ih];omega
def colsOf (s:Nat):List Nat:=(List.range 10).filter fun c=>(s >>> c)%2==1
def signOf (s c:Nat):Int:=if onesTo (s >>> c) 10%2=0 then -1 else 1
def progE (s m:Nat):List (Int×Nat×List Nat):=((List.range m).filter fun c=>(s >>> c)%2==1).map fun c=>(signOf s c,c,colsOf (s-2 ^ c))
theorem prog_next (s m:Nat):progE s (m+1)=progE s m++(if(s >>> m)%2=1 then [(signOf s m,m,colsOf (s-2 ^ m))] else []):=by
 unfold progE
 rw[List.range_succ,List.filter_append,List.map_append]
 congr 1
 by_cases h:(s >>> m)%2=1
 · simp[h]
 · simp[h]
theorem prog_all:∀ s,s<1024->progE s 10=picksE (colsOf s):=by decide +kernel
theorem prog_few_all:((List.range 11).all fun n=>(List.range (2 ^ n)).all fun s=>decide (progE s n=progE s 10))=true:=by decide +kernel
theorem prog_few (n:Nat) (hn:n<11) (s:Nat) (hs:s<2 ^ n):progE s n=progE s 10:=by
 have h:=prog_few_all
 simp only[List.all_eq_true,List.mem_range,decide_eq_true_eq]at h
 exact h n hn s hs
theorem cols_len:∀ s,s<1024->(colsOf s).length=onesTo s 10:=by decide +kernel
theorem cols_full:∀ n,n<11->colsOf (2 ^ n-1)=List.range n:=by decide +kernel
theorem cols_less:∀ s,s<1024->∀ c,c<10->(s >>> c)%2=1->s-2 ^ c<s/\onesTo (s-2 ^ c) 10+1=onesTo s 10:=by decide +kernel
theorem ones_le:∀ n,n<11->∀ s,s<2 ^ n->onesTo s 10<=n/\(0<s->0<onesTo s 10):=by decide +kernel
theorem rowE_prog (b:Nat->List (Int×Int)) (h:List Nat->Int->Int) (n s:Nat) (hn:n<11) (hs:s<2 ^ n) (y:Int):sumE b h (progE s n) y=rowE b (colsOf s) h y:=by
 have h64:s<1024:=Nat.lt_of_lt_of_le hs (Nat.pow_le_pow_right (n:=2) (by decide) (show n<=10 by omega))
 rw[rowE_picks,prog_few n hn s hs,prog_all s h64]
end Go.Proofs.YtiliihlkpknhdaaDoor.Poly
/- The minors of a table by sets of columns, and their bounds. Plain mathematics: no program is named here. -/
namespace Go.Proofs.YtiliihlkpknhdaaDoor.Poly
def rowAt (T:List (List (List (Int×Int)))) (k:Nat) (c:Nat):List (Int×Int):=(T.getD k []).getD c []
def lastRows (T:List (List (List (Int×Int)))):Nat->List (Nat->List (Int×Int))
 |0=>[]
 |k+1=>rowAt T k::lastRows T k
def minorF (T:List (List (List (Int×Int)))) (s:Nat):Int->Int:=detE (lastRows T (onesTo s 10)) (colsOf s)
def bd:Nat->Nat
 |0=>1
 |k+1=>(k+1)*(4*bd k)
def szd:Nat->Nat
 |0=>1
 |k+1=>(k+1)*(4*szd k)
theorem prodL_abs (l : List (Int × Int)) (g : Int → Int) (H : Nat) (hg : ∀ x, (g x).natAbs ≤ H) (y : Int) (k : Nat) (hk : k ≤ l.length) :
    ((prodL (l.take k) g y).natAbs:Int)<=sizeTo l k*(H:Int):=by
 induction k with
 |zero=>simp[sizeTo,prodL]
 |succ k ih=>
  have ih:=ih (by omega)
  have hk':k<l.length:=by omega
  rw[List.take_succ_eq_append_getElem hk',prodL_append,sizeTo]
  have g0:l.getD k (0,0)=l[k]:=by simp[List.getD,hk']
  rw[g0,Int.add_mul]
  have e:prodL [l[k]] g y=l[k].2*g (y-l[k].1):=by simp[prodL]
  rw[e]
  have e1:((l[k].2*g (y-l[k].1)).natAbs:Int)<=absI l[k].2*(H:Int):=by
   have h:(l[k].2*g (y-l[k].1)).natAbs<=l[k].2.natAbs*H:=by
    rw[Int.natAbs_mul]
    exact Nat.mul_le_mul (Nat.le_refl _) (hg _)
   have ha:absI l[k].2=(l[k].2.natAbs:Int):=by unfold absI;split<;>omega
   rw[ha,<-Int.natCast_mul]
   exact Int.ofNat_le.2 h
  have e2:=Int.natAbs_add_le (prodL (l.take k) g y) (l[k].2*g (y-l[k].1))
  omega
theorem prodL_100 (l:List (Int×Int)) (hl:sizeL l<=4) (g:Int->Int) (H:Nat) (hg:∀ x,(g x).natAbs<=H) (y:Int):(prodL l g y).natAbs<=4*H:=by
 have h:=prodL_abs l g H hg y l.length (Nat.le_refl _)
 rw[List.take_length]at h
 have h2:sizeTo l l.length*(H:Int)<=4*(H:Int):=Int.mul_le_mul_of_nonneg_right hl (by omega)
 omega
theorem sumE_abs (b : Nat → List (Int × Int)) (h : List Nat → Int → Int) (H : Nat) (ps : List (Int × Nat × List Nat)) (hp : ∀ p ∈ ps, p.1.natAbs ≤ 1 ∧ sizeL (b p.2.1) ≤ 4 ∧ ∀ x, (h p.2.2 x).natAbs ≤ H) (y : Int) :
    (sumE b h ps y).natAbs<=ps.length*(4*H):=by
 induction ps with
 |nil=>simp[sumE]
 |cons p ps ih=>
  have h1:=hp p (by simp)
  have h2:=ih fun q hq=>hp q (by simp[hq])
  have h3:=prodL_100 (b p.2.1) h1.2.1 (h p.2.2) H h1.2.2 y
  have h4:(p.1*prodL (b p.2.1) (h p.2.2) y).natAbs<=1*(4*H):=by
   rw[Int.natAbs_mul]
   exact Nat.mul_le_mul h1.1 h3
  have h5:=Int.natAbs_add_le (p.1*prodL (b p.2.1) (h p.2.2) y) (sumE b h ps y)
  rw[sumE,List.length_cons,Nat.add_mul]
  omega
theorem prog_mem {s m:Nat} {p:Int×Nat×List Nat} (h:p∈progE s m):∃ c,c<m/\(s >>> c)%2=1/\p=(signOf s c,c,colsOf (s-2 ^ c)):=by
 unfold progE at h
 simp only[List.mem_map,List.mem_filter,List.mem_range,beq_iff_eq]at h
 obtain⟨c,⟨h1,h2⟩,h3⟩:=h
 exact⟨c,h1,h2,h3.symm⟩
theorem prog_len:∀ s,s<1024->∀ m,m<11->(progE s m).length<=onesTo s 10:=by decide +kernel
theorem sign_le (s c:Nat):(signOf s c).natAbs<=1:=by unfold signOf;split<;>decide
theorem minor_zero (T:List (List (List (Int×Int)))):minorF T 0=oneF:=rfl
theorem minor_prog (T : List (List (List (Int × Int)))) (n s k : Nat) (hn : n < 11) (hs : s < 2 ^ n) (hk : onesTo s 10 = k + 1) (y : Int) :
    sumE (rowAt T k) (detE (lastRows T k)) (progE s n) y=minorF T s y:=by
 rw[rowE_prog _ _ n s hn hs]
 unfold minorF
 rw[hk]
 rfl
theorem minor_less (T:List (List (List (Int×Int)))) (s k c:Nat) (hs:s<1024) (hc:c<10) (hb:(s >>> c)%2=1) (hk:onesTo s 10=k+1):detE (lastRows T k) (colsOf (s-2 ^ c))=minorF T (s-2 ^ c)/\onesTo (s-2 ^ c) 10=k:=by
 have h:=(cols_less s hs c hc hb).2
 have e:onesTo (s-2 ^ c) 10=k:=by omega
 unfold minorF
 rw[e]
 exact⟨rfl,rfl⟩
theorem pow_64 {n s:Nat} (hn:n<11) (hs:s<2 ^ n):s<1024:=Nat.lt_of_lt_of_le hs (Nat.pow_le_pow_right (n:=2) (by decide) (show n<=10 by omega))
theorem minor_abs (T:List (List (List (Int×Int)))) (n:Nat) (hn:n<11) (hT:∀ i c,i<n->c<n->sizeL (rowAt T i c)<=4):∀ s,s<2 ^ n->∀ y,(minorF T s y).natAbs<=bd (onesTo s 10):=by
 intro s
 induction s using Nat.strongRecOn with
 |ind s ih=>
  intro hs y
  have h64:=pow_64 hn hs
  rcases hk:onesTo s 10 with _|k
  · unfold minorF
    rw[hk]
    show(oneF y).natAbs<=1
    unfold oneF
    split<;>decide
  · rw[<-minor_prog T n s k hn hs hk]
    have ho:=(ones_le n hn s hs).1
    have h := sumE_abs (rowAt T k) (detE (lastRows T k)) (bd k) (progE s n) (fun p hp => by
     obtain⟨c,hc,hb,rfl⟩:=prog_mem hp
     have hl:=cols_less s h64 c (by omega) hb
     obtain⟨e1,e2⟩:=minor_less T s k c h64 (by omega) hb hk
     refine⟨sign_le s c,hT k c (by omega) hc,fun x=>?_⟩
     rw[e1]
     have:=ih (s-2 ^ c) hl.1 (by omega) x
     rw[e2]at this
     exact this) y
    have hlen:=prog_len s h64 n hn
    rw[hk]at hlen
    exact Nat.le_trans h (Nat.mul_le_mul_right _ hlen)
theorem part_abs (T : List (List (List (Int × Int)))) (n : Nat) (hn : n < 11) (hT : ∀ i c, i < n → c < n → sizeL (rowAt T i c) ≤ 4) (s k m : Nat) (hs : s < 2 ^ n) (hk : onesTo s 10 = k + 1) (hm : m ≤ n) (y : Int) :
    (sumE (rowAt T k) (detE (lastRows T k)) (progE s m) y).natAbs<=bd (k+1):=by
 have h64:=pow_64 hn hs
 have ho:=(ones_le n hn s hs).1
 have h := sumE_abs (rowAt T k) (detE (lastRows T k)) (bd k) (progE s m) (fun p hp => by
  obtain⟨c,hc,hb,rfl⟩:=prog_mem hp
  have hl:=cols_less s h64 c (by omega) hb
  obtain⟨e1,e2⟩:=minor_less T s k c h64 (by omega) hb hk
  refine⟨sign_le s c,hT k c (by omega) (by omega),fun x=>?_⟩
  rw[e1]
  have:=minor_abs T n hn hT (s-2 ^ c) (by omega) x
  rw[e2]at this
  exact this) y
 have hlen:=prog_len s h64 m (by omega)
 rw[hk]at hlen
 exact Nat.le_trans h (Nat.mul_le_mul_right _ hlen)
theorem bd_le:∀ k,k<11->bd k<=1000000000000000/\(k<10->bd k<=2000000000000):=by decide +kernel
theorem szd_le:∀ k,k<11->szd k<=1000000000000000/\(k<10->szd k<=10000000000000):=by decide +kernel
theorem sum_next (b:Nat->List (Int×Int)) (h:List Nat->Int->Int) (s m:Nat) (hb:(s >>> m)%2=1) (y:Int):sumE b h (progE s (m+1)) y=sumE b h (progE s m) y+signOf s m*prodL (b m) (h (colsOf (s-2 ^ m))) y:=by
 rw[prog_next,if_pos hb,sumE_append]
 simp[sumE]
theorem sum_skip (s m:Nat) (hb:¬(s >>> m)%2=1):progE s (m+1)=progE s m:=by
 rw[prog_next,if_neg hb]
 simp
theorem len_next (s m:Nat) (hb:(s >>> m)%2=1):(progE s (m+1)).length=(progE s m).length+1:=by
 rw[prog_next,if_pos hb]
 simp
theorem lastRows_eq (T:List (List (List (Int×Int)))) (k:Nat):lastRows T k=((List.range k).map (rowAt T)).reverse:=by
 induction k with
 |zero=>rfl
 |succ k ih=>simp[lastRows,ih,List.range_succ]
theorem minor_full (T:List (List (List (Int×Int)))) (n:Nat) (hn:n<11):minorF T (2 ^ n-1)=detF ((List.range n).map (rowAt T)) (List.range n):=by
 have h0:0<2 ^ n:=Nat.pow_pos (by decide)
 have e:onesTo (2 ^ n-1) 10=n:=by
  have:=cols_len (2 ^ n-1) (pow_64 hn (by omega))
  rw[cols_full n hn]at this
  simpa using this.symm
 unfold minorF
 rw[e,cols_full n hn,lastRows_eq,det_same n _ _ (by simp) (by simp)]
end Go.Proofs.YtiliihlkpknhdaaDoor.Poly
/- Determinants along the first row, their exponents and their bounds. Plain mathematics: no program is named here. -/
namespace Go.Proofs.YtiliihlkpknhdaaDoor.Poly
theorem few_nats:∀ (n:Nat) (l:List Nat),l.Pairwise (·≠·)->(∀ x∈l,x<n)->l.length<=n:=by
 intro n
 induction n with
 |zero=>
  intro l _ h
  cases l with
  |nil=>simp
  |cons x l=>exact absurd (h x (by simp)) (by omega)
 |succ n ih=>
  intro l hp h
  have h1 := ih (l.filter fun x => x != n) (hp.sublist List.filter_sublist) (fun x hx => by
   simp only[List.mem_filter,bne_iff_ne,ne_eq]at hx
   have:=h x hx.1
   omega)
  have h2:∀ (l:List Nat),l.Pairwise (·≠·)->l.length<=(l.filter fun x=>x != n).length+1:=by
   intro l hp
   induction l with
   |nil=>simp
   |cons x l ihl=>
    rw[List.pairwise_cons]at hp
    by_cases hx:x=n
    · have e : (l.filter fun x => x != n) = l := by
        rw[List.filter_eq_self]
        intro y hy
        have:=hp.1 y hy
        simp only[bne_iff_ne,ne_eq]
        omega
      simp[hx,e]
    · have:=ihl hp.2
      simp[hx]
      omega
  have:=h2 l hp
  omega
theorem few_ints (K:Nat) (l:List Int) (hp:l.Pairwise (·≠·)) (h:∀ x∈l,-(K:Int)<=x/\x<=K):l.length<=2*K+1:=by
 have := few_nats (2 * K + 1) (l.map fun x : Int => (x + (K : Int)).toNat) (by
  rw[List.pairwise_map]
  refine List.Pairwise.imp_of_mem ?_ hp
  intro a b ha hb hab e
  have:=h a ha
  have:=h b hb
  omega) (fun x hx=>by
  simp only[List.mem_map]at hx
  obtain⟨y,hy,rfl⟩:=hx
  have:=h y hy
  omega)
 simpa using this
theorem canon_len {l:List (Int×Int)} {f:Int->Int} (h:Canon l f) (K:Nat) (hf:∀ x,f x≠0 -> -(K:Int)<=x/\x<=K):l.length<=2*K+1:=by
 have := few_ints K (l.map Prod.fst) (by
  rw[List.pairwise_map]
  exact h.1.imp fun hab=>by omega) (fun x hx=>by
  simp only[List.mem_map]at hx
  obtain⟨t,ht,rfl⟩:=hx
  have:=(h.2 t.1 t.2).1 ht
  exact hf t.1 (by rw[this.1];exact this.2))
 simpa using this
def altTo (g:Nat->Int->Int):Nat->Int->Int
 |0,_=>0
 |m+1,y=>altTo g m y+sgn m*g m y
theorem altTo_shift (g:Nat->Int->Int) (m:Nat) (y:Int):altTo g (m+1) y=g 0 y-altTo (fun j=>g (j+1)) m y:=by
 induction m with
 |zero=>simp[altTo,sgn]
 |succ m ih=>
  have e:altTo g (m+1+1) y=altTo g (m+1) y+sgn (m+1)*g (m+1) y:=rfl
  have e2:altTo (fun j=>g (j+1)) (m+1) y=altTo (fun j=>g (j+1)) m y+sgn m*g (m+1) y:=rfl
  have e3:sgn (m+1)*g (m+1) y = -(sgn m*g (m+1) y):=by simp only[sgn,Int.neg_mul]
  rw[e,ih,e2,e3]
  omega
theorem rowF_alt (a:Nat->List (Int×Int)) (cs:List Nat) (h:List Nat->Int->Int) (y:Int):rowF a cs h y=altTo (fun j=>prodL (a (cs.getD j 0)) (h (cs.eraseIdx j))) cs.length y:=by
 induction cs generalizing h with
 |nil=>rfl
 |cons c cs ih=>
  rw[List.length_cons,altTo_shift]
  simp only[rowF,ih]
  rfl
theorem rowF_map (a:Nat->List (Int×Int)) (p:Nat->Nat) (cs:List Nat) (h:List Nat->Int->Int) (y:Int):rowF a (cs.map p) h y=rowF (fun c=>a (p c)) cs (fun rest=>h (rest.map p)) y:=by
 induction cs generalizing h with
 |nil=>rfl
 |cons c cs ih=>simp only[List.map_cons,rowF,ih]
theorem detF_map (rows:List (Nat->List (Int×Int))) (p:Nat->Nat):∀ cs,detF rows (cs.map p)=detF (rows.map fun r c=>r (p c)) cs:=by
 induction rows with
 |nil=>intro cs;rfl
 |cons r rows ih=>
  intro cs
  funext y
  simp only[detF,List.map_cons,rowF_map]
  have e:(fun rest=>detF rows (rest.map p))=detF (rows.map fun r c=>r (p c)):=funext ih
  rw[e]
def skip (c i:Nat):Nat:=if i<c then i else i+1
theorem range_skip (n c:Nat) (hc:c<n+1):(List.range (n+1)).eraseIdx c=(List.range n).map (skip c):=by
 apply List.ext_getElem?
 intro i
 rw[List.getElem?_eraseIdx,List.getElem?_map]
 unfold skip
 by_cases h:i<c
 · rw[if_pos h,List.getElem?_range (by omega),List.getElem?_range (by omega)]
   simp[h]
 · rw[if_neg h]
   by_cases hi:i<n
   · rw[List.getElem?_range (by omega),List.getElem?_range (by omega)]
     simp[h]
   · rw[List.getElem?_eq_none (by simp;omega),List.getElem?_eq_none (by simp;omega)]
     rfl
theorem erase_skip {α:Type} (l:List α) (c i:Nat) (d:α):(l.eraseIdx c).getD i d=l.getD (skip c i) d:=by
 unfold skip List.getD
 rw[List.getElem?_eraseIdx]
 split<;>rfl
def rowsOf (T:List (List (List (Int×Int)))):List (Nat->List (Int×Int)):=T.map fun R c=>R.getD c []
def detOf (T:List (List (List (Int×Int)))):Int->Int:=detF (rowsOf T) (List.range T.length)
def lessOf (T:List (List (List (Int×Int)))) (c:Nat):List (List (List (Int×Int))):=T.tail.map fun R=>R.eraseIdx c
theorem detOf_less (R:List (List (Int×Int))) (T:List (List (List (Int×Int)))) (c:Nat) (hc:c<T.length+1):detOf (lessOf (R::T) c)=detF (rowsOf T) ((List.range (T.length+1)).eraseIdx c):=by
 rw[range_skip _ _ hc,detF_map]
 unfold detOf lessOf rowsOf
 simp only[List.tail_cons,List.map_map,List.length_map]
 congr 1
 apply List.map_congr_left
 intro Q _
 funext i
 simp only[Function.comp]
 exact erase_skip Q c i []
theorem detOf_cons (R:List (List (Int×Int))) (T:List (List (List (Int×Int)))) (y:Int):detOf (R::T) y=altTo (fun c=>prodL (R.getD c []) (detOf (lessOf (R::T) c))) (T.length+1) y:=by
 have e:detOf (R::T) y=rowF (fun c=>R.getD c []) (List.range (T.length+1)) (detF (rowsOf T)) y:=rfl
 rw[e,rowF_alt,List.length_range]
 have g:∀ m,m<=T.length+1->altTo (fun j=>prodL (R.getD ((List.range (T.length+1)).getD j 0) []) (detF (rowsOf T) ((List.range (T.length+1)).eraseIdx j))) m y=altTo (fun c=>prodL (R.getD c []) (detOf (lessOf (R::T) c))) m y:=by
  intro m hm
  induction m with
  |zero=>rfl
  |succ m ih=>
   simp only[altTo]
   rw[ih (by omega),detOf_less R T m (by omega)]
   have e2:(List.range (T.length+1)).getD m 0=m:=by simp[List.getD,show m<T.length+1 by omega]
   rw[e2]
 exact g _ (Nat.le_refl _)
theorem rowsOf_range (T:List (List (List (Int×Int)))):(List.range T.length).map (rowAt T)=rowsOf T:=by
 apply List.ext_getElem?
 intro i
 unfold rowsOf rowAt
 rw[List.getElem?_map,List.getElem?_map]
 by_cases h:i<T.length
 · rw[List.getElem?_range h]
   simp[List.getD,h]
 · rw[List.getElem?_eq_none (by simp;omega),List.getElem?_eq_none (by omega)]
   rfl
theorem minor_det (T:List (List (List (Int×Int)))) (h:T.length<11):minorF T (2 ^ T.length-1)=detOf T:=by
 rw[minor_full T T.length h,rowsOf_range]
 rfl
def GoodT (T:List (List (List (Int×Int)))) (n:Nat):Prop:=T.length=n/\∀ R∈T,R.length=n/\∀ l∈R,mayB l=true/\sizeL l<=4
theorem getD_mem {α:Type} (l:List α) (i:Nat) (d:α) (h:i<l.length):l.getD i d∈l:=by
 have e:l.getD i d=l[i]:=by simp[List.getD,h]
 rw[e]
 exact List.getElem_mem h
theorem good_at {T:List (List (List (Int×Int)))} {n:Nat} (h:GoodT T n) {i c:Nat} (hi:i<n) (hc:c<n):mayB ((T.getD i []).getD c [])=true/\sizeL ((T.getD i []).getD c [])<=4:=by
 have h1:=h.2 _ (getD_mem T i [] (by have:=h.1;omega))
 exact h1.2 _ (getD_mem _ c [] (by have:=h1.1;omega))
theorem altTo_supp (g:Nat->Int->Int) (m:Nat) (y:Int) (h:altTo g m y≠0):∃ j,j<m/\g j y≠0:=by
 induction m with
 |zero=>exact absurd rfl h
 |succ m ih=>
  by_cases h0:g m y=0
  · obtain⟨j,hj,hg⟩:=ih (fun e=>h (by simp[altTo,h0,e]))
    exact⟨j,by omega,hg⟩
  · exact⟨m,by omega,h0⟩
theorem ones_full (n:Nat) (hn:n<11):onesTo (2 ^ n-1) 10=n:=by
 have h0:0<2 ^ n:=Nat.pow_pos (by decide)
 have:=cols_len (2 ^ n-1) (pow_64 hn (by omega))
 rw[cols_full n hn]at this
 simpa using this.symm
theorem sgn_one (m:Nat):sgn m=1∨sgn m = -1:=by
 induction m with
 |zero=>exact Or.inl rfl
 |succ m ih=>simp only[sgn];omega
end Go.Proofs.YtiliihlkpknhdaaDoor.Poly
/- Burau's tables: plain mathematics of polynomials as functions. -/
namespace Go.Proofs.YtiliihlkpknhdaaDoor.Poly
open Go.RowKit Go.Maps
theorem few_natsB:∀ (n:Nat) (l:List Nat),l.Pairwise (·≠·)->(∀ x∈l,x<n)->l.length<=n:=by
 intro n
 induction n with
 |zero=>
  intro l _ h
  cases l with
  |nil=>simp
  |cons x l=>exact absurd (h x (by simp)) (by omega)
 |succ n ih=>
  intro l hp h
  have h1 := ih (l.filter fun x => x != n) (hp.sublist List.filter_sublist) (fun x hx => by
   simp only[List.mem_filter,bne_iff_ne,ne_eq]at hx
   have:=h x hx.1
   omega)
  have h2:∀ (l:List Nat),l.Pairwise (·≠·)->l.length<=(l.filter fun x=>x != n).length+1:=by
   intro l hp
   induction l with
   |nil=>simp
   |cons x l ihl=>
    rw[List.pairwise_cons]at hp
    by_cases hx:x=n
    · have e : (l.filter fun x => x != n) = l := by
        rw[List.filter_eq_self]
        intro y hy
        have:=hp.1 y hy
        simp only[bne_iff_ne,ne_eq]
        omega
      simp[hx,e]
    · have:=ihl hp.2
      simp[hx]
      omega
  have:=h2 l hp
  omega
theorem few_intsB (K:Nat) (l:List Int) (hp:l.Pairwise (·≠·)) (h:∀ x∈l,-(K:Int)<=x/\x<=K):l.length<=2*K+1:=by
 have := few_natsB (2 * K + 1) (l.map fun x : Int => (x + (K : Int)).toNat) (by
  rw[List.pairwise_map]
  refine List.Pairwise.imp_of_mem ?_ hp
  intro a b ha hb hab e
  have:=h a ha
  have:=h b hb
  omega) (fun x hx=>by
  simp only[List.mem_map]at hx
  obtain⟨y,hy,rfl⟩:=hx
  have:=h y hy
  omega)
 simpa using this
theorem canon_lenB {l:List (Int×Int)} {f:Int->Int} (h:Canon l f) (K:Nat) (hf:∀ x,f x≠0 -> -(K:Int)<=x/\x<=K):l.length<=2*K+1:=by
 have := few_intsB K (l.map Prod.fst) (by
  rw[List.pairwise_map]
  exact h.1.imp fun hab=>by omega) (fun x hx=>by
  simp only[List.mem_map]at hx
  obtain⟨t,ht,rfl⟩:=hx
  have:=(h.2 t.1 t.2).1 ht
  exact hf t.1 (by rw[this.1];exact this.2))
 simpa using this
theorem canon_coefB {l:List (Int×Int)} {f:Int->Int} (h:Canon l f) (x:Int):coefL l x=f x:=by
 have hn:l.Pairwise (fun a b=>a.1≠b.1):=h.1.imp fun hab=>by omega
 have hz:∀ t∈l,t.2≠0:=fun t ht=>((h.2 t.1 t.2).1 ht).2
 by_cases h0:f x=0
 · rw[h0]
   by_cases h1:coefL l x=0
   · exact h1
   · have:=(coefL_mem hn hz x (coefL l x)).2 ⟨rfl,h1⟩
     have:=((h.2 x (coefL l x)).1 this).1
     rw[h0]at this
     exact this.symm
 · have:=(h.2 x (f x)).2 ⟨rfl,h0⟩
   exact((coefL_mem hn hz x (f x)).1 this).1
theorem coll_lenB {D:DataW Unit} {left:Lit->Bool} {acc:List (Int×Int)} (h:Coll D left acc) (N:Nat) (hK:KeysIn D (N:Int)):acc.length<=2*N+1:=by
 have := few_intsB N (acc.map Prod.fst) (by
  rw[List.pairwise_map]
  exact h.once) (fun x hx=>by
  simp only[List.mem_map]at hx
  obtain⟨t,ht,rfl⟩:=hx
  have h1:=(h.mem t.1 t.2).1 ht
  refine hK t.1 ?_
  cases hh:Maps.has D (.int .i64 t.1) with
  |true=>rfl
  |false=>rw[coefOf_none hh]at h1;exact absurd h1.2.1.symm h1.2.2)
 simpa using this
theorem prodL_point (a:List (Int×Int)) (z d y:Int):prodL a (fun u=>if z=u then d else 0) y=d*coefL a (y-z):=by
 induction a with
 |nil=>simp[prodL,coefL]
 |cons t a ih=>
  simp only[prodL,coefL,ih,Int.mul_add]
  congr 1
  by_cases e:t.1=y-z
  · rw[if_pos (by omega),if_pos e,Int.mul_comm]
  · rw[if_neg (by omega),if_neg e];simp
theorem prodL_sum (a:List (Int×Int)) (f g:Int->Int) (y:Int):prodL a (fun u=>f u+g u) y=prodL a f y+prodL a g y:=by
 induction a with
 |nil=>simp[prodL]
 |cons t a ih=>simp only[prodL,ih,Int.mul_add];omega
theorem prodL_comm (a b:List (Int×Int)) (y:Int):prodL a (coefL b) y=prodL b (coefL a) y:=by
 induction b with
 |nil=>
  have:∀ a:List (Int×Int),prodL a (coefL []) y=0:=fun a=>by
   induction a with
   |nil=>rfl
   |cons t a ih=>
    show t.2*coefL [] (y-t.1)+prodL a (coefL []) y=0
    rw[ih]
    show t.2*0+0=0
    omega
  rw[this]
  rfl
 |cons t b ih=>
  have e:coefL (t::b)=fun u=>(if t.1=u then t.2 else 0)+coefL b u:=rfl
  rw[e,prodL_sum,prodL_point,ih]
  rfl
theorem prodL_congr (a:List (Int×Int)) (f g:Int->Int) (h:∀ u,f u=g u) (y:Int):prodL a f y=prodL a g y:=by rw[show f=g from funext h]
theorem coefL_of {acc:List (Int×Int)} {f:Int->Int} (h:∀ x c,(x,c)∈acc↔(f x=c/\c≠0)) (hp:acc.Pairwise (fun a b=>a.1≠b.1)) (x:Int):coefL acc x=f x:=by
 have hz:∀ t∈acc,t.2≠0:=fun t ht=>((h t.1 t.2).1 ht).2
 by_cases h0:f x=0
 · by_cases h1:coefL acc x=0
   · rw[h0,h1]
   · have:=(coefL_mem hp hz x (coefL acc x)).2 ⟨rfl,h1⟩
     exact((h x _).1 this).1.symm
 · have:=(h x (f x)).2 ⟨rfl,h0⟩
   exact((coefL_mem hp hz x (f x)).1 this).1
def buL (x:Int) (L R:Int->Int) (y:Int):Int:=if 0<x then L y-L (y-1)+R y else R (y+1)
def buR (x:Int) (L R:Int->Int) (y:Int):Int:=if 0<x then L (y-1) else L y+R y-R (y+1)
def buS (x:Int) (F:Nat->Int->Int) (c:Nat):Int->Int:=if c+1=x.natAbs then buL x (F (x.natAbs-1)) (F x.natAbs) else if c=x.natAbs then buR x (F (x.natAbs-1)) (F x.natAbs) else F c
def buT (l:List Int):Nat->Nat->Nat->Int->Int
 |0,r,c,y=>if r=c/\y=0 then 1 else 0
 |k+1,r,c,y=>buS (l.getD k 0) (buT l k r) c y
theorem buT_next (l:List Int) (k r c:Nat):buT l (k+1) r c=buS (l.getD k 0) (buT l k r) c:=rfl
structure BuOk (H K:Nat) (f:Int->Int):Prop where
 bd:∀ y,-(H:Int)<=f y/\f y<=H
 sp:∀ y,f y≠0 -> -(K:Int)<=y/\y<=K
theorem BuOk.mono {H K H' K':Nat} {f:Int->Int} (h:BuOk H K f) (h1:H<=H') (h2:K<=K'):BuOk H' K' f:=⟨fun y=>by have:=h.bd y;omega,fun y hy=>by have:=h.sp y hy;omega⟩
theorem buL_ok {H K:Nat} {L R:Int->Int} (x:Int) (h1:BuOk H K L) (h2:BuOk H K R):BuOk (3*H) (K+1) (buL x L R):=by
 refine⟨fun y=>?_,fun y hy=>?_⟩
 · unfold buL
   have a:=h1.bd y
   have b:=h1.bd (y-1)
   have c:=h2.bd y
   have d:=h2.bd (y+1)
   split<;>omega
 · by_cases e1:L y=0
   · by_cases e2:L (y-1)=0
     · by_cases e3:R y=0
       · by_cases e4:R (y+1)=0
         · exfalso
           apply hy
           unfold buL
           split<;>omega
         · have:=h2.sp _ e4;omega
       · have:=h2.sp _ e3;omega
     · have:=h1.sp _ e2;omega
   · have:=h1.sp _ e1;omega
theorem buR_ok {H K:Nat} {L R:Int->Int} (x:Int) (h1:BuOk H K L) (h2:BuOk H K R):BuOk (3*H) (K+1) (buR x L R):=by
 refine⟨fun y=>?_,fun y hy=>?_⟩
 · unfold buR
   have a:=h1.bd y
   have b:=h1.bd (y-1)
   have c:=h2.bd y
   have d:=h2.bd (y+1)
   split<;>omega
 · by_cases e1:L y=0
   · by_cases e2:L (y-1)=0
     · by_cases e3:R y=0
       · by_cases e4:R (y+1)=0
         · exfalso
           apply hy
           unfold buR
           split<;>omega
         · have:=h2.sp _ e4;omega
       · have:=h2.sp _ e3;omega
     · have:=h1.sp _ e2;omega
   · have:=h1.sp _ e1;omega
theorem buT_ok (l:List Int) (k r c:Nat):BuOk (3 ^ k) k (buT l k r c):=by
 induction k generalizing c with
 |zero=>
  refine⟨fun y=>?_,fun y hy=>?_⟩
  · show -((3 ^ 0:Nat):Int)<=(if r=c/\y=0 then 1 else 0)/\(if r=c/\y=0 then 1 else 0)<=((3 ^ 0:Nat):Int)
    rw[Nat.pow_zero]
    split<;>omega
  · have h0:(if r=c/\y=0 then(1:Int) else 0)≠0:=hy
    by_cases e:r=c/\y=0
    · omega
    · rw[if_neg e]at h0;exact absurd rfl h0
 |succ k ih=>
  rw[buT_next]
  have e3:3 ^ (k+1)=3*3 ^ k:=by rw[Nat.pow_succ,Nat.mul_comm]
  rw[e3]
  unfold buS
  split
  · exact buL_ok _ (ih _) (ih _)
  · split
    · exact buR_ok _ (ih _) (ih _)
    · exact(ih c).mono (by omega) (by omega)
theorem pos_L (x:Int) (hx:0<x) (L R:Int->Int) (y:Int):prodL [(0,1),(1,-1)] L y+prodL [(0,1)] R y=buL x L R y:=by
 unfold buL
 rw[if_pos hx]
 simp only[prodL,Int.sub_zero]
 omega
theorem pos_R (x:Int) (hx:0<x) (L R:Int->Int) (y:Int):prodL [(1,1)] L y+prodL [] R y=buR x L R y:=by
 unfold buR
 rw[if_pos hx]
 simp only[prodL]
 omega
theorem neg_L (x:Int) (hx:¬ 0<x) (L R:Int->Int) (y:Int):prodL [] L y+prodL [(-1,1)] R y=buL x L R y:=by
 unfold buL
 rw[if_neg hx]
 simp only[prodL]
 rw[show y - -1=y+1 by omega]
 omega
theorem neg_R (x:Int) (hx:¬ 0<x) (L R:Int->Int) (y:Int):prodL [(0,1)] L y+prodL [(-1,-1),(0,1)] R y=buR x L R y:=by
 unfold buR
 rw[if_neg hx]
 simp only[prodL,Int.sub_zero]
 rw[show y - -1=y+1 by omega]
 omega
end Go.Proofs.YtiliihlkpknhdaaDoor.Poly
/- The walk of (poly.work).addProduct at any polynomial that may be handed in. -/
namespace Go.Proofs.YtiliihlkpknhdaaDoor.Poly
open Go.RowKit Go.Maps
set_option maxHeartbeats 4000000
set_option maxRecDepth 100000
theorem addp_noneQ (sg : Int) (bp bq nq cap : Nat) (a : Option Addr) (Dq : DataW Unit) (w : World) (hq : w.ownsMap Tryd.prog 3 (plainElem Tryd.prog 3) bq nq Dq) :
    Calls Tryd.prog 50 #[.map (some bp),.map (some bq),.slice a 0 cap,.int .i64 sg] w fun e w'=>e=.returned (.tuple #[])/\w.grownBy w' none:=by
 have hlq:=hq.lt
 go_enter Tryd.func50,Tryd.ntmps50
 go_wp2_with (first
  |(at_range;refine wpList_range_own _ rfl _ 60 rfl 3 3 law3 Tryd.underlying60 _ bq nq _ rfl hq ?_;intro w0 hrg0 hg0 hs0))
 go_frame
 go_loopw [8,9,11] (fun _ _ _ wr=>∃ (left:Lit->Bool) (cnt:Nat),wr.ranges Tryd.prog 3 (plainElem Tryd.prog 3) bq w.heap.size nq Dq left cnt/\w.grownBy wr none)
  (fun _ _ _ wr=>wr.rangeLeft bq w.heap.size)
 case atStart=>exact⟨_,_,hrg0,hg0⟩
 case round=>
  clear hrg0 hg0 hs0
  rename World=>W1
  obtain⟨left,cnt,hrg,hgr⟩:=hrel
  go_wp2_with (first
   |(at_next;refine wpList_next_ranges_ii _ rfl _ rfl 3 3 .i64 .i64 law3 Tryd.underlying3 Tryd.underlying3 bq w.heap.size nq _ _ _ rfl hrg ?_ ?_)
   |go_in)
  · intro hc0 hl0
    go_wp2
    exact bodyPost_end (v:=.tuple #[]) (by simp[results,Tryd.results50,go_sem]) rfl ⟨rfl,hgr⟩
  · intro x c w1 cnt1 hwx hwc hlx hat hrg1 hlt hg1 hs1 hen
    have hgr1:=grown_newQ hgr hg1 (Nat.le_refl _)
    clear hat hlx hs1 hg1 hgr
    go_wp2
    clear hen
    go_loopw [11,21] (fun _ i ws=>i=.int .i64 0/\ws.ranges Tryd.prog 3 (plainElem Tryd.prog 3) bq w.heap.size nq Dq (fun z=>left z&&!z.sameKey (.int .i64 x)) cnt1/\w.grownBy ws none) (fun _ _ _=>0)
    case atStart=>exact⟨rfl,hrg1,hgr1⟩
    case round=>
     rename World=>W2
     obtain⟨rfl,hrq,hgr⟩:=hrel
     go_wp2
     go_roundw
     case rel=>exact⟨_,cnt1,hrq,hgr⟩
     case measure=>rw[hrq.left_eq,hrg.left_eq];exact hlt
theorem not_mapQ {w:World} {bp np b o:Nat} {D:DataW Unit} {v:Value} (hp:w.ownsMap Tryd.prog 3 (plainElem Tryd.prog 3) bp np D) (hc:w.cell? ⟨b,o,none⟩=some v):b≠bp:=by
 rintro rfl
 obtain⟨es,clock,hw,_⟩:=hp
 simp[World.cell?,hw]at hc
theorem addp_polyQ (sg : Int) (hsg : sg = 1 ∨ sg = -1) (bp np bq nq : Nat) (Dp Dq : DataW Unit) (v : Value) (l : List (Int × Int)) (w : World) (hp : w.ownsMap Tryd.prog 3 (plainElem Tryd.prog 3) bp np Dp) (hq : w.ownsMap Tryd.prog 3 (plainElem Tryd.prog 3) bq nq Dq) (hpq : bp ≠ bq)
    (hm:mayB l=true) (hS:sizeL l<=100) (hP:Poly w w.heap.size v l) (hnp:np<=1000000000000000) (hnq:nq<=10000000000000) (K N:Int) (hKN:K+1000<=N) (hN:N<=100000) (hK:0<=K)
    (hkp:KeysIn Dp N) (hkq:KeysIn Dq K) (hvp:∀ x,-1000000000000000<=coefOf Dp x/\coefOf Dp x<=1000000000000000) (hvq:∀ x,-2000000000000<=coefOf Dq x/\coefOf Dq x<=2000000000000):
    Calls Tryd.prog 50 #[.map (some bp),.map (some bq),v,.int .i64 sg] w fun e w'=>∃ D:DataW Unit,e=.returned (.tuple #[])/\w'.ownsMap Tryd.prog 3 (plainElem Tryd.prog 3) bp (np+64*nq) D/\
     (∀ y,coefOf D y=coefOf Dp y+sg*prodL l (coefOf Dq) y)/\KeysIn D N/\w.grownBy w' (some bp):=by
 obtain⟨a,cap,rfl,g⟩:=hP.slice
 rcases Nat.eq_zero_or_pos l.length with h0|h0
 · have e0:l=[]:=List.length_eq_zero_iff.1 h0
   subst e0
   refine(addp_noneQ sg bp bq nq cap a Dq w hq).mono ?_
   rintro e w' ⟨rfl,hg⟩
   exact⟨Dp,rfl,(hp.kept hg (by simp)).mono (by omega),fun y=>by simp[prodL],hkp,grown_noneQ hg _⟩
 · obtain⟨b,off,rfl,hlt,hT⟩:=g h0
   exact addp_someQ sg hsg bp np bq nq b off cap Dp Dq l w hp hq hpq hm hS hlt (not_mapQ hp (hT 0 h0).1) hT hnp hnq K N hKN hN hK hkp hkq hvp hvq
end Go.Proofs.YtiliihlkpknhdaaDoor.Poly
/- The columns of a set of bits, and a last row taken column by column. Plain mathematics: no program is named here. -/
namespace Go.Proofs.YtiliihlkpknhdaaDoor.Poly
def picksEQ:List Nat->List (Int×Nat×List Nat)
 |[]=>[]
 |c::cs=>(sgn cs.length,c,cs)::(picksEQ cs).map fun p=>(p.1,p.2.1,c::p.2.2)
def sumEQ (b:Nat->List (Int×Int)) (h:List Nat->Int->Int):List (Int×Nat×List Nat)->Int->Int
 |[],_=>0
 |p::ps,y=>p.1*prodL (b p.2.1) (h p.2.2) y+sumEQ b h ps y
theorem sumE_mapQ (b:Nat->List (Int×Int)) (h:List Nat->Int->Int) (c:Nat) (ps:List (Int×Nat×List Nat)) (y:Int):sumEQ b h (ps.map fun p=>(p.1,p.2.1,c::p.2.2)) y=sumEQ b (fun r=>h (c::r)) ps y:=by
 induction ps with
 |nil=>rfl
 |cons p ps ih=>simp only[List.map_cons,sumEQ,ih]
theorem rowE_picksQ (b:Nat->List (Int×Int)) (h:List Nat->Int->Int) (cs:List Nat) (y:Int):rowE b cs h y=sumEQ b h (picksEQ cs) y:=by
 induction cs generalizing h with
 |nil=>rfl
 |cons c cs ih=>simp only[rowE,picksEQ,sumEQ,sumE_mapQ,ih]
theorem sumE_appendQ (b:Nat->List (Int×Int)) (h:List Nat->Int->Int) (ps qs:List (Int×Nat×List Nat)) (y:Int):sumEQ b h (ps++qs) y=sumEQ b h ps y+sumEQ b h qs y:=by
 induction ps with
 |nil=>simp[sumEQ]
 |cons p ps ih=>simp only[List.cons_append,sumEQ,ih];omega
def colsOfQ (s:Nat):List Nat:=(List.range 6).filter fun c=>(s >>> c)%2==1
def signOfQ (s c:Nat):Int:=if onesToQ (s >>> c) 6%2=0 then -1 else 1
def progEQ (s m:Nat):List (Int×Nat×List Nat):=((List.range m).filter fun c=>(s >>> c)%2==1).map fun c=>(signOfQ s c,c,colsOfQ (s-2 ^ c))
theorem prog_nextQ (s m:Nat):progEQ s (m+1)=progEQ s m++(if(s >>> m)%2=1 then [(signOfQ s m,m,colsOfQ (s-2 ^ m))] else []):=by
 unfold progEQ
 rw[List.range_succ,List.filter_append,List.map_append]
 congr 1
 by_cases h:(s >>> m)%2=1
 · simp[h]
 · simp[h]
theorem prog_allQ:∀ s,s<64->progEQ s 6=picksEQ (colsOfQ s):=by decide +kernel
theorem prog_few_allQ:((List.range 7).all fun n=>(List.range (2 ^ n)).all fun s=>decide (progEQ s n=progEQ s 6))=true:=by decide +kernel
theorem prog_fewQ (n:Nat) (hn:n<7) (s:Nat) (hs:s<2 ^ n):progEQ s n=progEQ s 6:=by
 have h:=prog_few_allQ
 simp only[List.all_eq_true,List.mem_range,decide_eq_true_eq]at h
 exact h n hn s hs
theorem cols_lenQ:∀ s,s<64->(colsOfQ s).length=onesToQ s 6:=by decide +kernel
theorem cols_fullQ:∀ n,n<7->colsOfQ (2 ^ n-1)=List.range n:=by decide +kernel
theorem cols_lessQ:∀ s,s<64->∀ c,c<6->(s >>> c)%2=1->s-2 ^ c<s/\onesToQ (s-2 ^ c) 6+1=onesToQ s 6:=by decide +kernel
theorem ones_leQ:∀ n,n<7->∀ s,s<2 ^ n->onesToQ s 6<=n/\(0<s->0<onesToQ s 6):=by decide +kernel
theorem rowE_progQ (b:Nat->List (Int×Int)) (h:List Nat->Int->Int) (n s:Nat) (hn:n<7) (hs:s<2 ^ n) (y:Int):sumEQ b h (progEQ s n) y=rowE b (colsOfQ s) h y:=by
 have h64:s<64:=Nat.lt_of_lt_of_le hs (Nat.pow_le_pow_right (n:=2) (by decide) (show n<=6 by omega))
 rw[rowE_picksQ,prog_fewQ n hn s hs,prog_allQ s h64]
end Go.Proofs.YtiliihlkpknhdaaDoor.Poly
/- The minors of a table by sets of columns, and their bounds. Plain mathematics: no program is named here. -/
namespace Go.Proofs.YtiliihlkpknhdaaDoor.Poly
def rowAtQ (T:List (List (List (Int×Int)))) (k:Nat) (c:Nat):List (Int×Int):=(T.getD k []).getD c []
def lastRowsQ (T:List (List (List (Int×Int)))):Nat->List (Nat->List (Int×Int))
 |0=>[]
 |k+1=>rowAtQ T k::lastRowsQ T k
def minorFQ (T:List (List (List (Int×Int)))) (s:Nat):Int->Int:=detE (lastRowsQ T (onesToQ s 6)) (colsOfQ s)
def bdQ:Nat->Nat
 |0=>1
 |k+1=>(k+1)*(100*bdQ k)
def szdQ:Nat->Nat
 |0=>1
 |k+1=>(k+1)*(64*szdQ k)
theorem prodL_absQ (l : List (Int × Int)) (g : Int → Int) (H : Nat) (hg : ∀ x, (g x).natAbs ≤ H) (y : Int) (k : Nat) (hk : k ≤ l.length) :
    ((prodL (l.take k) g y).natAbs:Int)<=sizeTo l k*(H:Int):=by
 induction k with
 |zero=>simp[sizeTo,prodL]
 |succ k ih=>
  have ih:=ih (by omega)
  have hk':k<l.length:=by omega
  rw[List.take_succ_eq_append_getElem hk',prodL_append,sizeTo]
  have g0:l.getD k (0,0)=l[k]:=by simp[List.getD,hk']
  rw[g0,Int.add_mul]
  have e:prodL [l[k]] g y=l[k].2*g (y-l[k].1):=by simp[prodL]
  rw[e]
  have e1:((l[k].2*g (y-l[k].1)).natAbs:Int)<=absI l[k].2*(H:Int):=by
   have h:(l[k].2*g (y-l[k].1)).natAbs<=l[k].2.natAbs*H:=by
    rw[Int.natAbs_mul]
    exact Nat.mul_le_mul (Nat.le_refl _) (hg _)
   have ha:absI l[k].2=(l[k].2.natAbs:Int):=by unfold absI;split<;>omega
   rw[ha,<-Int.natCast_mul]
   exact Int.ofNat_le.2 h
  have e2:=Int.natAbs_add_le (prodL (l.take k) g y) (l[k].2*g (y-l[k].1))
  omega
theorem prodL_100Q (l:List (Int×Int)) (hl:sizeL l<=100) (g:Int->Int) (H:Nat) (hg:∀ x,(g x).natAbs<=H) (y:Int):(prodL l g y).natAbs<=100*H:=by
 have h:=prodL_absQ l g H hg y l.length (Nat.le_refl _)
 rw[List.take_length]at h
 have h2:sizeTo l l.length*(H:Int)<=100*(H:Int):=Int.mul_le_mul_of_nonneg_right hl (by omega)
 omega
theorem sumE_absQ (b : Nat → List (Int × Int)) (h : List Nat → Int → Int) (H : Nat) (ps : List (Int × Nat × List Nat)) (hp : ∀ p ∈ ps, p.1.natAbs ≤ 1 ∧ sizeL (b p.2.1) ≤ 100 ∧ ∀ x, (h p.2.2 x).natAbs ≤ H) (y : Int) :
    (sumEQ b h ps y).natAbs<=ps.length*(100*H):=by
 induction ps with
 |nil=>simp[sumEQ]
 |cons p ps ih=>
  have h1:=hp p (by simp)
  have h2:=ih fun q hq=>hp q (by simp[hq])
  have h3:=prodL_100Q (b p.2.1) h1.2.1 (h p.2.2) H h1.2.2 y
  have h4:(p.1*prodL (b p.2.1) (h p.2.2) y).natAbs<=1*(100*H):=by
   rw[Int.natAbs_mul]
   exact Nat.mul_le_mul h1.1 h3
  have h5:=Int.natAbs_add_le (p.1*prodL (b p.2.1) (h p.2.2) y) (sumEQ b h ps y)
  rw[sumEQ,List.length_cons,Nat.add_mul]
  omega
theorem prog_memQ {s m:Nat} {p:Int×Nat×List Nat} (h:p∈progEQ s m):∃ c,c<m/\(s >>> c)%2=1/\p=(signOfQ s c,c,colsOfQ (s-2 ^ c)):=by
 unfold progEQ at h
 simp only[List.mem_map,List.mem_filter,List.mem_range,beq_iff_eq]at h
 obtain⟨c,⟨h1,h2⟩,h3⟩:=h
 exact⟨c,h1,h2,h3.symm⟩
theorem prog_lenQ:∀ s,s<64->∀ m,m<7->(progEQ s m).length<=onesToQ s 6:=by decide +kernel
theorem sign_leQ (s c:Nat):(signOfQ s c).natAbs<=1:=by unfold signOfQ;split<;>decide
theorem minor_zeroQ (T:List (List (List (Int×Int)))):minorFQ T 0=oneF:=rfl
theorem minor_progQ (T : List (List (List (Int × Int)))) (n s k : Nat) (hn : n < 7) (hs : s < 2 ^ n) (hk : onesToQ s 6 = k + 1) (y : Int) :
    sumEQ (rowAtQ T k) (detE (lastRowsQ T k)) (progEQ s n) y=minorFQ T s y:=by
 rw[rowE_progQ _ _ n s hn hs]
 unfold minorFQ
 rw[hk]
 rfl
theorem minor_lessQ (T:List (List (List (Int×Int)))) (s k c:Nat) (hs:s<64) (hc:c<6) (hb:(s >>> c)%2=1) (hk:onesToQ s 6=k+1):detE (lastRowsQ T k) (colsOfQ (s-2 ^ c))=minorFQ T (s-2 ^ c)/\onesToQ (s-2 ^ c) 6=k:=by
 have h:=(cols_lessQ s hs c hc hb).2
 have e:onesToQ (s-2 ^ c) 6=k:=by omega
 unfold minorFQ
 rw[e]
 exact⟨rfl,rfl⟩
theorem pow_64Q {n s:Nat} (hn:n<7) (hs:s<2 ^ n):s<64:=Nat.lt_of_lt_of_le hs (Nat.pow_le_pow_right (n:=2) (by decide) (show n<=6 by omega))
theorem minor_absQ (T:List (List (List (Int×Int)))) (n:Nat) (hn:n<7) (hT:∀ i c,i<n->c<n->sizeL (rowAtQ T i c)<=100):∀ s,s<2 ^ n->∀ y,(minorFQ T s y).natAbs<=bdQ (onesToQ s 6):=by
 intro s
 induction s using Nat.strongRecOn with
 |ind s ih=>
  intro hs y
  have h64:=pow_64Q hn hs
  rcases hk:onesToQ s 6 with _|k
  · unfold minorFQ
    rw[hk]
    show(oneF y).natAbs<=1
    unfold oneF
    split<;>decide
  · rw[<-minor_progQ T n s k hn hs hk]
    have ho:=(ones_leQ n hn s hs).1
    have h := sumE_absQ (rowAtQ T k) (detE (lastRowsQ T k)) (bdQ k) (progEQ s n) (fun p hp => by
     obtain⟨c,hc,hb,rfl⟩:=prog_memQ hp
     have hl:=cols_lessQ s h64 c (by omega) hb
     obtain⟨e1,e2⟩:=minor_lessQ T s k c h64 (by omega) hb hk
     refine⟨sign_leQ s c,hT k c (by omega) hc,fun x=>?_⟩
     rw[e1]
     have:=ih (s-2 ^ c) hl.1 (by omega) x
     rw[e2]at this
     exact this) y
    have hlen:=prog_lenQ s h64 n hn
    rw[hk]at hlen
    exact Nat.le_trans h (Nat.mul_le_mul_right _ hlen)
theorem part_absQ (T : List (List (List (Int × Int)))) (n : Nat) (hn : n < 7) (hT : ∀ i c, i < n → c < n → sizeL (rowAtQ T i c) ≤ 100) (s k m : Nat) (hs : s < 2 ^ n) (hk : onesToQ s 6 = k + 1) (hm : m ≤ n) (y : Int) :
    (sumEQ (rowAtQ T k) (detE (lastRowsQ T k)) (progEQ s m) y).natAbs<=bdQ (k+1):=by
 have h64:=pow_64Q hn hs
 have ho:=(ones_leQ n hn s hs).1
 have h := sumE_absQ (rowAtQ T k) (detE (lastRowsQ T k)) (bdQ k) (progEQ s m) (fun p hp => by
  obtain⟨c,hc,hb,rfl⟩:=prog_memQ hp
  have hl:=cols_lessQ s h64 c (by omega) hb
  obtain⟨e1,e2⟩:=minor_lessQ T s k c h64 (by omega) hb hk
  refine⟨sign_leQ s c,hT k c (by omega) (by omega),fun x=>?_⟩
  rw[e1]
  have:=minor_absQ T n hn hT (s-2 ^ c) (by omega) x
  rw[e2]at this
  exact this) y
 have hlen:=prog_lenQ s h64 m (by omega)
 rw[hk]at hlen
 exact Nat.le_trans h (Nat.mul_le_mul_right _ hlen)
theorem bd_leQ:∀ k,k<7->bdQ k<=1000000000000000/\(k<6->bdQ k<=2000000000000):=by decide +kernel
theorem szd_leQ:∀ k,k<7->szdQ k<=1000000000000000/\(k<6->szdQ k<=10000000000000):=by decide +kernel
theorem sum_nextQ (b:Nat->List (Int×Int)) (h:List Nat->Int->Int) (s m:Nat) (hb:(s >>> m)%2=1) (y:Int):sumEQ b h (progEQ s (m+1)) y=sumEQ b h (progEQ s m) y+signOfQ s m*prodL (b m) (h (colsOfQ (s-2 ^ m))) y:=by
 rw[prog_nextQ,if_pos hb,sumE_appendQ]
 simp[sumEQ]
theorem sum_skipQ (s m:Nat) (hb:¬(s >>> m)%2=1):progEQ s (m+1)=progEQ s m:=by
 rw[prog_nextQ,if_neg hb]
 simp
theorem len_nextQ (s m:Nat) (hb:(s >>> m)%2=1):(progEQ s (m+1)).length=(progEQ s m).length+1:=by
 rw[prog_nextQ,if_pos hb]
 simp
theorem lastRows_eqQ (T:List (List (List (Int×Int)))) (k:Nat):lastRowsQ T k=((List.range k).map (rowAtQ T)).reverse:=by
 induction k with
 |zero=>rfl
 |succ k ih=>simp[lastRowsQ,ih,List.range_succ]
theorem minor_fullQ (T:List (List (List (Int×Int)))) (n:Nat) (hn:n<7):minorFQ T (2 ^ n-1)=detF ((List.range n).map (rowAtQ T)) (List.range n):=by
 have h0:0<2 ^ n:=Nat.pow_pos (by decide)
 have e:onesToQ (2 ^ n-1) 6=n:=by
  have:=cols_lenQ (2 ^ n-1) (pow_64Q hn (by omega))
  rw[cols_fullQ n hn]at this
  simpa using this.symm
 unfold minorFQ
 rw[e,cols_fullQ n hn,lastRows_eqQ,det_same n _ _ (by simp) (by simp)]
end Go.Proofs.YtiliihlkpknhdaaDoor.Poly

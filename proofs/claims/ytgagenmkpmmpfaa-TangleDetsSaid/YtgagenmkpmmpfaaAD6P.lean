/- Several texts of the proof, one behind the other. -/
import Derived.Test.YtgagenmkpmmpfaaAD2P
import Derived.Test.YtgagenmkpmmpfaaPB2P
/- Tables of polynomials in a world, and the walk of poly.square. -/
namespace Go.Proofs.Ytgagenmkpmmpfaa.Poly
open Go.RowKit Go.Maps
def Slots (w:World) (B:Nat) (v:Value) (xs:List Value):Prop:=
 ∃ a cap,v=.slice a xs.length cap/\(0<xs.length->∃ b off,a=some ⟨b,off,none⟩/\b<B/\∀ i,i<xs.length->w.cell? ⟨b,off+i,none⟩=some (xs.getD i (.bool false)))
theorem Slots.on {w w':World} {B:Nat} {v:Value} {xs:List Value} (h:Slots w B v xs) (hb:Below B w w'):Slots w' B v xs:=by
 obtain⟨a,cap,rfl,g⟩:=h
 refine⟨a,cap,rfl,fun h0=>?_⟩
 obtain⟨b,off,rfl,hlt,hc⟩:=g h0
 exact⟨b,off,rfl,hlt,fun i hi=>bcell hb hlt (hc i hi)⟩
theorem Slots.mono {w:World} {B B':Nat} {v:Value} {xs:List Value} (h:Slots w B v xs) (hB:B<=B'):Slots w B' v xs:=by
 obtain⟨a,cap,rfl,g⟩:=h
 refine⟨a,cap,rfl,fun h0=>?_⟩
 obtain⟨b,off,rfl,hlt,hc⟩:=g h0
 exact⟨b,off,rfl,Nat.lt_of_lt_of_le hlt hB,hc⟩
def Row (w:World) (B:Nat) (v:Value) (T:List (List (Int×Int))):Prop:=
 ∃ ps:List Value,ps.length=T.length/\Slots w B v ps/\∀ j,j<T.length->Poly w B (ps.getD j (.bool false)) (T.getD j [])
def Table (w:World) (B:Nat) (v:Value) (T:List (List (List (Int×Int)))):Prop:=
 ∃ rs:List Value,rs.length=T.length/\Slots w B v rs/\∀ i,i<T.length->Row w B (rs.getD i (.bool false)) (T.getD i [])
theorem Row.on {w w':World} {B:Nat} {v:Value} {T:List (List (Int×Int))} (h:Row w B v T) (hb:Below B w w'):Row w' B v T:=by
 obtain⟨ps,h1,h2,h3⟩:=h
 exact⟨ps,h1,h2.on hb,fun j hj=>(h3 j hj).on hb⟩
theorem Row.mono {w:World} {B B':Nat} {v:Value} {T:List (List (Int×Int))} (h:Row w B v T) (hB:B<=B'):Row w B' v T:=by
 obtain⟨ps,h1,h2,h3⟩:=h
 exact⟨ps,h1,h2.mono hB,fun j hj=>(h3 j hj).mono hB⟩
theorem Table.on {w w':World} {B:Nat} {v:Value} {T:List (List (List (Int×Int)))} (h:Table w B v T) (hb:Below B w w'):Table w' B v T:=by
 obtain⟨rs,h1,h2,h3⟩:=h
 exact⟨rs,h1,h2.on hb,fun j hj=>(h3 j hj).on hb⟩
theorem Table.mono {w:World} {B B':Nat} {v:Value} {T:List (List (List (Int×Int)))} (h:Table w B v T) (hB:B<=B'):Table w B' v T:=by
 obtain⟨rs,h1,h2,h3⟩:=h
 exact⟨rs,h1,h2.mono hB,fun j hj=>(h3 j hj).mono hB⟩
theorem Table.up {w w':World} {v:Value} {T:List (List (List (Int×Int)))} (h:Table w w.heap.size v T) (hb:Below w.heap.size w w'):Table w' w'.heap.size v T:=(h.on hb).mono hb.size
end Go.Proofs.Ytgagenmkpmmpfaa.Poly
/- The columns of a set of bits, and a last row taken column by column. Plain mathematics: no program is named here. -/
namespace Go.Proofs.Ytgagenmkpmmpfaa.Poly
def picksE:List Nat->List (Int×Nat×List Nat)
 |[]=>[]
 |c::cs=>(sgn cs.length,c,cs)::(picksE cs).map fun p=>(p.1,p.2.1,c::p.2.2)
def sumE (b:Nat->List (Int×Int)) (h:List Nat->Int->Int):List (Int×Nat×List Nat)->Int->Int
 |[],_=>0
 |p::ps,y=>p.1*prodL (b p.2.1) (h p.2.2) y+sumE b h ps y
theorem sumE_map (b:Nat->List (Int×Int)) (h:List Nat->Int->Int) (c:Nat) (ps:List (Int×Nat×List Nat)) (y:Int):sumE b h (ps.map fun p=>(p.1,p.2.1,c::p.2.2)) y=sumE b (fun r=>h (c::r)) ps y:=by
 induction ps with
 |nil=>rfl
 |cons p ps ih=>simp only[List.map_cons,sumE,ih]
theorem rowE_picks (b:Nat->List (Int×Int)) (h:List Nat->Int->Int) (cs:List Nat) (y:Int):rowE b cs h y=sumE b h (picksE cs) y:=by
 induction cs generalizing h with
 |nil=>rfl
 |cons c cs ih=>simp only[rowE,picksE,sumE,sumE_map,ih]
theorem sumE_append (b:Nat->List (Int×Int)) (h:List Nat->Int->Int) (ps qs:List (Int×Nat×List Nat)) (y:Int):sumE b h (ps++qs) y=sumE b h ps y+sumE b h qs y:=by
 induction ps with
 |nil=>simp[sumE]
 |cons p ps ih=>simp only[List.cons_append,sumE,ih];omega
def colsOf (s:Nat):List Nat:=(List.range 10).filter fun c=>(s >>> c)%2==1
def signOf (s c:Nat):Int:=if onesTo (s >>> c) 10%2=0 then -1 else 1
def progE (s m:Nat):List (Int×Nat×List Nat):=((List.range m).filter fun c=>(s >>> c)%2==1).map fun c=>(signOf s c,c,colsOf (s-2 ^ c))
theorem prog_next (s m:Nat):progE s (m+1)=progE s m++(if(s >>> m)%2=1 then [(signOf s m,m,colsOf (s-2 ^ m))] else []):=by
 unfold progE
 rw[List.range_succ,List.filter_append,List.map_append]
 congr 1
 by_cases h:(s >>> m)%2=1
 · simp[h]
 · simp[h]
theorem prog_all:∀ s,s<1024->progE s 10=picksE (colsOf s):=by decide +kernel
theorem prog_few_all:((List.range 11).all fun n=>(List.range (2 ^ n)).all fun s=>decide (progE s n=progE s 10))=true:=by decide +kernel
theorem prog_few (n:Nat) (hn:n<11) (s:Nat) (hs:s<2 ^ n):progE s n=progE s 10:=by
 have h:=prog_few_all
 simp only[List.all_eq_true,List.mem_range,decide_eq_true_eq]at h
 exact h n hn s hs
theorem cols_len:∀ s,s<1024->(colsOf s).length=onesTo s 10:=by decide +kernel
theorem cols_full:∀ n,n<11->colsOf (2 ^ n-1)=List.range n:=by decide +kernel
theorem cols_less:∀ s,s<1024->∀ c,c<10->(s >>> c)%2=1->s-2 ^ c<s/\onesTo (s-2 ^ c) 10+1=onesTo s 10:=by decide +kernel
theorem ones_le:∀ n,n<11->∀ s,s<2 ^ n->onesTo s 10<=n/\(0<s->0<onesTo s 10):=by decide +kernel
theorem rowE_prog (b:Nat->List (Int×Int)) (h:List Nat->Int->Int) (n s:Nat) (hn:n<11) (hs:s<2 ^ n) (y:Int):sumE b h (progE s n) y=rowE b (colsOf s) h y:=by
 have h64:s<1024:=Nat.lt_of_lt_of_le hs (Nat.pow_le_pow_right (n:=2) (by decide) (show n<=10 by omega))
 rw[rowE_picks,prog_few n hn s hs,prog_all s h64]
end Go.Proofs.Ytgagenmkpmmpfaa.Poly
/- The minors of a table by sets of columns, and their bounds. Plain mathematics: no program is named here. -/
namespace Go.Proofs.Ytgagenmkpmmpfaa.Poly
def rowAt (T:List (List (List (Int×Int)))) (k:Nat) (c:Nat):List (Int×Int):=(T.getD k []).getD c []
def lastRows (T:List (List (List (Int×Int)))):Nat->List (Nat->List (Int×Int))
 |0=>[]
 |k+1=>rowAt T k::lastRows T k
def minorF (T:List (List (List (Int×Int)))) (s:Nat):Int->Int:=detE (lastRows T (onesTo s 10)) (colsOf s)
def bd:Nat->Nat
 |0=>1
 |k+1=>(k+1)*(4*bd k)
def szd:Nat->Nat
 |0=>1
 |k+1=>(k+1)*(4*szd k)
theorem prodL_abs (l : List (Int × Int)) (g : Int → Int) (H : Nat) (hg : ∀ x, (g x).natAbs ≤ H) (y : Int) (k : Nat) (hk : k ≤ l.length) :
    ((prodL (l.take k) g y).natAbs:Int)<=sizeTo l k*(H:Int):=by
 induction k with
 |zero=>simp[sizeTo,prodL]
 |succ k ih=>
  have ih:=ih (by omega)
  have hk':k<l.length:=by omega
  rw[List.take_succ_eq_append_getElem hk',prodL_append,sizeTo]
  have g0:l.getD k (0,0)=l[k]:=by simp[List.getD,hk']
  rw[g0,Int.add_mul]
  have e:prodL [l[k]] g y=l[k].2*g (y-l[k].1):=by simp[prodL]
  rw[e]
  have e1:((l[k].2*g (y-l[k].1)).natAbs:Int)<=absI l[k].2*(H:Int):=by
   have h:(l[k].2*g (y-l[k].1)).natAbs<=l[k].2.natAbs*H:=by
    rw[Int.natAbs_mul]
    exact Nat.mul_le_mul (Nat.le_refl _) (hg _)
   have ha:absI l[k].2=(l[k].2.natAbs:Int):=by unfold absI;split<;>omega
   rw[ha,<-Int.natCast_mul]
   exact Int.ofNat_le.2 h
  have e2:=Int.natAbs_add_le (prodL (l.take k) g y) (l[k].2*g (y-l[k].1))
  omega
theorem prodL_100 (l:List (Int×Int)) (hl:sizeL l<=4) (g:Int->Int) (H:Nat) (hg:∀ x,(g x).natAbs<=H) (y:Int):(prodL l g y).natAbs<=4*H:=by
 have h:=prodL_abs l g H hg y l.length (Nat.le_refl _)
 rw[List.take_length]at h
 have h2:sizeTo l l.length*(H:Int)<=4*(H:Int):=Int.mul_le_mul_of_nonneg_right hl (by omega)
 omega
theorem sumE_abs (b : Nat → List (Int × Int)) (h : List Nat → Int → Int) (H : Nat) (ps : List (Int × Nat × List Nat)) (hp : ∀ p ∈ ps, p.1.natAbs ≤ 1 ∧ sizeL (b p.2.1) ≤ 4 ∧ ∀ x, (h p.2.2 x).natAbs ≤ H) (y : Int) :
    (sumE b h ps y).natAbs<=ps.length*(4*H):=by
 induction ps with
 |nil=>simp[sumE]
 |cons p ps ih=>
  have h1:=hp p (by simp)
  have h2:=ih fun q hq=>hp q (by simp[hq])
  have h3:=prodL_100 (b p.2.1) h1.2.1 (h p.2.2) H h1.2.2 y
  have h4:(p.1*prodL (b p.2.1) (h p.2.2) y).natAbs<=1*(4*H):=by
   rw[Int.natAbs_mul]
   exact Nat.mul_le_mul h1.1 h3
  have h5:=Int.natAbs_add_le (p.1*prodL (b p.2.1) (h p.2.2) y) (sumE b h ps y)
  rw[sumE,List.length_cons,Nat.add_mul]
  omega
theorem prog_mem {s m:Nat} {p:Int×Nat×List Nat} (h:p∈progE s m):∃ c,c<m/\(s >>> c)%2=1/\p=(signOf s c,c,colsOf (s-2 ^ c)):=by
 unfold progE at h
 simp only[List.mem_map,List.mem_filter,List.mem_range,beq_iff_eq]at h
 obtain⟨c,⟨h1,h2⟩,h3⟩:=h
 exact⟨c,h1,h2,h3.symm⟩
theorem prog_len:∀ s,s<1024->∀ m,m<11->(progE s m).length<=onesTo s 10:=by decide +kernel
theorem sign_le (s c:Nat):(signOf s c).natAbs<=1:=by unfold signOf;split<;>decide
theorem minor_zero (T:List (List (List (Int×Int)))):minorF T 0=oneF:=rfl
theorem minor_prog (T : List (List (List (Int × Int)))) (n s k : Nat) (hn : n < 11) (hs : s < 2 ^ n) (hk : onesTo s 10 = k + 1) (y : Int) :
    sumE (rowAt T k) (detE (lastRows T k)) (progE s n) y=minorF T s y:=by
 rw[rowE_prog _ _ n s hn hs]
 unfold minorF
 rw[hk]
 rfl
theorem minor_less (T:List (List (List (Int×Int)))) (s k c:Nat) (hs:s<1024) (hc:c<10) (hb:(s >>> c)%2=1) (hk:onesTo s 10=k+1):detE (lastRows T k) (colsOf (s-2 ^ c))=minorF T (s-2 ^ c)/\onesTo (s-2 ^ c) 10=k:=by
 have h:=(cols_less s hs c hc hb).2
 have e:onesTo (s-2 ^ c) 10=k:=by omega
 unfold minorF
 rw[e]
 exact⟨rfl,rfl⟩
theorem pow_64 {n s:Nat} (hn:n<11) (hs:s<2 ^ n):s<1024:=Nat.lt_of_lt_of_le hs (Nat.pow_le_pow_right (n:=2) (by decide) (show n<=10 by omega))
theorem minor_abs (T:List (List (List (Int×Int)))) (n:Nat) (hn:n<11) (hT:∀ i c,i<n->c<n->sizeL (rowAt T i c)<=4):∀ s,s<2 ^ n->∀ y,(minorF T s y).natAbs<=bd (onesTo s 10):=by
 intro s
 induction s using Nat.strongRecOn with
 |ind s ih=>
  intro hs y
  have h64:=pow_64 hn hs
  rcases hk:onesTo s 10 with _|k
  · unfold minorF
    rw[hk]
    show(oneF y).natAbs<=1
    unfold oneF
    split<;>decide
  · rw[<-minor_prog T n s k hn hs hk]
    have ho:=(ones_le n hn s hs).1
    have h := sumE_abs (rowAt T k) (detE (lastRows T k)) (bd k) (progE s n) (fun p hp => by
     obtain⟨c,hc,hb,rfl⟩:=prog_mem hp
     have hl:=cols_less s h64 c (by omega) hb
     obtain⟨e1,e2⟩:=minor_less T s k c h64 (by omega) hb hk
     refine⟨sign_le s c,hT k c (by omega) hc,fun x=>?_⟩
     rw[e1]
     have:=ih (s-2 ^ c) hl.1 (by omega) x
     rw[e2]at this
     exact this) y
    have hlen:=prog_len s h64 n hn
    rw[hk]at hlen
    exact Nat.le_trans h (Nat.mul_le_mul_right _ hlen)
theorem part_abs (T : List (List (List (Int × Int)))) (n : Nat) (hn : n < 11) (hT : ∀ i c, i < n → c < n → sizeL (rowAt T i c) ≤ 4) (s k m : Nat) (hs : s < 2 ^ n) (hk : onesTo s 10 = k + 1) (hm : m ≤ n) (y : Int) :
    (sumE (rowAt T k) (detE (lastRows T k)) (progE s m) y).natAbs<=bd (k+1):=by
 have h64:=pow_64 hn hs
 have ho:=(ones_le n hn s hs).1
 have h := sumE_abs (rowAt T k) (detE (lastRows T k)) (bd k) (progE s m) (fun p hp => by
  obtain⟨c,hc,hb,rfl⟩:=prog_mem hp
  have hl:=cols_less s h64 c (by omega) hb
  obtain⟨e1,e2⟩:=minor_less T s k c h64 (by omega) hb hk
  refine⟨sign_le s c,hT k c (by omega) (by omega),fun x=>?_⟩
  rw[e1]
  have:=minor_abs T n hn hT (s-2 ^ c) (by omega) x
  rw[e2]at this
  exact this) y
 have hlen:=prog_len s h64 m (by omega)
 rw[hk]at hlen
 exact Nat.le_trans h (Nat.mul_le_mul_right _ hlen)
theorem bd_le:∀ k,k<11->bd k<=1000000000000000/\(k<10->bd k<=2000000000000):=by decide +kernel
theorem szd_le:∀ k,k<11->szd k<=1000000000000000/\(k<10->szd k<=10000000000000):=by decide +kernel
theorem sum_next (b:Nat->List (Int×Int)) (h:List Nat->Int->Int) (s m:Nat) (hb:(s >>> m)%2=1) (y:Int):sumE b h (progE s (m+1)) y=sumE b h (progE s m) y+signOf s m*prodL (b m) (h (colsOf (s-2 ^ m))) y:=by
 rw[prog_next,if_pos hb,sumE_append]
 simp[sumE]
theorem sum_skip (s m:Nat) (hb:¬(s >>> m)%2=1):progE s (m+1)=progE s m:=by
 rw[prog_next,if_neg hb]
 simp
theorem len_next (s m:Nat) (hb:(s >>> m)%2=1):(progE s (m+1)).length=(progE s m).length+1:=by
 rw[prog_next,if_pos hb]
 simp
theorem lastRows_eq (T:List (List (List (Int×Int)))) (k:Nat):lastRows T k=((List.range k).map (rowAt T)).reverse:=by
 induction k with
 |zero=>rfl
 |succ k ih=>simp[lastRows,ih,List.range_succ]
theorem minor_full (T:List (List (List (Int×Int)))) (n:Nat) (hn:n<11):minorF T (2 ^ n-1)=detF ((List.range n).map (rowAt T)) (List.range n):=by
 have h0:0<2 ^ n:=Nat.pow_pos (by decide)
 have e:onesTo (2 ^ n-1) 10=n:=by
  have:=cols_len (2 ^ n-1) (pow_64 hn (by omega))
  rw[cols_full n hn]at this
  simpa using this.symm
 unfold minorF
 rw[e,cols_full n hn,lastRows_eq,det_same n _ _ (by simp) (by simp)]
end Go.Proofs.Ytgagenmkpmmpfaa.Poly
/- Determinants along the first row, their exponents and their bounds. Plain mathematics: no program is named here. -/
namespace Go.Proofs.Ytgagenmkpmmpfaa.Poly
theorem few_nats:∀ (n:Nat) (l:List Nat),l.Pairwise (·≠·)->(∀ x∈l,x<n)->l.length<=n:=by
 intro n
 induction n with
 |zero=>
  intro l _ h
  cases l with
  |nil=>simp
  |cons x l=>exact absurd (h x (by simp)) (by omega)
 |succ n ih=>
  intro l hp h
  have h1 := ih (l.filter fun x => x != n) (hp.sublist List.filter_sublist) (fun x hx => by
   simp only[List.mem_filter,bne_iff_ne,ne_eq]at hx
   have:=h x hx.1
   omega)
  have h2:∀ (l:List Nat),l.Pairwise (·≠·)->l.length<=(l.filter fun x=>x != n).length+1:=by
   intro l hp
   induction l with
   |nil=>simp
   |cons x l ihl=>
    rw[List.pairwise_cons]at hp
    by_cases hx:x=n
    · have e : (l.filter fun x => x != n) = l := by
        rw[List.filter_eq_self]
        intro y hy
        have:=hp.1 y hy
        simp only[bne_iff_ne,ne_eq]
        omega
      simp[hx,e]
    · have:=ihl hp.2
      simp[hx]
      omega
  have:=h2 l hp
  omega
theorem few_ints (K:Nat) (l:List Int) (hp:l.Pairwise (·≠·)) (h:∀ x∈l,-(K:Int)<=x/\x<=K):l.length<=2*K+1:=by
 have := few_nats (2 * K + 1) (l.map fun x : Int => (x + (K : Int)).toNat) (by
  rw[List.pairwise_map]
  refine List.Pairwise.imp_of_mem ?_ hp
  intro a b ha hb hab e
  have:=h a ha
  have:=h b hb
  omega) (fun x hx=>by
  simp only[List.mem_map]at hx
  obtain⟨y,hy,rfl⟩:=hx
  have:=h y hy
  omega)
 simpa using this
theorem canon_len {l:List (Int×Int)} {f:Int->Int} (h:Canon l f) (K:Nat) (hf:∀ x,f x≠0 -> -(K:Int)<=x/\x<=K):l.length<=2*K+1:=by
 have := few_ints K (l.map Prod.fst) (by
  rw[List.pairwise_map]
  exact h.1.imp fun hab=>by omega) (fun x hx=>by
  simp only[List.mem_map]at hx
  obtain⟨t,ht,rfl⟩:=hx
  have:=(h.2 t.1 t.2).1 ht
  exact hf t.1 (by rw[this.1];exact this.2))
 simpa using this
def altTo (g:Nat->Int->Int):Nat->Int->Int
 |0,_=>0
 |m+1,y=>altTo g m y+sgn m*g m y
theorem altTo_shift (g:Nat->Int->Int) (m:Nat) (y:Int):altTo g (m+1) y=g 0 y-altTo (fun j=>g (j+1)) m y:=by
 induction m with
 |zero=>simp[altTo,sgn]
 |succ m ih=>
  have e:altTo g (m+1+1) y=altTo g (m+1) y+sgn (m+1)*g (m+1) y:=rfl
  have e2:altTo (fun j=>g (j+1)) (m+1) y=altTo (fun j=>g (j+1)) m y+sgn m*g (m+1) y:=rfl
  have e3:sgn (m+1)*g (m+1) y = -(sgn m*g (m+1) y):=by simp only[sgn,Int.neg_mul]
  rw[e,ih,e2,e3]
  omega
theorem rowF_alt (a:Nat->List (Int×Int)) (cs:List Nat) (h:List Nat->Int->Int) (y:Int):rowF a cs h y=altTo (fun j=>prodL (a (cs.getD j 0)) (h (cs.eraseIdx j))) cs.length y:=by
 induction cs generalizing h with
 |nil=>rfl
 |cons c cs ih=>
  rw[List.length_cons,altTo_shift]
  simp only[rowF,ih]
  rfl
theorem rowF_map (a:Nat->List (Int×Int)) (p:Nat->Nat) (cs:List Nat) (h:List Nat->Int->Int) (y:Int):rowF a (cs.map p) h y=rowF (fun c=>a (p c)) cs (fun rest=>h (rest.map p)) y:=by
 induction cs generalizing h with
 |nil=>rfl
 |cons c cs ih=>simp only[List.map_cons,rowF,ih]
theorem detF_map (rows:List (Nat->List (Int×Int))) (p:Nat->Nat):∀ cs,detF rows (cs.map p)=detF (rows.map fun r c=>r (p c)) cs:=by
 induction rows with
 |nil=>intro cs;rfl
 |cons r rows ih=>
  intro cs
  funext y
  simp only[detF,List.map_cons,rowF_map]
  have e:(fun rest=>detF rows (rest.map p))=detF (rows.map fun r c=>r (p c)):=funext ih
  rw[e]
def skip (c i:Nat):Nat:=if i<c then i else i+1
theorem range_skip (n c:Nat) (hc:c<n+1):(List.range (n+1)).eraseIdx c=(List.range n).map (skip c):=by
 apply List.ext_getElem?
 intro i
 rw[List.getElem?_eraseIdx,List.getElem?_map]
 unfold skip
 by_cases h:i<c
 · rw[if_pos h,List.getElem?_range (by omega),List.getElem?_range (by omega)]
   simp[h]
 · rw[if_neg h]
   by_cases hi:i<n
   · rw[List.getElem?_range (by omega),List.getElem?_range (by omega)]
     simp[h]
   · rw[List.getElem?_eq_none (by simp;omega),List.getElem?_eq_none (by simp;omega)]
     rfl
theorem erase_skip {α:Type} (l:List α) (c i:Nat) (d:α):(l.eraseIdx c).getD i d=l.getD (skip c i) d:=by
 unfold skip List.getD
 rw[List.getElem?_eraseIdx]
 split<;>rfl
def rowsOf (T:List (List (List (Int×Int)))):List (Nat->List (Int×Int)):=T.map fun R c=>R.getD c []
def detOf (T:List (List (List (Int×Int)))):Int->Int:=detF (rowsOf T) (List.range T.length)
def lessOf (T:List (List (List (Int×Int)))) (c:Nat):List (List (List (Int×Int))):=T.tail.map fun R=>R.eraseIdx c
theorem detOf_less (R:List (List (Int×Int))) (T:List (List (List (Int×Int)))) (c:Nat) (hc:c<T.length+1):detOf (lessOf (R::T) c)=detF (rowsOf T) ((List.range (T.length+1)).eraseIdx c):=by
 rw[range_skip _ _ hc,detF_map]
 unfold detOf lessOf rowsOf
 simp only[List.tail_cons,List.map_map,List.length_map]
 congr 1
 apply List.map_congr_left
 intro Q _
 funext i
 simp only[Function.comp]
 exact erase_skip Q c i []
theorem detOf_cons (R:List (List (Int×Int))) (T:List (List (List (Int×Int)))) (y:Int):detOf (R::T) y=altTo (fun c=>prodL (R.getD c []) (detOf (lessOf (R::T) c))) (T.length+1) y:=by
 have e:detOf (R::T) y=rowF (fun c=>R.getD c []) (List.range (T.length+1)) (detF (rowsOf T)) y:=rfl
 rw[e,rowF_alt,List.length_range]
 have g:∀ m,m<=T.length+1->altTo (fun j=>prodL (R.getD ((List.range (T.length+1)).getD j 0) []) (detF (rowsOf T) ((List.range (T.length+1)).eraseIdx j))) m y=altTo (fun c=>prodL (R.getD c []) (detOf (lessOf (R::T) c))) m y:=by
  intro m hm
  induction m with
  |zero=>rfl
  |succ m ih=>
   simp only[altTo]
   rw[ih (by omega),detOf_less R T m (by omega)]
   have e2:(List.range (T.length+1)).getD m 0=m:=by simp[List.getD,show m<T.length+1 by omega]
   rw[e2]
 exact g _ (Nat.le_refl _)
theorem rowsOf_range (T:List (List (List (Int×Int)))):(List.range T.length).map (rowAt T)=rowsOf T:=by
 apply List.ext_getElem?
 intro i
 unfold rowsOf rowAt
 rw[List.getElem?_map,List.getElem?_map]
 by_cases h:i<T.length
 · rw[List.getElem?_range h]
   simp[List.getD,h]
 · rw[List.getElem?_eq_none (by simp;omega),List.getElem?_eq_none (by omega)]
   rfl
theorem minor_det (T:List (List (List (Int×Int)))) (h:T.length<11):minorF T (2 ^ T.length-1)=detOf T:=by
 rw[minor_full T T.length h,rowsOf_range]
 rfl
def GoodT (T:List (List (List (Int×Int)))) (n:Nat):Prop:=T.length=n/\∀ R∈T,R.length=n/\∀ l∈R,mayB l=true/\sizeL l<=4
theorem getD_mem {α:Type} (l:List α) (i:Nat) (d:α) (h:i<l.length):l.getD i d∈l:=by
 have e:l.getD i d=l[i]:=by simp[List.getD,h]
 rw[e]
 exact List.getElem_mem h
theorem good_at {T:List (List (List (Int×Int)))} {n:Nat} (h:GoodT T n) {i c:Nat} (hi:i<n) (hc:c<n):mayB ((T.getD i []).getD c [])=true/\sizeL ((T.getD i []).getD c [])<=4:=by
 have h1:=h.2 _ (getD_mem T i [] (by have:=h.1;omega))
 exact h1.2 _ (getD_mem _ c [] (by have:=h1.1;omega))
theorem altTo_supp (g:Nat->Int->Int) (m:Nat) (y:Int) (h:altTo g m y≠0):∃ j,j<m/\g j y≠0:=by
 induction m with
 |zero=>exact absurd rfl h
 |succ m ih=>
  by_cases h0:g m y=0
  · obtain⟨j,hj,hg⟩:=ih (fun e=>h (by simp[altTo,h0,e]))
    exact⟨j,by omega,hg⟩
  · exact⟨m,by omega,h0⟩
theorem ones_full (n:Nat) (hn:n<11):onesTo (2 ^ n-1) 10=n:=by
 have h0:0<2 ^ n:=Nat.pow_pos (by decide)
 have:=cols_len (2 ^ n-1) (pow_64 hn (by omega))
 rw[cols_full n hn]at this
 simpa using this.symm
theorem sgn_one (m:Nat):sgn m=1∨sgn m = -1:=by
 induction m with
 |zero=>exact Or.inl rfl
 |succ m ih=>simp only[sgn];omega
end Go.Proofs.Ytgagenmkpmmpfaa.Poly
/- The walk of poly.determinant: the map that it hands back has the determinant's coefficients. -/
namespace Go.Proofs.Ytgagenmkpmmpfaa.Poly
open Go.RowKit Go.Maps
set_option maxHeartbeats 4000000
set_option maxRecDepth 100000
theorem infoWork:(Try.prog.info? 118).map (fun i=>(i.zero,i.size,i.bytes))=some (some (.map none),1,8):=by kernel_rfl
theorem pow_wrap:∀ n,n<11->wrap64 (2 ^ n)=((2 ^ n:Nat):Int):=by decide +kernel
theorem bit_and:∀ s:Nat,s<1024->∀ m,m<10->bits BinOp.and IntKind.i64 ((s:Int) / 2 ^ m) 1=(((s >>> m)%2:Nat):Int):=by decide +kernel
theorem bit_not:∀ s:Nat,s<1024->∀ m,m<10->(s >>> m)%2=1->bits BinOp.andNot IntKind.i64 (s:Int) (wrap64 (2 ^ m))=((s-2 ^ m:Nat):Int):=by decide +kernel
theorem bit_shr:∀ s:Nat,s<1024->∀ m,m<10->IntKind.u64.wrap ((s:Int) / 2 ^ m)=((s >>> m:Nat):Int)/\s >>> m<1024:=by decide +kernel
theorem keysIn_none (N:Int):KeysIn (.map []:DataW Unit) N:=fun x hx=>by cases hx
theorem make46n (w:World):(Instr.makeMap 118 none).run Try.prog w=.ok (.map (some w.heap.size)) (w.alloc (.map #[] 0)):=rfl
def MinorAt (w:World) (T:List (List (List (Int×Int)))) (t b:Nat):Prop:=
 ∃ D:DataW Unit,w.ownsMap Try.prog 3 (plainElem Try.prog 3) b (szd (onesTo t 10)) D/\(∀ y,coefOf D y=minorF T t y)/\KeysIn D (1000*(onesTo t 10:Int))
def Minors (w:World) (B C:Nat) (T:List (List (List (Int×Int)))) (xs:List Value) (s:Nat):Prop:=
 ∀ t,t<s->∃ b,xs[t]?=some (.map (some b))/\B<b/\b<C/\MinorAt w T t b
theorem Minors.kept {w w':World} {B C s:Nat} {T:List (List (List (Int×Int)))} {xs:List Value} {row:Option Nat} (h:Minors w B C T xs s) (hg:w.grownBy w' row) (hne:∀ b,B<b->b<C->row≠some b):Minors w' B C T xs s:=by
 intro t ht
 obtain⟨b,h1,h2,h3,D,h4,h5,h6⟩:=h t ht
 exact⟨b,h1,h2,h3,D,h4.kept hg (fun e=>hne b h2 h3 e.symm),h5,h6⟩
theorem Minors.mono {w:World} {B C C' s:Nat} {T:List (List (List (Int×Int)))} {xs:List Value} (h:Minors w B C T xs s) (hC:C<=C'):Minors w B C' T xs s:=by
 intro t ht
 obtain⟨b,h1,h2,h3,h4⟩:=h t ht
 exact⟨b,h1,h2,Nat.lt_of_lt_of_le h3 hC,h4⟩
theorem minors_zero {w : World} {B C b : Nat} {T : List (List (List (Int × Int)))} {xs : List Value} (hB : B < b) (hC : b < C) (hx : xs[0]? = some (.map (some b)))
    (ho:w.ownsMap Try.prog 3 (plainElem Try.prog 3) b 1 ((DataW.map []:DataW Unit).put (.int .i64 0) (.lit (.int .i64 1)))):Minors w B C T xs 1:=by
 intro t ht
 obtain rfl:t=0:=by omega
 refine⟨b,hx,hB,hC,_,ho,fun y=>?_,keysIn_put (fun x hx=>by cases hx) (by decide) (by decide) _⟩
 rw[coefOf_put ⟨_,rfl⟩,minor_zero]
 unfold oneF
 by_cases h:(0:Int)=y
 · rw[if_pos h,if_pos h.symm]
 · rw[if_neg h,if_neg (fun e=>h e.symm)]
   exact coefOf_none rfl
theorem determinant_any (v : Value) (T : List (List (List (Int × Int)))) (n : Nat) (w : World) (hn : n ≤ 10) (hT : GoodT T n) (h : Table w w.heap.size v T) :
    Calls Try.prog 56 #[v] w fun e w'=>∃ (b:Nat) (D:DataW Unit),e=.returned (.map (some b))/\w.heap.size<=b/\w'.ownsMap Try.prog 3 (plainElem Try.prog 3) b (szd n) D/\(∀ y,coefOf D y=detOf T y)/\KeysIn D (1000*(n:Int))/\Below w.heap.size w w':=by
 obtain⟨i0,hi,hz0,hz1,hz2⟩:=info_parts infoWork
 obtain⟨rs,hrl,⟨a,cap,rfl,g⟩,hR⟩:=h
 have hTl:=hT.1
 obtain⟨N,hNe,hN,hN1,hN2⟩:∃ N:Nat,N=2 ^ n/\wrap64 (2 ^ n)=(N:Int)/\1<=N/\N<=1024:=⟨2 ^ n,rfl,pow_wrap n (by omega),Nat.pow_pos (by decide),Nat.pow_le_pow_right (n:=2) (by decide) hn⟩
 have HN:Hid (wrap64 (2 ^ n)=(N:Int)):=hN
 have HNe:Hid (N=2 ^ n):=hNe
 have HGT:Hid (GoodT T n):=hT
 have HR:Hid (∀ i,i<n->Row w w.heap.size (rs.getD i (.bool false)) (T.getD i [])):=fun i hi=>hR i (by omega)
 rw[hrl,hTl]at g ⊢
 have HG:Hid (0<n->∃ b off,a=some ⟨b,off,none⟩/\b<w.heap.size/\∀ i,i<n->w.cell? ⟨b,off+i,none⟩=some (rs.getD i (.bool false))):=g
 have hmm:=make46n
 clear hN hNe hT hR g hTl hrl
 go_enter Try.func56,Try.ntmps56
 go_wp2_with (first|(at_make;refine wpList_make_full _ rfl _ _ 129 rfl w.heap.size 118 i0 (.map none) 1 Try.underlying129 hi hz0 hz1 .i64 .i64 _ _ N rfl rfl HN.out HN.out (by rw[hz2];omega) (by unfold maxLen;omega) (Nat.le_refl _) ?_;intro w1 hrow hg1;refine Hid.out ?_))
 refine Lib.hid ?_
 have hown0:(w1.alloc (.map #[] 0)).ownsMap Try.prog 3 (plainElem Try.prog 3) w1.heap.size 0 (.map []:DataW Unit):=World.ownsMap_made _ _ _ _
 obtain⟨w2,hins,hown2,hg2⟩:=hown0.update law3 Try.underlying118 (by unfold maxLen;omega) (keyOf_int_mk Try.underlying3 (WalkArith.wf_i64 (by omega : -9223372036854775808<=(0:Int)/\(0:Int)<=9223372036854775807))) (plainElem_int Try.underlying3 (WalkArith.wf_i64 (by omega : -9223372036854775808<=(1:Int)/\(1:Int)<=9223372036854775807)))
 have hsz1:=hg1.size
 have hsz2:=hg2.size
 simp only[World.alloc,Array.size_push]at hsz2
 have hlt1:w.heap.size<w1.heap.size:=(hrow.lt w.heap.size rfl).2
 have hrow2:=(hrow.alloc (.map #[] 0)).kept hg2 (Or.inr (by simp[Value.ownBlock];omega))
 rw[show(madeCells (Value.map none).cells (N*1)).toList=List.replicate N (Value.map none) by rw[Nat.mul_one];exact toList_madeCells_one _ _]at hrow2
 have f0:=hrow2.frozenAt 0
 have d0:w2.cell? ⟨w.heap.size,0,none⟩=some (.map none):=by
  rw[hrow2.cellAt 0 (by omega),List.getElem?_replicate,if_pos (by omega)]
 have hB2:Below w.heap.size w w2:=(((Below.refl _ _).grown hg1 (Nat.le_refl _) (fun j hj=>by cases hj)).alloc hsz1 _).grown hg2 (by simp;omega) (fun j hj=>by cases hj;omega)
 have HST:Hid (∀ u,(w2.setCell ⟨w.heap.size,0,none⟩ u).ownsRow w.heap.size 118 1 (.slice (some ⟨w.heap.size,0,none⟩) N N) N ((List.replicate N (Value.map none)).set 0 u)/\w2.grownBy (w2.setCell ⟨w.heap.size,0,none⟩ u) (some w.heap.size)):=fun u=>hrow2.stored 0 u
 have HO2:Hid (w2.ownsMap Try.prog 3 (plainElem Try.prog 3) w1.heap.size 1 ((DataW.map []:DataW Unit).put (.int .i64 0) (.lit (.int .i64 1)))):=hown2
 have HB2:Hid (Below w.heap.size w w2):=hB2
 clear hB2 hown2 hrow2 hg1 hg2 hown0 hrow
 go_wp2
 clear hins f0 d0 hmm
 have hmm:=make46n
 go_loopw [4] (fun i wr=>∃ (s:Nat) (xs:List Value),1<=s/\s<=N/\i=.int .i64 s/\xs.length=N/\wr.ownsRow w.heap.size 118 1 (.slice (some ⟨w.heap.size,0,none⟩) N N) N xs/\Hid (Minors wr w.heap.size wr.heap.size T xs s)/\Below w.heap.size w wr) (fun i _=>N-(intOf i).toNat)
 case atStart=>
  have hst:=HST.out (.map (some w1.heap.size))
  refine⟨1,(List.replicate N (Value.map none)).set 0 (.map (some w1.heap.size)),Nat.le_refl _,hN1,rfl,by simp,hst.1,?_,HB2.out.grown hst.2 (by omega) (fun j hj=>by cases hj;omega)⟩
  exact minors_zero hlt1 (Nat.lt_of_lt_of_le (by omega) hst.2.size) (by rw[List.getElem?_set_self (by simp;omega)]) (HO2.out.kept hst.2 (fun e=>by have:=Option.some.inj e;omega))
 case round=>
  clear HST HO2 HB2 hlt1 hsz1 hsz2 w2
  rename World=>W1
  obtain⟨s,xs,hs1,hsN,rfl,hxl,hrow,hMin,hb⟩:=hrel
  by_cases hlt:s<N
  · have hs2:s<2 ^ n:=by rw[<-HNe.out];exact hlt
    have ho:=ones_le n (by omega) s hs2
    have hn1:0<n:=by omega
    obtain⟨k,hk⟩:∃ k,onesTo s 10=k+1:=⟨onesTo s 10 - 1,by have:=ho.2 hs1;omega⟩
    have hkn:k<n:=by omega
    have HK:Hid (onesTo s 10=k+1):=hk
    obtain⟨b,off,rfl,hbw,hc⟩:=HG.out hn1
    have c0:=bcell hb hbw (hc k hkn)
    obtain⟨ps,hpl,⟨a2,cap2,hv2,g2⟩,hPs⟩:=HR.out k hkn
    have hRl:(T.getD k []).length=n:=(HGT.out.2 _ (getD_mem T k [] (by rw[HGT.out.1];exact hkn))).1
    rw[hv2,hpl,hRl]at c0
    rw[hpl,hRl]at g2
    obtain⟨b2,off2,rfl,hbw2,hc2⟩:=g2 hn1
    have HC2:Hid (∀ i,i<n->w.cell? ⟨b2,off2+i,none⟩=some (ps.getD i (.bool false))):=hc2
    have HPs:Hid (∀ j,j<n->Poly w w.heap.size (ps.getD j (.bool false)) ((T.getD k []).getD j [])):=fun j hj=>hPs j (by rw[hRl];exact hj)
    have hbr:b<W1.heap.size:=Nat.lt_of_lt_of_le hbw hb.size
    have hszW:=hb.size
    clear hc hpl hv2 g2 hPs hc2 hRl ho hk hs2
    go_wp2_with (go_at_call 65;refine(ones_any s _ (by omega)).mono ?_;rw[HK.out];rintro r w3 ⟨rfl,hb3⟩;refine Hid.out ?_)
    refine Lib.hid ?_
    have hszW3:=hb3.size
    have c3:w3.cell? ⟨b,off+k,none⟩=some (.slice (some ⟨b2,off2,none⟩) n cap2):=bcell hb3 hbr c0
    have hbr3:b<w3.heap.size:=Nat.lt_of_lt_of_le hbr hszW3
    have hg3:W1.grownBy (w3.alloc (.map #[] 0)) none:=grown_trans (grown_below hb3 none) (World.grownBy_alloc _ _ _)
    have hrow3:=hrow.kept hg3 (Or.inr (by simp[Value.ownBlock]))
    have hlow:w.heap.size<W1.heap.size:=(hrow.lt w.heap.size rfl).2
    have HM3:Hid (Minors (w3.alloc (.map #[] 0)) w.heap.size w3.heap.size T xs s):=(hMin.out.kept hg3 (by simp)).mono hszW3
    have HO3:Hid ((w3.alloc (.map #[] 0)).ownsMap Try.prog 3 (plainElem Try.prog 3) w3.heap.size 0 (.map []:DataW Unit)):=World.ownsMap_made _ _ _ _
    have HB3:Hid (Below w.heap.size w (w3.alloc (.map #[] 0))):=(hb.trans (hb3.mono hszW)).alloc (by omega) _
    clear c0 hrow hMin hb hb3 hg3
    go_wp2
    clear c3
    go_loopw [34] (fun i ws => ∃ (m np : Nat) (D : DataW Unit), m ≤ n ∧ i = .int .i64 m ∧ ws.ownsRow w.heap.size 118 1 (.slice (some ⟨w.heap.size, 0, none⟩) N N) N xs ∧ Hid (Minors ws w.heap.size w3.heap.size T xs s) ∧
        ws.ownsMap Try.prog 3 (plainElem Try.prog 3) w3.heap.size np D/\Hid (np<=(progE s m).length*(4*szd k))/\Hid (∀ y,coefOf D y=sumE (rowAt T k) (detE (lastRows T k)) (progE s m) y)/\Hid (KeysIn D (1000*((k:Int)+1)))/\Below w.heap.size w ws) (fun i _=>n-(intOf i).toNat)
    case atStart=>exact⟨0,0,.map [],Nat.zero_le _,rfl,hrow3,HM3,HO3.out,Nat.zero_le _,fun y=>coefOf_none rfl,keysIn_none _,HB3.out⟩
    case round=>
     clear hrow3 HM3 HO3 HB3
     rename World=>W2
     obtain⟨m,np,D,hm,rfl,hrow,hMin,hown,hnp,hD,hKD,hb⟩:=hrel
     by_cases hml:m<n
     · have hszX:=hb.size
       have c2:=bcell hb hbw2 (HC2.out m hml)
       have hbr2:b2<W2.heap.size:=Nat.lt_of_lt_of_le hbw2 hszX
       have HQ:Hid (Poly W2 W2.heap.size (ps.getD m (.bool false)) ((T.getD k []).getD m [])):=((HPs.out m hml).on hb).mono hszX
       generalize ps.getD m (.bool false)=pv at c2 HQ
       by_cases hbit:(s >>> m)%2=1
       · have hcw:=bit_shr s (by omega) m (by omega)
         have HX:Hid (s >>> m<1024):=hcw.2
         have hshr:=hcw.1
         have hand:=bit_and s (by omega) m (by omega)
         rw[hbit]at hand
         have hnot:=bit_not s (by omega) m (by omega) hbit
         have hql:=cols_less s (by omega) m (by omega) hbit
         have hqe:=minor_less T s k m (by omega) (by omega) hbit HK.out
         have HSN:Hid (∀ y,sumE (rowAt T k) (detE (lastRows T k)) (progE s (m+1)) y=sumE (rowAt T k) (detE (lastRows T k)) (progE s m) y+signOf s m*prodL ((T.getD k []).getD m []) (minorF T (s-2 ^ m)) y):=fun y=>by
          rw[sum_next _ _ s m hbit y,hqe.1];rfl
         have HSG:Hid (signOf s m=if onesTo (s >>> m) 10%2=0 then -1 else 1):=(rfl:signOf s m=if onesTo (s >>> m) 10%2=0 then -1 else 1)
         have HLN:Hid ((progE s (m+1)).length=(progE s m).length+1):=len_next s m hbit
         have HPL:Hid ((progE s m).length<=k+1):=(by have:=prog_len s (by omega) m (by omega);rw[HK.out]at this;exact this:(progE s m).length<=k+1)
         have hs2:s<2 ^ n:=by rw[<-HNe.out];exact hlt
         have HBP:Hid (∀ x,-1000000000000000<=coefOf D x/\coefOf D x<=1000000000000000):=fun x=>by
          have h1:=part_abs T n (by omega) (fun i c hi hc=>(good_at HGT.out hi hc).2) s k m hs2 HK.out hm x
          have h2:=(bd_le (k+1) (by omega)).1
          rw[hD.out]
          omega
         have HBQ:Hid (∀ x,-2000000000000<=minorF T (s-2 ^ m) x/\minorF T (s-2 ^ m) x<=2000000000000):=fun x=>by
          have h1:=minor_abs T n (by omega) (fun i c hi hc=>(good_at HGT.out hi hc).2) (s-2 ^ m) (by omega) x
          have h2:=(bd_le k (by omega)).2 (by omega)
          rw[hqe.2]at h1
          omega
         have hnp1:np<=1000000000000000:=by
          have h1:=(szd_le (k+1) (by omega)).1
          have h2:(progE s m).length*(4*szd k)<=(k+1)*(4*szd k):=Nat.mul_le_mul_right _ HPL.out
          have h3:szd (k+1)=(k+1)*(4*szd k):=rfl
          have h4:=hnp.out
          omega
         have hnq1:szd k<=10000000000000:=(szd_le k (by omega)).2 (by omega)
         have hGD:=good_at HGT.out hkn hml
         have HGD:Hid (mayB ((T.getD k []).getD m [])=true/\sizeL ((T.getD k []).getD m [])<=4):=hGD
         obtain⟨bq,hxq,hBq,hCq,Dq,hoq,hcq,hkq⟩:=hMin.out (s - 2 ^ m) (by omega)
         rw[hqe.2]at hoq hkq
         have HCQ:Hid (∀ y,coefOf Dq y=minorF T (s-2 ^ m) y):=hcq
         have HKQ:Hid (KeysIn Dq (1000*(k:Int))):=hkq
         generalize hq:s-2 ^ m=q at hnot hql HSN HBQ hxq HCQ
         have hqN:q<N:=by omega
         have e0:W2.cell? ⟨w.heap.size,q,none⟩=some (.map (some bq)):=by rw[hrow.cellAt q (by omega)];exact hxq
         have hlow2:w.heap.size<W2.heap.size:=(hrow.lt w.heap.size rfl).2
         have hbpl:=hown.lt
         generalize (T.getD k []).getD m []=l at HQ HSN HGD
         have HE0:Hid (W2.cell? ⟨w.heap.size,q,none⟩=some (.map (some bq))):=e0
         have HOQ:Hid (W2.ownsMap Try.prog 3 (plainElem Try.prog 3) bq (szd k) Dq):=hoq
         have HOP:Hid (W2.ownsMap Try.prog 3 (plainElem Try.prog 3) w3.heap.size np D):=hown
         have HRW:Hid (W2.ownsRow w.heap.size 118 1 (.slice (some ⟨w.heap.size,0,none⟩) N N) N xs):=hrow
         have HBL:Hid (Below w.heap.size w W2):=hb
         clear e0 hoq hown hrow hb hxq hcq hkq hq hqe hql hGD hcw hs2
         obtain⟨c,hc⟩:∃ c,onesTo (s >>> m) 10=c:=⟨_,rfl⟩
         have HCC:Hid (onesTo (s >>> m) 10=c):=hc
         rw[hc]at HSG
         clear hc
         go_wp2_with (go_at_call 65;refine(ones_any (s >>> m) _ HX.out).mono ?_;rw[HCC.out];rintro r w4 ⟨rfl,hb4⟩;refine Hid.out ?_)
         refine Lib.hid ?_
         have hsz4:=hb4.size
         have HP4:Hid (Poly w4 w4.heap.size pv l):=HQ.out.up hb4
         have HB4:Hid (Below W2.heap.size W2 w4):=hb4
         clear hb4 c2 hand hshr
         by_cases hc2:c%2=0
         · rw[if_pos hc2]at HSG
           have hd:((c:Int)%2==0)=true:=by rw[beq_iff_eq];omega
           have HG1:Hid (mayB l=true):=HGD.out.1
           have e4:w4.cell? ⟨w.heap.size,q,none⟩=some (.map (some bq)):=bcell HB4.out hlow2 HE0.out
           have hl4:w.heap.size<w4.heap.size:=by omega
           go_wp2_with (go_at_call 66;refine(addp_poly (-1) (Or.inr rfl) w3.heap.size np bq (szd k) D Dq pv l _ (HOP.out.kept (grown_below HB4.out none) (by simp)) (HOQ.out.kept (grown_below HB4.out none) (by simp)) (by omega) HG1.out HGD.out.2 HP4.out hnp1 hnq1 (1000*(k:Int)) (1000*((k:Int)+1)) (by omega) (by omega) (by omega) hKD.out HKQ.out HBP.out (fun x=>by rw[HCQ.out];exact HBQ.out x)).mono ?_;rintro r w6 ⟨D6,rfl,hown6,hD6,hK6,hg6⟩)
           go_roundw
           case rel=>
            have hgX:W2.grownBy w6 (some w3.heap.size):=grown_trans (grown_below HB4.out _) hg6
            refine⟨m+1,_,D6,by omega,by go_num,HRW.out.kept hgX (Or.inr (by simp[Value.ownBlock];omega)),hMin.out.kept hgX (fun b h1 h2 e=>by have:=Option.some.inj e;omega),hown6,?_,fun y=>?_,hK6,HBL.out.grown hgX (by omega) (fun j hj=>by cases hj;omega)⟩
            · show np+4*szd k<=_
              rw[HLN.out,Nat.add_mul]
              have:=hnp.out
              omega
            · rw[HSN.out,HSG.out,hD6,hD.out,show coefOf Dq=minorF T q from funext HCQ.out]
           case measure=>simp only[intOf];omega
         · rw[if_neg hc2]at HSG
           have hd:((c:Int)%2==0)=false:=by rw[beq_eq_false_iff_ne];omega
           have HG1:Hid (mayB l=true):=HGD.out.1
           have e4:w4.cell? ⟨w.heap.size,q,none⟩=some (.map (some bq)):=bcell HB4.out hlow2 HE0.out
           have hl4:w.heap.size<w4.heap.size:=by omega
           go_wp2_with (go_at_call 66;refine(addp_poly 1 (Or.inl rfl) w3.heap.size np bq (szd k) D Dq pv l _ (HOP.out.kept (grown_below HB4.out none) (by simp)) (HOQ.out.kept (grown_below HB4.out none) (by simp)) (by omega) HG1.out HGD.out.2 HP4.out hnp1 hnq1 (1000*(k:Int)) (1000*((k:Int)+1)) (by omega) (by omega) (by omega) hKD.out HKQ.out HBP.out (fun x=>by rw[HCQ.out];exact HBQ.out x)).mono ?_;rintro r w6 ⟨D6,rfl,hown6,hD6,hK6,hg6⟩)
           go_roundw
           case rel=>
            have hgX:W2.grownBy w6 (some w3.heap.size):=grown_trans (grown_below HB4.out _) hg6
            refine⟨m+1,_,D6,by omega,by go_num,HRW.out.kept hgX (Or.inr (by simp[Value.ownBlock];omega)),hMin.out.kept hgX (fun b h1 h2 e=>by have:=Option.some.inj e;omega),hown6,?_,fun y=>?_,hK6,HBL.out.grown hgX (by omega) (fun j hj=>by cases hj;omega)⟩
            · show np+4*szd k<=_
              rw[HLN.out,Nat.add_mul]
              have:=hnp.out
              omega
            · rw[HSN.out,HSG.out,hD6,hD.out,show coefOf Dq=minorF T q from funext HCQ.out]
           case measure=>simp only[intOf];omega
       · have hand:=bit_and s (by omega) m (by omega)
         have hz:(s >>> m)%2=0:=by omega
         rw[hz]at hand
         have HSK:Hid (progE s (m+1)=progE s m):=sum_skip s m hbit
         clear hbit hz
         go_wp2
         go_roundw
         case rel=>exact⟨m+1,np,D,by omega,by go_num,hrow,hMin,hown,by rw[HSK.out];exact hnp,by rw[HSK.out];exact hD,hKD,hb⟩
         case measure=>simp only[intOf];omega
     · obtain rfl:m=n:=by omega
       have f0:=hrow.frozenAt s
       obtain⟨u0,hu0⟩:∃ u,xs[s]?=some u:=⟨xs[s]'(by omega),List.getElem?_eq_getElem (by omega)⟩
       have d0:W2.cell? ⟨w.heap.size,s,none⟩=some u0:=by rw[hrow.cellAt s (by omega)];exact hu0
       have hlow2:w.heap.size<W2.heap.size:=(hrow.lt w.heap.size rfl).2
       have hs2:s<2 ^ m:=by rw[<-HNe.out];exact hlt
       have HST:Hid ((W2.setCell ⟨w.heap.size,s,none⟩ (.map (some w3.heap.size))).ownsRow w.heap.size 118 1 (.slice (some ⟨w.heap.size,0,none⟩) N N) N (xs.set s (.map (some w3.heap.size)))/\W2.grownBy (W2.setCell ⟨w.heap.size,s,none⟩ (.map (some w3.heap.size))) (some w.heap.size)):=hrow.stored s _
       have hbpl:=hown.lt
       have HOP:Hid (W2.ownsMap Try.prog 3 (plainElem Try.prog 3) w3.heap.size np D):=hown
       have HBL:Hid (Below w.heap.size w W2):=hb
       have HMI:Hid (Minors W2 w.heap.size w3.heap.size T xs s):=hMin
       clear hown hb hrow hu0 hMin
       go_wp2
       go_roundw
       case rel=>
        obtain⟨hst,hgs⟩:=HST.out
        refine⟨s+1,_,by omega,by omega,by go_num,by simpa using hxl,hst,?_,HBL.out.grown hgs (by omega) (fun j hj=>by cases hj;omega)⟩
        intro t ht
        by_cases hts:t=s
        · subst hts
          refine⟨w3.heap.size,by rw[List.getElem?_set_self (by omega)],by omega,Nat.lt_of_lt_of_le hbpl hgs.size,D,?_,fun y=>?_,?_⟩
          · refine(HOP.out.kept hgs (fun e=>by have:=Option.some.inj e;omega)).mono ?_
            rw[HK.out]
            have h1:=prog_len t (by omega) m (by omega)
            rw[HK.out]at h1
            exact Nat.le_trans hnp.out (Nat.mul_le_mul_right _ h1)
          · rw[hD.out,minor_prog T m t k (by omega) hs2 HK.out]
          · rw[HK.out]
            exact hKD.out
        · obtain⟨b',h1,h2,h3,D',h4,h5,h6⟩:=HMI.out t (by omega)
          exact⟨b',by rw[List.getElem?_set_ne (by omega)];exact h1,h2,by have:=hgs.size;omega,D',h4.kept hgs (fun e=>by have:=Option.some.inj e;omega),h5,h6⟩
       case measure=>simp only[intOf];omega
  · obtain rfl:s=N:=by omega
    obtain⟨b',h1,h2,h3,D',h4,h5,h6⟩:=hMin.out (s - 1) (by omega)
    have d0:W1.cell? ⟨w.heap.size,s-1,none⟩=some (.map (some b')):=by rw[hrow.cellAt (s-1) (by omega)];exact h1
    have hlow2:w.heap.size<W1.heap.size:=(hrow.lt w.heap.size rfl).2
    have HO:Hid (W1.ownsMap Try.prog 3 (plainElem Try.prog 3) b' (szd (onesTo (s-1) 10)) D'):=h4
    have H5:Hid (∀ y,coefOf D' y=minorF T (s-1) y):=h5
    have H6:Hid (KeysIn D' (1000*(onesTo (s-1) 10:Int))):=h6
    clear h1 h4 h5 h6 hrow hMin
    have hix:(s:Int)-1=((s-1:Nat):Int):=by omega
    go_wp2
    go_ret
    have ho:=ones_full n (by omega)
    have hmd:=minor_det T (by rw[HGT.out.1];omega)
    rw[HGT.out.1]at hmd
    have hO:=HO.out
    have h5:=H5.out
    have h6:=H6.out
    rw[HNe.out,ho]at hO h6
    rw[HNe.out,hmd]at h5
    exact⟨b',D',rfl,by omega,hO,h5,h6,hb⟩
end Go.Proofs.Ytgagenmkpmmpfaa.Poly
/- The walk of poly.Det. -/
namespace Go.Proofs.Ytgagenmkpmmpfaa.Poly
open Go.RowKit Go.Maps
set_option maxHeartbeats 1000000
set_option maxRecDepth 100000
theorem coll_len {D:DataW Unit} {left:Lit->Bool} {acc:List (Int×Int)} (h:Coll D left acc) (N:Nat) (hK:KeysIn D (N:Int)):acc.length<=2*N+1:=by
 have := few_ints N (acc.map Prod.fst) (by
  rw[List.pairwise_map]
  exact h.once) (fun x hx=>by
  simp only[List.mem_map]at hx
  obtain⟨t,ht,rfl⟩:=hx
  have h1:=(h.mem t.1 t.2).1 ht
  refine hK t.1 ?_
  cases hh:Maps.has D (.int .i64 t.1) with
  |true=>rfl
  |false=>rw[coefOf_none hh]at h1;exact absurd h1.2.1.symm h1.2.2)
 simpa using this
theorem terms34k (b n : Nat) (D : DataW Unit) (w : World) (hown : w.ownsMap Try.prog 3 (plainElem Try.prog 3) b n D) (hn : ∀ left acc, Coll D left acc → acc.length ≤ 1000000) :
    Calls Try.prog 57 #[.map (some b)] w fun e w'=>∃ v l,e=.returned v/\w'.ownsRow w.heap.size 95 2 v l.length (flat l)/\Canon l (coefOf D)/\Below w.heap.size w w':=by
 obtain⟨i0,hi,hz0,hz1,hz2⟩:=info_parts infoTerm
 have hbl:=hown.lt
 have HL:Hid (∀ left acc,Coll D left acc->acc.length<=1000000):=hn
 clear hn
 go_enter Try.func57,Try.ntmps57
 go_wp2_with (first|(at_range;refine wpList_range_own _ rfl _ 118 rfl 3 3 law3 Try.underlying118 _ b n _ rfl hown ?_;intro w0 hrg0 hg0 hs0)|go_in)
 go_frame
 go_loopw [3] (fun v wr => ∃ (left : Lit → Bool) (cnt : Nat) (acc : List (Int × Int)), wr.ranges Try.prog 3 (plainElem Try.prog 3) b w.heap.size n D left cnt ∧
     wr.ownsRow w.heap.size 95 2 v acc.length (flat acc)/\Hid (Coll D left acc)/\Below w.heap.size w wr)
  (fun _ wr=>wr.rangeLeft b w.heap.size)
 case atStart=>
  exact⟨_,_,[],hrg0,World.ownsRow_nil _ _ _ _,coll_start D,(Below.refl _ _).grown hg0 (Nat.le_refl _) (fun j hj=>by cases hj)⟩
 case round=>
  obtain⟨left,cnt,acc,hrg,hrow,hC,hnx⟩:=hrel
  have hal:=HL.out _ _ hC.out
  go_wp2_with (first
   |(at_next;refine wpList_next_ranges_ii _ rfl _ rfl 3 3 .i64 .i64 law3 Try.underlying3 Try.underlying3 b w.heap.size n _ _ _ rfl hrg ?_ ?_)
   |go_in)
  · intro hc0 hl0
    have hc:=sort_list w.heap.size _ acc _ (by omega) hrow
    go_wp2_with (go_at_call 67;refine hc.mono ?_;rintro e w' ⟨rfl,l,hp,hs,hrow2,hg2⟩)
    go_ret
    refine⟨_,l,rfl,hrow2,coll_end hC.out hl0 hp hs,hnx.grown hg2 hnx.size (fun k hk=>(hrow.lt k hk).1)⟩
  · intro x c w1 cnt1 hwx hwc hlx hat hrg1 hlt hg1 hs1 hen
    have hrow1:=hrow.kept hg1 (Or.inr (row_ne_iter hrow hrg).symm)
    have hnx1:Below w.heap.size w w1:=hnx.grown hg1 hnx.size (fun j hj=>by cases hj;exact Nat.le_refl _)
    have Hat:Hid _:=hat
    clear hs1 hat
    by_cases hc:c=0
    · subst hc
      go_wp2
      go_roundw
      case rel=>exact⟨_,cnt1,acc,hrg1,hrow1,coll_zero hC.out Hat.out,hnx1⟩
      case measure=>rw[hrg1.left_eq,hrg.left_eq];exact hlt
    · have hcb:(c != 0)=true:=by rw[bne_iff_ne];exact hc
      have HC0:Hid (c≠0):=hc
      have hsz1:=hnx1.size
      clear hc
      go_wp2_with (first
       |(at_builtin;refine wpList_append_own _ rfl _ _ 56 rfl w.heap.size 95 i0 (.agg #[.int .i64 0,.int .i64 0]) 2 16 Try.underlying56 hi hz0 hz1 hz2 rfl (by decide) _ _ _ rfl (hrow1.alloc _) ⟨w1.heap.size,0,none⟩ 1 1 [.int .i64 x,.int .i64 c] rfl rfl (new_cells _ _ _) (pair_one _ _) (by unfold maxLen;omega) (by omega) (by simp;omega) ?_;intro v' w3 hown' hg3 _;go_frame)
       |go_in)
      have hrg3:=(hrg1.alloc _).kept hg3 (row_ne_low hrow1 hbl) (row_ne_iter hrow1 hrg1)
      go_roundw
      case rel=>
       refine⟨_,cnt1,acc++[(x,c)],hrg3,?_,coll_more hC.out hlx HC0.out Hat.out,(hnx1.alloc hsz1 _).grown hg3 (by simp;omega) (fun j hj=>(hrow1.lt j hj).1)⟩
       rw[flat_append,List.length_append]
       exact hown'
      case measure=>rw[hrg3.left_eq,hrg.left_eq];exact hlt
end Go.Proofs.Ytgagenmkpmmpfaa.Poly

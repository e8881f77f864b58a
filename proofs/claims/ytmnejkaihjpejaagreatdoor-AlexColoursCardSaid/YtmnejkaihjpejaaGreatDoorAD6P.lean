/- Several texts of the proof, one behind the other. -/
import Derived.Test.YtmnejkaihjpejaaGreatDoorAD2P
/- Tables of polynomials in a world, and the walk of poly.square. -/
namespace Go.Proofs.YtmnejkaihjpejaaGreatDoor.Poly
open Go.RowKit Go.Maps
def Slots (w:World) (B:Nat) (v:Value) (xs:List Value):Prop:=
 ∃ a cap,v=.slice a xs.length cap/\(0<xs.length->∃ b off,a=some ⟨b,off,none⟩/\b<B/\∀ i,i<xs.length->w.cell? ⟨b,off+i,none⟩=some (xs.getD i (.bool false)))
theorem Slots.on {w w':World} {B:Nat} {v:Value} {xs:List Value} (h:Slots w B v xs) (hb:Below B w w'):Slots w' B v xs:=by
 obtain⟨a,cap,rfl,g⟩:=h
 refine⟨a,cap,rfl,fun h0=>?_⟩
 obtain⟨b,off,rfl,hlt,hc⟩:=g h0
 exact⟨b,off,rfl,hlt,fun i hi=>bcell hb hlt (hc i hi)⟩
theorem Slots.mono {w:World} {B B':Nat} {v:Value} {xs:List Value} (h:Slots w B v xs) (hB:B<=B'):Slots w B' v xs:=by
 obtain⟨a,cap,rfl,g⟩:=h
 refine⟨a,cap,rfl,fun h0=>?_⟩
 obtain⟨b,off,rfl,hlt,hc⟩:=g h0
 exact⟨b,off,rfl,Nat.lt_of_lt_of_le hlt hB,hc⟩
def Row (w:World) (B:Nat) (v:Value) (T:List (List (Int×Int))):Prop:=
 ∃ ps:List Value,ps.length=T.length/\Slots w B v ps/\∀ j,j<T.length->Poly w B (ps.getD j (.bool false)) (T.getD j [])
def Table (w:World) (B:Nat) (v:Value) (T:List (List (List (Int×Int)))):Prop:=
 ∃ rs:List Value,rs.length=T.length/\Slots w B v rs/\∀ i,i<T.length->Row w B (rs.getD i (.bool false)) (T.getD i [])
theorem Row.on {w w':World} {B:Nat} {v:Value} {T:List (List (Int×Int))} (h:Row w B v T) (hb:Below B w w'):Row w' B v T:=by
 obtain⟨ps,h1,h2,h3⟩:=h
 exact⟨ps,h1,h2.on hb,fun j hj=>(h3 j hj).on hb⟩
theorem Row.mono {w:World} {B B':Nat} {v:Value} {T:List (List (Int×Int))} (h:Row w B v T) (hB:B<=B'):Row w B' v T:=by
 obtain⟨ps,h1,h2,h3⟩:=h
 exact⟨ps,h1,h2.mono hB,fun j hj=>(h3 j hj).mono hB⟩
theorem Table.on {w w':World} {B:Nat} {v:Value} {T:List (List (List (Int×Int)))} (h:Table w B v T) (hb:Below B w w'):Table w' B v T:=by
 obtain⟨rs,h1,h2,h3⟩:=h
 exact⟨rs,h1,h2.on hb,fun j hj=>(h3 j hj).on hb⟩
theorem Table.mono {w:World} {B B':Nat} {v:Value} {T:List (List (List (Int×Int)))} (h:Table w B v T) (hB:B<=B'):Table w B' v T:=by
 obtain⟨rs,h1,h2,h3⟩:=h
 exact⟨rs,h1,h2.mono hB,fun j hj=>(h3 j hj).mono hB⟩
theorem Table.up {w w':World} {v:Value} {T:List (List (List (Int×Int)))} (h:Table w w.heap.size v T) (hb:Below w.heap.size w w'):Table w' w'.heap.size v T:=(h.on hb).mono hb.size
end Go.Proofs.YtmnejkaihjpejaaGreatDoor.Poly
/- The columns of a set of bits, and a last row taken column by column. Plain mathematics: no program is named here. -/
namespace Go.Proofs.YtmnejkaihjpejaaGreatDoor.Poly
def picksE:List Nat->List (Int×Nat×List Nat)
 |[]=>[]
 |c::cs=>(sgn cs.length,c,cs)::(picksE cs).map fun p=>(p.1,p.2.1,c::p.2.2)
def sumE (b:Nat->List (Int×Int)) (h:List Nat->Int->Int):List (Int×Nat×List Nat)->Int->Int
 |[],_=>0
 |p::ps,y=>p.1*prodL (b p.2.1) (h p.2.2) y+sumE b h ps y
theorem sumE_map (b:Nat->List (Int×Int)) (h:List Nat->Int->Int) (c:Nat) (ps:List (Int×Nat×List Nat)) (y:Int):sumE b h (ps.map fun p=>(p.1,p.2.1,c::p.2.2)) y=sumE b (fun r=>h (c::r)) ps y:=by
 induction ps with
 |nil=>rfl
 |cons p ps ih=>simp only[List.map_cons,sumE,ih]
theorem rowE_picks (b:Nat->List (Int×Int)) (h:List Nat->Int->Int) (cs:List Nat) (y:Int):rowE b cs h y=sumE b h (picksE cs) y:=by
 induction cs generalizing h with
 |nil=>rfl
 |cons c cs ih=>simp only[rowE,picksE,sumE,sumE_map,ih]
theorem sumE_append (b:Nat->List (Int×Int)) (h:List Nat->Int->Int) (ps qs:List (Int×Nat×List Nat)) (y:Int):sumE b h (ps++qs) y=sumE b h ps y+sumE b h qs y:=by
 induction ps with
 |nil=>simp[sumE]
 |cons p ps ih=>simp only[List.cons_append,sumE,ih];omega
def colsOf (s:Nat):List Nat:=(List.range 10).filter fun c=>(s >>> c)%2==1
def signOf (s c:Nat):Int:=if onesTo (s >>> c) 10%2=0 then -1 else 1
def progE (s m:Nat):List (Int×Nat×List Nat):=((List.range m).filter fun c=>(s >>> c)%2==1).map fun c=>(signOf s c,c,colsOf (s-2 ^ c))
theorem prog_next (s m:Nat):progE s (m+1)=progE s m++(if(s >>> m)%2=1 then [(signOf s m,m,colsOf (s-2 ^ m))] else []):=by
 unfold progE
 rw[List.range_succ,List.filter_append,List.map_append]
 congr 1
 by_cases h:(s >>> m)%2=1
 · simp[h]
 · simp[h]
theorem prog_all:∀ s,s<1024->progE s 10=picksE (colsOf s):=by decide +kernel
theorem prog_few_all:((List.range 11).all fun n=>(List.range (2 ^ n)).all fun s=>decide (progE s n=progE s 10))=true:=by decide +kernel
theorem prog_few (n:Nat) (hn:n<11) (s:Nat) (hs:s<2 ^ n):progE s n=progE s 10:=by
 have h:=prog_few_all
 simp only[List.all_eq_true,List.mem_range,decide_eq_true_eq]at h
 exact h n hn s hs
theorem cols_len:∀ s,s<1024->(colsOf s).length=onesTo s 10:=by decide +kernel
theorem cols_full:∀ n,n<11->colsOf (2 ^ n-1)=List.range n:=by decide +kernel
theorem cols_less:∀ s,s<1024->∀ c,c<10->(s >>> c)%2=1->s-2 ^ c<s/\onesTo (s-2 ^ c) 10+1=onesTo s 10:=by decide +kernel
theorem ones_le:∀ n,n<11->∀ s,s<2 ^ n->onesTo s 10<=n/\(0<s->0<onesTo s 10):=by decide +kernel
theorem rowE_prog (b:Nat->List (Int×Int)) (h:List Nat->Int->Int) (n s:Nat) (hn:n<11) (hs:s<2 ^ n) (y:Int):sumE b h (progE s n) y=rowE b (colsOf s) h y:=by
 have h64:s<1024:=Nat.lt_of_lt_of_le hs (Nat.pow_le_pow_right (n:=2) (by decide) (show n<=10 by omega))
 rw[rowE_picks,prog_few n hn s hs,prog_all s h64]
end Go.Proofs.YtmnejkaihjpejaaGreatDoor.Poly
/- The minors of a table by sets of columns, and their bounds. Plain mathematics: no program is named here. -/
namespace Go.Proofs.YtmnejkaihjpejaaGreatDoor.Poly
def rowAt (T:List (List (List (Int×Int)))) (k:Nat) (c:Nat):List (Int×Int):=(T.getD k []).getD c []
def lastRows (T:List (List (List (Int×Int)))):Nat->List (Nat->List (Int×Int))
 |0=>[]
 |k+1=>rowAt T k::lastRows T k
def minorF (T:List (List (List (Int×Int)))) (s:Nat):Int->Int:=detE (lastRows T (onesTo s 10)) (colsOf s)
def bd:Nat->Nat
 |0=>1
 |k+1=>(k+1)*(4*bd k)
def szd:Nat->Nat
 |0=>1
 |k+1=>(k+1)*(4*szd k)
theorem prodL_abs (l : List (Int × Int)) (g : Int → Int) (H : Nat) (hg : ∀ x, (g x).natAbs ≤ H) (y : Int) (k : Nat) (hk : k ≤ l.length) :
    ((prodL (l.take k) g y).natAbs:Int)<=sizeTo l k*(H:Int):=by
 induction k with
 |zero=>simp[sizeTo,prodL]
 |succ k ih=>
  have ih:=ih (by omega)
  have hk':k<l.length:=by omega
  rw[List.take_succ_eq_append_getElem hk',prodL_append,sizeTo]
  have g0:l.getD k (0,0)=l[k]:=by simp[List.getD,hk']
  rw[g0,Int.add_mul]
  have e:prodL [l[k]] g y=l[k].2*g (y-l[k].1):=by simp[prodL]
  rw[e]
  have e1:((l[k].2*g (y-l[k].1)).natAbs:Int)<=absI l[k].2*(H:Int):=by
   have h:(l[k].2*g (y-l[k].1)).natAbs<=l[k].2.natAbs*H:=by
    rw[Int.natAbs_mul]
    exact Nat.mul_le_mul (Nat.le_refl _) (hg _)
   have ha:absI l[k].2=(l[k].2.natAbs:Int):=by unfold absI;split<;>omega
   rw[ha,<-Int.natCast_mul]
   exact Int.ofNat_le.2 h
  have e2:=Int.natAbs_add_le (prodL (l.take k) g y) (l[k].2*g (y-l[k].1))
  omega
theorem prodL_100 (l:List (Int×Int)) (hl:sizeL l<=4) (g:Int->Int) (H:Nat) (hg:∀ x,(g x).natAbs<=H) (y:Int):(prodL l g y).natAbs<=4*H:=by
 have h:=prodL_abs l g H hg y l.length (Nat.le_refl _)
 rw[List.take_length]at h
 have h2:sizeTo l l.length*(H:Int)<=4*(H:Int):=Int.mul_le_mul_of_nonneg_right hl (by omega)
 omega
theorem sumE_abs (b : Nat → List (Int × Int)) (h : List Nat → Int → Int) (H : Nat) (ps : List (Int × Nat × List Nat)) (hp : ∀ p ∈ ps, p.1.natAbs ≤ 1 ∧ sizeL (b p.2.1) ≤ 4 ∧ ∀ x, (h p.2.2 x).natAbs ≤ H) (y : Int) :
    (sumE b h ps y).natAbs<=ps.length*(4*H):=by
 induction ps with
 |nil=>simp[sumE]
 |cons p ps ih=>
  have h1:=hp p (by simp)
  have h2:=ih fun q hq=>hp q (by simp[hq])
  have h3:=prodL_100 (b p.2.1) h1.2.1 (h p.2.2) H h1.2.2 y
  have h4:(p.1*prodL (b p.2.1) (h p.2.2) y).natAbs<=1*(4*H):=by
   rw[Int.natAbs_mul]
   exact Nat.mul_le_mul h1.1 h3
  have h5:=Int.natAbs_add_le (p.1*prodL (b p.2.1) (h p.2.2) y) (sumE b h ps y)
  rw[sumE,List.length_cons,Nat.add_mul]
  omega
theorem prog_mem {s m:Nat} {p:Int×Nat×List Nat} (h:p∈progE s m):∃ c,c<m/\(s >>> c)%2=1/\p=(signOf s c,c,colsOf (s-2 ^ c)):=by
 unfold progE at h
 simp only[List.mem_map,List.mem_filter,List.mem_range,beq_iff_eq]at h
 obtain⟨c,⟨h1,h2⟩,h3⟩:=h
 exact⟨c,h1,h2,h3.symm⟩
theorem prog_len:∀ s,s<1024->∀ m,m<11->(progE s m).length<=onesTo s 10:=by decide +kernel
theorem sign_le (s c:Nat):(signOf s c).natAbs<=1:=by unfold signOf;split<;>decide
theorem minor_zero (T:List (List (List (Int×Int)))):minorF T 0=oneF:=rfl
theorem minor_prog (T : List (List (List (Int × Int)))) (n s k : Nat) (hn : n < 11) (hs : s < 2 ^ n) (hk : onesTo s 10 = k + 1) (y : Int) :
    sumE (rowAt T k) (detE (lastRows T k)) (progE s n) y=minorF T s y:=by
 rw[rowE_prog _ _ n s hn hs]
 unfold minorF
 rw[hk]
 rfl
theorem minor_less (T:List (List (List (Int×Int)))) (s k c:Nat) (hs:s<1024) (hc:c<10) (hb:(s >>> c)%2=1) (hk:onesTo s 10=k+1):detE (lastRows T k) (colsOf (s-2 ^ c))=minorF T (s-2 ^ c)/\onesTo (s-2 ^ c) 10=k:=by
 have h:=(cols_less s hs c hc hb).2
 have e:onesTo (s-2 ^ c) 10=k:=by omega
 unfold minorF
 rw[e]
 exact⟨rfl,rfl⟩
theorem pow_64 {n s:Nat} (hn:n<11) (hs:s<2 ^ n):s<1024:=Nat.lt_of_lt_of_le hs (Nat.pow_le_pow_right (n:=2) (by decide) (show n<=10 by omega))
theorem minor_abs (T:List (List (List (Int×Int)))) (n:Nat) (hn:n<11) (hT:∀ i c,i<n->c<n->sizeL (rowAt T i c)<=4):∀ s,s<2 ^ n->∀ y,(minorF T s y).natAbs<=bd (onesTo s 10):=by
 intro s
 induction s using Nat.strongRecOn with
 |ind s ih=>
  intro hs y
  have h64:=pow_64 hn hs
  rcases hk:onesTo s 10 with _|k
  · unfold minorF
    rw[hk]
    show(oneF y).natAbs<=1
    unfold oneF
    split<;>decide
  · rw[<-minor_prog T n s k hn hs hk]
    have ho:=(ones_le n hn s hs).1
    have h := sumE_abs (rowAt T k) (detE (lastRows T k)) (bd k) (progE s n) (fun p hp => by
     obtain⟨c,hc,hb,rfl⟩:=prog_mem hp
     have hl:=cols_less s h64 c (by omega) hb
     obtain⟨e1,e2⟩:=minor_less T s k c h64 (by omega) hb hk
     refine⟨sign_le s c,hT k c (by omega) hc,fun x=>?_⟩
     rw[e1]
     have:=ih (s-2 ^ c) hl.1 (by omega) x
     rw[e2]at this
     exact this) y
    have hlen:=prog_len s h64 n hn
    rw[hk]at hlen
    exact Nat.le_trans h (Nat.mul_le_mul_right _ hlen)
theorem part_abs (T : List (List (List (Int × Int)))) (n : Nat) (hn : n < 11) (hT : ∀ i c, i < n → c < n → sizeL (rowAt T i c) ≤ 4) (s k m : Nat) (hs : s < 2 ^ n) (hk : onesTo s 10 = k + 1) (hm : m ≤ n) (y : Int) :
    (sumE (rowAt T k) (detE (lastRows T k)) (progE s m) y).natAbs<=bd (k+1):=by
 have h64:=pow_64 hn hs
 have ho:=(ones_le n hn s hs).1
 have h := sumE_abs (rowAt T k) (detE (lastRows T k)) (bd k) (progE s m) (fun p hp => by
  obtain⟨c,hc,hb,rfl⟩:=prog_mem hp
  have hl:=cols_less s h64 c (by omega) hb
  obtain⟨e1,e2⟩:=minor_less T s k c h64 (by omega) hb hk
  refine⟨sign_le s c,hT k c (by omega) (by omega),fun x=>?_⟩
  rw[e1]
  have:=minor_abs T n hn hT (s-2 ^ c) (by omega) x
  rw[e2]at this
  exact this) y
 have hlen:=prog_len s h64 m (by omega)
 rw[hk]at hlen
 exact Nat.le_trans h (Nat.mul_le_mul_right _ hlen)
theorem bd_le:∀ k,k<11->bd k<=1000000000000000/\(k<10->bd k<=2000000000000):=by decide +kernel
theorem szd_le:∀ k,k<11->szd k<=1000000000000000/\(k<10->szd k<=10000000000000):=by decide +kernel
theorem sum_next (b:Nat->List (Int×Int)) (h:List Nat->Int->Int) (s m:Nat) (hb:(s >>> m)%2=1) (y:Int):sumE b h (progE s (m+1)) y=sumE b h (progE s m) y+signOf s m*prodL (b m) (h (colsOf (s-2 ^ m))) y:=by
 rw[prog_next,if_pos hb,sumE_append]
 simp[sumE]
theorem sum_skip (s m:Nat) (hb:¬(s >>> m)%2=1):progE s (m+1)=progE s m:=by
 rw[prog_next,if_neg hb]
 simp
theorem len_next (s m:Nat) (hb:(s >>> m)%2=1):(progE s (m+1)).length=(progE s m).length+1:=by
 rw[prog_next,if_pos hb]
 simp
theorem lastRows_eq (T:List (List (List (Int×Int)))) (k:Nat):lastRows T k=((List.range k).map (rowAt T)).reverse:=by
 induction k with
 |zero=>rfl
 |succ k ih=>simp[lastRows,ih,List.range_succ]
theorem minor_full (T:List (List (List (Int×Int)))) (n:Nat) (hn:n<11):minorF T (2 ^ n-1)=detF ((List.range n).map (rowAt T)) (List.range n):=by
 have h0:0<2 ^ n:=Nat.pow_pos (by decide)
 have e:onesTo (2 ^ n-1) 10=n:=by
  have:=cols_len (2 ^ n-1) (pow_64 hn (by omega))
  rw[cols_full n hn]at this
  simpa using this.symm
 unfold minorF
 rw[e,cols_full n hn,lastRows_eq,det_same n _ _ (by simp) (by simp)]
end Go.Proofs.YtmnejkaihjpejaaGreatDoor.Poly
/- Determinants along the first row, their exponents and their bounds. Plain mathematics: no program is named here. -/
namespace Go.Proofs.YtmnejkaihjpejaaGreatDoor.Poly
theorem few_nats:∀ (n:Nat) (l:List Nat),l.Pairwise (·≠·)->(∀ x∈l,x<n)->l.length<=n:=by
 intro n
 induction n with
 |zero=>
  intro l _ h
  cases l with
  |nil=>simp
  |cons x l=>exact absurd (h x (by simp)) (by omega)
 |succ n ih=>
  intro l hp h
  have h1 := ih (l.filter fun x => x != n) (hp.sublist List.filter_sublist) (fun x hx => by
   simp only[List.mem_filter,bne_iff_ne,ne_eq]at hx
   have:=h x hx.1
   omega)
  have h2:∀ (l:List Nat),l.Pairwise (·≠·)->l.length<=(l.filter fun x=>x != n).length+1:=by
   intro l hp
   induction l with
   |nil=>simp
   |cons x l ihl=>
    rw[List.pairwise_cons]at hp
    by_cases hx:x=n
    · have e : (l.filter fun x => x != n) = l := by
        rw[List.filter_eq_self]
        intro y hy
        have:=hp.1 y hy
        simp only[bne_iff_ne,ne_eq]
        omega
      simp[hx,e]
    · have:=ihl hp.2
      simp[hx]
      omega
  have:=h2 l hp
  omega
theorem few_ints (K:Nat) (l:List Int) (hp:l.Pairwise (·≠·)) (h:∀ x∈l,-(K:Int)<=x/\x<=K):l.length<=2*K+1:=by
 have := few_nats (2 * K + 1) (l.map fun x : Int => (x + (K : Int)).toNat) (by
  rw[List.pairwise_map]
  refine List.Pairwise.imp_of_mem ?_ hp
  intro a b ha hb hab e
  have:=h a ha
  have:=h b hb
  omega) (fun x hx=>by
  simp only[List.mem_map]at hx
  obtain⟨y,hy,rfl⟩:=hx
  have:=h y hy
  omega)
 simpa using this
theorem canon_len {l:List (Int×Int)} {f:Int->Int} (h:Canon l f) (K:Nat) (hf:∀ x,f x≠0 -> -(K:Int)<=x/\x<=K):l.length<=2*K+1:=by
 have := few_ints K (l.map Prod.fst) (by
  rw[List.pairwise_map]
  exact h.1.imp fun hab=>by omega) (fun x hx=>by
  simp only[List.mem_map]at hx
  obtain⟨t,ht,rfl⟩:=hx
  have:=(h.2 t.1 t.2).1 ht
  exact hf t.1 (by rw[this.1];exact this.2))
 simpa using this
def altTo (g:Nat->Int->Int):Nat->Int->Int
 |0,_=>0
 |m+1,y=>altTo g m y+sgn m*g m y
theorem altTo_shift (g:Nat->Int->Int) (m:Nat) (y:Int):altTo g (m+1) y=g 0 y-altTo (fun j=>g (j+1)) m y:=by
 induction m with
 |zero=>simp[altTo,sgn]
 |succ m ih=>
  have e:altTo g (m+1+1) y=altTo g (m+1) y+sgn (m+1)*g (m+1) y:=rfl
  have e2:altTo (fun j=>g (j+1)) (m+1) y=altTo (fun j=>g (j+1)) m y+sgn m*g (m+1) y:=rfl
  have e3:sgn (m+1)*g (m+1) y = -(sgn m*g (m+1) y):=by simp only[sgn,Int.neg_mul]
  rw[e,ih,e2,e3]
  omega
theorem rowF_alt (a:Nat->List (Int×Int)) (cs:List Nat) (h:List Nat->Int->Int) (y:Int):rowF a cs h y=altTo (fun j=>prodL (a (cs.getD j 0)) (h (cs.eraseIdx j))) cs.length y:=by
 induction cs generalizing h with
 |nil=>rfl
 |cons c cs ih=>
  rw[List.length_cons,altTo_shift]
  simp only[rowF,ih]
  rfl
theorem rowF_map (a:Nat->List (Int×Int)) (p:Nat->Nat) (cs:List Nat) (h:List Nat->Int->Int) (y:Int):rowF a (cs.map p) h y=rowF (fun c=>a (p c)) cs (fun rest=>h (rest.map p)) y:=by
 induction cs generalizing h with
 |nil=>rfl
 |cons c cs ih=>simp only[List.map_cons,rowF,ih]
theorem detF_map (rows:List (Nat->List (Int×Int))) (p:Nat->Nat):∀ cs,detF rows (cs.map p)=detF (rows.map fun r c=>r (p c)) cs:=by
 induction rows with
 |nil=>intro cs;rfl
 |cons r rows ih=>
  intro cs
  funext y
  simp only[detF,List.map_cons,rowF_map]
  have e:(fun rest=>detF rows (rest.map p))=detF (rows.map fun r c=>r (p c)):=funext ih
  rw[e]
def skip (c i:Nat):Nat:=if i<c then i else i+1
theorem range_skip (n c:Nat) (hc:c<n+1):(List.range (n+1)).eraseIdx c=(List.range n).map (skip c):=by
 apply List.ext_getElem?
 intro i
 rw[List.getElem?_eraseIdx,List.getElem?_map]
 unfold skip
 by_cases h:i<c
 · rw[if_pos h,List.getElem?_range (by omega),List.getElem?_range (by omega)]
   simp[h]
 · rw[if_neg h]
   by_cases hi:i<n
   · rw[List.getElem?_range (by omega),List.getElem?_range (by omega)]
     simp[h]
   · rw[List.getElem?_eq_none (by simp;omega),List.getElem?_eq_none (by simp;omega)]
     rfl
theorem erase_skip {α:Type} (l:List α) (c i:Nat) (d:α):(l.eraseIdx c).getD i d=l.getD (skip c i) d:=by
 unfold skip List.getD
 rw[List.getElem?_eraseIdx]
 split<;>rfl
def rowsOf (T:List (List (List (Int×Int)))):List (Nat->List (Int×Int)):=T.map fun R c=>R.getD c []
def detOf (T:List (List (List (Int×Int)))):Int->Int:=detF (rowsOf T) (List.range T.length)
def lessOf (T:List (List (List (Int×Int)))) (c:Nat):List (List (List (Int×Int))):=T.tail.map fun R=>R.eraseIdx c
theorem detOf_less (R:List (List (Int×Int))) (T:List (List (List (Int×Int)))) (c:Nat) (hc:c<T.length+1):detOf (lessOf (R::T) c)=detF (rowsOf T) ((List.range (T.length+1)).eraseIdx c):=by
 rw[range_skip _ _ hc,detF_map]
 unfold detOf lessOf rowsOf
 simp only[List.tail_cons,List.map_map,List.length_map]
 congr 1
 apply List.map_congr_left
 intro Q _
 funext i
 simp only[Function.comp]
 exact erase_skip Q c i []
theorem detOf_cons (R:List (List (Int×Int))) (T:List (List (List (Int×Int)))) (y:Int):detOf (R::T) y=altTo (fun c=>prodL (R.getD c []) (detOf (lessOf (R::T) c))) (T.length+1) y:=by
 have e:detOf (R::T) y=rowF (fun c=>R.getD c []) (List.range (T.length+1)) (detF (rowsOf T)) y:=rfl
 rw[e,rowF_alt,List.length_range]
 have g:∀ m,m<=T.length+1->altTo (fun j=>prodL (R.getD ((List.range (T.length+1)).getD j 0) []) (detF (rowsOf T) ((List.range (T.length+1)).eraseIdx j))) m y=altTo (fun c=>prodL (R.getD c []) (detOf (lessOf (R::T) c))) m y:=by
  intro m hm
  induction m with
  |zero=>rfl
  |succ m ih=>
   simp only[altTo]
   rw[ih (by omega),detOf_less R T m (by omega)]
   have e2:(List.range (T.length+1)).getD m 0=m:=by simp[List.getD,show m<T.length+1 by omega]
   rw[e2]
 exact g _ (Nat.le_refl _)
theorem rowsOf_range (T:List (List (List (Int×Int)))):(List.range T.length).map (rowAt T)=rowsOf T:=by
 apply List.ext_getElem?
 intro i
 unfold rowsOf rowAt
 rw[List.getElem?_map,List.getElem?_map]
 by_cases h:i<T.length
 · rw[List.getElem?_range h]
   simp[List.getD,h]
 · rw[List.getElem?_eq_none (by simp;omega),List.getElem?_eq_none (by omega)]
   rfl
theorem minor_det (T:List (List (List (Int×Int)))) (h:T.length<11):minorF T (2 ^ T.length-1)=detOf T:=by
 rw[minor_full T T.length h,rowsOf_range]
 rfl
def GoodT (T:List (List (List (Int×Int)))) (n:Nat):Prop:=T.length=n/\∀ R∈T,R.length=n/\∀ l∈R,mayB l=true/\sizeL l<=4
theorem getD_mem {α:Type} (l:List α) (i:Nat) (d:α) (h:i<l.length):l.getD i d∈l:=by
 have e:l.getD i d=l[i]:=by simp[List.getD,h]
 rw[e]
 exact List.getElem_mem h
theorem good_at {T:List (List (List (Int×Int)))} {n:Nat} (h:GoodT T n) {i c:Nat} (hi:i<n) (hc:c<n):mayB ((T.getD i []).getD c [])=true/\sizeL ((T.getD i []).getD c [])<=4:=by
 have h1:=h.2 _ (getD_mem T i [] (by have:=h.1;omega))
 exact h1.2 _ (getD_mem _ c [] (by have:=h1.1;omega))
theorem altTo_supp (g:Nat->Int->Int) (m:Nat) (y:Int) (h:altTo g m y≠0):∃ j,j<m/\g j y≠0:=by
 induction m with
 |zero=>exact absurd rfl h
 |succ m ih=>
  by_cases h0:g m y=0
  · obtain⟨j,hj,hg⟩:=ih (fun e=>h (by simp[altTo,h0,e]))
    exact⟨j,by omega,hg⟩
  · exact⟨m,by omega,h0⟩
theorem ones_full (n:Nat) (hn:n<11):onesTo (2 ^ n-1) 10=n:=by
 have h0:0<2 ^ n:=Nat.pow_pos (by decide)
 have:=cols_len (2 ^ n-1) (pow_64 hn (by omega))
 rw[cols_full n hn]at this
 simpa using this.symm
theorem sgn_one (m:Nat):sgn m=1∨sgn m = -1:=by
 induction m with
 |zero=>exact Or.inl rfl
 |succ m ih=>simp only[sgn];omega
end Go.Proofs.YtmnejkaihjpejaaGreatDoor.Poly

/- Several texts of the proof, one behind the other. -/
import Derived.Test.YtjcagkgpbcdghaaDoorPA10P
/- Burau's tables: plain mathematics of polynomials as functions. -/
namespace Go.Proofs.YtjcagkgpbcdghaaDoor.Poly
open Go.RowKit Go.Maps
theorem few_natsB:∀ (n:Nat) (l:List Nat),l.Pairwise (·≠·)->(∀ x∈l,x<n)->l.length<=n:=by
 intro n
 induction n with
 |zero=>
  intro l _ h
  cases l with
  |nil=>simp
  |cons x l=>exact absurd (h x (by simp)) (by omega)
 |succ n ih=>
  intro l hp h
  have h1 := ih (l.filter fun x => x != n) (hp.sublist List.filter_sublist) (fun x hx => by
   simp only[List.mem_filter,bne_iff_ne,ne_eq]at hx
   have:=h x hx.1
   omega)
  have h2:∀ (l:List Nat),l.Pairwise (·≠·)->l.length<=(l.filter fun x=>x != n).length+1:=by
   intro l hp
   induction l with
   |nil=>simp
   |cons x l ihl=>
    rw[List.pairwise_cons]at hp
    by_cases hx:x=n
    · have e : (l.filter fun x => x != n) = l := by
        rw[List.filter_eq_self]
        intro y hy
        have:=hp.1 y hy
        simp only[bne_iff_ne,ne_eq]
        omega
      simp[hx,e]
    · have:=ihl hp.2
      simp[hx]
      omega
  have:=h2 l hp
  omega
theorem Xv9 (K:Nat) (l:List Int) (hp:l.Pairwise (·≠·)) (h:∀ x∈l,-(K:Int)<=x/\x<=K):l.length<=2*K+1:=by
 have := few_natsB (2 * K + 1) (l.map fun x : Int => (x + (K : Int)).toNat) (by
  rw[List.pairwise_map]
  refine List.Pairwise.imp_of_mem ?_ hp
  intro a b ha hb hab e
  have:=h a ha
  have:=h b hb
  omega) (fun x hx=>by
  simp only[List.mem_map]at hx
  obtain⟨y,hy,rfl⟩:=hx
  have:=h y hy
  omega)
 simpa using this
theorem ZX7 {l:List (Int×Int)} {f:Int->Int} (h:Canon l f) (x:Int):coefL l x=f x:=by
 have hn:l.Pairwise (fun a b=>a.1≠b.1):=h.1.imp fun hab=>by omega
 have hz:∀ t∈l,t.2≠0:=fun t ht=>((h.2 t.1 t.2).1 ht).2
 by_cases h0:f x=0
 · rw[h0]
   by_cases h1:coefL l x=0
   · exact h1
   · have:=(QG4 hn hz x (coefL l x)).2 ⟨rfl,h1⟩
     have:=((h.2 x (coefL l x)).1 this).1
     rw[h0]at this
     exact this.symm
 · have:=(h.2 x (f x)).2 ⟨rfl,h0⟩
   exact((QG4 hn hz x (f x)).1 this).1
theorem Xw3 {D:DataW Unit} {left:Lit->Bool} {acc:List (Int×Int)} (h:Coll D left acc) (N:Nat) (hK:QX5 D (N:Int)):acc.length<=2*N+1:=by
 have := Xv9 N (acc.map Prod.fst) (by
  rw[List.pairwise_map]
  exact h.once) (fun x hx=>by
  simp only[List.mem_map]at hx
  obtain⟨t,ht,rfl⟩:=hx
  have h1:=(h.mem t.1 t.2).1 ht
  refine hK t.1 ?_
  cases hh:Maps.has D (.int .i64 t.1) with
  |true=>rfl
  |false=>rw[coefOf_none hh]at h1;exact absurd h1.2.1.symm h1.2.2)
 simpa using this
theorem ZQ1 (a:List (Int×Int)) (z d y:Int):QQ5 a (fun u=>if z=u then d else 0) y=d*coefL a (y-z):=by
 induction a with
 |nil=>simp[QQ5,coefL]
 |cons t a ih=>
  simp only[QQ5,coefL,ih,Int.mul_add]
  congr 1
  by_cases e:t.1=y-z
  · rw[if_pos (by omega),if_pos e,Int.mul_comm]
  · rw[if_neg (by omega),if_neg e];simp
theorem KQ7 (a:List (Int×Int)) (f g:Int->Int) (y:Int):QQ5 a (fun u=>f u+g u) y=QQ5 a f y+QQ5 a g y:=by
 induction a with
 |nil=>simp[QQ5]
 |cons t a ih=>simp only[QQ5,ih,Int.mul_add];omega
theorem ZG5 (a b:List (Int×Int)) (y:Int):QQ5 a (coefL b) y=QQ5 b (coefL a) y:=by
 induction b with
 |nil=>
  have:∀ a:List (Int×Int),QQ5 a (coefL []) y=0:=fun a=>by
   induction a with
   |nil=>rfl
   |cons t a ih=>
    show t.2*coefL [] (y-t.1)+QQ5 a (coefL []) y=0
    rw[ih]
    show t.2*0+0=0
    omega
  rw[this]
  rfl
 |cons t b ih=>
  have e:coefL (t::b)=fun u=>(if t.1=u then t.2 else 0)+coefL b u:=rfl
  rw[e,KQ7,ZQ1,ih]
  rfl
theorem XV1 (a:List (Int×Int)) (f g:Int->Int) (h:∀ u,f u=g u) (y:Int):QQ5 a f y=QQ5 a g y:=by rw[show f=g from funext h]
theorem Kq4 {acc:List (Int×Int)} {f:Int->Int} (h:∀ x c,(x,c)∈acc↔(f x=c/\c≠0)) (hp:acc.Pairwise (fun a b=>a.1≠b.1)) (x:Int):coefL acc x=f x:=by
 have hz:∀ t∈acc,t.2≠0:=fun t ht=>((h t.1 t.2).1 ht).2
 by_cases h0:f x=0
 · by_cases h1:coefL acc x=0
   · rw[h0,h1]
   · have:=(QG4 hp hz x (coefL acc x)).2 ⟨rfl,h1⟩
     exact((h x _).1 this).1.symm
 · have:=(h x (f x)).2 ⟨rfl,h0⟩
   exact((QG4 hp hz x (f x)).1 this).1
structure BuOk (H K:Nat) (f:Int->Int):Prop where
 bd:∀ y,-(H:Int)<=f y/\f y<=H
 sp:∀ y,f y≠0 -> -(K:Int)<=y/\y<=K
theorem BuOk.mono {H K H' K':Nat} {f:Int->Int} (h:BuOk H K f) (h1:H<=H') (h2:K<=K'):BuOk H' K' f:=⟨fun y=>by have:=h.bd y;omega,fun y hy=>by have:=h.sp y hy;omega⟩
end Go.Proofs.YtjcagkgpbcdghaaDoor.Poly
/- The walk of bits.OnesCount at numbers below 1024. -/
namespace Go.Proofs.YtjcagkgpbcdghaaDoor.Poly
open Go.RowKit Go.Maps
set_option maxHeartbeats 1000000
set_option maxRecDepth 100000
def QZ9 (x:Nat):Nat->Nat
 |0=>0
 |k+1=>QZ9 x k+(x >>> k)%2
theorem JG3 (x : Nat) (w : World) (hx : x < 1024) :
    Calls Tryd.prog 85 #[.int .u64 (x:Int)] w fun e w'=>e=.returned (.int .i64 (QZ9 x 10:Nat))/\Below w.heap.size w w':=by
 go_enter Tryd.func85,Tryd.ntmps85
 go_wp2
 go_ret
 refine⟨ret_int ?_,Below.refl _ _⟩
 clear w
 revert x
 decide +kernel
theorem ZW2 (x : Nat) (w : World) (hx : x < 1024) :
    Calls Tryd.prog 62 #[.int .u64 (x:Int)] w fun e w'=>e=.returned (.int .i64 (QZ9 x 10:Nat))/\Below w.heap.size w w':=by
 go_enter Tryd.func62,Tryd.ntmps62
 go_wp2_with (go_at_call 85;refine(JG3 x _ hx).mono ?_;rintro r w1 ⟨rfl,hb1⟩)
 go_ret
 exact⟨rfl,hb1⟩
end Go.Proofs.YtjcagkgpbcdghaaDoor.Poly
/- The walk of (poly.work).addProduct: a map is added the product of another map and a polynomial. -/
namespace Go.Proofs.YtjcagkgpbcdghaaDoor.Poly
open Go.RowKit Go.Maps
set_option maxHeartbeats 4000000
set_option maxRecDepth 100000
theorem ZG3 (l : List (Int × Int)) (left : Lit → Bool) (f : Int → Int) (x y : Int) (hl : left (.int .i64 x) = true) :
    QQ5 l (part (fun z=>left z&&!z.sameKey (.int .i64 x)) f) y=QQ5 l (part left f) y+f x*coefL l (y-x):=by
 induction l with
 |nil=>simp[QQ5,coefL]
 |cons t l ih=>
  simp only[QQ5,coefL,ih,QB9,Int.mul_add]
  by_cases h:x=y-t.1
  · rw[if_pos h,if_pos (by omega),<-h,XQ7 hl,Int.mul_comm t.2 (f x)];omega
  · rw[if_neg h,if_neg (by omega)];omega
theorem ZC9 (l:List (Int×Int)) (x:Int) (k:Nat) (hk:k<=l.length) : -QZ8 l k<=coefL (l.take k) x/\coefL (l.take k) x<=QZ8 l k:=by
 induction k with
 |zero=>simp[QZ8,coefL]
 |succ k ih=>
  have:=ih (by omega)
  rw[QG7 l k (by omega),QZ8]
  unfold Xy8
  split<;>split<;>omega
theorem XJ9 (l:List (Int×Int)) (i j:Nat) (h:i<=j):QZ8 l i<=QZ8 l j:=by
 induction j with
 | zero => obtain rfl : i = 0 := by omega
           exact Int.le_refl _
 |succ j ih=>
  by_cases he:i=j+1
  · subst he;exact Int.le_refl _
  · have:=ih (by omega)
    rw[QZ8]
    unfold Xy8
    split<;>omega
theorem Zu7 {c d:Int} (h0 : -2000000000000<=c) (h1:c<=2000000000000) (h2 : -4<=d) (h3:d<=4) : -200000000000000<=c*d/\c*d<=200000000000000:=by
 have e:(c*d).natAbs<=2000000000000*4:=by
  rw[Int.natAbs_mul]
  exact Nat.mul_le_mul (by omega) (by omega)
 omega
theorem prodL_size (l : List (Int × Int)) (g : Int → Int) (hg : ∀ x, -2000000000000 ≤ g x ∧ g x ≤ 2000000000000) (y : Int) (k : Nat) (hk : k ≤ l.length) :
    -(2000000000000*QZ8 l k)<=QQ5 (l.take k) g y/\QQ5 (l.take k) g y<=2000000000000*QZ8 l k:=by
 induction k with
 |zero=>simp[QZ8,QQ5]
 |succ k ih=>
  have ih:=ih (by omega)
  have hk':k<l.length:=by omega
  rw[List.take_succ_eq_append_getElem hk',Qq2,QZ8]
  have g0:l.getD k (0,0)=l[k]:=by simp[List.getD,hk']
  rw[g0]
  have hb:=hg (y-l[k].1)
  have e:QQ5 [l[k]] g y=l[k].2*g (y-l[k].1):=by simp[QQ5]
  have e2 : -(2000000000000*Xy8 l[k].2)<=l[k].2*g (y-l[k].1)/\l[k].2*g (y-l[k].1)<=2000000000000*Xy8 l[k].2:=by
   have h:(l[k].2*g (y-l[k].1)).natAbs<=l[k].2.natAbs*2000000000000:=by
    rw[Int.natAbs_mul]
    exact Nat.mul_le_mul (Nat.le_refl _) (by omega)
   unfold Xy8
   split<;>omega
  rw[e]
  omega
theorem Kh4 {left:Lit->Bool} {f:Int->Int} (hf:∀ x,-2000000000000<=f x/\f x<=2000000000000) (x:Int) : -2000000000000<=part left f x/\part left f x<=2000000000000:=by
 unfold part
 split
 · omega
 · exact hf x
theorem grown_trans {w w1 w2:World} {row:Option Nat} (h1:w.grownBy w1 row) (h2:w1.grownBy w2 row):w.grownBy w2 row:=
 ⟨h2.os.trans h1.os,h2.tape.trans h1.tape,h2.output.trans h1.output,Nat.le_trans h1.size h2.size,fun k hk hr=>(h2.block k (Nat.lt_of_lt_of_le hk h1.size) hr).trans (h1.block k hk hr)⟩
theorem grown_new {w w1 w2:World} {row:Option Nat} {it:Nat} (h1:w.grownBy w1 row) (h2:w1.grownBy w2 (some it)) (hit:w.heap.size<=it):w.grownBy w2 row:=
 ⟨h2.os.trans h1.os,h2.tape.trans h1.tape,h2.output.trans h1.output,Nat.le_trans h1.size h2.size,fun k hk hr=>(h2.block k (Nat.lt_of_lt_of_le hk h1.size) (fun e=>by have:=Option.some.inj e;omega)).trans (h1.block k hk hr)⟩
theorem grown_none {w w':World} (h:w.grownBy w' none) (row:Option Nat):w.grownBy w' row:=⟨h.os,h.tape,h.output,h.size,fun k hk _=>h.block k hk (by simp)⟩
theorem XD3 {w w':World} {row:Option Nat} (h:w.grownBy w' row) {b o:Nat} {v:Value} (hb:b<w.heap.size) (hr:some b≠row) (hc:w.cell? ⟨b,o,none⟩=some v):w'.cell? ⟨b,o,none⟩=some v:=by
 rw[World.cell?_of_block (a:=⟨b,o,none⟩) (h.block b hb hr)]
 exact hc
theorem KB9 (l:List (Int×Int)) (h:∀ i,i<l.length->(l.getD i (0,0)).2≠0) (k:Nat) (hk:k<=l.length):(k:Int)<=QZ8 l k:=by
 induction k with
 |zero=>simp[QZ8]
 |succ k ih=>
  have:=ih (by omega)
  have h1:=h k (by omega)
  simp only[QZ8]
  unfold Xy8
  split<;>omega
theorem KH6 {l:List (Int×Int)} (hm:mayB l=true) (hS:QF6 l<=4):l.length<=4:=by
 have h := KB9 l (fun i hi => by
  have ho:=((may_iff l).1 hm).2 i hi
  exact((okB_iff l i).1 ho).2.2.2.2.1) l.length (Nat.le_refl _)
 unfold QF6 at hS
 omega
theorem JU7 {sg X B:Int} (hsg:sg=1∨sg = -1) (h : -B<=X/\X<=B) : -B<=sg*X/\sg*X<=B:=by
 rcases hsg with rfl|rfl<;>omega
theorem KW9 (sg : Int) (hsg : sg = 1 ∨ sg = -1) (bp np bq nq b off cap : Nat) (Dp Dq : DataW Unit) (l : List (Int × Int)) (w : World) (hp : w.ownsMap Tryd.prog 3 (plainElem Tryd.prog 3) bp np Dp) (hq : w.ownsMap Tryd.prog 3 (plainElem Tryd.prog 3) bq nq Dq) (hpq : bp ≠ bq)
    (hm:mayB l=true) (hS:QF6 l<=4) (hbw:b<w.heap.size) (hbp:b≠bp) (hT:TermsAt w b off l) (hnp:np<=1000000000000000) (hnq:nq<=10000000000000) (K N:Int) (hKN:K+1000<=N) (hN:N<=100000) (hK:0<=K)
    (hkp:QX5 Dp N) (hkq:QX5 Dq K) (hvp:∀ x,-1000000000000000<=coefOf Dp x/\coefOf Dp x<=1000000000000000) (hvq:∀ x,-2000000000000<=coefOf Dq x/\coefOf Dq x<=2000000000000):
    Calls Tryd.prog 63 #[.map (some bp),.map (some bq),.slice (some ⟨b,off,none⟩) l.length cap,.int .i64 sg] w fun e w'=>∃ D:DataW Unit,e=.returned (.tuple #[])/\w'.ownsMap Tryd.prog 3 (plainElem Tryd.prog 3) bp (np+4*nq) D/\
     (∀ y,coefOf D y=coefOf Dp y+sg*QQ5 l (coefOf Dq) y)/\QX5 D N/\w.grownBy w' (some bp):=by
 have HSG:Hid (sg=1∨sg = -1):=hsg
 have hl64:l.length<=4:=KH6 hm hS
 have hlp:=hp.lt
 have hlq:=hq.lt
 have hsq:=size_le hq
 have HM:Hid (mayB l=true):=hm
 have HS:Hid (QF6 l<=4):=hS
 have HT:Hid (TermsAt w b off l):=hT
 have HKP:Hid (QX5 Dp N):=hkp
 have HKQ:Hid (QX5 Dq K):=hkq
 have HVP:Hid (∀ x,-1000000000000000<=coefOf Dp x/\coefOf Dp x<=1000000000000000):=hvp
 have HVQ:Hid (∀ x,-2000000000000<=coefOf Dq x/\coefOf Dq x<=2000000000000):=hvq
 clear hm hS hT hkp hkq hvp hvq
 go_enter Tryd.func63,Tryd.ntmps63
 go_wp2_with (first
  |(at_range;refine wpList_range_own _ rfl _ 50 rfl 3 3 law3 Tryd.underlying50 _ bq nq _ rfl hq ?_;intro w0 hrg0 hg0 hs0))
 go_frame
 go_loopw [8, 9, 11] (fun _ _ _ wr => ∃ (left : Lit → Bool) (cnt k j : Nat) (D : DataW Unit), wr.ranges Tryd.prog 3 (plainElem Tryd.prog 3) bq w.heap.size nq Dq left cnt ∧ j + cnt ≤ nq ∧ k ≤ np + 4 * j ∧
     wr.ownsMap Tryd.prog 3 (plainElem Tryd.prog 3) bp k D/\Hid (∀ y,coefOf D y=coefOf Dp y+sg*QQ5 l (part left (coefOf Dq)) y)/\Hid (QX5 D N)/\w.grownBy wr (some bp))
  (fun _ _ _ wr=>wr.rangeLeft bq w.heap.size)
 case atStart=>
  refine⟨_,_,np,0,Dp,hrg0,by omega,by omega,hp.kept hg0 (by simp),fun y=>?_,HKP.out,grown_none hg0 _⟩
  have e:part (Maps.has Dq) (coefOf Dq)=fun _=>0:=funext fun x=>QB5 Dq x
  rw[e,Qx2,Int.mul_zero];omega
 case round=>
  clear hrg0 hg0 hs0
  rename World=>W1
  obtain⟨left,cnt,k,j,D,hrg,hcs,hkj,hout,hD,hKD,hgr⟩:=hrel
  go_wp2_with (first
   |(at_next;refine wpList_next_ranges_ii _ rfl _ rfl 3 3 .i64 .i64 law3 Tryd.underlying3 Tryd.underlying3 bq w.heap.size nq _ _ _ rfl hrg ?_ ?_)
   |go_in)
  · intro hc0 hl0
    go_wp2
    refine bodyPost_end (v:=.tuple #[]) (by simp[results,Tryd.results63,go_sem]) rfl ⟨D,rfl,hout.mono (by omega),fun y=>?_,hKD.out,hgr⟩
    have e:part left (coefOf Dq)=coefOf Dq:=funext fun x=>QA3 hl0 x
    rw[hD.out,e]
  · intro x c w1 cnt1 hwx hwc hlx hat hrg1 hlt hg1 hs1 hen
    have hx:=HKQ.out x (XQ1 hat)
    have hcq:=HVQ.out x
    have HF:Hid (coefOf Dq x=c):=coefOf_at hat
    rw[coefOf_at hat]at hcq
    have HL:Hid (left (.int .i64 x)=true):=hlx
    obtain⟨s,hs⟩:∃ s,sg*c=s:=⟨_,rfl⟩
    have hsb : -2000000000000<=s/\s<=2000000000000:=by rw[<-hs];exact JU7 HSG.out hcq
    have HSC:Hid (sg*c=s):=hs
    have hw1:IntKind.i64.wrap (sg*c)=s:=by rw[hs];exact IntWalk.i64_in _ (by omega)
    clear hs
    have hout1:=hout.kept hg1 (fun e=>by have:=Option.some.inj e;omega)
    have hgr1:=grown_new hgr hg1 (Nat.le_refl _)
    have HB:Hid (∀ y i,i<=l.length -> -2000000000000000<=coefOf Dp y+sg*QQ5 l (part left (coefOf Dq)) y+s*coefL (l.take i) (y-x)/\coefOf Dp y+sg*QQ5 l (part left (coefOf Dq)) y+s*coefL (l.take i) (y-x)<=2000000000000000):=fun y i hi=>by
     have h1:=HVP.out y
     have h2:=prodL_size l (part left (coefOf Dq)) (Kh4 HVQ.out) y l.length (Nat.le_refl _)
     rw[List.take_length]at h2
     have h2:=JU7 HSG.out h2
     have h3:=ZC9 l (y-x) i hi
     have h4:=XJ9 l i l.length hi
     have h5:QZ8 l l.length<=4:=HS.out
     have h6:=Zu7 hsb.1 hsb.2 (d:=coefL (l.take i) (y-x)) (by omega) (by omega)
     omega
    clear hat hlx hs1 hg1 hout hgr
    go_wp2
    clear hen
    go_loopw [11, 21] (fun _ i ws => ∃ (i' k2 : Nat) (D2 : DataW Unit), i' ≤ l.length ∧ i = .int .i64 i' ∧ k2 ≤ k + i' ∧ ws.ranges Tryd.prog 3 (plainElem Tryd.prog 3) bq w.heap.size nq Dq (fun z => left z && !z.sameKey (.int .i64 x)) cnt1 ∧
        ws.ownsMap Tryd.prog 3 (plainElem Tryd.prog 3) bp k2 D2/\Hid (∀ y,coefOf D2 y=coefOf Dp y+sg*QQ5 l (part left (coefOf Dq)) y+s*coefL (l.take i') (y-x))/\Hid (QX5 D2 N)/\w.grownBy ws (some bp))
     (fun _ i _=>l.length-(intOf i).toNat)
    case atStart=>
     exact⟨0,k,D,Nat.zero_le _,rfl,by omega,hrg1,hout1,fun y=>by rw[hD.out];simp[coefL],hKD.out,hgr1⟩
    case round=>
     rename World=>W2
     obtain⟨i',k2,D2,hi',rfl,hk2,hrq,hout,hD2,hKD2,hgr⟩:=hrel
     by_cases hil:i'<l.length
     · have hsz:=hgr.size
       have hbr:b<W2.heap.size:=Nat.lt_of_lt_of_le hbw hsz
       have c0:=XD3 hgr hbw (fun e=>hbp (Option.some.inj e)) (HT.out i' hil).1
       have c1:=XD3 hgr hbw (fun e=>hbp (Option.some.inj e)) (HT.out i' hil).2
       have hok:=(okB_iff l i').1 (((may_iff l).1 HM.out).2 i' hil)
       have hsz1:Xy8 (l.getD i' (0,0)).2<=4:=by
        have h4:=XJ9 l (i'+1) l.length (by omega)
        have h5:QZ8 l l.length<=4:=HS.out
        have h6:=(Zh0 HM.out i' (by omega)).1
        rw[QZ8]at h4
        omega
       have HTK:Hid (∀ y,coefL (l.take (i'+1)) y=coefL (l.take i') y+(if(l.getD i' (0,0)).1=y then(l.getD i' (0,0)).2 else 0)):=fun y=>QG7 l i' hil y
       generalize (l.getD i' (0,0)).1=e at c0 hok HTK
       generalize (l.getD i' (0,0)).2=d at c1 hok HTK hsz1
       have hd : -4<=d/\d<=4:=by
        unfold Xy8 at hsz1
        split at hsz1<;>omega
       have hmul:=Zu7 hsb.1 hsb.2 hd.1 hd.2
       have hw2:IntKind.i64.wrap (s*d)=s*d:=IntWalk.i64_in _ (by omega)
       have hbd0:=HB.out (x+e) i' hi'
       have hdm:=hout.isMap
       have HKe:Hid (-N<=x+e/\x+e<=N):=(⟨by omega,by omega⟩ : -N<=x+e/\x+e<=N)
       obtain⟨o1,o2,-⟩:=hok
       clear hsz1
       go_wp2_with (first
        |(at_lookup;refine wpList_lookup_own_int _ rfl _ _ 50 rfl 3 3 .i64 law3 Tryd.underlying50 Tryd.underlying3 (zero3 _) bp k2 _ rfl (hout.alloc _) _ _ rfl (keyOf_int_mk Tryd.underlying3 (WalkArith.wf_i64 (by omega))) ?_;intro c' hat hwc;refine Hid.out ?_))
       refine Lib.hid ?_
       have hc':coefOf D2 (x+e)=c':=coefOf_look hat
       have hbd : -2000000000000000<=c'/\c'<=2000000000000000:=by rw[<-hc',hD2.out];exact hbd0
       have HC':Hid (coefOf D2 (x+e)=c'):=hc'
       clear hat hwc hc' hbd0
       go_wp2_with (first
        |(at_mapUpdate;refine wpList_mapUpdate_own _ rfl _ _ _ 50 rfl 3 3 law3 Tryd.underlying50 _ bp k2 _ rfl (hout.alloc _) (by unfold maxLen;omega) _ _ _ rfl rfl (keyOf_int_mk Tryd.underlying3 (WalkArith.wf_i64 (by omega))) _ [] (plainElem_int Tryd.underlying3 (WalkArith.wf_i64 (by omega))) ?_;intro w4 hown4 hg4;go_frame))
       go_roundw
       case rel=>
        refine⟨i'+1,k2+1,_,by omega,by go_num,by omega,(hrq.alloc _).kept hg4 (fun e=>hpq (Option.some.inj e).symm) (fun e=>by have:=Option.some.inj e;omega),hown4,fun y=>?_,QW1 hKD2.out HKe.out.1 HKe.out.2 _,grown_trans (grown_trans hgr (World.grownBy_alloc _ _ _)) hg4⟩
        rw[coefOf_put hdm,HTK.out]
        by_cases hxy:x+e=y
        · have hyx:e=y-x:=by omega
          rw[if_pos hxy,if_pos hyx,<-HC'.out,hD2.out,hxy,Int.mul_add];omega
        · have hyx:¬ e=y-x:=by omega
          rw[if_neg hxy,if_neg hyx,hD2.out];simp
       case measure=>simp only[intOf];omega
     · obtain rfl:i'=l.length:=by omega
       go_wp2
       go_roundw
       case rel=>
        refine⟨_,cnt1,k2,j+1,D2,hrq,by omega,by omega,hout,fun y=>?_,hKD2.out,hgr⟩
        rw[ZG3 l left (coefOf Dq) x y HL.out,HF.out,hD2.out,List.take_length,Int.mul_add,<-Int.mul_assoc,HSC.out];omega
       case measure=>rw[hrq.left_eq,hrg.left_eq];exact hlt
end Go.Proofs.YtjcagkgpbcdghaaDoor.Poly
/- The walk of (poly.work).addProduct at any polynomial that may be handed in. -/
namespace Go.Proofs.YtjcagkgpbcdghaaDoor.Poly
open Go.RowKit Go.Maps
set_option maxHeartbeats 4000000
set_option maxRecDepth 100000
theorem KU0 (sg : Int) (bp bq nq cap : Nat) (a : Option Addr) (Dq : DataW Unit) (w : World) (hq : w.ownsMap Tryd.prog 3 (plainElem Tryd.prog 3) bq nq Dq) :
    Calls Tryd.prog 63 #[.map (some bp),.map (some bq),.slice a 0 cap,.int .i64 sg] w fun e w'=>e=.returned (.tuple #[])/\w.grownBy w' none:=by
 have hlq:=hq.lt
 go_enter Tryd.func63,Tryd.ntmps63
 go_wp2_with (first
  |(at_range;refine wpList_range_own _ rfl _ 50 rfl 3 3 law3 Tryd.underlying50 _ bq nq _ rfl hq ?_;intro w0 hrg0 hg0 hs0))
 go_frame
 go_loopw [8,9,11] (fun _ _ _ wr=>∃ (left:Lit->Bool) (cnt:Nat),wr.ranges Tryd.prog 3 (plainElem Tryd.prog 3) bq w.heap.size nq Dq left cnt/\w.grownBy wr none)
  (fun _ _ _ wr=>wr.rangeLeft bq w.heap.size)
 case atStart=>exact⟨_,_,hrg0,hg0⟩
 case round=>
  clear hrg0 hg0 hs0
  rename World=>W1
  obtain⟨left,cnt,hrg,hgr⟩:=hrel
  go_wp2_with (first
   |(at_next;refine wpList_next_ranges_ii _ rfl _ rfl 3 3 .i64 .i64 law3 Tryd.underlying3 Tryd.underlying3 bq w.heap.size nq _ _ _ rfl hrg ?_ ?_)
   |go_in)
  · intro hc0 hl0
    go_wp2
    exact bodyPost_end (v:=.tuple #[]) (by simp[results,Tryd.results63,go_sem]) rfl ⟨rfl,hgr⟩
  · intro x c w1 cnt1 hwx hwc hlx hat hrg1 hlt hg1 hs1 hen
    have hgr1:=grown_new hgr hg1 (Nat.le_refl _)
    clear hat hlx hs1 hg1 hgr
    go_wp2
    clear hen
    go_loopw [11,21] (fun _ i ws=>i=.int .i64 0/\ws.ranges Tryd.prog 3 (plainElem Tryd.prog 3) bq w.heap.size nq Dq (fun z=>left z&&!z.sameKey (.int .i64 x)) cnt1/\w.grownBy ws none) (fun _ _ _=>0)
    case atStart=>exact⟨rfl,hrg1,hgr1⟩
    case round=>
     rename World=>W2
     obtain⟨rfl,hrq,hgr⟩:=hrel
     go_wp2
     go_roundw
     case rel=>exact⟨_,cnt1,hrq,hgr⟩
     case measure=>rw[hrq.left_eq,hrg.left_eq];exact hlt
theorem JQ2 {w:World} {bp np b o:Nat} {D:DataW Unit} {v:Value} (hp:w.ownsMap Tryd.prog 3 (plainElem Tryd.prog 3) bp np D) (hc:w.cell? ⟨b,o,none⟩=some v):b≠bp:=by
 rintro rfl
 obtain⟨es,clock,hw,_⟩:=hp
 simp[World.cell?,hw]at hc
theorem Xu0 (sg : Int) (hsg : sg = 1 ∨ sg = -1) (bp np bq nq : Nat) (Dp Dq : DataW Unit) (v : Value) (l : List (Int × Int)) (w : World) (hp : w.ownsMap Tryd.prog 3 (plainElem Tryd.prog 3) bp np Dp) (hq : w.ownsMap Tryd.prog 3 (plainElem Tryd.prog 3) bq nq Dq) (hpq : bp ≠ bq)
    (hm:mayB l=true) (hS:QF6 l<=4) (hP:Poly w w.heap.size v l) (hnp:np<=1000000000000000) (hnq:nq<=10000000000000) (K N:Int) (hKN:K+1000<=N) (hN:N<=100000) (hK:0<=K)
    (hkp:QX5 Dp N) (hkq:QX5 Dq K) (hvp:∀ x,-1000000000000000<=coefOf Dp x/\coefOf Dp x<=1000000000000000) (hvq:∀ x,-2000000000000<=coefOf Dq x/\coefOf Dq x<=2000000000000):
    Calls Tryd.prog 63 #[.map (some bp),.map (some bq),v,.int .i64 sg] w fun e w'=>∃ D:DataW Unit,e=.returned (.tuple #[])/\w'.ownsMap Tryd.prog 3 (plainElem Tryd.prog 3) bp (np+4*nq) D/\
     (∀ y,coefOf D y=coefOf Dp y+sg*QQ5 l (coefOf Dq) y)/\QX5 D N/\w.grownBy w' (some bp):=by
 obtain⟨a,cap,rfl,g⟩:=hP.slice
 rcases Nat.eq_zero_or_pos l.length with h0|h0
 · have e0:l=[]:=List.length_eq_zero_iff.1 h0
   subst e0
   refine(KU0 sg bp bq nq cap a Dq w hq).mono ?_
   rintro e w' ⟨rfl,hg⟩
   exact⟨Dp,rfl,(hp.kept hg (by simp)).mono (by omega),fun y=>by simp[QQ5],hkp,grown_none hg _⟩
 · obtain⟨b,off,rfl,hlt,hT⟩:=g h0
   exact KW9 sg hsg bp np bq nq b off cap Dp Dq l w hp hq hpq hm hS hlt (JQ2 hp (hT 0 h0).1) hT hnp hnq K N hKN hN hK hkp hkq hvp hvq
end Go.Proofs.YtjcagkgpbcdghaaDoor.Poly

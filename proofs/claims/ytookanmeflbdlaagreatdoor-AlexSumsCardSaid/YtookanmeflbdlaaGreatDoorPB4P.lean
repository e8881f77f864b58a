/- Several texts of the proof, one behind the other. -/
import Derived.Test.YtookanmeflbdlaaGreatDoorTkhP
import Derived.Test.YtookanmeflbdlaaGreatDoorPA10P
import Derived.Test.YtookanmeflbdlaaGreatDoorPMathP
/- The walks of poly.combined, poly.Add and poly.Mul. -/
namespace Go.Proofs.YtookanmeflbdlaaGreatDoor.Poly
open Go.RowKit Go.Maps
set_option maxHeartbeats 1000000
set_option maxRecDepth 100000
theorem XF9 {D:DataW Unit} {l:List (Int×Int)} (hm:mayB l=true) (h:∀ x,coefOf D x=coefL l x):∀ x,-1000000<=coefOf D x/\coefOf D x<=1000000:=by
 intro x
 rw[h]
 by_cases h0:coefL l x=0
 · rw[h0];omega
 · have:=(QB8 ((Qx9 hm).imp fun h=>by omega) (Qj0 hm) x (coefL l x)).2 ⟨rfl,h0⟩
   exact(XG5 hm _ this).2.2
theorem Xg4 {a b:List (Int×Int)} (ha:a.Pairwise (fun s t=>s.1≠t.1)) (hb:b.Pairwise (fun s t=>s.1≠t.1)) (h:∀ t,t∈a↔t∈b):a.Perm b:=by
 have na:a.Nodup:=ha.imp fun h e=>h (by rw[e])
 have nb:b.Nodup:=hb.imp fun h e=>h (by rw[e])
 exact(List.perm_ext_iff_of_nodup na nb).2 h
theorem Xw2 (v1 v2 : Value) (l1 l2 : List (Int × Int)) (w : World) (hm1 : mayB l1 = true) (hm2 : mayB l2 = true) (hP1 : Poly w w.heap.size v1 l1) (hP2 : Poly w w.heap.size v2 l2) :
    Calls Tryz.prog 21 #[v1,v2,.func (.func 82) #[] #[]] w fun e w'=>∃ v r,e=.returned (.tuple #[v,.int .i64 0])/\w'.ownsRow w.heap.size 45 2 v r.length (flat r)/\Canon r (fun x=>coefL l1 x+coefL l2 x)/\r.length<=128/\Below w.heap.size w w':=by
 have h164:=((may_iff l1).1 hm1).1
 have h264:=((may_iff l2).1 hm2).1
 have HP1:=hidB hP1
 have HP2:=hidB hP2
 have HL1:Hid (l1.length<=maxLen):=by show _<=_;unfold maxLen;omega
 have HL2:Hid (l2.length<=maxLen):=by show _<=_;unfold maxLen;omega
 have HM1:=hidB hm1
 have HM2:=hidB hm2
 clear hP1 hP2 hm1 hm2
 go_enter Tryz.func21,Tryz.ntmps21
 go_wp2_with (go_at_call 23;refine(Qz0 _ l1 _ HL1.out HP1.out).mono ?_;rw[HM1.out];rintro r w1 ⟨rfl,hb1⟩;refine Hid.out ?_)
 refine Lib.hid ?_
 go_wp2_with (go_at_call 23;refine(Qz0 _ l2 _ HL2.out (HP2.out.up hb1)).mono ?_;rw[HM2.out];rintro r w2 ⟨rfl,hb2⟩;refine Hid.out ?_)
 refine Lib.hid ?_
 have hB2:=hb1.trans (hb2.mono hb1.size)
 go_wp2_with (go_at_call 49;refine(QU8 _ l1 _ HM1.out (HP1.out.up hB2)).mono ?_;rintro r w3 ⟨D1,rfl,hown1,hc1,hk1,hb3⟩;refine Hid.out ?_)
 refine Lib.hid ?_
 have hB3:=hB2.trans (hb3.mono hB2.size)
 go_wp2_with (go_at_call 49;refine(QU8 _ l2 _ HM2.out (HP2.out.up hB3)).mono ?_;rintro r w4 ⟨D2,rfl,hown2,hc2,hk2,hb4⟩;refine Hid.out ?_)
 refine Lib.hid ?_
 have hB4:=hB3.trans (hb4.mono hB3.size)
 have hown1':=Qj3 hown1 hb4 hown1.lt
 go_wp2_with (go_at_call 82;refine(JK6 _ _ _ _ D1 D2 _ hown1' hown2 h164 h264 hk2 (XF9 HM1.out hc1) (XF9 HM2.out hc2)).mono ?_;rintro r w5 ⟨D,rfl,hown,hc,hb5⟩;refine Hid.out ?_)
 refine Lib.hid ?_
 have hB5:=hB4.trans (hb5.mono hB4.size)
 have hs:=size_le hown
 have HC:Hid (∀ x,coefOf D x=coefL l1 x+coefL l2 x):=fun x=>by rw[hc,hc1,hc2]
 clear hc hc1 hc2 hk1 hk2
 go_wp2_with (go_at_call 40;refine(Xy1 _ _ D _ hown (by omega)).mono ?_;rintro r w6 ⟨v,m,rfl,hrow,hcan,hml,hb6⟩)
 go_ret2
 exact⟨v,m,rfl,XX9 hrow hB5.size,canon_congr hcan HC.out,by omega,hB5.trans (hb6.mono hB5.size)⟩
theorem Xw1 (v1 v2 : Value) (l1 l2 : List (Int × Int)) (w : World) (hm1 : mayB l1 = true) (hm2 : mayB l2 = true) (hP1 : Poly w w.heap.size v1 l1) (hP2 : Poly w w.heap.size v2 l2) :
    Calls Tryz.prog 21 #[v1,v2,.func (.func 22) #[] #[]] w fun e w'=>∃ v r,e=.returned (.tuple #[v,.int .i64 0])/\w'.ownsRow w.heap.size 45 2 v r.length (flat r)/\Canon r (fun y=>prodL l1 (coefL l2) y)/\r.length<=4096/\Below w.heap.size w w':=by
 have h164:=((may_iff l1).1 hm1).1
 have h264:=((may_iff l2).1 hm2).1
 have HP1:=hidB hP1
 have HP2:=hidB hP2
 have HL1:Hid (l1.length<=maxLen):=by show _<=_;unfold maxLen;omega
 have HL2:Hid (l2.length<=maxLen):=by show _<=_;unfold maxLen;omega
 have HM1:=hidB hm1
 have HM2:=hidB hm2
 clear hP1 hP2 hm1 hm2
 go_enter Tryz.func21,Tryz.ntmps21
 go_wp2_with (go_at_call 23;refine(Qz0 _ l1 _ HL1.out HP1.out).mono ?_;rw[HM1.out];rintro r w1 ⟨rfl,hb1⟩;refine Hid.out ?_)
 refine Lib.hid ?_
 go_wp2_with (go_at_call 23;refine(Qz0 _ l2 _ HL2.out (HP2.out.up hb1)).mono ?_;rw[HM2.out];rintro r w2 ⟨rfl,hb2⟩;refine Hid.out ?_)
 refine Lib.hid ?_
 have hB2:=hb1.trans (hb2.mono hb1.size)
 go_wp2_with (go_at_call 49;refine(QU8 _ l1 _ HM1.out (HP1.out.up hB2)).mono ?_;rintro r w3 ⟨D1,rfl,hown1,hc1,hk1,hb3⟩;refine Hid.out ?_)
 refine Lib.hid ?_
 have hB3:=hB2.trans (hb3.mono hB2.size)
 go_wp2_with (go_at_call 49;refine(QU8 _ l2 _ HM2.out (HP2.out.up hB3)).mono ?_;rintro r w4 ⟨D2,rfl,hown2,hc2,hk2,hb4⟩;refine Hid.out ?_)
 refine Lib.hid ?_
 have hB4:=hB3.trans (hb4.mono hB3.size)
 have hown1':=Qj3 hown1 hb4 hown1.lt
 go_wp2_with (go_at_call 22;refine(Kv7 _ _ _ _ D1 D2 _ hown1' hown2 h164 h264 hk1 hk2 (XF9 HM1.out hc1) (XF9 HM2.out hc2)).mono ?_;rintro r w5 ⟨D,acc,rfl,hown,hc,hmem,honce,hb5⟩;refine Hid.out ?_)
 refine Lib.hid ?_
 have hB5:=hB4.trans (hb5.mono hB4.size)
 have hs:=size_le hown
 have HC:Hid (∀ y,coefOf D y=prodL l1 (coefL l2) y):=fun y=>by
  have hp:acc.Perm l1:=Xg4 honce ((Qx9 HM1.out).imp fun h=>by omega) fun t=>by
   rw[show t=(t.1,t.2) from rfl,hmem,hc1]
   exact(QB8 ((Qx9 HM1.out).imp fun h=>by omega) (Qj0 HM1.out) t.1 t.2).symm
  rw[hc,ZD9 hp]
  congr 1
  funext x
  exact hc2 x
 clear hc hc1 hc2 hk1 hk2 hmem honce
 go_wp2_with (go_at_call 40;refine(Xy1 _ _ D _ hown (by omega)).mono ?_;rintro r w6 ⟨v,m,rfl,hrow,hcan,hml,hb6⟩)
 go_ret2
 exact⟨v,m,rfl,XX9 hrow hB5.size,canon_congr hcan HC.out,by omega,hB5.trans (hb6.mono hB5.size)⟩
theorem add_yes (v1 v2 : Value) (l1 l2 : List (Int × Int)) (w : World) (hm1 : mayB l1 = true) (hm2 : mayB l2 = true) (hP1 : Poly w w.heap.size v1 l1) (hP2 : Poly w w.heap.size v2 l2) :
    Calls Tryz.prog 87 #[v1,v2] w fun e w'=>∃ v r,e=.returned (.tuple #[v,.int .i64 0])/\w'.ownsRow w.heap.size 45 2 v r.length (flat r)/\Canon r (fun x=>coefL l1 x+coefL l2 x)/\r.length<=128/\Below w.heap.size w w':=by
 have HP1:=hidB hP1
 have HP2:=hidB hP2
 have HM1:=hidB hm1
 have HM2:=hidB hm2
 clear hP1 hP2 hm1 hm2
 go_enter Tryz.func87,Tryz.ntmps87
 go_wp2_with (go_at_call 21;refine(Xw2 v1 v2 l1 l2 w HM1.out HM2.out HP1.out HP2.out).mono ?_;rintro r w1 ⟨v,m,rfl,hrow,hcan,hml,hb1⟩)
 go_ret2
 exact⟨v,m,rfl,hrow,hcan,hml,hb1⟩
theorem mul_yes (v1 v2 : Value) (l1 l2 : List (Int × Int)) (w : World) (hm1 : mayB l1 = true) (hm2 : mayB l2 = true) (hP1 : Poly w w.heap.size v1 l1) (hP2 : Poly w w.heap.size v2 l2) :
    Calls Tryz.prog 8 #[v1,v2] w fun e w'=>∃ v r,e=.returned (.tuple #[v,.int .i64 0])/\w'.ownsRow w.heap.size 45 2 v r.length (flat r)/\Canon r (fun y=>prodL l1 (coefL l2) y)/\r.length<=4096/\Below w.heap.size w w':=by
 have HP1:=hidB hP1
 have HP2:=hidB hP2
 have HM1:=hidB hm1
 have HM2:=hidB hm2
 clear hP1 hP2 hm1 hm2
 go_enter Tryz.func8,Tryz.ntmps8
 go_wp2_with (go_at_call 21;refine(Xw1 v1 v2 l1 l2 w HM1.out HM2.out HP1.out HP2.out).mono ?_;rintro r w1 ⟨v,m,rfl,hrow,hcan,hml,hb1⟩)
 go_ret2
 exact⟨v,m,rfl,hrow,hcan,hml,hb1⟩
end Go.Proofs.YtookanmeflbdlaaGreatDoor.Poly
/- The walks of poly.size, knotworkref.abs and poly.small: the sum of the coefficients' sizes. -/
namespace Go.Proofs.YtookanmeflbdlaaGreatDoor.Poly
open Go.RowKit Go.Maps
def Xu3 (c:Int):Int:=if c<0 then -c else c
def QK5 (l:List (Int×Int)):Nat->Int
 |0=>0
 |k+1=>QK5 l k+Xu3 (l.getD k (0,0)).2
def QH3 (l:List (Int×Int)):Int:=QK5 l l.length
theorem Zy7 {l:List (Int×Int)} (hm:mayB l=true) (k:Nat) (hk:k<=l.length):0<=QK5 l k/\QK5 l k<=1000000*(k:Int):=by
 induction k with
 |zero=>simp[QK5]
 |succ k ih=>
  have h:=(okB_iff l k).1 (((may_iff l).1 hm).2 k (by omega))
  have:=ih (by omega)
  rw[QK5]
  unfold Xu3
  split<;>omega
end Go.Proofs.YtookanmeflbdlaaGreatDoor.Poly
/- The walk of bits.OnesCount at numbers below 1024. -/
namespace Go.Proofs.YtookanmeflbdlaaGreatDoor.Poly
open Go.RowKit Go.Maps
set_option maxHeartbeats 1000000
set_option maxRecDepth 100000
def QK6 (x:Nat):Nat->Nat
 |0=>0
 |k+1=>QK6 x k+(x >>> k)%2
theorem JK8 (x : Nat) (w : World) (hx : x < 1024) :
    Calls Tryz.prog 89 #[.int .u64 (x:Int)] w fun e w'=>e=.returned (.int .i64 (QK6 x 10:Nat))/\Below w.heap.size w w':=by
 go_enter Tryz.func89,Tryz.ntmps89
 go_wp2
 go_ret
 refine⟨ret_int ?_,Below.refl _ _⟩
 clear w
 revert x
 decide +kernel
theorem ZV3 (x : Nat) (w : World) (hx : x < 1024) :
    Calls Tryz.prog 70 #[.int .u64 (x:Int)] w fun e w'=>e=.returned (.int .i64 (QK6 x 10:Nat))/\Below w.heap.size w w':=by
 go_enter Tryz.func70,Tryz.ntmps70
 go_wp2_with (go_at_call 89;refine(JK8 x _ hx).mono ?_;rintro r w1 ⟨rfl,hb1⟩)
 go_ret
 exact⟨rfl,hb1⟩
end Go.Proofs.YtookanmeflbdlaaGreatDoor.Poly
/- The walk of knotworkref.Put: a term put into a list in form. -/
namespace Go.Proofs.YtookanmeflbdlaaGreatDoor.Poly
open Go.RowKit Go.Maps
def PolyC (w:World) (B:Nat) (v:Value) (l:List (Int×Int)):Prop:=Poly w B v l/\∃ a n c,v=.slice a n c/\n<=c/\c<=maxLen
theorem PolyC.ofRow {w:World} {base:Nat} {v:Value} {l:List (Int×Int)} (h:w.ownsRow base 45 2 v l.length (flat l)):PolyC w w.heap.size v l:=by
 refine⟨Poly.ofRow h,?_⟩
 rcases h.2 with⟨rfl,h0⟩|⟨g,cap,cur,rfl,_,_,h1,h2,_⟩
 · exact⟨none,0,0,rfl,Nat.le_refl _,Nat.zero_le _⟩
 · exact⟨_,_,_,rfl,h1,h2⟩
theorem PolyC.up {w w':World} {v:Value} {l:List (Int×Int)} (h:PolyC w w.heap.size v l) (hb:Below w.heap.size w w'):PolyC w' w'.heap.size v l:=⟨h.1.up hb,h.2⟩
end Go.Proofs.YtookanmeflbdlaaGreatDoor.Poly
/- Burau's tables: plain mathematics of polynomials as functions. -/
namespace Go.Proofs.YtookanmeflbdlaaGreatDoor.Poly
open Go.RowKit Go.Maps
theorem KQ8:∀ (n:Nat) (l:List Nat),l.Pairwise (·≠·)->(∀ x∈l,x<n)->l.length<=n:=by
 intro n
 induction n with
 |zero=>
  intro l _ h
  cases l with
  |nil=>simp
  |cons x l=>exact absurd (h x (by simp)) (by omega)
 |succ n ih=>
  intro l hp h
  have h1 := ih (l.filter fun x => x != n) (hp.sublist List.filter_sublist) (fun x hx => by
   simp only[List.mem_filter,bne_iff_ne,ne_eq]at hx
   have:=h x hx.1
   omega)
  have h2:∀ (l:List Nat),l.Pairwise (·≠·)->l.length<=(l.filter fun x=>x != n).length+1:=by
   intro l hp
   induction l with
   |nil=>simp
   |cons x l ihl=>
    rw[List.pairwise_cons]at hp
    by_cases hx:x=n
    · have e : (l.filter fun x => x != n) = l := by
        rw[List.filter_eq_self]
        intro y hy
        have:=hp.1 y hy
        simp only[bne_iff_ne,ne_eq]
        omega
      simp[hx,e]
    · have:=ihl hp.2
      simp[hx]
      omega
  have:=h2 l hp
  omega
theorem Xk7 (K:Nat) (l:List Int) (hp:l.Pairwise (·≠·)) (h:∀ x∈l,-(K:Int)<=x/\x<=K):l.length<=2*K+1:=by
 have := KQ8 (2 * K + 1) (l.map fun x : Int => (x + (K : Int)).toNat) (by
  rw[List.pairwise_map]
  refine List.Pairwise.imp_of_mem ?_ hp
  intro a b ha hb hab e
  have:=h a ha
  have:=h b hb
  omega) (fun x hx=>by
  simp only[List.mem_map]at hx
  obtain⟨y,hy,rfl⟩:=hx
  have:=h y hy
  omega)
 simpa using this
theorem XV3 {l:List (Int×Int)} {f:Int->Int} (h:Canon l f) (x:Int):coefL l x=f x:=by
 have hn:l.Pairwise (fun a b=>a.1≠b.1):=h.1.imp fun hab=>by omega
 have hz:∀ t∈l,t.2≠0:=fun t ht=>((h.2 t.1 t.2).1 ht).2
 by_cases h0:f x=0
 · rw[h0]
   by_cases h1:coefL l x=0
   · exact h1
   · have:=(QB8 hn hz x (coefL l x)).2 ⟨rfl,h1⟩
     have:=((h.2 x (coefL l x)).1 this).1
     rw[h0]at this
     exact this.symm
 · have:=(h.2 x (f x)).2 ⟨rfl,h0⟩
   exact((QB8 hn hz x (f x)).1 this).1
theorem Xj3 {D:DataW Unit} {left:Lit->Bool} {acc:List (Int×Int)} (h:Coll D left acc) (N:Nat) (hK:QZ4 D (N:Int)):acc.length<=2*N+1:=by
 have := Xk7 N (acc.map Prod.fst) (by
  rw[List.pairwise_map]
  exact h.once) (fun x hx=>by
  simp only[List.mem_map]at hx
  obtain⟨t,ht,rfl⟩:=hx
  have h1:=(h.mem t.1 t.2).1 ht
  refine hK t.1 ?_
  cases hh:Maps.has D (.int .i64 t.1) with
  |true=>rfl
  |false=>rw[coefOf_none hh]at h1;exact absurd h1.2.1.symm h1.2.2)
 simpa using this
theorem Xg3 (a:List (Int×Int)) (z d y:Int):prodL a (fun u=>if z=u then d else 0) y=d*coefL a (y-z):=by
 induction a with
 |nil=>simp[prodL,coefL]
 |cons t a ih=>
  simp only[prodL,coefL,ih,Int.mul_add]
  congr 1
  by_cases e:t.1=y-z
  · rw[if_pos (by omega),if_pos e,Int.mul_comm]
  · rw[if_neg (by omega),if_neg e];simp
theorem Zd1 (a:List (Int×Int)) (f g:Int->Int) (y:Int):prodL a (fun u=>f u+g u) y=prodL a f y+prodL a g y:=by
 induction a with
 |nil=>simp[prodL]
 |cons t a ih=>simp only[prodL,ih,Int.mul_add];omega
theorem ZF2 (a b:List (Int×Int)) (y:Int):prodL a (coefL b) y=prodL b (coefL a) y:=by
 induction b with
 |nil=>
  have:∀ a:List (Int×Int),prodL a (coefL []) y=0:=fun a=>by
   induction a with
   |nil=>rfl
   |cons t a ih=>
    show t.2*coefL [] (y-t.1)+prodL a (coefL []) y=0
    rw[ih]
    show t.2*0+0=0
    omega
  rw[this]
  rfl
 |cons t b ih=>
  have e:coefL (t::b)=fun u=>(if t.1=u then t.2 else 0)+coefL b u:=rfl
  rw[e,Zd1,Xg3,ih]
  rfl
theorem XJ3 (a:List (Int×Int)) (f g:Int->Int) (h:∀ u,f u=g u) (y:Int):prodL a f y=prodL a g y:=by rw[show f=g from funext h]
theorem KG6 {acc:List (Int×Int)} {f:Int->Int} (h:∀ x c,(x,c)∈acc↔(f x=c/\c≠0)) (hp:acc.Pairwise (fun a b=>a.1≠b.1)) (x:Int):coefL acc x=f x:=by
 have hz:∀ t∈acc,t.2≠0:=fun t ht=>((h t.1 t.2).1 ht).2
 by_cases h0:f x=0
 · by_cases h1:coefL acc x=0
   · rw[h0,h1]
   · have:=(QB8 hp hz x (coefL acc x)).2 ⟨rfl,h1⟩
     exact((h x _).1 this).1.symm
 · have:=(h x (f x)).2 ⟨rfl,h0⟩
   exact((QB8 hp hz x (f x)).1 this).1
structure BuOk (H K:Nat) (f:Int->Int):Prop where
 bd:∀ y,-(H:Int)<=f y/\f y<=H
 sp:∀ y,f y≠0 -> -(K:Int)<=y/\y<=K
theorem BuOk.mono {H K H' K':Nat} {f:Int->Int} (h:BuOk H K f) (h1:H<=H') (h2:K<=K'):BuOk H' K' f:=⟨fun y=>by have:=h.bd y;omega,fun y hy=>by have:=h.sp y hy;omega⟩
end Go.Proofs.YtookanmeflbdlaaGreatDoor.Poly

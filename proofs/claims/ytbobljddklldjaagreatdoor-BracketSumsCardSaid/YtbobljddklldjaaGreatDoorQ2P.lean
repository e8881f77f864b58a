/- Several texts of the proof, one behind the other. -/
import Derived.Test.YtbobljddklldjaaGreatDoorSgP
import Derived.Deep.Cut
/- Tables of numbers whose rows lie in blocks of their own; the walk of colour.clearBelow. -/
namespace Go.Proofs.YtbobljddklldjaaGreatDoor
open Go.RowKit
set_option maxHeartbeats 16000000
set_option maxRecDepth 100000
def hdr (n m:Nat) (gs:Nat->Nat):List Value:=(List.range n).map fun i=>.slice (some ⟨gs i,0,none⟩) m m
theorem hdr_len (n m:Nat) (gs:Nat->Nat):(hdr n m gs).length=n:=by simp[hdr]
theorem hdr_get (n m:Nat) (gs:Nat->Nat) (i:Nat) (h:i<n):(hdr n m gs)[i]?=some (.slice (some ⟨gs i,0,none⟩) m m):=by simp[hdr,h]
theorem hdr_ext {n m:Nat} {gs:Nat->Nat} {l:List Value} (hl:l.length=n) (h:∀ i,i<n->l[i]?=some (.slice (some ⟨gs i,0,none⟩) m m)):l=hdr n m gs:=by
 apply List.ext_getElem?
 intro j
 by_cases hj:j<n
 · rw[h j hj,hdr_get n m gs j hj]
 · rw[List.getElem?_eq_none (by omega),List.getElem?_eq_none (by rw[hdr_len];omega)]
structure TabO (B gt cap n m:Nat) (gs:Nat->Nat) (T:Nat->Nat->Int) (W:World):Prop where
 outer:W.ownsRow B 62 1 (.slice (some ⟨gt,0,none⟩) n cap) n (hdr n m gs)
 rows:∀ i,i<n->W.ownsRow B 3 1 (.slice (some ⟨gs i,0,none⟩) m m) m (intsV (mapI m (T i)))
 inj:∀ i j,i<n->j<n->gs i=gs j->i=j
theorem TabO.any {B gt cap n m:Nat} {gs:Nat->Nat} {T:Nat->Nat->Int} {W W':World} (h:TabO B gt cap n m gs T W) (hg:W.grownBy W' none):TabO B gt cap n m gs T W':=
 ⟨own_any h.outer hg,fun i hi=>own_any (h.rows i hi) hg,h.inj⟩
theorem TabO.cellO {B gt cap n m:Nat} {gs:Nat->Nat} {T:Nat->Nat->Int} {W:World} (h:TabO B gt cap n m gs T W) (i:Nat) (hi:i<n):W.cell? ⟨gt,i,none⟩=some (.slice (some ⟨gs i,0,none⟩) m m):=by
 rw[h.outer.cellAt i (by omega),hdr_get n m gs i hi]
theorem TabO.cellR {B gt cap n m:Nat} {gs:Nat->Nat} {T:Nat->Nat->Int} {W:World} (h:TabO B gt cap n m gs T W) (i j:Nat) (hi:i<n) (hj:j<m):W.cell? ⟨gs i,j,none⟩=some (.int .i64 (T i j)):=by
 rw[(h.rows i hi).cellAt j (by omega),intsV_get _ j (by rw[mapI_len];exact hj),mapI_at _ _ _ hj]
theorem TabO.set {B gt cap n m : Nat} {gs : Nat → Nat} {T T' : Nat → Nat → Int} {W : World} (h : TabO B gt cap n m gs T W) (i j : Nat) (x : Int) (hi : i < n) (hT : ∀ a b, a < n → b < m → T' a b = if a = i ∧ b = j then x else T a b) :
    TabO B gt cap n m gs T' (W.setCell ⟨gs i,j,none⟩ (.int .i64 x))/\W.grownBy (W.setCell ⟨gs i,j,none⟩ (.int .i64 x)) (some (gs i)):=by
 have hst:=(h.rows i hi).stored j (.int .i64 x)
 rw[intsV_set]at hst
 refine⟨⟨h.outer.kept hst.2 (own_ne h.outer (h.rows i hi) (by decide)),fun a ha=>?_,h.inj⟩,hst.2⟩
 by_cases e:a=i
 · subst e
   rw[mapI_set m (T a) (T' a) j x (fun b hb=>by rw[hT a b ha hb];by_cases e:b=j<;>simp[e])]at hst
   exact hst.1
 · have hr:=(h.rows a ha).kept hst.2 (Or.inr (fun q=>e (h.inj a i ha hi (Option.some.inj q))))
   rw[mapI_congr m (T' a) (T a) (fun b hb=>by rw[hT a b ha hb,if_neg (fun q=>e q.1)])]
   exact hr
theorem TabO.congr {B gt cap n m:Nat} {gs:Nat->Nat} {T T':Nat->Nat->Int} {W:World} (h:TabO B gt cap n m gs T W) (e:∀ x y,x<n->y<m->T' x y=T x y):TabO B gt cap n m gs T' W:=
 ⟨h.outer,fun i hi=>by rw[mapI_congr m (T' i) (T i) (fun y hy=>e i y hi hy)];exact h.rows i hi,h.inj⟩
def swq (a b i:Nat):Nat:=if i=a then b else if i=b then a else i
theorem swp_lt {a b i n:Nat} (ha:a<n) (hb:b<n) (hi:i<n):swq a b i<n:=by unfold swq;split;exact hb;split;exact ha;exact hi
theorem swq_swq (a b i:Nat):swq a b (swq a b i)=i:=by
 unfold swq
 by_cases h1:i=a
 · simp[h1]
 · by_cases h2:i=b
   · simp[h2]
   · simp[h1,h2]
theorem TabO.swap {B gt cap n m : Nat} {gs : Nat → Nat} {T : Nat → Nat → Int} {W : World} (h : TabO B gt cap n m gs T W) (a b : Nat) (ha : a < n) (hb : b < n) :
    TabO B gt cap n m (fun i=>gs (swq a b i)) (fun i=>T (swq a b i)) ((W.setCell ⟨gt,a,none⟩ (.slice (some ⟨gs b,0,none⟩) m m)).setCell ⟨gt,b,none⟩ (.slice (some ⟨gs a,0,none⟩) m m))/\W.grownBy ((W.setCell ⟨gt,a,none⟩ (.slice (some ⟨gs b,0,none⟩) m m)).setCell ⟨gt,b,none⟩ (.slice (some ⟨gs a,0,none⟩) m m)) (some gt):=by
 have h1:=h.outer.stored a (.slice (some ⟨gs b,0,none⟩) m m)
 have h2:=h1.1.stored b (.slice (some ⟨gs a,0,none⟩) m m)
 have hg:=grown_trans h1.2 h2.2
 refine⟨⟨?_,fun i hi=>?_,fun i j hi hj e=>?_⟩,hg⟩
 · have e : ((hdr n m gs).set a (.slice (some ⟨gs b, 0, none⟩) m m)).set b (.slice (some ⟨gs a, 0, none⟩) m m) = hdr n m (fun i => gs (swq a b i)) := by
     refine hdr_ext (by simp[hdr_len]) fun i hi=>?_
     simp only[List.getElem?_set,List.length_set,hdr_len]
     unfold swq
     by_cases e1:b=i
     · subst e1
       simp[hb]
       by_cases e2:b=a
       · simp[e2]
       · simp[e2]
     · by_cases e2:a=i
       · subst e2
         simp[e1,ha]
       · simp[e1,e2,Ne.symm e1,Ne.symm e2,hdr_get n m gs i hi]
   rw[<-e]
   exact h2.1
 · exact(h.rows _ (swp_lt ha hb hi)).kept hg (own_ne (h.rows _ (swp_lt ha hb hi)) h.outer (by decide))
 · have:=h.inj _ _ (swp_lt ha hb hi) (swp_lt ha hb hj) e
   rw[<-swq_swq a b i,this,swq_swq]
theorem clearBelow_any (B gt cap n m : Nat) (gs : Nat → Nat) (T : Nat → Nat → Int) (d c p : Nat) (w : World) (hp : p < 98) (hpr : primeN p = true) (hn : n ≤ 16) (hm : m ≤ 40) (hd : d < n) (hc : c < m) (hcap : n ≤ cap)
    (hT:∀ i j,i<n->j<m->0<=T i j/\T i j<p) (h0:T d c≠0) (hB:B<=w.heap.size) (h:TabO B gt cap n m gs T w):
    Calls Tryz.prog 55 #[.slice (some ⟨gt,d,none⟩) (n-d) (cap-d),.int .i64 (c:Nat),.int .i64 (p:Nat)] w fun e w'=>e=.returned (.tuple #[])/\∃ T',TabO B gt cap n m gs T' w'/\(∀ i j,i<=d->j<m->T' i j=T i j)/\
     (∀ i,d<i->i<n->T' i c=0/\(∀ j,j<m->0<=T' i j/\T' i j<p)/\∃ k:Int,∀ j,j<m->(p:Int) ∣ (T i j+k*T d j)-T' i j)/\Below B w w':=by
 have HT:Hid (TabO B gt cap n m gs T w):=h
 have HTB:Hid (∀ i j,i<n->j<m->0<=T i j/\T i j<p):=hT
 have t0:=h.cellO d hd
 have hgt:=(h.outer.lt gt rfl).2
 obtain⟨e,he⟩:∃ e,n - d=e+1:=⟨n - d - 1,by omega⟩
 obtain⟨f,hf⟩:∃ f,cap - d=f+1:=⟨cap - d - 1,by omega⟩
 have HE:Hid (n=d+1+e/\e<=f):=(by omega:n=d+1+e/\e<=f)
 have he16:e<=16:=by omega
 have HP0:Hid (Below B w w):=Below.refl _ _
 have hbB:B<=gt:=(h.outer.lt gt rfl).1
 rw[he,hf]
 have hp2:2<=p:=by have:=(Bool.and_eq_true_iff.1 hpr).1;simpa using this
 have HPR:Hid (primeN p=true):=hpr
 have HTD:Hid (∃ a:Nat,T d c=(a:Int)/\a<p/\a≠0):=⟨(T d c).toNat,by have:=hT d c hd hc;omega,by have:=hT d c hd hc;omega,by have:=hT d c hd hc;omega⟩
 clear h he hf hT hpr
 by_cases hf0:f=0
 · obtain rfl:e=0:=by have:=HE.out.2;omega
   subst hf0
   go_enter Tryz.func55,Tryz.ntmps55
   go_wp2
   go_loopw [17] (fun v17 wr=>v17=.int .i64 0/\Hid (wr=w)) (fun v17 _=>0)
   case atStart=>exact⟨rfl,(rfl:w=w)⟩
   case round=>
    rename World=>W1
    obtain⟨rfl,hw⟩:=hrel
    go_wp2
    have e9:W1=w:=hw.out
    subst e9
    exact bodyPost_end (v:=.tuple #[]) (by simp[results,Tryz.results55]) rfl ⟨rfl,T,HT.out,fun _ _ _ _=>rfl,fun i h1 h2=>by have:=HE.out;omega,HP0.out⟩
 · have hfn:f≠0:=hf0
   go_enter Tryz.func55,Tryz.ntmps55
   go_wp2
   go_loopw [17] (fun v17 wr=>∃ k:Nat,k<=e/\v17=.int .i64 (k:Nat)/\Hid (∃ T1,TabO B gt cap n m gs T1 wr/\(∀ i j,i<n->j<m->i<=d∨d+1+k<=i->T1 i j=T i j)/\(∀ i,d<i->i<d+1+k->T1 i c=0/\(∀ j,j<m->0<=T1 i j/\T1 i j<p)/\∃ k:Int,∀ j,j<m->(p:Int) ∣ (T i j+k*T d j)-T1 i j)/\Below B w wr)) (fun v17 _=>e-(intOf v17).toNat)
   case atStart=>exact⟨0,Nat.zero_le _,rfl,T,HT.out,fun _ _ _ _ _=>rfl,fun i h1 h2=>by omega,HP0.out⟩
   case round=>
    clear HT HP0 t0
    rename World=>W1
    obtain⟨k,hke,rfl,hp1⟩:=hrel
    obtain⟨T1,hT1,hsame,hgood,hbel⟩:=hp1.out
    by_cases hkl:k<e
    · obtain⟨r,hr⟩:∃ r,r=d+1+k:=⟨_,rfl⟩
      have HRR:Hid (r=d+1+k):=hr
      have hrn:r<n:=by have:=HE.out.1;omega
      have t1:=hT1.cellO r hrn
      rw[hr]at t1
      have t2:=hT1.cellR r c hrn hc
      have t3:=hT1.cellR d c hd hc
      have hgl:=(hT1.outer.lt gt rfl).2
      have hgr:=(hT1.rows r hrn).lt (gs r) rfl
      have hgd:=(hT1.rows d hd).lt (gs d) rfl
      obtain⟨a,ha1,ha2,ha3⟩:=HTD.out
      rw[hsame d c hd hc (Or.inl (Nat.le_refl _)),ha1]at t3
      have hx:=HTB.out r c hrn hc
      rw[hsame r c hrn hc (Or.inr (by omega))]at t2
      obtain⟨x,hxx⟩:∃ x,T r c=x:=⟨_,rfl⟩
      rw[hxx]at t2 hx
      have HXX:Hid (T r c=x):=hxx
      have HAA:Hid (T d c=(a:Int)):=ha1
      have HT1:Hid (TabO B gt cap n m gs T1 W1):=hT1
      have HSA:Hid (∀ i j,i<n->j<m->i<=d∨d+1+k<=i->T1 i j=T i j):=hsame
      have HGO:Hid (∀ i,d<i->i<d+1+k->T1 i c=0/\(∀ j,j<m->0<=T1 i j/\T1 i j<p)/\∃ k:Int,∀ j,j<m->(p:Int) ∣ (T i j+k*T d j)-T1 i j):=hgood
      have HBE:Hid (Below B w W1):=hbel
      have ew1:IntKind.i64.wrap ((p:Int)-x)=(p:Int)-x:=IntWalk.i64_in _ (by omega)
      have hpz:(p:Int)≠0:=by omega
      have hpz2:((p:Int)==0)=false:=by simp;omega
      have hpz3:p≠0:=by omega
      have hpz4:(p==0)=false:=by simp;omega
      have HFR:Hid (∀ w',Below W1.heap.size W1 w'->w'.cell? ⟨gs (d+1+k),c,none⟩=some (.int .i64 x)/\w'.cell? ⟨gs d,c,none⟩=some (.int .i64 (a:Nat))):=fun w' hb=>by
       rw[<-HRR.out]
       exact⟨bcell hb hgr.2 t2,bcell hb hgd.2 t3⟩
      have HD1:Hid (Below W1.heap.size W1 W1.drew):=(Below.refl _ _).drew
      have HIV:Hid (∀ W,Calls Tryz.prog 78 #[.int .i64 (a:Nat),.int .i64 (p:Nat)] W fun e w'=>∃ b:Nat,e=.returned (.int .i64 (b:Nat))/\b<p/\a*b%p=1/\Below W.heap.size W w'):=fun W=>inverse_any a p W hp HPR.out ha2 ha3
      clear hsame hgood hbel hT1 hp1 hr hxx ha1
      rw[HRR.out]at hgr hrn t2
      go_wp2
      go_region_held3 (fun w' => w'.cell? ⟨gs (d + 1 + k), c, none⟩ = some (.int .i64 x) ∧ w'.cell? ⟨gs d, c, none⟩ = some (.int .i64 (a : Nat))) (first | exact HFR.out _ H5.out | exact HFR.out _ HD1.out) (first
       | (go_at_call 78; refine (HIV.out W1.drew).mono ?_; rintro e9 w5 ⟨b, rfl, hb1, hb2, hb5⟩
          have H5:Hid (Below W1.heap.size W1 w5):=HD1.out.trans (hb5.mono HD1.out.size)
          have hb2':Hid (a*b%p=1):=hb2
          obtain⟨z,hz⟩:∃ z,((p:Int) - x)*(b:Int)=z:=⟨_,rfl⟩
          have HZ:Hid (((p:Int)-x)*(b:Int)=z):=hz
          have hz0:0<=z:=by rw[<-hz];exact Int.mul_nonneg (by omega) (by omega)
          have hz1:z<=98*98:=by rw[<-hz];exact Int.mul_le_mul (by omega) (by omega) (by omega) (by omega)
          have ew2:IntKind.i64.wrap (((p:Int)-x)*(b:Int))=z:=by rw[hz];exact IntWalk.i64_in _ (by omega)
          have ew3:IntKind.i64.wrap z=z:=IntWalk.i64_in _ (by omega)
          obtain⟨t,ht⟩:∃ t,z.tmod (p:Int)=t:=⟨_,rfl⟩
          have HTT:Hid (z.tmod (p:Int)=t):=ht
          have htb:0<=t/\t<(p:Int):=by rw[<-ht];exact tmod_in (by omega) hz0
          have ew4:IntKind.i64.wrap t=t:=IntWalk.i64_in _ (by omega)
          have HDV : Hid ((p : Int) ∣ x + t * a) := (by
           have d1:(p:Int) ∣ z-t:=by rw[<-ht];exact tmod_same z p
           have d2:(p:Int) ∣ (a:Int)*b-1:=by
            refine⟨((a*b / p:Nat):Int),?_⟩
            have q:=Nat.div_add_mod (a*b) p
            rw[hb2]at q
            have q2:((p*(a*b / p)+1:Nat):Int)=((a*b:Nat):Int):=by rw[q]
            push_cast at q2
            push_cast
            omega
           have d3:(p:Int) ∣ (z-t)*a:=Int.dvd_mul_of_dvd_left d1
           have d4:(p:Int) ∣ ((p:Int)-x)*((a:Int)*b-1):=Int.dvd_mul_of_dvd_right d2
           have d5:=Int.dvd_sub d4 d3
           have e1:((p:Int)-x)*((a:Int)*b-1)-(z-t)*a=x+t*a-p:=by
            rw[<-hz,Int.mul_sub,Int.sub_mul _ t,Int.mul_one]
            have e2:((p:Int)-x)*((a:Int)*b)=((p:Int)-x)*b*a:=by rw[Int.mul_assoc,Int.mul_comm (b:Int) a]
            rw[e2];omega
           rw[e1]at d5
           have d6:=Int.dvd_add d5 (Int.dvd_refl (p:Int))
           have e3:x+t*a-p+p=x+t*a:=by omega
           rw[e3]at d6;exact d6:(p:Int) ∣ x+t*a)
          clear hb5 hz hb2))
      have HT5:Hid (TabO B gt cap n m gs (fun a b=>if a=d+1+k/\b<0 then(T (d+1+k) b+t*T d b).tmod p else T1 a b) w5/\Below B w w5):=⟨(HT1.out.any (grown_below H5.out none)).congr (fun a b _ _=>by simp),HBE.out.trans (H5.out.mono (by have:=HBE.out.size;omega))⟩
      have HTN:Hid (∀ a b,a<n->b<m->a≠d+1+k∨True->True):=fun _ _ _ _ _=>trivial
      clear HTN ew2 ew3 ew4 ht HZ HTT hz0 hz1 H5 HFR HD1 HIV HT1 t1 t2 t3 hb2' hb1 ew1
      go_wp2
      go_loopw [38] (fun v38 wr=>∃ j:Nat,j<=m/\v38=.int .i64 (j:Nat)/\Hid (TabO B gt cap n m gs (fun a b=>if a=d+1+k/\b<j then(T (d+1+k) b+t*T d b).tmod p else T1 a b) wr/\Below B w wr)) (fun v38 _=>m-(intOf v38).toNat)
      case atStart=>exact⟨0,Nat.zero_le _,rfl,HT5.out⟩
      case round=>
       clear HT5
       rename World=>W2
       obtain⟨j,hjm,rfl,hq⟩:=hrel
       by_cases hjl:j<m
       · have c1:=hq.out.1.cellR (d+1+k) j hrn hjl
         have c2:=hq.out.1.cellR d j hd hjl
         rw[if_neg (by omega),HSA.out _ _ hrn hjl (Or.inr (by omega))]at c1
         rw[if_neg (by omega),HSA.out _ _ hd hjl (Or.inl (Nat.le_refl _))]at c2
         have hu:=HTB.out (d+1+k) j hrn hjl
         have hv:=HTB.out d j hd hjl
         obtain⟨u,hu'⟩:∃ u,T (d+1+k) j=u:=⟨_,rfl⟩
         obtain⟨y,hy'⟩:∃ y,T d j=y:=⟨_,rfl⟩
         rw[hu']at c1 hu
         rw[hy']at c2 hv
         obtain⟨ty,hty⟩:∃ ty,t*y=ty:=⟨_,rfl⟩
         have hz0:0<=ty:=by rw[<-hty];exact Int.mul_nonneg (by omega) (by omega)
         have hz1:ty<=98*98:=by rw[<-hty];exact Int.mul_le_mul (by omega) (by omega) (by omega) (by omega)
         have ew2:IntKind.i64.wrap (t*y)=ty:=by rw[hty];exact IntWalk.i64_in _ (by omega)
         have ew3:IntKind.i64.wrap (u+ty)=u+ty:=IntWalk.i64_in _ (by omega)
         obtain⟨v,hv'⟩:∃ v,(u+ty).tmod (p:Int)=v:=⟨_,rfl⟩
         have hvb:0<=v/\v<(p:Int):=by rw[<-hv'];exact tmod_in (by omega) (by omega)
         have ew4:IntKind.i64.wrap v=v:=IntWalk.i64_in _ (by omega)
         have hset := hq.out.1.set (T' := (fun a b => if a = d + 1 + k ∧ b < (j + 1) then (T (d + 1 + k) b + t * T d b).tmod p else T1 a b)) (d + 1 + k) j v hrn (fun a b ha hb => by
          show(if a=d+1+k/\b<j+1 then _ else _)=_
          by_cases h1:a=d+1+k/\b=j
          · rw[if_pos ⟨h1.1,by omega⟩,if_pos h1,h1.2,hu',hy',hty,hv']
          · rw[if_neg h1]
            by_cases h2:a=d+1+k/\b<j+1
            · rw[if_pos h2,if_pos ⟨h2.1,by have:b≠j:=fun e=>h1 ⟨h2.1,e⟩;omega⟩]
            · rw[if_neg h2,if_neg (fun z=>h2 ⟨z.1,by omega⟩)])
         have hgk:=(hq.out.1.rows (d+1+k) hrn).lt (gs (d+1+k)) rfl
         have HST:Hid (TabO B gt cap n m gs (fun a b=>if a=d+1+k/\b<(j+1) then(T (d+1+k) b+t*T d b).tmod p else T1 a b) (W2.setCell ⟨gs (d+1+k),j,none⟩ (.int .i64 v)).drew/\Below B w (W2.setCell ⟨gs (d+1+k),j,none⟩ (.int .i64 v)).drew):=⟨hset.1.any (grown_below ((Below.refl _ _).drew) none),Below.drew <| hq.out.2.grown hset.2 (by have:=hq.out.2.size;omega) (fun q hq=>by have:=Option.some.inj hq;omega)⟩
         have z0:W2.frozen? ⟨gs (d+1+k),j,none⟩=false:=(hq.out.1.rows (d+1+k) hrn).frozenAt j
         clear hset hu' hy' hty
         go_wp2
         apply cut_one
         case h=>
          intro key
          go_region_with (fail)
          all_goals exact key.out
         go_wp2
         go_roundw
         case rel=>exact⟨j+1,by omega,by go_num,HST.out⟩
         case measure=>simp only[intOf];omega
       · obtain rfl:j=m:=by omega
         go_wp2
         go_roundw
         case rel=>
          refine⟨k+1,by omega,by go_num,(fun a b=>if a=d+1+k/\b<j then(T (d+1+k) b+t*T d b).tmod p else T1 a b),hq.out.1,fun i j' h1 h2 h3=>?_,fun i h1 h2=>?_,hq.out.2⟩
          · show(if i=d+1+k/\j'<j then _ else _)=_
            rw[if_neg (by omega),HSA.out i j' h1 h2 (by omega)]
          · by_cases hik:i=d+1+k
            · subst hik
              refine⟨?_,fun j' hj'=>?_,t,fun j' hj'=>?_⟩
              · show(if d+1+k=d+1+k/\c<j then _ else _)=_
                rw[if_pos ⟨rfl,hc⟩,HAA.out,<-HRR.out,HXX.out]
                exact(tmod_zero _ p).2 HDV.out
              · show 0<=(if d+1+k=d+1+k/\j'<j then _ else _)/\(if d+1+k=d+1+k/\j'<j then _ else _)<_
                rw[if_pos ⟨rfl,hj'⟩]
                have b1:=HTB.out (d+1+k) j' hrn hj'
                have b2:=HTB.out d j' hd hj'
                exact tmod_in (by omega) (by have:=Int.mul_nonneg htb.1 b2.1;omega)
              · show _ ∣ _-(if d+1+k=d+1+k/\j'<j then _ else _)
                rw[if_pos ⟨rfl,hj'⟩]
                exact tmod_same _ p
            · have g:=HGO.out i h1 (by omega)
              have e:∀ b,(fun a b=>if a=d+1+k/\b<j then(T (d+1+k) b+t*T d b).tmod p else T1 a b) i b=T1 i b:=fun b=>by
               show(if i=d+1+k/\b<j then _ else _)=_
               rw[if_neg (fun z=>hik z.1)]
              obtain⟨g1,g2,q,g3⟩:=g
              exact⟨by rw[e];exact g1,fun j' hj'=>by rw[e];exact g2 j' hj',q,fun j' hj'=>by rw[e];exact g3 j' hj'⟩
         case measure=>simp only[intOf];omega
    · obtain rfl:k=e:=by omega
      go_wp2
      exact bodyPost_end (v:=.tuple #[]) (by simp[results,Tryz.results55]) rfl ⟨rfl,T1,hT1,fun i j h1 h2=>hsame i j (by omega) h2 (Or.inl h1),fun i h1 h2=>hgood i h1 (by have:=HE.out.1;omega),hbel⟩
end Go.Proofs.YtbobljddklldjaaGreatDoor
/- The walk of colour.rank. -/
namespace Go.Proofs.YtbobljddklldjaaGreatDoor
open Go.RowKit
set_option maxHeartbeats 16000000
set_option maxRecDepth 100000
def restR (n done:Nat) (T:Nat->Nat->Int):(Nat->Int)->Prop:=fun r=>∃ i,done<=i/\i<n/\r=T i
theorem rest_swap {p m n done c q:Nat} {R0:(Nat->Int)->Prop} {T:Nat->Nat->Int} (hq:done<=q) (hqn:q<n) (h:Inv p m R0 c (restR n done T)):Inv p m R0 c (restR n done (fun i=>T (swq done q i))):=fun v=>by
 have key:restR n done (fun i=>T (swq done q i))=restR n done T:=by
  funext r
  apply propext
  have hsw:∀ i,done<=i->i<n->done<=swq done q i/\swq done q i<n:=fun i h1 h2=>by
   unfold swq;split
   · omega
   · split<;>omega
  constructor
  · rintro⟨i,h1,h2,rfl⟩
    exact⟨swq done q i,(hsw i h1 h2).1,(hsw i h1 h2).2,rfl⟩
  · rintro⟨i,h1,h2,rfl⟩
    exact⟨swq done q i,(hsw i h1 h2).1,(hsw i h1 h2).2,by show T i=T (swq done q (swq done q i));rw[swq_swq]⟩
 rw[key]
 exact h v
theorem rest_piv {p m n done c : Nat} {R0 : (Nat → Int) → Prop} {T T' : Nat → Nat → Int} (hp : p < 98) (hpr : primeN p = true) (hc : c < m) (hd : done < n) (h : Inv p m R0 c (restR n done T)) (h0 : ¬ (p : Int) ∣ T done c)
    (hg:∀ i,done<i->i<n->T' i c=0/\∃ k:Int,∀ j,j<m->(p:Int) ∣ (T i j+k*T done j)-T' i j):Inv p m R0 (c+1) (restR n (done+1) T'):=by
 obtain⟨b,hb⟩:=inv_int hp hpr (T done c) h0
 refine h.piv hc (T done) ⟨done,Nat.le_refl _,hd,rfl⟩ b hb ?_ ?_
 · rintro r' ⟨i,h1,h2,rfl⟩
   obtain⟨g1,k,g2⟩:=hg i (by omega) h2
   exact⟨by rw[g1];exact Int.dvd_zero _,T i,k,⟨i,by omega,h2,rfl⟩,g2⟩
 · rintro r ⟨i,h1,h2,rfl⟩
   by_cases e:i=done
   · subst e;exact Or.inl rfl
   · obtain⟨g1,k,g2⟩:=hg i (by omega) h2
     refine Or.inr ⟨T' i,-k,⟨i,by omega,h2,rfl⟩,fun j hj=>?_⟩
     have d:=Int.dvd_neg.2 (g2 j hj)
     have e2 : -(T i j+k*T done j-T' i j)=T' i j + -k*T done j-T i j:=by rw[Int.neg_mul];omega
     rw[e2]at d
     exact d
theorem rank_any (B gt cap n m : Nat) (gs : Nat → Nat) (T : Nat → Nat → Int) (p : Nat) (R0 : (Nat → Int) → Prop) (w : World) (hp : p < 98) (hpr : primeN p = true) (hn : n ≤ 16) (hn1 : 1 ≤ n) (hm : m ≤ 40) (hcap : n ≤ cap)
    (hT:∀ i j,i<n->j<m->0<=T i j/\T i j<p) (hI:Inv p m R0 0 (restR n 0 T)) (hB:B<=w.heap.size) (h:TabO B gt cap n m gs T w):
    Calls Tryz.prog 28 #[.slice (some ⟨gt,0,none⟩) n cap,.int .i64 (p:Nat)] w fun e w'=>e=.returned (.int .i64 (rkTo p m R0 m:Nat))/\Below B w w':=by
 have t0:=h.cellO 0 (by omega)
 have hgt:=h.outer.lt gt rfl
 have HP:Hid (∃ gs T,TabO B gt cap n m gs T w/\(∀ i j,i<n->j<m->0<=T i j/\T i j<p)/\Inv p m R0 0 (restR n 0 T)/\Below B w w):=⟨gs,T,h,hT,hI,Below.refl _ _⟩
 have HPR:Hid (primeN p=true):=hpr
 have hp2:2<=p:=by have:=(Bool.and_eq_true_iff.1 hpr).1;simpa using this
 have hn0:(n==0)=false:=by simp;omega
 have hn0':n≠0:=by omega
 have hn0'':((n:Int)==0)=false:=by simp;omega
 clear h hT hI hpr
 go_enter Tryz.func28,Tryz.ntmps28
 go_wp2
 go_loopw [5,16] (fun v5 v16 wr=>∃ c:Nat,c<=m/\v16=.int .i64 (c:Nat)/\v5=.int .i64 (rkTo p m R0 c:Nat)/\Hid (∃ gs T,TabO B gt cap n m gs T wr/\(∀ i j,i<n->j<m->0<=T i j/\T i j<p)/\Inv p m R0 c (restR n (rkTo p m R0 (c)) T)/\rkTo p m R0 (c)<=n/\Below B w wr)) (fun _ v16 _=>m-(intOf v16).toNat)
 case atStart=>exact⟨0,Nat.zero_le _,rfl,rfl,(by obtain⟨gs,T,h1,h2,h3,h4⟩:=HP.out;exact⟨gs,T,h1,h2,h3,Nat.zero_le _,h4⟩:∃ gs T,TabO B gt cap n m gs T w/\(∀ i j,i<n->j<m->0<=T i j/\T i j<p)/\Inv p m R0 0 (restR n (rkTo p m R0 (0)) T)/\rkTo p m R0 (0)<=n/\Below B w w)⟩
 case round=>
  clear HP t0
  rename World=>W1
  obtain⟨c,hcm,rfl,rfl,hp1⟩:=hrel
  by_cases hcl:c<m
  · obtain⟨gs,T,hTab,hT,hI,hdn,hbel⟩:=hp1.out
    obtain⟨dn,hdd⟩:∃ dn,rkTo p m R0 c=dn:=⟨_,rfl⟩
    have HDN:Hid (rkTo p m R0 c=dn):=hdd
    rw[hdd]at hI hdn ⊢
    have HTab:Hid (TabO B gt cap n m gs T W1):=hTab
    have HT:Hid (∀ i j,i<n->j<m->0<=T i j/\T i j<p):=hT
    have HI:Hid (Inv p m R0 c (restR n dn T)):=hI
    have HBE:Hid (Below B w W1):=hbel
    have hg1:=(hTab.outer.lt gt rfl).2
    have hdc:decide ((c:Int)<(m:Int))=true:=by simp;omega
    have hdc2:decide (c<m)=true:=by simp;omega
    clear hTab hT hI hbel hdd hp1
    go_wp2
    go_loopw [5,7] (fun v5 v7 wr=>∃ i:Nat,dn<=i/\i<=n/\v7=.int .i64 (i:Nat)/\v5=.int .i64 (dn:Nat)/\Hid (wr=W1)/\Hid (∀ q,dn<=q->q<i->T q c=0)) (fun _ v7 _=>n-(intOf v7).toNat)
    case atStart=>exact⟨dn,Nat.le_refl _,hdn,rfl,rfl,(rfl:W1=W1),(fun q h1 h2=>by omega:∀ q,dn<=q->q<dn->T q c=0)⟩
    case round=>
     rename World=>W2
     obtain⟨i,hi1,hi2,rfl,rfl,hw,hz⟩:=hrel
     have e9:W2=W1:=hw.out
     subst e9
     by_cases hil:i<n
     · have t1:=HTab.out.cellO i hil
       have t2:=HTab.out.cellR i c hil hcl
       have t3:=HTab.out.cellO dn (by omega)
       have hxb:=HT.out i c hil hcl
       obtain⟨x,hx⟩:∃ x,T i c=x:=⟨_,rfl⟩
       have HX:Hid (T i c=x):=hx
       rw[hx]at t2 hxb
       clear hx
       by_cases hx0:x=0
       · subst hx0
         go_wp2
         go_roundw
         case rel => exact ⟨i + 1, by omega, by omega, by go_num, rfl, trivial, (fun q h1 h2 => by
          by_cases e:q=i
          · rw[e];exact HX.out
          · exact hz.out q h1 (by omega):∀ q,dn<=q->q<i+1->T q c=0)⟩
         case measure=>simp only[intOf];omega
       · have hxz:(x==0)=false:=by simp;exact hx0
         have hdn2:dn<n:=by omega
         have hdn3:(dn:Int)<(n:Int):=by omega
         have hin3:(i:Int)<(n:Int):=by omega
         have f0:W2.frozen? ⟨gt,dn,none⟩=false:=HTab.out.outer.frozenAt dn
         have f1:W2.frozen? ⟨gt,i,none⟩=false:=HTab.out.outer.frozenAt i
         by_cases hdi:dn=i
         · subst hdi
           go_wp2
           apply cut_one
           case h=>
            intro key
            go_region_with (fail)
            all_goals exact key.out
           have hsw:=HTab.out.swap dn dn hdn2 hil
           obtain⟨X,hX⟩:∃ X,X=((W2.setCell ⟨gt,dn,none⟩ (.slice (some ⟨gs dn,0,none⟩) m m)).setCell ⟨gt,dn,none⟩ (.slice (some ⟨gs dn,0,none⟩) m m)).drew:=⟨_,rfl⟩
           have HX0:Hid (X=((W2.setCell ⟨gt,dn,none⟩ (.slice (some ⟨gs dn,0,none⟩) m m)).setCell ⟨gt,dn,none⟩ (.slice (some ⟨gs dn,0,none⟩) m m)).drew):=hX
           have HXT:Hid (TabO B gt cap n m (fun q=>gs (swq dn dn q)) (fun q=>T (swq dn dn q)) X/\Below B w X):=(by rw[hX];exact⟨hsw.1.any (grown_below ((Below.refl _ _).drew) none),Below.drew <| HBE.out.grown hsw.2 (by have:=HBE.out.size;omega) (fun q hq=>by have:=Option.some.inj hq;omega)⟩:TabO B gt cap n m (fun q=>gs (swq dn dn q)) (fun q=>T (swq dn dn q)) X/\Below B w X)
           have HT2:Hid (∀ a b,a<n->b<m->0<=T (swq dn dn a) b/\T (swq dn dn a) b<p):=fun a b ha hb=>HT.out _ b (swp_lt hdn2 hil ha) hb
           have HI2:Hid (Inv p m R0 c (restR n dn (fun q=>T (swq dn dn q)))):=rest_swap (by omega) hil HI.out
           have HXC:Hid (T (swq dn dn dn) c=x):=(by have e:swq dn dn dn=dn:=(by simp[swq]);rw[e];exact HX.out:T (swq dn dn dn) c=x)
           have HCB:Hid (∀ W,B<=W.heap.size->TabO B gt cap n m (fun q=>gs (swq dn dn q)) (fun q=>T (swq dn dn q)) W->_):=fun W hW hTW=>clearBelow_any B gt cap n m (fun q=>gs (swq dn dn q)) (fun q=>T (swq dn dn q)) dn c p W hp HPR.out hn hm hdn2 hcl hcap HT2.out (by show T (swq dn dn dn) c≠0;rw[HXC.out];exact hx0) hW hTW
           rw[<-hX]
           clear hsw hX t1 t2 t3 f0 f1 HX0
           have hcd:cap-dn≠0:=by omega
           have hcd2:dn<cap:=by omega
           have hcd3:dn<=n:=by omega
           go_wp2_with (go_at_call 55;refine(HCB.out X (by have:=HXT.out.2.size;omega) HXT.out.1).mono ?_;rintro e9 w5 ⟨rfl,T',hT',hs1,hs2,hb5⟩;refine Hid.out ?_)
           refine Lib.hid ?_
           have HPV:Hid (pivP p m R0 c):=(piv_iff HI2.out hcl).2 ⟨_,⟨dn,Nat.le_refl _,hdn2,rfl⟩,fun hd=>hx0 (by have h1:(p:Int) ∣ x:=(by rw[<-HXC.out];exact hd);exact(small_dvd hxb.1 hxb.2).1 h1)⟩
           have HRK:Hid (rkTo p m R0 (c+1)=dn+1):=(by rw[rkTo_yes HPV.out,HDN.out]:rkTo p m R0 (c+1)=dn+1)
           have HFI : Hid (∃ gs T, TabO B gt cap n m gs T w5 ∧ (∀ i j, i < n → j < m → 0 ≤ T i j ∧ T i j < p) ∧ Inv p m R0 (c + 1) (restR n (rkTo p m R0 ((c + 1))) T) ∧ rkTo p m R0 ((c + 1)) ≤ n ∧ Below B w w5) := (by
            rw[HRK.out]
            refine⟨_,T',hT',fun a b ha hb=>?_,?_,by omega,HXT.out.2.trans hb5⟩
            · by_cases h1:a<=dn
              · rw[hs1 a b h1 hb];exact HT2.out a b ha hb
              · exact(hs2 a (by omega) ha).2.1 b hb
            · exact rest_piv hp HPR.out hcl hdn2 HI2.out (fun hd=>hx0 (by have h1:(p:Int) ∣ x:=(by rw[<-HXC.out];exact hd);exact(small_dvd hxb.1 hxb.2).1 h1)) (fun a h1 h2=>⟨(hs2 a h1 h2).1,(hs2 a h1 h2).2.2⟩):∃ gs T,TabO B gt cap n m gs T w5/\(∀ i j,i<n->j<m->0<=T i j/\T i j<p)/\Inv p m R0 (c+1) (restR n (rkTo p m R0 ((c+1))) T)/\rkTo p m R0 ((c+1))<=n/\Below B w w5)
           clear hT' hs1 hs2 hb5 HXT HCB HT2 HI2 HXC
           go_wp2
           go_roundw
           case rel=>exact⟨c+1,by omega,by go_num,(by rw[HRK.out];go_num),HFI.out⟩
           case measure=>simp only[intOf];omega
         · have hid:i≠dn:=fun e=>hdi e.symm
           go_wp2
           apply cut_one
           case h=>
            intro key
            go_region_with (fail)
            all_goals exact key.out
           have hsw:=HTab.out.swap dn i hdn2 hil
           obtain⟨X,hX⟩:∃ X,X=((W2.setCell ⟨gt,dn,none⟩ (.slice (some ⟨gs i,0,none⟩) m m)).setCell ⟨gt,i,none⟩ (.slice (some ⟨gs dn,0,none⟩) m m)).drew:=⟨_,rfl⟩
           have HX0:Hid (X=((W2.setCell ⟨gt,dn,none⟩ (.slice (some ⟨gs i,0,none⟩) m m)).setCell ⟨gt,i,none⟩ (.slice (some ⟨gs dn,0,none⟩) m m)).drew):=hX
           have HXT:Hid (TabO B gt cap n m (fun q=>gs (swq dn i q)) (fun q=>T (swq dn i q)) X/\Below B w X):=(by rw[hX];exact⟨hsw.1.any (grown_below ((Below.refl _ _).drew) none),Below.drew <| HBE.out.grown hsw.2 (by have:=HBE.out.size;omega) (fun q hq=>by have:=Option.some.inj hq;omega)⟩:TabO B gt cap n m (fun q=>gs (swq dn i q)) (fun q=>T (swq dn i q)) X/\Below B w X)
           have HT2:Hid (∀ a b,a<n->b<m->0<=T (swq dn i a) b/\T (swq dn i a) b<p):=fun a b ha hb=>HT.out _ b (swp_lt hdn2 hil ha) hb
           have HI2:Hid (Inv p m R0 c (restR n dn (fun q=>T (swq dn i q)))):=rest_swap (by omega) hil HI.out
           have HXC:Hid (T (swq dn i dn) c=x):=(by have e:swq dn i dn=i:=(by simp[swq]);rw[e];exact HX.out:T (swq dn i dn) c=x)
           have HCB:Hid (∀ W,B<=W.heap.size->TabO B gt cap n m (fun q=>gs (swq dn i q)) (fun q=>T (swq dn i q)) W->_):=fun W hW hTW=>clearBelow_any B gt cap n m (fun q=>gs (swq dn i q)) (fun q=>T (swq dn i q)) dn c p W hp HPR.out hn hm hdn2 hcl hcap HT2.out (by show T (swq dn i dn) c≠0;rw[HXC.out];exact hx0) hW hTW
           rw[<-hX]
           clear hsw hX t1 t2 t3 f0 f1 HX0
           have hcd:cap-dn≠0:=by omega
           have hcd2:dn<cap:=by omega
           have hcd3:dn<=n:=by omega
           go_wp2_with (go_at_call 55;refine(HCB.out X (by have:=HXT.out.2.size;omega) HXT.out.1).mono ?_;rintro e9 w5 ⟨rfl,T',hT',hs1,hs2,hb5⟩;refine Hid.out ?_)
           refine Lib.hid ?_
           have HPV:Hid (pivP p m R0 c):=(piv_iff HI2.out hcl).2 ⟨_,⟨dn,Nat.le_refl _,hdn2,rfl⟩,fun hd=>hx0 (by have h1:(p:Int) ∣ x:=(by rw[<-HXC.out];exact hd);exact(small_dvd hxb.1 hxb.2).1 h1)⟩
           have HRK:Hid (rkTo p m R0 (c+1)=dn+1):=(by rw[rkTo_yes HPV.out,HDN.out]:rkTo p m R0 (c+1)=dn+1)
           have HFI : Hid (∃ gs T, TabO B gt cap n m gs T w5 ∧ (∀ i j, i < n → j < m → 0 ≤ T i j ∧ T i j < p) ∧ Inv p m R0 (c + 1) (restR n (rkTo p m R0 ((c + 1))) T) ∧ rkTo p m R0 ((c + 1)) ≤ n ∧ Below B w w5) := (by
            rw[HRK.out]
            refine⟨_,T',hT',fun a b ha hb=>?_,?_,by omega,HXT.out.2.trans hb5⟩
            · by_cases h1:a<=dn
              · rw[hs1 a b h1 hb];exact HT2.out a b ha hb
              · exact(hs2 a (by omega) ha).2.1 b hb
            · exact rest_piv hp HPR.out hcl hdn2 HI2.out (fun hd=>hx0 (by have h1:(p:Int) ∣ x:=(by rw[<-HXC.out];exact hd);exact(small_dvd hxb.1 hxb.2).1 h1)) (fun a h1 h2=>⟨(hs2 a h1 h2).1,(hs2 a h1 h2).2.2⟩):∃ gs T,TabO B gt cap n m gs T w5/\(∀ i j,i<n->j<m->0<=T i j/\T i j<p)/\Inv p m R0 (c+1) (restR n (rkTo p m R0 ((c+1))) T)/\rkTo p m R0 ((c+1))<=n/\Below B w w5)
           clear hT' hs1 hs2 hb5 HXT HCB HT2 HI2 HXC
           go_wp2
           go_roundw
           case rel=>exact⟨c+1,by omega,by go_num,(by rw[HRK.out];go_num),HFI.out⟩
           case measure=>simp only[intOf];omega
     · obtain rfl:n=i:=by omega
       have HNP:Hid (¬ pivP p m R0 c):=fun hpv=>by
        obtain⟨r,⟨q,h1,h2,rfl⟩,hr⟩:=(piv_iff HI.out hcl).1 hpv
        exact hr (by rw[hz.out q h1 h2];exact Int.dvd_zero _)
       have HRK:Hid (rkTo p m R0 (c+1)=dn):=(by rw[rkTo_no HNP.out,HDN.out]:rkTo p m R0 (c+1)=dn)
       have HIN : Hid (Inv p m R0 (c + 1) (restR n dn T)) := HI.out.none hcl (fun r hr => by
        obtain⟨q,h1,h2,rfl⟩:=hr
        rw[hz.out q h1 h2];exact Int.dvd_zero _)
       go_wp2
       go_roundw
       case rel=>exact⟨c+1,by omega,by go_num,(by rw[HRK.out]),(by rw[HRK.out];exact⟨gs,T,HTab.out,HT.out,HIN.out,hdn,HBE.out⟩:∃ gs T,TabO B gt cap n m gs T W2/\(∀ i j,i<n->j<m->0<=T i j/\T i j<p)/\Inv p m R0 (c+1) (restR n (rkTo p m R0 ((c+1))) T)/\rkTo p m R0 ((c+1))<=n/\Below B w W2)⟩
       case measure=>simp only[intOf];omega
  · obtain rfl:c=m:=by omega
    go_wp2
    go_ret
    obtain⟨gs,T,_,_,_,_,hbel⟩:=hp1.out
    exact⟨rfl,hbel⟩
end Go.Proofs.YtbobljddklldjaaGreatDoor
/- Tables under way; the walk of colour.equations. -/
namespace Go.Proofs.YtbobljddklldjaaGreatDoor
open Go.RowKit
set_option maxHeartbeats 16000000
set_option maxRecDepth 100000
structure TabP (B n m:Nat) (gs:Nat->Nat) (T:Nat->Nat->Int) (v:Value) (W:World):Prop where
 outer:W.ownsRow B 62 1 v n (hdr n m gs)
 rows:∀ i,i<n->W.ownsRow B 3 1 (.slice (some ⟨gs i,0,none⟩) m m) m (intsV (mapI m (T i)))
 inj:∀ i j,i<n->j<n->gs i=gs j->i=j
theorem TabP.any {B n m:Nat} {gs:Nat->Nat} {T:Nat->Nat->Int} {v:Value} {W W':World} (h:TabP B n m gs T v W) (hg:W.grownBy W' none):TabP B n m gs T v W':=
 ⟨own_any h.outer hg,fun i hi=>own_any (h.rows i hi) hg,h.inj⟩
theorem TabP.nil (B m:Nat) (gs:Nat->Nat) (T:Nat->Nat->Int) (W:World):TabP B 0 m gs T (.slice none 0 0) W:=
 ⟨World.ownsRow_nil _ _ _ _,fun _ hi=>absurd hi (Nat.not_lt_zero _),fun _ _ hi=>absurd hi (Nat.not_lt_zero _)⟩
theorem TabP.other {B n m g:Nat} {gs:Nat->Nat} {T:Nat->Nat->Int} {v:Value} {W W':World} (h:TabP B n m gs T v W) (hg:W.grownBy W' (some g)) (hv:v.ownBlock≠some g) (hr:∀ i,i<n->gs i≠g):TabP B n m gs T v W':=
 ⟨h.outer.kept hg (Or.inr hv),fun i hi=>(h.rows i hi).kept hg (Or.inr (fun e=>hr i hi (Option.some.inj e))),h.inj⟩
theorem hdr_next (n m g:Nat) (gs:Nat->Nat):hdr n m gs++[.slice (some ⟨g,0,none⟩) m m]=hdr (n+1) m (fun i=>if i=n then g else gs i):=by
 unfold hdr
 rw[List.range_succ,List.map_append]
 congr 1
 · refine List.map_congr_left fun i hi=>?_
   have h:i≠n:=by have:=List.mem_range.1 hi;omega
   simp[h]
 · simp
theorem TabP.more {B n m g : Nat} {gs : Nat → Nat} {T : Nat → Nat → Int} {v v' : Value} {W W' : World} (h : TabP B n m gs T v W) (hr : W.ownsRow B 3 1 (.slice (some ⟨g, 0, none⟩) m m) m (intsV (mapI m (T n)))) (hne : ∀ i, i < n → gs i ≠ g)
    (hg:W.grownBy W' v.ownBlock) (ho:W'.ownsRow B 62 1 v' (n+1) (hdr n m gs++[.slice (some ⟨g,0,none⟩) m m])):TabP B (n+1) m (fun i=>if i=n then g else gs i) T v' W':=by
 refine⟨by rw[<-hdr_next];exact ho,fun i hi=>?_,fun i j hi hj e=>?_⟩
 · by_cases e:i=n
   · subst e
     simp only[if_true]
     exact hr.kept hg (own_ne hr h.outer (by decide))
   · simp only[if_neg e]
     have:=h.rows i (by omega)
     exact this.kept hg (own_ne this h.outer (by decide))
 · have e:(if i=n then g else gs i)=(if j=n then g else gs j):=e
   by_cases e1:i=n
   · by_cases e2:j=n
     · omega
     · rw[if_pos e1,if_neg e2]at e;exact absurd e.symm (hne j (by omega))
   · by_cases e2:j=n
     · rw[if_neg e1,if_pos e2]at e;exact absurd e (hne i (by omega))
     · rw[if_neg e1,if_neg e2]at e;exact h.inj i j (by omega) (by omega) e
theorem TabP.whole {B n m:Nat} {gs:Nat->Nat} {T:Nat->Nat->Int} {v:Value} {W:World} (h:TabP B n m gs T v W) (hn:0<n):∃ gt cap,v=.slice (some ⟨gt,0,none⟩) n cap/\n<=cap/\TabO B gt cap n m gs T W:=by
 rcases h.outer.2 with⟨_,h0⟩|⟨g,cap,cur,hv,_,_,hc,_⟩
 · omega
 · subst hv
   exact⟨g,cap,rfl,hc,h.outer,h.rows,h.inj⟩
theorem TabP.empty {B m:Nat} {gs:Nat->Nat} {T:Nat->Nat->Int} {v:Value} {W:World} (h:TabP B 0 m gs T v W):∃ a c,v=.slice a 0 c:=by
 obtain⟨a,c,e⟩:=own_capS h.outer
 exact⟨a,c,e⟩
def eqF (oa ob oc j:Nat):Int:=(if j=ob then 2 else 0)-(if j=oa then 1 else 0)-(if j=oc then 1 else 0)
def eqZ (_:Nat):Int:=0
def eq1 (ob j:Nat):Int:=if j=ob then 2 else 0
def eq2 (oa ob j:Nat):Int:=(if j=ob then 2 else 0)-(if j=oa then 1 else 0)
def eqR (C:List Cr) (i:Nat):Nat->Int:=eqF (ovM C (C.getD i Cr.none).a.toNat) (ovM C (C.getD i Cr.none).b.toNat) (ovM C (C.getD i Cr.none).c.toNat)
theorem eqF_in (oa ob oc j:Nat) : -2<=eqF oa ob oc j/\eqF oa ob oc j<=2:=by unfold eqF;split<;>split<;>split<;>omega
def eqAll (C:List Cr):(Nat->Int)->Prop:=fun r=>∃ i,i<C.length/\r=eqR C i
theorem ovM_lt {C:List Cr} {loops:Int} (hm:mayD C loops=true) (a:Nat) (h1:1<=a) (h2:a<2*C.length+1):ovM C a<ovC C:=by
 have hL:=lowM_least (ovE_lt hm)
 have hp:=hL.pos (fun e he=>⟨(ovE_in hm e he).1.1,(ovE_in hm e he).2.1⟩) h2 h1
 have h3:rootsN (lowM C) ((lowM C).getD a 0+1)=ovM C a+1:=by
  show rootsN (lowM C) _+_=_
  rw[if_pos ⟨hp,hL.root h2⟩];rfl
 have h4:=rootsN_mono (lowM C) ((lowM C).getD a 0+1) (2*C.length+1) (by have:=hL.le h2;omega)
 unfold ovC
 omega
theorem ovC_le (C:List Cr):ovC C<=2*C.length+1:=rootsN_le _ _
structure EqSt (w:World) (q gr k m:Nat) (gs:Nat->Nat) (T:Nat->Nat->Int) (v:Value) (box:Array Value) (f:Nat->Int) (X:World):Prop where
 row:X.ownsRow w.heap.size 3 1 (.slice (some ⟨gr,0,none⟩) m m) m (intsV (mapI m f))
 box:X.heap[q]?=some (.cells box 60 (0,0))
 tab:TabP w.heap.size k m gs T v X
 bel:Below w.heap.size w X
theorem EqSt.set {w X : World} {q gr k m : Nat} {gs : Nat → Nat} {T : Nat → Nat → Int} {v : Value} {box : Array Value} {f : Nat → Int} (h : EqSt w q gr k m gs T v box f X) (x : Nat) (z : Int) (f' : Nat → Int)
    (hf:∀ j,j<m->f' j=if j=x then z else f j) (hq:q≠gr) (hv:v.ownBlock≠some gr) (hr:∀ i,i<k->gs i≠gr):EqSt w q gr k m gs T v box f' (X.setCell ⟨gr,x,none⟩ (.int .i64 z)):=by
 have hst:=h.row.stored x (.int .i64 z)
 rw[intsV_set,mapI_set m f f' x z hf]at hst
 have hl:=h.row.lt gr rfl
 refine⟨hst.1,?_,h.tab.other hst.2 hv hr,h.bel.grown hst.2 h.bel.size (fun k hk=>by have:=Option.some.inj hk;omega)⟩
 have hqs:q<X.heap.size:=(Array.getElem?_eq_some_iff.1 h.box).1
 exact(hst.2.block q hqs (fun e=>hq (Option.some.inj e))).trans h.box
theorem EqSt.any {w X X':World} {q gr k m:Nat} {gs:Nat->Nat} {T:Nat->Nat->Int} {v:Value} {box:Array Value} {f:Nat->Int} (h:EqSt w q gr k m gs T v box f X) (hg:X.grownBy X' none):EqSt w q gr k m gs T v box f X':=
 ⟨own_any h.row hg,(hg.block q (Array.getElem?_eq_some_iff.1 h.box).1 (by simp)).trans h.box,h.tab.any hg,h.bel.grown hg h.bel.size (fun k hk=>by cases hk)⟩
theorem EqSt.cell {w X:World} {q gr k m:Nat} {gs:Nat->Nat} {T:Nat->Nat->Int} {v:Value} {box:Array Value} {f:Nat->Int} (h:EqSt w q gr k m gs T v box f X) (x:Nat) (hx:x<m):X.cell? ⟨gr,x,none⟩=some (.int .i64 (f x)):=by
 rw[h.row.cellAt x (by omega),intsV_get _ x (by rw[mapI_len];exact hx),mapI_at _ _ _ hx]
theorem equations_any (a : Option Addr) (cap : Nat) (C : List Cr) (loops : Int) (gF cF gT cT g p : Nat) (w : World) (hm : mayD C loops = true) (hD : Dr w a cap C gF gT) (hp : p < 98) (hp2 : 2 ≤ p)
    (hO:w.ownsRow 0 3 1 (.slice (some ⟨g,0,none⟩) (2*C.length+1) (2*C.length+1)) (2*C.length+1) (nats (ovTo C (2*C.length+1)))):
    Calls Tryz.prog 29 #[drV a cap C loops gF cF gT cT,.slice (some ⟨g,0,none⟩) (2*C.length+1) (2*C.length+1),.int .i64 (ovC C:Nat),.int .i64 (p:Nat)] w fun e w'=>∃ v gs,e=.returned v/\TabP w.heap.size C.length (ovC C) gs (fun i j=>(eqR C i j+p).tmod p) v w'/\Below w.heap.size w w':=by
 obtain⟨s1,-,-,-⟩:=sizeB_iff (may_size hm)
 obtain⟨i2,hk,hx0,hx1,hx2⟩:=info_parts infoInt
 obtain⟨i1,hj,hy0,hy1,hy2⟩:=info_parts infoInts
 have HM:Hid (mayD C loops=true):=hm
 have HD:Hid (Dr w a cap C gF gT):=hD
 have HO:Hid (w.ownsRow 0 3 1 (.slice (some ⟨g,0,none⟩) (2*C.length+1) (2*C.length+1)) (2*C.length+1) (nats (ovTo C (2*C.length+1)))):=hO
 have hgw:=(hO.lt g rfl).2
 have hmc:=ovC_le C
 obtain⟨m,hmm⟩:∃ m,ovC C=m:=⟨_,rfl⟩
 have HMM:Hid (ovC C=m):=hmm
 have HOL:Hid (∀ b,1<=b->b<2*C.length+1->ovM C b<m):=fun b h1 h2=>by rw[<-hmm];exact ovM_lt HM.out b h1 h2
 obtain⟨N,hN⟩:∃ N,N=2*C.length+1:=⟨_,rfl⟩
 have HN:Hid (N=2*C.length+1):=hN
 have hN1:1<=N:=by omega
 have hN2:N<=33:=by omega
 unfold drV
 rw[<-hN]at HO hmc HOL ⊢
 rw[hmm]at hmc ⊢
 clear hm hD hO hmm hN
 have HOC:Hid (∀ b,1<=b->b<N->w.cell? ⟨g,b,none⟩=some (.int .i64 (ovM C b:Nat))):=fun b h1 h2=>by
  rw[HO.out.cellAt b (by omega),nats_get _ b (by rw[ovTo_len];have:=HN.out;omega),ovTo_at _ _ _ (by have:=HN.out;omega),if_pos ⟨h2,h1⟩]
 go_enter Tryz.func29,Tryz.ntmps29
 have HB0:Hid (Below w.heap.size w (w.alloc (.cells #[.slice a C.length cap,.int .i64 loops,.slice (some ⟨gF,0,none⟩) N cF,.slice (some ⟨gT,0,none⟩) N cT] 42))):=(Below.refl _ _).alloc (Nat.le_refl _) _
 go_wp2
 go_loopw [9,18] (fun v10 v18 wr=>∃ (k:Nat) (gs:Nat->Nat),k<=C.length/\v18=.int .i64 (k:Nat)/\Hid (TabP w.heap.size k m gs (fun i j=>(eqR C i j+p).tmod p) v10 wr/\Below w.heap.size w wr)) (fun _ v18 _=>C.length-(intOf v18).toNat)
 case atStart=>exact⟨0,fun _=>0,Nat.zero_le _,rfl,TabP.nil _ _ _ _ _,HB0.out⟩
 case round=>
  clear HB0
  rename World=>W1
  obtain⟨k,gs,hkn,rfl,hp1⟩:=hrel
  obtain⟨av,cv,rfl⟩:=own_capS hp1.out.1.outer
  by_cases hil:k<C.length
  · obtain⟨b,off,ea,hbw,hC⟩:=HD.out.cross (by omega)
    have HEA:Hid (a=some ⟨b,off,none⟩):=ea
    obtain⟨e0,e1,e2,e3,e4⟩:=(hC.on hp1.out.2 hbw) k hil
    have fa:=may_fit HM.out k 0 hil (by omega)
    have fb:=may_fit HM.out k 1 hil (by omega)
    have fc:=may_fit HM.out k 2 hil (by omega)
    have HX:Hid ((C.getD k Cr.none).arc 0=(C.getD k Cr.none).a/\(C.getD k Cr.none).arc 1=(C.getD k Cr.none).b/\(C.getD k Cr.none).arc 2=(C.getD k Cr.none).c):=⟨rfl,rfl,rfl⟩
    have fa1:=fa.1
    have fa2:=fa.2.1
    have fb1:=fb.1
    have fb2:=fb.2.1
    have fc1:=fc.1
    have fc2:=fc.2.1
    rw[HX.out.1]at fa1 fa2
    rw[HX.out.2.1]at fb1 fb2
    rw[HX.out.2.2]at fc1 fc2
    obtain⟨xa,hxa⟩:∃ x:Nat,(C.getD k Cr.none).a=(x:Int):=⟨(C.getD k Cr.none).a.toNat,by omega⟩
    obtain⟨xb,hxb⟩:∃ x:Nat,(C.getD k Cr.none).b=(x:Int):=⟨(C.getD k Cr.none).b.toNat,by omega⟩
    obtain⟨xc,hxc⟩:∃ x:Nat,(C.getD k Cr.none).c=(x:Int):=⟨(C.getD k Cr.none).c.toNat,by omega⟩
    obtain⟨cd,hcd⟩:∃ z,(C.getD k Cr.none).d=z:=⟨_,rfl⟩
    obtain⟨cp,hcp⟩:∃ z,(C.getD k Cr.none).plus=z:=⟨_,rfl⟩
    rw[hxa]at e0 fa1 fa2
    rw[hxb]at e1 fb1 fb2
    rw[hxc]at e2 fc1 fc2
    rw[hcd]at e3
    rw[hcp]at e4
    have hxaN:1<=xa/\xa<N:=by have:=HN.out;omega
    have hxbN:1<=xb/\xb<N:=by have:=HN.out;omega
    have hxcN:1<=xc/\xc<N:=by have:=HN.out;omega
    have HEQ:Hid (eqR C k=eqF (ovM C xa) (ovM C xb) (ovM C xc)):=(by unfold eqR;rw[hxa,hxb,hxc];rfl:eqR C k=eqF (ovM C xa) (ovM C xb) (ovM C xc))
    have hoa:=HOL.out xa hxaN.1 hxaN.2
    have hob:=HOL.out xb hxbN.1 hxbN.2
    have hoc:=HOL.out xc hxcN.1 hxcN.2
    have HOX:Hid (∀ W,Below w.heap.size w W->W.cell? ⟨g,xa,none⟩=some (.int .i64 (ovM C xa:Nat))/\W.cell? ⟨g,xb,none⟩=some (.int .i64 (ovM C xb:Nat))/\W.cell? ⟨g,xc,none⟩=some (.int .i64 (ovM C xc:Nat))):=fun W hW=>⟨bcell hW hgw (HOC.out xa hxaN.1 hxaN.2),bcell hW hgw (HOC.out xb hxbN.1 hxbN.2),bcell hW hgw (HOC.out xc hxcN.1 hxcN.2)⟩
    obtain⟨oa,hoa'⟩:∃ o,ovM C xa=o:=⟨_,rfl⟩
    obtain⟨ob,hob'⟩:∃ o,ovM C xb=o:=⟨_,rfl⟩
    obtain⟨oc,hoc'⟩:∃ o,ovM C xc=o:=⟨_,rfl⟩
    rw[hoa',hob',hoc']at HEQ HOX
    rw[hoa']at hoa
    rw[hob']at hob
    rw[hoc']at hoc
    have hs1:=hp1.out.2.size
    have HVB:Hid ((Value.slice av k cv).ownBlock≠some (W1.heap.size+1)):=fun e=>by have:=(hp1.out.1.outer.lt _ e).2;omega
    have HGB:Hid (∀ i,i<k->gs i≠W1.heap.size+1):=fun i hi e=>by have:=((hp1.out.1.rows i hi).lt (gs i) rfl).2;omega
    have hbW:b<W1.heap.size:=by omega
    have hii:(k:Int)<(C.length:Int):=by omega
    obtain⟨X0,hX0⟩:∃ X,X=W1.alloc (.cells #[.int .i64 (xa:Nat),.int .i64 (xb:Nat),.int .i64 (xc:Nat),.int .i64 cd,.bool cp] 60):=⟨_,rfl⟩
    have HX0:Hid (X0=W1.alloc (.cells #[.int .i64 (xa:Nat),.int .i64 (xb:Nat),.int .i64 (xc:Nat),.int .i64 cd,.bool cp] 60)):=hX0
    have hs0:X0.heap.size=W1.heap.size+1:=by rw[hX0];simp
    have HXB:Hid (X0.heap[W1.heap.size]?=some (.cells #[.int .i64 (xa:Nat),.int .i64 (xb:Nat),.int .i64 (xc:Nat),.int .i64 cd,.bool cp] 60 (0,0))/\W1.grownBy X0 none):=(by rw[hX0];exact⟨alloc_at rfl,World.grownBy_alloc _ _ none⟩:X0.heap[W1.heap.size]?=some (.cells #[.int .i64 (xa:Nat),.int .i64 (xb:Nat),.int .i64 (xc:Nat),.int .i64 cd,.bool cp] 60 (0,0))/\W1.grownBy X0 none)
    clear hC fa fb fc fa1 fa2 fb1 fb2 fc1 fc2 hxa hxb hxc hcd hcp hoa' hob' hoc' hX0
    go_upto_region 6 with(first|(at_make;rw[<-HX0.out];refine wpList_make_full _ rfl _ _ 62 rfl w.heap.size 3 i2 (.int .i64 0) 1 Tryz.underlying62 hk hx0 hx1 .i64 .i64 _ _ m rfl rfl rfl rfl (by rw[hx2];omega) (by unfold maxLen;omega) (by omega) ?_;intro X1 hrow hg1;refine Hid.out ?_))
    refine Lib.hid ?_
    rw[<-ea]
    clear ea e0 e1 e2 e3 e4
    rw[made_zero,hs0,<-mapI_zero m eqZ (fun _ _=>rfl)]at hrow
    have HS0:Hid (EqSt w W1.heap.size (W1.heap.size+1) k m gs (fun i j=>(eqR C i j+p).tmod p) (.slice av k cv) #[.int .i64 (xa:Nat),.int .i64 (xb:Nat),.int .i64 (xc:Nat),.int .i64 cd,.bool cp] eqZ X1):=⟨hrow,(hg1.block _ (by omega) (by simp)).trans HXB.out.1,(hp1.out.1.any HXB.out.2).any hg1,(hp1.out.2.grown HXB.out.2 hs1 (fun k hk=>by cases hk)).grown hg1 (by omega) (fun k hk=>by cases hk)⟩
    clear hrow hg1 HXB HX0 hs0 hp1
    go_upto_region 6 with(fail)
    have c0:X1.cell? ⟨W1.heap.size,1,none⟩=some (.int .i64 (xb:Nat)):=block_cell HS0.out.box rfl
    have d0:X1.cell? ⟨g,xb,none⟩=some (.int .i64 (ob:Nat)):=(HOX.out _ HS0.out.bel).2.1
    have r0:X1.cell? ⟨W1.heap.size+1,ob,none⟩=some (.int .i64 (eqZ ob)):=HS0.out.cell ob hob
    have z0:X1.frozen? ⟨W1.heap.size+1,ob,none⟩=false:=HS0.out.row.frozenAt ob
    obtain⟨y0,hy0⟩:∃ y:Int,eqZ ob=y:=⟨_,rfl⟩
    have hyb0 : -9<=y0/\y0<=9:=by rw[<-hy0];simp only[eqZ];(repeat' split)<;>omega
    rw[hy0]at r0
    have w0:IntKind.i64.wrap (y0+2)=y0+2:=IntWalk.i64_in _ (by omega)
    have HS1 : Hid (EqSt w W1.heap.size (W1.heap.size + 1) k m gs (fun i j => (eqR C i j + p).tmod p) (.slice av k cv) #[.int .i64 (xa : Nat), .int .i64 (xb : Nat), .int .i64 (xc : Nat), .int .i64 cd, .bool cp] (eq1 ob) (X1.setCell ⟨W1.heap.size + 1, ob, none⟩ (.int .i64 (y0 + 2)))) := HS0.out.set ob (y0 + 2) (eq1 ob) (fun j hj => by
     rw[<-hy0]
     by_cases e:j=ob
     · subst e;simp[eqZ,eq1]
     · simp[eqZ,eq1,e]) (by omega) HVB.out HGB.out
    obtain⟨X2,hX2⟩:∃ X,X=X1.setCell ⟨W1.heap.size+1,ob,none⟩ (.int .i64 (y0+2)):=⟨_,rfl⟩
    rw[<-hX2]at HS1
    have hl0:W1.heap.size+1<X1.heap.size:=(HS0.out.row.lt (W1.heap.size+1) rfl).2
    have hb0:=HS0.out.bel.size
    have HQ0:Hid (X2=X1.setCell ⟨W1.heap.size+1,ob,none⟩ (.int .i64 (y0+2))):=hX2
    clear hX2 hy0
    go_upto_region 7 with(fail)
    rw[<-HQ0.out]
    clear c0 d0 r0 z0 w0 HS0 HQ0 hyb0 hl0 hb0
    have c1:X2.cell? ⟨W1.heap.size,0,none⟩=some (.int .i64 (xa:Nat)):=block_cell HS1.out.box rfl
    have d1:X2.cell? ⟨g,xa,none⟩=some (.int .i64 (oa:Nat)):=(HOX.out _ HS1.out.bel).1
    have r1:X2.cell? ⟨W1.heap.size+1,oa,none⟩=some (.int .i64 ((eq1 ob) oa)):=HS1.out.cell oa hoa
    have z1:X2.frozen? ⟨W1.heap.size+1,oa,none⟩=false:=HS1.out.row.frozenAt oa
    obtain⟨y1,hy1⟩:∃ y:Int,(eq1 ob) oa=y:=⟨_,rfl⟩
    have hyb1 : -9<=y1/\y1<=9:=by rw[<-hy1];simp only[eq1];(repeat' split)<;>omega
    rw[hy1]at r1
    have w1:IntKind.i64.wrap (y1-1)=y1-1:=IntWalk.i64_in _ (by omega)
    have HS2 : Hid (EqSt w W1.heap.size (W1.heap.size + 1) k m gs (fun i j => (eqR C i j + p).tmod p) (.slice av k cv) #[.int .i64 (xa : Nat), .int .i64 (xb : Nat), .int .i64 (xc : Nat), .int .i64 cd, .bool cp] (eq2 oa ob) (X2.setCell ⟨W1.heap.size + 1, oa, none⟩ (.int .i64 (y1 - 1)))) := HS1.out.set oa (y1 - 1) (eq2 oa ob) (fun j hj => by
     rw[<-hy1]
     by_cases e:j=oa
     · subst e;simp[eq1,eq2]
     · simp[eq1,eq2,e]) (by omega) HVB.out HGB.out
    obtain⟨X3,hX3⟩:∃ X,X=X2.setCell ⟨W1.heap.size+1,oa,none⟩ (.int .i64 (y1 - 1)):=⟨_,rfl⟩
    rw[<-hX3]at HS2
    have hl1:W1.heap.size+1<X2.heap.size:=(HS1.out.row.lt (W1.heap.size+1) rfl).2
    have hb1:=HS1.out.bel.size
    have HQ1:Hid (X3=X2.setCell ⟨W1.heap.size+1,oa,none⟩ (.int .i64 (y1-1))):=hX3
    clear hX3 hy1
    go_upto_region 8 with(fail)
    rw[<-HQ1.out]
    clear c1 d1 r1 z1 w1 HS1 HQ1 hyb1 hl1 hb1
    have c2:X3.cell? ⟨W1.heap.size,2,none⟩=some (.int .i64 (xc:Nat)):=block_cell HS2.out.box rfl
    have d2:X3.cell? ⟨g,xc,none⟩=some (.int .i64 (oc:Nat)):=(HOX.out _ HS2.out.bel).2.2
    have r2:X3.cell? ⟨W1.heap.size+1,oc,none⟩=some (.int .i64 ((eq2 oa ob) oc)):=HS2.out.cell oc hoc
    have z2:X3.frozen? ⟨W1.heap.size+1,oc,none⟩=false:=HS2.out.row.frozenAt oc
    obtain⟨y2,hy2⟩:∃ y:Int,(eq2 oa ob) oc=y:=⟨_,rfl⟩
    have hyb2 : -9<=y2/\y2<=9:=by rw[<-hy2];simp only[eq2];(repeat' split)<;>omega
    rw[hy2]at r2
    have w2:IntKind.i64.wrap (y2-1)=y2-1:=IntWalk.i64_in _ (by omega)
    have HS3 : Hid (EqSt w W1.heap.size (W1.heap.size + 1) k m gs (fun i j => (eqR C i j + p).tmod p) (.slice av k cv) #[.int .i64 (xa : Nat), .int .i64 (xb : Nat), .int .i64 (xc : Nat), .int .i64 cd, .bool cp] (eqF oa ob oc) (X3.setCell ⟨W1.heap.size + 1, oc, none⟩ (.int .i64 (y2 - 1)))) := HS2.out.set oc (y2 - 1) (eqF oa ob oc) (fun j hj => by
     rw[<-hy2]
     by_cases e:j=oc
     · subst e;simp[eq2,eqF]
     · simp[eq2,eqF,e]) (by omega) HVB.out HGB.out
    obtain⟨X4,hX4⟩:∃ X,X=X3.setCell ⟨W1.heap.size+1,oc,none⟩ (.int .i64 (y2 - 1)):=⟨_,rfl⟩
    rw[<-hX4]at HS3
    have hl2:W1.heap.size+1<X3.heap.size:=(HS2.out.row.lt (W1.heap.size+1) rfl).2
    have hb2:=HS2.out.bel.size
    have HQ2:Hid (X4=X3.setCell ⟨W1.heap.size+1,oc,none⟩ (.int .i64 (y2-1))):=hX4
    clear hX4 hy2
    go_upto_region 9 with(fail)
    rw[<-HQ2.out]
    clear c2 d2 r2 z2 w2 HS2 HQ2 hyb2 hl2 hb2
    have HS4:Hid (EqSt w W1.heap.size (W1.heap.size+1) k m gs (fun i j=>(eqR C i j+p).tmod p) (.slice av k cv) #[.int .i64 (xa:Nat),.int .i64 (xb:Nat),.int .i64 (xc:Nat),.int .i64 cd,.bool cp] (fun y=>if y<0 then(eqF oa ob oc y+p).tmod p else eqF oa ob oc y) X4):=(by have e:(fun y=>if y<0 then(eqF oa ob oc y+p).tmod p else eqF oa ob oc y)=eqF oa ob oc:=(by funext j;simp);rw[e];exact HS3.out:EqSt w W1.heap.size (W1.heap.size+1) k m gs (fun i j=>(eqR C i j+p).tmod p) (.slice av k cv) #[.int .i64 (xa:Nat),.int .i64 (xb:Nat),.int .i64 (xc:Nat),.int .i64 cd,.bool cp] (fun y=>if y<0 then(eqF oa ob oc y+p).tmod p else eqF oa ob oc y) X4)
    have hpz:(p:Int)≠0:=by omega
    have hpz2:((p:Int)==0)=false:=by simp;omega
    have hpz3:p≠0:=by omega
    have hdk:decide ((k:Int)<(C.length:Int))=true:=by simp;omega
    have hdk2:decide (k<C.length)=true:=by simp;omega
    clear HS3
    go_wp2
    go_loopw [56] (fun v56 wr=>∃ j:Nat,j<=m/\v56=.int .i64 (j:Nat)/\Hid (EqSt w W1.heap.size (W1.heap.size+1) k m gs (fun i j=>(eqR C i j+p).tmod p) (.slice av k cv) #[.int .i64 (xa:Nat),.int .i64 (xb:Nat),.int .i64 (xc:Nat),.int .i64 cd,.bool cp] (fun y=>if y<j then(eqF oa ob oc y+p).tmod p else eqF oa ob oc y) wr)) (fun v56 _=>m-(intOf v56).toNat)
    case atStart=>exact⟨0,Nat.zero_le _,rfl,HS4.out⟩
    case round=>
     clear HS4
     rename World=>W2
     obtain⟨j,hjm,rfl,hs⟩:=hrel
     have hl2:=hs.out.row.lt (W1.heap.size+1) rfl
     by_cases hjl:j<m
     · have r1:=hs.out.cell j hjl
       rw[if_neg (Nat.lt_irrefl j)]at r1
       have hyb:=eqF_in oa ob oc j
       obtain⟨y,hy⟩:∃ y:Int,eqF oa ob oc j=y:=⟨_,rfl⟩
       rw[hy]at r1 hyb
       have ew1:IntKind.i64.wrap (y+(p:Int))=y+p:=IntWalk.i64_in _ (by omega)
       obtain⟨z,hz⟩:∃ z,(y+(p:Int)).tmod p=z:=⟨_,rfl⟩
       have hzb:0<=z/\z<(p:Int):=by rw[<-hz];exact tmod_in (by omega) (by omega)
       have ew2:IntKind.i64.wrap z=z:=IntWalk.i64_in _ (by omega)
       have z0:W2.frozen? ⟨W1.heap.size+1,j,none⟩=false:=hs.out.row.frozenAt j
       have HN2 : Hid (EqSt w W1.heap.size (W1.heap.size + 1) k m gs (fun i j => (eqR C i j + p).tmod p) (.slice av k cv) #[.int .i64 (xa : Nat), .int .i64 (xb : Nat), .int .i64 (xc : Nat), .int .i64 cd, .bool cp] (fun y => if y < (j + 1) then (eqF oa ob oc y + p).tmod p else eqF oa ob oc y) (W2.setCell ⟨W1.heap.size + 1, j, none⟩ (.int .i64 z))) := hs.out.set j z (fun y => if y < (j + 1) then (eqF oa ob oc y + p).tmod p else eqF oa ob oc y) (fun b hb => by
        by_cases e:b=j
        · subst e;rw[if_pos (by omega),if_pos rfl,hy,hz]
        · rw[if_neg e]
          by_cases h2:b<j
          · rw[if_pos h2,if_pos (by omega)]
          · rw[if_neg h2,if_neg (by omega)]) (by omega) HVB.out HGB.out
       clear hy
       go_wp2
       go_roundw
       case rel=>exact⟨j+1,by omega,by go_num,HN2.out⟩
       case measure=>simp only[intOf];omega
     · obtain rfl:m=j:=by omega
       have HTT:Hid (mapI m (fun y=>if y<m then(eqF oa ob oc y+p).tmod p else eqF oa ob oc y)=mapI m ((fun i j=>(eqR C i j+p).tmod p) k)):=(mapI_congr m _ _ (fun b hb=>by rw[if_pos hb];show _=(eqR C k b+p).tmod p;rw[HEQ.out]):mapI m (fun y=>if y<m then(eqF oa ob oc y+p).tmod p else eqF oa ob oc y)=mapI m ((fun i j=>(eqR C i j+p).tmod p) k))
       have HROW:Hid (W2.ownsRow w.heap.size 3 1 (.slice (some ⟨W1.heap.size+1,0,none⟩) m m) m (intsV (mapI m ((fun i j=>(eqR C i j+p).tmod p) k)))):=(by rw[<-HTT.out];exact hs.out.row:W2.ownsRow w.heap.size 3 1 (.slice (some ⟨W1.heap.size+1,0,none⟩) m m) m (intsV (mapI m ((fun i j=>(eqR C i j+p).tmod p) k))))
       have HTAB:Hid (TabP w.heap.size k m gs (fun i j=>(eqR C i j+p).tmod p) (.slice av k cv) W2):=hs.out.tab
       have HBEL:Hid (Below w.heap.size w W2):=hs.out.bel
       have HON:Hid (∀ u∈[Value.slice (some ⟨W1.heap.size+1,0,none⟩) m m],u.oneCell'=true):=own_oneS hs.out.row
       have hs2:=hs.out.bel.size
       have hdm:decide ((m:Int)<(m:Int))=false:=by simp
       have hdm2:decide (m<m)=false:=by simp
       clear hs
       go_wp2_with (first
        |(at_builtin;refine wpList_append_own _ rfl _ _ 66 rfl w.heap.size 62 i1 (.slice none 0 0) 1 24 Tryz.underlying66 hj hy0 hy1 hy2 rfl (by decide) _ _ _ rfl (HTAB.out.outer.alloc _) ⟨W2.heap.size,0,none⟩ 1 1 [Value.slice (some ⟨W1.heap.size+1,0,none⟩) m m] rfl rfl (new_cell1 _ _ _) HON.out (by unfold maxLen;omega) (by omega) (by simp;omega) ?_;intro v8 w8 hown8 hg8 _;refine Hid.out ?_))
       refine Lib.hid ?_
       have hA:=HTAB.out.outer.alloc (.cells #[Value.slice (some ⟨W1.heap.size+1,0,none⟩) m m] 62)
       have HFIN:Hid (TabP w.heap.size (k+1) m (fun i=>if i=k then W1.heap.size+1 else gs i) (fun i j=>(eqR C i j+p).tmod p) v8 w8/\Below w.heap.size w w8):=⟨(HTAB.out.any (World.grownBy_alloc _ _ none)).more (HROW.out.alloc _) HGB.out hg8 hown8,(HBEL.out.alloc hs2 _).grown hg8 (by simp;omega) (fun q hq=>(hA.lt q hq).1)⟩
       clear hg8 hown8 hA
       obtain⟨a9,c9,rfl⟩:=own_capS HFIN.out.1.outer
       go_wp2
       go_roundw
       case rel=>exact⟨k+1,_,by omega,by go_num,HFIN.out⟩
       case measure=>simp only[intOf];omega
  · obtain rfl:k=C.length:=by omega
    go_wp2
    go_ret
    exact⟨_,gs,rfl,hp1.out.1,hp1.out.2⟩
end Go.Proofs.YtbobljddklldjaaGreatDoor
/- The walk of colour.Fox. -/
namespace Go.Proofs.YtbobljddklldjaaGreatDoor
open Go.RowKit
set_option maxHeartbeats 8000000
set_option maxRecDepth 100000
theorem rk_empty {p m:Nat} {R0:(Nat->Int)->Prop} (h:∀ r,¬ R0 r) (c:Nat) (hc:c<=m):rkTo p m R0 c=0:=by
 induction c with
 |zero=>rfl
 |succ c ih=>
  rw[rkTo_no,ih (by omega)]
  rintro⟨v,hv,hn⟩
  exact hn (sp_col (by omega) (fun r hr=>absurd hr (h r)) hv.1)
noncomputable def foxM (C:List Cr) (loops:Int) (p:Nat):Int:=(ovC C:Int)-(rkTo p (ovC C) (eqAll C) (ovC C):Int)+loops
theorem eq_start (C:List Cr) (p:Nat):Inv p (ovC C) (eqAll C) 0 (restR C.length 0 (fun i j=>(eqR C i j+p).tmod p)):=by
 refine Inv.start ?_ ?_
 · rintro r ⟨i,_,hi,rfl⟩
   refine⟨eqR C i,⟨i,hi,rfl⟩,fun j _=>?_⟩
   have h:=tmod_same (eqR C i j+p) p
   have h2:=Int.dvd_sub h (Int.dvd_refl (p:Int))
   have e:eqR C i j+p-(eqR C i j+p).tmod p-p=eqR C i j-(eqR C i j+p).tmod p:=by omega
   rw[e]at h2
   exact h2
 · rintro r ⟨i,hi,rfl⟩
   refine⟨_,⟨i,Nat.zero_le _,hi,rfl⟩,fun j _=>?_⟩
   have h:=Int.dvd_neg.2 (tmod_same (eqR C i j+p) p)
   have h2:=Int.dvd_add h (Int.dvd_refl (p:Int))
   have e : -(eqR C i j+p-(eqR C i j+p).tmod p)+p=(eqR C i j+p).tmod p-eqR C i j:=by omega
   rw[e]at h2
   exact h2
theorem eq_bound (C:List Cr) {p:Nat} (hp2:2<=p) (i j:Nat):0<=(eqR C i j+p).tmod p/\(eqR C i j+p).tmod p<p:=by
 have h : -2<=eqR C i j:=(eqF_in _ _ _ j).1
 exact tmod_in (by omega) (by omega)
theorem rank_nil (a:Option Addr) (c p:Nat) (w:World):Calls Tryz.prog 28 #[.slice a 0 c,.int .i64 (p:Nat)] w fun e w'=>e=.returned (.int .i64 0)/\Below w.heap.size w w':=by
 have HB:Hid (Below w.heap.size w w):=Below.refl _ _
 go_enter Tryz.func28,Tryz.ntmps28
 go_wp2
 go_ret
 exact⟨rfl,HB.out⟩
theorem rankEq_any (C : List Cr) (p : Nat) (gs : Nat → Nat) (B : Nat) (v : Value) (w : World) (hp : p < 98) (hpr : primeN p = true) (hn : C.length ≤ 16) (hB : B ≤ w.heap.size) (h : TabP B C.length (ovC C) gs (fun i j => (eqR C i j + p).tmod p) v w) :
    Calls Tryz.prog 28 #[v,.int .i64 (p:Nat)] w fun e w'=>e=.returned (.int .i64 (rkTo p (ovC C) (eqAll C) (ovC C):Nat))/\Below B w w':=by
 have hp2:2<=p:=by have:=(Bool.and_eq_true_iff.1 hpr).1;simpa using this
 by_cases h0:0<C.length
 · obtain⟨gt,cap,rfl,hc,hT⟩:=h.whole h0
   exact rank_any B gt cap C.length (ovC C) gs _ p (eqAll C) w hp hpr hn h0 (by have:=ovC_le C;omega) hc (fun i j _ _=>eq_bound C hp2 i j) (eq_start C p) hB hT
 · have e:C.length=0:=by omega
   rw[e]at h
   obtain⟨a,c,rfl⟩:=h.empty
   rw[rk_empty (fun r hr=>by obtain⟨i,hi,_⟩:=hr;omega) _ (Nat.le_refl _)]
   exact(rank_nil a c p w).mono fun e w' h=>⟨h.1,h.2.mono hB⟩
theorem fox_yes (hFR : FaceRingsOk) (v : Value) (C : List Cr) (loops : Int) (p : Nat) (w : World) (hp : p ≤ 97) (hpr : primeN p = true) (hn : noN C loops = 0) (h : Crs w w.heap.size v C) :
    Calls Tryz.prog 12 #[.agg #[v,.int .i64 loops],.int .i64 (p:Nat)] w fun e w'=>e=.returned (.tuple #[.int .i64 (foxM C loops p),.int .i64 0])/\Below w.heap.size w w':=by
 have HC:Hid (Crs w w.heap.size v C):=h
 obtain⟨hm,hpl⟩:=noN_zero hn
 have HM:Hid (mayD C loops=true):=hm
 have HPL:Hid (planarB C=true):=hpl
 have HFA:Hid FaceRingsOk:=hFR
 have HPR:Hid (primeN (p:Int).toNat=true):=(by rw[Int.toNat_natCast];exact hpr:primeN (p:Int).toNat=true)
 have HPN:Hid (primeN p=true):=hpr
 have hp2:2<=p:=by have:=(Bool.and_eq_true_iff.1 hpr).1;simpa using this
 obtain⟨s1,s2,s3,s4⟩:=sizeB_iff (may_size hm)
 obtain⟨a,cap,rfl,-,-⟩:=h
 obtain⟨w0,hw0⟩:∃ w0,w0=w.alloc (.cells #[.slice a C.length cap,.int .i64 loops] 24):=⟨_,rfl⟩
 have HW0:Hid (w0=w.alloc (.cells #[.slice a C.length cap,.int .i64 loops] 24)):=hw0
 have HB1:Hid (Below w.heap.size w w0):=(by rw[hw0];exact(Below.refl _ _).alloc (Nat.le_refl _) _:Below w.heap.size w w0)
 have hs0:w0.heap.size=w.heap.size+1:=by rw[hw0];simp
 have HT0:Hid (w0.heap[w.heap.size]?=some (.cells #[.slice a C.length cap,.int .i64 loops] 24 (0,0))):=(by rw[hw0];exact alloc_at rfl:w0.heap[w.heap.size]?=some (.cells #[.slice a C.length cap,.int .i64 loops] 24 (0,0)))
 have hp97:(p:Int)<=97:=by omega
 have hmc:=ovC_le C
 have hrk:=rkTo_le p (ovC C) (eqAll C) (ovC C)
 obtain⟨rk,hrk'⟩:∃ rk,rkTo p (ovC C) (eqAll C) (ovC C)=rk:=⟨_,rfl⟩
 have HFX:Hid (foxM C loops p=(ovC C:Int)-(rk:Int)+loops):=(by unfold foxM;rw[hrk']:foxM C loops p=(ovC C:Int)-(rk:Int)+loops)
 rw[HFX.out]
 have HRA:Hid (∀ (B:Nat) (gs:Nat->Nat) (v:Value) (w:World),B<=w.heap.size->TabP B C.length (ovC C) gs (fun i j=>(eqR C i j+p).tmod p) v w->Calls Tryz.prog 28 #[v,.int .i64 (p:Nat)] w fun e w'=>e=.returned (.int .i64 (rk:Nat))/\Below B w w'):=fun B gs v w hB hT=>by
  rw[<-hrk']
  exact rankEq_any C p gs B v w (by omega) HPN.out s1 hB hT
 rw[hrk']at hrk
 have HOV:Hid (∀ (W:World) (a':Option Addr) (cap' gF cF gT cT:Nat),Dr W a' cap' C gF gT->Calls Tryz.prog 27 #[drV a' cap' C loops gF cF gT cT] W fun e w'=>∃ g,e=.returned (.tuple #[.slice (some ⟨g,0,none⟩) (2*C.length+1) (2*C.length+1),.int .i64 (ovC C:Nat)])/\w'.ownsRow W.heap.size 3 1 (.slice (some ⟨g,0,none⟩) (2*C.length+1) (2*C.length+1)) (2*C.length+1) (nats (ovTo C (2*C.length+1)))/\Below W.heap.size W w'):=fun W a' cap' gF cF gT cT hW=>overpasses_any a' cap' C loops gF cF gT cT W HM.out hW
 have HEQ:Hid (∀ (W:World) (a':Option Addr) (cap' gF cF gT cT g:Nat),Dr W a' cap' C gF gT->W.ownsRow 0 3 1 (.slice (some ⟨g,0,none⟩) (2*C.length+1) (2*C.length+1)) (2*C.length+1) (nats (ovTo C (2*C.length+1)))->Calls Tryz.prog 29 #[drV a' cap' C loops gF cF gT cT,.slice (some ⟨g,0,none⟩) (2*C.length+1) (2*C.length+1),.int .i64 (ovC C:Nat),.int .i64 (p:Nat)] W fun e w'=>∃ v gs,e=.returned v/\TabP W.heap.size C.length (ovC C) gs (fun i j=>(eqR C i j+p).tmod p) v w'/\Below W.heap.size W w'):=fun W a' cap' gF cF gT cT g hD hO=>equations_any a' cap' C loops gF cF gT cT g p W HM.out hD (by omega) hp2 hO
 unfold drV at HOV HEQ
 obtain⟨m,hmm⟩:∃ m,ovC C=m:=⟨_,rfl⟩
 rw[hmm]at HFX HRA HOV HEQ hmc hrk ⊢
 have ew1:IntKind.i64.wrap ((m:Int)-(rk:Int))=(m:Int)-(rk:Int):=IntWalk.i64_in _ (by omega)
 have ew2:IntKind.i64.wrap ((m:Int)-(rk:Int)+loops)=(m:Int)-(rk:Int)+loops:=IntWalk.i64_in _ (by omega)
 clear hw0 hpr hm hpl hn hFR hmm hrk'
 go_enter Tryz.func12,Tryz.ntmps12
 go_wp2_with (go_at_call 26;rw[<-HW0.out];refine(prime_any (p:Int) _ hp97 (by omega)).mono ?_;rw[HPR.out];rintro e9 w2 ⟨rfl,hb2⟩;refine Hid.out ?_)
 refine Lib.hid ?_
 have HB2:Hid (Below w0.heap.size w0 w2):=hb2
 have t0:w2.cell? ⟨w.heap.size,0,none⟩=some (.slice a C.length cap):=block_cell ((hb2.block _ (by omega)).trans HT0.out) rfl
 have t1:w2.cell? ⟨w.heap.size,1,none⟩=some (.int .i64 loops):=block_cell ((hb2.block _ (by omega)).trans HT0.out) rfl
 have HC2:Hid (Crs w2 w2.heap.size (.slice a C.length cap) C):=(HC.out.up HB1.out).up hb2
 have hs2:=hb2.size
 clear hb2
 go_wp2_with (go_at_call 24;refine(flat_yes HFA.out _ C loops _ HM.out HPL.out HC2.out).mono ?_;rintro e9 w3 ⟨a',cap',gF,cF,gT,cT,rfl,hdr,hb3⟩;refine Hid.out ?_)
 refine Lib.hid ?_
 have HDR:Hid (Dr w3 a' cap' C gF gT):=hdr
 unfold drV
 have HB3:Hid (Below w.heap.size w w3):=HB1.out.trans ((HB2.out.trans (hb3.mono HB2.out.size)).mono HB1.out.size)
 have hs3:=HB3.out.size
 have HBA:Hid (Below w3.heap.size w3 (w3.alloc (.cells #[.slice a' C.length cap',.int .i64 loops,.slice (some ⟨gF,0,none⟩) (2*C.length+1) cF,.slice (some ⟨gT,0,none⟩) (2*C.length+1) cT] 42))):=(Below.refl _ _).alloc (Nat.le_refl _) _
 clear hb3 hdr t0 t1
 go_wp2_with (go_at_call 27;refine(HOV.out _ a' cap' gF cF gT cT (HDR.out.on HBA.out)).mono ?_;rintro e9 w4 ⟨g,rfl,hr4,hb4⟩;refine Hid.out ?_)
 refine Lib.hid ?_
 have HB34:Hid (Below w3.heap.size w3 w4):=HBA.out.trans (hb4.mono (by simp))
 have HR4:Hid (w4.ownsRow 0 3 1 (.slice (some ⟨g,0,none⟩) (2*C.length+1) (2*C.length+1)) (2*C.length+1) (nats (ovTo C (2*C.length+1)))):=own_low hr4 (Nat.zero_le _)
 have hQ:w4.heap[w3.heap.size]?=some (.cells #[.slice a' C.length cap',.int .i64 loops,.slice (some ⟨gF,0,none⟩) (2*C.length+1) cF,.slice (some ⟨gT,0,none⟩) (2*C.length+1) cT] 42 (0,0)):=(hb4.block _ (by simp)).trans (alloc_at rfl)
 have hs4:w3.heap.size<w4.heap.size:=by have:=hb4.size;simp at this;omega
 have HQ:Hid (∀ W,Below w4.heap.size w4 W->W.cell? ⟨w3.heap.size,0,none⟩=some (.slice a' C.length cap')/\W.cell? ⟨w3.heap.size,1,none⟩=some (.int .i64 loops)/\W.cell? ⟨w3.heap.size,2,none⟩=some (.slice (some ⟨gF,0,none⟩) (2*C.length+1) cF)/\W.cell? ⟨w3.heap.size,3,none⟩=some (.slice (some ⟨gT,0,none⟩) (2*C.length+1) cT)):=fun W hW=>by
  have q:=(hW.block _ hs4).trans hQ
  exact⟨block_cell q rfl,block_cell q rfl,block_cell q rfl,block_cell q rfl⟩
 have HD4:Hid (Dr w4 a' cap' C gF gT):=HDR.out.on HB34.out
 obtain⟨q0,q1,q2,q3⟩:=HQ.out w4 (Below.refl _ _)
 clear hb4 hr4 hQ
 have HD0:Hid (Below w4.heap.size w4 w4.drew):=(Below.refl _ _).drew
 have HRD:Hid (w4.drew.ownsRow 0 3 1 (.slice (some ⟨g,0,none⟩) (2*C.length+1) (2*C.length+1)) (2*C.length+1) (nats (ovTo C (2*C.length+1)))):=own_any HR4.out (grown_below ((Below.refl _ _).drew) none)
 go_wp2
 go_region_held3 (fun w' => w'.cell? ⟨w3.heap.size, 0, none⟩ = some (.slice a' C.length cap') ∧ w'.cell? ⟨w3.heap.size, 1, none⟩ = some (.int .i64 loops) ∧ w'.cell? ⟨w3.heap.size, 2, none⟩ = some (.slice (some ⟨gF, 0, none⟩) (2 * C.length + 1) cF) ∧ w'.cell? ⟨w3.heap.size, 3, none⟩ = some (.slice (some ⟨gT, 0, none⟩) (2 * C.length + 1) cT)) (first | exact HQ.out _ H6.out | exact HQ.out _ H5.out | exact HQ.out _ HD0.out | exact HQ.out _ (Below.refl _ _)) (first
  | (go_at_call 28; have hAA := H5; clear hAA; refine (HRA.out w4.drew.heap.size gs v5 w5 hsz5 HT5.out).mono ?_; rintro e9 w6 ⟨rfl, hb6⟩
     have H6:Hid (Below w4.heap.size w4 w6):=H5.out.trans hb6
     clear hb6)
  | (go_at_call 29; refine (HEQ.out w4.drew a' cap' gF cF gT cT g (HD4.out.on HD0.out) HRD.out).mono ?_; rintro e9 w5 ⟨v5, gs, rfl, ht5, hb5⟩
     have H5:Hid (Below w4.heap.size w4 w5):=HD0.out.trans (hb5.mono HD0.out.size)
     have HT5:Hid (TabP w4.drew.heap.size C.length m gs (fun i j=>(eqR C i j+p).tmod p) v5 w5):=ht5
     have hsz5:w4.drew.heap.size<=w5.heap.size:=hb5.size
     clear hb5 ht5))
 all_goals
  go_wp2
  go_ret2
  exact⟨rfl,HB3.out.trans ((HB34.out.trans (H6.out.mono HB34.out.size)).mono HB3.out.size)⟩
end Go.Proofs.YtbobljddklldjaaGreatDoor

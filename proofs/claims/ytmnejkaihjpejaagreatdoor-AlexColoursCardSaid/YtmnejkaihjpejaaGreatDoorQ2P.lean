/- Several texts of the proof, one behind the other. -/
import Derived.Test.YtmnejkaihjpejaaGreatDoorMoP
/- Tables of numbers whose rows lie in blocks of their own; the walk of colour.clearBelow. -/
namespace Go.Proofs.YtmnejkaihjpejaaGreatDoor
open Go.RowKit
set_option maxHeartbeats 16000000
set_option maxRecDepth 100000
def hdr (n m:Nat) (gs:Nat->Nat):List Value:=(List.range n).map fun i=>.slice (some ⟨gs i,0,none⟩) m m
theorem hdr_len (n m:Nat) (gs:Nat->Nat):(hdr n m gs).length=n:=by simp[hdr]
theorem hdr_get (n m:Nat) (gs:Nat->Nat) (i:Nat) (h:i<n):(hdr n m gs)[i]?=some (.slice (some ⟨gs i,0,none⟩) m m):=by simp[hdr,h]
theorem hdr_ext {n m:Nat} {gs:Nat->Nat} {l:List Value} (hl:l.length=n) (h:∀ i,i<n->l[i]?=some (.slice (some ⟨gs i,0,none⟩) m m)):l=hdr n m gs:=by
 apply List.ext_getElem?
 intro j
 by_cases hj:j<n
 · rw[h j hj,hdr_get n m gs j hj]
 · rw[List.getElem?_eq_none (by omega),List.getElem?_eq_none (by rw[hdr_len];omega)]
structure TabO (B gt cap n m:Nat) (gs:Nat->Nat) (T:Nat->Nat->Int) (W:World):Prop where
 outer:W.ownsRow B 26 1 (.slice (some ⟨gt,0,none⟩) n cap) n (hdr n m gs)
 rows:∀ i,i<n->W.ownsRow B 3 1 (.slice (some ⟨gs i,0,none⟩) m m) m (intsV (mapI m (T i)))
 inj:∀ i j,i<n->j<n->gs i=gs j->i=j
theorem TabO.any {B gt cap n m:Nat} {gs:Nat->Nat} {T:Nat->Nat->Int} {W W':World} (h:TabO B gt cap n m gs T W) (hg:W.grownBy W' none):TabO B gt cap n m gs T W':=
 ⟨own_any h.outer hg,fun i hi=>own_any (h.rows i hi) hg,h.inj⟩
theorem TabO.cellO {B gt cap n m:Nat} {gs:Nat->Nat} {T:Nat->Nat->Int} {W:World} (h:TabO B gt cap n m gs T W) (i:Nat) (hi:i<n):W.cell? ⟨gt,i,none⟩=some (.slice (some ⟨gs i,0,none⟩) m m):=by
 rw[h.outer.cellAt i (by omega),hdr_get n m gs i hi]
theorem TabO.cellR {B gt cap n m:Nat} {gs:Nat->Nat} {T:Nat->Nat->Int} {W:World} (h:TabO B gt cap n m gs T W) (i j:Nat) (hi:i<n) (hj:j<m):W.cell? ⟨gs i,j,none⟩=some (.int .i64 (T i j)):=by
 rw[(h.rows i hi).cellAt j (by omega),intsV_get _ j (by rw[mapI_len];exact hj),mapI_at _ _ _ hj]
theorem TabO.set {B gt cap n m : Nat} {gs : Nat → Nat} {T T' : Nat → Nat → Int} {W : World} (h : TabO B gt cap n m gs T W) (i j : Nat) (x : Int) (hi : i < n) (hT : ∀ a b, a < n → b < m → T' a b = if a = i ∧ b = j then x else T a b) :
    TabO B gt cap n m gs T' (W.setCell ⟨gs i,j,none⟩ (.int .i64 x))/\W.grownBy (W.setCell ⟨gs i,j,none⟩ (.int .i64 x)) (some (gs i)):=by
 have hst:=(h.rows i hi).stored j (.int .i64 x)
 rw[intsV_set]at hst
 refine⟨⟨h.outer.kept hst.2 (own_ne h.outer (h.rows i hi) (by decide)),fun a ha=>?_,h.inj⟩,hst.2⟩
 by_cases e:a=i
 · subst e
   rw[mapI_set m (T a) (T' a) j x (fun b hb=>by rw[hT a b ha hb];by_cases e:b=j<;>simp[e])]at hst
   exact hst.1
 · have hr:=(h.rows a ha).kept hst.2 (Or.inr (fun q=>e (h.inj a i ha hi (Option.some.inj q))))
   rw[mapI_congr m (T' a) (T a) (fun b hb=>by rw[hT a b ha hb,if_neg (fun q=>e q.1)])]
   exact hr
theorem TabO.congr {B gt cap n m:Nat} {gs:Nat->Nat} {T T':Nat->Nat->Int} {W:World} (h:TabO B gt cap n m gs T W) (e:∀ x y,x<n->y<m->T' x y=T x y):TabO B gt cap n m gs T' W:=
 ⟨h.outer,fun i hi=>by rw[mapI_congr m (T' i) (T i) (fun y hy=>e i y hi hy)];exact h.rows i hi,h.inj⟩
def swq (a b i:Nat):Nat:=if i=a then b else if i=b then a else i
theorem swp_lt {a b i n:Nat} (ha:a<n) (hb:b<n) (hi:i<n):swq a b i<n:=by unfold swq;split;exact hb;split;exact ha;exact hi
theorem swq_swq (a b i:Nat):swq a b (swq a b i)=i:=by
 unfold swq
 by_cases h1:i=a
 · simp[h1]
 · by_cases h2:i=b
   · simp[h2]
   · simp[h1,h2]
theorem TabO.swap {B gt cap n m : Nat} {gs : Nat → Nat} {T : Nat → Nat → Int} {W : World} (h : TabO B gt cap n m gs T W) (a b : Nat) (ha : a < n) (hb : b < n) :
    TabO B gt cap n m (fun i=>gs (swq a b i)) (fun i=>T (swq a b i)) ((W.setCell ⟨gt,a,none⟩ (.slice (some ⟨gs b,0,none⟩) m m)).setCell ⟨gt,b,none⟩ (.slice (some ⟨gs a,0,none⟩) m m))/\W.grownBy ((W.setCell ⟨gt,a,none⟩ (.slice (some ⟨gs b,0,none⟩) m m)).setCell ⟨gt,b,none⟩ (.slice (some ⟨gs a,0,none⟩) m m)) (some gt):=by
 have h1:=h.outer.stored a (.slice (some ⟨gs b,0,none⟩) m m)
 have h2:=h1.1.stored b (.slice (some ⟨gs a,0,none⟩) m m)
 have hg:=grown_trans h1.2 h2.2
 refine⟨⟨?_,fun i hi=>?_,fun i j hi hj e=>?_⟩,hg⟩
 · have e : ((hdr n m gs).set a (.slice (some ⟨gs b, 0, none⟩) m m)).set b (.slice (some ⟨gs a, 0, none⟩) m m) = hdr n m (fun i => gs (swq a b i)) := by
     refine hdr_ext (by simp[hdr_len]) fun i hi=>?_
     simp only[List.getElem?_set,List.length_set,hdr_len]
     unfold swq
     by_cases e1:b=i
     · subst e1
       simp[hb]
       by_cases e2:b=a
       · simp[e2]
       · simp[e2]
     · by_cases e2:a=i
       · subst e2
         simp[e1,ha]
       · simp[e1,e2,Ne.symm e1,Ne.symm e2,hdr_get n m gs i hi]
   rw[<-e]
   exact h2.1
 · exact(h.rows _ (swp_lt ha hb hi)).kept hg (own_ne (h.rows _ (swp_lt ha hb hi)) h.outer (by decide))
 · have:=h.inj _ _ (swp_lt ha hb hi) (swp_lt ha hb hj) e
   rw[<-swq_swq a b i,this,swq_swq]
theorem clearBelow_any (B gt cap n m : Nat) (gs : Nat → Nat) (T : Nat → Nat → Int) (d c p : Nat) (w : World) (hp : p < 98) (hpr : primeN p = true) (hn : n ≤ 16) (hm : m ≤ 40) (hd : d < n) (hc : c < m) (hcap : n ≤ cap)
    (hT:∀ i j,i<n->j<m->0<=T i j/\T i j<p) (h0:T d c≠0) (hB:B<=w.heap.size) (h:TabO B gt cap n m gs T w):
    Calls Tryz.prog 41 #[.slice (some ⟨gt,d,none⟩) (n-d) (cap-d),.int .i64 (c:Nat),.int .i64 (p:Nat)] w fun e w'=>e=.returned (.tuple #[])/\∃ T',TabO B gt cap n m gs T' w'/\(∀ i j,i<=d->j<m->T' i j=T i j)/\
     (∀ i,d<i->i<n->T' i c=0/\(∀ j,j<m->0<=T' i j/\T' i j<p)/\∃ k:Int,∀ j,j<m->(p:Int) ∣ (T i j+k*T d j)-T' i j)/\Below B w w':=by
 have HT:Hid (TabO B gt cap n m gs T w):=h
 have HTB:Hid (∀ i j,i<n->j<m->0<=T i j/\T i j<p):=hT
 have t0:=h.cellO d hd
 have hgt:=(h.outer.lt gt rfl).2
 obtain⟨e,he⟩:∃ e,n - d=e+1:=⟨n - d - 1,by omega⟩
 obtain⟨f,hf⟩:∃ f,cap - d=f+1:=⟨cap - d - 1,by omega⟩
 have HE:Hid (n=d+1+e/\e<=f):=(by omega:n=d+1+e/\e<=f)
 have he16:e<=16:=by omega
 have HP0:Hid (Below B w w):=Below.refl _ _
 have hbB:B<=gt:=(h.outer.lt gt rfl).1
 rw[he,hf]
 have hp2:2<=p:=by have:=(Bool.and_eq_true_iff.1 hpr).1;simpa using this
 have HPR:Hid (primeN p=true):=hpr
 have HTD:Hid (∃ a:Nat,T d c=(a:Int)/\a<p/\a≠0):=⟨(T d c).toNat,by have:=hT d c hd hc;omega,by have:=hT d c hd hc;omega,by have:=hT d c hd hc;omega⟩
 clear h he hf hT hpr
 by_cases hf0:f=0
 · obtain rfl:e=0:=by have:=HE.out.2;omega
   subst hf0
   go_enter Tryz.func41,Tryz.ntmps41
   go_wp2
   go_loopw [17] (fun v17 wr=>v17=.int .i64 0/\Hid (wr=w)) (fun v17 _=>0)
   case atStart=>exact⟨rfl,(rfl:w=w)⟩
   case round=>
    rename World=>W1
    obtain⟨rfl,hw⟩:=hrel
    go_wp2
    have e9:W1=w:=hw.out
    subst e9
    exact bodyPost_end (v:=.tuple #[]) (by simp[results,Tryz.results41]) rfl ⟨rfl,T,HT.out,fun _ _ _ _=>rfl,fun i h1 h2=>by have:=HE.out;omega,HP0.out⟩
 · have hfn:f≠0:=hf0
   go_enter Tryz.func41,Tryz.ntmps41
   go_wp2
   go_loopw [17] (fun v17 wr=>∃ k:Nat,k<=e/\v17=.int .i64 (k:Nat)/\Hid (∃ T1,TabO B gt cap n m gs T1 wr/\(∀ i j,i<n->j<m->i<=d∨d+1+k<=i->T1 i j=T i j)/\(∀ i,d<i->i<d+1+k->T1 i c=0/\(∀ j,j<m->0<=T1 i j/\T1 i j<p)/\∃ k:Int,∀ j,j<m->(p:Int) ∣ (T i j+k*T d j)-T1 i j)/\Below B w wr)) (fun v17 _=>e-(intOf v17).toNat)
   case atStart=>exact⟨0,Nat.zero_le _,rfl,T,HT.out,fun _ _ _ _ _=>rfl,fun i h1 h2=>by omega,HP0.out⟩
   case round=>
    clear HT HP0 t0
    rename World=>W1
    obtain⟨k,hke,rfl,hp1⟩:=hrel
    obtain⟨T1,hT1,hsame,hgood,hbel⟩:=hp1.out
    by_cases hkl:k<e
    · obtain⟨r,hr⟩:∃ r,r=d+1+k:=⟨_,rfl⟩
      have HRR:Hid (r=d+1+k):=hr
      have hrn:r<n:=by have:=HE.out.1;omega
      have t1:=hT1.cellO r hrn
      rw[hr]at t1
      have t2:=hT1.cellR r c hrn hc
      have t3:=hT1.cellR d c hd hc
      have hgl:=(hT1.outer.lt gt rfl).2
      have hgr:=(hT1.rows r hrn).lt (gs r) rfl
      have hgd:=(hT1.rows d hd).lt (gs d) rfl
      obtain⟨a,ha1,ha2,ha3⟩:=HTD.out
      rw[hsame d c hd hc (Or.inl (Nat.le_refl _)),ha1]at t3
      have hx:=HTB.out r c hrn hc
      rw[hsame r c hrn hc (Or.inr (by omega))]at t2
      obtain⟨x,hxx⟩:∃ x,T r c=x:=⟨_,rfl⟩
      rw[hxx]at t2 hx
      have HXX:Hid (T r c=x):=hxx
      have HAA:Hid (T d c=(a:Int)):=ha1
      have HT1:Hid (TabO B gt cap n m gs T1 W1):=hT1
      have HSA:Hid (∀ i j,i<n->j<m->i<=d∨d+1+k<=i->T1 i j=T i j):=hsame
      have HGO:Hid (∀ i,d<i->i<d+1+k->T1 i c=0/\(∀ j,j<m->0<=T1 i j/\T1 i j<p)/\∃ k:Int,∀ j,j<m->(p:Int) ∣ (T i j+k*T d j)-T1 i j):=hgood
      have HBE:Hid (Below B w W1):=hbel
      have ew1:IntKind.i64.wrap ((p:Int)-x)=(p:Int)-x:=IntWalk.i64_in _ (by omega)
      have hpz:(p:Int)≠0:=by omega
      have hpz2:((p:Int)==0)=false:=by simp;omega
      have hpz3:p≠0:=by omega
      have hpz4:(p==0)=false:=by simp;omega
      have HFR:Hid (∀ w',Below W1.heap.size W1 w'->w'.cell? ⟨gs (d+1+k),c,none⟩=some (.int .i64 x)/\w'.cell? ⟨gs d,c,none⟩=some (.int .i64 (a:Nat))):=fun w' hb=>by
       rw[<-HRR.out]
       exact⟨bcell hb hgr.2 t2,bcell hb hgd.2 t3⟩
      have HD1:Hid (Below W1.heap.size W1 W1.drew):=(Below.refl _ _).drew
      have HIV:Hid (∀ W,Calls Tryz.prog 67 #[.int .i64 (a:Nat),.int .i64 (p:Nat)] W fun e w'=>∃ b:Nat,e=.returned (.int .i64 (b:Nat))/\b<p/\a*b%p=1/\Below W.heap.size W w'):=fun W=>inverse_any a p W hp HPR.out ha2 ha3
      clear hsame hgood hbel hT1 hp1 hr hxx ha1
      rw[HRR.out]at hgr hrn t2
      go_wp2
      go_region_held3 (fun w' => w'.cell? ⟨gs (d + 1 + k), c, none⟩ = some (.int .i64 x) ∧ w'.cell? ⟨gs d, c, none⟩ = some (.int .i64 (a : Nat))) (first | exact HFR.out _ H5.out | exact HFR.out _ HD1.out) (first
       | (go_at_call 67; refine (HIV.out W1.drew).mono ?_; rintro e9 w5 ⟨b, rfl, hb1, hb2, hb5⟩
          have H5:Hid (Below W1.heap.size W1 w5):=HD1.out.trans (hb5.mono HD1.out.size)
          have hb2':Hid (a*b%p=1):=hb2
          obtain⟨z,hz⟩:∃ z,((p:Int) - x)*(b:Int)=z:=⟨_,rfl⟩
          have HZ:Hid (((p:Int)-x)*(b:Int)=z):=hz
          have hz0:0<=z:=by rw[<-hz];exact Int.mul_nonneg (by omega) (by omega)
          have hz1:z<=98*98:=by rw[<-hz];exact Int.mul_le_mul (by omega) (by omega) (by omega) (by omega)
          have ew2:IntKind.i64.wrap (((p:Int)-x)*(b:Int))=z:=by rw[hz];exact IntWalk.i64_in _ (by omega)
          have ew3:IntKind.i64.wrap z=z:=IntWalk.i64_in _ (by omega)
          obtain⟨t,ht⟩:∃ t,z.tmod (p:Int)=t:=⟨_,rfl⟩
          have HTT:Hid (z.tmod (p:Int)=t):=ht
          have htb:0<=t/\t<(p:Int):=by rw[<-ht];exact tmod_in (by omega) hz0
          have ew4:IntKind.i64.wrap t=t:=IntWalk.i64_in _ (by omega)
          have HDV : Hid ((p : Int) ∣ x + t * a) := (by
           have d1:(p:Int) ∣ z-t:=by rw[<-ht];exact tmod_same z p
           have d2:(p:Int) ∣ (a:Int)*b-1:=by
            refine⟨((a*b / p:Nat):Int),?_⟩
            have q:=Nat.div_add_mod (a*b) p
            rw[hb2]at q
            have q2:((p*(a*b / p)+1:Nat):Int)=((a*b:Nat):Int):=by rw[q]
            push_cast at q2
            push_cast
            omega
           have d3:(p:Int) ∣ (z-t)*a:=Int.dvd_mul_of_dvd_left d1
           have d4:(p:Int) ∣ ((p:Int)-x)*((a:Int)*b-1):=Int.dvd_mul_of_dvd_right d2
           have d5:=Int.dvd_sub d4 d3
           have e1:((p:Int)-x)*((a:Int)*b-1)-(z-t)*a=x+t*a-p:=by
            rw[<-hz,Int.mul_sub,Int.sub_mul _ t,Int.mul_one]
            have e2:((p:Int)-x)*((a:Int)*b)=((p:Int)-x)*b*a:=by rw[Int.mul_assoc,Int.mul_comm (b:Int) a]
            rw[e2];omega
           rw[e1]at d5
           have d6:=Int.dvd_add d5 (Int.dvd_refl (p:Int))
           have e3:x+t*a-p+p=x+t*a:=by omega
           rw[e3]at d6;exact d6:(p:Int) ∣ x+t*a)
          clear hb5 hz hb2))
      have HT5:Hid (TabO B gt cap n m gs (fun a b=>if a=d+1+k/\b<0 then(T (d+1+k) b+t*T d b).tmod p else T1 a b) w5/\Below B w w5):=⟨(HT1.out.any (grown_below H5.out none)).congr (fun a b _ _=>by simp),HBE.out.trans (H5.out.mono (by have:=HBE.out.size;omega))⟩
      have HTN:Hid (∀ a b,a<n->b<m->a≠d+1+k∨True->True):=fun _ _ _ _ _=>trivial
      clear HTN ew2 ew3 ew4 ht HZ HTT hz0 hz1 H5 HFR HD1 HIV HT1 t1 t2 t3 hb2' hb1 ew1
      go_wp2
      go_loopw [38] (fun v38 wr=>∃ j:Nat,j<=m/\v38=.int .i64 (j:Nat)/\Hid (TabO B gt cap n m gs (fun a b=>if a=d+1+k/\b<j then(T (d+1+k) b+t*T d b).tmod p else T1 a b) wr/\Below B w wr)) (fun v38 _=>m-(intOf v38).toNat)
      case atStart=>exact⟨0,Nat.zero_le _,rfl,HT5.out⟩
      case round=>
       clear HT5
       rename World=>W2
       obtain⟨j,hjm,rfl,hq⟩:=hrel
       by_cases hjl:j<m
       · have c1:=hq.out.1.cellR (d+1+k) j hrn hjl
         have c2:=hq.out.1.cellR d j hd hjl
         rw[if_neg (by omega),HSA.out _ _ hrn hjl (Or.inr (by omega))]at c1
         rw[if_neg (by omega),HSA.out _ _ hd hjl (Or.inl (Nat.le_refl _))]at c2
         have hu:=HTB.out (d+1+k) j hrn hjl
         have hv:=HTB.out d j hd hjl
         obtain⟨u,hu'⟩:∃ u,T (d+1+k) j=u:=⟨_,rfl⟩
         obtain⟨y,hy'⟩:∃ y,T d j=y:=⟨_,rfl⟩
         rw[hu']at c1 hu
         rw[hy']at c2 hv
         obtain⟨ty,hty⟩:∃ ty,t*y=ty:=⟨_,rfl⟩
         have hz0:0<=ty:=by rw[<-hty];exact Int.mul_nonneg (by omega) (by omega)
         have hz1:ty<=98*98:=by rw[<-hty];exact Int.mul_le_mul (by omega) (by omega) (by omega) (by omega)
         have ew2:IntKind.i64.wrap (t*y)=ty:=by rw[hty];exact IntWalk.i64_in _ (by omega)
         have ew3:IntKind.i64.wrap (u+ty)=u+ty:=IntWalk.i64_in _ (by omega)
         obtain⟨v,hv'⟩:∃ v,(u+ty).tmod (p:Int)=v:=⟨_,rfl⟩
         have hvb:0<=v/\v<(p:Int):=by rw[<-hv'];exact tmod_in (by omega) (by omega)
         have ew4:IntKind.i64.wrap v=v:=IntWalk.i64_in _ (by omega)
         have hset := hq.out.1.set (T' := (fun a b => if a = d + 1 + k ∧ b < (j + 1) then (T (d + 1 + k) b + t * T d b).tmod p else T1 a b)) (d + 1 + k) j v hrn (fun a b ha hb => by
          show(if a=d+1+k/\b<j+1 then _ else _)=_
          by_cases h1:a=d+1+k/\b=j
          · rw[if_pos ⟨h1.1,by omega⟩,if_pos h1,h1.2,hu',hy',hty,hv']
          · rw[if_neg h1]
            by_cases h2:a=d+1+k/\b<j+1
            · rw[if_pos h2,if_pos ⟨h2.1,by have:b≠j:=fun e=>h1 ⟨h2.1,e⟩;omega⟩]
            · rw[if_neg h2,if_neg (fun z=>h2 ⟨z.1,by omega⟩)])
         have hgk:=(hq.out.1.rows (d+1+k) hrn).lt (gs (d+1+k)) rfl
         have HST:Hid (TabO B gt cap n m gs (fun a b=>if a=d+1+k/\b<(j+1) then(T (d+1+k) b+t*T d b).tmod p else T1 a b) (W2.setCell ⟨gs (d+1+k),j,none⟩ (.int .i64 v)).drew/\Below B w (W2.setCell ⟨gs (d+1+k),j,none⟩ (.int .i64 v)).drew):=⟨hset.1.any (grown_below ((Below.refl _ _).drew) none),Below.drew <| hq.out.2.grown hset.2 (by have:=hq.out.2.size;omega) (fun q hq=>by have:=Option.some.inj hq;omega)⟩
         have z0:W2.frozen? ⟨gs (d+1+k),j,none⟩=false:=(hq.out.1.rows (d+1+k) hrn).frozenAt j
         clear hset hu' hy' hty
         go_wp2
         apply cut_one
         case h=>
          intro key
          go_region_with (fail)
          all_goals exact key.out
         go_wp2
         go_roundw
         case rel=>exact⟨j+1,by omega,by go_num,HST.out⟩
         case measure=>simp only[intOf];omega
       · obtain rfl:j=m:=by omega
         go_wp2
         go_roundw
         case rel=>
          refine⟨k+1,by omega,by go_num,(fun a b=>if a=d+1+k/\b<j then(T (d+1+k) b+t*T d b).tmod p else T1 a b),hq.out.1,fun i j' h1 h2 h3=>?_,fun i h1 h2=>?_,hq.out.2⟩
          · show(if i=d+1+k/\j'<j then _ else _)=_
            rw[if_neg (by omega),HSA.out i j' h1 h2 (by omega)]
          · by_cases hik:i=d+1+k
            · subst hik
              refine⟨?_,fun j' hj'=>?_,t,fun j' hj'=>?_⟩
              · show(if d+1+k=d+1+k/\c<j then _ else _)=_
                rw[if_pos ⟨rfl,hc⟩,HAA.out,<-HRR.out,HXX.out]
                exact(tmod_zero _ p).2 HDV.out
              · show 0<=(if d+1+k=d+1+k/\j'<j then _ else _)/\(if d+1+k=d+1+k/\j'<j then _ else _)<_
                rw[if_pos ⟨rfl,hj'⟩]
                have b1:=HTB.out (d+1+k) j' hrn hj'
                have b2:=HTB.out d j' hd hj'
                exact tmod_in (by omega) (by have:=Int.mul_nonneg htb.1 b2.1;omega)
              · show _ ∣ _-(if d+1+k=d+1+k/\j'<j then _ else _)
                rw[if_pos ⟨rfl,hj'⟩]
                exact tmod_same _ p
            · have g:=HGO.out i h1 (by omega)
              have e:∀ b,(fun a b=>if a=d+1+k/\b<j then(T (d+1+k) b+t*T d b).tmod p else T1 a b) i b=T1 i b:=fun b=>by
               show(if i=d+1+k/\b<j then _ else _)=_
               rw[if_neg (fun z=>hik z.1)]
              obtain⟨g1,g2,q,g3⟩:=g
              exact⟨by rw[e];exact g1,fun j' hj'=>by rw[e];exact g2 j' hj',q,fun j' hj'=>by rw[e];exact g3 j' hj'⟩
         case measure=>simp only[intOf];omega
    · obtain rfl:k=e:=by omega
      go_wp2
      exact bodyPost_end (v:=.tuple #[]) (by simp[results,Tryz.results41]) rfl ⟨rfl,T1,hT1,fun i j h1 h2=>hsame i j (by omega) h2 (Or.inl h1),fun i h1 h2=>hgood i h1 (by have:=HE.out.1;omega),hbel⟩
end Go.Proofs.YtmnejkaihjpejaaGreatDoor
/- The walk of colour.rank. -/
namespace Go.Proofs.YtmnejkaihjpejaaGreatDoor
open Go.RowKit
set_option maxHeartbeats 16000000
set_option maxRecDepth 100000
def restR (n done:Nat) (T:Nat->Nat->Int):(Nat->Int)->Prop:=fun r=>∃ i,done<=i/\i<n/\r=T i
theorem rest_swap {p m n done c q:Nat} {R0:(Nat->Int)->Prop} {T:Nat->Nat->Int} (hq:done<=q) (hqn:q<n) (h:Inv p m R0 c (restR n done T)):Inv p m R0 c (restR n done (fun i=>T (swq done q i))):=fun v=>by
 have key:restR n done (fun i=>T (swq done q i))=restR n done T:=by
  funext r
  apply propext
  have hsw:∀ i,done<=i->i<n->done<=swq done q i/\swq done q i<n:=fun i h1 h2=>by
   unfold swq;split
   · omega
   · split<;>omega
  constructor
  · rintro⟨i,h1,h2,rfl⟩
    exact⟨swq done q i,(hsw i h1 h2).1,(hsw i h1 h2).2,rfl⟩
  · rintro⟨i,h1,h2,rfl⟩
    exact⟨swq done q i,(hsw i h1 h2).1,(hsw i h1 h2).2,by show T i=T (swq done q (swq done q i));rw[swq_swq]⟩
 rw[key]
 exact h v
theorem rest_piv {p m n done c : Nat} {R0 : (Nat → Int) → Prop} {T T' : Nat → Nat → Int} (hp : p < 98) (hpr : primeN p = true) (hc : c < m) (hd : done < n) (h : Inv p m R0 c (restR n done T)) (h0 : ¬ (p : Int) ∣ T done c)
    (hg:∀ i,done<i->i<n->T' i c=0/\∃ k:Int,∀ j,j<m->(p:Int) ∣ (T i j+k*T done j)-T' i j):Inv p m R0 (c+1) (restR n (done+1) T'):=by
 obtain⟨b,hb⟩:=inv_int hp hpr (T done c) h0
 refine h.piv hc (T done) ⟨done,Nat.le_refl _,hd,rfl⟩ b hb ?_ ?_
 · rintro r' ⟨i,h1,h2,rfl⟩
   obtain⟨g1,k,g2⟩:=hg i (by omega) h2
   exact⟨by rw[g1];exact Int.dvd_zero _,T i,k,⟨i,by omega,h2,rfl⟩,g2⟩
 · rintro r ⟨i,h1,h2,rfl⟩
   by_cases e:i=done
   · subst e;exact Or.inl rfl
   · obtain⟨g1,k,g2⟩:=hg i (by omega) h2
     refine Or.inr ⟨T' i,-k,⟨i,by omega,h2,rfl⟩,fun j hj=>?_⟩
     have d:=Int.dvd_neg.2 (g2 j hj)
     have e2 : -(T i j+k*T done j-T' i j)=T' i j + -k*T done j-T i j:=by rw[Int.neg_mul];omega
     rw[e2]at d
     exact d
theorem rank_any (B gt cap n m : Nat) (gs : Nat → Nat) (T : Nat → Nat → Int) (p : Nat) (R0 : (Nat → Int) → Prop) (w : World) (hp : p < 98) (hpr : primeN p = true) (hn : n ≤ 16) (hn1 : 1 ≤ n) (hm : m ≤ 40) (hcap : n ≤ cap)
    (hT:∀ i j,i<n->j<m->0<=T i j/\T i j<p) (hI:Inv p m R0 0 (restR n 0 T)) (hB:B<=w.heap.size) (h:TabO B gt cap n m gs T w):
    Calls Tryz.prog 19 #[.slice (some ⟨gt,0,none⟩) n cap,.int .i64 (p:Nat)] w fun e w'=>e=.returned (.int .i64 (rkTo p m R0 m:Nat))/\Below B w w':=by
 have t0:=h.cellO 0 (by omega)
 have hgt:=h.outer.lt gt rfl
 have HP:Hid (∃ gs T,TabO B gt cap n m gs T w/\(∀ i j,i<n->j<m->0<=T i j/\T i j<p)/\Inv p m R0 0 (restR n 0 T)/\Below B w w):=⟨gs,T,h,hT,hI,Below.refl _ _⟩
 have HPR:Hid (primeN p=true):=hpr
 have hp2:2<=p:=by have:=(Bool.and_eq_true_iff.1 hpr).1;simpa using this
 have hn0:(n==0)=false:=by simp;omega
 have hn0':n≠0:=by omega
 have hn0'':((n:Int)==0)=false:=by simp;omega
 clear h hT hI hpr
 go_enter Tryz.func19,Tryz.ntmps19
 go_wp2
 go_loopw [5,16] (fun v5 v16 wr=>∃ c:Nat,c<=m/\v16=.int .i64 (c:Nat)/\v5=.int .i64 (rkTo p m R0 c:Nat)/\Hid (∃ gs T,TabO B gt cap n m gs T wr/\(∀ i j,i<n->j<m->0<=T i j/\T i j<p)/\Inv p m R0 c (restR n (rkTo p m R0 (c)) T)/\rkTo p m R0 (c)<=n/\Below B w wr)) (fun _ v16 _=>m-(intOf v16).toNat)
 case atStart=>exact⟨0,Nat.zero_le _,rfl,rfl,(by obtain⟨gs,T,h1,h2,h3,h4⟩:=HP.out;exact⟨gs,T,h1,h2,h3,Nat.zero_le _,h4⟩:∃ gs T,TabO B gt cap n m gs T w/\(∀ i j,i<n->j<m->0<=T i j/\T i j<p)/\Inv p m R0 0 (restR n (rkTo p m R0 (0)) T)/\rkTo p m R0 (0)<=n/\Below B w w)⟩
 case round=>
  clear HP t0
  rename World=>W1
  obtain⟨c,hcm,rfl,rfl,hp1⟩:=hrel
  by_cases hcl:c<m
  · obtain⟨gs,T,hTab,hT,hI,hdn,hbel⟩:=hp1.out
    obtain⟨dn,hdd⟩:∃ dn,rkTo p m R0 c=dn:=⟨_,rfl⟩
    have HDN:Hid (rkTo p m R0 c=dn):=hdd
    rw[hdd]at hI hdn ⊢
    have HTab:Hid (TabO B gt cap n m gs T W1):=hTab
    have HT:Hid (∀ i j,i<n->j<m->0<=T i j/\T i j<p):=hT
    have HI:Hid (Inv p m R0 c (restR n dn T)):=hI
    have HBE:Hid (Below B w W1):=hbel
    have hg1:=(hTab.outer.lt gt rfl).2
    have hdc:decide ((c:Int)<(m:Int))=true:=by simp;omega
    have hdc2:decide (c<m)=true:=by simp;omega
    clear hTab hT hI hbel hdd hp1
    go_wp2
    go_loopw [5,7] (fun v5 v7 wr=>∃ i:Nat,dn<=i/\i<=n/\v7=.int .i64 (i:Nat)/\v5=.int .i64 (dn:Nat)/\Hid (wr=W1)/\Hid (∀ q,dn<=q->q<i->T q c=0)) (fun _ v7 _=>n-(intOf v7).toNat)
    case atStart=>exact⟨dn,Nat.le_refl _,hdn,rfl,rfl,(rfl:W1=W1),(fun q h1 h2=>by omega:∀ q,dn<=q->q<dn->T q c=0)⟩
    case round=>
     rename World=>W2
     obtain⟨i,hi1,hi2,rfl,rfl,hw,hz⟩:=hrel
     have e9:W2=W1:=hw.out
     subst e9
     by_cases hil:i<n
     · have t1:=HTab.out.cellO i hil
       have t2:=HTab.out.cellR i c hil hcl
       have t3:=HTab.out.cellO dn (by omega)
       have hxb:=HT.out i c hil hcl
       obtain⟨x,hx⟩:∃ x,T i c=x:=⟨_,rfl⟩
       have HX:Hid (T i c=x):=hx
       rw[hx]at t2 hxb
       clear hx
       by_cases hx0:x=0
       · subst hx0
         go_wp2
         go_roundw
         case rel => exact ⟨i + 1, by omega, by omega, by go_num, rfl, trivial, (fun q h1 h2 => by
          by_cases e:q=i
          · rw[e];exact HX.out
          · exact hz.out q h1 (by omega):∀ q,dn<=q->q<i+1->T q c=0)⟩
         case measure=>simp only[intOf];omega
       · have hxz:(x==0)=false:=by simp;exact hx0
         have hdn2:dn<n:=by omega
         have hdn3:(dn:Int)<(n:Int):=by omega
         have hin3:(i:Int)<(n:Int):=by omega
         have f0:W2.frozen? ⟨gt,dn,none⟩=false:=HTab.out.outer.frozenAt dn
         have f1:W2.frozen? ⟨gt,i,none⟩=false:=HTab.out.outer.frozenAt i
         by_cases hdi:dn=i
         · subst hdi
           go_wp2
           apply cut_one
           case h=>
            intro key
            go_region_with (fail)
            all_goals exact key.out
           have hsw:=HTab.out.swap dn dn hdn2 hil
           obtain⟨X,hX⟩:∃ X,X=((W2.setCell ⟨gt,dn,none⟩ (.slice (some ⟨gs dn,0,none⟩) m m)).setCell ⟨gt,dn,none⟩ (.slice (some ⟨gs dn,0,none⟩) m m)).drew:=⟨_,rfl⟩
           have HX0:Hid (X=((W2.setCell ⟨gt,dn,none⟩ (.slice (some ⟨gs dn,0,none⟩) m m)).setCell ⟨gt,dn,none⟩ (.slice (some ⟨gs dn,0,none⟩) m m)).drew):=hX
           have HXT:Hid (TabO B gt cap n m (fun q=>gs (swq dn dn q)) (fun q=>T (swq dn dn q)) X/\Below B w X):=(by rw[hX];exact⟨hsw.1.any (grown_below ((Below.refl _ _).drew) none),Below.drew <| HBE.out.grown hsw.2 (by have:=HBE.out.size;omega) (fun q hq=>by have:=Option.some.inj hq;omega)⟩:TabO B gt cap n m (fun q=>gs (swq dn dn q)) (fun q=>T (swq dn dn q)) X/\Below B w X)
           have HT2:Hid (∀ a b,a<n->b<m->0<=T (swq dn dn a) b/\T (swq dn dn a) b<p):=fun a b ha hb=>HT.out _ b (swp_lt hdn2 hil ha) hb
           have HI2:Hid (Inv p m R0 c (restR n dn (fun q=>T (swq dn dn q)))):=rest_swap (by omega) hil HI.out
           have HXC:Hid (T (swq dn dn dn) c=x):=(by have e:swq dn dn dn=dn:=(by simp[swq]);rw[e];exact HX.out:T (swq dn dn dn) c=x)
           have HCB:Hid (∀ W,B<=W.heap.size->TabO B gt cap n m (fun q=>gs (swq dn dn q)) (fun q=>T (swq dn dn q)) W->_):=fun W hW hTW=>clearBelow_any B gt cap n m (fun q=>gs (swq dn dn q)) (fun q=>T (swq dn dn q)) dn c p W hp HPR.out hn hm hdn2 hcl hcap HT2.out (by show T (swq dn dn dn) c≠0;rw[HXC.out];exact hx0) hW hTW
           rw[<-hX]
           clear hsw hX t1 t2 t3 f0 f1 HX0
           have hcd:cap-dn≠0:=by omega
           have hcd2:dn<cap:=by omega
           have hcd3:dn<=n:=by omega
           go_wp2_with (go_at_call 41;refine(HCB.out X (by have:=HXT.out.2.size;omega) HXT.out.1).mono ?_;rintro e9 w5 ⟨rfl,T',hT',hs1,hs2,hb5⟩;refine Hid.out ?_)
           refine Lib.hid ?_
           have HPV:Hid (pivP p m R0 c):=(piv_iff HI2.out hcl).2 ⟨_,⟨dn,Nat.le_refl _,hdn2,rfl⟩,fun hd=>hx0 (by have h1:(p:Int) ∣ x:=(by rw[<-HXC.out];exact hd);exact(small_dvd hxb.1 hxb.2).1 h1)⟩
           have HRK:Hid (rkTo p m R0 (c+1)=dn+1):=(by rw[rkTo_yes HPV.out,HDN.out]:rkTo p m R0 (c+1)=dn+1)
           have HFI : Hid (∃ gs T, TabO B gt cap n m gs T w5 ∧ (∀ i j, i < n → j < m → 0 ≤ T i j ∧ T i j < p) ∧ Inv p m R0 (c + 1) (restR n (rkTo p m R0 ((c + 1))) T) ∧ rkTo p m R0 ((c + 1)) ≤ n ∧ Below B w w5) := (by
            rw[HRK.out]
            refine⟨_,T',hT',fun a b ha hb=>?_,?_,by omega,HXT.out.2.trans hb5⟩
            · by_cases h1:a<=dn
              · rw[hs1 a b h1 hb];exact HT2.out a b ha hb
              · exact(hs2 a (by omega) ha).2.1 b hb
            · exact rest_piv hp HPR.out hcl hdn2 HI2.out (fun hd=>hx0 (by have h1:(p:Int) ∣ x:=(by rw[<-HXC.out];exact hd);exact(small_dvd hxb.1 hxb.2).1 h1)) (fun a h1 h2=>⟨(hs2 a h1 h2).1,(hs2 a h1 h2).2.2⟩):∃ gs T,TabO B gt cap n m gs T w5/\(∀ i j,i<n->j<m->0<=T i j/\T i j<p)/\Inv p m R0 (c+1) (restR n (rkTo p m R0 ((c+1))) T)/\rkTo p m R0 ((c+1))<=n/\Below B w w5)
           clear hT' hs1 hs2 hb5 HXT HCB HT2 HI2 HXC
           go_wp2
           go_roundw
           case rel=>exact⟨c+1,by omega,by go_num,(by rw[HRK.out];go_num),HFI.out⟩
           case measure=>simp only[intOf];omega
         · have hid:i≠dn:=fun e=>hdi e.symm
           go_wp2
           apply cut_one
           case h=>
            intro key
            go_region_with (fail)
            all_goals exact key.out
           have hsw:=HTab.out.swap dn i hdn2 hil
           obtain⟨X,hX⟩:∃ X,X=((W2.setCell ⟨gt,dn,none⟩ (.slice (some ⟨gs i,0,none⟩) m m)).setCell ⟨gt,i,none⟩ (.slice (some ⟨gs dn,0,none⟩) m m)).drew:=⟨_,rfl⟩
           have HX0:Hid (X=((W2.setCell ⟨gt,dn,none⟩ (.slice (some ⟨gs i,0,none⟩) m m)).setCell ⟨gt,i,none⟩ (.slice (some ⟨gs dn,0,none⟩) m m)).drew):=hX
           have HXT:Hid (TabO B gt cap n m (fun q=>gs (swq dn i q)) (fun q=>T (swq dn i q)) X/\Below B w X):=(by rw[hX];exact⟨hsw.1.any (grown_below ((Below.refl _ _).drew) none),Below.drew <| HBE.out.grown hsw.2 (by have:=HBE.out.size;omega) (fun q hq=>by have:=Option.some.inj hq;omega)⟩:TabO B gt cap n m (fun q=>gs (swq dn i q)) (fun q=>T (swq dn i q)) X/\Below B w X)
           have HT2:Hid (∀ a b,a<n->b<m->0<=T (swq dn i a) b/\T (swq dn i a) b<p):=fun a b ha hb=>HT.out _ b (swp_lt hdn2 hil ha) hb
           have HI2:Hid (Inv p m R0 c (restR n dn (fun q=>T (swq dn i q)))):=rest_swap (by omega) hil HI.out
           have HXC:Hid (T (swq dn i dn) c=x):=(by have e:swq dn i dn=i:=(by simp[swq]);rw[e];exact HX.out:T (swq dn i dn) c=x)
           have HCB:Hid (∀ W,B<=W.heap.size->TabO B gt cap n m (fun q=>gs (swq dn i q)) (fun q=>T (swq dn i q)) W->_):=fun W hW hTW=>clearBelow_any B gt cap n m (fun q=>gs (swq dn i q)) (fun q=>T (swq dn i q)) dn c p W hp HPR.out hn hm hdn2 hcl hcap HT2.out (by show T (swq dn i dn) c≠0;rw[HXC.out];exact hx0) hW hTW
           rw[<-hX]
           clear hsw hX t1 t2 t3 f0 f1 HX0
           have hcd:cap-dn≠0:=by omega
           have hcd2:dn<cap:=by omega
           have hcd3:dn<=n:=by omega
           go_wp2_with (go_at_call 41;refine(HCB.out X (by have:=HXT.out.2.size;omega) HXT.out.1).mono ?_;rintro e9 w5 ⟨rfl,T',hT',hs1,hs2,hb5⟩;refine Hid.out ?_)
           refine Lib.hid ?_
           have HPV:Hid (pivP p m R0 c):=(piv_iff HI2.out hcl).2 ⟨_,⟨dn,Nat.le_refl _,hdn2,rfl⟩,fun hd=>hx0 (by have h1:(p:Int) ∣ x:=(by rw[<-HXC.out];exact hd);exact(small_dvd hxb.1 hxb.2).1 h1)⟩
           have HRK:Hid (rkTo p m R0 (c+1)=dn+1):=(by rw[rkTo_yes HPV.out,HDN.out]:rkTo p m R0 (c+1)=dn+1)
           have HFI : Hid (∃ gs T, TabO B gt cap n m gs T w5 ∧ (∀ i j, i < n → j < m → 0 ≤ T i j ∧ T i j < p) ∧ Inv p m R0 (c + 1) (restR n (rkTo p m R0 ((c + 1))) T) ∧ rkTo p m R0 ((c + 1)) ≤ n ∧ Below B w w5) := (by
            rw[HRK.out]
            refine⟨_,T',hT',fun a b ha hb=>?_,?_,by omega,HXT.out.2.trans hb5⟩
            · by_cases h1:a<=dn
              · rw[hs1 a b h1 hb];exact HT2.out a b ha hb
              · exact(hs2 a (by omega) ha).2.1 b hb
            · exact rest_piv hp HPR.out hcl hdn2 HI2.out (fun hd=>hx0 (by have h1:(p:Int) ∣ x:=(by rw[<-HXC.out];exact hd);exact(small_dvd hxb.1 hxb.2).1 h1)) (fun a h1 h2=>⟨(hs2 a h1 h2).1,(hs2 a h1 h2).2.2⟩):∃ gs T,TabO B gt cap n m gs T w5/\(∀ i j,i<n->j<m->0<=T i j/\T i j<p)/\Inv p m R0 (c+1) (restR n (rkTo p m R0 ((c+1))) T)/\rkTo p m R0 ((c+1))<=n/\Below B w w5)
           clear hT' hs1 hs2 hb5 HXT HCB HT2 HI2 HXC
           go_wp2
           go_roundw
           case rel=>exact⟨c+1,by omega,by go_num,(by rw[HRK.out];go_num),HFI.out⟩
           case measure=>simp only[intOf];omega
     · obtain rfl:n=i:=by omega
       have HNP:Hid (¬ pivP p m R0 c):=fun hpv=>by
        obtain⟨r,⟨q,h1,h2,rfl⟩,hr⟩:=(piv_iff HI.out hcl).1 hpv
        exact hr (by rw[hz.out q h1 h2];exact Int.dvd_zero _)
       have HRK:Hid (rkTo p m R0 (c+1)=dn):=(by rw[rkTo_no HNP.out,HDN.out]:rkTo p m R0 (c+1)=dn)
       have HIN : Hid (Inv p m R0 (c + 1) (restR n dn T)) := HI.out.none hcl (fun r hr => by
        obtain⟨q,h1,h2,rfl⟩:=hr
        rw[hz.out q h1 h2];exact Int.dvd_zero _)
       go_wp2
       go_roundw
       case rel=>exact⟨c+1,by omega,by go_num,(by rw[HRK.out]),(by rw[HRK.out];exact⟨gs,T,HTab.out,HT.out,HIN.out,hdn,HBE.out⟩:∃ gs T,TabO B gt cap n m gs T W2/\(∀ i j,i<n->j<m->0<=T i j/\T i j<p)/\Inv p m R0 (c+1) (restR n (rkTo p m R0 ((c+1))) T)/\rkTo p m R0 ((c+1))<=n/\Below B w W2)⟩
       case measure=>simp only[intOf];omega
  · obtain rfl:c=m:=by omega
    go_wp2
    go_ret
    obtain⟨gs,T,_,_,_,_,hbel⟩:=hp1.out
    exact⟨rfl,hbel⟩
end Go.Proofs.YtmnejkaihjpejaaGreatDoor

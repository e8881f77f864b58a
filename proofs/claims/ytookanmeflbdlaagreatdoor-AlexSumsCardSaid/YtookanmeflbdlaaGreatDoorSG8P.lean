/- Several texts of the proof, one behind the other. -/
import Derived.Test.YtookanmeflbdlaaGreatDoorSG5P
/- The walk of sign.square; Goeritz's table as it grows. -/
namespace Go.Proofs.YtookanmeflbdlaaGreatDoor
open Go.RowKit Go.Maps
set_option maxHeartbeats 8000000
set_option maxRecDepth 100000
theorem QA5 (m : Nat) (w : World) (hm : m ≤ 100) :
    Calls Tryz.prog 58 #[.int .i64 (m:Nat)] w fun e w'=>∃ gt gs,e=.returned (.slice (some ⟨gt,0,none⟩) m m)/\TabAt w.heap.size gt m gs m (fun _ _=>0) w'/\Below w.heap.size w w':=by
 obtain⟨i0,hi,hz0,hz1,hz2⟩:=info_parts Qg7
 obtain⟨i1,hj,hy0,hy1,hy2⟩:=info_parts XG9
 go_enter Tryz.func58,Tryz.ntmps58
 go_wp2_with (first|(at_make;refine wpList_make_full _ rfl _ _ 71 rfl w.heap.size 67 i1 (.slice none 0 0) 1 Tryz.underlying71 hj hy0 hy1 .i64 .i64 _ _ m rfl rfl rfl rfl (by rw[hy2];omega) (by unfold maxLen;omega) (by simp) ?_;intro w2 hrow2 hg2;refine Hid.out ?_))
 refine Lib.hid ?_
 rw[Zg8]at hrow2
 obtain⟨gt,hgt⟩:∃ gt,w.heap.size=gt:=⟨_,rfl⟩
 have HT2:Hid (TabAt w.heap.size gt m (fun _=>0) 0 (fun _ _=>0) w2):=⟨by rw[<-hgt];exact hrow2,fun i hi=>absurd hi (Nat.not_lt_zero _),fun i j hi=>absurd hi (Nat.not_lt_zero _)⟩
 have HB2:=hidS ((Below.refl w.heap.size w).grown hg2 (Nat.le_refl _) (fun k hk=>by cases hk))
 have HGT:=hidS hgt
 have hgt2:w.heap.size<=gt:=by omega
 rw[hgt]
 clear hrow2 hg2 hgt
 go_wp2
 go_loopw [9] (fun v9 wr=>∃ (i:Nat) (gs:Nat->Nat),i<=m/\v9=.int .i64 (i:Nat)/\Hid (TabAt w.heap.size gt m gs i (fun _ _=>0) wr)/\Hid (Below w.heap.size w wr)) (fun v9 _=>m-(intOf v9).toNat)
 case atStart=>exact⟨0,fun _=>0,Nat.zero_le _,rfl,HT2.out,HB2.out⟩
 case round=>
  clear HT2 HB2
  rename World=>W1
  obtain⟨i,gs,hin,rfl,htab,hbW⟩:=hrel
  have hsW:=hbW.out.size
  by_cases hil:i<m
  · have hii:(i:Int)<(m:Int):=by omega
    go_wp2_with (first|(at_make;refine wpList_make_full _ rfl _ _ 67 rfl w.heap.size 3 i0 (.int .i64 0) 1 Tryz.underlying67 hi hz0 hz1 .i64 .i64 _ _ m rfl rfl rfl rfl (by rw[hz2];omega) (by unfold maxLen;omega) (by omega) ?_;intro w4 hrow4 hg4;refine Hid.out ?_))
    refine Lib.hid ?_
    obtain⟨g,hg⟩:∃ g,W1.heap.size=g:=⟨_,rfl⟩
    rw[Qw6,hg]at hrow4
    rw[hg]
    have hmore:=htab.out.more hg4 (by rw[Xk5 m (fun _=>0) (fun _ _=>rfl)];exact hrow4) (by omega)
    have HMO:Hid (TabAt w.heap.size gt m (fun j=>if j=i then g else gs j) (i+1) (fun _ _=>0) (w4.setCell ⟨gt,i,none⟩ (.slice (some ⟨g,0,none⟩) m m))):=hmore.1
    have ho4:=own_any htab.out.outer hg4
    have e0:=ho4.cellAt i (by omega)
    rw[Qq4 m gs i i hil,if_neg (by omega)]at e0
    have z0:=ho4.frozenAt i
    have hl4:=(ho4.lt gt rfl).2
    have HBN:Hid (Below w.heap.size w (w4.setCell ⟨gt,i,none⟩ (.slice (some ⟨g,0,none⟩) m m))):=(hbW.out.grown hg4 hsW (fun k hk=>by cases hk)).grown hmore.2 (Nat.le_trans hsW hg4.size) (fun k hk=>by have:gt=k:=Option.some.inj hk;omega)
    clear hrow4 hg4 hmore ho4 hg
    go_wp2
    go_roundw
    all_goals first
     |(simp only[intOf];omega)
     |exact⟨i+1,_,by omega,by go_num,HMO.out,HBN.out⟩
  · obtain rfl:i=m:=by omega
    have HTB:=hidS htab.out
    have HBB:=hidS hbW.out
    clear htab hbW
    go_wp2
    go_ret
    exact⟨gt,gs,rfl,HTB.out,HBB.out⟩
def up1 (T:Nat->Nat->Int) (i j:Nat) (x:Int):Nat->Nat->Int:=fun a b=>if a=i/\b=j then x else T a b
def goA (T:Nat->Nat->Int) (i j:Nat) (v:Int):Nat->Nat->Int:=up1 T i j (T i j-v)
def goB (T:Nat->Nat->Int) (i j:Nat) (v:Int):Nat->Nat->Int:=up1 (goA T i j v) j i (goA T i j v j i-v)
def goC (T:Nat->Nat->Int) (i j:Nat) (v:Int):Nat->Nat->Int:=up1 (goB T i j v) i i (goB T i j v i i+v)
def goD (T:Nat->Nat->Int) (i j:Nat) (v:Int):Nat->Nat->Int:=up1 (goC T i j v) j j (goC T i j v j j+v)
def goS (T:Nat->Nat->Int) (i j:Nat) (v:Int):Nat->Nat->Int:=if i=j then T else goD T i j v
def goT (C:List Cr) (s:Nat->Nat) (sh:Nat):Nat->Nat->Nat->Int
 |0=>fun _ _=>0
 |c+1=>goS (goT C s sh c) (cnS s sh (woM C s c sh).2.1) (cnS s sh (woM C s c sh).2.2) (woM C s c sh).1
def goF (C:List Cr) (s:Nat->Nat) (sh:Nat):Nat->Int
 |0=>0
 |c+1=>goF C s sh c+(if(C.getD c Cr.none).plus=decide ((woM C s c sh).1<0) then(woM C s c sh).1 else 0)
theorem ZQ4 {T:Nat->Nat->Int} {i j:Nat} {x B:Int} (h:∀ a b,-B<=T a b/\T a b<=B) (hx : -B-1<=x/\x<=B+1):∀ a b,-(B+1)<=up1 T i j x a b/\up1 T i j x a b<=B+1:=fun a b=>by
 unfold up1
 have:=h a b
 split<;>omega
theorem Xu6 (C:List Cr) (s:Nat->Nat) (c sh:Nat):(woM C s c sh).1=1∨(woM C s c sh).1 = -1:=by
 unfold woM
 split
 · exact Or.inl rfl
 · exact Or.inr rfl
theorem Kx3 {T:Nat->Nat->Int} {i j:Nat} {v B:Int} (h:∀ a b,-B<=T a b/\T a b<=B) (hv:v=1∨v = -1):(∀ a b,-(B+1)<=goA T i j v a b/\goA T i j v a b<=B+1)/\(∀ a b,-(B+2)<=goB T i j v a b/\goB T i j v a b<=B+2)/\(∀ a b,-(B+3)<=goC T i j v a b/\goC T i j v a b<=B+3)/\(∀ a b,-(B+4)<=goD T i j v a b/\goD T i j v a b<=B+4):=by
 have h1:∀ a b,-(B+1)<=goA T i j v a b/\goA T i j v a b<=B+1:=ZQ4 h (by have:=h i j;omega)
 have h2:∀ a b,-(B+1+1)<=goB T i j v a b/\goB T i j v a b<=B+1+1:=ZQ4 h1 (by have:=h1 j i;omega)
 have h3:∀ a b,-(B+1+1+1)<=goC T i j v a b/\goC T i j v a b<=B+1+1+1:=ZQ4 h2 (by have:=h2 i i;omega)
 have h4:∀ a b,-(B+1+1+1+1)<=goD T i j v a b/\goD T i j v a b<=B+1+1+1+1:=ZQ4 h3 (by have:=h3 j j;omega)
 exact⟨h1,fun a b=>by have:=h2 a b;omega,fun a b=>by have:=h3 a b;omega,fun a b=>by have:=h4 a b;omega⟩
theorem Kx1 (C:List Cr) (s:Nat->Nat) (sh:Nat):∀ (c a b:Nat),-(4*(c:Int))<=goT C s sh c a b/\goT C s sh c a b<=4*(c:Int)
 |0,a,b=>by simp[goT]
 |c+1,a,b=>by
  have ih:=Kx1 C s sh c
  have h:=(Kx3 (i:=cnS s sh (woM C s c sh).2.1) (j:=cnS s sh (woM C s c sh).2.2) ih (Xu6 C s c sh)).2.2.2 a b
  show _<=goS _ _ _ _ a b/\goS _ _ _ _ a b<=_
  unfold goS
  have i2:=ih a b
  split
  · omega
  · omega
theorem Kx2 (C:List Cr) (s:Nat->Nat) (sh:Nat):∀ c:Nat,-(c:Int)<=goF C s sh c/\goF C s sh c<=(c:Int)
 |0=>by simp[goF]
 |c+1=>by
  have ih:=Kx2 C s sh c
  have h:=Xu6 C s c sh
  show _<=goF C s sh c+_/\goF C s sh c+_<=_
  split<;>omega
theorem XH8 {C:List Cr} {loops:Int} {s:Nat->Nat} (hm:QQ6 C loops=true) (hs:Shd C s) (c t:Nat) (hc:c<C.length) (ht:t<4):s (cor C c ((t+3)%4))=1-s (cor C c t):=by
 have h:=QZ8 hm c t hc ht
 have u:=QC2 (p:=(C.getD c Cr.none).comes t) h.2.2.1 h.2.2.2
 have hb:=QD8 hm c t hc ht
 have ha:=hs.arc _ u.1 u.2
 have e:tn (mkD (aAt C c t) ((C.getD c Cr.none).comes t))=mkD (aAt C c t) (!(C.getD c Cr.none).comes t):=by
  unfold tn
  rw[XW2 h.2.2.1,XW1 h.2.2.1]
 rw[e,hb]at ha
 exact ha
theorem KJ0 {C:List Cr} {loops:Int} {s:Nat->Nat} (hm:QQ6 C loops=true) (hs:Shd C s) (c sh:Nat) (hc:c<C.length) (hsh:sh<2):s (woM C s c sh).2.1=sh/\s (woM C s c sh).2.2=sh/\(woM C s c sh).2.1<(QQ3 C).length/\(woM C s c sh).2.2<(QQ3 C).length:=by
 have t1:=XH8 hm hs c 1 hc (by decide)
 have t2:=XH8 hm hs c 2 hc (by decide)
 have t3:=XH8 hm hs c 3 hc (by decide)
 simp only[Nat.reduceAdd,Nat.reduceMod]at t1 t2 t3
 have a0:=hs.two (cor C c 0)
 have a1:=hs.two (cor C c 1)
 have a2:=hs.two (cor C c 2)
 have a3:=hs.two (cor C c 3)
 have l0:=Xq9 hm c 0 hc (by decide)
 have l1:=Xq9 hm c 1 hc (by decide)
 have l2:=Xq9 hm c 2 hc (by decide)
 have l3:=Xq9 hm c 3 hc (by decide)
 unfold woM
 split
 · exact⟨by assumption,by simp only;omega,l1,l3⟩
 · exact⟨by simp only;omega,by simp only;omega,l0,l2⟩
end Go.Proofs.YtookanmeflbdlaaGreatDoor
/- Square tables of numbers that are read; the walk of sign.withoutFirst. -/
namespace Go.Proofs.YtookanmeflbdlaaGreatDoor
open Go.RowKit Go.Maps
set_option maxHeartbeats 8000000
set_option maxRecDepth 100000
def SqR (W:World) (B:Nat) (v:Value) (n:Nat) (A:Nat->Nat->Int):Prop:=
 ∃ a c,v=.slice a n c/\(0<n->∃ b off,a=some ⟨b,off,none⟩/\b<B/\∀ i,i<n->∃ g o q,W.cell? ⟨b,off+i,none⟩=some (.slice (some ⟨g,o,none⟩) n q)/\g<B/\∀ j,j<n->W.cell? ⟨g,o+j,none⟩=some (.int .i64 (A i j)))
theorem SqR.on {W W':World} {B n:Nat} {v:Value} {A:Nat->Nat->Int} (h:SqR W B v n A) (hb:Below B W W'):SqR W' B v n A:=by
 obtain⟨a,c,rfl,f⟩:=h
 refine⟨a,c,rfl,fun h0=>?_⟩
 obtain⟨b,off,rfl,hlt,hr⟩:=f h0
 refine⟨b,off,rfl,hlt,fun i hi=>?_⟩
 obtain⟨g,o,q,h1,h2,h3⟩:=hr i hi
 exact⟨g,o,q,bcell hb hlt h1,h2,fun j hj=>bcell hb h2 (h3 j hj)⟩
theorem SqR.mono {W:World} {B B' n:Nat} {v:Value} {A:Nat->Nat->Int} (h:SqR W B v n A) (hB:B<=B'):SqR W B' v n A:=by
 obtain⟨a,c,rfl,f⟩:=h
 refine⟨a,c,rfl,fun h0=>?_⟩
 obtain⟨b,off,rfl,hlt,hr⟩:=f h0
 refine⟨b,off,rfl,Nat.lt_of_lt_of_le hlt hB,fun i hi=>?_⟩
 obtain⟨g,o,q,h1,h2,h3⟩:=hr i hi
 exact⟨g,o,q,h1,Nat.lt_of_lt_of_le h2 hB,h3⟩
theorem SqR.up {W W':World} {n:Nat} {v:Value} {A:Nat->Nat->Int} (h:SqR W W.heap.size v n A) (hb:Below W.heap.size W W'):SqR W' W'.heap.size v n A:=(h.on hb).mono hb.size
theorem JZ4 {W:World} {B gt n:Nat} {gs:Nat->Nat} {T:Nat->Nat->Int} (h:TabAt B gt n gs n T W):SqR W W.heap.size (.slice (some ⟨gt,0,none⟩) n n) n T:=
 ⟨_,_,rfl,fun _=>⟨gt,0,rfl,(h.outer.lt gt rfl).2,fun i hi=>⟨gs i,0,n,by rw[Nat.zero_add];exact h.cellO i hi hi,((h.rows i hi).lt (gs i) rfl).2,fun j hj=>by rw[Nat.zero_add];exact h.cellR i j hi hj⟩⟩⟩
def wfL (gs:Nat->Nat) (n k:Nat):List Value:=(List.range k).map fun i=>.slice (some ⟨gs (i+1),1,none⟩) n n
theorem KJ1 (gs:Nat->Nat) (n k:Nat):wfL gs n k++[.slice (some ⟨gs (k+1),1,none⟩) n n]=wfL gs n (k+1):=by simp[wfL,List.range_succ]
theorem Kj9 (gs:Nat->Nat) (n k i:Nat) (h:i<k):(wfL gs n k)[i]?=some (.slice (some ⟨gs (i+1),1,none⟩) n n):=by simp[wfL,h]
theorem Zf1 {w:World} {B e s n:Nat} {v:Value} {xs:List Value} (h:w.ownsRow B e s v n xs) (hn:1<=n):∃ g c,v=.slice (some ⟨g,0,none⟩) n c/\B<=g/\g<w.heap.size:=by
 have h0:=h
 rcases h.2 with⟨rfl,h1⟩|⟨g,cap,cur,rfl,h2,_⟩
 · omega
 · exact⟨g,cap,rfl,(h0.lt g rfl).1,(h0.lt g rfl).2⟩
theorem Zf6 (v:Value) (a:Option Addr) (n c:Nat) (h:v=.slice a n c):∀ u∈[v],u.oneCell'=true:=by
 intro u hu
 rw[List.mem_singleton]at hu
 subst hu h
 rfl
theorem Qb8 (gt : Nat) (A : Nat → Nat → Int) (w : World) :
    Calls Tryz.prog 36 #[.slice (some ⟨gt,0,none⟩) 1 1] w fun e w'=>∃ v,e=.returned v/\SqR w' w'.heap.size v 0 A/\Below w.heap.size w w':=by
 go_enter Tryz.func36,Tryz.ntmps36
 go_wp2
 go_loopw [9,3,5] (fun v9 v3 _ wr=>v9=.int .i64 0/\v3=.slice none 0 0/\Below w.heap.size w wr) (fun _ _ _ _=>0)
 case atStart=>exact⟨rfl,rfl,Below.refl _ _⟩
 case round=>
  obtain⟨rfl,rfl,hb⟩:=hrel
  go_wp2
  go_ret
  exact⟨_,rfl,⟨_,_,rfl,fun h=>absurd h (Nat.lt_irrefl _)⟩,hb⟩
theorem Qb7 (B gt n : Nat) (gs : Nat → Nat) (T : Nat → Nat → Int) (w : World) (h0 : 0 < n) (hn : n ≤ 100) (h : TabAt B gt (n + 1) gs (n + 1) T w) :
    Calls Tryz.prog 36 #[.slice (some ⟨gt,0,none⟩) (n+1) (n+1)] w fun e w'=>∃ v,e=.returned v/\SqR w' w'.heap.size v n (fun i j=>T (i+1) (j+1))/\Below w.heap.size w w':=by
 obtain⟨i1,hj,hy0,hy1,hy2⟩:=info_parts XG9
 have hgt:=(h.outer.lt gt rfl).2
 have HCO:=hidS (fun(W:World) (hW:Below w.heap.size w W) (i:Nat) (hi:i<n)=>bcell hW hgt (h.cellO (i+1) (by omega) (by omega)))
 have HCR:=hidS (fun(W:World) (hW:Below w.heap.size w W) (i j:Nat) (hi:i<n) (hj:j<n)=>bcell hW ((h.rows (i+1) (by omega)).lt (gs (i+1)) rfl).2 (h.cellR (i+1) (j+1) (by omega) (by omega)))
 have HLT:=hidS (fun(i:Nat) (hi:i<n)=>((h.rows (i+1) (by omega)).lt (gs (i+1)) rfl).2)
 have HB:=hidS (Below.refl w.heap.size w)
 have HO0:=hidS (World.ownsRow_nil w w.heap.size 67 1)
 obtain⟨m,hm⟩:∃ m,n+1=m:=⟨_,rfl⟩
 have hm1:n+1<=m/\m<=n+1:=by omega
 have es:m-1=n:=by omega
 have hne:¬ m=1:=by omega
 rw[hm]
 rw[hm]at HCO
 clear h hm
 go_enter Tryz.func36,Tryz.ntmps36
 go_wp2
 go_loopw [9,3,5] (fun v9 v3 _ wr=>∃ (k:Nat) (a3:Option Addr) (c3:Nat),k<=n/\v9=.int .i64 (k:Nat)/\v3=.slice a3 k c3/\Hid (wr.ownsRow w.heap.size 67 1 (.slice a3 k c3) k (wfL gs n k))/\Hid (Below w.heap.size w wr)) (fun v9 _ _ _=>n-(intOf v9).toNat)
 case atStart=>exact⟨0,none,0,Nat.zero_le _,rfl,rfl,HO0.out,HB.out⟩
 case round=>
  clear HB HO0
  rename World=>W1
  obtain⟨k,a3,c3,hk,rfl,rfl,hO,hb⟩:=hrel
  by_cases hkn:k<n
  · have e0:=HCO.out W1 hb.out k hkn
    have hl:=HLT.out k hkn
    have hsW:=hb.out.size
    obtain⟨k1,hk1⟩:∃ k1,k+1=k1:=⟨_,rfl⟩
    have hoff:1+k=k+1:=Nat.add_comm _ _
    obtain⟨g,hg⟩:∃ g,gs (k+1)=g:=⟨_,rfl⟩
    have HG:=hidS hg
    rw[hg]at e0 hl
    have hkI:(k:Int)<(n:Int):=by omega
    clear hk1 hg
    have hgl:gt<W1.heap.size:=by omega
    go_wp2_with (first|(at_builtin;refine wpList_append_own _ rfl _ _ 71 rfl w.heap.size 67 i1 (.slice none 0 0) 1 24 Tryz.underlying71 hj hy0 hy1 hy2 rfl (by decide) _ _ _ rfl (hO.out.alloc _) ⟨W1.heap.size,0,none⟩ 1 1 [Value.slice (some ⟨g,1,none⟩) n n] rfl rfl (Qw5 _ _ _) (Zf6 _ _ _ _ rfl) (by unfold maxLen;omega) (by omega) (by simp;omega) ?_;intro v8 w8 hown8 hg8 _;refine Hid.out ?_))
    refine Lib.hid ?_
    rw[<-HG.out,KJ1]at hown8
    have hown9:w8.ownsRow w.heap.size 67 1 v8 (k+1) (wfL gs n (k+1)):=by simpa using hown8
    obtain⟨a8,c8,e8⟩:=QK8 hown9
    subst e8
    have HO8:=hidS hown9
    have HB8:=hidS ((hb.out.alloc hb.out.size _).grown hg8 (by simp;omega) (fun q hq=>(hO.out.lt q hq).1))
    clear hown8 hown9 hg8
    go_wp2
    go_roundw
    all_goals first
     |(simp only[intOf];omega)
     |exact⟨k+1,a8,c8,by omega,by go_num,by first|rfl|simp,HO8.out,HB8.out⟩
  · obtain rfl:k=n:=by omega
    have HO8:=hidS hO.out
    have HB8:=hidS hb.out
    clear hO hb
    obtain⟨g3,c3',e3,hg3,hg3s⟩:=Zf1 HO8.out h0
    injection e3 with e31 e32 e33
    subst e31
    clear e32 e33
    go_wp2
    go_ret
    refine⟨_,rfl,⟨_,_,rfl,fun _=>⟨g3,0,rfl,hg3s,fun i hi=>⟨gs (i+1),1,k,?_,?_,fun j hj=>?_⟩⟩⟩,HB8.out⟩
    · rw[Nat.zero_add,HO8.out.cellAt i (by omega),Kj9 _ _ _ _ hi]
    · exact Nat.lt_of_lt_of_le (HLT.out i hi) HB8.out.size
    · rw[Nat.add_comm 1 j];exact HCR.out _ HB8.out i j hi hj
theorem Qd9 (B gt n : Nat) (gs : Nat → Nat) (T : Nat → Nat → Int) (w : World) (hn : n ≤ 100) (h : TabAt B gt (n + 1) gs (n + 1) T w) :
    Calls Tryz.prog 36 #[.slice (some ⟨gt,0,none⟩) (n+1) (n+1)] w fun e w'=>∃ v,e=.returned v/\SqR w' w'.heap.size v n (fun i j=>T (i+1) (j+1))/\Below w.heap.size w w':=by
 rcases Nat.eq_zero_or_pos n with rfl|h0
 · exact Qb8 gt _ w
 · exact Qb7 B gt n gs T w h0 hn h
end Go.Proofs.YtookanmeflbdlaaGreatDoor
/- The walk of sign.product. -/
namespace Go.Proofs.YtookanmeflbdlaaGreatDoor
open Go.RowKit Go.Maps
set_option maxHeartbeats 8000000
set_option maxRecDepth 100000
def sqA (A B:Nat->Nat->Int) (i j:Nat):Nat->Int
 |0=>0
 |k+1=>IntKind.i64.wrap (sqA A B i j k+IntKind.i64.wrap (A i k*B k j))
def sqP (A B:Nat->Nat->Int) (n:Nat):Nat->Nat->Int:=fun i j=>sqA A B i j n
def sqT (A B:Nat->Nat->Int) (n i k j:Nat):Nat->Nat->Int:=fun a b=>if a<i then sqA A B a b n else if a=i then(if b<j then sqA A B a b (k+1) else sqA A B a b k) else 0
theorem Zy5 (A B:Nat->Nat->Int) (n:Nat) (a b:Nat):sqT A B n 0 0 0 a b=0:=by
 unfold sqT
 rw[if_neg (Nat.not_lt_zero _),if_neg (Nat.not_lt_zero _)]
 split<;>rfl
theorem JY5 (A B:Nat->Nat->Int) (n i k a b:Nat) (hb:b<n):sqT A B n i (k+1) 0 a b=sqT A B n i k n a b:=by
 unfold sqT
 rw[if_neg (Nat.not_lt_zero b),if_pos hb]
theorem JY7 (A B:Nat->Nat->Int) (n i a b:Nat):sqT A B n (i+1) 0 0 a b=sqT A B n i n 0 a b:=by
 unfold sqT
 rw[if_neg (Nat.not_lt_zero b),if_neg (Nat.not_lt_zero b)]
 by_cases h1:a<i
 · rw[if_pos h1,if_pos (by omega)]
 · by_cases h2:a=i
   · rw[if_neg h1,if_pos h2,if_pos (by omega)]
   · rw[if_neg h1,if_neg h2,if_neg (by omega)]
     split<;>rfl
theorem Kw3 (A B:Nat->Nat->Int) (n a b:Nat) (ha:a<n):sqP A B n a b=sqT A B n n 0 0 a b:=by
 unfold sqT sqP
 rw[if_pos ha]
theorem JY6 (A B:Nat->Nat->Int) (n i k j a b:Nat):sqT A B n i k (j+1) a b=if a=i/\b=j then sqA A B i j (k+1) else sqT A B n i k j a b:=by
 unfold sqT
 by_cases h:a=i/\b=j
 · obtain⟨rfl,rfl⟩:=h
   rw[if_neg (by omega),if_pos rfl,if_pos (by omega),if_pos ⟨rfl,rfl⟩]
 · rw[if_neg h]
   by_cases h1:a<i
   · rw[if_pos h1,if_pos h1]
   · by_cases h2:a=i
     · rw[if_neg h1,if_pos h2,if_neg h1,if_pos h2]
       by_cases h3:b<j
       · rw[if_pos h3,if_pos (by omega)]
       · rw[if_neg h3,if_neg (by omega)]
     · rw[if_neg h1,if_neg h2,if_neg h1,if_neg h2]
theorem JZ6 (A B:Nat->Nat->Int) (n i k j:Nat):sqT A B n i k j i j=sqA A B i j k:=by
 unfold sqT
 rw[if_neg (Nat.lt_irrefl _),if_pos rfl,if_neg (Nat.lt_irrefl _)]
theorem Xv8 (a1 a2 : Option Addr) (c1 c2 : Nat) (A : Nat → Nat → Int) (w : World) :
    Calls Tryz.prog 60 #[.slice a1 0 c1,.slice a2 0 c2] w fun e w'=>∃ gt gs,e=.returned (.slice (some ⟨gt,0,none⟩) 0 0)/\TabAt w.heap.size gt 0 gs 0 A w'/\Below w.heap.size w w':=by
 have HSQ:=hidS (fun W=>QA5 0 W (by omega))
 go_enter Tryz.func60,Tryz.ntmps60
 go_wp2_with (go_at_call 58;refine(HSQ.out _).mono ?_;rintro e9 w1 ⟨gt,gs,rfl,hT,hb1⟩;refine Hid.out ?_)
 refine Lib.hid ?_
 have HT:=hidS (hT.congr (T':=A) (fun x y hx=>absurd hx (Nat.not_lt_zero _)))
 have HB:=hidS hb1
 clear hT hb1
 go_wp2
 go_loopw [17,6,7,8,9,10,11,24,34] (fun v17 _ _ _ _ _ _ _ _ wr=>v17=.int .i64 0/\Hid (TabAt w.heap.size gt 0 gs 0 A wr)/\Hid (Below w.heap.size w wr)) (fun _ _ _ _ _ _ _ _ _ _=>0)
 case atStart=>exact⟨rfl,HT.out,HB.out⟩
 case round=>
  clear HT HB
  obtain⟨rfl,hT,hb⟩:=hrel
  go_wp2
  go_ret
  exact⟨gt,gs,rfl,hT.out,hb.out⟩
theorem Xv7 (b1 o1 c1 b2 o2 c2 n : Nat) (A B : Nat → Nat → Int) (w : World) (h0 : 0 < n) (hn : n ≤ 100) (l1 : b1 < w.heap.size) (l2 : b2 < w.heap.size)
    (h1:∀ i,i<n->∃ g o q,w.cell? ⟨b1,o1+i,none⟩=some (.slice (some ⟨g,o,none⟩) n q)/\g<w.heap.size/\∀ j,j<n->w.cell? ⟨g,o+j,none⟩=some (.int .i64 (A i j)))
    (h2:∀ i,i<n->∃ g o q,w.cell? ⟨b2,o2+i,none⟩=some (.slice (some ⟨g,o,none⟩) n q)/\g<w.heap.size/\∀ j,j<n->w.cell? ⟨g,o+j,none⟩=some (.int .i64 (B i j))):
    Calls Tryz.prog 60 #[.slice (some ⟨b1,o1,none⟩) n c1,.slice (some ⟨b2,o2,none⟩) n c2] w fun e w'=>∃ gt gs,e=.returned (.slice (some ⟨gt,0,none⟩) n n)/\TabAt w.heap.size gt n gs n (sqP A B n) w'/\Below w.heap.size w w':=by
 have HSQ:=hidS (fun W=>QA5 n W hn)
 have H1:=hidS h1
 have H2:=hidS h2
 clear h1 h2
 go_enter Tryz.func60,Tryz.ntmps60
 go_wp2_with (go_at_call 58;refine(HSQ.out _).mono ?_;rintro e9 w1 ⟨gt,gs,rfl,hT,hb1⟩;refine Hid.out ?_)
 refine Lib.hid ?_
 have HT:=hidS (hT.congr (T':=sqT A B n 0 0 0) (fun x y _ _=>Zy5 A B n x y))
 have HB:=hidS hb1
 clear hT hb1
 go_wp2
 go_loopw [17,6,7,8,9,10,11,24,34] (fun v17 _ _ _ _ _ _ _ _ wr=>∃ i:Nat,i<=n/\v17=.int .i64 (i:Nat)/\Hid (TabAt w.heap.size gt n gs n (sqT A B n i 0 0) wr)/\Hid (Below w.heap.size w wr)) (fun v17 _ _ _ _ _ _ _ _ _=>n-(intOf v17).toNat)
 case atStart=>exact⟨0,Nat.zero_le _,rfl,HT.out,HB.out⟩
 case round=>
  clear HT HB
  rename World=>W1
  obtain⟨i,hin,rfl,hT1,hbW⟩:=hrel
  by_cases hil:i<n
  · obtain⟨g,o,q,r1,r2,r3⟩:=H1.out i hil
    have hsW:=hbW.out.size
    have e0:=bcell hbW.out l1 r1
    have HR3:=hidS r3
    have hbl:b1<W1.heap.size:=by omega
    clear r1 r3
    have HT1:=hidS hT1.out
    have HB1:=hidS hbW.out
    clear hT1 hbW
    go_wp2
    go_loopw [24,8,9,10,11,34] (fun v24 _ _ _ _ _ wr=>∃ k:Nat,k<=n/\v24=.int .i64 (k:Nat)/\Hid (TabAt w.heap.size gt n gs n (sqT A B n i k 0) wr)/\Hid (Below w.heap.size w wr)) (fun v24 _ _ _ _ _ _=>n-(intOf v24).toNat)
    case atStart=>exact⟨0,Nat.zero_le _,rfl,HT1.out,HB1.out⟩
    case round=>
     clear HT1 HB1 e0 hbl hsW
     rename World=>W2
     obtain⟨k,hkn,rfl,hT2,hb2⟩:=hrel
     by_cases hkl:k<n
     · obtain⟨g2,p2,q2,s1,s2,s3⟩:=H2.out k hkl
       have hs2:=hb2.out.size
       have e1:=bcell hb2.out r2 (HR3.out k hkl)
       have e2:=bcell hb2.out l2 s1
       have HS3:=hidS s3
       have hgl:g<W2.heap.size:=by omega
       have hbl:b2<W2.heap.size:=by omega
       obtain⟨xA,hxA⟩:∃ xA,A i k=xA:=⟨_,rfl⟩
       rw[hxA]at e1
       have HXA:=hidS hxA
       clear s1 s3 hxA
       have HT2:=hidS hT2.out
       have HB2:=hidS hb2.out
       clear hT2 hb2
       go_wp2
       go_loopw [34,10,11] (fun v34 _ _ wr=>∃ j:Nat,j<=n/\v34=.int .i64 (j:Nat)/\Hid (TabAt w.heap.size gt n gs n (sqT A B n i k j) wr)/\Hid (Below w.heap.size w wr)) (fun v34 _ _ _=>n-(intOf v34).toNat)
       case atStart=>exact⟨0,Nat.zero_le _,rfl,HT2.out,HB2.out⟩
       case round=>
        clear HT2 HB2 e1 e2 hgl hbl hs2
        rename World=>W3
        obtain⟨j,hjn,rfl,hT3,hb3⟩:=hrel
        by_cases hjl:j<n
        · have hs3:=hb3.out.size
          have e3:=bcell hb3.out s2 (HS3.out j hjl)
          have hgl:g2<W3.heap.size:=by omega
          have t1:W3.cell? ⟨gt,i,none⟩=some (.slice (some ⟨gs i,0,none⟩) n n):=hT3.out.cellO i hil hil
          have t2:W3.cell? ⟨gs i,j,none⟩=some (.int .i64 (sqT A B n i k j i j)):=hT3.out.cellR i j hil hjl
          have t3:W3.frozen? ⟨gs i,j,none⟩=false:=(hT3.out.rows i hil).frozenAt j
          have t4:gs i<W3.heap.size:=((hT3.out.rows i hil).lt (gs i) rfl).2
          have t5:gt<W3.heap.size:=(hT3.out.outer.lt gt rfl).2
          have t6:=((hT3.out.rows i hil).lt (gs i) rfl).1
          rw[JZ6]at t2
          obtain⟨xB,hxB⟩:∃ xB,B k j=xB:=⟨_,rfl⟩
          rw[hxB]at e3
          obtain⟨p,hp⟩:∃ p,sqA A B i j k=p:=⟨_,rfl⟩
          rw[hp]at t2
          obtain⟨m1,hm1⟩:∃ m1,IntKind.i64.wrap (xA*xB)=m1:=⟨_,rfl⟩
          obtain⟨m2,hm2⟩:∃ m2,IntKind.i64.wrap (p+m1)=m2:=⟨_,rfl⟩
          have hval:sqA A B i j (k+1)=m2:=by
           rw[<-hm2,<-hm1,<-hp,<-HXA.out,<-hxB];rfl
          have hset:=hT3.out.set (T':=sqT A B n i k (j+1)) i j m2 hil (fun a b _ _=>by rw[JY6,hval])
          have HTN:=hidS hset.1
          have HBN:=hidS (hb3.out.grown hset.2 hs3 (fun z hz=>by have:=Option.some.inj hz;omega))
          clear hset hval hp hxB hT3 hb3
          go_wp2
          go_roundw
          all_goals first
           |(simp only[intOf];omega)
           |exact⟨j+1,by omega,by go_num,HTN.out,HBN.out⟩
        · obtain rfl:j=n:=by omega
          have HTB:=hidS (hT3.out.congr (T':=sqT A B j i (k+1) 0) (fun x y _ hy=>JY5 A B j i k x y hy))
          have HBB:=hidS hb3.out
          clear hT3 hb3
          go_wp2
          go_roundw
          all_goals first
           |(simp only[intOf];omega)
           |exact⟨k+1,by omega,by go_num,HTB.out,HBB.out⟩
     · obtain rfl:k=n:=by omega
       have HTB:=hidS (hT2.out.congr (T':=sqT A B k (i+1) 0 0) (fun x y _ _=>JY7 A B k i x y))
       have HBB:=hidS hb2.out
       clear hT2 hb2
       go_wp2
       go_roundw
       all_goals first
        |(simp only[intOf];omega)
        |exact⟨i+1,by omega,by go_num,HTB.out,HBB.out⟩
  · obtain rfl:i=n:=by omega
    have HTB:=hidS (hT1.out.congr (T':=sqP A B i) (fun x y hx _=>Kw3 A B i x y hx))
    have HBB:=hidS hbW.out
    clear hT1 hbW
    go_wp2
    go_ret
    exact⟨gt,gs,rfl,HTB.out,HBB.out⟩
theorem Xg1 (v1 v2 : Value) (n : Nat) (A B : Nat → Nat → Int) (w : World) (hn : n ≤ 100) (h1 : SqR w w.heap.size v1 n A) (h2 : SqR w w.heap.size v2 n B) :
    Calls Tryz.prog 60 #[v1,v2] w fun e w'=>∃ gt gs,e=.returned (.slice (some ⟨gt,0,none⟩) n n)/\TabAt w.heap.size gt n gs n (sqP A B n) w'/\Below w.heap.size w w':=by
 obtain⟨a1,c1,rfl,f1⟩:=h1
 obtain⟨a2,c2,rfl,f2⟩:=h2
 rcases Nat.eq_zero_or_pos n with rfl|h0
 · exact Xv8 a1 a2 c1 c2 _ w
 · obtain⟨b1,o1,rfl,l1,r1⟩:=f1 h0
   obtain⟨b2,o2,rfl,l2,r2⟩:=f2 h0
   exact Xv7 b1 o1 c1 b2 o2 c2 n A B w h0 hn l1 l2 r1 r2
end Go.Proofs.YtookanmeflbdlaaGreatDoor
/- The walk of sign.chart.goeritz. -/
namespace Go.Proofs.YtookanmeflbdlaaGreatDoor
open Go.RowKit Go.Maps
set_option maxHeartbeats 16000000
set_option maxRecDepth 100000
theorem Xh2 (a : Option Addr) (cap : Nat) (C : List Cr) (loops : Int) (gF cF gT cT gM gS : Nat) (s : Nat → Nat) (sh : Nat) (w : World) (hm : QQ6 C loops = true) (hp : QX6 C = true) (ho : ZY2 C loops = true) (hs : Shd C s) (hsh : sh < 2) (h : Ch w a cap C gF gT gM gS (shL s (QQ3 C).length)) :
    Calls Tryz.prog 33 #[chV a cap C loops gF cF gT cT gM gS,.int .i64 (sh:Nat)] w fun e w'=>∃ gt gs,e=.returned (.tuple #[.slice (some ⟨gt,0,none⟩) (cnS s sh (QQ3 C).length) (cnS s sh (QQ3 C).length),.int .i64 (goF C s sh C.length)])/\TabAt w.heap.size gt (cnS s sh (QQ3 C).length) gs (cnS s sh (QQ3 C).length) (goT C s sh C.length) w'/\Below w.heap.size w w':=by
 obtain⟨s1,-,-,-⟩:=QX5 (QZ6 hm)
 obtain⟨h0,-,-⟩:=Xb0 hm ho
 have hFe:=Xk8 hm hp ho
 have hcl:=Zx5 s sh (QQ3 C).length
 obtain⟨b,off,ha,hbw,hCA⟩:=h.dr.cross h0
 subst ha
 have HPL:=hidS (fun(W:World) (hW:Below w.heap.size w W)=>ZF4 (some ⟨b,off,none⟩) cap C loops gF cF gT cT gM gS s sh W (by omega) (h.on hW))
 have HWO:=hidS (fun(c:Nat) (hc:c<C.length) (W:World) (hW:Below w.heap.size w W)=>Zu1 (some ⟨b,off,none⟩) cap C loops gF cF gT cT gM gS s c sh W hm hc (h.on hW))
 have HCA:=hidS (fun(W:World) (hW:Below w.heap.size w W)=>hCA.on hW hbw)
 have HWS:=hidS (fun c hc=>KJ0 hm hs c sh hc hsh)
 have HLT:=hidS (fun(f:Nat) (hf:f<(QQ3 C).length) (e:s f=sh)=>JW2 s sh hf e)
 unfold chV at HPL HWO ⊢
 obtain⟨F,hF⟩:∃ F,(QQ3 C).length=F:=⟨_,rfl⟩
 rw[hF]at HPL HWO HWS HLT hFe hcl ⊢
 obtain⟨m,hmm⟩:∃ m,cnS s sh F=m:=⟨_,rfl⟩
 rw[hmm]at HPL HLT hcl ⊢
 have hF9:F<=18:=by omega
 have HSQ:=hidS (fun W=>QA5 m W (by omega))
 obtain⟨V,hV⟩:∃ V,w.alloc (.cells #[.slice (some ⟨b,off,none⟩) C.length cap,.int .i64 loops,.slice (some ⟨gF,0,none⟩) (2*C.length+1) cF,.slice (some ⟨gT,0,none⟩) (2*C.length+1) cT,.map (some gM),.slice (some ⟨gS,0,none⟩) F F] 75)=V:=⟨_,rfl⟩
 have hB:Below w.heap.size w V:=by rw[<-hV];exact(Below.refl _ _).alloc (Nat.le_refl _) _
 have k0:V.heap[w.heap.size]?=some (.cells #[.slice (some ⟨b,off,none⟩) C.length cap,.int .i64 loops,.slice (some ⟨gF,0,none⟩) (2*C.length+1) cF,.slice (some ⟨gT,0,none⟩) (2*C.length+1) cT,.map (some gM),.slice (some ⟨gS,0,none⟩) F F] 75 (0,0)):=by rw[<-hV];exact alloc_at rfl
 have lV:w.heap.size<V.heap.size:=by rw[<-hV];simp
 have HSV:Hid (∀ W,Below V.heap.size V W->W.cell? ⟨w.heap.size,0,none⟩=some (.slice (some ⟨b,off,none⟩) C.length cap)/\W.cell? ⟨w.heap.size,1,none⟩=some (.int .i64 loops)/\W.cell? ⟨w.heap.size,2,none⟩=some (.slice (some ⟨gF,0,none⟩) (2*C.length+1) cF)/\W.cell? ⟨w.heap.size,3,none⟩=some (.slice (some ⟨gT,0,none⟩) (2*C.length+1) cT)/\W.cell? ⟨w.heap.size,4,none⟩=some (.map (some gM))/\W.cell? ⟨w.heap.size,5,none⟩=some (.slice (some ⟨gS,0,none⟩) F F)/\w.heap.size<W.heap.size):=fun W hW=>by
  have k:=(hW.block _ lV).trans k0
  exact⟨QQ0 k rfl,QQ0 k rfl,QQ0 k rfl,QQ0 k rfl,QQ0 k rfl,QQ0 k rfl,(Array.getElem?_eq_some_iff.1 k).1⟩
 have c0:=HSV.out V (Below.refl _ _)
 have HV:=hidS hV
 have HB:=hidS hB
 have HM:=hidS hmm
 have HF:=hidS hF
 clear h hCA hV hB k0 hm hp ho hs hF hmm hFe
 go_enter Tryz.func33,Tryz.ntmps33
 go_upto_region 1 with(fail)
 rw[HV.out]
 go_upto_region 2 with(go_at_call 57;refine(HPL.out _ HB.out).mono ?_;rintro e9 w2 ⟨gP,rfl,ho2,hb2⟩;have HB2:=hidS hb2;have HO2:=hidS ho2;clear ho2 hb2 c0)
 go_upto_region 3 with(go_at_call 58;refine(HSQ.out _).mono ?_;rintro e9 w3 ⟨gt,gs,rfl,ht3,hb3⟩;have HB3:=hidS hb3;have HT3:=hidS ht3;clear ht3 hb3)
 have hgP:=HO2.out.lt gP rfl
 have s2:=HB2.out.size
 have H3:=hidS (HB2.out.trans (HB3.out.mono HB2.out.size))
 have c0:=HSV.out w3 H3.out
 go_upto_region 4 with(fail)
 clear c0
 go_wp2
 go_loopw [5,28] (fun v5 v28 wr=>∃ c:Nat,c<=C.length/\v28=.int .i64 (c:Nat)/\v5=.int .i64 (goF C s sh c)/\Hid (TabAt w2.heap.size gt m gs m (goT C s sh c) wr)/\Hid (Below w2.heap.size w2 wr)) (fun _ v28 _=>C.length-(intOf v28).toNat)
 case atStart=>exact⟨0,Nat.zero_le _,rfl,rfl,HT3.out,HB3.out⟩
 case round=>
  clear HT3 HB3 H3
  rename World=>W1
  obtain⟨c,hc,rfl,rfl,htab,hbW⟩:=hrel
  by_cases hcl2:c<C.length
  · have hci:(c:Int)<(C.length:Int):=by omega
    have hci0:(0:Int)<=(c:Int):=by omega
    have hadd:IntKind.i64.wrap ((c:Int)+1)=(c:Int)+1:=IntWalk.i64_in _ (by omega)
    have hBV:=HB2.out.trans (hbW.out.mono HB2.out.size)
    have hBw:=HB.out.trans (hBV.mono (by omega))
    have c0:=HSV.out W1 hBV
    have hx:=HCA.out W1 hBw c hcl2
    obtain⟨x,hx0⟩:∃ x,C.getD c Cr.none=x:=⟨_,rfl⟩
    rw[hx0]at hx
    obtain⟨d0,d1,d2,d3,d4⟩:=hx
    have lb:b<W1.heap.size:=Nat.lt_of_lt_of_le hbw (by have:=hBw.size;omega)
    have HBw:=hidS hBw
    obtain⟨X,hX⟩:∃ X,W1.alloc (.cells #[.int .i64 x.a,.int .i64 x.b,.int .i64 x.c,.int .i64 x.d,.bool x.plus] 63)=X:=⟨_,rfl⟩
    have hb1:Below W1.heap.size W1 X:=by rw[<-hX];exact(Below.refl _ _).alloc (Nat.le_refl _) _
    have kx:X.heap[W1.heap.size]?=some (.cells #[.int .i64 x.a,.int .i64 x.b,.int .i64 x.c,.int .i64 x.d,.bool x.plus] 63 (0,0)):=by rw[<-hX];exact alloc_at rfl
    have HX:=hidS hX
    have HB1:=hidS hb1
    have HKX:=hidS kx
    have lkx:=(Array.getElem?_eq_some_iff.1 kx).1
    have HX0:=hidS hx0
    have sW:=hbW.out.size
    obtain⟨wo,hwo⟩:∃ wo,woM C s c sh=wo:=⟨_,rfl⟩
    have hw1:=Xu6 C s c sh
    have hws:=HWS.out c hcl2
    have HWC:=hidS (HWO.out c hcl2)
    rw[hwo]at hw1 hws HWC
    obtain⟨wv,f1,f2⟩:=wo
    dsimp only at hw1 hws HWC
    have HWOE:=hidS hwo
    have hp1:=HLT.out f1 hws.2.2.1 hws.1
    have hp2:=HLT.out f2 hws.2.2.2 hws.2.1
    have pl1:plF s sh f1=((cnS s sh f1:Nat):Int):=by unfold plF;rw[if_pos hws.1]
    have pl2:plF s sh f2=((cnS s sh f2:Nat):Int):=by unfold plF;rw[if_pos hws.2.1]
    clear hX hb1 kx hx0 hBw hBV hwo
    go_upto_region 6 with(fail)
    rw[HX.out]
    clear d0 d1 d2 d3 d4 c0
    have hBX:=hidS (hbW.out.trans (HB1.out.mono sW))
    have hVX:=hidS (HB2.out.trans (hBX.out.mono HB2.out.size))
    have c0:=HSV.out X hVX.out
    go_upto_region 7 with(go_at_call 59;refine(HWC.out _ (HB.out.trans (hVX.out.mono (by omega)))).mono ?_;rintro e9 w5 ⟨rfl,hb5⟩;have HB5:=hidS hb5;clear hb5 c0)
    obtain⟨i,hi⟩:∃ i,cnS s sh f1=i:=⟨_,rfl⟩
    obtain⟨j,hj⟩:∃ j,cnS s sh f2=j:=⟨_,rfl⟩
    rw[hi]at hp1 pl1
    rw[hj]at hp2 pl2
    have HI:=hidS hi
    have HJ:=hidS hj
    have h25:=hBX.out.trans (HB5.out.mono hBX.out.size)
    have H25:=hidS h25
    have s5:=h25.size
    have hf1:f1<F:=hws.2.2.1
    have hf2:f2<F:=hws.2.2.2
    have hf1i:(f1:Int)<(F:Int):=by omega
    have hf2i:(f2:Int)<(F:Int):=by omega
    have HSP:Hid (∀ W,Below w5.heap.size w5 W->(fun Y:World=>Y.cell? ⟨gP,f1,none⟩=some (.int .i64 (i:Nat))/\Y.cell? ⟨gP,f2,none⟩=some (.int .i64 (j:Nat))) W):=fun W hW=>by
     have g1:=(HO2.out.cellAt f1 (by omega)).trans (QZ1 _ f1 (by rw[QV1];exact hf1))
     have g2:=(HO2.out.cellAt f2 (by omega)).trans (QZ1 _ f2 (by rw[QV1];exact hf2))
     rw[QC8 _ _ _ hf1,pl1]at g1
     rw[QC8 _ _ _ hf2,pl2]at g2
     have hb:=H25.out.trans (hW.mono s5)
     exact⟨bcell hb hgP.2 g1,bcell hb hgP.2 g2⟩
    have HDV:Hid (Below w5.heap.size w5 w5.drew):=(Below.refl _ _).drew
    have lgP:gP<w5.heap.size:=by omega
    have lgPd:gP<w5.drew.heap.size:=lgP
    have HPL1:=hidS pl1
    have HPL2:=hidS pl2
    clear hi hj pl1 pl2 h25
    refine rhd HSP HDV.out (fun hHeld=>?_)
    refine tq 41 0 (h:=?_)
    refine tq 42 1 (h:=?_)
    refine tq 43 2 (h:=?_)
    refine tq 44 3 (h:=?_)
    refine tq 45 4 (h:=?_)
    refine tq 46 5 (h:=?_)
    refine tq 47 6 (h:=?_)
    refine tq 48 7 (h:=?_)
    refine tq 13 8 (h:=?_)
    refine tq 14 9 (h:=?_)
    simp only[List.setIfInBounds_toArray,List.set_cons_succ,List.set_cons_zero]
    refine wpAnyH_done (by kernel_rfl) ?_ _
    clear hHeld
    obtain⟨Y0,hY0⟩:∃ Y0,w5.drew=Y0:=⟨_,rfl⟩
    rw[hY0]at HDV ⊢
    have HT0:=hidS (htab.out.any (grown_below (HB1.out.trans ((HB5.out.trans (HDV.out.mono HB5.out.size)).mono HB1.out.size)) none))
    have HBY:=hidS (H25.out.trans (HDV.out.mono s5))
    have kx:=((HB5.out.trans (HDV.out.mono HB5.out.size)).block _ lkx).trans HKX.out
    have HKY:=hidS kx
    have HTL:=hidS (Kx1 C s sh c)
    have HFL:=hidS (Kx2 C s sh c)
    obtain⟨T,hT⟩:∃ T,goT C s sh c=T:=⟨_,rfl⟩
    obtain⟨fx,hfx⟩:∃ fx,goF C s sh c=fx:=⟨_,rfl⟩
    have HNT : Hid (goT C s sh (c + 1) = goS T i j wv) := (by
     show goS _ _ _ _=_
     rw[HWOE.out,HI.out,HJ.out,hT])
    have HNF : Hid (goF C s sh (c + 1) = fx + (if x.plus = decide (wv < 0) then wv else 0)) := (by
     show goF C s sh c+_=_
     rw[HWOE.out,HX0.out,hfx])
    rw[hT]at HTL HT0
    rw[hfx]at HFL ⊢
    have hY0s:W1.heap.size<Y0.heap.size:=(Array.getElem?_eq_some_iff.1 kx).1
    have htabR:=hidS htab.out.rows
    clear hT hfx hY0 kx htab
    obtain⟨pl,hpl⟩:∃ pl,x.plus=pl:=⟨_,rfl⟩
    obtain⟨bv,hbv⟩:∃ bv,decide (wv<0)=bv:=⟨_,rfl⟩
    rw[hpl]at HKY
    rw[hpl,hbv]at HNF
    have hfw:IntKind.i64.wrap (fx+wv)=fx+wv:=IntWalk.i64_in _ (by have:=HFL.out;omega)
    clear hpl
    by_cases hij:i=j
    · have hne:((i:Int) != (j:Int))=false:=by rw[hij];simp
      have HTN:Hid (TabAt w2.heap.size gt m gs m (goT C s sh (c+1)) Y0):=(by rw[HNT.out];unfold goS;rw[if_pos hij];exact HT0.out)
      have HBN:=hidS HBY.out
      clear hij
      have e4:Y0.cell? ⟨W1.heap.size,4,none⟩=some (.bool pl):=QQ0 HKY.out rfl
      have le:W1.heap.size<Y0.heap.size:=(Array.getElem?_eq_some_iff.1 HKY.out).1
      cases pl<;>cases bv
      all_goals
       go_wp2
       go_roundw
      all_goals first
       |(simp only[intOf];omega)
       |exact⟨c+1,by omega,by go_num,by rw[HNF.out];simp,HTN,HBN⟩
    · have hne : ((i : Int) != (j : Int)) = true := by
        have:((i:Int)==(j:Int))=false:=beq_eq_false_iff_ne.2 (by omega)
        simp only[bne,this]
        rfl
      have him:i<m:=hp1
      have hjm:j<m:=hp2
      have hii2:(i:Int)<(m:Int):=by omega
      have hjj2:(j:Int)<(m:Int):=by omega
      obtain⟨bb1,bb2,bb3,-⟩:=Kx3 (i:=i) (j:=j) HTL.out hw1
      have hb1:=HTL.out
      have hb2:=bb1
      have hb3:=bb2
      have hb4:=bb3
      have H1:=HT0
      have HGS:=hidS (show goT C s sh (c+1)=goD T i j wv by rw[HNT.out];unfold goS;rw[if_neg hij])
      obtain⟨TA,hTA⟩:∃ TA,goA T i j wv=TA:=⟨_,rfl⟩
      obtain⟨TB,hTB⟩:∃ TB,goB T i j wv=TB:=⟨_,rfl⟩
      obtain⟨TC,hTC⟩:∃ TC,goC T i j wv=TC:=⟨_,rfl⟩
      obtain⟨TD,hTD⟩:∃ TD,goD T i j wv=TD:=⟨_,rfl⟩
      have eTA:TA=up1 T i j (T i j-wv):=by rw[<-hTA];rfl
      have eTB:TB=up1 TA j i (TA j i-wv):=by rw[<-hTB,<-hTA];rfl
      have eTC:TC=up1 TB i i (TB i i+wv):=by rw[<-hTC,<-hTB];rfl
      have eTD:TD=up1 TC j j (TC j j+wv):=by rw[<-hTD,<-hTC];rfl
      rw[hTA]at hb2
      rw[hTB]at hb3
      rw[hTC]at hb4
      rw[hTD]at HGS
      clear bb1 bb2 bb3 hTA hTB hTC hTD hij
      have HETA:=hidS eTA
      have HETB:=hidS eTB
      have HETC:=hidS eTC
      have HETD:=hidS eTD
      clear eTA eTB eTC eTD
      have t1a:Y0.cell? ⟨gt,i,none⟩=some (.slice (some ⟨gs i,0,none⟩) m m):=H1.out.cellO i him him
      have t1b:Y0.cell? ⟨gs i,j,none⟩=some (.int .i64 (T i j)):=H1.out.cellR i j him hjm
      have t1c:Y0.frozen? ⟨gs i,j,none⟩=false:=(H1.out.rows i him).frozenAt j
      have t1d:gs i<Y0.heap.size:=((H1.out.rows i him).lt (gs i) rfl).2
      have t1e:gt<Y0.heap.size:=(H1.out.outer.lt gt rfl).2
      have hw1:IntKind.i64.wrap (T i j-wv)=T i j-wv:=IntWalk.i64_in _ (by have:=hb1 i j;omega)
      have hset1:=H1.out.set (T':=TA) i j (T i j-wv) him (fun a b _ _=>by rw[HETA.out];rfl)
      obtain⟨X1,hX1⟩:∃ X1,Y0.setCell ⟨gs i,j,none⟩ (.int .i64 (T i j - wv))=X1:=⟨_,rfl⟩
      rw[hX1]at hset1
      have HX1:=hidS hX1
      have H2:=hidS hset1.1
      have HG1:=hidS hset1.2
      have gl1:=((H1.out.rows i him).lt (gs i) rfl).1
      clear hset1 hX1
      go_upto_region 10 with(fail)
      rw[HX1.out]
      clear t1a t1b t1c t1d t1e hw1
      have t2a:X1.cell? ⟨gt,j,none⟩=some (.slice (some ⟨gs j,0,none⟩) m m):=H2.out.cellO j hjm hjm
      have t2b:X1.cell? ⟨gs j,i,none⟩=some (.int .i64 (TA j i)):=H2.out.cellR j i hjm him
      have t2c:X1.frozen? ⟨gs j,i,none⟩=false:=(H2.out.rows j hjm).frozenAt i
      have t2d:gs j<X1.heap.size:=((H2.out.rows j hjm).lt (gs j) rfl).2
      have t2e:gt<X1.heap.size:=(H2.out.outer.lt gt rfl).2
      have hw2:IntKind.i64.wrap (TA j i-wv)=TA j i-wv:=IntWalk.i64_in _ (by have:=hb2 j i;omega)
      have hset2:=H2.out.set (T':=TB) j i (TA j i-wv) hjm (fun a b _ _=>by rw[HETB.out];rfl)
      obtain⟨X2,hX2⟩:∃ X2,X1.setCell ⟨gs j,i,none⟩ (.int .i64 (TA j i - wv))=X2:=⟨_,rfl⟩
      rw[hX2]at hset2
      have HX2:=hidS hX2
      have H3:=hidS hset2.1
      have HG2:=hidS hset2.2
      have gl2:=((H2.out.rows j hjm).lt (gs j) rfl).1
      clear hset2 hX2
      go_upto_region 11 with(fail)
      rw[HX2.out]
      clear t2a t2b t2c t2d t2e hw2
      have t3a:X2.cell? ⟨gt,i,none⟩=some (.slice (some ⟨gs i,0,none⟩) m m):=H3.out.cellO i him him
      have t3b:X2.cell? ⟨gs i,i,none⟩=some (.int .i64 (TB i i)):=H3.out.cellR i i him him
      have t3c:X2.frozen? ⟨gs i,i,none⟩=false:=(H3.out.rows i him).frozenAt i
      have t3d:gs i<X2.heap.size:=((H3.out.rows i him).lt (gs i) rfl).2
      have t3e:gt<X2.heap.size:=(H3.out.outer.lt gt rfl).2
      have hw3:IntKind.i64.wrap (TB i i+wv)=TB i i+wv:=IntWalk.i64_in _ (by have:=hb3 i i;omega)
      have hset3:=H3.out.set (T':=TC) i i (TB i i+wv) him (fun a b _ _=>by rw[HETC.out];rfl)
      obtain⟨X3,hX3⟩:∃ X3,X2.setCell ⟨gs i,i,none⟩ (.int .i64 (TB i i+wv))=X3:=⟨_,rfl⟩
      rw[hX3]at hset3
      have HX3:=hidS hX3
      have H4:=hidS hset3.1
      have HG3:=hidS hset3.2
      have gl3:=((H3.out.rows i him).lt (gs i) rfl).1
      clear hset3 hX3
      go_upto_region 12 with(fail)
      rw[HX3.out]
      clear t3a t3b t3c t3d t3e hw3
      have t4a:X3.cell? ⟨gt,j,none⟩=some (.slice (some ⟨gs j,0,none⟩) m m):=H4.out.cellO j hjm hjm
      have t4b:X3.cell? ⟨gs j,j,none⟩=some (.int .i64 (TC j j)):=H4.out.cellR j j hjm hjm
      have t4c:X3.frozen? ⟨gs j,j,none⟩=false:=(H4.out.rows j hjm).frozenAt j
      have t4d:gs j<X3.heap.size:=((H4.out.rows j hjm).lt (gs j) rfl).2
      have t4e:gt<X3.heap.size:=(H4.out.outer.lt gt rfl).2
      have hw4:IntKind.i64.wrap (TC j j+wv)=TC j j+wv:=IntWalk.i64_in _ (by have:=hb4 j j;omega)
      have hset4:=H4.out.set (T':=TD) j j (TC j j+wv) hjm (fun a b _ _=>by rw[HETD.out];rfl)
      obtain⟨X4,hX4⟩:∃ X4,X3.setCell ⟨gs j,j,none⟩ (.int .i64 (TC j j+wv))=X4:=⟨_,rfl⟩
      rw[hX4]at hset4
      have HX4:=hidS hX4
      have H5:=hidS hset4.1
      have HG4:=hidS hset4.2
      have gl4:=((H4.out.rows j hjm).lt (gs j) rfl).1
      clear hset4 hX4
      go_upto_region 13 with(fail)
      rw[HX4.out]
      clear t4a t4b t4c t4d t4e hw4
      have far:∀ q o,q<w2.heap.size∨q=W1.heap.size->Y0.heap[q]?=some o->(∀ r,r<m->gs r≠q)->X4.heap[q]?=some o:=fun q o _ hq hr=>by
       have l0:=(Array.getElem?_eq_some_iff.1 hq).1
       have a1:=(HG1.out.block q l0 (fun e=>hr i him (Option.some.inj e).symm)).trans hq
       have a2:=(HG2.out.block q (Array.getElem?_eq_some_iff.1 a1).1 (fun e=>hr j hjm (Option.some.inj e).symm)).trans a1
       have a3:=(HG3.out.block q (Array.getElem?_eq_some_iff.1 a2).1 (fun e=>hr i him (Option.some.inj e).symm)).trans a2
       exact(HG4.out.block q (Array.getElem?_eq_some_iff.1 a3).1 (fun e=>hr j hjm (Option.some.inj e).symm)).trans a3
      have HK4:=hidS (far W1.heap.size _ (Or.inr rfl) HKY.out (fun r hr e=>by have:=((htabR.out r hr).lt (gs r) rfl).2;omega))
      have HTN:Hid (TabAt w2.heap.size gt m gs m (goT C s sh (c+1)) X4):=(by rw[HGS.out];exact H5.out)
      have HBN:Hid (Below w2.heap.size w2 X4):=(((HBY.out.grown HG1.out HBY.out.size (fun q hq=>by have:=Option.some.inj hq;omega)).grown HG2.out (by have:=HBY.out.size;have:=HG1.out.size;omega) (fun q hq=>by have:=Option.some.inj hq;omega)).grown HG3.out (by have:=HBY.out.size;have:=HG1.out.size;have:=HG2.out.size;omega) (fun q hq=>by have:=Option.some.inj hq;omega)).grown HG4.out (by have:=HBY.out.size;have:=HG1.out.size;have:=HG2.out.size;have:=HG3.out.size;omega) (fun q hq=>by have:=Option.some.inj hq;omega)
      clear far
      have e4:X4.cell? ⟨W1.heap.size,4,none⟩=some (.bool pl):=QQ0 HK4.out rfl
      have le:W1.heap.size<X4.heap.size:=(Array.getElem?_eq_some_iff.1 HK4.out).1
      cases pl<;>cases bv
      all_goals
       go_wp2
       go_roundw
      all_goals first
       |(simp only[intOf];omega)
       |exact⟨c+1,by omega,by go_num,by rw[HNF.out];simp,HTN,HBN⟩
  · obtain rfl:c=C.length:=by omega
    have HTB:=hidS htab.out
    have HBB:=hidS hbW.out
    clear htab hbW
    go_wp2
    refine bodyPost_ret (v:=.tuple #[.slice (some ⟨gt,0,none⟩) m m,.int .i64 (goF C s sh C.length)]) (by simp[results,Tryz.results33,go_sem]) rfl ⟨gt,gs,rfl,⟨QZ7 HTB.out.outer (by omega),fun q hq=>QZ7 (HTB.out.rows q hq) (by omega),HTB.out.inj⟩,HB.out.trans ((HB2.out.trans (HBB.out.mono HB2.out.size)).mono (by omega))⟩
end Go.Proofs.YtookanmeflbdlaaGreatDoor

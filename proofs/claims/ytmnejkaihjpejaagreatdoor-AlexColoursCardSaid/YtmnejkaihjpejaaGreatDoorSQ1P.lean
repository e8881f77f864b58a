/- Several texts of the proof, one behind the other. -/
import Derived.Test.YtmnejkaihjpejaaGreatDoorSG7P
/- Square tables of numbers that are read; the walk of sign.withoutFirst. -/
namespace Go.Proofs.YtmnejkaihjpejaaGreatDoor
open Go.RowKit Go.Maps
set_option maxHeartbeats 8000000
set_option maxRecDepth 100000
def SqR (W:World) (B:Nat) (v:Value) (n:Nat) (A:Nat->Nat->Int):Prop:=
 ∃ a c,v=.slice a n c/\(0<n->∃ b off,a=some ⟨b,off,none⟩/\b<B/\∀ i,i<n->∃ g o q,W.cell? ⟨b,off+i,none⟩=some (.slice (some ⟨g,o,none⟩) n q)/\g<B/\∀ j,j<n->W.cell? ⟨g,o+j,none⟩=some (.int .i64 (A i j)))
theorem SqR.on {W W':World} {B n:Nat} {v:Value} {A:Nat->Nat->Int} (h:SqR W B v n A) (hb:Below B W W'):SqR W' B v n A:=by
 obtain⟨a,c,rfl,f⟩:=h
 refine⟨a,c,rfl,fun h0=>?_⟩
 obtain⟨b,off,rfl,hlt,hr⟩:=f h0
 refine⟨b,off,rfl,hlt,fun i hi=>?_⟩
 obtain⟨g,o,q,h1,h2,h3⟩:=hr i hi
 exact⟨g,o,q,bcell hb hlt h1,h2,fun j hj=>bcell hb h2 (h3 j hj)⟩
theorem SqR.mono {W:World} {B B' n:Nat} {v:Value} {A:Nat->Nat->Int} (h:SqR W B v n A) (hB:B<=B'):SqR W B' v n A:=by
 obtain⟨a,c,rfl,f⟩:=h
 refine⟨a,c,rfl,fun h0=>?_⟩
 obtain⟨b,off,rfl,hlt,hr⟩:=f h0
 refine⟨b,off,rfl,Nat.lt_of_lt_of_le hlt hB,fun i hi=>?_⟩
 obtain⟨g,o,q,h1,h2,h3⟩:=hr i hi
 exact⟨g,o,q,h1,Nat.lt_of_lt_of_le h2 hB,h3⟩
theorem SqR.up {W W':World} {n:Nat} {v:Value} {A:Nat->Nat->Int} (h:SqR W W.heap.size v n A) (hb:Below W.heap.size W W'):SqR W' W'.heap.size v n A:=(h.on hb).mono hb.size
theorem sq_tab {W:World} {B gt n:Nat} {gs:Nat->Nat} {T:Nat->Nat->Int} (h:TabAt B gt n gs n T W):SqR W W.heap.size (.slice (some ⟨gt,0,none⟩) n n) n T:=
 ⟨_,_,rfl,fun _=>⟨gt,0,rfl,(h.outer.lt gt rfl).2,fun i hi=>⟨gs i,0,n,by rw[Nat.zero_add];exact h.cellO i hi hi,((h.rows i hi).lt (gs i) rfl).2,fun j hj=>by rw[Nat.zero_add];exact h.cellR i j hi hj⟩⟩⟩
def wfL (gs:Nat->Nat) (n k:Nat):List Value:=(List.range k).map fun i=>.slice (some ⟨gs (i+1),1,none⟩) n n
theorem wfL_next (gs:Nat->Nat) (n k:Nat):wfL gs n k++[.slice (some ⟨gs (k+1),1,none⟩) n n]=wfL gs n (k+1):=by simp[wfL,List.range_succ]
theorem wfL_get (gs:Nat->Nat) (n k i:Nat) (h:i<k):(wfL gs n k)[i]?=some (.slice (some ⟨gs (i+1),1,none⟩) n n):=by simp[wfL,h]
theorem own_someQ {w:World} {B e s n:Nat} {v:Value} {xs:List Value} (h:w.ownsRow B e s v n xs) (hn:1<=n):∃ g c,v=.slice (some ⟨g,0,none⟩) n c/\B<=g/\g<w.heap.size:=by
 have h0:=h
 rcases h.2 with⟨rfl,h1⟩|⟨g,cap,cur,rfl,h2,_⟩
 · omega
 · exact⟨g,cap,rfl,(h0.lt g rfl).1,(h0.lt g rfl).2⟩
theorem one_slice (v:Value) (a:Option Addr) (n c:Nat) (h:v=.slice a n c):∀ u∈[v],u.oneCell'=true:=by
 intro u hu
 rw[List.mem_singleton]at hu
 subst hu h
 rfl
theorem withoutFirst_none (gt : Nat) (A : Nat → Nat → Int) (w : World) :
    Calls Tryz.prog 28 #[.slice (some ⟨gt,0,none⟩) 1 1] w fun e w'=>∃ v,e=.returned v/\SqR w' w'.heap.size v 0 A/\Below w.heap.size w w':=by
 go_enter Tryz.func28,Tryz.ntmps28
 go_wp2
 go_loopw [9,3,5] (fun v9 v3 _ wr=>v9=.int .i64 0/\v3=.slice none 0 0/\Below w.heap.size w wr) (fun _ _ _ _=>0)
 case atStart=>exact⟨rfl,rfl,Below.refl _ _⟩
 case round=>
  obtain⟨rfl,rfl,hb⟩:=hrel
  go_wp2
  go_ret
  exact⟨_,rfl,⟨_,_,rfl,fun h=>absurd h (Nat.lt_irrefl _)⟩,hb⟩
theorem withoutFirst_some (B gt n : Nat) (gs : Nat → Nat) (T : Nat → Nat → Int) (w : World) (h0 : 0 < n) (hn : n ≤ 100) (h : TabAt B gt (n + 1) gs (n + 1) T w) :
    Calls Tryz.prog 28 #[.slice (some ⟨gt,0,none⟩) (n+1) (n+1)] w fun e w'=>∃ v,e=.returned v/\SqR w' w'.heap.size v n (fun i j=>T (i+1) (j+1))/\Below w.heap.size w w':=by
 obtain⟨i1,hj,hy0,hy1,hy2⟩:=info_parts infoInts
 have hgt:=(h.outer.lt gt rfl).2
 have HCO:=hidS (fun(W:World) (hW:Below w.heap.size w W) (i:Nat) (hi:i<n)=>bcell hW hgt (h.cellO (i+1) (by omega) (by omega)))
 have HCR:=hidS (fun(W:World) (hW:Below w.heap.size w W) (i j:Nat) (hi:i<n) (hj:j<n)=>bcell hW ((h.rows (i+1) (by omega)).lt (gs (i+1)) rfl).2 (h.cellR (i+1) (j+1) (by omega) (by omega)))
 have HLT:=hidS (fun(i:Nat) (hi:i<n)=>((h.rows (i+1) (by omega)).lt (gs (i+1)) rfl).2)
 have HB:=hidS (Below.refl w.heap.size w)
 have HO0:=hidS (World.ownsRow_nil w w.heap.size 26 1)
 obtain⟨m,hm⟩:∃ m,n+1=m:=⟨_,rfl⟩
 have hm1:n+1<=m/\m<=n+1:=by omega
 have es:m-1=n:=by omega
 have hne:¬ m=1:=by omega
 rw[hm]
 rw[hm]at HCO
 clear h hm
 go_enter Tryz.func28,Tryz.ntmps28
 go_wp2
 go_loopw [9,3,5] (fun v9 v3 _ wr=>∃ (k:Nat) (a3:Option Addr) (c3:Nat),k<=n/\v9=.int .i64 (k:Nat)/\v3=.slice a3 k c3/\Hid (wr.ownsRow w.heap.size 26 1 (.slice a3 k c3) k (wfL gs n k))/\Hid (Below w.heap.size w wr)) (fun v9 _ _ _=>n-(intOf v9).toNat)
 case atStart=>exact⟨0,none,0,Nat.zero_le _,rfl,rfl,HO0.out,HB.out⟩
 case round=>
  clear HB HO0
  rename World=>W1
  obtain⟨k,a3,c3,hk,rfl,rfl,hO,hb⟩:=hrel
  by_cases hkn:k<n
  · have e0:=HCO.out W1 hb.out k hkn
    have hl:=HLT.out k hkn
    have hsW:=hb.out.size
    obtain⟨k1,hk1⟩:∃ k1,k+1=k1:=⟨_,rfl⟩
    have hoff:1+k=k+1:=Nat.add_comm _ _
    obtain⟨g,hg⟩:∃ g,gs (k+1)=g:=⟨_,rfl⟩
    have HG:=hidS hg
    rw[hg]at e0 hl
    have hkI:(k:Int)<(n:Int):=by omega
    clear hk1 hg
    have hgl:gt<W1.heap.size:=by omega
    go_wp2_with (first|(at_builtin;refine wpList_append_own _ rfl _ _ 54 rfl w.heap.size 26 i1 (.slice none 0 0) 1 24 Tryz.underlying54 hj hy0 hy1 hy2 rfl (by decide) _ _ _ rfl (hO.out.alloc _) ⟨W1.heap.size,0,none⟩ 1 1 [Value.slice (some ⟨g,1,none⟩) n n] rfl rfl (new_cell1 _ _ _) (one_slice _ _ _ _ rfl) (by unfold maxLen;omega) (by omega) (by simp;omega) ?_;intro v8 w8 hown8 hg8 _;refine Hid.out ?_))
    refine Lib.hid ?_
    rw[<-HG.out,wfL_next]at hown8
    have hown9:w8.ownsRow w.heap.size 26 1 v8 (k+1) (wfL gs n (k+1)):=by simpa using hown8
    obtain⟨a8,c8,e8⟩:=own_capS hown9
    subst e8
    have HO8:=hidS hown9
    have HB8:=hidS ((hb.out.alloc hb.out.size _).grown hg8 (by simp;omega) (fun q hq=>(hO.out.lt q hq).1))
    clear hown8 hown9 hg8
    go_wp2
    go_roundw
    all_goals first
     |(simp only[intOf];omega)
     |exact⟨k+1,a8,c8,by omega,by go_num,by first|rfl|simp,HO8.out,HB8.out⟩
  · obtain rfl:k=n:=by omega
    have HO8:=hidS hO.out
    have HB8:=hidS hb.out
    clear hO hb
    obtain⟨g3,c3',e3,hg3,hg3s⟩:=own_someQ HO8.out h0
    injection e3 with e31 e32 e33
    subst e31
    clear e32 e33
    go_wp2
    go_ret
    refine⟨_,rfl,⟨_,_,rfl,fun _=>⟨g3,0,rfl,hg3s,fun i hi=>⟨gs (i+1),1,k,?_,?_,fun j hj=>?_⟩⟩⟩,HB8.out⟩
    · rw[Nat.zero_add,HO8.out.cellAt i (by omega),wfL_get _ _ _ _ hi]
    · exact Nat.lt_of_lt_of_le (HLT.out i hi) HB8.out.size
    · rw[Nat.add_comm 1 j];exact HCR.out _ HB8.out i j hi hj
theorem withoutFirst_any (B gt n : Nat) (gs : Nat → Nat) (T : Nat → Nat → Int) (w : World) (hn : n ≤ 100) (h : TabAt B gt (n + 1) gs (n + 1) T w) :
    Calls Tryz.prog 28 #[.slice (some ⟨gt,0,none⟩) (n+1) (n+1)] w fun e w'=>∃ v,e=.returned v/\SqR w' w'.heap.size v n (fun i j=>T (i+1) (j+1))/\Below w.heap.size w w':=by
 rcases Nat.eq_zero_or_pos n with rfl|h0
 · exact withoutFirst_none gt _ w
 · exact withoutFirst_some B gt n gs T w h0 hn h
end Go.Proofs.YtmnejkaihjpejaaGreatDoor
/- The walk of sign.product. -/
namespace Go.Proofs.YtmnejkaihjpejaaGreatDoor
open Go.RowKit Go.Maps
set_option maxHeartbeats 8000000
set_option maxRecDepth 100000
def sqA (A B:Nat->Nat->Int) (i j:Nat):Nat->Int
 |0=>0
 |k+1=>IntKind.i64.wrap (sqA A B i j k+IntKind.i64.wrap (A i k*B k j))
def sqP (A B:Nat->Nat->Int) (n:Nat):Nat->Nat->Int:=fun i j=>sqA A B i j n
def sqT (A B:Nat->Nat->Int) (n i k j:Nat):Nat->Nat->Int:=fun a b=>if a<i then sqA A B a b n else if a=i then(if b<j then sqA A B a b (k+1) else sqA A B a b k) else 0
theorem sqT_start (A B:Nat->Nat->Int) (n:Nat) (a b:Nat):sqT A B n 0 0 0 a b=0:=by
 unfold sqT
 rw[if_neg (Nat.not_lt_zero _),if_neg (Nat.not_lt_zero _)]
 split<;>rfl
theorem sqT_k (A B:Nat->Nat->Int) (n i k a b:Nat) (hb:b<n):sqT A B n i (k+1) 0 a b=sqT A B n i k n a b:=by
 unfold sqT
 rw[if_neg (Nat.not_lt_zero b),if_pos hb]
theorem sqT_i (A B:Nat->Nat->Int) (n i a b:Nat):sqT A B n (i+1) 0 0 a b=sqT A B n i n 0 a b:=by
 unfold sqT
 rw[if_neg (Nat.not_lt_zero b),if_neg (Nat.not_lt_zero b)]
 by_cases h1:a<i
 · rw[if_pos h1,if_pos (by omega)]
 · by_cases h2:a=i
   · rw[if_neg h1,if_pos h2,if_pos (by omega)]
   · rw[if_neg h1,if_neg h2,if_neg (by omega)]
     split<;>rfl
theorem sqT_end (A B:Nat->Nat->Int) (n a b:Nat) (ha:a<n):sqP A B n a b=sqT A B n n 0 0 a b:=by
 unfold sqT sqP
 rw[if_pos ha]
theorem sqT_j (A B:Nat->Nat->Int) (n i k j a b:Nat):sqT A B n i k (j+1) a b=if a=i/\b=j then sqA A B i j (k+1) else sqT A B n i k j a b:=by
 unfold sqT
 by_cases h:a=i/\b=j
 · obtain⟨rfl,rfl⟩:=h
   rw[if_neg (by omega),if_pos rfl,if_pos (by omega),if_pos ⟨rfl,rfl⟩]
 · rw[if_neg h]
   by_cases h1:a<i
   · rw[if_pos h1,if_pos h1]
   · by_cases h2:a=i
     · rw[if_neg h1,if_pos h2,if_neg h1,if_pos h2]
       by_cases h3:b<j
       · rw[if_pos h3,if_pos (by omega)]
       · rw[if_neg h3,if_neg (by omega)]
     · rw[if_neg h1,if_neg h2,if_neg h1,if_neg h2]
theorem sqT_at (A B:Nat->Nat->Int) (n i k j:Nat):sqT A B n i k j i j=sqA A B i j k:=by
 unfold sqT
 rw[if_neg (Nat.lt_irrefl _),if_pos rfl,if_neg (Nat.lt_irrefl _)]
theorem product_none (a1 a2 : Option Addr) (c1 c2 : Nat) (A : Nat → Nat → Int) (w : World) :
    Calls Tryz.prog 50 #[.slice a1 0 c1,.slice a2 0 c2] w fun e w'=>∃ gt gs,e=.returned (.slice (some ⟨gt,0,none⟩) 0 0)/\TabAt w.heap.size gt 0 gs 0 A w'/\Below w.heap.size w w':=by
 have HSQ:=hidS (fun W=>squareS_any 0 W (by omega))
 go_enter Tryz.func50,Tryz.ntmps50
 go_wp2_with (go_at_call 48;refine(HSQ.out _).mono ?_;rintro e9 w1 ⟨gt,gs,rfl,hT,hb1⟩;refine Hid.out ?_)
 refine Lib.hid ?_
 have HT:=hidS (hT.congr (T':=A) (fun x y hx=>absurd hx (Nat.not_lt_zero _)))
 have HB:=hidS hb1
 clear hT hb1
 go_wp2
 go_loopw [17,6,7,8,9,10,11,24,34] (fun v17 _ _ _ _ _ _ _ _ wr=>v17=.int .i64 0/\Hid (TabAt w.heap.size gt 0 gs 0 A wr)/\Hid (Below w.heap.size w wr)) (fun _ _ _ _ _ _ _ _ _ _=>0)
 case atStart=>exact⟨rfl,HT.out,HB.out⟩
 case round=>
  clear HT HB
  obtain⟨rfl,hT,hb⟩:=hrel
  go_wp2
  go_ret
  exact⟨gt,gs,rfl,hT.out,hb.out⟩
theorem product_some (b1 o1 c1 b2 o2 c2 n : Nat) (A B : Nat → Nat → Int) (w : World) (h0 : 0 < n) (hn : n ≤ 100) (l1 : b1 < w.heap.size) (l2 : b2 < w.heap.size)
    (h1:∀ i,i<n->∃ g o q,w.cell? ⟨b1,o1+i,none⟩=some (.slice (some ⟨g,o,none⟩) n q)/\g<w.heap.size/\∀ j,j<n->w.cell? ⟨g,o+j,none⟩=some (.int .i64 (A i j)))
    (h2:∀ i,i<n->∃ g o q,w.cell? ⟨b2,o2+i,none⟩=some (.slice (some ⟨g,o,none⟩) n q)/\g<w.heap.size/\∀ j,j<n->w.cell? ⟨g,o+j,none⟩=some (.int .i64 (B i j))):
    Calls Tryz.prog 50 #[.slice (some ⟨b1,o1,none⟩) n c1,.slice (some ⟨b2,o2,none⟩) n c2] w fun e w'=>∃ gt gs,e=.returned (.slice (some ⟨gt,0,none⟩) n n)/\TabAt w.heap.size gt n gs n (sqP A B n) w'/\Below w.heap.size w w':=by
 have HSQ:=hidS (fun W=>squareS_any n W hn)
 have H1:=hidS h1
 have H2:=hidS h2
 clear h1 h2
 go_enter Tryz.func50,Tryz.ntmps50
 go_wp2_with (go_at_call 48;refine(HSQ.out _).mono ?_;rintro e9 w1 ⟨gt,gs,rfl,hT,hb1⟩;refine Hid.out ?_)
 refine Lib.hid ?_
 have HT:=hidS (hT.congr (T':=sqT A B n 0 0 0) (fun x y _ _=>sqT_start A B n x y))
 have HB:=hidS hb1
 clear hT hb1
 go_wp2
 go_loopw [17,6,7,8,9,10,11,24,34] (fun v17 _ _ _ _ _ _ _ _ wr=>∃ i:Nat,i<=n/\v17=.int .i64 (i:Nat)/\Hid (TabAt w.heap.size gt n gs n (sqT A B n i 0 0) wr)/\Hid (Below w.heap.size w wr)) (fun v17 _ _ _ _ _ _ _ _ _=>n-(intOf v17).toNat)
 case atStart=>exact⟨0,Nat.zero_le _,rfl,HT.out,HB.out⟩
 case round=>
  clear HT HB
  rename World=>W1
  obtain⟨i,hin,rfl,hT1,hbW⟩:=hrel
  by_cases hil:i<n
  · obtain⟨g,o,q,r1,r2,r3⟩:=H1.out i hil
    have hsW:=hbW.out.size
    have e0:=bcell hbW.out l1 r1
    have HR3:=hidS r3
    have hbl:b1<W1.heap.size:=by omega
    clear r1 r3
    have HT1:=hidS hT1.out
    have HB1:=hidS hbW.out
    clear hT1 hbW
    go_wp2
    go_loopw [24,8,9,10,11,34] (fun v24 _ _ _ _ _ wr=>∃ k:Nat,k<=n/\v24=.int .i64 (k:Nat)/\Hid (TabAt w.heap.size gt n gs n (sqT A B n i k 0) wr)/\Hid (Below w.heap.size w wr)) (fun v24 _ _ _ _ _ _=>n-(intOf v24).toNat)
    case atStart=>exact⟨0,Nat.zero_le _,rfl,HT1.out,HB1.out⟩
    case round=>
     clear HT1 HB1 e0 hbl hsW
     rename World=>W2
     obtain⟨k,hkn,rfl,hT2,hb2⟩:=hrel
     by_cases hkl:k<n
     · obtain⟨g2,p2,q2,s1,s2,s3⟩:=H2.out k hkl
       have hs2:=hb2.out.size
       have e1:=bcell hb2.out r2 (HR3.out k hkl)
       have e2:=bcell hb2.out l2 s1
       have HS3:=hidS s3
       have hgl:g<W2.heap.size:=by omega
       have hbl:b2<W2.heap.size:=by omega
       obtain⟨xA,hxA⟩:∃ xA,A i k=xA:=⟨_,rfl⟩
       rw[hxA]at e1
       have HXA:=hidS hxA
       clear s1 s3 hxA
       have HT2:=hidS hT2.out
       have HB2:=hidS hb2.out
       clear hT2 hb2
       go_wp2
       go_loopw [34,10,11] (fun v34 _ _ wr=>∃ j:Nat,j<=n/\v34=.int .i64 (j:Nat)/\Hid (TabAt w.heap.size gt n gs n (sqT A B n i k j) wr)/\Hid (Below w.heap.size w wr)) (fun v34 _ _ _=>n-(intOf v34).toNat)
       case atStart=>exact⟨0,Nat.zero_le _,rfl,HT2.out,HB2.out⟩
       case round=>
        clear HT2 HB2 e1 e2 hgl hbl hs2
        rename World=>W3
        obtain⟨j,hjn,rfl,hT3,hb3⟩:=hrel
        by_cases hjl:j<n
        · have hs3:=hb3.out.size
          have e3:=bcell hb3.out s2 (HS3.out j hjl)
          have hgl:g2<W3.heap.size:=by omega
          have t1:W3.cell? ⟨gt,i,none⟩=some (.slice (some ⟨gs i,0,none⟩) n n):=hT3.out.cellO i hil hil
          have t2:W3.cell? ⟨gs i,j,none⟩=some (.int .i64 (sqT A B n i k j i j)):=hT3.out.cellR i j hil hjl
          have t3:W3.frozen? ⟨gs i,j,none⟩=false:=(hT3.out.rows i hil).frozenAt j
          have t4:gs i<W3.heap.size:=((hT3.out.rows i hil).lt (gs i) rfl).2
          have t5:gt<W3.heap.size:=(hT3.out.outer.lt gt rfl).2
          have t6:=((hT3.out.rows i hil).lt (gs i) rfl).1
          rw[sqT_at]at t2
          obtain⟨xB,hxB⟩:∃ xB,B k j=xB:=⟨_,rfl⟩
          rw[hxB]at e3
          obtain⟨p,hp⟩:∃ p,sqA A B i j k=p:=⟨_,rfl⟩
          rw[hp]at t2
          obtain⟨m1,hm1⟩:∃ m1,IntKind.i64.wrap (xA*xB)=m1:=⟨_,rfl⟩
          obtain⟨m2,hm2⟩:∃ m2,IntKind.i64.wrap (p+m1)=m2:=⟨_,rfl⟩
          have hval:sqA A B i j (k+1)=m2:=by
           rw[<-hm2,<-hm1,<-hp,<-HXA.out,<-hxB];rfl
          have hset:=hT3.out.set (T':=sqT A B n i k (j+1)) i j m2 hil (fun a b _ _=>by rw[sqT_j,hval])
          have HTN:=hidS hset.1
          have HBN:=hidS (hb3.out.grown hset.2 hs3 (fun z hz=>by have:=Option.some.inj hz;omega))
          clear hset hval hp hxB hT3 hb3
          go_wp2
          go_roundw
          all_goals first
           |(simp only[intOf];omega)
           |exact⟨j+1,by omega,by go_num,HTN.out,HBN.out⟩
        · obtain rfl:j=n:=by omega
          have HTB:=hidS (hT3.out.congr (T':=sqT A B j i (k+1) 0) (fun x y _ hy=>sqT_k A B j i k x y hy))
          have HBB:=hidS hb3.out
          clear hT3 hb3
          go_wp2
          go_roundw
          all_goals first
           |(simp only[intOf];omega)
           |exact⟨k+1,by omega,by go_num,HTB.out,HBB.out⟩
     · obtain rfl:k=n:=by omega
       have HTB:=hidS (hT2.out.congr (T':=sqT A B k (i+1) 0 0) (fun x y _ _=>sqT_i A B k i x y))
       have HBB:=hidS hb2.out
       clear hT2 hb2
       go_wp2
       go_roundw
       all_goals first
        |(simp only[intOf];omega)
        |exact⟨i+1,by omega,by go_num,HTB.out,HBB.out⟩
  · obtain rfl:i=n:=by omega
    have HTB:=hidS (hT1.out.congr (T':=sqP A B i) (fun x y hx _=>sqT_end A B i x y hx))
    have HBB:=hidS hbW.out
    clear hT1 hbW
    go_wp2
    go_ret
    exact⟨gt,gs,rfl,HTB.out,HBB.out⟩
theorem product_any (v1 v2 : Value) (n : Nat) (A B : Nat → Nat → Int) (w : World) (hn : n ≤ 100) (h1 : SqR w w.heap.size v1 n A) (h2 : SqR w w.heap.size v2 n B) :
    Calls Tryz.prog 50 #[v1,v2] w fun e w'=>∃ gt gs,e=.returned (.slice (some ⟨gt,0,none⟩) n n)/\TabAt w.heap.size gt n gs n (sqP A B n) w'/\Below w.heap.size w w':=by
 obtain⟨a1,c1,rfl,f1⟩:=h1
 obtain⟨a2,c2,rfl,f2⟩:=h2
 rcases Nat.eq_zero_or_pos n with rfl|h0
 · exact product_none a1 a2 c1 c2 _ w
 · obtain⟨b1,o1,rfl,l1,r1⟩:=f1 h0
   obtain⟨b2,o2,rfl,l2,r2⟩:=f2 h0
   exact product_some b1 o1 c1 b2 o2 c2 n A B w h0 hn l1 l2 r1 r2
end Go.Proofs.YtmnejkaihjpejaaGreatDoor
/- The walks of sign.Shades and sign.Goeritz. -/
namespace Go.Proofs.YtmnejkaihjpejaaGreatDoor
open Go.RowKit Go.Maps
set_option maxHeartbeats 4000000
set_option maxRecDepth 100000
theorem own_raise {w:World} {B e s n g c:Nat} {xs:List Value} (h:w.ownsRow 0 e s (.slice (some ⟨g,0,none⟩) n c) n xs) (hB:B<=g):w.ownsRow B e s (.slice (some ⟨g,0,none⟩) n c) n xs:=by
 obtain⟨h1,h2⟩:=h
 refine⟨h1,?_⟩
 rcases h2 with⟨h3,h4⟩|⟨g',cap,cur,hv,hb,rest⟩
 · exact Or.inl ⟨h3,h4⟩
 · have e:g=g':=by injection hv with e1;injection e1 with e2;injection e2
   exact Or.inr ⟨g',cap,cur,hv,by omega,rest⟩
def oneN (C:List Cr) (loops:Int):Int:=if noN C loops≠0 then noN C loops else if oneB C loops=true then 0 else 6
theorem chart_bad (v : Value) (C : List Cr) (loops : Int) (w : World) (hr : oneN C loops ≠ 0) (h : Crs w w.heap.size v C) :
    Calls Tryz.prog 14 #[.agg #[v,.int .i64 loops]] w fun e w'=>e=.returned (.tuple #[noChart,.int .i64 (oneN C loops)])/\Below w.heap.size w w':=by
 refine chart_no v C loops _ w hr h (fun W hW=>?_)
 by_cases hn:noN C loops≠0
 · have e:oneN C loops=noN C loops:=by unfold oneN;rw[if_pos hn]
   rw[e]
   exact single_no faceRingsS v C loops W hn hW
 · have hn0:noN C loops=0:=Decidable.not_not.1 hn
   have hb:oneB C loops=false:=by
    cases hb:oneB C loops with
    |false=>rfl
    |true=>exact absurd (by unfold oneN;rw[if_neg hn,if_pos hb]) hr
   have e:oneN C loops=6:=by unfold oneN;rw[if_neg hn,hb];rfl
   rw[e]
   have h6:=single_some faceRingsS v C loops W hn0 hW
   rw[hb]at h6
   exact h6
theorem oneN_zero {C:List Cr} {loops:Int} (h:oneN C loops=0):mayD C loops=true/\planarB C=true/\oneB C loops=true:=by
 unfold oneN at h
 by_cases hn:noN C loops≠0
 · rw[if_pos hn]at h;exact absurd h hn
 · rw[if_neg hn]at h
   obtain⟨h1,h2⟩:=noN_zero (Decidable.not_not.1 hn)
   refine⟨h1,h2,?_⟩
   cases hb:oneB C loops with
   |true=>rfl
   |false=>rw[hb]at h;simp at h
theorem shades_no (v : Value) (C : List Cr) (loops : Int) (w : World) (hr : oneN C loops ≠ 0) (h : Crs w w.heap.size v C) :
    Calls Tryz.prog 6 #[.agg #[v,.int .i64 loops]] w fun e w'=>e=.returned (.tuple #[.slice none 0 0,.int .i64 (oneN C loops)])/\Below w.heap.size w w':=by
 obtain⟨a,cap,rfl,hn,hx⟩:=h
 have HC:Hid (Crs w w.heap.size (.slice a C.length cap) C):=⟨a,cap,rfl,hn,hx⟩
 have hK:=fun W (hW:Crs W W.heap.size (.slice a C.length cap) C)=>chart_bad (.slice a C.length cap) C loops W hr hW
 unfold noChart at hK
 have HK:=hidS hK
 generalize oneN C loops=r at HK
 have HB1:=hidS ((Below.refl w.heap.size w).alloc (Nat.le_refl _) (.cells #[.slice a C.length cap,.int .i64 loops] 24))
 clear hK hx hr
 go_enter Tryz.func6,Tryz.ntmps6
 go_wp2_with (go_at_call 14;refine(HK.out _ (HC.out.up HB1.out)).mono ?_;rintro e9 w2 ⟨rfl,hb2⟩;have HB2:=hidS (HB1.out.trans (hb2.mono (by simp)));clear hb2)
 refine bodyPost_ret (v:=.tuple #[.slice none 0 0,.int .i64 r]) (by simp[results,Tryz.results6,go_sem]) rfl ⟨rfl,HB2.out.alloc HB2.out.size _⟩
theorem shades_yes (v : Value) (C : List Cr) (loops : Int) (s : Nat → Nat) (w : World) (hm : mayD C loops = true) (hp : planarB C = true) (ho : oneB C loops = true) (hs : Shd C s) (h : Crs w w.heap.size v C) :
    Calls Tryz.prog 6 #[.agg #[v,.int .i64 loops]] w fun e w'=>∃ gS,e=.returned (.tuple #[.slice (some ⟨gS,0,none⟩) (facesM C).length (facesM C).length,.int .i64 0])/\w'.ownsRow w.heap.size 3 1 (.slice (some ⟨gS,0,none⟩) (facesM C).length (facesM C).length) (facesM C).length (intsV (shL s (facesM C).length))/\Below w.heap.size w w':=by
 obtain⟨a0,cap0,rfl,hn,hx⟩:=h
 have HC:Hid (Crs w w.heap.size (.slice a0 C.length cap0) C):=⟨a0,cap0,rfl,hn,hx⟩
 have hK:=fun W (hW:Crs W W.heap.size (.slice a0 C.length cap0) C)=>chart_yes (.slice a0 C.length cap0) C loops s W hm hp ho hs hW
 unfold chV at hK
 obtain⟨F,hF⟩:∃ F,(facesM C).length=F:=⟨_,rfl⟩
 have HF:=hidS hF
 rw[hF]at hK ⊢
 have HK:=hidS hK
 have HB1:=hidS ((Below.refl w.heap.size w).alloc (Nat.le_refl _) (.cells #[.slice a0 C.length cap0,.int .i64 loops] 24))
 clear hK hx hF
 go_enter Tryz.func6,Tryz.ntmps6
 go_wp2_with (go_at_call 14; refine (HK.out _ (HC.out.up HB1.out)).mono ?_; rintro e9 w2 ⟨a, cap, gF, cF, gT, cT, gM, gS, rfl, hch, hgs, -, hb2⟩
              have HB2:=hidS (HB1.out.trans (hb2.mono (by simp)))
              have HCH:=hidS hch.sh
              have HGS:Hid (w.heap.size<=gS):=(by simp at hgs;omega:w.heap.size<=gS)
              clear hb2 hch hgs)
 refine bodyPost_ret (v:=.tuple #[.slice (some ⟨gS,0,none⟩) F F,.int .i64 0]) (by simp[results,Tryz.results6,go_sem]) rfl ⟨gS,rfl,?_,HB2.out.alloc HB2.out.size _⟩
 have h1:=HCH.out
 rw[HF.out]at h1
 exact own_raise (h1.alloc _) HGS.out
end Go.Proofs.YtmnejkaihjpejaaGreatDoor

/- The law TangleDets: its walk, the rings of FaceRings being given. -/
import Derived.Test.YtgagenmkpmmpfaaTDfP
import Derived.Test.YtgagenmkpmmpfaaTL12P
import Derived.Test.YtgagenmkpmmpfaaAS3P
import Derived.Test.YtgagenmkpmmpfaaC7P
import Derived.Deep.CutBlock
namespace Go.Proofs.Ytgagenmkpmmpfaa
open Go.RowKit
set_option maxHeartbeats 8000000
set_option maxRecDepth 100000
theorem hidT {P:Prop} (h:P):Hid P:=h
theorem five_three (w:World) (t:TypeId):RdAt (w.alloc (.cells #[.int .i64 2,.int .i64 1,.int .i64 1] t)) (w.alloc (.cells #[.int .i64 2,.int .i64 1,.int .i64 1] t)).heap.size 1 (.slice (some ⟨w.heap.size,0,none⟩) [(2:Int),1,1].length 3) [(2:Int),1,1].length (intsV [2,1,1]):=by
 have hb:(w.alloc (.cells #[.int .i64 2,.int .i64 1,.int .i64 1] t)).heap[w.heap.size]?=some (.cells #[.int .i64 2,.int .i64 1,.int .i64 1] t (0,0)):=alloc_at rfl
 refine⟨_,_,rfl,fun _=>⟨w.heap.size,0,rfl,(Array.getElem?_eq_some_iff.1 hb).1,fun j hj=>?_⟩⟩
 have:j=0∨j=1∨j=2:=by simp at hj;omega
 rcases this with rfl|rfl|rfl<;>exact block_cell hb rfl
theorem szTo_app (l:List Int) (x:Int):szTo (l++[x]) (l++[x]).length=szTo l l.length+x.natAbs:=by
 have key:∀ k,k<=l.length->szTo (l++[x]) k=szTo l k:=fun k=>by
  induction k with
  |zero=>intro _;rfl
  |succ k ih=>
   intro h
   show szTo (l++[x]) k+((l++[x]).getD k 0).natAbs=szTo l k+(l.getD k 0).natAbs
   rw[ih (by omega)]
   congr 2
   simp[List.getD_eq_getElem?_getD,List.getElem?_append_left (show k<l.length by omega)]
 rw[List.length_append]
 show szTo (l++[x]) l.length+((l++[x]).getD l.length 0).natAbs=_
 rw[key _ (Nat.le_refl _)]
 simp[List.getD_eq_getElem?_getD]
theorem szTo_ge (l:List Int):∀ k j:Nat,j<k->(l.getD j 0).natAbs<=szTo l k
 |0,_,h=>by omega
 |k+1,j,h=>by
  show _<=szTo l k+(l.getD k 0).natAbs
  rcases Nat.lt_or_ge j k with q|q
  · have:=szTo_ge l k j q
    omega
  · rw[show j=k by omega]
    omega
theorem list_ok {l:List Int} (ho:l.length%2=1) (h10:szTo l l.length<=10):listN l=0:=by
 rw[listN_good (fun j hj=>by have:=szTo_ge l l.length j hj;omega),if_neg (by omega)]
theorem frM_bd {l:List Int} (h10:szTo l l.length<=10) : -65536<=(frM l).1/\(frM l).1<=65536:=by
 obtain⟨a,b,-,-⟩:=frTo_small (l:=l) (by omega) l.length (Nat.le_refl _)
 unfold frM
 split
 · show -65536 <= -(frTo l l.length).1 /\ -(frTo l l.length).1<=65536
   omega
 · omega
theorem frTo_len (M:List Int) (h:∀ j,j<M.length->1<=M.getD j 0):∀ k,k<=M.length->(k:Int)<=(frTo M k).1/\1<=(frTo M k).1/\((0<k->1<=(frTo M k).2)/\0<=(frTo M k).2)/\∀ j,j<k->M.getD j 0<=(frTo M k).1
 |0,_=>⟨by show(0:Int)<=1;decide,by show(1:Int)<=1;decide,⟨fun q=>by omega,by show(0:Int)<=0;decide⟩,fun j hj=>by omega⟩
 |k+1,hk=>by
  obtain⟨h1,h2,⟨h3,h3'⟩,h4⟩:=frTo_len M h k (by omega)
  have hx:=h k (by omega)
  have e1:(frTo M (k+1)).1=M.getD k 0*(frTo M k).1+(frTo M k).2:=rfl
  have e2:(frTo M (k+1)).2=(frTo M k).1:=rfl
  have m1:(frTo M k).1<=M.getD k 0*(frTo M k).1:=by
   have:=Int.mul_le_mul_of_nonneg_right hx (show(0:Int)<=(frTo M k).1 by omega)
   omega
  have m2:M.getD k 0<=M.getD k 0*(frTo M k).1:=by
   have:=Int.mul_le_mul_of_nonneg_left h2 (show(0:Int)<=M.getD k 0 by omega)
   omega
  refine⟨?_,by omega,⟨fun _=>by omega,by omega⟩,fun j hj=>?_⟩
  · rcases Nat.eq_zero_or_pos k with q|q
    · omega
    · have:=h3 q
      omega
  · rcases Nat.lt_or_ge j k with q|q
    · have:=h4 j q
      omega
    · rw[show j=k by omega]
      omega
theorem expand_all {p q:Int} (h:lowB p q=true):(fixL (exLt p.toNat q.toNat)).reverse.length%2=1/\(fixL (exLt p.toNat q.toNat)).reverse.length<=1000/\(∀ j,j<(fixL (exLt p.toNat q.toNat)).reverse.length->1<=(fixL (exLt p.toNat q.toNat)).reverse.getD j 0/\(fixL (exLt p.toNat q.toNat)).reverse.getD j 0<=1000)/\frTo (fixL (exLt p.toNat q.toNat)).reverse (fixL (exLt p.toNat q.toNat)).reverse.length=(p,q):=by
 obtain⟨b1,b2,b3,b4,-⟩:=lowB_yes h
 have h':lowB (p.toNat:Nat) (q.toNat:Nat)=true:=by rw[show((p.toNat:Nat):Int)=p by omega,show((q.toNat:Nat):Int)=q by omega];exact h
 obtain⟨e1,e2,e3⟩:=expand_is h'
 generalize fixL (exLt p.toNat q.toNat)=L at e1 e2 e3
 rw[show((p.toNat:Nat):Int)=p by omega,show((q.toNat:Nat):Int)=q by omega]at e3
 have hf:frTo L.reverse L.reverse.length=(p,q):=by rw[List.length_reverse,frTo_rev,e3]
 have hr:∀ j,j<L.reverse.length->1<=L.reverse.getD j 0:=fun j hj=>by
  rw[List.getD_eq_getElem?_getD,List.getElem?_eq_getElem hj]
  exact e1 _ (List.mem_reverse.1 (List.getElem_mem _))
 obtain⟨g1,-,-,g4⟩:=frTo_len L.reverse hr L.reverse.length (Nat.le_refl _)
 rw[hf]at g1 g4
 exact⟨by rw[List.length_reverse];exact e2,by have:(L.reverse.length:Int)<=p:=g1;omega,fun j hj=>⟨hr j hj,by have:L.reverse.getD j 0<=p:=g4 j hj;omega⟩,hf⟩
theorem tmod_even {P:Int} (h:P%2=0):P.tmod 2=0:=Int.tmod_eq_zero_of_dvd (Int.dvd_of_emod_eq_zero h)
theorem tmod_odd {P:Int} (h:¬ P%2=0):P.tmod 2≠0:=fun q=>h (Int.emod_eq_zero_of_dvd (Int.dvd_of_tmod_eq_zero q))
theorem box_two {w V:World} {a:Value} {x:Value} (h:w.alloc (.cells #[a,x] 29)=V):∀ W,Below V.heap.size V W->W.cell? ⟨w.heap.size,0,none⟩=some a/\W.cell? ⟨w.heap.size,1,none⟩=some x/\w.heap.size<W.heap.size:=fun W hW=>by
 have h0:V.heap[w.heap.size]?=some (.cells #[a,x] 29 (0,0)):=by rw[<-h];exact heap_alloc_new _ _
 have g0:=(hW.block _ (Array.getElem?_eq_some_iff.1 h0).1).trans h0
 exact⟨block_cell g0 rfl,block_cell g0 rfl,(Array.getElem?_eq_some_iff.1 g0).1⟩
theorem tangleDets_any (hFR : FaceRingsOk) (a : Option Addr) (c : Nat) (raw : List Int) (p q : Int) (w : World) (hl : raw.length * 8 ≤ 140737488355328) (hr : ∀ j, j < raw.length → -9223372036854775808 ≤ raw.getD j 0 ∧ raw.getD j 0 ≤ 9223372036854775807) (hp : -9223372036854775808 ≤ p ∧ p ≤ 9223372036854775807) (hq : -9223372036854775808 ≤ q ∧ q ≤ 9223372036854775807) (h : InAt w w.heap.size 1 (.slice a raw.length c) raw.length (intsV raw)) :
    Calls Try.prog 3 #[.slice a raw.length c,.int .i64 p,.int .i64 q] w fun e w'=>e=.returned (.bool true)/\Below w.heap.size w w':=by
 obtain⟨i2,hk,hx0,hx1,hx2⟩:=info_parts infoInt
 have HFR:=hidT hFR
 have HL:=hidT hl
 have HRG:=hidT hr
 have HPR:=hidT hp
 have HQR:=hidT hq
 have HR:Hid (∀ W,Below w.heap.size w W->RdAt W W.heap.size 1 (.slice a raw.length c) raw.length (intsV raw)):=fun W hW=>(h.rdI.on hW).mono hW.size
 have HF0:Hid (∀ t,Calls Try.prog 4 #[.slice (some ⟨w.heap.size,0,none⟩) 3 3] (w.alloc (.cells #[.int .i64 2,.int .i64 1,.int .i64 1] t)) fun e w'=>e=.returned (.tuple #[.int .i64 5,.int .i64 3,.int .i64 0])/\Below (w.alloc (.cells #[.int .i64 2,.int .i64 1,.int .i64 1] t)).heap.size (w.alloc (.cells #[.int .i64 2,.int .i64 1,.int .i64 1] t)) w'):=fun t=>fraction_yes (some ⟨w.heap.size,0,none⟩) 3 [2,1,1] _ (by decide) (by decide) (five_three w t)
 have hB0:∀ t,Below w.heap.size w (w.alloc (.cells #[.int .i64 2,.int .i64 1,.int .i64 1] t)):=fun t=>(Below.refl _ _).alloc (Nat.le_refl _) _
 have HB0:=hidT hB0
 clear hl hr hp hq h hFR hB0
 go_enter Try.func3,Try.ntmps3
 go_wp2_with (go_at_call 4;refine(HF0.out _).mono ?_;rintro e9 w1 ⟨rfl,hb1⟩;refine Hid.out ?_)
 refine Lib.hid ?_
 have HB1:=hidT ((HB0.out _).trans (hb1.mono (HB0.out _).size))
 clear hb1 HF0 HB0
 have HO0:Hid (w1.ownsRow w1.heap.size 3 1 (.slice none 0 0) 0 (intsV [])):=World.ownsRow_nil _ _ _ _
 go_upto_block 0 with(fail)
 go_cut [10] from 45 to 74 (fun v10 wx=>∃ (l:List Int) (a5:Option Addr) (c5:Nat),l.length<=9/\szTo l l.length<=10/\v10=.slice a5 l.length c5/\Hid (wx.ownsRow w1.heap.size 3 1 (.slice a5 l.length c5) l.length (intsV l))/\Hid (Below w1.heap.size w1 wx))
 case first=>
  go_wp2_with (fail)
  go_loopw [10,11,12] (fun v10 v11 v12 wr=>∃ (i:Nat) (l:List Int) (a5:Option Addr) (c5:Nat),i<=9/\i<=raw.length/\l.length<=i/\szTo l l.length<=10/\v10=.slice a5 l.length c5/\v11=.int .i64 (szTo l l.length:Nat)/\v12=.int .i64 (i:Nat)/\Hid (wr.ownsRow w1.heap.size 3 1 (.slice a5 l.length c5) l.length (intsV l))/\Hid (Below w1.heap.size w1 wr)) (fun _ _ v12 _=>10-(intOf v12).toNat)
  case atStart=>exact⟨0,[],none,0,by omega,Nat.zero_le _,Nat.le_refl _,by decide,rfl,rfl,rfl,HO0.out,Below.refl _ _⟩
  case round=>
   clear HO0
   rename World=>W1
   obtain⟨i,l,a5,c5,hi9,hir,hli,hs,rfl,rfl,rfl,hO,hb⟩:=hrel
   have hrl:raw.length<=140737488355328:=by have:=HL.out;omega
   by_cases h1:i<raw.length
   · by_cases h2:i<9
     · obtain⟨bR,oR,ea,hbR,hcR⟩:=(HR.out W1 (HB1.out.trans (hb.out.mono HB1.out.size))).intAt i h1
       have hx:=HRG.out i h1
       obtain⟨x,hxe⟩:∃ x,raw.getD i 0=x:=⟨_,rfl⟩
       rw[hxe]at hcR hx
       subst ea
       have n0:(0:Int)<=(i:Int):=by omega
       have n1:(i:Int)<(raw.length:Int):=by omega
       have n9:(i:Int)<9:=by omega
       obtain⟨s0,hs0⟩:∃ s0,szTo l l.length=s0:=⟨_,rfl⟩
       have HS0:Hid (szTo l l.length=s0):=hs0
       rw[hs0]at hs ⊢
       clear hs0
       go_wp2_with (go_at_call 5;refine(picked_any x 9 _ hx (by omega) (by omega)).mono ?_;rintro e9 w2 ⟨r,rfl,hr9,hw2⟩;replace hw2:=hw2.symm;subst hw2;refine Hid.out ?_)
       refine Lib.hid ?_
       obtain⟨y,hy⟩:∃ y:Int,(r:Int) - 4=y:=⟨_,rfl⟩
       have ewy:IntKind.i64.wrap ((r:Int)-4)=y:=by rw[hy];exact IntWalk.i64_in _ (by omega)
       have hy4 : -4<=y/\y<=4:=by omega
       clear hxe hcR n0 n1 n9 hy hx
       have HAP:=hidT (szTo_app l y)
       by_cases h3:y<0
       · skip
         have ews:IntKind.i64.wrap ((s0:Int)-y)=((s0+y.natAbs:Nat):Int):=by rw[show(s0:Int)-y=((s0+y.natAbs:Nat):Int) by omega];exact IntWalk.i64_in _ (by omega)
         obtain⟨s1,hs1⟩:∃ s1,s0+y.natAbs=s1:=⟨_,rfl⟩
         have HS1:Hid (s0+y.natAbs=s1):=hs1
         rw[hs1]at ews
         have hs14:s1<=14:=by omega
         clear hs1
         by_cases h4:s1 > 10
         · have h4I:(10:Int)<(s1:Int):=by omega
           go_wp2
           go_meet
           exact⟨l,a5,c5,by omega,by rw[HS0.out];omega,rfl,hO,hb⟩
         · have h4I:¬ (10:Int)<(s1:Int):=by omega
           go_wp2_with (first
            |(at_builtin;refine wpList_append_own _ rfl _ _ 22 rfl w1.heap.size 3 i2 (.int .i64 0) 1 8 Try.underlying22 hk hx0 hx1 hx2 rfl (by decide) _ _ _ rfl (hO.out.alloc _) ⟨_,0,none⟩ 1 1 [.int .i64 y] rfl rfl (new_cell1 _ _ _) (one_int y) (by unfold maxLen;omega) (by omega) (by have:=hb.out.size;simp;omega) ?_;intro v8 w8 hown8 hg8 _;refine Hid.out ?_))
           refine Lib.hid ?_
           obtain⟨hp1,hp2⟩:=push_int hb.out hO.out hown8 hg8
           obtain⟨g8,c8,rfl,-,-⟩:=own_some hp1 (by simp)
           have HP1:=hidT hp1
           have HP2:=hidT hp2
           have HLL:Hid ((l++[y]).length=l.length+1):=(by simp:(l++[y]).length=l.length+1)
           clear hown8 hg8 hp1 hp2
           go_wp2
           go_roundw
           case rel=>exact⟨i+1,l++[y],some ⟨g8,0,none⟩,c8,by omega,by omega,by rw[HLL.out];omega,by rw[HAP.out,HS0.out,HS1.out];omega,rfl,by rw[HAP.out,HS0.out,HS1.out],by go_num,HP1.out,HP2.out⟩
           case measure=>simp only[intOf];omega
       · skip
         have ews:IntKind.i64.wrap ((s0:Int)+y)=((s0+y.natAbs:Nat):Int):=by rw[show(s0:Int)+y=((s0+y.natAbs:Nat):Int) by omega];exact IntWalk.i64_in _ (by omega)
         obtain⟨s1,hs1⟩:∃ s1,s0+y.natAbs=s1:=⟨_,rfl⟩
         have HS1:Hid (s0+y.natAbs=s1):=hs1
         rw[hs1]at ews
         have hs14:s1<=14:=by omega
         clear hs1
         by_cases h4:s1 > 10
         · have h4I:(10:Int)<(s1:Int):=by omega
           go_wp2
           go_meet
           exact⟨l,a5,c5,by omega,by rw[HS0.out];omega,rfl,hO,hb⟩
         · have h4I:¬ (10:Int)<(s1:Int):=by omega
           go_wp2_with (first
            |(at_builtin;refine wpList_append_own _ rfl _ _ 22 rfl w1.heap.size 3 i2 (.int .i64 0) 1 8 Try.underlying22 hk hx0 hx1 hx2 rfl (by decide) _ _ _ rfl (hO.out.alloc _) ⟨_,0,none⟩ 1 1 [.int .i64 y] rfl rfl (new_cell1 _ _ _) (one_int y) (by unfold maxLen;omega) (by omega) (by have:=hb.out.size;simp;omega) ?_;intro v8 w8 hown8 hg8 _;refine Hid.out ?_))
           refine Lib.hid ?_
           obtain⟨hp1,hp2⟩:=push_int hb.out hO.out hown8 hg8
           obtain⟨g8,c8,rfl,-,-⟩:=own_some hp1 (by simp)
           have HP1:=hidT hp1
           have HP2:=hidT hp2
           have HLL:Hid ((l++[y]).length=l.length+1):=(by simp:(l++[y]).length=l.length+1)
           clear hown8 hg8 hp1 hp2
           go_wp2
           go_roundw
           case rel=>exact⟨i+1,l++[y],some ⟨g8,0,none⟩,c8,by omega,by omega,by rw[HLL.out];omega,by rw[HAP.out,HS0.out,HS1.out];omega,rfl,by rw[HAP.out,HS0.out,HS1.out],by go_num,HP1.out,HP2.out⟩
           case measure=>simp only[intOf];omega
     · have h2I:¬ (i:Int)<9:=by omega
       have n1:(i:Int)<(raw.length:Int):=by omega
       go_wp2
       go_meet
       exact⟨l,a5,c5,by omega,hs,rfl,hO,hb⟩
   · have h1I:¬ (i:Int)<(raw.length:Int):=by omega
     go_wp2
     go_meet
     exact⟨l,a5,c5,by omega,hs,rfl,hO,hb⟩
 case rest=>
 obtain⟨l0,a0,c0,hl9,hs10,rfl,hO,hb⟩:=hcut
 rename World=>w2
 clear HO0 HR HRG HL
 have er:(l0.length:Int).tmod 2=((l0.length%2:Nat):Int):=rfl
 obtain⟨r0,hr0⟩:∃ r,l0.length%2=r:=⟨_,rfl⟩
 have HR0:Hid (l0.length%2=r0):=hr0
 rw[hr0]at er
 clear hr0
 go_upto_if 78 with(fail)
 go_cut [10] from 75 to 81 (fun v10 wx=>∃ (l:List Int) (a5:Option Addr) (c5:Nat),l.length<=10/\l.length%2=1/\szTo l l.length<=10/\v10=.slice a5 l.length c5/\Hid (wx.ownsRow w1.heap.size 3 1 (.slice a5 l.length c5) l.length (intsV l))/\Hid (Below w1.heap.size w1 wx))
 case first=>
  by_cases g:r0=0
  · have gI:((r0:Int)==0)=true:=beq_iff_eq.2 (by omega)
    go_wp2_with (first
     |(at_builtin;refine wpList_append_own _ rfl _ _ 22 rfl w1.heap.size 3 i2 (.int .i64 0) 1 8 Try.underlying22 hk hx0 hx1 hx2 rfl (by decide) _ _ _ rfl (hO.out.alloc _) ⟨_,0,none⟩ 1 1 [.int .i64 0] rfl rfl (new_cell1 _ _ _) (one_int 0) (by unfold maxLen;omega) (by omega) (by have:=hb.out.size;simp;omega) ?_;intro v8 w8 hown8 hg8 _;refine Hid.out ?_))
    refine Lib.hid ?_
    obtain⟨hp1,hp2⟩:=push_int hb.out hO.out hown8 hg8
    obtain⟨g8,c8,rfl,-,-⟩:=own_some hp1 (by simp)
    have HP1:=hidT hp1
    have HP2:=hidT hp2
    have HLL:Hid ((l0++[0]).length=l0.length+1):=(by simp:(l0++[(0:Int)]).length=l0.length+1)
    clear hown8 hg8 hp1 hp2
    go_wp2
    go_meet
    exact⟨l0++[0],some ⟨g8,0,none⟩,c8,by rw[HLL.out];omega,by have:=HR0.out;rw[HLL.out];omega,by rw[szTo_app];exact hs10,rfl,HP1.out,HP2.out⟩
  · have gI:((r0:Int)==0)=false:=beq_eq_false_iff_ne.2 (by omega)
    go_wp2
    go_meet
    exact⟨l0,a0,c0,by omega,by have:=HR0.out;omega,hs10,rfl,hO,hb⟩
 case rest=>
 clear hO hb hl9 hs10 er HR0 hk hx0 hx1 hx2
 obtain⟨l,a1,c1,hl10,hod,hs10,rfl,hO,hb⟩:=hcut
 rename World=>w3
 have hN:listN l=0:=list_ok hod hs10
 obtain⟨L1,L2,L3,L4,L5⟩:=link_all l hod hs10
 have hPL:=(noN_zero L1).2
 have hP:=frM_bd hs10
 have hll:l.length<=140737488355328:=by omega
 have HF:Hid (∀ W,RdAt W W.heap.size 1 (.slice a1 l.length c1) l.length (intsV l)->Calls Try.prog 4 #[.slice a1 l.length c1] W fun e w'=>e=.returned (.tuple #[.int .i64 (frM l).1,.int .i64 (frM l).2,.int .i64 0])/\Below W.heap.size W w'):=fun W hW=>fraction_yes a1 c1 l W hll hN hW
 have HK:Hid (∀ W,RdAt W W.heap.size 1 (.slice a1 l.length c1) l.length (intsV l)->Calls Try.prog 6 #[.slice a1 l.length c1] W fun e w'=>∃ a2 cap2,e=.returned (.tuple #[.agg #[.slice a2 (szTo l l.length) cap2,.int .i64 (lkO l:Nat)],.int .i64 0])/\Crs w' w'.heap.size (.slice a2 (szTo l l.length) cap2) (lkC (szTo l l.length) (lkU l))/\Below W.heap.size W w'):=fun W hW=>link_yes a1 c1 l W hll hN hW
 have hC10:(lkC (szTo l l.length) (lkU l)).length<=10:=by rw[lkC_len];exact hs10
 obtain⟨m,hm⟩:∃ m,szTo l l.length=m:=⟨_,rfl⟩
 rw[hm]at HK L1 L2 L3 L4 hPL hC10 hs10
 obtain⟨C,hC⟩:∃ C,lkC m (lkU l)=C:=⟨_,rfl⟩
 rw[hC]at HK L1 L2 L3 L4 hPL hC10
 obtain⟨lo,hlo⟩:∃ lo,lkO l=lo:=⟨_,rfl⟩
 have hlo2:=lkO_le l
 rw[hlo]at HK L1 L2 L3 L4 hlo2
 obtain⟨P,hPe⟩:∃ P,(frM l).1=P:=⟨_,rfl⟩
 obtain⟨Q,hQe⟩:∃ Q,(frM l).2=Q:=⟨_,rfl⟩
 rw[hPe]at HF L3 L4 hP
 rw[hQe]at HF L5
 have HPA:Hid (∀ v W,Crs W W.heap.size v C->Calls Try.prog 7 #[.agg #[v,.int .i64 (lo:Nat)]] W fun e w'=>e=.returned (.tuple #[.bool true,.int .i64 0])/\Below W.heap.size W w'):=fun v W hW=>by rw[<-hPL];exact planar_yes HFR.out v C (lo:Nat) W L2 hW
 have HDT:Hid (∀ v W,Crs W W.heap.size v C->Calls Try.prog 8 #[.agg #[v,.int .i64 (lo:Nat)]] W fun e w'=>e=.returned (.tuple #[.int .i64 (P.natAbs:Nat),.int .i64 0])/\Below W.heap.size W w'):=fun v W hW=>(alexDet_yes HFR.out v C (lo:Nat) W L1 hC10 hW).mono (by rintro e w' ⟨A,rfl,hA,hb'⟩;rw[L3 A hA];exact⟨rfl,hb'⟩)
 have HST:Hid (∀ v W,Crs W W.heap.size v C->Calls Try.prog 9 #[.agg #[v,.int .i64 (lo:Nat)]] W fun e w'=>∃ r,e=.returned (.tuple #[r,.int .i64 0])/\NatsOwn w' W.heap.size r (walksM C)/\Below W.heap.size W w'):=fun v W hW=>strands_yes v C (lo:Nat) W L2 hW
 have HW:Hid ((walksM C).length+lo=if P%2=0 then 2 else 1):=L4
 have HR3:Hid (RdAt w3 w3.heap.size 1 (.slice a1 l.length c1) l.length (intsV l)):=own_rd hO.out
 have HB3:Hid (Below w.heap.size w w3):=HB1.out.trans (hb.out.mono HB1.out.size)
 generalize l.length=n at HF HK HR3 hl10 ⊢
 clear hm hC hlo hPe hQe hN L1 L2 L3 L4 hPL hll hC10 hO hb hod HB1 HFR
 go_wp2_with (go_at_call 4;refine(HF.out _ HR3.out).mono ?_;rintro e9 w4 ⟨rfl,hb4⟩;refine Hid.out ?_)
 refine Lib.hid ?_
 have HR4:=hidT ((HR3.out.on hb4).mono hb4.size)
 have HB4:=hidT (HB3.out.trans (hb4.mono HB3.out.size))
 clear hb4 HR3 HB3 HF
 go_wp2_with (go_at_call 6;refine(HK.out _ HR4.out).mono ?_;rintro e9 w5 ⟨a8,c8,rfl,hc8,hb8⟩;refine Hid.out ?_)
 refine Lib.hid ?_
 have HB5:=hidT (HB4.out.trans (hb8.mono HB4.out.size))
 have HC5:=hidT hc8
 clear hb8 hc8 HR4 HB4 HK
 obtain⟨V,hV⟩:∃ V,w5.alloc (.cells #[.slice a8 m c8,.int .i64 (lo:Nat)] 29)=V:=⟨_,rfl⟩
 have HV:=hidT hV
 have HU:Hid (Below w5.heap.size w5 V):=(by rw[<-hV];exact(Below.refl _ _).alloc (Nat.le_refl _) _:Below w5.heap.size w5 V)
 have HX:Hid (∀ W,Below V.heap.size V W->W.cell? ⟨w5.heap.size,0,none⟩=some (.slice a8 m c8)/\W.cell? ⟨w5.heap.size,1,none⟩=some (.int .i64 (lo:Nat))/\w5.heap.size<W.heap.size):=box_two hV
 have HBV:=hidT (HB5.out.trans (HU.out.mono HB5.out.size))
 have HCV:=hidT (HC5.out.up HU.out)
 clear hV HU HB5 HC5
 go_wp2_with (go_at_call 7;rw[HV.out];refine(HPA.out _ _ HCV.out).mono ?_;rintro e9 w6 ⟨rfl,hb6⟩;refine Hid.out ?_)
 refine Lib.hid ?_
 have HB6:=hidT (HBV.out.trans (hb6.mono HBV.out.size))
 have HC6:=hidT (HCV.out.up hb6)
 have HV6:=hidT hb6
 clear HPA HBV HCV HV
 obtain⟨p0,p1,p2⟩:=HX.out w6 hb6
 clear hb6
 go_wp2_with (go_at_call 8;refine(HDT.out _ _ HC6.out).mono ?_;rintro e9 w7 ⟨rfl,hb7⟩;refine Hid.out ?_)
 refine Lib.hid ?_
 have HB7:=hidT (HB6.out.trans (hb7.mono HB6.out.size))
 have HC7:=hidT (HC6.out.up hb7)
 have HV7:=hidT (HV6.out.trans (hb7.mono HV6.out.size))
 clear HDT HB6 HC6 HV6 p0 p1 p2 hb7
 obtain⟨p0,p1,p2⟩:=HX.out w7 HV7.out
 go_wp2_with (go_at_call 9;refine(HST.out _ _ HC7.out).mono ?_;rintro e9 w8 ⟨vS,rfl,hnS,hb8⟩;refine Hid.out ?_)
 refine Lib.hid ?_
 have HB8:=hidT (HB7.out.trans (hb8.mono HB7.out.size))
 have HV8:=hidT (HV7.out.trans (hb8.mono HV7.out.size))
 clear HST HB7 HC7 HV7 p0 p1 p2 hb8
 obtain⟨p0,p1,p2⟩:=HX.out w8 HV8.out
 obtain⟨aS,cS,rfl⟩:∃ aS cS,vS=.slice aS (walksM C).length cS:=by
  obtain⟨ys,y1,y2,-⟩:=hnS
  rcases y2.2 with⟨rfl,h1⟩|⟨g,cap,cur,rfl,-⟩
  · exact⟨none,0,by rw[<-y1,h1]⟩
  · exact⟨_,cap,by rw[y1]⟩
 clear hnS HX HV8
 obtain⟨nW,hnW⟩:∃ nW,(walksM C).length=nW:=⟨_,rfl⟩
 rw[hnW]at HW ⊢
 clear hnW
 have HPT:Hid (nW+lo=if P%2=0 then 2 else 1):=HW.out
 have hnw:nW<=2:=by have:=HW.out;split at this<;>omega
 obtain⟨s,hs⟩:∃ s,nW+lo=s:=⟨_,rfl⟩
 have ewN:IntKind.i64.wrap ((nW:Int)+(lo:Int))=(s:Int):=by rw[<-Int.natCast_add,hs];exact IntWalk.i64_in _ (by omega)
 rw[hs]at HPT
 have ewP:IntKind.i64.wrap (-P) = -P:=IntWalk.i64_in _ (by omega)
 have hQ0:¬ Q<0:=by omega
 obtain⟨N,hN⟩:∃ N:Int,((P.natAbs:Nat):Int)=N:=⟨_,rfl⟩
 rw[hN]
 go_upto_region 22 with(fail)
 go_cut [144] from 108 to 144 (fun v144 wx=>v144=.bool false/\wx=w8)
 case first=>
  by_cases hP0:0<=P
  · have eN:(N != P)=false:=by simp;omega
    go_wp2
    go_meet
    exact⟨rfl,rfl⟩
  · have eN:(N != P)=true:=by simp;omega
    have eM:(N != -P)=false:=by simp;omega
    go_wp2
    go_meet
    exact⟨rfl,rfl⟩
 case rest=>
 obtain⟨rfl,hwe⟩:=hcut
 subst hwe
 rename World=>w8
 go_upto_region 25 with(fail)
 go_cut [165] from 150 to 165 (fun v165 wx=>v165=.bool false/\wx=w8)
 case first=>
  have hps:=HPT.out
  by_cases hP0:P%2=0
  · have eT:P.tmod 2=0:=tmod_even hP0
    rw[if_pos hP0]at hps
    subst hps
    go_wp2
    go_meet
    exact⟨rfl,rfl⟩
  · rw[if_neg hP0]at hps
    subst hps
    have eT:(P.tmod 2==0)=false:=beq_eq_false_iff_ne.2 (tmod_odd hP0)
    have eT2:(P.tmod 2 != 0)=true:=bne_iff_ne.2 (tmod_odd hP0)
    go_wp2
    go_meet
    exact⟨rfl,rfl⟩
 case rest=>
 obtain⟨rfl,hwe⟩:=hcut
 subst hwe
 rename World=>w8
 clear p0 p1 p2 ewN ewP hQ0 HW HPT hnw hP hlo2 hl10 hs10 L5
 go_wp2_with (go_at_call 5;refine(picked_any p 1000 _ HPR.out (by omega) (by omega)).mono ?_;rintro e9 w9 ⟨j,rfl,hj,hw⟩;replace hw:=hw.symm;subst hw;refine Hid.out ?_)
 refine Lib.hid ?_
 have ej:IntKind.i64.wrap (1+(j:Int))=((1+j:Nat):Int):=(IntWalk.i64_in _ (by omega)).trans (by omega)
 generalize hX:1+j=X at ej
 have HX:Hid (1<=X/\X<=1000):=(by omega:1<=X/\X<=1000)
 clear hX hj
 go_wp2_with (go_at_call 5;refine(picked_any q X _ HQR.out (by have:=HX.out;omega) (by have:=HX.out;omega)).mono ?_;rintro e9 w9 ⟨k,rfl,hk,hw⟩;replace hw:=hw.symm;subst hw;refine Hid.out ?_)
 refine Lib.hid ?_
 have ek:IntKind.i64.wrap (1+(k:Int))=((1+k:Nat):Int):=(IntWalk.i64_in _ (by have:=HX.out;omega)).trans (by omega)
 generalize hY:1+k=Y at ek
 clear hk hY
 cases hlb:lowB (X:Nat) (Y:Nat) with
 |false=>
  have HE:=hidT (fun W=>expand_no (X:Nat) (Y:Nat) W hlb)
  clear hlb
  go_wp2_with (go_at_call 10;refine(HE.out _).mono ?_;rintro e9 w9 ⟨rfl,hb9⟩;refine Hid.out ?_)
  refine Lib.hid ?_
  have HB9:=hidT (HB8.out.trans (hb9.mono HB8.out.size))
  clear hb9
  go_wp2
  go_ret
  exact⟨rfl,HB9.out⟩
 |true=>
  have HE:=hidT (fun W=>expand_yes (X:Nat) (Y:Nat) W hlb)
  obtain⟨M,hM⟩:∃ M,(fixL (exLt ((X:Nat):Int).toNat ((Y:Nat):Int).toNat)).reverse=M:=⟨_,rfl⟩
  obtain⟨m1,m2,m3,m4⟩:=expand_all hlb
  rw[hM]at HE m1 m2 m3 m4
  have HVL:Hid (∀ a c W,RdAt W W.heap.size 1 (.slice a M.length c) M.length (intsV M)->Calls Try.prog 11 #[.slice a M.length c,.int .i64 (X:Nat),.int .i64 (Y:Nat)] W fun e w'=>e=.returned (.bool true)/\Below W.heap.size W w'):=fun a c W hW=>value_yes a c M (X:Nat) (Y:Nat) W (by omega) (by omega) m3 m4 (by have:=HX.out;omega) hW
  have HM3:=hidT m3
  clear hlb hM m4 m3
  go_wp2_with (go_at_call 10;refine(HE.out _).mono ?_;rintro e9 w9 ⟨aM,cM,rfl,hoM,hb9⟩;refine Hid.out ?_)
  refine Lib.hid ?_
  have HB9:=hidT (HB8.out.trans (hb9.mono HB8.out.size))
  have HOM:=hidT (own_rd hoM)
  clear hb9 HB8 hoM HE
  go_wp2
  go_loopw [28] (fun v28 wr=>∃ i:Nat,i<=M.length/\v28=.int .i64 (i:Nat)/\wr=w9) (fun v28 _=>M.length-(intOf v28).toNat)
  case atStart=>exact⟨0,Nat.zero_le _,rfl,rfl⟩
  case round=>
   obtain⟨i,hi,rfl,rfl⟩:=hrel
   rename World=>w9
   by_cases him:i<M.length
   · obtain⟨bR,oR,ea,hbR,hcR⟩:=HOM.out.intAt i him
     obtain⟨x1,x2⟩:=HM3.out i him
     obtain⟨x,hx⟩:∃ x,M.getD i 0=x:=⟨_,rfl⟩
     rw[hx]at hcR x1 x2
     subst ea
     have n0:(0:Int)<=(i:Int):=by omega
     have n1:(i:Int)<(M.length:Int):=by omega
     have n2:¬ x<1:=by omega
     go_wp2
     go_roundw
     case rel=>exact⟨i+1,by omega,by go_num,by first|rfl|trivial⟩
     case measure=>simp only[intOf];omega
   · have n1:¬ (i:Int)<(M.length:Int):=by omega
     have er:(M.length:Int).tmod 2=1:=by
      have:(M.length:Int).tmod 2=((M.length%2:Nat):Int):=rfl
      rw[this,m1];rfl
     go_wp2_with (go_at_call 11;refine(HVL.out aM cM _ HOM.out).mono ?_;rintro e9 w10 ⟨rfl,hb10⟩;refine Hid.out ?_)
     refine Lib.hid ?_
     have HB10:=hidT (HB9.out.trans (hb10.mono HB9.out.size))
     clear hb10
     go_wp2
     go_ret
     exact⟨rfl,HB10.out⟩
end Go.Proofs.Ytgagenmkpmmpfaa

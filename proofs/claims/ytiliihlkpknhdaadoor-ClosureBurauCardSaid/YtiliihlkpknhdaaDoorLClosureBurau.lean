/- The law ClosureBurau: its walk. -/
import Derived.Test.YtiliihlkpknhdaaDoorLB1
import Derived.Test.YtiliihlkpknhdaaDoorPA5P
import Derived.Test.YtiliihlkpknhdaaDoorR3
import Derived.Test.YtiliihlkpknhdaaDoorOpenSP
import Derived.Deep.RegionHeld3
namespace Go.Proofs.YtiliihlkpknhdaaDoor.Poly
open Go.RowKit Go.Maps
set_option maxHeartbeats 8000000
set_option maxRecDepth 100000
theorem closureBurau_any (s : Int) (a : Option Addr) (c : Nat) (l : List Int) (w : World) (hs : -9223372036854775808 ≤ s ∧ s ≤ 9223372036854775807) (hl : ∀ x ∈ l, -9223372036854775808 ≤ x ∧ x ≤ 9223372036854775807) (h : RdAt w w.heap.size 1 (.slice a l.length c) l.length (intsV l)) :
    Calls Tryd.prog 3 #[.int .i64 s,.slice a l.length c] w fun e w'=>e=.returned (.bool true)/\Below w.heap.size w w':=by
 have HPK:Hid (∀ W,Calls Tryd.prog 4 #[.int .i64 s,.int .i64 3] W fun e w'=>∃ r:Nat,e=.returned (.int .i64 (r:Nat))/\r<3/\w'=W):=fun W=>pickedB_any s 3 W hs (by decide) (by decide)
 have HWD:Hid (∀ p n:Nat,n=p+1->1<=p->p<=3->Calls Tryd.prog 5 #[.int .i64 (n:Nat),.slice a l.length c,.int .i64 7] w fun e w'=>∃ a2 c2 L,e=.returned (.slice a2 L.length c2)/\w'.ownsRow w.heap.size 3 1 (.slice a2 L.length c2) L.length (intsV L)/\Hid (LtOk n L/\L.length<=7)/\Below w.heap.size w w'):=fun p n h1 h2 h3=>word_any n p 7 a c l w h1 h2 (by omega) (by decide) hl h
 generalize l.length=N0 at HWD ⊢
 clear hs hl h
 go_enter Tryd.func3,Tryd.ntmps3
 go_wp2_with (go_at_call 4;refine(HPK.out _).mono ?_;rintro e9 w5 ⟨r,rfl,hr,e4⟩;obtain rfl:=e4.symm;refine Hid.out ?_)
 refine Lib.hid ?_
 clear HPK
 obtain⟨n,hn⟩:∃ n,n=r+1+1:=⟨_,rfl⟩
 have ew0:IntKind.i64.wrap (2+(r:Int))=(n:Int):=by rw[show 2+(r:Int)=n by omega];exact IntWalk.i64_in _ (by omega)
 have HW:=HWD.out (r+1) n hn (by omega) (by omega)
 have hn2:2<=n:=by omega
 have hn4:n<=4:=by omega
 have HWH:=hid_mkP HW
 clear HWD HW hn hr
 go_wp2_with (go_at_call 5;refine HWH.out.mono ?_;rintro e9 w1 ⟨a2,c2,L,rfl,ho1,hL1,hb1⟩;refine Hid.out ?_)
 refine Lib.hid ?_
 have hword:wordN (n:Int) L=0:=hL1.out.1.word hn2 (by omega) (by have:=hL1.out.2;omega)
 have HLT:Hid (∀ j,j<L.length->1<=(L.getD j 0).natAbs/\(L.getD j 0).natAbs<n):=letters_okB hword
 have HL7:Hid (L.length<=7):=hL1.out.2
 have HB1:=hid_mkP hb1
 have HR1:Hid (∀ W,Below w1.heap.size w1 W->RdAt W W.heap.size 1 (.slice a2 L.length c2) L.length (intsV L)):=fun W hW=>((own_rd ho1).on hW).mono hW.size
 have HBU:Hid (Calls Tryd.prog 6 #[.int .i64 (n:Nat),.slice a2 L.length c2] w1 fun e w'=>∃ (B q:Nat) (qs:Nat->Nat) (U:Nat->Nat->Value),e=.returned (.tuple #[.slice (some ⟨q,0,none⟩) n n,.int .i64 0])/\Td B q n qs n U (buT L L.length) w'/\Below w1.heap.size w1 w'):=burau_yes a2 c2 n L w1 hword (HR1.out _ (Below.refl _ _))
 have HCL:Hid (∀ W,Below w1.heap.size w1 W->Calls Tryd.prog 7 #[.int .i64 (n:Nat),.slice a2 L.length c2] W fun e w'=>∃ a2 c2,e=.returned (.tuple #[.agg #[.slice a2 L.length c2,.int .i64 (clsO L n:Nat)],.int .i64 0])/\Crs w' w'.heap.size (.slice a2 L.length c2) (clsC L n)/\Below W.heap.size W w'):=fun W hW=>close_yes a2 c2 n L W hword (by have:=HL7.out;omega) (HR1.out W hW)
 have HNO:Hid (noN (clsC L n) (clsO L n:Nat)=0):=cls_may HLT.out hn2 (by omega) (by have:=HL7.out;omega)
 have HAX:Hid (∀ (v:Value) (W:World),Crs W W.heap.size v (clsC L n)->Calls Tryd.prog 8 #[.agg #[v,.int .i64 (clsO L n:Nat)]] W fun e w'=>∃ v l,e=.returned (.tuple #[v,.int .i64 0])/\Poly w' w'.heap.size v l/\IsAlex (clsC L n) (clsO L n:Nat) l/\Below W.heap.size W w'):=fun v W hv=>alexander_yes (fun a cap C loops gF cF gT cT w hm hD=>faceRings_ok a cap C loops gF cF gT cT w hm hD) v _ _ W HNO.out (by rw[clsC_len];have:=HL7.out;omega) hv
 have HFIN:Hid (∀ (T:List (List (List (Int×Int)))) (a b:List (Int×Int)),T.length=n-1->(∀ i,i<n-1->(T.getD i []).length=n-1)->(∀ i j,i<n-1->j<n-1->Canon ((T.getD i []).getD j []) (leF L i j))->Canon b (detOfQ T)->IsAlex (clsC L n) (clsO L n:Nat) a->mayB b=true/\unitL b=a):=fun T a b h1 h2 h3 h4 h5=>by
  have hno:=HNO.out
  refine law_fin HLT.out hn2 hn4 HL7.out h1 h2 h3 h4 h5 (h5.may (?_:mayD (clsC L n) (clsO L n:Nat)=true) (by rw[clsC_len];have:=HL7.out;omega))
  cases q:mayD (clsC L n) (clsO L n:Nat) with
  |true=>rfl
  |false=>
   unfold noN at hno
   rw[q,if_neg (by decide)]at hno
   cases hno
 have HFO:Hid (∀ r c t,Canon t (buT L L.length r c)->mayB t=true/\∀ m,Canon m (fun y=>prodL t (coefL [(0,-1)]) y)->mayB m=true/\(r≠c->Canon m (leF L r c))/\(r=c->∀ z,Canon z (fun x=>coefL m x+coefL [(0,1)] x)->Canon z (leF L r c))):=fun r c t ht=>by
  have hb:=buT_ok L L.length r c
  have h3:3 ^ L.length<=2187:=Nat.le_trans (Nat.pow_le_pow_right (by decide) HL7.out) (by decide)
  have h7:=HL7.out
  refine⟨buT_may HL7.out ht,fun m hm=>?_⟩
  have hm2:Canon m (fun y => -buT L L.length r c y):=hm.congr fun y=>by rw[prod_minus,canon_coefB ht]
  refine⟨canon_may hm2 7 (by decide) (fun x hx=>?_) (fun x=>?_),fun hne=>hm2.congr fun y=>?_,fun he z hz=>hz.congr fun y=>?_⟩
  · have:=hb.sp x (fun q=>hx (by rw[q];rfl));omega
  · have:=hb.bd x;omega
  · unfold leF;rw[if_neg (fun q=>hne q.1)];omega
  · unfold leF
    rw[canon_coefB hm2]
    show _+((if(0:Int)=y then 1 else 0)+0)=_
    by_cases q:y=0
    · rw[if_pos q.symm,if_pos ⟨he,q⟩];omega
    · rw[if_neg (fun w=>q w.symm),if_neg (fun w=>q w.2)];omega
 have HFM:Hid (∀ r c t,Canon t (leF L r c)->mayB t=true):=fun r c t ht=>by
  have:=leF_ok HL7.out r c
  exact canon_may ht 7 (by decide) this.1 this.2
 generalize buT L L.length=F at HBU HFO
 generalize clsC L n=C at HCL HAX HFIN
 generalize clsO L n=O at HCL HAX HFIN
 generalize leF L=G at HFIN HFO HFM
 generalize L.length=m at HBU HCL HL7
 clear hword hL1 hb1 ho1 HNO HLT HR1 HWH
 go_wp2_with (go_at_call 6;refine HBU.out.mono ?_;rintro e9 w2 ⟨B2,q,qs,U,rfl,hT2,hb2⟩;refine Hid.out ?_)
 refine Lib.hid ?_
 have HB12:=hid_mkP hb2
 have HT2:=hid_mkP hT2
 have HCL2:=hid_mkP (HCL.out w2 hb2)
 clear hb2 hT2 HBU HCL
 go_wp2_with (go_at_call 7;refine HCL2.out.mono ?_;rintro e9 w3 ⟨a3,c3,rfl,hcr3,hb3⟩;refine Hid.out ?_)
 refine Lib.hid ?_
 have HB3:=hid_mkP hb3
 have HC3:=hid_mkP hcr3
 clear hb3 hcr3 HCL2
 obtain⟨X,hX⟩:∃ X,X=w3.alloc (.cells #[.slice a3 m c3,.int .i64 (O:Nat)] 31):=⟨_,rfl⟩
 have HX:=hid_mkP hX
 have HBX:Hid (Below w3.heap.size w3 X):=(by rw[hX];exact(Below.refl _ _).alloc (Nat.le_refl _) _:Below w3.heap.size w3 X)
 have HAL:Hid (Calls Tryd.prog 8 #[.agg #[.slice a3 m c3,.int .i64 (O:Nat)]] X fun e w'=>∃ v l,e=.returned (.tuple #[v,.int .i64 0])/\Poly w' w'.heap.size v l/\IsAlex C (O:Nat) l/\Below X.heap.size X w'):=HAX.out _ X ((HC3.out.on HBX.out).mono HBX.out.size)
 clear hX HAX HC3
 go_wp2_with (go_at_call 8;rw[<-HX.out];refine HAL.out.mono ?_;rintro e9 w4 ⟨va,la,rfl,hpa,hia,hb4⟩;refine Hid.out ?_)
 refine Lib.hid ?_
 have HB24:Hid (Below w2.heap.size w2 w4):=HB3.out.trans ((HBX.out.trans (hb4.mono HBX.out.size)).mono HB3.out.size)
 have HPA:=hid_mkP hpa
 have HIA:=hid_mkP hia
 have HT4:Hid (Td B2 q n qs n U F w4):=HT2.out.any HB24.out
 clear hb4 hpa hia HAL HX HBX HB3 HT2
 have hnn:((n:Int) != (n:Int))=false:=by simp
 obtain⟨p,hp⟩:∃ p,n - 1=p:=⟨_,rfl⟩
 have HNP:=hid_mkP hp
 have ew1:IntKind.i64.wrap ((n:Int)-1)=(p:Int):=by rw[show(n:Int)-1=p by omega];exact IntWalk.i64_in _ (by omega)
 have hp3:p<=3/\p<n/\1<=p:=by omega
 obtain⟨hp3,hpn,hp1⟩:=hp3
 rw[hp]at HFIN
 clear hp
 obtain⟨i1,hi,hz0,hz1,hz2⟩:=info_parts infoPolyB
 obtain⟨i2,hj,hy0,hy1,hy2⟩:=info_parts infoRowB
 go_wp2
 go_loopw [13, 14] (fun vc i wr => ∃ (x : Nat) (zs : List Value) (T : List (List (List (Int × Int)))), x ≤ p ∧ i = .int .i64 x ∧ zs.length = x ∧ T.length = x ∧ wr.ownsRow w4.heap.size 37 1 vc zs.length zs ∧
     Hid (∀ i,i<x->RowOwnB wr w4.heap.size (zs.getD i (.bool false)) (T.getD i []))/\Hid (∀ i,i<x->(T.getD i []).length=p/\∀ j,j<p->Canon ((T.getD i []).getD j []) (G i j))/\Below w4.heap.size w4 wr) (fun _ i _=>p-(intOf i).toNat)
 case atStart=>exact⟨0,[],[],Nat.zero_le _,rfl,rfl,rfl,World.ownsRow_nil _ _ _ _,fun i hi=>absurd hi (Nat.not_lt_zero _),fun i hi=>absurd hi (Nat.not_lt_zero _),Below.refl _ _⟩
 case round=>
  rename World=>W1
  obtain⟨x,zs,T,hxn,rfl,hzl,hTl,hown,hrows,hfin,hb⟩:=hrel
  by_cases hlt:x<p
  · have hszW:=hb.size
    have HOW:Hid (W1.ownsRow w4.heap.size 37 1 _ zs.length zs):=hown
    have HRW:Hid (∀ i,i<x->RowOwnB W1 w4.heap.size (zs.getD i (.bool false)) (T.getD i [])):=hrows
    have HBW:Hid (Below w4.heap.size w4 W1):=hb
    clear hown hrows
    have hdr:decide ((x:Int)<(p:Int))=true:=decide_eq_true (by omega)
    go_wp2
    go_loopw [15, 16] (fun vr i ws => ∃ (y : Nat) (ys : List Value) (R : List (List (Int × Int))), y ≤ p ∧ i = .int .i64 y ∧ ys.length = y ∧ R.length = y ∧ ws.ownsRow W1.heap.size 34 1 vr ys.length ys ∧
        Hid (∀ j,j<y->ws.ownsRow W1.heap.size 40 2 (ys.getD j (.bool false)) (R.getD j []).length (flat (R.getD j [])))/\Hid (∀ j,j<y->Canon (R.getD j []) (G x j))/\Below W1.heap.size W1 ws) (fun _ i _=>p-(intOf i).toNat)
    case atStart=>exact⟨0,[],[],Nat.zero_le _,rfl,rfl,rfl,World.ownsRow_nil _ _ _ _,fun i hi=>absurd hi (Nat.not_lt_zero _),fun i hi=>absurd hi (Nat.not_lt_zero _),Below.refl _ _⟩
    case round=>
     clear hb
     rename World=>W2
     obtain⟨y,ys,R,hyn,rfl,hyl,hRl,hown,hpol,hfr,hb⟩:=hrel
     have hszX:=hb.size
     by_cases hcl:y<p
     · have HOR:Hid (W2.ownsRow W1.heap.size 34 1 _ ys.length ys):=hown
       have HPL:Hid (∀ j,j<y->W2.ownsRow W1.heap.size 40 2 (ys.getD j (.bool false)) (R.getD j []).length (flat (R.getD j []))):=hpol
       have HFR:Hid (∀ j,j<y->Canon (R.getD j []) (G x j)):=hfr
       have HBI:Hid (Below W1.heap.size W1 W2):=hb
       have HTX:Hid (Td B2 q n qs n U F W2):=HT4.out.any (HBW.out.trans (hb.mono hszW))
       clear hown hpol hfr hb
       have hdc:decide ((y:Int)<(p:Int))=true:=decide_eq_true (by omega)
       have d0:=HTX.out.cellO x (by omega) (by omega)
       have d1:=HTX.out.cellR x y (by omega) (by omega)
       have hxI:(x:Int)<(n:Int):=by omega
       have hyI:(y:Int)<(n:Int):=by omega
       obtain⟨tl,⟨hpt,-⟩,hct⟩:=HTX.out.vals x y (by omega) (by omega)
       have HPT:=hid_mkP hpt
       obtain⟨hmt,hfo⟩:=HFO.out x y tl hct
       have HMT:=hid_mkP hmt
       have HFO2:=hid_mkP hfo
       clear hpt hct hmt hfo
       have HMU:Hid (Calls Tryd.prog 9 #[U x y,.slice (some ⟨W2.heap.size,0,none⟩) 1 1] (W2.alloc (.cells #[.int .i64 0,.int .i64 (-1)] 40)) fun e w'=>∃ v r,e=.returned (.tuple #[v,.int .i64 0])/\w'.ownsRow (W2.alloc (.cells #[.int .i64 0,.int .i64 (-1)] 40)).heap.size 40 2 v r.length (flat r)/\Canon r (fun y=>prodL tl (coefL [(0,-1)]) y)/\r.length<=4096/\Below (W2.alloc (.cells #[.int .i64 0,.int .i64 (-1)] 40)).heap.size (W2.alloc (.cells #[.int .i64 0,.int .i64 (-1)] 40)) w'):=mul_yes _ _ tl [(0,-1)] _ HMT.out (by decide) (HPT.out.up ((Below.refl _ _).alloc (Nat.le_refl _) _)) poly_lit
       go_wp2_with (go_at_call 9;refine HMU.out.mono ?_;rintro e9 w5 ⟨vm,rl,rfl,hro,hrc,-,hb5⟩;refine Hid.out ?_)
       refine Lib.hid ?_
       obtain⟨hmr,hf1,hf2⟩:=HFO2.out rl hrc
       have HB5:Hid (Below W2.heap.size W2 w5):=((Below.refl _ _).alloc (Nat.le_refl _) _).trans (hb5.mono (by simp))
       have HRO:=hid_mkP (own_low hro (show W2.heap.size<=_ by simp))
       have HMR:=hid_mkP hmr
       have HF1:=hid_mkP hf1
       have HF2:=hid_mkP hf2
       have hsz5:=HB5.out.size
       clear hro hrc hb5 hmr hf1 hf2 HMU HFO2 HPT HMT d0 d1
       by_cases hxy:x=y
       · have hxb:((x:Int)==(y:Int))=true:=by rw[hxy];exact beq_self_eq_true _
         have HPL2:Hid (Calls Tryd.prog 10 #[vm,.slice (some ⟨w5.heap.size,0,none⟩) 1 1] (w5.alloc (.cells #[.int .i64 0,.int .i64 1] 40)) fun e w'=>∃ v r,e=.returned v/\w'.ownsRow (w5.alloc (.cells #[.int .i64 0,.int .i64 1] 40)).heap.size 40 2 v r.length (flat r)/\Canon r (fun x=>coefL rl x+coefL [(0,1)] x)/\Below (w5.alloc (.cells #[.int .i64 0,.int .i64 1] 40)).heap.size (w5.alloc (.cells #[.int .i64 0,.int .i64 1] 40)) w'):=plusB_own _ _ rl [(0,1)] _ HMR.out (by decide) ((Poly.ofRow HRO.out).up ((Below.refl _ _).alloc (Nat.le_refl _) _)) poly_lit
         have HXY:=hid_mkP hxy
         clear hxy
         go_wp2_with (go_at_call 10;refine HPL2.out.mono ?_;rintro e9 w6 ⟨vn,sl,rfl,hro6,hrc6,hb6⟩;refine Hid.out ?_)
         refine Lib.hid ?_
         have HB6:Hid (Below W2.heap.size W2 w6):=HB5.out.trans (((Below.refl _ _).alloc (Nat.le_refl _) _ |>.trans (hb6.mono (by simp))).mono hsz5)
         have HCS:Hid (Canon sl (G x y)):=HF2.out HXY.out sl hrc6
         have hro7:=own_low hro6 (show W2.heap.size<=_ by simp;omega)
         obtain⟨a7,c7,rfl⟩:=own_capS hro7
         have HRO6:=hid_mkP hro7
         have hsz6:=HB6.out.size
         have hsl:sl.length<=64:=((may_iff _).1 (HFM.out x y sl HCS.out)).1
         clear hro6 hrc6 hb6 hro7 HPL2 HXY HF1 HF2 HMR HRO HB5 hsz5
         have hgx:W2.grownBy w6 none:=grown_below HB6.out none
         have hown3:=own_any HOR.out hgx
         have HPO:Hid (∀ j,j<y->w6.ownsRow W1.heap.size 40 2 (ys.getD j (.bool false)) (R.getD j []).length (flat (R.getD j []))):=fun j hj=>own_any (HPL.out j hj) hgx
         have HO7:Hid (w6.ownsRow W1.heap.size 40 2 (.slice a7 sl.length c7) sl.length (flat sl)):=own_low HRO6.out (by have:=hszX;omega)
         have HON:Hid (∀ u∈[Value.slice a7 sl.length c7],u.oneCell'=true):=own_oneS HRO6.out
         have HBX:Hid (Below W1.heap.size W1 w6):=HBI.out.trans (HB6.out.mono hszX)
         have hszZ:=HBX.out.size
         clear hgx
         go_wp2_with (first
          |(at_builtin;refine wpList_append_own _ rfl _ _ 37 rfl W1.heap.size 34 i1 (.slice none 0 0) 1 24 Tryd.underlying37 hi hz0 hz1 hz2 rfl (by decide) _ _ _ rfl (hown3.alloc _) ⟨w6.heap.size,0,none⟩ 1 1 [Value.slice a7 sl.length c7] rfl rfl (new_cell1 _ _ _) HON.out (by unfold maxLen;omega) (by omega) (by simp;omega) ?_;intro v8 w8 hown8 hg8 _;go_frame))
         go_roundw
         case rel=>
          refine⟨y+1,ys++[Value.slice a7 sl.length c7],R++[sl],by omega,by go_num,by simp;omega,by simp;omega,by rw[List.length_append];exact hown8,fun j hj=>?_,fun j hj=>?_,(HBX.out.alloc (by omega) _).grown hg8 (by simp;omega) (fun q hq=>(hown3.lt q hq).1)⟩
          · by_cases hjk:j<y
            · rw[getD_left ys _ j (by omega),getL_leftB R sl j (by omega)]
              have h1:=(HPO.out j hjk).alloc (.cells #[Value.slice a7 sl.length c7] 34)
              exact h1.kept hg8 (own_ne h1 (hown3.alloc _) (by decide))
            · have ej:j=ys.length:=by omega
              have ej2:j=R.length:=by omega
              have h1:=HO7.out.alloc (.cells #[Value.slice a7 sl.length c7] 34)
              have e2:(ys++[Value.slice a7 sl.length c7]).getD j (.bool false)=Value.slice a7 sl.length c7:=by rw[ej];exact getD_last ys _
              have e3:(R++[sl]).getD j []=sl:=by rw[ej2];exact getL_lastB R sl
              rw[e2,e3]
              exact h1.kept hg8 (own_ne h1 (hown3.alloc _) (by decide))
          · by_cases hjk:j<y
            · rw[getL_leftB R sl j (by omega)];exact HFR.out j hjk
            · have ej2:j=R.length:=by omega
              have ej3:j=y:=by omega
              have e3:(R++[sl]).getD j []=sl:=by rw[ej2];exact getL_lastB R sl
              rw[e3,ej3];exact HCS.out
         case measure=>simp only[intOf];omega
       · have hxb:((x:Int)==(y:Int))=false:=beq_eq_false_iff_ne.2 (by omega)
         have HCS:Hid (Canon rl (G x y)):=HF1.out hxy
         have hro7:=HRO.out
         obtain⟨a7,c7,rfl⟩:=own_capS hro7
         have hsl:rl.length<=64:=((may_iff _).1 (HFM.out x y rl HCS.out)).1
         clear hro7 HF1 HF2 HMR
         have hgx:W2.grownBy w5 none:=grown_below HB5.out none
         have hown3:=own_any HOR.out hgx
         have HPO:Hid (∀ j,j<y->w5.ownsRow W1.heap.size 40 2 (ys.getD j (.bool false)) (R.getD j []).length (flat (R.getD j []))):=fun j hj=>own_any (HPL.out j hj) hgx
         have HO7:Hid (w5.ownsRow W1.heap.size 40 2 (.slice a7 rl.length c7) rl.length (flat rl)):=own_low HRO.out (by have:=hszX;omega)
         have HON:Hid (∀ u∈[Value.slice a7 rl.length c7],u.oneCell'=true):=own_oneS HRO.out
         have HBX:Hid (Below W1.heap.size W1 w5):=HBI.out.trans (HB5.out.mono hszX)
         have hszZ:=HBX.out.size
         clear hgx
         go_wp2_with (first
          |(at_builtin;refine wpList_append_own _ rfl _ _ 37 rfl W1.heap.size 34 i1 (.slice none 0 0) 1 24 Tryd.underlying37 hi hz0 hz1 hz2 rfl (by decide) _ _ _ rfl (hown3.alloc _) ⟨w5.heap.size,0,none⟩ 1 1 [Value.slice a7 rl.length c7] rfl rfl (new_cell1 _ _ _) HON.out (by unfold maxLen;omega) (by omega) (by simp;omega) ?_;intro v8 w8 hown8 hg8 _;go_frame))
         go_roundw
         case rel=>
          refine⟨y+1,ys++[Value.slice a7 rl.length c7],R++[rl],by omega,by go_num,by simp;omega,by simp;omega,by rw[List.length_append];exact hown8,fun j hj=>?_,fun j hj=>?_,(HBX.out.alloc (by omega) _).grown hg8 (by simp;omega) (fun q hq=>(hown3.lt q hq).1)⟩
          · by_cases hjk:j<y
            · rw[getD_left ys _ j (by omega),getL_leftB R rl j (by omega)]
              have h1:=(HPO.out j hjk).alloc (.cells #[Value.slice a7 rl.length c7] 34)
              exact h1.kept hg8 (own_ne h1 (hown3.alloc _) (by decide))
            · have ej:j=ys.length:=by omega
              have ej2:j=R.length:=by omega
              have h1:=HO7.out.alloc (.cells #[Value.slice a7 rl.length c7] 34)
              have e2:(ys++[Value.slice a7 rl.length c7]).getD j (.bool false)=Value.slice a7 rl.length c7:=by rw[ej];exact getD_last ys _
              have e3:(R++[rl]).getD j []=rl:=by rw[ej2];exact getL_lastB R rl
              rw[e2,e3]
              exact h1.kept hg8 (own_ne h1 (hown3.alloc _) (by decide))
          · by_cases hjk:j<y
            · rw[getL_leftB R rl j (by omega)];exact HFR.out j hjk
            · have ej2:j=R.length:=by omega
              have ej3:j=y:=by omega
              have e3:(R++[rl]).getD j []=rl:=by rw[ej2];exact getL_lastB R rl
              rw[e3,ej3];exact HCS.out
         case measure=>simp only[intOf];omega
     · have hdc:decide ((y:Int)<(p:Int))=false:=decide_eq_false (by omega)
       have HB2X:Hid (Below w4.heap.size w4 W2):=HBW.out.trans (hb.mono hszW)
       have hsz4:=HB2X.out.size
       rw[hyl]at hown
       obtain⟨a7,c7,rfl⟩:=own_capS hown
       have hgx:W1.grownBy W2 none:=grown_below hb none
       have hown3:=own_any HOW.out hgx
       have HR3:Hid (∀ i,i<x->RowOwnB W2 w4.heap.size (zs.getD i (.bool false)) (T.getD i [])):=fun i hi=>(HRW.out i hi).any hgx
       have HRO:Hid (RowOwnB W2 w4.heap.size (.slice a7 y c7) R):=RowOwnB.low ⟨ys,by omega,by rw[hyl];exact hown,fun j hj=>hpol.out j (by omega)⟩ hszW
       have HON:Hid (∀ u∈[Value.slice a7 y c7],u.oneCell'=true):=own_oneS hown
       have HFR:Hid (R.length=p/\∀ j,j<p->Canon (R.getD j []) (G x j)):=⟨by omega,fun j hj=>hfr.out j (by omega)⟩
       have HFN:Hid (∀ i,i<x->(T.getD i []).length=p/\∀ j,j<p->Canon ((T.getD i []).getD j []) (G i j)):=hfin
       clear hown hpol hgx hfr hb hfin
       go_wp2_with (first
        |(at_builtin;refine wpList_append_own _ rfl _ _ 25 rfl w4.heap.size 37 i2 (.slice none 0 0) 1 24 Tryd.underlying25 hj hy0 hy1 hy2 rfl (by decide) _ _ _ rfl (hown3.alloc _) ⟨W2.heap.size,0,none⟩ 1 1 [Value.slice a7 y c7] rfl rfl (new_cell1 _ _ _) HON.out (by unfold maxLen;omega) (by omega) (by simp;omega) ?_;intro v8 w8 hown8 hg8 _;go_frame))
       go_roundw
       case rel=>
        refine⟨x+1,zs++[Value.slice a7 y c7],T++[R],by omega,by go_num,by simp;omega,by simp;omega,by rw[List.length_append];exact hown8,fun j hj=>?_,fun j hj=>?_,(HB2X.out.alloc (by omega) _).grown hg8 (by simp;omega) (fun q hq=>(hown3.lt q hq).1)⟩
        · have hga:W2.grownBy (W2.alloc (.cells #[Value.slice a7 y c7] 37)) none:=World.grownBy_alloc _ _ _
          by_cases hjk:j<x
          · rw[getD_left zs _ j (by omega),getL_leftB T R j (by omega)]
            exact((HR3.out j hjk).any hga).other (hown3.alloc _) hg8
          · have ej:j=zs.length:=by omega
            have ej2:j=T.length:=by omega
            have e2:(zs++[Value.slice a7 y c7]).getD j (.bool false)=Value.slice a7 y c7:=by rw[ej];exact getD_last zs _
            have e3:(T++[R]).getD j []=R:=by rw[ej2];exact getL_lastB T R
            rw[e2,e3]
            exact(HRO.out.any hga).other (hown3.alloc _) hg8
        · by_cases hjk:j<x
          · rw[getL_leftB T R j (by omega)];exact HFN.out j hjk
          · have ej2:j=T.length:=by omega
            have ej3:j=x:=by omega
            have e3:(T++[R]).getD j []=R:=by rw[ej2];exact getL_lastB T R
            rw[e3,ej3];exact HFR.out
       case measure=>simp only[intOf];omega
  · have hdr:decide ((x:Int)<(p:Int))=false:=decide_eq_false (by omega)
    have hTp:T.length=p:=by omega
    have hxp:x=p:=by omega
    have HTB:Hid (Table W1 W1.heap.size _ T):=table_ownB (by omega) hown (fun i hi=>hrows.out i (by omega))
    have HTR:Hid (∀ i,i<p->(T.getD i []).length=p):=fun i hi=>(hfin.out i (by omega)).1
    have HTC:Hid (∀ i j,i<p->j<p->Canon ((T.getD i []).getD j []) (G i j)):=fun i j hi hj=>(hfin.out i (by omega)).2 j hj
    have HTL:Hid (T.length=p):=hTp
    have hsq:squareB T=true:=(square_iff T).2 ⟨by omega,fun i hi=>by rw[HTR.out i (by omega),hTp]⟩
    have hmy:everyB mayB T=true:=(every_iff mayB T).2 fun i hi j hj=>HFM.out i j _ (HTC.out i j (by omega) (by rw[HTR.out i (by omega)]at hj;exact hj))
    have HDT := hid_mkP (det_anyQ _ T W1 (by unfold maxLen; omega) (fun i hi => by rw [HTR.out i (by omega)]; unfold maxLen; omega) (fun i hi j hj => by
     have:=((may_iff _).1 ((every_iff mayB T).1 hmy i hi j hj)).1
     unfold maxLen;omega) HTB.out)
    have HB41:Hid (Below w4.heap.size w4 W1):=hb
    have HPA1:Hid (Poly W1 W1.heap.size va la):=HPA.out.up hb
    cases hfw:everyB fewB T with
    |false=>
     have e3:detMayN T=3:=detMay_range hsq hmy hfw
     rw[e3]at HDT
     clear hown hrows hfin hb HTB hsq hmy hfw e3
     go_wp2_with (go_at_call 11;refine HDT.out.mono ?_;rintro e9 w5 ⟨vb,lb,rfl,-,-,-,hb5⟩;refine Hid.out ?_)
     refine Lib.hid ?_
     have HEND:Hid (Below w.heap.size w w5):=HB1.out.trans ((HB12.out.trans ((HB24.out.trans ((HB41.out.trans (hb5.mono HB41.out.size)).mono HB24.out.size)).mono HB12.out.size)).mono HB1.out.size)
     clear hb5 HDT
     go_wp2
     go_ret
     exact⟨rfl,HEND.out⟩
    |true=>
     have e3:detMayN T=0:=detMay_ok hsq hmy hfw
     rw[e3]at HDT
     clear hown hrows hfin hb HTB hsq hmy hfw e3
     go_wp2_with (go_at_call 11;refine HDT.out.mono ?_;rintro e9 w5 ⟨vb,lb,rfl,hpb,-,hcb,hb5⟩;refine Hid.out ?_)
     refine Lib.hid ?_
     obtain⟨hbm,hbu⟩:=HFIN.out T la lb HTL.out HTR.out HTC.out (hcb trivial).2.2 HIA.out
     have HBM:=hid_mkP hbm
     have HBU:=hid_mkP hbu
     have HPB:=hid_mkP hpb
     have HB45:Hid (Below w4.heap.size w4 w5):=HB41.out.trans (hb5.mono HB41.out.size)
     have HPA5:Hid (Poly w5 w5.heap.size va la):=HPA1.out.up hb5
     have HUN:=hid_mkP (unit_yes vb lb w5 HBM.out HPB.out)
     clear hbm hbu hpb hb5 hcb HDT HFIN HTC HTR HTL HFM HFO
     go_wp2_with (go_at_call 12;refine HUN.out.mono ?_;rintro e9 w6 ⟨vu,rfl,hpu,hb6⟩;refine Hid.out ?_)
     refine Lib.hid ?_
     rw[HBU.out]at hpu
     have hla:la.length<=maxLen:=by
      have:=((may_iff _).1 HBM.out).1
      have h2:=congrArg List.length HBU.out
      rw[unit_len]at h2
      unfold maxLen
      omega
     have HSM:=hid_mkP (same_polyK va vu la la w6 hla (HPA5.out.up hb6) hpu)
     have HEND:Hid (∀ W,Below w6.heap.size w6 W->Below w.heap.size w W):=fun W hW=>HB1.out.trans ((HB12.out.trans ((HB24.out.trans ((HB45.out.trans ((hb6.trans (hW.mono hb6.size)).mono HB45.out.size)).mono HB24.out.size)).mono HB12.out.size)).mono HB1.out.size)
     clear hpu hb6 hla HUN
     go_wp2_with (go_at_call 13;refine HSM.out.mono ?_;rintro e9 w7 ⟨rfl,hb7⟩;refine Hid.out ?_)
     refine Lib.hid ?_
     have HEND2:=hid_mkP (HEND.out _ hb7)
     clear hb7
     go_wp2
     go_ret
     exact⟨ret_bool (by simp),HEND2.out⟩
end Go.Proofs.YtiliihlkpknhdaaDoor.Poly

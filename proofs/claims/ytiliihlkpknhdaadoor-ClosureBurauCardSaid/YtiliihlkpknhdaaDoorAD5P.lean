/- Several texts of the proof, one behind the other. -/
import Derived.Test.YtiliihlkpknhdaaDoorPDetP
/- The walk of (poly.work).addProduct at any polynomial that may be handed in. -/
namespace Go.Proofs.YtiliihlkpknhdaaDoor.Poly
open Go.RowKit Go.Maps
set_option maxHeartbeats 4000000
set_option maxRecDepth 100000
theorem addp_none (sg : Int) (bp bq nq cap : Nat) (a : Option Addr) (Dq : DataW Unit) (w : World) (hq : w.ownsMap Tryd.prog 3 (plainElem Tryd.prog 3) bq nq Dq) :
    Calls Tryd.prog 50 #[.map (some bp),.map (some bq),.slice a 0 cap,.int .i64 sg] w fun e w'=>e=.returned (.tuple #[])/\w.grownBy w' none:=by
 have hlq:=hq.lt
 go_enter Tryd.func50,Tryd.ntmps50
 go_wp2_with (first
  |(at_range;refine wpList_range_own _ rfl _ 60 rfl 3 3 law3 Tryd.underlying60 _ bq nq _ rfl hq ?_;intro w0 hrg0 hg0 hs0))
 go_frame
 go_loopw [8,9,11] (fun _ _ _ wr=>∃ (left:Lit->Bool) (cnt:Nat),wr.ranges Tryd.prog 3 (plainElem Tryd.prog 3) bq w.heap.size nq Dq left cnt/\w.grownBy wr none)
  (fun _ _ _ wr=>wr.rangeLeft bq w.heap.size)
 case atStart=>exact⟨_,_,hrg0,hg0⟩
 case round=>
  clear hrg0 hg0 hs0
  rename World=>W1
  obtain⟨left,cnt,hrg,hgr⟩:=hrel
  go_wp2_with (first
   |(at_next;refine wpList_next_ranges_ii _ rfl _ rfl 3 3 .i64 .i64 law3 Tryd.underlying3 Tryd.underlying3 bq w.heap.size nq _ _ _ rfl hrg ?_ ?_)
   |go_in)
  · intro hc0 hl0
    go_wp2
    exact bodyPost_end (v:=.tuple #[]) (by simp[results,Tryd.results50,go_sem]) rfl ⟨rfl,hgr⟩
  · intro x c w1 cnt1 hwx hwc hlx hat hrg1 hlt hg1 hs1 hen
    have hgr1:=grown_new hgr hg1 (Nat.le_refl _)
    clear hat hlx hs1 hg1 hgr
    go_wp2
    clear hen
    go_loopw [11,21] (fun _ i ws=>i=.int .i64 0/\ws.ranges Tryd.prog 3 (plainElem Tryd.prog 3) bq w.heap.size nq Dq (fun z=>left z&&!z.sameKey (.int .i64 x)) cnt1/\w.grownBy ws none) (fun _ _ _=>0)
    case atStart=>exact⟨rfl,hrg1,hgr1⟩
    case round=>
     rename World=>W2
     obtain⟨rfl,hrq,hgr⟩:=hrel
     go_wp2
     go_roundw
     case rel=>exact⟨_,cnt1,hrq,hgr⟩
     case measure=>rw[hrq.left_eq,hrg.left_eq];exact hlt
theorem not_map {w:World} {bp np b o:Nat} {D:DataW Unit} {v:Value} (hp:w.ownsMap Tryd.prog 3 (plainElem Tryd.prog 3) bp np D) (hc:w.cell? ⟨b,o,none⟩=some v):b≠bp:=by
 rintro rfl
 obtain⟨es,clock,hw,_⟩:=hp
 simp[World.cell?,hw]at hc
theorem addp_poly (sg : Int) (hsg : sg = 1 ∨ sg = -1) (bp np bq nq : Nat) (Dp Dq : DataW Unit) (v : Value) (l : List (Int × Int)) (w : World) (hp : w.ownsMap Tryd.prog 3 (plainElem Tryd.prog 3) bp np Dp) (hq : w.ownsMap Tryd.prog 3 (plainElem Tryd.prog 3) bq nq Dq) (hpq : bp ≠ bq)
    (hm:mayB l=true) (hS:sizeL l<=4) (hP:Poly w w.heap.size v l) (hnp:np<=1000000000000000) (hnq:nq<=10000000000000) (K N:Int) (hKN:K+1000<=N) (hN:N<=100000) (hK:0<=K)
    (hkp:KeysIn Dp N) (hkq:KeysIn Dq K) (hvp:∀ x,-1000000000000000<=coefOf Dp x/\coefOf Dp x<=1000000000000000) (hvq:∀ x,-2000000000000<=coefOf Dq x/\coefOf Dq x<=2000000000000):
    Calls Tryd.prog 50 #[.map (some bp),.map (some bq),v,.int .i64 sg] w fun e w'=>∃ D:DataW Unit,e=.returned (.tuple #[])/\w'.ownsMap Tryd.prog 3 (plainElem Tryd.prog 3) bp (np+4*nq) D/\
     (∀ y,coefOf D y=coefOf Dp y+sg*prodL l (coefOf Dq) y)/\KeysIn D N/\w.grownBy w' (some bp):=by
 obtain⟨a,cap,rfl,g⟩:=hP.slice
 rcases Nat.eq_zero_or_pos l.length with h0|h0
 · have e0:l=[]:=List.length_eq_zero_iff.1 h0
   subst e0
   refine(addp_none sg bp bq nq cap a Dq w hq).mono ?_
   rintro e w' ⟨rfl,hg⟩
   exact⟨Dp,rfl,(hp.kept hg (by simp)).mono (by omega),fun y=>by simp[prodL],hkp,grown_none hg _⟩
 · obtain⟨b,off,rfl,hlt,hT⟩:=g h0
   exact addp_some sg hsg bp np bq nq b off cap Dp Dq l w hp hq hpq hm hS hlt (not_map hp (hT 0 h0).1) hT hnp hnq K N hKN hN hK hkp hkq hvp hvq
end Go.Proofs.YtiliihlkpknhdaaDoor.Poly
/- Tables of polynomials in a world, and the walk of poly.square. -/
namespace Go.Proofs.YtiliihlkpknhdaaDoor.Poly
open Go.RowKit Go.Maps
set_option maxHeartbeats 1000000
set_option maxRecDepth 100000
def Slots (w:World) (B:Nat) (v:Value) (xs:List Value):Prop:=
 ∃ a cap,v=.slice a xs.length cap/\(0<xs.length->∃ b off,a=some ⟨b,off,none⟩/\b<B/\∀ i,i<xs.length->w.cell? ⟨b,off+i,none⟩=some (xs.getD i (.bool false)))
theorem Slots.on {w w':World} {B:Nat} {v:Value} {xs:List Value} (h:Slots w B v xs) (hb:Below B w w'):Slots w' B v xs:=by
 obtain⟨a,cap,rfl,g⟩:=h
 refine⟨a,cap,rfl,fun h0=>?_⟩
 obtain⟨b,off,rfl,hlt,hc⟩:=g h0
 exact⟨b,off,rfl,hlt,fun i hi=>bcell hb hlt (hc i hi)⟩
theorem Slots.mono {w:World} {B B':Nat} {v:Value} {xs:List Value} (h:Slots w B v xs) (hB:B<=B'):Slots w B' v xs:=by
 obtain⟨a,cap,rfl,g⟩:=h
 refine⟨a,cap,rfl,fun h0=>?_⟩
 obtain⟨b,off,rfl,hlt,hc⟩:=g h0
 exact⟨b,off,rfl,Nat.lt_of_lt_of_le hlt hB,hc⟩
def Row (w:World) (B:Nat) (v:Value) (T:List (List (Int×Int))):Prop:=
 ∃ ps:List Value,ps.length=T.length/\Slots w B v ps/\∀ j,j<T.length->Poly w B (ps.getD j (.bool false)) (T.getD j [])
def Table (w:World) (B:Nat) (v:Value) (T:List (List (List (Int×Int)))):Prop:=
 ∃ rs:List Value,rs.length=T.length/\Slots w B v rs/\∀ i,i<T.length->Row w B (rs.getD i (.bool false)) (T.getD i [])
theorem Row.on {w w':World} {B:Nat} {v:Value} {T:List (List (Int×Int))} (h:Row w B v T) (hb:Below B w w'):Row w' B v T:=by
 obtain⟨ps,h1,h2,h3⟩:=h
 exact⟨ps,h1,h2.on hb,fun j hj=>(h3 j hj).on hb⟩
theorem Row.mono {w:World} {B B':Nat} {v:Value} {T:List (List (Int×Int))} (h:Row w B v T) (hB:B<=B'):Row w B' v T:=by
 obtain⟨ps,h1,h2,h3⟩:=h
 exact⟨ps,h1,h2.mono hB,fun j hj=>(h3 j hj).mono hB⟩
theorem Table.on {w w':World} {B:Nat} {v:Value} {T:List (List (List (Int×Int)))} (h:Table w B v T) (hb:Below B w w'):Table w' B v T:=by
 obtain⟨rs,h1,h2,h3⟩:=h
 exact⟨rs,h1,h2.on hb,fun j hj=>(h3 j hj).on hb⟩
theorem Table.mono {w:World} {B B':Nat} {v:Value} {T:List (List (List (Int×Int)))} (h:Table w B v T) (hB:B<=B'):Table w B' v T:=by
 obtain⟨rs,h1,h2,h3⟩:=h
 exact⟨rs,h1,h2.mono hB,fun j hj=>(h3 j hj).mono hB⟩
theorem Table.up {w w':World} {v:Value} {T:List (List (List (Int×Int)))} (h:Table w w.heap.size v T) (hb:Below w.heap.size w w'):Table w' w'.heap.size v T:=(h.on hb).mono hb.size
def squareB (T:List (List (List (Int×Int)))):Bool:=decide (T.length<=6)&&(List.range T.length).all fun i=>decide ((T.getD i []).length=T.length)
theorem square_iff (T:List (List (List (Int×Int)))):squareB T=true↔T.length<=6/\∀ i,i<T.length->(T.getD i []).length=T.length:=by
 unfold squareB
 simp[List.all_eq_true]
theorem square_no {T:List (List (List (Int×Int)))} {i:Nat} (hi:i<T.length) (h:(T.getD i []).length≠T.length):squareB T=false:=by
 cases hm:squareB T with
 |false=>rfl
 |true=>exact absurd (((square_iff T).1 hm).2 i hi) h
theorem square_long {T:List (List (List (Int×Int)))} (h:6<T.length):squareB T=false:=by
 cases hm:squareB T with
 |false=>rfl
 |true=>have:=((square_iff T).1 hm).1;omega
theorem square_any (v : Value) (T : List (List (List (Int × Int)))) (w : World) (hl : T.length ≤ maxLen) (hr : ∀ i, i < T.length → (T.getD i []).length ≤ maxLen) (h : Table w w.heap.size v T) :
    Calls Tryd.prog 24 #[v] w fun e w'=>e=.returned (.bool (squareB T))/\Below w.heap.size w w':=by
 obtain⟨rs,hrl,⟨a,cap,rfl,g⟩,hR⟩:=h
 have hl':T.length<=9223372036854775807:=hl
 have HR:Hid (∀ i,i<T.length->Row w w.heap.size (rs.getD i (.bool false)) (T.getD i [])):=hR
 have HL:Hid (∀ i,i<T.length->(T.getD i []).length<=maxLen):=hr
 rw[hrl]at g ⊢
 have HG:Hid (0<T.length->∃ b off,a=some ⟨b,off,none⟩/\b<w.heap.size/\∀ i,i<T.length->w.cell? ⟨b,off+i,none⟩=some (rs.getD i (.bool false))):=g
 clear hR hr g hl
 by_cases h6:6<T.length
 · have e:=square_long h6
   rw[e]
   have hd:decide (6<(T.length:Int))=true:=by simp;omega
   go_enter Tryd.func24,Tryd.ntmps24
   go_wp2
   go_ret
   exact⟨rfl,Below.refl _ _⟩
 · go_enter Tryd.func24,Tryd.ntmps24
   go_wp2
   go_loopw [4,10] (fun _ i wr=>∃ k:Nat,k<=T.length/\i=.int .i64 k/\Hid (∀ i,i<k->(T.getD i []).length=T.length)/\Below w.heap.size w wr) (fun _ i _=>T.length-(intOf i).toNat)
   case atStart=>exact⟨0,Nat.zero_le _,rfl,fun i hi=>absurd hi (Nat.not_lt_zero _),Below.refl _ _⟩
   case round=>
    obtain⟨k,hk,rfl,hA,hb⟩:=hrel
    by_cases hlt:k<T.length
    · obtain⟨b,off,rfl,hbw,hc⟩:=HG.out (by omega)
      have c0:=bcell hb hbw (hc k hlt)
      obtain⟨ps,hpl,⟨a2,cap2,hv2,_⟩,_⟩:=HR.out k hlt
      rw[hv2,hpl]at c0
      have hlk:(T.getD k []).length<=9223372036854775807:=HL.out k hlt
      have hbr:b<wr.heap.size:=Nat.lt_of_lt_of_le hbw hb.size
      have HK:Hid ((T.getD k []).length≠T.length->squareB T=false):=fun h=>square_no hlt h
      have HA:Hid ((T.getD k []).length=T.length->∀ i,i<k+1->(T.getD i []).length=T.length):=fun h i hi=>by
       by_cases e:i=k
       · rw[e];exact h
       · exact hA.out i (by omega)
      clear hc hpl hv2 hA
      generalize (T.getD k []).length=n at c0 hlk HK HA
      by_cases hn:n=T.length
      · subst hn
        go_wp2
        go_roundw
        case rel=>exact⟨k+1,by omega,by go_num,HA.out rfl,hb⟩
        case measure=>simp only[intOf];omega
      · have hd:((n:Int) != (T.length:Int))=true:=by rw[bne_iff_ne];omega
        have e:=HK.out hn
        go_wp2
        go_ret
        exact⟨ret_bool e,hb⟩
    · obtain rfl:k=T.length:=by omega
      have e:squareB T=true:=(square_iff T).2 ⟨by omega,hA.out⟩
      go_wp2
      go_ret
      exact⟨ret_bool e,hb⟩
end Go.Proofs.YtiliihlkpknhdaaDoor.Poly
/- The walks of poly.everyPlace with poly.mayBe and with poly.small. -/
namespace Go.Proofs.YtiliihlkpknhdaaDoor.Poly
open Go.RowKit Go.Maps
set_option maxHeartbeats 1000000
set_option maxRecDepth 100000
theorem small_none (a : Option Addr) (cap : Nat) (w : World) :
    Calls Tryd.prog 27 #[.slice a 0 cap] w fun e w'=>e=.returned (.bool true)/\Below w.heap.size w w':=by
 go_enter Tryd.func27,Tryd.ntmps27
 go_wp2
 go_loopw [3,8] (fun s i wr=>s=.int .i64 0/\i=.int .i64 0/\Below w.heap.size w wr) (fun _ _ _=>0)
 case atStart=>exact⟨rfl,rfl,Below.refl _ _⟩
 case round=>
  obtain⟨rfl,rfl,hb⟩:=hrel
  go_wp2
  go_ret
  exact⟨rfl,hb⟩
theorem small_poly (v : Value) (l : List (Int × Int)) (w : World) (hm : mayB l = true) (hP : Poly w w.heap.size v l) :
    Calls Tryd.prog 27 #[v] w fun e w'=>e=.returned (.bool (decide (sizeL l<=100)))/\Below w.heap.size w w':=by
 rcases hP with⟨rfl,rfl⟩|⟨a,cap,rfl,rfl⟩|⟨b,off,cap,rfl,hlt,hT⟩
 · exact small_none none 0 w
 · exact small_none (some a) cap w
 · exact small_some b off cap l w hm hlt hT
def everyB (G:List (Int×Int)->Bool) (T:List (List (List (Int×Int)))):Bool:=(List.range T.length).all fun i=>(List.range (T.getD i []).length).all fun j=>G ((T.getD i []).getD j [])
theorem every_iff (G:List (Int×Int)->Bool) (T:List (List (List (Int×Int)))):everyB G T=true↔∀ i,i<T.length->∀ j,j<(T.getD i []).length->G ((T.getD i []).getD j [])=true:=by
 unfold everyB
 simp only[List.all_eq_true,List.mem_range]
theorem every_no {G:List (Int×Int)->Bool} {T:List (List (List (Int×Int)))} {i j:Nat} (hi:i<T.length) (hj:j<(T.getD i []).length) (h:G ((T.getD i []).getD j [])=false):everyB G T=false:=by
 cases hm:everyB G T with
 |false=>rfl
 |true=>have:=(every_iff G T).1 hm i hi j hj;rw[h]at this;cases this
def fewB (l:List (Int×Int)):Bool:=decide (sizeL l<=100)
theorem small_poly_few (v : Value) (l : List (Int × Int)) (w : World) (hm : mayB l = true) (hP : Poly w w.heap.size v l) :
    Calls Tryd.prog 27 #[v] w fun e w'=>e=.returned (.bool (fewB l))/\Below w.heap.size w w':=small_poly v l w hm hP
theorem every_may (v : Value) (T : List (List (List (Int × Int)))) (w : World) (hl : T.length ≤ 6) (hr : ∀ i, i < T.length → (T.getD i []).length ≤ 6) (hp : ∀ i, i < T.length → ∀ j, j < (T.getD i []).length → ((T.getD i []).getD j []).length ≤ maxLen) (h : Table w w.heap.size v T) :
    Calls Tryd.prog 25 #[v,.func (.func 26) #[] #[]] w fun e w'=>e=.returned (.bool (everyB mayB T))/\Below w.heap.size w w':=by
 obtain⟨rs,hrl,⟨a,cap,rfl,g⟩,hR⟩:=h
 have HR:Hid (∀ i,i<T.length->Row w w.heap.size (rs.getD i (.bool false)) (T.getD i [])):=hR
 have HL:Hid (∀ i,i<T.length->(T.getD i []).length<=6):=hr
 have HP:Hid (∀ i,i<T.length->∀ j,j<(T.getD i []).length->((T.getD i []).getD j []).length<=maxLen):=hp
 rw[hrl]at g ⊢
 have HG:Hid (0<T.length->∃ b off,a=some ⟨b,off,none⟩/\b<w.heap.size/\∀ i,i<T.length->w.cell? ⟨b,off+i,none⟩=some (rs.getD i (.bool false))):=g
 clear hR hr g hp
 go_enter Tryd.func25,Tryd.ntmps25
 go_wp2
 go_loopw [6,8,11] (fun _ _ i wr=>∃ k:Nat,k<=T.length/\i=.int .i64 k/\Hid (∀ i,i<k->∀ j,j<(T.getD i []).length->mayB ((T.getD i []).getD j [])=true)/\Below w.heap.size w wr) (fun _ _ i _=>T.length-(intOf i).toNat)
 case atStart=>exact⟨0,Nat.zero_le _,rfl,fun i hi=>absurd hi (Nat.not_lt_zero _),Below.refl _ _⟩
 case round=>
  rename World=>W1
  obtain⟨k,hk,rfl,hA,hb⟩:=hrel
  by_cases hlt:k<T.length
  · obtain⟨b,off,rfl,hbw,hc⟩:=HG.out (by omega)
    have c0:=bcell hb hbw (hc k hlt)
    obtain⟨ps,hpl,⟨a2,cap2,hv2,g2⟩,hPs⟩:=HR.out k hlt
    rw[hv2,hpl]at c0
    rw[hpl]at g2
    have hlk:(T.getD k []).length<=6:=HL.out k hlt
    have hbr:b<W1.heap.size:=Nat.lt_of_lt_of_le hbw hb.size
    have HPs:Hid (∀ j,j<(T.getD k []).length->Poly w w.heap.size (ps.getD j (.bool false)) ((T.getD k []).getD j [])):=hPs
    have HG2:Hid (0<(T.getD k []).length->∃ b off,a2=some ⟨b,off,none⟩/\b<w.heap.size/\∀ i,i<(T.getD k []).length->w.cell? ⟨b,off+i,none⟩=some (ps.getD i (.bool false))):=g2
    have HPk:Hid (∀ j,j<(T.getD k []).length->((T.getD k []).getD j []).length<=maxLen):=HP.out k hlt
    have HN:Hid (∀ j,j<(T.getD k []).length->mayB ((T.getD k []).getD j [])=false->everyB mayB T=false):=fun j hj h=>every_no hlt hj h
    have HA:Hid ((∀ j,j<(T.getD k []).length->mayB ((T.getD k []).getD j [])=true)->∀ i,i<k+1->∀ j,j<(T.getD i []).length->mayB ((T.getD i []).getD j [])=true):=fun h i hi=>by
     by_cases e:i=k
     · rw[e];exact h
     · exact hA.out i (by omega)
    clear hc hpl hv2 hA hPs g2
    generalize T.getD k []=R at c0 hlk HPs HG2 HPk HN HA
    go_wp2
    go_loopw [8,17] (fun _ i ws=>∃ j:Nat,j<=R.length/\i=.int .i64 j/\Hid (∀ i,i<j->mayB (R.getD i [])=true)/\Below w.heap.size w ws) (fun _ i _=>R.length-(intOf i).toNat)
    case atStart=>exact⟨0,Nat.zero_le _,rfl,fun i hi=>absurd hi (Nat.not_lt_zero _),hb⟩
    case round=>
     rename World=>W2
     obtain⟨j,hj,rfl,hB,hb2⟩:=hrel
     by_cases hjl:j<R.length
     · obtain⟨b2,off2,rfl,hbw2,hc2⟩:=HG2.out (by omega)
       have d0:=bcell hb2 hbw2 (hc2 j hjl)
       have hbr2:b2<W2.heap.size:=Nat.lt_of_lt_of_le hbw2 hb2.size
       have HQ:Hid (Poly W2 W2.heap.size (ps.getD j (.bool false)) (R.getD j [])):=((HPs.out j hjl).on hb2).mono hb2.size
       have HC:Hid ((R.getD j []).length<=maxLen):=HPk.out j hjl
       have HN1:Hid (mayB (R.getD j [])=false->everyB mayB T=false):=HN.out j hjl
       have HB1:Hid (mayB (R.getD j [])=true->∀ i,i<j+1->mayB (R.getD i [])=true):=fun h i hi=>by
        by_cases e:i=j
        · rw[e];exact h
        · exact hB.out i (by omega)
       clear hc2 hB c0
       generalize ps.getD j (.bool false)=pv at d0 HQ
       generalize R.getD j []=l at HQ HC HN1 HB1
       cases hg:mayB l with
       |true=>
        have HGT:Hid (mayB l=true):=hg
        clear hg
        go_wp2_with (go_at_call 26;refine(mayBe_poly _ l _ HC.out HQ.out).mono ?_;rw[HGT.out];rintro r w3 ⟨rfl,hb3⟩)
        go_roundw
        case rel=>exact⟨j+1,by omega,by go_num,HB1.out HGT.out,hb2.trans (hb3.mono hb2.size)⟩
        case measure=>simp only[intOf];omega
       |false=>
        have e:=HN1.out hg
        have HGT:Hid (mayB l=false):=hg
        have HE:Hid (everyB mayB T=false):=e
        clear hg e
        go_wp2_with (go_at_call 26;refine(mayBe_poly _ l _ HC.out HQ.out).mono ?_;rw[HGT.out];rintro r w3 ⟨rfl,hb3⟩)
        go_ret
        exact⟨ret_bool HE.out,hb2.trans (hb3.mono hb2.size)⟩
     · obtain rfl:j=R.length:=by omega
       go_wp2
       go_roundw
       case rel=>exact⟨k+1,by omega,by go_num,HA.out hB.out,hb2⟩
       case measure=>simp only[intOf];omega
  · obtain rfl:k=T.length:=by omega
    have e:everyB mayB T=true:=(every_iff _ T).2 hA.out
    go_wp2
    go_ret
    exact⟨ret_bool e,hb⟩
theorem every_few (v : Value) (T : List (List (List (Int × Int)))) (w : World) (hl : T.length ≤ 6) (hr : ∀ i, i < T.length → (T.getD i []).length ≤ 6) (hp : ∀ i, i < T.length → ∀ j, j < (T.getD i []).length → mayB ((T.getD i []).getD j []) = true) (h : Table w w.heap.size v T) :
    Calls Tryd.prog 25 #[v,.func (.func 27) #[] #[]] w fun e w'=>e=.returned (.bool (everyB fewB T))/\Below w.heap.size w w':=by
 obtain⟨rs,hrl,⟨a,cap,rfl,g⟩,hR⟩:=h
 have HR:Hid (∀ i,i<T.length->Row w w.heap.size (rs.getD i (.bool false)) (T.getD i [])):=hR
 have HL:Hid (∀ i,i<T.length->(T.getD i []).length<=6):=hr
 have HP:Hid (∀ i,i<T.length->∀ j,j<(T.getD i []).length->mayB ((T.getD i []).getD j [])=true):=hp
 rw[hrl]at g ⊢
 have HG:Hid (0<T.length->∃ b off,a=some ⟨b,off,none⟩/\b<w.heap.size/\∀ i,i<T.length->w.cell? ⟨b,off+i,none⟩=some (rs.getD i (.bool false))):=g
 clear hR hr g hp
 go_enter Tryd.func25,Tryd.ntmps25
 go_wp2
 go_loopw [6,8,11] (fun _ _ i wr=>∃ k:Nat,k<=T.length/\i=.int .i64 k/\Hid (∀ i,i<k->∀ j,j<(T.getD i []).length->fewB ((T.getD i []).getD j [])=true)/\Below w.heap.size w wr) (fun _ _ i _=>T.length-(intOf i).toNat)
 case atStart=>exact⟨0,Nat.zero_le _,rfl,fun i hi=>absurd hi (Nat.not_lt_zero _),Below.refl _ _⟩
 case round=>
  rename World=>W1
  obtain⟨k,hk,rfl,hA,hb⟩:=hrel
  by_cases hlt:k<T.length
  · obtain⟨b,off,rfl,hbw,hc⟩:=HG.out (by omega)
    have c0:=bcell hb hbw (hc k hlt)
    obtain⟨ps,hpl,⟨a2,cap2,hv2,g2⟩,hPs⟩:=HR.out k hlt
    rw[hv2,hpl]at c0
    rw[hpl]at g2
    have hlk:(T.getD k []).length<=6:=HL.out k hlt
    have hbr:b<W1.heap.size:=Nat.lt_of_lt_of_le hbw hb.size
    have HPs:Hid (∀ j,j<(T.getD k []).length->Poly w w.heap.size (ps.getD j (.bool false)) ((T.getD k []).getD j [])):=hPs
    have HG2:Hid (0<(T.getD k []).length->∃ b off,a2=some ⟨b,off,none⟩/\b<w.heap.size/\∀ i,i<(T.getD k []).length->w.cell? ⟨b,off+i,none⟩=some (ps.getD i (.bool false))):=g2
    have HPk:Hid (∀ j,j<(T.getD k []).length->mayB ((T.getD k []).getD j [])=true):=HP.out k hlt
    have HN:Hid (∀ j,j<(T.getD k []).length->fewB ((T.getD k []).getD j [])=false->everyB fewB T=false):=fun j hj h=>every_no hlt hj h
    have HA:Hid ((∀ j,j<(T.getD k []).length->fewB ((T.getD k []).getD j [])=true)->∀ i,i<k+1->∀ j,j<(T.getD i []).length->fewB ((T.getD i []).getD j [])=true):=fun h i hi=>by
     by_cases e:i=k
     · rw[e];exact h
     · exact hA.out i (by omega)
    clear hc hpl hv2 hA hPs g2
    generalize T.getD k []=R at c0 hlk HPs HG2 HPk HN HA
    go_wp2
    go_loopw [8,17] (fun _ i ws=>∃ j:Nat,j<=R.length/\i=.int .i64 j/\Hid (∀ i,i<j->fewB (R.getD i [])=true)/\Below w.heap.size w ws) (fun _ i _=>R.length-(intOf i).toNat)
    case atStart=>exact⟨0,Nat.zero_le _,rfl,fun i hi=>absurd hi (Nat.not_lt_zero _),hb⟩
    case round=>
     rename World=>W2
     obtain⟨j,hj,rfl,hB,hb2⟩:=hrel
     by_cases hjl:j<R.length
     · obtain⟨b2,off2,rfl,hbw2,hc2⟩:=HG2.out (by omega)
       have d0:=bcell hb2 hbw2 (hc2 j hjl)
       have hbr2:b2<W2.heap.size:=Nat.lt_of_lt_of_le hbw2 hb2.size
       have HQ:Hid (Poly W2 W2.heap.size (ps.getD j (.bool false)) (R.getD j [])):=((HPs.out j hjl).on hb2).mono hb2.size
       have HC:Hid (mayB (R.getD j [])=true):=HPk.out j hjl
       have HN1:Hid (fewB (R.getD j [])=false->everyB fewB T=false):=HN.out j hjl
       have HB1:Hid (fewB (R.getD j [])=true->∀ i,i<j+1->fewB (R.getD i [])=true):=fun h i hi=>by
        by_cases e:i=j
        · rw[e];exact h
        · exact hB.out i (by omega)
       clear hc2 hB c0
       generalize ps.getD j (.bool false)=pv at d0 HQ
       generalize R.getD j []=l at HQ HC HN1 HB1
       cases hg:fewB l with
       |true=>
        have HGT:Hid (fewB l=true):=hg
        clear hg
        go_wp2_with (go_at_call 27;refine(small_poly_few _ l _ HC.out HQ.out).mono ?_;rw[HGT.out];rintro r w3 ⟨rfl,hb3⟩)
        go_roundw
        case rel=>exact⟨j+1,by omega,by go_num,HB1.out HGT.out,hb2.trans (hb3.mono hb2.size)⟩
        case measure=>simp only[intOf];omega
       |false=>
        have e:=HN1.out hg
        have HGT:Hid (fewB l=false):=hg
        have HE:Hid (everyB fewB T=false):=e
        clear hg e
        go_wp2_with (go_at_call 27;refine(small_poly_few _ l _ HC.out HQ.out).mono ?_;rw[HGT.out];rintro r w3 ⟨rfl,hb3⟩)
        go_ret
        exact⟨ret_bool HE.out,hb2.trans (hb3.mono hb2.size)⟩
     · obtain rfl:j=R.length:=by omega
       go_wp2
       go_roundw
       case rel=>exact⟨k+1,by omega,by go_num,HA.out hB.out,hb2⟩
       case measure=>simp only[intOf];omega
  · obtain rfl:k=T.length:=by omega
    have e:everyB fewB T=true:=(every_iff _ T).2 hA.out
    go_wp2
    go_ret
    exact⟨ret_bool e,hb⟩
end Go.Proofs.YtiliihlkpknhdaaDoor.Poly
/- The walk of (poly.work).addProduct: a map is added the product of another map and a polynomial. -/
namespace Go.Proofs.YtiliihlkpknhdaaDoor.Poly
open Go.RowKit Go.Maps
set_option maxHeartbeats 4000000
set_option maxRecDepth 100000
theorem prodL_partQ (l : List (Int × Int)) (left : Lit → Bool) (f : Int → Int) (x y : Int) (hl : left (.int .i64 x) = true) :
    prodL l (part (fun z=>left z&&!z.sameKey (.int .i64 x)) f) y=prodL l (part left f) y+f x*coefL l (y-x):=by
 induction l with
 |nil=>simp[prodL,coefL]
 |cons t l ih=>
  simp only[prodL,coefL,ih,part_step,Int.mul_add]
  by_cases h:x=y-t.1
  · rw[if_pos h,if_pos (by omega),<-h,part_at hl,Int.mul_comm t.2 (f x)];omega
  · rw[if_neg h,if_neg (by omega)];omega
theorem coefL_sizeQ (l:List (Int×Int)) (x:Int) (k:Nat) (hk:k<=l.length) : -sizeTo l k<=coefL (l.take k) x/\coefL (l.take k) x<=sizeTo l k:=by
 induction k with
 |zero=>simp[sizeTo,coefL]
 |succ k ih=>
  have:=ih (by omega)
  rw[coefL_take l k (by omega),sizeTo]
  unfold absI
  split<;>split<;>omega
theorem sizeTo_monoQ (l:List (Int×Int)) (i j:Nat) (h:i<=j):sizeTo l i<=sizeTo l j:=by
 induction j with
 | zero => obtain rfl : i = 0 := by omega
           exact Int.le_refl _
 |succ j ih=>
  by_cases he:i=j+1
  · subst he;exact Int.le_refl _
  · have:=ih (by omega)
    rw[sizeTo]
    unfold absI
    split<;>omega
theorem mul_100Q {c d:Int} (h0 : -2000000000000<=c) (h1:c<=2000000000000) (h2 : -100<=d) (h3:d<=100) : -200000000000000<=c*d/\c*d<=200000000000000:=by
 have e:(c*d).natAbs<=2000000000000*100:=by
  rw[Int.natAbs_mul]
  exact Nat.mul_le_mul (by omega) (by omega)
 omega
theorem prodL_sizeQ (l : List (Int × Int)) (g : Int → Int) (hg : ∀ x, -2000000000000 ≤ g x ∧ g x ≤ 2000000000000) (y : Int) (k : Nat) (hk : k ≤ l.length) :
    -(2000000000000*sizeTo l k)<=prodL (l.take k) g y/\prodL (l.take k) g y<=2000000000000*sizeTo l k:=by
 induction k with
 |zero=>simp[sizeTo,prodL]
 |succ k ih=>
  have ih:=ih (by omega)
  have hk':k<l.length:=by omega
  rw[List.take_succ_eq_append_getElem hk',prodL_append,sizeTo]
  have g0:l.getD k (0,0)=l[k]:=by simp[List.getD,hk']
  rw[g0]
  have hb:=hg (y-l[k].1)
  have e:prodL [l[k]] g y=l[k].2*g (y-l[k].1):=by simp[prodL]
  have e2 : -(2000000000000*absI l[k].2)<=l[k].2*g (y-l[k].1)/\l[k].2*g (y-l[k].1)<=2000000000000*absI l[k].2:=by
   have h:(l[k].2*g (y-l[k].1)).natAbs<=l[k].2.natAbs*2000000000000:=by
    rw[Int.natAbs_mul]
    exact Nat.mul_le_mul (Nat.le_refl _) (by omega)
   unfold absI
   split<;>omega
  rw[e]
  omega
theorem part_bdQ {left:Lit->Bool} {f:Int->Int} (hf:∀ x,-2000000000000<=f x/\f x<=2000000000000) (x:Int) : -2000000000000<=part left f x/\part left f x<=2000000000000:=by
 unfold part
 split
 · omega
 · exact hf x
theorem grown_transQ {w w1 w2:World} {row:Option Nat} (h1:w.grownBy w1 row) (h2:w1.grownBy w2 row):w.grownBy w2 row:=
 ⟨h2.os.trans h1.os,h2.tape.trans h1.tape,h2.output.trans h1.output,Nat.le_trans h1.size h2.size,fun k hk hr=>(h2.block k (Nat.lt_of_lt_of_le hk h1.size) hr).trans (h1.block k hk hr)⟩
theorem grown_newQ {w w1 w2:World} {row:Option Nat} {it:Nat} (h1:w.grownBy w1 row) (h2:w1.grownBy w2 (some it)) (hit:w.heap.size<=it):w.grownBy w2 row:=
 ⟨h2.os.trans h1.os,h2.tape.trans h1.tape,h2.output.trans h1.output,Nat.le_trans h1.size h2.size,fun k hk hr=>(h2.block k (Nat.lt_of_lt_of_le hk h1.size) (fun e=>by have:=Option.some.inj e;omega)).trans (h1.block k hk hr)⟩
theorem grown_noneQ {w w':World} (h:w.grownBy w' none) (row:Option Nat):w.grownBy w' row:=⟨h.os,h.tape,h.output,h.size,fun k hk _=>h.block k hk (by simp)⟩
theorem grown_cellQ {w w':World} {row:Option Nat} (h:w.grownBy w' row) {b o:Nat} {v:Value} (hb:b<w.heap.size) (hr:some b≠row) (hc:w.cell? ⟨b,o,none⟩=some v):w'.cell? ⟨b,o,none⟩=some v:=by
 rw[World.cell?_of_block (a:=⟨b,o,none⟩) (h.block b hb hr)]
 exact hc
theorem sg_bdQ {sg X B:Int} (hsg:sg=1∨sg = -1) (h : -B<=X/\X<=B) : -B<=sg*X/\sg*X<=B:=by
 rcases hsg with rfl|rfl<;>omega
theorem addp_someQ (sg : Int) (hsg : sg = 1 ∨ sg = -1) (bp np bq nq b off cap : Nat) (Dp Dq : DataW Unit) (l : List (Int × Int)) (w : World) (hp : w.ownsMap Tryd.prog 3 (plainElem Tryd.prog 3) bp np Dp) (hq : w.ownsMap Tryd.prog 3 (plainElem Tryd.prog 3) bq nq Dq) (hpq : bp ≠ bq)
    (hm:mayB l=true) (hS:sizeL l<=100) (hbw:b<w.heap.size) (hbp:b≠bp) (hT:TermsAt w b off l) (hnp:np<=1000000000000000) (hnq:nq<=10000000000000) (K N:Int) (hKN:K+1000<=N) (hN:N<=100000) (hK:0<=K)
    (hkp:KeysIn Dp N) (hkq:KeysIn Dq K) (hvp:∀ x,-1000000000000000<=coefOf Dp x/\coefOf Dp x<=1000000000000000) (hvq:∀ x,-2000000000000<=coefOf Dq x/\coefOf Dq x<=2000000000000):
    Calls Tryd.prog 50 #[.map (some bp),.map (some bq),.slice (some ⟨b,off,none⟩) l.length cap,.int .i64 sg] w fun e w'=>∃ D:DataW Unit,e=.returned (.tuple #[])/\w'.ownsMap Tryd.prog 3 (plainElem Tryd.prog 3) bp (np+64*nq) D/\
     (∀ y,coefOf D y=coefOf Dp y+sg*prodL l (coefOf Dq) y)/\KeysIn D N/\w.grownBy w' (some bp):=by
 have HSG:Hid (sg=1∨sg = -1):=hsg
 have hl64:=((may_iff l).1 hm).1
 have hlp:=hp.lt
 have hlq:=hq.lt
 have hsq:=size_le hq
 have HM:Hid (mayB l=true):=hm
 have HS:Hid (sizeL l<=100):=hS
 have HT:Hid (TermsAt w b off l):=hT
 have HKP:Hid (KeysIn Dp N):=hkp
 have HKQ:Hid (KeysIn Dq K):=hkq
 have HVP:Hid (∀ x,-1000000000000000<=coefOf Dp x/\coefOf Dp x<=1000000000000000):=hvp
 have HVQ:Hid (∀ x,-2000000000000<=coefOf Dq x/\coefOf Dq x<=2000000000000):=hvq
 clear hm hS hT hkp hkq hvp hvq
 go_enter Tryd.func50,Tryd.ntmps50
 go_wp2_with (first
  |(at_range;refine wpList_range_own _ rfl _ 60 rfl 3 3 law3 Tryd.underlying60 _ bq nq _ rfl hq ?_;intro w0 hrg0 hg0 hs0))
 go_frame
 go_loopw [8, 9, 11] (fun _ _ _ wr => ∃ (left : Lit → Bool) (cnt k j : Nat) (D : DataW Unit), wr.ranges Tryd.prog 3 (plainElem Tryd.prog 3) bq w.heap.size nq Dq left cnt ∧ j + cnt ≤ nq ∧ k ≤ np + 64 * j ∧
     wr.ownsMap Tryd.prog 3 (plainElem Tryd.prog 3) bp k D/\Hid (∀ y,coefOf D y=coefOf Dp y+sg*prodL l (part left (coefOf Dq)) y)/\Hid (KeysIn D N)/\w.grownBy wr (some bp))
  (fun _ _ _ wr=>wr.rangeLeft bq w.heap.size)
 case atStart=>
  refine⟨_,_,np,0,Dp,hrg0,by omega,by omega,hp.kept hg0 (by simp),fun y=>?_,HKP.out,grown_noneQ hg0 _⟩
  have e:part (Maps.has Dq) (coefOf Dq)=fun _=>0:=funext fun x=>part_start Dq x
  rw[e,prodL_zero,Int.mul_zero];omega
 case round=>
  clear hrg0 hg0 hs0
  rename World=>W1
  obtain⟨left,cnt,k,j,D,hrg,hcs,hkj,hout,hD,hKD,hgr⟩:=hrel
  go_wp2_with (first
   |(at_next;refine wpList_next_ranges_ii _ rfl _ rfl 3 3 .i64 .i64 law3 Tryd.underlying3 Tryd.underlying3 bq w.heap.size nq _ _ _ rfl hrg ?_ ?_)
   |go_in)
  · intro hc0 hl0
    go_wp2
    refine bodyPost_end (v:=.tuple #[]) (by simp[results,Tryd.results50,go_sem]) rfl ⟨D,rfl,hout.mono (by omega),fun y=>?_,hKD.out,hgr⟩
    have e:part left (coefOf Dq)=coefOf Dq:=funext fun x=>part_end hl0 x
    rw[hD.out,e]
  · intro x c w1 cnt1 hwx hwc hlx hat hrg1 hlt hg1 hs1 hen
    have hx:=HKQ.out x (has_at hat)
    have hcq:=HVQ.out x
    have HF:Hid (coefOf Dq x=c):=coefOf_at hat
    rw[coefOf_at hat]at hcq
    have HL:Hid (left (.int .i64 x)=true):=hlx
    obtain⟨s,hs⟩:∃ s,sg*c=s:=⟨_,rfl⟩
    have hsb : -2000000000000<=s/\s<=2000000000000:=by rw[<-hs];exact sg_bdQ HSG.out hcq
    have HSC:Hid (sg*c=s):=hs
    have hw1:IntKind.i64.wrap (sg*c)=s:=by rw[hs];exact IntWalk.i64_in _ (by omega)
    clear hs
    have hout1:=hout.kept hg1 (fun e=>by have:=Option.some.inj e;omega)
    have hgr1:=grown_newQ hgr hg1 (Nat.le_refl _)
    have HB:Hid (∀ y i,i<=l.length -> -2000000000000000<=coefOf Dp y+sg*prodL l (part left (coefOf Dq)) y+s*coefL (l.take i) (y-x)/\coefOf Dp y+sg*prodL l (part left (coefOf Dq)) y+s*coefL (l.take i) (y-x)<=2000000000000000):=fun y i hi=>by
     have h1:=HVP.out y
     have h2:=prodL_sizeQ l (part left (coefOf Dq)) (part_bdQ HVQ.out) y l.length (Nat.le_refl _)
     rw[List.take_length]at h2
     have h2:=sg_bdQ HSG.out h2
     have h3:=coefL_sizeQ l (y-x) i hi
     have h4:=sizeTo_monoQ l i l.length hi
     have h5:sizeTo l l.length<=100:=HS.out
     have h6:=mul_100Q hsb.1 hsb.2 (d:=coefL (l.take i) (y-x)) (by omega) (by omega)
     omega
    clear hat hlx hs1 hg1 hout hgr
    go_wp2
    clear hen
    go_loopw [11, 21] (fun _ i ws => ∃ (i' k2 : Nat) (D2 : DataW Unit), i' ≤ l.length ∧ i = .int .i64 i' ∧ k2 ≤ k + i' ∧ ws.ranges Tryd.prog 3 (plainElem Tryd.prog 3) bq w.heap.size nq Dq (fun z => left z && !z.sameKey (.int .i64 x)) cnt1 ∧
        ws.ownsMap Tryd.prog 3 (plainElem Tryd.prog 3) bp k2 D2/\Hid (∀ y,coefOf D2 y=coefOf Dp y+sg*prodL l (part left (coefOf Dq)) y+s*coefL (l.take i') (y-x))/\Hid (KeysIn D2 N)/\w.grownBy ws (some bp))
     (fun _ i _=>l.length-(intOf i).toNat)
    case atStart=>
     exact⟨0,k,D,Nat.zero_le _,rfl,by omega,hrg1,hout1,fun y=>by rw[hD.out];simp[coefL],hKD.out,hgr1⟩
    case round=>
     rename World=>W2
     obtain⟨i',k2,D2,hi',rfl,hk2,hrq,hout,hD2,hKD2,hgr⟩:=hrel
     by_cases hil:i'<l.length
     · have hsz:=hgr.size
       have hbr:b<W2.heap.size:=Nat.lt_of_lt_of_le hbw hsz
       have c0:=grown_cellQ hgr hbw (fun e=>hbp (Option.some.inj e)) (HT.out i' hil).1
       have c1:=grown_cellQ hgr hbw (fun e=>hbp (Option.some.inj e)) (HT.out i' hil).2
       have hok:=(okB_iff l i').1 (((may_iff l).1 HM.out).2 i' hil)
       have hsz1:absI (l.getD i' (0,0)).2<=100:=by
        have h4:=sizeTo_monoQ l (i'+1) l.length (by omega)
        have h5:sizeTo l l.length<=100:=HS.out
        have h6:=(sizeTo_le HM.out i' (by omega)).1
        rw[sizeTo]at h4
        omega
       have HTK:Hid (∀ y,coefL (l.take (i'+1)) y=coefL (l.take i') y+(if(l.getD i' (0,0)).1=y then(l.getD i' (0,0)).2 else 0)):=fun y=>coefL_take l i' hil y
       generalize (l.getD i' (0,0)).1=e at c0 hok HTK
       generalize (l.getD i' (0,0)).2=d at c1 hok HTK hsz1
       have hd : -100<=d/\d<=100:=by
        unfold absI at hsz1
        split at hsz1<;>omega
       have hmul:=mul_100Q hsb.1 hsb.2 hd.1 hd.2
       have hw2:IntKind.i64.wrap (s*d)=s*d:=IntWalk.i64_in _ (by omega)
       have hbd0:=HB.out (x+e) i' hi'
       have hdm:=hout.isMap
       have HKe:Hid (-N<=x+e/\x+e<=N):=(⟨by omega,by omega⟩ : -N<=x+e/\x+e<=N)
       obtain⟨o1,o2,-⟩:=hok
       clear hsz1
       go_wp2_with (first
        |(at_lookup;refine wpList_lookup_own_int _ rfl _ _ 60 rfl 3 3 .i64 law3 Tryd.underlying60 Tryd.underlying3 (zero3 _) bp k2 _ rfl (hout.alloc _) _ _ rfl (keyOf_int_mk Tryd.underlying3 (WalkArith.wf_i64 (by omega))) ?_;intro c' hat hwc;refine Hid.out ?_))
       refine Lib.hid ?_
       have hc':coefOf D2 (x+e)=c':=coefOf_look hat
       have hbd : -2000000000000000<=c'/\c'<=2000000000000000:=by rw[<-hc',hD2.out];exact hbd0
       have HC':Hid (coefOf D2 (x+e)=c'):=hc'
       clear hat hwc hc' hbd0
       go_wp2_with (first
        |(at_mapUpdate;refine wpList_mapUpdate_own _ rfl _ _ _ 60 rfl 3 3 law3 Tryd.underlying60 _ bp k2 _ rfl (hout.alloc _) (by unfold maxLen;omega) _ _ _ rfl rfl (keyOf_int_mk Tryd.underlying3 (WalkArith.wf_i64 (by omega))) _ [] (plainElem_int Tryd.underlying3 (WalkArith.wf_i64 (by omega))) ?_;intro w4 hown4 hg4;go_frame))
       go_roundw
       case rel=>
        refine⟨i'+1,k2+1,_,by omega,by go_num,by omega,(hrq.alloc _).kept hg4 (fun e=>hpq (Option.some.inj e).symm) (fun e=>by have:=Option.some.inj e;omega),hown4,fun y=>?_,keysIn_put hKD2.out HKe.out.1 HKe.out.2 _,grown_transQ (grown_transQ hgr (World.grownBy_alloc _ _ _)) hg4⟩
        rw[coefOf_put hdm,HTK.out]
        by_cases hxy:x+e=y
        · have hyx:e=y-x:=by omega
          rw[if_pos hxy,if_pos hyx,<-HC'.out,hD2.out,hxy,Int.mul_add];omega
        · have hyx:¬ e=y-x:=by omega
          rw[if_neg hxy,if_neg hyx,hD2.out];simp
       case measure=>simp only[intOf];omega
     · obtain rfl:i'=l.length:=by omega
       go_wp2
       go_roundw
       case rel=>
        refine⟨_,cnt1,k2,j+1,D2,hrq,by omega,by omega,hout,fun y=>?_,hKD2.out,hgr⟩
        rw[prodL_partQ l left (coefOf Dq) x y HL.out,HF.out,hD2.out,List.take_length,Int.mul_add,<-Int.mul_assoc,HSC.out];omega
       case measure=>rw[hrq.left_eq,hrg.left_eq];exact hlt
end Go.Proofs.YtiliihlkpknhdaaDoor.Poly

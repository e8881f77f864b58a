/- Several texts of the proof, one behind the other. -/
import Derived.Test.YtmnejkaihjpejaaGreatDoorAX0
import Derived.Test.YtmnejkaihjpejaaGreatDoorAL3P
import Derived.Test.YtmnejkaihjpejaaGreatDoorAD11P
import Derived.Test.YtmnejkaihjpejaaGreatDoorPA10P
import Derived.Test.YtmnejkaihjpejaaGreatDoorAL5P
import Derived.Test.YtmnejkaihjpejaaGreatDoorQ4P
import Derived.Test.YtmnejkaihjpejaaGreatDoorTabP
import Derived.Test.YtmnejkaihjpejaaGreatDoorAD2P
/- The walk of alex.minor. -/
namespace Go.Proofs.YtmnejkaihjpejaaGreatDoor
open Go.RowKit
set_option maxHeartbeats 8000000
set_option maxRecDepth 100000
structure TblRd (w:World) (B n m gt:Nat) (gs:Nat->Nat) (vals:Nat->Nat->Value) (G:Nat->Nat->Int×Int):Prop where
 lt:gt<B
 cell:∀ i,i<n->w.cell? ⟨gt,i,none⟩=some (.slice (some ⟨gs i,0,none⟩) m m)
 low:∀ i,i<n->gs i<B
 row:∀ i,i<n->∀ j,j<m->w.cell? ⟨gs i,j,none⟩=some (vals i j)
 each:∀ i,i<n->∀ j,j<m->Poly.Poly w B (vals i j) (aPol (G i j).1 (G i j).2)
theorem TblAt.rd {B n m gt:Nat} {gs:Nat->Nat} {vals:Nat->Nat->Value} {G:Nat->Nat->Int×Int} {w:World} (h:TblAt B n m gt n gs vals G w):TblRd w w.heap.size n m gt gs vals G:=by
 refine⟨(h.outer.lt gt rfl).2,fun i hi=>?_,fun i hi=>((h.each i hi).row.lt (gs i) rfl).2,fun i hi j hj=>?_,fun i hi j hj=>Poly.Poly.ofRow ((h.each i hi).each j hj)⟩
 · have:=h.outer.cellAt i (by omega)
   rw[valsL_get _ _ _ hi,if_pos hi]at this
   exact this
 · have:=(h.each i hi).row.cellAt j (by omega)
   rw[valsL_get _ _ _ hj]at this
   exact this
theorem TblRd.on {w w':World} {B n m gt:Nat} {gs:Nat->Nat} {vals:Nat->Nat->Value} {G:Nat->Nat->Int×Int} (h:TblRd w B n m gt gs vals G) (hb:Below B w w'):TblRd w' B n m gt gs vals G:=
 ⟨h.lt,fun i hi=>bcell hb h.lt (h.cell i hi),h.low,fun i hi j hj=>bcell hb (h.low i hi) (h.row i hi j hj),fun i hi j hj=>(h.each i hi j hj).on hb⟩
theorem TblRd.mono {w:World} {B B' n m gt:Nat} {gs:Nat->Nat} {vals:Nat->Nat->Value} {G:Nat->Nat->Int×Int} (h:TblRd w B n m gt gs vals G) (hB:B<=B'):TblRd w B' n m gt gs vals G:=
 ⟨Nat.lt_of_lt_of_le h.lt hB,h.cell,fun i hi=>Nat.lt_of_lt_of_le (h.low i hi) hB,h.row,fun i hi j hj=>(h.each i hi j hj).mono hB⟩
def cutV (gs:Nat->Nat) (k s m:Nat) (i:Nat):Value:=if i<k then .slice (some ⟨gs i,0,none⟩) s m else .slice none 0 0
theorem cut_table {w : World} {n m gt g B : Nat} {gs : Nat → Nat} {vals : Nat → Nat → Value} {C : List Cr} {s : Nat} (h : TblRd w w.heap.size n m gt gs vals (alF C)) (hs : s ≤ n) (hsm : s ≤ m)
    (ho:w.ownsRow B 91 1 (.slice (some ⟨g,0,none⟩) s s) s (valsL s (cutV gs s s m))):Poly.Table w w.heap.size (.slice (some ⟨g,0,none⟩) s s) (alT C s):=by
 refine⟨valsL s (cutV gs s s m),by rw[valsL_len,alT_len],⟨some ⟨g,0,none⟩,s,by rw[valsL_len],fun _=>⟨g,0,rfl,(ho.lt g rfl).2,fun i hi=>?_⟩⟩,fun i hi=>?_⟩
 · rw[valsL_len]at hi
   have:=ho.cellAt i (by omega)
   rw[valsL_get _ _ _ hi]at this
   rw[Nat.zero_add,this,List.getD_eq_getElem?_getD,valsL_get _ _ _ hi]
   rfl
 · rw[alT_len]at hi
   have e:(valsL s (cutV gs s s m)).getD i (.bool false)=.slice (some ⟨gs i,0,none⟩) s m:=by
    rw[List.getD_eq_getElem?_getD,valsL_get _ _ _ hi]
    show cutV gs s s m i=_
    unfold cutV
    rw[if_pos hi]
   rw[e,alT_at C s i hi]
   refine⟨valsL s (vals i),by rw[valsL_len,alR_len],⟨some ⟨gs i,0,none⟩,m,by rw[valsL_len],fun _=>⟨gs i,0,rfl,h.low i (by omega),fun j hj=>?_⟩⟩,fun j hj=>?_⟩
   · rw[valsL_len]at hj
     rw[Nat.zero_add,h.row i (by omega) j (by omega),List.getD_eq_getElem?_getD,valsL_get _ _ _ hj]
     rfl
   · rw[alR_len]at hj
     rw[alR_at C s i j hj,List.getD_eq_getElem?_getD,valsL_get _ _ _ hj]
     exact h.each i (by omega) j (by omega)
theorem minor_any (C : List Cr) (gt n m : Nat) (gs : Nat → Nat) (vals : Nat → Nat → Value) (w : World) (h0 : 0 < n) (h10 : n ≤ 10) (hm0 : 0 < m) (hm21 : m ≤ 21) (hT : TblRd w w.heap.size n m gt gs vals (alF C)) :
    Calls Tryz.prog 24 #[.slice (some ⟨gt,0,none⟩) n n] w fun e w'=>∃ v l,e=.returned v/\Poly.Poly w' w'.heap.size v l/\(n<m-1->l=[])/\(m-1<=n->Poly.Canon l (Poly.detOf (alT C (m-1))))/\Below w.heap.size w w':=by
 obtain⟨i1,hj,hy0,hy1,hy2⟩:=info_parts infoTermss
 obtain⟨s,rfl⟩:∃ s,m=s+1:=⟨m - 1,by omega⟩
 have HT:Hid (TblRd w w.heap.size n (s+1) gt gs vals (alF C)):=hT
 have c0:=hT.cell 0 h0
 have hgt:=hT.lt
 clear hT
 rw[Nat.add_sub_cancel]
 by_cases hsn:n<s
 · go_enter Tryz.func24,Tryz.ntmps24
   go_wp2
   go_ret
   exact⟨_,[],rfl,Or.inl ⟨rfl,rfl⟩,fun _=>rfl,fun h=>absurd hsn (by omega),Below.refl _ _⟩
 · go_enter Tryz.func24,Tryz.ntmps24
   go_wp2_with (first|(at_make;refine wpList_make_full _ rfl _ _ 59 rfl w.heap.size 91 i1 (.slice none 0 0) 1 Tryz.underlying59 hj hy0 hy1 .i64 .i64 _ _ s (by go_num) (by go_num) rfl rfl (by rw[hy2];omega) (by unfold maxLen;omega) (by omega) ?_;intro w2 hrow hg2;refine Hid.out ?_))
   refine Lib.hid ?_
   rw[made_nilsV]at hrow
   obtain⟨g,hg⟩:∃ g,w.heap.size=g:=⟨_,rfl⟩
   have HG:Hid (w.heap.size=g):=hg
   have HR0 : Hid (w2.ownsRow w.heap.size 91 1 (.slice (some ⟨g, 0, none⟩) s s) s (valsL s (cutV gs 0 s (s + 1)))) := (by
    rw[<-hg]
    exact hrow:w2.ownsRow w.heap.size 91 1 (.slice (some ⟨g,0,none⟩) s s) s (valsL s (cutV gs 0 s (s+1))))
   have HB2:Hid (Below w.heap.size w w2):=(Below.refl _ _).grown hg2 (Nat.le_refl _) (fun q hq=>by cases hq)
   rw[hg]
   clear hrow hg2 hg c0
   go_wp2
   go_loopw [19] (fun v19 wr=>∃ k:Nat,k<=s/\v19=.int .i64 (k:Nat)/\Hid (wr.ownsRow w.heap.size 91 1 (.slice (some ⟨g,0,none⟩) s s) s (valsL s (cutV gs k s (s+1)))/\Below w.heap.size w wr)) (fun v19 _=>s-(intOf v19).toNat)
   case atStart=>exact⟨0,Nat.zero_le _,rfl,HR0.out,HB2.out⟩
   case round=>
    clear HR0 HB2
    rename World=>W3
    obtain⟨k,hks,rfl,hp⟩:=hrel
    by_cases hkl:k<s
    · have c1:W3.cell? ⟨gt,k,none⟩=some (.slice (some ⟨gs k,0,none⟩) (s+1) (s+1)):=bcell hp.out.2 hgt (HT.out.cell k (by omega))
      have hgb:=(hp.out.1.lt g rfl).2
      have c2:W3.cell? ⟨g,k,none⟩=some (.slice none 0 0):=by
       have:=hp.out.1.cellAt k (by omega)
       rw[valsL_get _ _ _ hkl]at this
       simpa[cutV] using this
      have HST:Hid (W3.ownsRow w.heap.size 91 1 (.slice (some ⟨g,0,none⟩) s s) s (valsL s (cutV gs k s (s+1)))):=hp.out.1
      have HBB:Hid (Below w.heap.size w W3):=hp.out.2
      have z3:W3.frozen? ⟨g,k,none⟩=false:=hp.out.1.frozenAt k
      have hst:=hp.out.1.stored k (.slice (some ⟨gs k,0,none⟩) s (s+1))
      have HN : Hid ((W3.setCell ⟨g, k, none⟩ (.slice (some ⟨gs k, 0, none⟩) s (s + 1))).ownsRow w.heap.size 91 1 (.slice (some ⟨g, 0, none⟩) s s) s (valsL s (cutV gs (k + 1) s (s + 1))) ∧ Below w.heap.size w (W3.setCell ⟨g, k, none⟩ (.slice (some ⟨gs k, 0, none⟩) s (s + 1)))) := (by
       refine⟨?_,hp.out.2.grown hst.2 hp.out.2.size (fun q hq=>by have:=Option.some.inj hq;have:=(hp.out.1.lt g rfl).1;omega)⟩
       rw [← valsL_set s (cutV gs k s (s + 1)) _ k (.slice (some ⟨gs k, 0, none⟩) s (s + 1)) fun j _ => by
        unfold cutV
        by_cases e:j=k
        · rw[if_pos e,if_pos (by omega),e]
        · rw[if_neg e]
          by_cases h2:j<k
          · rw[if_pos h2,if_pos (by omega)]
          · rw[if_neg h2,if_neg (by omega)]]
       exact hst.1:(W3.setCell ⟨g,k,none⟩ (.slice (some ⟨gs k,0,none⟩) s (s+1))).ownsRow w.heap.size 91 1 (.slice (some ⟨g,0,none⟩) s s) s (valsL s (cutV gs (k+1) s (s+1)))/\Below w.heap.size w (W3.setCell ⟨g,k,none⟩ (.slice (some ⟨gs k,0,none⟩) s (s+1))))
      clear hp hst
      go_wp2
      go_roundw
      case rel=>exact⟨k+1,by omega,by go_num,HN.out⟩
      case measure=>simp only[intOf];omega
    · obtain rfl:k=s:=by omega
      have HTA:Hid (TblRd W3 W3.heap.size n (k+1) gt gs vals (alF C)):=(HT.out.on hp.out.2).mono hp.out.2.size
      have HTT:Hid (Poly.Table W3 W3.heap.size (.slice (some ⟨g,0,none⟩) k k) (alT C k)):=cut_table HTA.out (by omega) (by omega) hp.out.1
      have HBB:Hid (Below w.heap.size w W3):=hp.out.2
      clear hp
      go_wp2_with (go_at_call 46;refine(Poly.determinant_any _ (alT C k) k _ (by omega) (al_good C k) HTT.out).mono ?_;rintro r w4 ⟨bm,D,rfl,hbm,hom,hcm,hkm,hb4⟩;refine Hid.out ?_)
      refine Lib.hid ?_
      have HCM:Hid (∀ y,Poly.coefOf D y=Poly.detOf (alT C k) y):=hcm
      have HLN:Hid (∀ left acc,Poly.Coll D left acc->acc.length<=1000000):=fun left acc hC=>Nat.le_trans (Poly.coll_len hC (1000*k) (by rw[Int.natCast_mul];exact hkm)) (by omega)
      have HB4:Hid (Below w.heap.size w w4):=HBB.out.trans (hb4.mono HBB.out.size)
      clear hcm hkm hb4 hbm
      go_wp2_with (go_at_call 33;refine(Poly.terms34k bm _ D _ hom HLN.out).mono ?_;rintro r w5 ⟨vr,lr,rfl,hrow5,hcan5,hb5⟩)
      go_ret
      exact⟨vr,lr,rfl,Poly.Poly.ofRow hrow5,fun h=>absurd h (by omega),fun _=>Poly.canon_congr hcan5 HCM.out,HB4.out.trans (hb5.mono HB4.out.size)⟩
end Go.Proofs.YtmnejkaihjpejaaGreatDoor
/- Alexander's polynomial as mathematics; the walks of alex.Alexander and alex.Determinant. -/
namespace Go.Proofs.YtmnejkaihjpejaaGreatDoor
open Go.RowKit
set_option maxHeartbeats 8000000
set_option maxRecDepth 100000
theorem unit_at (l:List (Int×Int)) (i:Nat) (hi:i<l.length):(Poly.unitL l).getD i (0,0)=((l.getD i (0,0)).1-(l.getD 0 (0,0)).1,if(l.getD 0 (0,0)).2<0 then -(l.getD i (0,0)).2 else(l.getD i (0,0)).2):=by
 have g:l.getD i (0,0)=l[i]:=by simp[List.getD_eq_getElem?_getD,hi]
 have e:(Poly.unitL l).getD i (0,0)=(l[i].1-(l.getD 0 (0,0)).1,if(l.getD 0 (0,0)).2<0 then -l[i].2 else l[i].2):=by simp[Poly.unitL,List.getD_eq_getElem?_getD,hi]
 rw[e,g]
theorem unit_len (l:List (Int×Int)):(Poly.unitL l).length=l.length:=by simp[Poly.unitL]
theorem unit_may {l:List (Int×Int)} (hm:Poly.mayB l=true) (h:∀ t∈l,0<=t.1/\t.1<=10):Poly.mayB (Poly.unitL l)=true:=by
 have h1:=(Poly.may_iff l).1 hm
 refine(Poly.may_iff _).2 ⟨by rw[unit_len];exact h1.1,fun i hi=>?_⟩
 rw[unit_len]at hi
 have h2:=(Poly.okB_iff l i).1 (h1.2 i hi)
 obtain⟨q1,q2,q3,q4,q5,q6⟩:=h2
 have e0:=h _ (Poly.getD_mem l 0 (0,0) (by omega))
 have ei:=h _ (Poly.getD_mem l i (0,0) hi)
 rw[Poly.okB_iff,unit_at l i hi]
 simp only
 refine⟨by omega,by omega,?_,?_,?_,fun h0=>?_⟩
 · split<;>omega
 · split<;>omega
 · split<;>omega
 · rw[unit_at l (i-1) (by omega)]
   have:=q6 h0
   simp only
   omega
def IsAlex (C:List Cr) (loops:Int) (l:List (Int×Int)):Prop:=
 if C.length=0/\loops=1 then l=[(0,1)] else if C.length=0∨0<loops∨C.length<ovC C-1 then l=[] else ∃ l0,Poly.Canon l0 (Poly.detOf (alT C (ovC C-1)))/\l=Poly.unitL l0
theorem IsAlex.one {C:List Cr} {loops:Int} {l l':List (Int×Int)} (h:IsAlex C loops l) (h':IsAlex C loops l'):l=l':=by
 unfold IsAlex at h h'
 split at h
 · rename_i q
   rw[if_pos q]at h'
   rw[h,h']
 · rename_i q
   rw[if_neg q]at h'
   split at h
   · rename_i q2
     rw[if_pos q2]at h'
     rw[h,h']
   · rename_i q2
     rw[if_neg q2]at h'
     obtain⟨l0,c0,rfl⟩:=h
     obtain⟨l1,c1,rfl⟩:=h'
     rw[Poly.canon_unique c0 c1]
theorem IsAlex.may {C:List Cr} {loops:Int} {l:List (Int×Int)} (hm:mayD C loops=true) (h10:C.length<=10) (h:IsAlex C loops l):Poly.mayB l=true:=by
 unfold IsAlex at h
 split at h
 · rw[h];decide
 · split at h
   · rw[h];decide
   · rename_i q1 q2
     obtain⟨l0,c0,rfl⟩:=h
     have hS:=al_slim C (ovC C-1)
     refine unit_may (al_det hm (by omega) h10 (by omega) c0) fun t ht=>?_
     obtain⟨e,hc⟩:=(c0.2 t.1 t.2).1 ht
     have:=det_few _ _ hS t.1 (by rw[e];exact hc)
     omega
theorem alexander_yes (hFR : FaceRingsOk) (v : Value) (C : List Cr) (loops : Int) (w : World) (hn : noN C loops = 0) (h10 : C.length ≤ 10) (h : Crs w w.heap.size v C) :
    Calls Tryz.prog 11 #[.agg #[v,.int .i64 loops]] w fun e w'=>∃ v l,e=.returned (.tuple #[v,.int .i64 0])/\Poly.Poly w' w'.heap.size v l/\IsAlex C loops l/\Below w.heap.size w w':=by
 have HC:Hid (Crs w w.heap.size v C):=h
 have hmd:=(noN_zero hn).1
 have hsz:sizeB C loops=true:=by
  have:=hmd
  unfold mayD at this
  exact(Bool.and_eq_true_iff.1 this).1
 obtain⟨hs1,hs2,hs3,hs4⟩:=sizeB_iff hsz
 have HM:Hid (mayD C loops=true):=hmd
 obtain⟨a,cap,rfl,-,-⟩:=h
 have HF:Hid (∀ W,Crs W W.heap.size (.slice a C.length cap) C->Calls Tryz.prog 22 #[.agg #[.slice a C.length cap,.int .i64 loops]] W fun e w'=>∃ gt,e=.returned (.tuple #[.slice (some ⟨gt,0,none⟩) C.length C.length,.int .i64 0])/\(∃ gs vals,TblAt W.heap.size C.length (ovC C) gt C.length gs vals (alF C) w')/\Below W.heap.size W w'):=fun W hW=>table_yes hFR addOk _ C loops W hn h10 hW
 have hov:ovC C<=21:=Nat.le_trans (rootsN_le _ _) (by omega)
 have hov2:=ovC_ge C
 obtain⟨w0,hw0⟩:∃ w0,w0=w.alloc (.cells #[.slice a C.length cap,.int .i64 loops] 24):=⟨_,rfl⟩
 have HW0:Hid (w0=w.alloc (.cells #[.slice a C.length cap,.int .i64 loops] 24)):=hw0
 have HB0:Hid (Below w.heap.size w w0):=(by rw[hw0];exact(Below.refl _ _).alloc (Nat.le_refl _) _:Below w.heap.size w w0)
 have HT0:Hid (w0.heap[w.heap.size]?=some (.cells #[.slice a C.length cap,.int .i64 loops] 24 (0,0))):=(by rw[hw0];exact alloc_at rfl:w0.heap[w.heap.size]?=some (.cells #[.slice a C.length cap,.int .i64 loops] 24 (0,0)))
 clear hw0 hn hFR hmd hsz
 go_enter Tryz.func11,Tryz.ntmps11
 go_wp2_with (go_at_call 22;rw[<-HW0.out];refine(HF.out _ (HC.out.up HB0.out)).mono ?_;rintro e9 w2 ⟨gt,rfl,hT,hb2⟩;refine Hid.out ?_)
 refine Lib.hid ?_
 have HB2:Hid (Below w.heap.size w w2):=HB0.out.trans (hb2.mono HB0.out.size)
 have q:=(hb2.block _ (Array.getElem?_eq_some_iff.1 HT0.out).1).trans HT0.out
 have t0:w2.cell? ⟨w.heap.size,0,none⟩=some (.slice a C.length cap):=block_cell q rfl
 have t1:w2.cell? ⟨w.heap.size,1,none⟩=some (.int .i64 loops):=block_cell q rfl
 have HTT : Hid (∃ gs vals, TblRd w2 w2.heap.size C.length (ovC C) gt gs vals (alF C)) := (by
  obtain⟨gs,vals,h⟩:=hT
  exact⟨gs,vals,h.rd⟩:∃ gs vals,TblRd w2 w2.heap.size C.length (ovC C) gt gs vals (alF C))
 clear hb2 hT q
 clear HC HF HT0 HW0
 obtain⟨n,hN⟩:∃ n,C.length=n:=⟨_,rfl⟩
 have HN:Hid (C.length=n):=hN
 rw[hN]at hs1 hs4 h10 hov2 HTT t0 ⊢
 clear hN
 by_cases h1:n=0/\loops=1
 · obtain⟨rfl,rfl⟩:=h1
   have HI : Hid (IsAlex C 1 [(0, 1)]) := (by
    unfold IsAlex
    rw[if_pos ⟨HN.out,rfl⟩]:IsAlex C 1 [(0,1)])
   go_wp2
   go_ret2
   have hb:=alloc_at (w:=w2) (o:=.cells #[.int .i64 0,.int .i64 1] 63) rfl
   refine⟨_,rfl,[(0,1)],Or.inr (Or.inr ⟨w2.heap.size,0,1,rfl,(Array.getElem?_eq_some_iff.1 hb).1,fun i hi=>?_⟩),HI.out,HB2.out.alloc HB2.out.size _⟩
   obtain rfl:i=0:=by simpa using hi
   exact⟨block_cell hb rfl,block_cell hb rfl⟩
 · by_cases h2:n=0∨0<loops
   · have HI : Hid (IsAlex C loops []) := (by
       have:=HN.out
       unfold IsAlex
       rw[if_neg (by rw[this];exact h1),if_pos (by rw[this];omega)]:IsAlex C loops [])
     by_cases h3:n=0
     · subst h3
       have h4:loops≠1:=fun e=>h1 ⟨rfl,e⟩
       have h5:(loops==1)=false:=beq_eq_false_iff_ne.2 h4
       go_wp2
       go_ret2
       exact⟨_,rfl,[],Or.inl ⟨rfl,rfl⟩,HI.out,HB2.out⟩
     · have h4:0<loops:=by omega
       have h5:((n:Int)==0)=false:=beq_eq_false_iff_ne.2 (by omega)
       go_wp2
       go_ret2
       exact⟨_,[],rfl,Or.inl ⟨rfl,rfl⟩,HI.out,HB2.out⟩
   · have h3:0<n:=by omega
     obtain rfl:loops=0:=by omega
     have h5:((n:Int)==0)=false:=beq_eq_false_iff_ne.2 (by omega)
     obtain⟨gs,vals,hTR⟩:=HTT.out
     have HTR:Hid (TblRd w2 w2.heap.size n (ovC C) gt gs vals (alF C)):=hTR
     clear hTR HTT
     go_wp2_with (first
      |(go_at_call 24;refine(minor_any C gt n (ovC C) gs vals _ h3 h10 (by omega) hov HTR.out).mono ?_;rintro e9 w3 ⟨vm,lm,rfl,hPm,hm1,hm2,hb3⟩;refine Hid.out ?_))
     refine Lib.hid ?_
     have HB3:Hid (Below w.heap.size w w3):=HB2.out.trans (hb3.mono HB2.out.size)
     have HPm:Hid (Poly.Poly w3 w3.heap.size vm lm):=hPm
     have HMB : Hid (Poly.mayB lm = true) := (by
      by_cases hs:n<ovC C-1
      · rw[hm1 hs];decide
      · exact al_det HM.out (by rw[HN.out];exact h3) (by rw[HN.out];exact h10) (by rw[HN.out];omega) (hm2 (by omega)):Poly.mayB lm=true)
     have HI : Hid (IsAlex C 0 (Poly.unitL lm)) := (by
      have hN:=HN.out
      unfold IsAlex
      rw[if_neg (by rw[hN];omega)]
      by_cases hs:n<ovC C-1
      · rw[if_pos (by rw[hN];omega),hm1 hs];rfl
      · rw[if_neg (by rw[hN];omega)]
        exact⟨lm,hm2 (by omega),rfl⟩:IsAlex C 0 (Poly.unitL lm))
     clear hPm hm1 hm2 hb3
     go_wp2_with (go_at_call 23;refine(Poly.unit_yes vm lm _ HMB.out HPm.out).mono ?_;rintro e9 w4 ⟨vu,rfl,hPu,hb4⟩;refine Hid.out ?_)
     refine Lib.hid ?_
     have HPu:Hid (Poly.Poly w4 w4.heap.size vu (Poly.unitL lm)):=hPu
     have HB4:Hid (Below w.heap.size w w4):=HB3.out.trans (hb4.mono HB3.out.size)
     clear hPu hb4
     go_wp2
     go_ret2
     exact⟨vu,_,rfl,HPu.out,HI.out,HB4.out⟩
theorem alexDet_yes (hFR : FaceRingsOk) (v : Value) (C : List Cr) (loops : Int) (w : World) (hn : noN C loops = 0) (h10 : C.length ≤ 10) (h : Crs w w.heap.size v C) :
    Calls Tryz.prog 7 #[.agg #[v,.int .i64 loops]] w fun e w'=>∃ l,e=.returned (.tuple #[.int .i64 (max (Poly.atTo l (-1) l.length) (-(Poly.atTo l (-1) l.length))),.int .i64 0])/\IsAlex C loops l/\Below w.heap.size w w':=by
 have HC:Hid (Crs w w.heap.size v C):=h
 have HM:Hid (mayD C loops=true):=(noN_zero hn).1
 obtain⟨a,cap,rfl,-,-⟩:=h
 have HF:Hid (∀ W,Crs W W.heap.size (.slice a C.length cap) C->Calls Tryz.prog 11 #[.agg #[.slice a C.length cap,.int .i64 loops]] W fun e w'=>∃ v l,e=.returned (.tuple #[v,.int .i64 0])/\Poly.Poly w' w'.heap.size v l/\IsAlex C loops l/\Below W.heap.size W w'):=fun W hW=>alexander_yes hFR _ C loops W hn h10 hW
 have HB1:Hid (Below w.heap.size w (w.alloc (.cells #[.slice a C.length cap,.int .i64 loops] 24))):=(Below.refl _ _).alloc (Nat.le_refl _) _
 clear hFR hn
 go_enter Tryz.func7,Tryz.ntmps7
 go_wp2_with (go_at_call 11;refine(HF.out _ (HC.out.up HB1.out)).mono ?_;rintro e9 w2 ⟨va,l,rfl,hP,hI,hb2⟩;refine Hid.out ?_)
 refine Lib.hid ?_
 have HB2:Hid (Below w.heap.size w w2):=HB1.out.trans (hb2.mono HB1.out.size)
 have HP:Hid (Poly.Poly w2 w2.heap.size va l):=hP
 have HI:Hid (IsAlex C loops l):=hI
 have HMB:Hid (Poly.mayB l=true):=hI.may HM.out h10
 have hat:=Poly.atTo_le l (-1) (Or.inr rfl) HMB.out l.length (Nat.le_refl _)
 have hl64:=((Poly.may_iff l).1 HMB.out).1
 have HAT:Hid (∀ W,Poly.Poly W W.heap.size va l->Calls Tryz.prog 15 #[va,.int .i64 (-1)] W fun e w'=>e=.returned (.tuple #[.int .i64 (Poly.atTo l (-1) l.length),.int .i64 0])/\Below W.heap.size W w'):=fun W hW=>Poly.at_yes va l (-1) W (Or.inr rfl) HMB.out hW
 have HX:Hid (∀ x,Poly.atTo l (-1) l.length=x->∃ l,(.returned (.tuple #[.int .i64 (max x (-x)),.int .i64 0]):Ending)=.returned (.tuple #[.int .i64 (max (Poly.atTo l (-1) l.length) (-(Poly.atTo l (-1) l.length))),.int .i64 0])/\IsAlex C loops l):=fun x hx=>⟨l,by rw[hx],HI.out⟩
 obtain⟨x,hx⟩:∃ x,Poly.atTo l (-1) l.length=x:=⟨_,rfl⟩
 have HX2:Hid (∃ l,(.returned (.tuple #[.int .i64 (max x (-x)),.int .i64 0]):Ending)=.returned (.tuple #[.int .i64 (max (Poly.atTo l (-1) l.length) (-(Poly.atTo l (-1) l.length))),.int .i64 0])/\IsAlex C loops l):=HX.out x hx
 rw[hx]at HAT hat
 clear hx hP hI hb2 HX
 go_wp2_with (go_at_call 15;refine(HAT.out _ HP.out).mono ?_;rintro e9 w3 ⟨rfl,hb3⟩;refine Hid.out ?_)
 refine Lib.hid ?_
 have HB3:Hid (Below w.heap.size w w3):=HB2.out.trans (hb3.mono HB2.out.size)
 clear hb3
 go_wp2
 go_ret2
 obtain⟨l',e',hI'⟩:=HX2.out
 exact⟨l',e',hI',HB3.out⟩
end Go.Proofs.YtmnejkaihjpejaaGreatDoor
/- Alexander's determinant: the value at -1 as a determinant of whole numbers; a prime colours just if it divides it. -/
namespace Go.Proofs.YtmnejkaihjpejaaGreatDoor
open Poly
def sgE (e:Int):Int:=if e%2=0 then 1 else -1
theorem sgE_two (e:Int):sgE e=1∨sgE e = -1:=by unfold sgE;split<;>omega
theorem sgE_add (a b:Int):sgE (a+b)=sgE a*sgE b:=by
 unfold sgE
 by_cases h1:a%2=0<;>by_cases h2:b%2=0
 · rw[if_pos h1,if_pos h2,if_pos (by omega)];rfl
 · rw[if_pos h1,if_neg h2,if_neg (by omega)];rfl
 · rw[if_neg h1,if_pos h2,if_neg (by omega)];rfl
 · rw[if_neg h1,if_neg h2,if_pos (by omega)];rfl
def vlM:List (Int×Int)->Int
 |[]=>0
 |t::l=>sgE t.1*t.2+vlM l
theorem vlM_app (a b:List (Int×Int)):vlM (a++b)=vlM a+vlM b:=by
 induction a with
 |nil=>simp[vlM]
 |cons t a ih=>simp only[List.cons_append,vlM,ih];omega
theorem ev_at (l:List (Int×Int)):∀ k,k<=l.length->atTo l (-1) k=vlM (l.take k)
 |0,_=>rfl
 |k+1,h=>by
  show atTo l (-1) k+atV (-1) _ _=_
  rw[ev_at l k (by omega),List.take_succ_eq_append_getElem (by omega),vlM_app]
  have e:l.getD k (0,0)=l[k]:=by rw[List.getD_eq_getElem?_getD,List.getElem?_eq_getElem (by omega)];rfl
  rw[e]
  unfold atV
  show vlM (l.take k)+_=vlM (l.take k)+(sgE l[k].1*l[k].2+0)
  unfold sgE
  split<;>omega
theorem ev_all (l:List (Int×Int)):atTo l (-1) l.length=vlM l:=by rw[ev_at l l.length (Nat.le_refl _),List.take_length]
theorem coef_sum (K:Nat):∀ L:List (Int×Int),(∀ t∈L,-(K:Int)<=t.1/\t.1<=K)->vlM L=sumS (2*K+1) (fun i=>sgE ((i:Int)-K)*coefL L ((i:Int)-K))
 |[],_=>by rw[sumS_congr (g:=fun _=>0) fun i _=>by show _*(0:Int)=0;simp,sumS_zero];rfl
 |t::L,h=>by
  have ht:=h t (.head _)
  show sgE t.1*t.2+vlM L=_
  rw[coef_sum K L (fun u hu=>h u (.tail _ hu))]
  have e:∀ n:Nat,sumS n (fun i=>sgE ((i:Int)-K)*(if t.1=(i:Int)-K then t.2 else 0))=if t.1+K<n then sgE t.1*t.2 else 0:=fun n=>by
   induction n with
   |zero=>rw[if_neg (by omega)];rfl
   |succ n ih=>
    show sumS n _+sgE ((n:Int)-K)*(if t.1=(n:Int)-K then t.2 else 0)=_
    rw[ih]
    by_cases q:t.1=(n:Int)-K
    · rw[if_neg (by omega),if_pos q,if_pos (by omega),q];omega
    · rw[if_neg q,Int.mul_zero,Int.add_zero]
      by_cases g:t.1+K<(n:Int)
      · rw[if_pos g,if_pos (by omega)]
      · rw[if_neg g,if_neg (by omega)]
  have e1:=e (2*K+1)
  rw[if_pos (by omega)]at e1
  rw[<-e1,<-sumS_add]
  refine sumS_congr fun i _=>?_
  show _=sgE ((i:Int)-K)*((if t.1=(i:Int)-K then t.2 else 0)+coefL L ((i:Int)-K))
  rw[Int.mul_add]
theorem exp_bd (L:List (Int×Int)):∃ K:Nat,∀ t∈L,-(K:Int)<=t.1/\t.1<=K:=by
 induction L with
 |nil=>exact⟨0,fun t ht=>by cases ht⟩
 |cons u L ih=>
  obtain⟨K,h⟩:=ih
  refine⟨K+u.1.natAbs,fun t ht=>?_⟩
  cases ht with
  |head=>omega
  |tail _ ht=>have:=h t ht;omega
theorem ev_one {L M:List (Int×Int)} (h:∀ y,coefL L y=coefL M y):vlM L=vlM M:=by
 obtain⟨K1,h1⟩:=exp_bd L
 obtain⟨K2,h2⟩:=exp_bd M
 rw[coef_sum (K1+K2) L (fun t ht=>by have:=h1 t ht;omega),coef_sum (K1+K2) M (fun t ht=>by have:=h2 t ht;omega)]
 exact sumS_congr fun i _=>by rw[h]
def EvF (f:Int->Int) (v:Int):Prop:=∃ L,(∀ y,coefL L y=f y)/\vlM L=v
theorem EvF.canon {f:Int->Int} {v:Int} {l:List (Int×Int)} (h:EvF f v) (hl:Canon l f):vlM l=v:=by
 obtain⟨L,h1,h2⟩:=h
 rw[<-h2]
 exact ev_one fun y=>by rw[canon_coefB hl,h1]
theorem coef_map (e c:Int) (L:List (Int×Int)) (y:Int):coefL (L.map fun u=>(u.1+e,c*u.2)) y=c*coefL L (y-e):=by
 induction L with
 |nil=>simp[coefL]
 |cons u L ih=>
  simp only[List.map_cons,coefL,ih,Int.mul_add]
  by_cases q:u.1+e=y
  · rw[if_pos q,if_pos (by omega)]
  · rw[if_neg q,if_neg (by omega)];omega
theorem ev_map (e c:Int) (L:List (Int×Int)):vlM (L.map fun u=>(u.1+e,c*u.2))=sgE e*c*vlM L:=by
 induction L with
 |nil=>simp[vlM]
 |cons u L ih=>
  simp only[List.map_cons,vlM,ih,sgE_add]
  grind
theorem EvF.sub {f g:Int->Int} {v u:Int} (h:EvF f v) (h':EvF g u):EvF (fun y=>f y-g y) (v-u):=by
 obtain⟨L,h1,h2⟩:=h
 obtain⟨M,h3,h4⟩:=h'
 refine⟨L++M.map (fun t=>(t.1+0,-1*t.2)),fun y=>?_,?_⟩
 · rw[coefL_append,coef_map,h1,h3,show y-0=y by omega]
   show f y + -1*g y=f y-g y
   omega
 · rw[vlM_app,ev_map,h2,h4]
   show v+1 * -1*u=v-u
   omega
theorem EvF.prod {f:Int->Int} {v:Int} (h:EvF f v) (a:List (Int×Int)):EvF (prodL a f) (vlM a*v):=by
 obtain⟨L,h1,h2⟩:=h
 induction a with
 |nil=>exact⟨[],fun _=>rfl,by simp[vlM]⟩
 |cons t a ih=>
  obtain⟨M,h3,h4⟩:=ih
  refine⟨L.map (fun u=>(u.1+t.1,t.2*u.2))++M,fun y=>?_,?_⟩
  · rw[coefL_append,coef_map,h1,h3];rfl
  · rw[vlM_app,ev_map,h2,h4]
    show sgE t.1*t.2*v+vlM a*v=(sgE t.1*t.2+vlM a)*v
    grind
theorem EvF.row (r:Nat->List (Int×Int)):∀ (cs:List Nat) (h:List Nat->Int->Int) (hv:List Nat->Int),(∀ rest,EvF (h rest) (hv rest))->EvF (Poly.rowF r cs h) (rowZ (fun c=>vlM (r c)) cs hv)
 |[],_,_,_=>⟨[],fun _=>rfl,rfl⟩
 |c::cs,_,_,e=>((e cs).prod (r c)).sub (EvF.row r cs _ _ fun rest=>e (c::rest))
theorem EvF.det:∀ (rows:List (Nat->List (Int×Int))) (cs:List Nat),EvF (detF rows cs) (detZ (rows.map fun r c=>vlM (r c)) cs)
 |[],_=>⟨[(0,1)],fun y=>by show(if(0:Int)=y then(1:Int) else 0)+0=(if y=0 then 1 else 0);by_cases q:y=0<;>simp[q,eq_comm],rfl⟩
 |r::rows,cs=>EvF.row r cs _ _ fun rest=>EvF.det rows rest
theorem rowZ_congr (a b:Nat->Int):∀ (cs:List Nat) (h h':List Nat->Int),(∀ c∈cs,a c=b c)->(∀ rest,(∀ c∈rest,c∈cs)->h rest=h' rest)->rowZ a cs h=rowZ b cs h'
 |[],_,_,_,_=>rfl
 |c::cs,h,h',e,e2=>by
  show a c*h cs-rowZ a cs _=b c*h' cs-rowZ b cs _
  rw [e c (.head _), e2 cs (fun x hx => .tail _ hx), rowZ_congr a b cs _ (fun rest => h' (c :: rest)) (fun x hx => e x (.tail _ hx)) (fun rest hr => e2 (c :: rest) (fun x hx => by
   cases hx with
   |head=>exact .head _
   |tail _ hx=>exact .tail _ (hr x hx)))]
theorem detZ_congr {α:Type} (f g:α->Nat->Int):∀ (R:List α) (cs:List Nat),(∀ i∈R,∀ c∈cs,f i c=g i c)->detZ (R.map f) cs=detZ (R.map g) cs
 |[],_,_=>rfl
 |i::R,cs,h=>rowZ_congr (f i) (g i) cs _ _ (fun c hc=>h i (.head _) c hc) (fun rest hr=>detZ_congr f g R rest fun j hj c hc=>h j (.tail _ hj) c (hr c hc))
theorem rowZ_neg (a:Nat->Int) (cs:List Nat) (h:List Nat->Int):rowZ (fun c => -a c) cs h = -rowZ a cs h:=by
 induction cs generalizing h with
 |nil=>rfl
 |cons c cs ih=>
  simp only[rowZ,ih]
  grind
theorem detZ_neg {α:Type} (f:α->Nat->Int):∀ (R:List α) (cs:List Nat),detZ (R.map fun i c => -f i c) cs=sgZ R.length*detZ (R.map f) cs
 |[],_=>rfl
 |i::R,cs=>by
  show rowZ (fun c => -f i c) cs (detZ (R.map fun i c => -f i c)) = -sgZ R.length*rowZ (f i) cs (detZ (R.map f))
  have e:detZ (R.map fun i c => -f i c)=fun rest=>sgZ R.length*detZ (R.map f) rest:=funext fun rest=>detZ_neg f R rest
  rw[e,rowZ_neg,rowZ_mul]
  grind
theorem ev_aPol (x y:Int):vlM (aPol x y)=x-y:=by
 unfold aPol
 by_cases hx:x=0<;>by_cases hy:y=0<;>simp[hx,hy,vlM,sgE]<;>omega
theorem al_ev (C:List Cr) (k j:Nat):(alF C k j).1-(alF C k j).2 = -eqR C k j:=by
 unfold alF eqR eqF Go.Proofs.YtmnejkaihjpejaaGreatDoor.rowF addFa zeroF outC' inC
 cases (C.getD k Cr.none).plus
 · simp only[Bool.false_eq_true,if_false]
   repeat' split
   all_goals(simp only;omega)
 · simp only[if_true]
   repeat' split
   all_goals(simp only;omega)
theorem alT_ev {C:List Cr} {N:Nat} {l:List (Int×Int)} (h:Canon l (detOf (alT C N))):vlM l=sgZ N*detZ ((List.range N).map (eqR C)) (List.range N):=by
 have e:=(EvF.det (rowsOf (alT C N)) (List.range (alT C N).length)).canon h
 rw[e,alT_len]
 have e2:(rowsOf (alT C N)).map (fun r c=>vlM (r c))=(List.range N).map fun i c=>vlM ((alR C N i).getD c []):=by
  unfold rowsOf alT
  rw[List.map_map,List.map_map]
  rfl
 rw [e2, detZ_congr (fun i c => vlM ((alR C N i).getD c [])) (fun i c => -eqR C i c) (List.range N) (List.range N) (fun i _ c hc => by
  rw[alR_at C N i c (List.mem_range.1 hc),ev_aPol,al_ev]),detZ_neg,List.length_range]
theorem unit_ev (l:List (Int×Int)):vlM (unitL l)=vlM l∨vlM (unitL l) = -vlM l:=by
 have e:∀ (e0:Int) (b:Prop) [Decidable b] (m:List (Int×Int)),vlM (m.map fun t=>(t.1-e0,if b then -t.2 else t.2))=(if b then -1 else 1)*sgE e0*vlM m:=fun e0 b _ m=>by
  have hs:∀ x:Int,sgE (x-e0)=sgE x*sgE e0:=fun x=>by
   have h1:=sgE_add (x-e0) e0
   rw[show x-e0+e0=x by omega]at h1
   rw[h1]
   rcases sgE_two e0 with q|q<;>rw[q]<;>omega
  induction m with
  |nil=>simp[vlM]
  |cons t m ih=>
   simp only[List.map_cons,vlM,ih,hs]
   by_cases q:b
   · simp only[if_pos q];grind
   · simp only[if_neg q];grind
 unfold unitL
 rw[e]
 rcases sgE_two (l.getD 0 (0,0)).1 with q|q<;>rw[q]<;>split<;>omega
theorem sumS_dvd {d:Int} {n:Nat} {f:Nat->Int} (h:∀ i,i<n->d ∣ f i):d ∣ sumS n f:=by
 induction n with
 |zero=>exact Int.dvd_zero _
 |succ n ih=>exact Int.dvd_add (ih fun i hi=>h i (by omega)) (h n (by omega))
theorem sumS_ind (m q:Nat) (h:q<m) (x:Int):sumS m (fun j=>if j=q then x else 0)=x:=by
 induction m with
 |zero=>omega
 |succ m ih=>
  show sumS m _+(if m=q then x else 0)=x
  by_cases e:m=q
  · rw[if_pos e,sumS_congr (g:=fun _=>0) fun i hi=>if_neg (by omega),sumS_zero];omega
  · rw[if_neg e,ih (by omega)];omega
theorem rk_all (p m:Nat) (R0:(Nat->Int)->Prop) (N:Nat):rkTo p m R0 N<N↔∃ c,c<N/\¬ pivP p m R0 c:=by
 induction N with
 |zero=>exact⟨fun h=>by omega,fun⟨c,h,_⟩=>by omega⟩
 |succ N ih=>
  have hle:=rkTo_le p m R0 N
  by_cases h:pivP p m R0 N
  · rw[rkTo_yes h]
    constructor
    · intro q
      obtain⟨c,h1,h2⟩:=ih.1 (by omega)
      exact⟨c,by omega,h2⟩
    · rintro⟨c,h1,h2⟩
      have:c≠N:=fun e=>h2 (by rw[e];exact h)
      have:=ih.2 ⟨c,by omega,h2⟩
      omega
  · rw[rkTo_no h]
    exact⟨fun _=>⟨N,by omega,h⟩,fun _=>by omega⟩
section
variable {C:List Cr} {loops:Int} (hm:mayD C loops=true)
include hm
theorem eqR_sum {k:Nat} (hk:k<C.length):sumS (ovC C) (eqR C k)=0:=by
 have ha:=arcs_rng hm hk (s:=0) (by omega)
 have hb:=arcs_rng hm hk (s:=1) (by omega)
 have hc:=arcs_rng hm hk (s:=2) (by omega)
 have o:∀ x:Int,1<=x/\x<=((2*C.length:Nat):Int)->ovM C x.toNat<ovC C:=fun x hx=>ovM_lt hm _ (by omega) (by omega)
 have e:∀ j,eqR C k j=(if j=ovM C ((C.getD k Cr.none).arc 1).toNat then 2 else 0)+((if j=ovM C ((C.getD k Cr.none).arc 0).toNat then -1 else 0)+(if j=ovM C ((C.getD k Cr.none).arc 2).toNat then -1 else 0)):=fun j=>by
  show eqF _ _ _ j=_
  unfold eqF
  show(if j=ovM C (C.getD k Cr.none).b.toNat then(2:Int) else 0)-(if j=ovM C (C.getD k Cr.none).a.toNat then 1 else 0)-(if j=ovM C (C.getD k Cr.none).c.toNat then 1 else 0)=(if j=ovM C (C.getD k Cr.none).b.toNat then 2 else 0)+((if j=ovM C (C.getD k Cr.none).a.toNat then -1 else 0)+(if j=ovM C (C.getD k Cr.none).c.toNat then -1 else 0))
  split<;>split<;>split<;>omega
 rw[sumS_congr fun j _=>e j,sumS_add,sumS_add,sumS_ind _ _ (o _ hb),sumS_ind _ _ (o _ ha),sumS_ind _ _ (o _ hc)]
 rfl
theorem last_no {p N:Nat} (hN:ovC C=N+1):¬ pivP p (ovC C) (eqAll C) N:=by
 rintro⟨v,⟨h1,h2⟩,h3⟩
 have hs : (p : Int) ∣ sumS (ovC C) v := h1 (fun v => (p : Int) ∣ sumS (ovC C) v) ⟨by rw [sumS_zero]; exact Int.dvd_zero _, fun u v k hu hv => by
     have e:sumS (ovC C) (fun j=>u j+k*v j)=sumS (ovC C) u+k*sumS (ovC C) v:=by
      rw[sumS_add]
      congr 1
      generalize ovC C=M
      induction M with
      |zero=>show(0:Int)=k*0;simp
      |succ M ih=>show sumS M _+k*v M=k*(sumS M v+v M);rw[ih,Int.mul_add]
     rw[e]
     exact Int.dvd_add hu (Int.dvd_mul_of_dvd_right hv),fun u v h hu=>by
     have h4:(p:Int) ∣ sumS (ovC C) (fun j=>u j-v j):=sumS_dvd h
     have e:sumS (ovC C) (fun j=>u j-v j)=sumS (ovC C) u-sumS (ovC C) v:=by
      generalize ovC C=M
      induction M with
      |zero=>rfl
      |succ M ih=>show sumS M _+(u M-v M)=sumS M u+u M-(sumS M v+v M);rw[ih];omega
     rw[e]at h4
     have h5:=Int.dvd_sub hu h4
     rw[show sumS (ovC C) u-(sumS (ovC C) u-sumS (ovC C) v)=sumS (ovC C) v by omega]at h5
     exact h5⟩ (by
     rintro r ⟨i,hi,rfl⟩
     rw[eqR_sum hm hi]
     exact Int.dvd_zero _)
 rw[hN]at hs
 have h4:(p:Int) ∣ sumS N v:=sumS_dvd h2
 have h5:=Int.dvd_sub hs h4
 rw[show sumS (N+1) v-sumS N v=v N by show sumS N v+v N-sumS N v=v N;omega]at h5
 exact h3 h5
theorem det_fox (hp : planarB C = true) (h0 : 0 < C.length) (h1 : ∀ k, k < C.length → Con (arcE C) 0 k) {p : Nat} (hp2 : 2 ≤ p) (hp9 : p < 98) (hpr : primeN p = true) {l : List (Int × Int)} (hl0 : loops = 0) (hA : IsAlex C loops l) :
    (1<foxM C loops p↔(p:Int) ∣ max (atTo l (-1) l.length) (-(atTo l (-1) l.length))):=by
 subst hl0
 have hge:=ovC_ge C
 obtain⟨N,hN⟩:∃ N,ovC C=N+1:=⟨ovC C - 1,by omega⟩
 have hfox:1<foxM C 0 p↔∃ c,c<N/\¬ pivP p (ovC C) (eqAll C) c:=by
  rw[<-rk_all]
  have e1:rkTo p (ovC C) (eqAll C) (ovC C)=rkTo p (ovC C) (eqAll C) N:=by
   have:=rkTo_no (last_no hm (p:=p) hN)
   rw[<-hN]at this
   exact this
  unfold foxM
  rw[e1]
  omega
 have hmax:∀ x:Int,(p:Int) ∣ max x (-x)↔(p:Int) ∣ x:=fun x=>by
  rcases Int.le_total x (-x) with h|h
  · rw[Int.max_eq_right h];exact Int.dvd_neg
  · rw[Int.max_eq_left h]
 have hin:∀ (R:List (Nat->Int)),(∀ r∈R,Sp p (ovC C) (eqAll C) r)->(∀ i,i<C.length->Sp p (ovC C) (fun r=>r∈R) (eqR C i))->Inv p (ovC C) (eqAll C) 0 (fun r=>r∈R):=fun R g1 g2 v=>
  ⟨fun hv=>⟨Sp.le g1 hv,fun j hj=>absurd hj (Nat.not_lt_zero _)⟩,fun hv=>Sp.le (fun r hr=>by obtain⟨i,hi,rfl⟩:=hr;exact g2 i hi) hv.1⟩
 have hz:(List.range N).map (fun i=>0+i)=List.range N:=by
  rw[List.map_congr_left (g:=id) fun i _=>by simp,List.map_id]
 rw[hfox,hmax,ev_all]
 unfold IsAlex at hA
 rw[if_neg (by omega)]at hA
 by_cases hs:C.length<ovC C-1
 · rw[if_pos (Or.inr (Or.inr hs))]at hA
   subst hA
   refine⟨fun _=>Int.dvd_zero _,fun _=>?_⟩
   obtain⟨d,hd⟩:∃ d,N - C.length=d+1:=⟨N - C.length - 1,by omega⟩
   have hlen:((List.range C.length).map (eqR C)++List.replicate (N-C.length) (fun _=>(0:Int))).length=N:=by simp;omega
   have h := piv_det (N := N) hp2 hp9 hpr (show N ≤ ovC C by omega) (eqAll C) N 0 ((List.range C.length).map (eqR C) ++ List.replicate (N - C.length) (fun _ => (0 : Int))) (by omega) hlen (hin _ (fun r hr => by
       rcases List.mem_append.1 hr with g|g
       · obtain⟨i,hi,rfl⟩:=List.mem_map.1 g
         exact Sp.mem ⟨i,List.mem_range.1 hi,rfl⟩
       · rw[(List.mem_replicate.1 g).2]
         exact(Sp.sub _ _ _).zero) (fun i hi=>Sp.mem (List.mem_append_left _ (List.mem_map.2 ⟨i,List.mem_range.2 hi,rfl⟩))))
   obtain ⟨c, -, c2, c3⟩ := h.1 (by
    rw[hd,List.replicate_succ,detZ_front]
    have e:∀ cs h,rowZ (fun _=>0) cs h=0:=fun cs=>by
     induction cs with
     |nil=>intro h;rfl
     |cons c cs ih=>intro h;show 0*h cs - rowZ (fun _=>0) cs _=0;rw[ih];omega
    rw[show ∀ X cs,detZ ((fun _=>(0:Int))::X) cs=0 from fun X cs=>e cs _,Int.mul_zero]
    exact Int.dvd_zero _)
   exact⟨c,c2,c3⟩
 · rw[if_neg (by omega),show ovC C-1=N by omega]at hA
   obtain⟨l0,c0,rfl⟩:=hA
   have hev:(p:Int) ∣ vlM (unitL l0)↔(p:Int) ∣ detZ ((List.range N).map (eqR C)) (List.range N):=by
    have e1:(p:Int) ∣ vlM (unitL l0)↔(p:Int) ∣ vlM l0:=by
     rcases unit_ev l0 with q|q<;>rw[q]
     exact Int.dvd_neg
    rw[e1,alT_ev c0]
    rcases sgZ_two N with q|q<;>rw[q]
    · rw[Int.one_mul]
    · rw[show -1*detZ ((List.range N).map (eqR C)) (List.range N) = -detZ ((List.range N).map (eqR C)) (List.range N) by omega]
      exact Int.dvd_neg
   rw[hev]
   have hI:Inv p (ovC C) (eqAll C) 0 (fun r=>r∈(List.range N).map (eqR C)):=by
    refine hin _ (fun r hr=>?_) (fun i hi=>?_)
    · obtain⟨i,hi,rfl⟩:=List.mem_map.1 hr
      exact Sp.mem ⟨i,by have:=List.mem_range.1 hi;omega,rfl⟩
    · by_cases hiN:i<N
      · exact Sp.mem (List.mem_map.2 ⟨i,List.mem_range.2 hiN,rfl⟩)
      · obtain⟨ep,e1,e2⟩:=signs_ex hm hp h0 h1
        have hn:C.length=N+1:=by omega
        have hiN2:i=N:=by omega
        have part:∀ k,k<=N->Sp p (ovC C) (fun r=>r∈(List.range N).map (eqR C)) (fun j=>sumS k (fun q=>ep q*eqR C q j)):=fun k=>by
         induction k with
         |zero=>intro _;exact(Sp.sub _ _ _).zero
         |succ k ih=>intro hk;exact(Sp.sub _ _ _).add _ (eqR C k) (ep k) (ih (by omega)) (Sp.mem (List.mem_map.2 ⟨k,List.mem_range.2 (by omega),rfl⟩))
        have h5:=(Sp.sub p (ovC C) (fun r=>r∈(List.range N).map (eqR C))).add _ _ (-ep N) (Sp.sub p (ovC C) (fun r=>r∈(List.range N).map (eqR C))).zero (part N (Nat.le_refl _))
        refine(Sp.sub p (ovC C) (fun r=>r∈(List.range N).map (eqR C))).mod _ _ (fun j _=>?_) h5
        have h6:=e2 j
        rw[hn]at h6
        have h7:sumS N (fun q=>ep q*eqR C q j) = -(ep N*eqR C N j):=by
         have:sumS N (fun q=>ep q*eqR C q j)+ep N*eqR C N j=0:=h6
         omega
        rw[hiN2,h7]
        have h8:0 + -ep N * -(ep N*eqR C N j)-eqR C N j=0:=by
         rcases e1 N with q|q<;>rw[q]<;>omega
        rw[h8]
        exact Int.dvd_zero _
   have h:=piv_det (N:=N) hp2 hp9 hpr (show N<=ovC C by omega) (eqAll C) N 0 ((List.range N).map (eqR C)) (by omega) (by simp) hI
   rw[hz]at h
   rw[h]
   constructor
   · rintro⟨c,h2,h3⟩;exact⟨c,by omega,h2,h3⟩
   · rintro⟨c,-,h2,h3⟩;exact⟨c,h2,h3⟩
end
end Go.Proofs.YtmnejkaihjpejaaGreatDoor

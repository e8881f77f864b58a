/- Several texts of the proof, one behind the other. -/
import Derived.Test.YtgagenmkpmmpfaaQ2P
import Derived.Test.YtgagenmkpmmpfaaAS0P
import Derived.Test.YtgagenmkpmmpfaaAX0
import Derived.Test.YtgagenmkpmmpfaaAL3P
import Derived.Test.YtgagenmkpmmpfaaAD6P
import Derived.Test.YtgagenmkpmmpfaaPB2P
import Derived.Test.YtgagenmkpmmpfaaPA10P
import Derived.Test.YtgagenmkpmmpfaaO0P
/- Alexander's minor by arcs: rows of crossings by their sides; which arc is left out; labels merged. -/
namespace Go.Proofs.Ytgagenmkpmmpfaa
def qR (t:Int) (c:Cr) (s:Nat):Int:=if s=1 then t-1 else if s=3 then 0 else if s=2 then(if c.plus=true then 1 else -t) else(if c.plus=true then -t else 1)
def qE (s:Nat):Int:=if s=1 then 1 else if s=3 then -1 else 0
def sdR (C:List Cr) (k:Nat) (q:Nat->Int) (a:Nat):Int:=q 0*(if aAt C k 0=a then 1 else 0)+q 1*(if aAt C k 1=a then 1 else 0)+q 2*(if aAt C k 2=a then 1 else 0)+q 3*(if aAt C k 3=a then 1 else 0)
def rA (C:List Cr) (t:Int) (k:Nat):Nat->Int:=sdR C k (qR t (C.getD k Cr.none))
def eA (C:List Cr) (k:Nat):Nat->Int:=sdR C k qE
def rowsA (C:List Cr) (t:Int):List (Nat->Int):=(List.range C.length).map (eA C)++(List.range (C.length-1)).map (rA C t)
theorem if_flip (a b:Nat):(if a=b then(1:Int) else 0)=if b=a then 1 else 0:=by
 by_cases e:a=b
 · rw[if_pos e,if_pos e.symm]
 · rw[if_neg e,if_neg (fun q=>e q.symm)]
theorem qR_sum (t:Int) (c:Cr):qR t c 0+qR t c 1+qR t c 2+qR t c 3=0:=by
 show(if c.plus=true then -t else 1)+(t-1)+(if c.plus=true then 1 else -t)+0=0
 cases c.plus
 · simp only[Bool.false_eq_true,if_false];omega
 · simp only[if_true];omega
theorem sumS_mulL (M:Nat) (k:Int) (f:Nat->Int):sumS M (fun i=>k*f i)=k*sumS M f:=by
 induction M with
 |zero=>show(0:Int)=k*0;omega
 |succ M ih=>show sumS M _+k*f M=k*(sumS M f+f M);rw[ih,Int.mul_add]
theorem range_sum (r:Nat->Int) (M:Nat):((List.range' 1 M).map r).sum=sumS M (fun i=>r (i+1)):=by
 induction M with
 |zero=>rfl
 |succ M ih=>
  rw[List.range'_concat,List.map_append,List.sum_append,ih]
  show _=sumS M _+r (M+1)
  simp[Nat.add_comm]
theorem perm_sum (r:Nat->Int) {l l':List Nat} (h:l.Perm l'):(l.map r).sum=(l'.map r).sum:=by
 induction h with
 |nil=>rfl
 |cons c _ ih=>simp only[List.map_cons,List.sum_cons,ih]
 |swap c d l=>simp only[List.map_cons,List.sum_cons];omega
 |trans _ _ i1 i2=>rw[i1,i2]
def arcsL (M z:Nat):List Nat:=(List.range' 1 M).erase z
theorem arcsL_one (M:Nat) (h:1<=M):arcsL M 1=List.range' 2 (M-1):=by
 obtain⟨m,rfl⟩:∃ m,M=m+1:=⟨M - 1,by omega⟩
 unfold arcsL
 rw[List.range'_succ]
 simp
theorem arcs_nodup (M:Nat):(List.range' 1 M).Nodup:=List.nodup_range' ..
theorem arcsL_mem {M z c:Nat}:c∈arcsL M z↔1<=c/\c<=M/\c≠z:=by
 unfold arcsL
 rw[(arcs_nodup M).mem_erase_iff,List.mem_range'_1]
 omega
theorem arcsL_nodup (M z:Nat):(arcsL M z).Nodup:=(arcs_nodup M).erase z
theorem arcs_perm {M z:Nat} (h1:1<=z) (h2:z<=M):(List.range' 1 M).Perm (z::arcsL M z):=List.perm_cons_erase (List.mem_range'_1.2 (by omega))
theorem arcs_alike {R:List (Nat->Int)} {M:Nat} (h:∀ r∈R,sumS M (fun i=>r (i+1))=0) {u v:Nat} (hu1:1<=u) (hu2:u<=M) (hv1:1<=v) (hv2:v<=M):(dZ R (arcsL M u)).natAbs=(dZ R (arcsL M v)).natAbs:=by
 by_cases e:u=v
 · rw[e]
 · have pu:(arcsL M u).Perm (v::(arcsL M u).erase v):=List.perm_cons_erase (arcsL_mem.2 ⟨hv1,hv2,fun q=>e q.symm⟩)
   have pv:(arcsL M v).Perm (u::(arcsL M u).erase v):=by
    rw[List.perm_ext_iff_of_nodup (arcsL_nodup M v) (List.nodup_cons.2 ⟨fun q=>(arcsL_mem.1 (List.mem_of_mem_erase q)).2.2 rfl,(arcsL_nodup M u).erase v⟩)]
    intro c
    rw[List.mem_cons,(arcsL_nodup M u).mem_erase_iff,arcsL_mem,arcsL_mem]
    constructor
    · rintro⟨a1,a2,a3⟩
      by_cases q:c=u
      · exact Or.inl q
      · exact Or.inr ⟨a3,a1,a2,q⟩
    · rintro(q|⟨a1,a2,a3,a4⟩)
      · rw[q];exact⟨hu1,hu2,e⟩
      · exact⟨a2,a3,a1⟩
   rw[dZ_perm R pu,dZ_perm R pv]
   refine(dZ_any fun r hr=>?_).symm
   have h0:=h r hr
   rw[<-range_sum,perm_sum r (arcs_perm hu1 hu2),List.map_cons,List.sum_cons,perm_sum r pu,List.map_cons,List.sum_cons]at h0
   omega
section
variable {C:List Cr} {loops:Int} (hm:mayD C loops=true)
include hm
theorem sd_sum {k:Nat} (hk:k<C.length) (q:Nat->Int):sumS (2*C.length) (fun i=>sdR C k q (i+1))=q 0+q 1+q 2+q 3:=by
 have one:∀ s,s<4->∀ x:Int,sumS (2*C.length) (fun i=>x*(if aAt C k s=i+1 then 1 else 0))=x:=fun s hs x=>by
  have r:=en_side hm k s hk hs
  rw[sumS_mulL,sumS_congr (g:=fun i=>if i+1=aAt C k s then(1:Int) else 0) (fun i _=>if_flip _ _),sumS_at _ _ r.2.2.1 r.2.2.2 (fun _=>1)]
  omega
 unfold sdR
 rw[sumS_add,sumS_add,sumS_add,one 0 (by omega),one 1 (by omega),one 2 (by omega),one 3 (by omega)]
theorem rowsA_sum (t:Int):∀ r∈rowsA C t,sumS (2*C.length) (fun i=>r (i+1))=0:=fun r hr=>by
 rcases List.mem_append.1 hr with h|h
 · obtain⟨k,hk,rfl⟩:=List.mem_map.1 h
   exact sd_sum hm (List.mem_range.1 hk) qE
 · obtain⟨k,hk,rfl⟩:=List.mem_map.1 h
   have hk:=List.mem_range.1 hk
   exact(sd_sum hm (by omega) _).trans (qR_sum t _)
end
theorem eA_df (C:List Cr) (k a:Nat):eA C k a=dfR ((C.getD k Cr.none).b.toNat,(C.getD k Cr.none).d.toNat) a:=by
 show(0:Int)*_+1*(if aAt C k 1=a then 1 else 0)+0*_ + -1*(if aAt C k 3=a then 1 else 0)=(if a=aAt C k 1 then 1 else 0)-(if a=aAt C k 3 then 1 else 0)
 rw[if_flip (aAt C k 1) a,if_flip (aAt C k 3) a]
 omega
def alV (C:List Cr) (t:Int) (k j:Nat):Int:=(alF C k j).1+t*(alF C k j).2
theorem alV_at (C:List Cr) (t:Int) (k j:Nat):alV C t k j=qR t (C.getD k Cr.none) 0*(if j=ovM C (aAt C k 0) then 1 else 0)+qR t (C.getD k Cr.none) 1*(if j=ovM C (aAt C k 1) then 1 else 0)+qR t (C.getD k Cr.none) 2*(if j=ovM C (aAt C k 2) then 1 else 0):=by
 unfold alV alF rowF addFa zeroF outC' inC
 show _=(if(C.getD k Cr.none).plus=true then -t else 1)*(if j=ovM C (C.getD k Cr.none).a.toNat then 1 else 0)+(t-1)*(if j=ovM C (C.getD k Cr.none).b.toNat then 1 else 0)+(if(C.getD k Cr.none).plus=true then 1 else -t)*(if j=ovM C (C.getD k Cr.none).c.toNat then 1 else 0)
 cases (C.getD k Cr.none).plus
 · simp only[Bool.false_eq_true,if_false]
   repeat' split
   all_goals(try simp only)
   all_goals omega
 · simp only[if_true]
   repeat' split
   all_goals(try simp only)
   all_goals omega
end Go.Proofs.Ytgagenmkpmmpfaa
/- The walk of alex.minor. -/
namespace Go.Proofs.Ytgagenmkpmmpfaa
open Go.RowKit
set_option maxHeartbeats 8000000
set_option maxRecDepth 100000
structure TblRd (w:World) (B n m gt:Nat) (gs:Nat->Nat) (vals:Nat->Nat->Value) (G:Nat->Nat->Int×Int):Prop where
 lt:gt<B
 cell:∀ i,i<n->w.cell? ⟨gt,i,none⟩=some (.slice (some ⟨gs i,0,none⟩) m m)
 low:∀ i,i<n->gs i<B
 row:∀ i,i<n->∀ j,j<m->w.cell? ⟨gs i,j,none⟩=some (vals i j)
 each:∀ i,i<n->∀ j,j<m->Poly.Poly w B (vals i j) (aPol (G i j).1 (G i j).2)
theorem TblAt.rd {B n m gt:Nat} {gs:Nat->Nat} {vals:Nat->Nat->Value} {G:Nat->Nat->Int×Int} {w:World} (h:TblAt B n m gt n gs vals G w):TblRd w w.heap.size n m gt gs vals G:=by
 refine⟨(h.outer.lt gt rfl).2,fun i hi=>?_,fun i hi=>((h.each i hi).row.lt (gs i) rfl).2,fun i hi j hj=>?_,fun i hi j hj=>Poly.Poly.ofRow ((h.each i hi).each j hj)⟩
 · have:=h.outer.cellAt i (by omega)
   rw[valsL_get _ _ _ hi,if_pos hi]at this
   exact this
 · have:=(h.each i hi).row.cellAt j (by omega)
   rw[valsL_get _ _ _ hj]at this
   exact this
theorem TblRd.on {w w':World} {B n m gt:Nat} {gs:Nat->Nat} {vals:Nat->Nat->Value} {G:Nat->Nat->Int×Int} (h:TblRd w B n m gt gs vals G) (hb:Below B w w'):TblRd w' B n m gt gs vals G:=
 ⟨h.lt,fun i hi=>bcell hb h.lt (h.cell i hi),h.low,fun i hi j hj=>bcell hb (h.low i hi) (h.row i hi j hj),fun i hi j hj=>(h.each i hi j hj).on hb⟩
theorem TblRd.mono {w:World} {B B' n m gt:Nat} {gs:Nat->Nat} {vals:Nat->Nat->Value} {G:Nat->Nat->Int×Int} (h:TblRd w B n m gt gs vals G) (hB:B<=B'):TblRd w B' n m gt gs vals G:=
 ⟨Nat.lt_of_lt_of_le h.lt hB,h.cell,fun i hi=>Nat.lt_of_lt_of_le (h.low i hi) hB,h.row,fun i hi j hj=>(h.each i hi j hj).mono hB⟩
def cutV (gs:Nat->Nat) (k s m:Nat) (i:Nat):Value:=if i<k then .slice (some ⟨gs i,0,none⟩) s m else .slice none 0 0
theorem cut_table {w : World} {n m gt g B : Nat} {gs : Nat → Nat} {vals : Nat → Nat → Value} {C : List Cr} {s : Nat} (h : TblRd w w.heap.size n m gt gs vals (alF C)) (hs : s ≤ n) (hsm : s ≤ m)
    (ho:w.ownsRow B 116 1 (.slice (some ⟨g,0,none⟩) s s) s (valsL s (cutV gs s s m))):Poly.Table w w.heap.size (.slice (some ⟨g,0,none⟩) s s) (alT C s):=by
 refine⟨valsL s (cutV gs s s m),by rw[valsL_len,alT_len],⟨some ⟨g,0,none⟩,s,by rw[valsL_len],fun _=>⟨g,0,rfl,(ho.lt g rfl).2,fun i hi=>?_⟩⟩,fun i hi=>?_⟩
 · rw[valsL_len]at hi
   have:=ho.cellAt i (by omega)
   rw[valsL_get _ _ _ hi]at this
   rw[Nat.zero_add,this,List.getD_eq_getElem?_getD,valsL_get _ _ _ hi]
   rfl
 · rw[alT_len]at hi
   have e:(valsL s (cutV gs s s m)).getD i (.bool false)=.slice (some ⟨gs i,0,none⟩) s m:=by
    rw[List.getD_eq_getElem?_getD,valsL_get _ _ _ hi]
    show cutV gs s s m i=_
    unfold cutV
    rw[if_pos hi]
   rw[e,alT_at C s i hi]
   refine⟨valsL s (vals i),by rw[valsL_len,alR_len],⟨some ⟨gs i,0,none⟩,m,by rw[valsL_len],fun _=>⟨gs i,0,rfl,h.low i (by omega),fun j hj=>?_⟩⟩,fun j hj=>?_⟩
   · rw[valsL_len]at hj
     rw[Nat.zero_add,h.row i (by omega) j (by omega),List.getD_eq_getElem?_getD,valsL_get _ _ _ hj]
     rfl
   · rw[alR_len]at hj
     rw[alR_at C s i j hj,List.getD_eq_getElem?_getD,valsL_get _ _ _ hj]
     exact h.each i (by omega) j (by omega)
theorem minor_any (C : List Cr) (gt n m : Nat) (gs : Nat → Nat) (vals : Nat → Nat → Value) (w : World) (h0 : 0 < n) (h10 : n ≤ 10) (hm0 : 0 < m) (hm21 : m ≤ 21) (hT : TblRd w w.heap.size n m gt gs vals (alF C)) :
    Calls Try.prog 38 #[.slice (some ⟨gt,0,none⟩) n n] w fun e w'=>∃ v l,e=.returned v/\Poly.Poly w' w'.heap.size v l/\(n<m-1->l=[])/\(m-1<=n->Poly.Canon l (Poly.detOf (alT C (m-1))))/\Below w.heap.size w w':=by
 obtain⟨i1,hj,hy0,hy1,hy2⟩:=info_parts infoTermss
 obtain⟨s,rfl⟩:∃ s,m=s+1:=⟨m - 1,by omega⟩
 have HT:Hid (TblRd w w.heap.size n (s+1) gt gs vals (alF C)):=hT
 have c0:=hT.cell 0 h0
 have hgt:=hT.lt
 clear hT
 rw[Nat.add_sub_cancel]
 by_cases hsn:n<s
 · go_enter Try.func38,Try.ntmps38
   go_wp2
   go_ret
   exact⟨_,[],rfl,Or.inl ⟨rfl,rfl⟩,fun _=>rfl,fun h=>absurd hsn (by omega),Below.refl _ _⟩
 · go_enter Try.func38,Try.ntmps38
   go_wp2_with (first|(at_make;refine wpList_make_full _ rfl _ _ 91 rfl w.heap.size 116 i1 (.slice none 0 0) 1 Try.underlying91 hj hy0 hy1 .i64 .i64 _ _ s (by go_num) (by go_num) rfl rfl (by rw[hy2];omega) (by unfold maxLen;omega) (by omega) ?_;intro w2 hrow hg2;refine Hid.out ?_))
   refine Lib.hid ?_
   rw[made_nilsV]at hrow
   obtain⟨g,hg⟩:∃ g,w.heap.size=g:=⟨_,rfl⟩
   have HG:Hid (w.heap.size=g):=hg
   have HR0 : Hid (w2.ownsRow w.heap.size 116 1 (.slice (some ⟨g, 0, none⟩) s s) s (valsL s (cutV gs 0 s (s + 1)))) := (by
    rw[<-hg]
    exact hrow:w2.ownsRow w.heap.size 116 1 (.slice (some ⟨g,0,none⟩) s s) s (valsL s (cutV gs 0 s (s+1))))
   have HB2:Hid (Below w.heap.size w w2):=(Below.refl _ _).grown hg2 (Nat.le_refl _) (fun q hq=>by cases hq)
   rw[hg]
   clear hrow hg2 hg c0
   go_wp2
   go_loopw [19] (fun v19 wr=>∃ k:Nat,k<=s/\v19=.int .i64 (k:Nat)/\Hid (wr.ownsRow w.heap.size 116 1 (.slice (some ⟨g,0,none⟩) s s) s (valsL s (cutV gs k s (s+1)))/\Below w.heap.size w wr)) (fun v19 _=>s-(intOf v19).toNat)
   case atStart=>exact⟨0,Nat.zero_le _,rfl,HR0.out,HB2.out⟩
   case round=>
    clear HR0 HB2
    rename World=>W3
    obtain⟨k,hks,rfl,hp⟩:=hrel
    by_cases hkl:k<s
    · have c1:W3.cell? ⟨gt,k,none⟩=some (.slice (some ⟨gs k,0,none⟩) (s+1) (s+1)):=bcell hp.out.2 hgt (HT.out.cell k (by omega))
      have hgb:=(hp.out.1.lt g rfl).2
      have c2:W3.cell? ⟨g,k,none⟩=some (.slice none 0 0):=by
       have:=hp.out.1.cellAt k (by omega)
       rw[valsL_get _ _ _ hkl]at this
       simpa[cutV] using this
      have HST:Hid (W3.ownsRow w.heap.size 116 1 (.slice (some ⟨g,0,none⟩) s s) s (valsL s (cutV gs k s (s+1)))):=hp.out.1
      have HBB:Hid (Below w.heap.size w W3):=hp.out.2
      have z3:W3.frozen? ⟨g,k,none⟩=false:=hp.out.1.frozenAt k
      have hst:=hp.out.1.stored k (.slice (some ⟨gs k,0,none⟩) s (s+1))
      have HN : Hid ((W3.setCell ⟨g, k, none⟩ (.slice (some ⟨gs k, 0, none⟩) s (s + 1))).ownsRow w.heap.size 116 1 (.slice (some ⟨g, 0, none⟩) s s) s (valsL s (cutV gs (k + 1) s (s + 1))) ∧ Below w.heap.size w (W3.setCell ⟨g, k, none⟩ (.slice (some ⟨gs k, 0, none⟩) s (s + 1)))) := (by
       refine⟨?_,hp.out.2.grown hst.2 hp.out.2.size (fun q hq=>by have:=Option.some.inj hq;have:=(hp.out.1.lt g rfl).1;omega)⟩
       rw [← valsL_set s (cutV gs k s (s + 1)) _ k (.slice (some ⟨gs k, 0, none⟩) s (s + 1)) fun j _ => by
        unfold cutV
        by_cases e:j=k
        · rw[if_pos e,if_pos (by omega),e]
        · rw[if_neg e]
          by_cases h2:j<k
          · rw[if_pos h2,if_pos (by omega)]
          · rw[if_neg h2,if_neg (by omega)]]
       exact hst.1:(W3.setCell ⟨g,k,none⟩ (.slice (some ⟨gs k,0,none⟩) s (s+1))).ownsRow w.heap.size 116 1 (.slice (some ⟨g,0,none⟩) s s) s (valsL s (cutV gs (k+1) s (s+1)))/\Below w.heap.size w (W3.setCell ⟨g,k,none⟩ (.slice (some ⟨gs k,0,none⟩) s (s+1))))
      clear hp hst
      go_wp2
      go_roundw
      case rel=>exact⟨k+1,by omega,by go_num,HN.out⟩
      case measure=>simp only[intOf];omega
    · obtain rfl:k=s:=by omega
      have HTA:Hid (TblRd W3 W3.heap.size n (k+1) gt gs vals (alF C)):=(HT.out.on hp.out.2).mono hp.out.2.size
      have HTT:Hid (Poly.Table W3 W3.heap.size (.slice (some ⟨g,0,none⟩) k k) (alT C k)):=cut_table HTA.out (by omega) (by omega) hp.out.1
      have HBB:Hid (Below w.heap.size w W3):=hp.out.2
      clear hp
      go_wp2_with (go_at_call 56;refine(Poly.determinant_any _ (alT C k) k _ (by omega) (al_good C k) HTT.out).mono ?_;rintro r w4 ⟨bm,D,rfl,hbm,hom,hcm,hkm,hb4⟩;refine Hid.out ?_)
      refine Lib.hid ?_
      have HCM:Hid (∀ y,Poly.coefOf D y=Poly.detOf (alT C k) y):=hcm
      have HLN:Hid (∀ left acc,Poly.Coll D left acc->acc.length<=1000000):=fun left acc hC=>Nat.le_trans (Poly.coll_len hC (1000*k) (by rw[Int.natCast_mul];exact hkm)) (by omega)
      have HB4:Hid (Below w.heap.size w w4):=HBB.out.trans (hb4.mono HBB.out.size)
      clear hcm hkm hb4 hbm
      go_wp2_with (go_at_call 57;refine(Poly.terms34k bm _ D _ hom HLN.out).mono ?_;rintro r w5 ⟨vr,lr,rfl,hrow5,hcan5,hb5⟩)
      go_ret
      exact⟨vr,lr,rfl,Poly.Poly.ofRow hrow5,fun h=>absurd h (by omega),fun _=>Poly.canon_congr hcan5 HCM.out,HB4.out.trans (hb5.mono HB4.out.size)⟩
end Go.Proofs.Ytgagenmkpmmpfaa
/- The walk of ref.TableOf. -/
namespace Go.Proofs.Ytgagenmkpmmpfaa
open Go.RowKit
theorem TbP.any {B m k:Nat} {v:Value} {gs:Nat->Nat} {vals:Nat->Nat->Value} {G:Nat->Nat->Int×Int} {w w':World} (h:w.ownsRow B 116 1 v k (valsL k fun i=>.slice (some ⟨gs i,0,none⟩) m m)/\∀ i,i<k->PlcAt B m (gs i) (vals i) (G i) w) (hg:w.grownBy w' none):w'.ownsRow B 116 1 v k (valsL k fun i=>.slice (some ⟨gs i,0,none⟩) m m)/\∀ i,i<k->PlcAt B m (gs i) (vals i) (G i) w':=⟨own_any h.1 hg,fun i hi=>(h.2 i hi).any hg⟩
structure TbP (B m k:Nat) (v:Value) (gs:Nat->Nat) (vals:Nat->Nat->Value) (G:Nat->Nat->Int×Int) (wr:World):Prop where
 outer:wr.ownsRow B 116 1 v k (valsL k fun i=>.slice (some ⟨gs i,0,none⟩) m m)
 each:∀ i,i<k->PlcAt B m (gs i) (vals i) (G i) wr
theorem TbP.more {B m k g : Nat} {v v' : Value} {gs : Nat → Nat} {vals : Nat → Nat → Value} {vs : Nat → Value} {G : Nat → Nat → Int × Int} {W W' : World} (h : TbP B m k v gs vals G W) (hr : PlcAt B m g vs (G k) W)
    (hg:W.grownBy W' v.ownBlock) (ho:W'.ownsRow B 116 1 v' (k+1) (valsL k (fun i=>.slice (some ⟨gs i,0,none⟩) m m)++[.slice (some ⟨g,0,none⟩) m m])):TbP B m (k+1) v' (fun i=>if i=k then g else gs i) (fun i=>if i=k then vs else vals i) G W':=by
 refine⟨?_,fun i hi=>?_⟩
 · have e : valsL (k + 1) (fun i => .slice (some ⟨if i = k then g else gs i, 0, none⟩) m m) = valsL k (fun i => .slice (some ⟨gs i, 0, none⟩) m m) ++ [.slice (some ⟨g, 0, none⟩) m m] := by
     unfold valsL
     rw[List.range_succ,List.map_append]
     congr 1
     · refine List.map_congr_left fun i hi=>?_
       have h:i≠k:=by have:=List.mem_range.1 hi;omega
       simp[h]
     · simp
   rw[e]
   exact ho
 · have one:∀ {g:Nat} {vs:Nat->Value} {F:Nat->Int×Int},PlcAt B m g vs F W->PlcAt B m g vs F W':=fun hq=>⟨hq.row.kept hg (own_ne hq.row h.outer (by decide)),fun j hj=>(hq.each j hj).kept hg (own_ne (hq.each j hj) h.outer (by decide))⟩
   by_cases e:i=k
   · rw[if_pos e,if_pos e,e]
     exact one hr
   · rw[if_neg e,if_neg e]
     exact one (h.each i (by omega))
structure TbSt (w3:World) (h4 k m:Nat) (v:Value) (gs:Nat->Nat) (vals:Nat->Nat->Value) (G:Nat->Nat->Int×Int) (bc:Array Value) (F:Nat->Int×Int) (X:World):Prop where
 plc:∃ vs,PlcAt w3.heap.size m (h4+1) vs F X
 box:X.heap[h4]?=some (.cells bc 78 (0,0))
 tab:TbP w3.heap.size m k v gs vals G X
 bel:Below w3.heap.size w3 X
 old:∀ i,i<k->gs i<h4
 big:w3.heap.size<=h4
theorem TbSt.on {w3:World} {h4 k m:Nat} {v:Value} {gs:Nat->Nat} {vals:Nat->Nat->Value} {G:Nat->Nat->Int×Int} {bc:Array Value} {F:Nat->Int×Int} {X Y:World} (h:TbSt w3 h4 k m v gs vals G bc F X) (hb:Below X.heap.size X Y):TbSt w3 h4 k m v gs vals G bc F Y:=by
 obtain⟨vs,hp⟩:=h.plc
 have hg:=grown_below hb none
 exact⟨⟨vs,hp.any hg⟩,(hb.block _ (Array.getElem?_eq_some_iff.1 h.box).1).trans h.box,⟨own_any h.tab.outer hg,fun i hi=>(h.tab.each i hi).any hg⟩,h.bel.trans (hb.mono h.bel.size),h.old,h.big⟩
theorem TbSt.set {w3 : World} {h4 k m : Nat} {v : Value} {gs : Nat → Nat} {vals : Nat → Nat → Value} {G : Nat → Nat → Int × Int} {bc : Array Value} {F : Nat → Int × Int} {X Y : World} (h : TbSt w3 h4 k m v gs vals G bc F X) (hb : Below X.heap.size X Y) (p : Nat) (dx dy : Int) (u : Value)
    (hv:Y.ownsRow X.heap.size 95 2 u (aPol ((F p).1+dx) ((F p).2+dy)).length (Poly.flat (aPol ((F p).1+dx) ((F p).2+dy)))):TbSt w3 h4 k m v gs vals G bc (addFa F p dx dy) (Y.setCell ⟨h4+1,p,none⟩ u):=by
 have h1:=h.on hb
 obtain⟨vs,hp⟩:=h.plc
 have hpY:=hp.any (grown_below hb none)
 have hg:=(hpY.row.stored p u).2
 have hbig:=h.big
 refine⟨⟨_,hp.set hb h.bel.size p dx dy u hv⟩,(hg.block _ (Array.getElem?_eq_some_iff.1 h1.box).1 (fun e=>by have:=Option.some.inj e;omega)).trans h1.box,⟨h1.tab.outer.kept hg (own_ne h1.tab.outer hpY.row (by decide)),fun i hi=>?_⟩,h1.bel.grown hg h1.bel.size (fun q hq=>by have:=Option.some.inj hq;omega),h.old,h.big⟩
 have hi2:=h.old i hi
 have hq:=h1.tab.each i hi
 exact⟨hq.row.kept hg (Or.inr (fun e=>by have e2:gs i=h4+1:=Option.some.inj e;omega)),fun j hj=>(hq.each j hj).kept hg (own_ne (hq.each j hj) hpY.row (by decide))⟩
end Go.Proofs.Ytgagenmkpmmpfaa
/- The law AlexTables: its walk, the rings of FaceRings being given. -/
namespace Go.Proofs.Ytgagenmkpmmpfaa
open Go.RowKit
theorem addOk:AddOk:=fun v1 v2 l1 l2 w h1 h2 h3 h4=>Poly.add_yes v1 v2 l1 l2 w h1 h2 h3 h4
end Go.Proofs.Ytgagenmkpmmpfaa
/- Alexander's polynomial as mathematics; the walks of alex.Alexander and alex.Determinant. -/
namespace Go.Proofs.Ytgagenmkpmmpfaa
open Go.RowKit
set_option maxHeartbeats 8000000
set_option maxRecDepth 100000
theorem unit_at (l:List (Int×Int)) (i:Nat) (hi:i<l.length):(Poly.unitL l).getD i (0,0)=((l.getD i (0,0)).1-(l.getD 0 (0,0)).1,if(l.getD 0 (0,0)).2<0 then -(l.getD i (0,0)).2 else(l.getD i (0,0)).2):=by
 have g:l.getD i (0,0)=l[i]:=by simp[List.getD_eq_getElem?_getD,hi]
 have e:(Poly.unitL l).getD i (0,0)=(l[i].1-(l.getD 0 (0,0)).1,if(l.getD 0 (0,0)).2<0 then -l[i].2 else l[i].2):=by simp[Poly.unitL,List.getD_eq_getElem?_getD,hi]
 rw[e,g]
theorem unit_len (l:List (Int×Int)):(Poly.unitL l).length=l.length:=by simp[Poly.unitL]
theorem unit_may {l:List (Int×Int)} (hm:Poly.mayB l=true) (h:∀ t∈l,0<=t.1/\t.1<=10):Poly.mayB (Poly.unitL l)=true:=by
 have h1:=(Poly.may_iff l).1 hm
 refine(Poly.may_iff _).2 ⟨by rw[unit_len];exact h1.1,fun i hi=>?_⟩
 rw[unit_len]at hi
 have h2:=(Poly.okB_iff l i).1 (h1.2 i hi)
 obtain⟨q1,q2,q3,q4,q5,q6⟩:=h2
 have e0:=h _ (Poly.getD_mem l 0 (0,0) (by omega))
 have ei:=h _ (Poly.getD_mem l i (0,0) hi)
 rw[Poly.okB_iff,unit_at l i hi]
 simp only
 refine⟨by omega,by omega,?_,?_,?_,fun h0=>?_⟩
 · split<;>omega
 · split<;>omega
 · split<;>omega
 · rw[unit_at l (i-1) (by omega)]
   have:=q6 h0
   simp only
   omega
def IsAlex (C:List Cr) (loops:Int) (l:List (Int×Int)):Prop:=
 if C.length=0/\loops=1 then l=[(0,1)] else if C.length=0∨0<loops∨C.length<ovC C-1 then l=[] else ∃ l0,Poly.Canon l0 (Poly.detOf (alT C (ovC C-1)))/\l=Poly.unitL l0
theorem IsAlex.one {C:List Cr} {loops:Int} {l l':List (Int×Int)} (h:IsAlex C loops l) (h':IsAlex C loops l'):l=l':=by
 unfold IsAlex at h h'
 split at h
 · rename_i q
   rw[if_pos q]at h'
   rw[h,h']
 · rename_i q
   rw[if_neg q]at h'
   split at h
   · rename_i q2
     rw[if_pos q2]at h'
     rw[h,h']
   · rename_i q2
     rw[if_neg q2]at h'
     obtain⟨l0,c0,rfl⟩:=h
     obtain⟨l1,c1,rfl⟩:=h'
     rw[Poly.canon_unique c0 c1]
theorem IsAlex.may {C:List Cr} {loops:Int} {l:List (Int×Int)} (hm:mayD C loops=true) (h10:C.length<=10) (h:IsAlex C loops l):Poly.mayB l=true:=by
 unfold IsAlex at h
 split at h
 · rw[h];decide
 · split at h
   · rw[h];decide
   · rename_i q1 q2
     obtain⟨l0,c0,rfl⟩:=h
     have hS:=al_slim C (ovC C-1)
     refine unit_may (al_det hm (by omega) h10 (by omega) c0) fun t ht=>?_
     obtain⟨e,hc⟩:=(c0.2 t.1 t.2).1 ht
     have:=det_few _ _ hS t.1 (by rw[e];exact hc)
     omega
theorem alexander_yes (hFR : FaceRingsOk) (v : Value) (C : List Cr) (loops : Int) (w : World) (hn : noN C loops = 0) (h10 : C.length ≤ 10) (h : Crs w w.heap.size v C) :
    Calls Try.prog 19 #[.agg #[v,.int .i64 loops]] w fun e w'=>∃ v l,e=.returned (.tuple #[v,.int .i64 0])/\Poly.Poly w' w'.heap.size v l/\IsAlex C loops l/\Below w.heap.size w w':=by
 have HC:Hid (Crs w w.heap.size v C):=h
 have hmd:=(noN_zero hn).1
 have hsz:sizeB C loops=true:=by
  have:=hmd
  unfold mayD at this
  exact(Bool.and_eq_true_iff.1 this).1
 obtain⟨hs1,hs2,hs3,hs4⟩:=sizeB_iff hsz
 have HM:Hid (mayD C loops=true):=hmd
 obtain⟨a,cap,rfl,-,-⟩:=h
 have HF:Hid (∀ W,Crs W W.heap.size (.slice a C.length cap) C->Calls Try.prog 36 #[.agg #[.slice a C.length cap,.int .i64 loops]] W fun e w'=>∃ gt,e=.returned (.tuple #[.slice (some ⟨gt,0,none⟩) C.length C.length,.int .i64 0])/\(∃ gs vals,TblAt W.heap.size C.length (ovC C) gt C.length gs vals (alF C) w')/\Below W.heap.size W w'):=fun W hW=>table_yes hFR addOk _ C loops W hn h10 hW
 have hov:ovC C<=21:=Nat.le_trans (rootsN_le _ _) (by omega)
 have hov2:=ovC_ge C
 obtain⟨w0,hw0⟩:∃ w0,w0=w.alloc (.cells #[.slice a C.length cap,.int .i64 loops] 29):=⟨_,rfl⟩
 have HW0:Hid (w0=w.alloc (.cells #[.slice a C.length cap,.int .i64 loops] 29)):=hw0
 have HB0:Hid (Below w.heap.size w w0):=(by rw[hw0];exact(Below.refl _ _).alloc (Nat.le_refl _) _:Below w.heap.size w w0)
 have HT0:Hid (w0.heap[w.heap.size]?=some (.cells #[.slice a C.length cap,.int .i64 loops] 29 (0,0))):=(by rw[hw0];exact alloc_at rfl:w0.heap[w.heap.size]?=some (.cells #[.slice a C.length cap,.int .i64 loops] 29 (0,0)))
 clear hw0 hn hFR hmd hsz
 go_enter Try.func19,Try.ntmps19
 go_wp2_with (go_at_call 36;rw[<-HW0.out];refine(HF.out _ (HC.out.up HB0.out)).mono ?_;rintro e9 w2 ⟨gt,rfl,hT,hb2⟩;refine Hid.out ?_)
 refine Lib.hid ?_
 have HB2:Hid (Below w.heap.size w w2):=HB0.out.trans (hb2.mono HB0.out.size)
 have q:=(hb2.block _ (Array.getElem?_eq_some_iff.1 HT0.out).1).trans HT0.out
 have t0:w2.cell? ⟨w.heap.size,0,none⟩=some (.slice a C.length cap):=block_cell q rfl
 have t1:w2.cell? ⟨w.heap.size,1,none⟩=some (.int .i64 loops):=block_cell q rfl
 have HTT : Hid (∃ gs vals, TblRd w2 w2.heap.size C.length (ovC C) gt gs vals (alF C)) := (by
  obtain⟨gs,vals,h⟩:=hT
  exact⟨gs,vals,h.rd⟩:∃ gs vals,TblRd w2 w2.heap.size C.length (ovC C) gt gs vals (alF C))
 clear hb2 hT q
 clear HC HF HT0 HW0
 obtain⟨n,hN⟩:∃ n,C.length=n:=⟨_,rfl⟩
 have HN:Hid (C.length=n):=hN
 rw[hN]at hs1 hs4 h10 hov2 HTT t0 ⊢
 clear hN
 by_cases h1:n=0/\loops=1
 · obtain⟨rfl,rfl⟩:=h1
   have HI : Hid (IsAlex C 1 [(0, 1)]) := (by
    unfold IsAlex
    rw[if_pos ⟨HN.out,rfl⟩]:IsAlex C 1 [(0,1)])
   go_wp2
   go_ret2
   have hb:=alloc_at (w:=w2) (o:=.cells #[.int .i64 0,.int .i64 1] 95) rfl
   refine⟨_,rfl,[(0,1)],Or.inr (Or.inr ⟨w2.heap.size,0,1,rfl,(Array.getElem?_eq_some_iff.1 hb).1,fun i hi=>?_⟩),HI.out,HB2.out.alloc HB2.out.size _⟩
   obtain rfl:i=0:=by simpa using hi
   exact⟨block_cell hb rfl,block_cell hb rfl⟩
 · by_cases h2:n=0∨0<loops
   · have HI : Hid (IsAlex C loops []) := (by
       have:=HN.out
       unfold IsAlex
       rw[if_neg (by rw[this];exact h1),if_pos (by rw[this];omega)]:IsAlex C loops [])
     by_cases h3:n=0
     · subst h3
       have h4:loops≠1:=fun e=>h1 ⟨rfl,e⟩
       have h5:(loops==1)=false:=beq_eq_false_iff_ne.2 h4
       go_wp2
       go_ret2
       exact⟨_,rfl,[],Or.inl ⟨rfl,rfl⟩,HI.out,HB2.out⟩
     · have h4:0<loops:=by omega
       have h5:((n:Int)==0)=false:=beq_eq_false_iff_ne.2 (by omega)
       go_wp2
       go_ret2
       exact⟨_,[],rfl,Or.inl ⟨rfl,rfl⟩,HI.out,HB2.out⟩
   · have h3:0<n:=by omega
     obtain rfl:loops=0:=by omega
     have h5:((n:Int)==0)=false:=beq_eq_false_iff_ne.2 (by omega)
     obtain⟨gs,vals,hTR⟩:=HTT.out
     have HTR:Hid (TblRd w2 w2.heap.size n (ovC C) gt gs vals (alF C)):=hTR
     clear hTR HTT
     go_wp2_with (first
      |(go_at_call 38;refine(minor_any C gt n (ovC C) gs vals _ h3 h10 (by omega) hov HTR.out).mono ?_;rintro e9 w3 ⟨vm,lm,rfl,hPm,hm1,hm2,hb3⟩;refine Hid.out ?_))
     refine Lib.hid ?_
     have HB3:Hid (Below w.heap.size w w3):=HB2.out.trans (hb3.mono HB2.out.size)
     have HPm:Hid (Poly.Poly w3 w3.heap.size vm lm):=hPm
     have HMB : Hid (Poly.mayB lm = true) := (by
      by_cases hs:n<ovC C-1
      · rw[hm1 hs];decide
      · exact al_det HM.out (by rw[HN.out];exact h3) (by rw[HN.out];exact h10) (by rw[HN.out];omega) (hm2 (by omega)):Poly.mayB lm=true)
     have HI : Hid (IsAlex C 0 (Poly.unitL lm)) := (by
      have hN:=HN.out
      unfold IsAlex
      rw[if_neg (by rw[hN];omega)]
      by_cases hs:n<ovC C-1
      · rw[if_pos (by rw[hN];omega),hm1 hs];rfl
      · rw[if_neg (by rw[hN];omega)]
        exact⟨lm,hm2 (by omega),rfl⟩:IsAlex C 0 (Poly.unitL lm))
     clear hPm hm1 hm2 hb3
     go_wp2_with (go_at_call 37;refine(Poly.unit_yes vm lm _ HMB.out HPm.out).mono ?_;rintro e9 w4 ⟨vu,rfl,hPu,hb4⟩;refine Hid.out ?_)
     refine Lib.hid ?_
     have HPu:Hid (Poly.Poly w4 w4.heap.size vu (Poly.unitL lm)):=hPu
     have HB4:Hid (Below w.heap.size w w4):=HB3.out.trans (hb4.mono HB3.out.size)
     clear hPu hb4
     go_wp2
     go_ret2
     exact⟨vu,_,rfl,HPu.out,HI.out,HB4.out⟩
theorem alexDet_yes (hFR : FaceRingsOk) (v : Value) (C : List Cr) (loops : Int) (w : World) (hn : noN C loops = 0) (h10 : C.length ≤ 10) (h : Crs w w.heap.size v C) :
    Calls Try.prog 8 #[.agg #[v,.int .i64 loops]] w fun e w'=>∃ l,e=.returned (.tuple #[.int .i64 (max (Poly.atTo l (-1) l.length) (-(Poly.atTo l (-1) l.length))),.int .i64 0])/\IsAlex C loops l/\Below w.heap.size w w':=by
 have HC:Hid (Crs w w.heap.size v C):=h
 have HM:Hid (mayD C loops=true):=(noN_zero hn).1
 obtain⟨a,cap,rfl,-,-⟩:=h
 have HF:Hid (∀ W,Crs W W.heap.size (.slice a C.length cap) C->Calls Try.prog 19 #[.agg #[.slice a C.length cap,.int .i64 loops]] W fun e w'=>∃ v l,e=.returned (.tuple #[v,.int .i64 0])/\Poly.Poly w' w'.heap.size v l/\IsAlex C loops l/\Below W.heap.size W w'):=fun W hW=>alexander_yes hFR _ C loops W hn h10 hW
 have HB1:Hid (Below w.heap.size w (w.alloc (.cells #[.slice a C.length cap,.int .i64 loops] 29))):=(Below.refl _ _).alloc (Nat.le_refl _) _
 clear hFR hn
 go_enter Try.func8,Try.ntmps8
 go_wp2_with (go_at_call 19;refine(HF.out _ (HC.out.up HB1.out)).mono ?_;rintro e9 w2 ⟨va,l,rfl,hP,hI,hb2⟩;refine Hid.out ?_)
 refine Lib.hid ?_
 have HB2:Hid (Below w.heap.size w w2):=HB1.out.trans (hb2.mono HB1.out.size)
 have HP:Hid (Poly.Poly w2 w2.heap.size va l):=hP
 have HI:Hid (IsAlex C loops l):=hI
 have HMB:Hid (Poly.mayB l=true):=hI.may HM.out h10
 have hat:=Poly.atTo_le l (-1) (Or.inr rfl) HMB.out l.length (Nat.le_refl _)
 have hl64:=((Poly.may_iff l).1 HMB.out).1
 have HAT:Hid (∀ W,Poly.Poly W W.heap.size va l->Calls Try.prog 20 #[va,.int .i64 (-1)] W fun e w'=>e=.returned (.tuple #[.int .i64 (Poly.atTo l (-1) l.length),.int .i64 0])/\Below W.heap.size W w'):=fun W hW=>Poly.at_yes va l (-1) W (Or.inr rfl) HMB.out hW
 have HX:Hid (∀ x,Poly.atTo l (-1) l.length=x->∃ l,(.returned (.tuple #[.int .i64 (max x (-x)),.int .i64 0]):Ending)=.returned (.tuple #[.int .i64 (max (Poly.atTo l (-1) l.length) (-(Poly.atTo l (-1) l.length))),.int .i64 0])/\IsAlex C loops l):=fun x hx=>⟨l,by rw[hx],HI.out⟩
 obtain⟨x,hx⟩:∃ x,Poly.atTo l (-1) l.length=x:=⟨_,rfl⟩
 have HX2:Hid (∃ l,(.returned (.tuple #[.int .i64 (max x (-x)),.int .i64 0]):Ending)=.returned (.tuple #[.int .i64 (max (Poly.atTo l (-1) l.length) (-(Poly.atTo l (-1) l.length))),.int .i64 0])/\IsAlex C loops l):=HX.out x hx
 rw[hx]at HAT hat
 clear hx hP hI hb2 HX
 go_wp2_with (go_at_call 20;refine(HAT.out _ HP.out).mono ?_;rintro e9 w3 ⟨rfl,hb3⟩;refine Hid.out ?_)
 refine Lib.hid ?_
 have HB3:Hid (Below w.heap.size w w3):=HB2.out.trans (hb3.mono HB2.out.size)
 clear hb3
 go_wp2
 go_ret2
 obtain⟨l',e',hI'⟩:=HX2.out
 exact⟨l',e',hI',HB3.out⟩
end Go.Proofs.Ytgagenmkpmmpfaa

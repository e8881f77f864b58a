/- The link of a list as a diagram: its arcs by spots; it may be. -/
import Derived.Test.YtgagenmkpmmpfaaTL12P
import Derived.Test.YtgagenmkpmmpfaaCySP
namespace Go.Proofs.Ytgagenmkpmmpfaa
theorem goC_in {n:Nat} {U:Nat->Nat} (hU:Ties n U) {y:Nat} (hy:SpT n y):y∈goC n U n∨acr y∈goC n U n:=by
 have h:=(goC_rest hU n (Nat.le_refl n)).2 (y / 4-1) (by unfold SpT at hy;omega)
 unfold SpT at hy
 unfold acr
 have e:y%4=0∨y%4=1∨y%4=2∨y%4=3:=by omega
 rcases e with e|e|e|e
 · rw[show 4*(y / 4-1)+4=y by omega,show 4*(y / 4-1)+6=4*(y / 4)+(y%4+2)%4 by omega]at h
   exact h.1
 · rw[show 4*(y / 4-1)+5=y by omega,show 4*(y / 4-1)+7=4*(y / 4)+(y%4+2)%4 by omega]at h
   exact h.2
 · rw[show 4*(y / 4-1)+6=y by omega,show 4*(y / 4-1)+4=4*(y / 4)+(y%4+2)%4 by omega]at h
   exact h.1.symm
 · rw[show 4*(y / 4-1)+7=y by omega,show 4*(y / 4-1)+5=4*(y / 4)+(y%4+2)%4 by omega]at h
   exact h.2.symm
theorem goC_or {n:Nat} {U:Nat->Nat} (hU:Ties n U) {y:Nat} (hy:SpT n y):acr y∈goC n U n↔y ∉ goC n U n:=by
 have hR:=(goC_rest hU n (Nat.le_refl n)).1
 constructor
 · intro h1 h2;exact hR.a y h2 h1
 · intro h;exact(goC_in hU hy).resolve_left h
theorem goC_tie {n:Nat} {U:Nat->Nat} (hU:Ties n U) {y:Nat} (hy:SpT n y):U y∈goC n U n↔y ∉ goC n U n:=by
 have hR:=(goC_rest hU n (Nat.le_refl n)).1
 constructor
 · intro h1 h2
   obtain⟨z,hz,e⟩:=hR.d y h2
   have e2:U y=acr z:=by rw[e];exact hU.inv _ (acr_sp (hR.sp z hz))
   rw[e2]at h1
   exact hR.a z hz h1
 · intro h
   have:=hR.b _ ((goC_or hU hy).2 h)
   unfold nxt at this
   rwa [acr_acr]at this
theorem goC_len {n:Nat} {U:Nat->Nat} (hU:Ties n U):(goC n U n).length<=2*n:=by
 have hR:=(goC_rest hU n (Nat.le_refl n)).1
 have h1 := nodup_short (2 * n) ((goC n U n).map fun y => 2 * (y / 4 - 1) + y % 2) (by
  refine List.pairwise_map.2 (hR.nd.imp_of_mem fun {a b} ha hb hne e=>hne ?_)
  have e:2*(a / 4-1)+a%2=2*(b / 4-1)+b%2:=e
  have sa:=hR.sp a ha
  have sb:=hR.sp b hb
  have na:=hR.a a ha
  unfold SpT at sa sb
  rcases Classical.em (a=b) with q|q
  · exact q
  · have:b=acr a:=by unfold acr;omega
    rw[this]at hb
    exact absurd hb na) (fun y hy=>by
  obtain⟨z,hz,rfl⟩:=List.mem_map.1 hy
  have:=hR.sp z hz
  unfold SpT at this
  show 2*(z / 4-1)+z%2<2*n
  omega)
 rwa [List.length_map]at h1
theorem FL_at {n:Nat} {U:Nat->Nat} (hU:Ties n U) {y:Nat} (hy:SpT n y):FL U (goC n U n) y=(((goC n U n).idxOf (if y∈goC n U n then y else U y):Nat):Int)+1:=by
 unfold FL
 by_cases h:y∈goC n U n
 · rw[if_pos h,if_pos h]
 · rw[if_neg h,if_neg h,if_pos ((goC_tie hU hy).2 h)]
theorem FL_bd {n:Nat} {U:Nat->Nat} (hU:Ties n U) {y:Nat} (hy:SpT n y):1<=FL U (goC n U n) y/\FL U (goC n U n) y<=((2*n:Nat):Int):=by
 have hl:=goC_len hU
 have hm:(if y∈goC n U n then y else U y)∈goC n U n:=by
  split
  · assumption
  · exact(goC_tie hU hy).2 ‹_›
 have:=List.idxOf_lt_length_iff.2 hm
 rw[FL_at hU hy]
 omega
theorem idx_one {L:List Nat} {x y:Nat} (hx:x∈L) (hy:y∈L) (e:L.idxOf x=L.idxOf y):x=y:=by
 have h1:=List.getElem_idxOf (List.idxOf_lt_length_iff.2 hx)
 have h2:=List.getElem_idxOf (List.idxOf_lt_length_iff.2 hy)
 rw[<-h1,<-h2]
 congr 1
theorem FL_one {n:Nat} {U:Nat->Nat} (hU:Ties n U) {x y:Nat} (hx:SpT n x) (hy:SpT n y):FL U (goC n U n) x=FL U (goC n U n) y↔x=y∨x=U y:=by
 have hm:∀ y,SpT n y->(if y∈goC n U n then y else U y)∈goC n U n:=fun y hy=>by
  split
  · assumption
  · exact(goC_tie hU hy).2 ‹_›
 constructor
 · intro h
   rw[FL_at hU hx,FL_at hU hy]at h
   have e:(if x∈goC n U n then x else U x)=(if y∈goC n U n then y else U y):=idx_one (hm x hx) (hm y hy) (by omega)
   by_cases h1:x∈goC n U n<;>by_cases h2:y∈goC n U n
   · rw[if_pos h1,if_pos h2]at e;exact Or.inl e
   · rw[if_pos h1,if_neg h2]at e;exact Or.inr e
   · rw[if_neg h1,if_pos h2]at e;exact Or.inr (by rw[<-e,hU.inv x hx])
   · rw[if_neg h1,if_neg h2]at e;exact Or.inl (hU.inj hx hy e)
 · rintro(rfl|rfl)
   · rfl
   · rw[FL_at hU hx,FL_at hU hy]
     by_cases h2:y∈goC n U n
     · have h3:U y ∉ goC n U n:=fun h=>((goC_tie hU hy).1 h) h2
       rw[if_pos h2,if_neg h3,hU.inv y hy]
     · rw[if_neg h2,if_pos ((goC_tie hU hy).2 h2)]
def lkB (n:Nat) (U:Nat->Nat) (c:Nat):Nat:=if 4*c+6∈goC n U n then 2 else 0
def lkS (n:Nat) (U:Nat->Nat) (c s:Nat):Nat:=4*c+4+(s+lkB n U c)%4
theorem lkB_two (n:Nat) (U:Nat->Nat) (c:Nat):lkB n U c=0∨lkB n U c=2:=by unfold lkB;split<;>simp
theorem lkS_sp {n:Nat} {U:Nat->Nat} {c s:Nat} (hc:c<n):SpT n (lkS n U c s):=by unfold SpT lkS;omega
theorem lkC_len (n:Nat) (U:Nat->Nat):(lkC n U).length=n:=by simp[lkC]
theorem lk_side {n:Nat} {U:Nat->Nat} (hU:Ties n U) {c s:Nat} (hc:c<n) (hs:s<4):((lkC n U).getD c Cr.none).arc s=FL U (goC n U n) (lkS n U c s)/\((lkC n U).getD c Cr.none).comes s=decide (lkS n U c s∈goC n U n):=by
 have hX:(lkC n U).getD c Cr.none=lkX U (goC n U n) c:=by simp[lkC,List.getD,hc]
 have o1:=goC_or hU (y:=4*c+4) (by unfold SpT;omega)
 have o2:=goC_or hU (y:=4*c+5) (by unfold SpT;omega)
 rw[show acr (4*c+4)=4*c+6 by unfold acr;omega]at o1
 rw[show acr (4*c+5)=4*c+7 by unfold acr;omega]at o2
 rw[hX]
 unfold lkX lkS lkB dBt turn
 have e:s=0∨s=1∨s=2∨s=3:=by omega
 by_cases h1:4*c+4∈goC n U n<;>by_cases h2:4*c+5∈goC n U n<;>simp only[h1,h2,not_true,not_false_iff,iff_true,iff_false]at o1 o2<;>rcases e with rfl|rfl|rfl|rfl<;>simp[Cr.arc,Cr.comes,h1,h2,o1,o2,show 4*c+4+1=4*c+5 by omega,show 4*c+4+2=4*c+6 by omega,show 4*c+4+3=4*c+7 by omega]
theorem lk_may {n:Nat} {U:Nat->Nat} (hU:Ties n U) {loops:Int} (hs:sizeB (lkC n U) loops=true):mayD (lkC n U) loops=true:=by
 refine may_inj hs (fun k s hk hs=>?_) fun i k j t hi hk hj ht ha hc=>?_
 · rw[lkC_len]at hk
   rw[(lk_side hU hk hs).1,lkC_len]
   have:=FL_bd hU (lkS_sp (n:=n) (U:=U) (c:=k) (s:=s) hk)
   omega
 · rw[lkC_len]at hi hj
   obtain⟨a1,a2⟩:=lk_side hU hi hk
   obtain⟨b1,b2⟩:=lk_side hU hj ht
   rw[a1,b1]at ha
   rw[a2,b2]at hc
   have key:lkS n U i k=lkS n U j t:=by
    rcases(FL_one hU (lkS_sp hi) (lkS_sp hj)).1 ha.symm with e|e
    · exact e
    · exfalso
      have h1:=goC_tie hU (lkS_sp (n:=n) (U:=U) (c:=j) (s:=t) hj)
      rw[<-e]at h1
      by_cases q:lkS n U j t∈goC n U n
      · have h2:=h1.1
        simp[q]at hc
        exact h2 hc q
      · have h2:=h1.2 q
        simp[q]at hc
        exact hc h2
   unfold lkS at key
   have b0:=lkB_two n U i
   have b1:=lkB_two n U j
   have e:i=j:=by omega
   subst e
   exact⟨rfl,by omega⟩
end Go.Proofs.Ytgagenmkpmmpfaa

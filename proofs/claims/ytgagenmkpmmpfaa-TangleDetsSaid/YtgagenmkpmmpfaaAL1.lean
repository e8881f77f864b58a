/- The walk of the closure in alex.row. -/
import Derived.Test.YtgagenmkpmmpfaaAS0P
import Derived.Test.YtgagenmkpmmpfaaO0P
import Derived.Deep.RegionLaw
namespace Go.Proofs.Ytgagenmkpmmpfaa
open Go.RowKit
set_option maxHeartbeats 4000000
set_option maxRecDepth 100000
def AddOk:Prop:=∀ (v1 v2:Value) (l1 l2:List (Int×Int)) (w:World),Poly.mayB l1=true->Poly.mayB l2=true->Poly.Poly w w.heap.size v1 l1->Poly.Poly w w.heap.size v2 l2->
 Calls Try.prog 72 #[v1,v2] w fun e w'=>∃ v r,e=.returned (.tuple #[v,.int .i64 0])/\w'.ownsRow w.heap.size 95 2 v r.length (Poly.flat r)/\Poly.Canon r (fun x=>Poly.coefL l1 x+Poly.coefL l2 x)/\r.length<=128/\Below w.heap.size w w'
theorem alexAdd_any (hAdd : AddOk) (B m g go gp : Nat) (vals : Nat → Value) (F : Nat → Int × Int) (ao : Option Addr) (no co bo oo arc p : Nat) (v2 : Value) (dx dy : Int) (w : World) (hB : B ≤ w.heap.size)
    (hF:smallF F 10) (hdx : -1<=dx/\dx<=1) (hdy : -1<=dy/\dy<=1) (ha:1<=arc) (han:arc<=no) (hno:no<=40) (hp:p<m) (hao:ao=some ⟨bo,oo,none⟩)
    (cO:w.heap[go]?=some (.cells #[.slice ao no co] 22 (0,0))) (cP:w.heap[gp]?=some (.cells #[.slice (some ⟨g,0,none⟩) m m] 116 (0,0))) (cA:w.cell? ⟨bo,oo+(arc-1),none⟩=some (.int .i64 (p:Nat)))
    (h2:Poly.Poly w w.heap.size v2 (aPol dx dy)) (hP:PlcAt B m g vals F w):
    Calls Try.prog 71 #[.int .i64 (arc:Nat),v2,.pointer (some ⟨go,0,none⟩),.pointer (some ⟨gp,0,none⟩)] w fun e w'=>e=.returned (.tuple #[])/\(∃ vals',PlcAt B m g vals' (addFa F p dx dy) w')/\w.grownBy w' (some g):=by
 subst hao
 obtain⟨k,rfl⟩:∃ k,arc=k+1:=⟨arc - 1,by omega⟩
 rw[Nat.add_sub_cancel]at cA
 have HADD:Hid AddOk:=hAdd
 have H2:Hid (Poly.Poly w w.heap.size v2 (aPol dx dy)):=h2
 have HP:Hid (PlcAt B m g vals F w):=hP
 have HF:Hid (smallF F 10):=hF
 have q0:w.cell? ⟨go,0,none⟩=some (.slice (some ⟨bo,oo,none⟩) no co):=block_cell cO rfl
 have q1:w.cell? ⟨gp,0,none⟩=some (.slice (some ⟨g,0,none⟩) m m):=block_cell cP rfl
 have HBP:Hid (w.heap[gp]?=some (.cells #[.slice (some ⟨g,0,none⟩) m m] 116 (0,0))):=cP
 have hgo:=(Array.getElem?_eq_some_iff.1 cO).1
 have hgp:=(Array.getElem?_eq_some_iff.1 cP).1
 have hgl:=(hP.row.lt g rfl).2
 clear hP hF h2 cO cP
 have hev:=HP.out.each p hp
 obtain⟨av,cv,ev⟩:=own_capS hev
 have HEV:Hid (vals p=.slice av (aPol (F p).1 (F p).2).length cv):=ev
 have q2:w.cell? ⟨g,p,none⟩=some (.slice av (aPol (F p).1 (F p).2).length cv):=by rw[HP.out.row.cellAt p (by omega),valsL_get _ _ _ hp,ev]
 have HBD:Hid (Below w.heap.size w w.drew):=below_drewN (Below.refl _ _) 1
 have hpd:=own_any hev (grown_below HBD.out none)
 rw[ev]at hpd
 have HCA : Hid (Calls Try.prog 72 #[.slice av (aPol (F p).1 (F p).2).length cv, v2] w.drew fun e w' => ∃ v, e = .returned (.tuple #[v, .int .i64 0]) ∧ w'.ownsRow w.heap.size 95 2 v (aPol ((F p).1 + dx) ((F p).2 + dy)).length (Poly.flat (aPol ((F p).1 + dx) ((F p).2 + dy))) ∧ Below w.heap.size w w') := (by
  have hs:=HF.out p
  refine(HADD.out _ v2 (aPol (F p).1 (F p).2) (aPol dx dy) w.drew (aPol_may _ _ (by omega) (by omega)) (aPol_may _ _ (by omega) (by omega)) (Poly.Poly.ofRow hpd) (H2.out.on HBD.out)).mono ?_
  rintro e w' ⟨v,r,e1,hr,hc,_,hb⟩
  rw[aPol_sum hc]at hr
  exact⟨v,e1,hr,HBD.out.trans hb⟩:Calls Try.prog 72 #[.slice av (aPol (F p).1 (F p).2).length cv,v2] w.drew fun e w'=>∃ v,e=.returned (.tuple #[v,.int .i64 0])/\w'.ownsRow w.heap.size 95 2 v (aPol ((F p).1+dx) ((F p).2+dy)).length (Poly.flat (aPol ((F p).1+dx) ((F p).2+dy)))/\Below w.heap.size w w')
 have HRW:Hid (∀ w',Below w.heap.size w w'->w'.cell? ⟨g,p,none⟩=some (.slice av (aPol (F p).1 (F p).2).length cv)/\w'.frozen? ⟨g,p,none⟩=false/\g<w'.heap.size/\w'.cell? ⟨gp,0,none⟩=some (.slice (some ⟨g,0,none⟩) m m)):=fun w' hb=>by
  have h:=(HP.out.any (grown_below hb none)).row
  exact⟨by rw[h.cellAt p (by omega),valsL_get _ _ _ hp,HEV.out],h.frozenAt p,(h.lt g rfl).2,block_cell ((hb.block _ hgp).trans HBP.out) rfl⟩
 have hpi:(p:Int)<(m:Int):=by omega
 generalize (aPol (F p).1 (F p).2).length=la at*
 clear hev ev hpd
 go_enter Try.func71,Try.ntmps71
 go_wp2
 go_region_law (first
  |(go_simp;go_at_call 72;refine HCA.out.mono ?_;rintro e9 w5 ⟨v5,rfl,hr5,hb5⟩;obtain⟨a5,c5,e5⟩:=own_capS hr5;subst e5;obtain⟨r0,r1,r2,r3⟩:=HRW.out w5 hb5))
 all_goals
  exact bodyPost_end (v:=.tuple #[]) (results_none rfl _ _ _) rfl ⟨rfl,⟨_,HP.out.set hb5 hB p dx dy _ hr5⟩,grown_trans (grown_below hb5 _) (set_grown _ _ _ _)⟩
end Go.Proofs.Ytgagenmkpmmpfaa

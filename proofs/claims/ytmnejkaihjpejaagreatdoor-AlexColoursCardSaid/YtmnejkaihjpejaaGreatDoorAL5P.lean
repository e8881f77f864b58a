/- Several texts of the proof, one behind the other. -/
import Derived.Test.YtmnejkaihjpejaaGreatDoorAL3P
import Derived.Test.YtmnejkaihjpejaaGreatDoorPDetP
import Derived.Test.YtmnejkaihjpejaaGreatDoorPA10P
import Derived.Test.YtmnejkaihjpejaaGreatDoorW1P
/- The walk of ref.TableOf. -/
namespace Go.Proofs.YtmnejkaihjpejaaGreatDoor
open Go.RowKit
theorem TbP.any {B m k:Nat} {v:Value} {gs:Nat->Nat} {vals:Nat->Nat->Value} {G:Nat->Nat->Int×Int} {w w':World} (h:w.ownsRow B 91 1 v k (valsL k fun i=>.slice (some ⟨gs i,0,none⟩) m m)/\∀ i,i<k->PlcAt B m (gs i) (vals i) (G i) w) (hg:w.grownBy w' none):w'.ownsRow B 91 1 v k (valsL k fun i=>.slice (some ⟨gs i,0,none⟩) m m)/\∀ i,i<k->PlcAt B m (gs i) (vals i) (G i) w':=⟨own_any h.1 hg,fun i hi=>(h.2 i hi).any hg⟩
structure TbP (B m k:Nat) (v:Value) (gs:Nat->Nat) (vals:Nat->Nat->Value) (G:Nat->Nat->Int×Int) (wr:World):Prop where
 outer:wr.ownsRow B 91 1 v k (valsL k fun i=>.slice (some ⟨gs i,0,none⟩) m m)
 each:∀ i,i<k->PlcAt B m (gs i) (vals i) (G i) wr
theorem TbP.more {B m k g : Nat} {v v' : Value} {gs : Nat → Nat} {vals : Nat → Nat → Value} {vs : Nat → Value} {G : Nat → Nat → Int × Int} {W W' : World} (h : TbP B m k v gs vals G W) (hr : PlcAt B m g vs (G k) W)
    (hg:W.grownBy W' v.ownBlock) (ho:W'.ownsRow B 91 1 v' (k+1) (valsL k (fun i=>.slice (some ⟨gs i,0,none⟩) m m)++[.slice (some ⟨g,0,none⟩) m m])):TbP B m (k+1) v' (fun i=>if i=k then g else gs i) (fun i=>if i=k then vs else vals i) G W':=by
 refine⟨?_,fun i hi=>?_⟩
 · have e : valsL (k + 1) (fun i => .slice (some ⟨if i = k then g else gs i, 0, none⟩) m m) = valsL k (fun i => .slice (some ⟨gs i, 0, none⟩) m m) ++ [.slice (some ⟨g, 0, none⟩) m m] := by
     unfold valsL
     rw[List.range_succ,List.map_append]
     congr 1
     · refine List.map_congr_left fun i hi=>?_
       have h:i≠k:=by have:=List.mem_range.1 hi;omega
       simp[h]
     · simp
   rw[e]
   exact ho
 · have one:∀ {g:Nat} {vs:Nat->Value} {F:Nat->Int×Int},PlcAt B m g vs F W->PlcAt B m g vs F W':=fun hq=>⟨hq.row.kept hg (own_ne hq.row h.outer (by decide)),fun j hj=>(hq.each j hj).kept hg (own_ne (hq.each j hj) h.outer (by decide))⟩
   by_cases e:i=k
   · rw[if_pos e,if_pos e,e]
     exact one hr
   · rw[if_neg e,if_neg e]
     exact one (h.each i (by omega))
structure TbSt (w3:World) (h4 k m:Nat) (v:Value) (gs:Nat->Nat) (vals:Nat->Nat->Value) (G:Nat->Nat->Int×Int) (bc:Array Value) (F:Nat->Int×Int) (X:World):Prop where
 plc:∃ vs,PlcAt w3.heap.size m (h4+1) vs F X
 box:X.heap[h4]?=some (.cells bc 57 (0,0))
 tab:TbP w3.heap.size m k v gs vals G X
 bel:Below w3.heap.size w3 X
 old:∀ i,i<k->gs i<h4
 big:w3.heap.size<=h4
theorem TbSt.on {w3:World} {h4 k m:Nat} {v:Value} {gs:Nat->Nat} {vals:Nat->Nat->Value} {G:Nat->Nat->Int×Int} {bc:Array Value} {F:Nat->Int×Int} {X Y:World} (h:TbSt w3 h4 k m v gs vals G bc F X) (hb:Below X.heap.size X Y):TbSt w3 h4 k m v gs vals G bc F Y:=by
 obtain⟨vs,hp⟩:=h.plc
 have hg:=grown_below hb none
 exact⟨⟨vs,hp.any hg⟩,(hb.block _ (Array.getElem?_eq_some_iff.1 h.box).1).trans h.box,⟨own_any h.tab.outer hg,fun i hi=>(h.tab.each i hi).any hg⟩,h.bel.trans (hb.mono h.bel.size),h.old,h.big⟩
theorem TbSt.set {w3 : World} {h4 k m : Nat} {v : Value} {gs : Nat → Nat} {vals : Nat → Nat → Value} {G : Nat → Nat → Int × Int} {bc : Array Value} {F : Nat → Int × Int} {X Y : World} (h : TbSt w3 h4 k m v gs vals G bc F X) (hb : Below X.heap.size X Y) (p : Nat) (dx dy : Int) (u : Value)
    (hv:Y.ownsRow X.heap.size 63 2 u (aPol ((F p).1+dx) ((F p).2+dy)).length (Poly.flat (aPol ((F p).1+dx) ((F p).2+dy)))):TbSt w3 h4 k m v gs vals G bc (addFa F p dx dy) (Y.setCell ⟨h4+1,p,none⟩ u):=by
 have h1:=h.on hb
 obtain⟨vs,hp⟩:=h.plc
 have hpY:=hp.any (grown_below hb none)
 have hg:=(hpY.row.stored p u).2
 have hbig:=h.big
 refine⟨⟨_,hp.set hb h.bel.size p dx dy u hv⟩,(hg.block _ (Array.getElem?_eq_some_iff.1 h1.box).1 (fun e=>by have:=Option.some.inj e;omega)).trans h1.box,⟨h1.tab.outer.kept hg (own_ne h1.tab.outer hpY.row (by decide)),fun i hi=>?_⟩,h1.bel.grown hg h1.bel.size (fun q hq=>by have:=Option.some.inj hq;omega),h.old,h.big⟩
 have hi2:=h.old i hi
 have hq:=h1.tab.each i hi
 exact⟨hq.row.kept hg (Or.inr (fun e=>by have e2:gs i=h4+1:=Option.some.inj e;omega)),fun j hj=>(hq.each j hj).kept hg (own_ne (hq.each j hj) hpY.row (by decide))⟩
end Go.Proofs.YtmnejkaihjpejaaGreatDoor
/- The law AlexTables: its walk, the rings of FaceRings being given. -/
namespace Go.Proofs.YtmnejkaihjpejaaGreatDoor
open Go.RowKit
theorem addOk:AddOk:=fun v1 v2 l1 l2 w h1 h2 h3 h4=>Poly.add_yes v1 v2 l1 l2 w h1 h2 h3 h4
end Go.Proofs.YtmnejkaihjpejaaGreatDoor

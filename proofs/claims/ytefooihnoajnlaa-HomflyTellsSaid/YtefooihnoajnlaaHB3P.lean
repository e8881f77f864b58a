/- Several texts of the proof, one behind the other. -/
import Derived.Test.YtefooihnoajnlaaHB1P
import Derived.Test.YtefooihnoajnlaaHA3P
import Derived.Test.YtefooihnoajnlaaW6P
import Derived.Laws.Rows
import Derived.Laws.Tables
import Derived.Deep.QuietTactic
import Derived.BigQuiet
/- A descent in memory: its row of 30 cells; the walks of homfly.exchange, homfly.product and descents.onward. -/
namespace Go.Proofs.Ytefooihnoajnlaa.Poly
open Go.RowKit Go.Maps
set_option maxHeartbeats 1000000
set_option maxRecDepth 100000
def dsF (s:Dst) (X Z c:Int) (i:Nat):Value:=if i=0 then .int .i64 (s.arc:Nat) else if i<9 then .int .i64 (s.ways (i-1):Nat) else if i<26 then .bool (s.w (i-9)) else if i=26 then .int .i64 (s.r:Nat) else if i=27 then .int .i64 X else if i=28 then .int .i64 Z else .int .i64 c
def dsA (s:Dst) (X Z c:Int):Array Value:=((List.range 30).map (dsF s X Z c)).toArray
theorem dsA_size (s:Dst) (X Z c:Int):(dsA s X Z c).size=30:=by simp[dsA]
theorem dsA_at (s:Dst) (X Z c:Int) {i:Nat} (h:i<30):(dsA s X Z c)[i]?=some (dsF s X Z c i):=by simp[dsA,h]
theorem dsA_all (s:Dst) (X Z c:Int):(dsA s X Z c).all (·.oneCell')=true:=by
 rw[Array.all_eq_true_iff_forall_mem]
 intro v hv
 unfold dsA at hv
 simp at hv
 obtain⟨x,-,rfl⟩:=hv
 unfold dsF
 split
 · rfl
 split
 · rfl
 split
 · rfl
 split
 · rfl
 split
 · rfl
 split<;>rfl
theorem dsA_set (s s':Dst) (X Z c X' Z' c':Int) (i:Nat) (v:Value) (h:∀ j,j<30->dsF s' X' Z' c' j=if j=i then v else dsF s X Z c j):(dsA s X Z c).setIfInBounds i v=dsA s' X' Z' c':=by
 apply Array.ext_getElem?
 intro j
 rw[Array.getElem?_setIfInBounds,dsA_size]
 by_cases hj:j<30
 · rw[dsA_at s' _ _ _ hj,h j hj]
   by_cases e:i=j
   · rw[if_pos e,if_pos (show i<30 by omega),if_pos e.symm]
   · rw[if_neg e,if_neg (fun q=>e q.symm),dsA_at s _ _ _ hj]
 · have h1:(dsA s' X' Z' c')[j]?=none:=by simp[dsA];omega
   rw[h1]
   by_cases e:i=j
   · rw[if_pos e,if_neg (show ¬ i<30 by omega)]
   · rw[if_neg e]
     simp[dsA]
     omega
def DeAt (W:World) (b:Nat) (s:Dst) (X Z c:Int):Prop:=W.heap[b]?=some (.cells (dsA s X Z c) 72 (0,0))
theorem DeAt.on {W W':World} {B b:Nat} {s:Dst} {X Z c:Int} (h:DeAt W b s X Z c) (hb:Below B W W') (hlt:b<B):DeAt W' b s X Z c:=(hb.block b hlt).trans h
theorem DeAt.lt {W:World} {b:Nat} {s:Dst} {X Z c:Int} (h:DeAt W b s X Z c):b<W.heap.size:=(Array.getElem?_eq_some_iff.1 h).1
theorem DeAt.cell {W:World} {b:Nat} {s:Dst} {X Z c:Int} (h:DeAt W b s X Z c) {i:Nat} (hi:i<30) {v:Value} (hv:dsF s X Z c i=v):W.cell? ⟨b,i,none⟩=some v:=block_cell h (by rw[dsA_at s X Z c hi,hv])
theorem DeAt.frozen {W:World} {b i:Nat} {s:Dst} {X Z c:Int} (h:DeAt W b s X Z c):W.frozen? ⟨b,i,none⟩=false:=block_frozen h
theorem DeAt.arc {W:World} {b:Nat} {s:Dst} {X Z c:Int} (h:DeAt W b s X Z c):W.cell? ⟨b,0,none⟩=some (.int .i64 (s.arc:Nat)):=h.cell (by omega) rfl
theorem DeAt.way {W:World} {b:Nat} {s:Dst} {X Z c:Int} (h:DeAt W b s X Z c) {k:Nat} (hk:k<8):W.cell? ⟨b,1+k,none⟩=some (.int .i64 (s.ways k:Nat)):=h.cell (by omega) (by unfold dsF;rw[if_neg (by omega),if_pos (by omega),show 1+k-1=k by omega])
theorem DeAt.walked {W:World} {b:Nat} {s:Dst} {X Z c:Int} (h:DeAt W b s X Z c) {a:Nat} (ha:a<17):W.cell? ⟨b,9+a,none⟩=some (.bool (s.w a)):=h.cell (by omega) (by unfold dsF;rw[if_neg (by omega),if_neg (by omega),if_pos (by omega),show 9+a-9=a by omega])
theorem DeAt.rings {W:World} {b:Nat} {s:Dst} {X Z c:Int} (h:DeAt W b s X Z c):W.cell? ⟨b,26,none⟩=some (.int .i64 (s.r:Nat)):=h.cell (by omega) rfl
theorem DeAt.worth {W:World} {b:Nat} {s:Dst} {X Z c:Int} (h:DeAt W b s X Z c):W.cell? ⟨b,27,none⟩=some (.int .i64 X)/\W.cell? ⟨b,28,none⟩=some (.int .i64 Z)/\W.cell? ⟨b,29,none⟩=some (.int .i64 c):=⟨h.cell (by omega) rfl,h.cell (by omega) rfl,h.cell (by omega) rfl⟩
theorem DeAt.put {W:World} {b:Nat} {s s':Dst} {X Z c X' Z' c':Int} (h:DeAt W b s X Z c) (i:Nat) (v:Value) (hv:∀ j,j<30->dsF s' X' Z' c' j=if j=i then v else dsF s X Z c j):DeAt (W.setCell ⟨b,i,none⟩ v) b s' X' Z' c':=by
 unfold DeAt
 rw[set_block h,dsA_set s s' X Z c X' Z' c' i v hv]
theorem DeAt.setArc {W:World} {b:Nat} {s:Dst} {X Z c:Int} (h:DeAt W b s X Z c) (a:Nat):DeAt (W.setCell ⟨b,0,none⟩ (.int .i64 (a:Nat))) b ⟨a,s.w,s.ways,s.r⟩ X Z c:=h.put 0 _ (fun j _=>by unfold dsF;by_cases e:j=0<;>simp[e])
theorem DeAt.setRings {W:World} {b:Nat} {s:Dst} {X Z c:Int} (h:DeAt W b s X Z c) (r:Nat):DeAt (W.setCell ⟨b,26,none⟩ (.int .i64 (r:Nat))) b ⟨s.arc,s.w,s.ways,r⟩ X Z c:=h.put 26 _ (fun j _=>by unfold dsF;by_cases e:j=26<;>simp[e])
theorem DeAt.setWalked {W : World} {b : Nat} {s : Dst} {X Z c : Int} (h : DeAt W b s X Z c) {a : Nat} (ha : a < 17) : DeAt (W.setCell ⟨b, 9 + a, none⟩ (.bool true)) b ⟨s.arc, upd s.w a true, s.ways, s.r⟩ X Z c := h.put (9 + a) _ (fun j hj => by
 unfold dsF upd
 by_cases e:j=9+a
 · rw[if_pos e,if_neg (by omega),if_neg (by omega),if_pos (by omega)]
   show Value.bool (if j-9=a then true else s.w (j-9))=_
   rw[if_pos (by omega)]
 · rw[if_neg e]
   by_cases h0:j=0
   · rw[if_pos h0,if_pos h0]
   · rw[if_neg h0,if_neg h0]
     by_cases h1:j<9
     · rw[if_pos h1,if_pos h1]
     · rw[if_neg h1,if_neg h1]
       by_cases h2:j<26
       · rw[if_pos h2,if_pos h2]
         show Value.bool (if j-9=a then true else s.w (j-9))=_
         rw[if_neg (by omega)]
       · rw[if_neg h2,if_neg h2])
theorem DeAt.setWay {W : World} {b : Nat} {s : Dst} {X Z c : Int} (h : DeAt W b s X Z c) {k : Nat} (hk : k < 8) (v : Nat) : DeAt (W.setCell ⟨b, 1 + k, none⟩ (.int .i64 (v : Nat))) b ⟨s.arc, s.w, upd s.ways k v, s.r⟩ X Z c := h.put (1 + k) _ (fun j hj => by
 unfold dsF upd
 by_cases e:j=1+k
 · rw[if_pos e,if_neg (by omega),if_pos (by omega)]
   show Value.int .i64 ((if j-1=k then v else s.ways (j-1):Nat):Int)=_
   rw[if_pos (by omega)]
 · rw[if_neg e]
   by_cases h0:j=0
   · rw[if_pos h0,if_pos h0]
   · rw[if_neg h0,if_neg h0]
     by_cases h1:j<9
     · rw[if_pos h1,if_pos h1]
       show Value.int .i64 ((if j-1=k then v else s.ways (j-1):Nat):Int)=_
       rw[if_neg (by omega)]
     · rw[if_neg h1,if_neg h1])
theorem DeAt.other {W:World} {b g i:Nat} {v:Value} {s:Dst} {X Z c:Int} (h:DeAt W b s X Z c) (hne:b≠g):DeAt (W.setCell ⟨g,i,none⟩ v) b s X Z c:=by
 unfold DeAt at h ⊢
 simp only[World.setCell,Array.getElem?_modify]
 rw[if_neg (fun q=>hne q.symm)]
 exact h
theorem infoDe:(Try.prog.info? 72).map (·.size)=some 30:=by kernel_rfl
theorem infoDs (s:Dst) (X Z c:Int):(Try.prog.info? 72).map (·.size)=some (dsA s X Z c).size:=by rw[dsA_size];exact infoDe
theorem product_two (X Z c X' Z' c' : Int) (w : World) (hX : X.natAbs ≤ 1000 ∧ X'.natAbs ≤ 1000) (hZ : Z.natAbs ≤ 1000 ∧ Z'.natAbs ≤ 1000) (hc : c = 1 ∨ c = -1) (hc' : c' = 1 ∨ c' = -1) :
    Calls Try.prog 60 #[.agg #[.int .i64 X,.int .i64 Z,.int .i64 c],.agg #[.int .i64 X',.int .i64 Z',.int .i64 c']] w fun e w'=>e=.returned (.agg #[.int .i64 (X+X'),.int .i64 (Z+Z'),.int .i64 (c*c')])/\Below w.heap.size w w':=by
 have h1:IntKind.i64.wrap (X+X')=X+X':=wrap_in _ (by omega)
 have h2:IntKind.i64.wrap (Z+Z')=Z+Z':=wrap_in _ (by omega)
 have h3:IntKind.i64.wrap (c*c')=c*c':=wrap_in _ (by rcases hc with rfl|rfl<;>omega)
 clear hX hZ hc hc'
 go_enter Try.func60,Try.ntmps60
 go_wp2
 have hX:(((w.alloc (.cells #[.int .i64 X,.int .i64 Z,.int .i64 c] 51)).alloc (.cells #[.int .i64 X',.int .i64 Z',.int .i64 c'] 51)).alloc (.cells #[.int .i64 (X+X'),.int .i64 (Z+Z'),.int .i64 (c*c')] 51)).heap[w.heap.size+1+1]?=some (.cells #[.int .i64 (X+X'),.int .i64 (Z+Z'),.int .i64 (c*c')] 51 (0,0)):=alloc_at (by simp)
 obtain⟨x0,x1,x2⟩:=pairBox hX
 exact bodyPost_ret (v:=.agg #[.int .i64 (X+X'),.int .i64 (Z+Z'),.int .i64 (c*c')]) (by simp[results,Try.results60,go_sem,x0,x1,x2]) rfl ⟨rfl,below3 _ _ _ _⟩
theorem exchange_any (p : Bool) (w : World) :
    Calls Try.prog 59 #[.bool p] w fun e w'=>e=.returned (.tuple #[.agg #[.int .i64 (chX p),.int .i64 0,.int .i64 1],.agg #[.int .i64 (smX p),.int .i64 1,.int .i64 (smC p)]])/\Below w.heap.size w w':=by
 cases p
 · go_enter Try.func59,Try.ntmps59
   go_wp2
   have hA:((w.alloc (.cells #[.int .i64 2,.int .i64 0,.int .i64 1] 51)).alloc (.cells #[.int .i64 1,.int .i64 1,.int .i64 (-1)] 51)).heap[w.heap.size]?=some (.cells #[.int .i64 2,.int .i64 0,.int .i64 1] 51 (0,0)):=alloc_old (alloc_at rfl)
   have hB:((w.alloc (.cells #[.int .i64 2,.int .i64 0,.int .i64 1] 51)).alloc (.cells #[.int .i64 1,.int .i64 1,.int .i64 (-1)] 51)).heap[w.heap.size+1]?=some (.cells #[.int .i64 1,.int .i64 1,.int .i64 (-1)] 51 (0,0)):=alloc_at (by simp)
   obtain⟨x0,x1,x2⟩:=pairBox hA
   obtain⟨y0,y1,y2⟩:=pairBox hB
   exact bodyPost_ret (v:=.tuple #[.agg #[.int .i64 2,.int .i64 0,.int .i64 1],.agg #[.int .i64 1,.int .i64 1,.int .i64 (-1)]]) (by simp[results,Try.results59,go_sem,x0,x1,x2,y0,y1,y2]) rfl ⟨rfl,below2 _ _ _⟩
 · go_enter Try.func59,Try.ntmps59
   go_wp2
   have hA:((w.alloc (.cells #[.int .i64 (-2),.int .i64 0,.int .i64 1] 51)).alloc (.cells #[.int .i64 (-1),.int .i64 1,.int .i64 1] 51)).heap[w.heap.size]?=some (.cells #[.int .i64 (-2),.int .i64 0,.int .i64 1] 51 (0,0)):=alloc_old (alloc_at rfl)
   have hB:((w.alloc (.cells #[.int .i64 (-2),.int .i64 0,.int .i64 1] 51)).alloc (.cells #[.int .i64 (-1),.int .i64 1,.int .i64 1] 51)).heap[w.heap.size+1]?=some (.cells #[.int .i64 (-1),.int .i64 1,.int .i64 1] 51 (0,0)):=alloc_at (by simp)
   obtain⟨x0,x1,x2⟩:=pairBox hA
   obtain⟨y0,y1,y2⟩:=pairBox hB
   exact bodyPost_ret (v:=.tuple #[.agg #[.int .i64 (-2),.int .i64 0,.int .i64 1],.agg #[.int .i64 (-1),.int .i64 1,.int .i64 1]]) (by simp[results,Try.results59,go_sem,x0,x1,x2,y0,y1,y2]) rfl ⟨rfl,below2 _ _ _⟩
theorem setRow_belowH {B g:Nat} {w W:World} {cs:Array Value} (h:Below B w W) (hg:B<=g):Below B w (W.setRow g cs):=
 ⟨h.os, h.tape, h.output, by simp [World.setRow]; exact h.size, fun i hi => by
  rw[<-h.block i hi]
  simp only[World.setRow,Array.getElem?_modify]
  rw[if_neg (by omega)]⟩
theorem setCell_belowH {B g x:Nat} {w W:World} {v:Value} (h:Below B w W) (hg:B<=g):Below B w (W.setCell ⟨g,x,none⟩ v):=
 ⟨h.os, h.tape, h.output, by simp [World.setCell]; exact h.size, fun i hi => by
  rw[<-h.block i hi]
  simp only[World.setCell,Array.getElem?_modify]
  rw[if_neg (by omega)]⟩
theorem DeAt.ofRow {W:World} {g:Nat} {cs:Array Value} (h:W.heap[g]?=some (.cells cs 72 (0,0))) (s:Dst) (X Z c:Int):DeAt (W.setRow g (dsA s X Z c)) g s X Z c:=by
 unfold DeAt
 simp only[World.setRow,Array.getElem?_modify,h,if_true,Option.map_some]
theorem heap_set_ne {W:World} {g g' i:Nat} {v:Value} (h:g≠g'):(W.setCell ⟨g',i,none⟩ v).heap[g]?=W.heap[g]?:=by
 simp only[World.setCell,Array.getElem?_modify]
 rw[if_neg (fun q=>h q.symm)]
def zeD:Array Value:=#[.int .i64 0,.int .i64 0,.int .i64 0,.int .i64 0,.int .i64 0,.int .i64 0,.int .i64 0,.int .i64 0,.int .i64 0,.bool false,.bool false,.bool false,.bool false,.bool false,.bool false,.bool false,.bool false,.bool false,.bool false,.bool false,.bool false,.bool false,.bool false,.bool false,.bool false,.bool false,.int .i64 0,.int .i64 0,.int .i64 0,.int .i64 0]
end Go.Proofs.Ytefooihnoajnlaa.Poly
/- The walk of descents.onward. -/
namespace Go.Proofs.Ytefooihnoajnlaa.Poly
open Go.RowKit Go.Maps
set_option maxHeartbeats 8000000
set_option maxRecDepth 100000
def dcV (a:Option Addr) (cap:Nat) (C:List Cr) (loops:Int) (gF cF gT cT b:Nat):Value:=.agg #[.slice a C.length cap,.int .i64 loops,.slice (some ⟨gF,0,none⟩) (2*C.length+1) cF,.slice (some ⟨gT,0,none⟩) (2*C.length+1) cT,.map (some b)]
def arcOf (W:World) (p:Nat):Nat:=match W.cell? ⟨p,0,none⟩ with|some (.int _ n)=>n.toNat|_=>0
structure OnAt (w W:World) (a:Option Addr) (cap:Nat) (C:List Cr) (loops:Int) (gF cF gT cT b:Nat) (s:Dst) (X Z c:Int):Prop where
 de:DeAt W (w.heap.size+1) s X Z c
 b0:W.heap[w.heap.size]?=some (.cells #[.slice a C.length cap,.int .i64 loops,.slice (some ⟨gF,0,none⟩) (2*C.length+1) cF,.slice (some ⟨gT,0,none⟩) (2*C.length+1) cT,.map (some b)] 67 (0,0))
 b2:W.heap[w.heap.size+1+1]?=some (.cells zeD 72 (0,0))
 bel:Below w.heap.size w W
theorem OnAt.on {w W W':World} {a:Option Addr} {cap:Nat} {C:List Cr} {loops:Int} {gF cF gT cT b:Nat} {s:Dst} {X Z c:Int} (h:OnAt w W a cap C loops gF cF gT cT b s X Z c) (hb:Below W.heap.size W W'):OnAt w W' a cap C loops gF cF gT cT b s X Z c:=
 ⟨h.de.on hb h.de.lt,(hb.block _ (Array.getElem?_eq_some_iff.1 h.b0).1).trans h.b0,(hb.block _ (Array.getElem?_eq_some_iff.1 h.b2).1).trans h.b2,h.bel.trans (hb.mono h.bel.size)⟩
theorem OnAt.to {w W:World} {a:Option Addr} {cap:Nat} {C:List Cr} {loops:Int} {gF cF gT cT b:Nat} {s s':Dst} {X Z c X' Z' c':Int} (h:OnAt w W a cap C loops gF cF gT cT b s X Z c) (i:Nat) (v:Value) (hd:DeAt (W.setCell ⟨w.heap.size+1,i,none⟩ v) (w.heap.size+1) s' X' Z' c'):OnAt w (W.setCell ⟨w.heap.size+1,i,none⟩ v) a cap C loops gF cF gT cT b s' X' Z' c':=
 ⟨hd,(heap_set_ne (by omega)).trans h.b0,(heap_set_ne (by omega)).trans h.b2,setCell_belowH h.bel (by omega)⟩
theorem onward_de (a : Option Addr) (cap : Nat) (C : List Cr) (loops : Int) (gF cF gT cT b : Nat) (s : Dst) (X Z c : Int) (w : World) (hm : mayD C loops = true) (hn : C.length ≤ 8) (h1 : 1 ≤ s.arc) (h2 : s.arc ≤ 2 * C.length) (hr : s.r ≤ 1000) (hD : Dr w a cap C gF gT) :
    Calls Try.prog 42 #[dcV a cap C loops gF cF gT cT b,.agg (dsA s X Z c)] w fun e w'=>e=.returned (.agg (dsA (onw (sysC C) s.w s.ways s.arc s.r) X Z c))/\Below w.heap.size w w':=by
 have HM:=hidH hm
 have HD:=hidH hD
 obtain⟨-,hi,-,-,-⟩:=to_may hm s.arc h1 h2
 obtain⟨k,hk⟩:∃ k,toC C s.arc=k:=⟨_,rfl⟩
 rw[hk]at hi
 have HK:=hidH hk
 obtain⟨y,hy⟩:∃ y,nxW (sysC C) s.ways s.arc=y:=⟨_,rfl⟩
 have hy2:1<=y/\y<=2*C.length:=by rw[<-hy];exact(gd_sys hm).cl s.ways s.arc h1 h2
 have HY:=hidH hy
 obtain⟨arc,harc⟩:∃ arc,s.arc=arc:=⟨_,rfl⟩
 have HA:=hidH harc
 rw[harc]at h1 h2
 obtain⟨wy,hwy⟩:∃ wy,s.ways k=wy:=⟨_,rfl⟩
 have HWY:=hidH hwy
 clear hm hk hy harc hwy
 obtain⟨V,hV⟩:∃ V,((w.alloc (.cells #[.slice a C.length cap,.int .i64 loops,.slice (some ⟨gF,0,none⟩) (2*C.length+1) cF,.slice (some ⟨gT,0,none⟩) (2*C.length+1) cT,.map (some b)] 67)).alloc (.cells (dsA s X Z c) 72)).alloc (.cells #[.int .i64 0,.int .i64 0,.int .i64 0,.int .i64 0,.int .i64 0,.int .i64 0,.int .i64 0,.int .i64 0,.int .i64 0,.bool false,.bool false,.bool false,.bool false,.bool false,.bool false,.bool false,.bool false,.bool false,.bool false,.bool false,.bool false,.bool false,.bool false,.bool false,.bool false,.bool false,.int .i64 0,.int .i64 0,.int .i64 0,.int .i64 0] 72)=V:=⟨_,rfl⟩
 have HV:=hidH hV
 have hBV:Below w.heap.size w V:=by rw[<-hV];exact below3 _ _ _ _
 have hsV:V.heap.size=w.heap.size+1+1+1:=by rw[<-hV];simp
 have HB0:Hid (V.heap[w.heap.size]?=some (.cells #[.slice a C.length cap,.int .i64 loops,.slice (some ⟨gF,0,none⟩) (2*C.length+1) cF,.slice (some ⟨gT,0,none⟩) (2*C.length+1) cT,.map (some b)] 67 (0,0))):=(by rw[<-hV];exact alloc_old (alloc_old (alloc_at rfl)):V.heap[w.heap.size]?=_)
 have HB1:Hid (DeAt V (w.heap.size+1) s X Z c):=(by rw[<-hV];exact alloc_old (alloc_at (by simp)):V.heap[w.heap.size+1]?=_)
 have HB2:Hid (V.heap[w.heap.size+1+1]?=some (.cells zeD 72 (0,0))):=(by rw[<-hV];exact alloc_at (by simp):V.heap[w.heap.size+1+1]?=_)
 have HBV:=hidH hBV
 have HDV:=hidH (hD.on hBV)
 have c0:V.cell? ⟨w.heap.size,0,none⟩=some (.slice a C.length cap):=block_cell HB0.out rfl
 have c1:V.cell? ⟨w.heap.size,1,none⟩=some (.int .i64 loops):=block_cell HB0.out rfl
 have c2:V.cell? ⟨w.heap.size,2,none⟩=some (.slice (some ⟨gF,0,none⟩) (2*C.length+1) cF):=block_cell HB0.out rfl
 have c3:V.cell? ⟨w.heap.size,3,none⟩=some (.slice (some ⟨gT,0,none⟩) (2*C.length+1) cT):=block_cell HB0.out rfl
 have d0:V.cell? ⟨w.heap.size+1,0,none⟩=some (.int .i64 (arc:Nat)):=by rw[HB1.out.arc,HA.out]
 have f0:V.frozen? ⟨w.heap.size+1,0,none⟩=false:=HB1.out.frozen
 have t0:V.cell? ⟨gT,arc*2,none⟩=some (.int .i64 (k:Nat)):=by
  have:=(HDV.out.toAt HM.out s.arc (by rw[HA.out];exact h1) (by rw[HA.out];exact h2)).1
  rw[HK.out,HA.out]at this
  exact this
 have d1:V.cell? ⟨w.heap.size+1,1+k,none⟩=some (.int .i64 (wy:Nat)):=by rw[HB1.out.way (by omega),HWY.out]
 have l0:gT<V.heap.size:=HDV.out.ltT
 unfold dcV
 clear hV hBV hD
 go_enter Try.func42,Try.ntmps42
 obtain⟨wk,hwk⟩:∃ wk,s.w y=wk:=⟨_,rfl⟩
 have HWK:=hidH hwk
 clear hwk
 have HON:Hid (OnAt w V a cap C loops gF cF gT cT b s X Z c):=⟨HB1.out,HB0.out,HB2.out,HBV.out⟩
 go_upto_region 1 with(fail)
 rw[HV.out]
 by_cases hwy2:wy=2
 · have hd2:((wy:Int)==2)=true:=by rw[beq_iff_eq];omega
   have HC:Hid (∀ W,Below V.heap.size V W->Calls Try.prog 62 #[.agg #[.slice a C.length cap,.int .i64 loops,.slice (some ⟨gF,0,none⟩) (2*C.length+1) cF,.slice (some ⟨gT,0,none⟩) (2*C.length+1) cT],.int .i64 (arc:Nat)] W fun e w'=>e=.returned (.int .i64 (y:Nat))/\Below W.heap.size W w'):=fun W hW=>by
    have:=aside_any a cap C loops gF cF gT cT s.arc W HM.out (by rw[HA.out];exact h1) (by rw[HA.out];exact h2) (HDV.out.on hW)
    have e:sx C s.arc=y:=by
     rw[<-HY.out]
     unfold nxW
     show _=if s.ways (toC C s.arc)=2 then sx C s.arc else nx C s.arc
     rw[HK.out,HWY.out,if_pos hwy2]
    rw[e,HA.out]at this
    exact this
   go_wp2_with (go_at_call 62;refine(HC.out _ (Below.refl _ _)).mono ?_;rintro e9 w4 ⟨rfl,hb4⟩;refine Hid.out ?_)
   refine Lib.hid ?_
   have HO4:=hidH (HON.out.on hb4)
   clear hb4 c0 c1 c2 c3 d0 f0 t0 d1
   have f0:w4.frozen? ⟨w.heap.size+1,0,none⟩=false:=HO4.out.de.frozen
   have c4:w4.cell? ⟨w.heap.size+1,0,none⟩=some (.int .i64 (arc:Nat)):=by rw[HO4.out.de.arc,HA.out]
   have l4:w.heap.size+1<w4.heap.size:=HO4.out.de.lt
   have HO5:=hidH (HO4.out.to 0 _ (HO4.out.de.setArc y))
   obtain⟨W5,hW5⟩:∃ W5,w4.setCell ⟨w.heap.size+1,0,none⟩ (.int .i64 (y:Nat))=W5:=⟨_,rfl⟩
   have HW5:=hidH hW5
   rw[hW5]at HO5
   clear hW5
   have d0:W5.cell? ⟨w.heap.size+1,0,none⟩=some (.int .i64 (y:Nat)):=HO5.out.de.arc
   have d1:W5.cell? ⟨w.heap.size+1,9+y,none⟩=some (.bool wk):=by rw[HO5.out.de.walked (by omega),<-HWK.out]
   have l5:w.heap.size+1<W5.heap.size:=HO5.out.de.lt
   go_upto_region 5 with(fail)
   rw[HW5.out]
   clear c4 f0
   cases wk
   · have HON9:Hid (onw (sysC C) s.w s.ways s.arc s.r=⟨y,s.w,s.ways,s.r⟩):=(by unfold onw;rw[HY.out,if_neg (by rw[HWK.out];decide)]:onw (sysC C) s.w s.ways s.arc s.r=_)
     go_wp2_with (first
      |(refine wpList_load_row rfl 72 _ rfl (w.heap.size+1) rfl 72 _ (0,0) _ HO5.out.de Try.underlying72 rfl (infoDs _ _ _ _) ?_)
      |(refine wpList_store_row rfl 72 _ _ rfl (w.heap.size+1+1) _ rfl rfl 72 _ HO5.out.b2 (infoDs _ _ _ _) (by rw[dsA_size];rfl) (dsA_all _ _ _ _) ?_))
     rw[HON9.out]
     exact bodyPost_ret (v:=.agg (dsA ⟨y,s.w,s.ways,s.r⟩ X Z c)) (results_cell_row rfl _ _ (w.heap.size+1+1) 72 _ (0,0) _ rfl (DeAt.ofRow HO5.out.b2 _ _ _ _) Try.underlying72 rfl (infoDs _ _ _ _)) rfl ⟨rfl,setRow_belowH HO5.out.bel (by omega)⟩
   · have HON9:Hid (onw (sysC C) s.w s.ways s.arc s.r=⟨lowU (2*C.length) s.w,s.w,s.ways,s.r+1⟩):=(by unfold onw;rw[HY.out,if_pos HWK.out];rfl:onw (sysC C) s.w s.ways s.arc s.r=_)
     have d2:W5.cell? ⟨w.heap.size+1,26,none⟩=some (.int .i64 (s.r:Nat)):=HO5.out.de.rings
     have f1:W5.frozen? ⟨w.heap.size+1,26,none⟩=false:=HO5.out.de.frozen
     have hwr:IntKind.i64.wrap ((s.r:Int)+1)=(s.r:Int)+1:=wrap_in _ (by omega)
     have HO6:=hidH (HO5.out.to 26 _ (HO5.out.de.setRings (s.r+1)))
     rw[show((s.r+1:Nat):Int)=(s.r:Int)+1 by omega]at HO6
     obtain⟨W6,hW6⟩:∃ W6,W5.setCell ⟨w.heap.size+1,26,none⟩ (.int .i64 ((s.r:Int)+1))=W6:=⟨_,rfl⟩
     have HW6:=hidH hW6
     rw[hW6]at HO6
     clear hW6
     go_upto_region 8 with(fail)
     rw[HW6.out]
     clear d0 d1 d2 f1 l5 hwr
     have d0:W6.cell? ⟨w.heap.size+1,0,none⟩=some (.int .i64 (y:Nat)):=HO6.out.de.arc
     have f0:W6.frozen? ⟨w.heap.size+1,0,none⟩=false:=HO6.out.de.frozen
     have l6:w.heap.size+1<W6.heap.size:=HO6.out.de.lt
     have HO7:=hidH (HO6.out.to 0 _ (HO6.out.de.setArc 1))
     obtain⟨W7,hW7⟩:∃ W7,W6.setCell ⟨w.heap.size+1,0,none⟩ (.int .i64 1)=W7:=⟨_,rfl⟩
     have HW7:=hidH hW7
     rw[show(((1:Nat):Int))=1 from rfl,hW7]at HO7
     have HB7:Hid (Below w.heap.size w W7):=HO7.out.bel
     clear hW7
     go_wp2
     rw[HW7.out]
     clear d0 f0 l6
     go_loopw [] (fun wr=>∃ j:Nat,1<=j/\j<=2*C.length+1/\OnAt w wr a cap C loops gF cF gT cT b ⟨j,s.w,s.ways,s.r+1⟩ X Z c/\Hid (∀ q,1<=q->q<j->s.w q=true)) (fun wr=>2*C.length+1-arcOf wr (w.heap.size+1))
     case atStart=>exact⟨1,Nat.le_refl _,by omega,HO7.out,(fun q h1 h2=>by omega:∀ q,1<=q->q<1->s.w q=true)⟩
     case round=>
      rename World=>W
      obtain⟨j,hj1,hj2,hO,hall⟩:=hrel
      have HO:=hidH hO
      have e0:W.cell? ⟨w.heap.size,0,none⟩=some (.slice a C.length cap):=block_cell hO.b0 rfl
      have e1:W.cell? ⟨w.heap.size,1,none⟩=some (.int .i64 loops):=block_cell hO.b0 rfl
      have e2:W.cell? ⟨w.heap.size,2,none⟩=some (.slice (some ⟨gF,0,none⟩) (2*C.length+1) cF):=block_cell hO.b0 rfl
      have e3:W.cell? ⟨w.heap.size,3,none⟩=some (.slice (some ⟨gT,0,none⟩) (2*C.length+1) cT):=block_cell hO.b0 rfl
      have e4:W.cell? ⟨w.heap.size+1,0,none⟩=some (.int .i64 (j:Nat)):=hO.de.arc
      have har:arcOf W (w.heap.size+1)=j:=by unfold arcOf;rw[e4];rfl
      have HH:Hid (∀ W,Calls Try.prog 40 #[.agg #[.slice a C.length cap,.int .i64 loops,.slice (some ⟨gF,0,none⟩) (2*C.length+1) cF,.slice (some ⟨gT,0,none⟩) (2*C.length+1) cT],.int .i64 (j:Nat)] W fun e w'=>e=.returned (.bool (hasB C j))/\Below W.heap.size W w'):=fun W=>has_any a cap C loops gF cF gT cT j W (by omega)
      have hfin:(j=2*C.length+1∨s.w j=false)->lowU (2*C.length) s.w=j:=fun h=>lowU_eq hj1 hj2 hall.out (fun h2=>by rcases h with h|h;omega;exact h)
      have HFIN:=hidH hfin
      clear hfin hO
      have hjB:hasB C j=decide (j<=2*C.length):=by
       unfold hasB
       rw[decide_eq_true (show(1:Int)<=(j:Int) by omega),Bool.true_and]
       exact decide_eq_decide.2 (by omega)
      rw[hjB]at HH
      clear hjB
      go_wp2_with (go_at_call 40;refine(HH.out _).mono ?_;rintro e9 w8 ⟨rfl,hb8⟩;refine Hid.out ?_)
      refine Lib.hid ?_
      have HO8:=hidH (HO.out.on hb8)
      clear hb8 e0 e1 e2 e3 e4 HH
      have e4:w8.cell? ⟨w.heap.size+1,0,none⟩=some (.int .i64 (j:Nat)):=HO8.out.de.arc
      have l8:w.heap.size+1<w8.heap.size:=HO8.out.de.lt
      by_cases hj:j<=2*C.length
      · have hdj:decide (j<=2*C.length)=true:=decide_eq_true hj
        rw[hdj]
        have e5:w8.cell? ⟨w.heap.size+1,9+j,none⟩=some (.bool (s.w j)):=HO8.out.de.walked (by omega)
        obtain⟨wj,hwj⟩:∃ wj,s.w j=wj:=⟨_,rfl⟩
        rw[hwj]at e5
        have HWJ:=hidH hwj
        clear hwj hdj
        cases wj
        · skip
          go_wp2_with (first
           |(refine wpList_load_row rfl 72 _ rfl (w.heap.size+1) rfl 72 _ (0,0) _ HO8.out.de Try.underlying72 rfl (infoDs _ _ _ _) ?_)
           |(refine wpList_store_row rfl 72 _ _ rfl (w.heap.size+1+1) _ rfl rfl 72 _ HO8.out.b2 (infoDs _ _ _ _) (by rw[dsA_size];rfl) (dsA_all _ _ _ _) ?_))
          rw[HON9.out,HFIN.out (Or.inr HWJ.out)]
          exact bodyPost_ret (v:=.agg (dsA ⟨j,s.w,s.ways,s.r+1⟩ X Z c)) (results_cell_row rfl _ _ (w.heap.size+1+1) 72 _ (0,0) _ rfl (DeAt.ofRow HO8.out.b2 _ _ _ _) Try.underlying72 rfl (infoDs _ _ _ _)) rfl ⟨rfl,setRow_belowH HO8.out.bel (by omega)⟩
        · have f8:w8.frozen? ⟨w.heap.size+1,0,none⟩=false:=HO8.out.de.frozen
          have hwj1:IntKind.i64.wrap ((j:Int)+1)=(j:Int)+1:=wrap_in _ (by omega)
          go_wp2
          go_roundw
          case rel=>
           have:=HO8.out.to 0 _ (HO8.out.de.setArc (j+1))
           rw[show((j+1:Nat):Int)=(j:Int)+1 by omega]at this
           exact ⟨j + 1, by omega, by omega, this, fun q h1 h2 => (by
            by_cases e:q=j
            · rw[e];exact HWJ.out
            · exact hall.out q h1 (by omega))⟩
          case measure=>
           have h2:=(HO8.out.to 0 _ (HO8.out.de.setArc (j+1))).de.arc
           rw[show((j+1:Nat):Int)=(j:Int)+1 by omega]at h2
           rw[har]
           unfold arcOf
           rw[h2]
           show 2*C.length+1-((j:Int)+1).toNat<_
           omega
      · have hdj:decide (j<=2*C.length)=false:=decide_eq_false hj
        rw[hdj]
        clear hdj
        go_wp2_with (first
         |(refine wpList_load_row rfl 72 _ rfl (w.heap.size+1) rfl 72 _ (0,0) _ HO8.out.de Try.underlying72 rfl (infoDs _ _ _ _) ?_)
         |(refine wpList_store_row rfl 72 _ _ rfl (w.heap.size+1+1) _ rfl rfl 72 _ HO8.out.b2 (infoDs _ _ _ _) (by rw[dsA_size];rfl) (dsA_all _ _ _ _) ?_))
        rw[HON9.out,HFIN.out (Or.inl (by omega))]
        exact bodyPost_ret (v:=.agg (dsA ⟨j,s.w,s.ways,s.r+1⟩ X Z c)) (results_cell_row rfl _ _ (w.heap.size+1+1) 72 _ (0,0) _ rfl (DeAt.ofRow HO8.out.b2 _ _ _ _) Try.underlying72 rfl (infoDs _ _ _ _)) rfl ⟨rfl,setRow_belowH HO8.out.bel (by omega)⟩
 · have hd2:((wy:Int)==2)=false:=by rw[beq_eq_false_iff_ne];omega
   have HC:Hid (∀ W,Below V.heap.size V W->Calls Try.prog 61 #[.agg #[.slice a C.length cap,.int .i64 loops,.slice (some ⟨gF,0,none⟩) (2*C.length+1) cF,.slice (some ⟨gT,0,none⟩) (2*C.length+1) cT],.int .i64 (arc:Nat)] W fun e w'=>e=.returned (.int .i64 (y:Nat))/\Below W.heap.size W w'):=fun W hW=>by
    have:=ahead_any a cap C loops gF cF gT cT s.arc W HM.out (by rw[HA.out];exact h1) (by rw[HA.out];exact h2) (HDV.out.on hW)
    have e:nx C s.arc=y:=by
     rw[<-HY.out]
     unfold nxW
     show _=if s.ways (toC C s.arc)=2 then sx C s.arc else nx C s.arc
     rw[HK.out,HWY.out,if_neg hwy2]
    rw[e,HA.out]at this
    exact this
   go_wp2_with (go_at_call 61;refine(HC.out _ (Below.refl _ _)).mono ?_;rintro e9 w4 ⟨rfl,hb4⟩;refine Hid.out ?_)
   refine Lib.hid ?_
   have HO4:=hidH (HON.out.on hb4)
   clear hb4 c0 c1 c2 c3 d0 f0 t0 d1
   have f0:w4.frozen? ⟨w.heap.size+1,0,none⟩=false:=HO4.out.de.frozen
   have c4:w4.cell? ⟨w.heap.size+1,0,none⟩=some (.int .i64 (arc:Nat)):=by rw[HO4.out.de.arc,HA.out]
   have l4:w.heap.size+1<w4.heap.size:=HO4.out.de.lt
   have HO5:=hidH (HO4.out.to 0 _ (HO4.out.de.setArc y))
   obtain⟨W5,hW5⟩:∃ W5,w4.setCell ⟨w.heap.size+1,0,none⟩ (.int .i64 (y:Nat))=W5:=⟨_,rfl⟩
   have HW5:=hidH hW5
   rw[hW5]at HO5
   clear hW5
   have d0:W5.cell? ⟨w.heap.size+1,0,none⟩=some (.int .i64 (y:Nat)):=HO5.out.de.arc
   have d1:W5.cell? ⟨w.heap.size+1,9+y,none⟩=some (.bool wk):=by rw[HO5.out.de.walked (by omega),<-HWK.out]
   have l5:w.heap.size+1<W5.heap.size:=HO5.out.de.lt
   go_upto_region 5 with(fail)
   rw[HW5.out]
   clear c4 f0
   cases wk
   · have HON9:Hid (onw (sysC C) s.w s.ways s.arc s.r=⟨y,s.w,s.ways,s.r⟩):=(by unfold onw;rw[HY.out,if_neg (by rw[HWK.out];decide)]:onw (sysC C) s.w s.ways s.arc s.r=_)
     go_wp2_with (first
      |(refine wpList_load_row rfl 72 _ rfl (w.heap.size+1) rfl 72 _ (0,0) _ HO5.out.de Try.underlying72 rfl (infoDs _ _ _ _) ?_)
      |(refine wpList_store_row rfl 72 _ _ rfl (w.heap.size+1+1) _ rfl rfl 72 _ HO5.out.b2 (infoDs _ _ _ _) (by rw[dsA_size];rfl) (dsA_all _ _ _ _) ?_))
     rw[HON9.out]
     exact bodyPost_ret (v:=.agg (dsA ⟨y,s.w,s.ways,s.r⟩ X Z c)) (results_cell_row rfl _ _ (w.heap.size+1+1) 72 _ (0,0) _ rfl (DeAt.ofRow HO5.out.b2 _ _ _ _) Try.underlying72 rfl (infoDs _ _ _ _)) rfl ⟨rfl,setRow_belowH HO5.out.bel (by omega)⟩
   · have HON9:Hid (onw (sysC C) s.w s.ways s.arc s.r=⟨lowU (2*C.length) s.w,s.w,s.ways,s.r+1⟩):=(by unfold onw;rw[HY.out,if_pos HWK.out];rfl:onw (sysC C) s.w s.ways s.arc s.r=_)
     have d2:W5.cell? ⟨w.heap.size+1,26,none⟩=some (.int .i64 (s.r:Nat)):=HO5.out.de.rings
     have f1:W5.frozen? ⟨w.heap.size+1,26,none⟩=false:=HO5.out.de.frozen
     have hwr:IntKind.i64.wrap ((s.r:Int)+1)=(s.r:Int)+1:=wrap_in _ (by omega)
     have HO6:=hidH (HO5.out.to 26 _ (HO5.out.de.setRings (s.r+1)))
     rw[show((s.r+1:Nat):Int)=(s.r:Int)+1 by omega]at HO6
     obtain⟨W6,hW6⟩:∃ W6,W5.setCell ⟨w.heap.size+1,26,none⟩ (.int .i64 ((s.r:Int)+1))=W6:=⟨_,rfl⟩
     have HW6:=hidH hW6
     rw[hW6]at HO6
     clear hW6
     go_upto_region 8 with(fail)
     rw[HW6.out]
     clear d0 d1 d2 f1 l5 hwr
     have d0:W6.cell? ⟨w.heap.size+1,0,none⟩=some (.int .i64 (y:Nat)):=HO6.out.de.arc
     have f0:W6.frozen? ⟨w.heap.size+1,0,none⟩=false:=HO6.out.de.frozen
     have l6:w.heap.size+1<W6.heap.size:=HO6.out.de.lt
     have HO7:=hidH (HO6.out.to 0 _ (HO6.out.de.setArc 1))
     obtain⟨W7,hW7⟩:∃ W7,W6.setCell ⟨w.heap.size+1,0,none⟩ (.int .i64 1)=W7:=⟨_,rfl⟩
     have HW7:=hidH hW7
     rw[show(((1:Nat):Int))=1 from rfl,hW7]at HO7
     have HB7:Hid (Below w.heap.size w W7):=HO7.out.bel
     clear hW7
     go_wp2
     rw[HW7.out]
     clear d0 f0 l6
     go_loopw [] (fun wr=>∃ j:Nat,1<=j/\j<=2*C.length+1/\OnAt w wr a cap C loops gF cF gT cT b ⟨j,s.w,s.ways,s.r+1⟩ X Z c/\Hid (∀ q,1<=q->q<j->s.w q=true)) (fun wr=>2*C.length+1-arcOf wr (w.heap.size+1))
     case atStart=>exact⟨1,Nat.le_refl _,by omega,HO7.out,(fun q h1 h2=>by omega:∀ q,1<=q->q<1->s.w q=true)⟩
     case round=>
      rename World=>W
      obtain⟨j,hj1,hj2,hO,hall⟩:=hrel
      have HO:=hidH hO
      have e0:W.cell? ⟨w.heap.size,0,none⟩=some (.slice a C.length cap):=block_cell hO.b0 rfl
      have e1:W.cell? ⟨w.heap.size,1,none⟩=some (.int .i64 loops):=block_cell hO.b0 rfl
      have e2:W.cell? ⟨w.heap.size,2,none⟩=some (.slice (some ⟨gF,0,none⟩) (2*C.length+1) cF):=block_cell hO.b0 rfl
      have e3:W.cell? ⟨w.heap.size,3,none⟩=some (.slice (some ⟨gT,0,none⟩) (2*C.length+1) cT):=block_cell hO.b0 rfl
      have e4:W.cell? ⟨w.heap.size+1,0,none⟩=some (.int .i64 (j:Nat)):=hO.de.arc
      have har:arcOf W (w.heap.size+1)=j:=by unfold arcOf;rw[e4];rfl
      have HH:Hid (∀ W,Calls Try.prog 40 #[.agg #[.slice a C.length cap,.int .i64 loops,.slice (some ⟨gF,0,none⟩) (2*C.length+1) cF,.slice (some ⟨gT,0,none⟩) (2*C.length+1) cT],.int .i64 (j:Nat)] W fun e w'=>e=.returned (.bool (hasB C j))/\Below W.heap.size W w'):=fun W=>has_any a cap C loops gF cF gT cT j W (by omega)
      have hfin:(j=2*C.length+1∨s.w j=false)->lowU (2*C.length) s.w=j:=fun h=>lowU_eq hj1 hj2 hall.out (fun h2=>by rcases h with h|h;omega;exact h)
      have HFIN:=hidH hfin
      clear hfin hO
      have hjB:hasB C j=decide (j<=2*C.length):=by
       unfold hasB
       rw[decide_eq_true (show(1:Int)<=(j:Int) by omega),Bool.true_and]
       exact decide_eq_decide.2 (by omega)
      rw[hjB]at HH
      clear hjB
      go_wp2_with (go_at_call 40;refine(HH.out _).mono ?_;rintro e9 w8 ⟨rfl,hb8⟩;refine Hid.out ?_)
      refine Lib.hid ?_
      have HO8:=hidH (HO.out.on hb8)
      clear hb8 e0 e1 e2 e3 e4 HH
      have e4:w8.cell? ⟨w.heap.size+1,0,none⟩=some (.int .i64 (j:Nat)):=HO8.out.de.arc
      have l8:w.heap.size+1<w8.heap.size:=HO8.out.de.lt
      by_cases hj:j<=2*C.length
      · have hdj:decide (j<=2*C.length)=true:=decide_eq_true hj
        rw[hdj]
        have e5:w8.cell? ⟨w.heap.size+1,9+j,none⟩=some (.bool (s.w j)):=HO8.out.de.walked (by omega)
        obtain⟨wj,hwj⟩:∃ wj,s.w j=wj:=⟨_,rfl⟩
        rw[hwj]at e5
        have HWJ:=hidH hwj
        clear hwj hdj
        cases wj
        · skip
          go_wp2_with (first
           |(refine wpList_load_row rfl 72 _ rfl (w.heap.size+1) rfl 72 _ (0,0) _ HO8.out.de Try.underlying72 rfl (infoDs _ _ _ _) ?_)
           |(refine wpList_store_row rfl 72 _ _ rfl (w.heap.size+1+1) _ rfl rfl 72 _ HO8.out.b2 (infoDs _ _ _ _) (by rw[dsA_size];rfl) (dsA_all _ _ _ _) ?_))
          rw[HON9.out,HFIN.out (Or.inr HWJ.out)]
          exact bodyPost_ret (v:=.agg (dsA ⟨j,s.w,s.ways,s.r+1⟩ X Z c)) (results_cell_row rfl _ _ (w.heap.size+1+1) 72 _ (0,0) _ rfl (DeAt.ofRow HO8.out.b2 _ _ _ _) Try.underlying72 rfl (infoDs _ _ _ _)) rfl ⟨rfl,setRow_belowH HO8.out.bel (by omega)⟩
        · have f8:w8.frozen? ⟨w.heap.size+1,0,none⟩=false:=HO8.out.de.frozen
          have hwj1:IntKind.i64.wrap ((j:Int)+1)=(j:Int)+1:=wrap_in _ (by omega)
          go_wp2
          go_roundw
          case rel=>
           have:=HO8.out.to 0 _ (HO8.out.de.setArc (j+1))
           rw[show((j+1:Nat):Int)=(j:Int)+1 by omega]at this
           exact ⟨j + 1, by omega, by omega, this, fun q h1 h2 => (by
            by_cases e:q=j
            · rw[e];exact HWJ.out
            · exact hall.out q h1 (by omega))⟩
          case measure=>
           have h2:=(HO8.out.to 0 _ (HO8.out.de.setArc (j+1))).de.arc
           rw[show((j+1:Nat):Int)=(j:Int)+1 by omega]at h2
           rw[har]
           unfold arcOf
           rw[h2]
           show 2*C.length+1-((j:Int)+1).toNat<_
           omega
      · have hdj:decide (j<=2*C.length)=false:=decide_eq_false hj
        rw[hdj]
        clear hdj
        go_wp2_with (first
         |(refine wpList_load_row rfl 72 _ rfl (w.heap.size+1) rfl 72 _ (0,0) _ HO8.out.de Try.underlying72 rfl (infoDs _ _ _ _) ?_)
         |(refine wpList_store_row rfl 72 _ _ rfl (w.heap.size+1+1) _ rfl rfl 72 _ HO8.out.b2 (infoDs _ _ _ _) (by rw[dsA_size];rfl) (dsA_all _ _ _ _) ?_))
        rw[HON9.out,HFIN.out (Or.inl (by omega))]
        exact bodyPost_ret (v:=.agg (dsA ⟨j,s.w,s.ways,s.r+1⟩ X Z c)) (results_cell_row rfl _ _ (w.heap.size+1+1) 72 _ (0,0) _ rfl (DeAt.ofRow HO8.out.b2 _ _ _ _) Try.underlying72 rfl (infoDs _ _ _ _)) rfl ⟨rfl,setRow_belowH HO8.out.bel (by omega)⟩
end Go.Proofs.Ytefooihnoajnlaa.Poly
/- The walk of descents.met. -/
namespace Go.Proofs.Ytefooihnoajnlaa.Poly
open Go.RowKit Go.Maps
set_option maxHeartbeats 8000000
set_option maxRecDepth 100000
theorem DeAt.setWorth {W:World} {b:Nat} {s:Dst} {X Z c:Int} (h:DeAt W b s X Z c) (X' Z' c':Int):DeAt (((W.setCell ⟨b,27,none⟩ (.int .i64 X')).setCell ⟨b,28,none⟩ (.int .i64 Z')).setCell ⟨b,29,none⟩ (.int .i64 c')) b s X' Z' c':=by
 have h1:DeAt (W.setCell ⟨b,27,none⟩ (.int .i64 X')) b s X' Z c:=h.put 27 _ (fun j _=>by unfold dsF;by_cases e:j=27<;>simp[e])
 have h2:DeAt ((W.setCell ⟨b,27,none⟩ (.int .i64 X')).setCell ⟨b,28,none⟩ (.int .i64 Z')) b s X' Z' c:=h1.put 28 _ (fun j _=>by unfold dsF;by_cases e:j=28<;>simp[e])
 exact h2.put 29 _ (fun j hj => by
  unfold dsF
  by_cases e:j=29
  · simp[e]
  · rw[if_neg e]
    repeat' split
    all_goals first|rfl|omega)
theorem met_above (a : Option Addr) (cap : Nat) (C : List Cr) (loops : Int) (gF cF gT cT b : Nat) (s : Dst) (X Z c : Int) (k : Nat) (w : World) (hm : mayD C loops = true) (hk : k < 8) (h1 : 1 ≤ s.arc) (h2 : s.arc ≤ 2 * C.length) (hab : toS C s.arc ≠ 0) (hD : Dr w a cap C gF gT) :
    Calls Try.prog 41 #[dcV a cap C loops gF cF gT cT b,.agg (dsA s X Z c),.int .i64 (k:Nat)] w fun e w'=>e=.returned (.agg (dsA ⟨s.arc,s.w,upd s.ways k 1,s.r⟩ X Z c))/\Below w.heap.size w w':=by
 have HD:=hidH hD
 obtain⟨V,hV⟩:∃ V,((w.alloc (.cells #[.slice a C.length cap,.int .i64 loops,.slice (some ⟨gF,0,none⟩) (2*C.length+1) cF,.slice (some ⟨gT,0,none⟩) (2*C.length+1) cT,.map (some b)] 67)).alloc (.cells (dsA s X Z c) 72)).alloc (.cells #[.int .i64 0,.int .i64 0,.int .i64 0,.int .i64 0,.int .i64 0,.int .i64 0,.int .i64 0,.int .i64 0,.int .i64 0,.bool false,.bool false,.bool false,.bool false,.bool false,.bool false,.bool false,.bool false,.bool false,.bool false,.bool false,.bool false,.bool false,.bool false,.bool false,.bool false,.bool false,.int .i64 0,.int .i64 0,.int .i64 0,.int .i64 0] 72)=V:=⟨_,rfl⟩
 have HV:=hidH hV
 have hBV:Below w.heap.size w V:=by rw[<-hV];exact below3 _ _ _ _
 have HON:Hid (OnAt w V a cap C loops gF cF gT cT b s X Z c):=⟨by rw[<-hV];exact alloc_old (alloc_at (by simp)),by rw[<-hV];exact alloc_old (alloc_old (alloc_at rfl)),by rw[<-hV];exact alloc_at (by simp),hBV⟩
 have HC:Hid (∀ W,Below w.heap.size w W->Calls Try.prog 58 #[.agg #[.slice a C.length cap,.int .i64 loops,.slice (some ⟨gF,0,none⟩) (2*C.length+1) cF,.slice (some ⟨gT,0,none⟩) (2*C.length+1) cT],.int .i64 (s.arc:Nat)] W fun e w'=>e=.returned (.bool true)/\Below W.heap.size W w'):=fun W hW=>by
  have:=above_any a cap C loops gF cF gT cT s.arc W hm h1 h2 (HD.out.on hW)
  rw[decide_eq_true hab]at this
  exact this
 have c0:V.cell? ⟨w.heap.size,0,none⟩=some (.slice a C.length cap):=block_cell HON.out.b0 rfl
 have c1:V.cell? ⟨w.heap.size,1,none⟩=some (.int .i64 loops):=block_cell HON.out.b0 rfl
 have c2:V.cell? ⟨w.heap.size,2,none⟩=some (.slice (some ⟨gF,0,none⟩) (2*C.length+1) cF):=block_cell HON.out.b0 rfl
 have c3:V.cell? ⟨w.heap.size,3,none⟩=some (.slice (some ⟨gT,0,none⟩) (2*C.length+1) cT):=block_cell HON.out.b0 rfl
 have d0:V.cell? ⟨w.heap.size+1,0,none⟩=some (.int .i64 (s.arc:Nat)):=HON.out.de.arc
 unfold dcV
 have HBV:=hidH hBV
 clear hV hBV hD hm
 go_enter Try.func41,Try.ntmps41
 go_upto_region 1 with(fail)
 rw[HV.out]
 go_wp2_with (go_at_call 58;refine(HC.out _ HBV.out).mono ?_;rintro e9 w4 ⟨rfl,hb4⟩;refine Hid.out ?_)
 refine Lib.hid ?_
 have HO4:=hidH (HON.out.on hb4)
 clear hb4 c0 c1 c2 c3 d0
 have d1:w4.cell? ⟨w.heap.size+1,1+k,none⟩=some (.int .i64 (s.ways k:Nat)):=HO4.out.de.way hk
 have f1:w4.frozen? ⟨w.heap.size+1,1+k,none⟩=false:=HO4.out.de.frozen
 have l4:w.heap.size+1<w4.heap.size:=HO4.out.de.lt
 have HO5:=hidH (HO4.out.to (1+k) _ (HO4.out.de.setWay hk 1))
 obtain⟨W5,hW5⟩:∃ W5,w4.setCell ⟨w.heap.size+1,1+k,none⟩ (.int .i64 1)=W5:=⟨_,rfl⟩
 have HW5:=hidH hW5
 rw[show(((1:Nat):Int))=1 from rfl,hW5]at HO5
 clear hW5
 go_upto_region 8 with(fail)
 rw[HW5.out]
 clear d1 f1
 go_wp2_with (first
  |(refine wpList_load_row rfl 72 _ rfl (w.heap.size+1) rfl 72 _ (0,0) _ HO5.out.de Try.underlying72 rfl (infoDs _ _ _ _) ?_)
  |(refine wpList_store_row rfl 72 _ _ rfl (w.heap.size+1+1) _ rfl rfl 72 _ HO5.out.b2 (infoDs _ _ _ _) (by rw[dsA_size];rfl) (dsA_all _ _ _ _) ?_))
 exact bodyPost_ret (v:=.agg (dsA ⟨s.arc,s.w,upd s.ways k 1,s.r⟩ X Z c)) (results_cell_row rfl _ _ (w.heap.size+1+1) 72 _ (0,0) _ rfl (DeAt.ofRow HO5.out.b2 _ _ _ _) Try.underlying72 rfl (infoDs _ _ _ _)) rfl ⟨rfl,setRow_belowH HO5.out.bel (by omega)⟩
end Go.Proofs.Ytefooihnoajnlaa.Poly

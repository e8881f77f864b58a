/- Several texts of the proof, one behind the other. -/
import Derived.Test.YtgagenmkpmmpfaaTL2P
import Derived.Test.YtgagenmkpmmpfaaO0P
import Derived.Deep.Cut
import Derived.Test.YtgagenmkpmmpfaaAS0P
/- The walk of tangle.walker.walk. -/
namespace Go.Proofs.Ytgagenmkpmmpfaa
open Go.RowKit Go.Maps
def GoSt (n:Nat) (U:Nat->Nat) (L0:List Nat) (s:Nat) (L:List Nat) (x:Nat):Prop:=
 SpT n x/\((FL U L x≠0/\L=goS n U L0 s)∨(FL U L x=0/\Way n U L s x/\∃ f,4*n+4<L.length+f/\goL U f L x=goS n U L0 s))
theorem GoSt.start {n:Nat} {U:Nat->Nat} (hU:Ties n U) {L:List Nat} {s:Nat} (h:Rest n U L) (hs:SpT n s):GoSt n U L s L s:=by
 refine⟨hs,?_⟩
 by_cases h0:s∈L∨acr s∈L
 · refine Or.inl ⟨fun hf=>?_,by unfold goS;rw[if_pos h0]⟩
   obtain⟨h1,h2⟩:=FL_zero.1 hf
   rcases h0 with h0|h0
   · exact h1 h0
   · have:=h.b _ h0
     unfold nxt at this
     rw[acr_acr]at this
     exact h2 this
 · have hw:=h.way hs (fun e=>h0 (Or.inl e)) (fun e=>h0 (Or.inr e))
   refine Or.inr ⟨FL_zero.2 ⟨fun e=>h0 (Or.inl e),(hw.new hU (fun e=>h0 (Or.inl e))).2⟩,hw,4*n+5,by omega,by unfold goS;rw[if_neg h0]⟩
theorem GoSt.step {n:Nat} {U:Nat->Nat} (hU:Ties n U) {L0 L:List Nat} {s x:Nat} (h:GoSt n U L0 s L x) (hf:FL U L x=0):GoSt n U L0 s (L++[x]) (nxt U x):=by
 rcases h.2 with⟨h1,-⟩|⟨-,hw,f,hlt,e⟩
 · exact absurd hf h1
 · obtain⟨hx,-⟩:=FL_zero.1 hf
   have hs:=hw.step hU hx
   refine⟨hs.xs,?_⟩
   have hsh:=hw.short
   obtain⟨g,rfl⟩:∃ g,f=g+1:=⟨f - 1,by omega⟩
   unfold goL at e
   rw[if_neg hx]at e
   by_cases hm:nxt U x∈L++[x]
   · refine Or.inl ⟨fun hz=>(FL_zero.1 hz).1 hm,?_⟩
     rw[<-e]
     cases g with
     |zero=>rfl
     |succ g=>unfold goL;rw[if_pos hm]
   · exact Or.inr ⟨FL_zero.2 ⟨hm,(hs.new hU hm).2⟩,hs,g,by simp;omega,e⟩
structure WlkSt (gW gP b B m n:Nat) (U:Nat->Nat) (k:Int) (row:List Int) (W:World):Prop where
 box:W.heap[gW]?=some (.cells #[.map (some b),.slice (some ⟨gP,0,none⟩) n n,.int .i64 k] 72 (0,0))
 row:W.ownsRow B 76 6 (.slice (some ⟨gP,0,none⟩) n n) n (intsV row)
 map:MapT W b m (SpT n) U
theorem row_block {W:World} {B e s n g cap:Nat} {xs:List Value} (h:W.ownsRow B e s (.slice (some ⟨g,0,none⟩) n cap) n xs):∃ cs,W.heap[g]?=some (.cells cs e (0,0)):=by
 rcases h.2 with⟨h1,_⟩|⟨g',cap',cur,h1,_,hg,_⟩
 · cases h1
 · injection h1 with e1
   injection e1 with e1
   injection e1 with e1
   subst e1
   exact⟨_,hg⟩
theorem WlkSt.any {gW gP b B m n:Nat} {U:Nat->Nat} {k:Int} {row:List Int} {W W':World} (h:WlkSt gW gP b B m n U k row W) (hg:W.grownBy W' none):WlkSt gW gP b B m n U k row W':=
 ⟨(hg.block gW (Array.getElem?_eq_some_iff.1 h.box).1 (by simp)).trans h.box,own_any h.row hg,h.map.kept hg (by simp)⟩
theorem WlkSt.ne {gW gP b B m n:Nat} {U:Nat->Nat} {k:Int} {row:List Int} {W:World} (h:WlkSt gW gP b B m n U k row W):gW≠gP/\b≠gP/\b≠gW:=by
 obtain⟨cs,hp⟩:=row_block h.row
 obtain⟨D,⟨es,clock,hm,-⟩,-⟩:=h.map
 have hb:=h.box
 refine⟨fun e=>?_,fun e=>?_,fun e=>?_⟩
 · rw[e,hp]at hb
   injection hb with hb
   injection hb with h1 h2
   exact absurd h2 (by decide)
 · rw[e,hp]at hm;cases hm
 · rw[e,hb]at hm;cases hm
theorem WlkSt.setRow {gW gP b B m n:Nat} {U:Nat->Nat} {k:Int} {row row':List Int} {W W':World} (h:WlkSt gW gP b B m n U k row W) (hr:W'.ownsRow B 76 6 (.slice (some ⟨gP,0,none⟩) n n) n (intsV row')) (hg:W.grownBy W' (some gP)):WlkSt gW gP b B m n U k row' W':=
 ⟨(hg.block gW (Array.getElem?_eq_some_iff.1 h.box).1 (fun e=>h.ne.1 (Option.some.inj e))).trans h.box,hr,h.map.kept hg (fun e=>h.ne.2.1 (Option.some.inj e))⟩
theorem WlkSt.setK {gW gP b B m n:Nat} {U:Nat->Nat} {k:Int} {row:List Int} {W:World} (h:WlkSt gW gP b B m n U k row W) (k':Int):WlkSt gW gP b B m n U k' row (W.setCell ⟨gW,2,none⟩ (.int .i64 k')):=by
 refine⟨by rw[set_block h.box];rfl,h.row.kept (set_grown _ _ _ _) (Or.inr (fun e=>h.ne.1 (Option.some.inj e).symm)),h.map.kept (set_grown _ _ _ _) (fun e=>h.ne.2.2 (Option.some.inj e))⟩
structure WlkAt (gW gP b B m n:Nat) (U:Nat->Nat) (k:Int) (row:List Int) (g c s:Nat) (W:World):Prop where
 st:WlkSt gW gP b B m n U k row W
 inn:W.heap[g]?=some (.cells #[.int .i64 (c:Nat),.int .i64 (s:Nat)] 66 (0,0))
theorem WlkAt.ne {gW gP b B m n:Nat} {U:Nat->Nat} {k:Int} {row:List Int} {g c s:Nat} {W:World} (h:WlkAt gW gP b B m n U k row g c s W):g≠gW/\g≠gP/\g≠b:=by
 obtain⟨cs,hp⟩:=row_block h.st.row
 obtain⟨D,⟨es,clock,hm,-⟩,-⟩:=h.st.map
 have hb:=h.st.box
 have hi:=h.inn
 refine⟨fun e=>?_,fun e=>?_,fun e=>?_⟩
 · rw[e,hb]at hi
   injection hi with hi
   injection hi with h1 h2
   exact absurd h2 (by decide)
 · rw[e,hp]at hi
   injection hi with hi
   injection hi with h1 h2
   exact absurd h2 (by decide)
 · rw[e,hm]at hi;cases hi
theorem WlkAt.any {gW gP b B m n:Nat} {U:Nat->Nat} {k:Int} {row:List Int} {g c s:Nat} {W W':World} (h:WlkAt gW gP b B m n U k row g c s W) (hg:W.grownBy W' none):WlkAt gW gP b B m n U k row g c s W':=
 ⟨h.st.any hg,(hg.block g (Array.getElem?_eq_some_iff.1 h.inn).1 (by simp)).trans h.inn⟩
theorem WlkAt.setRow {gW gP b B m n:Nat} {U:Nat->Nat} {k:Int} {row row':List Int} {g c s:Nat} {W W':World} (h:WlkAt gW gP b B m n U k row g c s W) (hr:W'.ownsRow B 76 6 (.slice (some ⟨gP,0,none⟩) n n) n (intsV row')) (hg:W.grownBy W' (some gP)):WlkAt gW gP b B m n U k row' g c s W':=
 ⟨h.st.setRow hr hg,(hg.block g (Array.getElem?_eq_some_iff.1 h.inn).1 (fun e=>h.ne.2.1 (Option.some.inj e))).trans h.inn⟩
theorem WlkAt.setK {gW gP b B m n:Nat} {U:Nat->Nat} {k:Int} {row:List Int} {g c s:Nat} {W:World} (h:WlkAt gW gP b B m n U k row g c s W) (k':Int):WlkAt gW gP b B m n U k' row g c s (W.setCell ⟨gW,2,none⟩ (.int .i64 k')):=
 ⟨h.st.setK k',((set_grown W gW 2 (.int .i64 k')).block g (Array.getElem?_eq_some_iff.1 h.inn).1 (fun e=>h.ne.1 (Option.some.inj e))).trans h.inn⟩
theorem WlkAt.cells {gW gP b B m n : Nat} {U : Nat → Nat} {k : Int} {row : List Int} {g c s : Nat} {W : World} (h : WlkAt gW gP b B m n U k row g c s W) :
    W.cell? ⟨g,0,none⟩=some (.int .i64 (c:Nat))/\W.cell? ⟨g,1,none⟩=some (.int .i64 (s:Nat))/\W.cell? ⟨gW,0,none⟩=some (.map (some b))/\W.cell? ⟨gW,1,none⟩=some (.slice (some ⟨gP,0,none⟩) n n)/\W.cell? ⟨gW,2,none⟩=some (.int .i64 k):=
 ⟨block_cell h.inn rfl,block_cell h.inn rfl,block_cell h.st.box rfl,block_cell h.st.box rfl,block_cell h.st.box rfl⟩
theorem WlkAt.lts {gW gP b B m n:Nat} {U:Nat->Nat} {k:Int} {row:List Int} {g c s:Nat} {W:World} (h:WlkAt gW gP b B m n U k row g c s W):g<W.heap.size/\gW<W.heap.size/\gP<W.heap.size:=
 ⟨(Array.getElem?_eq_some_iff.1 h.inn).1,(Array.getElem?_eq_some_iff.1 h.st.box).1,(h.st.row.lt gP rfl).2⟩
theorem WlkSt.rowLen {gW gP b B m n:Nat} {U:Nat->Nat} {k:Int} {row:List Int} {W:World} (h:WlkSt gW gP b B m n U k row W):row.length=n*6:=by
 have:=h.row.1
 simpa[intsV] using this
theorem WlkSt.rowCell {gW gP b B m n:Nat} {U:Nat->Nat} {k:Int} {row:List Int} {W:World} (h:WlkSt gW gP b B m n U k row W) (j:Nat) (hj:j<n*6):W.cell? ⟨gP,j,none⟩=some (.int .i64 (row.getD j 0)):=by
 rw[h.row.cellAt j hj,intsV_getG _ _ (by rw[h.rowLen];exact hj)]
end Go.Proofs.Ytgagenmkpmmpfaa
/- The walk of tangle.walker.walk. -/
namespace Go.Proofs.Ytgagenmkpmmpfaa
open Go.RowKit Go.Maps
set_option maxHeartbeats 16000000
set_option maxRecDepth 100000
theorem below_wk {B g:Nat} {w0 W X:World} (h:Below B w0 W) (hs:B<=W.heap.size) (hB:B<=g) (hg:W.grownBy X (some g)):Below B w0 X:=h.grown hg hs (fun q hq=>by have:=Option.some.inj hq;omega)
theorem drewN_grown (W:World) (n:Nat) (r:Option Nat):W.grownBy (W.drewN n) r:=grown_below (below_drewN (Below.refl _ _) n) r
def wkM (gW n:Nat) (W:World):Nat:=match W.cell? ⟨gW,2,none⟩ with
 |some (.int _ k)=>4*n+5-k.toNat
 |_=>0
theorem wkM_at {gW gP b B m n:Nat} {U:Nat->Nat} {k:Nat} {row:List Int} {W:World} (h:WlkSt gW gP b B m n U k row W):wkM gW n W=4*n+5-k:=by
 unfold wkM
 rw[show W.cell? ⟨gW,2,none⟩=some (.int .i64 (k:Nat)) from block_cell h.box rfl]
 simp
theorem walk_any (gW gP b B m n s : Nat) (U : Nat → Nat) (L : List Nat) (w0 w : World) (hU : Ties n U) (hn : n ≤ 16) (hL : Rest n U L) (hs : SpT n s) (hBW : B ≤ gW) (hBP : B ≤ gP) (hst : WlkSt gW gP b B m n U L.length (mapI (6 * n) (cellF U L)) w) (hB : Below B w0 w) (hBs : B ≤ w.heap.size) :
    Calls Try.prog 28 #[.pointer (some ⟨gW,0,none⟩),spV s] w fun r w'=>r=.returned (.tuple #[])/\WlkSt gW gP b B m n U (goS n U L s).length (mapI (6*n) (cellF U (goS n U L s))) w'/\Below B w0 w':=by
 have HU:Hid (Ties n U):=hU
 have HGO:Hid (GoSt n U L s L s):=GoSt.start hU hL hs
 obtain⟨G,hG⟩:∃ G,goS n U L s=G:=⟨_,rfl⟩
 have HG:Hid (goS n U L s=G):=hG
 rw[hG]
 rw[spV_at hs]
 have hsv:=hs
 unfold SpT at hsv
 obtain⟨c,hc⟩:∃ c,s / 4 - 1=c:=⟨_,rfl⟩
 obtain⟨t,ht⟩:∃ t,s%4=t:=⟨_,rfl⟩
 have HX:Hid (s=4*c+4+t/\c<n/\t<4):=(⟨by omega,by omega,by omega⟩:s=4*c+4+t/\c<n/\t<4)
 rw[hc,ht]
 obtain⟨Y,hY⟩:∃ Y,Y=(w.alloc (.cells #[.int .i64 (c:Nat),.int .i64 (t:Nat)] 66)).alloc (.cells #[.int .i64 (c:Nat),.int .i64 (t:Nat)] 66):=⟨_,rfl⟩
 have HY:Hid (Y=(w.alloc (.cells #[.int .i64 (c:Nat),.int .i64 (t:Nat)] 66)).alloc (.cells #[.int .i64 (c:Nat),.int .i64 (t:Nat)] 66)):=hY
 have hgY:w.grownBy Y none:=by rw[hY];exact grown_two (World.grownBy_alloc _ _ _) (World.grownBy_alloc _ _ _)
 have HAT:Hid (WlkAt gW gP b B m n U L.length (mapI (6*n) (cellF U L)) (w.heap.size+1) c t Y):=⟨hst.any hgY,(by rw[hY];have:=box_at (w.alloc (.cells #[.int .i64 (c:Nat),.int .i64 (t:Nat)] 66)) (.cells #[.int .i64 (c:Nat),.int .i64 (t:Nat)] 66);simpa using this)⟩
 have HBY:Hid (Below B w0 Y/\B<=Y.heap.size):=⟨hB.grown hgY hBs (fun q hq=>by cases hq),Nat.le_trans hBs hgY.size⟩
 have HGT:Hid (B<=w.heap.size+1):=(by omega:B<=w.heap.size+1)
 clear hY hgY hst hB hG hc ht hs hL hU hsv
 go_enter Try.func28,Try.ntmps28
 go_wp2
 rw[<-HY.out]
 go_loopw [4] (fun v4 wr=>∃ (K:List Nat) (x g cc ss:Nat),v4=.pointer (some ⟨g,0,none⟩)/\B<=g/\Hid (x=4*cc+4+ss/\cc<n/\ss<4)/\Hid (WlkAt gW gP b B m n U K.length (mapI (6*n) (cellF U K)) g cc ss wr)/\Hid (GoSt n U L s K x)/\Hid (Below B w0 wr/\B<=wr.heap.size)) (fun _ wr=>wkM gW n wr)
 case atStart=>exact⟨L,s,w.heap.size+1,c,t,rfl,HGT.out,HX.out,HAT.out,HGO.out,HBY.out⟩
 case round=>
  clear HAT HGO HBY HX HGT
  rename World=>W1
  obtain⟨K,x,g,cc,ss,rfl,hgB,hxc,hat,hgo,hbl⟩:=hrel
  obtain⟨c0,c1,d0,d1,d2⟩:=hat.out.cells
  obtain⟨l0,l1,l2⟩:=hat.out.lts
  have hxs:SpT n x:=hgo.out.1
  obtain⟨hx1,hx2,hx3⟩:=hxc.out
  have HIXA:Hid (ixA x=cc*6+ss):=(by unfold ixA;omega:ixA x=cc*6+ss)
  have e0:=hat.out.st.rowCell (cc*6+ss) (by omega)
  rw[mapI_at _ _ _ (by omega),<-HIXA.out,cellF_ix U K hxs,HIXA.out]at e0
  have hcI:(cc:Int)<(n:Int):=by omega
  have hsI:(ss:Int)<4:=by omega
  by_cases hF:FL U K x=0
  · have hway : Way n U K s x := by
      rcases hgo.out.2 with⟨h1,-⟩|⟨-,h1,-⟩
      · exact absurd hF h1
      · exact h1
    have hsh:=hway.short
    obtain⟨m1,m2⟩:=FL_zero.1 hF
    have m3:=(hway.new HU.out m1).1
    have HNX:Hid (GoSt n U L s (K++[x]) (nxt U x)):=hgo.out.step HU.out hF
    have HCS:Hid ((((mapI (6*n) (cellF U K)).set (ixA x) ((K.length:Int)+1)).set (ixA (U x)) ((K.length:Int)+1)).set (6*(x / 4-1)+4+x%2) ((x%4:Nat):Int)=mapI (6*n) (cellF U (K++[x]))):=cell_step HU.out hxs m1 m3 m2
    have HMS:Hid (wkM gW n W1=4*n+5-K.length):=wkM_at hat.out.st
    have HUX:Hid (SpT n (U x)):=HU.out.sp x hxs
    have HXS:Hid (SpT n x):=hxs
    rw[hF]at e0
    obtain⟨kk,hkk⟩:∃ kk,K.length=kk:=⟨_,rfl⟩
    have HKK:Hid (K.length=kk):=hkk
    rw[hkk]at hat HCS hsh HMS d2
    obtain⟨R,hR⟩:∃ R,mapI (6*n) (cellF U K)=R:=⟨_,rfl⟩
    rw[hR]at hat HCS
    have ewk:IntKind.i64.wrap ((kk:Int)+1)=(kk:Int)+1:=IntWalk.i64_in _ (by omega)
    clear hR hkk hway hF m1 m2 m3
    go_wp2
    go_quiet (fail)
    have HA1:Hid (WlkAt gW gP b B m n U kk R g cc ss (W1.drewN nq)):=hat.out.any (drewN_grown _ _ _)
    have HB1:Hid (Below B w0 (W1.drewN nq)/\B<=(W1.drewN nq).heap.size):=⟨hbl.out.1.grown (drewN_grown _ _ none) hbl.out.2 (fun q hq=>by cases hq),Nat.le_trans hbl.out.2 (drewN_grown _ _ none).size⟩
    clear c0 c1 d0 d1 d2 e0 l0 l1 l2 hat hbl
    generalize W1.drewN nq=V1 at HA1 HB1 ⊢
    obtain⟨c0,c1,d0,d1,d2⟩:=HA1.out.cells
    obtain⟨l0,l1,l2⟩:=HA1.out.lts
    have f2:V1.frozen? ⟨gW,2,none⟩=false:=froz HA1.out.st.box
    go_upto_region 5 with(fail)
    obtain⟨V2,hV2⟩:∃ V2,V2=V1.setCell ⟨gW,2,none⟩ (.int .i64 ((kk:Int)+1)):=⟨_,rfl⟩
    have HA2:Hid (WlkAt gW gP b B m n U ((kk:Int)+1) R g cc ss V2):=(by rw[hV2];exact HA1.out.setK _:WlkAt gW gP b B m n U ((kk:Int)+1) R g cc ss V2)
    have HB2:Hid (Below B w0 V2/\B<=V2.heap.size):=(by rw[hV2];exact⟨below_wk HB1.out.1 HB1.out.2 hBW (set_grown _ _ _ _),by simpa using HB1.out.2⟩:Below B w0 V2/\B<=V2.heap.size)
    rw[<-hV2]
    clear hV2 c0 c1 d0 d1 d2 l0 l1 l2 f2 HA1 HB1
    obtain⟨uc,huc⟩:∃ uc,U x / 4 - 1=uc:=⟨_,rfl⟩
    obtain⟨us,hus⟩:∃ us,U x%4=us:=⟨_,rfl⟩
    have HSX:Hid (spV x=.agg #[.int .i64 (cc:Nat),.int .i64 (ss:Nat)]):=(by rw[spV_at HXS.out,show x / 4-1=cc by omega,show x%4=ss by omega]:spV x=.agg #[.int .i64 (cc:Nat),.int .i64 (ss:Nat)])
    have HSU:Hid (spV (U x)=.agg #[.int .i64 (uc:Nat),.int .i64 (us:Nat)]):=(by rw[spV_at HUX.out,huc,hus]:spV (U x)=.agg #[.int .i64 (uc:Nat),.int .i64 (us:Nat)])
    have HN1:Hid (∀ V k R,WlkSt gW gP b B m n U k R V->Calls Try.prog 45 #[.pointer (some ⟨gW,0,none⟩),.agg #[.int .i64 (cc:Nat),.int .i64 (ss:Nat)]] V fun r w'=>r=.returned (.tuple #[])/\w'.ownsRow B 76 6 (.slice (some ⟨gP,0,none⟩) n n) n (intsV (R.set (ixA x) k))/\V.grownBy w' (some gP)):=fun V k R h=>by rw[<-HSX.out];exact number_any gW gP b B n x k R V HXS.out h.box h.row
    have HN2:Hid (∀ V k R,WlkSt gW gP b B m n U k R V->Calls Try.prog 45 #[.pointer (some ⟨gW,0,none⟩),.agg #[.int .i64 (uc:Nat),.int .i64 (us:Nat)]] V fun r w'=>r=.returned (.tuple #[])/\w'.ownsRow B 76 6 (.slice (some ⟨gP,0,none⟩) n n) n (intsV (R.set (ixA (U x)) k))/\V.grownBy w' (some gP)):=fun V k R h=>by rw[<-HSU.out];exact number_any gW gP b B n (U x) k R V HUX.out h.box h.row
    have hxU:x<80:=by omega
    have HLK:Hid (∀ V,MapT V b m (SpT n) U->(Instr.lookup 46 (.map (some b)) (.agg #[.int .i64 (cc:Nat),.int .i64 (ss:Nat)]) false).run Try.prog V=.ok (.agg #[.int .i64 (uc:Nat),.int .i64 (us:Nat)]) V):=fun V h=>by rw[<-HSX.out,<-HSU.out];exact h.look x HXS.out hxU
    clear huc hus
    obtain⟨c0,c1,d0,d1,d2⟩:=HA2.out.cells
    obtain⟨l0,l1,l2⟩:=HA2.out.lts
    go_upto_region 6 with(go_at_call 45;refine(HN1.out _ _ _ HA2.out.st).mono ?_;rintro e9 V3 ⟨rfl,hr3,hg3⟩)
    have HA3:Hid (WlkAt gW gP b B m n U ((kk:Int)+1) (R.set (ixA x) ((kk:Int)+1)) g cc ss V3):=HA2.out.setRow hr3 hg3
    have HB3:Hid (Below B w0 V3/\B<=V3.heap.size):=⟨below_wk HB2.out.1 HB2.out.2 hBP hg3,Nat.le_trans HB2.out.2 hg3.size⟩
    clear hr3 hg3 c0 c1 d0 d1 d2 l0 l1 l2 HA2 HB2 HN1
    have HA3d:Hid (WlkAt gW gP b B m n U ((kk:Int)+1) (R.set (ixA x) ((kk:Int)+1)) g cc ss V3.drew):=HA3.out.any (drewN_grown V3 1 none)
    obtain⟨c0,c1,d0,d1,d2⟩:=HA3.out.cells
    obtain⟨l0,l1,l2⟩:=HA3.out.lts
    have q1:=HLK.out V3.drew HA3d.out.st.map
    go_region_held3 (fun W => W.cell? ⟨g, 0, none⟩ = some (.int .i64 (cc : Nat)) ∧ W.cell? ⟨g, 1, none⟩ = some (.int .i64 (ss : Nat)) ∧ W.cell? ⟨gW, 0, none⟩ = some (.map (some b))) (first | exact ⟨c0, c1, d0⟩ | exact HK4.out) (first
     | (go_at_call 45; refine (HN2.out _ _ _ HA3d.out.st).mono ?_; rintro e9 V4 ⟨rfl, hr4, hg4⟩
        have HA4:Hid (WlkAt gW gP b B m n U ((kk:Int)+1) ((R.set (ixA x) ((kk:Int)+1)).set (ixA (U x)) ((kk:Int)+1)) g cc ss V4):=HA3d.out.setRow hr4 hg4
        have HB4:Hid (Below B w0 V4/\B<=V4.heap.size):=⟨below_wk (HB3.out.1.grown (drewN_grown V3 1 none) HB3.out.2 (fun q hq=>by cases hq)) (Nat.le_trans HB3.out.2 (drewN_grown V3 1 none).size) hBP hg4,Nat.le_trans (Nat.le_trans HB3.out.2 (drewN_grown V3 1 none).size) hg4.size⟩
        have HK4:Hid (V4.cell? ⟨g,0,none⟩=some (.int .i64 (cc:Nat))/\V4.cell? ⟨g,1,none⟩=some (.int .i64 (ss:Nat))/\V4.cell? ⟨gW,0,none⟩=some (.map (some b))):=⟨(HA3d.out.setRow hr4 hg4).cells.1,(HA3d.out.setRow hr4 hg4).cells.2.1,(HA3d.out.setRow hr4 hg4).cells.2.2.1⟩))
    clear q1 hr4 hg4 c0 c1 d0 d1 d2 l0 l1 l2 HA3 HB3 HA3d HN2 HK4
    obtain⟨R',hR'⟩:∃ R',(R.set (ixA x) ((kk:Int)+1)).set (ixA (U x)) ((kk:Int)+1)=R':=⟨_,rfl⟩
    have HR':Hid ((R.set (ixA x) ((kk:Int)+1)).set (ixA (U x)) ((kk:Int)+1)=R'):=hR'
    rw[hR']at HA4
    clear hR'
    obtain⟨nc,hnc⟩:∃ nc,nxt U x / 4 - 1=nc:=⟨_,rfl⟩
    obtain⟨ns,hns⟩:∃ ns,nxt U x%4=ns:=⟨_,rfl⟩
    have HNS:Hid (SpT n (nxt U x)):=HU.out.nxt_sp HXS.out
    have HNC:Hid (nxt U x=4*nc+4+ns/\nc<n/\ns<4):=(by have:=HNS.out;unfold SpT at this;exact⟨by omega,by omega,by omega⟩:nxt U x=4*nc+4+ns/\nc<n/\ns<4)
    have HSN:Hid (spV (nxt U x)=.agg #[.int .i64 (nc:Nat),.int .i64 (ns:Nat)]):=(by rw[spV_at HNS.out,hnc,hns]:spV (nxt U x)=.agg #[.int .i64 (nc:Nat),.int .i64 (ns:Nat)])
    have HSA : Hid (spV (acr x) = .agg #[.int .i64 (cc : Nat), .int .i64 ((ss + 2) % 4 : Nat)]) := (by
     have h1:=acr_sp HXS.out
     have h2:acr x=4*cc+4+(ss+2)%4:=by unfold acr;omega
     rw[spV_at h1,show acr x / 4-1=cc by omega,show acr x%4=(ss+2)%4 by omega]:spV (acr x)=.agg #[.int .i64 (cc:Nat),.int .i64 ((ss+2)%4:Nat)])
    obtain⟨s2,hs2⟩:∃ s2,(ss+2)%4=s2:=⟨_,rfl⟩
    rw[hs2]at HSA
    have HAC:Hid (∀ V,Calls Try.prog 44 #[.agg #[.int .i64 (cc:Nat),.int .i64 (ss:Nat)]] V fun e w'=>e=.returned (.agg #[.int .i64 (cc:Nat),.int .i64 (s2:Nat)])/\Below V.heap.size V w'):=fun V=>by rw[<-hs2];exact across_any (cc:Int) ss V hx3
    have HLN:Hid (∀ V,MapT V b m (SpT n) U->(Instr.lookup 46 (.map (some b)) (.agg #[.int .i64 (cc:Nat),.int .i64 (s2:Nat)]) false).run Try.prog V=.ok (.agg #[.int .i64 (nc:Nat),.int .i64 (ns:Nat)]) V):=fun V h=>by
     rw[<-HSA.out,<-HSN.out]
     have h1:=acr_sp HXS.out
     exact h.look (acr x) h1 (by unfold SpT at h1;omega)
    clear hnc hns hs2 HSX HSU HLK HSN HSA
    obtain⟨c0,c1,d0,d1,d2⟩:=HA4.out.cells
    obtain⟨l0,l1,l2⟩:=HA4.out.lts
    by_cases hodd:ss%2=1
    · have hde:decide (ss%2=1)=true:=by simp;omega
      have HCS2:Hid (R'.set (cc*6+5) (ss:Int)=mapI (6*n) (cellF U (K++[x]))):=(by rw[<-HCS.out,<-HR'.out,show 6*(x / 4-1)+4+x%2=cc*6+5 by omega,show x%4=ss by omega]:R'.set (cc*6+5) (ss:Int)=mapI (6*n) (cellF U (K++[x])))
      have HAB:Hid (∀ V,Calls Try.prog 46 #[.agg #[.int .i64 (cc:Nat),.int .i64 (ss:Nat)]] V fun e w'=>e=.returned (.bool true)/\Below V.heap.size V w'):=fun V=>by rw[<-hde];exact spotAbove_any (cc:Int) ss V hx3
      go_upto_region 8 with(go_at_call 46;refine(HAB.out _).mono ?_;rintro e9 V5 ⟨rfl,hb5⟩)
      have HA5:Hid (WlkAt gW gP b B m n U ((kk:Int)+1) R' g cc ss V5):=HA4.out.any (grown_below hb5 none)
      have HB5:Hid (Below B w0 V5/\B<=V5.heap.size):=⟨HB4.out.1.grown (grown_below hb5 none) HB4.out.2 (fun q hq=>by cases hq),Nat.le_trans HB4.out.2 hb5.size⟩
      clear hb5 c0 c1 d0 d1 d2 l0 l1 l2
      obtain⟨c0,c1,d0,d1,d2⟩:=HA5.out.cells
      obtain⟨l0,l1,l2⟩:=HA5.out.lts
      have e5:=HA5.out.st.rowCell (cc*6+5) (by omega)
      have f5:V5.frozen? ⟨gP,cc*6+5,none⟩=false:=HA5.out.st.row.frozenAt _
      have hst:=HA5.out.st.row.stored (cc*6+5) (.int .i64 (ss:Nat))
      rw[intsV_set]at hst
      obtain⟨V6,hV6⟩:∃ V6,V6=(V5.setCell ⟨gP,cc*6+5,none⟩ (.int .i64 (ss:Nat))).drew:=⟨_,rfl⟩
      have HV6:Hid (V6=(V5.setCell ⟨gP,cc*6+5,none⟩ (.int .i64 (ss:Nat))).drew):=hV6
      have HG6:Hid (V5.grownBy V6 (some gP)):=(by rw[hV6];exact grown_two hst.2 (drewN_grown _ 1 _):V5.grownBy V6 (some gP))
      have HA6:Hid (WlkAt gW gP b B m n U ((kk:Int)+1) (mapI (6*n) (cellF U (K++[x]))) g cc ss V6):=HA5.out.setRow (by rw[<-HCS2.out,hV6];exact own_any hst.1 (drewN_grown _ 1 none)) HG6.out
      have HB6:Hid (Below B w0 V6/\B<=V6.heap.size):=⟨below_wk HB5.out.1 HB5.out.2 hBP HG6.out,Nat.le_trans HB5.out.2 HG6.out.size⟩
      clear hst hV6
      apply cut_one
      case h=>
       intro key
       go_region_with (fail)
       all_goals exact key.out
      rw[<-HV6.out]
      clear c0 c1 d0 d1 d2 l0 l1 l2 e5 f5 HA5 HB5 HV6 HA4 HB4 HCS2
      obtain⟨c0,c1,d0,d1,d2⟩:=HA6.out.cells
      obtain⟨l0,l1,l2⟩:=HA6.out.lts
      go_wp2
      obtain⟨V7,hV7⟩:∃ V7,V7=V6.alloc (.cells #[.int .i64 (cc:Nat),.int .i64 (ss:Nat)] 66):=⟨_,rfl⟩
      rw[<-hV7]
      have hg7:V6.grownBy V7 none:=by rw[hV7];exact World.grownBy_alloc _ _ _
      have HA7:Hid (WlkAt gW gP b B m n U ((kk:Int)+1) (mapI (6*n) (cellF U (K++[x]))) V6.heap.size cc ss V7):=⟨HA6.out.st.any hg7,by rw[hV7];exact box_at _ _⟩
      have HB7:Hid (Below B w0 V7/\B<=V7.heap.size):=⟨HB6.out.1.grown hg7 HB6.out.2 (fun q hq=>by cases hq),Nat.le_trans HB6.out.2 hg7.size⟩
      have hg6B:B<=V6.heap.size:=HB6.out.2
      generalize V6.heap.size=g7 at HA7 hg6B ⊢
      clear hV7 hg7 c0 c1 d0 d1 d2 l0 l1 l2 HA6 HB6 HG6
      have HA7d:Hid (WlkAt gW gP b B m n U ((kk:Int)+1) (mapI (6*n) (cellF U (K++[x]))) g7 cc ss V7.drew):=HA7.out.any (drewN_grown V7 1 none)
      have HB7d:Hid (Below B w0 V7.drew/\B<=V7.drew.heap.size):=⟨HB7.out.1.grown (drewN_grown V7 1 none) HB7.out.2 (fun q hq=>by cases hq),Nat.le_trans HB7.out.2 (drewN_grown V7 1 none).size⟩
      obtain⟨c0,c1,d0,d1,d2⟩:=HA7.out.cells
      obtain⟨l0,l1,l2⟩:=HA7.out.lts
      have hnW:=HA7.out.ne
      have HXX:Hid (∀ V9,WlkAt gW gP b B m n U ((kk:Int)+1) (mapI (6*n) (cellF U (K++[x]))) g7 cc ss V9->(Below B w0 V9/\B<=V9.heap.size)->WlkAt gW gP b B m n U ((K++[x]).length:Nat) (mapI (6*n) (cellF U (K++[x]))) g7 nc ns ((V9.setCell ⟨g7,0,none⟩ (.int .i64 (nc:Nat))).setCell ⟨g7,1,none⟩ (.int .i64 (ns:Nat)))/\Below B w0 ((V9.setCell ⟨g7,0,none⟩ (.int .i64 (nc:Nat))).setCell ⟨g7,1,none⟩ (.int .i64 (ns:Nat)))/\B<=((V9.setCell ⟨g7,0,none⟩ (.int .i64 (nc:Nat))).setCell ⟨g7,1,none⟩ (.int .i64 (ns:Nat))).heap.size):=fun V9 hA hBB=>by
       have hgr:V9.grownBy ((V9.setCell ⟨g7,0,none⟩ (.int .i64 (nc:Nat))).setCell ⟨g7,1,none⟩ (.int .i64 (ns:Nat))) (some g7):=grown_two (set_grown _ _ _ _) (set_grown _ _ _ _)
       refine⟨⟨⟨?_,?_,?_⟩,by rw[set_block (set_block hA.inn)];rfl⟩,below_wk hBB.1 hBB.2 hg6B hgr,by simpa using hBB.2⟩
       · rw[show(((K++[x]).length:Nat):Int)=(kk:Int)+1 by rw[List.length_append,HKK.out];simp]
         exact(hgr.block gW hA.lts.2.1 (fun e=>hA.ne.1 (Option.some.inj e).symm)).trans hA.st.box
       · exact hA.st.row.kept hgr (Or.inr (fun e=>hA.ne.2.1 (Option.some.inj e).symm))
       · exact hA.st.map.kept hgr (fun e=>hA.ne.2.2 (Option.some.inj e).symm)
      have f0:V7.frozen? ⟨g7,0,none⟩=false:=froz HA7.out.inn
      have f1:V7.frozen? ⟨g7,1,none⟩=false:=froz HA7.out.inn
      go_region_with (first
       | (go_at_call 44; refine (HAC.out _).mono ?_; rintro e9 w9 ⟨rfl, hb9⟩
          have HA9:Hid (WlkAt gW gP b B m n U ((kk:Int)+1) (mapI (6*n) (cellF U (K++[x]))) g7 cc ss w9):=HA7d.out.any (grown_below hb9 none)
          have HB9:Hid (Below B w0 w9/\B<=w9.heap.size):=⟨HB7d.out.1.grown (grown_below hb9 none) HB7d.out.2 (fun q hq=>by cases hq),Nat.le_trans HB7d.out.2 hb9.size⟩
          clear hb9
          have q9:=HLN.out w9 HA9.out.st.map
          obtain⟨c0',c1',d0',d1',d2'⟩:=HA9.out.cells
          obtain⟨l0',l1',l2'⟩:=HA9.out.lts
          have f0':w9.frozen? ⟨g7,0,none⟩=false:=froz HA9.out.inn
          have f1':w9.frozen? ⟨g7,1,none⟩=false:=froz HA9.out.inn))
      all_goals
       have HFN:=HXX.out _ HA9.out HB9.out
       have HFN':Hid (WlkAt gW gP b B m n U ((K++[x]).length:Nat) (mapI (6*n) (cellF U (K++[x]))) g7 nc ns ((w9.setCell ⟨g7,0,none⟩ (.int .i64 (nc:Nat))).setCell ⟨g7,1,none⟩ (.int .i64 (ns:Nat)))/\Below B w0 ((w9.setCell ⟨g7,0,none⟩ (.int .i64 (nc:Nat))).setCell ⟨g7,1,none⟩ (.int .i64 (ns:Nat)))/\B<=((w9.setCell ⟨g7,0,none⟩ (.int .i64 (nc:Nat))).setCell ⟨g7,1,none⟩ (.int .i64 (ns:Nat))).heap.size):=HFN
       clear HFN q9 c0' c1' d0' d1' d2' l0' l1' l2' f0' f1' c0 c1 d0 d1 d2 l0 l1 l2 f0 f1
       go_wp2
       go_roundw
       case rel=>exact⟨K++[x],nxt U x,g7,nc,ns,rfl,hg6B,HNC.out,HFN'.out.1,HNX.out,HFN'.out.2⟩
       case measure=>
        show wkM gW n _<wkM gW n W1
        rw[HMS.out,wkM_at HFN'.out.1.st,List.length_append,HKK.out]
        simp only[List.length_cons,List.length_nil]
        omega
    · have hde:decide (ss%2=1)=false:=by simp;omega
      have HCS2:Hid (R'.set (cc*6+4) (ss:Int)=mapI (6*n) (cellF U (K++[x]))):=(by rw[<-HCS.out,<-HR'.out,show 6*(x / 4-1)+4+x%2=cc*6+4 by omega,show x%4=ss by omega]:R'.set (cc*6+4) (ss:Int)=mapI (6*n) (cellF U (K++[x])))
      have HAB:Hid (∀ V,Calls Try.prog 46 #[.agg #[.int .i64 (cc:Nat),.int .i64 (ss:Nat)]] V fun e w'=>e=.returned (.bool false)/\Below V.heap.size V w'):=fun V=>by rw[<-hde];exact spotAbove_any (cc:Int) ss V hx3
      go_upto_region 9 with(go_at_call 46;refine(HAB.out _).mono ?_;rintro e9 V5 ⟨rfl,hb5⟩)
      have HA5:Hid (WlkAt gW gP b B m n U ((kk:Int)+1) R' g cc ss V5):=HA4.out.any (grown_below hb5 none)
      have HB5:Hid (Below B w0 V5/\B<=V5.heap.size):=⟨HB4.out.1.grown (grown_below hb5 none) HB4.out.2 (fun q hq=>by cases hq),Nat.le_trans HB4.out.2 hb5.size⟩
      clear hb5 c0 c1 d0 d1 d2 l0 l1 l2
      obtain⟨c0,c1,d0,d1,d2⟩:=HA5.out.cells
      obtain⟨l0,l1,l2⟩:=HA5.out.lts
      have e5:=HA5.out.st.rowCell (cc*6+4) (by omega)
      have f5:V5.frozen? ⟨gP,cc*6+4,none⟩=false:=HA5.out.st.row.frozenAt _
      have hst:=HA5.out.st.row.stored (cc*6+4) (.int .i64 (ss:Nat))
      rw[intsV_set]at hst
      obtain⟨V6,hV6⟩:∃ V6,V6=(V5.setCell ⟨gP,cc*6+4,none⟩ (.int .i64 (ss:Nat))).drew:=⟨_,rfl⟩
      have HV6:Hid (V6=(V5.setCell ⟨gP,cc*6+4,none⟩ (.int .i64 (ss:Nat))).drew):=hV6
      have HG6:Hid (V5.grownBy V6 (some gP)):=(by rw[hV6];exact grown_two hst.2 (drewN_grown _ 1 _):V5.grownBy V6 (some gP))
      have HA6:Hid (WlkAt gW gP b B m n U ((kk:Int)+1) (mapI (6*n) (cellF U (K++[x]))) g cc ss V6):=HA5.out.setRow (by rw[<-HCS2.out,hV6];exact own_any hst.1 (drewN_grown _ 1 none)) HG6.out
      have HB6:Hid (Below B w0 V6/\B<=V6.heap.size):=⟨below_wk HB5.out.1 HB5.out.2 hBP HG6.out,Nat.le_trans HB5.out.2 HG6.out.size⟩
      clear hst hV6
      apply cut_one
      case h=>
       intro key
       go_region_with (fail)
       all_goals exact key.out
      rw[<-HV6.out]
      clear c0 c1 d0 d1 d2 l0 l1 l2 e5 f5 HA5 HB5 HV6 HA4 HB4 HCS2
      obtain⟨c0,c1,d0,d1,d2⟩:=HA6.out.cells
      obtain⟨l0,l1,l2⟩:=HA6.out.lts
      go_wp2
      obtain⟨V7,hV7⟩:∃ V7,V7=V6.alloc (.cells #[.int .i64 (cc:Nat),.int .i64 (ss:Nat)] 66):=⟨_,rfl⟩
      rw[<-hV7]
      have hg7:V6.grownBy V7 none:=by rw[hV7];exact World.grownBy_alloc _ _ _
      have HA7:Hid (WlkAt gW gP b B m n U ((kk:Int)+1) (mapI (6*n) (cellF U (K++[x]))) V6.heap.size cc ss V7):=⟨HA6.out.st.any hg7,by rw[hV7];exact box_at _ _⟩
      have HB7:Hid (Below B w0 V7/\B<=V7.heap.size):=⟨HB6.out.1.grown hg7 HB6.out.2 (fun q hq=>by cases hq),Nat.le_trans HB6.out.2 hg7.size⟩
      have hg6B:B<=V6.heap.size:=HB6.out.2
      generalize V6.heap.size=g7 at HA7 hg6B ⊢
      clear hV7 hg7 c0 c1 d0 d1 d2 l0 l1 l2 HA6 HB6 HG6
      have HA7d:Hid (WlkAt gW gP b B m n U ((kk:Int)+1) (mapI (6*n) (cellF U (K++[x]))) g7 cc ss V7.drew):=HA7.out.any (drewN_grown V7 1 none)
      have HB7d:Hid (Below B w0 V7.drew/\B<=V7.drew.heap.size):=⟨HB7.out.1.grown (drewN_grown V7 1 none) HB7.out.2 (fun q hq=>by cases hq),Nat.le_trans HB7.out.2 (drewN_grown V7 1 none).size⟩
      obtain⟨c0,c1,d0,d1,d2⟩:=HA7.out.cells
      obtain⟨l0,l1,l2⟩:=HA7.out.lts
      have hnW:=HA7.out.ne
      have HXX:Hid (∀ V9,WlkAt gW gP b B m n U ((kk:Int)+1) (mapI (6*n) (cellF U (K++[x]))) g7 cc ss V9->(Below B w0 V9/\B<=V9.heap.size)->WlkAt gW gP b B m n U ((K++[x]).length:Nat) (mapI (6*n) (cellF U (K++[x]))) g7 nc ns ((V9.setCell ⟨g7,0,none⟩ (.int .i64 (nc:Nat))).setCell ⟨g7,1,none⟩ (.int .i64 (ns:Nat)))/\Below B w0 ((V9.setCell ⟨g7,0,none⟩ (.int .i64 (nc:Nat))).setCell ⟨g7,1,none⟩ (.int .i64 (ns:Nat)))/\B<=((V9.setCell ⟨g7,0,none⟩ (.int .i64 (nc:Nat))).setCell ⟨g7,1,none⟩ (.int .i64 (ns:Nat))).heap.size):=fun V9 hA hBB=>by
       have hgr:V9.grownBy ((V9.setCell ⟨g7,0,none⟩ (.int .i64 (nc:Nat))).setCell ⟨g7,1,none⟩ (.int .i64 (ns:Nat))) (some g7):=grown_two (set_grown _ _ _ _) (set_grown _ _ _ _)
       refine⟨⟨⟨?_,?_,?_⟩,by rw[set_block (set_block hA.inn)];rfl⟩,below_wk hBB.1 hBB.2 hg6B hgr,by simpa using hBB.2⟩
       · rw[show(((K++[x]).length:Nat):Int)=(kk:Int)+1 by rw[List.length_append,HKK.out];simp]
         exact(hgr.block gW hA.lts.2.1 (fun e=>hA.ne.1 (Option.some.inj e).symm)).trans hA.st.box
       · exact hA.st.row.kept hgr (Or.inr (fun e=>hA.ne.2.1 (Option.some.inj e).symm))
       · exact hA.st.map.kept hgr (fun e=>hA.ne.2.2 (Option.some.inj e).symm)
      have f0:V7.frozen? ⟨g7,0,none⟩=false:=froz HA7.out.inn
      have f1:V7.frozen? ⟨g7,1,none⟩=false:=froz HA7.out.inn
      go_region_with (first
       | (go_at_call 44; refine (HAC.out _).mono ?_; rintro e9 w9 ⟨rfl, hb9⟩
          have HA9:Hid (WlkAt gW gP b B m n U ((kk:Int)+1) (mapI (6*n) (cellF U (K++[x]))) g7 cc ss w9):=HA7d.out.any (grown_below hb9 none)
          have HB9:Hid (Below B w0 w9/\B<=w9.heap.size):=⟨HB7d.out.1.grown (grown_below hb9 none) HB7d.out.2 (fun q hq=>by cases hq),Nat.le_trans HB7d.out.2 hb9.size⟩
          clear hb9
          have q9:=HLN.out w9 HA9.out.st.map
          obtain⟨c0',c1',d0',d1',d2'⟩:=HA9.out.cells
          obtain⟨l0',l1',l2'⟩:=HA9.out.lts
          have f0':w9.frozen? ⟨g7,0,none⟩=false:=froz HA9.out.inn
          have f1':w9.frozen? ⟨g7,1,none⟩=false:=froz HA9.out.inn))
      all_goals
       have HFN:=HXX.out _ HA9.out HB9.out
       have HFN':Hid (WlkAt gW gP b B m n U ((K++[x]).length:Nat) (mapI (6*n) (cellF U (K++[x]))) g7 nc ns ((w9.setCell ⟨g7,0,none⟩ (.int .i64 (nc:Nat))).setCell ⟨g7,1,none⟩ (.int .i64 (ns:Nat)))/\Below B w0 ((w9.setCell ⟨g7,0,none⟩ (.int .i64 (nc:Nat))).setCell ⟨g7,1,none⟩ (.int .i64 (ns:Nat)))/\B<=((w9.setCell ⟨g7,0,none⟩ (.int .i64 (nc:Nat))).setCell ⟨g7,1,none⟩ (.int .i64 (ns:Nat))).heap.size):=HFN
       clear HFN q9 c0' c1' d0' d1' d2' l0' l1' l2' f0' f1' c0 c1 d0 d1 d2 l0 l1 l2 f0 f1
       go_wp2
       go_roundw
       case rel=>exact⟨K++[x],nxt U x,g7,nc,ns,rfl,hg6B,HNC.out,HFN'.out.1,HNX.out,HFN'.out.2⟩
       case measure=>
        show wkM gW n _<wkM gW n W1
        rw[HMS.out,wkM_at HFN'.out.1.st,List.length_append,HKK.out]
        simp only[List.length_cons,List.length_nil]
        omega
  · have HKG : Hid (K = G) := (by
      rcases hgo.out.2 with⟨-,h1⟩|⟨h1,-⟩
      · exact h1.trans HG.out
      · exact absurd h1 hF:K=G)
    have hv:(FL U K x==0)=false:=beq_eq_false_iff_ne.2 hF
    have HFN:Hid (∀ nq,WlkSt gW gP b B m n U G.length (mapI (6*n) (cellF U G)) (W1.drewN nq)/\Below B w0 (W1.drewN nq)):=fun nq=>⟨by rw[<-HKG.out];exact hat.out.st.any (drewN_grown _ _ _),hbl.out.1.grown (drewN_grown _ _ none) hbl.out.2 (fun q hq=>by cases hq)⟩
    generalize FL U K x=v at e0 hv
    clear hF
    go_wp2
    go_quiet (fail)
    go_wp2
    exact bodyPost_end (v:=.tuple #[]) (results_none rfl _ _ _) rfl ⟨rfl,HFN.out _⟩
end Go.Proofs.Ytgagenmkpmmpfaa
/- The walk of tangle.twisted. -/
namespace Go.Proofs.Ytgagenmkpmmpfaa
open Go.RowKit Go.Maps
def tie0:Nat->Nat:=fun x=>if x=3 then 2 else if x=2 then 3 else if x=1 then 0 else 1
def stepT (T:Nat->Nat) (n:Nat) (right up:Bool):Nat->Nat:=
 if right=true then leadF (leadF T 1 (corT n up 0) (corT n up 1)) 3 (corT n up 2) (corT n up 3) else leadF (leadF T 2 (corT n up 0) (corT n up 2)) 3 (corT n up 1) (corT n up 3)
def twR (T:Nat->Nat) (n:Nat) (right up:Bool):Nat->(Nat->Nat)
 |0=>T
 |j+1=>stepT (twR T n right up j) (n+j) right up
def twL (l:List Int):Nat->(Nat->Nat)
 |0=>tie0
 |i+1=>twR (twL l i) (szTo l i) (decide (i%2=0)) (decide (0<l.getD i 0)) (l.getD i 0).natAbs
def Bd (T:Nat->Nat) (n:Nat):Prop:=∀ x,x<4*n+4->T x<4*n+4
theorem leadF_bd {T:Nat->Nat} {D:Nat->Prop} {e i o M:Nat} (h:∀ x,D x->T x<M) (he:D e) (heM:e<M) (hi:i<M) (ho:o<M):∀ x,(x=i∨x=o∨D x)->leadF T e i o x<M:=fun x hx=>by
 unfold leadF
 unfold tieF
 split
 · exact heM
 · split
   · exact ho
   · split
     · exact h e he
     · split
       · exact hi
       · rename_i h1 h2 h3 h4
         rcases hx with hx|hx|hx
         · exact absurd hx h3
         · exact absurd hx h1
         · exact h x hx
theorem cor_lt (n:Nat) (up:Bool) (c:Nat):corT n up c<4*(n+1)+4:=by
 have:=sdOf_lt up c
 unfold corT
 omega
theorem cor_all (n:Nat) (up:Bool) (x:Nat) (h1:4*n+4<=x) (h2:x<4*(n+1)+4):x=corT n up 0∨x=corT n up 1∨x=corT n up 2∨x=corT n up 3:=by
 cases up<;>simp only[corT,sdOf]<;>simp<;>omega
theorem stepT_bd {T:Nat->Nat} {n:Nat} (h:Bd T n) (right up:Bool):Bd (stepT T n right up) (n+1):=fun x hx=>by
 have c0:=cor_lt n up 0
 have c1:=cor_lt n up 1
 have c2:=cor_lt n up 2
 have c3:=cor_lt n up 3
 have hT:∀ x,x<4*n+4->T x<4*(n+1)+4:=fun x hx=>Nat.lt_of_lt_of_le (h x hx) (by omega)
 have hc:x<4*n+4∨x=corT n up 0∨x=corT n up 1∨x=corT n up 2∨x=corT n up 3:=by
  rcases Nat.lt_or_ge x (4*n+4) with h1|h1
  · exact Or.inl h1
  · exact Or.inr (cor_all n up x h1 hx)
 unfold stepT
 split
 · have h1:=leadF_bd (e:=1) hT (by omega) (by omega) c0 c1
   exact leadF_bd h1 (Or.inr (Or.inr (by omega))) (by omega) c2 c3 x (by omega)
 · have h1:=leadF_bd (e:=2) hT (by omega) (by omega) c0 c2
   exact leadF_bd h1 (Or.inr (Or.inr (by omega))) (by omega) c1 c3 x (by omega)
theorem twR_bd {T:Nat->Nat} {n:Nat} (h:Bd T n) (right up:Bool) (j:Nat):Bd (twR T n right up j) (n+j):=by
 induction j with
 |zero=>exact h
 |succ j ih=>exact stepT_bd ih right up
theorem tie0_bd:Bd tie0 0:=fun x hx=>by
 unfold tie0
 split
 · omega
 · split
   · omega
   · split<;>omega
theorem twL_bd (l:List Int) (i:Nat):Bd (twL l i) (szTo l i):=by
 induction i with
 |zero=>exact tie0_bd
 |succ i ih=>exact twR_bd ih _ _ _
def Dom (n:Nat):Nat->Prop:=fun x=>x<4*n+4
theorem step_calls (b m n : Nat) (T : Nat → Nat) (right up : Bool) (hT : Bd T n) (hn : n < 16) (hm : m ≤ 700) :
    ∃ e1 i1 o1 i2 o2,e1=(if right=true then 1 else 2)/\i1=corT n up 0/\o1=corT n up (if right=true then 1 else 2)/\i2=corT n up (if right=true then 2 else 1)/\o2=corT n up 3/\
    ∃ S1 T1,(∀ W,MapT W b m (Dom n) T->Calls Try.prog 27 #[.map (some b),.int .i64 (e1:Nat),spV i1,spV o1] W fun r w'=>r=.returned (.tuple #[])/\MapT w' b (m+4) S1 T1/\W.grownBy w' (some b))/\
     (∀ W,MapT W b (m+4) S1 T1->Calls Try.prog 27 #[.map (some b),.int .i64 (3:Nat),spV i2,spV o2] W fun r w'=>r=.returned (.tuple #[])/\MapT w' b (m+8) (Dom (n+1)) (stepT T n right up)/\W.grownBy w' (some b)):=by
 have c0:=cor_lt n up 0
 have c1:=cor_lt n up 1
 have c2:=cor_lt n up 2
 have c3:=cor_lt n up 3
 have hTM:∀ x,x<4*n+4->T x<4*(n+1)+4:=fun x hx=>Nat.lt_of_lt_of_le (hT x hx) (by omega)
 cases right with
 |true=>
  refine⟨1,_,_,_,_,rfl,rfl,rfl,rfl,rfl,_,_,fun W hW=>lead_any b m 1 (Dom n) T _ _ W hW (by omega) (by show 1<_;omega) (by have:=hT 1 (by omega);omega) (by omega) (by show corT n up 1<_;omega) (by omega),fun W hW=>?_⟩
  have hT3:leadF T 1 (corT n up 0) (corT n up 1) 3<4*(n+1)+4:=leadF_bd (e:=1) hTM (by omega) (by omega) c0 c1 3 (Or.inr (Or.inr (by omega)))
  refine(lead_any b (m+4) 3 _ _ _ _ W hW (by omega) (Or.inr (Or.inr (Or.inr (Or.inr (show 3<4*n+4 by omega))))) (by show leadF T 1 (corT n up 0) (corT n up 1) 3<80;omega) (by show corT n up 2<_;omega) (by omega) (by omega)).mono ?_
  rintro r w' ⟨h1,h2,h3⟩
  refine⟨h1,h2.congr (by omega) (fun x hx=>⟨?_,rfl⟩),h3⟩
  have hx2:x<4*(n+1)+4:=hx
  rcases Nat.lt_or_ge x (4*n+4) with h|h
  · exact Or.inr (Or.inr (Or.inr (Or.inr (Or.inr (Or.inr (Or.inr (Or.inr h)))))))
  · rcases cor_all n up x h hx2 with e|e|e|e
    · exact Or.inr (Or.inr (Or.inr (Or.inr (Or.inr (Or.inr (Or.inl e))))))
    · exact Or.inr (Or.inr (Or.inr (Or.inr (Or.inl e))))
    · exact Or.inr (Or.inr (Or.inl e))
    · exact Or.inl e
 |false=>
  refine⟨2,_,_,_,_,rfl,rfl,rfl,rfl,rfl,_,_,fun W hW=>lead_any b m 2 (Dom n) T _ _ W hW (by omega) (by show 2<_;omega) (by have:=hT 2 (by omega);omega) (by omega) (by show corT n up 2<_;omega) (by omega),fun W hW=>?_⟩
  have hT3:leadF T 2 (corT n up 0) (corT n up 2) 3<4*(n+1)+4:=leadF_bd (e:=2) hTM (by omega) (by omega) c0 c2 3 (Or.inr (Or.inr (by omega)))
  refine(lead_any b (m+4) 3 _ _ _ _ W hW (by omega) (Or.inr (Or.inr (Or.inr (Or.inr (show 3<4*n+4 by omega))))) (by show leadF T 2 (corT n up 0) (corT n up 2) 3<80;omega) (by show corT n up 1<_;omega) (by omega) (by omega)).mono ?_
  rintro r w' ⟨h1,h2,h3⟩
  refine⟨h1,h2.congr (by omega) (fun x hx=>⟨?_,rfl⟩),h3⟩
  have hx2:x<4*(n+1)+4:=hx
  rcases Nat.lt_or_ge x (4*n+4) with h|h
  · exact Or.inr (Or.inr (Or.inr (Or.inr (Or.inr (Or.inr (Or.inr (Or.inr h)))))))
  · rcases cor_all n up x h hx2 with e|e|e|e
    · exact Or.inr (Or.inr (Or.inr (Or.inr (Or.inr (Or.inr (Or.inl e))))))
    · exact Or.inr (Or.inr (Or.inl e))
    · exact Or.inr (Or.inr (Or.inr (Or.inr (Or.inl e))))
    · exact Or.inl e
end Go.Proofs.Ytgagenmkpmmpfaa
/- The walk of tangle.twisted. -/
namespace Go.Proofs.Ytgagenmkpmmpfaa
open Go.RowKit Go.Maps
set_option maxHeartbeats 8000000
set_option maxRecDepth 100000
theorem szTo_up (l:List Int) (i j:Nat) (h:i<=j):szTo l i<=szTo l j:=by
 induction j with
 |zero=>rw[Nat.le_zero.1 h];exact Nat.le_refl _
 |succ j ih=>
  by_cases e:i=j+1
  · rw[e];exact Nat.le_refl _
  · have:=ih (by omega)
    simp only[szTo]
    omega
theorem below_map {b:Nat} {w W X:World} (h:Below w.heap.size w W) (hB:w.heap.size<=b) (hg:W.grownBy X (some b)):Below w.heap.size w X:=h.grown hg h.size (fun q hq=>by have:=Option.some.inj hq;omega)
theorem makeTies (w:World):(Instr.makeMap 46 none).run Try.prog w=.ok (.map (some w.heap.size)) (w.alloc (.map #[] 0)):=rfl
theorem twisted_any (a : Option Addr) (cap : Nat) (l : List Int) (w : World) (hl : l.length ≤ 140737488355328) (hz : szTo l l.length ≤ 16) (hr : ∀ j, j < l.length → -16 ≤ l.getD j 0 ∧ l.getD j 0 ≤ 16) (h : RdAt w w.heap.size 1 (.slice a l.length cap) l.length (intsV l)) :
    Calls Try.prog 14 #[.slice a l.length cap] w fun e w'=>e=.returned (.tuple #[.map (some w.heap.size),.int .i64 (szTo l l.length:Nat)])/\MapT w' w.heap.size 400 (Dom (szTo l l.length)) (twL l l.length)/\Below w.heap.size w w':=by
 have HR:Hid (RdAt w w.heap.size 1 (.slice a l.length cap) l.length (intsV l)):=h
 have HRG:Hid (∀ j,j<l.length -> -16<=l.getD j 0/\l.getD j 0<=16):=hr
 have HSM:Hid (∀ i,i<=l.length->szTo l i<=16):=fun i hi=>Nat.le_trans (szTo_up l i _ hi) hz
 obtain⟨n,hN⟩:∃ n,l.length=n:=⟨_,rfl⟩
 have HN:Hid (l.length=n):=hN
 rw[hN]at hl ⊢
 obtain⟨Y,hY⟩:∃ Y,Y=w.alloc (.map #[] 0):=⟨_,rfl⟩
 have HY:Hid (Y=w.alloc (.map #[] 0)):=hY
 obtain⟨b,hb0⟩:∃ b,b=w.heap.size:=⟨_,rfl⟩
 have HB0:Hid (b=w.heap.size):=hb0
 have HM0:Hid (MapT Y b 0 (fun _=>False) tie0):=(by rw[hY,hb0];exact⟨_,World.ownsMap_made w _ _ _,fun x l hx=>hx.elim⟩:MapT Y b 0 (fun _=>False) tie0)
 have HBY:Hid (Below w.heap.size w Y):=(by rw[hY];exact(Below.refl _ _).alloc (Nat.le_refl _) _:Below w.heap.size w Y)
 have hbs:w.heap.size<=b/\b<=w.heap.size:=by omega
 have HT1:Hid (∀ W,MapT W b 0 (fun _=>False) tie0->Calls Try.prog 25 #[.map (some b),.agg #[.int .i64 (-1),.int .i64 0],.agg #[.int .i64 (-1),.int .i64 1]] W fun r w'=>r=.returned (.tuple #[])/\MapT w' b 2 (fun z=>z=1∨z=0∨False) (tieF tie0 0 1)/\W.grownBy w' (some b)):=fun W hW=>tie_any b 0 _ _ 0 1 W hW (by omega) (by omega) (by omega)
 have HT2 : Hid (∀ W, MapT W b 2 (fun z => z = 1 ∨ z = 0 ∨ False) (tieF tie0 0 1) → Calls Try.prog 25 #[.map (some b), .agg #[.int .i64 (-1), .int .i64 2], .agg #[.int .i64 (-1), .int .i64 3]] W fun r w' => r = .returned (.tuple #[]) ∧ MapT w' b 4 (Dom 0) tie0 ∧ W.grownBy w' (some b)) := fun W hW => (tie_any b 2 _ _ 2 3 W hW (by omega) (by omega) (by omega)).mono fun r w' ⟨h1, h2, h3⟩ => ⟨h1, h2.congr (by omega) (fun x hx => ⟨by have : x < 4 := hx; show x = 3 ∨ x = 2 ∨ x = 1 ∨ x = 0 ∨ False; omega, by
  have hx4:x<4:=hx
  have:x=0∨x=1∨x=2∨x=3:=by omega
  rcases this with rfl|rfl|rfl|rfl<;>rfl⟩),h3⟩
 rw[<-hb0]
 clear hY h hr hz hN
 go_enter Try.func14,Try.ntmps14
 have hmk:=makeTies w
 go_upto_region 2 with(fail)
 rw[<-HY.out,<-HB0.out]
 clear hb0 hmk
 go_upto_region 3 with(go_at_call 25;refine(HT1.out _ HM0.out).mono ?_;rintro e9 w1 ⟨rfl,hM1,hg1⟩)
 have HM1:Hid (MapT w1 b 2 (fun z=>z=1∨z=0∨False) (tieF tie0 0 1)):=hM1
 have HB1:Hid (Below w.heap.size w w1):=below_map HBY.out hbs.1 hg1
 clear hM1 hg1
 go_upto_region 4 with(go_at_call 25;refine(HT2.out _ HM1.out).mono ?_;rintro e9 w2 ⟨rfl,hM2,hg2⟩)
 have HM2:Hid (MapT w2 b 4 (Dom 0) tie0):=hM2
 have HB2:Hid (Below w.heap.size w w2):=below_map HB1.out hbs.1 hg2
 clear hM2 hg2 HT1 HT2 HM0 HBY HM1 HB1 HY
 go_wp2
 go_loopw [3,18] (fun v3 v18 wr=>∃ i s:Nat,i<=n/\s<=16/\v18=.int .i64 (i:Nat)/\v3=.int .i64 (s:Nat)/\Hid (szTo l i=s)/\Hid (MapT wr b (8*s+4) (Dom s) (twL l i))/\Hid (Below w.heap.size w wr)) (fun _ v18 _=>n-(intOf v18).toNat)
 case atStart=>exact⟨0,0,Nat.zero_le _,Nat.zero_le _,rfl,rfl,rfl,HM2.out,HB2.out⟩
 case round=>
  clear HM2 HB2
  rename World=>W1
  obtain⟨i,s,hin,hs16,rfl,rfl,hsz,hM,hb⟩:=hrel
  by_cases hil:i<n
  · obtain⟨ba,off,ea,hbw,hc⟩:=HR.out.intAt i (by rw[HN.out];exact hil)
    have e0:=bcell hb.out hbw hc
    have hsW:=hb.out.size
    have hbW:ba<W1.heap.size:=by omega
    have hrg:=HRG.out i (by rw[HN.out];exact hil)
    have hs2:=HSM.out (i+1) (by rw[HN.out];exact hil)
    have HS1:Hid (szTo l (i+1)=s+(l.getD i 0).natAbs):=(by show szTo l i+_=_;rw[hsz.out]:szTo l (i+1)=s+(l.getD i 0).natAbs)
    rw[HS1.out]at hs2
    have HTW:Hid (∀ z,(l.getD i 0).natAbs=z->twL l (i+1)=twR (twL l i) s (decide (i%2=0)) (decide (0<l.getD i 0)) z):=fun z hz=>by show twR (twL l i) (szTo l i) _ _ _=_;rw[hsz.out,hz]
    have HBD:Hid (Bd (twL l i) s):=(by have:=twL_bd l i;rw[hsz.out]at this;exact this:Bd (twL l i) s)
    obtain⟨x,hx⟩:∃ x,l.getD i 0=x:=⟨_,rfl⟩
    rw[hx]at e0 hrg hs2 HS1 HTW
    obtain⟨z,hzz⟩:∃ z,x.natAbs=z:=⟨_,rfl⟩
    have HZ:Hid (x.natAbs=z):=hzz
    have HTZ:Hid (twL l (i+1)=twR (twL l i) s (decide (i%2=0)) (decide (0<x)) z):=HTW.out z hzz
    rw[hzz]at hs2 HS1
    have HSZ:Hid (∀ W,Calls Try.prog 24 #[.int .i64 x] W fun e w'=>e=.returned (.int .i64 (z:Nat))/\w'=W):=fun W=>by rw[<-hzz];exact size_any x W (by omega) (by omega)
    subst ea
    clear hx hzz hc HTW
    generalize twL l i=T at hM HTZ HBD
    have HBJ:Hid (∀ r u j,Bd (twR T s r u j) (s+j)):=fun r u j=>twR_bd HBD.out r u j
    go_upto_region 8 with(go_at_call 24;refine(HSZ.out _).mono ?_;rintro e9 w9 ⟨rfl,rfl⟩)
    clear e0
    go_loopw [3,25] (fun v3 v25 wr=>∃ j t:Nat,j<=z/\t<=s+j/\s+j<=t/\v25=.int .i64 (j:Nat)/\v3=.int .i64 (t:Nat)/\Hid (MapT wr b (8*t+4) (Dom t) (twR T s (decide (i%2=0)) (decide (0<x)) j))/\Hid (Below w.heap.size w wr)) (fun _ v25 _=>z-(intOf v25).toNat)
    case atStart=>exact⟨0,s,Nat.zero_le _,by omega,by omega,rfl,rfl,hM.out,hb.out⟩
    case round=>
     clear hM hb hsW hbW
     rename World=>W2
     obtain⟨j,t,hjz,ht1,ht2,rfl,rfl,hM,hb⟩:=hrel
     by_cases hjl:j<z
     · have HTS:Hid (twR T s (decide (i%2=0)) (decide (0<x)) (j+1)=stepT (twR T s (decide (i%2=0)) (decide (0<x)) j) t (decide (i%2=0)) (decide (0<x))):=(by show stepT _ (s+j) _ _=_;rw[show s+j=t by omega]:twR T s (decide (i%2=0)) (decide (0<x)) (j+1)=stepT (twR T s (decide (i%2=0)) (decide (0<x)) j) t (decide (i%2=0)) (decide (0<x)))
       have hbj:=HBJ.out (decide (i%2=0)) (decide (0<x)) j
       rw[show s+j=t by omega]at hbj
       have er:(i:Int).tmod 2=((i%2:Nat):Int):=rfl
       generalize twR T s (decide (i%2=0)) (decide (0<x)) j=U at hM HTS hbj
       have ht16:t<16:=by omega
       by_cases hx0:0<x
       · by_cases hi0:i%2=0
         · have hdx:decide (0<x)=true:=by simp;omega
           have hdi:decide (i%2=0)=true:=by simp;omega
           have HTS2:Hid (twR T s (decide (i%2=0)) (decide (0<x)) (j+1)=stepT U t true true):=(by have h2:=HTS.out;rw[hdx,hdi]at h2 ⊢;exact h2:twR T s (decide (i%2=0)) (decide (0<x)) (j+1)=stepT U t true true)
           obtain⟨r,hrr⟩:∃ r,i%2=r:=⟨_,rfl⟩
           have hr2:r<2:=by omega
           rw[hrr]at er
           obtain rfl:r=0:=by omega
           obtain⟨e1,i1,o1,i2,o2,rfl,rfl,rfl,rfl,rfl,S1,T1,hL1,hL2⟩:=step_calls b (8*t+4) t U true true hbj ht16 (by omega)
           have HL1:Hid (∀ W,MapT W b (8*t+4) (Dom t) U->Calls Try.prog 27 #[.map (some b),.int .i64 1,.agg #[.int .i64 (t:Nat),.int .i64 0],.agg #[.int .i64 (t:Nat),.int .i64 3]] W fun r w'=>r=.returned (.tuple #[])/\MapT w' b (8*t+4+4) S1 T1/\W.grownBy w' (some b)):=fun W hW=>by
            have:=hL1 W hW
            rw[spV_cor,spV_cor]at this
            exact this
           have HL2:Hid (∀ W,MapT W b (8*t+4+4) S1 T1->Calls Try.prog 27 #[.map (some b),.int .i64 3,.agg #[.int .i64 (t:Nat),.int .i64 1],.agg #[.int .i64 (t:Nat),.int .i64 2]] W fun r w'=>r=.returned (.tuple #[])/\MapT w' b (8*t+4+8) (Dom (t+1)) (stepT U t true true)/\W.grownBy w' (some b)):=fun W hW=>by
            have:=hL2 W hW
            rw[spV_cor,spV_cor]at this
            exact this
           have HCR:Hid (∀ W,Calls Try.prog 26 #[.int .i64 (t:Nat),.bool true] W fun r w'=>r=.returned (.agg #[.int .i64 (t:Nat),.int .i64 0,.int .i64 (t:Nat),.int .i64 3,.int .i64 (t:Nat),.int .i64 1,.int .i64 (t:Nat),.int .i64 2])/\Below W.heap.size W w'):=fun W=>corners_up t W
           clear hL1 hL2 hrr hbj hdi
           go_upto_region 11 with(go_at_call 26;refine(HCR.out _).mono ?_;rintro e9 w3 ⟨rfl,hb3⟩)
           obtain⟨Y,hY⟩:∃ Y,Y=w3.alloc (.cells #[.int .i64 (t:Nat),.int .i64 0,.int .i64 (t:Nat),.int .i64 3,.int .i64 (t:Nat),.int .i64 1,.int .i64 (t:Nat),.int .i64 2] 67):=⟨_,rfl⟩
           have hBY:Below W2.heap.size W2 Y:=by rw[hY];exact hb3.alloc hb3.size _
           have HBY:Hid (Below w.heap.size w Y):=hb.out.trans (hBY.mono hb.out.size)
           have HMY:Hid (MapT Y b (8*t+4) (Dom t) U):=hM.out.kept (row:=none) ⟨hBY.os,hBY.tape,hBY.output,hBY.size,fun k hk _=>hBY.block k hk⟩ (by simp)
           have hblt:=hM.out.lt
           have hb3s:=hb3.size
           have HKB:Hid (∀ W,Y.grownBy W (some b)->W.heap[w3.heap.size]?=some (.cells #[.int .i64 (t:Nat),.int .i64 0,.int .i64 (t:Nat),.int .i64 3,.int .i64 (t:Nat),.int .i64 1,.int .i64 (t:Nat),.int .i64 2] 67 (0,0))):=fun W hW=>(hW.block _ (by rw[hY];simp) (fun e=>by have:=Option.some.inj e;omega)).trans (by rw[hY];exact box_at _ _)
           rw[<-hY]
           have hb5:=HKB.out Y (World.grownBy.refl _ _)
           have k0:Y.cell? ⟨w3.heap.size,0,none⟩=some (.int .i64 (t:Nat)):=block_cell hb5 rfl
           have k1:Y.cell? ⟨w3.heap.size,1,none⟩=some (.int .i64 0):=block_cell hb5 rfl
           have k2:Y.cell? ⟨w3.heap.size,2,none⟩=some (.int .i64 (t:Nat)):=block_cell hb5 rfl
           have k3:Y.cell? ⟨w3.heap.size,3,none⟩=some (.int .i64 3):=block_cell hb5 rfl
           have k4:Y.cell? ⟨w3.heap.size,4,none⟩=some (.int .i64 (t:Nat)):=block_cell hb5 rfl
           have k5:Y.cell? ⟨w3.heap.size,5,none⟩=some (.int .i64 1):=block_cell hb5 rfl
           have k6:Y.cell? ⟨w3.heap.size,6,none⟩=some (.int .i64 (t:Nat)):=block_cell hb5 rfl
           have k7:Y.cell? ⟨w3.heap.size,7,none⟩=some (.int .i64 2):=block_cell hb5 rfl
           have hlY:w3.heap.size<Y.heap.size:=(Array.getElem?_eq_some_iff.1 hb5).1
           clear hY hBY hb3 hb5 hb3s
           go_upto_region 12 with(go_at_call 27;refine(HL1.out _ HMY.out).mono ?_;rintro e9 w4 ⟨rfl,hM4,hg4⟩)
           have HM4:Hid (MapT w4 b (8*t+4+4) S1 T1):=hM4
           have HG4:Hid (Y.grownBy w4 (some b)):=hg4
           have hb5:=HKB.out w4 hg4
           clear k0 k1 k2 k3 k4 k5 k6 k7 hM4 hg4 hlY
           have k0:w4.cell? ⟨w3.heap.size,0,none⟩=some (.int .i64 (t:Nat)):=block_cell hb5 rfl
           have k1:w4.cell? ⟨w3.heap.size,1,none⟩=some (.int .i64 0):=block_cell hb5 rfl
           have k2:w4.cell? ⟨w3.heap.size,2,none⟩=some (.int .i64 (t:Nat)):=block_cell hb5 rfl
           have k3:w4.cell? ⟨w3.heap.size,3,none⟩=some (.int .i64 3):=block_cell hb5 rfl
           have k4:w4.cell? ⟨w3.heap.size,4,none⟩=some (.int .i64 (t:Nat)):=block_cell hb5 rfl
           have k5:w4.cell? ⟨w3.heap.size,5,none⟩=some (.int .i64 1):=block_cell hb5 rfl
           have k6:w4.cell? ⟨w3.heap.size,6,none⟩=some (.int .i64 (t:Nat)):=block_cell hb5 rfl
           have k7:w4.cell? ⟨w3.heap.size,7,none⟩=some (.int .i64 2):=block_cell hb5 rfl
           have hlY:w3.heap.size<w4.heap.size:=(Array.getElem?_eq_some_iff.1 hb5).1
           clear hb5
           go_wp2_with (go_at_call 27;refine(HL2.out _ HM4.out).mono ?_;rintro e9 w5 ⟨rfl,hM5,hg5⟩;refine Hid.out ?_)
           refine Lib.hid ?_
           have HFN:Hid (MapT w5 b (8*(t+1)+4) (Dom (t+1)) (twR T s (decide (i%2=0)) (decide (0<x)) (j+1))/\Below w.heap.size w w5):=⟨by rw[HTS2.out];exact hM5.congr (by omega) (fun x hx=>⟨hx,rfl⟩),below_map HBY.out hbs.1 (grown_two HG4.out hg5)⟩
           clear hM5 hg5 k0 k1 k2 k3 k4 k5 k6 k7
           go_wp2
           go_roundw
           case rel=>exact⟨j+1,t+1,by omega,by omega,by omega,by go_num,by go_num,HFN.out.1,HFN.out.2⟩
           case measure=>simp only[intOf];omega
         · have hdx:decide (0<x)=true:=by simp;omega
           have hdi:decide (i%2=0)=false:=by simp;omega
           have HTS2:Hid (twR T s (decide (i%2=0)) (decide (0<x)) (j+1)=stepT U t false true):=(by have h2:=HTS.out;rw[hdx,hdi]at h2 ⊢;exact h2:twR T s (decide (i%2=0)) (decide (0<x)) (j+1)=stepT U t false true)
           obtain⟨r,hrr⟩:∃ r,i%2=r:=⟨_,rfl⟩
           have hr2:r<2:=by omega
           rw[hrr]at er
           have hrz:((r:Int)==0)=false:=by simp;omega
           obtain⟨e1,i1,o1,i2,o2,rfl,rfl,rfl,rfl,rfl,S1,T1,hL1,hL2⟩:=step_calls b (8*t+4) t U false true hbj ht16 (by omega)
           have HL1:Hid (∀ W,MapT W b (8*t+4) (Dom t) U->Calls Try.prog 27 #[.map (some b),.int .i64 2,.agg #[.int .i64 (t:Nat),.int .i64 0],.agg #[.int .i64 (t:Nat),.int .i64 1]] W fun r w'=>r=.returned (.tuple #[])/\MapT w' b (8*t+4+4) S1 T1/\W.grownBy w' (some b)):=fun W hW=>by
            have:=hL1 W hW
            rw[spV_cor,spV_cor]at this
            exact this
           have HL2:Hid (∀ W,MapT W b (8*t+4+4) S1 T1->Calls Try.prog 27 #[.map (some b),.int .i64 3,.agg #[.int .i64 (t:Nat),.int .i64 3],.agg #[.int .i64 (t:Nat),.int .i64 2]] W fun r w'=>r=.returned (.tuple #[])/\MapT w' b (8*t+4+8) (Dom (t+1)) (stepT U t false true)/\W.grownBy w' (some b)):=fun W hW=>by
            have:=hL2 W hW
            rw[spV_cor,spV_cor]at this
            exact this
           have HCR:Hid (∀ W,Calls Try.prog 26 #[.int .i64 (t:Nat),.bool true] W fun r w'=>r=.returned (.agg #[.int .i64 (t:Nat),.int .i64 0,.int .i64 (t:Nat),.int .i64 3,.int .i64 (t:Nat),.int .i64 1,.int .i64 (t:Nat),.int .i64 2])/\Below W.heap.size W w'):=fun W=>corners_up t W
           clear hL1 hL2 hrr hbj hdi
           go_upto_region 13 with(go_at_call 26;refine(HCR.out _).mono ?_;rintro e9 w3 ⟨rfl,hb3⟩)
           obtain⟨Y,hY⟩:∃ Y,Y=w3.alloc (.cells #[.int .i64 (t:Nat),.int .i64 0,.int .i64 (t:Nat),.int .i64 3,.int .i64 (t:Nat),.int .i64 1,.int .i64 (t:Nat),.int .i64 2] 67):=⟨_,rfl⟩
           have hBY:Below W2.heap.size W2 Y:=by rw[hY];exact hb3.alloc hb3.size _
           have HBY:Hid (Below w.heap.size w Y):=hb.out.trans (hBY.mono hb.out.size)
           have HMY:Hid (MapT Y b (8*t+4) (Dom t) U):=hM.out.kept (row:=none) ⟨hBY.os,hBY.tape,hBY.output,hBY.size,fun k hk _=>hBY.block k hk⟩ (by simp)
           have hblt:=hM.out.lt
           have hb3s:=hb3.size
           have HKB:Hid (∀ W,Y.grownBy W (some b)->W.heap[w3.heap.size]?=some (.cells #[.int .i64 (t:Nat),.int .i64 0,.int .i64 (t:Nat),.int .i64 3,.int .i64 (t:Nat),.int .i64 1,.int .i64 (t:Nat),.int .i64 2] 67 (0,0))):=fun W hW=>(hW.block _ (by rw[hY];simp) (fun e=>by have:=Option.some.inj e;omega)).trans (by rw[hY];exact box_at _ _)
           rw[<-hY]
           have hb5:=HKB.out Y (World.grownBy.refl _ _)
           have k0:Y.cell? ⟨w3.heap.size,0,none⟩=some (.int .i64 (t:Nat)):=block_cell hb5 rfl
           have k1:Y.cell? ⟨w3.heap.size,1,none⟩=some (.int .i64 0):=block_cell hb5 rfl
           have k2:Y.cell? ⟨w3.heap.size,2,none⟩=some (.int .i64 (t:Nat)):=block_cell hb5 rfl
           have k3:Y.cell? ⟨w3.heap.size,3,none⟩=some (.int .i64 3):=block_cell hb5 rfl
           have k4:Y.cell? ⟨w3.heap.size,4,none⟩=some (.int .i64 (t:Nat)):=block_cell hb5 rfl
           have k5:Y.cell? ⟨w3.heap.size,5,none⟩=some (.int .i64 1):=block_cell hb5 rfl
           have k6:Y.cell? ⟨w3.heap.size,6,none⟩=some (.int .i64 (t:Nat)):=block_cell hb5 rfl
           have k7:Y.cell? ⟨w3.heap.size,7,none⟩=some (.int .i64 2):=block_cell hb5 rfl
           have hlY:w3.heap.size<Y.heap.size:=(Array.getElem?_eq_some_iff.1 hb5).1
           clear hY hBY hb3 hb5 hb3s
           go_upto_region 14 with(go_at_call 27;refine(HL1.out _ HMY.out).mono ?_;rintro e9 w4 ⟨rfl,hM4,hg4⟩)
           have HM4:Hid (MapT w4 b (8*t+4+4) S1 T1):=hM4
           have HG4:Hid (Y.grownBy w4 (some b)):=hg4
           have hb5:=HKB.out w4 hg4
           clear k0 k1 k2 k3 k4 k5 k6 k7 hM4 hg4 hlY
           have k0:w4.cell? ⟨w3.heap.size,0,none⟩=some (.int .i64 (t:Nat)):=block_cell hb5 rfl
           have k1:w4.cell? ⟨w3.heap.size,1,none⟩=some (.int .i64 0):=block_cell hb5 rfl
           have k2:w4.cell? ⟨w3.heap.size,2,none⟩=some (.int .i64 (t:Nat)):=block_cell hb5 rfl
           have k3:w4.cell? ⟨w3.heap.size,3,none⟩=some (.int .i64 3):=block_cell hb5 rfl
           have k4:w4.cell? ⟨w3.heap.size,4,none⟩=some (.int .i64 (t:Nat)):=block_cell hb5 rfl
           have k5:w4.cell? ⟨w3.heap.size,5,none⟩=some (.int .i64 1):=block_cell hb5 rfl
           have k6:w4.cell? ⟨w3.heap.size,6,none⟩=some (.int .i64 (t:Nat)):=block_cell hb5 rfl
           have k7:w4.cell? ⟨w3.heap.size,7,none⟩=some (.int .i64 2):=block_cell hb5 rfl
           have hlY:w3.heap.size<w4.heap.size:=(Array.getElem?_eq_some_iff.1 hb5).1
           clear hb5
           go_wp2_with (go_at_call 27;refine(HL2.out _ HM4.out).mono ?_;rintro e9 w5 ⟨rfl,hM5,hg5⟩;refine Hid.out ?_)
           refine Lib.hid ?_
           have HFN:Hid (MapT w5 b (8*(t+1)+4) (Dom (t+1)) (twR T s (decide (i%2=0)) (decide (0<x)) (j+1))/\Below w.heap.size w w5):=⟨by rw[HTS2.out];exact hM5.congr (by omega) (fun x hx=>⟨hx,rfl⟩),below_map HBY.out hbs.1 (grown_two HG4.out hg5)⟩
           clear hM5 hg5 k0 k1 k2 k3 k4 k5 k6 k7
           go_wp2
           go_roundw
           case rel=>exact⟨j+1,t+1,by omega,by omega,by omega,by go_num,by go_num,HFN.out.1,HFN.out.2⟩
           case measure=>simp only[intOf];omega
       · by_cases hi0:i%2=0
         · have hdx:decide (0<x)=false:=by simp;omega
           have hdi:decide (i%2=0)=true:=by simp;omega
           have HTS2:Hid (twR T s (decide (i%2=0)) (decide (0<x)) (j+1)=stepT U t true false):=(by have h2:=HTS.out;rw[hdx,hdi]at h2 ⊢;exact h2:twR T s (decide (i%2=0)) (decide (0<x)) (j+1)=stepT U t true false)
           obtain⟨r,hrr⟩:∃ r,i%2=r:=⟨_,rfl⟩
           have hr2:r<2:=by omega
           rw[hrr]at er
           obtain rfl:r=0:=by omega
           obtain⟨e1,i1,o1,i2,o2,rfl,rfl,rfl,rfl,rfl,S1,T1,hL1,hL2⟩:=step_calls b (8*t+4) t U true false hbj ht16 (by omega)
           have HL1:Hid (∀ W,MapT W b (8*t+4) (Dom t) U->Calls Try.prog 27 #[.map (some b),.int .i64 1,.agg #[.int .i64 (t:Nat),.int .i64 3],.agg #[.int .i64 (t:Nat),.int .i64 2]] W fun r w'=>r=.returned (.tuple #[])/\MapT w' b (8*t+4+4) S1 T1/\W.grownBy w' (some b)):=fun W hW=>by
            have:=hL1 W hW
            rw[spV_cor,spV_cor]at this
            exact this
           have HL2:Hid (∀ W,MapT W b (8*t+4+4) S1 T1->Calls Try.prog 27 #[.map (some b),.int .i64 3,.agg #[.int .i64 (t:Nat),.int .i64 0],.agg #[.int .i64 (t:Nat),.int .i64 1]] W fun r w'=>r=.returned (.tuple #[])/\MapT w' b (8*t+4+8) (Dom (t+1)) (stepT U t true false)/\W.grownBy w' (some b)):=fun W hW=>by
            have:=hL2 W hW
            rw[spV_cor,spV_cor]at this
            exact this
           have HCR:Hid (∀ W,Calls Try.prog 26 #[.int .i64 (t:Nat),.bool false] W fun r w'=>r=.returned (.agg #[.int .i64 (t:Nat),.int .i64 3,.int .i64 (t:Nat),.int .i64 2,.int .i64 (t:Nat),.int .i64 0,.int .i64 (t:Nat),.int .i64 1])/\Below W.heap.size W w'):=fun W=>corners_down t W
           clear hL1 hL2 hrr hbj hdi
           go_upto_region 11 with(go_at_call 26;refine(HCR.out _).mono ?_;rintro e9 w3 ⟨rfl,hb3⟩)
           obtain⟨Y,hY⟩:∃ Y,Y=w3.alloc (.cells #[.int .i64 (t:Nat),.int .i64 3,.int .i64 (t:Nat),.int .i64 2,.int .i64 (t:Nat),.int .i64 0,.int .i64 (t:Nat),.int .i64 1] 67):=⟨_,rfl⟩
           have hBY:Below W2.heap.size W2 Y:=by rw[hY];exact hb3.alloc hb3.size _
           have HBY:Hid (Below w.heap.size w Y):=hb.out.trans (hBY.mono hb.out.size)
           have HMY:Hid (MapT Y b (8*t+4) (Dom t) U):=hM.out.kept (row:=none) ⟨hBY.os,hBY.tape,hBY.output,hBY.size,fun k hk _=>hBY.block k hk⟩ (by simp)
           have hblt:=hM.out.lt
           have hb3s:=hb3.size
           have HKB:Hid (∀ W,Y.grownBy W (some b)->W.heap[w3.heap.size]?=some (.cells #[.int .i64 (t:Nat),.int .i64 3,.int .i64 (t:Nat),.int .i64 2,.int .i64 (t:Nat),.int .i64 0,.int .i64 (t:Nat),.int .i64 1] 67 (0,0))):=fun W hW=>(hW.block _ (by rw[hY];simp) (fun e=>by have:=Option.some.inj e;omega)).trans (by rw[hY];exact box_at _ _)
           rw[<-hY]
           have hb5:=HKB.out Y (World.grownBy.refl _ _)
           have k0:Y.cell? ⟨w3.heap.size,0,none⟩=some (.int .i64 (t:Nat)):=block_cell hb5 rfl
           have k1:Y.cell? ⟨w3.heap.size,1,none⟩=some (.int .i64 3):=block_cell hb5 rfl
           have k2:Y.cell? ⟨w3.heap.size,2,none⟩=some (.int .i64 (t:Nat)):=block_cell hb5 rfl
           have k3:Y.cell? ⟨w3.heap.size,3,none⟩=some (.int .i64 2):=block_cell hb5 rfl
           have k4:Y.cell? ⟨w3.heap.size,4,none⟩=some (.int .i64 (t:Nat)):=block_cell hb5 rfl
           have k5:Y.cell? ⟨w3.heap.size,5,none⟩=some (.int .i64 0):=block_cell hb5 rfl
           have k6:Y.cell? ⟨w3.heap.size,6,none⟩=some (.int .i64 (t:Nat)):=block_cell hb5 rfl
           have k7:Y.cell? ⟨w3.heap.size,7,none⟩=some (.int .i64 1):=block_cell hb5 rfl
           have hlY:w3.heap.size<Y.heap.size:=(Array.getElem?_eq_some_iff.1 hb5).1
           clear hY hBY hb3 hb5 hb3s
           go_upto_region 12 with(go_at_call 27;refine(HL1.out _ HMY.out).mono ?_;rintro e9 w4 ⟨rfl,hM4,hg4⟩)
           have HM4:Hid (MapT w4 b (8*t+4+4) S1 T1):=hM4
           have HG4:Hid (Y.grownBy w4 (some b)):=hg4
           have hb5:=HKB.out w4 hg4
           clear k0 k1 k2 k3 k4 k5 k6 k7 hM4 hg4 hlY
           have k0:w4.cell? ⟨w3.heap.size,0,none⟩=some (.int .i64 (t:Nat)):=block_cell hb5 rfl
           have k1:w4.cell? ⟨w3.heap.size,1,none⟩=some (.int .i64 3):=block_cell hb5 rfl
           have k2:w4.cell? ⟨w3.heap.size,2,none⟩=some (.int .i64 (t:Nat)):=block_cell hb5 rfl
           have k3:w4.cell? ⟨w3.heap.size,3,none⟩=some (.int .i64 2):=block_cell hb5 rfl
           have k4:w4.cell? ⟨w3.heap.size,4,none⟩=some (.int .i64 (t:Nat)):=block_cell hb5 rfl
           have k5:w4.cell? ⟨w3.heap.size,5,none⟩=some (.int .i64 0):=block_cell hb5 rfl
           have k6:w4.cell? ⟨w3.heap.size,6,none⟩=some (.int .i64 (t:Nat)):=block_cell hb5 rfl
           have k7:w4.cell? ⟨w3.heap.size,7,none⟩=some (.int .i64 1):=block_cell hb5 rfl
           have hlY:w3.heap.size<w4.heap.size:=(Array.getElem?_eq_some_iff.1 hb5).1
           clear hb5
           go_wp2_with (go_at_call 27;refine(HL2.out _ HM4.out).mono ?_;rintro e9 w5 ⟨rfl,hM5,hg5⟩;refine Hid.out ?_)
           refine Lib.hid ?_
           have HFN:Hid (MapT w5 b (8*(t+1)+4) (Dom (t+1)) (twR T s (decide (i%2=0)) (decide (0<x)) (j+1))/\Below w.heap.size w w5):=⟨by rw[HTS2.out];exact hM5.congr (by omega) (fun x hx=>⟨hx,rfl⟩),below_map HBY.out hbs.1 (grown_two HG4.out hg5)⟩
           clear hM5 hg5 k0 k1 k2 k3 k4 k5 k6 k7
           go_wp2
           go_roundw
           case rel=>exact⟨j+1,t+1,by omega,by omega,by omega,by go_num,by go_num,HFN.out.1,HFN.out.2⟩
           case measure=>simp only[intOf];omega
         · have hdx:decide (0<x)=false:=by simp;omega
           have hdi:decide (i%2=0)=false:=by simp;omega
           have HTS2:Hid (twR T s (decide (i%2=0)) (decide (0<x)) (j+1)=stepT U t false false):=(by have h2:=HTS.out;rw[hdx,hdi]at h2 ⊢;exact h2:twR T s (decide (i%2=0)) (decide (0<x)) (j+1)=stepT U t false false)
           obtain⟨r,hrr⟩:∃ r,i%2=r:=⟨_,rfl⟩
           have hr2:r<2:=by omega
           rw[hrr]at er
           have hrz:((r:Int)==0)=false:=by simp;omega
           obtain⟨e1,i1,o1,i2,o2,rfl,rfl,rfl,rfl,rfl,S1,T1,hL1,hL2⟩:=step_calls b (8*t+4) t U false false hbj ht16 (by omega)
           have HL1:Hid (∀ W,MapT W b (8*t+4) (Dom t) U->Calls Try.prog 27 #[.map (some b),.int .i64 2,.agg #[.int .i64 (t:Nat),.int .i64 3],.agg #[.int .i64 (t:Nat),.int .i64 0]] W fun r w'=>r=.returned (.tuple #[])/\MapT w' b (8*t+4+4) S1 T1/\W.grownBy w' (some b)):=fun W hW=>by
            have:=hL1 W hW
            rw[spV_cor,spV_cor]at this
            exact this
           have HL2:Hid (∀ W,MapT W b (8*t+4+4) S1 T1->Calls Try.prog 27 #[.map (some b),.int .i64 3,.agg #[.int .i64 (t:Nat),.int .i64 2],.agg #[.int .i64 (t:Nat),.int .i64 1]] W fun r w'=>r=.returned (.tuple #[])/\MapT w' b (8*t+4+8) (Dom (t+1)) (stepT U t false false)/\W.grownBy w' (some b)):=fun W hW=>by
            have:=hL2 W hW
            rw[spV_cor,spV_cor]at this
            exact this
           have HCR:Hid (∀ W,Calls Try.prog 26 #[.int .i64 (t:Nat),.bool false] W fun r w'=>r=.returned (.agg #[.int .i64 (t:Nat),.int .i64 3,.int .i64 (t:Nat),.int .i64 2,.int .i64 (t:Nat),.int .i64 0,.int .i64 (t:Nat),.int .i64 1])/\Below W.heap.size W w'):=fun W=>corners_down t W
           clear hL1 hL2 hrr hbj hdi
           go_upto_region 13 with(go_at_call 26;refine(HCR.out _).mono ?_;rintro e9 w3 ⟨rfl,hb3⟩)
           obtain⟨Y,hY⟩:∃ Y,Y=w3.alloc (.cells #[.int .i64 (t:Nat),.int .i64 3,.int .i64 (t:Nat),.int .i64 2,.int .i64 (t:Nat),.int .i64 0,.int .i64 (t:Nat),.int .i64 1] 67):=⟨_,rfl⟩
           have hBY:Below W2.heap.size W2 Y:=by rw[hY];exact hb3.alloc hb3.size _
           have HBY:Hid (Below w.heap.size w Y):=hb.out.trans (hBY.mono hb.out.size)
           have HMY:Hid (MapT Y b (8*t+4) (Dom t) U):=hM.out.kept (row:=none) ⟨hBY.os,hBY.tape,hBY.output,hBY.size,fun k hk _=>hBY.block k hk⟩ (by simp)
           have hblt:=hM.out.lt
           have hb3s:=hb3.size
           have HKB:Hid (∀ W,Y.grownBy W (some b)->W.heap[w3.heap.size]?=some (.cells #[.int .i64 (t:Nat),.int .i64 3,.int .i64 (t:Nat),.int .i64 2,.int .i64 (t:Nat),.int .i64 0,.int .i64 (t:Nat),.int .i64 1] 67 (0,0))):=fun W hW=>(hW.block _ (by rw[hY];simp) (fun e=>by have:=Option.some.inj e;omega)).trans (by rw[hY];exact box_at _ _)
           rw[<-hY]
           have hb5:=HKB.out Y (World.grownBy.refl _ _)
           have k0:Y.cell? ⟨w3.heap.size,0,none⟩=some (.int .i64 (t:Nat)):=block_cell hb5 rfl
           have k1:Y.cell? ⟨w3.heap.size,1,none⟩=some (.int .i64 3):=block_cell hb5 rfl
           have k2:Y.cell? ⟨w3.heap.size,2,none⟩=some (.int .i64 (t:Nat)):=block_cell hb5 rfl
           have k3:Y.cell? ⟨w3.heap.size,3,none⟩=some (.int .i64 2):=block_cell hb5 rfl
           have k4:Y.cell? ⟨w3.heap.size,4,none⟩=some (.int .i64 (t:Nat)):=block_cell hb5 rfl
           have k5:Y.cell? ⟨w3.heap.size,5,none⟩=some (.int .i64 0):=block_cell hb5 rfl
           have k6:Y.cell? ⟨w3.heap.size,6,none⟩=some (.int .i64 (t:Nat)):=block_cell hb5 rfl
           have k7:Y.cell? ⟨w3.heap.size,7,none⟩=some (.int .i64 1):=block_cell hb5 rfl
           have hlY:w3.heap.size<Y.heap.size:=(Array.getElem?_eq_some_iff.1 hb5).1
           clear hY hBY hb3 hb5 hb3s
           go_upto_region 14 with(go_at_call 27;refine(HL1.out _ HMY.out).mono ?_;rintro e9 w4 ⟨rfl,hM4,hg4⟩)
           have HM4:Hid (MapT w4 b (8*t+4+4) S1 T1):=hM4
           have HG4:Hid (Y.grownBy w4 (some b)):=hg4
           have hb5:=HKB.out w4 hg4
           clear k0 k1 k2 k3 k4 k5 k6 k7 hM4 hg4 hlY
           have k0:w4.cell? ⟨w3.heap.size,0,none⟩=some (.int .i64 (t:Nat)):=block_cell hb5 rfl
           have k1:w4.cell? ⟨w3.heap.size,1,none⟩=some (.int .i64 3):=block_cell hb5 rfl
           have k2:w4.cell? ⟨w3.heap.size,2,none⟩=some (.int .i64 (t:Nat)):=block_cell hb5 rfl
           have k3:w4.cell? ⟨w3.heap.size,3,none⟩=some (.int .i64 2):=block_cell hb5 rfl
           have k4:w4.cell? ⟨w3.heap.size,4,none⟩=some (.int .i64 (t:Nat)):=block_cell hb5 rfl
           have k5:w4.cell? ⟨w3.heap.size,5,none⟩=some (.int .i64 0):=block_cell hb5 rfl
           have k6:w4.cell? ⟨w3.heap.size,6,none⟩=some (.int .i64 (t:Nat)):=block_cell hb5 rfl
           have k7:w4.cell? ⟨w3.heap.size,7,none⟩=some (.int .i64 1):=block_cell hb5 rfl
           have hlY:w3.heap.size<w4.heap.size:=(Array.getElem?_eq_some_iff.1 hb5).1
           clear hb5
           go_wp2_with (go_at_call 27;refine(HL2.out _ HM4.out).mono ?_;rintro e9 w5 ⟨rfl,hM5,hg5⟩;refine Hid.out ?_)
           refine Lib.hid ?_
           have HFN:Hid (MapT w5 b (8*(t+1)+4) (Dom (t+1)) (twR T s (decide (i%2=0)) (decide (0<x)) (j+1))/\Below w.heap.size w w5):=⟨by rw[HTS2.out];exact hM5.congr (by omega) (fun x hx=>⟨hx,rfl⟩),below_map HBY.out hbs.1 (grown_two HG4.out hg5)⟩
           clear hM5 hg5 k0 k1 k2 k3 k4 k5 k6 k7
           go_wp2
           go_roundw
           case rel=>exact⟨j+1,t+1,by omega,by omega,by omega,by go_num,by go_num,HFN.out.1,HFN.out.2⟩
           case measure=>simp only[intOf];omega
     · obtain rfl:j=z:=by omega
       have HEQ:Hid (szTo l (i+1)=t):=(by rw[HS1.out];omega:szTo l (i+1)=t)
       go_wp2
       go_roundw
       case rel=>exact⟨i+1,t,by omega,by omega,by go_num,rfl,HEQ.out,by rw[HTZ.out];exact hM.out,hb.out⟩
       case measure=>simp only[intOf];omega
  · obtain rfl:i=n:=by omega
    have HFN:Hid (szTo l i=s/\MapT W1 b 400 (Dom (szTo l i)) (twL l i)/\Below w.heap.size w W1):=⟨hsz.out,by rw[hsz.out];exact hM.out.congr (by omega) (fun x hx=>⟨hx,rfl⟩),hb.out⟩
    go_wp2
    go_ret2
    exact⟨by rw[HFN.out.1];rfl,HFN.out.2.1,by rw[HB0.out];exact HFN.out.2.2⟩
end Go.Proofs.Ytgagenmkpmmpfaa

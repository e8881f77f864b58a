/- Several texts of the proof, one behind the other. -/
import Derived.Test.YtgagenmkpmmpfaaF7P
import Derived.Test.YtgagenmkpmmpfaaO0P
import Derived.Test.YtgagenmkpmmpfaaO1P
/- The walks of code.May, code.Faces and code.Planar. -/
namespace Go.Proofs.Ytgagenmkpmmpfaa
open Go.RowKit
set_option maxHeartbeats 2000000
set_option maxRecDepth 100000
theorem DartsOwn.low {w:World} {B B':Nat} {v:Value} {L:List (List Nat)} (h:DartsOwn w B v L) (hB:B'<=B):DartsOwn w B' v L:=by
 obtain⟨ys,h1,h2,h3⟩:=h
 exact⟨ys,h1,own_low h2 hB,fun j hj=>own_low (h3 j hj) hB⟩
theorem DartsOwn.any {w w':World} {B:Nat} {v:Value} {L:List (List Nat)} (h:DartsOwn w B v L) (hg:w.grownBy w' none):DartsOwn w' B v L:=by
 obtain⟨ys,h1,h2,h3⟩:=h
 exact⟨ys,h1,own_any h2 hg,fun j hj=>own_any (h3 j hj) hg⟩
theorem planar_yes (hFR : FaceRingsOk) (v : Value) (C : List Cr) (loops : Int) (w : World) (hm : mayD C loops = true) (h : Crs w w.heap.size v C) :
    Calls Try.prog 7 #[.agg #[v,.int .i64 loops]] w fun e w'=>e=.returned (.tuple #[.bool (planarB C),.int .i64 0])/\Below w.heap.size w w':=by
 have HC:Hid (Crs w w.heap.size v C):=h
 have HFA:Hid FaceRingsOk:=hFR
 have HM:Hid (mayD C loops=true):=hm
 obtain⟨a,cap,rfl,hn,-⟩:=h
 have HB1:Hid (Below w.heap.size w (w.alloc (.cells #[.slice a C.length cap,.int .i64 loops] 29))):=(Below.refl _ _).alloc (Nat.le_refl _) _
 go_enter Try.func7,Try.ntmps7
 go_wp2_with (go_at_call 17;refine(of_any _ C loops _ (HC.out.up HB1.out)).mono ?_;rw[hm];rintro e9 w2 ⟨d,rfl,hb2,hd⟩;obtain⟨gF,cF,gT,cT,rfl,hdr⟩:=hd.dr HM.out hb2 (HC.out.up HB1.out);refine Hid.out ?_)
 refine Lib.hid ?_
 have HDR:Hid (Dr w2 a cap C gF gT):=hdr
 unfold drV
 have HB2:Hid (Below w.heap.size w w2):=HB1.out.trans (hb2.mono HB1.out.size)
 have HBA:Hid (Below w2.heap.size w2 (w2.alloc (.cells #[.slice a C.length cap,.int .i64 loops,.slice (some ⟨gF,0,none⟩) (2*C.length+1) cF,.slice (some ⟨gT,0,none⟩) (2*C.length+1) cT] 52))):=(Below.refl _ _).alloc (Nat.le_refl _) _
 clear hb2 hd hdr hm
 go_wp2_with (go_at_call 18;refine(onSphere_any HFA.out a cap C loops gF cF gT cT _ HM.out (HDR.out.on HBA.out)).mono ?_;rintro e9 w3 ⟨rfl,hb3⟩;refine Hid.out ?_)
 refine Lib.hid ?_
 have HB3:Hid (Below w.heap.size w w3):=(HB2.out.trans (HBA.out.mono HB2.out.size)).trans (hb3.mono (by have:=HB2.out.size;simp;omega))
 clear hb3
 go_wp2
 go_ret2
 exact⟨rfl,HB3.out⟩
end Go.Proofs.Ytgagenmkpmmpfaa
/- The walks of drawing.Flat and of ref.PlanarMay. -/
namespace Go.Proofs.Ytgagenmkpmmpfaa
open Go.RowKit
set_option maxHeartbeats 4000000
set_option maxRecDepth 100000
def noN (C:List Cr) (loops:Int):Int:=if mayD C loops=true then(if planarB C=true then 0 else 5) else 7
theorem Drawn.dr2 {w w' : World} {a : Option Addr} {cap : Nat} {loops : Int} {C : List Cr} {D : Value} (h : Drawn w w' w.heap.size (.slice a C.length cap) loops C D) (hm : mayD C loops = true) (hb : Below w.heap.size w w') (hC : Crs w w.heap.size (.slice a C.length cap) C) :
    ∃ gF cF gT cT,D=drV a cap C loops gF cF gT cT/\Dr w' a cap C gF gT/\w'.ownsRow w.heap.size 66 2 (.slice (some ⟨gF,0,none⟩) (2*C.length+1) cF) (2*C.length+1) (flat (ends C false C.length 0))/\
    w'.ownsRow w.heap.size 66 2 (.slice (some ⟨gT,0,none⟩) (2*C.length+1) cT) (2*C.length+1) (flat (ends C true C.length 0)):=by
 obtain⟨gF,cF,gT,cT,rfl,h1,h2⟩:=h.yes hm
 exact⟨gF,cF,gT,cT,rfl,⟨hC.up hb,(h1.lt gF rfl).2,(h2.lt gT rfl).2,own_terms h1 (ends_length _ _ _ _),own_terms h2 (ends_length _ _ _ _)⟩,h1,h2⟩
theorem flat_yesB (hFR : FaceRingsOk) (a : Option Addr) (cap : Nat) (C : List Cr) (loops : Int) (w : World) (hm : mayD C loops = true) (hp : planarB C = true) (h : Crs w w.heap.size (.slice a C.length cap) C) :
    Calls Try.prog 62 #[.agg #[.slice a C.length cap,.int .i64 loops]] w fun e w'=>∃ gF cF gT cT,e=.returned (.tuple #[drV a cap C loops gF cF gT cT,.int .i64 0])/\(Dr w' a cap C gF gT/\w.heap.size<=gF/\w.heap.size<=gT)/\Below w.heap.size w w':=by
 have HC:Hid (Crs w w.heap.size (.slice a C.length cap) C):=h
 have HFA:Hid FaceRingsOk:=hFR
 have HM:Hid (mayD C loops=true):=hm
 have HP:Hid (planarB C=true):=hp
 have HB1:Hid (Below w.heap.size w ((w.alloc (.cells #[.slice a C.length cap,.int .i64 loops] 29)).alloc (.cells #[.slice none 0 0,.int .i64 0,.slice none 0 0,.slice none 0 0] 52))):=below2 _ _ _
 go_enter Try.func62,Try.ntmps62
 go_wp2_with (go_at_call 17;refine(of_any _ C loops _ (HC.out.up HB1.out)).mono ?_;rw[hm];rintro e9 w2 ⟨d,rfl,hb2,hd⟩;obtain⟨gF,cF,gT,cT,rfl,hdr,hF,hT⟩:=hd.dr2 HM.out hb2 (HC.out.up HB1.out);refine Hid.out ?_)
 refine Lib.hid ?_
 have HDR:Hid (Dr w2 a cap C gF gT):=hdr
 have HF:Hid (w2.ownsRow (w.heap.size+2) 66 2 (.slice (some ⟨gF,0,none⟩) (2*C.length+1) cF) (2*C.length+1) (flat (ends C false C.length 0))):=own_low hF (by simp)
 have HT:Hid (w2.ownsRow (w.heap.size+2) 66 2 (.slice (some ⟨gT,0,none⟩) (2*C.length+1) cT) (2*C.length+1) (flat (ends C true C.length 0))):=own_low hT (by simp)
 unfold drV
 have HB2:Hid (Below w.heap.size w w2):=HB1.out.trans (hb2.mono (by simp;omega))
 have hR:w2.heap[w.heap.size+1]?=some (.cells #[.slice none 0 0,.int .i64 0,.slice none 0 0,.slice none 0 0] 52 (0,0)):=(hb2.block _ (by simp)).trans (alloc_at (by simp))
 have hs2:w.heap.size+2<=w2.heap.size:=by have:=hb2.size;simpa using this
 have HR:Hid (w2.heap[w.heap.size+1]?=some (.cells #[.slice none 0 0,.int .i64 0,.slice none 0 0,.slice none 0 0] 52 (0,0))):=hR
 have HBA:Hid (Below w2.heap.size w2 (w2.alloc (.cells #[.slice a C.length cap,.int .i64 loops,.slice (some ⟨gF,0,none⟩) (2*C.length+1) cF,.slice (some ⟨gT,0,none⟩) (2*C.length+1) cT] 52))):=(Below.refl _ _).alloc (Nat.le_refl _) _
 clear hb2 hd hdr hm hR hp hF hT
 go_wp2_with (go_at_call 18;refine(onSphere_any HFA.out a cap C loops gF cF gT cT _ HM.out (HDR.out.on HBA.out)).mono ?_;rw[HP.out];rintro e9 w3 ⟨rfl,hb3⟩;refine Hid.out ?_)
 refine Lib.hid ?_
 have HB23:Hid (Below w2.heap.size w2 w3):=HBA.out.trans (hb3.mono (by simp))
 have HB3:Hid (Below w.heap.size w w3):=HB2.out.trans (HB23.out.mono HB2.out.size)
 have hR:w3.heap[w.heap.size+1]?=some (.cells #[.slice none 0 0,.int .i64 0,.slice none 0 0,.slice none 0 0] 52 (0,0)):=(HB23.out.block _ (by omega)).trans HR.out
 have hQ:w3.heap[w2.heap.size]?=some (.cells #[.slice a C.length cap,.int .i64 loops,.slice (some ⟨gF,0,none⟩) (2*C.length+1) cF,.slice (some ⟨gT,0,none⟩) (2*C.length+1) cT] 52 (0,0)):=(hb3.block _ (by simp)).trans (alloc_at rfl)
 have hs3:w2.heap.size+1<=w3.heap.size:=by have:=hb3.size;simpa using this
 have HR3:Hid (w3.heap[w.heap.size+1]?=some (.cells #[.slice none 0 0,.int .i64 0,.slice none 0 0,.slice none 0 0] 52 (0,0))):=hR
 have c0:w3.cell? ⟨w.heap.size+1,0,none⟩=some (.slice none 0 0):=block_cell hR rfl
 have c1:w3.cell? ⟨w.heap.size+1,1,none⟩=some (.int .i64 0):=block_cell hR rfl
 have c2:w3.cell? ⟨w.heap.size+1,2,none⟩=some (.slice none 0 0):=block_cell hR rfl
 have c3:w3.cell? ⟨w.heap.size+1,3,none⟩=some (.slice none 0 0):=block_cell hR rfl
 have f0:w3.frozen? ⟨w.heap.size+1,0,none⟩=false:=block_frozen hR
 have f1:w3.frozen? ⟨w.heap.size+1,1,none⟩=false:=block_frozen hR
 have f2:w3.frozen? ⟨w.heap.size+1,2,none⟩=false:=block_frozen hR
 have f3:w3.frozen? ⟨w.heap.size+1,3,none⟩=false:=block_frozen hR
 have d0:w3.cell? ⟨w2.heap.size,0,none⟩=some (.slice a C.length cap):=block_cell hQ rfl
 have d1:w3.cell? ⟨w2.heap.size,1,none⟩=some (.int .i64 loops):=block_cell hQ rfl
 have d2:w3.cell? ⟨w2.heap.size,2,none⟩=some (.slice (some ⟨gF,0,none⟩) (2*C.length+1) cF):=block_cell hQ rfl
 have d3:w3.cell? ⟨w2.heap.size,3,none⟩=some (.slice (some ⟨gT,0,none⟩) (2*C.length+1) cT):=block_cell hQ rfl
 have l2:w.heap.size+1<w3.heap.size:=by omega
 have l3:w2.heap.size<w3.heap.size:=by omega
 clear hb3 hR hQ
 go_wp2
 have hG:=st4_grown w3 (w.heap.size+1) (.slice a C.length cap) (.int .i64 loops) (.slice (some ⟨gF,0,none⟩) (2*C.length+1) cF) (.slice (some ⟨gT,0,none⟩) (2*C.length+1) cT)
 have hX:=st4_block (a:=.slice a C.length cap) (b:=.int .i64 loops) (c:=.slice (some ⟨gF,0,none⟩) (2*C.length+1) cF) (d:=.slice (some ⟨gT,0,none⟩) (2*C.length+1) cT) HR3.out
 have x0:=block_cell (i:=0) (v:=.slice a C.length cap) hX rfl
 have x1:=block_cell (i:=1) (v:=.int .i64 loops) hX rfl
 have x2:=block_cell (i:=2) (v:=.slice (some ⟨gF,0,none⟩) (2*C.length+1) cF) hX rfl
 have x3:=block_cell (i:=3) (v:=.slice (some ⟨gT,0,none⟩) (2*C.length+1) cT) hX rfl
 have hbb:=HB3.out.grown hG HB3.out.size (fun k hk=>by have:=Option.some.inj hk;omega)
 unfold st4 at x0 x1 x2 x3
 refine bodyPost_ret (v:=.tuple #[.agg #[.slice a C.length cap,.int .i64 loops,.slice (some ⟨gF,0,none⟩) (2*C.length+1) cF,.slice (some ⟨gT,0,none⟩) (2*C.length+1) cT],.int .i64 0]) (by simp[results,Try.results62,go_sem,x0,x1,x2,x3]) rfl ⟨gF,cF,gT,cT,rfl,⟨?_,by have h1:=(HF.out.lt gF rfl).1;omega,by have h1:=(HT.out.lt gT rfl).1;omega⟩,hbb⟩
 have hn:=grown_below HB23.out none
 have gF2:=(own_any HF.out hn).kept hG (Or.inr (fun e=>by have h1:=(HF.out.lt gF rfl).1;have h2:gF=w.heap.size+1:=Option.some.inj e;omega))
 have gT2:=(own_any HT.out hn).kept hG (Or.inr (fun e=>by have h1:=(HT.out.lt gT rfl).1;have h2:gT=w.heap.size+1:=Option.some.inj e;omega))
 exact⟨HC.out.up hbb,(gF2.lt gF rfl).2,(gT2.lt gT rfl).2,own_terms gF2 (ends_length _ _ _ _),own_terms gT2 (ends_length _ _ _ _)⟩
theorem flat_yes (hFR : FaceRingsOk) (v : Value) (C : List Cr) (loops : Int) (w : World) (hm : mayD C loops = true) (hp : planarB C = true) (h : Crs w w.heap.size v C) :
    Calls Try.prog 62 #[.agg #[v,.int .i64 loops]] w fun e w'=>∃ a cap gF cF gT cT,e=.returned (.tuple #[drV a cap C loops gF cF gT cT,.int .i64 0])/\Dr w' a cap C gF gT/\Below w.heap.size w w':=by
 obtain⟨a,cap,rfl,-,-⟩:=id h
 exact(flat_yesB hFR a cap C loops w hm hp h).mono fun e w' ⟨gF,cF,gT,cT,he,hd,hb⟩=>⟨a,cap,gF,cF,gT,cT,he,hd.1,hb⟩
theorem noN_zero {C:List Cr} {loops:Int} (h:noN C loops=0):mayD C loops=true/\planarB C=true:=by
 unfold noN at h
 by_cases hm:mayD C loops=true
 · rw[if_pos hm]at h
   by_cases hp:planarB C=true
   · exact⟨hm,hp⟩
   · rw[if_neg hp]at h;omega
 · rw[if_neg hm]at h;omega
end Go.Proofs.Ytgagenmkpmmpfaa
/- The walks of colour.lowestArcs and colour.overpasses. -/
namespace Go.Proofs.Ytgagenmkpmmpfaa
open Go.RowKit
set_option maxHeartbeats 16000000
set_option maxRecDepth 100000
theorem mers_ov (V:List Nat) (C:List Cr) (i:Nat) (hi:i<C.length):mers V ((ovE C).take (i+1))=mer (mers V ((ovE C).take i)) (C.getD i Cr.none).b.toNat (C.getD i Cr.none).d.toNat:=by
 rw[ovE_next C i hi,mers_app]
 rfl
theorem lowestArcs_any (a : Option Addr) (cap : Nat) (C : List Cr) (loops : Int) (gF cF gT cT : Nat) (w : World) (hm : mayD C loops = true) (hD : Dr w a cap C gF gT) :
    Calls Try.prog 70 #[drV a cap C loops gF cF gT cT] w fun e w'=>∃ g,e=.returned (.slice (some ⟨g,0,none⟩) (2*C.length+1) (2*C.length+1))/\w'.ownsRow w.heap.size 3 1 (.slice (some ⟨g,0,none⟩) (2*C.length+1) (2*C.length+1)) (2*C.length+1) (nats (lowM C))/\Below w.heap.size w w':=by
 obtain⟨s1,-,-,-⟩:=sizeB_iff (may_size hm)
 obtain⟨i2,hk,hx0,hx1,hx2⟩:=info_parts infoInt
 have HM:Hid (mayD C loops=true):=hm
 have HD:Hid (Dr w a cap C gF gT):=hD
 unfold drV
 obtain⟨N,hN⟩:∃ N,N=2*C.length+1:=⟨_,rfl⟩
 have HN:Hid (N=2*C.length+1):=hN
 have hN1:1<=N:=by omega
 have hN2:N<=33:=by omega
 rw[<-hN]
 clear hN hm hD
 obtain⟨w0,hw0⟩:∃ w0,w0=w.alloc (.cells #[.slice a C.length cap,.int .i64 loops,.slice (some ⟨gF,0,none⟩) N cF,.slice (some ⟨gT,0,none⟩) N cT] 52):=⟨_,rfl⟩
 have HW0:Hid (w0=w.alloc (.cells #[.slice a C.length cap,.int .i64 loops,.slice (some ⟨gF,0,none⟩) N cF,.slice (some ⟨gT,0,none⟩) N cT] 52)):=hw0
 have hs0:w0.heap.size=w.heap.size+1:=by rw[hw0];simp
 have HB0:Hid (Below w.heap.size w w0):=(by rw[hw0];exact(Below.refl _ _).alloc (Nat.le_refl _) _:Below w.heap.size w w0)
 have HT0:Hid (w0.heap[w.heap.size]?=some (.cells #[.slice a C.length cap,.int .i64 loops,.slice (some ⟨gF,0,none⟩) N cF,.slice (some ⟨gT,0,none⟩) N cT] 52 (0,0))):=(by rw[hw0];exact alloc_at rfl:w0.heap[w.heap.size]?=some (.cells #[.slice a C.length cap,.int .i64 loops,.slice (some ⟨gF,0,none⟩) N cF,.slice (some ⟨gT,0,none⟩) N cT] 52 (0,0)))
 clear hw0
 go_enter Try.func70,Try.ntmps70
 go_wp2_with (first|(at_make;refine wpList_make_full _ rfl _ _ 22 rfl (w.heap.size+1) 3 i2 (.int .i64 0) 1 Try.underlying22 hk hx0 hx1 .i64 .i64 _ _ N rfl rfl rfl rfl (by rw[hx2];omega) (by unfold maxLen;omega) (by simp) ?_;intro w1 hrow hg1;refine Hid.out ?_))
 refine Lib.hid ?_
 rw[<-HW0.out]at hrow hg1
 rw[made_zeroN,hs0,labTo_zero]at hrow
 have HP0:Hid (w1.heap[w.heap.size]?=some (.cells #[.slice a C.length cap,.int .i64 loops,.slice (some ⟨gF,0,none⟩) N cF,.slice (some ⟨gT,0,none⟩) N cT] 52 (0,0))/\w1.ownsRow (w.heap.size+1) 3 1 (.slice (some ⟨w.heap.size+1,0,none⟩) N N) N (nats (labTo N 0))/\Below w.heap.size w w1):=⟨(hg1.block _ (by omega) (by simp)).trans HT0.out,hrow,HB0.out.grown hg1 (by omega) (fun k hk=>by cases hk)⟩
 clear hrow hg1 HT0 HB0 hs0 HW0
 go_wp2
 go_loopw [16] (fun v5 wr=>∃ i:Nat,i<=N/\v5=.int .i64 (i:Nat)/\Hid (wr.heap[w.heap.size]?=some (.cells #[.slice a C.length cap,.int .i64 loops,.slice (some ⟨gF,0,none⟩) N cF,.slice (some ⟨gT,0,none⟩) N cT] 52 (0,0))/\wr.ownsRow (w.heap.size+1) 3 1 (.slice (some ⟨w.heap.size+1,0,none⟩) N N) N (nats (labTo N i))/\Below w.heap.size w wr)) (fun v5 _=>N-(intOf v5).toNat)
 case atStart=>exact⟨0,Nat.zero_le _,rfl,HP0.out⟩
 case round=>
  clear HP0
  rename World=>W1
  obtain⟨i,hin,rfl,hp⟩:=hrel
  have hlt:=hp.out.2.1.lt (w.heap.size+1) rfl
  by_cases hil:i<N
  · have hst:=hp.out.2.1.stored i (.int .i64 (i:Nat))
    rw[nats_set,labTo_next]at hst
    have HST:Hid ((W1.setCell ⟨w.heap.size+1,i,none⟩ (.int .i64 (i:Nat))).heap[w.heap.size]?=some (.cells #[.slice a C.length cap,.int .i64 loops,.slice (some ⟨gF,0,none⟩) N cF,.slice (some ⟨gT,0,none⟩) N cT] 52 (0,0))/\(W1.setCell ⟨w.heap.size+1,i,none⟩ (.int .i64 (i:Nat))).ownsRow (w.heap.size+1) 3 1 (.slice (some ⟨w.heap.size+1,0,none⟩) N N) N (nats (labTo N (i+1)))/\Below w.heap.size w (W1.setCell ⟨w.heap.size+1,i,none⟩ (.int .i64 (i:Nat)))):=⟨(hst.2.block _ (by omega) (fun e=>by have:w.heap.size=w.heap.size+1:=Option.some.inj e;omega)).trans hp.out.1,hst.1,hp.out.2.2.grown hst.2 hp.out.2.2.size (fun q hq=>by have:=Option.some.inj hq;omega)⟩
    have e0:W1.cell? ⟨w.heap.size+1,i,none⟩=some (.int .i64 ((labTo N i).getD i 0:Nat)):=by
     rw[hp.out.2.1.cellAt i (by omega)];exact nats_get _ i (by simp[labTo];omega)
    have z0:W1.frozen? ⟨w.heap.size+1,i,none⟩=false:=hp.out.2.1.frozenAt i
    have hdi:(i:Int)<=2*(C.length:Int):=by have:=HN.out;omega
    clear hst
    go_wp2
    go_roundw
    case rel=>exact⟨i+1,by omega,by go_num,HST.out⟩
    case measure=>simp only[intOf];omega
  · obtain rfl:N=i:=by omega
    have HP1:Hid (W1.heap[w.heap.size]?=some (.cells #[.slice a C.length cap,.int .i64 loops,.slice (some ⟨gF,0,none⟩) N cF,.slice (some ⟨gT,0,none⟩) N cT] 52 (0,0))/\W1.ownsRow (w.heap.size+1) 3 1 (.slice (some ⟨w.heap.size+1,0,none⟩) N N) N (nats (mers (List.range N) ((ovE C).take 0)))/\Below w.heap.size w W1):=(by have h:=hp.out;rw[labTo_all]at h;exact h:W1.heap[w.heap.size]?=some (.cells #[.slice a C.length cap,.int .i64 loops,.slice (some ⟨gF,0,none⟩) N cF,.slice (some ⟨gT,0,none⟩) N cT] 52 (0,0))/\W1.ownsRow (w.heap.size+1) 3 1 (.slice (some ⟨w.heap.size+1,0,none⟩) N N) N (nats (mers (List.range N) ((ovE C).take 0)))/\Below w.heap.size w W1)
    have t0:W1.cell? ⟨w.heap.size,0,none⟩=some (.slice a C.length cap):=block_cell hp.out.1 rfl
    have hdn:decide ((N:Int)<(N:Int))=false:=by simp
    have hdn2:decide (N<N)=false:=by simp
    clear hp
    go_wp2
    go_loopw [28] (fun v28 wr=>∃ k:Nat,k<=C.length/\v28=.int .i64 (k:Nat)/\Hid (wr.heap[w.heap.size]?=some (.cells #[.slice a C.length cap,.int .i64 loops,.slice (some ⟨gF,0,none⟩) N cF,.slice (some ⟨gT,0,none⟩) N cT] 52 (0,0))/\wr.ownsRow (w.heap.size+1) 3 1 (.slice (some ⟨w.heap.size+1,0,none⟩) N N) N (nats (mers (List.range N) ((ovE C).take k)))/\Below w.heap.size w wr)) (fun v28 _=>C.length-(intOf v28).toNat)
    case atStart=>exact⟨0,Nat.zero_le _,rfl,HP1.out⟩
    case round=>
     clear HP1 t0
     rename World=>W2
     obtain⟨k,hin2,rfl,hp⟩:=hrel
     by_cases hil2:k<C.length
     · obtain⟨b,off,ea,hbw,hC⟩:=HD.out.cross (by omega)
       have t0:W2.cell? ⟨w.heap.size,0,none⟩=some (.slice a C.length cap):=block_cell hp.out.1 rfl
       have ff:=may_fit HM.out k 1 hil2 (by omega)
       have fg:=may_fit HM.out k 3 hil2 (by omega)
       have HX:Hid ((C.getD k Cr.none).arc 1=(C.getD k Cr.none).b/\(C.getD k Cr.none).arc 3=(C.getD k Cr.none).d):=⟨rfl,rfl⟩
       have f1:=ff.1
       have f2:=ff.2.1
       have f3:=fg.1
       have f4:=fg.2.1
       rw[HX.out.1]at f1 f2
       rw[HX.out.2]at f3 f4
       obtain⟨e0,e1,e2,e3,e4⟩:=(hC.on hp.out.2.2 hbw) k hil2
       obtain⟨x,hx⟩:∃ x:Nat,(C.getD k Cr.none).b=(x:Int):=⟨(C.getD k Cr.none).b.toNat,by omega⟩
       obtain⟨y,hy⟩:∃ y:Nat,(C.getD k Cr.none).d=(y:Int):=⟨(C.getD k Cr.none).d.toNat,by omega⟩
       have hxN:x<N:=by have:=HN.out;omega
       have hyN:y<N:=by have:=HN.out;omega
       obtain⟨ca,hca⟩:∃ z,(C.getD k Cr.none).a=z:=⟨_,rfl⟩
       obtain⟨cc,hcc⟩:∃ z,(C.getD k Cr.none).c=z:=⟨_,rfl⟩
       obtain⟨cp,hcp⟩:∃ z,(C.getD k Cr.none).plus=z:=⟨_,rfl⟩
       have HLV:Hid (mers (List.range N) ((ovE C).take (k+1))=mer (mers (List.range N) ((ovE C).take k)) x y):=(by rw[mers_ov _ C k hil2,hx,hy];rfl:mers (List.range N) ((ovE C).take (k+1))=mer (mers (List.range N) ((ovE C).take k)) x y)
       have HLL:Hid ((mers (List.range N) ((ovE C).take k)).length=N):=(by rw[mers_len];simp:(mers (List.range N) ((ovE C).take k)).length=N)
       rw[hca]at e0
       rw[hx]at e1
       rw[hcc]at e2
       rw[hy]at e3
       rw[hcp]at e4
       obtain⟨L,hL⟩:∃ L,mers (List.range N) ((ovE C).take k)=L:=⟨_,rfl⟩
       rw[hL]at HLV HLL hp
       have hsW:=hp.out.2.2.size
       have hgl:=(hp.out.2.1.lt (w.heap.size+1) rfl).2
       have hbW:b<W2.heap.size:=by omega
       have hii:(k:Int)<(C.length:Int):=by omega
       have d0:W2.cell? ⟨w.heap.size+1,x,none⟩=some (.int .i64 (L.getD x 0:Nat)):=by
        rw[hp.out.2.1.cellAt x (by omega)];exact nats_get _ x (by rw[HLL.out];exact hxN)
       have d1:W2.cell? ⟨w.heap.size+1,y,none⟩=some (.int .i64 (L.getD y 0:Nat)):=by
        rw[hp.out.2.1.cellAt y (by omega)];exact nats_get _ y (by rw[HLL.out];exact hyN)
       obtain⟨p,hpx⟩:∃ p,L.getD x 0=p:=⟨_,rfl⟩
       obtain⟨q,hqx⟩:∃ q,L.getD y 0=q:=⟨_,rfl⟩
       rw[hpx]at d0
       rw[hqx]at d1
       have HPQ:Hid (L.getD x 0=p/\L.getD y 0=q):=⟨hpx,hqx⟩
       obtain⟨X,hX⟩:∃ X,X=(W2.alloc (.cells #[.int .i64 ca,.int .i64 (x:Nat),.int .i64 cc,.int .i64 (y:Nat),.bool cp] 78)):=⟨_,rfl⟩
       have HX0:Hid (X=(W2.alloc (.cells #[.int .i64 ca,.int .i64 (x:Nat),.int .i64 cc,.int .i64 (y:Nat),.bool cp] 78))):=hX
       have HGX:Hid (W2.grownBy X none):=(by rw[hX];exact World.grownBy_alloc _ _ none:W2.grownBy X none)
       have hXs:X.heap.size=W2.heap.size+1:=by rw[hX];simp
       have HXB:Hid (X.heap[W2.heap.size]?=some (.cells #[.int .i64 ca,.int .i64 (x:Nat),.int .i64 cc,.int .i64 (y:Nat),.bool cp] 78 (0,0))):=(by rw[hX];exact alloc_at rfl:X.heap[W2.heap.size]?=some (.cells #[.int .i64 ca,.int .i64 (x:Nat),.int .i64 cc,.int .i64 (y:Nat),.bool cp] 78 (0,0)))
       have HXR:Hid (X.heap[w.heap.size]?=some (.cells #[.slice a C.length cap,.int .i64 loops,.slice (some ⟨gF,0,none⟩) N cF,.slice (some ⟨gT,0,none⟩) N cT] 52 (0,0))/\X.ownsRow (w.heap.size+1) 3 1 (.slice (some ⟨w.heap.size+1,0,none⟩) N N) N (nats (L))/\Below w.heap.size w X):=⟨(HGX.out.block _ (by omega) (by simp)).trans hp.out.1,own_any hp.out.2.1 HGX.out,hp.out.2.2.grown HGX.out hsW (fun z hz=>by cases hz)⟩
       clear hC ff fg f1 f2 f3 f4 hx hy hca hcc hcp hL hpx hqx hX
       go_wp2
       rw[<-HX0.out]
       have x1:X.cell? ⟨W2.heap.size,1,none⟩=some (.int .i64 (x:Nat)):=block_cell HXB.out rfl
       have x3:X.cell? ⟨W2.heap.size,3,none⟩=some (.int .i64 (y:Nat)):=block_cell HXB.out rfl
       have y0:X.cell? ⟨w.heap.size+1,x,none⟩=some (.int .i64 (p:Nat)):=(by rw[HXR.out.2.1.cellAt x (by omega),nats_get _ x (by rw[HLL.out];exact hxN),HPQ.out.1])
       have y1:X.cell? ⟨w.heap.size+1,y,none⟩=some (.int .i64 (q:Nat)):=(by rw[HXR.out.2.1.cellAt y (by omega),nats_get _ y (by rw[HLL.out];exact hyN),HPQ.out.2])
       clear d0 d1 e0 e1 e2 e3 e4
       obtain⟨lo,hlo⟩:∃ lo,min p q=lo:=⟨_,rfl⟩
       obtain⟨hi,hhi⟩:∃ hi,max p q=hi:=⟨_,rfl⟩
       have E1:(if q<p then(q:Int) else(p:Int))=(lo:Int):=by rw[<-hlo];split<;>omega
       have E2:(if p<q then(q:Int) else(p:Int))=(hi:Int):=by rw[<-hhi];split<;>omega
       have HLH:Hid (min p q=lo/\max p q=hi):=⟨hlo,hhi⟩
       clear hlo hhi
       apply cut_one
       case h=>
        intro key
        go_region_held3 (fun w'=>w'.cell? ⟨W2.heap.size,1,none⟩=some (.int .i64 (x:Nat))/\w'.cell? ⟨W2.heap.size,3,none⟩=some (.int .i64 (y:Nat))/\w'.cell? ⟨w.heap.size+1,x,none⟩=some (.int .i64 (p:Nat))/\w'.cell? ⟨w.heap.size+1,y,none⟩=some (.int .i64 (q:Nat))) (exact⟨x1,x3,y0,y1⟩) (fail)
        all_goals
         exact key.out
       rw[<-ea]
       clear x1 x3 y0 y1 E1 E2 ea
       have HQ0:Hid (X.drew.heap[w.heap.size]?=some (.cells #[.slice a C.length cap,.int .i64 loops,.slice (some ⟨gF,0,none⟩) N cF,.slice (some ⟨gT,0,none⟩) N cT] 52 (0,0))/\X.drew.ownsRow (w.heap.size+1) 3 1 (.slice (some ⟨w.heap.size+1,0,none⟩) N N) N (nats (merTo L x y 0))/\Below w.heap.size w X.drew):=(by rw[merTo_zero];exact⟨HXR.out.1,own_any HXR.out.2.1 (grown_below ((Below.refl _ _).drew) none),HXR.out.2.2.drew⟩:X.drew.heap[w.heap.size]?=some (.cells #[.slice a C.length cap,.int .i64 loops,.slice (some ⟨gF,0,none⟩) N cF,.slice (some ⟨gT,0,none⟩) N cT] 52 (0,0))/\X.drew.ownsRow (w.heap.size+1) 3 1 (.slice (some ⟨w.heap.size+1,0,none⟩) N N) N (nats (merTo L x y 0))/\Below w.heap.size w X.drew)
       have HME:Hid (∀ v,v<N->(mer L x y).getD v 0=if L.getD v 0=hi then lo else L.getD v 0):=fun v hv=>by rw[mer_at L x y v (by rw[HLL.out];exact hv),HPQ.out.1,HPQ.out.2,HLH.out.1,HLH.out.2]
       have hdk:decide ((k:Int)<(C.length:Int))=true:=by simp;omega
       have hdk2:decide (k<C.length)=true:=by simp;omega
       clear HXR HXB HGX HX0 HPQ HLH
       go_wp2
       go_loopw [56] (fun v56 wr=>∃ j:Nat,j<=N/\v56=.int .i64 (j:Nat)/\Hid (wr.heap[w.heap.size]?=some (.cells #[.slice a C.length cap,.int .i64 loops,.slice (some ⟨gF,0,none⟩) N cF,.slice (some ⟨gT,0,none⟩) N cT] 52 (0,0))/\wr.ownsRow (w.heap.size+1) 3 1 (.slice (some ⟨w.heap.size+1,0,none⟩) N N) N (nats (merTo L x y j))/\Below w.heap.size w wr)) (fun v56 _=>N-(intOf v56).toNat)
       case atStart=>exact⟨0,Nat.zero_le _,rfl,HQ0.out⟩
       case round=>
        clear HQ0
        rename World=>W3
        obtain⟨j,hjn,rfl,hq⟩:=hrel
        have hg3:=(hq.out.2.1.lt (w.heap.size+1) rfl).2
        by_cases hjl:j<N
        · have f0 : W3.cell? ⟨w.heap.size + 1, j, none⟩ = some (.int .i64 (L.getD j 0 : Nat)) := by
            rw[hq.out.2.1.cellAt j (by omega),nats_get _ j (by rw[merTo_len,HLL.out];exact hjl),merTo_at _ _ _ _ _ (by rw[HLL.out];exact hjl),if_neg (by omega)]
          obtain⟨z,hz⟩:∃ z,L.getD j 0=z:=⟨_,rfl⟩
          have HZ:Hid (L.getD j 0=z):=hz
          rw[hz]at f0
          clear hz
          by_cases hzh:z=hi
          · subst hzh
            have hst:=hq.out.2.1.stored j (.int .i64 (lo:Nat))
            rw[nats_set,merTo_next L x y j lo (by rw[HLL.out];exact hjl) (by rw[HME.out j hjl,HZ.out,if_pos rfl])]at hst
            have HST:Hid ((W3.setCell ⟨w.heap.size+1,j,none⟩ (.int .i64 (lo:Nat))).heap[w.heap.size]?=some (.cells #[.slice a C.length cap,.int .i64 loops,.slice (some ⟨gF,0,none⟩) N cF,.slice (some ⟨gT,0,none⟩) N cT] 52 (0,0))/\(W3.setCell ⟨w.heap.size+1,j,none⟩ (.int .i64 (lo:Nat))).ownsRow (w.heap.size+1) 3 1 (.slice (some ⟨w.heap.size+1,0,none⟩) N N) N (nats (merTo L x y (j+1)))/\Below w.heap.size w (W3.setCell ⟨w.heap.size+1,j,none⟩ (.int .i64 (lo:Nat)))):=⟨(hst.2.block _ (by omega) (fun e=>by have:w.heap.size=w.heap.size+1:=Option.some.inj e;omega)).trans hq.out.1,hst.1,hq.out.2.2.grown hst.2 hq.out.2.2.size (fun q hq=>by have:=Option.some.inj hq;omega)⟩
            have z0:W3.frozen? ⟨w.heap.size+1,j,none⟩=false:=hq.out.2.1.frozenAt j
            have hzz:((z:Int)==(z:Int))=true:=by simp
            clear hst
            go_wp2
            go_roundw
            case rel=>exact⟨j+1,by omega,by go_num,HST.out⟩
            case measure=>simp only[intOf];omega
          · have hzz:((z:Int)==(hi:Int))=false:=by simp;omega
            have hzz2:(z==hi)=false:=by simp;omega
            have HST:Hid (W3.heap[w.heap.size]?=some (.cells #[.slice a C.length cap,.int .i64 loops,.slice (some ⟨gF,0,none⟩) N cF,.slice (some ⟨gT,0,none⟩) N cT] 52 (0,0))/\W3.ownsRow (w.heap.size+1) 3 1 (.slice (some ⟨w.heap.size+1,0,none⟩) N N) N (nats (merTo L x y (j+1)))/\Below w.heap.size w W3):=(by rw[<-merTo_same L x y j (by rw[HLL.out];exact hjl) (by rw[HME.out j hjl,HZ.out,if_neg hzh])];exact hq.out:W3.heap[w.heap.size]?=some (.cells #[.slice a C.length cap,.int .i64 loops,.slice (some ⟨gF,0,none⟩) N cF,.slice (some ⟨gT,0,none⟩) N cT] 52 (0,0))/\W3.ownsRow (w.heap.size+1) 3 1 (.slice (some ⟨w.heap.size+1,0,none⟩) N N) N (nats (merTo L x y (j+1)))/\Below w.heap.size w W3)
            go_wp2
            go_roundw
            case rel=>exact⟨j+1,by omega,by go_num,HST.out⟩
            case measure=>simp only[intOf];omega
        · obtain rfl:N=j:=by omega
          go_wp2
          go_roundw
          case rel=>exact⟨k+1,by omega,by go_num,(by have h:=hq.out;rw[<-HLL.out,merTo_all,HLL.out]at h;rw[HLV.out];exact h:W3.heap[w.heap.size]?=some (.cells #[.slice a C.length cap,.int .i64 loops,.slice (some ⟨gF,0,none⟩) N cF,.slice (some ⟨gT,0,none⟩) N cT] 52 (0,0))/\W3.ownsRow (w.heap.size+1) 3 1 (.slice (some ⟨w.heap.size+1,0,none⟩) N N) N (nats (mers (List.range N) ((ovE C).take (k+1))))/\Below w.heap.size w W3)⟩
          case measure=>simp only[intOf];omega
     · obtain rfl:k=C.length:=by omega
       go_wp2
       go_ret
       exact⟨_,rfl,(by have h:=hp.out.2.1;rw[ovE_all]at h;have e:lowM C=mers (List.range N) (ovE C):=(by unfold lowM;rw[HN.out]);rw[e];exact own_low h (by omega)),hp.out.2.2⟩
end Go.Proofs.Ytgagenmkpmmpfaa
/- The walks of colour.overpasses and colour.Overs. -/
namespace Go.Proofs.Ytgagenmkpmmpfaa
open Go.RowKit
set_option maxHeartbeats 16000000
set_option maxRecDepth 100000
def ovTo (C:List Cr) (k:Nat):List Nat:=(List.range (2*C.length+1)).map fun v=>if v<k/\1<=v then ovM C v else 0
theorem ovTo_len (C:List Cr) (k:Nat):(ovTo C k).length=2*C.length+1:=by simp[ovTo]
theorem ovTo_at (C:List Cr) (k v:Nat) (hv:v<2*C.length+1):(ovTo C k).getD v 0=if v<k/\1<=v then ovM C v else 0:=by simp[ovTo,List.getD_eq_getElem?_getD,hv]
theorem ovTo_zero (C:List Cr):List.replicate (2*C.length+1) 0=ovTo C 1:=by
 refine List.ext_getElem (by simp[ovTo]) fun j h1 h2=>?_
 simp only[ovTo,List.getElem_map,List.getElem_range,List.getElem_replicate]
 rw[if_neg (by omega)]
theorem ovTo_next (C:List Cr) (k z:Nat) (hk:k<2*C.length+1) (h1:1<=k) (hz:ovM C k=z):(ovTo C k).set k z=ovTo C (k+1):=getD_ext (by simp[ovTo_len]) fun v hv=>by
 have hv':v<2*C.length+1:=by simpa[ovTo_len] using hv
 rw[getD_set _ _ _ _ (by rw[ovTo_len];exact hk),ovTo_at _ _ _ hv',ovTo_at _ _ _ hv']
 by_cases e:v=k
 · subst e;rw[if_pos rfl,if_pos ⟨by omega,h1⟩,hz]
 · rw[if_neg e]
   by_cases h2:v<k/\1<=v
   · rw[if_pos h2,if_pos ⟨by omega,h2.2⟩]
   · rw[if_neg h2,if_neg (fun q=>h2 ⟨by omega,q.2⟩)]
theorem ovTo_drop (C:List Cr):(ovTo C (2*C.length+1)).drop 1=ovL C (2*C.length):=by
 refine List.ext_getElem (by simp[ovTo,ovL]) fun j h1 h2=>?_
 simp only[List.getElem_drop,ovTo,ovL,List.getElem_map,List.getElem_range]
 rw [if_pos ⟨by have : j < 2 * C.length := by simpa [ovL] using h2
                omega,by omega⟩,Nat.add_comm]
theorem overpasses_any (a : Option Addr) (cap : Nat) (C : List Cr) (loops : Int) (gF cF gT cT : Nat) (w : World) (hm : mayD C loops = true) (hD : Dr w a cap C gF gT) :
    Calls Try.prog 63 #[drV a cap C loops gF cF gT cT] w fun e w'=>∃ g,e=.returned (.tuple #[.slice (some ⟨g,0,none⟩) (2*C.length+1) (2*C.length+1),.int .i64 (ovC C:Nat)])/\w'.ownsRow w.heap.size 3 1 (.slice (some ⟨g,0,none⟩) (2*C.length+1) (2*C.length+1)) (2*C.length+1) (nats (ovTo C (2*C.length+1)))/\Below w.heap.size w w':=by
 obtain⟨s1,-,-,-⟩:=sizeB_iff (may_size hm)
 obtain⟨i2,hk,hx0,hx1,hx2⟩:=info_parts infoInt
 have HM:Hid (mayD C loops=true):=hm
 have HD:Hid (Dr w a cap C gF gT):=hD
 have HLS:Hid (Least (ovE C) (2*C.length+1) (lowM C)):=lowM_least (ovE_lt hm)
 have HCV:Hid (ovC C=rootsN (lowM C) (2*C.length+1)):=(rfl:ovC C=rootsN (lowM C) (2*C.length+1))
 have HLP:Hid (∀ v,1<=v->v<2*C.length+1->1<=(lowM C).getD v 0):=fun v h1 h2=>HLS.out.pos (fun e he=>⟨(ovE_in HM.out e he).1.1,(ovE_in HM.out e he).2.1⟩) h2 h1
 have HZ0:Hid (List.replicate (2*C.length+1) 0=ovTo C 1):=ovTo_zero C
 have HB0:Hid (Below w.heap.size w (w.alloc (.cells #[.slice a C.length cap,.int .i64 loops,.slice (some ⟨gF,0,none⟩) (2*C.length+1) cF,.slice (some ⟨gT,0,none⟩) (2*C.length+1) cT] 52))):=(Below.refl _ _).alloc (Nat.le_refl _) _
 unfold drV
 obtain⟨N,hN⟩:∃ N,N=2*C.length+1:=⟨_,rfl⟩
 have HN:Hid (N=2*C.length+1):=hN
 have hN1:1<=N:=by omega
 have hN2:N<=33:=by omega
 have HLA:Hid (∀ W,Dr W a cap C gF gT->Calls Try.prog 70 #[.agg #[.slice a C.length cap,.int .i64 loops,.slice (some ⟨gF,0,none⟩) N cF,.slice (some ⟨gT,0,none⟩) N cT]] W fun e w'=>∃ g,e=.returned (.slice (some ⟨g,0,none⟩) N N)/\w'.ownsRow W.heap.size 3 1 (.slice (some ⟨g,0,none⟩) N N) N (nats (lowM C))/\Below W.heap.size W w'):=fun W hW=>by rw[hN];exact lowestArcs_any a cap C loops gF cF gT cT W HM.out hW
 rw[<-hN]at HLS HCV HLP HZ0 HB0 ⊢
 rw[HCV.out]
 clear hm hD hN
 go_enter Try.func63,Try.ntmps63
 go_wp2_with (go_at_call 70;refine(HLA.out _ (HD.out.on HB0.out)).mono ?_;rintro e9 w1 ⟨g,rfl,hr1,hb1⟩;refine Hid.out ?_)
 refine Lib.hid ?_
 have hs1:w.heap.size+1<=w1.heap.size:=by have:=hb1.size;simpa using this
 have hg1:w.heap.size+1<=g/\g<w1.heap.size:=by have:=hr1.lt g rfl;simpa using this
 have HR1:Hid (w1.ownsRow (w.heap.size+1) 3 1 (.slice (some ⟨g,0,none⟩) N N) N (nats (lowM C))/\Below w.heap.size w w1):=⟨own_low hr1 (by simp),HB0.out.trans (hb1.mono (by simp))⟩
 clear hr1 hb1
 go_wp2_with (first|(at_make;refine wpList_make_full _ rfl _ _ 22 rfl w1.heap.size 3 i2 (.int .i64 0) 1 Try.underlying22 hk hx0 hx1 .i64 .i64 _ _ N rfl rfl rfl rfl (by rw[hx2];omega) (by unfold maxLen;omega) (by omega) ?_;intro w2 hrow hg2;refine Hid.out ?_))
 refine Lib.hid ?_
 rw[made_zeroN,HZ0.out]at hrow
 have HP0:Hid (w2.ownsRow (w.heap.size+1) 3 1 (.slice (some ⟨g,0,none⟩) N N) N (nats (lowM C))/\w2.ownsRow w1.heap.size 3 1 (.slice (some ⟨w1.heap.size,0,none⟩) N N) N (nats (ovTo C 1))/\Below w.heap.size w w2):=⟨own_any HR1.out.1 hg2,hrow,HR1.out.2.grown hg2 HR1.out.2.size (fun q hq=>by cases hq)⟩
 clear hrow hg2 HR1
 go_wp2
 go_loopw [3,5] (fun v3 v5 wr=>∃ j:Nat,1<=j/\j<=N/\v5=.int .i64 (j:Nat)/\v3=.int .i64 (rootsN (lowM C) j:Nat)/\Hid (wr.ownsRow (w.heap.size+1) 3 1 (.slice (some ⟨g,0,none⟩) N N) N (nats (lowM C))/\wr.ownsRow w1.heap.size 3 1 (.slice (some ⟨w1.heap.size,0,none⟩) N N) N (nats (ovTo C j))/\Below w.heap.size w wr)) (fun _ v5 _=>N-(intOf v5).toNat)
 case atStart=>exact⟨1,Nat.le_refl _,hN1,rfl,(by simp[rootsN]),HP0.out⟩
 case round=>
  clear HP0
  rename World=>W1
  obtain⟨j,hj1,hjn,rfl,rfl,hp⟩:=hrel
  have hlt:=(hp.out.2.1.lt w1.heap.size rfl).2
  have hr1:=rootsN_le (lowM C) j
  by_cases hjl:j<N
  · obtain⟨q,hq⟩:∃ q,(lowM C).getD j 0=q:=⟨_,rfl⟩
    have hqj:q<=j:=by rw[<-hq];exact HLS.out.le hjl
    have hq1:1<=q:=by rw[<-hq];exact HLP.out j hj1 hjl
    have hqN:q<N:=by omega
    have e0:W1.cell? ⟨g,j,none⟩=some (.int .i64 (q:Nat)):=by
     rw[hp.out.1.cellAt j (by omega),nats_get _ j (by rw[HLS.out.1];omega),hq]
    by_cases hql:q<j
    · have HQR:Hid ((lowM C).getD q 0=q):=(by have h:=HLS.out.root hjl;rw[hq]at h;exact h:(lowM C).getD q 0=q)
      have HOV:Hid (ovM C j=rootsN (lowM C) q):=(by unfold ovM;rw[hq]:ovM C j=rootsN (lowM C) q)
      have e1:W1.cell? ⟨w1.heap.size,q,none⟩=some (.int .i64 (rootsN (lowM C) q:Nat)):=by
       rw[hp.out.2.1.cellAt q (by omega),nats_get _ q (by rw[ovTo_len];have:=HN.out;omega),ovTo_at _ _ _ (by have:=HN.out;omega),if_pos ⟨hql,hq1⟩]
       unfold ovM
       rw[HQR.out]
      have HR1:Hid (rootsN (lowM C) (j+1)=rootsN (lowM C) j):=(by simp only[rootsN];rw[if_neg (fun z=>by have:=z.2;omega)];simp:rootsN (lowM C) (j+1)=rootsN (lowM C) j)
      have hdq:decide ((q:Int)<(j:Int))=true:=by simp;omega
      have hdq2:decide (q<j)=true:=by simp;omega
      clear hq
      have hst:=hp.out.2.1.stored j (.int .i64 (rootsN (lowM C) q:Nat))
      rw[nats_set,ovTo_next C j (rootsN (lowM C) q) (by have:=HN.out;omega) hj1 HOV.out]at hst
      have HST:Hid ((W1.setCell ⟨w1.heap.size,j,none⟩ (.int .i64 (rootsN (lowM C) q:Nat))).ownsRow (w.heap.size+1) 3 1 (.slice (some ⟨g,0,none⟩) N N) N (nats (lowM C))/\(W1.setCell ⟨w1.heap.size,j,none⟩ (.int .i64 (rootsN (lowM C) q:Nat))).ownsRow w1.heap.size 3 1 (.slice (some ⟨w1.heap.size,0,none⟩) N N) N (nats (ovTo C (j+1)))/\Below w.heap.size w (W1.setCell ⟨w1.heap.size,j,none⟩ (.int .i64 (rootsN (lowM C) q:Nat)))):=⟨hp.out.1.kept hst.2 (Or.inr (fun e=>by have:g=w1.heap.size:=Option.some.inj e;omega)),hst.1,hp.out.2.2.grown hst.2 hp.out.2.2.size (fun q hq=>by have:=Option.some.inj hq;omega)⟩
      have z0:W1.frozen? ⟨w1.heap.size,j,none⟩=false:=hp.out.2.1.frozenAt j
      have eo:W1.cell? ⟨w1.heap.size,j,none⟩=some (.int .i64 ((ovTo C j).getD j 0:Nat)):=by
       rw[hp.out.2.1.cellAt j (by omega)];exact nats_get _ j (by rw[ovTo_len];have:=HN.out;omega)
      clear hst
      go_wp2
      go_roundw
      case rel=>exact⟨j+1,by omega,by omega,by go_num,(by rw[HR1.out]),HST.out⟩
      case measure=>simp only[intOf];omega
    · obtain rfl:q=j:=by omega
      have HOV:Hid (ovM C q=rootsN (lowM C) q):=(by unfold ovM;rw[hq]:ovM C q=rootsN (lowM C) q)
      have HR1:Hid (rootsN (lowM C) (q+1)=rootsN (lowM C) q+1):=(by simp only[rootsN];rw[if_pos ⟨hq1,hq⟩]:rootsN (lowM C) (q+1)=rootsN (lowM C) q+1)
      have hdq:decide ((q:Int)<(q:Int))=false:=by simp
      have hdq2:decide (q<q)=false:=by simp
      clear hq
      have hst:=hp.out.2.1.stored q (.int .i64 (rootsN (lowM C) q:Nat))
      rw[nats_set,ovTo_next C q (rootsN (lowM C) q) (by have:=HN.out;omega) hj1 HOV.out]at hst
      have HST:Hid ((W1.setCell ⟨w1.heap.size,q,none⟩ (.int .i64 (rootsN (lowM C) q:Nat))).ownsRow (w.heap.size+1) 3 1 (.slice (some ⟨g,0,none⟩) N N) N (nats (lowM C))/\(W1.setCell ⟨w1.heap.size,q,none⟩ (.int .i64 (rootsN (lowM C) q:Nat))).ownsRow w1.heap.size 3 1 (.slice (some ⟨w1.heap.size,0,none⟩) N N) N (nats (ovTo C (q+1)))/\Below w.heap.size w (W1.setCell ⟨w1.heap.size,q,none⟩ (.int .i64 (rootsN (lowM C) q:Nat)))):=⟨hp.out.1.kept hst.2 (Or.inr (fun e=>by have:g=w1.heap.size:=Option.some.inj e;omega)),hst.1,hp.out.2.2.grown hst.2 hp.out.2.2.size (fun q hq=>by have:=Option.some.inj hq;omega)⟩
      have z0:W1.frozen? ⟨w1.heap.size,q,none⟩=false:=hp.out.2.1.frozenAt q
      have eo:W1.cell? ⟨w1.heap.size,q,none⟩=some (.int .i64 ((ovTo C q).getD q 0:Nat)):=by
       rw[hp.out.2.1.cellAt q (by omega)];exact nats_get _ q (by rw[ovTo_len];have:=HN.out;omega)
      clear hst
      go_wp2
      go_roundw
      case rel=>exact⟨q+1,by omega,by omega,by go_num,(by rw[HR1.out];go_num),HST.out⟩
      case measure=>simp only[intOf];omega
  · obtain rfl:N=j:=by omega
    go_wp2
    go_ret2
    exact⟨_,rfl,own_low hp.out.2.1 (by omega),hp.out.2.2⟩
end Go.Proofs.Ytgagenmkpmmpfaa
/- One more than the greatest number of a list; the walk of ref.mostOf. -/
namespace Go.Proofs.Ytgagenmkpmmpfaa
open Go.RowKit
def mostTo (l:List Nat):Nat->Nat
 |0=>0
 |k+1=>max (mostTo l k) (l.getD k 0+1)
theorem mostTo_le (l:List Nat) (B k:Nat) (hk:k<=l.length) (h:∀ x,x∈l->x<B):mostTo l k<=B:=by
 induction k with
 |zero=>exact Nat.zero_le _
 |succ k ih=>
  have:=ih (by omega)
  have h2:=h (l.getD k 0) (by rw[List.getD_eq_getElem?_getD,List.getElem?_eq_getElem (by omega)];exact List.getElem_mem _)
  simp only[mostTo]
  omega
theorem mostTo_ov {C:List Cr} (hL:Least (ovE C) (2*C.length+1) (lowM C)) (hpos:∀ v,1<=v->v<2*C.length+1->1<=(lowM C).getD v 0) (k:Nat) (hk:k<=2*C.length):mostTo (ovL C (2*C.length)) k=rootsN (lowM C) (k+1):=by
 induction k with
 |zero=>simp[mostTo,rootsN]
 |succ k ih=>
  have h1:=ih (by omega)
  have e:(ovL C (2*C.length)).getD k 0=ovM C (k+1):=by simp[ovL,List.getD_eq_getElem?_getD,show k<2*C.length by omega]
  have hv:k+1<2*C.length+1:=by omega
  simp only[mostTo]
  rw[h1,e]
  show max (rootsN (lowM C) (k+1)) (ovM C (k+1)+1)=rootsN (lowM C) (k+1)+(if 1<=k+1/\(lowM C).getD (k+1) 0=k+1 then 1 else 0)
  by_cases hr:(lowM C).getD (k+1) 0=k+1
  · rw[if_pos ⟨by omega,hr⟩]
    unfold ovM
    rw[hr]
    omega
  · rw[if_neg (fun z=>hr z.2)]
    have hle:=hL.le hv
    have hp:=hpos (k+1) (by omega) hv
    have hroot:=hL.root hv
    have h3:rootsN (lowM C) ((lowM C).getD (k+1) 0+1)=ovM C (k+1)+1:=by
     show rootsN (lowM C) _+_=_
     rw[if_pos ⟨hp,hroot⟩]
     rfl
    have h4:=rootsN_mono (lowM C) ((lowM C).getD (k+1) 0+1) (k+1) (by omega)
    omega
end Go.Proofs.Ytgagenmkpmmpfaa
/- The walk of colour.Overs. -/
namespace Go.Proofs.Ytgagenmkpmmpfaa
open Go.RowKit
set_option maxHeartbeats 4000000
set_option maxRecDepth 100000
theorem overs_yes (hFR : FaceRingsOk) (v : Value) (C : List Cr) (loops : Int) (w : World) (hn : noN C loops = 0) (h : Crs w w.heap.size v C) :
    Calls Try.prog 52 #[.agg #[v,.int .i64 loops]] w fun e w'=>∃ a c,e=.returned (.tuple #[.slice a (2*C.length) c,.int .i64 0])/\Slots w' w'.heap.size (.slice a (2*C.length) c) (nats (ovL C (2*C.length)))/\Below w.heap.size w w':=by
 have HC:Hid (Crs w w.heap.size v C):=h
 obtain⟨hm,hp⟩:=noN_zero hn
 have HM:Hid (mayD C loops=true):=hm
 have HP:Hid (planarB C=true):=hp
 have HFA:Hid FaceRingsOk:=hFR
 obtain⟨s1,s2,s3,s4⟩:=sizeB_iff (may_size hm)
 obtain⟨a,cap,rfl,-,-⟩:=h
 have HB1:Hid (Below w.heap.size w (w.alloc (.cells #[.slice a C.length cap,.int .i64 loops] 29))):=(Below.refl _ _).alloc (Nat.le_refl _) _
 clear hm hp hn hFR
 go_enter Try.func52,Try.ntmps52
 go_wp2_with (go_at_call 62;refine(flat_yes HFA.out _ C loops _ HM.out HP.out (HC.out.up HB1.out)).mono ?_;rintro e9 w2 ⟨a',cap',gF,cF,gT,cT,rfl,hdr,hb2⟩;refine Hid.out ?_)
 refine Lib.hid ?_
 have HDR:Hid (Dr w2 a' cap' C gF gT):=hdr
 have HOV:Hid (∀ W,Dr W a' cap' C gF gT->Calls Try.prog 63 #[drV a' cap' C loops gF cF gT cT] W fun e w'=>∃ g,e=.returned (.tuple #[.slice (some ⟨g,0,none⟩) (2*C.length+1) (2*C.length+1),.int .i64 (ovC C:Nat)])/\w'.ownsRow W.heap.size 3 1 (.slice (some ⟨g,0,none⟩) (2*C.length+1) (2*C.length+1)) (2*C.length+1) (nats (ovTo C (2*C.length+1)))/\Below W.heap.size W w'):=fun W hW=>overpasses_any a' cap' C loops gF cF gT cT W HM.out hW
 unfold drV at HOV
 unfold drV
 have HB2:Hid (Below w.heap.size w w2):=HB1.out.trans (hb2.mono HB1.out.size)
 have hs2:=HB2.out.size
 have HBA:Hid (Below w2.heap.size w2 (w2.alloc (.cells #[.slice a' C.length cap',.int .i64 loops,.slice (some ⟨gF,0,none⟩) (2*C.length+1) cF,.slice (some ⟨gT,0,none⟩) (2*C.length+1) cT] 52))):=(Below.refl _ _).alloc (Nat.le_refl _) _
 clear hb2 hdr
 go_wp2_with (go_at_call 63;refine(HOV.out _ (HDR.out.on HBA.out)).mono ?_;rintro e9 w3 ⟨g,rfl,hr3,hb3⟩;refine Hid.out ?_)
 refine Lib.hid ?_
 have HSL : Hid (∀ c, Slots w3 w3.heap.size (.slice (some ⟨g, 1, none⟩) (2 * C.length) c) (nats (ovL C (2 * C.length)))) := fun c => ⟨_, _, by rw [nats_len, ovL_len], fun _ => ⟨g, 1, rfl, (hr3.lt g rfl).2, fun i hi => by
  rw[nats_len,ovL_len]at hi
  have e:(nats (ovL C (2*C.length))).getD i (.bool false)=.int .i64 ((ovL C (2*C.length)).getD i 0:Nat):=by
   rw[List.getD_eq_getElem?_getD,nats_get _ i (by rw[ovL_len];exact hi)];rfl
  rw[hr3.cellAt (1+i) (by omega),nats_get _ (1+i) (by rw[ovTo_len];omega),e,<-ovTo_drop]
  simp[List.getD_eq_getElem?_getD,Nat.add_comm 1 i]⟩⟩
 have HSN:Hid (∀ a c,Slots w3 w3.heap.size (.slice a 0 c) (nats (ovL C 0))):=fun a c=>⟨_,_,by rw[nats_len,ovL_len],fun h1=>by rw[nats_len,ovL_len]at h1;omega⟩
 have HB3:Hid (Below w.heap.size w w3):=HB2.out.trans ((HBA.out.trans (hb3.mono (by simp))).mono hs2)
 clear hr3 hb3
 go_wp2
 all_goals
  go_ret2
  first
   |exact⟨_,_,rfl,HSL.out _,HB3.out⟩
   |exact⟨_,_,rfl,HSN.out _ _,HB3.out⟩
end Go.Proofs.Ytgagenmkpmmpfaa

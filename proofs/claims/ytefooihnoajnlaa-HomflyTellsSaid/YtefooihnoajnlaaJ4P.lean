/- Several texts of the proof, one behind the other. -/
import Derived.Test.YtefooihnoajnlaaF12P
import Derived.Lib.Hide
/- The walk of homfly.drawn, with one crossing that is asked for. -/
namespace Go.Proofs.Ytefooihnoajnlaa
open Go.RowKit
theorem gcell {w w':World} {row:Option Nat} (hg:w.grownBy w' row) {b o:Nat} {v:Option Value} (hb:b<w.heap.size) (hne:some b≠row) (hc:w.cell? ⟨b,o,none⟩=v):w'.cell? ⟨b,o,none⟩=v:=by
 rw[<-hc]
 unfold World.cell?
 simp only[]
 rw[hg.block b hb hne]
theorem Dr.kept {w w':World} {a:Option Addr} {cap:Nat} {C:List Cr} {gF gT:Nat} {row:Option Nat} (h:Dr w a cap C gF gT) (hg:w.grownBy w' row) (hC:Crs w' w'.heap.size (.slice a C.length cap) C) (h1:some gF≠row) (h2:some gT≠row):Dr w' a cap C gF gT:=
 ⟨hC,Nat.lt_of_lt_of_le h.ltF hg.size,Nat.lt_of_lt_of_le h.ltT hg.size,fun i hi=>⟨gcell hg h.ltF h1 (h.from_ i hi).1,gcell hg h.ltF h1 (h.from_ i hi).2⟩,fun i hi=>⟨gcell hg h.ltT h2 (h.to i hi).1,gcell hg h.ltT h2 (h.to i hi).2⟩⟩
end Go.Proofs.Ytefooihnoajnlaa
/- The walk of homfly.drawn, with no crossing that is asked for. -/
namespace Go.Proofs.Ytefooihnoajnlaa
open Go.RowKit
set_option maxHeartbeats 8000000
set_option maxRecDepth 100000
theorem drawn_badH (hFR : FaceRingsOk) (a : Option Addr) (cap : Nat) (C : List Cr) (loops : Int) (w : World) (hn : noN C loops ≠ 0) (h : Crs w w.heap.size (.slice a C.length cap) C) :
    Calls Try.prog 12 #[.agg #[.slice a C.length cap,.int .i64 loops],.slice none 0 0] w fun e w'=>e=.returned (.tuple #[noDrawing,.int .i64 (noN C loops)])/\Below w.heap.size w w':=by
 have HC:Hid (Crs w w.heap.size (.slice a C.length cap) C):=h
 have HF:Hid (∀ W,Crs W W.heap.size (.slice a C.length cap) C->Calls Try.prog 23 #[.agg #[.slice a C.length cap,.int .i64 loops]] W fun e w'=>e=.returned (.tuple #[noDrawing,.int .i64 (noN C loops)])/\Below W.heap.size W w'):=fun W hW=>flat_not hFR a cap C loops W hn hW
 generalize noN C loops=r at hn HF
 have hr0:(r==0)=false:=beq_eq_false_iff_ne.2 hn
 have HB1:Hid (Below w.heap.size w ((w.alloc (.cells #[.slice a C.length cap,.int .i64 loops] 24)).alloc (.cells #[.slice none 0 0,.int .i64 0,.slice none 0 0,.slice none 0 0] 41))):=below2 _ _ _
 clear h
 go_enter Try.func12,Try.ntmps12
 go_wp2_with (go_at_call 23;refine(HF.out _ (HC.out.up HB1.out)).mono ?_;rintro e9 w2 ⟨rfl,hb2⟩;refine Hid.out ?_)
 refine Lib.hid ?_
 unfold noDrawing
 have HB2:Hid (Below w.heap.size w w2):=HB1.out.trans (hb2.mono (by simp;omega))
 have hR:w2.heap[w.heap.size+1]?=some (.cells #[.slice none 0 0,.int .i64 0,.slice none 0 0,.slice none 0 0] 41 (0,0)):=(hb2.block _ (by simp)).trans (alloc_at (by simp))
 have HR:Hid (w2.heap[w.heap.size+1]?=some (.cells #[.slice none 0 0,.int .i64 0,.slice none 0 0,.slice none 0 0] 41 (0,0))):=hR
 have hs2:w.heap.size+2<=w2.heap.size:=by have:=hb2.size;simpa using this
 have HBA:Hid (Below w.heap.size w (w2.alloc (.cells #[.slice none 0 0,.int .i64 0,.slice none 0 0,.slice none 0 0] 41))):=HB2.out.alloc HB2.out.size _
 have HA:Hid ((w2.alloc (.cells #[.slice none 0 0,.int .i64 0,.slice none 0 0,.slice none 0 0] 41)).heap[w.heap.size+1]?=some (.cells #[.slice none 0 0,.int .i64 0,.slice none 0 0,.slice none 0 0] 41 (0,0))):=alloc_old HR.out
 have c0:(w2.alloc (.cells #[.slice none 0 0,.int .i64 0,.slice none 0 0,.slice none 0 0] 41)).cell? ⟨w.heap.size+1,0,none⟩=some (.slice none 0 0):=block_cell HA.out rfl
 have c1:(w2.alloc (.cells #[.slice none 0 0,.int .i64 0,.slice none 0 0,.slice none 0 0] 41)).cell? ⟨w.heap.size+1,1,none⟩=some (.int .i64 0):=block_cell HA.out rfl
 have c2:(w2.alloc (.cells #[.slice none 0 0,.int .i64 0,.slice none 0 0,.slice none 0 0] 41)).cell? ⟨w.heap.size+1,2,none⟩=some (.slice none 0 0):=block_cell HA.out rfl
 have c3:(w2.alloc (.cells #[.slice none 0 0,.int .i64 0,.slice none 0 0,.slice none 0 0] 41)).cell? ⟨w.heap.size+1,3,none⟩=some (.slice none 0 0):=block_cell HA.out rfl
 have f0:(w2.alloc (.cells #[.slice none 0 0,.int .i64 0,.slice none 0 0,.slice none 0 0] 41)).frozen? ⟨w.heap.size+1,0,none⟩=false:=block_frozen HA.out
 have f1:(w2.alloc (.cells #[.slice none 0 0,.int .i64 0,.slice none 0 0,.slice none 0 0] 41)).frozen? ⟨w.heap.size+1,1,none⟩=false:=block_frozen HA.out
 have f2:(w2.alloc (.cells #[.slice none 0 0,.int .i64 0,.slice none 0 0,.slice none 0 0] 41)).frozen? ⟨w.heap.size+1,2,none⟩=false:=block_frozen HA.out
 have f3:(w2.alloc (.cells #[.slice none 0 0,.int .i64 0,.slice none 0 0,.slice none 0 0] 41)).frozen? ⟨w.heap.size+1,3,none⟩=false:=block_frozen HA.out
 clear hb2 hR
 go_wp2
 have hG:=st4_grown (w2.alloc (.cells #[.slice none 0 0,.int .i64 0,.slice none 0 0,.slice none 0 0] 41)) (w.heap.size+1) (.slice none 0 0) (.int .i64 0) (.slice none 0 0) (.slice none 0 0)
 have hX:=st4_block (a:=.slice none 0 0) (b:=.int .i64 0) (c:=.slice none 0 0) (d:=.slice none 0 0) HA.out
 have x0:=block_cell (i:=0) (v:=.slice none 0 0) hX rfl
 have x1:=block_cell (i:=1) (v:=.int .i64 0) hX rfl
 have x2:=block_cell (i:=2) (v:=.slice none 0 0) hX rfl
 have x3:=block_cell (i:=3) (v:=.slice none 0 0) hX rfl
 have hbb:=HBA.out.grown hG HBA.out.size (fun k hk=>by have:=Option.some.inj hk;omega)
 unfold st4 at x0 x1 x2 x3
 exact bodyPost_ret (v:=.tuple #[.agg #[.slice none 0 0,.int .i64 0,.slice none 0 0,.slice none 0 0],.int .i64 r]) (by simp[results,Try.results12,go_sem,x0,x1,x2,x3]) rfl ⟨rfl,hbb⟩
theorem drawn_flatH (hFR : FaceRingsOk) (a : Option Addr) (cap : Nat) (C : List Cr) (loops : Int) (w : World) (hn : noN C loops = 0) (h : Crs w w.heap.size (.slice a C.length cap) C) :
    Calls Try.prog 12 #[.agg #[.slice a C.length cap,.int .i64 loops],.slice none 0 0] w fun e w'=>((C.length<=8/\∃ gF cF gT cT,e=.returned (.tuple #[drV a cap C loops gF cF gT cT,.int .i64 0])/\Dr w' a cap C gF gT)∨(8<C.length/\e=.returned (.tuple #[noDrawing,.int .i64 2])))/\Below w.heap.size w w':=by
 have hmp:=noN_zero hn
 obtain⟨s1,-,-,-⟩:=sizeB_iff (may_size hmp.1)
 have HC:Hid (Crs w w.heap.size (.slice a C.length cap) C):=h
 have HF:Hid (∀ W,Crs W W.heap.size (.slice a C.length cap) C->Calls Try.prog 23 #[.agg #[.slice a C.length cap,.int .i64 loops]] W fun e w'=>∃ gF cF gT cT,e=.returned (.tuple #[drV a cap C loops gF cF gT cT,.int .i64 0])/\(Dr w' a cap C gF gT/\W.heap.size<=gF/\W.heap.size<=gT)/\Below W.heap.size W w'):=fun W hW=>flat_yesB hFR a cap C loops W hmp.1 hmp.2 hW
 have HB1:Hid (Below w.heap.size w ((w.alloc (.cells #[.slice a C.length cap,.int .i64 loops] 24)).alloc (.cells #[.slice none 0 0,.int .i64 0,.slice none 0 0,.slice none 0 0] 41))):=below2 _ _ _
 clear h hmp hn
 go_enter Try.func12,Try.ntmps12
 go_wp2_with (go_at_call 23;refine(HF.out _ (HC.out.up HB1.out)).mono ?_;rintro e9 w2 ⟨gF,cF,gT,cT,rfl,hd2,hb2⟩;refine Hid.out ?_)
 refine Lib.hid ?_
 unfold drV
 have hg2:=hd2.2
 simp only[World.size_alloc]at hg2
 have HB2:Hid (Below w.heap.size w w2):=HB1.out.trans (hb2.mono (by simp;omega))
 have HR:Hid (w2.heap[w.heap.size+1]?=some (.cells #[.slice none 0 0,.int .i64 0,.slice none 0 0,.slice none 0 0] 41 (0,0))):=(hb2.block _ (by simp)).trans (alloc_at (by simp))
 have hs2:w.heap.size+2<=w2.heap.size:=by have:=hb2.size;simpa using this
 have HBA:Hid (Below w.heap.size w (w2.alloc (.cells #[.slice a C.length cap,.int .i64 loops,.slice (some ⟨gF,0,none⟩) (2*C.length+1) cF,.slice (some ⟨gT,0,none⟩) (2*C.length+1) cT] 41))):=HB2.out.alloc HB2.out.size _
 have HDR:Hid (Dr (w2.alloc (.cells #[.slice a C.length cap,.int .i64 loops,.slice (some ⟨gF,0,none⟩) (2*C.length+1) cF,.slice (some ⟨gT,0,none⟩) (2*C.length+1) cT] 41)) a cap C gF gT):=hd2.1.on ((Below.refl _ _).alloc (Nat.le_refl _) _)
 have HTV:Hid ((w2.alloc (.cells #[.slice a C.length cap,.int .i64 loops,.slice (some ⟨gF,0,none⟩) (2*C.length+1) cF,.slice (some ⟨gT,0,none⟩) (2*C.length+1) cT] 41)).heap[w2.heap.size]?=some (.cells #[.slice a C.length cap,.int .i64 loops,.slice (some ⟨gF,0,none⟩) (2*C.length+1) cF,.slice (some ⟨gT,0,none⟩) (2*C.length+1) cT] 41 (0,0))):=alloc_at rfl
 obtain⟨X,hX0⟩:∃ X,X=w2.alloc (.cells #[.slice a C.length cap,.int .i64 loops,.slice (some ⟨gF,0,none⟩) (2*C.length+1) cF,.slice (some ⟨gT,0,none⟩) (2*C.length+1) cT] 41):=⟨_,rfl⟩
 have HX:Hid (X=w2.alloc (.cells #[.slice a C.length cap,.int .i64 loops,.slice (some ⟨gF,0,none⟩) (2*C.length+1) cF,.slice (some ⟨gT,0,none⟩) (2*C.length+1) cT] 41)):=hX0
 have hsX:X.heap.size=w2.heap.size+1:=by rw[hX0];simp
 have HRX:Hid (X.heap[w.heap.size+1]?=some (.cells #[.slice none 0 0,.int .i64 0,.slice none 0 0,.slice none 0 0] 41 (0,0))):=(by rw[hX0];exact alloc_old HR.out:X.heap[w.heap.size+1]?=some (.cells #[.slice none 0 0,.int .i64 0,.slice none 0 0,.slice none 0 0] 41 (0,0)))
 rw[<-hX0]at HBA HDR HTV
 clear hb2 hd2 hX0
 have HA:Hid (X.heap[w.heap.size+1]?=some (.cells #[.slice none 0 0,.int .i64 0,.slice none 0 0,.slice none 0 0] 41 (0,0))):=HRX.out
 have c0:X.cell? ⟨w.heap.size+1,0,none⟩=some (.slice none 0 0):=block_cell HA.out rfl
 have c1:X.cell? ⟨w.heap.size+1,1,none⟩=some (.int .i64 0):=block_cell HA.out rfl
 have c2:X.cell? ⟨w.heap.size+1,2,none⟩=some (.slice none 0 0):=block_cell HA.out rfl
 have c3:X.cell? ⟨w.heap.size+1,3,none⟩=some (.slice none 0 0):=block_cell HA.out rfl
 have f0:X.frozen? ⟨w.heap.size+1,0,none⟩=false:=block_frozen HA.out
 have f1:X.frozen? ⟨w.heap.size+1,1,none⟩=false:=block_frozen HA.out
 have f2:X.frozen? ⟨w.heap.size+1,2,none⟩=false:=block_frozen HA.out
 have f3:X.frozen? ⟨w.heap.size+1,3,none⟩=false:=block_frozen HA.out
 have v0:X.cell? ⟨w2.heap.size,0,none⟩=some (.slice a C.length cap):=block_cell HTV.out rfl
 have v1:X.cell? ⟨w2.heap.size,1,none⟩=some (.int .i64 loops):=block_cell HTV.out rfl
 have v2:X.cell? ⟨w2.heap.size,2,none⟩=some (.slice (some ⟨gF,0,none⟩) (2*C.length+1) cF):=block_cell HTV.out rfl
 have v3:X.cell? ⟨w2.heap.size,3,none⟩=some (.slice (some ⟨gT,0,none⟩) (2*C.length+1) cT):=block_cell HTV.out rfl
 have lX:w.heap.size+1<X.heap.size:=by omega
 go_wp2
 rw[<-HX.out]
 go_loopw [21] (fun v21 wr=>v21=.int .i64 0/\X=wr) (fun _ _=>0)
 case atStart=>exact⟨rfl,rfl⟩
 case round=>
  obtain⟨rfl,rfl⟩:=hrel
  by_cases h8:8<C.length
  · have d8:decide ((8:Int)<(C.length:Int))=true:=by simp;omega
    have d9:decide (8<C.length)=true:=by simp;omega
    have HE:Hid (8<C.length):=h8
    clear h8
    go_wp2
    have hG:=st4_grown X (w.heap.size+1) (.slice none 0 0) (.int .i64 0) (.slice none 0 0) (.slice none 0 0)
    have hX:=st4_block (a:=.slice none 0 0) (b:=.int .i64 0) (c:=.slice none 0 0) (d:=.slice none 0 0) HA.out
    have x0:=block_cell (i:=0) (v:=.slice none 0 0) hX rfl
    have x1:=block_cell (i:=1) (v:=.int .i64 0) hX rfl
    have x2:=block_cell (i:=2) (v:=.slice none 0 0) hX rfl
    have x3:=block_cell (i:=3) (v:=.slice none 0 0) hX rfl
    have hbb:=HBA.out.grown hG HBA.out.size (fun k hk=>by have:=Option.some.inj hk;omega)
    unfold st4 at x0 x1 x2 x3
    exact bodyPost_ret (v:=.tuple #[.agg #[.slice none 0 0,.int .i64 0,.slice none 0 0,.slice none 0 0],.int .i64 2]) (by simp[results,Try.results12,go_sem,x0,x1,x2,x3]) rfl ⟨Or.inr ⟨HE.out,rfl⟩,hbb⟩
  · have d8:decide ((8:Int)<(C.length:Int))=false:=by simp;omega
    have d9:decide (8<C.length)=false:=by simp;omega
    have HE:Hid (C.length<=8):=(by omega:C.length<=8)
    clear h8
    go_wp2
    have hG:=st4_grown X (w.heap.size+1) (.slice a C.length cap) (.int .i64 loops) (.slice (some ⟨gF,0,none⟩) (2*C.length+1) cF) (.slice (some ⟨gT,0,none⟩) (2*C.length+1) cT)
    have hX:=st4_block (a:=.slice a C.length cap) (b:=.int .i64 loops) (c:=.slice (some ⟨gF,0,none⟩) (2*C.length+1) cF) (d:=.slice (some ⟨gT,0,none⟩) (2*C.length+1) cT) HA.out
    have x0:=block_cell (i:=0) (v:=.slice a C.length cap) hX rfl
    have x1:=block_cell (i:=1) (v:=.int .i64 loops) hX rfl
    have x2:=block_cell (i:=2) (v:=.slice (some ⟨gF,0,none⟩) (2*C.length+1) cF) hX rfl
    have x3:=block_cell (i:=3) (v:=.slice (some ⟨gT,0,none⟩) (2*C.length+1) cT) hX rfl
    have hbb:=HBA.out.grown hG HBA.out.size (fun k hk=>by have:=Option.some.inj hk;omega)
    unfold st4 at x0 x1 x2 x3
    refine bodyPost_ret (v:=.tuple #[.agg #[.slice a C.length cap,.int .i64 loops,.slice (some ⟨gF,0,none⟩) (2*C.length+1) cF,.slice (some ⟨gT,0,none⟩) (2*C.length+1) cT],.int .i64 0]) (by simp[results,Try.results12,go_sem,x0,x1,x2,x3]) rfl ⟨Or.inl ⟨HE.out,gF,cF,gT,cT,rfl,?_⟩,hbb⟩
    exact HDR.out.kept hG (HC.out.up hbb) (fun e=>by have:=Option.some.inj e;omega) (fun e=>by have:=Option.some.inj e;omega)
end Go.Proofs.Ytefooihnoajnlaa

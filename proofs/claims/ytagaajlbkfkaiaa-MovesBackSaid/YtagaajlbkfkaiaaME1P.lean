/- Several texts of the proof, one behind the other. -/
import Derived.Test.YtagaajlbkfkaiaaG7P
import Derived.Test.YtagaajlbkfkaiaaMV5P
import Derived.Test.YtagaajlbkfkaiaaF1P
import Derived.Deep.RegionHeld
import Derived.Test.YtagaajlbkfkaiaaTkhP
import Derived.Test.YtagaajlbkfkaiaaF2P
import Derived.Test.YtagaajlbkfkaiaaMV7P
import Derived.Test.YtagaajlbkfkaiaaF5P
/- The walks of ref.heightOf, ref.curlAt and ref.fewLoops. Made by genme1.py. -/
namespace Go.Proofs.Ytagaajlbkfkaiaa
open Go.RowKit
def hgt (C:List Cr) (x:Nat):Nat:=enS C x true%2+enS C x false%2
def caB (C:List Cr) (k:Nat):Bool:=(List.range 4).any fun s=>decide ((C.getD k Cr.none).arc s=(C.getD k Cr.none).arc ((s+1)%4))
end Go.Proofs.Ytagaajlbkfkaiaa
/- Moves: the walk of bench.joins. Made by genmvj.py. -/
namespace Go.Proofs.Ytagaajlbkfkaiaa
open Go.RowKit
set_option maxHeartbeats 8000000
set_option maxRecDepth 100000
theorem joins_no (a:Option Addr) (cap:Nat) (C:List Cr) (loops:Int) (gF cF gT cT:Nat) (ad:Option Addr) (n c:Nat) (k j:Int) (w:World) (hn:¬ n=2):
    Calls Try.prog 113 #[drV a cap C loops gF cF gT cT,.slice ad n c,.int .i64 k,.int .i64 j] w fun e w'=>e=.returned (.bool false)/\Below w.heap.size w w':=by
 unfold drV
 have hb:∀ o,Below w.heap.size w (w.alloc o):=fun o=>(Below.refl _ _).alloc (Nat.le_refl _) o
 go_enter Try.func113,Try.ntmps113
 go_wp2
 go_ret
 exact⟨rfl,hb _⟩
theorem joins_yes (a:Option Addr) (cap:Nat) (C:List Cr) (loops:Int) (gF cF gT cT:Nat) (g c x y k j:Nat) (w:World) (hm:mayD C loops=true) (hd:Dr w a cap C gF gT) (hg:g<w.heap.size)
    (hx:1<=x/\x<=4*C.length) (hy:1<=y/\y<=4*C.length)
    (hc:w.cell? ⟨g,0,none⟩=some (.int .i64 (dA x:Nat))/\w.cell? ⟨g,1,none⟩=some (.bool (dB x))/\w.cell? ⟨g,2,none⟩=some (.int .i64 (dA y:Nat))/\w.cell? ⟨g,3,none⟩=some (.bool (dB y))):
    Calls Try.prog 113 #[drV a cap C loops gF cF gT cT,.slice (some ⟨g,0,none⟩) 2 c,.int .i64 (k:Nat),.int .i64 (j:Nat)] w fun e w'=>e=.returned (.bool ((decide (dC C x=k)&&decide (dC C y=j))||(decide (dC C x=j)&&decide (dC C y=k))))/\Below w.heap.size w w':=by
 have HEN:=hid_of (fun(j:Nat) (W:World) (h1:1<=j/\j<=4*C.length) (hW:Dr W a cap C gF gT)=>end_any a cap C loops gF cF gT cT (dA j) (dB j) W hm (dA_le h1.1 h1.2).1 (dA_le h1.1 h1.2).2 hW)
 unfold drV at HEN ⊢
 have HD:=hid_of hd
 have HX:=hid_of (And.intro hx hy)
 have HCC:=hid_of hc
 obtain⟨X,hX⟩:∃ X,X=dC C x:=⟨_,rfl⟩
 obtain⟨Y,hY⟩:∃ Y,Y=dC C y:=⟨_,rfl⟩
 have HXX:Hid (enC C (dA x) (!dB x)=X):=hX.symm
 have HYY:Hid (enC C (dA y) (!dB y)=Y):=hY.symm
 rw[<-hX,<-hY]
 obtain⟨V,hV⟩:∃ V,V=w.alloc (.cells #[.slice a C.length cap,.int .i64 loops,.slice (some ⟨gF,0,none⟩) (2*C.length+1) cF,.slice (some ⟨gT,0,none⟩) (2*C.length+1) cT] 63):=⟨_,rfl⟩
 have HV:=hid_of hV
 have HBV:Hid (Below w.heap.size w V):=(by rw[hV];exact(Below.refl _ _).alloc (Nat.le_refl _) _)
 have HT0:Hid (V.heap[w.heap.size]?=some (.cells #[.slice a C.length cap,.int .i64 loops,.slice (some ⟨gF,0,none⟩) (2*C.length+1) cF,.slice (some ⟨gT,0,none⟩) (2*C.length+1) cT] 63 (0,0))):=(by rw[hV];exact alloc_at rfl)
 have hsV:V.heap.size=w.heap.size+1:=by rw[hV];simp
 have HSV:Hid (∀ W,Below V.heap.size V W->(fun X:World=>X.cell? ⟨w.heap.size,0,none⟩=some (.slice a C.length cap)/\X.cell? ⟨w.heap.size,1,none⟩=some (.int .i64 loops)/\X.cell? ⟨w.heap.size,2,none⟩=some (.slice (some ⟨gF,0,none⟩) (2*C.length+1) cF)/\X.cell? ⟨w.heap.size,3,none⟩=some (.slice (some ⟨gT,0,none⟩) (2*C.length+1) cT)/\X.cell? ⟨g,0,none⟩=some (.int .i64 (dA x:Nat))/\X.cell? ⟨g,1,none⟩=some (.bool (dB x))/\X.cell? ⟨g,2,none⟩=some (.int .i64 (dA y:Nat))/\X.cell? ⟨g,3,none⟩=some (.bool (dB y))) W):=fun W hW=>by
  have k0:=(hW.block _ (by omega)).trans HT0.out
  have hb:=HBV.out.trans (hW.mono (by omega))
  have hq:=HCC.out
  exact⟨block_cell k0 rfl,block_cell k0 rfl,block_cell k0 rfl,block_cell k0 rfl,bcell hb hg hq.1,bcell hb hg hq.2.1,bcell hb hg hq.2.2.1,bcell hb hg hq.2.2.2⟩
 have HDW:Hid (∀ W,Below V.heap.size V W->Dr W a cap C gF gT):=fun W hW=>HD.out.on (HBV.out.trans (hW.mono (by omega)))
 have HDV:Hid (Below V.heap.size V V.drew):=(Below.refl _ _).drew
 have hfl:∀ (p q:Int) (W:World),(Instr.field 120 (.agg #[.int .i64 p,.int .i64 q]) 0).run Try.prog W=.ok (.int .i64 p) W:=fun p q W=>by kernel_rfl
 clear hV hX hY hc hd hx hy hm
 go_enter Try.func113,Try.ntmps113
 go_wp2
 rw[<-HV.out]
 refine wp_region_held_drew (S:=fun X:World=>X.cell? ⟨w.heap.size,0,none⟩=some (.slice a C.length cap)/\X.cell? ⟨w.heap.size,1,none⟩=some (.int .i64 loops)/\X.cell? ⟨w.heap.size,2,none⟩=some (.slice (some ⟨gF,0,none⟩) (2*C.length+1) cF)/\X.cell? ⟨w.heap.size,3,none⟩=some (.slice (some ⟨gT,0,none⟩) (2*C.length+1) cT)/\X.cell? ⟨g,0,none⟩=some (.int .i64 (dA x:Nat))/\X.cell? ⟨g,1,none⟩=some (.bool (dB x))/\X.cell? ⟨g,2,none⟩=some (.int .i64 (dA y:Nat))/\X.cell? ⟨g,3,none⟩=some (.bool (dB y))) (by kernel_rfl) (HSV.out _ HDV.out) (fun hHeld=>?_)
 refine tk 0 (h:=?_)
 refine tk 1 (h:=?_)
 refine tk 2 (h:=?_)
 refine tk 3 (h:=?_)
 refine tk 4 (h:=?_)
 refine tk 7 (h:=?_)
 refine tk 8 (h:=?_)
 refine tk 9 (h:=?_)
 refine tk 10 (h:=?_)
 refine tk 11 (h:=?_)
 try simp only[Act.put]
 refine rd1 5 (fun K hK=>?_)
 go_simp
 go_wp2_with (go_at_call 78;refine(HEN.out x _ HX.out.1 (HDW.out _ HDV.out)).mono ?_;rw[HXX.out];rintro e9 w0 ⟨rfl,hb0⟩)
 have B0:Hid (Below V.heap.size V w0):=HDV.out.trans (hb0.mono HDV.out.size)
 clear hb0
 generalize enS C (dA x) (!dB x)=s0
 refine hK.out _ _ (HSV.out _ B0.out) (fun hHeld=>?_)
 clear hK K
 refine tk 6 (h:=?_)
 try simp only[Act.put]
 refine rd1 12 (fun K hK=>?_)
 go_simp
 go_wp2_with (go_at_call 78;refine(HEN.out y _ HX.out.2 (HDW.out _ B0.out)).mono ?_;rw[HYY.out];rintro e9 w1 ⟨rfl,hb1⟩)
 have B1:Hid (Below V.heap.size V w1):=B0.out.trans (hb1.mono B0.out.size)
 clear hb1
 generalize enS C (dA y) (!dB y)=s1
 refine hK.out _ _ (HSV.out _ B1.out) (fun hHeld=>?_)
 clear hK K
 refine tk 13 (h:=?_)
 refine tk 14 (h:=?_)
 refine tk 15 (h:=?_)
 try simp only[Act.put]
 refine wpAnyH_done (by kernel_rfl) ?_ _
 clear hHeld
 have HBW:Hid (Below w.heap.size w w1):=HBV.out.trans (B1.out.mono (by omega))
 clear HSV HDW HXX HYY HEN HCC HX
 by_cases h0:X=k
 · have c0:decide (X=k)=true:=by simp[h0]
   have e0:(((X:Nat):Int)==((k:Nat):Int))=true:=by simp;omega
   by_cases h1:Y=j
   · have c1:decide (Y=j)=true:=by simp[h1]
     have e1:(((Y:Nat):Int)==((j:Nat):Int))=true:=by simp;omega
     by_cases h2:X=j
     · have c2:decide (X=j)=true:=by simp[h2]
       have e2:(((X:Nat):Int)==((j:Nat):Int))=true:=by simp;omega
       by_cases h3:Y=k
       · have c3:decide (Y=k)=true:=by simp[h3]
         have e3:(((Y:Nat):Int)==((k:Nat):Int))=true:=by simp;omega
         have HR:=hid_of (show((decide (X=k)&&decide (Y=j))||(decide (X=j)&&decide (Y=k)))=true by rw[c0,c1,c2,c3];rfl)
         clear h0 h1 h2 h3 c0 c1 c2 c3
         go_wp2
         go_ret
         exact⟨ret_bool HR.out,HBW.out⟩
       · have c3:decide (Y=k)=false:=by simp[h3]
         have e3:(((Y:Nat):Int)==((k:Nat):Int))=false:=by simp;omega
         have HR:=hid_of (show((decide (X=k)&&decide (Y=j))||(decide (X=j)&&decide (Y=k)))=true by rw[c0,c1,c2,c3];rfl)
         clear h0 h1 h2 h3 c0 c1 c2 c3
         go_wp2
         go_ret
         exact⟨ret_bool HR.out,HBW.out⟩
     · have c2:decide (X=j)=false:=by simp[h2]
       have e2:(((X:Nat):Int)==((j:Nat):Int))=false:=by simp;omega
       by_cases h3:Y=k
       · have c3:decide (Y=k)=true:=by simp[h3]
         have e3:(((Y:Nat):Int)==((k:Nat):Int))=true:=by simp;omega
         have HR:=hid_of (show((decide (X=k)&&decide (Y=j))||(decide (X=j)&&decide (Y=k)))=true by rw[c0,c1,c2,c3];rfl)
         clear h0 h1 h2 h3 c0 c1 c2 c3
         go_wp2
         go_ret
         exact⟨ret_bool HR.out,HBW.out⟩
       · have c3:decide (Y=k)=false:=by simp[h3]
         have e3:(((Y:Nat):Int)==((k:Nat):Int))=false:=by simp;omega
         have HR:=hid_of (show((decide (X=k)&&decide (Y=j))||(decide (X=j)&&decide (Y=k)))=true by rw[c0,c1,c2,c3];rfl)
         clear h0 h1 h2 h3 c0 c1 c2 c3
         go_wp2
         go_ret
         exact⟨ret_bool HR.out,HBW.out⟩
   · have c1:decide (Y=j)=false:=by simp[h1]
     have e1:(((Y:Nat):Int)==((j:Nat):Int))=false:=by simp;omega
     by_cases h2:X=j
     · have c2:decide (X=j)=true:=by simp[h2]
       have e2:(((X:Nat):Int)==((j:Nat):Int))=true:=by simp;omega
       by_cases h3:Y=k
       · have c3:decide (Y=k)=true:=by simp[h3]
         have e3:(((Y:Nat):Int)==((k:Nat):Int))=true:=by simp;omega
         have HR:=hid_of (show((decide (X=k)&&decide (Y=j))||(decide (X=j)&&decide (Y=k)))=true by rw[c0,c1,c2,c3];rfl)
         clear h0 h1 h2 h3 c0 c1 c2 c3
         go_wp2
         go_ret
         exact⟨ret_bool HR.out,HBW.out⟩
       · have c3:decide (Y=k)=false:=by simp[h3]
         have e3:(((Y:Nat):Int)==((k:Nat):Int))=false:=by simp;omega
         have HR:=hid_of (show((decide (X=k)&&decide (Y=j))||(decide (X=j)&&decide (Y=k)))=false by rw[c0,c1,c2,c3];rfl)
         clear h0 h1 h2 h3 c0 c1 c2 c3
         go_wp2
         go_ret
         exact⟨ret_bool HR.out,HBW.out⟩
     · have c2:decide (X=j)=false:=by simp[h2]
       have e2:(((X:Nat):Int)==((j:Nat):Int))=false:=by simp;omega
       by_cases h3:Y=k
       · have c3:decide (Y=k)=true:=by simp[h3]
         have e3:(((Y:Nat):Int)==((k:Nat):Int))=true:=by simp;omega
         have HR:=hid_of (show((decide (X=k)&&decide (Y=j))||(decide (X=j)&&decide (Y=k)))=false by rw[c0,c1,c2,c3];rfl)
         clear h0 h1 h2 h3 c0 c1 c2 c3
         go_wp2
         go_ret
         exact⟨ret_bool HR.out,HBW.out⟩
       · have c3:decide (Y=k)=false:=by simp[h3]
         have e3:(((Y:Nat):Int)==((k:Nat):Int))=false:=by simp;omega
         have HR:=hid_of (show((decide (X=k)&&decide (Y=j))||(decide (X=j)&&decide (Y=k)))=false by rw[c0,c1,c2,c3];rfl)
         clear h0 h1 h2 h3 c0 c1 c2 c3
         go_wp2
         go_ret
         exact⟨ret_bool HR.out,HBW.out⟩
 · have c0:decide (X=k)=false:=by simp[h0]
   have e0:(((X:Nat):Int)==((k:Nat):Int))=false:=by simp;omega
   by_cases h1:Y=j
   · have c1:decide (Y=j)=true:=by simp[h1]
     have e1:(((Y:Nat):Int)==((j:Nat):Int))=true:=by simp;omega
     by_cases h2:X=j
     · have c2:decide (X=j)=true:=by simp[h2]
       have e2:(((X:Nat):Int)==((j:Nat):Int))=true:=by simp;omega
       by_cases h3:Y=k
       · have c3:decide (Y=k)=true:=by simp[h3]
         have e3:(((Y:Nat):Int)==((k:Nat):Int))=true:=by simp;omega
         have HR:=hid_of (show((decide (X=k)&&decide (Y=j))||(decide (X=j)&&decide (Y=k)))=true by rw[c0,c1,c2,c3];rfl)
         clear h0 h1 h2 h3 c0 c1 c2 c3
         go_wp2
         go_ret
         exact⟨ret_bool HR.out,HBW.out⟩
       · have c3:decide (Y=k)=false:=by simp[h3]
         have e3:(((Y:Nat):Int)==((k:Nat):Int))=false:=by simp;omega
         have HR:=hid_of (show((decide (X=k)&&decide (Y=j))||(decide (X=j)&&decide (Y=k)))=false by rw[c0,c1,c2,c3];rfl)
         clear h0 h1 h2 h3 c0 c1 c2 c3
         go_wp2
         go_ret
         exact⟨ret_bool HR.out,HBW.out⟩
     · have c2:decide (X=j)=false:=by simp[h2]
       have e2:(((X:Nat):Int)==((j:Nat):Int))=false:=by simp;omega
       by_cases h3:Y=k
       · have c3:decide (Y=k)=true:=by simp[h3]
         have e3:(((Y:Nat):Int)==((k:Nat):Int))=true:=by simp;omega
         have HR:=hid_of (show((decide (X=k)&&decide (Y=j))||(decide (X=j)&&decide (Y=k)))=false by rw[c0,c1,c2,c3];rfl)
         clear h0 h1 h2 h3 c0 c1 c2 c3
         go_wp2
         go_ret
         exact⟨ret_bool HR.out,HBW.out⟩
       · have c3:decide (Y=k)=false:=by simp[h3]
         have e3:(((Y:Nat):Int)==((k:Nat):Int))=false:=by simp;omega
         have HR:=hid_of (show((decide (X=k)&&decide (Y=j))||(decide (X=j)&&decide (Y=k)))=false by rw[c0,c1,c2,c3];rfl)
         clear h0 h1 h2 h3 c0 c1 c2 c3
         go_wp2
         go_ret
         exact⟨ret_bool HR.out,HBW.out⟩
   · have c1:decide (Y=j)=false:=by simp[h1]
     have e1:(((Y:Nat):Int)==((j:Nat):Int))=false:=by simp;omega
     by_cases h2:X=j
     · have c2:decide (X=j)=true:=by simp[h2]
       have e2:(((X:Nat):Int)==((j:Nat):Int))=true:=by simp;omega
       by_cases h3:Y=k
       · have c3:decide (Y=k)=true:=by simp[h3]
         have e3:(((Y:Nat):Int)==((k:Nat):Int))=true:=by simp;omega
         have HR:=hid_of (show((decide (X=k)&&decide (Y=j))||(decide (X=j)&&decide (Y=k)))=true by rw[c0,c1,c2,c3];rfl)
         clear h0 h1 h2 h3 c0 c1 c2 c3
         go_wp2
         go_ret
         exact⟨ret_bool HR.out,HBW.out⟩
       · have c3:decide (Y=k)=false:=by simp[h3]
         have e3:(((Y:Nat):Int)==((k:Nat):Int))=false:=by simp;omega
         have HR:=hid_of (show((decide (X=k)&&decide (Y=j))||(decide (X=j)&&decide (Y=k)))=false by rw[c0,c1,c2,c3];rfl)
         clear h0 h1 h2 h3 c0 c1 c2 c3
         go_wp2
         go_ret
         exact⟨ret_bool HR.out,HBW.out⟩
     · have c2:decide (X=j)=false:=by simp[h2]
       have e2:(((X:Nat):Int)==((j:Nat):Int))=false:=by simp;omega
       by_cases h3:Y=k
       · have c3:decide (Y=k)=true:=by simp[h3]
         have e3:(((Y:Nat):Int)==((k:Nat):Int))=true:=by simp;omega
         have HR:=hid_of (show((decide (X=k)&&decide (Y=j))||(decide (X=j)&&decide (Y=k)))=false by rw[c0,c1,c2,c3];rfl)
         clear h0 h1 h2 h3 c0 c1 c2 c3
         go_wp2
         go_ret
         exact⟨ret_bool HR.out,HBW.out⟩
       · have c3:decide (Y=k)=false:=by simp[h3]
         have e3:(((Y:Nat):Int)==((k:Nat):Int))=false:=by simp;omega
         have HR:=hid_of (show((decide (X=k)&&decide (Y=j))||(decide (X=j)&&decide (Y=k)))=false by rw[c0,c1,c2,c3];rfl)
         clear h0 h1 h2 h3 c0 c1 c2 c3
         go_wp2
         go_ret
         exact⟨ret_bool HR.out,HBW.out⟩
end Go.Proofs.Ytagaajlbkfkaiaa
/- Moves: the walk of the closure of bench.pull, and of slices.ContainsFunc over rings of darts. Made by genmw3.py. -/
namespace Go.Proofs.Ytagaajlbkfkaiaa
open Go.RowKit
set_option maxHeartbeats 4000000
set_option maxRecDepth 100000
def jlB (C:List Cr) (x y:Nat) (l:List Nat):Bool:=decide (l.length=2)&&((decide (dC C (l.getD 0 0)=x)&&decide (dC C (l.getD 1 0)=y))||(decide (dC C (l.getD 0 0)=y)&&decide (dC C (l.getD 1 0)=x)))&&(topB C l&&botB C l)
def RingAt (w:World) (g:Nat) (C:List Cr) (l:List Nat):Prop:=g<w.heap.size/\l.length<=1000/\∀ k,k<l.length->(1<=l.getD k 0/\l.getD k 0<=4*C.length)/\w.cell? ⟨g,k*2,none⟩=some (.int .i64 (dA (l.getD k 0):Nat))/\w.cell? ⟨g,k*2+1,none⟩=some (.bool (dB (l.getD k 0)))
theorem RingAt.on {w w':World} {g:Nat} {C:List Cr} {l:List Nat} (h:RingAt w g C l) (hb:Below w.heap.size w w'):RingAt w' g C l:=
 ⟨Nat.lt_of_lt_of_le h.1 hb.size,h.2.1,fun k hk=>⟨(h.2.2 k hk).1,bcell hb h.1 (h.2.2 k hk).2.1,bcell hb h.1 (h.2.2 k hk).2.2⟩⟩
def PbAt (a:Option Addr) (cap:Nat) (C:List Cr) (loops:Int) (gF cF gT cT:Nat) (k ua va:Int) (x y:Nat) (ub vb ov:Bool) (pb pm:Nat) (W:World):Prop:=W.heap[pb]?=some (.cells #[.slice a C.length cap,.int .i64 loops,.slice (some ⟨gF,0,none⟩) (2*C.length+1) cF,.slice (some ⟨gT,0,none⟩) (2*C.length+1) cT] 63 (0,0))/\W.heap[pm]?=some (.cells #[.int .i64 k,.int .i64 (x:Nat),.int .i64 (y:Nat),.int .i64 ua,.bool ub,.int .i64 va,.bool vb,.bool ov] 28 (0,0))
theorem joins_at (a:Option Addr) (cap:Nat) (C:List Cr) (loops:Int) (gF cF gT cT:Nat) (g c x y:Nat) (l:List Nat) (w:World) (hm:mayD C loops=true) (hd:Dr w a cap C gF gT) (hr:RingAt w g C l):
    Calls Try.prog 113 #[drV a cap C loops gF cF gT cT,.slice (some ⟨g,0,none⟩) l.length c,.int .i64 (x:Nat),.int .i64 (y:Nat)] w fun e w'=>e=.returned (.bool (decide (l.length=2)&&((decide (dC C (l.getD 0 0)=x)&&decide (dC C (l.getD 1 0)=y))||(decide (dC C (l.getD 0 0)=y)&&decide (dC C (l.getD 1 0)=x)))))/\Below w.heap.size w w':=by
 by_cases h2:l.length=2
 · have r0:=hr.2.2 0 (by omega)
   have r1:=hr.2.2 1 (by omega)
   rw[h2]
   exact joins_yes a cap C loops gF cF gT cT g c (l.getD 0 0) (l.getD 1 0) x y w hm hd hr.1 r0.1 r1.1 ⟨r0.2.1,r0.2.2,r1.2.1,r1.2.2⟩
 · rw[decide_eq_false h2]
   exact joins_no a cap C loops gF cF gT cT (some ⟨g,0,none⟩) l.length c (x:Nat) (y:Nat) w h2
theorem pullIn_any (a:Option Addr) (cap:Nat) (C:List Cr) (loops:Int) (gF cF gT cT:Nat) (k ua va:Int) (x y:Nat) (ub vb ov:Bool) (pb pm g c:Nat) (l:List Nat) (w:World) (hm:mayD C loops=true) (hd:Dr w a cap C gF gT) (hr:RingAt w g C l) (hp:PbAt a cap C loops gF cF gT cT k ua va x y ub vb ov pb pm w):
    Calls Try.prog 112 #[.slice (some ⟨g,0,none⟩) l.length c,.pointer (some ⟨pb,0,none⟩),.pointer (some ⟨pm,0,none⟩)] w fun e w'=>e=.returned (.bool (jlB C x y l))/\Below w.heap.size w w':=by
 have HJ:=hid_of (joins_at a cap C loops gF cF gT cT g c x y l w hm hd hr)
 have HLA:Hid (∀ W,Below w.heap.size w W->Calls Try.prog 114 #[drV a cap C loops gF cF gT cT,.slice (some ⟨g,0,none⟩) l.length c] W fun e w'=>e=.returned (.bool (topB C l&&botB C l))/\Below W.heap.size W w'):=fun W hW=>by
  have hr2:=hr.on hW
  exact layered_any a cap C loops gF cF gT cT g l.length c l W hm (hd.on hW) hr2.1 rfl hr2.2.1 (fun j hj=>(hr2.2.2 j hj).1) (fun j hj=>(hr2.2.2 j hj).2)
 unfold jlB
 obtain⟨J,hJ⟩:∃ J,(decide (l.length=2)&&((decide (dC C (l.getD 0 0)=x)&&decide (dC C (l.getD 1 0)=y))||(decide (dC C (l.getD 0 0)=y)&&decide (dC C (l.getD 1 0)=x))))=J:=⟨_,rfl⟩
 rw[hJ]at HJ ⊢
 obtain⟨T,hT⟩:∃ T,(topB C l&&botB C l)=T:=⟨_,rfl⟩
 rw[hT]at HLA ⊢
 obtain⟨n,hn⟩:∃ n,l.length=n:=⟨_,rfl⟩
 rw[hn]at HJ HLA ⊢
 have HBX:Hid (∀ W,Below w.heap.size w W->PbAt a cap C loops gF cF gT cT k ua va x y ub vb ov pb pm W/\pb<W.heap.size/\pm<W.heap.size):=fun W hW=>by
  have l0:=(Array.getElem?_eq_some_iff.1 hp.1).1
  have l1:=(Array.getElem?_eq_some_iff.1 hp.2).1
  exact⟨⟨(hW.block _ l0).trans hp.1,(hW.block _ l1).trans hp.2⟩,by have:=hW.size;omega,by have:=hW.size;omega⟩
 obtain⟨⟨px,py⟩,pl,pl2⟩:=HBX.out w (Below.refl _ _)
 have pb0:w.cell? ⟨pb,0,none⟩=some (.slice a C.length cap):=block_cell px rfl
 have pb1:w.cell? ⟨pb,1,none⟩=some (.int .i64 loops):=block_cell px rfl
 have pb2:w.cell? ⟨pb,2,none⟩=some (.slice (some ⟨gF,0,none⟩) (2*C.length+1) cF):=block_cell px rfl
 have pb3:w.cell? ⟨pb,3,none⟩=some (.slice (some ⟨gT,0,none⟩) (2*C.length+1) cT):=block_cell px rfl
 have pm0:w.cell? ⟨pm,0,none⟩=some (.int .i64 k):=block_cell py rfl
 have pm1:w.cell? ⟨pm,1,none⟩=some (.int .i64 (x:Nat)):=block_cell py rfl
 have pm2:w.cell? ⟨pm,2,none⟩=some (.int .i64 (y:Nat)):=block_cell py rfl
 have pm3:w.cell? ⟨pm,3,none⟩=some (.int .i64 ua):=block_cell py rfl
 have pm4:w.cell? ⟨pm,4,none⟩=some (.bool ub):=block_cell py rfl
 have pm5:w.cell? ⟨pm,5,none⟩=some (.int .i64 va):=block_cell py rfl
 have pm6:w.cell? ⟨pm,6,none⟩=some (.bool vb):=block_cell py rfl
 have pm7:w.cell? ⟨pm,7,none⟩=some (.bool ov):=block_cell py rfl
 unfold drV at HJ HLA
 clear hJ hT hn hm hd hr hp px py
 cases J with
 |false=>
  go_enter Try.func112,Try.ntmps112
  go_wp2_with (go_at_call 113;refine HJ.out.mono ?_;rintro e9 w3 ⟨rfl,hb3⟩)
  go_ret
  exact⟨rfl,hb3⟩
 | true =>
  go_enter Try.func112,Try.ntmps112
  go_wp2_with (first
   | (go_at_call 113; refine HJ.out.mono ?_; rintro e9 w3 ⟨rfl, hb3⟩
      have HB3:=hid_of hb3
      obtain⟨⟨qx,qy⟩,ql,ql2⟩:=HBX.out w3 hb3
      have qb0:w3.cell? ⟨pb,0,none⟩=some (.slice a C.length cap):=block_cell qx rfl
      have qb1:w3.cell? ⟨pb,1,none⟩=some (.int .i64 loops):=block_cell qx rfl
      have qb2:w3.cell? ⟨pb,2,none⟩=some (.slice (some ⟨gF,0,none⟩) (2*C.length+1) cF):=block_cell qx rfl
      have qb3:w3.cell? ⟨pb,3,none⟩=some (.slice (some ⟨gT,0,none⟩) (2*C.length+1) cT):=block_cell qx rfl
      have qm0:w3.cell? ⟨pm,0,none⟩=some (.int .i64 k):=block_cell qy rfl
      have qm1:w3.cell? ⟨pm,1,none⟩=some (.int .i64 (x:Nat)):=block_cell qy rfl
      have qm2:w3.cell? ⟨pm,2,none⟩=some (.int .i64 (y:Nat)):=block_cell qy rfl
      have qm3:w3.cell? ⟨pm,3,none⟩=some (.int .i64 ua):=block_cell qy rfl
      have qm4:w3.cell? ⟨pm,4,none⟩=some (.bool ub):=block_cell qy rfl
      have qm5:w3.cell? ⟨pm,5,none⟩=some (.int .i64 va):=block_cell qy rfl
      have qm6:w3.cell? ⟨pm,6,none⟩=some (.bool vb):=block_cell qy rfl
      have qm7:w3.cell? ⟨pm,7,none⟩=some (.bool ov):=block_cell qy rfl
      clear hb3 qx qy)
   | (go_at_call 114; refine (HLA.out _ HB3.out).mono ?_; rintro e9 w4 ⟨rfl, hb4⟩
      have HB4:=hid_of (HB3.out.trans (hb4.mono HB3.out.size))
      clear hb4))
  go_ret
  exact⟨rfl,HB4.out⟩
def RingsR (w:World) (v:Value) (C:List Cr) (L:List (List Nat)):Prop:=∃ a cap,v=.slice a L.length cap/\(0<L.length->∃ b off,a=some ⟨b,off,none⟩/\b<w.heap.size/\∀ j,j<L.length->∃ g c,w.cell? ⟨b,off+j,none⟩=some (.slice (some ⟨g,0,none⟩) (L.getD j []).length c)/\RingAt w g C (L.getD j []))
theorem RingsR.on {w w':World} {v:Value} {C:List Cr} {L:List (List Nat)} (h:RingsR w v C L) (hb:Below w.heap.size w w'):RingsR w' v C L:=by
 obtain⟨a,cap,rfl,f⟩:=h
 refine⟨a,cap,rfl,fun h0=>?_⟩
 obtain⟨b,off,rfl,hlt,hc⟩:=f h0
 refine⟨b,off,rfl,Nat.lt_of_lt_of_le hlt hb.size,fun j hj=>?_⟩
 obtain⟨g,c,h1,h2⟩:=hc j hj
 exact⟨g,c,bcell hb hlt h1,h2.on hb⟩
theorem rings_read {w:World} {B:Nat} {v:Value} {C:List Cr} {loops:Int} (hm:mayD C loops=true) (h:DartsOwn w B v (facesM C)):RingsR w v C (facesM C):=by
 have hf:=facesM_facts hm
 have h16:=may_len hm
 obtain⟨a,cap,rfl,f⟩:=h.rings (fun j hj=>(hf.2 j hj).1)
 refine⟨a,cap,rfl,fun h0=>?_⟩
 obtain⟨b,off,rfl,hlt,-,hc⟩:=f h0
 refine⟨b,off,rfl,hlt,fun j hj=>?_⟩
 obtain⟨g,c,h1,h2,-,h3⟩:=hc j hj
 have hj2:=hf.2 j hj
 exact⟨g,c,h1,h2,by omega,fun k hk=>⟨hj2.2.2 k hk,h3 k hk⟩⟩
theorem indexRings_any (a:Option Addr) (cap:Nat) (C:List Cr) (loops:Int) (gF cF gT cT:Nat) (k ua va:Int) (x y:Nat) (ub vb ov:Bool) (pb pm:Nat) (v:Value) (L:List (List Nat)) (w:World) (hm:mayD C loops=true) (hd:Dr w a cap C gF gT) (hl:L.length<=1000) (hr:RingsR w v C L) (hp:PbAt a cap C loops gF cF gT cT k ua va x y ub vb ov pb pm w):
    Calls Try.prog 125 #[v,.func (.func 112) #[] #[.pointer (some ⟨pb,0,none⟩),.pointer (some ⟨pm,0,none⟩)]] w fun e w'=>∃ r:Int,e=.returned (.int .i64 r)/\decide (0<=r)=L.any (jlB C x y)/\Below w.heap.size w w':=by
 have HR:=hid_of hr
 have HIN:Hid (∀ (g c:Nat) (l:List Nat) (W:World),Below w.heap.size w W->RingAt W g C l->Calls Try.prog 112 #[.slice (some ⟨g,0,none⟩) l.length c,.pointer (some ⟨pb,0,none⟩),.pointer (some ⟨pm,0,none⟩)] W fun e w'=>e=.returned (.bool (jlB C x y l))/\Below W.heap.size W w'):=fun g c l W hW hrr=>
  pullIn_any a cap C loops gF cF gT cT k ua va x y ub vb ov pb pm g c l W hm (hd.on hW) hrr ⟨(hW.block _ (Array.getElem?_eq_some_iff.1 hp.1).1).trans hp.1,(hW.block _ (Array.getElem?_eq_some_iff.1 hp.2).1).trans hp.2⟩
 obtain⟨av,cv,rfl,-⟩:=hr
 obtain⟨m,hm2⟩:∃ m,L.length=m:=⟨_,rfl⟩
 have HM:=hid_of hm2
 rw[hm2]at hl HR ⊢
 clear hm2 hm hd hp
 go_enter Try.func125,Try.ntmps125
 go_wp2
 go_loopw [8] (fun v8 wr=>∃ i:Nat,i<=m/\v8=.int .i64 (i:Nat)/\Hid ((L.take i).any (jlB C x y)=false)/\Below w.heap.size w wr) (fun v8 _=>m-(intOf v8).toNat)
 case atStart=>exact⟨0,Nat.zero_le _,rfl,rfl,Below.refl _ _⟩
 case round=>
  obtain⟨i,him,rfl,hno,hb⟩:=hrel
  by_cases hil:i<m
  · have hiI:(i:Int)<(m:Int):=by omega
    have hiL:i<L.length:=by rw[HM.out];exact hil
    obtain⟨a0,c0,e0,f0⟩:=HR.out.on hb
    rw[HM.out]at e0
    injection e0 with e1 e2 e3
    obtain⟨b,off,ea,hbw,hc⟩:=f0 (by omega)
    obtain⟨g,c,h1,h2⟩:=hc i hiL
    have HX:Hid ((L.take (i+1)).any (jlB C x y)=((L.take i).any (jlB C x y)||jlB C x y (L.getD i []))):=(by rw[List.take_add_one,List.getElem?_eq_getElem hiL,List.any_append,List.getD_eq_getElem?_getD,List.getElem?_eq_getElem hiL];simp:(L.take (i+1)).any (jlB C x y)=_)
    have HS:Hid (jlB C x y (L.getD i [])=true->L.any (jlB C x y)=true):=fun q=>List.any_eq_true.2 ⟨L.getD i [],by rw[List.getD_eq_getElem?_getD,List.getElem?_eq_getElem hiL];exact List.getElem_mem hiL,q⟩
    have HN:=hid_of (HIN.out g c (L.getD i []) wr hb h2)
    generalize L.getD i []=l at h1 h2 HX HS HN
    obtain⟨n,hn⟩:∃ n,l.length=n:=⟨_,rfl⟩
    rw[hn]at h1 HN
    have ea2:av=some ⟨b,off,none⟩:=e1.trans ea
    subst ea2
    clear e1 e2 e3 ea hc h2 hn f0
    cases hb0:jlB C x y l with
    |true=>
     have HA:=hidB (HS.out hb0)
     rw[hb0]at HN
     clear hb0 HS HX
     go_wp2_with (go_at_call 112;refine HN.out.mono ?_;rintro e9 w9 ⟨rfl,hb9⟩;refine Hid.out ?_)
     refine Lib.hid ?_
     go_wp2
     go_ret
     exact⟨_,rfl,by rw[HA.out];exact decide_eq_true (by omega),hb.trans (hb9.mono hb.size)⟩
    |false=>
     have HA:=hidB (show(L.take (i+1)).any (jlB C x y)=false by rw[HX.out,hno.out,hb0];rfl)
     rw[hb0]at HN
     clear hb0 HS HX
     go_wp2_with (go_at_call 112;refine HN.out.mono ?_;rintro e9 w9 ⟨rfl,hb9⟩;refine Hid.out ?_)
     refine Lib.hid ?_
     go_wp2
     go_roundw
     case rel=>exact⟨i+1,by omega,by go_num,HA.out,hb.trans (hb9.mono hb.size)⟩
     case measure=>simp only[intOf];omega
  · obtain rfl:i=m:=by omega
    have HA:=hidB (show L.any (jlB C x y)=false by have:=hno.out;rw[<-HM.out,List.take_length]at this;exact this)
    go_wp2
    go_ret
    exact⟨_,rfl,by rw[HA.out];rfl,hb⟩
theorem containsRings_any (a:Option Addr) (cap:Nat) (C:List Cr) (loops:Int) (gF cF gT cT:Nat) (k ua va:Int) (x y:Nat) (ub vb ov:Bool) (pb pm:Nat) (v:Value) (L:List (List Nat)) (w:World) (hm:mayD C loops=true) (hd:Dr w a cap C gF gT) (hl:L.length<=1000) (hr:RingsR w v C L) (hp:PbAt a cap C loops gF cF gT cT k ua va x y ub vb ov pb pm w):
    Calls Try.prog 111 #[v,.func (.func 112) #[] #[.pointer (some ⟨pb,0,none⟩),.pointer (some ⟨pm,0,none⟩)]] w fun e w'=>e=.returned (.bool (L.any (jlB C x y)))/\Below w.heap.size w w':=by
 have HI:=hid_of (indexRings_any a cap C loops gF cF gT cT k ua va x y ub vb ov pb pm v L w hm hd hl hr hp)
 obtain⟨av,cv,rfl,-⟩:=hr
 generalize L.any (jlB C x y)=bb at HI ⊢
 generalize L.length=m at HI ⊢
 clear hm hd hp hl
 go_enter Try.func111,Try.ntmps111
 go_wp2_with (go_at_call 125;refine HI.out.mono ?_;rintro e9 w2 ⟨r,rfl,hr,hb2⟩;refine Hid.out ?_)
 refine Lib.hid ?_
 have HR:=hid_of hr
 clear hr
 go_wp2
 go_ret
 exact⟨by rw[<-HR.out];rfl,hb2⟩
end Go.Proofs.Ytagaajlbkfkaiaa
/- The walk of ref.pullable. Made by genme2.py. -/
namespace Go.Proofs.Ytagaajlbkfkaiaa
open Go.RowKit
def jlR (C:List Cr) (x y:Nat) (l:List Nat):Bool:=decide (l.length=2)&&(((decide (dC C (l.getD 0 0)=x)&&decide (dC C (l.getD 1 0)=y))||(decide (dC C (l.getD 0 0)=y)&&decide (dC C (l.getD 1 0)=x)))&&((decide (hgt C (dA (l.getD 0 0))=2)&&decide (hgt C (dA (l.getD 1 0))=0))||(decide (hgt C (dA (l.getD 0 0))=0)&&decide (hgt C (dA (l.getD 1 0))=2))))
theorem jl_same (C:List Cr) (x y:Nat) (l:List Nat):jlR C x y l=jlB C x y l:=by
 unfold jlR jlB
 by_cases h2:l.length=2
 · obtain⟨u,v,rfl⟩:∃ u v,l=[u,v]:=by
     match l,h2 with
     |[u,v],_=>exact⟨u,v,rfl⟩
   rw[decide_eq_true h2,Bool.true_and,Bool.true_and]
   congr 1
   have e0:[u,v].getD 0 0=u:=rfl
   have e1:[u,v].getD 1 0=v:=rfl
   rw[e0,e1]
   unfold topB botB hiB hgt
   simp only[List.any_cons,List.any_nil,Bool.or_false]
   generalize enS C (dA u) true=a
   generalize enS C (dA u) false=b
   generalize enS C (dA v) true=c
   generalize enS C (dA v) false=d
   rcases Nat.mod_two_eq_zero_or_one a with h1|h1<;>rcases Nat.mod_two_eq_zero_or_one b with h3|h3<;>rcases Nat.mod_two_eq_zero_or_one c with h4|h4<;>rcases Nat.mod_two_eq_zero_or_one d with h5|h5<;>rw[h1,h3,h4,h5]<;>decide
 · rw[decide_eq_false h2]
   rfl
end Go.Proofs.Ytagaajlbkfkaiaa

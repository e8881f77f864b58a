/- Several texts of the proof, one behind the other. -/
import Derived.Test.YtagaajlbkfkaiaaTkhP
import Derived.Test.YtagaajlbkfkaiaaMV5
import Derived.Test.YtagaajlbkfkaiaaF2P
import Derived.Deep.RegionHeld
/- Moves: the walk of bench.joins. Made by genmvj.py. -/
namespace Go.Proofs.Ytagaajlbkfkaiaa
open Go.RowKit
set_option maxHeartbeats 8000000
set_option maxRecDepth 100000
theorem joins_no (a:Option Addr) (cap:Nat) (C:List Cr) (loops:Int) (gF cF gT cT:Nat) (ad:Option Addr) (n c:Nat) (k j:Int) (w:World) (hn:¬ n=2):
    Calls Try.prog 113 #[drV a cap C loops gF cF gT cT,.slice ad n c,.int .i64 k,.int .i64 j] w fun e w'=>e=.returned (.bool false)/\Below w.heap.size w w':=by
 unfold drV
 have hb:∀ o,Below w.heap.size w (w.alloc o):=fun o=>(Below.refl _ _).alloc (Nat.le_refl _) o
 go_enter Try.func113,Try.ntmps113
 go_wp2
 go_ret
 exact⟨rfl,hb _⟩
theorem joins_yes (a:Option Addr) (cap:Nat) (C:List Cr) (loops:Int) (gF cF gT cT:Nat) (g c x y k j:Nat) (w:World) (hm:mayD C loops=true) (hd:Dr w a cap C gF gT) (hg:g<w.heap.size)
    (hx:1<=x/\x<=4*C.length) (hy:1<=y/\y<=4*C.length)
    (hc:w.cell? ⟨g,0,none⟩=some (.int .i64 (dA x:Nat))/\w.cell? ⟨g,1,none⟩=some (.bool (dB x))/\w.cell? ⟨g,2,none⟩=some (.int .i64 (dA y:Nat))/\w.cell? ⟨g,3,none⟩=some (.bool (dB y))):
    Calls Try.prog 113 #[drV a cap C loops gF cF gT cT,.slice (some ⟨g,0,none⟩) 2 c,.int .i64 (k:Nat),.int .i64 (j:Nat)] w fun e w'=>e=.returned (.bool ((decide (dC C x=k)&&decide (dC C y=j))||(decide (dC C x=j)&&decide (dC C y=k))))/\Below w.heap.size w w':=by
 have HEN:=QQ1 (fun(j:Nat) (W:World) (h1:1<=j/\j<=4*C.length) (hW:Dr W a cap C gF gT)=>end_any a cap C loops gF cF gT cT (dA j) (dB j) W hm (dA_le h1.1 h1.2).1 (dA_le h1.1 h1.2).2 hW)
 unfold drV at HEN ⊢
 have HD:=QQ1 hd
 have HX:=QQ1 (And.intro hx hy)
 have HCC:=QQ1 hc
 obtain⟨X,hX⟩:∃ X,X=dC C x:=⟨_,rfl⟩
 obtain⟨Y,hY⟩:∃ Y,Y=dC C y:=⟨_,rfl⟩
 have HXX:Hid (enC C (dA x) (!dB x)=X):=hX.symm
 have HYY:Hid (enC C (dA y) (!dB y)=Y):=hY.symm
 rw[<-hX,<-hY]
 obtain⟨V,hV⟩:∃ V,V=w.alloc (.cells #[.slice a C.length cap,.int .i64 loops,.slice (some ⟨gF,0,none⟩) (2*C.length+1) cF,.slice (some ⟨gT,0,none⟩) (2*C.length+1) cT] 63):=⟨_,rfl⟩
 have HV:=QQ1 hV
 have HBV:Hid (Below w.heap.size w V):=(by rw[hV];exact(Below.refl _ _).alloc (Nat.le_refl _) _)
 have HT0:Hid (V.heap[w.heap.size]?=some (.cells #[.slice a C.length cap,.int .i64 loops,.slice (some ⟨gF,0,none⟩) (2*C.length+1) cF,.slice (some ⟨gT,0,none⟩) (2*C.length+1) cT] 63 (0,0))):=(by rw[hV];exact alloc_at rfl)
 have hsV:V.heap.size=w.heap.size+1:=by rw[hV];simp
 have HSV:Hid (∀ W,Below V.heap.size V W->(fun X:World=>X.cell? ⟨w.heap.size,0,none⟩=some (.slice a C.length cap)/\X.cell? ⟨w.heap.size,1,none⟩=some (.int .i64 loops)/\X.cell? ⟨w.heap.size,2,none⟩=some (.slice (some ⟨gF,0,none⟩) (2*C.length+1) cF)/\X.cell? ⟨w.heap.size,3,none⟩=some (.slice (some ⟨gT,0,none⟩) (2*C.length+1) cT)/\X.cell? ⟨g,0,none⟩=some (.int .i64 (dA x:Nat))/\X.cell? ⟨g,1,none⟩=some (.bool (dB x))/\X.cell? ⟨g,2,none⟩=some (.int .i64 (dA y:Nat))/\X.cell? ⟨g,3,none⟩=some (.bool (dB y))) W):=fun W hW=>by
  have k0:=(hW.block _ (by omega)).trans HT0.out
  have hb:=HBV.out.trans (hW.mono (by omega))
  have hq:=HCC.out
  exact⟨QQ0 k0 rfl,QQ0 k0 rfl,QQ0 k0 rfl,QQ0 k0 rfl,bcell hb hg hq.1,bcell hb hg hq.2.1,bcell hb hg hq.2.2.1,bcell hb hg hq.2.2.2⟩
 have HDW:Hid (∀ W,Below V.heap.size V W->Dr W a cap C gF gT):=fun W hW=>HD.out.on (HBV.out.trans (hW.mono (by omega)))
 have HDV:Hid (Below V.heap.size V V.drew):=(Below.refl _ _).drew
 have hfl:∀ (p q:Int) (W:World),(Instr.field 120 (.agg #[.int .i64 p,.int .i64 q]) 0).run Try.prog W=.ok (.int .i64 p) W:=fun p q W=>by kernel_rfl
 clear hV hX hY hc hd hx hy hm
 go_enter Try.func113,Try.ntmps113
 go_wp2
 rw[<-HV.out]
 refine wp_region_held_drew (S:=fun X:World=>X.cell? ⟨w.heap.size,0,none⟩=some (.slice a C.length cap)/\X.cell? ⟨w.heap.size,1,none⟩=some (.int .i64 loops)/\X.cell? ⟨w.heap.size,2,none⟩=some (.slice (some ⟨gF,0,none⟩) (2*C.length+1) cF)/\X.cell? ⟨w.heap.size,3,none⟩=some (.slice (some ⟨gT,0,none⟩) (2*C.length+1) cT)/\X.cell? ⟨g,0,none⟩=some (.int .i64 (dA x:Nat))/\X.cell? ⟨g,1,none⟩=some (.bool (dB x))/\X.cell? ⟨g,2,none⟩=some (.int .i64 (dA y:Nat))/\X.cell? ⟨g,3,none⟩=some (.bool (dB y))) (by kernel_rfl) (HSV.out _ HDV.out) (fun hHeld=>?_)
 refine tk 0 (h:=?_)
 refine tk 1 (h:=?_)
 refine tk 2 (h:=?_)
 refine tk 3 (h:=?_)
 refine tk 4 (h:=?_)
 refine tk 7 (h:=?_)
 refine tk 8 (h:=?_)
 refine tk 9 (h:=?_)
 refine tk 10 (h:=?_)
 refine tk 11 (h:=?_)
 try simp only[Act.put]
 refine rd1 5 (fun K hK=>?_)
 go_simp
 go_wp2_with (go_at_call 78;refine(HEN.out x _ HX.out.1 (HDW.out _ HDV.out)).mono ?_;rw[HXX.out];rintro e9 w0 ⟨rfl,hb0⟩)
 have B0:Hid (Below V.heap.size V w0):=HDV.out.trans (hb0.mono HDV.out.size)
 clear hb0
 generalize enS C (dA x) (!dB x)=s0
 refine hK.out _ _ (HSV.out _ B0.out) (fun hHeld=>?_)
 clear hK K
 refine tk 6 (h:=?_)
 try simp only[Act.put]
 refine rd1 12 (fun K hK=>?_)
 go_simp
 go_wp2_with (go_at_call 78;refine(HEN.out y _ HX.out.2 (HDW.out _ B0.out)).mono ?_;rw[HYY.out];rintro e9 w1 ⟨rfl,hb1⟩)
 have B1:Hid (Below V.heap.size V w1):=B0.out.trans (hb1.mono B0.out.size)
 clear hb1
 generalize enS C (dA y) (!dB y)=s1
 refine hK.out _ _ (HSV.out _ B1.out) (fun hHeld=>?_)
 clear hK K
 refine tk 13 (h:=?_)
 refine tk 14 (h:=?_)
 refine tk 15 (h:=?_)
 try simp only[Act.put]
 refine wpAnyH_done (by kernel_rfl) ?_ _
 clear hHeld
 have HBW:Hid (Below w.heap.size w w1):=HBV.out.trans (B1.out.mono (by omega))
 clear HSV HDW HXX HYY HEN HCC HX
 by_cases h0:X=k
 · have c0:decide (X=k)=true:=by simp[h0]
   have e0:(((X:Nat):Int)==((k:Nat):Int))=true:=by simp;omega
   by_cases h1:Y=j
   · have c1:decide (Y=j)=true:=by simp[h1]
     have e1:(((Y:Nat):Int)==((j:Nat):Int))=true:=by simp;omega
     by_cases h2:X=j
     · have c2:decide (X=j)=true:=by simp[h2]
       have e2:(((X:Nat):Int)==((j:Nat):Int))=true:=by simp;omega
       by_cases h3:Y=k
       · have c3:decide (Y=k)=true:=by simp[h3]
         have e3:(((Y:Nat):Int)==((k:Nat):Int))=true:=by simp;omega
         have HR:=QQ1 (show((decide (X=k)&&decide (Y=j))||(decide (X=j)&&decide (Y=k)))=true by rw[c0,c1,c2,c3];rfl)
         clear h0 h1 h2 h3 c0 c1 c2 c3
         go_wp2
         go_ret
         exact⟨QX8 HR.out,HBW.out⟩
       · have c3:decide (Y=k)=false:=by simp[h3]
         have e3:(((Y:Nat):Int)==((k:Nat):Int))=false:=by simp;omega
         have HR:=QQ1 (show((decide (X=k)&&decide (Y=j))||(decide (X=j)&&decide (Y=k)))=true by rw[c0,c1,c2,c3];rfl)
         clear h0 h1 h2 h3 c0 c1 c2 c3
         go_wp2
         go_ret
         exact⟨QX8 HR.out,HBW.out⟩
     · have c2:decide (X=j)=false:=by simp[h2]
       have e2:(((X:Nat):Int)==((j:Nat):Int))=false:=by simp;omega
       by_cases h3:Y=k
       · have c3:decide (Y=k)=true:=by simp[h3]
         have e3:(((Y:Nat):Int)==((k:Nat):Int))=true:=by simp;omega
         have HR:=QQ1 (show((decide (X=k)&&decide (Y=j))||(decide (X=j)&&decide (Y=k)))=true by rw[c0,c1,c2,c3];rfl)
         clear h0 h1 h2 h3 c0 c1 c2 c3
         go_wp2
         go_ret
         exact⟨QX8 HR.out,HBW.out⟩
       · have c3:decide (Y=k)=false:=by simp[h3]
         have e3:(((Y:Nat):Int)==((k:Nat):Int))=false:=by simp;omega
         have HR:=QQ1 (show((decide (X=k)&&decide (Y=j))||(decide (X=j)&&decide (Y=k)))=true by rw[c0,c1,c2,c3];rfl)
         clear h0 h1 h2 h3 c0 c1 c2 c3
         go_wp2
         go_ret
         exact⟨QX8 HR.out,HBW.out⟩
   · have c1:decide (Y=j)=false:=by simp[h1]
     have e1:(((Y:Nat):Int)==((j:Nat):Int))=false:=by simp;omega
     by_cases h2:X=j
     · have c2:decide (X=j)=true:=by simp[h2]
       have e2:(((X:Nat):Int)==((j:Nat):Int))=true:=by simp;omega
       by_cases h3:Y=k
       · have c3:decide (Y=k)=true:=by simp[h3]
         have e3:(((Y:Nat):Int)==((k:Nat):Int))=true:=by simp;omega
         have HR:=QQ1 (show((decide (X=k)&&decide (Y=j))||(decide (X=j)&&decide (Y=k)))=true by rw[c0,c1,c2,c3];rfl)
         clear h0 h1 h2 h3 c0 c1 c2 c3
         go_wp2
         go_ret
         exact⟨QX8 HR.out,HBW.out⟩
       · have c3:decide (Y=k)=false:=by simp[h3]
         have e3:(((Y:Nat):Int)==((k:Nat):Int))=false:=by simp;omega
         have HR:=QQ1 (show((decide (X=k)&&decide (Y=j))||(decide (X=j)&&decide (Y=k)))=false by rw[c0,c1,c2,c3];rfl)
         clear h0 h1 h2 h3 c0 c1 c2 c3
         go_wp2
         go_ret
         exact⟨QX8 HR.out,HBW.out⟩
     · have c2:decide (X=j)=false:=by simp[h2]
       have e2:(((X:Nat):Int)==((j:Nat):Int))=false:=by simp;omega
       by_cases h3:Y=k
       · have c3:decide (Y=k)=true:=by simp[h3]
         have e3:(((Y:Nat):Int)==((k:Nat):Int))=true:=by simp;omega
         have HR:=QQ1 (show((decide (X=k)&&decide (Y=j))||(decide (X=j)&&decide (Y=k)))=false by rw[c0,c1,c2,c3];rfl)
         clear h0 h1 h2 h3 c0 c1 c2 c3
         go_wp2
         go_ret
         exact⟨QX8 HR.out,HBW.out⟩
       · have c3:decide (Y=k)=false:=by simp[h3]
         have e3:(((Y:Nat):Int)==((k:Nat):Int))=false:=by simp;omega
         have HR:=QQ1 (show((decide (X=k)&&decide (Y=j))||(decide (X=j)&&decide (Y=k)))=false by rw[c0,c1,c2,c3];rfl)
         clear h0 h1 h2 h3 c0 c1 c2 c3
         go_wp2
         go_ret
         exact⟨QX8 HR.out,HBW.out⟩
 · have c0:decide (X=k)=false:=by simp[h0]
   have e0:(((X:Nat):Int)==((k:Nat):Int))=false:=by simp;omega
   by_cases h1:Y=j
   · have c1:decide (Y=j)=true:=by simp[h1]
     have e1:(((Y:Nat):Int)==((j:Nat):Int))=true:=by simp;omega
     by_cases h2:X=j
     · have c2:decide (X=j)=true:=by simp[h2]
       have e2:(((X:Nat):Int)==((j:Nat):Int))=true:=by simp;omega
       by_cases h3:Y=k
       · have c3:decide (Y=k)=true:=by simp[h3]
         have e3:(((Y:Nat):Int)==((k:Nat):Int))=true:=by simp;omega
         have HR:=QQ1 (show((decide (X=k)&&decide (Y=j))||(decide (X=j)&&decide (Y=k)))=true by rw[c0,c1,c2,c3];rfl)
         clear h0 h1 h2 h3 c0 c1 c2 c3
         go_wp2
         go_ret
         exact⟨QX8 HR.out,HBW.out⟩
       · have c3:decide (Y=k)=false:=by simp[h3]
         have e3:(((Y:Nat):Int)==((k:Nat):Int))=false:=by simp;omega
         have HR:=QQ1 (show((decide (X=k)&&decide (Y=j))||(decide (X=j)&&decide (Y=k)))=false by rw[c0,c1,c2,c3];rfl)
         clear h0 h1 h2 h3 c0 c1 c2 c3
         go_wp2
         go_ret
         exact⟨QX8 HR.out,HBW.out⟩
     · have c2:decide (X=j)=false:=by simp[h2]
       have e2:(((X:Nat):Int)==((j:Nat):Int))=false:=by simp;omega
       by_cases h3:Y=k
       · have c3:decide (Y=k)=true:=by simp[h3]
         have e3:(((Y:Nat):Int)==((k:Nat):Int))=true:=by simp;omega
         have HR:=QQ1 (show((decide (X=k)&&decide (Y=j))||(decide (X=j)&&decide (Y=k)))=false by rw[c0,c1,c2,c3];rfl)
         clear h0 h1 h2 h3 c0 c1 c2 c3
         go_wp2
         go_ret
         exact⟨QX8 HR.out,HBW.out⟩
       · have c3:decide (Y=k)=false:=by simp[h3]
         have e3:(((Y:Nat):Int)==((k:Nat):Int))=false:=by simp;omega
         have HR:=QQ1 (show((decide (X=k)&&decide (Y=j))||(decide (X=j)&&decide (Y=k)))=false by rw[c0,c1,c2,c3];rfl)
         clear h0 h1 h2 h3 c0 c1 c2 c3
         go_wp2
         go_ret
         exact⟨QX8 HR.out,HBW.out⟩
   · have c1:decide (Y=j)=false:=by simp[h1]
     have e1:(((Y:Nat):Int)==((j:Nat):Int))=false:=by simp;omega
     by_cases h2:X=j
     · have c2:decide (X=j)=true:=by simp[h2]
       have e2:(((X:Nat):Int)==((j:Nat):Int))=true:=by simp;omega
       by_cases h3:Y=k
       · have c3:decide (Y=k)=true:=by simp[h3]
         have e3:(((Y:Nat):Int)==((k:Nat):Int))=true:=by simp;omega
         have HR:=QQ1 (show((decide (X=k)&&decide (Y=j))||(decide (X=j)&&decide (Y=k)))=true by rw[c0,c1,c2,c3];rfl)
         clear h0 h1 h2 h3 c0 c1 c2 c3
         go_wp2
         go_ret
         exact⟨QX8 HR.out,HBW.out⟩
       · have c3:decide (Y=k)=false:=by simp[h3]
         have e3:(((Y:Nat):Int)==((k:Nat):Int))=false:=by simp;omega
         have HR:=QQ1 (show((decide (X=k)&&decide (Y=j))||(decide (X=j)&&decide (Y=k)))=false by rw[c0,c1,c2,c3];rfl)
         clear h0 h1 h2 h3 c0 c1 c2 c3
         go_wp2
         go_ret
         exact⟨QX8 HR.out,HBW.out⟩
     · have c2:decide (X=j)=false:=by simp[h2]
       have e2:(((X:Nat):Int)==((j:Nat):Int))=false:=by simp;omega
       by_cases h3:Y=k
       · have c3:decide (Y=k)=true:=by simp[h3]
         have e3:(((Y:Nat):Int)==((k:Nat):Int))=true:=by simp;omega
         have HR:=QQ1 (show((decide (X=k)&&decide (Y=j))||(decide (X=j)&&decide (Y=k)))=false by rw[c0,c1,c2,c3];rfl)
         clear h0 h1 h2 h3 c0 c1 c2 c3
         go_wp2
         go_ret
         exact⟨QX8 HR.out,HBW.out⟩
       · have c3:decide (Y=k)=false:=by simp[h3]
         have e3:(((Y:Nat):Int)==((k:Nat):Int))=false:=by simp;omega
         have HR:=QQ1 (show((decide (X=k)&&decide (Y=j))||(decide (X=j)&&decide (Y=k)))=false by rw[c0,c1,c2,c3];rfl)
         clear h0 h1 h2 h3 c0 c1 c2 c3
         go_wp2
         go_ret
         exact⟨QX8 HR.out,HBW.out⟩
end Go.Proofs.Ytagaajlbkfkaiaa
/- Moves: the walks of bench.hasCross and bench.triangle. Made by genmvp.py. -/
namespace Go.Proofs.Ytagaajlbkfkaiaa
open Go.RowKit
set_option maxHeartbeats 8000000
set_option maxRecDepth 100000
def crB (C:List Cr) (k:Int):Bool:=decide (0<=k)&&decide (k<(C.length:Int))
theorem QJ1 (a:Option Addr) (cap:Nat) (C:List Cr) (loops:Int) (gF cF gT cT:Nat) (k:Int) (w:World):
    Calls Try.prog 107 #[drV a cap C loops gF cF gT cT,.int .i64 k] w fun e w'=>e=.returned (.bool (crB C k))/\Below w.heap.size w w':=by
 unfold drV
 have hb:∀ o,Below w.heap.size w (w.alloc o):=fun o=>(Below.refl _ _).alloc (Nat.le_refl _) o
 by_cases h0:0<=k
 · have d0:decide (0<=k)=true:=by simpa using h0
   by_cases h1:k<(C.length:Int)
   · have d1:decide (k<(C.length:Int))=true:=by simpa using h1
     have HR:=QQ1 (show crB C k=true by simp[crB,h0,h1])
     go_enter Try.func107,Try.ntmps107
     go_wp2
     go_ret
     exact⟨QX8 HR.out,hb _⟩
   · have d1:decide (k<(C.length:Int))=false:=by simpa using h1
     have HR:=QQ1 (show crB C k=false by simp[crB,h1])
     go_enter Try.func107,Try.ntmps107
     go_wp2
     go_ret
     exact⟨QX8 HR.out,hb _⟩
 · have d0:decide (0<=k)=false:=by simpa using h0
   have HR:=QQ1 (show crB C k=false by simp[crB,h0])
   go_enter Try.func107,Try.ntmps107
   go_wp2
   go_ret
   exact⟨QX8 HR.out,hb _⟩
theorem triangle_no (a:Option Addr) (cap:Nat) (C:List Cr) (loops:Int) (gF cF gT cT:Nat) (ad:Option Addr) (n c:Nat) (w:World) (hn:¬ n=3):
    Calls Try.prog 115 #[drV a cap C loops gF cF gT cT,.slice ad n c] w fun e w'=>e=.returned (.bool false)/\Below w.heap.size w w':=by
 unfold drV
 have hb:∀ o,Below w.heap.size w (w.alloc o):=fun o=>(Below.refl _ _).alloc (Nat.le_refl _) o
 go_enter Try.func115,Try.ntmps115
 go_wp2
 go_ret
 exact⟨rfl,hb _⟩
theorem triangle_yes (a:Option Addr) (cap:Nat) (C:List Cr) (loops:Int) (gF cF gT cT:Nat) (g c x y z:Nat) (w:World) (hm:mayD C loops=true) (hd:Dr w a cap C gF gT) (hg:g<w.heap.size)
    (hx:1<=x/\x<=4*C.length) (hy:1<=y/\y<=4*C.length) (hz:1<=z/\z<=4*C.length)
    (hc:w.cell? ⟨g,0,none⟩=some (.int .i64 (dA x:Nat))/\w.cell? ⟨g,1,none⟩=some (.bool (dB x))/\w.cell? ⟨g,2,none⟩=some (.int .i64 (dA y:Nat))/\w.cell? ⟨g,3,none⟩=some (.bool (dB y))/\w.cell? ⟨g,4,none⟩=some (.int .i64 (dA z:Nat))/\w.cell? ⟨g,5,none⟩=some (.bool (dB z))):
    Calls Try.prog 115 #[drV a cap C loops gF cF gT cT,.slice (some ⟨g,0,none⟩) 3 c] w fun e w'=>e=.returned (.bool ((!decide (dC C x=dC C y)&&!decide (dC C y=dC C z))&&!decide (dC C z=dC C x)))/\Below w.heap.size w w':=by
 have HEN:=QQ1 (fun(j:Nat) (W:World) (h1:1<=j/\j<=4*C.length) (hW:Dr W a cap C gF gT)=>end_any a cap C loops gF cF gT cT (dA j) (dB j) W hm (dA_le h1.1 h1.2).1 (dA_le h1.1 h1.2).2 hW)
 unfold drV at HEN ⊢
 have HD:=QQ1 hd
 have HX:=QQ1 (And.intro hx (And.intro hy hz))
 have HCC:=QQ1 hc
 obtain⟨X,hX⟩:∃ X,X=dC C x:=⟨_,rfl⟩
 obtain⟨Y,hY⟩:∃ Y,Y=dC C y:=⟨_,rfl⟩
 obtain⟨Z,hZ⟩:∃ Z,Z=dC C z:=⟨_,rfl⟩
 have HXX:Hid (enC C (dA x) (!dB x)=X):=hX.symm
 have HYY:Hid (enC C (dA y) (!dB y)=Y):=hY.symm
 have HZZ:Hid (enC C (dA z) (!dB z)=Z):=hZ.symm
 rw[<-hX,<-hY,<-hZ]
 obtain⟨V,hV⟩:∃ V,V=w.alloc (.cells #[.slice a C.length cap,.int .i64 loops,.slice (some ⟨gF,0,none⟩) (2*C.length+1) cF,.slice (some ⟨gT,0,none⟩) (2*C.length+1) cT] 63):=⟨_,rfl⟩
 have HV:=QQ1 hV
 have HBV:Hid (Below w.heap.size w V):=(by rw[hV];exact(Below.refl _ _).alloc (Nat.le_refl _) _)
 have HT0:Hid (V.heap[w.heap.size]?=some (.cells #[.slice a C.length cap,.int .i64 loops,.slice (some ⟨gF,0,none⟩) (2*C.length+1) cF,.slice (some ⟨gT,0,none⟩) (2*C.length+1) cT] 63 (0,0))):=(by rw[hV];exact alloc_at rfl)
 have hsV:V.heap.size=w.heap.size+1:=by rw[hV];simp
 have HSV:Hid (∀ W,Below V.heap.size V W->(fun X:World=>X.cell? ⟨w.heap.size,0,none⟩=some (.slice a C.length cap)/\X.cell? ⟨w.heap.size,1,none⟩=some (.int .i64 loops)/\X.cell? ⟨w.heap.size,2,none⟩=some (.slice (some ⟨gF,0,none⟩) (2*C.length+1) cF)/\X.cell? ⟨w.heap.size,3,none⟩=some (.slice (some ⟨gT,0,none⟩) (2*C.length+1) cT)/\X.cell? ⟨g,0,none⟩=some (.int .i64 (dA x:Nat))/\X.cell? ⟨g,1,none⟩=some (.bool (dB x))/\X.cell? ⟨g,2,none⟩=some (.int .i64 (dA y:Nat))/\X.cell? ⟨g,3,none⟩=some (.bool (dB y))/\X.cell? ⟨g,4,none⟩=some (.int .i64 (dA z:Nat))/\X.cell? ⟨g,5,none⟩=some (.bool (dB z))) W):=fun W hW=>by
  have k0:=(hW.block _ (by omega)).trans HT0.out
  have hb:=HBV.out.trans (hW.mono (by omega))
  have hq:=HCC.out
  exact⟨QQ0 k0 rfl,QQ0 k0 rfl,QQ0 k0 rfl,QQ0 k0 rfl,bcell hb hg hq.1,bcell hb hg hq.2.1,bcell hb hg hq.2.2.1,bcell hb hg hq.2.2.2.1,bcell hb hg hq.2.2.2.2.1,bcell hb hg hq.2.2.2.2.2⟩
 have HDW:Hid (∀ W,Below V.heap.size V W->Dr W a cap C gF gT):=fun W hW=>HD.out.on (HBV.out.trans (hW.mono (by omega)))
 have HDV:Hid (Below V.heap.size V V.drew):=(Below.refl _ _).drew
 have hfl:∀ (p q:Int) (W:World),(Instr.field 120 (.agg #[.int .i64 p,.int .i64 q]) 0).run Try.prog W=.ok (.int .i64 p) W:=fun p q W=>by kernel_rfl
 clear hV hX hY hZ hc hd hx hy hz hm
 go_enter Try.func115,Try.ntmps115
 go_wp2
 rw[<-HV.out]
 refine wp_region_held_drew (S:=fun X:World=>X.cell? ⟨w.heap.size,0,none⟩=some (.slice a C.length cap)/\X.cell? ⟨w.heap.size,1,none⟩=some (.int .i64 loops)/\X.cell? ⟨w.heap.size,2,none⟩=some (.slice (some ⟨gF,0,none⟩) (2*C.length+1) cF)/\X.cell? ⟨w.heap.size,3,none⟩=some (.slice (some ⟨gT,0,none⟩) (2*C.length+1) cT)/\X.cell? ⟨g,0,none⟩=some (.int .i64 (dA x:Nat))/\X.cell? ⟨g,1,none⟩=some (.bool (dB x))/\X.cell? ⟨g,2,none⟩=some (.int .i64 (dA y:Nat))/\X.cell? ⟨g,3,none⟩=some (.bool (dB y))/\X.cell? ⟨g,4,none⟩=some (.int .i64 (dA z:Nat))/\X.cell? ⟨g,5,none⟩=some (.bool (dB z))) (by kernel_rfl) (HSV.out _ HDV.out) (fun hHeld=>?_)
 refine tk 0 (h:=?_)
 refine tk 1 (h:=?_)
 refine tk 2 (h:=?_)
 refine tk 3 (h:=?_)
 refine tk 4 (h:=?_)
 refine tk 7 (h:=?_)
 refine tk 8 (h:=?_)
 refine tk 9 (h:=?_)
 refine tk 10 (h:=?_)
 refine tk 11 (h:=?_)
 refine tk 14 (h:=?_)
 refine tk 15 (h:=?_)
 refine tk 16 (h:=?_)
 refine tk 17 (h:=?_)
 refine tk 18 (h:=?_)
 try simp only[Act.put]
 refine rd1 5 (fun K hK=>?_)
 go_simp
 go_wp2_with (go_at_call 78;refine(HEN.out x _ HX.out.1 (HDW.out _ HDV.out)).mono ?_;rw[HXX.out];rintro e9 w0 ⟨rfl,hb0⟩)
 have B0:Hid (Below V.heap.size V w0):=HDV.out.trans (hb0.mono HDV.out.size)
 clear hb0
 generalize enS C (dA x) (!dB x)=s0
 refine hK.out _ _ (HSV.out _ B0.out) (fun hHeld=>?_)
 clear hK K
 refine tk 6 (h:=?_)
 try simp only[Act.put]
 refine rd1 12 (fun K hK=>?_)
 go_simp
 go_wp2_with (go_at_call 78;refine(HEN.out y _ HX.out.2.1 (HDW.out _ B0.out)).mono ?_;rw[HYY.out];rintro e9 w1 ⟨rfl,hb1⟩)
 have B1:Hid (Below V.heap.size V w1):=B0.out.trans (hb1.mono B0.out.size)
 clear hb1
 generalize enS C (dA y) (!dB y)=s1
 refine hK.out _ _ (HSV.out _ B1.out) (fun hHeld=>?_)
 clear hK K
 refine tk 13 (h:=?_)
 try simp only[Act.put]
 refine rd1 19 (fun K hK=>?_)
 go_simp
 go_wp2_with (go_at_call 78;refine(HEN.out z _ HX.out.2.2 (HDW.out _ B1.out)).mono ?_;rw[HZZ.out];rintro e9 w2 ⟨rfl,hb2⟩)
 have B2:Hid (Below V.heap.size V w2):=B1.out.trans (hb2.mono B1.out.size)
 clear hb2
 generalize enS C (dA z) (!dB z)=s2
 refine hK.out _ _ (HSV.out _ B2.out) (fun hHeld=>?_)
 clear hK K
 refine tk 20 (h:=?_)
 refine tk 21 (h:=?_)
 refine tk 22 (h:=?_)
 refine tk 23 (h:=?_)
 try simp only[Act.put]
 refine wpAnyH_done (by kernel_rfl) ?_ _
 clear hHeld
 have HBW:Hid (Below w.heap.size w w2):=HBV.out.trans (B2.out.mono (by omega))
 clear HSV HDW HXX HYY HZZ HEN HCC HX
 by_cases h1:X=Y
 · have HR:=QQ1 (show((!decide (X=Y)&&!decide (Y=Z))&&!decide (Z=X))=false by simp[h1])
   go_wp2
   go_ret
   exact⟨QX8 HR.out,HBW.out⟩
 · by_cases h2:Y=Z
   · have HR:=QQ1 (show((!decide (X=Y)&&!decide (Y=Z))&&!decide (Z=X))=false by simp[h2])
     go_wp2
     go_ret
     exact⟨QX8 HR.out,HBW.out⟩
   · by_cases h3:Z=X
     · have HR:=QQ1 (show((!decide (X=Y)&&!decide (Y=Z))&&!decide (Z=X))=false by simp[h3])
       go_wp2
       go_ret
       exact⟨QX8 HR.out,HBW.out⟩
     · have HR:=QQ1 (show((!decide (X=Y)&&!decide (Y=Z))&&!decide (Z=X))=true by simp[h1,h2,h3])
       go_wp2
       go_ret
       exact⟨QX8 (HR.out.trans (by
        have a1:((X:Nat):Int)≠(Y:Nat):=by omega
        have a2:((Y:Nat):Int)≠(Z:Nat):=by omega
        have a3:((Z:Nat):Int)≠(X:Nat):=by omega
        rw[bne_iff_ne.2 a1,bne_iff_ne.2 a2,bne_iff_ne.2 a3]
        rfl)),HBW.out⟩
end Go.Proofs.Ytagaajlbkfkaiaa

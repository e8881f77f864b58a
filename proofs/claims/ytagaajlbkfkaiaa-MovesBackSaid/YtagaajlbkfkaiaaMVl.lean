/- Moves: the walk of bench.layered. Made by genmvl.py. -/
import Derived.Test.YtagaajlbkfkaiaaTkhP
import Derived.Test.YtagaajlbkfkaiaaMV5
import Derived.Test.YtagaajlbkfkaiaaF2P
import Derived.Deep.RegionHeld
namespace Go.Proofs.Ytagaajlbkfkaiaa
open Go.RowKit
set_option maxHeartbeats 8000000
set_option maxRecDepth 100000
def hiB (C:List Cr) (x:Nat) (p:Bool):Bool:=decide (enS C x p%2=1)
def topB (C:List Cr) (l:List Nat):Bool:=l.any fun j=>hiB C (dA j) false&&hiB C (dA j) true
def botB (C:List Cr) (l:List Nat):Bool:=l.any fun j=>!hiB C (dA j) false&&!hiB C (dA j) true
theorem top_next (C:List Cr) (l:List Nat) (i:Nat) (h:i<l.length):topB C (l.take (i+1))=(topB C (l.take i)||(hiB C (dA (l.getD i 0)) false&&hiB C (dA (l.getD i 0)) true)):=by
 have e:l.take (i+1)=l.take i++[l.getD i 0]:=by
  rw[List.take_add_one,List.getD_eq_getElem?_getD,List.getElem?_eq_getElem h]
  rfl
 rw[e]
 unfold topB
 rw[List.any_append]
 simp
theorem bot_next (C:List Cr) (l:List Nat) (i:Nat) (h:i<l.length):botB C (l.take (i+1))=(botB C (l.take i)||(!hiB C (dA (l.getD i 0)) false&&!hiB C (dA (l.getD i 0)) true)):=by
 have e:l.take (i+1)=l.take i++[l.getD i 0]:=by
  rw[List.take_add_one,List.getD_eq_getElem?_getD,List.getElem?_eq_getElem h]
  rfl
 rw[e]
 unfold botB
 rw[List.any_append]
 simp
theorem layered_any (a:Option Addr) (cap:Nat) (C:List Cr) (loops:Int) (gF cF gT cT:Nat) (g n c:Nat) (l:List Nat) (w:World) (hm:mayD C loops=true) (hd:Dr w a cap C gF gT) (hg:g<w.heap.size) (hn:l.length=n) (hn9:n<=1000)
    (hj:∀ k,k<n->1<=l.getD k 0/\l.getD k 0<=4*C.length)
    (hc:∀ k,k<n->w.cell? ⟨g,k*2,none⟩=some (.int .i64 (dA (l.getD k 0):Nat))/\w.cell? ⟨g,k*2+1,none⟩=some (.bool (dB (l.getD k 0)))):
    Calls Try.prog 114 #[drV a cap C loops gF cF gT cT,.slice (some ⟨g,0,none⟩) n c] w fun e w'=>e=.returned (.bool (topB C l&&botB C l))/\Below w.heap.size w w':=by
 unfold drV
 have HD:=QQ1 hd
 have HM:=QQ1 hm
 have HJ:=QQ1 hj
 have HCC:=QQ1 hc
 have HN:=QQ1 hn
 have hl16:=QK4 hm
 have HSP:=QQ1 (fun(i:Int) (s:Nat) (W:World) (hs:s<4)=>spotAbove_any i s W hs)
 obtain⟨V,hV⟩:∃ V,V=w.alloc (.cells #[.slice a C.length cap,.int .i64 loops,.slice (some ⟨gF,0,none⟩) (2*C.length+1) cF,.slice (some ⟨gT,0,none⟩) (2*C.length+1) cT] 63):=⟨_,rfl⟩
 have HV:=QQ1 hV
 have HBV:Hid (Below w.heap.size w V):=(by rw[hV];exact(Below.refl _ _).alloc (Nat.le_refl _) _)
 have HT0:Hid (V.heap[w.heap.size]?=some (.cells #[.slice a C.length cap,.int .i64 loops,.slice (some ⟨gF,0,none⟩) (2*C.length+1) cF,.slice (some ⟨gT,0,none⟩) (2*C.length+1) cT] 63 (0,0))):=(by rw[hV];exact alloc_at rfl)
 have hsV:V.heap.size=w.heap.size+1:=by rw[hV];simp
 clear hV hd hm hj hc hn
 go_enter Try.func114,Try.ntmps114
 go_wp2
 rw[<-HV.out]
 go_loopw [5,6,13] (fun v5 v6 v13 wr=>∃ (i:Nat) (t b:Bool),i<=n/\v13=.int .i64 (i:Nat)/\v5=.bool t/\v6=.bool b/\Hid (topB C (l.take i)=t)/\Hid (botB C (l.take i)=b)/\Hid (Below V.heap.size V wr)) (fun _ _ v13 _=>n-(intOf v13).toNat)
 case atStart=>exact⟨0,false,false,Nat.zero_le _,rfl,rfl,rfl,rfl,rfl,Below.refl _ _⟩
 case round=>
  rename World=>W1
  obtain⟨i,t,b,hi,rfl,rfl,rfl,ht,hb,hB⟩:=hrel
  have hsW:=hB.out.size
  have HBW:=QQ1 hB.out
  have HT:=QQ1 ht.out
  have HBo:=QQ1 hb.out
  clear ht hb hB
  by_cases hil:i<n
  · have hii:(i:Int)<(n:Int):=by omega
    obtain⟨j,hj⟩:∃ j,l.getD i 0=j:=⟨_,rfl⟩
    have hr:=HJ.out i hil
    have hcc:=HCC.out i hil
    have HTN:=QQ1 (top_next C l i (by rw[HN.out];exact hil))
    have HBN:=QQ1 (bot_next C l i (by rw[HN.out];exact hil))
    rw[hj]at hr hcc HTN HBN
    rw[HT.out]at HTN
    rw[HBo.out]at HBN
    have hBA:Below w.heap.size w W1:=HBV.out.trans (HBW.out.mono (by omega))
    have c0:W1.cell? ⟨g,i*2,none⟩=some (.int .i64 (dA j:Nat)):=bcell hBA hg hcc.1
    have c1:W1.cell? ⟨g,i*2+1,none⟩=some (.bool (dB j)):=bcell hBA hg hcc.2
    have hgW:g<W1.heap.size:=by omega
    obtain⟨x,hx⟩:∃ x,dA j=x:=⟨_,rfl⟩
    have hxr:=dA_le hr.1 hr.2
    have hDr:=HD.out.on hBA
    have hen:=hDr.endAt HM.out x (by omega) (by omega)
    have hes0:=(QJ9 HM.out x false (by omega) (by omega)).2.2.1
    have hes1:=(QJ9 HM.out x true (by omega) (by omega)).2.2.1
    obtain⟨p0,hp0⟩:∃ p,hiB C x false=p:=⟨_,rfl⟩
    obtain⟨p1,hp1⟩:∃ p,hiB C x true=p:=⟨_,rfl⟩
    rw[hx]at c0 HTN HBN
    rw[hp0,hp1]at HTN HBN
    unfold hiB at hp0 hp1
    obtain⟨cf,ef⟩:∃ q,enC C x false=q:=⟨_,rfl⟩
    obtain⟨sf,fs⟩:∃ q,enS C x false=q:=⟨_,rfl⟩
    obtain⟨ct,et⟩:∃ q,enC C x true=q:=⟨_,rfl⟩
    obtain⟨st,ts⟩:∃ q,enS C x true=q:=⟨_,rfl⟩
    rw[ef,fs,et,ts]at hen
    rw[fs]at hp0 hes0
    rw[ts]at hp1 hes1
    have HA0:=QQ1 (fun W=>HSP.out (cf:Int) sf W hes0)
    have HA1:=QQ1 (fun W=>HSP.out (ct:Int) st W hes1)
    rw[hp0]at HA0
    rw[hp1]at HA1
    have HEN:=QQ1 hen
    have hltT:=hDr.ltT
    have hltF:=hDr.ltF
    have hxi:((x:Nat):Int)<2*(C.length:Int)+1:=by omega
    have hxn:x<2*C.length+1:=by omega
    have HBA:=QQ1 hBA
    obtain⟨Z,hZ⟩:∃ Z,Z=W1.alloc (.cells #[.int .i64 (x:Nat),.bool (dB j)] 26):=⟨_,rfl⟩
    have HZ:=QQ1 hZ
    have hsZ:Z.heap.size=W1.heap.size+1:=by rw[hZ];simp
    have HBZ:Hid (Below W1.heap.size W1 Z):=(by rw[hZ];exact(Below.refl _ _).alloc (Nat.le_refl _) _)
    have HQZ:Hid (Z.heap[W1.heap.size]?=some (.cells #[.int .i64 (x:Nat),.bool (dB j)] 26 (0,0))):=(by rw[hZ];exact alloc_at rfl)
    have HSV:Hid (∀ W,Below Z.heap.size Z W->(fun X:World=>X.cell? ⟨w.heap.size,2,none⟩=some (.slice (some ⟨gF,0,none⟩) (2*C.length+1) cF)/\X.cell? ⟨w.heap.size,3,none⟩=some (.slice (some ⟨gT,0,none⟩) (2*C.length+1) cT)/\X.cell? ⟨W1.heap.size,0,none⟩=some (.int .i64 (x:Nat))/\X.cell? ⟨gF,x*2,none⟩=some (.int .i64 (cf:Nat))/\X.cell? ⟨gF,x*2+1,none⟩=some (.int .i64 (sf:Nat))/\X.cell? ⟨gT,x*2,none⟩=some (.int .i64 (ct:Nat))/\X.cell? ⟨gT,x*2+1,none⟩=some (.int .i64 (st:Nat))) W):=fun W hW=>by
     have k0:=(hW.block _ (by omega)).trans ((HBZ.out.block _ (by omega)).trans ((HBW.out.block _ (by omega)).trans HT0.out))
     have k1:=(hW.block _ (by omega)).trans HQZ.out
     have hb:=HBZ.out.trans (hW.mono (by omega))
     obtain⟨q1,q2,q3,q4⟩:=HEN.out
     exact⟨QQ0 k0 rfl,QQ0 k0 rfl,QQ0 k1 rfl,bcell hb hltF q3,bcell hb hltF q4,bcell hb hltT q1,bcell hb hltT q2⟩
    have HDZ:Hid (Below Z.heap.size Z Z.drew):=(Below.refl _ _).drew
    have HBZV:=hidB (HBW.out.trans (HBZ.out.mono (by omega)))
    clear hZ hj hx hr hcc hxr hDr hen hes0 hes1 hp0 hp1 ef fs et ts hBA
    go_wp2
    rw[<-HZ.out]
    refine rhd HSV HDZ.out (fun hHeld=>?_)
    refine tk 0 (h:=?_)
    refine tk 1 (h:=?_)
    refine tk 2 (h:=?_)
    refine tk 3 (h:=?_)
    refine tk 4 (h:=?_)
    refine tk 5 (h:=?_)
    refine tk 6 (h:=?_)
    refine tk 8 (h:=?_)
    refine tk 9 (h:=?_)
    refine tk 10 (h:=?_)
    refine tk 11 (h:=?_)
    refine tk 12 (h:=?_)
    refine tk 13 (h:=?_)
    refine tk 14 (h:=?_)
    try simp only[Act.put]
    refine rd1 7 (fun K hK=>?_)
    go_simp
    go_wp2_with (go_at_call 126;refine(HA0.out _).mono ?_;rintro e9 w3 ⟨rfl,hb3⟩)
    have B3:=hidB (HDZ.out.trans (hb3.mono HDZ.out.size))
    clear hb3
    refine hK.out _ _ (HSV.out _ B3.out) (fun hHeld=>?_)
    clear hK K
    try simp only[Act.put]
    refine rd1 15 (fun K hK=>?_)
    go_simp
    go_wp2_with (go_at_call 126;refine(HA1.out _).mono ?_;rintro e9 w4 ⟨rfl,hb4⟩)
    have B4:=hidB (B3.out.trans (hb4.mono B3.out.size))
    clear hb4
    refine hK.out _ _ (HSV.out _ B4.out) (fun hHeld=>?_)
    clear hK K
    refine tk 16 (h:=?_)
    refine tk 17 (h:=?_)
    try simp only[Act.put]
    refine wpAnyH_done (by kernel_rfl) ?_ _
    clear hHeld HSV HA0 HA1 HSP HEN c0 c1
    have HBF:=hidB (HBZV.out.trans (B4.out.mono (by omega)))
    cases t<;>cases b<;>cases p0<;>cases p1
    all_goals
     go_wp2
     go_roundw
    all_goals first
     |(simp only[intOf];omega)
     |exact⟨i+1,_,_,by omega,by go_num,rfl,rfl,HTN.out,HBN.out,HBF.out⟩
  · obtain rfl:i=n:=by omega
    have e:l.take i=l:=by rw[<-HN.out,List.take_length]
    rw[e]at HT HBo
    have HBX:=hidB (HBV.out.trans (HBW.out.mono (by omega)))
    cases t<;>cases b
    · have HR:=QQ1 (show(topB C l&&botB C l)=false by rw[HT.out];rfl)
      go_wp2
      go_ret
      exact⟨QX8 HR.out,HBX.out⟩
    · have HR:=QQ1 (show(topB C l&&botB C l)=false by rw[HT.out];rfl)
      go_wp2
      go_ret
      exact⟨QX8 HR.out,HBX.out⟩
    · have HR:=QQ1 (show(topB C l&&botB C l)=false by rw[HT.out,HBo.out];rfl)
      go_wp2
      go_ret
      exact⟨QX8 HR.out,HBX.out⟩
    · have HR:=QQ1 (show(topB C l&&botB C l)=true by rw[HT.out,HBo.out];rfl)
      go_wp2
      go_ret
      exact⟨QX8 HR.out,HBX.out⟩
end Go.Proofs.Ytagaajlbkfkaiaa

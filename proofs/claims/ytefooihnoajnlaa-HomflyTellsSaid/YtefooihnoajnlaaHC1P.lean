/- Several texts of the proof, one behind the other. -/
import Derived.Test.YtefooihnoajnlaaHB8P
import Derived.Test.YtefooihnoajnlaaHB6P
import Derived.Test.YtefooihnoajnlaaJ4P
import Derived.Test.YtefooihnoajnlaaHA6P
import Derived.Test.YtefooihnoajnlaaPA10P
/- The walks of homfly.polynomialOf and homfly.Homfly. -/
namespace Go.Proofs.Ytefooihnoajnlaa.Poly
open Go.RowKit Go.Maps
set_option maxHeartbeats 4000000
set_option maxRecDepth 100000
theorem dsA_first (r:Nat):dsA ⟨1,fun _=>false,fun _=>0,r⟩ 0 0 1=#[.int .i64 1,.int .i64 0,.int .i64 0,.int .i64 0,.int .i64 0,.int .i64 0,.int .i64 0,.int .i64 0,.int .i64 0,.bool false,.bool false,.bool false,.bool false,.bool false,.bool false,.bool false,.bool false,.bool false,.bool false,.bool false,.bool false,.bool false,.bool false,.bool false,.bool false,.bool false,.int .i64 (r:Nat),.int .i64 0,.int .i64 0,.int .i64 1]:=rfl
theorem polynomial_any (a : Option Addr) (cap : Nat) (C : List Cr) (r : Nat) (gF cF gT cT : Nat) (w : World) (hm : mayD C (r : Nat) = true) (hn8 : C.length ≤ 8) (hr : r ≤ 16) (hD : Dr w a cap C gF gT) :
    Calls Try.prog 13 #[drV a cap C (r:Nat) gF cF gT cT] w fun e w'=>∃ b D,e=.returned (.map (some b))/\PrD w' b (pwm 16) (pwm 16) 100 (pl2 C r) D/\Below w.heap.size w w':=by
 have HD:=hidH hD
 have HM:=hidH hm
 have hmk:=@run_makeMap Try.prog
 have hgf:=hD.ltF
 have hgt:=hD.ltT
 have HAP : Hid (∀ b, w.heap.size ≤ b → Apart a C.length gF gT b) := fun b hb => ⟨by omega, by omega, fun h0 ad e => by
  obtain⟨bX,off,h1,h2,-⟩:=hD.cross h0
  rw[h1]at e
  rw[<-Option.some.inj e]
  show bX≠b
  omega⟩
 obtain⟨V,hV⟩:∃ V,w.alloc (.cells #[.slice a C.length cap,.int .i64 (r:Nat),.slice (some ⟨gF,0,none⟩) (2*C.length+1) cF,.slice (some ⟨gT,0,none⟩) (2*C.length+1) cT] 41)=V:=⟨_,rfl⟩
 have hbV:V.heap[w.heap.size]?=some (.cells #[.slice a C.length cap,.int .i64 (r:Nat),.slice (some ⟨gF,0,none⟩) (2*C.length+1) cF,.slice (some ⟨gT,0,none⟩) (2*C.length+1) cT] 41 (0,0)):=by rw[<-hV];exact alloc_at rfl
 have c0:V.cell? ⟨w.heap.size,0,none⟩=some (.slice a C.length cap):=block_cell hbV rfl
 have c1:V.cell? ⟨w.heap.size,1,none⟩=some (.int .i64 (r:Nat)):=block_cell hbV rfl
 have c2:V.cell? ⟨w.heap.size,2,none⟩=some (.slice (some ⟨gF,0,none⟩) (2*C.length+1) cF):=block_cell hbV rfl
 have c3:V.cell? ⟨w.heap.size,3,none⟩=some (.slice (some ⟨gT,0,none⟩) (2*C.length+1) cT):=block_cell hbV rfl
 have hBV:Below w.heap.size w V:=by rw[<-hV];exact(Below.refl _ _).alloc (Nat.le_refl _) _
 have lV:w.heap.size<V.heap.size:=(Array.getElem?_eq_some_iff.1 hbV).1
 obtain⟨V2,hV2⟩:∃ V2,(V.alloc (.map #[] 0)).alloc (.cells #[.slice a C.length cap,.int .i64 (r:Nat),.slice (some ⟨gF,0,none⟩) (2*C.length+1) cF,.slice (some ⟨gT,0,none⟩) (2*C.length+1) cT,.map (some V.heap.size)] 67)=V2:=⟨_,rfl⟩
 have hBV2:Below V.heap.size V V2:=by rw[<-hV2];exact below2 _ _ _
 have hP2:PrD V2 V.heap.size 0 0 100 (fun _=>0) (.map []):=by rw[<-hV2];exact(PrD.made V 100).kept (World.grownBy_alloc _ _ none) (by simp)
 have hbD:V2.heap[V.heap.size+1]?=some (.cells #[.slice a C.length cap,.int .i64 (r:Nat),.slice (some ⟨gF,0,none⟩) (2*C.length+1) cF,.slice (some ⟨gT,0,none⟩) (2*C.length+1) cT,.map (some V.heap.size)] 67 (0,0)):=by rw[<-hV2];exact alloc_at (by simp)
 have HBD:=hidH hbD
 have d1:V2.cell? ⟨w.heap.size,1,none⟩=some (.int .i64 (r:Nat)):=bcell hBV2 lV c1
 have lV2:w.heap.size<V2.heap.size:=by have:=hBV2.size;omega
 have d2:V2.cell? ⟨V.heap.size+1,0,none⟩=some (.slice a C.length cap):=block_cell hbD rfl
 have d3:V2.cell? ⟨V.heap.size+1,1,none⟩=some (.int .i64 (r:Nat)):=block_cell hbD rfl
 have d4:V2.cell? ⟨V.heap.size+1,2,none⟩=some (.slice (some ⟨gF,0,none⟩) (2*C.length+1) cF):=block_cell hbD rfl
 have d5:V2.cell? ⟨V.heap.size+1,3,none⟩=some (.slice (some ⟨gT,0,none⟩) (2*C.length+1) cT):=block_cell hbD rfl
 have d6:V2.cell? ⟨V.heap.size+1,4,none⟩=some (.map (some V.heap.size)):=block_cell hbD rfl
 have lD:V.heap.size+1<V2.heap.size:=(Array.getElem?_eq_some_iff.1 hbD).1
 have HBW:=hidH (hBV.trans (hBV2.mono hBV.size))
 have hp16:pwm (2*C.length)<=pwm 16:=Nat.pow_le_pow_right (by decide) (by omega)
 have hp17:pwm 16<=100000000000000000:=by unfold pwm;decide
 have HWK := hidH (walk_all a cap C (r : Nat) gF cF gT cT V.heap.size hm hn8 (HAP.out _ hBV.size) (2 * C.length) ⟨1, fun _ => false, fun _ => 0, r⟩ 0 0 1 0 0 (fun _ => 0) (.map []) V2
  ⟨Nat.le_refl _,fun _=>rfl,Nat.le_of_eq (unw_all _),by show r+2*C.length<=40;omega,by show 0+2*(2*C.length)<=40;omega,by show 0+2*C.length<=40;omega,Or.inl rfl,by omega,by omega⟩ (hD.on (hBV.trans (hBV2.mono hBV.size))) hP2)
 rw[dsA_first]at HWK
 have HV:=hidH hV
 have HV2:=hidH hV2
 unfold dcV at HWK
 unfold drV
 clear hV hV2 hD hm hbV hP2 hbD
 go_enter Try.func13,Try.ntmps13
 go_upto_region 1 with(fail)
 rw[HV.out]
 go_upto_region 2 with(fail)
 rw[HV2.out]
 go_wp2_with (go_at_call 24;refine HWK.out.mono ?_;rintro e9 w9 ⟨rfl,D9,hp9,hg9⟩;refine Hid.out ?_)
 refine Lib.hid ?_
 have k6:w9.cell? ⟨V.heap.size+1,4,none⟩=some (.map (some V.heap.size)):=by
  have:=(hg9.block _ lD (fun q=>by have:=Option.some.inj q;omega)).trans HBD.out
  exact block_cell this rfl
 have l9:=hg9.size
 clear c0 c1 c2 c3 d1 d2 d3 d4 d5 d6
 go_wp2
 go_ret
 refine⟨V.heap.size,D9,rfl,?_,HBW.out.grown hg9 HBW.out.size (fun q hq=>by have:=Option.some.inj hq;have:=hBV.size;omega)⟩
 refine(hp9.mono (by omega) (by omega) (Nat.le_refl _)).congr fun e=>?_
 show 0+1*wk (sysC C) (2*C.length) ⟨1,fun _=>false,fun _=>0,r⟩ (e-(1000*0+0))=_
 rw[show e-(1000*0+0)=e by omega]
 unfold pl2
 omega
def TwosAt (w:World) (b off:Nat) (l:List (Int×Int)):Prop:=∀ i,i<l.length->w.cell? ⟨b,off+i*3,none⟩=some (.int .i64 (dx (l.getD i (0,0)).1))/\w.cell? ⟨b,off+i*3+1,none⟩=some (.int .i64 (dz (l.getD i (0,0)).1))/\w.cell? ⟨b,off+i*3+2,none⟩=some (.int .i64 (l.getD i (0,0)).2)
theorem TwosAt.on {B:Nat} {W w1:World} {b off:Nat} {l:List (Int×Int)} (h:TwosAt W b off l) (hb:Below B W w1) (hlt:b<B):TwosAt w1 b off l:=
 fun i hi=>⟨bcell hb hlt (h i hi).1,bcell hb hlt (h i hi).2.1,bcell hb hlt (h i hi).2.2⟩
def PolyU (w:World) (B:Nat) (v:Value) (l:List (Int×Int)):Prop:=
 (v=.slice none 0 0/\l=[])∨∃ b off cap,v=.slice (some ⟨b,off,none⟩) l.length cap/\l.length<=cap/\cap<=maxLen/\b<B/\TwosAt w b off l
theorem PolyU.on {w w':World} {B:Nat} {v:Value} {l:List (Int×Int)} (h:PolyU w B v l) (hb:Below B w w'):PolyU w' B v l:=by
 rcases h with h|⟨b,off,cap,h1,h2,h3,h4,h5⟩
 · exact Or.inl h
 · exact Or.inr ⟨b,off,cap,h1,h2,h3,h4,h5.on hb h4⟩
theorem PolyU.up {w w':World} {v:Value} {l:List (Int×Int)} (h:PolyU w w.heap.size v l) (hb:Below w.heap.size w w'):PolyU w' w'.heap.size v l:=by
 rcases h with h|⟨b,off,cap,h1,h2,h3,h4,h5⟩
 · exact Or.inl h
 · exact Or.inr ⟨b,off,cap,h1,h2,h3,Nat.lt_of_lt_of_le h4 hb.size,h5.on hb h4⟩
theorem PolyU.ofRow {w:World} {base:Nat} {v:Value} {l:List (Int×Int)} (h:w.ownsRow base 51 3 v l.length (flatU l)):PolyU w w.heap.size v l:=by
 rcases h.2 with⟨rfl,h0⟩|⟨g,cap,cur,rfl,h6,h7,h1,h2,h3,h4⟩
 · exact Or.inl ⟨rfl,List.length_eq_zero_iff.1 h0⟩
 · refine Or.inr ⟨g,0,cap,rfl,h1,h2,(Array.getElem?_eq_some_iff.1 h7).1,fun i hi=>?_⟩
   have g0:=flatU_get l i hi
   have hg:∀ j u,j<l.length*3->(flatU l)[j]?=some u->w.cell? ⟨g,j,none⟩=some u:=fun j u hj hu=>by
    refine block_cell h7 ?_
    rw[<-h4,List.getElem?_take_of_lt hj]at hu
    rw[<-Array.getElem?_toList]
    exact hu
   rw[Nat.zero_add]
   exact⟨hg _ _ (by omega) g0.1,hg _ _ (by omega) g0.2.1,hg _ _ (by omega) g0.2.2⟩
def hmN (C:List Cr) (loops:Int):Int:=if noN C loops≠0 then noN C loops else if 8<C.length then 2 else 0
theorem homfly_any (hFR : FaceRingsOk) (a : Option Addr) (cap : Nat) (C : List Cr) (loops : Int) (w : World) (h : Crs w w.heap.size (.slice a C.length cap) C) :
    Calls Try.prog 4 #[.agg #[.slice a C.length cap,.int .i64 loops]] w fun e w'=>((hmN C loops≠0/\e=.returned (.tuple #[.slice none 0 0,.int .i64 (hmN C loops)]))∨(hmN C loops=0/\∃ v l,e=.returned (.tuple #[v,.int .i64 0])/\PolyU w' w'.heap.size v l/\Canon l (pl2 C loops.toNat)/\l.length<=800001))/\Below w.heap.size w w':=by
 have HC:=hidH h
 have HFA:=hidH hFR
 obtain⟨V,hV⟩:∃ V,w.alloc (.cells #[.slice a C.length cap,.int .i64 loops] 24)=V:=⟨_,rfl⟩
 have hBV:Below w.heap.size w V:=by rw[<-hV];exact(Below.refl _ _).alloc (Nat.le_refl _) _
 have hbV:V.heap[w.heap.size]?=some (.cells #[.slice a C.length cap,.int .i64 loops] 24 (0,0)):=by rw[<-hV];exact alloc_at rfl
 have c0:V.cell? ⟨w.heap.size,0,none⟩=some (.slice a C.length cap):=block_cell hbV rfl
 have c1:V.cell? ⟨w.heap.size,1,none⟩=some (.int .i64 loops):=block_cell hbV rfl
 have lV:w.heap.size<V.heap.size:=(Array.getElem?_eq_some_iff.1 hbV).1
 have HV:=hidH hV
 have HBV:=hidH hBV
 have HCV:=hidH (h.up hBV)
 clear hV hbV h hFR hBV
 by_cases hn:noN C loops=0
 · have hmp:=noN_zero hn
   have HMP:=hidH hmp
   have hz:=(sizeB_iff (may_size hmp.1))
   have HN:=hidH hn
   have hlo:0<=loops/\loops<=16:=by obtain⟨s1,s2,s3,s4⟩:=hz;omega
   clear hz hmp hn
   obtain⟨r,rfl⟩:∃ r:Nat,loops=(r:Int):=⟨loops.toNat,by omega⟩
   by_cases h8:C.length<=8
   · have HDF := hidH ((drawn_flatH HFA.out a cap C (r : Nat) V HN.out HCV.out).mono (fun e w' (h : _ ∧ _) => (by
       obtain⟨⟨-,gF,cF,gT,cT,h1,h2⟩|⟨q,-⟩,hb⟩:=h
       · exact⟨gF,cF,gT,cT,h1,h2,hb⟩
       · omega:∃ gF cF gT cT,e=.returned (.tuple #[drV a cap C (r:Nat) gF cF gT cT,.int .i64 0])/\Dr w' a cap C gF gT/\Below V.heap.size V w')))
     go_enter Try.func4,Try.ntmps4
     go_upto_region 1 with(fail)
     rw[HV.out]
     unfold drV at HDF
     go_wp2_with (go_at_call 12;refine HDF.out.mono ?_;rintro e9 w2 ⟨gF,cF,gT,cT,rfl,hD,hb2⟩;refine Hid.out ?_)
     refine Lib.hid ?_
     have HH:Hid (hmN C (r:Nat)=0):=(by unfold hmN;rw[if_neg (fun q=>q HN.out),if_neg (by omega)]:hmN C (r:Nat)=0)
     clear c0 c1
     obtain⟨V3,hV3⟩:∃ V3,w2.alloc (.cells #[.slice a C.length cap,.int .i64 (r:Nat),.slice (some ⟨gF,0,none⟩) (2*C.length+1) cF,.slice (some ⟨gT,0,none⟩) (2*C.length+1) cT] 41)=V3:=⟨_,rfl⟩
     have hb3:Below w2.heap.size w2 V3:=by rw[<-hV3];exact(Below.refl _ _).alloc (Nat.le_refl _) _
     have hbV3:V3.heap[w2.heap.size]?=some (.cells #[.slice a C.length cap,.int .i64 (r:Nat),.slice (some ⟨gF,0,none⟩) (2*C.length+1) cF,.slice (some ⟨gT,0,none⟩) (2*C.length+1) cT] 41 (0,0)):=by rw[<-hV3];exact alloc_at rfl
     have d0:V3.cell? ⟨w2.heap.size,0,none⟩=some (.slice a C.length cap):=block_cell hbV3 rfl
     have d1:V3.cell? ⟨w2.heap.size,1,none⟩=some (.int .i64 (r:Nat)):=block_cell hbV3 rfl
     have d2:V3.cell? ⟨w2.heap.size,2,none⟩=some (.slice (some ⟨gF,0,none⟩) (2*C.length+1) cF):=block_cell hbV3 rfl
     have d3:V3.cell? ⟨w2.heap.size,3,none⟩=some (.slice (some ⟨gT,0,none⟩) (2*C.length+1) cT):=block_cell hbV3 rfl
     have lV3:w2.heap.size<V3.heap.size:=(Array.getElem?_eq_some_iff.1 hbV3).1
     have HPO:=hidH (polynomial_any a cap C r gF cF gT cT V3 HMP.out.1 h8 (by omega) (hD.on hb3))
     unfold drV at HPO
     have HB3:=hidH ((HBV.out.trans (hb2.mono HBV.out.size)).trans (hb3.mono (by have:=HBV.out.size;have:=hb2.size;omega)))
     have HV3:=hidH hV3
     clear hV3 hbV3 hb3 hb2 hD
     go_upto_region 2 with(fail)
     rw[HV3.out]
     go_wp2_with (go_at_call 13;refine HPO.out.mono ?_;rintro e9 w4 ⟨b4,D4,rfl,hp4,hb4⟩;refine Hid.out ?_)
     refine Lib.hid ?_
     have HB4:=hidH (HB3.out.trans (hb4.mono HB3.out.size))
     have HIF:=hidH (inform_pairs b4 (pwm 16) (pwm 16) 100 (pl2 C r) D4 w4 hp4 (by decide))
     clear hb4 hp4 d0 d1 d2 d3
     go_wp2_with (go_at_call 14;refine HIF.out.mono ?_;rintro e9 w5 ⟨v5,l5,rfl,hrow,hcan,hlen,hb5⟩;refine Hid.out ?_)
     refine Lib.hid ?_
     have HB5:=hidH (HB4.out.trans (hb5.mono HB4.out.size))
     go_wp2
     go_ret2
     exact⟨Or.inr ⟨HH.out,v5,l5,rfl,PolyU.ofRow hrow,hcan,hlen⟩,HB5.out⟩
   · have HDF := hidH ((drawn_flatH HFA.out a cap C (r : Nat) V HN.out HCV.out).mono (fun e w' (h : _ ∧ _) => (by
       obtain⟨⟨q,-⟩|⟨-,h1⟩,hb⟩:=h
       · omega
       · exact⟨h1,hb⟩:e=.returned (.tuple #[noDrawing,.int .i64 2])/\Below V.heap.size V w')))
     go_enter Try.func4,Try.ntmps4
     go_upto_region 1 with(fail)
     rw[HV.out]
     unfold noDrawing at HDF
     go_wp2_with (go_at_call 12;refine HDF.out.mono ?_;rintro e9 w2 ⟨rfl,hb2⟩;refine Hid.out ?_)
     refine Lib.hid ?_
     have HH:Hid (hmN C (r:Nat)=2):=(by unfold hmN;rw[if_neg (fun q=>q HN.out),if_pos (by omega)]:hmN C (r:Nat)=2)
     have HB3:=hidH (HBV.out.trans (hb2.mono HBV.out.size))
     clear hb2 c0 c1
     go_wp2
     go_ret2
     exact⟨Or.inl (by rw[HH.out];exact⟨by decide,rfl⟩),HB3.out.alloc HB3.out.size _⟩
 · have HH:Hid (hmN C loops=noN C loops):=(by unfold hmN;rw[if_pos hn]:hmN C loops=noN C loops)
   have HDB:=hidH (drawn_badH HFA.out a cap C loops V hn HCV.out)
   have HN:=hidH hn
   obtain⟨q,hq⟩:∃ q,noN C loops=q:=⟨_,rfl⟩
   rw[hq]at HH HDB HN
   have hq0:(q != 0)=true:=by rw[bne_iff_ne];exact HN.out
   have hq1:(q==0)=false:=by rw[beq_eq_false_iff_ne];exact HN.out
   clear hn hq
   go_enter Try.func4,Try.ntmps4
   go_upto_region 1 with(fail)
   rw[HV.out]
   go_wp2_with (go_at_call 12;refine HDB.out.mono ?_;rintro e9 w2 ⟨rfl,hb2⟩;refine Hid.out ?_)
   refine Lib.hid ?_
   unfold noDrawing
   have HB3:=hidH (HBV.out.trans (hb2.mono HBV.out.size))
   clear hb2 c0 c1
   go_wp2
   go_ret2
   exact⟨Or.inl (by rw[HH.out];exact⟨HN.out,rfl⟩),HB3.out.alloc HB3.out.size _⟩
end Go.Proofs.Ytefooihnoajnlaa.Poly
/- The walk of knotworkref.Put2: a term of two variables put into a list in form. -/
namespace Go.Proofs.Ytefooihnoajnlaa.Poly
open Go.RowKit Go.Maps
set_option maxHeartbeats 2000000
set_option maxRecDepth 100000
theorem twosAt_take {w:World} {b off:Nat} {l:List (Int×Int)} (h:TwosAt w b off l) (k:Nat):TwosAt w b off (l.take k):=by
 intro i hi
 have h1:i<l.length:=by simp at hi;omega
 have h2:i<k:=by simp at hi;omega
 have g:(l.take k).getD i (0,0)=l.getD i (0,0):=by simp[List.getD,h2]
 rw[g]
 exact h i h1
theorem twosAt_drop {w:World} {b off:Nat} {l:List (Int×Int)} (h:TwosAt w b off l) (k:Nat):TwosAt w b (off+k*3) (l.drop k):=by
 intro i hi
 have h1:k+i<l.length:=by simp at hi;omega
 have g:(l.drop k).getD i (0,0)=l.getD (k+i) (0,0):=by simp[List.getD,List.getElem?_drop]
 rw[g]
 have:=h (k+i) h1
 rw[show off+(k+i)*3=off+k*3+i*3 by omega]at this
 exact this
theorem flatU_at {w:World} {b off:Nat} {l:List (Int×Int)} (h:TwosAt w b off l):∀ j u,(flatU l)[j]?=some u->w.cell? ((⟨b,off,none⟩:Addr).add j)=some u:=by
 intro j u hj
 have hlt:j<(flatU l).length:=by
  rcases Nat.lt_or_ge j (flatU l).length with h|h
  · exact h
  · rw[List.getElem?_eq_none h]at hj;cases hj
 rw[flatU_length]at hlt
 have hi:j / 3<l.length:=by omega
 have g:=flatU_get l (j / 3) hi
 have c:=h (j / 3) hi
 rw[Addr.add_lit]
 have e:j%3=0∨j%3=1∨j%3=2:=by omega
 rcases e with e|e|e
 · have e2:j / 3*3=j:=by omega
   rw[e2]at g c
   rw[g.1]at hj
   rw[<-hj]
   exact c.1
 · have e2:j / 3*3+1=j:=by omega
   have e3:off+j / 3*3+1=off+j:=by omega
   rw[e2]at g
   rw[e3]at c
   rw[g.2.1]at hj
   rw[<-hj]
   exact c.2.1
 · have e2:j / 3*3+2=j:=by omega
   have e3:off+j / 3*3+2=off+j:=by omega
   rw[e2]at g
   rw[e3]at c
   rw[g.2.2]at hj
   rw[<-hj]
   exact c.2.2
theorem flatU_len_take (l:List (Int×Int)) (k:Nat) (h:k<=l.length):(flatU (l.take k)).length=k*3:=by rw[flatU_length,List.length_take,Nat.min_eq_left h]
theorem flatU_len_drop (l:List (Int×Int)) (k:Nat):(flatU (l.drop k)).length=(l.length-k)*3:=by rw[flatU_length,List.length_drop]
theorem own_lenU {w:World} {B:Nat} {v:Value} {n m:Nat} {xs:List Value} (h:w.ownsRow B 51 3 v n xs) (e:m=n):w.ownsRow B 51 3 v m xs:=by rw[e];exact h
theorem flatU_cell {e X Z:Int} (h:dx e=X/\dz e=Z) (c:Int):flatU [(e,c)]=[.int .i64 X,.int .i64 Z,.int .i64 c]:=by
 show [Value.int .i64 (dx e),.int .i64 (dz e),.int .i64 c]=_
 rw[h.1,h.2]
theorem put2_some (b off cap : Nat) (l : List (Int × Int)) (e X Z c : Int) (hX : dx e = X) (hZ : dz e = Z) (w : World) (hpos : 0 < l.length) (hl : l.length ≤ 1000000) (hcap : l.length ≤ cap) (hcap2 : cap ≤ maxLen) (hc0 : c ≠ 0) (hc1 : -1000000000000000 ≤ c) (hc2 : c ≤ 1000000000000000) (hbl : ∀ t ∈ l, -1000000000000000 ≤ t.2 ∧ t.2 ≤ 1000000000000000) (hbw : b < w.heap.size) (hT : TwosAt w b off l) :
    Calls Try.prog 19 #[.slice (some ⟨b,off,none⟩) l.length cap,.int .i64 X,.int .i64 Z,.int .i64 c] w fun r w'=>∃ v,r=.returned v/\w'.ownsRow w.heap.size 51 3 v (putL l e c).length (flatU (putL l e c))/\Below w.heap.size w w':=by
 obtain⟨i0,hi,hz0,hz1,hz2⟩:=info_parts infoTwo
 have hcb:(c==0)=false:=by simpa using hc0
 have HT:Hid (TwosAt w b off l):=hT
 have HX:Hid (dx e=X/\dz e=Z):=⟨hX,hZ⟩
 clear hX hZ
 have HBL:Hid _:=hbl
 have hak:=ahead_le l e
 have HLT:Hid (∀ i,i<ahead l e->(l.getD i (0,0)).1<e):=fun i hi=>ahead_lt l e i hi
 have HGE:Hid (ahead l e<l.length->e<=(l.getD (ahead l e) (0,0)).1):=fun h=>ahead_ge l e h
 have HPUT : Hid (putL l e c = if ahead l e < l.length ∧ (l.getD (ahead l e) (0, 0)).1 = e then
  (if(l.getD (ahead l e) (0,0)).2+c=0 then l.take (ahead l e)++l.drop (ahead l e+1) else l.take (ahead l e)++[(e,(l.getD (ahead l e) (0,0)).2+c)]++l.drop (ahead l e+1))
 else l.take (ahead l e)++[(e,c)]++l.drop (ahead l e)):=by show _=_;unfold putL;rw[if_neg hc0]
 generalize hK:ahead l e=K at hak HLT HGE HPUT
 clear hT hbl hK hc0
 unfold maxLen at hcap2
 go_enter Try.func19,Try.ntmps19
 go_wp2
 go_loopw [9] (fun i wr=>∃ k:Nat,k<=K/\i=.int .i64 k/\Below w.heap.size w wr) (fun i _=>K-(intOf i).toNat)
 case atStart=>exact⟨0,Nat.zero_le _,rfl,Below.refl _ _⟩
 case round=>
  obtain⟨k,hk,rfl,hb⟩:=hrel
  by_cases hlt:k<K
  · have hkl:k<l.length:=by omega
    obtain⟨c0,c1,-⟩:=HT.out.on hb hbw k hkl
    have hlt2:=HLT.out k hlt
    generalize (l.getD k (0,0)).1=ek at c0 c1 hlt2
    have he1:=dxz ek
    have he2:=dxz e
    rw[HX.out.1,HX.out.2]at he2
    generalize dx ek=x1 at c0 he1
    generalize dz ek=z1 at c1 he1
    have hcs:x1<X∨(x1=X/\z1<Z):=by omega
    clear he1 he2 hlt2
    rcases hcs with hcs|⟨hcs,hcz⟩
    · go_wp2
      go_roundw
      case rel=>exact⟨k+1,by omega,by go_num,hb⟩
      case measure=>simp[intOf];omega
    · have hnl:¬ x1<X:=by omega
      have heb:(x1==X)=true:=by simpa using hcs
      clear hcs
      go_wp2
      go_roundw
      case rel=>exact⟨k+1,by omega,by go_num,hb⟩
      case measure=>simp[intOf];omega
  · obtain rfl:k=K:=by omega
    have hsz:=hb.size
    have hTr:Hid (TwosAt wr b off l):=HT.out.on hb hbw
    by_cases hend:k<l.length
    · have hge:=HGE.out hend
      obtain⟨c0,c1,c2⟩:=hTr.out k hend
      generalize hek:(l.getD k (0,0)).1=ek at c0 c1 hge HPUT
      generalize hck:(l.getD k (0,0)).2=ck at c2 HPUT
      have he1:=dxz ek
      have he2:=dxz e
      rw[HX.out.1,HX.out.2]at he2
      obtain⟨x1,hx1⟩:∃ x1,dx ek=x1:=⟨_,rfl⟩
      obtain⟨z1,hz1⟩:∃ z1,dz ek=z1:=⟨_,rfl⟩
      rw[hx1]at c0 he1
      rw[hz1]at c1 he1
      have hcs:(ek≠e/\X<x1)∨(ek≠e/\x1=X/\Z<z1)∨(ek=e/\x1=X/\z1=Z):=by omega
      have HEK:=hidH hek
      have HCK:=hidH hck
      have HX1:Hid (dx ek=x1/\dz ek=z1):=⟨hx1,hz1⟩
      clear he1 he2 hge hek hck hx1 hz1
      rcases hcs with hcs|hcs|hcs
      · have HNE:=hidH hcs.1
        have hne:(x1==X)=false:=by rw[beq_eq_false_iff_ne];omega
        have hnl:¬ x1<X:=by omega
        clear hcs
        go_wp2_with (first
         |(at_builtin;refine wpList_append_own _ rfl _ _ 25 rfl w.heap.size 51 i0 (.agg #[.int .i64 0,.int .i64 0,.int .i64 0]) 3 24 Try.underlying25 hi hz0 hz1 hz2 rfl (by decide) _ 0 [] rfl (World.ownsRow_nil _ _ _ _) ⟨b,off,none⟩ k cap (flatU (l.take k)) rfl (flatU_len_take l k (by omega)) (flatU_at (twosAt_take hTr.out k)) (flatU_one _) (by unfold maxLen;omega) (by omega) hsz ?_;intro v1 w1 hown1 hg1 _;refine Hid.out ?_))
        refine Lib.hid ?_
        rw[Nat.zero_add,List.nil_append]at hown1
        have hnx1:Below w.heap.size w w1:=hb.grown hg1 hsz (fun q hq=>by cases hq)
        have hT1:Hid (TwosAt w1 b off l):=HT.out.on hnx1 hbw
        have q0:w1.cell? ⟨b,off+k*3,none⟩=some (.int .i64 x1):=by have:=(hT1.out k hend).1;rw[HEK.out,HX1.out.1]at this;exact this
        have q1:w1.cell? ⟨b,off+k*3+1,none⟩=some (.int .i64 z1):=by have:=(hT1.out k hend).2.1;rw[HEK.out,HX1.out.2]at this;exact this
        have q2:w1.cell? ⟨b,off+k*3+2,none⟩=some (.int .i64 ck):=by have:=(hT1.out k hend).2.2;rw[HCK.out]at this;exact this
        have hbk := HBL.out (l.getD k (0, 0)) (by have g : l.getD k (0, 0) = l[k] := by simp [List.getD, hend]
                                                  rw[g];exact List.getElem_mem hend)
        rw[HCK.out]at hbk
        have hs1:=hnx1.size
        clear hb hg1 c0 c1 c2 hTr hsz
        have HPUT2:Hid (putL l e c=l.take k++[(e,c)]++l.drop k):=by show _=_;rw[HPUT.out,if_neg (fun h=>HNE.out h.2)]
        go_wp2_with (first
         |(at_builtin;refine wpList_append_own _ rfl _ _ 25 rfl w.heap.size 51 i0 (.agg #[.int .i64 0,.int .i64 0,.int .i64 0]) 3 24 Try.underlying25 hi hz0 hz1 hz2 rfl (by decide) _ _ _ rfl (hown1.alloc _) ⟨w1.heap.size,0,none⟩ 1 1 [.int .i64 X,.int .i64 Z,.int .i64 c] rfl rfl (new_three _ _ _ _) (three_one _ _ _) (by unfold maxLen;omega) (by omega) (by simp;omega) ?_;intro v2 w2 hown2 hg2 _;refine Hid.out ?_))
        refine Lib.hid ?_
        have hnx2:Below w.heap.size w w2:=(hnx1.alloc hs1 _).grown hg2 (by simp;omega) (fun q hq=>(hown1.lt q hq).1)
        have hT2:Hid (TwosAt w2 b off l):=HT.out.on hnx2 hbw
        have hs2:=hnx2.size
        clear hown1 hg2 hT1 q0 q1 q2
        go_wp2_with (first
         |(at_builtin;refine wpList_append_own _ rfl _ _ 25 rfl w.heap.size 51 i0 (.agg #[.int .i64 0,.int .i64 0,.int .i64 0]) 3 24 Try.underlying25 hi hz0 hz1 hz2 rfl (by decide) _ _ _ rfl hown2 ⟨b,off+k*3,none⟩ (l.length - k) _ (flatU (l.drop k)) rfl (flatU_len_drop l k) (flatU_at (twosAt_drop hT2.out k)) (flatU_one _) (by unfold maxLen;omega) (by omega) (by omega) ?_;intro v3 w3 hown3 hg3 _))
        go_ret
        refine⟨v3,rfl,?_,hnx2.grown hg3 (by omega) (fun q hq=>(hown2.lt q hq).1)⟩
        rw[HPUT2.out,flatU_append,flatU_append,flatU_cell HX.out]
        exact own_lenU hown3 (by simp;omega)
      · have HNE:=hidH hcs.1
        have hne:(x1==X)=true:=by rw[beq_iff_eq];omega
        have hnl:¬ x1<X:=by omega
        have hnz:(z1==Z)=false:=by rw[beq_eq_false_iff_ne];omega
        have hnz2:¬ z1<Z:=by omega
        clear hcs
        go_wp2_with (first
         |(at_builtin;refine wpList_append_own _ rfl _ _ 25 rfl w.heap.size 51 i0 (.agg #[.int .i64 0,.int .i64 0,.int .i64 0]) 3 24 Try.underlying25 hi hz0 hz1 hz2 rfl (by decide) _ 0 [] rfl (World.ownsRow_nil _ _ _ _) ⟨b,off,none⟩ k cap (flatU (l.take k)) rfl (flatU_len_take l k (by omega)) (flatU_at (twosAt_take hTr.out k)) (flatU_one _) (by unfold maxLen;omega) (by omega) hsz ?_;intro v1 w1 hown1 hg1 _;refine Hid.out ?_))
        refine Lib.hid ?_
        rw[Nat.zero_add,List.nil_append]at hown1
        have hnx1:Below w.heap.size w w1:=hb.grown hg1 hsz (fun q hq=>by cases hq)
        have hT1:Hid (TwosAt w1 b off l):=HT.out.on hnx1 hbw
        have q0:w1.cell? ⟨b,off+k*3,none⟩=some (.int .i64 x1):=by have:=(hT1.out k hend).1;rw[HEK.out,HX1.out.1]at this;exact this
        have q1:w1.cell? ⟨b,off+k*3+1,none⟩=some (.int .i64 z1):=by have:=(hT1.out k hend).2.1;rw[HEK.out,HX1.out.2]at this;exact this
        have q2:w1.cell? ⟨b,off+k*3+2,none⟩=some (.int .i64 ck):=by have:=(hT1.out k hend).2.2;rw[HCK.out]at this;exact this
        have hbk := HBL.out (l.getD k (0, 0)) (by have g : l.getD k (0, 0) = l[k] := by simp [List.getD, hend]
                                                  rw[g];exact List.getElem_mem hend)
        rw[HCK.out]at hbk
        have hs1:=hnx1.size
        clear hb hg1 c0 c1 c2 hTr hsz
        have HPUT2:Hid (putL l e c=l.take k++[(e,c)]++l.drop k):=by show _=_;rw[HPUT.out,if_neg (fun h=>HNE.out h.2)]
        go_wp2_with (first
         |(at_builtin;refine wpList_append_own _ rfl _ _ 25 rfl w.heap.size 51 i0 (.agg #[.int .i64 0,.int .i64 0,.int .i64 0]) 3 24 Try.underlying25 hi hz0 hz1 hz2 rfl (by decide) _ _ _ rfl (hown1.alloc _) ⟨w1.heap.size,0,none⟩ 1 1 [.int .i64 X,.int .i64 Z,.int .i64 c] rfl rfl (new_three _ _ _ _) (three_one _ _ _) (by unfold maxLen;omega) (by omega) (by simp;omega) ?_;intro v2 w2 hown2 hg2 _;refine Hid.out ?_))
        refine Lib.hid ?_
        have hnx2:Below w.heap.size w w2:=(hnx1.alloc hs1 _).grown hg2 (by simp;omega) (fun q hq=>(hown1.lt q hq).1)
        have hT2:Hid (TwosAt w2 b off l):=HT.out.on hnx2 hbw
        have hs2:=hnx2.size
        clear hown1 hg2 hT1 q0 q1 q2
        go_wp2_with (first
         |(at_builtin;refine wpList_append_own _ rfl _ _ 25 rfl w.heap.size 51 i0 (.agg #[.int .i64 0,.int .i64 0,.int .i64 0]) 3 24 Try.underlying25 hi hz0 hz1 hz2 rfl (by decide) _ _ _ rfl hown2 ⟨b,off+k*3,none⟩ (l.length - k) _ (flatU (l.drop k)) rfl (flatU_len_drop l k) (flatU_at (twosAt_drop hT2.out k)) (flatU_one _) (by unfold maxLen;omega) (by omega) (by omega) ?_;intro v3 w3 hown3 hg3 _))
        go_ret
        refine⟨v3,rfl,?_,hnx2.grown hg3 (by omega) (fun q hq=>(hown2.lt q hq).1)⟩
        rw[HPUT2.out,flatU_append,flatU_append,flatU_cell HX.out]
        exact own_lenU hown3 (by simp;omega)
      · have HEQ:=hidH hcs.1
        have hne:(x1==X)=true:=by rw[beq_iff_eq];omega
        have hnl:¬ x1<X:=by omega
        have hnz:(z1==Z)=true:=by rw[beq_iff_eq];omega
        have hnz2:¬ z1<Z:=by omega
        clear hcs
        go_wp2_with (first
         |(at_builtin;refine wpList_append_own _ rfl _ _ 25 rfl w.heap.size 51 i0 (.agg #[.int .i64 0,.int .i64 0,.int .i64 0]) 3 24 Try.underlying25 hi hz0 hz1 hz2 rfl (by decide) _ 0 [] rfl (World.ownsRow_nil _ _ _ _) ⟨b,off,none⟩ k cap (flatU (l.take k)) rfl (flatU_len_take l k (by omega)) (flatU_at (twosAt_take hTr.out k)) (flatU_one _) (by unfold maxLen;omega) (by omega) hsz ?_;intro v1 w1 hown1 hg1 _;refine Hid.out ?_))
        refine Lib.hid ?_
        rw[Nat.zero_add,List.nil_append]at hown1
        have hnx1:Below w.heap.size w w1:=hb.grown hg1 hsz (fun q hq=>by cases hq)
        have hT1:Hid (TwosAt w1 b off l):=HT.out.on hnx1 hbw
        have q0:w1.cell? ⟨b,off+k*3,none⟩=some (.int .i64 x1):=by have:=(hT1.out k hend).1;rw[HEK.out,HX1.out.1]at this;exact this
        have q1:w1.cell? ⟨b,off+k*3+1,none⟩=some (.int .i64 z1):=by have:=(hT1.out k hend).2.1;rw[HEK.out,HX1.out.2]at this;exact this
        have q2:w1.cell? ⟨b,off+k*3+2,none⟩=some (.int .i64 ck):=by have:=(hT1.out k hend).2.2;rw[HCK.out]at this;exact this
        have hbk := HBL.out (l.getD k (0, 0)) (by have g : l.getD k (0, 0) = l[k] := by simp [List.getD, hend]
                                                  rw[g];exact List.getElem_mem hend)
        rw[HCK.out]at hbk
        have hs1:=hnx1.size
        clear hb hg1 c0 c1 c2 hTr hsz
        have hw1:w1.heap.size≥w.heap.size:=hs1
        by_cases hz:ck+c=0
        · have hzb:(ck+c != 0)=false:=by simp[hz]
          have HPUT2:Hid (putL l e c=l.take k++l.drop (k+1)):=by show _=_;rw[HPUT.out,if_pos ⟨hend,HEQ.out⟩,if_pos hz]
          clear hz
          by_cases hkc:cap=k+1
          · have hlk:l.length-(k+1)=0:=by omega
            have hdr:l.drop (k+1)=[]:=List.drop_eq_nil_of_le (by omega)
            go_wp2_with (first
             |(at_builtin;refine wpList_append_own _ rfl _ _ 25 rfl w.heap.size 51 i0 (.agg #[.int .i64 0,.int .i64 0,.int .i64 0]) 3 24 Try.underlying25 hi hz0 hz1 hz2 rfl (by decide) _ _ _ rfl hown1 ⟨b,off,none⟩ 0 _ [] rfl rfl (fun j u h=>by simp at h) (fun u h=>by simp at h) (by unfold maxLen;omega) (by omega) (by omega) ?_;intro v3 w3 hown3 hg3 _))
            go_ret
            refine⟨v3,rfl,?_,hnx1.grown hg3 (by omega) (fun q hq=>(hown1.lt q hq).1)⟩
            rw[HPUT2.out,hdr,flatU_append]
            exact own_lenU hown3 (by simp;omega)
          · go_wp2_with (first
              |(at_builtin;refine wpList_append_own _ rfl _ _ 25 rfl w.heap.size 51 i0 (.agg #[.int .i64 0,.int .i64 0,.int .i64 0]) 3 24 Try.underlying25 hi hz0 hz1 hz2 rfl (by decide) _ _ _ rfl hown1 ⟨b,off+(k+1)*3,none⟩ (l.length - (k+1)) _ (flatU (l.drop (k+1))) rfl (flatU_len_drop l (k+1)) (flatU_at (twosAt_drop hT1.out (k+1))) (flatU_one _) (by unfold maxLen;omega) (by omega) (by omega) ?_;intro v3 w3 hown3 hg3 _))
            go_ret
            refine⟨v3,rfl,?_,hnx1.grown hg3 (by omega) (fun q hq=>(hown1.lt q hq).1)⟩
            rw[HPUT2.out,flatU_append]
            exact own_lenU hown3 (by simp;omega)
        · have hzb:(ck+c != 0)=true:=by simpa using hz
          have HPUT2:Hid (putL l e c=l.take k++[(e,ck+c)]++l.drop (k+1)):=by show _=_;rw[HPUT.out,if_pos ⟨hend,HEQ.out⟩,if_neg hz]
          clear hz
          go_wp2_with (first
           |(at_builtin;refine wpList_append_own _ rfl _ _ 25 rfl w.heap.size 51 i0 (.agg #[.int .i64 0,.int .i64 0,.int .i64 0]) 3 24 Try.underlying25 hi hz0 hz1 hz2 rfl (by decide) _ _ _ rfl (hown1.alloc _) ⟨w1.heap.size,0,none⟩ 1 1 [.int .i64 X,.int .i64 Z,.int .i64 (ck+c)] rfl rfl (new_three _ _ _ _) (three_one _ _ _) (by unfold maxLen;omega) (by omega) (by simp;omega) ?_;intro v2 w2 hown2 hg2 _;refine Hid.out ?_))
          refine Lib.hid ?_
          have hnx2:Below w.heap.size w w2:=(hnx1.alloc hs1 _).grown hg2 (by simp;omega) (fun q hq=>(hown1.lt q hq).1)
          have hT2:Hid (TwosAt w2 b off l):=HT.out.on hnx2 hbw
          have hs2:=hnx2.size
          clear hown1 hg2 hT1 q0 q1 q2
          by_cases hkc:cap=k+1
          · have hlk:l.length-(k+1)=0:=by omega
            have hdr:l.drop (k+1)=[]:=List.drop_eq_nil_of_le (by omega)
            go_wp2_with (first
             |(at_builtin;refine wpList_append_own _ rfl _ _ 25 rfl w.heap.size 51 i0 (.agg #[.int .i64 0,.int .i64 0,.int .i64 0]) 3 24 Try.underlying25 hi hz0 hz1 hz2 rfl (by decide) _ _ _ rfl hown2 ⟨b,off,none⟩ 0 _ [] rfl rfl (fun j u h=>by simp at h) (fun u h=>by simp at h) (by unfold maxLen;omega) (by omega) (by omega) ?_;intro v3 w3 hown3 hg3 _))
            go_ret
            refine⟨v3,rfl,?_,hnx2.grown hg3 (by omega) (fun q hq=>(hown2.lt q hq).1)⟩
            rw[HPUT2.out,hdr,flatU_append,flatU_append,flatU_cell HX.out]
            exact own_lenU hown3 (by simp;omega)
          · go_wp2_with (first
              |(at_builtin;refine wpList_append_own _ rfl _ _ 25 rfl w.heap.size 51 i0 (.agg #[.int .i64 0,.int .i64 0,.int .i64 0]) 3 24 Try.underlying25 hi hz0 hz1 hz2 rfl (by decide) _ _ _ rfl hown2 ⟨b,off+(k+1)*3,none⟩ (l.length - (k+1)) _ (flatU (l.drop (k+1))) rfl (flatU_len_drop l (k+1)) (flatU_at (twosAt_drop hT2.out (k+1))) (flatU_one _) (by unfold maxLen;omega) (by omega) (by omega) ?_;intro v3 w3 hown3 hg3 _))
            go_ret
            refine⟨v3,rfl,?_,hnx2.grown hg3 (by omega) (fun q hq=>(hown2.lt q hq).1)⟩
            rw[HPUT2.out,flatU_append,flatU_append,flatU_cell HX.out]
            exact own_lenU hown3 (by simp;omega)
    · have hkl:k=l.length:=by omega
      have HPUT2:Hid (putL l e c=l++[(e,c)]):=by
       show _=_
       rw[HPUT.out,if_neg (fun h=>hend h.1),hkl,List.take_of_length_le (Nat.le_refl _),List.drop_eq_nil_of_le (Nat.le_refl _),List.append_nil]
      have htk:l.take k=l:=List.take_of_length_le (by omega)
      have hlk:l.length-k=0:=by omega
      have HKL:Hid (k=l.length):=hkl
      clear hkl
      go_wp2_with (first
       |(at_builtin;refine wpList_append_own _ rfl _ _ 25 rfl w.heap.size 51 i0 (.agg #[.int .i64 0,.int .i64 0,.int .i64 0]) 3 24 Try.underlying25 hi hz0 hz1 hz2 rfl (by decide) _ 0 [] rfl (World.ownsRow_nil _ _ _ _) ⟨b,off,none⟩ k cap (flatU (l.take k)) rfl (flatU_len_take l k (by omega)) (flatU_at (twosAt_take hTr.out k)) (flatU_one _) (by unfold maxLen;omega) (by omega) hsz ?_;intro v1 w1 hown1 hg1 _;refine Hid.out ?_))
      refine Lib.hid ?_
      rw[Nat.zero_add,List.nil_append]at hown1
      have hnx1:Below w.heap.size w w1:=hb.grown hg1 hsz (fun q hq=>by cases hq)
      have hs1:=hnx1.size
      clear hb hg1 hTr hsz
      go_wp2_with (first
       |(at_builtin;refine wpList_append_own _ rfl _ _ 25 rfl w.heap.size 51 i0 (.agg #[.int .i64 0,.int .i64 0,.int .i64 0]) 3 24 Try.underlying25 hi hz0 hz1 hz2 rfl (by decide) _ _ _ rfl (hown1.alloc _) ⟨w1.heap.size,0,none⟩ 1 1 [.int .i64 X,.int .i64 Z,.int .i64 c] rfl rfl (new_three _ _ _ _) (three_one _ _ _) (by unfold maxLen;omega) (by omega) (by simp;omega) ?_;intro v2 w2 hown2 hg2 _;refine Hid.out ?_))
      refine Lib.hid ?_
      have hnx2:Below w.heap.size w w2:=(hnx1.alloc hs1 _).grown hg2 (by simp;omega) (fun q hq=>(hown1.lt q hq).1)
      have hs2:=hnx2.size
      clear hown1 hg2
      rw[htk]at hown2
      by_cases hkc:cap=k
      · go_wp2_with (first
          |(at_builtin;refine wpList_append_own _ rfl _ _ 25 rfl w.heap.size 51 i0 (.agg #[.int .i64 0,.int .i64 0,.int .i64 0]) 3 24 Try.underlying25 hi hz0 hz1 hz2 rfl (by decide) _ _ _ rfl hown2 ⟨b,off,none⟩ 0 _ [] rfl rfl (fun j u h=>by simp at h) (fun u h=>by simp at h) (by unfold maxLen;omega) (by omega) (by omega) ?_;intro v3 w3 hown3 hg3 _))
        go_ret
        refine⟨v3,rfl,?_,hnx2.grown hg3 (by omega) (fun q hq=>(hown2.lt q hq).1)⟩
        rw[HPUT2.out,flatU_append,flatU_cell HX.out]
        rw[List.append_nil]at hown3
        exact own_lenU hown3 (by simp;have:=HKL.out;omega)
      · go_wp2_with (first
          |(at_builtin;refine wpList_append_own _ rfl _ _ 25 rfl w.heap.size 51 i0 (.agg #[.int .i64 0,.int .i64 0,.int .i64 0]) 3 24 Try.underlying25 hi hz0 hz1 hz2 rfl (by decide) _ _ _ rfl hown2 ⟨b,off+k*3,none⟩ 0 _ [] rfl rfl (fun j u h=>by simp at h) (fun u h=>by simp at h) (by unfold maxLen;omega) (by omega) (by omega) ?_;intro v3 w3 hown3 hg3 _))
        go_ret
        refine⟨v3,rfl,?_,hnx2.grown hg3 (by omega) (fun q hq=>(hown2.lt q hq).1)⟩
        rw[HPUT2.out,flatU_append,flatU_cell HX.out]
        rw[List.append_nil]at hown3
        exact own_lenU hown3 (by simp;have:=HKL.out;omega)
theorem put2_zero (v : Value) (X Z : Int) (w : World) :
    Calls Try.prog 19 #[v,.int .i64 X,.int .i64 Z,.int .i64 0] w fun r w'=>r=.returned v/\w'=w:=by
 go_enter Try.func19,Try.ntmps19
 go_wp2
 go_ret
 exact⟨rfl,rfl⟩
theorem put2_nil (e X Z c : Int) (hX : dx e = X) (hZ : dz e = Z) (w : World) (hc0 : c ≠ 0) :
    Calls Try.prog 19 #[.slice none 0 0,.int .i64 X,.int .i64 Z,.int .i64 c] w fun r w'=>∃ v,r=.returned v/\w'.ownsRow w.heap.size 51 3 v 1 (flatU [(e,c)])/\Below w.heap.size w w':=by
 obtain⟨i0,hi,hz0,hz1,hz2⟩:=info_parts infoTwo
 have hcb:(c==0)=false:=by simpa using hc0
 clear hc0
 go_enter Try.func19,Try.ntmps19
 go_wp2
 go_loopw [9] (fun i wr=>i=.int .i64 0/\wr=w) (fun _ _=>0)
 case atStart=>exact⟨rfl,rfl⟩
 case round=>
  obtain⟨rfl,rfl⟩:=hrel
  go_wp2_with (at_builtin;refine wpList_append_own_none rfl _ _ 25 rfl wr.heap.size 51 i0 3 Try.underlying25 hi _ 0 [] rfl (World.ownsRow_nil _ _ _ _) rfl ?_;refine Hid.out ?_)
  refine Lib.hid ?_
  go_wp2_with (at_builtin;refine wpList_append_own _ rfl _ _ 25 rfl wr.heap.size 51 i0 (.agg #[.int .i64 0,.int .i64 0,.int .i64 0]) 3 24 Try.underlying25 hi hz0 hz1 hz2 rfl (by decide) _ 0 [] rfl (World.ownsRow_nil _ _ _ _) ⟨wr.heap.size,0,none⟩ 1 1 [.int .i64 X,.int .i64 Z,.int .i64 c] rfl rfl (new_three _ _ _ _) (three_one _ _ _) (by unfold maxLen;omega) (by omega) (by simp) ?_;intro v2 w2 hown2 hg2 _;refine Hid.out ?_)
  refine Lib.hid ?_
  have hnx2:Below wr.heap.size wr w2:=((Below.refl _ _).alloc (Nat.le_refl _) _).grown hg2 (by simp) (fun q hq=>by cases hq)
  go_wp2_with (at_builtin;refine wpList_append_own_none rfl _ _ 25 rfl wr.heap.size 51 i0 3 Try.underlying25 hi _ _ _ rfl hown2 rfl ?_)
  go_ret
  exact⟨v2,rfl,by rw[flatU_cell ⟨hX,hZ⟩];exact hown2,hnx2⟩
theorem put2_empty (a : Addr) (cap : Nat) (e X Z c : Int) (hX : dx e = X) (hZ : dz e = Z) (w : World) (hc0 : c ≠ 0) :
    Calls Try.prog 19 #[.slice (some a) 0 cap,.int .i64 X,.int .i64 Z,.int .i64 c] w fun r w'=>∃ v,r=.returned v/\w'.ownsRow w.heap.size 51 3 v 1 (flatU [(e,c)])/\Below w.heap.size w w':=by
 obtain⟨i0,hi,hz0,hz1,hz2⟩:=info_parts infoTwo
 have hcb:(c==0)=false:=by simpa using hc0
 clear hc0
 go_enter Try.func19,Try.ntmps19
 go_wp2
 go_loopw [9] (fun i wr=>i=.int .i64 0/\wr=w) (fun _ _=>0)
 case atStart=>exact⟨rfl,rfl⟩
 case round=>
  obtain⟨rfl,rfl⟩:=hrel
  go_wp2_with (at_builtin;refine wpList_append_own _ rfl _ _ 25 rfl wr.heap.size 51 i0 (.agg #[.int .i64 0,.int .i64 0,.int .i64 0]) 3 24 Try.underlying25 hi hz0 hz1 hz2 rfl (by decide) _ 0 [] rfl (World.ownsRow_nil _ _ _ _) _ 0 _ [] rfl rfl (fun j u h=>by simp at h) (fun u h=>by simp at h) (by decide) (by decide) (Nat.le_refl _) ?_;intro v1 w1 hown1 hg1 _;refine Hid.out ?_)
  refine Lib.hid ?_
  have hnx1:Below wr.heap.size wr w1:=(Below.refl _ _).grown hg1 (Nat.le_refl _) (fun q hq=>by cases hq)
  have hs1:=hnx1.size
  go_wp2_with (at_builtin;refine wpList_append_own _ rfl _ _ 25 rfl wr.heap.size 51 i0 (.agg #[.int .i64 0,.int .i64 0,.int .i64 0]) 3 24 Try.underlying25 hi hz0 hz1 hz2 rfl (by decide) _ _ _ rfl (hown1.alloc _) ⟨w1.heap.size,0,none⟩ 1 1 [.int .i64 X,.int .i64 Z,.int .i64 c] rfl rfl (new_three _ _ _ _) (three_one _ _ _) (by unfold maxLen;omega) (by omega) (by simp;omega) ?_;intro v2 w2 hown2 hg2 _;refine Hid.out ?_)
  refine Lib.hid ?_
  have hnx2:Below wr.heap.size wr w2:=(hnx1.alloc hs1 _).grown hg2 (by simp;omega) (fun q hq=>(hown1.lt q hq).1)
  have hs2:=hnx2.size
  by_cases hk:cap=0
  · go_wp2_with (at_builtin;refine wpList_append_own _ rfl _ _ 25 rfl wr.heap.size 51 i0 (.agg #[.int .i64 0,.int .i64 0,.int .i64 0]) 3 24 Try.underlying25 hi hz0 hz1 hz2 rfl (by decide) _ _ _ rfl hown2 _ 0 _ [] rfl rfl (fun j u h=>by simp at h) (fun u h=>by simp at h) (by unfold maxLen;omega) (by omega) hs2 ?_;intro v3 w3 hown3 hg3 _)
    go_ret
    exact⟨v3,rfl,by rw[flatU_cell ⟨hX,hZ⟩];simpa using hown3,hnx2.grown hg3 hs2 (fun q hq=>(hown2.lt q hq).1)⟩
  · go_wp2_with (at_builtin;refine wpList_append_own _ rfl _ _ 25 rfl wr.heap.size 51 i0 (.agg #[.int .i64 0,.int .i64 0,.int .i64 0]) 3 24 Try.underlying25 hi hz0 hz1 hz2 rfl (by decide) _ _ _ rfl hown2 _ 0 _ [] rfl rfl (fun j u h=>by simp at h) (fun u h=>by simp at h) (by unfold maxLen;omega) (by omega) hs2 ?_;intro v3 w3 hown3 hg3 _)
    go_ret
    exact⟨v3,rfl,by rw[flatU_cell ⟨hX,hZ⟩];simpa using hown3,hnx2.grown hg3 hs2 (fun q hq=>(hown2.lt q hq).1)⟩
theorem put_two (v : Value) (l : List (Int × Int)) (e X Z c : Int) (hX : dx e = X) (hZ : dz e = Z) (w : World) (hl : l.length ≤ 1000000) (hc1 : -1000000000000000 ≤ c) (hc2 : c ≤ 1000000000000000) (hbl : ∀ t ∈ l, -1000000000000000 ≤ t.2 ∧ t.2 ≤ 1000000000000000) (hP : PolyU w w.heap.size v l) :
    Calls Try.prog 19 #[v,.int .i64 X,.int .i64 Z,.int .i64 c] w fun r w'=>∃ v',r=.returned v'/\PolyU w' w'.heap.size v' (putL l e c)/\Below w.heap.size w w':=by
 by_cases hc0:c=0
 · subst hc0
   refine(put2_zero v X Z w).mono ?_
   rintro r w' ⟨rfl,rfl⟩
   exact⟨v,rfl,by rw[show putL l e 0=l from if_pos rfl];exact hP,Below.refl _ _⟩
 · rcases hP with⟨rfl,rfl⟩|⟨b,off,cap,rfl,hnc,hcm,hlt,hT⟩
   · have hp:putL [] e c=[(e,c)]:=by unfold putL;rw[if_neg hc0];rfl
     refine(put2_nil e X Z c hX hZ w hc0).mono ?_
     rintro r w' ⟨v,rfl,hrow,hb⟩
     exact⟨v,rfl,by rw[hp];exact PolyU.ofRow hrow,hb⟩
   · rcases Nat.eq_zero_or_pos l.length with h0|h0
     · have e0:l=[]:=List.length_eq_zero_iff.1 h0
       subst e0
       have hp:putL [] e c=[(e,c)]:=by unfold putL;rw[if_neg hc0];rfl
       refine(put2_empty ⟨b,off,none⟩ cap e X Z c hX hZ w hc0).mono ?_
       rintro r w' ⟨v,rfl,hrow,hb⟩
       exact⟨v,rfl,by rw[hp];exact PolyU.ofRow hrow,hb⟩
     · refine(put2_some b off cap l e X Z c hX hZ w h0 hl hnc hcm hc0 hc1 hc2 hbl hlt hT).mono ?_
       rintro r w' ⟨v,rfl,hrow,hb⟩
       exact⟨v,rfl,PolyU.ofRow hrow,hb⟩
end Go.Proofs.Ytefooihnoajnlaa.Poly

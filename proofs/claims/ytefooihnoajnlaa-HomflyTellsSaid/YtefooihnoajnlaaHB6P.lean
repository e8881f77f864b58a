/- Several texts of the proof, one behind the other. -/
import Derived.Test.YtefooihnoajnlaaHB3P
/- The walk of descents.met, where the crossing is met below first: given what the smoothed one's walk does. -/
namespace Go.Proofs.Ytefooihnoajnlaa.Poly
open Go.RowKit Go.Maps
set_option maxHeartbeats 16000000
set_option maxRecDepth 100000
def pwm (m:Nat):Nat:=2 ^ (m+40)
theorem pwm_next (m:Nat):pwm (m+1)=2*pwm m:=by
 unfold pwm
 rw[show m+1+40=(m+40)+1 by omega,Nat.pow_succ]
 omega
theorem pwm_ge (m r:Nat) (hr:r<=40):2 ^ r<=pwm m:=Nat.pow_le_pow_right (by decide) (by omega)
theorem setRow_grownH (W:World) (g:Nat) (cs:Array Value):W.grownBy (W.setRow g cs) (some g):=
 ⟨rfl, rfl, rfl, by simp [World.setRow], fun i _ hi => by
  simp only[World.setRow,Array.getElem?_modify]
  rw[if_neg (fun q=>hi (by rw[q]))]⟩
theorem ex_rowH {P : Program} {ev : Operand → Value} {o : Oper} {w : World} (ty : TypeId) (x : Operand) (ho : o.op = .load ty x) (g : Nat) (hx : ev x = .pointer (some ⟨g, 0, none⟩)) (t : TypeId) (cs : Array Value) (fr : Nat × Nat) (d : TypeDesc) (hg : w.heap[g]? = some (.cells cs t fr))
    (hu:P.underlying ty=some d) (hd:(match d with|.struct _|.array _ _=>true|_=>false)=true) (hi:(P.info? ty).map (·.size)=some cs.size):(execOp ev o).run P w=.ok (.value (.agg cs)) w:=by
 unfold execOp
 simp only[ho,hx,Instr.loadAt,Instr.sureAddr,Sem.run_bind,Sem.run_pure,Result.andThen_ok,run_loadVar_row w g t ty cs fr d hg hu hd hi]
structure WkIn (C:List Cr) (m n B:Nat) (s:Dst) (X Z c:Int):Prop where
 a1:1<=s.arc
 fr:s.arc<=2*C.length->s.w s.arc=false
 un:unw (2*C.length) s.w<=m
 r:s.r+m<=40
 x:X.natAbs+2*m<=40
 z:Z.natAbs+m<=40
 c:c=1∨c = -1
 n:n+pwm m<=1000000000000000000
 B:B+pwm m<=1000000000000000000
structure Apart (a:Option Addr) (n gF gT b:Nat):Prop where
 f:gF≠b
 t:gT≠b
 a:0<n->∀ ad,a=some ad->ad.block≠b
theorem crs_keepH {w w':World} {a:Option Addr} {cap:Nat} {row:Option Nat} {C:List Cr} (h:Crs w w.heap.size (.slice a C.length cap) C) (hg:w.grownBy w' row) (hne:0<C.length->∀ ad,a=some ad->row≠some ad.block):Crs w' w'.heap.size (.slice a C.length cap) C:=by
 obtain⟨a',cap',e,hn,k⟩:=h
 injection e with e1 e2 e3
 subst e1 e3
 refine⟨a,cap,rfl,hn,fun h0=>?_⟩
 obtain⟨b,off,h1,h2,h3⟩:=k h0
 have hf:=hne h0 _ h1
 refine⟨b,off,h1,Nat.lt_of_lt_of_le h2 hg.size,fun i hi=>?_⟩
 have hbk:=hg.block b h2 (fun e=>hf e.symm)
 have hc:∀ j u,w.cell? ⟨b,j,none⟩=some u->w'.cell? ⟨b,j,none⟩=some u:=fun j u hu=>by
  simp only[World.cell?]at hu ⊢
  rw[hbk]
  exact hu
 obtain⟨q0,q1,q2,q3,q4⟩:=h3 i hi
 exact⟨hc _ _ q0,hc _ _ q1,hc _ _ q2,hc _ _ q3,hc _ _ q4⟩
theorem dr_grown {w w':World} {a:Option Addr} {cap:Nat} {C:List Cr} {gF gT b:Nat} (h:Dr w a cap C gF gT) (hp:Apart a C.length gF gT b) (hg:w.grownBy w' (some b)):Dr w' a cap C gF gT:=by
 have hc:∀ g,g<w.heap.size->g≠b->∀ j u,w.cell? ⟨g,j,none⟩=some u->w'.cell? ⟨g,j,none⟩=some u:=fun g hl hne j u hu=>by
  simp only[World.cell?]at hu ⊢
  rw[hg.block g hl (fun q=>hne (Option.some.inj q))]
  exact hu
 exact⟨crs_keepH h.crs hg (fun h0 ad e=>fun q=>hp.a h0 ad e (Option.some.inj q).symm),Nat.lt_of_lt_of_le h.ltF hg.size,Nat.lt_of_lt_of_le h.ltT hg.size,fun i hi=>⟨hc _ h.ltF hp.f _ _ (h.from_ i hi).1,hc _ h.ltF hp.f _ _ (h.from_ i hi).2⟩,fun i hi=>⟨hc _ h.ltT hp.t _ _ (h.to i hi).1,hc _ h.ltT hp.t _ _ (h.to i hi).2⟩⟩
def WalkOk (a:Option Addr) (cap:Nat) (C:List Cr) (loops:Int) (gF cF gT cT b m:Nat):Prop:=∀ (s:Dst) (X Z c:Int) (n B:Nat) (f:Int->Int) (D:DataW Unit) (w:World),WkIn C m n B s X Z c->Dr w a cap C gF gT->PrD w b n B 100 f D->
 Calls Try.prog 24 #[dcV a cap C loops gF cF gT cT b,.agg (dsA s X Z c)] w fun e w'=>e=.returned (.tuple #[])/\∃ D',PrD w' b (n+pwm m) (B+pwm m) 100 (fun e=>f e+c*wk (sysC C) m s (e-(1000*X+Z))) D'/\w.grownBy w' (some b)
theorem onw_okH {C:List Cr} {loops:Int} (hm:mayD C loops=true) (w:Nat->Bool) (ways:Nat->Nat) (a r:Nat) (h1:1<=a) (h2:a<=2*C.length):1<=(onw (sysC C) w ways a r).arc/\((onw (sysC C) w ways a r).arc<=2*C.length->w (onw (sysC C) w ways a r).arc=false)/\(onw (sysC C) w ways a r).w=w/\(onw (sysC C) w ways a r).r<=r+1:=by
 have hc:=(gd_sys hm).cl ways a h1 h2
 obtain⟨l1,l2,l3,l4⟩:=lowU_is (N:=2*C.length) (w:=w)
 unfold onw
 split
 · exact⟨l1,l4,rfl,Nat.le_refl _⟩
 · rename_i h
   exact⟨hc.1,fun _=>by simpa using h,rfl,Nat.le_succ _⟩
theorem met_below (a : Option Addr) (cap : Nat) (C : List Cr) (loops : Int) (gF cF gT cT b m : Nat) (IH : WalkOk a cap C loops gF cF gT cT b m) (s : Dst) (X Z c : Int) (k n B : Nat) (f : Int → Int) (D : DataW Unit) (p : Bool) (w : World) (hm : mayD C loops = true) (hn8 : C.length ≤ 8) (hk : toC C s.arc = k) (h1 : 1 ≤ s.arc) (h2 : s.arc ≤ 2 * C.length) (hab : toS C s.arc = 0) (hpl : (C.getD k Cr.none).plus = p) (hap : Apart a C.length gF gT b)
    (hun:unw (2*C.length) s.w<=m) (hr:s.r+1+m<=40) (hX:X.natAbs+2+2*m<=40) (hZ:Z.natAbs+1+m<=40) (hc:c=1∨c = -1) (hn:n+pwm m<=1000000000000000000) (hB:B+pwm m<=1000000000000000000) (hD:Dr w a cap C gF gT) (hP:PrD w b n B 100 f D):
    Calls Try.prog 41 #[dcV a cap C loops gF cF gT cT b,.agg (dsA s X Z c),.int .i64 (k:Nat)] w fun e w'=>e=.returned (.agg (dsA ⟨s.arc,s.w,upd s.ways k 1,s.r⟩ (X+chX p) Z c))/\
     ∃ D',PrD w' b (n+pwm m) (B+pwm m) 100 (fun e=>f e+c*smC p*wk (sysC C) m (onw (sysC C) s.w (upd s.ways k 2) s.arc s.r) (e-(1000*(X+smX p)+(Z+1)))) D'/\w.grownBy w' (some b):=by
 have HD:=hidH hD
 have HM:=hidH hm
 have HP:=hidH hP
 have HIH:=hidH IH
 have HAP:=hidH hap
 have hlb:=hP.lt
 have hkl:k<C.length:=by rw[<-hk];exact(to_may hm s.arc h1 h2).2.1
 have hk8:k<8:=by omega
 have hk0:(0:Int)<=(k:Int):=by omega
 have hk9:(k:Int)<8:=by omega
 obtain⟨bX,off,rfl,hbx,hCX⟩:=hD.cross (by omega)
 have HCX:=hidH hCX
 obtain⟨V,hV⟩:∃ V,((w.alloc (.cells #[.slice (some ⟨bX,off,none⟩) C.length cap,.int .i64 loops,.slice (some ⟨gF,0,none⟩) (2*C.length+1) cF,.slice (some ⟨gT,0,none⟩) (2*C.length+1) cT,.map (some b)] 67)).alloc (.cells (dsA s X Z c) 72)).alloc (.cells #[.int .i64 0,.int .i64 0,.int .i64 0,.int .i64 0,.int .i64 0,.int .i64 0,.int .i64 0,.int .i64 0,.int .i64 0,.bool false,.bool false,.bool false,.bool false,.bool false,.bool false,.bool false,.bool false,.bool false,.bool false,.bool false,.bool false,.bool false,.bool false,.bool false,.bool false,.bool false,.int .i64 0,.int .i64 0,.int .i64 0,.int .i64 0] 72)=V:=⟨_,rfl⟩
 have HV:=hidH hV
 have hBV:Below w.heap.size w V:=by rw[<-hV];exact below3 _ _ _ _
 have HON:Hid (OnAt w V (some ⟨bX,off,none⟩) cap C loops gF cF gT cT b s X Z c):=⟨by rw[<-hV];exact alloc_old (alloc_at (by simp)),by rw[<-hV];exact alloc_old (alloc_old (alloc_at rfl)),by rw[<-hV];exact alloc_at (by simp),hBV⟩
 have HC:Hid (∀ W,Below w.heap.size w W->Calls Try.prog 58 #[.agg #[.slice (some ⟨bX,off,none⟩) C.length cap,.int .i64 loops,.slice (some ⟨gF,0,none⟩) (2*C.length+1) cF,.slice (some ⟨gT,0,none⟩) (2*C.length+1) cT],.int .i64 (s.arc:Nat)] W fun e w'=>e=.returned (.bool false)/\Below W.heap.size W w'):=fun W hW=>by
  have:=above_any (some ⟨bX,off,none⟩) cap C loops gF cF gT cT s.arc W hm h1 h2 (HD.out.on hW)
  rw[decide_eq_false (fun q=>q hab)]at this
  exact this
 have c0:V.cell? ⟨w.heap.size,0,none⟩=some (.slice (some ⟨bX,off,none⟩) C.length cap):=block_cell HON.out.b0 rfl
 have c1:V.cell? ⟨w.heap.size,1,none⟩=some (.int .i64 loops):=block_cell HON.out.b0 rfl
 have c2:V.cell? ⟨w.heap.size,2,none⟩=some (.slice (some ⟨gF,0,none⟩) (2*C.length+1) cF):=block_cell HON.out.b0 rfl
 have c3:V.cell? ⟨w.heap.size,3,none⟩=some (.slice (some ⟨gT,0,none⟩) (2*C.length+1) cT):=block_cell HON.out.b0 rfl
 have d0:V.cell? ⟨w.heap.size+1,0,none⟩=some (.int .i64 (s.arc:Nat)):=HON.out.de.arc
 unfold dcV
 have HBV:=hidH hBV
 have HPL:=hidH hpl
 have HK:=hidH hk
 clear hV hBV hD hm hP IH hpl hap hCX hk
 go_enter Try.func41,Try.ntmps41
 go_upto_region 1 with(fail)
 rw[HV.out]
 go_wp2_with (go_at_call 58;refine(HC.out _ HBV.out).mono ?_;rintro e9 w4 ⟨rfl,hb4⟩;refine Hid.out ?_)
 refine Lib.hid ?_
 have HO4:=hidH (HON.out.on hb4)
 clear hb4 c0 c1 c2 c3 d0
 have c0:w4.cell? ⟨w.heap.size,0,none⟩=some (.slice (some ⟨bX,off,none⟩) C.length cap):=block_cell HO4.out.b0 rfl
 have l0:bX<w4.heap.size:=Nat.lt_of_lt_of_le hbx HO4.out.bel.size
 have c4:w4.cell? ⟨bX,off+k*5+4,none⟩=some (.bool p):=by
  have:=(bcell HO4.out.bel hbx (HCX.out k hkl).2.2.2.2)
  rw[HPL.out]at this
  exact this
 go_wp2_with (go_at_call 59;refine(exchange_any p _).mono ?_;rintro e9 w5 ⟨rfl,hb5⟩;refine Hid.out ?_)
 refine Lib.hid ?_
 have HO5:=hidH (HO4.out.on hb5)
 have hs5:=HO5.out.bel.size
 have hs52:=(Array.getElem?_eq_some_iff.1 HO5.out.b2).1
 clear hb5 c0 l0 c4
 obtain⟨V5,hV5⟩:∃ V5,(w5.alloc (.cells #[.int .i64 (chX p),.int .i64 0,.int .i64 1] 51)).alloc (.cells #[.int .i64 (smX p),.int .i64 1,.int .i64 (smC p)] 51)=V5:=⟨_,rfl⟩
 have HV5:=hidH hV5
 have hbV5:Below w5.heap.size w5 V5:=by rw[<-hV5];exact below2 _ _ _
 have HO6:=hidH (HO5.out.on hbV5)
 have HT7:Hid (V5.heap[w5.heap.size]?=some (.cells #[.int .i64 (chX p),.int .i64 0,.int .i64 1] 51 (0,0))):=(by rw[<-hV5];exact alloc_old (alloc_at rfl):V5.heap[w5.heap.size]?=_)
 have HT8:Hid (V5.heap[w5.heap.size+1]?=some (.cells #[.int .i64 (smX p),.int .i64 1,.int .i64 (smC p)] 51 (0,0))):=(by rw[<-hV5];exact alloc_at (by simp):V5.heap[w5.heap.size+1]?=_)
 have HS5:Hid (V5.heap.size=w5.heap.size+2):=(by rw[<-hV5];simp:V5.heap.size=_)
 clear hV5 hbV5
 go_upto_region 3 with(fail)
 rw[HV5.out]
 go_upto_region 4 with (first
  |(refine wpList_load_row rfl 72 _ rfl (w.heap.size+1) rfl 72 _ (0,0) _ HO6.out.de Try.underlying72 rfl (infoDs _ _ _ _) ?_)
  |(refine wpList_store_row rfl 72 _ _ rfl V5.heap.size _ rfl rfl 72 zeD (alloc_at rfl) (infoDs _ _ _ _) (by rw[dsA_size];rfl) (dsA_all _ _ _ _) ?_))
 simp only[Act.put]
 obtain⟨V6,hV6⟩:∃ V6,(V5.alloc (.cells zeD 72)).setRow V5.heap.size (dsA s X Z c)=V6:=⟨_,rfl⟩
 have HV6:=hidH hV6
 have hbV6:Below V5.heap.size V5 V6:=by rw[<-hV6];exact setRow_belowH ((Below.refl _ _).alloc (Nat.le_refl _) _) (Nat.le_refl _)
 have HBV6:=hidH hbV6
 have HO7:=hidH (HO6.out.on hbV6)
 have HE7:Hid (DeAt V6 V5.heap.size s X Z c):=(by rw[<-hV6];exact DeAt.ofRow (alloc_at rfl) _ _ _ _:DeAt V6 V5.heap.size s X Z c)
 clear hV6 hbV6
 rw[show(V5.alloc (.cells #[.int .i64 0,.int .i64 0,.int .i64 0,.int .i64 0,.int .i64 0,.int .i64 0,.int .i64 0,.int .i64 0,.int .i64 0,.bool false,.bool false,.bool false,.bool false,.bool false,.bool false,.bool false,.bool false,.bool false,.bool false,.bool false,.bool false,.bool false,.bool false,.bool false,.bool false,.bool false,.int .i64 0,.int .i64 0,.int .i64 0,.int .i64 0] 72)).setRow V5.heap.size (dsA s X Z c)=V6 from HV6.out]
 have HS:Hid (∀ W,V6.grownBy W (some V5.heap.size)->(fun X':World=>X'.cell? ⟨w.heap.size+1,27,none⟩=some (.int .i64 X)/\X'.cell? ⟨w.heap.size+1,28,none⟩=some (.int .i64 Z)/\X'.cell? ⟨w.heap.size+1,29,none⟩=some (.int .i64 c)/\X'.cell? ⟨w5.heap.size+1,0,none⟩=some (.int .i64 (smX p))/\X'.cell? ⟨w5.heap.size+1,1,none⟩=some (.int .i64 1)/\X'.cell? ⟨w5.heap.size+1,2,none⟩=some (.int .i64 (smC p))) W):=fun W hW=>by
  have h5:=HS5.out
  have k1:=(hW.block _ HO7.out.de.lt (fun q=>by have:=Option.some.inj q;omega)).trans HO7.out.de
  have k8:V6.heap[w5.heap.size+1]?=_:=(HBV6.out.block _ (by omega)).trans HT8.out
  have k9:=(hW.block _ (Array.getElem?_eq_some_iff.1 k8).1 (fun q=>by have:=Option.some.inj q;omega)).trans k8
  have k2:DeAt W (w.heap.size+1) s X Z c:=k1
  exact⟨k2.worth.1,k2.worth.2.1,k2.worth.2.2,block_cell k9 rfl,block_cell k9 rfl,block_cell k9 rfl⟩
 have HGD:Hid (V6.grownBy V6.drew (some V5.heap.size)):=grown_below ((Below.refl _ _).drew) _
 have HPR:Hid (∀ W,Calls Try.prog 60 #[.agg #[.int .i64 X,.int .i64 Z,.int .i64 c],.agg #[.int .i64 (smX p),.int .i64 1,.int .i64 (smC p)]] W fun e w'=>e=.returned (.agg #[.int .i64 (X+smX p),.int .i64 (Z+1),.int .i64 (c*smC p)])/\Below W.heap.size W w'):=fun W=>product_two X Z c (smX p) 1 (smC p) W (by cases p<;>(show X.natAbs<=1000/\_<=1000;constructor;omega;decide)) (by omega) hc (by cases p<;>decide)
 refine rhd HS HGD.out (fun hHeld=>?_)
 refine tq 29 0 (h:=?_)
 refine tq 30 1 (h:=?_)
 refine tq 31 2 (h:=?_)
 refine tq 32 3 (h:=?_)
 refine tq 34 5 (h:=?_)
 refine tq 35 6 (h:=?_)
 simp only[List.setIfInBounds_toArray,List.set_cons_succ,List.set_cons_zero]
 refine rd1 4 ?_
 intro K0 hK0
 go_simp
 go_wp2_with (go_at_call 60;refine(HPR.out _).mono ?_;rintro e9 w6 ⟨rfl,hb6⟩)
 have HG6:=hidH (grown_trans HGD.out (grown_below hb6 (some V5.heap.size)))
 have HE8:=hidH (HE7.out.on ((Below.refl V6.heap.size V6).drew.trans hb6) HE7.out.lt)
 clear hb6
 refine hK0.out _ _ (HS.out _ HG6.out) (fun hHeld=>?_)
 clear hK0 K0
 try simp only[Act.put]
 try simp only[List.getElem_toArray]
 try simp only[List.getElem_cons_succ]
 try simp only[List.getElem_cons_zero]
 try simp only[List.setIfInBounds_toArray,List.set_cons_succ,List.set_cons_zero]
 have q0:w6.cell? ⟨V5.heap.size,1+k,none⟩=some (.int .i64 (s.ways k:Nat)):=HE8.out.way hk8
 have z0:w6.frozen? ⟨V5.heap.size,1+k,none⟩=false:=HE8.out.frozen
 have l0:V5.heap.size<w6.heap.size:=HE8.out.lt
 have HE9:=hidH (HE8.out.setWay hk8 2)
 obtain⟨w7,hw7⟩:∃ w7,w6.setCell ⟨V5.heap.size,1+k,none⟩ (.int .i64 2)=w7:=⟨_,rfl⟩
 have HW7:=hidH hw7
 rw[show(((2:Nat):Int))=2 from rfl,hw7]at HE9
 have HG7:Hid (V6.grownBy w7 (some V5.heap.size)):=(by rw[<-hw7];exact grown_trans HG6.out (set_grown _ _ _ _):V6.grownBy w7 _)
 clear hw7
 refine rd1 7 ?_
 intro K0 hK0
 go_simp
 rw[HW7.out]
 refine hK0.out _ _ (HS.out _ HG7.out) (fun hHeld=>?_)
 clear hK0 K0 q0 z0 l0
 try simp only[Act.put]
 try simp only[List.getElem_toArray]
 try simp only[List.getElem_cons_succ]
 try simp only[List.getElem_cons_zero]
 try  refine tq 36 8 (h:=?_)
 simp only[List.setIfInBounds_toArray,List.set_cons_succ,List.set_cons_zero]
 have q0:w7.cell? ⟨V5.heap.size,27,none⟩=some (.int .i64 X):=HE9.out.worth.1
 have q1:w7.cell? ⟨V5.heap.size,28,none⟩=some (.int .i64 Z):=HE9.out.worth.2.1
 have q2:w7.cell? ⟨V5.heap.size,29,none⟩=some (.int .i64 c):=HE9.out.worth.2.2
 have z0:w7.frozen? ⟨V5.heap.size,27,none⟩=false:=HE9.out.frozen
 have z1:w7.frozen? ⟨V5.heap.size,28,none⟩=false:=HE9.out.frozen
 have z2:w7.frozen? ⟨V5.heap.size,29,none⟩=false:=HE9.out.frozen
 have l0:V5.heap.size<w7.heap.size:=HE9.out.lt
 have HEA:=hidH (HE9.out.setWorth (X+smX p) (Z+1) (c*smC p))
 obtain⟨w8,hw8⟩:∃ w8,((w7.setCell ⟨V5.heap.size,27,none⟩ (.int .i64 (X+smX p))).setCell ⟨V5.heap.size,28,none⟩ (.int .i64 (Z+1))).setCell ⟨V5.heap.size,29,none⟩ (.int .i64 (c*smC p))=w8:=⟨_,rfl⟩
 have HW8:=hidH hw8
 rw[hw8]at HEA
 have HG8:Hid (V6.grownBy w8 (some V5.heap.size)):=(by rw[<-hw8];exact grown_trans (grown_trans (grown_trans HG7.out (set_grown _ _ _ _)) (set_grown _ _ _ _)) (set_grown _ _ _ _):V6.grownBy w8 _)
 clear hw8
 refine rd1 9 ?_
 intro K0 hK0
 go_simp
 rw[HW8.out]
 refine hK0.out _ _ (HS.out _ HG8.out) (fun _=>?_)
 clear hK0 K0 q0 q1 q2 z0 z1 z2 l0
 try simp only[Act.put]
 try simp only[List.getElem_toArray]
 try simp only[List.getElem_cons_succ]
 try simp only[List.getElem_cons_zero]
 try simp only[List.setIfInBounds_toArray,List.set_cons_succ,List.set_cons_zero]
 refine wpAnyH_done (by kernel_rfl) ?_ _
 clear hHeld
 have h5:=HS5.out
 have HBW8:Hid (Below w.heap.size w w8):=HO7.out.bel.grown HG8.out HO7.out.bel.size (fun q hq=>by have:=Option.some.inj hq;omega)
 have HO8:Hid (OnAt w w8 (some ⟨bX,off,none⟩) cap C loops gF cF gT cT b s X Z c):=⟨(HG8.out.block _ HO7.out.de.lt (fun q=>by have:=Option.some.inj q;omega)).trans HO7.out.de,(HG8.out.block _ (Array.getElem?_eq_some_iff.1 HO7.out.b0).1 (fun q=>by have:=Option.some.inj q;omega)).trans HO7.out.b0,(HG8.out.block _ (Array.getElem?_eq_some_iff.1 HO7.out.b2).1 (fun q=>by have:=Option.some.inj q;omega)).trans HO7.out.b2,HBW8.out⟩
 have HT7b:Hid (w8.heap[w5.heap.size]?=some (.cells #[.int .i64 (chX p),.int .i64 0,.int .i64 1] 51 (0,0))):=(HG8.out.block _ (Nat.lt_of_lt_of_le (Array.getElem?_eq_some_iff.1 HT7.out).1 HBV6.out.size) (fun q=>by have:=Option.some.inj q;omega)).trans ((HBV6.out.block _ (Array.getElem?_eq_some_iff.1 HT7.out).1).trans HT7.out)
 have HSb:Hid (∀ W,w8.grownBy W (some b)->(fun X':World=>X'.cell? ⟨w.heap.size,0,none⟩=some (.slice (some ⟨bX,off,none⟩) C.length cap)/\X'.cell? ⟨w.heap.size,1,none⟩=some (.int .i64 loops)/\X'.cell? ⟨w.heap.size,2,none⟩=some (.slice (some ⟨gF,0,none⟩) (2*C.length+1) cF)/\X'.cell? ⟨w.heap.size,3,none⟩=some (.slice (some ⟨gT,0,none⟩) (2*C.length+1) cT)/\X'.cell? ⟨w.heap.size,4,none⟩=some (.map (some b))/\DeAt X' V5.heap.size ⟨s.arc,s.w,upd s.ways k 2,s.r⟩ (X+smX p) (Z+1) (c*smC p)) W):=fun W hW=>by
  have k0:=(hW.block _ (Array.getElem?_eq_some_iff.1 HO8.out.b0).1 (fun q=>by have:=Option.some.inj q;omega)).trans HO8.out.b0
  exact⟨block_cell k0 rfl,block_cell k0 rfl,block_cell k0 rfl,block_cell k0 rfl,block_cell k0 rfl,(hW.block _ HEA.out.lt (fun q=>by have:=Option.some.inj q;omega)).trans HEA.out⟩
 have HDd:Hid (Below w8.heap.size w8 w8.drew):=(Below.refl _ _).drew
 have HWL:Hid (∀ W,Below w8.heap.size w8 W->Calls Try.prog 42 #[.agg #[.slice (some ⟨bX,off,none⟩) C.length cap,.int .i64 loops,.slice (some ⟨gF,0,none⟩) (2*C.length+1) cF,.slice (some ⟨gT,0,none⟩) (2*C.length+1) cT,.map (some b)],.agg (dsA ⟨s.arc,s.w,upd s.ways k 2,s.r⟩ (X+smX p) (Z+1) (c*smC p))] W fun e w'=>e=.returned (.agg (dsA (onw (sysC C) s.w (upd s.ways k 2) s.arc s.r) (X+smX p) (Z+1) (c*smC p)))/\Below W.heap.size W w'):=fun W hW=>onward_de (some ⟨bX,off,none⟩) cap C loops gF cF gT cT b ⟨s.arc,s.w,upd s.ways k 2,s.r⟩ (X+smX p) (Z+1) (c*smC p) W HM.out hn8 h1 h2 (by show s.r<=1000;omega) (HD.out.on (HBW8.out.trans (hW.mono HBW8.out.size)))
 have HWK:Hid (∀ W,Below w8.heap.size w8 W->Calls Try.prog 24 #[.agg #[.slice (some ⟨bX,off,none⟩) C.length cap,.int .i64 loops,.slice (some ⟨gF,0,none⟩) (2*C.length+1) cF,.slice (some ⟨gT,0,none⟩) (2*C.length+1) cT,.map (some b)],.agg (dsA (onw (sysC C) s.w (upd s.ways k 2) s.arc s.r) (X+smX p) (Z+1) (c*smC p))] W fun e w'=>e=.returned (.tuple #[])/\∃ D',PrD w' b (n+pwm m) (B+pwm m) 100 (fun e=>f e+c*smC p*wk (sysC C) m (onw (sysC C) s.w (upd s.ways k 2) s.arc s.r) (e-(1000*(X+smX p)+(Z+1)))) D'/\W.grownBy w' (some b)):=fun W hW=>by
  obtain⟨o1,o2,o3,o4⟩:=onw_okH HM.out s.w (upd s.ways k 2) s.arc s.r h1 h2
  refine HIH.out (onw (sysC C) s.w (upd s.ways k 2) s.arc s.r) (X+smX p) (Z+1) (c*smC p) n B f D W ⟨o1,(by rw[o3];exact o2),(by rw[o3];exact hun),by omega,?_,by omega,?_,hn,hB⟩ (HD.out.on (HBW8.out.trans (hW.mono HBW8.out.size))) (HP.out.kept (grown_below (HBW8.out.trans (hW.mono HBW8.out.size)) none) (by simp))
  · cases p
    · show(X+1).natAbs+2*m<=40;omega
    · show(X + -1).natAbs+2*m<=40;omega
  · cases p
    · show c * -1=1∨c * -1 = -1;omega
    · show c*1=1∨c*1 = -1;omega
 have HGd:Hid (w8.grownBy w8.drew (some b)):=grown_below HDd.out _
 clear HC HS HGD HG6 HG7 HG8 HE7 HE8 HE9 HO4 HO5 HO6 HO7 HON HBV HCX HW7 HW8 HV6 HV5 HV HT7 HT8 HBV6
 go_upto_region 5 with(fail)
 refine rhd HSb HGd.out (fun hHeld=>?_)
 refine tq 37 0 (h:=?_)
 refine tq 38 1 (h:=?_)
 refine tq 39 2 (hy:=fun W hW=>ex_rowH 72 _ rfl V5.heap.size rfl 72 _ (0,0) _ hW.2.2.2.2.2 Try.underlying72 rfl (infoDs _ _ _ _)) (h:=?_)
 simp only[List.setIfInBounds_toArray,List.set_cons_succ,List.set_cons_zero]
 refine rd1 3 ?_
 intro K0 hK0
 go_simp
 go_wp2_with (go_at_call 42;refine(HWL.out _ HDd.out).mono ?_;rintro e9 w9 ⟨rfl,hb9⟩)
 have HB9:=hidH (HDd.out.trans hb9)
 clear hb9
 refine hK0.out _ _ (HSb.out _ (grown_below HB9.out _)) (fun hHeld=>?_)
 clear hK0 K0
 try simp only[Act.put]
 try simp only[List.getElem_toArray]
 try simp only[List.getElem_cons_succ]
 try simp only[List.getElem_cons_zero]
 try simp only[List.setIfInBounds_toArray,List.set_cons_succ,List.set_cons_zero]
 refine rd1 4 ?_
 intro K0 hK0
 go_simp
 go_wp2_with (go_at_call 24;refine(HWK.out _ HB9.out).mono ?_;rintro e9 wA ⟨rfl,DA,hpA,hgA⟩)
 have HGA:=hidH (grown_trans (grown_below HB9.out (some b)) hgA)
 have HPA:=hidH hpA
 clear hgA hpA
 refine hK0.out _ _ (HSb.out _ HGA.out) (fun hHeld=>?_)
 clear hK0 K0
 try simp only[Act.put]
 try simp only[List.getElem_toArray]
 try simp only[List.getElem_cons_succ]
 try simp only[List.getElem_cons_zero]
 try simp only[List.setIfInBounds_toArray,List.set_cons_succ,List.set_cons_zero]
 refine wpAnyH_done (by kernel_rfl) ?_ _
 clear hHeld
 have HDA:Hid (DeAt wA (w.heap.size+1) s X Z c):=(HGA.out.block _ HO8.out.de.lt (fun q=>by have:=Option.some.inj q;omega)).trans HO8.out.de
 have HRA:Hid (wA.heap[w.heap.size+1+1]?=some (.cells zeD 72 (0,0))):=(HGA.out.block _ (Array.getElem?_eq_some_iff.1 HO8.out.b2).1 (fun q=>by have:=Option.some.inj q;omega)).trans HO8.out.b2
 have HTA:=(HGA.out.block _ (Array.getElem?_eq_some_iff.1 HT7b.out).1 (fun q=>by have:=Option.some.inj q;omega)).trans HT7b.out
 have HGW:Hid (w.grownBy wA (some b)):=grown_trans (grown_below HBW8.out (some b)) HGA.out
 have hlA:b<wA.heap.size:=HPA.out.lt
 obtain⟨u0,u1,u2⟩:=pairBox HTA
 obtain⟨v0,v1,v2⟩:=HDA.out.worth
 have z0:wA.frozen? ⟨w.heap.size+1,27,none⟩=false:=HDA.out.frozen
 have z1:wA.frozen? ⟨w.heap.size+1,28,none⟩=false:=HDA.out.frozen
 have z2:wA.frozen? ⟨w.heap.size+1,29,none⟩=false:=HDA.out.frozen
 have l0:w.heap.size+1<wA.heap.size:=HDA.out.lt
 have HPC:Hid (∀ W,Calls Try.prog 60 #[.agg #[.int .i64 X,.int .i64 Z,.int .i64 c],.agg #[.int .i64 (chX p),.int .i64 0,.int .i64 1]] W fun e w'=>e=.returned (.agg #[.int .i64 (X+chX p),.int .i64 Z,.int .i64 c])/\Below W.heap.size W w'):=fun W=>by
  have:=product_two X Z c (chX p) 0 1 W (by cases p<;>(show X.natAbs<=1000/\_<=1000;constructor;omega;decide)) (by omega) hc (Or.inl rfl)
  rw[Int.add_zero,Int.mul_one]at this
  exact this
 clear HTA HWL HWK HSb HGd HDd HEA HO8 HT7b HBW8 HB9 HPR
 go_wp2_with (go_at_call 60;refine(HPC.out _).mono ?_;rintro e9 wB ⟨rfl,hbB⟩;refine Hid.out ?_)
 refine Lib.hid ?_
 have HDB:=hidH (HDA.out.on hbB HDA.out.lt)
 have HRB:=hidH ((hbB.block _ (Array.getElem?_eq_some_iff.1 HRA.out).1).trans HRA.out)
 have HGB:=hidH (grown_to HGW.out (grown_below hbB (some b)) (fun q hq=>Or.inr hq))
 have HPB:=hidH (HPA.out.kept (grown_below hbB none) (by simp))
 have lB:=hbB.size
 clear hbB u0 u1 u2 v0 v1 v2 z0 z1 z2
 obtain⟨v0,v1,v2⟩:=HDB.out.worth
 have z0:wB.frozen? ⟨w.heap.size+1,27,none⟩=false:=HDB.out.frozen
 have z1:wB.frozen? ⟨w.heap.size+1,28,none⟩=false:=HDB.out.frozen
 have z2:wB.frozen? ⟨w.heap.size+1,29,none⟩=false:=HDB.out.frozen
 have HDC:=hidH (HDB.out.setWorth (X+chX p) Z c)
 obtain⟨wC,hwC⟩:∃ wC,((wB.setCell ⟨w.heap.size+1,27,none⟩ (.int .i64 (X+chX p))).setCell ⟨w.heap.size+1,28,none⟩ (.int .i64 Z)).setCell ⟨w.heap.size+1,29,none⟩ (.int .i64 c)=wC:=⟨_,rfl⟩
 have HWC:=hidH hwC
 rw[hwC]at HDC
 have hgC:wB.grownBy wC (some (w.heap.size+1)):=by rw[<-hwC];exact grown_trans (grown_trans (set_grown _ _ _ _) (set_grown _ _ _ _)) (set_grown _ _ _ _)
 have HGC:=hidH hgC
 clear hwC hgC
 go_upto_region 7 with(fail)
 rw[HWC.out]
 clear v0 v1 v2 z0 z1 z2
 have lC:=HGC.out.size
 have q0:wC.cell? ⟨w.heap.size+1,1+k,none⟩=some (.int .i64 (s.ways k:Nat)):=HDC.out.way hk8
 have f0:wC.frozen? ⟨w.heap.size+1,1+k,none⟩=false:=HDC.out.frozen
 have HDD:=hidH (HDC.out.setWay hk8 1)
 obtain⟨wD,hwD⟩:∃ wD,wC.setCell ⟨w.heap.size+1,1+k,none⟩ (.int .i64 1)=wD:=⟨_,rfl⟩
 have HWD:=hidH hwD
 rw[show(((1:Nat):Int))=1 from rfl,hwD]at HDD
 have HGD:Hid (wB.grownBy wD (some (w.heap.size+1))):=(by rw[<-hwD];exact grown_trans HGC.out (set_grown _ _ _ _):wB.grownBy wD _)
 clear hwD
 go_upto_region 8 with(fail)
 rw[HWD.out]
 clear q0 f0
 have HRD:=hidH ((HGD.out.block _ (Array.getElem?_eq_some_iff.1 HRB.out).1 (fun q=>by have:=Option.some.inj q;omega)).trans HRB.out)
 have lD:=HGD.out.size
 go_wp2_with (first
  |(refine wpList_load_row rfl 72 _ rfl (w.heap.size+1) rfl 72 _ (0,0) _ HDD.out Try.underlying72 rfl (infoDs _ _ _ _) ?_)
  |(refine wpList_store_row rfl 72 _ _ rfl (w.heap.size+1+1) _ rfl rfl 72 _ HRD.out (infoDs _ _ _ _) (by rw[dsA_size];rfl) (dsA_all _ _ _ _) ?_))
 have hgF:wD.grownBy (wD.setRow (w.heap.size+1+1) (dsA ⟨s.arc,s.w,upd s.ways k 1,s.r⟩ (X+chX p) Z c)) (some (w.heap.size+1+1)):=setRow_grownH _ _ _
 refine bodyPost_ret (v:=.agg (dsA ⟨s.arc,s.w,upd s.ways k 1,s.r⟩ (X+chX p) Z c)) (results_cell_row rfl _ _ (w.heap.size+1+1) 72 _ (0,0) _ rfl (DeAt.ofRow HRD.out _ _ _ _) Try.underlying72 rfl (infoDs _ _ _ _)) rfl ⟨rfl,DA,(HPB.out.kept HGD.out (fun q=>by have:=Option.some.inj q;omega)).kept hgF (fun q=>by have:=Option.some.inj q;omega),?_⟩
 exact grown_to (grown_to HGB.out HGD.out (fun q hq=>Or.inl (by have:=Option.some.inj hq;omega))) hgF (fun q hq=>Or.inl (by have:=Option.some.inj hq;omega))
end Go.Proofs.Ytefooihnoajnlaa.Poly
/- The walk of descents.walk: what all descents from where it stands are worth is added to the sum. -/
namespace Go.Proofs.Ytefooihnoajnlaa.Poly
open Go.RowKit Go.Maps
set_option maxHeartbeats 16000000
set_option maxRecDepth 100000
def unAt (N:Nat) (W:World) (p:Nat):Nat:=unw N (fun y=>match W.cell? ⟨p,9+y,none⟩ with|some (.bool v)=>v|_=>true)
theorem unw_congr {w w':Nat->Bool} (N:Nat) (h:∀ y,1<=y->y<=N->w y=w' y):unw N w=unw N w':=cnP_congr N (fun y h1 h2=>by rw[h y h1 h2])
theorem DeAt.un {W : World} {b : Nat} {s : Dst} {X Z c : Int} (h : DeAt W b s X Z c) : unAt 16 W b = unw 16 s.w := unw_congr 16 (fun y h1 h2 => by
 show(match W.cell? ⟨b,9+y,none⟩ with|some (.bool v)=>v|_=>true)=s.w y
 rw[h.walked (a:=y) (by omega)])
theorem wk_out {S:Sys} {m:Nat} {s:Dst} (h:S.N<s.arc):wk S m s=pwR s.r:=by
 cases m with
 |zero=>rfl
 |succ m=>exact if_pos (Or.inr h)
theorem wk_on {S:Sys} {m:Nat} {s:Dst} (h1:1<=s.arc) (h2:s.arc<=S.N) (h:s.ways (S.cr s.arc)≠0):wk S (m+1) s=wk S m (onw S (upd s.w s.arc true) s.ways s.arc s.r):=by
 show(if s.arc=0∨S.N<s.arc then pwR s.r else if s.ways (S.cr s.arc)=0 then _ else wk S m (onw S (upd s.w s.arc true) s.ways s.arc s.r))=_
 rw[if_neg (by omega),if_neg h]
theorem wk_over {S:Sys} {m:Nat} {s:Dst} (h1:1<=s.arc) (h2:s.arc<=S.N) (h:s.ways (S.cr s.arc)=0) (hb:S.be s.arc=false):wk S (m+1) s=wk S m (onw S (upd s.w s.arc true) (upd s.ways (S.cr s.arc) 1) s.arc s.r):=by
 show(if s.arc=0∨S.N<s.arc then pwR s.r else if s.ways (S.cr s.arc)=0 then if S.be s.arc=true then _ else wk S m (onw S (upd s.w s.arc true) (upd s.ways (S.cr s.arc) 1) s.arc s.r) else _)=_
 rw[if_neg (by omega),if_pos h,if_neg (by rw[hb];decide)]
theorem wk_below {S:Sys} {m:Nat} {s:Dst} (h1:1<=s.arc) (h2:s.arc<=S.N) (h:s.ways (S.cr s.arc)=0) (hb:S.be s.arc=true):wk S (m+1) s=fork2 (S.plus (S.cr s.arc)) (wk S m (onw S (upd s.w s.arc true) (upd s.ways (S.cr s.arc) 1) s.arc s.r)) (wk S m (onw S (upd s.w s.arc true) (upd s.ways (S.cr s.arc) 2) s.arc s.r)):=by
 show(if s.arc=0∨S.N<s.arc then pwR s.r else if s.ways (S.cr s.arc)=0 then if S.be s.arc=true then fork2 (S.plus (S.cr s.arc)) (wk S m (onw S (upd s.w s.arc true) (upd s.ways (S.cr s.arc) 1) s.arc s.r)) (wk S m (onw S (upd s.w s.arc true) (upd s.ways (S.cr s.arc) 2) s.arc s.r)) else _ else _)=_
 rw[if_neg (by omega),if_pos h,if_pos hb]
theorem wk_sum (g:Int) (a b:Int->Int) (c X Z:Int) (p:Bool) (e:Int):g+c*smC p*b (e-(1000*(X+smX p)+(Z+1)))+c*a (e-(1000*(X+chX p)+Z))=g+c*fork2 p a b (e-(1000*X+Z)):=by
 show _=g+c*(1*a (e-(1000*X+Z)-(1000*chX p+0))+smC p*b (e-(1000*X+Z)-(1000*smX p+1)))
 rw[show e-(1000*X+Z)-(1000*chX p+0)=e-(1000*(X+chX p)+Z) by omega,show e-(1000*X+Z)-(1000*smX p+1)=e-(1000*(X+smX p)+(Z+1)) by omega,Int.one_mul]
 generalize a (e-(1000*(X+chX p)+Z))=A
 generalize b (e-(1000*(X+smX p)+(Z+1)))=G
 generalize smC p=q
 rw[Int.mul_add,Int.mul_assoc]
 omega
theorem walk_de (a:Option Addr) (cap:Nat) (C:List Cr) (loops:Int) (gF cF gT cT b m:Nat) (hm:mayD C loops=true) (hn8:C.length<=8) (hap:Apart a C.length gF gT b) (IH:∀ k,k<m->WalkOk a cap C loops gF cF gT cT b k):WalkOk a cap C loops gF cF gT cT b m:=by
 intro s X Z c n B f D w hwi hD hP
 have HD:=hidH hD
 have HM:=hidH hm
 have HP:=hidH hP
 have HIH:=hidH IH
 have HAP:=hidH hap
 have HWI0:=hidH hwi
 have hlb:=hP.lt
 obtain⟨V,hV⟩:∃ V,(w.alloc (.cells #[.slice a C.length cap,.int .i64 loops,.slice (some ⟨gF,0,none⟩) (2*C.length+1) cF,.slice (some ⟨gT,0,none⟩) (2*C.length+1) cT,.map (some b)] 67)).alloc (.cells (dsA s X Z c) 72)=V:=⟨_,rfl⟩
 have HV:=hidH hV
 have hBV:Below w.heap.size w V:=by rw[<-hV];exact below2 _ _ _
 have HBV:=hidH hBV
 have HB0:Hid (V.heap[w.heap.size]?=some (.cells #[.slice a C.length cap,.int .i64 loops,.slice (some ⟨gF,0,none⟩) (2*C.length+1) cF,.slice (some ⟨gT,0,none⟩) (2*C.length+1) cT,.map (some b)] 67 (0,0))):=(by rw[<-hV];exact alloc_old (alloc_at rfl):V.heap[w.heap.size]?=_)
 have HE0:Hid (DeAt V (w.heap.size+1) s X Z c):=(by rw[<-hV];exact alloc_at (by simp):V.heap[w.heap.size+1]?=_)
 have HPV:=hidH (hP.kept (grown_below hBV none) (by simp))
 unfold dcV
 clear hV hBV hD hm hP IH hap hwi
 go_enter Try.func24,Try.ntmps24
 go_upto_region 1 with(fail)
 rw[HV.out]
 go_loopw [4] (fun _ wr=>∃ (m1:Nat) (s1:Dst) (X1 Z1:Int) (n1 B1:Nat) (f1:Int->Int) (D1:DataW Unit),m1<=m/\DeAt wr (w.heap.size+1) s1 X1 Z1 c/\WkIn C m1 n1 B1 s1 X1 Z1 c/\PrD wr b n1 B1 100 f1 D1/\n1+pwm m1<=n+pwm m/\B1+pwm m1<=B+pwm m/\Hid (∀ e,f1 e+c*wk (sysC C) m1 s1 (e-(1000*X1+Z1))=f e+c*wk (sysC C) m s (e-(1000*X+Z)))/\wr.heap[w.heap.size]?=some (.cells #[.slice a C.length cap,.int .i64 loops,.slice (some ⟨gF,0,none⟩) (2*C.length+1) cF,.slice (some ⟨gT,0,none⟩) (2*C.length+1) cT,.map (some b)] 67 (0,0))/\w.grownBy wr (some b)) (fun _ wr=>unAt 16 wr (w.heap.size+1))
 case atStart=>exact⟨m,s,X,Z,n,B,f,D,Nat.le_refl _,HE0.out,HWI0.out,HPV.out,Nat.le_refl _,Nat.le_refl _,(fun e=>rfl:∀ e,f e+c*wk (sysC C) m s (e-(1000*X+Z))=_),HB0.out,grown_below HBV.out _⟩
 case round=>
  clear HB0 HE0 HPV HBV HV HWI0
  rename World=>W
  obtain⟨m1,s1,X1,Z1,n1,B1,f1,D1,hm1,hE,hWI,hP1,hn1,hB1,hF,hB0,hG⟩:=hrel
  have HE:=hidH hE
  have HWI:=hidH hWI
  have HP1:=hidH hP1
  have HN1:=hidH hn1
  have HN2:=hidH hB1
  have HF:=hidH hF.out
  have HB:=hidH hB0
  have HG:=hidH hG
  have hlw:=hE.lt
  have d0:W.cell? ⟨w.heap.size+1,0,none⟩=some (.int .i64 (s1.arc:Nat)):=hE.arc
  have HMS:Hid (unAt 16 W (w.heap.size+1)=unw 16 s1.w):=hE.un
  clear hE hWI hP1 hn1 hB1 hF hB0 hG
  have c0:W.cell? ⟨w.heap.size,0,none⟩=some (.slice a C.length cap):=block_cell HB.out rfl
  have c1:W.cell? ⟨w.heap.size,1,none⟩=some (.int .i64 loops):=block_cell HB.out rfl
  have c2:W.cell? ⟨w.heap.size,2,none⟩=some (.slice (some ⟨gF,0,none⟩) (2*C.length+1) cF):=block_cell HB.out rfl
  have c3:W.cell? ⟨w.heap.size,3,none⟩=some (.slice (some ⟨gT,0,none⟩) (2*C.length+1) cT):=block_cell HB.out rfl
  have c5:W.cell? ⟨w.heap.size,4,none⟩=some (.map (some b)):=block_cell HB.out rfl
  have hjB:hasB C s1.arc=decide (s1.arc<=2*C.length):=by
   unfold hasB
   rw[decide_eq_true (show(1:Int)<=(s1.arc:Int) by have:=HWI.out.a1;omega),Bool.true_and]
   exact decide_eq_decide.2 (by omega)
  have HH:Hid (∀ W,Calls Try.prog 40 #[.agg #[.slice a C.length cap,.int .i64 loops,.slice (some ⟨gF,0,none⟩) (2*C.length+1) cF,.slice (some ⟨gT,0,none⟩) (2*C.length+1) cT],.int .i64 (s1.arc:Nat)] W fun e w'=>e=.returned (.bool (decide (s1.arc<=2*C.length)))/\Below W.heap.size W w'):=fun W=>by
   rw[<-hjB]
   exact has_any a cap C loops gF cF gT cT s1.arc W (by omega)
  clear hjB
  go_wp2_with (go_at_call 40;refine(HH.out _).mono ?_;rintro e9 W2 ⟨rfl,hb2⟩;refine Hid.out ?_)
  refine Lib.hid ?_
  have HE2:=hidH (HE.out.on hb2 HE.out.lt)
  have HB2:=hidH ((hb2.block _ (Array.getElem?_eq_some_iff.1 HB.out).1).trans HB.out)
  have HP2:=hidH (HP1.out.kept (grown_below hb2 none) (by simp))
  have HG2:=hidH (grown_to HG.out (grown_below hb2 (some b)) (fun q hq=>Or.inr hq))
  have hl2:=hb2.size
  clear hb2 c0 c1 c2 c3 c5 d0 HH HE HP1 HB HG
  by_cases hj:s1.arc<=2*C.length
  · have hdj:decide (s1.arc<=2*C.length)=true:=decide_eq_true hj
    rw[hdj]
    clear hdj
    obtain⟨k,hk⟩:∃ k,toC C s1.arc=k:=⟨_,rfl⟩
    have hkC:k<C.length:=by rw[<-hk];exact(to_may HM.out s1.arc HWI.out.a1 hj).2.1
    have ha1:=HWI.out.a1
    have hfr:=HWI.out.fr hj
    have hu1:=unw_less (N:=2*C.length) ha1 hj hfr
    have hu2:=unw_less (N:=16) ha1 (by omega) hfr
    have hup:=unw_pos (N:=2*C.length) ha1 hj hfr
    obtain⟨k1,rfl⟩:∃ k1,m1=k1+1:=⟨m1 - 1,by have:=HWI.out.un;omega⟩
    have HUN:Hid (unw (2*C.length) (upd s1.w s1.arc true)<=k1):=(by have:=HWI.out.un;omega:unw (2*C.length) (upd s1.w s1.arc true)<=k1)
    have HLT:Hid (unw 16 (upd s1.w s1.arc true)<unw 16 s1.w):=(by omega:unw 16 (upd s1.w s1.arc true)<unw 16 s1.w)
    have HK:=hidH hk
    clear hu1 hu2 hup hfr hk
    have d0:W2.cell? ⟨w.heap.size+1,0,none⟩=some (.int .i64 (s1.arc:Nat)):=HE2.out.arc
    have d1:W2.cell? ⟨w.heap.size+1,9+s1.arc,none⟩=some (.bool (s1.w s1.arc)):=HE2.out.walked (by omega)
    have f1':W2.frozen? ⟨w.heap.size+1,9+s1.arc,none⟩=false:=HE2.out.frozen
    have lW:w.heap.size+1<W2.heap.size:=HE2.out.lt
    have HE3:=hidH (HE2.out.setWalked (a:=s1.arc) (by omega))
    obtain⟨W3,hW3⟩:∃ W3,W2.setCell ⟨w.heap.size+1,9+s1.arc,none⟩ (.bool true)=W3:=⟨_,rfl⟩
    have HW3:=hidH hW3
    rw[hW3]at HE3
    have hg3:W2.grownBy W3 (some (w.heap.size+1)):=by rw[<-hW3];exact set_grown _ _ _ _
    have HB3:=hidH ((hg3.block _ (Array.getElem?_eq_some_iff.1 HB2.out).1 (fun q=>by have:=Option.some.inj q;omega)).trans HB2.out)
    have HP3:=hidH (HP2.out.kept hg3 (fun q=>by have:=Option.some.inj q;omega))
    have HG3:=hidH (grown_to HG2.out hg3 (fun q hq=>Or.inl (by have:=Option.some.inj hq;omega)))
    clear hW3 hg3
    go_upto_region 3 with(fail)
    rw[HW3.out]
    clear d0 d1 f1' lW HE2 HB2 HP2 HG2
    have c0:W3.cell? ⟨w.heap.size,0,none⟩=some (.slice a C.length cap):=block_cell HB3.out rfl
    have c1:W3.cell? ⟨w.heap.size,1,none⟩=some (.int .i64 loops):=block_cell HB3.out rfl
    have c2:W3.cell? ⟨w.heap.size,2,none⟩=some (.slice (some ⟨gF,0,none⟩) (2*C.length+1) cF):=block_cell HB3.out rfl
    have c3:W3.cell? ⟨w.heap.size,3,none⟩=some (.slice (some ⟨gT,0,none⟩) (2*C.length+1) cT):=block_cell HB3.out rfl
    have c5:W3.cell? ⟨w.heap.size,4,none⟩=some (.map (some b)):=block_cell HB3.out rfl
    have d0:W3.cell? ⟨w.heap.size+1,0,none⟩=some (.int .i64 (s1.arc:Nat)):=HE3.out.arc
    have HD3:=hidH (dr_grown HD.out HAP.out HG3.out)
    have t0:W3.cell? ⟨gT,s1.arc*2,none⟩=some (.int .i64 (k:Nat)):=by
     have:=(HD3.out.toAt HM.out s1.arc ha1 hj).1
     rw[HK.out]at this
     exact this
    have l0:gT<W3.heap.size:=HD3.out.ltT
    obtain⟨wy,hwy⟩:∃ wy,s1.ways k=wy:=⟨_,rfl⟩
    have d1:W3.cell? ⟨w.heap.size+1,1+k,none⟩=some (.int .i64 (wy:Nat)):=by rw[<-hwy];exact HE3.out.way (by omega)
    have HWY:=hidH hwy
    clear hwy
    have lW:w.heap.size+1<W3.heap.size:=HE3.out.lt
    by_cases hw0:wy=0
    · have hd0:((wy:Int)==0)=true:=by rw[beq_iff_eq];omega
      obtain⟨p,hp⟩:∃ p,(C.getD k Cr.none).plus=p:=⟨_,rfl⟩
      have HPL:=hidH hp
      clear hp
      by_cases hbe:toS C s1.arc=0
      · have HMB:=hidH (met_below a cap C loops gF cF gT cT b k1 (HIH.out k1 (by omega)) ⟨s1.arc,upd s1.w s1.arc true,s1.ways,s1.r⟩ X1 Z1 c k n1 B1 f1 D1 p W3 HM.out hn8 HK.out ha1 hj hbe HPL.out HAP.out HUN.out (by have:=HWI.out.r;show s1.r+1+k1<=40;omega) (by have:=HWI.out.x;omega) (by have:=HWI.out.z;omega) HWI.out.c (by have:=HWI.out.n;have:=pwm_next k1;omega) (by have:=HWI.out.B;have:=pwm_next k1;omega) HD3.out HP3.out)
        have HBE:=hidH hbe
        unfold dcV at HMB
        go_wp2_with (first
         |(refine wpList_load_row rfl 72 _ rfl (w.heap.size+1) rfl 72 _ (0,0) _ HE3.out Try.underlying72 rfl (infoDs _ _ _ _) ?_)
         |(go_at_call 41;refine HMB.out.mono ?_;rintro e9 W4 ⟨rfl,D4,hp4,hg4⟩;refine Hid.out ?_))
        refine Lib.hid ?_
        have HE4:=hidH ((hg4.block _ HE3.out.lt (fun q=>by have:=Option.some.inj q;omega)).trans HE3.out)
        have HB4:=hidH ((hg4.block _ (Array.getElem?_eq_some_iff.1 HB3.out).1 (fun q=>by have:=Option.some.inj q;omega)).trans HB3.out)
        have HP4:=hidH hp4
        have HG4:=hidH (grown_trans HG3.out hg4)
        have hl4:=hp4.lt
        have hl44:=hg4.size
        clear hp4 hg4 HMB c0 c1 c2 c3 c5 d0 d1 t0 l0
        have HE5:=hidH (DeAt.ofRow HE4.out ⟨s1.arc,upd s1.w s1.arc true,upd s1.ways k 1,s1.r⟩ (X1+chX p) Z1 c)
        obtain⟨W5,hW5⟩:∃ W5,W4.setRow (w.heap.size+1) (dsA ⟨s1.arc,upd s1.w s1.arc true,upd s1.ways k 1,s1.r⟩ (X1+chX p) Z1 c)=W5:=⟨_,rfl⟩
        have HW5:=hidH hW5
        rw[hW5]at HE5
        have hg5:W4.grownBy W5 (some (w.heap.size+1)):=by rw[<-hW5];exact setRow_grownH _ _ _
        have HB5:=hidH ((hg5.block _ (Array.getElem?_eq_some_iff.1 HB4.out).1 (fun q=>by have:=Option.some.inj q;omega)).trans HB4.out)
        have HP5:=hidH (HP4.out.kept hg5 (fun q=>by have:=Option.some.inj q;omega))
        have HG5:=hidH (grown_to HG4.out hg5 (fun q hq=>Or.inl (by have:=Option.some.inj hq;omega)))
        clear hW5 hg5
        go_upto_region 6 with (first
         |(refine wpList_store_row rfl 72 _ _ rfl (w.heap.size+1) _ rfl rfl 72 _ HE4.out (infoDs _ _ _ _) (by rw[dsA_size,dsA_size]) (dsA_all _ _ _ _) ?_))
        simp only[Act.put]
        rw[HW5.out]
        have c0:W5.cell? ⟨w.heap.size,0,none⟩=some (.slice a C.length cap):=block_cell HB5.out rfl
        have c1:W5.cell? ⟨w.heap.size,1,none⟩=some (.int .i64 loops):=block_cell HB5.out rfl
        have c2:W5.cell? ⟨w.heap.size,2,none⟩=some (.slice (some ⟨gF,0,none⟩) (2*C.length+1) cF):=block_cell HB5.out rfl
        have c3:W5.cell? ⟨w.heap.size,3,none⟩=some (.slice (some ⟨gT,0,none⟩) (2*C.length+1) cT):=block_cell HB5.out rfl
        have c5:W5.cell? ⟨w.heap.size,4,none⟩=some (.map (some b)):=block_cell HB5.out rfl
        have HWL:Hid (∀ W,Below W5.heap.size W5 W->Calls Try.prog 42 #[.agg #[.slice a C.length cap,.int .i64 loops,.slice (some ⟨gF,0,none⟩) (2*C.length+1) cF,.slice (some ⟨gT,0,none⟩) (2*C.length+1) cT,.map (some b)],.agg (dsA ⟨s1.arc,upd s1.w s1.arc true,upd s1.ways k 1,s1.r⟩ (X1+chX p) (Z1) c)] W fun e w'=>e=.returned (.agg (dsA (onw (sysC C) (upd s1.w s1.arc true) (upd s1.ways k 1) s1.arc s1.r) (X1+chX p) (Z1) c))/\Below W.heap.size W w'):=fun W hW=>onward_de a cap C loops gF cF gT cT b ⟨s1.arc,upd s1.w s1.arc true,upd s1.ways k 1,s1.r⟩ (X1+chX p) (Z1) c W HM.out hn8 HWI.out.a1 hj (by show s1.r<=1000;have:=HWI.out.r;omega) ((dr_grown HD.out HAP.out HG5.out).on hW)
        go_wp2_with (first
         |(refine wpList_load_row rfl 72 _ rfl (w.heap.size+1) rfl 72 _ (0,0) _ HE5.out Try.underlying72 rfl (infoDs _ _ _ _) ?_)
         |(go_at_call 42;refine(HWL.out _ (Below.refl _ _)).mono ?_;rintro e9 W6 ⟨rfl,hb6⟩;refine Hid.out ?_))
        refine Lib.hid ?_
        have HB6:=hidH hb6
        have HE6:=hidH (HE5.out.on hb6 HE5.out.lt)
        have l6:=hb6.size
        clear hb6 c0 c1 c2 c3 c5
        go_wp2_with (first
         |(refine wpList_store_row rfl 72 _ _ rfl (w.heap.size+1) _ rfl rfl 72 _ HE6.out (infoDs _ _ _ _) (by rw[dsA_size,dsA_size]) (dsA_all _ _ _ _) ?_))
        simp only[Act.put]
        have hl5:=HP5.out.lt
        have hgF:W5.grownBy (W6.setRow (w.heap.size+1) (dsA (onw (sysC C) (upd s1.w s1.arc true) (upd s1.ways k 1) s1.arc s1.r) (X1+chX p) (Z1) c)) (some (w.heap.size+1)):=grown_trans (grown_below HB6.out _) (setRow_grownH _ _ _)
        obtain⟨o1,o2,o3,o4⟩:=onw_okH HM.out (upd s1.w s1.arc true) (upd s1.ways k 1) s1.arc s1.r HWI.out.a1 hj
        go_roundw
        case rel=>
         refine⟨k1,onw (sysC C) (upd s1.w s1.arc true) (upd s1.ways k 1) s1.arc s1.r,X1+chX p,Z1,n1+pwm k1,B1+pwm k1,_,D4,by omega,DeAt.ofRow HE6.out _ _ _ _,?_,HP5.out.kept hgF (fun q=>by have:=Option.some.inj q;omega),?_,?_,?_,(hgF.block _ (Array.getElem?_eq_some_iff.1 HB5.out).1 (fun q=>by have:=Option.some.inj q;omega)).trans HB5.out,grown_to HG5.out hgF (fun q hq=>Or.inl (by have:=Option.some.inj hq;omega))⟩
         · have hw:=HWI.out
           have hpw:=pwm_next k1
           have:=hw.r
           have:=hw.x
           have:=hw.z
           have:=hw.n
           have:=hw.B
           have hun2:=HUN.out
           refine⟨o1,(by rw[o3];exact o2),(by rw[o3];exact hun2),by omega,?_,by omega,hw.c,by omega,by omega⟩
           cases p
           · show(X1+2).natAbs+2*k1<=40;omega
           · show(X1 + -2).natAbs+2*k1<=40;omega
         · have hpw:=pwm_next k1
           have:=HN1.out
           omega
         · have hpw:=pwm_next k1
           have:=HN2.out
           omega
         · show ∀ e,(f1 e+c*smC p*wk (sysC C) k1 (onw (sysC C) (upd s1.w s1.arc true) (upd s1.ways k 2) s1.arc s1.r) (e-(1000*(X1+smX p)+(Z1+1))))+c*wk (sysC C) k1 (onw (sysC C) (upd s1.w s1.arc true) (upd s1.ways k 1) s1.arc s1.r) (e-(1000*(X1+chX p)+(Z1)))=f e+c*wk (sysC C) m s (e-(1000*X+Z))
           intro e
           rw[<-HF.out e]
           rw[wk_below (S:=sysC C) ha1 hj (by show s1.ways (toC C s1.arc)=0;rw[HK.out,HWY.out,hw0]) (decide_eq_true HBE.out)]
           rw[show(sysC C).cr s1.arc=k from HK.out,show(sysC C).plus k=p from HPL.out]
           exact wk_sum _ _ _ _ _ _ _ _
        case measure=>
         rw[DeAt.un (DeAt.ofRow HE6.out (onw (sysC C) (upd s1.w s1.arc true) (upd s1.ways k 1) s1.arc s1.r) (X1+chX p) (Z1) c),HMS.out,o3]
         exact HLT.out
      · have HMA:=hidH (met_above a cap C loops gF cF gT cT b ⟨s1.arc,upd s1.w s1.arc true,s1.ways,s1.r⟩ X1 Z1 c k W3 HM.out (by omega) ha1 hj hbe HD3.out)
        have HBE:=hidH hbe
        unfold dcV at HMA
        go_wp2_with (first
         |(refine wpList_load_row rfl 72 _ rfl (w.heap.size+1) rfl 72 _ (0,0) _ HE3.out Try.underlying72 rfl (infoDs _ _ _ _) ?_)
         |(go_at_call 41;refine HMA.out.mono ?_;rintro e9 W4 ⟨rfl,hb4⟩;refine Hid.out ?_))
        refine Lib.hid ?_
        have HE4:=hidH (HE3.out.on hb4 HE3.out.lt)
        have HB4:=hidH ((hb4.block _ (Array.getElem?_eq_some_iff.1 HB3.out).1).trans HB3.out)
        have HP4:=hidH (HP3.out.kept (grown_below hb4 none) (by simp))
        have HG4:=hidH (grown_to HG3.out (grown_below hb4 (some b)) (fun q hq=>Or.inr hq))
        have hl4:=HP4.out.lt
        have hl44:=hb4.size
        clear hb4 HMA c0 c1 c2 c3 c5 d0 d1 t0 l0
        have HE5:=hidH (DeAt.ofRow HE4.out ⟨s1.arc,upd s1.w s1.arc true,upd s1.ways k 1,s1.r⟩ X1 Z1 c)
        obtain⟨W5,hW5⟩:∃ W5,W4.setRow (w.heap.size+1) (dsA ⟨s1.arc,upd s1.w s1.arc true,upd s1.ways k 1,s1.r⟩ X1 Z1 c)=W5:=⟨_,rfl⟩
        have HW5:=hidH hW5
        rw[hW5]at HE5
        have hg5:W4.grownBy W5 (some (w.heap.size+1)):=by rw[<-hW5];exact setRow_grownH _ _ _
        have HB5:=hidH ((hg5.block _ (Array.getElem?_eq_some_iff.1 HB4.out).1 (fun q=>by have:=Option.some.inj q;omega)).trans HB4.out)
        have HP5:=hidH (HP4.out.kept hg5 (fun q=>by have:=Option.some.inj q;omega))
        have HG5:=hidH (grown_to HG4.out hg5 (fun q hq=>Or.inl (by have:=Option.some.inj hq;omega)))
        clear hW5 hg5
        go_upto_region 6 with (first
         |(refine wpList_store_row rfl 72 _ _ rfl (w.heap.size+1) _ rfl rfl 72 _ HE4.out (infoDs _ _ _ _) (by rw[dsA_size,dsA_size]) (dsA_all _ _ _ _) ?_))
        simp only[Act.put]
        rw[HW5.out]
        have c0:W5.cell? ⟨w.heap.size,0,none⟩=some (.slice a C.length cap):=block_cell HB5.out rfl
        have c1:W5.cell? ⟨w.heap.size,1,none⟩=some (.int .i64 loops):=block_cell HB5.out rfl
        have c2:W5.cell? ⟨w.heap.size,2,none⟩=some (.slice (some ⟨gF,0,none⟩) (2*C.length+1) cF):=block_cell HB5.out rfl
        have c3:W5.cell? ⟨w.heap.size,3,none⟩=some (.slice (some ⟨gT,0,none⟩) (2*C.length+1) cT):=block_cell HB5.out rfl
        have c5:W5.cell? ⟨w.heap.size,4,none⟩=some (.map (some b)):=block_cell HB5.out rfl
        have HWL:Hid (∀ W,Below W5.heap.size W5 W->Calls Try.prog 42 #[.agg #[.slice a C.length cap,.int .i64 loops,.slice (some ⟨gF,0,none⟩) (2*C.length+1) cF,.slice (some ⟨gT,0,none⟩) (2*C.length+1) cT,.map (some b)],.agg (dsA ⟨s1.arc,upd s1.w s1.arc true,upd s1.ways k 1,s1.r⟩ (X1) (Z1) c)] W fun e w'=>e=.returned (.agg (dsA (onw (sysC C) (upd s1.w s1.arc true) (upd s1.ways k 1) s1.arc s1.r) (X1) (Z1) c))/\Below W.heap.size W w'):=fun W hW=>onward_de a cap C loops gF cF gT cT b ⟨s1.arc,upd s1.w s1.arc true,upd s1.ways k 1,s1.r⟩ (X1) (Z1) c W HM.out hn8 HWI.out.a1 hj (by show s1.r<=1000;have:=HWI.out.r;omega) ((dr_grown HD.out HAP.out HG5.out).on hW)
        go_wp2_with (first
         |(refine wpList_load_row rfl 72 _ rfl (w.heap.size+1) rfl 72 _ (0,0) _ HE5.out Try.underlying72 rfl (infoDs _ _ _ _) ?_)
         |(go_at_call 42;refine(HWL.out _ (Below.refl _ _)).mono ?_;rintro e9 W6 ⟨rfl,hb6⟩;refine Hid.out ?_))
        refine Lib.hid ?_
        have HB6:=hidH hb6
        have HE6:=hidH (HE5.out.on hb6 HE5.out.lt)
        have l6:=hb6.size
        clear hb6 c0 c1 c2 c3 c5
        go_wp2_with (first
         |(refine wpList_store_row rfl 72 _ _ rfl (w.heap.size+1) _ rfl rfl 72 _ HE6.out (infoDs _ _ _ _) (by rw[dsA_size,dsA_size]) (dsA_all _ _ _ _) ?_))
        simp only[Act.put]
        have hl5:=HP5.out.lt
        have hgF:W5.grownBy (W6.setRow (w.heap.size+1) (dsA (onw (sysC C) (upd s1.w s1.arc true) (upd s1.ways k 1) s1.arc s1.r) (X1) (Z1) c)) (some (w.heap.size+1)):=grown_trans (grown_below HB6.out _) (setRow_grownH _ _ _)
        obtain⟨o1,o2,o3,o4⟩:=onw_okH HM.out (upd s1.w s1.arc true) (upd s1.ways k 1) s1.arc s1.r HWI.out.a1 hj
        go_roundw
        case rel=>
         refine⟨k1,onw (sysC C) (upd s1.w s1.arc true) (upd s1.ways k 1) s1.arc s1.r,X1,Z1,n1,B1,f1,D1,by omega,DeAt.ofRow HE6.out _ _ _ _,?_,HP5.out.kept hgF (fun q=>by have:=Option.some.inj q;omega),?_,?_,?_,(hgF.block _ (Array.getElem?_eq_some_iff.1 HB5.out).1 (fun q=>by have:=Option.some.inj q;omega)).trans HB5.out,grown_to HG5.out hgF (fun q hq=>Or.inl (by have:=Option.some.inj hq;omega))⟩
         · have hw:=HWI.out
           have hpw:=pwm_next k1
           have:=hw.r
           have:=hw.x
           have:=hw.z
           have:=hw.n
           have:=hw.B
           have hun2:=HUN.out
           refine⟨o1,(by rw[o3];exact o2),(by rw[o3];exact hun2),by omega,?_,by omega,hw.c,by omega,by omega⟩
           omega
         · have hpw:=pwm_next k1
           have:=HN1.out
           omega
         · have hpw:=pwm_next k1
           have:=HN2.out
           omega
         · show ∀ e,f1 e+c*wk (sysC C) k1 (onw (sysC C) (upd s1.w s1.arc true) (upd s1.ways k 1) s1.arc s1.r) (e-(1000*(X1)+(Z1)))=f e+c*wk (sysC C) m s (e-(1000*X+Z))
           intro e
           rw[<-HF.out e]
           rw[wk_over (S:=sysC C) ha1 hj (by show s1.ways (toC C s1.arc)=0;rw[HK.out,HWY.out,hw0]) (decide_eq_false HBE.out),show(sysC C).cr s1.arc=k from HK.out]
        case measure=>
         rw[DeAt.un (DeAt.ofRow HE6.out (onw (sysC C) (upd s1.w s1.arc true) (upd s1.ways k 1) s1.arc s1.r) (X1) (Z1) c),HMS.out,o3]
         exact HLT.out
    · have hd0:((wy:Int)==0)=false:=by rw[beq_eq_false_iff_ne];omega
      go_upto_region 6 with(fail)
      obtain⟨W5,hW5⟩:∃ W5,W3=W5:=⟨_,rfl⟩
      subst hW5
      clear c0 c1 c2 c3 c5
      have c0:W3.cell? ⟨w.heap.size,0,none⟩=some (.slice a C.length cap):=block_cell HB3.out rfl
      have c1:W3.cell? ⟨w.heap.size,1,none⟩=some (.int .i64 loops):=block_cell HB3.out rfl
      have c2:W3.cell? ⟨w.heap.size,2,none⟩=some (.slice (some ⟨gF,0,none⟩) (2*C.length+1) cF):=block_cell HB3.out rfl
      have c3:W3.cell? ⟨w.heap.size,3,none⟩=some (.slice (some ⟨gT,0,none⟩) (2*C.length+1) cT):=block_cell HB3.out rfl
      have c5:W3.cell? ⟨w.heap.size,4,none⟩=some (.map (some b)):=block_cell HB3.out rfl
      have HWL:Hid (∀ W,Below W3.heap.size W3 W->Calls Try.prog 42 #[.agg #[.slice a C.length cap,.int .i64 loops,.slice (some ⟨gF,0,none⟩) (2*C.length+1) cF,.slice (some ⟨gT,0,none⟩) (2*C.length+1) cT,.map (some b)],.agg (dsA ⟨s1.arc,upd s1.w s1.arc true,s1.ways,s1.r⟩ (X1) (Z1) c)] W fun e w'=>e=.returned (.agg (dsA (onw (sysC C) (upd s1.w s1.arc true) (s1.ways) s1.arc s1.r) (X1) (Z1) c))/\Below W.heap.size W w'):=fun W hW=>onward_de a cap C loops gF cF gT cT b ⟨s1.arc,upd s1.w s1.arc true,s1.ways,s1.r⟩ (X1) (Z1) c W HM.out hn8 HWI.out.a1 hj (by show s1.r<=1000;have:=HWI.out.r;omega) ((dr_grown HD.out HAP.out HG3.out).on hW)
      go_wp2_with (first
       |(refine wpList_load_row rfl 72 _ rfl (w.heap.size+1) rfl 72 _ (0,0) _ HE3.out Try.underlying72 rfl (infoDs _ _ _ _) ?_)
       |(go_at_call 42;refine(HWL.out _ (Below.refl _ _)).mono ?_;rintro e9 W6 ⟨rfl,hb6⟩;refine Hid.out ?_))
      refine Lib.hid ?_
      have HB6:=hidH hb6
      have HE6:=hidH (HE3.out.on hb6 HE3.out.lt)
      have l6:=hb6.size
      clear hb6 c0 c1 c2 c3 c5
      go_wp2_with (first
       |(refine wpList_store_row rfl 72 _ _ rfl (w.heap.size+1) _ rfl rfl 72 _ HE6.out (infoDs _ _ _ _) (by rw[dsA_size,dsA_size]) (dsA_all _ _ _ _) ?_))
      simp only[Act.put]
      have hl5:=HP3.out.lt
      have hgF:W3.grownBy (W6.setRow (w.heap.size+1) (dsA (onw (sysC C) (upd s1.w s1.arc true) (s1.ways) s1.arc s1.r) (X1) (Z1) c)) (some (w.heap.size+1)):=grown_trans (grown_below HB6.out _) (setRow_grownH _ _ _)
      obtain⟨o1,o2,o3,o4⟩:=onw_okH HM.out (upd s1.w s1.arc true) (s1.ways) s1.arc s1.r HWI.out.a1 hj
      go_roundw
      case rel=>
       refine⟨k1,onw (sysC C) (upd s1.w s1.arc true) (s1.ways) s1.arc s1.r,X1,Z1,n1,B1,f1,D1,by omega,DeAt.ofRow HE6.out _ _ _ _,?_,HP3.out.kept hgF (fun q=>by have:=Option.some.inj q;omega),?_,?_,?_,(hgF.block _ (Array.getElem?_eq_some_iff.1 HB3.out).1 (fun q=>by have:=Option.some.inj q;omega)).trans HB3.out,grown_to HG3.out hgF (fun q hq=>Or.inl (by have:=Option.some.inj hq;omega))⟩
       · have hw:=HWI.out
         have hpw:=pwm_next k1
         have:=hw.r
         have:=hw.x
         have:=hw.z
         have:=hw.n
         have:=hw.B
         have hun2:=HUN.out
         refine⟨o1,(by rw[o3];exact o2),(by rw[o3];exact hun2),by omega,?_,by omega,hw.c,by omega,by omega⟩
         omega
       · have hpw:=pwm_next k1
         have:=HN1.out
         omega
       · have hpw:=pwm_next k1
         have:=HN2.out
         omega
       · show ∀ e,f1 e+c*wk (sysC C) k1 (onw (sysC C) (upd s1.w s1.arc true) (s1.ways) s1.arc s1.r) (e-(1000*(X1)+(Z1)))=f e+c*wk (sysC C) m s (e-(1000*X+Z))
         intro e
         rw[<-HF.out e]
         rw[wk_on (S:=sysC C) ha1 hj (by show s1.ways (toC C s1.arc)≠0;rw[HK.out,HWY.out];exact hw0)]
      case measure=>
       rw[DeAt.un (DeAt.ofRow HE6.out (onw (sysC C) (upd s1.w s1.arc true) (s1.ways) s1.arc s1.r) (X1) (Z1) c),HMS.out,o3]
       exact HLT.out
  · have hdj:decide (s1.arc<=2*C.length)=false:=decide_eq_false hj
    rw[hdj]
    clear hdj
    obtain⟨r0,r1,r2⟩:=HE2.out.worth
    have r3:W2.cell? ⟨w.heap.size+1,26,none⟩=some (.int .i64 (s1.r:Nat)):=HE2.out.rings
    have c0:W2.cell? ⟨w.heap.size,0,none⟩=some (.slice a C.length cap):=block_cell HB2.out rfl
    have c1:W2.cell? ⟨w.heap.size,1,none⟩=some (.int .i64 loops):=block_cell HB2.out rfl
    have c2:W2.cell? ⟨w.heap.size,2,none⟩=some (.slice (some ⟨gF,0,none⟩) (2*C.length+1) cF):=block_cell HB2.out rfl
    have c3:W2.cell? ⟨w.heap.size,3,none⟩=some (.slice (some ⟨gT,0,none⟩) (2*C.length+1) cT):=block_cell HB2.out rfl
    have c5:W2.cell? ⟨w.heap.size,4,none⟩=some (.map (some b)):=block_cell HB2.out rfl
    have HSr:Hid (∀ W,Below W2.heap.size W2 W->(fun X':World=>X'.cell? ⟨w.heap.size,4,none⟩=some (.map (some b))/\X'.cell? ⟨w.heap.size+1,26,none⟩=some (.int .i64 (s1.r:Nat))/\X'.cell? ⟨w.heap.size+1,27,none⟩=some (.int .i64 X1)/\X'.cell? ⟨w.heap.size+1,28,none⟩=some (.int .i64 Z1)/\X'.cell? ⟨w.heap.size+1,29,none⟩=some (.int .i64 c)) W):=fun W hW=>by
     have k1:=HE2.out.on hW HE2.out.lt
     exact⟨block_cell ((hW.block _ (Array.getElem?_eq_some_iff.1 HB2.out).1).trans HB2.out) rfl,k1.rings,k1.worth.1,k1.worth.2.1,k1.worth.2.2⟩
    have HDr:Hid (Below W2.heap.size W2 W2.drew):=(Below.refl _ _).drew
    have hw:=HWI.out
    have hwr:=hw.r
    have hwx:=hw.x
    have hwz:=hw.z
    have HRG:=hidH (fun W=>rings_any s1.r W (by omega))
    clear r0 r1 r2 r3 c0 c1 c2 c3 c5 hw
    go_upto_region 7 with(fail)
    refine rhd HSr HDr.out (fun hHeld=>?_)
    refine tq 34 0 (h:=?_)
    refine tq 35 1 (h:=?_)
    refine tq 36 2 (h:=?_)
    refine tq 37 3 (h:=?_)
    refine tq 39 5 (h:=?_)
    refine tq 40 6 (h:=?_)
    simp only[List.setIfInBounds_toArray,List.set_cons_succ,List.set_cons_zero]
    refine rd1 4 ?_
    intro K0 hK0
    go_simp
    go_wp2_with (go_at_call 44;refine(HRG.out _).mono ?_;rintro e9 W3 ⟨b3,D3,rfl,hb3,hp3,hB3⟩)
    have HB3:=hidH (HDr.out.trans hB3)
    have HP3:=hidH hp3
    have hs3:=HDr.out.size
    have HG3:=hidH (grown_to HG2.out (grown_below HB3.out (some b)) (fun q hq=>Or.inr hq))
    have hlb2:=HP2.out.lt
    have hpr:=pwm_ge m1 s1.r (by omega)
    have HAD:=hidH (add_pairs b n1 B1 100 b3 (2 ^ s1.r) (2 ^ s1.r) s1.r f1 (pwR s1.r) D1 D3 X1 Z1 c W3 (HP2.out.kept (grown_below HB3.out none) (by simp)) hp3 (by omega) (by rcases HWI.out.c with q|q;exact Or.inl q;exact Or.inr (Or.inl q)) (by omega) (by omega) (Nat.le_refl _) (by have:=HWI.out.n;omega) (by have:=HWI.out.B;omega))
    clear hb3 hp3 hB3
    refine hK0.out _ _ (HSr.out _ HB3.out) (fun hHeld=>?_)
    clear hK0 K0
    try simp only[Act.put]
    try simp only[List.getElem_toArray]
    try simp only[List.getElem_cons_succ]
    try simp only[List.getElem_cons_zero]
    try simp only[List.setIfInBounds_toArray,List.set_cons_succ,List.set_cons_zero]
    refine rd1 7 ?_
    intro K0 hK0
    go_simp
    go_wp2_with (go_at_call 43;refine HAD.out.mono ?_;rintro e9 W4 ⟨rfl,D4,hp4,hg4⟩)
    have HP4:=hidH hp4
    have HG4:=hidH hg4
    have HG5:=hidH (grown_trans HG3.out hg4)
    clear hp4 hg4
    refine hK0.out _ _ ?held (fun _=>?_)
    case held=>
     have h0:=HSr.out _ HB3.out
     have hk:∀ g j u,g<W3.heap.size->g≠b->W3.cell? ⟨g,j,none⟩=some u->W4.cell? ⟨g,j,none⟩=some u:=fun g j u hl hne hu=>by
      simp only[World.cell?]at hu ⊢
      rw[HG4.out.block g hl (fun q=>hne (Option.some.inj q))]
      exact hu
     have l3:=HB3.out.size
     have l2:=HE2.out.lt
     exact⟨hk _ _ _ (by omega) (by omega) h0.1,hk _ _ _ (by omega) (by omega) h0.2.1,hk _ _ _ (by omega) (by omega) h0.2.2.1,hk _ _ _ (by omega) (by omega) h0.2.2.2.1,hk _ _ _ (by omega) (by omega) h0.2.2.2.2⟩
    clear hK0 K0
    refine wpAnyH_done (by kernel_rfl) ?_ _
    go_wp2
    refine bodyPost_end (results_none rfl _ _ _) rfl ⟨rfl,D4,?_,HG5.out⟩
    have h1:=HN1.out
    have h2:=HN2.out
    refine(HP4.out.mono (by omega) (by omega) (Nat.le_refl _)).congr fun e=>?_
    rw[<-HF.out e,wk_out (S:=sysC C) (by show 2*C.length<s1.arc;omega)]
theorem walk_all (a:Option Addr) (cap:Nat) (C:List Cr) (loops:Int) (gF cF gT cT b:Nat) (hm:mayD C loops=true) (hn8:C.length<=8) (hap:Apart a C.length gF gT b) (m:Nat):WalkOk a cap C loops gF cF gT cT b m:=
 Nat.strongRecOn m (fun m ih=>walk_de a cap C loops gF cF gT cT b m hm hn8 hap ih)
end Go.Proofs.Ytefooihnoajnlaa.Poly

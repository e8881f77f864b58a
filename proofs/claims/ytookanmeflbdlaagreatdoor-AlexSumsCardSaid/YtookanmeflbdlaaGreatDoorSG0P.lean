/- Several texts of the proof, one behind the other. -/
import Derived.Test.YtookanmeflbdlaaGreatDoorF2P
import Derived.Test.YtookanmeflbdlaaGreatDoorF12P
import Derived.Test.YtookanmeflbdlaaGreatDoorTkhP
import Derived.Test.YtookanmeflbdlaaGreatDoorW1P
/- Shades of faces: plain mathematics. -/
namespace Go.Proofs.YtookanmeflbdlaaGreatDoor
def tn (j:Nat):Nat:=mkD (dA j) (!dB j)
theorem JY2 {j n:Nat} (h1:1<=j) (h2:j<=4*n):1<=tn j/\tn j<=4*n:=by
 have h:=QC3 h1 h2
 exact QC2 h.1 h.2
theorem Xb0 {C:List Cr} {loops:Int} (hm:QQ6 C loops=true) (h:ZY2 C loops=true):0<C.length/\loops=0/\∀ k,k<C.length->Con (QV5 C) 0 k:=by
 unfold ZY2 at h
 rw[Bool.and_eq_true,Bool.and_eq_true,decide_eq_true_eq,decide_eq_true_eq,List.all_eq_true]at h
 obtain⟨⟨h1,h2⟩,h3⟩:=h
 have hW:=QK3 hm
 refine⟨h1,h3,fun k hk=>(hW.same h1 hk).1 ?_⟩
 have a:=h2 k (List.mem_range.2 hk)
 have b:=h2 0 (List.mem_range.2 h1)
 rw[decide_eq_true_eq]at a b
 rw[a,b]
structure Shd (C:List Cr) (s:Nat->Nat):Prop where
 zero:s 0=0
 two:∀ f,s f<2
 arc:∀ j,1<=j->j<=4*C.length->s (fo C (tn j))=1-s (fo C j)
theorem Kw5 {C:List Cr} {loops:Int} (hm:QQ6 C loops=true) (h:ZY2 C loops=true) (S:Nat->Prop) (h0:S 0) (hn:∀ j,1<=j->j<=4*C.length->S (fo C j)->S (fo C (tn j))):∀ f,f<(QQ3 C).length->S f:=by
 obtain⟨hp,-,h1⟩:=Xb0 hm h
 intro f hf
 obtain⟨k,s,hk,hs,rfl⟩:=XH1 hm f hf
 obtain⟨k0,s0,hk0,hs0,e0⟩:=XH1 hm 0 (by omega)
 have hcl:Closed (Qk3 (dfE C) (fun _=>true) (2*C.length)) S:=fun e he=>by
  obtain⟨i,hi,-,rfl⟩:=incl_mem.1 he
  unfold dfE
  have u:=QC2 (a:=i+1) (p:=true) (n:=C.length) (by omega) (by omega)
  have v:=QC2 (a:=i+1) (p:=false) (n:=C.length) (by omega) (by omega)
  have a:=hn _ u.1 u.2
  have b:=hn _ v.1 v.2
  unfold tn at a b
  rw[XW2 (by omega),XW1 (by omega)]at a b
  exact⟨a,b⟩
 have c1:=(Qd7 hm h1 k0 s0 hk0 hs0).symm
 have c2:=Qd7 hm h1 k s hk hs
 exact c2 S hcl (c1 S hcl (e0▸h0))
theorem Xk8 {C:List Cr} {loops:Int} (hm:QQ6 C loops=true) (hp:QX6 C=true) (h:ZY2 C loops=true):(QQ3 C).length=C.length+2:=by
 obtain⟨h0,-,h1⟩:=Xb0 hm h
 exact KX0 hm hp h0 h1
def Sd (s:Nat->Nat) (F:Nat) (L:List Int):Prop:=L.length=F/\∀ f,f<F->L.getD f 0 = -1∨L.getD f 0=(s f:Nat)
def uns (L:List Int):Nat:=L.countP (fun z=>decide (z = -1))
theorem Xu7:∀ (L:List Int) (f:Nat) (z:Int),f<L.length->L.getD f 0 = -1->z ≠ -1->uns (L.set f z)+1=uns L
 |[],f,z,h,_,_=>absurd h (Nat.not_lt_zero _)
 |x::L,0,z,_,h,hz=>by
  have hx:x = -1:=h
  unfold uns
  rw[List.set_cons_zero,List.countP_cons,List.countP_cons,hx]
  simp[hz]
 |x::L,f+1,z,h,h2,hz=>by
  have ih:=Xu7 L f z (by simpa using h) (by simpa using h2) hz
  unfold uns at ih ⊢
  rw[List.set_cons_succ,List.countP_cons,List.countP_cons]
  omega
theorem QA4 (L:List Int) (f g:Nat) (z:Int):(L.set f z).getD g 0=if f=g/\f<L.length then z else L.getD g 0:=by
 rw[List.getD_eq_getElem?_getD,List.getElem?_set,List.getD_eq_getElem?_getD]
 by_cases e:f=g
 · subst e
   by_cases hl:f<L.length
   · simp[hl]
   · simp[hl]
 · simp[e]
theorem Sd.set {s:Nat->Nat} {F:Nat} {L:List Int} (h:Sd s F L) (f:Nat):Sd s F (L.set f (s f:Nat)):=by
 refine⟨by rw[List.length_set];exact h.1,fun g hg=>?_⟩
 rw[QA4]
 by_cases e:f=g/\f<L.length
 · rw[if_pos e,e.1]
   exact Or.inr rfl
 · rw[if_neg e]
   exact h.2 g hg
theorem JX1 {L L':List Int} (hl:L.length=L'.length) (h:∀ g,g<L.length->L.getD g 0 ≠ -1->L'.getD g 0 ≠ -1):uns L'<=uns L:=by
 induction L generalizing L' with
 |nil=>
  cases L' with
  |nil=>exact Nat.le_refl _
  |cons _ _=>cases hl
 |cons x L ih=>
  cases L' with
  |nil=>cases hl
  |cons y L'=>
   have h0:=h 0 (by simp)
   have hr:=ih (L':=L') (by simpa using hl) (fun g hg=>by have:=h (g+1) (by simpa using hg);simpa using this)
   unfold uns at hr ⊢
   rw[List.countP_cons,List.countP_cons]
   simp at h0
   by_cases hx:x = -1
   · by_cases hy:y = -1
     · simp[hx,hy];exact hr
     · simp[hx,hy];omega
   · simp[hx,h0 hx];exact hr
structure Spd (C:List Cr) (s:Nat->Nat) (f:Nat) (L L':List Int):Prop where
 sd:Sd s (QQ3 C).length L'
 keep:∀ g,g<(QQ3 C).length->L.getD g 0 ≠ -1->L'.getD g 0 ≠ -1
 here:L'.getD f 0 ≠ -1
 new:∀ g,g<(QQ3 C).length->L.getD g 0 = -1->L'.getD g 0 ≠ -1->∀ j,1<=j->j<=4*C.length->fo C j=g->L'.getD (fo C (tn j)) 0 ≠ -1
structure Spi (C:List Cr) (s:Nat->Nat) (f:Nat) (P:List Nat) (L M:List Int):Prop where
 sd:Sd s (QQ3 C).length M
 keep:∀ g,g<(QQ3 C).length->L.getD g 0 ≠ -1->M.getD g 0 ≠ -1
 here:M.getD f 0 ≠ -1
 new:∀ g,g<(QQ3 C).length->g≠f->L.getD g 0 = -1->M.getD g 0 ≠ -1->∀ j,1<=j->j<=4*C.length->fo C j=g->M.getD (fo C (tn j)) 0 ≠ -1
 done:∀ j,j∈P->fo C j=f->M.getD (fo C (tn j)) 0 ≠ -1
 less:uns M<uns L
theorem Spi.start {C:List Cr} {s:Nat->Nat} {f:Nat} {L:List Int} (h:Sd s (QQ3 C).length L) (hf:f<(QQ3 C).length) (hL:L.getD f 0 = -1):Spi C s f [] L (L.set f (s f:Nat)):=by
 have hfl:f<L.length:=by rw[h.1];exact hf
 have hne:((s f:Nat):Int) ≠ -1:=by omega
 refine⟨h.set f,fun g hg h1=>?_,?_,fun g hg hgf h1 h2=>?_,fun j h1=>absurd h1 List.not_mem_nil,by have:=Xu7 L f (s f:Nat) hfl hL hne;omega⟩
 · rw[QA4]
   split
   · exact hne
   · exact h1
 · rw[QA4,if_pos ⟨rfl,hfl⟩];exact hne
 · rw[QA4,if_neg (fun e=>hgf e.1.symm)]at h2
   exact absurd h1 h2
theorem Spi.pass {C:List Cr} {s:Nat->Nat} {f x:Nat} {P:List Nat} {L M:List Int} (h:Spi C s f P L M) (hi:fo C x≠f∨M.getD (fo C (tn x)) 0 ≠ -1):Spi C s f (P++[x]) L M:=
 ⟨h.sd, h.keep, h.here, h.new, fun j h1 hf => by
  rcases List.mem_append.1 h1 with q|q
  · exact h.done j q hf
  · rw[List.mem_singleton]at q
    subst q
    rcases hi with hi|hi
    · exact absurd hf hi
    · exact hi,h.less⟩
theorem KD4 (L:List Int) (f:Nat) (h:L.length<=f):L.getD f 0 ≠ -1:=by
 rw[List.getD_eq_getElem?_getD,List.getElem?_eq_none h]
 decide
theorem Spi.step {C:List Cr} {s:Nat->Nat} {f x:Nat} {P:List Nat} {L M M':List Int} (h:Spi C s f P L M) (hM:Spd C s (fo C (tn x)) M M'):Spi C s f (P++[x]) L M':=by
 have hF:=h.sd.1
 have hF':=hM.sd.1
 have hk:∀ g,M.getD g 0 ≠ -1->M'.getD g 0 ≠ -1:=fun g hg=>by
  by_cases hl:g<(QQ3 C).length
  · exact hM.keep g hl hg
  · exact KD4 M' g (by omega)
 refine⟨hM.sd,fun g hg h1=>hk g (h.keep g hg h1),hk f h.here,fun g hg hgf h1 h2 j hj1 hj2 hj=>?_,fun j h1 hf=>?_,Nat.lt_of_le_of_lt (JX1 (by rw[hF,hF']) (fun g _=>hk g)) h.less⟩
 · by_cases hg2:M.getD g 0 = -1
   · exact hM.new g hg hg2 h2 j hj1 hj2 hj
   · exact hk _ (h.new g hg hgf h1 hg2 j hj1 hj2 hj)
 · rcases List.mem_append.1 h1 with q|q
   · exact hk _ (h.done j q hf)
   · rw[List.mem_singleton]at q
     subst q
     exact hM.here
theorem Spi.spd {C:List Cr} {s:Nat->Nat} {f:Nat} {P:List Nat} {L M:List Int} (h:Spi C s f P L M) (hP:∀ j,1<=j->j<=4*C.length->j∈P):Spd C s f L M:=
 ⟨h.sd, h.keep, h.here, fun g hg h1 h2 j hj1 hj2 hj => by
  by_cases e:g=f
  · subst e;exact h.done j (hP j hj1 hj2) hj
  · exact h.new g hg e h1 h2 j hj1 hj2 hj⟩
def shL (s:Nat->Nat) (F:Nat):List Int:=(List.range F).map fun f=>((s f:Nat):Int)
theorem Spd.all {C:List Cr} {loops:Int} {s:Nat->Nat} {L L':List Int} (hm:QQ6 C loops=true) (ho:ZY2 C loops=true) (hL:∀ g,g<(QQ3 C).length->L.getD g 0 = -1) (h:Spd C s 0 L L'):L'=shL s (QQ3 C).length:=by
 have hall:∀ g,g<(QQ3 C).length->L'.getD g 0 ≠ -1:=Kw5 hm ho (fun g=>L'.getD g 0 ≠ -1) h.here (fun j h1 h2 hj=>h.new (fo C j) (Xq3 j h1 h2) (hL _ (Xq3 j h1 h2)) hj j h1 h2 rfl)
 apply List.ext_getElem?
 intro i
 by_cases hi:i<(QQ3 C).length
 · have h1:=hall i hi
   have h2:=h.sd.2 i hi
   have e:L'[i]?=some (L'.getD i 0):=by rw[List.getD_eq_getElem?_getD,List.getElem?_eq_getElem (by rw[h.sd.1];exact hi)];rfl
   rw[e]
   rcases h2 with h2|h2
   · exact absurd h2 h1
   · rw[h2]
     simp[shL,hi]
 · rw[List.getElem?_eq_none (by rw[h.sd.1];omega),List.getElem?_eq_none (by simp[shL];omega)]
end Go.Proofs.YtookanmeflbdlaaGreatDoor
/- One more than the greatest number of a list; the walk of ref.mostOf. -/
namespace Go.Proofs.YtookanmeflbdlaaGreatDoor
open Go.RowKit
def QU2 (l:List Nat):Nat->Nat
 |0=>0
 |k+1=>max (QU2 l k) (l.getD k 0+1)
theorem Zg1 (l:List Nat) (B k:Nat) (hk:k<=l.length) (h:∀ x,x∈l->x<B):QU2 l k<=B:=by
 induction k with
 |zero=>exact Nat.zero_le _
 |succ k ih=>
  have:=ih (by omega)
  have h2:=h (l.getD k 0) (by rw[List.getD_eq_getElem?_getD,List.getElem?_eq_getElem (by omega)];exact List.getElem_mem _)
  simp only[QU2]
  omega
theorem Zg0 {C:List Cr} (hL:Least (ovE C) (2*C.length+1) (QJ6 C)) (hpos:∀ v,1<=v->v<2*C.length+1->1<=(QJ6 C).getD v 0) (k:Nat) (hk:k<=2*C.length):QU2 (ovL C (2*C.length)) k=QQ7 (QJ6 C) (k+1):=by
 induction k with
 |zero=>simp[QU2,QQ7]
 |succ k ih=>
  have h1:=ih (by omega)
  have e:(ovL C (2*C.length)).getD k 0=ovM C (k+1):=by simp[ovL,List.getD_eq_getElem?_getD,show k<2*C.length by omega]
  have hv:k+1<2*C.length+1:=by omega
  simp only[QU2]
  rw[h1,e]
  show max (QQ7 (QJ6 C) (k+1)) (ovM C (k+1)+1)=QQ7 (QJ6 C) (k+1)+(if 1<=k+1/\(QJ6 C).getD (k+1) 0=k+1 then 1 else 0)
  by_cases hr:(QJ6 C).getD (k+1) 0=k+1
  · rw[if_pos ⟨by omega,hr⟩]
    unfold ovM
    rw[hr]
    omega
  · rw[if_neg (fun z=>hr z.2)]
    have hle:=hL.le hv
    have hp:=hpos (k+1) (by omega) hv
    have hroot:=hL.root hv
    have h3:QQ7 (QJ6 C) ((QJ6 C).getD (k+1) 0+1)=ovM C (k+1)+1:=by
     show QQ7 (QJ6 C) _+_=_
     rw[if_pos ⟨hp,hroot⟩]
     rfl
    have h4:=QB9 (QJ6 C) ((QJ6 C).getD (k+1) 0+1) (k+1) (by omega)
    omega
end Go.Proofs.YtookanmeflbdlaaGreatDoor
/- The walk of colour.Overs. -/
namespace Go.Proofs.YtookanmeflbdlaaGreatDoor
open Go.RowKit
set_option maxHeartbeats 4000000
set_option maxRecDepth 100000
theorem KY3 (hFR : QQ8) (v : Value) (C : List Cr) (loops : Int) (w : World) (hn : noN C loops ≠ 0) (h : Crs w w.heap.size v C) :
    Calls Tryz.prog 41 #[.agg #[v,.int .i64 loops]] w fun e w'=>e=.returned (.tuple #[.slice none 0 0,.int .i64 (noN C loops)])/\Below w.heap.size w w':=by
 have HC:Hid (Crs w w.heap.size v C):=h
 obtain⟨a,cap,rfl,-,-⟩:=h
 have HF:Hid (∀ W,Crs W W.heap.size (.slice a C.length cap) C->Calls Tryz.prog 26 #[.agg #[.slice a C.length cap,.int .i64 loops]] W fun e w'=>e=.returned (.tuple #[QX0,.int .i64 (noN C loops)])/\Below W.heap.size W w'):=fun W hW=>KD5 hFR a cap C loops W hn hW
 generalize noN C loops=r at hn HF
 have hr0:(r==0)=false:=beq_eq_false_iff_ne.2 hn
 have HB1:Hid (Below w.heap.size w (w.alloc (.cells #[.slice a C.length cap,.int .i64 loops] 24))):=(Below.refl _ _).alloc (Nat.le_refl _) _
 go_enter Tryz.func41,Tryz.ntmps41
 go_wp2_with (go_at_call 26;refine(HF.out _ (HC.out.up HB1.out)).mono ?_;rintro e9 w2 ⟨rfl,hb2⟩;refine Hid.out ?_)
 refine Lib.hid ?_
 unfold QX0
 have HB2:Hid (Below w.heap.size w w2):=HB1.out.trans (hb2.mono HB1.out.size)
 clear hb2
 go_wp2
 go_ret2
 exact⟨rfl,HB2.out.alloc HB2.out.size _⟩
theorem Xz9 (hFR : QQ8) (v : Value) (C : List Cr) (loops : Int) (w : World) (hn : noN C loops = 0) (h : Crs w w.heap.size v C) :
    Calls Tryz.prog 41 #[.agg #[v,.int .i64 loops]] w fun e w'=>∃ a c,e=.returned (.tuple #[.slice a (2*C.length) c,.int .i64 0])/\Slots w' w'.heap.size (.slice a (2*C.length) c) (QJ7 (ovL C (2*C.length)))/\Below w.heap.size w w':=by
 have HC:=hidB h
 obtain⟨hm,hp⟩:=QU7 hn
 have HM:=hidB hm
 have HP:=hidB hp
 have HFA:Hid QQ8:=hFR
 obtain⟨s1,s2,s3,s4⟩:=QX5 (QZ6 hm)
 obtain⟨a,cap,rfl,-,-⟩:=h
 have HB1:Hid (Below w.heap.size w (w.alloc (.cells #[.slice a C.length cap,.int .i64 loops] 24))):=(Below.refl _ _).alloc (Nat.le_refl _) _
 clear hm hp hn hFR
 go_enter Tryz.func41,Tryz.ntmps41
 go_wp2_with (go_at_call 26;refine(XH0 HFA.out _ C loops _ HM.out HP.out (HC.out.up HB1.out)).mono ?_;rintro e9 w2 ⟨a',cap',gF,cF,gT,cT,rfl,hdr,hb2⟩;refine Hid.out ?_)
 refine Lib.hid ?_
 have HDR:=hidB hdr
 have HOV:Hid (∀ W,Dr W a' cap' C gF gT->Calls Tryz.prog 29 #[drV a' cap' C loops gF cF gT cT] W fun e w'=>∃ g,e=.returned (.tuple #[.slice (some ⟨g,0,none⟩) (2*C.length+1) (2*C.length+1),.int .i64 (ovC C:Nat)])/\w'.ownsRow W.heap.size 3 1 (.slice (some ⟨g,0,none⟩) (2*C.length+1) (2*C.length+1)) (2*C.length+1) (QJ7 (Qf1 C (2*C.length+1)))/\Below W.heap.size W w'):=fun W hW=>Qk0 a' cap' C loops gF cF gT cT W HM.out hW
 unfold drV at HOV
 unfold drV
 have HB2:=hidB (HB1.out.trans (hb2.mono HB1.out.size))
 have hs2:=HB2.out.size
 have HBA:Hid (Below w2.heap.size w2 (w2.alloc (.cells #[.slice a' C.length cap',.int .i64 loops,.slice (some ⟨gF,0,none⟩) (2*C.length+1) cF,.slice (some ⟨gT,0,none⟩) (2*C.length+1) cT] 49))):=(Below.refl _ _).alloc (Nat.le_refl _) _
 clear hb2 hdr
 go_wp2_with (go_at_call 29;refine(HOV.out _ (HDR.out.on HBA.out)).mono ?_;rintro e9 w3 ⟨g,rfl,hr3,hb3⟩;refine Hid.out ?_)
 refine Lib.hid ?_
 have HSL : Hid (∀ c, Slots w3 w3.heap.size (.slice (some ⟨g, 1, none⟩) (2 * C.length) c) (QJ7 (ovL C (2 * C.length)))) := fun c => ⟨_, _, by rw [QW8, Qu9], fun _ => ⟨g, 1, rfl, (hr3.lt g rfl).2, fun i hi => by
  rw[QW8,Qu9]at hi
  have e:(QJ7 (ovL C (2*C.length))).getD i (.bool false)=.int .i64 ((ovL C (2*C.length)).getD i 0:Nat):=by
   rw[List.getD_eq_getElem?_getD,QV0 _ i (by rw[Qu9];exact hi)];rfl
  rw[hr3.cellAt (1+i) (by omega),QV0 _ (1+i) (by rw[QD6];omega),e,<-Zf3]
  simp[List.getD_eq_getElem?_getD,Nat.add_comm 1 i]⟩⟩
 have HSN:Hid (∀ a c,Slots w3 w3.heap.size (.slice a 0 c) (QJ7 (ovL C 0))):=fun a c=>⟨_,_,by rw[QW8,Qu9],fun h1=>by rw[QW8,Qu9]at h1;omega⟩
 have HB3:=hidB (HB2.out.trans ((HBA.out.trans (hb3.mono (by simp))).mono hs2))
 clear hr3 hb3
 go_wp2
 all_goals
  go_ret2
  first
   |exact⟨_,_,rfl,HSL.out _,HB3.out⟩
   |exact⟨_,_,rfl,HSN.out _ _,HB3.out⟩
end Go.Proofs.YtookanmeflbdlaaGreatDoor
/- The walks of colour.prime, ref.Prime, colour.inverse and ref.mostOf. -/
namespace Go.Proofs.YtookanmeflbdlaaGreatDoor
open Go.RowKit
set_option maxHeartbeats 4000000
set_option maxRecDepth 100000
theorem Zd6 {p f:Nat} (h1:2<=f) (h2:f<p) (h:p%f=0):QU1 p=false:=by
 cases e:QU1 p with
 |false=>rfl
 |true=>
  have:=List.all_eq_true.1 (Bool.and_eq_true_iff.1 e).2 f (List.mem_range.2 h2)
  simp[h]at this
  omega
theorem JZ5:((List.range 98).all fun p=>(List.range 12).all fun f=>decide (f*f<=p)||(List.range f).any (fun k=>decide (2<=k)&&decide (p%k=0))||(QU1 p==decide (2<=p)))=true:=by decide +kernel
theorem KV6 {p f:Nat} (hp:p<98) (hf:f<12) (hq:p<f*f) (h:∀ k,2<=k->k<f->p%k≠0):QU1 p=decide (2<=p):=by
 have h1:=List.all_eq_true.1 (List.all_eq_true.1 JZ5 p (List.mem_range.2 hp)) f (List.mem_range.2 hf)
 rcases Bool.or_eq_true_iff.1 h1 with h2|h2
 · rcases Bool.or_eq_true_iff.1 h2 with h3|h3
   · have:f*f<=p:=by simpa using h3
     omega
   · obtain⟨k,hk,e⟩:=List.any_eq_true.1 h3
     have e1:=Bool.and_eq_true_iff.1 e
     exact absurd (by simpa using e1.2) (h k (by simpa using e1.1) (List.mem_range.1 hk))
 · simpa using h2
theorem Zd5 (p : Int) (w : World) (hp : p ≤ 97) (hlo : -9223372036854775808 ≤ p) :
    Calls Tryz.prog 28 #[.int .i64 p] w fun e w'=>e=.returned (.bool (QU1 p.toNat))/\Below w.heap.size w w':=by
 have HB:Hid (Below w.heap.size w w):=Below.refl _ _
 go_enter Tryz.func28,Tryz.ntmps28
 go_wp2
 go_loopw [3] (fun v3 wr=>∃ f:Nat,2<=f/\f<=10/\v3=.int .i64 (f:Nat)/\Hid (∀ k,2<=k->k<f->p.toNat%k≠0)/\Hid (Below w.heap.size w wr)) (fun v3 _=>11-(intOf v3).toNat)
 case atStart=>exact⟨2,by omega,by omega,rfl,(fun k h1 h2=>by omega),HB.out⟩
 case round=>
  clear HB
  rename World=>W1
  obtain⟨f,hf1,hf2,rfl,hno,hb⟩:=hrel
  obtain⟨s,hs⟩:∃ s:Nat,f*f=s:=⟨_,rfl⟩
  have HS:Hid (f*f=s):=hs
  have hs1:s<=100:=by rw[<-hs];exact Nat.mul_le_mul hf2 hf2
  have hs3:2*f<=s:=by rw[<-hs];exact Nat.mul_le_mul_right f hf1
  have hs2:(f:Int)*(f:Int)=(s:Int):=by rw[<-hs];push_cast;rfl
  have ew:IntKind.i64.wrap ((f:Int)*(f:Int))=(s:Int):=by rw[hs2];exact IntWalk.i64_in _ (by omega)
  have ew2:IntKind.i64.wrap (s:Int)=(s:Int):=IntWalk.i64_in _ (by omega)
  clear hs
  by_cases hle:(s:Int)<=p
  · obtain⟨q,rfl⟩:∃ q:Nat,p=(q:Int):=⟨p.toNat,by omega⟩
    have hq:(q:Int).toNat=q:=Int.toNat_natCast q
    rw[hq]at hno
    have er:(q:Int).tmod (f:Int)=((q%f:Nat):Int):=rfl
    have hf0:((f:Int)==0)=false:=by simp;omega
    have hfn:(f:Int)≠0:=by omega
    have hlt:q%f<f:=Nat.mod_lt _ (by omega)
    obtain⟨r,hr⟩:∃ r,q%f=r:=⟨_,rfl⟩
    have HR:Hid (q%f=r):=hr
    rw[hr]at er hlt
    clear hr
    by_cases hr0:r=0
    · subst hr0
      have HP:Hid (QU1 (q:Int).toNat=false):=(by rw[hq];exact Zd6 hf1 (by omega) HR.out:QU1 (q:Int).toNat=false)
      clear hq
      go_wp2
      go_ret
      exact⟨by rw[HP.out];rfl,hb.out⟩
    · have hrz:((r:Int)==0)=false:=by simp;omega
      have hf9:f<=9:=by
       rcases Nat.lt_or_ge f 10 with h|h
       · omega
       · obtain rfl:f=10:=by omega
         have:=HS.out
         omega
      clear hq
      go_wp2
      go_roundw
      case rel => exact ⟨f + 1, by omega, by omega, by go_num, (fun k h1 h2 => by
       have h3:(q:Int).toNat=q:=Int.toNat_natCast q
       rw[h3]
       by_cases e:k=f
       · rw[e,HR.out];exact hr0
       · exact hno.out k h1 (by omega):∀ k,2<=k->k<f+1->(q:Int).toNat%k≠0),hb.out⟩
      case measure=>simp only[intOf];omega
  · have HP:Hid (QU1 p.toNat=decide (2<=p.toNat)):=KV6 (by omega) (by omega) (by rw[HS.out];omega) hno.out
    have HE : Hid (decide (2 ≤ p) = decide (2 ≤ p.toNat)) := (by
     by_cases h2:2<=p
     · rw[decide_eq_true h2,decide_eq_true (by omega)]
     · rw[decide_eq_false h2,decide_eq_false (by omega)]:decide (2<=p)=decide (2<=p.toNat))
    go_wp2
    go_ret
    exact⟨ret_bool (by rw[HP.out,<-HE.out]),hb.out⟩
theorem Xg9 (a p : Nat) (w : World) (hp : p < 98) (hpr : QU1 p = true) (ha : a < p) (h0 : a ≠ 0) :
    Calls Tryz.prog 76 #[.int .i64 (a:Nat),.int .i64 (p:Nat)] w fun e w'=>∃ b:Nat,e=.returned (.int .i64 (b:Nat))/\b<p/\a*b%p=1/\Below w.heap.size w w':=by
 have HB:Hid (Below w.heap.size w w):=Below.refl _ _
 have HEX:Hid (∃ b,b<p/\a*b%p=1):=Kx0 hp hpr ha h0
 go_enter Tryz.func76,Tryz.ntmps76
 go_wp2
 go_loopw [7] (fun v7 wr=>∃ b:Nat,b<=p/\v7=.int .i64 (b:Nat)/\Hid (∀ k,k<b->a*k%p≠1)/\Hid (Below w.heap.size w wr)) (fun v7 _=>p-(intOf v7).toNat)
 case atStart=>exact⟨0,by omega,rfl,(fun k h1=>by omega),HB.out⟩
 case round=>
  clear HB
  rename World=>W1
  obtain⟨b,hb1,rfl,hno,hb⟩:=hrel
  by_cases hle:b<p
  · obtain⟨s,hs⟩:∃ s:Nat,a*b=s:=⟨_,rfl⟩
    have HS:Hid (a*b=s):=hs
    have hs1:s<=97*97:=by rw[<-hs];exact Nat.mul_le_mul (by omega) (by omega)
    have hs2:(a:Int)*(b:Int)=(s:Int):=by rw[<-hs];push_cast;rfl
    have ew:IntKind.i64.wrap ((a:Int)*(b:Int))=(s:Int):=by rw[hs2];exact IntWalk.i64_in _ (by omega)
    have ew2:IntKind.i64.wrap (s:Int)=(s:Int):=IntWalk.i64_in _ (by omega)
    have er:(s:Int).tmod (p:Int)=((s%p:Nat):Int):=rfl
    have hf0:((p:Int)==0)=false:=by simp;omega
    have hfn:(p:Int)≠0:=by omega
    have hlt:s%p<p:=Nat.mod_lt _ (by omega)
    obtain⟨r,hr⟩:∃ r,s%p=r:=⟨_,rfl⟩
    have HR:Hid (s%p=r):=hr
    rw[hr]at er hlt
    clear hr hs hpr
    by_cases hr0:r=1
    · subst hr0
      go_wp2
      go_ret
      exact⟨b,rfl,hle,(by rw[HS.out];exact HR.out),hb.out⟩
    · have hrz:((r:Int)==1)=false:=by simp;omega
      have hrz2:(r==1)=false:=by simp;omega
      go_wp2
      go_roundw
      case rel => exact ⟨b + 1, by omega, by go_num, (fun k h1 => by
       by_cases e:k=b
       · rw[e,HS.out,HR.out];exact hr0
       · exact hno.out k (by omega):∀ k,k<b+1->a*k%p≠1),hb.out⟩
      case measure=>simp only[intOf];omega
  · obtain⟨c,hc1,hc2⟩:=HEX.out
    exact absurd hc2 (hno.out c (by omega))
end Go.Proofs.YtookanmeflbdlaaGreatDoor
/- Tables of numbers whose rows lie in blocks of their own; the walk of colour.clearBelow. -/
namespace Go.Proofs.YtookanmeflbdlaaGreatDoor
open Go.RowKit
set_option maxHeartbeats 16000000
set_option maxRecDepth 100000
def hdr (n m:Nat) (gs:Nat->Nat):List Value:=(List.range n).map fun i=>.slice (some ⟨gs i,0,none⟩) m m
theorem Xb6 (n m:Nat) (gs:Nat->Nat):(hdr n m gs).length=n:=by simp[hdr]
theorem Xb7 (n m:Nat) (gs:Nat->Nat) (i:Nat) (h:i<n):(hdr n m gs)[i]?=some (.slice (some ⟨gs i,0,none⟩) m m):=by simp[hdr,h]
theorem Kb8 {n m:Nat} {gs:Nat->Nat} {l:List Value} (hl:l.length=n) (h:∀ i,i<n->l[i]?=some (.slice (some ⟨gs i,0,none⟩) m m)):l=hdr n m gs:=by
 apply List.ext_getElem?
 intro j
 by_cases hj:j<n
 · rw[h j hj,Xb7 n m gs j hj]
 · rw[List.getElem?_eq_none (by omega),List.getElem?_eq_none (by rw[Xb6];omega)]
structure TabO (B gt cap n m:Nat) (gs:Nat->Nat) (T:Nat->Nat->Int) (W:World):Prop where
 outer:W.ownsRow B 67 1 (.slice (some ⟨gt,0,none⟩) n cap) n (hdr n m gs)
 rows:∀ i,i<n->W.ownsRow B 3 1 (.slice (some ⟨gs i,0,none⟩) m m) m (QX2 (QF8 m (T i)))
 inj:∀ i j,i<n->j<n->gs i=gs j->i=j
theorem TabO.any {B gt cap n m:Nat} {gs:Nat->Nat} {T:Nat->Nat->Int} {W W':World} (h:TabO B gt cap n m gs T W) (hg:W.grownBy W' none):TabO B gt cap n m gs T W':=
 ⟨own_any h.outer hg,fun i hi=>own_any (h.rows i hi) hg,h.inj⟩
theorem TabO.cellO {B gt cap n m:Nat} {gs:Nat->Nat} {T:Nat->Nat->Int} {W:World} (h:TabO B gt cap n m gs T W) (i:Nat) (hi:i<n):W.cell? ⟨gt,i,none⟩=some (.slice (some ⟨gs i,0,none⟩) m m):=by
 rw[h.outer.cellAt i (by omega),Xb7 n m gs i hi]
theorem TabO.cellR {B gt cap n m:Nat} {gs:Nat->Nat} {T:Nat->Nat->Int} {W:World} (h:TabO B gt cap n m gs T W) (i j:Nat) (hi:i<n) (hj:j<m):W.cell? ⟨gs i,j,none⟩=some (.int .i64 (T i j)):=by
 rw[(h.rows i hi).cellAt j (by omega),QZ1 _ j (by rw[QV1];exact hj),QC8 _ _ _ hj]
theorem TabO.set {B gt cap n m : Nat} {gs : Nat → Nat} {T T' : Nat → Nat → Int} {W : World} (h : TabO B gt cap n m gs T W) (i j : Nat) (x : Int) (hi : i < n) (hT : ∀ a b, a < n → b < m → T' a b = if a = i ∧ b = j then x else T a b) :
    TabO B gt cap n m gs T' (W.setCell ⟨gs i,j,none⟩ (.int .i64 x))/\W.grownBy (W.setCell ⟨gs i,j,none⟩ (.int .i64 x)) (some (gs i)):=by
 have hst:=(h.rows i hi).stored j (.int .i64 x)
 rw[QJ1]at hst
 refine⟨⟨h.outer.kept hst.2 (own_ne h.outer (h.rows i hi) (by decide)),fun a ha=>?_,h.inj⟩,hst.2⟩
 by_cases e:a=i
 · subst e
   rw[Qv0 m (T a) (T' a) j x (fun b hb=>by rw[hT a b ha hb];by_cases e:b=j<;>simp[e])]at hst
   exact hst.1
 · have hr:=(h.rows a ha).kept hst.2 (Or.inr (fun q=>e (h.inj a i ha hi (Option.some.inj q))))
   rw[QG8 m (T' a) (T a) (fun b hb=>by rw[hT a b ha hb,if_neg (fun q=>e q.1)])]
   exact hr
theorem TabO.congr {B gt cap n m:Nat} {gs:Nat->Nat} {T T':Nat->Nat->Int} {W:World} (h:TabO B gt cap n m gs T W) (e:∀ x y,x<n->y<m->T' x y=T x y):TabO B gt cap n m gs T' W:=
 ⟨h.outer,fun i hi=>by rw[QG8 m (T' i) (T i) (fun y hy=>e i y hi hy)];exact h.rows i hi,h.inj⟩
def swq (a b i:Nat):Nat:=if i=a then b else if i=b then a else i
theorem XW9 {a b i n:Nat} (ha:a<n) (hb:b<n) (hi:i<n):swq a b i<n:=by unfold swq;split;exact hb;split;exact ha;exact hi
theorem Xy2 (a b i:Nat):swq a b (swq a b i)=i:=by
 unfold swq
 by_cases h1:i=a
 · simp[h1]
 · by_cases h2:i=b
   · simp[h2]
   · simp[h1,h2]
theorem TabO.swap {B gt cap n m : Nat} {gs : Nat → Nat} {T : Nat → Nat → Int} {W : World} (h : TabO B gt cap n m gs T W) (a b : Nat) (ha : a < n) (hb : b < n) :
    TabO B gt cap n m (fun i=>gs (swq a b i)) (fun i=>T (swq a b i)) ((W.setCell ⟨gt,a,none⟩ (.slice (some ⟨gs b,0,none⟩) m m)).setCell ⟨gt,b,none⟩ (.slice (some ⟨gs a,0,none⟩) m m))/\W.grownBy ((W.setCell ⟨gt,a,none⟩ (.slice (some ⟨gs b,0,none⟩) m m)).setCell ⟨gt,b,none⟩ (.slice (some ⟨gs a,0,none⟩) m m)) (some gt):=by
 have h1:=h.outer.stored a (.slice (some ⟨gs b,0,none⟩) m m)
 have h2:=h1.1.stored b (.slice (some ⟨gs a,0,none⟩) m m)
 have hg:=grown_trans h1.2 h2.2
 refine⟨⟨?_,fun i hi=>?_,fun i j hi hj e=>?_⟩,hg⟩
 · have e : ((hdr n m gs).set a (.slice (some ⟨gs b, 0, none⟩) m m)).set b (.slice (some ⟨gs a, 0, none⟩) m m) = hdr n m (fun i => gs (swq a b i)) := by
     refine Kb8 (by simp[Xb6]) fun i hi=>?_
     simp only[List.getElem?_set,List.length_set,Xb6]
     unfold swq
     by_cases e1:b=i
     · subst e1
       simp[hb]
       by_cases e2:b=a
       · simp[e2]
       · simp[e2]
     · by_cases e2:a=i
       · subst e2
         simp[e1,ha]
       · simp[e1,e2,Ne.symm e1,Ne.symm e2,Xb7 n m gs i hi]
   rw[<-e]
   exact h2.1
 · exact(h.rows _ (XW9 ha hb hi)).kept hg (own_ne (h.rows _ (XW9 ha hb hi)) h.outer (by decide))
 · have:=h.inj _ _ (XW9 ha hb hi) (XW9 ha hb hj) e
   rw[<-Xy2 a b i,this,Xy2]
theorem Qk2 (B gt cap n m : Nat) (gs : Nat → Nat) (T : Nat → Nat → Int) (d c p : Nat) (w : World) (hp : p < 98) (hpr : QU1 p = true) (hn : n ≤ 16) (hm : m ≤ 40) (hd : d < n) (hc : c < m) (hcap : n ≤ cap)
    (hT:∀ i j,i<n->j<m->0<=T i j/\T i j<p) (h0:T d c≠0) (hB:B<=w.heap.size) (h:TabO B gt cap n m gs T w):
    Calls Tryz.prog 53 #[.slice (some ⟨gt,d,none⟩) (n-d) (cap-d),.int .i64 (c:Nat),.int .i64 (p:Nat)] w fun e w'=>e=.returned (.tuple #[])/\∃ T',TabO B gt cap n m gs T' w'/\(∀ i j,i<=d->j<m->T' i j=T i j)/\
     (∀ i,d<i->i<n->T' i c=0/\(∀ j,j<m->0<=T' i j/\T' i j<p)/\∃ k:Int,∀ j,j<m->(p:Int) ∣ (T i j+k*T d j)-T' i j)/\Below B w w':=by
 have HT:=hidB h
 have HTB:=hidB hT
 have t0:=h.cellO d hd
 have hgt:=(h.outer.lt gt rfl).2
 obtain⟨e,he⟩:∃ e,n - d=e+1:=⟨n - d - 1,by omega⟩
 obtain⟨f,hf⟩:∃ f,cap - d=f+1:=⟨cap - d - 1,by omega⟩
 have HE:=hidB (show n=d+1+e/\e<=f by omega)
 have he16:e<=16:=by omega
 have HP0:Hid (Below B w w):=Below.refl _ _
 have hbB:B<=gt:=(h.outer.lt gt rfl).1
 rw[he,hf]
 have hp2:2<=p:=by have:=(Bool.and_eq_true_iff.1 hpr).1;simpa using this
 have HPR:=hidB hpr
 have HTD:Hid (∃ a:Nat,T d c=(a:Int)/\a<p/\a≠0):=⟨(T d c).toNat,by have:=hT d c hd hc;omega,by have:=hT d c hd hc;omega,by have:=hT d c hd hc;omega⟩
 clear h he hf hT hpr
 by_cases hf0:f=0
 · obtain rfl:e=0:=by have:=HE.out.2;omega
   subst hf0
   go_enter Tryz.func53,Tryz.ntmps53
   go_wp2
   go_loopw [17] (fun v17 wr=>v17=.int .i64 0/\Hid (wr=w)) (fun v17 _=>0)
   case atStart=>exact⟨rfl,(rfl:w=w)⟩
   case round=>
    rename World=>W1
    obtain⟨rfl,hw⟩:=hrel
    go_wp2
    have e9:W1=w:=hw.out
    subst e9
    exact bodyPost_end (v:=.tuple #[]) (by simp[results,Tryz.results53]) rfl ⟨rfl,T,HT.out,fun _ _ _ _=>rfl,fun i h1 h2=>by have:=HE.out;omega,HP0.out⟩
 · have hfn:f≠0:=hf0
   go_enter Tryz.func53,Tryz.ntmps53
   go_wp2
   go_loopw [17] (fun v17 wr=>∃ k:Nat,k<=e/\v17=.int .i64 (k:Nat)/\Hid (∃ T1,TabO B gt cap n m gs T1 wr/\(∀ i j,i<n->j<m->i<=d∨d+1+k<=i->T1 i j=T i j)/\(∀ i,d<i->i<d+1+k->T1 i c=0/\(∀ j,j<m->0<=T1 i j/\T1 i j<p)/\∃ k:Int,∀ j,j<m->(p:Int) ∣ (T i j+k*T d j)-T1 i j)/\Below B w wr)) (fun v17 _=>e-(intOf v17).toNat)
   case atStart=>exact⟨0,Nat.zero_le _,rfl,T,HT.out,fun _ _ _ _ _=>rfl,fun i h1 h2=>by omega,HP0.out⟩
   case round=>
    clear HT HP0 t0
    rename World=>W1
    obtain⟨k,hke,rfl,hp1⟩:=hrel
    obtain⟨T1,hT1,hsame,hgood,hbel⟩:=hp1.out
    by_cases hkl:k<e
    · obtain⟨r,hr⟩:∃ r,r=d+1+k:=⟨_,rfl⟩
      have HRR:=hidB hr
      have hrn:r<n:=by have:=HE.out.1;omega
      have t1:=hT1.cellO r hrn
      rw[hr]at t1
      have t2:=hT1.cellR r c hrn hc
      have t3:=hT1.cellR d c hd hc
      have hgl:=(hT1.outer.lt gt rfl).2
      have hgr:=(hT1.rows r hrn).lt (gs r) rfl
      have hgd:=(hT1.rows d hd).lt (gs d) rfl
      obtain⟨a,ha1,ha2,ha3⟩:=HTD.out
      rw[hsame d c hd hc (Or.inl (Nat.le_refl _)),ha1]at t3
      have hx:=HTB.out r c hrn hc
      rw[hsame r c hrn hc (Or.inr (by omega))]at t2
      obtain⟨x,hxx⟩:∃ x,T r c=x:=⟨_,rfl⟩
      rw[hxx]at t2 hx
      have HXX:=hidB hxx
      have HAA:=hidB ha1
      have HT1:=hidB hT1
      have HSA:=hidB hsame
      have HGO:=hidB hgood
      have HBE:=hidB hbel
      have ew1:IntKind.i64.wrap ((p:Int)-x)=(p:Int)-x:=IntWalk.i64_in _ (by omega)
      have hpz:(p:Int)≠0:=by omega
      have hpz2:((p:Int)==0)=false:=by simp;omega
      have hpz3:p≠0:=by omega
      have hpz4:(p==0)=false:=by simp;omega
      have HFR:Hid (∀ w',Below W1.heap.size W1 w'->w'.cell? ⟨gs (d+1+k),c,none⟩=some (.int .i64 x)/\w'.cell? ⟨gs d,c,none⟩=some (.int .i64 (a:Nat))):=fun w' hb=>by
       rw[<-HRR.out]
       exact⟨bcell hb hgr.2 t2,bcell hb hgd.2 t3⟩
      have HD1:Hid (Below W1.heap.size W1 W1.drew):=(Below.refl _ _).drew
      have HIV:Hid (∀ W,Calls Tryz.prog 76 #[.int .i64 (a:Nat),.int .i64 (p:Nat)] W fun e w'=>∃ b:Nat,e=.returned (.int .i64 (b:Nat))/\b<p/\a*b%p=1/\Below W.heap.size W w'):=fun W=>Xg9 a p W hp HPR.out ha2 ha3
      clear hsame hgood hbel hT1 hp1 hr hxx ha1
      rw[HRR.out]at hgr hrn t2
      go_wp2
      go_region_held3 (fun w' => w'.cell? ⟨gs (d + 1 + k), c, none⟩ = some (.int .i64 x) ∧ w'.cell? ⟨gs d, c, none⟩ = some (.int .i64 (a : Nat))) (first | exact HFR.out _ H5.out | exact HFR.out _ HD1.out) (first
       | (go_at_call 76; refine (HIV.out W1.drew).mono ?_; rintro e9 w5 ⟨b, rfl, hb1, hb2, hb5⟩
          have H5:=hidB (HD1.out.trans (hb5.mono HD1.out.size))
          have hb2':Hid (a*b%p=1):=hb2
          obtain⟨z,hz⟩:∃ z,((p:Int) - x)*(b:Int)=z:=⟨_,rfl⟩
          have HZ:=hidB hz
          have hz0:0<=z:=by rw[<-hz];exact Int.mul_nonneg (by omega) (by omega)
          have hz1:z<=98*98:=by rw[<-hz];exact Int.mul_le_mul (by omega) (by omega) (by omega) (by omega)
          have ew2:IntKind.i64.wrap (((p:Int)-x)*(b:Int))=z:=by rw[hz];exact IntWalk.i64_in _ (by omega)
          have ew3:IntKind.i64.wrap z=z:=IntWalk.i64_in _ (by omega)
          obtain⟨t,ht⟩:∃ t,z.tmod (p:Int)=t:=⟨_,rfl⟩
          have HTT:=hidB ht
          have htb:0<=t/\t<(p:Int):=by rw[<-ht];exact Qh9 (by omega) hz0
          have ew4:IntKind.i64.wrap t=t:=IntWalk.i64_in _ (by omega)
          have HDV : Hid ((p : Int) ∣ x + t * a) := (by
           have d1:(p:Int) ∣ z-t:=by rw[<-ht];exact Qq0 z p
           have d2:(p:Int) ∣ (a:Int)*b-1:=by
            refine⟨((a*b / p:Nat):Int),?_⟩
            have q:=Nat.div_add_mod (a*b) p
            rw[hb2]at q
            have q2:((p*(a*b / p)+1:Nat):Int)=((a*b:Nat):Int):=by rw[q]
            push_cast at q2
            push_cast
            omega
           have d3:(p:Int) ∣ (z-t)*a:=Int.dvd_mul_of_dvd_left d1
           have d4:(p:Int) ∣ ((p:Int)-x)*((a:Int)*b-1):=Int.dvd_mul_of_dvd_right d2
           have d5:=Int.dvd_sub d4 d3
           have e1:((p:Int)-x)*((a:Int)*b-1)-(z-t)*a=x+t*a-p:=by
            rw[<-hz,Int.mul_sub,Int.sub_mul _ t,Int.mul_one]
            have e2:((p:Int)-x)*((a:Int)*b)=((p:Int)-x)*b*a:=by rw[Int.mul_assoc,Int.mul_comm (b:Int) a]
            rw[e2];omega
           rw[e1]at d5
           have d6:=Int.dvd_add d5 (Int.dvd_refl (p:Int))
           have e3:x+t*a-p+p=x+t*a:=by omega
           rw[e3]at d6;exact d6:(p:Int) ∣ x+t*a)
          clear hb5 hz hb2))
      have HT5:Hid (TabO B gt cap n m gs (fun a b=>if a=d+1+k/\b<0 then(T (d+1+k) b+t*T d b).tmod p else T1 a b) w5/\Below B w w5):=⟨(HT1.out.any (grown_below H5.out none)).congr (fun a b _ _=>by simp),HBE.out.trans (H5.out.mono (by have:=HBE.out.size;omega))⟩
      have HTN:Hid (∀ a b,a<n->b<m->a≠d+1+k∨True->True):=fun _ _ _ _ _=>trivial
      clear HTN ew2 ew3 ew4 ht HZ HTT hz0 hz1 H5 HFR HD1 HIV HT1 t1 t2 t3 hb2' hb1 ew1
      go_wp2
      go_loopw [38] (fun v38 wr=>∃ j:Nat,j<=m/\v38=.int .i64 (j:Nat)/\Hid (TabO B gt cap n m gs (fun a b=>if a=d+1+k/\b<j then(T (d+1+k) b+t*T d b).tmod p else T1 a b) wr/\Below B w wr)) (fun v38 _=>m-(intOf v38).toNat)
      case atStart=>exact⟨0,Nat.zero_le _,rfl,HT5.out⟩
      case round=>
       clear HT5
       rename World=>W2
       obtain⟨j,hjm,rfl,hq⟩:=hrel
       by_cases hjl:j<m
       · have c1:=hq.out.1.cellR (d+1+k) j hrn hjl
         have c2:=hq.out.1.cellR d j hd hjl
         rw[if_neg (by omega),HSA.out _ _ hrn hjl (Or.inr (by omega))]at c1
         rw[if_neg (by omega),HSA.out _ _ hd hjl (Or.inl (Nat.le_refl _))]at c2
         have hu:=HTB.out (d+1+k) j hrn hjl
         have hv:=HTB.out d j hd hjl
         obtain⟨u,hu'⟩:∃ u,T (d+1+k) j=u:=⟨_,rfl⟩
         obtain⟨y,hy'⟩:∃ y,T d j=y:=⟨_,rfl⟩
         rw[hu']at c1 hu
         rw[hy']at c2 hv
         obtain⟨ty,hty⟩:∃ ty,t*y=ty:=⟨_,rfl⟩
         have hz0:0<=ty:=by rw[<-hty];exact Int.mul_nonneg (by omega) (by omega)
         have hz1:ty<=98*98:=by rw[<-hty];exact Int.mul_le_mul (by omega) (by omega) (by omega) (by omega)
         have ew2:IntKind.i64.wrap (t*y)=ty:=by rw[hty];exact IntWalk.i64_in _ (by omega)
         have ew3:IntKind.i64.wrap (u+ty)=u+ty:=IntWalk.i64_in _ (by omega)
         obtain⟨v,hv'⟩:∃ v,(u+ty).tmod (p:Int)=v:=⟨_,rfl⟩
         have hvb:0<=v/\v<(p:Int):=by rw[<-hv'];exact Qh9 (by omega) (by omega)
         have ew4:IntKind.i64.wrap v=v:=IntWalk.i64_in _ (by omega)
         have hset := hq.out.1.set (T' := (fun a b => if a = d + 1 + k ∧ b < (j + 1) then (T (d + 1 + k) b + t * T d b).tmod p else T1 a b)) (d + 1 + k) j v hrn (fun a b ha hb => by
          show(if a=d+1+k/\b<j+1 then _ else _)=_
          by_cases h1:a=d+1+k/\b=j
          · rw[if_pos ⟨h1.1,by omega⟩,if_pos h1,h1.2,hu',hy',hty,hv']
          · rw[if_neg h1]
            by_cases h2:a=d+1+k/\b<j+1
            · rw[if_pos h2,if_pos ⟨h2.1,by have:b≠j:=fun e=>h1 ⟨h2.1,e⟩;omega⟩]
            · rw[if_neg h2,if_neg (fun z=>h2 ⟨z.1,by omega⟩)])
         have hgk:=(hq.out.1.rows (d+1+k) hrn).lt (gs (d+1+k)) rfl
         have HST:Hid (TabO B gt cap n m gs (fun a b=>if a=d+1+k/\b<(j+1) then(T (d+1+k) b+t*T d b).tmod p else T1 a b) (W2.setCell ⟨gs (d+1+k),j,none⟩ (.int .i64 v)).drew/\Below B w (W2.setCell ⟨gs (d+1+k),j,none⟩ (.int .i64 v)).drew):=⟨hset.1.any (grown_below ((Below.refl _ _).drew) none),Below.drew <| hq.out.2.grown hset.2 (by have:=hq.out.2.size;omega) (fun q hq=>by have:=Option.some.inj hq;omega)⟩
         have z0:W2.frozen? ⟨gs (d+1+k),j,none⟩=false:=(hq.out.1.rows (d+1+k) hrn).frozenAt j
         clear hset hu' hy' hty
         go_wp2
         apply XF8
         case h=>
          intro key
          go_region_with (fail)
          all_goals exact key.out
         go_wp2
         go_roundw
         case rel=>exact⟨j+1,by omega,by go_num,HST.out⟩
         case measure=>simp only[intOf];omega
       · obtain rfl:j=m:=by omega
         go_wp2
         go_roundw
         case rel=>
          refine⟨k+1,by omega,by go_num,(fun a b=>if a=d+1+k/\b<j then(T (d+1+k) b+t*T d b).tmod p else T1 a b),hq.out.1,fun i j' h1 h2 h3=>?_,fun i h1 h2=>?_,hq.out.2⟩
          · show(if i=d+1+k/\j'<j then _ else _)=_
            rw[if_neg (by omega),HSA.out i j' h1 h2 (by omega)]
          · by_cases hik:i=d+1+k
            · subst hik
              refine⟨?_,fun j' hj'=>?_,t,fun j' hj'=>?_⟩
              · show(if d+1+k=d+1+k/\c<j then _ else _)=_
                rw[if_pos ⟨rfl,hc⟩,HAA.out,<-HRR.out,HXX.out]
                exact(Zu8 _ p).2 HDV.out
              · show 0<=(if d+1+k=d+1+k/\j'<j then _ else _)/\(if d+1+k=d+1+k/\j'<j then _ else _)<_
                rw[if_pos ⟨rfl,hj'⟩]
                have b1:=HTB.out (d+1+k) j' hrn hj'
                have b2:=HTB.out d j' hd hj'
                exact Qh9 (by omega) (by have:=Int.mul_nonneg htb.1 b2.1;omega)
              · show _ ∣ _-(if d+1+k=d+1+k/\j'<j then _ else _)
                rw[if_pos ⟨rfl,hj'⟩]
                exact Qq0 _ p
            · have g:=HGO.out i h1 (by omega)
              have e:∀ b,(fun a b=>if a=d+1+k/\b<j then(T (d+1+k) b+t*T d b).tmod p else T1 a b) i b=T1 i b:=fun b=>by
               show(if i=d+1+k/\b<j then _ else _)=_
               rw[if_neg (fun z=>hik z.1)]
              obtain⟨g1,g2,q,g3⟩:=g
              exact⟨by rw[e];exact g1,fun j' hj'=>by rw[e];exact g2 j' hj',q,fun j' hj'=>by rw[e];exact g3 j' hj'⟩
         case measure=>simp only[intOf];omega
    · obtain rfl:k=e:=by omega
      go_wp2
      exact bodyPost_end (v:=.tuple #[]) (by simp[results,Tryz.results53]) rfl ⟨rfl,T1,hT1,fun i j h1 h2=>hsame i j (by omega) h2 (Or.inl h1),fun i h1 h2=>hgood i h1 (by have:=HE.out.1;omega),hbel⟩
end Go.Proofs.YtookanmeflbdlaaGreatDoor
/- The walk of colour.rank. -/
namespace Go.Proofs.YtookanmeflbdlaaGreatDoor
open Go.RowKit
set_option maxHeartbeats 16000000
set_option maxRecDepth 100000
def QC1 (n done:Nat) (T:Nat->Nat->Int):(Nat->Int)->Prop:=fun r=>∃ i,done<=i/\i<n/\r=T i
theorem Xz4 {p m n done c q:Nat} {R0:(Nat->Int)->Prop} {T:Nat->Nat->Int} (hq:done<=q) (hqn:q<n) (h:Inv p m R0 c (QC1 n done T)):Inv p m R0 c (QC1 n done (fun i=>T (swq done q i))):=fun v=>by
 have key:QC1 n done (fun i=>T (swq done q i))=QC1 n done T:=by
  funext r
  apply propext
  have hsw:∀ i,done<=i->i<n->done<=swq done q i/\swq done q i<n:=fun i h1 h2=>by
   unfold swq;split
   · omega
   · split<;>omega
  constructor
  · rintro⟨i,h1,h2,rfl⟩
    exact⟨swq done q i,(hsw i h1 h2).1,(hsw i h1 h2).2,rfl⟩
  · rintro⟨i,h1,h2,rfl⟩
    exact⟨swq done q i,(hsw i h1 h2).1,(hsw i h1 h2).2,by show T i=T (swq done q (swq done q i));rw[Xy2]⟩
 rw[key]
 exact h v
theorem ZJ6 {p m n done c : Nat} {R0 : (Nat → Int) → Prop} {T T' : Nat → Nat → Int} (hp : p < 98) (hpr : QU1 p = true) (hc : c < m) (hd : done < n) (h : Inv p m R0 c (QC1 n done T)) (h0 : ¬ (p : Int) ∣ T done c)
    (hg:∀ i,done<i->i<n->T' i c=0/\∃ k:Int,∀ j,j<m->(p:Int) ∣ (T i j+k*T done j)-T' i j):Inv p m R0 (c+1) (QC1 n (done+1) T'):=by
 obtain⟨b,hb⟩:=Kb6 hp hpr (T done c) h0
 refine h.piv hc (T done) ⟨done,Nat.le_refl _,hd,rfl⟩ b hb ?_ ?_
 · rintro r' ⟨i,h1,h2,rfl⟩
   obtain⟨g1,k,g2⟩:=hg i (by omega) h2
   exact⟨by rw[g1];exact Int.dvd_zero _,T i,k,⟨i,by omega,h2,rfl⟩,g2⟩
 · rintro r ⟨i,h1,h2,rfl⟩
   by_cases e:i=done
   · subst e;exact Or.inl rfl
   · obtain⟨g1,k,g2⟩:=hg i (by omega) h2
     refine Or.inr ⟨T' i,-k,⟨i,by omega,h2,rfl⟩,fun j hj=>?_⟩
     have d:=Int.dvd_neg.2 (g2 j hj)
     have e2 : -(T i j+k*T done j-T' i j)=T' i j + -k*T done j-T i j:=by rw[Int.neg_mul];omega
     rw[e2]at d
     exact d
theorem KU6 (B gt cap n m : Nat) (gs : Nat → Nat) (T : Nat → Nat → Int) (p : Nat) (R0 : (Nat → Int) → Prop) (w : World) (hp : p < 98) (hpr : QU1 p = true) (hn : n ≤ 16) (hn1 : 1 ≤ n) (hm : m ≤ 40) (hcap : n ≤ cap)
    (hT:∀ i j,i<n->j<m->0<=T i j/\T i j<p) (hI:Inv p m R0 0 (QC1 n 0 T)) (hB:B<=w.heap.size) (h:TabO B gt cap n m gs T w):
    Calls Tryz.prog 30 #[.slice (some ⟨gt,0,none⟩) n cap,.int .i64 (p:Nat)] w fun e w'=>e=.returned (.int .i64 (rkTo p m R0 m:Nat))/\Below B w w':=by
 have t0:=h.cellO 0 (by omega)
 have hgt:=h.outer.lt gt rfl
 have HP:Hid (∃ gs T,TabO B gt cap n m gs T w/\(∀ i j,i<n->j<m->0<=T i j/\T i j<p)/\Inv p m R0 0 (QC1 n 0 T)/\Below B w w):=⟨gs,T,h,hT,hI,Below.refl _ _⟩
 have HPR:=hidB hpr
 have hp2:2<=p:=by have:=(Bool.and_eq_true_iff.1 hpr).1;simpa using this
 have hn0:(n==0)=false:=by simp;omega
 have hn0':n≠0:=by omega
 have hn0'':((n:Int)==0)=false:=by simp;omega
 clear h hT hI hpr
 go_enter Tryz.func30,Tryz.ntmps30
 go_wp2
 go_loopw [5,16] (fun v5 v16 wr=>∃ c:Nat,c<=m/\v16=.int .i64 (c:Nat)/\v5=.int .i64 (rkTo p m R0 c:Nat)/\Hid (∃ gs T,TabO B gt cap n m gs T wr/\(∀ i j,i<n->j<m->0<=T i j/\T i j<p)/\Inv p m R0 c (QC1 n (rkTo p m R0 (c)) T)/\rkTo p m R0 (c)<=n/\Below B w wr)) (fun _ v16 _=>m-(intOf v16).toNat)
 case atStart=>exact⟨0,Nat.zero_le _,rfl,rfl,(by obtain⟨gs,T,h1,h2,h3,h4⟩:=HP.out;exact⟨gs,T,h1,h2,h3,Nat.zero_le _,h4⟩:∃ gs T,TabO B gt cap n m gs T w/\(∀ i j,i<n->j<m->0<=T i j/\T i j<p)/\Inv p m R0 0 (QC1 n (rkTo p m R0 (0)) T)/\rkTo p m R0 (0)<=n/\Below B w w)⟩
 case round=>
  clear HP t0
  rename World=>W1
  obtain⟨c,hcm,rfl,rfl,hp1⟩:=hrel
  by_cases hcl:c<m
  · obtain⟨gs,T,hTab,hT,hI,hdn,hbel⟩:=hp1.out
    obtain⟨dn,hdd⟩:∃ dn,rkTo p m R0 c=dn:=⟨_,rfl⟩
    have HDN:=hidB hdd
    rw[hdd]at hI hdn ⊢
    have HTab:=hidB hTab
    have HT:=hidB hT
    have HI:=hidB hI
    have HBE:=hidB hbel
    have hg1:=(hTab.outer.lt gt rfl).2
    have hdc:decide ((c:Int)<(m:Int))=true:=by simp;omega
    have hdc2:decide (c<m)=true:=by simp;omega
    clear hTab hT hI hbel hdd hp1
    go_wp2
    go_loopw [5,7] (fun v5 v7 wr=>∃ i:Nat,dn<=i/\i<=n/\v7=.int .i64 (i:Nat)/\v5=.int .i64 (dn:Nat)/\Hid (wr=W1)/\Hid (∀ q,dn<=q->q<i->T q c=0)) (fun _ v7 _=>n-(intOf v7).toNat)
    case atStart=>exact⟨dn,Nat.le_refl _,hdn,rfl,rfl,(rfl:W1=W1),(fun q h1 h2=>by omega:∀ q,dn<=q->q<dn->T q c=0)⟩
    case round=>
     rename World=>W2
     obtain⟨i,hi1,hi2,rfl,rfl,hw,hz⟩:=hrel
     have e9:W2=W1:=hw.out
     subst e9
     by_cases hil:i<n
     · have t1:=HTab.out.cellO i hil
       have t2:=HTab.out.cellR i c hil hcl
       have t3:=HTab.out.cellO dn (by omega)
       have hxb:=HT.out i c hil hcl
       obtain⟨x,hx⟩:∃ x,T i c=x:=⟨_,rfl⟩
       have HX:=hidB hx
       rw[hx]at t2 hxb
       clear hx
       by_cases hx0:x=0
       · subst hx0
         go_wp2
         go_roundw
         case rel => exact ⟨i + 1, by omega, by omega, by go_num, rfl, trivial, (fun q h1 h2 => by
          by_cases e:q=i
          · rw[e];exact HX.out
          · exact hz.out q h1 (by omega):∀ q,dn<=q->q<i+1->T q c=0)⟩
         case measure=>simp only[intOf];omega
       · have hxz:(x==0)=false:=by simp;exact hx0
         have hdn2:dn<n:=by omega
         have hdn3:(dn:Int)<(n:Int):=by omega
         have hin3:(i:Int)<(n:Int):=by omega
         have f0:W2.frozen? ⟨gt,dn,none⟩=false:=HTab.out.outer.frozenAt dn
         have f1:W2.frozen? ⟨gt,i,none⟩=false:=HTab.out.outer.frozenAt i
         by_cases hdi:dn=i
         · subst hdi
           go_wp2
           apply XF8
           case h=>
            intro key
            go_region_with (fail)
            all_goals exact key.out
           have hsw:=HTab.out.swap dn dn hdn2 hil
           obtain⟨X,hX⟩:∃ X,X=((W2.setCell ⟨gt,dn,none⟩ (.slice (some ⟨gs dn,0,none⟩) m m)).setCell ⟨gt,dn,none⟩ (.slice (some ⟨gs dn,0,none⟩) m m)).drew:=⟨_,rfl⟩
           have HX0:=hidB hX
           have HXT:=hidB (show TabO B gt cap n m (fun q=>gs (swq dn dn q)) (fun q=>T (swq dn dn q)) X/\Below B w X by rw[hX];exact⟨hsw.1.any (grown_below ((Below.refl _ _).drew) none),Below.drew <| HBE.out.grown hsw.2 (by have:=HBE.out.size;omega) (fun q hq=>by have:=Option.some.inj hq;omega)⟩)
           have HT2:Hid (∀ a b,a<n->b<m->0<=T (swq dn dn a) b/\T (swq dn dn a) b<p):=fun a b ha hb=>HT.out _ b (XW9 hdn2 hil ha) hb
           have HI2:=hidB (Xz4 (by omega) hil HI.out)
           have HXC:=hidB (show T (swq dn dn dn) c=x by have e:swq dn dn dn=dn:=(by simp[swq]);rw[e];exact HX.out)
           have HCB:Hid (∀ W,B<=W.heap.size->TabO B gt cap n m (fun q=>gs (swq dn dn q)) (fun q=>T (swq dn dn q)) W->_):=fun W hW hTW=>Qk2 B gt cap n m (fun q=>gs (swq dn dn q)) (fun q=>T (swq dn dn q)) dn c p W hp HPR.out hn hm hdn2 hcl hcap HT2.out (by show T (swq dn dn dn) c≠0;rw[HXC.out];exact hx0) hW hTW
           rw[<-hX]
           clear hsw hX t1 t2 t3 f0 f1 HX0
           have hcd:cap-dn≠0:=by omega
           have hcd2:dn<cap:=by omega
           have hcd3:dn<=n:=by omega
           go_wp2_with (go_at_call 53;refine(HCB.out X (by have:=HXT.out.2.size;omega) HXT.out.1).mono ?_;rintro e9 w5 ⟨rfl,T',hT',hs1,hs2,hb5⟩;refine Hid.out ?_)
           refine Lib.hid ?_
           have HPV:Hid (ZC9 p m R0 c):=(Xy8 HI2.out hcl).2 ⟨_,⟨dn,Nat.le_refl _,hdn2,rfl⟩,fun hd=>hx0 (by have h1:(p:Int) ∣ x:=(by rw[<-HXC.out];exact hd);exact(Qv7 hxb.1 hxb.2).1 h1)⟩
           have HRK:=hidB (show rkTo p m R0 (c+1)=dn+1 by rw[Qg0 HPV.out,HDN.out])
           have HFI : Hid (∃ gs T, TabO B gt cap n m gs T w5 ∧ (∀ i j, i < n → j < m → 0 ≤ T i j ∧ T i j < p) ∧ Inv p m R0 (c + 1) (QC1 n (rkTo p m R0 ((c + 1))) T) ∧ rkTo p m R0 ((c + 1)) ≤ n ∧ Below B w w5) := (by
            rw[HRK.out]
            refine⟨_,T',hT',fun a b ha hb=>?_,?_,by omega,HXT.out.2.trans hb5⟩
            · by_cases h1:a<=dn
              · rw[hs1 a b h1 hb];exact HT2.out a b ha hb
              · exact(hs2 a (by omega) ha).2.1 b hb
            · exact ZJ6 hp HPR.out hcl hdn2 HI2.out (fun hd=>hx0 (by have h1:(p:Int) ∣ x:=(by rw[<-HXC.out];exact hd);exact(Qv7 hxb.1 hxb.2).1 h1)) (fun a h1 h2=>⟨(hs2 a h1 h2).1,(hs2 a h1 h2).2.2⟩):∃ gs T,TabO B gt cap n m gs T w5/\(∀ i j,i<n->j<m->0<=T i j/\T i j<p)/\Inv p m R0 (c+1) (QC1 n (rkTo p m R0 ((c+1))) T)/\rkTo p m R0 ((c+1))<=n/\Below B w w5)
           clear hT' hs1 hs2 hb5 HXT HCB HT2 HI2 HXC
           go_wp2
           go_roundw
           case rel=>exact⟨c+1,by omega,by go_num,(by rw[HRK.out];go_num),HFI.out⟩
           case measure=>simp only[intOf];omega
         · have hid:i≠dn:=fun e=>hdi e.symm
           go_wp2
           apply XF8
           case h=>
            intro key
            go_region_with (fail)
            all_goals exact key.out
           have hsw:=HTab.out.swap dn i hdn2 hil
           obtain⟨X,hX⟩:∃ X,X=((W2.setCell ⟨gt,dn,none⟩ (.slice (some ⟨gs i,0,none⟩) m m)).setCell ⟨gt,i,none⟩ (.slice (some ⟨gs dn,0,none⟩) m m)).drew:=⟨_,rfl⟩
           have HX0:=hidB hX
           have HXT:=hidB (show TabO B gt cap n m (fun q=>gs (swq dn i q)) (fun q=>T (swq dn i q)) X/\Below B w X by rw[hX];exact⟨hsw.1.any (grown_below ((Below.refl _ _).drew) none),Below.drew <| HBE.out.grown hsw.2 (by have:=HBE.out.size;omega) (fun q hq=>by have:=Option.some.inj hq;omega)⟩)
           have HT2:Hid (∀ a b,a<n->b<m->0<=T (swq dn i a) b/\T (swq dn i a) b<p):=fun a b ha hb=>HT.out _ b (XW9 hdn2 hil ha) hb
           have HI2:=hidB (Xz4 (by omega) hil HI.out)
           have HXC:=hidB (show T (swq dn i dn) c=x by have e:swq dn i dn=i:=(by simp[swq]);rw[e];exact HX.out)
           have HCB:Hid (∀ W,B<=W.heap.size->TabO B gt cap n m (fun q=>gs (swq dn i q)) (fun q=>T (swq dn i q)) W->_):=fun W hW hTW=>Qk2 B gt cap n m (fun q=>gs (swq dn i q)) (fun q=>T (swq dn i q)) dn c p W hp HPR.out hn hm hdn2 hcl hcap HT2.out (by show T (swq dn i dn) c≠0;rw[HXC.out];exact hx0) hW hTW
           rw[<-hX]
           clear hsw hX t1 t2 t3 f0 f1 HX0
           have hcd:cap-dn≠0:=by omega
           have hcd2:dn<cap:=by omega
           have hcd3:dn<=n:=by omega
           go_wp2_with (go_at_call 53;refine(HCB.out X (by have:=HXT.out.2.size;omega) HXT.out.1).mono ?_;rintro e9 w5 ⟨rfl,T',hT',hs1,hs2,hb5⟩;refine Hid.out ?_)
           refine Lib.hid ?_
           have HPV:Hid (ZC9 p m R0 c):=(Xy8 HI2.out hcl).2 ⟨_,⟨dn,Nat.le_refl _,hdn2,rfl⟩,fun hd=>hx0 (by have h1:(p:Int) ∣ x:=(by rw[<-HXC.out];exact hd);exact(Qv7 hxb.1 hxb.2).1 h1)⟩
           have HRK:=hidB (show rkTo p m R0 (c+1)=dn+1 by rw[Qg0 HPV.out,HDN.out])
           have HFI : Hid (∃ gs T, TabO B gt cap n m gs T w5 ∧ (∀ i j, i < n → j < m → 0 ≤ T i j ∧ T i j < p) ∧ Inv p m R0 (c + 1) (QC1 n (rkTo p m R0 ((c + 1))) T) ∧ rkTo p m R0 ((c + 1)) ≤ n ∧ Below B w w5) := (by
            rw[HRK.out]
            refine⟨_,T',hT',fun a b ha hb=>?_,?_,by omega,HXT.out.2.trans hb5⟩
            · by_cases h1:a<=dn
              · rw[hs1 a b h1 hb];exact HT2.out a b ha hb
              · exact(hs2 a (by omega) ha).2.1 b hb
            · exact ZJ6 hp HPR.out hcl hdn2 HI2.out (fun hd=>hx0 (by have h1:(p:Int) ∣ x:=(by rw[<-HXC.out];exact hd);exact(Qv7 hxb.1 hxb.2).1 h1)) (fun a h1 h2=>⟨(hs2 a h1 h2).1,(hs2 a h1 h2).2.2⟩):∃ gs T,TabO B gt cap n m gs T w5/\(∀ i j,i<n->j<m->0<=T i j/\T i j<p)/\Inv p m R0 (c+1) (QC1 n (rkTo p m R0 ((c+1))) T)/\rkTo p m R0 ((c+1))<=n/\Below B w w5)
           clear hT' hs1 hs2 hb5 HXT HCB HT2 HI2 HXC
           go_wp2
           go_roundw
           case rel=>exact⟨c+1,by omega,by go_num,(by rw[HRK.out];go_num),HFI.out⟩
           case measure=>simp only[intOf];omega
     · obtain rfl:n=i:=by omega
       have HNP:Hid (¬ ZC9 p m R0 c):=fun hpv=>by
        obtain⟨r,⟨q,h1,h2,rfl⟩,hr⟩:=(Xy8 HI.out hcl).1 hpv
        exact hr (by rw[hz.out q h1 h2];exact Int.dvd_zero _)
       have HRK:=hidB (show rkTo p m R0 (c+1)=dn by rw[XQ0 HNP.out,HDN.out])
       have HIN : Hid (Inv p m R0 (c + 1) (QC1 n dn T)) := HI.out.none hcl (fun r hr => by
        obtain⟨q,h1,h2,rfl⟩:=hr
        rw[hz.out q h1 h2];exact Int.dvd_zero _)
       go_wp2
       go_roundw
       case rel=>exact⟨c+1,by omega,by go_num,(by rw[HRK.out]),(by rw[HRK.out];exact⟨gs,T,HTab.out,HT.out,HIN.out,hdn,HBE.out⟩:∃ gs T,TabO B gt cap n m gs T W2/\(∀ i j,i<n->j<m->0<=T i j/\T i j<p)/\Inv p m R0 (c+1) (QC1 n (rkTo p m R0 ((c+1))) T)/\rkTo p m R0 ((c+1))<=n/\Below B w W2)⟩
       case measure=>simp only[intOf];omega
  · obtain rfl:c=m:=by omega
    go_wp2
    go_ret
    obtain⟨gs,T,_,_,_,_,hbel⟩:=hp1.out
    exact⟨rfl,hbel⟩
end Go.Proofs.YtookanmeflbdlaaGreatDoor

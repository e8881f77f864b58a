/- Several texts of the proof, one behind the other. -/
import Derived.Test.YtmnejkaihjpejaaGreatDoorSgP
import Derived.Test.YtmnejkaihjpejaaGreatDoorQueP
import Derived.Test.YtmnejkaihjpejaaGreatDoorTabP
import Derived.Test.YtmnejkaihjpejaaGreatDoorF11P
/- One more than the greatest number of a list; the walk of ref.mostOf. -/
namespace Go.Proofs.YtmnejkaihjpejaaGreatDoor
open Go.RowKit
def mostTo (l:List Nat):Nat->Nat
 |0=>0
 |k+1=>max (mostTo l k) (l.getD k 0+1)
theorem mostTo_le (l:List Nat) (B k:Nat) (hk:k<=l.length) (h:∀ x,x∈l->x<B):mostTo l k<=B:=by
 induction k with
 |zero=>exact Nat.zero_le _
 |succ k ih=>
  have:=ih (by omega)
  have h2:=h (l.getD k 0) (by rw[List.getD_eq_getElem?_getD,List.getElem?_eq_getElem (by omega)];exact List.getElem_mem _)
  simp only[mostTo]
  omega
theorem mostTo_ov {C:List Cr} (hL:Least (ovE C) (2*C.length+1) (lowM C)) (hpos:∀ v,1<=v->v<2*C.length+1->1<=(lowM C).getD v 0) (k:Nat) (hk:k<=2*C.length):mostTo (ovL C (2*C.length)) k=rootsN (lowM C) (k+1):=by
 induction k with
 |zero=>simp[mostTo,rootsN]
 |succ k ih=>
  have h1:=ih (by omega)
  have e:(ovL C (2*C.length)).getD k 0=ovM C (k+1):=by simp[ovL,List.getD_eq_getElem?_getD,show k<2*C.length by omega]
  have hv:k+1<2*C.length+1:=by omega
  simp only[mostTo]
  rw[h1,e]
  show max (rootsN (lowM C) (k+1)) (ovM C (k+1)+1)=rootsN (lowM C) (k+1)+(if 1<=k+1/\(lowM C).getD (k+1) 0=k+1 then 1 else 0)
  by_cases hr:(lowM C).getD (k+1) 0=k+1
  · rw[if_pos ⟨by omega,hr⟩]
    unfold ovM
    rw[hr]
    omega
  · rw[if_neg (fun z=>hr z.2)]
    have hle:=hL.le hv
    have hp:=hpos (k+1) (by omega) hv
    have hroot:=hL.root hv
    have h3:rootsN (lowM C) ((lowM C).getD (k+1) 0+1)=ovM C (k+1)+1:=by
     show rootsN (lowM C) _+_=_
     rw[if_pos ⟨hp,hroot⟩]
     rfl
    have h4:=rootsN_mono (lowM C) ((lowM C).getD (k+1) 0+1) (k+1) (by omega)
    omega
end Go.Proofs.YtmnejkaihjpejaaGreatDoor
/- The walk of colour.Overs. -/
namespace Go.Proofs.YtmnejkaihjpejaaGreatDoor
open Go.RowKit
set_option maxHeartbeats 4000000
set_option maxRecDepth 100000
theorem overs_yes (hFR : FaceRingsOk) (v : Value) (C : List Cr) (loops : Int) (w : World) (hn : noN C loops = 0) (h : Crs w w.heap.size v C) :
    Calls Tryz.prog 42 #[.agg #[v,.int .i64 loops]] w fun e w'=>∃ a c,e=.returned (.tuple #[.slice a (2*C.length) c,.int .i64 0])/\Slots w' w'.heap.size (.slice a (2*C.length) c) (nats (ovL C (2*C.length)))/\Below w.heap.size w w':=by
 have HC:Hid (Crs w w.heap.size v C):=h
 obtain⟨hm,hp⟩:=noN_zero hn
 have HM:Hid (mayD C loops=true):=hm
 have HP:Hid (planarB C=true):=hp
 have HFA:Hid FaceRingsOk:=hFR
 obtain⟨s1,s2,s3,s4⟩:=sizeB_iff (may_size hm)
 obtain⟨a,cap,rfl,-,-⟩:=h
 have HB1:Hid (Below w.heap.size w (w.alloc (.cells #[.slice a C.length cap,.int .i64 loops] 24))):=(Below.refl _ _).alloc (Nat.le_refl _) _
 clear hm hp hn hFR
 go_enter Tryz.func42,Tryz.ntmps42
 go_wp2_with (go_at_call 17;refine(flat_yes HFA.out _ C loops _ HM.out HP.out (HC.out.up HB1.out)).mono ?_;rintro e9 w2 ⟨a',cap',gF,cF,gT,cT,rfl,hdr,hb2⟩;refine Hid.out ?_)
 refine Lib.hid ?_
 have HDR:Hid (Dr w2 a' cap' C gF gT):=hdr
 have HOV:Hid (∀ W,Dr W a' cap' C gF gT->Calls Tryz.prog 18 #[drV a' cap' C loops gF cF gT cT] W fun e w'=>∃ g,e=.returned (.tuple #[.slice (some ⟨g,0,none⟩) (2*C.length+1) (2*C.length+1),.int .i64 (ovC C:Nat)])/\w'.ownsRow W.heap.size 3 1 (.slice (some ⟨g,0,none⟩) (2*C.length+1) (2*C.length+1)) (2*C.length+1) (nats (ovTo C (2*C.length+1)))/\Below W.heap.size W w'):=fun W hW=>overpasses_any a' cap' C loops gF cF gT cT W HM.out hW
 unfold drV at HOV
 unfold drV
 have HB2:Hid (Below w.heap.size w w2):=HB1.out.trans (hb2.mono HB1.out.size)
 have hs2:=HB2.out.size
 have HBA:Hid (Below w2.heap.size w2 (w2.alloc (.cells #[.slice a' C.length cap',.int .i64 loops,.slice (some ⟨gF,0,none⟩) (2*C.length+1) cF,.slice (some ⟨gT,0,none⟩) (2*C.length+1) cT] 41))):=(Below.refl _ _).alloc (Nat.le_refl _) _
 clear hb2 hdr
 go_wp2_with (go_at_call 18;refine(HOV.out _ (HDR.out.on HBA.out)).mono ?_;rintro e9 w3 ⟨g,rfl,hr3,hb3⟩;refine Hid.out ?_)
 refine Lib.hid ?_
 have HSL : Hid (∀ c, Slots w3 w3.heap.size (.slice (some ⟨g, 1, none⟩) (2 * C.length) c) (nats (ovL C (2 * C.length)))) := fun c => ⟨_, _, by rw [nats_len, ovL_len], fun _ => ⟨g, 1, rfl, (hr3.lt g rfl).2, fun i hi => by
  rw[nats_len,ovL_len]at hi
  have e:(nats (ovL C (2*C.length))).getD i (.bool false)=.int .i64 ((ovL C (2*C.length)).getD i 0:Nat):=by
   rw[List.getD_eq_getElem?_getD,nats_get _ i (by rw[ovL_len];exact hi)];rfl
  rw[hr3.cellAt (1+i) (by omega),nats_get _ (1+i) (by rw[ovTo_len];omega),e,<-ovTo_drop]
  simp[List.getD_eq_getElem?_getD,Nat.add_comm 1 i]⟩⟩
 have HSN:Hid (∀ a c,Slots w3 w3.heap.size (.slice a 0 c) (nats (ovL C 0))):=fun a c=>⟨_,_,by rw[nats_len,ovL_len],fun h1=>by rw[nats_len,ovL_len]at h1;omega⟩
 have HB3:Hid (Below w.heap.size w w3):=HB2.out.trans ((HBA.out.trans (hb3.mono (by simp))).mono hs2)
 clear hr3 hb3
 go_wp2
 all_goals
  go_ret2
  first
   |exact⟨_,_,rfl,HSL.out _,HB3.out⟩
   |exact⟨_,_,rfl,HSN.out _ _,HB3.out⟩
end Go.Proofs.YtmnejkaihjpejaaGreatDoor
/- The walks of colour.prime, ref.Prime, colour.inverse and ref.mostOf. -/
namespace Go.Proofs.YtmnejkaihjpejaaGreatDoor
open Go.RowKit
set_option maxHeartbeats 4000000
set_option maxRecDepth 100000
theorem primeN_no {p f:Nat} (h1:2<=f) (h2:f<p) (h:p%f=0):primeN p=false:=by
 cases e:primeN p with
 |false=>rfl
 |true=>
  have:=List.all_eq_true.1 (Bool.and_eq_true_iff.1 e).2 f (List.mem_range.2 h2)
  simp[h]at this
  omega
theorem sq_all:((List.range 98).all fun p=>(List.range 12).all fun f=>decide (f*f<=p)||(List.range f).any (fun k=>decide (2<=k)&&decide (p%k=0))||(primeN p==decide (2<=p)))=true:=by decide +kernel
theorem sq_prime {p f:Nat} (hp:p<98) (hf:f<12) (hq:p<f*f) (h:∀ k,2<=k->k<f->p%k≠0):primeN p=decide (2<=p):=by
 have h1:=List.all_eq_true.1 (List.all_eq_true.1 sq_all p (List.mem_range.2 hp)) f (List.mem_range.2 hf)
 rcases Bool.or_eq_true_iff.1 h1 with h2|h2
 · rcases Bool.or_eq_true_iff.1 h2 with h3|h3
   · have:f*f<=p:=by simpa using h3
     omega
   · obtain⟨k,hk,e⟩:=List.any_eq_true.1 h3
     have e1:=Bool.and_eq_true_iff.1 e
     exact absurd (by simpa using e1.2) (h k (by simpa using e1.1) (List.mem_range.1 hk))
 · simpa using h2
theorem prime_any (p : Int) (w : World) (hp : p ≤ 97) (hlo : -9223372036854775808 ≤ p) :
    Calls Tryz.prog 16 #[.int .i64 p] w fun e w'=>e=.returned (.bool (primeN p.toNat))/\Below w.heap.size w w':=by
 have HB:Hid (Below w.heap.size w w):=Below.refl _ _
 go_enter Tryz.func16,Tryz.ntmps16
 go_wp2
 go_loopw [3] (fun v3 wr=>∃ f:Nat,2<=f/\f<=10/\v3=.int .i64 (f:Nat)/\Hid (∀ k,2<=k->k<f->p.toNat%k≠0)/\Hid (Below w.heap.size w wr)) (fun v3 _=>11-(intOf v3).toNat)
 case atStart=>exact⟨2,by omega,by omega,rfl,(fun k h1 h2=>by omega),HB.out⟩
 case round=>
  clear HB
  rename World=>W1
  obtain⟨f,hf1,hf2,rfl,hno,hb⟩:=hrel
  obtain⟨s,hs⟩:∃ s:Nat,f*f=s:=⟨_,rfl⟩
  have HS:Hid (f*f=s):=hs
  have hs1:s<=100:=by rw[<-hs];exact Nat.mul_le_mul hf2 hf2
  have hs3:2*f<=s:=by rw[<-hs];exact Nat.mul_le_mul_right f hf1
  have hs2:(f:Int)*(f:Int)=(s:Int):=by rw[<-hs];push_cast;rfl
  have ew:IntKind.i64.wrap ((f:Int)*(f:Int))=(s:Int):=by rw[hs2];exact IntWalk.i64_in _ (by omega)
  have ew2:IntKind.i64.wrap (s:Int)=(s:Int):=IntWalk.i64_in _ (by omega)
  clear hs
  by_cases hle:(s:Int)<=p
  · obtain⟨q,rfl⟩:∃ q:Nat,p=(q:Int):=⟨p.toNat,by omega⟩
    have hq:(q:Int).toNat=q:=Int.toNat_natCast q
    rw[hq]at hno
    have er:(q:Int).tmod (f:Int)=((q%f:Nat):Int):=rfl
    have hf0:((f:Int)==0)=false:=by simp;omega
    have hfn:(f:Int)≠0:=by omega
    have hlt:q%f<f:=Nat.mod_lt _ (by omega)
    obtain⟨r,hr⟩:∃ r,q%f=r:=⟨_,rfl⟩
    have HR:Hid (q%f=r):=hr
    rw[hr]at er hlt
    clear hr
    by_cases hr0:r=0
    · subst hr0
      have HP:Hid (primeN (q:Int).toNat=false):=(by rw[hq];exact primeN_no hf1 (by omega) HR.out:primeN (q:Int).toNat=false)
      clear hq
      go_wp2
      go_ret
      exact⟨by rw[HP.out];rfl,hb.out⟩
    · have hrz:((r:Int)==0)=false:=by simp;omega
      have hf9:f<=9:=by
       rcases Nat.lt_or_ge f 10 with h|h
       · omega
       · obtain rfl:f=10:=by omega
         have:=HS.out
         omega
      clear hq
      go_wp2
      go_roundw
      case rel => exact ⟨f + 1, by omega, by omega, by go_num, (fun k h1 h2 => by
       have h3:(q:Int).toNat=q:=Int.toNat_natCast q
       rw[h3]
       by_cases e:k=f
       · rw[e,HR.out];exact hr0
       · exact hno.out k h1 (by omega):∀ k,2<=k->k<f+1->(q:Int).toNat%k≠0),hb.out⟩
      case measure=>simp only[intOf];omega
  · have HP:Hid (primeN p.toNat=decide (2<=p.toNat)):=sq_prime (by omega) (by omega) (by rw[HS.out];omega) hno.out
    have HE : Hid (decide (2 ≤ p) = decide (2 ≤ p.toNat)) := (by
     by_cases h2:2<=p
     · rw[decide_eq_true h2,decide_eq_true (by omega)]
     · rw[decide_eq_false h2,decide_eq_false (by omega)]:decide (2<=p)=decide (2<=p.toNat))
    go_wp2
    go_ret
    exact⟨ret_bool (by rw[HP.out,<-HE.out]),hb.out⟩
theorem inverse_any (a p : Nat) (w : World) (hp : p < 98) (hpr : primeN p = true) (ha : a < p) (h0 : a ≠ 0) :
    Calls Tryz.prog 67 #[.int .i64 (a:Nat),.int .i64 (p:Nat)] w fun e w'=>∃ b:Nat,e=.returned (.int .i64 (b:Nat))/\b<p/\a*b%p=1/\Below w.heap.size w w':=by
 have HB:Hid (Below w.heap.size w w):=Below.refl _ _
 have HEX:Hid (∃ b,b<p/\a*b%p=1):=inv_ex hp hpr ha h0
 go_enter Tryz.func67,Tryz.ntmps67
 go_wp2
 go_loopw [7] (fun v7 wr=>∃ b:Nat,b<=p/\v7=.int .i64 (b:Nat)/\Hid (∀ k,k<b->a*k%p≠1)/\Hid (Below w.heap.size w wr)) (fun v7 _=>p-(intOf v7).toNat)
 case atStart=>exact⟨0,by omega,rfl,(fun k h1=>by omega),HB.out⟩
 case round=>
  clear HB
  rename World=>W1
  obtain⟨b,hb1,rfl,hno,hb⟩:=hrel
  by_cases hle:b<p
  · obtain⟨s,hs⟩:∃ s:Nat,a*b=s:=⟨_,rfl⟩
    have HS:Hid (a*b=s):=hs
    have hs1:s<=97*97:=by rw[<-hs];exact Nat.mul_le_mul (by omega) (by omega)
    have hs2:(a:Int)*(b:Int)=(s:Int):=by rw[<-hs];push_cast;rfl
    have ew:IntKind.i64.wrap ((a:Int)*(b:Int))=(s:Int):=by rw[hs2];exact IntWalk.i64_in _ (by omega)
    have ew2:IntKind.i64.wrap (s:Int)=(s:Int):=IntWalk.i64_in _ (by omega)
    have er:(s:Int).tmod (p:Int)=((s%p:Nat):Int):=rfl
    have hf0:((p:Int)==0)=false:=by simp;omega
    have hfn:(p:Int)≠0:=by omega
    have hlt:s%p<p:=Nat.mod_lt _ (by omega)
    obtain⟨r,hr⟩:∃ r,s%p=r:=⟨_,rfl⟩
    have HR:Hid (s%p=r):=hr
    rw[hr]at er hlt
    clear hr hs hpr
    by_cases hr0:r=1
    · subst hr0
      go_wp2
      go_ret
      exact⟨b,rfl,hle,(by rw[HS.out];exact HR.out),hb.out⟩
    · have hrz:((r:Int)==1)=false:=by simp;omega
      have hrz2:(r==1)=false:=by simp;omega
      go_wp2
      go_roundw
      case rel => exact ⟨b + 1, by omega, by go_num, (fun k h1 => by
       by_cases e:k=b
       · rw[e,HS.out,HR.out];exact hr0
       · exact hno.out k (by omega):∀ k,k<b+1->a*k%p≠1),hb.out⟩
      case measure=>simp only[intOf];omega
  · obtain⟨c,hc1,hc2⟩:=HEX.out
    exact absurd hc2 (hno.out c (by omega))
end Go.Proofs.YtmnejkaihjpejaaGreatDoor
/- What few says at 12; the walk of bracket.drawn. -/
namespace Go.Proofs.YtmnejkaihjpejaaGreatDoor
open Go.RowKit
set_option maxHeartbeats 4000000
set_option maxRecDepth 100000
theorem hidS0 {P:Prop} (h:P):Hid P:=h
theorem drawn_yes (hFR : FaceRingsOk) (a : Option Addr) (cap : Nat) (C : List Cr) (loops : Int) (w : World) (hn : noN C loops = 0) (h12 : C.length ≤ 12) (h : Crs w w.heap.size (.slice a C.length cap) C) :
    Calls Tryz.prog 29 #[.agg #[.slice a C.length cap,.int .i64 loops]] w fun e w'=>(∃ gF cF gT cT,e=.returned (.tuple #[drV a cap C loops gF cF gT cT,.int .i64 0]))/\Below w.heap.size w w':=by
 have HC:Hid (Crs w w.heap.size (.slice a C.length cap) C):=h
 obtain⟨hm,hp⟩:=noN_zero hn
 have HF:=hidS0 (fun W hW=>flat_yesB hFR a cap C loops W hm hp hW)
 have hz1:decide ((12:Int)<(C.length:Int))=false:=by simp;omega
 clear hm hp
 have HB1:Hid (Below w.heap.size w ((w.alloc (.cells #[.slice a C.length cap,.int .i64 loops] 24)).alloc (.cells #[.slice none 0 0,.int .i64 0,.slice none 0 0,.slice none 0 0] 41))):=below2 _ _ _
 go_enter Tryz.func29,Tryz.ntmps29
 go_wp2_with (go_at_call 17;refine(HF.out _ (HC.out.up HB1.out)).mono ?_;rintro e9 w2 ⟨gF,cF,gT,cT,rfl,-,hb2⟩;refine Hid.out ?_)
 refine Lib.hid ?_
 unfold drV
 have HB2:Hid (Below w.heap.size w w2):=HB1.out.trans (hb2.mono (by simp;omega))
 have hR:w2.heap[w.heap.size+1]?=some (.cells #[.slice none 0 0,.int .i64 0,.slice none 0 0,.slice none 0 0] 41 (0,0)):=(hb2.block _ (by simp)).trans (alloc_at (by simp))
 have hs2:w.heap.size+2<=w2.heap.size:=by have:=hb2.size;simpa using this
 have hA:(w2.alloc (.cells #[.slice a C.length cap,.int .i64 loops,.slice (some ⟨gF,0,none⟩) (2*C.length+1) cF,.slice (some ⟨gT,0,none⟩) (2*C.length+1) cT] 41)).heap[w.heap.size+1]?=some (.cells #[.slice none 0 0,.int .i64 0,.slice none 0 0,.slice none 0 0] 41 (0,0)):=alloc_old hR
 have HA:Hid ((w2.alloc (.cells #[.slice a C.length cap,.int .i64 loops,.slice (some ⟨gF,0,none⟩) (2*C.length+1) cF,.slice (some ⟨gT,0,none⟩) (2*C.length+1) cT] 41)).heap[w.heap.size+1]?=some (.cells #[.slice none 0 0,.int .i64 0,.slice none 0 0,.slice none 0 0] 41 (0,0))):=hA
 have HBA:Hid (Below w.heap.size w (w2.alloc (.cells #[.slice a C.length cap,.int .i64 loops,.slice (some ⟨gF,0,none⟩) (2*C.length+1) cF,.slice (some ⟨gT,0,none⟩) (2*C.length+1) cT] 41))):=HB2.out.alloc HB2.out.size _
 have c0:(w2.alloc (.cells #[.slice a C.length cap,.int .i64 loops,.slice (some ⟨gF,0,none⟩) (2*C.length+1) cF,.slice (some ⟨gT,0,none⟩) (2*C.length+1) cT] 41)).cell? ⟨w.heap.size+1,0,none⟩=some (.slice none 0 0):=block_cell hA rfl
 have c1:(w2.alloc (.cells #[.slice a C.length cap,.int .i64 loops,.slice (some ⟨gF,0,none⟩) (2*C.length+1) cF,.slice (some ⟨gT,0,none⟩) (2*C.length+1) cT] 41)).cell? ⟨w.heap.size+1,1,none⟩=some (.int .i64 0):=block_cell hA rfl
 have c2:(w2.alloc (.cells #[.slice a C.length cap,.int .i64 loops,.slice (some ⟨gF,0,none⟩) (2*C.length+1) cF,.slice (some ⟨gT,0,none⟩) (2*C.length+1) cT] 41)).cell? ⟨w.heap.size+1,2,none⟩=some (.slice none 0 0):=block_cell hA rfl
 have c3:(w2.alloc (.cells #[.slice a C.length cap,.int .i64 loops,.slice (some ⟨gF,0,none⟩) (2*C.length+1) cF,.slice (some ⟨gT,0,none⟩) (2*C.length+1) cT] 41)).cell? ⟨w.heap.size+1,3,none⟩=some (.slice none 0 0):=block_cell hA rfl
 have f0:(w2.alloc (.cells #[.slice a C.length cap,.int .i64 loops,.slice (some ⟨gF,0,none⟩) (2*C.length+1) cF,.slice (some ⟨gT,0,none⟩) (2*C.length+1) cT] 41)).frozen? ⟨w.heap.size+1,0,none⟩=false:=block_frozen hA
 have f1:(w2.alloc (.cells #[.slice a C.length cap,.int .i64 loops,.slice (some ⟨gF,0,none⟩) (2*C.length+1) cF,.slice (some ⟨gT,0,none⟩) (2*C.length+1) cT] 41)).frozen? ⟨w.heap.size+1,1,none⟩=false:=block_frozen hA
 have f2:(w2.alloc (.cells #[.slice a C.length cap,.int .i64 loops,.slice (some ⟨gF,0,none⟩) (2*C.length+1) cF,.slice (some ⟨gT,0,none⟩) (2*C.length+1) cT] 41)).frozen? ⟨w.heap.size+1,2,none⟩=false:=block_frozen hA
 have f3:(w2.alloc (.cells #[.slice a C.length cap,.int .i64 loops,.slice (some ⟨gF,0,none⟩) (2*C.length+1) cF,.slice (some ⟨gT,0,none⟩) (2*C.length+1) cT] 41)).frozen? ⟨w.heap.size+1,3,none⟩=false:=block_frozen hA
 have hN:(w2.alloc (.cells #[.slice a C.length cap,.int .i64 loops,.slice (some ⟨gF,0,none⟩) (2*C.length+1) cF,.slice (some ⟨gT,0,none⟩) (2*C.length+1) cT] 41)).heap[w2.heap.size]?=some (.cells #[.slice a C.length cap,.int .i64 loops,.slice (some ⟨gF,0,none⟩) (2*C.length+1) cF,.slice (some ⟨gT,0,none⟩) (2*C.length+1) cT] 41 (0,0)):=alloc_at rfl
 clear hb2 hR hA
 go_wp2
 have hG:=st4_grown (w2.alloc (.cells #[.slice a C.length cap,.int .i64 loops,.slice (some ⟨gF,0,none⟩) (2*C.length+1) cF,.slice (some ⟨gT,0,none⟩) (2*C.length+1) cT] 41)) (w.heap.size+1) (.slice a C.length cap) (.int .i64 loops) (.slice (some ⟨gF,0,none⟩) (2*C.length+1) cF) (.slice (some ⟨gT,0,none⟩) (2*C.length+1) cT)
 have hX:=st4_block (a:=.slice a C.length cap) (b:=.int .i64 loops) (c:=.slice (some ⟨gF,0,none⟩) (2*C.length+1) cF) (d:=.slice (some ⟨gT,0,none⟩) (2*C.length+1) cT) HA.out
 have x0:=block_cell (i:=0) (v:=.slice a C.length cap) hX rfl
 have x1:=block_cell (i:=1) (v:=.int .i64 loops) hX rfl
 have x2:=block_cell (i:=2) (v:=.slice (some ⟨gF,0,none⟩) (2*C.length+1) cF) hX rfl
 have x3:=block_cell (i:=3) (v:=.slice (some ⟨gT,0,none⟩) (2*C.length+1) cT) hX rfl
 have hbb:=HBA.out.grown hG HBA.out.size (fun k hk=>by have:=Option.some.inj hk;omega)
 unfold st4 at x0 x1 x2 x3
 exact bodyPost_ret (v:=.tuple #[.agg #[.slice a C.length cap,.int .i64 loops,.slice (some ⟨gF,0,none⟩) (2*C.length+1) cF,.slice (some ⟨gT,0,none⟩) (2*C.length+1) cT],.int .i64 0]) (by simp[results,Tryz.results29,go_sem,x0,x1,x2,x3]) rfl ⟨⟨gF,cF,gT,cT,rfl⟩,hbb⟩
end Go.Proofs.YtmnejkaihjpejaaGreatDoor

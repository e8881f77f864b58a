/- Several texts of the proof, one behind the other. -/
import Derived.Test.YtgagenmkpmmpfaaPT4
import Derived.Laws.StructEq
/- The walks of knotworklaw.sameTerms, knotworkref.AtOf and poly.At. -/
namespace Go.Proofs.Ytgagenmkpmmpfaa.Poly
open Go.RowKit
theorem Poly.slice {w:World} {B:Nat} {v:Value} {l:List (Int×Int)} (h:Poly w B v l):∃ a cap,v=.slice a l.length cap/\(0<l.length->∃ b off,a=some ⟨b,off,none⟩/\b<B/\TermsAt w b off l):=by
 rcases h with⟨rfl,rfl⟩|⟨a,cap,rfl,rfl⟩|⟨b,off,cap,rfl,hlt,hT⟩
 · exact⟨none,0,rfl,fun h=>absurd h (by simp)⟩
 · exact⟨some a,cap,rfl,fun h=>absurd h (by simp)⟩
 · exact⟨some ⟨b,off,none⟩,cap,rfl,fun _=>⟨b,off,rfl,hlt,hT⟩⟩
end Go.Proofs.Ytgagenmkpmmpfaa.Poly
/- The walks of knotworkref.AtOf and poly.At: the value at 1 or -1. -/
namespace Go.Proofs.Ytgagenmkpmmpfaa.Poly
open Go.RowKit
set_option maxHeartbeats 1000000
set_option maxRecDepth 100000
def atV (t e c:Int):Int:=if e%2=0 then c else t*c
def atTo (l:List (Int×Int)) (t:Int):Nat->Int
 |0=>0
 |k+1=>atTo l t k+atV t (l.getD k (0,0)).1 (l.getD k (0,0)).2
theorem atV_le (t e c:Int) (ht:t=1∨t = -1) (h0 : -1000000<=c) (h1:c<=1000000) : -1000000<=atV t e c/\atV t e c<=1000000:=by
 unfold atV
 split
 · omega
 · rcases ht with rfl|rfl<;>omega
theorem atTo_le (l:List (Int×Int)) (t:Int) (ht:t=1∨t = -1) (hm:mayB l=true) (k:Nat) (hk:k<=l.length) : -1000000*(k:Int)<=atTo l t k/\atTo l t k<=1000000*(k:Int):=by
 induction k with
 |zero=>simp[atTo]
 |succ k ih=>
  have h:=(okB_iff l k).1 (((may_iff l).1 hm).2 k (by omega))
  have:=ih (by omega)
  have:=atV_le t (l.getD k (0,0)).1 (l.getD k (0,0)).2 ht h.2.2.1 h.2.2.2.1
  rw[atTo]
  omega
theorem ret_int {k:IntKind} {a b:Int} (h:a=b):Ending.returned (.int k a)=.returned (.int k b):=by rw[h]
theorem tmod2 (e:Int):(e.tmod 2==0)=decide (e%2=0):=by
 rw[Bool.eq_iff_iff]
 simp only[beq_iff_eq,decide_eq_true_eq]
 exact⟨fun h=>Int.emod_eq_zero_of_dvd (Int.dvd_of_tmod_eq_zero h),fun h=>Int.tmod_eq_zero_of_dvd (Int.dvd_of_emod_eq_zero h)⟩
theorem mayBe_nil (a:Option Addr) (cap:Nat) (w:World):Calls Try.prog 39 #[.slice a 0 cap] w fun e w'=>e=.returned (.bool true)/\Below w.heap.size w w':=by
 go_enter Try.func39,Try.ntmps39
 go_wp2
 go_loopw [10] (fun i wr=>i=.int .i64 0/\Below w.heap.size w wr) (fun _ _=>0)
 case atStart=>exact⟨rfl,Below.refl _ _⟩
 case round=>
  obtain⟨rfl,hb⟩:=hrel
  go_wp2
  go_ret
  exact⟨rfl,hb⟩
theorem mayBe_poly (v : Value) (l : List (Int × Int)) (w : World) (hl : l.length ≤ maxLen) (hP : Poly w w.heap.size v l) :
    Calls Try.prog 39 #[v] w fun e w'=>e=.returned (.bool (mayB l))/\Below w.heap.size w w':=by
 rcases hP with⟨rfl,rfl⟩|⟨a,cap,rfl,rfl⟩|⟨b,off,cap,rfl,hlt,hT⟩
 · exact mayBe_nil none 0 w
 · exact mayBe_nil (some a) cap w
 · exact mayBe_any b off cap l w hl hlt hT
theorem Poly.up {w w':World} {v:Value} {l:List (Int×Int)} (h:Poly w w.heap.size v l) (hb:Below w.heap.size w w'):Poly w' w'.heap.size v l:=(h.on hb).mono hb.size
theorem at_range (v : Value) (l : List (Int × Int)) (t : Int) (w : World) (hl : l.length ≤ maxLen) (ht : ¬ (t = 1 ∨ t = -1)) (hm : mayB l = true) (hP : Poly w w.heap.size v l) :
    Calls Try.prog 20 #[v,.int .i64 t] w fun e w'=>e=.returned (.tuple #[.int .i64 0,.int .i64 3])/\Below w.heap.size w w':=by
 have HP:Hid (Poly w w.heap.size v l):=hP
 have HL:Hid (l.length<=maxLen):=hl
 have HM:Hid (mayB l=true):=hm
 have t1:(t != 1)=true:=by rw[bne_iff_ne];omega
 have t2:(t != -1)=true:=by rw[bne_iff_ne];omega
 clear hP hl hm ht
 go_enter Try.func20,Try.ntmps20
 go_wp2_with (go_at_call 39;refine(mayBe_poly _ l _ HL.out HP.out).mono ?_;rw[HM.out];rintro r w1 ⟨rfl,hb1⟩)
 go_ret2
 exact⟨rfl,hb1⟩
theorem at_tt {t:Int} (ht:t=1∨t = -1):(t=1/\(t != 1)=false/\(t != -1)=true)∨(t = -1/\(t != 1)=true/\(t != -1)=false):=by
 rcases ht with rfl|rfl
 · exact Or.inl ⟨rfl,rfl,rfl⟩
 · exact Or.inr ⟨rfl,rfl,rfl⟩
theorem at_none (a : Option Addr) (cap : Nat) (t : Int) (w : World) (ht : t = 1 ∨ t = -1) :
    Calls Try.prog 20 #[.slice a 0 cap,.int .i64 t] w fun e w'=>e=.returned (.tuple #[.int .i64 0,.int .i64 0])/\Below w.heap.size w w':=by
 rcases at_tt ht with⟨te,t1,t2⟩|⟨te,t1,t2⟩
 all_goals
  clear te ht
  go_enter Try.func20,Try.ntmps20
  go_wp2_with (go_at_call 39;refine(mayBe_nil _ _ _).mono ?_;rintro r w1 ⟨rfl,hb1⟩)
  go_loopw [6,20] (fun n i wr=>i=.int .i64 0/\n=.int .i64 0/\Below w.heap.size w wr) (fun _ _ _=>0)
  case atStart=>exact⟨rfl,rfl,hb1⟩
  case round=>
   obtain⟨rfl,rfl,hb⟩:=hrel
   go_wp2
   go_ret2
   exact⟨rfl,hb⟩
theorem at_some (b off cap : Nat) (l : List (Int × Int)) (t : Int) (w : World) (ht : t = 1 ∨ t = -1) (hm : mayB l = true) (hbw : b < w.heap.size) (hT : TermsAt w b off l) :
    Calls Try.prog 20 #[.slice (some ⟨b,off,none⟩) l.length cap,.int .i64 t] w fun e w'=>e=.returned (.tuple #[.int .i64 (atTo l t l.length),.int .i64 0])/\Below w.heap.size w w':=by
 have hl64:=((may_iff l).1 hm).1
 have HL:Hid (l.length<=maxLen):=by show _<=_;unfold maxLen;omega
 have HM:Hid (mayB l=true):=hm
 have HT:Hid (TermsAt w b off l):=hT
 have Ht:Hid (t=1∨t = -1):=ht
 have tt:=at_tt ht
 clear hm hT ht
 rcases tt with⟨te,t1,t2⟩|⟨te,t1,t2⟩
 all_goals
  have TE:Hid _:=te
  clear te
  have hmul:∀ c:Int,-1000000<=c->c<=1000000 -> -1000000<=t*c/\t*c<=1000000:=fun c a b=>by
   rcases Ht.out with h|h
   · rw[h];omega
   · rw[h];omega
  have Hmul:Hid _:=hmul
  clear hmul
  go_enter Try.func20,Try.ntmps20
  go_wp2_with (go_at_call 39;refine(mayBe_any b off cap l _ HL.out hbw HT.out).mono ?_;rw[HM.out];rintro r w1 ⟨rfl,hb1⟩)
  go_loopw [6,20] (fun n i wr=>∃ k:Nat,k<=l.length/\i=.int .i64 k/\n=.int .i64 (atTo l t k)/\Below w.heap.size w wr) (fun _ i _=>l.length-(intOf i).toNat)
  case atStart=>exact⟨0,Nat.zero_le _,rfl,rfl,hb1⟩
  case round=>
   obtain⟨k,hk,rfl,rfl,hb⟩:=hrel
   by_cases hlt:k<l.length
   · have c0:=bcell hb hbw (HT.out k hlt).1
     have c1:=bcell hb hbw (HT.out k hlt).2
     have hok:=(okB_iff l k).1 (((may_iff l).1 HM.out).2 k hlt)
     have hs:=atTo_le l t Ht.out HM.out k hk
     have hstep:Hid (atTo l t (k+1)=atTo l t k+atV t (l.getD k (0,0)).1 (l.getD k (0,0)).2):=rfl
     generalize he:(l.getD k (0,0)).1=e at c0 hok hstep
     generalize hc:(l.getD k (0,0)).2=c at c1 hok hstep
     clear he hc
     obtain⟨o1,o2,o3,o4,o5,-⟩:=hok
     clear o5
     have hsz:=hb.size
     have hbr:b<wr.heap.size:=Nat.lt_of_lt_of_le hbw hsz
     by_cases hev:e%2=0
     · have HV:Hid (atV t e c=c):=by show atV t e c=c;unfold atV;rw[if_pos hev]
       have hmod:(e.tmod 2==0)=true:=by rw[tmod2];simp[hev]
       clear hev
       go_wp2
       go_roundw
       case rel=>exact⟨k+1,by omega,by go_num,by rw[hstep.out,HV.out],hb.alloc hsz _⟩
       case measure=>simp[intOf];omega
     · have HV:Hid (atV t e c=t*c):=by show atV t e c=t*c;unfold atV;rw[if_neg hev]
       have hmod:(e.tmod 2==0)=false:=by rw[tmod2];simp[hev]
       have hm:=Hmul.out c o3 o4
       clear hev
       go_wp2
       go_roundw
       case rel=>exact⟨k+1,by omega,by go_num,by rw[hstep.out,HV.out],hb.alloc hsz _⟩
       case measure=>simp[intOf];omega
   · go_wp2
     go_ret2
     obtain rfl:k=l.length:=by omega
     exact⟨rfl,hb⟩
theorem at_yes (v : Value) (l : List (Int × Int)) (t : Int) (w : World) (ht : t = 1 ∨ t = -1) (hm : mayB l = true) (hP : Poly w w.heap.size v l) :
    Calls Try.prog 20 #[v,.int .i64 t] w fun e w'=>e=.returned (.tuple #[.int .i64 (atTo l t l.length),.int .i64 0])/\Below w.heap.size w w':=by
 rcases hP with⟨rfl,rfl⟩|⟨a,cap,rfl,rfl⟩|⟨b,off,cap,rfl,hlt,hT⟩
 · exact at_none none 0 t w ht
 · exact at_none (some a) cap t w ht
 · exact at_some b off cap l t w ht hm hlt hT
end Go.Proofs.Ytgagenmkpmmpfaa.Poly

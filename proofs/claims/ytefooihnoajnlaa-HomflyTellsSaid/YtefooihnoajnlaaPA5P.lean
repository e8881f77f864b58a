/- Several texts of the proof, one behind the other. -/
import Derived.Test.YtefooihnoajnlaaPT4
import Derived.Laws.StructEq
/- The walks of knotworklaw.sameTerms, knotworkref.AtOf and poly.At. -/
namespace Go.Proofs.Ytefooihnoajnlaa.Poly
open Go.RowKit
set_option maxHeartbeats 1000000
set_option maxRecDepth 100000
theorem same_len (a1 a2 : Option Addr) (n1 n2 c1 c2 : Nat) (w : World) (h : n1 ≠ n2) :
    Calls Try.prog 10 #[.slice a1 n1 c1,.slice a2 n2 c2] w fun e w'=>e=.returned (.bool false)/\Below w.heap.size w w':=by
 have hb:((n1:Int) != (n2:Int))=true:=by rw[bne_iff_ne];omega
 go_enter Try.func10,Try.ntmps10
 go_wp2
 go_ret
 exact⟨rfl,Below.refl _ _⟩
theorem same_none (a1 a2 : Option Addr) (c1 c2 : Nat) (w : World) :
    Calls Try.prog 10 #[.slice a1 0 c1,.slice a2 0 c2] w fun e w'=>e=.returned (.bool true)/\Below w.heap.size w w':=by
 go_enter Try.func10,Try.ntmps10
 go_wp2
 go_loopw [5] (fun i wr=>i=.int .i64 0/\Below w.heap.size w wr) (fun _ _=>0)
 case atStart=>exact⟨rfl,Below.refl _ _⟩
 case round=>
  obtain⟨rfl,hb⟩:=hrel
  go_wp2
  go_ret
  exact⟨rfl,hb⟩
theorem eq48 (a b c d:Int) (w:World):(Op.equalIn 10000 62 (.agg #[.int .i64 a,.int .i64 b]) (.agg #[.int .i64 c,.int .i64 d])).run Try.prog w=.ok (a==c&&b==d) w:=by
 have u3:=Try.underlying3
 have a3:=Try.isAgg3
 have z3:=Try.sizeOf3
 have hS:Try.prog.underlying 62=some (.struct (Try.prog.fieldsOf 62)):=by kernel_rfl
 have hp:Try.prog.stoodInHeld 62=false:=by kernel_rfl
 rw[show(10000:Nat)=9999+1 from rfl,run_equalIn_agg w 9999 62 _ _ hS hp]
 simp only[Program.fieldsOf,Try.underlying62]
 go_simp
 by_cases h1:a=c<;>by_cases h2:b=d<;>simp[h1,h2]
theorem neq48 (a b c d:Int) (w:World):(binOp .neq 62 (.agg #[.int .i64 a,.int .i64 b]) (.agg #[.int .i64 c,.int .i64 d])).run Try.prog w=.ok (.bool (!(a==c&&b==d))) w:=by
 rw[run_neq_struct,eq48]
 rfl
theorem same_some (b1 off1 c1 b2 off2 c2 n : Nat) (E1 C1 E2 C2 : Nat → Int) (w : World) (hn : n ≤ maxLen) (hb1 : b1 < w.heap.size) (hb2 : b2 < w.heap.size)
    (h1:∀ i,i<n->w.cell? ⟨b1,off1+i*2,none⟩=some (.int .i64 (E1 i))/\w.cell? ⟨b1,off1+i*2+1,none⟩=some (.int .i64 (C1 i)))
    (h2:∀ i,i<n->w.cell? ⟨b2,off2+i*2,none⟩=some (.int .i64 (E2 i))/\w.cell? ⟨b2,off2+i*2+1,none⟩=some (.int .i64 (C2 i))):
    Calls Try.prog 10 #[.slice (some ⟨b1,off1,none⟩) n c1,.slice (some ⟨b2,off2,none⟩) n c2] w fun e w'=>∃ r:Bool,e=.returned (.bool r)/\(r=true↔∀ i,i<n->E1 i=E2 i/\C1 i=C2 i)/\Below w.heap.size w w':=by
 unfold maxLen at hn
 have H1:Hid _:=h1
 have H2:Hid _:=h2
 clear h1 h2
 have hne:((n:Int) != (n:Int))=false:=by simp
 go_enter Try.func10,Try.ntmps10
 go_wp2
 go_loopw [5] (fun i wr=>∃ k:Nat,k<=n/\i=.int .i64 k/\Below w.heap.size w wr/\Hid (∀ i,i<k->E1 i=E2 i/\C1 i=C2 i)) (fun i _=>n-(intOf i).toNat)
 case atStart=>exact⟨0,Nat.zero_le _,rfl,Below.refl _ _,fun i hi=>absurd hi (Nat.not_lt_zero _)⟩
 case round=>
  obtain⟨k,hk,rfl,hb,hall⟩:=hrel
  by_cases hlt:k<n
  · have q0:=bcell hb hb1 (H1.out k hlt).1
    have q1:=bcell hb hb1 (H1.out k hlt).2
    have q2:=bcell hb hb2 (H2.out k hlt).1
    have q3:=bcell hb hb2 (H2.out k hlt).2
    generalize he1:E1 k=e1 at q0
    generalize hc1:C1 k=f1 at q1
    generalize he2:E2 k=e2 at q2
    generalize hc2:C2 k=f2 at q3
    have HH:Hid (E1 k=e1/\C1 k=f1/\E2 k=e2/\C2 k=f2):=⟨he1,hc1,he2,hc2⟩
    clear he1 hc1 he2 hc2
    have hcmp:=fun W=>neq48 e1 f1 e2 f2 W
    by_cases hsame:e1=e2/\f1=f2
    · have hv:(!(e1==e2&&f1==f2))=false:=by simp[hsame]
      rw[hv]at hcmp
      have HS:Hid (e1=e2/\f1=f2):=hsame
      clear hsame hv
      go_wp2
      go_quiet (fail)
      go_wp2
      go_roundw
      case rel => exact ⟨k + 1, by omega, by go_num, below_drewN hb _, fun i hi => by
       by_cases hik:i=k
       · subst hik
         obtain⟨r1,r2,r3,r4⟩:=HH.out
         exact⟨by rw[r1,r3];exact HS.out.1,by rw[r2,r4];exact HS.out.2⟩
       · exact hall.out i (by omega)⟩
      case measure=>simp[intOf];omega
    · have hv : (!(e1 == e2 && f1 == f2)) = true := by
        cases hh:(e1==e2&&f1==f2) with
        |false=>rfl
        |true=>exact absurd (by simpa using hh) hsame
      rw[hv]at hcmp
      have HS:Hid (¬ (e1=e2/\f1=f2)):=hsame
      clear hsame hv
      go_wp2
      go_quiet (fail)
      go_wp2
      go_ret
      refine⟨false,rfl,⟨fun h=>(by cases h),fun h=>?_⟩,below_drewN hb _⟩
      exfalso
      obtain⟨r1,r2,r3,r4⟩:=HH.out
      have:=h k hlt
      rw[r1,r2,r3,r4]at this
      exact HS.out this
  · go_wp2
    go_ret
    obtain rfl:k=n:=by omega
    exact⟨true,rfl,⟨fun _=>hall.out,fun _=>rfl⟩,hb⟩
theorem list_ext_getD {l m:List (Int×Int)} (hl:l.length=m.length) (h:∀ i,i<l.length->(l.getD i (0,0)).1=(m.getD i (0,0)).1/\(l.getD i (0,0)).2=(m.getD i (0,0)).2):l=m:=by
 apply List.ext_getElem hl
 intro i h1 h2
 have:=h i h1
 simp only[List.getD,List.getElem?_eq_getElem h1,List.getElem?_eq_getElem h2,Option.getD_some]at this
 exact Prod.ext this.1 this.2
theorem Poly.slice {w:World} {B:Nat} {v:Value} {l:List (Int×Int)} (h:Poly w B v l):∃ a cap,v=.slice a l.length cap/\(0<l.length->∃ b off,a=some ⟨b,off,none⟩/\b<B/\TermsAt w b off l):=by
 rcases h with⟨rfl,rfl⟩|⟨a,cap,rfl,rfl⟩|⟨b,off,cap,rfl,hlt,hT⟩
 · exact⟨none,0,rfl,fun h=>absurd h (by simp)⟩
 · exact⟨some a,cap,rfl,fun h=>absurd h (by simp)⟩
 · exact⟨some ⟨b,off,none⟩,cap,rfl,fun _=>⟨b,off,rfl,hlt,hT⟩⟩
theorem same_poly (v1 v2 : Value) (l1 l2 : List (Int × Int)) (w : World) (hl : l1.length ≤ maxLen) (h1 : Poly w w.heap.size v1 l1) (h2 : Poly w w.heap.size v2 l2) :
    Calls Try.prog 10 #[v1,v2] w fun e w'=>e=.returned (.bool (decide (l1=l2)))/\Below w.heap.size w w':=by
 obtain⟨a1,c1,rfl,g1⟩:=h1.slice
 obtain⟨a2,c2,rfl,g2⟩:=h2.slice
 by_cases hne:l1.length=l2.length
 · rcases Nat.eq_zero_or_pos l1.length with h0|h0
   · have e1:l1=[]:=List.length_eq_zero_iff.1 h0
     have e2:l2=[]:=List.length_eq_zero_iff.1 (by omega)
     subst e1 e2
     exact same_none a1 a2 c1 c2 w
   · obtain⟨b1,off1,rfl,hb1,hT1⟩:=g1 h0
     obtain⟨b2,off2,rfl,hb2,hT2⟩:=g2 (by omega)
     rw[<-hne]
     refine(same_some b1 off1 c1 b2 off2 c2 l1.length _ _ _ _ w hl hb1 hb2 hT1 (fun i hi=>hT2 i (by omega))).mono ?_
     rintro e w' ⟨r,rfl,hr,hb⟩
     refine⟨ret_bool ?_,hb⟩
     by_cases h:l1=l2
     · rw[decide_eq_true h];exact(hr.2 (fun i _=>by rw[h];exact⟨rfl,rfl⟩)).symm
     · rw[decide_eq_false h]
       cases r
       · rfl
       · exact absurd (list_ext_getD hne (hr.1 rfl)) h
 · refine(same_len a1 a2 l1.length l2.length c1 c2 w hne).mono ?_
   rintro e w' ⟨rfl,hb⟩
   refine⟨ret_bool ?_,hb⟩
   exact decide_eq_false (fun h=>hne (by rw[h]))
end Go.Proofs.Ytefooihnoajnlaa.Poly
/- The walks of knotworkref.AtOf and poly.At: the value at 1 or -1. -/
namespace Go.Proofs.Ytefooihnoajnlaa.Poly
open Go.RowKit
theorem Poly.up {w w':World} {v:Value} {l:List (Int×Int)} (h:Poly w w.heap.size v l) (hb:Below w.heap.size w w'):Poly w' w'.heap.size v l:=(h.on hb).mono hb.size
end Go.Proofs.Ytefooihnoajnlaa.Poly

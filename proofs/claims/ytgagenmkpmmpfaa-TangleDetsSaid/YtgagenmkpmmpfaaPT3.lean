/- The walks of poly.within and poly.mayBe: they answer the same question as PolyMay. -/
import Derived.Test.YtgagenmkpmmpfaaPT2
import Derived.Deep.RegionWith
namespace Go.Proofs.Ytgagenmkpmmpfaa.Poly
open Go.RowKit
set_option maxHeartbeats 1000000
set_option maxRecDepth 100000
theorem within_yes (n m : Int) (w : World) (hm0 : 0 ≤ m) (hm : m ≤ 1000000) (h1 : -m ≤ n) (h2 : n ≤ m) :
    Calls Try.prog 58 #[.int .i64 n,.int .i64 m] w fun e w'=>e=.returned (.bool true)/\w'=w:=by
 go_enter Try.func58,Try.ntmps58
 go_wp2
 go_ret
 exact⟨rfl,rfl⟩
theorem within_no (n m : Int) (w : World) (hm0 : 0 ≤ m) (hm : m ≤ 1000000) (h : n < -m ∨ m < n) :
    Calls Try.prog 58 #[.int .i64 n,.int .i64 m] w fun e w'=>e=.returned (.bool false)/\w'=w:=by
 go_enter Try.func58,Try.ntmps58
 by_cases h1:n < -m
 · go_wp2
   go_ret
   exact⟨rfl,rfl⟩
 · have h2:m<n:=by omega
   clear h
   go_wp2
   go_ret
   exact⟨ret_bool (by simpa using h2),rfl⟩
theorem mayBe_any (b off cap : Nat) (l : List (Int × Int)) (w : World) (hl : l.length ≤ maxLen) (hbw : b < w.heap.size) (hT : TermsAt w b off l) :
    Calls Try.prog 39 #[.slice (some ⟨b,off,none⟩) l.length cap] w fun e w'=>e=.returned (.bool (mayB l))/\Below w.heap.size w w':=by
 unfold maxLen at hl
 by_cases h64:64<l.length
 · go_enter Try.func39,Try.ntmps39
   go_wp2
   go_ret
   exact⟨ret_bool (may_long l h64),Below.refl _ _⟩
 go_enter Try.func39,Try.ntmps39
 go_wp2
 go_loopw [10] (fun i wr=>∃ k:Nat,k<=l.length/\i=.int .i64 k/\Below w.heap.size w wr/\Hid (∀ i,i<k->okB l i=true)) (fun i _=>l.length-(intOf i).toNat)
 case atStart=>exact⟨0,Nat.zero_le _,rfl,Below.refl _ _,fun i hi=>absurd hi (Nat.not_lt_zero _)⟩
 case round=>
  obtain⟨k,hk,rfl,hb,hall⟩:=hrel
  by_cases hlt:k<l.length
  · have c0:=bcell hb hbw (hT k hlt).1
    have c1:=bcell hb hbw (hT k hlt).2
    generalize he:(l.getD k (0,0)).1=e at c0
    generalize hc:(l.getD k (0,0)).2=c at c1
    have HE:Hid ((l.getD k (0,0)).1=e):=he
    have HC:Hid ((l.getD k (0,0)).2=c):=hc
    clear he hc
    have hbr:b<wr.heap.size:=Nat.lt_of_lt_of_le hbw hb.size
    have hsz:=hb.size
    by_cases t5:c=0
    · have T5:Hid (c=0):=t5
      have d5:(c==0)=true:=by simpa using t5
      clear t5
      go_wp2
      go_quiet (fail)
      go_wp2
      go_ret
      exact⟨ret_bool (may_no l k hlt (okB_no5 HC.out T5.out)),below_drewN (hb.alloc hsz _) _⟩
    have d5:(c==0)=false:=by simpa using t5
    have T5:Hid (¬ c=0):=t5
    clear t5
    by_cases t6:0<k/\e<=(l.getD (k-1) (0,0)).1
    · obtain⟨hk0,t6⟩:=t6
      have d6:decide (0<(k:Int))=true:=by simpa using hk0
      obtain⟨k',rfl⟩:∃ k',k=k'+1:=⟨k - 1,by omega⟩
      have cp:=bcell hb hbw (hT k' (by omega)).1
      rw[Nat.add_sub_cancel]at t6
      generalize hp:(l.getD k' (0,0)).1=p at cp t6
      have HP:Hid ((l.getD k' (0,0)).1=p):=hp
      clear hp
      have d7:decide (e<=p)=true:=by simpa using t6
      go_wp2
      go_quiet (fail)
      go_wp2
      go_ret
      exact⟨ret_bool (may_no l (k'+1) hlt (okB_no6 HE.out HP.out (by omega) t6)),below_drewN (hb.alloc hsz _) _⟩
    have HT6:Hid (¬ (0<k/\e<=(l.getD (k-1) (0,0)).1)):=t6
    clear t6
    -- the walk to region 8, by k
    rcases Nat.eq_zero_or_pos k with hk0|hk0
    · subst hk0
      simp only[Nat.zero_mul,Nat.add_zero]at c0 c1
      have d6:decide (0<(0:Int))=false:=by simp
      by_cases t1 : -1000<=e/\e<=1000
      · obtain⟨t1,t2⟩:=t1
        by_cases t3 : -1000000<=c/\c<=1000000
        · obtain⟨t3,t4⟩:=t3
          go_wp2
          go_quiet (fail)
          go_wp2_with (go_at_call 58;refine(within_yes _ _ _ (by omega) (by omega) (by omega) (by omega)).mono ?_;rintro e w' ⟨rfl,rfl⟩)
          go_roundw
          case rel => exact ⟨0 + 1, by omega, by go_num, below_drewN (hb.alloc hsz _) _, fun i hi => by
           obtain rfl:i=0:=by omega
           exact okB_yes HE.out HC.out (by omega) (by omega) (by omega) (by omega) T5.out (fun h=>by omega)⟩
          case measure=>simp[intOf];omega
        · have t3':c < -1000000∨1000000<c:=by omega
          clear t3
          go_wp2
          go_quiet (fail)
          go_wp2_with (first|(go_at_call_of 58 (e);refine(within_yes _ _ _ (by omega) (by omega) (by omega) (by omega)).mono ?_;rintro e w' ⟨rfl,rfl⟩)|(go_at_call_of 58 (c);refine(within_no _ _ _ (by omega) (by omega) t3').mono ?_;rintro e w' ⟨rfl,rfl⟩))
          go_ret
          exact⟨ret_bool (may_no l 0 hlt (by rcases t3' with h|h;exact okB_no3 HC.out h;exact okB_no4 HC.out h)),below_drewN (hb.alloc hsz _) _⟩
      · have t1':e < -1000∨1000<e:=by omega
        clear t1
        go_wp2
        go_quiet (fail)
        go_wp2_with (go_at_call 58;refine(within_no _ _ _ (by omega) (by omega) t1').mono ?_;rintro e w' ⟨rfl,rfl⟩)
        go_ret
        exact⟨ret_bool (may_no l 0 hlt (by rcases t1' with h|h;exact okB_no1 HE.out h;exact okB_no2 HE.out h)),below_drewN (hb.alloc hsz _) _⟩
    · have d6:decide (0<(k:Int))=true:=by simpa using hk0
      obtain⟨k',rfl⟩:∃ k',k=k'+1:=⟨k - 1,by omega⟩
      have cp:=bcell hb hbw (hT k' (by omega)).1
      have t6:=HT6.out
      rw[Nat.add_sub_cancel]at t6
      generalize hp:(l.getD k' (0,0)).1=p at cp t6
      have HP:Hid ((l.getD k' (0,0)).1=p):=hp
      clear hp
      have d7:decide (e<=p)=false:=by simp;omega
      have t7:p<e:=by omega
      clear t6
      by_cases t1 : -1000<=e/\e<=1000
      · obtain⟨t1,t2⟩:=t1
        by_cases t3 : -1000000<=c/\c<=1000000
        · obtain⟨t3,t4⟩:=t3
          go_wp2
          go_quiet (fail)
          go_wp2_with (go_at_call 58;refine(within_yes _ _ _ (by omega) (by omega) (by omega) (by omega)).mono ?_;rintro e w' ⟨rfl,rfl⟩)
          go_roundw
          case rel => exact ⟨k' + 1 + 1, by omega, by go_num, below_drewN (hb.alloc hsz _) _, fun i hi => by
           by_cases hik:i=k'+1
           · subst hik;exact okB_yes HE.out HC.out (by omega) (by omega) (by omega) (by omega) T5.out (fun _=>by have:=HP.out;simp only[Nat.add_sub_cancel];omega)
           · exact hall.out i (by omega)⟩
          case measure=>simp[intOf];omega
        · have t3':c < -1000000∨1000000<c:=by omega
          clear t3
          go_wp2
          go_quiet (fail)
          go_wp2_with (first|(go_at_call_of 58 (e);refine(within_yes _ _ _ (by omega) (by omega) (by omega) (by omega)).mono ?_;rintro e w' ⟨rfl,rfl⟩)|(go_at_call_of 58 (c);refine(within_no _ _ _ (by omega) (by omega) t3').mono ?_;rintro e w' ⟨rfl,rfl⟩))
          go_ret
          exact⟨ret_bool (may_no l (k'+1) hlt (by rcases t3' with h|h;exact okB_no3 HC.out h;exact okB_no4 HC.out h)),below_drewN (hb.alloc hsz _) _⟩
      · have t1':e < -1000∨1000<e:=by omega
        clear t1
        go_wp2
        go_quiet (fail)
        go_wp2_with (go_at_call 58;refine(within_no _ _ _ (by omega) (by omega) t1').mono ?_;rintro e w' ⟨rfl,rfl⟩)
        go_ret
        exact⟨ret_bool (may_no l (k'+1) hlt (by rcases t1' with h|h;exact okB_no1 HE.out h;exact okB_no2 HE.out h)),below_drewN (hb.alloc hsz _) _⟩
  · go_wp2
    go_ret
    obtain rfl:k=l.length:=by omega
    exact⟨ret_bool (may_yes l (by omega) hall.out),hb⟩
end Go.Proofs.Ytgagenmkpmmpfaa.Poly

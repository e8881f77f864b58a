/- Several texts of the proof, one behind the other. -/
import Derived.Test.YtbobljddklldjaaGreatDoorW1P
import Derived.Test.YtbobljddklldjaaGreatDoorAL0P
import Derived.Test.YtbobljddklldjaaGreatDoorBaseP
import Derived.Deep.QuietTactic
import Derived.BigQuiet
/- Plain mathematics: a drawing is coloured in as many ways by arcs as by overpasses. -/
namespace Go.Proofs.YtbobljddklldjaaGreatDoor
theorem rootsN_at (W:List Nat) (a:Nat) (h1:1<=a):rootsN W (a+1)=rootsN W a+(if W.getD a 0=a then 1 else 0):=by
 show rootsN W a+_=_
 by_cases e:W.getD a 0=a
 · rw[if_pos ⟨h1,e⟩,if_pos e]
 · rw[if_neg (fun h=>e h.2),if_neg e]
end Go.Proofs.YtbobljddklldjaaGreatDoor
/- Plain mathematics: both searches count the same. -/
namespace Go.Proofs.YtbobljddklldjaaGreatDoor
theorem ovM_in {C:List Cr} {loops:Int} (hm:mayD C loops=true) (a:Nat) (h1:1<=a) (h2:a<=2*C.length):ovM C a<ovC C:=by
 have hL:=lowM_least (ovE_lt hm)
 have hp:=hL.pos (fun e he=>⟨(ovE_in hm e he).1.1,(ovE_in hm e he).2.1⟩) (v:=a) (by omega) h1
 have h3:=rootsN_at (lowM C) ((lowM C).getD a 0) hp
 rw[if_pos (hL.root (by omega))]at h3
 have h4:=rootsN_mono (lowM C) ((lowM C).getD a 0+1) (2*C.length+1) (by have:=hL.le (v:=a) (by omega);omega)
 show rootsN (lowM C) ((lowM C).getD a 0)<rootsN (lowM C) (2*C.length+1)
 omega
end Go.Proofs.YtbobljddklldjaaGreatDoor
/- Plain mathematics of the bracket: states that tie the same, together; one crossing more; all states. -/
namespace Go.Proofs.YtbobljddklldjaaGreatDoor
def exS (s:Nat):Nat->Int
 |0=>0
 |k+1=>exS s k+(if s / 2 ^ k%2=1 then 1 else -1)
def kyS (C:List Cr) (s k:Nat):List Nat:=tieP (prS (arQ C) s) (2*k)
def wS (C:List Cr) (c0 s k:Nat):Int->Int:=shA (exS s k) (dlN (c0+closP (prS (arQ C) s) (2*k)) oneAb)
def mS (C:List Cr) (c0 k:Nat) (T:List Nat):Int->Int:=fun y=>sumS (2 ^ k) fun s=>if kyS C s k=T then wS C c0 s k y else 0
def t4 (T:List Nat) (p q r s:Nat):List Nat:=tieT (tieT T p q) r s
def c4 (T:List Nat) (p q r s:Nat):Nat:=tieN T p q+tieN (tieT T p q) r s
def tA (C:List Cr) (k:Nat) (T:List Nat):List Nat:=t4 T (arQ C k 0) (arQ C k 1) (arQ C k 2) (arQ C k 3)
def cA (C:List Cr) (k:Nat) (T:List Nat):Nat:=c4 T (arQ C k 0) (arQ C k 1) (arQ C k 2) (arQ C k 3)
def tB (C:List Cr) (k:Nat) (T:List Nat):List Nat:=t4 T (arQ C k 1) (arQ C k 2) (arQ C k 3) (arQ C k 0)
def cB (C:List Cr) (k:Nat) (T:List Nat):Nat:=c4 T (arQ C k 1) (arQ C k 2) (arQ C k 3) (arQ C k 0)
theorem c4_le (T:List Nat) (p q r s:Nat):c4 T p q r s<=2:=by
 unfold c4 tieN;split<;>split<;>omega
theorem ex_low {k s:Nat}:∀ j,j<=k->exS (2 ^ k+s) j=exS s j
 |0,_=>rfl
 |j+1,h=>by
  show exS (2 ^ k+s) j+_=exS s j+_
  rw[ex_low j (by omega),bit_lo (by omega:j<k)]
theorem ky_low (C:List Cr) {k s j:Nat} (h:j<=k):kyS C (2 ^ k+s) j=kyS C s j:=(tie_congr (2*j) fun i hi=>pr_low _ (by omega)).1
theorem clos_low (C:List Cr) {k s j:Nat} (h:j<=k):closP (prS (arQ C) (2 ^ k+s)) (2*j)=closP (prS (arQ C) s) (2*j):=(tie_congr (2*j) fun i hi=>pr_low _ (by omega)).2.1
theorem w_low (C:List Cr) (c0:Nat) {k s j:Nat} (h:j<=k):wS C c0 (2 ^ k+s) j=wS C c0 s j:=by
 unfold wS;rw[ex_low j h,clos_low C h]
theorem ky_next (C:List Cr) (s k:Nat):kyS C s (k+1)=if s / 2 ^ k%2=1 then tA C k (kyS C s k) else tB C k (kyS C s k):=by
 unfold kyS tA tB t4
 rw[show 2*(k+1)=2*k+1+1 by omega]
 show tieT (tieT (tieP _ (2*k)) (prS _ s (2*k)).1 (prS _ s (2*k)).2) (prS _ s (2*k+1)).1 (prS _ s (2*k+1)).2=_
 rw[pr_lo,pr_hi]
 by_cases h:s / 2 ^ k%2=1
 · simp only[if_pos h]
 · simp only[if_neg h]
theorem clos_next (C:List Cr) (s k:Nat):closP (prS (arQ C) s) (2*(k+1))=closP (prS (arQ C) s) (2*k)+if s / 2 ^ k%2=1 then cA C k (kyS C s k) else cB C k (kyS C s k):=by
 unfold kyS cA cB c4
 rw[show 2*(k+1)=2*k+1+1 by omega]
 show closP _ (2*k)+tieN (tieP _ (2*k)) (prS _ s (2*k)).1 (prS _ s (2*k)).2+tieN (tieT (tieP _ (2*k)) (prS _ s (2*k)).1 (prS _ s (2*k)).2) (prS _ s (2*k+1)).1 (prS _ s (2*k+1)).2=_
 rw[pr_lo,pr_hi]
 by_cases h:s / 2 ^ k%2=1
 · simp only[if_pos h];omega
 · simp only[if_neg h];omega
theorem w_next (C:List Cr) (c0 s k:Nat):wS C c0 s (k+1)=if s / 2 ^ k%2=1 then dlN (cA C k (kyS C s k)) (shA 1 (wS C c0 s k)) else dlN (cB C k (kyS C s k)) (shA (-1) (wS C c0 s k)):=by
 unfold wS
 rw[clos_next]
 show shA (exS s k+_) _=_
 by_cases h:s / 2 ^ k%2=1
 · simp only[if_pos h]
   rw[sh_sh,dlN_sh,dlN_add,Int.add_comm 1]
   congr 2;omega
 · simp only[if_neg h]
   rw[sh_sh,dlN_sh,dlN_add,Int.add_comm (-1)]
   congr 2;omega
def undF (C:List Cr) (c0 k:Nat) (U:List Nat) (y:Int) (s:Nat):Int:=
 (if tA C k (kyS C s k)=U then dlN (cA C k (kyS C s k)) (shA 1 (wS C c0 s k)) y else 0)+(if tB C k (kyS C s k)=U then dlN (cB C k (kyS C s k)) (shA (-1) (wS C c0 s k)) y else 0)
def undG (C:List Cr) (c0 k:Nat) (dn:List Nat->Bool) (U:List Nat):Int->Int:=fun y=>sumS (2 ^ k) fun s=>if dn (kyS C s k)=true then undF C c0 k U y s else 0
theorem undG_all (C:List Cr) (c0 k:Nat) (U:List Nat) {dn:List Nat->Bool} (h:∀ s,s<2 ^ k->dn (kyS C s k)=true):undG C c0 k dn U=mS C c0 (k+1) U:=by
 funext y
 unfold mS undG
 rw[sumS_two]
 refine sumS_congr fun s hs=>?_
 rw[if_pos (h s hs)]
 unfold undF
 have b0:¬ s / 2 ^ k%2=1:=by rw[bit_off hs];decide
 have k0:kyS C s (k+1)=tB C k (kyS C s k):=by rw[ky_next,if_neg b0]
 have w0:wS C c0 s (k+1)=dlN (cB C k (kyS C s k)) (shA (-1) (wS C c0 s k)):=by rw[w_next,if_neg b0]
 have k1:kyS C (2 ^ k+s) (k+1)=tA C k (kyS C s k):=by rw[ky_next,if_pos (bit_hi hs),ky_low C (Nat.le_refl k)]
 have w1:wS C c0 (2 ^ k+s) (k+1)=dlN (cA C k (kyS C s k)) (shA 1 (wS C c0 s k)):=by rw[w_next,if_pos (bit_hi hs),ky_low C (Nat.le_refl k),w_low C c0 (Nat.le_refl k)]
 rw[k0,w0,k1,w1]
 omega
theorem dlN_if (c n:Nat) (P:Nat->Prop) [∀ s,Decidable (P s)] (F:Nat->Int->Int):dlN c (fun y=>sumS n fun s=>if P s then F s y else 0)=fun y=>sumS n fun s=>if P s then dlN c (F s) y else 0:=by
 have e:(fun y=>sumS n fun s=>if P s then F s y else 0)=fun y=>sumS n fun s=>(if P s then F s else fun _=>0) y:=by
  funext y;refine sumS_congr fun s _=>?_;split<;>rfl
 have z:∀ c,dlN c (fun _=>0)=fun _=>0:=by
  intro c
  induction c with
  |zero=>rfl
  |succ c ih=>show dlA (dlN c _)=_;rw[ih];rfl
 rw[e,dlN_sum]
 funext y
 refine sumS_congr fun s _=>?_
 by_cases h:P s
 · rw[if_pos h,if_pos h]
 · rw[if_neg h,if_neg h,z]
theorem undG_step (C : List Cr) (c0 k : Nat) (U T : List Nat) {dn dn' : List Nat → Bool} (h0 : dn T = false) (h : ∀ s, dn' (kyS C s k) = true ↔ dn (kyS C s k) = true ∨ kyS C s k = T) (y : Int) :
    undG C c0 k dn' U y=undG C c0 k dn U y+(if tA C k T=U then dlN (cA C k T) (shA 1 (mS C c0 k T)) y else 0)+(if tB C k T=U then dlN (cB C k T) (shA (-1) (mS C c0 k T)) y else 0):=by
 unfold undG
 rw[sumS_more (F:=undF C c0 k U y) (P:=fun s=>dn (kyS C s k)) (Q:=fun s=>decide (kyS C s k=T)) (R:=fun s=>dn' (kyS C s k)) (fun s _=>by rw[h s];simp) (fun s _ e=>by have:=of_decide_eq_true e.2;rw[this,h0]at e;simp at e)]
 rw[Int.add_assoc]
 congr 1
 have hs:∀ e,shA e (mS C c0 k T)=fun y=>sumS (2 ^ k) fun s=>if kyS C s k=T then shA e (wS C c0 s k) y else 0:=fun e=>rfl
 rw[hs,hs,dlN_if,dlN_if]
 by_cases h1:tA C k T=U<;>by_cases h2:tB C k T=U
 · rw[if_pos h1,if_pos h2,<-sumS_add]
   refine sumS_congr fun s _=>?_
   by_cases e:kyS C s k=T
   · unfold undF;rw[e];simp[h1,h2]
   · simp[e]
 · rw[if_pos h1,if_neg h2,Int.add_zero]
   refine sumS_congr fun s _=>?_
   by_cases e:kyS C s k=T
   · unfold undF;rw[e];simp[h1,h2]
   · simp[e]
 · rw[if_neg h1,if_pos h2,Int.zero_add]
   refine sumS_congr fun s _=>?_
   by_cases e:kyS C s k=T
   · unfold undF;rw[e];simp[h1,h2]
   · simp[e]
 · rw[if_neg h1,if_neg h2]
   rw[show(0:Int)+0=sumS (2 ^ k) (fun _=>0) from(sumS_zero _).symm]
   refine sumS_congr fun s _=>?_
   by_cases e:kyS C s k=T
   · unfold undF;rw[e];simp[h1,h2]
   · simp[e]
theorem undG_none (C:List Cr) (c0 k:Nat) (U:List Nat) {dn:List Nat->Bool} (h:∀ s,s<2 ^ k->dn (kyS C s k)=false) (y:Int):undG C c0 k dn U y=0:=by
 unfold undG
 rw[sumS_congr (g:=fun _=>0) fun s hs=>by rw[h s hs];rfl,sumS_zero]
def allG (C:List Cr) (c0 k:Nat) (dn:List Nat->Bool):Int->Int:=fun y=>sumS (2 ^ k) fun s=>if dn (kyS C s k)=true then wS C c0 s k y else 0
def allS (C:List Cr) (c0 k:Nat):Int->Int:=fun y=>sumS (2 ^ k) fun s=>wS C c0 s k y
theorem allG_all (C:List Cr) (c0 k:Nat) {dn:List Nat->Bool} (h:∀ s,s<2 ^ k->dn (kyS C s k)=true):allG C c0 k dn=allS C c0 k:=by
 funext y;exact sumS_congr fun s hs=>by rw[if_pos (h s hs)]
theorem allG_none (C:List Cr) (c0 k:Nat) {dn:List Nat->Bool} (h:∀ s,s<2 ^ k->dn (kyS C s k)=false) (y:Int):allG C c0 k dn y=0:=by
 unfold allG
 rw[sumS_congr (g:=fun _=>0) fun s hs=>by rw[h s hs];rfl,sumS_zero]
theorem allG_step (C:List Cr) (c0 k:Nat) (T:List Nat) {dn dn':List Nat->Bool} (h0:dn T=false) (h:∀ s,dn' (kyS C s k)=true↔dn (kyS C s k)=true∨kyS C s k=T) (y:Int):allG C c0 k dn' y=allG C c0 k dn y+mS C c0 k T y:=by
 unfold allG mS
 rw[sumS_more (F:=fun s=>wS C c0 s k y) (P:=fun s=>dn (kyS C s k)) (Q:=fun s=>decide (kyS C s k=T)) (R:=fun s=>dn' (kyS C s k)) (fun s _=>by rw[h s];simp) (fun s _ e=>by have:=of_decide_eq_true e.2;rw[this,h0]at e;simp at e)]
 congr 1
 exact sumS_congr fun s _=>by simp
theorem clos_le (C:List Cr) (s:Nat):∀ k,closP (prS (arQ C) s) (2*k)<=2*k
 |0=>Nat.le_refl _
 |k+1=>by
  have:=clos_le C s k
  have a:=c4_le (kyS C s k) (arQ C k 0) (arQ C k 1) (arQ C k 2) (arQ C k 3)
  have b:=c4_le (kyS C s k) (arQ C k 1) (arQ C k 2) (arQ C k 3) (arQ C k 0)
  rw[clos_next];unfold cA cB;split<;>omega
theorem w_bd (C:List Cr) (c0 s k:Nat) (y:Int):(wS C c0 s k y).natAbs<=2 ^ (c0+2*k):=by
 have h:=dlN_bd one_bd (c0+closP (prS (arQ C) s) (2*k)) (y-exS s k)
 rw[Nat.mul_one]at h
 exact Nat.le_trans h (Nat.pow_le_pow_right (by omega) (by have:=clos_le C s k;omega))
theorem ex_bd (s:Nat):∀ k:Nat,-(k:Int)<=exS s k/\exS s k<=k
 |0=>⟨Int.le_refl _,Int.le_refl _⟩
 |k+1=>by
  have:=ex_bd s k
  show -((k+1:Nat):Int)<=exS s k+_/\exS s k+_<=((k+1:Nat):Int)
  split<;>omega
theorem m_bd (C:List Cr) (c0 k:Nat) (T:List Nat) (y:Int):(mS C c0 k T y).natAbs<=2 ^ (c0+3*k):=by
 refine Nat.le_trans (sumS_bd (H:=2 ^ (c0+2*k)) fun s _=>?_) ?_
 · by_cases e:kyS C s k=T
   · rw[if_pos e];exact w_bd C c0 s k y
   · rw[if_neg e];exact Nat.zero_le _
 · rw[<-Nat.pow_add];exact Nat.pow_le_pow_right (by omega) (by omega)
theorem dlw_bd (C:List Cr) (c0 s k c:Nat) (e:Int) (hc:c<=2) (y:Int):(dlN c (shA e (wS C c0 s k)) y).natAbs<=2 ^ (c0+2*k+2):=by
 have h:=dlN_bd (f:=shA e (wS C c0 s k)) (H:=2 ^ (c0+2*k)) (fun y=>w_bd C c0 s k (y-e)) c y
 rw[<-Nat.pow_add]at h
 exact Nat.le_trans h (Nat.pow_le_pow_right (by omega) (by omega))
theorem undG_bd (C:List Cr) (c0 k:Nat) (dn:List Nat->Bool) (U:List Nat) (y:Int):(undG C c0 k dn U y).natAbs<=2 ^ (c0+3*k+3):=by
 refine Nat.le_trans (sumS_bd (H:=2 ^ (c0+2*k+3)) fun s _=>?_) ?_
 · have a:=dlw_bd C c0 s k (cA C k (kyS C s k)) 1 (c4_le _ _ _ _ _) y
   have b:=dlw_bd C c0 s k (cB C k (kyS C s k)) (-1) (c4_le _ _ _ _ _) y
   have e:2 ^ (c0+2*k+3)=2 ^ (c0+2*k+2)+2 ^ (c0+2*k+2):=by rw[Nat.pow_succ];omega
   unfold undF
   split
   · split<;>split<;>omega
   · exact Nat.zero_le _
 · rw[<-Nat.pow_add];exact Nat.pow_le_pow_right (by omega) (by omega)
theorem allG_bd (C:List Cr) (c0 k:Nat) (dn:List Nat->Bool) (y:Int):(allG C c0 k dn y).natAbs<=2 ^ (c0+3*k):=by
 refine Nat.le_trans (sumS_bd (H:=2 ^ (c0+2*k)) fun s _=>?_) ?_
 · split
   · exact w_bd C c0 s k y
   · exact Nat.zero_le _
 · rw[<-Nat.pow_add];exact Nat.pow_le_pow_right (by omega) (by omega)
def rgS (C:List Cr) (loops s:Nat):Nat:=2*C.length+loops-joinP (prS (arN C) s) (2*C.length)
def brS (C:List Cr) (loops:Nat):Int->Int:=fun y=>sumS (2 ^ C.length) fun s=>shA (exS s C.length) (dlN (rgS C loops s-1) oneAb) y
theorem br_same {C:List Cr} {l:Int} {loops:Nat} (hm:mayD C l=true) (_hl:l=loops) (h12:C.length<=12):allS C (if C.length=0 then loops-1 else loops) C.length=brS C loops:=by
 funext y
 refine sumS_congr fun s _=>?_
 unfold wS rgS
 by_cases h0:C.length=0
 · rw[if_pos h0,h0]
   have e1:loops-1+closP (prS (arQ C) s) (2*0)=loops-1:=rfl
   have e2:2*0+loops-joinP (prS (arN C) s) (2*0)-1=loops-1:=by
    have:joinP (prS (arN C) s) (2*0)=0:=rfl
    rw[this];omega
   rw[e1,e2]
 · rw[if_neg h0]
   have h:=rings_cut hm h12 (by omega) s
   congr 2;congr 1;omega
end Go.Proofs.YtbobljddklldjaaGreatDoor
/- What hangs together when pairs are tied one behind the other: from labels that are given, renamed, cut at an end; all of a ring's ends are paired. -/
namespace Go.Proofs.YtbobljddklldjaaGreatDoor
def labW (W:Nat->Nat) (P:Nat->Nat×Nat):Nat->Nat->Nat
 |0=>W
 |i+1=>lab (labW W P i) (P i).1 (P i).2
def joinW (W:Nat->Nat) (P:Nat->Nat×Nat):Nat->Nat
 |0=>0
 |i+1=>joinW W P i+(if labW W P i (P i).1=labW W P i (P i).2 then 0 else 1)
theorem labP_add (P:Nat->Nat×Nat) (i:Nat):∀ j,labP P (i+j)=labW (labP P i) (fun k=>P (i+k)) j/\joinP P (i+j)=joinP P i+joinW (labP P i) (fun k=>P (i+k)) j
 |0=>⟨rfl,rfl⟩
 |j+1=>by
  obtain⟨h1,h2⟩:=labP_add P i j
  refine⟨?_,?_⟩
  · show lab (labP P (i+j)) (P (i+j)).1 (P (i+j)).2=lab (labW (labP P i) (fun k=>P (i+k)) j) (P (i+j)).1 (P (i+j)).2
    rw[h1]
  · show joinP P (i+j)+(if labP P (i+j) (P (i+j)).1=labP P (i+j) (P (i+j)).2 then 0 else 1)=joinP P i+(joinW (labP P i) (fun k=>P (i+k)) j+(if labW (labP P i) (fun k=>P (i+k)) j (P (i+j)).1=labW (labP P i) (fun k=>P (i+k)) j (P (i+j)).2 then 0 else 1))
    rw[h1,h2,Nat.add_assoc]
theorem join_ren {S : Nat → Prop} {ρ W V : Nat → Nat} {P Q : Nat → Nat × Nat} {m : Nat} (hS : ∀ i, i < m → S (P i).1 ∧ S (P i).2) (hQ : ∀ i, i < m → Q i = (ρ (P i).1, ρ (P i).2)) (h0 : ∀ u v, S u → S v → (V (ρ u) = V (ρ v) ↔ W u = W v)) :
    ∀ i,i<=m->(∀ u v,S u->S v->(labW V Q i (ρ u)=labW V Q i (ρ v)↔labW W P i u=labW W P i v))/\joinW V Q i=joinW W P i
 |0,_=>⟨h0,rfl⟩
 |i+1,hi=>by
  obtain⟨h1,h2⟩:=join_ren hS hQ h0 i (by omega)
  obtain⟨s1,s2⟩:=hS i (by omega)
  have hq:=hQ i (by omega)
  refine⟨fun u v su sv=>?_,?_⟩
  · show lab (labW V Q i) (Q i).1 (Q i).2 (ρ u)=lab (labW V Q i) (Q i).1 (Q i).2 (ρ v)↔lab (labW W P i) (P i).1 (P i).2 u=lab (labW W P i) (P i).1 (P i).2 v
    rw[hq,lab_iff,lab_iff]
    simp only
    rw[h1 u v su sv,h1 u _ su s1,h1 _ v s2 sv,h1 u _ su s2,h1 _ v s1 sv]
  · show joinW V Q i+(if labW V Q i (Q i).1=labW V Q i (Q i).2 then 0 else 1)=joinW W P i+(if labW W P i (P i).1=labW W P i (P i).2 then 0 else 1)
    rw[h2,hq]
    simp only
    have e:=h1 _ _ s1 s2
    by_cases c:labW W P i (P i).1=labW W P i (P i).2
    · rw[if_pos c,if_pos (e.2 c)]
    · rw[if_neg c,if_neg (fun q=>c (e.1 q))]
theorem labP_W (P:Nat->Nat×Nat):∀ i,labP P i=labW (fun v=>v) P i/\joinP P i=joinW (fun v=>v) P i
 |0=>⟨rfl,rfl⟩
 |i+1=>by
  obtain⟨h1,h2⟩:=labP_W P i
  refine⟨?_,?_⟩
  · show lab (labP P i) _ _=lab (labW _ P i) _ _
    rw[h1]
  · show joinP P i+_=joinW _ P i+_
    rw[h1,h2]
theorem lab_alone {P:Nat->Nat×Nat} {z:Nat}:∀ i,(∀ k,k<i->(P k).1≠z/\(P k).2≠z)->∀ u,labP P i u=labP P i z↔u=z
 |0,_,_=>Iff.rfl
 |i+1,h,u=>by
  have ih:=lab_alone i (fun k hk=>h k (by omega))
  obtain⟨n1,n2⟩:=h i (by omega)
  show lab (labP P i) _ _ u=lab (labP P i) _ _ z↔u=z
  rw[lab_iff]
  constructor
  · rintro(q|⟨-,q⟩|⟨-,q⟩)
    · exact(ih u).1 q
    · exact absurd ((ih _).1 q) n2
    · exact absurd ((ih _).1 q) n1
  · intro q;rw[q];exact Or.inl rfl
def sgK (K A v:Nat):Nat:=if v=K then A else v
theorem cut_joinK {P Q : Nat → Nat × Nat} {m A K : Nat} (hA : A ≠ K) (h : ∀ i, i < m → (P i).1 = sgK K A (Q i).1 ∧ (P i).2 = sgK K A (Q i).2) :
    ∀ i,i<=m->(∀ u v,labP P i (sgK K A u)=labP P i (sgK K A v)↔lab (labP Q i) K A u=lab (labP Q i) K A v)/\joinP Q i=joinP P i+(if labP Q i K=labP Q i A then 1 else 0):=by
 intro i hi
 induction i with
 |zero=>
  refine⟨fun u v=>?_,?_⟩
  · show sgK K A u=sgK K A v↔lab (fun v=>v) K A u=lab (fun v=>v) K A v
    unfold sgK lab
    by_cases h1:u=K<;>by_cases h2:v=K<;>by_cases h3:u=A<;>by_cases h4:v=A<;>simp_all<;>omega
  · show 0=0+(if K=A then 1 else 0)
    rw[if_neg (fun e=>hA e.symm)]
 |succ i ih=>
  obtain⟨h1,h2⟩:=ih (by omega)
  obtain⟨e1,e2⟩:=h i (by omega)
  refine⟨fun u v=>?_,?_⟩
  · show lab (labP P i) (P i).1 (P i).2 (sgK K A u)=lab (labP P i) (P i).1 (P i).2 (sgK K A v)↔lab (lab (labP Q i) (Q i).1 (Q i).2) K A u=lab (lab (labP Q i) (Q i).1 (Q i).2) K A v
    rw[lab_swap,lab_iff,lab_iff,e1,e2,h1,h1,h1,h1,h1]
  · show joinP Q i+(if labP Q i (Q i).1=labP Q i (Q i).2 then 0 else 1)=joinP P i+(if labP P i (P i).1=labP P i (P i).2 then 0 else 1)+(if lab (labP Q i) (Q i).1 (Q i).2 K=lab (labP Q i) (Q i).1 (Q i).2 A then 1 else 0)
    have hq:labP P i (P i).1=labP P i (P i).2↔(labP Q i (Q i).1=labP Q i (Q i).2∨(labP Q i (Q i).1=labP Q i K/\labP Q i A=labP Q i (Q i).2)∨(labP Q i (Q i).1=labP Q i A/\labP Q i K=labP Q i (Q i).2)):=by
     rw[e1,e2,h1,lab_iff]
    have:=join_step (labP Q i) (Q i).1 (Q i).2 K A (labP P i (P i).1=labP P i (P i).2) hq
    rw[h2]
    omega
def clE (W dg:Nat->Nat) (c:Nat):Nat->Nat
 |0=>0
 |v+1=>clE W dg c v+(if W v=c then dg v else 0)
theorem clE_one (W:Nat->Nat) (c x:Nat):∀ N,clE W (fun v=>if x=v then 1 else 0) c N=if x<N/\W x=c then 1 else 0
 |0=>by rw[if_neg (fun q=>Nat.not_lt_zero _ q.1)];rfl
 |N+1=>by
  show clE W _ c N+(if W N=c then(if x=N then 1 else 0) else 0)=_
  rw[clE_one W c x N]
  by_cases e:x=N
  · subst e
    rw[if_neg (fun q=>Nat.lt_irrefl _ q.1),if_pos rfl,Nat.zero_add]
    by_cases h:W x=c
    · rw[if_pos h,if_pos ⟨by omega,h⟩]
    · rw[if_neg h,if_neg (fun q=>h q.2)]
  · rw[if_neg e]
    have e2:(if W N=c then 0 else 0)=0:=by split<;>rfl
    rw[e2,Nat.add_zero]
    by_cases h:x<N/\W x=c
    · rw[if_pos h,if_pos ⟨by omega,h.2⟩]
    · rw[if_neg h,if_neg (fun q=>h ⟨by omega,q.2⟩)]
theorem clE_add (W dg eg:Nat->Nat) (c:Nat):∀ N,clE W (fun v=>dg v+eg v) c N=clE W dg c N+clE W eg c N
 |0=>rfl
 |N+1=>by
  show clE W _ c N+(if W N=c then dg N+eg N else 0)=clE W dg c N+(if W N=c then dg N else 0)+(clE W eg c N+(if W N=c then eg N else 0))
  rw[clE_add W dg eg c N]
  split<;>omega
theorem clE_dgm (W dg:Nat->Nat) (c x y N:Nat) (hx:x<N) (hy:y<N):clE W (dgm dg x y) c N=clE W dg c N+(if W x=c then 1 else 0)+(if W y=c then 1 else 0):=by
 have e:dgm dg x y=fun v=>(fun v=>dg v+(if x=v then 1 else 0)) v+(if y=v then 1 else 0):=rfl
 rw[e,clE_add,clE_add,clE_one,clE_one]
 simp only[hx,hy,true_and]
theorem clE_congr {W V dg:Nat->Nat} {c d:Nat}:∀ N,(∀ v,v<N->(W v=c↔V v=d))->clE W dg c N=clE V dg d N
 |0,_=>rfl
 |N+1,h=>by
  show clE W dg c N+(if W N=c then dg N else 0)=clE V dg d N+(if V N=d then dg N else 0)
  rw[clE_congr N (fun v hv=>h v (by omega))]
  have:=h N (by omega)
  by_cases q:W N=c
  · rw[if_pos q,if_pos (this.1 q)]
  · rw[if_neg q,if_neg (fun r=>q (this.2 r))]
theorem clE_none {W dg:Nat->Nat} {c:Nat}:∀ N,(∀ v,v<N->W v≠c)->clE W dg c N=0
 |0,_=>rfl
 |N+1,h=>by
  show clE W dg c N+(if W N=c then dg N else 0)=0
  rw[clE_none N (fun v hv=>h v (by omega)),if_neg (h N (by omega))]
theorem clE_or {W V dg:Nat->Nat} {c d e:Nat} (hne:d≠e):∀ N,(∀ v,v<N->(V v=c↔W v=d∨W v=e))->clE V dg c N=clE W dg d N+clE W dg e N
 |0,_=>rfl
 |N+1,h=>by
  show clE V dg c N+(if V N=c then dg N else 0)=clE W dg d N+(if W N=d then dg N else 0)+(clE W dg e N+(if W N=e then dg N else 0))
  rw[clE_or hne N (fun v hv=>h v (by omega))]
  have:=h N (by omega)
  by_cases q1:W N=d
  · rw[if_pos q1,if_neg (fun r=>hne (q1.symm.trans r)),if_pos (this.2 (Or.inl q1))];omega
  · by_cases q2:W N=e
    · rw[if_neg q1,if_pos q2,if_pos (this.2 (Or.inr q2))];omega
    · rw[if_neg q1,if_neg q2,if_neg (fun r=>(this.1 r).elim q1 q2)];omega
theorem clE_even {P:Nat->Nat×Nat} {N:Nat}:∀ i,(∀ k,k<i->(P k).1<N/\(P k).2<N)->∀ c,clE (labP P i) (dgP P i) c N%2=0
 |0,_,c=>by
  have e:∀ N,clE (labP P 0) (dgP P 0) c N=0:=fun N=>by
   induction N with
   |zero=>rfl
   |succ N ih=>show clE _ _ c N+(if _ then 0 else 0)=0;rw[ih];split<;>rfl
  rw[e]
 |i+1,h,c=>by
  have ih:=clE_even i (fun k hk=>h k (by omega))
  obtain⟨n1,n2⟩:=h i (by omega)
  show clE (lab (labP P i) (P i).1 (P i).2) (dgm (dgP P i) (P i).1 (P i).2) c N%2=0
  generalize labP P i=W at ih
  generalize dgP P i=dg at ih
  generalize (P i).1=x at n1
  generalize (P i).2=y at n2
  by_cases hxy:W x=W y
  · have e : clE (lab W x y) (dgm dg x y) c N = clE W (dgm dg x y) c N := clE_congr N (fun v _ => by
      unfold lab
      by_cases q:W v=W y
      · rw[if_pos q,hxy,q]
      · rw[if_neg q])
    rw[e,clE_dgm W dg c x y N n1 n2,hxy]
    have:=ih c
    split<;>omega
  · by_cases c1:c=W x
    · subst c1
      have e : clE (lab W x y) (dgm dg x y) (W x) N = clE W (dgm dg x y) (W x) N + clE W (dgm dg x y) (W y) N := clE_or hxy N (fun v _ => by
       unfold lab
       by_cases q:W v=W y
       · rw[if_pos q];exact⟨fun _=>Or.inr q,fun _=>rfl⟩
       · rw[if_neg q];exact⟨Or.inl,fun r=>r.elim id (fun r=>absurd r q)⟩)
      rw[e,clE_dgm W dg _ x y N n1 n2,clE_dgm W dg _ x y N n1 n2,if_pos rfl,if_neg (fun q=>hxy q.symm),if_neg hxy,if_pos rfl]
      have a:=ih (W x)
      have b:=ih (W y)
      omega
    · by_cases c2:c=W y
      · rw [clE_none N (fun v _ => by
          unfold lab
          by_cases q:W v=W y
          · rw[if_pos q];exact fun r=>c1 r.symm
          · rw[if_neg q];exact fun r=>q (r.trans c2))]
      · have e : clE (lab W x y) (dgm dg x y) c N = clE W (dgm dg x y) c N := clE_congr N (fun v _ => by
          unfold lab
          by_cases q:W v=W y
          · rw[if_pos q];exact⟨fun r=>absurd r.symm c1,fun r=>absurd (r.symm.trans q) c2⟩
          · rw[if_neg q])
        rw[e,clE_dgm W dg c x y N n1 n2,if_neg (fun q=>c1 q.symm),if_neg (fun q=>c2 q.symm)]
        have:=ih c
        omega
theorem clE_odd {W dg:Nat->Nat} {c K:Nat} (hd:∀ v,v≠K->W v=c->dg v%2=0) (hK:dg K%2=1) (hc:W K=c):∀ N,K<N->clE W dg c N%2=1
 |0,h=>by omega
 |N+1,h=>by
  have hz:∀ M,M<=K->clE W dg c M%2=0:=fun M=>by
   induction M with
   |zero=>intro _;rfl
   |succ M ih=>
    intro hM
    show(clE W dg c M+(if W M=c then dg M else 0))%2=0
    have a:=ih (by omega)
    by_cases q:W M=c
    · rw[if_pos q];have:=hd M (by omega) q;omega
    · rw[if_neg q];omega
  show(clE W dg c N+(if W N=c then dg N else 0))%2=1
  by_cases e:K=N
  · subst e
    rw[if_pos hc]
    have:=hz K (Nat.le_refl _)
    omega
  · have a:=clE_odd hd hK hc N (by omega)
    by_cases q:W N=c
    · rw[if_pos q];have:=hd N (fun r=>e r.symm) q;omega
    · rw[if_neg q];omega
theorem ends_joined {P:Nat->Nat×Nat} {N m A K:Nat} (hr:∀ k,k<m->(P k).1<N/\(P k).2<N) (hK:K<N) (hd:∀ v,v≠A->v≠K->dgP P m v%2=0) (hdK:dgP P m K%2=1):labP P m K=labP P m A:=by
 refine Classical.byContradiction fun hne=>?_
 have h1:=clE_even m hr (labP P m K)
 have h2 := clE_odd (W := labP P m) (dg := dgP P m) (c := labP P m K) (K := K) (fun v q1 q2 => by
  by_cases e:v=A
  · exact absurd (by rw[<-q2,e]) hne
  · exact hd v e q1) hdK rfl N hK
 omega
end Go.Proofs.YtbobljddklldjaaGreatDoor
/- Tellings of pieces: plain mathematics; the walk of ref.otherEnd. -/
namespace Go.Proofs.YtbobljddklldjaaGreatDoor
open Go.RowKit
def nbS (C:List Cr) (k s:Nat):Nat:=enS C ((C.getD k Cr.none).arc s).toNat (!(C.getD k Cr.none).comes s)
theorem nb_may {C : List Cr} {loops : Int} (hm : mayD C loops = true) (k s : Nat) (hk : k < C.length) (hs : s < 4) :
    (1<=((C.getD k Cr.none).arc s).toNat/\((C.getD k Cr.none).arc s).toNat<=2*C.length/\(C.getD k Cr.none).arc s=(((C.getD k Cr.none).arc s).toNat:Int))/\
    endTo C ((C.getD k Cr.none).arc s).toNat (!(C.getD k Cr.none).comes s) C.length=((nbC C k s:Int),(nbS C k s:Int))/\nbC C k s<C.length/\nbS C k s<4:=by
 have hf:=may_fit hm k s hk hs
 have g1:=hf.1
 have g2:=hf.2.1
 have ha:1<=((C.getD k Cr.none).arc s).toNat/\((C.getD k Cr.none).arc s).toNat<=2*C.length:=by omega
 have h:=en_may hm _ (!(C.getD k Cr.none).comes s) ha.1 ha.2
 exact⟨⟨ha.1,ha.2,by omega⟩,h.1,h.2.1,h.2.2.1⟩
def teS (C:List Cr) (c:Nat) (p:List Nat×List Int) (s:Nat):List Nat×List Int:=
 let o:=if nbC C c s∈p.1 then p.1 else p.1++[nbC C c s]
 (o,p.2++[(o.idxOf (nbC C c s):Int),(nbS C c s:Int)])
def teK (C:List Cr) (i:Nat) (p:List Nat×List Int):Nat->List Nat×List Int
 |0=>(p.1,p.2++[if(C.getD (p.1.getD i 0) Cr.none).plus=true then 1 else 0])
 |k+1=>teS C (p.1.getD i 0) (teK C i p k) k
def teI (C:List Cr) (first:Nat):Nat->List Nat×List Int
 |0=>([first],[])
 |i+1=>if i<(teI C first i).1.length then teK C i (teI C first i) 4 else teI C first i
def te (C:List Cr) (first:Nat):List Nat×List Int:=teI C first C.length
structure TeOk (C:List Cr) (p:List Nat×List Int):Prop where
 lt:∀ x,x∈p.1->x<C.length
 nd:p.1.Nodup
theorem TeOk.few {C:List Cr} {p:List Nat×List Int} (h:TeOk C p):p.1.length<=C.length:=by
 have:=List.Nodup.length_le_of_subset h.nd (l₂:=List.range C.length) (fun x hx=>List.mem_range.2 (h.lt x hx))
 simpa using this
theorem teS_ok {C:List Cr} {loops:Int} (hm:mayD C loops=true) {c:Nat} (hc:c<C.length) {p:List Nat×List Int} (h:TeOk C p) {s:Nat} (hs:s<4):TeOk C (teS C c p s):=by
 have hn:=(nb_may hm c s hc hs).2.2.1
 unfold teS
 simp only
 split
 · exact⟨h.lt,h.nd⟩
 · rename_i hno
   refine⟨fun x hx=>?_,?_⟩
   · rcases List.mem_append.1 hx with hx|hx
     · exact h.lt x hx
     · simp only[List.mem_singleton]at hx;omega
   · refine List.nodup_append.2 ⟨h.nd,by simp,fun a ha b hb e=>?_⟩
     simp only[List.mem_singleton]at hb
     rw[e,hb]at ha
     exact hno ha
end Go.Proofs.YtbobljddklldjaaGreatDoor
/- Which of two tellings is less: the walks of cmp.Compare, slices.Compare and canon.compare. -/
namespace Go.Proofs.YtbobljddklldjaaGreatDoor
open Go.RowKit
def cmpI (x y:Int):Int:=if x<y then -1 else if y<x then 1 else 0
def lexC:List Int->List Int->Int
 |[],[]=>0
 |[],_::_ => -1
 |_::_,[]=>1
 |x::s,y::t=>if x=y then lexC s t else cmpI x y
def cmpT (p q:List Nat×List Int):Int:=if p.1.length=q.1.length then lexC p.2 q.2 else cmpI p.1.length q.1.length
end Go.Proofs.YtbobljddklldjaaGreatDoor

/- Several texts of the proof, one behind the other. -/
import Derived.Test.YthlmkoiilgjflaaNB4aP
import Derived.Test.YthlmkoiilgjflaaNB4cP
import Derived.Test.YthlmkoiilgjflaaNB4eP
import Derived.Test.YthlmkoiilgjflaaGB8P
import Derived.Test.YthlmkoiilgjflaaBR11
import Derived.Test.YthlmkoiilgjflaaGD6
import Derived.Test.YthlmkoiilgjflaaIlP
/- BraidNormals: the word that the normal form tells is the same braid as the word that it is of. -/
namespace Go.Proofs.Ythlmkoiilgjflaa

theorem chk_6 : chkA 6 = true := chkA_of fun a ha => by
  have h : a = 0 ∨ a = 1 ∨ a = 2 ∨ a = 3 ∨ a = 4 ∨ a = 5 ∨ a = 6 ∨ a = 7 ∨ a = 8 ∨ a = 9 ∨ a = 10 ∨ a = 11 := by omega
  rcases h with e | e | e | e | e | e | e | e | e | e | e | e <;> subst e
  · exact chkG_0
  · exact chkG_1
  · exact chkG_2
  · exact chkG_3
  · exact chkG_4
  · exact chkG_5
  · exact chkG_6
  · exact chkG_7
  · exact chkG_8
  · exact chkG_9
  · exact chkG_10
  · exact chkG_11
theorem chkA_all {n : Nat} (h2 : 2 ≤ n) (h6 : n ≤ 6) : chkA n = true := by
  have hn : n = 2 ∨ n = 3 ∨ n = 4 ∨ n = 5 ∨ n = 6 := by omega
  rcases hn with e | e | e | e | e <;> subst e
  · exact chk_2
  · exact chk_3
  · exact chk_4
  · exact chk_5
  · exact chk_6
/-- A permutation's word, as letters. -/
def pw1 (n : Nat) (p : List Nat) : List Int := lw (bubW n p)
structure ChkOf (n : Nat) (p : List Nat) : Prop where
  done : (bub n p n).1 = pid n
  left : chk okL (act0 n) (pw1 n p) = true
  right : chk okR (act0 n) (rc (pw1 n p)) = true
  half : chk okR ((rc (pw1 n (pdl n))).foldl stp (act0 n)) (pw1 n p) = true
theorem chk_of {n : Nat} (h2 : 2 ≤ n) (h6 : n ≤ 6) {p : List Nat} (hp : IsP n p) : ChkOf n p := by
  have h := chkA_all h2 h6
  unfold chkA at h
  have h1 := List.all_eq_true.1 h p (isP_mem hp)
  have h3 : (decide ((bub n p n).1 = pid n) && (chk okL (act0 n) (pw1 n p) && chk okR (act0 n) (rc (pw1 n p)) && chk okR ((rc (pw1 n (pdl n))).foldl stp (act0 n)) (pw1 n p))) = true := h1
  simp only [Bool.and_eq_true, decide_eq_true_eq] at h3
  exact ⟨h3.1, h3.2.1.1, h3.2.1.2, h3.2.2⟩
theorem bubW_rw {n : Nat} (h2 : 2 ≤ n) (h6 : n ≤ 6) {p : List Nat} (hp : IsP n p) : Rw n p (bubW n p) := bub_rw (by omega) hp (chk_of h2 h6 hp).done
theorem vl_pw {n : Nat} (h2 : 2 ≤ n) (h6 : n ≤ 6) {p : List Nat} (hp : IsP n p) : Vl n (pw1 n p) := (bubW_rw h2 h6 hp).lt
theorem good_pw {n : Nat} (h2 : 2 ≤ n) (h6 : n ≤ 6) {p : List Nat} (hp : IsP n p) : GoodB n (pw1 n p) := ⟨vl_pw h2 h6 hp, fun s => Or.inl (chk_take okL _ _ (chk_of h2 h6 hp).left s)⟩
theorem good_rc {n : Nat} (h2 : 2 ≤ n) (h6 : n ≤ 6) {p : List Nat} (hp : IsP n p) : GoodB n (rc (pw1 n p)) := ⟨(vl_pw h2 h6 hp).rc, fun s => Or.inr (chk_take okR _ _ (chk_of h2 h6 hp).right s)⟩
theorem good_half {n : Nat} (h2 : 2 ≤ n) (h6 : n ≤ 6) {p : List Nat} (hp : IsP n p) : GoodB n (rc (pw1 n (pdl n)) ++ pw1 n p) := by
  refine ⟨(vl_pw h2 h6 (isP_pdl n)).rc.app (vl_pw h2 h6 hp), fun s => ?_⟩
  have g := good_rc h2 h6 (isP_pdl n)
  have c := chk_take okR _ _ (chk_of h2 h6 hp).half
  generalize rc (pw1 n (pdl n)) = R at g c ⊢
  rw [List.take_append]
  by_cases hs : s ≤ R.length
  · rw [Nat.sub_eq_zero_of_le hs, List.take_zero, List.append_nil]
    exact g.ok s
  · rw [List.take_of_length_le (by omega), List.foldl_append]
    exact Or.inr (c _)

/-- A word, so many times. -/
def rep (v : List Int) : Nat → List Int
  | 0 => []
  | k + 1 => rep v k ++ v
theorem rep_cons (v : List Int) : ∀ k, rep v (k + 1) = v ++ rep v k
  | 0 => by show [] ++ v = v ++ []; rw [List.append_nil]; rfl
  | k + 1 => by
    show rep v (k + 1) ++ v = v ++ (rep v k ++ v)
    rw [rep_cons v k, List.append_assoc]
theorem vl_rep {n : Nat} {v : List Int} (h : Vl n v) : ∀ k, Vl n (rep v k)
  | 0 => Vl.nil n
  | k + 1 => (vl_rep h k).app h
/-- Delta to that power. -/
def hw (n : Nat) (k : Int) : List Int := if 0 ≤ k then rep (pw1 n (pdl n)) k.toNat else rep (rc (pw1 n (pdl n))) (-k).toNat
/-- The words of a row that is told from its end on. -/
def wrd (n : Nat) : List (List Nat) → List Int
  | [] => []
  | x :: F => wrd n F ++ pw1 n x
theorem wrd_app (n : Nat) : ∀ A B : List (List Nat), wrd n (A ++ B) = wrd n B ++ wrd n A
  | [], B => by show wrd n B = wrd n B ++ []; rw [List.append_nil]
  | x :: A, B => by show wrd n (A ++ B) ++ pw1 n x = wrd n B ++ (wrd n A ++ pw1 n x); rw [wrd_app n A B, List.append_assoc]
theorem vl_wrd {n : Nat} (h2 : 2 ≤ n) (h6 : n ≤ 6) : ∀ {F : List (List Nat)}, AllP n F → Vl n (wrd n F)
  | [], _ => Vl.nil n
  | _ :: _, h => (vl_wrd h2 h6 (fun z hz => h z (.tail _ hz))).app (vl_pw h2 h6 (h _ (.head _)))
theorem vl_hw {n : Nat} (h2 : 2 ≤ n) (h6 : n ≤ 6) (k : Int) : Vl n (hw n k) := by
  unfold hw
  split
  · exact vl_rep (vl_pw h2 h6 (isP_pdl n)) _
  · exact vl_rep (vl_pw h2 h6 (isP_pdl n)).rc _
section
variable {σ : Type} {f : σ → Int → σ} {ok : σ → Prop} {n : Nat}
theorem evW_wrd (S : σ) : ∀ F : List (List Nat), evW f (bubW n) S F = (wrd n F).foldl f S
  | [] => rfl
  | x :: F => by
    show (pw1 n x).foldl f (evW f (bubW n) S F) = (wrd n F ++ pw1 n x).foldl f S
    rw [List.foldl_append, evW_wrd S F]
theorem itD_rep (S : σ) : ∀ k, itD f (bubW n) n k S = (rep (pw1 n (pdl n)) k).foldl f S
  | 0 => rfl
  | k + 1 => by
    show (pw1 n (pdl n)).foldl f (itD f (bubW n) n k S) = (rep (pw1 n (pdl n)) k ++ pw1 n (pdl n)).foldl f S
    rw [List.foldl_append, itD_rep S k]
theorem itD_rc (h : Ba σ f ok n (bubW n)) (h6 : n ≤ 6) {S : σ} (hS : ok S) : ∀ k, itD f (bubW n) n k ((rep (rc (pw1 n (pdl n))) k).foldl f S) = S
  | 0 => rfl
  | k + 1 => by
    have hv := (vl_pw h.n2 h6 (isP_pdl n)).rc
    have hT := h.act.fold hS (vl_rep hv k)
    have e : itD f (bubW n) n (k + 1) ((rep (rc (pw1 n (pdl n))) (k + 1)).foldl f S) = itD f (bubW n) n k (itD f (bubW n) n 1 ((rep (rc (pw1 n (pdl n))) (k + 1)).foldl f S)) := by
      rw [← itD_add, Nat.add_comm]
    rw [e]
    have e2 : itD f (bubW n) n 1 ((rep (rc (pw1 n (pdl n))) (k + 1)).foldl f S) = (rep (rc (pw1 n (pdl n))) k).foldl f S := by
      show (pw1 n (pdl n)).foldl f ((rep (rc (pw1 n (pdl n))) k ++ rc (pw1 n (pdl n))).foldl f S) = _
      rw [List.foldl_append, ← List.foldl_append]
      have := sm_rc hv σ f ok h.act _ hT
      rw [rc_rc] at this
      exact this
    rw [e2]
    exact itD_rc h h6 hS k
end
/-- THE NORMAL FORM'S WORD IS THE SAME BRAID. -/
theorem nf_sm {n : Nat} (h2 : 2 ≤ n) (h6 : n ≤ 6) {w : List Int} (hv : Vl n w) : Sm n w (hw n (nfW n w).1 ++ wrd n (nfW n w).2) := by
  intro σ f ok hb S hS
  have h : Ba σ f ok n (bubW n) := ⟨hb, fun x hx => bubW_rw h2 h6 hx, h2⟩
  obtain ⟨a, b, T, hT, e1, e2, e3⟩ := h.tells hS w hv
  rw [e3, evW_wrd, List.foldl_append]
  congr 1
  unfold hw
  split
  · rename_i hk
    have hm : a = (nfW n w).1.toNat + b := by omega
    rw [← itD_rep]
    refine h.itD_inj hT (h.okD hS _) b ?_
    rw [← itD_add, ← hm, e2]
  · rename_i hk
    have hm : b = (-(nfW n w).1).toNat + a := by omega
    have hO : ok ((rep (rc (pw1 n (pdl n))) (-(nfW n w).1).toNat).foldl f S) := hb.fold hS (vl_rep (vl_pw h2 h6 (isP_pdl n)).rc _)
    have hR := itD_rc h h6 hS (-(nfW n w).1).toNat
    refine h.itD_inj hT hO b ?_
    rw [← e2]
    conv => rhs; rw [hm, itD_add, hR]

theorem nfL_len (n : Nat) : ∀ F : List (List Nat), (nfL n F).1 + (nfL n F).2.length ≤ F.length
  | [] => Nat.le_refl _
  | f :: F => by
    have h := nfL_len n F
    unfold nfL
    split
    · show (nfL n F).1 + 1 + (nfL n F).2.length ≤ F.length + 1; omega
    · split
      · show (nfL n F).1 + (nfL n F).2.length ≤ F.length + 1; omega
      · show (nfL n F).1 + ((nfL n F).2.length + 1) ≤ F.length + 1; omega
/-- How many factors, and Delta's power. -/
structure NfB (k : Nat) (S : Int × List (List Nat)) : Prop where
  low : -(k : Int) ≤ S.1
  len : S.2.length ≤ k
  sum : S.1 + (S.2.length : Nat) ≤ k
theorem NfB.cst {n k : Nat} {S : Int × List (List Nat)} (h : NfB k S) (x : Int) : NfB (k + 1) (cst n S x) := by
  obtain ⟨h1, h2, h3⟩ := h
  have key : ∀ (y : List Nat) (F : List (List Nat)), F.length = S.2.length → (nfL n (pas n F y)).1 + (nfL n (pas n F y)).2.length ≤ S.2.length + 1 := fun y F hF => by
    have := nfL_len n (pas n F y)
    rw [pas_len] at this
    omega
  unfold Go.Proofs.Ythlmkoiilgjflaa.cst
  split
  · have := key (psg n (x.natAbs - 1)) S.2 rfl
    refine ⟨?_, ?_, ?_⟩
    · show -((k + 1 : Nat) : Int) ≤ S.1 + ((nfL n (pas n S.2 (psg n (x.natAbs - 1)))).1 : Nat); omega
    · show (nfL n (pas n S.2 (psg n (x.natAbs - 1)))).2.length ≤ k + 1; omega
    · show S.1 + ((nfL n (pas n S.2 (psg n (x.natAbs - 1)))).1 : Nat) + ((nfL n (pas n S.2 (psg n (x.natAbs - 1)))).2.length : Nat) ≤ ((k + 1 : Nat) : Int); omega
  · have := key (pdg n (x.natAbs - 1)) (S.2.map (pta n)) (by simp)
    refine ⟨?_, ?_, ?_⟩
    · show -((k + 1 : Nat) : Int) ≤ S.1 - 1 + ((nfL n (pas n (S.2.map (pta n)) (pdg n (x.natAbs - 1)))).1 : Nat); omega
    · show (nfL n (pas n (S.2.map (pta n)) (pdg n (x.natAbs - 1)))).2.length ≤ k + 1; omega
    · show S.1 - 1 + ((nfL n (pas n (S.2.map (pta n)) (pdg n (x.natAbs - 1)))).1 : Nat) + ((nfL n (pas n (S.2.map (pta n)) (pdg n (x.natAbs - 1)))).2.length : Nat) ≤ ((k + 1 : Nat) : Int); omega
theorem NfB.fold {n : Nat} : ∀ (w : List Int) {k : Nat} {S : Int × List (List Nat)}, NfB k S → NfB (k + w.length) (w.foldl (Go.Proofs.Ythlmkoiilgjflaa.cst n) S)
  | [], _, _, h => h
  | x :: w, k, S, h => by
    have := NfB.fold (n := n) w (h.cst (n := n) x)
    show NfB (k + (w.length + 1)) _
    rw [show k + (w.length + 1) = k + 1 + w.length by omega]
    exact this
theorem nf_bound (n : Nat) (w : List Int) : NfB w.length (nfW n w) := by
  have := NfB.fold (n := n) w (k := 0) (S := (0, [])) ⟨Int.le_refl _, Nat.le_refl _, Int.le_refl _⟩
  rwa [Nat.zero_add] at this
end Go.Proofs.Ythlmkoiilgjflaa
/- The walk of SameActs: whether two words do the same. -/
namespace Go.Proofs.Ythlmkoiilgjflaa
open Go.RowKit

theorem gdI_ext {l r : List Int} (h : l.length = r.length) (he : ∀ m, m < l.length → l.getD m 0 = r.getD m 0) : l = r := by
  refine List.ext_getElem h fun m h1 h2 => ?_
  have := he m h1
  simpa [List.getD_eq_getElem?_getD, h1, h2] using this
theorem gdL_ext {l r : List (List Int)} (h : l.length = r.length) (he : ∀ m, m < l.length → l.getD m [] = r.getD m []) : l = r := by
  refine List.ext_getElem h fun m h1 h2 => ?_
  have := he m h1
  simpa [List.getD_eq_getElem?_getD, h1, h2] using this

set_option maxHeartbeats 8000000 in
set_option maxRecDepth 100000 in
theorem sameActs_bd (n c1 c2 : Nat) (a1 a2 : Option Addr) (u v : List Int) (w : World) (hn2 : 2 ≤ n) (hn6 : n ≤ 6) (hu : ∀ j, j < u.length → u.getD j 0 ≠ 0 ∧ -(n : Int) < u.getD j 0 ∧ u.getD j 0 < (n : Int)) (hu20 : u.length ≤ 1000000) (hub : ∀ k, k ≤ u.length → ∀ j, ((actT n u k).getD j []).length ≤ 5801565999000) (hv : ∀ j, j < v.length → v.getD j 0 ≠ 0 ∧ -(n : Int) < v.getD j 0 ∧ v.getD j 0 < (n : Int)) (hv20 : v.length ≤ 1000000) (hvb : ∀ k, k ≤ v.length → ∀ j, ((actT n v k).getD j []).length ≤ 5801565999000) (h1 : RdAt w w.heap.size 1 (.slice a1 u.length c1) u.length (intsV u)) (h2 : RdAt w w.heap.size 1 (.slice a2 v.length c2) v.length (intsV v)) :
    Calls Try.prog 14 #[.int .i64 (n : Nat), .slice a1 u.length c1, .slice a2 v.length c2] w fun e w' => e = .returned (.bool (decide (actT n u u.length = actT n v v.length))) ∧ Below w.heap.size w w' := by
  have HA1 := hid_g (fun W (hW : Below w.heap.size w W) => actOf_bd a1 c1 n u W hn2 hn6 hu hu20 hub ((h1.on hW).mono hW.size))
  have HA2 := hid_g (fun W (hW : Below w.heap.size w W) => actOf_bd a2 c2 n v W hn2 hn6 hv hv20 hvb ((h2.on hW).mono hW.size))
  have hoku := actT_bd n (by omega) u u.length (Nat.le_refl _) (hub _ (Nat.le_refl _))
  have hokv := actT_ok n (by omega) v v.length (Nat.le_refl _)
  have HTU : Hid ((actT n u u.length).length = n ∧ ∀ j, ((actT n u u.length).getD j []).length ≤ 17500000000000) := (⟨hoku.ln, fun j => Nat.le_trans (hoku.len j) (by decide)⟩ : (actT n u u.length).length = n ∧ ∀ j, ((actT n u u.length).getD j []).length ≤ 17500000000000)
  have HTV : Hid ((actT n v v.length).length = n) := hokv.ln
  obtain ⟨q1, hq1⟩ : ∃ q1, u.length = q1 := ⟨_, rfl⟩
  obtain ⟨q2, hq2⟩ : ∃ q2, v.length = q2 := ⟨_, rfl⟩
  rw [hq1] at HA1 HTU ⊢
  rw [hq2] at HA2 HTV ⊢
  obtain ⟨X, hX⟩ : ∃ X, actT n u q1 = X := ⟨_, rfl⟩
  obtain ⟨Y, hY⟩ : ∃ Y, actT n v q2 = Y := ⟨_, rfl⟩
  rw [hX] at HA1 HTU ⊢
  rw [hY] at HA2 HTV ⊢
  clear h1 h2 hu hv hoku hokv hq1 hq2 hX hY hu20 hv20 hub hvb hn2
  go_enter Try.func14, Try.ntmps14
  have HC1 := hid_g (HA1.out w (Below.refl _ _))
  clear HA1
  go_wp2_with (first | (go_at_call 20; refine HC1.out.mono ?_; rintro e9 w1 ⟨a3, c3, rfl, hx3, hb1⟩; refine Hid.out ?_))
  refine Lib.hid ?_
  have HB1 := hid_g hb1
  have HX3 := hid_g hx3
  have HC2 := hid_g (HA2.out w1 HB1.out)
  clear hb1 hx3 HC1 HA2
  go_wp2_with (first | (go_at_call 20; refine HC2.out.mono ?_; rintro e9 w2 ⟨a4, c4, rfl, hx4, hb2⟩; refine Hid.out ?_))
  refine Lib.hid ?_
  have HB2 := hid_g (HB1.out.trans (hb2.mono HB1.out.size))
  have HX4 := hid_g hx4
  have HX3b := hid_g (HX3.out.up hb2)
  clear hb2 hx4 HC2 HX3 HB1
  go_wp2
  go_loopw [9] (fun v9 wr => ∃ i : Nat, i ≤ n ∧ v9 = .int .i64 (i : Nat) ∧ Hid (∀ j, j < i → X.getD j [] = Y.getD j []) ∧ Hid (Below w2.heap.size w2 wr)) (fun v9 _ => n - (intOf v9).toNat)
  case atStart => exact ⟨0, Nat.zero_le _, rfl, fun i hi => by omega, Below.refl _ _⟩
  case round =>
    rename World => W1
    obtain ⟨i, hin, rfl, hq, hb⟩ := hrel
    by_cases hil : i < n
    · obtain ⟨b1, o1, r1, s1, e1, l1, p1, x1⟩ := (show IntsRd w2 w2.heap.size (.slice a3 X.length c3) X by rw [HTU.out.1]; exact HX3b.out).row i (by rw [HTU.out.1]; exact hil)
      obtain ⟨b2, o2, r2, s2, e2, l2, p2, x2⟩ := (show IntsRd w2 w2.heap.size (.slice a4 Y.length c4) Y by rw [HTV.out]; exact HX4.out).row i (by rw [HTV.out]; exact hil)
      obtain rfl := e1
      obtain rfl := e2
      have g1 := bcell hb.out l1 p1
      have g2 := bcell hb.out l2 p2
      have hii : (i : Int) < (n : Int) := by omega
      have hk1 : b1 < W1.heap.size := Nat.lt_of_lt_of_le l1 hb.out.size
      have hk2 : b2 < W1.heap.size := Nat.lt_of_lt_of_le l2 hb.out.size
      obtain ⟨N1, hN1⟩ : ∃ N1, (X.getD i []).length = N1 := ⟨_, rfl⟩
      obtain ⟨N2, hN2⟩ : ∃ N2, (Y.getD i []).length = N2 := ⟨_, rfl⟩
      rw [hN1] at g1 x1 p1
      rw [hN2] at g2 x2 p2
      have HR1 := hid_g (fun W (hW : Below w2.heap.size w2 W) => x1.on hW)
      have HR2 := hid_g (fun W (hW : Below w2.heap.size w2 W) => x2.on hW)
      have HN1 := hid_g hN1
      have HN2 := hid_g hN2
      have hNB : N1 ≤ 17500000000000 := by rw [← hN1]; exact HTU.out.2 i
      have HP1 := hid_g p1
      have HP2 := hid_g p2
      clear x1 x2 p1 p2 hN1 hN2
      by_cases hNN : N1 = N2
      · subst hNN
        have hne : ((N1 : Int) != (N1 : Int)) = false := by simp
        go_wp2
        go_quiet (fail)
        have HBD : Hid (Below w2.heap.size w2 (W1.drewN nq)) := below_drewN hb.out nq
        generalize W1.drewN nq = W2 at HBD ⊢
        clear g1 g2 hb hk1 hk2
        go_wp2
        go_loopw [10] (fun v10 wr => ∃ k : Nat, k ≤ N1 ∧ v10 = .int .i64 (k : Nat) ∧ Hid (∀ j, j < k → (X.getD i []).getD j 0 = (Y.getD i []).getD j 0) ∧ Hid (Below w2.heap.size w2 wr)) (fun v10 _ => N1 - (intOf v10).toNat)
        case atStart => exact ⟨0, Nat.zero_le _, rfl, fun i hi => by omega, HBD.out⟩
        case round =>
          rename World => W3
          obtain ⟨k, hkn, rfl, hqk, hb3⟩ := hrel
          have g1 := bcell hb3.out l1 HP1.out
          have g2 := bcell hb3.out l2 HP2.out
          have hk1 : b1 < W3.heap.size := Nat.lt_of_lt_of_le l1 hb3.out.size
          have hk2 : b2 < W3.heap.size := Nat.lt_of_lt_of_le l2 hb3.out.size
          by_cases hk : k < N1
          · have hkI : (k : Int) < (N1 : Int) := by omega
            obtain ⟨d1, p1, ea1, hlt1, hc1⟩ := (show RdAt W3 w2.heap.size 1 (.slice r1 (X.getD i []).length s1) (X.getD i []).length (intsV (X.getD i [])) by rw [HN1.out]; exact HR1.out _ hb3.out).intAt k (by rw [HN1.out]; exact hk)
            obtain ⟨d2, p2, ea2, hlt2, hc2⟩ := (show RdAt W3 w2.heap.size 1 (.slice r2 (Y.getD i []).length s2) (Y.getD i []).length (intsV (Y.getD i [])) by rw [HN2.out]; exact HR2.out _ hb3.out).intAt k (by rw [HN2.out]; exact hk)
            obtain ⟨x, hx⟩ : ∃ x, (X.getD i []).getD k 0 = x := ⟨_, rfl⟩
            obtain ⟨y, hy⟩ : ∃ y, (Y.getD i []).getD k 0 = y := ⟨_, rfl⟩
            rw [hx] at hc1
            rw [hy] at hc2
            have HXY := hid_g (And.intro hx hy)
            have lb1 : d1 < W3.heap.size := Nat.lt_of_lt_of_le hlt1 hb3.out.size
            have lb2 : d2 < W3.heap.size := Nat.lt_of_lt_of_le hlt2 hb3.out.size
            clear hx hy
            subst ea1 ea2
            by_cases e : x = y
            · subst e
              have hd : (x != x) = false := by simp
              have HNX : Hid (∀ j, j < k + 1 → (X.getD i []).getD j 0 = (Y.getD i []).getD j 0) := fun j hj => by
                by_cases e : j = k
                · rw [e, HXY.out.1, HXY.out.2]
                · exact hqk.out j (by omega)
              go_wp2
              go_quiet (fail)
              have HBE : Hid (Below w2.heap.size w2 (W3.drewN nq)) := below_drewN hb3.out nq
              generalize W3.drewN nq = W4 at HBE ⊢
              go_wp2
              go_roundw
              case rel => exact ⟨k + 1, by omega, by go_num, HNX, HBE⟩
              case measure => simp only [intOf]; omega
            · have hd : (x != y) = true := by simpa using e
              have HNE : decide (X = Y) = false := decide_eq_false (fun h => e (by rw [← HXY.out.1, ← HXY.out.2, h]))
              go_wp2
              go_quiet (fail)
              have HBE : Hid (Below w2.heap.size w2 (W3.drewN nq)) := below_drewN hb3.out nq
              generalize W3.drewN nq = W4 at HBE ⊢
              go_wp2
              go_ret
              exact ⟨by rw [HNE]; rfl, HB2.out.trans (HBE.out.mono HB2.out.size)⟩
          · obtain rfl : k = N1 := by omega
            have HNX : Hid (∀ j, j < i + 1 → X.getD j [] = Y.getD j []) := fun j hj => by
              by_cases e : j = i
              · rw [e]
                exact gdI_ext (HN1.out.trans HN2.out.symm) (fun m hm => hqk.out m (by rw [HN1.out] at hm; exact hm))
              · exact hq.out j (by omega)
            go_wp2
            go_roundw
            case rel => exact ⟨i + 1, by omega, by go_num, HNX, hb3⟩
            case measure => simp only [intOf]; omega
      · have hne : ((N1 : Int) != (N2 : Int)) = true := by simp; omega
        have HNE : decide (X = Y) = false := decide_eq_false (fun h => hNN (by rw [← HN1.out, ← HN2.out, h]))
        go_wp2
        go_quiet (fail)
        have HBD : Hid (Below w2.heap.size w2 (W1.drewN nq)) := below_drewN hb.out nq
        generalize W1.drewN nq = W2 at HBD ⊢
        go_wp2
        go_ret
        exact ⟨by rw [HNE]; rfl, HB2.out.trans (HBD.out.mono HB2.out.size)⟩
    · obtain rfl : i = n := by omega
      have HYE : decide (X = Y) = true := decide_eq_true (gdL_ext (HTU.out.1.trans HTV.out.symm) (fun m hm => hq.out m (by rw [HTU.out.1] at hm; exact hm)))
      go_wp2
      go_ret
      exact ⟨by rw [HYE]; rfl, HB2.out.trans (hb.out.mono HB2.out.size)⟩
theorem sameActs_any (n c1 c2 : Nat) (a1 a2 : Option Addr) (u v : List Int) (w : World) (hu : wordN (n : Int) u = 0) (hv : wordN (n : Int) v = 0) (h1 : RdAt w w.heap.size 1 (.slice a1 u.length c1) u.length (intsV u)) (h2 : RdAt w w.heap.size 1 (.slice a2 v.length c2) v.length (intsV v)) :
    Calls Try.prog 14 #[.int .i64 (n : Nat), .slice a1 u.length c1, .slice a2 v.length c2] w fun e w' => e = .returned (.bool (decide (actT n u u.length = actT n v v.length))) ∧ Below w.heap.size w w' := by
  obtain ⟨n2, n6, hlu, hu20⟩ := wordN_ok hu
  obtain ⟨-, -, hlv, hv20⟩ := wordN_ok hv
  have hb : ∀ (l : List Int), l.length ≤ 20 → ∀ k, k ≤ l.length → ∀ j, ((actT n l k).getD j []).length ≤ 5801565999000 := fun l hl k hk j => by
    have h1 := (actT_ok n (by omega) l k hk).len j
    have h2 := three_pow k (by omega)
    omega
  exact sameActs_bd n c1 c2 a1 a2 u v w (by omega) (by omega) hlu (by omega) (hb u hu20) hlv (by omega) (hb v hv20) h1 h2
end Go.Proofs.Ythlmkoiilgjflaa

/- The walk of ref.pullable. Made by genme2.py. -/
import Derived.Test.YtagaajlbkfkaiaaME1P
import Derived.Test.YtagaajlbkfkaiaaF2P
namespace Go.Proofs.Ytagaajlbkfkaiaa
open Go.RowKit

/-- The reference's test of a ring. -/
def jlR (C : List Cr) (x y : Nat) (l : List Nat) : Bool := decide (l.length = 2) && (((decide (dC C (l.getD 0 0) = x) && decide (dC C (l.getD 1 0) = y)) || (decide (dC C (l.getD 0 0) = y) && decide (dC C (l.getD 1 0) = x))) && ((decide (hgt C (dA (l.getD 0 0)) = 2) && decide (hgt C (dA (l.getD 1 0)) = 0)) || (decide (hgt C (dA (l.getD 0 0)) = 0) && decide (hgt C (dA (l.getD 1 0)) = 2))))
theorem dq (a c : Nat) (ci : Int) (h : ci = (c : Int)) : (decide (a = c) = true ∧ ((a : Int) == ci) = true) ∨ (decide (a = c) = false ∧ ((a : Int) == ci) = false) := by
  subst h
  by_cases h : a = c
  · exact Or.inl ⟨decide_eq_true h, beq_iff_eq.2 (by omega)⟩
  · exact Or.inr ⟨decide_eq_false h, beq_eq_false_iff_ne.2 (by omega)⟩
theorem jl_same (C : List Cr) (x y : Nat) (l : List Nat) : jlR C x y l = jlB C x y l := by
  unfold jlR jlB
  by_cases h2 : l.length = 2
  · obtain ⟨u, v, rfl⟩ : ∃ u v, l = [u, v] := by
      match l, h2 with
      | [u, v], _ => exact ⟨u, v, rfl⟩
    rw [decide_eq_true h2, Bool.true_and, Bool.true_and]
    congr 1
    have e0 : [u, v].getD 0 0 = u := rfl
    have e1 : [u, v].getD 1 0 = v := rfl
    rw [e0, e1]
    unfold topB botB hiB hgt
    simp only [List.any_cons, List.any_nil, Bool.or_false]
    generalize enS C (dA u) true = a
    generalize enS C (dA u) false = b
    generalize enS C (dA v) true = c
    generalize enS C (dA v) false = d
    rcases Nat.mod_two_eq_zero_or_one a with h1 | h1 <;> rcases Nat.mod_two_eq_zero_or_one b with h3 | h3 <;> rcases Nat.mod_two_eq_zero_or_one c with h4 | h4 <;> rcases Nat.mod_two_eq_zero_or_one d with h5 | h5 <;> rw [h1, h3, h4, h5] <;> decide
  · rw [decide_eq_false h2]
    rfl
/-- The two boxes of darts. -/
structure DuAt (Z W : World) (d0 d1 g9 g10 : Nat) : Prop where
  b9 : W.heap[g9]? = some (.cells #[.int .i64 (dA d0 : Nat), .bool (dB d0)] 26 (0, 0))
  b10 : W.heap[g10]? = some (.cells #[.int .i64 (dA d1 : Nat), .bool (dB d1)] 26 (0, 0))
  bel : Below Z.heap.size Z W

set_option maxHeartbeats 8000000 in
set_option maxRecDepth 100000 in
theorem pullable_any (b off cap : Nat) (C : List Cr) (loops : Int) (x y : Nat) (w : World) (hm : mayD C loops = true) (hbw : b < w.heap.size) (hC : CrossAt w b off C) :
    Calls Try.prog 38 #[.agg #[.slice (some ⟨b, off, none⟩) C.length cap, .int .i64 loops], .int .i64 (x : Nat), .int .i64 (y : Nat)] w fun e w' => e = .returned (.bool ((facesM C).any (jlR C x y))) ∧ Below w.heap.size w w' := by
  obtain ⟨V, hV⟩ : ∃ V, w.alloc (.cells #[.slice (some ⟨b, off, none⟩) C.length cap, .int .i64 loops] 24) = V := ⟨_, rfl⟩
  have HBV : Hid (Below w.heap.size w V) := (by rw [← hV]; exact (Below.refl _ _).alloc (Nat.le_refl _) _ : Below w.heap.size w V)
  have HT0 : Hid (V.heap[w.heap.size]? = some (.cells #[.slice (some ⟨b, off, none⟩) C.length cap, .int .i64 loops] 24 (0, 0))) := (by rw [← hV]; exact alloc_at rfl : V.heap[w.heap.size]? = _)
  have hsV : w.heap.size + 1 ≤ V.heap.size := by rw [← hV]; simp
  have HCV : Hid (∀ W, Below V.heap.size V W → CrossAt W b off C ∧ b < W.heap.size) := fun W hW => by
    have h := HBV.out.trans (hW.mono (by omega))
    exact ⟨hC.on h hbw, Nat.lt_of_lt_of_le hbw h.size⟩
  have HFA : Hid (Calls Try.prog 57 #[.agg #[.slice (some ⟨b, off, none⟩) C.length cap, .int .i64 loops]] V fun e w' => ∃ av cv, e = .returned (.slice av (facesM C).length cv) ∧ RingsR w' (.slice av (facesM C).length cv) C (facesM C) ∧ Below V.heap.size V w') := (facesOf_any (some ⟨b, off, none⟩) cap C loops V hm ⟨_, _, rfl, by have := may_len hm; unfold maxLen; omega, fun _ => ⟨b, off, rfl, (HCV.out V (Below.refl _ _)).2, (HCV.out V (Below.refl _ _)).1⟩⟩).mono fun e w' hh => by
    obtain ⟨v, h1, h2, h3⟩ := hh
    have h4 := rings_read hm h2
    obtain ⟨av, cv, rfl, -⟩ := id h4
    exact ⟨av, cv, h1, h4, h3⟩
  have HEN : Hid (∀ (d : Nat) (W : World), 1 ≤ d → d ≤ 4 * C.length → Below V.heap.size V W → Calls Try.prog 63 #[.agg #[.slice (some ⟨b, off, none⟩) C.length cap, .int .i64 loops], .int .i64 (dA d : Nat), .bool (dB d)] W fun e w' => e = .returned (.agg #[.int .i64 (dC C d : Nat), .int .i64 (dS C d : Nat)]) ∧ Below W.heap.size W w') := fun d W h1 h2 hW => by
    have h := endOf_is b off cap C loops (dA d) (!dB d) W hm (dA_le h1 h2).1 (dA_le h1 h2).2 (HCV.out W hW).2 (HCV.out W hW).1
    rw [Bool.not_not] at h
    exact h
  have HHG : Hid (∀ (d : Nat) (W : World), 1 ≤ d → d ≤ 4 * C.length → Below V.heap.size V W → Calls Try.prog 70 #[.agg #[.slice (some ⟨b, off, none⟩) C.length cap, .int .i64 loops], .int .i64 (dA d : Nat)] W fun e w' => e = .returned (.int .i64 (hgt C (dA d) : Nat)) ∧ Below W.heap.size W w') := fun d W h1 h2 hW => heightOf_any b off cap C loops (dA d) W hm (dA_le h1 h2).1 (dA_le h1 h2).2 (HCV.out W hW).2 (HCV.out W hW).1
  have c0 : V.cell? ⟨w.heap.size, 0, none⟩ = some (.slice (some ⟨b, off, none⟩) C.length cap) := block_cell HT0.out rfl
  have c1 : V.cell? ⟨w.heap.size, 1, none⟩ = some (.int .i64 loops) := block_cell HT0.out rfl
  have hfl : (facesM C).length ≤ 64 := by have h1 := (facesM_facts hm).1; have h2 := may_len hm; omega
  generalize facesM C = L at HFA hfl ⊢
  obtain ⟨m, hmL⟩ : ∃ m, L.length = m := ⟨_, rfl⟩
  rw [hmL] at HFA hfl
  have HML := hid_of hmL
  have HV := hid_of hV
  clear hV hm hC hmL
  go_enter Try.func38, Try.ntmps38
  go_upto_region 1 with (fail)
  rw [HV.out]
  go_wp2_with (go_at_call 57; refine HFA.out.mono ?_; rintro e9 F ⟨av, cv, rfl, hrF, hbF⟩; refine Hid.out ?_)
  refine Lib.hid ?_
  have HRF := hid_of hrF
  have HBF := hid_of hbF
  have hsF := hbF.size
  clear hrF hbF c0 c1
  go_wp2
  go_loopw [8] (fun v8 wr => ∃ i : Nat, i ≤ m ∧ v8 = .int .i64 (i : Nat) ∧ Hid ((L.take i).any (jlR C x y) = false) ∧ Hid (Below F.heap.size F wr)) (fun v8 _ => m - (intOf v8).toNat)
  case atStart => exact ⟨0, Nat.zero_le _, rfl, rfl, Below.refl _ _⟩
  case round =>
    rename World => Z
    obtain ⟨i, him, rfl, hno, hbZ⟩ := hrel
    have HBZ := hid_of hbZ.out
    have hsZ := hbZ.out.size
    clear hbZ
    by_cases hil : i < m
    · have hiI : (i : Int) < (m : Int) := by omega
      have hi0 : (0 : Int) ≤ (i : Int) := by omega
      have hiL : i < L.length := by rw [HML.out]; exact hil
      obtain ⟨a0, c0, e0, f0⟩ := HRF.out.on HBZ.out
      rw [HML.out] at e0
      injection e0 with e1 e2 e3
      obtain ⟨bf, of, ea, hbfw, hc⟩ := f0 (by omega)
      obtain ⟨g, c, h1, h2⟩ := hc i hiL
      have ea2 : av = some ⟨bf, of, none⟩ := e1.trans ea
      subst ea2
      have HX : Hid ((L.take (i + 1)).any (jlR C x y) = ((L.take i).any (jlR C x y) || jlR C x y (L.getD i []))) := (by rw [List.take_add_one, List.getElem?_eq_getElem hiL, List.any_append, List.getD_eq_getElem?_getD, List.getElem?_eq_getElem hiL]; simp : (L.take (i + 1)).any (jlR C x y) = _)
      have HS : Hid (jlR C x y (L.getD i []) = true → L.any (jlR C x y) = true) := fun q => List.any_eq_true.2 ⟨L.getD i [], by rw [List.getD_eq_getElem?_getD, List.getElem?_eq_getElem hiL]; exact List.getElem_mem hiL, q⟩
      generalize L.getD i [] = l at h1 h2 HX HS
      have HRI := hid_of h2
      clear e1 e2 e3 ea hc h2 f0
      by_cases hl2 : l.length = 2
      · rw [hl2] at h1
        have r0 := HRI.out.2.2 0 (by omega)
        have r1 := HRI.out.2.2 1 (by omega)
        have hgl := HRI.out.1
        obtain ⟨d0, hd0⟩ : ∃ d, l.getD 0 0 = d := ⟨_, rfl⟩
        obtain ⟨d1, hd1⟩ : ∃ d, l.getD 1 0 = d := ⟨_, rfl⟩
        rw [hd0] at r0
        rw [hd1] at r1
        obtain ⟨⟨r0a, r0b⟩, r0c, r0d⟩ := r0
        obtain ⟨⟨r1a, r1b⟩, r1c, r1d⟩ := r1
        have HJ : Hid (jlR C x y l = (((decide (dC C d0 = x) && decide (dC C d1 = y)) || (decide (dC C d0 = y) && decide (dC C d1 = x))) && ((decide (hgt C (dA d0) = 2) && decide (hgt C (dA d1) = 0)) || (decide (hgt C (dA d0) = 0) && decide (hgt C (dA d1) = 2))))) := (by unfold jlR; rw [hd0, hd1, decide_eq_true hl2, Bool.true_and] : jlR C x y l = _)
        have HZV : Hid (Below V.heap.size V Z) := HBF.out.trans (HBZ.out.mono hsF)
        have HS6 : Hid (∀ W, Below Z.heap.size Z W → (fun X : World => X.cell? ⟨bf, of + i, none⟩ = some (.slice (some ⟨g, 0, none⟩) 2 c) ∧ X.cell? ⟨g, 0, none⟩ = some (.int .i64 (dA d0 : Nat)) ∧ X.cell? ⟨g, 1, none⟩ = some (.bool (dB d0)) ∧ X.cell? ⟨g, 2, none⟩ = some (.int .i64 (dA d1 : Nat)) ∧ X.cell? ⟨g, 3, none⟩ = some (.bool (dB d1))) W) := fun W hW => ⟨bcell hW hbfw h1, bcell hW hgl r0c, bcell hW hgl r0d, bcell hW hgl r1c, bcell hW hgl r1d⟩
        have HDZ : Hid (Below Z.heap.size Z Z.drew) := (Below.refl _ _).drew
        have HI0 : Hid (DuAt Z ((Z.alloc (.cells #[.int .i64 (dA d0 : Nat), .bool (dB d0)] 26)).alloc (.cells #[.int .i64 (dA d1 : Nat), .bool (dB d1)] 26)).drew d0 d1 Z.heap.size (Z.heap.size + 1)) := ⟨alloc_old (alloc_at rfl), alloc_at (by simp), (below2 _ _ _).drew⟩
        have HI1 : Hid (DuAt Z ((Z.alloc (.cells #[.int .i64 (dA d1 : Nat), .bool (dB d1)] 26)).alloc (.cells #[.int .i64 (dA d0 : Nat), .bool (dB d0)] 26)).drew d0 d1 (Z.heap.size + 1) Z.heap.size) := ⟨alloc_at (by simp), alloc_old (alloc_at rfl), (below2 _ _ _).drew⟩
        have hn2 : ((2 : Int) != 2) = false := rfl
        clear hl2 hd0 hd1 r0c r0d r1c r1d
        go_wp2
        apply cut_one
        case h =>
          intro key
          refine wp_region_held_drew (S := fun X : World => X.cell? ⟨bf, of + i, none⟩ = some (.slice (some ⟨g, 0, none⟩) 2 c) ∧ X.cell? ⟨g, 0, none⟩ = some (.int .i64 (dA d0 : Nat)) ∧ X.cell? ⟨g, 1, none⟩ = some (.bool (dB d0)) ∧ X.cell? ⟨g, 2, none⟩ = some (.int .i64 (dA d1 : Nat)) ∧ X.cell? ⟨g, 3, none⟩ = some (.bool (dB d1))) (by kernel_rfl) (HS6.out _ HDZ.out) (fun hHeld => ?_)
          refine wpAnyH_take (i := 0) (v := ?vvu1) rfl (by kernel_rfl) (by kernel_rfl) (by kernel_rfl) (fun _ _ _ h => h) (Or.inl ⟨by rfl, ?yyu1⟩) (by assumption) ?rru1
          case yyu1 => (intro w hSw; (try dsimp only at hSw); go_simp; (try with_reducible rfl))
          try simp only [Act.put]
          refine wpAnyH_take (i := 1) (v := ?vvu2) rfl (by kernel_rfl) (by kernel_rfl) (by kernel_rfl) (fun _ _ _ h => h) (Or.inl ⟨by rfl, ?yyu2⟩) (by assumption) ?rru2
          case yyu2 => (intro w hSw; (try dsimp only at hSw); go_simp; (try with_reducible rfl))
          try simp only [Act.put]
          refine wpAnyH_take (i := 2) (v := ?vvu3) rfl (by kernel_rfl) (by kernel_rfl) (by kernel_rfl) (fun _ _ _ h => h) (Or.inl ⟨by rfl, ?yyu3⟩) (by assumption) ?rru3
          case yyu3 => (intro w hSw; (try dsimp only at hSw); go_simp; (try with_reducible rfl))
          try simp only [Act.put]
          refine wpAnyH_take (i := 3) (v := ?vvu4) rfl (by kernel_rfl) (by kernel_rfl) (by kernel_rfl) (fun _ _ _ h => h) (Or.inl ⟨by rfl, ?yyu4⟩) (by assumption) ?rru4
          case yyu4 => (intro w hSw; (try dsimp only at hSw); go_simp; (try with_reducible rfl))
          try simp only [Act.put]
          refine wpAnyH_take (i := 4) (v := ?vvu5) rfl (by kernel_rfl) (by kernel_rfl) (by kernel_rfl) (fun _ _ _ h => h) (Or.inl ⟨by rfl, ?yyu5⟩) (by assumption) ?rru5
          case yyu5 => (intro w hSw; (try dsimp only at hSw); go_simp; (try with_reducible rfl))
          try simp only [Act.put]
          refine wpAnyH_take (i := 5) (v := ?vvu6) rfl (by kernel_rfl) (by kernel_rfl) (by kernel_rfl) (fun _ _ _ h => h) (Or.inl ⟨by rfl, ?yyu6⟩) (by assumption) ?rru6
          case yyu6 => (intro w hSw; (try dsimp only at hSw); go_simp; (try with_reducible rfl))
          try simp only [Act.put]
          refine wpAnyH_take (i := 6) (v := ?vvu7) rfl (by kernel_rfl) (by kernel_rfl) (by kernel_rfl) (fun _ _ _ h => h) (Or.inl ⟨by rfl, ?yyu7⟩) (by assumption) ?rru7
          case yyu7 => (intro w hSw; (try dsimp only at hSw); go_simp; (try with_reducible rfl))
          try simp only [Act.put]
          refine wpAnyH_take (i := 7) (v := ?vvu8) rfl (by kernel_rfl) (by kernel_rfl) (by kernel_rfl) (fun _ _ _ h => h) (Or.inl ⟨by rfl, ?yyu8⟩) (by assumption) ?rru8
          case yyu8 => (intro w hSw; (try dsimp only at hSw); go_simp; (try with_reducible rfl))
          try simp only [Act.put]
          refine wpAnyH_take (i := 8) (v := ?vvu9) rfl (by kernel_rfl) (by kernel_rfl) (by kernel_rfl) (fun _ _ _ h => h) (Or.inl ⟨by rfl, ?yyu9⟩) (by assumption) ?rru9
          case yyu9 => (intro w hSw; (try dsimp only at hSw); go_simp; (try with_reducible rfl))
          try simp only [Act.put]
          refine wpAnyH_take (i := 9) (v := ?vvu10) rfl (by kernel_rfl) (by kernel_rfl) (by kernel_rfl) (fun _ _ _ h => h) (Or.inl ⟨by rfl, ?yyu10⟩) (by assumption) ?rru10
          case yyu10 => (intro w hSw; (try dsimp only at hSw); go_simp; (try with_reducible rfl))
          try simp only [Act.put]
          refine wpAnyH_take (i := 10) (v := ?vvu11) rfl (by kernel_rfl) (by kernel_rfl) (by kernel_rfl) (fun _ _ _ h => h) (Or.inl ⟨by rfl, ?yyu11⟩) (by assumption) ?rru11
          case yyu11 => (intro w hSw; (try dsimp only at hSw); go_simp; (try with_reducible rfl))
          try simp only [Act.put]
          refine wpAnyH_take (i := 11) (v := ?vvu12) rfl (by kernel_rfl) (by kernel_rfl) (by kernel_rfl) (fun _ _ _ h => h) (Or.inl ⟨by rfl, ?yyu12⟩) (by assumption) ?rru12
          case yyu12 => (intro w hSw; (try dsimp only at hSw); go_simp; (try with_reducible rfl))
          try simp only [Act.put]
          refine wpAnyH_ready (rs := [12, 13]) (by kernel_rfl) (by simp) ?_
          refine AllReadyH.cons rfl (fun K hK => ?_) (AllReadyH.cons rfl (fun K hK => ?_) AllReadyH.nil)
          · go_simp
            refine hK.out _ _ (HS6.out _ ((Below.refl _ _).alloc (Nat.le_refl _) _).drew) (fun hHeld => ?_)
            clear hK K
            try simp only [Act.put]
            refine wpAnyH_ready (rs := [13]) (by kernel_rfl) (by simp) ?_
            refine AllReadyH.cons rfl (fun K hK => ?_) AllReadyH.nil
            go_simp
            refine hK.out _ _ (HS6.out _ (below2 _ _ _).drew) (fun hHeld => ?_)
            clear hK K
            try simp only [Act.put]
            refine wpAnyH_ready (rs := [14]) (by kernel_rfl) (by simp) ?_
            refine AllReadyH.cons rfl (fun K hK => ?_) AllReadyH.nil
            go_simp
            refine hK.out _ _ (HS6.out _ (below2 _ _ _).drew) (fun hHeld => ?_)
            clear hK K
            try simp only [Act.put]
            refine wpAnyH_ready (rs := [15]) (by kernel_rfl) (by simp) ?_
            refine AllReadyH.cons rfl (fun K hK => ?_) AllReadyH.nil
            go_simp
            refine hK.out _ _ (HS6.out _ (below2 _ _ _).drew) (fun hHeld => ?_)
            clear hK K
            try simp only [Act.put]
            refine wpAnyH_done (by kernel_rfl) ?_ _
            have hA := HI0
            revert hA
            generalize ((Z.alloc (.cells #[.int .i64 (dA d0 : Nat), .bool (dB d0)] 26)).alloc (.cells #[.int .i64 (dA d1 : Nat), .bool (dB d1)] 26)).drew = Wz
            generalize Z.heap.size + 1 = g10
            generalize Z.heap.size = g9
            revert Wz g10 g9
            exact key.out
          · go_simp
            refine hK.out _ _ (HS6.out _ ((Below.refl _ _).alloc (Nat.le_refl _) _).drew) (fun hHeld => ?_)
            clear hK K
            try simp only [Act.put]
            refine wpAnyH_ready (rs := [12]) (by kernel_rfl) (by simp) ?_
            refine AllReadyH.cons rfl (fun K hK => ?_) AllReadyH.nil
            go_simp
            refine hK.out _ _ (HS6.out _ (below2 _ _ _).drew) (fun hHeld => ?_)
            clear hK K
            try simp only [Act.put]
            refine wpAnyH_ready (rs := [14]) (by kernel_rfl) (by simp) ?_
            refine AllReadyH.cons rfl (fun K hK => ?_) AllReadyH.nil
            go_simp
            refine hK.out _ _ (HS6.out _ (below2 _ _ _).drew) (fun hHeld => ?_)
            clear hK K
            try simp only [Act.put]
            refine wpAnyH_ready (rs := [15]) (by kernel_rfl) (by simp) ?_
            refine AllReadyH.cons rfl (fun K hK => ?_) AllReadyH.nil
            go_simp
            refine hK.out _ _ (HS6.out _ (below2 _ _ _).drew) (fun hHeld => ?_)
            clear hK K
            try simp only [Act.put]
            refine wpAnyH_done (by kernel_rfl) ?_ _
            exact key.out _ _ _ HI1
        intro W4 g10 g9 HC4
        clear HI0 HI1 HS6 HDZ
        have l9 : g9 < W4.heap.size := (Array.getElem?_eq_some_iff.1 HC4.out.b9).1
        have l10 : g10 < W4.heap.size := (Array.getElem?_eq_some_iff.1 HC4.out.b10).1
        have HV4 : Hid (Below V.heap.size V W4) := HZV.out.trans (HC4.out.bel.mono (by omega))
        have HS7 : Hid (∀ W, Below W4.heap.size W4 W → (fun X : World => X.cell? ⟨w.heap.size, 0, none⟩ = some (.slice (some ⟨b, off, none⟩) C.length cap) ∧ X.cell? ⟨w.heap.size, 1, none⟩ = some (.int .i64 loops) ∧ X.cell? ⟨g9, 0, none⟩ = some (.int .i64 (dA d0 : Nat)) ∧ X.cell? ⟨g9, 1, none⟩ = some (.bool (dB d0)) ∧ X.cell? ⟨g10, 0, none⟩ = some (.int .i64 (dA d1 : Nat)) ∧ X.cell? ⟨g10, 1, none⟩ = some (.bool (dB d1))) W) := fun W hW => by
          have k0 := ((HV4.out.trans (hW.mono HV4.out.size)).block _ (by omega)).trans HT0.out
          have q9 := (hW.block _ l9).trans HC4.out.b9
          have q10 := (hW.block _ l10).trans HC4.out.b10
          exact ⟨block_cell k0 rfl, block_cell k0 rfl, block_cell q9 rfl, block_cell q9 rfl, block_cell q10 rfl, block_cell q10 rfl⟩
        have HD4 : Hid (Below W4.heap.size W4 W4.drew) := (Below.refl _ _).drew
        have HE0 : Hid (∀ W, Below W4.heap.size W4 W → Calls Try.prog 63 #[.agg #[.slice (some ⟨b, off, none⟩) C.length cap, .int .i64 loops], .int .i64 (dA d0 : Nat), .bool (dB d0)] W fun e w' => e = .returned (.agg #[.int .i64 (dC C d0 : Nat), .int .i64 (dS C d0 : Nat)]) ∧ Below W.heap.size W w') := fun W hW => HEN.out d0 W r0a r0b (HV4.out.trans (hW.mono HV4.out.size))
        have HE1 : Hid (∀ W, Below W4.heap.size W4 W → Calls Try.prog 63 #[.agg #[.slice (some ⟨b, off, none⟩) C.length cap, .int .i64 loops], .int .i64 (dA d1 : Nat), .bool (dB d1)] W fun e w' => e = .returned (.agg #[.int .i64 (dC C d1 : Nat), .int .i64 (dS C d1 : Nat)]) ∧ Below W.heap.size W w') := fun W hW => HEN.out d1 W r1a r1b (HV4.out.trans (hW.mono HV4.out.size))
        have HH0 : Hid (∀ W, Below W4.heap.size W4 W → Calls Try.prog 70 #[.agg #[.slice (some ⟨b, off, none⟩) C.length cap, .int .i64 loops], .int .i64 (dA d0 : Nat)] W fun e w' => e = .returned (.int .i64 (hgt C (dA d0) : Nat)) ∧ Below W.heap.size W w') := fun W hW => HHG.out d0 W r0a r0b (HV4.out.trans (hW.mono HV4.out.size))
        have HH1 : Hid (∀ W, Below W4.heap.size W4 W → Calls Try.prog 70 #[.agg #[.slice (some ⟨b, off, none⟩) C.length cap, .int .i64 loops], .int .i64 (dA d1 : Nat)] W fun e w' => e = .returned (.int .i64 (hgt C (dA d1) : Nat)) ∧ Below W.heap.size W w') := fun W hW => HHG.out d1 W r1a r1b (HV4.out.trans (hW.mono HV4.out.size))
        generalize dC C d0 = p at HE0 HJ
        generalize dC C d1 = q at HE1 HJ
        generalize dS C d0 = ps at HE0
        generalize dS C d1 = qs at HE1
        generalize hgt C (dA d0) = ha at HH0 HJ
        generalize hgt C (dA d1) = hb at HH1 HJ
        have fd0 : ∀ W : World, (Instr.field 96 (.agg #[.int .i64 (p : Nat), .int .i64 (ps : Nat)]) 0).run Try.prog W = .ok (.int .i64 (p : Nat)) W := fun W => by kernel_rfl
        have fd1 : ∀ W : World, (Instr.field 96 (.agg #[.int .i64 (q : Nat), .int .i64 (qs : Nat)]) 0).run Try.prog W = .ok (.int .i64 (q : Nat)) W := fun W => by kernel_rfl
        go_wp2
        refine wp_region_held_drew (S := fun X : World => X.cell? ⟨w.heap.size, 0, none⟩ = some (.slice (some ⟨b, off, none⟩) C.length cap) ∧ X.cell? ⟨w.heap.size, 1, none⟩ = some (.int .i64 loops) ∧ X.cell? ⟨g9, 0, none⟩ = some (.int .i64 (dA d0 : Nat)) ∧ X.cell? ⟨g9, 1, none⟩ = some (.bool (dB d0)) ∧ X.cell? ⟨g10, 0, none⟩ = some (.int .i64 (dA d1 : Nat)) ∧ X.cell? ⟨g10, 1, none⟩ = some (.bool (dB d1))) (by kernel_rfl) (HS7.out _ HD4.out) (fun hHeld => ?_)
        refine wpAnyH_take (i := 0) (v := ?vvu13) rfl (by kernel_rfl) (by kernel_rfl) (by kernel_rfl) (fun _ _ _ h => h) (Or.inl ⟨by rfl, ?yyu13⟩) (by assumption) ?rru13
        case yyu13 => (intro w hSw; (try dsimp only at hSw); go_simp; (try with_reducible rfl))
        try simp only [Act.put]
        refine wpAnyH_take (i := 1) (v := ?vvu14) rfl (by kernel_rfl) (by kernel_rfl) (by kernel_rfl) (fun _ _ _ h => h) (Or.inl ⟨by rfl, ?yyu14⟩) (by assumption) ?rru14
        case yyu14 => (intro w hSw; (try dsimp only at hSw); go_simp; (try with_reducible rfl))
        try simp only [Act.put]
        refine wpAnyH_take (i := 2) (v := ?vvu15) rfl (by kernel_rfl) (by kernel_rfl) (by kernel_rfl) (fun _ _ _ h => h) (Or.inl ⟨by rfl, ?yyu15⟩) (by assumption) ?rru15
        case yyu15 => (intro w hSw; (try dsimp only at hSw); go_simp; (try with_reducible rfl))
        try simp only [Act.put]
        refine wpAnyH_take (i := 3) (v := ?vvu16) rfl (by kernel_rfl) (by kernel_rfl) (by kernel_rfl) (fun _ _ _ h => h) (Or.inl ⟨by rfl, ?yyu16⟩) (by assumption) ?rru16
        case yyu16 => (intro w hSw; (try dsimp only at hSw); go_simp; (try with_reducible rfl))
        try simp only [Act.put]
        refine wpAnyH_take (i := 4) (v := ?vvu17) rfl (by kernel_rfl) (by kernel_rfl) (by kernel_rfl) (fun _ _ _ h => h) (Or.inl ⟨by rfl, ?yyu17⟩) (by assumption) ?rru17
        case yyu17 => (intro w hSw; (try dsimp only at hSw); go_simp; (try with_reducible rfl))
        try simp only [Act.put]
        refine wpAnyH_take (i := 7) (v := ?vvu18) rfl (by kernel_rfl) (by kernel_rfl) (by kernel_rfl) (fun _ _ _ h => h) (Or.inl ⟨by rfl, ?yyu18⟩) (by assumption) ?rru18
        case yyu18 => (intro w hSw; (try dsimp only at hSw); go_simp; (try with_reducible rfl))
        try simp only [Act.put]
        refine wpAnyH_take (i := 8) (v := ?vvu19) rfl (by kernel_rfl) (by kernel_rfl) (by kernel_rfl) (fun _ _ _ h => h) (Or.inl ⟨by rfl, ?yyu19⟩) (by assumption) ?rru19
        case yyu19 => (intro w hSw; (try dsimp only at hSw); go_simp; (try with_reducible rfl))
        try simp only [Act.put]
        refine wpAnyH_take (i := 9) (v := ?vvu20) rfl (by kernel_rfl) (by kernel_rfl) (by kernel_rfl) (fun _ _ _ h => h) (Or.inl ⟨by rfl, ?yyu20⟩) (by assumption) ?rru20
        case yyu20 => (intro w hSw; (try dsimp only at hSw); go_simp; (try with_reducible rfl))
        try simp only [Act.put]
        refine wpAnyH_take (i := 10) (v := ?vvu21) rfl (by kernel_rfl) (by kernel_rfl) (by kernel_rfl) (fun _ _ _ h => h) (Or.inl ⟨by rfl, ?yyu21⟩) (by assumption) ?rru21
        case yyu21 => (intro w hSw; (try dsimp only at hSw); go_simp; (try with_reducible rfl))
        try simp only [Act.put]
        refine wpAnyH_take (i := 11) (v := ?vvu22) rfl (by kernel_rfl) (by kernel_rfl) (by kernel_rfl) (fun _ _ _ h => h) (Or.inl ⟨by rfl, ?yyu22⟩) (by assumption) ?rru22
        case yyu22 => (intro w hSw; (try dsimp only at hSw); go_simp; (try with_reducible rfl))
        try simp only [Act.put]
        refine wpAnyH_ready (rs := [5]) (by kernel_rfl) (by simp) ?_
        refine AllReadyH.cons rfl (fun K hK => ?_) AllReadyH.nil
        go_simp
        go_wp2_with (go_at_call 63; refine (HE0.out _ HD4.out).mono ?_; rintro e9 w5 ⟨rfl, hb5⟩)
        have HB5 := hid_of (HD4.out.trans (hb5.mono HD4.out.size))
        clear hb5
        refine hK.out _ _ (HS7.out _ HB5.out) (fun hHeld => ?_)
        clear hK K
        try simp only [Act.put]
        refine wpAnyH_take (i := 6) (v := ?vvu23) rfl (by kernel_rfl) (by kernel_rfl) (by kernel_rfl) (fun _ _ _ h => h) (Or.inl ⟨by rfl, ?yyu23⟩) (by assumption) ?rru23
        case yyu23 => (intro w hSw; (try dsimp only at hSw); go_simp; (try with_reducible rfl))
        try simp only [Act.put]
        refine wpAnyH_ready (rs := [12]) (by kernel_rfl) (by simp) ?_
        refine AllReadyH.cons rfl (fun K hK => ?_) AllReadyH.nil
        go_simp
        go_wp2_with (go_at_call 63; refine (HE1.out _ HB5.out).mono ?_; rintro e9 w6 ⟨rfl, hb6⟩)
        have HB6 := hid_of (HB5.out.trans (hb6.mono HB5.out.size))
        clear hb6
        refine hK.out _ _ (HS7.out _ HB6.out) (fun hHeld => ?_)
        clear hK K
        try simp only [Act.put]
        refine wpAnyH_take (i := 13) (v := ?vvu24) rfl (by kernel_rfl) (by kernel_rfl) (by kernel_rfl) (fun _ _ _ h => h) (Or.inl ⟨by rfl, ?yyu24⟩) (by assumption) ?rru24
        case yyu24 => (intro w hSw; (try dsimp only at hSw); go_simp; (try with_reducible rfl))
        try simp only [Act.put]
        simp only [List.getElem_toArray, List.getElem_cons_succ, List.getElem_cons_zero]
        refine wpAnyH_take (i := 14) (v := ?vvu25) rfl (by kernel_rfl) (by kernel_rfl) (by kernel_rfl) (fun _ _ _ h => h) (Or.inl ⟨by rfl, ?yyu25⟩) (by assumption) ?rru25
        case yyu25 => (intro w hSw; (try dsimp only at hSw); go_simp; (try with_reducible rfl))
        try simp only [Act.put]
        simp only [List.getElem_toArray, List.getElem_cons_succ, List.getElem_cons_zero]
        refine wpAnyH_take (i := 15) (v := ?vvu26) rfl (by kernel_rfl) (by kernel_rfl) (by kernel_rfl) (fun _ _ _ h => h) (Or.inl ⟨by rfl, ?yyu26⟩) (by assumption) ?rru26
        case yyu26 => (intro w hSw; (try dsimp only at hSw); go_simp; (try with_reducible rfl))
        try simp only [Act.put]
        simp only [List.getElem_toArray, List.getElem_cons_succ, List.getElem_cons_zero]
        refine wpAnyH_done (by kernel_rfl) ?_ _
        clear hHeld
        have HD6 : Hid (Below W4.heap.size W4 w6.drew) := HB6.out.drew
        go_wp2
        refine wp_region_held_drew (S := fun X : World => X.cell? ⟨w.heap.size, 0, none⟩ = some (.slice (some ⟨b, off, none⟩) C.length cap) ∧ X.cell? ⟨w.heap.size, 1, none⟩ = some (.int .i64 loops) ∧ X.cell? ⟨g9, 0, none⟩ = some (.int .i64 (dA d0 : Nat)) ∧ X.cell? ⟨g9, 1, none⟩ = some (.bool (dB d0)) ∧ X.cell? ⟨g10, 0, none⟩ = some (.int .i64 (dA d1 : Nat)) ∧ X.cell? ⟨g10, 1, none⟩ = some (.bool (dB d1))) (by kernel_rfl) (HS7.out _ HD6.out) (fun hHeld => ?_)
        refine wpAnyH_take (i := 0) (v := ?vvu27) rfl (by kernel_rfl) (by kernel_rfl) (by kernel_rfl) (fun _ _ _ h => h) (Or.inl ⟨by rfl, ?yyu27⟩) (by assumption) ?rru27
        case yyu27 => (intro w hSw; (try dsimp only at hSw); go_simp; (try with_reducible rfl))
        try simp only [Act.put]
        refine wpAnyH_take (i := 1) (v := ?vvu28) rfl (by kernel_rfl) (by kernel_rfl) (by kernel_rfl) (fun _ _ _ h => h) (Or.inl ⟨by rfl, ?yyu28⟩) (by assumption) ?rru28
        case yyu28 => (intro w hSw; (try dsimp only at hSw); go_simp; (try with_reducible rfl))
        try simp only [Act.put]
        refine wpAnyH_take (i := 2) (v := ?vvu29) rfl (by kernel_rfl) (by kernel_rfl) (by kernel_rfl) (fun _ _ _ h => h) (Or.inl ⟨by rfl, ?yyu29⟩) (by assumption) ?rru29
        case yyu29 => (intro w hSw; (try dsimp only at hSw); go_simp; (try with_reducible rfl))
        try simp only [Act.put]
        refine wpAnyH_take (i := 4) (v := ?vvu30) rfl (by kernel_rfl) (by kernel_rfl) (by kernel_rfl) (fun _ _ _ h => h) (Or.inl ⟨by rfl, ?yyu30⟩) (by assumption) ?rru30
        case yyu30 => (intro w hSw; (try dsimp only at hSw); go_simp; (try with_reducible rfl))
        try simp only [Act.put]
        refine wpAnyH_take (i := 5) (v := ?vvu31) rfl (by kernel_rfl) (by kernel_rfl) (by kernel_rfl) (fun _ _ _ h => h) (Or.inl ⟨by rfl, ?yyu31⟩) (by assumption) ?rru31
        case yyu31 => (intro w hSw; (try dsimp only at hSw); go_simp; (try with_reducible rfl))
        try simp only [Act.put]
        refine wpAnyH_take (i := 6) (v := ?vvu32) rfl (by kernel_rfl) (by kernel_rfl) (by kernel_rfl) (fun _ _ _ h => h) (Or.inl ⟨by rfl, ?yyu32⟩) (by assumption) ?rru32
        case yyu32 => (intro w hSw; (try dsimp only at hSw); go_simp; (try with_reducible rfl))
        try simp only [Act.put]
        refine wpAnyH_ready (rs := [3]) (by kernel_rfl) (by simp) ?_
        refine AllReadyH.cons rfl (fun K hK => ?_) AllReadyH.nil
        go_simp
        go_wp2_with (go_at_call 70; refine (HH0.out _ HD6.out).mono ?_; rintro e9 w7 ⟨rfl, hb7⟩)
        have HB7 := hid_of (HD6.out.trans (hb7.mono HD6.out.size))
        clear hb7
        refine hK.out _ _ (HS7.out _ HB7.out) (fun hHeld => ?_)
        clear hK K
        try simp only [Act.put]
        refine wpAnyH_ready (rs := [7]) (by kernel_rfl) (by simp) ?_
        refine AllReadyH.cons rfl (fun K hK => ?_) AllReadyH.nil
        go_simp
        go_wp2_with (go_at_call 70; refine (HH1.out _ HB7.out).mono ?_; rintro e9 w8 ⟨rfl, hb8⟩)
        have HB8 := hid_of (HB7.out.trans (hb8.mono HB7.out.size))
        clear hb8
        refine hK.out _ _ (HS7.out _ HB8.out) (fun hHeld => ?_)
        clear hK K
        try simp only [Act.put]
        refine wpAnyH_take (i := 8) (v := ?vvu33) rfl (by kernel_rfl) (by kernel_rfl) (by kernel_rfl) (fun _ _ _ h => h) (Or.inl ⟨by rfl, ?yyu33⟩) (by assumption) ?rru33
        case yyu33 => (intro w hSw; (try dsimp only at hSw); go_simp; (try with_reducible rfl))
        try simp only [Act.put]
        refine wpAnyH_take (i := 9) (v := ?vvu34) rfl (by kernel_rfl) (by kernel_rfl) (by kernel_rfl) (fun _ _ _ h => h) (Or.inl ⟨by rfl, ?yyu34⟩) (by assumption) ?rru34
        case yyu34 => (intro w hSw; (try dsimp only at hSw); go_simp; (try with_reducible rfl))
        try simp only [Act.put]
        refine wpAnyH_done (by kernel_rfl) ?_ _
        clear hHeld
        have HEF : Hid (Below w.heap.size w w8) := HBV.out.trans ((HV4.out.trans (HB8.out.mono HV4.out.size)).mono (by omega))
        have HEZ : Hid (Below F.heap.size F w8) := HBZ.out.trans ((HC4.out.bel.trans (HB8.out.mono HC4.out.bel.size)).mono hsZ)
        clear HS7 HE0 HE1 HH0 HH1 HB5 HB6 HB7 fd0 fd1
        rcases dq p x _ rfl with ⟨epi, fpi⟩ | ⟨epi, fpi⟩
        · rcases dq q y _ rfl with ⟨eqj, fqj⟩ | ⟨eqj, fqj⟩
          · rcases dq ha 2 2 rfl with ⟨ea2, fa2⟩ | ⟨ea2, fa2⟩
            · rcases dq hb 0 0 rfl with ⟨eb0, fb0⟩ | ⟨eb0, fb0⟩
              · have HR := hid_of (HS.out (HJ.out.trans (by simp [epi, eqj, ea2, eb0])))
                clear HJ
                go_wp2
                go_ret
                exact ⟨ret_bool HR.out, HEF.out⟩
              · rcases dq ha 0 0 rfl with ⟨ea0, fa0⟩ | ⟨ea0, fa0⟩
                · rcases dq hb 2 2 rfl with ⟨eb2, fb2⟩ | ⟨eb2, fb2⟩
                  · have HR := hid_of (HS.out (HJ.out.trans (by simp [epi, eqj, ea2, eb0, ea0, eb2])))
                    clear HJ
                    go_wp2
                    go_ret
                    exact ⟨ret_bool HR.out, HEF.out⟩
                  · have HR : Hid ((L.take (i + 1)).any (jlR C x y) = false) := (by rw [HX.out, hno.out, HJ.out]; simp [epi, eqj, ea2, eb0, ea0, eb2] : (L.take (i + 1)).any (jlR C x y) = false)
                    clear HJ
                    go_wp2
                    go_roundw
                    case rel => exact ⟨i + 1, by omega, by go_num, HR.out, HEZ.out⟩
                    case measure => simp only [intOf]; omega
                · have HR : Hid ((L.take (i + 1)).any (jlR C x y) = false) := (by rw [HX.out, hno.out, HJ.out]; simp [epi, eqj, ea2, eb0, ea0] : (L.take (i + 1)).any (jlR C x y) = false)
                  clear HJ
                  go_wp2
                  go_roundw
                  case rel => exact ⟨i + 1, by omega, by go_num, HR.out, HEZ.out⟩
                  case measure => simp only [intOf]; omega
            · rcases dq ha 0 0 rfl with ⟨ea0, fa0⟩ | ⟨ea0, fa0⟩
              · rcases dq hb 2 2 rfl with ⟨eb2, fb2⟩ | ⟨eb2, fb2⟩
                · have HR := hid_of (HS.out (HJ.out.trans (by simp [epi, eqj, ea2, ea0, eb2])))
                  clear HJ
                  go_wp2
                  go_ret
                  exact ⟨ret_bool HR.out, HEF.out⟩
                · have HR : Hid ((L.take (i + 1)).any (jlR C x y) = false) := (by rw [HX.out, hno.out, HJ.out]; simp [epi, eqj, ea2, ea0, eb2] : (L.take (i + 1)).any (jlR C x y) = false)
                  clear HJ
                  go_wp2
                  go_roundw
                  case rel => exact ⟨i + 1, by omega, by go_num, HR.out, HEZ.out⟩
                  case measure => simp only [intOf]; omega
              · have HR : Hid ((L.take (i + 1)).any (jlR C x y) = false) := (by rw [HX.out, hno.out, HJ.out]; simp [epi, eqj, ea2, ea0] : (L.take (i + 1)).any (jlR C x y) = false)
                clear HJ
                go_wp2
                go_roundw
                case rel => exact ⟨i + 1, by omega, by go_num, HR.out, HEZ.out⟩
                case measure => simp only [intOf]; omega
          · rcases dq p y _ rfl with ⟨epj, fpj⟩ | ⟨epj, fpj⟩
            · rcases dq q x _ rfl with ⟨eqi, fqi⟩ | ⟨eqi, fqi⟩
              · rcases dq ha 2 2 rfl with ⟨ea2, fa2⟩ | ⟨ea2, fa2⟩
                · rcases dq hb 0 0 rfl with ⟨eb0, fb0⟩ | ⟨eb0, fb0⟩
                  · have HR := hid_of (HS.out (HJ.out.trans (by simp [epi, eqj, epj, eqi, ea2, eb0])))
                    clear HJ
                    go_wp2
                    go_ret
                    exact ⟨ret_bool HR.out, HEF.out⟩
                  · rcases dq ha 0 0 rfl with ⟨ea0, fa0⟩ | ⟨ea0, fa0⟩
                    · rcases dq hb 2 2 rfl with ⟨eb2, fb2⟩ | ⟨eb2, fb2⟩
                      · have HR := hid_of (HS.out (HJ.out.trans (by simp [epi, eqj, epj, eqi, ea2, eb0, ea0, eb2])))
                        clear HJ
                        go_wp2
                        go_ret
                        exact ⟨ret_bool HR.out, HEF.out⟩
                      · have HR : Hid ((L.take (i + 1)).any (jlR C x y) = false) := (by rw [HX.out, hno.out, HJ.out]; simp [epi, eqj, epj, eqi, ea2, eb0, ea0, eb2] : (L.take (i + 1)).any (jlR C x y) = false)
                        clear HJ
                        go_wp2
                        go_roundw
                        case rel => exact ⟨i + 1, by omega, by go_num, HR.out, HEZ.out⟩
                        case measure => simp only [intOf]; omega
                    · have HR : Hid ((L.take (i + 1)).any (jlR C x y) = false) := (by rw [HX.out, hno.out, HJ.out]; simp [epi, eqj, epj, eqi, ea2, eb0, ea0] : (L.take (i + 1)).any (jlR C x y) = false)
                      clear HJ
                      go_wp2
                      go_roundw
                      case rel => exact ⟨i + 1, by omega, by go_num, HR.out, HEZ.out⟩
                      case measure => simp only [intOf]; omega
                · rcases dq ha 0 0 rfl with ⟨ea0, fa0⟩ | ⟨ea0, fa0⟩
                  · rcases dq hb 2 2 rfl with ⟨eb2, fb2⟩ | ⟨eb2, fb2⟩
                    · have HR := hid_of (HS.out (HJ.out.trans (by simp [epi, eqj, epj, eqi, ea2, ea0, eb2])))
                      clear HJ
                      go_wp2
                      go_ret
                      exact ⟨ret_bool HR.out, HEF.out⟩
                    · have HR : Hid ((L.take (i + 1)).any (jlR C x y) = false) := (by rw [HX.out, hno.out, HJ.out]; simp [epi, eqj, epj, eqi, ea2, ea0, eb2] : (L.take (i + 1)).any (jlR C x y) = false)
                      clear HJ
                      go_wp2
                      go_roundw
                      case rel => exact ⟨i + 1, by omega, by go_num, HR.out, HEZ.out⟩
                      case measure => simp only [intOf]; omega
                  · have HR : Hid ((L.take (i + 1)).any (jlR C x y) = false) := (by rw [HX.out, hno.out, HJ.out]; simp [epi, eqj, epj, eqi, ea2, ea0] : (L.take (i + 1)).any (jlR C x y) = false)
                    clear HJ
                    go_wp2
                    go_roundw
                    case rel => exact ⟨i + 1, by omega, by go_num, HR.out, HEZ.out⟩
                    case measure => simp only [intOf]; omega
              · have HR : Hid ((L.take (i + 1)).any (jlR C x y) = false) := (by rw [HX.out, hno.out, HJ.out]; simp [epi, eqj, epj, eqi] : (L.take (i + 1)).any (jlR C x y) = false)
                clear HJ
                go_wp2
                go_roundw
                case rel => exact ⟨i + 1, by omega, by go_num, HR.out, HEZ.out⟩
                case measure => simp only [intOf]; omega
            · have HR : Hid ((L.take (i + 1)).any (jlR C x y) = false) := (by rw [HX.out, hno.out, HJ.out]; simp [epi, eqj, epj] : (L.take (i + 1)).any (jlR C x y) = false)
              clear HJ
              go_wp2
              go_roundw
              case rel => exact ⟨i + 1, by omega, by go_num, HR.out, HEZ.out⟩
              case measure => simp only [intOf]; omega
        · rcases dq p y _ rfl with ⟨epj, fpj⟩ | ⟨epj, fpj⟩
          · rcases dq q x _ rfl with ⟨eqi, fqi⟩ | ⟨eqi, fqi⟩
            · rcases dq ha 2 2 rfl with ⟨ea2, fa2⟩ | ⟨ea2, fa2⟩
              · rcases dq hb 0 0 rfl with ⟨eb0, fb0⟩ | ⟨eb0, fb0⟩
                · have HR := hid_of (HS.out (HJ.out.trans (by simp [epi, epj, eqi, ea2, eb0])))
                  clear HJ
                  go_wp2
                  go_ret
                  exact ⟨ret_bool HR.out, HEF.out⟩
                · rcases dq ha 0 0 rfl with ⟨ea0, fa0⟩ | ⟨ea0, fa0⟩
                  · rcases dq hb 2 2 rfl with ⟨eb2, fb2⟩ | ⟨eb2, fb2⟩
                    · have HR := hid_of (HS.out (HJ.out.trans (by simp [epi, epj, eqi, ea2, eb0, ea0, eb2])))
                      clear HJ
                      go_wp2
                      go_ret
                      exact ⟨ret_bool HR.out, HEF.out⟩
                    · have HR : Hid ((L.take (i + 1)).any (jlR C x y) = false) := (by rw [HX.out, hno.out, HJ.out]; simp [epi, epj, eqi, ea2, eb0, ea0, eb2] : (L.take (i + 1)).any (jlR C x y) = false)
                      clear HJ
                      go_wp2
                      go_roundw
                      case rel => exact ⟨i + 1, by omega, by go_num, HR.out, HEZ.out⟩
                      case measure => simp only [intOf]; omega
                  · have HR : Hid ((L.take (i + 1)).any (jlR C x y) = false) := (by rw [HX.out, hno.out, HJ.out]; simp [epi, epj, eqi, ea2, eb0, ea0] : (L.take (i + 1)).any (jlR C x y) = false)
                    clear HJ
                    go_wp2
                    go_roundw
                    case rel => exact ⟨i + 1, by omega, by go_num, HR.out, HEZ.out⟩
                    case measure => simp only [intOf]; omega
              · rcases dq ha 0 0 rfl with ⟨ea0, fa0⟩ | ⟨ea0, fa0⟩
                · rcases dq hb 2 2 rfl with ⟨eb2, fb2⟩ | ⟨eb2, fb2⟩
                  · have HR := hid_of (HS.out (HJ.out.trans (by simp [epi, epj, eqi, ea2, ea0, eb2])))
                    clear HJ
                    go_wp2
                    go_ret
                    exact ⟨ret_bool HR.out, HEF.out⟩
                  · have HR : Hid ((L.take (i + 1)).any (jlR C x y) = false) := (by rw [HX.out, hno.out, HJ.out]; simp [epi, epj, eqi, ea2, ea0, eb2] : (L.take (i + 1)).any (jlR C x y) = false)
                    clear HJ
                    go_wp2
                    go_roundw
                    case rel => exact ⟨i + 1, by omega, by go_num, HR.out, HEZ.out⟩
                    case measure => simp only [intOf]; omega
                · have HR : Hid ((L.take (i + 1)).any (jlR C x y) = false) := (by rw [HX.out, hno.out, HJ.out]; simp [epi, epj, eqi, ea2, ea0] : (L.take (i + 1)).any (jlR C x y) = false)
                  clear HJ
                  go_wp2
                  go_roundw
                  case rel => exact ⟨i + 1, by omega, by go_num, HR.out, HEZ.out⟩
                  case measure => simp only [intOf]; omega
            · have HR : Hid ((L.take (i + 1)).any (jlR C x y) = false) := (by rw [HX.out, hno.out, HJ.out]; simp [epi, epj, eqi] : (L.take (i + 1)).any (jlR C x y) = false)
              clear HJ
              go_wp2
              go_roundw
              case rel => exact ⟨i + 1, by omega, by go_num, HR.out, HEZ.out⟩
              case measure => simp only [intOf]; omega
          · have HR : Hid ((L.take (i + 1)).any (jlR C x y) = false) := (by rw [HX.out, hno.out, HJ.out]; simp [epi, epj] : (L.take (i + 1)).any (jlR C x y) = false)
            clear HJ
            go_wp2
            go_roundw
            case rel => exact ⟨i + 1, by omega, by go_num, HR.out, HEZ.out⟩
            case measure => simp only [intOf]; omega
      · have hn2 : ((l.length : Int) != 2) = true := bne_iff_ne.2 (by omega)
        have HR : Hid ((L.take (i + 1)).any (jlR C x y) = false) := (by rw [HX.out, hno.out]; unfold jlR; rw [decide_eq_false hl2]; rfl : (L.take (i + 1)).any (jlR C x y) = false)
        generalize l.length = nl at h1 hn2
        clear hl2
        go_wp2
        go_roundw
        case rel => exact ⟨i + 1, by omega, by go_num, HR.out, HBZ.out⟩
        case measure => simp only [intOf]; omega
    · obtain rfl : i = m := by omega
      have HA : Hid (L.any (jlR C x y) = false) := (by have := hno.out; rw [← HML.out, List.take_length] at this; exact this : L.any (jlR C x y) = false)
      go_wp2
      go_ret
      exact ⟨ret_bool HA.out, HBV.out.trans ((HBF.out.trans (HBZ.out.mono hsF)).mono (by omega))⟩
end Go.Proofs.Ytagaajlbkfkaiaa

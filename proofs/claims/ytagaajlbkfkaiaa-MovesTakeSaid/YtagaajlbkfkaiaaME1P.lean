/- Several texts of the proof, one behind the other. -/
import Derived.Test.YtagaajlbkfkaiaaH4P
import Derived.Test.YtagaajlbkfkaiaaMV5P
import Derived.Test.YtagaajlbkfkaiaaW3P
import Derived.Deep.RegionHeld
import Derived.Test.YtagaajlbkfkaiaaF2P
import Derived.Test.YtagaajlbkfkaiaaMVjP
import Derived.Test.YtagaajlbkfkaiaaF4P
/- The walks of ref.heightOf, ref.curlAt and ref.fewLoops. Made by genme1.py. -/
namespace Go.Proofs.Ytagaajlbkfkaiaa
open Go.RowKit

/-- At how many of its ends an arc is above. -/
def hgt (C : List Cr) (x : Nat) : Nat := enS C x true % 2 + enS C x false % 2
theorem endOf_is (b off cap : Nat) (C : List Cr) (loops : Int) (x : Nat) (p : Bool) (w : World) (hm : mayD C loops = true) (h1 : 1 ≤ x) (h2 : x ≤ 2 * C.length) (hbw : b < w.heap.size) (hC : CrossAt w b off C) :
    Calls Try.prog 63 #[.agg #[.slice (some ⟨b, off, none⟩) C.length cap, .int .i64 loops], .int .i64 x, .bool (!p)] w fun e w' => e = .returned (.agg #[.int .i64 (enC C x p : Nat), .int .i64 (enS C x p : Nat)]) ∧ Below w.heap.size w w' := by
  have h := endOf_any b off cap C loops x (!p) w hm h1 h2 hbw hC
  have e := en_may hm x p h1 h2
  rw [Bool.not_not] at h
  rw [e.1] at h
  exact h

set_option maxHeartbeats 4000000 in
set_option maxRecDepth 100000 in
theorem heightOf_any (b off cap : Nat) (C : List Cr) (loops : Int) (x : Nat) (w : World) (hm : mayD C loops = true) (h1 : 1 ≤ x) (h2 : x ≤ 2 * C.length) (hbw : b < w.heap.size) (hC : CrossAt w b off C) :
    Calls Try.prog 70 #[.agg #[.slice (some ⟨b, off, none⟩) C.length cap, .int .i64 loops], .int .i64 x] w fun e w' => e = .returned (.int .i64 (hgt C x : Nat)) ∧ Below w.heap.size w w' := by
  obtain ⟨V, hV⟩ : ∃ V, w.alloc (.cells #[.slice (some ⟨b, off, none⟩) C.length cap, .int .i64 loops] 24) = V := ⟨_, rfl⟩
  have HBV : Hid (Below w.heap.size w V) := (by rw [← hV]; exact (Below.refl _ _).alloc (Nat.le_refl _) _ : Below w.heap.size w V)
  have HT0 : Hid (V.heap[w.heap.size]? = some (.cells #[.slice (some ⟨b, off, none⟩) C.length cap, .int .i64 loops] 24 (0, 0))) := (by rw [← hV]; exact alloc_at rfl : V.heap[w.heap.size]? = _)
  have hsV : w.heap.size + 1 ≤ V.heap.size := by rw [← hV]; simp
  have HSV : Hid (∀ W, Below V.heap.size V W → (fun X : World => X.cell? ⟨w.heap.size, 0, none⟩ = some (.slice (some ⟨b, off, none⟩) C.length cap) ∧ X.cell? ⟨w.heap.size, 1, none⟩ = some (.int .i64 loops)) W) := fun W hW => by
    have k0 := (hW.block _ (by omega)).trans HT0.out
    exact ⟨block_cell k0 rfl, block_cell k0 rfl⟩
  have HCV : Hid (∀ W, Below V.heap.size V W → CrossAt W b off C ∧ b < W.heap.size) := fun W hW => by
    have h := HBV.out.trans (hW.mono (by omega))
    exact ⟨hC.on h hbw, Nat.lt_of_lt_of_le hbw h.size⟩
  have HE1 : Hid (∀ W, Below V.heap.size V W → Calls Try.prog 63 #[.agg #[.slice (some ⟨b, off, none⟩) C.length cap, .int .i64 loops], .int .i64 x, .bool false] W fun e w' => e = .returned (.agg #[.int .i64 (enC C x true : Nat), .int .i64 (enS C x true : Nat)]) ∧ Below W.heap.size W w') := fun W hW => endOf_is b off cap C loops x true W hm h1 h2 (HCV.out W hW).2 (HCV.out W hW).1
  have HE2 : Hid (∀ W, Below V.heap.size V W → Calls Try.prog 63 #[.agg #[.slice (some ⟨b, off, none⟩) C.length cap, .int .i64 loops], .int .i64 x, .bool true] W fun e w' => e = .returned (.agg #[.int .i64 (enC C x false : Nat), .int .i64 (enS C x false : Nat)]) ∧ Below W.heap.size W w') := fun W hW => endOf_is b off cap C loops x false W hm h1 h2 (HCV.out W hW).2 (HCV.out W hW).1
  unfold hgt
  generalize enC C x true = c1 at HE1
  generalize enC C x false = c2 at HE2
  generalize enS C x true = s1 at HE1 ⊢
  generalize enS C x false = s2 at HE2 ⊢
  obtain ⟨r1, hr1⟩ : ∃ r, s1 % 2 = r := ⟨_, rfl⟩
  obtain ⟨r2, hr2⟩ : ∃ r, s2 % 2 = r := ⟨_, rfl⟩
  have t1 : (s1 : Int).tmod 2 = (r1 : Int) := by rw [Int.tmod_eq_emod_of_nonneg (by omega)]; omega
  have t2 : (s2 : Int).tmod 2 = (r2 : Int) := by rw [Int.tmod_eq_emod_of_nonneg (by omega)]; omega
  have w1 : IntKind.i64.wrap (r1 : Int) = (r1 : Int) := IntWalk.i64_in _ (by omega)
  have w2 : IntKind.i64.wrap (r2 : Int) = (r2 : Int) := IntWalk.i64_in _ (by omega)
  have w3 : IntKind.i64.wrap ((r1 : Int) + (r2 : Int)) = (r1 : Int) + (r2 : Int) := IntWalk.i64_in _ (by omega)
  have g1 : ∀ W : World, (Instr.field 96 (.agg #[.int .i64 (c1 : Nat), .int .i64 (s1 : Nat)]) 1).run Try.prog W = .ok (.int .i64 (s1 : Nat)) W := fun W => by kernel_rfl
  have g2 : ∀ W : World, (Instr.field 96 (.agg #[.int .i64 (c2 : Nat), .int .i64 (s2 : Nat)]) 1).run Try.prog W = .ok (.int .i64 (s2 : Nat)) W := fun W => by kernel_rfl
  have HDV : Hid (Below V.heap.size V V.drew) := (Below.refl _ _).drew
  have HV := hid_of hV
  rw [hr1, hr2]
  clear hr1 hr2 hV hm hC
  go_enter Try.func70, Try.ntmps70
  go_wp2
  rw [HV.out]
  refine wp_region_held_drew (S := fun X : World => X.cell? ⟨w.heap.size, 0, none⟩ = some (.slice (some ⟨b, off, none⟩) C.length cap) ∧ X.cell? ⟨w.heap.size, 1, none⟩ = some (.int .i64 loops)) (by kernel_rfl) (HSV.out _ HDV.out) (fun hHeld => ?_)
  refine wpAnyH_take (i := 0) (v := ?vvu1) rfl (by kernel_rfl) (by kernel_rfl) (by kernel_rfl) (fun _ _ _ h => h) (Or.inl ⟨by rfl, ?yyu1⟩) (by assumption) ?rru1
  case yyu1 => (intro w hSw; (try dsimp only at hSw); go_simp; (try with_reducible rfl))
  try simp only [Act.put]
  refine wpAnyH_take (i := 1) (v := ?vvu2) rfl (by kernel_rfl) (by kernel_rfl) (by kernel_rfl) (fun _ _ _ h => h) (Or.inl ⟨by rfl, ?yyu2⟩) (by assumption) ?rru2
  case yyu2 => (intro w hSw; (try dsimp only at hSw); go_simp; (try with_reducible rfl))
  try simp only [Act.put]
  refine wpAnyH_take (i := 5) (v := ?vvu3) rfl (by kernel_rfl) (by kernel_rfl) (by kernel_rfl) (fun _ _ _ h => h) (Or.inl ⟨by rfl, ?yyu3⟩) (by assumption) ?rru3
  case yyu3 => (intro w hSw; (try dsimp only at hSw); go_simp; (try with_reducible rfl))
  try simp only [Act.put]
  refine wpAnyH_take (i := 6) (v := ?vvu4) rfl (by kernel_rfl) (by kernel_rfl) (by kernel_rfl) (fun _ _ _ h => h) (Or.inl ⟨by rfl, ?yyu4⟩) (by assumption) ?rru4
  case yyu4 => (intro w hSw; (try dsimp only at hSw); go_simp; (try with_reducible rfl))
  try simp only [Act.put]
  refine wpAnyH_ready (rs := [2]) (by kernel_rfl) (by simp) ?_
  refine AllReadyH.cons rfl (fun K hK => ?_) AllReadyH.nil
  go_simp
  go_wp2_with (go_at_call 63; refine (HE1.out _ HDV.out).mono ?_; rintro e9 w5 ⟨rfl, hb5⟩)
  have HB5 := hid_of (HDV.out.trans (hb5.mono HDV.out.size))
  clear hb5
  refine hK.out _ _ (HSV.out _ HB5.out) (fun hHeld => ?_)
  clear hK K
  try simp only [Act.put]
  refine wpAnyH_take (i := 3) (v := ?vvu5) rfl (by kernel_rfl) (by kernel_rfl) (by kernel_rfl) (fun _ _ _ h => h) (Or.inl ⟨by rfl, ?yyu5⟩) (by assumption) ?rru5
  case yyu5 => (intro w hSw; (try dsimp only at hSw); go_simp; (try with_reducible rfl))
  try simp only [Act.put]
  refine wpAnyH_take (i := 4) (v := ?vvu6) rfl (by kernel_rfl) (by kernel_rfl) (by kernel_rfl) (fun _ _ _ h => h) (Or.inl ⟨by rfl, ?yyu6⟩) (by assumption) ?rru6
  case yyu6 => (intro w hSw; (try dsimp only at hSw); go_simp; (try with_reducible rfl))
  try simp only [Act.put]
  refine wpAnyH_ready (rs := [7]) (by kernel_rfl) (by simp) ?_
  refine AllReadyH.cons rfl (fun K hK => ?_) AllReadyH.nil
  go_simp
  go_wp2_with (go_at_call 63; refine (HE2.out _ HB5.out).mono ?_; rintro e9 w6 ⟨rfl, hb6⟩)
  have HB6 := hid_of (HB5.out.trans (hb6.mono HB5.out.size))
  clear hb6
  refine hK.out _ _ (HSV.out _ HB6.out) (fun hHeld => ?_)
  clear hK K
  try simp only [Act.put]
  refine wpAnyH_take (i := 8) (v := ?vvu7) rfl (by kernel_rfl) (by kernel_rfl) (by kernel_rfl) (fun _ _ _ h => h) (Or.inl ⟨by rfl, ?yyu7⟩) (by assumption) ?rru7
  case yyu7 => (intro w hSw; (try dsimp only at hSw); go_simp; (try with_reducible rfl))
  try simp only [Act.put]
  refine wpAnyH_take (i := 9) (v := ?vvu8) rfl (by kernel_rfl) (by kernel_rfl) (by kernel_rfl) (fun _ _ _ h => h) (Or.inl ⟨by rfl, ?yyu8⟩) (by assumption) ?rru8
  case yyu8 => (intro w hSw; (try dsimp only at hSw); go_simp; (try with_reducible rfl))
  try simp only [Act.put]
  refine wpAnyH_take (i := 10) (v := ?vvu9) rfl (by kernel_rfl) (by kernel_rfl) (by kernel_rfl) (fun _ _ _ h => h) (Or.inl ⟨by rfl, ?yyu9⟩) (by assumption) ?rru9
  case yyu9 => (intro w hSw; (try dsimp only at hSw); go_simp; (try with_reducible rfl))
  try simp only [Act.put]
  refine wpAnyH_take (i := 11) (v := ?vvu10) rfl (by kernel_rfl) (by kernel_rfl) (by kernel_rfl) (fun _ _ _ h => h) (Or.inl ⟨by rfl, ?yyu10⟩) (by assumption) ?rru10
  case yyu10 => (intro w hSw; (try dsimp only at hSw); go_simp; (try with_reducible rfl))
  try simp only [Act.put]
  refine wpAnyH_done (by kernel_rfl) ?_ _
  clear hHeld
  simp only [List.getElem_toArray, List.getElem_cons_succ, List.getElem_cons_zero]
  go_wp2
  go_ret
  refine ⟨?_, HBV.out.trans (HB6.out.mono (by omega))⟩
  show Ending.returned (.int .i64 ((r1 : Int) + (r2 : Int))) = _
  rw [Int.natCast_add]

/-- Have two neighbouring sides of a crossing one arc? -/
def caB (C : List Cr) (k : Nat) : Bool := (List.range 4).any fun s => decide ((C.getD k Cr.none).arc s = (C.getD k Cr.none).arc ((s + 1) % 4))

set_option maxHeartbeats 4000000 in
set_option maxRecDepth 100000 in
theorem curlAt_any (b off cap : Nat) (C : List Cr) (loops : Int) (k : Nat) (w : World) (hk : k < C.length) (hbw : b < w.heap.size) (hC : CrossAt w b off C) :
    Calls Try.prog 34 #[.agg #[.slice (some ⟨b, off, none⟩) C.length cap, .int .i64 loops], .int .i64 k] w fun e w' => e = .returned (.bool (caB C k)) ∧ Below w.heap.size w w' := by
  obtain ⟨V, hV⟩ : ∃ V, w.alloc (.cells #[.slice (some ⟨b, off, none⟩) C.length cap, .int .i64 loops] 24) = V := ⟨_, rfl⟩
  have HBV : Hid (Below w.heap.size w V) := (by rw [← hV]; exact (Below.refl _ _).alloc (Nat.le_refl _) _ : Below w.heap.size w V)
  have HT0 : Hid (V.heap[w.heap.size]? = some (.cells #[.slice (some ⟨b, off, none⟩) C.length cap, .int .i64 loops] 24 (0, 0))) := (by rw [← hV]; exact alloc_at rfl : V.heap[w.heap.size]? = _)
  have hsV : w.heap.size + 1 ≤ V.heap.size := by rw [← hV]; simp
  have HSV : Hid (∀ W, Below V.heap.size V W → (fun X : World => X.cell? ⟨w.heap.size, 0, none⟩ = some (.slice (some ⟨b, off, none⟩) C.length cap) ∧ X.cell? ⟨w.heap.size, 1, none⟩ = some (.int .i64 loops)) W) := fun W hW => by
    have k0 := (hW.block _ (by omega)).trans HT0.out
    exact ⟨block_cell k0 rfl, block_cell k0 rfl⟩
  have HCV : Hid (∀ W, Below V.heap.size V W → CrossAt W b off C ∧ b < W.heap.size) := fun W hW => by
    have h := HBV.out.trans (hW.mono (by omega))
    exact ⟨hC.on h hbw, Nat.lt_of_lt_of_le hbw h.size⟩
  have HAR : Hid (∀ (s : Nat) (W : World), s < 4 → Below V.heap.size V W → Calls Try.prog 60 #[.agg #[.slice (some ⟨b, off, none⟩) C.length cap, .int .i64 loops], .agg #[.int .i64 k, .int .i64 s]] W fun e w' => e = .returned (.int .i64 ((C.getD k Cr.none).arc s)) ∧ Below W.heap.size W w') := fun s W hs hW => arcAt_any b off cap loops C k s W hk hs (HCV.out W hW).2 (HCV.out W hW).1
  have HB : Hid (caB C k = true ↔ ∃ s, s < 4 ∧ (C.getD k Cr.none).arc s = (C.getD k Cr.none).arc ((s + 1) % 4)) := (by
    unfold caB
    rw [List.any_eq_true]
    constructor
    · rintro ⟨s, h1, h2⟩
      exact ⟨s, List.mem_range.1 h1, of_decide_eq_true h2⟩
    · rintro ⟨s, h1, h2⟩
      exact ⟨s, List.mem_range.2 h1, decide_eq_true h2⟩ : caB C k = true ↔ ∃ s, s < 4 ∧ (C.getD k Cr.none).arc s = (C.getD k Cr.none).arc ((s + 1) % 4))
  generalize caB C k = B at HB ⊢
  generalize C.getD k Cr.none = X at HAR HB
  have HV := hid_of hV
  clear hV hC
  go_enter Try.func34, Try.ntmps34
  go_wp2
  rw [HV.out]
  go_loopw [5] (fun v5 wr => ∃ s : Nat, s ≤ 4 ∧ v5 = .int .i64 (s : Nat) ∧ Hid (∀ t, t < s → X.arc t ≠ X.arc ((t + 1) % 4)) ∧ Hid (Below V.heap.size V wr)) (fun v5 _ => 4 - (intOf v5).toNat)
  case atStart => exact ⟨0, by omega, rfl, (fun t ht => by omega), Below.refl _ _⟩
  case round =>
    rename World => W1
    obtain ⟨s, hs, rfl, hN, hB⟩ := hrel
    have HBW := hid_of hB.out
    have HN := hid_of hN.out
    clear hN hB
    by_cases hs4 : s < 4
    · have d1 : (s : Int) < 4 := by omega
      obtain ⟨s1, hs1⟩ : ∃ s1, (s + 1) % 4 = s1 := ⟨_, rfl⟩
      have hs1b : s1 < 4 := by omega
      have u1 : IntKind.i64.wrap ((s : Int) + 1) = (s : Int) + 1 := IntWalk.i64_in _ (by omega)
      have u2 : ((s : Int) + 1).tmod 4 = (s1 : Int) := by rw [Int.tmod_eq_emod_of_nonneg (by omega)]; omega
      have u3 : IntKind.i64.wrap (s1 : Int) = (s1 : Int) := IntWalk.i64_in _ (by omega)
      have HDW : Hid (Below V.heap.size V W1.drew) := HBW.out.drew
      have HA1 := hid_of (HAR.out s W1.drew hs4 HDW.out)
      have HA2 : Hid (∀ W, Below V.heap.size V W → Calls Try.prog 60 #[.agg #[.slice (some ⟨b, off, none⟩) C.length cap, .int .i64 loops], .agg #[.int .i64 k, .int .i64 s1]] W fun e w' => e = .returned (.int .i64 (X.arc s1)) ∧ Below W.heap.size W w') := fun W hW => HAR.out s1 W hs1b hW
      have HNX : Hid (X.arc s ≠ X.arc s1 → ∀ t, t < s + 1 → X.arc t ≠ X.arc ((t + 1) % 4)) := fun h t ht => by
        by_cases e : t = s
        · rw [e, hs1]; exact h
        · exact HN.out t (by omega)
      have HYS : Hid (X.arc s = X.arc s1 → B = true) := fun h => HB.out.2 ⟨s, hs4, by rw [hs1]; exact h⟩
      generalize X.arc s = p at HA1 HNX HYS
      generalize X.arc s1 = q at HA2 HNX HYS
      clear hs1
      go_wp2
      refine wp_region_held_drew (S := fun X : World => X.cell? ⟨w.heap.size, 0, none⟩ = some (.slice (some ⟨b, off, none⟩) C.length cap) ∧ X.cell? ⟨w.heap.size, 1, none⟩ = some (.int .i64 loops)) (by kernel_rfl) (HSV.out _ HDW.out) (fun hHeld => ?_)
      refine wpAnyH_take (i := 0) (v := ?vvu11) rfl (by kernel_rfl) (by kernel_rfl) (by kernel_rfl) (fun _ _ _ h => h) (Or.inl ⟨by rfl, ?yyu11⟩) (by assumption) ?rru11
      case yyu11 => (intro w hSw; (try dsimp only at hSw); go_simp; (try with_reducible rfl))
      try simp only [Act.put]
      refine wpAnyH_take (i := 1) (v := ?vvu12) rfl (by kernel_rfl) (by kernel_rfl) (by kernel_rfl) (fun _ _ _ h => h) (Or.inl ⟨by rfl, ?yyu12⟩) (by assumption) ?rru12
      case yyu12 => (intro w hSw; (try dsimp only at hSw); go_simp; (try with_reducible rfl))
      try simp only [Act.put]
      refine wpAnyH_take (i := 2) (v := ?vvu13) rfl (by kernel_rfl) (by kernel_rfl) (by kernel_rfl) (fun _ _ _ h => h) (Or.inl ⟨by rfl, ?yyu13⟩) (by assumption) ?rru13
      case yyu13 => (intro w hSw; (try dsimp only at hSw); go_simp; (try with_reducible rfl))
      try simp only [Act.put]
      refine wpAnyH_take (i := 3) (v := ?vvu14) rfl (by kernel_rfl) (by kernel_rfl) (by kernel_rfl) (fun _ _ _ h => h) (Or.inl ⟨by rfl, ?yyu14⟩) (by assumption) ?rru14
      case yyu14 => (intro w hSw; (try dsimp only at hSw); go_simp; (try with_reducible rfl))
      try simp only [Act.put]
      refine wpAnyH_take (i := 5) (v := ?vvu15) rfl (by kernel_rfl) (by kernel_rfl) (by kernel_rfl) (fun _ _ _ h => h) (Or.inl ⟨by rfl, ?yyu15⟩) (by assumption) ?rru15
      case yyu15 => (intro w hSw; (try dsimp only at hSw); go_simp; (try with_reducible rfl))
      try simp only [Act.put]
      refine wpAnyH_take (i := 6) (v := ?vvu16) rfl (by kernel_rfl) (by kernel_rfl) (by kernel_rfl) (fun _ _ _ h => h) (Or.inl ⟨by rfl, ?yyu16⟩) (by assumption) ?rru16
      case yyu16 => (intro w hSw; (try dsimp only at hSw); go_simp; (try with_reducible rfl))
      try simp only [Act.put]
      refine wpAnyH_take (i := 7) (v := ?vvu17) rfl (by kernel_rfl) (by kernel_rfl) (by kernel_rfl) (fun _ _ _ h => h) (Or.inl ⟨by rfl, ?yyu17⟩) (by assumption) ?rru17
      case yyu17 => (intro w hSw; (try dsimp only at hSw); go_simp; (try with_reducible rfl))
      try simp only [Act.put]
      refine wpAnyH_take (i := 8) (v := ?vvu18) rfl (by kernel_rfl) (by kernel_rfl) (by kernel_rfl) (fun _ _ _ h => h) (Or.inl ⟨by rfl, ?yyu18⟩) (by assumption) ?rru18
      case yyu18 => (intro w hSw; (try dsimp only at hSw); go_simp; (try with_reducible rfl))
      try simp only [Act.put]
      refine wpAnyH_take (i := 9) (v := ?vvu19) rfl (by kernel_rfl) (by kernel_rfl) (by kernel_rfl) (fun _ _ _ h => h) (Or.inl ⟨by rfl, ?yyu19⟩) (by assumption) ?rru19
      case yyu19 => (intro w hSw; (try dsimp only at hSw); go_simp; (try with_reducible rfl))
      try simp only [Act.put]
      refine wpAnyH_take (i := 10) (v := ?vvu20) rfl (by kernel_rfl) (by kernel_rfl) (by kernel_rfl) (fun _ _ _ h => h) (Or.inl ⟨by rfl, ?yyu20⟩) (by assumption) ?rru20
      case yyu20 => (intro w hSw; (try dsimp only at hSw); go_simp; (try with_reducible rfl))
      try simp only [Act.put]
      refine wpAnyH_ready (rs := [4]) (by kernel_rfl) (by simp) ?_
      refine AllReadyH.cons rfl (fun K hK => ?_) AllReadyH.nil
      go_simp
      go_wp2_with (go_at_call 60; refine HA1.out.mono ?_; rintro e9 w5 ⟨rfl, hb5⟩)
      have HB5 := hid_of (HDW.out.trans (hb5.mono HDW.out.size))
      clear hb5
      refine hK.out _ _ (HSV.out _ HB5.out) (fun hHeld => ?_)
      clear hK K
      try simp only [Act.put]
      refine wpAnyH_ready (rs := [11]) (by kernel_rfl) (by simp) ?_
      refine AllReadyH.cons rfl (fun K hK => ?_) AllReadyH.nil
      go_simp
      go_wp2_with (go_at_call 60; refine (HA2.out _ HB5.out).mono ?_; rintro e9 w6 ⟨rfl, hb6⟩)
      have HB6 := hid_of (HB5.out.trans (hb6.mono HB5.out.size))
      clear hb6
      refine hK.out _ _ (HSV.out _ HB6.out) (fun hHeld => ?_)
      clear hK K
      try simp only [Act.put]
      refine wpAnyH_take (i := 12) (v := ?vvu21) rfl (by kernel_rfl) (by kernel_rfl) (by kernel_rfl) (fun _ _ _ h => h) (Or.inl ⟨by rfl, ?yyu21⟩) (by assumption) ?rru21
      case yyu21 => (intro w hSw; (try dsimp only at hSw); go_simp; (try with_reducible rfl))
      try simp only [Act.put]
      refine wpAnyH_done (by kernel_rfl) ?_ _
      clear hHeld
      by_cases hpq : p = q
      · have d2 : (p == q) = true := beq_iff_eq.2 hpq
        have HF := hid_of (HYS.out hpq)
        clear hpq
        go_wp2
        go_ret
        exact ⟨ret_bool HF.out, HBV.out.trans (HB6.out.mono (by omega))⟩
      · have d2 : (p == q) = false := beq_eq_false_iff_ne.2 hpq
        have HF := hid_of (HNX.out hpq)
        clear hpq
        go_wp2
        go_roundw
        case rel => exact ⟨s + 1, by omega, by go_num, HF.out, HB6.out⟩
        case measure => simp only [intOf]; omega
    · obtain rfl : s = 4 := by omega
      have HF : Hid (B = false) := (by
        cases hb : B with
        | false => rfl
        | true =>
          obtain ⟨t, h1, h2⟩ := HB.out.1 hb
          exact absurd h2 (HN.out t h1) : B = false)
      go_wp2
      go_ret
      exact ⟨ret_bool HF.out, HBV.out.trans (HBW.out.mono (by omega))⟩

theorem res_few {W : World} {g : Nat} {a b : Value} {x : Int} {tm : Array Value} (h : W.heap[g]? = some (.cells #[a, b] 24 (0, 0))) (h2 : tm[2]? = some (.pointer (some ⟨g, 0, none⟩))) (h3 : tm[3]? = some (.int .i64 x)) : (results Try.f35 tm).run Try.prog W = .ok (.tuple #[.agg #[a, b], .int .i64 x]) W := by
  have e0 : W.cell? ⟨g, 0, none⟩ = some a := block_cell h rfl
  have e1 : W.cell? ⟨g, 1, none⟩ = some b := block_cell h rfl
  simp [results, Try.results35, go_sem, h2, h3, e0, e1]

set_option maxHeartbeats 2000000 in
set_option maxRecDepth 100000 in
theorem fewLoops_yes (a : Option Addr) (n c : Nat) (lo : Int) (w : World) (h : lo ≤ 16) :
    Calls Try.prog 35 #[.agg #[.slice a n c, .int .i64 lo]] w fun e w' => e = .returned (.tuple #[.agg #[.slice a n c, .int .i64 lo], .int .i64 0]) ∧ Below w.heap.size w w' := by
  have hI : ¬ (16 : Int) < lo := by omega
  have HB : Hid (Below w.heap.size w ((w.alloc (.cells #[.slice a n c, .int .i64 lo] 24)).alloc (.cells #[.slice a n c, .int .i64 lo] 24))) := ((Below.refl _ _).alloc (Nat.le_refl _) _).alloc (by simp) _
  go_enter Try.func35, Try.ntmps35
  go_wp2
  exact bodyPost_ret (res_few (alloc_at (by simp)) rfl rfl) rfl ⟨rfl, HB.out⟩

set_option maxHeartbeats 2000000 in
set_option maxRecDepth 100000 in
theorem fewLoops_no (a : Option Addr) (n c : Nat) (lo : Int) (w : World) (h : 16 < lo) :
    Calls Try.prog 35 #[.agg #[.slice a n c, .int .i64 lo]] w fun e w' => e = .returned (.tuple #[.agg #[.slice none 0 0, .int .i64 0], .int .i64 2]) ∧ Below w.heap.size w w' := by
  have HB : Hid (Below w.heap.size w ((w.alloc (.cells #[.slice a n c, .int .i64 lo] 24)).alloc (.cells #[.slice none 0 0, .int .i64 0] 24))) := ((Below.refl _ _).alloc (Nat.le_refl _) _).alloc (by simp) _
  go_enter Try.func35, Try.ntmps35
  go_wp2
  exact bodyPost_ret (res_few (alloc_at (by simp)) rfl rfl) rfl ⟨rfl, HB.out⟩
end Go.Proofs.Ytagaajlbkfkaiaa
/- Moves: the walks of bench.hasCross and bench.triangle. Made by genmvp.py. -/
namespace Go.Proofs.Ytagaajlbkfkaiaa
open Go.RowKit

/-- Is there such a crossing? -/
def crB (C : List Cr) (k : Int) : Bool := decide (0 ≤ k) && decide (k < (C.length : Int))

set_option maxHeartbeats 2000000 in
set_option maxRecDepth 100000 in
theorem hasCross_any (a : Option Addr) (cap : Nat) (C : List Cr) (loops : Int) (gF cF gT cT : Nat) (k : Int) (w : World) :
    Calls Try.prog 107 #[drV a cap C loops gF cF gT cT, .int .i64 k] w fun e w' => e = .returned (.bool (crB C k)) ∧ Below w.heap.size w w' := by
  unfold drV
  have hb : ∀ o, Below w.heap.size w (w.alloc o) := fun o => (Below.refl _ _).alloc (Nat.le_refl _) o
  by_cases h0 : 0 ≤ k
  · have d0 : decide (0 ≤ k) = true := by simpa using h0
    by_cases h1 : k < (C.length : Int)
    · have d1 : decide (k < (C.length : Int)) = true := by simpa using h1
      have HR := hid_of (show crB C k = true by simp [crB, h0, h1])
      go_enter Try.func107, Try.ntmps107
      go_wp2
      go_ret
      exact ⟨ret_bool HR.out, hb _⟩
    · have d1 : decide (k < (C.length : Int)) = false := by simpa using h1
      have HR := hid_of (show crB C k = false by simp [crB, h1])
      go_enter Try.func107, Try.ntmps107
      go_wp2
      go_ret
      exact ⟨ret_bool HR.out, hb _⟩
  · have d0 : decide (0 ≤ k) = false := by simpa using h0
    have HR := hid_of (show crB C k = false by simp [crB, h0])
    go_enter Try.func107, Try.ntmps107
    go_wp2
    go_ret
    exact ⟨ret_bool HR.out, hb _⟩

end Go.Proofs.Ytagaajlbkfkaiaa
/- Moves: the walk of the closure of bench.pull, and of slices.ContainsFunc over rings of darts. Made by genmw3.py. -/
namespace Go.Proofs.Ytagaajlbkfkaiaa
open Go.RowKit

/-- Has the ring just two darts, one from each of both crossings to the other, one arc above at both ends and one below? -/
def jlB (C : List Cr) (x y : Nat) (l : List Nat) : Bool := decide (l.length = 2) && ((decide (dC C (l.getD 0 0) = x) && decide (dC C (l.getD 1 0) = y)) || (decide (dC C (l.getD 0 0) = y) && decide (dC C (l.getD 1 0) = x))) && (topB C l && botB C l)
/-- A ring of darts, to be read. -/
def RingAt (w : World) (g : Nat) (C : List Cr) (l : List Nat) : Prop := g < w.heap.size ∧ l.length ≤ 1000 ∧ ∀ k, k < l.length → (1 ≤ l.getD k 0 ∧ l.getD k 0 ≤ 4 * C.length) ∧ w.cell? ⟨g, k * 2, none⟩ = some (.int .i64 (dA (l.getD k 0) : Nat)) ∧ w.cell? ⟨g, k * 2 + 1, none⟩ = some (.bool (dB (l.getD k 0)))
theorem RingAt.on {w w' : World} {g : Nat} {C : List Cr} {l : List Nat} (h : RingAt w g C l) (hb : Below w.heap.size w w') : RingAt w' g C l :=
  ⟨Nat.lt_of_lt_of_le h.1 hb.size, h.2.1, fun k hk => ⟨(h.2.2 k hk).1, bcell hb h.1 (h.2.2 k hk).2.1, bcell hb h.1 (h.2.2 k hk).2.2⟩⟩
/-- The bench's box and the move's. -/
def PbAt (a : Option Addr) (cap : Nat) (C : List Cr) (loops : Int) (gF cF gT cT : Nat) (k ua va : Int) (x y : Nat) (ub vb ov : Bool) (pb pm : Nat) (W : World) : Prop := W.heap[pb]? = some (.cells #[.slice a C.length cap, .int .i64 loops, .slice (some ⟨gF, 0, none⟩) (2 * C.length + 1) cF, .slice (some ⟨gT, 0, none⟩) (2 * C.length + 1) cT] 63 (0, 0)) ∧ W.heap[pm]? = some (.cells #[.int .i64 k, .int .i64 (x : Nat), .int .i64 (y : Nat), .int .i64 ua, .bool ub, .int .i64 va, .bool vb, .bool ov] 28 (0, 0))
theorem joins_at (a : Option Addr) (cap : Nat) (C : List Cr) (loops : Int) (gF cF gT cT : Nat) (g c x y : Nat) (l : List Nat) (w : World) (hm : mayD C loops = true) (hd : Dr w a cap C gF gT) (hr : RingAt w g C l) :
    Calls Try.prog 113 #[drV a cap C loops gF cF gT cT, .slice (some ⟨g, 0, none⟩) l.length c, .int .i64 (x : Nat), .int .i64 (y : Nat)] w fun e w' => e = .returned (.bool (decide (l.length = 2) && ((decide (dC C (l.getD 0 0) = x) && decide (dC C (l.getD 1 0) = y)) || (decide (dC C (l.getD 0 0) = y) && decide (dC C (l.getD 1 0) = x))))) ∧ Below w.heap.size w w' := by
  by_cases h2 : l.length = 2
  · have r0 := hr.2.2 0 (by omega)
    have r1 := hr.2.2 1 (by omega)
    rw [h2]
    exact joins_yes a cap C loops gF cF gT cT g c (l.getD 0 0) (l.getD 1 0) x y w hm hd hr.1 r0.1 r1.1 ⟨r0.2.1, r0.2.2, r1.2.1, r1.2.2⟩
  · rw [decide_eq_false h2]
    exact joins_no a cap C loops gF cF gT cT (some ⟨g, 0, none⟩) l.length c (x : Nat) (y : Nat) w h2

set_option maxHeartbeats 4000000 in
set_option maxRecDepth 100000 in
theorem pullIn_any (a : Option Addr) (cap : Nat) (C : List Cr) (loops : Int) (gF cF gT cT : Nat) (k ua va : Int) (x y : Nat) (ub vb ov : Bool) (pb pm g c : Nat) (l : List Nat) (w : World) (hm : mayD C loops = true) (hd : Dr w a cap C gF gT) (hr : RingAt w g C l) (hp : PbAt a cap C loops gF cF gT cT k ua va x y ub vb ov pb pm w) :
    Calls Try.prog 112 #[.slice (some ⟨g, 0, none⟩) l.length c, .pointer (some ⟨pb, 0, none⟩), .pointer (some ⟨pm, 0, none⟩)] w fun e w' => e = .returned (.bool (jlB C x y l)) ∧ Below w.heap.size w w' := by
  have HJ := hid_of (joins_at a cap C loops gF cF gT cT g c x y l w hm hd hr)
  have HLA : Hid (∀ W, Below w.heap.size w W → Calls Try.prog 114 #[drV a cap C loops gF cF gT cT, .slice (some ⟨g, 0, none⟩) l.length c] W fun e w' => e = .returned (.bool (topB C l && botB C l)) ∧ Below W.heap.size W w') := fun W hW => by
    have hr2 := hr.on hW
    exact layered_any a cap C loops gF cF gT cT g l.length c l W hm (hd.on hW) hr2.1 rfl hr2.2.1 (fun j hj => (hr2.2.2 j hj).1) (fun j hj => (hr2.2.2 j hj).2)
  unfold jlB
  obtain ⟨J, hJ⟩ : ∃ J, (decide (l.length = 2) && ((decide (dC C (l.getD 0 0) = x) && decide (dC C (l.getD 1 0) = y)) || (decide (dC C (l.getD 0 0) = y) && decide (dC C (l.getD 1 0) = x)))) = J := ⟨_, rfl⟩
  rw [hJ] at HJ ⊢
  obtain ⟨T, hT⟩ : ∃ T, (topB C l && botB C l) = T := ⟨_, rfl⟩
  rw [hT] at HLA ⊢
  obtain ⟨n, hn⟩ : ∃ n, l.length = n := ⟨_, rfl⟩
  rw [hn] at HJ HLA ⊢
  have HBX : Hid (∀ W, Below w.heap.size w W → PbAt a cap C loops gF cF gT cT k ua va x y ub vb ov pb pm W ∧ pb < W.heap.size ∧ pm < W.heap.size) := fun W hW => by
    have l0 := (Array.getElem?_eq_some_iff.1 hp.1).1
    have l1 := (Array.getElem?_eq_some_iff.1 hp.2).1
    exact ⟨⟨(hW.block _ l0).trans hp.1, (hW.block _ l1).trans hp.2⟩, by have := hW.size; omega, by have := hW.size; omega⟩
  obtain ⟨⟨px, py⟩, pl, pl2⟩ := HBX.out w (Below.refl _ _)
  have pb0 : w.cell? ⟨pb, 0, none⟩ = some (.slice a C.length cap) := block_cell px rfl
  have pb1 : w.cell? ⟨pb, 1, none⟩ = some (.int .i64 loops) := block_cell px rfl
  have pb2 : w.cell? ⟨pb, 2, none⟩ = some (.slice (some ⟨gF, 0, none⟩) (2 * C.length + 1) cF) := block_cell px rfl
  have pb3 : w.cell? ⟨pb, 3, none⟩ = some (.slice (some ⟨gT, 0, none⟩) (2 * C.length + 1) cT) := block_cell px rfl
  have pm0 : w.cell? ⟨pm, 0, none⟩ = some (.int .i64 k) := block_cell py rfl
  have pm1 : w.cell? ⟨pm, 1, none⟩ = some (.int .i64 (x : Nat)) := block_cell py rfl
  have pm2 : w.cell? ⟨pm, 2, none⟩ = some (.int .i64 (y : Nat)) := block_cell py rfl
  have pm3 : w.cell? ⟨pm, 3, none⟩ = some (.int .i64 ua) := block_cell py rfl
  have pm4 : w.cell? ⟨pm, 4, none⟩ = some (.bool ub) := block_cell py rfl
  have pm5 : w.cell? ⟨pm, 5, none⟩ = some (.int .i64 va) := block_cell py rfl
  have pm6 : w.cell? ⟨pm, 6, none⟩ = some (.bool vb) := block_cell py rfl
  have pm7 : w.cell? ⟨pm, 7, none⟩ = some (.bool ov) := block_cell py rfl
  unfold drV at HJ HLA
  clear hJ hT hn hm hd hr hp px py
  cases J with
  | false =>
    go_enter Try.func112, Try.ntmps112
    go_wp2_with (go_at_call 113; refine HJ.out.mono ?_; rintro e9 w3 ⟨rfl, hb3⟩)
    go_ret
    exact ⟨rfl, hb3⟩
  | true =>
    go_enter Try.func112, Try.ntmps112
    go_wp2_with (first
      | (go_at_call 113; refine HJ.out.mono ?_; rintro e9 w3 ⟨rfl, hb3⟩
         have HB3 := hid_of hb3
         obtain ⟨⟨qx, qy⟩, ql, ql2⟩ := HBX.out w3 hb3
         have qb0 : w3.cell? ⟨pb, 0, none⟩ = some (.slice a C.length cap) := block_cell qx rfl
         have qb1 : w3.cell? ⟨pb, 1, none⟩ = some (.int .i64 loops) := block_cell qx rfl
         have qb2 : w3.cell? ⟨pb, 2, none⟩ = some (.slice (some ⟨gF, 0, none⟩) (2 * C.length + 1) cF) := block_cell qx rfl
         have qb3 : w3.cell? ⟨pb, 3, none⟩ = some (.slice (some ⟨gT, 0, none⟩) (2 * C.length + 1) cT) := block_cell qx rfl
         have qm0 : w3.cell? ⟨pm, 0, none⟩ = some (.int .i64 k) := block_cell qy rfl
         have qm1 : w3.cell? ⟨pm, 1, none⟩ = some (.int .i64 (x : Nat)) := block_cell qy rfl
         have qm2 : w3.cell? ⟨pm, 2, none⟩ = some (.int .i64 (y : Nat)) := block_cell qy rfl
         have qm3 : w3.cell? ⟨pm, 3, none⟩ = some (.int .i64 ua) := block_cell qy rfl
         have qm4 : w3.cell? ⟨pm, 4, none⟩ = some (.bool ub) := block_cell qy rfl
         have qm5 : w3.cell? ⟨pm, 5, none⟩ = some (.int .i64 va) := block_cell qy rfl
         have qm6 : w3.cell? ⟨pm, 6, none⟩ = some (.bool vb) := block_cell qy rfl
         have qm7 : w3.cell? ⟨pm, 7, none⟩ = some (.bool ov) := block_cell qy rfl
         clear hb3 qx qy)
      | (go_at_call 114; refine (HLA.out _ HB3.out).mono ?_; rintro e9 w4 ⟨rfl, hb4⟩
         have HB4 := hid_of (HB3.out.trans (hb4.mono HB3.out.size))
         clear hb4))
    go_ret
    exact ⟨rfl, HB4.out⟩

/-- Rings of darts, each of which may be read. -/
def RingsR (w : World) (v : Value) (C : List Cr) (L : List (List Nat)) : Prop := ∃ a cap, v = .slice a L.length cap ∧ (0 < L.length → ∃ b off, a = some ⟨b, off, none⟩ ∧ b < w.heap.size ∧ ∀ j, j < L.length → ∃ g c, w.cell? ⟨b, off + j, none⟩ = some (.slice (some ⟨g, 0, none⟩) (L.getD j []).length c) ∧ RingAt w g C (L.getD j []))
theorem RingsR.on {w w' : World} {v : Value} {C : List Cr} {L : List (List Nat)} (h : RingsR w v C L) (hb : Below w.heap.size w w') : RingsR w' v C L := by
  obtain ⟨a, cap, rfl, f⟩ := h
  refine ⟨a, cap, rfl, fun h0 => ?_⟩
  obtain ⟨b, off, rfl, hlt, hc⟩ := f h0
  refine ⟨b, off, rfl, Nat.lt_of_lt_of_le hlt hb.size, fun j hj => ?_⟩
  obtain ⟨g, c, h1, h2⟩ := hc j hj
  exact ⟨g, c, bcell hb hlt h1, h2.on hb⟩
theorem rings_read {w : World} {B : Nat} {v : Value} {C : List Cr} {loops : Int} (hm : mayD C loops = true) (h : DartsOwn w B v (facesM C)) : RingsR w v C (facesM C) := by
  have hf := facesM_facts hm
  have h16 := may_len hm
  obtain ⟨a, cap, rfl, f⟩ := h.rings (fun j hj => (hf.2 j hj).1)
  refine ⟨a, cap, rfl, fun h0 => ?_⟩
  obtain ⟨b, off, rfl, hlt, -, hc⟩ := f h0
  refine ⟨b, off, rfl, hlt, fun j hj => ?_⟩
  obtain ⟨g, c, h1, h2, -, h3⟩ := hc j hj
  have hj2 := hf.2 j hj
  exact ⟨g, c, h1, h2, by omega, fun k hk => ⟨hj2.2.2 k hk, h3 k hk⟩⟩

set_option maxHeartbeats 4000000 in
set_option maxRecDepth 100000 in
theorem indexRings_any (a : Option Addr) (cap : Nat) (C : List Cr) (loops : Int) (gF cF gT cT : Nat) (k ua va : Int) (x y : Nat) (ub vb ov : Bool) (pb pm : Nat) (v : Value) (L : List (List Nat)) (w : World) (hm : mayD C loops = true) (hd : Dr w a cap C gF gT) (hl : L.length ≤ 1000) (hr : RingsR w v C L) (hp : PbAt a cap C loops gF cF gT cT k ua va x y ub vb ov pb pm w) :
    Calls Try.prog 125 #[v, .func (.func 112) #[] #[.pointer (some ⟨pb, 0, none⟩), .pointer (some ⟨pm, 0, none⟩)]] w fun e w' => ∃ r : Int, e = .returned (.int .i64 r) ∧ decide (0 ≤ r) = L.any (jlB C x y) ∧ Below w.heap.size w w' := by
  have HR := hid_of hr
  have HIN : Hid (∀ (g c : Nat) (l : List Nat) (W : World), Below w.heap.size w W → RingAt W g C l → Calls Try.prog 112 #[.slice (some ⟨g, 0, none⟩) l.length c, .pointer (some ⟨pb, 0, none⟩), .pointer (some ⟨pm, 0, none⟩)] W fun e w' => e = .returned (.bool (jlB C x y l)) ∧ Below W.heap.size W w') := fun g c l W hW hrr =>
    pullIn_any a cap C loops gF cF gT cT k ua va x y ub vb ov pb pm g c l W hm (hd.on hW) hrr ⟨(hW.block _ (Array.getElem?_eq_some_iff.1 hp.1).1).trans hp.1, (hW.block _ (Array.getElem?_eq_some_iff.1 hp.2).1).trans hp.2⟩
  obtain ⟨av, cv, rfl, -⟩ := hr
  obtain ⟨m, hm2⟩ : ∃ m, L.length = m := ⟨_, rfl⟩
  have HM := hid_of hm2
  rw [hm2] at hl HR ⊢
  clear hm2 hm hd hp
  go_enter Try.func125, Try.ntmps125
  go_wp2
  go_loopw [8] (fun v8 wr => ∃ i : Nat, i ≤ m ∧ v8 = .int .i64 (i : Nat) ∧ Hid ((L.take i).any (jlB C x y) = false) ∧ Below w.heap.size w wr) (fun v8 _ => m - (intOf v8).toNat)
  case atStart => exact ⟨0, Nat.zero_le _, rfl, rfl, Below.refl _ _⟩
  case round =>
    obtain ⟨i, him, rfl, hno, hb⟩ := hrel
    by_cases hil : i < m
    · have hiI : (i : Int) < (m : Int) := by omega
      have hiL : i < L.length := by rw [HM.out]; exact hil
      obtain ⟨a0, c0, e0, f0⟩ := HR.out.on hb
      rw [HM.out] at e0
      injection e0 with e1 e2 e3
      obtain ⟨b, off, ea, hbw, hc⟩ := f0 (by omega)
      obtain ⟨g, c, h1, h2⟩ := hc i hiL
      have HX : Hid ((L.take (i + 1)).any (jlB C x y) = ((L.take i).any (jlB C x y) || jlB C x y (L.getD i []))) := (by rw [List.take_add_one, List.getElem?_eq_getElem hiL, List.any_append, List.getD_eq_getElem?_getD, List.getElem?_eq_getElem hiL]; simp : (L.take (i + 1)).any (jlB C x y) = _)
      have HS : Hid (jlB C x y (L.getD i []) = true → L.any (jlB C x y) = true) := fun q => List.any_eq_true.2 ⟨L.getD i [], by rw [List.getD_eq_getElem?_getD, List.getElem?_eq_getElem hiL]; exact List.getElem_mem hiL, q⟩
      have HN := hid_of (HIN.out g c (L.getD i []) wr hb h2)
      generalize L.getD i [] = l at h1 h2 HX HS HN
      obtain ⟨n, hn⟩ : ∃ n, l.length = n := ⟨_, rfl⟩
      rw [hn] at h1 HN
      have ea2 : av = some ⟨b, off, none⟩ := e1.trans ea
      subst ea2
      clear e1 e2 e3 ea hc h2 hn f0
      cases hb0 : jlB C x y l with
      | true =>
        have HA : Hid (L.any (jlB C x y) = true) := HS.out hb0
        rw [hb0] at HN
        clear hb0 HS HX
        go_wp2_with (go_at_call 112; refine HN.out.mono ?_; rintro e9 w9 ⟨rfl, hb9⟩; refine Hid.out ?_)
        refine Lib.hid ?_
        go_wp2
        go_ret
        exact ⟨_, rfl, by rw [HA.out]; exact decide_eq_true (by omega), hb.trans (hb9.mono hb.size)⟩
      | false =>
        have HA : Hid ((L.take (i + 1)).any (jlB C x y) = false) := (by rw [HX.out, hno.out, hb0]; rfl : (L.take (i + 1)).any (jlB C x y) = false)
        rw [hb0] at HN
        clear hb0 HS HX
        go_wp2_with (go_at_call 112; refine HN.out.mono ?_; rintro e9 w9 ⟨rfl, hb9⟩; refine Hid.out ?_)
        refine Lib.hid ?_
        go_wp2
        go_roundw
        case rel => exact ⟨i + 1, by omega, by go_num, HA.out, hb.trans (hb9.mono hb.size)⟩
        case measure => simp only [intOf]; omega
    · obtain rfl : i = m := by omega
      have HA : Hid (L.any (jlB C x y) = false) := (by have := hno.out; rw [← HM.out, List.take_length] at this; exact this : L.any (jlB C x y) = false)
      go_wp2
      go_ret
      exact ⟨_, rfl, by rw [HA.out]; rfl, hb⟩

set_option maxHeartbeats 4000000 in
set_option maxRecDepth 100000 in
theorem containsRings_any (a : Option Addr) (cap : Nat) (C : List Cr) (loops : Int) (gF cF gT cT : Nat) (k ua va : Int) (x y : Nat) (ub vb ov : Bool) (pb pm : Nat) (v : Value) (L : List (List Nat)) (w : World) (hm : mayD C loops = true) (hd : Dr w a cap C gF gT) (hl : L.length ≤ 1000) (hr : RingsR w v C L) (hp : PbAt a cap C loops gF cF gT cT k ua va x y ub vb ov pb pm w) :
    Calls Try.prog 111 #[v, .func (.func 112) #[] #[.pointer (some ⟨pb, 0, none⟩), .pointer (some ⟨pm, 0, none⟩)]] w fun e w' => e = .returned (.bool (L.any (jlB C x y))) ∧ Below w.heap.size w w' := by
  have HI := hid_of (indexRings_any a cap C loops gF cF gT cT k ua va x y ub vb ov pb pm v L w hm hd hl hr hp)
  obtain ⟨av, cv, rfl, -⟩ := hr
  generalize L.any (jlB C x y) = bb at HI ⊢
  generalize L.length = m at HI ⊢
  clear hm hd hp hl
  go_enter Try.func111, Try.ntmps111
  go_wp2_with (go_at_call 125; refine HI.out.mono ?_; rintro e9 w2 ⟨r, rfl, hr, hb2⟩; refine Hid.out ?_)
  refine Lib.hid ?_
  have HR := hid_of hr
  clear hr
  go_wp2
  go_ret
  exact ⟨by rw [← HR.out]; rfl, hb2⟩
end Go.Proofs.Ytagaajlbkfkaiaa

/- Several texts of the proof, one behind the other. -/
import Derived.Test.YtagaajlbkfkaiaaMV7P
import Derived.Test.YtagaajlbkfkaiaaF2P
import Derived.Deep.RegionHeld
import Derived.BigRegion
import Derived.Test.YtagaajlbkfkaiaaMV5P
import Derived.Test.YtagaajlbkfkaiaaME1P
import Derived.Test.YtagaajlbkfkaiaaMW1
import Derived.Test.YtagaajlbkfkaiaaME5P
import Derived.Test.YtagaajlbkfkaiaaW2P
import Derived.Test.YtagaajlbkfkaiaaF6P
/- Moves: the walk of bench.curled. Made by genmvc.py. -/
namespace Go.Proofs.Ytagaajlbkfkaiaa
open Go.RowKit

/-- Does an arc lead from a crossing to itself, from a place to one next to it? -/
def crlB (C : List Cr) (k x : Nat) : Bool := (decide (enC C x false = k) && decide (enC C x true = k)) && !decide ((enS C x false + 2) % 4 = enS C x true)
theorem eqSpot (a c b d : Int) (w : World) : (Op.equalIn 10000 120 (.agg #[.int .i64 a, .int .i64 b]) (.agg #[.int .i64 c, .int .i64 d])).run Try.prog w = .ok (a == c && b == d) w := by
  have u3 := Try.underlying3
  have a3 := Try.isAgg3
  have z3 := Try.sizeOf3
  have hS : Try.prog.underlying 120 = some (.struct (Try.prog.fieldsOf 120)) := by kernel_rfl
  have hp : Try.prog.stoodInHeld 120 = false := by kernel_rfl
  rw [show (10000 : Nat) = 9999 + 1 from rfl, run_equalIn_agg w 9999 120 _ _ hS hp]
  simp only [Program.fieldsOf, Try.underlying120]
  go_simp
  by_cases h1 : a = c <;> by_cases h2 : b = d <;> simp [h1, h2]
/-- The two boxes of spots. -/
structure CuAt (Z W : World) (cf sf ct st : Nat) (g6 g7 : Nat) : Prop where
  b6 : W.heap[g6]? = some (.cells #[.int .i64 (cf : Nat), .int .i64 (sf : Nat)] 120 (0, 0))
  b7 : W.heap[g7]? = some (.cells #[.int .i64 (ct : Nat), .int .i64 (st : Nat)] 120 (0, 0))
  ne : g6 ≠ g7
  bel : Below Z.heap.size Z W

set_option maxHeartbeats 8000000 in
set_option maxRecDepth 100000 in
theorem curled_any (a : Option Addr) (cap : Nat) (C : List Cr) (loops : Int) (gF cF gT cT : Nat) (k : Nat) (b : Bool) (w : World) (hm : mayD C loops = true) (hd : Dr w a cap C gF gT) (hb : b = true ↔ ∃ x, 1 ≤ x ∧ x ≤ 2 * C.length ∧ crlB C k x = true) :
    Calls Try.prog 108 #[drV a cap C loops gF cF gT cT, .int .i64 (k : Nat)] w fun e w' => e = .returned (.bool b) ∧ Below w.heap.size w w' := by
  have HD := hid_of hd
  have HM := hid_of hm
  have HB := hid_of hb
  have hl16 := may_len hm
  have HHA := hid_of (fun (z : Int) (W : World) => has_any a cap C loops gF cF gT cT z W hl16)
  unfold drV at HHA ⊢
  obtain ⟨V, hV⟩ : ∃ V, V = w.alloc (.cells #[.slice a C.length cap, .int .i64 loops, .slice (some ⟨gF, 0, none⟩) (2 * C.length + 1) cF, .slice (some ⟨gT, 0, none⟩) (2 * C.length + 1) cT] 63) := ⟨_, rfl⟩
  have HV := hid_of hV
  have HBV : Hid (Below w.heap.size w V) := (by rw [hV]; exact (Below.refl _ _).alloc (Nat.le_refl _) _)
  have HT0 : Hid (V.heap[w.heap.size]? = some (.cells #[.slice a C.length cap, .int .i64 loops, .slice (some ⟨gF, 0, none⟩) (2 * C.length + 1) cF, .slice (some ⟨gT, 0, none⟩) (2 * C.length + 1) cT] 63 (0, 0))) := (by rw [hV]; exact alloc_at rfl)
  have hsV : V.heap.size = w.heap.size + 1 := by rw [hV]; simp
  clear hV hd hm hb
  go_enter Try.func108, Try.ntmps108
  go_wp2
  rw [← HV.out]
  go_loopw [5] (fun v5 wr => ∃ x : Nat, 1 ≤ x ∧ x ≤ 2 * C.length + 1 ∧ v5 = .int .i64 (x : Nat) ∧ Hid (∀ y, 1 ≤ y → y < x → crlB C k y = false) ∧ Hid (Below V.heap.size V wr)) (fun v5 _ => 2 * C.length + 1 - (intOf v5).toNat)
  case atStart => exact ⟨1, by omega, by omega, rfl, (fun y h1 h2 => by omega), Below.refl _ _⟩
  case round =>
    rename World => W1
    obtain ⟨x, hx1, hx2, rfl, hN, hB⟩ := hrel
    have hsW := hB.out.size
    have HBW := hid_of hB.out
    have HN := hid_of hN.out
    have k0 := (HBW.out.block _ (by omega)).trans HT0.out
    have b0 : W1.cell? ⟨w.heap.size, 0, none⟩ = some (.slice a C.length cap) := block_cell k0 rfl
    have b1 : W1.cell? ⟨w.heap.size, 1, none⟩ = some (.int .i64 loops) := block_cell k0 rfl
    have b2 : W1.cell? ⟨w.heap.size, 2, none⟩ = some (.slice (some ⟨gF, 0, none⟩) (2 * C.length + 1) cF) := block_cell k0 rfl
    have b3 : W1.cell? ⟨w.heap.size, 3, none⟩ = some (.slice (some ⟨gT, 0, none⟩) (2 * C.length + 1) cT) := block_cell k0 rfl
    have lw : w.heap.size < W1.heap.size := by omega
    clear hN hB k0
    by_cases hxl : x ≤ 2 * C.length
    · have hh : hasB C (x : Nat) = true := by simp [hasB]; omega
      have HH := hid_of hh
      clear hh
      go_wp2_with (go_at_call 104; refine (HHA.out _ _).mono ?_; rw [HH.out]; rintro e9 Z ⟨rfl, hbZ⟩; refine Hid.out ?_)
      refine Lib.hid ?_
      have HBZ := hid_of hbZ
      have hsZ := hbZ.size
      have HZV : Hid (Below V.heap.size V Z) := HBW.out.trans (hbZ.mono (by omega))
      have hBA : Below w.heap.size w Z := HBV.out.trans (HZV.out.mono (by omega))
      have hDr := HD.out.on hBA
      have hen := hDr.endAt HM.out x (by omega) (by omega)
      have hes0 := (en_may HM.out x false (by omega) (by omega)).2.2.1
      obtain ⟨p, hp⟩ : ∃ p, crlB C k x = p := ⟨_, rfl⟩
      have HPX := hid_of hp
      unfold crlB at hp
      obtain ⟨cf, ef⟩ : ∃ q, enC C x false = q := ⟨_, rfl⟩
      obtain ⟨sf, fs⟩ : ∃ q, enS C x false = q := ⟨_, rfl⟩
      obtain ⟨ct, et⟩ : ∃ q, enC C x true = q := ⟨_, rfl⟩
      obtain ⟨st, ts⟩ : ∃ q, enS C x true = q := ⟨_, rfl⟩
      rw [ef, fs, et, ts] at hen hp
      rw [fs] at hes0
      have HPE := hid_of hp
      have HES := hid_of hes0
      have HEN := hid_of hen
      have hltT := hDr.ltT
      have hltF := hDr.ltF
      have hxi : ((x : Nat) : Int) < 2 * (C.length : Int) + 1 := by omega
      have hxn : x < 2 * C.length + 1 := by omega
      have HSV : Hid (∀ W, Below Z.heap.size Z W → (fun X : World => X.cell? ⟨w.heap.size, 2, none⟩ = some (.slice (some ⟨gF, 0, none⟩) (2 * C.length + 1) cF) ∧ X.cell? ⟨w.heap.size, 3, none⟩ = some (.slice (some ⟨gT, 0, none⟩) (2 * C.length + 1) cT) ∧ X.cell? ⟨gF, x * 2, none⟩ = some (.int .i64 (cf : Nat)) ∧ X.cell? ⟨gF, x * 2 + 1, none⟩ = some (.int .i64 (sf : Nat)) ∧ X.cell? ⟨gT, x * 2, none⟩ = some (.int .i64 (ct : Nat)) ∧ X.cell? ⟨gT, x * 2 + 1, none⟩ = some (.int .i64 (st : Nat))) W) := fun W hW => by
        have k0 := (hW.block _ (by omega)).trans ((HZV.out.block _ (by omega)).trans HT0.out)
        obtain ⟨q1, q2, q3, q4⟩ := HEN.out
        exact ⟨block_cell k0 rfl, block_cell k0 rfl, bcell hW hltF q3, bcell hW hltF q4, bcell hW hltT q1, bcell hW hltT q2⟩
      have HDZ : Hid (Below Z.heap.size Z Z.drew) := (Below.refl _ _).drew
      have HI0 : Hid (CuAt Z ((Z.alloc (.cells #[.int .i64 (cf : Nat), .int .i64 (sf : Nat)] 120)).alloc (.cells #[.int .i64 (ct : Nat), .int .i64 (st : Nat)] 120)).drew cf sf ct st Z.heap.size (Z.heap.size + 1)) := ⟨alloc_old (alloc_at rfl), alloc_at (by simp), by omega, (below2 _ _ _).drew⟩
      have HI1 : Hid (CuAt Z ((Z.alloc (.cells #[.int .i64 (ct : Nat), .int .i64 (st : Nat)] 120)).alloc (.cells #[.int .i64 (cf : Nat), .int .i64 (sf : Nat)] 120)).drew cf sf ct st (Z.heap.size + 1) Z.heap.size) := ⟨alloc_at (by simp), alloc_old (alloc_at rfl), by omega, (below2 _ _ _).drew⟩
      clear hbZ hDr hen hes0 hp ef fs et ts hBA b0 b1 b2 b3
      go_wp2
      apply cut_one
      case h =>
        intro key
        refine wp_region_held_drew (S := fun X : World => X.cell? ⟨w.heap.size, 2, none⟩ = some (.slice (some ⟨gF, 0, none⟩) (2 * C.length + 1) cF) ∧ X.cell? ⟨w.heap.size, 3, none⟩ = some (.slice (some ⟨gT, 0, none⟩) (2 * C.length + 1) cT) ∧ X.cell? ⟨gF, x * 2, none⟩ = some (.int .i64 (cf : Nat)) ∧ X.cell? ⟨gF, x * 2 + 1, none⟩ = some (.int .i64 (sf : Nat)) ∧ X.cell? ⟨gT, x * 2, none⟩ = some (.int .i64 (ct : Nat)) ∧ X.cell? ⟨gT, x * 2 + 1, none⟩ = some (.int .i64 (st : Nat))) (by kernel_rfl) (HSV.out _ HDZ.out) (fun hHeld => ?_)
        refine wpAnyH_take (i := 0) (v := ?vvu1) rfl (by kernel_rfl) (by kernel_rfl) (by kernel_rfl) (fun _ _ _ h => h) (Or.inl ⟨by rfl, ?yyu1⟩) (by assumption) ?rru1
        case yyu1 => (intro w hSw; (try dsimp only at hSw); go_simp; (try with_reducible rfl))
        try simp only [Act.put]
        refine wpAnyH_take (i := 1) (v := ?vvu2) rfl (by kernel_rfl) (by kernel_rfl) (by kernel_rfl) (fun _ _ _ h => h) (Or.inl ⟨by rfl, ?yyu2⟩) (by assumption) ?rru2
        case yyu2 => (intro w hSw; (try dsimp only at hSw); go_simp; (try with_reducible rfl))
        try simp only [Act.put]
        refine wpAnyH_take (i := 2) (v := ?vvu3) rfl (by kernel_rfl) (by kernel_rfl) (by kernel_rfl) (fun _ _ _ h => h) (Or.inl ⟨by rfl, ?yyu3⟩) (by assumption) ?rru3
        case yyu3 => (intro w hSw; (try dsimp only at hSw); go_simp; (try with_reducible rfl))
        try simp only [Act.put]
        refine wpAnyH_take (i := 3) (v := ?vvu4) rfl (by kernel_rfl) (by kernel_rfl) (by kernel_rfl) (fun _ _ _ h => h) (Or.inl ⟨by rfl, ?yyu4⟩) (by assumption) ?rru4
        case yyu4 => (intro w hSw; (try dsimp only at hSw); go_simp; (try with_reducible rfl))
        try simp only [Act.put]
        refine wpAnyH_take (i := 4) (v := ?vvu5) rfl (by kernel_rfl) (by kernel_rfl) (by kernel_rfl) (fun _ _ _ h => h) (Or.inl ⟨by rfl, ?yyu5⟩) (by assumption) ?rru5
        case yyu5 => (intro w hSw; (try dsimp only at hSw); go_simp; (try with_reducible rfl))
        try simp only [Act.put]
        refine wpAnyH_take (i := 5) (v := ?vvu6) rfl (by kernel_rfl) (by kernel_rfl) (by kernel_rfl) (fun _ _ _ h => h) (Or.inl ⟨by rfl, ?yyu6⟩) (by assumption) ?rru6
        case yyu6 => (intro w hSw; (try dsimp only at hSw); go_simp; (try with_reducible rfl))
        try simp only [Act.put]
        refine wpAnyH_take (i := 6) (v := ?vvu7) rfl (by kernel_rfl) (by kernel_rfl) (by kernel_rfl) (fun _ _ _ h => h) (Or.inl ⟨by rfl, ?yyu7⟩) (by assumption) ?rru7
        case yyu7 => (intro w hSw; (try dsimp only at hSw); go_simp; (try with_reducible rfl))
        try simp only [Act.put]
        refine wpAnyH_take (i := 7) (v := ?vvu8) rfl (by kernel_rfl) (by kernel_rfl) (by kernel_rfl) (fun _ _ _ h => h) (Or.inl ⟨by rfl, ?yyu8⟩) (by assumption) ?rru8
        case yyu8 => (intro w hSw; (try dsimp only at hSw); go_simp; (try with_reducible rfl))
        try simp only [Act.put]
        refine wpAnyH_take (i := 8) (v := ?vvu9) rfl (by kernel_rfl) (by kernel_rfl) (by kernel_rfl) (fun _ _ _ h => h) (Or.inl ⟨by rfl, ?yyu9⟩) (by assumption) ?rru9
        case yyu9 => (intro w hSw; (try dsimp only at hSw); go_simp; (try with_reducible rfl))
        try simp only [Act.put]
        refine wpAnyH_take (i := 9) (v := ?vvu10) rfl (by kernel_rfl) (by kernel_rfl) (by kernel_rfl) (fun _ _ _ h => h) (Or.inl ⟨by rfl, ?yyu10⟩) (by assumption) ?rru10
        case yyu10 => (intro w hSw; (try dsimp only at hSw); go_simp; (try with_reducible rfl))
        try simp only [Act.put]
        refine wpAnyH_take (i := 10) (v := ?vvu11) rfl (by kernel_rfl) (by kernel_rfl) (by kernel_rfl) (fun _ _ _ h => h) (Or.inl ⟨by rfl, ?yyu11⟩) (by assumption) ?rru11
        case yyu11 => (intro w hSw; (try dsimp only at hSw); go_simp; (try with_reducible rfl))
        try simp only [Act.put]
        refine wpAnyH_take (i := 11) (v := ?vvu12) rfl (by kernel_rfl) (by kernel_rfl) (by kernel_rfl) (fun _ _ _ h => h) (Or.inl ⟨by rfl, ?yyu12⟩) (by assumption) ?rru12
        case yyu12 => (intro w hSw; (try dsimp only at hSw); go_simp; (try with_reducible rfl))
        try simp only [Act.put]
        refine wpAnyH_ready (rs := [12, 13]) (by kernel_rfl) (by simp) ?_
        refine AllReadyH.cons rfl (fun K hK => ?_) (AllReadyH.cons rfl (fun K hK => ?_) AllReadyH.nil)
        · go_simp
          refine hK.out _ _ (HSV.out _ ((Below.refl _ _).alloc (Nat.le_refl _) _).drew) (fun hHeld => ?_)
          clear hK K
          try simp only [Act.put]
          refine wpAnyH_ready (rs := [13]) (by kernel_rfl) (by simp) ?_
          refine AllReadyH.cons rfl (fun K hK => ?_) AllReadyH.nil
          go_simp
          refine hK.out _ _ (HSV.out _ (below2 _ _ _).drew) (fun hHeld => ?_)
          clear hK K
          try simp only [Act.put]
          refine wpAnyH_ready (rs := [14]) (by kernel_rfl) (by simp) ?_
          refine AllReadyH.cons rfl (fun K hK => ?_) AllReadyH.nil
          go_simp
          refine hK.out _ _ (HSV.out _ (below2 _ _ _).drew) (fun hHeld => ?_)
          clear hK K
          try simp only [Act.put]
          refine wpAnyH_ready (rs := [15]) (by kernel_rfl) (by simp) ?_
          refine AllReadyH.cons rfl (fun K hK => ?_) AllReadyH.nil
          go_simp
          refine hK.out _ _ (HSV.out _ (below2 _ _ _).drew) (fun hHeld => ?_)
          clear hK K
          try simp only [Act.put]
          refine wpAnyH_done (by kernel_rfl) ?_ _
          have hA := HI0
          revert hA
          generalize ((Z.alloc (.cells #[.int .i64 (cf : Nat), .int .i64 (sf : Nat)] 120)).alloc (.cells #[.int .i64 (ct : Nat), .int .i64 (st : Nat)] 120)).drew = Wz
          generalize Z.heap.size + 1 = g7
          generalize Z.heap.size = g6
          revert Wz g7 g6
          exact key.out
        · go_simp
          refine hK.out _ _ (HSV.out _ ((Below.refl _ _).alloc (Nat.le_refl _) _).drew) (fun hHeld => ?_)
          clear hK K
          try simp only [Act.put]
          refine wpAnyH_ready (rs := [12]) (by kernel_rfl) (by simp) ?_
          refine AllReadyH.cons rfl (fun K hK => ?_) AllReadyH.nil
          go_simp
          refine hK.out _ _ (HSV.out _ (below2 _ _ _).drew) (fun hHeld => ?_)
          clear hK K
          try simp only [Act.put]
          refine wpAnyH_ready (rs := [14]) (by kernel_rfl) (by simp) ?_
          refine AllReadyH.cons rfl (fun K hK => ?_) AllReadyH.nil
          go_simp
          refine hK.out _ _ (HSV.out _ (below2 _ _ _).drew) (fun hHeld => ?_)
          clear hK K
          try simp only [Act.put]
          refine wpAnyH_ready (rs := [15]) (by kernel_rfl) (by simp) ?_
          refine AllReadyH.cons rfl (fun K hK => ?_) AllReadyH.nil
          go_simp
          refine hK.out _ _ (HSV.out _ (below2 _ _ _).drew) (fun hHeld => ?_)
          clear hK K
          try simp only [Act.put]
          refine wpAnyH_done (by kernel_rfl) ?_ _
          exact key.out _ _ _ HI1
      intro W4 g7 g6 HC4
      clear HI0 HI1 HSV HEN HDZ
      have HXB : Hid (Below V.heap.size V W4) := HZV.out.trans (HC4.out.bel.mono (by omega))
      have c0 : W4.cell? ⟨g6, 0, none⟩ = some (.int .i64 (cf : Nat)) := block_cell HC4.out.b6 rfl
      have c1 : W4.cell? ⟨g6, 1, none⟩ = some (.int .i64 (sf : Nat)) := block_cell HC4.out.b6 rfl
      have c2 : W4.cell? ⟨g7, 0, none⟩ = some (.int .i64 (ct : Nat)) := block_cell HC4.out.b7 rfl
      have c3 : W4.cell? ⟨g7, 1, none⟩ = some (.int .i64 (st : Nat)) := block_cell HC4.out.b7 rfl
      have l6 : g6 < W4.heap.size := (Array.getElem?_eq_some_iff.1 HC4.out.b6).1
      have l7 : g7 < W4.heap.size := (Array.getElem?_eq_some_iff.1 HC4.out.b7).1
      have HNN : Hid (p = false → ∀ y, 1 ≤ y → y < x + 1 → crlB C k y = false) := fun hp y h1 h2 => by
        by_cases e : y = x
        · rw [e, HPX.out, hp]
        · exact HN.out y h1 (by omega)
      by_cases h1 : cf = k
      · by_cases h2 : ct = k
        · have d1 : (((cf : Nat) : Int) == ((k : Nat) : Int)) = true := by simp [h1]
          have d2 : (((ct : Nat) : Int) == ((k : Nat) : Int)) = true := by simp [h2]
          have d3 : decide (((cf : Nat) : Int) = ((k : Nat) : Int)) = true := by simp [h1]
          have d4 : decide (((ct : Nat) : Int) = ((k : Nat) : Int)) = true := by simp [h2]
          have d5 : (cf == k) = true := by simp [h1]
          have d6 : (ct == k) = true := by simp [h2]
          have d7 : decide (cf = k) = true := by simp [h1]
          have d8 : decide (ct = k) = true := by simp [h2]
          obtain ⟨s2, hs2⟩ : ∃ s2, (sf + 2) % 4 = s2 := ⟨_, rfl⟩
          have HAC := hid_of (fun W => across_any (cf : Int) sf W HES.out)
          rw [hs2] at HAC
          have HSV : Hid (∀ W, Below W4.heap.size W4 W → (fun X : World => X.cell? ⟨g6, 0, none⟩ = some (.int .i64 (cf : Nat)) ∧ X.cell? ⟨g6, 1, none⟩ = some (.int .i64 (sf : Nat)) ∧ X.cell? ⟨g7, 0, none⟩ = some (.int .i64 (ct : Nat)) ∧ X.cell? ⟨g7, 1, none⟩ = some (.int .i64 (st : Nat))) W) := fun W hW => by
            have q6 := (hW.block _ l6).trans HC4.out.b6
            have q7 := (hW.block _ l7).trans HC4.out.b7
            exact ⟨block_cell q6 rfl, block_cell q6 rfl, block_cell q7 rfl, block_cell q7 rfl⟩
          have HD4 : Hid (Below W4.heap.size W4 W4.drew) := (Below.refl _ _).drew
          by_cases h3 : s2 = st
          · have HP := hid_of (show p = false by rw [← HPE.out, hs2]; simp [h3])
            have hq : ∀ W, (Op.equalIn 10000 120 (.agg #[.int .i64 (cf : Nat), .int .i64 (s2 : Nat)]) (.agg #[.int .i64 (ct : Nat), .int .i64 (st : Nat)])).run Try.prog W = .ok true W := fun W => by rw [eqSpot]; simp [h1, h2, h3]
            clear h1 h2 h3 hs2
            go_wp2
            go_region_with (go_at_call 116; refine (HAC.out _).mono ?_; rintro e9 w5 ⟨rfl, hb5⟩; have B5 : Hid (Below W4.heap.size W4 w5) := HD4.out.trans (hb5.mono HD4.out.size); obtain ⟨r0, r1, r2, r3⟩ := HSV.out w5 B5.out; clear hb5)
            all_goals
              go_wp2
              go_roundw
              case rel => exact ⟨x + 1, by omega, by omega, by go_num, HNN.out HP.out, HXB.out.trans ((B5.out.trans (by first | exact Below.refl _ _ | exact (Below.refl _ _).drew)).mono (by have := HXB.out.size; omega))⟩
              case measure => simp only [intOf]; omega
          · have HP := hid_of (show p = true by rw [← HPE.out, hs2]; simp [h1, h2, h3])
            have hq : ∀ W, (Op.equalIn 10000 120 (.agg #[.int .i64 (cf : Nat), .int .i64 (s2 : Nat)]) (.agg #[.int .i64 (ct : Nat), .int .i64 (st : Nat)])).run Try.prog W = .ok false W := fun W => by rw [eqSpot]; simp [h1, h2]; omega
            have HF : Hid (b = true) := HB.out.2 ⟨x, hx1, hxl, HPX.out.trans HP.out⟩
            clear h1 h2 h3 hs2
            go_wp2
            go_region_with (go_at_call 116; refine (HAC.out _).mono ?_; rintro e9 w5 ⟨rfl, hb5⟩; have B5 : Hid (Below W4.heap.size W4 w5) := HD4.out.trans (hb5.mono HD4.out.size); obtain ⟨r0, r1, r2, r3⟩ := HSV.out w5 B5.out; clear hb5)
            all_goals
              have HBF := hid_of (HBV.out.trans ((HXB.out.trans (B5.out.mono (by have := HXB.out.size; omega))).mono (by omega)))
              go_wp2
              go_ret
              exact ⟨ret_bool HF.out, HBF.out⟩
        · have HP := hid_of (show p = false by rw [← HPE.out]; simp [h2])
          have d1 : (((cf : Nat) : Int) == ((k : Nat) : Int)) = true := by simp [h1]
          have d2 : (((ct : Nat) : Int) == ((k : Nat) : Int)) = false := by simp; omega
          clear h1 h2
          go_wp2
          go_big_region
          go_wp2
          go_roundw
          case rel => exact ⟨x + 1, by omega, by omega, by go_num, HNN.out HP.out, HXB.out.drew⟩
          case measure => simp only [intOf]; omega
      · have HP := hid_of (show p = false by rw [← HPE.out]; simp [h1])
        have d1 : (((cf : Nat) : Int) == ((k : Nat) : Int)) = false := by simp; omega
        clear h1
        go_wp2
        go_big_region
        go_wp2
        go_roundw
        case rel => exact ⟨x + 1, by omega, by omega, by go_num, HNN.out HP.out, HXB.out.drew⟩
        case measure => simp only [intOf]; omega
    · have HXE := hid_of (show x = 2 * C.length + 1 by omega)
      have hh : hasB C (x : Nat) = false := by simp [hasB]; omega
      have HH := hid_of hh
      have HF : Hid (b = false) := (by
        cases hb : b with
        | false => rfl
        | true =>
          obtain ⟨y, h1, h2, h3⟩ := HB.out.1 hb
          have := HN.out y h1 (by have := HXE.out; omega)
          rw [h3] at this
          cases this)
      clear hh
      go_wp2_with (go_at_call 104; refine (HHA.out _ _).mono ?_; rw [HH.out]; rintro e9 Z ⟨rfl, hbZ⟩; have HZB := hid_of (HBV.out.trans ((HBW.out.trans (hbZ.mono (by omega))).mono (by omega))); clear hbZ)
      go_ret
      exact ⟨ret_bool HF.out, HZB.out⟩
end Go.Proofs.Ytagaajlbkfkaiaa
/- Moves: the walk of bench.uncurl. Made by genmw2.py. -/
namespace Go.Proofs.Ytagaajlbkfkaiaa
open Go.RowKit

/-- Can the crossing be uncurled? -/
def cuB (C : List Cr) (k : Nat) : Bool := (List.range (2 * C.length + 1)).any fun x => decide (1 ≤ x) && crlB C k x
theorem cuB_iff (C : List Cr) (k : Nat) : cuB C k = true ↔ ∃ x, 1 ≤ x ∧ x ≤ 2 * C.length ∧ crlB C k x = true := by
  unfold cuB
  rw [List.any_eq_true]
  constructor
  · rintro ⟨x, h1, h2⟩
    rw [Bool.and_eq_true, decide_eq_true_eq] at h2
    exact ⟨x, h2.1, by have := List.mem_range.1 h1; omega, h2.2⟩
  · rintro ⟨x, h1, h2, h3⟩
    exact ⟨x, List.mem_range.2 (by omega), by rw [h3, decide_eq_true h1]; rfl⟩
theorem curled_is (a : Option Addr) (cap : Nat) (C : List Cr) (loops : Int) (gF cF gT cT : Nat) (k : Nat) (w : World) (hm : mayD C loops = true) (hd : Dr w a cap C gF gT) :
    Calls Try.prog 108 #[drV a cap C loops gF cF gT cT, .int .i64 (k : Nat)] w fun e w' => e = .returned (.bool (cuB C k)) ∧ Below w.heap.size w w' := curled_any a cap C loops gF cF gT cT k (cuB C k) w hm hd (cuB_iff C k)

set_option maxHeartbeats 4000000 in
set_option maxRecDepth 100000 in
theorem uncurl_no2 (a : Option Addr) (cap : Nat) (C : List Cr) (loops : Int) (gF cF gT cT : Nat) (k y ua va : Int) (x : Nat) (ub vb ov : Bool) (w : World) (hm : mayD C loops = true) (hd : Dr w a cap C gF gT) (hx : x < C.length) (h : cuB C x = false) :
    Calls Try.prog 89 #[drV a cap C loops gF cF gT cT, mvV k (x : Nat) y ua ub va vb ov] w fun e w' => e = .panicked (gaveUp 8) ∧ Below w.heap.size w w' := by
  unfold mvV
  obtain ⟨Y, hY, hBY, hTY, hsY⟩ := bm_ex w a cap C loops gF cF gT cT k (x : Nat) y ua va ub vb ov
  have HBY := hid_of hBY
  have HCE := hid_of (bm_ce hTY)
  clear hBY hTY
  have HHC := hid_of (hasCross_any a cap C loops gF cF gT cT (x : Nat) Y)
  have hc : crB C (x : Nat) = true := by unfold crB; simp; omega
  rw [hc] at HHC
  have HCU : Hid (∀ W, Below Y.heap.size Y W → Calls Try.prog 108 #[drV a cap C loops gF cF gT cT, .int .i64 (x : Nat)] W fun e w' => e = .returned (.bool false) ∧ Below W.heap.size W w') := fun W hW => by
    have := curled_is a cap C loops gF cF gT cT x W hm (hd.on (HBY.out.trans (hW.mono (by omega))))
    rw [h] at this
    exact this
  unfold drV at HHC HCU ⊢
  obtain ⟨pl0, pl1, pl2, pb0, pb1, pb2, pb3, pm0, pm1, pm2, pm3, pm4, pm5, pm6, pm7, pr0, pr1, pf0, pf1⟩ := bm_cells (HCE.out Y (Below.refl _ _))
  have pZ := hid_of (HCE.out Y (Below.refl _ _)).1.2.2
  clear h hc hm hd
  go_enter Try.func89, Try.ntmps89
  go_upto_region 2 with (first
    | (go_at_call 41; refine (need_ok 3 _).mono ?_; rintro e9 w4 ⟨rfl, e4⟩; obtain rfl := e4.symm)
    | (go_at_call 107; refine HHC.out.mono ?_; rintro e9 w3 ⟨rfl, hb3⟩
       have HB3 := hid_of hb3
       obtain ⟨ql0, ql1, ql2, qb0, qb1, qb2, qb3, qm0, qm1, qm2, qm3, qm4, qm5, qm6, qm7, qr0, qr1, qf0, qf1⟩ := bm_cells (HCE.out w3 (hb3))
       have qZ := hid_of (HCE.out w3 (hb3)).1.2.2
       clear hb3))
  go_wp2_with (first
    | (go_at_call 41; refine (need_no 8 _).mono ?_; rintro e9 w4 ⟨rfl, e4⟩; obtain rfl := e4.symm)
    | (go_at_call 108; refine (HCU.out _ HB3.out).mono ?_; rintro e9 w5 ⟨rfl, hb5⟩
       have HB5 := hid_of (HB3.out.trans (hb5.mono HB3.out.size))
       clear hb5))
  exact ⟨rfl, rfl, HBY.out.trans (HB5.out.mono (by omega))⟩

set_option maxHeartbeats 4000000 in
set_option maxRecDepth 100000 in
theorem uncurl_no3 (a : Option Addr) (cap : Nat) (C : List Cr) (loops : Int) (gF cF gT cT : Nat) (k y ua va : Int) (x : Nat) (ub vb ov : Bool) (w : World) (hm : mayD C loops = true) (hd : Dr w a cap C gF gT) (hx : x < C.length) (h : cuB C x = true) (hL : 16 < takL C loops [x]) :
    Calls Try.prog 89 #[drV a cap C loops gF cF gT cT, mvV k (x : Nat) y ua ub va vb ov] w fun e w' => e = .panicked (gaveUp 2) ∧ Below w.heap.size w w' := by
  unfold mvV
  obtain ⟨Y, hY, hBY, hTY, hsY⟩ := bm_ex w a cap C loops gF cF gT cT k (x : Nat) y ua va ub vb ov
  have HBY := hid_of hBY
  have HCE := hid_of (bm_ce hTY)
  clear hBY hTY
  have HHC := hid_of (hasCross_any a cap C loops gF cF gT cT (x : Nat) Y)
  have hc : crB C (x : Nat) = true := by unfold crB; simp; omega
  rw [hc] at HHC
  have HCU : Hid (∀ W, Below Y.heap.size Y W → Calls Try.prog 108 #[drV a cap C loops gF cF gT cT, .int .i64 (x : Nat)] W fun e w' => e = .returned (.bool true) ∧ Below W.heap.size W w') := fun W hW => by
    have := curled_is a cap C loops gF cF gT cT x W hm (hd.on (HBY.out.trans (hW.mono (by omega))))
    rw [h] at this
    exact this
  have HWI : Hid (∀ (W : World) (g cG : Nat), Below Y.heap.size Y W → GonAt W g [x] → Calls Try.prog 109 #[drV a cap C loops gF cF gT cT, .slice (some ⟨g, 0, none⟩) 1 cG] W fun e w' => e = .panicked (gaveUp 2) ∧ Below W.heap.size W w') := fun W g cG hW hg => by
    have := without_no a cap C loops gF cF gT cT g cG [x] W hm (hd.on (HBY.out.trans (hW.mono (by omega)))) (by simp) hg hL
    exact this
  unfold drV at HHC HCU HWI ⊢
  obtain ⟨pl0, pl1, pl2, pb0, pb1, pb2, pb3, pm0, pm1, pm2, pm3, pm4, pm5, pm6, pm7, pr0, pr1, pf0, pf1⟩ := bm_cells (HCE.out Y (Below.refl _ _))
  have pZ := hid_of (HCE.out Y (Below.refl _ _)).1.2.2
  clear h hc hm hd hL
  go_enter Try.func89, Try.ntmps89
  go_upto_region 2 with (first
    | (go_at_call 41; refine (need_ok 3 _).mono ?_; rintro e9 w4 ⟨rfl, e4⟩; obtain rfl := e4.symm)
    | (go_at_call 107; refine HHC.out.mono ?_; rintro e9 w3 ⟨rfl, hb3⟩
       have HB3 := hid_of hb3
       obtain ⟨ql0, ql1, ql2, qb0, qb1, qb2, qb3, qm0, qm1, qm2, qm3, qm4, qm5, qm6, qm7, qr0, qr1, qf0, qf1⟩ := bm_cells (HCE.out w3 (hb3))
       have qZ := hid_of (HCE.out w3 (hb3)).1.2.2
       clear hb3))
  go_upto_region 3 with (first
    | (go_at_call 41; refine (need_ok 8 _).mono ?_; rintro e9 w4 ⟨rfl, e4⟩; obtain rfl := e4.symm)
    | (go_at_call 108; refine (HCU.out _ HB3.out).mono ?_; rintro e9 w5 ⟨rfl, hb5⟩
       have HB5 := hid_of (HB3.out.trans (hb5.mono HB3.out.size))
       obtain ⟨sl0, sl1, sl2, sb0, sb1, sb2, sb3, sm0, sm1, sm2, sm3, sm4, sm5, sm6, sm7, sr0, sr1, sf0, sf1⟩ := bm_cells (HCE.out w5 (HB5.out))
       have sZ := hid_of (HCE.out w5 (HB5.out)).1.2.2
       clear hb5))
  have hs5 := HB5.out.size
  have HG6 : Hid (GonAt (w5.alloc (.cells #[.int .i64 (x : Nat)] 3)) w5.heap.size [x]) := ⟨by simp, fun i hi => by
    obtain rfl : i = 0 := by simpa using hi
    exact block_cell (alloc_at rfl) rfl⟩
  have HB6 : Hid (Below Y.heap.size Y (w5.alloc (.cells #[.int .i64 (x : Nat)] 3))) := HB5.out.alloc hs5 _
  go_wp2_with (go_at_call 109; refine (HWI.out _ _ _ HB6.out HG6.out).mono ?_; rintro e9 w7 ⟨rfl, hb7⟩)
  exact ⟨rfl, rfl, HBY.out.trans ((HB6.out.trans (hb7.mono HB6.out.size)).mono (by omega))⟩

set_option maxHeartbeats 4000000 in
set_option maxRecDepth 100000 in
theorem uncurl_yes (a : Option Addr) (cap : Nat) (C : List Cr) (loops : Int) (gF cF gT cT : Nat) (k y ua va : Int) (x : Nat) (ub vb ov : Bool) (w : World) (hm : mayD C loops = true) (hd : Dr w a cap C gF gT) (hx : x < C.length) (h : cuB C x = true) (hL : takL C loops [x] ≤ 16) :
    Calls Try.prog 89 #[drV a cap C loops gF cF gT cT, mvV k (x : Nat) y ua ub va vb ov] w fun e w' => ∃ a2 c2, e = .returned (.agg #[.slice a2 (takC C [x]).length c2, .int .i64 (takL C loops [x])]) ∧ w'.ownsRow w.heap.size 71 5 (.slice a2 (takC C [x]).length c2) (takC C [x]).length (crossCells (takC C [x])) ∧ Below w.heap.size w w' := by
  unfold mvV
  obtain ⟨Y, hY, hBY, hTY, hsY⟩ := bm_ex w a cap C loops gF cF gT cT k (x : Nat) y ua va ub vb ov
  have HBY := hid_of hBY
  have HCE := hid_of (bm_ce hTY)
  clear hBY hTY
  have HHC := hid_of (hasCross_any a cap C loops gF cF gT cT (x : Nat) Y)
  have hc : crB C (x : Nat) = true := by unfold crB; simp; omega
  rw [hc] at HHC
  have HCU : Hid (∀ W, Below Y.heap.size Y W → Calls Try.prog 108 #[drV a cap C loops gF cF gT cT, .int .i64 (x : Nat)] W fun e w' => e = .returned (.bool true) ∧ Below W.heap.size W w') := fun W hW => by
    have := curled_is a cap C loops gF cF gT cT x W hm (hd.on (HBY.out.trans (hW.mono (by omega))))
    rw [h] at this
    exact this
  obtain ⟨D, hD⟩ : ∃ D, takC C [x] = D := ⟨_, rfl⟩
  obtain ⟨lo, hlo⟩ : ∃ l, takL C loops [x] = l := ⟨_, rfl⟩
  have HWI : Hid (∀ (W : World) (g cG : Nat), Below Y.heap.size Y W → GonAt W g [x] → Calls Try.prog 109 #[drV a cap C loops gF cF gT cT, .slice (some ⟨g, 0, none⟩) 1 cG] W fun e w' => ∃ a2 c2, e = .returned (.agg #[.slice a2 D.length c2, .int .i64 lo]) ∧ w'.ownsRow W.heap.size 71 5 (.slice a2 D.length c2) D.length (crossCells D) ∧ Below W.heap.size W w') := fun W g cG hW hg => by
    have := without_yes a cap C loops gF cF gT cT g cG [x] W hm (hd.on (HBY.out.trans (hW.mono (by omega)))) (by simp) hg hL
    rw [hD, hlo] at this
    exact this
  rw [hD, hlo]
  unfold drV at HHC HCU HWI ⊢
  obtain ⟨pl0, pl1, pl2, pb0, pb1, pb2, pb3, pm0, pm1, pm2, pm3, pm4, pm5, pm6, pm7, pr0, pr1, pf0, pf1⟩ := bm_cells (HCE.out Y (Below.refl _ _))
  have pZ := hid_of (HCE.out Y (Below.refl _ _)).1.2.2
  clear h hc hm hd hL
  go_enter Try.func89, Try.ntmps89
  go_upto_region 2 with (first
    | (go_at_call 41; refine (need_ok 3 _).mono ?_; rintro e9 w4 ⟨rfl, e4⟩; obtain rfl := e4.symm)
    | (go_at_call 107; refine HHC.out.mono ?_; rintro e9 w3 ⟨rfl, hb3⟩
       have HB3 := hid_of hb3
       obtain ⟨ql0, ql1, ql2, qb0, qb1, qb2, qb3, qm0, qm1, qm2, qm3, qm4, qm5, qm6, qm7, qr0, qr1, qf0, qf1⟩ := bm_cells (HCE.out w3 (hb3))
       have qZ := hid_of (HCE.out w3 (hb3)).1.2.2
       clear hb3))
  go_upto_region 3 with (first
    | (go_at_call 41; refine (need_ok 8 _).mono ?_; rintro e9 w4 ⟨rfl, e4⟩; obtain rfl := e4.symm)
    | (go_at_call 108; refine (HCU.out _ HB3.out).mono ?_; rintro e9 w5 ⟨rfl, hb5⟩
       have HB5 := hid_of (HB3.out.trans (hb5.mono HB3.out.size))
       obtain ⟨sl0, sl1, sl2, sb0, sb1, sb2, sb3, sm0, sm1, sm2, sm3, sm4, sm5, sm6, sm7, sr0, sr1, sf0, sf1⟩ := bm_cells (HCE.out w5 (HB5.out))
       have sZ := hid_of (HCE.out w5 (HB5.out)).1.2.2
       clear hb5))
  have hs5 := HB5.out.size
  have HG6 : Hid (GonAt (w5.alloc (.cells #[.int .i64 (x : Nat)] 3)) w5.heap.size [x]) := ⟨by simp, fun i hi => by
    obtain rfl : i = 0 := by simpa using hi
    exact block_cell (alloc_at rfl) rfl⟩
  have HB6 : Hid (Below Y.heap.size Y (w5.alloc (.cells #[.int .i64 (x : Nat)] 3))) := HB5.out.alloc hs5 _
  go_wp2_with (go_at_call 109; refine (HWI.out _ _ _ HB6.out HG6.out).mono ?_; rintro e9 w7 ⟨a2, c2, rfl, ho7, hb7⟩
               have HO7 := hid_of ho7
               have HB7 := hid_of (HB6.out.trans (hb7.mono HB6.out.size))
               have hs7 := hb7.size
               obtain ⟨tl0, tl1, tl2, tb0, tb1, tb2, tb3, tm0, tm1, tm2, tm3, tm4, tm5, tm6, tm7, tr0, tr1, tf0, tf1⟩ := bm_cells (HCE.out w7 (HB7.out))
               have tZ := hid_of (HCE.out w7 (HB7.out)).1.2.2
               clear ho7 hb7)
  have hZ := st2D (a := .slice a2 D.length c2) (b := .int .i64 lo) tZ.out
  have x0 := block_cell (i := 0) (v := .slice a2 D.length c2) hZ rfl
  have x1 := block_cell (i := 1) (v := .int .i64 lo) hZ rfl
  refine bodyPost_ret (v := .agg #[.slice a2 D.length c2, .int .i64 lo]) (by simp [results, Try.results89, go_sem, x0, x1]) rfl ⟨a2, c2, rfl, ?_, ?_⟩
  · exact own_low (own_two HO7.out (by have := HB6.out.size; simp at this ⊢; omega) _ _) (by have := HB6.out.size; simp at this ⊢; omega)
  · exact ((HBY.out.trans (HB7.out.mono (by omega))).setCell (p := ⟨w.heap.size + 1 + 1, 0, none⟩) (by simp only; omega) _).setCell (p := ⟨w.heap.size + 1 + 1, 1, none⟩) (by simp only; omega) _
end Go.Proofs.Ytagaajlbkfkaiaa
/- Moves: mathematics between the program and the document's answer: curls, layers of a triangle, darts on one face, the crossings of a push. -/
namespace Go.Proofs.Ytagaajlbkfkaiaa

theorem en_spot {C : List Cr} {loops : Int} (hm : mayD C loops = true) (k s : Nat) (hk : k < C.length) (hs : s < 4) : ∃ x : Nat, 1 ≤ x ∧ x ≤ 2 * C.length ∧ (C.getD k Cr.none).arc s = (x : Int) ∧ enC C x ((C.getD k Cr.none).comes s) = k ∧ enS C x ((C.getD k Cr.none).comes s) = s := by
  obtain ⟨h1, h2, -⟩ := en_one hm k s hk hs
  have e : (C.getD k Cr.none).arc s = ((((C.getD k Cr.none).arc s).toNat : Nat) : Int) := by omega
  have h := end_one hm _ h1 h2 _ k s hk hs e rfl
  refine ⟨_, h1, h2, e, ?_, ?_⟩
  · unfold enC
    rw [h]
    simp
  · unfold enS
    rw [h]
    simp

/-- Both ways of telling a curl agree. -/
theorem curl_same {C : List Cr} {loops : Int} (hm : mayD C loops = true) (k : Nat) (hk : k < C.length) : caB C k = cuB C k := by
  rw [Bool.eq_iff_iff, cuB_iff]
  constructor
  · intro h
    unfold caB at h
    rw [List.any_eq_true] at h
    obtain ⟨s, hs, e⟩ := h
    have hs4 : s < 4 := List.mem_range.1 hs
    have e := of_decide_eq_true e
    obtain ⟨x, h1, h2, e1, e2, e3⟩ := en_spot hm k s hk hs4
    obtain ⟨y, -, -, f1, f2, f3⟩ := en_spot hm k ((s + 1) % 4) hk (by omega)
    have hxy : y = x := by omega
    rw [hxy] at f2 f3
    refine ⟨x, h1, h2, ?_⟩
    unfold crlB
    simp only [Bool.and_eq_true, decide_eq_true_eq, Bool.not_eq_true', decide_eq_false_iff_not]
    cases p : (C.getD k Cr.none).comes s <;> cases q : (C.getD k Cr.none).comes ((s + 1) % 4) <;> rw [p] at e2 e3 <;> rw [q] at f2 f3
    · exfalso
      omega
    · exact ⟨⟨e2, f2⟩, by omega⟩
    · exact ⟨⟨f2, e2⟩, by omega⟩
    · exfalso
      omega
  · rintro ⟨x, h1, h2, h⟩
    unfold crlB at h
    simp only [Bool.and_eq_true, decide_eq_true_eq, Bool.not_eq_true', decide_eq_false_iff_not] at h
    obtain ⟨⟨a1, a2⟩, a3⟩ := h
    obtain ⟨-, -, b3, b4, b5⟩ := en_may hm x false h1 h2
    obtain ⟨-, -, c3, c4, c5⟩ := en_may hm x true h1 h2
    rw [a1] at b4 b5
    rw [a2] at c4 c5
    unfold caB
    rw [List.any_eq_true]
    have hne : enS C x false ≠ enS C x true := fun e => by
      rw [e, c5] at b5
      exact absurd b5 (by simp)
    have hor : enS C x true = (enS C x false + 1) % 4 ∨ enS C x false = (enS C x true + 1) % 4 := by omega
    rcases hor with e | e
    · exact ⟨enS C x false, List.mem_range.2 b3, decide_eq_true (by rw [← e, b4, c4])⟩
    · exact ⟨enS C x true, List.mem_range.2 c3, decide_eq_true (by rw [← e, b4, c4])⟩

end Go.Proofs.Ytagaajlbkfkaiaa
/- Moves: the walks of means and of bench.moved. Made by genmw5.py. -/
namespace Go.Proofs.Ytagaajlbkfkaiaa
open Go.RowKit

/-- The function of a kind of move. -/
def KF (k : Int) (fn : Nat) : Prop := (k = 1 ∧ fn = 88) ∨ (k = 2 ∧ fn = 89) ∨ (k = 3 ∧ fn = 90) ∨ (k = 4 ∧ fn = 91) ∨ (k = 5 ∧ fn = 92)
theorem kf2 : KF 2 89 := by unfold KF; simp
theorem kf4 : KF 4 91 := by unfold KF; simp
set_option maxHeartbeats 2000000 in
theorem means_of {k : Int} {fn : Nat} (hk : KF k fn) (w : World) : Calls Try.prog 59 #[.int .i64 k] w fun e w' => e = .returned (.func (.func fn) #[] #[]) ∧ w' = w := by
  rcases hk with ⟨rfl, rfl⟩ | ⟨rfl, rfl⟩ | ⟨rfl, rfl⟩ | ⟨rfl, rfl⟩ | ⟨rfl, rfl⟩
  all_goals
    go_enter Try.func59, Try.ntmps59
    go_wp2
    go_ret
    exact ⟨rfl, rfl⟩

set_option maxHeartbeats 4000000 in
set_option maxRecDepth 100000 in
theorem moved_no {k : Int} {fn : Nat} (hk : KF k fn) (a : Option Addr) (cap : Nat) (C : List Cr) (loops : Int) (gF cF gT cT : Nat) (why x y ua va : Int) (ub vb ov : Bool) (w : World) (hF : ∀ W, Below w.heap.size w W → Calls Try.prog fn #[drV a cap C loops gF cF gT cT, mvV k x y ua ub va vb ov] W fun e w' => e = .panicked (gaveUp why) ∧ Below W.heap.size W w') :
    Calls Try.prog 30 #[drV a cap C loops gF cF gT cT, mvV k x y ua ub va vb ov] w fun e w' => e = .panicked (gaveUp why) ∧ Below w.heap.size w w' := by
  have HF := hid_of hF
  have HMN := hid_of (means_of hk)
  have HKF := hid_of hk
  clear hF hk
  unfold mvV at HF ⊢
  obtain ⟨Y, hY, hBY, hTY, hsY⟩ := bm_ex w a cap C loops gF cF gT cT k x y ua va ub vb ov
  have HBY := hid_of hBY
  have HCE := hid_of (bm_ce hTY)
  clear hBY hTY
  unfold drV at HF ⊢
  have HDY : Hid (Below Y.heap.size Y Y.drew) := (Below.refl _ _).drew
  have HSV : Hid (∀ W, Below Y.heap.size Y W → (fun X : World => X.cell? ⟨w.heap.size, 0, none⟩ = some (.slice a C.length cap) ∧ X.cell? ⟨w.heap.size, 1, none⟩ = some (.int .i64 loops) ∧ X.cell? ⟨w.heap.size, 2, none⟩ = some (.slice (some ⟨gF, 0, none⟩) (2 * C.length + 1) cF) ∧ X.cell? ⟨w.heap.size, 3, none⟩ = some (.slice (some ⟨gT, 0, none⟩) (2 * C.length + 1) cT) ∧ X.cell? ⟨w.heap.size + 1, 0, none⟩ = some (.int .i64 k) ∧ X.cell? ⟨w.heap.size + 1, 1, none⟩ = some (.int .i64 x) ∧ X.cell? ⟨w.heap.size + 1, 2, none⟩ = some (.int .i64 y) ∧ X.cell? ⟨w.heap.size + 1, 3, none⟩ = some (.int .i64 ua) ∧ X.cell? ⟨w.heap.size + 1, 4, none⟩ = some (.bool ub) ∧ X.cell? ⟨w.heap.size + 1, 5, none⟩ = some (.int .i64 va) ∧ X.cell? ⟨w.heap.size + 1, 6, none⟩ = some (.bool vb) ∧ X.cell? ⟨w.heap.size + 1, 7, none⟩ = some (.bool ov)) W) := fun W hW => by
    obtain ⟨⟨px, py, -⟩, -⟩ := HCE.out W hW
    exact ⟨block_cell px rfl, block_cell px rfl, block_cell px rfl, block_cell px rfl, block_cell py rfl, block_cell py rfl, block_cell py rfl, block_cell py rfl, block_cell py rfl, block_cell py rfl, block_cell py rfl, block_cell py rfl⟩
  have HY := hid_of hY
  clear hY
  go_enter Try.func30, Try.ntmps30
  go_wp2
  rw [HY.out]
  refine wp_region_held_drew (S := fun X : World => X.cell? ⟨w.heap.size, 0, none⟩ = some (.slice a C.length cap) ∧ X.cell? ⟨w.heap.size, 1, none⟩ = some (.int .i64 loops) ∧ X.cell? ⟨w.heap.size, 2, none⟩ = some (.slice (some ⟨gF, 0, none⟩) (2 * C.length + 1) cF) ∧ X.cell? ⟨w.heap.size, 3, none⟩ = some (.slice (some ⟨gT, 0, none⟩) (2 * C.length + 1) cT) ∧ X.cell? ⟨w.heap.size + 1, 0, none⟩ = some (.int .i64 k) ∧ X.cell? ⟨w.heap.size + 1, 1, none⟩ = some (.int .i64 x) ∧ X.cell? ⟨w.heap.size + 1, 2, none⟩ = some (.int .i64 y) ∧ X.cell? ⟨w.heap.size + 1, 3, none⟩ = some (.int .i64 ua) ∧ X.cell? ⟨w.heap.size + 1, 4, none⟩ = some (.bool ub) ∧ X.cell? ⟨w.heap.size + 1, 5, none⟩ = some (.int .i64 va) ∧ X.cell? ⟨w.heap.size + 1, 6, none⟩ = some (.bool vb) ∧ X.cell? ⟨w.heap.size + 1, 7, none⟩ = some (.bool ov)) (by kernel_rfl) (HSV.out _ HDY.out) (fun hHeld => ?_)
  refine wpAnyH_take (i := 0) (v := ?vvu5) rfl (by kernel_rfl) (by kernel_rfl) (by kernel_rfl) (fun _ _ _ h => h) (Or.inl ⟨by rfl, ?yyu5⟩) (by assumption) ?rru5
  case yyu5 => (intro w hSw; (try dsimp only at hSw); go_simp; (try with_reducible rfl))
  try simp only [Act.put]
  refine wpAnyH_take (i := 1) (v := ?vvu6) rfl (by kernel_rfl) (by kernel_rfl) (by kernel_rfl) (fun _ _ _ h => h) (Or.inl ⟨by rfl, ?yyu6⟩) (by assumption) ?rru6
  case yyu6 => (intro w hSw; (try dsimp only at hSw); go_simp; (try with_reducible rfl))
  try simp only [Act.put]
  refine wpAnyH_take (i := 3) (v := ?vvu7) rfl (by kernel_rfl) (by kernel_rfl) (by kernel_rfl) (fun _ _ _ h => h) (Or.inl ⟨by rfl, ?yyu7⟩) (by assumption) ?rru7
  case yyu7 => (intro w hSw; (try dsimp only at hSw); go_simp; (try with_reducible rfl))
  try simp only [Act.put]
  refine wpAnyH_take (i := 4) (v := ?vvu8) rfl (by kernel_rfl) (by kernel_rfl) (by kernel_rfl) (fun _ _ _ h => h) (Or.inl ⟨by rfl, ?yyu8⟩) (by assumption) ?rru8
  case yyu8 => (intro w hSw; (try dsimp only at hSw); go_simp; (try with_reducible rfl))
  try simp only [Act.put]
  refine wpAnyH_ready (rs := [2]) (by kernel_rfl) (by simp) ?_
  refine AllReadyH.cons rfl (fun K hK => ?_) AllReadyH.nil
  go_simp
  go_wp2_with (go_at_call 59; refine (HMN.out _).mono ?_; rintro e9 w4 ⟨rfl, e4⟩; obtain rfl := e4.symm)
  refine hK.out _ _ (HSV.out _ HDY.out) (fun hHeld => ?_)
  clear hK K
  try simp only [Act.put]
  have hk := HKF.out
  clear HKF
  rcases hk with ⟨rfl, rfl⟩ | ⟨rfl, rfl⟩ | ⟨rfl, rfl⟩ | ⟨rfl, rfl⟩ | ⟨rfl, rfl⟩
  all_goals
    refine wpAnyH_ready (rs := [5]) (by kernel_rfl) (by simp) ?_
    refine AllReadyH.cons rfl (fun K hK => ?_) AllReadyH.nil
    go_simp
    go_wp2_with ((first | go_at_call 88 | go_at_call 89 | go_at_call 90 | go_at_call 91 | go_at_call 92); refine (HF.out _ HBY.out.drew).mono ?_; rintro e9 w5 ⟨rfl, hb5⟩)
    exact ⟨rfl, rfl, HBY.out.drew.trans (hb5.mono HBY.out.drew.size)⟩

set_option maxHeartbeats 4000000 in
set_option maxRecDepth 100000 in
theorem moved_yes {k : Int} {fn : Nat} (hk : KF k fn) (a : Option Addr) (cap : Nat) (C : List Cr) (loops : Int) (gF cF gT cT : Nat) (x y ua va : Int) (ub vb ov : Bool) (w : World) (lo : Int) (D : List Cr) (hF : ∀ W, Below w.heap.size w W → Calls Try.prog fn #[drV a cap C loops gF cF gT cT, mvV k x y ua ub va vb ov] W fun e w' => ∃ a2 c2, e = .returned (.agg #[.slice a2 D.length c2, .int .i64 lo]) ∧ w'.ownsRow W.heap.size 71 5 (.slice a2 D.length c2) D.length (crossCells D) ∧ Below W.heap.size W w') :
    Calls Try.prog 30 #[drV a cap C loops gF cF gT cT, mvV k x y ua ub va vb ov] w fun e w' => ∃ a2 c2, e = .returned (.agg #[.slice a2 D.length c2, .int .i64 lo]) ∧ w'.ownsRow w.heap.size 71 5 (.slice a2 D.length c2) D.length (crossCells D) ∧ Below w.heap.size w w' := by
  have HF := hid_of hF
  have HMN := hid_of (means_of hk)
  have HKF := hid_of hk
  clear hF hk
  unfold mvV at HF ⊢
  obtain ⟨Y, hY, hBY, hTY, hsY⟩ := bm_ex w a cap C loops gF cF gT cT k x y ua va ub vb ov
  have HBY := hid_of hBY
  have HCE := hid_of (bm_ce hTY)
  clear hBY hTY
  unfold drV at HF ⊢
  have HDY : Hid (Below Y.heap.size Y Y.drew) := (Below.refl _ _).drew
  have HSV : Hid (∀ W, Below Y.heap.size Y W → (fun X : World => X.cell? ⟨w.heap.size, 0, none⟩ = some (.slice a C.length cap) ∧ X.cell? ⟨w.heap.size, 1, none⟩ = some (.int .i64 loops) ∧ X.cell? ⟨w.heap.size, 2, none⟩ = some (.slice (some ⟨gF, 0, none⟩) (2 * C.length + 1) cF) ∧ X.cell? ⟨w.heap.size, 3, none⟩ = some (.slice (some ⟨gT, 0, none⟩) (2 * C.length + 1) cT) ∧ X.cell? ⟨w.heap.size + 1, 0, none⟩ = some (.int .i64 k) ∧ X.cell? ⟨w.heap.size + 1, 1, none⟩ = some (.int .i64 x) ∧ X.cell? ⟨w.heap.size + 1, 2, none⟩ = some (.int .i64 y) ∧ X.cell? ⟨w.heap.size + 1, 3, none⟩ = some (.int .i64 ua) ∧ X.cell? ⟨w.heap.size + 1, 4, none⟩ = some (.bool ub) ∧ X.cell? ⟨w.heap.size + 1, 5, none⟩ = some (.int .i64 va) ∧ X.cell? ⟨w.heap.size + 1, 6, none⟩ = some (.bool vb) ∧ X.cell? ⟨w.heap.size + 1, 7, none⟩ = some (.bool ov)) W) := fun W hW => by
    obtain ⟨⟨px, py, -⟩, -⟩ := HCE.out W hW
    exact ⟨block_cell px rfl, block_cell px rfl, block_cell px rfl, block_cell px rfl, block_cell py rfl, block_cell py rfl, block_cell py rfl, block_cell py rfl, block_cell py rfl, block_cell py rfl, block_cell py rfl, block_cell py rfl⟩
  have HY := hid_of hY
  clear hY
  go_enter Try.func30, Try.ntmps30
  go_wp2
  rw [HY.out]
  refine wp_region_held_drew (S := fun X : World => X.cell? ⟨w.heap.size, 0, none⟩ = some (.slice a C.length cap) ∧ X.cell? ⟨w.heap.size, 1, none⟩ = some (.int .i64 loops) ∧ X.cell? ⟨w.heap.size, 2, none⟩ = some (.slice (some ⟨gF, 0, none⟩) (2 * C.length + 1) cF) ∧ X.cell? ⟨w.heap.size, 3, none⟩ = some (.slice (some ⟨gT, 0, none⟩) (2 * C.length + 1) cT) ∧ X.cell? ⟨w.heap.size + 1, 0, none⟩ = some (.int .i64 k) ∧ X.cell? ⟨w.heap.size + 1, 1, none⟩ = some (.int .i64 x) ∧ X.cell? ⟨w.heap.size + 1, 2, none⟩ = some (.int .i64 y) ∧ X.cell? ⟨w.heap.size + 1, 3, none⟩ = some (.int .i64 ua) ∧ X.cell? ⟨w.heap.size + 1, 4, none⟩ = some (.bool ub) ∧ X.cell? ⟨w.heap.size + 1, 5, none⟩ = some (.int .i64 va) ∧ X.cell? ⟨w.heap.size + 1, 6, none⟩ = some (.bool vb) ∧ X.cell? ⟨w.heap.size + 1, 7, none⟩ = some (.bool ov)) (by kernel_rfl) (HSV.out _ HDY.out) (fun hHeld => ?_)
  refine wpAnyH_take (i := 0) (v := ?vvu9) rfl (by kernel_rfl) (by kernel_rfl) (by kernel_rfl) (fun _ _ _ h => h) (Or.inl ⟨by rfl, ?yyu9⟩) (by assumption) ?rru9
  case yyu9 => (intro w hSw; (try dsimp only at hSw); go_simp; (try with_reducible rfl))
  try simp only [Act.put]
  refine wpAnyH_take (i := 1) (v := ?vvu10) rfl (by kernel_rfl) (by kernel_rfl) (by kernel_rfl) (fun _ _ _ h => h) (Or.inl ⟨by rfl, ?yyu10⟩) (by assumption) ?rru10
  case yyu10 => (intro w hSw; (try dsimp only at hSw); go_simp; (try with_reducible rfl))
  try simp only [Act.put]
  refine wpAnyH_take (i := 3) (v := ?vvu11) rfl (by kernel_rfl) (by kernel_rfl) (by kernel_rfl) (fun _ _ _ h => h) (Or.inl ⟨by rfl, ?yyu11⟩) (by assumption) ?rru11
  case yyu11 => (intro w hSw; (try dsimp only at hSw); go_simp; (try with_reducible rfl))
  try simp only [Act.put]
  refine wpAnyH_take (i := 4) (v := ?vvu12) rfl (by kernel_rfl) (by kernel_rfl) (by kernel_rfl) (fun _ _ _ h => h) (Or.inl ⟨by rfl, ?yyu12⟩) (by assumption) ?rru12
  case yyu12 => (intro w hSw; (try dsimp only at hSw); go_simp; (try with_reducible rfl))
  try simp only [Act.put]
  refine wpAnyH_ready (rs := [2]) (by kernel_rfl) (by simp) ?_
  refine AllReadyH.cons rfl (fun K hK => ?_) AllReadyH.nil
  go_simp
  go_wp2_with (go_at_call 59; refine (HMN.out _).mono ?_; rintro e9 w4 ⟨rfl, e4⟩; obtain rfl := e4.symm)
  refine hK.out _ _ (HSV.out _ HDY.out) (fun hHeld => ?_)
  clear hK K
  try simp only [Act.put]
  have HZS := hid_of (fun (w5 : World) (v0 v1 : Value) (hB5 : Below Y.heap.size Y w5) => show (fun X : World => X.cell? ⟨w.heap.size, 0, none⟩ = some (.slice a C.length cap) ∧ X.cell? ⟨w.heap.size, 1, none⟩ = some (.int .i64 loops) ∧ X.cell? ⟨w.heap.size, 2, none⟩ = some (.slice (some ⟨gF, 0, none⟩) (2 * C.length + 1) cF) ∧ X.cell? ⟨w.heap.size, 3, none⟩ = some (.slice (some ⟨gT, 0, none⟩) (2 * C.length + 1) cT) ∧ X.cell? ⟨w.heap.size + 1, 0, none⟩ = some (.int .i64 k) ∧ X.cell? ⟨w.heap.size + 1, 1, none⟩ = some (.int .i64 x) ∧ X.cell? ⟨w.heap.size + 1, 2, none⟩ = some (.int .i64 y) ∧ X.cell? ⟨w.heap.size + 1, 3, none⟩ = some (.int .i64 ua) ∧ X.cell? ⟨w.heap.size + 1, 4, none⟩ = some (.bool ub) ∧ X.cell? ⟨w.heap.size + 1, 5, none⟩ = some (.int .i64 va) ∧ X.cell? ⟨w.heap.size + 1, 6, none⟩ = some (.bool vb) ∧ X.cell? ⟨w.heap.size + 1, 7, none⟩ = some (.bool ov)) ((w5.setCell ⟨w.heap.size + 1 + 1, 0, none⟩ v0).setCell ⟨w.heap.size + 1 + 1, 1, none⟩ v1) by
    have hg := grown_trans (set_grown w5 (w.heap.size + 1 + 1) 0 v0) (set_grown (w5.setCell ⟨w.heap.size + 1 + 1, 0, none⟩ v0) (w.heap.size + 1 + 1) 1 v1)
    obtain ⟨⟨px, py, -⟩, -⟩ := HCE.out w5 hB5
    have px' := (hg.block _ (Array.getElem?_eq_some_iff.1 px).1 (fun e => by have := Option.some.inj e; omega)).trans px
    have py' := (hg.block _ (Array.getElem?_eq_some_iff.1 py).1 (fun e => by have := Option.some.inj e; omega)).trans py
    exact ⟨block_cell px' rfl, block_cell px' rfl, block_cell px' rfl, block_cell px' rfl, block_cell py' rfl, block_cell py' rfl, block_cell py' rfl, block_cell py' rfl, block_cell py' rfl, block_cell py' rfl, block_cell py' rfl, block_cell py' rfl⟩)
  have hk := HKF.out
  clear HKF
  rcases hk with ⟨rfl, rfl⟩ | ⟨rfl, rfl⟩ | ⟨rfl, rfl⟩ | ⟨rfl, rfl⟩ | ⟨rfl, rfl⟩
  all_goals
    refine wpAnyH_ready (rs := [5]) (by kernel_rfl) (by simp) ?_
    refine AllReadyH.cons rfl (fun K hK => ?_) AllReadyH.nil
    go_simp
    go_wp2_with ((first | go_at_call 88 | go_at_call 89 | go_at_call 90 | go_at_call 91 | go_at_call 92); refine (HF.out _ HBY.out.drew).mono ?_; rintro e9 w5 ⟨a2, c2, rfl, ho5, hb5⟩)
    have HO5 := hid_of ho5
    have HB5 := hid_of (HDY.out.trans (hb5.mono HDY.out.size))
    have hs5 := hb5.size
    refine hK.out _ _ (HSV.out _ HB5.out) (fun hHeld => ?_)
    clear hK K ho5 hb5
    try simp only [Act.put]
    refine wpAnyH_ready (rs := [6]) (by kernel_rfl) (by simp) ?_
    refine AllReadyH.cons rfl (fun K hK => ?_) AllReadyH.nil
    obtain ⟨ql0, ql1, ql2, qb0, qb1, qb2, qb3, qm0, qm1, qm2, qm3, qm4, qm5, qm6, qm7, qr0, qr1, qf0, qf1⟩ := bm_cells (HCE.out w5 (HB5.out))
    have qZ := hid_of (HCE.out w5 (HB5.out)).1.2.2
    have HZ := hid_of (st2D (a := .slice a2 D.length c2) (b := .int .i64 lo) qZ.out)
    go_simp
    refine hK.out _ _ (HZS.out _ _ _ HB5.out) (fun hHeld => ?_)
    clear hK K HZS
    try simp only [Act.put]
    refine wpAnyH_done (by kernel_rfl) ?_ _
    clear hHeld
    go_wp2
    have x0 := block_cell (i := 0) (v := .slice a2 D.length c2) HZ.out rfl
    have x1 := block_cell (i := 1) (v := .int .i64 lo) HZ.out rfl
    refine bodyPost_ret (v := .agg #[.slice a2 D.length c2, .int .i64 lo]) (by simp [results, Try.results30, go_sem, x0, x1]) rfl ⟨a2, c2, rfl, ?_, ?_⟩
    · exact own_low (own_two HO5.out (by show w.heap.size + 1 + 1 < Y.heap.size; omega) _ _) (by show w.heap.size ≤ Y.heap.size; omega)
    · exact ((HBY.out.trans (HB5.out.mono (by omega))).setCell (p := ⟨w.heap.size + 1 + 1, 0, none⟩) (by simp only; omega) _).setCell (p := ⟨w.heap.size + 1 + 1, 1, none⟩) (by simp only; omega) _
end Go.Proofs.Ytagaajlbkfkaiaa
/- Takings: what may be taken out of a diagram, in their order, and the road of a diagram to a simple one: plain mathematics. -/
namespace Go.Proofs.Ytagaajlbkfkaiaa
open Go.RowKit

/-- May these crossings be taken out: one as a curl, two by a pull? -/
def okG (C : List Cr) (lo : Int) : List Nat → Bool
  | [x] => caB C x && decide (takL C lo [x] ≤ 16)
  | [x, y] => (facesM C).any (jlR C x y) && decide (takL C lo [x, y] ≤ 16)
  | _ => false
def tkU (n : Nat) : List (List Nat) := (List.range n).map fun x => [x]
def tkR (x m : Nat) : List (List Nat) := (List.range m).map fun j => [x, x + 1 + j]
def tkP (n x : Nat) : List (List Nat) := (List.range x).flatMap fun i => tkR i (n - (i + 1))
/-- All that is tried, in its order. -/
def tkA (n : Nat) : List (List Nat) := tkU n ++ tkP n n
def nextG (C : List Cr) (lo : Int) : Option (List Nat) := (tkA C.length).find? (okG C lo)

theorem tkU_next (n : Nat) : tkU (n + 1) = tkU n ++ [[n]] := by simp [tkU, List.range_succ]
theorem tkR_next (x m : Nat) : tkR x (m + 1) = tkR x m ++ [[x, x + 1 + m]] := by simp [tkR, List.range_succ]
theorem tkP_next (n x : Nat) : tkP n (x + 1) = tkP n x ++ tkR x (n - (x + 1)) := by simp [tkP, List.range_succ, List.flatMap_append]
theorem mem_tkU {n : Nat} {G : List Nat} : G ∈ tkU n ↔ ∃ x, x < n ∧ G = [x] := by
  simp only [tkU, List.mem_map, List.mem_range]
  exact ⟨fun ⟨x, h, e⟩ => ⟨x, h, e.symm⟩, fun ⟨x, h, e⟩ => ⟨x, h, e.symm⟩⟩
theorem mem_tkR {x m : Nat} {G : List Nat} : G ∈ tkR x m ↔ ∃ y, x < y ∧ y < x + 1 + m ∧ G = [x, y] := by
  simp only [tkR, List.mem_map, List.mem_range]
  constructor
  · rintro ⟨j, h, rfl⟩
    exact ⟨x + 1 + j, by omega, by omega, rfl⟩
  · rintro ⟨y, h1, h2, rfl⟩
    exact ⟨y - (x + 1), by omega, by rw [show x + 1 + (y - (x + 1)) = y by omega]⟩
theorem mem_tkP {n i : Nat} {G : List Nat} : G ∈ tkP n i ↔ ∃ x y, x < i ∧ x < y ∧ y < n ∧ G = [x, y] := by
  simp only [tkP, List.mem_flatMap, List.mem_range, mem_tkR]
  constructor
  · rintro ⟨x, h, y, h1, h2, rfl⟩
    exact ⟨x, y, h, h1, by omega, rfl⟩
  · rintro ⟨x, y, h, h1, h2, rfl⟩
    exact ⟨x, h, y, h1, by omega, rfl⟩
theorem mem_tkA {n : Nat} {G : List Nat} : G ∈ tkA n ↔ (∃ x, x < n ∧ G = [x]) ∨ ∃ x y, x < y ∧ y < n ∧ G = [x, y] := by
  simp only [tkA, List.mem_append, mem_tkU, mem_tkP]
  constructor
  · rintro (h | ⟨x, y, h, h1, h2, rfl⟩)
    · exact Or.inl h
    · exact Or.inr ⟨x, y, h1, h2, rfl⟩
  · rintro (h | ⟨x, y, h1, h2, rfl⟩)
    · exact Or.inl h
    · exact Or.inr ⟨x, y, by omega, h1, h2, rfl⟩
theorem find_mid {α : Type} (p : α → Bool) (l r : List α) (x : α) (hl : ∀ y, y ∈ l → p y = false) (hx : p x = true) : (l ++ x :: r).find? p = some x := by
  induction l with
  | nil => simp [hx]
  | cons a l ih =>
    rw [List.cons_append, List.find?_cons, hl a (by simp)]
    exact ih fun y hy => hl y (by simp [hy])
theorem find_all {α : Type} (p : α → Bool) (l : List α) (hl : ∀ y, y ∈ l → p y = false) : l.find? p = none := by
  rw [List.find?_eq_none]
  exact fun y hy => by rw [hl y hy]; decide
/-- What comes ahead of a place, as a list. -/
theorem next_at (C : List Cr) (lo : Int) (i : Nat) (G : List Nat) (hi : (tkA C.length)[i]? = some G) (hb : ∀ (j : Nat) (G' : List Nat), j < i → (tkA C.length)[j]? = some G' → okG C lo G' = false) (hG : okG C lo G = true) : nextG C lo = some G := by
  obtain ⟨h1, h2⟩ := List.getElem?_eq_some_iff.1 hi
  have e : tkA C.length = (tkA C.length).take i ++ G :: (tkA C.length).drop (i + 1) := by
    rw [← h2, List.getElem_cons_drop, List.take_append_drop]
  unfold nextG
  rw [e]
  refine find_mid _ _ _ _ (fun y hy => ?_) hG
  obtain ⟨j, hj, e2⟩ := List.mem_iff_getElem.1 hy
  have hj2 : j < i := by
    have := hj
    rw [List.length_take] at this
    omega
  refine hb j y hj2 ?_
  rw [← e2, List.getElem_take]
  exact List.getElem?_eq_getElem _
theorem next_no (C : List Cr) (lo : Int) (hb : ∀ (j : Nat) (G' : List Nat), (tkA C.length)[j]? = some G' → okG C lo G' = false) : nextG C lo = none := by
  refine find_all _ _ fun y hy => ?_
  obtain ⟨j, hj, e2⟩ := List.mem_iff_getElem.1 hy
  exact hb j y (by rw [← e2]; exact List.getElem?_eq_getElem _)
theorem next_end (C : List Cr) (lo : Int) (hu : ∀ x, x < C.length → okG C lo [x] = false) (hb : ∀ x y, x < y → y < C.length → okG C lo [x, y] = false) : nextG C lo = none := by
  refine find_all _ _ fun y hy => ?_
  rcases mem_tkA.1 hy with ⟨x, hx, rfl⟩ | ⟨x, z, h1, h2, rfl⟩
  · exact hu x hx
  · exact hb x z h1 h2
theorem reTo_less {C : List Cr} {G : List Nat} {h : Nat → Nat} {g : Nat} (hg : g ∈ G) : ∀ i, g < i → (reTo C G h i).length < i
  | 0, hi => absurd hi (Nat.not_lt_zero _)
  | i + 1, hi => by
    rw [reTo_next]
    by_cases hm : i ∈ G
    · rw [if_pos hm]
      have := reTo_len C G h i
      omega
    · rw [if_neg hm]
      have h1 : g ≠ i := fun e => hm (e ▸ hg)
      have := reTo_less (C := C) (h := h) hg i (by omega)
      simp
      omega
theorem next_mem {C : List Cr} {lo : Int} {G : List Nat} (h : nextG C lo = some G) : G ∈ tkA C.length ∧ okG C lo G = true := ⟨List.mem_of_find?_eq_some h, List.find?_some h⟩
/-- What is taken out leaves a planar diagram of fewer crossings. -/
theorem next_step {C : List Cr} {lo : Int} {G : List Nat} (hm : mayD C lo = true) (hp : planarB C = true) (h : nextG C lo = some G) : mayD (takC C G) (takL C lo G) = true ∧ planarB (takC C G) = true ∧ (takC C G).length < C.length := by
  obtain ⟨h1, h2⟩ := next_mem h
  rcases mem_tkA.1 h1 with ⟨x, hx, rfl⟩ | ⟨x, y, hxy, hy, rfl⟩
  · have h3 : caB C x = true ∧ takL C lo [x] ≤ 16 := by simpa [okG] using h2
    have h4 := curl_one hm hp hx h3.1 rfl h3.2
    exact ⟨h4.1, h4.2, reTo_less (g := x) (by simp) _ hx⟩
  · have h3 : (facesM C).any (jlR C x y) = true ∧ takL C lo [x, y] ≤ 16 := by
      have h4 : ((facesM C).any (jlR C x y) && decide (takL C lo [x, y] ≤ 16)) = true := h2
      rw [Bool.and_eq_true] at h4
      exact ⟨h4.1, of_decide_eq_true h4.2⟩
    obtain ⟨l, hl, hj⟩ := List.any_eq_true.1 h3.1
    unfold jlR at hj
    simp only [Bool.and_eq_true, Bool.or_eq_true, decide_eq_true_eq] at hj
    have h4 := pull_two hm hp hl hj.1 (by omega : x ≠ y) hj.2.1 rfl h3.2
    exact ⟨h4.1, h4.2, reTo_less (g := y) (by simp) _ hy⟩
/-- The road of a diagram to a simple one. -/
structure Road (N : Nat) (S : Nat → List Cr) (L : Nat → Int) (G : Nat → List Nat) : Prop where
  may : ∀ i, i ≤ N → mayD (S i) (L i) = true
  flat : ∀ i, i ≤ N → planarB (S i) = true
  goes : ∀ i, i < N → nextG (S i) (L i) = some (G i)
  next : ∀ i, i < N → S (i + 1) = takC (S i) (G i) ∧ L (i + 1) = takL (S i) (L i) (G i)
  fewer : ∀ i, i ≤ N → (S i).length + i ≤ (S 0).length
  ends : nextG (S N) (L N) = none
theorem road_tk : ∀ (n : Nat) (C : List Cr) (lo : Int), C.length ≤ n → mayD C lo = true → planarB C = true → ∃ N S L G, S 0 = C ∧ L 0 = lo ∧ Road N S L G := by
  intro n
  induction n with
  | zero =>
    intro C lo hn hm hp
    refine ⟨0, fun _ => C, fun _ => lo, fun _ => [], rfl, rfl, fun _ _ => hm, fun _ _ => hp, fun i hi => absurd hi (Nat.not_lt_zero _), fun i hi => absurd hi (Nat.not_lt_zero _), fun i hi => by omega, ?_⟩
    exact next_end C lo (fun x hx => by omega) (fun x y _ hy => by omega)
  | succ n ih =>
    intro C lo hn hm hp
    cases h : nextG C lo with
    | none => exact ⟨0, fun _ => C, fun _ => lo, fun _ => [], rfl, rfl, fun _ _ => hm, fun _ _ => hp, fun i hi => absurd hi (Nat.not_lt_zero _), fun i hi => absurd hi (Nat.not_lt_zero _), fun i hi => by omega, h⟩
    | some G0 =>
      obtain ⟨h1, h2, h3⟩ := next_step hm hp h
      obtain ⟨N, S, L, G, e1, e2, hR⟩ := ih (takC C G0) (takL C lo G0) (by omega) h1 h2
      refine ⟨N + 1, fun i => if i = 0 then C else S (i - 1), fun i => if i = 0 then lo else L (i - 1), fun i => if i = 0 then G0 else G (i - 1), rfl, rfl, fun i hi => ?_, fun i hi => ?_, fun i hi => ?_, fun i hi => ?_, fun i hi => ?_, ?_⟩
      · rcases i with _ | i
        · exact hm
        · exact hR.may i (by omega)
      · rcases i with _ | i
        · exact hp
        · exact hR.flat i (by omega)
      · rcases i with _ | i
        · exact h
        · exact hR.goes i (by omega)
      · rcases i with _ | i
        · exact ⟨e1, e2⟩
        · exact hR.next i (by omega)
      · rcases i with _ | i
        · exact Nat.le_refl _
        · have h4 := hR.fewer i (by omega)
          rw [e1] at h4
          show (S i).length + (i + 1) ≤ C.length
          omega
      · exact hR.ends
end Go.Proofs.Ytagaajlbkfkaiaa

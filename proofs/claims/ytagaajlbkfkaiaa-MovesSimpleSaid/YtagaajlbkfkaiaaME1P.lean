/- Several texts of the proof, one behind the other. -/
import Derived.Test.YtagaajlbkfkaiaaBaseP
import Derived.Test.YtagaajlbkfkaiaaMV5P
import Derived.Test.YtagaajlbkfkaiaaW2P
import Derived.Deep.RegionHeld
import Derived.Test.YtagaajlbkfkaiaaF2P
/- The walks of ref.heightOf, ref.curlAt and ref.fewLoops. Made by genme1.py. -/
namespace Go.Proofs.Ytagaajlbkfkaiaa
open Go.RowKit

/-- At how many of its ends an arc is above. -/
def hgt (C : List Cr) (x : Nat) : Nat := enS C x true % 2 + enS C x false % 2
/-- Have two neighbouring sides of a crossing one arc? -/
def caB (C : List Cr) (k : Nat) : Bool := (List.range 4).any fun s => decide ((C.getD k Cr.none).arc s = (C.getD k Cr.none).arc ((s + 1) % 4))

end Go.Proofs.Ytagaajlbkfkaiaa
/- Moves: the walk of bench.joins. Made by genmvj.py. -/
namespace Go.Proofs.Ytagaajlbkfkaiaa
open Go.RowKit

set_option maxHeartbeats 2000000 in
set_option maxRecDepth 100000 in
theorem joins_no (a : Option Addr) (cap : Nat) (C : List Cr) (loops : Int) (gF cF gT cT : Nat) (ad : Option Addr) (n c : Nat) (k j : Int) (w : World) (hn : ¬ n = 2) :
    Calls Try.prog 113 #[drV a cap C loops gF cF gT cT, .slice ad n c, .int .i64 k, .int .i64 j] w fun e w' => e = .returned (.bool false) ∧ Below w.heap.size w w' := by
  unfold drV
  have hb : ∀ o, Below w.heap.size w (w.alloc o) := fun o => (Below.refl _ _).alloc (Nat.le_refl _) o
  go_enter Try.func113, Try.ntmps113
  go_wp2
  go_ret
  exact ⟨rfl, hb _⟩

set_option maxHeartbeats 8000000 in
set_option maxRecDepth 100000 in
theorem joins_yes (a : Option Addr) (cap : Nat) (C : List Cr) (loops : Int) (gF cF gT cT : Nat) (g c x y k j : Nat) (w : World) (hm : mayD C loops = true) (hd : Dr w a cap C gF gT) (hg : g < w.heap.size)
    (hx : 1 ≤ x ∧ x ≤ 4 * C.length) (hy : 1 ≤ y ∧ y ≤ 4 * C.length)
    (hc : w.cell? ⟨g, 0, none⟩ = some (.int .i64 (dA x : Nat)) ∧ w.cell? ⟨g, 1, none⟩ = some (.bool (dB x)) ∧ w.cell? ⟨g, 2, none⟩ = some (.int .i64 (dA y : Nat)) ∧ w.cell? ⟨g, 3, none⟩ = some (.bool (dB y))) :
    Calls Try.prog 113 #[drV a cap C loops gF cF gT cT, .slice (some ⟨g, 0, none⟩) 2 c, .int .i64 (k : Nat), .int .i64 (j : Nat)] w fun e w' => e = .returned (.bool ((decide (dC C x = k) && decide (dC C y = j)) || (decide (dC C x = j) && decide (dC C y = k)))) ∧ Below w.heap.size w w' := by
  have HEN := hid_of (fun (j : Nat) (W : World) (h1 : 1 ≤ j ∧ j ≤ 4 * C.length) (hW : Dr W a cap C gF gT) => end_any a cap C loops gF cF gT cT (dA j) (dB j) W hm (dA_le h1.1 h1.2).1 (dA_le h1.1 h1.2).2 hW)
  unfold drV at HEN ⊢
  have HD := hid_of hd
  have HX := hid_of (And.intro hx hy)
  have HCC := hid_of hc
  obtain ⟨X, hX⟩ : ∃ X, X = dC C x := ⟨_, rfl⟩
  obtain ⟨Y, hY⟩ : ∃ Y, Y = dC C y := ⟨_, rfl⟩
  have HXX : Hid (enC C (dA x) (!dB x) = X) := hX.symm
  have HYY : Hid (enC C (dA y) (!dB y) = Y) := hY.symm
  rw [← hX, ← hY]
  obtain ⟨V, hV⟩ : ∃ V, V = w.alloc (.cells #[.slice a C.length cap, .int .i64 loops, .slice (some ⟨gF, 0, none⟩) (2 * C.length + 1) cF, .slice (some ⟨gT, 0, none⟩) (2 * C.length + 1) cT] 63) := ⟨_, rfl⟩
  have HV := hid_of hV
  have HBV : Hid (Below w.heap.size w V) := (by rw [hV]; exact (Below.refl _ _).alloc (Nat.le_refl _) _)
  have HT0 : Hid (V.heap[w.heap.size]? = some (.cells #[.slice a C.length cap, .int .i64 loops, .slice (some ⟨gF, 0, none⟩) (2 * C.length + 1) cF, .slice (some ⟨gT, 0, none⟩) (2 * C.length + 1) cT] 63 (0, 0))) := (by rw [hV]; exact alloc_at rfl)
  have hsV : V.heap.size = w.heap.size + 1 := by rw [hV]; simp
  have HSV : Hid (∀ W, Below V.heap.size V W → (fun X : World => X.cell? ⟨w.heap.size, 0, none⟩ = some (.slice a C.length cap) ∧ X.cell? ⟨w.heap.size, 1, none⟩ = some (.int .i64 loops) ∧ X.cell? ⟨w.heap.size, 2, none⟩ = some (.slice (some ⟨gF, 0, none⟩) (2 * C.length + 1) cF) ∧ X.cell? ⟨w.heap.size, 3, none⟩ = some (.slice (some ⟨gT, 0, none⟩) (2 * C.length + 1) cT) ∧ X.cell? ⟨g, 0, none⟩ = some (.int .i64 (dA x : Nat)) ∧ X.cell? ⟨g, 1, none⟩ = some (.bool (dB x)) ∧ X.cell? ⟨g, 2, none⟩ = some (.int .i64 (dA y : Nat)) ∧ X.cell? ⟨g, 3, none⟩ = some (.bool (dB y))) W) := fun W hW => by
    have k0 := (hW.block _ (by omega)).trans HT0.out
    have hb := HBV.out.trans (hW.mono (by omega))
    have hq := HCC.out
    exact ⟨block_cell k0 rfl, block_cell k0 rfl, block_cell k0 rfl, block_cell k0 rfl, bcell hb hg hq.1, bcell hb hg hq.2.1, bcell hb hg hq.2.2.1, bcell hb hg hq.2.2.2⟩
  have HDW : Hid (∀ W, Below V.heap.size V W → Dr W a cap C gF gT) := fun W hW => HD.out.on (HBV.out.trans (hW.mono (by omega)))
  have HDV : Hid (Below V.heap.size V V.drew) := (Below.refl _ _).drew
  have hfl : ∀ (p q : Int) (W : World), (Instr.field 120 (.agg #[.int .i64 p, .int .i64 q]) 0).run Try.prog W = .ok (.int .i64 p) W := fun p q W => by kernel_rfl
  clear hV hX hY hc hd hx hy hm
  go_enter Try.func113, Try.ntmps113
  go_wp2
  rw [← HV.out]
  refine wp_region_held_drew (S := fun X : World => X.cell? ⟨w.heap.size, 0, none⟩ = some (.slice a C.length cap) ∧ X.cell? ⟨w.heap.size, 1, none⟩ = some (.int .i64 loops) ∧ X.cell? ⟨w.heap.size, 2, none⟩ = some (.slice (some ⟨gF, 0, none⟩) (2 * C.length + 1) cF) ∧ X.cell? ⟨w.heap.size, 3, none⟩ = some (.slice (some ⟨gT, 0, none⟩) (2 * C.length + 1) cT) ∧ X.cell? ⟨g, 0, none⟩ = some (.int .i64 (dA x : Nat)) ∧ X.cell? ⟨g, 1, none⟩ = some (.bool (dB x)) ∧ X.cell? ⟨g, 2, none⟩ = some (.int .i64 (dA y : Nat)) ∧ X.cell? ⟨g, 3, none⟩ = some (.bool (dB y))) (by kernel_rfl) (HSV.out _ HDV.out) (fun hHeld => ?_)
  refine wpAnyH_take (i := 0) (v := ?vvu1) rfl (by kernel_rfl) (by kernel_rfl) (by kernel_rfl) (fun _ _ _ h => h) (Or.inl ⟨by rfl, ?yyu1⟩) (by assumption) ?rru1
  case yyu1 => (intro w hSw; (try dsimp only at hSw); go_simp; (try with_reducible rfl))
  try simp only [Act.put]
  refine wpAnyH_take (i := 1) (v := ?vvu2) rfl (by kernel_rfl) (by kernel_rfl) (by kernel_rfl) (fun _ _ _ h => h) (Or.inl ⟨by rfl, ?yyu2⟩) (by assumption) ?rru2
  case yyu2 => (intro w hSw; (try dsimp only at hSw); go_simp; (try with_reducible rfl))
  try simp only [Act.put]
  refine wpAnyH_take (i := 2) (v := ?vvu3) rfl (by kernel_rfl) (by kernel_rfl) (by kernel_rfl) (fun _ _ _ h => h) (Or.inl ⟨by rfl, ?yyu3⟩) (by assumption) ?rru3
  case yyu3 => (intro w hSw; (try dsimp only at hSw); go_simp; (try with_reducible rfl))
  try simp only [Act.put]
  refine wpAnyH_take (i := 3) (v := ?vvu4) rfl (by kernel_rfl) (by kernel_rfl) (by kernel_rfl) (fun _ _ _ h => h) (Or.inl ⟨by rfl, ?yyu4⟩) (by assumption) ?rru4
  case yyu4 => (intro w hSw; (try dsimp only at hSw); go_simp; (try with_reducible rfl))
  try simp only [Act.put]
  refine wpAnyH_take (i := 4) (v := ?vvu5) rfl (by kernel_rfl) (by kernel_rfl) (by kernel_rfl) (fun _ _ _ h => h) (Or.inl ⟨by rfl, ?yyu5⟩) (by assumption) ?rru5
  case yyu5 => (intro w hSw; (try dsimp only at hSw); go_simp; (try with_reducible rfl))
  try simp only [Act.put]
  refine wpAnyH_take (i := 7) (v := ?vvu6) rfl (by kernel_rfl) (by kernel_rfl) (by kernel_rfl) (fun _ _ _ h => h) (Or.inl ⟨by rfl, ?yyu6⟩) (by assumption) ?rru6
  case yyu6 => (intro w hSw; (try dsimp only at hSw); go_simp; (try with_reducible rfl))
  try simp only [Act.put]
  refine wpAnyH_take (i := 8) (v := ?vvu7) rfl (by kernel_rfl) (by kernel_rfl) (by kernel_rfl) (fun _ _ _ h => h) (Or.inl ⟨by rfl, ?yyu7⟩) (by assumption) ?rru7
  case yyu7 => (intro w hSw; (try dsimp only at hSw); go_simp; (try with_reducible rfl))
  try simp only [Act.put]
  refine wpAnyH_take (i := 9) (v := ?vvu8) rfl (by kernel_rfl) (by kernel_rfl) (by kernel_rfl) (fun _ _ _ h => h) (Or.inl ⟨by rfl, ?yyu8⟩) (by assumption) ?rru8
  case yyu8 => (intro w hSw; (try dsimp only at hSw); go_simp; (try with_reducible rfl))
  try simp only [Act.put]
  refine wpAnyH_take (i := 10) (v := ?vvu9) rfl (by kernel_rfl) (by kernel_rfl) (by kernel_rfl) (fun _ _ _ h => h) (Or.inl ⟨by rfl, ?yyu9⟩) (by assumption) ?rru9
  case yyu9 => (intro w hSw; (try dsimp only at hSw); go_simp; (try with_reducible rfl))
  try simp only [Act.put]
  refine wpAnyH_take (i := 11) (v := ?vvu10) rfl (by kernel_rfl) (by kernel_rfl) (by kernel_rfl) (fun _ _ _ h => h) (Or.inl ⟨by rfl, ?yyu10⟩) (by assumption) ?rru10
  case yyu10 => (intro w hSw; (try dsimp only at hSw); go_simp; (try with_reducible rfl))
  try simp only [Act.put]
  refine wpAnyH_ready (rs := [5]) (by kernel_rfl) (by simp) ?_
  refine AllReadyH.cons rfl (fun K hK => ?_) AllReadyH.nil
  go_simp
  go_wp2_with (go_at_call 78; refine (HEN.out x _ HX.out.1 (HDW.out _ HDV.out)).mono ?_; rw [HXX.out]; rintro e9 w0 ⟨rfl, hb0⟩)
  have B0 : Hid (Below V.heap.size V w0) := HDV.out.trans (hb0.mono HDV.out.size)
  clear hb0
  generalize enS C (dA x) (!dB x) = s0
  refine hK.out _ _ (HSV.out _ B0.out) (fun hHeld => ?_)
  clear hK K
  try simp only [Act.put]
  refine wpAnyH_take (i := 6) (v := ?vvu11) rfl (by kernel_rfl) (by kernel_rfl) (by kernel_rfl) (fun _ _ _ h => h) (Or.inl ⟨by rfl, ?yyu11⟩) (by assumption) ?rru11
  case yyu11 => (intro w hSw; (try dsimp only at hSw); go_simp; (try with_reducible rfl))
  try simp only [Act.put]
  refine wpAnyH_ready (rs := [12]) (by kernel_rfl) (by simp) ?_
  refine AllReadyH.cons rfl (fun K hK => ?_) AllReadyH.nil
  go_simp
  go_wp2_with (go_at_call 78; refine (HEN.out y _ HX.out.2 (HDW.out _ B0.out)).mono ?_; rw [HYY.out]; rintro e9 w1 ⟨rfl, hb1⟩)
  have B1 : Hid (Below V.heap.size V w1) := B0.out.trans (hb1.mono B0.out.size)
  clear hb1
  generalize enS C (dA y) (!dB y) = s1
  refine hK.out _ _ (HSV.out _ B1.out) (fun hHeld => ?_)
  clear hK K
  try simp only [Act.put]
  refine wpAnyH_take (i := 13) (v := ?vvu12) rfl (by kernel_rfl) (by kernel_rfl) (by kernel_rfl) (fun _ _ _ h => h) (Or.inl ⟨by rfl, ?yyu12⟩) (by assumption) ?rru12
  case yyu12 => (intro w hSw; (try dsimp only at hSw); go_simp; (try with_reducible rfl))
  try simp only [Act.put]
  refine wpAnyH_take (i := 14) (v := ?vvu13) rfl (by kernel_rfl) (by kernel_rfl) (by kernel_rfl) (fun _ _ _ h => h) (Or.inl ⟨by rfl, ?yyu13⟩) (by assumption) ?rru13
  case yyu13 => (intro w hSw; (try dsimp only at hSw); go_simp; (try with_reducible rfl))
  try simp only [Act.put]
  refine wpAnyH_take (i := 15) (v := ?vvu14) rfl (by kernel_rfl) (by kernel_rfl) (by kernel_rfl) (fun _ _ _ h => h) (Or.inl ⟨by rfl, ?yyu14⟩) (by assumption) ?rru14
  case yyu14 => (intro w hSw; (try dsimp only at hSw); go_simp; (try with_reducible rfl))
  try simp only [Act.put]
  refine wpAnyH_done (by kernel_rfl) ?_ _
  clear hHeld
  have HBW : Hid (Below w.heap.size w w1) := HBV.out.trans (B1.out.mono (by omega))
  clear HSV HDW HXX HYY HEN HCC HX
  by_cases h0 : X = k
  · have c0 : decide (X = k) = true := by simp [h0]
    have e0 : (((X : Nat) : Int) == ((k : Nat) : Int)) = true := by simp; omega
    by_cases h1 : Y = j
    · have c1 : decide (Y = j) = true := by simp [h1]
      have e1 : (((Y : Nat) : Int) == ((j : Nat) : Int)) = true := by simp; omega
      by_cases h2 : X = j
      · have c2 : decide (X = j) = true := by simp [h2]
        have e2 : (((X : Nat) : Int) == ((j : Nat) : Int)) = true := by simp; omega
        by_cases h3 : Y = k
        · have c3 : decide (Y = k) = true := by simp [h3]
          have e3 : (((Y : Nat) : Int) == ((k : Nat) : Int)) = true := by simp; omega
          have HR := hid_of (show ((decide (X = k) && decide (Y = j)) || (decide (X = j) && decide (Y = k))) = true by rw [c0, c1, c2, c3]; rfl)
          clear h0 h1 h2 h3 c0 c1 c2 c3
          go_wp2
          go_ret
          exact ⟨ret_bool HR.out, HBW.out⟩
        · have c3 : decide (Y = k) = false := by simp [h3]
          have e3 : (((Y : Nat) : Int) == ((k : Nat) : Int)) = false := by simp; omega
          have HR := hid_of (show ((decide (X = k) && decide (Y = j)) || (decide (X = j) && decide (Y = k))) = true by rw [c0, c1, c2, c3]; rfl)
          clear h0 h1 h2 h3 c0 c1 c2 c3
          go_wp2
          go_ret
          exact ⟨ret_bool HR.out, HBW.out⟩
      · have c2 : decide (X = j) = false := by simp [h2]
        have e2 : (((X : Nat) : Int) == ((j : Nat) : Int)) = false := by simp; omega
        by_cases h3 : Y = k
        · have c3 : decide (Y = k) = true := by simp [h3]
          have e3 : (((Y : Nat) : Int) == ((k : Nat) : Int)) = true := by simp; omega
          have HR := hid_of (show ((decide (X = k) && decide (Y = j)) || (decide (X = j) && decide (Y = k))) = true by rw [c0, c1, c2, c3]; rfl)
          clear h0 h1 h2 h3 c0 c1 c2 c3
          go_wp2
          go_ret
          exact ⟨ret_bool HR.out, HBW.out⟩
        · have c3 : decide (Y = k) = false := by simp [h3]
          have e3 : (((Y : Nat) : Int) == ((k : Nat) : Int)) = false := by simp; omega
          have HR := hid_of (show ((decide (X = k) && decide (Y = j)) || (decide (X = j) && decide (Y = k))) = true by rw [c0, c1, c2, c3]; rfl)
          clear h0 h1 h2 h3 c0 c1 c2 c3
          go_wp2
          go_ret
          exact ⟨ret_bool HR.out, HBW.out⟩
    · have c1 : decide (Y = j) = false := by simp [h1]
      have e1 : (((Y : Nat) : Int) == ((j : Nat) : Int)) = false := by simp; omega
      by_cases h2 : X = j
      · have c2 : decide (X = j) = true := by simp [h2]
        have e2 : (((X : Nat) : Int) == ((j : Nat) : Int)) = true := by simp; omega
        by_cases h3 : Y = k
        · have c3 : decide (Y = k) = true := by simp [h3]
          have e3 : (((Y : Nat) : Int) == ((k : Nat) : Int)) = true := by simp; omega
          have HR := hid_of (show ((decide (X = k) && decide (Y = j)) || (decide (X = j) && decide (Y = k))) = true by rw [c0, c1, c2, c3]; rfl)
          clear h0 h1 h2 h3 c0 c1 c2 c3
          go_wp2
          go_ret
          exact ⟨ret_bool HR.out, HBW.out⟩
        · have c3 : decide (Y = k) = false := by simp [h3]
          have e3 : (((Y : Nat) : Int) == ((k : Nat) : Int)) = false := by simp; omega
          have HR := hid_of (show ((decide (X = k) && decide (Y = j)) || (decide (X = j) && decide (Y = k))) = false by rw [c0, c1, c2, c3]; rfl)
          clear h0 h1 h2 h3 c0 c1 c2 c3
          go_wp2
          go_ret
          exact ⟨ret_bool HR.out, HBW.out⟩
      · have c2 : decide (X = j) = false := by simp [h2]
        have e2 : (((X : Nat) : Int) == ((j : Nat) : Int)) = false := by simp; omega
        by_cases h3 : Y = k
        · have c3 : decide (Y = k) = true := by simp [h3]
          have e3 : (((Y : Nat) : Int) == ((k : Nat) : Int)) = true := by simp; omega
          have HR := hid_of (show ((decide (X = k) && decide (Y = j)) || (decide (X = j) && decide (Y = k))) = false by rw [c0, c1, c2, c3]; rfl)
          clear h0 h1 h2 h3 c0 c1 c2 c3
          go_wp2
          go_ret
          exact ⟨ret_bool HR.out, HBW.out⟩
        · have c3 : decide (Y = k) = false := by simp [h3]
          have e3 : (((Y : Nat) : Int) == ((k : Nat) : Int)) = false := by simp; omega
          have HR := hid_of (show ((decide (X = k) && decide (Y = j)) || (decide (X = j) && decide (Y = k))) = false by rw [c0, c1, c2, c3]; rfl)
          clear h0 h1 h2 h3 c0 c1 c2 c3
          go_wp2
          go_ret
          exact ⟨ret_bool HR.out, HBW.out⟩
  · have c0 : decide (X = k) = false := by simp [h0]
    have e0 : (((X : Nat) : Int) == ((k : Nat) : Int)) = false := by simp; omega
    by_cases h1 : Y = j
    · have c1 : decide (Y = j) = true := by simp [h1]
      have e1 : (((Y : Nat) : Int) == ((j : Nat) : Int)) = true := by simp; omega
      by_cases h2 : X = j
      · have c2 : decide (X = j) = true := by simp [h2]
        have e2 : (((X : Nat) : Int) == ((j : Nat) : Int)) = true := by simp; omega
        by_cases h3 : Y = k
        · have c3 : decide (Y = k) = true := by simp [h3]
          have e3 : (((Y : Nat) : Int) == ((k : Nat) : Int)) = true := by simp; omega
          have HR := hid_of (show ((decide (X = k) && decide (Y = j)) || (decide (X = j) && decide (Y = k))) = true by rw [c0, c1, c2, c3]; rfl)
          clear h0 h1 h2 h3 c0 c1 c2 c3
          go_wp2
          go_ret
          exact ⟨ret_bool HR.out, HBW.out⟩
        · have c3 : decide (Y = k) = false := by simp [h3]
          have e3 : (((Y : Nat) : Int) == ((k : Nat) : Int)) = false := by simp; omega
          have HR := hid_of (show ((decide (X = k) && decide (Y = j)) || (decide (X = j) && decide (Y = k))) = false by rw [c0, c1, c2, c3]; rfl)
          clear h0 h1 h2 h3 c0 c1 c2 c3
          go_wp2
          go_ret
          exact ⟨ret_bool HR.out, HBW.out⟩
      · have c2 : decide (X = j) = false := by simp [h2]
        have e2 : (((X : Nat) : Int) == ((j : Nat) : Int)) = false := by simp; omega
        by_cases h3 : Y = k
        · have c3 : decide (Y = k) = true := by simp [h3]
          have e3 : (((Y : Nat) : Int) == ((k : Nat) : Int)) = true := by simp; omega
          have HR := hid_of (show ((decide (X = k) && decide (Y = j)) || (decide (X = j) && decide (Y = k))) = false by rw [c0, c1, c2, c3]; rfl)
          clear h0 h1 h2 h3 c0 c1 c2 c3
          go_wp2
          go_ret
          exact ⟨ret_bool HR.out, HBW.out⟩
        · have c3 : decide (Y = k) = false := by simp [h3]
          have e3 : (((Y : Nat) : Int) == ((k : Nat) : Int)) = false := by simp; omega
          have HR := hid_of (show ((decide (X = k) && decide (Y = j)) || (decide (X = j) && decide (Y = k))) = false by rw [c0, c1, c2, c3]; rfl)
          clear h0 h1 h2 h3 c0 c1 c2 c3
          go_wp2
          go_ret
          exact ⟨ret_bool HR.out, HBW.out⟩
    · have c1 : decide (Y = j) = false := by simp [h1]
      have e1 : (((Y : Nat) : Int) == ((j : Nat) : Int)) = false := by simp; omega
      by_cases h2 : X = j
      · have c2 : decide (X = j) = true := by simp [h2]
        have e2 : (((X : Nat) : Int) == ((j : Nat) : Int)) = true := by simp; omega
        by_cases h3 : Y = k
        · have c3 : decide (Y = k) = true := by simp [h3]
          have e3 : (((Y : Nat) : Int) == ((k : Nat) : Int)) = true := by simp; omega
          have HR := hid_of (show ((decide (X = k) && decide (Y = j)) || (decide (X = j) && decide (Y = k))) = true by rw [c0, c1, c2, c3]; rfl)
          clear h0 h1 h2 h3 c0 c1 c2 c3
          go_wp2
          go_ret
          exact ⟨ret_bool HR.out, HBW.out⟩
        · have c3 : decide (Y = k) = false := by simp [h3]
          have e3 : (((Y : Nat) : Int) == ((k : Nat) : Int)) = false := by simp; omega
          have HR := hid_of (show ((decide (X = k) && decide (Y = j)) || (decide (X = j) && decide (Y = k))) = false by rw [c0, c1, c2, c3]; rfl)
          clear h0 h1 h2 h3 c0 c1 c2 c3
          go_wp2
          go_ret
          exact ⟨ret_bool HR.out, HBW.out⟩
      · have c2 : decide (X = j) = false := by simp [h2]
        have e2 : (((X : Nat) : Int) == ((j : Nat) : Int)) = false := by simp; omega
        by_cases h3 : Y = k
        · have c3 : decide (Y = k) = true := by simp [h3]
          have e3 : (((Y : Nat) : Int) == ((k : Nat) : Int)) = true := by simp; omega
          have HR := hid_of (show ((decide (X = k) && decide (Y = j)) || (decide (X = j) && decide (Y = k))) = false by rw [c0, c1, c2, c3]; rfl)
          clear h0 h1 h2 h3 c0 c1 c2 c3
          go_wp2
          go_ret
          exact ⟨ret_bool HR.out, HBW.out⟩
        · have c3 : decide (Y = k) = false := by simp [h3]
          have e3 : (((Y : Nat) : Int) == ((k : Nat) : Int)) = false := by simp; omega
          have HR := hid_of (show ((decide (X = k) && decide (Y = j)) || (decide (X = j) && decide (Y = k))) = false by rw [c0, c1, c2, c3]; rfl)
          clear h0 h1 h2 h3 c0 c1 c2 c3
          go_wp2
          go_ret
          exact ⟨ret_bool HR.out, HBW.out⟩
end Go.Proofs.Ytagaajlbkfkaiaa
/- Moves: the walk of bench.layered. Made by genmvl.py. -/
namespace Go.Proofs.Ytagaajlbkfkaiaa
open Go.RowKit

/-- Is an arc above where it begins (false), where it ends (true)? -/
def hiB (C : List Cr) (x : Nat) (p : Bool) : Bool := decide (enS C x p % 2 = 1)
def topB (C : List Cr) (l : List Nat) : Bool := l.any fun j => hiB C (dA j) false && hiB C (dA j) true
def botB (C : List Cr) (l : List Nat) : Bool := l.any fun j => !hiB C (dA j) false && !hiB C (dA j) true
theorem top_next (C : List Cr) (l : List Nat) (i : Nat) (h : i < l.length) : topB C (l.take (i + 1)) = (topB C (l.take i) || (hiB C (dA (l.getD i 0)) false && hiB C (dA (l.getD i 0)) true)) := by
  have e : l.take (i + 1) = l.take i ++ [l.getD i 0] := by
    rw [List.take_add_one, List.getD_eq_getElem?_getD, List.getElem?_eq_getElem h]
    rfl
  rw [e]
  unfold topB
  rw [List.any_append]
  simp
theorem bot_next (C : List Cr) (l : List Nat) (i : Nat) (h : i < l.length) : botB C (l.take (i + 1)) = (botB C (l.take i) || (!hiB C (dA (l.getD i 0)) false && !hiB C (dA (l.getD i 0)) true)) := by
  have e : l.take (i + 1) = l.take i ++ [l.getD i 0] := by
    rw [List.take_add_one, List.getD_eq_getElem?_getD, List.getElem?_eq_getElem h]
    rfl
  rw [e]
  unfold botB
  rw [List.any_append]
  simp

set_option maxHeartbeats 8000000 in
set_option maxRecDepth 100000 in
theorem layered_any (a : Option Addr) (cap : Nat) (C : List Cr) (loops : Int) (gF cF gT cT : Nat) (g n c : Nat) (l : List Nat) (w : World) (hm : mayD C loops = true) (hd : Dr w a cap C gF gT) (hg : g < w.heap.size) (hn : l.length = n) (hn9 : n ≤ 1000)
    (hj : ∀ k, k < n → 1 ≤ l.getD k 0 ∧ l.getD k 0 ≤ 4 * C.length)
    (hc : ∀ k, k < n → w.cell? ⟨g, k * 2, none⟩ = some (.int .i64 (dA (l.getD k 0) : Nat)) ∧ w.cell? ⟨g, k * 2 + 1, none⟩ = some (.bool (dB (l.getD k 0)))) :
    Calls Try.prog 114 #[drV a cap C loops gF cF gT cT, .slice (some ⟨g, 0, none⟩) n c] w fun e w' => e = .returned (.bool (topB C l && botB C l)) ∧ Below w.heap.size w w' := by
  unfold drV
  have HD := hid_of hd
  have HM := hid_of hm
  have HJ := hid_of hj
  have HCC := hid_of hc
  have HN := hid_of hn
  have hl16 := may_len hm
  have HSP := hid_of (fun (i : Int) (s : Nat) (W : World) (hs : s < 4) => spotAbove_any i s W hs)
  obtain ⟨V, hV⟩ : ∃ V, V = w.alloc (.cells #[.slice a C.length cap, .int .i64 loops, .slice (some ⟨gF, 0, none⟩) (2 * C.length + 1) cF, .slice (some ⟨gT, 0, none⟩) (2 * C.length + 1) cT] 63) := ⟨_, rfl⟩
  have HV := hid_of hV
  have HBV : Hid (Below w.heap.size w V) := (by rw [hV]; exact (Below.refl _ _).alloc (Nat.le_refl _) _)
  have HT0 : Hid (V.heap[w.heap.size]? = some (.cells #[.slice a C.length cap, .int .i64 loops, .slice (some ⟨gF, 0, none⟩) (2 * C.length + 1) cF, .slice (some ⟨gT, 0, none⟩) (2 * C.length + 1) cT] 63 (0, 0))) := (by rw [hV]; exact alloc_at rfl)
  have hsV : V.heap.size = w.heap.size + 1 := by rw [hV]; simp
  clear hV hd hm hj hc hn
  go_enter Try.func114, Try.ntmps114
  go_wp2
  rw [← HV.out]
  go_loopw [5, 6, 13] (fun v5 v6 v13 wr => ∃ (i : Nat) (t b : Bool), i ≤ n ∧ v13 = .int .i64 (i : Nat) ∧ v5 = .bool t ∧ v6 = .bool b ∧ Hid (topB C (l.take i) = t) ∧ Hid (botB C (l.take i) = b) ∧ Hid (Below V.heap.size V wr)) (fun _ _ v13 _ => n - (intOf v13).toNat)
  case atStart => exact ⟨0, false, false, Nat.zero_le _, rfl, rfl, rfl, rfl, rfl, Below.refl _ _⟩
  case round =>
    rename World => W1
    obtain ⟨i, t, b, hi, rfl, rfl, rfl, ht, hb, hB⟩ := hrel
    have hsW := hB.out.size
    have HBW := hid_of hB.out
    have HT := hid_of ht.out
    have HBo := hid_of hb.out
    clear ht hb hB
    by_cases hil : i < n
    · have hii : (i : Int) < (n : Int) := by omega
      obtain ⟨j, hj⟩ : ∃ j, l.getD i 0 = j := ⟨_, rfl⟩
      have hr := HJ.out i hil
      have hcc := HCC.out i hil
      have HTN := hid_of (top_next C l i (by rw [HN.out]; exact hil))
      have HBN := hid_of (bot_next C l i (by rw [HN.out]; exact hil))
      rw [hj] at hr hcc HTN HBN
      rw [HT.out] at HTN
      rw [HBo.out] at HBN
      have hBA : Below w.heap.size w W1 := HBV.out.trans (HBW.out.mono (by omega))
      have c0 : W1.cell? ⟨g, i * 2, none⟩ = some (.int .i64 (dA j : Nat)) := bcell hBA hg hcc.1
      have c1 : W1.cell? ⟨g, i * 2 + 1, none⟩ = some (.bool (dB j)) := bcell hBA hg hcc.2
      have hgW : g < W1.heap.size := by omega
      obtain ⟨x, hx⟩ : ∃ x, dA j = x := ⟨_, rfl⟩
      have hxr := dA_le hr.1 hr.2
      have hDr := HD.out.on hBA
      have hen := hDr.endAt HM.out x (by omega) (by omega)
      have hes0 := (en_may HM.out x false (by omega) (by omega)).2.2.1
      have hes1 := (en_may HM.out x true (by omega) (by omega)).2.2.1
      obtain ⟨p0, hp0⟩ : ∃ p, hiB C x false = p := ⟨_, rfl⟩
      obtain ⟨p1, hp1⟩ : ∃ p, hiB C x true = p := ⟨_, rfl⟩
      rw [hx] at c0 HTN HBN
      rw [hp0, hp1] at HTN HBN
      unfold hiB at hp0 hp1
      obtain ⟨cf, ef⟩ : ∃ q, enC C x false = q := ⟨_, rfl⟩
      obtain ⟨sf, fs⟩ : ∃ q, enS C x false = q := ⟨_, rfl⟩
      obtain ⟨ct, et⟩ : ∃ q, enC C x true = q := ⟨_, rfl⟩
      obtain ⟨st, ts⟩ : ∃ q, enS C x true = q := ⟨_, rfl⟩
      rw [ef, fs, et, ts] at hen
      rw [fs] at hp0 hes0
      rw [ts] at hp1 hes1
      have HA0 := hid_of (fun W => HSP.out (cf : Int) sf W hes0)
      have HA1 := hid_of (fun W => HSP.out (ct : Int) st W hes1)
      rw [hp0] at HA0
      rw [hp1] at HA1
      have HEN := hid_of hen
      have hltT := hDr.ltT
      have hltF := hDr.ltF
      have hxi : ((x : Nat) : Int) < 2 * (C.length : Int) + 1 := by omega
      have hxn : x < 2 * C.length + 1 := by omega
      have HBA := hid_of hBA
      obtain ⟨Z, hZ⟩ : ∃ Z, Z = W1.alloc (.cells #[.int .i64 (x : Nat), .bool (dB j)] 26) := ⟨_, rfl⟩
      have HZ := hid_of hZ
      have hsZ : Z.heap.size = W1.heap.size + 1 := by rw [hZ]; simp
      have HBZ : Hid (Below W1.heap.size W1 Z) := (by rw [hZ]; exact (Below.refl _ _).alloc (Nat.le_refl _) _)
      have HQZ : Hid (Z.heap[W1.heap.size]? = some (.cells #[.int .i64 (x : Nat), .bool (dB j)] 26 (0, 0))) := (by rw [hZ]; exact alloc_at rfl)
      have HSV : Hid (∀ W, Below Z.heap.size Z W → (fun X : World => X.cell? ⟨w.heap.size, 2, none⟩ = some (.slice (some ⟨gF, 0, none⟩) (2 * C.length + 1) cF) ∧ X.cell? ⟨w.heap.size, 3, none⟩ = some (.slice (some ⟨gT, 0, none⟩) (2 * C.length + 1) cT) ∧ X.cell? ⟨W1.heap.size, 0, none⟩ = some (.int .i64 (x : Nat)) ∧ X.cell? ⟨gF, x * 2, none⟩ = some (.int .i64 (cf : Nat)) ∧ X.cell? ⟨gF, x * 2 + 1, none⟩ = some (.int .i64 (sf : Nat)) ∧ X.cell? ⟨gT, x * 2, none⟩ = some (.int .i64 (ct : Nat)) ∧ X.cell? ⟨gT, x * 2 + 1, none⟩ = some (.int .i64 (st : Nat))) W) := fun W hW => by
        have k0 := (hW.block _ (by omega)).trans ((HBZ.out.block _ (by omega)).trans ((HBW.out.block _ (by omega)).trans HT0.out))
        have k1 := (hW.block _ (by omega)).trans HQZ.out
        have hb := HBZ.out.trans (hW.mono (by omega))
        obtain ⟨q1, q2, q3, q4⟩ := HEN.out
        exact ⟨block_cell k0 rfl, block_cell k0 rfl, block_cell k1 rfl, bcell hb hltF q3, bcell hb hltF q4, bcell hb hltT q1, bcell hb hltT q2⟩
      have HDZ : Hid (Below Z.heap.size Z Z.drew) := (Below.refl _ _).drew
      have HBZV : Hid (Below V.heap.size V Z) := HBW.out.trans (HBZ.out.mono (by omega))
      clear hZ hj hx hr hcc hxr hDr hen hes0 hes1 hp0 hp1 ef fs et ts hBA
      go_wp2
      rw [← HZ.out]
      refine wp_region_held_drew (S := fun X : World => X.cell? ⟨w.heap.size, 2, none⟩ = some (.slice (some ⟨gF, 0, none⟩) (2 * C.length + 1) cF) ∧ X.cell? ⟨w.heap.size, 3, none⟩ = some (.slice (some ⟨gT, 0, none⟩) (2 * C.length + 1) cT) ∧ X.cell? ⟨W1.heap.size, 0, none⟩ = some (.int .i64 (x : Nat)) ∧ X.cell? ⟨gF, x * 2, none⟩ = some (.int .i64 (cf : Nat)) ∧ X.cell? ⟨gF, x * 2 + 1, none⟩ = some (.int .i64 (sf : Nat)) ∧ X.cell? ⟨gT, x * 2, none⟩ = some (.int .i64 (ct : Nat)) ∧ X.cell? ⟨gT, x * 2 + 1, none⟩ = some (.int .i64 (st : Nat))) (by kernel_rfl) (HSV.out _ HDZ.out) (fun hHeld => ?_)
      refine wpAnyH_take (i := 0) (v := ?vvu1) rfl (by kernel_rfl) (by kernel_rfl) (by kernel_rfl) (fun _ _ _ h => h) (Or.inl ⟨by rfl, ?yyu1⟩) (by assumption) ?rru1
      case yyu1 => (intro w hSw; (try dsimp only at hSw); go_simp; (try with_reducible rfl))
      try simp only [Act.put]
      refine wpAnyH_take (i := 1) (v := ?vvu2) rfl (by kernel_rfl) (by kernel_rfl) (by kernel_rfl) (fun _ _ _ h => h) (Or.inl ⟨by rfl, ?yyu2⟩) (by assumption) ?rru2
      case yyu2 => (intro w hSw; (try dsimp only at hSw); go_simp; (try with_reducible rfl))
      try simp only [Act.put]
      refine wpAnyH_take (i := 2) (v := ?vvu3) rfl (by kernel_rfl) (by kernel_rfl) (by kernel_rfl) (fun _ _ _ h => h) (Or.inl ⟨by rfl, ?yyu3⟩) (by assumption) ?rru3
      case yyu3 => (intro w hSw; (try dsimp only at hSw); go_simp; (try with_reducible rfl))
      try simp only [Act.put]
      refine wpAnyH_take (i := 3) (v := ?vvu4) rfl (by kernel_rfl) (by kernel_rfl) (by kernel_rfl) (fun _ _ _ h => h) (Or.inl ⟨by rfl, ?yyu4⟩) (by assumption) ?rru4
      case yyu4 => (intro w hSw; (try dsimp only at hSw); go_simp; (try with_reducible rfl))
      try simp only [Act.put]
      refine wpAnyH_take (i := 4) (v := ?vvu5) rfl (by kernel_rfl) (by kernel_rfl) (by kernel_rfl) (fun _ _ _ h => h) (Or.inl ⟨by rfl, ?yyu5⟩) (by assumption) ?rru5
      case yyu5 => (intro w hSw; (try dsimp only at hSw); go_simp; (try with_reducible rfl))
      try simp only [Act.put]
      refine wpAnyH_take (i := 5) (v := ?vvu6) rfl (by kernel_rfl) (by kernel_rfl) (by kernel_rfl) (fun _ _ _ h => h) (Or.inl ⟨by rfl, ?yyu6⟩) (by assumption) ?rru6
      case yyu6 => (intro w hSw; (try dsimp only at hSw); go_simp; (try with_reducible rfl))
      try simp only [Act.put]
      refine wpAnyH_take (i := 6) (v := ?vvu7) rfl (by kernel_rfl) (by kernel_rfl) (by kernel_rfl) (fun _ _ _ h => h) (Or.inl ⟨by rfl, ?yyu7⟩) (by assumption) ?rru7
      case yyu7 => (intro w hSw; (try dsimp only at hSw); go_simp; (try with_reducible rfl))
      try simp only [Act.put]
      refine wpAnyH_take (i := 8) (v := ?vvu8) rfl (by kernel_rfl) (by kernel_rfl) (by kernel_rfl) (fun _ _ _ h => h) (Or.inl ⟨by rfl, ?yyu8⟩) (by assumption) ?rru8
      case yyu8 => (intro w hSw; (try dsimp only at hSw); go_simp; (try with_reducible rfl))
      try simp only [Act.put]
      refine wpAnyH_take (i := 9) (v := ?vvu9) rfl (by kernel_rfl) (by kernel_rfl) (by kernel_rfl) (fun _ _ _ h => h) (Or.inl ⟨by rfl, ?yyu9⟩) (by assumption) ?rru9
      case yyu9 => (intro w hSw; (try dsimp only at hSw); go_simp; (try with_reducible rfl))
      try simp only [Act.put]
      refine wpAnyH_take (i := 10) (v := ?vvu10) rfl (by kernel_rfl) (by kernel_rfl) (by kernel_rfl) (fun _ _ _ h => h) (Or.inl ⟨by rfl, ?yyu10⟩) (by assumption) ?rru10
      case yyu10 => (intro w hSw; (try dsimp only at hSw); go_simp; (try with_reducible rfl))
      try simp only [Act.put]
      refine wpAnyH_take (i := 11) (v := ?vvu11) rfl (by kernel_rfl) (by kernel_rfl) (by kernel_rfl) (fun _ _ _ h => h) (Or.inl ⟨by rfl, ?yyu11⟩) (by assumption) ?rru11
      case yyu11 => (intro w hSw; (try dsimp only at hSw); go_simp; (try with_reducible rfl))
      try simp only [Act.put]
      refine wpAnyH_take (i := 12) (v := ?vvu12) rfl (by kernel_rfl) (by kernel_rfl) (by kernel_rfl) (fun _ _ _ h => h) (Or.inl ⟨by rfl, ?yyu12⟩) (by assumption) ?rru12
      case yyu12 => (intro w hSw; (try dsimp only at hSw); go_simp; (try with_reducible rfl))
      try simp only [Act.put]
      refine wpAnyH_take (i := 13) (v := ?vvu13) rfl (by kernel_rfl) (by kernel_rfl) (by kernel_rfl) (fun _ _ _ h => h) (Or.inl ⟨by rfl, ?yyu13⟩) (by assumption) ?rru13
      case yyu13 => (intro w hSw; (try dsimp only at hSw); go_simp; (try with_reducible rfl))
      try simp only [Act.put]
      refine wpAnyH_take (i := 14) (v := ?vvu14) rfl (by kernel_rfl) (by kernel_rfl) (by kernel_rfl) (fun _ _ _ h => h) (Or.inl ⟨by rfl, ?yyu14⟩) (by assumption) ?rru14
      case yyu14 => (intro w hSw; (try dsimp only at hSw); go_simp; (try with_reducible rfl))
      try simp only [Act.put]
      refine wpAnyH_ready (rs := [7]) (by kernel_rfl) (by simp) ?_
      refine AllReadyH.cons rfl (fun K hK => ?_) AllReadyH.nil
      go_simp
      go_wp2_with (go_at_call 126; refine (HA0.out _).mono ?_; rintro e9 w3 ⟨rfl, hb3⟩)
      have B3 : Hid (Below Z.heap.size Z w3) := HDZ.out.trans (hb3.mono HDZ.out.size)
      clear hb3
      refine hK.out _ _ (HSV.out _ B3.out) (fun hHeld => ?_)
      clear hK K
      try simp only [Act.put]
      refine wpAnyH_ready (rs := [15]) (by kernel_rfl) (by simp) ?_
      refine AllReadyH.cons rfl (fun K hK => ?_) AllReadyH.nil
      go_simp
      go_wp2_with (go_at_call 126; refine (HA1.out _).mono ?_; rintro e9 w4 ⟨rfl, hb4⟩)
      have B4 : Hid (Below Z.heap.size Z w4) := B3.out.trans (hb4.mono B3.out.size)
      clear hb4
      refine hK.out _ _ (HSV.out _ B4.out) (fun hHeld => ?_)
      clear hK K
      try simp only [Act.put]
      refine wpAnyH_take (i := 16) (v := ?vvu15) rfl (by kernel_rfl) (by kernel_rfl) (by kernel_rfl) (fun _ _ _ h => h) (Or.inl ⟨by rfl, ?yyu15⟩) (by assumption) ?rru15
      case yyu15 => (intro w hSw; (try dsimp only at hSw); go_simp; (try with_reducible rfl))
      try simp only [Act.put]
      refine wpAnyH_take (i := 17) (v := ?vvu16) rfl (by kernel_rfl) (by kernel_rfl) (by kernel_rfl) (fun _ _ _ h => h) (Or.inl ⟨by rfl, ?yyu16⟩) (by assumption) ?rru16
      case yyu16 => (intro w hSw; (try dsimp only at hSw); go_simp; (try with_reducible rfl))
      try simp only [Act.put]
      refine wpAnyH_done (by kernel_rfl) ?_ _
      clear hHeld HSV HA0 HA1 HSP HEN c0 c1
      have HBF : Hid (Below V.heap.size V w4) := HBZV.out.trans (B4.out.mono (by omega))
      cases t <;> cases b <;> cases p0 <;> cases p1
      all_goals
        go_wp2
        go_roundw
      all_goals first
        | (simp only [intOf]; omega)
        | exact ⟨i + 1, _, _, by omega, by go_num, rfl, rfl, HTN.out, HBN.out, HBF.out⟩
    · obtain rfl : i = n := by omega
      have e : l.take i = l := by rw [← HN.out, List.take_length]
      rw [e] at HT HBo
      have HBX : Hid (Below w.heap.size w W1) := HBV.out.trans (HBW.out.mono (by omega))
      cases t <;> cases b
      · have HR := hid_of (show (topB C l && botB C l) = false by rw [HT.out]; rfl)
        go_wp2
        go_ret
        exact ⟨ret_bool HR.out, HBX.out⟩
      · have HR := hid_of (show (topB C l && botB C l) = false by rw [HT.out]; rfl)
        go_wp2
        go_ret
        exact ⟨ret_bool HR.out, HBX.out⟩
      · have HR := hid_of (show (topB C l && botB C l) = false by rw [HT.out, HBo.out]; rfl)
        go_wp2
        go_ret
        exact ⟨ret_bool HR.out, HBX.out⟩
      · have HR := hid_of (show (topB C l && botB C l) = true by rw [HT.out, HBo.out]; rfl)
        go_wp2
        go_ret
        exact ⟨ret_bool HR.out, HBX.out⟩
end Go.Proofs.Ytagaajlbkfkaiaa
/- Moves: the walks of bench.hasCross and bench.triangle. Made by genmvp.py. -/
namespace Go.Proofs.Ytagaajlbkfkaiaa
open Go.RowKit

/-- Is there such a crossing? -/
def crB (C : List Cr) (k : Int) : Bool := decide (0 ≤ k) && decide (k < (C.length : Int))

set_option maxHeartbeats 2000000 in
set_option maxRecDepth 100000 in
theorem hasCross_any (a : Option Addr) (cap : Nat) (C : List Cr) (loops : Int) (gF cF gT cT : Nat) (k : Int) (w : World) :
    Calls Try.prog 107 #[drV a cap C loops gF cF gT cT, .int .i64 k] w fun e w' => e = .returned (.bool (crB C k)) ∧ Below w.heap.size w w' := by
  unfold drV
  have hb : ∀ o, Below w.heap.size w (w.alloc o) := fun o => (Below.refl _ _).alloc (Nat.le_refl _) o
  by_cases h0 : 0 ≤ k
  · have d0 : decide (0 ≤ k) = true := by simpa using h0
    by_cases h1 : k < (C.length : Int)
    · have d1 : decide (k < (C.length : Int)) = true := by simpa using h1
      have HR := hid_of (show crB C k = true by simp [crB, h0, h1])
      go_enter Try.func107, Try.ntmps107
      go_wp2
      go_ret
      exact ⟨ret_bool HR.out, hb _⟩
    · have d1 : decide (k < (C.length : Int)) = false := by simpa using h1
      have HR := hid_of (show crB C k = false by simp [crB, h1])
      go_enter Try.func107, Try.ntmps107
      go_wp2
      go_ret
      exact ⟨ret_bool HR.out, hb _⟩
  · have d0 : decide (0 ≤ k) = false := by simpa using h0
    have HR := hid_of (show crB C k = false by simp [crB, h0])
    go_enter Try.func107, Try.ntmps107
    go_wp2
    go_ret
    exact ⟨ret_bool HR.out, hb _⟩

end Go.Proofs.Ytagaajlbkfkaiaa
/- Moves: the walk of the closure of bench.pull, and of slices.ContainsFunc over rings of darts. Made by genmw3.py. -/
namespace Go.Proofs.Ytagaajlbkfkaiaa
open Go.RowKit

/-- Has the ring just two darts, one from each of both crossings to the other, one arc above at both ends and one below? -/
def jlB (C : List Cr) (x y : Nat) (l : List Nat) : Bool := decide (l.length = 2) && ((decide (dC C (l.getD 0 0) = x) && decide (dC C (l.getD 1 0) = y)) || (decide (dC C (l.getD 0 0) = y) && decide (dC C (l.getD 1 0) = x))) && (topB C l && botB C l)
/-- A ring of darts, to be read. -/
def RingAt (w : World) (g : Nat) (C : List Cr) (l : List Nat) : Prop := g < w.heap.size ∧ l.length ≤ 1000 ∧ ∀ k, k < l.length → (1 ≤ l.getD k 0 ∧ l.getD k 0 ≤ 4 * C.length) ∧ w.cell? ⟨g, k * 2, none⟩ = some (.int .i64 (dA (l.getD k 0) : Nat)) ∧ w.cell? ⟨g, k * 2 + 1, none⟩ = some (.bool (dB (l.getD k 0)))
theorem RingAt.on {w w' : World} {g : Nat} {C : List Cr} {l : List Nat} (h : RingAt w g C l) (hb : Below w.heap.size w w') : RingAt w' g C l :=
  ⟨Nat.lt_of_lt_of_le h.1 hb.size, h.2.1, fun k hk => ⟨(h.2.2 k hk).1, bcell hb h.1 (h.2.2 k hk).2.1, bcell hb h.1 (h.2.2 k hk).2.2⟩⟩
/-- The bench's box and the move's. -/
def PbAt (a : Option Addr) (cap : Nat) (C : List Cr) (loops : Int) (gF cF gT cT : Nat) (k ua va : Int) (x y : Nat) (ub vb ov : Bool) (pb pm : Nat) (W : World) : Prop := W.heap[pb]? = some (.cells #[.slice a C.length cap, .int .i64 loops, .slice (some ⟨gF, 0, none⟩) (2 * C.length + 1) cF, .slice (some ⟨gT, 0, none⟩) (2 * C.length + 1) cT] 63 (0, 0)) ∧ W.heap[pm]? = some (.cells #[.int .i64 k, .int .i64 (x : Nat), .int .i64 (y : Nat), .int .i64 ua, .bool ub, .int .i64 va, .bool vb, .bool ov] 28 (0, 0))
theorem joins_at (a : Option Addr) (cap : Nat) (C : List Cr) (loops : Int) (gF cF gT cT : Nat) (g c x y : Nat) (l : List Nat) (w : World) (hm : mayD C loops = true) (hd : Dr w a cap C gF gT) (hr : RingAt w g C l) :
    Calls Try.prog 113 #[drV a cap C loops gF cF gT cT, .slice (some ⟨g, 0, none⟩) l.length c, .int .i64 (x : Nat), .int .i64 (y : Nat)] w fun e w' => e = .returned (.bool (decide (l.length = 2) && ((decide (dC C (l.getD 0 0) = x) && decide (dC C (l.getD 1 0) = y)) || (decide (dC C (l.getD 0 0) = y) && decide (dC C (l.getD 1 0) = x))))) ∧ Below w.heap.size w w' := by
  by_cases h2 : l.length = 2
  · have r0 := hr.2.2 0 (by omega)
    have r1 := hr.2.2 1 (by omega)
    rw [h2]
    exact joins_yes a cap C loops gF cF gT cT g c (l.getD 0 0) (l.getD 1 0) x y w hm hd hr.1 r0.1 r1.1 ⟨r0.2.1, r0.2.2, r1.2.1, r1.2.2⟩
  · rw [decide_eq_false h2]
    exact joins_no a cap C loops gF cF gT cT (some ⟨g, 0, none⟩) l.length c (x : Nat) (y : Nat) w h2

set_option maxHeartbeats 4000000 in
set_option maxRecDepth 100000 in
theorem pullIn_any (a : Option Addr) (cap : Nat) (C : List Cr) (loops : Int) (gF cF gT cT : Nat) (k ua va : Int) (x y : Nat) (ub vb ov : Bool) (pb pm g c : Nat) (l : List Nat) (w : World) (hm : mayD C loops = true) (hd : Dr w a cap C gF gT) (hr : RingAt w g C l) (hp : PbAt a cap C loops gF cF gT cT k ua va x y ub vb ov pb pm w) :
    Calls Try.prog 112 #[.slice (some ⟨g, 0, none⟩) l.length c, .pointer (some ⟨pb, 0, none⟩), .pointer (some ⟨pm, 0, none⟩)] w fun e w' => e = .returned (.bool (jlB C x y l)) ∧ Below w.heap.size w w' := by
  have HJ := hid_of (joins_at a cap C loops gF cF gT cT g c x y l w hm hd hr)
  have HLA : Hid (∀ W, Below w.heap.size w W → Calls Try.prog 114 #[drV a cap C loops gF cF gT cT, .slice (some ⟨g, 0, none⟩) l.length c] W fun e w' => e = .returned (.bool (topB C l && botB C l)) ∧ Below W.heap.size W w') := fun W hW => by
    have hr2 := hr.on hW
    exact layered_any a cap C loops gF cF gT cT g l.length c l W hm (hd.on hW) hr2.1 rfl hr2.2.1 (fun j hj => (hr2.2.2 j hj).1) (fun j hj => (hr2.2.2 j hj).2)
  unfold jlB
  obtain ⟨J, hJ⟩ : ∃ J, (decide (l.length = 2) && ((decide (dC C (l.getD 0 0) = x) && decide (dC C (l.getD 1 0) = y)) || (decide (dC C (l.getD 0 0) = y) && decide (dC C (l.getD 1 0) = x)))) = J := ⟨_, rfl⟩
  rw [hJ] at HJ ⊢
  obtain ⟨T, hT⟩ : ∃ T, (topB C l && botB C l) = T := ⟨_, rfl⟩
  rw [hT] at HLA ⊢
  obtain ⟨n, hn⟩ : ∃ n, l.length = n := ⟨_, rfl⟩
  rw [hn] at HJ HLA ⊢
  have HBX : Hid (∀ W, Below w.heap.size w W → PbAt a cap C loops gF cF gT cT k ua va x y ub vb ov pb pm W ∧ pb < W.heap.size ∧ pm < W.heap.size) := fun W hW => by
    have l0 := (Array.getElem?_eq_some_iff.1 hp.1).1
    have l1 := (Array.getElem?_eq_some_iff.1 hp.2).1
    exact ⟨⟨(hW.block _ l0).trans hp.1, (hW.block _ l1).trans hp.2⟩, by have := hW.size; omega, by have := hW.size; omega⟩
  obtain ⟨⟨px, py⟩, pl, pl2⟩ := HBX.out w (Below.refl _ _)
  have pb0 : w.cell? ⟨pb, 0, none⟩ = some (.slice a C.length cap) := block_cell px rfl
  have pb1 : w.cell? ⟨pb, 1, none⟩ = some (.int .i64 loops) := block_cell px rfl
  have pb2 : w.cell? ⟨pb, 2, none⟩ = some (.slice (some ⟨gF, 0, none⟩) (2 * C.length + 1) cF) := block_cell px rfl
  have pb3 : w.cell? ⟨pb, 3, none⟩ = some (.slice (some ⟨gT, 0, none⟩) (2 * C.length + 1) cT) := block_cell px rfl
  have pm0 : w.cell? ⟨pm, 0, none⟩ = some (.int .i64 k) := block_cell py rfl
  have pm1 : w.cell? ⟨pm, 1, none⟩ = some (.int .i64 (x : Nat)) := block_cell py rfl
  have pm2 : w.cell? ⟨pm, 2, none⟩ = some (.int .i64 (y : Nat)) := block_cell py rfl
  have pm3 : w.cell? ⟨pm, 3, none⟩ = some (.int .i64 ua) := block_cell py rfl
  have pm4 : w.cell? ⟨pm, 4, none⟩ = some (.bool ub) := block_cell py rfl
  have pm5 : w.cell? ⟨pm, 5, none⟩ = some (.int .i64 va) := block_cell py rfl
  have pm6 : w.cell? ⟨pm, 6, none⟩ = some (.bool vb) := block_cell py rfl
  have pm7 : w.cell? ⟨pm, 7, none⟩ = some (.bool ov) := block_cell py rfl
  unfold drV at HJ HLA
  clear hJ hT hn hm hd hr hp px py
  cases J with
  | false =>
    go_enter Try.func112, Try.ntmps112
    go_wp2_with (go_at_call 113; refine HJ.out.mono ?_; rintro e9 w3 ⟨rfl, hb3⟩)
    go_ret
    exact ⟨rfl, hb3⟩
  | true =>
    go_enter Try.func112, Try.ntmps112
    go_wp2_with (first
      | (go_at_call 113; refine HJ.out.mono ?_; rintro e9 w3 ⟨rfl, hb3⟩
         have HB3 := hid_of hb3
         obtain ⟨⟨qx, qy⟩, ql, ql2⟩ := HBX.out w3 hb3
         have qb0 : w3.cell? ⟨pb, 0, none⟩ = some (.slice a C.length cap) := block_cell qx rfl
         have qb1 : w3.cell? ⟨pb, 1, none⟩ = some (.int .i64 loops) := block_cell qx rfl
         have qb2 : w3.cell? ⟨pb, 2, none⟩ = some (.slice (some ⟨gF, 0, none⟩) (2 * C.length + 1) cF) := block_cell qx rfl
         have qb3 : w3.cell? ⟨pb, 3, none⟩ = some (.slice (some ⟨gT, 0, none⟩) (2 * C.length + 1) cT) := block_cell qx rfl
         have qm0 : w3.cell? ⟨pm, 0, none⟩ = some (.int .i64 k) := block_cell qy rfl
         have qm1 : w3.cell? ⟨pm, 1, none⟩ = some (.int .i64 (x : Nat)) := block_cell qy rfl
         have qm2 : w3.cell? ⟨pm, 2, none⟩ = some (.int .i64 (y : Nat)) := block_cell qy rfl
         have qm3 : w3.cell? ⟨pm, 3, none⟩ = some (.int .i64 ua) := block_cell qy rfl
         have qm4 : w3.cell? ⟨pm, 4, none⟩ = some (.bool ub) := block_cell qy rfl
         have qm5 : w3.cell? ⟨pm, 5, none⟩ = some (.int .i64 va) := block_cell qy rfl
         have qm6 : w3.cell? ⟨pm, 6, none⟩ = some (.bool vb) := block_cell qy rfl
         have qm7 : w3.cell? ⟨pm, 7, none⟩ = some (.bool ov) := block_cell qy rfl
         clear hb3 qx qy)
      | (go_at_call 114; refine (HLA.out _ HB3.out).mono ?_; rintro e9 w4 ⟨rfl, hb4⟩
         have HB4 := hid_of (HB3.out.trans (hb4.mono HB3.out.size))
         clear hb4))
    go_ret
    exact ⟨rfl, HB4.out⟩

/-- Rings of darts, each of which may be read. -/
def RingsR (w : World) (v : Value) (C : List Cr) (L : List (List Nat)) : Prop := ∃ a cap, v = .slice a L.length cap ∧ (0 < L.length → ∃ b off, a = some ⟨b, off, none⟩ ∧ b < w.heap.size ∧ ∀ j, j < L.length → ∃ g c, w.cell? ⟨b, off + j, none⟩ = some (.slice (some ⟨g, 0, none⟩) (L.getD j []).length c) ∧ RingAt w g C (L.getD j []))
theorem RingsR.on {w w' : World} {v : Value} {C : List Cr} {L : List (List Nat)} (h : RingsR w v C L) (hb : Below w.heap.size w w') : RingsR w' v C L := by
  obtain ⟨a, cap, rfl, f⟩ := h
  refine ⟨a, cap, rfl, fun h0 => ?_⟩
  obtain ⟨b, off, rfl, hlt, hc⟩ := f h0
  refine ⟨b, off, rfl, Nat.lt_of_lt_of_le hlt hb.size, fun j hj => ?_⟩
  obtain ⟨g, c, h1, h2⟩ := hc j hj
  exact ⟨g, c, bcell hb hlt h1, h2.on hb⟩
theorem rings_read {w : World} {B : Nat} {v : Value} {C : List Cr} {loops : Int} (hm : mayD C loops = true) (h : DartsOwn w B v (facesM C)) : RingsR w v C (facesM C) := by
  have hf := facesM_facts hm
  have h16 := may_len hm
  obtain ⟨a, cap, rfl, f⟩ := h.rings (fun j hj => (hf.2 j hj).1)
  refine ⟨a, cap, rfl, fun h0 => ?_⟩
  obtain ⟨b, off, rfl, hlt, -, hc⟩ := f h0
  refine ⟨b, off, rfl, hlt, fun j hj => ?_⟩
  obtain ⟨g, c, h1, h2, -, h3⟩ := hc j hj
  have hj2 := hf.2 j hj
  exact ⟨g, c, h1, h2, by omega, fun k hk => ⟨hj2.2.2 k hk, h3 k hk⟩⟩

set_option maxHeartbeats 4000000 in
set_option maxRecDepth 100000 in
theorem indexRings_any (a : Option Addr) (cap : Nat) (C : List Cr) (loops : Int) (gF cF gT cT : Nat) (k ua va : Int) (x y : Nat) (ub vb ov : Bool) (pb pm : Nat) (v : Value) (L : List (List Nat)) (w : World) (hm : mayD C loops = true) (hd : Dr w a cap C gF gT) (hl : L.length ≤ 1000) (hr : RingsR w v C L) (hp : PbAt a cap C loops gF cF gT cT k ua va x y ub vb ov pb pm w) :
    Calls Try.prog 125 #[v, .func (.func 112) #[] #[.pointer (some ⟨pb, 0, none⟩), .pointer (some ⟨pm, 0, none⟩)]] w fun e w' => ∃ r : Int, e = .returned (.int .i64 r) ∧ decide (0 ≤ r) = L.any (jlB C x y) ∧ Below w.heap.size w w' := by
  have HR := hid_of hr
  have HIN : Hid (∀ (g c : Nat) (l : List Nat) (W : World), Below w.heap.size w W → RingAt W g C l → Calls Try.prog 112 #[.slice (some ⟨g, 0, none⟩) l.length c, .pointer (some ⟨pb, 0, none⟩), .pointer (some ⟨pm, 0, none⟩)] W fun e w' => e = .returned (.bool (jlB C x y l)) ∧ Below W.heap.size W w') := fun g c l W hW hrr =>
    pullIn_any a cap C loops gF cF gT cT k ua va x y ub vb ov pb pm g c l W hm (hd.on hW) hrr ⟨(hW.block _ (Array.getElem?_eq_some_iff.1 hp.1).1).trans hp.1, (hW.block _ (Array.getElem?_eq_some_iff.1 hp.2).1).trans hp.2⟩
  obtain ⟨av, cv, rfl, -⟩ := hr
  obtain ⟨m, hm2⟩ : ∃ m, L.length = m := ⟨_, rfl⟩
  have HM := hid_of hm2
  rw [hm2] at hl HR ⊢
  clear hm2 hm hd hp
  go_enter Try.func125, Try.ntmps125
  go_wp2
  go_loopw [8] (fun v8 wr => ∃ i : Nat, i ≤ m ∧ v8 = .int .i64 (i : Nat) ∧ Hid ((L.take i).any (jlB C x y) = false) ∧ Below w.heap.size w wr) (fun v8 _ => m - (intOf v8).toNat)
  case atStart => exact ⟨0, Nat.zero_le _, rfl, rfl, Below.refl _ _⟩
  case round =>
    obtain ⟨i, him, rfl, hno, hb⟩ := hrel
    by_cases hil : i < m
    · have hiI : (i : Int) < (m : Int) := by omega
      have hiL : i < L.length := by rw [HM.out]; exact hil
      obtain ⟨a0, c0, e0, f0⟩ := HR.out.on hb
      rw [HM.out] at e0
      injection e0 with e1 e2 e3
      obtain ⟨b, off, ea, hbw, hc⟩ := f0 (by omega)
      obtain ⟨g, c, h1, h2⟩ := hc i hiL
      have HX : Hid ((L.take (i + 1)).any (jlB C x y) = ((L.take i).any (jlB C x y) || jlB C x y (L.getD i []))) := (by rw [List.take_add_one, List.getElem?_eq_getElem hiL, List.any_append, List.getD_eq_getElem?_getD, List.getElem?_eq_getElem hiL]; simp : (L.take (i + 1)).any (jlB C x y) = _)
      have HS : Hid (jlB C x y (L.getD i []) = true → L.any (jlB C x y) = true) := fun q => List.any_eq_true.2 ⟨L.getD i [], by rw [List.getD_eq_getElem?_getD, List.getElem?_eq_getElem hiL]; exact List.getElem_mem hiL, q⟩
      have HN := hid_of (HIN.out g c (L.getD i []) wr hb h2)
      generalize L.getD i [] = l at h1 h2 HX HS HN
      obtain ⟨n, hn⟩ : ∃ n, l.length = n := ⟨_, rfl⟩
      rw [hn] at h1 HN
      have ea2 : av = some ⟨b, off, none⟩ := e1.trans ea
      subst ea2
      clear e1 e2 e3 ea hc h2 hn f0
      cases hb0 : jlB C x y l with
      | true =>
        have HA : Hid (L.any (jlB C x y) = true) := HS.out hb0
        rw [hb0] at HN
        clear hb0 HS HX
        go_wp2_with (go_at_call 112; refine HN.out.mono ?_; rintro e9 w9 ⟨rfl, hb9⟩; refine Hid.out ?_)
        refine Lib.hid ?_
        go_wp2
        go_ret
        exact ⟨_, rfl, by rw [HA.out]; exact decide_eq_true (by omega), hb.trans (hb9.mono hb.size)⟩
      | false =>
        have HA : Hid ((L.take (i + 1)).any (jlB C x y) = false) := (by rw [HX.out, hno.out, hb0]; rfl : (L.take (i + 1)).any (jlB C x y) = false)
        rw [hb0] at HN
        clear hb0 HS HX
        go_wp2_with (go_at_call 112; refine HN.out.mono ?_; rintro e9 w9 ⟨rfl, hb9⟩; refine Hid.out ?_)
        refine Lib.hid ?_
        go_wp2
        go_roundw
        case rel => exact ⟨i + 1, by omega, by go_num, HA.out, hb.trans (hb9.mono hb.size)⟩
        case measure => simp only [intOf]; omega
    · obtain rfl : i = m := by omega
      have HA : Hid (L.any (jlB C x y) = false) := (by have := hno.out; rw [← HM.out, List.take_length] at this; exact this : L.any (jlB C x y) = false)
      go_wp2
      go_ret
      exact ⟨_, rfl, by rw [HA.out]; rfl, hb⟩

set_option maxHeartbeats 4000000 in
set_option maxRecDepth 100000 in
theorem containsRings_any (a : Option Addr) (cap : Nat) (C : List Cr) (loops : Int) (gF cF gT cT : Nat) (k ua va : Int) (x y : Nat) (ub vb ov : Bool) (pb pm : Nat) (v : Value) (L : List (List Nat)) (w : World) (hm : mayD C loops = true) (hd : Dr w a cap C gF gT) (hl : L.length ≤ 1000) (hr : RingsR w v C L) (hp : PbAt a cap C loops gF cF gT cT k ua va x y ub vb ov pb pm w) :
    Calls Try.prog 111 #[v, .func (.func 112) #[] #[.pointer (some ⟨pb, 0, none⟩), .pointer (some ⟨pm, 0, none⟩)]] w fun e w' => e = .returned (.bool (L.any (jlB C x y))) ∧ Below w.heap.size w w' := by
  have HI := hid_of (indexRings_any a cap C loops gF cF gT cT k ua va x y ub vb ov pb pm v L w hm hd hl hr hp)
  obtain ⟨av, cv, rfl, -⟩ := hr
  generalize L.any (jlB C x y) = bb at HI ⊢
  generalize L.length = m at HI ⊢
  clear hm hd hp hl
  go_enter Try.func111, Try.ntmps111
  go_wp2_with (go_at_call 125; refine HI.out.mono ?_; rintro e9 w2 ⟨r, rfl, hr, hb2⟩; refine Hid.out ?_)
  refine Lib.hid ?_
  have HR := hid_of hr
  clear hr
  go_wp2
  go_ret
  exact ⟨by rw [← HR.out]; rfl, hb2⟩
end Go.Proofs.Ytagaajlbkfkaiaa

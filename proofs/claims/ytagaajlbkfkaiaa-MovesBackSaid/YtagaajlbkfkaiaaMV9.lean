/- Moves: the walk of bench.push. Made by genmv9.py. -/
import Derived.Test.YtagaajlbkfkaiaaTkhP
import Derived.Test.YtagaajlbkfkaiaaMV9b
import Derived.Test.YtagaajlbkfkaiaaMV8
import Derived.Deep.RegionHeld
namespace Go.Proofs.Ytagaajlbkfkaiaa
open Go.RowKit Go.Maps
set_option maxHeartbeats 16000000
set_option maxRecDepth 100000
theorem has_nat {C : List Cr} {x : Int} (h : hasB C x = true) : ∃ n : Nat, x = (n : Int) ∧ 1 ≤ n ∧ n ≤ 2 * C.length := by
 unfold hasB at h
 simp at h
 exact ⟨x.toNat, by omega, by omega, by omega⟩
theorem spN_ne {C : List Cr} {loops : Int} (hm : mayD C loops = true) {u v : Nat} (h1 : 1 ≤ u) (h2 : u ≤ 2 * C.length) (h3 : 1 ≤ v) (h4 : v ≤ 2 * C.length) (hne : ¬ (u : Int) = (v : Int)) : spN C u ≠ spN C v := by
 obtain ⟨-, -, a3, a4, -⟩ := QJ0 hm u h1 h2
 obtain ⟨-, -, b3, b4, -⟩ := QJ0 hm v h3 h4
 intro e
 unfold spN at e
 have e1 : toC C u = toC C v := by omega
 have e2 : toS C u = toS C v := by omega
 rw [e1, e2, b4] at a4
 exact hne a4.symm
theorem two_swap {s t : Nat} {x y : Int} (h : s ≠ t) : (fun z => if z = t then some y else if z = s then some x else none) = (fun z => if z = s then some x else (fun z => if z = t then some y else none) z : Nat → Option Int) := by
 funext z
 by_cases h1 : z = t
 · have : ¬ z = s := fun e => h (e.symm.trans h1)
   simp [h1]
   intro e
   exact absurd e.symm h
 · simp [h1]
def pushX (C : List Cr) (ua : Int) (ub : Bool) (va : Int) (vb ov : Bool) : List Cr :=
 let n : Int := C.length
 let up := if ub then (2 * n + 1, 2 * n + 2) else (ua, 2 * n + 1)
 let uq := if ub then (ua, 2 * n + 1) else (2 * n + 1, 2 * n + 2)
 let vq := if vb then (2 * n + 3, 2 * n + 4) else (va, 2 * n + 3)
 let vp := if vb then (va, 2 * n + 3) else (2 * n + 3, 2 * n + 4)
 let pl := ov == (ub == vb)
 relN (fun z => if z = spN C va.toNat then some (2 * n + 4) else if z = spN C ua.toNat then some (2 * n + 2) else none) C C.length ++ [QZ1 up vp ov pl, QZ1 uq vq ov (!pl)]
def PushPost (w : World) (C : List Cr) (loops ua va : Int) (b : Bool) (D : List Cr) (e : Ending) (w' : World) : Prop :=
 Below w.heap.size w w' ∧ ((hasB C ua && hasB C va) = false → e = .panicked (QZ7 3)) ∧ ((hasB C ua && hasB C va) = true → (!decide (ua = va) && b) = false → e = .panicked (QZ7 8)) ∧
  ((hasB C ua && hasB C va) = true → (!decide (ua = va) && b) = true → ¬ C.length + 2 ≤ 16 → e = .panicked (QZ7 2)) ∧
  ((hasB C ua && hasB C va) = true → (!decide (ua = va) && b) = true → C.length + 2 ≤ 16 → ∃ a' c', e = .returned (.agg #[.slice a' (C.length + 2) c', .int .i64 loops]) ∧ w'.ownsRow w.heap.size 71 5 (.slice a' (C.length + 2) c') (C.length + 2) (QQ4 D))
theorem UvAt.all {w W : World} {B0 B1 B2 B3 M0 M1 M2 M3 M4 M5 M6 M7 U0 U1 V0 V1 : Value} {g5 g6 : Nat} (h : UvAt w W #[B0, B1, B2, B3] #[M0, M1, M2, M3, M4, M5, M6, M7] #[U0, U1] #[V0, V1] g5 g6) : W.cell? ⟨w.heap.size, 0, none⟩ = some B0 ∧ W.cell? ⟨w.heap.size, 1, none⟩ = some B1 ∧ W.cell? ⟨w.heap.size, 2, none⟩ = some B2 ∧ W.cell? ⟨w.heap.size, 3, none⟩ = some B3 ∧ W.cell? ⟨w.heap.size + 1, 0, none⟩ = some M0 ∧ W.cell? ⟨w.heap.size + 1, 1, none⟩ = some M1 ∧ W.cell? ⟨w.heap.size + 1, 2, none⟩ = some M2 ∧ W.cell? ⟨w.heap.size + 1, 3, none⟩ = some M3 ∧ W.cell? ⟨w.heap.size + 1, 4, none⟩ = some M4 ∧ W.cell? ⟨w.heap.size + 1, 5, none⟩ = some M5 ∧ W.cell? ⟨w.heap.size + 1, 6, none⟩ = some M6 ∧ W.cell? ⟨w.heap.size + 1, 7, none⟩ = some M7 ∧ W.cell? ⟨g5, 0, none⟩ = some U0 ∧ W.cell? ⟨g5, 1, none⟩ = some U1 ∧ W.cell? ⟨g6, 0, none⟩ = some V0 ∧ W.cell? ⟨g6, 1, none⟩ = some V1 ∧ w.heap.size < W.heap.size ∧ w.heap.size + 1 < W.heap.size ∧ g5 < W.heap.size ∧ g6 < W.heap.size :=
 ⟨QQ0 h.b0 rfl, QQ0 h.b0 rfl, QQ0 h.b0 rfl, QQ0 h.b0 rfl, QQ0 h.b1 rfl, QQ0 h.b1 rfl, QQ0 h.b1 rfl, QQ0 h.b1 rfl, QQ0 h.b1 rfl, QQ0 h.b1 rfl, QQ0 h.b1 rfl, QQ0 h.b1 rfl, QQ0 h.b5 rfl, QQ0 h.b5 rfl, QQ0 h.b6 rfl, QQ0 h.b6 rfl, (Array.getElem?_eq_some_iff.1 h.b0).1, (Array.getElem?_eq_some_iff.1 h.b1).1, (Array.getElem?_eq_some_iff.1 h.b5).1, (Array.getElem?_eq_some_iff.1 h.b6).1⟩
theorem push_any (a : Option Addr) (cap : Nat) (C : List Cr) (loops : Int) (gF cF gT cT : Nat) (k x y ua va : Int) (ub vb ov : Bool) (b : Bool) (w : World) (hm : mayD C loops = true) (hd : Dr w a cap C gF gT)
    (hF : hasB C ua = true → hasB C va = true → ∀ W, Dr W a cap C gF gT → Calls Try.prog 110 #[drV a cap C loops gF cF gT cT, .agg #[.int .i64 ua, .bool ub], .agg #[.int .i64 va, .bool vb]] W fun e w' => e = .returned (.bool b) ∧ Below W.heap.size W w') :
    Calls Try.prog 90 #[drV a cap C loops gF cF gT cT, mvV k x y ua ub va vb ov] w fun e w' => PushPost w C loops ua va b (pushX C ua ub va vb ov) e w' := by
 have hl : C.length ≤ 16 := QK4 hm
 have HD := QQ1 hd
 have HM := QQ1 hm
 have HHA := QQ1 (fun (z : Int) (W : World) => has_any a cap C loops gF cF gT cT z W hl)
 have HRA := QQ1 (fun (w : World) (gF cF gT cT : Nat) (b m : Nat) (F : Nat → Option Int) => relaid_any a cap C loops gF cF gT cT b m F w hm)
 have HFF := QQ1 hF
 unfold mvV
 unfold drV at HHA HRA HFF ⊢
 have HI0 : Hid (UvAt w (((((w.alloc (.cells #[.slice a C.length cap, .int .i64 loops, .slice (some ⟨gF, 0, none⟩) (2 * C.length + 1) cF, .slice (some ⟨gT, 0, none⟩) (2 * C.length + 1) cT] 63)).alloc (.cells #[.int .i64 k, .int .i64 x, .int .i64 y, .int .i64 ua, .bool ub, .int .i64 va, .bool vb, .bool ov] 28)).alloc (.cells #[.slice none 0 0, .int .i64 0] 24)).alloc (.cells #[.int .i64 ua, .bool ub] 26)).alloc (.cells #[.int .i64 va, .bool vb] 26)).drew #[.slice a C.length cap, .int .i64 loops, .slice (some ⟨gF, 0, none⟩) (2 * C.length + 1) cF, .slice (some ⟨gT, 0, none⟩) (2 * C.length + 1) cT] #[.int .i64 k, .int .i64 x, .int .i64 y, .int .i64 ua, .bool ub, .int .i64 va, .bool vb, .bool ov] #[.int .i64 ua, .bool ub] #[.int .i64 va, .bool vb] (w.heap.size + 1 + 1 + 1) (w.heap.size + 1 + 1 + 1 + 1)) := (UvAt.on ⟨alloc_old (alloc_old (alloc_old (alloc_old (alloc_at rfl)))), alloc_old (alloc_old (alloc_old (alloc_at (by simp)))), alloc_old (alloc_old (alloc_at (by simp))), alloc_old (alloc_at (by simp)), alloc_at (by simp), by omega, by omega, by omega, ((QV1 _ _ _ _).alloc (by simp; omega) _).alloc (by simp; omega) _⟩ (Below.refl _ _).drew)
 have HI1 : Hid (UvAt w (((((w.alloc (.cells #[.slice a C.length cap, .int .i64 loops, .slice (some ⟨gF, 0, none⟩) (2 * C.length + 1) cF, .slice (some ⟨gT, 0, none⟩) (2 * C.length + 1) cT] 63)).alloc (.cells #[.int .i64 k, .int .i64 x, .int .i64 y, .int .i64 ua, .bool ub, .int .i64 va, .bool vb, .bool ov] 28)).alloc (.cells #[.slice none 0 0, .int .i64 0] 24)).alloc (.cells #[.int .i64 va, .bool vb] 26)).alloc (.cells #[.int .i64 ua, .bool ub] 26)).drew #[.slice a C.length cap, .int .i64 loops, .slice (some ⟨gF, 0, none⟩) (2 * C.length + 1) cF, .slice (some ⟨gT, 0, none⟩) (2 * C.length + 1) cT] #[.int .i64 k, .int .i64 x, .int .i64 y, .int .i64 ua, .bool ub, .int .i64 va, .bool vb, .bool ov] #[.int .i64 ua, .bool ub] #[.int .i64 va, .bool vb] (w.heap.size + 1 + 1 + 1 + 1) (w.heap.size + 1 + 1 + 1)) := (UvAt.on ⟨alloc_old (alloc_old (alloc_old (alloc_old (alloc_at rfl)))), alloc_old (alloc_old (alloc_old (alloc_at (by simp)))), alloc_old (alloc_old (alloc_at (by simp))), alloc_at (by simp), alloc_old (alloc_at (by simp)), by omega, by omega, by omega, ((QV1 _ _ _ _).alloc (by simp; omega) _).alloc (by simp; omega) _⟩ (Below.refl _ _).drew)
 clear hm hd hF
 go_enter Try.func90, Try.ntmps90
 go_wp2
 apply cut_one
 case h =>
  intro key
  go_region_with (fail)
  · have hA := HI0
    revert hA
    generalize (((((w.alloc (.cells #[.slice a C.length cap, .int .i64 loops, .slice (some ⟨gF, 0, none⟩) (2 * C.length + 1) cF, .slice (some ⟨gT, 0, none⟩) (2 * C.length + 1) cT] 63)).alloc (.cells #[.int .i64 k, .int .i64 x, .int .i64 y, .int .i64 ua, .bool ub, .int .i64 va, .bool vb, .bool ov] 28)).alloc (.cells #[.slice none 0 0, .int .i64 0] 24)).alloc (.cells #[.int .i64 ua, .bool ub] 26)).alloc (.cells #[.int .i64 va, .bool vb] 26)).drew = W
    generalize w.heap.size + 1 + 1 + 1 + 1 = g6
    generalize w.heap.size + 1 + 1 + 1 = g5
    revert W g6 g5
    exact key.out
  all_goals first
   | exact key.out _ _ _ HI0
   | exact key.out _ _ _ HI1
 intro W g6 g5 HA
 clear HI0 HI1
 have c0 := HA.out.all
 cases hu : hasB C ua with
 | false =>
  have HU := QQ1 hu
  have HPP : Hid (∀ w', Below w.heap.size w w' → PushPost w C loops ua va b (pushX C ua ub va vb ov) (.panicked (QZ7 3)) w') := fun w' h => ⟨h, fun _ => rfl, fun e => by simp [hu] at e, fun e => by simp [hu] at e, fun e => by simp [hu] at e⟩
  clear hu
  go_wp2_with (first
   | (go_at_call 41; refine (QK0 3 _).mono ?_; rintro e9 w9 ⟨rfl, e4⟩; obtain rfl := e4.symm)
   | (go_at_call 104; refine (HHA.out _ _).mono ?_; rw [HU.out]; rintro e9 w3 ⟨rfl, hbw3⟩; have Hw3 := QQ1 (HA.out.on hbw3); clear hbw3
      have c0 := Hw3.out.all
      skip))
  exact ⟨rfl, HPP.out _ Hw3.out.bel⟩
 | true =>
  have HU := QQ1 hu
  cases hv : hasB C va with
  | false =>
   have HV := QQ1 hv
   have HPP : Hid (∀ w', Below w.heap.size w w' → PushPost w C loops ua va b (pushX C ua ub va vb ov) (.panicked (QZ7 3)) w') := fun w' h => ⟨h, fun _ => rfl, fun e => by simp [hv] at e, fun e => by simp [hv] at e, fun e => by simp [hv] at e⟩
   clear hu hv
   go_wp2_with (first
    | (go_at_call 41; refine (QK0 3 _).mono ?_; rintro e9 w9 ⟨rfl, e4⟩; obtain rfl := e4.symm)
    | (go_at_call 104; refine (HHA.out _ _).mono ?_; rw [HU.out]; rintro e9 w3 ⟨rfl, hbw3⟩; have Hw3 := QQ1 (HA.out.on hbw3); clear hbw3
       clear c0
       have c0 := Hw3.out.all
       skip)
    | (go_at_call 104; refine (HHA.out _ _).mono ?_; rw [HV.out]; rintro e9 w4 ⟨rfl, hbw4⟩; have Hw4 := QQ1 (Hw3.out.on hbw4); clear hbw4))
   exact ⟨rfl, HPP.out _ Hw4.out.bel⟩
  | true =>
   have HV := QQ1 hv
   have HF2 := QQ1 (HFF.out hu hv)
   have huv0 : (hasB C ua && hasB C va) = true := by simp [hu, hv]
   have HUV := QQ1 huv0
   clear hu hv huv0
   by_cases huv : ua = va
   · have HPP : Hid (∀ w', Below w.heap.size w w' → PushPost w C loops ua va b (pushX C ua ub va vb ov) (.panicked (QZ7 8)) w') := fun w' h => ⟨h, fun e => by simp [HUV.out] at e, fun _ _ => rfl, fun _ e => by simp [huv] at e, fun _ e => by simp [huv] at e⟩
     have d0 : (ua != va) = false := by simp [huv]
     have HEQ := QQ1 huv
     clear huv
     go_wp2_with (first
      | (go_at_call 41; refine (QZ3 3 _).mono ?_; rintro e9 w9 ⟨rfl, e4⟩; obtain rfl := e4.symm)
      | (go_at_call 104; refine (HHA.out _ _).mono ?_; rw [HU.out]; rintro e9 w3 ⟨rfl, hbw3⟩; have Hw3 := QQ1 (HA.out.on hbw3); have Sw3 := QQ1 hbw3; clear hbw3
         clear c0
         have c0 := Hw3.out.all
         skip)
      | (go_at_call 104; refine (HHA.out _ _).mono ?_; rw [HV.out]; rintro e9 w4 ⟨rfl, hbw4⟩; have Hw4 := QQ1 (Hw3.out.on hbw4); have Sw4 := QQ1 hbw4; clear hbw4
         clear c0
         have c0 := Hw4.out.all
         skip)
      | (go_at_call 41; refine (QK0 8 _).mono ?_; rintro e9 w9 ⟨rfl, e4⟩; obtain rfl := e4.symm))
     exact ⟨rfl, HPP.out _ Hw4.out.bel⟩
   · have d0 : (ua != va) = true := by simp [huv]
     have HEQ := QQ1 huv
     clear huv
     cases hb : b with
     | false =>
      have HPP : Hid (∀ w', Below w.heap.size w w' → PushPost w C loops ua va b (pushX C ua ub va vb ov) (.panicked (QZ7 8)) w') := fun w' h => ⟨h, fun e => by simp [HUV.out] at e, fun _ _ => rfl, fun _ e => by simp [hb] at e, fun _ e => by simp [hb] at e⟩
      rw [hb] at HF2
      have HBE := QQ1 hb
      clear hb
      go_wp2_with (first
       | (go_at_call 41; refine (QZ3 3 _).mono ?_; rintro e9 w9 ⟨rfl, e4⟩; obtain rfl := e4.symm)
       | (go_at_call 104; refine (HHA.out _ _).mono ?_; rw [HU.out]; rintro e9 w3 ⟨rfl, hbw3⟩; have Hw3 := QQ1 (HA.out.on hbw3); have Sw3 := QQ1 hbw3; clear hbw3
          clear c0
          have c0 := Hw3.out.all
          skip)
       | (go_at_call 104; refine (HHA.out _ _).mono ?_; rw [HV.out]; rintro e9 w4 ⟨rfl, hbw4⟩; have Hw4 := QQ1 (Hw3.out.on hbw4); have Sw4 := QQ1 hbw4; clear hbw4
          clear c0
          have c0 := Hw4.out.all
          skip)
       | (go_at_call 41; refine (QK0 8 _).mono ?_; rintro e9 w9 ⟨rfl, e4⟩; obtain rfl := e4.symm)
       | (go_at_call 110; refine (HF2.out _ (HD.out.on Hw4.out.bel)).mono ?_; rintro e9 w5 ⟨rfl, hbw5⟩; have Hw5 := QQ1 (Hw4.out.on hbw5); have Sw5 := QQ1 hbw5; clear hbw5
          clear c0
          have c0 := Hw5.out.all
          skip))
      exact ⟨rfl, HPP.out _ Hw5.out.bel⟩
     | true =>
      rw [hb] at HF2
      have HBE := QQ1 hb
      clear hb
      by_cases hn : C.length + 2 ≤ 16
      · have d1 : decide ((C.length : Int) + 2 ≤ 16) = true := by simp; omega
        go_wp2_with (first
         | (go_at_call 41; refine (QZ3 3 _).mono ?_; rintro e9 w9 ⟨rfl, e4⟩; obtain rfl := e4.symm)
         | (go_at_call 104; refine (HHA.out _ _).mono ?_; rw [HU.out]; rintro e9 w3 ⟨rfl, hbw3⟩; have Hw3 := QQ1 (HA.out.on hbw3); have Sw3 := QQ1 hbw3; clear hbw3
            clear c0
            have c0 := Hw3.out.all
            skip)
         | (go_at_call 104; refine (HHA.out _ _).mono ?_; rw [HV.out]; rintro e9 w4 ⟨rfl, hbw4⟩; have Hw4 := QQ1 (Hw3.out.on hbw4); have Sw4 := QQ1 hbw4; clear hbw4
            clear c0
            have c0 := Hw4.out.all
            skip)
         | (go_at_call 41; refine (QZ3 8 _).mono ?_; rintro e9 w9 ⟨rfl, e4⟩; obtain rfl := e4.symm)
         | (go_at_call 41; refine (QZ3 2 _).mono ?_; rintro e9 w9 ⟨rfl, e4⟩; obtain rfl := e4.symm)
         | (go_at_call 110; refine (HF2.out _ (HD.out.on Hw4.out.bel)).mono ?_; rintro e9 w5 ⟨rfl, hbw5⟩; have Hw5 := QQ1 (Hw4.out.on hbw5); have Sw5 := QQ1 hbw5; clear hbw5
            clear c0
            have c0 := Hw5.out.all
            skip))
        refine Lib.hid ?_
        clear d0
        obtain ⟨un, rfl, hu1, hu2⟩ := has_nat HU.out
        obtain ⟨vn, rfl, hv1, hv2⟩ := has_nat HV.out
        have hW5 : Below w.heap.size w w5 := Hw5.out.bel
        have HD5 := QQ1 (HD.out.on hW5)
        have hto1 := HD5.out.toAt HM.out un hu1 hu2
        have hto2 := HD5.out.toAt HM.out vn hv1 hv2
        have HSV : Hid (∀ X, Below w5.heap.size w5 X → (fun X : World => X.cell? ⟨w.heap.size, 3, none⟩ = some (.slice (some ⟨gT, 0, none⟩) (2 * C.length + 1) cT) ∧ X.cell? ⟨g5, 0, none⟩ = some (.int .i64 (un : Nat)) ∧ X.cell? ⟨g6, 0, none⟩ = some (.int .i64 (vn : Nat)) ∧ X.cell? ⟨gT, un * 2, none⟩ = some (.int .i64 (toC C un : Nat)) ∧ X.cell? ⟨gT, un * 2 + 1, none⟩ = some (.int .i64 (toS C un : Nat)) ∧ X.cell? ⟨gT, vn * 2, none⟩ = some (.int .i64 (toC C vn : Nat)) ∧ X.cell? ⟨gT, vn * 2 + 1, none⟩ = some (.int .i64 (toS C vn : Nat))) X) := fun X hX => by
         have hU := Hw5.out.on hX
         exact ⟨QQ0 hU.b0 rfl, QQ0 hU.b5 rfl, QQ0 hU.b6 rfl, bcell hX HD5.out.ltT hto1.1, bcell hX HD5.out.ltT hto1.2, bcell hX HD5.out.ltT hto2.1, bcell hX HD5.out.ltT hto2.2⟩
        have hT5 := HD5.out.ltT
        have HDV : Hid (Below w5.heap.size w5 w5.drew) := (Below.refl _ _).drew
        have HMA : Hid (Below w5.heap.size w5 (w5.drew.alloc (.map #[] 0))) := HDV.out.alloc (Nat.le_refl _) _
        have hmk : ∀ W : World, (Instr.makeMap 151 none).run Try.prog W = .ok (.map (some W.heap.size)) (W.alloc (.map #[] 0)) := fun _ => rfl
        have HSU := QQ1 (QJ0 HM.out un hu1 hu2)
        have HSW := QQ1 (QJ0 HM.out vn hv1 hv2)
        obtain ⟨wa, hua, hma, hga⟩ := (MapS.made w5.drew).put (spN C un) (2 * (C.length : Int) + 2) (by have := HSU.out.2; unfold spN; omega) (by omega) (by omega)
        obtain ⟨wb, hub, hmb, hgb⟩ := hma.put (spN C vn) (2 * (C.length : Int) + 4) (by have := HSW.out.2; unfold spN; omega) (by omega) (by omega)
        obtain ⟨wc, huc, hmc, hgc⟩ := (MapS.made w5.drew).put (spN C vn) (2 * (C.length : Int) + 4) (by have := HSW.out.2; unfold spN; omega) (by omega) (by omega)
        obtain ⟨wd, hud, hmd, hgd⟩ := hmc.put (spN C un) (2 * (C.length : Int) + 2) (by have := HSU.out.2; unfold spN; omega) (by omega) (by omega)
        rw [sp_eq C un HSU.out.2.2.1] at hua hud
        rw [sp_eq C vn HSW.out.2.2.1] at hub huc
        have hua1 : (Instr.mapUpdate 151 (.map (some w5.heap.size)) (.agg #[.int .i64 (toC C un : Nat), .int .i64 (toS C un : Nat)]) (.int .i64 (2 * (C.length : Int) + 2))).run Try.prog (w5.alloc (.map #[] 0)).drew = .ok () wa := hua
        have hub1 : (Instr.mapUpdate 151 (.map (some w5.heap.size)) (.agg #[.int .i64 (toC C vn : Nat), .int .i64 (toS C vn : Nat)]) (.int .i64 (2 * (C.length : Int) + 4))).run Try.prog wa = .ok () wb := hub
        have huc1 : (Instr.mapUpdate 151 (.map (some w5.heap.size)) (.agg #[.int .i64 (toC C vn : Nat), .int .i64 (toS C vn : Nat)]) (.int .i64 (2 * (C.length : Int) + 4))).run Try.prog (w5.alloc (.map #[] 0)).drew = .ok () wc := huc
        have hud1 : (Instr.mapUpdate 151 (.map (some w5.heap.size)) (.agg #[.int .i64 (toC C un : Nat), .int .i64 (toS C un : Nat)]) (.int .i64 (2 * (C.length : Int) + 2))).run Try.prog wc = .ok () wd := hud
        clear hua hub huc hud
        have hbA := HMA.out.grown hga (by simp) (fun q hq => by have := Option.some.inj hq; simp at this; omega)
        have hbB := hbA.grown hgb hbA.size (fun q hq => by have := Option.some.inj hq; simp at this; omega)
        have hbC := HMA.out.grown hgc (by simp) (fun q hq => by have := Option.some.inj hq; simp at this; omega)
        have hbD := hbC.grown hgd hbC.size (fun q hq => by have := Option.some.inj hq; simp at this; omega)
        have hne : spN C un ≠ spN C vn := spN_ne HM.out hu1 hu2 hv1 hv2 HEQ.out
        have HXB : Hid (UvAt w wb #[.slice a C.length cap, .int .i64 loops, .slice (some ⟨gF, 0, none⟩) (2 * C.length + 1) cF, .slice (some ⟨gT, 0, none⟩) (2 * C.length + 1) cT] #[.int .i64 k, .int .i64 x, .int .i64 y, .int .i64 (un : Nat), .bool ub, .int .i64 (vn : Nat), .bool vb, .bool ov] #[.int .i64 (un : Nat), .bool ub] #[.int .i64 (vn : Nat), .bool vb] g5 g6 ∧ MapS wb w5.heap.size 2 (fun z => if z = spN C vn then some (2 * (C.length : Int) + 4) else if z = spN C un then some (2 * (C.length : Int) + 2) else none) ∧ Below w5.heap.size w5 wb) := ⟨Hw5.out.on hbB, hmb, hbB⟩
        have HXD : Hid (UvAt w wd #[.slice a C.length cap, .int .i64 loops, .slice (some ⟨gF, 0, none⟩) (2 * C.length + 1) cF, .slice (some ⟨gT, 0, none⟩) (2 * C.length + 1) cT] #[.int .i64 k, .int .i64 x, .int .i64 y, .int .i64 (un : Nat), .bool ub, .int .i64 (vn : Nat), .bool vb, .bool ov] #[.int .i64 (un : Nat), .bool ub] #[.int .i64 (vn : Nat), .bool vb] g5 g6 ∧ MapS wd w5.heap.size 2 (fun z => if z = spN C vn then some (2 * (C.length : Int) + 4) else if z = spN C un then some (2 * (C.length : Int) + 2) else none) ∧ Below w5.heap.size w5 wd) := ⟨Hw5.out.on hbD, by rw [two_swap hne]; exact hmd, hbD⟩
        have HBA := QQ1 hbA
        have HBB := QQ1 hbB
        have HBC := QQ1 hbC
        have HBD := QQ1 hbD
        have hw1 : IntKind.i64.wrap (2 * (C.length : Int)) = 2 * (C.length : Int) := IntWalk.i64_in _ (by omega)
        have hw2 : IntKind.i64.wrap (2 * (C.length : Int) + 2) = 2 * (C.length : Int) + 2 := IntWalk.i64_in _ (by omega)
        have hw4 : IntKind.i64.wrap (2 * (C.length : Int) + 4) = 2 * (C.length : Int) + 4 := IntWalk.i64_in _ (by omega)
        have hli : ((un : Nat) : Int) < 2 * (C.length : Int) + 1 := by omega
        have hlj : ((vn : Nat) : Int) < 2 * (C.length : Int) + 1 := by omega
        clear hma hmb hmc hmd hga hgb hgc hgd hbA hbB hbC hbD hto1 hto2 hne hW5
        clear c0
        apply cut_one
        case h =>
         intro key
         refine wp_region_held_drew (S := fun X : World => X.cell? ⟨w.heap.size, 3, none⟩ = some (.slice (some ⟨gT, 0, none⟩) (2 * C.length + 1) cT) ∧ X.cell? ⟨g5, 0, none⟩ = some (.int .i64 (un : Nat)) ∧ X.cell? ⟨g6, 0, none⟩ = some (.int .i64 (vn : Nat)) ∧ X.cell? ⟨gT, un * 2, none⟩ = some (.int .i64 (toC C un : Nat)) ∧ X.cell? ⟨gT, un * 2 + 1, none⟩ = some (.int .i64 (toS C un : Nat)) ∧ X.cell? ⟨gT, vn * 2, none⟩ = some (.int .i64 (toC C vn : Nat)) ∧ X.cell? ⟨gT, vn * 2 + 1, none⟩ = some (.int .i64 (toS C vn : Nat))) (by kernel_rfl) (HSV.out _ HDV.out) (fun hHeld => ?_)
         refine tk 1 (h := ?_)
         refine tk 2 (h := ?_)
         refine tk 3 (h := ?_)
         refine tk 4 (h := ?_)
         refine tk 5 (h := ?_)
         refine tk 6 (h := ?_)
         refine tk 7 (h := ?_)
         refine tk 8 (h := ?_)
         refine tk 9 (h := ?_)
         refine tk 10 (h := ?_)
         refine tk 12 (h := ?_)
         refine tk 13 (h := ?_)
         refine tk 14 (h := ?_)
         refine tk 15 (h := ?_)
         refine tk 16 (h := ?_)
         refine tk 17 (h := ?_)
         refine tk 18 (h := ?_)
         refine tk 19 (h := ?_)
         refine tk 20 (h := ?_)
         refine tk 21 (h := ?_)
         try simp only [Act.put]
         refine rd1 0 (fun K hK => ?_)
         go_simp
         refine hK.out _ _ (HSV.out _ HMA.out) (fun hHeld => ?_)
         clear hK K
         try simp only [Act.put]
         refine rd2 11 22 (fun K hK => ?_) (fun K hK => ?_)
         · go_simp
           refine hK.out _ _ (HSV.out _ HBA.out) (fun hHeld => ?_)
           clear hK K
           try simp only [Act.put]
           refine rd1 22 (fun K hK => ?_)
           go_simp
           refine hK.out _ _ (HSV.out _ HBB.out) (fun hHeld => ?_)
           clear hK K
           refine tk 23 (h := ?_)
           refine tk 24 (h := ?_)
           try simp only [Act.put]
           refine wpAnyH_done (by kernel_rfl) ?_ _
           have hA := HXB
           revert hA
           generalize wb = Wz
           revert Wz
           exact key.out
         · go_simp
           refine hK.out _ _ (HSV.out _ HBC.out) (fun hHeld => ?_)
           clear hK K
           try simp only [Act.put]
           refine rd1 11 (fun K hK => ?_)
           go_simp
           refine hK.out _ _ (HSV.out _ HBD.out) (fun hHeld => ?_)
           clear hK K
           refine tk 23 (h := ?_)
           refine tk 24 (h := ?_)
           try simp only [Act.put]
           refine wpAnyH_done (by kernel_rfl) ?_ _
           exact key.out _ HXD
        intro W6 HW6
        clear hua1 hub1 huc1 hud1 hmk hw1 hw2 hw4 HBA HBB HBC HBD HXB HXD HSV HMA HDV HA Hw3 Hw4 Sw3 Sw4 Sw5
        rename (∀ (a : Act) (w : World), Code.wp _ _ _ a w → _) => hK6
        refine hK6 _ _ ?_
        have hbl := HW6.out.2.2
        exact push7 a cap C loops gF cF gT cT k x y un vn ub vb ov _ _ _ g5 g6 w W6 _ HM.out hn (HD5.out.on hbl) HW6.out.2.1 HW6.out.1 (fun a' c' w' h1 h2 => ⟨h2, fun e => by simp [HUV.out] at e, fun _ e => by simp [HEQ.out, HBE.out] at e, fun _ _ e => absurd hn e, fun _ _ _ => ⟨a', c', rfl, h1⟩⟩) _ _ _ _ _ _ _ _ _ _ _ _ _ _ _ _ _ _ _ _ _ _ _ _ _ _ _ _ _ _ _ _ _ _ _ _ _ _ _ _ _ _ _ _ _ _ _ _ _ _ _ _ _ _ _ _ _ _ _ _ _ _ _ _ _ _ _ _ _ _ _ _ _ _ _ _ _ _ _ _ _ _ _ _ _ _ _ _ _ _ _ _ _ _ _ _ _ _ _ _ _ _ _ _ _ _ _ _ _ _ _ _ _ _ _ _ _ _ _ _ _ _ _ _ _ _ _ _ _ _ _ _ _ _
      · have HPP : Hid (∀ w', Below w.heap.size w w' → PushPost w C loops ua va b (pushX C ua ub va vb ov) (.panicked (QZ7 2)) w') := fun w' h => ⟨h, fun e => by simp [HUV.out] at e, fun _ e => by simp [HEQ.out, HBE.out] at e, fun _ _ _ => rfl, fun _ _ e => absurd e hn⟩
        have d1 : decide ((C.length : Int) + 2 ≤ 16) = false := by simp; omega
        go_wp2_with (first
         | (go_at_call 41; refine (QZ3 3 _).mono ?_; rintro e9 w9 ⟨rfl, e4⟩; obtain rfl := e4.symm)
         | (go_at_call 104; refine (HHA.out _ _).mono ?_; rw [HU.out]; rintro e9 w3 ⟨rfl, hbw3⟩; have Hw3 := QQ1 (HA.out.on hbw3); have Sw3 := QQ1 hbw3; clear hbw3
            clear c0
            have c0 := Hw3.out.all
            skip)
         | (go_at_call 104; refine (HHA.out _ _).mono ?_; rw [HV.out]; rintro e9 w4 ⟨rfl, hbw4⟩; have Hw4 := QQ1 (Hw3.out.on hbw4); have Sw4 := QQ1 hbw4; clear hbw4
            clear c0
            have c0 := Hw4.out.all
            skip)
         | (go_at_call 41; refine (QZ3 8 _).mono ?_; rintro e9 w9 ⟨rfl, e4⟩; obtain rfl := e4.symm)
         | (go_at_call 41; refine (QK0 2 _).mono ?_; rintro e9 w9 ⟨rfl, e4⟩; obtain rfl := e4.symm)
         | (go_at_call 110; refine (HF2.out _ (HD.out.on Hw4.out.bel)).mono ?_; rintro e9 w5 ⟨rfl, hbw5⟩; have Hw5 := QQ1 (Hw4.out.on hbw5); have Sw5 := QQ1 hbw5; clear hbw5
            clear c0
            have c0 := Hw5.out.all
            skip))
        exact ⟨rfl, HPP.out _ Hw5.out.bel⟩
end Go.Proofs.Ytagaajlbkfkaiaa

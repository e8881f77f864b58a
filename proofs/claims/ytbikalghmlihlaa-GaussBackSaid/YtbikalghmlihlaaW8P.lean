/- Several texts of the proof, one behind the other. -/
import Derived.Test.YtbikalghmlihlaaW4
import Derived.Test.YtbikalghmlihlaaW5P
/- The walk of ref.VisitsOf. -/
namespace Go.Proofs.Ytbikalghmlihlaa
open Go.RowKit

theorem visL_take (C : List Cr) (l : List Nat) (i : Nat) (h : i < l.length) : visL C (l.take (i + 1)) = visL C (l.take i) ++ [vis C (l.getD i 0)] := by
  have e2 : l.take (i + 1) = l.take i ++ [l.getD i 0] := by
    rw [List.take_add_one, List.getD_eq_getElem?_getD, List.getElem?_eq_getElem h]
    rfl
  rw [e2]
  simp [visL]
theorem visL_take_len (C : List Cr) (l : List Nat) (i : Nat) (h : i ≤ l.length) : (visL C (l.take i)).length = i := by simp [visL]; omega
theorem new_cell2 (W : World) (x y : Value) (e : TypeId) : ∀ j u, [x, y][j]? = some u → (W.alloc (.cells #[x, y] e)).cell? ((⟨W.heap.size, 0, none⟩ : Addr).add j) = some u := by
  intro j u hj
  rw [Addr.add_lit, Nat.zero_add]
  have hh : (W.alloc (.cells #[x, y] e)).heap[W.heap.size]? = some (.cells #[x, y] e (0, 0)) := Array.getElem?_push_size
  match j, hj with
  | 0, hj => simp at hj; subst hj; exact block_cell hh rfl
  | 1, hj => simp at hj; subst hj; exact block_cell hh rfl
theorem vis_one (t : Nat × Bool) : ∀ u ∈ [Value.int .i64 (t.1 : Nat), .bool t.2], u.oneCell' = true := vflat_one [t]

end Go.Proofs.Ytbikalghmlihlaa
/- The walk of gauss.Gauss. -/
namespace Go.Proofs.Ytbikalghmlihlaa
open Go.RowKit

set_option maxHeartbeats 2000000 in
set_option maxRecDepth 100000 in
theorem gauss_no (v : Value) (C : List Cr) (loops : Int) (w : World) (hm : mayD C loops = false) (h : Crs w w.heap.size v C) :
    Calls Try.prog 16 #[.agg #[v, .int .i64 loops]] w fun e w' => e = .returned (.tuple #[.slice none 0 0, .slice none 0 0, .int .i64 7]) ∧ Below w.heap.size w w' := by
  have HC : Hid (Crs w w.heap.size v C) := h
  obtain ⟨a, cap, rfl, hn, -⟩ := h
  have HB1 : Hid (Below w.heap.size w (w.alloc (.cells #[.slice a C.length cap, .int .i64 loops] 24))) := (Below.refl _ _).alloc (Nat.le_refl _) _
  go_enter Try.func16, Try.ntmps16
  go_wp2_with (go_at_call 65; refine (of_any _ C loops _ (HC.out.up HB1.out)).mono ?_; rw [hm]; rintro e9 w2 ⟨d, rfl, hb2, hd⟩; rw [hd.no hm]; refine Hid.out ?_)
  refine Lib.hid ?_
  unfold noDrawing
  have HB2 : Hid (Below w.heap.size w w2) := HB1.out.trans (hb2.mono HB1.out.size)
  clear hb2 hd
  go_wp2
  go_ret3
  exact ⟨rfl, HB2.out.alloc HB2.out.size _⟩

set_option maxHeartbeats 4000000 in
set_option maxRecDepth 100000 in
theorem gauss_yes (v : Value) (C : List Cr) (loops : Int) (w : World) (hm : mayD C loops = true) (h : Crs w w.heap.size v C) :
    Calls Try.prog 16 #[.agg #[v, .int .i64 loops]] w fun e w' => ∃ r s, e = .returned (.tuple #[r, s, .int .i64 0]) ∧ VisOwn w' w.heap.size r (visM C) ∧ w'.ownsRow w.heap.size 4 1 s C.length (bools (plusM C)) ∧ Below w.heap.size w w' := by
  have HC : Hid (Crs w w.heap.size v C) := h
  have HM : Hid (mayD C loops = true) := hm
  obtain ⟨a, cap, rfl, hn, -⟩ := h
  have HB1 : Hid (Below w.heap.size w (w.alloc (.cells #[.slice a C.length cap, .int .i64 loops] 24))) := (Below.refl _ _).alloc (Nat.le_refl _) _
  go_enter Try.func16, Try.ntmps16
  go_wp2_with (go_at_call 65; refine (of_any _ C loops _ (HC.out.up HB1.out)).mono ?_; rw [hm]; rintro e9 w2 ⟨d, rfl, hb2, hd⟩; obtain ⟨gF, cF, gT, cT, rfl, hdr⟩ := hd.dr HM.out hb2 (HC.out.up HB1.out); refine Hid.out ?_)
  refine Lib.hid ?_
  have HDR : Hid (Dr w2 a cap C gF gT) := hdr
  unfold drV
  have HB2 : Hid (Below w.heap.size w w2) := HB1.out.trans (hb2.mono HB1.out.size)
  clear hb2 hd hdr hm
  obtain ⟨X, hX⟩ : ∃ X, X = w2.alloc (.cells #[.slice a C.length cap, .int .i64 loops, .slice (some ⟨gF, 0, none⟩) (2 * C.length + 1) cF, .slice (some ⟨gT, 0, none⟩) (2 * C.length + 1) cT] 103) := ⟨_, rfl⟩
  have HWX : Hid (X = w2.alloc (.cells #[.slice a C.length cap, .int .i64 loops, .slice (some ⟨gF, 0, none⟩) (2 * C.length + 1) cF, .slice (some ⟨gT, 0, none⟩) (2 * C.length + 1) cT] 103)) := hX
  have HT : Hid (X.heap[w2.heap.size]? = some (.cells #[.slice a C.length cap, .int .i64 loops, .slice (some ⟨gF, 0, none⟩) (2 * C.length + 1) cF, .slice (some ⟨gT, 0, none⟩) (2 * C.length + 1) cT] 103 (0, 0))) := (by rw [hX]; exact alloc_at rfl : X.heap[w2.heap.size]? = some (.cells #[.slice a C.length cap, .int .i64 loops, .slice (some ⟨gF, 0, none⟩) (2 * C.length + 1) cF, .slice (some ⟨gT, 0, none⟩) (2 * C.length + 1) cT] 103 (0, 0)))
  have hsX : X.heap.size = w2.heap.size + 1 := by rw [hX]; simp
  have HBX : Hid (Below w.heap.size w X) := (by rw [hX]; exact HB2.out.alloc HB2.out.size _ : Below w.heap.size w X)
  have HDX : Hid (Dr X a cap C gF gT) := (by rw [hX]; exact HDR.out.on ((Below.refl _ _).alloc (Nat.le_refl _) _) : Dr X a cap C gF gT)
  clear hX
  have HF : Hid (∀ w', Below X.heap.size X w' → w'.cell? ⟨w2.heap.size, 0, none⟩ = some (.slice a C.length cap) ∧ w'.cell? ⟨w2.heap.size, 1, none⟩ = some (.int .i64 loops) ∧ w'.cell? ⟨w2.heap.size, 2, none⟩ = some (.slice (some ⟨gF, 0, none⟩) (2 * C.length + 1) cF) ∧ w'.cell? ⟨w2.heap.size, 3, none⟩ = some (.slice (some ⟨gT, 0, none⟩) (2 * C.length + 1) cT)) := fun w' hw' => by
    have g0 := (hw'.block _ (by omega)).trans HT.out
    exact ⟨block_cell g0 rfl, block_cell g0 rfl, block_cell g0 rfl, block_cell g0 rfl⟩
  have HDW : Hid (Below X.heap.size X X.drew) := (Below.refl _ _).drew
  have HDD : Hid (∀ wX, Below X.heap.size X wX → Dr wX a cap C gF gT) := fun wX hX => HDX.out.on hX
  have hszw := HBX.out.size
  go_wp2
  rw [← HWX.out]
  obtain ⟨t0, t1, t2, t3⟩ := HF.out X (Below.refl _ _)
  go_region_held3 (fun w' => w'.cell? ⟨w2.heap.size, 0, none⟩ = some (.slice a C.length cap) ∧ w'.cell? ⟨w2.heap.size, 1, none⟩ = some (.int .i64 loops) ∧ w'.cell? ⟨w2.heap.size, 2, none⟩ = some (.slice (some ⟨gF, 0, none⟩) (2 * C.length + 1) cF) ∧ w'.cell? ⟨w2.heap.size, 3, none⟩ = some (.slice (some ⟨gT, 0, none⟩) (2 * C.length + 1) cT)) (first | exact HF.out _ HS.out | exact HF.out _ HA.out | exact HF.out _ HDW.out | exact HF.out _ (Below.refl _ _)) (first
    | (go_at_call 66; refine (visits_any a cap C loops gF cF gT cT _ HM.out (HDD.out _ HDW.out)).mono ?_; rintro e9 wA ⟨r, rfl, hrA, hbA⟩
       have HA : Hid (Below X.heap.size X wA) := HDW.out.trans hbA
       have HRA : Hid (VisOwn wA X.heap.size r (visM C)) := hrA
       obtain ⟨a0, a1, a2, a3⟩ := HF.out wA HA.out
       clear hbA hrA)
    | (go_at_call 67; refine (signs_any a cap C loops gF cF gT cT _ HM.out (HDD.out _ HA.out)).mono ?_; rintro e9 wS ⟨s, rfl, hsA, hbS⟩
       have HS : Hid (Below X.heap.size X wS) := HA.out.trans (hbS.mono HA.out.size)
       have HSA : Hid (wS.ownsRow wA.heap.size 4 1 s C.length (bools (plusM C))) := hsA
       have HRS : Hid (VisOwn wS X.heap.size r (visM C)) := HRA.out.any (grown_below hbS none)
       obtain ⟨s0, s1, s2, s3⟩ := HF.out wS HS.out
       clear hbS hsA))
  all_goals
    go_wp2
    go_ret3
    exact ⟨_, _, rfl, HRS.out.low (by omega), own_low HSA.out (by have := HA.out.size; omega), HBX.out.trans (HS.out.mono hszw)⟩
end Go.Proofs.Ytbikalghmlihlaa

/- The walk of knotworkref.DiagramText. Made by gendtb.py. -/
import Derived.Test.YtdigjjgdfpccpaaDoorDTa
import Derived.Deep.RegionHeld
namespace Go.Proofs.YtdigjjgdfpccpaaDoor
open Go.RowKit

theorem hid_of {p : Prop} (h : p) : Hid p := h
theorem extract_drop (S : List UInt8) : (⟨S.toArray⟩ : ByteArray).extract 1 S.length = ⟨(S.drop 1).toArray⟩ := by
  apply ByteArray.ext
  rw [ByteArray.data_extract]
  simp
  exact List.take_of_length_le (by simp)
theorem blank_pos {l : List (List UInt8)} (h : 0 < l.length) : 1 ≤ (blankL l).length := by
  cases l with
  | nil => simp at h
  | cons x r => unfold blankL; simp
theorem parts_ne {C : List Cr} {m : Nat} (h : 0 < C.length ∨ 0 < m) : partsL C m ≠ [] := by
  intro e
  have h1 : (partsL C m).length = C.length + m := by simp [partsL]
  rw [e, List.length_nil] at h1
  omega

set_option maxHeartbeats 16000000 in
set_option maxRecDepth 100000 in
theorem diagramText_any (v : Value) (C : List Cr) (m : Nat) (w : World) (hm : mayD C (m : Nat) = true) (h : Crs w w.heap.size v C) :
    Calls Tryd.prog 7 #[.agg #[v, .int .i64 (m : Nat)]] w fun e w' => e = .returned (.string ⟨(textD C m).toArray⟩) ∧ Below w.heap.size w w' := by
  have HC : Hid (Crs w w.heap.size v C) := h
  obtain ⟨s1, s2, s3, s4⟩ := sizeB_iff (may_size hm)
  have HSM : Hid (∀ i, i < C.length → Small (C.getD i Cr.none)) := fun i hi => small_may hm i hi
  have hs5 : 0 < C.length ∨ 0 < m := by omega
  have hs6 : m ≤ 16 := by omega
  obtain ⟨a0, cap, rfl, -, -⟩ := h
  have HB1 : Hid (Below w.heap.size w (w.alloc (.cells #[.slice a0 C.length cap, .int .i64 (m : Nat)] 24))) := (Below.refl _ _).alloc (Nat.le_refl _) _
  have HT1 : Hid ((w.alloc (.cells #[.slice a0 C.length cap, .int .i64 (m : Nat)] 24)).heap[w.heap.size]? = some (.cells #[.slice a0 C.length cap, .int .i64 (m : Nat)] 24 (0, 0))) := alloc_at rfl
  clear hm
  go_enter Tryd.func7, Tryd.ntmps7
  go_wp2
  go_loopw [3, 4] (fun v3 v4 wr => ∃ (i : Nat) (S : List UInt8), i ≤ C.length ∧ S.length ≤ i * 101 ∧ v3 = .string ⟨S.toArray⟩ ∧ v4 = .int .i64 (i : Nat) ∧ Hid (S = blankL ((C.take i).map crossL)) ∧ Hid (Below w.heap.size w wr) ∧ Hid (wr.heap[w.heap.size]? = some (.cells #[.slice a0 C.length cap, .int .i64 (m : Nat)] 24 (0, 0)))) (fun _ v4 _ => C.length - (intOf v4).toNat)
  case atStart => exact ⟨0, [], Nat.zero_le _, by simp, rfl, rfl, rfl, HB1.out, HT1.out⟩
  case round =>
    clear HB1 HT1
    rename World => W1
    obtain ⟨i, S, hin, hSl, rfl, rfl, hS, hb, ht⟩ := hrel
    have hsW := hb.out.size
    have k0 : W1.cell? ⟨w.heap.size, 0, none⟩ = some (.slice a0 C.length cap) := block_cell ht.out rfl
    have k1 : W1.cell? ⟨w.heap.size, 1, none⟩ = some (.int .i64 (m : Nat)) := block_cell ht.out rfl
    have hlw : w.heap.size < W1.heap.size := (Array.getElem?_eq_some_iff.1 ht.out).1
    by_cases hil : i < C.length
    · obtain ⟨bk, off, ea, hbw, hCC⟩ := crs_some HC.out (by omega)
      obtain rfl := ea
      obtain ⟨e0, e1, e2, e3, e4⟩ := (hCC.on hb.out hbw) i hil
      have hbW : bk < W1.heap.size := by omega
      have hii : (i : Int) < (C.length : Int) := by omega
      have hSX := HSM.out _ hil
      have hnx := take_cross hil
      obtain ⟨Q, hQ⟩ : ∃ Q, (C.take i).map crossL = Q := ⟨_, rfl⟩
      have HSE : Hid (S = blankL Q) := (by rw [← hQ]; exact hS.out : S = blankL Q)
      rw [hQ] at hnx
      obtain ⟨x, hx⟩ : ∃ x, C.getD i Cr.none = x := ⟨_, rfl⟩
      rw [hx] at e0 e1 e2 e3 e4 hSX hnx
      clear hx hCC hS hQ
      obtain ⟨a, b, c, d, pl⟩ := x
      simp only at e0 e1 e2 e3 e4
      have hia := itoa_small a hSX.1
      have hib := itoa_small b hSX.2.1
      have hic := itoa_small c hSX.2.2.1
      have hie := itoa_small d hSX.2.2.2
      have HDEa : Hid (∀ W, Calls Tryd.prog 12 #[.int .i64 a] W fun e w' => e = .returned (.string ⟨(Lib.itoa a).toArray⟩) ∧ Below W.heap.size W w') := fun W => dec_any a W hSX.1.1 hSX.1.2
      have HDEb : Hid (∀ W, Calls Tryd.prog 12 #[.int .i64 b] W fun e w' => e = .returned (.string ⟨(Lib.itoa b).toArray⟩) ∧ Below W.heap.size W w') := fun W => dec_any b W hSX.2.1.1 hSX.2.1.2
      have HDEc : Hid (∀ W, Calls Tryd.prog 12 #[.int .i64 c] W fun e w' => e = .returned (.string ⟨(Lib.itoa c).toArray⟩) ∧ Below W.heap.size W w') := fun W => dec_any c W hSX.2.2.1.1 hSX.2.2.1.2
      have HDEd : Hid (∀ W, Calls Tryd.prog 12 #[.int .i64 d] W fun e w' => e = .returned (.string ⟨(Lib.itoa d).toArray⟩) ∧ Below W.heap.size W w') := fun W => dec_any d W hSX.2.2.2.1 hSX.2.2.2.2
      have HNX := hid_of hnx
      have hS16 : S.length ≤ 1616 := by omega
      clear hnx hSX
      cases pl
      · obtain ⟨A1, hA1⟩ : ∃ A1, S ++ ([32, 88] : List UInt8) = A1 := ⟨_, rfl⟩
        have hL1 : A1.length = S.length + ([32, 88] : List UInt8).length := by rw [← hA1, List.length_append]
        obtain ⟨A2, hA2⟩ : ∃ A2, A1 ++ ([45] : List UInt8) = A2 := ⟨_, rfl⟩
        have hL2 : A2.length = A1.length + ([45] : List UInt8).length := by rw [← hA2, List.length_append]
        obtain ⟨A3, hA3⟩ : ∃ A3, A2 ++ ([91] : List UInt8) = A3 := ⟨_, rfl⟩
        have hL3 : A3.length = A2.length + ([91] : List UInt8).length := by rw [← hA3, List.length_append]
        obtain ⟨A4, hA4⟩ : ∃ A4, A3 ++ (Lib.itoa a) = A4 := ⟨_, rfl⟩
        have hL4 : A4.length = A3.length + (Lib.itoa a).length := by rw [← hA4, List.length_append]
        obtain ⟨A5, hA5⟩ : ∃ A5, A4 ++ ([44] : List UInt8) = A5 := ⟨_, rfl⟩
        have hL5 : A5.length = A4.length + ([44] : List UInt8).length := by rw [← hA5, List.length_append]
        obtain ⟨A6, hA6⟩ : ∃ A6, A5 ++ (Lib.itoa b) = A6 := ⟨_, rfl⟩
        have hL6 : A6.length = A5.length + (Lib.itoa b).length := by rw [← hA6, List.length_append]
        obtain ⟨A7, hA7⟩ : ∃ A7, A6 ++ ([44] : List UInt8) = A7 := ⟨_, rfl⟩
        have hL7 : A7.length = A6.length + ([44] : List UInt8).length := by rw [← hA7, List.length_append]
        obtain ⟨A8, hA8⟩ : ∃ A8, A7 ++ (Lib.itoa c) = A8 := ⟨_, rfl⟩
        have hL8 : A8.length = A7.length + (Lib.itoa c).length := by rw [← hA8, List.length_append]
        obtain ⟨A9, hA9⟩ : ∃ A9, A8 ++ ([44] : List UInt8) = A9 := ⟨_, rfl⟩
        have hL9 : A9.length = A8.length + ([44] : List UInt8).length := by rw [← hA9, List.length_append]
        obtain ⟨A10, hA10⟩ : ∃ A10, A9 ++ (Lib.itoa d) = A10 := ⟨_, rfl⟩
        have hL10 : A10.length = A9.length + (Lib.itoa d).length := by rw [← hA10, List.length_append]
        obtain ⟨A11, hA11⟩ : ∃ A11, A10 ++ ([93] : List UInt8) = A11 := ⟨_, rfl⟩
        have hL11 : A11.length = A10.length + ([93] : List UInt8).length := by rw [← hA11, List.length_append]
        simp only [List.length_cons, List.length_nil] at hL1 hL2 hL3 hL5 hL7 hL9 hL11
        have ha1 := fun W => run_string_add_lists (P := Tryd.prog) (w := W) S ([32, 88] : List UInt8) (by omega) (by first | (simp; done) | omega)
        rw [hA1] at ha1
        have ha2 := fun W => run_string_add_lists (P := Tryd.prog) (w := W) A1 ([45] : List UInt8) (by omega) (by first | (simp; done) | omega)
        rw [hA2] at ha2
        have ha3 := fun W => run_string_add_lists (P := Tryd.prog) (w := W) A2 ([91] : List UInt8) (by omega) (by first | (simp; done) | omega)
        rw [hA3] at ha3
        have ha4 := fun W => run_string_add_lists (P := Tryd.prog) (w := W) A3 (Lib.itoa a) (by omega) (by first | (simp; done) | omega)
        rw [hA4] at ha4
        have ha5 := fun W => run_string_add_lists (P := Tryd.prog) (w := W) A4 ([44] : List UInt8) (by omega) (by first | (simp; done) | omega)
        rw [hA5] at ha5
        have ha6 := fun W => run_string_add_lists (P := Tryd.prog) (w := W) A5 (Lib.itoa b) (by omega) (by first | (simp; done) | omega)
        rw [hA6] at ha6
        have ha7 := fun W => run_string_add_lists (P := Tryd.prog) (w := W) A6 ([44] : List UInt8) (by omega) (by first | (simp; done) | omega)
        rw [hA7] at ha7
        have ha8 := fun W => run_string_add_lists (P := Tryd.prog) (w := W) A7 (Lib.itoa c) (by omega) (by first | (simp; done) | omega)
        rw [hA8] at ha8
        have ha9 := fun W => run_string_add_lists (P := Tryd.prog) (w := W) A8 ([44] : List UInt8) (by omega) (by first | (simp; done) | omega)
        rw [hA9] at ha9
        have ha10 := fun W => run_string_add_lists (P := Tryd.prog) (w := W) A9 (Lib.itoa d) (by omega) (by first | (simp; done) | omega)
        rw [hA10] at ha10
        have ha11 := fun W => run_string_add_lists (P := Tryd.prog) (w := W) A10 ([93] : List UInt8) (by omega) (by first | (simp; done) | omega)
        rw [hA11] at ha11
        have hfin : blankL (Q ++ [crossL ⟨a, b, c, d, false⟩]) = A11 := by rw [blank_snoc, ← HSE.out, ← hA11, ← hA10, ← hA9, ← hA8, ← hA7, ← hA6, ← hA5, ← hA4, ← hA3, ← hA2, ← hA1]; unfold crossL; rw [nums_join]; simp [openL, List.append_assoc]
        have HFI := hid_of hfin
        have hl11 : A11.length ≤ S.length + 101 := by omega
        clear hfin hA1 hA2 hA3 hA4 hA5 hA6 hA7 hA8 hA9 hA10 hA11 hL1 hL2 hL3 hL4 hL5 hL6 hL7 hL8 hL9 hL10 hL11
        go_upto_region 9 with (fail)
        obtain ⟨X, hX⟩ : ∃ X, X = W1.alloc (.cells #[.int .i64 a, .int .i64 b, .int .i64 c, .int .i64 d, .bool false] 36) := ⟨_, rfl⟩
        rw [← hX]
        have HBX : Hid (Below w.heap.size w X) := (by rw [hX]; exact hb.out.alloc hsW _ : Below w.heap.size w X)
        have HXB : Hid (X.heap[W1.heap.size]? = some (.cells #[.int .i64 a, .int .i64 b, .int .i64 c, .int .i64 d, .bool false] 36 (0, 0))) := (by rw [hX]; exact alloc_at rfl : X.heap[W1.heap.size]? = some (.cells #[.int .i64 a, .int .i64 b, .int .i64 c, .int .i64 d, .bool false] 36 (0, 0)))
        have HTX : Hid (X.heap[w.heap.size]? = some (.cells #[.slice (some ⟨bk, off, none⟩) C.length cap, .int .i64 (m : Nat)] 24 (0, 0))) := (by rw [hX]; exact alloc_old ht.out : X.heap[w.heap.size]? = some (.cells #[.slice (some ⟨bk, off, none⟩) C.length cap, .int .i64 (m : Nat)] 24 (0, 0)))
        have HSV : Hid (∀ Y, Below X.heap.size X Y → (fun Y : World => Y.cell? ⟨W1.heap.size, 0, none⟩ = some (.int .i64 a) ∧ Y.cell? ⟨W1.heap.size, 1, none⟩ = some (.int .i64 b) ∧ Y.cell? ⟨W1.heap.size, 2, none⟩ = some (.int .i64 c) ∧ Y.cell? ⟨W1.heap.size, 3, none⟩ = some (.int .i64 d)) Y) := fun Y hY => by
          have h8 := (hY.block _ (Array.getElem?_eq_some_iff.1 HXB.out).1).trans HXB.out
          exact ⟨block_cell h8 rfl, block_cell h8 rfl, block_cell h8 rfl, block_cell h8 rfl⟩
        have HB0 : Hid (Below X.heap.size X X.drew) := (Below.refl _ _).drew
        clear hX hb ht e0 e1 e2 e3 e4 k0 k1
        refine wp_region_held_drew (S := fun Y : World => Y.cell? ⟨W1.heap.size, 0, none⟩ = some (.int .i64 a) ∧ Y.cell? ⟨W1.heap.size, 1, none⟩ = some (.int .i64 b) ∧ Y.cell? ⟨W1.heap.size, 2, none⟩ = some (.int .i64 c) ∧ Y.cell? ⟨W1.heap.size, 3, none⟩ = some (.int .i64 d)) (by kernel_rfl) (HSV.out _ HB0.out) (fun hHeld => ?_)
        refine wpAnyH_take (i := 0) (v := ?vvu1) rfl (by kernel_rfl) (by kernel_rfl) (by kernel_rfl) (fun _ _ _ h => h) (Or.inl ⟨by rfl, ?yyu1⟩) (by assumption) ?rru1
        case yyu1 => (intro w hSw; (try dsimp only at hSw); go_simp; (try with_reducible rfl))
        try simp only [Act.put]
        refine wpAnyH_take (i := 1) (v := ?vvu2) rfl (by kernel_rfl) (by kernel_rfl) (by kernel_rfl) (fun _ _ _ h => h) (Or.inl ⟨by rfl, ?yyu2⟩) (by assumption) ?rru2
        case yyu2 => (intro w hSw; (try dsimp only at hSw); go_simp; (try with_reducible rfl))
        try simp only [Act.put]
        refine wpAnyH_take (i := 2) (v := ?vvu3) rfl (by kernel_rfl) (by kernel_rfl) (by kernel_rfl) (fun _ _ _ h => h) (Or.inl ⟨by rfl, ?yyu3⟩) (by assumption) ?rru3
        case yyu3 => (intro w hSw; (try dsimp only at hSw); go_simp; (try with_reducible rfl))
        try simp only [Act.put]
        refine wpAnyH_take (i := 3) (v := ?vvu4) rfl (by kernel_rfl) (by kernel_rfl) (by kernel_rfl) (fun _ _ _ h => h) (Or.inl ⟨by rfl, ?yyu4⟩) (by assumption) ?rru4
        case yyu4 => (intro w hSw; (try dsimp only at hSw); go_simp; (try with_reducible rfl))
        try simp only [Act.put]
        refine wpAnyH_take (i := 4) (v := ?vvu5) rfl (by kernel_rfl) (by kernel_rfl) (by kernel_rfl) (fun _ _ _ h => h) (Or.inl ⟨by rfl, ?yyu5⟩) (by assumption) ?rru5
        case yyu5 => (intro w hSw; (try dsimp only at hSw); go_simp; (try with_reducible rfl))
        try simp only [Act.put]
        refine wpAnyH_take (i := 5) (v := ?vvu6) rfl (by kernel_rfl) (by kernel_rfl) (by kernel_rfl) (fun _ _ _ h => h) (Or.inl ⟨by rfl, ?yyu6⟩) (by assumption) ?rru6
        case yyu6 => (intro w hSw; (try dsimp only at hSw); go_simp; (try with_reducible rfl))
        try simp only [Act.put]
        refine wpAnyH_take (i := 6) (v := ?vvu7) rfl (by kernel_rfl) (by kernel_rfl) (by kernel_rfl) (fun _ _ _ h => h) (Or.inl ⟨by rfl, ?yyu7⟩) (by assumption) ?rru7
        case yyu7 => (intro w hSw; (try dsimp only at hSw); go_simp; (try with_reducible rfl))
        try simp only [Act.put]
        refine wpAnyH_take (i := 10) (v := ?vvu8) rfl (by kernel_rfl) (by kernel_rfl) (by kernel_rfl) (fun _ _ _ h => h) (Or.inl ⟨by rfl, ?yyu8⟩) (by assumption) ?rru8
        case yyu8 => (intro w hSw; (try dsimp only at hSw); go_simp; (try with_reducible rfl))
        try simp only [Act.put]
        refine wpAnyH_take (i := 11) (v := ?vvu9) rfl (by kernel_rfl) (by kernel_rfl) (by kernel_rfl) (fun _ _ _ h => h) (Or.inl ⟨by rfl, ?yyu9⟩) (by assumption) ?rru9
        case yyu9 => (intro w hSw; (try dsimp only at hSw); go_simp; (try with_reducible rfl))
        try simp only [Act.put]
        refine wpAnyH_take (i := 15) (v := ?vvu10) rfl (by kernel_rfl) (by kernel_rfl) (by kernel_rfl) (fun _ _ _ h => h) (Or.inl ⟨by rfl, ?yyu10⟩) (by assumption) ?rru10
        case yyu10 => (intro w hSw; (try dsimp only at hSw); go_simp; (try with_reducible rfl))
        try simp only [Act.put]
        refine wpAnyH_take (i := 16) (v := ?vvu11) rfl (by kernel_rfl) (by kernel_rfl) (by kernel_rfl) (fun _ _ _ h => h) (Or.inl ⟨by rfl, ?yyu11⟩) (by assumption) ?rru11
        case yyu11 => (intro w hSw; (try dsimp only at hSw); go_simp; (try with_reducible rfl))
        try simp only [Act.put]
        refine wpAnyH_take (i := 20) (v := ?vvu12) rfl (by kernel_rfl) (by kernel_rfl) (by kernel_rfl) (fun _ _ _ h => h) (Or.inl ⟨by rfl, ?yyu12⟩) (by assumption) ?rru12
        case yyu12 => (intro w hSw; (try dsimp only at hSw); go_simp; (try with_reducible rfl))
        try simp only [Act.put]
        refine wpAnyH_take (i := 21) (v := ?vvu13) rfl (by kernel_rfl) (by kernel_rfl) (by kernel_rfl) (fun _ _ _ h => h) (Or.inl ⟨by rfl, ?yyu13⟩) (by assumption) ?rru13
        case yyu13 => (intro w hSw; (try dsimp only at hSw); go_simp; (try with_reducible rfl))
        try simp only [Act.put]
        refine wpAnyH_ready (rs := [7]) (by kernel_rfl) (by simp) ?_
        refine AllReadyH.cons rfl (fun K hK => ?_) AllReadyH.nil
        go_simp
        go_wp2_with (go_at_call 12; refine (HDEa.out _).mono ?_; rintro e9 w1 ⟨rfl, hb1⟩; have HB1 : Hid (Below X.heap.size X w1) := HB0.out.trans (hb1.mono HB0.out.size); clear hb1)
        refine hK.out _ _ (HSV.out _ HB1.out) (fun hHeld => ?_)
        clear hK K
        try simp only [Act.put]
        refine wpAnyH_take (i := 8) (v := ?vvu14) rfl (by kernel_rfl) (by kernel_rfl) (by kernel_rfl) (fun _ _ _ h => h) (Or.inl ⟨by rfl, ?yyu14⟩) (by assumption) ?rru14
        case yyu14 => (intro w hSw; (try dsimp only at hSw); go_simp; (try with_reducible rfl))
        try simp only [Act.put]
        refine wpAnyH_take (i := 9) (v := ?vvu15) rfl (by kernel_rfl) (by kernel_rfl) (by kernel_rfl) (fun _ _ _ h => h) (Or.inl ⟨by rfl, ?yyu15⟩) (by assumption) ?rru15
        case yyu15 => (intro w hSw; (try dsimp only at hSw); go_simp; (try with_reducible rfl))
        try simp only [Act.put]
        refine wpAnyH_ready (rs := [12]) (by kernel_rfl) (by simp) ?_
        refine AllReadyH.cons rfl (fun K hK => ?_) AllReadyH.nil
        go_simp
        go_wp2_with (go_at_call 12; refine (HDEb.out _).mono ?_; rintro e9 w2 ⟨rfl, hb2⟩; have HB2 : Hid (Below X.heap.size X w2) := HB1.out.trans (hb2.mono HB1.out.size); clear hb2)
        refine hK.out _ _ (HSV.out _ HB2.out) (fun hHeld => ?_)
        clear hK K
        try simp only [Act.put]
        refine wpAnyH_take (i := 13) (v := ?vvu16) rfl (by kernel_rfl) (by kernel_rfl) (by kernel_rfl) (fun _ _ _ h => h) (Or.inl ⟨by rfl, ?yyu16⟩) (by assumption) ?rru16
        case yyu16 => (intro w hSw; (try dsimp only at hSw); go_simp; (try with_reducible rfl))
        try simp only [Act.put]
        refine wpAnyH_take (i := 14) (v := ?vvu17) rfl (by kernel_rfl) (by kernel_rfl) (by kernel_rfl) (fun _ _ _ h => h) (Or.inl ⟨by rfl, ?yyu17⟩) (by assumption) ?rru17
        case yyu17 => (intro w hSw; (try dsimp only at hSw); go_simp; (try with_reducible rfl))
        try simp only [Act.put]
        refine wpAnyH_ready (rs := [17]) (by kernel_rfl) (by simp) ?_
        refine AllReadyH.cons rfl (fun K hK => ?_) AllReadyH.nil
        go_simp
        go_wp2_with (go_at_call 12; refine (HDEc.out _).mono ?_; rintro e9 w3 ⟨rfl, hb3⟩; have HB3 : Hid (Below X.heap.size X w3) := HB2.out.trans (hb3.mono HB2.out.size); clear hb3)
        refine hK.out _ _ (HSV.out _ HB3.out) (fun hHeld => ?_)
        clear hK K
        try simp only [Act.put]
        refine wpAnyH_take (i := 18) (v := ?vvu18) rfl (by kernel_rfl) (by kernel_rfl) (by kernel_rfl) (fun _ _ _ h => h) (Or.inl ⟨by rfl, ?yyu18⟩) (by assumption) ?rru18
        case yyu18 => (intro w hSw; (try dsimp only at hSw); go_simp; (try with_reducible rfl))
        try simp only [Act.put]
        refine wpAnyH_take (i := 19) (v := ?vvu19) rfl (by kernel_rfl) (by kernel_rfl) (by kernel_rfl) (fun _ _ _ h => h) (Or.inl ⟨by rfl, ?yyu19⟩) (by assumption) ?rru19
        case yyu19 => (intro w hSw; (try dsimp only at hSw); go_simp; (try with_reducible rfl))
        try simp only [Act.put]
        refine wpAnyH_ready (rs := [22]) (by kernel_rfl) (by simp) ?_
        refine AllReadyH.cons rfl (fun K hK => ?_) AllReadyH.nil
        go_simp
        go_wp2_with (go_at_call 12; refine (HDEd.out _).mono ?_; rintro e9 w4 ⟨rfl, hb4⟩; have HB4 : Hid (Below X.heap.size X w4) := HB3.out.trans (hb4.mono HB3.out.size); clear hb4)
        refine hK.out _ _ (HSV.out _ HB4.out) (fun hHeld => ?_)
        clear hK K
        try simp only [Act.put]
        refine wpAnyH_take (i := 23) (v := ?vvu20) rfl (by kernel_rfl) (by kernel_rfl) (by kernel_rfl) (fun _ _ _ h => h) (Or.inl ⟨by rfl, ?yyu20⟩) (by assumption) ?rru20
        case yyu20 => (intro w hSw; (try dsimp only at hSw); go_simp; (try with_reducible rfl))
        try simp only [Act.put]
        refine wpAnyH_take (i := 24) (v := ?vvu21) rfl (by kernel_rfl) (by kernel_rfl) (by kernel_rfl) (fun _ _ _ h => h) (Or.inl ⟨by rfl, ?yyu21⟩) (by assumption) ?rru21
        case yyu21 => (intro w hSw; (try dsimp only at hSw); go_simp; (try with_reducible rfl))
        try simp only [Act.put]
        refine wpAnyH_take (i := 25) (v := ?vvu22) rfl (by kernel_rfl) (by kernel_rfl) (by kernel_rfl) (fun _ _ _ h => h) (Or.inl ⟨by rfl, ?yyu22⟩) (by assumption) ?rru22
        case yyu22 => (intro w hSw; (try dsimp only at hSw); go_simp; (try with_reducible rfl))
        try simp only [Act.put]
        refine wpAnyH_done (by kernel_rfl) ?_ _
        try simp only [Act.put]
        clear hHeld HB1 HB2 HB3
        have HBW : Hid (Below w.heap.size w w4) := HBX.out.trans (HB4.out.mono HBX.out.size)
        have HTW : Hid (w4.heap[w.heap.size]? = some (.cells #[.slice (some ⟨bk, off, none⟩) C.length cap, .int .i64 (m : Nat)] 24 (0, 0))) := (HB4.out.block _ (Array.getElem?_eq_some_iff.1 HTX.out).1).trans HTX.out
        go_wp2
        go_roundw
        case rel => exact ⟨i + 1, A11, by omega, by omega, rfl, by go_num, (by rw [HNX.out]; exact HFI.out.symm : A11 = blankL ((C.take (i + 1)).map crossL)), HBW.out, HTW.out⟩
        case measure => simp only [intOf]; omega
      · obtain ⟨A1, hA1⟩ : ∃ A1, S ++ ([32, 88] : List UInt8) = A1 := ⟨_, rfl⟩
        have hL1 : A1.length = S.length + ([32, 88] : List UInt8).length := by rw [← hA1, List.length_append]
        obtain ⟨A2, hA2⟩ : ∃ A2, A1 ++ ([43] : List UInt8) = A2 := ⟨_, rfl⟩
        have hL2 : A2.length = A1.length + ([43] : List UInt8).length := by rw [← hA2, List.length_append]
        obtain ⟨A3, hA3⟩ : ∃ A3, A2 ++ ([91] : List UInt8) = A3 := ⟨_, rfl⟩
        have hL3 : A3.length = A2.length + ([91] : List UInt8).length := by rw [← hA3, List.length_append]
        obtain ⟨A4, hA4⟩ : ∃ A4, A3 ++ (Lib.itoa a) = A4 := ⟨_, rfl⟩
        have hL4 : A4.length = A3.length + (Lib.itoa a).length := by rw [← hA4, List.length_append]
        obtain ⟨A5, hA5⟩ : ∃ A5, A4 ++ ([44] : List UInt8) = A5 := ⟨_, rfl⟩
        have hL5 : A5.length = A4.length + ([44] : List UInt8).length := by rw [← hA5, List.length_append]
        obtain ⟨A6, hA6⟩ : ∃ A6, A5 ++ (Lib.itoa b) = A6 := ⟨_, rfl⟩
        have hL6 : A6.length = A5.length + (Lib.itoa b).length := by rw [← hA6, List.length_append]
        obtain ⟨A7, hA7⟩ : ∃ A7, A6 ++ ([44] : List UInt8) = A7 := ⟨_, rfl⟩
        have hL7 : A7.length = A6.length + ([44] : List UInt8).length := by rw [← hA7, List.length_append]
        obtain ⟨A8, hA8⟩ : ∃ A8, A7 ++ (Lib.itoa c) = A8 := ⟨_, rfl⟩
        have hL8 : A8.length = A7.length + (Lib.itoa c).length := by rw [← hA8, List.length_append]
        obtain ⟨A9, hA9⟩ : ∃ A9, A8 ++ ([44] : List UInt8) = A9 := ⟨_, rfl⟩
        have hL9 : A9.length = A8.length + ([44] : List UInt8).length := by rw [← hA9, List.length_append]
        obtain ⟨A10, hA10⟩ : ∃ A10, A9 ++ (Lib.itoa d) = A10 := ⟨_, rfl⟩
        have hL10 : A10.length = A9.length + (Lib.itoa d).length := by rw [← hA10, List.length_append]
        obtain ⟨A11, hA11⟩ : ∃ A11, A10 ++ ([93] : List UInt8) = A11 := ⟨_, rfl⟩
        have hL11 : A11.length = A10.length + ([93] : List UInt8).length := by rw [← hA11, List.length_append]
        simp only [List.length_cons, List.length_nil] at hL1 hL2 hL3 hL5 hL7 hL9 hL11
        have ha1 := fun W => run_string_add_lists (P := Tryd.prog) (w := W) S ([32, 88] : List UInt8) (by omega) (by first | (simp; done) | omega)
        rw [hA1] at ha1
        have ha2 := fun W => run_string_add_lists (P := Tryd.prog) (w := W) A1 ([43] : List UInt8) (by omega) (by first | (simp; done) | omega)
        rw [hA2] at ha2
        have ha3 := fun W => run_string_add_lists (P := Tryd.prog) (w := W) A2 ([91] : List UInt8) (by omega) (by first | (simp; done) | omega)
        rw [hA3] at ha3
        have ha4 := fun W => run_string_add_lists (P := Tryd.prog) (w := W) A3 (Lib.itoa a) (by omega) (by first | (simp; done) | omega)
        rw [hA4] at ha4
        have ha5 := fun W => run_string_add_lists (P := Tryd.prog) (w := W) A4 ([44] : List UInt8) (by omega) (by first | (simp; done) | omega)
        rw [hA5] at ha5
        have ha6 := fun W => run_string_add_lists (P := Tryd.prog) (w := W) A5 (Lib.itoa b) (by omega) (by first | (simp; done) | omega)
        rw [hA6] at ha6
        have ha7 := fun W => run_string_add_lists (P := Tryd.prog) (w := W) A6 ([44] : List UInt8) (by omega) (by first | (simp; done) | omega)
        rw [hA7] at ha7
        have ha8 := fun W => run_string_add_lists (P := Tryd.prog) (w := W) A7 (Lib.itoa c) (by omega) (by first | (simp; done) | omega)
        rw [hA8] at ha8
        have ha9 := fun W => run_string_add_lists (P := Tryd.prog) (w := W) A8 ([44] : List UInt8) (by omega) (by first | (simp; done) | omega)
        rw [hA9] at ha9
        have ha10 := fun W => run_string_add_lists (P := Tryd.prog) (w := W) A9 (Lib.itoa d) (by omega) (by first | (simp; done) | omega)
        rw [hA10] at ha10
        have ha11 := fun W => run_string_add_lists (P := Tryd.prog) (w := W) A10 ([93] : List UInt8) (by omega) (by first | (simp; done) | omega)
        rw [hA11] at ha11
        have hfin : blankL (Q ++ [crossL ⟨a, b, c, d, true⟩]) = A11 := by rw [blank_snoc, ← HSE.out, ← hA11, ← hA10, ← hA9, ← hA8, ← hA7, ← hA6, ← hA5, ← hA4, ← hA3, ← hA2, ← hA1]; unfold crossL; rw [nums_join]; simp [openL, List.append_assoc]
        have HFI := hid_of hfin
        have hl11 : A11.length ≤ S.length + 101 := by omega
        clear hfin hA1 hA2 hA3 hA4 hA5 hA6 hA7 hA8 hA9 hA10 hA11 hL1 hL2 hL3 hL4 hL5 hL6 hL7 hL8 hL9 hL10 hL11
        go_upto_region 9 with (fail)
        obtain ⟨X, hX⟩ : ∃ X, X = W1.alloc (.cells #[.int .i64 a, .int .i64 b, .int .i64 c, .int .i64 d, .bool true] 36) := ⟨_, rfl⟩
        rw [← hX]
        have HBX : Hid (Below w.heap.size w X) := (by rw [hX]; exact hb.out.alloc hsW _ : Below w.heap.size w X)
        have HXB : Hid (X.heap[W1.heap.size]? = some (.cells #[.int .i64 a, .int .i64 b, .int .i64 c, .int .i64 d, .bool true] 36 (0, 0))) := (by rw [hX]; exact alloc_at rfl : X.heap[W1.heap.size]? = some (.cells #[.int .i64 a, .int .i64 b, .int .i64 c, .int .i64 d, .bool true] 36 (0, 0)))
        have HTX : Hid (X.heap[w.heap.size]? = some (.cells #[.slice (some ⟨bk, off, none⟩) C.length cap, .int .i64 (m : Nat)] 24 (0, 0))) := (by rw [hX]; exact alloc_old ht.out : X.heap[w.heap.size]? = some (.cells #[.slice (some ⟨bk, off, none⟩) C.length cap, .int .i64 (m : Nat)] 24 (0, 0)))
        have HSV : Hid (∀ Y, Below X.heap.size X Y → (fun Y : World => Y.cell? ⟨W1.heap.size, 0, none⟩ = some (.int .i64 a) ∧ Y.cell? ⟨W1.heap.size, 1, none⟩ = some (.int .i64 b) ∧ Y.cell? ⟨W1.heap.size, 2, none⟩ = some (.int .i64 c) ∧ Y.cell? ⟨W1.heap.size, 3, none⟩ = some (.int .i64 d)) Y) := fun Y hY => by
          have h8 := (hY.block _ (Array.getElem?_eq_some_iff.1 HXB.out).1).trans HXB.out
          exact ⟨block_cell h8 rfl, block_cell h8 rfl, block_cell h8 rfl, block_cell h8 rfl⟩
        have HB0 : Hid (Below X.heap.size X X.drew) := (Below.refl _ _).drew
        clear hX hb ht e0 e1 e2 e3 e4 k0 k1
        refine wp_region_held_drew (S := fun Y : World => Y.cell? ⟨W1.heap.size, 0, none⟩ = some (.int .i64 a) ∧ Y.cell? ⟨W1.heap.size, 1, none⟩ = some (.int .i64 b) ∧ Y.cell? ⟨W1.heap.size, 2, none⟩ = some (.int .i64 c) ∧ Y.cell? ⟨W1.heap.size, 3, none⟩ = some (.int .i64 d)) (by kernel_rfl) (HSV.out _ HB0.out) (fun hHeld => ?_)
        refine wpAnyH_take (i := 0) (v := ?vvu23) rfl (by kernel_rfl) (by kernel_rfl) (by kernel_rfl) (fun _ _ _ h => h) (Or.inl ⟨by rfl, ?yyu23⟩) (by assumption) ?rru23
        case yyu23 => (intro w hSw; (try dsimp only at hSw); go_simp; (try with_reducible rfl))
        try simp only [Act.put]
        refine wpAnyH_take (i := 1) (v := ?vvu24) rfl (by kernel_rfl) (by kernel_rfl) (by kernel_rfl) (fun _ _ _ h => h) (Or.inl ⟨by rfl, ?yyu24⟩) (by assumption) ?rru24
        case yyu24 => (intro w hSw; (try dsimp only at hSw); go_simp; (try with_reducible rfl))
        try simp only [Act.put]
        refine wpAnyH_take (i := 2) (v := ?vvu25) rfl (by kernel_rfl) (by kernel_rfl) (by kernel_rfl) (fun _ _ _ h => h) (Or.inl ⟨by rfl, ?yyu25⟩) (by assumption) ?rru25
        case yyu25 => (intro w hSw; (try dsimp only at hSw); go_simp; (try with_reducible rfl))
        try simp only [Act.put]
        refine wpAnyH_take (i := 3) (v := ?vvu26) rfl (by kernel_rfl) (by kernel_rfl) (by kernel_rfl) (fun _ _ _ h => h) (Or.inl ⟨by rfl, ?yyu26⟩) (by assumption) ?rru26
        case yyu26 => (intro w hSw; (try dsimp only at hSw); go_simp; (try with_reducible rfl))
        try simp only [Act.put]
        refine wpAnyH_take (i := 4) (v := ?vvu27) rfl (by kernel_rfl) (by kernel_rfl) (by kernel_rfl) (fun _ _ _ h => h) (Or.inl ⟨by rfl, ?yyu27⟩) (by assumption) ?rru27
        case yyu27 => (intro w hSw; (try dsimp only at hSw); go_simp; (try with_reducible rfl))
        try simp only [Act.put]
        refine wpAnyH_take (i := 5) (v := ?vvu28) rfl (by kernel_rfl) (by kernel_rfl) (by kernel_rfl) (fun _ _ _ h => h) (Or.inl ⟨by rfl, ?yyu28⟩) (by assumption) ?rru28
        case yyu28 => (intro w hSw; (try dsimp only at hSw); go_simp; (try with_reducible rfl))
        try simp only [Act.put]
        refine wpAnyH_take (i := 6) (v := ?vvu29) rfl (by kernel_rfl) (by kernel_rfl) (by kernel_rfl) (fun _ _ _ h => h) (Or.inl ⟨by rfl, ?yyu29⟩) (by assumption) ?rru29
        case yyu29 => (intro w hSw; (try dsimp only at hSw); go_simp; (try with_reducible rfl))
        try simp only [Act.put]
        refine wpAnyH_take (i := 10) (v := ?vvu30) rfl (by kernel_rfl) (by kernel_rfl) (by kernel_rfl) (fun _ _ _ h => h) (Or.inl ⟨by rfl, ?yyu30⟩) (by assumption) ?rru30
        case yyu30 => (intro w hSw; (try dsimp only at hSw); go_simp; (try with_reducible rfl))
        try simp only [Act.put]
        refine wpAnyH_take (i := 11) (v := ?vvu31) rfl (by kernel_rfl) (by kernel_rfl) (by kernel_rfl) (fun _ _ _ h => h) (Or.inl ⟨by rfl, ?yyu31⟩) (by assumption) ?rru31
        case yyu31 => (intro w hSw; (try dsimp only at hSw); go_simp; (try with_reducible rfl))
        try simp only [Act.put]
        refine wpAnyH_take (i := 15) (v := ?vvu32) rfl (by kernel_rfl) (by kernel_rfl) (by kernel_rfl) (fun _ _ _ h => h) (Or.inl ⟨by rfl, ?yyu32⟩) (by assumption) ?rru32
        case yyu32 => (intro w hSw; (try dsimp only at hSw); go_simp; (try with_reducible rfl))
        try simp only [Act.put]
        refine wpAnyH_take (i := 16) (v := ?vvu33) rfl (by kernel_rfl) (by kernel_rfl) (by kernel_rfl) (fun _ _ _ h => h) (Or.inl ⟨by rfl, ?yyu33⟩) (by assumption) ?rru33
        case yyu33 => (intro w hSw; (try dsimp only at hSw); go_simp; (try with_reducible rfl))
        try simp only [Act.put]
        refine wpAnyH_take (i := 20) (v := ?vvu34) rfl (by kernel_rfl) (by kernel_rfl) (by kernel_rfl) (fun _ _ _ h => h) (Or.inl ⟨by rfl, ?yyu34⟩) (by assumption) ?rru34
        case yyu34 => (intro w hSw; (try dsimp only at hSw); go_simp; (try with_reducible rfl))
        try simp only [Act.put]
        refine wpAnyH_take (i := 21) (v := ?vvu35) rfl (by kernel_rfl) (by kernel_rfl) (by kernel_rfl) (fun _ _ _ h => h) (Or.inl ⟨by rfl, ?yyu35⟩) (by assumption) ?rru35
        case yyu35 => (intro w hSw; (try dsimp only at hSw); go_simp; (try with_reducible rfl))
        try simp only [Act.put]
        refine wpAnyH_ready (rs := [7]) (by kernel_rfl) (by simp) ?_
        refine AllReadyH.cons rfl (fun K hK => ?_) AllReadyH.nil
        go_simp
        go_wp2_with (go_at_call 12; refine (HDEa.out _).mono ?_; rintro e9 w1 ⟨rfl, hb1⟩; have HB1 : Hid (Below X.heap.size X w1) := HB0.out.trans (hb1.mono HB0.out.size); clear hb1)
        refine hK.out _ _ (HSV.out _ HB1.out) (fun hHeld => ?_)
        clear hK K
        try simp only [Act.put]
        refine wpAnyH_take (i := 8) (v := ?vvu36) rfl (by kernel_rfl) (by kernel_rfl) (by kernel_rfl) (fun _ _ _ h => h) (Or.inl ⟨by rfl, ?yyu36⟩) (by assumption) ?rru36
        case yyu36 => (intro w hSw; (try dsimp only at hSw); go_simp; (try with_reducible rfl))
        try simp only [Act.put]
        refine wpAnyH_take (i := 9) (v := ?vvu37) rfl (by kernel_rfl) (by kernel_rfl) (by kernel_rfl) (fun _ _ _ h => h) (Or.inl ⟨by rfl, ?yyu37⟩) (by assumption) ?rru37
        case yyu37 => (intro w hSw; (try dsimp only at hSw); go_simp; (try with_reducible rfl))
        try simp only [Act.put]
        refine wpAnyH_ready (rs := [12]) (by kernel_rfl) (by simp) ?_
        refine AllReadyH.cons rfl (fun K hK => ?_) AllReadyH.nil
        go_simp
        go_wp2_with (go_at_call 12; refine (HDEb.out _).mono ?_; rintro e9 w2 ⟨rfl, hb2⟩; have HB2 : Hid (Below X.heap.size X w2) := HB1.out.trans (hb2.mono HB1.out.size); clear hb2)
        refine hK.out _ _ (HSV.out _ HB2.out) (fun hHeld => ?_)
        clear hK K
        try simp only [Act.put]
        refine wpAnyH_take (i := 13) (v := ?vvu38) rfl (by kernel_rfl) (by kernel_rfl) (by kernel_rfl) (fun _ _ _ h => h) (Or.inl ⟨by rfl, ?yyu38⟩) (by assumption) ?rru38
        case yyu38 => (intro w hSw; (try dsimp only at hSw); go_simp; (try with_reducible rfl))
        try simp only [Act.put]
        refine wpAnyH_take (i := 14) (v := ?vvu39) rfl (by kernel_rfl) (by kernel_rfl) (by kernel_rfl) (fun _ _ _ h => h) (Or.inl ⟨by rfl, ?yyu39⟩) (by assumption) ?rru39
        case yyu39 => (intro w hSw; (try dsimp only at hSw); go_simp; (try with_reducible rfl))
        try simp only [Act.put]
        refine wpAnyH_ready (rs := [17]) (by kernel_rfl) (by simp) ?_
        refine AllReadyH.cons rfl (fun K hK => ?_) AllReadyH.nil
        go_simp
        go_wp2_with (go_at_call 12; refine (HDEc.out _).mono ?_; rintro e9 w3 ⟨rfl, hb3⟩; have HB3 : Hid (Below X.heap.size X w3) := HB2.out.trans (hb3.mono HB2.out.size); clear hb3)
        refine hK.out _ _ (HSV.out _ HB3.out) (fun hHeld => ?_)
        clear hK K
        try simp only [Act.put]
        refine wpAnyH_take (i := 18) (v := ?vvu40) rfl (by kernel_rfl) (by kernel_rfl) (by kernel_rfl) (fun _ _ _ h => h) (Or.inl ⟨by rfl, ?yyu40⟩) (by assumption) ?rru40
        case yyu40 => (intro w hSw; (try dsimp only at hSw); go_simp; (try with_reducible rfl))
        try simp only [Act.put]
        refine wpAnyH_take (i := 19) (v := ?vvu41) rfl (by kernel_rfl) (by kernel_rfl) (by kernel_rfl) (fun _ _ _ h => h) (Or.inl ⟨by rfl, ?yyu41⟩) (by assumption) ?rru41
        case yyu41 => (intro w hSw; (try dsimp only at hSw); go_simp; (try with_reducible rfl))
        try simp only [Act.put]
        refine wpAnyH_ready (rs := [22]) (by kernel_rfl) (by simp) ?_
        refine AllReadyH.cons rfl (fun K hK => ?_) AllReadyH.nil
        go_simp
        go_wp2_with (go_at_call 12; refine (HDEd.out _).mono ?_; rintro e9 w4 ⟨rfl, hb4⟩; have HB4 : Hid (Below X.heap.size X w4) := HB3.out.trans (hb4.mono HB3.out.size); clear hb4)
        refine hK.out _ _ (HSV.out _ HB4.out) (fun hHeld => ?_)
        clear hK K
        try simp only [Act.put]
        refine wpAnyH_take (i := 23) (v := ?vvu42) rfl (by kernel_rfl) (by kernel_rfl) (by kernel_rfl) (fun _ _ _ h => h) (Or.inl ⟨by rfl, ?yyu42⟩) (by assumption) ?rru42
        case yyu42 => (intro w hSw; (try dsimp only at hSw); go_simp; (try with_reducible rfl))
        try simp only [Act.put]
        refine wpAnyH_take (i := 24) (v := ?vvu43) rfl (by kernel_rfl) (by kernel_rfl) (by kernel_rfl) (fun _ _ _ h => h) (Or.inl ⟨by rfl, ?yyu43⟩) (by assumption) ?rru43
        case yyu43 => (intro w hSw; (try dsimp only at hSw); go_simp; (try with_reducible rfl))
        try simp only [Act.put]
        refine wpAnyH_take (i := 25) (v := ?vvu44) rfl (by kernel_rfl) (by kernel_rfl) (by kernel_rfl) (fun _ _ _ h => h) (Or.inl ⟨by rfl, ?yyu44⟩) (by assumption) ?rru44
        case yyu44 => (intro w hSw; (try dsimp only at hSw); go_simp; (try with_reducible rfl))
        try simp only [Act.put]
        refine wpAnyH_done (by kernel_rfl) ?_ _
        try simp only [Act.put]
        clear hHeld HB1 HB2 HB3
        have HBW : Hid (Below w.heap.size w w4) := HBX.out.trans (HB4.out.mono HBX.out.size)
        have HTW : Hid (w4.heap[w.heap.size]? = some (.cells #[.slice (some ⟨bk, off, none⟩) C.length cap, .int .i64 (m : Nat)] 24 (0, 0))) := (HB4.out.block _ (Array.getElem?_eq_some_iff.1 HTX.out).1).trans HTX.out
        go_wp2
        go_roundw
        case rel => exact ⟨i + 1, A11, by omega, by omega, rfl, by go_num, (by rw [HNX.out]; exact HFI.out.symm : A11 = blankL ((C.take (i + 1)).map crossL)), HBW.out, HTW.out⟩
        case measure => simp only [intOf]; omega
    · obtain rfl : i = C.length := by omega
      have hS0 : S = blankL (C.map crossL ++ List.replicate 0 [79]) := by rw [hS.out, List.take_of_length_le (Nat.le_refl _)]; simp
      have HS0 := hid_of hS0
      have hii : ¬ (C.length : Int) < (C.length : Int) := by omega
      have hS16 : S.length ≤ 1616 := by omega
      clear hS hS0
      go_upto_region 11 with (fail)
      go_loopw [3, 7] (fun v3 v7 wr => ∃ (j : Nat) (T : List UInt8), j ≤ m ∧ T.length ≤ 1616 + 2 * j ∧ v3 = .string ⟨T.toArray⟩ ∧ v7 = .int .i64 (j : Nat) ∧ Hid (T = blankL (C.map crossL ++ List.replicate j [79])) ∧ Hid (Below w.heap.size w wr) ∧ Hid (wr.heap[w.heap.size]? = some (.cells #[.slice a0 C.length cap, .int .i64 (m : Nat)] 24 (0, 0)))) (fun _ v7 _ => m - (intOf v7).toNat)
      case atStart => exact ⟨0, S, Nat.zero_le _, by omega, rfl, rfl, HS0.out, hb.out, ht.out⟩
      case round =>
        clear HS0 hb ht k0 k1 hii hS16 hSl hsW hlw
        rename World => W2
        obtain ⟨j, T, hj, hTl, rfl, rfl, hT, hb, ht⟩ := hrel
        have k1 : W2.cell? ⟨w.heap.size, 1, none⟩ = some (.int .i64 (m : Nat)) := block_cell ht.out rfl
        have hlw : w.heap.size < W2.heap.size := (Array.getElem?_eq_some_iff.1 ht.out).1
        by_cases hjm : j < m
        · have hjI : (j : Int) < (m : Int) := by omega
          have hnx : blankL (C.map crossL ++ List.replicate (j + 1) [79]) = T ++ ([32, 79] : List UInt8) := by rw [List.replicate_succ', ← List.append_assoc, blank_snoc, ← hT.out]; rfl
          have ha1 := fun W => run_string_add_lists (P := Tryd.prog) (w := W) T ([32, 79] : List UInt8) (by omega) (by simp)
          obtain ⟨T2, hT2⟩ : ∃ T2, T ++ ([32, 79] : List UInt8) = T2 := ⟨_, rfl⟩
          have hl2 : T2.length = T.length + 2 := by rw [← hT2, List.length_append]; rfl
          rw [hT2] at ha1 hnx
          have HNX := hid_of hnx
          have hl3 : T2.length ≤ 1616 + 2 * (j + 1) := by omega
          clear hnx hT2 hl2 hT
          go_wp2
          go_roundw
          case rel => exact ⟨j + 1, T2, by omega, hl3, rfl, by go_num, HNX.out.symm, hb.out, ht.out⟩
          case measure => simp only [intOf]; omega
        · obtain rfl : j = m := by omega
          have hjI : ¬ (j : Int) < (j : Int) := by omega
          have hT1 : 1 ≤ T.length := by rw [hT.out]; exact blank_pos (by simp; omega)
          have hTI : (1 : Int) ≤ (T.length : Int) := by omega
          have hz : (⟨T.toArray⟩ : ByteArray).size = T.length := by simp [ByteArray.size]
          have hre : (⟨T.toArray⟩ : ByteArray).extract 1 T.length = ⟨(textD C j).toArray⟩ := by
            rw [extract_drop]
            unfold textD
            rw [join_blank _ (parts_ne hs5), hT.out]
            rfl
          have HRE := hid_of hre
          clear hre hT
          go_wp2
          go_ret
          first
            | exact ⟨by rw [HRE.out]; rfl, hb.out⟩
            | exact ⟨by simp only [hz]; rw [HRE.out]; rfl, hb.out⟩
end Go.Proofs.YtdigjjgdfpccpaaDoor

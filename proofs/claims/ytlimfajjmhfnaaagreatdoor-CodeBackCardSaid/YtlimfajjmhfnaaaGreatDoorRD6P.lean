/- Several texts of the proof, one behind the other. -/
import Derived.Test.YtlimfajjmhfnaaaGreatDoorRD5
import Derived.Test.YtlimfajjmhfnaaaGreatDoorW5dP
import Derived.Test.YtlimfajjmhfnaaaGreatDoorRD0P
/- The walk of code.Read. -/
namespace Go.Proofs.YtlimfajjmhfnaaaGreatDoor
open Go.RowKit

theorem res_rd {W : World} {g : Nat} {a b : Value} {x : Int} {tm : Array Value} (h : W.heap[g]? = some (.cells #[a, b] 24 (0, 0))) (h2 : tm[2]? = some (.pointer (some ⟨g, 0, none⟩))) (h3 : tm[3]? = some (.int .i64 x)) : (results Tryz.f7 tm).run Tryz.prog W = .ok (.tuple #[.agg #[a, b], .int .i64 x]) W := by
  have e0 : W.cell? ⟨g, 0, none⟩ = some a := block_cell h rfl
  have e1 : W.cell? ⟨g, 1, none⟩ = some b := block_cell h rfl
  simp [results, Tryz.results7, go_sem, h2, h3, e0, e1]
/-- What is read of a text: the error, the crossings, the loops. -/
def rdM (L : List UInt8) : Int × List Cr × Nat := if 2000 < L.length then (2, [], 0) else match readP (fieldsC [] L) [] 0 with
  | none => (1, [], 0)
  | some (acc, m) => if mayD acc (m : Nat) then (0, acc, m) else (7, [], 0)
/-- What code.Read answers. -/
def ReadOut (w w' : World) (L : List UInt8) (e : Ending) : Prop := ∃ v, e = .returned (.tuple #[.agg #[v, .int .i64 ((rdM L).2.2 : Nat)], .int .i64 (rdM L).1]) ∧ Crs w' w'.heap.size v (rdM L).2.1 ∧ Below w.heap.size w w'
theorem crs_nil (w : World) : Crs w w.heap.size (.slice none 0 0) [] := ⟨none, 0, rfl, by decide, fun h => by simp at h⟩

set_option maxHeartbeats 8000000 in
set_option maxRecDepth 100000 in
theorem read_any (L : List UInt8) (w : World) (hT : TabsAt w.heap.size w) (hM : MaxAt w) (hL0 : L.length ≤ 9223372036854775807) :
    Calls Tryz.prog 7 #[.string ⟨L.toArray⟩] w fun e w' => ReadOut w w' L e := by
  have hz : (⟨L.toArray⟩ : ByteArray).size = L.length := arr_size L
  obtain ⟨n, hn⟩ : ∃ n, L.length = n := ⟨_, rfl⟩
  have HN := hid_of hn
  have HB1 : Hid (Below w.heap.size w (w.alloc (.cells #[.slice none 0 0, .int .i64 0] 24))) := (Below.refl _ _).alloc (Nat.le_refl _) _
  obtain ⟨X, hX⟩ : ∃ X, X = w.alloc (.cells #[.slice none 0 0, .int .i64 0] 24) := ⟨_, rfl⟩
  have HX := hid_of hX
  have HBX : Hid (Below w.heap.size w X) := (by rw [hX]; exact HB1.out : Below w.heap.size w X)
  have HXB : Hid (X.heap[w.heap.size]? = some (.cells #[.slice none 0 0, .int .i64 0] 24 (0, 0))) := (by rw [hX]; exact alloc_at rfl : X.heap[w.heap.size]? = some (.cells #[.slice none 0 0, .int .i64 0] 24 (0, 0)))
  by_cases hbig : 2000 < n
  · have hv : rdM L = (2, [], 0) := by unfold rdM; rw [if_pos (by rw [HN.out]; exact hbig)]
    have HV := hid_of hv
    have hI : (2000 : Int) < (n : Int) := by omega
    rw [hn] at hz
    clear hn hv hX
    go_enter Tryz.func7, Tryz.ntmps7
    go_wp2
    exact bodyPost_ret (v := .tuple #[.agg #[.slice none 0 0, .int .i64 0], .int .i64 2]) (res_rd (alloc_at rfl) rfl rfl) rfl ⟨.slice none 0 0, by rw [HV.out]; rfl, by rw [HV.out]; exact crs_nil _, HB1.out⟩
  · have hI : ¬ (2000 : Int) < (n : Int) := by omega
    have hmb : ∀ w' : World, Below w.heap.size w w' → True := fun _ _ => trivial
    have HPA : Hid (Calls Tryz.prog 15 #[.string ⟨L.toArray⟩] X fun e w' => ParsedOut X w' L e) := parsed_any L (by omega) X ⟨(hT.on (fun k hk => HBX.out.block k hk)).1, Nat.lt_of_lt_of_le hT.2.1 HBX.out.size, Nat.lt_of_lt_of_le hT.2.2 HBX.out.size⟩ (hM.on HBX.out)
    have hXs : w.heap.size < X.heap.size := (Array.getElem?_eq_some_iff.1 HXB.out).1
    rw [hn] at hz
    cases hr : readP (fieldsC [] L) [] 0 with
    | none =>
      have hv : rdM L = (1, [], 0) := by unfold rdM; rw [if_neg (by rw [HN.out]; exact hbig), hr]
      have HV := hid_of hv
      have HR := hid_of hr
      clear hn hv hr hX hmb
      go_enter Tryz.func7, Tryz.ntmps7
      go_wp2_with (go_at_call 15; rw [← HX.out]; refine HPA.out.mono ?_; rintro e9 w2 hp; obtain rfl := hp.2.1 HR.out; have hb2 := hp.2.2; have HB2 := hid_of hb2; have hd2 := (hb2.block _ hXs).trans HXB.out; have c0 : w2.cell? ⟨w.heap.size, 0, none⟩ = some (.slice none 0 0) := block_cell hd2 rfl; have c1 : w2.cell? ⟨w.heap.size, 1, none⟩ = some (.int .i64 0) := block_cell hd2 rfl; have f0 : w2.frozen? ⟨w.heap.size, 0, none⟩ = false := block_frozen hd2; have f1 : w2.frozen? ⟨w.heap.size, 1, none⟩ = false := block_frozen hd2; have HD2 := hid_of hd2; have l2 := (Array.getElem?_eq_some_iff.1 hd2).1; clear hp hb2 hd2)
      have hbe := ((HBX.out.trans (HB2.out.mono HBX.out.size)).setCell (p := ⟨w.heap.size, 0, none⟩) (Nat.le_refl _) (.slice none 0 0)).setCell (p := ⟨w.heap.size, 1, none⟩) (Nat.le_refl _) (.int .i64 0)
      exact bodyPost_ret (v := .tuple #[.agg #[.slice none 0 0, .int .i64 0], .int .i64 1]) (res_rd (alloc_old (set_block (set_block HD2.out))) rfl rfl) rfl ⟨.slice none 0 0, by rw [HV.out]; rfl, by rw [HV.out]; exact crs_nil _, hbe.alloc hbe.size _⟩
    | some q =>
      obtain ⟨acc, m⟩ := q
      have HR := hid_of hr
      cases hmy : mayD acc (m : Nat) with
      | false =>
        have hv : rdM L = (7, [], 0) := by unfold rdM; rw [if_neg (by rw [HN.out]; exact hbig), hr]; simp only; rw [hmy]; rfl
        have HV := hid_of hv
        have HMY := hid_of hmy
        clear hn hv hr hX hmb hmy
        go_enter Tryz.func7, Tryz.ntmps7
        go_upto_region 4 with (go_at_call 15; rw [← HX.out]; refine HPA.out.mono ?_; rintro e9 w2 hp; obtain ⟨v, rfl, hrow, hla, hlm⟩ := hp.1 acc m HR.out; have hb2 := hp.2.2; obtain ⟨a3, c3, rfl⟩ := own_capS hrow)
        have hd2 := (hb2.block _ hXs).trans HXB.out
        have HC2 : Hid (Crs w2 w2.heap.size (.slice a3 acc.length c3) acc) := crs_own hrow (by unfold maxLen; omega)
        obtain ⟨Y, hY⟩ : ∃ Y, Y = w2.alloc (.cells #[.slice a3 acc.length c3, .int .i64 (m : Nat)] 24) := ⟨_, rfl⟩
        rw [← hY]
        have HBY : Hid (Below w.heap.size w Y) := (by rw [hY]; exact (HBX.out.trans (hb2.mono HBX.out.size)).alloc (Nat.le_trans HBX.out.size hb2.size) _ : Below w.heap.size w Y)
        have HDY : Hid (Y.heap[w.heap.size]? = some (.cells #[.slice none 0 0, .int .i64 0] 24 (0, 0))) := (by rw [hY]; exact alloc_old hd2 : Y.heap[w.heap.size]? = some (.cells #[.slice none 0 0, .int .i64 0] 24 (0, 0)))
        have HQY : Hid (Y.heap[w2.heap.size]? = some (.cells #[.slice a3 acc.length c3, .int .i64 (m : Nat)] 24 (0, 0))) := (by rw [hY]; exact alloc_at rfl : Y.heap[w2.heap.size]? = some (.cells #[.slice a3 acc.length c3, .int .i64 (m : Nat)] 24 (0, 0)))
        have HCY : Hid (Crs Y Y.heap.size (.slice a3 acc.length c3) acc) := (by rw [hY]; exact HC2.out.up ((Below.refl _ _).alloc (Nat.le_refl _) _) : Crs Y Y.heap.size (.slice a3 acc.length c3) acc)
        have q0 : Y.cell? ⟨w2.heap.size, 0, none⟩ = some (.slice a3 acc.length c3) := block_cell HQY.out rfl
        have q1 : Y.cell? ⟨w2.heap.size, 1, none⟩ = some (.int .i64 (m : Nat)) := block_cell HQY.out rfl
        have lY := (Array.getElem?_eq_some_iff.1 HDY.out).1
        clear hY hp hb2 hd2 hrow HC2
        go_wp2_with (go_at_call 6; refine (codeMayD_any _ acc (m : Nat) _ HCY.out).mono ?_; rw [HMY.out]; rintro e9 w3 ⟨rfl, hb3⟩; have HB3 := hid_of hb3; have hd3 := (hb3.block _ lY).trans HDY.out; have c0 : w3.cell? ⟨w.heap.size, 0, none⟩ = some (.slice none 0 0) := block_cell hd3 rfl; have c1 : w3.cell? ⟨w.heap.size, 1, none⟩ = some (.int .i64 0) := block_cell hd3 rfl; have f0 : w3.frozen? ⟨w.heap.size, 0, none⟩ = false := block_frozen hd3; have f1 : w3.frozen? ⟨w.heap.size, 1, none⟩ = false := block_frozen hd3; have HD3 := hid_of hd3; have l3 := (Array.getElem?_eq_some_iff.1 hd3).1; clear hb3 hd3)
        have hbe := ((HBY.out.trans (HB3.out.mono HBY.out.size)).setCell (p := ⟨w.heap.size, 0, none⟩) (Nat.le_refl _) (.slice none 0 0)).setCell (p := ⟨w.heap.size, 1, none⟩) (Nat.le_refl _) (.int .i64 0)
        exact bodyPost_ret (v := .tuple #[.agg #[.slice none 0 0, .int .i64 0], .int .i64 7]) (res_rd (set_block (set_block HD3.out)) rfl rfl) rfl ⟨.slice none 0 0, by rw [HV.out]; rfl, by rw [HV.out]; exact crs_nil _, hbe⟩
      | true =>
        have hv : rdM L = (0, acc, m) := by unfold rdM; rw [if_neg (by rw [HN.out]; exact hbig), hr]; simp only; rw [hmy]; rfl
        have HV := hid_of hv
        have HMY := hid_of hmy
        clear hn hv hr hX hmb hmy
        go_enter Tryz.func7, Tryz.ntmps7
        go_upto_region 4 with (go_at_call 15; rw [← HX.out]; refine HPA.out.mono ?_; rintro e9 w2 hp; obtain ⟨v, rfl, hrow, hla, hlm⟩ := hp.1 acc m HR.out; have hb2 := hp.2.2; obtain ⟨a3, c3, rfl⟩ := own_capS hrow)
        have hd2 := (hb2.block _ hXs).trans HXB.out
        have HC2 : Hid (Crs w2 w2.heap.size (.slice a3 acc.length c3) acc) := crs_own hrow (by unfold maxLen; omega)
        have HRW := hid_of hrow
        obtain ⟨Y, hY⟩ : ∃ Y, Y = w2.alloc (.cells #[.slice a3 acc.length c3, .int .i64 (m : Nat)] 24) := ⟨_, rfl⟩
        rw [← hY]
        have HBY : Hid (Below w.heap.size w Y) := (by rw [hY]; exact (HBX.out.trans (hb2.mono HBX.out.size)).alloc (Nat.le_trans HBX.out.size hb2.size) _ : Below w.heap.size w Y)
        have HDY : Hid (Y.heap[w.heap.size]? = some (.cells #[.slice none 0 0, .int .i64 0] 24 (0, 0))) := (by rw [hY]; exact alloc_old hd2 : Y.heap[w.heap.size]? = some (.cells #[.slice none 0 0, .int .i64 0] 24 (0, 0)))
        have HQY : Hid (Y.heap[w2.heap.size]? = some (.cells #[.slice a3 acc.length c3, .int .i64 (m : Nat)] 24 (0, 0))) := (by rw [hY]; exact alloc_at rfl : Y.heap[w2.heap.size]? = some (.cells #[.slice a3 acc.length c3, .int .i64 (m : Nat)] 24 (0, 0)))
        have HCY : Hid (Crs Y Y.heap.size (.slice a3 acc.length c3) acc) := (by rw [hY]; exact HC2.out.up ((Below.refl _ _).alloc (Nat.le_refl _) _) : Crs Y Y.heap.size (.slice a3 acc.length c3) acc)
        have HRY : Hid (Y.ownsRow X.heap.size 33 5 (.slice a3 acc.length c3) acc.length (crossCells acc)) := (by rw [hY]; exact HRW.out.alloc _ : Y.ownsRow X.heap.size 33 5 (.slice a3 acc.length c3) acc.length (crossCells acc))
        have q0 : Y.cell? ⟨w2.heap.size, 0, none⟩ = some (.slice a3 acc.length c3) := block_cell HQY.out rfl
        have q1 : Y.cell? ⟨w2.heap.size, 1, none⟩ = some (.int .i64 (m : Nat)) := block_cell HQY.out rfl
        have lY := (Array.getElem?_eq_some_iff.1 HDY.out).1
        have lQ := (Array.getElem?_eq_some_iff.1 HQY.out).1
        clear hY hp hb2 hd2 hrow HC2 HRW
        go_wp2_with (go_at_call 6; refine (codeMayD_any _ acc (m : Nat) _ HCY.out).mono ?_; rw [HMY.out]; rintro e9 w3 ⟨rfl, hb3⟩; have HB3 := hid_of hb3; have hd3 := (hb3.block _ lY).trans HDY.out; have hq3 := (hb3.block _ lQ).trans HQY.out; have c0 : w3.cell? ⟨w.heap.size, 0, none⟩ = some (.slice none 0 0) := block_cell hd3 rfl; have c1 : w3.cell? ⟨w.heap.size, 1, none⟩ = some (.int .i64 0) := block_cell hd3 rfl; have r0 : w3.cell? ⟨w2.heap.size, 0, none⟩ = some (.slice a3 acc.length c3) := block_cell hq3 rfl; have r1 : w3.cell? ⟨w2.heap.size, 1, none⟩ = some (.int .i64 (m : Nat)) := block_cell hq3 rfl; have f0 : w3.frozen? ⟨w.heap.size, 0, none⟩ = false := block_frozen hd3; have f1 : w3.frozen? ⟨w.heap.size, 1, none⟩ = false := block_frozen hd3; have HD3 := hid_of hd3; have l3 := (Array.getElem?_eq_some_iff.1 hd3).1; clear hb3 hd3 hq3)
        have hbe := ((HBY.out.trans (HB3.out.mono HBY.out.size)).setCell (p := ⟨w.heap.size, 0, none⟩) (Nat.le_refl _) (.slice a3 acc.length c3)).setCell (p := ⟨w.heap.size, 1, none⟩) (Nat.le_refl _) (.int .i64 (m : Nat))
        have hrx := own_any HRY.out (grown_below HB3.out none)
        have hry := hrx.kept (set_grown _ w.heap.size 0 (.slice a3 acc.length c3)) (Or.inr (fun e => by have := (hrx.lt _ e).1; omega))
        have hrz := hry.kept (set_grown _ w.heap.size 1 (.int .i64 (m : Nat))) (Or.inr (fun e => by have := (hry.lt _ e).1; omega))
        exact bodyPost_ret (v := .tuple #[.agg #[.slice a3 acc.length c3, .int .i64 (m : Nat)], .int .i64 0]) (res_rd (set_block (set_block HD3.out)) rfl rfl) rfl ⟨.slice a3 acc.length c3, by rw [HV.out], by rw [HV.out]; exact crs_own hrz (by unfold maxLen; simp only; omega), hbe⟩
end Go.Proofs.YtlimfajjmhfnaaaGreatDoor
/- The text of a diagram that may be, read: for CodeBack. -/
namespace Go.Proofs.YtlimfajjmhfnaaaGreatDoor
open Go.RowKit

theorem tiny_may {C : List Cr} {loops : Int} (hm : mayD C loops = true) : ∀ x ∈ C, Tiny x := fun x hx => by
  obtain ⟨i, hi, e⟩ := List.mem_iff_getElem.1 hx
  obtain ⟨s, -, -, -⟩ := sizeB_iff (may_size hm)
  have h : ∀ k, k < 4 → 0 ≤ (C.getD i Cr.none).arc k ∧ (C.getD i Cr.none).arc k < 100 := fun k hk => by
    have h := may_fit hm i k hi hk
    have h1 := h.1
    have h2 := h.2.1
    omega
  rw [List.getD_eq_getElem?_getD, List.getElem?_eq_getElem hi] at h
  rw [← e]
  exact ⟨h 0 (by omega), h 1 (by omega), h 2 (by omega), h 3 (by omega)⟩
theorem num_len {n : Int} (h : 0 ≤ n ∧ n < 100) : (Lib.itoa n).length ≤ 3 := by
  obtain ⟨k, -, hk⟩ := num_tiny h
  exact (numP_some hk).2.1
theorem tiny_len {x : Cr} (h : Tiny x) : (crossL x).length ≤ 19 := by
  obtain ⟨h1, h2, h3, h4⟩ := h
  have a1 := num_len h1
  have a2 := num_len h2
  have a3 := num_len h3
  have a4 := num_len h4
  rw [crossL_form]
  simp only [List.length_cons, List.length_append, List.length_nil]
  omega
theorem text_len {C : List Cr} {m : Nat} (h : ∀ x ∈ C, Tiny x) (hC : C.length ≤ 16) (hm : m ≤ 16) : (textD C m).length ≤ 640 := by
  have hl : (partsL C m).length = C.length + m := by unfold partsL; simp
  have hb := blank_len (partsL C m) 19 (fun y hy => by
    unfold partsL at hy
    rcases List.mem_append.1 hy with hy | hy
    · obtain ⟨x, hx, rfl⟩ := List.mem_map.1 hy
      exact tiny_len (h x hx)
    · rw [List.eq_of_mem_replicate hy]
      decide)
  unfold textD
  by_cases h0 : partsL C m = []
  · rw [h0]
    have e : Lib.join ([] : List (List UInt8)) [32] = [] := by first | rfl | simp [Lib.join]
    rw [e]
    simp
  · rw [join_blank _ h0, List.length_drop]
    rw [hl] at hb
    omega
/-- A diagram that may be is read as it was. -/
theorem rdM_back {C : List Cr} {m : Nat} (hm : mayD C (m : Nat) = true) : rdM (textD C m) = (0, C, m) := by
  have ht := tiny_may hm
  obtain ⟨s1, s2, s3, -⟩ := sizeB_iff (may_size hm)
  have hl := text_len ht s1 (by omega : m ≤ 16)
  unfold rdM
  rw [if_neg (by omega), text_back ht]
  simp only
  rw [hm]
  rfl
end Go.Proofs.YtlimfajjmhfnaaaGreatDoor

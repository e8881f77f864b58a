/- Several texts of the proof, one behind the other. -/
import Derived.Test.YtlimfajjmhfnaaaGreatDoorDT9
import Derived.Test.YtlimfajjmhfnaaaGreatDoorW1
import Derived.Test.YtlimfajjmhfnaaaGreatDoorW5dP
/- The walk of code.told. -/
namespace Go.Proofs.YtlimfajjmhfnaaaGreatDoor
open Go.RowKit

theorem small_may {C : List Cr} {loops : Int} (hm : mayD C loops = true) (i : Nat) (hi : i < C.length) : Small (C.getD i Cr.none) := by
  obtain ⟨s, -, -, -⟩ := sizeB_iff (may_size hm)
  have h : ∀ k, k < 4 → -1000000 ≤ (C.getD i Cr.none).arc k ∧ (C.getD i Cr.none).arc k ≤ 1000000 := fun k hk => by
    have h := may_fit hm i k hi hk
    have h1 := h.1
    have h2 := h.2.1
    omega
  exact ⟨h 0 (by omega), h 1 (by omega), h 2 (by omega), h 3 (by omega)⟩
theorem small_all {C : List Cr} {loops : Int} (hm : mayD C loops = true) : ∀ x ∈ C, Small x := fun x hx => by
  obtain ⟨i, hi, e⟩ := List.mem_iff_getElem.1 hx
  have h := small_may hm i hi
  rw [List.getD_eq_getElem?_getD, List.getElem?_eq_getElem hi] at h
  rw [← e]
  exact h
theorem take_cross {C : List Cr} {i : Nat} (hi : i < C.length) : (C.take (i + 1)).map crossL = (C.take i).map crossL ++ [crossL (C.getD i Cr.none)] := by
  rw [List.take_add_one, List.getElem?_eq_getElem hi, List.getD_eq_getElem?_getD, List.getElem?_eq_getElem hi, List.map_append]
  rfl

set_option maxHeartbeats 8000000 in
set_option maxRecDepth 100000 in
theorem told_any (v : Value) (C : List Cr) (m : Nat) (w : World) (hm : mayD C (m : Nat) = true) (h : Crs w w.heap.size v C) (hT : Tab w) :
    Calls Tryz.prog 13 #[.agg #[v, .int .i64 (m : Nat)]] w fun e w' => e = .returned (.string ⟨(textD C m).toArray⟩) ∧ Below w.heap.size w w' := by
  obtain ⟨i2, hk, hx0, hx1, hx2⟩ := info_parts infoStr
  have HC : Hid (Crs w w.heap.size v C) := h
  obtain ⟨s1, s2, s3, s4⟩ := sizeB_iff (may_size hm)
  have HSM : Hid (∀ i, i < C.length → Small (C.getD i Cr.none)) := fun i hi => small_may hm i hi
  have HTC : Hid (∀ (x : Cr) (W : World), Small x → Below w.heap.size w W → Calls Tryz.prog 20 #[.agg #[.int .i64 x.a, .int .i64 x.b, .int .i64 x.c, .int .i64 x.d, .bool x.plus]] W fun e w' => e = .returned (.string ⟨(crossL x).toArray⟩) ∧ Below W.heap.size W w') := fun x W hs hb => toldCross_any x.a x.b x.c x.d x.plus W hs (hT.on hb)
  have HPL : Hid (∀ y ∈ partsL C m, y.length ≤ 100) := parts_len (small_all hm)
  have hs5 : 0 < C.length ∨ 0 < m := by omega
  have hs6 : m ≤ 16 := by omega
  obtain ⟨a, cap, rfl, -, -⟩ := h
  have HB1 : Hid (Below w.heap.size w (w.alloc (.cells #[.slice a C.length cap, .int .i64 (m : Nat)] 24))) := (Below.refl _ _).alloc (Nat.le_refl _) _
  have HT1 : Hid ((w.alloc (.cells #[.slice a C.length cap, .int .i64 (m : Nat)] 24)).heap[w.heap.size]? = some (.cells #[.slice a C.length cap, .int .i64 (m : Nat)] 24 (0, 0))) := alloc_at rfl
  clear hm hT
  go_enter Tryz.func13, Tryz.ntmps13
  go_wp2
  go_loopw [3, 9] (fun v3 v9 wr => ∃ (P : List (List UInt8)) (a3 : Option Addr) (c3 : Nat), P.length ≤ C.length ∧ v3 = .slice a3 P.length c3 ∧ v9 = .int .i64 (P.length : Nat) ∧ Hid (P = (C.take P.length).map crossL) ∧ Hid (wr.ownsRow (w.heap.size + 1) 9 1 (.slice a3 P.length c3) P.length (strV P)) ∧ Hid (Below w.heap.size w wr) ∧ Hid (wr.heap[w.heap.size]? = some (.cells #[.slice a C.length cap, .int .i64 (m : Nat)] 24 (0, 0)))) (fun _ v9 _ => C.length - (intOf v9).toNat)
  case atStart => exact ⟨[], none, 0, Nat.zero_le _, rfl, rfl, rfl, World.ownsRow_nil _ _ _ _, HB1.out, HT1.out⟩
  case round =>
    clear HB1 HT1
    rename World => W1
    obtain ⟨P, a3, c3, hPl, rfl, rfl, hP, hO, hb, ht⟩ := hrel
    have hsW := hb.out.size
    have k0 : W1.cell? ⟨w.heap.size, 0, none⟩ = some (.slice a C.length cap) := block_cell ht.out rfl
    have k1 : W1.cell? ⟨w.heap.size, 1, none⟩ = some (.int .i64 (m : Nat)) := block_cell ht.out rfl
    have hlw : w.heap.size < W1.heap.size := (Array.getElem?_eq_some_iff.1 ht.out).1
    by_cases hil : P.length < C.length
    · obtain ⟨b, off, ea, hbw, hCC⟩ := crs_some HC.out (by omega)
      obtain rfl := ea
      obtain ⟨e0, e1, e2, e3, e4⟩ := (hCC.on hb.out hbw) P.length hil
      have hbW : b < W1.heap.size := by omega
      have hii : (P.length : Int) < (C.length : Int) := by omega
      have HSX : Hid (Small (C.getD P.length Cr.none)) := HSM.out _ hil
      have HNX : Hid ((C.take (P.length + 1)).map crossL = P ++ [crossL (C.getD P.length Cr.none)]) := (by rw [take_cross hil, ← hP.out] : (C.take (P.length + 1)).map crossL = P ++ [crossL (C.getD P.length Cr.none)])
      obtain ⟨x, hx⟩ : ∃ x, C.getD P.length Cr.none = x := ⟨_, rfl⟩
      rw [hx] at e0 e1 e2 e3 e4 HSX HNX
      clear hx hCC hP
      go_upto_region 5 with (fail)
      obtain ⟨X, hX⟩ : ∃ X, X = W1.alloc (.cells #[.int .i64 x.a, .int .i64 x.b, .int .i64 x.c, .int .i64 x.d, .bool x.plus] 33) := ⟨_, rfl⟩
      rw [← hX]
      have HBX : Hid (Below w.heap.size w X) := (by rw [hX]; exact hb.out.alloc hsW _ : Below w.heap.size w X)
      have hxb : X.heap[W1.heap.size]? = some (.cells #[.int .i64 x.a, .int .i64 x.b, .int .i64 x.c, .int .i64 x.d, .bool x.plus] 33 (0, 0)) := by rw [hX]; exact alloc_at rfl
      have y0 : X.cell? ⟨W1.heap.size, 0, none⟩ = some (.int .i64 x.a) := block_cell hxb rfl
      have y1 : X.cell? ⟨W1.heap.size, 1, none⟩ = some (.int .i64 x.b) := block_cell hxb rfl
      have y2 : X.cell? ⟨W1.heap.size, 2, none⟩ = some (.int .i64 x.c) := block_cell hxb rfl
      have y3 : X.cell? ⟨W1.heap.size, 3, none⟩ = some (.int .i64 x.d) := block_cell hxb rfl
      have y4 : X.cell? ⟨W1.heap.size, 4, none⟩ = some (.bool x.plus) := block_cell hxb rfl
      have HOX : Hid (X.ownsRow (w.heap.size + 1) 9 1 (.slice a3 P.length c3) P.length (strV P)) := (by rw [hX]; exact hO.out.alloc _ : X.ownsRow (w.heap.size + 1) 9 1 (.slice a3 P.length c3) P.length (strV P))
      have HTX : Hid (X.heap[w.heap.size]? = some (.cells #[.slice (some ⟨b, off, none⟩) C.length cap, .int .i64 (m : Nat)] 24 (0, 0))) := (by rw [hX]; exact alloc_old ht.out : X.heap[w.heap.size]? = some (.cells #[.slice (some ⟨b, off, none⟩) C.length cap, .int .i64 (m : Nat)] 24 (0, 0)))
      clear hX hxb hO hb ht e0 e1 e2 e3 e4 k0 k1
      go_wp2_with (first
        | (at_builtin; refine wpList_append_own _ rfl _ _ 56 rfl (w.heap.size + 1) 9 i2 (.string ⟨#[]⟩) 1 16 Tryz.underlying56 hk hx0 hx1 hx2 rfl (by decide) _ _ _ rfl (HO2.out.alloc _) ⟨w2.heap.size, 0, none⟩ 1 1 [.string ⟨(crossL x).toArray⟩] rfl rfl (new_cell1 _ _ _) (one_str _) (by unfold maxLen; omega) (by omega) (by have := HB2.out.size; simp; omega) ?_; intro v8 w8 hown8 hg8 _; refine Hid.out ?_)
        | (go_at_call 20; refine (HTC.out x X HSX.out HBX.out).mono ?_; rintro e9 w2 ⟨rfl, hb2⟩; have HB2 : Hid (Below w.heap.size w w2) := HBX.out.trans (hb2.mono HBX.out.size); have HO2 : Hid (w2.ownsRow (w.heap.size + 1) 9 1 (.slice a3 P.length c3) P.length (strV P)) := own_any HOX.out (grown_below hb2 none); have HT2 : Hid (w2.heap[w.heap.size]? = some (.cells #[.slice (some ⟨b, off, none⟩) C.length cap, .int .i64 (m : Nat)] 24 (0, 0))) := (hb2.block _ (Array.getElem?_eq_some_iff.1 HTX.out).1).trans HTX.out; clear hb2))
      refine Lib.hid ?_
      obtain ⟨a8, c8, rfl⟩ := own_capS hown8
      have hs2 := HB2.out.size
      have HP8 : Hid (w8.ownsRow (w.heap.size + 1) 9 1 (.slice a8 (P ++ [crossL x]).length c8) (P ++ [crossL x]).length (strV (P ++ [crossL x]))) := (by rw [strV_snoc]; simpa using hown8 : w8.ownsRow (w.heap.size + 1) 9 1 (.slice a8 (P ++ [crossL x]).length c8) (P ++ [crossL x]).length (strV (P ++ [crossL x])))
      have HB8 : Hid (Below w.heap.size w w8) := (HB2.out.alloc hs2 _).grown hg8 (by simp; omega) (fun q hq => Nat.le_of_succ_le (HO2.out.lt q hq).1)
      have HT8 : Hid (w8.heap[w.heap.size]? = some (.cells #[.slice (some ⟨b, off, none⟩) C.length cap, .int .i64 (m : Nat)] 24 (0, 0))) := (hg8.block _ (by simp; have := (Array.getElem?_eq_some_iff.1 HT2.out).1; omega) (fun e => by have := (HO2.out.lt _ e.symm).1; omega)).trans (alloc_old HT2.out)
      clear hown8 hg8 HO2 HB2 HT2
      go_wp2
      go_roundw
      case rel => exact ⟨P ++ [crossL x], a8, c8, by rw [List.length_append]; exact hil, by simp, by simp, (by rw [List.length_append]; exact HNX.out.symm), HP8.out, HB8.out, HT8.out⟩
      case measure => simp only [intOf]; omega
    · have hPe : P = C.map crossL := by rw [hP.out, List.take_of_length_le (by omega)]
      have HPE : Hid (P = C.map crossL) := hPe
      have hii : ¬ (P.length : Int) < (C.length : Int) := by omega
      have hPC : P.length ≤ 16 := by omega
      clear hP hPe
      go_upto_region 8 with (fail)
      go_loopw [3, 21] (fun v3 v21 wr => ∃ (j : Nat) (Q : List (List UInt8)) (a3 : Option Addr) (c3 : Nat), j ≤ m ∧ Q.length ≤ 16 + j ∧ v3 = .slice a3 Q.length c3 ∧ v21 = .int .i64 (j : Nat) ∧ Hid (Q = C.map crossL ++ List.replicate j [79]) ∧ Hid (wr.ownsRow (w.heap.size + 1) 9 1 (.slice a3 Q.length c3) Q.length (strV Q)) ∧ Hid (Below w.heap.size w wr)) (fun _ v21 _ => m - (intOf v21).toNat)
      case atStart =>
        have hq0 : P = C.map crossL ++ List.replicate 0 [79] := by rw [HPE.out]; simp
        exact ⟨0, P, a3, c3, Nat.zero_le _, by omega, rfl, rfl, hq0, hO.out, hb.out⟩
      case round =>
        clear hO hb ht k0 k1 HPE hPC hii hil hPl
        rename World => W2
        obtain ⟨j, Q, a4, c4, hj, hQ, rfl, rfl, hQe, hO, hb⟩ := hrel
        have hsW2 := hb.out.size
        by_cases hjm : j < m
        · have hjI : (j : Int) < (m : Int) := by omega
          have HNX : Hid (Q ++ [[79]] = C.map crossL ++ List.replicate (j + 1) [79]) := (by rw [hQe.out, List.append_assoc, List.replicate_succ'] : Q ++ [[79]] = C.map crossL ++ List.replicate (j + 1) [79])
          clear hQe
          go_wp2_with (at_builtin; refine wpList_append_own _ rfl _ _ 56 rfl (w.heap.size + 1) 9 i2 (.string ⟨#[]⟩) 1 16 Tryz.underlying56 hk hx0 hx1 hx2 rfl (by decide) _ _ _ rfl (hO.out.alloc _) ⟨W2.heap.size, 0, none⟩ 1 1 [.string ⟨#[79]⟩] rfl rfl (new_cell1 _ _ _) (one_str [79]) (by unfold maxLen; omega) (by omega) (by simp; omega) ?_; intro v8 w8 hown8 hg8 _; refine Hid.out ?_)
          refine Lib.hid ?_
          obtain ⟨a8, c8, rfl⟩ := own_capS hown8
          have hp8 : w8.ownsRow (w.heap.size + 1) 9 1 (.slice a8 (Q ++ [[79]]).length c8) (Q ++ [[79]]).length (strV (Q ++ [[79]])) := by rw [strV_snoc]; simpa using hown8
          have HP8 : Hid (w8.ownsRow (w.heap.size + 1) 9 1 (.slice a8 (Q ++ [[79]]).length c8) (Q ++ [[79]]).length (strV (Q ++ [[79]]))) := hp8
          clear hp8
          have HB8 : Hid (Below w.heap.size w w8) := (hb.out.alloc hsW2 _).grown hg8 (by simp; omega) (fun q hq => Nat.le_of_succ_le (hO.out.lt q hq).1)
          clear hown8 hg8 hO hb
          go_wp2
          go_roundw
          case rel => exact ⟨j + 1, Q ++ [[79]], a8, c8, by omega, by rw [List.length_append]; simp; omega, by simp, by go_num, HNX.out, HP8.out, HB8.out⟩
          case measure => simp only [intOf]; omega
        · obtain rfl : j = m := by omega
          have hjI : ¬ (j : Int) < (j : Int) := by omega
          have hQ1 : 0 < Q.length := by rw [hQe.out]; simp; omega
          obtain ⟨g, c5, e5, hc5, hat⟩ := StrsOwn.at (l := Q) hO.out hQ1
          injection e5 with e6 e7 e8
          subst e6 e8
          have HJO : Hid (Calls Tryz.prog 21 #[.slice (some ⟨g, 0, none⟩) Q.length c4, .string ⟨#[32]⟩] W2 fun e w' => e = .returned (.string ⟨(Lib.join Q [32]).toArray⟩) ∧ Below W2.heap.size W2 w') := join_any g c4 Q 32 W2 hat hQ1 (by omega) hc5 (fun x hx => Nat.le_trans (HPL.out x (by rw [hQe.out] at hx; exact hx)) (by omega))
          have HRE : Hid (Lib.join Q [32] = textD C j) := (by rw [hQe.out]; rfl : Lib.join Q [32] = textD C j)
          clear e7 hat hO hQe
          go_wp2_with (go_at_call 21; refine HJO.out.mono ?_; rw [HRE.out]; rintro e9 w6 ⟨rfl, hb6⟩; have HB6 : Hid (Below w.heap.size w w6) := hb.out.trans (hb6.mono hsW2); clear hb6)
          go_ret
          exact ⟨rfl, HB6.out⟩
end Go.Proofs.YtlimfajjmhfnaaaGreatDoor
/- The walk of code.Show. -/
namespace Go.Proofs.YtlimfajjmhfnaaaGreatDoor
open Go.RowKit

set_option maxHeartbeats 4000000 in
set_option maxRecDepth 100000 in
theorem show_no (v : Value) (C : List Cr) (loops : Int) (w : World) (hm : mayD C loops = false) (h : Crs w w.heap.size v C) :
    Calls Tryz.prog 5 #[.agg #[v, .int .i64 loops]] w fun e w' => e = .returned (.tuple #[.string ⟨#[]⟩, .int .i64 7]) ∧ Below w.heap.size w w' := by
  have HC : Hid (Crs w w.heap.size v C) := h
  have HM : Hid (mayD C loops = false) := hm
  obtain ⟨a, cap, rfl, hn, -⟩ := h
  have HB1 : Hid (Below w.heap.size w (w.alloc (.cells #[.slice a C.length cap, .int .i64 loops] 24))) := (Below.refl _ _).alloc (Nat.le_refl _) _
  clear hm
  go_enter Tryz.func5, Tryz.ntmps5
  go_wp2_with (go_at_call 6; refine (codeMayD_any _ C loops _ (HC.out.up HB1.out)).mono ?_; rw [HM.out]; rintro e9 w2 ⟨rfl, hb2⟩; have HB2 : Hid (Below w.heap.size w w2) := HB1.out.trans (hb2.mono HB1.out.size); clear hb2)
  go_ret2
  exact ⟨rfl, HB2.out⟩

set_option maxHeartbeats 4000000 in
set_option maxRecDepth 100000 in
theorem show_yes (v : Value) (C : List Cr) (m : Nat) (w : World) (hm : mayD C (m : Nat) = true) (h : Crs w w.heap.size v C) (hT : Tab w) :
    Calls Tryz.prog 5 #[.agg #[v, .int .i64 (m : Nat)]] w fun e w' => e = .returned (.tuple #[.string ⟨(textD C m).toArray⟩, .int .i64 0]) ∧ Below w.heap.size w w' := by
  have HC : Hid (Crs w w.heap.size v C) := h
  have HM : Hid (mayD C (m : Nat) = true) := hm
  have HT : Hid (Tab w) := hT
  obtain ⟨a, cap, rfl, hn, -⟩ := h
  obtain ⟨X, hX⟩ : ∃ X, X = w.alloc (.cells #[.slice a C.length cap, .int .i64 (m : Nat)] 24) := ⟨_, rfl⟩
  have HX : Hid (X = w.alloc (.cells #[.slice a C.length cap, .int .i64 (m : Nat)] 24)) := hX
  have HB1 : Hid (Below w.heap.size w X) := (by rw [hX]; exact (Below.refl _ _).alloc (Nat.le_refl _) _ : Below w.heap.size w X)
  have HTX : Hid (X.heap[w.heap.size]? = some (.cells #[.slice a C.length cap, .int .i64 (m : Nat)] 24 (0, 0))) := (by rw [hX]; exact alloc_at rfl : X.heap[w.heap.size]? = some (.cells #[.slice a C.length cap, .int .i64 (m : Nat)] 24 (0, 0)))
  clear hm hX hT
  go_enter Tryz.func5, Tryz.ntmps5
  go_upto_region 3 with (go_at_call 6; rw [← HX.out]; refine (codeMayD_any _ C (m : Nat) _ (HC.out.up HB1.out)).mono ?_; rw [HM.out]; rintro e9 w2 ⟨rfl, hb2⟩)
  have HB2 : Hid (Below w.heap.size w w2) := HB1.out.trans (hb2.mono HB1.out.size)
  have ht2 := (hb2.block _ (Array.getElem?_eq_some_iff.1 HTX.out).1).trans HTX.out
  have k0 : w2.cell? ⟨w.heap.size, 0, none⟩ = some (.slice a C.length cap) := block_cell ht2 rfl
  have k1 : w2.cell? ⟨w.heap.size, 1, none⟩ = some (.int .i64 (m : Nat)) := block_cell ht2 rfl
  have hlw : w.heap.size < w2.heap.size := (Array.getElem?_eq_some_iff.1 ht2).1
  clear hb2 ht2
  go_wp2_with (go_at_call 13; refine (told_any _ C m _ HM.out (HC.out.up HB2.out) (HT.out.on HB2.out)).mono ?_; rintro e9 w3 ⟨rfl, hb3⟩; have HB3 : Hid (Below w.heap.size w w3) := HB2.out.trans (hb3.mono HB2.out.size); clear hb3)
  go_ret2
  exact ⟨rfl, HB3.out⟩

end Go.Proofs.YtlimfajjmhfnaaaGreatDoor

/- The walk of knotworkref.DetMay. -/
import Derived.Test.YtdbpiggohncjiaaPD7
namespace Go.Proofs.Ytdbpiggohncjiaa.Poly
open Go.RowKit Go.Maps

/-- What the document asks of a table, as a number: 2 a wrong size, 1 a place that may not be handed in, 3 a place that is too great, 0 none. -/
def detMayN (T : List (List (List (Int × Int)))) : Int := if squareB T = false then 2 else if everyB mayB T = false then 1 else if everyB fewB T = false then 3 else 0

/-- The places ahead of place j of row k, in order, all have it. -/
def Ahead (G : List (Int × Int) → Bool) (T : List (List (List (Int × Int)))) (k j : Nat) : Bool :=
  (List.range k).all (fun i => (List.range (T.getD i []).length).all fun m => G ((T.getD i []).getD m [])) && (List.range j).all fun m => G ((T.getD k []).getD m [])

theorem ahead_row (G : List (Int × Int) → Bool) (T : List (List (List (Int × Int)))) (k : Nat) : Ahead G T k (T.getD k []).length = Ahead G T (k + 1) 0 := by
  unfold Ahead
  simp [List.range_succ, List.all_append]
theorem ahead_next (G : List (Int × Int) → Bool) (T : List (List (List (Int × Int)))) (k j : Nat) : Ahead G T k (j + 1) = (Ahead G T k j && G ((T.getD k []).getD j [])) := by
  unfold Ahead
  simp [List.range_succ, List.all_append, Bool.and_assoc]
theorem ahead_end (G : List (Int × Int) → Bool) (T : List (List (List (Int × Int)))) : Ahead G T T.length 0 = everyB G T := by
  unfold Ahead everyB
  simp
theorem ahead_start (G : List (Int × Int) → Bool) (T : List (List (List (Int × Int)))) : Ahead G T 0 0 = true := by
  unfold Ahead
  simp

theorem detMay_size {T : List (List (List (Int × Int)))} (h : squareB T = false) : detMayN T = 2 := by unfold detMayN; rw [if_pos h]
theorem detMay_form {T : List (List (List (Int × Int)))} (h : squareB T = true) (h1 : everyB mayB T = false) : detMayN T = 1 := by unfold detMayN; rw [if_neg (by simp [h]), if_pos h1]
theorem detMay_range {T : List (List (List (Int × Int)))} (h : squareB T = true) (h1 : everyB mayB T = true) (h2 : everyB fewB T = false) : detMayN T = 3 := by unfold detMayN; rw [if_neg (by simp [h]), if_neg (by simp [h1]), if_pos h2]
theorem detMay_ok {T : List (List (List (Int × Int)))} (h : squareB T = true) (h1 : everyB mayB T = true) (h2 : everyB fewB T = true) : detMayN T = 0 := by unfold detMayN; rw [if_neg (by simp [h]), if_neg (by simp [h1]), if_neg (by simp [h2])]

set_option maxHeartbeats 4000000 in
set_option maxRecDepth 100000 in
theorem detMay_any (v : Value) (T : List (List (List (Int × Int)))) (w : World) (hl : T.length ≤ maxLen) (hr : ∀ i, i < T.length → (T.getD i []).length ≤ maxLen) (hp : ∀ i, i < T.length → ∀ j, j < (T.getD i []).length → ((T.getD i []).getD j []).length ≤ maxLen) (h : Table w w.heap.size v T) :
    Calls Try.prog 21 #[v] w fun e w' => e = .returned (.int .i64 (detMayN T)) ∧ Below w.heap.size w w' := by
  obtain ⟨rs, hrl, ⟨a, cap, rfl, g⟩, hR⟩ := h
  have hl' : T.length ≤ 9223372036854775807 := hl
  have HR : Hid (∀ i, i < T.length → Row w w.heap.size (rs.getD i (.bool false)) (T.getD i [])) := hR
  have HL : Hid (∀ i, i < T.length → (T.getD i []).length ≤ maxLen) := hr
  have HP : Hid (∀ i, i < T.length → ∀ j, j < (T.getD i []).length → ((T.getD i []).getD j []).length ≤ maxLen) := hp
  rw [hrl] at g ⊢
  have HG : Hid (0 < T.length → ∃ b off, a = some ⟨b, off, none⟩ ∧ b < w.heap.size ∧ ∀ i, i < T.length → w.cell? ⟨b, off + i, none⟩ = some (rs.getD i (.bool false))) := g
  clear hR hr g hl hp
  by_cases h6 : 6 < T.length
  · have e := detMay_size (square_long h6)
    rw [e]
    have hd : decide (6 < (T.length : Int)) = true := by simp; omega
    go_enter Try.func21, Try.ntmps21
    go_wp2
    go_ret
    exact ⟨rfl, Below.refl _ _⟩
  · go_enter Try.func21, Try.ntmps21
    go_wp2
    go_loopw [3] (fun i wr => ∃ k : Nat, k ≤ T.length ∧ i = .int .i64 k ∧ Hid (∀ i, i < k → (T.getD i []).length = T.length) ∧ Below w.heap.size w wr) (fun i _ => T.length - (intOf i).toNat)
    case atStart => exact ⟨0, Nat.zero_le _, rfl, fun i hi => absurd hi (Nat.not_lt_zero _), Below.refl _ _⟩
    case round =>
      obtain ⟨k, hk, rfl, hA, hb⟩ := hrel
      by_cases hlt : k < T.length
      · obtain ⟨b, off, rfl, hbw, hc⟩ := HG.out (by omega)
        have c0 := bcell hb hbw (hc k hlt)
        obtain ⟨ps, hpl, ⟨a2, cap2, hv2, _⟩, _⟩ := HR.out k hlt
        rw [hv2, hpl] at c0
        have hlk : (T.getD k []).length ≤ 9223372036854775807 := HL.out k hlt
        have hbr : b < wr.heap.size := Nat.lt_of_lt_of_le hbw hb.size
        have HK : Hid ((T.getD k []).length ≠ T.length → detMayN T = 2) := fun h => detMay_size (square_no hlt h)
        have HA : Hid ((T.getD k []).length = T.length → ∀ i, i < k + 1 → (T.getD i []).length = T.length) := fun h i hi => by
          by_cases e : i = k
          · rw [e]; exact h
          · exact hA.out i (by omega)
        clear hc hpl hv2 hA
        generalize (T.getD k []).length = n at c0 hlk HK HA
        by_cases hn : n = T.length
        · subst hn
          go_wp2
          go_roundw
          case rel => exact ⟨k + 1, by omega, by go_num, HA.out rfl, hb⟩
          case measure => simp only [intOf]; omega
        · have hd : ((n : Int) != (T.length : Int)) = true := by rw [bne_iff_ne]; omega
          have HE : Hid (detMayN T = 2) := HK.out hn
          go_wp2
          go_ret
          exact ⟨ret_int HE.out.symm, hb⟩
      · obtain rfl : k = T.length := by omega
        have HSQ : Hid (squareB T = true) := (square_iff T).2 ⟨by omega, hA.out⟩
        have HA : Hid (∀ i, i < T.length → (T.getD i []).length = T.length) := hA.out
        clear hA hk hlt
        go_wp2
        go_loopw [4, 5] (fun g i ws => ∃ k : Nat, k ≤ T.length ∧ i = .int .i64 k ∧ g = .bool (!Ahead fewB T k 0) ∧ Hid (Ahead mayB T k 0 = true) ∧ Below w.heap.size w ws) (fun _ i _ => T.length - (intOf i).toNat)
        case atStart => exact ⟨0, Nat.zero_le _, rfl, by rw [ahead_start]; rfl, ahead_start _ _, hb⟩
        case round =>
          clear hb
          rename World => W1
          obtain ⟨k, hk, rfl, rfl, hM, hb⟩ := hrel
          by_cases hlt : k < T.length
          · obtain ⟨b, off, rfl, hbw, hc⟩ := HG.out (by omega)
            have HC0 : Hid (w.cell? ⟨b, off + k, none⟩ = some (rs.getD k (.bool false))) := hc k hlt
            have hn := HA.out k hlt
            obtain ⟨ps, hpl, ⟨a2, cap2, hv2, g2⟩, hPs⟩ := HR.out k hlt
            rw [hv2, hpl, hn] at HC0
            rw [hpl, hn] at g2
            obtain ⟨b2, off2, rfl, hbw2, hc2⟩ := g2 (by omega)
            have HC2 : Hid (∀ i, i < T.length → w.cell? ⟨b2, off2 + i, none⟩ = some (ps.getD i (.bool false))) := hc2
            have HPs : Hid (∀ j, j < T.length → Poly w w.heap.size (ps.getD j (.bool false)) ((T.getD k []).getD j [])) := fun j hj => hPs j (by rw [hn]; exact hj)
            have HPk : Hid (∀ j, j < T.length → ((T.getD k []).getD j []).length ≤ maxLen) := fun j hj => HP.out k hlt j (by rw [hn]; exact hj)
            have HN : Hid (∀ j, j < T.length → mayB ((T.getD k []).getD j []) = false → detMayN T = 1) := fun j hj h => detMay_form HSQ.out (every_no hlt (by rw [hn]; exact hj) h)
            have HNX : Hid (Ahead mayB T k T.length = Ahead mayB T (k + 1) 0 ∧ Ahead fewB T k T.length = Ahead fewB T (k + 1) 0) := by
              refine (⟨?_, ?_⟩ : Ahead mayB T k T.length = Ahead mayB T (k + 1) 0 ∧ Ahead fewB T k T.length = Ahead fewB T (k + 1) 0)
              · rw [← ahead_row, hn]
              · rw [← ahead_row, hn]
            clear hc hpl hv2 hPs hc2 g2 hn
            go_wp2
            go_loopw [4, 6] (fun g i ws => ∃ j : Nat, j ≤ T.length ∧ i = .int .i64 j ∧ g = .bool (!Ahead fewB T k j) ∧ Hid (Ahead mayB T k j = true) ∧ Below w.heap.size w ws) (fun _ i _ => T.length - (intOf i).toNat)
            case atStart => exact ⟨0, Nat.zero_le _, rfl, rfl, hM, hb⟩
            case round =>
              clear hb
              rename World => W2
              obtain ⟨j, hj, rfl, rfl, hM2, hb⟩ := hrel
              by_cases hjl : j < T.length
              · have hsz := hb.size
                have c0 := bcell hb hbw HC0.out
                have c2 := bcell hb hbw2 (HC2.out j hjl)
                have hbr : b < W2.heap.size := Nat.lt_of_lt_of_le hbw hsz
                have hbr2 : b2 < W2.heap.size := Nat.lt_of_lt_of_le hbw2 hsz
                have HQ : Hid (Poly W2 W2.heap.size (ps.getD j (.bool false)) ((T.getD k []).getD j [])) := ((HPs.out j hjl).on hb).mono hsz
                have HQ0 : Hid (Poly w w.heap.size (ps.getD j (.bool false)) ((T.getD k []).getD j [])) := HPs.out j hjl
                have HCl : Hid (((T.getD k []).getD j []).length ≤ maxLen) := HPk.out j hjl
                have HN1 : Hid (mayB ((T.getD k []).getD j []) = false → detMayN T = 1) := HN.out j hjl
                have HX1 : Hid (Ahead mayB T k (j + 1) = (Ahead mayB T k j && mayB ((T.getD k []).getD j []))) := ahead_next mayB T k j
                have HX2 : Hid (Ahead fewB T k (j + 1) = (Ahead fewB T k j && fewB ((T.getD k []).getD j []))) := ahead_next fewB T k j
                have HCp : Hid (w.cell? ⟨b2, off2 + j, none⟩ = some (ps.getD j (.bool false))) := HC2.out j hjl
                generalize ps.getD j (.bool false) = pv at c2 HQ HQ0 HCp
                generalize (T.getD k []).getD j [] = l at HQ HQ0 HCl HN1 HX1 HX2
                obtain ⟨gb, hgb⟩ : ∃ gb, Ahead fewB T k j = gb := ⟨_, rfl⟩
                rw [hgb] at HX2 ⊢
                clear hgb
                cases hg : mayB l with
                | false =>
                  have HE : Hid (detMayN T = 1) := HN1.out hg
                  have HGT : Hid (mayB l = false) := hg
                  clear hg
                  go_wp2_with (go_at_call 79; refine (polyMay_poly _ l _ HCl.out HQ.out).mono ?_; rw [HGT.out]; rintro r w3 ⟨rfl, hb3⟩)
                  go_ret
                  exact ⟨ret_int HE.out.symm, hb.trans (hb3.mono hsz)⟩
                | true =>
                  have hl64 := ((may_iff l).1 hg).1
                  have HGT : Hid (mayB l = true) := hg
                  have HM1 : Hid (Ahead mayB T k (j + 1) = true) := (by rw [HX1.out, hM2.out, hg]; rfl : Ahead mayB T k (j + 1) = true)
                  clear hg
                  obtain ⟨a3, cap3, rfl, g3⟩ := HQ0.out.slice
                  have HG3 : Hid (0 < l.length → ∃ b off, a3 = some ⟨b, off, none⟩ ∧ b < w.heap.size ∧ TermsAt w b off l) := g3
                  clear g3
                  go_wp2_with (go_at_call 79; refine (polyMay_poly _ l _ HCl.out HQ.out).mono ?_; rw [HGT.out]; rintro r w3 ⟨rfl, hb3⟩)
                  have hB3 : Below w.heap.size w w3 := hb.trans (hb3.mono hsz)
                  clear hb hb3 hsz hbr hbr2 c0 c2 HQ
                  go_loopw [7, 8] (fun s i wt => ∃ m : Nat, m ≤ l.length ∧ i = .int .i64 m ∧ s = .int .i64 (sizeTo l m) ∧ Below w.heap.size w wt) (fun _ i _ => l.length - (intOf i).toNat)
                  case atStart => exact ⟨0, Nat.zero_le _, rfl, rfl, hB3⟩
                  case round =>
                    clear hB3
                    rename World => W4
                    obtain ⟨m, hm, rfl, rfl, hb⟩ := hrel
                    have hsz := hb.size
                    have c0 := bcell hb hbw HC0.out
                    have c2 := bcell hb hbw2 HCp.out
                    have hbr : b < W4.heap.size := Nat.lt_of_lt_of_le hbw hsz
                    have hbr2 : b2 < W4.heap.size := Nat.lt_of_lt_of_le hbw2 hsz
                    by_cases hml : m < l.length
                    · obtain ⟨b3, off3, rfl, hbw3, hT3⟩ := HG3.out (by omega)
                      have c3 := bcell hb hbw3 (hT3 m hml).2
                      have hbr3 : b3 < W4.heap.size := Nat.lt_of_lt_of_le hbw3 hsz
                      have hok := (okB_iff l m).1 (((may_iff l).1 HGT.out).2 m hml)
                      have hs1 := sizeTo_le HGT.out (m + 1) (by omega)
                      have HS : Hid (sizeTo l (m + 1) = sizeTo l m + absI (l.getD m (0, 0)).2) := (rfl : sizeTo l (m + 1) = sizeTo l m + absI (l.getD m (0, 0)).2)
                      have hs2 : sizeTo l (m + 1) = sizeTo l m + absI (l.getD m (0, 0)).2 := rfl
                      generalize (l.getD m (0, 0)).2 = c at c3 hok HS hs2
                      have H0 : Hid (-1000000 ≤ c) := hok.2.2.1
                      have H1 : Hid (c ≤ 1000000) := hok.2.2.2.1
                      have hw1 : IntKind.i64.wrap (sizeTo l m + absI c) = sizeTo l m + absI c := IntWalk.i64_in _ (by omega)
                      clear hok hs1 hs2 hT3
                      generalize sizeTo l m = s at *
                      go_wp2_with (go_at_call 80; refine (abs_any c _ H0.out H1.out).mono ?_; rintro r w5 ⟨rfl, hb5⟩)
                      go_roundw
                      case rel => exact ⟨m + 1, by omega, by go_num, by rw [HS.out], hb.trans (hb5.mono hsz)⟩
                      case measure => simp only [intOf]; omega
                    · obtain rfl : m = l.length := by omega
                      have HF : Hid (fewB l = decide (sizeTo l l.length ≤ 100)) := (rfl : fewB l = decide (sizeTo l l.length ≤ 100))
                      generalize sizeTo l l.length = z at HF ⊢
                      cases gb with
                      | false =>
                        go_wp2
                        go_roundw
                        case rel => exact ⟨j + 1, by omega, by go_num, by rw [HX2.out]; rfl, HM1.out, hb⟩
                        case measure => simp only [intOf]; omega
                      | true =>
                        by_cases hz : 100 < z
                        · have hd : decide (100 < z) = true := by simpa using hz
                          have HFF : Hid (fewB l = false) := (by rw [HF.out]; simp; omega : fewB l = false)
                          go_wp2
                          go_roundw
                          case rel => exact ⟨j + 1, by omega, by go_num, by rw [HX2.out, HFF.out]; rfl, HM1.out, hb⟩
                          case measure => simp only [intOf]; omega
                        · have hd : decide (100 < z) = false := by simpa using hz
                          have HFF : Hid (fewB l = true) := (by rw [HF.out]; simp; omega : fewB l = true)
                          go_wp2
                          go_roundw
                          case rel => exact ⟨j + 1, by omega, by go_num, by rw [HX2.out, HFF.out]; rfl, HM1.out, hb⟩
                          case measure => simp only [intOf]; omega
              · obtain rfl : j = T.length := by omega
                rw [HNX.out.2]
                have HM3 : Hid (Ahead mayB T (k + 1) 0 = true) := (by rw [← HNX.out.1]; exact hM2.out : Ahead mayB T (k + 1) 0 = true)
                go_wp2
                go_roundw
                case rel => exact ⟨k + 1, by omega, by go_num, rfl, HM3.out, hb⟩
                case measure => simp only [intOf]; omega
          · obtain rfl : k = T.length := by omega
            rw [ahead_end] at hM ⊢
            cases hF : everyB fewB T with
            | true =>
              have HE : Hid (detMayN T = 0) := detMay_ok HSQ.out hM.out hF
              clear hF
              go_wp2
              go_ret
              exact ⟨ret_int HE.out.symm, hb⟩
            | false =>
              have HE : Hid (detMayN T = 3) := detMay_range HSQ.out hM.out hF
              clear hF
              go_wp2
              go_ret
              exact ⟨ret_int HE.out.symm, hb⟩
end Go.Proofs.Ytdbpiggohncjiaa.Poly

/- BraidNormals: the walk of ref.NormalIs. -/
import Derived.Test.YthlmkoiilgjflaaNB8P
namespace Go.Proofs.Ythlmkoiilgjflaa
open Go.RowKit

/-- A row of letters that the call owns, with others behind it. -/
theorem own_more {w W1 w8 : World} {B M N : Nat} {v v8 : Value} {l x : List Int} (hs : B ≤ W1.heap.size) (hb : Below B w W1) (hO : W1.ownsRow B 3 1 v M (intsV l)) (hown : w8.ownsRow B 3 1 v8 (M + N) (intsV l ++ intsV x)) (hg : W1.grownBy w8 v.ownBlock) : w8.ownsRow B 3 1 v8 (M + N) (intsV (l ++ x)) ∧ Below B w w8 :=
  ⟨by rw [show intsV (l ++ x) = intsV l ++ intsV x by unfold intsV; simp]; exact hown, hb.grown hg hs (fun q hq => (hO.lt q hq).1)⟩

set_option maxHeartbeats 8000000 in
set_option maxRecDepth 100000 in
theorem normalIs_any (n c c3 m : Nat) (a a3 : Option Addr) (u : List Int) (k : Int) (F : List (List Nat)) (w : World) (h2 : 2 ≤ n) (h6 : n ≤ 6) (hS : CanS n (k, F)) (hFm : F.length = m) (hm : m ≤ 20) (hk1 : -20 ≤ k) (hk2 : k ≤ 20)
    (hu : Vl n u) (hu20 : u.length ≤ 20) (hub : ∀ t, t ≤ u.length → ∀ j, ((actT n u t).getD j []).length ≤ 5801565999000) (hWb : BD n 5801565999000 (hw n k ++ wrd n F)) (hact : u.foldl stp (act0 n) = (hw n k ++ wrd n F).foldl stp (act0 n))
    (h1 : RdAt w w.heap.size 1 (.slice a u.length c) u.length (intsV u)) (h3 : IntsRd w w.heap.size (.slice a3 m c3) (F.reverse.map (eI n))) :
    Calls Try.prog 7 #[.int .i64 (n : Nat), .slice a u.length c, .int .i64 k, .slice a3 m c3] w fun e w' => e = .returned (.bool true) ∧ Below w.heap.size w w' := by
  obtain ⟨i2, hki, hx0, hx1, hx2⟩ := info_parts infoInt
  obtain ⟨D, hD⟩ : ∃ D, pw1 n (pdl n) = D := ⟨_, rfl⟩
  obtain ⟨K, hK⟩ : ∃ K, k.natAbs = K := ⟨_, rfl⟩
  obtain ⟨V, hV⟩ : ∃ V, V = if 0 < k then D else rc D := ⟨_, rfl⟩
  have hwk : hw n k = rep V K := by
    unfold hw
    rw [hD, hV, ← hK]
    by_cases hp : 0 < k
    · rw [if_pos (by omega), if_pos hp]
      congr 1
      omega
    · rw [if_neg hp]
      by_cases h0 : k = 0
      · subst h0; rfl
      · rw [if_neg (by omega)]
        congr 1
        omega
  have hDl : D.length ≤ 30 := by rw [← hD]; exact pw1_len h6 _
  have hVl : V.length ≤ 30 := by
    rw [hV]
    split
    · exact hDl
    · rw [rc_lenN]; exact hDl
  have hwt := wTo_all n F
  rw [hFm] at hwt
  rw [hwk, ← hwt] at hWb hact
  have hVlW : Vl n (rep V K ++ wTo n F.reverse m) := by
    rw [← hwk, hwt]
    exact (vl_hw h2 h6 k).app (vl_wrd h2 h6 hS.all)
  have hlW : (rep V K ++ wTo n F.reverse m).length ≤ 1200 := by
    have e1 := rep_len V K
    have e2 := wTo_len h6 F.reverse m
    have e3 : K * V.length ≤ 20 * 30 := Nat.mul_le_mul (by omega) hVl
    rw [List.length_append]
    omega
  have hlet : ∀ {l : List Int}, Vl n l → ∀ j, j < l.length → l.getD j 0 ≠ 0 ∧ -(n : Int) < l.getD j 0 ∧ l.getD j 0 < (n : Int) := fun {l} hl j hj => by
    have hmem : l.getD j 0 ∈ l := by rw [List.getD_eq_getElem?_getD, List.getElem?_eq_getElem hj]; exact List.getElem_mem _
    have := hl _ hmem
    have h1 := this.1
    have h2 := this.2
    omega
  have HSAME : Hid (∀ W a9 c9 M, Below w.heap.size w W → M = (rep V K ++ wTo n F.reverse m).length → RdAt W W.heap.size 1 (.slice a9 M c9) M (intsV (rep V K ++ wTo n F.reverse m)) → Calls Try.prog 14 #[.int .i64 (n : Nat), .slice a u.length c, .slice a9 M c9] W fun e w' => e = .returned (.bool true) ∧ Below W.heap.size W w') := fun W a9 c9 M hW hM hr => by
    subst hM
    have := sameActs_bd n c c9 a a9 u (rep V K ++ wTo n F.reverse m) W h2 h6 (hlet hu) (by omega) hub (hlet hVlW) (by omega) (fun t _ j => hWb t j) ((h1.on hW).mono hW.size) hr
    rw [actT_all, actT_all, hact, decide_eq_true rfl] at this
    exact this
  have hL : ∀ i, i < m → IsP n (F.reverse.getD i []) ∧ (bubW n (F.reverse.getD i [])).length ≠ 0 ∧ (bubW n (F.reverse.getD i [])).length ≠ D.length ∧ (bubW n (F.reverse.getD i [])).length ≤ 30 := fun i hi => by
    have hmem : F.reverse.getD i [] ∈ F := by
      rw [rev_at F i (by omega), List.getD_eq_getElem?_getD, List.getElem?_eq_getElem (by omega)]
      exact List.getElem_mem _
    have hp := hS.all _ hmem
    have := bubW_len h2 h6 hp (hS.no _ hmem)
    rw [← hD]
    unfold pw1
    rw [lw_len]
    exact ⟨hp, this.1, this.2, bubW_short h6 _⟩
  have HSD : Hid (∀ i, i + 1 < m → Sd n (F.reverse.getD i []) (F.reverse.getD (i + 1) [])) := fun i hi => setL_rev (F := F) hS.set i (by omega)
  have HROW : Hid (∀ i, i < m → ∃ b o r s, a3 = some ⟨b, o, none⟩ ∧ b < w.heap.size ∧ w.cell? ⟨b, o + i, none⟩ = some (.slice r n s) ∧ RdAt w w.heap.size 1 (.slice r n s) n (intsV (eI n (F.reverse.getD i [])))) := fun i hi => by
    have hl : (F.reverse.map (eI n)).length = m := by rw [List.length_map, List.length_reverse, hFm]
    obtain ⟨b, o, r, s, e, l1, p1, x1⟩ := (show IntsRd w w.heap.size (.slice a3 (F.reverse.map (eI n)).length c3) (F.reverse.map (eI n)) by rw [hl]; exact h3).row i (by rw [hl]; exact hi)
    have e2 : (F.reverse.map (eI n)).getD i [] = eI n (F.reverse.getD i []) := by
      rw [List.getD_eq_getElem?_getD, List.getElem?_map, List.getD_eq_getElem?_getD, List.getElem?_eq_getElem (by rw [List.length_reverse]; omega)]
      rfl
    rw [e2, eI_len] at p1 x1
    exact ⟨b, o, r, s, e, l1, p1, x1⟩
  have HABS : Hid (∀ W, Calls Try.prog 11 #[.int .i64 k] W fun e w' => e = .returned (.int .i64 (K : Int)) ∧ w' = W) := fun W => by
    have := absR_any k W (by omega) (by omega)
    rw [hK] at this
    exact this
  have HVV : Hid ((0 < k → V = D) ∧ (k ≤ 0 → V = rc D)) := ⟨fun h => by rw [hV, if_pos h], fun h => by rw [hV, if_neg (by omega)]⟩
  have HKB : Hid (∀ i, i ≤ K → (rep V i).length ≤ 600) := fun i hi => by
    have e1 := rep_len V i
    have e3 : i * V.length ≤ 20 * 30 := Nat.mul_le_mul (by omega) hVl
    omega
  have HWB : Hid (∀ i, i ≤ m → (rep V K ++ wTo n F.reverse i).length ≤ 1200) := fun i hi => by
    have e1 := rep_len V K
    have e2 := wTo_len h6 F.reverse i
    have e3 : K * V.length ≤ 20 * 30 := Nat.mul_le_mul (by omega) hVl
    rw [List.length_append]
    omega
  have HD : Hid (lw (bubW n (pdl n)) = D) := hD
  have HDL : Hid ((bubW n (pdl n)).length = D.length) := (by rw [← hD]; unfold pw1; rw [lw_len] : (bubW n (pdl n)).length = D.length)
  have HSM : Hid (SmI D) := (by
    rw [← hD]
    intro i
    by_cases hi : i < (pw1 n (pdl n)).length
    · have := hlet (vl_pw h2 h6 (isP_pdl n)) i hi
      omega
    · rw [List.getD_eq_getElem?_getD, List.getElem?_eq_none (by omega)]
      show -6 ≤ (0 : Int) ∧ (0 : Int) ≤ 6
      omega : SmI D)
  have HLF : Hid (∀ i, i < m → IsP n (F.reverse.getD i []) ∧ (bubW n (F.reverse.getD i [])).length ≠ 0 ∧ (bubW n (F.reverse.getD i [])).length ≠ D.length ∧ (bubW n (F.reverse.getD i [])).length ≤ 30) := hL
  generalize u.length = ul at h1 HSAME ⊢
  have HHN : Hid (∀ i, i < n → intsV (hfT n i) ++ [.int .i64 ((n : Int) - (i : Int))] = intsV (hfT n (i + 1))) := fun i hi => by rw [hfT_next hi]; unfold intsV; simp
  clear hwk hwt hact hWb hVlW hlW hlet hL hS hFm hD hV hu hub hu20 h1 h3
  generalize F.reverse = L at *
  go_enter Try.func7, Try.ntmps7
  go_wp2
  go_loopw [10, 11] (fun v10 v11 wr => ∃ (i : Nat) (a4 : Option Addr) (c4 : Nat), i ≤ n ∧ v11 = .int .i64 (i : Nat) ∧ v10 = .slice a4 i c4 ∧ Hid (wr.ownsRow w.heap.size 3 1 (.slice a4 i c4) i (intsV (hfT n i))) ∧ Hid (Below w.heap.size w wr)) (fun _ v11 _ => n - (intOf v11).toNat)
  case atStart => exact ⟨0, none, 0, Nat.zero_le _, rfl, rfl, World.ownsRow_nil _ _ _ _, Below.refl _ _⟩
  case round =>
    rename World => W1
    obtain ⟨i, a4, c4, hin, rfl, rfl, hO, hb⟩ := hrel
    by_cases hil : i < n
    · have hiI : (i : Int) < (n : Int) := by omega
      obtain ⟨z, hz⟩ : ∃ z, (n : Int) - (i : Int) = z := ⟨_, rfl⟩
      have ewz : IntKind.i64.wrap ((n : Int) - (i : Int)) = z := by rw [IntWalk.i64_in _ (by omega)]; exact hz
      have HN := hid_g (HHN.out i hil)
      rw [hz] at HN
      clear hz
      go_wp2_with (first
        | (at_builtin; refine wpList_append_own _ rfl _ _ 22 rfl w.heap.size 3 i2 (.int .i64 0) 1 8 Try.underlying22 hki hx0 hx1 hx2 rfl (by decide) _ i (intsV (hfT n i)) rfl (hO.out.alloc _) ⟨W1.heap.size, 0, none⟩ 1 1 [.int .i64 z] rfl rfl (new_cell1 _ _ _) (one_intB _) (by unfold maxLen; omega) (by omega) (by have := hb.out.size; simp; omega) ?_; intro v8 w8 hown8 hg8 _; refine Hid.out ?_))
      refine Lib.hid ?_
      rw [HN.out] at hown8
      obtain ⟨a8, c8, rfl⟩ := own_capS hown8
      have HB8 := hid_g ((hb.out.alloc hb.out.size _).grown hg8 (by have := hb.out.size; simp; omega) (fun q hq => (hO.out.lt q hq).1))
      have HO8 := hid_g hown8
      clear hown8 hg8 hO hb
      go_wp2
      go_roundw
      case rel => exact ⟨i + 1, a8, c8, by omega, by go_num, rfl, HO8.out, HB8.out⟩
      case measure => simp only [intOf]; omega
    · obtain rfl : i = n := by omega
      rw [hfT_all] at hO
      have HPW := hid_g (permWord_any i c4 a4 (pdl i) W1 h2 h6 (isP_pdl i) (own_rd hO.out))
      rw [HD.out, HDL.out] at HPW
      have HB1 := hid_g hb.out
      clear hO hb hil HHN HD HDL
      go_wp2_with (first | (go_at_call 10; refine HPW.out.mono ?_; rintro e9 w2 ⟨a5, c5, rfl, hr5, hb5⟩; refine Hid.out ?_))
      refine Lib.hid ?_
      have HB2 := hid_g (HB1.out.trans (hb5.mono HB1.out.size))
      have HDI := hid_g (own_in hr5)
      have HDR := hid_g (own_rd hr5)
      clear hr5 hb5 HPW HB1
      obtain ⟨DN, hDN⟩ : ∃ DN, D.length = DN := ⟨_, rfl⟩
      have HDN := hid_g hDN
      rw [hDN] at HLF HDI HDR hDl
      rw [hDN]
      clear hDN
      go_wp2
      go_loopw [9, 13] (fun v9 v13 wr => ∃ (j M : Nat) (a9 : Option Addr) (c9 : Nat), j ≤ K ∧ v13 = .int .i64 (j : Nat) ∧ v9 = .slice a9 M c9 ∧ Hid (M = (rep V j).length) ∧ Hid (wr.ownsRow w2.heap.size 3 1 (.slice a9 M c9) M (intsV (rep V j))) ∧ Hid (Below w2.heap.size w2 wr)) (fun _ v13 _ => K - (intOf v13).toNat)
      case atStart => exact ⟨0, 0, none, 0, Nat.zero_le _, rfl, rfl, rfl, World.ownsRow_nil _ _ _ _, Below.refl _ _⟩
      case round =>
        rename World => W3
        obtain ⟨j, M, a9, c9, hjK, rfl, rfl, hM, hO, hb⟩ := hrel
        have HM := hid_g hM.out
        have HO := hid_g hO.out
        have HB := hid_g hb.out
        have HC := hid_g (HABS.out W3)
        have HKJ := HKB.out j hjK
        rw [← HM.out] at HKJ
        clear hM hO hb
        go_wp2_with (first | (go_at_call 11; refine HC.out.mono ?_; rintro e9 w5 ⟨rfl, e4⟩; obtain rfl := e4.symm; refine Hid.out ?_))
        refine Lib.hid ?_
        clear HC
        by_cases hjl : j < K
        · have hjI : (j : Int) < (K : Int) := by omega
          by_cases hp : 0 < k
          · have HVE := hid_g (HVV.out.1 hp)
            have HL1 : Hid ((intsV D).length = DN) := (by rw [intsV_len]; exact HDN.out : (intsV D).length = DN)
            have HO1 := intsV_oneI D
            have HMN : Hid (M + DN = (rep V (j + 1)).length) := (by rw [HM.out, show rep V (j + 1) = rep V j ++ V from rfl, List.length_append, HVE.out, HDN.out] : M + DN = (rep V (j + 1)).length)
            go_wp2_with (first
              | (at_builtin; refine wpList_append_in rfl _ _ 22 rfl w2.heap.size 3 i2 (.int .i64 0) 1 8 Try.underlying22 hki hx0 hx1 hx2 rfl (by decide) _ M (intsV (rep V j)) rfl HO.out _ w2.heap.size DN (intsV D) rfl (HDI.out.on HB.out) (by rw [HL1.out, Nat.mul_one]) HO1 (by unfold maxLen; omega) (by omega) HB.out.size ?_; intro v8 w8 hown8 hg8; refine Hid.out ?_))
            refine Lib.hid ?_
            have hmo := own_more HB.out.size HB.out HO.out hown8 hg8
            obtain ⟨a8, c8, rfl⟩ := own_capS hown8
            have HF1 : Hid (w8.ownsRow w2.heap.size 3 1 (.slice a8 (M + DN) c8) (M + DN) (intsV (rep V (j + 1)))) := (by have := hmo.1; rw [show rep V (j + 1) = rep V j ++ V from rfl, HVE.out]; rw [HVE.out] at this; exact this)
            have HF2 := hid_g hmo.2
            clear hmo hown8 hg8
            go_wp2
            go_roundw
            case rel => exact ⟨j + 1, M + DN, a8, c8, by omega, by go_num, rfl, HMN.out, HF1.out, HF2.out⟩
            case measure => simp only [intOf]; omega
          · have HVE := hid_g (HVV.out.2 (by omega))
            have HRC : Hid (Calls Try.prog 12 #[.slice a5 DN c5] W3 fun e w' => ∃ a3 c3, e = .returned (.slice a3 DN c3) ∧ w'.ownsRow W3.heap.size 3 1 (.slice a3 DN c3) DN (intsV (rc D)) ∧ Below W3.heap.size W3 w') := (by
              have := recip_any a5 c5 D W3 (by rw [HDN.out]; omega) HSM.out (by rw [HDN.out]; exact (HDR.out.on HB.out).mono HB.out.size)
              rw [HDN.out] at this
              exact this)
            have HL1 : Hid ((intsV (rc D)).length = DN) := (by rw [intsV_len, rc_lenN]; exact HDN.out : (intsV (rc D)).length = DN)
            have HO1 := intsV_oneI (rc D)
            have HMN : Hid (M + DN = (rep V (j + 1)).length) := (by rw [HM.out, show rep V (j + 1) = rep V j ++ V from rfl, List.length_append, HVE.out, rc_lenN, HDN.out] : M + DN = (rep V (j + 1)).length)
            go_wp2_with (first | (go_at_call 12; refine HRC.out.mono ?_; rintro e9 w6 ⟨a7, c7, rfl, hr7, hb7⟩; refine Hid.out ?_))
            refine Lib.hid ?_
            have HIN := hid_g (own_in hr7)
            have HO6 := hid_g (own_any HO.out (grown_below hb7 none))
            have HB6 := hid_g (HB.out.trans (hb7.mono HB.out.size))
            clear hr7 hb7 HRC HO HB
            go_wp2_with (first
              | (at_builtin; refine wpList_append_in rfl _ _ 22 rfl w2.heap.size 3 i2 (.int .i64 0) 1 8 Try.underlying22 hki hx0 hx1 hx2 rfl (by decide) _ M (intsV (rep V j)) rfl HO6.out _ w6.heap.size DN (intsV (rc D)) rfl HIN.out (by rw [HL1.out, Nat.mul_one]) HO1 (by unfold maxLen; omega) (by omega) HB6.out.size ?_; intro v8 w8 hown8 hg8; refine Hid.out ?_))
            refine Lib.hid ?_
            have hmo := own_more HB6.out.size HB6.out HO6.out hown8 hg8
            obtain ⟨a8, c8, rfl⟩ := own_capS hown8
            have HF1 : Hid (w8.ownsRow w2.heap.size 3 1 (.slice a8 (M + DN) c8) (M + DN) (intsV (rep V (j + 1)))) := (by have := hmo.1; rw [show rep V (j + 1) = rep V j ++ V from rfl, HVE.out]; rw [HVE.out] at this; exact this)
            have HF2 := hid_g hmo.2
            clear hmo hown8 hg8
            go_wp2
            go_roundw
            case rel => exact ⟨j + 1, M + DN, a8, c8, by omega, by go_num, rfl, HMN.out, HF1.out, HF2.out⟩
            case measure => simp only [intOf]; omega
        · obtain rfl : j = K := by omega
          clear HKB HKJ HVV HSM HDI HDR HABS
          have HM0 : Hid (M = (rep V j ++ wTo i L 0).length) := (by rw [show wTo i L 0 = [] from rfl, List.append_nil]; exact HM.out : M = (rep V j ++ wTo i L 0).length)
          have HO0 : Hid (W3.ownsRow w2.heap.size 3 1 (.slice a9 M c9) M (intsV (rep V j ++ wTo i L 0))) := (by rw [show wTo i L 0 = [] from rfl, List.append_nil]; exact HO.out)
          clear HM HO
          generalize rep V j = R at *
          have hdf : decide ((j : Int) < (j : Int)) = false := decide_eq_false (by omega)
          go_wp2
          go_loopw [9, 14] (fun v9 v14 wr => ∃ (q M : Nat) (a9 : Option Addr) (c9 : Nat), q ≤ m ∧ v14 = .int .i64 (q : Nat) ∧ v9 = .slice a9 M c9 ∧ Hid (M = (R ++ wTo i L q).length) ∧ Hid (wr.ownsRow w2.heap.size 3 1 (.slice a9 M c9) M (intsV (R ++ wTo i L q))) ∧ Hid (Below w2.heap.size w2 wr)) (fun _ v14 _ => m - (intOf v14).toNat)
          case atStart => exact ⟨0, M, a9, c9, Nat.zero_le _, rfl, rfl, HM0.out, HO0.out, HB.out⟩
          case round =>
            clear HM0 HO0 HB hdf
            rename World => W4
            obtain ⟨q, M, a9, c9, hqm, rfl, rfl, hM, hO, hb⟩ := hrel
            have HM := hid_g hM.out
            have HO := hid_g hO.out
            have HB := hid_g hb.out
            have HWQ := HWB.out q hqm
            rw [← HM.out] at HWQ
            clear hM hO hb
            by_cases hql : q < m
            · have hqI : (q : Int) < (m : Int) := by omega
              obtain ⟨b, o, r, sc, ea, lb, pc, rd⟩ := HROW.out q hql
              obtain ⟨hP, hP0, hPD, hP30⟩ := HLF.out q hql
              have HIP := hid_g hP
              have HRP := hid_g (fun W (hW : Below w.heap.size w W) => (rd.on hW).mono hW.size)
              have HCL := hid_g (fun W (hW : Below w.heap.size w W) => And.intro (bcell hW lb pc) (Nat.lt_of_lt_of_le lb hW.size))
              have HEA := hid_g ea
              have HSDq : Hid (0 < q → Sd i (L.getD (q - 1) []) (L.getD q [])) := fun h => by
                have := HSD.out (q - 1) (by omega)
                rwa [show q - 1 + 1 = q by omega] at this
              have HMN : Hid (M + (bubW i (L.getD q [])).length = (R ++ wTo i L (q + 1)).length) := (by
                rw [HM.out, show wTo i L (q + 1) = wTo i L q ++ pw1 i (L.getD q []) from rfl, ← List.append_assoc, List.length_append, List.length_append, List.length_append]
                unfold pw1
                rw [lw_len] : M + (bubW i (L.getD q [])).length = (R ++ wTo i L (q + 1)).length)
              have HWN : Hid (R ++ wTo i L (q + 1) = (R ++ wTo i L q) ++ lw (bubW i (L.getD q []))) := (by
                rw [show wTo i L (q + 1) = wTo i L q ++ pw1 i (L.getD q []) from rfl, List.append_assoc]
                rfl : R ++ wTo i L (q + 1) = (R ++ wTo i L q) ++ lw (bubW i (L.getD q [])))
              obtain ⟨P, hPe⟩ : ∃ P, L.getD q [] = P := ⟨_, rfl⟩
              rw [hPe] at HIP HRP HSDq HMN HWN hP0 hPD hP30
              clear hP hPe
              obtain ⟨N, hN⟩ : ∃ N, (bubW i P).length = N := ⟨_, rfl⟩
              rw [hN] at HMN hP0 hPD hP30
              have HN := hid_g hN
              clear rd pc lb hN
              subst ea
              have HBW := hid_g (HB2.out.trans (HB.out.mono HB2.out.size))
              have HC1 := hid_g (permIs_any i sc r P W4 h6 HIP.out (HRP.out W4 HBW.out))
              obtain ⟨c4, l4⟩ := HCL.out W4 HBW.out
              go_wp2_with (first | (go_at_call 13; refine HC1.out.mono ?_; rintro e9 w5 ⟨rfl, hb5⟩; refine Hid.out ?_))
              refine Lib.hid ?_
              have HB5 := hid_g (HB.out.trans (hb5.mono HB.out.size))
              have HO5 := hid_g (own_any HO.out (grown_below hb5 none))
              have HBW5 := hid_g (HB2.out.trans (HB5.out.mono HB2.out.size))
              have HC2 := hid_g (permWord_any i sc r P w5 h2 h6 HIP.out (HRP.out w5 HBW5.out))
              rw [HN.out] at HC2
              clear hb5 HC1 HO HB c4 l4 HBW
              obtain ⟨c5, l5⟩ := HCL.out w5 HBW5.out
              go_wp2_with (first | (go_at_call 10; refine HC2.out.mono ?_; rintro e9 w6 ⟨a7, c7, rfl, hr7, hb7⟩; refine Hid.out ?_))
              refine Lib.hid ?_
              have HIN := hid_g (own_in hr7)
              have HB6 := hid_g (HB5.out.trans (hb7.mono HB5.out.size))
              have HO6 := hid_g (own_any HO5.out (grown_below hb7 none))
              clear hr7 hb7 HC2 HO5 HB5 c5 l5 HBW5
              have hd0 : ((N : Int) == 0) = false := beq_eq_false_iff_ne.2 (by omega)
              have hd1 : ((N : Int) == (DN : Int)) = false := beq_eq_false_iff_ne.2 (by omega)
              have HL1 : Hid ((intsV (lw (bubW i P))).length = N) := (by rw [intsV_len, lw_len]; exact HN.out : (intsV (lw (bubW i P))).length = N)
              have HO1 := intsV_oneI (lw (bubW i P))
              go_wp2_with (first
                | (at_builtin; refine wpList_append_in rfl _ _ 22 rfl w2.heap.size 3 i2 (.int .i64 0) 1 8 Try.underlying22 hki hx0 hx1 hx2 rfl (by decide) _ M (intsV (R ++ wTo i L q)) rfl HO6.out _ w6.heap.size N (intsV (lw (bubW i P))) rfl HIN.out (by rw [HL1.out, Nat.mul_one]) HO1 (by unfold maxLen; omega) (by omega) HB6.out.size ?_; intro v8 w8 hown8 hg8; refine Hid.out ?_))
              refine Lib.hid ?_
              have hmo := own_more HB6.out.size HB6.out HO6.out hown8 hg8
              obtain ⟨a8, c8, rfl⟩ := own_capS hown8
              have HF1 : Hid (w8.ownsRow w2.heap.size 3 1 (.slice a8 (M + N) c8) (M + N) (intsV (R ++ wTo i L (q + 1)))) := (by rw [HWN.out]; exact hmo.1)
              have HF2 := hid_g hmo.2
              clear hmo hown8 hg8 HIN HO6 HB6 HL1 HO1 hd0 hd1
              by_cases hq0 : q = 0
              · subst hq0
                go_wp2
                go_roundw
                case rel => exact ⟨0 + 1, M + N, a8, c8, by omega, by go_num, rfl, HMN.out, HF1.out, HF2.out⟩
                case measure => simp only [intOf]; omega
              · have hq0b : ((q : Int) == 0) = false := beq_eq_false_iff_ne.2 (by omega)
                obtain ⟨q1, hq1⟩ : ∃ q1, q1 + 1 = q := ⟨q - 1, by omega⟩
                have HQ1 := hid_g hq1
                have hq1m : q1 < m := by omega
                have ewq : IntKind.i64.wrap ((q : Int) - 1) = (q1 : Int) := by rw [IntWalk.i64_in _ (by omega)]; omega
                have hq1I : (q1 : Int) < (m : Int) := by omega
                have HS2 := hid_g (HSDq.out (by omega))
                rw [show q - 1 = q1 by omega] at HS2
                obtain ⟨b', o', r2, sc2, ea2, lb2, pc2, rd2⟩ := HROW.out q1 hq1m
                have hbo := Option.some.inj ea2
                injection hbo with hb1 ho1
                subst hb1 ho1
                have HIE := hid_g (HLF.out q1 hq1m).1
                have HRE := hid_g (fun W (hW : Below w.heap.size w W) => (rd2.on hW).mono hW.size)
                have HCE := hid_g (fun W (hW : Below w.heap.size w W) => And.intro (bcell hW lb2 pc2) (Nat.lt_of_lt_of_le lb2 hW.size))
                obtain ⟨E, hE⟩ : ∃ E, L.getD q1 [] = E := ⟨_, rfl⟩
                rw [hE] at HS2 HIE HRE
                clear hE rd2 pc2 lb2 ea2 hq1 HSDq HEA
                have HBW8 := hid_g (HB2.out.trans (HF2.out.mono HB2.out.size))
                go_wp2_with (first | (at_make; refine wpList_make_full _ rfl _ _ 22 rfl w8.heap.size 3 i2 (.int .i64 0) 1 Try.underlying22 hki hx0 hx1 .i64 .i64 _ _ i rfl rfl rfl rfl (by rw [hx2]; omega) (by unfold maxLen; omega) (by simp) ?_; intro w9 hrow9 hg9; refine Hid.out ?_))
                refine Lib.hid ?_
                rw [made_zero, ← frT_zero i E] at hrow9
                obtain ⟨g, hg⟩ : ∃ g, w8.heap.size = g := ⟨_, rfl⟩
                have HG := hid_g hg
                have HB9 : Hid (Below w8.heap.size w8 w9) := (Below.refl _ _).grown hg9 (Nat.le_refl _) (fun k hk => by cases hk)
                rw [hg] at hrow9
                rw [hg]
                have HR9 := hid_g hrow9
                clear hrow9 hg9 hg
                go_wp2
                go_loopw [17] (fun v17 wr => ∃ t : Nat, t ≤ i ∧ v17 = .int .i64 (t : Nat) ∧ Hid (wr.ownsRow g 3 1 (.slice (some ⟨g, 0, none⟩) i i) i (intsV (frT i E t))) ∧ Hid (Below w8.heap.size w8 wr)) (fun v17 _ => i - (intOf v17).toNat)
                case atStart => exact ⟨0, Nat.zero_le _, rfl, HR9.out, HB9.out⟩
                case round =>
                  clear HR9 HB9
                  rename World => W5
                  obtain ⟨t, hti, rfl, hO, hb⟩ := hrel
                  have HO := hid_g hO.out
                  have HB := hid_g hb.out
                  clear hO hb
                  by_cases htl : t < i
                  · have htI : (t : Int) < (i : Int) := by omega
                    have HBW := hid_g (HBW8.out.trans (HB.out.mono HBW8.out.size))
                    obtain ⟨c4, l4⟩ := HCE.out W5 HBW.out
                    obtain ⟨b2, o2, ea2, l5, c5⟩ := (show RdAt W5 W5.heap.size 1 (.slice r2 (eI i E).length sc2) (eI i E).length (intsV (eI i E)) by rw [eI_len]; exact HRE.out W5 HBW.out).intAt t (by rw [eI_len]; exact htl)
                    rw [eI_at htl] at c5
                    have HNX := hid_g (frT_next HIE.out htl)
                    have hpl := HIE.out.lt t htl
                    obtain ⟨p, hp⟩ : ∃ p, pa E t = p := ⟨_, rfl⟩
                    rw [hp] at c5 HNX hpl
                    have ewp : IntKind.i64.wrap ((p : Int) + 1 - 1) = (p : Int) := by rw [IntWalk.i64_in _ (by omega)]; omega
                    have hpI : (p : Int) < (i : Int) := by omega
                    have e0 := HO.out.cellAt p (by omega)
                    rw [intsV_get _ p (by rw [frT_len]; exact hpl)] at e0
                    generalize (frT i E t).getD p 0 = z at e0
                    have f0 := HO.out.frozenAt p
                    have lg := (HO.out.lt g rfl).2
                    have hst := HO.out.stored p (.int .i64 (t : Int))
                    rw [intsV_set, HNX.out] at hst
                    have HST := hid_g hst.1
                    have HBS := hid_g (HB.out.grown hst.2 HB.out.size (fun x hx => by have h1 : g = x := Option.some.inj hx; have := HG.out; omega))
                    subst ea2
                    clear hst hp HNX HO HB
                    go_wp2
                    go_roundw
                    case rel => exact ⟨t + 1, by omega, by go_num, HST.out, HBS.out⟩
                    case measure => simp only [intOf]; omega
                  · obtain rfl : t = i := by omega
                    have hdf : decide ((t : Int) < (t : Int)) = false := decide_eq_false (by omega)
                    have HBW := hid_g (HBW8.out.trans (HB.out.mono HBW8.out.size))
                    have HFR := hid_g (fun W (hW : Below W5.heap.size W5 W) j (hj : j < t) => (by
                      have h1 := own_any HO.out (grown_below hW none)
                      have h2 := h1.cellAt j (by omega)
                      rw [intsV_get _ j (by rw [frT_len]; exact hj), frT_at HIE.out hj] at h2
                      exact ⟨h2, (h1.lt g rfl).2⟩ : W.cell? ⟨g, j, none⟩ = some (.int .i64 (pa (pv t E) j : Int)) ∧ g < W.heap.size))
                    clear HO HRE HCE HIE
                    go_wp2
                    go_loopw [18] (fun v18 wr => ∃ x : Nat, x ≤ t - 1 ∧ v18 = .int .i64 (x : Nat) ∧ Hid (Below W5.heap.size W5 wr)) (fun v18 _ => t - (intOf v18).toNat)
                    case atStart => exact ⟨0, Nat.zero_le _, rfl, Below.refl _ _⟩
                    case round =>
                      rename World => W6
                      obtain ⟨x, hxt, rfl, hb⟩ := hrel
                      have HB6 := hid_g hb.out
                      clear hb
                      obtain ⟨x1, hx1⟩ : ∃ x1, x + 1 = x1 := ⟨_, rfl⟩
                      have HX1 := hid_g hx1
                      have ewx : IntKind.i64.wrap ((x : Int) + 1) = (x1 : Int) := by rw [IntWalk.i64_in _ (by omega)]; omega
                      by_cases hxl : x1 < t
                      · have hxI : (x1 : Int) < (t : Int) := by omega
                        have hxI0 : (x : Int) < (t : Int) := by omega
                        have hx0 : x < t := by omega
                        have HBW6 := hid_g (HBW.out.trans (HB6.out.mono HBW.out.size))
                        obtain ⟨c4, l4⟩ := HCL.out W6 HBW6.out
                        have hrd : RdAt W6 W6.heap.size 1 (.slice r (eI t P).length sc) (eI t P).length (intsV (eI t P)) := by rw [eI_len]; exact HRP.out W6 HBW6.out
                        obtain ⟨b2, o2, ea2, l5, c5⟩ := hrd.intAt x (by rw [eI_len]; exact hx0)
                        obtain ⟨b3, o3, ea3, l6, c6⟩ := hrd.intAt x1 (by rw [eI_len]; exact hxl)
                        rw [eI_at hx0] at c5
                        rw [eI_at hxl] at c6
                        have hbo := ea2.symm.trans ea3
                        have hbo2 := Option.some.inj hbo
                        injection hbo2 with hb1 ho1
                        subst hb1 ho1
                        obtain ⟨f0, lg⟩ := HFR.out W6 HB6.out x hx0
                        obtain ⟨f1, -⟩ := HFR.out W6 HB6.out x1 hxl
                        have hsd := HS2.out x (by omega)
                        rw [hx1] at hsd
                        clear hbo ea3 hrd
                        subst ea2
                        by_cases hlt : pa P x1 < pa P x
                        · have hs3 := hsd hlt
                          have hd : ((pa P x1 : Int) + 1) < ((pa P x : Int) + 1) := by omega
                          have hd2 : decide ((pa (pv t E) x : Int) < (pa (pv t E) x1 : Int)) = false := decide_eq_false (by omega)
                          have hd3 : ¬ ((pa (pv t E) x : Int) < (pa (pv t E) x1 : Int)) := by omega
                          generalize (pa P x1 : Int) + 1 = y1 at c6 hd
                          generalize (pa P x : Int) + 1 = y0 at c5 hd
                          generalize (pa (pv t E) x : Int) = z0 at f0 hd2 hd3
                          generalize (pa (pv t E) x1 : Int) = z1 at f1 hd2 hd3
                          clear hsd hlt hs3
                          go_wp2
                          go_quiet (fail)
                          have HBD : Hid (Below W5.heap.size W5 (W6.drewN nq)) := below_drewN HB6.out nq
                          generalize W6.drewN nq = W7 at HBD ⊢
                          go_wp2
                          go_roundw
                          case rel => exact ⟨x1, by have := HX1.out; omega, by have := HX1.out; go_num, HBD.out⟩
                          case measure => simp only [intOf]; have := HX1.out; omega
                        · have hd : decide (((pa P x1 : Int) + 1) < ((pa P x : Int) + 1)) = false := decide_eq_false (by omega)
                          generalize (pa P x1 : Int) + 1 = y1 at c6 hd
                          generalize (pa P x : Int) + 1 = y0 at c5 hd
                          clear hsd hlt
                          go_wp2
                          go_quiet (fail)
                          have HBD : Hid (Below W5.heap.size W5 (W6.drewN nq)) := below_drewN HB6.out nq
                          generalize W6.drewN nq = W7 at HBD ⊢
                          go_wp2
                          go_roundw
                          case rel => exact ⟨x1, by have := HX1.out; omega, by have := HX1.out; go_num, HBD.out⟩
                          case measure => simp only [intOf]; have := HX1.out; omega
                      · obtain rfl : x = t - 1 := by omega
                        have hnl : ¬ (x1 : Int) < (t : Int) := by omega
                        have HBF := hid_g (HF2.out.trans ((HB.out.trans (HB6.out.mono HB.out.size)).mono HF2.out.size))
                        have HOF := hid_g (own_any HF1.out (grown_below (HB.out.trans (HB6.out.mono HB.out.size)) none))
                        go_wp2
                        go_roundw
                        case rel => exact ⟨q + 1, M + N, a8, c8, by omega, by go_num, rfl, HMN.out, HOF.out, HBF.out⟩
                        case measure => simp only [intOf]; omega
            · obtain rfl : q = m := by omega
              have HC := hid_g (HSAME.out W4 a9 c9 M (HB2.out.trans (HB.out.mono HB2.out.size)) HM.out (own_rd HO.out))
              have hdf : decide ((q : Int) < (q : Int)) = false := decide_eq_false (by omega)
              clear HSAME HSD HROW HLF HWB HWQ HO HM
              go_wp2_with (first | (go_at_call 14; refine HC.out.mono ?_; rintro e9 w6 ⟨rfl, hb6⟩; refine Hid.out ?_))
              refine Lib.hid ?_
              have HBF := hid_g (HB2.out.trans ((HB.out.trans (hb6.mono HB.out.size)).mono HB2.out.size))
              clear hb6 HC
              go_wp2
              go_ret
              exact ⟨rfl, HBF.out⟩
end Go.Proofs.Ythlmkoiilgjflaa

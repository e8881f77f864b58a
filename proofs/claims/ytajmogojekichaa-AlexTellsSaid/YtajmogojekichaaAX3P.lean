/- Several texts of the proof, one behind the other. -/
import Derived.Test.YtajmogojekichaaAX2
import Derived.Test.YtajmogojekichaaAE1P
import Derived.Test.YtajmogojekichaaPA12
/- The walk of ref.AlexanderOf. -/
namespace Go.Proofs.Ytajmogojekichaa
open Go.RowKit

theorem TbP.rd {B n m : Nat} {v : Value} {gs : Nat → Nat} {vals : Nat → Nat → Value} {G : Nat → Nat → Int × Int} {w : World} (h : TbP B m n v gs vals G w) (h0 : 0 < n) : ∃ gt cap, v = .slice (some ⟨gt, 0, none⟩) n cap ∧ n ≤ cap ∧ cap ≤ maxLen ∧ TblRd w w.heap.size n m gt gs vals G := by
  obtain ⟨a', n', c', e', hc1, hc2⟩ := Poly.own_cap h.outer
  rcases h.outer.2 with ⟨_, hz⟩ | ⟨g, cp, cur, e, _⟩
  · omega
  · rw [e] at e'
    injection e' with e1 e2 e3
    have hh := h.outer
    rw [e] at hh
    refine ⟨g, cp, e, by omega, by omega, (hh.lt g rfl).2, fun i hi => ?_, fun i hi => ((h.each i hi).row.lt (gs i) rfl).2, fun i hi j hj => ?_, fun i hi j hj => Poly.Poly.ofRow ((h.each i hi).each j hj)⟩
    · have := hh.cellAt i (by omega)
      rw [valsL_get _ _ _ hi] at this
      exact this
    · have := (h.each i hi).row.cellAt j (by omega)
      rw [valsL_get _ _ _ hj] at this
      exact this
/-- The rows cut, by append. -/
theorem cut_tableC {w : World} {n m gt B : Nat} {v : Value} {gs : Nat → Nat} {vals : Nat → Nat → Value} {C : List Cr} {s : Nat} (h : TblRd w w.heap.size n m gt gs vals (alF C)) (hs : s ≤ n) (hsm : s ≤ m) (hml : m ≤ maxLen)
    (ho : w.ownsRow B 130 1 v s (valsL s fun i => .slice (some ⟨gs i, 0, none⟩) s m)) : Poly.TableC w w.heap.size v (alT C s) := by
  refine ⟨valsL s fun i => .slice (some ⟨gs i, 0, none⟩) s m, fun i => valsL s (vals i), by rw [valsL_len, alT_len], Poly.slots_of_own ho, fun i hi => ?_⟩
  rw [alT_len] at hi
  have e : (valsL s fun i => Value.slice (some ⟨gs i, 0, none⟩) s m).getD i (.bool false) = .slice (some ⟨gs i, 0, none⟩) s m := by
    rw [List.getD_eq_getElem?_getD, valsL_get _ _ _ hi]
    rfl
  rw [e, alT_at C s i hi]
  refine ⟨by rw [valsL_len, alR_len], ⟨some ⟨gs i, 0, none⟩, m, by rw [valsL_len], fun _ => ⟨gs i, 0, rfl, h.low i (by omega), fun j hj => ?_⟩⟩, ⟨_, _, _, rfl, hsm, hml⟩, fun j hj => ?_⟩
  · rw [valsL_len] at hj
    rw [Nat.zero_add, h.row i (by omega) j (by omega), List.getD_eq_getElem?_getD, valsL_get _ _ _ hj]
    rfl
  · rw [alR_len] at hj
    rw [alR_at C s i j hj, List.getD_eq_getElem?_getD, valsL_get _ _ _ hj]
    exact h.each i (by omega) j (by omega)

set_option maxHeartbeats 8000000 in
set_option maxRecDepth 100000 in
theorem alexanderOf_any (a : Option Addr) (cap : Nat) (C : List Cr) (loops : Int) (w : World) (hm : mayD C loops = true) (h10 : C.length ≤ 10) (hD : Crs w w.heap.size (.slice a C.length cap) C) :
    Calls Try.prog 38 #[.agg #[.slice a C.length cap, .int .i64 loops]] w fun e w' => ∃ v l, e = .returned v ∧ Poly.Poly w' w'.heap.size v l ∧ IsAlex C loops l ∧ Below w.heap.size w w' := by
  obtain ⟨i1, hj, hy0, hy1, hy2⟩ := info_parts infoTermss
  have hsz : sizeB C loops = true := by
    have := hm
    unfold mayD at this
    exact (Bool.and_eq_true_iff.1 this).1
  obtain ⟨hs1, hs2, hs3, hs4⟩ := sizeB_iff hsz
  have HM : Hid (mayD C loops = true) := hm
  have HD : Hid (Crs w w.heap.size (.slice a C.length cap) C) := hD
  have hov : ovC C ≤ 21 := Nat.le_trans (rootsN_le _ _) (by omega)
  have hov2 := ovC_ge C
  have HX : Hid (∀ x, x ∈ ovL C (2 * C.length) → x < 21) := fun x hx => by
    obtain ⟨i, hi, rfl⟩ := List.mem_map.1 hx
    have := ovM_in HM.out (i + 1) (by omega) (by have := List.mem_range.1 hi; omega)
    omega
  have HMO : Hid (mostTo (ovL C (2 * C.length)) (2 * C.length) = ovC C) := mostTo_ov (lowM_least (ovE_lt hm)) (fun v h1 h2 => (lowM_least (ovE_lt hm)).pos (fun e he => ⟨(ovE_in hm e he).1.1, (ovE_in hm e he).2.1⟩) h2 h1) _ (Nat.le_refl _)
  obtain ⟨w0, hw0⟩ : ∃ w0, w0 = w.alloc (.cells #[.slice a C.length cap, .int .i64 loops] 24) := ⟨_, rfl⟩
  have HW0 : Hid (w0 = w.alloc (.cells #[.slice a C.length cap, .int .i64 loops] 24)) := hw0
  have HB0 : Hid (Below w.heap.size w w0) := (by rw [hw0]; exact (Below.refl _ _).alloc (Nat.le_refl _) _ : Below w.heap.size w w0)
  have HT0 : Hid (w0.heap[w.heap.size]? = some (.cells #[.slice a C.length cap, .int .i64 loops] 24 (0, 0))) := (by rw [hw0]; exact alloc_at rfl : w0.heap[w.heap.size]? = some (.cells #[.slice a C.length cap, .int .i64 loops] 24 (0, 0)))
  have HBLK : Hid (∀ W, Below w0.heap.size w0 W → W.cell? ⟨w.heap.size, 0, none⟩ = some (.slice a C.length cap) ∧ W.cell? ⟨w.heap.size, 1, none⟩ = some (.int .i64 loops)) := fun W hW => by
    have q := (hW.block _ (Array.getElem?_eq_some_iff.1 HT0.out).1).trans HT0.out
    exact ⟨block_cell q rfl, block_cell q rfl⟩
  have HOV : Hid (∀ W, Below w0.heap.size w0 W → Calls Try.prog 93 #[.agg #[.slice a C.length cap, .int .i64 loops]] W fun e w' => ∃ ao co, e = .returned (.slice ao (2 * C.length) co) ∧ Slots w' w'.heap.size (.slice ao (2 * C.length) co) (nats (ovL C (2 * C.length))) ∧ Below W.heap.size W w') := fun W hW => by
    refine (oversOf_any a cap C loops W HM.out ((HD.out.up HB0.out).up hW)).mono ?_
    rintro e w2 ⟨v2, rfl, hr2, hb2⟩
    obtain ⟨ao, co, rfl⟩ := own_capS hr2
    refine ⟨ao, co, rfl, ?_, hb2⟩
    obtain ⟨a', c', e', f⟩ := own_rd hr2
    refine ⟨a', c', by rw [nats_len, ovL_len]; exact e', fun h0 => ?_⟩
    rw [nats_len, ovL_len] at h0 ⊢
    obtain ⟨b, off, eb, hlt, hc⟩ := f h0
    refine ⟨b, off, eb, hlt, fun i hi => ?_⟩
    have hg := nats_get (ovL C (2 * C.length)) i (by rw [ovL_len]; exact hi)
    rw [hc i (by omega), List.getD_eq_getElem?_getD (l := nats (ovL C (2 * C.length))), hg]
    rfl
  have HMS : Hid (∀ W ao co, Slots W W.heap.size (.slice ao (2 * C.length) co) (nats (ovL C (2 * C.length))) → Calls Try.prog 92 #[.slice ao (2 * C.length) co] W fun e w' => e = .returned (.int .i64 (ovC C : Nat)) ∧ Below W.heap.size W w') := fun W ao co hW => by
    have h := mostOf_any _ (ovL C (2 * C.length)) 21 W (by omega) (by rw [ovL_len]; omega) HX.out hW
    rw [ovL_len, HMO.out] at h
    exact h
  have HTB : Hid (∀ W, Below w0.heap.size w0 W → Calls Try.prog 94 #[.agg #[.slice a C.length cap, .int .i64 loops]] W fun e w' => ∃ v, e = .returned v ∧ (∃ gs vals, TbP W.heap.size (ovC C) C.length v gs vals (alF C) w') ∧ Below W.heap.size W w') := fun W hW => tableOf_any a cap C loops W HM.out h10 ((HD.out.up HB0.out).up hW)
  obtain ⟨n, hN⟩ : ∃ n, C.length = n := ⟨_, rfl⟩
  have HN : Hid (C.length = n) := hN
  obtain ⟨m, hMM⟩ : ∃ m, ovC C = m := ⟨_, rfl⟩
  have HMM : Hid (ovC C = m) := hMM
  rw [hN] at hs1 hs4 h10 hov2 HW0 HT0 HBLK HOV HMS HTB ⊢
  rw [hMM] at hov hov2 HMS HTB
  clear hm hD hw0 hsz hN HX HMO HT0 HD hMM
  have HB0' : Hid (Below w0.heap.size w0 w0) := Below.refl _ _
  have t0 := (HBLK.out w0 HB0'.out).1
  have t1 := (HBLK.out w0 HB0'.out).2
  have hltw : w.heap.size < w0.heap.size := by rw [HW0.out]; simp
  go_enter Try.func38, Try.ntmps38
  by_cases h1 : n = 0 ∧ loops = 1
  · obtain ⟨rfl, rfl⟩ := h1
    have HI : Hid (IsAlex C 1 [(0, 1)]) := (by
      unfold IsAlex
      rw [if_pos ⟨HN.out, rfl⟩] : IsAlex C 1 [(0, 1)])
    go_upto_region 1 with (fail)
    rw [← HW0.out]
    go_wp2
    go_ret
    have hb := alloc_at (w := w0) (o := .cells #[.int .i64 0, .int .i64 1] 124) rfl
    refine ⟨_, rfl, [(0, 1)], Or.inr (Or.inr ⟨w0.heap.size, 0, 1, rfl, (Array.getElem?_eq_some_iff.1 hb).1, fun i hi => ?_⟩), HI.out, HB0.out.alloc HB0.out.size _⟩
    obtain rfl : i = 0 := by simpa using hi
    exact ⟨block_cell hb rfl, block_cell hb rfl⟩
  · go_upto_region 1 with (fail)
    rw [← HW0.out]
    clear HW0
    by_cases h3 : n = 0
    · subst h3
      have h4 : loops ≠ 1 := fun e => h1 ⟨rfl, e⟩
      have h5 : (loops == 1) = false := beq_eq_false_iff_ne.2 h4
      have HI : Hid (IsAlex C loops []) := (by
        have := HN.out
        unfold IsAlex
        rw [if_neg (by rw [this]; exact h1), if_pos (by rw [this]; omega)] : IsAlex C loops [])
      go_wp2_with (first | (go_at_call 93; refine (HOV.out _ HB0'.out).mono ?_; rintro e9 w1 ⟨ao, co, rfl, hsl, hb1⟩; refine Hid.out ?_))
      refine Lib.hid ?_
      have HSL : Hid (Slots w1 w1.heap.size (.slice ao (2 * 0) co) (nats (ovL C (2 * 0)))) := hsl
      have HB1 : Hid (Below w0.heap.size w0 w1) := hb1
      clear hsl hb1
      go_wp2_with (first | (go_at_call 92; refine (HMS.out _ ao co HSL.out).mono ?_; rintro e9 w2 ⟨rfl, hb2⟩; refine Hid.out ?_))
      refine Lib.hid ?_
      have HBW : Hid (Below w0.heap.size w0 w2) := HB1.out.trans (hb2.mono HB1.out.size)
      have HB2 : Hid (Below w.heap.size w w2) := HB0.out.trans (HBW.out.mono HB0.out.size)
      clear hb2
      have u0 := (HBLK.out w2 HBW.out).1
      have u1 := (HBLK.out w2 HBW.out).2
      have hltw2 : w.heap.size < w2.heap.size := Nat.lt_of_lt_of_le hltw HBW.out.size
      go_wp2
      go_ret
      first | exact ⟨_, rfl, [], Or.inl ⟨rfl, rfl⟩, HI.out, HB2.out⟩ | exact ⟨_, [], rfl, Or.inl ⟨rfl, rfl⟩, HI.out, HB2.out⟩
    · have h5 : ((n : Int) == 0) = false := beq_eq_false_iff_ne.2 (by omega)
      go_wp2_with (first | (go_at_call 93; refine (HOV.out _ HB0'.out).mono ?_; rintro e9 w1 ⟨ao, co, rfl, hsl, hb1⟩; refine Hid.out ?_))
      refine Lib.hid ?_
      have HSL : Hid (Slots w1 w1.heap.size (.slice ao (2 * n) co) (nats (ovL C (2 * n)))) := hsl
      have HB1 : Hid (Below w0.heap.size w0 w1) := hb1
      clear hsl hb1
      go_wp2_with (first | (go_at_call 92; refine (HMS.out _ ao co HSL.out).mono ?_; rintro e9 w2 ⟨rfl, hb2⟩; refine Hid.out ?_))
      refine Lib.hid ?_
      have HBW : Hid (Below w0.heap.size w0 w2) := HB1.out.trans (hb2.mono HB1.out.size)
      have HB2 : Hid (Below w.heap.size w w2) := HB0.out.trans (HBW.out.mono HB0.out.size)
      clear hb2
      have u0 := (HBLK.out w2 HBW.out).1
      have u1 := (HBLK.out w2 HBW.out).2
      have hltw2 : w.heap.size < w2.heap.size := Nat.lt_of_lt_of_le hltw HBW.out.size
      by_cases h6 : 0 < loops
      · have HI : Hid (IsAlex C loops []) := (by
          have := HN.out
          unfold IsAlex
          rw [if_neg (by rw [this]; exact h1), if_pos (by rw [this]; omega)] : IsAlex C loops [])
        go_wp2
        go_ret
        first | exact ⟨_, rfl, [], Or.inl ⟨rfl, rfl⟩, HI.out, HB2.out⟩ | exact ⟨_, [], rfl, Or.inl ⟨rfl, rfl⟩, HI.out, HB2.out⟩
      · obtain rfl : loops = 0 := by omega
        by_cases h7 : n + 1 < m
        · have HI : Hid (IsAlex C 0 []) := (by
            have := HN.out
            have := HMM.out
            unfold IsAlex
            rw [if_neg (by omega), if_pos (by omega)] : IsAlex C 0 [])
          have h8 : ((n : Int) + 1 < (m : Int)) := by omega
          go_wp2
          go_ret
          first | exact ⟨_, rfl, [], Or.inl ⟨rfl, rfl⟩, HI.out, HB2.out⟩ | exact ⟨_, [], rfl, Or.inl ⟨rfl, rfl⟩, HI.out, HB2.out⟩
        · have h8 : ¬ ((n : Int) + 1 < (m : Int)) := by omega
          go_wp2_with (first | (go_at_call 94; refine (HTB.out _ HBW.out).mono ?_; rintro e9 w3 ⟨vt, rfl, hT, hb3⟩; refine Hid.out ?_))
          refine Lib.hid ?_
          obtain ⟨gs, vals, hTP⟩ := hT
          obtain ⟨gt, ct, rfl, hct, hctm, hTR⟩ := hTP.rd (by omega)
          have HTR : Hid (TblRd w3 w3.heap.size n m gt gs vals (alF C)) := hTR
          have hgt := hTR.lt
          have HB3 : Hid (Below w.heap.size w w3) := HB2.out.trans (hb3.mono HB2.out.size)
          clear hTP hTR hb3 HTB HOV HMS HBLK t0 t1 u0 u1
          by_cases h9 : m = n
          · subst h9
            obtain ⟨s, hsA, hsB⟩ : ∃ s, m ≤ s + 1 ∧ s + 1 ≤ m := ⟨m - 1, by omega, by omega⟩
            have hm1 : (m : Int) - 1 = (s : Int) := by omega
            go_wp2
            go_loopw [6, 7] (fun v6 v7 wr => ∃ k : Nat, k ≤ s ∧ v7 = .int .i64 (k : Nat) ∧ Hid (wr.ownsRow w3.heap.size 130 1 v6 k (valsL k fun i => .slice (some ⟨gs i, 0, none⟩) s m) ∧ Below w3.heap.size w3 wr)) (fun _ v7 _ => s - (intOf v7).toNat)
            case atStart => exact ⟨0, Nat.zero_le _, rfl, World.ownsRow_nil _ _ _ _, Below.refl _ _⟩
            case round =>
              rename World => W4
              obtain ⟨k, hks, rfl, hp⟩ := hrel
              have hsz4 := hp.out.2.size
              have HBB : Hid (Below w3.heap.size w3 W4) := hp.out.2
              by_cases hkl : k < s
              · have c1 : W4.cell? ⟨gt, k, none⟩ = some (.slice (some ⟨gs k, 0, none⟩) m m) := bcell hp.out.2 hgt (HTR.out.cell k (by omega))
                have HOWN := Lib.hid hp.out.1
                have HON : Hid (∀ u ∈ [Value.slice (some ⟨gs k, 0, none⟩) s m], u.oneCell' = true) := fun u hu => by
                  obtain rfl := List.mem_singleton.1 hu
                  rfl
                clear hp
                go_wp2_with (first
                  | (at_builtin; refine wpList_append_own _ rfl _ _ 120 rfl w3.heap.size 130 i1 (.slice none 0 0) 1 24 Try.underlying120 hj hy0 hy1 hy2 rfl (by decide) _ _ _ rfl (HOWN.out.alloc _) ⟨W4.heap.size, 0, none⟩ 1 1 [Value.slice (some ⟨gs k, 0, none⟩) s m] rfl rfl (new_cell1 _ _ _) HON.out (by unfold maxLen; omega) (by omega) (by simp; omega) ?_; intro v8 w8 hown8 hg8 _; refine Hid.out ?_))
                refine Lib.hid ?_
                have HN8 : Hid (w8.ownsRow w3.heap.size 130 1 v8 (k + 1) (valsL (k + 1) fun i => .slice (some ⟨gs i, 0, none⟩) s m) ∧ Below w3.heap.size w3 w8) := (by
                  refine ⟨?_, (HBB.out.alloc hsz4 _).grown hg8 (by simp; omega) (fun q hq => (HOWN.out.lt q hq).1)⟩
                  have e : (valsL (k + 1) fun i => Value.slice (some ⟨gs i, 0, none⟩) s m) = (valsL k fun i => Value.slice (some ⟨gs i, 0, none⟩) s m) ++ [Value.slice (some ⟨gs k, 0, none⟩) s m] := by simp [valsL, List.range_succ]
                  rw [e]
                  exact hown8 : w8.ownsRow w3.heap.size 130 1 v8 (k + 1) (valsL (k + 1) fun i => .slice (some ⟨gs i, 0, none⟩) s m) ∧ Below w3.heap.size w3 w8)
                clear hown8 hg8
                go_wp2
                go_roundw
                case rel => exact ⟨k + 1, by omega, by go_num, HN8.out⟩
                case measure => simp only [intOf]; omega
              · obtain rfl : k = s := by omega
                have HTA : Hid (TblRd W4 W4.heap.size m m gt gs vals (alF C)) := (HTR.out.on hp.out.2).mono hp.out.2.size
                have HTC := Lib.hid (cut_tableC HTA.out (by omega) (by omega) (by unfold maxLen; omega) hp.out.1)
                have HB4 : Hid (Below w.heap.size w W4) := HB3.out.trans (HBB.out.mono HB3.out.size)
                clear hp
                go_wp2_with (first | (go_at_call 96; refine (Poly.det21 k (by omega) _ (alT C k) _ (al_good C k) HTC.out).mono ?_; rintro e9 w5 ⟨vd, ld, rfl, hPd, hcd, hb5⟩; refine Hid.out ?_))
                refine Lib.hid ?_
                have HPd : Hid (Poly.Poly w5 w5.heap.size vd ld) := hPd.1
                have HB5 : Hid (Below w.heap.size w w5) := HB4.out.trans (hb5.mono HB4.out.size)
                have HO1 : Hid (ovC C - 1 = k) := (by rw [HMM.out]; omega : ovC C - 1 = k)
                have hcd' : Poly.Canon ld (Poly.detOf (alT C (ovC C - 1))) := by rw [HO1.out]; exact hcd
                have HMB : Hid (Poly.mayB ld = true) := al_det HM.out (by rw [HN.out]; omega) (by rw [HN.out]; exact h10) (by rw [HN.out, HO1.out]; omega) hcd'
                have HI : Hid (IsAlex C 0 (Poly.unitL ld)) := (by
                  have hN := HN.out
                  have hM := HMM.out
                  unfold IsAlex
                  rw [if_neg (by omega), if_neg (by omega)]
                  exact ⟨ld, hcd', rfl⟩ : IsAlex C 0 (Poly.unitL ld))
                clear hPd hcd hcd' hb5
                go_wp2_with (first | (go_at_call 95; refine (Poly.unitOf_poly vd ld _ HMB.out HPd.out).mono ?_; rintro e9 w6 ⟨vu, rfl, hPu, hb6⟩; refine Hid.out ?_))
                refine Lib.hid ?_
                have HPu : Hid (Poly.Poly w6 w6.heap.size vu (Poly.unitL ld)) := hPu
                have HB6 : Hid (Below w.heap.size w w6) := HB5.out.trans (hb6.mono HB5.out.size)
                clear hPu hb6
                go_wp2
                go_ret
                exact ⟨vu, _, rfl, HPu.out, HI.out, HB6.out⟩
          · have h9' : ((m : Int) == (n : Int)) = false := beq_eq_false_iff_ne.2 (by omega)
            have hm1 : (m : Int) - 1 = (n : Int) := by omega
            go_wp2
            go_loopw [6, 7] (fun v6 v7 wr => ∃ k : Nat, k ≤ n ∧ v7 = .int .i64 (k : Nat) ∧ Hid (wr.ownsRow w3.heap.size 130 1 v6 k (valsL k fun i => .slice (some ⟨gs i, 0, none⟩) n m) ∧ Below w3.heap.size w3 wr)) (fun _ v7 _ => n - (intOf v7).toNat)
            case atStart => exact ⟨0, Nat.zero_le _, rfl, World.ownsRow_nil _ _ _ _, Below.refl _ _⟩
            case round =>
              rename World => W4
              obtain ⟨k, hks, rfl, hp⟩ := hrel
              have hsz4 := hp.out.2.size
              have HBB : Hid (Below w3.heap.size w3 W4) := hp.out.2
              by_cases hkl : k < n
              · have c1 : W4.cell? ⟨gt, k, none⟩ = some (.slice (some ⟨gs k, 0, none⟩) m m) := bcell hp.out.2 hgt (HTR.out.cell k (by omega))
                have HOWN := Lib.hid hp.out.1
                have HON : Hid (∀ u ∈ [Value.slice (some ⟨gs k, 0, none⟩) n m], u.oneCell' = true) := fun u hu => by
                  obtain rfl := List.mem_singleton.1 hu
                  rfl
                clear hp
                go_wp2_with (first
                  | (at_builtin; refine wpList_append_own _ rfl _ _ 120 rfl w3.heap.size 130 i1 (.slice none 0 0) 1 24 Try.underlying120 hj hy0 hy1 hy2 rfl (by decide) _ _ _ rfl (HOWN.out.alloc _) ⟨W4.heap.size, 0, none⟩ 1 1 [Value.slice (some ⟨gs k, 0, none⟩) n m] rfl rfl (new_cell1 _ _ _) HON.out (by unfold maxLen; omega) (by omega) (by simp; omega) ?_; intro v8 w8 hown8 hg8 _; refine Hid.out ?_))
                refine Lib.hid ?_
                have HN8 : Hid (w8.ownsRow w3.heap.size 130 1 v8 (k + 1) (valsL (k + 1) fun i => .slice (some ⟨gs i, 0, none⟩) n m) ∧ Below w3.heap.size w3 w8) := (by
                  refine ⟨?_, (HBB.out.alloc hsz4 _).grown hg8 (by simp; omega) (fun q hq => (HOWN.out.lt q hq).1)⟩
                  have e : (valsL (k + 1) fun i => Value.slice (some ⟨gs i, 0, none⟩) n m) = (valsL k fun i => Value.slice (some ⟨gs i, 0, none⟩) n m) ++ [Value.slice (some ⟨gs k, 0, none⟩) n m] := by simp [valsL, List.range_succ]
                  rw [e]
                  exact hown8 : w8.ownsRow w3.heap.size 130 1 v8 (k + 1) (valsL (k + 1) fun i => .slice (some ⟨gs i, 0, none⟩) n m) ∧ Below w3.heap.size w3 w8)
                clear hown8 hg8
                go_wp2
                go_roundw
                case rel => exact ⟨k + 1, by omega, by go_num, HN8.out⟩
                case measure => simp only [intOf]; omega
              · obtain rfl : k = n := by omega
                have HTA : Hid (TblRd W4 W4.heap.size k m gt gs vals (alF C)) := (HTR.out.on hp.out.2).mono hp.out.2.size
                have HTC := Lib.hid (cut_tableC HTA.out (by omega) (by omega) (by unfold maxLen; omega) hp.out.1)
                have HB4 : Hid (Below w.heap.size w W4) := HB3.out.trans (HBB.out.mono HB3.out.size)
                clear hp
                go_wp2_with (first | (go_at_call 96; refine (Poly.det21 k (by omega) _ (alT C k) _ (al_good C k) HTC.out).mono ?_; rintro e9 w5 ⟨vd, ld, rfl, hPd, hcd, hb5⟩; refine Hid.out ?_))
                refine Lib.hid ?_
                have HPd : Hid (Poly.Poly w5 w5.heap.size vd ld) := hPd.1
                have HB5 : Hid (Below w.heap.size w w5) := HB4.out.trans (hb5.mono HB4.out.size)
                have HO1 : Hid (ovC C - 1 = k) := (by rw [HMM.out]; omega : ovC C - 1 = k)
                have hcd' : Poly.Canon ld (Poly.detOf (alT C (ovC C - 1))) := by rw [HO1.out]; exact hcd
                have HMB : Hid (Poly.mayB ld = true) := al_det HM.out (by rw [HN.out]; omega) (by rw [HN.out]; exact h10) (by rw [HN.out, HO1.out]; omega) hcd'
                have HI : Hid (IsAlex C 0 (Poly.unitL ld)) := (by
                  have hN := HN.out
                  have hM := HMM.out
                  unfold IsAlex
                  rw [if_neg (by omega), if_neg (by omega)]
                  exact ⟨ld, hcd', rfl⟩ : IsAlex C 0 (Poly.unitL ld))
                clear hPd hcd hcd' hb5
                go_wp2_with (first | (go_at_call 95; refine (Poly.unitOf_poly vd ld _ HMB.out HPd.out).mono ?_; rintro e9 w6 ⟨vu, rfl, hPu, hb6⟩; refine Hid.out ?_))
                refine Lib.hid ?_
                have HPu : Hid (Poly.Poly w6 w6.heap.size vu (Poly.unitL ld)) := hPu
                have HB6 : Hid (Below w.heap.size w w6) := HB5.out.trans (hb6.mono HB5.out.size)
                clear hPu hb6
                go_wp2
                go_ret
                exact ⟨vu, _, rfl, HPu.out, HI.out, HB6.out⟩
end Go.Proofs.Ytajmogojekichaa
/- The law AlexTells: its walk, the rings of FaceRings being given. -/
namespace Go.Proofs.Ytajmogojekichaa
open Go.RowKit

set_option maxHeartbeats 4000000 in
set_option maxRecDepth 100000 in
theorem alexTells_bad (v : Value) (C : List Cr) (loops r : Int) (w : World) (hl : C.length * 40 ≤ 140737488355328) (h : CrsW w w.heap.size v C) (hr : r ≠ 0) (hFW : fewN C loops = r)
    (hA : ∀ v W, Crs W W.heap.size v C → Calls Try.prog 35 #[.agg #[v, .int .i64 loops]] W fun e w' => e = .returned (.tuple #[.slice none 0 0, .int .i64 r]) ∧ Below W.heap.size W w') :
    Calls Try.prog 10 #[.agg #[v, .int .i64 loops]] w fun e w' => e = .returned (.bool true) ∧ Below w.heap.size w w' := by
  have HL : Hid (C.length * 40 ≤ 140737488355328) := hl
  have HFW : Hid (fewN C loops = r) := hFW
  have HA : Hid (∀ v W, Crs W W.heap.size v C → Calls Try.prog 35 #[.agg #[v, .int .i64 loops]] W fun e w' => e = .returned (.tuple #[.slice none 0 0, .int .i64 r]) ∧ Below W.heap.size W w') := hA
  have HRN : Hid (r ≠ 0) := hr
  have hr0 : (r == 0) = false := beq_eq_false_iff_ne.2 hr
  have hrr : (r == r) = true := beq_self_eq_true r
  obtain ⟨a, cap, rfl⟩ := sl_CrsW h
  obtain ⟨w0, hw0⟩ : ∃ w0, w0 = w.alloc (.cells #[.slice a C.length cap, .int .i64 loops] 24) := ⟨_, rfl⟩
  have HW0 : Hid (w0 = w.alloc (.cells #[.slice a C.length cap, .int .i64 loops] 24)) := hw0
  have hs0 : w0.heap.size = w.heap.size + 1 := by rw [hw0]; simp
  have HB0 : Hid (Below w.heap.size w w0) := (by rw [hw0]; exact (Below.refl _ _).alloc (Nat.le_refl _) _ : Below w.heap.size w w0)
  have HT0 : Hid (w0.heap[w.heap.size]? = some (.cells #[.slice a C.length cap, .int .i64 loops] 24 (0, 0))) := (by rw [hw0]; exact alloc_at rfl : w0.heap[w.heap.size]? = some (.cells #[.slice a C.length cap, .int .i64 loops] 24 (0, 0)))
  have HCW : Hid (∀ w', Below w0.heap.size w0 w' → CrsW w' w'.heap.size (.slice a C.length cap) C) := fun w' hb => (h.up HB0.out).up hb
  have HCC : Hid (∀ w', Below w0.heap.size w0 w' → Crs w' w'.heap.size (.slice a C.length cap) C) := fun w' hb => (HCW.out w' hb).crs (by have := HL.out; unfold maxLen; omega)
  have HF : Hid (∀ w', Below w0.heap.size w0 w' → w'.cell? ⟨w.heap.size, 0, none⟩ = some (.slice a C.length cap) ∧ w'.cell? ⟨w.heap.size, 1, none⟩ = some (.int .i64 loops) ∧ w.heap.size < w'.heap.size) := fun w' hw' => by
    have g0 := (hw'.block _ (by omega)).trans HT0.out
    exact ⟨block_cell g0 rfl, block_cell g0 rfl, (Array.getElem?_eq_some_iff.1 g0).1⟩
  clear hw0 h hl hFW hA
  go_enter Try.func10, Try.ntmps10
  go_wp2_with (go_at_call 27; rw [← HW0.out]; refine (diagramOf_any _ C loops _ HL.out (HCW.out _ (Below.refl _ _))).mono ?_; rintro e9 w1 ⟨v1, rfl, hc1, hb1⟩; refine Hid.out ?_)
  refine Lib.hid ?_
  have HB1 : Hid (Below w0.heap.size w0 w1) := hb1
  have HC1 : Hid (Crs w1 w1.heap.size v1 C) := hc1
  clear hb1 hc1
  go_wp2_with (go_at_call 35; refine (HA.out v1 _ HC1.out).mono ?_; rintro e9 w2 ⟨rfl, hb2⟩; refine Hid.out ?_)
  refine Lib.hid ?_
  have HB2 : Hid (Below w0.heap.size w0 w2) := HB1.out.trans (hb2.mono HB1.out.size)
  clear hb2
  obtain ⟨p0, p1, p2⟩ := HF.out w2 HB2.out
  go_wp2_with (go_at_call 27; refine (diagramOf_any _ C loops _ HL.out (HCW.out _ HB2.out)).mono ?_; rintro e9 w3 ⟨v3, rfl, hc3, hb3⟩; refine Hid.out ?_)
  refine Lib.hid ?_
  have HB3 : Hid (Below w0.heap.size w0 w3) := HB2.out.trans (hb3.mono HB2.out.size)
  have HC3 : Hid (Crs w3 w3.heap.size v3 C) := hc3
  clear hb3 hc3 p0 p1 p2
  go_wp2_with (go_at_call 36; refine (alexDet_bad v3 C loops r _ HRN.out HC3.out (HA.out v3)).mono ?_; rintro e9 w4 ⟨rfl, hb4⟩; refine Hid.out ?_)
  refine Lib.hid ?_
  have HB4 : Hid (Below w0.heap.size w0 w4) := HB3.out.trans (hb4.mono HB3.out.size)
  clear hb4
  obtain ⟨p0, p1, p2⟩ := HF.out w4 HB4.out
  go_wp2_with (go_at_call 37; refine (few_any a cap C loops _ (HCC.out _ HB4.out)).mono ?_; rw [HFW.out]; rintro e9 w5 ⟨rfl, hb5⟩; refine Hid.out ?_)
  refine Lib.hid ?_
  have HB5 : Hid (Below w0.heap.size w0 w5) := HB4.out.trans (hb5.mono HB4.out.size)
  clear hb5 p0 p1 p2
  go_wp2
  go_ret
  exact ⟨by first | rfl | simp, HB0.out.trans (HB5.out.mono HB0.out.size)⟩

set_option maxHeartbeats 8000000 in
set_option maxRecDepth 100000 in
theorem alexTells_yes (hFR : FaceRingsOk) (v : Value) (C : List Cr) (loops : Int) (w : World) (hl : C.length * 40 ≤ 140737488355328) (h : CrsW w w.heap.size v C) (hn : noN C loops = 0) (h10 : C.length ≤ 10) :
    Calls Try.prog 10 #[.agg #[v, .int .i64 loops]] w fun e w' => e = .returned (.bool true) ∧ Below w.heap.size w w' := by
  have HL : Hid (C.length * 40 ≤ 140737488355328) := hl
  have HM : Hid (mayD C loops = true) := (noN_zero hn).1
  have HFW : Hid (fewN C loops = 0) := (by unfold fewN; rw [if_neg (by omega)]; exact hn : fewN C loops = 0)
  have HA : Hid (∀ v W, Crs W W.heap.size v C → Calls Try.prog 35 #[.agg #[v, .int .i64 loops]] W fun e w' => ∃ v l, e = .returned (.tuple #[v, .int .i64 0]) ∧ Poly.Poly w' w'.heap.size v l ∧ IsAlex C loops l ∧ Below W.heap.size W w') := fun v W hW => alexander_yes hFR v C loops W hn h10 hW
  have HDT : Hid (∀ v W, Crs W W.heap.size v C → Calls Try.prog 36 #[.agg #[v, .int .i64 loops]] W fun e w' => ∃ l, e = .returned (.tuple #[.int .i64 (max (Poly.atTo l (-1) l.length) (-(Poly.atTo l (-1) l.length))), .int .i64 0]) ∧ IsAlex C loops l ∧ Below W.heap.size W w') := fun v W hW => alexDet_yes hFR v C loops W hn h10 hW
  obtain ⟨a, cap, rfl⟩ := sl_CrsW h
  obtain ⟨w0, hw0⟩ : ∃ w0, w0 = w.alloc (.cells #[.slice a C.length cap, .int .i64 loops] 24) := ⟨_, rfl⟩
  have HW0 : Hid (w0 = w.alloc (.cells #[.slice a C.length cap, .int .i64 loops] 24)) := hw0
  have hs0 : w0.heap.size = w.heap.size + 1 := by rw [hw0]; simp
  have HB0 : Hid (Below w.heap.size w w0) := (by rw [hw0]; exact (Below.refl _ _).alloc (Nat.le_refl _) _ : Below w.heap.size w w0)
  have HT0 : Hid (w0.heap[w.heap.size]? = some (.cells #[.slice a C.length cap, .int .i64 loops] 24 (0, 0))) := (by rw [hw0]; exact alloc_at rfl : w0.heap[w.heap.size]? = some (.cells #[.slice a C.length cap, .int .i64 loops] 24 (0, 0)))
  have HCW : Hid (∀ w', Below w0.heap.size w0 w' → CrsW w' w'.heap.size (.slice a C.length cap) C) := fun w' hb => (h.up HB0.out).up hb
  have HCC : Hid (∀ w', Below w0.heap.size w0 w' → Crs w' w'.heap.size (.slice a C.length cap) C) := fun w' hb => (HCW.out w' hb).crs (by have := HL.out; unfold maxLen; omega)
  have HF : Hid (∀ w', Below w0.heap.size w0 w' → w'.cell? ⟨w.heap.size, 0, none⟩ = some (.slice a C.length cap) ∧ w'.cell? ⟨w.heap.size, 1, none⟩ = some (.int .i64 loops) ∧ w.heap.size < w'.heap.size) := fun w' hw' => by
    have g0 := (hw'.block _ (by omega)).trans HT0.out
    exact ⟨block_cell g0 rfl, block_cell g0 rfl, (Array.getElem?_eq_some_iff.1 g0).1⟩
  clear hw0 h hl hn hFR
  go_enter Try.func10, Try.ntmps10
  go_wp2_with (go_at_call 27; rw [← HW0.out]; refine (diagramOf_any _ C loops _ HL.out (HCW.out _ (Below.refl _ _))).mono ?_; rintro e9 w1 ⟨v1, rfl, hc1, hb1⟩; refine Hid.out ?_)
  refine Lib.hid ?_
  have HB1 : Hid (Below w0.heap.size w0 w1) := hb1
  have HC1 : Hid (Crs w1 w1.heap.size v1 C) := hc1
  clear hb1 hc1
  go_wp2_with (go_at_call 35; refine (HA.out v1 _ HC1.out).mono ?_; rintro e9 w2 ⟨va, l, rfl, hPa, hIa, hb2⟩; refine Hid.out ?_)
  refine Lib.hid ?_
  have HB2 : Hid (Below w0.heap.size w0 w2) := HB1.out.trans (hb2.mono HB1.out.size)
  have HPa : Hid (Poly.Poly w2 w2.heap.size va l) := hPa
  have HIa : Hid (IsAlex C loops l) := hIa
  have HMB : Hid (Poly.mayB l = true) := hIa.may HM.out h10
  have hat := Poly.atTo_le l (-1) (Or.inr rfl) HMB.out l.length (Nat.le_refl _)
  have hl64 := ((Poly.may_iff l).1 HMB.out).1
  clear hb2 hPa hIa
  obtain ⟨p0, p1, p2⟩ := HF.out w2 HB2.out
  go_wp2_with (go_at_call 27; refine (diagramOf_any _ C loops _ HL.out (HCW.out _ HB2.out)).mono ?_; rintro e9 w3 ⟨v3, rfl, hc3, hb3⟩; refine Hid.out ?_)
  refine Lib.hid ?_
  have HB23 : Hid (Below w2.heap.size w2 w3) := hb3
  have HB3 : Hid (Below w0.heap.size w0 w3) := HB2.out.trans (hb3.mono HB2.out.size)
  have HC3 : Hid (Crs w3 w3.heap.size v3 C) := hc3
  clear hb3 hc3 p0 p1 p2
  go_wp2_with (go_at_call 36; refine (HDT.out v3 _ HC3.out).mono ?_; rintro e9 w4 ⟨l', rfl, hI', hb4⟩; obtain rfl := HIa.out.one hI'; refine Hid.out ?_)
  refine Lib.hid ?_
  have HB24 : Hid (Below w2.heap.size w2 w4) := HB23.out.trans (hb4.mono HB23.out.size)
  have HB4 : Hid (Below w0.heap.size w0 w4) := HB3.out.trans (hb4.mono HB3.out.size)
  clear hb4 hI'
  obtain ⟨p0, p1, p2⟩ := HF.out w4 HB4.out
  obtain ⟨x, hx⟩ : ∃ x, Poly.atTo l (-1) l.length = x := ⟨_, rfl⟩
  have HX : Hid (Poly.atTo l (-1) l.length = x) := hx
  rw [hx] at hat ⊢
  clear hx HW0 HT0 HA HDT
  go_wp2_with (go_at_call 37; refine (few_any a cap C loops _ (HCC.out _ HB4.out)).mono ?_; rw [HFW.out]; rintro e9 w5 ⟨rfl, hb5⟩; refine Hid.out ?_)
  refine Lib.hid ?_
  have HB25 : Hid (Below w2.heap.size w2 w5) := HB24.out.trans (hb5.mono HB24.out.size)
  have HB5 : Hid (Below w0.heap.size w0 w5) := HB4.out.trans (hb5.mono HB4.out.size)
  clear hb5 p0 p1 p2
  obtain ⟨p0, p1, p2⟩ := HF.out w5 HB5.out
  go_wp2_with (go_at_call 38; refine (alexanderOf_any a cap C loops _ HM.out h10 (HCC.out _ HB5.out)).mono ?_; rintro e9 w6 ⟨v8, l', rfl, hP8, hI', hb6⟩; obtain rfl := HIa.out.one hI'; refine Hid.out ?_)
  refine Lib.hid ?_
  have HB26 : Hid (Below w2.heap.size w2 w6) := HB25.out.trans (hb6.mono HB25.out.size)
  have HB6 : Hid (Below w0.heap.size w0 w6) := HB5.out.trans (hb6.mono HB5.out.size)
  have HP8 : Hid (Poly.Poly w6 w6.heap.size v8 l) := hP8
  clear hb6 p0 p1 p2 hP8 hI'
  go_wp2_with (go_at_call 39; refine (Poly.atOf_poly v8 l (-1) _ (Or.inr rfl) HMB.out HP8.out).mono ?_; rw [HX.out]; rintro e9 w7 ⟨rfl, hb7⟩; refine Hid.out ?_)
  refine Lib.hid ?_
  have HB27 : Hid (Below w2.heap.size w2 w7) := HB26.out.trans (hb7.mono HB26.out.size)
  have HB7 : Hid (Below w0.heap.size w0 w7) := HB6.out.trans (hb7.mono HB6.out.size)
  have HP8' : Hid (Poly.Poly w7 w7.heap.size v8 l) := HP8.out.up hb7
  have HPa' : Hid (Poly.Poly w7 w7.heap.size va l) := HPa.out.up HB27.out
  clear hb7
  have HSM : Hid (∀ W, Below w7.heap.size w7 W → Calls Try.prog 40 #[va, v8] W fun e w' => e = .returned (.bool true) ∧ Below W.heap.size W w') := fun W hW => Poly.same_one va v8 l W (by omega) (HPa'.out.up hW) (HP8'.out.up hW)
  by_cases hx0 : x < 0
  · have hmx : max x (-x) = -x := by omega
    rw [hmx]
    go_wp2_with (first | (go_at_call 40; refine (HSM.out _ (Below.refl _ _)).mono ?_; rintro e9 w8 ⟨rfl, hb8⟩; refine Hid.out ?_))
    refine Lib.hid ?_
    have HB8 : Hid (Below w0.heap.size w0 w8) := HB7.out.trans (hb8.mono HB7.out.size)
    clear hb8
    go_wp2
    go_ret
    exact ⟨by first | rfl | simp, HB0.out.trans (HB8.out.mono HB0.out.size)⟩
  · have hmx : max x (-x) = x := by omega
    rw [hmx]
    go_wp2_with (first | (go_at_call 40; refine (HSM.out _ (Below.refl _ _)).mono ?_; rintro e9 w8 ⟨rfl, hb8⟩; refine Hid.out ?_))
    refine Lib.hid ?_
    have HB8 : Hid (Below w0.heap.size w0 w8) := HB7.out.trans (hb8.mono HB7.out.size)
    clear hb8
    go_wp2
    go_ret
    exact ⟨by first | rfl | simp, HB0.out.trans (HB8.out.mono HB0.out.size)⟩
theorem alexTells_any (hFR : FaceRingsOk) (v : Value) (C : List Cr) (loops : Int) (w : World) (hl : C.length * 40 ≤ 140737488355328) (h : CrsW w w.heap.size v C) :
    Calls Try.prog 10 #[.agg #[v, .int .i64 loops]] w fun e w' => e = .returned (.bool true) ∧ Below w.heap.size w w' := by
  by_cases hn : noN C loops = 0
  · by_cases h10 : C.length ≤ 10
    · exact alexTells_yes hFR v C loops w hl h hn h10
    · exact alexTells_bad v C loops 2 w hl h (by decide) (if_pos ⟨hn, by omega⟩) fun v W hW => alexander_size hFR v C loops W hn (by omega) hW
  · exact alexTells_bad v C loops (noN C loops) w hl h hn (if_neg (fun q => hn q.1)) fun v W hW => alexander_no hFR v C loops W hn hW
end Go.Proofs.Ytajmogojekichaa

/- The statement MovesSimple: its walk. Made by genmsi.py. -/
import Derived.Test.YtagaajlbkfkaiaaTA3P
import Derived.Test.YtagaajlbkfkaiaaAlk
import Derived.Test.YtagaajlbkfkaiaaF7P
namespace Go.Proofs.Ytagaajlbkfkaiaa
open Go.RowKit

theorem TkO.mvsS {W : World} {B : Nat} {a : Option Addr} {k c : Nat} {L : List (List Nat)} (h : TkO W B a k c L) : Mvs W W.heap.size (.slice a k c) (L.map moG) := by
  have h1 := own_in h.own
  have hl : (L.map moG).length = k := by rw [List.length_map]; exact h.len
  rw [← hl] at h1
  have h2 := h1.mvs (by rw [hl]; exact own_fewQ h.own)
  rw [hl] at h2
  exact h2

set_option maxHeartbeats 16000000 in
set_option maxRecDepth 100000 in
/-- Where the diagram is none, or lies on no sphere. -/
theorem movesSimple_no (v : Value) (C : List Cr) (loops : Int) (w : World) (hn : (mayD C loops && planarB C) = false) (h : Crs w w.heap.size v C) :
    Calls Try.prog 7 #[.agg #[v, .int .i64 loops]] w fun e w' => e = .returned (.bool true) ∧ Below w.heap.size w w' := by
  obtain ⟨a, cap, rfl⟩ := crs_slice h
  obtain ⟨X, hX⟩ : ∃ X, X = w.alloc (.cells #[.slice a C.length cap, .int .i64 loops] 24) := ⟨_, rfl⟩
  have HX := hidQ hX
  obtain ⟨g1, b1⟩ := boxed h hX
  have HG := hidQ g1
  have HBW := hidQ b1
  have HPL : Hid (∀ W, Crs W W.heap.size (.slice a C.length cap) C → Calls Try.prog 18 #[.agg #[.slice a C.length cap, .int .i64 loops]] W fun e w' => (e = .returned (.tuple #[.bool false, .int .i64 7]) ∨ e = .returned (.tuple #[.bool false, .int .i64 0])) ∧ Below W.heap.size W w') := (fun W hW => by
    cases hm : mayD C loops with
    | false => exact (planar_no _ C loops W hm hW).mono fun e w' ⟨h1, h2⟩ => ⟨Or.inl h1, h2⟩
    | true =>
      rw [hm, Bool.true_and] at hn
      have h1 := planar_yes faceRingsM _ C loops W hm hW
      rw [hn] at h1
      exact h1.mono fun e w' ⟨h1, h2⟩ => ⟨Or.inr h1, h2⟩)
  have HSI := hidQ (fun (W : World) hW => simple_no a cap C loops W hW hn)
  obtain ⟨n, hN⟩ : ∃ n, C.length = n := ⟨_, rfl⟩
  unfold BoxP at HG
  rw [hN] at HSI HPL HG HX
  rw [hN]
  unfold SimOut at HSI
  clear hX h g1 b1 hn hN
  go_enter Try.func7, Try.ntmps7
  go_upto_region 3 with (go_at_call 17; rw [← HX.out]; refine (awake_any _).mono ?_; rintro e9 w1 ⟨rfl, hb1⟩; have HG1 := hidQ (HG.out.on hb1); have H1 := hidQ (HBW.out.trans (hb1.mono HBW.out.size)); clear hb1)
  obtain ⟨-, p0, p1, p2⟩ := HG1.out.now
  go_upto_region 4 with (go_at_call 15; refine (HSI.out _ HG1.out.now.1).mono ?_; rintro e9 w2 ⟨aS, cS, a8, c8, rfl, -, -, hb2⟩; have HG2 := hidQ (HG1.out.on hb2); have H2 := hidQ (H1.out.trans (hb2.mono H1.out.size)); clear hb2 p0 p1 p2)
  obtain ⟨Y, hY⟩ : ∃ Y, w2.alloc (.cells #[.slice aS ([] : List Cr).length cS, .int .i64 0] 24) = Y := ⟨_, rfl⟩
  have hb2Y : Below w2.heap.size w2 Y := by rw [← hY]; exact (Below.refl _ _).alloc (Nat.le_refl _) _
  have HG3 := hidQ (HG2.out.on hb2Y)
  have H3 := hidQ (H2.out.trans (hb2Y.mono H2.out.size))
  have hY' : w2.alloc (.cells #[.slice aS 0 cS, .int .i64 0] 24) = Y := hY
  first | rw [hY] | rw [hY']
  clear hY hY' hb2Y
  obtain ⟨-, p0, p1, p2⟩ := HG3.out.now
  go_upto_region 5 with (go_at_call 18; refine (HPL.out _ HG3.out.now.1).mono ?_; rintro e9 w4 ⟨he, hb4⟩; have H4 := hidQ (H3.out.trans (hb4.mono H3.out.size)); have HE := hidQ he; clear hb4 p0 p1 p2 he; rcases HE.out with rfl | rfl)
  all_goals
    clear HE
    go_wp2
    go_ret
    exact ⟨rfl, H4.out⟩

set_option maxHeartbeats 16000000 in
set_option maxRecDepth 100000 in
theorem movesSimple_yes (v : Value) (w : World) (N : Nat) (S : Nat → List Cr) (L : Nat → Int) (G : Nat → List Nat) (hR : Road N S L G) (h : Crs w w.heap.size v (S 0)) :
    Calls Try.prog 7 #[.agg #[v, .int .i64 (L 0)]] w fun e w' => e = .returned (.bool true) ∧ Below w.heap.size w w' := by
  obtain ⟨a, cap, rfl⟩ := crs_slice h
  have hm0 := hR.may 0 (Nat.zero_le _)
  have hp0 := hR.flat 0 (Nat.zero_le _)
  have hl16 := may_len hm0
  have hfw := hR.fewer N (Nat.le_refl _)
  have hmN := hR.may N (Nat.le_refl _)
  have hpN := hR.flat N (Nat.le_refl _)
  have hN16 : N ≤ 16 := by omega
  obtain ⟨X, hX⟩ : ∃ X, X = w.alloc (.cells #[.slice a (S 0).length cap, .int .i64 (L 0)] 24) := ⟨_, rfl⟩
  have HX := hidQ hX
  obtain ⟨g1, b1⟩ := boxed h hX
  have HG := hidQ g1
  have HBW := hidQ b1
  have HPL : Hid (∀ W, Crs W W.heap.size (.slice a (S 0).length cap) (S 0) → Calls Try.prog 18 #[.agg #[.slice a (S 0).length cap, .int .i64 (L 0)]] W fun e w' => e = .returned (.tuple #[.bool true, .int .i64 0]) ∧ Below W.heap.size W w') := (fun W hW => by
    have h1 := planar_yes faceRingsM _ (S 0) (L 0) W hm0 hW
    rw [hp0] at h1
    exact h1)
  have HSI := hidQ (fun (W : World) hW => simple_yes a cap W N S L G hR hW)
  have HRW : Hid (∀ (W : World) (a8 : Option Addr) (c8 : Nat), Crs W W.heap.size (.slice a (S 0).length cap) (S 0) → TkO W w.heap.size a8 N c8 ((List.range N).map G) → Calls Try.prog 13 #[.agg #[.slice a (S 0).length cap, .int .i64 (L 0)], .slice a8 N c8] W fun e w' => ∃ a2 c2, e = .returned (.tuple #[.agg #[.slice a2 (S N).length c2, .int .i64 (L N)], .int .i64 (N : Nat), .int .i64 0]) ∧ Crs w' w'.heap.size (.slice a2 (S N).length c2) (S N) ∧ Below W.heap.size W w') := (fun W a8 c8 hW hT => by
    have hlen : (((List.range N).map G).map moG).length = N := by simp
    have hM := hT.mvsS
    have hg := mvRow_go a cap (S 0) (L 0) a8 c8 (((List.range N).map G).map moG) W S L (fun _ => 0) N rfl rfl (by omega) (by rw [hlen]; omega) (by rw [hlen]; exact Nat.le_refl _) (fun i _ => rfl) (fun hi => absurd hi (by rw [hlen]; exact Nat.lt_irrefl _)) hW (by rw [hlen]; exact hM) (laid_all a cap (S 0) (L 0) W hm0 hp0 hW) (fun i _ hi a' cap' W' hW' => by
      rw [hlen] at hi
      have hg := hR.goes i hi
      obtain ⟨h1, h2⟩ := next_mem hg
      have h3 := (take_ways (hR.may i (by omega)) (hR.flat i (by omega)) h1).1 h2
      obtain ⟨e1, e2⟩ := hR.next i hi
      have e3 : (((List.range N).map G).map moG).getD i Mo.none = moG (G i) := by simp [List.getD_eq_getElem?_getD, hi]
      show Ways a' cap' (S i) (L i) _ (S (i + 1)) (L (i + 1)) 0 W'
      rw [e1, e2, e3]
      exact h3 a' cap' W' hW')
    rw [hlen, if_neg (Nat.lt_irrefl _)] at hg
    exact hg)
  have HDO : Hid (∀ (W : World) (aS : Option Addr) (cS : Nat) (G' : List Nat), Crs W W.heap.size (.slice aS (S N).length cS) (S N) → G' ∈ tkA (S N).length → Calls Try.prog 9 #[.agg #[.slice aS (S N).length cS, .int .i64 (L N)], (moG G').val] W fun e w' => ∃ a2 c2 ce, (ce = 8 ∨ ce = 2) ∧ e = .returned (.tuple #[.agg #[.slice a2 0 c2, .int .i64 0], .int .i64 ce]) ∧ Below W.heap.size W w') := (fun W aS cS G' hW hG => by
    have hno : okG (S N) (L N) G' = false := by
      cases ho : okG (S N) (L N) G' with
      | false => rfl
      | true =>
        have h1 := hR.ends
        unfold nextG at h1
        have h2 := List.find?_eq_none.1 h1 G' hG
        exact absurd ho h2
    obtain ⟨ce, hce, h1⟩ := (take_ways hmN hpN hG).2 hno
    refine (do_ways _ _ _ _ _ _ _ _ _ (h1 aS cS W hW)).mono fun e w' hh => ?_
    obtain ⟨a2, c2, e1, -, e3⟩ := hh
    exact ⟨a2, c2, ce, hce, e1, e3⟩)
  have HAL : Hid (∀ (W : World) (v1 v2 : Value), Crs W W.heap.size v1 (S N) → Crs W W.heap.size v2 (S N) → Calls Try.prog 19 #[.agg #[v1, .int .i64 (L N)], .agg #[v2, .int .i64 (L N)]] W fun e w' => e = .returned (.bool true) ∧ Below W.heap.size W w') := fun W v1 v2 h1 h2 => alike_yes v1 v2 (S N) (L N) W hmN h1 h2
  obtain ⟨n, hn⟩ : ∃ n, (S 0).length = n := ⟨_, rfl⟩
  obtain ⟨lo, hlo⟩ : ∃ lo, L 0 = lo := ⟨_, rfl⟩
  obtain ⟨nD, hnD⟩ : ∃ nD, (S N).length = nD := ⟨_, rfl⟩
  obtain ⟨loD, hloD⟩ : ∃ loD, L N = loD := ⟨_, rfl⟩
  unfold SimOut at HSI
  unfold BoxP at HG
  rw [hn, hlo] at HSI HPL HRW HG HX
  rw [hnD, hloD] at HSI HRW HDO
  rw [hloD] at HAL
  rw [hn, hlo]
  have hle : decide ((n : Int) < (nD : Int)) = false := decide_eq_false (by omega)
  have hle2 : decide (n < nD) = false := decide_eq_false (by omega)
  have hNN : (N == N) = true := beq_self_eq_true N
  have HND := hidQ hnD
  have h16 : nD ≤ 16 := by omega
  clear hX h g1 b1 hn hlo hnD hloD hm0 hp0 hmN hpN hfw hl16 hR
  go_enter Try.func7, Try.ntmps7
  go_upto_region 3 with (go_at_call 17; rw [← HX.out]; refine (awake_any _).mono ?_; rintro e9 w1 ⟨rfl, hb1⟩; have HG1 := hidQ (HG.out.on hb1); have H1 := hidQ (HBW.out.trans (hb1.mono HBW.out.size)); clear hb1)
  obtain ⟨-, p0, p1, p2⟩ := HG1.out.now
  go_upto_region 4 with (go_at_call 15; refine (HSI.out _ HG1.out.now.1).mono ?_; rintro e9 w2 ⟨aS, cS, a8, c8, rfl, hc2, ht2, hb2⟩; have HG2 := hidQ (HG1.out.on hb2); have H2 := hidQ (H1.out.trans (hb2.mono H1.out.size)); have HC2 := hidQ hc2; have HT2 := hidQ ht2; clear hb2 hc2 ht2 p0 p1 p2)
  obtain ⟨Y, hY⟩ : ∃ Y, w2.alloc (.cells #[.slice aS nD cS, .int .i64 loD] 24) = Y := ⟨_, rfl⟩
  have hY2 : Y = w2.alloc (.cells #[.slice aS (S N).length cS, .int .i64 loD] 24) := by rw [HND.out]; exact hY.symm
  have hc2 : Crs w2 w2.heap.size (.slice aS (S N).length cS) (S N) := by rw [HND.out]; exact HC2.out
  obtain ⟨gY, bY⟩ := boxed hc2 hY2
  have HGA := hidQ gY
  unfold BoxP at HGA
  rw [HND.out] at HGA
  have HG3 := hidQ (HG2.out.on bY)
  have H3 := hidQ (H2.out.trans (bY.mono H2.out.size))
  have HT3 : Hid (TkO Y w.heap.size a8 N c8 ((List.range N).map G)) := (by
    have h1 := HT2.out.any (grown_below bY none)
    exact ⟨h1.len, own_low h1.own H1.out.size⟩)
  rw [hY]
  clear hY gY bY hY2 hc2
  obtain ⟨-, p0, p1, p2⟩ := HG3.out.now
  go_upto_region 5 with (go_at_call 18; refine (HPL.out _ HG3.out.now.1).mono ?_; rintro e9 w4 ⟨rfl, hb4⟩; have H4 := hidQ (H3.out.trans (hb4.mono H3.out.size)); have HG4 := hidQ (HG3.out.on hb4); have HGA4 := hidQ (HGA.out.on hb4); have HT4 := hidQ (HT3.out.any (grown_below hb4 none)); clear hb4 p0 p1 p2)
  obtain ⟨-, p0, p1, p2⟩ := HG4.out.now
  go_upto_region 8 with (go_at_call 13; refine (HRW.out _ _ _ HG4.out.now.1 HT4.out).mono ?_; rintro e9 w5 ⟨a5, c5, rfl, hc5, hb5⟩; have H5 := hidQ (H4.out.trans (hb5.mono H4.out.size)); have HG5 := hidQ (HG4.out.on hb5); have HGA5 := hidQ (HGA4.out.on hb5); have HC5 := hidQ hc5; clear hb5 hc5 p0 p1 p2)
  obtain ⟨Z, hZ⟩ : ∃ Z, w5.alloc (.cells #[.slice a5 nD c5, .int .i64 loD] 24) = Z := ⟨_, rfl⟩
  have hZ2 : Z = w5.alloc (.cells #[.slice a5 (S N).length c5, .int .i64 loD] 24) := by rw [HND.out]; exact hZ.symm
  have hc5 : Crs w5 w5.heap.size (.slice a5 (S N).length c5) (S N) := by rw [HND.out]; exact HC5.out
  obtain ⟨gZ, bZ⟩ := boxed hc5 hZ2
  have HGB := hidQ gZ
  unfold BoxP at HGB
  rw [HND.out] at HGB
  have HG6 := hidQ (HG5.out.on bZ)
  have HGA6 := hidQ (HGA5.out.on bZ)
  have H6 := hidQ (H5.out.trans (bZ.mono H5.out.size))
  rw [hZ]
  clear hZ gZ bZ hZ2 hc5
  obtain ⟨-, p0, p1, p2⟩ := HG6.out.now
  obtain ⟨ca, q0, q1, q2⟩ := HGA6.out.now
  obtain ⟨cb, r0, r1, r2⟩ := HGB.out.now
  have HCA := hidQ ca
  have HCB := hidQ cb
  clear ca cb
  go_upto_region 10 with (go_at_call 19; refine (HAL.out _ _ _ HCA.out HCB.out).mono ?_; rintro e9 w7 ⟨rfl, hb7⟩; have H7 := hidQ (H6.out.trans (hb7.mono H6.out.size)); have HG7 := hidQ (HG6.out.on hb7); have HGA7 := hidQ (HGA6.out.on hb7); clear hb7 p0 p1 p2 q0 q1 q2 r0 r1 r2; obtain ⟨-, p0, p1, p2⟩ := HG7.out.now; obtain ⟨-, q0, q1, q2⟩ := HGA7.out.now)
  clear p0 p1 p2 q0 q1 q2
  have HGW := hidQ HGA7.out
  clear HG HG1 HG2 HG3 HG4 HG5 HG6 HG7 HGA HGA4 HGA5 HGA6 HGA7 HGB HCA HCB HT2 HT3 HT4 HC2 HC5 HPL HSI HRW HAL HX H1 H2 H3 H4 H5 H6
  go_wp2
  go_loopw [11] (fun v11 wr => ∃ (i : Nat), i ≤ nD ∧ v11 = .int .i64 (i : Nat) ∧ Hid (Below w7.heap.size w7 wr)) (fun v11 _ => nD - (intOf v11).toNat)
  case atStart => exact ⟨0, Nat.zero_le _, rfl, Below.refl _ _⟩
  case round =>
    rename World => W1
    obtain ⟨i, hin, rfl, hb⟩ := hrel
    have HB1 := hidQ hb.out
    have HG1 := hidQ (HGW.out.on hb.out)
    obtain ⟨c1, q0, q1, q2⟩ := HG1.out.now
    have HC1 := hidQ c1
    clear hb c1
    by_cases hil : i < nD
    · have HU := hidQ (HDO.out W1 aS cS [i] HC1.out (mem_tkA.2 (Or.inl ⟨i, hil, rfl⟩)))
      have e7 : (moG [i]).val = .agg #[.int .i64 2, .int .i64 (i : Nat), .int .i64 0, .int .i64 0, .bool false, .int .i64 0, .bool false, .bool false] := rfl
      rw [e7] at HU
      clear e7
      go_upto_region 14 with (go_at_call 9; refine HU.out.mono ?_; rintro e9 w2' ⟨a2, c2, ce, hce, rfl, hb2⟩; have HCE := hidQ hce; have HB2 := hidQ (HB1.out.trans (hb2.mono HB1.out.size)); clear hb2 q0 q1 q2 hce)
      obtain ⟨Y2, hY2⟩ : ∃ Y2, w2'.alloc (.cells #[.slice a2 0 c2, .int .i64 0] 24) = Y2 := ⟨_, rfl⟩
      have HB3 := hidQ (show Below w7.heap.size w7 Y2 by rw [← hY2]; exact HB2.out.alloc HB2.out.size _)
      rw [hY2]
      clear hY2
      have hce1 : ((!(ce == 8)) && (!(ce == 2))) = false := by rcases HCE.out with rfl | rfl <;> rfl
      rcases HCE.out with rfl | rfl
      all_goals
        clear HCE hce1
        go_wp2
        go_loopw [14] (fun v14 wr => ∃ (j : Nat), j ≤ i ∧ v14 = .int .i64 (j : Nat) ∧ Hid (Below w7.heap.size w7 wr)) (fun v14 _ => i - (intOf v14).toNat)
        case atStart => exact ⟨0, Nat.zero_le _, rfl, HB3.out⟩
        case round =>
          rename World => W2
          obtain ⟨j, hji, rfl, hb⟩ := hrel
          have HB4 := hidQ hb.out
          have HG4 := hidQ (HGW.out.on hb.out)
          obtain ⟨c1, q0, q1, q2⟩ := HG4.out.now
          have HC4 := hidQ c1
          clear hb c1
          by_cases hjl : j < i
          · have HU2 := hidQ (HDO.out W2 aS cS [j, i] HC4.out (mem_tkA.2 (Or.inr ⟨j, i, hjl, hil, rfl⟩)))
            have e7 : (moG [j, i]).val = .agg #[.int .i64 4, .int .i64 (j : Nat), .int .i64 (i : Nat), .int .i64 0, .bool false, .int .i64 0, .bool false, .bool false] := rfl
            rw [e7] at HU2
            clear e7
            go_upto_region 20 with (go_at_call 9; refine HU2.out.mono ?_; rintro e9 w5' ⟨a5', c5', ce, hce, rfl, hb5⟩; have HCE := hidQ hce; have HB5 := hidQ (HB4.out.trans (hb5.mono HB4.out.size)); clear hb5 q0 q1 q2 hce)
            obtain ⟨Y5, hY5⟩ : ∃ Y5, w5'.alloc (.cells #[.slice a5' 0 c5', .int .i64 0] 24) = Y5 := ⟨_, rfl⟩
            have HB6 := hidQ (show Below w7.heap.size w7 Y5 by rw [← hY5]; exact HB5.out.alloc HB5.out.size _)
            rw [hY5]
            clear hY5
            rcases HCE.out with rfl | rfl
            all_goals
              clear HCE
              go_wp2
              go_roundw
              case rel => exact ⟨j + 1, by omega, by go_num, HB6.out⟩
              case measure => simp only [intOf]; omega
          · obtain rfl : j = i := by omega
            go_wp2
            go_roundw
            case rel => exact ⟨j + 1, by omega, by go_num, HB4.out⟩
            case measure => simp only [intOf]; omega
    · obtain rfl : i = nD := by omega
      go_wp2
      go_ret
      exact ⟨rfl, H7.out.trans (HB1.out.mono H7.out.size)⟩
/-- The statement, whatever the diagram. -/
theorem movesSimple_any (v : Value) (C : List Cr) (loops : Int) (w : World) (hl : C.length ≤ maxLen) (h : CrsW w w.heap.size v C) :
    Calls Try.prog 7 #[.agg #[v, .int .i64 loops]] w fun e w' => e = .returned (.bool true) ∧ Below w.heap.size w w' := by
  have hc := h.crs hl
  cases hn : (mayD C loops && planarB C) with
  | false => exact movesSimple_no v C loops w hn hc
  | true =>
    rw [Bool.and_eq_true] at hn
    obtain ⟨N, S, L, G, e1, e2, hR⟩ := road_tk C.length C loops (Nat.le_refl _) hn.1 hn.2
    subst e1 e2
    exact movesSimple_yes v w N S L G hR hc
end Go.Proofs.Ytagaajlbkfkaiaa

/- The walk of sign.characteristic. -/
import Derived.Test.YtlcogbcpmneknaaSQ2P
import Derived.Deep.AppendLies
namespace Go.Proofs.Ytlcogbcpmneknaa
open Go.RowKit Go.Maps

/-- A number added along the diagonal, at the first i places. -/
def sqE (T : Nat → Nat → Int) (c : Int) (i : Nat) : Nat → Nat → Int := fun a b => if a = b ∧ a < i then IntKind.i64.wrap (T a b + c) else T a b
/-- The sum along the diagonal. -/
def sqR (T : Nat → Nat → Int) : Nat → Int
  | 0 => 0
  | i + 1 => IntKind.i64.wrap (sqR T i + T i i)
/-- The table at work and the last coefficient, behind k rounds. -/
def sqS (A : Nat → Nat → Int) (n : Nat) : Nat → (Nat → Nat → Int) × Int
  | 0 => (fun _ _ => 0, 1)
  | k + 1 => (sqP A (sqE (sqS A n k).1 (sqS A n k).2 n) n, IntKind.i64.wrap ((IntKind.i64.wrap (-(sqR (sqP A (sqE (sqS A n k).1 (sqS A n k).2 n) n) n))).tdiv ((k : Int) + 1)))
def sqC (A : Nat → Nat → Int) (n k : Nat) : Int := (sqS A n k).2
theorem sqE_next (T : Nat → Nat → Int) (c : Int) (i a b : Nat) : sqE T c (i + 1) a b = if a = i ∧ b = i then IntKind.i64.wrap (T i i + c) else sqE T c i a b := by
  unfold sqE
  by_cases h : a = i ∧ b = i
  · obtain ⟨rfl, rfl⟩ := h
    rw [if_pos ⟨rfl, by omega⟩, if_pos ⟨rfl, rfl⟩]
  · rw [if_neg h]
    by_cases h2 : a = b ∧ a < i
    · rw [if_pos h2, if_pos ⟨h2.1, by omega⟩]
    · rw [if_neg h2, if_neg (fun q => h2 ⟨q.1, by
        have := q.2
        have h3 : a ≠ i := fun e => h ⟨e, by omega⟩
        omega⟩)]
theorem sqE_at (T : Nat → Nat → Int) (c : Int) (i : Nat) : sqE T c i i i = T i i := by
  unfold sqE
  rw [if_neg (fun q => Nat.lt_irrefl _ q.2)]
theorem sqE_zero (T : Nat → Nat → Int) (c : Int) (a b : Nat) : sqE T c 0 a b = T a b := by
  unfold sqE
  rw [if_neg (fun q => Nat.not_lt_zero _ q.2)]
theorem int_oneQ (x : Int) : ∀ u ∈ [Value.int .i64 x], u.oneCell' = true := by
  intro u hu
  rw [List.mem_singleton] at hu
  subst hu
  rfl
theorem mapI_snoc (m : Nat) (f : Nat → Int) : intsV (mapI m f) ++ [.int .i64 (f m)] = intsV (mapI (m + 1) f) := by simp [intsV, mapI, List.range_succ]

set_option maxHeartbeats 8000000 in
set_option maxRecDepth 100000 in
theorem char_any (v : Value) (n : Nat) (A : Nat → Nat → Int) (w : World) (hn : n ≤ 100) (h : SqR w w.heap.size v n A) :
    Calls Try.prog 14 #[v] w fun e w' => ∃ r, e = .returned r ∧ w'.ownsRow w.heap.size 3 1 r (n + 1) (intsV (mapI (n + 1) (sqC A n))) ∧ Below w.heap.size w w' := by
  have HSQ := hidS (fun W => squareS_any n W hn)
  have HSA := hidS (fun (W : World) (hW : Below w.heap.size w W) => h.up hW)
  have HPR := hidS (fun v1 v2 B W h1 h2 => product_any v1 v2 n A B W hn h1 h2)
  obtain ⟨a0, c0, rfl, -⟩ := h
  obtain ⟨i0, hk0', hz0, hz1, hz2⟩ := info_parts infoIntS
  have HONE := hidS (World.ownsRow_nil w w.heap.size 3 1)
  obtain ⟨w1, hw1⟩ : ∃ w1, w.alloc (.cells #[.int .i64 1] 3) = w1 := ⟨_, rfl⟩
  have HW1 := hidS hw1
  have HB1 := hidS (show Below w.heap.size w w1 by rw [← hw1]; exact (Below.refl _ _).alloc (Nat.le_refl _) _)
  have hs1 : w.heap.size + 1 ≤ w1.heap.size := by rw [← hw1]; simp
  have HO1 : Hid (w1.ownsRow w.heap.size 3 1 (.slice (some ⟨w.heap.size, 0, none⟩) 1 1) 1 (intsV (mapI 1 (sqC A n)))) := (by
    rw [← hw1]
    exact ⟨rfl, Or.inr ⟨w.heap.size, 1, #[.int .i64 1], rfl, Nat.le_refl _, heap_alloc_new _ _, Nat.le_refl _, by unfold maxLen; decide, rfl, rfl⟩⟩ : w1.ownsRow w.heap.size 3 1 (.slice (some ⟨w.heap.size, 0, none⟩) 1 1) 1 (intsV (mapI 1 (sqC A n))))
  clear hw1 HONE
  go_enter Try.func14, Try.ntmps14
  go_wp2_with (go_at_call 29; rw [HW1.out]; refine (HSQ.out _).mono ?_; rintro e9 w2 ⟨gt, gs, rfl, hT, hb2⟩; refine Hid.out ?_)
  refine Lib.hid ?_
  have HT2 := hidS (hT.low (B' := w.heap.size) (by omega))
  have HG2 : Hid (∀ i, i < n → gs i ≠ w.heap.size) := fun i hi e => by have := ((hT.rows i hi).lt (gs i) rfl).1; omega
  have HO2 := hidS (own_any HO1.out (grown_below hb2 none))
  have HB2 := hidS (HB1.out.trans (hb2.mono HB1.out.size))
  clear hT hb2
  have HG0 : Hid (w.heap.size < w2.heap.size) := (by have := HB2.out.size; have := (HO2.out.lt w.heap.size rfl).2; omega : w.heap.size < w2.heap.size)
  go_wp2
  go_loopw [5, 3, 4, 6, 7, 8, 21, 44] (fun v5 v3 v4 _ _ _ _ _ wr => ∃ (k d gt g3 c3 : Nat) (gs : Nat → Nat), k ≤ n + 1 ∧ d + 1 ≤ k ∧ k ≤ d + 1 ∧ v5 = .int .i64 (k : Nat) ∧ v3 = .slice (some ⟨g3, 0, none⟩) k c3 ∧ v4 = .slice (some ⟨gt, 0, none⟩) n n ∧ Hid (TabAt w.heap.size gt n gs n (sqS A n d).1 wr) ∧ Hid (wr.ownsRow w.heap.size 3 1 (.slice (some ⟨g3, 0, none⟩) k c3) k (intsV (mapI k (sqC A n)))) ∧ Hid (∀ i, i < n → gs i ≠ g3) ∧ Hid (Below w.heap.size w wr)) (fun v5 _ _ _ _ _ _ _ _ => n + 1 - (intOf v5).toNat)
  case atStart => exact ⟨1, 0, gt, w.heap.size, 1, gs, by omega, by omega, by omega, rfl, rfl, rfl, HT2.out, HO2.out, HG2.out, HB2.out⟩
  case round =>
    clear HT2 HO2 HG2 HB2 HG0 HW1 HB1 HO1 hs1
    rename World => W1
    obtain ⟨k, d, gt, g3, c3, gs, hk, hd1, hd2, rfl, rfl, rfl, hT, hO, hG, hb⟩ := hrel
    by_cases hkn : k ≤ n
    · have hsW := hb.out.size
      have hki : (k : Int) ≤ (n : Int) := by omega
      obtain ⟨T, hTT⟩ : ∃ T, (sqS A n d).1 = T := ⟨_, rfl⟩
      obtain ⟨c, hc⟩ : ∃ c, sqC A n d = c := ⟨_, rfl⟩
      have HTT := hidS hTT
      have HC := hidS hc
      rw [hTT] at hT
      have hg3 := (hO.out.lt g3 rfl).2
      have hg3b := (hO.out.lt g3 rfl).1
      have HT1 := hidS (hT.out.congr (T' := sqE T c 0) (fun x y _ _ => sqE_zero T c x y))
      have HO1 := hidS hO.out
      have HB1 := hidS hb.out
      have HG := hidS hG.out
      clear hT hO hG hb hTT hc
      go_wp2
      go_loopw [21, 6] (fun v21 _ wr => ∃ i : Nat, i ≤ n ∧ v21 = .int .i64 (i : Nat) ∧ Hid (TabAt w.heap.size gt n gs n (sqE T c i) wr) ∧ Hid (wr.ownsRow w.heap.size 3 1 (.slice (some ⟨g3, 0, none⟩) k c3) k (intsV (mapI k (sqC A n)))) ∧ Hid (Below w.heap.size w wr)) (fun v21 _ _ => n - (intOf v21).toNat)
      case atStart => exact ⟨0, Nat.zero_le _, rfl, HT1.out, HO1.out, HB1.out⟩
      case round =>
        clear HT1 HO1 HB1 hsW hg3 hg3b
        rename World => W2
        obtain ⟨i, hin, rfl, hT2, hO2, hb2⟩ := hrel
        by_cases hil : i < n
        · have hs2 := hb2.out.size
          have t1 : W2.cell? ⟨gt, i, none⟩ = some (.slice (some ⟨gs i, 0, none⟩) n n) := hT2.out.cellO i hil hil
          have t2 : W2.cell? ⟨gs i, i, none⟩ = some (.int .i64 (sqE T c i i i)) := hT2.out.cellR i i hil hil
          have t3 : W2.frozen? ⟨gs i, i, none⟩ = false := (hT2.out.rows i hil).frozenAt i
          have t4 : gs i < W2.heap.size := ((hT2.out.rows i hil).lt (gs i) rfl).2
          have t5 : gt < W2.heap.size := (hT2.out.outer.lt gt rfl).2
          have t6 := ((hT2.out.rows i hil).lt (gs i) rfl).1
          have t7 := (hO2.out.lt g3 rfl).2
          have t8 : W2.cell? ⟨g3, d, none⟩ = some (.int .i64 c) := by
            rw [hO2.out.cellAt d (by omega), intsV_get _ d (by rw [mapI_len]; omega), mapI_at _ _ _ (by omega), HC.out]
          have ed : IntKind.i64.wrap ((k : Int) - 1) = (d : Int) := (IntWalk.i64_in _ (by omega)).trans (by omega)
          have hdk : (d : Int) < (k : Int) := by omega
          rw [sqE_at] at t2
          obtain ⟨p, hp⟩ : ∃ p, T i i = p := ⟨_, rfl⟩
          rw [hp] at t2
          obtain ⟨m2, hm2⟩ : ∃ m2, IntKind.i64.wrap (p + c) = m2 := ⟨_, rfl⟩
          have hset := hT2.out.set (T' := sqE T c (i + 1)) i i m2 hil (fun a b _ _ => by rw [sqE_next, hp, hm2])
          have HTN := hidS hset.1
          have HON := hidS (hO2.out.kept hset.2 (Or.inr (fun q => HG.out i hil (Option.some.inj q).symm)))
          have HBN := hidS (hb2.out.grown hset.2 hs2 (fun z hz => by have := Option.some.inj hz; omega))
          clear hset hp hT2 hO2 hb2
          go_wp2
          go_big_region
          go_wp2
          go_roundw
          all_goals first
            | (simp only [intOf]; omega)
            | exact ⟨i + 1, by omega, by go_num, HTN.out.any (grown_below (Below.refl _ _).drew none), own_any HON.out (grown_below (Below.refl _ _).drew none), HBN.out.drew⟩
        · obtain rfl : i = n := by omega
          have HSW := hidS (sq_tab hT2.out)
          have HB2 := hidS hb2.out
          have HO2 := hidS hO2.out
          have hg3 := (hO2.out.lt g3 rfl).2
          clear hT2 hO2 hb2
          go_wp2_with (go_at_call 31; refine (HPR.out _ _ _ _ (HSA.out _ HB2.out) HSW.out).mono ?_; rintro e9 w5 ⟨gt5, gs5, rfl, hT5, hb5⟩; refine Hid.out ?_)
          refine Lib.hid ?_
          have hs2 := HB2.out.size
          have HG5 : Hid (∀ x, x < i → W2.heap.size ≤ gs5 x) := fun x hx => ((hT5.rows x hx).lt (gs5 x) rfl).1
          obtain ⟨U, hU⟩ : ∃ U, sqP A (sqE T c i) i = U := ⟨_, rfl⟩
          have HU := hidS hU
          rw [hU] at hT5
          have HT5 := hidS (hT5.low (B' := w.heap.size) hs2)
          have HO5 := hidS (own_any HO2.out (grown_below hb5 none))
          have HB5 := hidS (HB2.out.trans (hb5.mono hs2))
          clear hT5 hb5 hU HSW HO2 HB2 hs2
          go_wp2
          go_loopw [44, 8, 7] (fun v44 _ v7 wr => ∃ j : Nat, j ≤ i ∧ v44 = .int .i64 (j : Nat) ∧ v7 = .int .i64 (sqR U j) ∧ Hid (TabAt w.heap.size gt5 i gs5 i U wr) ∧ Hid (wr.ownsRow w.heap.size 3 1 (.slice (some ⟨g3, 0, none⟩) k c3) k (intsV (mapI k (sqC A i)))) ∧ Hid (Below w.heap.size w wr)) (fun v44 _ _ _ => i - (intOf v44).toNat)
          case atStart => exact ⟨0, Nat.zero_le _, rfl, rfl, HT5.out, HO5.out, HB5.out⟩
          case round =>
            clear HT5 HO5 HB5
            rename World => W3
            obtain ⟨j, hjn, rfl, rfl, hT3, hO3, hb3⟩ := hrel
            by_cases hjl : j < i
            · have t1 : W3.cell? ⟨gt5, j, none⟩ = some (.slice (some ⟨gs5 j, 0, none⟩) i i) := hT3.out.cellO j hjl hjl
              have t2 : W3.cell? ⟨gs5 j, j, none⟩ = some (.int .i64 (U j j)) := hT3.out.cellR j j hjl hjl
              have t4 : gs5 j < W3.heap.size := ((hT3.out.rows j hjl).lt (gs5 j) rfl).2
              have t5 : gt5 < W3.heap.size := (hT3.out.outer.lt gt5 rfl).2
              obtain ⟨p, hp⟩ : ∃ p, U j j = p := ⟨_, rfl⟩
              obtain ⟨r, hr⟩ : ∃ r, sqR U j = r := ⟨_, rfl⟩
              rw [hp] at t2
              rw [hr]
              obtain ⟨m2, hm2⟩ : ∃ m2, IntKind.i64.wrap (r + p) = m2 := ⟨_, rfl⟩
              have HM : Hid (sqR U (j + 1) = m2) := (by rw [← hm2, ← hr, ← hp]; rfl : sqR U (j + 1) = m2)
              have HTN := hidS hT3.out
              have HON := hidS hO3.out
              have HBN := hidS hb3.out
              clear hp hr hT3 hO3 hb3
              go_wp2
              go_roundw
              all_goals first
                | (simp only [intOf]; omega)
                | exact ⟨j + 1, by omega, by go_num, by rw [HM.out], HTN.out, HON.out, HBN.out⟩
            · obtain rfl : j = i := by omega
              obtain ⟨r, hr⟩ : ∃ r, sqR U j = r := ⟨_, rfl⟩
              have HR := hidS hr
              rw [hr]
              obtain ⟨m1, hm1⟩ : ∃ m1, IntKind.i64.wrap (-r) = m1 := ⟨_, rfl⟩
              obtain ⟨m2, hm2⟩ : ∃ m2, IntKind.i64.wrap (m1.tdiv (k : Int)) = m2 := ⟨_, rfl⟩
              have hk0 : ((k : Int) == 0) = false := beq_eq_false_iff_ne.2 (by omega)
              have hst : sqS A j (d + 1) = (U, m2) := by
                have e : sqS A j (d + 1) = (sqP A (sqE (sqS A j d).1 (sqS A j d).2 j) j, IntKind.i64.wrap ((IntKind.i64.wrap (-(sqR (sqP A (sqE (sqS A j d).1 (sqS A j d).2 j) j) j))).tdiv ((d : Int) + 1))) := rfl
                have e2 : (sqS A j d).2 = c := HC.out
                rw [e, HTT.out, e2, HU.out, hr, hm1, show (d : Int) + 1 = (k : Int) by omega, hm2]
              have HST := hidS hst
              have hck : sqC A j k = m2 := by
                have e : k = d + 1 := by omega
                rw [e]
                show (sqS A j (d + 1)).2 = m2
                rw [hst]
              have HCK := hidS hck
              have hs3 := hb3.out.size
              have HG3 := hidS (fun x (hx : x < j) => ((hT3.out.rows x hx).lt (gs5 x) rfl).2)
              have HTN := hidS hT3.out
              have HON := hidS hO3.out
              have HBN := hidS hb3.out
              have l3 := (hO3.out.lt g3 rfl).2
              clear hr hT3 hO3 hb3 hst hck
              go_wp2_with (first | (at_builtin; refine wpList_append_lies _ rfl _ _ 41 rfl w.heap.size 3 i0 (.int .i64 0) 1 8 Try.underlying41 hk0' hz0 hz1 hz2 rfl (by decide) _ k (intsV (mapI k (sqC A j))) rfl (HON.out.alloc _) ⟨W3.heap.size, 0, none⟩ 1 1 [.int .i64 m2] rfl rfl (new_cell1 _ _ _) (int_oneQ _) (by decide) (by unfold maxLen; omega) (by omega) (by simp; omega) _ rfl ?_; intro g8 c8 w8 hown8 hg8 hl8 hlt8; refine Hid.out ?_))
              refine Lib.hid ?_
              rw [← HCK.out, mapI_snoc] at hown8
              have hb8 := (HBN.out.alloc hs3 (.cells #[.int .i64 m2] 3)).grown hg8 (by simp; omega) (fun q hq => (HON.out.lt q hq).1)
              have HT8 : Hid (TabAt w.heap.size gt5 j gs5 j (sqS A j (d + 1)).1 w8) := (by
                rw [HST.out]
                have ta := HTN.out.any (grown_below ((Below.refl W3.heap.size W3).alloc (Nat.le_refl _) (.cells #[.int .i64 m2] 3)) none)
                refine ⟨ta.outer.kept hg8 (own_ne ta.outer (HON.out.alloc _) (by decide)), fun x hx => (ta.rows x hx).kept hg8 (Or.inr (fun q => ?_)), ta.inj⟩
                have := HG5.out x hx
                have : gs5 x = g3 := Option.some.inj q
                omega : TabAt w.heap.size gt5 j gs5 j (sqS A j (d + 1)).1 w8)
              have HG8 : Hid (∀ x, x < j → gs5 x ≠ g8) := fun x hx e => by
                have q1 := HG5.out x hx
                have q2 := HG3.out x hx
                rcases hl8 with q | q
                · have : g3 = g8 := Option.some.inj q
                  omega
                · simp at q
                  omega
              have HO8 := hidS hown8
              have HB8 := hidS hb8
              clear hown8 hg8 hl8 hb8
              obtain ⟨k1, hk1⟩ : ∃ k1, k + 1 = k1 := ⟨_, rfl⟩
              have hk2 : k + 1 ≤ k1 ∧ k1 ≤ k + 1 := by omega
              rw [hk1] at HO8 ⊢
              have ek : IntKind.i64.wrap ((k : Int) + 1) = (k1 : Int) := (IntWalk.i64_in _ (by omega)).trans (by omega)
              clear hk1
              go_wp2
              go_roundw
              all_goals first
                | (simp only [intOf]; omega)
                | exact ⟨k1, d + 1, gt5, g8, c8, gs5, by omega, by omega, by omega, by first | rfl | simp, by first | rfl | simp, rfl, HT8.out, HO8.out, HG8.out, HB8.out⟩
    · have hki : ¬ (k : Int) ≤ (n : Int) := by omega
      have HO8 := hidS hO.out
      have HB8 := hidS hb.out
      obtain rfl : k = n + 1 := by omega
      clear hT hO hG hb
      obtain ⟨k1, hk1⟩ : ∃ k1, n + 1 = k1 := ⟨_, rfl⟩
      have HK1 := hidS hk1
      rw [hk1] at HO8 hki ⊢
      clear hk1
      go_wp2
      go_ret
      refine ⟨_, rfl, ?_, HB8.out⟩
      rw [HK1.out]
      exact HO8.out
end Go.Proofs.Ytlcogbcpmneknaa

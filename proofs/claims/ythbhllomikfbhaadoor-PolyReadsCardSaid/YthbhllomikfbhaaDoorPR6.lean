/- The walk of ref.ReadPoly. -/
import Derived.Test.YthbhllomikfbhaaDoorPR5
import Derived.Test.YthbhllomikfbhaaDoorXT10
import Derived.Deep.Cut
import Derived.Deep.CutRange
import Derived.Deep.LoopGhost
namespace Go.Proofs.YthbhllomikfbhaaDoor.Poly
open Go.RowKit

/-- What ref.ReadPoly answers. -/
def RrOut (s : List UInt8) (e : Ending) (w : World) : Prop :=
  (∀ l, mayB l = true → textL l = s → ∃ v, e = .returned (.tuple #[v, .int .i64 0]) ∧ Poly w w.heap.size v l) ∧
  ((∀ l, mayB l = true → textL l ≠ s) → e = .returned (.tuple #[.slice none 0 0, .int .i64 1]))
theorem rr_no {s : List UInt8} {w : World} (h : ∀ l, mayB l = true → textL l ≠ s) : RrOut s (.returned (.tuple #[.slice none 0 0, .int .i64 1])) w :=
  ⟨fun l hm he => absurd he (h l hm), fun _ => rfl⟩
/-- A sign that is there, or not. -/
theorem at_cases (s : List UInt8) (k : Nat) (b : UInt8) (n : Nat) (hn : b.toNat = n) : (isAt s k b = true ∧ k < s.length ∧ s[k]? = some b) ∨ (isAt s k b = false ∧ (s.length ≤ k ∨ ∃ c : UInt8, s[k]? = some c ∧ k < s.length ∧ c.toNat ≠ n)) := by
  unfold isAt
  rcases Nat.lt_or_ge k s.length with h | h
  · have h1 : s[k]? = some (s[k]'h) := List.getElem?_eq_getElem h
    rw [h1]
    by_cases hb : s[k]'h = b
    · exact .inl ⟨by simp [hb], h, by rw [hb]⟩
    · refine .inr ⟨by simp [hb], .inr ⟨_, rfl, h, fun e => hb ?_⟩⟩
      rw [← hn] at e
      exact UInt8.toNat_inj.1 e
  · exact .inr ⟨by rw [List.getElem?_eq_none h]; rfl, .inl h⟩
/-- The reading so far: whatever polynomial the text tells, its first terms are read. -/
def SoFar (s : List UInt8) (k : Nat) (acc : List (Int × Int)) : Prop := ∀ l, mayB l = true → textL l = s → l ≠ [] ∧ ∃ j, Thru s l j k ∧ acc = l.take j

theorem is_nat {s : List UInt8} {k m n : Nat} {c b : UInt8} (h : s[k]? = some c) (hm : c.toNat = m) (hn : b.toNat = n) : isAt s k b = decide (m = n) := by
  unfold isAt
  rw [h, decide_eq_decide, ← hm, ← hn]
  exact ⟨fun e => by rw [Option.some.inj e], fun e => congrArg some (UInt8.toNat_inj.1 e)⟩
theorem sign_nat {s : List UInt8} {k a b c : Nat} {x y z : UInt8} (hk : k ≠ 0) (h0 : s[k]? = some x) (h1 : s[k + 1]? = some y) (h2 : s[k + 2]? = some z) (ha : x.toNat = a) (hb : y.toNat = b) (hc : z.toNat = c) :
    signS s k = if a = 32 ∧ (b = 43 ∨ b = 45) ∧ c = 32 then some (if b = 45 then -1 else 1, k + 3) else none := by
  unfold signS
  rw [if_neg hk, is_nat (n := 32) h0 ha rfl, is_nat (n := 43) h1 hb rfl, is_nat (n := 45) h1 hb rfl, is_nat (n := 32) h2 hc rfl]
  by_cases h : a = 32 ∧ (b = 43 ∨ b = 45) ∧ c = 32
  · rw [if_pos h, if_pos (by simp; exact ⟨⟨h.1, h.2.1⟩, h.2.2⟩)]
    by_cases h45 : b = 45
    · rw [if_pos h45, if_pos (decide_eq_true h45)]
    · rw [if_neg h45, if_neg (by rw [decide_eq_false h45]; decide)]
  · rw [if_neg h, if_neg (by simp; intro h3 h4 h5; exact h ⟨h3, h4, h5⟩)]
theorem sign_short {s : List UInt8} {k : Nat} (hk : k ≠ 0) (h : s.length < k + 3) : signS s k = none := by
  unfold signS
  have : isAt s (k + 2) 32 = false := by
    unfold isAt
    rw [List.getElem?_eq_none (by omega)]; rfl
  rw [if_neg hk, this, Bool.and_false, if_neg (by decide)]
theorem thru_end {s : List UInt8} {l : List (Int × Int)} {j : Nat} (hm : mayB l = true) (hl : l ≠ []) (h : Thru s l j s.length) : l.take j = l := by
  obtain ⟨hj, hs, hk⟩ := h
  rcases Nat.lt_or_ge j l.length with h1 | h1
  · exfalso
    have h2 := textTo_drop l hl j h1
    rw [← hk, hs, List.drop_length] at h2
    have h3 : l.getD j (0, 0) ∈ l := by
      rw [List.getD_eq_getElem?_getD, List.getElem?_eq_getElem h1]
      exact List.getElem_mem h1
    obtain ⟨b, q, h4, -⟩ := body_head _ (may_tm hm _ h3) (restL (l.drop (j + 1)))
    unfold termL at h2
    rw [List.append_assoc] at h2
    unfold bodyT at h4
    rw [h4] at h2
    have := congrArg List.length h2
    simp at this
  · exact List.take_of_length_le h1
theorem take_next {l : List (Int × Int)} {j : Nat} (h : j < l.length) : l.take (j + 1) = l.take j ++ [l.getD j (0, 0)] := by
  rw [List.take_add_one, List.getElem?_eq_getElem h, List.getD_eq_getElem?_getD, List.getElem?_eq_getElem h]
  rfl
/-- One term more was read. -/
theorem soFar_step {s : List UInt8} {k k' : Nat} {acc : List (Int × Int)} {sg : Int} (h : SoFar s k acc) (hk : k < s.length) (hs : signS s k = some (sg, k')) : SoFar s (expS s (midS s k')).2 (acc ++ [((expS s (midS s k')).1, sg * (cofS s k' : Int))]) := by
  intro l hm hl
  obtain ⟨hne, j, ht, ha⟩ := h l hm hl
  obtain ⟨hj, k2, e1, e2, e3, -, e5⟩ := thru_step hm ht hne hk
  rw [hs] at e1
  have e6 := Option.some.inj e1
  have e7 : k' = k2 := congrArg Prod.snd e6
  have e8 : sg = _ := congrArg Prod.fst e6
  subst e7
  refine ⟨hne, j + 1, e5, ?_⟩
  rw [take_next hj, ← ha, e3, e2, e8]
  have : (if (l.getD j (0, 0)).2 < 0 then -1 else 1, k').1 * ((l.getD j (0, 0)).2.natAbs : Int) = (l.getD j (0, 0)).2 := by
    simp only
    by_cases h : (l.getD j (0, 0)).2 < 0
    · rw [if_pos h]; omega
    · rw [if_neg h]; omega
  rw [this]
/-- Where no term can stand, no polynomial is told. -/
theorem soFar_stop {s : List UInt8} {k k' : Nat} {acc : List (Int × Int)} {sg : Int} (h : SoFar s k acc) (hk : k < s.length) (hs : signS s k = some (sg, k')) (he : (expS s (midS s k')).2 = k') : ∀ l, mayB l = true → textL l ≠ s := by
  intro l hm hl
  obtain ⟨hne, j, ht, -⟩ := h l hm hl
  obtain ⟨-, k2, e1, -, -, e4, -⟩ := thru_step hm ht hne hk
  rw [hs] at e1
  have e7 : k' = k2 := congrArg Prod.snd (Option.some.inj e1)
  subst e7
  exact e4 he
theorem mid_le (s : List UInt8) (k : Nat) (hk : k ≤ s.length) : k ≤ midS s k ∧ midS s k ≤ s.length := by
  have h1 := (dgs_len s k).2
  unfold midS
  split
  · rename_i h
    unfold isAt at h
    have h2 := (List.getElem?_eq_some_iff.1 (of_decide_eq_true h)).1
    omega
  · omega
theorem set0_block {w : World} {z : Nat} {a c d : Value} {t : TypeId} {fz : Nat × Nat} (h : w.heap[z]? = some (.cells #[c, d] t fz)) : (w.setCell ⟨z, 0, none⟩ a).heap[z]? = some (.cells #[a, d] t fz) := by
  have hz : z < w.heap.size := by
    rcases Nat.lt_or_ge z w.heap.size with h1 | h1
    · exact h1
    · rw [Array.getElem?_eq_none h1] at h; cases h
  simp [World.setCell, Array.getElem?_modify, h]
theorem sign_first {s : List UInt8} {B : Bool} (h : isAt s 0 45 = B) : signS s 0 = if B then some (-1, 1) else some (1, 0) := by
  unfold signS
  rw [if_pos rfl, h]

set_option maxHeartbeats 16000000 in
set_option maxRecDepth 100000 in
theorem readPoly_any (s : List UInt8) (w : World) (hs : s.length ≤ 2000) :
    Calls Tryd.prog 13 #[.string ⟨s.toArray⟩] w fun e w' => RrOut s e w' ∧ Below w.heap.size w w' := by
  have hz : (⟨s.toArray⟩ : ByteArray).size = s.length := arr_size s
  have hI : ¬ (2000 : Int) < (s.length : Int) := by omega
  by_cases h0 : s = [48]
  · subst h0
    go_enter Tryd.func13, Tryd.ntmps13
    go_wp2
    go_ret2
    refine ⟨⟨fun l hm he => ⟨_, rfl, ?_⟩, fun h => absurd rfl (h [] rfl)⟩, Below.refl _ _⟩
    cases l with
    | nil => exact Or.inl ⟨rfl, rfl⟩
    | cons t r => exact absurd he (text_ne _ hm (by simp))
  · obtain ⟨i0, hi, hz0, hz1, hz2⟩ := info_parts infoTerm
    have he : (s == [48]) = false := beq_eq_false_iff_ne.2 h0
    have HST : Hid (SoFar s 0 []) := by
      have h : SoFar s 0 [] := by
        intro l hm hl
        refine ⟨?_, 0, ⟨Nat.zero_le _, hl.symm, rfl⟩, (List.take_zero).symm⟩
        rintro rfl
        exact h0 hl.symm
      exact h
    obtain ⟨L, hL⟩ : ∃ L, s.length = L := ⟨_, rfl⟩
    rw [hL] at hs hI hz
    have HL := hid_of hL
    have hLI : (L : Int) ≤ 2000 := by omega
    clear h0 hL
    go_enter Tryd.func13, Tryd.ntmps13
    go_wp2
    go_loopg [4, 5] L (fun g v i wr => ∃ (k : Nat) (acc : List (Int × Int)), k ≤ L ∧ g = L - k ∧ acc.length ≤ k ∧ i = .int .i64 k ∧ wr.ownsRow w.heap.size 36 2 v acc.length (flat acc) ∧ Hid (SoFar s k acc) ∧ Below w.heap.size w wr)
    case atStart => exact ⟨0, [], Nat.zero_le _, rfl, Nat.le_refl _, rfl, World.ownsRow_nil _ _ _ _, HST, Below.refl _ _⟩
    case round =>
      obtain ⟨k, acc, hk, hg, hak, rfl, hrow, HSF, hb⟩ := hrel
      have hsz := hb.size
      by_cases hlt : k < L
      · have d1 : (k : Int) < (L : Int) := by omega
        have W1 : Hid (∀ n : Nat, n ≤ 3000 → IntKind.i64.wrap ((n : Int) + 1) = (n : Int) + 1 ∧ IntKind.i64.wrap ((n : Int) + 2) = (n : Int) + 2 ∧ IntKind.i64.wrap ((n : Int) + 3) = (n : Int) + 3) := fun n hn => ⟨IntWalk.i64_in _ (by omega), IntWalk.i64_in _ (by omega), IntWalk.i64_in _ (by omega)⟩
        obtain ⟨B9, hB9⟩ : ∃ B, (decide (k = 0) && isAt s 0 45) = B := ⟨_, rfl⟩
        have HB9 := hid_of hB9
        clear hB9
        go_upto_region 9 with (fail)
        go_cut [29] from 19 to 157 (fun b wx => b = .bool B9 ∧ wx = wr)
        case first => as_aux_lemma =>
          by_cases hk0 : k = 0
          · have hB8 : Hid (isAt s 0 45 = B9) := by
              have h : isAt s 0 45 = B9 := by rw [← HB9.out, decide_eq_true hk0, Bool.true_and]
              exact h
            subst hk0
            obtain ⟨c, h3⟩ : ∃ c, s[0]? = some c := ⟨_, List.getElem?_eq_getElem (by rw [HL.out]; exact hlt)⟩
            obtain ⟨m, hm⟩ : ∃ m, c.toNat = m := ⟨_, rfl⟩
            have hx : ∀ h : 0 < (⟨s.toArray⟩ : ByteArray).size, ((⟨s.toArray⟩ : ByteArray)[0]'h).toNat = m := by
              intro h
              rw [← hm]
              congr 1
              have h0 : 0 < s.length := by rw [HL.out]; exact hlt
              have h9 : s[0]? = some (s[0]'h0) := List.getElem?_eq_getElem h0
              rw [h3] at h9
              exact (Option.some.inj h9).symm
            have HX := hid_of hx
            clear hx
            by_cases h45 : m = 45
            · have HB : Hid (B9 = true) := by
                have h : B9 = true := by
                  rw [← hB8.out]; unfold isAt; rw [h3]
                  have : c = 45 := UInt8.toNat_inj.1 (hm.trans h45)
                  rw [this]; simp
                exact h
              subst h45
              clear h3 hm
              go_wp2
              go_meet
              exact ⟨by rw [HB.out, HX.out]; rfl, rfl⟩
            · have HB : Hid (B9 = false) := by
                have h : B9 = false := by
                  rw [← hB8.out]; unfold isAt; rw [h3]
                  have : ¬ c = 45 := fun e => h45 (by rw [← hm, e]; rfl)
                  simp [this]
                exact h
              have q1 : ((m : Int) == 45) = false := beq_eq_false_iff_ne.2 (by omega)
              clear h3 hm
              go_wp2
              go_meet
              exact ⟨by rw [HB.out, HX.out, q1], rfl⟩
          · have HB : Hid (B9 = false) := by
              have h : B9 = false := by rw [← HB9.out, decide_eq_false hk0]; rfl
              exact h
            have q1 : ((k : Int) == 0) = false := beq_eq_false_iff_ne.2 (by omega)
            go_wp2
            go_meet
            exact ⟨by rw [HB.out], rfl⟩
        case rest =>
          obtain ⟨rfl, rfl⟩ := hcut
          go_upto_if 29 with (fail)
          go_cut [5, 6] from 19 to 157 (fun a b wx => ∃ (k' : Nat) (sg : Int), k' ≤ L ∧ k ≤ k' ∧ (sg = 1 ∨ sg = -1) ∧ a = .int .i64 k' ∧ b = .int .i64 sg ∧ Hid (signS s k = some (sg, k')) ∧ wx = wc)
          case first => as_aux_lemma =>
            cases B9 with
            | true =>
              obtain ⟨hk0, h45⟩ : k = 0 ∧ isAt s 0 45 = true := by
                have := HB9.out
                simp at this
                exact this
              subst hk0
              have HSG := hid_of (sign_first h45)
              clear h45
              go_wp2
              go_meet
              exact ⟨1, -1, by omega, by omega, .inr rfl, by go_num, rfl, HSG, rfl⟩
            | false =>
              by_cases hk0 : k = 0
              · have h45 : isAt s 0 45 = false := by
                  have := HB9.out
                  rw [decide_eq_true hk0, Bool.true_and] at this
                  exact this
                subst hk0
                have HSG := hid_of (sign_first h45)
                clear h45
                go_wp2
                go_meet
                exact ⟨0, 1, by omega, by omega, .inl rfl, by go_num, rfl, HSG, rfl⟩
              · have i0' : (0 : Int) < (k : Int) := by omega
                have w3 : IntKind.i64.wrap ((k : Int) + 3) = (k : Int) + 3 := IntWalk.i64_in _ (by omega)
                by_cases h3 : k + 3 ≤ L
                · have i3 : ¬ (L : Int) < (k : Int) + 3 := by omega
                  obtain ⟨k1, hk1⟩ : ∃ k1, k + 1 = k1 := ⟨_, rfl⟩
                  obtain ⟨k2, hk2⟩ : ∃ k2, k + 2 = k2 := ⟨_, rfl⟩
                  have w1 : IntKind.i64.wrap ((k : Int) + 1) = (k1 : Int) := by rw [IntWalk.i64_in _ (by omega)]; omega
                  have w2 : IntKind.i64.wrap ((k : Int) + 2) = (k2 : Int) := by rw [IntWalk.i64_in _ (by omega)]; omega
                  obtain ⟨x, g0⟩ : ∃ x, s[k]? = some x := ⟨_, List.getElem?_eq_getElem (by rw [HL.out]; omega)⟩
                  obtain ⟨y, g1⟩ : ∃ x, s[k + 1]? = some x := ⟨_, List.getElem?_eq_getElem (by rw [HL.out]; omega)⟩
                  obtain ⟨z, g2⟩ : ∃ x, s[k + 2]? = some x := ⟨_, List.getElem?_eq_getElem (by rw [HL.out]; omega)⟩
                  obtain ⟨a, ha⟩ : ∃ a, x.toNat = a := ⟨_, rfl⟩
                  obtain ⟨b, hb'⟩ : ∃ a, y.toNat = a := ⟨_, rfl⟩
                  obtain ⟨c, hc⟩ : ∃ a, z.toNat = a := ⟨_, rfl⟩
                  have HSG := hid_of (sign_nat hk0 g0 g1 g2 ha hb' hc)
                  rw [hk1] at g1
                  rw [hk2] at g2
                  have x0 := idx_eq g0 ha
                  have x1 := idx_eq g1 hb'
                  have x2 := idx_eq g2 hc
                  have hN2 : ∀ a n : Nat, ¬ a = n → ((a : Int) == (n : Int)) = false ∧ ((a : Int) != (n : Int)) = true := fun a n h => ⟨beq_eq_false_iff_ne.2 (by omega), bne_iff_ne.2 (by omega)⟩
                  clear g0 g1 g2 ha hb' hc hk1 hk2
                  by_cases qa : a = 32
                  · subst qa
                    by_cases qb : b = 43
                    · subst qb
                      by_cases qc : c = 32
                      · subst qc
                        rw [if_pos ⟨rfl, .inl rfl, rfl⟩, if_neg (by decide)] at HSG
                        clear hN2
                        go_wp2
                        go_meet
                        exact ⟨k + 3, 1, by omega, by omega, .inl rfl, by go_num, rfl, HSG, rfl⟩
                      · rw [if_neg (fun h => qc h.2.2)] at HSG
                        obtain ⟨n3, n4⟩ := hN2 c 32 qc
                        clear hN2
                        go_wp2
                        go_ret2
                        exact ⟨rr_no (fun l hm hl => by
                          obtain ⟨hne, j, ht, -⟩ := HSF.out l hm hl
                          obtain ⟨-, k', e1, -⟩ := thru_step hm ht hne (by rw [HL.out]; exact hlt)
                          rw [HSG.out] at e1
                          cases e1), hb⟩
                    · by_cases qb5 : b = 45
                      · subst qb5
                        by_cases qc : c = 32
                        · subst qc
                          rw [if_pos ⟨rfl, .inr rfl, rfl⟩, if_pos rfl] at HSG
                          clear hN2
                          go_wp2
                          go_meet
                          exact ⟨k + 3, -1, by omega, by omega, .inr rfl, by go_num, rfl, HSG, rfl⟩
                        · rw [if_neg (fun h => qc h.2.2)] at HSG
                          obtain ⟨n3, n4⟩ := hN2 c 32 qc
                          clear hN2
                          go_wp2
                          go_ret2
                          exact ⟨rr_no (fun l hm hl => by
                            obtain ⟨hne, j, ht, -⟩ := HSF.out l hm hl
                            obtain ⟨-, k', e1, -⟩ := thru_step hm ht hne (by rw [HL.out]; exact hlt)
                            rw [HSG.out] at e1
                            cases e1), hb⟩
                      · rw [if_neg (fun h => by rcases h.2.1 with h | h; exact qb h; exact qb5 h)] at HSG
                        obtain ⟨n3, n4⟩ := hN2 b 43 qb
                        obtain ⟨n5, n6⟩ := hN2 b 45 qb5
                        clear hN2
                        go_wp2
                        go_ret2
                        exact ⟨rr_no (fun l hm hl => by
                          obtain ⟨hne, j, ht, -⟩ := HSF.out l hm hl
                          obtain ⟨-, k', e1, -⟩ := thru_step hm ht hne (by rw [HL.out]; exact hlt)
                          rw [HSG.out] at e1
                          cases e1), hb⟩
                  · rw [if_neg (fun h => qa h.1)] at HSG
                    obtain ⟨n3, n4⟩ := hN2 a 32 qa
                    clear hN2
                    go_wp2
                    go_ret2
                    exact ⟨rr_no (fun l hm hl => by
                      obtain ⟨hne, j, ht, -⟩ := HSF.out l hm hl
                      obtain ⟨-, k', e1, -⟩ := thru_step hm ht hne (by rw [HL.out]; exact hlt)
                      rw [HSG.out] at e1
                      cases e1), hb⟩
                · have i3 : (L : Int) < (k : Int) + 3 := by omega
                  have HSG := hid_of (sign_short hk0 (show s.length < k + 3 by rw [HL.out]; omega))
                  go_wp2
                  go_ret2
                  exact ⟨rr_no (fun l hm hl => by
                    obtain ⟨hne, j, ht, -⟩ := HSF.out l hm hl
                    obtain ⟨-, k', e1, -⟩ := thru_step hm ht hne (by rw [HL.out]; exact hlt)
                    rw [HSG.out] at e1
                    cases e1), hb⟩
          case rest =>
            obtain ⟨k', sg, hkL, hkk, hsg, rfl, rfl, HSG, rfl⟩ := hcut
            rename World => W0
            have HKS : Hid (k' ≤ s.length) := by have h : k' ≤ s.length := by (rw [HL.out]; exact hkL)
                                                 exact h
            have HWA := hid_of (wholeAt_any s k' W0 (by rw [HL.out]; exact hs) HKS.out)
            have hD7 := (dgs_len s k').1
            have hDL := (dgs_len s k').2
            have HMI := hid_of (mid_le s k' HKS.out)
            have hNL : numOf (dgs s k') < 10000000 := by
              have := num_lt7 s k' (dgs s k').length (Nat.le_refl _)
              rw [List.take_length] at this
              exact this
            obtain ⟨cc, hcc⟩ : ∃ c, cofS s k' = c := ⟨_, rfl⟩
            have HCC := hid_of hcc
            have hccb : cc < 10000000 := by rw [← hcc]; unfold cofS; split <;> omega
            obtain ⟨mid, hmid⟩ : ∃ m, midS s k' = m := ⟨_, rfl⟩
            have HMID := hid_of hmid
            have HSF2 := hid_of (soFar_step HSF.out (by rw [HL.out]; exact hlt) HSG.out)
            have HSF3 : Hid ((expS s (midS s k')).2 = k' → ∀ l, mayB l = true → textL l ≠ s) := fun h => soFar_stop HSF.out (by rw [HL.out]; exact hlt) HSG.out h
            rw [hmid, HL.out] at HMI
            rw [hmid, hcc] at HSF2
            rw [hmid] at HSF3
            have hmid1 := HMI.out.1
            have hmid2 := HMI.out.2
            have HC0 : Hid ((dgs s k').length = 0 → cc = 1) := fun h => by rw [← hcc]; unfold cofS; rw [if_pos h]
            have HC1 : Hid ((dgs s k').length ≠ 0 → cc = numOf (dgs s k')) := fun h => by rw [← hcc]; unfold cofS; rw [if_neg h]
            have HM0 : Hid (∀ B, isAt s (k' + (dgs s k').length) 42 = B → mid = if B then k' + (dgs s k').length + 1 else k' + (dgs s k').length) := fun B h => by rw [← hmid]; unfold midS; rw [h]
            obtain ⟨dn, hdn⟩ : ∃ n, (dgs s k').length = n := ⟨_, rfl⟩
            rw [hdn] at HWA hD7 hDL HC0 HC1 HM0
            obtain ⟨nn, hnn⟩ : ∃ n, numOf (dgs s k') = n := ⟨_, rfl⟩
            rw [hnn] at HWA hNL HC1
            obtain ⟨ii, hii⟩ : ∃ i, k' + dn = i := ⟨_, rfl⟩
            rw [hii] at HWA HM0 hDL
            have HII := hid_of hii
            have hii1 : k' ≤ ii := by omega
            have hii2 : ii ≤ L := by have := HL.out; omega
            obtain ⟨q, hq⟩ : ∃ q, IntKind.i64.wrap (sg * (cc : Int)) = q := ⟨_, rfl⟩
            have HQ : Hid (sg * (cc : Int) = q) := by
              have h : sg * (cc : Int) = q := by
                rw [← hq, IntWalk.i64_in]
                rcases hsg with rfl | rfl <;> omega
              exact h
            obtain ⟨W1, hW1⟩ : ∃ W1, W0.alloc (.cells #[.int .i64 0, .int .i64 q] 36) = W1 := ⟨_, rfl⟩
            clear hcc hmid hdn hnn hii
            go_upto_if 81 with (go_at_call 28; refine HWA.out.mono ?_; rintro e w9 ⟨rfl, e2⟩; obtain rfl := e2.symm)
            go_cut [7] from 19 to 157 (fun a wx => a = .int .i64 (cc : Nat) ∧ wx = W0)
            case first => as_aux_lemma =>
              by_cases hd0 : dn = 0
              · have q9 : ((ii : Int) == (k' : Int)) = true := beq_iff_eq.2 (by have := HII.out; omega)
                have HE := hid_of (HC0.out hd0)
                go_wp2
                go_meet
                exact ⟨by rw [HE.out]; rfl, rfl⟩
              · have q9 : ((ii : Int) == (k' : Int)) = false := beq_eq_false_iff_ne.2 (by have := HII.out; omega)
                have HE := hid_of (HC1.out hd0)
                go_wp2
                go_meet
                exact ⟨by rw [HE.out], rfl⟩
            case rest =>
              obtain ⟨rfl, e2⟩ := hcut
              obtain rfl := e2.symm
              obtain ⟨B2, hB2⟩ : ∃ B, isAt s ii 42 = B := ⟨_, rfl⟩
              have HB2 := hid_of hB2
              have HM1 := hid_of (HM0.out B2 hB2)
              clear hB2
              go_upto_region 23 with (fail)
              go_cut [96] from 19 to 157 (fun b wx => b = .bool B2 ∧ wx = W1)
              case first => as_aux_lemma =>
                rcases at_cases s ii 42 42 rfl with ⟨h1, h2, h3⟩ | ⟨h1, h2 | ⟨c9, h3, h4, h5⟩⟩
                · have ix := idx_eq h3 (rfl : (42 : UInt8).toNat = 42)
                  have i1 : (ii : Int) < (L : Int) := by have := HL.out; omega
                  have HB : Hid (B2 = true) := HB2.out.symm.trans h1
                  clear h3 h1
                  go_wp2
                  go_meet
                  exact ⟨by rw [HB.out], rfl⟩
                · have i1 : ¬ (ii : Int) < (L : Int) := by have := HL.out; omega
                  have HB : Hid (B2 = false) := HB2.out.symm.trans h1
                  clear h1
                  go_wp2
                  go_meet
                  exact ⟨by rw [HB.out], rfl⟩
                · obtain ⟨m9, hm9⟩ : ∃ m, c9.toNat = m := ⟨_, rfl⟩
                  have ix := idx_eq h3 hm9
                  have i1 : (ii : Int) < (L : Int) := by have := HL.out; omega
                  have q1 : ((m9 : Int) == 42) = false := beq_eq_false_iff_ne.2 (by omega)
                  have HB : Hid (B2 = false) := HB2.out.symm.trans h1
                  clear h3 h5 hm9 h1
                  go_wp2
                  go_meet
                  exact ⟨by rw [HB.out], rfl⟩
              case rest =>
                obtain ⟨rfl, e2⟩ := hcut
                obtain rfl := e2.symm
                go_upto_if 96 with (fail)
                go_cut [10] from 19 to 157 (fun a wx => a = .int .i64 (mid : Nat) ∧ wx = W1)
                case first => as_aux_lemma =>
                  have wi : IntKind.i64.wrap ((ii : Int) + 1) = (ii : Int) + 1 := IntWalk.i64_in _ (by omega)
                  cases B2 with
                  | true =>
                    have HE : Hid (mid = ii + 1) := HM1.out
                    go_wp2
                    go_meet
                    exact ⟨by rw [HE.out]; go_num, rfl⟩
                  | false =>
                    have HE : Hid (mid = ii) := HM1.out
                    go_wp2
                    go_meet
                    exact ⟨by rw [HE.out], rfl⟩
                case rest =>
                  obtain ⟨rfl, e2⟩ := hcut
                  obtain rfl := e2.symm
                  obtain ⟨B3, hB3⟩ : ∃ B, isAt s mid 116 = B := ⟨_, rfl⟩
                  have HB3 := hid_of hB3
                  clear hB3
                  go_upto_region 25 with (fail)
                  go_cut [108] from 19 to 157 (fun b wx => b = .bool B3 ∧ wx = W1)
                  case first => as_aux_lemma =>
                    rcases at_cases s mid 116 116 rfl with ⟨h1, h2, h3⟩ | ⟨h1, h2 | ⟨c9, h3, h4, h5⟩⟩
                    · have ix := idx_eq h3 (rfl : (116 : UInt8).toNat = 116)
                      have i1 : (mid : Int) < (L : Int) := by have := HL.out; omega
                      have HB : Hid (B3 = true) := HB3.out.symm.trans h1
                      clear h3 h1
                      go_wp2
                      go_meet
                      exact ⟨by rw [HB.out], rfl⟩
                    · have i1 : ¬ (mid : Int) < (L : Int) := by have := HL.out; omega
                      have HB : Hid (B3 = false) := HB3.out.symm.trans h1
                      clear h1
                      go_wp2
                      go_meet
                      exact ⟨by rw [HB.out], rfl⟩
                    · obtain ⟨m9, hm9⟩ : ∃ m, c9.toNat = m := ⟨_, rfl⟩
                      have ix := idx_eq h3 hm9
                      have i1 : (mid : Int) < (L : Int) := by have := HL.out; omega
                      have q1 : ((m9 : Int) == 116) = false := beq_eq_false_iff_ne.2 (by omega)
                      have HB : Hid (B3 = false) := HB3.out.symm.trans h1
                      clear h3 h5 hm9 h1
                      go_wp2
                      go_meet
                      exact ⟨by rw [HB.out], rfl⟩
                  case rest =>
                    obtain ⟨rfl, e2⟩ := hcut
                    obtain rfl := e2.symm
                    go_upto_if 108 with (fail)
                    go_cut [10, 11, 12, 13] from 19 to 157 (fun a _ _ _ wx => ∃ (e : Int) (j : Nat), a = .int .i64 (j : Nat) ∧ j ≤ L ∧ mid ≤ j ∧ Hid (expS s mid = (e, j)) ∧ wx.heap[W0.heap.size]? = some (.cells #[.int .i64 e, .int .i64 q] 36 (0, 0)) ∧ Below W0.heap.size W0 wx)
                    case first => as_aux_lemma =>
                      cases B3 with
                      | true =>
                        obtain ⟨m1, hm1⟩ : ∃ m, mid + 1 = m := ⟨_, rfl⟩
                        obtain ⟨m2, hm2⟩ : ∃ m, mid + 2 = m := ⟨_, rfl⟩
                        obtain ⟨m3, hm3⟩ : ∃ m, mid + 3 = m := ⟨_, rfl⟩
                        have hlm : mid < L := by
                          have h := HB3.out
                          unfold isAt at h
                          have := (List.getElem?_eq_some_iff.1 (of_decide_eq_true h)).1
                          rw [HL.out] at this
                          exact this
                        have v1 : IntKind.i64.wrap ((mid : Int) + 1) = (m1 : Int) := by rw [IntWalk.i64_in _ (by omega)]; omega
                        have v2 : IntKind.i64.wrap ((m1 : Int) + 1) = (m2 : Int) := by rw [IntWalk.i64_in _ (by omega)]; omega
                        have v3 : IntKind.i64.wrap ((m2 : Int) + 1) = (m3 : Int) := by rw [IntWalk.i64_in _ (by omega)]; omega
                        have hEX : expS s mid = if isAt s m1 94 then (if isAt s m2 45 then (-(numOf (dgs s m3) : Int), m3 + (dgs s m3).length) else ((numOf (dgs s m2) : Int), m2 + (dgs s m2).length)) else (1, m1) := by
                          unfold expS
                          rw [HB3.out, if_pos rfl, hm1, hm2, hm3]
                        have HEX := hid_of hEX
                        have HMM : Hid (mid + 1 = m1 ∧ mid + 2 = m2 ∧ mid + 3 = m3) := ⟨hm1, hm2, hm3⟩
                        have hB0 : Below W0.heap.size W0 W1 := by rw [← hW1]; exact (Below.refl _ _).alloc (Nat.le_refl _) _
                        clear hEX hm1 hm2 hm3
                        have hbx : W1.heap[W0.heap.size]? = some (.cells #[.int .i64 0, .int .i64 q] 36 (0, 0)) := by rw [← hW1]; exact alloc_at rfl
                        have HBX := hid_of hbx
                        have c0 := block_at (i := 0) hbx rfl
                        have f0 := fresh_at (i := 0) hbx
                        have HB1 := hid_of hB0
                        have hmm := HMM.out
                        obtain ⟨mm1, mm2, mm3⟩ : mid + 1 ≤ m1 ∧ mid + 2 ≤ m2 ∧ mid + 3 ≤ m3 := by omega
                        obtain ⟨mn1, mn2, mn3⟩ : m1 ≤ mid + 1 ∧ m2 ≤ mid + 2 ∧ m3 ≤ mid + 3 := by omega
                        clear hbx hB0 hmm hW1
                        rcases at_cases s m1 94 94 rfl with ⟨h1, h2, h3⟩ | ⟨h1, h2 | ⟨c9, h3, h4, h5⟩⟩
                        · have ix := idx_eq h3 (rfl : (94 : UInt8).toNat = 94)
                          have i1 : (m1 : Int) < (L : Int) := by have := HL.out; omega
                          have HT1 := hid_of h1
                          have hm1L : m1 < L := by have := HL.out; omega
                          clear h3 h1 h2
                          rcases at_cases s m2 45 45 rfl with ⟨g1, g2, g3⟩ | ⟨g1, g2 | ⟨c8, g3, g4, g5⟩⟩
                          · have ix2 := idx_eq g3 (rfl : (45 : UInt8).toNat = 45)
                            have i2 : (m2 : Int) < (L : Int) := by have := HL.out; omega
                            have HE := hid_of (HEX.out.trans (by rw [HT1.out, if_pos rfl, g1, if_pos rfl]))
                            have hm2L : m2 < L := by have := HL.out; omega
                            have hmL : m3 ≤ L := by omega
                            have HWH : Hid (∀ W, Calls Tryd.prog 28 #[.string ⟨s.toArray⟩, .int .i64 (m3 : Nat)] W fun e w' => e = .returned (.tuple #[.int .i64 (numOf (dgs s m3) : Nat), .int .i64 ((m3 + (dgs s m3).length : Nat) : Int)]) ∧ w' = W) := fun W => wholeAt_any s m3 W (by rw [HL.out]; exact hs) (by rw [HL.out]; exact hmL)
                            have hjj := (dgs_len s m3).2
                            have hEL : numOf (dgs s m3) < 10000000 := by
                              have := num_lt7 s m3 (dgs s m3).length (Nat.le_refl _)
                              rw [List.take_length] at this
                              exact this
                            rw [HL.out] at hjj
                            obtain ⟨E, hE⟩ : ∃ E, numOf (dgs s m3) = E := ⟨_, rfl⟩
                            rw [hE] at HWH HE hEL
                            obtain ⟨jj, hj2⟩ : ∃ j, m3 + (dgs s m3).length = j := ⟨_, rfl⟩
                            rw [hj2] at HWH HE hjj
                            have hjm : mid ≤ jj := by omega
                            have hjL : jj ≤ L := by omega
                            clear hE hj2
                            clear g3 g1 g2
                            have hng : IntKind.i64.wrap (-(E : Int)) = -(E : Int) := IntWalk.i64_in _ (by omega)
                            go_wp2_with (go_at_call 28; refine (HWH.out _).mono ?_; rintro e9 w9 ⟨rfl, e2⟩; obtain rfl := e2.symm)
                            go_meet
                            exact ⟨-(E : Int), jj, rfl, hjL, hjm, HE, set0_block (set0_block (set0_block HBX.out)), ((HB1.out.setCell (p := ⟨W0.heap.size, 0, none⟩) (Nat.le_refl _) _).setCell (p := ⟨W0.heap.size, 0, none⟩) (Nat.le_refl _) _).setCell (p := ⟨W0.heap.size, 0, none⟩) (Nat.le_refl _) _⟩
                          · have i2 : ¬ (m2 : Int) < (L : Int) := by have := HL.out; omega
                            have HE := hid_of (HEX.out.trans (by rw [HT1.out, if_pos rfl, g1, if_neg (by decide)]))
                            have hmL : m2 ≤ L := by omega
                            have HWH : Hid (∀ W, Calls Tryd.prog 28 #[.string ⟨s.toArray⟩, .int .i64 (m2 : Nat)] W fun e w' => e = .returned (.tuple #[.int .i64 (numOf (dgs s m2) : Nat), .int .i64 ((m2 + (dgs s m2).length : Nat) : Int)]) ∧ w' = W) := fun W => wholeAt_any s m2 W (by rw [HL.out]; exact hs) (by rw [HL.out]; exact hmL)
                            have hjj := (dgs_len s m2).2
                            have hEL : numOf (dgs s m2) < 10000000 := by
                              have := num_lt7 s m2 (dgs s m2).length (Nat.le_refl _)
                              rw [List.take_length] at this
                              exact this
                            rw [HL.out] at hjj
                            obtain ⟨E, hE⟩ : ∃ E, numOf (dgs s m2) = E := ⟨_, rfl⟩
                            rw [hE] at HWH HE hEL
                            obtain ⟨jj, hj2⟩ : ∃ j, m2 + (dgs s m2).length = j := ⟨_, rfl⟩
                            rw [hj2] at HWH HE hjj
                            have hjm : mid ≤ jj := by omega
                            have hjL : jj ≤ L := by omega
                            clear hE hj2
                            clear g1 g2
                            go_wp2_with (go_at_call 28; refine (HWH.out _).mono ?_; rintro e9 w9 ⟨rfl, e2⟩; obtain rfl := e2.symm)
                            go_meet
                            exact ⟨(E : Int), jj, rfl, hjL, hjm, HE, set0_block (set0_block HBX.out), (HB1.out.setCell (p := ⟨W0.heap.size, 0, none⟩) (Nat.le_refl _) _).setCell (p := ⟨W0.heap.size, 0, none⟩) (Nat.le_refl _) _⟩
                          · obtain ⟨m8, hm8⟩ : ∃ m, c8.toNat = m := ⟨_, rfl⟩
                            have ix2 := idx_eq g3 hm8
                            have i2 : (m2 : Int) < (L : Int) := by have := HL.out; omega
                            have q2 : ((m8 : Int) == 45) = false := beq_eq_false_iff_ne.2 (by omega)
                            have HE := hid_of (HEX.out.trans (by rw [HT1.out, if_pos rfl, g1, if_neg (by decide)]))
                            have hmL : m2 ≤ L := by omega
                            have HWH : Hid (∀ W, Calls Tryd.prog 28 #[.string ⟨s.toArray⟩, .int .i64 (m2 : Nat)] W fun e w' => e = .returned (.tuple #[.int .i64 (numOf (dgs s m2) : Nat), .int .i64 ((m2 + (dgs s m2).length : Nat) : Int)]) ∧ w' = W) := fun W => wholeAt_any s m2 W (by rw [HL.out]; exact hs) (by rw [HL.out]; exact hmL)
                            have hjj := (dgs_len s m2).2
                            have hEL : numOf (dgs s m2) < 10000000 := by
                              have := num_lt7 s m2 (dgs s m2).length (Nat.le_refl _)
                              rw [List.take_length] at this
                              exact this
                            rw [HL.out] at hjj
                            obtain ⟨E, hE⟩ : ∃ E, numOf (dgs s m2) = E := ⟨_, rfl⟩
                            rw [hE] at HWH HE hEL
                            obtain ⟨jj, hj2⟩ : ∃ j, m2 + (dgs s m2).length = j := ⟨_, rfl⟩
                            rw [hj2] at HWH HE hjj
                            have hjm : mid ≤ jj := by omega
                            have hjL : jj ≤ L := by omega
                            clear hE hj2
                            clear g3 g1 g5 hm8
                            go_wp2_with (go_at_call 28; refine (HWH.out _).mono ?_; rintro e9 w9 ⟨rfl, e2⟩; obtain rfl := e2.symm)
                            go_meet
                            exact ⟨(E : Int), jj, rfl, hjL, hjm, HE, set0_block (set0_block HBX.out), (HB1.out.setCell (p := ⟨W0.heap.size, 0, none⟩) (Nat.le_refl _) _).setCell (p := ⟨W0.heap.size, 0, none⟩) (Nat.le_refl _) _⟩
                        · have i1 : ¬ (m1 : Int) < (L : Int) := by have := HL.out; omega
                          have HE := hid_of (HEX.out.trans (by rw [h1, if_neg (by decide)]))
                          clear h1 h2
                          go_wp2
                          go_meet
                          exact ⟨1, m1, rfl, by omega, by omega, HE, set0_block HBX.out, HB1.out.setCell (p := ⟨W0.heap.size, 0, none⟩) (Nat.le_refl _) _⟩
                        · obtain ⟨m9, hm9⟩ : ∃ m, c9.toNat = m := ⟨_, rfl⟩
                          have ix := idx_eq h3 hm9
                          have i1 : (m1 : Int) < (L : Int) := by have := HL.out; omega
                          have q1 : ((m9 : Int) == 94) = false := beq_eq_false_iff_ne.2 (by omega)
                          have HE := hid_of (HEX.out.trans (by rw [h1, if_neg (by decide)]))
                          clear h1 h3 h5 hm9
                          go_wp2
                          go_meet
                          exact ⟨1, m1, rfl, by omega, by omega, HE, set0_block HBX.out, HB1.out.setCell (p := ⟨W0.heap.size, 0, none⟩) (Nat.le_refl _) _⟩
                      | false =>
                        have HEX : Hid (expS s mid = (0, mid)) := by
                          have h : expS s mid = (0, mid) := by unfold expS; rw [HB3.out, if_neg (by decide)]
                          exact h
                        go_wp2
                        go_meet
                        exact ⟨0, mid, rfl, by omega, Nat.le_refl _, HEX, by rw [← hW1]; exact alloc_at rfl, by rw [← hW1]; exact (Below.refl _ _).alloc (Nat.le_refl _) _⟩
                    case rest =>
                      obtain ⟨e, j, rfl, hjL, hjm, HEX, hbox, hbel⟩ := hcut
                      rename World => W2
                      rw [HEX.out, HQ.out] at HSF2
                      rw [HEX.out] at HSF3
                      simp only at HSF2 HSF3
                      have c0 := block_at (i := 0) hbox rfl
                      have c1 := block_at (i := 1) hbox rfl
                      have hrow2 := hrow.kept (grown_belowR hbel none) (Classical.em _)
                      have hb2 : Below w.heap.size w W2 := hb.trans (hbel.mono hsz)
                      have hsz2 := hb2.size
                      by_cases hjk : j = k'
                      · have q9 : ((j : Int) == (k' : Int)) = true := beq_iff_eq.2 (by omega)
                        have HNO := hid_of (HSF3.out hjk)
                        clear hjk
                        go_wp2
                        go_ret2
                        exact ⟨rr_no HNO.out, hb2⟩
                      · have q9 : ((j : Int) == (k' : Int)) = false := beq_eq_false_iff_ne.2 (by omega)
                        have hkj : k < j := by omega
                        clear hjk
                        go_wp2_with (first
                          | (at_builtin; refine wpList_append_own _ rfl _ _ 22 rfl w.heap.size 36 i0 (.agg #[.int .i64 0, .int .i64 0]) 2 16 Tryd.underlying22 hi hz0 hz1 hz2 rfl (by decide) _ _ _ rfl (hrow2.alloc _) ⟨W2.heap.size, 0, none⟩ 1 1 [.int .i64 e, .int .i64 q] rfl rfl (new_two W2 _ rfl _ _) (pair_one _ _) (by unfold maxLen; omega) (by omega) (by simp; omega) ?_; intro v' w3 hown' hg3 _; go_frame)
                          | go_in)
                        go_roundg (L - j)
                        case measure => omega
                        case rel =>
                          refine ⟨j, acc ++ [(e, q)], by omega, rfl, by simp; omega, rfl, ?_, HSF2, ((hb2.alloc hsz2 _).grown hg3 (by simp; omega) (fun j hj => (hrow2.lt j hj).1))⟩
                          rw [flat_append, List.length_append]
                          exact hown'
      · obtain rfl : k = L := by omega
        have d1 : ¬ (k : Int) < (k : Int) := by omega
        have HLN : Hid (acc.length ≤ maxLen) := by
          have h : acc.length ≤ maxLen := by unfold maxLen; omega
          exact h
        have HP := hid_of (Poly.ofRow hrow)
        have HEND : Hid (∀ l, mayB l = true → textL l = s → acc = l) := fun l hm hl => by
          obtain ⟨hne, j, ht, ha⟩ := HSF.out l hm hl
          rw [← HL.out] at ht
          exact ha.trans (thru_end hm hne ht)
        have HX := hid_of (polyText_poly (l := acc))
        cases hm : mayB acc with
        | false =>
          have HM := hid_of hm
          clear hm
          go_wp2_with (go_at_call 10; refine (polyMay_poly _ acc _ HLN.out HP.out).mono ?_; rintro e W1 ⟨rfl, hb1⟩; rw [HM.out])
          go_ret2
          refine ⟨rr_no (fun l hml hl => ?_), hb.trans (hb1.mono hsz)⟩
          rw [← HEND.out l hml hl, HM.out] at hml
          cases hml
        | true =>
          have HM := hid_of hm
          by_cases ht : textL acc = s
          · have HT := hid_of ht
            rw [ht] at HX
            clear hm ht
            go_wp2_with (first
              | (go_at_call 10; refine (polyMay_poly _ acc _ HLN.out HP.out).mono ?_; rintro e W1 ⟨rfl, hb1⟩; rw [HM.out]; have HP1 := hid_of ((HP.out.on hb1).mono hb1.size))
              | (go_at_call 11; refine (HX.out _ _ HM.out HP1.out).mono ?_; rintro e W2 ⟨rfl, hb2⟩; have HP2 := hid_of ((HP1.out.on hb2).mono hb2.size); have hb3 := hb1.trans (hb2.mono hb1.size)))
            go_ret2
            refine ⟨⟨fun l hml hl => ⟨_, rfl, ?_⟩, fun h => absurd HT.out (h acc HM.out)⟩, hb.trans (hb3.mono hsz)⟩
            rw [← HEND.out l hml hl]
            exact HP2.out
          · have q1 : (textL acc == s) = false := beq_eq_false_iff_ne.2 ht
            have HT := hid_of ht
            generalize textL acc = x at HX q1
            clear hm ht
            go_wp2_with (first
              | (go_at_call 10; refine (polyMay_poly _ acc _ HLN.out HP.out).mono ?_; rintro e W1 ⟨rfl, hb1⟩; rw [HM.out]; have HP1 := hid_of ((HP.out.on hb1).mono hb1.size))
              | (go_at_call 11; refine (HX.out _ _ HM.out HP1.out).mono ?_; rintro e W2 ⟨rfl, hb2⟩; have hb3 := hb1.trans (hb2.mono hb1.size)))
            go_ret2
            refine ⟨rr_no (fun l hml hl => ?_), hb.trans (hb3.mono hsz)⟩
            rw [← HEND.out l hml hl] at hl
            exact HT.out hl
end Go.Proofs.YthbhllomikfbhaaDoor.Poly

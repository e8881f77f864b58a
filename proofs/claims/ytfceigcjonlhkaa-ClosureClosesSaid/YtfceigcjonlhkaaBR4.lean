/- Ends of strands: the walks of braid.Ends and of ref.EndsOf. -/
import Derived.Test.YtfceigcjonlhkaaBR3
namespace Go.Proofs.Ytfceigcjonlhkaa
open Go.RowKit

theorem own_someB {w : World} {B e s n : Nat} {v : Value} {xs : List Value} (h : w.ownsRow B e s v n xs) (hn : 1 ≤ n) : ∃ g c, v = .slice (some ⟨g, 0, none⟩) n c ∧ B ≤ g ∧ g < w.heap.size := by
  have h0 := h
  rcases h.2 with ⟨rfl, h1⟩ | ⟨g, cap, cur, rfl, h2, _⟩
  · omega
  · exact ⟨g, cap, rfl, (h0.lt g rfl).1, (h0.lt g rfl).2⟩

set_option maxHeartbeats 4000000 in
set_option maxRecDepth 100000 in
theorem ends_no (a : Option Addr) (c : Nat) (l : List Int) (n : Int) (w : World) (hl : l.length * 8 ≤ 140737488355328) (hn : wordN n l ≠ 0) (h : RdAt w w.heap.size 1 (.slice a l.length c) l.length (intsV l)) :
    Calls Try.prog 76 #[.int .i64 n, .slice a l.length c] w fun e w' => e = .returned (.tuple #[.slice none 0 0, .int .i64 (wordN n l)]) ∧ Below w.heap.size w w' := by
  obtain ⟨Y, hY⟩ : ∃ Y, Y = w.alloc (.cells #[.slice a l.length c] 53) := ⟨_, rfl⟩
  have HY : Hid (Y = w.alloc (.cells #[.slice a l.length c] 53)) := hY
  have HBY : Hid (Below w.heap.size w Y) := (by rw [hY]; exact (Below.refl _ _).alloc (Nat.le_refl _) _ : Below w.heap.size w Y)
  have hT : Y.heap[w.heap.size]? = some (.cells #[.slice a l.length c] 53 (0, 0)) := by rw [hY]; exact alloc_at rfl
  have HF : Hid (Calls Try.prog 117 #[.int .i64 n, .slice (some ⟨w.heap.size, 0, none⟩) 1 1] Y fun e w' => e = .returned (.int .i64 (wordN n l)) ∧ Below Y.heap.size Y w') := refusal_one n hl h HBY.out hT
  clear hY hT h
  generalize wordN n l = r at hn HF ⊢
  have hr0 : (r == 0) = false := beq_eq_false_iff_ne.2 hn
  generalize l.length = m at HF HY hl ⊢
  go_enter Try.func76, Try.ntmps76
  go_wp2_with (rw [← HY.out]; go_at_call 117; refine HF.out.mono ?_; rintro e9 w2 ⟨rfl, hb2⟩; refine Hid.out ?_)
  refine Lib.hid ?_
  have HB2 : Hid (Below w.heap.size w w2) := HBY.out.trans (hb2.mono HBY.out.size)
  clear hb2
  go_wp2
  go_ret2
  exact ⟨rfl, HB2.out⟩

set_option maxHeartbeats 4000000 in
set_option maxRecDepth 100000 in
theorem ends_yes (a : Option Addr) (c n : Nat) (l : List Int) (w : World) (hl : l.length * 8 ≤ 140737488355328) (hn : wordN (n : Int) l = 0) (h : RdAt w w.heap.size 1 (.slice a l.length c) l.length (intsV l)) :
    Calls Try.prog 76 #[.int .i64 (n : Nat), .slice a l.length c] w fun e w' => ∃ a2 c2, e = .returned (.tuple #[.slice a2 n c2, .int .i64 0]) ∧ RdAt w' w'.heap.size 1 (.slice a2 n c2) n (intsV (endT (begT n l l.length) n)) ∧ Below w.heap.size w w' := by
  obtain ⟨n2, n6, hlet, hl20⟩ := wordN_ok hn
  have HLT : Hid (∀ j, j < l.length → l.getD j 0 ≠ 0 ∧ -(n : Int) < l.getD j 0 ∧ l.getD j 0 < (n : Int)) := hlet
  have HAB : Hid (∀ j, j < l.length → (l.getD j 0).natAbs < n) := fun j hj => by have := hlet j hj; omega
  have HPL : Hid (∀ k, k ≤ l.length → PlOk n (begT n l k)) := fun k hk => begT_ok n l HAB.out k hk
  have HNX : Hid (∀ k, k < l.length → begT n l (k + 1) = trd (begT n l k) (l.getD k 0).natAbs) := fun k hk => begT_next n l k hk
  obtain ⟨Y, hY⟩ : ∃ Y, Y = w.alloc (.cells #[.slice a l.length c] 53) := ⟨_, rfl⟩
  have HY : Hid (Y = w.alloc (.cells #[.slice a l.length c] 53)) := hY
  have HBY : Hid (Below w.heap.size w Y) := (by rw [hY]; exact (Below.refl _ _).alloc (Nat.le_refl _) _ : Below w.heap.size w Y)
  have hT : Y.heap[w.heap.size]? = some (.cells #[.slice a l.length c] 53 (0, 0)) := by rw [hY]; exact alloc_at rfl
  have HF : Hid (Calls Try.prog 117 #[.int .i64 (n : Nat), .slice (some ⟨w.heap.size, 0, none⟩) 1 1] Y fun e w' => e = .returned (.int .i64 0) ∧ Below Y.heap.size Y w') := (by have := refusal_one (n : Int) hl h HBY.out hT; rw [hn] at this; exact this)
  have HRD : Hid (RdAt w w.heap.size 1 (.slice a l.length c) l.length (intsV l)) := h
  have hn6 : n ≤ 6 := by omega
  clear hY hT h hn hlet
  obtain ⟨m, hm⟩ : ∃ m, l.length = m := ⟨_, rfl⟩
  have HM : Hid (l.length = m) := hm
  rw [hm] at HY hl hl20 HLT HAB HPL HNX ⊢
  clear hm
  go_enter Try.func76, Try.ntmps76
  go_wp2_with (rw [← HY.out]; go_at_call 117; refine HF.out.mono ?_; rintro e9 w2 ⟨rfl, hb2⟩; refine Hid.out ?_)
  refine Lib.hid ?_
  have HB2 : Hid (Below w.heap.size w w2) := HBY.out.trans (hb2.mono HBY.out.size)
  clear hb2
  go_wp2_with (go_at_call 118; refine (places_any n _ hn6).mono ?_; rintro e9 w3 ⟨a3, c3, rfl, hr3, hg3⟩; refine Hid.out ?_)
  refine Lib.hid ?_
  obtain ⟨g, c4, e4, hgb, -⟩ := own_someB hr3 (by omega)
  injection e4 with e5 e6 e7
  subst e5 e7
  have HR3 : Hid (w3.ownsRow w2.heap.size 3 1 (.slice (some ⟨g, 0, none⟩) n c3) n (intsV (begT n l 0))) := hr3
  have HB3 : Hid (Below w.heap.size w w3) := HB2.out.grown hg3 HB2.out.size (fun k hk => by cases hk)
  have HS2 : Hid (w.heap.size ≤ w2.heap.size ∧ w.heap.size ≤ g) := (⟨HB2.out.size, Nat.le_trans HB2.out.size hgb⟩ : w.heap.size ≤ w2.heap.size ∧ w.heap.size ≤ g)
  clear hr3 hg3 e6 hgb
  go_wp2
  go_loopw [21] (fun v21 wr => ∃ k : Nat, k ≤ m ∧ v21 = .int .i64 (k : Nat) ∧ Hid (wr.ownsRow w2.heap.size 3 1 (.slice (some ⟨g, 0, none⟩) n c3) n (intsV (begT n l k))) ∧ Hid (Below w.heap.size w wr)) (fun v21 _ => m - (intOf v21).toNat)
  case atStart => exact ⟨0, Nat.zero_le _, rfl, HR3.out, HB3.out⟩
  case round =>
    clear HR3 HB3
    rename World => W1
    obtain ⟨k, hkm, rfl, hp, hb⟩ := hrel
    by_cases hk : k < m
    · have hkI : (k : Int) < (m : Int) := by omega
      obtain ⟨b, off, ea, hlt, hc⟩ := (HRD.out.on hb.out).intAt k (by rw [HM.out]; exact hk)
      obtain ⟨q1, q2, q3⟩ := HLT.out k hk
      have hq := HAB.out k hk
      have HN := HNX.out k hk
      have HPK := HPL.out k (by omega)
      generalize l.getD k 0 = x at hc q1 q2 q3 hq HN
      have HSZ : Hid (∀ W, Calls Try.prog 120 #[.int .i64 x] W fun e w' => e = .returned (.int .i64 (x.natAbs : Int)) ∧ w' = W) := fun W => brSize_any x W (by omega) (by omega)
      obtain ⟨i, hi⟩ : ∃ i, x.natAbs = i := ⟨_, rfl⟩
      rw [hi] at HSZ HN hq
      have HTR : Hid (Calls Try.prog 119 #[.slice (some ⟨g, 0, none⟩) n c3, .int .i64 (i : Nat)] W1 fun e w' => e = .returned (.tuple #[]) ∧ w'.ownsRow w2.heap.size 3 1 (.slice (some ⟨g, 0, none⟩) n c3) n (intsV (trd (begT n l k) i)) ∧ W1.grownBy w' (some g)) := trade_any w2.heap.size g c3 n i (i - 1) (begT n l k) W1 HPK.ln (by omega) hq (by omega) hp.out
      have HNN : Hid (begT n l (k + 1) = trd (begT n l k) i) := HN
      have lb : b < W1.heap.size := Nat.lt_of_lt_of_le hlt hb.out.size
      subst ea
      clear hi HN HPK q1 q2 q3 hq
      go_wp2_with (first
        | (go_at_call 119; refine HTR.out.mono ?_; rintro e9 w5 ⟨rfl, hr5, hg5⟩; refine Hid.out ?_)
        | (go_at_call 120; refine (HSZ.out _).mono ?_; rintro e9 w5 ⟨rfl, rfl⟩))
      refine Lib.hid ?_
      have HR5 : Hid (w5.ownsRow w2.heap.size 3 1 (.slice (some ⟨g, 0, none⟩) n c3) n (intsV (begT n l (k + 1)))) := (by rw [HNN.out]; exact hr5)
      have HB5 : Hid (Below w.heap.size w w5) := hb.out.grown hg5 hb.out.size (fun q hq => by have h1 : g = q := Option.some.inj hq; have := HS2.out; omega)
      clear hr5 hg5
      go_wp2
      go_roundw
      case rel => exact ⟨k + 1, by omega, by go_num, HR5.out, HB5.out⟩
      case measure => simp only [intOf]; omega
    · obtain rfl : k = m := by omega
      have HTU : Hid (Calls Try.prog 121 #[.slice (some ⟨g, 0, none⟩) n c3] W1 fun e w' => ∃ a c, e = .returned (.slice a n c) ∧ w'.ownsRow W1.heap.size 3 1 (.slice a n c) n (intsV (endT (begT n l k) n)) ∧ Below W1.heap.size W1 w') := turnedRound_any _ n (begT n l k) W1 (by omega) (HPL.out k (Nat.le_refl _)) (own_rd hp.out)
      go_wp2_with (go_at_call 121; refine HTU.out.mono ?_; rintro e9 w5 ⟨a5, c5, rfl, hr5, hb5⟩; refine Hid.out ?_)
      refine Lib.hid ?_
      have HR5 : Hid (RdAt w5 w5.heap.size 1 (.slice a5 n c5) n (intsV (endT (begT n l k) n))) := own_rd hr5
      have HB5 : Hid (Below w.heap.size w w5) := hb.out.trans (hb5.mono hb.out.size)
      clear hr5 hb5
      go_wp2
      go_ret2
      exact ⟨_, _, rfl, HR5.out, HB5.out⟩
end Go.Proofs.Ytfceigcjonlhkaa

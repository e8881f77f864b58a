/- The walk of knotworkref.PolyText: the same text, by strings put together. -/
import Derived.Test.YthbhllomikfbhaaDoorXT7
namespace Go.Proofs.YthbhllomikfbhaaDoor.Poly
open Go.RowKit

theorem below2 {B : Nat} {w wr x w2 : World} {o : Obj} (h : Below B w wr) (hsz : B ≤ wr.heap.size) (h2 : Below x.heap.size x w2) (h1 : Below (wr.alloc o).heap.size (wr.alloc o) x) : Below B w w2 := by
  have hs : B ≤ (wr.alloc o).heap.size := by simp; omega
  exact ((h.alloc hsz o).trans (h1.mono hs)).trans (h2.mono (Nat.le_trans hs h1.size))

theorem str_ext {a b : ByteArray} (h : a.data.toList = b.data.toList) : Value.string a = Value.string b := by
  cases a; cases b
  simp only at h
  rw [Array.toList_inj.1 h]

set_option maxHeartbeats 4000000 in
set_option maxRecDepth 100000 in
theorem polyText_any (b off cap : Nat) (l : List (Int × Int)) (w : World) (hm : mayB l = true) (hbw : b < w.heap.size) (hT : TermsAt w b off l) :
    Calls Tryd.prog 11 #[.slice (some ⟨b, off, none⟩) l.length cap] w fun e w' => e = .returned (.string ⟨(textL l).toArray⟩) ∧ Below w.heap.size w w' := by
  have hl64 := ((may_iff l).1 hm).1
  have HM : Hid (mayB l = true) := hm
  have HT : Hid (TermsAt w b off l) := hT
  clear hm hT
  by_cases h0 : l.length = 0
  · have ht : textL l = [48] := by unfold textL; rw [if_pos h0]
    rw [ht]
    have h1 : ((l.length : Int) == 0) = true := by simpa using h0
    clear ht h0
    go_enter Tryd.func11, Tryd.ntmps11
    go_wp2
    go_ret
    exact ⟨rfl, Below.refl _ _⟩
  have h1 : ((l.length : Int) == 0) = false := by simpa using h0
  go_enter Tryd.func11, Tryd.ntmps11
  go_wp2
  go_loopw [3, 4, 5, 6] (fun s i _ _ wr => ∃ k : Nat, k ≤ l.length ∧ i = .int .i64 k ∧ s = .string ⟨(textTo l k).toArray⟩ ∧ Below w.heap.size w wr) (fun _ i _ _ _ => l.length - (intOf i).toNat)
  case atStart => exact ⟨0, Nat.zero_le _, rfl, rfl, Below.refl _ _⟩
  case round =>
    obtain ⟨k, hk, rfl, rfl, hb⟩ := hrel
    by_cases hlt : k < l.length
    · have c0 := bcell hb hbw (HT.out k hlt).1
      have c1 := bcell hb hbw (HT.out k hlt).2
      have hok := (okB_iff l k).1 (((may_iff l).1 HM.out).2 k hlt)
      have hlen := text_len l HM.out k hk
      generalize he : (l.getD k (0, 0)).1 = e at c0 hok
      generalize hc : (l.getD k (0, 0)).2 = c at c1 hok
      have HE : Hid ((l.getD k (0, 0)).1 = e) := he
      have HC : Hid ((l.getD k (0, 0)).2 = c) := hc
      obtain ⟨o1, o2, o3, o4, o5, -⟩ := hok
      have O5 : Hid (c ≠ 0) := o5
      clear he hc o5
      have hbr : b < wr.heap.size := Nat.lt_of_lt_of_le hbw hb.size
      have hsz := hb.size
      have hla := Lib.itoa_length_le (c.natAbs : Int) (by omega) (by omega)
      have hle := Lib.itoa_length_le e (by omega) (by omega)
      have hcase : (c < 0 ∧ k ≤ 0) ∨ (c < 0 ∧ 0 < k) ∨ (0 < c ∧ k ≤ 0) ∨ (0 < c ∧ 0 < k) := by have := O5.out; omega
      rcases hcase with ⟨hs1, hk0⟩ | ⟨hs1, hk0⟩ | ⟨hs1, hk0⟩ | ⟨hs1, hk0⟩
      · have PRE : Hid (leadL (decide (k = 0)) (decide (c < 0)) = [45]) := by
          have a : decide (k = 0) = true := by simp; omega
          have b : decide (c < 0) = true := by simp; omega
          rw [a, b]; rfl
        go_wp2_with (first | (go_at_call 26; refine (abs_any _ _ (by omega) (by omega)).mono ?_; rintro r w0 ⟨rfl, rfl⟩) | (go_at_call 25; refine (dec_any _ _ (by omega) (by omega)).mono ?_; rintro r w1 ⟨rfl, hb1⟩; have q1 := fun (b o : Nat) (h : b < _) => hb1.cell (p := ⟨b, o, none⟩) h))
        all_goals go_roundw
        all_goals first | (simp only [intOf]; omega) | skip
        all_goals refine ⟨k + 1, by omega, by go_num, ?_, ?_⟩
        all_goals first | exact (hb.alloc hsz _).trans (hb1.mono (by simp; omega)) | exact below2 hb hsz hb1 (by assumption) | skip
        all_goals rw [text_step HE.out HC.out PRE.out]
        all_goals first | rw [body0 ‹e = 0›] | rw [body1 ‹(e != 0) = true ∧ (Lib.itoa (c.natAbs : Int) == [49]) = true› ‹(e == 1) = true›] | rw [body2 ‹(e != 0) = true ∧ (Lib.itoa (c.natAbs : Int) == [49]) = true› ‹(e == 1) = false›] | rw [body3 ‹(e != 0) = true› ‹(e != 0) = false ∨ (Lib.itoa (c.natAbs : Int) == [49]) = false› ‹(e == 1) = true›] | rw [body4 ‹(e != 0) = true› ‹(e != 0) = false ∨ (Lib.itoa (c.natAbs : Int) == [49]) = false› ‹(e == 1) = false›]
        all_goals apply str_ext
        all_goals simp
      · have PRE : Hid (leadL (decide (k = 0)) (decide (c < 0)) = [32, 45, 32]) := by
          have a : decide (k = 0) = false := by simp; omega
          have b : decide (c < 0) = true := by simp; omega
          rw [a, b]; rfl
        go_wp2_with (first | (go_at_call 26; refine (abs_any _ _ (by omega) (by omega)).mono ?_; rintro r w0 ⟨rfl, rfl⟩) | (go_at_call 25; refine (dec_any _ _ (by omega) (by omega)).mono ?_; rintro r w1 ⟨rfl, hb1⟩; have q1 := fun (b o : Nat) (h : b < _) => hb1.cell (p := ⟨b, o, none⟩) h))
        all_goals go_roundw
        all_goals first | (simp only [intOf]; omega) | skip
        all_goals refine ⟨k + 1, by omega, by go_num, ?_, ?_⟩
        all_goals first | exact (hb.alloc hsz _).trans (hb1.mono (by simp; omega)) | exact below2 hb hsz hb1 (by assumption) | skip
        all_goals rw [text_step HE.out HC.out PRE.out]
        all_goals first | rw [body0 ‹e = 0›] | rw [body1 ‹(e != 0) = true ∧ (Lib.itoa (c.natAbs : Int) == [49]) = true› ‹(e == 1) = true›] | rw [body2 ‹(e != 0) = true ∧ (Lib.itoa (c.natAbs : Int) == [49]) = true› ‹(e == 1) = false›] | rw [body3 ‹(e != 0) = true› ‹(e != 0) = false ∨ (Lib.itoa (c.natAbs : Int) == [49]) = false› ‹(e == 1) = true›] | rw [body4 ‹(e != 0) = true› ‹(e != 0) = false ∨ (Lib.itoa (c.natAbs : Int) == [49]) = false› ‹(e == 1) = false›]
        all_goals apply str_ext
        all_goals simp
      · have PRE : Hid (leadL (decide (k = 0)) (decide (c < 0)) = []) := by
          have a : decide (k = 0) = true := by simp; omega
          have b : decide (c < 0) = false := by simp; omega
          rw [a, b]; rfl
        go_wp2_with (first | (go_at_call 26; refine (abs_any _ _ (by omega) (by omega)).mono ?_; rintro r w0 ⟨rfl, rfl⟩) | (go_at_call 25; refine (dec_any _ _ (by omega) (by omega)).mono ?_; rintro r w1 ⟨rfl, hb1⟩; have q1 := fun (b o : Nat) (h : b < _) => hb1.cell (p := ⟨b, o, none⟩) h))
        all_goals go_roundw
        all_goals first | (simp only [intOf]; omega) | skip
        all_goals refine ⟨k + 1, by omega, by go_num, ?_, ?_⟩
        all_goals first | exact (hb.alloc hsz _).trans (hb1.mono (by simp; omega)) | exact below2 hb hsz hb1 (by assumption) | skip
        all_goals rw [text_step HE.out HC.out PRE.out]
        all_goals first | rw [body0 ‹e = 0›] | rw [body1 ‹(e != 0) = true ∧ (Lib.itoa (c.natAbs : Int) == [49]) = true› ‹(e == 1) = true›] | rw [body2 ‹(e != 0) = true ∧ (Lib.itoa (c.natAbs : Int) == [49]) = true› ‹(e == 1) = false›] | rw [body3 ‹(e != 0) = true› ‹(e != 0) = false ∨ (Lib.itoa (c.natAbs : Int) == [49]) = false› ‹(e == 1) = true›] | rw [body4 ‹(e != 0) = true› ‹(e != 0) = false ∨ (Lib.itoa (c.natAbs : Int) == [49]) = false› ‹(e == 1) = false›]
        all_goals apply str_ext
        all_goals simp
      · have PRE : Hid (leadL (decide (k = 0)) (decide (c < 0)) = [32, 43, 32]) := by
          have a : decide (k = 0) = false := by simp; omega
          have b : decide (c < 0) = false := by simp; omega
          rw [a, b]; rfl
        go_wp2_with (first | (go_at_call 26; refine (abs_any _ _ (by omega) (by omega)).mono ?_; rintro r w0 ⟨rfl, rfl⟩) | (go_at_call 25; refine (dec_any _ _ (by omega) (by omega)).mono ?_; rintro r w1 ⟨rfl, hb1⟩; have q1 := fun (b o : Nat) (h : b < _) => hb1.cell (p := ⟨b, o, none⟩) h))
        all_goals go_roundw
        all_goals first | (simp only [intOf]; omega) | skip
        all_goals refine ⟨k + 1, by omega, by go_num, ?_, ?_⟩
        all_goals first | exact (hb.alloc hsz _).trans (hb1.mono (by simp; omega)) | exact below2 hb hsz hb1 (by assumption) | skip
        all_goals rw [text_step HE.out HC.out PRE.out]
        all_goals first | rw [body0 ‹e = 0›] | rw [body1 ‹(e != 0) = true ∧ (Lib.itoa (c.natAbs : Int) == [49]) = true› ‹(e == 1) = true›] | rw [body2 ‹(e != 0) = true ∧ (Lib.itoa (c.natAbs : Int) == [49]) = true› ‹(e == 1) = false›] | rw [body3 ‹(e != 0) = true› ‹(e != 0) = false ∨ (Lib.itoa (c.natAbs : Int) == [49]) = false› ‹(e == 1) = true›] | rw [body4 ‹(e != 0) = true› ‹(e != 0) = false ∨ (Lib.itoa (c.natAbs : Int) == [49]) = false› ‹(e == 1) = false›]
        all_goals apply str_ext
        all_goals simp
    · go_wp2
      go_ret
      obtain rfl : k = l.length := by omega
      have ht : textL l = textTo l l.length := by unfold textL; rw [if_neg h0]
      exact ⟨ret_str ht.symm, hb⟩
end Go.Proofs.YthbhllomikfbhaaDoor.Poly

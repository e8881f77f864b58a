/- The walk of poly.told: the text of a polynomial that may be handed in, through a strings.Builder. -/
import Derived.Test.YthbhllomikfbhaaDoorXT7
namespace Go.Proofs.YthbhllomikfbhaaDoor.Poly
open Go.RowKit

theorem grown_belowT {w w' : World} (h : Below w.heap.size w w') (row : Option Nat) : w.grownBy w' row := ⟨h.os, h.tape, h.output, h.size, fun k hk _ => h.block k hk⟩

theorem builderAt_on {B b : Nat} {p : Value} {bs : List Value} {w w' : World} (h : Lib.BuilderAtF 69 5 B b p bs w) (hb : Below w.heap.size w w') : Lib.BuilderAtF 69 5 B b p bs w' := by
  have hlt := h.lt
  obtain ⟨hB, v, hbk, hown, hne⟩ := h
  refine ⟨hB, v, (hb.block b hlt).trans hbk, hown.kept (grown_belowT hb none) ?_, hne⟩
  cases hv : v.ownBlock
  · exact Or.inl rfl
  · exact Or.inr (by simp)

theorem builder_on {B b : Nat} {bs : List Value} {w w' : World} (h : Lib.IsBuilderF 69 5 B b bs w) (hb : Below w.heap.size w w') : Lib.IsBuilderF 69 5 B b bs w' :=
  h.elim (fun x => .inl (builderAt_on x hb)) (fun x => .inr (builderAt_on x hb))

/-- A block of a term stands behind a write into the builder. -/
theorem kept_term {b k : Nat} {w w' : World} {e c : Int} (h : Lib.OthersKept 5 (some b) w w') (hk : w.heap[k]? = some (.cells #[.int .i64 e, .int .i64 c] 36 (0, 0))) (hkb : k ≠ b) :
    w'.heap[k]? = some (.cells #[.int .i64 e, .int .i64 c] 36 (0, 0)) :=
  h k _ hk (by simpa using hkb) (by simp)

theorem told_step {l : List (Int × Int)} {k : Nat} {e c : Int} (he : (l.getD k (0, 0)).1 = e) (hc : (l.getD k (0, 0)).2 = c) :
    textTo l (k + 1) = textTo l k ++ leadL ((k : Int) == 0) (decide (c < 0)) ++ bodyL (c.natAbs : Int) e := by
  rw [textTo, termL, he, hc, ← List.append_assoc]
  have : ((k : Int) == 0) = decide (k = 0) := by
    cases k with
    | zero => rfl
    | succ k => simp; omega
  rw [this]

theorem writeL (B b : Nat) (acc s : List UInt8) (w : World) (h : Lib.IsBuilderF 69 5 B b (Lib.byteCells acc) w) (hlen : acc.length + s.length ≤ 140737488355328) (hBw : B ≤ w.heap.size) :
    Calls Tryd.prog 40 #[.pointer (some ⟨b, 0, none⟩), .string ⟨s.toArray⟩] w fun e w' => e = .returned (.tuple #[.int .i64 s.length, .nilIface]) ∧ (Lib.IsBuilderF 69 5 B b (Lib.byteCells (acc ++ s)) w' ∧ Below B w w' ∧ Lib.OthersKept 5 (some b) w w') := by
  have h1 : (Lib.byteCells acc).length + (⟨s.toArray⟩ : ByteArray).size ≤ 140737488355328 := by rw [Lib.byteCells_length]; exact hlen
  refine (writeString_any B b _ ⟨s.toArray⟩ w h h1 hBw).mono ?_
  rintro e w' ⟨rfl, h2, h3, h4⟩
  refine ⟨rfl, ?_, h3, h4⟩
  rw [Lib.byteCells_append]
  exact h2

set_option maxHeartbeats 1000000 in
set_option maxRecDepth 100000 in
theorem told_any (b off cap : Nat) (l : List (Int × Int)) (w : World) (hm : mayB l = true) (hbw : b < w.heap.size) (hT : TermsAt w b off l) (hTab : Tab w) :
    Calls Tryd.prog 24 #[.slice (some ⟨b, off, none⟩) l.length cap] w fun e w' => e = .returned (.string ⟨(textL l).toArray⟩) ∧ Below w.heap.size w w' := by
  have hl64 := ((may_iff l).1 hm).1
  have HM : Hid (mayB l = true) := hm
  have HT : Hid (TermsAt w b off l) := hT
  have HTab : Hid (Tab w) := hTab
  clear hm hT hTab
  by_cases h0 : l.length = 0
  · have ht : textL l = [48] := by unfold textL; rw [if_pos h0]
    rw [ht]
    have h1 : ((l.length : Int) == 0) = true := by simpa using h0
    clear ht h0
    go_enter Tryd.func24, Tryd.ntmps24
    go_wp2
    go_ret
    exact ⟨rfl, Below.refl _ _⟩
  have h1 : ((l.length : Int) == 0) = false := by simpa using h0
  have HI := Lib.IsBuilderF.of (Lib.fresh_isBuilder 69 5 w)
  go_enter Tryd.func24, Tryd.ntmps24
  go_wp2
  go_loopw [11] (fun i wr => ∃ k : Nat, k ≤ l.length ∧ i = .int .i64 k ∧ Below w.heap.size w wr ∧ Lib.IsBuilderF 69 5 w.heap.size w.heap.size (Lib.byteCells (textTo l k)) wr) (fun i _ => l.length - (intOf i).toNat)
  case atStart => exact ⟨0, Nat.zero_le _, rfl, (Below.refl _ _).alloc (Nat.le_refl _) _, HI⟩
  case round =>
    obtain ⟨k, hk, rfl, hb, hI⟩ := hrel
    by_cases hlt : k < l.length
    · have c0 := bcell hb hbw (HT.out k hlt).1
      have c1 := bcell hb hbw (HT.out k hlt).2
      have hok := (okB_iff l k).1 (((may_iff l).1 HM.out).2 k hlt)
      have hlen := text_len l HM.out k hk
      generalize he : (l.getD k (0, 0)).1 = e at c0 hok
      generalize hc : (l.getD k (0, 0)).2 = c at c1 hok
      have HE : Hid ((l.getD k (0, 0)).1 = e) := he
      have HC : Hid ((l.getD k (0, 0)).2 = c) := hc
      obtain ⟨o1, o2, o3, o4, o5, -⟩ := hok
      clear he hc
      have hbr : b < wr.heap.size := Nat.lt_of_lt_of_le hbw hb.size
      have hsz := hb.size
      have hTb : (wr.alloc (.cells #[.int .i64 e, .int .i64 c] 36)).heap[wr.heap.size]? = some (.cells #[.int .i64 e, .int .i64 c] 36 (0, 0)) := Array.getElem?_push_size
      have hll := lead_len ((k : Int) == 0) (decide (c < 0))
      have hlb := body_len (c.natAbs : Int) e o1 o2 (by omega) (by omega)
      have hlen2 : (textTo l k ++ leadL ((k : Int) == 0) (decide (c < 0))).length + (bodyL (c.natAbs : Int) e).length ≤ 140737488355328 := by rw [List.length_append]; omega
      have hlen1 : (textTo l k).length + (leadL ((k : Int) == 0) (decide (c < 0))).length ≤ 140737488355328 := by omega
      go_wp2_with (first | (go_at_call 41; refine (lead_any _ _ _).mono ?_; rintro r w0 ⟨rfl, rfl⟩) | (go_at_call 40; refine (writeL w.heap.size w.heap.size _ _ _ (hI.alloc _) hlen1 (by simp; omega)).mono ?_; rintro r w1 ⟨rfl, hI1, hb1, hk1⟩; refine Hid.out ?_))
      refine Lib.hid ?_
      have hB1 : Below w.heap.size w w1 := (hb.alloc hsz _).trans hb1
      have hT1 := kept_term hk1 hTb (by have := hI.elim (fun x => x.lt) (fun x => x.lt); omega)
      have d0 : w1.cell? ⟨wr.heap.size, 0, none⟩ = some (.int .i64 e) := by rw [Lib.cell_of_heap hT1]; rfl
      have d1 : w1.cell? ⟨wr.heap.size, 1, none⟩ = some (.int .i64 c) := by rw [Lib.cell_of_heap hT1]; rfl
      have hlt1 : wr.heap.size < w1.heap.size := by have := hb1.size; simp at this; omega
      have hTab1 : Hid (Tab w1) := HTab.out.on hB1
      clear hT1 hTb hk1 c0 c1 hI hb1 hlen1
      go_wp2
      go_region_with (first | (go_at_call 43; refine (size_any _ _ (by omega) (by omega)).mono ?_; rintro r w2 ⟨rfl, rfl⟩) | (go_at_call 42; refine (body_any _ _ _ (by omega) (by omega) (by omega) (by omega) hTab1.out.drew).mono ?_; rintro r w3 ⟨rfl, hb3⟩) | (go_at_call 40; refine (writeL w.heap.size w.heap.size _ _ _ (builder_on (w := w1.drew) hI1 hb3) hlen2 (Nat.le_trans hB1.size hb3.size)).mono ?_; rintro r w4 ⟨rfl, hI4, hb4, -⟩))
      all_goals go_wp2
      all_goals go_roundw
      all_goals first | (simp only [intOf]; omega) | skip
      all_goals refine ⟨k + 1, by omega, by go_num, (hB1.drew.trans (hb3.mono hB1.size)).trans hb4, ?_⟩
      all_goals rw [told_step HE.out HC.out]
      all_goals exact hI4
    · obtain rfl : k = l.length := by omega
      have ht : textL l = textTo l l.length := by unfold textL; rw [if_neg h0]
      go_wp2_with (go_at_call 44; refine (Tryd.Builder_String_any_k w.heap.size w.heap.size _ _ hI hb.size).mono ?_; rintro r w1 ⟨rfl, -, hb1, -⟩)
      go_ret
      exact ⟨ret_str ht.symm, hb.trans hb1⟩
end Go.Proofs.YthbhllomikfbhaaDoor.Poly

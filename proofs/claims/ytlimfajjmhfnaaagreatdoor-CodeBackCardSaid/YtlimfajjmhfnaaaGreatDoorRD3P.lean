/- Several texts of the proof, one behind the other. -/
import Derived.RangeFuncNested
import Derived.RangeFuncBound
import Derived.RangeFuncCalls
import Derived.RangeFuncLeaves
import Derived.Shelf.Abstract
import Derived.Shelf.RegionOpen
import Derived.WalkKit
import Derived.OwnWalkIn
import Derived.TacticsInMore
import Derived.LoopNIn
import Derived.LoopIn
import Derived.Test.YtlimfajjmhfnaaaGreatDoorRD2
/- strings.FieldsFuncSeq: the parts of a text between blanks, one behind the other. -/
namespace Go.Proofs.YtlimfajjmhfnaaaGreatDoor
open Go.RowKit Go.Shelf
attribute [local go_sem] Oper.semAt_some

/-- A part of a text that is not too long. -/
abbrev Pt := { x : List UInt8 // x.length ≤ 10000 }
def encP (x : Pt) : Array Value := #[.string ⟨x.1.toArray⟩]
/-- What the parting function says of a rune. -/
def blN (c : Nat) : Bool := c == 9 || c == 10 || c == 13 || c == 32
theorem bl_rune (b : UInt8) : blN b.toNat = blB b := by
  have h : ∀ n : Nat, n < 256 → blN n = blB (UInt8.ofNat n) := by decide +kernel
  have := h b.toNat b.toNat_lt
  rw [this]
  simp

set_option maxHeartbeats 1000000 in
set_option maxRecDepth 100000 in
theorem parting_any (c : Nat) (w : World) : Calls Tryz.prog 25 #[.int .i32 (c : Nat)] w fun e w' => e = .returned (.bool (blN c)) ∧ w' = w := by
  unfold blN
  by_cases h1 : c = 9
  · subst h1
    go_enter Tryz.func25, Tryz.ntmps25
    go_wp2
    go_ret
    exact ⟨rfl, rfl⟩
  · by_cases h2 : c = 10
    · subst h2
      go_enter Tryz.func25, Tryz.ntmps25
      go_wp2
      go_ret
      exact ⟨rfl, rfl⟩
    · by_cases h3 : c = 13
      · subst h3
        go_enter Tryz.func25, Tryz.ntmps25
        go_wp2
        go_ret
        exact ⟨rfl, rfl⟩
      · have e1 : ((c : Int) == 9) = false := beq_eq_false_iff_ne.2 (by omega)
        have e2 : ((c : Int) == 10) = false := beq_eq_false_iff_ne.2 (by omega)
        have e3 : ((c : Int) == 13) = false := beq_eq_false_iff_ne.2 (by omega)
        have q1 : (c == 9) = false := beq_eq_false_iff_ne.2 h1
        have q2 : (c == 10) = false := beq_eq_false_iff_ne.2 h2
        have q3 : (c == 13) = false := beq_eq_false_iff_ne.2 h3
        rw [q1, q2, q3]
        by_cases h4 : c = 32
        · subst h4
          go_enter Tryz.func25, Tryz.ntmps25
          go_wp2
          go_ret
          exact ⟨rfl, rfl⟩
        · have e4 : ((c : Int) == 32) = false := beq_eq_false_iff_ne.2 (by omega)
          have q4 : (c == 32) = false := beq_eq_false_iff_ne.2 h4
          rw [q4]
          go_enter Tryz.func25, Tryz.ntmps25
          go_wp2
          go_ret
          exact ⟨rfl, rfl⟩

theorem fields_take (cur c t : List UInt8) (h : ∀ b ∈ c, blB b = false) : fieldsC cur (c ++ t) = fieldsC (cur ++ c) t := by
  induction c generalizing cur with
  | nil => simp
  | cons b c ih =>
    rw [List.cons_append]
    conv => lhs; unfold fieldsC
    rw [if_neg (by rw [h b List.mem_cons_self]; simp), ih _ (fun x hx => h x (List.mem_cons_of_mem _ hx))]
    simp
theorem fields_len (l : List UInt8) : ∀ cur, (fieldsC cur l).length ≤ l.length + 1 := by
  induction l with
  | nil => intro cur; unfold fieldsC; split <;> simp
  | cons b r ih =>
    intro cur
    unfold fieldsC
    split
    · split
      · have := ih []; simp; omega
      · have := ih []; simp; omega
    · have := ih (cur ++ [b]); simp; omega
theorem get_bang (l : List UInt8) (j : Nat) : (⟨l.toArray⟩ : ByteArray).get! j = l.getD j 0 := by
  show l.toArray[j]! = _
  rw [List.getElem!_toArray, List.getElem!_eq_getElem?_getD, List.getD_eq_getElem?_getD]
  rfl
theorem decode_drop (l : List UInt8) (i : Nat) : Utf8.decode ⟨(l.drop i).toArray⟩ 0 = Utf8.decode ⟨l.toArray⟩ i := by
  have hg : ∀ k, (⟨(l.drop i).toArray⟩ : ByteArray).get! (0 + k) = (⟨l.toArray⟩ : ByteArray).get! (i + k) := fun k => by
    rw [get_bang, get_bang, Nat.zero_add, List.getD_eq_getElem?_getD, List.getD_eq_getElem?_getD, List.getElem?_drop]
  have hz : ∀ k, decide (0 + k < (⟨(l.drop i).toArray⟩ : ByteArray).size) = decide (i + k < (⟨l.toArray⟩ : ByteArray).size) := fun k => by
    rw [arr_size, arr_size, List.length_drop]
    exact decide_eq_decide.2 (by omega)
  unfold Utf8.decode
  simp only [hg, hz]
theorem extract_list (l : List UInt8) (a b : Nat) : (⟨l.toArray⟩ : ByteArray).extract a b = ⟨((l.drop a).take (b - a)).toArray⟩ := by
  apply ByteArray.ext
  rw [ByteArray.data_extract]
  simp
/-- All signs of a rune that is no letter of ASCII are above 127. -/
theorem decode_cont (l : List UInt8) (i : Nat) (hi : i < l.length) (h0 : 128 ≤ (l[i]'hi).toNat) : i + (Utf8.decode ⟨l.toArray⟩ i).2 ≤ l.length ∧ ∀ j, j < (Utf8.decode ⟨l.toArray⟩ i).2 → ∃ b, l[i + j]? = some b ∧ 128 ≤ b.toNat := by
  have hz : (⟨l.toArray⟩ : ByteArray).size = l.length := arr_size l
  have hg0 : l[i]? = some (l[i]'hi) := List.getElem?_eq_getElem hi
  have ha0 : ((⟨l.toArray⟩ : ByteArray).get! (i + 0)).toNat = (l[i]'hi).toNat := by rw [get_bang, Nat.add_zero, List.getD_eq_getElem?_getD, hg0]; rfl
  have hc : ∀ k, (decide (i + k < (⟨l.toArray⟩ : ByteArray).size) && ((⟨l.toArray⟩ : ByteArray).get! (i + k)).toNat / 64 == 2) = true → i + k < l.length ∧ ∃ b, l[i + k]? = some b ∧ 128 ≤ b.toNat := fun k h => by
    rw [Bool.and_eq_true, decide_eq_true_eq, beq_iff_eq, hz, get_bang] at h
    refine ⟨h.1, l[i + k]'h.1, List.getElem?_eq_getElem h.1, ?_⟩
    rw [List.getD_eq_getElem?_getD, List.getElem?_eq_getElem h.1] at h
    simp only [Option.getD_some] at h
    omega
  have one : ∀ m : Nat, (m, 1).2 = 1 → i + 1 ≤ l.length ∧ ∀ j, j < 1 → ∃ b, l[i + j]? = some b ∧ 128 ≤ b.toNat := fun m _ => ⟨by omega, fun j hj => by
    have : j = 0 := by omega
    subst this
    exact ⟨_, hg0, h0⟩⟩
  unfold Utf8.decode
  simp only
  rw [if_neg (by rw [ha0]; omega)]
  split
  · rename_i h1
    rw [Bool.and_eq_true] at h1
    obtain ⟨c1, b1⟩ := hc 1 h1.2
    split
    · refine ⟨by omega, fun j hj => ?_⟩
      rcases (by omega : j = 0 ∨ j = 1) with rfl | rfl
      · exact ⟨_, hg0, h0⟩
      · exact b1
    · exact one 0 rfl
  · split
    · rename_i h1
      rw [Bool.and_eq_true, Bool.and_eq_true] at h1
      obtain ⟨c1, b1⟩ := hc 1 h1.1.2
      obtain ⟨c2, b2⟩ := hc 2 h1.2
      split
      · refine ⟨by omega, fun j hj => ?_⟩
        rcases (by omega : j = 0 ∨ j = 1 ∨ j = 2) with rfl | rfl | rfl
        · exact ⟨_, hg0, h0⟩
        · exact b1
        · exact b2
      · exact one 0 rfl
    · split
      · rename_i h1
        rw [Bool.and_eq_true, Bool.and_eq_true, Bool.and_eq_true] at h1
        obtain ⟨c1, b1⟩ := hc 1 h1.1.1.2
        obtain ⟨c2, b2⟩ := hc 2 h1.1.2
        obtain ⟨c3, b3⟩ := hc 3 h1.2
        split
        · refine ⟨by omega, fun j hj => ?_⟩
          rcases (by omega : j = 0 ∨ j = 1 ∨ j = 2 ∨ j = 3) with rfl | rfl | rfl | rfl
          · exact ⟨_, hg0, h0⟩
          · exact b1
          · exact b2
          · exact b3
        · exact one 0 rfl
      · exact one 0 rfl
/-- What a rune takes off a text: signs that are no blanks, or one sign. -/
theorem rune_cut (l : List UInt8) (i : Nat) (hi : i < l.length) : ∃ c k : Nat, Utf8.decode ⟨l.toArray⟩ i = (c, k) ∧ c ≤ 2147483647 ∧ 1 ≤ k ∧ i + k ≤ l.length ∧ ((∃ b, l[i]? = some b ∧ k = 1 ∧ c = b.toNat ∧ blN c = blB b) ∨ (blN c = false ∧ ∀ j, j < k → ∃ b, l[i + j]? = some b ∧ blB b = false)) := by
  have hs : i < (⟨l.toArray⟩ : ByteArray).size := by rw [arr_size]; exact hi
  have hg : (⟨l.toArray⟩ : ByteArray)[i]'hs = l[i]'hi := rfl
  by_cases hlow : (l[i]'hi).toNat < 128
  · have h := decode_ascii ⟨l.toArray⟩ i hs (by rw [hg]; exact hlow)
    rw [hg] at h
    exact ⟨_, _, h, by have := (l[i]'hi).toNat_lt; omega, by omega, by omega, Or.inl ⟨l[i]'hi, List.getElem?_eq_getElem hi, rfl, rfl, bl_rune _⟩⟩
  · have h := decode_high ⟨l.toArray⟩ i hs (by rw [hg]; omega)
    have hle := decode_le ⟨l.toArray⟩ i
    have hcont := decode_cont l i hi (by omega)
    obtain ⟨D, hD⟩ : ∃ D, Utf8.decode ⟨l.toArray⟩ i = D := ⟨_, rfl⟩
    obtain ⟨c, k⟩ := D
    rw [hD] at h hle hcont
    refine ⟨c, k, hD, hle, h.2, hcont.1, Or.inr ⟨?_, fun j hj => ?_⟩⟩
    · unfold blN
      have h1 : 128 ≤ c := h.1
      simp only [Bool.or_eq_false_iff, beq_eq_false_iff_ne]
      omega
    · obtain ⟨b, hb, hb2⟩ := hcont.2 j hj
      refine ⟨b, hb, ?_⟩
      have : blN b.toNat = false := by
        unfold blN
        simp only [Bool.or_eq_false_iff, beq_eq_false_iff_ne]
        omega
      rw [← bl_rune]; exact this
end Go.Proofs.YtlimfajjmhfnaaaGreatDoor
/- strings.FieldsFuncSeq: its iterator. -/
namespace Go.Proofs.YtlimfajjmhfnaaaGreatDoor
open Go.RowKit Go.Shelf
attribute [local go_sem] Oper.semAt_some

/-- What a round keeps: all that was there first, and the two boxes of the iterator. -/
def Kps (B bs bf : Nat) (W W' : World) : Prop := (∀ k, k < B → W'.heap[k]? = W.heap[k]?) ∧ W'.heap[bs]? = W.heap[bs]? ∧ W'.heap[bf]? = W.heap[bf]? ∧ W.heap.size ≤ W'.heap.size
theorem Kps.refl (B bs bf : Nat) (W : World) : Kps B bs bf W W := ⟨fun _ _ => rfl, rfl, rfl, Nat.le_refl _⟩
theorem Kps.trans {B bs bf : Nat} {X Y Z : World} (h : Kps B bs bf X Y) (k : Kps B bs bf Y Z) : Kps B bs bf X Z := ⟨fun j hj => (k.1 j hj).trans (h.1 j hj), k.2.1.trans h.2.1, k.2.2.1.trans h.2.2.1, Nat.le_trans h.2.2.2 k.2.2.2⟩
theorem Kps.of {B bs bf : Nat} {X Y : World} (h : Below X.heap.size X Y) (hB : B ≤ X.heap.size) (h1 : bs < X.heap.size) (h2 : bf < X.heap.size) : Kps B bs bf X Y := ⟨fun k hk => h.block k (by omega), h.block _ h1, h.block _ h2, h.size⟩
/-- Tables of unicode/utf8 that lie below B. -/
def TabsAt (B : Nat) (W : World) : Prop := Lib.Utf8Tabs 0 1 W ∧ 0 < B ∧ 1 < B
theorem TabsAt.on {B : Nat} {W W' : World} (h : TabsAt B W) (hk : ∀ k, k < B → W'.heap[k]? = W.heap[k]?) : TabsAt B W' := by
  have hc : ∀ g i, g < B → W'.cell? ⟨g, i, none⟩ = W.cell? ⟨g, i, none⟩ := fun g i hg => by simp [World.cell?, hk g hg]
  refine ⟨⟨fun c hc2 => ?_, fun i hi => ⟨?_, ?_⟩⟩, h.2⟩
  · rw [hc _ _ h.2.1]; exact h.1.1 c hc2
  · rw [hc _ _ h.2.2]; exact (h.1.2 i hi).1
  · rw [hc _ _ h.2.2]; exact (h.1.2 i hi).2

theorem chunk_of {L pre cur rest : List UInt8} {i k : Nat} (hLL : L = pre ++ cur ++ rest) (hi : i = pre.length + cur.length) (hk : i + k ≤ L.length) : ∃ ch r, rest = ch ++ r ∧ ch.length = k ∧ ∀ j, j < k → ch[j]? = L[i + j]? := by
  have hrl : k ≤ rest.length := by
    rw [hLL, List.length_append, List.length_append] at hk
    omega
  refine ⟨rest.take k, rest.drop k, (List.take_append_drop k rest).symm, by rw [List.length_take]; omega, fun j hj => ?_⟩
  rw [List.getElem?_take_of_lt hj, hLL, List.getElem?_append_right (by rw [List.length_append]; omega), List.length_append]
  congr 1
  omega
theorem chunk_bl {ch : List UInt8} {k : Nat} {L : List UInt8} {i : Nat} (hc : ch.length = k) (hj : ∀ j, j < k → ch[j]? = L[i + j]?) (h : ∀ j, j < k → ∃ b, L[i + j]? = some b ∧ blB b = false) : ∀ b ∈ ch, blB b = false := fun b hb => by
  obtain ⟨j, hj2⟩ := List.mem_iff_getElem?.1 hb
  have hlt : j < k := by rw [← hc]; exact (List.getElem?_eq_some_iff.1 hj2).1
  obtain ⟨b', h1, h2⟩ := h j hlt
  rw [hj j hlt, h1] at hj2
  rw [← Option.some.inj hj2]; exact h2
theorem fields_bl0 {b : UInt8} {r : List UInt8} (h : blB b = true) : fieldsC [] (b :: r) = fieldsC [] r := by
  conv => lhs; unfold fieldsC
  rw [if_pos h, if_pos rfl]
theorem fields_bl1 {b : UInt8} {cur r : List UInt8} (h : blB b = true) (hc : cur ≠ []) : fieldsC cur (b :: r) = cur :: fieldsC [] r := by
  conv => lhs; unfold fieldsC
  rw [if_pos h, if_neg hc]
theorem one_of {ch : List UInt8} {b : UInt8} (hc : ch.length = 1) (h : ch[0]? = some b) : ch = [b] := by
  match ch, hc with
  | [x], _ => simpa using h

set_option maxRecDepth 100000 in
set_option maxHeartbeats 8000000 in
theorem fields1_in (L : List UInt8) (hL : L.length ≤ 10000) (n : Nat) (hn : 1 ≤ n) (l B bs bf : Nat) (J Jx : List Pt → World → Prop)
    (hY : ∀ pre x W, J pre W → pre.length < (fieldsC [] L).length → YieldAt Fence.wide (n - 1) Tryz.prog l (encP x) W fun e W' =>
      (e = .returned (.bool true) ∧ J (pre ++ [x]) W' ∧ Kps B bs bf W W') ∨ (e = .returned (.bool false) ∧ Jx (pre ++ [x]) W'))
    (W : World) (hJ : AbidesFrom W.heap.size J) (hB : B ≤ W.heap.size) (hT : TabsAt B W) (hs : W.heap[bs]? = some (.cells #[.string ⟨L.toArray⟩] 9 (0, 0))) (hf : W.heap[bf]? = some (.cells #[.func (.func 25) #[] #[]] 65 (0, 0))) (h0 : J [] W) :
    CallsIn Fence.wide n Tryz.prog 42 #[.func (.yield l) #[] #[], .pointer (some ⟨bs, 0, none⟩), .pointer (some ⟨bf, 0, none⟩)] W fun e W' => (∃ v, e = .returned v) ∧
      ((∃ ys : List Pt, ys.map (fun x => x.1) = fieldsC [] L ∧ J ys W') ∨ (∃ pre : List Pt, (∃ t, pre.map (fun x => x.1) ++ t = fieldsC [] L) ∧ Jx pre W')) := by
  refine callsIn_of_wp Tryz.func42 rfl trivial ?_ rfl
  simp only [Tryz.ntmps42, List.size_toArray, List.length_cons, List.length_nil, Nat.reduceAdd, Nat.reduceSub, Array.replicate_succ, Array.replicate_zero, List.push_toArray, List.append_toArray, List.nil_append, List.cons_append]
  have HY := hid_of hY
  have HT := hid_of hT
  have HJ := hid_of hJ
  have HS := hid_of hs
  have HF := hid_of hf
  clear hY hT hJ hs hf
  gi_wp2
  gi_loopw [4, 5] (fun v4 v5 wr => ∃ (ys : List Pt) (pre cur rest : List UInt8) (st : Int) (i : Nat), v4 = .int .i64 st ∧ v5 = .int .i64 (i : Nat) ∧ Hid (i = pre.length + cur.length) ∧ i ≤ L.length ∧ Hid (cur = [] → st = -1) ∧ Hid (cur ≠ [] → st = (pre.length : Nat)) ∧ Hid (L = pre ++ cur ++ rest) ∧ Hid (ys.map (fun x => x.1) ++ fieldsC cur rest = fieldsC [] L) ∧ Hid (J ys wr) ∧ Hid (Kps B bs bf W wr)) (fun _ v5 _ => L.length - (intOf v5).toNat)
  case atStart => exact ⟨[], [], [], L, -1, 0, rfl, rfl, (rfl : 0 = ([] : List UInt8).length + ([] : List UInt8).length), by omega, (fun _ => rfl : ([] : List UInt8) = [] → (-1 : Int) = -1), (fun h => absurd rfl h : ([] : List UInt8) ≠ [] → (-1 : Int) = (([] : List UInt8).length : Nat)), (by simp : L = [] ++ [] ++ L), (by simp : [] ++ fieldsC [] L = fieldsC [] L), h0, Kps.refl _ _ _ _⟩
  case round =>
    rename World => wr
    obtain ⟨ys, pre, cur, rest, st, i, rfl, rfl, hi, hiL, hst1, hst2, hLL, hfs, hJs, hK⟩ := hrel
    have hsb : wr.heap[bs]? = some (.cells #[.string ⟨L.toArray⟩] 9 (0, 0)) := hK.out.2.1.trans HS.out
    have hfb : wr.heap[bf]? = some (.cells #[.func (.func 25) #[] #[]] 65 (0, 0)) := hK.out.2.2.1.trans HF.out
    have c0 : wr.cell? ⟨bs, 0, none⟩ = some (.string ⟨L.toArray⟩) := block_cell hsb rfl
    have c1 : wr.cell? ⟨bf, 0, none⟩ = some (.func (.func 25) #[] #[]) := block_cell hfb rfl
    have hz : (⟨L.toArray⟩ : ByteArray).size = L.length := arr_size L
    by_cases hiL2 : i < L.length
    · have hI : (i : Int) < (L.length : Int) := by omega
      have hI0 : (i : Int) ≤ (L.length : Int) := by omega
      obtain ⟨c, k, hD, hcb, hk1, hkL, hcase⟩ := rune_cut L i hiL2
      have hex : (⟨L.toArray⟩ : ByteArray).extract i L.length = ⟨(L.drop i).toArray⟩ := by
        rw [extract_list, List.take_of_length_le (by rw [List.length_drop]; omega)]
      have hgo : Lib.decodeGo ⟨(L.drop i).toArray⟩ = (c, k) := by
        unfold Lib.decodeGo
        rw [if_neg (by rw [arr_size, List.length_drop]; omega), decode_drop, hD]
      have HDR : Hid (∀ V, TabsAt B V → CallsIn Fence.wide (n - 1) Tryz.prog 43 #[.string ⟨(L.drop i).toArray⟩] V fun e w' => e = .returned (.tuple #[.int .i32 (c : Nat), .int .i64 (k : Nat)]) ∧ Below V.heap.size V w') := fun V hV => callsIn_wide.2 ((Tryz.utf8_DecodeRuneInString ⟨(L.drop i).toArray⟩ V hV.1).mono (fun e w' h => by rw [hgo] at h; exact h))
      have HPA : Hid (∀ V, CallsIn Fence.wide (n - 1) Tryz.prog 25 #[.int .i32 (c : Nat)] V fun e w' => e = .returned (.bool (blN c)) ∧ w' = V) := fun V => callsIn_wide.2 (parting_any c V)
      have HTW := hid_of (HT.out.on hK.out.1)
      have HSB := hid_of hsb
      have HFB := hid_of hfb
      have HBW : Hid (B ≤ wr.heap.size) := Nat.le_trans hB hK.out.2.2.2
      clear hsb hfb hD hgo
      gi_wp2
      refine ⟨trivial, ?_⟩
      refine CallsIn.mono (HDR.out _ HTW.out) ?_
      rintro e9 w2 ⟨rfl, hb2⟩
      have HB2 := hid_of hb2
      have c2 : w2.cell? ⟨bf, 0, none⟩ = some (.func (.func 25) #[] #[]) := block_cell ((hb2.block _ (Array.getElem?_eq_some_iff.1 HFB.out).1).trans HFB.out) rfl
      have c3 : w2.cell? ⟨bs, 0, none⟩ = some (.string ⟨L.toArray⟩) := block_cell ((hb2.block _ (Array.getElem?_eq_some_iff.1 HSB.out).1).trans HSB.out) rfl
      clear hb2
      gi_wp2
      refine ⟨trivial, ?_⟩
      refine CallsIn.mono (HPA.out _) ?_
      rintro e9 w3 ⟨rfl, e99⟩
      obtain rfl := e99.symm
      clear e99
      have HJ2 : Hid (J ys w2) := HJ.out ys wr w2 none hJs.out (grown_below HB2.out none) (fun r e => by cases e)
      have HK2 : Hid (Kps B bs bf W w2) := hK.out.trans (Kps.of HB2.out HBW.out (Array.getElem?_eq_some_iff.1 HSB.out).1 (Array.getElem?_eq_some_iff.1 HFB.out).1)
      obtain ⟨ch, r, hre, hchl, hchj⟩ := chunk_of hLL.out hi.out hkL
      have HRE := hid_of hre
      have HCL := hid_of hchl
      have HCJ := hid_of hchj
      have e5 : IntKind.i64.wrap ((i : Int) + (k : Int)) = ((i + k : Nat) : Int) := by rw [IntWalk.i64_in _ (by omega)]; omega
      clear hre hchl hchj hJs hK c0 c1 HSB HFB HTW HDR HPA HBW HB2 hex
      cases hbl : blN c with
      | true =>
        obtain ⟨b, hb1, hk, hcb2, hbb⟩ : ∃ b, L[i]? = some b ∧ k = 1 ∧ c = b.toNat ∧ blN c = blB b := by
          rcases hcase with h | ⟨h, -⟩
          · exact h
          · rw [hbl] at h; cases h
        subst hk
        have hB1 : blB b = true := by rw [← hbb]; exact hbl
        have hch : ch = [b] := one_of HCL.out (by rw [HCJ.out 0 (by omega)]; exact hb1)
        by_cases hcur : cur = []
        · have hst := hst1.out hcur
          subst hst
          have HFN : Hid (ys.map (fun x => x.1) ++ fieldsC [] r = fieldsC [] L) := (by
            have h := hfs.out
            rw [HRE.out, hch, hcur, List.singleton_append, fields_bl0 hB1] at h
            exact h : ys.map (fun x => x.1) ++ fieldsC [] r = fieldsC [] L)
          have HLN : Hid (L = (pre ++ [b]) ++ [] ++ r) := (by rw [hLL.out, hcur, HRE.out, hch]; simp : L = (pre ++ [b]) ++ [] ++ r)
          have HIN : Hid (i + 1 = (pre ++ [b]).length + ([] : List UInt8).length) := (by rw [hi.out, hcur]; simp : i + 1 = (pre ++ [b]).length + ([] : List UInt8).length)
          clear hcase hbl hbb hcb2 hb1 hch hcur hfs hLL hi hst1 hst2
          gi_wp2
          go_roundw
          case rel => exact ⟨ys, pre ++ [b], [], r, -1, i + 1, rfl, rfl, HIN, by omega, (fun _ => rfl : ([] : List UInt8) = [] → (-1 : Int) = -1), (fun h => absurd rfl h : ([] : List UInt8) ≠ [] → (-1 : Int) = ((pre ++ [b]).length : Nat)), HLN, HFN, HJ2, HK2⟩
          case measure => simp only [intOf]; omega
        · have hst := hst2.out hcur
          subst hst
          have hcl : cur.length ≤ 10000 := by
            have h := congrArg List.length hLL.out
            rw [List.length_append, List.length_append] at h
            omega
          have HFE : Hid (ys.map (fun x => x.1) ++ cur :: fieldsC [] r = fieldsC [] L) := (by
            have h := hfs.out
            rw [HRE.out, hch, List.singleton_append, fields_bl1 hB1 hcur] at h
            exact h : ys.map (fun x => x.1) ++ cur :: fieldsC [] r = fieldsC [] L)
          have hyl : ys.length < (fieldsC [] L).length := by
            rw [← HFE.out, List.length_append, List.length_map, List.length_cons]
            omega
          have HFN : Hid ((ys ++ [(⟨cur, hcl⟩ : Pt)]).map (fun x => x.1) ++ fieldsC [] r = fieldsC [] L) := (by
            rw [List.map_append, List.map_cons, List.map_nil, List.append_assoc, List.singleton_append]
            exact HFE.out : (ys ++ [(⟨cur, hcl⟩ : Pt)]).map (fun x => x.1) ++ fieldsC [] r = fieldsC [] L)
          have HLN : Hid (L = (pre ++ cur ++ [b]) ++ [] ++ r) := (by rw [hLL.out, HRE.out, hch]; simp : L = (pre ++ cur ++ [b]) ++ [] ++ r)
          have HIN : Hid (i + 1 = (pre ++ cur ++ [b]).length + ([] : List UInt8).length) := (by rw [hi.out]; simp; omega : i + 1 = (pre ++ cur ++ [b]).length + ([] : List UInt8).length)
          have hex2 : (⟨L.toArray⟩ : ByteArray).extract pre.length i = ⟨cur.toArray⟩ := by
            rw [extract_list, hi.out]
            congr 2
            rw [hLL.out, List.append_assoc, List.drop_left, Nat.add_sub_cancel_left, List.take_left]
          have hpi : (pre.length : Int) ≤ (i : Int) := by have := hi.out; omega
          have hp0 : (0 : Int) ≤ (pre.length : Int) := by omega
          obtain ⟨fn, tmps, assign, body, hy, hR⟩ := HY.out ys ⟨cur, hcl⟩ w2 HJ2.out hyl
          simp only [encP] at hy
          obtain ⟨pl, hpl⟩ : ∃ pl, pre.length = pl := ⟨_, rfl⟩
          rw [hpl] at hex2 hpi hp0 ⊢
          clear hpl hcase hbl hbb hcb2 hb1 hch hcur hfs hLL hi hst1 hst2 HFE hyl
          gi_wp2
          refine hR.mono ?_
          rintro e W3 (⟨rfl, hJ3, hk3⟩ | ⟨rfl, hJx3⟩)
          · have HJ3 := hid_of hJ3
            have HK3 := hid_of (HK2.out.trans hk3)
            clear hJ3 hk3 hy hR
            gi_wp2
            go_roundw
            case rel => exact ⟨ys ++ [⟨cur, hcl⟩], pre ++ cur ++ [b], [], r, -1, i + 1, rfl, rfl, HIN, by omega, (fun _ => rfl : ([] : List UInt8) = [] → (-1 : Int) = -1), (fun h => absurd rfl h : ([] : List UInt8) ≠ [] → (-1 : Int) = ((pre ++ cur ++ [b]).length : Nat)), HLN, HFN, HJ3, HK3⟩
            case measure => simp only [intOf]; omega
          · gi_wp2
            refine bodyPost_ret (results_none rfl _ _ _) rfl ?_
            exact ⟨⟨_, rfl⟩, .inr ⟨_, ⟨_, HFN.out⟩, hJx3⟩⟩
      | false =>
        have hnb : ∀ b ∈ ch, blB b = false := by
          rcases hcase with ⟨b, hb1, hk, hcb2, hbb⟩ | ⟨-, h⟩
          · subst hk
            have hch : ch = [b] := one_of HCL.out (by rw [HCJ.out 0 (by omega)]; exact hb1)
            intro x hx
            rw [hch] at hx
            rw [List.mem_singleton.1 hx, ← hbb]; exact hbl
          · exact chunk_bl HCL.out HCJ.out h
        have HFN : Hid (ys.map (fun x => x.1) ++ fieldsC (cur ++ ch) r = fieldsC [] L) := (by
          have h := hfs.out
          rw [HRE.out, fields_take cur ch r hnb] at h
          exact h : ys.map (fun x => x.1) ++ fieldsC (cur ++ ch) r = fieldsC [] L)
        have HLN : Hid (L = pre ++ (cur ++ ch) ++ r) := (by rw [hLL.out, HRE.out]; simp : L = pre ++ (cur ++ ch) ++ r)
        have HIN : Hid (i + k = pre.length + (cur ++ ch).length) := (by rw [hi.out, List.length_append, HCL.out]; omega : i + k = pre.length + (cur ++ ch).length)
        have hne : cur ++ ch ≠ [] := fun e => by
          have h := congrArg List.length e
          rw [List.length_append, HCL.out, List.length_nil] at h
          omega
        have HNE := hid_of hne
        clear hne hnb hcase hbl
        by_cases hcur : cur = []
        · have hst := hst1.out hcur
          subst hst
          have HIP : Hid ((i : Int) = (pre.length : Nat)) := (by rw [hi.out, hcur]; simp : (i : Int) = (pre.length : Nat))
          clear hcur hfs hLL hi hst1 hst2
          gi_wp2
          go_roundw
          case rel => exact ⟨ys, pre, cur ++ ch, r, (i : Int), i + k, rfl, by first | rfl | go_num, HIN, hkL, (fun e => absurd e HNE.out : cur ++ ch = [] → (i : Int) = -1), (fun _ => HIP.out : cur ++ ch ≠ [] → (i : Int) = (pre.length : Nat)), HLN, HFN, HJ2, HK2⟩
          case measure => simp only [intOf]; omega
        · have hst := hst2.out hcur
          subst hst
          have hp0 : ¬ (pre.length : Int) < 0 := by omega
          obtain ⟨pl, hpl⟩ : ∃ pl, pre.length = pl := ⟨_, rfl⟩
          have HPL := hid_of hpl
          rw [hpl] at hp0 ⊢
          clear hpl hcur hfs hLL hi hst1 hst2
          gi_wp2
          go_roundw
          case rel => exact ⟨ys, pre, cur ++ ch, r, (pl : Nat), i + k, rfl, by first | rfl | go_num, HIN, hkL, (fun e => absurd e HNE.out : cur ++ ch = [] → ((pl : Nat) : Int) = -1), (fun _ => by rw [HPL.out] : cur ++ ch ≠ [] → ((pl : Nat) : Int) = (pre.length : Nat)), HLN, HFN, HJ2, HK2⟩
          case measure => simp only [intOf]; omega
    · obtain rfl : i = L.length := by omega
      have hI : ¬ (L.length : Int) < (L.length : Int) := by omega
      have hrest : rest = [] := by
        have h := congrArg List.length hLL.out
        rw [List.length_append, List.length_append] at h
        have h2 := hi.out
        exact List.length_eq_zero_iff.1 (by omega)
      by_cases hcur : cur = []
      · have hst := hst1.out hcur
        subst hst
        have HFN : Hid (ys.map (fun x => x.1) = fieldsC [] L) := (by
          have h := hfs.out
          rw [hrest, hcur] at h
          simpa [fieldsC] using h : ys.map (fun x => x.1) = fieldsC [] L)
        clear hrest hcur hfs hLL hi hst1 hst2
        gi_wp2
        go_end0
        exact ⟨⟨_, rfl⟩, .inl ⟨ys, HFN.out, hJs.out⟩⟩
      · have hst := hst2.out hcur
        subst hst
        have hcl : cur.length ≤ 10000 := by
          have h := congrArg List.length hLL.out
          rw [List.length_append, List.length_append] at h
          omega
        have HFE : Hid (ys.map (fun x => x.1) ++ [cur] = fieldsC [] L) := (by
          have h := hfs.out
          rw [hrest] at h
          simpa [fieldsC, hcur] using h : ys.map (fun x => x.1) ++ [cur] = fieldsC [] L)
        have hyl : ys.length < (fieldsC [] L).length := by
          rw [← HFE.out, List.length_append, List.length_map]
          simp
        have HFN : Hid ((ys ++ [(⟨cur, hcl⟩ : Pt)]).map (fun x => x.1) = fieldsC [] L) := (by
          rw [List.map_append, List.map_cons, List.map_nil]
          exact HFE.out : (ys ++ [(⟨cur, hcl⟩ : Pt)]).map (fun x => x.1) = fieldsC [] L)
        have hex2 : (⟨L.toArray⟩ : ByteArray).extract pre.length L.length = ⟨cur.toArray⟩ := by
          rw [extract_list, hi.out]
          congr 2
          rw [hLL.out, List.append_assoc, List.drop_left, Nat.add_sub_cancel_left, List.take_left]
        have hpi : (pre.length : Int) ≤ (L.length : Int) := by have := hi.out; omega
        have hp0 : (0 : Int) ≤ (pre.length : Int) := by omega
        obtain ⟨fn, tmps, assign, body, hy, hR⟩ := HY.out ys ⟨cur, hcl⟩ wr hJs.out hyl
        simp only [encP] at hy
        obtain ⟨pl, hpl⟩ : ∃ pl, pre.length = pl := ⟨_, rfl⟩
        rw [hpl] at hex2 hpi hp0 ⊢
        clear hpl hrest hcur hfs hLL hi hst1 hst2 HFE hyl
        gi_wp2
        refine hR.mono ?_
        rintro e W3 (⟨rfl, hJ3, hk3⟩ | ⟨rfl, hJx3⟩)
        · gi_wp2
          go_end0
          exact ⟨⟨_, rfl⟩, .inl ⟨_, HFN.out, hJ3⟩⟩
        · gi_wp2
          go_end0
          exact ⟨⟨_, rfl⟩, .inr ⟨_, ⟨[], by rw [List.append_nil]; exact HFN.out⟩, hJx3⟩⟩

set_option maxHeartbeats 1000000 in
theorem fieldsSeq_in (L : List UInt8) (w : World) :
    Calls Tryz.prog 26 #[.string ⟨L.toArray⟩, .func (.func 25) #[] #[]] w fun e w' => e = .returned (.func (.func 42) #[] #[.pointer (some ⟨w.heap.size, 0, none⟩), .pointer (some ⟨w.heap.size + 1, 0, none⟩)]) ∧ w' = (w.alloc (.cells #[.string ⟨L.toArray⟩] 9)).alloc (.cells #[.func (.func 25) #[] #[]] 65) := by
  go_enter Tryz.func26, Tryz.ntmps26
  go_wp2
  go_ret
  exact ⟨rfl, rfl⟩
/-- All parts come, in their order. -/
theorem fields_stops (L : List UInt8) (hL : L.length ≤ 10000) (n : Nat) (hn : 1 ≤ n) (B bs bf : Nat) (w : World) (hB : B ≤ w.heap.size) (hT : TabsAt B w) (hs : w.heap[bs]? = some (.cells #[.string ⟨L.toArray⟩] 9 (0, 0))) (hf : w.heap[bf]? = some (.cells #[.func (.func 25) #[] #[]] 65 (0, 0))) :
    SeqStopsK Fence.wide n Tryz.prog 42 #[.pointer (some ⟨bs, 0, none⟩), .pointer (some ⟨bf, 0, none⟩)] (fun x : Pt => #[Value.string ⟨x.1.toArray⟩]) (Kps B bs bf) (fun ys => ys.map (fun x => x.1) = fieldsC [] L) (fun pre => ∃ t, pre.map (fun x => x.1) ++ t = fieldsC [] L) (fieldsC [] L).length w := fun l J Jx W hW hJ _ hY h0 =>
  fields1_in L hL n hn l B bs bf J Jx hY W hJ (Nat.le_trans hB hW.size) (hT.on (fun k hk => hW.block k (by omega))) ((hW.block _ (Array.getElem?_eq_some_iff.1 hs).1).trans hs) ((hW.block _ (Array.getElem?_eq_some_iff.1 hf).1).trans hf) h0
end Go.Proofs.YtlimfajjmhfnaaaGreatDoor

/- The walk of poly.parsedTerm. -/
import Derived.Test.YthbhllomikfbhaaDoorPR1
import Derived.Deep.Cut
import Derived.Lib.Hide
namespace Go.Proofs.YthbhllomikfbhaaDoor.Poly
open Go.RowKit

theorem block_at {w : World} {g i : Nat} {cs : Array Value} {t : TypeId} {fz : Nat × Nat} {v : Value} (h : w.heap[g]? = some (.cells cs t fz)) (hv : cs[i]? = some v) : w.cell? ⟨g, i, none⟩ = some v := by
  simp [World.cell?, h, hv]
theorem fresh_at {w : World} {g i : Nat} {cs : Array Value} {t : TypeId} (h : w.heap[g]? = some (.cells cs t (0, 0))) : w.frozen? ⟨g, i, none⟩ = false := by
  simp [World.frozen?, h]
theorem st2_block {w : World} {z : Nat} {a b c d : Value} {t : TypeId} {fz : Nat × Nat} (h : w.heap[z]? = some (.cells #[c, d] t fz)) : ((w.setCell ⟨z, 0, none⟩ a).setCell ⟨z, 1, none⟩ b).heap[z]? = some (.cells #[a, b] t fz) := by
  have hz : z < w.heap.size := by
    rcases Nat.lt_or_ge z w.heap.size with h1 | h1
    · exact h1
    · rw [Array.getElem?_eq_none h1] at h; cases h
  simp [World.setCell, Array.getElem?_modify, h]
theorem alloc_at {w : World} {o : Obj} {k : Nat} (h : k = w.heap.size) : (w.alloc o).heap[k]? = some o := by
  rw [h]
  exact Array.getElem?_push_size
/-- A box for a term, made at the start and left by what came behind it. -/
theorem box_term {w W : World} (hb : Below (w.heap.size + 1) (w.alloc (.cells #[.int .i64 0, .int .i64 0] 36)) W) : W.heap[w.heap.size]? = some (.cells #[.int .i64 0, .int .i64 0] 36 (0, 0)) := by
  rw [hb.block w.heap.size (by omega)]
  exact alloc_at rfl
theorem res_pt {W : World} {g : Nat} {a b : Value} {p : Bool} {tm : Array Value} (h : W.heap[g]? = some (.cells #[a, b] 36 (0, 0))) (h2 : tm[2]? = some (.pointer (some ⟨g, 0, none⟩))) (h3 : tm[3]? = some (.bool p)) : (results Tryd.f47 tm).run Tryd.prog W = .ok (.tuple #[.agg #[a, b], .bool p]) W := by
  have e0 : W.cell? ⟨g, 0, none⟩ = some a := block_at h rfl
  have e1 : W.cell? ⟨g, 1, none⟩ = some b := block_at h rfl
  simp [results, Tryd.results47, go_sem, h2, h3, e0, e1]
theorem below_box {w W : World} {o : Obj} {a b : Value} (hb : Below (w.heap.size + 1) (w.alloc o) W) : Below w.heap.size w ((W.setCell ⟨w.heap.size, 0, none⟩ a).setCell ⟨w.heap.size, 1, none⟩ b) := by
  have h0 : Below w.heap.size w (w.alloc o) := (Below.refl _ _).alloc (Nat.le_refl _) _
  have h1 : Below w.heap.size w W := h0.trans (hb.mono (by omega))
  exact (h1.setCell (p := ⟨w.heap.size, 0, none⟩) (Nat.le_refl _) a).setCell (p := ⟨w.heap.size, 1, none⟩) (Nat.le_refl _) b

theorem cutStar (l : List UInt8) (w : World) (hl : l.length ≤ 10000) (hV : RdVars w) :
    Calls Tryd.prog 63 #[.string ⟨l.toArray⟩, .string ⟨#[42]⟩] w fun e w' => e = .returned (.tuple #[.string ⟨(Lib.cut l [42]).1.toArray⟩, .string ⟨(Lib.cut l [42]).2.1.toArray⟩, .bool (Lib.cut l [42]).2.2]) ∧ Below w.heap.size w w' := by
  obtain ⟨⟨m, hm⟩, -, -⟩ := hV
  refine (Tryd.strings_Cut ⟨l.toArray⟩ ⟨#[42]⟩ m w (by rw [arr_size]; omega) hm).mono ?_
  rintro e w' ⟨rfl, n, rfl⟩
  exact ⟨by simp, belowN (Below.refl _ _) n⟩
theorem hasPre (l p : List UInt8) (w : World) :
    Calls Tryd.prog 61 #[.string ⟨l.toArray⟩, .string ⟨p.toArray⟩] w fun e w' => e = .returned (.bool (Lib.hasPrefix l p)) ∧ w' = w := by
  have := Tryd.strings_HasPrefix ⟨l.toArray⟩ ⟨p.toArray⟩ w
  simpa using this
theorem cut_len (l : List UInt8) : (Lib.cut l [42]).1.length ≤ l.length ∧ (Lib.cut l [42]).2.1.length ≤ l.length := by
  unfold Lib.cut
  split
  · exact ⟨by rw [List.length_take]; omega, by rw [List.length_drop]; omega⟩
  · exact ⟨Nat.le_refl _, by simp⟩
/-- What poly.parsedTerm answers. -/
def PtOut (o : Option (Int × Int)) (e : Ending) : Prop := match o with
  | some t => e = .returned (.tuple #[.agg #[.int .i64 t.1, .int .i64 t.2], .bool true])
  | none => ∃ x y : Int, e = .returned (.tuple #[.agg #[.int .i64 x, .int .i64 y], .bool false])

set_option maxHeartbeats 4000000 in
set_option maxRecDepth 100000 in
theorem parsedTerm_any (s : List UInt8) (w : World) (hl : s.length ≤ 10000) (hV : RdVars w) :
    Calls Tryd.prog 47 #[.string ⟨s.toArray⟩] w fun e w' => PtOut (termP s) e ∧ Below w.heap.size w w' := by
  obtain ⟨w0, hw0⟩ : ∃ w0, w.alloc (.cells #[.int .i64 0, .int .i64 0] 36) = w0 := ⟨_, rfl⟩
  have hz0 : w0.heap.size = w.heap.size + 1 := by rw [← hw0]; simp
  have hB0 : Below w.heap.size w w0 := by rw [← hw0]; exact (Below.refl _ _).alloc (Nat.le_refl _) _
  have HV0 := hid_of (hV.on hB0)
  have HUP : Hid (∀ W, Below w0.heap.size w0 W → Below (w.heap.size + 1) (w.alloc (.cells #[.int .i64 0, .int .i64 0] 36)) W) := by
    intro W h; rw [hz0] at h; rw [hw0]; exact h
  have HP := hid_of (hasPre s [116] w0)
  have hsz0 : w.heap.size + 1 ≤ w0.heap.size := by omega
  unfold termP
  by_cases h1 : Lib.hasPrefix s [116] = true
  · rw [if_pos h1]
    rw [h1] at HP
    cases hp : powP s with
    | some n =>
      have HPW := hid_of (parsedPower_yes s n w0 hl hp)
      show Calls _ _ _ _ fun e w' => PtOut (some (n, 1)) e ∧ _
      clear hp h1 hl hz0 hV hB0
      go_enter Tryd.func47, Tryd.ntmps47
      go_wp2_with (first
        | (go_at_call 61; refine HP.out.mono ?_; rintro e w' ⟨rfl, e2⟩; obtain rfl := e2.symm)
        | (go_at_call 62; refine HPW.out.mono ?_; rintro e W1 ⟨rfl, hb1⟩; refine Hid.out ?_))
      refine Lib.hid ?_
      have hbx := hid_of (HUP.out _ (hb1))
      have hbk := box_term hbx.out
      have c0 := block_at (i := 0) hbk rfl
      have c1 := block_at (i := 1) hbk rfl
      have f0 := fresh_at (i := 0) hbk
      have f1 := fresh_at (i := 1) hbk
      have HBK := hid_of hbk
      clear hbk
      go_wp2
      exact bodyPost_ret (res_pt (st2_block HBK.out) rfl rfl) rfl ⟨rfl, below_box hbx.out⟩
    | none =>
      have HPW := hid_of (parsedPower_no s w0 hl hp HV0.out)
      show Calls _ _ _ _ fun e w' => PtOut none e ∧ _
      clear hp h1 hl hz0 hV hB0
      go_enter Tryd.func47, Tryd.ntmps47
      go_wp2_with (first
        | (go_at_call 61; refine HP.out.mono ?_; rintro e w' ⟨rfl, e2⟩; obtain rfl := e2.symm)
        | (go_at_call 62; refine HPW.out.mono ?_; rintro e W1 ⟨n, rfl, hb1⟩; refine Hid.out ?_))
      refine Lib.hid ?_
      have hbx := hid_of (HUP.out _ (hb1))
      have hbk := box_term hbx.out
      have c0 := block_at (i := 0) hbk rfl
      have c1 := block_at (i := 1) hbk rfl
      have f0 := fresh_at (i := 0) hbk
      have f1 := fresh_at (i := 1) hbk
      have HBK := hid_of hbk
      clear hbk
      go_wp2
      exact bodyPost_ret (res_pt (st2_block HBK.out) rfl rfl) rfl ⟨⟨_, _, rfl⟩, below_box hbx.out⟩
  · have h2 : Lib.hasPrefix s [116] = false := by simpa using h1
    rw [if_neg h1]
    rw [h2] at HP
    have HCU := hid_of (cutStar s w0 hl HV0.out)
    have HL := hid_of (cut_len s)
    rcases hc : Lib.cut s [42] with ⟨x, y, p⟩
    rw [hc] at HCU HL
    simp only at HCU HL ⊢
    have hx : x.length ≤ 10000 := Nat.le_trans HL.out.1 hl
    have hy : y.length ≤ 10000 := Nat.le_trans HL.out.2 hl
    cases hn : numA x with
    | none =>
      have HA : Hid (∀ W, Below w0.heap.size w0 W → Calls Tryd.prog 64 #[.string ⟨x.toArray⟩] W fun e w' => ∃ (v : Int) (N : Nat), e = .returned (.tuple #[.int .i64 v, .iface 126 (.pointer (some ⟨N, 0, none⟩))]) ∧ Below W.heap.size W w') := fun W hW => atoi_no x W hx hn (HV0.out.on hW)
      show Calls _ _ _ _ fun e w' => PtOut none e ∧ _
      clear hn hc h1 h2 hl hz0 hV hB0 hx hy
      go_enter Tryd.func47, Tryd.ntmps47
      go_wp2_with (first
        | (go_at_call 61; refine HP.out.mono ?_; rintro e w' ⟨rfl, e2⟩; obtain rfl := e2.symm)
        | (go_at_call 63; refine HCU.out.mono ?_; rintro e W1 ⟨rfl, hb1⟩)
        | (go_at_call 64; refine (HA.out _ hb1).mono ?_; rintro e W2 ⟨v, N, rfl, hb2⟩; refine Hid.out ?_))
      refine Lib.hid ?_
      have hbx := hid_of (HUP.out _ (hb1.trans (hb2.mono hb1.size)))
      have hbk := box_term hbx.out
      have c0 := block_at (i := 0) hbk rfl
      have c1 := block_at (i := 1) hbk rfl
      have f0 := fresh_at (i := 0) hbk
      have f1 := fresh_at (i := 1) hbk
      have HBK := hid_of hbk
      clear hbk
      go_wp2
      exact bodyPost_ret (res_pt (st2_block HBK.out) rfl rfl) rfl ⟨⟨_, _, rfl⟩, below_box hbx.out⟩
    | some c =>
      have HA : Hid (∀ W, Calls Tryd.prog 64 #[.string ⟨x.toArray⟩] W fun e w' => e = .returned (.tuple #[.int .i64 c, .nilIface]) ∧ Below W.heap.size W w') := fun W => atoi_yes x c W hx hn
      cases p with
      | false =>
        show Calls _ _ _ _ fun e w' => PtOut (some (0, c)) e ∧ _
        clear hn hc h1 h2 hl hz0 hV hB0 hx hy
        go_enter Tryd.func47, Tryd.ntmps47
        go_wp2_with (first
          | (go_at_call 61; refine HP.out.mono ?_; rintro e w' ⟨rfl, e2⟩; obtain rfl := e2.symm)
          | (go_at_call 63; refine HCU.out.mono ?_; rintro e W1 ⟨rfl, hb1⟩)
          | (go_at_call 64; refine (HA.out _).mono ?_; rintro e W2 ⟨rfl, hb2⟩; refine Hid.out ?_))
        refine Lib.hid ?_
        have hbx := hid_of (HUP.out _ (hb1.trans (hb2.mono hb1.size)))
        have hbk := box_term hbx.out
        have c0 := block_at (i := 0) hbk rfl
        have c1 := block_at (i := 1) hbk rfl
        have f0 := fresh_at (i := 0) hbk
        have f1 := fresh_at (i := 1) hbk
        have HBK := hid_of hbk
        clear hbk
        go_wp2
        exact bodyPost_ret (res_pt (st2_block HBK.out) rfl rfl) rfl ⟨rfl, below_box hbx.out⟩
      | true =>
        cases hp : powP y with
        | none =>
          have HPW : Hid (∀ W, Below w0.heap.size w0 W → Calls Tryd.prog 62 #[.string ⟨y.toArray⟩] W fun e w' => ∃ n : Int, e = .returned (.tuple #[.int .i64 n, .bool false]) ∧ Below W.heap.size W w') := fun W hW => parsedPower_no y W hy hp (HV0.out.on hW)
          show Calls _ _ _ _ fun e w' => PtOut none e ∧ _
          clear hn hc h1 h2 hl hz0 hV hB0 hx hy hp
          go_enter Tryd.func47, Tryd.ntmps47
          go_wp2_with (first
            | (go_at_call 61; refine HP.out.mono ?_; rintro e w' ⟨rfl, e2⟩; obtain rfl := e2.symm)
            | (go_at_call 63; refine HCU.out.mono ?_; rintro e W1 ⟨rfl, hb1⟩)
            | (go_at_call 64; refine (HA.out _).mono ?_; rintro e W2 ⟨rfl, hb2⟩; have hb3 := hb1.trans (hb2.mono hb1.size))
            | (go_at_call 62; refine (HPW.out _ hb3).mono ?_; rintro e W3 ⟨n, rfl, hb4⟩; refine Hid.out ?_))
          refine Lib.hid ?_
          have hbx := hid_of (HUP.out _ (hb3.trans (hb4.mono hb3.size)))
          have hbk := box_term hbx.out
          have c0 := block_at (i := 0) hbk rfl
          have c1 := block_at (i := 1) hbk rfl
          have f0 := fresh_at (i := 0) hbk
          have f1 := fresh_at (i := 1) hbk
          have HBK := hid_of hbk
          clear hbk
          go_wp2
          exact bodyPost_ret (res_pt (st2_block HBK.out) rfl rfl) rfl ⟨⟨_, _, rfl⟩, below_box hbx.out⟩
        | some n =>
          have HPW : Hid (∀ W, Calls Tryd.prog 62 #[.string ⟨y.toArray⟩] W fun e w' => e = .returned (.tuple #[.int .i64 n, .bool true]) ∧ Below W.heap.size W w') := fun W => parsedPower_yes y n W hy hp
          show Calls _ _ _ _ fun e w' => PtOut (some (n, c)) e ∧ _
          clear hn hc h1 h2 hl hz0 hV hB0 hx hy hp
          go_enter Tryd.func47, Tryd.ntmps47
          go_wp2_with (first
            | (go_at_call 61; refine HP.out.mono ?_; rintro e w' ⟨rfl, e2⟩; obtain rfl := e2.symm)
            | (go_at_call 63; refine HCU.out.mono ?_; rintro e W1 ⟨rfl, hb1⟩)
            | (go_at_call 64; refine (HA.out _).mono ?_; rintro e W2 ⟨rfl, hb2⟩; have hb3 := hb1.trans (hb2.mono hb1.size))
            | (go_at_call 62; refine (HPW.out _).mono ?_; rintro e W3 ⟨rfl, hb4⟩; refine Hid.out ?_))
          refine Lib.hid ?_
          have hbx := hid_of (HUP.out _ (hb3.trans (hb4.mono hb3.size)))
          have hbk := box_term hbx.out
          have c0 := block_at (i := 0) hbk rfl
          have c1 := block_at (i := 1) hbk rfl
          have f0 := fresh_at (i := 0) hbk
          have f1 := fresh_at (i := 1) hbk
          have HBK := hid_of hbk
          clear hbk
          go_wp2
          exact bodyPost_ret (res_pt (st2_block HBK.out) rfl rfl) rfl ⟨rfl, below_box hbx.out⟩
end Go.Proofs.YthbhllomikfbhaaDoor.Poly

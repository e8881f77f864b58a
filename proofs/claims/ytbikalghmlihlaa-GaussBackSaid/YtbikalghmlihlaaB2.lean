/- The walk of gauss.refusal. -/
import Derived.Test.YtbikalghmlihlaaB1
import Derived.ChangeKeysEq
namespace Go.Proofs.Ytbikalghmlihlaa
open Go.RowKit

def sizeV (n : Nat) (loops : Int) : Bool := decide (n ≤ 16) && decide (0 ≤ loops) && decide (loops ≤ 16)
def onceV (n : Nat) (V : Vi) : Bool := (List.range n).all fun c => decide (cntV V c false = 1) && decide (cntV V c true = 1)
def fullV (L : List Vi) : Bool := L.all fun V => decide (0 < V.length)
theorem onceV_no {n : Nat} {V : Vi} (c : Nat) (h : c < n) (h2 : ¬ (cntV V c false = 1 ∧ cntV V c true = 1)) : onceV n V = false := by
  unfold onceV
  rw [List.all_eq_false]
  exact ⟨c, List.mem_range.2 h, by simpa using h2⟩
theorem onceV_yes {n : Nat} {V : Vi} (h : ∀ c, c < n → cntV V c false = 1 ∧ cntV V c true = 1) : onceV n V = true := by
  unfold onceV
  rw [List.all_eq_true]
  intro c hc
  have := h c (List.mem_range.1 hc)
  simp [this]
theorem fullV_no {L : List Vi} (j : Nat) (h : j < L.length) (h2 : (L.getD j []).length = 0) : fullV L = false := by
  unfold fullV
  rw [List.all_eq_false]
  refine ⟨L.getD j [], ?_, by simp only [decide_eq_true_eq]; omega⟩
  rw [List.getD_eq_getElem?_getD, List.getElem?_eq_getElem h]; exact List.getElem_mem h
theorem fullV_yes {L : List Vi} (h : ∀ j, j < L.length → 0 < (L.getD j []).length) : fullV L = true := by
  unfold fullV
  rw [List.all_eq_true]
  intro V hV
  obtain ⟨j, hj, e⟩ := List.mem_iff_getElem.1 hV
  have := h j hj
  rw [List.getD_eq_getElem?_getD, List.getElem?_eq_getElem hj] at this
  simp only [Option.getD_some, e] at this
  simpa using this
/-- What is wrong with visits: the error's number. -/
def refN (n : Nat) (L : List Vi) (loops : Int) : Int :=
  if sizeV n loops = false then 2 else if okL n L = false then 3 else if onceV n L.flatten = false then 10 else if fullV L = false then 7 else if (n : Int) + loops = 0 then 7 else 0
theorem infoInt' : (Try.prog.info? 3).map (fun i => (i.zero, i.size, i.bytes)) = some (some (.int .i64 0), 1, 8) := by kernel_rfl
theorem eqTally (a b c d : Int) (w : World) : (Op.equalIn 10000 187 (.agg #[.int .i64 a, .int .i64 b]) (.agg #[.int .i64 c, .int .i64 d])).run Try.prog w = .ok (a == c && b == d) w := by
  have u3 := Try.underlying3
  have a3 := Try.isAgg3
  have z3 := Try.sizeOf3
  have hc : Try.prog.cellsOf 3 = 1 := by kernel_rfl
  obtain ⟨i, hi, -, -, -⟩ := info_parts infoInt'
  rw [show (10000 : Nat) = 9999 + 1 from rfl, run_equalIn_array w 9999 _ _ Try.underlying187 hi, hc]
  simp only [List.range, List.range.loop, Op.eqItems]
  go_simp
  by_cases h1 : a = c <;> by_cases h2 : b = d <;> simp [h1, h2]

set_option maxHeartbeats 8000000 in
set_option maxRecDepth 100000 in
theorem refusal_any (a : Option Addr) (cap : Nat) (L : List Vi) (ap : Option Addr) (n cp : Nat) (loops : Int) (w : World) (hn : n ≤ 140737488355328) (hlens : LensOk L) (hL : VRows w w.heap.size (.slice a L.length cap) L) :
    Calls Try.prog 68 #[.slice a L.length cap, .slice ap n cp, .int .i64 loops] w fun e w' => e = .returned (.int .i64 (refN n L loops)) ∧ Below w.heap.size w w' := by
  have HL : Hid (VRows w w.heap.size (.slice a L.length cap) L) := hL
  have HLN : Hid (LensOk L) := hlens
  have hl1 := hlens.1
  obtain ⟨r, hr⟩ : ∃ r, refN n L loops = r := ⟨_, rfl⟩
  have HR : Hid (refN n L loops = r) := hr
  rw [hr]
  clear hL hlens hr
  by_cases h16 : n ≤ 16
  case neg =>
    have hr2 : r = 2 := by rw [← HR.out]; unfold refN; rw [if_pos (by simp [sizeV]; omega)]
    subst hr2
    have hd : decide ((16 : Int) < (n : Int)) = true := by simp; omega
    have hd2 : decide (16 < n) = true := by simp; omega
    go_enter Try.func68, Try.ntmps68
    go_wp2
    go_ret
    exact ⟨rfl, Below.refl _ _⟩
  have hd : decide ((16 : Int) < (n : Int)) = false := by simp; omega
  have hd2 : decide (16 < n) = false := by simp; omega
  by_cases hneg : loops < 0
  · have hr2 : r = 2 := by rw [← HR.out]; unfold refN; rw [if_pos (by simp [sizeV]; omega)]
    subst hr2
    have hd3 : decide (loops < 0) = true := by simp [hneg]
    go_enter Try.func68, Try.ntmps68
    go_wp2
    go_ret
    exact ⟨rfl, Below.refl _ _⟩
  have hd3 : decide (loops < 0) = false := by simp; omega
  by_cases hbig : 16 < loops
  · have hr2 : r = 2 := by rw [← HR.out]; unfold refN; rw [if_pos (by simp [sizeV]; omega)]
    subst hr2
    have hd4 : decide (16 < loops) = true := by simp [hbig]
    go_enter Try.func68, Try.ntmps68
    go_wp2
    go_ret
    exact ⟨rfl, Below.refl _ _⟩
  have hd4 : decide (16 < loops) = false := by simp; omega
  have HSZ : Hid (sizeV n loops = true) := (by simp [sizeV]; omega : sizeV n loops = true)
  go_enter Try.func68, Try.ntmps68
  go_wp2_with (go_at_call 129; refine (counted_any a cap L n _ h16 HLN.out HL.out).mono ?_; rintro e9 w1 (⟨hok, rfl, hb1⟩ | ⟨hok, g, rfl, hrow, hb1⟩))
  · have hr2 : r = 3 := by rw [← HR.out]; unfold refN; rw [if_neg (by rw [HSZ.out]; simp), if_pos hok]
    subst hr2
    go_ret
    exact ⟨rfl, hb1⟩
  · have HOK : Hid (okL n L = true) := hok
    have HB1 : Hid (Below w.heap.size w w1) := hb1
    have HRW : Hid (w1.ownsRow w.heap.size 187 2 (.slice (some ⟨g, 0, none⟩) n n) n (intsV (mapR (2 * n) (cntJ L.flatten)))) := hrow
    have hs1 := hb1.size
    have hgl := (hrow.lt g rfl).2
    clear hok hrow hb1
    go_loopw [35] (fun v35 wr => ∃ c : Nat, c ≤ n ∧ v35 = .int .i64 (c : Nat) ∧ Hid (∀ q, q < c → cntV L.flatten q false = 1 ∧ cntV L.flatten q true = 1) ∧ Hid (Below w1.heap.size w1 wr)) (fun v35 _ => n - (intOf v35).toNat)
    case atStart => exact ⟨0, Nat.zero_le _, rfl, (fun q hq => absurd hq (Nat.not_lt_zero _) : ∀ q, q < 0 → cntV L.flatten q false = 1 ∧ cntV L.flatten q true = 1), Below.refl _ _⟩
    case round =>
      rename World => W1
      obtain ⟨c, hcn, rfl, hq, hb⟩ := hrel
      have hsW := hb.out.size
      have HBW : Hid (Below w.heap.size w W1) := HB1.out.trans (hb.out.mono hs1)
      by_cases hcl : c < n
      · have e0 := HRW.out.cellAt (c * 2) (by omega)
        have e1 := HRW.out.cellAt (c * 2 + 1) (by omega)
        rw [intsV, List.getElem?_map, mapR_get _ _ _ (by omega)] at e0 e1
        have e2 : cntJ L.flatten (c * 2) = cntV L.flatten c false := by
          unfold cntJ
          rw [show c * 2 / 2 = c by omega, show c * 2 % 2 = 0 by omega]; rfl
        have e3 : cntJ L.flatten (c * 2 + 1) = cntV L.flatten c true := by
          unfold cntJ
          rw [show (c * 2 + 1) / 2 = c by omega, show (c * 2 + 1) % 2 = 1 by omega]; rfl
        rw [e2] at e0
        rw [e3] at e1
        simp only [Option.map_some] at e0 e1
        obtain ⟨x, hx⟩ : ∃ x, cntV L.flatten c false = x := ⟨_, rfl⟩
        obtain ⟨y, hy⟩ : ∃ y, cntV L.flatten c true = y := ⟨_, rfl⟩
        have HX : Hid (cntV L.flatten c false = x) := hx
        have HY : Hid (cntV L.flatten c true = y) := hy
        rw [hx] at e0
        rw [hy] at e1
        have c0 : W1.cell? ⟨g, c * 2, none⟩ = some (.int .i64 x) := bcell hb.out hgl e0
        have c1 : W1.cell? ⟨g, c * 2 + 1, none⟩ = some (.int .i64 y) := bcell hb.out hgl e1
        have hgW : g < W1.heap.size := by omega
        clear e0 e1 e2 e3 hx hy
        by_cases hone : x = 1 ∧ y = 1
        · obtain ⟨rfl, rfl⟩ := hone
          have hcmp := fun w => eqTally 1 1 1 1 w
          go_wp2
          go_roundw
          case rel =>
            refine ⟨c + 1, by omega, by go_num, (fun q hq2 => ?_ : ∀ q, q < c + 1 → cntV L.flatten q false = 1 ∧ cntV L.flatten q true = 1), hb.out.alloc (by omega) _⟩
            by_cases e : q = c
            · subst e; exact ⟨HX.out, HY.out⟩
            · exact hq.out q (by omega)
          case measure => simp only [intOf]; omega
        · have hr2 : r = 10 := by
            rw [← HR.out]; unfold refN
            rw [if_neg (by rw [HSZ.out]; simp), if_neg (by rw [HOK.out]; simp), if_pos (onceV_no c hcl (by rw [HX.out, HY.out]; exact hone))]
          subst hr2
          have hbx : ((x == 1) && (y == 1)) = false := by
            by_cases h1 : x = 1
            · have : y ≠ 1 := fun h => hone ⟨h1, h⟩
              simp [this]
            · simp [h1]
          have hcmp := fun w => eqTally x y 1 1 w
          rw [hbx] at hcmp
          go_wp2
          go_ret
          exact ⟨rfl, HBW.out.alloc (by have := HBW.out.size; omega) _⟩
      · obtain rfl : c = n := by omega
        have HON : Hid (onceV c L.flatten = true) := onceV_yes hq.out
        clear hq
        go_wp2
        go_loopw [45] (fun v45 ws => ∃ j : Nat, j ≤ L.length ∧ v45 = .int .i64 (j : Nat) ∧ Hid (∀ q, q < j → 0 < (L.getD q []).length) ∧ ws = W1) (fun v45 _ => L.length - (intOf v45).toNat)
        case atStart => exact ⟨0, Nat.zero_le _, rfl, (fun q hq => absurd hq (Nat.not_lt_zero _) : ∀ q, q < 0 → 0 < (L.getD q []).length), rfl⟩
        case round =>
          obtain ⟨j, hjn, rfl, hq, rfl⟩ := hrel
          by_cases hjl : j < L.length
          · obtain ⟨a', cap', ea, f⟩ := HL.out
            injection ea with ea1 ea2 ea3
            obtain ⟨b, off, eb, hbw, hc⟩ := f (by omega)
            obtain rfl : a = some ⟨b, off, none⟩ := ea1.trans eb
            obtain ⟨u, hu, ar, cr, rfl, -⟩ := hc j hjl
            rename World => W2
            have c0 : W2.cell? ⟨b, off + j, none⟩ = some (.slice ar (L.getD j []).length cr) := bcell HBW.out hbw hu
            have hbW : b < W2.heap.size := by have := HBW.out.size; omega
            have hji : (j : Int) < (L.length : Int) := by omega
            obtain ⟨m, hm⟩ : ∃ m, (L.getD j []).length = m := ⟨_, rfl⟩
            have HMM : Hid ((L.getD j []).length = m) := hm
            rw [hm] at c0
            clear f hc hu ea1 ea2 ea3 eb hm
            by_cases hm0 : m = 0
            · subst hm0
              have hr2 : r = 7 := by
                rw [← HR.out]; unfold refN
                rw [if_neg (by rw [HSZ.out]; simp), if_neg (by rw [HOK.out]; simp), if_neg (by rw [HON.out]; simp), if_pos (fullV_no j hjl HMM.out)]
              subst hr2
              go_wp2
              go_ret
              exact ⟨rfl, HBW.out⟩
            · have hme : ((m : Int) == 0) = false := by simp; omega
              have hme2 : (m == 0) = false := by simp; omega
              go_wp2
              go_roundw
              case rel =>
                refine ⟨j + 1, by omega, by go_num, (fun q hq2 => ?_ : ∀ q, q < j + 1 → 0 < (L.getD q []).length), by first | rfl | trivial⟩
                by_cases e : q = j
                · subst e; rw [HMM.out]; omega
                · exact hq.out q (by omega)
              case measure => simp only [intOf]; omega
          · obtain rfl : j = L.length := by omega
            have HFU : Hid (fullV L = true) := fullV_yes hq.out
            have hw1 : IntKind.i64.wrap ((c : Int) + loops) = (c : Int) + loops := IntWalk.i64_in _ (by omega)
            by_cases hz : (c : Int) + loops = 0
            · have hr2 : r = 7 := by
                rw [← HR.out]; unfold refN
                rw [if_neg (by rw [HSZ.out]; simp), if_neg (by rw [HOK.out]; simp), if_neg (by rw [HON.out]; simp), if_neg (by rw [HFU.out]; simp), if_pos hz]
              subst hr2
              have hz1 : ((c : Int) + loops == 0) = true := by simp [hz]
              go_wp2
              go_ret
              exact ⟨rfl, HBW.out⟩
            · have hr2 : r = 0 := by
                rw [← HR.out]; unfold refN
                rw [if_neg (by rw [HSZ.out]; simp), if_neg (by rw [HOK.out]; simp), if_neg (by rw [HON.out]; simp), if_neg (by rw [HFU.out]; simp), if_neg hz]
              subst hr2
              have hz1 : ((c : Int) + loops == 0) = false := by simp [hz]
              go_wp2
              go_ret
              exact ⟨rfl, HBW.out⟩
end Go.Proofs.Ytbikalghmlihlaa

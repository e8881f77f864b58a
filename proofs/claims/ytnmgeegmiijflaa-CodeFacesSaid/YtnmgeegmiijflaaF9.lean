/- Two rows of rings are held against one another. -/
import Derived.Test.YtnmgeegmiijflaaF3
import Derived.Test.YtnmgeegmiijflaaW7
namespace Go.Proofs.Ytnmgeegmiijflaa
open Go.RowKit

theorem DartsOwn.vs {w : World} {B : Nat} {v : Value} {L : List (List Nat)} (h : DartsOwn w B v L) : VsAt w v (L.map dd) := by
  obtain ⟨ys, h1, h2, h3⟩ := h
  refine ⟨ys, by simp [h1], slots_of_own h2, fun j hj => ?_⟩
  have hj' : j < L.length := by simpa using hj
  have e : (L.map dd).getD j [] = dd (L.getD j []) := by simp [List.getD_eq_getElem?_getD, hj']
  rw [e]
  have := h3 j hj'
  rw [← dd_len (L.getD j [])] at this
  exact vs_own this
theorem eqDart (a c : Int) (b d : Bool) (w : World) : (Op.equalIn 10000 59 (.agg #[.int .i64 a, .bool b]) (.agg #[.int .i64 c, .bool d])).run Try.prog w = .ok (a == c && b == d) w := by
  have u3 := Try.underlying3
  have a3 := Try.isAgg3
  have z3 := Try.sizeOf3
  have u4 := Try.underlying4
  have a4 := Try.isAgg4
  have z4 := Try.sizeOf4
  have hS : Try.prog.underlying 59 = some (.struct (Try.prog.fieldsOf 59)) := by kernel_rfl
  have hp : Try.prog.stoodInHeld 59 = false := by kernel_rfl
  rw [show (10000 : Nat) = 9999 + 1 from rfl, run_equalIn_agg w 9999 59 _ _ hS hp]
  simp only [Program.fieldsOf, Try.underlying59]
  go_simp
  by_cases h1 : a = c <;> by_cases h2 : b = d <;> simp [h1, h2]
theorem neqDart (a : Int) (b : Bool) (w : World) : (binOp .neq 59 (.agg #[.int .i64 a, .bool b]) (.agg #[.int .i64 a, .bool b])).run Try.prog w = .ok (.bool false) w := by
  rw [run_neq_struct, eqDart]
  simp [Result.andThen]


set_option maxHeartbeats 4000000 in
set_option maxRecDepth 100000 in
theorem sameDarts_eq (v1 v2 : Value) (L : List (List (Nat × Bool))) (w : World) (hl : L.length ≤ 100) (hr : ∀ j, j < L.length → (L.getD j []).length ≤ 100) (h1 : VsAt w v1 L) (h2 : VsAt w v2 L) :
    Calls Try.prog 19 #[v1, v2] w fun e w' => e = .returned (.bool true) ∧ Below w.heap.size w w' := by
  obtain ⟨ys1, hy1, ⟨a1, c1, rfl, g1⟩, hv1⟩ := h1
  obtain ⟨ys2, hy2, ⟨a2, c2, rfl, g2⟩, hv2⟩ := h2
  rw [hy1] at g1 ⊢
  rw [hy2] at g2 ⊢
  have HG1 : Hid (0 < L.length → ∃ b off, a1 = some ⟨b, off, none⟩ ∧ b < w.heap.size ∧ ∀ i, i < L.length → w.cell? ⟨b, off + i, none⟩ = some (ys1.getD i (.bool false))) := g1
  have HG2 : Hid (0 < L.length → ∃ b off, a2 = some ⟨b, off, none⟩ ∧ b < w.heap.size ∧ ∀ i, i < L.length → w.cell? ⟨b, off + i, none⟩ = some (ys2.getD i (.bool false))) := g2
  have HV1 : Hid (∀ j, j < L.length → VS w (ys1.getD j (.bool false)) (L.getD j [])) := hv1
  have HV2 : Hid (∀ j, j < L.length → VS w (ys2.getD j (.bool false)) (L.getD j [])) := hv2
  have HR : Hid (∀ j, j < L.length → (L.getD j []).length ≤ 100) := hr
  clear g1 g2 hv1 hv2 hr
  have hne : ((L.length : Int) != (L.length : Int)) = false := by simp
  go_enter Try.func19, Try.ntmps19
  go_wp2
  go_loopw [5] (fun v5 wr => ∃ k : Nat, k ≤ L.length ∧ v5 = .int .i64 k ∧ Below w.heap.size w wr) (fun v5 _ => L.length - (intOf v5).toNat)
  case atStart => exact ⟨0, Nat.zero_le _, rfl, Below.refl _ _⟩
  case round =>
    rename World => W1
    obtain ⟨k, hk, rfl, hb⟩ := hrel
    by_cases hlt : k < L.length
    · obtain ⟨b1, o1, rfl, hb1, q1⟩ := HG1.out (by omega)
      obtain ⟨b2, o2, rfl, hb2, q2⟩ := HG2.out (by omega)
      obtain ⟨r1, d1, e1, g1⟩ := HV1.out k hlt
      obtain ⟨r2, d2, e2, g2⟩ := HV2.out k hlt
      have hlr := HR.out k hlt
      have C1 : Hid (w.cell? ⟨b1, o1 + k, none⟩ = some (.slice r1 (L.getD k []).length d1)) := (by rw [← e1]; exact q1 k hlt : w.cell? ⟨b1, o1 + k, none⟩ = some (.slice r1 (L.getD k []).length d1))
      have C2 : Hid (w.cell? ⟨b2, o2 + k, none⟩ = some (.slice r2 (L.getD k []).length d2)) := (by rw [← e2]; exact q2 k hlt : w.cell? ⟨b2, o2 + k, none⟩ = some (.slice r2 (L.getD k []).length d2))
      clear q1 q2 e1 e2
      generalize L.getD k [] = V at C1 C2 g1 g2 hlr
      have G1 : Hid (0 < V.length → ∃ b off, r1 = some ⟨b, off, none⟩ ∧ b < w.heap.size ∧ ∀ i, i < V.length → w.cell? ⟨b, off + i * 2, none⟩ = some (.int .i64 ((V.getD i (0, false)).1 : Nat)) ∧ w.cell? ⟨b, off + i * 2 + 1, none⟩ = some (.bool (V.getD i (0, false)).2)) := g1
      have G2 : Hid (0 < V.length → ∃ b off, r2 = some ⟨b, off, none⟩ ∧ b < w.heap.size ∧ ∀ i, i < V.length → w.cell? ⟨b, off + i * 2, none⟩ = some (.int .i64 ((V.getD i (0, false)).1 : Nat)) ∧ w.cell? ⟨b, off + i * 2 + 1, none⟩ = some (.bool (V.getD i (0, false)).2)) := g2
      clear g1 g2
      have p1 := bcell hb hb1 C1.out
      have p2 := bcell hb hb2 C2.out
      have hszW := hb.size
      have hb1w : b1 < W1.heap.size := by omega
      have hb2w : b2 < W1.heap.size := by omega
      have hnv : ((V.length : Int) != (V.length : Int)) = false := by simp
      go_wp2
      go_quiet (fail)
      go_wp2
      go_loopw [6] (fun v6 ws => ∃ i : Nat, i ≤ V.length ∧ v6 = .int .i64 i ∧ Below w.heap.size w ws) (fun v6 _ => V.length - (intOf v6).toNat)
      case atStart => exact ⟨0, Nat.zero_le _, rfl, below_drewN hb _⟩
      case round =>
        clear hb p1 p2
        rename World => W3
        obtain ⟨i, hi, rfl, hb⟩ := hrel
        have p1 := bcell hb hb1 C1.out
        have p2 := bcell hb hb2 C2.out
        have hszY := hb.size
        have hb1y : b1 < W3.heap.size := by omega
        have hb2y : b2 < W3.heap.size := by omega
        by_cases hil : i < V.length
        · obtain ⟨x1, y1, rfl, hx1, t1⟩ := G1.out (by omega)
          obtain ⟨x2, y2, rfl, hx2, t2⟩ := G2.out (by omega)
          have m1 := bcell hb hx1 (t1 i hil).1
          have m2 := bcell hb hx1 (t1 i hil).2
          have m3 := bcell hb hx2 (t2 i hil).1
          have m4 := bcell hb hx2 (t2 i hil).2
          clear t1 t2
          generalize (V.getD i (0, false)).1 = z at m1 m3
          generalize (V.getD i (0, false)).2 = zb at m2 m4
          have hcmp := neqDart (z : Nat) zb
          have hx1y : x1 < W3.heap.size := by omega
          have hx2y : x2 < W3.heap.size := by omega
          go_wp2
          go_quiet (fail)
          go_wp2
          go_roundw
          case rel => exact ⟨i + 1, by omega, by go_num, below_drewN hb _⟩
          case measure => simp [intOf]; omega
        · obtain rfl : i = V.length := by omega
          go_wp2
          go_roundw
          case rel => exact ⟨k + 1, by omega, by go_num, hb⟩
          case measure => simp [intOf]; omega
    · obtain rfl : k = L.length := by omega
      go_wp2
      go_ret
      exact ⟨rfl, hb⟩
end Go.Proofs.Ytnmgeegmiijflaa

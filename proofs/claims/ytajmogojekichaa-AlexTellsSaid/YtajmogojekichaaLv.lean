/- The walk of ref.level. -/
import Derived.Test.YtajmogojekichaaF3P
import Derived.Test.YtajmogojekichaaO0
namespace Go.Proofs.Ytajmogojekichaa
open Go.RowKit

set_option maxHeartbeats 4000000 in
set_option maxRecDepth 100000 in
theorem level_any (B g n c x y : Nat) (L : List Nat) (w : World) (hx : x < n) (hy : y < n) (hL : w.ownsRow B 3 1 (.slice (some ⟨g, 0, none⟩) n c) n (nats L)) :
    Calls Try.prog 105 #[.slice (some ⟨g, 0, none⟩) n c, .int .i64 x, .int .i64 y] w fun e w' => e = .returned (.tuple #[]) ∧ w'.ownsRow B 3 1 (.slice (some ⟨g, 0, none⟩) n c) n (nats (lev L x y)) ∧ w.grownBy w' (some g) := by
  have HR : Hid (w.ownsRow B 3 1 (.slice (some ⟨g, 0, none⟩) n c) n (nats L)) := hL
  have hll : L.length = n := by have h := hL.1; rw [nats_len] at h; omega
  have e0 : w.cell? ⟨g, x, none⟩ = some (.int .i64 (L.getD x 0 : Nat)) := by
    rw [hL.cellAt x (by omega)]; exact nats_get _ x (by omega)
  have e1 : w.cell? ⟨g, y, none⟩ = some (.int .i64 (L.getD y 0 : Nat)) := by
    rw [hL.cellAt y (by omega)]; exact nats_get _ y (by omega)
  have hgl := (hL.lt g rfl).2
  clear hL hll
  go_enter Try.func105, Try.ntmps105
  by_cases hlt : L.getD x 0 < L.getD y 0
  · have hdx : decide (((L.getD x 0 : Nat) : Int) < ((L.getD y 0 : Nat) : Int)) = true := by simp only [decide_eq_true_eq]; omega
    have hdx2 : decide (L.getD x 0 < L.getD y 0) = true := by simp only [decide_eq_true_eq]; omega
    have hst := HR.out.stored y (.int .i64 (L.getD x 0 : Nat))
    rw [nats_set] at hst
    have HLV : Hid (lev L x y = L.set y (L.getD x 0)) := (by unfold lev; rw [if_pos hlt] : lev L x y = L.set y (L.getD x 0))
    have HST : Hid ((w.setCell ⟨g, y, none⟩ (.int .i64 (L.getD x 0 : Nat))).drew.ownsRow B 3 1 (.slice (some ⟨g, 0, none⟩) n c) n (nats (lev L x y)) ∧ w.grownBy (w.setCell ⟨g, y, none⟩ (.int .i64 (L.getD x 0 : Nat))).drew (some g)) := (by rw [HLV.out]; exact ⟨own_any hst.1 (grown_below ((Below.refl _ _).drew) none), ⟨hst.2.os, hst.2.tape, hst.2.output, hst.2.size, hst.2.block⟩⟩ : (w.setCell ⟨g, y, none⟩ (.int .i64 (L.getD x 0 : Nat))).drew.ownsRow B 3 1 (.slice (some ⟨g, 0, none⟩) n c) n (nats (lev L x y)) ∧ w.grownBy (w.setCell ⟨g, y, none⟩ (.int .i64 (L.getD x 0 : Nat))).drew (some g))
    have z0 : w.frozen? ⟨g, y, none⟩ = false := HR.out.frozenAt y
    clear hst
    go_wp2
    go_region_held3 (fun w' => w'.cell? ⟨g, x, none⟩ = some (.int .i64 (L.getD x 0 : Nat)) ∧ w'.cell? ⟨g, y, none⟩ = some (.int .i64 (L.getD y 0 : Nat))) (exact ⟨e0, e1⟩) (fail)
    go_wp2
    exact bodyPost_end (v := .tuple #[]) (by simp [results, Try.results105]) rfl ⟨rfl, HST.out⟩
  · have hdx : decide (((L.getD x 0 : Nat) : Int) < ((L.getD y 0 : Nat) : Int)) = false := by simp only [decide_eq_false_iff_not]; omega
    have hdx2 : decide (L.getD x 0 < L.getD y 0) = false := by simp only [decide_eq_false_iff_not]; omega
    have hst := HR.out.stored x (.int .i64 (L.getD y 0 : Nat))
    rw [nats_set] at hst
    have HLV : Hid (lev L x y = L.set x (L.getD y 0)) := (by unfold lev; rw [if_neg hlt] : lev L x y = L.set x (L.getD y 0))
    have HST : Hid ((w.setCell ⟨g, x, none⟩ (.int .i64 (L.getD y 0 : Nat))).drew.ownsRow B 3 1 (.slice (some ⟨g, 0, none⟩) n c) n (nats (lev L x y)) ∧ w.grownBy (w.setCell ⟨g, x, none⟩ (.int .i64 (L.getD y 0 : Nat))).drew (some g)) := (by rw [HLV.out]; exact ⟨own_any hst.1 (grown_below ((Below.refl _ _).drew) none), ⟨hst.2.os, hst.2.tape, hst.2.output, hst.2.size, hst.2.block⟩⟩ : (w.setCell ⟨g, x, none⟩ (.int .i64 (L.getD y 0 : Nat))).drew.ownsRow B 3 1 (.slice (some ⟨g, 0, none⟩) n c) n (nats (lev L x y)) ∧ w.grownBy (w.setCell ⟨g, x, none⟩ (.int .i64 (L.getD y 0 : Nat))).drew (some g))
    have z0 : w.frozen? ⟨g, x, none⟩ = false := HR.out.frozenAt x
    clear hst
    go_wp2
    go_region_held3 (fun w' => w'.cell? ⟨g, x, none⟩ = some (.int .i64 (L.getD x 0 : Nat)) ∧ w'.cell? ⟨g, y, none⟩ = some (.int .i64 (L.getD y 0 : Nat))) (exact ⟨e0, e1⟩) (fail)
    go_wp2
    exact bodyPost_end (v := .tuple #[]) (by simp [results, Try.results105]) rfl ⟨rfl, HST.out⟩
end Go.Proofs.Ytajmogojekichaa

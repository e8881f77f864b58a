/- The walk of wind.partsOf. -/
import Derived.Test.YtmggackacaobjaaIn
namespace Go.Proofs.Ytmggackacaobjaa
open Go.RowKit

set_option maxHeartbeats 4000000 in
set_option maxRecDepth 100000 in
theorem partsOf_any (vc vl vF : Value) (gT cT n : Nat) (a : Option Addr) (cap : Nat) (L : List (List Nat)) (w : World) (hn : n ≤ 16) (hL : NatsRd w w.heap.size (.slice a L.length cap) L) (hl : L.length ≤ 100) (hr : ∀ j, j < L.length → (L.getD j []).length ≤ 100 ∧ ∀ k, k < (L.getD j []).length → (L.getD j []).getD k 0 ≤ 2 * n) (h1 : ∀ a, a ∈ L.flatten → L.flatten.count a = 1) :
    Calls Try.prog 139 #[.agg #[vc, vl, vF, .slice (some ⟨gT, 0, none⟩) (2 * n + 1) cT], .slice a L.length cap] w fun e w' => ∃ g, e = .returned (.slice (some ⟨g, 0, none⟩) (2 * n + 1) (2 * n + 1)) ∧ w'.ownsRow w.heap.size 3 1 (.slice (some ⟨g, 0, none⟩) (2 * n + 1) (2 * n + 1)) (2 * n + 1) (intsV (mapI (2 * n + 1) (paint L L.length 0))) ∧ Below w.heap.size w w' := by
  obtain ⟨i2, hk, hx0, hx1, hx2⟩ := info_parts infoInt
  have HL : Hid (NatsRd w w.heap.size (.slice a L.length cap) L) := hL
  have HR : Hid (∀ j, j < L.length → (L.getD j []).length ≤ 100 ∧ ∀ k, k < (L.getD j []).length → (L.getD j []).getD k 0 ≤ 2 * n) := hr
  have H1 : Hid (∀ a, a ∈ L.flatten → L.flatten.count a = 1) := h1
  clear hL hr h1
  go_enter Try.func139, Try.ntmps139
  go_wp2_with (first | (at_make; refine wpList_make_full _ rfl _ _ 37 rfl w.heap.size 3 i2 (.int .i64 0) 1 Try.underlying37 hk hx0 hx1 .i64 .i64 _ _ (2 * n + 1) rfl rfl rfl rfl (by rw [hx2]; omega) (by unfold maxLen; omega) (by simp) ?_; intro w2 hrow2 hg2; refine Hid.out ?_))
  refine Lib.hid ?_
  rw [made_zero] at hrow2
  have hg0 : (w.alloc (.cells #[vc, vl, vF, .slice (some ⟨gT, 0, none⟩) (2 * n + 1) cT] 87)).heap.size = w.heap.size + 1 := by simp
  rw [hg0] at hrow2
  obtain ⟨g, hg⟩ : ∃ g, w.heap.size + 1 = g := ⟨_, rfl⟩
  rw [hg] at hrow2 ⊢
  have hgw : w.heap.size < g := by omega
  have HP0 : Hid (w2.ownsRow w.heap.size 3 1 (.slice (some ⟨g, 0, none⟩) (2 * n + 1) (2 * n + 1)) (2 * n + 1) (intsV (mapI (2 * n + 1) (paint L 0 0))) ∧ Below w.heap.size w w2) := ⟨by rw [mapI_zero _ _ (fun j _ => by unfold paint; rw [upN_zero, if_neg (by simp)])]; exact hrow2, ((Below.refl _ _).alloc (Nat.le_refl _) _).grown hg2 (by simp) (fun k hk => by cases hk)⟩
  clear hrow2 hg2 hg hg0
  go_wp2
  go_loopw [16] (fun v16 wr => ∃ i : Nat, i ≤ L.length ∧ v16 = .int .i64 (i : Nat) ∧ Hid (wr.ownsRow w.heap.size 3 1 (.slice (some ⟨g, 0, none⟩) (2 * n + 1) (2 * n + 1)) (2 * n + 1) (intsV (mapI (2 * n + 1) (paint L i 0))) ∧ Below w.heap.size w wr)) (fun v16 _ => L.length - (intOf v16).toNat)
  case atStart => exact ⟨0, Nat.zero_le _, rfl, HP0.out⟩
  case round =>
    clear HP0
    rename World => W1
    obtain ⟨i, hin, rfl, hpa⟩ := hrel
    by_cases hil : i < L.length
    · obtain ⟨b, off, ar, cr, ea, hbw, cw, hrd⟩ := HL.out.row i hil
      have c0 := bcell hpa.out.2 hbw cw
      obtain rfl := ea
      obtain ⟨hr1, hr2⟩ := HR.out i hil
      have HRO : Hid (upN L i (L.getD i []).length = upN L (i + 1) 0) := upN_row L i hil
      have HNX : Hid (∀ k, k < (L.getD i []).length → (mapI (2 * n + 1) (paint L i k)).set ((L.getD i []).getD k 0) (i : Int) = mapI (2 * n + 1) (paint L i (k + 1))) := fun k hk => paint_next L (2 * n + 1) i k H1.out hil hk
      have HRD : Hid (∀ W, Below w.heap.size w W → RdAt W w.heap.size 1 (.slice ar (L.getD i []).length cr) (L.getD i []).length (nats (L.getD i []))) := fun W hb => hrd.on hb
      obtain ⟨V, hV⟩ : ∃ V, L.getD i [] = V := ⟨_, rfl⟩
      rw [hV] at c0 hr1 hr2 HRO HNX HRD
      have HR2 : Hid (∀ k, k < V.length → V.getD k 0 ≤ 2 * n) := hr2
      have hbW : b < W1.heap.size := by have := hpa.out.2.size; omega
      have hii : (i : Int) < (L.length : Int) := by omega
      have HPA : Hid (W1.ownsRow w.heap.size 3 1 (.slice (some ⟨g, 0, none⟩) (2 * n + 1) (2 * n + 1)) (2 * n + 1) (intsV (mapI (2 * n + 1) (paint L i 0))) ∧ Below w.heap.size w W1) := hpa
      clear hrd hV hr2 hpa cw
      go_wp2
      go_loopw [23] (fun v23 ws => ∃ k : Nat, k ≤ V.length ∧ v23 = .int .i64 (k : Nat) ∧ Hid (ws.ownsRow w.heap.size 3 1 (.slice (some ⟨g, 0, none⟩) (2 * n + 1) (2 * n + 1)) (2 * n + 1) (intsV (mapI (2 * n + 1) (paint L i k))) ∧ Below w.heap.size w ws)) (fun v23 _ => V.length - (intOf v23).toNat)
      case atStart => exact ⟨0, Nat.zero_le _, rfl, HPA.out⟩
      case round =>
        clear HPA c0
        rename World => W2
        obtain ⟨k, hkn, rfl, hpa⟩ := hrel
        by_cases hkl : k < V.length
        · obtain ⟨br, offr, er, hbr, d0⟩ := (HRD.out W2 hpa.out.2).nat k hkl
          obtain rfl := er
          have hx := HR2.out k hkl
          have HNK := HNX.out k hkl
          obtain ⟨x, hx'⟩ : ∃ x, V.getD k 0 = x := ⟨_, rfl⟩
          rw [hx'] at d0 hx HNK
          have HNKX : Hid ((mapI (2 * n + 1) (paint L i k)).set x (i : Int) = mapI (2 * n + 1) (paint L i (k + 1))) := HNK
          have hst := hpa.out.1.stored x (.int .i64 (i : Nat))
          rw [intsV_set, HNK] at hst
          have HST : Hid ((W2.setCell ⟨g, x, none⟩ (.int .i64 (i : Nat))).ownsRow w.heap.size 3 1 (.slice (some ⟨g, 0, none⟩) (2 * n + 1) (2 * n + 1)) (2 * n + 1) (intsV (mapI (2 * n + 1) (paint L i (k + 1)))) ∧ Below w.heap.size w (W2.setCell ⟨g, x, none⟩ (.int .i64 (i : Nat)))) := ⟨hst.1, hpa.out.2.grown hst.2 hpa.out.2.size (fun q hq => by have : g = q := Option.some.inj hq; omega)⟩
          have e0 := hpa.out.1.cellAt x (by omega)
          rw [intsV_get _ x (by rw [mapI_len]; omega)] at e0
          generalize (mapI (2 * n + 1) (paint L i k)).getD x 0 = y at e0
          have z0 := hpa.out.1.frozenAt x
          have hlg := (hpa.out.1.lt g rfl).2
          have hbX : br < W2.heap.size := by have := hpa.out.2.size; omega
          have hki : (k : Int) < (V.length : Int) := by omega
          have hxi : (x : Int) < 2 * (n : Int) + 1 := by omega
          clear HNK hst hx' hpa
          go_wp2
          go_roundw
          case rel => exact ⟨k + 1, by omega, by go_num, HST.out⟩
          case measure => simp only [intOf]; omega
        · obtain rfl : k = V.length := by omega
          go_wp2
          go_roundw
          case rel =>
            refine ⟨i + 1, by omega, by go_num, ?_⟩
            have e : paint L (i + 1) 0 = paint L i V.length := by funext a; unfold paint; rw [HRO.out]
            rw [e]
            exact hpa.out
          case measure => simp only [intOf]; omega
    · obtain rfl : i = L.length := by omega
      go_wp2
      go_ret
      exact ⟨g, rfl, hpa.out.1, hpa.out.2⟩
end Go.Proofs.Ytmggackacaobjaa

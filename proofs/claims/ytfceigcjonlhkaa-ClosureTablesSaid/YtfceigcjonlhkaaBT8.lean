/- Burau's tables: the walk of closure.table.told. -/
import Derived.Test.YtfceigcjonlhkaaBT7
import Derived.Test.YtfceigcjonlhkaaW3
import Derived.Deep.Cut
import Derived.Deep.RegionHeldLaw
namespace Go.Proofs.Ytfceigcjonlhkaa.Poly
open Go.RowKit Go.Maps

theorem inForm_wk (v : Value) (n K : Nat) (f : Int → Int) (w : World) (hK : K ≤ 1000) (h : WkV w w.heap.size v n K f) :
    Calls Try.prog 130 #[v] w fun e w' => ∃ u, e = .returned u ∧ PV w' u f ∧ Below w.heap.size w w' := by
  rcases h with ⟨rfl, h0⟩ | ⟨b, D, rfl, hlt, ho, hk, hc⟩
  · refine (inForm_nil w).mono fun e w' ⟨h1, h2⟩ => ⟨_, h1, ?_, h2⟩
    rw [show f = fun _ => 0 from funext h0]
    exact pv_nil _
  · refine (inForm_keys b n D w ho (fun left acc hC => Nat.le_trans (coll_lenB hC K hk) (by omega))).mono fun e w' ⟨u, l, h1, h2, h3, h4⟩ => ⟨u, h1, ⟨l, PolyC.ofRow h2, canon_congr h3 hc⟩, h4⟩
/-- What is told: rows below r, and of row r the first k places. -/
def fs (F : Nat → Nat → Int → Int) (r k : Nat) : Nat → Nat → Int → Int := fun a c => if a < r ∨ (a = r ∧ c < k) then F a c else fun _ => 0

set_option maxHeartbeats 8000000 in
set_option maxRecDepth 100000 in
theorem told_any (B g n N K : Nat) (gs : Nat → Nat) (V : Nat → Nat → Value) (F : Nat → Nat → Int → Int) (w : World) (hn : n ≤ 6) (hK : K ≤ 1000) (hT : Bu B g n N K gs n V F w) :
    Calls Try.prog 81 #[.slice (some ⟨g, 0, none⟩) n n] w fun e w' => ∃ (q : Nat) (qs : Nat → Nat) (U : Nat → Nat → Value), e = .returned (.slice (some ⟨q, 0, none⟩) n n) ∧ Td w.heap.size q n qs n U F w' ∧ Below w.heap.size w w' := by
  obtain ⟨i0, hi, hz0, hz1, hz2⟩ := info_parts infoTss
  obtain ⟨i1, hk, hx0, hx1, hx2⟩ := info_parts infoTs
  have HT := hid_mkP hT
  have HIF : Hid (∀ a c W, a < n → c < n → Below w.heap.size w W → Calls Try.prog 130 #[V a c] W fun e w' => ∃ u, e = .returned u ∧ PV w' u (F a c) ∧ Below W.heap.size W w') := fun a c W ha hc hW => inForm_wk (V a c) N K (F a c) W hK (((hT.vals a c ha hc).on hW).mono hW.size (Nat.le_refl _) (Nat.le_refl _))
  have lg0 := hT.lt.1.2
  clear hT
  go_enter Try.func81, Try.ntmps81
  go_wp2_with (first | (at_make; refine wpList_make_full _ rfl _ _ 70 rfl w.heap.size 74 i0 (.slice none 0 0) 1 Try.underlying70 hi hz0 hz1 .i64 .i64 _ _ n rfl rfl rfl rfl (by rw [hz2]; omega) (by unfold maxLen; omega) (by simp) ?_; intro w1 hrow1 hg1; refine Hid.out ?_))
  refine Lib.hid ?_
  rw [made_nilsT n n] at hrow1
  obtain ⟨q, hq⟩ : ∃ q, w.heap.size = q := ⟨_, rfl⟩
  have HQ := hid_mkP hq
  have HB1 : Hid (Below w.heap.size w w1) := (Below.refl _ _).grown hg1 (Nat.le_refl _) (fun q hq => by cases hq)
  have HT1 : Hid (Td w.heap.size q n (fun _ => 0) 0 (fun _ _ => .slice none 0 0) F w1) := ⟨(by rw [← hq]; exact hrow1 : w1.ownsRow w.heap.size 74 1 (.slice (some ⟨q, 0, none⟩) n n) n (outT n n (fun _ => 0) 0)), fun i hi => absurd hi (Nat.not_lt_zero _), fun i j hi => absurd hi (Nat.not_lt_zero _), fun i j hi => absurd hi (Nat.not_lt_zero _)⟩
  rw [hq]
  clear hrow1 hg1 hq
  go_wp2
  go_loopw [13] (fun v13 wr => ∃ (r : Nat) (qs : Nat → Nat) (U : Nat → Nat → Value), r ≤ n ∧ v13 = .int .i64 (r : Nat) ∧ Hid (Td w.heap.size q n qs r U F wr) ∧ Hid (Below w.heap.size w wr)) (fun v13 _ => n - (intOf v13).toNat)
  case atStart => exact ⟨0, fun _ => 0, fun _ _ => .slice none 0 0, Nat.zero_le _, rfl, HT1.out, HB1.out⟩
  case round =>
    clear HT1 HB1
    rename World => W1
    obtain ⟨r, qs, U, hrn, rfl, hT, hB⟩ := hrel
    by_cases hrl : r < n
    · have hrI : (r : Int) < (n : Int) := by omega
      have o0 := (HT.out.any hB.out).cellO r hrl hrl
      have lg := (HT.out.any hB.out).lt.1.2
      obtain ⟨gr, hgr⟩ : ∃ z, gs r = z := ⟨_, rfl⟩
      have HGR := hid_mkP hgr
      rw [hgr] at o0
      clear hgr
      go_wp2_with (first | (at_make; refine wpList_make_full _ rfl _ _ 74 rfl W1.heap.size 76 i1 (.slice none 0 0) 1 Try.underlying74 hk hx0 hx1 .i64 .i64 _ _ n rfl rfl rfl rfl (by rw [hx2]; omega) (by unfold maxLen; omega) (by simp) ?_; intro w2 hrow2 hg2; refine Hid.out ?_))
      refine Lib.hid ?_
      rw [made_nilS n] at hrow2
      obtain ⟨p, hp⟩ : ∃ p, W1.heap.size = p := ⟨_, rfl⟩
      have hb2 : Below W1.heap.size W1 w2 := (Below.refl _ _).grown hg2 (Nat.le_refl _) (fun q hq => by cases hq)
      obtain ⟨hm1, hm2⟩ := hT.out.more hb2 (own_low (by rw [hp] at hrow2; exact hrow2) (by have := hB.out.size; omega)) (by omega)
      have e0 : w2.cell? ⟨q, r, none⟩ = some (.slice none 0 0) := by
        rw [(hT.out.any hb2).outer.cellAt r (by omega), outT_get _ _ _ _ _ hrl, if_neg (Nat.lt_irrefl _)]
      have f0 := (hT.out.any hb2).outer.frozenAt r
      have lq := (hT.out.any hb2).lt.1.2
      obtain ⟨qs2, hqs2⟩ : ∃ z : Nat → Nat, z = fun i => if i = r then p else qs i := ⟨_, rfl⟩
      have HQR : Hid (qs2 r = p) := (by rw [hqs2]; exact if_pos rfl : qs2 r = p)
      obtain ⟨X, hX⟩ : ∃ X, X = w2.setCell ⟨q, r, none⟩ (.slice (some ⟨p, 0, none⟩) n n) := ⟨_, rfl⟩
      have HXX := hid_mkP hX
      rw [← hqs2, ← hX] at hm1
      have HTX : Hid (Td w.heap.size q n qs2 (r + 1) (fun i j => if i = r then .slice none 0 0 else U i j) (fs F r 0) X) := hm1.congr (fun _ _ _ _ => rfl) (fun a c ha hc => by
        unfold fs
        by_cases e : a = r
        · rw [if_neg (by omega), if_pos e]
        · rw [if_pos (by omega), if_neg e]) (fun _ _ => rfl)
      have HBX : Hid (Below w.heap.size w X) := (by rw [hX]; exact (hB.out.trans (hb2.mono hB.out.size)).grown hm2 (Nat.le_trans hB.out.size hb2.size) (fun z hz => by have := Option.some.inj hz; have := hT.out.lt.1.1; omega) : Below w.heap.size w X)
      rw [hp]
      clear hrow2 hg2 hb2 hm1 hm2 hp hqs2 hX hT hB
      go_upto_region 6 with (fail)
      rw [← HXX.out]
      clear e0 f0 lq o0 lg
      go_wp2
      go_loopw [26] (fun v26 ws => ∃ (k : Nat) (U2 : Nat → Nat → Value), k ≤ n ∧ v26 = .int .i64 (k : Nat) ∧ Hid (Td w.heap.size q n qs2 (r + 1) U2 (fs F r k) ws) ∧ Hid (Below w.heap.size w ws)) (fun v26 _ => n - (intOf v26).toNat)
      case atStart => exact ⟨0, _, Nat.zero_le _, rfl, HTX.out, HBX.out⟩
      case round =>
        clear HTX HBX
        rename World => W2
        obtain ⟨k, U2, hkn, rfl, hT, hB⟩ := hrel
        by_cases hkl : k < n
        · have hkI : (k : Int) < (n : Int) := by omega
          have c0 := (HT.out.any hB.out).cellR r k hrl hkl
          have lr := ((HT.out.any hB.out).lt.2 r hrl).2
          rw [HGR.out] at c0 lr
          have HIK := hid_mkP (fun W hW => HIF.out r k W hrl hkl hW)
          generalize V r k = v0 at c0 HIK
          have HTT := hid_mkP hT.out
          have HBB := hid_mkP hB.out
          have o1 := hT.out.cellO r (Nat.lt_succ_self r) hrl
          rw [HQR.out] at o1
          have lo := hT.out.lt.1.2
          have HKP : Hid (∀ W, Below W2.heap.size W2 W → W.cell? ⟨q, r, none⟩ = some (.slice (some ⟨p, 0, none⟩) n n)) := fun W hW => bcell hW lo o1
          have HD : Hid (Below W2.heap.size W2 W2.drew) := below_drewN (Below.refl _ _) 1
          clear hT hB
          go_wp2
          refine wp_region_held_drew (S := fun w' => w'.cell? ⟨q, r, none⟩ = some (.slice (some ⟨p, 0, none⟩) n n)) (by kernel_rfl) (HKP.out _ HD.out) (fun hHeld => ?_)
          refine wpAnyH_take (i := 0) (v := ?vv0t) rfl (by kernel_rfl) (by kernel_rfl) (by kernel_rfl) (fun _ _ _ h => h) (Or.inl ⟨by rfl, ?yy0t⟩) (by assumption) ?rr0t
          case yy0t => (intro w hSw; (try dsimp only at hSw); go_simp; (try with_reducible rfl))
          try simp only [Act.put]
          refine wpAnyH_take (i := 1) (v := ?vv1t) rfl (by kernel_rfl) (by kernel_rfl) (by kernel_rfl) (fun _ _ _ h => h) (Or.inl ⟨by rfl, ?yy1t⟩) (by assumption) ?rr1t
          case yy1t => (intro w hSw; (try dsimp only at hSw); go_simp; (try with_reducible rfl))
          try simp only [Act.put]
          refine wpAnyH_take (i := 2) (v := ?vv2t) rfl (by kernel_rfl) (by kernel_rfl) (by kernel_rfl) (fun _ _ _ h => h) (Or.inl ⟨by rfl, ?yy2t⟩) (by assumption) ?rr2t
          case yy2t => (intro w hSw; (try dsimp only at hSw); go_simp; (try with_reducible rfl))
          try simp only [Act.put]
          refine wpAnyH_take (i := 3) (v := ?vv3t) rfl (by kernel_rfl) (by kernel_rfl) (by kernel_rfl) (fun _ _ _ h => h) (Or.inl ⟨by rfl, ?yy3t⟩) (by assumption) ?rr3t
          case yy3t => (intro w hSw; (try dsimp only at hSw); go_simp; (try with_reducible rfl))
          try simp only [Act.put]
          refine wpAnyH_take (i := 4) (v := ?vv4t) rfl (by kernel_rfl) (by kernel_rfl) (by kernel_rfl) (fun _ _ _ h => h) (Or.inl ⟨by rfl, ?yy4t⟩) (by assumption) ?rr4t
          case yy4t => (intro w hSw; (try dsimp only at hSw); go_simp; (try with_reducible rfl))
          try simp only [Act.put]
          refine wpAnyH_take (i := 5) (v := ?vv5t) rfl (by kernel_rfl) (by kernel_rfl) (by kernel_rfl) (fun _ _ _ h => h) (Or.inl ⟨by rfl, ?yy5t⟩) (by assumption) ?rr5t
          case yy5t => (intro w hSw; (try dsimp only at hSw); go_simp; (try with_reducible rfl))
          try simp only [Act.put]
          refine wpAnyH_ready (rs := [6]) (by kernel_rfl) (by simp) ?_
          refine AllReadyH.cons rfl (fun K hK => ?_) AllReadyH.nil
          go_simp
          go_wp2_with (go_at_call 130; refine (HIK.out _ (HBB.out.trans (HD.out.mono HBB.out.size))).mono ?_; rintro e9 w5 ⟨u5, rfl, hp5, hb5⟩)
          have HP5 := hid_mkP hp5
          have H5 : Hid (Below W2.heap.size W2 w5) := HD.out.trans (hb5.mono HD.out.size)
          obtain ⟨-, ⟨-, ua, um, uc, eu, -⟩, -⟩ := hp5
          subst eu
          clear hb5
          refine hK.out _ _ (HKP.out _ H5.out) (fun hHeld => ?_)
          clear hK K
          try simp only [Act.put]
          refine wpAnyH_take (i := 7) (v := ?vv7t) rfl (by kernel_rfl) (by kernel_rfl) (by kernel_rfl) (fun _ _ _ h => h) (Or.inl ⟨by rfl, ?yy7t⟩) (by assumption) ?rr7t
          case yy7t => (intro w hSw; (try dsimp only at hSw); go_simp; (try with_reducible rfl))
          try simp only [Act.put]
          have ht5 := HTT.out.any H5.out
          have hst := ht5.set (V' := fun a c => if a = r ∧ c = k then .slice ua um uc else U2 a c) (F' := fs F r (k + 1)) r k (.slice ua um uc) (Nat.lt_succ_self r) (fun _ _ _ _ => rfl) (fun a c ha hc hne => by
            unfold fs
            by_cases e : a < r ∨ (a = r ∧ c < k)
            · rw [if_pos e, if_pos (by omega)]
            · rw [if_neg e, if_neg (by omega)]) (fun _ => by
            have e : fs F r (k + 1) r k = F r k := if_pos (Or.inr ⟨rfl, Nat.lt_succ_self k⟩)
            rw [e]
            exact HP5.out)
          have cs := ht5.cellR r k (Nat.lt_succ_self r) hkl
          have fz := (ht5.rows r (Nat.lt_succ_self r)).frozenAt k
          have ls := (ht5.lt.2 r (Nat.lt_succ_self r)).2
          have HST := hid_mkP hst.1
          have HBS : Hid (Below w.heap.size w (w5.setCell ⟨qs2 r, k, none⟩ (.slice ua um uc))) := ((HBB.out.trans (H5.out.mono HBB.out.size)).grown hst.2 (Nat.le_trans HBB.out.size H5.out.size) (fun z hz => by have h1 := Option.some.inj hz; have := (ht5.lt.2 r (Nat.lt_succ_self r)).1; omega))
          have HKS : Hid ((w5.setCell ⟨qs2 r, k, none⟩ (.slice ua um uc)).cell? ⟨q, r, none⟩ = some (.slice (some ⟨p, 0, none⟩) n n)) := (by have h := hst.1.cellO r (Nat.lt_succ_self r) hrl; rw [HQR.out] at h ⊢; exact h)
          rw [HQR.out] at cs fz ls HST HBS HKS
          generalize U2 r k = vO at cs
          clear ht5 hst
          refine wpAnyH_ready (rs := [8]) (by kernel_rfl) (by simp) ?_
          refine AllReadyH.cons rfl (fun K hK => ?_) AllReadyH.nil
          go_simp
          refine hK.out _ _ HKS.out (fun hHeld => ?_)
          clear hK K hHeld HKS cs fz ls
          refine wpAnyH_done (by kernel_rfl) ?_ _
          try simp only [Act.put]
          go_wp2
          go_roundw
          case rel => exact ⟨k + 1, _, by omega, by go_num, HST.out, HBS.out⟩
          case measure => simp only [intOf]; omega
        · obtain rfl : n = k := by omega
          have HFN : Hid (Td w.heap.size q n qs2 (r + 1) U2 F W2) := hT.out.congr (fun _ _ _ _ => rfl) (fun a c ha hc => (if_pos (by omega)).symm) (fun _ _ => rfl)
          have HBB := hid_mkP hB.out
          go_wp2
          go_roundw
          case rel => exact ⟨r + 1, qs2, U2, by omega, by go_num, HFN.out, HBB.out⟩
          case measure => simp only [intOf]; omega
    · obtain rfl : n = r := by omega
      have HFN := hid_mkP hT.out
      have HBB := hid_mkP hB.out
      go_wp2
      go_ret
      exact ⟨q, qs, U, rfl, HFN.out, HBB.out⟩
end Go.Proofs.Ytfceigcjonlhkaa.Poly

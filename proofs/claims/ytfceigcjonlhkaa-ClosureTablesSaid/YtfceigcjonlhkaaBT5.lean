/- Burau's tables: the walk of closure.unit. -/
import Derived.Test.YtfceigcjonlhkaaBT4
import Derived.Test.YtfceigcjonlhkaaW3
import Derived.Deep.Cut
namespace Go.Proofs.Ytfceigcjonlhkaa.Poly
open Go.RowKit Go.Maps

set_option maxHeartbeats 8000000 in
set_option maxRecDepth 100000 in
theorem unit_any (n : Nat) (l : List Int) (w : World) (hn : n ≤ 6) :
    Calls Try.prog 79 #[.int .i64 (n : Nat)] w fun e w' => ∃ (g : Nat) (gs : Nat → Nat) (V : Nat → Nat → Value), e = .returned (.slice (some ⟨g, 0, none⟩) n n) ∧ Bu w.heap.size g n 1 0 gs n V (buT l 0) w' ∧ Below w.heap.size w w' := by
  obtain ⟨i0, hi, hz0, hz1, hz2⟩ := info_parts infoWs
  obtain ⟨i1, hk, hx0, hx1, hx2⟩ := info_parts infoW
  have hmk := makeN
  go_enter Try.func79, Try.ntmps79
  go_wp2_with (first | (at_make; refine wpList_make_full _ rfl _ _ 122 rfl w.heap.size 179 i0 (.slice none 0 0) 1 Try.underlying122 hi hz0 hz1 .i64 .i64 _ _ n rfl rfl rfl rfl (by rw [hz2]; omega) (by unfold maxLen; omega) (by simp) ?_; intro w1 hrow1 hg1; refine Hid.out ?_))
  refine Lib.hid ?_
  rw [made_nilsT n n] at hrow1
  obtain ⟨g, hg⟩ : ∃ g, w.heap.size = g := ⟨_, rfl⟩
  have HG := hid_mkP hg
  have HB1 : Hid (Below w.heap.size w w1) := (Below.refl _ _).grown hg1 (Nat.le_refl _) (fun q hq => by cases hq)
  have HT1 : Hid (Bu w.heap.size g n 1 0 (fun _ => 0) 0 (fun _ _ => .map none) (fun _ _ _ => 0) w1) := ⟨(by rw [← hg]; exact hrow1 : w1.ownsRow w.heap.size 179 1 (.slice (some ⟨g, 0, none⟩) n n) n (outT n n (fun _ => 0) 0)), fun i hi => absurd hi (Nat.not_lt_zero _), fun i j hi => absurd hi (Nat.not_lt_zero _), fun i j hi => absurd hi (Nat.not_lt_zero _)⟩
  rw [hg]
  clear hrow1 hg1 hg
  go_wp2
  go_loopw [9] (fun v9 wr => ∃ (k : Nat) (gs : Nat → Nat) (V : Nat → Nat → Value), k ≤ n ∧ v9 = .int .i64 (k : Nat) ∧ Hid (Bu w.heap.size g n 1 0 gs k V (buT l 0) wr) ∧ Hid (Below w.heap.size w wr)) (fun v9 _ => n - (intOf v9).toNat)
  case atStart => exact ⟨0, fun _ => 0, fun _ _ => .map none, Nat.zero_le _, rfl, HT1.out.congr (fun a b ha => absurd ha (Nat.not_lt_zero _)) (fun a b ha => absurd ha (Nat.not_lt_zero _)) (fun a ha => absurd ha (Nat.not_lt_zero _)), HB1.out⟩
  case round =>
    clear HT1 HB1
    rename World => W1
    obtain ⟨k, gs, V, hkn, rfl, hT, hB⟩ := hrel
    by_cases hkl : k < n
    · have hkI : (k : Int) < (n : Int) := by omega
      go_wp2_with (first | (at_make; refine wpList_make_full _ rfl _ _ 179 rfl W1.heap.size 180 i1 (.map none) 1 Try.underlying179 hk hx0 hx1 .i64 .i64 _ _ n rfl rfl rfl rfl (by rw [hx2]; omega) (by unfold maxLen; omega) (by simp) ?_; intro w2 hrow2 hg2; refine Hid.out ?_))
      refine Lib.hid ?_
      rw [made_nilM n] at hrow2
      obtain ⟨q, hq⟩ : ∃ q, W1.heap.size = q := ⟨_, rfl⟩
      have hb2 : Below W1.heap.size W1 w2 := (Below.refl _ _).grown hg2 (Nat.le_refl _) (fun q hq => by cases hq)
      obtain ⟨hm1, hm2⟩ := hT.out.more hb2 (own_low (by rw [hq] at hrow2; exact hrow2) (by have := hB.out.size; omega)) (by omega)
      have e0 : w2.cell? ⟨g, k, none⟩ = some (.slice none 0 0) := by
        rw [(hT.out.any hb2).outer.cellAt k (by omega), outT_get _ _ _ _ _ hkl, if_neg (Nat.lt_irrefl _)]
      have f0 := (hT.out.any hb2).outer.frozenAt k
      have lg := (hT.out.any hb2).lt.1.2
      have HX := hid_mkP hm1
      have HBX : Hid (Below w.heap.size w (w2.setCell ⟨g, k, none⟩ (.slice (some ⟨q, 0, none⟩) n n))) := ((hB.out.trans (hb2.mono hB.out.size)).grown hm2 (Nat.le_trans hB.out.size hb2.size) (fun z hz => by have := Option.some.inj hz; have := hT.out.lt.1.1; omega))
      rw [hq]
      clear hrow2 hg2 hb2 hm1 hm2 hq hT hB
      obtain ⟨gs2, hgs2⟩ : ∃ z : Nat → Nat, z = fun i => if i = k then q else gs i := ⟨_, rfl⟩
      obtain ⟨V2, hV2⟩ : ∃ z : Nat → Nat → Value, z = fun i j => if i = k then .map none else V i j := ⟨_, rfl⟩
      obtain ⟨F2, hF2⟩ : ∃ z : Nat → Nat → Int → Int, z = fun i j => if i = k then fun _ => 0 else buT l 0 i j := ⟨_, rfl⟩
      have HF2 : Hid (F2 = fun i j => if i = k then fun _ => 0 else buT l 0 i j) := hF2
      have HVK : Hid (V2 k k = .map none) := (by rw [hV2]; exact if_pos rfl : V2 k k = .map none)
      rw [← hgs2, ← hV2, ← hF2] at HX
      have HQK : Hid (gs2 k = q) := (by rw [hgs2]; exact if_pos rfl : gs2 k = q)
      clear hgs2 hV2 hF2
      go_upto_region 6 with (fail)
      obtain ⟨X, hX⟩ : ∃ X, X = w2.setCell ⟨g, k, none⟩ (.slice (some ⟨q, 0, none⟩) n n) := ⟨_, rfl⟩
      rw [← hX] at HX HBX ⊢
      have o0 := HX.out.cellO k (Nat.lt_succ_self k) hkl
      have r0 := HX.out.cellR k k (Nat.lt_succ_self k) hkl
      rw [HVK.out] at r0
      have oM0 : (X.alloc (.map #[] 0)).ownsMap Try.prog 3 (plainElem Try.prog 3) X.heap.size 0 (.map [] : DataW Unit) := World.ownsMap_made _ _ _ _
      obtain ⟨w3, r1, oM1, g1⟩ := lit_put (k := 0) (c := 1) oM0 (by omega) (by omega) (by omega)
      have hb3 : Below X.heap.size X w3 := ((Below.refl _ _).alloc (Nat.le_refl _) _).grown g1 (by simp) (fun z hz => by have := Option.some.inj hz; omega)
      have hX3 := HX.out.any hb3
      have hst := hX3.set (V' := fun a b => if a = k ∧ b = k then .map (some X.heap.size) else V2 a b) (F' := buT l 0) k k (.map (some X.heap.size)) (Nat.lt_succ_self k) (fun a b _ _ => rfl) (fun a b ha hb hne => by
        rw [HF2.out]
        by_cases e : a = k
        · funext y
          show (if a = b ∧ y = 0 then (1 : Int) else 0) = (if a = k then fun _ => 0 else buT l 0 a b) y
          rw [if_pos e, if_neg (fun x => hne ⟨e, by omega⟩)]
        · show buT l 0 a b = if a = k then fun _ => 0 else buT l 0 a b
          rw [if_neg e]) (fun _ => Or.inr ⟨X.heap.size, _, rfl, by have := oM1.lt; omega, oM1, keysIn_put (fun x hx => by cases hx) (by decide) (by decide) _, fun y => by
        rw [coefOf_put ⟨_, rfl⟩]
        show _ = if k = k ∧ y = 0 then (1 : Int) else 0
        by_cases e : (0 : Int) = y
        · rw [if_pos e, if_pos ⟨rfl, e.symm⟩]
        · rw [if_neg e, if_neg (fun x => e x.2.symm)]; exact coefOf_none rfl⟩)
      have HST := hid_mkP hst.1
      have HBS : Hid (Below w.heap.size w (w3.setCell ⟨gs2 k, k, none⟩ (.map (some X.heap.size)))) := (HBX.out.trans (hb3.mono HBX.out.size)).grown hst.2 (Nat.le_trans HBX.out.size hb3.size) (fun z hz => by have h1 := Option.some.inj hz; have := (HX.out.lt.2 k (Nat.lt_succ_self k)).1; omega)
      have lg2 := HX.out.lt.1.2
      have lq := (HX.out.lt.2 k (Nat.lt_succ_self k)).2
      have r3 := hX3.cellR k k (Nat.lt_succ_self k) hkl
      rw [HVK.out] at r3
      have f3 := (hX3.rows k (Nat.lt_succ_self k)).frozenAt k
      have lq3 := (hX3.lt.2 k (Nat.lt_succ_self k)).2
      rw [HQK.out] at o0 r0 HST HBS lq r3 f3 lq3
      clear hX oM0 oM1 g1 hb3 hX3 hst e0 f0 lg HX HBX
      go_wp2
      go_roundw
      case rel => exact ⟨k + 1, gs2, _, by omega, by go_num, HST.out, HBS.out⟩
      case measure => simp only [intOf]; omega
    · obtain rfl : n = k := by omega
      have HFN := hid_mkP hT.out
      have HBB := hid_mkP hB.out
      go_wp2
      go_ret
      exact ⟨g, gs, V, rfl, HFN.out, HBB.out⟩
end Go.Proofs.Ytfceigcjonlhkaa.Poly

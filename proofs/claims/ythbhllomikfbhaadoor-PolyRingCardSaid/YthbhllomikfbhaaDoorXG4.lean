/- The walk of the law knotworkkeep.PolyRing itself: it answers true. -/
import Derived.Test.YthbhllomikfbhaaDoorXG3
namespace Go.Proofs.YthbhllomikfbhaaDoor.Poly
open Go.RowKit Go.Maps

theorem val_bd {l : List (Int × Int)} {t p : Int} (hm : mayB l = true) (ht : t = 1 ∨ t = -1) (hp : val t l = p) : -64000000 ≤ p ∧ p ≤ 64000000 := by
  have h := atTo_le l t ht hm l.length (Nat.le_refl _)
  have hl := ((may_iff l).1 hm).1
  rw [at_val, hp] at h
  omega
theorem mul_in {p q : Int} (h0 : -64000000 ≤ p) (h1 : p ≤ 64000000) (h2 : -64000000 ≤ q) (h3 : q ≤ 64000000) : -9223372036854775808 ≤ p * q ∧ p * q ≤ 9223372036854775807 := by
  have e : (p * q).natAbs ≤ 64000000 * 64000000 := by
    rw [Int.natAbs_mul]
    exact Nat.mul_le_mul (by omega) (by omega)
  omega

set_option maxHeartbeats 8000000 in
set_option maxRecDepth 100000 in
theorem ring_any (v0 v1 v2 : Value) (w : World) (h0 : Raw w v0) (h1 : Raw w v1) (h2 : Raw w v2) :
    Calls Tryd.prog 5 #[v0, v1, v2] w fun e w' => e = .returned (.bool true) ∧ Below w.heap.size w w' := by
  have H0 : Hid (Raw w v0) := h0
  have H1 : Hid (Raw w v1) := h1
  have H2 : Hid (Raw w v2) := h2
  clear h0 h1 h2
  go_enter Tryd.func5, Tryd.ntmps5
  go_wp2_with (go_at_call 15; refine (small_raw v0 _ H0.out).mono ?_; rintro r w1 ⟨va, a, rfl, hPa, hFa, hb1⟩; refine Hid.out ?_)
  have HPa : Hid (Poly w1 w1.heap.size va a) := hPa
  have HFa : Hid (Fine a 4 9) := hFa
  clear hPa hFa
  refine Lib.hid ?_
  go_wp2_with (go_at_call 15; refine (small_raw v1 _ (H1.out.up hb1)).mono ?_; rintro r w2 ⟨vb, b, rfl, hPb, hFb, hb2⟩; refine Hid.out ?_)
  have HPb : Hid (Poly w2 w2.heap.size vb b) := hPb
  have HFb : Hid (Fine b 4 9) := hFb
  clear hPb hFb
  refine Lib.hid ?_
  go_wp2_with (first
    | (go_at_call 15; refine (small_raw v2 _ ((H2.out.up hb1).up hb2)).mono ?_; rintro r w3 ⟨vc, c, rfl, hPc, hFc, hb3⟩)
    | (go_at_call 17; refine Hid.out ?_))
  have HM : Hid (May a b c) := may_all HFa.out HFb.out hFc
  have HMa : Hid (mayB a = true) := (fine_may HFa.out (by decide) (by decide) (by decide) : mayB a = true)
  have HMb : Hid (mayB b = true) := (fine_may HFb.out (by decide) (by decide) (by decide) : mayB b = true)
  have hCn : Ctx w w1 [] := ⟨hb1, fun p hp => by cases hp⟩
  have hC0 : Ctx w w3 [(vc, c), (vb, b), (va, a)] := (((((Ctx.add hCn HPa.out HMa.out).up hb2).add HPb.out HMb.out).up hb3).add hPc (fine_may hFc (by decide) (by decide) (by decide)))
  have hC := ctx_one hC0
  clear hC0 hCn HPa HPb hPc HFa HFb hFc hb1 hb2 hb3 H0 H1 H2
  generalize Value.slice (some { block := w3.heap.size, off := 0 }) 1 1 = vo at hC ⊢
  generalize w3.alloc (Obj.cells #[Value.int IntKind.i64 0, Value.int IntKind.i64 1] 36) = W at hC ⊢
  refine Lib.hid ?_
  refine (plus_ctx hC (by repeat (first | exact List.Mem.head _ | apply List.Mem.tail)) (by repeat (first | exact List.Mem.head _ | apply List.Mem.tail)) (by first | with_reducible exact HM.out.ab | with_reducible exact HM.out.ba | with_reducible exact HM.out.bc | with_reducible exact HM.out.abc | with_reducible exact HM.out.abc' | with_reducible exact HM.out.mab | with_reducible exact HM.out.mba | with_reducible exact HM.out.mbc | with_reducible exact HM.out.mac | with_reducible exact HM.out.mabc | with_reducible exact HM.out.mabc' | with_reducible exact HM.out.d | with_reducible exact HM.out.d' | with_reducible exact HM.out.u)).mono ?_
  clear hC
  rintro _ _ ⟨v, rfl, hC⟩
  go_wp2_with (first
    | (go_at_call 17; refine (plus_ctx hC (by repeat (first | exact List.Mem.head _ | apply List.Mem.tail)) (by repeat (first | exact List.Mem.head _ | apply List.Mem.tail)) (by first | with_reducible exact HM.out.ab | with_reducible exact HM.out.ba | with_reducible exact HM.out.bc | with_reducible exact HM.out.abc | with_reducible exact HM.out.abc' | with_reducible exact HM.out.mab | with_reducible exact HM.out.mba | with_reducible exact HM.out.mbc | with_reducible exact HM.out.mac | with_reducible exact HM.out.mabc | with_reducible exact HM.out.mabc' | with_reducible exact HM.out.d | with_reducible exact HM.out.d' | with_reducible exact HM.out.u)).mono ?_; clear hC; rintro _ _ ⟨v, rfl, hC⟩)
    | (go_at_call 18; refine (times_ctx hC (by repeat (first | exact List.Mem.head _ | apply List.Mem.tail)) (by repeat (first | exact List.Mem.head _ | apply List.Mem.tail)) (by first | with_reducible exact HM.out.ab | with_reducible exact HM.out.ba | with_reducible exact HM.out.bc | with_reducible exact HM.out.abc | with_reducible exact HM.out.abc' | with_reducible exact HM.out.mab | with_reducible exact HM.out.mba | with_reducible exact HM.out.mbc | with_reducible exact HM.out.mac | with_reducible exact HM.out.mabc | with_reducible exact HM.out.mabc' | with_reducible exact HM.out.d | with_reducible exact HM.out.d' | with_reducible exact HM.out.u)).mono ?_; clear hC; rintro _ _ ⟨v, rfl, hC⟩)
    | (go_at_call 16; refine (same_ctx hC (by repeat (first | exact List.Mem.head _ | apply List.Mem.tail)) (by repeat (first | exact List.Mem.head _ | apply List.Mem.tail)) (by first | with_reducible exact addL_comm _ _ | with_reducible exact mulL_comm _ _ | with_reducible exact addL_assoc _ _ _ | with_reducible exact mulL_assoc _ _ _ | with_reducible exact mulL_add _ _ _ | with_reducible exact HM.out.unit | with_reducible exact flip_flip _)).mono ?_; clear hC; rintro _ _ ⟨rfl, hC⟩))
  go_loopw [11] (fun t wr => (t = .int .i64 (-1) ∨ t = .int .i64 1 ∨ t = .int .i64 3) ∧ Ctx w wr [(vo, [(0, 1)]), (vc, c), (vb, b), (va, a)]) (fun t _ => (3 - intOf t).toNat)
  case atStart => exact ⟨Or.inl rfl, by repeat (first | exact hC | replace hC := hC.tail)⟩
  case round =>
    clear hC
    obtain ⟨ht, hC⟩ := hrel
    rcases ht with rfl | rfl | rfl
    · obtain ⟨p, hp⟩ : ∃ p, val (-1) a = p := ⟨_, rfl⟩
      obtain ⟨q, hq⟩ : ∃ q, val (-1) b = q := ⟨_, rfl⟩
      have Hm : Hid (val (-1) (mulL a b) = p * q) := (by rw [val_mul (Or.inr rfl), hp, hq] : val (-1) (mulL a b) = p * q)
      have Hs : Hid (val (-1) (addL a b) = p + q) := (by rw [val_add, hp, hq] : val (-1) (addL a b) = p + q)
      have hpb := val_bd HMa.out (Or.inr rfl) hp
      have hqb := val_bd HMb.out (Or.inr rfl) hq
      have Hp : Hid (val (-1) a = p) := hp
      have Hq : Hid (val (-1) b = q) := hq
      clear hp hq
      have hw1 : IntKind.i64.wrap (p + q) = p + q := IntWalk.i64_in _ (by omega)
      have hw2 : IntKind.i64.wrap (p * q) = p * q := IntWalk.i64_in _ (mul_in hpb.1 hpb.2 hqb.1 hqb.2)
      clear hpb hqb
      go_wp2_with (first
        | (go_at_call 17; refine (plus_ctx hC (by repeat (first | exact List.Mem.head _ | apply List.Mem.tail)) (by repeat (first | exact List.Mem.head _ | apply List.Mem.tail)) (by first | with_reducible exact HM.out.ab | with_reducible exact HM.out.ba | with_reducible exact HM.out.bc | with_reducible exact HM.out.abc | with_reducible exact HM.out.abc' | with_reducible exact HM.out.mab | with_reducible exact HM.out.mba | with_reducible exact HM.out.mbc | with_reducible exact HM.out.mac | with_reducible exact HM.out.mabc | with_reducible exact HM.out.mabc' | with_reducible exact HM.out.d | with_reducible exact HM.out.d' | with_reducible exact HM.out.u)).mono ?_; clear hC; rintro _ _ ⟨v, rfl, hC⟩)
        | (go_at_call 18; refine (times_ctx hC (by repeat (first | exact List.Mem.head _ | apply List.Mem.tail)) (by repeat (first | exact List.Mem.head _ | apply List.Mem.tail)) (by first | with_reducible exact HM.out.ab | with_reducible exact HM.out.ba | with_reducible exact HM.out.bc | with_reducible exact HM.out.abc | with_reducible exact HM.out.abc' | with_reducible exact HM.out.mab | with_reducible exact HM.out.mba | with_reducible exact HM.out.mbc | with_reducible exact HM.out.mac | with_reducible exact HM.out.mabc | with_reducible exact HM.out.mabc' | with_reducible exact HM.out.d | with_reducible exact HM.out.d' | with_reducible exact HM.out.u)).mono ?_; clear hC; rintro _ _ ⟨v, rfl, hC⟩)
        | (go_at_call 19; refine (at_ctx hC (by repeat (first | exact List.Mem.head _ | apply List.Mem.tail)) (Or.inr rfl) (by first | with_reducible exact Hp.out | with_reducible exact Hq.out | with_reducible exact Hm.out | with_reducible exact Hs.out)).mono ?_; clear hC; rintro _ _ ⟨rfl, hC⟩))
      go_roundw
      case rel => exact ⟨by simp, by repeat (first | exact hC | replace hC := hC.tail)⟩
      case measure => simp [intOf]
    · obtain ⟨p, hp⟩ : ∃ p, val (1) a = p := ⟨_, rfl⟩
      obtain ⟨q, hq⟩ : ∃ q, val (1) b = q := ⟨_, rfl⟩
      have Hm : Hid (val (1) (mulL a b) = p * q) := (by rw [val_mul (Or.inl rfl), hp, hq] : val (1) (mulL a b) = p * q)
      have Hs : Hid (val (1) (addL a b) = p + q) := (by rw [val_add, hp, hq] : val (1) (addL a b) = p + q)
      have hpb := val_bd HMa.out (Or.inl rfl) hp
      have hqb := val_bd HMb.out (Or.inl rfl) hq
      have Hp : Hid (val (1) a = p) := hp
      have Hq : Hid (val (1) b = q) := hq
      clear hp hq
      have hw1 : IntKind.i64.wrap (p + q) = p + q := IntWalk.i64_in _ (by omega)
      have hw2 : IntKind.i64.wrap (p * q) = p * q := IntWalk.i64_in _ (mul_in hpb.1 hpb.2 hqb.1 hqb.2)
      clear hpb hqb
      go_wp2_with (first
        | (go_at_call 17; refine (plus_ctx hC (by repeat (first | exact List.Mem.head _ | apply List.Mem.tail)) (by repeat (first | exact List.Mem.head _ | apply List.Mem.tail)) (by first | with_reducible exact HM.out.ab | with_reducible exact HM.out.ba | with_reducible exact HM.out.bc | with_reducible exact HM.out.abc | with_reducible exact HM.out.abc' | with_reducible exact HM.out.mab | with_reducible exact HM.out.mba | with_reducible exact HM.out.mbc | with_reducible exact HM.out.mac | with_reducible exact HM.out.mabc | with_reducible exact HM.out.mabc' | with_reducible exact HM.out.d | with_reducible exact HM.out.d' | with_reducible exact HM.out.u)).mono ?_; clear hC; rintro _ _ ⟨v, rfl, hC⟩)
        | (go_at_call 18; refine (times_ctx hC (by repeat (first | exact List.Mem.head _ | apply List.Mem.tail)) (by repeat (first | exact List.Mem.head _ | apply List.Mem.tail)) (by first | with_reducible exact HM.out.ab | with_reducible exact HM.out.ba | with_reducible exact HM.out.bc | with_reducible exact HM.out.abc | with_reducible exact HM.out.abc' | with_reducible exact HM.out.mab | with_reducible exact HM.out.mba | with_reducible exact HM.out.mbc | with_reducible exact HM.out.mac | with_reducible exact HM.out.mabc | with_reducible exact HM.out.mabc' | with_reducible exact HM.out.d | with_reducible exact HM.out.d' | with_reducible exact HM.out.u)).mono ?_; clear hC; rintro _ _ ⟨v, rfl, hC⟩)
        | (go_at_call 19; refine (at_ctx hC (by repeat (first | exact List.Mem.head _ | apply List.Mem.tail)) (Or.inl rfl) (by first | with_reducible exact Hp.out | with_reducible exact Hq.out | with_reducible exact Hm.out | with_reducible exact Hs.out)).mono ?_; clear hC; rintro _ _ ⟨rfl, hC⟩))
      go_roundw
      case rel => exact ⟨by simp, by repeat (first | exact hC | replace hC := hC.tail)⟩
      case measure => simp [intOf]
    · go_wp2_with (first
        | (go_at_call 20; refine (flip_ctx hC (by repeat (first | exact List.Mem.head _ | apply List.Mem.tail)) (by first | with_reducible exact HM.out.fl | (rw [flip_flip]; exact HMa.out))).mono ?_; clear hC; rintro _ _ ⟨v, rfl, hC⟩)
        | (go_at_call 19; refine (at_ctx hC (by repeat (first | exact List.Mem.head _ | apply List.Mem.tail)) (Or.inl rfl) rfl).mono ?_; clear hC; rintro _ _ ⟨rfl, hC⟩)
        | (go_at_call 16; refine (same_ctx hC (by repeat (first | exact List.Mem.head _ | apply List.Mem.tail)) (by repeat (first | exact List.Mem.head _ | apply List.Mem.tail)) (by first | with_reducible exact addL_comm _ _ | with_reducible exact mulL_comm _ _ | with_reducible exact addL_assoc _ _ _ | with_reducible exact mulL_assoc _ _ _ | with_reducible exact mulL_add _ _ _ | with_reducible exact HM.out.unit | with_reducible exact flip_flip _)).mono ?_; clear hC; rintro _ _ ⟨rfl, hC⟩))
      go_ret
      exact ⟨rfl, hC.1⟩
end Go.Proofs.YthbhllomikfbhaaDoor.Poly

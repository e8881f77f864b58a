/- The walk of canon.toldFrom. -/
import Derived.Test.YtagaajlbkfkaiaaC5P
import Derived.Deep.Cut
namespace Go.Proofs.Ytagaajlbkfkaiaa
open Go.RowKit Go.Maps
set_option maxHeartbeats 8000000
set_option maxRecDepth 100000
theorem makeMapN (w : World) : (Instr.makeMap 143 none).run Try.prog w = .ok (.map (some w.heap.size)) (w.alloc (.map #[] 0)) := rfl
theorem alloc_kept {w w' : World} {o : Obj} (hb : Below (w.alloc o).heap.size (w.alloc o) w') : w'.heap[w.heap.size]? = some o := (hb.block _ (by simp)).trans (alloc_at rfl)
theorem alloc_keptD {w w' : World} {o : Obj} (hb : Below (w.alloc o).drew.heap.size (w.alloc o).drew w') : w'.heap[w.heap.size]? = some o := (hb.block _ (by show _ < (w.alloc o).heap.size; simp)).trans (alloc_at rfl)
theorem alloc_up {B : Nat} {w w0 w' : World} {o : Obj} (h : Below B w w0) (hB : B ≤ w0.heap.size) (hb : Below (w0.alloc o).heap.size (w0.alloc o) w') : Below B w w' := (h.alloc hB _).trans (hb.mono (by simp; omega))
theorem below_st2 {B z : Nat} {w w' : World} {a b : Value} (h : Below B w w') (hB : B ≤ w'.heap.size) (hz : B ≤ z) : Below B w ((w'.setCell ⟨z, 0, none⟩ a).setCell ⟨z, 1, none⟩ b) :=
 (h.grown (QQ7 w' z 0 a) hB (fun k hk => by have := Option.some.inj hk; omega)).grown (QQ7 _ z 1 b) (by simpa using hB) (fun k hk => by have := Option.some.inj hk; omega)
theorem st_block {w : World} {z : Nat} {a b c d : Value} {t : TypeId} {fz : Nat × Nat} (h : w.heap[z]? = some (.cells #[c, d] t fz)) : ((w.setCell ⟨z, 0, none⟩ a).setCell ⟨z, 1, none⟩ b).heap[z]? = some (.cells #[a, b] t fz) := by
 rw [QQ6 (QQ6 h)]; rfl
theorem keepBox {B e n gT k i : Nat} {v u : Value} {xs : List Value} {W w9 : World} {o : Obj} {cs : Array Value} {t : TypeId} {fz : Nat × Nat} (h : W.ownsRow B e 1 v n xs) (hk : W.heap[k]? = some (.cells cs t fz)) (he : e ≠ t) (hne : k ≠ gT) (hg : (W.alloc o).grownBy w9 v.ownBlock) : (w9.setCell ⟨gT, i, none⟩ u).heap[k]? = some (.cells cs t fz) := by
 have hlt : k < W.heap.size := (Array.getElem?_eq_some_iff.1 hk).1
 have h9 : w9.heap[k]? = some (.cells cs t fz) := (hg.block k (by simp; omega) (fun e => boxNe h hk he e.symm)).trans (alloc_old hk)
 exact ((QQ7 w9 gT i u).block k (Array.getElem?_eq_some_iff.1 h9).1 (fun e => hne (Option.some.inj e))).trans h9
theorem keepBelow {B e n gT i : Nat} {v u : Value} {xs : List Value} {w W w9 : World} {o : Obj} (h : W.ownsRow B e 1 v n xs) (hb : Below B w W) (hB : B ≤ W.heap.size) (hT : B ≤ gT) (hg : (W.alloc o).grownBy w9 v.ownBlock) : Below B w (w9.setCell ⟨gT, i, none⟩ u) := by
 have hs := hg.size
 simp only [World.size_alloc] at hs
 exact ((hb.alloc hB _).grown hg (by simp; omega) (fun q hq => (h.lt q hq).1)).grown (QQ7 w9 gT i u) (by omega) (fun q hq => by have := Option.some.inj hq; omega)
theorem cut_told {T G : Prop} (h : Hid T → G) (hT : T) : G := h hT
theorem toldFrom_any (a : Option Addr) (cap : Nat) (C : List Cr) (loops : Int) (gF cF gT cT : Nat) (f : Nat) (w : World) (hm : mayD C loops = true) (hf : f < C.length) (hD : Dr w a cap C gF gT) :
    Calls Try.prog 119 #[drV a cap C loops gF cF gT cT, .int .i64 f] w fun e w' => ∃ vo vc, e = .returned (.agg #[vo, vc]) ∧ w'.ownsRow w.heap.size 3 1 vo (te C f).1.length (nats (te C f).1) ∧ w'.ownsRow w.heap.size 3 1 vc (te C f).2.length (intsV (te C f).2) ∧ Below w.heap.size w w' := by
 obtain ⟨s1, -, -, -⟩ := QZ2 (QK3 hm)
 obtain ⟨i0, hi, hz0, hz1, hz2⟩ := info_parts infoInt
 have HM : Hid (mayD C loops = true) := hm
 have HDD : Hid (∀ w', Below w.heap.size w w' → Dr w' a cap C gF gT) := fun w' hb => hD.on hb
 obtain ⟨b, ob, rfl, hbw, hCd⟩ := hD.cross (by omega)
 have HCD : Hid (∀ w', Below w.heap.size w w' → CrossAt w' b ob C ∧ b < w'.heap.size) := fun w' hb => ⟨hCd.on hb hbw, Nat.lt_of_lt_of_le hbw hb.size⟩
 have HOK : Hid (∀ i, TeOk C (teI C f i)) := fun i => teI_ok hm hf i
 have HTE : Hid (∀ i, (teI C f i).1.length = i → te C f = teI C f i) := fun i h => by
  have h1 := (teI_ok hm hf i).few
  have := teI_stop (C := C) (first := f) (i := i) (by omega) (C.length - i)
  rw [show i + (C.length - i) = C.length by omega] at this
  exact this
 unfold drV
 obtain ⟨w1, hw1⟩ : ∃ w1, w1 = (((w.alloc (.cells #[.slice (some ⟨b, ob, none⟩) C.length cap, .int .i64 loops, .slice (some ⟨gF, 0, none⟩) (2 * C.length + 1) cF, .slice (some ⟨gT, 0, none⟩) (2 * C.length + 1) cT] 61)).alloc (.cells #[.slice none 0 0, .slice none 0 0] 148)).alloc (.cells #[.int .i64 f] 3)).alloc (.cells #[.slice (some ⟨w.heap.size + 1 + 1, 0, none⟩) 1 1, .slice none 0 0] 148) := ⟨_, rfl⟩
 have HW1 : Hid (w1 = (((w.alloc (.cells #[.slice (some ⟨b, ob, none⟩) C.length cap, .int .i64 loops, .slice (some ⟨gF, 0, none⟩) (2 * C.length + 1) cF, .slice (some ⟨gT, 0, none⟩) (2 * C.length + 1) cT] 61)).alloc (.cells #[.slice none 0 0, .slice none 0 0] 148)).alloc (.cells #[.int .i64 f] 3)).alloc (.cells #[.slice (some ⟨w.heap.size + 1 + 1, 0, none⟩) 1 1, .slice none 0 0] 148)) := hw1
 have hs1 : w1.heap.size = w.heap.size + 4 := by rw [hw1]; simp
 have hB1 : Below w.heap.size w w1 := by rw [hw1]; exact (QV1 _ _ _ _).alloc (by simp; omega) _
 have k0 : w1.heap[w.heap.size]? = some (.cells #[.slice (some ⟨b, ob, none⟩) C.length cap, .int .i64 loops, .slice (some ⟨gF, 0, none⟩) (2 * C.length + 1) cF, .slice (some ⟨gT, 0, none⟩) (2 * C.length + 1) cT] 61 (0, 0)) := by rw [hw1]; exact alloc_old (alloc_old (alloc_old (alloc_at rfl)))
 have k1 : w1.heap[w.heap.size + 1]? = some (.cells #[.slice none 0 0, .slice none 0 0] 148 (0, 0)) := by rw [hw1]; exact alloc_old (alloc_old (alloc_at (by simp)))
 have k2 : w1.heap[w.heap.size + 1 + 1]? = some (.cells #[.int .i64 f] 3 (0, 0)) := by rw [hw1]; exact alloc_old (alloc_at (by simp))
 have k3 : w1.heap[w.heap.size + 1 + 1 + 1]? = some (.cells #[.slice (some ⟨w.heap.size + 1 + 1, 0, none⟩) 1 1, .slice none 0 0] 148 (0, 0)) := by rw [hw1]; exact alloc_at (by simp)
 have hmm := makeMapN
 have hown0 : (w1.alloc (.map #[] 0)).ownsMap Try.prog 3 (plainElem Try.prog 3) w1.heap.size 0 (.map [] : DataW Unit) := World.ownsMap_made _ _ _ _
 obtain ⟨w2, hins, hown2, hg2⟩ := hown0.update law3 Try.underlying143 (by unfold maxLen; omega) (keyOf_int_mk Try.underlying3 (WalkArith.wf_i64 (by omega : -9223372036854775808 ≤ (f : Int) ∧ (f : Int) ≤ 9223372036854775807))) (plainElem_int Try.underlying3 (WalkArith.wf_i64 (by omega : -9223372036854775808 ≤ (0 : Int) ∧ (0 : Int) ≤ 9223372036854775807)))
 have hg12 : ∀ k, k < w1.heap.size → w2.heap[k]? = w1.heap[k]? := fun k hk => (hg2.block k (by simp; omega) (fun e => by have := Option.some.inj e; omega)).trans (by rw [World.alloc]; exact Array.getElem?_push_lt hk |>.trans (Array.getElem?_eq_getElem hk).symm)
 have hs2 : w1.heap.size + 1 ≤ w2.heap.size := by have := hg2.size; simpa using this
 have HB2 : Hid (Below w.heap.size w w2) := (hB1.alloc hB1.size _).grown hg2 (by simp; omega) (fun j hj => by have := Option.some.inj hj; omega)
 have HX2 : Hid (w2.heap[w.heap.size]? = some (.cells #[.slice (some ⟨b, ob, none⟩) C.length cap, .int .i64 loops, .slice (some ⟨gF, 0, none⟩) (2 * C.length + 1) cF, .slice (some ⟨gT, 0, none⟩) (2 * C.length + 1) cT] 61 (0, 0)) ∧ w2.heap[w.heap.size + 1]? = some (.cells #[.slice none 0 0, .slice none 0 0] 148 (0, 0))) := ⟨(hg12 _ (by omega)).trans k0, (hg12 _ (by omega)).trans k1⟩
 have HT2 : Hid (ToAt w.heap.size (w.heap.size + 1 + 1 + 1) w1.heap.size [f] (teI C f 0) (.slice (some ⟨w.heap.size + 1 + 1, 0, none⟩) 1 1) (.slice none 0 0) w2) := by
  refine (show ToAt _ _ _ _ _ _ _ _ from ⟨(hg12 _ (by omega)).trans k3, ⟨1, _, hown2, by simp, ?_⟩, one_row (by omega) ((hg12 _ (by omega)).trans k2), World.ownsRow_nil _ _ _ _, Or.inr (fun e => by cases e)⟩)
  have hN0 : NumsD (.map [] : DataW Unit) [] := fun x => ⟨by simp [Maps.has], fun h => by cases h⟩
  exact hN0.put (World.ownsMap.isMap hown0) (by simp)
 have HS1 : Hid (w1.heap.size = w.heap.size + 4) := hs1
 clear hm hCd hD hw1 hs1 hB1 k0 k1 k2 k3 hown0 hown2 hg2 hg12
 go_enter Try.func119, Try.ntmps119
 go_upto_region 2 with (fail)
 rw [← HW1.out]
 go_wp2
 clear hins hmm
 have hs2w : w.heap.size + 5 ≤ w2.heap.size := by have := HS1.out; omega
 go_loopw [7] (fun v7 wr => ∃ (i : Nat) (vo vc : Value), i ≤ (teI C f i).1.length ∧ v7 = .int .i64 (i : Nat) ∧ Hid (ToAt w.heap.size (w.heap.size + 1 + 1 + 1) w1.heap.size (teI C f i).1 (teI C f i) vo vc wr ∧ (wr.heap[w.heap.size]? = some (.cells #[.slice (some ⟨b, ob, none⟩) C.length cap, .int .i64 loops, .slice (some ⟨gF, 0, none⟩) (2 * C.length + 1) cF, .slice (some ⟨gT, 0, none⟩) (2 * C.length + 1) cT] 61 (0, 0)) ∧ wr.heap[w.heap.size + 1]? = some (.cells #[.slice none 0 0, .slice none 0 0] 148 (0, 0))) ∧ Below w.heap.size w wr)) (fun v7 _ => C.length - (intOf v7).toNat)
 case atStart => exact ⟨0, _, _, by simp, rfl, HT2.out, HX2.out, HB2.out⟩
 case round =>
  clear HT2 HX2 HB2 hs2 hs2w
  rename World => W3
  obtain ⟨i, vo, vc, hin3, rfl, hto⟩ := hrel
  obtain ⟨ao, co, eo⟩ := QX5 hto.out.1.ord
  obtain ⟨ac, cc, ec⟩ := QX5 hto.out.1.cod
  subst eo ec
  have hlw3 : w.heap.size < W3.heap.size := (Array.getElem?_eq_some_iff.1 hto.out.2.1.1).1
  have hlb3 : w.heap.size + 1 + 1 + 1 < W3.heap.size := (Array.getElem?_eq_some_iff.1 hto.out.1.box).1
  have b0 : W3.cell? ⟨w.heap.size + 1 + 1 + 1, 0, none⟩ = some (.slice ao (teI C f i).1.length co) := QQ0 hto.out.1.box rfl
  have b1 : W3.cell? ⟨w.heap.size + 1 + 1 + 1, 1, none⟩ = some (.slice ac (teI C f i).2.length cc) := QQ0 hto.out.1.box rfl
  by_cases hil : i < (teI C f i).1.length
  · have hok := HOK.out i
    have hfew := hok.few
    have hcl9 := teI_len C f i
    have HI1 : Hid (teI C f (i + 1) = teK C i (teI C f i) 4) := (by rw [teI, if_pos hil] : teI C f (i + 1) = teK C i (teI C f i) 4)
    obtain ⟨P, hP⟩ : ∃ P, teI C f i = P := ⟨_, rfl⟩
    rw [hP] at hto hil hin3 hok hfew HI1 hcl9 b0 b1
    clear hP
    obtain ⟨g, c', eo, hg1, hg2⟩ := own_block hto.out.1.ord (by omega)
    injection eo with eo1 eo2 eo3
    subst eo1 eo3
    have q0 := hto.out.1.ord.cellAt i (by omega)
    rw [nats_get P.1 i hil] at q0
    have hcl : P.1.getD i 0 < C.length := hok.lt _ (by rw [List.getD_eq_getElem?_getD, List.getElem?_eq_getElem hil]; exact List.getElem_mem hil)
    obtain ⟨c, hc⟩ : ∃ c, P.1.getD i 0 = c := ⟨_, rfl⟩
    have HCI : Hid (P.1.getD i 0 = c) := hc
    rw [hc] at q0 hcl
    have hB3 := hto.out.2.2
    obtain ⟨x0, x1, x2, x3, x4⟩ := (HCD.out W3 hB3).1 c hcl
    have hbW3 := (HCD.out W3 hB3).2
    have HK0 : Hid (teK C i P 0 = (P.1, P.2 ++ [if (C.getD c Cr.none).plus = true then 1 else 0])) := (by rw [teK, hc] : teK C i P 0 = (P.1, P.2 ++ [if (C.getD c Cr.none).plus = true then 1 else 0]))
    have d0 : W3.cell? ⟨w.heap.size, 0, none⟩ = some (.slice (some ⟨b, ob, none⟩) C.length cap) := QQ0 hto.out.2.1.1 rfl
    have hii : (i : Int) < (P.1.length : Int) := by omega
    have hci : (c : Int) < (C.length : Int) := by omega
    have hdi : decide ((i : Int) < (P.1.length : Int)) = true := decide_eq_true hii
    have hdi2 : decide (i < P.1.length) = true := decide_eq_true hil
    clear hc hB3
    go_upto_region 7 with (fail)
    obtain ⟨x, hx⟩ : ∃ x, C.getD c Cr.none = x := ⟨_, rfl⟩
    have HXC : Hid (C.getD c Cr.none = x) := hx
    rw [hx] at x0 x1 x2 x3 x4 HK0
    obtain ⟨sg, hsg⟩ : ∃ sg : Int, (if x.plus = true then 1 else 0) = sg := ⟨_, rfl⟩
    have HSG : Hid ((if x.plus = true then 1 else 0 : Int) = sg) := hsg
    rw [hsg] at HK0
    clear hx hsg q0
    have HD3 : Hid (Below W3.heap.size W3 W3.drew) := (Below.refl _ _).drew
    have HF : Hid (∀ w', Below W3.heap.size W3 w' → w'.cell? ⟨w.heap.size + 1 + 1 + 1, 1, none⟩ = some (.slice ac P.2.length cc) ∧ ToAt w.heap.size (w.heap.size + 1 + 1 + 1) w1.heap.size P.1 P (.slice (some ⟨g, 0, none⟩) P.1.length co) (.slice ac P.2.length cc) w' ∧ w.heap.size + 1 + 1 + 1 < w'.heap.size) := fun w' hb => by
     have h := hto.out.1.any (QQ5 hb none)
     exact ⟨QQ0 h.box rfl, h, (Array.getElem?_eq_some_iff.1 h.box).1⟩
    apply cut_told
    case h =>
     intro key
     go_region_law (first
         | (refine step_append_lies _ rfl (.tmp 32) (.tmp 40) 46 rfl w.heap.size 3 i0 (.int .i64 0) 1 8 Try.underlying46 hi hz0 hz1 hz2 rfl (by decide) _ P.2.length (intsV P.2) (by simp [Act.eval]) (HTA.out.cod.alloc _) ⟨wA.heap.size, 0, none⟩ 1 1 [.int .i64 sg] (by simp [Act.eval]) rfl (new_cell1 _ _ _) (int_one _) (by decide) (by unfold maxLen; omega) (by omega) (by simp; omega) _ rfl ?_; intro g8 cap8 w8 hown8 hg8 hl8 hlt8
            obtain ⟨hbx8, hto8⟩ := (HTA.out.any (World.grownBy_alloc wA (.cells #[.int .i64 sg] 3) none)).code (xs := [sg]) (k := P.2.length + 1) (by simp) (by simpa [intsV] using hown8) hg8 hl8 rfl
            have HTO8 : Hid (ToAt w.heap.size (w.heap.size + 1 + 1 + 1) w1.heap.size P.1 (P.1, P.2 ++ [sg]) (.slice (some ⟨g, 0, none⟩) P.1.length co) (.slice (some ⟨g8, 0, none⟩) (P.2.length + 1) cap8) (w8.setCell ⟨w.heap.size + 1 + 1 + 1, 1, none⟩ (.slice (some ⟨g8, 0, none⟩) (P.2.length + 1) cap8))) := hto8
            have HG8 : Hid ((wA.alloc (.cells #[.int .i64 sg] 3)).grownBy w8 (Value.slice ac P.2.length cc).ownBlock) := hg8
            have r0 : w8.cell? ⟨w.heap.size + 1 + 1 + 1, 1, none⟩ = some (.slice ac P.2.length cc) := QQ0 hbx8 rfl
            have r1 : w8.frozen? ⟨w.heap.size + 1 + 1 + 1, 1, none⟩ = false := QQ2 hbx8
            have r2 : w.heap.size + 1 + 1 + 1 < w8.heap.size := (Array.getElem?_eq_some_iff.1 hbx8).1
            clear hown8 hg8 hbx8 hto8 hl8 hlt8)
         | (go_simp; go_at_call 127; refine (signC_any x _).mono ?_; rw [HSG.out]; rintro e9 wA ⟨rfl, hbA⟩
            have HA : Hid (Below W3.heap.size W3 wA) := HD3.out.trans (hbA.mono HD3.out.size)
            obtain ⟨a0, hta, a1⟩ := HF.out wA HA.out
            have HTA : Hid (ToAt w.heap.size (w.heap.size + 1 + 1 + 1) w1.heap.size P.1 P (.slice (some ⟨g, 0, none⟩) P.1.length co) (.slice ac P.2.length cc) wA) := hta
            have hsA : W3.heap.size ≤ wA.heap.size := HA.out.size
            clear hbA hta))
     all_goals
      have HBA : Hid (Below w.heap.size w wA) := hto.out.2.2.trans (HA.out.mono hto.out.2.2.size)
      have HS9 := QQ7 w8 (w.heap.size + 1 + 1 + 1) 1 (.slice (some ⟨g8, 0, none⟩) (P.2.length + 1) cap8)
      have HX9 : Hid (((w8.setCell ⟨w.heap.size + 1 + 1 + 1, 1, none⟩ (.slice (some ⟨g8, 0, none⟩) (P.2.length + 1) cap8)).heap[w.heap.size]? = some (.cells #[.slice (some ⟨b, ob, none⟩) C.length cap, .int .i64 loops, .slice (some ⟨gF, 0, none⟩) (2 * C.length + 1) cF, .slice (some ⟨gT, 0, none⟩) (2 * C.length + 1) cT] 61 (0, 0)) ∧ (w8.setCell ⟨w.heap.size + 1 + 1 + 1, 1, none⟩ (.slice (some ⟨g8, 0, none⟩) (P.2.length + 1) cap8)).heap[w.heap.size + 1]? = some (.cells #[.slice none 0 0, .slice none 0 0] 148 (0, 0))) ∧ Below w.heap.size w (w8.setCell ⟨w.heap.size + 1 + 1 + 1, 1, none⟩ (.slice (some ⟨g8, 0, none⟩) (P.2.length + 1) cap8))) := ⟨⟨(HS9.block _ (by omega) (fun e => by have := Option.some.inj e; omega)).trans ((HG8.out.block _ (by simp; omega) (fun e => boxNe HTA.out.cod ((HA.out.block _ hlw3).trans hto.out.2.1.1) (by decide) e.symm)).trans (alloc_old ((HA.out.block _ hlw3).trans hto.out.2.1.1))), (HS9.block _ (by omega) (fun e => by have := Option.some.inj e; omega)).trans ((HG8.out.block _ (by simp; omega) (fun e => boxNe HTA.out.cod ((HA.out.block _ (by omega)).trans hto.out.2.1.2) (by decide) e.symm)).trans (alloc_old ((HA.out.block _ (by omega)).trans hto.out.2.1.2)))⟩, ((HBA.out.alloc (by omega) _).grown HG8.out (by simp; omega) (fun q hq => (HTA.out.cod.lt q hq).1)).grown HS9 (by omega) (fun q hq => by have := Option.some.inj hq; omega)⟩
      clear HS9
      rw [← HK0.out] at HTO8
      clear r0 r1 r2 a0 a1 hsA HA HTA HG8 HBA
      generalize w8.setCell ⟨w.heap.size + 1 + 1 + 1, 1, none⟩ (.slice (some ⟨g8, 0, none⟩) (P.2.length + 1) cap8) = W9 at HTO8 HX9 ⊢
      generalize wA.heap.size = zA
      revert g8 cap8 W9 zA
      exact key.out
    intro g8 cap8 W9 HTO8 HX9 zA
    have HOP : Hid (∀ k, k ≤ 4 → TeOk C (teK C i P k)) := fun k hk => teK_ok HM.out hil hok hk
    have HPR : Hid (∀ k, P.1 <+: (teK C i P k).1) := fun k => teK_pre C i P k
    have HKL : Hid (∀ k, (teK C i P k).2.length = P.2.length + 1 + 2 * k) := fun k => teK_len C i P k
    have HNX : Hid (∀ k, teK C i P (k + 1) = teS C c (teK C i P k) k) := fun k => (by rw [teK, HCI.out])
    have HK01 : Hid ((teK C i P 0).1 = P.1) := (by rw [HK0.out] : (teK C i P 0).1 = P.1)
    have hlw9 : w.heap.size < W9.heap.size := (Array.getElem?_eq_some_iff.1 HX9.out.1.1).1
    have d9 : W9.cell? ⟨w.heap.size, 0, none⟩ = some (.slice (some ⟨b, ob, none⟩) C.length cap) := QQ0 HX9.out.1.1 rfl
    have hbW9 := (HCD.out W9 HX9.out.2).2
    obtain ⟨y0, y1, y2, y3, y4⟩ := (HCD.out W9 HX9.out.2).1 c hcl
    rw [HXC.out] at y0 y1 y2 y3 y4
    clear x0 x1 x2 x3 x4 b0 b1 d0 hlw3 hlb3 hbW3 HD3 HF
    go_wp2_with (go_at_call 75; refine (arcs_any x _).mono ?_; rintro e9 wB ⟨rfl, hbB⟩; refine Hid.out ?_)
    refine Lib.hid ?_
    have HTB : Hid (ToAt w.heap.size (w.heap.size + 1 + 1 + 1) w1.heap.size (teK C i P 0).1 (teK C i P 0) (.slice (some ⟨g, 0, none⟩) P.1.length co) (.slice (some ⟨g8, 0, none⟩) (P.2.length + 1) cap8) wB) := (by rw [HK01.out]; exact HTO8.out.any (QQ5 hbB none) : ToAt w.heap.size (w.heap.size + 1 + 1 + 1) w1.heap.size (teK C i P 0).1 (teK C i P 0) (.slice (some ⟨g, 0, none⟩) P.1.length co) (.slice (some ⟨g8, 0, none⟩) (P.2.length + 1) cap8) wB)
    have hs9 := HX9.out.2.size
    have HXB : Hid ((wB.heap[w.heap.size]? = some (.cells #[.slice (some ⟨b, ob, none⟩) C.length cap, .int .i64 loops, .slice (some ⟨gF, 0, none⟩) (2 * C.length + 1) cF, .slice (some ⟨gT, 0, none⟩) (2 * C.length + 1) cT] 61 (0, 0)) ∧ wB.heap[w.heap.size + 1]? = some (.cells #[.slice none 0 0, .slice none 0 0] 148 (0, 0))) ∧ Below w.heap.size w wB) := ⟨⟨(hbB.block _ hlw9).trans HX9.out.1.1, (hbB.block _ (Array.getElem?_eq_some_iff.1 HX9.out.1.2).1).trans HX9.out.1.2⟩, HX9.out.2.trans (hbB.mono hs9)⟩
    clear hbB y0 y1 y2 y3 y4 d9 HTO8 HX9 hlw9 hbW9 hs9
    go_wp2
    go_loopw [50] (fun v50 ws => ∃ (k : Nat) (vo vc : Value), k ≤ 4 ∧ v50 = .int .i64 (k : Nat) ∧ Hid (ToAt w.heap.size (w.heap.size + 1 + 1 + 1) w1.heap.size (teK C i P k).1 (teK C i P k) vo vc ws ∧ (ws.heap[w.heap.size]? = some (.cells #[.slice (some ⟨b, ob, none⟩) C.length cap, .int .i64 loops, .slice (some ⟨gF, 0, none⟩) (2 * C.length + 1) cF, .slice (some ⟨gT, 0, none⟩) (2 * C.length + 1) cT] 61 (0, 0)) ∧ ws.heap[w.heap.size + 1]? = some (.cells #[.slice none 0 0, .slice none 0 0] 148 (0, 0))) ∧ Below w.heap.size w ws)) (fun v50 _ => 4 - (intOf v50).toNat)
    case atStart => exact ⟨0, _, _, Nat.zero_le _, rfl, HTB.out, HXB.out⟩
    case round =>
     clear HTB HXB
     rename World => W4
     obtain ⟨k, vo, vc, hkn, rfl, hkd⟩ := hrel
     obtain ⟨av, cv, ev⟩ := QX5 hkd.out.1.ord
     obtain ⟨au, cu, eu⟩ := QX5 hkd.out.1.cod
     subst ev eu
     by_cases hkl : k < 4
     · have hop := HOP.out k hkn
       have hfq := hop.few
       have hql := HKL.out k
       have hqb : (teK C i P k).2.length ≤ 200 := by omega
       have HN1 := HNX.out k
       obtain ⟨⟨n1, n2, n3⟩, -, hxl, hyl⟩ := nb_may HM.out c k hcl hkl
       obtain ⟨Q, hQ⟩ : ∃ Q, teK C i P k = Q := ⟨_, rfl⟩
       rw [hQ] at hkd hop hfq hqb HN1
       clear hql
       obtain ⟨u, hu⟩ : ∃ u, nbC C c k = u := ⟨_, rfl⟩
       obtain ⟨y, hy⟩ : ∃ y, nbS C c k = y := ⟨_, rfl⟩
       have HNE : Hid (teK C i P (k + 1) = ((if u ∈ Q.1 then Q.1 else Q.1 ++ [u]), Q.2 ++ [((if u ∈ Q.1 then Q.1 else Q.1 ++ [u]).idxOf u : Int), (y : Int)])) := (by rw [HN1]; unfold teS; rw [hu, hy] : teK C i P (k + 1) = ((if u ∈ Q.1 then Q.1 else Q.1 ++ [u]), Q.2 ++ [((if u ∈ Q.1 then Q.1 else Q.1 ++ [u]).idxOf u : Int), (y : Int)]))
       have hsW4 := hkd.out.2.2.size
       have HB04 : Hid (Below w.heap.size w W4) := hkd.out.2.2
       obtain ⟨xa, hxa⟩ : ∃ xa, ((C.getD c Cr.none).arc k).toNat = xa := ⟨_, rfl⟩
       obtain ⟨p, hp⟩ : ∃ p, (C.getD c Cr.none).comes k = p := ⟨_, rfl⟩
       have hey : enC C xa (!p) = u := by rw [← hu]; unfold nbC; rw [hxa, hp]
       have hes : enS C xa (!p) = y := by rw [← hy]; unfold nbS; rw [hxa, hp]
       rw [hxa] at n1 n2 n3
       rw [hu] at hxl
       rw [hy] at hyl
       have HLV : Hid (∀ V, Below w.heap.size w V → Calls Try.prog 117 #[.agg #[.slice (some ⟨b, ob, none⟩) C.length cap, .int .i64 loops, .slice (some ⟨gF, 0, none⟩) (2 * C.length + 1) cF, .slice (some ⟨gT, 0, none⟩) (2 * C.length + 1) cT], .agg #[.int .i64 c, .int .i64 k]] V fun e w' => e = .returned (.agg #[.int .i64 (xa : Nat), .bool p]) ∧ Below V.heap.size V w') := fun V hV => by
        have h := QU1 b ob cap C loops (.slice (some ⟨gF, 0, none⟩) (2 * C.length + 1) cF) (.slice (some ⟨gT, 0, none⟩) (2 * C.length + 1) cT) c k V hcl hkl (HCD.out V hV).2 (HCD.out V hV).1
        rw [n3, hp] at h
        exact h
       have HEV : Hid (∀ V, Below w.heap.size w V → Calls Try.prog 78 #[.agg #[.slice (some ⟨b, ob, none⟩) C.length cap, .int .i64 loops, .slice (some ⟨gF, 0, none⟩) (2 * C.length + 1) cF, .slice (some ⟨gT, 0, none⟩) (2 * C.length + 1) cT], .agg #[.int .i64 (xa : Nat), .bool p]] V fun e w' => e = .returned (.agg #[.int .i64 (u : Nat), .int .i64 (y : Nat)]) ∧ Below V.heap.size V w') := fun V hV => by
        have h := end_any (some ⟨b, ob, none⟩) cap C loops gF cF gT cT xa p V HM.out n1 n2 (HDD.out V hV)
        rw [hey, hes] at h
        exact h
       have hlw4 : w.heap.size < W4.heap.size := (Array.getElem?_eq_some_iff.1 hkd.out.2.1.1).1
       have HF : Hid (∀ w', Below W4.heap.size W4 w' → w'.cell? ⟨w.heap.size, 0, none⟩ = some (.slice (some ⟨b, ob, none⟩) C.length cap) ∧ w'.cell? ⟨w.heap.size, 1, none⟩ = some (.int .i64 loops) ∧ w'.cell? ⟨w.heap.size, 2, none⟩ = some (.slice (some ⟨gF, 0, none⟩) (2 * C.length + 1) cF) ∧ w'.cell? ⟨w.heap.size, 3, none⟩ = some (.slice (some ⟨gT, 0, none⟩) (2 * C.length + 1) cT)) := fun w' hb => by
        have g := (hb.block _ hlw4).trans hkd.out.2.1.1
        exact ⟨QQ0 g rfl, QQ0 g rfl, QQ0 g rfl, QQ0 g rfl⟩
       have HD3 : Hid (Below W4.heap.size W4 W4.drew) := (Below.refl _ _).drew
       have H0 : Hid (∀ w', Below W4.heap.size W4 w' → Below w.heap.size w w') := fun w' hb => HB04.out.trans (hb.mono hsW4)
       have hdk : decide ((k : Int) < 4) = true := by simp; omega
       clear n1 n2 n3 hxa hp hey hes hu hy hQ HN1
       go_upto_region 11 with (fail)
       obtain ⟨t0, t1, t2, t3⟩ := HF.out W4 (Below.refl _ _)
       have hlw4' : w.heap.size < W4.heap.size := hlw4
       apply cut_told
       case h =>
        intro key
        go_region_law (first
            | (go_simp; go_at_call 117; refine (HLV.out _ (H0.out _ (by first | exact HD3.out | exact HD3.out.alloc HD3.out.size _))).mono ?_; rintro e9 w4 ⟨rfl, hb4⟩
               have H4 : Hid (Below W4.heap.size W4 w4) := (by first | exact HD3.out.trans (hb4.mono HD3.out.size) | exact alloc_up HD3.out HD3.out.size hb4)
               try (have hz4 : w4.heap[W4.heap.size]? = some (.cells #[.int .i64 0, .int .i64 0] 120 (0, 0)) := alloc_keptD hb4)
               obtain ⟨l0, l1, l2, l3⟩ := HF.out w4 H4.out
               have l4 : w.heap.size < w4.heap.size := Nat.lt_of_lt_of_le hlw4 H4.out.size
               clear hb4)
            | (go_simp; go_at_call 78; refine (HEV.out _ (H0.out _ (by first | exact H4.out | exact H4.out.alloc H4.out.size _))).mono ?_; rintro e9 w5 ⟨rfl, hb5⟩
               have H5 : Hid (Below W4.heap.size W4 w5) := (by first | exact H4.out.trans (hb5.mono H4.out.size) | exact alloc_up H4.out H4.out.size hb5)
               try (have hz5 : w5.heap[w4.heap.size]? = some (.cells #[.int .i64 0, .int .i64 0] 120 (0, 0)) := alloc_kept hb5)
               try (have hz5 := (hb5.block _ (Array.getElem?_eq_some_iff.1 hz4).1).trans hz4)
               try (have z0 := QQ0 (i := 0) (v := .int .i64 0) hz5 rfl; have z1 := QQ0 (i := 1) (v := .int .i64 0) hz5 rfl; have z2 := QQ2 (i := 0) hz5; have z3 := QQ2 (i := 1) hz5; have z4 := (Array.getElem?_eq_some_iff.1 hz5).1)
               clear hb5))
        all_goals
         clear l0 l1 l2 l3 l4
         first
         | (have HFW : Hid (Below W4.heap.size W4 ((w5.setCell ⟨w4.heap.size, 0, none⟩ (.int .i64 (u : Nat))).setCell ⟨w4.heap.size, 1, none⟩ (.int .i64 (y : Nat))) ∧ ((w5.setCell ⟨w4.heap.size, 0, none⟩ (.int .i64 (u : Nat))).setCell ⟨w4.heap.size, 1, none⟩ (.int .i64 (y : Nat))).heap[w4.heap.size]? = some (.cells #[.int .i64 (u : Nat), .int .i64 (y : Nat)] 120 (0, 0)) ∧ W4.heap.size ≤ w4.heap.size) := ⟨below_st2 H5.out H5.out.size H4.out.size, st_block hz5, H4.out.size⟩
            generalize (w5.setCell ⟨w4.heap.size, 0, none⟩ (.int .i64 (u : Nat))).setCell ⟨w4.heap.size, 1, none⟩ (.int .i64 (y : Nat)) = Wf at HFW ⊢
            generalize w4.heap.size = zF at HFW ⊢)
         | (have HFW : Hid (Below W4.heap.size W4 ((w5.setCell ⟨W4.heap.size, 0, none⟩ (.int .i64 (u : Nat))).setCell ⟨W4.heap.size, 1, none⟩ (.int .i64 (y : Nat))) ∧ ((w5.setCell ⟨W4.heap.size, 0, none⟩ (.int .i64 (u : Nat))).setCell ⟨W4.heap.size, 1, none⟩ (.int .i64 (y : Nat))).heap[W4.heap.size]? = some (.cells #[.int .i64 (u : Nat), .int .i64 (y : Nat)] 120 (0, 0)) ∧ W4.heap.size ≤ W4.heap.size) := ⟨below_st2 H5.out H5.out.size (Nat.le_refl _), st_block hz5, Nat.le_refl _⟩
            generalize (w5.setCell ⟨W4.heap.size, 0, none⟩ (.int .i64 (u : Nat))).setCell ⟨W4.heap.size, 1, none⟩ (.int .i64 (y : Nat)) = Wf at HFW ⊢
            obtain ⟨zF, hzF⟩ : ∃ zF, zF = W4.heap.size := ⟨_, rfl⟩
            rw [← hzF]
            replace HFW : Hid (Below W4.heap.size W4 Wf ∧ Wf.heap[zF]? = some (.cells #[.int .i64 (u : Nat), .int .i64 (y : Nat)] 120 (0, 0)) ∧ W4.heap.size ≤ zF) := (by rw [hzF]; exact HFW.out)
            clear hzF)
         | (have HFW : Hid (Below W4.heap.size W4 (w5.alloc (.cells #[.int .i64 (u : Nat), .int .i64 (y : Nat)] 120)) ∧ (w5.alloc (.cells #[.int .i64 (u : Nat), .int .i64 (y : Nat)] 120)).heap[w5.heap.size]? = some (.cells #[.int .i64 (u : Nat), .int .i64 (y : Nat)] 120 (0, 0)) ∧ W4.heap.size ≤ w5.heap.size) := ⟨H5.out.alloc H5.out.size _, alloc_at rfl, H5.out.size⟩
            generalize w5.alloc (.cells #[.int .i64 (u : Nat), .int .i64 (y : Nat)] 120) = Wf at HFW ⊢
            generalize w5.heap.size = zF at HFW ⊢)
         clear H4 H5
         try clear hz5
         try clear hz4
         try clear z0 z1 z2 z3 z4
         revert Wf zF
         exact key.out
       intro Wf zF HFW
       clear t0 t1 t2 t3
       have HTF : Hid (ToAt w.heap.size (w.heap.size + 1 + 1 + 1) w1.heap.size Q.1 Q (.slice av Q.1.length cv) (.slice au Q.2.length cu) Wf) := hkd.out.1.any (QQ5 HFW.out.1 none)
       have HXF : Hid ((Wf.heap[w.heap.size]? = some (.cells #[.slice (some ⟨b, ob, none⟩) C.length cap, .int .i64 loops, .slice (some ⟨gF, 0, none⟩) (2 * C.length + 1) cF, .slice (some ⟨gT, 0, none⟩) (2 * C.length + 1) cT] 61 (0, 0)) ∧ Wf.heap[w.heap.size + 1]? = some (.cells #[.slice none 0 0, .slice none 0 0] 148 (0, 0))) ∧ Below w.heap.size w Wf) := ⟨⟨(HFW.out.1.block _ hlw4).trans hkd.out.2.1.1, (HFW.out.1.block _ (Array.getElem?_eq_some_iff.1 hkd.out.2.1.2).1).trans hkd.out.2.1.2⟩, HB04.out.trans (HFW.out.1.mono hsW4)⟩
       have hlb4 : w.heap.size + 1 + 1 + 1 < W4.heap.size := (Array.getElem?_eq_some_iff.1 hkd.out.1.box).1
       obtain ⟨mm, D, hMo, hml, hND⟩ := HTF.out.map
       have HMO : Hid (OwnM Wf w1.heap.size mm D) := hMo
       have hm4 : w1.heap.size < W4.heap.size := by
        obtain ⟨m0, D0, ⟨es, cl, hh, -⟩, -, -⟩ := hkd.out.1.map
        exact (Array.getElem?_eq_some_iff.1 hh).1
       have hzF := HFW.out.2.2
       have hzl : zF < Wf.heap.size := (Array.getElem?_eq_some_iff.1 HFW.out.2.1).1
       have hsF : W4.heap.size ≤ Wf.heap.size := HFW.out.1.size
       have f0 : Wf.cell? ⟨zF, 0, none⟩ = some (.int .i64 (u : Nat)) := QQ0 HFW.out.2.1 rfl
       have f1 : Wf.cell? ⟨zF, 1, none⟩ = some (.int .i64 (y : Nat)) := QQ0 HFW.out.2.1 rfl
       have b1 : Wf.cell? ⟨w.heap.size + 1 + 1 + 1, 1, none⟩ = some (.slice au Q.2.length cu) := QQ0 HTF.out.box rfl
       have b0 : Wf.cell? ⟨w.heap.size + 1 + 1 + 1, 0, none⟩ = some (.slice av Q.1.length cv) := QQ0 HTF.out.box rfl
       have hlbF : w.heap.size + 1 + 1 + 1 < Wf.heap.size := by omega
       have hu63 : -9223372036854775808 ≤ (u : Int) ∧ (u : Int) ≤ 9223372036854775807 := by omega
       clear hMo hkd HF H0 HLV HEV HD3
       by_cases hxq : u ∈ Q.1
       · have HHAS : Hid (Maps.has D (.int .i64 (u : Nat)) = true) := (by rw [(hND u).1]; exact decide_eq_true hxq : Maps.has D (.int .i64 (u : Nat)) = true)
         obtain ⟨r, hr⟩ : ∃ r, Q.1.idxOf u = r := ⟨_, rfl⟩
         have HCO : Hid (coefOf D (u : Nat) = (r : Int)) := (by rw [(hND u).2 hxq, hr] : coefOf D (u : Nat) = (r : Int))
         rw [if_pos hxq, hr] at HNE
         clear hr hND
         go_upto_region 17 with (first | (at_lookup; refine wpList_lookup_own_ok_int _ rfl _ _ 143 rfl 3 3 .i64 law3 Try.underlying143 Try.underlying3 (zero3 _) w1.heap.size mm D rfl HMO.out _ _ rfl (keyOf_int_mk Try.underlying3 (WalkArith.wf_i64 hu63)) ?_; intro c9 hat hwc; rw [HHAS.out]; obtain rfl : c9 = (r : Int) := (coefOf_look hat).symm.trans HCO.out; clear hat hwc))
         go_wp2_with (first | (at_builtin; refine wpList_append_lies _ rfl _ _ 46 rfl w.heap.size 3 i0 (.int .i64 0) 1 8 Try.underlying46 hi hz0 hz1 hz2 rfl (by decide) _ Q.2.length (intsV Q.2) rfl (HTF.out.cod.alloc _) ⟨Wf.heap.size, 0, none⟩ 2 2 [.int .i64 (r : Nat), .int .i64 (y : Nat)] rfl rfl (cells_two _ _ _ _) (ints_two _ _) (by decide) (by unfold maxLen; omega) (by omega) (by simp; omega) _ rfl ?_; intro g9 cap9 w9 hown9 hg9 hl9 hlt9; refine Hid.out ?_))
         refine Lib.hid ?_
         obtain ⟨hbx9, hto9⟩ := (HTF.out.any (World.grownBy_alloc Wf (.cells #[.int .i64 (r : Nat), .int .i64 (y : Nat)] 3) none)).code (xs := [(r : Int), (y : Int)]) (k := Q.2.length + 2) (by simp) (by simpa [intsV] using hown9) hg9 hl9 rfl
         have HTN : Hid (ToAt w.heap.size (w.heap.size + 1 + 1 + 1) w1.heap.size (teK C i P (k + 1)).1 (teK C i P (k + 1)) (.slice av Q.1.length cv) (.slice (some ⟨g9, 0, none⟩) (Q.2.length + 2) cap9) (w9.setCell ⟨w.heap.size + 1 + 1 + 1, 1, none⟩ (.slice (some ⟨g9, 0, none⟩) (Q.2.length + 2) cap9))) := (by rw [HNE.out]; exact hto9 : ToAt w.heap.size (w.heap.size + 1 + 1 + 1) w1.heap.size (teK C i P (k + 1)).1 (teK C i P (k + 1)) (.slice av Q.1.length cv) (.slice (some ⟨g9, 0, none⟩) (Q.2.length + 2) cap9) (w9.setCell ⟨w.heap.size + 1 + 1 + 1, 1, none⟩ (.slice (some ⟨g9, 0, none⟩) (Q.2.length + 2) cap9)))
         have HXN : Hid (((w9.setCell ⟨w.heap.size + 1 + 1 + 1, 1, none⟩ (.slice (some ⟨g9, 0, none⟩) (Q.2.length + 2) cap9)).heap[w.heap.size]? = some (.cells #[.slice (some ⟨b, ob, none⟩) C.length cap, .int .i64 loops, .slice (some ⟨gF, 0, none⟩) (2 * C.length + 1) cF, .slice (some ⟨gT, 0, none⟩) (2 * C.length + 1) cT] 61 (0, 0)) ∧ (w9.setCell ⟨w.heap.size + 1 + 1 + 1, 1, none⟩ (.slice (some ⟨g9, 0, none⟩) (Q.2.length + 2) cap9)).heap[w.heap.size + 1]? = some (.cells #[.slice none 0 0, .slice none 0 0] 148 (0, 0))) ∧ Below w.heap.size w (w9.setCell ⟨w.heap.size + 1 + 1 + 1, 1, none⟩ (.slice (some ⟨g9, 0, none⟩) (Q.2.length + 2) cap9))) := ⟨⟨keepBox HTF.out.cod HXF.out.1.1 (by decide) (by omega) hg9, keepBox HTF.out.cod HXF.out.1.2 (by decide) (by omega) hg9⟩, keepBelow HTF.out.cod HXF.out.2 (by omega) (by omega) hg9⟩
         have r0 : w9.cell? ⟨w.heap.size + 1 + 1 + 1, 1, none⟩ = some (.slice au Q.2.length cu) := QQ0 hbx9 rfl
         have r1 : w9.frozen? ⟨w.heap.size + 1 + 1 + 1, 1, none⟩ = false := QQ2 hbx9
         have r2 : w.heap.size + 1 + 1 + 1 < w9.heap.size := (Array.getElem?_eq_some_iff.1 hbx9).1
         clear hown9 hg9 hl9 hlt9 hbx9 hto9 f0 f1 b0 b1
         go_wp2
         go_roundw
         case rel => exact ⟨k + 1, _, _, by omega, by go_num, HTN.out, HXN.out⟩
         case measure => simp only [intOf]; omega
       · have HHAS : Hid (Maps.has D (.int .i64 (u : Nat)) = false) := (by rw [(hND u).1]; exact decide_eq_false hxq : Maps.has D (.int .i64 (u : Nat)) = false)
         have hidx : (Q.1 ++ [u]).idxOf u = Q.1.length := by rw [List.idxOf_append, if_neg hxq]; simp
         rw [if_neg hxq, hidx] at HNE
         have HND : Hid (NumsD D Q.1) := hND
         have hq63 : -9223372036854775808 ≤ ((Q.1.length : Nat) : Int) ∧ ((Q.1.length : Nat) : Int) ≤ 9223372036854775807 := by omega
         clear hidx hND
         go_upto_region 16 with (first
          | (at_lookup; refine wpList_lookup_own_ok_int _ rfl _ _ 143 rfl 3 3 .i64 law3 Try.underlying143 Try.underlying3 (zero3 _) w1.heap.size mm D rfl HMO.out _ _ rfl (keyOf_int_mk Try.underlying3 (WalkArith.wf_i64 hu63)) ?_; intro c9 hat hwc; rw [HHAS.out]; clear hat hwc)
          | (at_mapUpdate; refine wpList_mapUpdate_own _ rfl _ _ _ 143 rfl 3 3 law3 Try.underlying143 _ w1.heap.size mm _ rfl HMO.out (by unfold maxLen; omega) _ _ _ rfl rfl (keyOf_int_mk Try.underlying3 (WalkArith.wf_i64 hu63)) _ [] (plainElem_int Try.underlying3 (WalkArith.wf_i64 hq63)) ?_; intro w6 hown6 hg6; go_frame))
         have HT6 : Hid (ToAt w.heap.size (w.heap.size + 1 + 1 + 1) w1.heap.size (Q.1 ++ [u]) Q (.slice av Q.1.length cv) (.slice au Q.2.length cu) w6) := HTF.out.num HMO.out hml HND.out hxq hown6 hg6
         have hs1' := HS1.out
         have HX6 : Hid ((w6.heap[w.heap.size]? = some (.cells #[.slice (some ⟨b, ob, none⟩) C.length cap, .int .i64 loops, .slice (some ⟨gF, 0, none⟩) (2 * C.length + 1) cF, .slice (some ⟨gT, 0, none⟩) (2 * C.length + 1) cT] 61 (0, 0)) ∧ w6.heap[w.heap.size + 1]? = some (.cells #[.slice none 0 0, .slice none 0 0] 148 (0, 0))) ∧ Below w.heap.size w w6) := ⟨⟨(hg6.block _ (by omega) (fun e => by have := Option.some.inj e; omega)).trans HXF.out.1.1, (hg6.block _ (by omega) (fun e => by have := Option.some.inj e; omega)).trans HXF.out.1.2⟩, HXF.out.2.grown hg6 (by omega) (fun q hq => by have := Option.some.inj hq; omega)⟩
         have HZ6 : Hid (w6.heap[zF]? = some (.cells #[.int .i64 (u : Nat), .int .i64 (y : Nat)] 120 (0, 0))) := (hg6.block _ hzl (fun e => by have := Option.some.inj e; omega)).trans HFW.out.2.1
         have hs6 : Wf.heap.size ≤ w6.heap.size := hg6.size
         clear hown6 hg6 f0 f1 b0 b1 hs1'
         have f0 : w6.cell? ⟨zF, 0, none⟩ = some (.int .i64 (u : Nat)) := QQ0 HZ6.out rfl
         have b0 : w6.cell? ⟨w.heap.size + 1 + 1 + 1, 0, none⟩ = some (.slice av Q.1.length cv) := QQ0 HT6.out.box rfl
         have hz6 : zF < w6.heap.size := by omega
         have hb6 : w.heap.size + 1 + 1 + 1 < w6.heap.size := by omega
         go_upto_region 17 with (first
          | (at_builtin; refine wpList_append_lies _ rfl _ _ 46 rfl w.heap.size 3 i0 (.int .i64 0) 1 8 Try.underlying46 hi hz0 hz1 hz2 rfl (by decide) _ Q.1.length (nats Q.1) rfl (HT6.out.ord.alloc _) ⟨w6.heap.size, 0, none⟩ 1 1 [.int .i64 (u : Nat)] rfl rfl (new_cell1 _ _ _) (int_one _) (by decide) (by unfold maxLen; omega) (by omega) (by simp; omega) _ rfl ?_; intro g7 cap7 w7 hown7 hg7 hl7 hlt7
             obtain ⟨hbx7, hto7⟩ := (HT6.out.any (World.grownBy_alloc w6 (.cells #[.int .i64 (u : Nat)] 3) none)).order (x := u) (k := Q.1.length + 1) (by simp) (by simpa [nats] using hown7) hg7 hl7 rfl
             have HT7 : Hid (ToAt w.heap.size (w.heap.size + 1 + 1 + 1) w1.heap.size (Q.1 ++ [u]) (Q.1 ++ [u], Q.2) (.slice (some ⟨g7, 0, none⟩) (Q.1.length + 1) cap7) (.slice au Q.2.length cu) (w7.setCell ⟨w.heap.size + 1 + 1 + 1, 0, none⟩ (.slice (some ⟨g7, 0, none⟩) (Q.1.length + 1) cap7))) := hto7
             have HX7 : Hid (((w7.setCell ⟨w.heap.size + 1 + 1 + 1, 0, none⟩ (.slice (some ⟨g7, 0, none⟩) (Q.1.length + 1) cap7)).heap[w.heap.size]? = some (.cells #[.slice (some ⟨b, ob, none⟩) C.length cap, .int .i64 loops, .slice (some ⟨gF, 0, none⟩) (2 * C.length + 1) cF, .slice (some ⟨gT, 0, none⟩) (2 * C.length + 1) cT] 61 (0, 0)) ∧ (w7.setCell ⟨w.heap.size + 1 + 1 + 1, 0, none⟩ (.slice (some ⟨g7, 0, none⟩) (Q.1.length + 1) cap7)).heap[w.heap.size + 1]? = some (.cells #[.slice none 0 0, .slice none 0 0] 148 (0, 0))) ∧ Below w.heap.size w (w7.setCell ⟨w.heap.size + 1 + 1 + 1, 0, none⟩ (.slice (some ⟨g7, 0, none⟩) (Q.1.length + 1) cap7))) := ⟨⟨keepBox HT6.out.ord HX6.out.1.1 (by decide) (by omega) hg7, keepBox HT6.out.ord HX6.out.1.2 (by decide) (by omega) hg7⟩, keepBelow HT6.out.ord HX6.out.2 (by omega) (by omega) hg7⟩
             have HZ7 : Hid ((w7.setCell ⟨w.heap.size + 1 + 1 + 1, 0, none⟩ (.slice (some ⟨g7, 0, none⟩) (Q.1.length + 1) cap7)).heap[zF]? = some (.cells #[.int .i64 (u : Nat), .int .i64 (y : Nat)] 120 (0, 0))) := keepBox HT6.out.ord HZ6.out (by decide) (by omega) hg7
             have r0 : w7.cell? ⟨w.heap.size + 1 + 1 + 1, 0, none⟩ = some (.slice av Q.1.length cv) := QQ0 hbx7 rfl
             have r1 : w7.frozen? ⟨w.heap.size + 1 + 1 + 1, 0, none⟩ = false := QQ2 hbx7
             have r2 : w.heap.size + 1 + 1 + 1 < w7.heap.size := (Array.getElem?_eq_some_iff.1 hbx7).1
             have hs7 : w6.heap.size + 1 ≤ w7.heap.size := by have := hg7.size; simpa using this
             clear hown7 hg7 hl7 hlt7 hbx7 hto7))
         have hs8 : w6.heap.size ≤ (w7.setCell ⟨w.heap.size + 1 + 1 + 1, 0, none⟩ (.slice (some ⟨g7, 0, none⟩) (Q.1.length + 1) cap7)).heap.size := by simp; omega
         clear r0 r1 r2 hs7 f0 b0
         generalize (w7.setCell ⟨w.heap.size + 1 + 1 + 1, 0, none⟩ (.slice (some ⟨g7, 0, none⟩) (Q.1.length + 1) cap7)) = X8 at HT7 HX7 HZ7 hs8 ⊢
         have f1 : X8.cell? ⟨zF, 1, none⟩ = some (.int .i64 (y : Nat)) := QQ0 HZ7.out rfl
         have b1 : X8.cell? ⟨w.heap.size + 1 + 1 + 1, 1, none⟩ = some (.slice au Q.2.length cu) := QQ0 HT7.out.box rfl
         have hz8 : zF < X8.heap.size := by omega
         have hb8 : w.heap.size + 1 + 1 + 1 < X8.heap.size := by omega
         go_wp2_with (first | (at_builtin; refine wpList_append_lies _ rfl _ _ 46 rfl w.heap.size 3 i0 (.int .i64 0) 1 8 Try.underlying46 hi hz0 hz1 hz2 rfl (by decide) _ Q.2.length (intsV Q.2) rfl (HT7.out.cod.alloc _) ⟨X8.heap.size, 0, none⟩ 2 2 [.int .i64 (Q.1.length : Nat), .int .i64 (y : Nat)] rfl rfl (cells_two _ _ _ _) (ints_two _ _) (by decide) (by unfold maxLen; omega) (by omega) (by simp; omega) _ rfl ?_; intro g9 cap9 w9 hown9 hg9 hl9 hlt9; refine Hid.out ?_))
         refine Lib.hid ?_
         obtain ⟨hbx9, hto9⟩ := (HT7.out.any (World.grownBy_alloc X8 (.cells #[.int .i64 (Q.1.length : Nat), .int .i64 (y : Nat)] 3) none)).code (xs := [(Q.1.length : Int), (y : Int)]) (k := Q.2.length + 2) (by simp) (by simpa [intsV] using hown9) hg9 hl9 rfl
         have HTN : Hid (ToAt w.heap.size (w.heap.size + 1 + 1 + 1) w1.heap.size (teK C i P (k + 1)).1 (teK C i P (k + 1)) (.slice (some ⟨g7, 0, none⟩) (Q.1.length + 1) cap7) (.slice (some ⟨g9, 0, none⟩) (Q.2.length + 2) cap9) (w9.setCell ⟨w.heap.size + 1 + 1 + 1, 1, none⟩ (.slice (some ⟨g9, 0, none⟩) (Q.2.length + 2) cap9))) := (by rw [HNE.out]; exact hto9 : ToAt w.heap.size (w.heap.size + 1 + 1 + 1) w1.heap.size (teK C i P (k + 1)).1 (teK C i P (k + 1)) (.slice (some ⟨g7, 0, none⟩) (Q.1.length + 1) cap7) (.slice (some ⟨g9, 0, none⟩) (Q.2.length + 2) cap9) (w9.setCell ⟨w.heap.size + 1 + 1 + 1, 1, none⟩ (.slice (some ⟨g9, 0, none⟩) (Q.2.length + 2) cap9)))
         have HXN : Hid (((w9.setCell ⟨w.heap.size + 1 + 1 + 1, 1, none⟩ (.slice (some ⟨g9, 0, none⟩) (Q.2.length + 2) cap9)).heap[w.heap.size]? = some (.cells #[.slice (some ⟨b, ob, none⟩) C.length cap, .int .i64 loops, .slice (some ⟨gF, 0, none⟩) (2 * C.length + 1) cF, .slice (some ⟨gT, 0, none⟩) (2 * C.length + 1) cT] 61 (0, 0)) ∧ (w9.setCell ⟨w.heap.size + 1 + 1 + 1, 1, none⟩ (.slice (some ⟨g9, 0, none⟩) (Q.2.length + 2) cap9)).heap[w.heap.size + 1]? = some (.cells #[.slice none 0 0, .slice none 0 0] 148 (0, 0))) ∧ Below w.heap.size w (w9.setCell ⟨w.heap.size + 1 + 1 + 1, 1, none⟩ (.slice (some ⟨g9, 0, none⟩) (Q.2.length + 2) cap9))) := ⟨⟨keepBox HT7.out.cod HX7.out.1.1 (by decide) (by omega) hg9, keepBox HT7.out.cod HX7.out.1.2 (by decide) (by omega) hg9⟩, keepBelow HT7.out.cod HX7.out.2 (by omega) (by omega) hg9⟩
         have r0 : w9.cell? ⟨w.heap.size + 1 + 1 + 1, 1, none⟩ = some (.slice au Q.2.length cu) := QQ0 hbx9 rfl
         have r1 : w9.frozen? ⟨w.heap.size + 1 + 1 + 1, 1, none⟩ = false := QQ2 hbx9
         have r2 : w.heap.size + 1 + 1 + 1 < w9.heap.size := (Array.getElem?_eq_some_iff.1 hbx9).1
         clear hown9 hg9 hl9 hlt9 hbx9 hto9 f1 b1
         go_wp2
         go_roundw
         case rel => exact ⟨k + 1, _, _, by omega, by go_num, HTN.out, HXN.out⟩
         case measure => simp only [intOf]; omega
     · obtain rfl : k = 4 := by omega
       go_wp2
       go_roundw
       case rel =>
        refine ⟨i + 1, .slice av (teK C i P 4).1.length cv, .slice au (teK C i P 4).2.length cu, ?_, by go_num, ?_⟩
        · rw [HI1.out]; have := (HPR.out 4).length_le; omega
        · rw [HI1.out]; exact hkd.out
       case measure => simp only [intOf]; omega
  · have hie : (teI C f i).1.length = i := by omega
    have HTI : Hid (te C f = teI C f i) := HTE.out i hie
    have hR := hto.out.2.1.2
    have r0 : W3.cell? ⟨w.heap.size + 1, 0, none⟩ = some (.slice none 0 0) := QQ0 hR rfl
    have r1 : W3.cell? ⟨w.heap.size + 1, 1, none⟩ = some (.slice none 0 0) := QQ0 hR rfl
    have r2 : W3.frozen? ⟨w.heap.size + 1, 0, none⟩ = false := QQ2 hR
    have r3 : W3.frozen? ⟨w.heap.size + 1, 1, none⟩ = false := QQ2 hR
    have r4 : w.heap.size + 1 < W3.heap.size := (Array.getElem?_eq_some_iff.1 hR).1
    have HR : Hid (W3.heap[w.heap.size + 1]? = some (.cells #[.slice none 0 0, .slice none 0 0] 148 (0, 0))) := hR
    obtain ⟨P, hP⟩ : ∃ P, teI C f i = P := ⟨_, rfl⟩
    rw [hP] at hto hil hin3 b0 b1 hie HTI
    have hdi : decide ((i : Int) < (P.1.length : Int)) = false := decide_eq_false (by omega)
    have hdi2 : decide (i < P.1.length) = false := decide_eq_false (by omega)
    clear hP hR hie
    go_wp2
    have hX := st_block (a := .slice ao P.1.length co) (b := .slice ac P.2.length cc) HR.out
    have x0 := QQ0 (i := 0) (v := .slice ao P.1.length co) hX rfl
    have x1 := QQ0 (i := 1) (v := .slice ac P.2.length cc) hX rfl
    have hG : W3.grownBy ((W3.setCell ⟨w.heap.size + 1, 0, none⟩ (.slice ao P.1.length co)).setCell ⟨w.heap.size + 1, 1, none⟩ (.slice ac P.2.length cc)) (some (w.heap.size + 1)) := QQ8 (QQ7 _ _ _ _) (QQ7 _ _ _ _)
    refine bodyPost_ret (v := .agg #[.slice ao P.1.length co, .slice ac P.2.length cc]) (by simp [results, Try.results119, go_sem, x0, x1]) rfl ⟨_, _, rfl, ?_, ?_, ?_⟩
    · rw [HTI.out]
      exact hto.out.1.ord.kept hG (Or.inr (boxNe hto.out.1.ord HR.out (by decide)))
    · rw [HTI.out]
      exact hto.out.1.cod.kept hG (Or.inr (boxNe hto.out.1.cod HR.out (by decide)))
    · exact hto.out.2.2.grown hG hto.out.2.2.size (fun q hq => by have := Option.some.inj hq; omega)
end Go.Proofs.Ytagaajlbkfkaiaa

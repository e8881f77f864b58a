/- The walk of braid.form.trim. -/
import Derived.Test.YthlmkoiilgjflaaGA5
namespace Go.Proofs.Ythlmkoiilgjflaa
open Go.RowKit

/-- A row under way, beside a form. -/
structure LfAt (W : World) (L0 n : Nat) (a : Option Addr) (m cap : Nat) (L : List (List Nat)) : Prop where
  ln : L.length = m
  own : ∃ ys : List Value, W.ownsRow L0 22 1 (.slice a m cap) m ys ∧ ∀ j, j < L.length → RdT W (ys.getD j (.bool false)) n (intsV (eI n (L.getD j [])))
/-- The form and the row under way. -/
structure TrAt (w : World) (B hb n : Nat) (p : Int) (a : Option Addr) (cap : Nat) (X : List (List Nat)) (a4 : Option Addr) (m4 cap4 : Nat) (L : List (List Nat)) (W : World) : Prop where
  fm : FmAt W B hb n p a cap X
  lf : LfAt W w.heap.size n a4 m4 cap4 L
  low : ∀ q, (Value.slice a X.length cap).ownBlock = some q → q < w.heap.size
  hbw : hb < w.heap.size
  bel : Below hb w W
  ge : w.heap.size ≤ W.heap.size
theorem FmAt.other {W W' : World} {B hb n : Nat} {p : Int} {a : Option Addr} {cap : Nat} {X : List (List Nat)} {r : Option Nat} (h : FmAt W B hb n p a cap X) (hg : W.grownBy W' r) (hr : NoInt W r) (h1 : ∀ q, r = some q → q ≠ hb) (h2 : ∀ q, r = some q → (Value.slice a X.length cap).ownBlock ≠ some q) : FmAt W' B hb n p a cap X := by
  obtain ⟨ys, h3, h4⟩ := h.own
  refine ⟨(hg.block hb h.boxlt (fun e => h1 hb e.symm rfl)).trans h.box, ⟨ys, h3.kept hg ?_, fun j hj => (h4 j hj).grow hg hr⟩, h.lt, Nat.le_trans h.le hg.size⟩
  cases r with
  | none =>
    cases e : (Value.slice a X.length cap).ownBlock with
    | none => exact Or.inl rfl
    | some q => exact Or.inr (by simp)
  | some q => exact Or.inr (h2 q rfl)
theorem TrAt.any {w W W' : World} {B hb n : Nat} {p : Int} {a : Option Addr} {cap : Nat} {X : List (List Nat)} {a4 : Option Addr} {m4 cap4 : Nat} {L : List (List Nat)} (h : TrAt w B hb n p a cap X a4 m4 cap4 L W) (hg : W.grownBy W' none) : TrAt w B hb n p a cap X a4 m4 cap4 L W' := by
  obtain ⟨h1, ys, h2, h3⟩ := h.lf
  exact ⟨h.fm.any hg, ⟨h1, ys, own_any h2 hg, fun j hj => (h3 j hj).grow hg (noInt_none _)⟩, h.low, h.hbw, h.bel.grown hg (Nat.le_of_lt h.fm.boxlt) (fun k hk => by cases hk), Nat.le_trans h.ge hg.size⟩
theorem TrAt.setP {w W : World} {B hb n : Nat} {p : Int} {a : Option Addr} {cap : Nat} {X : List (List Nat)} {a4 : Option Addr} {m4 cap4 : Nat} {L : List (List Nat)} (h : TrAt w B hb n p a cap X a4 m4 cap4 L W) (p' : Int) : TrAt w B hb n p' a cap X a4 m4 cap4 L (W.setCell ⟨hb, 1, none⟩ (.int .i64 p')) := by
  obtain ⟨h1, ys, h2, h3⟩ := h.lf
  obtain ⟨h4, h5⟩ := h.fm.setP p'
  have hni : NoInt W (some hb) := noInt_at h.fm.box (by decide)
  refine ⟨h4, ⟨h1, ys, h2.kept h5 ?_, fun j hj => (h3 j hj).grow h5 hni⟩, h.low, h.hbw, h.bel.grown h5 (Nat.le_of_lt h.fm.boxlt) (fun k hk => by have := Option.some.inj hk; omega), Nat.le_trans h.ge h5.size⟩
  cases e : (Value.slice a4 m4 cap4).ownBlock with
  | none => exact Or.inl rfl
  | some q => exact Or.inr (fun e2 => by have h6 := h2.lt q e; have h7 : q = hb := Option.some.inj e2; have := h.hbw; omega)
/-- One more in the row under way. -/
theorem TrAt.push {w W w8 : World} {B hb n : Nat} {p : Int} {a : Option Addr} {cap : Nat} {X : List (List Nat)} {a4 : Option Addr} {m4 cap4 : Nat} {L : List (List Nat)} {ys : List Value} {v v8 : Value} {r : List Nat} (h : TrAt w B hb n p a cap X a4 m4 cap4 L W) (hy : W.ownsRow w.heap.size 22 1 (.slice a4 m4 cap4) m4 ys) (hz : ∀ j, j < L.length → RdT W (ys.getD j (.bool false)) n (intsV (eI n (L.getD j [])))) (hr : RdT W v n (intsV (eI n r)))
    (ho : w8.ownsRow w.heap.size 22 1 v8 (m4 + 1) (ys ++ [v])) (hg : (W.alloc (.cells #[v] 22)).grownBy w8 (Value.slice a4 m4 cap4).ownBlock) :
    ∃ a8 cap8, v8 = .slice a8 (m4 + 1) cap8 ∧ TrAt w B hb n p a cap X a8 (m4 + 1) cap8 (L ++ [r]) w8 := by
  obtain ⟨a8, cap8, rfl⟩ := own_capS ho
  have hA : W.grownBy (W.alloc (.cells #[v] 22)) none := World.grownBy_alloc _ _ _
  have hTA := h.any hA
  have hni : NoInt (W.alloc (.cells #[v] 22)) (Value.slice a4 m4 cap4).ownBlock := own_noInt (own_any hy hA)
  have hq : ∀ q, (Value.slice a4 m4 cap4).ownBlock = some q → w.heap.size ≤ q := fun q e => (hy.lt q e).1
  have hlen : ys.length = L.length := by rw [hy.1, Nat.mul_one, h.lf.ln]
  refine ⟨a8, cap8, rfl, hTA.fm.other hg hni (fun q e e2 => by have := hq q e; have := h.hbw; omega) (fun q e e2 => by have := hq q e; have := h.low q e2; omega), ⟨by rw [List.length_append, h.lf.ln]; rfl, ys ++ [v], ho, fun j hj => ?_⟩, h.low, h.hbw, hTA.bel.grown hg (Nat.le_of_lt hTA.fm.boxlt) (fun k hk => by have := hq k hk; have := h.hbw; omega), Nat.le_trans hTA.ge hg.size⟩
  rw [List.length_append, List.length_singleton] at hj
  by_cases e : j < L.length
  · rw [List.getD_eq_getElem?_getD, List.getElem?_append_left (by omega), ← List.getD_eq_getElem?_getD, List.getD_eq_getElem?_getD (l := L ++ [r]), List.getElem?_append_left e, ← List.getD_eq_getElem?_getD]
    exact ((hz j e).grow hA (noInt_none _)).grow hg hni
  · obtain rfl : j = L.length := by omega
    rw [List.getD_eq_getElem?_getD, List.getElem?_append_right (by omega), List.getD_eq_getElem?_getD (l := L ++ [r]), List.getElem?_append_right (by omega), hlen, Nat.sub_self]
    exact (hr.grow hA (noInt_none _)).grow hg hni
/-- The row under way laid into the form. -/
theorem TrAt.fin {w W : World} {B hb n : Nat} {p : Int} {a : Option Addr} {cap : Nat} {X : List (List Nat)} {a4 : Option Addr} {m4 cap4 : Nat} {L : List (List Nat)} (h : TrAt w B hb n p a cap X a4 m4 cap4 L W) (hB : B ≤ w.heap.size) : FmAt (W.setCell ⟨hb, 2, none⟩ (.slice a4 m4 cap4)) B hb n p a4 cap4 L ∧ Below hb w (W.setCell ⟨hb, 2, none⟩ (.slice a4 m4 cap4)) := by
  obtain ⟨h1, ys, h2, h3⟩ := h.lf
  have hg := set_grown W hb 2 (.slice a4 m4 cap4)
  have hni : NoInt W (some hb) := noInt_at h.fm.box (by decide)
  refine ⟨⟨by rw [set_block h.fm.box, h1]; rfl, ⟨ys, ?_, fun j hj => (h3 j hj).grow hg hni⟩, h.fm.lt, Nat.le_trans h.fm.le hg.size⟩, h.bel.grown hg (Nat.le_of_lt h.fm.boxlt) (fun k hk => by have := Option.some.inj hk; omega)⟩
  rw [h1]
  refine own_lowG (h2.kept hg ?_) hB
  cases e : (Value.slice a4 m4 cap4).ownBlock with
  | none => exact Or.inl rfl
  | some q => exact Or.inr (fun e2 => by have h6 := h2.lt q e; have h7 : q = hb := Option.some.inj e2; have := h.hbw; omega)

set_option maxHeartbeats 8000000 in
set_option maxRecDepth 100000 in
theorem trim_any (B hb n cap : Nat) (p : Int) (a : Option Addr) (X : List (List Nat)) (w : World) (h2 : 2 ≤ n) (h6 : n ≤ 6) (hp : -1000 ≤ p ∧ p ≤ 1000) (hX : X.length ≤ 100) (hA : AllP n X) (h : FmAt w B hb n p a cap X) :
    Calls Try.prog 18 #[.pointer (some ⟨hb, 0, none⟩)] w fun e w' => e = .returned (.tuple #[]) ∧ (∃ a' cap', FmAt w' B hb n (p + ((nfL n X.reverse).1 : Nat)) a' cap' (nfL n X.reverse).2.reverse) ∧ Below hb w w' := by
  obtain ⟨i2, hki, hz0, hz1, hz2⟩ := info_parts infoInts
  have HF0 := hid_g h
  have HAP := hid_g hA
  have HDL := hid_g (fun W => delta_any n W h2 h6)
  have HPL := hid_g (fun W => places_any n W h6)
  have lb0 : hb < w.heap.size := h.boxlt
  have HS : Hid (∀ W, Below w.heap.size w W → (fun Y : World => Y.cell? ⟨hb, 0, none⟩ = some (.int .i64 (n : Nat)) ∧ hb < Y.heap.size) W) := fun W hW => ⟨bcell hW HF0.out.boxlt HF0.out.cells.1, Nat.lt_of_lt_of_le HF0.out.boxlt hW.size⟩
  have HD : Hid (Below w.heap.size w w.drew) := (Below.refl _ _).drew
  clear h hA
  go_enter Try.func18, Try.ntmps18
  go_upto_region 0 with (fail)
  refine rhd HS HD.out (fun hHeld => ?_)
  refine tq 7 0 (h := ?_)
  simp only [List.setIfInBounds_toArray, List.set_cons_succ, List.set_cons_zero]
  refine tq 8 1 (h := ?_)
  simp only [List.setIfInBounds_toArray, List.set_cons_succ, List.set_cons_zero]
  refine tq 9 2 (h := ?_)
  simp only [List.setIfInBounds_toArray, List.set_cons_succ, List.set_cons_zero]
  refine tq 10 3 (h := ?_)
  simp only [List.setIfInBounds_toArray, List.set_cons_succ, List.set_cons_zero]
  refine tq 12 5 (h := ?_)
  simp only [List.setIfInBounds_toArray, List.set_cons_succ, List.set_cons_zero]
  refine tq 13 6 (h := ?_)
  simp only [List.setIfInBounds_toArray, List.set_cons_succ, List.set_cons_zero]
  refine tq 14 7 (h := ?_)
  simp only [List.setIfInBounds_toArray, List.set_cons_succ, List.set_cons_zero]
  refine tq 15 8 (h := ?_)
  simp only [List.setIfInBounds_toArray, List.set_cons_succ, List.set_cons_zero]
  clear hHeld
  have HDD := hid_g (HDL.out w.drew)
  refine rd1 4 ?_
  intro K0 hK0
  go_simp
  go_wp2_with (first | (go_at_call 24; refine HDD.out.mono ?_; rintro e9 w5 ⟨g5, c5, rfl, hr5, hb5⟩))
  have HB5 := hid_g (HD.out.trans (hb5.mono HD.out.size))
  have HR5 := hid_g hr5
  have HSZ5 : Hid (w.heap.size ≤ w5.heap.size) := HB5.out.size
  refine hK0.out _ _ (HS.out _ HB5.out) (fun hHeld => ?_)
  clear hK0 K0 hHeld hr5 hb5 HDD
  (try simp only [Act.put])
  (try simp only [List.getElem_toArray])
  (try simp only [List.getElem_cons_succ])
  (try simp only [List.getElem_cons_zero])
  (try simp only [List.setIfInBounds_toArray, List.set_cons_succ, List.set_cons_zero])
  have HPP := hid_g (HPL.out w5)
  refine rd1 9 ?_
  intro K0 hK0
  go_simp
  go_wp2_with (first | (go_at_call 22; refine HPP.out.mono ?_; rintro e9 w6 ⟨a6, c6, rfl, hr6, hg6⟩))
  obtain ⟨g6, c6', e6, -⟩ := own_block hr6 (by omega)
  injection e6 with e61 e62 e63
  subst e61 e63
  rw [eI_pid] at hr6
  have HB6 : Hid (Below w.heap.size w w6) := HB5.out.grown hg6 HB5.out.size (fun k hk => by cases hk)
  have HR6 := hid_g hr6
  have HR56 := hid_g (own_any HR5.out hg6)
  refine hK0.out _ _ (HS.out _ HB6.out) (fun hHeld => ?_)
  clear hK0 K0 hr6 hg6 HPP HR5 HB5
  (try simp only [Act.put])
  (try simp only [List.getElem_toArray])
  (try simp only [List.getElem_cons_succ])
  (try simp only [List.getElem_cons_zero])
  (try simp only [List.setIfInBounds_toArray, List.set_cons_succ, List.set_cons_zero])
  refine tq 2 10 (h := ?_)
  simp only [List.setIfInBounds_toArray, List.set_cons_succ, List.set_cons_zero]
  refine tq 3 11 (h := ?_)
  simp only [List.setIfInBounds_toArray, List.set_cons_succ, List.set_cons_zero]
  refine wpAnyH_done (by kernel_rfl) ?_ _
  clear hHeld
  have HLW : Hid (∀ q, (Value.slice a X.length cap).ownBlock = some q → q < w.heap.size) := fun q hq => by
    obtain ⟨ys, hy, -⟩ := HF0.out.own
    exact (hy.lt q hq).2
  have HBLE : Hid (B ≤ w.heap.size) := HF0.out.le
  have HT6 : Hid (TrAt w B hb n p a cap X none 0 0 [] w6) := ⟨HF0.out.any (grown_below HB6.out none), ⟨rfl, [], World.ownsRow_nil _ _ _ _, fun j hj => by simp at hj⟩, HLW.out, lb0, (Below.refl _ _).grown (grown_below HB6.out none) (Nat.le_of_lt lb0) (fun k hk => by cases hk), HB6.out.size⟩
  have HMST : Hid (∀ W, w6.grownBy W none → W.grownBy W none) := fun W _ => World.grownBy.refl _ _
  have HQ5 := hid_g (own_rd HR56.out)
  have HQ6 := hid_g (own_rd HR6.out)
  -- what stands in both rows stays readable: they lie below the later rows
  have HL5 := hid_g (HR56.out.lt g5 rfl)
  have HL6 := hid_g (HR6.out.lt g6 rfl)
  obtain ⟨m, hm⟩ : ∃ m, X.length = m := ⟨_, rfl⟩
  have HM := hid_g hm
  obtain ⟨-, -, c2, -, -⟩ := HT6.out.fm.cells
  have lb6 := HT6.out.fm.boxlt
  rw [hm] at c2 hX
  clear hm HS HD HF0 HB6 HDL HPL HLW HMST
  go_wp2
  clear c2 lb6
  go_loopw [4, 6, 22] (fun v4 v6 v22 wr => ∃ (k m4 cap4 : Nat) (a4 : Option Addr), k ≤ m ∧ m4 ≤ k ∧ v22 = .int .i64 (k : Nat) ∧ v4 = .slice a4 m4 cap4 ∧ Hid (TrAt w B hb n (p + ((trF n X k).1 : Nat)) a cap X a4 m4 cap4 (trF n X k).2 wr) ∧ Hid (wr.ownsRow w.drew.heap.size 3 1 (.slice (some ⟨g5, 0, none⟩) n c5) n (intsV (eI n (pdl n))) ∧ wr.ownsRow w5.heap.size 3 1 (.slice (some ⟨g6, 0, none⟩) n c6) n (intsV (eI n (pid n))))) (fun _ _ v22 _ => m - (intOf v22).toNat)
  case atStart => exact ⟨0, 0, 0, none, Nat.zero_le _, Nat.le_refl _, rfl, rfl, (by have h3 := HT6.out; rw [show p + ((trF n X 0).1 : Nat) = p by show p + ((0 : Nat) : Int) = p; omega]; exact h3), HR56.out, HR6.out⟩
  case round =>
    clear HT6 HR56 HR6 HQ5 HQ6
    rename World => W1
    obtain ⟨k, m4, cap4, a4, hkn, hm4, rfl, rfl, hq, hr⟩ := hrel
    by_cases hk : k < m
    · have hkI : (k : Int) < (m : Int) := by omega
      obtain ⟨g, ea, hgB, hgs, hfz, hrow⟩ := hq.out.fm.row (k := k) (by rw [HM.out]; exact hk)
      obtain ⟨a2, c2, hc2, hr2⟩ := hrow k (by rw [HM.out]; exact hk)
      subst ea
      obtain ⟨f, hf⟩ : ∃ f, X.getD k [] = f := ⟨_, rfl⟩
      have HPF : Hid (IsP n f) := (by rw [← hf]; exact HAP.out _ (getD_mem (by rw [HM.out]; exact hk)) : IsP n f)
      have HNX : Hid (trF n X (k + 1) = tr1 n (trF n X k) f) := (by rw [← hf]; exact trF_next n X k (by rw [HM.out]; exact hk) : trF n X (k + 1) = tr1 n (trF n X k) f)
      have HTB : Hid ((trF n X k).1 + (trF n X k).2.length ≤ k) := trF_le n X k (by rw [HM.out]; exact hkn)
      rw [hf] at hr2
      have HRT : Hid (RdT W1 (.slice a2 n c2) n (intsV (eI n f))) := (by
        obtain ⟨ys, hy1, hy2⟩ := hq.out.fm.own
        have h3 := hy2 k (by rw [HM.out]; exact hk)
        rw [hf] at h3
        have h4 := hy1.cellAt k (by rw [HM.out]; omega)
        rw [hc2] at h4
        have h5 : ys.getD k (.bool false) = .slice a2 n c2 := by rw [List.getD_eq_getElem?_getD, ← h4]; rfl
        rw [h5] at h3
        exact h3)
      clear hf hrow hfz
      have HEQ1 := hid_g (equalI_any n c2 c5 a2 _ _ _ W1 (eI_len n f) (eI_len n (pdl n)) (by omega) hr2 (own_rd hr.out.1))
      have HQ := hid_g hq.out
      have HRR := hid_g hr.out
      clear hq hr hr2
      by_cases e1 : f = pdl n
      · have d1 : decide (eI n f = eI n (pdl n)) = true := decide_eq_true (by rw [e1])
        rw [d1] at HEQ1
        have HE1 := hid_g e1
        clear d1 e1
        go_wp2_with (first
          | (go_at_call 29; refine HEQ1.out.mono ?_; rintro e9 w7 ⟨rfl, hb7⟩; refine Hid.out ?_))
        refine Lib.hid ?_
        have HG7 : Hid (W1.grownBy w7 none) := grown_below hb7 none
        have HQ7 := hid_g (HQ.out.any HG7.out)
        have HR7 : Hid (w7.ownsRow w.drew.heap.size 3 1 (.slice (some ⟨g5, 0, none⟩) n c5) n (intsV (eI n (pdl n))) ∧ w7.ownsRow w5.heap.size 3 1 (.slice (some ⟨g6, 0, none⟩) n c6) n (intsV (eI n (pid n)))) := ⟨own_any HRR.out.1 HG7.out, own_any HRR.out.2 HG7.out⟩
        obtain ⟨-, c1, -, f1, -⟩ := HQ7.out.fm.cells
        have lb7 := HQ7.out.fm.boxlt
        obtain ⟨t, ht⟩ : ∃ t : Nat, (trF n X k).1 = t := ⟨_, rfl⟩
        have HTT : Hid ((trF n X (k + 1)).1 = t + 1 ∧ (trF n X (k + 1)).2 = (trF n X k).2) := (by rw [HNX.out]; unfold tr1; rw [if_pos HE1.out, ← ht]; exact ⟨rfl, rfl⟩ : (trF n X (k + 1)).1 = t + 1 ∧ (trF n X (k + 1)).2 = (trF n X k).2)
        have htb : t ≤ 100 := by have := HTB.out; omega
        rw [ht] at c1
        obtain ⟨pt, hpt⟩ : ∃ pt : Int, p + (t : Int) = pt := ⟨_, rfl⟩
        have hptb : pt ≤ 1100 ∧ -1000 ≤ pt := by omega
        rw [hpt] at c1
        have ewp : IntKind.i64.wrap (pt + 1) = pt + 1 := IntWalk.i64_in _ (by omega)
        have HP8 : Hid (TrAt w B hb n (p + ((trF n X (k + 1)).1 : Nat)) (some ⟨g, 0, none⟩) cap X a4 m4 cap4 (trF n X (k + 1)).2 (w7.setCell ⟨hb, 1, none⟩ (.int .i64 (pt + 1)))) := (by
          rw [HTT.out.1, HTT.out.2, show p + ((t + 1 : Nat) : Int) = pt + 1 by omega]
          exact HQ7.out.setP _)
        have HR8 : Hid ((w7.setCell ⟨hb, 1, none⟩ (.int .i64 (pt + 1))).ownsRow w.drew.heap.size 3 1 (.slice (some ⟨g5, 0, none⟩) n c5) n (intsV (eI n (pdl n))) ∧ (w7.setCell ⟨hb, 1, none⟩ (.int .i64 (pt + 1))).ownsRow w5.heap.size 3 1 (.slice (some ⟨g6, 0, none⟩) n c6) n (intsV (eI n (pid n)))) := (by
          have hgS := set_grown w7 hb 1 (.int .i64 (pt + 1))
          have n1 : g5 ≠ hb := fun e => by have h3 := (HR7.out.1.lt g5 rfl).1; rw [e] at h3; exact absurd lb0 (Nat.not_lt.2 h3)
          have n2 : g6 ≠ hb := fun e => by have h3 := HL6.out.1; have h4 := HL5.out; rw [e] at h3; have h5 : w.heap.size ≤ w5.heap.size := HSZ5.out; omega
          exact ⟨HR7.out.1.kept hgS (Or.inr (fun e => n1 (Option.some.inj e))), HR7.out.2.kept hgS (Or.inr (fun e => n2 (Option.some.inj e)))⟩)
        clear hb7 ht hpt HEQ1 HQ HRR
        go_wp2
        go_roundw
        case rel => exact ⟨k + 1, m4, cap4, a4, by omega, by omega, by go_num, rfl, HP8.out, HR8.out⟩
        case measure => simp only [intOf]; omega
      · have d1 : decide (eI n f = eI n (pdl n)) = false := decide_eq_false (fun e => e1 (eI_inj HPF.out (isP_pdl n) e))
        rw [d1] at HEQ1
        have HE1 := hid_g e1
        clear d1 e1
        go_wp2_with (first
          | (go_at_call 29; refine HEQ1.out.mono ?_; rintro e9 w7 ⟨rfl, hb7⟩; refine Hid.out ?_))
        refine Lib.hid ?_
        have HG7 : Hid (W1.grownBy w7 none) := grown_below hb7 none
        have HQ7 := hid_g (HQ.out.any HG7.out)
        have HRT7 := hid_g (HRT.out.grow HG7.out (noInt_none _))
        have HR7 : Hid (w7.ownsRow w.drew.heap.size 3 1 (.slice (some ⟨g5, 0, none⟩) n c5) n (intsV (eI n (pdl n))) ∧ w7.ownsRow w5.heap.size 3 1 (.slice (some ⟨g6, 0, none⟩) n c6) n (intsV (eI n (pid n)))) := ⟨own_any HRR.out.1 HG7.out, own_any HRR.out.2 HG7.out⟩
        have HEQ2 := hid_g (equalI_any n c2 c6 a2 _ _ _ w7 (eI_len n f) (eI_len n (pid n)) (by omega) HRT7.out.rd (own_rd HR7.out.2))
        clear hb7 HEQ1 HQ HRR HRT
        by_cases e2 : f = pid n
        · have d2 : decide (eI n f = eI n (pid n)) = true := decide_eq_true (by rw [e2])
          rw [d2] at HEQ2
          have HE2 := hid_g e2
          clear d2 e2
          go_wp2_with (first
            | (go_at_call 29; refine HEQ2.out.mono ?_; rintro e9 w8 ⟨rfl, hb8⟩; refine Hid.out ?_))
          refine Lib.hid ?_
          have HG8 : Hid (w7.grownBy w8 none) := grown_below hb8 none
          have HP8 : Hid (TrAt w B hb n (p + ((trF n X (k + 1)).1 : Nat)) (some ⟨g, 0, none⟩) cap X a4 m4 cap4 (trF n X (k + 1)).2 w8) := (by
            have e : trF n X (k + 1) = trF n X k := by rw [HNX.out]; unfold tr1; rw [if_neg HE1.out, if_pos HE2.out]
            rw [e]
            exact HQ7.out.any HG8.out)
          have HR8 : Hid (w8.ownsRow w.drew.heap.size 3 1 (.slice (some ⟨g5, 0, none⟩) n c5) n (intsV (eI n (pdl n))) ∧ w8.ownsRow w5.heap.size 3 1 (.slice (some ⟨g6, 0, none⟩) n c6) n (intsV (eI n (pid n)))) := ⟨own_any HR7.out.1 HG8.out, own_any HR7.out.2 HG8.out⟩
          clear hb8 HEQ2 HQ7
          go_wp2
          go_roundw
          case rel => exact ⟨k + 1, m4, cap4, a4, by omega, by omega, by go_num, rfl, HP8.out, HR8.out⟩
          case measure => simp only [intOf]; omega
        · have d2 : decide (eI n f = eI n (pid n)) = false := decide_eq_false (fun e => e2 (eI_inj HPF.out (isP_pid n) e))
          rw [d2] at HEQ2
          have HE2 := hid_g e2
          clear d2 e2
          go_wp2_with (first
            | (go_at_call 29; refine HEQ2.out.mono ?_; rintro e9 w8 ⟨rfl, hb8⟩; refine Hid.out ?_))
          refine Lib.hid ?_
          have HG8 : Hid (w7.grownBy w8 none) := grown_below hb8 none
          have HQ8 := hid_g (HQ7.out.any HG8.out)
          have HRT8 := hid_g (HRT7.out.grow HG8.out (noInt_none _))
          have HR8 : Hid (w8.ownsRow w.drew.heap.size 3 1 (.slice (some ⟨g5, 0, none⟩) n c5) n (intsV (eI n (pdl n))) ∧ w8.ownsRow w5.heap.size 3 1 (.slice (some ⟨g6, 0, none⟩) n c6) n (intsV (eI n (pid n)))) := ⟨own_any HR7.out.1 HG8.out, own_any HR7.out.2 HG8.out⟩
          obtain ⟨-, ys, hy1, hy2⟩ := HQ8.out.lf
          have HY1 := hid_g hy1
          have HY2 := hid_g hy2
          have HYV : Hid ((w8.alloc (.cells #[.slice a2 n c2] 22)).ownsRow w.heap.size 22 1 (.slice a4 m4 cap4) m4 ys) := own_any hy1 (World.grownBy_alloc w8 (.cells #[.slice a2 n c2] 22) _)
          have hBle : w.heap.size ≤ (w8.alloc (.cells #[.slice a2 n c2] 22)).heap.size := by have := HQ8.out.ge; simp; omega
          clear hb8 HEQ2 HQ7 hy1 hy2
          go_wp2_with (first
            | (at_builtin; refine wpList_append_own _ rfl _ _ 23 rfl w.heap.size 22 i2 (.slice none 0 0) 1 24 Try.underlying23 hki hz0 hz1 hz2 rfl (by decide) _ m4 ys rfl HYV.out ⟨w8.heap.size, 0, none⟩ 1 1 [.slice a2 n c2] rfl rfl (new_cell1 _ _ _) (fun u hu => by rw [List.mem_singleton.1 hu]; rfl) (by unfold maxLen; omega) (by omega) hBle ?_; intro v9 w9 hown9 hg9 _; refine Hid.out ?_))
          refine Lib.hid ?_
          obtain ⟨a9, cap9, rfl, hT9⟩ := HQ8.out.push HY1.out HY2.out HRT8.out hown9 hg9
          have HP9 : Hid (TrAt w B hb n (p + ((trF n X (k + 1)).1 : Nat)) (some ⟨g, 0, none⟩) cap X a9 (m4 + 1) cap9 (trF n X (k + 1)).2 w9) := (by
            have e : trF n X (k + 1) = ((trF n X k).1, (trF n X k).2 ++ [f]) := by rw [HNX.out]; unfold tr1; rw [if_neg HE1.out, if_neg HE2.out]
            rw [e]
            exact hT9)
          have HR9 : Hid (w9.ownsRow w.drew.heap.size 3 1 (.slice (some ⟨g5, 0, none⟩) n c5) n (intsV (eI n (pdl n))) ∧ w9.ownsRow w5.heap.size 3 1 (.slice (some ⟨g6, 0, none⟩) n c6) n (intsV (eI n (pid n)))) := (by
            have hA := World.grownBy_alloc w8 (.cells #[.slice a2 n c2] 22) none
            have r5 := own_any HR8.out.1 hA
            have r6 := own_any HR8.out.2 hA
            exact ⟨r5.kept hg9 (own_ne r5 HYV.out (by decide)), r6.kept hg9 (own_ne r6 HYV.out (by decide))⟩)
          clear hown9 hg9 hT9 HY1 HY2 HYV hBle
          go_wp2
          go_roundw
          case rel => exact ⟨k + 1, m4 + 1, cap9, a9, by omega, by omega, by go_num, rfl, HP9.out, HR9.out⟩
          case measure => simp only [intOf]; omega
    · obtain rfl : k = m := by omega
      have HALL : Hid (trF n X k = ((nfL n X.reverse).1, (nfL n X.reverse).2.reverse)) := (by have h3 := trF_all n X; rw [HM.out] at h3; exact h3 : trF n X k = ((nfL n X.reverse).1, (nfL n X.reverse).2.reverse))
      rw [HALL.out] at hq
      obtain ⟨h7, h8⟩ := hq.out.fin HBLE.out
      have HFN : Hid ((∃ a' cap', FmAt (W1.setCell ⟨hb, 2, none⟩ (.slice a4 m4 cap4)) B hb n (p + ((nfL n X.reverse).1 : Nat)) a' cap' (nfL n X.reverse).2.reverse) ∧ Below hb w (W1.setCell ⟨hb, 2, none⟩ (.slice a4 m4 cap4))) := ⟨⟨_, _, h7⟩, h8⟩
      obtain ⟨-, -, c2, -, f2⟩ := hq.out.fm.cells
      have lbx := hq.out.fm.boxlt
      clear h7 h8 hq hr
      go_wp2
      exact bodyPost_end (v := .tuple #[]) (results_none rfl _ _ _) rfl ⟨rfl, HFN.out⟩
end Go.Proofs.Ythlmkoiilgjflaa

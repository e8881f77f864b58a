/- Several texts of the proof, one behind the other. -/
import Derived.Test.YtlcogbcpmneknaaF4P
import Derived.Test.YtlcogbcpmneknaaF12P
import Derived.Test.YtlcogbcpmneknaaW3P
import Derived.Test.YtlcogbcpmneknaaH7
/- Shades of faces: plain mathematics. -/
namespace Go.Proofs.Ytlcogbcpmneknaa

/-- A dart turned round. -/
def tn (j : Nat) : Nat := mkD (dA j) (!dB j)
theorem tn_le {j n : Nat} (h1 : 1 ≤ j) (h2 : j ≤ 4 * n) : 1 ≤ tn j ∧ tn j ≤ 4 * n := by
  have h := dA_le h1 h2
  exact mk_le h.1 h.2
theorem one_con {C : List Cr} {loops : Int} (hm : mayD C loops = true) (h : oneB C loops = true) : 0 < C.length ∧ loops = 0 ∧ ∀ k, k < C.length → Con (arcE C) 0 k := by
  unfold oneB at h
  rw [Bool.and_eq_true, Bool.and_eq_true, decide_eq_true_eq, decide_eq_true_eq, List.all_eq_true] at h
  obtain ⟨⟨h1, h2⟩, h3⟩ := h
  have hW := whoM_least hm
  refine ⟨h1, h3, fun k hk => (hW.same h1 hk).1 ?_⟩
  have a := h2 k (List.mem_range.2 hk)
  have b := h2 0 (List.mem_range.2 h1)
  rw [decide_eq_true_eq] at a b
  rw [a, b]
/-- Shades that change across each arc; the first face has 0. -/
structure Shd (C : List Cr) (s : Nat → Nat) : Prop where
  zero : s 0 = 0
  two : ∀ f, s f < 2
  arc : ∀ j, 1 ≤ j → j ≤ 4 * C.length → s (fo C (tn j)) = 1 - s (fo C j)
theorem shd_ex {C : List Cr} {loops : Int} (hm : mayD C loops = true) (hp : planarB C = true) (h : oneB C loops = true) : ∃ s, Shd C s := by
  obtain ⟨h0, -, h1⟩ := one_con hm h
  obtain ⟨g, hg⟩ := two_shades hm hp h0 h1
  refine ⟨fun f => if g f = g 0 then 0 else 1, by simp, fun f => by show (if g f = g 0 then 0 else 1) < 2; split <;> omega, fun j hj1 hj2 => ?_⟩
  have hA := dA_le hj1 hj2
  have hs := hg (dA j) hA.1 hA.2
  unfold sides at hs
  have e : j = mkD (dA j) (dB j) := (mk_d hj1).symm
  have key : g (fo C (tn j)) = !g (fo C j) := by
    have e2 : fo C j = fo C (mkD (dA j) (dB j)) := by rw [← e]
    rw [e2]
    unfold tn
    cases hb : dB j
    · simp only [Bool.not_false]
      revert hs
      cases g (fo C (mkD (dA j) true)) <;> cases g (fo C (mkD (dA j) false)) <;> simp
    · simp only [Bool.not_true]
      revert hs
      cases g (fo C (mkD (dA j) true)) <;> cases g (fo C (mkD (dA j) false)) <;> simp
  show (if g (fo C (tn j)) = g 0 then 0 else 1) = 1 - (if g (fo C j) = g 0 then 0 else 1)
  rw [key]
  cases g (fo C j) <;> cases g 0 <;> rfl
/-- Whatever holds of the first face and goes across arcs holds of all. -/
theorem shd_all {C : List Cr} {loops : Int} (hm : mayD C loops = true) (h : oneB C loops = true) (S : Nat → Prop) (h0 : S 0) (hn : ∀ j, 1 ≤ j → j ≤ 4 * C.length → S (fo C j) → S (fo C (tn j))) : ∀ f, f < (facesM C).length → S f := by
  obtain ⟨hp, -, h1⟩ := one_con hm h
  intro f hf
  obtain ⟨k, s, hk, hs, rfl⟩ := face_cor hm f hf
  obtain ⟨k0, s0, hk0, hs0, e0⟩ := face_cor hm 0 (by omega)
  have hcl : Closed (incl (dfE C) (fun _ => true) (2 * C.length)) S := fun e he => by
    obtain ⟨i, hi, -, rfl⟩ := incl_mem.1 he
    unfold dfE
    have u := mk_le (a := i + 1) (p := true) (n := C.length) (by omega) (by omega)
    have v := mk_le (a := i + 1) (p := false) (n := C.length) (by omega) (by omega)
    have a := hn _ u.1 u.2
    have b := hn _ v.1 v.2
    unfold tn at a b
    rw [dA_mk (by omega), dB_mk (by omega)] at a b
    exact ⟨a, b⟩
  have c1 := (faces_joined hm h1 k0 s0 hk0 hs0).symm
  have c2 := faces_joined hm h1 k s hk hs
  exact c2 S hcl (c1 S hcl (e0 ▸ h0))
theorem faces_few {C : List Cr} {loops : Int} (hm : mayD C loops = true) (hp : planarB C = true) (h : oneB C loops = true) : (facesM C).length = C.length + 2 := by
  obtain ⟨h0, -, h1⟩ := one_con hm h
  exact euler_one hm hp h0 h1
/-- Shades under way: of each face -1, or its shade. -/
def Sd (s : Nat → Nat) (F : Nat) (L : List Int) : Prop := L.length = F ∧ ∀ f, f < F → L.getD f 0 = -1 ∨ L.getD f 0 = (s f : Nat)
def uns (L : List Int) : Nat := L.countP (fun z => decide (z = -1))
theorem uns_set : ∀ (L : List Int) (f : Nat) (z : Int), f < L.length → L.getD f 0 = -1 → z ≠ -1 → uns (L.set f z) + 1 = uns L
  | [], f, z, h, _, _ => absurd h (Nat.not_lt_zero _)
  | x :: L, 0, z, _, h, hz => by
    have hx : x = -1 := h
    unfold uns
    rw [List.set_cons_zero, List.countP_cons, List.countP_cons, hx]
    simp [hz]
  | x :: L, f + 1, z, h, h2, hz => by
    have ih := uns_set L f z (by simpa using h) (by simpa using h2) hz
    unfold uns at ih ⊢
    rw [List.set_cons_succ, List.countP_cons, List.countP_cons]
    omega
theorem getS_put (L : List Int) (f g : Nat) (z : Int) : (L.set f z).getD g 0 = if f = g ∧ f < L.length then z else L.getD g 0 := by
  rw [List.getD_eq_getElem?_getD, List.getElem?_set, List.getD_eq_getElem?_getD]
  by_cases e : f = g
  · subst e
    by_cases hl : f < L.length
    · simp [hl]
    · simp [hl]
  · simp [e]
theorem Sd.set {s : Nat → Nat} {F : Nat} {L : List Int} (h : Sd s F L) (f : Nat) : Sd s F (L.set f (s f : Nat)) := by
  refine ⟨by rw [List.length_set]; exact h.1, fun g hg => ?_⟩
  rw [getS_put]
  by_cases e : f = g ∧ f < L.length
  · rw [if_pos e, e.1]
    exact Or.inr rfl
  · rw [if_neg e]
    exact h.2 g hg
theorem uns_le {L L' : List Int} (hl : L.length = L'.length) (h : ∀ g, g < L.length → L.getD g 0 ≠ -1 → L'.getD g 0 ≠ -1) : uns L' ≤ uns L := by
  induction L generalizing L' with
  | nil =>
    cases L' with
    | nil => exact Nat.le_refl _
    | cons _ _ => cases hl
  | cons x L ih =>
    cases L' with
    | nil => cases hl
    | cons y L' =>
      have h0 := h 0 (by simp)
      have hr := ih (L' := L') (by simpa using hl) (fun g hg => by have := h (g + 1) (by simpa using hg); simpa using this)
      unfold uns at hr ⊢
      rw [List.countP_cons, List.countP_cons]
      simp at h0
      by_cases hx : x = -1
      · by_cases hy : y = -1
        · simp [hx, hy]; exact hr
        · simp [hx, hy]; omega
      · simp [hx, h0 hx]; exact hr
/-- What spreading from a face comes to: nothing is lost, the face is shaded, and of each face that was shaded anew all neighbours are shaded. -/
structure Spd (C : List Cr) (s : Nat → Nat) (f : Nat) (L L' : List Int) : Prop where
  sd : Sd s (facesM C).length L'
  keep : ∀ g, g < (facesM C).length → L.getD g 0 ≠ -1 → L'.getD g 0 ≠ -1
  here : L'.getD f 0 ≠ -1
  new : ∀ g, g < (facesM C).length → L.getD g 0 = -1 → L'.getD g 0 ≠ -1 → ∀ j, 1 ≤ j → j ≤ 4 * C.length → fo C j = g → L'.getD (fo C (tn j)) 0 ≠ -1
/-- Spreading under way, behind the darts of P. -/
structure Spi (C : List Cr) (s : Nat → Nat) (f : Nat) (P : List Nat) (L M : List Int) : Prop where
  sd : Sd s (facesM C).length M
  keep : ∀ g, g < (facesM C).length → L.getD g 0 ≠ -1 → M.getD g 0 ≠ -1
  here : M.getD f 0 ≠ -1
  new : ∀ g, g < (facesM C).length → g ≠ f → L.getD g 0 = -1 → M.getD g 0 ≠ -1 → ∀ j, 1 ≤ j → j ≤ 4 * C.length → fo C j = g → M.getD (fo C (tn j)) 0 ≠ -1
  done : ∀ j, j ∈ P → fo C j = f → M.getD (fo C (tn j)) 0 ≠ -1
  less : uns M < uns L
theorem Spi.start {C : List Cr} {s : Nat → Nat} {f : Nat} {L : List Int} (h : Sd s (facesM C).length L) (hf : f < (facesM C).length) (hL : L.getD f 0 = -1) : Spi C s f [] L (L.set f (s f : Nat)) := by
  have hfl : f < L.length := by rw [h.1]; exact hf
  have hne : ((s f : Nat) : Int) ≠ -1 := by omega
  refine ⟨h.set f, fun g hg h1 => ?_, ?_, fun g hg hgf h1 h2 => ?_, fun j h1 => absurd h1 List.not_mem_nil, by have := uns_set L f (s f : Nat) hfl hL hne; omega⟩
  · rw [getS_put]
    split
    · exact hne
    · exact h1
  · rw [getS_put, if_pos ⟨rfl, hfl⟩]; exact hne
  · rw [getS_put, if_neg (fun e => hgf e.1.symm)] at h2
    exact absurd h1 h2
/-- A dart of another face, or one whose neighbour is shaded: nothing is done. -/
theorem Spi.pass {C : List Cr} {s : Nat → Nat} {f x : Nat} {P : List Nat} {L M : List Int} (h : Spi C s f P L M) (hi : fo C x ≠ f ∨ M.getD (fo C (tn x)) 0 ≠ -1) : Spi C s f (P ++ [x]) L M :=
  ⟨h.sd, h.keep, h.here, h.new, fun j h1 hf => by
    rcases List.mem_append.1 h1 with q | q
    · exact h.done j q hf
    · rw [List.mem_singleton] at q
      subst q
      rcases hi with hi | hi
      · exact absurd hf hi
      · exact hi, h.less⟩
theorem getS_off (L : List Int) (f : Nat) (h : L.length ≤ f) : L.getD f 0 ≠ -1 := by
  rw [List.getD_eq_getElem?_getD, List.getElem?_eq_none h]
  decide
/-- The neighbour is spread from. -/
theorem Spi.step {C : List Cr} {s : Nat → Nat} {f x : Nat} {P : List Nat} {L M M' : List Int} (h : Spi C s f P L M) (hM : Spd C s (fo C (tn x)) M M') : Spi C s f (P ++ [x]) L M' := by
  have hF := h.sd.1
  have hF' := hM.sd.1
  have hk : ∀ g, M.getD g 0 ≠ -1 → M'.getD g 0 ≠ -1 := fun g hg => by
    by_cases hl : g < (facesM C).length
    · exact hM.keep g hl hg
    · exact getS_off M' g (by omega)
  refine ⟨hM.sd, fun g hg h1 => hk g (h.keep g hg h1), hk f h.here, fun g hg hgf h1 h2 j hj1 hj2 hj => ?_, fun j h1 hf => ?_, Nat.lt_of_le_of_lt (uns_le (by rw [hF, hF']) (fun g _ => hk g)) h.less⟩
  · by_cases hg2 : M.getD g 0 = -1
    · exact hM.new g hg hg2 h2 j hj1 hj2 hj
    · exact hk _ (h.new g hg hgf h1 hg2 j hj1 hj2 hj)
  · rcases List.mem_append.1 h1 with q | q
    · exact hk _ (h.done j q hf)
    · rw [List.mem_singleton] at q
      subst q
      exact hM.here
theorem Spi.spd {C : List Cr} {s : Nat → Nat} {f : Nat} {P : List Nat} {L M : List Int} (h : Spi C s f P L M) (hP : ∀ j, 1 ≤ j → j ≤ 4 * C.length → j ∈ P) : Spd C s f L M :=
  ⟨h.sd, h.keep, h.here, fun g hg h1 h2 j hj1 hj2 hj => by
    by_cases e : g = f
    · subst e; exact h.done j (hP j hj1 hj2) hj
    · exact h.new g hg e h1 h2 j hj1 hj2 hj⟩
/-- All faces are shaded. -/
def shL (s : Nat → Nat) (F : Nat) : List Int := (List.range F).map fun f => ((s f : Nat) : Int)
theorem Spd.all {C : List Cr} {loops : Int} {s : Nat → Nat} {L L' : List Int} (hm : mayD C loops = true) (ho : oneB C loops = true) (hL : ∀ g, g < (facesM C).length → L.getD g 0 = -1) (h : Spd C s 0 L L') : L' = shL s (facesM C).length := by
  have hall : ∀ g, g < (facesM C).length → L'.getD g 0 ≠ -1 := shd_all hm ho (fun g => L'.getD g 0 ≠ -1) h.here (fun j h1 h2 hj => h.new (fo C j) (fo_lt j h1 h2) (hL _ (fo_lt j h1 h2)) hj j h1 h2 rfl)
  apply List.ext_getElem?
  intro i
  by_cases hi : i < (facesM C).length
  · have h1 := hall i hi
    have h2 := h.sd.2 i hi
    have e : L'[i]? = some (L'.getD i 0) := by rw [List.getD_eq_getElem?_getD, List.getElem?_eq_getElem (by rw [h.sd.1]; exact hi)]; rfl
    rw [e]
    rcases h2 with h2 | h2
    · exact absurd h2 h1
    · rw [h2]
      simp [shL, hi]
  · rw [List.getElem?_eq_none (by rw [h.sd.1]; omega), List.getElem?_eq_none (by simp [shL]; omega)]
end Go.Proofs.Ytlcogbcpmneknaa
/- The walks of ref.OnePiece and ref.GenusOf. -/
namespace Go.Proofs.Ytlcogbcpmneknaa
open Go.RowKit

set_option maxHeartbeats 4000000 in
set_option maxRecDepth 100000 in
theorem onePiece_any (v : Value) (C : List Cr) (loops : Int) (w : World) (hm : mayD C loops = true) (h : Crs w w.heap.size v C) :
    Calls Try.prog 19 #[.agg #[v, .int .i64 loops]] w fun e w' => e = .returned (.bool (oneB C loops)) ∧ Below w.heap.size w w' := by
  have HC : Hid (Crs w w.heap.size v C) := h
  have HM : Hid (mayD C loops = true) := hm
  obtain ⟨s1, s2, s3, s4⟩ := sizeB_iff (may_size hm)
  obtain ⟨a, cap, rfl, -, -⟩ := h
  have HOB : Hid (oneB C loops = ((decide (0 < C.length) && (List.range C.length).all fun v => decide ((whoM C).getD v 0 = 0)) && decide (loops = 0))) := (rfl : oneB C loops = ((decide (0 < C.length) && (List.range C.length).all fun v => decide ((whoM C).getD v 0 = 0)) && decide (loops = 0)))
  obtain ⟨ob, hob⟩ : ∃ ob, oneB C loops = ob := ⟨_, rfl⟩
  rw [hob] at HOB ⊢
  have HB1 : Hid (Below w.heap.size w (w.alloc (.cells #[.slice a C.length cap, .int .i64 loops] 24))) := (Below.refl _ _).alloc (Nat.le_refl _) _
  clear hob hm
  go_enter Try.func19, Try.ntmps19
  go_wp2_with (go_at_call 36; refine (piecesOf_any a cap C loops _ HM.out (HC.out.up HB1.out)).mono ?_; rintro e9 w2 ⟨vP, W, rfl, hrow, hls, hb2⟩; refine Hid.out ?_)
  refine Lib.hid ?_
  obtain rfl : W = whoM C := whoM_is HM.out hls
  have HW : Hid ((whoM C).length = C.length) := hls.1
  obtain ⟨aP, cP, rfl⟩ := own_capS hrow
  have HR : Hid (w2.ownsRow (w.alloc (.cells #[.slice a C.length cap, .int .i64 loops] 24)).heap.size 3 1 (.slice aP C.length cP) C.length (nats (whoM C))) := hrow
  have HB2 : Hid (Below w.heap.size w w2) := HB1.out.trans (hb2.mono HB1.out.size)
  have hg := (hb2.block w.heap.size (by simp)).trans (alloc_at rfl)
  have k0 : w2.cell? ⟨w.heap.size, 0, none⟩ = some (.slice a C.length cap) := block_cell hg rfl
  have k1 : w2.cell? ⟨w.heap.size, 1, none⟩ = some (.int .i64 loops) := block_cell hg rfl
  have hs2 : w.heap.size + 1 ≤ w2.heap.size := by have := hb2.size; simpa using this
  clear hrow hls hb2 hg
  go_wp2
  go_loopw [4] (fun v4 ws => ∃ i : Nat, i ≤ C.length ∧ v4 = .int .i64 (i : Nat) ∧ Hid (∀ q, q < i → (whoM C).getD q 0 = 0) ∧ ws = w2) (fun v4 _ => C.length - (intOf v4).toNat)
  case atStart => exact ⟨0, Nat.zero_le _, rfl, (fun q hq => absurd hq (Nat.not_lt_zero _) : ∀ q, q < 0 → (whoM C).getD q 0 = 0), rfl⟩
  case round =>
    obtain ⟨i, hin, rfl, hq, rfl⟩ := hrel
    rename World => W2
    by_cases hil : i < C.length
    · obtain ⟨g, c', e, -, hgl⟩ := own_block HR.out (by omega)
      injection e with eg1 eg2 eg3
      subst eg1
      have e0 := HR.out.cellAt i (by omega)
      rw [nats_get _ i (by rw [HW.out]; exact hil)] at e0
      obtain ⟨y, hy⟩ : ∃ y, (whoM C).getD i 0 = y := ⟨_, rfl⟩
      have HY : Hid ((whoM C).getD i 0 = y) := hy
      rw [hy] at e0
      have hii : (i : Int) < (C.length : Int) := by omega
      clear hy eg2 eg3
      by_cases hy0 : y = 0
      · subst hy0
        go_wp2
        go_roundw
        case rel =>
          refine ⟨i + 1, by omega, by go_num, (fun q hq2 => ?_ : ∀ q, q < i + 1 → (whoM C).getD q 0 = 0), by first | rfl | trivial⟩
          by_cases e : q = i
          · subst e; exact HY.out
          · exact hq.out q (by omega)
        case measure => simp only [intOf]; omega
      · have hye : ((y : Int) == 0) = false := beq_eq_false_iff_ne.2 (by omega)
        obtain rfl : ob = false := by
          rw [HOB.out, Bool.and_eq_false_iff]
          refine Or.inl ?_
          rw [Bool.and_eq_false_iff]
          refine Or.inr ?_
          rw [List.all_eq_false]
          exact ⟨i, List.mem_range.2 hil, by rw [HY.out]; simpa using hy0⟩
        go_wp2
        go_ret
        exact ⟨rfl, HB2.out⟩
    · obtain rfl : i = C.length := by omega
      have HO2 : Hid (ob = (decide (0 < C.length) && decide (loops = 0))) := (by
        rw [HOB.out]
        have : ((List.range C.length).all fun v => decide ((whoM C).getD v 0 = 0)) = true := by
          rw [List.all_eq_true]
          intro q hq2
          exact decide_eq_true (hq.out q (List.mem_range.1 hq2))
        rw [this, Bool.and_true] : ob = (decide (0 < C.length) && decide (loops = 0)))
      by_cases hp : 0 < C.length
      · have hd1 : decide ((0 : Int) < (C.length : Int)) = true := decide_eq_true (by omega)
        have hd2 : decide (0 < C.length) = true := decide_eq_true (by omega)
        by_cases hl : loops = 0
        · subst hl
          obtain rfl : ob = true := by rw [HO2.out, hd2]; rfl
          go_wp2
          go_ret
          exact ⟨rfl, HB2.out⟩
        · have hl2 : (loops == 0) = false := beq_eq_false_iff_ne.2 hl
          obtain rfl : ob = false := by rw [HO2.out, decide_eq_false hl]; simp
          go_wp2
          go_ret
          exact ⟨rfl, HB2.out⟩
      · have hd1 : decide ((0 : Int) < (C.length : Int)) = false := decide_eq_false (by omega)
        have hd2 : decide (0 < C.length) = false := decide_eq_false (by omega)
        obtain rfl : ob = false := by rw [HO2.out, hd2]; rfl
        go_wp2
        go_ret
        exact ⟨rfl, HB2.out⟩
end Go.Proofs.Ytlcogbcpmneknaa

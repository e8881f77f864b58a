/- Tellings of pieces: plain mathematics; the walk of ref.otherEnd. -/
import Derived.Test.YtiighhmgegkemaaEndsP
import Derived.Test.YtiighhmgegkemaaW5
namespace Go.Proofs.Ytiighhmgegkemaa
open Go.RowKit

/-- The side at the other end of the arc on a side. -/
def nbS (C : List Cr) (k s : Nat) : Nat := enS C ((C.getD k Cr.none).arc s).toNat (!(C.getD k Cr.none).comes s)
theorem nb_may {C : List Cr} {loops : Int} (hm : mayD C loops = true) (k s : Nat) (hk : k < C.length) (hs : s < 4) :
    (1 ≤ ((C.getD k Cr.none).arc s).toNat ∧ ((C.getD k Cr.none).arc s).toNat ≤ 2 * C.length ∧ (C.getD k Cr.none).arc s = (((C.getD k Cr.none).arc s).toNat : Int)) ∧
    endTo C ((C.getD k Cr.none).arc s).toNat (!(C.getD k Cr.none).comes s) C.length = ((nbC C k s : Int), (nbS C k s : Int)) ∧ nbC C k s < C.length ∧ nbS C k s < 4 := by
  have hf := may_fit hm k s hk hs
  have g1 := hf.1
  have g2 := hf.2.1
  have ha : 1 ≤ ((C.getD k Cr.none).arc s).toNat ∧ ((C.getD k Cr.none).arc s).toNat ≤ 2 * C.length := by omega
  have h := en_may hm _ (!(C.getD k Cr.none).comes s) ha.1 ha.2
  exact ⟨⟨ha.1, ha.2, by omega⟩, h.1, h.2.1, h.2.2.1⟩
/-- One side of crossing c is told: the crossings numbered so far, and the code. -/
def teS (C : List Cr) (c : Nat) (p : List Nat × List Int) (s : Nat) : List Nat × List Int :=
  let o := if nbC C c s ∈ p.1 then p.1 else p.1 ++ [nbC C c s]
  (o, p.2 ++ [(o.idxOf (nbC C c s) : Int), (nbS C c s : Int)])
/-- Crossing number i is told, its first k sides. -/
def teK (C : List Cr) (i : Nat) (p : List Nat × List Int) : Nat → List Nat × List Int
  | 0 => (p.1, p.2 ++ [if (C.getD (p.1.getD i 0) Cr.none).plus = true then 1 else 0])
  | k + 1 => teS C (p.1.getD i 0) (teK C i p k) k
/-- The first i crossings are told. -/
def teI (C : List Cr) (first : Nat) : Nat → List Nat × List Int
  | 0 => ([first], [])
  | i + 1 => if i < (teI C first i).1.length then teK C i (teI C first i) 4 else teI C first i
/-- The telling from a crossing on. -/
def te (C : List Cr) (first : Nat) : List Nat × List Int := teI C first C.length
theorem teS_pre (C : List Cr) (c : Nat) (p : List Nat × List Int) (s : Nat) : p.1 <+: (teS C c p s).1 := by
  unfold teS
  simp only
  split
  · exact List.prefix_rfl
  · exact List.prefix_append _ _
theorem teK_pre (C : List Cr) (i : Nat) (p : List Nat × List Int) (k : Nat) : p.1 <+: (teK C i p k).1 := by
  induction k with
  | zero => exact List.prefix_rfl
  | succ k ih => exact ih.trans (teS_pre _ _ _ _)
/-- What is numbered: different crossings of the diagram. -/
structure TeOk (C : List Cr) (p : List Nat × List Int) : Prop where
  lt : ∀ x, x ∈ p.1 → x < C.length
  nd : p.1.Nodup
theorem TeOk.few {C : List Cr} {p : List Nat × List Int} (h : TeOk C p) : p.1.length ≤ C.length := by
  have := List.Nodup.length_le_of_subset h.nd (l₂ := List.range C.length) (fun x hx => List.mem_range.2 (h.lt x hx))
  simpa using this
theorem teS_ok {C : List Cr} {loops : Int} (hm : mayD C loops = true) {c : Nat} (hc : c < C.length) {p : List Nat × List Int} (h : TeOk C p) {s : Nat} (hs : s < 4) : TeOk C (teS C c p s) := by
  have hn := (nb_may hm c s hc hs).2.2.1
  unfold teS
  simp only
  split
  · exact ⟨h.lt, h.nd⟩
  · rename_i hno
    refine ⟨fun x hx => ?_, ?_⟩
    · rcases List.mem_append.1 hx with hx | hx
      · exact h.lt x hx
      · simp only [List.mem_singleton] at hx; omega
    · refine List.nodup_append.2 ⟨h.nd, by simp, fun a ha b hb e => ?_⟩
      simp only [List.mem_singleton] at hb
      rw [e, hb] at ha
      exact hno ha

set_option maxHeartbeats 4000000 in
set_option maxRecDepth 100000 in
theorem otherEnd_any (b off cap : Nat) (C : List Cr) (loops : Int) (c s : Nat) (w : World) (hm : mayD C loops = true) (hc : c < C.length) (hs : s < 4) (hbw : b < w.heap.size) (hC : CrossAt w b off C) :
    Calls Try.prog 163 #[.agg #[.slice (some ⟨b, off, none⟩) C.length cap, .int .i64 loops], .agg #[.int .i64 c, .int .i64 s]] w fun e w' => e = .returned (.agg #[.int .i64 (nbC C c s : Nat), .int .i64 (nbS C c s : Nat)]) ∧ Below w.heap.size w w' := by
  obtain ⟨⟨ha1, ha2, ha3⟩, hen, hx1, hx2⟩ := nb_may hm c s hc hs
  have HM : Hid (mayD C loops = true) := hm
  have HC : Hid (CrossAt w b off C) := hC
  have HEN : Hid (endTo C ((C.getD c Cr.none).arc s).toNat (!(C.getD c Cr.none).comes s) C.length = ((nbC C c s : Int), (nbS C c s : Int))) := hen
  obtain ⟨A, hA⟩ : ∃ A, ((C.getD c Cr.none).arc s).toNat = A := ⟨_, rfl⟩
  obtain ⟨p, hp⟩ : ∃ p, (C.getD c Cr.none).comes s = p := ⟨_, rfl⟩
  have HA : Hid ((C.getD c Cr.none).arc s = (A : Int)) := (by rw [ha3, hA] : (C.getD c Cr.none).arc s = (A : Int))
  have HP : Hid ((C.getD c Cr.none).comes s = p) := hp
  rw [hA] at ha1 ha2 HEN
  rw [hp] at HEN
  clear hen hm hC hA hp ha3
  obtain ⟨X, hX⟩ : ∃ X, X = ((w.alloc (.cells #[.slice (some ⟨b, off, none⟩) C.length cap, .int .i64 loops] 35)).alloc (.cells #[.int .i64 c, .int .i64 s] 133)).alloc (.cells #[.int .i64 0, .int .i64 0] 133) := ⟨_, rfl⟩
  have HX : Hid (X = ((w.alloc (.cells #[.slice (some ⟨b, off, none⟩) C.length cap, .int .i64 loops] 35)).alloc (.cells #[.int .i64 c, .int .i64 s] 133)).alloc (.cells #[.int .i64 0, .int .i64 0] 133)) := hX
  have hsX : X.heap.size = w.heap.size + 3 := by rw [hX]; simp
  have HB1 : Hid (Below w.heap.size w X) := (by rw [hX]; exact below3 _ _ _ _ : Below w.heap.size w X)
  have HG0 : Hid (X.heap[w.heap.size]? = some (.cells #[.slice (some ⟨b, off, none⟩) C.length cap, .int .i64 loops] 35 (0, 0))) := (by rw [hX]; exact alloc_old (alloc_old (alloc_at rfl)) : X.heap[w.heap.size]? = some (.cells #[.slice (some ⟨b, off, none⟩) C.length cap, .int .i64 loops] 35 (0, 0)))
  have HG1 : Hid (X.heap[w.heap.size + 1]? = some (.cells #[.int .i64 c, .int .i64 s] 133 (0, 0))) := (by rw [hX]; exact alloc_old (alloc_at (by simp)) : X.heap[w.heap.size + 1]? = some (.cells #[.int .i64 c, .int .i64 s] 133 (0, 0)))
  have HG2 : Hid (X.heap[w.heap.size + 1 + 1]? = some (.cells #[.int .i64 0, .int .i64 0] 133 (0, 0))) := (by rw [hX]; exact alloc_at (by simp) : X.heap[w.heap.size + 1 + 1]? = some (.cells #[.int .i64 0, .int .i64 0] 133 (0, 0)))
  clear hX
  have HK : Hid (∀ w', Below X.heap.size X w' → w'.cell? ⟨w.heap.size, 0, none⟩ = some (.slice (some ⟨b, off, none⟩) C.length cap) ∧ w'.cell? ⟨w.heap.size, 1, none⟩ = some (.int .i64 loops) ∧ w'.cell? ⟨w.heap.size + 1, 0, none⟩ = some (.int .i64 c) ∧ w'.cell? ⟨w.heap.size + 1, 1, none⟩ = some (.int .i64 s)) := fun w' hb => by
    have g0 := (hb.block _ (by omega)).trans HG0.out
    have g1 := (hb.block _ (by omega)).trans HG1.out
    exact ⟨block_cell g0 rfl, block_cell g0 rfl, block_cell g1 rfl, block_cell g1 rfl⟩
  have HCK : Hid (∀ w', Below X.heap.size X w' → CrossAt w' b off C ∧ b < w'.heap.size) := fun w' hb => by
    have hb2 := HB1.out.trans (hb.mono (by omega))
    exact ⟨HC.out.on hb2 hbw, Nat.lt_of_lt_of_le hbw hb2.size⟩
  have HRB : Hid (∀ w', Below X.heap.size X w' → w'.cell? ⟨w.heap.size + 1 + 1, 0, none⟩ = some (.int .i64 0) ∧ w'.cell? ⟨w.heap.size + 1 + 1, 1, none⟩ = some (.int .i64 0) ∧ w'.frozen? ⟨w.heap.size + 1 + 1, 0, none⟩ = false ∧ w'.frozen? ⟨w.heap.size + 1 + 1, 1, none⟩ = false ∧ w.heap.size + 1 + 1 < w'.heap.size) := fun w' hb => by
    have g2 := (hb.block _ (by omega)).trans HG2.out
    exact ⟨block_cell g2 rfl, block_cell g2 rfl, block_frozen g2, block_frozen g2, (Array.getElem?_eq_some_iff.1 g2).1⟩
  have HD0 : Hid (Below X.heap.size X X.drew) := (Below.refl _ _).drew
  obtain ⟨t0, t1, t2, t3⟩ := HK.out X (Below.refl _ _)
  go_enter Try.func163, Try.ntmps163
  go_wp2
  rw [← HX.out]
  go_region_held3 (fun w' => w'.cell? ⟨w.heap.size, 0, none⟩ = some (.slice (some ⟨b, off, none⟩) C.length cap) ∧ w'.cell? ⟨w.heap.size, 1, none⟩ = some (.int .i64 loops) ∧ w'.cell? ⟨w.heap.size + 1, 0, none⟩ = some (.int .i64 c) ∧ w'.cell? ⟨w.heap.size + 1, 1, none⟩ = some (.int .i64 s)) (first | exact HK.out _ HZ.out | exact HK.out _ HY.out | exact HK.out _ HA1.out | exact HK.out _ HD0.out | exact HK.out _ (Below.refl _ _) | exact HKS.out) (first
    | (go_at_call 95; refine (arcAt_any b off cap loops C c s _ hc hs (HCK.out _ HD0.out).2 (HCK.out _ HD0.out).1).mono ?_; rw [HA.out]; rintro e9 w3 ⟨rfl, hb3⟩; have HA1 : Hid (Below X.heap.size X w3) := HD0.out.trans (hb3.mono HD0.out.size); clear hb3)
    | (go_at_call 96; refine (entry_any b off cap loops C c s _ hc hs (HCK.out _ HA1.out).2 (HCK.out _ HA1.out).1).mono ?_; rw [HP.out]; rintro e9 w4 ⟨rfl, hb4⟩; have HY : Hid (Below X.heap.size X w4) := HA1.out.trans (hb4.mono HA1.out.size); clear hb4)
    | (go_at_call 141; refine (endOf_any b off cap C loops A p _ HM.out ha1 ha2 (HCK.out _ HY.out).2 (HCK.out _ HY.out).1).mono ?_; rw [HEN.out]; rintro e9 w5 ⟨rfl, hb5⟩; have HZ : Hid (Below X.heap.size X w5) := HY.out.trans (hb5.mono HY.out.size); obtain ⟨r0, r1, r2, r3, r4⟩ := HRB.out w5 HZ.out; have hgs := st2_grown w5 (w.heap.size + 1 + 1) 0 (.int .i64 (nbC C c s : Nat)) (.int .i64 (nbS C c s : Nat)); have HKS : Hid ((fun w' => w'.cell? ⟨w.heap.size, 0, none⟩ = some (.slice (some ⟨b, off, none⟩) C.length cap) ∧ w'.cell? ⟨w.heap.size, 1, none⟩ = some (.int .i64 loops) ∧ w'.cell? ⟨w.heap.size + 1, 0, none⟩ = some (.int .i64 c) ∧ w'.cell? ⟨w.heap.size + 1, 1, none⟩ = some (.int .i64 s)) (st2 w5 (w.heap.size + 1 + 1) 0 (.int .i64 (nbC C c s : Nat)) (.int .i64 (nbS C c s : Nat)))) := (by have g0 := (hgs.block w.heap.size (by omega) (fun e => by have := Option.some.inj e; omega)).trans ((HZ.out.block _ (by omega)).trans HG0.out); have g1 := (hgs.block (w.heap.size + 1) (by omega) (fun e => by have := Option.some.inj e; omega)).trans ((HZ.out.block _ (by omega)).trans HG1.out); exact ⟨block_cell g0 rfl, block_cell g0 rfl, block_cell g1 rfl, block_cell g1 rfl⟩); clear hb5 hgs))
  have hR := set_block (i := 1) (u := .int .i64 (nbS C c s : Nat)) (set_block (i := 0) (u := .int .i64 (nbC C c s : Nat)) ((HZ.out.block _ (by omega)).trans HG2.out))
  have x0 := block_cell (i := 0) (v := .int .i64 (nbC C c s : Nat)) hR rfl
  have x1 := block_cell (i := 1) (v := .int .i64 (nbS C c s : Nat)) hR rfl
  have HBF : Hid (Below w.heap.size w (st2 w5 (w.heap.size + 1 + 1) 0 (.int .i64 (nbC C c s : Nat)) (.int .i64 (nbS C c s : Nat)))) := (HB1.out.trans (HZ.out.mono (by omega))).grown (st2_grown w5 (w.heap.size + 1 + 1) 0 (.int .i64 (nbC C c s : Nat)) (.int .i64 (nbS C c s : Nat))) (by have := HZ.out.size; omega) (fun q hq => by have := Option.some.inj hq; omega)
  go_wp2
  exact bodyPost_ret (v := .agg #[.int .i64 (nbC C c s : Nat), .int .i64 (nbS C c s : Nat)]) (by simp [results, Try.results163, go_sem, x0, x1]) rfl ⟨rfl, HBF.out⟩
end Go.Proofs.Ytiighhmgegkemaa

/- The walks of Drawing.Onward and ref.NextDart. -/
import Derived.Test.YtagaajlbkfkaiaaZ1P
import Derived.Deep.Cut
namespace Go.Proofs.Ytagaajlbkfkaiaa
open Go.RowKit

set_option maxHeartbeats 4000000 in
set_option maxRecDepth 100000 in
theorem onward_any (a : Option Addr) (cap : Nat) (C : List Cr) (loops : Int) (gF cF gT cT : Nat) (j : Nat) (w : World) (hm : mayD C loops = true) (h1 : 1 ≤ j) (h2 : j ≤ 4 * C.length) (hD : Dr w a cap C gF gT) :
    Calls Try.prog 95 #[drV a cap C loops gF cF gT cT, .agg #[.int .i64 (dA j : Nat), .bool (dB j)]] w fun e w' => e = .returned (.agg #[.int .i64 (dA (fd C j) : Nat), .bool (dB (fd C j))]) ∧ Below w.heap.size w w' := by
  have HM : Hid (mayD C loops = true) := hm
  have hA := dA_le h1 h2
  obtain ⟨-, hi, hs⟩ := d_may hm j h1 h2
  obtain ⟨f1, f2, -, -⟩ := fd_may hm j h1 h2
  have HF1 : Hid ((C.getD (dC C j) Cr.none).arc ((dS C j + 3) % 4) = (dA (fd C j) : Int)) := f1
  have HF2 : Hid ((C.getD (dC C j) Cr.none).comes ((dS C j + 3) % 4) = dB (fd C j)) := f2
  obtain ⟨i, hci⟩ : ∃ i, dC C j = i := ⟨_, rfl⟩
  obtain ⟨k, hck⟩ : ∃ k, dS C j = k := ⟨_, rfl⟩
  have HE : Hid (∀ W, Dr W a cap C gF gT → Calls Try.prog 78 #[drV a cap C loops gF cF gT cT, .agg #[.int .i64 (dA j : Nat), .bool (dB j)]] W fun e w' => e = .returned (.agg #[.int .i64 (i : Nat), .int .i64 (k : Nat)]) ∧ Below W.heap.size W w') := fun W hW => by
    rw [← hci, ← hck]
    exact end_any a cap C loops gF cF gT cT (dA j) (dB j) W hm hA.1 hA.2 hW
  rw [hci, hck] at HF1 HF2
  rw [hci] at hi
  rw [hck] at hs
  generalize dA (fd C j) = zA at HF1 ⊢
  generalize dB (fd C j) = zB at HF2 ⊢
  obtain ⟨k2, hk2⟩ : ∃ k2 : Nat, k2 = (k + 3) % 4 := ⟨_, rfl⟩
  rw [← hk2] at HF1 HF2
  have e0 : IntKind.i64.wrap ((k : Int) + 4) = (k : Int) + 4 := IntWalk.i64_in _ (by omega)
  have e1 : IntKind.i64.wrap ((k : Int) + 4 - 1) = (k : Int) + 4 - 1 := IntWalk.i64_in _ (by omega)
  have e2 : ((k : Int) + 4 - 1).tmod 4 = (k2 : Int) := by rw [Int.tmod_eq_emod_of_nonneg (by omega)]; omega
  have hk24 : k2 < 4 := by omega
  have HD : Hid (Dr w a cap C gF gT) := hD
  clear hk2 hci hck f1 f2 hm hD
  obtain ⟨b, off, rfl, hbw, hC⟩ := HD.out.cross (by omega)
  have HC : Hid (CrossAt w b off C) := hC
  unfold drV
  unfold drV at HE
  generalize dA j = jA at HE hA ⊢
  generalize dB j = jB at HE ⊢
  obtain ⟨w0, hw0⟩ : ∃ w0, w0 = ((w.alloc (.cells #[.slice (some ⟨b, off, none⟩) C.length cap, .int .i64 loops, .slice (some ⟨gF, 0, none⟩) (2 * C.length + 1) cF, .slice (some ⟨gT, 0, none⟩) (2 * C.length + 1) cT] 61)).alloc (.cells #[.int .i64 jA, .bool jB] 26)).alloc (.cells #[.int .i64 0, .bool false] 26) := ⟨_, rfl⟩
  have HW0 : Hid (w0 = ((w.alloc (.cells #[.slice (some ⟨b, off, none⟩) C.length cap, .int .i64 loops, .slice (some ⟨gF, 0, none⟩) (2 * C.length + 1) cF, .slice (some ⟨gT, 0, none⟩) (2 * C.length + 1) cT] 61)).alloc (.cells #[.int .i64 jA, .bool jB] 26)).alloc (.cells #[.int .i64 0, .bool false] 26)) := hw0
  have hs0 : w0.heap.size = w.heap.size + 3 := by rw [hw0]; simp
  have HB0 : Hid (Below w.heap.size w w0) := (by rw [hw0]; exact below3 _ _ _ _ : Below w.heap.size w w0)
  have HT0 : Hid (w0.heap[w.heap.size]? = some (.cells #[.slice (some ⟨b, off, none⟩) C.length cap, .int .i64 loops, .slice (some ⟨gF, 0, none⟩) (2 * C.length + 1) cF, .slice (some ⟨gT, 0, none⟩) (2 * C.length + 1) cT] 61 (0, 0))) := (by rw [hw0]; exact alloc_old (alloc_old (alloc_at rfl)) : w0.heap[w.heap.size]? = some (.cells #[.slice (some ⟨b, off, none⟩) C.length cap, .int .i64 loops, .slice (some ⟨gF, 0, none⟩) (2 * C.length + 1) cF, .slice (some ⟨gT, 0, none⟩) (2 * C.length + 1) cT] 61 (0, 0)))
  have HT2 : Hid (w0.heap[w.heap.size + 1 + 1]? = some (.cells #[.int .i64 0, .bool false] 26 (0, 0))) := (by rw [hw0]; exact alloc_at (by simp) : w0.heap[w.heap.size + 1 + 1]? = some (.cells #[.int .i64 0, .bool false] 26 (0, 0)))
  have HD0 : Hid (Dr w0 (some ⟨b, off, none⟩) cap C gF gT) := HD.out.on HB0.out
  clear hw0 hC
  go_enter Try.func95, Try.ntmps95
  go_wp2_with (go_at_call 78; rw [← HW0.out]; refine (HE.out _ HD0.out).mono ?_; rintro e9 w1 ⟨rfl, hb1⟩; refine Hid.out ?_)
  refine Lib.hid ?_
  have hs1 := hb1.size
  have g0 := (hb1.block _ (by omega)).trans HT0.out
  have HG2 : Hid (w1.heap[w.heap.size + 1 + 1]? = some (.cells #[.int .i64 0, .bool false] 26 (0, 0))) := (hb1.block _ (by omega)).trans HT2.out
  have HB1 : Hid (Below w.heap.size w w1) := HB0.out.trans (hb1.mono (by omega))
  have p0 : w1.cell? ⟨w.heap.size, 0, none⟩ = some (.slice (some ⟨b, off, none⟩) C.length cap) := block_cell g0 rfl
  have p1 : w1.cell? ⟨w.heap.size, 1, none⟩ = some (.int .i64 loops) := block_cell g0 rfl
  have p2 : w1.cell? ⟨w.heap.size, 2, none⟩ = some (.slice (some ⟨gF, 0, none⟩) (2 * C.length + 1) cF) := block_cell g0 rfl
  have p3 : w1.cell? ⟨w.heap.size, 3, none⟩ = some (.slice (some ⟨gT, 0, none⟩) (2 * C.length + 1) cT) := block_cell g0 rfl
  have l0 : w.heap.size < w1.heap.size := by omega
  obtain ⟨X, hX⟩ : ∃ X, X = w1.alloc (.cells #[.int .i64 i, .int .i64 k2] 120) := ⟨_, rfl⟩
  have HX : Hid (X = w1.alloc (.cells #[.int .i64 i, .int .i64 k2] 120)) := hX
  have H1X : Hid (Below w1.heap.size w1 X) := (by rw [hX]; exact (Below.refl _ _).alloc (Nat.le_refl _) _ : Below w1.heap.size w1 X)
  have hsX : X.heap.size = w1.heap.size + 1 := by rw [hX]; simp
  have HBX : Hid (Below w.heap.size w X) := HB1.out.trans (H1X.out.mono HB1.out.size)
  have HCX : Hid (CrossAt X b off C) := HC.out.on HBX.out hbw
  clear hb1 g0 hX
  go_wp2_with (go_at_call 117; rw [← HX.out]; refine (leaving_any b off cap C loops _ _ i k2 _ hi hk24 (by omega) HCX.out).mono ?_; rw [HF1.out, HF2.out]; rintro e9 w2 ⟨rfl, hb2⟩; refine Hid.out ?_)
  refine Lib.hid ?_
  have hs2 := hb2.size
  have g2 := (hb2.block _ (by omega)).trans ((H1X.out.block _ (by omega)).trans HG2.out)
  have r0 := block_cell (i := 0) (v := .int .i64 0) g2 rfl
  have r1 := block_cell (i := 1) (v := .bool false) g2 rfl
  have f0 := block_frozen (i := 0) g2
  have f1 := block_frozen (i := 1) g2
  have lr : w.heap.size + 1 + 1 < w2.heap.size := by omega
  have HB2 : Hid (Below w.heap.size w w2) := HBX.out.trans (hb2.mono (by omega))
  have HGG : Hid (w2.heap[w.heap.size + 1 + 1]? = some (.cells #[.int .i64 0, .bool false] 26 (0, 0))) := g2
  clear hb2 g2 p0 p1 p2 p3
  go_wp2
  have hX2 := set_block (i := 1) (u := .bool zB) (set_block (i := 0) (u := .int .i64 zA) HGG.out)
  have x0 := block_cell (i := 0) (v := .int .i64 zA) hX2 rfl
  have x1 := block_cell (i := 1) (v := .bool zB) hX2 rfl
  exact bodyPost_ret (v := .agg #[.int .i64 zA, .bool zB]) (by simp [results, Try.results95, go_sem, x0, x1]) rfl ⟨rfl, HB2.out.grown (st2_grown w2 (w.heap.size + 1 + 1) 0 (.int .i64 zA) (.bool zB)) (by omega) (fun q hq => by have := Option.some.inj hq; omega)⟩

set_option maxHeartbeats 4000000 in
set_option maxRecDepth 100000 in
theorem nextDart_any (b off cap : Nat) (C : List Cr) (loops : Int) (j : Nat) (w : World) (hm : mayD C loops = true) (h1 : 1 ≤ j) (h2 : j ≤ 4 * C.length) (hbw : b < w.heap.size) (hC : CrossAt w b off C) :
    Calls Try.prog 87 #[.agg #[.slice (some ⟨b, off, none⟩) C.length cap, .int .i64 loops], .agg #[.int .i64 (dA j : Nat), .bool (dB j)]] w fun e w' => e = .returned (.agg #[.int .i64 (dA (fd C j) : Nat), .bool (dB (fd C j))]) ∧ Below w.heap.size w w' := by
  have HM : Hid (mayD C loops = true) := hm
  have hA := dA_le h1 h2
  obtain ⟨he, hi, hs⟩ := d_may hm j h1 h2
  obtain ⟨f1, f2, -, -⟩ := fd_may hm j h1 h2
  have HF1 : Hid ((C.getD (dC C j) Cr.none).arc ((dS C j + 3) % 4) = (dA (fd C j) : Int)) := f1
  have HF2 : Hid ((C.getD (dC C j) Cr.none).comes ((dS C j + 3) % 4) = dB (fd C j)) := f2
  obtain ⟨i, hci⟩ : ∃ i, dC C j = i := ⟨_, rfl⟩
  obtain ⟨k, hck⟩ : ∃ k, dS C j = k := ⟨_, rfl⟩
  have HE : Hid (∀ W, b < W.heap.size → CrossAt W b off C → Calls Try.prog 63 #[.agg #[.slice (some ⟨b, off, none⟩) C.length cap, .int .i64 loops], .int .i64 (dA j : Nat), .bool (dB j)] W fun e w' => e = .returned (.agg #[.int .i64 (i : Nat), .int .i64 (k : Nat)]) ∧ Below W.heap.size W w') := fun W hW hCW => by
    have h := endOf_any b off cap C loops (dA j) (dB j) W hm hA.1 hA.2 hW hCW
    rw [he, hci, hck] at h
    exact h
  rw [hci, hck] at HF1 HF2
  rw [hci] at hi
  rw [hck] at hs
  generalize dA (fd C j) = zA at HF1 ⊢
  generalize dB (fd C j) = zB at HF2 ⊢
  generalize dA j = jA at HE hA ⊢
  generalize dB j = jB at HE ⊢
  obtain ⟨k2, hk2⟩ : ∃ k2 : Nat, k2 = (k + 3) % 4 := ⟨_, rfl⟩
  rw [← hk2] at HF1 HF2
  have e1 : IntKind.i64.wrap ((k : Int) + 3) = (k : Int) + 3 := IntWalk.i64_in _ (by omega)
  have e2 : ((k : Int) + 3).tmod 4 = (k2 : Int) := by rw [Int.tmod_eq_emod_of_nonneg (by omega)]; omega
  have hk24 : k2 < 4 := by omega
  have HC : Hid (CrossAt w b off C) := hC
  obtain ⟨w0, hw0⟩ : ∃ w0, w0 = ((w.alloc (.cells #[.slice (some ⟨b, off, none⟩) C.length cap, .int .i64 loops] 24)).alloc (.cells #[.int .i64 jA, .bool jB] 26)).alloc (.cells #[.int .i64 0, .bool false] 26) := ⟨_, rfl⟩
  have HW0 : Hid (w0 = ((w.alloc (.cells #[.slice (some ⟨b, off, none⟩) C.length cap, .int .i64 loops] 24)).alloc (.cells #[.int .i64 jA, .bool jB] 26)).alloc (.cells #[.int .i64 0, .bool false] 26)) := hw0
  have hs0 : w.heap.size + 3 ≤ w0.heap.size := by rw [hw0]; simp
  have HB0 : Hid (Below w.heap.size w w0) := (by rw [hw0]; exact below3 _ _ _ _ : Below w.heap.size w w0)
  have HT0 : Hid (w0.heap[w.heap.size]? = some (.cells #[.slice (some ⟨b, off, none⟩) C.length cap, .int .i64 loops] 24 (0, 0))) := (by rw [hw0]; exact alloc_old (alloc_old (alloc_at rfl)) : w0.heap[w.heap.size]? = some (.cells #[.slice (some ⟨b, off, none⟩) C.length cap, .int .i64 loops] 24 (0, 0)))
  have HT2 : Hid (w0.heap[w.heap.size + 1 + 1]? = some (.cells #[.int .i64 0, .bool false] 26 (0, 0))) := (by rw [hw0]; exact alloc_at (by simp) : w0.heap[w.heap.size + 1 + 1]? = some (.cells #[.int .i64 0, .bool false] 26 (0, 0)))
  have HC0 : Hid (CrossAt w0 b off C) := HC.out.on HB0.out hbw
  have hb0 : b < w0.heap.size := by omega
  clear hw0 hC hk2 hci hck f1 f2 he hm
  go_enter Try.func87, Try.ntmps87
  go_wp2_with (go_at_call 63; rw [← HW0.out]; refine (HE.out _ hb0 HC0.out).mono ?_; rintro e9 w1 ⟨rfl, hb1⟩; refine Hid.out ?_)
  refine Lib.hid ?_
  have hs1 := hb1.size
  have HG0 : Hid (w1.heap[w.heap.size]? = some (.cells #[.slice (some ⟨b, off, none⟩) C.length cap, .int .i64 loops] 24 (0, 0))) := (hb1.block _ (by omega)).trans HT0.out
  have HG2 : Hid (w1.heap[w.heap.size + 1 + 1]? = some (.cells #[.int .i64 0, .bool false] 26 (0, 0))) := (hb1.block _ (by omega)).trans HT2.out
  have HB1 : Hid (Below w.heap.size w w1) := HB0.out.trans (hb1.mono (by omega))
  obtain ⟨X, hX⟩ : ∃ X, X = (w1.alloc (.cells #[.int .i64 i, .int .i64 k] 96)).alloc (.cells #[.int .i64 i, .int .i64 k2] 96) := ⟨_, rfl⟩
  have HX : Hid (X = (w1.alloc (.cells #[.int .i64 i, .int .i64 k] 96)).alloc (.cells #[.int .i64 i, .int .i64 k2] 96)) := hX
  have H1X : Hid (Below w1.heap.size w1 X) := (by rw [hX]; exact below2 _ _ _ : Below w1.heap.size w1 X)
  have hsX : w1.heap.size + 2 ≤ X.heap.size := by rw [hX]; simp
  have HGT : Hid (X.heap[w1.heap.size + 1]? = some (.cells #[.int .i64 i, .int .i64 k2] 96 (0, 0))) := (by rw [hX]; exact alloc_at (by simp) : X.heap[w1.heap.size + 1]? = some (.cells #[.int .i64 i, .int .i64 k2] 96 (0, 0)))
  have HBX : Hid (Below w.heap.size w X) := HB1.out.trans (H1X.out.mono HB1.out.size)
  have HCX : Hid (CrossAt X b off C) := HC.out.on HBX.out hbw
  clear hb1 hX
  have HG2X : Hid (∀ w', Below X.heap.size X w' → w'.heap[w.heap.size + 1 + 1]? = some (.cells #[.int .i64 0, .bool false] 26 (0, 0))) := fun w' hb => (hb.block _ (by omega)).trans ((H1X.out.block _ (by omega)).trans HG2.out)
  have HF : Hid (∀ w', Below X.heap.size X w' → w'.cell? ⟨w.heap.size, 0, none⟩ = some (.slice (some ⟨b, off, none⟩) C.length cap) ∧ w'.cell? ⟨w.heap.size, 1, none⟩ = some (.int .i64 loops) ∧ w'.cell? ⟨w1.heap.size + 1, 0, none⟩ = some (.int .i64 i) ∧ w'.cell? ⟨w1.heap.size + 1, 1, none⟩ = some (.int .i64 k2)) := fun w' hb => by
    have g0 := (hb.block _ (by omega)).trans ((H1X.out.block _ (by omega)).trans HG0.out)
    have g1 := (hb.block _ (by omega)).trans HGT.out
    exact ⟨block_cell g0 rfl, block_cell g0 rfl, block_cell g1 rfl, block_cell g1 rfl⟩
  have HFS : Hid (∀ wX u v, Below X.heap.size X wX → (fun w' => w'.cell? ⟨w.heap.size, 0, none⟩ = some (.slice (some ⟨b, off, none⟩) C.length cap) ∧ w'.cell? ⟨w.heap.size, 1, none⟩ = some (.int .i64 loops) ∧ w'.cell? ⟨w1.heap.size + 1, 0, none⟩ = some (.int .i64 i) ∧ w'.cell? ⟨w1.heap.size + 1, 1, none⟩ = some (.int .i64 k2)) (st2 wX (w.heap.size + 1 + 1) 0 u v)) := fun wX u v hb => by
    have hg := st2_grown wX (w.heap.size + 1 + 1) 0 u v
    have hz := hb.size
    obtain ⟨h1, h2, h3, h4⟩ := HF.out wX hb
    exact ⟨hg.cell h1 (fun e => by have : w.heap.size = w.heap.size + 1 + 1 := Option.some.inj e; omega), hg.cell h2 (fun e => by have : w.heap.size = w.heap.size + 1 + 1 := Option.some.inj e; omega), hg.cell h3 (fun e => by have : w1.heap.size + 1 = w.heap.size + 1 + 1 := Option.some.inj e; omega), hg.cell h4 (fun e => by have : w1.heap.size + 1 = w.heap.size + 1 + 1 := Option.some.inj e; omega)⟩
  have HDX : Hid (Below X.heap.size X X.drew) := (Below.refl _ _).drew
  have hbX : b < X.heap.size := by omega
  go_wp2
  rw [← HX.out]
  obtain ⟨p0, p1, p2, p3⟩ := HF.out X (Below.refl _ _)
  go_region_held3 (fun w' => w'.cell? ⟨w.heap.size, 0, none⟩ = some (.slice (some ⟨b, off, none⟩) C.length cap) ∧ w'.cell? ⟨w.heap.size, 1, none⟩ = some (.int .i64 loops) ∧ w'.cell? ⟨w1.heap.size + 1, 0, none⟩ = some (.int .i64 i) ∧ w'.cell? ⟨w1.heap.size + 1, 1, none⟩ = some (.int .i64 k2)) (first | exact HF.out _ HE9.out | exact HFS.out _ _ _ HE9.out | exact HF.out _ HA9.out | exact HF.out _ HDX.out) (first
    | (go_at_call 60; refine (arcAt_any b off cap loops C i k2 X.drew hi hk24 hbX (HCX.out.on HDX.out hbX)).mono ?_; rw [HF1.out]; rintro e9 wA ⟨rfl, hbA⟩
       have HA9 : Hid (Below X.heap.size X wA) := HDX.out.trans (hbA.mono HDX.out.size)
       have hlA : b < wA.heap.size := by have := HA9.out.size; omega
       clear hbA)
    | (go_at_call 61; refine (entry_any b off cap loops C i k2 _ hi hk24 hlA (HCX.out.on HA9.out hbX)).mono ?_; rw [HF2.out]; rintro e9 wE ⟨rfl, hbE⟩
       have HE9 : Hid (Below X.heap.size X wE) := HA9.out.trans (hbE.mono HA9.out.size)
       have g9 := HG2X.out wE HE9.out
       have r0 := block_cell (i := 0) (v := .int .i64 0) g9 rfl
       have r1 := block_cell (i := 1) (v := .bool false) g9 rfl
       have f0 := block_frozen (i := 0) g9
       have f1 := block_frozen (i := 1) g9
       have lr : w.heap.size + 1 + 1 < wE.heap.size := (Array.getElem?_eq_some_iff.1 g9).1
       clear hbE g9))
  all_goals
    have hX2 := set_block (i := 1) (u := .bool zB) (set_block (i := 0) (u := .int .i64 zA) (HG2X.out wE HE9.out))
    have x0 := block_cell (i := 0) (v := .int .i64 zA) hX2 rfl
    have x1 := block_cell (i := 1) (v := .bool zB) hX2 rfl
    clear r0 r1 hX2
    go_wp2
    exact bodyPost_ret (v := .agg #[.int .i64 zA, .bool zB]) (by simp [results, Try.results87, go_sem, x0, x1]) rfl ⟨rfl, (HBX.out.trans (HE9.out.mono (by omega))).grown (st2_grown wE (w.heap.size + 1 + 1) 0 (.int .i64 zA) (.bool zB)) (by omega) (fun q hq => by have := Option.some.inj hq; omega)⟩
end Go.Proofs.Ytagaajlbkfkaiaa

/- Several texts of the proof, one behind the other. -/
import Derived.Test.YtlcogbcpmneknaaW6P
import Derived.Deep.Cut
import Derived.Test.YtlcogbcpmneknaaH7
/- The walks of Drawing.Onward and ref.NextDart. -/
namespace Go.Proofs.Ytlcogbcpmneknaa
open Go.RowKit

set_option maxHeartbeats 4000000 in
set_option maxRecDepth 100000 in
theorem onward_any (a : Option Addr) (cap : Nat) (C : List Cr) (loops : Int) (gF cF gT cT : Nat) (j : Nat) (w : World) (hm : mayD C loops = true) (h1 : 1 ≤ j) (h2 : j ≤ 4 * C.length) (hD : Dr w a cap C gF gT) :
    Calls Try.prog 44 #[drV a cap C loops gF cF gT cT, .agg #[.int .i64 (dA j : Nat), .bool (dB j)]] w fun e w' => e = .returned (.agg #[.int .i64 (dA (fd C j) : Nat), .bool (dB (fd C j))]) ∧ Below w.heap.size w w' := by
  have HM : Hid (mayD C loops = true) := hm
  have hA := dA_le h1 h2
  obtain ⟨-, hi, hs⟩ := d_may hm j h1 h2
  obtain ⟨f1, f2, -, -⟩ := fd_may hm j h1 h2
  have HF1 : Hid ((C.getD (dC C j) Cr.none).arc ((dS C j + 3) % 4) = (dA (fd C j) : Int)) := f1
  have HF2 : Hid ((C.getD (dC C j) Cr.none).comes ((dS C j + 3) % 4) = dB (fd C j)) := f2
  obtain ⟨i, hci⟩ : ∃ i, dC C j = i := ⟨_, rfl⟩
  obtain ⟨k, hck⟩ : ∃ k, dS C j = k := ⟨_, rfl⟩
  have HE : Hid (∀ W, Dr W a cap C gF gT → Calls Try.prog 52 #[drV a cap C loops gF cF gT cT, .agg #[.int .i64 (dA j : Nat), .bool (dB j)]] W fun e w' => e = .returned (.agg #[.int .i64 (i : Nat), .int .i64 (k : Nat)]) ∧ Below W.heap.size W w') := fun W hW => by
    rw [← hci, ← hck]
    exact end_any a cap C loops gF cF gT cT (dA j) (dB j) W hm hA.1 hA.2 hW
  rw [hci, hck] at HF1 HF2
  rw [hci] at hi
  rw [hck] at hs
  generalize dA (fd C j) = zA at HF1 ⊢
  generalize dB (fd C j) = zB at HF2 ⊢
  obtain ⟨k2, hk2⟩ : ∃ k2 : Nat, k2 = (k + 3) % 4 := ⟨_, rfl⟩
  rw [← hk2] at HF1 HF2
  have e0 : IntKind.i64.wrap ((k : Int) + 4) = (k : Int) + 4 := IntWalk.i64_in _ (by omega)
  have e1 : IntKind.i64.wrap ((k : Int) + 4 - 1) = (k : Int) + 4 - 1 := IntWalk.i64_in _ (by omega)
  have e2 : ((k : Int) + 4 - 1).tmod 4 = (k2 : Int) := by rw [Int.tmod_eq_emod_of_nonneg (by omega)]; omega
  have hk24 : k2 < 4 := by omega
  have HD : Hid (Dr w a cap C gF gT) := hD
  clear hk2 hci hck f1 f2 hm hD
  obtain ⟨b, off, rfl, hbw, hC⟩ := HD.out.cross (by omega)
  have HC : Hid (CrossAt w b off C) := hC
  unfold drV
  unfold drV at HE
  generalize dA j = jA at HE hA ⊢
  generalize dB j = jB at HE ⊢
  obtain ⟨w0, hw0⟩ : ∃ w0, w0 = ((w.alloc (.cells #[.slice (some ⟨b, off, none⟩) C.length cap, .int .i64 loops, .slice (some ⟨gF, 0, none⟩) (2 * C.length + 1) cF, .slice (some ⟨gT, 0, none⟩) (2 * C.length + 1) cT] 39)).alloc (.cells #[.int .i64 jA, .bool jB] 67)).alloc (.cells #[.int .i64 0, .bool false] 67) := ⟨_, rfl⟩
  have HW0 : Hid (w0 = ((w.alloc (.cells #[.slice (some ⟨b, off, none⟩) C.length cap, .int .i64 loops, .slice (some ⟨gF, 0, none⟩) (2 * C.length + 1) cF, .slice (some ⟨gT, 0, none⟩) (2 * C.length + 1) cT] 39)).alloc (.cells #[.int .i64 jA, .bool jB] 67)).alloc (.cells #[.int .i64 0, .bool false] 67)) := hw0
  have hs0 : w0.heap.size = w.heap.size + 3 := by rw [hw0]; simp
  have HB0 : Hid (Below w.heap.size w w0) := (by rw [hw0]; exact below3 _ _ _ _ : Below w.heap.size w w0)
  have HT0 : Hid (w0.heap[w.heap.size]? = some (.cells #[.slice (some ⟨b, off, none⟩) C.length cap, .int .i64 loops, .slice (some ⟨gF, 0, none⟩) (2 * C.length + 1) cF, .slice (some ⟨gT, 0, none⟩) (2 * C.length + 1) cT] 39 (0, 0))) := (by rw [hw0]; exact alloc_old (alloc_old (alloc_at rfl)) : w0.heap[w.heap.size]? = some (.cells #[.slice (some ⟨b, off, none⟩) C.length cap, .int .i64 loops, .slice (some ⟨gF, 0, none⟩) (2 * C.length + 1) cF, .slice (some ⟨gT, 0, none⟩) (2 * C.length + 1) cT] 39 (0, 0)))
  have HT2 : Hid (w0.heap[w.heap.size + 1 + 1]? = some (.cells #[.int .i64 0, .bool false] 67 (0, 0))) := (by rw [hw0]; exact alloc_at (by simp) : w0.heap[w.heap.size + 1 + 1]? = some (.cells #[.int .i64 0, .bool false] 67 (0, 0)))
  have HD0 : Hid (Dr w0 (some ⟨b, off, none⟩) cap C gF gT) := HD.out.on HB0.out
  clear hw0 hC
  go_enter Try.func44, Try.ntmps44
  go_wp2_with (go_at_call 52; rw [← HW0.out]; refine (HE.out _ HD0.out).mono ?_; rintro e9 w1 ⟨rfl, hb1⟩; refine Hid.out ?_)
  refine Lib.hid ?_
  have hs1 := hb1.size
  have g0 := (hb1.block _ (by omega)).trans HT0.out
  have HG2 : Hid (w1.heap[w.heap.size + 1 + 1]? = some (.cells #[.int .i64 0, .bool false] 67 (0, 0))) := (hb1.block _ (by omega)).trans HT2.out
  have HB1 : Hid (Below w.heap.size w w1) := HB0.out.trans (hb1.mono (by omega))
  have p0 : w1.cell? ⟨w.heap.size, 0, none⟩ = some (.slice (some ⟨b, off, none⟩) C.length cap) := block_cell g0 rfl
  have p1 : w1.cell? ⟨w.heap.size, 1, none⟩ = some (.int .i64 loops) := block_cell g0 rfl
  have p2 : w1.cell? ⟨w.heap.size, 2, none⟩ = some (.slice (some ⟨gF, 0, none⟩) (2 * C.length + 1) cF) := block_cell g0 rfl
  have p3 : w1.cell? ⟨w.heap.size, 3, none⟩ = some (.slice (some ⟨gT, 0, none⟩) (2 * C.length + 1) cT) := block_cell g0 rfl
  have l0 : w.heap.size < w1.heap.size := by omega
  obtain ⟨X, hX⟩ : ∃ X, X = w1.alloc (.cells #[.int .i64 i, .int .i64 k2] 90) := ⟨_, rfl⟩
  have HX : Hid (X = w1.alloc (.cells #[.int .i64 i, .int .i64 k2] 90)) := hX
  have H1X : Hid (Below w1.heap.size w1 X) := (by rw [hX]; exact (Below.refl _ _).alloc (Nat.le_refl _) _ : Below w1.heap.size w1 X)
  have hsX : X.heap.size = w1.heap.size + 1 := by rw [hX]; simp
  have HBX : Hid (Below w.heap.size w X) := HB1.out.trans (H1X.out.mono HB1.out.size)
  have HCX : Hid (CrossAt X b off C) := HC.out.on HBX.out hbw
  clear hb1 g0 hX
  go_wp2_with (go_at_call 46; rw [← HX.out]; refine (leaving_any b off cap C loops _ _ i k2 _ hi hk24 (by omega) HCX.out).mono ?_; rw [HF1.out, HF2.out]; rintro e9 w2 ⟨rfl, hb2⟩; refine Hid.out ?_)
  refine Lib.hid ?_
  have hs2 := hb2.size
  have g2 := (hb2.block _ (by omega)).trans ((H1X.out.block _ (by omega)).trans HG2.out)
  have r0 := block_cell (i := 0) (v := .int .i64 0) g2 rfl
  have r1 := block_cell (i := 1) (v := .bool false) g2 rfl
  have f0 := block_frozen (i := 0) g2
  have f1 := block_frozen (i := 1) g2
  have lr : w.heap.size + 1 + 1 < w2.heap.size := by omega
  have HB2 : Hid (Below w.heap.size w w2) := HBX.out.trans (hb2.mono (by omega))
  have HGG : Hid (w2.heap[w.heap.size + 1 + 1]? = some (.cells #[.int .i64 0, .bool false] 67 (0, 0))) := g2
  clear hb2 g2 p0 p1 p2 p3
  go_wp2
  have hX2 := set_block (i := 1) (u := .bool zB) (set_block (i := 0) (u := .int .i64 zA) HGG.out)
  have x0 := block_cell (i := 0) (v := .int .i64 zA) hX2 rfl
  have x1 := block_cell (i := 1) (v := .bool zB) hX2 rfl
  exact bodyPost_ret (v := .agg #[.int .i64 zA, .bool zB]) (by simp [results, Try.results44, go_sem, x0, x1]) rfl ⟨rfl, HB2.out.grown (st2_grown w2 (w.heap.size + 1 + 1) 0 (.int .i64 zA) (.bool zB)) (by omega) (fun q hq => by have := Option.some.inj hq; omega)⟩

set_option maxHeartbeats 4000000 in
set_option maxRecDepth 100000 in
theorem nextDart_any (b off cap : Nat) (C : List Cr) (loops : Int) (j : Nat) (w : World) (hm : mayD C loops = true) (h1 : 1 ≤ j) (h2 : j ≤ 4 * C.length) (hbw : b < w.heap.size) (hC : CrossAt w b off C) :
    Calls Try.prog 38 #[.agg #[.slice (some ⟨b, off, none⟩) C.length cap, .int .i64 loops], .agg #[.int .i64 (dA j : Nat), .bool (dB j)]] w fun e w' => e = .returned (.agg #[.int .i64 (dA (fd C j) : Nat), .bool (dB (fd C j))]) ∧ Below w.heap.size w w' := by
  have HM : Hid (mayD C loops = true) := hm
  have hA := dA_le h1 h2
  obtain ⟨he, hi, hs⟩ := d_may hm j h1 h2
  obtain ⟨f1, f2, -, -⟩ := fd_may hm j h1 h2
  have HF1 : Hid ((C.getD (dC C j) Cr.none).arc ((dS C j + 3) % 4) = (dA (fd C j) : Int)) := f1
  have HF2 : Hid ((C.getD (dC C j) Cr.none).comes ((dS C j + 3) % 4) = dB (fd C j)) := f2
  obtain ⟨i, hci⟩ : ∃ i, dC C j = i := ⟨_, rfl⟩
  obtain ⟨k, hck⟩ : ∃ k, dS C j = k := ⟨_, rfl⟩
  have HE : Hid (∀ W, b < W.heap.size → CrossAt W b off C → Calls Try.prog 23 #[.agg #[.slice (some ⟨b, off, none⟩) C.length cap, .int .i64 loops], .int .i64 (dA j : Nat), .bool (dB j)] W fun e w' => e = .returned (.agg #[.int .i64 (i : Nat), .int .i64 (k : Nat)]) ∧ Below W.heap.size W w') := fun W hW hCW => by
    have h := endOf_any b off cap C loops (dA j) (dB j) W hm hA.1 hA.2 hW hCW
    rw [he, hci, hck] at h
    exact h
  rw [hci, hck] at HF1 HF2
  rw [hci] at hi
  rw [hck] at hs
  generalize dA (fd C j) = zA at HF1 ⊢
  generalize dB (fd C j) = zB at HF2 ⊢
  generalize dA j = jA at HE hA ⊢
  generalize dB j = jB at HE ⊢
  obtain ⟨k2, hk2⟩ : ∃ k2 : Nat, k2 = (k + 3) % 4 := ⟨_, rfl⟩
  rw [← hk2] at HF1 HF2
  have e1 : IntKind.i64.wrap ((k : Int) + 3) = (k : Int) + 3 := IntWalk.i64_in _ (by omega)
  have e2 : ((k : Int) + 3).tmod 4 = (k2 : Int) := by rw [Int.tmod_eq_emod_of_nonneg (by omega)]; omega
  have hk24 : k2 < 4 := by omega
  have HC : Hid (CrossAt w b off C) := hC
  obtain ⟨w0, hw0⟩ : ∃ w0, w0 = ((w.alloc (.cells #[.slice (some ⟨b, off, none⟩) C.length cap, .int .i64 loops] 24)).alloc (.cells #[.int .i64 jA, .bool jB] 67)).alloc (.cells #[.int .i64 0, .bool false] 67) := ⟨_, rfl⟩
  have HW0 : Hid (w0 = ((w.alloc (.cells #[.slice (some ⟨b, off, none⟩) C.length cap, .int .i64 loops] 24)).alloc (.cells #[.int .i64 jA, .bool jB] 67)).alloc (.cells #[.int .i64 0, .bool false] 67)) := hw0
  have hs0 : w.heap.size + 3 ≤ w0.heap.size := by rw [hw0]; simp
  have HB0 : Hid (Below w.heap.size w w0) := (by rw [hw0]; exact below3 _ _ _ _ : Below w.heap.size w w0)
  have HT0 : Hid (w0.heap[w.heap.size]? = some (.cells #[.slice (some ⟨b, off, none⟩) C.length cap, .int .i64 loops] 24 (0, 0))) := (by rw [hw0]; exact alloc_old (alloc_old (alloc_at rfl)) : w0.heap[w.heap.size]? = some (.cells #[.slice (some ⟨b, off, none⟩) C.length cap, .int .i64 loops] 24 (0, 0)))
  have HT2 : Hid (w0.heap[w.heap.size + 1 + 1]? = some (.cells #[.int .i64 0, .bool false] 67 (0, 0))) := (by rw [hw0]; exact alloc_at (by simp) : w0.heap[w.heap.size + 1 + 1]? = some (.cells #[.int .i64 0, .bool false] 67 (0, 0)))
  have HC0 : Hid (CrossAt w0 b off C) := HC.out.on HB0.out hbw
  have hb0 : b < w0.heap.size := by omega
  clear hw0 hC hk2 hci hck f1 f2 he hm
  go_enter Try.func38, Try.ntmps38
  go_wp2_with (go_at_call 23; rw [← HW0.out]; refine (HE.out _ hb0 HC0.out).mono ?_; rintro e9 w1 ⟨rfl, hb1⟩; refine Hid.out ?_)
  refine Lib.hid ?_
  have hs1 := hb1.size
  have HG0 : Hid (w1.heap[w.heap.size]? = some (.cells #[.slice (some ⟨b, off, none⟩) C.length cap, .int .i64 loops] 24 (0, 0))) := (hb1.block _ (by omega)).trans HT0.out
  have HG2 : Hid (w1.heap[w.heap.size + 1 + 1]? = some (.cells #[.int .i64 0, .bool false] 67 (0, 0))) := (hb1.block _ (by omega)).trans HT2.out
  have HB1 : Hid (Below w.heap.size w w1) := HB0.out.trans (hb1.mono (by omega))
  obtain ⟨X, hX⟩ : ∃ X, X = (w1.alloc (.cells #[.int .i64 i, .int .i64 k] 56)).alloc (.cells #[.int .i64 i, .int .i64 k2] 56) := ⟨_, rfl⟩
  have HX : Hid (X = (w1.alloc (.cells #[.int .i64 i, .int .i64 k] 56)).alloc (.cells #[.int .i64 i, .int .i64 k2] 56)) := hX
  have H1X : Hid (Below w1.heap.size w1 X) := (by rw [hX]; exact below2 _ _ _ : Below w1.heap.size w1 X)
  have hsX : w1.heap.size + 2 ≤ X.heap.size := by rw [hX]; simp
  have HGT : Hid (X.heap[w1.heap.size + 1]? = some (.cells #[.int .i64 i, .int .i64 k2] 56 (0, 0))) := (by rw [hX]; exact alloc_at (by simp) : X.heap[w1.heap.size + 1]? = some (.cells #[.int .i64 i, .int .i64 k2] 56 (0, 0)))
  have HBX : Hid (Below w.heap.size w X) := HB1.out.trans (H1X.out.mono HB1.out.size)
  have HCX : Hid (CrossAt X b off C) := HC.out.on HBX.out hbw
  clear hb1 hX
  have HG2X : Hid (∀ w', Below X.heap.size X w' → w'.heap[w.heap.size + 1 + 1]? = some (.cells #[.int .i64 0, .bool false] 67 (0, 0))) := fun w' hb => (hb.block _ (by omega)).trans ((H1X.out.block _ (by omega)).trans HG2.out)
  have HF : Hid (∀ w', Below X.heap.size X w' → w'.cell? ⟨w.heap.size, 0, none⟩ = some (.slice (some ⟨b, off, none⟩) C.length cap) ∧ w'.cell? ⟨w.heap.size, 1, none⟩ = some (.int .i64 loops) ∧ w'.cell? ⟨w1.heap.size + 1, 0, none⟩ = some (.int .i64 i) ∧ w'.cell? ⟨w1.heap.size + 1, 1, none⟩ = some (.int .i64 k2)) := fun w' hb => by
    have g0 := (hb.block _ (by omega)).trans ((H1X.out.block _ (by omega)).trans HG0.out)
    have g1 := (hb.block _ (by omega)).trans HGT.out
    exact ⟨block_cell g0 rfl, block_cell g0 rfl, block_cell g1 rfl, block_cell g1 rfl⟩
  have HFS : Hid (∀ wX u v, Below X.heap.size X wX → (fun w' => w'.cell? ⟨w.heap.size, 0, none⟩ = some (.slice (some ⟨b, off, none⟩) C.length cap) ∧ w'.cell? ⟨w.heap.size, 1, none⟩ = some (.int .i64 loops) ∧ w'.cell? ⟨w1.heap.size + 1, 0, none⟩ = some (.int .i64 i) ∧ w'.cell? ⟨w1.heap.size + 1, 1, none⟩ = some (.int .i64 k2)) (st2 wX (w.heap.size + 1 + 1) 0 u v)) := fun wX u v hb => by
    have hg := st2_grown wX (w.heap.size + 1 + 1) 0 u v
    have hz := hb.size
    obtain ⟨h1, h2, h3, h4⟩ := HF.out wX hb
    exact ⟨hg.cell h1 (fun e => by have : w.heap.size = w.heap.size + 1 + 1 := Option.some.inj e; omega), hg.cell h2 (fun e => by have : w.heap.size = w.heap.size + 1 + 1 := Option.some.inj e; omega), hg.cell h3 (fun e => by have : w1.heap.size + 1 = w.heap.size + 1 + 1 := Option.some.inj e; omega), hg.cell h4 (fun e => by have : w1.heap.size + 1 = w.heap.size + 1 + 1 := Option.some.inj e; omega)⟩
  have HDX : Hid (Below X.heap.size X X.drew) := (Below.refl _ _).drew
  have hbX : b < X.heap.size := by omega
  go_wp2
  rw [← HX.out]
  obtain ⟨p0, p1, p2, p3⟩ := HF.out X (Below.refl _ _)
  go_region_held3 (fun w' => w'.cell? ⟨w.heap.size, 0, none⟩ = some (.slice (some ⟨b, off, none⟩) C.length cap) ∧ w'.cell? ⟨w.heap.size, 1, none⟩ = some (.int .i64 loops) ∧ w'.cell? ⟨w1.heap.size + 1, 0, none⟩ = some (.int .i64 i) ∧ w'.cell? ⟨w1.heap.size + 1, 1, none⟩ = some (.int .i64 k2)) (first | exact HF.out _ HE9.out | exact HFS.out _ _ _ HE9.out | exact HF.out _ HA9.out | exact HF.out _ HDX.out) (first
    | (go_at_call 24; refine (arcAt_any b off cap loops C i k2 X.drew hi hk24 hbX (HCX.out.on HDX.out hbX)).mono ?_; rw [HF1.out]; rintro e9 wA ⟨rfl, hbA⟩
       have HA9 : Hid (Below X.heap.size X wA) := HDX.out.trans (hbA.mono HDX.out.size)
       have hlA : b < wA.heap.size := by have := HA9.out.size; omega
       clear hbA)
    | (go_at_call 39; refine (entry_any b off cap loops C i k2 _ hi hk24 hlA (HCX.out.on HA9.out hbX)).mono ?_; rw [HF2.out]; rintro e9 wE ⟨rfl, hbE⟩
       have HE9 : Hid (Below X.heap.size X wE) := HA9.out.trans (hbE.mono HA9.out.size)
       have g9 := HG2X.out wE HE9.out
       have r0 := block_cell (i := 0) (v := .int .i64 0) g9 rfl
       have r1 := block_cell (i := 1) (v := .bool false) g9 rfl
       have f0 := block_frozen (i := 0) g9
       have f1 := block_frozen (i := 1) g9
       have lr : w.heap.size + 1 + 1 < wE.heap.size := (Array.getElem?_eq_some_iff.1 g9).1
       clear hbE g9))
  all_goals
    have hX2 := set_block (i := 1) (u := .bool zB) (set_block (i := 0) (u := .int .i64 zA) (HG2X.out wE HE9.out))
    have x0 := block_cell (i := 0) (v := .int .i64 zA) hX2 rfl
    have x1 := block_cell (i := 1) (v := .bool zB) hX2 rfl
    clear r0 r1 hX2
    go_wp2
    exact bodyPost_ret (v := .agg #[.int .i64 zA, .bool zB]) (by simp [results, Try.results38, go_sem, x0, x1]) rfl ⟨rfl, (HBX.out.trans (HE9.out.mono (by omega))).grown (st2_grown wE (w.heap.size + 1 + 1) 0 (.int .i64 zA) (.bool zB)) (by omega) (fun q hq => by have := Option.some.inj hq; omega)⟩
end Go.Proofs.Ytlcogbcpmneknaa
/- The walk of ref.FacesOf. -/
namespace Go.Proofs.Ytlcogbcpmneknaa
open Go.RowKit

/-- Darts as values. -/
def dd (l : List Nat) : List (Nat × Bool) := l.map fun j => (dA j, dB j)
theorem dd_app (l : List Nat) (j : Nat) : dd (l ++ [j]) = dd l ++ [(dA j, dB j)] := by simp [dd]
theorem dd_len (l : List Nat) : (dd l).length = l.length := by simp [dd]
/-- Rows of darts of the call's own. -/
def DartsOwn (w : World) (B : Nat) (v : Value) (L : List (List Nat)) : Prop :=
  ∃ ys : List Value, ys.length = L.length ∧ w.ownsRow B 65 1 v ys.length ys ∧ ∀ j, j < L.length → w.ownsRow B 67 2 (ys.getD j (.bool false)) (L.getD j []).length (vflat (dd (L.getD j [])))
theorem infoDart : (Try.prog.info? 67).map (fun i => (i.zero, i.size, i.bytes)) = some (some (.agg #[.int .i64 0, .bool false]), 2, 16) := by kernel_rfl
theorem infoDarts : (Try.prog.info? 65).map (fun i => (i.zero, i.size, i.bytes)) = some (some (.slice none 0 0), 1, 24) := by kernel_rfl
theorem code_d {x : Nat} (_h : 1 ≤ x) : (if dB x = true then 2 * dA x + 1 else 2 * dA x) = x + 1 := by
  unfold dB dA
  split
  · rename_i hd; simp at hd; omega
  · rename_i hd; simp at hd; omega
theorem div_d {i : Nat} : ((i : Int) + 2).tdiv 2 = (dA (i + 1) : Int) := by
  unfold dA
  rw [Int.tdiv_eq_ediv_of_nonneg (by omega)]
  omega
theorem bools_at (seen : List Bool) (x : Nat) (h : x < seen.length) : (bools (false :: seen))[x + 1]? = some (.bool (seen.getD x true)) := by
  simp [bools, List.getD_eq_getElem?_getD, h]
theorem bools_put (seen : List Bool) (x : Nat) : (bools (false :: seen)).set (x + 1) (.bool true) = bools (false :: seen.set x true) := by
  simp [bools]
theorem walkF_pre (f : Nat → Nat) (m : Nat) (seen : List Bool) (x : Nat) (acc : List Nat) : acc.length ≤ (walkF f m seen x acc).1.length := by
  induction m generalizing seen x acc with
  | zero => exact Nat.le_refl _
  | succ m ih =>
    simp only [walkF]
    split
    · exact Nat.le_refl _
    · have := ih (seen.set x true) (f x) (acc ++ [x])
      simp only [List.length_append, List.length_cons, List.length_nil] at this
      omega
theorem new_cell2' {W : World} {s : Nat} (hs : s = W.heap.size) (a b : Value) (e : TypeId) : ∀ j u, [a, b][j]? = some u → (W.alloc (.cells #[a, b] e)).cell? ((⟨s, 0, none⟩ : Addr).add j) = some u := by
  intro j u hu
  subst hs
  have hg : (W.alloc (.cells #[a, b] e)).heap[W.heap.size]? = some (.cells #[a, b] e (0, 0)) := alloc_at rfl
  have hadd : ∀ j, (⟨W.heap.size, 0, none⟩ : Addr).add j = ⟨W.heap.size, j, none⟩ := fun j => by unfold Addr.add; split <;> simp_all
  rw [hadd, cell_of_row _ _ _ _ _ _ hg]
  simpa using hu
/-- Where FacesOf stands behind the darts up to i. -/
structure FcAt (w : World) (gS cS : Nat) (box : Array Value) (tb : TypeId) (n : Nat) (R : List (List Nat) × List Bool) (v3 : Value) (zs : List Value) (wr : World) : Prop where
  box : wr.heap[w.heap.size]? = some (.cells box tb (0, 0))
  seen : wr.ownsRow (w.heap.size + 1) 4 1 (.slice (some ⟨gS, 0, none⟩) (n + 2) cS) (n + 2) (bools (false :: R.2))
  len : zs.length = R.1.length
  rows : wr.ownsRow (w.heap.size + 1) 65 1 v3 zs.length zs
  each : ∀ j, j < zs.length → wr.ownsRow (w.heap.size + 1) 67 2 (zs.getD j (.bool false)) (R.1.getD j []).length (vflat (dd (R.1.getD j [])))
  bel : Below w.heap.size w wr

set_option maxHeartbeats 16000000 in
set_option maxRecDepth 100000 in
theorem facesOf_any (a : Option Addr) (cap : Nat) (C : List Cr) (loops : Int) (w : World) (hm : mayD C loops = true) (hD : Crs w w.heap.size (.slice a C.length cap) C) :
    Calls Try.prog 20 #[.agg #[.slice a C.length cap, .int .i64 loops]] w fun e w' => ∃ v, e = .returned v ∧ DartsOwn w' w.heap.size v (facesM C) ∧ Below w.heap.size w w' := by
  obtain ⟨s1, -, -, -⟩ := sizeB_iff (may_size hm)
  obtain ⟨i0, hi, hz0, hz1, hz2⟩ := info_parts infoDart
  obtain ⟨i1, hj, hy0, hy1, hy2⟩ := info_parts infoDarts
  obtain ⟨i2, hk, hx0, hx1, hx2⟩ := info_parts infoBool
  have HM : Hid (mayD C loops = true) := hm
  have HD : Hid (Crs w w.heap.size (.slice a C.length cap) C) := hD
  have HNX : Hid (∀ x, 1 ≤ x → x ≤ 4 * C.length → 1 ≤ fd C x ∧ fd C x ≤ 4 * C.length) := fd_closed hm
  have HWM : Hid (facesM C = (walksTo (fd C) (4 * C.length) (4 * C.length)).1) := (rfl : facesM C = (walksTo (fd C) (4 * C.length) (4 * C.length)).1)
  clear hm hD
  have q1 : IntKind.i64.wrap (4 * (C.length : Int)) = 4 * (C.length : Int) := IntWalk.i64_in _ (by omega)
  have q2 : IntKind.i64.wrap (4 * (C.length : Int) + 2) = 4 * (C.length : Int) + 2 := IntWalk.i64_in _ (by omega)
  obtain ⟨w0, hw0⟩ : ∃ w0, w0 = w.alloc (.cells #[.slice a C.length cap, .int .i64 loops] 24) := ⟨_, rfl⟩
  have HW0 : Hid (w0 = w.alloc (.cells #[.slice a C.length cap, .int .i64 loops] 24)) := hw0
  have hs0 : w0.heap.size = w.heap.size + 1 := by rw [hw0]; simp
  have HB0 : Hid (Below w.heap.size w w0) := (by rw [hw0]; exact (Below.refl _ _).alloc (Nat.le_refl _) _ : Below w.heap.size w w0)
  have HT0 : Hid (w0.heap[w.heap.size]? = some (.cells #[.slice a C.length cap, .int .i64 loops] 24 (0, 0))) := (by rw [hw0]; exact alloc_at rfl : w0.heap[w.heap.size]? = some (.cells #[.slice a C.length cap, .int .i64 loops] 24 (0, 0)))
  clear hw0
  go_enter Try.func20, Try.ntmps20
  go_wp2_with (first | (at_make; refine wpList_make_full _ rfl _ _ 59 rfl (w.heap.size + 1) 4 i2 (.bool false) 1 Try.underlying59 hk hx0 hx1 .i64 .i64 _ _ (4 * C.length + 2) rfl rfl rfl rfl (by rw [hx2]; omega) (by unfold maxLen; omega) (by simp) ?_; intro w1 hrow hg1; refine Hid.out ?_))
  refine Lib.hid ?_
  rw [← HW0.out] at hrow hg1
  rw [made_false, hs0] at hrow
  have HK0 : Hid (FcAt w (w.heap.size + 1) (4 * C.length + 2) #[.slice a C.length cap, .int .i64 loops] 24 (4 * C.length) (walksTo (fd C) (4 * C.length) 0) (.slice none 0 0) [] w1) :=
    ⟨(hg1.block _ (by omega) (by simp)).trans HT0.out, hrow, rfl, World.ownsRow_nil _ _ _ _, fun j hj => absurd hj (Nat.not_lt_zero _), HB0.out.grown hg1 (by omega) (fun k hk => by cases hk)⟩
  clear hrow hg1 HT0 HB0 hs0 HW0
  go_wp2
  go_loopw [5, 6] (fun v5 v6 wr => ∃ (i j : Nat) (zs : List Value), i ≤ 4 * C.length ∧ Hid (j = i + 2) ∧ v6 = .int .i64 (j : Nat) ∧ FcAt w (w.heap.size + 1) (4 * C.length + 2) #[.slice a C.length cap, .int .i64 loops] 24 (4 * C.length) (walksTo (fd C) (4 * C.length) i) v5 zs wr) (fun _ v6 _ => 4 * C.length + 2 - (intOf v6).toNat)
  case atStart => exact ⟨0, 2, [], Nat.zero_le _, (rfl : 2 = 0 + 2), rfl, HK0.out⟩
  case round =>
    clear HK0
    rename World => W1
    obtain ⟨i, j0, zs, hin, hji, rfl, hk⟩ := hrel
    have HK : Hid (FcAt w (w.heap.size + 1) (4 * C.length + 2) #[.slice a C.length cap, .int .i64 loops] 24 (4 * C.length) (walksTo (fd C) (4 * C.length) i) _ zs W1) := hk
    have hgS := hk.seen.lt (w.heap.size + 1) rfl
    have HSL : Hid ((walksTo (fd C) (4 * C.length) i).2.length = 4 * C.length + 1) := walksTo_len _ _ _
    have HCT : Hid ((walksTo (fd C) (4 * C.length) i).1.length ≤ i) := walksTo_count _ _ _
    have HCC : Hid (∀ w', Below w.heap.size w w' → ∀ b off, a = some ⟨b, off, none⟩ → 0 < C.length → CrossAt w' b off C ∧ b < w'.heap.size) := fun w' hb b off ea hp => by
      obtain ⟨b', off', ea', hbw', hC'⟩ := crs_some HD.out hp
      rw [ea] at ea'
      injection ea' with ea'
      injection ea' with e1 e2
      subst e1 e2
      exact ⟨hC'.on hb hbw', Nat.lt_of_lt_of_le hbw' hb.size⟩
    by_cases hil : i < 4 * C.length
    · have hsd := hk.seen
      have hbl := hk.bel
      have hj2 : j0 < 4 * C.length + 2 := by have := hji.out; omega
      have hdj : decide ((j0 : Int) < 4 * (C.length : Int) + 2) = true := by simp; omega
      have hdj2 : decide (j0 < 4 * C.length + 2) = true := by simp; omega
      have e0 : W1.cell? ⟨w.heap.size + 1, j0, none⟩ = some (.bool ((walksTo (fd C) (4 * C.length) i).2.getD (i + 1) true)) := by
        rw [hsd.cellAt j0 (by omega), hji.out]
        exact bools_at _ _ (by rw [HSL.out]; omega)
      have hlz : zs.length ≤ i := by rw [hk.len]; exact HCT.out
      clear hk
      cases hfirst : (walksTo (fd C) (4 * C.length) i).2.getD (i + 1) true with
      | true =>
        rw [hfirst] at e0
        have HWT : Hid (walksTo (fd C) (4 * C.length) (i + 1) = ((walksTo (fd C) (4 * C.length) i).1, (walksTo (fd C) (4 * C.length) i).2)) := (by
          have h := walksTo_next (f := fd C) (n := 4 * C.length) (i := i) (acc := []) (seen := (walksTo (fd C) (4 * C.length) i).2) (walkF_seen hfirst)
          rw [if_pos rfl] at h
          exact h : walksTo (fd C) (4 * C.length) (i + 1) = ((walksTo (fd C) (4 * C.length) i).1, (walksTo (fd C) (4 * C.length) i).2))
        clear hsd hbl
        go_wp2
        go_roundw
        case rel =>
          refine ⟨i + 1, j0 + 1, zs, by omega, (by have := hji.out; omega : j0 + 1 = i + 1 + 2), by go_num, ?_⟩
          rw [HWT.out]
          exact HK.out
        case measure => simp only [intOf]; omega
      | false =>
        rw [hfirst] at e0
        have HFI : Hid ((walksTo (fd C) (4 * C.length) i).2.getD (i + 1) true = false) := hfirst
        obtain ⟨x0, hx0⟩ : ∃ x0, x0 = i + 1 := ⟨_, rfl⟩
        have t1 : (j0 : Int).tdiv 2 = (dA x0 : Int) := by rw [hji.out, hx0]; exact div_d
        obtain ⟨m0, hm0⟩ : ∃ m0 : Nat, m0 = j0 % 2 := ⟨_, rfl⟩
        have t2 : (j0 : Int).tmod 2 = (m0 : Int) := by rw [Int.tmod_eq_emod_of_nonneg (by omega)]; omega
        have t3 : ((m0 : Int) == 1) = dB x0 := by
          have := hji.out
          unfold dB
          by_cases e : m0 = 1
          · have e1 : x0 % 2 = 0 := by omega
            rw [e, e1]; rfl
          · have e1 : ¬ x0 % 2 = 0 := by omega
            have e2 : m0 = 0 := by omega
            rw [e2]; simp [e1]
        have hx0a : 1 ≤ x0 := by omega
        have hx0b : x0 ≤ 4 * C.length := by omega
        have HX0 : Hid (x0 = i + 1) := hx0
        clear hm0 hx0 hfirst
        obtain ⟨Y, hY⟩ : ∃ Y, Y = W1.alloc (.cells #[.int .i64 (dA x0 : Nat), .bool (dB x0)] 67) := ⟨_, rfl⟩
        have HY : Hid (Y = W1.alloc (.cells #[.int .i64 (dA x0 : Nat), .bool (dB x0)] 67)) := hY
        have HYG : Hid (W1.grownBy Y (some (w.heap.size + 1))) := (by rw [hY]; exact World.grownBy_alloc _ _ _ : W1.grownBy Y (some (w.heap.size + 1)))
        have HYB : Hid (Below w.heap.size w Y) := (by rw [hY]; exact hbl.alloc hbl.size _ : Below w.heap.size w Y)
        have HYX : Hid (Y.heap[W1.heap.size]? = some (.cells #[.int .i64 (dA x0 : Nat), .bool (dB x0)] 67 (0, 0))) := (by rw [hY]; exact alloc_at rfl : Y.heap[W1.heap.size]? = some (.cells #[.int .i64 (dA x0 : Nat), .bool (dB x0)] 67 (0, 0)))
        have HYS : Hid (Y.ownsRow (w.heap.size + 1) 4 1 (.slice (some ⟨w.heap.size + 1, 0, none⟩) (4 * C.length + 2) (4 * C.length + 2)) (4 * C.length + 2) (bools (false :: (walksTo (fd C) (4 * C.length) i).2))) := (by rw [hY]; exact hsd.alloc _ : Y.ownsRow (w.heap.size + 1) 4 1 (.slice (some ⟨w.heap.size + 1, 0, none⟩) (4 * C.length + 2) (4 * C.length + 2)) (4 * C.length + 2) (bools (false :: (walksTo (fd C) (4 * C.length) i).2)))
        have hsY : W1.heap.size + 1 ≤ Y.heap.size := by rw [hY]; simp
        clear hY hsd hbl
        have t4 : wrap64 ((dA x0 : Nat) : Int) = (dA x0 : Int) := (by have := (dA_le (n := C.length) hx0a hx0b).2; unfold wrap64; omega)
        go_wp2
        rw [← HY.out]
        clear t1 t2 t3 t4
        go_loopw [7] (fun v7 ws => ∃ (f : Nat) (seen : List Bool) (x : Nat) (acc : List Nat), 1 ≤ x ∧ x ≤ 4 * C.length ∧ Hid (walkF (fd C) (4 * C.length + 1) (walksTo (fd C) (4 * C.length) i).2 x0 [] = walkF (fd C) f seen x acc) ∧ Hid (unseen seen ≤ f) ∧ seen.length = 4 * C.length + 1 ∧ Hid (acc.length + unseen seen ≤ 4 * C.length + 1) ∧ Hid (ws.heap[W1.heap.size]? = some (.cells #[.int .i64 (dA x : Nat), .bool (dB x)] 67 (0, 0))) ∧
            ws.ownsRow (W1.heap.size + 1) 67 2 v7 acc.length (vflat (dd acc)) ∧ ws.ownsRow (w.heap.size + 1) 4 1 (.slice (some ⟨w.heap.size + 1, 0, none⟩) (4 * C.length + 2) (4 * C.length + 2)) (4 * C.length + 2) (bools (false :: seen)) ∧ W1.grownBy ws (some (w.heap.size + 1)) ∧ W1.heap.size + 1 ≤ ws.heap.size ∧ Below w.heap.size w ws) (fun v7 _ => 4 * C.length + 2 - lenOf v7)
        case atStart => exact ⟨4 * C.length + 1, (walksTo (fd C) (4 * C.length) i).2, x0, [], hx0a, hx0b, (rfl : walkF (fd C) (4 * C.length + 1) (walksTo (fd C) (4 * C.length) i).2 x0 [] = _), (by have := unseen_le (walksTo (fd C) (4 * C.length) i).2; rw [HSL.out] at this; exact this : unseen (walksTo (fd C) (4 * C.length) i).2 ≤ 4 * C.length + 1), HSL.out, (by have := unseen_le (walksTo (fd C) (4 * C.length) i).2; rw [HSL.out] at this; simpa using this : ([] : List Nat).length + unseen (walksTo (fd C) (4 * C.length) i).2 ≤ 4 * C.length + 1), HYX.out, World.ownsRow_nil _ _ _ _, HYS.out, HYG.out, hsY, HYB.out⟩
        case round =>
          clear HYX HYS HYG hsY HYB HY e0
          rename World => W3
          obtain ⟨f, seen, x, acc, hxa, hxb, hwk, hun, hsl, hac, hxbx, hown, hsd, hgr, hszW, hbl⟩ := hrel
          obtain ⟨a6, c6, rfl⟩ := own_capS hown
          obtain ⟨y, hy⟩ : ∃ y, y = x + 1 := ⟨_, rfl⟩
          have hyb : y < 4 * C.length + 2 := by omega
          have HCD : Hid ((if dB x = true then 2 * dA x + 1 else 2 * dA x) = y) := (by rw [hy]; exact code_d hxa : (if dB x = true then 2 * dA x + 1 else 2 * dA x) = y)
          have hda := (dA_le (n := C.length) hxa hxb).2
          have HE0 : Hid (∀ w', Below W3.heap.size W3 w' → w'.cell? ⟨w.heap.size + 1, y, none⟩ = some (.bool (seen.getD x true))) := fun w' hb => by
            refine bcell hb (hsd.lt (w.heap.size + 1) rfl).2 ?_
            rw [hsd.cellAt y (by omega), hy]
            exact bools_at _ _ (by omega)
          have c0 : W3.cell? ⟨W1.heap.size, 0, none⟩ = some (.int .i64 (dA x : Nat)) := block_cell hxbx.out rfl
          have c1 : W3.cell? ⟨W1.heap.size, 1, none⟩ = some (.bool (dB x)) := block_cell hxbx.out rfl
          have lx : W1.heap.size < W3.heap.size := by omega
          have HYY : Hid (y = x + 1) := hy
          have HOWN : Hid (W3.ownsRow (W1.heap.size + 1) 67 2 (.slice a6 acc.length c6) acc.length (vflat (dd acc))) := hown
          have HSD : Hid (W3.ownsRow (w.heap.size + 1) 4 1 (.slice (some ⟨w.heap.size + 1, 0, none⟩) (4 * C.length + 2) (4 * C.length + 2)) (4 * C.length + 2) (bools (false :: seen))) := hsd
          have HGR : Hid (W1.grownBy W3 (some (w.heap.size + 1))) := hgr
          have HBL : Hid (Below w.heap.size w W3) := hbl
          clear hown hsd hgr hbl hy
          cases hbit : seen.getD x true with
          | true =>
            have HBT : Hid (seen.getD x true = true) := hbit
            rw [hbit] at HE0
            clear hbit
            go_wp2_with (go_at_call 37; refine (dartCode_any (dA x) (dB x) _ (by omega)).mono ?_; rw [HCD.out]; rintro e9 wD ⟨rfl, hbD⟩; refine Hid.out ?_)
            refine Lib.hid ?_
            have e0 := HE0.out wD hbD
            have hsD := hbD.size
            have HWF : Hid (walkF (fd C) (4 * C.length + 1) (walksTo (fd C) (4 * C.length) i).2 x0 [] = (acc, seen)) := (hwk.out.trans (walkF_seen HBT.out) : walkF (fd C) (4 * C.length + 1) (walksTo (fd C) (4 * C.length) i).2 x0 [] = (acc, seen))
            have hpos : 0 < acc.length := by
              have h1 := (walkF_more (f := fd C) (m := 4 * C.length + 1) (acc := []) (by rw [HX0.out]; exact HFI.out : (walksTo (fd C) (4 * C.length) i).2.getD x0 true = false) (by have := unseen_le (walksTo (fd C) (4 * C.length) i).2; rw [HSL.out] at this; exact this)).1
              rw [HWF.out] at h1
              have h2 := walkF_pre (fd C) (4 * C.length + 1 - 1) ((walksTo (fd C) (4 * C.length) i).2.set x0 true) (fd C x0) ([] ++ [x0])
              rw [← h1] at h2
              exact h2
            have HWT : Hid (walksTo (fd C) (4 * C.length) (i + 1) = ((walksTo (fd C) (4 * C.length) i).1 ++ [acc], seen)) := (by
              have h := walksTo_next (f := fd C) (n := 4 * C.length) (i := i) (acc := acc) (seen := seen) (by rw [← HX0.out]; exact HWF.out)
              rw [if_neg (fun e => by rw [e] at hpos; exact absurd hpos (Nat.lt_irrefl _))] at h
              exact h : walksTo (fd C) (4 * C.length) (i + 1) = ((walksTo (fd C) (4 * C.length) i).1 ++ [acc], seen))
            have HGD : Hid (W1.grownBy wD (some (w.heap.size + 1))) := grown_new HGR.out (grown_below hbD none) (fun q hq => by cases hq)
            have HBD : Hid (Below w.heap.size w wD) := HBL.out.trans (hbD.mono HBL.out.size)
            have HX3 : Hid (wD.heap[w.heap.size]? = some (.cells #[.slice a C.length cap, .int .i64 loops] 24 (0, 0))) := (HGD.out.block _ (by omega) (fun e => by have := Option.some.inj e; omega)).trans HK.out.box
            have HRW : Hid (wD.ownsRow (w.heap.size + 1) 65 1 _ zs.length zs) := HK.out.rows.kept HGD.out (own_ne HK.out.rows HK.out.seen (by decide))
            have HEA : Hid (∀ j, j < zs.length → wD.ownsRow (w.heap.size + 1) 67 2 (zs.getD j (.bool false)) ((walksTo (fd C) (4 * C.length) i).1.getD j []).length (vflat (dd ((walksTo (fd C) (4 * C.length) i).1.getD j [])))) := fun j hj => (HK.out.each j hj).kept HGD.out (own_ne (HK.out.each j hj) HK.out.seen (by decide))
            have HON : Hid (∀ u ∈ [Value.slice a6 acc.length c6], u.oneCell' = true) := own_oneS HOWN.out
            have HOW : Hid (wD.ownsRow (w.heap.size + 1) 67 2 (.slice a6 acc.length c6) acc.length (vflat (dd acc))) := own_low (own_any HOWN.out (grown_below hbD none)) (by omega)
            have HSD2 : Hid (wD.ownsRow (w.heap.size + 1) 4 1 (.slice (some ⟨w.heap.size + 1, 0, none⟩) (4 * C.length + 2) (4 * C.length + 2)) (4 * C.length + 2) (bools (false :: seen))) := own_any HSD.out (grown_below hbD none)
            have hlen := HK.out.len
            clear hbD c0 c1
            go_wp2_with (first
              | (at_builtin; refine wpList_append_own _ rfl _ _ 51 rfl (w.heap.size + 1) 65 i1 (.slice none 0 0) 1 24 Try.underlying51 hj hy0 hy1 hy2 rfl (by decide) _ _ _ rfl (HRW.out.alloc _) ⟨wD.heap.size, 0, none⟩ 1 1 [Value.slice a6 acc.length c6] rfl rfl (new_cell1 _ _ _) HON.out (by unfold maxLen; omega) (by omega) (by simp; omega) ?_; intro v8 w8 hown8 hg8 _; go_frame))
            go_roundw
            case rel =>
              have hR := HRW.out.alloc (.cells #[Value.slice a6 acc.length c6] 65)
              have hO := HOW.out.alloc (.cells #[Value.slice a6 acc.length c6] 65)
              have hS := HSD2.out.alloc (.cells #[Value.slice a6 acc.length c6] 65)
              refine ⟨i + 1, j0 + 1, zs ++ [Value.slice a6 acc.length c6], by omega, (by have := hji.out; omega : j0 + 1 = i + 1 + 2), by go_num, ?_⟩
              rw [HWT.out]
              refine ⟨?_, hS.kept hg8 (own_ne hS hR (by decide)), by simp [hlen], by rw [List.length_append]; exact hown8, fun j hjl => ?_, (HBD.out.alloc (by omega) _).grown hg8 (by simp; omega) (fun q hq => by have := (hR.lt q hq).1; omega)⟩
              · refine (hg8.block _ (by simp; omega) (fun e => by have := (hR.lt _ e.symm).1; omega)).trans (alloc_old HX3.out)
              · by_cases hjk : j < zs.length
                · have e1 : ((walksTo (fd C) (4 * C.length) i).1 ++ [acc]).getD j [] = (walksTo (fd C) (4 * C.length) i).1.getD j [] := by rw [List.getD_eq_getElem?_getD, List.getD_eq_getElem?_getD, List.getElem?_append_left (by omega)]
                  rw [getD_left zs _ j hjk, e1]
                  have h1 := (HEA.out j hjk).alloc (.cells #[Value.slice a6 acc.length c6] 65)
                  exact h1.kept hg8 (own_ne h1 hR (by decide))
                · have ej : j = zs.length := by simp at hjl; omega
                  have e1 : ((walksTo (fd C) (4 * C.length) i).1 ++ [acc]).getD j [] = acc := by rw [ej, hlen]; simp [List.getD]
                  have e2 : (zs ++ [Value.slice a6 acc.length c6]).getD j (.bool false) = Value.slice a6 acc.length c6 := by rw [ej]; exact getD_last zs _
                  rw [e1, e2]
                  exact hO.kept hg8 (own_ne hO hR (by decide))
            case measure => simp only [intOf]; omega
          | false =>
            have HBT : Hid (seen.getD x true = false) := hbit
            rw [hbit] at HE0
            clear hbit
            go_wp2_with (go_at_call 37; refine (dartCode_any (dA x) (dB x) _ (by omega)).mono ?_; rw [HCD.out]; rintro e9 wD ⟨rfl, hbD⟩; refine Hid.out ?_)
            refine Lib.hid ?_
            have e0 := HE0.out wD hbD
            have hsD := hbD.size
            have HBD3 : Hid (Below W3.heap.size W3 wD) := hbD
            have c0 : wD.cell? ⟨W1.heap.size, 0, none⟩ = some (.int .i64 (dA x : Nat)) := bcell hbD lx (block_cell hxbx.out rfl)
            have c1 : wD.cell? ⟨W1.heap.size, 1, none⟩ = some (.bool (dB x)) := bcell hbD lx (block_cell hxbx.out rfl)
            have lxD : W1.heap.size < wD.heap.size := by omega
            clear hbD
            go_wp2_with (go_at_call 37; refine (dartCode_any (dA x) (dB x) _ (by omega)).mono ?_; rw [HCD.out]; rintro e9 wE ⟨rfl, hbE⟩; refine Hid.out ?_)
            refine Lib.hid ?_
            have HBE3 : Hid (Below W3.heap.size W3 wE) := HBD3.out.trans (hbE.mono hsD)
            have hsE := hbE.size
            clear hbE e0 c0 c1
            have HSE : Hid (wE.ownsRow (w.heap.size + 1) 4 1 (.slice (some ⟨w.heap.size + 1, 0, none⟩) (4 * C.length + 2) (4 * C.length + 2)) (4 * C.length + 2) (bools (false :: seen))) := own_any HSD.out (grown_below HBE3.out none)
            have e0 : wE.cell? ⟨w.heap.size + 1, y, none⟩ = some (.bool false) := HE0.out wE HBE3.out
            have z0 : wE.frozen? ⟨w.heap.size + 1, y, none⟩ = false := HSE.out.frozenAt y
            have lg : w.heap.size + 1 < wE.heap.size := (HSE.out.lt (w.heap.size + 1) rfl).2
            have hst := HSE.out.stored y (.bool true)
            rw [HYY.out, bools_put, ← HYY.out] at hst
            have HXE : Hid (wE.heap[W1.heap.size]? = some (.cells #[.int .i64 (dA x : Nat), .bool (dB x)] 67 (0, 0))) := (HBE3.out.block _ lx).trans hxbx.out
            have HSV : Hid ((wE.setCell ⟨w.heap.size + 1, y, none⟩ (.bool true)).ownsRow (w.heap.size + 1) 4 1 (.slice (some ⟨w.heap.size + 1, 0, none⟩) (4 * C.length + 2) (4 * C.length + 2)) (4 * C.length + 2) (bools (false :: (seen.set x true)))) := hst.1
            have HXV : Hid ((wE.setCell ⟨w.heap.size + 1, y, none⟩ (.bool true)).heap[W1.heap.size]? = some (.cells #[.int .i64 (dA x : Nat), .bool (dB x)] 67 (0, 0))) := (hst.2.block _ (by omega) (fun e => by have : W1.heap.size = w.heap.size + 1 := Option.some.inj e; omega)).trans HXE.out
            have HOV : Hid ((wE.setCell ⟨w.heap.size + 1, y, none⟩ (.bool true)).ownsRow (W1.heap.size + 1) 67 2 (.slice a6 acc.length c6) acc.length (vflat (dd acc))) := (own_any HOWN.out (grown_below HBE3.out none)).kept hst.2 (own_ne (own_any HOWN.out (grown_below HBE3.out none)) HSE.out (by decide))
            have HBV : Hid (Below w.heap.size w (wE.setCell ⟨w.heap.size + 1, y, none⟩ (.bool true))) := (HBL.out.trans (HBE3.out.mono HBL.out.size)).grown hst.2 (by have := HBL.out.size; omega) (fun q hq => by have := Option.some.inj hq; omega)
            have HGV : Hid (W1.grownBy (wE.setCell ⟨w.heap.size + 1, y, none⟩ (.bool true)) (some (w.heap.size + 1))) := grown_trans (grown_new HGR.out (grown_below HBE3.out none) (fun q hq => by cases hq)) hst.2
            have HWK : Hid (walkF (fd C) f seen x acc = walkF (fd C) (f - 1) (seen.set x true) (fd C x) (acc ++ [x]) ∧ unseen (seen.set x true) ≤ f - 1) := walkF_more HBT.out hun.out
            have HUS : Hid (unseen (seen.set x true) + 1 = unseen seen) := unseen_set HBT.out
            have hacl : acc.length < 4 * C.length + 1 := by have := hac.out; have := HUS.out; omega
            have hsV : (wE.setCell ⟨w.heap.size + 1, y, none⟩ (.bool true)).heap.size = wE.heap.size := by simp
            have c0 : (wE.setCell ⟨w.heap.size + 1, y, none⟩ (.bool true)).cell? ⟨W1.heap.size, 0, none⟩ = some (.int .i64 (dA x : Nat)) := block_cell HXV.out rfl
            have c1 : (wE.setCell ⟨w.heap.size + 1, y, none⟩ (.bool true)).cell? ⟨W1.heap.size, 1, none⟩ = some (.bool (dB x)) := block_cell HXV.out rfl
            have HFX : Hid (1 ≤ fd C x ∧ fd C x ≤ 4 * C.length) := HNX.out x hxa hxb
            clear hst
            go_wp2_with (first
              | (at_builtin; refine wpList_append_own _ rfl _ _ 65 rfl (W1.heap.size + 1) 67 i0 (.agg #[.int .i64 0, .bool false]) 2 16 Try.underlying65 hi hz0 hz1 hz2 rfl (by decide) _ _ _ rfl (HOV.out.alloc _) ⟨wE.heap.size, 0, none⟩ 1 1 [.int .i64 (dA x : Nat), .bool (dB x)] rfl rfl (new_cell2' hsV.symm _ _ _) (vflat_one [(dA x, dB x)]) (by unfold maxLen; omega) (by omega) (by simp; omega) ?_; intro v8 w8 hown8 hg8 _; refine Hid.out ?_))
            refine Lib.hid ?_
            have HG8 : Hid (((wE.setCell ⟨w.heap.size + 1, y, none⟩ (.bool true)).alloc (.cells #[.int .i64 (dA x : Nat), .bool (dB x)] 67)).grownBy w8 (Value.slice a6 acc.length c6).ownBlock) := hg8
            have HO8 : Hid (w8.ownsRow (W1.heap.size + 1) 67 2 v8 (acc ++ [x]).length (vflat (dd (acc ++ [x])))) := (by rw [List.length_append, dd_app, vflat_append]; exact hown8 : w8.ownsRow (W1.heap.size + 1) 67 2 v8 (acc ++ [x]).length (vflat (dd (acc ++ [x]))))
            have hA := HOV.out.alloc (.cells #[.int .i64 (dA x : Nat), .bool (dB x)] 67)
            have hS := HSV.out.alloc (.cells #[.int .i64 (dA x : Nat), .bool (dB x)] 67)
            have HS8 : Hid (w8.ownsRow (w.heap.size + 1) 4 1 (.slice (some ⟨w.heap.size + 1, 0, none⟩) (4 * C.length + 2) (4 * C.length + 2)) (4 * C.length + 2) (bools (false :: (seen.set x true)))) := hS.kept HG8.out (own_ne hS hA (by decide))
            have HG18 : Hid (W1.grownBy w8 (some (w.heap.size + 1))) := grown_new (grown_trans HGV.out (grown_none (World.grownBy_alloc _ _ none))) HG8.out (fun q hq => by have := (hA.lt q hq).1; omega)
            have HB8 : Hid (Below w.heap.size w w8) := (HBV.out.alloc (by rw [hsV]; omega) _).grown HG8.out (by simp; omega) (fun q hq => by have := (hA.lt q hq).1; omega)
            have HX8 : Hid (w8.heap[W1.heap.size]? = some (.cells #[.int .i64 (dA x : Nat), .bool (dB x)] 67 (0, 0))) := (HG8.out.block _ (by simp; omega) (fun e => by have := (hA.lt _ e.symm).1; omega)).trans (alloc_old HXV.out)
            have hs8 : W1.heap.size + 1 ≤ w8.heap.size := by have := HG8.out.size; simp at this; omega
            obtain ⟨b, off, ea, -, -⟩ := crs_some HD.out (by omega)
            obtain ⟨hC8, hb8⟩ := HCC.out w8 HB8.out b off ea (by omega)
            have HC8 : Hid (CrossAt w8 b off C) := hC8
            have HT8 : Hid (w8.heap[w.heap.size]? = some (.cells #[.slice (some ⟨b, off, none⟩) C.length cap, .int .i64 loops] 24 (0, 0))) := (by rw [← ea]; exact (HG18.out.block _ (by omega) (fun e => by have : w.heap.size = w.heap.size + 1 := Option.some.inj e; omega)).trans HK.out.box : w8.heap[w.heap.size]? = some (.cells #[.slice (some ⟨b, off, none⟩) C.length cap, .int .i64 loops] 24 (0, 0)))
            have p0 : w8.cell? ⟨w.heap.size, 0, none⟩ = some (.slice (some ⟨b, off, none⟩) C.length cap) := block_cell HT8.out rfl
            have p1 : w8.cell? ⟨w.heap.size, 1, none⟩ = some (.int .i64 loops) := block_cell HT8.out rfl
            have d0 : w8.cell? ⟨W1.heap.size, 0, none⟩ = some (.int .i64 (dA x : Nat)) := block_cell HX8.out rfl
            have d1 : w8.cell? ⟨W1.heap.size, 1, none⟩ = some (.bool (dB x)) := block_cell HX8.out rfl
            clear hA hS hg8 hown8 e0 z0 c0 c1 hC8 ea
            go_wp2_with (go_at_call 38; refine (nextDart_any b off cap C loops x _ HM.out hxa hxb hb8 HC8.out).mono ?_; rintro e9 w9 ⟨rfl, hb9⟩; refine Hid.out ?_)
            refine Lib.hid ?_
            obtain ⟨z, hz⟩ : ∃ z, fd C x = z := ⟨_, rfl⟩
            rw [hz] at HFX HWK ⊢
            have HB9 : Hid (Below w8.heap.size w8 w9) := hb9
            have hs9 := hb9.size
            have HX9 : Hid (w9.heap[W1.heap.size]? = some (.cells #[.int .i64 (dA x : Nat), .bool (dB x)] 67 (0, 0))) := (hb9.block _ (by omega)).trans HX8.out
            have c0 : w9.cell? ⟨W1.heap.size, 0, none⟩ = some (.int .i64 (dA x : Nat)) := block_cell HX9.out rfl
            have c1 : w9.cell? ⟨W1.heap.size, 1, none⟩ = some (.bool (dB x)) := block_cell HX9.out rfl
            have f0 : w9.frozen? ⟨W1.heap.size, 0, none⟩ = false := block_frozen HX9.out
            have f1 : w9.frozen? ⟨W1.heap.size, 1, none⟩ = false := block_frozen HX9.out
            have lx9 : W1.heap.size < w9.heap.size := by omega
            obtain ⟨hn1, hn2⟩ := HFX.out
            clear hb9 p0 p1 d0 d1 hz
            go_wp2
            go_roundw
            case rel =>
              have hg9 : w8.grownBy w9 none := grown_below HB9.out none
              have hst2 := st2_grown w9 W1.heap.size 0 (.int .i64 (dA z : Nat)) (.bool (dB z))
              have o9 := own_any HO8.out hg9
              have s9 := own_any HS8.out hg9
              refine ⟨f - 1, seen.set x true, z, acc ++ [x], hn1, hn2, (hwk.out.trans HWK.out.1 : walkF (fd C) (4 * C.length + 1) (walksTo (fd C) (4 * C.length) i).2 x0 [] = _), HWK.out.2, by simpa using hsl, (by have := hac.out; have := HUS.out; rw [List.length_append]; simp only [List.length_cons, List.length_nil]; omega : (acc ++ [x]).length + unseen (seen.set x true) ≤ 4 * C.length + 1), set_block (i := 1) (u := .bool (dB z)) (set_block (i := 0) (u := .int .i64 (dA z : Nat)) HX9.out), o9.kept hst2 ?_, s9.kept hst2 (Or.inr (fun e => by have : w.heap.size + 1 = W1.heap.size := Option.some.inj e; omega)), grown_new (grown_new HG18.out hg9 (fun q hq => by cases hq)) hst2 (fun q hq => by have := Option.some.inj hq; omega), by simp; omega, (HB8.out.trans (HB9.out.mono HB8.out.size)).grown hst2 (by have := HB8.out.size; omega) (fun q hq => by have := Option.some.inj hq; omega)⟩
              cases hv : v8.ownBlock with
              | none => exact Or.inl rfl
              | some q => exact Or.inr (fun e => by have := (o9.lt q hv).1; have := Option.some.inj e; omega)
            case measure =>
              obtain ⟨a8, c8, e8⟩ := own_capS HO8.out
              rw [e8]
              simp only [lenOf, List.length_append, List.length_cons, List.length_nil]
              omega
    · obtain rfl : i = 4 * C.length := by omega
      obtain rfl : j0 = 4 * C.length + 2 := hji.out
      go_wp2
      go_ret
      exact ⟨_, rfl, ⟨zs, by rw [HWM.out]; exact HK.out.len, own_low HK.out.rows (by omega), fun j hj => by rw [HWM.out] at hj ⊢; exact own_low (HK.out.each j (by rw [HK.out.len]; exact hj)) (by omega)⟩, HK.out.bel⟩
end Go.Proofs.Ytlcogbcpmneknaa

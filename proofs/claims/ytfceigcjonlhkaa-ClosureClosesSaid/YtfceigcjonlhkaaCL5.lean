/- Braids closed: the walk of closure.Close. -/
import Derived.Test.YtfceigcjonlhkaaCL4
namespace Go.Proofs.Ytfceigcjonlhkaa
open Go.RowKit

/-- The link of a braid: its crossings, and its loops. -/
def clsC (l : List Int) (n : Nat) : List Cr := clC l (cF l (rgs (fun p => pl l p l.length) n).2).1 l.length
def clsO (l : List Int) (n : Nat) : Nat := (cF l (rgs (fun p => pl l p l.length) n).2).2.2
theorem clsC_len (l : List Int) (n : Nat) : (clsC l n).length = l.length := clC_len _ _ _
theorem letters_ok {n : Nat} {l : List Int} (h : wordN (n : Int) l = 0) : ∀ j, j < l.length → 1 ≤ (l.getD j 0).natAbs ∧ (l.getD j 0).natAbs < n := fun j hj => by
  obtain ⟨-, -, h3, -⟩ := wordN_ok h
  have := h3 j hj
  omega
set_option maxHeartbeats 8000000 in
set_option maxRecDepth 100000 in
theorem close_no (a : Option Addr) (c : Nat) (l : List Int) (n : Int) (w : World) (hl : l.length * 8 ≤ 140737488355328) (hn : wordN n l ≠ 0) (h : RdAt w w.heap.size 1 (.slice a l.length c) l.length (intsV l)) :
    Calls Try.prog 34 #[.int .i64 n, .slice a l.length c] w fun e w' => e = .returned (.tuple #[.agg #[.slice none 0 0, .int .i64 0], .int .i64 (wordN n l)]) ∧ Below w.heap.size w w' := by
  obtain ⟨Y, hY⟩ : ∃ Y, Y = w.alloc (.cells #[.slice none 0 0, .int .i64 0] 24) := ⟨_, rfl⟩
  have HY : Hid (Y = w.alloc (.cells #[.slice none 0 0, .int .i64 0] 24)) := hY
  have HBY : Hid (Below w.heap.size w Y) := (by rw [hY]; exact (Below.refl _ _).alloc (Nat.le_refl _) _ : Below w.heap.size w Y)
  have HT : Hid (Y.heap[w.heap.size]? = some (.cells #[.slice none 0 0, .int .i64 0] 24 (0, 0))) := (by rw [hY]; exact alloc_at rfl : Y.heap[w.heap.size]? = some (.cells #[.slice none 0 0, .int .i64 0] 24 (0, 0)))
  have hsY : w.heap.size < Y.heap.size := by rw [hY]; simp
  have HF : Hid (Calls Try.prog 76 #[.int .i64 n, .slice a l.length c] Y fun e w' => e = .returned (.tuple #[.slice none 0 0, .int .i64 (wordN n l)]) ∧ Below Y.heap.size Y w') := ends_no a c l n Y hl hn ((h.on HBY.out).mono HBY.out.size)
  generalize wordN n l = r at hn HF ⊢
  have hr0 : (r != 0) = true := bne_iff_ne.2 hn
  generalize l.length = m at HF ⊢
  clear h hY hl
  go_enter Try.func34, Try.ntmps34
  go_wp2_with (go_at_call 76; rw [← HY.out]; refine HF.out.mono ?_; rintro e9 w2 ⟨rfl, hb2⟩; refine Hid.out ?_)
  refine Lib.hid ?_
  have HB2 : Hid (Below w.heap.size w w2) := HBY.out.trans (hb2.mono HBY.out.size)
  have HT2 : Hid (w2.heap[w.heap.size]? = some (.cells #[.slice none 0 0, .int .i64 0] 24 (0, 0))) := (hb2.block _ hsY).trans HT.out
  clear hb2
  have c0 : w2.cell? ⟨w.heap.size, 0, none⟩ = some (.slice none 0 0) := block_cell HT2.out rfl
  have c1 : w2.cell? ⟨w.heap.size, 1, none⟩ = some (.int .i64 0) := block_cell HT2.out rfl
  have f0 : w2.frozen? ⟨w.heap.size, 0, none⟩ = false := block_frozen HT2.out
  have f1 : w2.frozen? ⟨w.heap.size, 1, none⟩ = false := block_frozen HT2.out
  have l2 := (Array.getElem?_eq_some_iff.1 HT2.out).1
  go_wp2
  obtain ⟨Z, hZ⟩ : ∃ Z, Z = (w2.setCell ⟨w.heap.size, 0, none⟩ (.slice none 0 0)).setCell ⟨w.heap.size, 1, none⟩ (.int .i64 0) := ⟨_, rfl⟩
  have hzb : Z.heap[w.heap.size]? = some (.cells #[.slice none 0 0, .int .i64 0] 24 (0, 0)) := by rw [hZ, set_block (set_block HT2.out)]; rfl
  have hgZ : w2.grownBy Z (some w.heap.size) := by rw [hZ]; exact grown_trans (set_grown _ _ _ _) (set_grown _ _ _ _)
  rw [← hZ]
  have x0 : Z.cell? ⟨w.heap.size, 0, none⟩ = some (.slice none 0 0) := block_cell hzb rfl
  have x1 : Z.cell? ⟨w.heap.size, 1, none⟩ = some (.int .i64 0) := block_cell hzb rfl
  exact bodyPost_ret (v := .tuple #[.agg #[.slice none 0 0, .int .i64 0], .int .i64 r]) (by simp [results, Try.results34, go_sem, x0, x1]) rfl ⟨rfl, HB2.out.grown hgZ HB2.out.size (fun q hq => by have := Option.some.inj hq; omega)⟩

set_option maxHeartbeats 8000000 in
set_option maxRecDepth 100000 in
theorem close_size (a : Option Addr) (c n : Nat) (l : List Int) (w : World) (hn : wordN (n : Int) l = 0) (h16 : 16 < l.length) (h : RdAt w w.heap.size 1 (.slice a l.length c) l.length (intsV l)) :
    Calls Try.prog 34 #[.int .i64 (n : Nat), .slice a l.length c] w fun e w' => e = .returned (.tuple #[.agg #[.slice none 0 0, .int .i64 0], .int .i64 2]) ∧ Below w.heap.size w w' := by
  have hl20 := (wordN_ok hn).2.2.2
  obtain ⟨Y, hY⟩ : ∃ Y, Y = w.alloc (.cells #[.slice none 0 0, .int .i64 0] 24) := ⟨_, rfl⟩
  have HY : Hid (Y = w.alloc (.cells #[.slice none 0 0, .int .i64 0] 24)) := hY
  have HBY : Hid (Below w.heap.size w Y) := (by rw [hY]; exact (Below.refl _ _).alloc (Nat.le_refl _) _ : Below w.heap.size w Y)
  have HT : Hid (Y.heap[w.heap.size]? = some (.cells #[.slice none 0 0, .int .i64 0] 24 (0, 0))) := (by rw [hY]; exact alloc_at rfl : Y.heap[w.heap.size]? = some (.cells #[.slice none 0 0, .int .i64 0] 24 (0, 0)))
  have hsY : w.heap.size < Y.heap.size := by rw [hY]; simp
  have HF : Hid (Calls Try.prog 76 #[.int .i64 (n : Nat), .slice a l.length c] Y fun e w' => ∃ a2 c2, e = .returned (.tuple #[.slice a2 n c2, .int .i64 0]) ∧ RdAt w' w'.heap.size 1 (.slice a2 n c2) n (intsV (endT (begT n l l.length) n)) ∧ Below Y.heap.size Y w') := ends_yes a c n l Y (by omega) hn ((h.on HBY.out).mono HBY.out.size)
  generalize endT (begT n l l.length) n = T at HF
  generalize l.length = m at HF h16 hl20 ⊢
  clear h hY hn
  go_enter Try.func34, Try.ntmps34
  go_wp2_with (go_at_call 76; rw [← HY.out]; refine HF.out.mono ?_; rintro e9 w3 ⟨a3, c3, rfl, hr3, hb3⟩; refine Hid.out ?_)
  refine Lib.hid ?_
  have HB3 : Hid (Below w.heap.size w w3) := HBY.out.trans (hb3.mono HBY.out.size)
  have HT3 : Hid (w3.heap[w.heap.size]? = some (.cells #[.slice none 0 0, .int .i64 0] 24 (0, 0))) := (hb3.block _ hsY).trans HT.out
  have HR3 := hid_mkC hr3
  clear hb3 hr3
  have HB2 := HB3
  have HT2 := HT3
  have c0 : w3.cell? ⟨w.heap.size, 0, none⟩ = some (.slice none 0 0) := block_cell HT2.out rfl
  have c1 : w3.cell? ⟨w.heap.size, 1, none⟩ = some (.int .i64 0) := block_cell HT2.out rfl
  have f0 : w3.frozen? ⟨w.heap.size, 0, none⟩ = false := block_frozen HT2.out
  have f1 : w3.frozen? ⟨w.heap.size, 1, none⟩ = false := block_frozen HT2.out
  have l2 := (Array.getElem?_eq_some_iff.1 HT2.out).1
  have h16I : (16 : Int) < (m : Int) := by omega
  go_wp2
  obtain ⟨Z, hZ⟩ : ∃ Z, Z = (w3.setCell ⟨w.heap.size, 0, none⟩ (.slice none 0 0)).setCell ⟨w.heap.size, 1, none⟩ (.int .i64 0) := ⟨_, rfl⟩
  have hzb : Z.heap[w.heap.size]? = some (.cells #[.slice none 0 0, .int .i64 0] 24 (0, 0)) := by rw [hZ, set_block (set_block HT2.out)]; rfl
  have hgZ : w3.grownBy Z (some w.heap.size) := by rw [hZ]; exact grown_trans (set_grown _ _ _ _) (set_grown _ _ _ _)
  rw [← hZ]
  have x0 : Z.cell? ⟨w.heap.size, 0, none⟩ = some (.slice none 0 0) := block_cell hzb rfl
  have x1 : Z.cell? ⟨w.heap.size, 1, none⟩ = some (.int .i64 0) := block_cell hzb rfl
  exact bodyPost_ret (v := .tuple #[.agg #[.slice none 0 0, .int .i64 0], .int .i64 2]) (by simp [results, Try.results34, go_sem, x0, x1]) rfl ⟨rfl, HB2.out.grown hgZ HB2.out.size (fun q hq => by have := Option.some.inj hq; omega)⟩

set_option maxHeartbeats 8000000 in
set_option maxRecDepth 100000 in
theorem close_yes (a : Option Addr) (c n : Nat) (l : List Int) (w : World) (hn : wordN (n : Int) l = 0) (h16 : l.length ≤ 16) (h : RdAt w w.heap.size 1 (.slice a l.length c) l.length (intsV l)) :
    Calls Try.prog 34 #[.int .i64 (n : Nat), .slice a l.length c] w fun e w' => ∃ a2 c2, e = .returned (.tuple #[.agg #[.slice a2 l.length c2, .int .i64 (clsO l n : Nat)], .int .i64 0]) ∧ Crs w' w'.heap.size (.slice a2 l.length c2) (clsC l n) ∧ Below w.heap.size w w' := by
  have hl20 := (wordN_ok hn).2.2.2
  have hn6 := (wordN_ok hn).2.1
  have hlet := letters_ok hn
  have hok := begT_ok n l (fun j hj => (hlet j hj).2) l.length (Nat.le_refl _)
  obtain ⟨Y, hY⟩ : ∃ Y, Y = w.alloc (.cells #[.slice none 0 0, .int .i64 0] 24) := ⟨_, rfl⟩
  have HY : Hid (Y = w.alloc (.cells #[.slice none 0 0, .int .i64 0] 24)) := hY
  have HBY : Hid (Below w.heap.size w Y) := (by rw [hY]; exact (Below.refl _ _).alloc (Nat.le_refl _) _ : Below w.heap.size w Y)
  have HT : Hid (Y.heap[w.heap.size]? = some (.cells #[.slice none 0 0, .int .i64 0] 24 (0, 0))) := (by rw [hY]; exact alloc_at rfl : Y.heap[w.heap.size]? = some (.cells #[.slice none 0 0, .int .i64 0] 24 (0, 0)))
  have hsY : w.heap.size < Y.heap.size := by rw [hY]; simp
  have HF : Hid (Calls Try.prog 76 #[.int .i64 (n : Nat), .slice a l.length c] Y fun e w' => ∃ a2 c2, e = .returned (.tuple #[.slice a2 n c2, .int .i64 0]) ∧ RdAt w' w'.heap.size 1 (.slice a2 n c2) n (intsV (endT (begT n l l.length) n)) ∧ Below Y.heap.size Y w') := ends_yes a c n l Y (by omega) hn ((h.on HBY.out).mono HBY.out.size)
  have HCD : Hid (∀ W a3 c3, Below w.heap.size w W → RdAt W W.heap.size 1 (.slice a3 n c3) n (intsV (endT (begT n l l.length) n)) → Calls Try.prog 77 #[.slice a l.length c, .slice a3 n c3] W fun e w' => ∃ a2 c2, e = .returned (.agg #[.slice a2 l.length c2, .int .i64 (clsO l n : Nat)]) ∧ w'.ownsRow W.heap.size 101 5 (.slice a2 l.length c2) l.length (crossCells (clsC l n)) ∧ Below W.heap.size W w') := fun W a3 c3 hW hr => closed_any a a3 c c3 n l _ W hlet (by omega) h16 (by rw [endT_len]; exact hok.ln) (fun p h1 h2 => ends_pl n l hlet p h1 h2) ((h.on hW).mono hW.size) hr
  have HCN : Hid ((clsC l n).length = l.length) := clsC_len l n
  generalize clsC l n = C at HCD HCN ⊢
  generalize clsO l n = O at HCD ⊢
  generalize endT (begT n l l.length) n = T at HF HCD
  generalize l.length = m at HF HCD h16 hl20 HCN ⊢
  have h16I : ¬ (16 : Int) < (m : Int) := by omega
  clear h hY hn hlet hok
  go_enter Try.func34, Try.ntmps34
  go_wp2_with (go_at_call 76; rw [← HY.out]; refine HF.out.mono ?_; rintro e9 w3 ⟨a3, c3, rfl, hr3, hb3⟩; refine Hid.out ?_)
  refine Lib.hid ?_
  have HB3 : Hid (Below w.heap.size w w3) := HBY.out.trans (hb3.mono HBY.out.size)
  have HT3 : Hid (w3.heap[w.heap.size]? = some (.cells #[.slice none 0 0, .int .i64 0] 24 (0, 0))) := (hb3.block _ hsY).trans HT.out
  have HR3 := hid_mkC hr3
  clear hb3 hr3
  go_wp2_with (go_at_call 77; refine (HCD.out _ a3 c3 HB3.out HR3.out).mono ?_; rintro e9 w4 ⟨a4, c4, rfl, hr4, hb4⟩; refine Hid.out ?_)
  refine Lib.hid ?_
  have HB2 : Hid (Below w.heap.size w w4) := HB3.out.trans (hb4.mono HB3.out.size)
  have HT2 : Hid (w4.heap[w.heap.size]? = some (.cells #[.slice none 0 0, .int .i64 0] 24 (0, 0))) := (hb4.block _ (Array.getElem?_eq_some_iff.1 HT3.out).1).trans HT3.out
  have HR4 : Hid (w4.ownsRow (w.heap.size + 1) 101 5 (.slice a4 m c4) m (crossCells C)) := own_low hr4 (Array.getElem?_eq_some_iff.1 HT3.out).1
  clear hb4 hr4
  have c0 : w4.cell? ⟨w.heap.size, 0, none⟩ = some (.slice none 0 0) := block_cell HT2.out rfl
  have c1 : w4.cell? ⟨w.heap.size, 1, none⟩ = some (.int .i64 0) := block_cell HT2.out rfl
  have f0 : w4.frozen? ⟨w.heap.size, 0, none⟩ = false := block_frozen HT2.out
  have f1 : w4.frozen? ⟨w.heap.size, 1, none⟩ = false := block_frozen HT2.out
  have l2 := (Array.getElem?_eq_some_iff.1 HT2.out).1
  go_wp2
  obtain ⟨Z, hZ⟩ : ∃ Z, Z = (w4.setCell ⟨w.heap.size, 0, none⟩ (.slice a4 m c4)).setCell ⟨w.heap.size, 1, none⟩ (.int .i64 (O : Nat)) := ⟨_, rfl⟩
  have hzb : Z.heap[w.heap.size]? = some (.cells #[.slice a4 m c4, .int .i64 (O : Nat)] 24 (0, 0)) := by rw [hZ, set_block (set_block HT2.out)]; rfl
  have hgZ : w4.grownBy Z (some w.heap.size) := by rw [hZ]; exact grown_trans (set_grown _ _ _ _) (set_grown _ _ _ _)
  rw [← hZ]
  have x0 : Z.cell? ⟨w.heap.size, 0, none⟩ = some (.slice a4 m c4) := block_cell hzb rfl
  have x1 : Z.cell? ⟨w.heap.size, 1, none⟩ = some (.int .i64 (O : Nat)) := block_cell hzb rfl
  exact bodyPost_ret (v := .tuple #[.agg #[.slice a4 m c4, .int .i64 (O : Nat)], .int .i64 0]) (by simp [results, Try.results34, go_sem, x0, x1]) rfl ⟨a4, c4, rfl, by
    have h4 := HR4.out.kept hgZ (by
      cases hv : (Value.slice a4 m c4).ownBlock with
      | none => exact Or.inl rfl
      | some q => exact Or.inr (fun e => by have := (HR4.out.lt q hv).1; have := Option.some.inj e; omega))
    have h5 : Z.ownsRow (w.heap.size + 1) 101 5 (.slice a4 m c4) C.length (crossCells C) := by rw [HCN.out]; exact h4
    exact crs_own h5 (by rw [HCN.out]; unfold maxLen; omega), HB2.out.grown hgZ HB2.out.size (fun q hq => by have := Option.some.inj hq; omega)⟩
end Go.Proofs.Ytfceigcjonlhkaa

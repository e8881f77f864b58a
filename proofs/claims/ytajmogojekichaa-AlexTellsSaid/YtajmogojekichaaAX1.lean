/- The walk of alex.minor. -/
import Derived.Test.YtajmogojekichaaAX0
import Derived.Test.YtajmogojekichaaMoP
import Derived.Test.YtajmogojekichaaAD12
namespace Go.Proofs.Ytajmogojekichaa
open Go.RowKit

/-- A table of polynomials to be read. -/
structure TblRd (w : World) (B n m gt : Nat) (gs : Nat → Nat) (vals : Nat → Nat → Value) (G : Nat → Nat → Int × Int) : Prop where
  lt : gt < B
  cell : ∀ i, i < n → w.cell? ⟨gt, i, none⟩ = some (.slice (some ⟨gs i, 0, none⟩) m m)
  low : ∀ i, i < n → gs i < B
  row : ∀ i, i < n → ∀ j, j < m → w.cell? ⟨gs i, j, none⟩ = some (vals i j)
  each : ∀ i, i < n → ∀ j, j < m → Poly.Poly w B (vals i j) (aPol (G i j).1 (G i j).2)
theorem TblAt.rd {B n m gt : Nat} {gs : Nat → Nat} {vals : Nat → Nat → Value} {G : Nat → Nat → Int × Int} {w : World} (h : TblAt B n m gt n gs vals G w) : TblRd w w.heap.size n m gt gs vals G := by
  refine ⟨(h.outer.lt gt rfl).2, fun i hi => ?_, fun i hi => ((h.each i hi).row.lt (gs i) rfl).2, fun i hi j hj => ?_, fun i hi j hj => Poly.Poly.ofRow ((h.each i hi).each j hj)⟩
  · have := h.outer.cellAt i (by omega)
    rw [valsL_get _ _ _ hi, if_pos hi] at this
    exact this
  · have := (h.each i hi).row.cellAt j (by omega)
    rw [valsL_get _ _ _ hj] at this
    exact this
theorem TblRd.on {w w' : World} {B n m gt : Nat} {gs : Nat → Nat} {vals : Nat → Nat → Value} {G : Nat → Nat → Int × Int} (h : TblRd w B n m gt gs vals G) (hb : Below B w w') : TblRd w' B n m gt gs vals G :=
  ⟨h.lt, fun i hi => bcell hb h.lt (h.cell i hi), h.low, fun i hi j hj => bcell hb (h.low i hi) (h.row i hi j hj), fun i hi j hj => (h.each i hi j hj).on hb⟩
theorem TblRd.mono {w : World} {B B' n m gt : Nat} {gs : Nat → Nat} {vals : Nat → Nat → Value} {G : Nat → Nat → Int × Int} (h : TblRd w B n m gt gs vals G) (hB : B ≤ B') : TblRd w B' n m gt gs vals G :=
  ⟨Nat.lt_of_lt_of_le h.lt hB, h.cell, fun i hi => Nat.lt_of_lt_of_le (h.low i hi) hB, h.row, fun i hi j hj => (h.each i hi j hj).mono hB⟩
/-- The rows cut. -/
def cutV (gs : Nat → Nat) (k s m : Nat) (i : Nat) : Value := if i < k then .slice (some ⟨gs i, 0, none⟩) s m else .slice none 0 0
theorem cut_table {w : World} {n m gt g B : Nat} {gs : Nat → Nat} {vals : Nat → Nat → Value} {C : List Cr} {s : Nat} (h : TblRd w w.heap.size n m gt gs vals (alF C)) (hs : s ≤ n) (hsm : s ≤ m)
    (ho : w.ownsRow B 130 1 (.slice (some ⟨g, 0, none⟩) s s) s (valsL s (cutV gs s s m))) : Poly.Table w w.heap.size (.slice (some ⟨g, 0, none⟩) s s) (alT C s) := by
  refine ⟨valsL s (cutV gs s s m), by rw [valsL_len, alT_len], ⟨some ⟨g, 0, none⟩, s, by rw [valsL_len], fun _ => ⟨g, 0, rfl, (ho.lt g rfl).2, fun i hi => ?_⟩⟩, fun i hi => ?_⟩
  · rw [valsL_len] at hi
    have := ho.cellAt i (by omega)
    rw [valsL_get _ _ _ hi] at this
    rw [Nat.zero_add, this, List.getD_eq_getElem?_getD, valsL_get _ _ _ hi]
    rfl
  · rw [alT_len] at hi
    have e : (valsL s (cutV gs s s m)).getD i (.bool false) = .slice (some ⟨gs i, 0, none⟩) s m := by
      rw [List.getD_eq_getElem?_getD, valsL_get _ _ _ hi]
      show cutV gs s s m i = _
      unfold cutV
      rw [if_pos hi]
    rw [e, alT_at C s i hi]
    refine ⟨valsL s (vals i), by rw [valsL_len, alR_len], ⟨some ⟨gs i, 0, none⟩, m, by rw [valsL_len], fun _ => ⟨gs i, 0, rfl, h.low i (by omega), fun j hj => ?_⟩⟩, fun j hj => ?_⟩
    · rw [valsL_len] at hj
      rw [Nat.zero_add, h.row i (by omega) j (by omega), List.getD_eq_getElem?_getD, valsL_get _ _ _ hj]
      rfl
    · rw [alR_len] at hj
      rw [alR_at C s i j hj, List.getD_eq_getElem?_getD, valsL_get _ _ _ hj]
      exact h.each i (by omega) j (by omega)

set_option maxHeartbeats 8000000 in
set_option maxRecDepth 100000 in
theorem minor_any (C : List Cr) (gt n m : Nat) (gs : Nat → Nat) (vals : Nat → Nat → Value) (w : World) (h0 : 0 < n) (h10 : n ≤ 10) (hm0 : 0 < m) (hm21 : m ≤ 21) (hT : TblRd w w.heap.size n m gt gs vals (alF C)) :
    Calls Try.prog 90 #[.slice (some ⟨gt, 0, none⟩) n n] w fun e w' => ∃ v l, e = .returned v ∧ Poly.Poly w' w'.heap.size v l ∧ (n < m - 1 → l = []) ∧ (m - 1 ≤ n → Poly.Canon l (Poly.detOf (alT C (m - 1)))) ∧ Below w.heap.size w w' := by
  obtain ⟨i1, hj, hy0, hy1, hy2⟩ := info_parts infoTermss
  obtain ⟨s, rfl⟩ : ∃ s, m = s + 1 := ⟨m - 1, by omega⟩
  have HT : Hid (TblRd w w.heap.size n (s + 1) gt gs vals (alF C)) := hT
  have c0 := hT.cell 0 h0
  have hgt := hT.lt
  clear hT
  rw [Nat.add_sub_cancel]
  by_cases hsn : n < s
  · go_enter Try.func90, Try.ntmps90
    go_wp2
    go_ret
    exact ⟨_, [], rfl, Or.inl ⟨rfl, rfl⟩, fun _ => rfl, fun h => absurd hsn (by omega), Below.refl _ _⟩
  · go_enter Try.func90, Try.ntmps90
    go_wp2_with (first | (at_make; refine wpList_make_full _ rfl _ _ 120 rfl w.heap.size 130 i1 (.slice none 0 0) 1 Try.underlying120 hj hy0 hy1 .i64 .i64 _ _ s (by go_num) (by go_num) rfl rfl (by rw [hy2]; omega) (by unfold maxLen; omega) (by omega) ?_; intro w2 hrow hg2; refine Hid.out ?_))
    refine Lib.hid ?_
    rw [made_nilsV] at hrow
    obtain ⟨g, hg⟩ : ∃ g, w.heap.size = g := ⟨_, rfl⟩
    have HG : Hid (w.heap.size = g) := hg
    have HR0 : Hid (w2.ownsRow w.heap.size 130 1 (.slice (some ⟨g, 0, none⟩) s s) s (valsL s (cutV gs 0 s (s + 1)))) := (by
      rw [← hg]
      exact hrow : w2.ownsRow w.heap.size 130 1 (.slice (some ⟨g, 0, none⟩) s s) s (valsL s (cutV gs 0 s (s + 1))))
    have HB2 : Hid (Below w.heap.size w w2) := (Below.refl _ _).grown hg2 (Nat.le_refl _) (fun q hq => by cases hq)
    rw [hg]
    clear hrow hg2 hg c0
    go_wp2
    go_loopw [19] (fun v19 wr => ∃ k : Nat, k ≤ s ∧ v19 = .int .i64 (k : Nat) ∧ Hid (wr.ownsRow w.heap.size 130 1 (.slice (some ⟨g, 0, none⟩) s s) s (valsL s (cutV gs k s (s + 1))) ∧ Below w.heap.size w wr)) (fun v19 _ => s - (intOf v19).toNat)
    case atStart => exact ⟨0, Nat.zero_le _, rfl, HR0.out, HB2.out⟩
    case round =>
      clear HR0 HB2
      rename World => W3
      obtain ⟨k, hks, rfl, hp⟩ := hrel
      by_cases hkl : k < s
      · have c1 : W3.cell? ⟨gt, k, none⟩ = some (.slice (some ⟨gs k, 0, none⟩) (s + 1) (s + 1)) := bcell hp.out.2 hgt (HT.out.cell k (by omega))
        have hgb := (hp.out.1.lt g rfl).2
        have c2 : W3.cell? ⟨g, k, none⟩ = some (.slice none 0 0) := by
          have := hp.out.1.cellAt k (by omega)
          rw [valsL_get _ _ _ hkl] at this
          simpa [cutV] using this
        have HST : Hid (W3.ownsRow w.heap.size 130 1 (.slice (some ⟨g, 0, none⟩) s s) s (valsL s (cutV gs k s (s + 1)))) := hp.out.1
        have HBB : Hid (Below w.heap.size w W3) := hp.out.2
        have z3 : W3.frozen? ⟨g, k, none⟩ = false := hp.out.1.frozenAt k
        have hst := hp.out.1.stored k (.slice (some ⟨gs k, 0, none⟩) s (s + 1))
        have HN : Hid ((W3.setCell ⟨g, k, none⟩ (.slice (some ⟨gs k, 0, none⟩) s (s + 1))).ownsRow w.heap.size 130 1 (.slice (some ⟨g, 0, none⟩) s s) s (valsL s (cutV gs (k + 1) s (s + 1))) ∧ Below w.heap.size w (W3.setCell ⟨g, k, none⟩ (.slice (some ⟨gs k, 0, none⟩) s (s + 1)))) := (by
          refine ⟨?_, hp.out.2.grown hst.2 hp.out.2.size (fun q hq => by have := Option.some.inj hq; have := (hp.out.1.lt g rfl).1; omega)⟩
          rw [← valsL_set s (cutV gs k s (s + 1)) _ k (.slice (some ⟨gs k, 0, none⟩) s (s + 1)) fun j _ => by
            unfold cutV
            by_cases e : j = k
            · rw [if_pos e, if_pos (by omega), e]
            · rw [if_neg e]
              by_cases h2 : j < k
              · rw [if_pos h2, if_pos (by omega)]
              · rw [if_neg h2, if_neg (by omega)]]
          exact hst.1 : (W3.setCell ⟨g, k, none⟩ (.slice (some ⟨gs k, 0, none⟩) s (s + 1))).ownsRow w.heap.size 130 1 (.slice (some ⟨g, 0, none⟩) s s) s (valsL s (cutV gs (k + 1) s (s + 1))) ∧ Below w.heap.size w (W3.setCell ⟨g, k, none⟩ (.slice (some ⟨gs k, 0, none⟩) s (s + 1))))
        clear hp hst
        go_wp2
        go_roundw
        case rel => exact ⟨k + 1, by omega, by go_num, HN.out⟩
        case measure => simp only [intOf]; omega
      · obtain rfl : k = s := by omega
        have HTA : Hid (TblRd W3 W3.heap.size n (k + 1) gt gs vals (alF C)) := (HT.out.on hp.out.2).mono hp.out.2.size
        have HTT : Hid (Poly.Table W3 W3.heap.size (.slice (some ⟨g, 0, none⟩) k k) (alT C k)) := cut_table HTA.out (by omega) (by omega) hp.out.1
        have HBB : Hid (Below w.heap.size w W3) := hp.out.2
        clear hp
        go_wp2_with (go_at_call 140; refine (Poly.determinant_any _ (alT C k) k _ (by omega) (al_good C k) HTT.out).mono ?_; rintro r w4 ⟨bm, D, rfl, hbm, hom, hcm, hkm, hb4⟩; refine Hid.out ?_)
        refine Lib.hid ?_
        have HCM : Hid (∀ y, Poly.coefOf D y = Poly.detOf (alT C k) y) := hcm
        have HLN : Hid (∀ left acc, Poly.Coll D left acc → acc.length ≤ 1000000) := fun left acc hC => Nat.le_trans (Poly.coll_len hC (1000 * k) (by rw [Int.natCast_mul]; exact hkm)) (by omega)
        have HB4 : Hid (Below w.heap.size w w4) := HBB.out.trans (hb4.mono HBB.out.size)
        clear hcm hkm hb4 hbm
        go_wp2_with (go_at_call 141; refine (Poly.terms34k bm _ D _ hom HLN.out).mono ?_; rintro r w5 ⟨vr, lr, rfl, hrow5, hcan5, hb5⟩)
        go_ret
        exact ⟨vr, lr, rfl, Poly.Poly.ofRow hrow5, fun h => absurd h (by omega), fun _ => Poly.canon_congr hcan5 HCM.out, HB4.out.trans (hb5.mono HB4.out.size)⟩
end Go.Proofs.Ytajmogojekichaa

/- Visits of any numbers, to be read; the counts of visits; the walk of gauss.counted. -/
import Derived.Test.YtbikalghmlihlaaW5P
import Derived.Deep.Cut
import Derived.Test.YtbikalghmlihlaaF3P
namespace Go.Proofs.Ytbikalghmlihlaa
open Go.RowKit

abbrev Vi := List (Int × Bool)
/-- A row of visits, to be read; it lies below B. -/
def VisAt (w : World) (B : Nat) (v : Value) (V : Vi) : Prop := ∃ a cap, v = .slice a V.length cap ∧ (0 < V.length → ∃ b off, a = some ⟨b, off, none⟩ ∧ b < B ∧ ∀ k, k < V.length → w.cell? ⟨b, off + k * 2, none⟩ = some (.int .i64 (V.getD k (0, false)).1) ∧ w.cell? ⟨b, off + k * 2 + 1, none⟩ = some (.bool (V.getD k (0, false)).2))
theorem VisAt.on {w w' : World} {B : Nat} {v : Value} {V : Vi} (h : VisAt w B v V) (hb : Below B w w') : VisAt w' B v V := by
  obtain ⟨a, cap, rfl, f⟩ := h
  refine ⟨a, cap, rfl, fun h0 => ?_⟩
  obtain ⟨b, off, rfl, hlt, hc⟩ := f h0
  exact ⟨b, off, rfl, hlt, fun k hk => ⟨bcell hb hlt (hc k hk).1, bcell hb hlt (hc k hk).2⟩⟩
/-- Rows of visits. -/
def VRows (w : World) (B : Nat) (v : Value) (L : List Vi) : Prop := ∃ a cap, v = .slice a L.length cap ∧ (0 < L.length → ∃ b off, a = some ⟨b, off, none⟩ ∧ b < B ∧ ∀ j, j < L.length → ∃ u, w.cell? ⟨b, off + j, none⟩ = some u ∧ VisAt w B u (L.getD j []))
theorem VRows.on {w w' : World} {B : Nat} {v : Value} {L : List Vi} (h : VRows w B v L) (hb : Below B w w') : VRows w' B v L := by
  obtain ⟨a, cap, rfl, f⟩ := h
  refine ⟨a, cap, rfl, fun h0 => ?_⟩
  obtain ⟨b, off, rfl, hlt, hc⟩ := f h0
  refine ⟨b, off, rfl, hlt, fun j hj => ?_⟩
  obtain ⟨u, h1, h2⟩ := hc j hj
  exact ⟨u, bcell hb hlt h1, h2.on hb⟩
/-- Lengths that a slice can have. -/
def LensOk (L : List Vi) : Prop := L.length ≤ 140737488355328 ∧ ∀ j, j < L.length → (L.getD j []).length ≤ 140737488355328

def inc (x : Int) : Int := wrap64 (x + 1)
/-- How often a crossing was visited, above or below. -/
def cntV (V : Vi) (c : Nat) (o : Bool) : Int := V.foldl (fun x v => if v.1 = (c : Int) ∧ v.2 = o then inc x else x) 0
theorem cntV_snoc (V : Vi) (v : Int × Bool) (c : Nat) (o : Bool) : cntV (V ++ [v]) c o = if v.1 = (c : Int) ∧ v.2 = o then inc (cntV V c o) else cntV V c o := by
  simp [cntV]
def cntJ (V : Vi) (j : Nat) : Int := cntV V (j / 2) (decide (j % 2 = 1))
def okV (n : Nat) (v : Int × Bool) : Bool := decide (0 ≤ v.1) && decide (v.1 < (n : Int))
def mapR (m : Nat) (f : Nat → Int) : List Int := (List.range m).map f
theorem mapR_len (m : Nat) (f : Nat → Int) : (mapR m f).length = m := by simp [mapR]
theorem mapR_get (m : Nat) (f : Nat → Int) (i : Nat) (h : i < m) : (mapR m f)[i]? = some (f i) := by simp [mapR, h]
theorem mapR_set (m : Nat) (f g : Nat → Int) (i : Nat) (x : Int) (h : ∀ j, j < m → g j = if j = i then x else f j) : (mapR m f).set i x = mapR m g := by
  apply List.ext_getElem?
  intro j
  by_cases hj : j < m
  · rw [mapR_get m g j hj, h j hj, List.getElem?_set]
    by_cases e : i = j
    · subst e; simp [mapR_len, hj]
    · rw [if_neg e, if_neg (fun h => e h.symm), mapR_get m f j hj]
  · rw [List.getElem?_eq_none (by simp [mapR_len]; omega), List.getElem?_eq_none (by simp [mapR_len]; omega)]
theorem mapR_zero (m : Nat) (f : Nat → Int) (h : ∀ j, f j = 0) : mapR m f = List.replicate m 0 := by
  apply List.ext_getElem?
  intro j
  by_cases hj : j < m
  · rw [mapR_get m f j hj, h j]; simp [hj]
  · rw [List.getElem?_eq_none (by simp [mapR_len]; omega), List.getElem?_eq_none (by simp; omega)]
/-- A visit is counted. -/
theorem cntJ_set (n : Nat) (V : Vi) (c : Nat) (o : Bool) : (mapR (2 * n) (cntJ V)).set (2 * c + if o then 1 else 0) (inc (cntV V c o)) = mapR (2 * n) (cntJ (V ++ [((c : Int), o)])) := by
  refine mapR_set _ _ _ _ _ fun j _ => ?_
  unfold cntJ
  rw [cntV_snoc]
  by_cases e : j = 2 * c + if o then 1 else 0
  · rw [if_pos e]
    have h1 : j / 2 = c := by rw [e]; split <;> omega
    have h2 : decide (j % 2 = 1) = o := by rw [e]; cases o <;> simp <;> omega
    rw [h1, h2]
    simp
  · rw [if_neg e, if_neg]
    rintro ⟨h1, h2⟩
    apply e
    simp only at h1 h2
    rw [h2]
    by_cases hj : j % 2 = 1
    · simp only [hj, decide_true, if_true]; omega
    · simp only [hj, decide_false, Bool.false_eq_true, if_false]; omega
/-- The visits of the rows up to j, and of that row the first k. -/
def upTo (L : List Vi) (j k : Nat) : Vi := (L.take j).flatten ++ (L.getD j []).take k
theorem upTo_zero (L : List Vi) : upTo L 0 0 = [] := by simp [upTo]
theorem upTo_row (L : List Vi) (j : Nat) (h : j < L.length) : upTo L j (L.getD j []).length = upTo L (j + 1) 0 := by
  unfold upTo
  rw [List.take_length, List.take_succ_eq_append_getElem h, List.flatten_append, List.getD_eq_getElem?_getD]
  simp [h]
theorem upTo_next (L : List Vi) (j k : Nat) (h : k < (L.getD j []).length) : upTo L j (k + 1) = upTo L j k ++ [(L.getD j []).getD k (0, false)] := by
  unfold upTo
  rw [List.take_succ_eq_append_getElem h, ← List.append_assoc]
  congr 2
  rw [List.getD_eq_getElem?_getD (l := L.getD j []), List.getElem?_eq_getElem h]
  rfl
theorem upTo_all (L : List Vi) : upTo L L.length 0 = L.flatten := by simp [upTo]
theorem mem_at (L : List Vi) (j k : Nat) (hj : j < L.length) (h : k < (L.getD j []).length) : (L.getD j []).getD k (0, false) ∈ L.flatten := by
  refine List.mem_flatten.2 ⟨L.getD j [], ?_, ?_⟩
  · rw [List.getD_eq_getElem?_getD, List.getElem?_eq_getElem hj]; exact List.getElem_mem hj
  · rw [List.getD_eq_getElem?_getD (l := L.getD j []), List.getElem?_eq_getElem h]; exact List.getElem_mem h
def okL (n : Nat) (L : List Vi) : Bool := L.flatten.all (okV n)
theorem infoTally : (Try.prog.info? 187).map (fun i => (i.zero, i.size, i.bytes)) = some (some (.agg #[.int .i64 0, .int .i64 0]), 2, 16) := by kernel_rfl
theorem made_tally (n : Nat) : (madeCells (Value.agg #[.int .i64 0, .int .i64 0]).cells (n * 2)).toList = intsV (mapR (2 * n) (cntJ [])) := by
  rw [mapR_zero _ (cntJ []) (fun j => rfl)]
  have e : (Value.agg #[.int .i64 0, .int .i64 0]).cells = #[.int .i64 0, .int .i64 0] := rfl
  rw [e]
  apply List.ext_getElem?
  intro j
  have e2 : intsV (List.replicate (2 * n) 0) = List.replicate (2 * n) (.int .i64 0) := by simp [intsV]
  rw [e2, List.getElem?_replicate]
  by_cases hj : j < n * 2
  · simp only [madeCells]
    rw [if_pos (by omega)]
    rcases Nat.mod_two_eq_zero_or_one j with h | h
    · simp [hj, h]
    · simp [hj, h]
  · rw [if_neg (by omega), List.getElem?_eq_none (by simp [madeCells]; omega)]

set_option maxHeartbeats 8000000 in
set_option maxRecDepth 100000 in
theorem counted_any (a : Option Addr) (cap : Nat) (L : List Vi) (n : Nat) (w : World) (hn : n ≤ 16) (hlens : LensOk L) (hL : VRows w w.heap.size (.slice a L.length cap) L) :
    Calls Try.prog 129 #[.slice a L.length cap, .int .i64 (n : Nat)] w fun e w' => (okL n L = false ∧ e = .returned (.tuple #[.slice none 0 0, .bool false]) ∧ Below w.heap.size w w') ∨
      (okL n L = true ∧ ∃ g, e = .returned (.tuple #[.slice (some ⟨g, 0, none⟩) n n, .bool true]) ∧ w'.ownsRow w.heap.size 187 2 (.slice (some ⟨g, 0, none⟩) n n) n (intsV (mapR (2 * n) (cntJ L.flatten))) ∧ Below w.heap.size w w') := by
  obtain ⟨i2, hk, hx0, hx1, hx2⟩ := info_parts infoTally
  have HL : Hid (VRows w w.heap.size (.slice a L.length cap) L) := hL
  have hl1 := hlens.1
  have HLN : Hid (∀ j, j < L.length → (L.getD j []).length ≤ 140737488355328) := hlens.2
  clear hL hlens
  go_enter Try.func129, Try.ntmps129
  go_wp2_with (first | (at_make; refine wpList_make_full _ rfl _ _ 183 rfl w.heap.size 187 i2 (.agg #[.int .i64 0, .int .i64 0]) 2 Try.underlying183 hk hx0 hx1 .i64 .i64 _ _ n rfl rfl rfl rfl (by rw [hx2]; omega) (by unfold maxLen; omega) (by simp) ?_; intro w1 hrow hg1; refine Hid.out ?_))
  refine Lib.hid ?_
  rw [made_tally] at hrow
  have HR1 : Hid (w1.ownsRow w.heap.size 187 2 (.slice (some ⟨w.heap.size, 0, none⟩) n n) n (intsV (mapR (2 * n) (cntJ (upTo L 0 0))))) := (by rw [upTo_zero]; exact hrow : w1.ownsRow w.heap.size 187 2 (.slice (some ⟨w.heap.size, 0, none⟩) n n) n (intsV (mapR (2 * n) (cntJ (upTo L 0 0)))))
  have HB1 : Hid (Below w.heap.size w w1) := (Below.refl _ _).grown hg1 (Nat.le_refl _) (fun k hk => by cases hk)
  clear hrow hg1
  go_wp2
  go_loopw [4, 14] (fun v4 v14 wr => ∃ j : Nat, v4 = .slice (some ⟨w.heap.size, 0, none⟩) n n ∧ j ≤ L.length ∧ v14 = .int .i64 (j : Nat) ∧ Hid ((upTo L j 0).all (okV n) = true) ∧ Hid (wr.ownsRow w.heap.size 187 2 (.slice (some ⟨w.heap.size, 0, none⟩) n n) n (intsV (mapR (2 * n) (cntJ (upTo L j 0))))) ∧ Hid (Below w.heap.size w wr)) (fun _ v14 _ => L.length - (intOf v14).toNat)
  case atStart => exact ⟨0, rfl, Nat.zero_le _, rfl, (by rw [upTo_zero]; rfl : (upTo L 0 0).all (okV n) = true), HR1.out, HB1.out⟩
  case round =>
    clear HR1 HB1
    rename World => W1
    obtain ⟨j, rfl, hjn, rfl, hok, hrow, hb⟩ := hrel
    have hsW := hb.out.size
    by_cases hjl : j < L.length
    · obtain ⟨a', cap', ea, f⟩ := HL.out
      injection ea with ea1 ea2 ea3
      obtain ⟨b, off, eb, hbw, hc⟩ := f (by omega)
      obtain rfl : a = some ⟨b, off, none⟩ := ea1.trans eb
      obtain ⟨u, hu, ar, cr, rfl, fr⟩ := hc j hjl
      have hVl := HLN.out j hjl
      have HRW : Hid (upTo L j (L.getD j []).length = upTo L (j + 1) 0) := upTo_row L j hjl
      have HNX : Hid (∀ k, k < (L.getD j []).length → upTo L j (k + 1) = upTo L j k ++ [(L.getD j []).getD k (0, false)]) := fun k hk => upTo_next L j k hk
      have HME : Hid (∀ k, k < (L.getD j []).length → (L.getD j []).getD k (0, false) ∈ L.flatten) := fun k hk => mem_at L j k hjl hk
      have HRR : Hid (W1.ownsRow w.heap.size 187 2 (.slice (some ⟨w.heap.size, 0, none⟩) n n) n (intsV (mapR (2 * n) (cntJ (upTo L j 0))))) := hrow
      have HOK : Hid ((upTo L j 0).all (okV n) = true) := hok
      have c0 : W1.cell? ⟨b, off + j, none⟩ = some (.slice ar (L.getD j []).length cr) := bcell hb.out hbw hu
      have hbW : b < W1.heap.size := by omega
      obtain ⟨V, hV⟩ : ∃ V, L.getD j [] = V := ⟨_, rfl⟩
      rw [hV] at fr hVl HRW HNX HME c0
      have HFR : Hid (0 < V.length → ∃ b off, ar = some ⟨b, off, none⟩ ∧ b < w.heap.size ∧ ∀ k, k < V.length → w.cell? ⟨b, off + k * 2, none⟩ = some (.int .i64 (V.getD k (0, false)).1) ∧ w.cell? ⟨b, off + k * 2 + 1, none⟩ = some (.bool (V.getD k (0, false)).2)) := fr
      have hji : (j : Int) < (L.length : Int) := by omega
      clear f hc hu ea1 ea2 ea3 eb hV fr hrow hok
      go_wp2
      go_loopw [4, 20] (fun v4 v20 ws => ∃ k : Nat, v4 = .slice (some ⟨w.heap.size, 0, none⟩) n n ∧ k ≤ V.length ∧ v20 = .int .i64 (k : Nat) ∧ Hid ((upTo L j k).all (okV n) = true) ∧ Hid (ws.ownsRow w.heap.size 187 2 (.slice (some ⟨w.heap.size, 0, none⟩) n n) n (intsV (mapR (2 * n) (cntJ (upTo L j k))))) ∧ Hid (Below w.heap.size w ws)) (fun _ v20 _ => V.length - (intOf v20).toNat)
      case atStart => exact ⟨0, rfl, Nat.zero_le _, rfl, HOK.out, HRR.out, hb.out⟩
      case round =>
        clear HRR HOK hb c0
        rename World => W2
        obtain ⟨k, rfl, hkn, rfl, hok, hrow, hb⟩ := hrel
        have hsX := hb.out.size
        by_cases hkl : k < V.length
        · obtain ⟨br, offr, rfl, hbr, hcr⟩ := HFR.out (by omega)
          obtain ⟨d0, d1⟩ := hcr k hkl
          have HUN := HNX.out k hkl
          have HMX := HME.out k hkl
          obtain ⟨x, hx⟩ : ∃ x, V.getD k (0, false) = x := ⟨_, rfl⟩
          rw [hx] at d0 d1 HUN HMX
          obtain ⟨xc, xo⟩ := x
          have c0 : W2.cell? ⟨br, offr + k * 2, none⟩ = some (.int .i64 xc) := bcell hb.out hbr d0
          have c1 : W2.cell? ⟨br, offr + k * 2 + 1, none⟩ = some (.bool xo) := bcell hb.out hbr d1
          have hbX : br < W2.heap.size := by omega
          have HUNX : Hid (upTo L j (k + 1) = upTo L j k ++ [(xc, xo)]) := HUN
          have HMXX : Hid ((xc, xo) ∈ L.flatten) := HMX
          have hki : (k : Int) < (V.length : Int) := by omega
          clear hcr d0 d1 HUN HMX hx
          by_cases hneg : xc < 0
          · have hd : decide (xc < 0) = true := by simp [hneg]
            have HBAD : Hid (okL n L = false) := (by
              unfold okL
              rw [List.all_eq_false]
              exact ⟨_, HMXX.out, by simp [okV]; omega⟩ : okL n L = false)
            go_wp2
            go_ret2
            exact Or.inl ⟨HBAD.out, rfl, hb.out.alloc hsX _⟩
          · have hnn : decide (xc < 0) = false := by simp; omega
            obtain ⟨c, rfl⟩ : ∃ c : Nat, xc = (c : Int) := ⟨xc.toNat, by omega⟩
            clear hneg
            by_cases hcn : c < n
            · have hd1 : decide ((n : Int) ≤ (c : Int)) = false := by simp; omega
              have hd2 : decide (n ≤ c) = false := by simp; omega
              have hci : (c : Int) < (n : Int) := by omega
              obtain ⟨W3, hW3⟩ : ∃ W3, W3 = W2.alloc (.cells #[.int .i64 (c : Nat), .bool xo] 182) := ⟨_, rfl⟩
              have hrA := hrow.out.alloc (.cells #[.int .i64 (c : Nat), .bool xo] 182)
              rw [← hW3] at hrA
              have HB3 : Hid (Below w.heap.size w W3) := (by rw [hW3]; exact hb.out.alloc hsX _ : Below w.heap.size w W3)
              have hgl := (hrow.out.lt w.heap.size rfl).2
              have HOKX : Hid ((upTo L j (k + 1)).all (okV n) = true) := (by rw [HUNX.out, List.all_append, hok.out]; simp [okV]; omega : (upTo L j (k + 1)).all (okV n) = true)
              have e0 := hrA.cellAt (c * 2) (by omega)
              have e1 := hrA.cellAt (c * 2 + 1) (by omega)
              rw [intsV, List.getElem?_map, mapR_get _ _ _ (by omega)] at e0 e1
              have e2 : cntJ (upTo L j k) (c * 2) = cntV (upTo L j k) c false := by
                unfold cntJ
                rw [show c * 2 / 2 = c by omega, show c * 2 % 2 = 0 by omega]; rfl
              have e3 : cntJ (upTo L j k) (c * 2 + 1) = cntV (upTo L j k) c true := by
                unfold cntJ
                rw [show (c * 2 + 1) / 2 = c by omega, show (c * 2 + 1) % 2 = 1 by omega]; rfl
              rw [e2] at e0
              rw [e3] at e1
              simp only [Option.map_some] at e0 e1
              have z0 := hrA.frozenAt (c * 2)
              have z1 := hrA.frozenAt (c * 2 + 1)
              have HRA : Hid (W3.ownsRow w.heap.size 187 2 (.slice (some ⟨w.heap.size, 0, none⟩) n n) n (intsV (mapR (2 * n) (cntJ (upTo L j k))))) := hrA
              clear hrA e2 e3
              cases xo with
              | true =>
                have HN : Hid (W3.heap[W2.heap.size]? = some (.cells #[.int .i64 (c : Nat), .bool true] 182 (0, 0))) := (by rw [hW3]; exact alloc_at rfl : W3.heap[W2.heap.size]? = some (.cells #[.int .i64 (c : Nat), .bool true] 182 (0, 0)))
                have n0 : W3.cell? ⟨W2.heap.size, 0, none⟩ = some (.int .i64 (c : Nat)) := block_cell HN.out rfl
                have n1 : W3.cell? ⟨W2.heap.size, 1, none⟩ = some (.bool true) := block_cell HN.out rfl
                have l3 : W2.heap.size < W3.heap.size := by rw [hW3]; simp
                have l4 : w.heap.size < W3.heap.size := by omega
                have HW3 : Hid (W3 = W2.alloc (.cells #[.int .i64 (c : Nat), .bool true] 182)) := hW3
                clear hW3
                go_upto_if 8 with (fail)
                rw [← HW3.out]
                go_wp2
                go_region_with (fail)
                go_wp2
                go_roundw
                case rel =>
                  have hst := HRA.out.stored (c * 2 + 1) (.int .i64 (inc (cntV (upTo L j k) c true)))
                  have es := cntJ_set n (upTo L j k) c true
                  rw [if_pos rfl, show 2 * c + 1 = c * 2 + 1 by omega, ← HUNX.out] at es
                  rw [intsV_set, es] at hst
                  unfold inc at hst
                  refine ⟨k + 1, rfl, by omega, by go_num, HOKX.out, hst.1, (HB3.out.grown hst.2 HB3.out.size (fun q hq => by have := Option.some.inj hq; omega)).drew⟩
                case measure => simp only [intOf]; omega
              | false =>
                have HN : Hid (W3.heap[W2.heap.size]? = some (.cells #[.int .i64 (c : Nat), .bool false] 182 (0, 0))) := (by rw [hW3]; exact alloc_at rfl : W3.heap[W2.heap.size]? = some (.cells #[.int .i64 (c : Nat), .bool false] 182 (0, 0)))
                have n0 : W3.cell? ⟨W2.heap.size, 0, none⟩ = some (.int .i64 (c : Nat)) := block_cell HN.out rfl
                have n1 : W3.cell? ⟨W2.heap.size, 1, none⟩ = some (.bool false) := block_cell HN.out rfl
                have l3 : W2.heap.size < W3.heap.size := by rw [hW3]; simp
                have l4 : w.heap.size < W3.heap.size := by omega
                have HW3 : Hid (W3 = W2.alloc (.cells #[.int .i64 (c : Nat), .bool false] 182)) := hW3
                clear hW3
                go_upto_if 8 with (fail)
                rw [← HW3.out]
                go_wp2
                go_region_with (fail)
                go_wp2
                go_roundw
                case rel =>
                  have hst := HRA.out.stored (c * 2) (.int .i64 (inc (cntV (upTo L j k) c false)))
                  have es := cntJ_set n (upTo L j k) c false
                  rw [if_neg (by simp), show 2 * c + 0 = c * 2 by omega, ← HUNX.out] at es
                  rw [intsV_set, es] at hst
                  unfold inc at hst
                  refine ⟨k + 1, rfl, by omega, by go_num, HOKX.out, hst.1, (HB3.out.grown hst.2 HB3.out.size (fun q hq => by have := Option.some.inj hq; omega)).drew⟩
                case measure => simp only [intOf]; omega
            · have hd1 : decide ((n : Int) ≤ (c : Int)) = true := by simp; omega
              have hd2 : decide (n ≤ c) = true := by simp; omega
              have HBAD : Hid (okL n L = false) := (by
                unfold okL
                rw [List.all_eq_false]
                exact ⟨_, HMXX.out, by simp [okV]; omega⟩ : okL n L = false)
              go_wp2
              go_ret2
              exact Or.inl ⟨HBAD.out, rfl, hb.out.alloc hsX _⟩
        · obtain rfl : k = V.length := by omega
          go_wp2
          go_roundw
          case rel =>
            rw [HRW.out] at hok hrow
            exact ⟨j + 1, rfl, by omega, by go_num, hok, hrow, hb⟩
          case measure => simp only [intOf]; omega
    · obtain rfl : j = L.length := by omega
      go_wp2
      go_ret2
      rw [upTo_all] at hok hrow
      exact Or.inr ⟨hok.out, _, rfl, hrow.out, hb.out⟩
end Go.Proofs.Ytbikalghmlihlaa

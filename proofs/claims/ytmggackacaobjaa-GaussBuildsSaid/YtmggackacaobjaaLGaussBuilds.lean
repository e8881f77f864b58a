/- The law GaussBuilds: its walk. -/
import Derived.Test.YtmggackacaobjaaB5
import Derived.Test.YtmggackacaobjaaB8
import Derived.Test.YtmggackacaobjaaK3
namespace Go.Proofs.Ytmggackacaobjaa
open Go.RowKit

/-- Rows of visits as they are handed in. -/
def RowsIn (w : World) (B : Nat) (v : Value) (L : List Vi) : Prop := ∃ ys : List Value, ys.length = L.length ∧ InAt w B 1 v L.length ys ∧ ∀ j, j < L.length → InAt w B 2 (ys.getD j (.bool false)) (L.getD j []).length (viCells (L.getD j []))
theorem RowsIn.vrows {w : World} {B : Nat} {v : Value} {L : List Vi} (h : RowsIn w B v L) : VRows w B v L := by
  obtain ⟨ys, hy, h1, h2⟩ := h
  rcases h1 with ⟨rfl, h0⟩ | ⟨ad, cap, rfl, h0⟩ | ⟨b, off, cap, rfl, hlt, hc⟩
  · exact ⟨none, 0, by rw [h0], fun h => by omega⟩
  · exact ⟨some ad, cap, by rw [h0], fun h => by omega⟩
  · refine ⟨some ⟨b, off, none⟩, cap, rfl, fun _ => ⟨b, off, rfl, hlt, fun j hj => ⟨_, ?_, (h2 j hj).vis⟩⟩⟩
    rw [hc j (by omega)]
    simp [List.getD, hy, hj]
theorem RowsIn.on {w w' : World} {B : Nat} {v : Value} {L : List Vi} (h : RowsIn w B v L) (hb : Below B w w') : RowsIn w' B v L := by
  obtain ⟨ys, hy, h1, h2⟩ := h
  exact ⟨ys, hy, h1.on hb, fun j hj => (h2 j hj).on hb⟩
theorem InAt.up {w w' : World} {size n : Nat} {v : Value} {xs : List Value} (h : InAt w w.heap.size size v n xs) (hb : Below w.heap.size w w') : InAt w' w'.heap.size size v n xs := by
  rcases h.on hb with h | h | ⟨b, off, cap, e, hlt, hc⟩
  · exact Or.inl h
  · exact Or.inr (Or.inl h)
  · exact Or.inr (Or.inr ⟨b, off, cap, e, Nat.lt_of_lt_of_le hlt hb.size, hc⟩)
theorem RowsIn.up {w w' : World} {v : Value} {L : List Vi} (h : RowsIn w w.heap.size v L) (hb : Below w.heap.size w w') : RowsIn w' w'.heap.size v L := by
  obtain ⟨ys, hy, h1, h2⟩ := h
  exact ⟨ys, hy, h1.up hb, fun j hj => (h2 j hj).up hb⟩
/-- Where the copying of rows stands behind the first i. -/
structure CpAt (w : World) (L : List Vi) (i : Nat) (v : Value) (zs : List Value) (wr : World) : Prop where
  len : zs.length = i
  rows : wr.ownsRow w.heap.size 42 1 v i zs
  each : ∀ j, j < i → wr.ownsRow w.heap.size 99 2 (zs.getD j (.bool false)) (L.getD j []).length (viCells (L.getD j []))
  bel : Below w.heap.size w wr
theorem CpAt.rin {w : World} {L : List Vi} {v : Value} {zs : List Value} {wr : World} (h : CpAt w L L.length v zs wr) : RowsIn wr wr.heap.size v L :=
  ⟨zs, h.len, own_in h.rows, fun j hj => own_in (h.each j hj)⟩

set_option maxHeartbeats 8000000 in
set_option maxRecDepth 100000 in
theorem gaussBuilds_any (v vp : Value) (L : List Vi) (P : List Bool) (loops : Int) (w : World) (hL : RowsIn w w.heap.size v L) (hP : InAt w w.heap.size 1 vp P.length (bools P)) (b1 : L.length * 24 ≤ 140737488355328) (b2 : ∀ j, j < L.length → (L.getD j []).length * 16 ≤ 140737488355328) (b3 : P.length ≤ 140737488355328) :
    Calls Try.prog 4 #[v, vp, .int .i64 loops] w fun e w' => e = .returned (.bool true) ∧ Below w.heap.size w w' := by
  obtain ⟨i0, hi, hz0, hz1, hz2⟩ := info_parts infoVisit
  obtain ⟨i1, hj, hy0, hy1, hy2⟩ := info_parts infoVisits
  obtain ⟨i2, hk, hx0, hx1, hx2⟩ := info_parts infoBool
  have HL : Hid (RowsIn w w.heap.size v L) := hL
  have HP : Hid (InAt w w.heap.size 1 vp P.length (bools P)) := hP
  have HB2 : Hid (∀ j, j < L.length → (L.getD j []).length * 16 ≤ 140737488355328) := b2
  obtain ⟨a, cap, rfl⟩ : ∃ a cap, v = .slice a L.length cap := by obtain ⟨a, cap, e, -⟩ := hL.vrows; exact ⟨a, cap, e⟩
  obtain ⟨ap, cp, rfl⟩ : ∃ ap cp, vp = .slice ap P.length cp := by obtain ⟨a, cap, e, -⟩ := hP.plus; exact ⟨a, cap, e⟩
  clear hL hP b2
  go_enter Try.func4, Try.ntmps4
  go_wp2
  go_loopw [7, 8] (fun v7 v8 wr => ∃ (i : Nat) (zs : List Value), i ≤ L.length ∧ v8 = .int .i64 (i : Nat) ∧ Hid (CpAt w L i v7 zs wr)) (fun _ v8 _ => L.length - (intOf v8).toNat)
  case atStart => exact ⟨0, [], Nat.zero_le _, rfl, ⟨rfl, World.ownsRow_nil _ _ _ _, fun j hj => absurd hj (Nat.not_lt_zero _), Below.refl _ _⟩⟩
  case round =>
    rename World => W1
    obtain ⟨i, zs, hin, rfl, hcp⟩ := hrel
    obtain ⟨a7, c7, rfl⟩ := own_capS hcp.out.rows
    have hsW := hcp.out.bel.size
    by_cases hil : i < L.length
    · obtain ⟨ys, hy, h1, h2⟩ := HL.out
      obtain ⟨b, off, ea, hbw, hc0⟩ : ∃ b off, a = some ⟨b, off, none⟩ ∧ b < w.heap.size ∧ w.cell? ⟨b, off + i, none⟩ = some (ys.getD i (.bool false)) := by
        rcases h1 with ⟨e, h0⟩ | ⟨ad, cap, e, h0⟩ | ⟨b, off, cap, e, hlt, hc⟩
        · omega
        · omega
        · injection e with e1 e2 e3
          refine ⟨b, off, e1, hlt, ?_⟩
          rw [hc i (by omega)]
          simp [List.getD, hy, hil]
      obtain rfl := ea
      have hIN := (h2 i hil).on hcp.out.bel
      have hVl := HB2.out i hil
      obtain ⟨V, hV⟩ : ∃ V, L.getD i [] = V := ⟨_, rfl⟩
      have HV : Hid (L.getD i [] = V) := hV
      rw [hV] at hIN hVl
      obtain ⟨ar, cr, er⟩ : ∃ ar cr, ys.getD i (.bool false) = .slice ar V.length cr := by obtain ⟨ar, cr, e, -⟩ := hIN.vis; exact ⟨ar, cr, e⟩
      rw [er] at hIN hc0
      have HIN : Hid (InAt W1 w.heap.size 2 (.slice ar V.length cr) V.length (viCells V)) := hIN
      have c0 : W1.cell? ⟨b, off + i, none⟩ = some (.slice ar V.length cr) := bcell hcp.out.bel hbw hc0
      have hbW : b < W1.heap.size := by omega
      have hii : (i : Int) < (L.length : Int) := by omega
      clear h1 h2 hIN hc0 er hV hy
      go_wp2_with (first
        | (at_builtin; refine wpList_append_copy rfl _ _ 42 rfl w.heap.size 99 i0 (.agg #[.int .i64 0, .bool false]) 2 16 Try.underlying42 hi hz0 hz1 hz2 rfl (by decide) rfl _ w.heap.size V.length (viCells V) rfl HIN.out (viCells_len V) (viCells_one V) (by unfold maxLen; omega) hVl hsW ?_; intro v8 w8 hown8 hg8; obtain ⟨a8, c8, e8⟩ := own_capS hown8; subst e8
           have HO8 : Hid (w8.ownsRow w.heap.size 99 2 (.slice a8 V.length c8) V.length (viCells V)) := hown8
           have HG8 : Hid (W1.grownBy w8 none) := hg8
           have HR8 : Hid (w8.ownsRow w.heap.size 42 1 (.slice a7 i c7) i zs) := own_any hcp.out.rows hg8
           have hs8 := hg8.size
           have HON : Hid (∀ u ∈ [Value.slice a8 V.length c8], u.oneCell' = true) := own_oneS hown8
           clear hown8 hg8)
        | (at_builtin; refine wpList_append_own _ rfl _ _ 30 rfl w.heap.size 42 i1 (.slice none 0 0) 1 24 Try.underlying30 hj hy0 hy1 hy2 rfl (by decide) _ i zs rfl (HR8.out.alloc _) ⟨w8.heap.size, 0, none⟩ 1 1 [Value.slice a8 V.length c8] rfl rfl (new_cell1 _ _ _) HON.out (by unfold maxLen; omega) (by omega) (by simp; omega) ?_; intro v9 w9 hown9 hg9 _; have HO9 : Hid (w9.ownsRow w.heap.size 42 1 v9 (i + 1) (zs ++ [Value.slice a8 V.length c8])) := hown9; have HG9 : Hid ((w8.alloc (.cells #[Value.slice a8 V.length c8] 42)).grownBy w9 (Value.slice a7 i c7).ownBlock) := hg9; clear hown9 hg9))
      go_roundw
      case rel =>
        have hR := HR8.out.alloc (.cells #[Value.slice a8 V.length c8] 42)
        have hO := HO8.out.alloc (.cells #[Value.slice a8 V.length c8] 42)
        refine ⟨i + 1, zs ++ [Value.slice a8 V.length c8], by omega, by go_num, ⟨by simp [hcp.out.len], HO9.out, fun j hjl => ?_, ?_⟩⟩
        · by_cases hjk : j < i
          · rw [getD_left zs _ j (by rw [hcp.out.len]; exact hjk)]
            have h1 := (own_any (hcp.out.each j hjk) HG8.out).alloc (.cells #[Value.slice a8 V.length c8] 42)
            exact h1.kept HG9.out (own_ne h1 hR (by decide))
          · obtain rfl : j = i := by omega
            have e2 : (zs ++ [Value.slice a8 V.length c8]).getD j (.bool false) = Value.slice a8 V.length c8 := by
              have := getD_last zs (Value.slice a8 V.length c8)
              rw [hcp.out.len] at this
              exact this
            rw [e2, HV.out]
            exact hO.kept HG9.out (own_ne hO hR (by decide))
        · exact ((hcp.out.bel.grown HG8.out hsW (fun k hk => by cases hk)).alloc (by omega) _).grown HG9.out (by simp; omega) (fun q hq => (hR.lt q hq).1)
      case measure => simp only [intOf]; omega
    · obtain rfl : i = L.length := by omega
      have HIP : Hid (InAt W1 w.heap.size 1 (.slice ap P.length cp) P.length (bools P)) := HP.out.on hcp.out.bel
      go_wp2_with (first
        | (at_builtin; refine wpList_append_copy rfl _ _ 31 rfl w.heap.size 4 i2 (.bool false) 1 1 Try.underlying31 hk hx0 hx1 hx2 rfl (by decide) rfl _ w.heap.size P.length (bools P) rfl HIP.out (by rw [bools_len, Nat.mul_one]) (bools_one P) (by unfold maxLen; omega) (by omega) hsW ?_; intro v8 w8 hown8 hg8; obtain ⟨a8, c8, e8⟩ := own_capS hown8; subst e8; refine Hid.out ?_))
      refine Lib.hid ?_
      have HB8 : Hid (Below w.heap.size w w8) := hcp.out.bel.grown hg8 hsW (fun k hk => by cases hk)
      have hs8 := HB8.out.size
      have HVR : Hid (VRows w8 w8.heap.size (.slice a7 L.length c7) L) := (CpAt.rin (w := w) (zs := zs) ⟨hcp.out.len, own_any hcp.out.rows hg8, fun j hj => own_any (hcp.out.each j hj) hg8, HB8.out⟩).vrows
      have HPA : Hid (PlusAt w8 w8.heap.size (.slice a8 P.length c8) P) := (own_in hown8).plus
      have HLO : Hid (LensOk L) := ⟨by omega, fun j hj => by have := HB2.out j hj; omega⟩
      have HC1 := build_any a7 c7 L a8 c8 P loops w8 b3 HLO.out HVR.out HPA.out
      have HC2 : ∀ W, Below w.heap.size w W → _ := fun W hb => buildOf_any a cap L ap cp P loops W b3 HLO.out (HL.out.up hb).vrows (HP.out.up hb).plus
      generalize outC P L loops = oc at HC1 HC2
      generalize outL P L loops = ol at HC1 HC2
      generalize refN P.length L loops = rn at HC1 HC2
      have K1 : Hid (Calls Try.prog 28 #[.slice a7 L.length c7, .slice a8 P.length c8, .int .i64 loops] w8 fun e w' => ∃ v, e = .returned (.tuple #[.agg #[v, .int .i64 ol], .int .i64 rn]) ∧ Crs w' w'.heap.size v oc ∧ Below w8.heap.size w8 w') := HC1
      have K2 : Hid (∀ W, Below w.heap.size w W → Calls Try.prog 29 #[.slice a L.length cap, .slice ap P.length cp, .int .i64 loops] W fun e w' => ∃ v, e = .returned (.tuple #[.agg #[v, .int .i64 ol], .int .i64 rn]) ∧ Crs w' w'.heap.size v oc ∧ Below W.heap.size W w') := HC2
      clear HC1 HC2 hown8 hg8 hcp
      have hrr : (rn == rn) = true := beq_self_eq_true rn
      go_wp2_with (first
        | (go_at_call 28; refine K1.out.mono ?_; rintro e9 w10 ⟨v, rfl, hcr, hb⟩
           have HCR : Hid (Crs w10 w10.heap.size v oc) := hcr
           have HB10 : Hid (Below w.heap.size w w10) := HB8.out.trans (hb.mono hs8)
           have hs10 := HB10.out.size
           obtain ⟨a10, c10, rfl, -, -⟩ := hcr
           have HBX : Hid (Below w.heap.size w (w10.alloc (.cells #[.slice a10 oc.length c10, .int .i64 ol] 24))) := HB10.out.alloc hs10 _
           clear hb)
        | (go_at_call 29; refine (K2.out _ HBX.out).mono ?_; rintro e9 w11 ⟨v, rfl, hcr, hb⟩
           have HCS : Hid (Crs w11 w11.heap.size v oc) := hcr
           have HB11 : Hid (Below (w10.alloc (.cells #[.slice a10 oc.length c10, .int .i64 ol] 24)).heap.size (w10.alloc (.cells #[.slice a10 oc.length c10, .int .i64 ol] 24)) w11) := hb
           obtain ⟨a11, c11, rfl, -, -⟩ := hcr
           have hs11 : w10.heap.size + 1 ≤ w11.heap.size := by have := hb.size; simpa using this
           have hq := (hb.block w10.heap.size (by simp)).trans (alloc_at rfl)
           have x0 : w11.cell? ⟨w10.heap.size, 0, none⟩ = some (.slice a10 oc.length c10) := block_cell hq rfl
           have x1 : w11.cell? ⟨w10.heap.size, 1, none⟩ = some (.int .i64 ol) := block_cell hq rfl
           have HAB : Hid (Below w11.heap.size w11 (w11.alloc (.cells #[.slice a11 oc.length c11, .int .i64 ol] 24))) := (Below.refl _ _).alloc (Nat.le_refl _) _
           have HCB : Hid (Crs (w11.alloc (.cells #[.slice a11 oc.length c11, .int .i64 ol] 24)) (w11.alloc (.cells #[.slice a11 oc.length c11, .int .i64 ol] 24)).heap.size (.slice a11 oc.length c11) oc) := HCS.out.up HAB.out
           have HCA : Hid (Crs (w11.alloc (.cells #[.slice a11 oc.length c11, .int .i64 ol] 24)) (w11.alloc (.cells #[.slice a11 oc.length c11, .int .i64 ol] 24)).heap.size (.slice a10 oc.length c10) oc) := ((HCR.out.up ((Below.refl _ _).alloc (Nat.le_refl _) _)).up hb).up HAB.out
           have HBZ : Hid (Below w.heap.size w (w11.alloc (.cells #[.slice a11 oc.length c11, .int .i64 ol] 24))) := (HBX.out.trans (hb.mono HBX.out.size)).alloc (HBX.out.trans (hb.mono HBX.out.size)).size _
           have x2 : (w11.alloc (.cells #[.slice a11 oc.length c11, .int .i64 ol] 24)).cell? ⟨w10.heap.size, 0, none⟩ = some (.slice a10 oc.length c10) := bcell HAB.out (by omega) x0
           have x3 : (w11.alloc (.cells #[.slice a11 oc.length c11, .int .i64 ol] 24)).cell? ⟨w10.heap.size, 1, none⟩ = some (.int .i64 ol) := bcell HAB.out (by omega) x1
           clear hb hq)
        | (go_at_call 30; refine (sameDiagram_eq (.slice a10 oc.length c10) (.slice a11 oc.length c11) oc ol _ HCA.out HCB.out).mono ?_; rintro e9 w12 ⟨rfl, hb12⟩; have HB12 : Hid (Below w.heap.size w w12) := HBZ.out.trans (hb12.mono HBZ.out.size); clear hb12))
      go_ret
      exact ⟨rfl, HB12.out⟩
end Go.Proofs.Ytmggackacaobjaa

/- The walk of the closure that lays a summand's crossings (canon.tied's own). -/
import Derived.Test.YtkbapnjlnnggaaaK1P
import Derived.Deep.RegionLaw
namespace Go.Proofs.Ytkbapnjlnnggaaa
open Go.RowKit

/-- append onto a row of the call's own, as one step of a region that draws. -/
theorem step_append_own {P : Program} {ops : Array Oper} {o : Oper} {a : Act} {w : World} {K : Act → World → Prop} {Q : Exit → Act → World → Prop} {E : Prop}
    (hg : o.guard = none) (s x : Operand) (t : TypeId)
    (ho : o.op = .call { callee := .builtin .append, args := #[s, x], argTypes := #[t, t] })
    (base : Nat) (e : TypeId) (i : TypeInfo) (z : Value) (size bytes : Nat) (ht : P.underlying t = some (.slice e)) (hi : P.info? e = some i) (hz : i.zero = some z)
    (hsize : i.size = size) (hby : i.bytes = bytes) (hzs : z.cells.size = size) (hsz : 0 < size)
    (v : Value) (n : Nat) (xs : List Value) (hs : a.eval s = v) (hown : w.ownsRow base e size v n xs)
    (ad : Addr) (m c : Nat) (news : List Value) (hx : a.eval x = .slice (some ad) m c) (hl : news.length = m * size) (hnews : ∀ j u, news[j]? = some u → w.cell? (ad.add j) = some u) (h1 : ∀ u ∈ news, u.oneCell' = true)
    (h63 : n + m ≤ maxLen) (hbytes : (n + m) * bytes ≤ 140737488355328) (hbase : base ≤ w.heap.size)
    (h : ∀ v' w', w'.ownsRow base e size v' (n + m) (xs ++ news) → w.grownBy w' v.ownBlock → K (a.put o.dst v') w') :
    if Region.wanted o (yielded ops a.tmps) = true then Oper.wp P o a w K Q else E := by
  have hw : Region.wanted o (yielded ops a.tmps) = true := by simp [Region.wanted, hg]
  rw [if_pos hw]
  exact wp_append_own w s x t ho base e i z size bytes ht hi hz hsize hby hzs hsz v n xs hs hown ad m c news hx hl hnews h1 h63 hbytes hbase (fun v' w' h2 h3 _ => h v' w' h2 h3)

theorem OutAt.otherT {w w8 : World} {B g k : Nat} {v v8 : Value} {loops : Int} {C : List Cr} {o : Obj} {cs : Array Value} {t : TypeId} {fz : Nat × Nat} (h : OutAt w B g v loops C) (hk : w.heap[k]? = some (.cells cs t fz)) (ht : t ≠ 89) (hkg : k ≠ g) (hg8 : (w.alloc o).grownBy w8 v.ownBlock) : (w8.setCell ⟨g, 0, none⟩ v8).heap[k]? = some (.cells cs t fz) := by
  have hlt := (Array.getElem?_eq_some_iff.1 hk).1
  have hs := hg8.size
  simp only [World.size_alloc] at hs
  have hb8 : w8.heap[k]? = some (.cells cs t fz) := (hg8.block _ (by simp; omega) (fun e => by
    rcases h.row.2 with ⟨hv, _⟩ | ⟨q, cap, cur, hv, _, hq, _⟩
    · rw [hv] at e; cases e
    · rw [hv] at e
      have e1 : k = q := Option.some.inj e
      rw [← e1, hk] at hq
      injection hq with h1
      injection h1 with h2 h3
      exact ht h3)).trans (alloc_old hk)
  exact ((set_grown w8 g 0 v8).block k (by omega) (fun e => hkg (Option.some.inj e))).trans hb8

set_option maxHeartbeats 8000000 in
set_option maxRecDepth 100000 in
theorem tiedLay_any (a : Option Addr) (cap : Nat) (C : List Cr) (loops l0 : Int) (gF cF gT cT : Nat) (more cut other : Int) (B g : Nat) (v : Value) (acc0 : List Cr) (w : World) (hl : C.length ≤ 16) (hl0 : acc0.length ≤ 16) (hB : g < B) (hBw : B ≤ w.heap.size) (hD : Crs w g (.slice a C.length cap) C) (hA : ∀ i k, i < C.length → k < 4 → -1000 ≤ (C.getD i Cr.none).arc k ∧ (C.getD i Cr.none).arc k ≤ 1000) (h2 : -1000 ≤ more ∧ more ≤ 1000) (hO : OutAt w B g v l0 acc0) :
    Calls Try.prog 78 #[drV a cap C loops gF cF gT cT, .int .i64 more, .int .i64 cut, .int .i64 other, .pointer (some ⟨g, 0, none⟩)] w fun e w' => e = .returned (.tuple #[]) ∧ (∃ v', OutAt w' B g v' l0 (acc0 ++ C.map (tieX more cut other))) ∧ Below g w w' := by
  obtain ⟨i0, hi, hz0, hz1, hz2⟩ := info_parts infoCross
  unfold drV
  have HD : Hid (Crs w g (.slice a C.length cap) C) := hD
  have HAR : Hid (∀ i k, i < C.length → k < 4 → -1000 ≤ (C.getD i Cr.none).arc k ∧ (C.getD i Cr.none).arc k ≤ 1000) := hA
  have HO : Hid (OutAt w B g v l0 acc0) := hO
  clear hD hA hO
  obtain ⟨w0, hw0⟩ : ∃ w0, w0 = (((w.alloc (.cells #[.slice a C.length cap, .int .i64 loops, .slice (some ⟨gF, 0, none⟩) (2 * C.length + 1) cF, .slice (some ⟨gT, 0, none⟩) (2 * C.length + 1) cT] 71)).alloc (.cells #[.int .i64 more] 3)).alloc (.cells #[.int .i64 cut] 3)).alloc (.cells #[.int .i64 other] 3) := ⟨_, rfl⟩
  have HW0 : Hid (w0 = (((w.alloc (.cells #[.slice a C.length cap, .int .i64 loops, .slice (some ⟨gF, 0, none⟩) (2 * C.length + 1) cF, .slice (some ⟨gT, 0, none⟩) (2 * C.length + 1) cT] 71)).alloc (.cells #[.int .i64 more] 3)).alloc (.cells #[.int .i64 cut] 3)).alloc (.cells #[.int .i64 other] 3)) := hw0
  have hs0 : w0.heap.size = w.heap.size + 4 := by rw [hw0]; simp
  have HB0 : Hid (Below w.heap.size w w0) := (by rw [hw0]; exact (below3 _ _ _ _).alloc (by simp; omega) _ : Below w.heap.size w w0)
  have HT1 : Hid (w0.heap[w.heap.size + 1]? = some (.cells #[.int .i64 more] 3 (0, 0))) := (by rw [hw0]; exact alloc_old (alloc_old (alloc_at (by simp))) : w0.heap[w.heap.size + 1]? = some (.cells #[.int .i64 more] 3 (0, 0)))
  have HT2 : Hid (w0.heap[w.heap.size + 1 + 1]? = some (.cells #[.int .i64 cut] 3 (0, 0))) := (by rw [hw0]; exact alloc_old (alloc_at (by simp)) : w0.heap[w.heap.size + 1 + 1]? = some (.cells #[.int .i64 cut] 3 (0, 0)))
  have HT3 : Hid (w0.heap[w.heap.size + 1 + 1 + 1]? = some (.cells #[.int .i64 other] 3 (0, 0))) := (by rw [hw0]; exact alloc_at (by simp) : w0.heap[w.heap.size + 1 + 1 + 1]? = some (.cells #[.int .i64 other] 3 (0, 0)))
  have HO0 : Hid (OutAt w0 B g v l0 acc0) := HO.out.on HB0.out
  clear hw0
  go_enter Try.func78, Try.ntmps78
  go_wp2
  rw [← HW0.out]
  go_loopw [15] (fun v15 wr => ∃ (i : Nat) (v3 : Value) (acc : List Cr), i ≤ C.length ∧ v15 = .int .i64 (i : Nat) ∧ Hid (acc.length = acc0.length + i) ∧ Hid (acc = acc0 ++ (C.take i).map (tieX more cut other)) ∧ OutAt wr B g v3 l0 acc ∧ Hid (wr.heap[w.heap.size + 1]? = some (.cells #[.int .i64 more] 3 (0, 0)) ∧ wr.heap[w.heap.size + 1 + 1]? = some (.cells #[.int .i64 cut] 3 (0, 0)) ∧ wr.heap[w.heap.size + 1 + 1 + 1]? = some (.cells #[.int .i64 other] 3 (0, 0))) ∧ w0.heap.size ≤ wr.heap.size ∧ Below g w wr) (fun v15 _ => C.length - (intOf v15).toNat)
  case atStart => exact ⟨0, v, acc0, Nat.zero_le _, rfl, (rfl : acc0.length = acc0.length + 0), (by simp : acc0 = acc0 ++ (C.take 0).map _), HO0.out, ⟨HT1.out, HT2.out, HT3.out⟩, Nat.le_refl _, HB0.out.mono (by omega)⟩
  case round =>
    rename World => W1
    obtain ⟨i, v3, acc, hin, rfl, hal, hacc, hout, hbx, hszW, hb⟩ := hrel
    have hal32 : acc.length ≤ 32 := by have := hal.out; omega
    have hlt1 := (Array.getElem?_eq_some_iff.1 hout.box).1
    by_cases hil : i < C.length
    · obtain ⟨b, off, ea, hbq, hC⟩ := crs_some HD.out (by omega)
      subst ea
      obtain ⟨c0, c1, c2, c3, c4⟩ := (hC.on hb hbq) i hil
      have HNX : Hid ((C.take (i + 1)).map (tieX more cut other) = (C.take i).map (tieX more cut other) ++ [tieX more cut other (C.getD i Cr.none)]) := (by
        have e2 : C.take (i + 1) = C.take i ++ [C.getD i Cr.none] := by
          rw [List.take_add_one, List.getD_eq_getElem?_getD, List.getElem?_eq_getElem hil]
          rfl
        rw [e2]
        simp : (C.take (i + 1)).map (tieX more cut other) = (C.take i).map (tieX more cut other) ++ [tieX more cut other (C.getD i Cr.none)])
      have HRG : Hid (∀ k, k < 4 → -1000 ≤ (C.getD i Cr.none).arc k ∧ (C.getD i Cr.none).arc k ≤ 1000) := fun k hk => HAR.out i k hil hk
      clear hC
      generalize C.getD i Cr.none = x at c0 c1 c2 c3 c4 HNX HRG
      have hb1 : b < W1.heap.size := by omega
      have HOUT : Hid (OutAt W1 B g v3 l0 acc) := hout
      clear hout
      obtain ⟨a3, c3', ev3⟩ := own_capS HOUT.out.row
      subst ev3
      obtain ⟨Y, hY⟩ : ∃ Y, Y = W1.alloc (.cells #[.int .i64 x.a, .int .i64 x.b, .int .i64 x.c, .int .i64 x.d, .bool x.plus] 89) := ⟨_, rfl⟩
      have HY : Hid (Y = W1.alloc (.cells #[.int .i64 x.a, .int .i64 x.b, .int .i64 x.c, .int .i64 x.d, .bool x.plus] 89)) := hY
      have hsY : Y.heap.size = W1.heap.size + 1 := by rw [hY]; simp
      have HBY : Hid (Below W1.heap.size W1 Y) := (by rw [hY]; exact (Below.refl _ _).alloc (Nat.le_refl _) _ : Below W1.heap.size W1 Y)
      have HTY : Hid (Y.heap[W1.heap.size]? = some (.cells #[.int .i64 x.a, .int .i64 x.b, .int .i64 x.c, .int .i64 x.d, .bool x.plus] 89 (0, 0))) := (by rw [hY]; exact alloc_at rfl : Y.heap[W1.heap.size]? = some (.cells #[.int .i64 x.a, .int .i64 x.b, .int .i64 x.c, .int .i64 x.d, .bool x.plus] 89 (0, 0)))
      clear hY
      have HDW : Hid (Below Y.heap.size Y Y.drew) := (Below.refl _ _).drew
      have HBO : Hid (Boxes Y.drew x more cut other (w.heap.size + 1 + 1) W1.heap.size (w.heap.size + 1 + 1 + 1) (w.heap.size + 1)) := (by
        have k1 := (HBY.out.block _ (by omega)).trans hbx.out.1
        have k2 := (HBY.out.block _ (by omega)).trans hbx.out.2.1
        have k3 := (HBY.out.block _ (by omega)).trans hbx.out.2.2
        have e : Y.drew.heap = Y.heap := rfl
        have e0 : ∀ p, Y.drew.cell? p = Y.cell? p := fun p => rfl
        refine ⟨⟨by rw [e]; omega, by rw [e]; omega, by rw [e]; omega, by rw [e]; omega⟩, ?_, ?_, ?_, ?_, ?_, ?_, ?_, ?_⟩
        · rw [e0]; exact block_cell k2 rfl
        · rw [e0]; exact block_cell HTY.out rfl
        · rw [e0]; exact block_cell HTY.out rfl
        · rw [e0]; exact block_cell HTY.out rfl
        · rw [e0]; exact block_cell HTY.out rfl
        · rw [e0]; exact block_cell HTY.out rfl
        · rw [e0]; exact block_cell k3 rfl
        · rw [e0]; exact block_cell k1 rfl : Boxes Y.drew x more cut other (w.heap.size + 1 + 1) W1.heap.size (w.heap.size + 1 + 1 + 1) (w.heap.size + 1))
      have s0 : Y.cell? ⟨W1.heap.size, 0, none⟩ = some (.int .i64 x.a) := block_cell HTY.out rfl
      have s1 : Y.cell? ⟨W1.heap.size, 1, none⟩ = some (.int .i64 x.b) := block_cell HTY.out rfl
      have s2 : Y.cell? ⟨W1.heap.size, 2, none⟩ = some (.int .i64 x.c) := block_cell HTY.out rfl
      have s3 : Y.cell? ⟨W1.heap.size, 3, none⟩ = some (.int .i64 x.d) := block_cell HTY.out rfl
      have s4 : Y.cell? ⟨W1.heap.size, 4, none⟩ = some (.bool x.plus) := block_cell HTY.out rfl
      have HOY : Hid (OutAt Y B g (.slice a3 acc.length c3') l0 acc) := HOUT.out.on HBY.out
      have t0 : Y.cell? ⟨g, 0, none⟩ = some (.slice a3 acc.length c3') := block_cell HOY.out.box rfl
      have t1 : g < Y.heap.size := by omega
      have hlY : W1.heap.size < Y.heap.size := by omega
      go_wp2
      rw [← HY.out]
      clear c0 c1 c2 c3 c4
      obtain ⟨y, hy⟩ : ∃ y, tieX more cut other x = y := ⟨_, rfl⟩
      have HYY : Hid (tieX more cut other x = y) := hy
      have HYP : Hid (y.plus = x.plus) := (by rw [← hy]; rfl : y.plus = x.plus)
      clear hy
      go_region_law (first
        | (refine step_append_own rfl (.tmp 20) (.tmp 24) 22 rfl B 89 i0 (.agg #[.int .i64 0, .int .i64 0, .int .i64 0, .int .i64 0, .bool false]) 5 40 Try.underlying22 hi hz0 hz1 hz2 rfl (by decide) _ acc.length _ (by simp [Act.eval]) (HOA.out.row.alloc _) ⟨wA.heap.size, 0, none⟩ 1 1 [.int .i64 y.a, .int .i64 y.b, .int .i64 y.c, .int .i64 y.d, .bool x.plus] (by simp [Act.eval]) rfl (new_cell5 _ _ _ _ _ _ _) (cells_one [⟨y.a, y.b, y.c, y.d, x.plus⟩]) (by unfold maxLen; omega) (by omega) (by simp; omega) ?_; intro v8 w8 hown8 hg8
           have HOW8 : Hid (w8.ownsRow B 89 5 v8 (acc.length + 1) (crossCells acc ++ crossCells [⟨y.a, y.b, y.c, y.d, x.plus⟩])) := hown8
           have HG8 : Hid ((wA.alloc (.cells #[.int .i64 y.a, .int .i64 y.b, .int .i64 y.c, .int .i64 y.d, .bool x.plus] 89)).grownBy w8 (Value.slice a3 acc.length c3').ownBlock) := hg8
           obtain ⟨a8, c8, ev8⟩ := own_capS HOW8.out
           subst ev8
           have hb8 := HOA.out.box8 (by omega) HG8.out
           have r0 : w8.cell? ⟨g, 0, none⟩ = some (.slice a3 acc.length c3') := block_cell hb8 rfl
           have r1 : w8.frozen? ⟨g, 0, none⟩ = false := block_frozen hb8
           have r2 : g < w8.heap.size := (Array.getElem?_eq_some_iff.1 hb8).1
           clear hown8 hg8 hb8)
        | (go_simp; go_at_call 79; refine (renumbered_any x more cut other _ _ _ _ _ HRG.out h2 HBO.out).mono ?_; rw [HYY.out]; rintro e9 wA ⟨rfl, hbA⟩
           have HA : Hid (Below Y.heap.size Y wA) := HDW.out.trans hbA
           have HOA : Hid (OutAt wA B g (.slice a3 acc.length c3') l0 acc) := HOY.out.on HA.out
           have a0 : wA.cell? ⟨g, 0, none⟩ = some (.slice a3 acc.length c3') := block_cell HOA.out.box rfl
           have a1 : g < wA.heap.size := (Array.getElem?_eq_some_iff.1 HOA.out.box).1
           have hsA : Y.heap.size ≤ wA.heap.size := HA.out.size
           clear hbA))
      all_goals
        have HYE : Hid ((⟨y.a, y.b, y.c, y.d, x.plus⟩ : Cr) = y) := (by rw [← HYP.out] : (⟨y.a, y.b, y.c, y.d, x.plus⟩ : Cr) = y)
        have HWA : Hid (Below W1.heap.size W1 wA) := HBY.out.trans (HA.out.mono (by omega))
        have hs8 := HG8.out.size
        simp only [World.size_alloc] at hs8
        clear s0 s1 s2 s3 s4 t0 a0 r0 r1
        go_wp2
        go_roundw
      all_goals first
        | (simp only [intOf]; omega)
        | exact ⟨i + 1, .slice a8 (acc.length + 1) c8, acc ++ [(⟨y.a, y.b, y.c, y.d, x.plus⟩ : Cr)], by omega, by go_num, (by have := hal.out; simp; omega : (acc ++ [(⟨y.a, y.b, y.c, y.d, x.plus⟩ : Cr)]).length = acc0.length + (i + 1)), (by rw [HYE.out, HNX.out, HYY.out, hacc.out, List.append_assoc] : acc ++ [(⟨y.a, y.b, y.c, y.d, x.plus⟩ : Cr)] = acc0 ++ (C.take (i + 1)).map (tieX more cut other)), HOA.out.app (by omega) rfl HOW8.out HG8.out, ⟨HOA.out.otherT ((HWA.out.block _ (by omega)).trans hbx.out.1) (by decide) (by omega) HG8.out, HOA.out.otherT ((HWA.out.block _ (by omega)).trans hbx.out.2.1) (by decide) (by omega) HG8.out, HOA.out.otherT ((HWA.out.block _ (by omega)).trans hbx.out.2.2) (by decide) (by omega) HG8.out⟩, (by simp; omega), HOA.out.below (hb.trans (HWA.out.mono (by omega))) (by omega) (by omega) (Nat.le_refl _) HG8.out⟩
    · obtain rfl : i = C.length := by omega
      have e : acc = acc0 ++ C.map (tieX more cut other) := by rw [hacc.out, List.take_length]
      have HOUT : Hid (OutAt W1 B g v3 l0 (acc0 ++ C.map (tieX more cut other))) := (by rw [← e]; exact hout : OutAt W1 B g v3 l0 (acc0 ++ C.map (tieX more cut other)))
      clear hout e hacc hal
      go_wp2
      exact bodyPost_end (v := .tuple #[]) (by simp [results, Try.results78, go_sem]) rfl ⟨rfl, ⟨v3, HOUT.out⟩, hb⟩
end Go.Proofs.Ytkbapnjlnnggaaa

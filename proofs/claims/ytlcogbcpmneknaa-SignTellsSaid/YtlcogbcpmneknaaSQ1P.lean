/- Several texts of the proof, one behind the other. -/
import Derived.Test.YtlcogbcpmneknaaSG7P
import Derived.Test.YtlcogbcpmneknaaSG9
/- Square tables of numbers that are read; the walk of sign.withoutFirst. -/
namespace Go.Proofs.Ytlcogbcpmneknaa
open Go.RowKit Go.Maps

/-- A square table that is read. -/
def SqR (W : World) (B : Nat) (v : Value) (n : Nat) (A : Nat → Nat → Int) : Prop :=
  ∃ a c, v = .slice a n c ∧ (0 < n → ∃ b off, a = some ⟨b, off, none⟩ ∧ b < B ∧ ∀ i, i < n → ∃ g o q, W.cell? ⟨b, off + i, none⟩ = some (.slice (some ⟨g, o, none⟩) n q) ∧ g < B ∧ ∀ j, j < n → W.cell? ⟨g, o + j, none⟩ = some (.int .i64 (A i j)))
theorem SqR.on {W W' : World} {B n : Nat} {v : Value} {A : Nat → Nat → Int} (h : SqR W B v n A) (hb : Below B W W') : SqR W' B v n A := by
  obtain ⟨a, c, rfl, f⟩ := h
  refine ⟨a, c, rfl, fun h0 => ?_⟩
  obtain ⟨b, off, rfl, hlt, hr⟩ := f h0
  refine ⟨b, off, rfl, hlt, fun i hi => ?_⟩
  obtain ⟨g, o, q, h1, h2, h3⟩ := hr i hi
  exact ⟨g, o, q, bcell hb hlt h1, h2, fun j hj => bcell hb h2 (h3 j hj)⟩
theorem SqR.mono {W : World} {B B' n : Nat} {v : Value} {A : Nat → Nat → Int} (h : SqR W B v n A) (hB : B ≤ B') : SqR W B' v n A := by
  obtain ⟨a, c, rfl, f⟩ := h
  refine ⟨a, c, rfl, fun h0 => ?_⟩
  obtain ⟨b, off, rfl, hlt, hr⟩ := f h0
  refine ⟨b, off, rfl, Nat.lt_of_lt_of_le hlt hB, fun i hi => ?_⟩
  obtain ⟨g, o, q, h1, h2, h3⟩ := hr i hi
  exact ⟨g, o, q, h1, Nat.lt_of_lt_of_le h2 hB, h3⟩
theorem SqR.up {W W' : World} {n : Nat} {v : Value} {A : Nat → Nat → Int} (h : SqR W W.heap.size v n A) (hb : Below W.heap.size W W') : SqR W' W'.heap.size v n A := (h.on hb).mono hb.size
theorem sq_tab {W : World} {B gt n : Nat} {gs : Nat → Nat} {T : Nat → Nat → Int} (h : TabAt B gt n gs n T W) : SqR W W.heap.size (.slice (some ⟨gt, 0, none⟩) n n) n T :=
  ⟨_, _, rfl, fun _ => ⟨gt, 0, rfl, (h.outer.lt gt rfl).2, fun i hi => ⟨gs i, 0, n, by rw [Nat.zero_add]; exact h.cellO i hi hi, ((h.rows i hi).lt (gs i) rfl).2, fun j hj => by rw [Nat.zero_add]; exact h.cellR i j hi hj⟩⟩⟩
/-- The rows without their first places. -/
def wfL (gs : Nat → Nat) (n k : Nat) : List Value := (List.range k).map fun i => .slice (some ⟨gs (i + 1), 1, none⟩) n n
theorem wfL_next (gs : Nat → Nat) (n k : Nat) : wfL gs n k ++ [.slice (some ⟨gs (k + 1), 1, none⟩) n n] = wfL gs n (k + 1) := by simp [wfL, List.range_succ]
theorem wfL_get (gs : Nat → Nat) (n k i : Nat) (h : i < k) : (wfL gs n k)[i]? = some (.slice (some ⟨gs (i + 1), 1, none⟩) n n) := by simp [wfL, h]
theorem own_someQ {w : World} {B e s n : Nat} {v : Value} {xs : List Value} (h : w.ownsRow B e s v n xs) (hn : 1 ≤ n) : ∃ g c, v = .slice (some ⟨g, 0, none⟩) n c ∧ B ≤ g ∧ g < w.heap.size := by
  have h0 := h
  rcases h.2 with ⟨rfl, h1⟩ | ⟨g, cap, cur, rfl, h2, _⟩
  · omega
  · exact ⟨g, cap, rfl, (h0.lt g rfl).1, (h0.lt g rfl).2⟩
theorem one_slice (v : Value) (a : Option Addr) (n c : Nat) (h : v = .slice a n c) : ∀ u ∈ [v], u.oneCell' = true := by
  intro u hu
  rw [List.mem_singleton] at hu
  subst hu h
  rfl

set_option maxHeartbeats 8000000 in
set_option maxRecDepth 100000 in
theorem withoutFirst_none (gt : Nat) (A : Nat → Nat → Int) (w : World) :
    Calls Try.prog 15 #[.slice (some ⟨gt, 0, none⟩) 1 1] w fun e w' => ∃ v, e = .returned v ∧ SqR w' w'.heap.size v 0 A ∧ Below w.heap.size w w' := by
  go_enter Try.func15, Try.ntmps15
  go_wp2
  go_loopw [9, 3, 5] (fun v9 v3 _ wr => v9 = .int .i64 0 ∧ v3 = .slice none 0 0 ∧ Below w.heap.size w wr) (fun _ _ _ _ => 0)
  case atStart => exact ⟨rfl, rfl, Below.refl _ _⟩
  case round =>
    obtain ⟨rfl, rfl, hb⟩ := hrel
    go_wp2
    go_ret
    exact ⟨_, rfl, ⟨_, _, rfl, fun h => absurd h (Nat.lt_irrefl _)⟩, hb⟩

set_option maxHeartbeats 8000000 in
set_option maxRecDepth 100000 in
theorem withoutFirst_some (B gt n : Nat) (gs : Nat → Nat) (T : Nat → Nat → Int) (w : World) (h0 : 0 < n) (hn : n ≤ 100) (h : TabAt B gt (n + 1) gs (n + 1) T w) :
    Calls Try.prog 15 #[.slice (some ⟨gt, 0, none⟩) (n + 1) (n + 1)] w fun e w' => ∃ v, e = .returned v ∧ SqR w' w'.heap.size v n (fun i j => T (i + 1) (j + 1)) ∧ Below w.heap.size w w' := by
  obtain ⟨i1, hj, hy0, hy1, hy2⟩ := info_parts infoInts
  have hgt := (h.outer.lt gt rfl).2
  have HCO := hidS (fun (W : World) (hW : Below w.heap.size w W) (i : Nat) (hi : i < n) => bcell hW hgt (h.cellO (i + 1) (by omega) (by omega)))
  have HCR := hidS (fun (W : World) (hW : Below w.heap.size w W) (i j : Nat) (hi : i < n) (hj : j < n) => bcell hW ((h.rows (i + 1) (by omega)).lt (gs (i + 1)) rfl).2 (h.cellR (i + 1) (j + 1) (by omega) (by omega)))
  have HLT := hidS (fun (i : Nat) (hi : i < n) => ((h.rows (i + 1) (by omega)).lt (gs (i + 1)) rfl).2)
  have HB := hidS (Below.refl w.heap.size w)
  have HO0 := hidS (World.ownsRow_nil w w.heap.size 41 1)
  obtain ⟨m, hm⟩ : ∃ m, n + 1 = m := ⟨_, rfl⟩
  have hm1 : n + 1 ≤ m ∧ m ≤ n + 1 := by omega
  have es : m - 1 = n := by omega
  have hne : ¬ m = 1 := by omega
  rw [hm]
  rw [hm] at HCO
  clear h hm
  go_enter Try.func15, Try.ntmps15
  go_wp2
  go_loopw [9, 3, 5] (fun v9 v3 _ wr => ∃ (k : Nat) (a3 : Option Addr) (c3 : Nat), k ≤ n ∧ v9 = .int .i64 (k : Nat) ∧ v3 = .slice a3 k c3 ∧ Hid (wr.ownsRow w.heap.size 41 1 (.slice a3 k c3) k (wfL gs n k)) ∧ Hid (Below w.heap.size w wr)) (fun v9 _ _ _ => n - (intOf v9).toNat)
  case atStart => exact ⟨0, none, 0, Nat.zero_le _, rfl, rfl, HO0.out, HB.out⟩
  case round =>
    clear HB HO0
    rename World => W1
    obtain ⟨k, a3, c3, hk, rfl, rfl, hO, hb⟩ := hrel
    by_cases hkn : k < n
    · have e0 := HCO.out W1 hb.out k hkn
      have hl := HLT.out k hkn
      have hsW := hb.out.size
      obtain ⟨k1, hk1⟩ : ∃ k1, k + 1 = k1 := ⟨_, rfl⟩
      have hoff : 1 + k = k + 1 := Nat.add_comm _ _
      obtain ⟨g, hg⟩ : ∃ g, gs (k + 1) = g := ⟨_, rfl⟩
      have HG := hidS hg
      rw [hg] at e0 hl
      have hkI : (k : Int) < (n : Int) := by omega
      clear hk1 hg
      have hgl : gt < W1.heap.size := by omega
      go_wp2_with (first | (at_builtin; refine wpList_append_own _ rfl _ _ 30 rfl w.heap.size 41 i1 (.slice none 0 0) 1 24 Try.underlying30 hj hy0 hy1 hy2 rfl (by decide) _ _ _ rfl (hO.out.alloc _) ⟨W1.heap.size, 0, none⟩ 1 1 [Value.slice (some ⟨g, 1, none⟩) n n] rfl rfl (new_cell1 _ _ _) (one_slice _ _ _ _ rfl) (by unfold maxLen; omega) (by omega) (by simp; omega) ?_; intro v8 w8 hown8 hg8 _; refine Hid.out ?_))
      refine Lib.hid ?_
      rw [← HG.out, wfL_next] at hown8
      have hown9 : w8.ownsRow w.heap.size 41 1 v8 (k + 1) (wfL gs n (k + 1)) := by simpa using hown8
      obtain ⟨a8, c8, e8⟩ := own_capS hown9
      subst e8
      have HO8 := hidS hown9
      have HB8 := hidS ((hb.out.alloc hb.out.size _).grown hg8 (by simp; omega) (fun q hq => (hO.out.lt q hq).1))
      clear hown8 hown9 hg8
      go_wp2
      go_roundw
      all_goals first
        | (simp only [intOf]; omega)
        | exact ⟨k + 1, a8, c8, by omega, by go_num, by first | rfl | simp, HO8.out, HB8.out⟩
    · obtain rfl : k = n := by omega
      have HO8 := hidS hO.out
      have HB8 := hidS hb.out
      clear hO hb
      obtain ⟨g3, c3', e3, hg3, hg3s⟩ := own_someQ HO8.out h0
      injection e3 with e31 e32 e33
      subst e31
      clear e32 e33
      go_wp2
      go_ret
      refine ⟨_, rfl, ⟨_, _, rfl, fun _ => ⟨g3, 0, rfl, hg3s, fun i hi => ⟨gs (i + 1), 1, k, ?_, ?_, fun j hj => ?_⟩⟩⟩, HB8.out⟩
      · rw [Nat.zero_add, HO8.out.cellAt i (by omega), wfL_get _ _ _ _ hi]
      · exact Nat.lt_of_lt_of_le (HLT.out i hi) HB8.out.size
      · rw [Nat.add_comm 1 j]; exact HCR.out _ HB8.out i j hi hj
theorem withoutFirst_any (B gt n : Nat) (gs : Nat → Nat) (T : Nat → Nat → Int) (w : World) (hn : n ≤ 100) (h : TabAt B gt (n + 1) gs (n + 1) T w) :
    Calls Try.prog 15 #[.slice (some ⟨gt, 0, none⟩) (n + 1) (n + 1)] w fun e w' => ∃ v, e = .returned v ∧ SqR w' w'.heap.size v n (fun i j => T (i + 1) (j + 1)) ∧ Below w.heap.size w w' := by
  rcases Nat.eq_zero_or_pos n with rfl | h0
  · exact withoutFirst_none gt _ w
  · exact withoutFirst_some B gt n gs T w h0 hn h
end Go.Proofs.Ytlcogbcpmneknaa
/- The walks of sign.Shades and sign.Goeritz. -/
namespace Go.Proofs.Ytlcogbcpmneknaa
open Go.RowKit Go.Maps

/-- What is wrong with a diagram whose faces are to be shaded: 0, nothing. -/
def oneN (C : List Cr) (loops : Int) : Int := if noN C loops ≠ 0 then noN C loops else if oneB C loops = true then 0 else 6
theorem chart_bad (v : Value) (C : List Cr) (loops : Int) (w : World) (hr : oneN C loops ≠ 0) (h : Crs w w.heap.size v C) :
    Calls Try.prog 11 #[.agg #[v, .int .i64 loops]] w fun e w' => e = .returned (.tuple #[noChart, .int .i64 (oneN C loops)]) ∧ Below w.heap.size w w' := by
  refine chart_no v C loops _ w hr h (fun W hW => ?_)
  by_cases hn : noN C loops ≠ 0
  · have e : oneN C loops = noN C loops := by unfold oneN; rw [if_pos hn]
    rw [e]
    exact single_no faceRingsS v C loops W hn hW
  · have hn0 : noN C loops = 0 := Decidable.not_not.1 hn
    have hb : oneB C loops = false := by
      cases hb : oneB C loops with
      | false => rfl
      | true => exact absurd (by unfold oneN; rw [if_neg hn, if_pos hb]) hr
    have e : oneN C loops = 6 := by unfold oneN; rw [if_neg hn, hb]; rfl
    rw [e]
    have h6 := single_some faceRingsS v C loops W hn0 hW
    rw [hb] at h6
    exact h6
theorem oneN_zero {C : List Cr} {loops : Int} (h : oneN C loops = 0) : mayD C loops = true ∧ planarB C = true ∧ oneB C loops = true := by
  unfold oneN at h
  by_cases hn : noN C loops ≠ 0
  · rw [if_pos hn] at h; exact absurd h hn
  · rw [if_neg hn] at h
    obtain ⟨h1, h2⟩ := noN_zero (Decidable.not_not.1 hn)
    refine ⟨h1, h2, ?_⟩
    cases hb : oneB C loops with
    | true => rfl
    | false => rw [hb] at h; simp at h

end Go.Proofs.Ytlcogbcpmneknaa

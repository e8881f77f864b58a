/- Several texts of the proof, one behind the other. -/
import Derived.Test.YtagaajlbkfkaiaaDart
import Derived.Test.YtagaajlbkfkaiaaInP
/- A row that is taken from at its head and appended to at its end: in the world, and the step of append upon it. -/
namespace Go.Proofs.Ytagaajlbkfkaiaa
open Go.RowKit

/-- A row of one-celled values of the call's own, that begins somewhere in its block. -/
def QueAt (w : World) (base : Nat) (e : TypeId) (v : Value) (xs : List Value) : Prop :=
  ∃ g off cap cur, v = .slice (some ⟨g, off, none⟩) xs.length cap ∧ base ≤ g ∧ w.heap[g]? = some (.cells cur e (0, 0)) ∧ xs.length ≤ cap ∧ cap ≤ maxLen ∧ off + cap ≤ cur.size ∧ (cur.toList.drop off).take xs.length = xs
theorem QueAt.kept {w w' : World} {base : Nat} {e : TypeId} {v : Value} {xs : List Value} {row : Option Nat} (h : QueAt w base e v xs) (hg : w.grownBy w' row) (hne : v.ownBlock ≠ row) : QueAt w' base e v xs := by
  obtain ⟨g, off, cap, cur, rfl, hb, hgg, rest⟩ := h
  refine ⟨g, off, cap, cur, rfl, hb, ?_, rest⟩
  rw [hg.block g (Array.getElem?_eq_some_iff.1 hgg).1 (by simpa [Value.ownBlock] using hne)]
  exact hgg
theorem QueAt.lt {w : World} {base : Nat} {e : TypeId} {v : Value} {xs : List Value} (h : QueAt w base e v xs) : ∀ k, v.ownBlock = some k → base ≤ k ∧ k < w.heap.size := by
  intro k hk
  obtain ⟨g, off, cap, cur, rfl, hb, hgg, rest⟩ := h
  have e := Option.some.inj hk
  have e2 : g = k := e
  subst e2
  exact ⟨hb, (Array.getElem?_eq_some_iff.1 hgg).1⟩
theorem QueAt.shape {w : World} {base : Nat} {e : TypeId} {v : Value} {xs : List Value} (h : QueAt w base e v xs) : ∃ g off cap, v = .slice (some ⟨g, off, none⟩) xs.length cap ∧ xs.length ≤ cap := by
  obtain ⟨g, off, cap, cur, rfl, _, _, h2, _⟩ := h
  exact ⟨g, off, cap, rfl, h2⟩
theorem QueAt.size {w : World} {base g off n cap : Nat} {e : TypeId} {xs : List Value} (h : QueAt w base e (.slice (some ⟨g, off, none⟩) n cap) xs) : n = xs.length ∧ n ≤ cap ∧ cap ≤ maxLen ∧ base ≤ g ∧ g < w.heap.size := by
  obtain ⟨g', off', cap', cur, ev, hb, hgg, h1, h2, _⟩ := h
  injection ev with e1 e2 e3
  injection e1 with e1
  injection e1 with e4 e5
  subst e4 e2 e3
  exact ⟨rfl, h1, h2, hb, (Array.getElem?_eq_some_iff.1 hgg).1⟩
theorem QueAt.cell {w : World} {base g off n cap : Nat} {e : TypeId} {xs : List Value} (h : QueAt w base e (.slice (some ⟨g, off, none⟩) n cap) xs) (j : Nat) (u : Value) (hj : xs[j]? = some u) : w.cell? ⟨g, off + j, none⟩ = some u := by
  obtain ⟨g', off', cap', cur, ev, hb, hgg, h1, h2, h3, h4⟩ := h
  injection ev with e1 e2 e3
  injection e1 with e1
  injection e1 with e4 e5
  subst e4 e5
  rw [cell_of_row w g _ cur e (0, 0) hgg]
  rw [← h4, List.getElem?_take] at hj
  split at hj
  · rw [List.getElem?_drop] at hj
    simpa using hj
  · cases hj
/-- Its first is taken away. -/
theorem QueAt.tail {w : World} {base g off n cap : Nat} {e : TypeId} {x : Value} {xs : List Value} (h : QueAt w base e (.slice (some ⟨g, off, none⟩) n cap) (x :: xs)) : QueAt w base e (.slice (some ⟨g, off + 1, none⟩) (n - 1) (cap - 1)) xs := by
  obtain ⟨g', off', cap', cur, ev, hb, hgg, h1, h2, h3, h4⟩ := h
  injection ev with e1 e2 e3
  injection e1 with e1
  injection e1 with e4 e5
  subst e4 e5 e3
  simp only [List.length_cons] at e2 h1 h4
  refine ⟨g, off + 1, cap - 1, cur, by rw [e2]; simp, hb, hgg, by omega, by omega, by omega, ?_⟩
  have h5 : ((cur.toList.drop off).take (xs.length + 1)).drop 1 = xs := by rw [h4]; rfl
  rw [List.drop_take, List.drop_drop] at h5
  simpa using h5
/-- Its only one is taken away, and there is no room behind it. -/
theorem QueAt.tail1 {w : World} {base g off n : Nat} {e : TypeId} {x : Value} {xs : List Value} (h : QueAt w base e (.slice (some ⟨g, off, none⟩) n 1) (x :: xs)) : QueAt w base e (.slice (some ⟨g, off, none⟩) (n - 1) 0) xs ∧ xs = [] := by
  obtain ⟨g', off', cap', cur, ev, hb, hgg, h1, h2, h3, h4⟩ := h
  injection ev with e1 e2 e3
  injection e1 with e1
  injection e1 with e4 e5
  subst e4 e5 e3
  simp only [List.length_cons] at e2 h1 h4
  have hx : xs = [] := List.length_eq_zero_iff.1 (by omega)
  subst hx
  exact ⟨⟨g, off, 0, cur, by rw [e2]; simp, hb, hgg, Nat.zero_le _, Nat.zero_le _, by omega, by simp⟩, rfl⟩
theorem QueAt.made {w : World} {base g n cap : Nat} {e : TypeId} {xs : List Value} (h : w.ownsRow base e 1 (.slice (some ⟨g, 0, none⟩) n cap) n xs) : QueAt w base e (.slice (some ⟨g, 0, none⟩) n cap) xs := by
  obtain ⟨hl, h⟩ := h
  rcases h with ⟨h, _⟩ | ⟨g', cap', cur, ev, hb, hgg, h1, h2, h3, h4⟩
  · cases h
  · injection ev with e1 e2 e3
    injection e1 with e1
    injection e1 with e4
    subst e4 e3
    rw [Nat.mul_one] at hl h3 h4
    exact ⟨g, 0, cap, cur, by rw [hl], hb, hgg, by omega, h2, by omega, by rw [hl]; simpa using h4⟩

theorem run_append_que {P : Program} (w : World) (base : Nat) (t ty e : TypeId) (i : TypeInfo) (z : Value) (bytes : Nat) (ht : P.underlying t = some (.slice e)) (hi : P.info? e = some i) (hz : i.zero = some z)
    (hsize : i.size = 1) (hby : i.bytes = bytes) (hzs : z.cells.size = 1)
    (v : Value) (xs : List Value) (hown : QueAt w base e v xs)
    (a : Addr) (c : Nat) (u : Value) (hnews : w.cell? a = some u) (h1 : u.oneCell' = true)
    (h63 : xs.length + 1 ≤ maxLen) (hbytes : (xs.length + 1) * bytes ≤ 140737488355328) (hbase : base ≤ w.heap.size) :
    ∃ v' w', (Builtin.append_ #[t, t] ty #[v, .slice (some a) 1 c]).run P w = .ok v' w' ∧ QueAt w' base e v' (xs ++ [u]) ∧ w.grownBy w' v.ownBlock := by
  subst hby
  have hsmall : xs.length + 1 ≤ 9223372036854775807 := by simp only [maxLen] at h63; omega
  have hl : [u].length = 1 * i.size := by rw [hsize]; rfl
  have hcells : ∀ j v, [u][j]? = some v → w.cell? (a.add j) = some v := by
    intro j v hj
    cases j with
    | zero =>
      have e : v = u := by simpa using hj.symm
      subst e
      have ha : a.add 0 = a := by unfold Addr.add; split <;> simp_all
      rw [ha]
      exact hnews
    | succ j => simp at hj
  obtain ⟨g, off, cap, cur, rfl, hb, hgg, hnc, hcm, hcs, htake⟩ := hown
  by_cases hroom : xs.length + 1 ≤ cap
  · have hf := run_firstCells_some (P := P) w i.size 1 a 1 c [u] hl hcells
    have hst := run_storeCells_at P g (off + xs.length) e [u] 0 cur w hgg (by simp; omega) (by simpa using h1)
    simp only [Nat.add_zero] at hst
    refine ⟨.slice (some ⟨g, off, none⟩) (xs.length + 1) cap, w.setRow g (cur.toList.take (off + xs.length) ++ [u] ++ cur.toList.drop (off + xs.length + [u].length)).toArray, ?_, ⟨g, off, cap, _, by simp, hb, setRow_heap w g cur _ e _ hgg, by simpa using hroom, hcm, ?_, ?_⟩, ⟨rfl, rfl, rfl, by simp, fun k _ hk => setRow_other w g k _ (fun e => hk (by simp [Value.ownBlock, e]))⟩⟩
    · rw [hsize] at hf
      simp [Builtin.append_, run_underlying ht, sizeOf, typeInfo, hi, hsize, Builtin.lenOf, hroom, hf, Addr.add_lit]
      simp at hst
      simp [hst]
    · simp only [List.size_toArray, List.length_append, List.length_take, List.length_drop, Array.length_toList, List.length_cons, List.length_nil]
      omega
    · have h5 : (cur.toList.take (off + xs.length)).drop off = xs := by rw [List.drop_take, Nat.add_sub_cancel_left]; exact htake
      simp only [List.append_assoc]
      rw [List.drop_append_of_le_length (by simp; omega), h5, ← List.append_assoc]
      exact List.take_left
  · have holds : ∀ j v, xs[j]? = some v → w.cell? ((⟨g, off, none⟩ : Addr).add j) = some v := fun j v hj => by
      have hadd : (⟨g, off, none⟩ : Addr).add j = ⟨g, off + j, none⟩ := by unfold Addr.add; split <;> simp_all
      rw [hadd]
      exact QueAt.cell (⟨g, off, cap, cur, rfl, hb, hgg, hnc, hcm, hcs, htake⟩ : QueAt w base e (.slice (some ⟨g, off, none⟩) xs.length cap) xs) j v hj
    have hr := run_append_grow (P := P) w t ty e i z ht hi hz ⟨g, off, none⟩ xs.length cap xs (by rw [hsize, Nat.mul_one]) holds a 1 c [u] hl hcells (by omega) (by omega) (growslice_fits (by omega) hbytes)
    have hge := grownCap_ge w (xs.length + 1) cap e
    refine ⟨_, _, hr, ⟨w.heap.size, 0, _, _, by simp, hbase, heap_alloc_new w.drew _, by simpa using hge, grownCap_le_maxLen w (xs.length + 1) cap e h63, ?_, ?_⟩, ⟨rfl, rfl, rfl, by simp, fun k hk _ => Array.getElem?_push_lt hk ▸ (Array.getElem?_eq_getElem hk).symm⟩⟩
    · simp only [Array.size_append, List.size_toArray, size_zeroCells, hzs, List.length_cons, List.length_nil]
      omega
    · simp only [Array.toList_append, List.drop_zero]
      exact List.take_left

theorem wpList_append_que {P : Program} (w : World) {ops : Array Oper} {rest : List Oper} {o : Oper} {a : Act} {Q : Exit → Act → World → Prop} (hgd : o.guard = none) (s x : Operand) (t : TypeId)
    (ho : o.op = .call { callee := .builtin .append, args := #[s, x], argTypes := #[t, t] })
    (base : Nat) (e : TypeId) (i : TypeInfo) (z : Value) (bytes : Nat) (ht : P.underlying t = some (.slice e)) (hi : P.info? e = some i) (hz : i.zero = some z)
    (hsize : i.size = 1) (hby : i.bytes = bytes) (hzs : z.cells.size = 1)
    (v : Value) (xs : List Value) (hs : a.eval s = v) (hown : QueAt w base e v xs)
    (ad : Addr) (c : Nat) (u : Value) (hx : a.eval x = .slice (some ad) 1 c) (hnews : w.cell? ad = some u) (h1 : u.oneCell' = true)
    (h63 : xs.length + 1 ≤ maxLen) (hbytes : (xs.length + 1) * bytes ≤ 140737488355328) (hbase : base ≤ w.heap.size)
    (h : ∀ v' w', QueAt w' base e v' (xs ++ [u]) → w.grownBy w' v.ownBlock → wpList P ops Q rest (a.put o.dst v') w') : wpList P ops Q (o :: rest) a w := by
  refine wpList_plain hgd fun _ hK => ?_
  obtain ⟨v', w', hr, h2, h3⟩ := run_append_que (P := P) w base t o.type e i z bytes ht hi hz hsize hby hzs v xs hown ad c u hnews h1 h63 hbytes hbase
  unfold Oper.wp execOp
  simp only [ho, resolve, invoke, builtin, Sem.run_bind, Sem.run_pure, Result.andThen_ok, List.map_toArray, List.map_cons, List.map_nil, hs, hx, hr]
  exact hK _ _ (h v' w' h2 h3)
end Go.Proofs.Ytagaajlbkfkaiaa
/- Lists of numbers that are read; the walk of sameTables. -/
namespace Go.Proofs.Ytagaajlbkfkaiaa
open Go.RowKit

set_option maxHeartbeats 2000000 in
set_option maxRecDepth 100000 in
theorem sameInts_eqI (v1 v2 : Value) (l : List Int) (w : World) (hl : l.length ≤ 1000) (h1 : Slots w w.heap.size v1 (intsV l)) (h2 : Slots w w.heap.size v2 (intsV l)) :
    Calls Try.prog 24 #[v1, v2] w fun e w' => e = .returned (.bool true) ∧ Below w.heap.size w w' := by
  obtain ⟨a1, c1, rfl, g1⟩ := h1
  obtain ⟨a2, c2, rfl, g2⟩ := h2
  rw [intsV_len] at g1 g2 ⊢
  have HG1 : Hid (0 < l.length → ∃ b off, a1 = some ⟨b, off, none⟩ ∧ b < w.heap.size ∧ ∀ i, i < l.length → w.cell? ⟨b, off + i, none⟩ = some ((intsV l).getD i (.bool false))) := g1
  have HG2 : Hid (0 < l.length → ∃ b off, a2 = some ⟨b, off, none⟩ ∧ b < w.heap.size ∧ ∀ i, i < l.length → w.cell? ⟨b, off + i, none⟩ = some ((intsV l).getD i (.bool false))) := g2
  have HV : Hid (∀ i, i < l.length → (intsV l).getD i (.bool false) = .int .i64 (l.getD i 0)) := fun i hi => by rw [List.getD_eq_getElem?_getD, intsV_get l i hi]; rfl
  clear g1 g2
  have hne : ((l.length : Int) != (l.length : Int)) = false := by simp
  go_enter Try.func24, Try.ntmps24
  go_wp2
  go_loopw [5] (fun v5 wr => ∃ k : Nat, k ≤ l.length ∧ v5 = .int .i64 k ∧ Below w.heap.size w wr) (fun v5 _ => l.length - (intOf v5).toNat)
  case atStart => exact ⟨0, Nat.zero_le _, rfl, Below.refl _ _⟩
  case round =>
    obtain ⟨k, hk, rfl, hb⟩ := hrel
    by_cases hlt : k < l.length
    · obtain ⟨b1, o1, rfl, hb1, q1⟩ := HG1.out (by omega)
      obtain ⟨b2, o2, rfl, hb2, q2⟩ := HG2.out (by omega)
      have p1 := bcell hb hb1 (q1 k hlt)
      have p2 := bcell hb hb2 (q2 k hlt)
      rw [HV.out k hlt] at p1 p2
      generalize l.getD k 0 = z at p1 p2
      have hd : (z != z) = false := by simp
      clear q1 q2
      go_wp2
      go_quiet (fail)
      go_wp2
      go_roundw
      case rel => exact ⟨k + 1, by omega, by go_num, below_drewN hb _⟩
      case measure => simp [intOf]; omega
    · obtain rfl : k = l.length := by omega
      go_wp2
      go_ret
      exact ⟨rfl, hb⟩

set_option maxHeartbeats 4000000 in
set_option maxRecDepth 100000 in
theorem sameTables_eq (v1 v2 : Value) (L : List (List Int)) (w : World) (hl : L.length ≤ 100) (hr : ∀ j, j < L.length → (L.getD j []).length ≤ 100) (h1 : IntsRd w w.heap.size v1 L) (h2 : IntsRd w w.heap.size v2 L) :
    Calls Try.prog 27 #[v1, v2] w fun e w' => e = .returned (.bool true) ∧ Below w.heap.size w w' := by
  obtain ⟨a1, c1, rfl⟩ := h1.len
  obtain ⟨a2, c2, rfl⟩ := h2.len
  have H1 : Hid (IntsRd w w.heap.size (.slice a1 L.length c1) L) := h1
  have H2 : Hid (IntsRd w w.heap.size (.slice a2 L.length c2) L) := h2
  have HR : Hid (∀ j, j < L.length → (L.getD j []).length ≤ 100) := hr
  clear h1 h2 hr
  have hee : ((L.length : Int) == (L.length : Int)) = true := beq_self_eq_true _
  go_enter Try.func27, Try.ntmps27
  go_wp2
  go_loopw [5] (fun v5 wr => ∃ i : Nat, i ≤ L.length ∧ v5 = .int .i64 (i : Nat) ∧ Hid (Below w.heap.size w wr)) (fun v5 _ => L.length - (intOf v5).toNat)
  case atStart => exact ⟨0, Nat.zero_le _, rfl, Below.refl _ _⟩
  case round =>
    rename World => W1
    obtain ⟨i, hin, rfl, hb⟩ := hrel
    have hsW := hb.out.size
    by_cases hil : i < L.length
    · obtain ⟨b1, o1, r1, s1, e1, l1, q1, x1⟩ := H1.out.row i hil
      obtain ⟨b2, o2, r2, s2, e2, l2, q2, x2⟩ := H2.out.row i hil
      obtain rfl := e1
      obtain rfl := e2
      have hln := HR.out i hil
      have X1 : Hid (∀ W, Below w.heap.size w W → Slots W W.heap.size (.slice r1 (L.getD i []).length s1) (intsV (L.getD i []))) := fun W hb => ((x1.on hb).mono hb.size).slots (by rw [intsV_len])
      have X2 : Hid (∀ W, Below w.heap.size w W → Slots W W.heap.size (.slice r2 (L.getD i []).length s2) (intsV (L.getD i []))) := fun W hb => ((x2.on hb).mono hb.size).slots (by rw [intsV_len])
      obtain ⟨V, hV⟩ : ∃ V, L.getD i [] = V := ⟨_, rfl⟩
      rw [hV] at q1 q2 hln X1 X2
      have HF : Hid (∀ w', Below W1.heap.size W1 w' → w'.cell? ⟨b1, o1 + i, none⟩ = some (.slice r1 V.length s1) ∧ w'.cell? ⟨b2, o2 + i, none⟩ = some (.slice r2 V.length s2)) := fun w' hb' => by
        have hb2 := hb.out.trans (hb'.mono hsW)
        exact ⟨bcell hb2 l1 q1, bcell hb2 l2 q2⟩
      have HBW : Hid (∀ w', Below W1.heap.size W1 w' → Below w.heap.size w w') := fun w' hb' => hb.out.trans (hb'.mono hsW)
      have HD1 : Hid (Below W1.heap.size W1 W1.drew) := (Below.refl _ _).drew
      have hb1 : b1 < W1.heap.size := by omega
      have hb2 : b2 < W1.heap.size := by omega
      have hii : (i : Int) < (L.length : Int) := by omega
      obtain ⟨n0, n1⟩ := HF.out W1 (Below.refl _ _)
      clear x1 x2 q1 q2 hV
      go_wp2
      go_region_held3 (fun w' => w'.cell? ⟨b1, o1 + i, none⟩ = some (.slice r1 V.length s1) ∧ w'.cell? ⟨b2, o2 + i, none⟩ = some (.slice r2 V.length s2)) (first | exact HF.out _ HY.out | exact HF.out _ HD1.out | exact HF.out _ (Below.refl _ _)) (first | (go_at_call 24; refine (sameInts_eqI _ _ V _ (by omega) (X1.out _ (HBW.out _ HD1.out)) (X2.out _ (HBW.out _ HD1.out))).mono ?_; rintro e9 w5 ⟨rfl, hb5⟩; have HY : Hid (Below W1.heap.size W1 w5) := HD1.out.trans (hb5.mono HD1.out.size); clear hb5))
      go_wp2
      go_roundw
      case rel => exact ⟨i + 1, by omega, by go_num, HBW.out _ HY.out⟩
      case measure => simp only [intOf]; omega
    · obtain rfl : i = L.length := by omega
      go_wp2
      go_ret
      exact ⟨rfl, hb.out⟩
end Go.Proofs.Ytagaajlbkfkaiaa

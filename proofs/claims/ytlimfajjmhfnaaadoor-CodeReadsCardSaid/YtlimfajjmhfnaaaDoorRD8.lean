/- The walk of ref.crossIn. -/
import Derived.Test.YtlimfajjmhfnaaaDoorRD7
import Derived.Deep.RegionHeld
import Derived.BigRegion
namespace Go.Proofs.YtlimfajjmhfnaaaDoor
open Go.RowKit

/-- What is left to be read of a crossing, when some numbers were read. -/
def restS (plus : Bool) : Nat → List Nat → List UInt8 → Option (Cr × List UInt8)
  | 0, N, r => match N with
    | [a, b, c, d] => some (⟨a, b, c, d, plus⟩, r)
    | _ => none
  | f + 1, N, r => match scanN (if f = 0 then 93 else 44) r with
    | none => none
    | some (x, r') => restS plus f (N ++ [x]) r'
theorem crossS_rest (l : List UInt8) : crossS l = match headP l with
    | none => none
    | some (plus, r) => restS plus 4 [] r := by
  unfold crossS
  cases headP l with
  | none => rfl
  | some q =>
    obtain ⟨plus, r0⟩ := q
    simp only [restS]
    rw [if_neg (by omega), if_neg (by omega), if_neg (by omega), if_pos trivial]
    cases scanN 44 r0 with
    | none => rfl
    | some q =>
      obtain ⟨a, r1⟩ := q
      simp only
      cases scanN 44 r1 with
      | none => rfl
      | some q =>
        obtain ⟨b, r2⟩ := q
        simp only
        cases scanN 44 r2 with
        | none => rfl
        | some q =>
          obtain ⟨c, r3⟩ := q
          simp only
          cases scanN 93 r3 with
          | none => rfl
          | some q => rfl
/-- The digits at a place. -/
def digs (L : List UInt8) (i : Nat) : List UInt8 := ((L.drop i).take 3).takeWhile dgB
theorem digs_len (L : List UInt8) (i : Nat) : (digs L i).length ≤ 3 ∧ i + (digs L i).length ≤ max i L.length := by
  have h1 := (List.takeWhile_prefix (p := dgB) (l := (L.drop i).take 3)).length_le
  rw [List.length_take, List.length_drop] at h1
  unfold digs
  omega
theorem digs_at (L : List UInt8) (i j : Nat) (hj : j < (digs L i).length) : ∃ b, L[i + j]? = some b ∧ dgB b = true ∧ (digs L i)[j]? = some b := by
  have h1 : (digs L i) <+: L.drop i := (List.takeWhile_prefix _).trans (List.take_prefix 3 _)
  obtain ⟨t, ht⟩ := h1
  have h2 : (digs L i)[j]? = some ((digs L i)[j]'hj) := List.getElem?_eq_getElem hj
  refine ⟨(digs L i)[j]'hj, ?_, mem_take _ _ _ (List.getElem_mem hj), h2⟩
  rw [← List.getElem?_drop, ← ht, List.getElem?_append_left hj, h2]
theorem digs_end (L : List UInt8) (i : Nat) (h3 : (digs L i).length < 3) (b : UInt8) (hb : L[i + (digs L i).length]? = some b) : dgB b = false := by
  cases hd : dgB b with
  | false => rfl
  | true =>
    exfalso
    obtain ⟨n, hn⟩ : ∃ n, (digs L i).length = n := ⟨_, rfl⟩
    rw [hn] at hb h3
    have h1 : ((L.drop i).take 3)[n]? = some b := by
      rw [List.getElem?_take_of_lt h3, List.getElem?_drop]; exact hb
    have h2 : ∀ (p : UInt8 → Bool) (l : List UInt8) (n : Nat), (l.takeWhile p).length = n → ∀ b, l[n]? = some b → p b = false := by
      intro p l
      induction l with
      | nil => intro n _ b hb; simp at hb
      | cons x r ih =>
        intro n hn b hb
        rw [List.takeWhile_cons] at hn
        by_cases hx : p x = true
        · rw [if_pos hx, List.length_cons] at hn
          cases n with
          | zero => omega
          | succ n => exact ih n (by omega) b (by simpa using hb)
        · rw [if_neg hx, List.length_nil] at hn
          subst hn
          simp at hb
          rw [← hb]
          simpa using hx
    have h4 := h2 dgB ((L.drop i).take 3) n hn b h1
    rw [hd] at h4
    cases h4
theorem scan_digs (L : List UInt8) (i : Nat) (w : UInt8) : scanN w (L.drop i) = if (digs L i).length = 0 then none else match L[i + (digs L i).length]? with
    | none => none
    | some b => if b = w then some (numOf (digs L i), L.drop (i + (digs L i).length + 1)) else none := by
  unfold scanN
  show (if (digs L i).length = 0 then none else _) = _
  by_cases h0 : (digs L i).length = 0
  · rw [if_pos h0, if_pos h0]
  · rw [if_neg h0, if_neg h0, List.drop_drop]
    show (match L.drop (i + (digs L i).length) with
      | [] => none
      | b :: r => if b = w then some (numOf (digs L i), r) else none) = _
    obtain ⟨n, hn⟩ : ∃ n, (digs L i).length = n := ⟨_, rfl⟩
    rw [hn]
    by_cases hk : i + n < L.length
    · rw [List.drop_eq_getElem_cons hk, List.getElem?_eq_getElem hk]
    · rw [List.drop_of_length_le (by omega), List.getElem?_eq_none (by omega)]
/-- What ref.crossIn answers at a place. -/
def ciV (L : List UInt8) (k : Nat) : Value := match crossS (L.drop k) with
  | some (c, r) => .tuple #[.agg #[.int .i64 c.a, .int .i64 c.b, .int .i64 c.c, .int .i64 c.d, .bool c.plus], .int .i64 ((L.length - r.length : Nat) : Int)]
  | none => .tuple #[.agg #[.int .i64 0, .int .i64 0, .int .i64 0, .int .i64 0, .bool false], .int .i64 (k : Nat)]
theorem res_ci {W : World} {g : Nat} {a b c d p : Value} {x : Int} {tm : Array Value} (h : W.heap[g]? = some (.cells #[a, b, c, d, p] 53 (0, 0))) (h2 : tm[4]? = some (.pointer (some ⟨g, 0, none⟩))) (h3 : tm[5]? = some (.int .i64 x)) : (results Tryd.f25 tm).run Tryd.prog W = .ok (.tuple #[.agg #[a, b, c, d, p], .int .i64 x]) W := by
  have e0 : W.cell? ⟨g, 0, none⟩ = some a := block_cell h rfl
  have e1 : W.cell? ⟨g, 1, none⟩ = some b := block_cell h rfl
  have e2 : W.cell? ⟨g, 2, none⟩ = some c := block_cell h rfl
  have e3 : W.cell? ⟨g, 3, none⟩ = some d := block_cell h rfl
  have e4 : W.cell? ⟨g, 4, none⟩ = some p := block_cell h rfl
  simp [results, Tryd.results25, go_sem, h2, h3, e0, e1, e2, e3, e4]


theorem idx_eq {L : List UInt8} {k n : Nat} {b : UInt8} (h : L[k]? = some b) (hn : b.toNat = n) (W : World) : (Instr.index 9 (.string ⟨L.toArray⟩) (.int .i64 (k : Nat))).run Tryd.prog W = .ok (.int .u8 (n : Nat)) W := by
  subst hn
  exact idx_any h W
set_option maxHeartbeats 8000000 in
set_option maxRecDepth 100000 in
theorem crossIn_no (L : List UInt8) (k : Nat) (w : World) (_hL : L.length ≤ 10000) (hk : k ≤ 10000) (h : headP (L.drop k) = none) :
    Calls Tryd.prog 25 #[.string ⟨L.toArray⟩, .int .i64 (k : Nat)] w fun e w' => e = .returned (ciV L k) ∧ Below w.heap.size w w' := by
  have hz : (⟨L.toArray⟩ : ByteArray).size = L.length := arr_size L
  have hv : ciV L k = .tuple #[.agg #[.int .i64 0, .int .i64 0, .int .i64 0, .int .i64 0, .bool false], .int .i64 (k : Nat)] := by
    unfold ciV
    rw [crossS_rest, h]
  rw [hv]
  clear hv
  have w1 : IntKind.i64.wrap ((k : Int) + 3) = (k : Int) + 3 := IntWalk.i64_in _ (by omega)
  obtain ⟨k1, hk1⟩ : ∃ k1, k + 1 = k1 := ⟨_, rfl⟩
  obtain ⟨k2, hk2⟩ : ∃ k2, k + 2 = k2 := ⟨_, rfl⟩
  have w2 : IntKind.i64.wrap ((k : Int) + 1) = (k1 : Int) := by rw [IntWalk.i64_in _ (by omega)]; omega
  have w3 : IntKind.i64.wrap ((k : Int) + 2) = (k2 : Int) := by rw [IntWalk.i64_in _ (by omega)]; omega
  have HB1 : Hid (Below w.heap.size w (w.alloc (.cells #[.int .i64 0, .int .i64 0, .int .i64 0, .int .i64 0, .bool false] 53))) := (Below.refl _ _).alloc (Nat.le_refl _) _
  by_cases h3 : L.length < k + 3
  · have hI : (L.length : Int) < (k : Int) + 3 := by omega
    clear h hk1 hk2
    go_enter Tryd.func25, Tryd.ntmps25
    go_wp2
    exact bodyPost_ret (res_ci (alloc_at rfl) rfl rfl) rfl ⟨rfl, HB1.out⟩
  · have hI : ¬ (L.length : Int) < (k : Int) + 3 := by omega
    have g0 : L[k]? = some (L[k]'(by omega)) := List.getElem?_eq_getElem (by omega)
    have g1 : L[k + 1]? = some (L[k + 1]'(by omega)) := List.getElem?_eq_getElem (by omega)
    have g2 : L[k + 2]? = some (L[k + 2]'(by omega)) := List.getElem?_eq_getElem (by omega)
    obtain ⟨x, hx⟩ : ∃ x, L[k]'(by omega) = x := ⟨_, rfl⟩
    obtain ⟨y, hy⟩ : ∃ y, L[k + 1]'(by omega) = y := ⟨_, rfl⟩
    obtain ⟨z, hz2⟩ : ∃ z, L[k + 2]'(by omega) = z := ⟨_, rfl⟩
    rw [hx] at g0
    rw [hy] at g1
    rw [hz2] at g2
    have hd : L.drop k = x :: y :: z :: L.drop (k + 3) := by
      rw [List.drop_eq_getElem_cons (by omega), List.drop_eq_getElem_cons (by omega), List.drop_eq_getElem_cons (by omega), hx, hy, hz2]
    rw [hd] at h
    unfold headP at h
    simp only at h
    have hno : ¬ (x = 88 ∧ (y = 43 ∨ y = 45) ∧ z = 91) := fun e => by rw [if_pos e] at h; cases h
    obtain ⟨a, ha⟩ : ∃ a, x.toNat = a := ⟨_, rfl⟩
    obtain ⟨b, hb⟩ : ∃ b, y.toNat = b := ⟨_, rfl⟩
    obtain ⟨c, hc⟩ : ∃ c, z.toNat = c := ⟨_, rfl⟩
    have i0 := idx_eq g0 ha
    rw [hk1] at g1
    rw [hk2] at g2
    have i1 := idx_eq g1 hb
    have i2 := idx_eq g2 hc
    have hN : ∀ (a : UInt8) (n : Nat), n < 256 → a.toNat = n → a = UInt8.ofNat n := fun a n hn e => by rw [← e]; simp
    have hno2 : ¬ (a = 88 ∧ (b = 43 ∨ b = 45) ∧ c = 91) := by
      rintro ⟨rfl, e1, rfl⟩
      refine hno ⟨hN x 88 (by omega) ha, ?_, hN z 91 (by omega) hc⟩
      rcases e1 with rfl | rfl
      · exact Or.inl (hN y 43 (by omega) hb)
      · exact Or.inr (hN y 45 (by omega) hb)
    have hN2 : ∀ a n : Nat, ¬ a = n → ((a : Int) == (n : Int)) = false ∧ ((a : Int) != (n : Int)) = true := fun a n h => ⟨beq_eq_false_iff_ne.2 (by omega), bne_iff_ne.2 (by omega)⟩
    clear h hd hx hy hz2 hno g0 g1 g2 hN ha hb hc hk1 hk2
    by_cases q0 : a = 88
    · subst q0
      by_cases q1 : b = 43
      · subst q1
        have n1 : ¬ c = 91 := fun e => hno2 ⟨rfl, Or.inl rfl, e⟩
        have n2 := hN2 c 91 n1
        obtain ⟨n3, n4⟩ := n2
        clear hN2 hno2
        go_enter Tryd.func25, Tryd.ntmps25
        go_wp2
        exact bodyPost_ret (res_ci (alloc_at rfl) rfl rfl) rfl ⟨rfl, HB1.out⟩
      · by_cases q2 : b = 45
        · subst q2
          have n1 : ¬ c = 91 := fun e => hno2 ⟨rfl, Or.inr rfl, e⟩
          have n2 := hN2 c 91 n1
          obtain ⟨n3, n4⟩ := n2
          clear hN2 hno2
          go_enter Tryd.func25, Tryd.ntmps25
          go_wp2
          exact bodyPost_ret (res_ci (alloc_at rfl) rfl rfl) rfl ⟨rfl, HB1.out⟩
        · have n2 := hN2 b 43 q1
          have n5 := hN2 b 45 q2
          obtain ⟨n3, n4⟩ := n2
          obtain ⟨n6, n7⟩ := n5
          clear hN2 hno2
          go_enter Tryd.func25, Tryd.ntmps25
          go_wp2
          exact bodyPost_ret (res_ci (alloc_at rfl) rfl rfl) rfl ⟨rfl, HB1.out⟩
    · have n2 := hN2 a 88 q0
      obtain ⟨n3, n4⟩ := n2
      clear hN2 hno2
      go_enter Tryd.func25, Tryd.ntmps25
      go_wp2
      exact bodyPost_ret (res_ci (alloc_at rfl) rfl rfl) rfl ⟨rfl, HB1.out⟩

def natsD (N : List Nat) : List Value := N.map fun x => .int .i64 (x : Nat)
theorem restS_step {plus : Bool} {N : List Nat} {r : List UInt8} (hN : N.length < 4) : restS plus (4 - N.length) N r = match scanN (if N.length = 3 then 93 else 44) r with
    | none => none
    | some (x, r') => restS plus (4 - (N ++ [x]).length) (N ++ [x]) r' := by
  obtain ⟨f, hf⟩ : ∃ f, 4 - N.length = f + 1 := ⟨3 - N.length, by omega⟩
  have e : (if f = 0 then (93 : UInt8) else 44) = if N.length = 3 then 93 else 44 := by
    by_cases h : f = 0
    · rw [if_pos h, if_pos (by omega)]
    · rw [if_neg h, if_neg (by omega)]
  rw [hf]
  show (match scanN (if f = 0 then 93 else 44) r with | none => none | some (x, r') => restS plus f (N ++ [x]) r') = _
  rw [e]
  cases scanN (if N.length = 3 then 93 else 44) r with
  | none => rfl
  | some q =>
    obtain ⟨x, r'⟩ := q
    have e2 : 4 - (N ++ [x]).length = f := by rw [List.length_append]; simp; omega
    simp only
    rw [e2]
theorem scan_zero {L : List UInt8} {i : Nat} {w : UInt8} (h : (digs L i).length = 0) : scanN w (L.drop i) = none := by
  rw [scan_digs, if_pos h]
theorem scan_out {L : List UInt8} {i n : Nat} {w : UInt8} (h : (digs L i).length = n) (h2 : L.length ≤ i + n) : scanN w (L.drop i) = none := by
  rw [scan_digs, h, List.getElem?_eq_none (by omega)]
  split <;> rfl
theorem scan_bad {L : List UInt8} {i n : Nat} {w b : UInt8} (h : (digs L i).length = n) (h2 : L[i + n]? = some b) (hne : b ≠ w) : scanN w (L.drop i) = none := by
  rw [scan_digs, h, h2]
  simp [hne]
theorem scan_ok {L : List UInt8} {i n : Nat} {w : UInt8} (h : (digs L i).length = n) (h0 : ¬ n = 0) (h2 : L[i + n]? = some w) : scanN w (L.drop i) = some (numOf (digs L i), L.drop (i + n + 1)) := by
  rw [scan_digs, h, if_neg h0, h2]
  simp
theorem u8_eq {b c : UInt8} (h : b.toNat = c.toNat) : b = c := UInt8.toNat_inj.1 h
theorem len4 {l : List Nat} (h : l.length = 4) : ∃ a b c d, l = [a, b, c, d] := by
  match l, h with
  | [a, b, c, d], _ => exact ⟨a, b, c, d, rfl⟩
theorem cell_same {W W' : World} {g i : Nat} (h : W'.heap[g]? = W.heap[g]?) : W'.cell? ⟨g, i, none⟩ = W.cell? ⟨g, i, none⟩ := by
  simp only [World.cell?, h]
theorem st5_other {W : World} {g h : Nat} {a b c d p : Value} (hg : g < W.heap.size) (hne : g ≠ h) : (st5 W h a b c d p).heap[g]? = W.heap[g]? := by
  obtain ⟨o, ho⟩ : ∃ o, W.heap[g]? = some o := ⟨_, Array.getElem?_eq_getElem hg⟩
  rw [ho]
  unfold st5
  exact set_other (set_other (set_other (set_other (set_other ho hne) hne) hne) hne) hne
structure CiAt (w : World) (N : List Nat) (v : Value) (W : World) : Prop where
  box : W.heap[w.heap.size]? = some (.cells #[.int .i64 0, .int .i64 0, .int .i64 0, .int .i64 0, .bool false] 53 (0, 0))
  row : W.ownsRow (w.heap.size + 1) 3 1 v N.length (natsD N)
  bel : Below w.heap.size w W
theorem CiAt.push {w W w8 : World} {N : List Nat} {v v8 : Value} {x : Nat} {e : TypeId} (h : CiAt w N v W) (hown : w8.ownsRow (w.heap.size + 1) 3 1 v8 (N.length + 1) (natsD N ++ [.int .i64 (x : Nat)])) (hg : (W.alloc (.cells #[.int .i64 (x : Nat)] e)).grownBy w8 v.ownBlock) : CiAt w (N ++ [x]) v8 w8 := by
  have hs := (Array.getElem?_eq_some_iff.1 h.box).1
  refine ⟨(hg.block _ (by simp; omega) (fun e => by have := (h.row.lt _ e.symm).1; omega)).trans (alloc_old h.box), ?_, (h.bel.alloc h.bel.size _).grown hg (by simp; omega) (fun q hq => by have := (h.row.lt q hq).1; omega)⟩
  simpa [natsD] using hown
theorem infoI : (Tryd.prog.info? 3).map (fun i => (i.zero, i.size, i.bytes)) = some (some (.int .i64 0), 1, 8) := by kernel_rfl
theorem one_int (x : Int) : ∀ u ∈ [Value.int .i64 x], u.oneCell' = true := by
  intro u hu
  simp only [List.mem_singleton] at hu
  subst hu
  rfl
theorem ciV_none {L : List UInt8} {k : Nat} (h : crossS (L.drop k) = none) : ciV L k = .tuple #[.agg #[.int .i64 0, .int .i64 0, .int .i64 0, .int .i64 0, .bool false], .int .i64 (k : Nat)] := by
  unfold ciV
  rw [h]

set_option maxHeartbeats 16000000 in
set_option maxRecDepth 100000 in
theorem crossIn_true (L : List UInt8) (k : Nat) (w : World) (hL : L.length ≤ 10000) (hk3 : k + 3 ≤ L.length) (g0 : L[k]? = some 88) (g1 : L[k + 1]? = some 43) (g2 : L[k + 2]? = some 91) (hR0 : restS true 4 [] (L.drop (k + 3)) = crossS (L.drop k)) :
    Calls Tryd.prog 25 #[.string ⟨L.toArray⟩, .int .i64 (k : Nat)] w fun e w' => e = .returned (ciV L k) ∧ Below w.heap.size w w' := by
  have hz : (⟨L.toArray⟩ : ByteArray).size = L.length := arr_size L
  obtain ⟨i2, hk2, hx0, hx1, hx2⟩ := info_parts infoI
  obtain ⟨k1, hk1⟩ : ∃ k1, k + 1 = k1 := ⟨_, rfl⟩
  obtain ⟨k2, hkk⟩ : ∃ k2, k + 2 = k2 := ⟨_, rfl⟩
  obtain ⟨k3, hk33⟩ : ∃ k3, k + 3 = k3 := ⟨_, rfl⟩
  have w1 : IntKind.i64.wrap ((k : Int) + 3) = (k3 : Int) := by rw [IntWalk.i64_in _ (by omega)]; omega
  have w2 : IntKind.i64.wrap ((k : Int) + 1) = (k1 : Int) := by rw [IntWalk.i64_in _ (by omega)]; omega
  have w3 : IntKind.i64.wrap ((k : Int) + 2) = (k2 : Int) := by rw [IntWalk.i64_in _ (by omega)]; omega
  have hI : ¬ (L.length : Int) < (k3 : Int) := by omega
  rw [hk1] at g1
  rw [hkk] at g2
  rw [hk33] at hk3 hR0
  have HK3 := hid_of hk33
  have i0 := idx_eq (n := 88) g0 rfl
  have i1 := idx_eq (n := 43) g1 rfl
  have i2' := idx_eq (n := 91) g2 rfl
  have HR0 := hid_of hR0
  have HI0 : Hid (CiAt w [] (.slice none 0 0) (w.alloc (.cells #[.int .i64 0, .int .i64 0, .int .i64 0, .int .i64 0, .bool false] 53))) := ⟨alloc_at rfl, World.ownsRow_nil _ _ _ _, (Below.refl _ _).alloc (Nat.le_refl _) _⟩
  clear g0 g1 g2 hR0 hk1 hkk hk33
  go_enter Tryd.func25, Tryd.ntmps25
  go_wp2
  go_loopw [6, 7] (fun v6 v7 wr => ∃ (i : Nat) (N : List Nat) (a7 : Option Addr) (c7 : Nat), i ≤ L.length ∧ N.length ≤ 4 ∧ v6 = .int .i64 (i : Nat) ∧ v7 = .slice a7 N.length c7 ∧ Hid (restS true (4 - N.length) N (L.drop i) = crossS (L.drop k)) ∧ Hid (CiAt w N (.slice a7 N.length c7) wr)) (fun v6 _ _ => L.length - (intOf v6).toNat)
  case atStart => exact ⟨k3, [], none, 0, hk3, by simp, rfl, rfl, HR0, HI0⟩
  case round =>
    clear HI0 HR0
    rename World => W1
    obtain ⟨i, N, a7, c7, hiL, hN4, rfl, rfl, HRS, HP⟩ := hrel
    have hsW := (Array.getElem?_eq_some_iff.1 HP.out.box).1
    by_cases hN : N.length < 4
    · have hNI : (N.length : Int) < 4 := by omega
      obtain ⟨n, hn⟩ : ∃ n, (digs L i).length = n := ⟨_, rfl⟩
      have hd := digs_len L i
      rw [hn] at hd
      have HNM := hid_of hn
      clear hn
      go_wp2
      go_loopw [6, 8] (fun v6 v8 wr => ∃ j A : Nat, j ≤ n ∧ v6 = .int .i64 ((i + j : Nat)) ∧ v8 = .int .i64 (A : Nat) ∧ (j = 0 → A = 0) ∧ (j ≤ 1 → A ≤ 9) ∧ (j ≤ 2 → A ≤ 99) ∧ A ≤ 999 ∧ Hid (numOf ((digs L i).take j) = A) ∧ W1 = wr) (fun v6 _ _ => i + n - (intOf v6).toNat)
      case atStart => exact ⟨0, 0, Nat.zero_le _, rfl, rfl, fun _ => rfl, fun _ => by omega, fun _ => by omega, by omega, rfl, rfl⟩
      case round =>
        obtain ⟨j, A, hj, rfl, rfl, a0, a1, a2, a3, HA, rfl⟩ := hrel
        have e33 : IntKind.i64.wrap ((i : Int) + 3) = (i : Int) + 3 := IntWalk.i64_in _ (by omega)
        have hqI : i + j ≤ 10003 := by omega
        by_cases hjn : j < n
        · obtain ⟨b, hb, hdg, hdj⟩ := digs_at L i j (by rw [HNM.out]; exact hjn)
          obtain ⟨q, hq⟩ : ∃ q, i + j = q := ⟨_, rfl⟩
          obtain ⟨q1, hq1⟩ : ∃ q1, q + 1 = q1 := ⟨_, rfl⟩
          rw [hq] at hqI ⊢
          rw [hq] at hb
          obtain ⟨c, hc⟩ : ∃ c, b.toNat = c := ⟨_, rfl⟩
          have ix := idx_eq hb hc
          have hcc : 48 ≤ c ∧ c ≤ 57 := by unfold dgB at hdg; simp at hdg; rw [hc] at hdg; exact hdg
          have HNW : Hid (numOf ((digs L i).take (j + 1)) = 10 * A + (c - 48)) := (by rw [take_snoc hdj, numOf_snoc, HA.out, hc] : numOf ((digs L i).take (j + 1)) = 10 * A + (c - 48))
          have hqlI : (q : Int) < (L.length : Int) := by omega
          have h3 : (q : Int) < (i : Int) + 3 := by omega
          have d9 : (48 : Int) ≤ (c : Int) := by omega
          have d8 : (c : Int) ≤ 57 := by omega
          have e1 : IntKind.i64.wrap (10 * (A : Int)) = 10 * (A : Int) := IntWalk.i64_in _ (by omega)
          have e2 : IntKind.u8.wrap ((c : Int) - 48) = (c : Int) - 48 := by simp [IntKind.wrap, IntKind.signed, IntKind.bits]; omega
          have e3 : IntKind.i64.wrap ((c : Int) - 48) = (c : Int) - 48 := IntWalk.i64_in _ (by omega)
          have e4 : IntKind.i64.wrap (10 * (A : Int) + ((c : Int) - 48)) = ((10 * A + (c - 48) : Nat) : Int) := by rw [IntWalk.i64_in _ (by omega)]; omega
          have hwr : IntKind.i64.wrap ((q : Int) + 1) = (q1 : Int) := by rw [IntWalk.i64_in _ (by omega)]; omega
          have hJ : ∀ B : Nat, B = 10 * A + (c - 48) → ((j + 1 = 0 → B = 0) ∧ (j + 1 ≤ 1 → B ≤ 9) ∧ (j + 1 ≤ 2 → B ≤ 99) ∧ B ≤ 999) := fun B hB => by omega
          have HQ0 : Hid (i + j = q) := hq
          have HQ1 : Hid (i + (j + 1) = q1) := (by omega : i + (j + 1) = q1)
          clear hq hq1 hb hdg hdj hc
          go_wp2
          go_roundw
          case rel => exact ⟨j + 1, 10 * A + (c - 48), by omega, by rw [HQ1.out], by rfl, (hJ _ rfl).1, (hJ _ rfl).2.1, (hJ _ rfl).2.2.1, (hJ _ rfl).2.2.2, HNW, by first | trivial | rfl⟩
          case measure => have := HQ1.out; have := HQ0.out; simp only [intOf]; omega
        · have d0 : W1.cell? ⟨w.heap.size, 0, none⟩ = some (.int .i64 0) := block_cell HP.out.box rfl
          have d1 : W1.cell? ⟨w.heap.size, 1, none⟩ = some (.int .i64 0) := block_cell HP.out.box rfl
          have d2 : W1.cell? ⟨w.heap.size, 2, none⟩ = some (.int .i64 0) := block_cell HP.out.box rfl
          have d3 : W1.cell? ⟨w.heap.size, 3, none⟩ = some (.int .i64 0) := block_cell HP.out.box rfl
          have d4 : W1.cell? ⟨w.heap.size, 4, none⟩ = some (.bool false) := block_cell HP.out.box rfl
          have f0 : W1.frozen? ⟨w.heap.size, 0, none⟩ = false := block_frozen HP.out.box
          have f1 : W1.frozen? ⟨w.heap.size, 1, none⟩ = false := block_frozen HP.out.box
          have f2 : W1.frozen? ⟨w.heap.size, 2, none⟩ = false := block_frozen HP.out.box
          have f3 : W1.frozen? ⟨w.heap.size, 3, none⟩ = false := block_frozen HP.out.box
          have f4 : W1.frozen? ⟨w.heap.size, 4, none⟩ = false := block_frozen HP.out.box
          obtain rfl : j = n := by omega
          obtain ⟨q, hq⟩ : ∃ q, i + j = q := ⟨_, rfl⟩
          rw [hq] at hqI ⊢
          have HDG : Hid (numOf (digs L i) = A) := (by have h := HA.out; rw [List.take_of_length_le (by rw [HNM.out]; omega)] at h; exact h : numOf (digs L i) = A)
          have HQ := hid_of hq
          by_cases hw : N.length = 3
          · have hwB : ((N.length : Int) == 3) = true := beq_iff_eq.2 (by omega)
            have HWN : Hid ((if N.length = 3 then (93 : UInt8) else 44) = 93) := if_pos hw
            clear hw
            by_cases hql : q < L.length
            · have g9 : L[q]? = some (L[q]'hql) := List.getElem?_eq_getElem hql
              obtain ⟨b, hb9⟩ : ∃ b, L[q]'hql = b := ⟨_, rfl⟩
              rw [hb9] at g9
              obtain ⟨c, hc⟩ : ∃ c, b.toNat = c := ⟨_, rfl⟩
              have ix := idx_eq g9 hc
              have HG9 := hid_of g9
              have HC9 := hid_of hc
              have hqlI : (q : Int) < (L.length : Int) := by omega
              have hdd : j < 3 → c < 48 ∨ 57 < c := fun h => by
                have := digs_end L i (by rw [HNM.out]; exact h) b (by rw [HNM.out, hq]; exact g9)
                unfold dgB at this; simp at this; rw [hc] at this; omega
              clear g9 hb9 hc
              by_cases hj3 : j < 3
              · have h3 : (q : Int) < (i : Int) + 3 := by omega
                by_cases hlo : c < 48
                · have d9 : ¬ (48 : Int) ≤ (c : Int) := by omega
                  by_cases hcw : c = 93
                  · omega
                  · have hcb : ((c : Int) == 93) = false := beq_eq_false_iff_ne.2 (by omega)
                    have hcn : ((c : Int) != 93) = true := bne_iff_ne.2 (by omega)
                    have HV : Hid (ciV L k = .tuple #[.agg #[.int .i64 0, .int .i64 0, .int .i64 0, .int .i64 0, .bool false], .int .i64 (k : Nat)]) := ciV_none (by rw [← HRS.out, restS_step hN, HWN.out, scan_bad HNM.out (by rw [hq]; exact HG9.out) (fun e => hcw (by rw [← HC9.out, e]; rfl))])
                    by_cases hj0 : j = 0
                    · obtain rfl : q = i := by omega
                      clear hq hdd hj0 hcw a0 a1 a2 hd HNM HA HDG
                      go_wp2
                      have hst := st5_block (a := .int .i64 0) (b := .int .i64 0) (c := .int .i64 0) (d := .int .i64 0) (p := .bool false) HP.out.box
                      exact bodyPost_ret (v := .tuple #[.agg #[.int .i64 0, .int .i64 0, .int .i64 0, .int .i64 0, .bool false], .int .i64 (k : Nat)]) (res_ci hst rfl rfl) rfl ⟨by rw [HV.out], st5_below HP.out.bel⟩
                    · have hne : ((q : Int) == (i : Int)) = false := beq_eq_false_iff_ne.2 (by omega)
                      clear hq hdd hj0 hcw a0 a1 a2 hd HNM HA HDG
                      go_wp2
                      have hst := st5_block (a := .int .i64 0) (b := .int .i64 0) (c := .int .i64 0) (d := .int .i64 0) (p := .bool false) HP.out.box
                      exact bodyPost_ret (v := .tuple #[.agg #[.int .i64 0, .int .i64 0, .int .i64 0, .int .i64 0, .bool false], .int .i64 (k : Nat)]) (res_ci hst rfl rfl) rfl ⟨by rw [HV.out], st5_below HP.out.bel⟩
                · have d9 : (48 : Int) ≤ (c : Int) := by omega
                  have d8 : ¬ (c : Int) ≤ 57 := by omega
                  by_cases hcw : c = 93
                  · subst hcw
                    by_cases hj0 : j = 0
                    · obtain rfl : q = i := by omega
                      have HV : Hid (ciV L k = .tuple #[.agg #[.int .i64 0, .int .i64 0, .int .i64 0, .int .i64 0, .bool false], .int .i64 (k : Nat)]) := ciV_none (by rw [← HRS.out, restS_step hN, scan_zero (HNM.out.trans hj0)])
                      clear hq hdd hj0 a0 a1 a2 hd HNM HA HDG
                      go_wp2
                      have hst := st5_block (a := .int .i64 0) (b := .int .i64 0) (c := .int .i64 0) (d := .int .i64 0) (p := .bool false) HP.out.box
                      exact bodyPost_ret (v := .tuple #[.agg #[.int .i64 0, .int .i64 0, .int .i64 0, .int .i64 0, .bool false], .int .i64 (k : Nat)]) (res_ci hst rfl rfl) rfl ⟨by rw [HV.out], st5_below HP.out.bel⟩
                    · obtain ⟨q1, hq1⟩ : ∃ q1, q + 1 = q1 := ⟨_, rfl⟩
                      have hwr : IntKind.i64.wrap ((q : Int) + 1) = (q1 : Int) := by rw [IntWalk.i64_in _ (by omega)]; omega
                      have hne : ((q : Int) == (i : Int)) = false := beq_eq_false_iff_ne.2 (by omega)
                      have HRS2 : Hid (restS true (4 - (N ++ [A]).length) (N ++ [A]) (L.drop q1) = crossS (L.drop k)) := (by rw [← HRS.out, restS_step hN, HWN.out, scan_ok HNM.out hj0 (by rw [hq]; exact HG9.out.trans (congrArg some (u8_eq HC9.out))), HDG.out, hq, hq1] : restS true (4 - (N ++ [A]).length) (N ++ [A]) (L.drop q1) = crossS (L.drop k))
                      have hqq : q1 ≤ L.length ∧ i < q1 := by omega
                      clear hq hq1 hdd hj0 a0 a1 a2 hd HNM HA HDG
                      go_wp2_with (at_builtin; refine wpList_append_own _ rfl _ _ 28 rfl (w.heap.size + 1) 3 i2 (.int .i64 0) 1 8 Tryd.underlying28 hk2 hx0 hx1 hx2 rfl (by decide) _ _ _ rfl (HP.out.row.alloc _) ⟨W1.heap.size, 0, none⟩ 1 1 [.int .i64 (A : Nat)] rfl rfl (new_cell1 _ _ _) (one_int _) (by unfold maxLen; omega) (by omega) (by simp; omega) ?_; intro v8 w8 hown8 hg8 _; obtain ⟨a8, c8, rfl⟩ := own_capS hown8; have HP8 : Hid (CiAt w (N ++ [A]) (.slice a8 (N.length + 1) c8) w8) := HP.out.push hown8 hg8; clear hown8 hg8)
                      go_roundw
                      case rel => exact ⟨q1, N ++ [A], a8, c8, hqq.1, by simp; omega, by rfl, by simp, HRS2, by simpa using HP8⟩
                      case measure => simp only [intOf]; omega
                  · have hcb : ((c : Int) == 93) = false := beq_eq_false_iff_ne.2 (by omega)
                    have hcn : ((c : Int) != 93) = true := bne_iff_ne.2 (by omega)
                    have HV : Hid (ciV L k = .tuple #[.agg #[.int .i64 0, .int .i64 0, .int .i64 0, .int .i64 0, .bool false], .int .i64 (k : Nat)]) := ciV_none (by rw [← HRS.out, restS_step hN, HWN.out, scan_bad HNM.out (by rw [hq]; exact HG9.out) (fun e => hcw (by rw [← HC9.out, e]; rfl))])
                    by_cases hj0 : j = 0
                    · obtain rfl : q = i := by omega
                      clear hq hdd hj0 hcw a0 a1 a2 hd HNM HA HDG
                      go_wp2
                      have hst := st5_block (a := .int .i64 0) (b := .int .i64 0) (c := .int .i64 0) (d := .int .i64 0) (p := .bool false) HP.out.box
                      exact bodyPost_ret (v := .tuple #[.agg #[.int .i64 0, .int .i64 0, .int .i64 0, .int .i64 0, .bool false], .int .i64 (k : Nat)]) (res_ci hst rfl rfl) rfl ⟨by rw [HV.out], st5_below HP.out.bel⟩
                    · have hne : ((q : Int) == (i : Int)) = false := beq_eq_false_iff_ne.2 (by omega)
                      clear hq hdd hj0 hcw a0 a1 a2 hd HNM HA HDG
                      go_wp2
                      have hst := st5_block (a := .int .i64 0) (b := .int .i64 0) (c := .int .i64 0) (d := .int .i64 0) (p := .bool false) HP.out.box
                      exact bodyPost_ret (v := .tuple #[.agg #[.int .i64 0, .int .i64 0, .int .i64 0, .int .i64 0, .bool false], .int .i64 (k : Nat)]) (res_ci hst rfl rfl) rfl ⟨by rw [HV.out], st5_below HP.out.bel⟩
              · have h3 : ¬ (q : Int) < (i : Int) + 3 := by omega
                by_cases hcw : c = 93
                · subst hcw
                  by_cases hj0 : j = 0
                  · omega
                  · obtain ⟨q1, hq1⟩ : ∃ q1, q + 1 = q1 := ⟨_, rfl⟩
                    have hwr : IntKind.i64.wrap ((q : Int) + 1) = (q1 : Int) := by rw [IntWalk.i64_in _ (by omega)]; omega
                    have hne : ((q : Int) == (i : Int)) = false := beq_eq_false_iff_ne.2 (by omega)
                    have HRS2 : Hid (restS true (4 - (N ++ [A]).length) (N ++ [A]) (L.drop q1) = crossS (L.drop k)) := (by rw [← HRS.out, restS_step hN, HWN.out, scan_ok HNM.out hj0 (by rw [hq]; exact HG9.out.trans (congrArg some (u8_eq HC9.out))), HDG.out, hq, hq1] : restS true (4 - (N ++ [A]).length) (N ++ [A]) (L.drop q1) = crossS (L.drop k))
                    have hqq : q1 ≤ L.length ∧ i < q1 := by omega
                    clear hq hq1 hdd hj0 a0 a1 a2 hd HNM HA HDG
                    go_wp2_with (at_builtin; refine wpList_append_own _ rfl _ _ 28 rfl (w.heap.size + 1) 3 i2 (.int .i64 0) 1 8 Tryd.underlying28 hk2 hx0 hx1 hx2 rfl (by decide) _ _ _ rfl (HP.out.row.alloc _) ⟨W1.heap.size, 0, none⟩ 1 1 [.int .i64 (A : Nat)] rfl rfl (new_cell1 _ _ _) (one_int _) (by unfold maxLen; omega) (by omega) (by simp; omega) ?_; intro v8 w8 hown8 hg8 _; obtain ⟨a8, c8, rfl⟩ := own_capS hown8; have HP8 : Hid (CiAt w (N ++ [A]) (.slice a8 (N.length + 1) c8) w8) := HP.out.push hown8 hg8; clear hown8 hg8)
                    go_roundw
                    case rel => exact ⟨q1, N ++ [A], a8, c8, hqq.1, by simp; omega, by rfl, by simp, HRS2, by simpa using HP8⟩
                    case measure => simp only [intOf]; omega
                · have hcb : ((c : Int) == 93) = false := beq_eq_false_iff_ne.2 (by omega)
                  have hcn : ((c : Int) != 93) = true := bne_iff_ne.2 (by omega)
                  have HV : Hid (ciV L k = .tuple #[.agg #[.int .i64 0, .int .i64 0, .int .i64 0, .int .i64 0, .bool false], .int .i64 (k : Nat)]) := ciV_none (by rw [← HRS.out, restS_step hN, HWN.out, scan_bad HNM.out (by rw [hq]; exact HG9.out) (fun e => hcw (by rw [← HC9.out, e]; rfl))])
                  by_cases hj0 : j = 0
                  · omega
                  · have hne : ((q : Int) == (i : Int)) = false := beq_eq_false_iff_ne.2 (by omega)
                    clear hq hdd hj0 hcw a0 a1 a2 hd HNM HA HDG
                    go_wp2
                    have hst := st5_block (a := .int .i64 0) (b := .int .i64 0) (c := .int .i64 0) (d := .int .i64 0) (p := .bool false) HP.out.box
                    exact bodyPost_ret (v := .tuple #[.agg #[.int .i64 0, .int .i64 0, .int .i64 0, .int .i64 0, .bool false], .int .i64 (k : Nat)]) (res_ci hst rfl rfl) rfl ⟨by rw [HV.out], st5_below HP.out.bel⟩
            · have hqlI : ¬ (q : Int) < (L.length : Int) := by omega
              have hqlJ : (L.length : Int) ≤ (q : Int) := by omega
              have HV : Hid (ciV L k = .tuple #[.agg #[.int .i64 0, .int .i64 0, .int .i64 0, .int .i64 0, .bool false], .int .i64 (k : Nat)]) := ciV_none (by rw [← HRS.out, restS_step hN, scan_out HNM.out (by omega)])
              by_cases hj0 : j = 0
              · obtain rfl : q = i := by omega
                clear hq hj0 a0 a1 a2 hd HNM HA HDG
                go_wp2
                have hst := st5_block (a := .int .i64 0) (b := .int .i64 0) (c := .int .i64 0) (d := .int .i64 0) (p := .bool false) HP.out.box
                exact bodyPost_ret (v := .tuple #[.agg #[.int .i64 0, .int .i64 0, .int .i64 0, .int .i64 0, .bool false], .int .i64 (k : Nat)]) (res_ci hst rfl rfl) rfl ⟨by rw [HV.out], st5_below HP.out.bel⟩
              · have hne : ((q : Int) == (i : Int)) = false := beq_eq_false_iff_ne.2 (by omega)
                clear hq hj0 a0 a1 a2 hd HNM HA HDG
                go_wp2
                have hst := st5_block (a := .int .i64 0) (b := .int .i64 0) (c := .int .i64 0) (d := .int .i64 0) (p := .bool false) HP.out.box
                exact bodyPost_ret (v := .tuple #[.agg #[.int .i64 0, .int .i64 0, .int .i64 0, .int .i64 0, .bool false], .int .i64 (k : Nat)]) (res_ci hst rfl rfl) rfl ⟨by rw [HV.out], st5_below HP.out.bel⟩
          · have hwB : ((N.length : Int) == 3) = false := beq_eq_false_iff_ne.2 (by omega)
            have HWN : Hid ((if N.length = 3 then (93 : UInt8) else 44) = 44) := if_neg hw
            clear hw
            by_cases hql : q < L.length
            · have g9 : L[q]? = some (L[q]'hql) := List.getElem?_eq_getElem hql
              obtain ⟨b, hb9⟩ : ∃ b, L[q]'hql = b := ⟨_, rfl⟩
              rw [hb9] at g9
              obtain ⟨c, hc⟩ : ∃ c, b.toNat = c := ⟨_, rfl⟩
              have ix := idx_eq g9 hc
              have HG9 := hid_of g9
              have HC9 := hid_of hc
              have hqlI : (q : Int) < (L.length : Int) := by omega
              have hdd : j < 3 → c < 48 ∨ 57 < c := fun h => by
                have := digs_end L i (by rw [HNM.out]; exact h) b (by rw [HNM.out, hq]; exact g9)
                unfold dgB at this; simp at this; rw [hc] at this; omega
              clear g9 hb9 hc
              by_cases hj3 : j < 3
              · have h3 : (q : Int) < (i : Int) + 3 := by omega
                by_cases hlo : c < 48
                · have d9 : ¬ (48 : Int) ≤ (c : Int) := by omega
                  by_cases hcw : c = 44
                  · subst hcw
                    by_cases hj0 : j = 0
                    · obtain rfl : q = i := by omega
                      have HV : Hid (ciV L k = .tuple #[.agg #[.int .i64 0, .int .i64 0, .int .i64 0, .int .i64 0, .bool false], .int .i64 (k : Nat)]) := ciV_none (by rw [← HRS.out, restS_step hN, scan_zero (HNM.out.trans hj0)])
                      clear hq hdd hj0 a0 a1 a2 hd HNM HA HDG
                      go_wp2
                      have hst := st5_block (a := .int .i64 0) (b := .int .i64 0) (c := .int .i64 0) (d := .int .i64 0) (p := .bool false) HP.out.box
                      exact bodyPost_ret (v := .tuple #[.agg #[.int .i64 0, .int .i64 0, .int .i64 0, .int .i64 0, .bool false], .int .i64 (k : Nat)]) (res_ci hst rfl rfl) rfl ⟨by rw [HV.out], st5_below HP.out.bel⟩
                    · obtain ⟨q1, hq1⟩ : ∃ q1, q + 1 = q1 := ⟨_, rfl⟩
                      have hwr : IntKind.i64.wrap ((q : Int) + 1) = (q1 : Int) := by rw [IntWalk.i64_in _ (by omega)]; omega
                      have hne : ((q : Int) == (i : Int)) = false := beq_eq_false_iff_ne.2 (by omega)
                      have HRS2 : Hid (restS true (4 - (N ++ [A]).length) (N ++ [A]) (L.drop q1) = crossS (L.drop k)) := (by rw [← HRS.out, restS_step hN, HWN.out, scan_ok HNM.out hj0 (by rw [hq]; exact HG9.out.trans (congrArg some (u8_eq HC9.out))), HDG.out, hq, hq1] : restS true (4 - (N ++ [A]).length) (N ++ [A]) (L.drop q1) = crossS (L.drop k))
                      have hqq : q1 ≤ L.length ∧ i < q1 := by omega
                      clear hq hq1 hdd hj0 a0 a1 a2 hd HNM HA HDG
                      go_wp2_with (at_builtin; refine wpList_append_own _ rfl _ _ 28 rfl (w.heap.size + 1) 3 i2 (.int .i64 0) 1 8 Tryd.underlying28 hk2 hx0 hx1 hx2 rfl (by decide) _ _ _ rfl (HP.out.row.alloc _) ⟨W1.heap.size, 0, none⟩ 1 1 [.int .i64 (A : Nat)] rfl rfl (new_cell1 _ _ _) (one_int _) (by unfold maxLen; omega) (by omega) (by simp; omega) ?_; intro v8 w8 hown8 hg8 _; obtain ⟨a8, c8, rfl⟩ := own_capS hown8; have HP8 : Hid (CiAt w (N ++ [A]) (.slice a8 (N.length + 1) c8) w8) := HP.out.push hown8 hg8; clear hown8 hg8)
                      go_roundw
                      case rel => exact ⟨q1, N ++ [A], a8, c8, hqq.1, by simp; omega, by rfl, by simp, HRS2, by simpa using HP8⟩
                      case measure => simp only [intOf]; omega
                  · have hcb : ((c : Int) == 44) = false := beq_eq_false_iff_ne.2 (by omega)
                    have hcn : ((c : Int) != 44) = true := bne_iff_ne.2 (by omega)
                    have HV : Hid (ciV L k = .tuple #[.agg #[.int .i64 0, .int .i64 0, .int .i64 0, .int .i64 0, .bool false], .int .i64 (k : Nat)]) := ciV_none (by rw [← HRS.out, restS_step hN, HWN.out, scan_bad HNM.out (by rw [hq]; exact HG9.out) (fun e => hcw (by rw [← HC9.out, e]; rfl))])
                    by_cases hj0 : j = 0
                    · obtain rfl : q = i := by omega
                      clear hq hdd hj0 hcw a0 a1 a2 hd HNM HA HDG
                      go_wp2
                      have hst := st5_block (a := .int .i64 0) (b := .int .i64 0) (c := .int .i64 0) (d := .int .i64 0) (p := .bool false) HP.out.box
                      exact bodyPost_ret (v := .tuple #[.agg #[.int .i64 0, .int .i64 0, .int .i64 0, .int .i64 0, .bool false], .int .i64 (k : Nat)]) (res_ci hst rfl rfl) rfl ⟨by rw [HV.out], st5_below HP.out.bel⟩
                    · have hne : ((q : Int) == (i : Int)) = false := beq_eq_false_iff_ne.2 (by omega)
                      clear hq hdd hj0 hcw a0 a1 a2 hd HNM HA HDG
                      go_wp2
                      have hst := st5_block (a := .int .i64 0) (b := .int .i64 0) (c := .int .i64 0) (d := .int .i64 0) (p := .bool false) HP.out.box
                      exact bodyPost_ret (v := .tuple #[.agg #[.int .i64 0, .int .i64 0, .int .i64 0, .int .i64 0, .bool false], .int .i64 (k : Nat)]) (res_ci hst rfl rfl) rfl ⟨by rw [HV.out], st5_below HP.out.bel⟩
                · have d9 : (48 : Int) ≤ (c : Int) := by omega
                  have d8 : ¬ (c : Int) ≤ 57 := by omega
                  by_cases hcw : c = 44
                  · omega
                  · have hcb : ((c : Int) == 44) = false := beq_eq_false_iff_ne.2 (by omega)
                    have hcn : ((c : Int) != 44) = true := bne_iff_ne.2 (by omega)
                    have HV : Hid (ciV L k = .tuple #[.agg #[.int .i64 0, .int .i64 0, .int .i64 0, .int .i64 0, .bool false], .int .i64 (k : Nat)]) := ciV_none (by rw [← HRS.out, restS_step hN, HWN.out, scan_bad HNM.out (by rw [hq]; exact HG9.out) (fun e => hcw (by rw [← HC9.out, e]; rfl))])
                    by_cases hj0 : j = 0
                    · obtain rfl : q = i := by omega
                      clear hq hdd hj0 hcw a0 a1 a2 hd HNM HA HDG
                      go_wp2
                      have hst := st5_block (a := .int .i64 0) (b := .int .i64 0) (c := .int .i64 0) (d := .int .i64 0) (p := .bool false) HP.out.box
                      exact bodyPost_ret (v := .tuple #[.agg #[.int .i64 0, .int .i64 0, .int .i64 0, .int .i64 0, .bool false], .int .i64 (k : Nat)]) (res_ci hst rfl rfl) rfl ⟨by rw [HV.out], st5_below HP.out.bel⟩
                    · have hne : ((q : Int) == (i : Int)) = false := beq_eq_false_iff_ne.2 (by omega)
                      clear hq hdd hj0 hcw a0 a1 a2 hd HNM HA HDG
                      go_wp2
                      have hst := st5_block (a := .int .i64 0) (b := .int .i64 0) (c := .int .i64 0) (d := .int .i64 0) (p := .bool false) HP.out.box
                      exact bodyPost_ret (v := .tuple #[.agg #[.int .i64 0, .int .i64 0, .int .i64 0, .int .i64 0, .bool false], .int .i64 (k : Nat)]) (res_ci hst rfl rfl) rfl ⟨by rw [HV.out], st5_below HP.out.bel⟩
              · have h3 : ¬ (q : Int) < (i : Int) + 3 := by omega
                by_cases hcw : c = 44
                · subst hcw
                  by_cases hj0 : j = 0
                  · omega
                  · obtain ⟨q1, hq1⟩ : ∃ q1, q + 1 = q1 := ⟨_, rfl⟩
                    have hwr : IntKind.i64.wrap ((q : Int) + 1) = (q1 : Int) := by rw [IntWalk.i64_in _ (by omega)]; omega
                    have hne : ((q : Int) == (i : Int)) = false := beq_eq_false_iff_ne.2 (by omega)
                    have HRS2 : Hid (restS true (4 - (N ++ [A]).length) (N ++ [A]) (L.drop q1) = crossS (L.drop k)) := (by rw [← HRS.out, restS_step hN, HWN.out, scan_ok HNM.out hj0 (by rw [hq]; exact HG9.out.trans (congrArg some (u8_eq HC9.out))), HDG.out, hq, hq1] : restS true (4 - (N ++ [A]).length) (N ++ [A]) (L.drop q1) = crossS (L.drop k))
                    have hqq : q1 ≤ L.length ∧ i < q1 := by omega
                    clear hq hq1 hdd hj0 a0 a1 a2 hd HNM HA HDG
                    go_wp2_with (at_builtin; refine wpList_append_own _ rfl _ _ 28 rfl (w.heap.size + 1) 3 i2 (.int .i64 0) 1 8 Tryd.underlying28 hk2 hx0 hx1 hx2 rfl (by decide) _ _ _ rfl (HP.out.row.alloc _) ⟨W1.heap.size, 0, none⟩ 1 1 [.int .i64 (A : Nat)] rfl rfl (new_cell1 _ _ _) (one_int _) (by unfold maxLen; omega) (by omega) (by simp; omega) ?_; intro v8 w8 hown8 hg8 _; obtain ⟨a8, c8, rfl⟩ := own_capS hown8; have HP8 : Hid (CiAt w (N ++ [A]) (.slice a8 (N.length + 1) c8) w8) := HP.out.push hown8 hg8; clear hown8 hg8)
                    go_roundw
                    case rel => exact ⟨q1, N ++ [A], a8, c8, hqq.1, by simp; omega, by rfl, by simp, HRS2, by simpa using HP8⟩
                    case measure => simp only [intOf]; omega
                · have hcb : ((c : Int) == 44) = false := beq_eq_false_iff_ne.2 (by omega)
                  have hcn : ((c : Int) != 44) = true := bne_iff_ne.2 (by omega)
                  have HV : Hid (ciV L k = .tuple #[.agg #[.int .i64 0, .int .i64 0, .int .i64 0, .int .i64 0, .bool false], .int .i64 (k : Nat)]) := ciV_none (by rw [← HRS.out, restS_step hN, HWN.out, scan_bad HNM.out (by rw [hq]; exact HG9.out) (fun e => hcw (by rw [← HC9.out, e]; rfl))])
                  by_cases hj0 : j = 0
                  · omega
                  · have hne : ((q : Int) == (i : Int)) = false := beq_eq_false_iff_ne.2 (by omega)
                    clear hq hdd hj0 hcw a0 a1 a2 hd HNM HA HDG
                    go_wp2
                    have hst := st5_block (a := .int .i64 0) (b := .int .i64 0) (c := .int .i64 0) (d := .int .i64 0) (p := .bool false) HP.out.box
                    exact bodyPost_ret (v := .tuple #[.agg #[.int .i64 0, .int .i64 0, .int .i64 0, .int .i64 0, .bool false], .int .i64 (k : Nat)]) (res_ci hst rfl rfl) rfl ⟨by rw [HV.out], st5_below HP.out.bel⟩
            · have hqlI : ¬ (q : Int) < (L.length : Int) := by omega
              have hqlJ : (L.length : Int) ≤ (q : Int) := by omega
              have HV : Hid (ciV L k = .tuple #[.agg #[.int .i64 0, .int .i64 0, .int .i64 0, .int .i64 0, .bool false], .int .i64 (k : Nat)]) := ciV_none (by rw [← HRS.out, restS_step hN, scan_out HNM.out (by omega)])
              by_cases hj0 : j = 0
              · obtain rfl : q = i := by omega
                clear hq hj0 a0 a1 a2 hd HNM HA HDG
                go_wp2
                have hst := st5_block (a := .int .i64 0) (b := .int .i64 0) (c := .int .i64 0) (d := .int .i64 0) (p := .bool false) HP.out.box
                exact bodyPost_ret (v := .tuple #[.agg #[.int .i64 0, .int .i64 0, .int .i64 0, .int .i64 0, .bool false], .int .i64 (k : Nat)]) (res_ci hst rfl rfl) rfl ⟨by rw [HV.out], st5_below HP.out.bel⟩
              · have hne : ((q : Int) == (i : Int)) = false := beq_eq_false_iff_ne.2 (by omega)
                clear hq hj0 a0 a1 a2 hd HNM HA HDG
                go_wp2
                have hst := st5_block (a := .int .i64 0) (b := .int .i64 0) (c := .int .i64 0) (d := .int .i64 0) (p := .bool false) HP.out.box
                exact bodyPost_ret (v := .tuple #[.agg #[.int .i64 0, .int .i64 0, .int .i64 0, .int .i64 0, .bool false], .int .i64 (k : Nat)]) (res_ci hst rfl rfl) rfl ⟨by rw [HV.out], st5_below HP.out.bel⟩
    · obtain ⟨x0, x1, x2, x3, rfl⟩ := len4 (l := N) (by omega)
      obtain ⟨g, c9, hv9, hg9, hgl⟩ := own_block HP.out.row (by simp)
      obtain ⟨rfl, rfl⟩ : a7 = some ⟨g, 0, none⟩ ∧ c7 = c9 := by injection hv9 with e1 e2 e3; exact ⟨e1, e3⟩
      have HV : Hid (ciV L k = .tuple #[.agg #[.int .i64 (x0 : Nat), .int .i64 (x1 : Nat), .int .i64 (x2 : Nat), .int .i64 (x3 : Nat), .bool true], .int .i64 (i : Nat)]) := by
        have h := HRS.out
        have h2 : restS true (4 - [x0, x1, x2, x3].length) [x0, x1, x2, x3] (L.drop i) = some (⟨x0, x1, x2, x3, true⟩, L.drop i) := rfl
        rw [h2] at h
        have h3 : ((L.length - (L.drop i).length : Nat) : Int) = (i : Int) := by rw [List.length_drop]; omega
        refine (?_ : ciV L k = _)
        unfold ciV
        rw [← h]
        simp only
        rw [h3]
      have r0 : W1.cell? ⟨g, 0, none⟩ = some (.int .i64 (x0 : Nat)) := (HP.out.row.cellAt 0 (by simp)).trans rfl
      have r1 : W1.cell? ⟨g, 1, none⟩ = some (.int .i64 (x1 : Nat)) := (HP.out.row.cellAt 1 (by simp)).trans rfl
      have r2 : W1.cell? ⟨g, 2, none⟩ = some (.int .i64 (x2 : Nat)) := (HP.out.row.cellAt 2 (by simp)).trans rfl
      have r3 : W1.cell? ⟨g, 3, none⟩ = some (.int .i64 (x3 : Nat)) := (HP.out.row.cellAt 3 (by simp)).trans rfl
      have hSW : (fun Y : World => Y.cell? ⟨g, 0, none⟩ = some (.int .i64 (x0 : Nat)) ∧ Y.cell? ⟨g, 1, none⟩ = some (.int .i64 (x1 : Nat)) ∧ Y.cell? ⟨g, 2, none⟩ = some (.int .i64 (x2 : Nat)) ∧ Y.cell? ⟨g, 3, none⟩ = some (.int .i64 (x3 : Nat))) W1.drew := ⟨bcell (Below.refl _ _).drew hgl r0, bcell (Below.refl _ _).drew hgl r1, bcell (Below.refl _ _).drew hgl r2, bcell (Below.refl _ _).drew hgl r3⟩
      have HSW := hid_of hSW
      have HBD : Hid (W1.drew.heap[w.heap.size]? = some (.cells #[.int .i64 0, .int .i64 0, .int .i64 0, .int .i64 0, .bool false] 53 (0, 0))) := ((Below.refl W1.heap.size W1).drew.block _ hsW).trans HP.out.box
      have HBW : Hid (Below w.heap.size w W1.drew) := HP.out.bel.drew
      have hgd : g < W1.drew.heap.size := Nat.lt_of_lt_of_le hgl (Below.refl W1.heap.size W1).drew.size
      clear hSW
      go_upto_region 18 with (fail)
      obtain ⟨V, hV⟩ : ∃ V, V = W1.drew := ⟨_, rfl⟩
      rw [← hV] at HSW HBD HBW hgd
      have d0 : V.cell? ⟨w.heap.size, 0, none⟩ = some (.int .i64 0) := block_cell HBD.out rfl
      have f0 : V.frozen? ⟨w.heap.size, 0, none⟩ = false := block_frozen HBD.out
      have d1 : V.cell? ⟨w.heap.size, 1, none⟩ = some (.int .i64 0) := block_cell HBD.out rfl
      have f1 : V.frozen? ⟨w.heap.size, 1, none⟩ = false := block_frozen HBD.out
      have d2 : V.cell? ⟨w.heap.size, 2, none⟩ = some (.int .i64 0) := block_cell HBD.out rfl
      have f2 : V.frozen? ⟨w.heap.size, 2, none⟩ = false := block_frozen HBD.out
      have d3 : V.cell? ⟨w.heap.size, 3, none⟩ = some (.int .i64 0) := block_cell HBD.out rfl
      have f3 : V.frozen? ⟨w.heap.size, 3, none⟩ = false := block_frozen HBD.out
      have d4 : V.cell? ⟨w.heap.size, 4, none⟩ = some (.bool false) := block_cell HBD.out rfl
      have f4 : V.frozen? ⟨w.heap.size, 4, none⟩ = false := block_frozen HBD.out
      have HS2 : Hid ((fun Y : World => Y.cell? ⟨g, 0, none⟩ = some (.int .i64 (x0 : Nat)) ∧ Y.cell? ⟨g, 1, none⟩ = some (.int .i64 (x1 : Nat)) ∧ Y.cell? ⟨g, 2, none⟩ = some (.int .i64 (x2 : Nat)) ∧ Y.cell? ⟨g, 3, none⟩ = some (.int .i64 (x3 : Nat))) (st5 V w.heap.size (.int .i64 (x0 : Nat)) (.int .i64 (x1 : Nat)) (.int .i64 (x2 : Nat)) (.int .i64 (x3 : Nat)) (.bool true))) := by
        have h := HSW.out
        have e := st5_other (W := V) (g := g) (h := w.heap.size) (a := .int .i64 (x0 : Nat)) (b := .int .i64 (x1 : Nat)) (c := .int .i64 (x2 : Nat)) (d := .int .i64 (x3 : Nat)) (p := .bool true) hgd (by omega)
        exact ⟨(cell_same e).trans h.1, (cell_same e).trans h.2.1, (cell_same e).trans h.2.2.1, (cell_same e).trans h.2.2.2⟩
      refine wp_region_held_drew (S := fun Y : World => Y.cell? ⟨g, 0, none⟩ = some (.int .i64 (x0 : Nat)) ∧ Y.cell? ⟨g, 1, none⟩ = some (.int .i64 (x1 : Nat)) ∧ Y.cell? ⟨g, 2, none⟩ = some (.int .i64 (x2 : Nat)) ∧ Y.cell? ⟨g, 3, none⟩ = some (.int .i64 (x3 : Nat))) (by kernel_rfl) (by rw [← hV]; exact HSW.out) (fun hHeld => ?_)
      rw [← hV] at hHeld ⊢
      clear hV
      refine wpAnyH_take (i := 0) (v := ?vvu1) rfl (by kernel_rfl) (by kernel_rfl) (by kernel_rfl) (fun _ _ _ h => h) (Or.inl ⟨by rfl, ?yyu1⟩) (by assumption) ?rru1
      case yyu1 => (intro w hSw; (try dsimp only at hSw); go_simp; (try with_reducible rfl))
      try simp only [Act.put]
      refine wpAnyH_take (i := 1) (v := ?vvu2) rfl (by kernel_rfl) (by kernel_rfl) (by kernel_rfl) (fun _ _ _ h => h) (Or.inl ⟨by rfl, ?yyu2⟩) (by assumption) ?rru2
      case yyu2 => (intro w hSw; (try dsimp only at hSw); go_simp; (try with_reducible rfl))
      try simp only [Act.put]
      refine wpAnyH_take (i := 2) (v := ?vvu3) rfl (by kernel_rfl) (by kernel_rfl) (by kernel_rfl) (fun _ _ _ h => h) (Or.inl ⟨by rfl, ?yyu3⟩) (by assumption) ?rru3
      case yyu3 => (intro w hSw; (try dsimp only at hSw); go_simp; (try with_reducible rfl))
      try simp only [Act.put]
      refine wpAnyH_take (i := 3) (v := ?vvu4) rfl (by kernel_rfl) (by kernel_rfl) (by kernel_rfl) (fun _ _ _ h => h) (Or.inl ⟨by rfl, ?yyu4⟩) (by assumption) ?rru4
      case yyu4 => (intro w hSw; (try dsimp only at hSw); go_simp; (try with_reducible rfl))
      try simp only [Act.put]
      refine wpAnyH_take (i := 4) (v := ?vvu5) rfl (by kernel_rfl) (by kernel_rfl) (by kernel_rfl) (fun _ _ _ h => h) (Or.inl ⟨by rfl, ?yyu5⟩) (by assumption) ?rru5
      case yyu5 => (intro w hSw; (try dsimp only at hSw); go_simp; (try with_reducible rfl))
      try simp only [Act.put]
      refine wpAnyH_take (i := 5) (v := ?vvu6) rfl (by kernel_rfl) (by kernel_rfl) (by kernel_rfl) (fun _ _ _ h => h) (Or.inl ⟨by rfl, ?yyu6⟩) (by assumption) ?rru6
      case yyu6 => (intro w hSw; (try dsimp only at hSw); go_simp; (try with_reducible rfl))
      try simp only [Act.put]
      refine wpAnyH_take (i := 6) (v := ?vvu7) rfl (by kernel_rfl) (by kernel_rfl) (by kernel_rfl) (fun _ _ _ h => h) (Or.inl ⟨by rfl, ?yyu7⟩) (by assumption) ?rru7
      case yyu7 => (intro w hSw; (try dsimp only at hSw); go_simp; (try with_reducible rfl))
      try simp only [Act.put]
      refine wpAnyH_take (i := 7) (v := ?vvu8) rfl (by kernel_rfl) (by kernel_rfl) (by kernel_rfl) (fun _ _ _ h => h) (Or.inl ⟨by rfl, ?yyu8⟩) (by assumption) ?rru8
      case yyu8 => (intro w hSw; (try dsimp only at hSw); go_simp; (try with_reducible rfl))
      try simp only [Act.put]
      refine wpAnyH_take (i := 8) (v := ?vvu9) rfl (by kernel_rfl) (by kernel_rfl) (by kernel_rfl) (fun _ _ _ h => h) (Or.inl ⟨by rfl, ?yyu9⟩) (by assumption) ?rru9
      case yyu9 => (intro w hSw; (try dsimp only at hSw); go_simp; (try with_reducible rfl))
      try simp only [Act.put]
      refine wpAnyH_take (i := 9) (v := ?vvu10) rfl (by kernel_rfl) (by kernel_rfl) (by kernel_rfl) (fun _ _ _ h => h) (Or.inl ⟨by rfl, ?yyu10⟩) (by assumption) ?rru10
      case yyu10 => (intro w hSw; (try dsimp only at hSw); go_simp; (try with_reducible rfl))
      try simp only [Act.put]
      refine wpAnyH_take (i := 10) (v := ?vvu11) rfl (by kernel_rfl) (by kernel_rfl) (by kernel_rfl) (fun _ _ _ h => h) (Or.inl ⟨by rfl, ?yyu11⟩) (by assumption) ?rru11
      case yyu11 => (intro w hSw; (try dsimp only at hSw); go_simp; (try with_reducible rfl))
      try simp only [Act.put]
      refine wpAnyH_take (i := 11) (v := ?vvu12) rfl (by kernel_rfl) (by kernel_rfl) (by kernel_rfl) (fun _ _ _ h => h) (Or.inl ⟨by rfl, ?yyu12⟩) (by assumption) ?rru12
      case yyu12 => (intro w hSw; (try dsimp only at hSw); go_simp; (try with_reducible rfl))
      try simp only [Act.put]
      refine wpAnyH_take (i := 12) (v := ?vvu13) rfl (by kernel_rfl) (by kernel_rfl) (by kernel_rfl) (fun _ _ _ h => h) (Or.inl ⟨by rfl, ?yyu13⟩) (by assumption) ?rru13
      case yyu13 => (intro w hSw; (try dsimp only at hSw); go_simp; (try with_reducible rfl))
      try simp only [Act.put]
      refine wpAnyH_take (i := 13) (v := ?vvu14) rfl (by kernel_rfl) (by kernel_rfl) (by kernel_rfl) (fun _ _ _ h => h) (Or.inl ⟨by rfl, ?yyu14⟩) (by assumption) ?rru14
      case yyu14 => (intro w hSw; (try dsimp only at hSw); go_simp; (try with_reducible rfl))
      try simp only [Act.put]
      refine wpAnyH_take (i := 14) (v := ?vvu15) rfl (by kernel_rfl) (by kernel_rfl) (by kernel_rfl) (fun _ _ _ h => h) (Or.inl ⟨by rfl, ?yyu15⟩) (by assumption) ?rru15
      case yyu15 => (intro w hSw; (try dsimp only at hSw); go_simp; (try with_reducible rfl))
      try simp only [Act.put]
      refine wpAnyH_take (i := 15) (v := ?vvu16) rfl (by kernel_rfl) (by kernel_rfl) (by kernel_rfl) (fun _ _ _ h => h) (Or.inl ⟨by rfl, ?yyu16⟩) (by assumption) ?rru16
      case yyu16 => (intro w hSw; (try dsimp only at hSw); go_simp; (try with_reducible rfl))
      try simp only [Act.put]
      refine wpAnyH_take (i := 16) (v := ?vvu17) rfl (by kernel_rfl) (by kernel_rfl) (by kernel_rfl) (fun _ _ _ h => h) (Or.inl ⟨by rfl, ?yyu17⟩) (by assumption) ?rru17
      case yyu17 => (intro w hSw; (try dsimp only at hSw); go_simp; (try with_reducible rfl))
      try simp only [Act.put]
      refine wpAnyH_take (i := 17) (v := ?vvu18) rfl (by kernel_rfl) (by kernel_rfl) (by kernel_rfl) (fun _ _ _ h => h) (Or.inl ⟨by rfl, ?yyu18⟩) (by assumption) ?rru18
      case yyu18 => (intro w hSw; (try dsimp only at hSw); go_simp; (try with_reducible rfl))
      try simp only [Act.put]
      refine wpAnyH_take (i := 18) (v := ?vvu19) rfl (by kernel_rfl) (by kernel_rfl) (by kernel_rfl) (fun _ _ _ h => h) (Or.inl ⟨by rfl, ?yyu19⟩) (by assumption) ?rru19
      case yyu19 => (intro w hSw; (try dsimp only at hSw); go_simp; (try with_reducible rfl))
      try simp only [Act.put]
      refine wpAnyH_ready (rs := [19]) (by kernel_rfl) (by simp) ?_
      refine AllReadyH.cons rfl (fun K hK => ?_) AllReadyH.nil
      go_simp
      refine hK.out _ _ HS2.out (fun hHeld => ?_)
      clear hK K
      try simp only [Act.put]
      refine wpAnyH_take (i := 20) (v := ?vvu20) rfl (by kernel_rfl) (by kernel_rfl) (by kernel_rfl) (fun _ _ _ h => h) (Or.inl ⟨by rfl, ?yyu20⟩) (by assumption) ?rru20
      case yyu20 => (intro w hSw; (try dsimp only at hSw); go_simp; (try with_reducible rfl))
      try simp only [Act.put]
      refine wpAnyH_done (by kernel_rfl) ?_ _
      try simp only [Act.put]
      clear hHeld
      go_wp2
      have hst := st5_block (a := .int .i64 (x0 : Nat)) (b := .int .i64 (x1 : Nat)) (c := .int .i64 (x2 : Nat)) (d := .int .i64 (x3 : Nat)) (p := .bool true) HBD.out
      exact bodyPost_ret (v := .tuple #[.agg #[.int .i64 (x0 : Nat), .int .i64 (x1 : Nat), .int .i64 (x2 : Nat), .int .i64 (x3 : Nat), .bool true], .int .i64 (i : Nat)]) (res_ci hst rfl rfl) rfl ⟨by rw [HV.out], st5_below HBW.out⟩

set_option maxHeartbeats 16000000 in
set_option maxRecDepth 100000 in
theorem crossIn_false (L : List UInt8) (k : Nat) (w : World) (hL : L.length ≤ 10000) (hk3 : k + 3 ≤ L.length) (g0 : L[k]? = some 88) (g1 : L[k + 1]? = some 45) (g2 : L[k + 2]? = some 91) (hR0 : restS false 4 [] (L.drop (k + 3)) = crossS (L.drop k)) :
    Calls Tryd.prog 25 #[.string ⟨L.toArray⟩, .int .i64 (k : Nat)] w fun e w' => e = .returned (ciV L k) ∧ Below w.heap.size w w' := by
  have hz : (⟨L.toArray⟩ : ByteArray).size = L.length := arr_size L
  obtain ⟨i2, hk2, hx0, hx1, hx2⟩ := info_parts infoI
  obtain ⟨k1, hk1⟩ : ∃ k1, k + 1 = k1 := ⟨_, rfl⟩
  obtain ⟨k2, hkk⟩ : ∃ k2, k + 2 = k2 := ⟨_, rfl⟩
  obtain ⟨k3, hk33⟩ : ∃ k3, k + 3 = k3 := ⟨_, rfl⟩
  have w1 : IntKind.i64.wrap ((k : Int) + 3) = (k3 : Int) := by rw [IntWalk.i64_in _ (by omega)]; omega
  have w2 : IntKind.i64.wrap ((k : Int) + 1) = (k1 : Int) := by rw [IntWalk.i64_in _ (by omega)]; omega
  have w3 : IntKind.i64.wrap ((k : Int) + 2) = (k2 : Int) := by rw [IntWalk.i64_in _ (by omega)]; omega
  have hI : ¬ (L.length : Int) < (k3 : Int) := by omega
  rw [hk1] at g1
  rw [hkk] at g2
  rw [hk33] at hk3 hR0
  have HK3 := hid_of hk33
  have i0 := idx_eq (n := 88) g0 rfl
  have i1 := idx_eq (n := 45) g1 rfl
  have i2' := idx_eq (n := 91) g2 rfl
  have HR0 := hid_of hR0
  have HI0 : Hid (CiAt w [] (.slice none 0 0) (w.alloc (.cells #[.int .i64 0, .int .i64 0, .int .i64 0, .int .i64 0, .bool false] 53))) := ⟨alloc_at rfl, World.ownsRow_nil _ _ _ _, (Below.refl _ _).alloc (Nat.le_refl _) _⟩
  clear g0 g1 g2 hR0 hk1 hkk hk33
  go_enter Tryd.func25, Tryd.ntmps25
  go_wp2
  go_loopw [6, 7] (fun v6 v7 wr => ∃ (i : Nat) (N : List Nat) (a7 : Option Addr) (c7 : Nat), i ≤ L.length ∧ N.length ≤ 4 ∧ v6 = .int .i64 (i : Nat) ∧ v7 = .slice a7 N.length c7 ∧ Hid (restS false (4 - N.length) N (L.drop i) = crossS (L.drop k)) ∧ Hid (CiAt w N (.slice a7 N.length c7) wr)) (fun v6 _ _ => L.length - (intOf v6).toNat)
  case atStart => exact ⟨k3, [], none, 0, hk3, by simp, rfl, rfl, HR0, HI0⟩
  case round =>
    clear HI0 HR0
    rename World => W1
    obtain ⟨i, N, a7, c7, hiL, hN4, rfl, rfl, HRS, HP⟩ := hrel
    have hsW := (Array.getElem?_eq_some_iff.1 HP.out.box).1
    by_cases hN : N.length < 4
    · have hNI : (N.length : Int) < 4 := by omega
      obtain ⟨n, hn⟩ : ∃ n, (digs L i).length = n := ⟨_, rfl⟩
      have hd := digs_len L i
      rw [hn] at hd
      have HNM := hid_of hn
      clear hn
      go_wp2
      go_loopw [6, 8] (fun v6 v8 wr => ∃ j A : Nat, j ≤ n ∧ v6 = .int .i64 ((i + j : Nat)) ∧ v8 = .int .i64 (A : Nat) ∧ (j = 0 → A = 0) ∧ (j ≤ 1 → A ≤ 9) ∧ (j ≤ 2 → A ≤ 99) ∧ A ≤ 999 ∧ Hid (numOf ((digs L i).take j) = A) ∧ W1 = wr) (fun v6 _ _ => i + n - (intOf v6).toNat)
      case atStart => exact ⟨0, 0, Nat.zero_le _, rfl, rfl, fun _ => rfl, fun _ => by omega, fun _ => by omega, by omega, rfl, rfl⟩
      case round =>
        obtain ⟨j, A, hj, rfl, rfl, a0, a1, a2, a3, HA, rfl⟩ := hrel
        have e33 : IntKind.i64.wrap ((i : Int) + 3) = (i : Int) + 3 := IntWalk.i64_in _ (by omega)
        have hqI : i + j ≤ 10003 := by omega
        by_cases hjn : j < n
        · obtain ⟨b, hb, hdg, hdj⟩ := digs_at L i j (by rw [HNM.out]; exact hjn)
          obtain ⟨q, hq⟩ : ∃ q, i + j = q := ⟨_, rfl⟩
          obtain ⟨q1, hq1⟩ : ∃ q1, q + 1 = q1 := ⟨_, rfl⟩
          rw [hq] at hqI ⊢
          rw [hq] at hb
          obtain ⟨c, hc⟩ : ∃ c, b.toNat = c := ⟨_, rfl⟩
          have ix := idx_eq hb hc
          have hcc : 48 ≤ c ∧ c ≤ 57 := by unfold dgB at hdg; simp at hdg; rw [hc] at hdg; exact hdg
          have HNW : Hid (numOf ((digs L i).take (j + 1)) = 10 * A + (c - 48)) := (by rw [take_snoc hdj, numOf_snoc, HA.out, hc] : numOf ((digs L i).take (j + 1)) = 10 * A + (c - 48))
          have hqlI : (q : Int) < (L.length : Int) := by omega
          have h3 : (q : Int) < (i : Int) + 3 := by omega
          have d9 : (48 : Int) ≤ (c : Int) := by omega
          have d8 : (c : Int) ≤ 57 := by omega
          have e1 : IntKind.i64.wrap (10 * (A : Int)) = 10 * (A : Int) := IntWalk.i64_in _ (by omega)
          have e2 : IntKind.u8.wrap ((c : Int) - 48) = (c : Int) - 48 := by simp [IntKind.wrap, IntKind.signed, IntKind.bits]; omega
          have e3 : IntKind.i64.wrap ((c : Int) - 48) = (c : Int) - 48 := IntWalk.i64_in _ (by omega)
          have e4 : IntKind.i64.wrap (10 * (A : Int) + ((c : Int) - 48)) = ((10 * A + (c - 48) : Nat) : Int) := by rw [IntWalk.i64_in _ (by omega)]; omega
          have hwr : IntKind.i64.wrap ((q : Int) + 1) = (q1 : Int) := by rw [IntWalk.i64_in _ (by omega)]; omega
          have hJ : ∀ B : Nat, B = 10 * A + (c - 48) → ((j + 1 = 0 → B = 0) ∧ (j + 1 ≤ 1 → B ≤ 9) ∧ (j + 1 ≤ 2 → B ≤ 99) ∧ B ≤ 999) := fun B hB => by omega
          have HQ0 : Hid (i + j = q) := hq
          have HQ1 : Hid (i + (j + 1) = q1) := (by omega : i + (j + 1) = q1)
          clear hq hq1 hb hdg hdj hc
          go_wp2
          go_roundw
          case rel => exact ⟨j + 1, 10 * A + (c - 48), by omega, by rw [HQ1.out], by rfl, (hJ _ rfl).1, (hJ _ rfl).2.1, (hJ _ rfl).2.2.1, (hJ _ rfl).2.2.2, HNW, by first | trivial | rfl⟩
          case measure => have := HQ1.out; have := HQ0.out; simp only [intOf]; omega
        · have d0 : W1.cell? ⟨w.heap.size, 0, none⟩ = some (.int .i64 0) := block_cell HP.out.box rfl
          have d1 : W1.cell? ⟨w.heap.size, 1, none⟩ = some (.int .i64 0) := block_cell HP.out.box rfl
          have d2 : W1.cell? ⟨w.heap.size, 2, none⟩ = some (.int .i64 0) := block_cell HP.out.box rfl
          have d3 : W1.cell? ⟨w.heap.size, 3, none⟩ = some (.int .i64 0) := block_cell HP.out.box rfl
          have d4 : W1.cell? ⟨w.heap.size, 4, none⟩ = some (.bool false) := block_cell HP.out.box rfl
          have f0 : W1.frozen? ⟨w.heap.size, 0, none⟩ = false := block_frozen HP.out.box
          have f1 : W1.frozen? ⟨w.heap.size, 1, none⟩ = false := block_frozen HP.out.box
          have f2 : W1.frozen? ⟨w.heap.size, 2, none⟩ = false := block_frozen HP.out.box
          have f3 : W1.frozen? ⟨w.heap.size, 3, none⟩ = false := block_frozen HP.out.box
          have f4 : W1.frozen? ⟨w.heap.size, 4, none⟩ = false := block_frozen HP.out.box
          obtain rfl : j = n := by omega
          obtain ⟨q, hq⟩ : ∃ q, i + j = q := ⟨_, rfl⟩
          rw [hq] at hqI ⊢
          have HDG : Hid (numOf (digs L i) = A) := (by have h := HA.out; rw [List.take_of_length_le (by rw [HNM.out]; omega)] at h; exact h : numOf (digs L i) = A)
          have HQ := hid_of hq
          by_cases hw : N.length = 3
          · have hwB : ((N.length : Int) == 3) = true := beq_iff_eq.2 (by omega)
            have HWN : Hid ((if N.length = 3 then (93 : UInt8) else 44) = 93) := if_pos hw
            clear hw
            by_cases hql : q < L.length
            · have g9 : L[q]? = some (L[q]'hql) := List.getElem?_eq_getElem hql
              obtain ⟨b, hb9⟩ : ∃ b, L[q]'hql = b := ⟨_, rfl⟩
              rw [hb9] at g9
              obtain ⟨c, hc⟩ : ∃ c, b.toNat = c := ⟨_, rfl⟩
              have ix := idx_eq g9 hc
              have HG9 := hid_of g9
              have HC9 := hid_of hc
              have hqlI : (q : Int) < (L.length : Int) := by omega
              have hdd : j < 3 → c < 48 ∨ 57 < c := fun h => by
                have := digs_end L i (by rw [HNM.out]; exact h) b (by rw [HNM.out, hq]; exact g9)
                unfold dgB at this; simp at this; rw [hc] at this; omega
              clear g9 hb9 hc
              by_cases hj3 : j < 3
              · have h3 : (q : Int) < (i : Int) + 3 := by omega
                by_cases hlo : c < 48
                · have d9 : ¬ (48 : Int) ≤ (c : Int) := by omega
                  by_cases hcw : c = 93
                  · omega
                  · have hcb : ((c : Int) == 93) = false := beq_eq_false_iff_ne.2 (by omega)
                    have hcn : ((c : Int) != 93) = true := bne_iff_ne.2 (by omega)
                    have HV : Hid (ciV L k = .tuple #[.agg #[.int .i64 0, .int .i64 0, .int .i64 0, .int .i64 0, .bool false], .int .i64 (k : Nat)]) := ciV_none (by rw [← HRS.out, restS_step hN, HWN.out, scan_bad HNM.out (by rw [hq]; exact HG9.out) (fun e => hcw (by rw [← HC9.out, e]; rfl))])
                    by_cases hj0 : j = 0
                    · obtain rfl : q = i := by omega
                      clear hq hdd hj0 hcw a0 a1 a2 hd HNM HA HDG
                      go_wp2
                      have hst := st5_block (a := .int .i64 0) (b := .int .i64 0) (c := .int .i64 0) (d := .int .i64 0) (p := .bool false) HP.out.box
                      exact bodyPost_ret (v := .tuple #[.agg #[.int .i64 0, .int .i64 0, .int .i64 0, .int .i64 0, .bool false], .int .i64 (k : Nat)]) (res_ci hst rfl rfl) rfl ⟨by rw [HV.out], st5_below HP.out.bel⟩
                    · have hne : ((q : Int) == (i : Int)) = false := beq_eq_false_iff_ne.2 (by omega)
                      clear hq hdd hj0 hcw a0 a1 a2 hd HNM HA HDG
                      go_wp2
                      have hst := st5_block (a := .int .i64 0) (b := .int .i64 0) (c := .int .i64 0) (d := .int .i64 0) (p := .bool false) HP.out.box
                      exact bodyPost_ret (v := .tuple #[.agg #[.int .i64 0, .int .i64 0, .int .i64 0, .int .i64 0, .bool false], .int .i64 (k : Nat)]) (res_ci hst rfl rfl) rfl ⟨by rw [HV.out], st5_below HP.out.bel⟩
                · have d9 : (48 : Int) ≤ (c : Int) := by omega
                  have d8 : ¬ (c : Int) ≤ 57 := by omega
                  by_cases hcw : c = 93
                  · subst hcw
                    by_cases hj0 : j = 0
                    · obtain rfl : q = i := by omega
                      have HV : Hid (ciV L k = .tuple #[.agg #[.int .i64 0, .int .i64 0, .int .i64 0, .int .i64 0, .bool false], .int .i64 (k : Nat)]) := ciV_none (by rw [← HRS.out, restS_step hN, scan_zero (HNM.out.trans hj0)])
                      clear hq hdd hj0 a0 a1 a2 hd HNM HA HDG
                      go_wp2
                      have hst := st5_block (a := .int .i64 0) (b := .int .i64 0) (c := .int .i64 0) (d := .int .i64 0) (p := .bool false) HP.out.box
                      exact bodyPost_ret (v := .tuple #[.agg #[.int .i64 0, .int .i64 0, .int .i64 0, .int .i64 0, .bool false], .int .i64 (k : Nat)]) (res_ci hst rfl rfl) rfl ⟨by rw [HV.out], st5_below HP.out.bel⟩
                    · obtain ⟨q1, hq1⟩ : ∃ q1, q + 1 = q1 := ⟨_, rfl⟩
                      have hwr : IntKind.i64.wrap ((q : Int) + 1) = (q1 : Int) := by rw [IntWalk.i64_in _ (by omega)]; omega
                      have hne : ((q : Int) == (i : Int)) = false := beq_eq_false_iff_ne.2 (by omega)
                      have HRS2 : Hid (restS false (4 - (N ++ [A]).length) (N ++ [A]) (L.drop q1) = crossS (L.drop k)) := (by rw [← HRS.out, restS_step hN, HWN.out, scan_ok HNM.out hj0 (by rw [hq]; exact HG9.out.trans (congrArg some (u8_eq HC9.out))), HDG.out, hq, hq1] : restS false (4 - (N ++ [A]).length) (N ++ [A]) (L.drop q1) = crossS (L.drop k))
                      have hqq : q1 ≤ L.length ∧ i < q1 := by omega
                      clear hq hq1 hdd hj0 a0 a1 a2 hd HNM HA HDG
                      go_wp2_with (at_builtin; refine wpList_append_own _ rfl _ _ 28 rfl (w.heap.size + 1) 3 i2 (.int .i64 0) 1 8 Tryd.underlying28 hk2 hx0 hx1 hx2 rfl (by decide) _ _ _ rfl (HP.out.row.alloc _) ⟨W1.heap.size, 0, none⟩ 1 1 [.int .i64 (A : Nat)] rfl rfl (new_cell1 _ _ _) (one_int _) (by unfold maxLen; omega) (by omega) (by simp; omega) ?_; intro v8 w8 hown8 hg8 _; obtain ⟨a8, c8, rfl⟩ := own_capS hown8; have HP8 : Hid (CiAt w (N ++ [A]) (.slice a8 (N.length + 1) c8) w8) := HP.out.push hown8 hg8; clear hown8 hg8)
                      go_roundw
                      case rel => exact ⟨q1, N ++ [A], a8, c8, hqq.1, by simp; omega, by rfl, by simp, HRS2, by simpa using HP8⟩
                      case measure => simp only [intOf]; omega
                  · have hcb : ((c : Int) == 93) = false := beq_eq_false_iff_ne.2 (by omega)
                    have hcn : ((c : Int) != 93) = true := bne_iff_ne.2 (by omega)
                    have HV : Hid (ciV L k = .tuple #[.agg #[.int .i64 0, .int .i64 0, .int .i64 0, .int .i64 0, .bool false], .int .i64 (k : Nat)]) := ciV_none (by rw [← HRS.out, restS_step hN, HWN.out, scan_bad HNM.out (by rw [hq]; exact HG9.out) (fun e => hcw (by rw [← HC9.out, e]; rfl))])
                    by_cases hj0 : j = 0
                    · obtain rfl : q = i := by omega
                      clear hq hdd hj0 hcw a0 a1 a2 hd HNM HA HDG
                      go_wp2
                      have hst := st5_block (a := .int .i64 0) (b := .int .i64 0) (c := .int .i64 0) (d := .int .i64 0) (p := .bool false) HP.out.box
                      exact bodyPost_ret (v := .tuple #[.agg #[.int .i64 0, .int .i64 0, .int .i64 0, .int .i64 0, .bool false], .int .i64 (k : Nat)]) (res_ci hst rfl rfl) rfl ⟨by rw [HV.out], st5_below HP.out.bel⟩
                    · have hne : ((q : Int) == (i : Int)) = false := beq_eq_false_iff_ne.2 (by omega)
                      clear hq hdd hj0 hcw a0 a1 a2 hd HNM HA HDG
                      go_wp2
                      have hst := st5_block (a := .int .i64 0) (b := .int .i64 0) (c := .int .i64 0) (d := .int .i64 0) (p := .bool false) HP.out.box
                      exact bodyPost_ret (v := .tuple #[.agg #[.int .i64 0, .int .i64 0, .int .i64 0, .int .i64 0, .bool false], .int .i64 (k : Nat)]) (res_ci hst rfl rfl) rfl ⟨by rw [HV.out], st5_below HP.out.bel⟩
              · have h3 : ¬ (q : Int) < (i : Int) + 3 := by omega
                by_cases hcw : c = 93
                · subst hcw
                  by_cases hj0 : j = 0
                  · omega
                  · obtain ⟨q1, hq1⟩ : ∃ q1, q + 1 = q1 := ⟨_, rfl⟩
                    have hwr : IntKind.i64.wrap ((q : Int) + 1) = (q1 : Int) := by rw [IntWalk.i64_in _ (by omega)]; omega
                    have hne : ((q : Int) == (i : Int)) = false := beq_eq_false_iff_ne.2 (by omega)
                    have HRS2 : Hid (restS false (4 - (N ++ [A]).length) (N ++ [A]) (L.drop q1) = crossS (L.drop k)) := (by rw [← HRS.out, restS_step hN, HWN.out, scan_ok HNM.out hj0 (by rw [hq]; exact HG9.out.trans (congrArg some (u8_eq HC9.out))), HDG.out, hq, hq1] : restS false (4 - (N ++ [A]).length) (N ++ [A]) (L.drop q1) = crossS (L.drop k))
                    have hqq : q1 ≤ L.length ∧ i < q1 := by omega
                    clear hq hq1 hdd hj0 a0 a1 a2 hd HNM HA HDG
                    go_wp2_with (at_builtin; refine wpList_append_own _ rfl _ _ 28 rfl (w.heap.size + 1) 3 i2 (.int .i64 0) 1 8 Tryd.underlying28 hk2 hx0 hx1 hx2 rfl (by decide) _ _ _ rfl (HP.out.row.alloc _) ⟨W1.heap.size, 0, none⟩ 1 1 [.int .i64 (A : Nat)] rfl rfl (new_cell1 _ _ _) (one_int _) (by unfold maxLen; omega) (by omega) (by simp; omega) ?_; intro v8 w8 hown8 hg8 _; obtain ⟨a8, c8, rfl⟩ := own_capS hown8; have HP8 : Hid (CiAt w (N ++ [A]) (.slice a8 (N.length + 1) c8) w8) := HP.out.push hown8 hg8; clear hown8 hg8)
                    go_roundw
                    case rel => exact ⟨q1, N ++ [A], a8, c8, hqq.1, by simp; omega, by rfl, by simp, HRS2, by simpa using HP8⟩
                    case measure => simp only [intOf]; omega
                · have hcb : ((c : Int) == 93) = false := beq_eq_false_iff_ne.2 (by omega)
                  have hcn : ((c : Int) != 93) = true := bne_iff_ne.2 (by omega)
                  have HV : Hid (ciV L k = .tuple #[.agg #[.int .i64 0, .int .i64 0, .int .i64 0, .int .i64 0, .bool false], .int .i64 (k : Nat)]) := ciV_none (by rw [← HRS.out, restS_step hN, HWN.out, scan_bad HNM.out (by rw [hq]; exact HG9.out) (fun e => hcw (by rw [← HC9.out, e]; rfl))])
                  by_cases hj0 : j = 0
                  · omega
                  · have hne : ((q : Int) == (i : Int)) = false := beq_eq_false_iff_ne.2 (by omega)
                    clear hq hdd hj0 hcw a0 a1 a2 hd HNM HA HDG
                    go_wp2
                    have hst := st5_block (a := .int .i64 0) (b := .int .i64 0) (c := .int .i64 0) (d := .int .i64 0) (p := .bool false) HP.out.box
                    exact bodyPost_ret (v := .tuple #[.agg #[.int .i64 0, .int .i64 0, .int .i64 0, .int .i64 0, .bool false], .int .i64 (k : Nat)]) (res_ci hst rfl rfl) rfl ⟨by rw [HV.out], st5_below HP.out.bel⟩
            · have hqlI : ¬ (q : Int) < (L.length : Int) := by omega
              have hqlJ : (L.length : Int) ≤ (q : Int) := by omega
              have HV : Hid (ciV L k = .tuple #[.agg #[.int .i64 0, .int .i64 0, .int .i64 0, .int .i64 0, .bool false], .int .i64 (k : Nat)]) := ciV_none (by rw [← HRS.out, restS_step hN, scan_out HNM.out (by omega)])
              by_cases hj0 : j = 0
              · obtain rfl : q = i := by omega
                clear hq hj0 a0 a1 a2 hd HNM HA HDG
                go_wp2
                have hst := st5_block (a := .int .i64 0) (b := .int .i64 0) (c := .int .i64 0) (d := .int .i64 0) (p := .bool false) HP.out.box
                exact bodyPost_ret (v := .tuple #[.agg #[.int .i64 0, .int .i64 0, .int .i64 0, .int .i64 0, .bool false], .int .i64 (k : Nat)]) (res_ci hst rfl rfl) rfl ⟨by rw [HV.out], st5_below HP.out.bel⟩
              · have hne : ((q : Int) == (i : Int)) = false := beq_eq_false_iff_ne.2 (by omega)
                clear hq hj0 a0 a1 a2 hd HNM HA HDG
                go_wp2
                have hst := st5_block (a := .int .i64 0) (b := .int .i64 0) (c := .int .i64 0) (d := .int .i64 0) (p := .bool false) HP.out.box
                exact bodyPost_ret (v := .tuple #[.agg #[.int .i64 0, .int .i64 0, .int .i64 0, .int .i64 0, .bool false], .int .i64 (k : Nat)]) (res_ci hst rfl rfl) rfl ⟨by rw [HV.out], st5_below HP.out.bel⟩
          · have hwB : ((N.length : Int) == 3) = false := beq_eq_false_iff_ne.2 (by omega)
            have HWN : Hid ((if N.length = 3 then (93 : UInt8) else 44) = 44) := if_neg hw
            clear hw
            by_cases hql : q < L.length
            · have g9 : L[q]? = some (L[q]'hql) := List.getElem?_eq_getElem hql
              obtain ⟨b, hb9⟩ : ∃ b, L[q]'hql = b := ⟨_, rfl⟩
              rw [hb9] at g9
              obtain ⟨c, hc⟩ : ∃ c, b.toNat = c := ⟨_, rfl⟩
              have ix := idx_eq g9 hc
              have HG9 := hid_of g9
              have HC9 := hid_of hc
              have hqlI : (q : Int) < (L.length : Int) := by omega
              have hdd : j < 3 → c < 48 ∨ 57 < c := fun h => by
                have := digs_end L i (by rw [HNM.out]; exact h) b (by rw [HNM.out, hq]; exact g9)
                unfold dgB at this; simp at this; rw [hc] at this; omega
              clear g9 hb9 hc
              by_cases hj3 : j < 3
              · have h3 : (q : Int) < (i : Int) + 3 := by omega
                by_cases hlo : c < 48
                · have d9 : ¬ (48 : Int) ≤ (c : Int) := by omega
                  by_cases hcw : c = 44
                  · subst hcw
                    by_cases hj0 : j = 0
                    · obtain rfl : q = i := by omega
                      have HV : Hid (ciV L k = .tuple #[.agg #[.int .i64 0, .int .i64 0, .int .i64 0, .int .i64 0, .bool false], .int .i64 (k : Nat)]) := ciV_none (by rw [← HRS.out, restS_step hN, scan_zero (HNM.out.trans hj0)])
                      clear hq hdd hj0 a0 a1 a2 hd HNM HA HDG
                      go_wp2
                      have hst := st5_block (a := .int .i64 0) (b := .int .i64 0) (c := .int .i64 0) (d := .int .i64 0) (p := .bool false) HP.out.box
                      exact bodyPost_ret (v := .tuple #[.agg #[.int .i64 0, .int .i64 0, .int .i64 0, .int .i64 0, .bool false], .int .i64 (k : Nat)]) (res_ci hst rfl rfl) rfl ⟨by rw [HV.out], st5_below HP.out.bel⟩
                    · obtain ⟨q1, hq1⟩ : ∃ q1, q + 1 = q1 := ⟨_, rfl⟩
                      have hwr : IntKind.i64.wrap ((q : Int) + 1) = (q1 : Int) := by rw [IntWalk.i64_in _ (by omega)]; omega
                      have hne : ((q : Int) == (i : Int)) = false := beq_eq_false_iff_ne.2 (by omega)
                      have HRS2 : Hid (restS false (4 - (N ++ [A]).length) (N ++ [A]) (L.drop q1) = crossS (L.drop k)) := (by rw [← HRS.out, restS_step hN, HWN.out, scan_ok HNM.out hj0 (by rw [hq]; exact HG9.out.trans (congrArg some (u8_eq HC9.out))), HDG.out, hq, hq1] : restS false (4 - (N ++ [A]).length) (N ++ [A]) (L.drop q1) = crossS (L.drop k))
                      have hqq : q1 ≤ L.length ∧ i < q1 := by omega
                      clear hq hq1 hdd hj0 a0 a1 a2 hd HNM HA HDG
                      go_wp2_with (at_builtin; refine wpList_append_own _ rfl _ _ 28 rfl (w.heap.size + 1) 3 i2 (.int .i64 0) 1 8 Tryd.underlying28 hk2 hx0 hx1 hx2 rfl (by decide) _ _ _ rfl (HP.out.row.alloc _) ⟨W1.heap.size, 0, none⟩ 1 1 [.int .i64 (A : Nat)] rfl rfl (new_cell1 _ _ _) (one_int _) (by unfold maxLen; omega) (by omega) (by simp; omega) ?_; intro v8 w8 hown8 hg8 _; obtain ⟨a8, c8, rfl⟩ := own_capS hown8; have HP8 : Hid (CiAt w (N ++ [A]) (.slice a8 (N.length + 1) c8) w8) := HP.out.push hown8 hg8; clear hown8 hg8)
                      go_roundw
                      case rel => exact ⟨q1, N ++ [A], a8, c8, hqq.1, by simp; omega, by rfl, by simp, HRS2, by simpa using HP8⟩
                      case measure => simp only [intOf]; omega
                  · have hcb : ((c : Int) == 44) = false := beq_eq_false_iff_ne.2 (by omega)
                    have hcn : ((c : Int) != 44) = true := bne_iff_ne.2 (by omega)
                    have HV : Hid (ciV L k = .tuple #[.agg #[.int .i64 0, .int .i64 0, .int .i64 0, .int .i64 0, .bool false], .int .i64 (k : Nat)]) := ciV_none (by rw [← HRS.out, restS_step hN, HWN.out, scan_bad HNM.out (by rw [hq]; exact HG9.out) (fun e => hcw (by rw [← HC9.out, e]; rfl))])
                    by_cases hj0 : j = 0
                    · obtain rfl : q = i := by omega
                      clear hq hdd hj0 hcw a0 a1 a2 hd HNM HA HDG
                      go_wp2
                      have hst := st5_block (a := .int .i64 0) (b := .int .i64 0) (c := .int .i64 0) (d := .int .i64 0) (p := .bool false) HP.out.box
                      exact bodyPost_ret (v := .tuple #[.agg #[.int .i64 0, .int .i64 0, .int .i64 0, .int .i64 0, .bool false], .int .i64 (k : Nat)]) (res_ci hst rfl rfl) rfl ⟨by rw [HV.out], st5_below HP.out.bel⟩
                    · have hne : ((q : Int) == (i : Int)) = false := beq_eq_false_iff_ne.2 (by omega)
                      clear hq hdd hj0 hcw a0 a1 a2 hd HNM HA HDG
                      go_wp2
                      have hst := st5_block (a := .int .i64 0) (b := .int .i64 0) (c := .int .i64 0) (d := .int .i64 0) (p := .bool false) HP.out.box
                      exact bodyPost_ret (v := .tuple #[.agg #[.int .i64 0, .int .i64 0, .int .i64 0, .int .i64 0, .bool false], .int .i64 (k : Nat)]) (res_ci hst rfl rfl) rfl ⟨by rw [HV.out], st5_below HP.out.bel⟩
                · have d9 : (48 : Int) ≤ (c : Int) := by omega
                  have d8 : ¬ (c : Int) ≤ 57 := by omega
                  by_cases hcw : c = 44
                  · omega
                  · have hcb : ((c : Int) == 44) = false := beq_eq_false_iff_ne.2 (by omega)
                    have hcn : ((c : Int) != 44) = true := bne_iff_ne.2 (by omega)
                    have HV : Hid (ciV L k = .tuple #[.agg #[.int .i64 0, .int .i64 0, .int .i64 0, .int .i64 0, .bool false], .int .i64 (k : Nat)]) := ciV_none (by rw [← HRS.out, restS_step hN, HWN.out, scan_bad HNM.out (by rw [hq]; exact HG9.out) (fun e => hcw (by rw [← HC9.out, e]; rfl))])
                    by_cases hj0 : j = 0
                    · obtain rfl : q = i := by omega
                      clear hq hdd hj0 hcw a0 a1 a2 hd HNM HA HDG
                      go_wp2
                      have hst := st5_block (a := .int .i64 0) (b := .int .i64 0) (c := .int .i64 0) (d := .int .i64 0) (p := .bool false) HP.out.box
                      exact bodyPost_ret (v := .tuple #[.agg #[.int .i64 0, .int .i64 0, .int .i64 0, .int .i64 0, .bool false], .int .i64 (k : Nat)]) (res_ci hst rfl rfl) rfl ⟨by rw [HV.out], st5_below HP.out.bel⟩
                    · have hne : ((q : Int) == (i : Int)) = false := beq_eq_false_iff_ne.2 (by omega)
                      clear hq hdd hj0 hcw a0 a1 a2 hd HNM HA HDG
                      go_wp2
                      have hst := st5_block (a := .int .i64 0) (b := .int .i64 0) (c := .int .i64 0) (d := .int .i64 0) (p := .bool false) HP.out.box
                      exact bodyPost_ret (v := .tuple #[.agg #[.int .i64 0, .int .i64 0, .int .i64 0, .int .i64 0, .bool false], .int .i64 (k : Nat)]) (res_ci hst rfl rfl) rfl ⟨by rw [HV.out], st5_below HP.out.bel⟩
              · have h3 : ¬ (q : Int) < (i : Int) + 3 := by omega
                by_cases hcw : c = 44
                · subst hcw
                  by_cases hj0 : j = 0
                  · omega
                  · obtain ⟨q1, hq1⟩ : ∃ q1, q + 1 = q1 := ⟨_, rfl⟩
                    have hwr : IntKind.i64.wrap ((q : Int) + 1) = (q1 : Int) := by rw [IntWalk.i64_in _ (by omega)]; omega
                    have hne : ((q : Int) == (i : Int)) = false := beq_eq_false_iff_ne.2 (by omega)
                    have HRS2 : Hid (restS false (4 - (N ++ [A]).length) (N ++ [A]) (L.drop q1) = crossS (L.drop k)) := (by rw [← HRS.out, restS_step hN, HWN.out, scan_ok HNM.out hj0 (by rw [hq]; exact HG9.out.trans (congrArg some (u8_eq HC9.out))), HDG.out, hq, hq1] : restS false (4 - (N ++ [A]).length) (N ++ [A]) (L.drop q1) = crossS (L.drop k))
                    have hqq : q1 ≤ L.length ∧ i < q1 := by omega
                    clear hq hq1 hdd hj0 a0 a1 a2 hd HNM HA HDG
                    go_wp2_with (at_builtin; refine wpList_append_own _ rfl _ _ 28 rfl (w.heap.size + 1) 3 i2 (.int .i64 0) 1 8 Tryd.underlying28 hk2 hx0 hx1 hx2 rfl (by decide) _ _ _ rfl (HP.out.row.alloc _) ⟨W1.heap.size, 0, none⟩ 1 1 [.int .i64 (A : Nat)] rfl rfl (new_cell1 _ _ _) (one_int _) (by unfold maxLen; omega) (by omega) (by simp; omega) ?_; intro v8 w8 hown8 hg8 _; obtain ⟨a8, c8, rfl⟩ := own_capS hown8; have HP8 : Hid (CiAt w (N ++ [A]) (.slice a8 (N.length + 1) c8) w8) := HP.out.push hown8 hg8; clear hown8 hg8)
                    go_roundw
                    case rel => exact ⟨q1, N ++ [A], a8, c8, hqq.1, by simp; omega, by rfl, by simp, HRS2, by simpa using HP8⟩
                    case measure => simp only [intOf]; omega
                · have hcb : ((c : Int) == 44) = false := beq_eq_false_iff_ne.2 (by omega)
                  have hcn : ((c : Int) != 44) = true := bne_iff_ne.2 (by omega)
                  have HV : Hid (ciV L k = .tuple #[.agg #[.int .i64 0, .int .i64 0, .int .i64 0, .int .i64 0, .bool false], .int .i64 (k : Nat)]) := ciV_none (by rw [← HRS.out, restS_step hN, HWN.out, scan_bad HNM.out (by rw [hq]; exact HG9.out) (fun e => hcw (by rw [← HC9.out, e]; rfl))])
                  by_cases hj0 : j = 0
                  · omega
                  · have hne : ((q : Int) == (i : Int)) = false := beq_eq_false_iff_ne.2 (by omega)
                    clear hq hdd hj0 hcw a0 a1 a2 hd HNM HA HDG
                    go_wp2
                    have hst := st5_block (a := .int .i64 0) (b := .int .i64 0) (c := .int .i64 0) (d := .int .i64 0) (p := .bool false) HP.out.box
                    exact bodyPost_ret (v := .tuple #[.agg #[.int .i64 0, .int .i64 0, .int .i64 0, .int .i64 0, .bool false], .int .i64 (k : Nat)]) (res_ci hst rfl rfl) rfl ⟨by rw [HV.out], st5_below HP.out.bel⟩
            · have hqlI : ¬ (q : Int) < (L.length : Int) := by omega
              have hqlJ : (L.length : Int) ≤ (q : Int) := by omega
              have HV : Hid (ciV L k = .tuple #[.agg #[.int .i64 0, .int .i64 0, .int .i64 0, .int .i64 0, .bool false], .int .i64 (k : Nat)]) := ciV_none (by rw [← HRS.out, restS_step hN, scan_out HNM.out (by omega)])
              by_cases hj0 : j = 0
              · obtain rfl : q = i := by omega
                clear hq hj0 a0 a1 a2 hd HNM HA HDG
                go_wp2
                have hst := st5_block (a := .int .i64 0) (b := .int .i64 0) (c := .int .i64 0) (d := .int .i64 0) (p := .bool false) HP.out.box
                exact bodyPost_ret (v := .tuple #[.agg #[.int .i64 0, .int .i64 0, .int .i64 0, .int .i64 0, .bool false], .int .i64 (k : Nat)]) (res_ci hst rfl rfl) rfl ⟨by rw [HV.out], st5_below HP.out.bel⟩
              · have hne : ((q : Int) == (i : Int)) = false := beq_eq_false_iff_ne.2 (by omega)
                clear hq hj0 a0 a1 a2 hd HNM HA HDG
                go_wp2
                have hst := st5_block (a := .int .i64 0) (b := .int .i64 0) (c := .int .i64 0) (d := .int .i64 0) (p := .bool false) HP.out.box
                exact bodyPost_ret (v := .tuple #[.agg #[.int .i64 0, .int .i64 0, .int .i64 0, .int .i64 0, .bool false], .int .i64 (k : Nat)]) (res_ci hst rfl rfl) rfl ⟨by rw [HV.out], st5_below HP.out.bel⟩
    · obtain ⟨x0, x1, x2, x3, rfl⟩ := len4 (l := N) (by omega)
      obtain ⟨g, c9, hv9, hg9, hgl⟩ := own_block HP.out.row (by simp)
      obtain ⟨rfl, rfl⟩ : a7 = some ⟨g, 0, none⟩ ∧ c7 = c9 := by injection hv9 with e1 e2 e3; exact ⟨e1, e3⟩
      have HV : Hid (ciV L k = .tuple #[.agg #[.int .i64 (x0 : Nat), .int .i64 (x1 : Nat), .int .i64 (x2 : Nat), .int .i64 (x3 : Nat), .bool false], .int .i64 (i : Nat)]) := by
        have h := HRS.out
        have h2 : restS false (4 - [x0, x1, x2, x3].length) [x0, x1, x2, x3] (L.drop i) = some (⟨x0, x1, x2, x3, false⟩, L.drop i) := rfl
        rw [h2] at h
        have h3 : ((L.length - (L.drop i).length : Nat) : Int) = (i : Int) := by rw [List.length_drop]; omega
        refine (?_ : ciV L k = _)
        unfold ciV
        rw [← h]
        simp only
        rw [h3]
      have r0 : W1.cell? ⟨g, 0, none⟩ = some (.int .i64 (x0 : Nat)) := (HP.out.row.cellAt 0 (by simp)).trans rfl
      have r1 : W1.cell? ⟨g, 1, none⟩ = some (.int .i64 (x1 : Nat)) := (HP.out.row.cellAt 1 (by simp)).trans rfl
      have r2 : W1.cell? ⟨g, 2, none⟩ = some (.int .i64 (x2 : Nat)) := (HP.out.row.cellAt 2 (by simp)).trans rfl
      have r3 : W1.cell? ⟨g, 3, none⟩ = some (.int .i64 (x3 : Nat)) := (HP.out.row.cellAt 3 (by simp)).trans rfl
      have hSW : (fun Y : World => Y.cell? ⟨g, 0, none⟩ = some (.int .i64 (x0 : Nat)) ∧ Y.cell? ⟨g, 1, none⟩ = some (.int .i64 (x1 : Nat)) ∧ Y.cell? ⟨g, 2, none⟩ = some (.int .i64 (x2 : Nat)) ∧ Y.cell? ⟨g, 3, none⟩ = some (.int .i64 (x3 : Nat))) W1.drew := ⟨bcell (Below.refl _ _).drew hgl r0, bcell (Below.refl _ _).drew hgl r1, bcell (Below.refl _ _).drew hgl r2, bcell (Below.refl _ _).drew hgl r3⟩
      have HSW := hid_of hSW
      have HBD : Hid (W1.drew.heap[w.heap.size]? = some (.cells #[.int .i64 0, .int .i64 0, .int .i64 0, .int .i64 0, .bool false] 53 (0, 0))) := ((Below.refl W1.heap.size W1).drew.block _ hsW).trans HP.out.box
      have HBW : Hid (Below w.heap.size w W1.drew) := HP.out.bel.drew
      have hgd : g < W1.drew.heap.size := Nat.lt_of_lt_of_le hgl (Below.refl W1.heap.size W1).drew.size
      clear hSW
      go_upto_region 18 with (fail)
      obtain ⟨V, hV⟩ : ∃ V, V = W1.drew := ⟨_, rfl⟩
      rw [← hV] at HSW HBD HBW hgd
      have d0 : V.cell? ⟨w.heap.size, 0, none⟩ = some (.int .i64 0) := block_cell HBD.out rfl
      have f0 : V.frozen? ⟨w.heap.size, 0, none⟩ = false := block_frozen HBD.out
      have d1 : V.cell? ⟨w.heap.size, 1, none⟩ = some (.int .i64 0) := block_cell HBD.out rfl
      have f1 : V.frozen? ⟨w.heap.size, 1, none⟩ = false := block_frozen HBD.out
      have d2 : V.cell? ⟨w.heap.size, 2, none⟩ = some (.int .i64 0) := block_cell HBD.out rfl
      have f2 : V.frozen? ⟨w.heap.size, 2, none⟩ = false := block_frozen HBD.out
      have d3 : V.cell? ⟨w.heap.size, 3, none⟩ = some (.int .i64 0) := block_cell HBD.out rfl
      have f3 : V.frozen? ⟨w.heap.size, 3, none⟩ = false := block_frozen HBD.out
      have d4 : V.cell? ⟨w.heap.size, 4, none⟩ = some (.bool false) := block_cell HBD.out rfl
      have f4 : V.frozen? ⟨w.heap.size, 4, none⟩ = false := block_frozen HBD.out
      have HS2 : Hid ((fun Y : World => Y.cell? ⟨g, 0, none⟩ = some (.int .i64 (x0 : Nat)) ∧ Y.cell? ⟨g, 1, none⟩ = some (.int .i64 (x1 : Nat)) ∧ Y.cell? ⟨g, 2, none⟩ = some (.int .i64 (x2 : Nat)) ∧ Y.cell? ⟨g, 3, none⟩ = some (.int .i64 (x3 : Nat))) (st5 V w.heap.size (.int .i64 (x0 : Nat)) (.int .i64 (x1 : Nat)) (.int .i64 (x2 : Nat)) (.int .i64 (x3 : Nat)) (.bool false))) := by
        have h := HSW.out
        have e := st5_other (W := V) (g := g) (h := w.heap.size) (a := .int .i64 (x0 : Nat)) (b := .int .i64 (x1 : Nat)) (c := .int .i64 (x2 : Nat)) (d := .int .i64 (x3 : Nat)) (p := .bool false) hgd (by omega)
        exact ⟨(cell_same e).trans h.1, (cell_same e).trans h.2.1, (cell_same e).trans h.2.2.1, (cell_same e).trans h.2.2.2⟩
      refine wp_region_held_drew (S := fun Y : World => Y.cell? ⟨g, 0, none⟩ = some (.int .i64 (x0 : Nat)) ∧ Y.cell? ⟨g, 1, none⟩ = some (.int .i64 (x1 : Nat)) ∧ Y.cell? ⟨g, 2, none⟩ = some (.int .i64 (x2 : Nat)) ∧ Y.cell? ⟨g, 3, none⟩ = some (.int .i64 (x3 : Nat))) (by kernel_rfl) (by rw [← hV]; exact HSW.out) (fun hHeld => ?_)
      rw [← hV] at hHeld ⊢
      clear hV
      refine wpAnyH_take (i := 0) (v := ?vvu21) rfl (by kernel_rfl) (by kernel_rfl) (by kernel_rfl) (fun _ _ _ h => h) (Or.inl ⟨by rfl, ?yyu21⟩) (by assumption) ?rru21
      case yyu21 => (intro w hSw; (try dsimp only at hSw); go_simp; (try with_reducible rfl))
      try simp only [Act.put]
      refine wpAnyH_take (i := 1) (v := ?vvu22) rfl (by kernel_rfl) (by kernel_rfl) (by kernel_rfl) (fun _ _ _ h => h) (Or.inl ⟨by rfl, ?yyu22⟩) (by assumption) ?rru22
      case yyu22 => (intro w hSw; (try dsimp only at hSw); go_simp; (try with_reducible rfl))
      try simp only [Act.put]
      refine wpAnyH_take (i := 2) (v := ?vvu23) rfl (by kernel_rfl) (by kernel_rfl) (by kernel_rfl) (fun _ _ _ h => h) (Or.inl ⟨by rfl, ?yyu23⟩) (by assumption) ?rru23
      case yyu23 => (intro w hSw; (try dsimp only at hSw); go_simp; (try with_reducible rfl))
      try simp only [Act.put]
      refine wpAnyH_take (i := 3) (v := ?vvu24) rfl (by kernel_rfl) (by kernel_rfl) (by kernel_rfl) (fun _ _ _ h => h) (Or.inl ⟨by rfl, ?yyu24⟩) (by assumption) ?rru24
      case yyu24 => (intro w hSw; (try dsimp only at hSw); go_simp; (try with_reducible rfl))
      try simp only [Act.put]
      refine wpAnyH_take (i := 4) (v := ?vvu25) rfl (by kernel_rfl) (by kernel_rfl) (by kernel_rfl) (fun _ _ _ h => h) (Or.inl ⟨by rfl, ?yyu25⟩) (by assumption) ?rru25
      case yyu25 => (intro w hSw; (try dsimp only at hSw); go_simp; (try with_reducible rfl))
      try simp only [Act.put]
      refine wpAnyH_take (i := 5) (v := ?vvu26) rfl (by kernel_rfl) (by kernel_rfl) (by kernel_rfl) (fun _ _ _ h => h) (Or.inl ⟨by rfl, ?yyu26⟩) (by assumption) ?rru26
      case yyu26 => (intro w hSw; (try dsimp only at hSw); go_simp; (try with_reducible rfl))
      try simp only [Act.put]
      refine wpAnyH_take (i := 6) (v := ?vvu27) rfl (by kernel_rfl) (by kernel_rfl) (by kernel_rfl) (fun _ _ _ h => h) (Or.inl ⟨by rfl, ?yyu27⟩) (by assumption) ?rru27
      case yyu27 => (intro w hSw; (try dsimp only at hSw); go_simp; (try with_reducible rfl))
      try simp only [Act.put]
      refine wpAnyH_take (i := 7) (v := ?vvu28) rfl (by kernel_rfl) (by kernel_rfl) (by kernel_rfl) (fun _ _ _ h => h) (Or.inl ⟨by rfl, ?yyu28⟩) (by assumption) ?rru28
      case yyu28 => (intro w hSw; (try dsimp only at hSw); go_simp; (try with_reducible rfl))
      try simp only [Act.put]
      refine wpAnyH_take (i := 8) (v := ?vvu29) rfl (by kernel_rfl) (by kernel_rfl) (by kernel_rfl) (fun _ _ _ h => h) (Or.inl ⟨by rfl, ?yyu29⟩) (by assumption) ?rru29
      case yyu29 => (intro w hSw; (try dsimp only at hSw); go_simp; (try with_reducible rfl))
      try simp only [Act.put]
      refine wpAnyH_take (i := 9) (v := ?vvu30) rfl (by kernel_rfl) (by kernel_rfl) (by kernel_rfl) (fun _ _ _ h => h) (Or.inl ⟨by rfl, ?yyu30⟩) (by assumption) ?rru30
      case yyu30 => (intro w hSw; (try dsimp only at hSw); go_simp; (try with_reducible rfl))
      try simp only [Act.put]
      refine wpAnyH_take (i := 10) (v := ?vvu31) rfl (by kernel_rfl) (by kernel_rfl) (by kernel_rfl) (fun _ _ _ h => h) (Or.inl ⟨by rfl, ?yyu31⟩) (by assumption) ?rru31
      case yyu31 => (intro w hSw; (try dsimp only at hSw); go_simp; (try with_reducible rfl))
      try simp only [Act.put]
      refine wpAnyH_take (i := 11) (v := ?vvu32) rfl (by kernel_rfl) (by kernel_rfl) (by kernel_rfl) (fun _ _ _ h => h) (Or.inl ⟨by rfl, ?yyu32⟩) (by assumption) ?rru32
      case yyu32 => (intro w hSw; (try dsimp only at hSw); go_simp; (try with_reducible rfl))
      try simp only [Act.put]
      refine wpAnyH_take (i := 12) (v := ?vvu33) rfl (by kernel_rfl) (by kernel_rfl) (by kernel_rfl) (fun _ _ _ h => h) (Or.inl ⟨by rfl, ?yyu33⟩) (by assumption) ?rru33
      case yyu33 => (intro w hSw; (try dsimp only at hSw); go_simp; (try with_reducible rfl))
      try simp only [Act.put]
      refine wpAnyH_take (i := 13) (v := ?vvu34) rfl (by kernel_rfl) (by kernel_rfl) (by kernel_rfl) (fun _ _ _ h => h) (Or.inl ⟨by rfl, ?yyu34⟩) (by assumption) ?rru34
      case yyu34 => (intro w hSw; (try dsimp only at hSw); go_simp; (try with_reducible rfl))
      try simp only [Act.put]
      refine wpAnyH_take (i := 14) (v := ?vvu35) rfl (by kernel_rfl) (by kernel_rfl) (by kernel_rfl) (fun _ _ _ h => h) (Or.inl ⟨by rfl, ?yyu35⟩) (by assumption) ?rru35
      case yyu35 => (intro w hSw; (try dsimp only at hSw); go_simp; (try with_reducible rfl))
      try simp only [Act.put]
      refine wpAnyH_take (i := 15) (v := ?vvu36) rfl (by kernel_rfl) (by kernel_rfl) (by kernel_rfl) (fun _ _ _ h => h) (Or.inl ⟨by rfl, ?yyu36⟩) (by assumption) ?rru36
      case yyu36 => (intro w hSw; (try dsimp only at hSw); go_simp; (try with_reducible rfl))
      try simp only [Act.put]
      refine wpAnyH_take (i := 16) (v := ?vvu37) rfl (by kernel_rfl) (by kernel_rfl) (by kernel_rfl) (fun _ _ _ h => h) (Or.inl ⟨by rfl, ?yyu37⟩) (by assumption) ?rru37
      case yyu37 => (intro w hSw; (try dsimp only at hSw); go_simp; (try with_reducible rfl))
      try simp only [Act.put]
      refine wpAnyH_take (i := 17) (v := ?vvu38) rfl (by kernel_rfl) (by kernel_rfl) (by kernel_rfl) (fun _ _ _ h => h) (Or.inl ⟨by rfl, ?yyu38⟩) (by assumption) ?rru38
      case yyu38 => (intro w hSw; (try dsimp only at hSw); go_simp; (try with_reducible rfl))
      try simp only [Act.put]
      refine wpAnyH_take (i := 18) (v := ?vvu39) rfl (by kernel_rfl) (by kernel_rfl) (by kernel_rfl) (fun _ _ _ h => h) (Or.inl ⟨by rfl, ?yyu39⟩) (by assumption) ?rru39
      case yyu39 => (intro w hSw; (try dsimp only at hSw); go_simp; (try with_reducible rfl))
      try simp only [Act.put]
      refine wpAnyH_ready (rs := [19]) (by kernel_rfl) (by simp) ?_
      refine AllReadyH.cons rfl (fun K hK => ?_) AllReadyH.nil
      go_simp
      refine hK.out _ _ HS2.out (fun hHeld => ?_)
      clear hK K
      try simp only [Act.put]
      refine wpAnyH_take (i := 20) (v := ?vvu40) rfl (by kernel_rfl) (by kernel_rfl) (by kernel_rfl) (fun _ _ _ h => h) (Or.inl ⟨by rfl, ?yyu40⟩) (by assumption) ?rru40
      case yyu40 => (intro w hSw; (try dsimp only at hSw); go_simp; (try with_reducible rfl))
      try simp only [Act.put]
      refine wpAnyH_done (by kernel_rfl) ?_ _
      try simp only [Act.put]
      clear hHeld
      go_wp2
      have hst := st5_block (a := .int .i64 (x0 : Nat)) (b := .int .i64 (x1 : Nat)) (c := .int .i64 (x2 : Nat)) (d := .int .i64 (x3 : Nat)) (p := .bool false) HBD.out
      exact bodyPost_ret (v := .tuple #[.agg #[.int .i64 (x0 : Nat), .int .i64 (x1 : Nat), .int .i64 (x2 : Nat), .int .i64 (x3 : Nat), .bool false], .int .i64 (i : Nat)]) (res_ci hst rfl rfl) rfl ⟨by rw [HV.out], st5_below HBW.out⟩
end Go.Proofs.YtlimfajjmhfnaaaDoor

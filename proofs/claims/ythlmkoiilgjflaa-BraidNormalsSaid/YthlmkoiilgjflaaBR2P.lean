/- Several texts of the proof, one behind the other. -/
import Derived.Test.YthlmkoiilgjflaaBR1
import Derived.Test.YthlmkoiilgjflaaIlP
import Derived.Test.YthlmkoiilgjflaaG7P
import Derived.Test.YthlmkoiilgjflaaH6P
import Derived.Test.YthlmkoiilgjflaaInP
/- Words: the walks of ref.WordsMay, and of places and their trades. -/
namespace Go.Proofs.Ythlmkoiilgjflaa
open Go.RowKit

/-- append onto a row of the call's own, of a slice that is handed in. -/
theorem wpList_append_in {P : Program} {w : World} {ops : Array Oper} {rest : List Oper} {o : Oper} {a : Act} {Q : Exit → Act → World → Prop} (hgd : o.guard = none) (s x : Operand) (t : TypeId)
    (ho : o.op = .call { callee := .builtin .append, args := #[s, x], argTypes := #[t, t] })
    (base : Nat) (e : TypeId) (i : TypeInfo) (z : Value) (size bytes : Nat) (ht : P.underlying t = some (.slice e)) (hi : P.info? e = some i) (hz : i.zero = some z)
    (hsize : i.size = size) (hby : i.bytes = bytes) (hzs : z.cells.size = size) (hsz : 0 < size) (v0 : Value) (n0 : Nat) (ys : List Value) (hs : a.eval s = v0) (hown : w.ownsRow base e size v0 n0 ys)
    (v : Value) (B n : Nat) (xs : List Value) (hx : a.eval x = v) (hin : InAt w B size v n xs) (hl : xs.length = n * size) (h1 : ∀ u ∈ xs, u.oneCell' = true)
    (h63 : n0 + n ≤ maxLen) (hbytes : (n0 + n) * bytes ≤ 140737488355328) (hbase : base ≤ w.heap.size)
    (h : ∀ v' w', w'.ownsRow base e size v' (n0 + n) (ys ++ xs) → w.grownBy w' v0.ownBlock → wpList P ops Q rest (a.put o.dst v') w') : wpList P ops Q (o :: rest) a w := by
  rcases hin with ⟨rfl, rfl⟩ | ⟨ad, cap, rfl, rfl⟩ | ⟨b, off, cap, rfl, hlt, hc⟩
  · obtain rfl : xs = [] := List.length_eq_zero_iff.1 (by omega)
    exact wpList_append_own_none hgd s x t ho base e i size ht hi _ n0 ys hs hown hx (h _ _ (by simpa using hown) (World.grownBy.refl _ _))
  · obtain rfl : xs = [] := List.length_eq_zero_iff.1 (by omega)
    exact wpList_append_own _ hgd s x t ho base e i z size bytes ht hi hz hsize hby hzs hsz _ n0 ys hs hown ad 0 cap [] hx (by simp) (fun j u h => by simp at h) (fun u h => by simp at h) (by omega) hbytes hbase
      fun v' w' g1 g2 _ => h v' w' g1 g2
  · refine wpList_append_own _ hgd s x t ho base e i z size bytes ht hi hz hsize hby hzs hsz _ n0 ys hs hown ⟨b, off, none⟩ n cap xs hx hl (fun j u hj => ?_) h1 (by omega) hbytes hbase
      fun v' w' g1 g2 _ => h v' w' g1 g2
    have hlt2 : j < xs.length := (List.getElem?_eq_some_iff.1 hj).1
    have := hc j (by omega)
    rw [hj] at this
    unfold Addr.add
    split
    · rename_i h0; subst h0; exact this
    · exact this
theorem wordsN_two (n : Int) (u v : List Int) : wordsN n [u, v] = if n < 2 ∨ 6 < n then 3 else if (u ++ v).any (badL n) then 3 else if 20 < u.length ∨ 20 < v.length then 2 else 0 := by
  unfold wordsN
  simp [List.any_append]
theorem wordsN_nil (n : Int) (u : List Int) : wordsN n [u, []] = wordN n u := by
  rw [wordsN_two]
  unfold wordN
  simp

set_option maxHeartbeats 4000000 in
set_option maxRecDepth 100000 in
theorem wordsMay_any (a1 a2 : Option Addr) (c1 c2 : Nat) (u v : List Int) (n : Int) (w : World) (hu : u.length * 8 ≤ 140737488355328) (hv : v.length * 8 ≤ 140737488355328) (huv : (u.length + v.length) * 8 ≤ 140737488355328) (h1 : InAt w w.heap.size 1 (.slice a1 u.length c1) u.length (intsV u)) (h2 : InAt w w.heap.size 1 (.slice a2 v.length c2) v.length (intsV v)) :
    Calls Try.prog 6 #[.int .i64 n, .slice a1 u.length c1, .slice a2 v.length c2] w fun e w' => e = .returned (.int .i64 (wordsN n [u, v])) ∧ Below w.heap.size w w' := by
  obtain ⟨i2, hk, hx0, hx1, hx2⟩ := info_parts infoInt
  have H1 : Hid (InAt w w.heap.size 1 (.slice a1 u.length c1) u.length (intsV u)) := h1
  have H2 : Hid (InAt w w.heap.size 1 (.slice a2 v.length c2) v.length (intsV v)) := h2
  rw [wordsN_two]
  obtain ⟨l, hl⟩ : ∃ l, u ++ v = l := ⟨_, rfl⟩
  have HLE : Hid (u ++ v = l) := hl
  have HIV : Hid (intsV u ++ intsV v = intsV l) := (by rw [← hl]; simp [intsV] : intsV u ++ intsV v = intsV l)
  have HLL : Hid (l.length = u.length + v.length) := (by rw [← hl]; simp : l.length = u.length + v.length)
  have HL1 : Hid ((intsV u).length = u.length ∧ (intsV v).length = v.length) := ⟨intsV_len u, intsV_len v⟩
  have HO1 := intsV_oneI u
  have HO2 := intsV_oneI v
  rw [hl]
  obtain ⟨m1, hm1⟩ : ∃ m1, u.length = m1 := ⟨_, rfl⟩
  obtain ⟨m2, hm2⟩ : ∃ m2, v.length = m2 := ⟨_, rfl⟩
  have HE1 : Hid (u.length = m1 ∧ v.length = m2) := ⟨hm1, hm2⟩
  rw [hm1] at hu huv H1 HLL HL1 ⊢
  rw [hm2] at hv huv H2 HLL HL1 ⊢
  have HU : Hid (∀ j, j < m1 → True) := fun _ _ => trivial
  clear h1 h2 hl hm1 hm2 HU
  by_cases hn : n < 2 ∨ 6 < n
  · rw [if_pos hn]
    rcases hn with hq | hq
    · go_enter Try.func6, Try.ntmps6
      go_wp2
      go_ret
      exact ⟨rfl, Below.refl _ _⟩
    · have hq' : ¬ n < 2 := by omega
      go_enter Try.func6, Try.ntmps6
      go_wp2
      go_ret
      exact ⟨rfl, Below.refl _ _⟩
  · rw [if_neg hn]
    have hn2 : 2 ≤ n := by omega
    have hn6 : n ≤ 6 := by omega
    have hn2' : ¬ n < 2 := by omega
    have hn6' : ¬ 6 < n := by omega
    clear hn
    obtain ⟨R, hR⟩ : ∃ R : Int, (if l.any (badL n) = true then (3 : Int) else if 20 < m1 ∨ 20 < m2 then 2 else 0) = R := ⟨_, rfl⟩
    have HR : Hid ((if l.any (badL n) = true then (3 : Int) else if 20 < m1 ∨ 20 < m2 then 2 else 0) = R) := hR
    rw [hR]
    clear hR
    go_enter Try.func6, Try.ntmps6
    go_wp2_with (first
      | (at_builtin; refine wpList_append_copy rfl _ _ 22 rfl w.heap.size 3 i2 (.int .i64 0) 1 8 Try.underlying22 hk hx0 hx1 hx2 rfl (by decide) rfl _ w.heap.size m1 (intsV u) rfl H1.out (by rw [HL1.out.1, Nat.mul_one]) HO1 (by unfold maxLen; omega) hu (Nat.le_refl _) ?_; intro v8 w8 hown8 hg8; refine Hid.out ?_))
    refine Lib.hid ?_
    obtain ⟨a8, c8, rfl⟩ := own_capS hown8
    have HB8 : Hid (Below w.heap.size w w8) := (Below.refl _ _).grown hg8 (Nat.le_refl _) (fun k hk => by cases hk)
    have HO8 : Hid (w8.ownsRow w.heap.size 3 1 (.slice a8 m1 c8) m1 (intsV u)) := hown8
    have H28 : Hid (InAt w8 w.heap.size 1 (.slice a2 m2 c2) m2 (intsV v)) := H2.out.on HB8.out
    clear hown8 hg8
    go_wp2_with (first
      | (at_builtin; refine wpList_append_in rfl _ _ 22 rfl w.heap.size 3 i2 (.int .i64 0) 1 8 Try.underlying22 hk hx0 hx1 hx2 rfl (by decide) _ m1 (intsV u) rfl HO8.out _ w.heap.size m2 (intsV v) rfl H28.out (by rw [HL1.out.2, Nat.mul_one]) HO2 (by unfold maxLen; omega) huv HB8.out.size ?_; intro v9 w9 hown9 hg9; refine Hid.out ?_))
    refine Lib.hid ?_
    obtain ⟨a9, c9, rfl⟩ := own_capS hown9
    have HB9 : Hid (Below w.heap.size w w9) := HB8.out.grown hg9 HB8.out.size (fun k hk => (HO8.out.lt k hk).1)
    have HR9 : Hid (RdAt w9 w9.heap.size 1 (.slice a9 (m1 + m2) c9) (m1 + m2) (intsV l)) := (by rw [HIV.out] at hown9; exact own_rd hown9)
    obtain ⟨m, hm⟩ : ∃ m, m1 + m2 = m := ⟨_, rfl⟩
    have HMM : Hid (m1 + m2 = m) := hm
    rw [hm] at HR9 HLL huv ⊢
    clear hown9 hg9 hm
    go_wp2
    go_loopw [8] (fun v8 wr => ∃ i : Nat, i ≤ m ∧ v8 = .int .i64 (i : Nat) ∧ Hid ((l.take i).any (badL n) = false) ∧ wr = w9) (fun v8 _ => m - (intOf v8).toNat)
    case atStart => exact ⟨0, Nat.zero_le _, rfl, rfl, rfl⟩
    case round =>
      obtain ⟨i, him, rfl, hno, rfl⟩ := hrel
      by_cases hil : i < m
      · have hiI : (i : Int) < (m : Int) := by omega
        have hiL : i < l.length := by rw [HLL.out]; exact hil
        have hrr := HR9.out
        rw [← HLL.out] at hrr
        obtain ⟨b, off, ea, hb, hc⟩ := hrr.intAt i hiL
        have HX : Hid ((l.take (i + 1)).any (badL n) = ((l.take i).any (badL n) || badL n (l.getD i 0))) := any_take_next l _ i hiL
        have HS : Hid (badL n (l.getD i 0) = true → l.any (badL n) = true) := fun q => any_some l _ i hiL q
        generalize l.getD i 0 = x at hc HX HS
        subst ea
        clear hrr hiL
        by_cases e0 : x = 0
        · have HA : Hid (R = 3) := (by have := HR.out; rw [if_pos (HS.out (by unfold badL; simp [e0]))] at this; exact this.symm : R = 3)
          clear HS HX
          go_wp2
          go_ret
          exact ⟨by rw [HA.out]; rfl, HB9.out⟩
        · have e0b : (x == 0) = false := beq_eq_false_iff_ne.2 e0
          by_cases e1 : x ≤ -n
          · have HA : Hid (R = 3) := (by have := HR.out; rw [if_pos (HS.out (by unfold badL; simp [e1]))] at this; exact this.symm : R = 3)
            clear HS HX
            go_wp2
            go_ret
            exact ⟨by rw [HA.out]; rfl, HB9.out⟩
          · by_cases e2 : n ≤ x
            · have HA : Hid (R = 3) := (by have := HR.out; rw [if_pos (HS.out (by unfold badL; simp [e2]))] at this; exact this.symm : R = 3)
              clear HS HX
              go_wp2
              go_ret
              exact ⟨by rw [HA.out]; rfl, HB9.out⟩
            · have HA : Hid ((l.take (i + 1)).any (badL n) = false) := (by rw [HX.out, hno.out]; unfold badL; simp [e0, e1, e2] : (l.take (i + 1)).any (badL n) = false)
              clear HS HX
              go_wp2
              go_roundw
              case rel => exact ⟨i + 1, by omega, by go_num, HA.out, by first | trivial | rfl⟩
              case measure => simp only [intOf]; omega
      · obtain rfl : i = m := by omega
        have HA : Hid (R = if 20 < m1 ∨ 20 < m2 then 2 else 0) := (by
          have h := hno.out
          rw [← HLL.out, List.take_length] at h
          have := HR.out
          rw [if_neg (by rw [h]; decide)] at this
          exact this.symm : R = if 20 < m1 ∨ 20 < m2 then 2 else 0)
        clear hno hil
        by_cases g1 : 20 < m1
        · have g1I : (20 : Int) < (m1 : Int) := by omega
          have HAA : Hid (R = 2) := (by rw [HA.out, if_pos (Or.inl g1)] : R = 2)
          go_wp2
          go_ret
          exact ⟨by rw [HAA.out]; rfl, HB9.out⟩
        · have g1I : ¬ (20 : Int) < (m1 : Int) := by omega
          by_cases g2 : 20 < m2
          · have g2I : (20 : Int) < (m2 : Int) := by omega
            have HAA : Hid (R = 2) := (by rw [HA.out, if_pos (Or.inr g2)] : R = 2)
            go_wp2
            go_ret
            exact ⟨by rw [HAA.out]; rfl, HB9.out⟩
          · have g2I : ¬ (20 : Int) < (m2 : Int) := by omega
            have HAA : Hid (R = 0) := (by rw [HA.out, if_neg (by omega)] : R = 0)
            go_wp2
            go_ret
            exact ⟨by rw [HAA.out]; rfl, HB9.out⟩
end Go.Proofs.Ythlmkoiilgjflaa
/- Lists of fractions: the walks of slices.Reverse (of numbers) and tangle.expanded. -/
namespace Go.Proofs.Ythlmkoiilgjflaa
open Go.RowKit

theorem list_mapI (l : List Int) : l = mapI l.length (fun i => l.getD i 0) := by
  apply List.ext_getElem?
  intro j
  by_cases hj : j < l.length
  · rw [mapI_get _ _ j hj, List.getElem?_eq_getElem hj, List.getD_eq_getElem?_getD, List.getElem?_eq_getElem hj]
    rfl
  · rw [List.getElem?_eq_none (by omega), List.getElem?_eq_none (by rw [mapI_len]; omega)]
theorem intsV_lenG (l : List Int) : (intsV l).length = l.length := by simp [intsV]
theorem intsV_getG (l : List Int) (i : Nat) (h : i < l.length) : (intsV l)[i]? = some (.int .i64 (l.getD i 0)) := by simp [intsV, List.getD, h]
/-- The first k and the last k places turned round. -/
def rvF (l : List Int) (k i : Nat) : Int := if i < k ∨ l.length ≤ i + k then l.getD (l.length - 1 - i) 0 else l.getD i 0
theorem rvF_zero (l : List Int) : mapI l.length (rvF l 0) = l := by
  conv => rhs; rw [list_mapI l]
  exact mapI_congr _ _ _ fun j hj => by unfold rvF; rw [if_neg (by omega)]
theorem rvF_next (l : List Int) (k : Nat) (h : 2 * k + 1 < l.length) : ((mapI l.length (rvF l k)).set k (l.getD (l.length - 1 - k) 0)).set (l.length - 1 - k) (l.getD k 0) = mapI l.length (rvF l (k + 1)) := by
  rw [mapI_set _ _ (fun j => if j = k then l.getD (l.length - 1 - k) 0 else rvF l k j) k _ (fun j _ => rfl)]
  refine mapI_set _ _ _ _ _ fun j hj => ?_
  unfold rvF
  by_cases e1 : j = l.length - 1 - k
  · rw [if_pos e1, if_pos (by omega)]
    congr 1
    omega
  · rw [if_neg e1]
    by_cases e2 : j = k
    · rw [if_pos e2, if_pos (by omega), e2]
    · rw [if_neg e2]
      by_cases e3 : j < k ∨ l.length ≤ j + k
      · rw [if_pos e3, if_pos (by omega)]
      · rw [if_neg e3, if_neg (by omega)]
theorem rvF_all (l : List Int) (k : Nat) (h : l.length ≤ 2 * k + 1) : mapI l.length (rvF l k) = l.reverse := by
  apply List.ext_getElem?
  intro j
  by_cases hj : j < l.length
  · rw [mapI_get _ _ j hj, List.getElem?_reverse hj, List.getElem?_eq_getElem (by omega)]
    unfold rvF
    by_cases e : j < k ∨ l.length ≤ j + k
    · rw [if_pos e, List.getD_eq_getElem?_getD, List.getElem?_eq_getElem (by omega)]
      rfl
    · rw [if_neg e]
      have : j = l.length - 1 - j := by omega
      rw [List.getD_eq_getElem?_getD, List.getElem?_eq_getElem hj, Option.getD_some]
      congr 2
  · rw [List.getElem?_eq_none (by rw [mapI_len]; omega), List.getElem?_eq_none (by simp; omega)]

set_option maxHeartbeats 8000000 in
set_option maxRecDepth 100000 in
theorem reverse_any (B g cap : Nat) (l : List Int) (w : World) (hl : l.length ≤ 100000) (h1 : 1 ≤ l.length) (h : w.ownsRow B 3 1 (.slice (some ⟨g, 0, none⟩) l.length cap) l.length (intsV l)) :
    Calls Try.prog 31 #[.slice (some ⟨g, 0, none⟩) l.length cap] w fun e w' => e = .returned (.tuple #[]) ∧ w'.ownsRow B 3 1 (.slice (some ⟨g, 0, none⟩) l.length cap) l.length (intsV l.reverse) ∧ w.grownBy w' (some g) := by
  have HP0 : Hid (w.ownsRow B 3 1 (.slice (some ⟨g, 0, none⟩) l.length cap) l.length (intsV (mapI l.length (rvF l 0))) ∧ w.grownBy w (some g)) := ⟨by rw [rvF_zero]; exact h, World.grownBy.refl _ _⟩
  obtain ⟨n, hN⟩ : ∃ n, l.length = n := ⟨_, rfl⟩
  have HN : Hid (l.length = n) := hN
  have HNX : Hid (∀ k, 2 * k + 1 < n → ((mapI n (rvF l k)).set k (l.getD (n - 1 - k) 0)).set (n - 1 - k) (l.getD k 0) = mapI n (rvF l (k + 1))) := fun k hk => by
    have := rvF_next l k (by omega)
    rw [hN] at this
    exact this
  have HAL : Hid (∀ k, n ≤ 2 * k + 1 → mapI n (rvF l k) = l.reverse) := fun k hk => by
    have := rvF_all l k (by omega)
    rw [hN] at this
    exact this
  have HVA : Hid (∀ k i, 2 * k + 1 < n → k ≤ i → i + k < n → rvF l k i = l.getD i 0) := fun k i h1 h2 h3 => by
    unfold rvF
    rw [if_neg (by omega)]
  rw [hN] at hl h1 HP0 ⊢
  clear h hN
  have ew0 : IntKind.i64.wrap ((n : Int) - 1) = (n : Int) - 1 := IntWalk.i64_in _ (by omega)
  go_enter Try.func31, Try.ntmps31
  go_wp2
  go_loopw [2, 3] (fun v2 v3 wr => ∃ k : Nat, k ≤ n ∧ v2 = .int .i64 (k : Nat) ∧ v3 = .int .i64 ((n : Int) - 1 - (k : Int)) ∧ Hid (wr.ownsRow B 3 1 (.slice (some ⟨g, 0, none⟩) n cap) n (intsV (mapI n (rvF l k))) ∧ w.grownBy wr (some g))) (fun v2 _ _ => n - (intOf v2).toNat)
  case atStart => exact ⟨0, Nat.zero_le _, rfl, by congr 1; omega, HP0.out⟩
  case round =>
    clear HP0 ew0
    rename World => W1
    obtain ⟨k, hkn, rfl, rfl, hp⟩ := hrel
    by_cases hk : 2 * k + 1 < n
    · obtain ⟨j, hj⟩ : ∃ j : Nat, n - 1 - k = j := ⟨_, rfl⟩
      have HJ : Hid (n - 1 - k = j) := hj
      have hjI : (n : Int) - 1 - (k : Int) = (j : Int) := by omega
      rw [hjI]
      have hkj : k < j := by omega
      have hjn : j < n := by omega
      have e0 : W1.cell? ⟨g, k, none⟩ = some (.int .i64 (l.getD k 0)) := by
        rw [hp.out.1.cellAt k (by omega), intsV_getG _ k (by rw [mapI_len]; omega), mapI_at _ _ k (by omega), HVA.out k k hk (Nat.le_refl _) (by omega)]
      have e1 : W1.cell? ⟨g, j, none⟩ = some (.int .i64 (l.getD j 0)) := by
        rw [hp.out.1.cellAt j (by omega), intsV_getG _ j (by rw [mapI_len]; omega), mapI_at _ _ j (by omega), HVA.out k j hk (by omega) (by omega)]
      have f0 : W1.frozen? ⟨g, k, none⟩ = false := hp.out.1.frozenAt k
      have f1 : W1.frozen? ⟨g, j, none⟩ = false := hp.out.1.frozenAt j
      have hst := hp.out.1.stored k (.int .i64 (l.getD j 0))
      have hst2 := hst.1.stored j (.int .i64 (l.getD k 0))
      have hnx := HNX.out k hk
      rw [hj] at hnx
      rw [intsV_set, intsV_set, hnx] at hst2
      obtain ⟨x, hx⟩ : ∃ x, l.getD k 0 = x := ⟨_, rfl⟩
      obtain ⟨y, hy⟩ : ∃ y, l.getD j 0 = y := ⟨_, rfl⟩
      rw [hx] at e0 hst2
      rw [hy] at e1 hst hst2
      have HST : Hid (((W1.setCell ⟨g, k, none⟩ (.int .i64 y)).setCell ⟨g, j, none⟩ (.int .i64 x)).ownsRow B 3 1 (.slice (some ⟨g, 0, none⟩) n cap) n (intsV (mapI n (rvF l (k + 1)))) ∧ w.grownBy ((W1.setCell ⟨g, k, none⟩ (.int .i64 y)).setCell ⟨g, j, none⟩ (.int .i64 x)) (some g)) := ⟨hst2.1, grown_trans hp.out.2 (grown_trans hst.2 hst2.2)⟩
      have hgw := (hp.out.1.lt g rfl).2
      have hkI : (k : Int) < (n : Int) := by omega
      have hjI2 : (j : Int) < (n : Int) := by omega
      have hkjn : k ≠ j := by omega
      have ew1 : IntKind.i64.wrap ((j : Int) - 1) = (j : Int) - 1 := IntWalk.i64_in _ (by omega)
      clear hst hst2 hnx hx hy hj hjI
      go_wp2
      apply cut_one
      case h =>
        intro key
        go_region_with (fail)
        all_goals exact key.out
      obtain ⟨X, hX⟩ : ∃ X, X = ((W1.setCell ⟨g, k, none⟩ (.int .i64 y)).setCell ⟨g, j, none⟩ (.int .i64 x)).drew := ⟨_, rfl⟩
      have HX : Hid (X.ownsRow B 3 1 (.slice (some ⟨g, 0, none⟩) n cap) n (intsV (mapI n (rvF l (k + 1)))) ∧ w.grownBy X (some g)) := (by
        rw [hX]
        exact ⟨own_any HST.out.1 (grown_below ((Below.refl _ _).drew) none), grown_trans HST.out.2 (grown_below ((Below.refl _ _).drew) _)⟩ : X.ownsRow B 3 1 (.slice (some ⟨g, 0, none⟩) n cap) n (intsV (mapI n (rvF l (k + 1)))) ∧ w.grownBy X (some g))
      rw [← hX]
      clear hX HST e0 e1 f0 f1
      go_wp2
      go_roundw
      case rel => exact ⟨k + 1, by omega, by go_num, by congr 1; have := HJ.out; omega, HX.out⟩
      case measure => simp only [intOf]; omega
    · have HA : Hid (mapI n (rvF l k) = l.reverse) := HAL.out k (by omega)
      rw [HA.out] at hp
      have hd : decide ((k : Int) < (n : Int) - 1 - (k : Int)) = false := by simp; omega
      go_wp2
      exact bodyPost_end (v := .tuple #[]) (results_none rfl _ _ _) rfl ⟨rfl, hp.out⟩
end Go.Proofs.Ythlmkoiilgjflaa

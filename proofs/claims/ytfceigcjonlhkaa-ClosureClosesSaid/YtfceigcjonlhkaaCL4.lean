/- Braids closed: the walk of closure.closed. -/
import Derived.Test.YtfceigcjonlhkaaCL3
import Derived.Test.YtfceigcjonlhkaaBR2
import Derived.Test.YtfceigcjonlhkaaP5
import Derived.Deep.Cut
namespace Go.Proofs.Ytfceigcjonlhkaa
open Go.RowKit

theorem infoCg : (Try.prog.info? 177).map (fun i => (i.zero, i.size, i.bytes)) = some (some (.agg #[.int .i64 0, .int .i64 0, .int .i64 0, .int .i64 0]), 4, 32) := by kernel_rfl
theorem made_crV (m : Nat) : (madeCells (Value.agg #[.int .i64 0, .int .i64 0, .int .i64 0, .int .i64 0]).cells (m * 4)).toList = crV m (fun _ => 0) := by
  have e : (Value.agg #[.int .i64 0, .int .i64 0, .int .i64 0, .int .i64 0]).cells = #[.int .i64 0, .int .i64 0, .int .i64 0, .int .i64 0] := rfl
  rw [e]
  apply List.ext_getElem?
  intro j
  by_cases hj : j < m * 4
  · rw [crV_get m (fun _ => 0) j (by omega)]
    have hm : j % 4 = 0 ∨ j % 4 = 1 ∨ j % 4 = 2 ∨ j % 4 = 3 := by omega
    simp only [madeCells]
    rcases hm with h | h | h | h <;> simp [hj, h]
  · rw [List.getElem?_eq_none (by simp [madeCells]; omega), List.getElem?_eq_none (by unfold crV; rw [intsV_len, mapI_len]; omega)]
theorem made_crossesC (n : Nat) : (madeCells (Value.agg #[.int .i64 0, .int .i64 0, .int .i64 0, .int .i64 0, .bool false]).cells (n * 5)).toList = crossCells (List.replicate n Cr.none) := by
  have e : (Value.agg #[.int .i64 0, .int .i64 0, .int .i64 0, .int .i64 0, .bool false]).cells = #[.int .i64 0, .int .i64 0, .int .i64 0, .int .i64 0, .bool false] := rfl
  rw [e]
  apply List.ext_getElem?
  intro j
  by_cases hj : j < n * 5
  · obtain ⟨q0, q1, q2, q3, q4⟩ := cells_get (List.replicate n Cr.none) (j / 5) (by simp; omega)
    have eg : (List.replicate n Cr.none).getD (j / 5) Cr.none = Cr.none := by
      rw [List.getD_eq_getElem?_getD, List.getElem?_replicate]; split <;> rfl
    rw [eg] at q0 q1 q2 q3 q4
    have hm : j % 5 = 0 ∨ j % 5 = 1 ∨ j % 5 = 2 ∨ j % 5 = 3 ∨ j % 5 = 4 := by omega
    simp only [madeCells]
    rcases hm with h | h | h | h | h
    · rw [show j / 5 * 5 = j by omega] at q0; rw [q0]; simp [hj, h, Cr.none]
    · rw [show j / 5 * 5 + 1 = j by omega] at q1; rw [q1]; simp [hj, h, Cr.none]
    · rw [show j / 5 * 5 + 2 = j by omega] at q2; rw [q2]; simp [hj, h, Cr.none]
    · rw [show j / 5 * 5 + 3 = j by omega] at q3; rw [q3]; simp [hj, h, Cr.none]
    · rw [show j / 5 * 5 + 4 = j by omega] at q4; rw [q4]; simp [hj, h, Cr.none]
  · rw [List.getElem?_eq_none (by simp [madeCells]; omega), List.getElem?_eq_none (by rw [cells_length]; simp; omega)]
/-- A link under way. -/
structure CdAt (w : World) (g m : Nat) (G : Nat → Int) (ar : Option Addr) (nr cr : Nat) (L : List (List Nat)) (W : World) : Prop where
  box : W.heap[w.heap.size]? = some (.cells #[.slice none 0 0, .int .i64 0] 24 (0, 0))
  row : W.ownsRow (w.heap.size + 1) 177 4 (.slice (some ⟨g, 0, none⟩) m m) m (crV m G)
  rings : NatsOwn W (w.heap.size + 1) (.slice ar nr cr) L
  bel : Below w.heap.size w W
theorem CdAt.any {w : World} {g m : Nat} {G : Nat → Int} {ar : Option Addr} {nr cr : Nat} {L : List (List Nat)} {W W' : World} (h : CdAt w g m G ar nr cr L W) (hg : W.grownBy W' none) : CdAt w g m G ar nr cr L W' :=
  ⟨(hg.block _ (Array.getElem?_eq_some_iff.1 h.box).1 (by simp)).trans h.box, own_any h.row hg, h.rings.any hg, h.bel.grown hg h.bel.size (fun q hq => by cases hq)⟩
theorem CdAt.num {w : World} {g m : Nat} {G G' : Nat → Int} {ar : Option Addr} {nr cr : Nat} {L : List (List Nat)} {W W' : World} (h : CdAt w g m G ar nr cr L W) (hg : W.grownBy W' (some g)) (hr : W'.ownsRow (w.heap.size + 1) 177 4 (.slice (some ⟨g, 0, none⟩) m m) m (crV m G')) : CdAt w g m G' ar nr cr L W' := by
  have hlt := (h.row.lt g rfl).1
  obtain ⟨ys, h1, h2, h3⟩ := h.rings
  exact ⟨(hg.block _ (Array.getElem?_eq_some_iff.1 h.box).1 (fun e => by have := Option.some.inj e; omega)).trans h.box, hr, ⟨ys, h1, h2.kept hg (own_ne h2 h.row (by decide)), fun j hj => (h3 j hj).kept hg (own_ne (h3 j hj) h.row (by decide))⟩, h.bel.grown hg h.bel.size (fun q hq => by have := Option.some.inj hq; omega)⟩

/-- Crossings told up to k. -/
def clTo (l : List Int) (G : Nat → Int) (m k : Nat) : List Cr := (List.range m).map fun i => if i < k then clX l G i else Cr.none
theorem clTo_len (l : List Int) (G : Nat → Int) (m k : Nat) : (clTo l G m k).length = m := by simp [clTo]
theorem clTo_zero (l : List Int) (G : Nat → Int) (m : Nat) : List.replicate m Cr.none = clTo l G m 0 := by
  apply List.ext_getElem?
  intro j
  by_cases hj : j < m <;> simp [clTo, hj]
theorem clTo_all (l : List Int) (G : Nat → Int) (m : Nat) : clTo l G m m = clC l G m := List.map_congr_left fun _ hj => if_pos (List.mem_range.1 hj)
theorem clTo_next (l : List Int) (G : Nat → Int) (m k : Nat) : (clTo l G m k).set k (clX l G k) = clTo l G m (k + 1) := by
  apply List.ext_getElem?
  intro j
  rw [List.getElem?_set, clTo_len]
  by_cases hj : j < m
  · by_cases e : k = j
    · subst e; simp [clTo, hj]
    · rw [if_neg e]
      simp only [clTo, List.getElem?_map, List.getElem?_range hj, Option.map_some]
      congr 1
      by_cases h2 : j < k
      · rw [if_pos h2, if_pos (by omega)]
      · rw [if_neg h2, if_neg (by omega)]
  · rw [List.getElem?_eq_none (show (clTo l G m (k + 1)).length ≤ j by rw [clTo_len]; omega)]
    split
    · rw [if_neg (by omega)]
    · rw [List.getElem?_eq_none (by rw [clTo_len]; omega)]
theorem toX_clX (l : List Int) (G : Nat → Int) (k : Nat) : toX (l.getD k 0) (G (sw (k * 4))) (G (sw (k * 4 + 1))) (G (sw (k * 4 + 2))) (G (sw (k * 4 + 3))) = clX l G k := by
  have e0 : sw (k * 4) = 4 * k := by unfold sw; rw [if_neg (by omega), if_neg (by omega)]; omega
  have e1 : sw (k * 4 + 1) = 4 * k + 1 := by unfold sw; rw [if_neg (by omega), if_neg (by omega)]; omega
  have e2 : sw (k * 4 + 2) = 4 * k + 3 := by unfold sw; rw [if_pos (by omega)]; omega
  have e3 : sw (k * 4 + 3) = 4 * k + 2 := by unfold sw; rw [if_neg (by omega), if_pos (by omega)]; omega
  rw [e0, e1, e2, e3]
  rfl
set_option maxHeartbeats 8000000 in
set_option maxRecDepth 100000 in
theorem closed_any (a ae : Option Addr) (c ce n : Nat) (l T : List Int) (w : World) (hw : ∀ j, j < l.length → 1 ≤ (l.getD j 0).natAbs ∧ (l.getD j 0).natAbs < n) (hn : n ≤ 6) (hl : l.length ≤ 16) (hT : T.length = n) (hTE : ∀ p, 1 ≤ p → p ≤ n → T.getD (p - 1) 0 = (pl l p l.length : Int))
    (h : RdAt w w.heap.size 1 (.slice a l.length c) l.length (intsV l)) (he : RdAt w w.heap.size 1 (.slice ae n ce) n (intsV T)) :
    Calls Try.prog 77 #[.slice a l.length c, .slice ae n ce] w fun e w' => ∃ a2 c2, e = .returned (.agg #[.slice a2 l.length c2, .int .i64 ((cF l (rgs (fun p => pl l p l.length) n).2).2.2 : Nat)]) ∧ w'.ownsRow w.heap.size 101 5 (.slice a2 l.length c2) l.length (crossCells (clC l (cF l (rgs (fun p => pl l p l.length) n).2).1 l.length)) ∧ Below w.heap.size w w' := by
  obtain ⟨i4, hk, hx0, hx1, hx2⟩ := info_parts infoCg
  obtain ⟨i5, hj, hy0, hy1, hy2⟩ := info_parts infoCross
  obtain ⟨i3, hp, hv0, hv1, hv2⟩ := info_parts infoPs
  have HE : Hid (∀ p, 1 ≤ p → p ≤ n → 1 ≤ (fun p => pl l p l.length) p ∧ (fun p => pl l p l.length) p ≤ n) := fun p h1 h2 => pl_rng hw h1 h2 l.length (Nat.le_refl _)
  obtain ⟨L, hL⟩ : ∃ L, (rgs (fun p => pl l p l.length) n).2 = L := ⟨_, rfl⟩
  have HLL : Hid (L.length ≤ 6) := (by rw [← hL]; have := rgs_len (fun p => pl l p l.length) n; omega : L.length ≤ 6)
  have HLM : Hid (∀ r ∈ L, r.length ≤ 7 ∧ ∀ q ∈ r, 1 ≤ q ∧ q ≤ n) := (by rw [← hL]; exact rgs_mem _ n HE.out n (Nat.le_refl _) : ∀ r ∈ L, r.length ≤ 7 ∧ ∀ q ∈ r, 1 ≤ q ∧ q ≤ n)
  have HLE : Hid (∀ k, k ≤ L.length → (cF l (L.take k)).2.1 ≤ 112 * k ∧ (cF l (L.take k)).2.2 ≤ k) := cF_le l hl L (fun r hr => (HLM.out r hr).1)
  have HRI : Hid (∀ W, Below w.heap.size w W → Calls Try.prog 122 #[.slice ae n ce] W fun e w' => ∃ v, e = .returned v ∧ NatsOwn w' W.heap.size v L ∧ Below W.heap.size W w') := fun W hW => by rw [← hL]; exact rings_any ae ce n T (fun p => pl l p l.length) W hn hT HE.out hTE ((he.on hW).mono hW.size)
  have HCL : Hid (∀ W p, Below w.heap.size w W → 1 ≤ p → p ≤ n → Calls Try.prog 123 #[.slice a l.length c, .int .i64 (p : Nat)] W fun e w' => ∃ a2 c2, e = .returned (.slice a2 (cl l p l.length).length c2) ∧ w'.ownsRow W.heap.size 203 3 (.slice a2 (cl l p l.length).length c2) (cl l p l.length).length (psV (cl l p l.length)) ∧ Below W.heap.size W w') := fun W p hW h1 h2 => climbed_any a c n p l W hw hn h1 h2 (by omega) ((h.on hW).mono hW.size)
  have HLT : Hid (∀ j, j < l.length → 1 ≤ (l.getD j 0).natAbs ∧ (l.getD j 0).natAbs < n) := hw
  have HRD : Hid (RdAt w w.heap.size 1 (.slice a l.length c) l.length (intsV l)) := h
  have HWL : Hid (∀ r : List Nat, (wk l r).length ≤ r.length * l.length) := wk_len l
  have HWM : Hid (∀ (r : List Nat) (q : Nat × Nat), q ∈ wk l r → q.1 < l.length ∧ q.2 < 2) := fun r q hq => wk_mem l r q hq
  have HCN : Hid (∀ p, (cl l p l.length).length ≤ 16) := fun p => Nat.le_trans (cl_len l p l.length) hl
  have HWA : Hid (∀ (r : List Nat) (p : Nat), wk l (r ++ [p]) = wk l r ++ cl l p l.length) := wk_app l
  rw [hL]
  clear hL h he hw hT hTE HE
  obtain ⟨m, hm⟩ : ∃ m, l.length = m := ⟨_, rfl⟩
  have HM : Hid (l.length = m) := hm
  rw [hm] at HCL HLT HWL HWM HCN HWA hl ⊢
  clear hm
  obtain ⟨Y, hY⟩ : ∃ Y, Y = w.alloc (.cells #[.slice none 0 0, .int .i64 0] 24) := ⟨_, rfl⟩
  have HY : Hid (Y = w.alloc (.cells #[.slice none 0 0, .int .i64 0] 24)) := hY
  have hsY : Y.heap.size = w.heap.size + 1 := by rw [hY]; simp
  have HSY : Hid (Y.heap.size = w.heap.size + 1) := hsY
  have HBY : Hid (Below w.heap.size w Y) := (by rw [hY]; exact (Below.refl _ _).alloc (Nat.le_refl _) _ : Below w.heap.size w Y)
  have HTY : Hid (Y.heap[w.heap.size]? = some (.cells #[.slice none 0 0, .int .i64 0] 24 (0, 0))) := (by rw [hY]; exact alloc_at rfl : Y.heap[w.heap.size]? = some (.cells #[.slice none 0 0, .int .i64 0] 24 (0, 0)))
  clear hY hsY
  go_enter Try.func77, Try.ntmps77
  go_wp2_with (first | (at_make; rw [← HY.out]; refine wpList_make_full _ rfl _ _ 172 rfl Y.heap.size 177 i4 (.agg #[.int .i64 0, .int .i64 0, .int .i64 0, .int .i64 0]) 4 Try.underlying172 hk hx0 hx1 .i64 .i64 _ _ m rfl rfl rfl rfl (by rw [hx2]; omega) (by unfold maxLen; omega) (by simp) ?_; intro w1 hrow1 hg1; refine Hid.out ?_))
  refine Lib.hid ?_
  rw [made_crV m] at hrow1
  obtain ⟨g, hg⟩ : ∃ g, Y.heap.size = g := ⟨_, rfl⟩
  rw [hg] at hrow1 ⊢
  have HG : Hid (g = w.heap.size + 1) := (by rw [← hg]; exact HSY.out : g = w.heap.size + 1)
  have HR1 : Hid (w1.ownsRow (w.heap.size + 1) 177 4 (.slice (some ⟨g, 0, none⟩) m m) m (crV m (fun _ => 0))) := (by rw [← HG.out]; exact hrow1 : w1.ownsRow (w.heap.size + 1) 177 4 (.slice (some ⟨g, 0, none⟩) m m) m (crV m (fun _ => 0)))
  have HB1 : Hid (Below w.heap.size w w1) := HBY.out.grown hg1 HBY.out.size (fun q hq => by cases hq)
  have HT1 : Hid (w1.heap[w.heap.size]? = some (.cells #[.slice none 0 0, .int .i64 0] 24 (0, 0))) := (hg1.block _ (by have := HSY.out; omega) (by simp)).trans HTY.out
  have HS1 : Hid (w.heap.size + 1 ≤ w1.heap.size) := (by have h1 := hg1.size; have := HSY.out; omega : w.heap.size + 1 ≤ w1.heap.size)
  clear hrow1 hg1 hg HBY HTY HY HSY
  go_wp2_with (go_at_call 122; refine (HRI.out _ HB1.out).mono ?_; rintro e9 w2 ⟨v2, rfl, hr2, hb2⟩; refine Hid.out ?_)
  refine Lib.hid ?_
  obtain ⟨ar, cr, ev⟩ := hr2.slice
  obtain ⟨nr, hnr⟩ : ∃ nr, L.length = nr := ⟨_, rfl⟩
  have HNR : Hid (L.length = nr) := hnr
  rw [hnr] at ev HLE HLL
  subst ev
  have HC2 : Hid (CdAt w g m (cF l (L.take 0)).1 ar nr cr L w2) := ⟨(hb2.block _ (by have := HS1.out; omega)).trans HT1.out, own_any HR1.out (grown_below hb2 none), hr2.low HS1.out, HB1.out.trans (hb2.mono HB1.out.size)⟩
  have hnr6 : nr ≤ 6 := HLL.out
  clear hr2 hb2 hnr HR1 HB1 HT1 HS1
  go_wp2
  go_loopw [6, 7, 22] (fun v6 v7 v22 wr => ∃ (j ac lo : Nat), j ≤ nr ∧ ac ≤ 112 * j ∧ lo ≤ j ∧ v6 = .int .i64 (ac : Nat) ∧ v7 = .int .i64 (lo : Nat) ∧ v22 = .int .i64 (j : Nat) ∧ Hid ((cF l (L.take j)).2.1 = ac ∧ (cF l (L.take j)).2.2 = lo) ∧ Hid (CdAt w g m (cF l (L.take j)).1 ar nr cr L wr)) (fun _ _ v22 _ => nr - (intOf v22).toNat)
  case atStart => exact ⟨0, 0, 0, Nat.zero_le _, Nat.le_refl _, Nat.le_refl _, rfl, rfl, rfl, ⟨rfl, rfl⟩, HC2.out⟩
  case round =>
    clear HC2
    rename World => W1
    obtain ⟨j, ac, lo, hjn, hac, hlo, rfl, rfl, rfl, HAL, hC⟩ := hrel
    by_cases hjl : j < nr
    · have hjI : (j : Int) < (nr : Int) := by omega
      have hrd := hC.out.rings.rd
      rw [← HNR.out] at hrd
      obtain ⟨b, off, arr, crr, ea, hlt, hc, hrow⟩ := hrd.row j (by rw [HNR.out]; exact hjl)
      have hmem : L.getD j [] ∈ L := by rw [List.getD_eq_getElem?_getD, List.getElem?_eq_getElem (by rw [HNR.out]; exact hjl)]; exact List.getElem_mem _
      have hmm := HLM.out _ hmem
      have HQN : Hid (cF l (L.take (j + 1)) = cS l (cF l (L.take j)) (L.getD j [])) := (by
        rw [List.take_succ_eq_append_getElem (by rw [HNR.out]; exact hjl), cF_app, List.getD_eq_getElem?_getD, List.getElem?_eq_getElem (by rw [HNR.out]; exact hjl)]
        rfl : cF l (L.take (j + 1)) = cS l (cF l (L.take j)) (L.getD j []))
      clear hrd hmem
      obtain ⟨r, hr⟩ : ∃ r, L.getD j [] = r := ⟨_, rfl⟩
      rw [hr] at hc hrow hmm HQN
      have HRM : Hid (∀ q ∈ r, 1 ≤ q ∧ q ≤ n) := hmm.2
      obtain ⟨k, hk⟩ : ∃ k, r.length = k := ⟨_, rfl⟩
      have HK : Hid (r.length = k) := hk
      have hk7 : k ≤ 7 := by rw [← hk]; exact hmm.1
      have HRW : Hid (RdAt W1 W1.heap.size 1 (.slice arr r.length crr) r.length (nats r)) := hrow
      rw [hk] at hc
      have HEA : Hid (ar = some ⟨b, off, none⟩) := ea
      have hlo6 : lo ≤ 6 := by omega
      have hac6 : ac ≤ 1000 := by omega
      subst ea
      clear hk hmm hrow hr
      go_wp2
      go_loopw [10, 28] (fun v10 v28 ws => ∃ (i n10 c10 : Nat) (a10 : Option Addr), i ≤ k ∧ n10 ≤ 16 * i ∧ v28 = .int .i64 (i : Nat) ∧ v10 = .slice a10 n10 c10 ∧ Hid ((wk l (r.take i)).length = n10) ∧ Hid (ws.ownsRow W1.heap.size 203 3 (.slice a10 n10 c10) n10 (psV (wk l (r.take i)))) ∧ Hid (Below W1.heap.size W1 ws)) (fun _ v28 _ => k - (intOf v28).toNat)
      case atStart => exact ⟨0, 0, 0, none, Nat.zero_le _, Nat.le_refl _, rfl, rfl, rfl, World.ownsRow_nil _ _ _ _, Below.refl _ _⟩
      case round =>
        rename World => W2
        obtain ⟨i, n10, c10, a10, hik, hn10, rfl, rfl, HN10, hO, hB⟩ := hrel
        by_cases hil : i < k
        · have hiI : (i : Int) < (k : Int) := by omega
          obtain ⟨b3, off3, ea3, hlt3, hc3⟩ := (HRW.out.on hB.out).nat i (by rw [HK.out]; exact hil)
          have hqm := HRM.out (r.getD i 0) (by rw [List.getD_eq_getElem?_getD, List.getElem?_eq_getElem (by rw [HK.out]; exact hil)]; exact List.getElem_mem _)
          have HTK : Hid (wk l (r.take (i + 1)) = wk l (r.take i) ++ cl l (r.getD i 0) m) := (by
            rw [List.take_succ_eq_append_getElem (by rw [HK.out]; exact hil), HWA.out, List.getD_eq_getElem?_getD, List.getElem?_eq_getElem (by rw [HK.out]; exact hil)]
            rfl : wk l (r.take (i + 1)) = wk l (r.take i) ++ cl l (r.getD i 0) m)
          obtain ⟨p, hpp⟩ : ∃ p, r.getD i 0 = p := ⟨_, rfl⟩
          rw [hpp] at hc3 hqm HTK
          have HF := HCL.out W2 p (hC.out.bel.trans (hB.out.mono hC.out.bel.size)) hqm.1 hqm.2
          have hcn := HCN.out p
          obtain ⟨n2, hn2⟩ : ∃ n2, (cl l p m).length = n2 := ⟨_, rfl⟩
          rw [hn2] at HF hcn
          have HN2 : Hid ((cl l p m).length = n2) := hn2
          have HFF : Hid (Calls Try.prog 123 #[.slice a m c, .int .i64 (p : Nat)] W2 fun e w' => ∃ a2 c2, e = .returned (.slice a2 n2 c2) ∧ w'.ownsRow W2.heap.size 203 3 (.slice a2 n2 c2) n2 (psV (cl l p m)) ∧ Below W2.heap.size W2 w') := HF
          have lb3 : b3 < W2.heap.size := Nat.lt_of_lt_of_le hlt3 hB.out.size
          subst ea3
          clear HF hn2 hpp
          go_wp2_with (first
            | (at_builtin; refine wpList_append_in rfl _ _ 174 rfl W1.heap.size 203 i3 (.agg #[.int .i64 0, .int .i64 0, .int .i64 0]) 3 24 Try.underlying174 hp hv0 hv1 hv2 rfl (by decide) _ _ _ rfl HO5.out _ w5.heap.size n2 (psV (cl l p m)) rfl HI5.out (by rw [psV_len, HN2.out]) (psV_one _) (by unfold maxLen; omega) (by omega) HB5.out.2 ?_; intro v8 w8 hown8 hg8; refine Hid.out ?_)
            | (go_at_call 123; refine HFF.out.mono ?_; rintro e9 w5 ⟨a5, c5, rfl, hr5, hb5⟩; have HO5 : Hid (w5.ownsRow W1.heap.size 203 3 (.slice a10 n10 c10) n10 (psV (wk l (r.take i)))) := own_any hO.out (grown_below hb5 none); have HI5 : Hid (InAt w5 w5.heap.size 3 (.slice a5 n2 c5) n2 (psV (cl l p m))) := own_in hr5; have HB5 : Hid (Below W1.heap.size W1 w5 ∧ W1.heap.size ≤ w5.heap.size) := ⟨hB.out.trans (hb5.mono hB.out.size), Nat.le_trans hB.out.size hb5.size⟩; clear hr5 hb5))
          refine Lib.hid ?_
          obtain ⟨a8, c8, rfl⟩ := own_capS hown8
          have HO8 : Hid (w8.ownsRow W1.heap.size 203 3 (.slice a8 (n10 + n2) c8) (n10 + n2) (psV (wk l (r.take (i + 1))))) := (by rw [HTK.out, psV_app]; exact hown8 : w8.ownsRow W1.heap.size 203 3 (.slice a8 (n10 + n2) c8) (n10 + n2) (psV (wk l (r.take (i + 1)))))
          have HB8 : Hid (Below W1.heap.size W1 w8) := HB5.out.1.grown hg8 HB5.out.2 (fun q hq => (HO5.out.lt q hq).1)
          have HL8 : Hid ((wk l (r.take (i + 1))).length = n10 + n2) := (by rw [HTK.out, List.length_append, HN10.out, HN2.out] : (wk l (r.take (i + 1))).length = n10 + n2)
          clear hown8 hg8
          go_wp2
          go_roundw
          case rel => exact ⟨i + 1, n10 + n2, c8, a8, by omega, by omega, by go_num, rfl, HL8.out, HO8.out, HB8.out⟩
          case measure => simp only [intOf]; omega
        · obtain rfl : i = k := by omega
          have HTW : Hid (r.take i = r) := (by rw [← HK.out]; exact List.take_length : r.take i = r)
          rw [HTW.out] at HN10 hO
          have hC2 := hC.out.any (grown_below hB.out none)
          have HNU : Hid (Calls Try.prog 124 #[.slice (some ⟨g, 0, none⟩) m m, .slice a10 n10 c10, .int .i64 (ac : Nat)] W2 fun e w' => e = .returned (.tuple #[]) ∧ CdAt w g m (cF l (L.take (j + 1))).1 (some ⟨b, off, none⟩) nr cr L w') := (by
            have h1 := number_any (w.heap.size + 1) W1.heap.size g m m ac a10 c10 (wk l r) (cF l (L.take j)).1 W2 (by omega) (by rw [HN10.out]; omega) (HWM.out r) hC2.row (by rw [HN10.out]; exact hO.out)
            rw [HN10.out] at h1
            refine h1.mono ?_
            rintro e9 w9 ⟨rfl, h2, h3⟩
            refine ⟨rfl, hC2.num h3 ?_⟩
            rw [HQN.out]
            unfold cS
            rw [HAL.out.1]
            exact h2)
          have HLO : Hid ((cF l (L.take (j + 1))).2.1 = ac + n10 ∧ (cF l (L.take (j + 1))).2.2 = lo + if n10 = 0 then 1 else 0) := (by
            rw [HQN.out]
            unfold cS
            rw [HAL.out.1, HAL.out.2, HN10.out]
            exact ⟨rfl, rfl⟩ : (cF l (L.take (j + 1))).2.1 = ac + n10 ∧ (cF l (L.take (j + 1))).2.2 = lo + if n10 = 0 then 1 else 0)
          have hacn : ac + n10 ≤ 112 * (j + 1) := by omega
          clear hC2
          by_cases h0 : n10 = 0
          · have t0 : ((n10 : Int) == 0) = true := by rw [h0]; rfl
            rw [if_pos h0] at HLO
            clear h0
            go_wp2_with (go_at_call 124; refine HNU.out.mono ?_; rintro e9 w9 ⟨rfl, h9⟩; have H9 : Hid (CdAt w g m (cF l (L.take (j + 1))).1 (some ⟨b, off, none⟩) nr cr L w9) := h9; clear h9)
            go_roundw
            case rel => exact ⟨j + 1, ac + n10, lo + 1, by omega, hacn, by omega, by go_num, by go_num, by go_num, HLO.out, H9.out⟩
            case measure => simp only [intOf]; omega
          · have t0 : ((n10 : Int) == 0) = false := by rw [beq_eq_false_iff_ne]; omega
            rw [if_neg h0] at HLO
            clear h0
            go_wp2_with (go_at_call 124; refine HNU.out.mono ?_; rintro e9 w9 ⟨rfl, h9⟩; have H9 : Hid (CdAt w g m (cF l (L.take (j + 1))).1 (some ⟨b, off, none⟩) nr cr L w9) := h9; clear h9)
            go_roundw
            case rel => exact ⟨j + 1, ac + n10, lo, by omega, hacn, by omega, by go_num, rfl, by go_num, HLO.out, H9.out⟩
            case measure => simp only [intOf]; omega
    · obtain rfl : j = nr := by omega
      have HTL : Hid (L.take j = L) := (by rw [← HNR.out]; exact List.take_length : L.take j = L)
      rw [HTL.out] at HAL hC
      obtain ⟨G, hG⟩ : ∃ G, (cF l L).1 = G := ⟨_, rfl⟩
      have HGG : Hid ((cF l L).1 = G) := hG
      rw [hG] at hC
      clear hG hjl HLE HRI HCL HWL HWM HCN HWA HLM
      have HLO : Hid ((cF l L).2.2 = lo) := HAL.out.2
      go_wp2_with (first | (at_make; refine wpList_make_full _ rfl _ _ 22 rfl W1.heap.size 101 i5 (.agg #[.int .i64 0, .int .i64 0, .int .i64 0, .int .i64 0, .bool false]) 5 Try.underlying22 hj hy0 hy1 .i64 .i64 _ _ m rfl rfl rfl rfl (by rw [hy2]; omega) (by unfold maxLen; omega) (by simp) ?_; intro w5 hrow hg5; refine Hid.out ?_))
      refine Lib.hid ?_
      rw [made_crossesC m, clTo_zero l G m] at hrow
      have HR5 : Hid (w5.ownsRow W1.heap.size 101 5 (.slice (some ⟨W1.heap.size, 0, none⟩) m m) m (crossCells (clTo l G m 0))) := hrow
      have HC5 : Hid (CdAt w g m G ar j cr L w5) := hC.out.any hg5
      have hgl : w.heap.size < W1.heap.size := (Array.getElem?_eq_some_iff.1 hC.out.box).1
      generalize W1.heap.size = g7 at HR5 hgl ⊢
      clear hrow hg5 hC
      go_wp2
      go_loopw [57] (fun v57 wr => ∃ k : Nat, k ≤ m ∧ v57 = .int .i64 (k : Nat) ∧ Hid (CdAt w g m G ar j cr L wr) ∧ Hid (wr.ownsRow g7 101 5 (.slice (some ⟨g7, 0, none⟩) m m) m (crossCells (clTo l G m k)))) (fun v57 _ => m - (intOf v57).toNat)
      case atStart => exact ⟨0, Nat.zero_le _, rfl, HC5.out, HR5.out⟩
      case round =>
        clear HC5 HR5
        rename World => W2
        obtain ⟨k, hkm, rfl, hst, hrw⟩ := hrel
        by_cases hkl : k < m
        · have hkI : (k : Int) < (m : Int) := by omega
          obtain ⟨b, off, ea, hlt, hc⟩ := (HRD.out.on hst.out.bel).intAt k (by rw [HM.out]; exact hkl)
          have e0 := hst.out.row.cellAt (k * 4) (by omega)
          have e1 := hst.out.row.cellAt (k * 4 + 1) (by omega)
          have e2 := hst.out.row.cellAt (k * 4 + 2) (by omega)
          have e3 := hst.out.row.cellAt (k * 4 + 3) (by omega)
          rw [crV_get _ _ _ (by omega)] at e0 e1 e2 e3
          have HX := toX_clX l G k
          have HNX := clTo_next l G m k
          generalize l.getD k 0 = x at hc HX
          generalize G (sw (k * 4)) = A0 at e0 HX
          generalize G (sw (k * 4 + 1)) = A1 at e1 HX
          generalize G (sw (k * 4 + 2)) = A2 at e2 HX
          generalize G (sw (k * 4 + 3)) = A3 at e3 HX
          have HTD : Hid (∀ W, Calls Try.prog 125 #[.agg #[.int .i64 A0, .int .i64 A1, .int .i64 A2, .int .i64 A3], .int .i64 x] W fun e w' => ∃ y : Cr, y = clX l G k ∧ e = .returned (.agg #[.int .i64 y.a, .int .i64 y.b, .int .i64 y.c, .int .i64 y.d, .bool y.plus]) ∧ Below W.heap.size W w') := fun W => (clTold_any x A0 A1 A2 A3 W).mono fun e w' h => ⟨_, HX, h.1, h.2⟩
          have HNXT := hid_mkC HNX
          have lg := (hst.out.row.lt g rfl).2
          have l7a := (hrw.out.lt g7 rfl).2
          have lb : b < W2.heap.size := Nat.lt_of_lt_of_le hlt hst.out.bel.size
          subst ea
          clear HX HNX
          go_wp2_with (go_at_call 125; refine (HTD.out _).mono ?_; rintro e9 w7 ⟨y, hy, rfl, hb7⟩; have HXX : Hid (y = clX l G k) := hy; clear hy; refine Hid.out ?_)
          refine Lib.hid ?_
          have HS7 : Hid (CdAt w g m G ar j cr L w7) := hst.out.any (grown_below hb7 none)
          have hr7 : w7.ownsRow g7 101 5 (.slice (some ⟨g7, 0, none⟩) m m) m (crossCells (clTo l G m k)) := own_any hrw.out (grown_below hb7 none)
          have hp := put5R (c := k) hr7 (by rw [clTo_len]; exact hkl) y
          have hnx := HNXT.out
          rw [← HXX.out] at hnx
          rw [hnx] at hp
          have hcl : (crossCells (clTo l G m k)).length = m * 5 := by rw [cells_length, clTo_len]
          have HP : Hid ((st5R w7 g7 k y).ownsRow g7 101 5 (.slice (some ⟨g7, 0, none⟩) m m) m (crossCells (clTo l G m (k + 1))) ∧ w7.grownBy (st5R w7 g7 k y) (some g7)) := hp
          obtain ⟨cg0, cg1, cg2, cg3, cg4⟩ := cells_get (clTo l G m k) k (by rw [clTo_len]; exact hkl)
          have v0 := (hr7.cellAt (k * 5) (by omega)).trans cg0
          have v1 := (hr7.cellAt (k * 5 + 1) (by omega)).trans cg1
          have v2 := (hr7.cellAt (k * 5 + 2) (by omega)).trans cg2
          have v3 := (hr7.cellAt (k * 5 + 3) (by omega)).trans cg3
          have v4 := (hr7.cellAt (k * 5 + 4) (by omega)).trans cg4
          have y0 : w7.frozen? ⟨g7, k * 5, none⟩ = false := hr7.frozenAt _
          have y1 : w7.frozen? ⟨g7, k * 5 + 1, none⟩ = false := hr7.frozenAt _
          have y2 : w7.frozen? ⟨g7, k * 5 + 2, none⟩ = false := hr7.frozenAt _
          have y3 : w7.frozen? ⟨g7, k * 5 + 3, none⟩ = false := hr7.frozenAt _
          have y4 : w7.frozen? ⟨g7, k * 5 + 4, none⟩ = false := hr7.frozenAt _
          have l7 := (hr7.lt g7 rfl).2
          have HSQ : Hid (CdAt w g m G ar j cr L (st5R w7 g7 k y)) := (by
            obtain ⟨ys, h1, h2, h3⟩ := HS7.out.rings
            have hgr := HP.out.2
            exact ⟨(hgr.block _ (Array.getElem?_eq_some_iff.1 HS7.out.box).1 (fun e => by have := Option.some.inj e; omega)).trans HS7.out.box, HS7.out.row.kept hgr (own_ne HS7.out.row hr7 (by decide)), ⟨ys, h1, h2.kept hgr (own_ne h2 hr7 (by decide)), fun j hj => (h3 j hj).kept hgr (own_ne (h3 j hj) hr7 (by decide))⟩, HS7.out.bel.grown hgr HS7.out.bel.size (fun q hq => by have := Option.some.inj hq; omega)⟩)
          clear hb7 hp hcl hnx cg0 cg1 cg2 cg3 cg4 hr7 e0 e1 e2 e3 hst hrw
          generalize (clTo l G m k).getD k Cr.none = y9 at v0 v1 v2 v3 v4
          go_wp2
          obtain ⟨Q, hQ⟩ : ∃ Q, Q = st5R w7 g7 k y := ⟨_, rfl⟩
          have HFN : Hid (CdAt w g m G ar j cr L Q ∧ Q.ownsRow g7 101 5 (.slice (some ⟨g7, 0, none⟩) m m) m (crossCells (clTo l G m (k + 1)))) := (by
            rw [hQ]
            exact ⟨HSQ.out, HP.out.1⟩)
          unfold st5R at hQ
          rw [← hQ]
          clear hQ v0 v1 v2 v3 v4 y0 y1 y2 y3 y4
          go_roundw
          case rel => exact ⟨k + 1, by omega, by go_num, HFN.out.1, HFN.out.2⟩
          case measure => simp only [intOf]; omega
        · obtain rfl : k = m := by omega
          have HFN : Hid (W2.ownsRow g7 101 5 (.slice (some ⟨g7, 0, none⟩) k k) k (crossCells (clC l (cF l L).1 k)) ∧ Below w.heap.size w W2) := ⟨by rw [HGG.out, ← clTo_all]; exact hrw.out, hst.out.bel⟩
          have HBX : Hid (W2.heap[w.heap.size]? = some (.cells #[.slice none 0 0, .int .i64 0] 24 (0, 0))) := hst.out.box
          have r0 : W2.cell? ⟨w.heap.size, 0, none⟩ = some (.slice none 0 0) := block_cell HBX.out rfl
          have r1 : W2.cell? ⟨w.heap.size, 1, none⟩ = some (.int .i64 0) := block_cell HBX.out rfl
          have f0 : W2.frozen? ⟨w.heap.size, 0, none⟩ = false := block_frozen HBX.out
          have f1 : W2.frozen? ⟨w.heap.size, 1, none⟩ = false := block_frozen HBX.out
          have lw : w.heap.size < W2.heap.size := (Array.getElem?_eq_some_iff.1 HBX.out).1
          clear hst hrw
          go_wp2
          have hX := set_block (i := 1) (u := .int .i64 (lo : Nat)) (set_block (i := 0) (u := .slice (some ⟨g7, 0, none⟩) k k) HBX.out)
          have x0 := block_cell (i := 0) (v := .slice (some ⟨g7, 0, none⟩) k k) hX rfl
          have x1 := block_cell (i := 1) (v := .int .i64 (lo : Nat)) hX rfl
          refine bodyPost_ret (v := .agg #[.slice (some ⟨g7, 0, none⟩) k k, .int .i64 (lo : Nat)]) (by simp [results, Try.results77, go_sem, x0, x1]) rfl ⟨some ⟨g7, 0, none⟩, k, by rw [HLO.out], ?_, ?_⟩
          · refine own_low ((HFN.out.1.kept (set_grown _ _ _ _) ?_).kept (set_grown _ _ _ _) ?_) (by omega)
            · exact Or.inr (fun e => by have h1 : g7 = w.heap.size := Option.some.inj e; omega)
            · exact Or.inr (fun e => by have h1 : g7 = w.heap.size := Option.some.inj e; omega)
          · have hst : ∀ (W : World) (u : Value) (i : Nat), Below w.heap.size w W → Below w.heap.size w (W.setCell ⟨w.heap.size, i, none⟩ u) := fun W u i h => h.grown (set_grown W w.heap.size i u) h.size (fun q hq => by have := Option.some.inj hq; omega)
            exact hst _ _ _ (hst _ _ _ HFN.out.2)
end Go.Proofs.Ytfceigcjonlhkaa

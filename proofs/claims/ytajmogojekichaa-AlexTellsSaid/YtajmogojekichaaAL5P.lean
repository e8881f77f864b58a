/- Several texts of the proof, one behind the other. -/
import Derived.Test.YtajmogojekichaaMoP
import Derived.Test.YtajmogojekichaaPB5P
import Derived.Test.YtajmogojekichaaPB7
import Derived.Test.YtajmogojekichaaW5P
/- The walk of ref.TableOf. -/
namespace Go.Proofs.Ytajmogojekichaa
open Go.RowKit

theorem putL_nil (e c : Int) (h : c ≠ 0) : Poly.putL [] e c = [(e, c)] := by
  simp [Poly.putL, h, Poly.ahead]
theorem put_own (B : Nat) (v : Value) (l : List (Int × Int)) (e c : Int) (w : World) (hl : l.length ≤ 100) (hc0 : c ≠ 0) (hc : -100 ≤ c ∧ c ≤ 100) (hbl : ∀ t ∈ l, -1000 ≤ t.2 ∧ t.2 ≤ 1000) (h : w.ownsRow B 124 2 v l.length (Poly.flat l)) :
    Calls Try.prog 142 #[v, .int .i64 e, .int .i64 c] w fun r w' => ∃ v', r = .returned v' ∧ w'.ownsRow w.heap.size 124 2 v' (Poly.putL l e c).length (Poly.flat (Poly.putL l e c)) ∧ Below w.heap.size w w' := by
  rcases Nat.eq_zero_or_pos l.length with h0 | h0
  · have e0 : l = [] := List.length_eq_zero_iff.1 h0
    subst e0
    rw [putL_nil e c hc0]
    rcases h.2 with ⟨rfl, _⟩ | ⟨g, cap, cur, rfl, _⟩
    · exact Poly.put_nil e c w hc0
    · exact Poly.put_empty ⟨g, 0, none⟩ cap e c w hc0
  · have hP := Poly.PolyC.ofRow h
    rcases hP.1 with ⟨rfl, e0⟩ | ⟨a, cap, rfl, e0⟩ | ⟨b, off, cap, rfl, hlt, hT⟩
    · rw [e0] at h0; simp at h0
    · rw [e0] at h0; simp at h0
    · obtain ⟨a', n', c', e', h1, h2⟩ := hP.2
      injection e' with q1 q2 q3
      exact Poly.put_some b off cap l e c w h0 (by omega) (by omega) (by omega) hc0 (by omega) (by omega) (fun t ht => by have := hbl t ht; omega) hlt hT
theorem aPol_bd {x y : Int} (hx : -100 ≤ x ∧ x ≤ 100) (hy : -100 ≤ y ∧ y ≤ 100) : ∀ t ∈ aPol x y, -1000 ≤ t.2 ∧ t.2 ≤ 1000 := by
  intro t ht
  unfold aPol at ht
  rcases List.mem_append.1 ht with q | q
  · by_cases h : x = 0
    · simp [h] at q
    · simp [h] at q; rw [q]; simp only; omega
  · by_cases h : y = 0
    · simp [h] at q
    · simp [h] at q; rw [q]; simp only; omega
/-- Put at 0 and at 1, of what stands at a place. -/
theorem put_zero' (B : Nat) (v : Value) (x y c : Int) (w : World) (hx : -10 ≤ x ∧ x ≤ 10) (hy : -10 ≤ y ∧ y ≤ 10) (hc0 : c ≠ 0) (hc : -1 ≤ c ∧ c ≤ 1) (h : w.ownsRow B 124 2 v (aPol x y).length (Poly.flat (aPol x y))) :
    Calls Try.prog 142 #[v, .int .i64 0, .int .i64 c] w fun r w' => ∃ v', r = .returned v' ∧ w'.ownsRow w.heap.size 124 2 v' (aPol (x + c) y).length (Poly.flat (aPol (x + c) y)) ∧ Below w.heap.size w w' := by
  have := put_own B v (aPol x y) 0 c w (Nat.le_trans (aPol_len x y) (by decide)) hc0 (by omega) (aPol_bd (by omega) (by omega)) h
  rw [aPol_put0] at this
  exact this
theorem put_one' (B : Nat) (v : Value) (x y c : Int) (w : World) (hx : -10 ≤ x ∧ x ≤ 10) (hy : -10 ≤ y ∧ y ≤ 10) (hc0 : c ≠ 0) (hc : -1 ≤ c ∧ c ≤ 1) (h : w.ownsRow B 124 2 v (aPol x y).length (Poly.flat (aPol x y))) :
    Calls Try.prog 142 #[v, .int .i64 1, .int .i64 c] w fun r w' => ∃ v', r = .returned v' ∧ w'.ownsRow w.heap.size 124 2 v' (aPol x (y + c)).length (Poly.flat (aPol x (y + c))) ∧ Below w.heap.size w w' := by
  have := put_own B v (aPol x y) 1 c w (Nat.le_trans (aPol_len x y) (by decide)) hc0 (by omega) (aPol_bd (by omega) (by omega)) h
  rw [aPol_put1] at this
  exact this
theorem TbP.any {B m k : Nat} {v : Value} {gs : Nat → Nat} {vals : Nat → Nat → Value} {G : Nat → Nat → Int × Int} {w w' : World} (h : w.ownsRow B 130 1 v k (valsL k fun i => .slice (some ⟨gs i, 0, none⟩) m m) ∧ ∀ i, i < k → PlcAt B m (gs i) (vals i) (G i) w) (hg : w.grownBy w' none) : w'.ownsRow B 130 1 v k (valsL k fun i => .slice (some ⟨gs i, 0, none⟩) m m) ∧ ∀ i, i < k → PlcAt B m (gs i) (vals i) (G i) w' := ⟨own_any h.1 hg, fun i hi => (h.2 i hi).any hg⟩
/-- A table under way by append. -/
structure TbP (B m k : Nat) (v : Value) (gs : Nat → Nat) (vals : Nat → Nat → Value) (G : Nat → Nat → Int × Int) (wr : World) : Prop where
  outer : wr.ownsRow B 130 1 v k (valsL k fun i => .slice (some ⟨gs i, 0, none⟩) m m)
  each : ∀ i, i < k → PlcAt B m (gs i) (vals i) (G i) wr

/-- A row more, by append. -/
theorem TbP.more {B m k g : Nat} {v v' : Value} {gs : Nat → Nat} {vals : Nat → Nat → Value} {vs : Nat → Value} {G : Nat → Nat → Int × Int} {W W' : World} (h : TbP B m k v gs vals G W) (hr : PlcAt B m g vs (G k) W)
    (hg : W.grownBy W' v.ownBlock) (ho : W'.ownsRow B 130 1 v' (k + 1) (valsL k (fun i => .slice (some ⟨gs i, 0, none⟩) m m) ++ [.slice (some ⟨g, 0, none⟩) m m])) : TbP B m (k + 1) v' (fun i => if i = k then g else gs i) (fun i => if i = k then vs else vals i) G W' := by
  refine ⟨?_, fun i hi => ?_⟩
  · have e : valsL (k + 1) (fun i => .slice (some ⟨if i = k then g else gs i, 0, none⟩) m m) = valsL k (fun i => .slice (some ⟨gs i, 0, none⟩) m m) ++ [.slice (some ⟨g, 0, none⟩) m m] := by
      unfold valsL
      rw [List.range_succ, List.map_append]
      congr 1
      · refine List.map_congr_left fun i hi => ?_
        have h : i ≠ k := by have := List.mem_range.1 hi; omega
        simp [h]
      · simp
    rw [e]
    exact ho
  · have one : ∀ {g : Nat} {vs : Nat → Value} {F : Nat → Int × Int}, PlcAt B m g vs F W → PlcAt B m g vs F W' := fun hq => ⟨hq.row.kept hg (own_ne hq.row h.outer (by decide)), fun j hj => (hq.each j hj).kept hg (own_ne (hq.each j hj) h.outer (by decide))⟩
    by_cases e : i = k
    · rw [if_pos e, if_pos e, e]
      exact one hr
    · rw [if_neg e, if_neg e]
      exact one (h.each i (by omega))
/-- Where a round of TableOf stands. -/
structure TbSt (w3 : World) (h4 k m : Nat) (v : Value) (gs : Nat → Nat) (vals : Nat → Nat → Value) (G : Nat → Nat → Int × Int) (bc : Array Value) (F : Nat → Int × Int) (X : World) : Prop where
  plc : ∃ vs, PlcAt w3.heap.size m (h4 + 1) vs F X
  box : X.heap[h4]? = some (.cells bc 99 (0, 0))
  tab : TbP w3.heap.size m k v gs vals G X
  bel : Below w3.heap.size w3 X
  old : ∀ i, i < k → gs i < h4
  big : w3.heap.size ≤ h4
theorem TbSt.on {w3 : World} {h4 k m : Nat} {v : Value} {gs : Nat → Nat} {vals : Nat → Nat → Value} {G : Nat → Nat → Int × Int} {bc : Array Value} {F : Nat → Int × Int} {X Y : World} (h : TbSt w3 h4 k m v gs vals G bc F X) (hb : Below X.heap.size X Y) : TbSt w3 h4 k m v gs vals G bc F Y := by
  obtain ⟨vs, hp⟩ := h.plc
  have hg := grown_below hb none
  exact ⟨⟨vs, hp.any hg⟩, (hb.block _ (Array.getElem?_eq_some_iff.1 h.box).1).trans h.box, ⟨own_any h.tab.outer hg, fun i hi => (h.tab.each i hi).any hg⟩, h.bel.trans (hb.mono h.bel.size), h.old, h.big⟩
theorem TbSt.set {w3 : World} {h4 k m : Nat} {v : Value} {gs : Nat → Nat} {vals : Nat → Nat → Value} {G : Nat → Nat → Int × Int} {bc : Array Value} {F : Nat → Int × Int} {X Y : World} (h : TbSt w3 h4 k m v gs vals G bc F X) (hb : Below X.heap.size X Y) (p : Nat) (dx dy : Int) (u : Value)
    (hv : Y.ownsRow X.heap.size 124 2 u (aPol ((F p).1 + dx) ((F p).2 + dy)).length (Poly.flat (aPol ((F p).1 + dx) ((F p).2 + dy)))) : TbSt w3 h4 k m v gs vals G bc (addF F p dx dy) (Y.setCell ⟨h4 + 1, p, none⟩ u) := by
  have h1 := h.on hb
  obtain ⟨vs, hp⟩ := h.plc
  have hpY := hp.any (grown_below hb none)
  have hg := (hpY.row.stored p u).2
  have hbig := h.big
  refine ⟨⟨_, hp.set hb h.bel.size p dx dy u hv⟩, (hg.block _ (Array.getElem?_eq_some_iff.1 h1.box).1 (fun e => by have := Option.some.inj e; omega)).trans h1.box, ⟨h1.tab.outer.kept hg (own_ne h1.tab.outer hpY.row (by decide)), fun i hi => ?_⟩, h1.bel.grown hg h1.bel.size (fun q hq => by have := Option.some.inj hq; omega), h.old, h.big⟩
  have hi2 := h.old i hi
  have hq := h1.tab.each i hi
  exact ⟨hq.row.kept hg (Or.inr (fun e => by have e2 : gs i = h4 + 1 := Option.some.inj e; omega)), fun j hj => (hq.each j hj).kept hg (own_ne (hq.each j hj) hpY.row (by decide))⟩

/-- What stands at a place of the row, and what Put makes of it. -/
theorem TbSt.take {w3 : World} {h4 k m : Nat} {v : Value} {gs : Nat → Nat} {vals : Nat → Nat → Value} {G : Nat → Nat → Int × Int} {bc : Array Value} {F : Nat → Int × Int} {X : World} (h : TbSt w3 h4 k m v gs vals G bc F X) (hF : smallF F 9) (p : Nat) (hp : p < m) :
    ∃ av la cv, X.cell? ⟨h4 + 1, p, none⟩ = some (.slice av la cv) ∧ (∀ Y, Below X.heap.size X Y → Y.cell? ⟨h4 + 1, p, none⟩ = some (.slice av la cv) ∧ Y.frozen? ⟨h4 + 1, p, none⟩ = false ∧ h4 + 1 < Y.heap.size)
      ∧ (∀ c : Int, -1 ≤ c → c ≤ 1 → c ≠ 0 → Calls Try.prog 142 #[.slice av la cv, .int .i64 0, .int .i64 c] X fun r Y => ∃ a5 n5 c5, r = .returned (.slice a5 n5 c5) ∧ Y.ownsRow X.heap.size 124 2 (.slice a5 n5 c5) (aPol ((F p).1 + c) ((F p).2 + 0)).length (Poly.flat (aPol ((F p).1 + c) ((F p).2 + 0))) ∧ Below X.heap.size X Y)
      ∧ (∀ c : Int, -1 ≤ c → c ≤ 1 → c ≠ 0 → Calls Try.prog 142 #[.slice av la cv, .int .i64 1, .int .i64 c] X fun r Y => ∃ a5 n5 c5, r = .returned (.slice a5 n5 c5) ∧ Y.ownsRow X.heap.size 124 2 (.slice a5 n5 c5) (aPol ((F p).1 + 0) ((F p).2 + c)).length (Poly.flat (aPol ((F p).1 + 0) ((F p).2 + c))) ∧ Below X.heap.size X Y)
      ∧ (Calls Try.prog 142 #[.slice av la cv, .int .i64 1, .int .i64 1] X fun r Y => ∃ a5 n5 c5, r = .returned (.slice a5 n5 c5) ∧ Below X.heap.size X Y ∧ Calls Try.prog 142 #[.slice a5 n5 c5, .int .i64 0, .int .i64 (-1)] Y fun r' Z => ∃ a6 n6 c6, r' = .returned (.slice a6 n6 c6) ∧ Z.ownsRow X.heap.size 124 2 (.slice a6 n6 c6) (aPol ((F p).1 + -1) ((F p).2 + 1)).length (Poly.flat (aPol ((F p).1 + -1) ((F p).2 + 1))) ∧ Below X.heap.size X Z) := by
  obtain ⟨vs, hpl⟩ := h.plc
  have hev := hpl.each p hp
  obtain ⟨av, cv, ev⟩ := own_capS hev
  have hs := hF p
  refine ⟨av, (aPol (F p).1 (F p).2).length, cv, ?_, fun Y hb => ?_, fun c h1 h2 h3 => ?_, fun c h1 h2 h3 => ?_, ?_⟩
  · rw [hpl.row.cellAt p (by omega), valsL_get _ _ _ hp, ev]
  · have hq := (hpl.any (grown_below hb none)).row
    exact ⟨by rw [hq.cellAt p (by omega), valsL_get _ _ _ hp, ev], hq.frozenAt p, (hq.lt _ rfl).2⟩
  · rw [ev] at hev
    refine (put_zero' _ _ (F p).1 (F p).2 c X (by omega) (by omega) h3 ⟨h1, h2⟩ hev).mono ?_
    rintro r Y ⟨v', e1, hr, hb⟩
    obtain ⟨a5, c5, e5⟩ := own_capS hr
    rw [Int.add_zero]
    exact ⟨a5, _, c5, by rw [e1, e5], e5 ▸ hr, hb⟩
  · rw [ev] at hev
    refine (put_one' _ _ (F p).1 (F p).2 c X (by omega) (by omega) h3 ⟨h1, h2⟩ hev).mono ?_
    rintro r Y ⟨v', e1, hr, hb⟩
    obtain ⟨a5, c5, e5⟩ := own_capS hr
    rw [Int.add_zero]
    exact ⟨a5, _, c5, by rw [e1, e5], e5 ▸ hr, hb⟩
  · rw [ev] at hev
    refine (put_one' _ _ (F p).1 (F p).2 1 X (by omega) (by omega) (by omega) (by omega) hev).mono ?_
    rintro r Y ⟨v', e1, hr, hb⟩
    obtain ⟨a5, c5, e5⟩ := own_capS hr
    subst e5
    refine ⟨a5, _, c5, e1, hb, ?_⟩
    refine (put_zero' _ _ (F p).1 ((F p).2 + 1) (-1) Y (by omega) (by omega) (by omega) (by omega) hr).mono ?_
    rintro r' Z ⟨v'', e2, hr2, hb2⟩
    obtain ⟨a6, c6, e6⟩ := own_capS hr2
    subst e6
    exact ⟨a6, _, c6, e2, own_low hr2 hb.size, hb.trans (hb2.mono hb.size)⟩

set_option maxHeartbeats 8000000 in
set_option maxRecDepth 100000 in
theorem tableOf_any (a : Option Addr) (cap : Nat) (C : List Cr) (loops : Int) (w : World) (hm : mayD C loops = true) (h10 : C.length ≤ 10) (hD : Crs w w.heap.size (.slice a C.length cap) C) :
    Calls Try.prog 94 #[.agg #[.slice a C.length cap, .int .i64 loops]] w fun e w' => ∃ v, e = .returned v ∧ (∃ gs vals, TbP w.heap.size (ovC C) C.length v gs vals (alF C) w') ∧ Below w.heap.size w w' := by
  obtain ⟨i1, hj, hy0, hy1, hy2⟩ := info_parts infoTermss
  obtain ⟨i2, hk, hx0, hx1, hx2⟩ := info_parts infoTerms
  have HM : Hid (mayD C loops = true) := hm
  have HD : Hid (Crs w w.heap.size (.slice a C.length cap) C) := hD
  have hoc : ovC C ≤ 21 := Nat.le_trans (rootsN_le _ _) (by omega)
  have HX : Hid (∀ x, x ∈ ovL C (2 * C.length) → x < 21) := fun x hx => by
    obtain ⟨i, hi, rfl⟩ := List.mem_map.1 hx
    have := ovM_in HM.out (i + 1) (by omega) (by have := List.mem_range.1 hi; omega)
    omega
  have HMO : Hid (mostTo (ovL C (2 * C.length)) (2 * C.length) = ovC C) := mostTo_ov (lowM_least (ovE_lt hm)) (fun v h1 h2 => (lowM_least (ovE_lt hm)).pos (fun e he => ⟨(ovE_in hm e he).1.1, (ovE_in hm e he).2.1⟩) h2 h1) _ (Nat.le_refl _)
  obtain ⟨w0, hw0⟩ : ∃ w0, w0 = w.alloc (.cells #[.slice a C.length cap, .int .i64 loops] 24) := ⟨_, rfl⟩
  have HW0 : Hid (w0 = w.alloc (.cells #[.slice a C.length cap, .int .i64 loops] 24)) := hw0
  have HB0 : Hid (Below w.heap.size w w0) := (by rw [hw0]; exact (Below.refl _ _).alloc (Nat.le_refl _) _ : Below w.heap.size w w0)
  have HT0 : Hid (w0.heap[w.heap.size]? = some (.cells #[.slice a C.length cap, .int .i64 loops] 24 (0, 0))) := (by rw [hw0]; exact alloc_at rfl : w0.heap[w.heap.size]? = some (.cells #[.slice a C.length cap, .int .i64 loops] 24 (0, 0)))
  clear hm hD hw0
  go_enter Try.func94, Try.ntmps94
  go_wp2_with (go_at_call 93; rw [← HW0.out]; refine (oversOf_any a cap C loops _ HM.out (HD.out.up HB0.out)).mono ?_; rintro e9 w2 ⟨v2, rfl, hr2, hb2⟩; refine Hid.out ?_)
  refine Lib.hid ?_
  obtain ⟨ao, co, rfl⟩ := own_capS hr2
  have HB2 : Hid (Below w0.heap.size w0 w2) := hb2
  have HO2 : Hid (w2.ownsRow w0.heap.size 3 1 (.slice ao (2 * C.length) co) (2 * C.length) (nats (ovL C (2 * C.length)))) := hr2
  have HSL : Hid (Slots w2 w2.heap.size (.slice ao (2 * C.length) co) (nats (ovL C (2 * C.length)))) := (by
    obtain ⟨a', c', e', f⟩ := own_rd hr2
    refine ⟨a', c', by rw [nats_len, ovL_len]; exact e', fun h0 => ?_⟩
    rw [nats_len, ovL_len] at h0 ⊢
    obtain ⟨b, off, eb, hlt, hc⟩ := f h0
    refine ⟨b, off, eb, hlt, fun i hi => ?_⟩
    have hg := nats_get (ovL C (2 * C.length)) i (by rw [ovL_len]; exact hi)
    rw [hc i (by omega), List.getD_eq_getElem?_getD (l := nats (ovL C (2 * C.length))), hg]
    rfl : Slots w2 w2.heap.size (.slice ao (2 * C.length) co) (nats (ovL C (2 * C.length))))
  clear hr2 hb2
  go_wp2_with (go_at_call 92; refine (mostOf_any _ (ovL C (2 * C.length)) 21 w2 (by omega) (by rw [ovL_len]; omega) HX.out HSL.out).mono ?_; rw [ovL_len, HMO.out]; rintro e9 w3 ⟨rfl, hb3⟩; refine Hid.out ?_)
  refine Lib.hid ?_
  have HB3 : Hid (Below w0.heap.size w0 w3) := HB2.out.trans (hb3.mono HB2.out.size)
  have HO3 : Hid (w3.ownsRow w0.heap.size 3 1 (.slice ao (2 * C.length) co) (2 * C.length) (nats (ovL C (2 * C.length)))) := own_any HO2.out (grown_below hb3 none)
  clear hb3
  have HOC : Hid (∀ W', Below w3.heap.size w3 W' → 0 < C.length → ∃ bo, ao = some ⟨bo, 0, none⟩ ∧ bo < w3.heap.size ∧ ∀ x, 1 ≤ x → x ≤ 2 * C.length → W'.cell? ⟨bo, x - 1, none⟩ = some (.int .i64 (ovM C x : Nat))) := fun W' hW h0 => by
    rcases HO3.out.2 with ⟨_, hz⟩ | ⟨g, cp, cur, e, _⟩
    · omega
    · injection e with e1 e2 e3
      have hh := HO3.out
      rw [e1] at hh
      refine ⟨g, e1, (hh.lt g rfl).2, fun x h1 h2 => bcell hW (hh.lt g rfl).2 ?_⟩
      rw [hh.cellAt (x - 1) (by omega), nats_get _ _ (by rw [ovL_len]; omega)]
      have : (ovL C (2 * C.length)).getD (x - 1) 0 = ovM C (x - 1 + 1) := by simp [ovL, List.getD_eq_getElem?_getD, show x - 1 < 2 * C.length by omega]
      rw [this, show x - 1 + 1 = x by omega]
  obtain ⟨m, hmm⟩ : ∃ m, ovC C = m := ⟨_, rfl⟩
  have HMM : Hid (ovC C = m) := hmm
  rw [hmm] at hoc ⊢
  clear hmm
  have HF : Hid (∀ W', Below w3.heap.size w3 W' → W'.cell? ⟨w.heap.size, 0, none⟩ = some (.slice a C.length cap) ∧ W'.cell? ⟨w.heap.size, 1, none⟩ = some (.int .i64 loops)) := fun W' hW => by
    have h1 := (HB3.out.block _ (Array.getElem?_eq_some_iff.1 HT0.out).1).trans HT0.out
    have h2 := (hW.block _ (Array.getElem?_eq_some_iff.1 h1).1).trans h1
    exact ⟨block_cell h2 rfl, block_cell h2 rfl⟩
  have hs3 : w.heap.size ≤ w3.heap.size := Nat.le_trans HB0.out.size HB3.out.size
  have HBW : Hid (Below w.heap.size w w3) := HB0.out.trans (HB3.out.mono HB0.out.size)
  go_wp2
  go_loopw [5, 6] (fun v5 v6 wr => ∃ k : Nat, k ≤ C.length ∧ v6 = .int .i64 (k : Nat) ∧ Hid ((∃ gs vals, TbP w3.heap.size m k v5 gs vals (alF C) wr) ∧ Below w3.heap.size w3 wr)) (fun _ v6 _ => C.length - (intOf v6).toNat)
  case atStart => exact ⟨0, Nat.zero_le _, rfl, ⟨fun _ => 0, fun _ _ => .slice none 0 0, World.ownsRow_nil _ _ _ _, fun i hi => absurd hi (Nat.not_lt_zero _)⟩, Below.refl _ _⟩
  case round =>
    rename World => W4
    obtain ⟨k, hkn, rfl, hp⟩ := hrel
    obtain ⟨j0, j1⟩ := HF.out _ hp.out.2
    obtain ⟨gs, vals, hT⟩ := hp.out.1
    obtain ⟨at', ct, rfl⟩ := own_capS hT.outer
    by_cases hkl : k < C.length
    · have HT : Hid (TbP w3.heap.size m k (.slice at' k ct) gs vals (alF C) W4) := hT
      have HB4 : Hid (Below w3.heap.size w3 W4) := hp.out.2
      have HBW4 : Hid (Below w.heap.size w W4) := HBW.out.trans (hp.out.2.mono hs3)
      have hs4 := hp.out.2.size
      obtain ⟨b, off, ea, hbw, hC⟩ : ∃ b off, a = some ⟨b, off, none⟩ ∧ b < w.heap.size ∧ CrossAt w b off C := by
        obtain ⟨a', c', e', _, f⟩ := HD.out
        injection e' with e1 e2 e3
        obtain ⟨b, off, eb, hlt, hc⟩ := f (by omega)
        exact ⟨b, off, e1.trans eb, hlt, hc⟩
      have HEA : Hid (a = some ⟨b, off, none⟩) := ea
      obtain ⟨e0, e1, e2, e3, e4⟩ := (hC.on HBW4.out hbw) k hkl
      have fa := may_fit HM.out k 0 hkl (by omega)
      have fb := may_fit HM.out k 1 hkl (by omega)
      have fc := may_fit HM.out k 2 hkl (by omega)
      have fd := may_fit HM.out k 3 hkl (by omega)
      have HXX : Hid ((C.getD k Cr.none).arc 0 = (C.getD k Cr.none).a ∧ (C.getD k Cr.none).arc 1 = (C.getD k Cr.none).b ∧ (C.getD k Cr.none).arc 2 = (C.getD k Cr.none).c ∧ (C.getD k Cr.none).arc 3 = (C.getD k Cr.none).d) := ⟨rfl, rfl, rfl, rfl⟩
      have fa1 := fa.1
      have fa2 := fa.2.1
      have fb1 := fb.1
      have fb2 := fb.2.1
      have fc1 := fc.1
      have fc2 := fc.2.1
      have fd1 := fd.1
      have fd2 := fd.2.1
      rw [HXX.out.1] at fa1 fa2
      rw [HXX.out.2.1] at fb1 fb2
      rw [HXX.out.2.2.1] at fc1 fc2
      rw [HXX.out.2.2.2] at fd1 fd2
      have HAL : Hid (alF C k = rowF (outC' C (C.getD k Cr.none)) (inC C (C.getD k Cr.none)) (ovM C (C.getD k Cr.none).b.toNat)) := (rfl : alF C k = rowF (outC' C (C.getD k Cr.none)) (inC C (C.getD k Cr.none)) (ovM C (C.getD k Cr.none).b.toNat))
      generalize hcr : C.getD k Cr.none = cr at *
      clear hcr HXX fa fb fc fd
      obtain ⟨za, zb, zc, zd, P⟩ := cr
      simp only at e0 e1 e2 e3 e4 fa1 fa2 fb1 fb2 fc1 fc2 fd1 fd2
      obtain ⟨xa, rfl⟩ : ∃ x : Nat, za = (x : Int) := ⟨za.toNat, by omega⟩
      obtain ⟨xb, rfl⟩ : ∃ x : Nat, zb = (x : Int) := ⟨zb.toNat, by omega⟩
      obtain ⟨xc, rfl⟩ : ∃ x : Nat, zc = (x : Int) := ⟨zc.toNat, by omega⟩
      obtain ⟨xd, rfl⟩ : ∃ x : Nat, zd = (x : Int) := ⟨zd.toNat, by omega⟩
      obtain ⟨bo, eao, hbo, -⟩ := HOC.out W4 HB4.out (by omega)
      have HAO : Hid (ao = some ⟨bo, 0, none⟩) := eao
      obtain ⟨ya, hya⟩ : ∃ y, xa = y + 1 := ⟨xa - 1, by omega⟩
      obtain ⟨yb, hyb⟩ : ∃ y, xb = y + 1 := ⟨xb - 1, by omega⟩
      obtain ⟨yc, hyc⟩ : ∃ y, xc = y + 1 := ⟨xc - 1, by omega⟩
      have hya2 : ya < 2 * C.length := by omega
      have hyb2 : yb < 2 * C.length := by omega
      have hyc2 : yc < 2 * C.length := by omega
      have hoa : ovM C xa < m := by rw [← HMM.out]; exact ovM_in HM.out xa (by omega) (by omega)
      have hob : ovM C xb < m := by rw [← HMM.out]; exact ovM_in HM.out xb (by omega) (by omega)
      have hocc : ovM C xc < m := by rw [← HMM.out]; exact ovM_in HM.out xc (by omega) (by omega)
      have HOX : Hid (∀ W', Below w3.heap.size w3 W' → W'.cell? ⟨bo, ya, none⟩ = some (.int .i64 (ovM C xa : Nat)) ∧ W'.cell? ⟨bo, yb, none⟩ = some (.int .i64 (ovM C xb : Nat)) ∧ W'.cell? ⟨bo, yc, none⟩ = some (.int .i64 (ovM C xc : Nat))) := fun W' hW => by
        obtain ⟨bo', e', _, q⟩ := HOC.out W' hW (by omega)
        rw [eao] at e'
        injection e' with e'
        injection e' with e1 e2 e3
        subst e1
        have qa := q xa (by omega) (by omega)
        have qb := q xb (by omega) (by omega)
        have qc := q xc (by omega) (by omega)
        rw [show xa - 1 = ya by omega] at qa
        rw [show xb - 1 = yb by omega] at qb
        rw [show xc - 1 = yc by omega] at qc
        exact ⟨qa, qb, qc⟩
      have HAL2 : Hid (alF C k = rowF (if P = true then ovM C xc else ovM C xa) (if P = true then ovM C xa else ovM C xc) (ovM C xb)) := (by
        rw [HAL.out]
        unfold outC' inC
        simp only [Int.toNat_natCast] : alF C k = rowF (if P = true then ovM C xc else ovM C xa) (if P = true then ovM C xa else ovM C xc) (ovM C xb))
      obtain ⟨oa, hoa'⟩ : ∃ o, ovM C xa = o := ⟨_, rfl⟩
      obtain ⟨ob, hob'⟩ : ∃ o, ovM C xb = o := ⟨_, rfl⟩
      obtain ⟨oc, hoc'⟩ : ∃ o, ovM C xc = o := ⟨_, rfl⟩
      rw [hoa', hob', hoc'] at HOX HAL2
      rw [hoa'] at hoa
      rw [hob'] at hob
      rw [hoc'] at hocc
      have ewa : IntKind.i64.wrap ((xa : Int) - 1) = (ya : Int) := by rw [IntWalk.i64_in _ (by omega)]; omega
      have ewb : IntKind.i64.wrap ((xb : Int) - 1) = (yb : Int) := by rw [IntWalk.i64_in _ (by omega)]; omega
      have ewc : IntKind.i64.wrap ((xc : Int) - 1) = (yc : Int) := by rw [IntWalk.i64_in _ (by omega)]; omega
      obtain ⟨X0, hX0⟩ : ∃ X, X = W4.alloc (.cells #[.int .i64 (xa : Nat), .int .i64 (xb : Nat), .int .i64 (xc : Nat), .int .i64 (xd : Nat), .bool P] 99) := ⟨_, rfl⟩
      have HX0 : Hid (X0 = W4.alloc (.cells #[.int .i64 (xa : Nat), .int .i64 (xb : Nat), .int .i64 (xc : Nat), .int .i64 (xd : Nat), .bool P] 99)) := hX0
      have hs0 : X0.heap.size = W4.heap.size + 1 := by rw [hX0]; simp
      have HXB : Hid (X0.heap[W4.heap.size]? = some (.cells #[.int .i64 (xa : Nat), .int .i64 (xb : Nat), .int .i64 (xc : Nat), .int .i64 (xd : Nat), .bool P] 99 (0, 0)) ∧ W4.grownBy X0 none) := (by rw [hX0]; exact ⟨alloc_at rfl, World.grownBy_alloc _ _ none⟩ : X0.heap[W4.heap.size]? = some (.cells #[.int .i64 (xa : Nat), .int .i64 (xb : Nat), .int .i64 (xc : Nat), .int .i64 (xd : Nat), .bool P] 99 (0, 0)) ∧ W4.grownBy X0 none)
      clear fa1 fa2 fb1 fb2 fc1 fc2 fd1 fd2 hoa' hob' hoc' hX0 hya hyb hyc HAL hT hp hC
      subst ea
      subst eao
      have hii : (k : Int) < (C.length : Int) := by omega
      go_upto_region 9 with (first | (at_make; rw [← HX0.out]; refine wpList_make_full _ rfl _ _ 130 rfl w3.heap.size 63 i2 (.slice none 0 0) 1 Try.underlying130 hk hx0 hx1 .i64 .i64 _ _ m rfl rfl rfl rfl (by rw [hx2]; omega) (by unfold maxLen; omega) (by omega) ?_; intro X1 hrow hg1; refine Hid.out ?_))
      refine Lib.hid ?_
      clear e0 e1 e2 e3 e4
      rw [made_nilsV, hs0] at hrow
      have HS0 : Hid (TbSt w3 W4.heap.size k m (.slice at' k ct) gs vals (alF C) #[.int .i64 (xa : Nat), .int .i64 (xb : Nat), .int .i64 (xc : Nat), .int .i64 (xd : Nat), .bool P] zeroF X1) := ⟨⟨_, hrow, fun j _ => World.ownsRow_nil _ _ _ _⟩, (hg1.block _ (by omega) (by simp)).trans HXB.out.1, ⟨own_any (own_any HT.out.outer HXB.out.2) hg1, fun i hi => ((HT.out.each i hi).any HXB.out.2).any hg1⟩, (HB4.out.grown HXB.out.2 hs4 (fun k hk => by cases hk)).grown hg1 (by omega) (fun k hk => by cases hk), fun i hi => ((HT.out.each i hi).row.lt (gs i) rfl).2, hs4⟩
      clear hrow hg1 HXB HX0 hs0
      have c0 : X1.cell? ⟨W4.heap.size, 0, none⟩ = some (.int .i64 (xa : Nat)) := block_cell HS0.out.box rfl
      have c2 : X1.cell? ⟨W4.heap.size, 2, none⟩ = some (.int .i64 (xc : Nat)) := block_cell HS0.out.box rfl
      have d0 : X1.cell? ⟨bo, ya, none⟩ = some (.int .i64 (oa : Nat)) := (HOX.out _ HS0.out.bel).1
      have d2 : X1.cell? ⟨bo, yc, none⟩ = some (.int .i64 (oc : Nat)) := (HOX.out _ HS0.out.bel).2.2
      go_upto_region 9 with (fail)
      go_quiet (fail)
      obtain ⟨X2, hX2⟩ : ∃ X, X = X1.drewN nq := ⟨_, rfl⟩
      rw [← hX2]
      have HS1 : Hid (TbSt w3 W4.heap.size k m (.slice at' k ct) gs vals (alF C) #[.int .i64 (xa : Nat), .int .i64 (xb : Nat), .int .i64 (xc : Nat), .int .i64 (xd : Nat), .bool P] zeroF X2) := (HS0.out.on (by rw [hX2]; exact below_drewN (Below.refl _ _) _) : TbSt w3 W4.heap.size k m (.slice at' k ct) gs vals (alF C) #[.int .i64 (xa : Nat), .int .i64 (xb : Nat), .int .i64 (xc : Nat), .int .i64 (xd : Nat), .bool P] zeroF X2)
      clear hX2 c0 c2 d0 d2 HS0 ewa ewc
      have k4 : X2.cell? ⟨W4.heap.size, 4, none⟩ = some (.bool P) := block_cell HS1.out.box rfl
      have k1 : X2.cell? ⟨W4.heap.size, 1, none⟩ = some (.int .i64 (xb : Nat)) := block_cell HS1.out.box rfl
      have d1 : X2.cell? ⟨bo, yb, none⟩ = some (.int .i64 (ob : Nat)) := (HOX.out _ HS1.out.bel).2.1
      cases P with
      | true =>
        have n0 : smallF zeroF 9 := fun j => by have := small_zero j; omega
        have n1 : smallF (addF zeroF oc 1 0) 9 := fun j => by have := small_add small_zero oc (dx := 1) (dy := 0) (by omega) (by omega) j; omega
        have n2 : smallF (addF (addF zeroF oc 1 0) oa 0 (-1)) 9 := fun j => by have := small_add (small_add small_zero oc (dx := 1) (dy := 0) (by omega) (by omega)) oa (dx := 0) (dy := -1) (by omega) (by omega) j; omega
        have HN : Hid (smallF zeroF 9 ∧ smallF (addF zeroF oc 1 0) 9 ∧ smallF (addF (addF zeroF oc 1 0) oa 0 (-1)) 9) := ⟨n0, n1, n2⟩
        have HAL3 : Hid (alF C k = (addF (addF (addF zeroF oc 1 0) oa 0 (-1)) ob (-1) 1)) := HAL2.out
        clear n0 n1 n2
        go_upto_region 13 with (fail)
        clear k1 d1 k4
        obtain ⟨av1, la1, cv1, q1, hq1, hz1, ho1, hb1⟩ := HS1.out.take HN.out.1 oc hocc
        have HQ1 : Hid (∀ Y, Below X2.heap.size X2 Y → Y.cell? ⟨W4.heap.size + 1, oc, none⟩ = some (.slice av1 la1 cv1) ∧ Y.frozen? ⟨W4.heap.size + 1, oc, none⟩ = false ∧ W4.heap.size + 1 < Y.heap.size) := hq1
        have HCL1 := Lib.hid (hz1 1 (by omega) (by omega) (by omega))
        have hoi1 : ((oc : Nat) : Int) < (m : Int) := by omega
        clear hq1 hz1 ho1 hb1
        go_upto_region 14 with (first | (go_at_call 142; refine HCL1.out.mono ?_; rintro e9 Y1 ⟨a5, n5, c5, rfl, hr5, hb5⟩; obtain ⟨r0, r1, r2⟩ := HQ1.out Y1 hb5; refine Hid.out ?_))
        refine Lib.hid ?_
        have HE1 : Hid (TbSt w3 W4.heap.size k m (.slice at' k ct) gs vals (alF C) #[.int .i64 (xa : Nat), .int .i64 (xb : Nat), .int .i64 (xc : Nat), .int .i64 (xd : Nat), .bool true] (addF zeroF oc 1 0) (Y1.setCell ⟨W4.heap.size + 1, oc, none⟩ (.slice a5 n5 c5))) := HS1.out.set hb5 oc 1 0 _ hr5
        obtain ⟨X3, hX3⟩ : ∃ X, X = Y1.setCell ⟨W4.heap.size + 1, oc, none⟩ (.slice a5 n5 c5) := ⟨_, rfl⟩
        have HS2 : Hid (TbSt w3 W4.heap.size k m (.slice at' k ct) gs vals (alF C) #[.int .i64 (xa : Nat), .int .i64 (xb : Nat), .int .i64 (xc : Nat), .int .i64 (xd : Nat), .bool true] (addF zeroF oc 1 0) X3) := (by rw [hX3]; exact HE1.out : TbSt w3 W4.heap.size k m (.slice at' k ct) gs vals (alF C) #[.int .i64 (xa : Nat), .int .i64 (xb : Nat), .int .i64 (xc : Nat), .int .i64 (xd : Nat), .bool true] (addF zeroF oc 1 0) X3)
        have HXE1 : Hid (X3 = Y1.setCell ⟨W4.heap.size + 1, oc, none⟩ (.slice a5 n5 c5)) := hX3
        clear hX3 HE1 hr5 hb5 HS1 HCL1 HQ1
        go_upto_region 14 with (fail)
        rw [← HXE1.out]
        clear HXE1 q1
        clear r0 r1 r2
        obtain ⟨av2, la2, cv2, q2, hq2, hz2, ho2, hb2⟩ := HS2.out.take HN.out.2.1 oa hoa
        have HQ2 : Hid (∀ Y, Below X3.heap.size X3 Y → Y.cell? ⟨W4.heap.size + 1, oa, none⟩ = some (.slice av2 la2 cv2) ∧ Y.frozen? ⟨W4.heap.size + 1, oa, none⟩ = false ∧ W4.heap.size + 1 < Y.heap.size) := hq2
        have HCL2 := Lib.hid (ho2 (-1) (by omega) (by omega) (by omega))
        have hoi2 : ((oa : Nat) : Int) < (m : Int) := by omega
        clear hq2 hz2 ho2 hb2
        go_upto_region 15 with (first | (go_at_call 142; refine HCL2.out.mono ?_; rintro e9 Y2 ⟨a6, n6, c6, rfl, hr6, hb6⟩; obtain ⟨r0, r1, r2⟩ := HQ2.out Y2 hb6; refine Hid.out ?_))
        refine Lib.hid ?_
        have HE2 : Hid (TbSt w3 W4.heap.size k m (.slice at' k ct) gs vals (alF C) #[.int .i64 (xa : Nat), .int .i64 (xb : Nat), .int .i64 (xc : Nat), .int .i64 (xd : Nat), .bool true] (addF (addF zeroF oc 1 0) oa 0 (-1)) (Y2.setCell ⟨W4.heap.size + 1, oa, none⟩ (.slice a6 n6 c6))) := HS2.out.set hb6 oa 0 (-1) _ hr6
        obtain ⟨X4, hX4⟩ : ∃ X, X = Y2.setCell ⟨W4.heap.size + 1, oa, none⟩ (.slice a6 n6 c6) := ⟨_, rfl⟩
        have HS3 : Hid (TbSt w3 W4.heap.size k m (.slice at' k ct) gs vals (alF C) #[.int .i64 (xa : Nat), .int .i64 (xb : Nat), .int .i64 (xc : Nat), .int .i64 (xd : Nat), .bool true] (addF (addF zeroF oc 1 0) oa 0 (-1)) X4) := (by rw [hX4]; exact HE2.out : TbSt w3 W4.heap.size k m (.slice at' k ct) gs vals (alF C) #[.int .i64 (xa : Nat), .int .i64 (xb : Nat), .int .i64 (xc : Nat), .int .i64 (xd : Nat), .bool true] (addF (addF zeroF oc 1 0) oa 0 (-1)) X4)
        have HXE2 : Hid (X4 = Y2.setCell ⟨W4.heap.size + 1, oa, none⟩ (.slice a6 n6 c6)) := hX4
        clear hX4 HE2 hr6 hb6 HS2 HCL2 HQ2
        go_upto_region 15 with (fail)
        rw [← HXE2.out]
        clear HXE2 q2
        clear r0 r1 r2
        obtain ⟨av3, la3, cv3, q3, hq3, hz3, ho3, hb3⟩ := HS3.out.take HN.out.2.2 ob hob
        have HQ3 : Hid (∀ Y, Below X4.heap.size X4 Y → Y.cell? ⟨W4.heap.size + 1, ob, none⟩ = some (.slice av3 la3 cv3) ∧ Y.frozen? ⟨W4.heap.size + 1, ob, none⟩ = false ∧ W4.heap.size + 1 < Y.heap.size) := hq3
        have HCL3 := Lib.hid (hb3)
        have hoi3 : ((ob : Nat) : Int) < (m : Int) := by omega
        clear hq3 hz3 ho3 hb3
        go_upto_region 16 with (first
          | (go_at_call 142; refine HCL3.out.mono ?_; rintro e9 Y3 ⟨a7, n7, c7, rfl, hb7, hcl4⟩; refine Hid.out ?_))
        refine Lib.hid ?_
        have HCL4 := Lib.hid hcl4
        clear hcl4
        go_upto_region 16 with (first
          | (go_at_call 142; refine HCL4.out.mono ?_; rintro e9 Y4 ⟨a8, n8, c8, rfl, hr8, hb8⟩; obtain ⟨r0, r1, r2⟩ := HQ3.out Y4 hb8; refine Hid.out ?_))
        refine Lib.hid ?_
        have HE3 : Hid (TbSt w3 W4.heap.size k m (.slice at' k ct) gs vals (alF C) #[.int .i64 (xa : Nat), .int .i64 (xb : Nat), .int .i64 (xc : Nat), .int .i64 (xd : Nat), .bool true] (addF (addF (addF zeroF oc 1 0) oa 0 (-1)) ob (-1) 1) (Y4.setCell ⟨W4.heap.size + 1, ob, none⟩ (.slice a8 n8 c8))) := HS3.out.set hb8 ob (-1) 1 _ hr8
        obtain ⟨X5, hX5⟩ : ∃ X, X = Y4.setCell ⟨W4.heap.size + 1, ob, none⟩ (.slice a8 n8 c8) := ⟨_, rfl⟩
        have HS4 : Hid (TbSt w3 W4.heap.size k m (.slice at' k ct) gs vals (alF C) #[.int .i64 (xa : Nat), .int .i64 (xb : Nat), .int .i64 (xc : Nat), .int .i64 (xd : Nat), .bool true] (addF (addF (addF zeroF oc 1 0) oa 0 (-1)) ob (-1) 1) X5) := (by rw [hX5]; exact HE3.out : TbSt w3 W4.heap.size k m (.slice at' k ct) gs vals (alF C) #[.int .i64 (xa : Nat), .int .i64 (xb : Nat), .int .i64 (xc : Nat), .int .i64 (xd : Nat), .bool true] (addF (addF (addF zeroF oc 1 0) oa 0 (-1)) ob (-1) 1) X5)
        have HXE3 : Hid (X5 = Y4.setCell ⟨W4.heap.size + 1, ob, none⟩ (.slice a8 n8 c8)) := hX5
        clear hX5 HE3 hr8 hb8 HS3 HCL3 HQ3
        go_upto_region 16 with (fail)
        rw [← HXE3.out]
        clear HXE3 q3
        clear r0 r1 r2 HCL4
        rw [← HAL3.out] at HS4
        obtain ⟨vs, hpl⟩ := HS4.out.plc
        have HPL : Hid (PlcAt w3.heap.size m (W4.heap.size + 1) vs (alF C k) X5) := hpl
        have HTAB : Hid (TbP w3.heap.size m k (.slice at' k ct) gs vals (alF C) X5) := HS4.out.tab
        have HBEL : Hid (Below w3.heap.size w3 X5) := HS4.out.bel
        have HON : Hid (∀ u ∈ [Value.slice (some ⟨W4.heap.size + 1, 0, none⟩) m m], u.oneCell' = true) := own_oneS hpl.row
        have hs5 := HS4.out.bel.size
        have hdk : decide ((k : Int) < (C.length : Int)) = true := by simp; omega
        clear HS4 hpl
        go_wp2_with (first
          | (at_builtin; refine wpList_append_own _ rfl _ _ 120 rfl w3.heap.size 130 i1 (.slice none 0 0) 1 24 Try.underlying120 hj hy0 hy1 hy2 rfl (by decide) _ _ _ rfl (HTAB.out.outer.alloc _) ⟨X5.heap.size, 0, none⟩ 1 1 [Value.slice (some ⟨W4.heap.size + 1, 0, none⟩) m m] rfl rfl (new_cell1 _ _ _) HON.out (by unfold maxLen; omega) (by omega) (by simp; omega) ?_; intro v8 w8 hown8 hg8 _; refine Hid.out ?_))
        refine Lib.hid ?_
        have hA := HTAB.out.outer.alloc (.cells #[Value.slice (some ⟨W4.heap.size + 1, 0, none⟩) m m] 130)
        have HTB2 : Hid (TbP w3.heap.size m k (.slice at' k ct) gs vals (alF C) (X5.alloc (.cells #[Value.slice (some ⟨W4.heap.size + 1, 0, none⟩) m m] 130))) := ⟨hA, fun i hi => (HTAB.out.each i hi).any (World.grownBy_alloc _ _ none)⟩
        have HFIN : Hid ((∃ gs vals, TbP w3.heap.size m (k + 1) v8 gs vals (alF C) w8) ∧ Below w3.heap.size w3 w8) := ⟨⟨_, _, HTB2.out.more (HPL.out.any (World.grownBy_alloc _ _ none)) hg8 hown8⟩, (HBEL.out.alloc hs5 _).grown hg8 (by simp; omega) (fun q hq => (hA.lt q hq).1)⟩
        clear hg8 hown8 hA
        obtain ⟨a9, c9, rfl⟩ : ∃ a9 c9, v8 = .slice a9 (k + 1) c9 := by
          obtain ⟨_, _, hh⟩ := HFIN.out.1
          exact own_capS hh.outer
        go_wp2
        go_roundw
        case rel => exact ⟨k + 1, by omega, by go_num, HFIN.out⟩
        case measure => simp only [intOf]; omega
      | false =>
        have n0 : smallF zeroF 9 := fun j => by have := small_zero j; omega
        have n1 : smallF (addF zeroF oa 1 0) 9 := fun j => by have := small_add small_zero oa (dx := 1) (dy := 0) (by omega) (by omega) j; omega
        have n2 : smallF (addF (addF zeroF oa 1 0) oc 0 (-1)) 9 := fun j => by have := small_add (small_add small_zero oa (dx := 1) (dy := 0) (by omega) (by omega)) oc (dx := 0) (dy := -1) (by omega) (by omega) j; omega
        have HN : Hid (smallF zeroF 9 ∧ smallF (addF zeroF oa 1 0) 9 ∧ smallF (addF (addF zeroF oa 1 0) oc 0 (-1)) 9) := ⟨n0, n1, n2⟩
        have HAL3 : Hid (alF C k = (addF (addF (addF zeroF oa 1 0) oc 0 (-1)) ob (-1) 1)) := HAL2.out
        clear n0 n1 n2
        go_upto_region 13 with (fail)
        clear k1 d1 k4
        obtain ⟨av1, la1, cv1, q1, hq1, hz1, ho1, hb1⟩ := HS1.out.take HN.out.1 oa hoa
        have HQ1 : Hid (∀ Y, Below X2.heap.size X2 Y → Y.cell? ⟨W4.heap.size + 1, oa, none⟩ = some (.slice av1 la1 cv1) ∧ Y.frozen? ⟨W4.heap.size + 1, oa, none⟩ = false ∧ W4.heap.size + 1 < Y.heap.size) := hq1
        have HCL1 := Lib.hid (hz1 1 (by omega) (by omega) (by omega))
        have hoi1 : ((oa : Nat) : Int) < (m : Int) := by omega
        clear hq1 hz1 ho1 hb1
        go_upto_region 14 with (first | (go_at_call 142; refine HCL1.out.mono ?_; rintro e9 Y1 ⟨a5, n5, c5, rfl, hr5, hb5⟩; obtain ⟨r0, r1, r2⟩ := HQ1.out Y1 hb5; refine Hid.out ?_))
        refine Lib.hid ?_
        have HE1 : Hid (TbSt w3 W4.heap.size k m (.slice at' k ct) gs vals (alF C) #[.int .i64 (xa : Nat), .int .i64 (xb : Nat), .int .i64 (xc : Nat), .int .i64 (xd : Nat), .bool false] (addF zeroF oa 1 0) (Y1.setCell ⟨W4.heap.size + 1, oa, none⟩ (.slice a5 n5 c5))) := HS1.out.set hb5 oa 1 0 _ hr5
        obtain ⟨X3, hX3⟩ : ∃ X, X = Y1.setCell ⟨W4.heap.size + 1, oa, none⟩ (.slice a5 n5 c5) := ⟨_, rfl⟩
        have HS2 : Hid (TbSt w3 W4.heap.size k m (.slice at' k ct) gs vals (alF C) #[.int .i64 (xa : Nat), .int .i64 (xb : Nat), .int .i64 (xc : Nat), .int .i64 (xd : Nat), .bool false] (addF zeroF oa 1 0) X3) := (by rw [hX3]; exact HE1.out : TbSt w3 W4.heap.size k m (.slice at' k ct) gs vals (alF C) #[.int .i64 (xa : Nat), .int .i64 (xb : Nat), .int .i64 (xc : Nat), .int .i64 (xd : Nat), .bool false] (addF zeroF oa 1 0) X3)
        have HXE1 : Hid (X3 = Y1.setCell ⟨W4.heap.size + 1, oa, none⟩ (.slice a5 n5 c5)) := hX3
        clear hX3 HE1 hr5 hb5 HS1 HCL1 HQ1
        go_upto_region 14 with (fail)
        rw [← HXE1.out]
        clear HXE1 q1
        clear r0 r1 r2
        obtain ⟨av2, la2, cv2, q2, hq2, hz2, ho2, hb2⟩ := HS2.out.take HN.out.2.1 oc hocc
        have HQ2 : Hid (∀ Y, Below X3.heap.size X3 Y → Y.cell? ⟨W4.heap.size + 1, oc, none⟩ = some (.slice av2 la2 cv2) ∧ Y.frozen? ⟨W4.heap.size + 1, oc, none⟩ = false ∧ W4.heap.size + 1 < Y.heap.size) := hq2
        have HCL2 := Lib.hid (ho2 (-1) (by omega) (by omega) (by omega))
        have hoi2 : ((oc : Nat) : Int) < (m : Int) := by omega
        clear hq2 hz2 ho2 hb2
        go_upto_region 15 with (first | (go_at_call 142; refine HCL2.out.mono ?_; rintro e9 Y2 ⟨a6, n6, c6, rfl, hr6, hb6⟩; obtain ⟨r0, r1, r2⟩ := HQ2.out Y2 hb6; refine Hid.out ?_))
        refine Lib.hid ?_
        have HE2 : Hid (TbSt w3 W4.heap.size k m (.slice at' k ct) gs vals (alF C) #[.int .i64 (xa : Nat), .int .i64 (xb : Nat), .int .i64 (xc : Nat), .int .i64 (xd : Nat), .bool false] (addF (addF zeroF oa 1 0) oc 0 (-1)) (Y2.setCell ⟨W4.heap.size + 1, oc, none⟩ (.slice a6 n6 c6))) := HS2.out.set hb6 oc 0 (-1) _ hr6
        obtain ⟨X4, hX4⟩ : ∃ X, X = Y2.setCell ⟨W4.heap.size + 1, oc, none⟩ (.slice a6 n6 c6) := ⟨_, rfl⟩
        have HS3 : Hid (TbSt w3 W4.heap.size k m (.slice at' k ct) gs vals (alF C) #[.int .i64 (xa : Nat), .int .i64 (xb : Nat), .int .i64 (xc : Nat), .int .i64 (xd : Nat), .bool false] (addF (addF zeroF oa 1 0) oc 0 (-1)) X4) := (by rw [hX4]; exact HE2.out : TbSt w3 W4.heap.size k m (.slice at' k ct) gs vals (alF C) #[.int .i64 (xa : Nat), .int .i64 (xb : Nat), .int .i64 (xc : Nat), .int .i64 (xd : Nat), .bool false] (addF (addF zeroF oa 1 0) oc 0 (-1)) X4)
        have HXE2 : Hid (X4 = Y2.setCell ⟨W4.heap.size + 1, oc, none⟩ (.slice a6 n6 c6)) := hX4
        clear hX4 HE2 hr6 hb6 HS2 HCL2 HQ2
        go_upto_region 15 with (fail)
        rw [← HXE2.out]
        clear HXE2 q2
        clear r0 r1 r2
        obtain ⟨av3, la3, cv3, q3, hq3, hz3, ho3, hb3⟩ := HS3.out.take HN.out.2.2 ob hob
        have HQ3 : Hid (∀ Y, Below X4.heap.size X4 Y → Y.cell? ⟨W4.heap.size + 1, ob, none⟩ = some (.slice av3 la3 cv3) ∧ Y.frozen? ⟨W4.heap.size + 1, ob, none⟩ = false ∧ W4.heap.size + 1 < Y.heap.size) := hq3
        have HCL3 := Lib.hid (hb3)
        have hoi3 : ((ob : Nat) : Int) < (m : Int) := by omega
        clear hq3 hz3 ho3 hb3
        go_upto_region 16 with (first
          | (go_at_call 142; refine HCL3.out.mono ?_; rintro e9 Y3 ⟨a7, n7, c7, rfl, hb7, hcl4⟩; refine Hid.out ?_))
        refine Lib.hid ?_
        have HCL4 := Lib.hid hcl4
        clear hcl4
        go_upto_region 16 with (first
          | (go_at_call 142; refine HCL4.out.mono ?_; rintro e9 Y4 ⟨a8, n8, c8, rfl, hr8, hb8⟩; obtain ⟨r0, r1, r2⟩ := HQ3.out Y4 hb8; refine Hid.out ?_))
        refine Lib.hid ?_
        have HE3 : Hid (TbSt w3 W4.heap.size k m (.slice at' k ct) gs vals (alF C) #[.int .i64 (xa : Nat), .int .i64 (xb : Nat), .int .i64 (xc : Nat), .int .i64 (xd : Nat), .bool false] (addF (addF (addF zeroF oa 1 0) oc 0 (-1)) ob (-1) 1) (Y4.setCell ⟨W4.heap.size + 1, ob, none⟩ (.slice a8 n8 c8))) := HS3.out.set hb8 ob (-1) 1 _ hr8
        obtain ⟨X5, hX5⟩ : ∃ X, X = Y4.setCell ⟨W4.heap.size + 1, ob, none⟩ (.slice a8 n8 c8) := ⟨_, rfl⟩
        have HS4 : Hid (TbSt w3 W4.heap.size k m (.slice at' k ct) gs vals (alF C) #[.int .i64 (xa : Nat), .int .i64 (xb : Nat), .int .i64 (xc : Nat), .int .i64 (xd : Nat), .bool false] (addF (addF (addF zeroF oa 1 0) oc 0 (-1)) ob (-1) 1) X5) := (by rw [hX5]; exact HE3.out : TbSt w3 W4.heap.size k m (.slice at' k ct) gs vals (alF C) #[.int .i64 (xa : Nat), .int .i64 (xb : Nat), .int .i64 (xc : Nat), .int .i64 (xd : Nat), .bool false] (addF (addF (addF zeroF oa 1 0) oc 0 (-1)) ob (-1) 1) X5)
        have HXE3 : Hid (X5 = Y4.setCell ⟨W4.heap.size + 1, ob, none⟩ (.slice a8 n8 c8)) := hX5
        clear hX5 HE3 hr8 hb8 HS3 HCL3 HQ3
        go_upto_region 16 with (fail)
        rw [← HXE3.out]
        clear HXE3 q3
        clear r0 r1 r2 HCL4
        rw [← HAL3.out] at HS4
        obtain ⟨vs, hpl⟩ := HS4.out.plc
        have HPL : Hid (PlcAt w3.heap.size m (W4.heap.size + 1) vs (alF C k) X5) := hpl
        have HTAB : Hid (TbP w3.heap.size m k (.slice at' k ct) gs vals (alF C) X5) := HS4.out.tab
        have HBEL : Hid (Below w3.heap.size w3 X5) := HS4.out.bel
        have HON : Hid (∀ u ∈ [Value.slice (some ⟨W4.heap.size + 1, 0, none⟩) m m], u.oneCell' = true) := own_oneS hpl.row
        have hs5 := HS4.out.bel.size
        have hdk : decide ((k : Int) < (C.length : Int)) = true := by simp; omega
        clear HS4 hpl
        go_wp2_with (first
          | (at_builtin; refine wpList_append_own _ rfl _ _ 120 rfl w3.heap.size 130 i1 (.slice none 0 0) 1 24 Try.underlying120 hj hy0 hy1 hy2 rfl (by decide) _ _ _ rfl (HTAB.out.outer.alloc _) ⟨X5.heap.size, 0, none⟩ 1 1 [Value.slice (some ⟨W4.heap.size + 1, 0, none⟩) m m] rfl rfl (new_cell1 _ _ _) HON.out (by unfold maxLen; omega) (by omega) (by simp; omega) ?_; intro v8 w8 hown8 hg8 _; refine Hid.out ?_))
        refine Lib.hid ?_
        have hA := HTAB.out.outer.alloc (.cells #[Value.slice (some ⟨W4.heap.size + 1, 0, none⟩) m m] 130)
        have HTB2 : Hid (TbP w3.heap.size m k (.slice at' k ct) gs vals (alF C) (X5.alloc (.cells #[Value.slice (some ⟨W4.heap.size + 1, 0, none⟩) m m] 130))) := ⟨hA, fun i hi => (HTAB.out.each i hi).any (World.grownBy_alloc _ _ none)⟩
        have HFIN : Hid ((∃ gs vals, TbP w3.heap.size m (k + 1) v8 gs vals (alF C) w8) ∧ Below w3.heap.size w3 w8) := ⟨⟨_, _, HTB2.out.more (HPL.out.any (World.grownBy_alloc _ _ none)) hg8 hown8⟩, (HBEL.out.alloc hs5 _).grown hg8 (by simp; omega) (fun q hq => (hA.lt q hq).1)⟩
        clear hg8 hown8 hA
        obtain ⟨a9, c9, rfl⟩ : ∃ a9 c9, v8 = .slice a9 (k + 1) c9 := by
          obtain ⟨_, _, hh⟩ := HFIN.out.1
          exact own_capS hh.outer
        go_wp2
        go_roundw
        case rel => exact ⟨k + 1, by omega, by go_num, HFIN.out⟩
        case measure => simp only [intOf]; omega
    · obtain rfl : k = C.length := by omega
      have HTT : Hid (∃ gs vals, TbP w.heap.size (ovC C) C.length (.slice at' C.length ct) gs vals (alF C) W4) := (by rw [HMM.out]; exact ⟨gs, vals, own_low hT.outer hs3, fun i hi => (hT.each i hi).low hs3⟩ : ∃ gs vals, TbP w.heap.size (ovC C) C.length (.slice at' C.length ct) gs vals (alF C) W4)
      have HBE : Hid (Below w.heap.size w W4) := HBW.out.trans (hp.out.2.mono hs3)
      clear hT hp
      go_wp2
      go_ret
      exact ⟨_, rfl, HTT.out, HBE.out⟩
end Go.Proofs.Ytajmogojekichaa
/- The law AlexTables: its walk, the rings of FaceRings being given. -/
namespace Go.Proofs.Ytajmogojekichaa
open Go.RowKit

theorem addOk : AddOk := fun v1 v2 l1 l2 w h1 h2 h3 h4 => Poly.add_yes v1 v2 l1 l2 w h1 h2 h3 h4
theorem sl_Crs {w : World} {B : Nat} {v : Value} {C : List Cr} (h : Crs w B v C) : ∃ a c, v = .slice a C.length c := by
  obtain ⟨a, c, e, _⟩ := h
  exact ⟨a, c, e⟩
theorem sl_CrsW {w : World} {B : Nat} {v : Value} {C : List Cr} (h : CrsW w B v C) : ∃ a c, v = .slice a C.length c := by
  rcases h with ⟨rfl, rfl⟩ | ⟨ad, cap, rfl, rfl⟩ | ⟨b, off, cap, rfl, -, -⟩
  · exact ⟨_, _, rfl⟩
  · exact ⟨_, _, rfl⟩
  · exact ⟨_, _, rfl⟩
def fewN (C : List Cr) (loops : Int) : Int := if noN C loops = 0 ∧ 10 < C.length then 2 else noN C loops
set_option maxHeartbeats 4000000 in
set_option maxRecDepth 100000 in
/-- What few says. -/
theorem few_any (a : Option Addr) (cap : Nat) (C : List Cr) (loops : Int) (w : World) (h : Crs w w.heap.size (.slice a C.length cap) C) :
    Calls Try.prog 37 #[.agg #[.slice a C.length cap, .int .i64 loops], .int .i64 10] w fun e w' => e = .returned (.int .i64 (fewN C loops)) ∧ Below w.heap.size w w' := by
  have HC : Hid (Crs w w.heap.size (.slice a C.length cap) C) := h
  obtain ⟨w0, hw0⟩ : ∃ w0, w0 = w.alloc (.cells #[.slice a C.length cap, .int .i64 loops] 24) := ⟨_, rfl⟩
  have HW0 : Hid (w0 = w.alloc (.cells #[.slice a C.length cap, .int .i64 loops] 24)) := hw0
  have HB0 : Hid (Below w.heap.size w w0) := (by rw [hw0]; exact (Below.refl _ _).alloc (Nat.le_refl _) _ : Below w.heap.size w w0)
  have HT0 : Hid (w0.heap[w.heap.size]? = some (.cells #[.slice a C.length cap, .int .i64 loops] 24 (0, 0))) := (by rw [hw0]; exact alloc_at rfl : w0.heap[w.heap.size]? = some (.cells #[.slice a C.length cap, .int .i64 loops] 24 (0, 0)))
  clear hw0 h
  go_enter Try.func37, Try.ntmps37
  go_wp2_with (go_at_call 50; rw [← HW0.out]; refine (planarMay_any _ C loops _ (HC.out.up HB0.out)).mono ?_; rintro e9 w3 ⟨rfl, hb3⟩; refine Hid.out ?_)
  refine Lib.hid ?_
  have HB3 : Hid (Below w.heap.size w w3) := HB0.out.trans (hb3.mono HB0.out.size)
  have q := (hb3.block _ (Array.getElem?_eq_some_iff.1 HT0.out).1).trans HT0.out
  have t0 : w3.cell? ⟨w.heap.size, 0, none⟩ = some (.slice a C.length cap) := block_cell q rfl
  have t1 : w3.cell? ⟨w.heap.size, 1, none⟩ = some (.int .i64 loops) := block_cell q rfl
  clear hb3 q
  have HFE : Hid (fewN C loops = if noN C loops = 0 ∧ 10 < C.length then 2 else noN C loops) := (rfl : fewN C loops = if noN C loops = 0 ∧ 10 < C.length then 2 else noN C loops)
  generalize noN C loops = r at *
  by_cases hr : r = 0
  · subst hr
    by_cases hz : 10 < C.length
    · have hz1 : decide ((10 : Int) < (C.length : Int)) = true := by simp; omega
      have HE : Hid (fewN C loops = 2) := HFE.out.trans (if_pos ⟨rfl, hz⟩)
      go_wp2
      go_ret
      exact ⟨by rw [HE.out]; rfl, HB3.out⟩
    · have hz1 : decide ((10 : Int) < (C.length : Int)) = false := by simp; omega
      have HE : Hid (fewN C loops = 0) := HFE.out.trans (if_neg (fun q => hz q.2))
      go_wp2
      go_ret
      exact ⟨by rw [HE.out]; rfl, HB3.out⟩
  · have hr0 : (r == 0) = false := beq_eq_false_iff_ne.2 hr
    have HE : Hid (fewN C loops = r) := HFE.out.trans (if_neg (fun q => hr q.1))
    go_wp2
    go_ret
    exact ⟨by rw [HE.out]; rfl, HB3.out⟩

end Go.Proofs.Ytajmogojekichaa

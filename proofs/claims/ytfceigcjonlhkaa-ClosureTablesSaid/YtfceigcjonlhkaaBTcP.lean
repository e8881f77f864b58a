/- Several texts of the proof, one behind the other. -/
import Derived.Test.YtfceigcjonlhkaaBTaP
import Derived.Test.YtfceigcjonlhkaaBT9
import Derived.Deep.Cut
import Derived.Deep.RegionHeldLaw
import Derived.Test.YtfceigcjonlhkaaIl
import Derived.Test.YtfceigcjonlhkaaBR2
/- Burau's tables: the walk of ref.BurauOf. -/
namespace Go.Proofs.Ytfceigcjonlhkaa.Poly
open Go.RowKit Go.Maps

theorem vaL_next (n : Nat) (f : Nat → Value) : vaL (n + 1) f = vaL n f ++ [f n] := by simp [vaL, List.range_succ]
theorem vaL_congr (n : Nat) (f g : Nat → Value) (h : ∀ i, i < n → f i = g i) : vaL n f = vaL n g := List.map_congr_left fun i hi => h i (List.mem_range.1 hi)
/-- The rows that ref.BurauOf has appended. -/
structure L1 (B n : Nat) (gs qf : Nat → Nat) (k : Nat) (v : Value) (W : World) : Prop where
  outer : W.ownsRow B 74 1 v k (vaL k fun i => .slice (some ⟨gs i, 0, none⟩) n n)
  rows : ∀ i, i < k → W.ownsRow B 76 1 (.slice (some ⟨gs i, 0, none⟩) n n) n (vaL n fun j => if j = i then .slice (some ⟨qf i, 0, none⟩) 1 1 else .slice none 0 0)
  lits : ∀ i, i < k → W.ownsRow B 127 2 (.slice (some ⟨qf i, 0, none⟩) 1 1) 1 (flat [(0, 1)])
  inj : ∀ i j, i < k → j < k → gs i = gs j → i = j
theorem L1.any {B n k : Nat} {gs qf : Nat → Nat} {v : Value} {W W' : World} (h : L1 B n gs qf k v W) (hg : W.grownBy W' none) : L1 B n gs qf k v W' := ⟨own_any h.outer hg, fun i hi => own_any (h.rows i hi) hg, fun i hi => own_any (h.lits i hi) hg, h.inj⟩
theorem L1.app {B n k p q : Nat} {gs qf : Nat → Nat} {v v8 : Value} {W w8 : World} (h : L1 B n gs qf k v W) (hp : ∀ i, i < k → gs i ≠ p) (hrow : W.ownsRow B 76 1 (.slice (some ⟨p, 0, none⟩) n n) n (vaL n fun j => if j = k then .slice (some ⟨q, 0, none⟩) 1 1 else .slice none 0 0)) (hlit : W.ownsRow B 127 2 (.slice (some ⟨q, 0, none⟩) 1 1) 1 (flat [(0, 1)])) (h8 : w8.ownsRow B 74 1 v8 (k + 1) ((vaL k fun i => .slice (some ⟨gs i, 0, none⟩) n n) ++ [.slice (some ⟨p, 0, none⟩) n n])) (hg : W.grownBy w8 v.ownBlock) :
    L1 B n (fun i => if i = k then p else gs i) (fun i => if i = k then q else qf i) (k + 1) v8 w8 := by
  refine ⟨?_, fun i hi => ?_, fun i hi => ?_, fun i j hi hj e => ?_⟩
  · rw [vaL_next, if_pos rfl, vaL_congr k _ (fun i => .slice (some ⟨gs i, 0, none⟩) n n) (fun i hi => by rw [if_neg (by omega)])]
    exact h8
  · by_cases e : i = k
    · subst e
      simp only [if_true]
      exact hrow.kept hg (own_ne hrow h.outer (by decide))
    · simp only [if_neg e]
      exact (h.rows i (by omega)).kept hg (own_ne (h.rows i (by omega)) h.outer (by decide))
  · by_cases e : i = k
    · simp only [if_pos e]
      exact hlit.kept hg (own_ne hlit h.outer (by decide))
    · simp only [if_neg e]
      exact (h.lits i (by omega)).kept hg (own_ne (h.lits i (by omega)) h.outer (by decide))
  · have e : (if i = k then p else gs i) = (if j = k then p else gs j) := e
    by_cases e1 : i = k
    · by_cases e2 : j = k
      · omega
      · rw [if_pos e1, if_neg e2] at e
        exact absurd e.symm (hp j (by omega))
    · by_cases e2 : j = k
      · rw [if_neg e1, if_pos e2] at e
        exact absurd e (hp i (by omega))
      · rw [if_neg e1, if_neg e2] at e
        exact h.inj i j (by omega) (by omega) e
theorem L1.te {B n g c : Nat} {gs qf : Nat → Nat} {W : World} (l : List Int) (h : L1 B n gs qf n (.slice (some ⟨g, 0, none⟩) n c) W) : Te B g c n gs (fun i j => if j = i then .slice (some ⟨qf i, 0, none⟩) 1 1 else .slice none 0 0) (buT l 0) W := by
  refine ⟨h.outer, h.rows, h.inj, fun i j hi hj => ?_⟩
  by_cases e : j = i
  · rw [if_pos e]
    have e2 : buT l 0 i j = oneP := funext fun y => by
      show (if i = j ∧ y = 0 then (1 : Int) else 0) = oneP y
      unfold oneP
      by_cases h0 : y = 0
      · rw [if_pos ⟨e.symm, h0⟩, if_pos h0]
      · rw [if_neg (fun q => h0 q.2), if_neg h0]
    rw [e2]
    exact ⟨[(0, 1)], PolyC.ofRow (h.lits i hi), canon_oneP⟩
  · rw [if_neg e]
    have e2 : buT l 0 i j = fun _ => 0 := funext fun y => by
      show (if i = j ∧ y = 0 then (1 : Int) else 0) = 0
      rw [if_neg (fun q => e q.1.symm)]
    rw [e2]
    exact pv_nil _
/-- A table of ref.BurauOf under way, and 1 beside it. -/
structure StR (w : World) (B g c n : Nat) (gs : Nat → Nat) (V : Nat → Nat → Value) (G : Nat → Nat → Int → Int) (v1 : Value) (W : World) : Prop where
  tb : Te B g c n gs V G W
  one : PV W v1 oneP
  bel : Below w.heap.size w W
  lB : w.heap.size ≤ B
section
variable {w : World} {B g c n : Nat} {gs : Nat → Nat} {V : Nat → Nat → Value} {G : Nat → Nat → Int → Int} {v1 : Value} {W W' : World}
theorem StR.any (h : StR w B g c n gs V G v1 W) (hb : Below W.heap.size W W') : StR w B g c n gs V G v1 W' := ⟨h.tb.any hb, h.one.up hb, h.bel.trans (hb.mono h.bel.size), h.lB⟩
theorem StR.put {q j : Nat} {u : Value} {f : Int → Int} (h : StR w B g c n gs V G v1 W) (hq : q < n) (hu : PV W u f) : StR w B g c n gs (uv V q j u) (ug G q j f) v1 (W.setCell ⟨gs q, j, none⟩ u) ∧ W.grownBy (W.setCell ⟨gs q, j, none⟩ u) (some (gs q)) := by
  obtain ⟨h1, h2⟩ := h.tb.set (V' := uv V q j u) (F' := ug G q j f) q j u hq (fun a b _ _ => rfl) (fun a b _ _ hne => if_neg hne) (fun _ => by unfold ug; rw [if_pos ⟨rfl, rfl⟩]; exact hu)
  have hlt := (h.tb.lt.2 q hq).1
  exact ⟨⟨h1, h.one.set h2 (h.tb.cellS q hq), h.bel.grown h2 h.bel.size (fun k hk => by have := Option.some.inj hk; have := h.lB; omega), h.lB⟩, h2⟩
end

set_option maxHeartbeats 16000000 in
set_option maxRecDepth 100000 in
theorem burauOf_any (a : Option Addr) (c n : Nat) (l : List Int) (w : World) (hn : wordN (n : Int) l = 0) (h : RdAt w w.heap.size 1 (.slice a l.length c) l.length (intsV l)) :
    Calls Try.prog 39 #[.int .i64 (n : Nat), .slice a l.length c] w fun e w' => ∃ (B g cc : Nat) (gs : Nat → Nat) (V : Nat → Nat → Value), e = .returned (.slice (some ⟨g, 0, none⟩) n cc) ∧ Te B g cc n gs V (buT l l.length) w' ∧ Below w.heap.size w w' := by
  obtain ⟨n2, n6, -, hl20⟩ := wordN_ok hn
  have hn6 : n ≤ 6 := by omega
  have hn2 : 2 ≤ n := by omega
  have HLT : Hid (∀ j, j < l.length → 1 ≤ (l.getD j 0).natAbs ∧ (l.getD j 0).natAbs < n) := letters_okB hn
  have HRD := hid_mkP h
  obtain ⟨i0, hi, hz0, hz1, hz2⟩ := info_parts infoTss
  obtain ⟨i1, hk, hx0, hx1, hx2⟩ := info_parts infoTs
  obtain ⟨m, hm⟩ : ∃ m, l.length = m := ⟨_, rfl⟩
  have HM := hid_mkP hm
  rw [hm] at HLT hl20 ⊢
  clear h hn hm n2 n6
  go_enter Try.func39, Try.ntmps39
  go_wp2
  go_loopw [5, 6] (fun v5 v6 wr => ∃ (r c5 : Nat) (a5 : Option Addr) (gs qf : Nat → Nat), r ≤ n ∧ v6 = .int .i64 (r : Nat) ∧ v5 = .slice a5 r c5 ∧ Hid (L1 w.heap.size n gs qf r (.slice a5 r c5) wr) ∧ Hid (Below w.heap.size w wr)) (fun _ v6 _ => n - (intOf v6).toNat)
  case atStart => exact ⟨0, 0, none, fun _ => 0, fun _ => 0, Nat.zero_le _, rfl, rfl, ⟨World.ownsRow_nil _ _ _ _, fun i hi => absurd hi (Nat.not_lt_zero _), fun i hi => absurd hi (Nat.not_lt_zero _), fun i j hi => absurd hi (Nat.not_lt_zero _)⟩, Below.refl _ _⟩
  case round =>
    rename World => W1
    obtain ⟨r, c5, a5, gs, qf, hrn, rfl, rfl, hL, hB⟩ := hrel
    by_cases hrl : r < n
    · have hrI : (r : Int) < (n : Int) := by omega
      go_wp2_with (first | (at_make; refine wpList_make_full _ rfl _ _ 74 rfl W1.heap.size 76 i1 (.slice none 0 0) 1 Try.underlying74 hk hx0 hx1 .i64 .i64 _ _ n rfl rfl rfl rfl (by rw [hx2]; omega) (by unfold maxLen; omega) (by simp) ?_; intro w2 hrow2 hg2; refine Hid.out ?_))
      refine Lib.hid ?_
      rw [made_nilS n] at hrow2
      obtain ⟨p, hp⟩ : ∃ p, W1.heap.size = p := ⟨_, rfl⟩
      rw [hp] at hrow2 ⊢
      have e0 := hrow2.cellAt r (by omega)
      rw [vaL_get _ _ _ hrl] at e0
      have f0 := hrow2.frozenAt r
      have lp := (hrow2.lt p rfl).2
      obtain ⟨X, hX⟩ : ∃ X, X = (w2.setCell ⟨p, r, none⟩ (.slice (some ⟨w2.heap.size, 0, none⟩) 1 1)).alloc (.cells #[.int .i64 0, .int .i64 1] 127) := ⟨_, rfl⟩
      have HXX := hid_mkP hX
      have hst := hrow2.stored r (.slice (some ⟨w2.heap.size, 0, none⟩) 1 1)
      rw [vaL_set n (fun _ => .slice none 0 0) (fun j => if j = r then .slice (some ⟨w2.heap.size, 0, none⟩) 1 1 else .slice none 0 0) r _ (fun _ _ => rfl)] at hst
      have hbX : Below W1.heap.size W1 X := by rw [hX]; exact ((((Below.refl _ _).grown hg2 (Nat.le_refl _) (fun z hz => by cases hz))).grown hst.2 hg2.size (fun z hz => by have := Option.some.inj hz; omega)).alloc (Nat.le_trans hg2.size hst.2.size) _
      have HBX : Hid (Below w.heap.size w X) := hB.out.trans (hbX.mono hB.out.size)
      have HLX := hid_mkP (hL.out.any (grown_below hbX none))
      have HRX : Hid (X.ownsRow w.heap.size 76 1 (.slice (some ⟨p, 0, none⟩) n n) n (vaL n fun j => if j = r then .slice (some ⟨w2.heap.size, 0, none⟩) 1 1 else .slice none 0 0)) := own_low (by rw [hX]; exact hst.1.alloc _) (by have := hB.out.size; omega)
      have HIX : Hid (X.ownsRow w.heap.size 127 2 (.slice (some ⟨w2.heap.size, 0, none⟩) 1 1) 1 (flat [(0, 1)])) := (by
        rw [hX]
        have h := World.ownsRow_lit (base := w.heap.size) (e := 127) (size := 2) (w2.setCell ⟨p, r, none⟩ (.slice (some ⟨w2.heap.size, 0, none⟩) 1 1)) #[.int .i64 0, .int .i64 1] 1 (by have h1 := hB.out.size; have h2 := hg2.size; simp; omega) (by unfold maxLen; omega) rfl
        rw [show (w2.setCell ⟨p, r, none⟩ (.slice (some ⟨w2.heap.size, 0, none⟩) 1 1)).heap.size = w2.heap.size by simp] at h
        exact h)
      have HPN : Hid (∀ i, i < r → gs i ≠ p) := fun i hi e => by have := ((hL.out.rows i hi).lt (gs i) rfl).2; omega
      clear hrow2 hg2 hst hX hbX hp hB hL
      go_upto_region 7 with (fail)
      rw [← HXX.out]
      clear e0 f0 lp
      have HON : Hid (∀ u ∈ [Value.slice (some ⟨p, 0, none⟩) n n], u.oneCell' = true) := own_oneS HRX.out
      go_wp2_with (first
        | (at_builtin; refine wpList_append_own _ rfl _ _ 70 rfl w.heap.size 74 i0 (.slice none 0 0) 1 24 Try.underlying70 hi hz0 hz1 hz2 rfl (by decide) _ _ _ rfl (HLX.out.outer.alloc _) ⟨X.heap.size, 0, none⟩ 1 1 [Value.slice (some ⟨p, 0, none⟩) n n] rfl rfl (new_cell1 _ _ _) HON.out (by unfold maxLen; omega) (by omega) (by have := HBX.out.size; simp; omega) ?_; intro v8 w8 hown8 hg8 _; refine Hid.out ?_))
      refine Lib.hid ?_
      obtain ⟨a8, c8, rfl⟩ := own_capS hown8
      have HL8 := hid_mkP ((HLX.out.any (World.grownBy_alloc _ (.cells #[Value.slice (some ⟨p, 0, none⟩) n n] 74) none)).app HPN.out (HRX.out.alloc _) (HIX.out.alloc _) hown8 hg8)
      have HB8 : Hid (Below w.heap.size w w8) := (HBX.out.alloc HBX.out.size _).grown hg8 (by have := HBX.out.size; simp; omega) (fun z hz => (HLX.out.outer.lt z hz).1)
      clear hown8 hg8
      go_wp2
      go_roundw
      case rel => exact ⟨r + 1, c8, a8, _, _, by omega, by go_num, rfl, HL8.out, HB8.out⟩
      case measure => simp only [intOf]; omega
    · obtain rfl : n = r := by omega
      obtain ⟨g, gc, eg, -, -⟩ := own_someB hL.out.outer (by omega)
      injection eg with eg1 eg2 eg3
      subst eg1 eg3
      clear eg2
      obtain ⟨X, hX⟩ : ∃ X, X = W1.alloc (.cells #[.int .i64 0, .int .i64 1] 127) := ⟨_, rfl⟩
      have HXX := hid_mkP hX
      have hbX : Below W1.heap.size W1 X := by rw [hX]; exact (Below.refl _ _).alloc (Nat.le_refl _) _
      have HS0 : Hid (StR w w.heap.size g c5 n gs (fun i j => if j = i then .slice (some ⟨qf i, 0, none⟩) 1 1 else .slice none 0 0) (buT l 0) (.slice (some ⟨W1.heap.size, 0, none⟩) 1 1) X) := ⟨(hL.out.te l).any hbX, PV.of_terms (q := [(0, 1)]) (by rw [hX]; simp) (by rw [hX]; exact terms_lit W1 #[.int .i64 0, .int .i64 1] 127 [(0, 1)] rfl) (by decide) canon_oneP, hB.out.trans (hbX.mono hB.out.size), Nat.le_refl _⟩
      clear hL hB hX hbX hrn hrl
      go_wp2
      rw [← HXX.out]
      clear HXX
      generalize W1.heap.size = g1 at HS0 ⊢
      go_loopw [9] (fun v9 wr => ∃ (k : Nat) (V : Nat → Nat → Value), k ≤ m ∧ v9 = .int .i64 (k : Nat) ∧ Hid (StR w w.heap.size g c5 n gs V (buT l k) (.slice (some ⟨g1, 0, none⟩) 1 1) wr)) (fun v9 _ => m - (intOf v9).toNat)
      case atStart => exact ⟨0, _, Nat.zero_le _, rfl, HS0.out⟩
      case round =>
        clear HS0
        rename World => W2
        obtain ⟨k, V, hkm, rfl, hS⟩ := hrel
        by_cases hkl : k < m
        · have hkI : (k : Int) < (m : Int) := by omega
          obtain ⟨b, off, ea, hlt, hc⟩ := HRD.out.intAt k (by rw [HM.out]; exact hkl)
          have hx := HLT.out k hkl
          have HOK : Hid (∀ a s, BuOk 1200000000 19 (buT l k a s)) := fun a s => (buT_ok l k a s).mono (Nat.le_trans (Nat.pow_le_pow_right (by decide) (show k ≤ 19 by omega)) (by decide)) (by omega)
          have HNX : Hid (∀ r s, buT l (k + 1) r s = buS (l.getD k 0) (buT l k r) s) := fun r s => rfl
          generalize l.getD k 0 = x at hc hx HNX
          obtain ⟨i, hi2⟩ : ∃ i, x.natAbs = i := ⟨_, rfl⟩
          have HX : Hid (x.natAbs = i) := hi2
          rw [hi2] at hx
          have HSZ : Hid (∀ W, Calls Try.prog 78 #[.int .i64 x] W fun e w' => e = .returned (.int .i64 (i : Int)) ∧ w' = W) := fun W => by have h := absR_any x W (by omega) (by omega); rw [hi2] at h; exact h
          obtain ⟨j, hij⟩ : ∃ j, i = j + 1 := ⟨i - 1, by omega⟩
          have HIJ := hid_mkP hij
          have hji : (i : Int) - 1 = (j : Int) := by omega
          have hjw : IntKind.i64.wrap (j : Int) = (j : Int) := IntWalk.i64_in _ (by omega)
          have hin : i < n := hx.2
          have hjn : j < n := by omega
          have hjI : (j : Int) < (n : Int) := by omega
          have hiI : (i : Int) < (n : Int) := by omega
          have HC0 : Hid (∀ W, Below w.heap.size w W → W.cell? ⟨b, off + k, none⟩ = some (.int .i64 x) ∧ b < W.heap.size) := fun W hW => ⟨bcell hW hlt hc, Nat.lt_of_lt_of_le hlt hW.size⟩
          obtain ⟨c0, lb⟩ := HC0.out W2 hS.out.bel
          have HSS := hid_mkP hS.out
          subst ea
          clear hx hi2 hij hc hlt hS
          go_wp2_with (go_at_call 78; refine (HSZ.out _).mono ?_; rintro e9 w5 ⟨rfl, e5⟩; obtain rfl := e5.symm)
          go_loopw [11] (fun v11 ws => ∃ (r : Nat) (U : Nat → Nat → Value), r ≤ n ∧ v11 = .int .i64 (r : Nat) ∧ Hid (StR w w.heap.size g c5 n gs U (fun a s => if a < r then buS x (buT l k a) s else buT l k a s) (.slice (some ⟨g1, 0, none⟩) 1 1) ws)) (fun v11 _ => n - (intOf v11).toNat)
          case atStart => exact ⟨0, V, Nat.zero_le _, rfl, ⟨HSS.out.tb.congr (fun _ _ _ _ => rfl) (fun a s _ _ => if_neg (Nat.not_lt_zero _)) (fun _ _ => rfl), HSS.out.one, HSS.out.bel, HSS.out.lB⟩⟩
          case round =>
            clear HSS c0 lb
            rename World => W3
            obtain ⟨r, U, hrn, rfl, hS⟩ := hrel
            by_cases hrl : r < n
            · have hrI : (r : Int) < (n : Int) := by omega
              have o0 := hS.out.tb.cellO r hrl
              have l0 := hS.out.tb.lt.1.2
              have d0 := hS.out.tb.cellR r j hrl hjn
              have d1 := hS.out.tb.cellR r i hrl hin
              have lr := (hS.out.tb.lt.2 r hrl).2
              have HVL : Hid (PV W3 (U r j) (buT l k r j)) := (by have h := hS.out.tb.vals r j hrl hjn; rw [if_neg (Nat.lt_irrefl r)] at h; exact h)
              have HVR : Hid (PV W3 (U r i) (buT l k r i)) := (by have h := hS.out.tb.vals r i hrl hin; rw [if_neg (Nat.lt_irrefl r)] at h; exact h)
              have HSS := hid_mkP hS.out
              obtain ⟨vL, hvL⟩ : ∃ v, U r j = v := ⟨_, rfl⟩
              obtain ⟨vR, hvR⟩ : ∃ v, U r i = v := ⟨_, rfl⟩
              rw [hvL] at d0 HVL
              rw [hvR] at d1 HVR
              obtain ⟨gr, hgr⟩ : ∃ z, gs r = z := ⟨_, rfl⟩
              have HGR := hid_mkP hgr
              rw [hgr] at o0 d0 d1 lr
              obtain ⟨L, hL⟩ : ∃ L, buT l k r j = L := ⟨_, rfl⟩
              obtain ⟨R, hR⟩ : ∃ R, buT l k r i = R := ⟨_, rfl⟩
              have HLE := hid_mkP hL
              have HRE := hid_mkP hR
              have HOL : Hid (BuOk 1200000000 19 L) := (by rw [← hL]; exact HOK.out r j : BuOk 1200000000 19 L)
              have HOR : Hid (BuOk 1200000000 19 R) := (by rw [← hR]; exact HOK.out r i : BuOk 1200000000 19 R)
              rw [hL] at HVL
              rw [hR] at HVR
              obtain ⟨c0, lb⟩ := HC0.out W3 hS.out.bel
              clear hvL hvR hgr hS hL hR
              have HPR : Hid (∀ (v : Value) (f : Int → Int) (q : List (Int × Int)) (b off cap : Nat) (W : World), BuOk 1200000000 19 f → Two q → (∀ t ∈ q, -1 ≤ t.1 ∧ t.1 ≤ 1) → PV W v f → b < W.heap.size → TermsAt W b off q → Calls Try.prog 83 #[v, .slice (some ⟨b, off, none⟩) q.length cap] W fun e w' => ∃ u, e = .returned u ∧ PV w' u (fun y => prodL q f y) ∧ Below W.heap.size W w') := fun v f q b off cap W hf hq hq1 hv hb hT => prod_pv v b off cap q f W (hf.mono (by omega) (by omega)) hq hq1 hv hb hT
              have HSU : Hid (∀ (v1 v2 : Value) (f g : Int → Int) (s : Int) (W : World), s = 1 ∨ s = -1 → BuOk 2400000000 20 f → BuOk 2400000000 20 g → PV W v1 f → PV W v2 g → Calls Try.prog 82 #[v1, v2, .int .i64 s] W fun e w' => ∃ u, e = .returned u ∧ PV w' u (fun y => f y + s * g y) ∧ Below W.heap.size W w') := fun v1 v2 f g s W hs hf hg h1 h2 => sum_pv v1 v2 f g s W hs (hf.mono (by omega) (by omega)) (hg.mono (by omega) (by omega)) h1 h2
              go_wp2
              go_quiet (fail)
              obtain ⟨X, hX⟩ : ∃ X, X = W3.drewN nq := ⟨_, rfl⟩
              rw [← hX]
              have hbX : Below W3.heap.size W3 X := by rw [hX]; exact below_drewN (Below.refl _ _) _
              have HSX := hid_mkP (HSS.out.any hbX)
              have HLX := hid_mkP (HVL.out.up hbX)
              have HRX := hid_mkP (HVR.out.up hbX)
              clear hX hbX HSS HVL HVR o0 l0 d0 d1 lr c0 lb
              obtain ⟨c0, lb⟩ := HC0.out X HSX.out.bel
              by_cases hx : 0 < x
              · go_wp2
                clear c0 lb
                have HKPr : Hid (∀ W, Below X.heap.size X W → W.cell? ⟨g, r, none⟩ = some (.slice (some ⟨gr, 0, none⟩) n n)) := fun W hW => by have h := (HSX.out.any hW).tb.cellO r hrl; rw [HGR.out] at h; exact h
                have HDr : Hid (Below X.heap.size X X.drew) := below_drewN (Below.refl _ _) 1
                have lgr := HSX.out.tb.lt.1.2
                refine wp_region_held_drew (S := fun w' => w'.cell? ⟨g, r, none⟩ = some (.slice (some ⟨gr, 0, none⟩) n n)) (by kernel_rfl) (HKPr.out _ HDr.out) (fun hHeld => ?_)
                refine wpAnyH_take (i := 0) (v := ?vv0r) rfl (by kernel_rfl) (by kernel_rfl) (by kernel_rfl) (fun _ _ _ h => h) (Or.inl ⟨by rfl, ?yy0r⟩) (by assumption) ?rr0r
                case yy0r => (intro w hSw; (try dsimp only at hSw); go_simp; (try with_reducible rfl))
                try simp only [Act.put]
                refine wpAnyH_take (i := 1) (v := ?vv1r) rfl (by kernel_rfl) (by kernel_rfl) (by kernel_rfl) (fun _ _ _ h => h) (Or.inl ⟨by rfl, ?yy1r⟩) (by assumption) ?rr1r
                case yy1r => (intro w hSw; (try dsimp only at hSw); go_simp; (try with_reducible rfl))
                try simp only [Act.put]
                refine wpAnyH_take (i := 2) (v := ?vv2r) rfl (by kernel_rfl) (by kernel_rfl) (by kernel_rfl) (fun _ _ _ h => h) (Or.inl ⟨by rfl, ?yy2r⟩) (by assumption) ?rr2r
                case yy2r => (intro w hSw; (try dsimp only at hSw); go_simp; (try with_reducible rfl))
                try simp only [Act.put]
                refine wpAnyH_take (i := 3) (v := ?vv3r) rfl (by kernel_rfl) (by kernel_rfl) (by kernel_rfl) (fun _ _ _ h => h) (Or.inl ⟨by rfl, ?yy3r⟩) (by assumption) ?rr3r
                case yy3r => (intro w hSw; (try dsimp only at hSw); go_simp; (try with_reducible rfl))
                try simp only [Act.put]
                refine wpAnyH_take (i := 4) (v := ?vv4r) rfl (by kernel_rfl) (by kernel_rfl) (by kernel_rfl) (fun _ _ _ h => h) (Or.inl ⟨by rfl, ?yy4r⟩) (by assumption) ?rr4r
                case yy4r => (intro w hSw; (try dsimp only at hSw); go_simp; (try with_reducible rfl))
                try simp only [Act.put]
                refine wpAnyH_take (i := 5) (v := ?vv5r) rfl (by kernel_rfl) (by kernel_rfl) (by kernel_rfl) (fun _ _ _ h => h) (Or.inl ⟨by rfl, ?yy5r⟩) (by assumption) ?rr5r
                case yy5r => (intro w hSw; (try dsimp only at hSw); go_simp; (try with_reducible rfl))
                try simp only [Act.put]
                refine wpAnyH_take (i := 6) (v := ?vv6r) rfl (by kernel_rfl) (by kernel_rfl) (by kernel_rfl) (fun _ _ _ h => h) (Or.inl ⟨by rfl, ?yy6r⟩) (by assumption) ?rr6r
                case yy6r => (intro w hSw; (try dsimp only at hSw); go_simp; (try with_reducible rfl))
                try simp only [Act.put]
                refine wpAnyH_take (i := 7) (v := ?vv7r) rfl (by kernel_rfl) (by kernel_rfl) (by kernel_rfl) (fun _ _ _ h => h) (Or.inl ⟨by rfl, ?yy7r⟩) (by assumption) ?rr7r
                case yy7r => (intro w hSw; (try dsimp only at hSw); go_simp; (try with_reducible rfl))
                try simp only [Act.put]
                refine wpAnyH_take (i := 8) (v := ?vv8r) rfl (by kernel_rfl) (by kernel_rfl) (by kernel_rfl) (fun _ _ _ h => h) (Or.inl ⟨by rfl, ?yy8r⟩) (by assumption) ?rr8r
                case yy8r => (intro w hSw; (try dsimp only at hSw); go_simp; (try with_reducible rfl))
                try simp only [Act.put]
                refine wpAnyH_take (i := 11) (v := ?vv11r) rfl (by kernel_rfl) (by kernel_rfl) (by kernel_rfl) (fun _ _ _ h => h) (Or.inl ⟨by rfl, ?yy11r⟩) (by assumption) ?rr11r
                case yy11r => (intro w hSw; (try dsimp only at hSw); go_simp; (try with_reducible rfl))
                try simp only [Act.put]
                obtain ⟨Yr, hYr⟩ : ∃ Y, Y = (X.alloc (.cells #[.int .i64 0, .int .i64 1, .int .i64 1, .int .i64 (-1)] 127)).drew := ⟨_, rfl⟩
                have HYr := hid_mkP hYr
                have H0 : Hid (Below X.heap.size X Yr) := (by rw [hYr]; exact ((Below.refl _ _).alloc (Nat.le_refl _) _).drew : Below X.heap.size X Yr)
                have HTL : Hid (TermsAt Yr X.heap.size 0 [(0, 1), (1, -1)]) := (by rw [hYr]; exact terms_lit X #[.int .i64 0, .int .i64 1, .int .i64 1, .int .i64 (-1)] 127 [(0, 1), (1, -1)] rfl : TermsAt Yr X.heap.size 0 [(0, 1), (1, -1)])
                have hlY : X.heap.size < Yr.heap.size := by rw [hYr]; simp
                clear hYr
                refine wpAnyH_ready (rs := [9]) (by kernel_rfl) (by simp) ?_
                refine AllReadyH.cons rfl (fun K hK => ?_) AllReadyH.nil
                go_simp
                rw [← HYr.out]
                refine hK.out _ _ (HKPr.out _ H0.out) (fun hHeld => ?_)
                clear hK K
                try simp only [Act.put]
                refine wpAnyH_ready (rs := [10]) (by kernel_rfl) (by simp) ?_
                refine AllReadyH.cons rfl (fun K hK => ?_) AllReadyH.nil
                go_simp
                go_wp2_with (go_at_call 83; refine (HPR.out vL L [(0, 1), (1, -1)] X.heap.size 0 2 _ HOL.out (by unfold Two; simp) (by simp) (HLX.out.up H0.out) hlY HTL.out).mono ?_; rintro e9 w1 ⟨u1, rfl, hp1, hb1⟩)
                have HP1 := hid_mkP hp1
                have H1 : Hid (Below X.heap.size X w1) := H0.out.trans (hb1.mono H0.out.size)
                clear hp1 hb1
                refine hK.out _ _ (HKPr.out _ H1.out) (fun hHeld => ?_)
                clear hK K
                try simp only [Act.put]
                refine wpAnyH_ready (rs := [12]) (by kernel_rfl) (by simp) ?_
                refine AllReadyH.cons rfl (fun K hK => ?_) AllReadyH.nil
                go_simp
                go_wp2_with (go_at_call 82; refine (HSU.out u1 vR (fun y => prodL [(0, 1), (1, -1)] L y) R 1 _ (Or.inl rfl) (buOk_prod (by unfold Two; simp) (by simp) HOL.out) (HOR.out.mono (by omega) (by omega)) HP1.out (HRX.out.up H1.out)).mono ?_; rintro e9 w2 ⟨u2, rfl, hp2, hb2⟩)
                have HP2 := hid_mkP hp2
                have H2 : Hid (Below X.heap.size X w2) := H1.out.trans (hb2.mono H1.out.size)
                clear hp2 hb2
                refine hK.out _ _ (HKPr.out _ H2.out) (fun hHeld => ?_)
                clear hK K
                try simp only [Act.put]
                refine wpAnyH_take (i := 13) (v := ?vv13rz) rfl (by kernel_rfl) (by kernel_rfl) (by kernel_rfl) (fun _ _ _ h => h) (Or.inl ⟨by rfl, ?yy13rz⟩) (by assumption) ?rr13rz
                case yy13rz => (intro w hSw; (try dsimp only at hSw); go_simp; (try with_reducible rfl))
                try simp only [Act.put]
                obtain ⟨-, ⟨-, ua, um, uc, eu, -⟩, -⟩ := HP2.out
                subst eu
                have hfn : (fun y => prodL [(0, 1), (1, -1)] L y + 1 * R y) = buL x L R := funext fun y => by rw [← pos_L x hx L R y]; simp only [prodL, Int.sub_zero]; omega
                rw [hfn] at HP2
                have hws := HSX.out.any H2.out
                have HPT := hid_mkP (hws.put (q := r) (j := j) hrl HP2.out)
                have cs := hws.tb.cellR r j hrl hjn
                have fz := (hws.tb.rows r hrl).frozenAt j
                have ls := (hws.tb.lt.2 r hrl).2
                have HLN := hid_mkP ((HLX.out.up H2.out).set HPT.out.2 (hws.tb.cellS r hrl))
                have HRN := hid_mkP ((HRX.out.up H2.out).set HPT.out.2 (hws.tb.cellS r hrl))
                have HKS := hid_mkP (HPT.out.1.tb.cellO r hrl)
                rw [HGR.out] at HPT cs fz ls HKS HLN HRN
                generalize U r j = vO at cs
                clear hws hfn
                refine wpAnyH_ready (rs := [14]) (by kernel_rfl) (by simp) ?_
                refine AllReadyH.cons rfl (fun K hK => ?_) AllReadyH.nil
                go_simp
                refine hK.out _ _ HKS.out (fun hHeld => ?_)
                clear hK K hHeld HKS cs fz ls
                refine wpAnyH_done (by kernel_rfl) ?_ _
                try simp only [Act.put]
                have HPP := hid_mkP HPT.out.1
                clear HPT
                obtain ⟨Zr, hZr⟩ : ∃ Z, Z = w2.setCell ⟨gr, j, none⟩ (.slice ua um uc) := ⟨_, rfl⟩
                rw [← hZr] at HPP HLN HRN ⊢
                have HSr := hid_mkP HPP.out
                have HLZr := hid_mkP HLN.out
                have HRZr := hid_mkP HRN.out
                obtain ⟨vUr, hvUr⟩ : ∃ v, v = Value.slice ua um uc := ⟨_, rfl⟩
                rw [← hvUr] at HSr
                clear hZr hvUr HPP HLN HRN HTL hlY HYr HP1 HP2 H0 H1 H2
                go_wp2
                have HKPs : Hid (∀ W, Below Zr.heap.size Zr W → W.cell? ⟨g, r, none⟩ = some (.slice (some ⟨gr, 0, none⟩) n n)) := fun W hW => by have h := (HSr.out.any hW).tb.cellO r hrl; rw [HGR.out] at h; exact h
                have HDs : Hid (Below Zr.heap.size Zr Zr.drew) := below_drewN (Below.refl _ _) 1
                have lgs := HSr.out.tb.lt.1.2
                refine wp_region_held_drew (S := fun w' => w'.cell? ⟨g, r, none⟩ = some (.slice (some ⟨gr, 0, none⟩) n n)) (by kernel_rfl) (HKPs.out _ HDs.out) (fun hHeld => ?_)
                refine wpAnyH_take (i := 0) (v := ?vv0s) rfl (by kernel_rfl) (by kernel_rfl) (by kernel_rfl) (fun _ _ _ h => h) (Or.inl ⟨by rfl, ?yy0s⟩) (by assumption) ?rr0s
                case yy0s => (intro w hSw; (try dsimp only at hSw); go_simp; (try with_reducible rfl))
                try simp only [Act.put]
                refine wpAnyH_take (i := 1) (v := ?vv1s) rfl (by kernel_rfl) (by kernel_rfl) (by kernel_rfl) (fun _ _ _ h => h) (Or.inl ⟨by rfl, ?yy1s⟩) (by assumption) ?rr1s
                case yy1s => (intro w hSw; (try dsimp only at hSw); go_simp; (try with_reducible rfl))
                try simp only [Act.put]
                refine wpAnyH_take (i := 2) (v := ?vv2s) rfl (by kernel_rfl) (by kernel_rfl) (by kernel_rfl) (fun _ _ _ h => h) (Or.inl ⟨by rfl, ?yy2s⟩) (by assumption) ?rr2s
                case yy2s => (intro w hSw; (try dsimp only at hSw); go_simp; (try with_reducible rfl))
                try simp only [Act.put]
                refine wpAnyH_take (i := 3) (v := ?vv3s) rfl (by kernel_rfl) (by kernel_rfl) (by kernel_rfl) (fun _ _ _ h => h) (Or.inl ⟨by rfl, ?yy3s⟩) (by assumption) ?rr3s
                case yy3s => (intro w hSw; (try dsimp only at hSw); go_simp; (try with_reducible rfl))
                try simp only [Act.put]
                refine wpAnyH_take (i := 4) (v := ?vv4s) rfl (by kernel_rfl) (by kernel_rfl) (by kernel_rfl) (fun _ _ _ h => h) (Or.inl ⟨by rfl, ?yy4s⟩) (by assumption) ?rr4s
                case yy4s => (intro w hSw; (try dsimp only at hSw); go_simp; (try with_reducible rfl))
                try simp only [Act.put]
                refine wpAnyH_take (i := 5) (v := ?vv5s) rfl (by kernel_rfl) (by kernel_rfl) (by kernel_rfl) (fun _ _ _ h => h) (Or.inl ⟨by rfl, ?yy5s⟩) (by assumption) ?rr5s
                case yy5s => (intro w hSw; (try dsimp only at hSw); go_simp; (try with_reducible rfl))
                try simp only [Act.put]
                refine wpAnyH_take (i := 6) (v := ?vv6s) rfl (by kernel_rfl) (by kernel_rfl) (by kernel_rfl) (fun _ _ _ h => h) (Or.inl ⟨by rfl, ?yy6s⟩) (by assumption) ?rr6s
                case yy6s => (intro w hSw; (try dsimp only at hSw); go_simp; (try with_reducible rfl))
                try simp only [Act.put]
                obtain ⟨Ys, hYs⟩ : ∃ Y, Y = (Zr.alloc (.cells #[.int .i64 1, .int .i64 1] 127)).drew := ⟨_, rfl⟩
                have HYs := hid_mkP hYs
                have H0 : Hid (Below Zr.heap.size Zr Ys) := (by rw [hYs]; exact ((Below.refl _ _).alloc (Nat.le_refl _) _).drew : Below Zr.heap.size Zr Ys)
                have HTL : Hid (TermsAt Ys Zr.heap.size 0 [(1, 1)]) := (by rw [hYs]; exact terms_lit Zr #[.int .i64 1, .int .i64 1] 127 [(1, 1)] rfl : TermsAt Ys Zr.heap.size 0 [(1, 1)])
                have hlY : Zr.heap.size < Ys.heap.size := by rw [hYs]; simp
                clear hYs
                refine wpAnyH_ready (rs := [7]) (by kernel_rfl) (by simp) ?_
                refine AllReadyH.cons rfl (fun K hK => ?_) AllReadyH.nil
                go_simp
                rw [← HYs.out]
                refine hK.out _ _ (HKPs.out _ H0.out) (fun hHeld => ?_)
                clear hK K
                try simp only [Act.put]
                refine wpAnyH_ready (rs := [8]) (by kernel_rfl) (by simp) ?_
                refine AllReadyH.cons rfl (fun K hK => ?_) AllReadyH.nil
                go_simp
                go_wp2_with (go_at_call 83; refine (HPR.out vL L [(1, 1)] Zr.heap.size 0 1 _ HOL.out (by unfold Two; simp) (by simp) (HLZr.out.up H0.out) hlY HTL.out).mono ?_; rintro e9 w1 ⟨u1, rfl, hp1, hb1⟩)
                have HP1 := hid_mkP hp1
                have H1 : Hid (Below Zr.heap.size Zr w1) := H0.out.trans (hb1.mono H0.out.size)
                clear hp1 hb1
                refine hK.out _ _ (HKPs.out _ H1.out) (fun hHeld => ?_)
                clear hK K
                try simp only [Act.put]
                refine wpAnyH_take (i := 9) (v := ?vv9sz) rfl (by kernel_rfl) (by kernel_rfl) (by kernel_rfl) (fun _ _ _ h => h) (Or.inl ⟨by rfl, ?yy9sz⟩) (by assumption) ?rr9sz
                case yy9sz => (intro w hSw; (try dsimp only at hSw); go_simp; (try with_reducible rfl))
                try simp only [Act.put]
                obtain ⟨-, ⟨-, ua, um, uc, eu, -⟩, -⟩ := HP1.out
                subst eu
                have hfn : (fun y => prodL [(1, 1)] L y) = buR x L R := funext fun y => by rw [← pos_R x hx L R y]; simp only [prodL]; omega
                rw [hfn] at HP1
                have hws := HSr.out.any H1.out
                have HPT := hid_mkP (hws.put (q := r) (j := i) hrl HP1.out)
                have cs := hws.tb.cellR r i hrl hin
                have fz := (hws.tb.rows r hrl).frozenAt i
                have ls := (hws.tb.lt.2 r hrl).2
                have HLN := hid_mkP ((HLZr.out.up H1.out).set HPT.out.2 (hws.tb.cellS r hrl))
                have HRN := hid_mkP ((HRZr.out.up H1.out).set HPT.out.2 (hws.tb.cellS r hrl))
                have HKS := hid_mkP (HPT.out.1.tb.cellO r hrl)
                rw [HGR.out] at HPT cs fz ls HKS HLN HRN
                generalize uv U r j vUr r i = vO at cs
                clear hws hfn
                refine wpAnyH_ready (rs := [10]) (by kernel_rfl) (by simp) ?_
                refine AllReadyH.cons rfl (fun K hK => ?_) AllReadyH.nil
                go_simp
                refine hK.out _ _ HKS.out (fun hHeld => ?_)
                clear hK K hHeld HKS cs fz ls
                refine wpAnyH_done (by kernel_rfl) ?_ _
                try simp only [Act.put]
                have HPP := hid_mkP HPT.out.1
                clear HPT
                obtain ⟨Zs, hZs⟩ : ∃ Z, Z = w1.setCell ⟨gr, i, none⟩ (.slice ua um uc) := ⟨_, rfl⟩
                rw [← hZs] at HPP HLN HRN ⊢
                have HSs := hid_mkP HPP.out
                have HLZs := hid_mkP HLN.out
                have HRZs := hid_mkP HRN.out
                obtain ⟨vUs, hvUs⟩ : ∃ v, v = Value.slice ua um uc := ⟨_, rfl⟩
                rw [← hvUs] at HSs
                clear hZs hvUs HPP HLN HRN HTL hlY HYs HP1 H0 H1
                go_wp2
                have HFN : Hid (StR w w.heap.size g c5 n gs (uv (uv U r j vUr) r i vUs) (fun a s => if a < r + 1 then buS x (buT l k a) s else buT l k a s) (.slice (some ⟨g1, 0, none⟩) 1 1) Zs) := ⟨HSs.out.tb.congr (fun _ _ _ _ => rfl) (fun a s _ _ => by
                  have h := bu_row x (buT l k) _ r i j HX.out HIJ.out (fun _ _ => rfl) a s
                  rw [HLE.out, HRE.out] at h
                  exact h) (fun _ _ => rfl), HSs.out.one, HSs.out.bel, HSs.out.lB⟩
                go_roundw
                case rel => exact ⟨r + 1, _, by omega, by go_num, HFN.out⟩
                case measure => simp only [intOf]; omega
              · go_wp2
                clear c0 lb
                have HKPt : Hid (∀ W, Below X.heap.size X W → W.cell? ⟨g, r, none⟩ = some (.slice (some ⟨gr, 0, none⟩) n n)) := fun W hW => by have h := (HSX.out.any hW).tb.cellO r hrl; rw [HGR.out] at h; exact h
                have HDt : Hid (Below X.heap.size X X.drew) := below_drewN (Below.refl _ _) 1
                have lgt := HSX.out.tb.lt.1.2
                refine wp_region_held_drew (S := fun w' => w'.cell? ⟨g, r, none⟩ = some (.slice (some ⟨gr, 0, none⟩) n n)) (by kernel_rfl) (HKPt.out _ HDt.out) (fun hHeld => ?_)
                refine wpAnyH_take (i := 0) (v := ?vv0t) rfl (by kernel_rfl) (by kernel_rfl) (by kernel_rfl) (fun _ _ _ h => h) (Or.inl ⟨by rfl, ?yy0t⟩) (by assumption) ?rr0t
                case yy0t => (intro w hSw; (try dsimp only at hSw); go_simp; (try with_reducible rfl))
                try simp only [Act.put]
                refine wpAnyH_take (i := 1) (v := ?vv1t) rfl (by kernel_rfl) (by kernel_rfl) (by kernel_rfl) (fun _ _ _ h => h) (Or.inl ⟨by rfl, ?yy1t⟩) (by assumption) ?rr1t
                case yy1t => (intro w hSw; (try dsimp only at hSw); go_simp; (try with_reducible rfl))
                try simp only [Act.put]
                refine wpAnyH_take (i := 2) (v := ?vv2t) rfl (by kernel_rfl) (by kernel_rfl) (by kernel_rfl) (fun _ _ _ h => h) (Or.inl ⟨by rfl, ?yy2t⟩) (by assumption) ?rr2t
                case yy2t => (intro w hSw; (try dsimp only at hSw); go_simp; (try with_reducible rfl))
                try simp only [Act.put]
                refine wpAnyH_take (i := 3) (v := ?vv3t) rfl (by kernel_rfl) (by kernel_rfl) (by kernel_rfl) (fun _ _ _ h => h) (Or.inl ⟨by rfl, ?yy3t⟩) (by assumption) ?rr3t
                case yy3t => (intro w hSw; (try dsimp only at hSw); go_simp; (try with_reducible rfl))
                try simp only [Act.put]
                refine wpAnyH_take (i := 4) (v := ?vv4t) rfl (by kernel_rfl) (by kernel_rfl) (by kernel_rfl) (fun _ _ _ h => h) (Or.inl ⟨by rfl, ?yy4t⟩) (by assumption) ?rr4t
                case yy4t => (intro w hSw; (try dsimp only at hSw); go_simp; (try with_reducible rfl))
                try simp only [Act.put]
                refine wpAnyH_take (i := 5) (v := ?vv5t) rfl (by kernel_rfl) (by kernel_rfl) (by kernel_rfl) (fun _ _ _ h => h) (Or.inl ⟨by rfl, ?yy5t⟩) (by assumption) ?rr5t
                case yy5t => (intro w hSw; (try dsimp only at hSw); go_simp; (try with_reducible rfl))
                try simp only [Act.put]
                refine wpAnyH_take (i := 6) (v := ?vv6t) rfl (by kernel_rfl) (by kernel_rfl) (by kernel_rfl) (fun _ _ _ h => h) (Or.inl ⟨by rfl, ?yy6t⟩) (by assumption) ?rr6t
                case yy6t => (intro w hSw; (try dsimp only at hSw); go_simp; (try with_reducible rfl))
                try simp only [Act.put]
                refine wpAnyH_take (i := 7) (v := ?vv7t) rfl (by kernel_rfl) (by kernel_rfl) (by kernel_rfl) (fun _ _ _ h => h) (Or.inl ⟨by rfl, ?yy7t⟩) (by assumption) ?rr7t
                case yy7t => (intro w hSw; (try dsimp only at hSw); go_simp; (try with_reducible rfl))
                try simp only [Act.put]
                obtain ⟨Yt, hYt⟩ : ∃ Y, Y = (X.alloc (.cells #[.int .i64 (-1), .int .i64 1] 127)).drew := ⟨_, rfl⟩
                have HYt := hid_mkP hYt
                have H0 : Hid (Below X.heap.size X Yt) := (by rw [hYt]; exact ((Below.refl _ _).alloc (Nat.le_refl _) _).drew : Below X.heap.size X Yt)
                have HTL : Hid (TermsAt Yt X.heap.size 0 [(-1, 1)]) := (by rw [hYt]; exact terms_lit X #[.int .i64 (-1), .int .i64 1] 127 [(-1, 1)] rfl : TermsAt Yt X.heap.size 0 [(-1, 1)])
                have hlY : X.heap.size < Yt.heap.size := by rw [hYt]; simp
                clear hYt
                refine wpAnyH_ready (rs := [8]) (by kernel_rfl) (by simp) ?_
                refine AllReadyH.cons rfl (fun K hK => ?_) AllReadyH.nil
                go_simp
                rw [← HYt.out]
                refine hK.out _ _ (HKPt.out _ H0.out) (fun hHeld => ?_)
                clear hK K
                try simp only [Act.put]
                refine wpAnyH_ready (rs := [9]) (by kernel_rfl) (by simp) ?_
                refine AllReadyH.cons rfl (fun K hK => ?_) AllReadyH.nil
                go_simp
                go_wp2_with (go_at_call 83; refine (HPR.out vR R [(-1, 1)] X.heap.size 0 1 _ HOR.out (by unfold Two; simp) (by simp) (HRX.out.up H0.out) hlY HTL.out).mono ?_; rintro e9 w1 ⟨u1, rfl, hp1, hb1⟩)
                have HP1 := hid_mkP hp1
                have H1 : Hid (Below X.heap.size X w1) := H0.out.trans (hb1.mono H0.out.size)
                clear hp1 hb1
                refine hK.out _ _ (HKPt.out _ H1.out) (fun hHeld => ?_)
                clear hK K
                try simp only [Act.put]
                refine wpAnyH_take (i := 10) (v := ?vv10tz) rfl (by kernel_rfl) (by kernel_rfl) (by kernel_rfl) (fun _ _ _ h => h) (Or.inl ⟨by rfl, ?yy10tz⟩) (by assumption) ?rr10tz
                case yy10tz => (intro w hSw; (try dsimp only at hSw); go_simp; (try with_reducible rfl))
                try simp only [Act.put]
                obtain ⟨-, ⟨-, ua, um, uc, eu, -⟩, -⟩ := HP1.out
                subst eu
                have hfn : (fun y => prodL [(-1, 1)] R y) = buL x L R := funext fun y => by rw [← neg_L x (by omega) L R y]; simp only [prodL]; omega
                rw [hfn] at HP1
                have hws := HSX.out.any H1.out
                have HPT := hid_mkP (hws.put (q := r) (j := j) hrl HP1.out)
                have cs := hws.tb.cellR r j hrl hjn
                have fz := (hws.tb.rows r hrl).frozenAt j
                have ls := (hws.tb.lt.2 r hrl).2
                have HLN := hid_mkP ((HLX.out.up H1.out).set HPT.out.2 (hws.tb.cellS r hrl))
                have HRN := hid_mkP ((HRX.out.up H1.out).set HPT.out.2 (hws.tb.cellS r hrl))
                have HKS := hid_mkP (HPT.out.1.tb.cellO r hrl)
                rw [HGR.out] at HPT cs fz ls HKS HLN HRN
                generalize U r j = vO at cs
                clear hws hfn
                refine wpAnyH_ready (rs := [11]) (by kernel_rfl) (by simp) ?_
                refine AllReadyH.cons rfl (fun K hK => ?_) AllReadyH.nil
                go_simp
                refine hK.out _ _ HKS.out (fun hHeld => ?_)
                clear hK K hHeld HKS cs fz ls
                refine wpAnyH_done (by kernel_rfl) ?_ _
                try simp only [Act.put]
                have HPP := hid_mkP HPT.out.1
                clear HPT
                obtain ⟨Zt, hZt⟩ : ∃ Z, Z = w1.setCell ⟨gr, j, none⟩ (.slice ua um uc) := ⟨_, rfl⟩
                rw [← hZt] at HPP HLN HRN ⊢
                have HSt := hid_mkP HPP.out
                have HLZt := hid_mkP HLN.out
                have HRZt := hid_mkP HRN.out
                obtain ⟨vUt, hvUt⟩ : ∃ v, v = Value.slice ua um uc := ⟨_, rfl⟩
                rw [← hvUt] at HSt
                clear hZt hvUt HPP HLN HRN HTL hlY HYt HP1 H0 H1
                go_wp2
                have HKPu : Hid (∀ W, Below Zt.heap.size Zt W → W.cell? ⟨g, r, none⟩ = some (.slice (some ⟨gr, 0, none⟩) n n)) := fun W hW => by have h := (HSt.out.any hW).tb.cellO r hrl; rw [HGR.out] at h; exact h
                have HDu : Hid (Below Zt.heap.size Zt Zt.drew) := below_drewN (Below.refl _ _) 1
                have lgu := HSt.out.tb.lt.1.2
                refine wp_region_held_drew (S := fun w' => w'.cell? ⟨g, r, none⟩ = some (.slice (some ⟨gr, 0, none⟩) n n)) (by kernel_rfl) (HKPu.out _ HDu.out) (fun hHeld => ?_)
                refine wpAnyH_take (i := 0) (v := ?vv0u) rfl (by kernel_rfl) (by kernel_rfl) (by kernel_rfl) (fun _ _ _ h => h) (Or.inl ⟨by rfl, ?yy0u⟩) (by assumption) ?rr0u
                case yy0u => (intro w hSw; (try dsimp only at hSw); go_simp; (try with_reducible rfl))
                try simp only [Act.put]
                refine wpAnyH_take (i := 1) (v := ?vv1u) rfl (by kernel_rfl) (by kernel_rfl) (by kernel_rfl) (fun _ _ _ h => h) (Or.inl ⟨by rfl, ?yy1u⟩) (by assumption) ?rr1u
                case yy1u => (intro w hSw; (try dsimp only at hSw); go_simp; (try with_reducible rfl))
                try simp only [Act.put]
                refine wpAnyH_take (i := 2) (v := ?vv2u) rfl (by kernel_rfl) (by kernel_rfl) (by kernel_rfl) (fun _ _ _ h => h) (Or.inl ⟨by rfl, ?yy2u⟩) (by assumption) ?rr2u
                case yy2u => (intro w hSw; (try dsimp only at hSw); go_simp; (try with_reducible rfl))
                try simp only [Act.put]
                refine wpAnyH_take (i := 3) (v := ?vv3u) rfl (by kernel_rfl) (by kernel_rfl) (by kernel_rfl) (fun _ _ _ h => h) (Or.inl ⟨by rfl, ?yy3u⟩) (by assumption) ?rr3u
                case yy3u => (intro w hSw; (try dsimp only at hSw); go_simp; (try with_reducible rfl))
                try simp only [Act.put]
                refine wpAnyH_take (i := 4) (v := ?vv4u) rfl (by kernel_rfl) (by kernel_rfl) (by kernel_rfl) (fun _ _ _ h => h) (Or.inl ⟨by rfl, ?yy4u⟩) (by assumption) ?rr4u
                case yy4u => (intro w hSw; (try dsimp only at hSw); go_simp; (try with_reducible rfl))
                try simp only [Act.put]
                refine wpAnyH_take (i := 5) (v := ?vv5u) rfl (by kernel_rfl) (by kernel_rfl) (by kernel_rfl) (fun _ _ _ h => h) (Or.inl ⟨by rfl, ?yy5u⟩) (by assumption) ?rr5u
                case yy5u => (intro w hSw; (try dsimp only at hSw); go_simp; (try with_reducible rfl))
                try simp only [Act.put]
                refine wpAnyH_take (i := 6) (v := ?vv6u) rfl (by kernel_rfl) (by kernel_rfl) (by kernel_rfl) (fun _ _ _ h => h) (Or.inl ⟨by rfl, ?yy6u⟩) (by assumption) ?rr6u
                case yy6u => (intro w hSw; (try dsimp only at hSw); go_simp; (try with_reducible rfl))
                try simp only [Act.put]
                refine wpAnyH_take (i := 7) (v := ?vv7u) rfl (by kernel_rfl) (by kernel_rfl) (by kernel_rfl) (fun _ _ _ h => h) (Or.inl ⟨by rfl, ?yy7u⟩) (by assumption) ?rr7u
                case yy7u => (intro w hSw; (try dsimp only at hSw); go_simp; (try with_reducible rfl))
                try simp only [Act.put]
                refine wpAnyH_take (i := 8) (v := ?vv8u) rfl (by kernel_rfl) (by kernel_rfl) (by kernel_rfl) (fun _ _ _ h => h) (Or.inl ⟨by rfl, ?yy8u⟩) (by assumption) ?rr8u
                case yy8u => (intro w hSw; (try dsimp only at hSw); go_simp; (try with_reducible rfl))
                try simp only [Act.put]
                obtain ⟨Yu, hYu⟩ : ∃ Y, Y = (Zt.alloc (.cells #[.int .i64 (-1), .int .i64 1] 127)).drew := ⟨_, rfl⟩
                have HYu := hid_mkP hYu
                have H0 : Hid (Below Zt.heap.size Zt Yu) := (by rw [hYu]; exact ((Below.refl _ _).alloc (Nat.le_refl _) _).drew : Below Zt.heap.size Zt Yu)
                have HTL : Hid (TermsAt Yu Zt.heap.size 0 [(-1, 1)]) := (by rw [hYu]; exact terms_lit Zt #[.int .i64 (-1), .int .i64 1] 127 [(-1, 1)] rfl : TermsAt Yu Zt.heap.size 0 [(-1, 1)])
                have hlY : Zt.heap.size < Yu.heap.size := by rw [hYu]; simp
                clear hYu
                refine wpAnyH_ready (rs := [9]) (by kernel_rfl) (by simp) ?_
                refine AllReadyH.cons rfl (fun K hK => ?_) AllReadyH.nil
                go_simp
                rw [← HYu.out]
                refine hK.out _ _ (HKPu.out _ H0.out) (fun hHeld => ?_)
                clear hK K
                try simp only [Act.put]
                refine wpAnyH_ready (rs := [10]) (by kernel_rfl) (by simp) ?_
                refine AllReadyH.cons rfl (fun K hK => ?_) AllReadyH.nil
                go_simp
                go_wp2_with (go_at_call 82; refine (HSU.out (.slice (some ⟨g1, 0, none⟩) 1 1) (.slice (some ⟨Zt.heap.size, 0, none⟩) 1 1) oneP (coefL [(-1, 1)]) (-1) _ (Or.inr rfl) (oneP_ok.mono (by omega) (by omega)) (inv_ok.mono (by omega) (by omega)) (HSt.out.one.up H0.out) (PV.of_terms (q := [(-1, 1)]) hlY HTL.out (by decide) canon_inv)).mono ?_; rintro e9 w1 ⟨u1, rfl, hp1, hb1⟩)
                have HP1 := hid_mkP hp1
                have H1 : Hid (Below Zt.heap.size Zt w1) := H0.out.trans (hb1.mono H0.out.size)
                clear hp1 hb1
                refine hK.out _ _ (HKPu.out _ H1.out) (fun hHeld => ?_)
                clear hK K
                try simp only [Act.put]
                obtain ⟨ib, ioff, icap, ei, hil, hit⟩ := HP1.out.terms canon_less (by decide)
                subst ei
                have HIT := hid_mkP hit
                have HIL := hid_mkP hil
                clear hit hil
                refine wpAnyH_ready (rs := [11]) (by kernel_rfl) (by simp) ?_
                refine AllReadyH.cons rfl (fun K hK => ?_) AllReadyH.nil
                go_simp
                go_wp2_with (go_at_call 83; refine (HPR.out vR R [(-1, -1), (0, 1)] ib ioff icap _ HOR.out (by unfold Two; simp) (by simp) (HRZt.out.up H1.out) HIL.out HIT.out).mono ?_; rintro e9 w2 ⟨u2, rfl, hp2, hb2⟩)
                have HP2 := hid_mkP hp2
                have H2 : Hid (Below Zt.heap.size Zt w2) := H1.out.trans (hb2.mono H1.out.size)
                clear hp2 hb2
                refine hK.out _ _ (HKPu.out _ H2.out) (fun hHeld => ?_)
                clear hK K
                try simp only [Act.put]
                refine wpAnyH_ready (rs := [12]) (by kernel_rfl) (by simp) ?_
                refine AllReadyH.cons rfl (fun K hK => ?_) AllReadyH.nil
                go_simp
                go_wp2_with (go_at_call 82; refine (HSU.out vL u2 L (fun y => prodL [(-1, -1), (0, 1)] R y) 1 _ (Or.inl rfl) (HOL.out.mono (by omega) (by omega)) (buOk_prod (by unfold Two; simp) (by simp) HOR.out) (HLZt.out.up H2.out) HP2.out).mono ?_; rintro e9 w3 ⟨u3, rfl, hp3, hb3⟩)
                have HP3 := hid_mkP hp3
                have H3 : Hid (Below Zt.heap.size Zt w3) := H2.out.trans (hb3.mono H2.out.size)
                clear hp3 hb3
                refine hK.out _ _ (HKPu.out _ H3.out) (fun hHeld => ?_)
                clear hK K
                try simp only [Act.put]
                refine wpAnyH_take (i := 13) (v := ?vv13uz) rfl (by kernel_rfl) (by kernel_rfl) (by kernel_rfl) (fun _ _ _ h => h) (Or.inl ⟨by rfl, ?yy13uz⟩) (by assumption) ?rr13uz
                case yy13uz => (intro w hSw; (try dsimp only at hSw); go_simp; (try with_reducible rfl))
                try simp only [Act.put]
                obtain ⟨-, ⟨-, ua, um, uc, eu, -⟩, -⟩ := HP3.out
                subst eu
                have hfn : (fun y => L y + 1 * prodL [(-1, -1), (0, 1)] R y) = buR x L R := funext fun y => by rw [← neg_R x (by omega) L R y]; simp only [prodL, Int.sub_zero]; omega
                rw [hfn] at HP3
                have hws := HSt.out.any H3.out
                have HPT := hid_mkP (hws.put (q := r) (j := i) hrl HP3.out)
                have cs := hws.tb.cellR r i hrl hin
                have fz := (hws.tb.rows r hrl).frozenAt i
                have ls := (hws.tb.lt.2 r hrl).2
                have HLN := hid_mkP ((HLZt.out.up H3.out).set HPT.out.2 (hws.tb.cellS r hrl))
                have HRN := hid_mkP ((HRZt.out.up H3.out).set HPT.out.2 (hws.tb.cellS r hrl))
                have HKS := hid_mkP (HPT.out.1.tb.cellO r hrl)
                rw [HGR.out] at HPT cs fz ls HKS HLN HRN
                generalize uv U r j vUt r i = vO at cs
                clear hws hfn
                refine wpAnyH_ready (rs := [14]) (by kernel_rfl) (by simp) ?_
                refine AllReadyH.cons rfl (fun K hK => ?_) AllReadyH.nil
                go_simp
                refine hK.out _ _ HKS.out (fun hHeld => ?_)
                clear hK K hHeld HKS cs fz ls
                refine wpAnyH_done (by kernel_rfl) ?_ _
                try simp only [Act.put]
                have HPP := hid_mkP HPT.out.1
                clear HPT
                obtain ⟨Zu, hZu⟩ : ∃ Z, Z = w3.setCell ⟨gr, i, none⟩ (.slice ua um uc) := ⟨_, rfl⟩
                rw [← hZu] at HPP HLN HRN ⊢
                have HSu := hid_mkP HPP.out
                have HLZu := hid_mkP HLN.out
                have HRZu := hid_mkP HRN.out
                obtain ⟨vUu, hvUu⟩ : ∃ v, v = Value.slice ua um uc := ⟨_, rfl⟩
                rw [← hvUu] at HSu
                clear hZu hvUu HPP HLN HRN HTL hlY HYu HP1 HP2 HP3 H0 H1 H2 H3 HIT HIL
                go_wp2
                have HFN : Hid (StR w w.heap.size g c5 n gs (uv (uv U r j vUt) r i vUu) (fun a s => if a < r + 1 then buS x (buT l k a) s else buT l k a s) (.slice (some ⟨g1, 0, none⟩) 1 1) Zu) := ⟨HSu.out.tb.congr (fun _ _ _ _ => rfl) (fun a s _ _ => by
                  have h := bu_row x (buT l k) _ r i j HX.out HIJ.out (fun _ _ => rfl) a s
                  rw [HLE.out, HRE.out] at h
                  exact h) (fun _ _ => rfl), HSu.out.one, HSu.out.bel, HSu.out.lB⟩
                go_roundw
                case rel => exact ⟨r + 1, _, by omega, by go_num, HFN.out⟩
                case measure => simp only [intOf]; omega
            · obtain rfl : n = r := by omega
              have HFN : Hid (StR w w.heap.size g c5 n gs U (buT l (k + 1)) (.slice (some ⟨g1, 0, none⟩) 1 1) W3) := ⟨hS.out.tb.congr (fun _ _ _ _ => rfl) (fun a s ha _ => by rw [HNX.out]; exact (if_pos ha).symm) (fun _ _ => rfl), hS.out.one, hS.out.bel, hS.out.lB⟩
              go_wp2
              go_roundw
              case rel => exact ⟨k + 1, U, by omega, by go_num, HFN.out⟩
              case measure => simp only [intOf]; omega
        · obtain rfl : m = k := by omega
          have HFN := hid_mkP hS.out
          go_wp2
          go_ret
          exact ⟨_, g, c5, gs, V, rfl, HFN.out.tb, HFN.out.bel⟩
end Go.Proofs.Ytfceigcjonlhkaa.Poly
/- The law ClosureTables: its walk. -/
namespace Go.Proofs.Ytfceigcjonlhkaa.Poly
open Go.RowKit Go.Maps

set_option maxHeartbeats 8000000 in
set_option maxRecDepth 100000 in
theorem closureTables_any (n : Int) (a : Option Addr) (c : Nat) (l : List Int) (w : World) (hl : l.length * 8 ≤ 140737488355328) (h : InAt w w.heap.size 1 (.slice a l.length c) l.length (intsV l)) :
    Calls Try.prog 9 #[.int .i64 n, .slice a l.length c] w fun e w' => e = .returned (.bool true) ∧ Below w.heap.size w w' := by
  have HI : Hid (∀ W, Below w.heap.size w W → InAt W W.heap.size 1 (.slice a l.length c) l.length (intsV l)) := fun W hW => h.up hW
  have HL : Hid (l.length * 8 ≤ 140737488355328) := hl
  have HC : Hid (∀ W, Below w.heap.size w W → Calls Try.prog 35 #[.slice a l.length c] W fun e w' => ∃ a' c', e = .returned (.slice a' l.length c') ∧ RdAt w' w'.heap.size 1 (.slice a' l.length c') l.length (intsV l) ∧ Below W.heap.size W w') := fun W hW => intsL_copy a c l W hl (HI.out W hW)
  have HM : Hid (∀ W, Below w.heap.size w W → Calls Try.prog 36 #[.int .i64 n, .slice a l.length c, .slice none 0 0] W fun e w' => e = .returned (.int .i64 (wordN n l)) ∧ Below W.heap.size W w') := fun W hW => by
    have := wordsMay_any a none c 0 l [] n W hl (by simp) (by simpa using hl) (HI.out W hW) (Or.inl ⟨rfl, rfl⟩)
    rw [wordsN_nil] at this
    exact this
  clear h hl
  by_cases hn : wordN n l = 0
  · obtain ⟨n2, n6, -, hl20⟩ := wordN_ok hn
    obtain ⟨m, rfl⟩ : ∃ m : Nat, n = (m : Int) := ⟨n.toNat, by omega⟩
    have hm6 : m ≤ 6 := by omega
    rw [hn] at HM
    have HF : Hid (∀ a' c' W, RdAt W W.heap.size 1 (.slice a' l.length c') l.length (intsV l) → Calls Try.prog 38 #[.int .i64 (m : Nat), .slice a' l.length c'] W fun e w' => ∃ (B q : Nat) (qs : Nat → Nat) (U : Nat → Nat → Value), e = .returned (.tuple #[.slice (some ⟨q, 0, none⟩) m m, .int .i64 0]) ∧ Td B q m qs m U (buT l l.length) w' ∧ Below W.heap.size W w') := fun a' c' W hW => burau_yes a' c' m l W hn hW
    have HG : Hid (∀ W, Below w.heap.size w W → Calls Try.prog 39 #[.int .i64 (m : Nat), .slice a l.length c] W fun e w' => ∃ (B g cc : Nat) (gs : Nat → Nat) (V : Nat → Nat → Value), e = .returned (.slice (some ⟨g, 0, none⟩) m cc) ∧ Te B g cc m gs V (buT l l.length) w' ∧ Below W.heap.size W w') := fun W hW => burauOf_any a c m l W hn (HI.out W hW).rdI
    generalize buT l l.length = F at HF HG
    generalize l.length = N at HC HM HF HG hl20 ⊢
    clear hn HI HL
    go_enter Try.func9, Try.ntmps9
    go_wp2_with (go_at_call 35; refine (HC.out _ (Below.refl _ _)).mono ?_; rintro e9 w1 ⟨a1, c1, rfl, hr1, hb1⟩; refine Hid.out ?_)
    refine Lib.hid ?_
    have HB1 : Hid (Below w.heap.size w w1) := hb1
    have HF1 := hid_mkP (HF.out a1 c1 w1 hr1)
    clear hb1 hr1
    go_wp2_with (go_at_call 38; refine HF1.out.mono ?_; rintro e9 w2 ⟨B2, q, qs, U, rfl, hT2, hb2⟩; refine Hid.out ?_)
    refine Lib.hid ?_
    have HB2 : Hid (Below w.heap.size w w2) := HB1.out.trans (hb2.mono HB1.out.size)
    have HT2 := hid_mkP hT2
    clear hb2 hT2 HF1
    go_wp2_with (go_at_call 36; refine (HM.out _ HB2.out).mono ?_; rintro e9 w3 ⟨rfl, hb3⟩; refine Hid.out ?_)
    refine Lib.hid ?_
    have HB3 : Hid (Below w.heap.size w w3) := HB2.out.trans (hb3.mono HB2.out.size)
    have HT3 := hid_mkP (HT2.out.any hb3)
    clear hb3
    go_wp2_with (go_at_call 39; refine (HG.out _ HB3.out).mono ?_; rintro e9 w4 ⟨B4, g, cc, gs, V, rfl, hT4, hb4⟩; refine Hid.out ?_)
    refine Lib.hid ?_
    have HB4 : Hid (Below w.heap.size w w4) := HB3.out.trans (hb4.mono HB3.out.size)
    have HT4 := hid_mkP (HT3.out.any hb4)
    have HU4 := hid_mkP hT4
    clear hb4 hT4 HT2 HT3
    have hmm : ((m : Int) != (m : Int)) = false := by simp
    go_wp2
    go_loopw [9] (fun v9 wr => ∃ r : Nat, r ≤ m ∧ v9 = .int .i64 (r : Nat) ∧ Hid (Below w4.heap.size w4 wr)) (fun v9 _ => m - (intOf v9).toNat)
    case atStart => exact ⟨0, Nat.zero_le _, rfl, Below.refl _ _⟩
    case round =>
      rename World => W1
      obtain ⟨r, hrm, rfl, hB⟩ := hrel
      by_cases hrl : r < m
      · have hrI : (r : Int) < (m : Int) := by omega
        have o0 := (HT4.out.any hB.out).cellO r hrl hrl
        have lq := (HT4.out.any hB.out).lt.1.2
        obtain ⟨qr, hqr⟩ : ∃ z, qs r = z := ⟨_, rfl⟩
        obtain ⟨gr, hgr⟩ : ∃ z, gs r = z := ⟨_, rfl⟩
        have HQR := hid_mkP hqr
        have HGR := hid_mkP hgr
        rw [hqr] at o0
        clear hqr hgr
        have HBW := hid_mkP hB.out
        clear hB
        go_wp2
        clear o0 lq
        go_loopw [10] (fun v10 ws => ∃ k : Nat, k ≤ m ∧ v10 = .int .i64 (k : Nat) ∧ Hid (Below w4.heap.size w4 ws)) (fun v10 _ => m - (intOf v10).toNat)
        case atStart => exact ⟨0, Nat.zero_le _, rfl, HBW.out⟩
        case round =>
          clear HBW
          rename World => W2
          obtain ⟨k, hkm, rfl, hB⟩ := hrel
          by_cases hkl : k < m
          · have hkI : (k : Int) < (m : Int) := by omega
            have hT := HT4.out.any hB.out
            have hU := HU4.out.any hB.out
            have o0 := hT.cellO r hrl hrl
            have o1 := hT.cellR r k hrl hkl
            have o2 := hU.cellO r hrl
            have o3 := hU.cellR r k hrl hkl
            rw [HQR.out] at o0 o1
            rw [HGR.out] at o2 o3
            have l0 := hT.lt.1.2
            have l1 := (hT.lt.2 r hrl).2
            have l2 := hU.lt.1.2
            have l3 := (hU.lt.2 r hrl).2
            rw [HQR.out] at l1
            rw [HGR.out] at l3
            have HSA : Hid (∀ W, Below W2.heap.size W2 W → Calls Try.prog 40 #[U r k, V r k] W fun e w' => e = .returned (.bool true) ∧ Below W.heap.size W w') := fun W hW => by
              obtain ⟨l1, p1, c1⟩ := (hT.vals r k hrl hkl).up hW
              obtain ⟨l2, p2, c2⟩ := (hU.vals r k hrl hkl).up hW
              refine same_canon _ _ l1 l2 (F r k) W ?_ p1.1 p2.1 c1 c2
              obtain ⟨s, d, e, -⟩ := p1.1.slice
              obtain ⟨s', n', d', e', h1, h2⟩ := p1.2
              rw [e] at e'
              injection e' with _ e2 _
              omega
            obtain ⟨ua, um, uc, eu⟩ : ∃ a m c, U r k = .slice a m c := by
              obtain ⟨l1, ⟨-, a, m, c, e, -⟩, -⟩ := hT.vals r k hrl hkl
              exact ⟨a, m, c, e⟩
            obtain ⟨va, vm, vc, ev⟩ : ∃ a m c, V r k = .slice a m c := by
              obtain ⟨l1, ⟨-, a, m, c, e, -⟩, -⟩ := hU.vals r k hrl hkl
              exact ⟨a, m, c, e⟩
            rw [eu] at o1 HSA
            rw [ev] at o3 HSA
            have HKP : Hid (∀ W, Below W2.heap.size W2 W → W.cell? ⟨q, r, none⟩ = some (.slice (some ⟨qr, 0, none⟩) m m) ∧ W.cell? ⟨qr, k, none⟩ = some (.slice ua um uc) ∧ W.cell? ⟨g, r, none⟩ = some (.slice (some ⟨gr, 0, none⟩) m m) ∧ W.cell? ⟨gr, k, none⟩ = some (.slice va vm vc)) := fun W hW => ⟨bcell hW l0 o0, bcell hW l1 o1, bcell hW l2 o2, bcell hW l3 o3⟩
            have HD : Hid (Below W2.heap.size W2 W2.drew) := below_drewN (Below.refl _ _) 1
            have HBB := hid_mkP hB.out
            clear hT hU eu ev hB
            go_wp2
            refine wp_region_held_drew (S := fun w' => w'.cell? ⟨q, r, none⟩ = some (.slice (some ⟨qr, 0, none⟩) m m) ∧ w'.cell? ⟨qr, k, none⟩ = some (.slice ua um uc) ∧ w'.cell? ⟨g, r, none⟩ = some (.slice (some ⟨gr, 0, none⟩) m m) ∧ w'.cell? ⟨gr, k, none⟩ = some (.slice va vm vc)) (by kernel_rfl) (HKP.out _ HD.out) (fun hHeld => ?_)
            refine wpAnyH_take (i := 0) (v := ?vv0l) rfl (by kernel_rfl) (by kernel_rfl) (by kernel_rfl) (fun _ _ _ h => h) (Or.inl ⟨by rfl, ?yy0l⟩) (by assumption) ?rr0l
            case yy0l => (intro w hSw; (try dsimp only at hSw); go_simp; (try with_reducible rfl))
            try simp only [Act.put]
            refine wpAnyH_take (i := 1) (v := ?vv1l) rfl (by kernel_rfl) (by kernel_rfl) (by kernel_rfl) (fun _ _ _ h => h) (Or.inl ⟨by rfl, ?yy1l⟩) (by assumption) ?rr1l
            case yy1l => (intro w hSw; (try dsimp only at hSw); go_simp; (try with_reducible rfl))
            try simp only [Act.put]
            refine wpAnyH_take (i := 2) (v := ?vv2l) rfl (by kernel_rfl) (by kernel_rfl) (by kernel_rfl) (fun _ _ _ h => h) (Or.inl ⟨by rfl, ?yy2l⟩) (by assumption) ?rr2l
            case yy2l => (intro w hSw; (try dsimp only at hSw); go_simp; (try with_reducible rfl))
            try simp only [Act.put]
            refine wpAnyH_take (i := 3) (v := ?vv3l) rfl (by kernel_rfl) (by kernel_rfl) (by kernel_rfl) (fun _ _ _ h => h) (Or.inl ⟨by rfl, ?yy3l⟩) (by assumption) ?rr3l
            case yy3l => (intro w hSw; (try dsimp only at hSw); go_simp; (try with_reducible rfl))
            try simp only [Act.put]
            refine wpAnyH_take (i := 4) (v := ?vv4l) rfl (by kernel_rfl) (by kernel_rfl) (by kernel_rfl) (fun _ _ _ h => h) (Or.inl ⟨by rfl, ?yy4l⟩) (by assumption) ?rr4l
            case yy4l => (intro w hSw; (try dsimp only at hSw); go_simp; (try with_reducible rfl))
            try simp only [Act.put]
            refine wpAnyH_take (i := 5) (v := ?vv5l) rfl (by kernel_rfl) (by kernel_rfl) (by kernel_rfl) (fun _ _ _ h => h) (Or.inl ⟨by rfl, ?yy5l⟩) (by assumption) ?rr5l
            case yy5l => (intro w hSw; (try dsimp only at hSw); go_simp; (try with_reducible rfl))
            try simp only [Act.put]
            refine wpAnyH_take (i := 6) (v := ?vv6l) rfl (by kernel_rfl) (by kernel_rfl) (by kernel_rfl) (fun _ _ _ h => h) (Or.inl ⟨by rfl, ?yy6l⟩) (by assumption) ?rr6l
            case yy6l => (intro w hSw; (try dsimp only at hSw); go_simp; (try with_reducible rfl))
            try simp only [Act.put]
            refine wpAnyH_take (i := 7) (v := ?vv7l) rfl (by kernel_rfl) (by kernel_rfl) (by kernel_rfl) (fun _ _ _ h => h) (Or.inl ⟨by rfl, ?yy7l⟩) (by assumption) ?rr7l
            case yy7l => (intro w hSw; (try dsimp only at hSw); go_simp; (try with_reducible rfl))
            try simp only [Act.put]
            refine wpAnyH_take (i := 8) (v := ?vv8l) rfl (by kernel_rfl) (by kernel_rfl) (by kernel_rfl) (fun _ _ _ h => h) (Or.inl ⟨by rfl, ?yy8l⟩) (by assumption) ?rr8l
            case yy8l => (intro w hSw; (try dsimp only at hSw); go_simp; (try with_reducible rfl))
            try simp only [Act.put]
            refine wpAnyH_take (i := 9) (v := ?vv9l) rfl (by kernel_rfl) (by kernel_rfl) (by kernel_rfl) (fun _ _ _ h => h) (Or.inl ⟨by rfl, ?yy9l⟩) (by assumption) ?rr9l
            case yy9l => (intro w hSw; (try dsimp only at hSw); go_simp; (try with_reducible rfl))
            try simp only [Act.put]
            refine wpAnyH_take (i := 10) (v := ?vv10l) rfl (by kernel_rfl) (by kernel_rfl) (by kernel_rfl) (fun _ _ _ h => h) (Or.inl ⟨by rfl, ?yy10l⟩) (by assumption) ?rr10l
            case yy10l => (intro w hSw; (try dsimp only at hSw); go_simp; (try with_reducible rfl))
            try simp only [Act.put]
            refine wpAnyH_take (i := 11) (v := ?vv11l) rfl (by kernel_rfl) (by kernel_rfl) (by kernel_rfl) (fun _ _ _ h => h) (Or.inl ⟨by rfl, ?yy11l⟩) (by assumption) ?rr11l
            case yy11l => (intro w hSw; (try dsimp only at hSw); go_simp; (try with_reducible rfl))
            try simp only [Act.put]
            refine wpAnyH_take (i := 12) (v := ?vv12l) rfl (by kernel_rfl) (by kernel_rfl) (by kernel_rfl) (fun _ _ _ h => h) (Or.inl ⟨by rfl, ?yy12l⟩) (by assumption) ?rr12l
            case yy12l => (intro w hSw; (try dsimp only at hSw); go_simp; (try with_reducible rfl))
            try simp only [Act.put]
            refine wpAnyH_take (i := 13) (v := ?vv13l) rfl (by kernel_rfl) (by kernel_rfl) (by kernel_rfl) (fun _ _ _ h => h) (Or.inl ⟨by rfl, ?yy13l⟩) (by assumption) ?rr13l
            case yy13l => (intro w hSw; (try dsimp only at hSw); go_simp; (try with_reducible rfl))
            try simp only [Act.put]
            refine wpAnyH_ready (rs := [14]) (by kernel_rfl) (by simp) ?_
            refine AllReadyH.cons rfl (fun K hK => ?_) AllReadyH.nil
            go_simp
            go_wp2_with (go_at_call 40; refine (HSA.out _ HD.out).mono ?_; rintro e9 w5 ⟨rfl, hb5⟩)
            have H5 : Hid (Below W2.heap.size W2 w5) := HD.out.trans (hb5.mono HD.out.size)
            clear hb5
            refine hK.out _ _ (HKP.out _ H5.out) (fun hHeld => ?_)
            clear hK K
            try simp only [Act.put]
            refine wpAnyH_take (i := 15) (v := ?vv15l) rfl (by kernel_rfl) (by kernel_rfl) (by kernel_rfl) (fun _ _ _ h => h) (Or.inl ⟨by rfl, ?yy15l⟩) (by assumption) ?rr15l
            case yy15l => (intro w hSw; (try dsimp only at hSw); go_simp; (try with_reducible rfl))
            try simp only [Act.put]
            refine wpAnyH_done (by kernel_rfl) ?_ _
            try simp only [Act.put]
            have HB5 : Hid (Below w4.heap.size w4 w5) := HBB.out.trans (H5.out.mono HBB.out.size)
            clear o0 o1 o2 o3 hHeld
            go_wp2
            go_roundw
            case rel => exact ⟨k + 1, by omega, by go_num, HB5.out⟩
            case measure => simp only [intOf]; omega
          · obtain rfl : m = k := by omega
            have HBB := hid_mkP hB.out
            go_wp2
            go_roundw
            case rel => exact ⟨r + 1, by omega, by go_num, HBB.out⟩
            case measure => simp only [intOf]; omega
      · obtain rfl : m = r := by omega
        have HFN : Hid (Below w.heap.size w W1) := HB4.out.trans (hB.out.mono HB4.out.size)
        go_wp2
        go_ret
        exact ⟨by first | rfl | simp, HFN.out⟩
  · have HF : Hid (∀ a' c' W, RdAt W W.heap.size 1 (.slice a' l.length c') l.length (intsV l) → Calls Try.prog 38 #[.int .i64 n, .slice a' l.length c'] W fun e w' => e = .returned (.tuple #[.slice none 0 0, .int .i64 (wordN n l)]) ∧ Below W.heap.size W w') := fun a' c' W hW => burau_no a' c' l n W HL.out hn hW
    generalize wordN n l = r at hn HF HM
    have hr0 : (r == 0) = false := beq_eq_false_iff_ne.2 hn
    have hr1 : (r != 0) = true := bne_iff_ne.2 hn
    have hrr : (r == r) = true := beq_self_eq_true r
    generalize l.length = N at HC HM HF ⊢
    clear HI HL
    go_enter Try.func9, Try.ntmps9
    go_wp2_with (go_at_call 35; refine (HC.out _ (Below.refl _ _)).mono ?_; rintro e9 w1 ⟨a1, c1, rfl, hr1, hb1⟩; refine Hid.out ?_)
    refine Lib.hid ?_
    have HB1 : Hid (Below w.heap.size w w1) := hb1
    have HF1 := hid_mkP (HF.out a1 c1 w1 hr1)
    clear hb1 hr1
    go_wp2_with (go_at_call 38; refine HF1.out.mono ?_; rintro e9 w2 ⟨rfl, hb2⟩; refine Hid.out ?_)
    refine Lib.hid ?_
    have HB2 : Hid (Below w.heap.size w w2) := HB1.out.trans (hb2.mono HB1.out.size)
    clear hb2
    go_wp2_with (go_at_call 36; refine (HM.out _ HB2.out).mono ?_; rintro e9 w3 ⟨rfl, hb3⟩; refine Hid.out ?_)
    refine Lib.hid ?_
    have HB3 : Hid (Below w.heap.size w w3) := HB2.out.trans (hb3.mono HB2.out.size)
    clear hb3
    have hr1 : (r != 0) = true := bne_iff_ne.2 hn
    go_wp2
    go_ret
    exact ⟨by first | rfl | simp, HB3.out⟩
end Go.Proofs.Ytfceigcjonlhkaa.Poly

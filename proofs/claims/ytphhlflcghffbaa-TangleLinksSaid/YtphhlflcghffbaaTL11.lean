/- The walk of tangle.walker.walk. -/
import Derived.Test.YtphhlflcghffbaaTL10
import Derived.Test.YtphhlflcghffbaaTL5
namespace Go.Proofs.Ytphhlflcghffbaa
open Go.RowKit Go.Maps

theorem below_wk {B g : Nat} {w0 W X : World} (h : Below B w0 W) (hs : B ≤ W.heap.size) (hB : B ≤ g) (hg : W.grownBy X (some g)) : Below B w0 X := h.grown hg hs (fun q hq => by have := Option.some.inj hq; omega)
theorem drewN_grown (W : World) (n : Nat) (r : Option Nat) : W.grownBy (W.drewN n) r := grown_below (below_drewN (Below.refl _ _) n) r

/-- What is left to be numbered. -/
def wkM (gW n : Nat) (W : World) : Nat := match W.cell? ⟨gW, 2, none⟩ with
  | some (.int _ k) => 4 * n + 5 - k.toNat
  | _ => 0
theorem wkM_at {gW gP b B m n : Nat} {U : Nat → Nat} {k : Nat} {row : List Int} {W : World} (h : WlkSt gW gP b B m n U k row W) : wkM gW n W = 4 * n + 5 - k := by
  unfold wkM
  rw [show W.cell? ⟨gW, 2, none⟩ = some (.int .i64 (k : Nat)) from block_cell h.box rfl]
  simp

set_option maxHeartbeats 16000000 in
set_option maxRecDepth 100000 in
theorem walk_any (gW gP b B m n s : Nat) (U : Nat → Nat) (L : List Nat) (w0 w : World) (hU : Ties n U) (hn : n ≤ 16) (hL : Rest n U L) (hs : Sp n s) (hBW : B ≤ gW) (hBP : B ≤ gP) (hst : WlkSt gW gP b B m n U L.length (mapI (6 * n) (cellF U L)) w) (hB : Below B w0 w) (hBs : B ≤ w.heap.size) :
    Calls Try.prog 141 #[.pointer (some ⟨gW, 0, none⟩), spV s] w fun r w' => r = .returned (.tuple #[]) ∧ WlkSt gW gP b B m n U (goS n U L s).length (mapI (6 * n) (cellF U (goS n U L s))) w' ∧ Below B w0 w' := by
  have HU : Hid (Ties n U) := hU
  have HGO : Hid (GoSt n U L s L s) := GoSt.start hU hL hs
  obtain ⟨G, hG⟩ : ∃ G, goS n U L s = G := ⟨_, rfl⟩
  have HG : Hid (goS n U L s = G) := hG
  rw [hG]
  rw [spV_at hs]
  have hsv := hs
  unfold Sp at hsv
  obtain ⟨c, hc⟩ : ∃ c, s / 4 - 1 = c := ⟨_, rfl⟩
  obtain ⟨t, ht⟩ : ∃ t, s % 4 = t := ⟨_, rfl⟩
  have HX : Hid (s = 4 * c + 4 + t ∧ c < n ∧ t < 4) := (⟨by omega, by omega, by omega⟩ : s = 4 * c + 4 + t ∧ c < n ∧ t < 4)
  rw [hc, ht]
  obtain ⟨Y, hY⟩ : ∃ Y, Y = (w.alloc (.cells #[.int .i64 (c : Nat), .int .i64 (t : Nat)] 147)).alloc (.cells #[.int .i64 (c : Nat), .int .i64 (t : Nat)] 147) := ⟨_, rfl⟩
  have HY : Hid (Y = (w.alloc (.cells #[.int .i64 (c : Nat), .int .i64 (t : Nat)] 147)).alloc (.cells #[.int .i64 (c : Nat), .int .i64 (t : Nat)] 147)) := hY
  have hgY : w.grownBy Y none := by rw [hY]; exact grown_two (World.grownBy_alloc _ _ _) (World.grownBy_alloc _ _ _)
  have HAT : Hid (WlkAt gW gP b B m n U L.length (mapI (6 * n) (cellF U L)) (w.heap.size + 1) c t Y) := ⟨hst.any hgY, (by rw [hY]; have := box_at (w.alloc (.cells #[.int .i64 (c : Nat), .int .i64 (t : Nat)] 147)) (.cells #[.int .i64 (c : Nat), .int .i64 (t : Nat)] 147); simpa using this)⟩
  have HBY : Hid (Below B w0 Y ∧ B ≤ Y.heap.size) := ⟨hB.grown hgY hBs (fun q hq => by cases hq), Nat.le_trans hBs hgY.size⟩
  have HGT : Hid (B ≤ w.heap.size + 1) := (by omega : B ≤ w.heap.size + 1)
  clear hY hgY hst hB hG hc ht hs hL hU hsv
  go_enter Try.func141, Try.ntmps141
  go_wp2
  rw [← HY.out]
  go_loopw [4] (fun v4 wr => ∃ (K : List Nat) (x g cc ss : Nat), v4 = .pointer (some ⟨g, 0, none⟩) ∧ B ≤ g ∧ Hid (x = 4 * cc + 4 + ss ∧ cc < n ∧ ss < 4) ∧ Hid (WlkAt gW gP b B m n U K.length (mapI (6 * n) (cellF U K)) g cc ss wr) ∧ Hid (GoSt n U L s K x) ∧ Hid (Below B w0 wr ∧ B ≤ wr.heap.size)) (fun _ wr => wkM gW n wr)
  case atStart => exact ⟨L, s, w.heap.size + 1, c, t, rfl, HGT.out, HX.out, HAT.out, HGO.out, HBY.out⟩
  case round =>
    clear HAT HGO HBY HX HGT
    rename World => W1
    obtain ⟨K, x, g, cc, ss, rfl, hgB, hxc, hat, hgo, hbl⟩ := hrel
    obtain ⟨c0, c1, d0, d1, d2⟩ := hat.out.cells
    obtain ⟨l0, l1, l2⟩ := hat.out.lts
    have hxs : Sp n x := hgo.out.1
    obtain ⟨hx1, hx2, hx3⟩ := hxc.out
    have HIXA : Hid (ixA x = cc * 6 + ss) := (by unfold ixA; omega : ixA x = cc * 6 + ss)
    have e0 := hat.out.st.rowCell (cc * 6 + ss) (by omega)
    rw [mapI_at _ _ _ (by omega), ← HIXA.out, cellF_ix U K hxs, HIXA.out] at e0
    have hcI : (cc : Int) < (n : Int) := by omega
    have hsI : (ss : Int) < 4 := by omega
    by_cases hF : FL U K x = 0
    · have hway : Way n U K s x := by
        rcases hgo.out.2 with ⟨h1, -⟩ | ⟨-, h1, -⟩
        · exact absurd hF h1
        · exact h1
      have hsh := hway.short
      obtain ⟨m1, m2⟩ := FL_zero.1 hF
      have m3 := (hway.new HU.out m1).1
      have HNX : Hid (GoSt n U L s (K ++ [x]) (nxt U x)) := hgo.out.step HU.out hF
      have HCS : Hid ((((mapI (6 * n) (cellF U K)).set (ixA x) ((K.length : Int) + 1)).set (ixA (U x)) ((K.length : Int) + 1)).set (6 * (x / 4 - 1) + 4 + x % 2) ((x % 4 : Nat) : Int) = mapI (6 * n) (cellF U (K ++ [x]))) := cell_step HU.out hxs m1 m3 m2
      have HMS : Hid (wkM gW n W1 = 4 * n + 5 - K.length) := wkM_at hat.out.st
      have HUX : Hid (Sp n (U x)) := HU.out.sp x hxs
      have HXS : Hid (Sp n x) := hxs
      rw [hF] at e0
      obtain ⟨kk, hkk⟩ : ∃ kk, K.length = kk := ⟨_, rfl⟩
      have HKK : Hid (K.length = kk) := hkk
      rw [hkk] at hat HCS hsh HMS d2
      obtain ⟨R, hR⟩ : ∃ R, mapI (6 * n) (cellF U K) = R := ⟨_, rfl⟩
      rw [hR] at hat HCS
      have ewk : IntKind.i64.wrap ((kk : Int) + 1) = (kk : Int) + 1 := IntWalk.i64_in _ (by omega)
      clear hR hkk hway hF m1 m2 m3
      go_wp2
      go_quiet (fail)
      have HA1 : Hid (WlkAt gW gP b B m n U kk R g cc ss (W1.drewN nq)) := hat.out.any (drewN_grown _ _ _)
      have HB1 : Hid (Below B w0 (W1.drewN nq) ∧ B ≤ (W1.drewN nq).heap.size) := ⟨hbl.out.1.grown (drewN_grown _ _ none) hbl.out.2 (fun q hq => by cases hq), Nat.le_trans hbl.out.2 (drewN_grown _ _ none).size⟩
      clear c0 c1 d0 d1 d2 e0 l0 l1 l2 hat hbl
      generalize W1.drewN nq = V1 at HA1 HB1 ⊢
      obtain ⟨c0, c1, d0, d1, d2⟩ := HA1.out.cells
      obtain ⟨l0, l1, l2⟩ := HA1.out.lts
      have f2 : V1.frozen? ⟨gW, 2, none⟩ = false := froz HA1.out.st.box
      go_upto_region 5 with (fail)
      obtain ⟨V2, hV2⟩ : ∃ V2, V2 = V1.setCell ⟨gW, 2, none⟩ (.int .i64 ((kk : Int) + 1)) := ⟨_, rfl⟩
      have HA2 : Hid (WlkAt gW gP b B m n U ((kk : Int) + 1) R g cc ss V2) := (by rw [hV2]; exact HA1.out.setK _ : WlkAt gW gP b B m n U ((kk : Int) + 1) R g cc ss V2)
      have HB2 : Hid (Below B w0 V2 ∧ B ≤ V2.heap.size) := (by rw [hV2]; exact ⟨below_wk HB1.out.1 HB1.out.2 hBW (set_grown _ _ _ _), by simpa using HB1.out.2⟩ : Below B w0 V2 ∧ B ≤ V2.heap.size)
      rw [← hV2]
      clear hV2 c0 c1 d0 d1 d2 l0 l1 l2 f2 HA1 HB1
      obtain ⟨uc, huc⟩ : ∃ uc, U x / 4 - 1 = uc := ⟨_, rfl⟩
      obtain ⟨us, hus⟩ : ∃ us, U x % 4 = us := ⟨_, rfl⟩
      have HSX : Hid (spV x = .agg #[.int .i64 (cc : Nat), .int .i64 (ss : Nat)]) := (by rw [spV_at HXS.out, show x / 4 - 1 = cc by omega, show x % 4 = ss by omega] : spV x = .agg #[.int .i64 (cc : Nat), .int .i64 (ss : Nat)])
      have HSU : Hid (spV (U x) = .agg #[.int .i64 (uc : Nat), .int .i64 (us : Nat)]) := (by rw [spV_at HUX.out, huc, hus] : spV (U x) = .agg #[.int .i64 (uc : Nat), .int .i64 (us : Nat)])
      have HN1 : Hid (∀ V k R, WlkSt gW gP b B m n U k R V → Calls Try.prog 166 #[.pointer (some ⟨gW, 0, none⟩), .agg #[.int .i64 (cc : Nat), .int .i64 (ss : Nat)]] V fun r w' => r = .returned (.tuple #[]) ∧ w'.ownsRow B 190 6 (.slice (some ⟨gP, 0, none⟩) n n) n (intsV (R.set (ixA x) k)) ∧ V.grownBy w' (some gP)) := fun V k R h => by rw [← HSX.out]; exact number_any gW gP b B n x k R V HXS.out h.box h.row
      have HN2 : Hid (∀ V k R, WlkSt gW gP b B m n U k R V → Calls Try.prog 166 #[.pointer (some ⟨gW, 0, none⟩), .agg #[.int .i64 (uc : Nat), .int .i64 (us : Nat)]] V fun r w' => r = .returned (.tuple #[]) ∧ w'.ownsRow B 190 6 (.slice (some ⟨gP, 0, none⟩) n n) n (intsV (R.set (ixA (U x)) k)) ∧ V.grownBy w' (some gP)) := fun V k R h => by rw [← HSU.out]; exact number_any gW gP b B n (U x) k R V HUX.out h.box h.row
      have hxU : x < 80 := by omega
      have HLK : Hid (∀ V, MapT V b m (Sp n) U → (Instr.lookup 122 (.map (some b)) (.agg #[.int .i64 (cc : Nat), .int .i64 (ss : Nat)]) false).run Try.prog V = .ok (.agg #[.int .i64 (uc : Nat), .int .i64 (us : Nat)]) V) := fun V h => by rw [← HSX.out, ← HSU.out]; exact h.look x HXS.out hxU
      clear huc hus
      obtain ⟨c0, c1, d0, d1, d2⟩ := HA2.out.cells
      obtain ⟨l0, l1, l2⟩ := HA2.out.lts
      go_upto_region 6 with (go_at_call 166; refine (HN1.out _ _ _ HA2.out.st).mono ?_; rintro e9 V3 ⟨rfl, hr3, hg3⟩)
      have HA3 : Hid (WlkAt gW gP b B m n U ((kk : Int) + 1) (R.set (ixA x) ((kk : Int) + 1)) g cc ss V3) := HA2.out.setRow hr3 hg3
      have HB3 : Hid (Below B w0 V3 ∧ B ≤ V3.heap.size) := ⟨below_wk HB2.out.1 HB2.out.2 hBP hg3, Nat.le_trans HB2.out.2 hg3.size⟩
      clear hr3 hg3 c0 c1 d0 d1 d2 l0 l1 l2 HA2 HB2 HN1
      have HA3d : Hid (WlkAt gW gP b B m n U ((kk : Int) + 1) (R.set (ixA x) ((kk : Int) + 1)) g cc ss V3.drew) := HA3.out.any (drewN_grown V3 1 none)
      obtain ⟨c0, c1, d0, d1, d2⟩ := HA3.out.cells
      obtain ⟨l0, l1, l2⟩ := HA3.out.lts
      have q1 := HLK.out V3.drew HA3d.out.st.map
      go_region_held3 (fun W => W.cell? ⟨g, 0, none⟩ = some (.int .i64 (cc : Nat)) ∧ W.cell? ⟨g, 1, none⟩ = some (.int .i64 (ss : Nat)) ∧ W.cell? ⟨gW, 0, none⟩ = some (.map (some b))) (first | exact ⟨c0, c1, d0⟩ | exact HK4.out) (first
        | (go_at_call 166; refine (HN2.out _ _ _ HA3d.out.st).mono ?_; rintro e9 V4 ⟨rfl, hr4, hg4⟩
           have HA4 : Hid (WlkAt gW gP b B m n U ((kk : Int) + 1) ((R.set (ixA x) ((kk : Int) + 1)).set (ixA (U x)) ((kk : Int) + 1)) g cc ss V4) := HA3d.out.setRow hr4 hg4
           have HB4 : Hid (Below B w0 V4 ∧ B ≤ V4.heap.size) := ⟨below_wk (HB3.out.1.grown (drewN_grown V3 1 none) HB3.out.2 (fun q hq => by cases hq)) (Nat.le_trans HB3.out.2 (drewN_grown V3 1 none).size) hBP hg4, Nat.le_trans (Nat.le_trans HB3.out.2 (drewN_grown V3 1 none).size) hg4.size⟩
           have HK4 : Hid (V4.cell? ⟨g, 0, none⟩ = some (.int .i64 (cc : Nat)) ∧ V4.cell? ⟨g, 1, none⟩ = some (.int .i64 (ss : Nat)) ∧ V4.cell? ⟨gW, 0, none⟩ = some (.map (some b))) := ⟨(HA3d.out.setRow hr4 hg4).cells.1, (HA3d.out.setRow hr4 hg4).cells.2.1, (HA3d.out.setRow hr4 hg4).cells.2.2.1⟩))
      clear q1 hr4 hg4 c0 c1 d0 d1 d2 l0 l1 l2 HA3 HB3 HA3d HN2 HK4
      obtain ⟨R', hR'⟩ : ∃ R', (R.set (ixA x) ((kk : Int) + 1)).set (ixA (U x)) ((kk : Int) + 1) = R' := ⟨_, rfl⟩
      have HR' : Hid ((R.set (ixA x) ((kk : Int) + 1)).set (ixA (U x)) ((kk : Int) + 1) = R') := hR'
      rw [hR'] at HA4
      clear hR'
      obtain ⟨nc, hnc⟩ : ∃ nc, nxt U x / 4 - 1 = nc := ⟨_, rfl⟩
      obtain ⟨ns, hns⟩ : ∃ ns, nxt U x % 4 = ns := ⟨_, rfl⟩
      have HNS : Hid (Sp n (nxt U x)) := HU.out.nxt_sp HXS.out
      have HNC : Hid (nxt U x = 4 * nc + 4 + ns ∧ nc < n ∧ ns < 4) := (by have := HNS.out; unfold Sp at this; exact ⟨by omega, by omega, by omega⟩ : nxt U x = 4 * nc + 4 + ns ∧ nc < n ∧ ns < 4)
      have HSN : Hid (spV (nxt U x) = .agg #[.int .i64 (nc : Nat), .int .i64 (ns : Nat)]) := (by rw [spV_at HNS.out, hnc, hns] : spV (nxt U x) = .agg #[.int .i64 (nc : Nat), .int .i64 (ns : Nat)])
      have HSA : Hid (spV (acr x) = .agg #[.int .i64 (cc : Nat), .int .i64 ((ss + 2) % 4 : Nat)]) := (by
        have h1 := acr_sp HXS.out
        have h2 : acr x = 4 * cc + 4 + (ss + 2) % 4 := by unfold acr; omega
        rw [spV_at h1, show acr x / 4 - 1 = cc by omega, show acr x % 4 = (ss + 2) % 4 by omega] : spV (acr x) = .agg #[.int .i64 (cc : Nat), .int .i64 ((ss + 2) % 4 : Nat)])
      obtain ⟨s2, hs2⟩ : ∃ s2, (ss + 2) % 4 = s2 := ⟨_, rfl⟩
      rw [hs2] at HSA
      have HAC : Hid (∀ V, Calls Try.prog 158 #[.agg #[.int .i64 (cc : Nat), .int .i64 (ss : Nat)]] V fun e w' => e = .returned (.agg #[.int .i64 (cc : Nat), .int .i64 (s2 : Nat)]) ∧ Below V.heap.size V w') := fun V => by rw [← hs2]; exact across_any (cc : Int) ss V hx3
      have HLN : Hid (∀ V, MapT V b m (Sp n) U → (Instr.lookup 122 (.map (some b)) (.agg #[.int .i64 (cc : Nat), .int .i64 (s2 : Nat)]) false).run Try.prog V = .ok (.agg #[.int .i64 (nc : Nat), .int .i64 (ns : Nat)]) V) := fun V h => by
        rw [← HSA.out, ← HSN.out]
        have h1 := acr_sp HXS.out
        exact h.look (acr x) h1 (by unfold Sp at h1; omega)
      clear hnc hns hs2 HSX HSU HLK HSN HSA
      obtain ⟨c0, c1, d0, d1, d2⟩ := HA4.out.cells
      obtain ⟨l0, l1, l2⟩ := HA4.out.lts
      by_cases hodd : ss % 2 = 1
      · have hde : decide (ss % 2 = 1) = true := by simp; omega
        have HCS2 : Hid (R'.set (cc * 6 + 5) (ss : Int) = mapI (6 * n) (cellF U (K ++ [x]))) := (by rw [← HCS.out, ← HR'.out, show 6 * (x / 4 - 1) + 4 + x % 2 = cc * 6 + 5 by omega, show x % 4 = ss by omega] : R'.set (cc * 6 + 5) (ss : Int) = mapI (6 * n) (cellF U (K ++ [x])))
        have HAB : Hid (∀ V, Calls Try.prog 167 #[.agg #[.int .i64 (cc : Nat), .int .i64 (ss : Nat)]] V fun e w' => e = .returned (.bool true) ∧ Below V.heap.size V w') := fun V => by rw [← hde]; exact spotAbove_any (cc : Int) ss V hx3
        go_upto_region 8 with (go_at_call 167; refine (HAB.out _).mono ?_; rintro e9 V5 ⟨rfl, hb5⟩)
        have HA5 : Hid (WlkAt gW gP b B m n U ((kk : Int) + 1) R' g cc ss V5) := HA4.out.any (grown_below hb5 none)
        have HB5 : Hid (Below B w0 V5 ∧ B ≤ V5.heap.size) := ⟨HB4.out.1.grown (grown_below hb5 none) HB4.out.2 (fun q hq => by cases hq), Nat.le_trans HB4.out.2 hb5.size⟩
        clear hb5 c0 c1 d0 d1 d2 l0 l1 l2
        obtain ⟨c0, c1, d0, d1, d2⟩ := HA5.out.cells
        obtain ⟨l0, l1, l2⟩ := HA5.out.lts
        have e5 := HA5.out.st.rowCell (cc * 6 + 5) (by omega)
        have f5 : V5.frozen? ⟨gP, cc * 6 + 5, none⟩ = false := HA5.out.st.row.frozenAt _
        have hst := HA5.out.st.row.stored (cc * 6 + 5) (.int .i64 (ss : Nat))
        rw [intsV_set] at hst
        obtain ⟨V6, hV6⟩ : ∃ V6, V6 = (V5.setCell ⟨gP, cc * 6 + 5, none⟩ (.int .i64 (ss : Nat))).drew := ⟨_, rfl⟩
        have HV6 : Hid (V6 = (V5.setCell ⟨gP, cc * 6 + 5, none⟩ (.int .i64 (ss : Nat))).drew) := hV6
        have HG6 : Hid (V5.grownBy V6 (some gP)) := (by rw [hV6]; exact grown_two hst.2 (drewN_grown _ 1 _) : V5.grownBy V6 (some gP))
        have HA6 : Hid (WlkAt gW gP b B m n U ((kk : Int) + 1) (mapI (6 * n) (cellF U (K ++ [x]))) g cc ss V6) := HA5.out.setRow (by rw [← HCS2.out, hV6]; exact own_any hst.1 (drewN_grown _ 1 none)) HG6.out
        have HB6 : Hid (Below B w0 V6 ∧ B ≤ V6.heap.size) := ⟨below_wk HB5.out.1 HB5.out.2 hBP HG6.out, Nat.le_trans HB5.out.2 HG6.out.size⟩
        clear hst hV6
        apply cut_one
        case h =>
          intro key
          go_region_with (fail)
          all_goals exact key.out
        rw [← HV6.out]
        clear c0 c1 d0 d1 d2 l0 l1 l2 e5 f5 HA5 HB5 HV6 HA4 HB4 HCS2
        obtain ⟨c0, c1, d0, d1, d2⟩ := HA6.out.cells
        obtain ⟨l0, l1, l2⟩ := HA6.out.lts
        go_wp2
        obtain ⟨V7, hV7⟩ : ∃ V7, V7 = V6.alloc (.cells #[.int .i64 (cc : Nat), .int .i64 (ss : Nat)] 147) := ⟨_, rfl⟩
        rw [← hV7]
        have hg7 : V6.grownBy V7 none := by rw [hV7]; exact World.grownBy_alloc _ _ _
        have HA7 : Hid (WlkAt gW gP b B m n U ((kk : Int) + 1) (mapI (6 * n) (cellF U (K ++ [x]))) V6.heap.size cc ss V7) := ⟨HA6.out.st.any hg7, by rw [hV7]; exact box_at _ _⟩
        have HB7 : Hid (Below B w0 V7 ∧ B ≤ V7.heap.size) := ⟨HB6.out.1.grown hg7 HB6.out.2 (fun q hq => by cases hq), Nat.le_trans HB6.out.2 hg7.size⟩
        have hg6B : B ≤ V6.heap.size := HB6.out.2
        generalize V6.heap.size = g7 at HA7 hg6B ⊢
        clear hV7 hg7 c0 c1 d0 d1 d2 l0 l1 l2 HA6 HB6 HG6
        have HA7d : Hid (WlkAt gW gP b B m n U ((kk : Int) + 1) (mapI (6 * n) (cellF U (K ++ [x]))) g7 cc ss V7.drew) := HA7.out.any (drewN_grown V7 1 none)
        have HB7d : Hid (Below B w0 V7.drew ∧ B ≤ V7.drew.heap.size) := ⟨HB7.out.1.grown (drewN_grown V7 1 none) HB7.out.2 (fun q hq => by cases hq), Nat.le_trans HB7.out.2 (drewN_grown V7 1 none).size⟩
        obtain ⟨c0, c1, d0, d1, d2⟩ := HA7.out.cells
        obtain ⟨l0, l1, l2⟩ := HA7.out.lts
        have hnW := HA7.out.ne
        have HXX : Hid (∀ V9, WlkAt gW gP b B m n U ((kk : Int) + 1) (mapI (6 * n) (cellF U (K ++ [x]))) g7 cc ss V9 → (Below B w0 V9 ∧ B ≤ V9.heap.size) → WlkAt gW gP b B m n U ((K ++ [x]).length : Nat) (mapI (6 * n) (cellF U (K ++ [x]))) g7 nc ns ((V9.setCell ⟨g7, 0, none⟩ (.int .i64 (nc : Nat))).setCell ⟨g7, 1, none⟩ (.int .i64 (ns : Nat))) ∧ Below B w0 ((V9.setCell ⟨g7, 0, none⟩ (.int .i64 (nc : Nat))).setCell ⟨g7, 1, none⟩ (.int .i64 (ns : Nat))) ∧ B ≤ ((V9.setCell ⟨g7, 0, none⟩ (.int .i64 (nc : Nat))).setCell ⟨g7, 1, none⟩ (.int .i64 (ns : Nat))).heap.size) := fun V9 hA hBB => by
          have hgr : V9.grownBy ((V9.setCell ⟨g7, 0, none⟩ (.int .i64 (nc : Nat))).setCell ⟨g7, 1, none⟩ (.int .i64 (ns : Nat))) (some g7) := grown_two (set_grown _ _ _ _) (set_grown _ _ _ _)
          refine ⟨⟨⟨?_, ?_, ?_⟩, by rw [set_block (set_block hA.inn)]; rfl⟩, below_wk hBB.1 hBB.2 hg6B hgr, by simpa using hBB.2⟩
          · rw [show (((K ++ [x]).length : Nat) : Int) = (kk : Int) + 1 by rw [List.length_append, HKK.out]; simp]
            exact (hgr.block gW hA.lts.2.1 (fun e => hA.ne.1 (Option.some.inj e).symm)).trans hA.st.box
          · exact hA.st.row.kept hgr (Or.inr (fun e => hA.ne.2.1 (Option.some.inj e).symm))
          · exact hA.st.map.kept hgr (fun e => hA.ne.2.2 (Option.some.inj e).symm)
        have f0 : V7.frozen? ⟨g7, 0, none⟩ = false := froz HA7.out.inn
        have f1 : V7.frozen? ⟨g7, 1, none⟩ = false := froz HA7.out.inn
        go_region_with (first
          | (go_at_call 158; refine (HAC.out _).mono ?_; rintro e9 w9 ⟨rfl, hb9⟩
             have HA9 : Hid (WlkAt gW gP b B m n U ((kk : Int) + 1) (mapI (6 * n) (cellF U (K ++ [x]))) g7 cc ss w9) := HA7d.out.any (grown_below hb9 none)
             have HB9 : Hid (Below B w0 w9 ∧ B ≤ w9.heap.size) := ⟨HB7d.out.1.grown (grown_below hb9 none) HB7d.out.2 (fun q hq => by cases hq), Nat.le_trans HB7d.out.2 hb9.size⟩
             clear hb9
             have q9 := HLN.out w9 HA9.out.st.map
             obtain ⟨c0', c1', d0', d1', d2'⟩ := HA9.out.cells
             obtain ⟨l0', l1', l2'⟩ := HA9.out.lts
             have f0' : w9.frozen? ⟨g7, 0, none⟩ = false := froz HA9.out.inn
             have f1' : w9.frozen? ⟨g7, 1, none⟩ = false := froz HA9.out.inn))
        all_goals
          have HFN := HXX.out _ HA9.out HB9.out
          have HFN' : Hid (WlkAt gW gP b B m n U ((K ++ [x]).length : Nat) (mapI (6 * n) (cellF U (K ++ [x]))) g7 nc ns ((w9.setCell ⟨g7, 0, none⟩ (.int .i64 (nc : Nat))).setCell ⟨g7, 1, none⟩ (.int .i64 (ns : Nat))) ∧ Below B w0 ((w9.setCell ⟨g7, 0, none⟩ (.int .i64 (nc : Nat))).setCell ⟨g7, 1, none⟩ (.int .i64 (ns : Nat))) ∧ B ≤ ((w9.setCell ⟨g7, 0, none⟩ (.int .i64 (nc : Nat))).setCell ⟨g7, 1, none⟩ (.int .i64 (ns : Nat))).heap.size) := HFN
          clear HFN q9 c0' c1' d0' d1' d2' l0' l1' l2' f0' f1' c0 c1 d0 d1 d2 l0 l1 l2 f0 f1
          go_wp2
          go_roundw
          case rel => exact ⟨K ++ [x], nxt U x, g7, nc, ns, rfl, hg6B, HNC.out, HFN'.out.1, HNX.out, HFN'.out.2⟩
          case measure =>
            show wkM gW n _ < wkM gW n W1
            rw [HMS.out, wkM_at HFN'.out.1.st, List.length_append, HKK.out]
            simp only [List.length_cons, List.length_nil]
            omega
      · have hde : decide (ss % 2 = 1) = false := by simp; omega
        have HCS2 : Hid (R'.set (cc * 6 + 4) (ss : Int) = mapI (6 * n) (cellF U (K ++ [x]))) := (by rw [← HCS.out, ← HR'.out, show 6 * (x / 4 - 1) + 4 + x % 2 = cc * 6 + 4 by omega, show x % 4 = ss by omega] : R'.set (cc * 6 + 4) (ss : Int) = mapI (6 * n) (cellF U (K ++ [x])))
        have HAB : Hid (∀ V, Calls Try.prog 167 #[.agg #[.int .i64 (cc : Nat), .int .i64 (ss : Nat)]] V fun e w' => e = .returned (.bool false) ∧ Below V.heap.size V w') := fun V => by rw [← hde]; exact spotAbove_any (cc : Int) ss V hx3
        go_upto_region 9 with (go_at_call 167; refine (HAB.out _).mono ?_; rintro e9 V5 ⟨rfl, hb5⟩)
        have HA5 : Hid (WlkAt gW gP b B m n U ((kk : Int) + 1) R' g cc ss V5) := HA4.out.any (grown_below hb5 none)
        have HB5 : Hid (Below B w0 V5 ∧ B ≤ V5.heap.size) := ⟨HB4.out.1.grown (grown_below hb5 none) HB4.out.2 (fun q hq => by cases hq), Nat.le_trans HB4.out.2 hb5.size⟩
        clear hb5 c0 c1 d0 d1 d2 l0 l1 l2
        obtain ⟨c0, c1, d0, d1, d2⟩ := HA5.out.cells
        obtain ⟨l0, l1, l2⟩ := HA5.out.lts
        have e5 := HA5.out.st.rowCell (cc * 6 + 4) (by omega)
        have f5 : V5.frozen? ⟨gP, cc * 6 + 4, none⟩ = false := HA5.out.st.row.frozenAt _
        have hst := HA5.out.st.row.stored (cc * 6 + 4) (.int .i64 (ss : Nat))
        rw [intsV_set] at hst
        obtain ⟨V6, hV6⟩ : ∃ V6, V6 = (V5.setCell ⟨gP, cc * 6 + 4, none⟩ (.int .i64 (ss : Nat))).drew := ⟨_, rfl⟩
        have HV6 : Hid (V6 = (V5.setCell ⟨gP, cc * 6 + 4, none⟩ (.int .i64 (ss : Nat))).drew) := hV6
        have HG6 : Hid (V5.grownBy V6 (some gP)) := (by rw [hV6]; exact grown_two hst.2 (drewN_grown _ 1 _) : V5.grownBy V6 (some gP))
        have HA6 : Hid (WlkAt gW gP b B m n U ((kk : Int) + 1) (mapI (6 * n) (cellF U (K ++ [x]))) g cc ss V6) := HA5.out.setRow (by rw [← HCS2.out, hV6]; exact own_any hst.1 (drewN_grown _ 1 none)) HG6.out
        have HB6 : Hid (Below B w0 V6 ∧ B ≤ V6.heap.size) := ⟨below_wk HB5.out.1 HB5.out.2 hBP HG6.out, Nat.le_trans HB5.out.2 HG6.out.size⟩
        clear hst hV6
        apply cut_one
        case h =>
          intro key
          go_region_with (fail)
          all_goals exact key.out
        rw [← HV6.out]
        clear c0 c1 d0 d1 d2 l0 l1 l2 e5 f5 HA5 HB5 HV6 HA4 HB4 HCS2
        obtain ⟨c0, c1, d0, d1, d2⟩ := HA6.out.cells
        obtain ⟨l0, l1, l2⟩ := HA6.out.lts
        go_wp2
        obtain ⟨V7, hV7⟩ : ∃ V7, V7 = V6.alloc (.cells #[.int .i64 (cc : Nat), .int .i64 (ss : Nat)] 147) := ⟨_, rfl⟩
        rw [← hV7]
        have hg7 : V6.grownBy V7 none := by rw [hV7]; exact World.grownBy_alloc _ _ _
        have HA7 : Hid (WlkAt gW gP b B m n U ((kk : Int) + 1) (mapI (6 * n) (cellF U (K ++ [x]))) V6.heap.size cc ss V7) := ⟨HA6.out.st.any hg7, by rw [hV7]; exact box_at _ _⟩
        have HB7 : Hid (Below B w0 V7 ∧ B ≤ V7.heap.size) := ⟨HB6.out.1.grown hg7 HB6.out.2 (fun q hq => by cases hq), Nat.le_trans HB6.out.2 hg7.size⟩
        have hg6B : B ≤ V6.heap.size := HB6.out.2
        generalize V6.heap.size = g7 at HA7 hg6B ⊢
        clear hV7 hg7 c0 c1 d0 d1 d2 l0 l1 l2 HA6 HB6 HG6
        have HA7d : Hid (WlkAt gW gP b B m n U ((kk : Int) + 1) (mapI (6 * n) (cellF U (K ++ [x]))) g7 cc ss V7.drew) := HA7.out.any (drewN_grown V7 1 none)
        have HB7d : Hid (Below B w0 V7.drew ∧ B ≤ V7.drew.heap.size) := ⟨HB7.out.1.grown (drewN_grown V7 1 none) HB7.out.2 (fun q hq => by cases hq), Nat.le_trans HB7.out.2 (drewN_grown V7 1 none).size⟩
        obtain ⟨c0, c1, d0, d1, d2⟩ := HA7.out.cells
        obtain ⟨l0, l1, l2⟩ := HA7.out.lts
        have hnW := HA7.out.ne
        have HXX : Hid (∀ V9, WlkAt gW gP b B m n U ((kk : Int) + 1) (mapI (6 * n) (cellF U (K ++ [x]))) g7 cc ss V9 → (Below B w0 V9 ∧ B ≤ V9.heap.size) → WlkAt gW gP b B m n U ((K ++ [x]).length : Nat) (mapI (6 * n) (cellF U (K ++ [x]))) g7 nc ns ((V9.setCell ⟨g7, 0, none⟩ (.int .i64 (nc : Nat))).setCell ⟨g7, 1, none⟩ (.int .i64 (ns : Nat))) ∧ Below B w0 ((V9.setCell ⟨g7, 0, none⟩ (.int .i64 (nc : Nat))).setCell ⟨g7, 1, none⟩ (.int .i64 (ns : Nat))) ∧ B ≤ ((V9.setCell ⟨g7, 0, none⟩ (.int .i64 (nc : Nat))).setCell ⟨g7, 1, none⟩ (.int .i64 (ns : Nat))).heap.size) := fun V9 hA hBB => by
          have hgr : V9.grownBy ((V9.setCell ⟨g7, 0, none⟩ (.int .i64 (nc : Nat))).setCell ⟨g7, 1, none⟩ (.int .i64 (ns : Nat))) (some g7) := grown_two (set_grown _ _ _ _) (set_grown _ _ _ _)
          refine ⟨⟨⟨?_, ?_, ?_⟩, by rw [set_block (set_block hA.inn)]; rfl⟩, below_wk hBB.1 hBB.2 hg6B hgr, by simpa using hBB.2⟩
          · rw [show (((K ++ [x]).length : Nat) : Int) = (kk : Int) + 1 by rw [List.length_append, HKK.out]; simp]
            exact (hgr.block gW hA.lts.2.1 (fun e => hA.ne.1 (Option.some.inj e).symm)).trans hA.st.box
          · exact hA.st.row.kept hgr (Or.inr (fun e => hA.ne.2.1 (Option.some.inj e).symm))
          · exact hA.st.map.kept hgr (fun e => hA.ne.2.2 (Option.some.inj e).symm)
        have f0 : V7.frozen? ⟨g7, 0, none⟩ = false := froz HA7.out.inn
        have f1 : V7.frozen? ⟨g7, 1, none⟩ = false := froz HA7.out.inn
        go_region_with (first
          | (go_at_call 158; refine (HAC.out _).mono ?_; rintro e9 w9 ⟨rfl, hb9⟩
             have HA9 : Hid (WlkAt gW gP b B m n U ((kk : Int) + 1) (mapI (6 * n) (cellF U (K ++ [x]))) g7 cc ss w9) := HA7d.out.any (grown_below hb9 none)
             have HB9 : Hid (Below B w0 w9 ∧ B ≤ w9.heap.size) := ⟨HB7d.out.1.grown (grown_below hb9 none) HB7d.out.2 (fun q hq => by cases hq), Nat.le_trans HB7d.out.2 hb9.size⟩
             clear hb9
             have q9 := HLN.out w9 HA9.out.st.map
             obtain ⟨c0', c1', d0', d1', d2'⟩ := HA9.out.cells
             obtain ⟨l0', l1', l2'⟩ := HA9.out.lts
             have f0' : w9.frozen? ⟨g7, 0, none⟩ = false := froz HA9.out.inn
             have f1' : w9.frozen? ⟨g7, 1, none⟩ = false := froz HA9.out.inn))
        all_goals
          have HFN := HXX.out _ HA9.out HB9.out
          have HFN' : Hid (WlkAt gW gP b B m n U ((K ++ [x]).length : Nat) (mapI (6 * n) (cellF U (K ++ [x]))) g7 nc ns ((w9.setCell ⟨g7, 0, none⟩ (.int .i64 (nc : Nat))).setCell ⟨g7, 1, none⟩ (.int .i64 (ns : Nat))) ∧ Below B w0 ((w9.setCell ⟨g7, 0, none⟩ (.int .i64 (nc : Nat))).setCell ⟨g7, 1, none⟩ (.int .i64 (ns : Nat))) ∧ B ≤ ((w9.setCell ⟨g7, 0, none⟩ (.int .i64 (nc : Nat))).setCell ⟨g7, 1, none⟩ (.int .i64 (ns : Nat))).heap.size) := HFN
          clear HFN q9 c0' c1' d0' d1' d2' l0' l1' l2' f0' f1' c0 c1 d0 d1 d2 l0 l1 l2 f0 f1
          go_wp2
          go_roundw
          case rel => exact ⟨K ++ [x], nxt U x, g7, nc, ns, rfl, hg6B, HNC.out, HFN'.out.1, HNX.out, HFN'.out.2⟩
          case measure =>
            show wkM gW n _ < wkM gW n W1
            rw [HMS.out, wkM_at HFN'.out.1.st, List.length_append, HKK.out]
            simp only [List.length_cons, List.length_nil]
            omega
    · have HKG : Hid (K = G) := (by
        rcases hgo.out.2 with ⟨-, h1⟩ | ⟨h1, -⟩
        · exact h1.trans HG.out
        · exact absurd h1 hF : K = G)
      have hv : (FL U K x == 0) = false := beq_eq_false_iff_ne.2 hF
      have HFN : Hid (∀ nq, WlkSt gW gP b B m n U G.length (mapI (6 * n) (cellF U G)) (W1.drewN nq) ∧ Below B w0 (W1.drewN nq)) := fun nq => ⟨by rw [← HKG.out]; exact hat.out.st.any (drewN_grown _ _ _), hbl.out.1.grown (drewN_grown _ _ none) hbl.out.2 (fun q hq => by cases hq)⟩
      generalize FL U K x = v at e0 hv
      clear hF
      go_wp2
      go_quiet (fail)
      go_wp2
      exact bodyPost_end (v := .tuple #[]) (results_none rfl _ _ _) rfl ⟨rfl, HFN.out _⟩
end Go.Proofs.Ytphhlflcghffbaa

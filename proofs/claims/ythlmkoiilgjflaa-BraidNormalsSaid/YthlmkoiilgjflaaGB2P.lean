/- Several texts of the proof, one behind the other. -/
import Derived.Test.YthlmkoiilgjflaaGB1P
import Derived.Test.YthlmkoiilgjflaaBR8P
import Derived.Deep.LoopGhost
/- The walks of slices.Clone, braid.settled, delta and passed. -/
namespace Go.Proofs.Ythlmkoiilgjflaa
open Go.RowKit

theorem own_lowG {w : World} {B B' e s n : Nat} {v : Value} {xs : List Value} (h : w.ownsRow B e s v n xs) (hB : B' ≤ B) : w.ownsRow B' e s v n xs := by
  rcases h.2 with h1 | ⟨g, cap, cur, h1, h2, h3⟩
  · exact ⟨h.1, Or.inl h1⟩
  · exact ⟨h.1, Or.inr ⟨g, cap, cur, h1, Nat.le_trans hB h2, h3⟩⟩
theorem hid_g {p : Prop} (h : p) : Hid p := h
set_option maxHeartbeats 4000000 in
set_option maxRecDepth 100000 in
theorem cloneI_any (n c : Nat) (a : Option Addr) (l : List Int) (w : World) (hl : l.length = n) (h1 : 1 ≤ n) (hn : n ≤ 1000) (h : RdAt w w.heap.size 1 (.slice a n c) n (intsV l)) :
    Calls Try.prog 32 #[.slice a n c] w fun e w' => ∃ g c2, e = .returned (.slice (some ⟨g, 0, none⟩) n c2) ∧ w'.ownsRow w.heap.size 3 1 (.slice (some ⟨g, 0, none⟩) n c2) n (intsV l) ∧ Below w.heap.size w w' := by
  obtain ⟨i2, hk, hx0, hx1, hx2⟩ := info_parts infoInt
  obtain ⟨a', c', e, f⟩ := h
  injection e with e1 e2 e3
  subst e1 e3
  obtain ⟨b, off, rfl, hbw, hc⟩ := f (by omega)
  have HIN : Hid (InAt w w.heap.size 1 (.slice (some ⟨b, off, none⟩) n c) n (intsV l)) := Or.inr (Or.inr ⟨b, off, c, rfl, hbw, hc⟩)
  have HB0 : Hid (Below w.heap.size w (w.alloc (.cells #[] 3))) := (Below.refl _ _).alloc (Nat.le_refl _) _
  have HE : Hid ((w.alloc (.cells #[] 3)).ownsRow w.heap.size 3 1 (.slice (some ⟨w.heap.size, 0, none⟩) 0 0) 0 []) := (World.ownsRow_lit w #[] 0 (Nat.le_refl _) (Nat.zero_le _) rfl : (w.alloc (.cells #[] 3)).ownsRow w.heap.size 3 1 (.slice (some ⟨w.heap.size, 0, none⟩) 0 0) 0 [])
  have HLN : Hid ((intsV l).length = n) := (by rw [intsV_len, hl] : (intsV l).length = n)
  have HON := intsV_oneI l
  have hnil : ∀ W : World, Sem.run Try.prog (binOp .eql 22 (.slice (some ⟨b, off, none⟩) n c) (.slice none 0 0)) W = .ok (.bool false) W := by
    intro W
    first
      | rfl
      | (simp [binOp, go_sem]; done)
      | (unfold binOp; simp [go_sem, Try.underlying22]; done)
  clear hc hl f
  go_enter Try.func32, Try.ntmps32
  go_wp2_with (first
    | (at_builtin; refine wpList_append_in rfl _ _ 22 rfl w.heap.size 3 i2 (.int .i64 0) 1 8 Try.underlying22 hk hx0 hx1 hx2 rfl (by decide) _ 0 [] rfl HE.out _ w.heap.size n (intsV l) rfl (HIN.out.on HB0.out) (by rw [HLN.out, Nat.mul_one]) HON (by unfold maxLen; omega) (by omega) (by simp) ?_; intro v8 w8 hown8 hg8; refine Hid.out ?_))
  refine Lib.hid ?_
  have HO : Hid (w8.ownsRow w.heap.size 3 1 v8 n (intsV l)) := (by simpa using hown8 : w8.ownsRow w.heap.size 3 1 v8 n (intsV l))
  have HB : Hid (Below w.heap.size w w8) := HB0.out.grown hg8 (by simp) (fun q hq => by have : w.heap.size = q := Option.some.inj hq; omega)
  obtain ⟨g, c2, rfl, -⟩ := own_block HO.out (by omega)
  clear hown8 hg8
  go_wp2
  go_ret
  exact ⟨g, c2, rfl, HO.out, HB.out⟩

/-- What loose answers, told. -/
theorem lsV_some {n i : Nat} {b y : List Nat} (h : lsM n b y = some i) : lsV n b y = i + 1 := by unfold lsV; rw [h]
theorem lsV_none {n : Nat} {b y : List Nat} (h : lsM n b y = none) : lsV n b y = 0 := by unfold lsV; rw [h]
/-- Both rows on the way. -/
structure StlAt (w : World) (n B g1 c1 g2 c2 : Nat) (b y : List Nat) (W : World) : Prop where
  one : W.ownsRow w.heap.size 3 1 (.slice (some ⟨g1, 0, none⟩) n c1) n (intsV (eI n b))
  two : W.ownsRow B 3 1 (.slice (some ⟨g2, 0, none⟩) n c2) n (intsV (eI n y))
  lt : g1 < B
  ge : w.heap.size ≤ B
  bel : Below w.heap.size w W
theorem StlAt.any {w : World} {n B g1 c1 g2 c2 : Nat} {b y : List Nat} {W W' : World} (h : StlAt w n B g1 c1 g2 c2 b y W) (hg : W.grownBy W' none) : StlAt w n B g1 c1 g2 c2 b y W' :=
  ⟨own_any h.one hg, own_any h.two hg, h.lt, h.ge, h.bel.grown hg h.bel.size (fun q hq => by cases hq)⟩
theorem StlAt.fst {w : World} {n B g1 c1 g2 c2 : Nat} {b b' y : List Nat} {W W' : World} (h : StlAt w n B g1 c1 g2 c2 b y W) (ho : W'.ownsRow w.heap.size 3 1 (.slice (some ⟨g1, 0, none⟩) n c1) n (intsV (eI n b'))) (hg : W.grownBy W' (some g1)) : StlAt w n B g1 c1 g2 c2 b' y W' :=
  ⟨ho, h.two.kept hg (Or.inr (fun e => by have h1 : g2 = g1 := Option.some.inj e; have := (h.two.lt g2 rfl).1; have := h.lt; omega)), h.lt, h.ge, h.bel.grown hg h.bel.size (fun q hq => by have h1 : g1 = q := Option.some.inj hq; have := (h.one.lt g1 rfl).1; omega)⟩
theorem StlAt.snd {w : World} {n B g1 c1 g2 c2 : Nat} {b y y' : List Nat} {W W' : World} (h : StlAt w n B g1 c1 g2 c2 b y W) (ho : W'.ownsRow B 3 1 (.slice (some ⟨g2, 0, none⟩) n c2) n (intsV (eI n y'))) (hg : W.grownBy W' (some g2)) : StlAt w n B g1 c1 g2 c2 b y' W' :=
  ⟨h.one.kept hg (Or.inr (fun e => by have h1 : g1 = g2 := Option.some.inj e; have := (h.two.lt g2 rfl).1; have := h.lt; omega)), ho, h.lt, h.ge, h.bel.grown hg h.bel.size (fun q hq => by have h1 : g2 = q := Option.some.inj hq; have := (h.two.lt g2 rfl).1; have := h.ge; omega)⟩
theorem stG_none {n k : Nat} {b y : List Nat} (h : lsM n b y = none) : stG n k b y = (b, y) := by
  cases k with
  | zero => rfl
  | succ k => unfold stG; rw [h]
theorem stG_some {n k i : Nat} {b y : List Nat} (h : lsM n b y = some i) : stG n (k + 1) b y = stG n k (psw n b i) (psw n y i) := by
  conv => lhs; unfold stG
  rw [h]

set_option maxHeartbeats 8000000 in
set_option maxRecDepth 100000 in
theorem settled_any (n c1 c2 : Nat) (a1 a2 : Option Addr) (x y : List Nat) (w : World) (h2 : 2 ≤ n) (hn : n ≤ 1000) (hx : IsP n x) (hy : IsP n y) (h1 : RdAt w w.heap.size 1 (.slice a1 n c1) n (intsV (eI n x))) (h3 : RdAt w w.heap.size 1 (.slice a2 n c2) n (intsV (eI n y))) :
    Calls Try.prog 28 #[.slice a1 n c1, .slice a2 n c2] w fun e w' => ∃ g3 c3 g4 c4, e = .returned (.tuple #[.slice (some ⟨g3, 0, none⟩) n c3, .slice (some ⟨g4, 0, none⟩) n c4]) ∧ w'.ownsRow w.heap.size 3 1 (.slice (some ⟨g3, 0, none⟩) n c3) n (intsV (eI n (settle n x y).1)) ∧ w'.ownsRow w.heap.size 3 1 (.slice (some ⟨g4, 0, none⟩) n c4) n (intsV (eI n (settle n x y).2)) ∧ Below w.heap.size w w' := by
  have HC1 : Hid (Calls Try.prog 27 #[.slice a1 n c1] w fun e w' => ∃ a c, e = .returned (.slice a n c) ∧ w'.ownsRow w.heap.size 3 1 (.slice a n c) n (intsV (eI n (pv n x))) ∧ Below w.heap.size w w') := (by
    rw [← eI_endT hx]
    exact turnedRound_any _ n _ w hn (eI_ok hx) h1)
  have HC2 : Hid (∀ W, Below w.heap.size w W → Calls Try.prog 32 #[.slice a2 n c2] W fun e w' => ∃ g c2, e = .returned (.slice (some ⟨g, 0, none⟩) n c2) ∧ w'.ownsRow W.heap.size 3 1 (.slice (some ⟨g, 0, none⟩) n c2) n (intsV (eI n y)) ∧ Below W.heap.size W w') := fun W hW => cloneI_any n c2 a2 _ W (eI_len _ _) (by omega) hn ((h3.on hW).mono hW.size)
  have HXY : Hid (IsP n x ∧ IsP n y) := ⟨hx, hy⟩
  clear h1 h3 hx hy
  go_enter Try.func28, Try.ntmps28
  go_wp2_with (first
    | (go_at_call 27; refine HC1.out.mono ?_; rintro e9 w5 ⟨a5, c5, rfl, hr5, hb5⟩; refine Hid.out ?_))
  refine Lib.hid ?_
  obtain ⟨g5, c5', e5, -⟩ := own_block hr5 (by omega)
  injection e5 with e51 e52 e53
  subst e51 e53
  have HR5 := hid_g hr5
  have HB5 := hid_g hb5
  have HC2' := hid_g (HC2.out w5 hb5)
  clear hr5 hb5 HC1 HC2
  go_wp2_with (first
    | (go_at_call 32; refine HC2'.out.mono ?_; rintro e9 w6 ⟨g6, c6, rfl, hr6, hb6⟩; refine Hid.out ?_))
  refine Lib.hid ?_
  have HA6 : Hid (StlAt w n w5.heap.size g5 c5 g6 c6 (pv n x) y w6) := ⟨own_any HR5.out (grown_below hb6 none), hr6, (HR5.out.lt g5 rfl).2, HB5.out.size, HB5.out.grown (grown_below hb6 none) HB5.out.size (fun q hq => by cases hq)⟩
  have HLS : Hid (∀ W b y, StlAt w n w5.heap.size g5 c5 g6 c6 b y W → Calls Try.prog 33 #[.slice (some ⟨g5, 0, none⟩) n c5, .slice (some ⟨g6, 0, none⟩) n c6] W fun e w' => e = .returned (.int .i64 (lsV n b y : Nat)) ∧ StlAt w n w5.heap.size g5 c5 g6 c6 b y w') := fun W b y h => by
    refine (loose_any n _ _ _ _ b y W hn h2 (own_rd h.one) (own_rd h.two)).mono fun e w' => ?_
    rintro ⟨h3, h4⟩
    exact ⟨h3, h.any (grown_below h4 none)⟩
  have HTR1 : Hid (∀ W b y i, i + 1 < n → StlAt w n w5.heap.size g5 c5 g6 c6 b y W → Calls Try.prog 25 #[.slice (some ⟨g5, 0, none⟩) n c5, .int .i64 ((i : Int) + 1)] W fun e w' => e = .returned (.tuple #[]) ∧ StlAt w n w5.heap.size g5 c5 g6 c6 (psw n b i) y w') := fun W b y i hi h => by
    have h5 := trade_any w.heap.size g5 c5 n (i + 1) i (eI n b) W (eI_len _ _) hn hi rfl h.one
    rw [eI_trd hi] at h5
    refine h5.mono fun e w' => ?_
    rintro ⟨h6, h7, h8⟩
    exact ⟨h6, h.fst h7 h8⟩
  have HTR2 : Hid (∀ W b y i, i + 1 < n → StlAt w n w5.heap.size g5 c5 g6 c6 b y W → Calls Try.prog 25 #[.slice (some ⟨g6, 0, none⟩) n c6, .int .i64 ((i : Int) + 1)] W fun e w' => e = .returned (.tuple #[]) ∧ StlAt w n w5.heap.size g5 c5 g6 c6 b (psw n y i) w') := fun W b y i hi h => by
    have h5 := trade_any w5.heap.size g6 c6 n (i + 1) i (eI n y) W (eI_len _ _) hn hi rfl h.two
    rw [eI_trd hi] at h5
    refine h5.mono fun e w' => ?_
    rintro ⟨h6, h7, h8⟩
    exact ⟨h6, h.snd h7 h8⟩
  clear hr6 hb6 HR5 HB5 HC2'
  have HL0 := hid_g (HLS.out w6 _ _ HA6.out)
  go_wp2_with (first
    | (go_at_call 33; refine HL0.out.mono ?_; rintro e9 w7 ⟨rfl, hA7⟩; refine Hid.out ?_))
  refine Lib.hid ?_
  have HST : Hid (StI n x y (pv n x) y ∧ stG n (n * (n * n)) (pv n x) y = stG n (n * (n * n)) (pv n x) y ∧ n * (n * n) ≤ n * (n * n) + pw (pa y) n) := ⟨StI.start HXY.out.1 HXY.out.2, rfl, by omega⟩
  have HA7 := hid_g hA7
  clear hA7 HL0 HA6
  obtain ⟨M, hM⟩ : ∃ M, n * (n * n) = M := ⟨_, rfl⟩
  have HST2 : Hid (StI n x y (pv n x) y ∧ stG n M (pv n x) y = stG n (n * (n * n)) (pv n x) y ∧ n * (n * n) ≤ M + pw (pa y) n) := (by have := HST.out; rw [hM] at this ⊢; exact this)
  have HFN : Hid (∀ b c, StI n x y b c → lsM n b c = none → settle n x y = (pv n b, c)) := fun b c h5 h6 => settle_is HXY.out.1 HXY.out.2 (h5.fin HXY.out.1 h6)
  have HSP : Hid (∀ k b c i, StI n x y b c → n * (n * n) ≤ k + pw (pa c) n → lsM n b c = some i → ∃ k', k = k' + 1 ∧ n * (n * n) ≤ k' + pw (pa (psw n c i)) n ∧ StI n x y (psw n b i) (psw n c i)) := fun k b c i h5 h6 h7 => by
    obtain ⟨hi, l1, l2⟩ := lsM_some h7
    have l3 := pw_swp l1 (n - (i + 2))
    rw [show i + 2 + (n - (i + 2)) = n by omega] at l3
    have l4 := h5.step HXY.out.1 hi l1 l2
    obtain ⟨p, p1, p2, -⟩ := h5
    have l5 := pw_le (f := fun j => pa c (swp i j)) n (Nat.le_refl n) (fun j hj => p2.lt _ (swp_lt hi hj))
    refine ⟨k - 1, by omega, ?_, l4⟩
    rw [pw_congr (f := pa (psw n c i)) (g := fun j => pa c (swp i j)) n (fun j hj => psw_at hj)]
    omega
  clear HST hM
  go_wp2
  go_loopg [8] M (fun k v8 wr => ∃ (k0 : Nat) (b c : List Nat), k = k0 ∧ v8 = .int .i64 (lsV n b c : Nat) ∧ Hid (StI n x y b c ∧ n * (n * n) ≤ k0 + pw (pa c) n) ∧ Hid (StlAt w n w5.heap.size g5 c5 g6 c6 b c wr))
  case atStart => exact ⟨M, pv n x, y, rfl, rfl, ⟨HST2.out.1, HST2.out.2.2⟩, HA7.out⟩
  case round =>
    clear HA7 HST2
    rename World => W1
    obtain ⟨k0, b, c, hkk, rfl, hs, hA⟩ := hrel
    cases e : lsM n b c with
    | none =>
      rw [lsV_none e]
      have HF : Hid (settle n x y = (pv n b, c)) := HFN.out b c hs.out.1 e
      have HC3 : Hid (Calls Try.prog 27 #[.slice (some ⟨g5, 0, none⟩) n c5] W1 fun e w' => ∃ a c, e = .returned (.slice a n c) ∧ w'.ownsRow W1.heap.size 3 1 (.slice a n c) n (intsV (eI n (pv n b))) ∧ Below W1.heap.size W1 w') := (by
        have hbp : IsP n b := by
          obtain ⟨p, p1, p2, p3, -⟩ := hs.out.1
          rw [p3]
          exact (HXY.out.1.pm p1).pv
        rw [← eI_endT hbp]
        exact turnedRound_any _ n _ W1 hn (eI_ok hbp) (own_rd hA.out.one))
      clear e hs HLS HTR1 HTR2 HSP HFN
      go_wp2_with (first
        | (go_at_call 27; refine HC3.out.mono ?_; rintro e9 w8 ⟨a8, c8, rfl, hr8, hb8⟩; refine Hid.out ?_))
      refine Lib.hid ?_
      obtain ⟨g8, c8', e8, -⟩ := own_block hr8 (by omega)
      injection e8 with e81 e82 e83
      subst e81 e83
      have HO1 : Hid (w8.ownsRow w.heap.size 3 1 (.slice (some ⟨g8, 0, none⟩) n c8) n (intsV (eI n (settle n x y).1))) := (by rw [HF.out]; exact own_lowG hr8 hA.out.bel.size)
      have HO2 : Hid (w8.ownsRow w.heap.size 3 1 (.slice (some ⟨g6, 0, none⟩) n c6) n (intsV (eI n (settle n x y).2))) := (by rw [HF.out]; exact own_lowG (own_any hA.out.two (grown_below hb8 none)) hA.out.ge)
      have HB8 : Hid (Below w.heap.size w w8) := (hA.out.any (grown_below hb8 none)).bel
      clear hr8 hb8 HC3 hA
      go_wp2
      go_ret2
      exact ⟨g8, c8, g6, c6, rfl, HO1.out, HO2.out, HB8.out⟩
    | some i =>
      rw [lsV_some e]
      have hi : i + 1 < n := (lsM_some e).1
      have hd : decide ((0 : Int) < ((i + 1 : Nat) : Int)) = true := decide_eq_true (by omega)
      obtain ⟨k', hk', hle, hst⟩ := HSP.out k0 b c i hs.out.1 hs.out.2 e
      have HNX : Hid (StI n x y (psw n b i) (psw n c i) ∧ n * (n * n) ≤ k' + pw (pa (psw n c i)) n) := ⟨hst, hle⟩
      have HT1 := hid_g (HTR1.out W1 b c i hi hA.out)
      have HK : Hid (k' < k0) := (by omega : k' < k0)
      have HKK := hid_g hkk
      clear e hs hle hst hk' hkk
      have hcast : ((i + 1 : Nat) : Int) = (i : Int) + 1 := by omega
      rw [hcast] at hd ⊢
      clear hcast
      go_wp2_with (first
        | (go_at_call 25; refine HT1.out.mono ?_; rintro e9 w8 ⟨rfl, hA8⟩; refine Hid.out ?_))
      refine Lib.hid ?_
      have HT2 := hid_g (HTR2.out w8 _ c i hi hA8)
      clear HT1 hA hA8
      go_wp2_with (first
        | (go_at_call 25; refine HT2.out.mono ?_; rintro e9 w9 ⟨rfl, hA9⟩; refine Hid.out ?_))
      refine Lib.hid ?_
      have HL9 := hid_g (HLS.out w9 _ _ hA9)
      clear HT2 hA9
      go_wp2_with (first
        | (go_at_call 33; refine HL9.out.mono ?_; rintro e9 w10 ⟨rfl, hA10⟩; refine Hid.out ?_))
      refine Lib.hid ?_
      have HA10 := hid_g hA10
      clear HL9 hA10
      go_wp2
      go_roundg k'
      case rel => exact ⟨_, _, _, rfl, rfl, HNX.out, HA10.out⟩
      case measure => rw [HKK.out]; exact HK.out
end Go.Proofs.Ythlmkoiilgjflaa
/- The walks of braid.delta and passed, and of slices.Equal. -/
namespace Go.Proofs.Ythlmkoiilgjflaa
open Go.RowKit

set_option maxHeartbeats 4000000 in
set_option maxRecDepth 100000 in
theorem delta_any (n : Nat) (w : World) (h2 : 2 ≤ n) (hn : n ≤ 6) :
    Calls Try.prog 24 #[.int .i64 (n : Nat)] w fun e w' => ∃ g c, e = .returned (.slice (some ⟨g, 0, none⟩) n c) ∧ w'.ownsRow w.heap.size 3 1 (.slice (some ⟨g, 0, none⟩) n c) n (intsV (eI n (pdl n))) ∧ Below w.heap.size w w' := by
  have HC1 := hid_g (places_any n w hn)
  go_enter Try.func24, Try.ntmps24
  go_wp2_with (first
    | (go_at_call 22; refine HC1.out.mono ?_; rintro e9 w5 ⟨a5, c5, rfl, hr5, hg5⟩; refine Hid.out ?_))
  refine Lib.hid ?_
  obtain ⟨g5, c5', e5, -⟩ := own_block hr5 (by omega)
  injection e5 with e51 e52 e53
  subst e51 e53
  rw [eI_pid] at hr5
  have HB5 : Hid (Below w.heap.size w w5) := (Below.refl _ _).grown hg5 (Nat.le_refl _) (fun q hq => by cases hq)
  have HLT := hid_g (hr5.lt g5 rfl)
  have HRV : Hid (Calls Try.prog 31 #[.slice (some ⟨g5, 0, none⟩) n c5] w5 fun e w' => e = .returned (.tuple #[]) ∧ w'.ownsRow w.heap.size 3 1 (.slice (some ⟨g5, 0, none⟩) n c5) n (intsV (eI n (pdl n))) ∧ w5.grownBy w' (some g5)) := (by
    have h := reverse_any w.heap.size g5 c5 (eI n (pid n)) w5 (by rw [eI_len]; omega) (by rw [eI_len]; omega) (by rw [eI_len]; exact hr5)
    rw [eI_pdl, eI_len] at h
    exact h)
  clear hr5 hg5 HC1
  go_wp2_with (first
    | (go_at_call 31; refine HRV.out.mono ?_; rintro e9 w6 ⟨rfl, hr6, hg6⟩; refine Hid.out ?_))
  refine Lib.hid ?_
  have HFN : Hid (w6.ownsRow w.heap.size 3 1 (.slice (some ⟨g5, 0, none⟩) n c5) n (intsV (eI n (pdl n))) ∧ Below w.heap.size w w6) := ⟨hr6, HB5.out.grown hg6 HB5.out.size (fun q hq => by have h1 : g5 = q := Option.some.inj hq; have := HLT.out.1; omega)⟩
  clear hr6 hg6 HRV
  go_wp2
  go_ret
  exact ⟨g5, c5, rfl, HFN.out⟩

/-- The first k laid. -/
def psT (n : Nat) (p : List Nat) (k : Nat) : List Int := mapI n fun j => if n ≤ j + k then (pa (pta n p) j : Int) + 1 else 0
theorem psT_zero (n : Nat) (p : List Nat) : List.replicate n 0 = psT n p 0 := (mapI_zero _ _ (fun j hj => by rw [if_neg (by omega)])).symm
theorem psT_all (n : Nat) (p : List Nat) : psT n p n = eI n (pta n p) := mapI_congr _ _ _ fun j hj => by rw [if_pos (by omega)]
theorem psT_next {n k : Nat} {p : List Nat} (hp : IsP n p) (hk : k < n) : (psT n p k).set (n - 1 - k) ((n : Int) + 1 - ((pa p k : Int) + 1)) = psT n p (k + 1) := by
  refine mapI_set _ _ _ _ _ fun j hj => ?_
  have hl := hp.lt k hk
  by_cases e : j = n - 1 - k
  · rw [if_pos e, if_pos (by omega), e, pta_at (by omega), show n - 1 - (n - 1 - k) = k by omega]
    omega
  · rw [if_neg e]
    by_cases e2 : n ≤ j + k
    · rw [if_pos e2, if_pos (by omega)]
    · rw [if_neg e2, if_neg (by omega)]
theorem psT_len (n : Nat) (p : List Nat) (k : Nat) : (psT n p k).length = n := mapI_len _ _

set_option maxHeartbeats 8000000 in
set_option maxRecDepth 100000 in
theorem passed_any (n c : Nat) (a : Option Addr) (p : List Nat) (w : World) (h1 : 1 ≤ n) (hn : n ≤ 1000) (hp : IsP n p) (h : RdAt w w.heap.size 1 (.slice a n c) n (intsV (eI n p))) :
    Calls Try.prog 23 #[.slice a n c] w fun e w' => ∃ g c2, e = .returned (.slice (some ⟨g, 0, none⟩) n c2) ∧ w'.ownsRow w.heap.size 3 1 (.slice (some ⟨g, 0, none⟩) n c2) n (intsV (eI n (pta n p))) ∧ Below w.heap.size w w' := by
  obtain ⟨i0, hi, hz0, hz1, hz2⟩ := info_parts infoInt
  have HRD : Hid (RdAt w w.heap.size 1 (.slice a (eI n p).length c) (eI n p).length (intsV (eI n p))) := (by rw [eI_len]; exact h : RdAt w w.heap.size 1 (.slice a (eI n p).length c) (eI n p).length (intsV (eI n p)))
  have HP := hid_g hp
  have ew0 : IntKind.i64.wrap ((n : Int) - 1) = (n : Int) - 1 := IntWalk.i64_in _ (by omega)
  have ew1 : IntKind.i64.wrap ((n : Int) + 1) = (n : Int) + 1 := IntWalk.i64_in _ (by omega)
  clear h hp
  go_enter Try.func23, Try.ntmps23
  go_wp2_with (first | (at_make; refine wpList_make_full _ rfl _ _ 22 rfl w.heap.size 3 i0 (.int .i64 0) 1 Try.underlying22 hi hz0 hz1 .i64 .i64 _ _ n rfl rfl rfl rfl (by rw [hz2]; omega) (by unfold maxLen; omega) (by simp) ?_; intro w1 hrow1 hg1; refine Hid.out ?_))
  refine Lib.hid ?_
  rw [made_zero, psT_zero n p] at hrow1
  obtain ⟨g, hg⟩ : ∃ g, w.heap.size = g := ⟨_, rfl⟩
  have HG : Hid (w.heap.size = g) := hg
  have HB1 : Hid (Below w.heap.size w w1) := (Below.refl _ _).grown hg1 (Nat.le_refl _) (fun k hk => by cases hk)
  rw [hg] at hrow1
  rw [hg]
  have HR1 := hid_g hrow1
  clear hrow1 hg1 hg
  go_wp2
  go_loopw [5, 6, 13] (fun v5 v6 v13 wr => ∃ k : Nat, k ≤ n ∧ v13 = .int .i64 (k : Nat) ∧ Hid (wr.ownsRow g 3 1 (.slice (some ⟨g, 0, none⟩) n n) n (intsV (psT n p k))) ∧ Hid (Below w.heap.size w wr)) (fun _ _ v13 _ => n - (intOf v13).toNat)
  case atStart => exact ⟨0, Nat.zero_le _, rfl, HR1.out, HB1.out⟩
  case round =>
    clear HR1 HB1
    rename World => W1
    obtain ⟨k, hkn, rfl, hq, hb⟩ := hrel
    by_cases hk : k < n
    · have hkI : (k : Int) < (n : Int) := by omega
      obtain ⟨b, off, ea, hlt, hc⟩ := (HRD.out.on hb.out).intAt k (by rw [eI_len]; exact hk)
      rw [eI_at hk] at hc
      have hl := HP.out.lt k hk
      obtain ⟨j, hj⟩ : ∃ j : Nat, n - 1 - k = j := ⟨_, rfl⟩
      have hjI : IntKind.i64.wrap ((n : Int) - 1 - (k : Int)) = (j : Int) := by rw [IntWalk.i64_in _ (by omega)]; omega
      have hjn : j < n := by omega
      have hjI2 : (j : Int) < (n : Int) := by omega
      have e0 := hq.out.cellAt j (by omega)
      rw [intsV_get _ j (by rw [psT_len]; exact hjn)] at e0
      generalize (psT n p k).getD j 0 = z at e0
      have f0 := hq.out.frozenAt j
      have lg := (hq.out.lt g rfl).2
      have lb : b < W1.heap.size := Nat.lt_of_lt_of_le hlt hb.out.size
      have hst := hq.out.stored j (.int .i64 ((n : Int) + 1 - ((pa p k : Int) + 1)))
      have hnx := psT_next HP.out hk
      rw [hj] at hnx
      rw [intsV_set, hnx] at hst
      generalize pa p k = x at hc hl hst
      have ew2 : IntKind.i64.wrap ((n : Int) + 1 - ((x : Int) + 1)) = (n : Int) + 1 - ((x : Int) + 1) := IntWalk.i64_in _ (by omega)
      have HST : Hid ((W1.setCell ⟨g, j, none⟩ (.int .i64 ((n : Int) + 1 - ((x : Int) + 1)))).ownsRow g 3 1 (.slice (some ⟨g, 0, none⟩) n n) n (intsV (psT n p (k + 1)))) := hst.1
      have HBS : Hid (Below w.heap.size w (W1.setCell ⟨g, j, none⟩ (.int .i64 ((n : Int) + 1 - ((x : Int) + 1))))) := hb.out.grown hst.2 hb.out.size (fun x hx => by have h1 : g = x := Option.some.inj hx; have := HG.out; omega)
      clear hst hnx hj
      subst ea
      go_wp2
      go_roundw
      case rel => exact ⟨k + 1, by omega, by go_num, HST.out, HBS.out⟩
      case measure => simp only [intOf]; omega
    · obtain rfl : k = n := by omega
      rw [psT_all] at hq
      go_wp2
      go_ret
      exact ⟨g, k, rfl, by rw [HG.out]; exact hq.out, hb.out⟩

theorem list_eqI {l1 l2 : List Int} {n : Nat} (h1 : l1.length = n) (h2 : l2.length = n) (h : ∀ i, i < n → l1.getD i 0 = l2.getD i 0) : l1 = l2 := by
  apply List.ext_getElem (by omega)
  intro i g1 g2
  have := h i (by omega)
  rw [List.getD_eq_getElem?_getD, List.getD_eq_getElem?_getD, List.getElem?_eq_getElem g1, List.getElem?_eq_getElem g2] at this
  exact this
set_option maxHeartbeats 4000000 in
set_option maxRecDepth 100000 in
theorem equalI_any (n c1 c2 : Nat) (a1 a2 : Option Addr) (l1 l2 : List Int) (w : World) (hl1 : l1.length = n) (hl2 : l2.length = n) (hn : n ≤ 100000) (h1 : RdAt w w.heap.size 1 (.slice a1 n c1) n (intsV l1)) (h2 : RdAt w w.heap.size 1 (.slice a2 n c2) n (intsV l2)) :
    Calls Try.prog 29 #[.slice a1 n c1, .slice a2 n c2] w fun e w' => e = .returned (.bool (decide (l1 = l2))) ∧ Below w.heap.size w w' := by
  have H1 : Hid (RdAt w w.heap.size 1 (.slice a1 l1.length c1) l1.length (intsV l1)) := (by rw [hl1]; exact h1 : RdAt w w.heap.size 1 (.slice a1 l1.length c1) l1.length (intsV l1))
  have H2 : Hid (RdAt w w.heap.size 1 (.slice a2 l2.length c2) l2.length (intsV l2)) := (by rw [hl2]; exact h2 : RdAt w w.heap.size 1 (.slice a2 l2.length c2) l2.length (intsV l2))
  have HL : Hid (l1.length = n ∧ l2.length = n) := ⟨hl1, hl2⟩
  have hne : ((n : Int) != (n : Int)) = false := by simp
  clear h1 h2 hl1 hl2
  go_enter Try.func29, Try.ntmps29
  go_wp2
  go_loopw [5, 13] (fun v5 v13 wr => ∃ k : Nat, k ≤ n ∧ v13 = .int .i64 (k : Nat) ∧ Hid (∀ i, i < k → l1.getD i 0 = l2.getD i 0) ∧ Hid (Below w.heap.size w wr)) (fun _ v13 _ => n - (intOf v13).toNat)
  case atStart => exact ⟨0, Nat.zero_le _, rfl, fun i hi => by omega, Below.refl _ _⟩
  case round =>
    rename World => W1
    obtain ⟨k, hkn, rfl, hq, hb⟩ := hrel
    by_cases hk : k < n
    · have hkI : (k : Int) < (n : Int) := by omega
      obtain ⟨b1, o1, ea1, hlt1, hc1⟩ := (H1.out.on hb.out).intAt k (by rw [HL.out.1]; exact hk)
      obtain ⟨b2, o2, ea2, hlt2, hc2⟩ := (H2.out.on hb.out).intAt k (by rw [HL.out.2]; exact hk)
      obtain ⟨x, hx⟩ : ∃ x, l1.getD k 0 = x := ⟨_, rfl⟩
      obtain ⟨y, hy⟩ : ∃ y, l2.getD k 0 = y := ⟨_, rfl⟩
      rw [hx] at hc1
      rw [hy] at hc2
      have HXY : Hid (l1.getD k 0 = x ∧ l2.getD k 0 = y) := ⟨hx, hy⟩
      have lb1 : b1 < W1.heap.size := Nat.lt_of_lt_of_le hlt1 hb.out.size
      have lb2 : b2 < W1.heap.size := Nat.lt_of_lt_of_le hlt2 hb.out.size
      clear hx hy
      subst ea1 ea2
      by_cases e : x = y
      · subst e
        have hd : (x != x) = false := by simp
        have HNX : Hid (∀ i, i < k + 1 → l1.getD i 0 = l2.getD i 0) := fun i hi => by
          by_cases e : i = k
          · rw [e, HXY.out.1, HXY.out.2]
          · exact hq.out i (by omega)
        go_wp2
        go_quiet (fail)
        have HBD : Hid (Below w.heap.size w (W1.drewN nq)) := below_drewN hb.out nq
        generalize W1.drewN nq = W2 at HBD ⊢
        go_wp2
        go_roundw
        case rel => exact ⟨k + 1, by omega, by go_num, HNX.out, HBD.out⟩
        case measure => simp only [intOf]; omega
      · have hd : (x != y) = true := by simp [e]
        have HF : Hid (decide (l1 = l2) = false) := (decide_eq_false (fun q => e (by rw [← HXY.out.1, ← HXY.out.2, q])) : decide (l1 = l2) = false)
        go_wp2
        go_quiet (fail)
        have HBD : Hid (Below w.heap.size w (W1.drewN nq)) := below_drewN hb.out nq
        generalize W1.drewN nq = W2 at HBD ⊢
        go_wp2
        go_ret
        exact ⟨ret_bool HF.out, HBD.out⟩
    · obtain rfl : k = n := by omega
      have HF : Hid (decide (l1 = l2) = true) := (decide_eq_true (list_eqI HL.out.1 HL.out.2 hq.out) : decide (l1 = l2) = true)
      go_wp2
      go_ret
      exact ⟨ret_bool HF.out, hb.out⟩

/-- Rows of permutations to be read. -/
def FacRd (W : World) (n : Nat) (v : Value) (T : List (List Int)) : Prop := IntsRd W W.heap.size v T ∧ ∀ x ∈ T, x.length = n
theorem list_eqL {l1 l2 : List (List Int)} {n : Nat} (h1 : l1.length = n) (h2 : l2.length = n) (h : ∀ i, i < n → l1.getD i [] = l2.getD i []) : l1 = l2 := by
  apply List.ext_getElem (by omega)
  intro i g1 g2
  have := h i (by omega)
  rw [List.getD_eq_getElem?_getD, List.getD_eq_getElem?_getD, List.getElem?_eq_getElem g1, List.getElem?_eq_getElem g2] at this
  exact this
theorem IntsRd.rowG {W w : World} {B : Nat} {a : Option Addr} {c : Nat} {L : List (List Int)} (h : IntsRd w B (.slice a L.length c) L) (hW : Below B w W) (k : Nat) (hk : k < L.length) :
    ∃ b off a2 c2, a = some ⟨b, off, none⟩ ∧ b < B ∧ W.cell? ⟨b, off + k, none⟩ = some (.slice a2 (L.getD k []).length c2) ∧ RdAt W B 1 (.slice a2 (L.getD k []).length c2) (L.getD k []).length (intsV (L.getD k [])) := by
  obtain ⟨ys, hy, h1, h2⟩ := h
  obtain ⟨a', cap', e, f⟩ := h1
  injection e with e1 e2 e3
  subst e1
  obtain ⟨b, off, rfl, hlt, hc⟩ := f (by omega)
  have h3 := h2 k hk
  obtain ⟨a2, c2, e2, -⟩ := h3
  have h3 := h2 k hk
  rw [e2] at h3
  refine ⟨b, off, a2, c2, rfl, hlt, ?_, h3.on hW⟩
  have h4 := hc k (by omega)
  have h5 : ys[k]? = some (ys.getD k (.bool false)) := by rw [List.getD_eq_getElem?_getD, List.getElem?_eq_getElem (by omega)]; rfl
  rw [h5, e2] at h4
  exact bcell hW hlt h4
end Go.Proofs.Ythlmkoiilgjflaa

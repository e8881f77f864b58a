/- The walk of ref.counted. -/
import Derived.Test.YtnhllpaoplfgpaaN6P
namespace Go.Proofs.Ytnhllpaoplfgpaa
open Go.RowKit

/-- The search hangs on the colours of the arcs ahead alone. -/
theorem chkA_congr {q : Nat → Nat → Nat} {C : List Cr} {a : Nat} {f g : Nat → Nat} (h : ∀ x, x ≤ a → f x = g x) : chkA q C a f = chkA q C a g := all_congr fun c _ => by
  unfold oneA
  by_cases ha : c.a.toNat ≤ a <;> by_cases hb : c.b.toNat ≤ a <;> by_cases hc : c.c.toNat ≤ a <;> by_cases hd : c.d.toNat ≤ a <;> simp only [ha, hb, hc, hd, decide_true, decide_false, Bool.and_true, Bool.and_false, Bool.not_true, Bool.not_false, Bool.true_or, Bool.false_or, Bool.true_and] <;> first | rfl | (simp only [h _ ha, h _ hb, h _ hc, h _ hd]) | (simp only [h _ ha, h _ hb, h _ hc]) | (simp only [h _ hb, h _ hd])
theorem search_congr {n : Nat} {q : Nat → Nat → Nat} {C : List Cr} : ∀ (k a : Nat) (f g : Nat → Nat), (∀ x, x < a → f x = g x) → searchN n (chkA q C) (fromA a k) f = searchN n (chkA q C) (fromA a k) g
  | 0, _, _, _, _ => rfl
  | k + 1, a, f, g, h => by
    rw [fromA_succ]
    refine sumN_congr fun c _ => ?_
    have h2 : ∀ x, x < a + 1 → upd f a c x = upd g a c x := fun x hx => by
      unfold upd
      by_cases e : x = a
      · rw [if_pos e, if_pos e]
      · rw [if_neg e, if_neg e]; exact h x (by omega)
    rw [chkA_congr (fun x hx => h2 x (by omega)), search_congr k (a + 1) _ _ h2]
theorem search_le {n : Nat} {chk : Nat → (Nat → Nat) → Bool} : ∀ (vs : List Nat) (f : Nat → Nat), searchN n chk vs f ≤ n ^ vs.length
  | [], _ => by simp [searchN]
  | v :: vs, f => by
    rw [List.length_cons, Nat.pow_succ, Nat.mul_comm]
    refine sumN_le fun c _ => ?_
    split
    · exact search_le vs _
    · exact Nat.zero_le _

theorem crs_grown {W W' : World} {B : Nat} {ad : Option Addr} {cap : Nat} {C : List Cr} {gl : Nat} (h : Crs W B (.slice ad C.length cap) C) (hg : W.grownBy W' (some gl)) (hne : 0 < C.length → ∀ b' off', ad = some ⟨b', off', none⟩ → b' ≠ gl) (hB : B ≤ W.heap.size) : Crs W' B (.slice ad C.length cap) C := by
  obtain ⟨a', c', e, h1, h2⟩ := h
  refine ⟨a', c', e, h1, fun h0 => ?_⟩
  obtain ⟨b', off', ea, hlt, hc⟩ := h2 h0
  injection e with e1 e2 e3
  have hk : b' ≠ gl := hne h0 b' off' (e1.trans ea)
  have hl : b' < W.heap.size := Nat.lt_of_lt_of_le hlt hB
  exact ⟨b', off', ea, hlt, fun i hi => ⟨grown_cell hg hk hl (hc i hi).1, grown_cell hg hk hl (hc i hi).2.1, grown_cell hg hk hl (hc i hi).2.2.1, grown_cell hg hk hl (hc i hi).2.2.2.1, grown_cell hg hk hl (hc i hi).2.2.2.2⟩⟩
theorem all_stop {q : Nat → Nat → Nat} {C : List Cr} {a i : Nat} {F : Nat → Nat} (h : (C.take i).all (oneA q a F) = false) : chkA q C a F = false := by
  unfold chkA
  rw [← List.take_append_drop i C, List.all_append, h, Bool.false_and]
/-- What counted answers. -/
def CntOut (N gl a : Nat) (f : Nat → Nat) (n r : Nat) (W : World) (e : Ending) (w' : World) : Prop := ∃ f', e = .returned (.int .i64 (r : Nat)) ∧ ColAt N gl f' w' ∧ (∀ x, x < a → f' x = f x) ∧ (∀ i, i < N → f' i < n) ∧ W.grownBy w' (some gl)

set_option maxHeartbeats 8000000 in
set_option maxRecDepth 100000 in
theorem counted_any (B n : Nat) (q : Nat → Nat → Nat) (C : List Cr) (loops : Int) (ad : Option Addr) (cap b off cq : Nat) (rb ro rc : Nat → Nat) (gl : Nat) (hm : mayD C loops = true) (hn : n ≤ 4) (hq : ∀ i j, i < n → j < n → q i j < n) (h10 : C.length ≤ 10) (hgl : gl < B) (hgb : b ≠ gl) (hgr : ∀ i, i < n → rb i ≠ gl) :
    ∀ (k a : Nat) (f : Nat → Nat) (W : World), 1 ≤ a → a + k = 2 * C.length + 1 → (∀ i, i < 2 * C.length + 1 → f i < n) → B ≤ W.heap.size → QT W B b off n rb ro rc q → Crs W B (.slice ad C.length cap) C → (0 < C.length → ∀ b' off', ad = some ⟨b', off', none⟩ → b' ≠ gl) → ColAt (2 * C.length + 1) gl f W →
    Calls Try.prog 132 #[.agg #[.slice ad C.length cap, .int .i64 loops], .slice (some ⟨b, off, none⟩) n cq, .slice (some ⟨gl, 0, none⟩) (2 * C.length + 1) (2 * C.length + 1), .int .i64 (a : Nat)] W (CntOut (2 * C.length + 1) gl a f n (searchN n (chkA q C) (fromA a k) f) W) := by
  obtain ⟨s1, -, -, -⟩ := sizeB_iff (may_size hm)
  have HM : Hid (mayD C loops = true) := hm
  have HQ : Hid (∀ i j, i < n → j < n → q i j < n) := hq
  have HGR : Hid (∀ i, i < n → rb i ≠ gl) := hgr
  obtain ⟨N, hN⟩ : ∃ N, 2 * C.length + 1 = N := ⟨_, rfl⟩
  have HN : Hid (2 * C.length + 1 = N) := hN
  have hN1 : 1 ≤ N := by omega
  have hN2 : N ≤ 21 := by omega
  rw [hN]
  clear hm hq hgr hN
  intro k
  induction k with
  | zero =>
    intro a f W ha1 ha hf hBW hT hC hne hl
    obtain rfl : a = N := by omega
    have HC : Hid (ColAt a gl f W) := hl
    have HF : Hid (∀ i, i < a → f i < n) := hf
    have HG : Hid (W.grownBy (W.alloc (.cells #[.slice ad C.length cap, .int .i64 loops] 44)) (some gl)) := World.grownBy_alloc _ _ _
    clear hf hT hC hl hne ha
    go_enter Try.func132, Try.ntmps132
    go_wp2
    go_ret
    exact ⟨f, rfl, own_any HC.out (World.grownBy_alloc _ _ none), fun _ _ => rfl, HF.out, HG.out⟩
  | succ k ih =>
    intro a f W ha1 ha hf hBW hT hC hne hl
    have hal : a < N := by omega
    have HIH : Hid (∀ (f : Nat → Nat) (W : World), (∀ i, i < N → f i < n) → B ≤ W.heap.size → QT W B b off n rb ro rc q → Crs W B (.slice ad C.length cap) C → ColAt N gl f W → Calls Try.prog 132 #[.agg #[.slice ad C.length cap, .int .i64 loops], .slice (some ⟨b, off, none⟩) n cq, .slice (some ⟨gl, 0, none⟩) N N, .int .i64 ((a : Int) + 1)] W (CntOut N gl (a + 1) f n (searchN n (chkA q C) (fromA (a + 1) k) f) W)) := fun f W h1 h2 h3 h4 h5 => ih (a + 1) f W (by omega) (by omega) h1 h2 h3 h4 hne h5
    have HF : Hid (∀ i, i < N → f i < n) := hf
    have HNE : Hid (0 < C.length → ∀ b' off', ad = some ⟨b', off', none⟩ → b' ≠ gl) := hne
    obtain ⟨X0, hX0⟩ : ∃ X, X = W.alloc (.cells #[.slice ad C.length cap, .int .i64 loops] 44) := ⟨_, rfl⟩
    have HX0 : Hid (X0 = W.alloc (.cells #[.slice ad C.length cap, .int .i64 loops] 44)) := hX0
    have hg0 : W.grownBy X0 none := by rw [hX0]; exact World.grownBy_alloc _ _ none
    have HG0 : Hid (W.grownBy X0 (some gl)) := (by rw [hX0]; exact World.grownBy_alloc _ _ _ : W.grownBy X0 (some gl))
    have HBX : Hid (X0.heap[W.heap.size]? = some (.cells #[.slice ad C.length cap, .int .i64 loops] 44 (0, 0))) := (by rw [hX0]; exact alloc_at rfl : X0.heap[W.heap.size]? = some (.cells #[.slice ad C.length cap, .int .i64 loops] 44 (0, 0)))
    have HTW : Hid (QT W B b off n rb ro rc q) := hT
    have HCW : Hid (Crs W B (.slice ad C.length cap) C) := hC
    have HCX : Hid (ColAt N gl f X0) := own_any hl hg0
    have hglW : gl < W.heap.size := by omega
    have hzz : ((a : Int) == (N : Int)) = false := by simp; omega
    have hpz : (a == N) = false := by simp; omega
    -- what holds in every world in which but gl has changed
    have HTK : Hid (∀ W', W.grownBy W' (some gl) → QT W' B b off n rb ro rc q ∧ Crs W' B (.slice ad C.length cap) C ∧ B ≤ W'.heap.size) := fun W' hg => by
      have hlB : ∀ x, x < B → x < W.heap.size := fun x hx => Nat.lt_of_lt_of_le hx hBW
      refine ⟨⟨HTW.out.lt, HTW.out.rlt, fun i hi => grown_cell hg hgb (hlB _ HTW.out.lt) (HTW.out.row i hi), fun i j hi hj => grown_cell hg (HGR.out i hi) (hlB _ (HTW.out.rlt i hi)) (HTW.out.cell i j hi hj)⟩, crs_grown HCW.out hg HNE.out hBW, Nat.le_trans hBW hg.size⟩
    obtain ⟨G, hG⟩ : ∃ G : Nat → Nat, G = fun c => if chkA q C a (upd f a c) = true then searchN n (chkA q C) (fromA (a + 1) k) (upd f a c) else 0 := ⟨_, rfl⟩
    have HG : Hid (G = fun c => if chkA q C a (upd f a c) = true then searchN n (chkA q C) (fromA (a + 1) k) (upd f a c) else 0) := hG
    have HGB : Hid (∀ c, G c ≤ 1099511627776) := fun c => by
      rw [hG]
      show (if _ then _ else 0) ≤ _
      split
      · have h1 := search_le (n := n) (chk := chkA q C) (fromA (a + 1) k) (upd f a c)
        exact Nat.le_trans h1 (pow_bound hn (by simp [fromA]; omega))
      · omega
    have HPN : Hid (searchN n (chkA q C) (fromA a (k + 1)) f = sumN n G) := (by rw [hG, fromA_succ]; rfl : searchN n (chkA q C) (fromA a (k + 1)) f = sumN n G)
    rw [HPN.out]
    clear hf hT hC hl hX0 hg0 hG ih hne
    go_enter Try.func132, Try.ntmps132
    go_wp2
    rw [← HX0.out]
    clear HX0
    go_loopw [9, 10] (fun v9 v10 wr => ∃ (c s : Nat) (f' : Nat → Nat), c ≤ n ∧ v10 = .int .i64 (c : Nat) ∧ v9 = .int .i64 (s : Nat) ∧ Hid (s = sumN c G ∧ ColAt N gl f' wr ∧ (∀ x, x < a → f' x = f x) ∧ (∀ i, i < N → f' i < n) ∧ X0.grownBy wr (some gl))) (fun _ v10 _ => n - (intOf v10).toNat)
    case atStart => exact ⟨0, 0, f, Nat.zero_le _, rfl, rfl, rfl, HCX.out, fun _ _ => rfl, HF.out, World.grownBy.refl _ _⟩
    case round =>
      clear HCX
      rename World => W1
      obtain ⟨c, s, f', hcn, rfl, rfl, hp⟩ := hrel
      by_cases hcl : c < n
      · have hg1 := hp.out.2.2.2.2
        have hgl1 : gl < W1.heap.size := by have := hg1.size; have := HG0.out.size; omega
        have x0 := hp.out.2.1.cell a hal
        have z0 : W1.frozen? ⟨gl, a, none⟩ = false := World.ownsRow.frozenAt hp.out.2.1 a
        have HSE := hp.out.2.1.set a c
        obtain ⟨X2, hX2⟩ : ∃ X, X = W1.setCell ⟨gl, a, none⟩ (.int .i64 (c : Nat)) := ⟨_, rfl⟩
        have HX2 : Hid (X2 = W1.setCell ⟨gl, a, none⟩ (.int .i64 (c : Nat))) := hX2
        rw [← hX2] at HSE
        have HC2 : Hid (ColAt N gl (upd f' a c) X2) := HSE.1
        have HG2 : Hid (X0.grownBy X2 (some gl)) := grown_trans hg1 HSE.2
        have HGW : Hid (W.grownBy X2 (some gl)) := grown_trans HG0.out HG2.out
        have HU : Hid ((∀ x, x < a → upd f' a c x = f x) ∧ (∀ x, x < a + 1 → upd f' a c x = upd f a c x) ∧ ∀ i, i < N → upd f' a c i < n) := (by
          have h1 : ∀ x, x < a → upd f' a c x = f x := fun x hx => by rw [upd_ne _ _ _ _ (by omega)]; exact hp.out.2.2.1 x hx
          refine ⟨h1, fun x hx => ?_, fun i hi => ?_⟩
          · by_cases e : x = a
            · rw [e, upd_same, upd_same]
            · rw [upd_ne _ _ _ _ e, upd_ne _ _ _ _ e]
              exact hp.out.2.2.1 x (by omega)
          · by_cases e : i = a
            · rw [e, upd_same]; exact hcl
            · rw [upd_ne _ _ _ _ e]; exact hp.out.2.2.2.1 i hi : (∀ x, x < a → upd f' a c x = f x) ∧ (∀ x, x < a + 1 → upd f' a c x = upd f a c x) ∧ ∀ i, i < N → upd f' a c i < n)
        have HSM : Hid (s = sumN c G) := hp.out.1
        have HBD : Hid (X2.heap[W.heap.size]? = some (.cells #[.slice ad C.length cap, .int .i64 loops] 44 (0, 0))) := (HG2.out.block _ (blk_lt HBX.out) (fun e => by have := Option.some.inj e; omega)).trans HBX.out
        have HGC : Hid (G c = if chkA q C a (upd f' a c) = true then searchN n (chkA q C) (fromA (a + 1) k) (upd f' a c) else 0) := (by
          rw [HG.out]
          show (if _ then _ else 0) = _
          rw [chkA_congr (fun x hx => HU.out.2.1 x (by omega)), search_congr k (a + 1) _ _ HU.out.2.1] : G c = if chkA q C a (upd f' a c) = true then searchN n (chkA q C) (fromA (a + 1) k) (upd f' a c) else 0)
        obtain ⟨F, hFe⟩ : ∃ F, upd f' a c = F := ⟨_, rfl⟩
        rw [hFe] at HC2 HU HGC
        clear HSE hX2 hFe
        go_upto_region 8 with (fail)
        rw [← HX2.out]
        clear HX2 x0 z0 hp hg1 hgl1
        have HRR : Hid (Below X2.heap.size X2 X2) := Below.refl _ _
        go_wp2
        go_loopw [11, 12] (fun v11 v12 wr => ∃ (i : Nat) (ok : Bool), i ≤ C.length ∧ v12 = .int .i64 (i : Nat) ∧ v11 = .bool ok ∧ Hid ((C.take i).all (oneA q a F) = ok ∧ Below X2.heap.size X2 wr)) (fun _ v12 _ => C.length - (intOf v12).toNat)
        case atStart => exact ⟨0, true, Nat.zero_le _, rfl, rfl, rfl, HRR.out⟩
        case round =>
          clear HRR
          rename World => W3
          obtain ⟨i, ok, hic, rfl, rfl, hp3⟩ := hrel
          have hWX : W.heap.size < X2.heap.size := blk_lt HBD.out
          have j0 : W3.cell? ⟨W.heap.size, 0, none⟩ = some (.slice ad C.length cap) := bcell hp3.out.2 hWX (block_cell HBD.out rfl)
          have j1 : W3.cell? ⟨W.heap.size, 1, none⟩ = some (.int .i64 loops) := bcell hp3.out.2 hWX (block_cell HBD.out rfl)
          have hsX := hp3.out.2.size
          by_cases hil : i < C.length
          · have hid : decide ((i : Int) < (C.length : Int)) = true := by simp; omega
            have hid2 : decide (i < C.length) = true := by simp; omega
            cases ok with
            | false =>
              have HCH : Hid (chkA q C a F = false) := all_stop hp3.out.1
              have HN2 : Hid (sumN (c + 1) G = s) := (by
                have e : sumN (c + 1) G = sumN c G + G c := by simp [sumN]
                rw [e, HGC.out, HCH.out, ← HSM.out]
                rfl : sumN (c + 1) G = s)
              have HFN : Hid (ColAt N gl F W3 ∧ X0.grownBy W3 (some gl)) := ⟨own_any HC2.out (grown_below hp3.out.2 none), grown_trans HG2.out (grown_below hp3.out.2 _)⟩
              go_wp2
              go_roundw
              case rel => exact ⟨c + 1, s, F, by omega, by go_num, rfl, HN2.out.symm, HFN.out.1, HU.out.1, HU.out.2.2, HFN.out.2⟩
              case measure => simp only [intOf]; omega
            | true =>
              obtain ⟨bd, od, ea, hbd, hCr⟩ : ∃ bd od, ad = some ⟨bd, od, none⟩ ∧ bd < B ∧ CrossAt X2 bd od C := by
                obtain ⟨a', c', e, _, h2⟩ := (HTK.out X2 HGW.out).2.1
                obtain ⟨b', off', ea, hlt, hc⟩ := h2 (by omega)
                injection e with e1 e2 e3
                exact ⟨b', off', e1.trans ea, hlt, hc⟩
              have hBX2 := (HTK.out X2 HGW.out).2.2
              obtain ⟨e0, e1, e2, e3, e4⟩ := (hCr.on hp3.out.2 (by omega)) i hil
              have fa := may_fit HM.out i 0 hil (by omega)
              have fb := may_fit HM.out i 1 hil (by omega)
              have fc := may_fit HM.out i 2 hil (by omega)
              have fd := may_fit HM.out i 3 hil (by omega)
              have HX : Hid ((C.getD i Cr.none).arc 0 = (C.getD i Cr.none).a ∧ (C.getD i Cr.none).arc 1 = (C.getD i Cr.none).b ∧ (C.getD i Cr.none).arc 2 = (C.getD i Cr.none).c ∧ (C.getD i Cr.none).arc 3 = (C.getD i Cr.none).d) := ⟨rfl, rfl, rfl, rfl⟩
              have fa1 := fa.1
              have fa2 := fa.2.1
              have fb1 := fb.1
              have fb2 := fb.2.1
              have fc1 := fc.1
              have fc2 := fc.2.1
              have fd1 := fd.1
              have fd2 := fd.2.1
              rw [HX.out.1] at fa1 fa2
              rw [HX.out.2.1] at fb1 fb2
              rw [HX.out.2.2.1] at fc1 fc2
              rw [HX.out.2.2.2] at fd1 fd2
              have HTA : Hid (C.take (i + 1) = C.take i ++ [C.getD i Cr.none]) := (by
                rw [List.take_succ_eq_append_getElem hil, List.getD_eq_getElem?_getD, List.getElem?_eq_getElem hil]; rfl : C.take (i + 1) = C.take i ++ [C.getD i Cr.none])
              generalize hcr : C.getD i Cr.none = cr at *
              clear hcr HX fa fb fc fd
              obtain ⟨za, zb, zc, zd, P⟩ := cr
              simp only at e0 e1 e2 e3 e4 fa1 fa2 fb1 fb2 fc1 fc2 fd1 fd2
              obtain ⟨xa, rfl⟩ : ∃ x : Nat, za = (x : Int) := ⟨za.toNat, by omega⟩
              obtain ⟨xb, rfl⟩ : ∃ x : Nat, zb = (x : Int) := ⟨zb.toNat, by omega⟩
              obtain ⟨xc, rfl⟩ : ∃ x : Nat, zc = (x : Int) := ⟨zc.toNat, by omega⟩
              obtain ⟨xd, rfl⟩ : ∃ x : Nat, zd = (x : Int) := ⟨zd.toNat, by omega⟩
              have la : 1 ≤ xa ∧ xa < N := by have := HN.out; omega
              have lb : 1 ≤ xb ∧ xb < N := by have := HN.out; omega
              have lc : 1 ≤ xc ∧ xc < N := by have := HN.out; omega
              have ld : 1 ≤ xd ∧ xd < N := by have := HN.out; omega
              obtain ⟨X3, hX3⟩ : ∃ X, X = W3.alloc (.cells #[.int .i64 (xa : Nat), .int .i64 (xb : Nat), .int .i64 (xc : Nat), .int .i64 (xd : Nat), .bool P] 70) := ⟨_, rfl⟩
              have HX3 : Hid (X3 = W3.alloc (.cells #[.int .i64 (xa : Nat), .int .i64 (xb : Nat), .int .i64 (xc : Nat), .int .i64 (xd : Nat), .bool P] 70)) := hX3
              have hbk : X3.heap[W3.heap.size]? = some (.cells #[.int .i64 (xa : Nat), .int .i64 (xb : Nat), .int .i64 (xc : Nat), .int .i64 (xd : Nat), .bool P] 70 (0, 0)) := by rw [hX3]; exact alloc_at rfl
              have HB3 : Hid (Below X2.heap.size X2 X3) := (by rw [hX3]; exact hp3.out.2.alloc hsX _ : Below X2.heap.size X2 X3)
              have k0 : X3.cell? ⟨W3.heap.size, 0, none⟩ = some (.int .i64 (xa : Nat)) := block_cell hbk rfl
              have k1 : X3.cell? ⟨W3.heap.size, 1, none⟩ = some (.int .i64 (xb : Nat)) := block_cell hbk rfl
              have k2 : X3.cell? ⟨W3.heap.size, 2, none⟩ = some (.int .i64 (xc : Nat)) := block_cell hbk rfl
              have k3 : X3.cell? ⟨W3.heap.size, 3, none⟩ = some (.int .i64 (xd : Nat)) := block_cell hbk rfl
              have k4 : X3.cell? ⟨W3.heap.size, 4, none⟩ = some (.bool P) := block_cell hbk rfl
              have hglX : gl < X2.heap.size := by omega
              have ca := bcell HB3.out hglX (HC2.out.cell xa la.2)
              have cb := bcell HB3.out hglX (HC2.out.cell xb lb.2)
              have cc := bcell HB3.out hglX (HC2.out.cell xc lc.2)
              have cdd := bcell HB3.out hglX (HC2.out.cell xd ld.2)
              have va := HU.out.2.2 xa la.2
              have vb := HU.out.2.2 xb lb.2
              have vc := HU.out.2.2 xc lc.2
              have HON : Hid (oneA q a F ⟨(xa : Int), (xb : Int), (xc : Int), (xd : Int), P⟩ = ((!(decide (xb ≤ a) && decide (xd ≤ a)) || decide (F xb = F xd)) && (!(decide (xa ≤ a) && decide (xb ≤ a) && decide (xc ≤ a)) || ruleB q P (F xa) (F xb) (F xc)))) := (by unfold oneA; simp only [Int.toNat_natCast] : oneA q a F ⟨(xa : Int), (xb : Int), (xc : Int), (xd : Int), P⟩ = ((!(decide (xb ≤ a) && decide (xd ≤ a)) || decide (F xb = F xd)) && (!(decide (xa ≤ a) && decide (xb ≤ a) && decide (xc ≤ a)) || ruleB q P (F xa) (F xb) (F xc))))
              obtain ⟨ya, hya⟩ : ∃ y, F xa = y := ⟨_, rfl⟩
              obtain ⟨yb, hyb⟩ : ∃ y, F xb = y := ⟨_, rfl⟩
              obtain ⟨yc, hyc⟩ : ∃ y, F xc = y := ⟨_, rfl⟩
              obtain ⟨yd, hyd⟩ : ∃ y, F xd = y := ⟨_, rfl⟩
              rw [hya] at ca va HON
              rw [hyb] at cb vb HON
              rw [hyc] at cc vc HON
              rw [hyd] at cdd HON
              have hTX := (HTK.out X2 HGW.out).1.on (HB3.out.mono hBX2)
              have r1 := hTX.row ya va
              have r2 := hTX.row yc vc
              have t1 := hTX.cell ya yb va vb
              have t2 := hTX.cell yc yb vc vb
              obtain ⟨q1, hq1⟩ : ∃ y, q ya yb = y := ⟨_, rfl⟩
              obtain ⟨q2, hq2⟩ : ∃ y, q yc yb = y := ⟨_, rfl⟩
              have HRB : Hid (ruleB q P ya yb yc = if P = true then decide (q1 = yc) else decide (q2 = ya)) := (by unfold ruleB; rw [hq1, hq2] : ruleB q P ya yb yc = if P = true then decide (q1 = yc) else decide (q2 = ya))
              rw [hq1] at t1
              rw [hq2] at t2
              obtain ⟨A1, hA1⟩ : ∃ B, decide (xa ≤ a) = B := ⟨_, rfl⟩
              obtain ⟨B1, hB1⟩ : ∃ B, decide (xb ≤ a) = B := ⟨_, rfl⟩
              obtain ⟨C1, hC1⟩ : ∃ B, decide (xc ≤ a) = B := ⟨_, rfl⟩
              obtain ⟨D1, hD1⟩ : ∃ B, decide (xd ≤ a) = B := ⟨_, rfl⟩
              obtain ⟨E1, hE1⟩ : ∃ B, decide (yb = yd) = B := ⟨_, rfl⟩
              obtain ⟨Q1, hQ1⟩ : ∃ B, decide (q1 = yc) = B := ⟨_, rfl⟩
              obtain ⟨Q2, hQ2⟩ : ∃ B, decide (q2 = ya) = B := ⟨_, rfl⟩
              rw [HRB.out, hA1, hB1, hC1, hD1, hE1, hQ1, hQ2] at HON
              have HNX : Hid ((C.take (i + 1)).all (oneA q a F) = ((!(B1 && D1) || E1) && (!(A1 && B1 && C1) || (if P = true then Q1 else Q2)))) := (by rw [HTA.out, List.all_append, hp3.out.1, List.all_cons, HON.out]; simp : (C.take (i + 1)).all (oneA q a F) = ((!(B1 && D1) || E1) && (!(A1 && B1 && C1) || (if P = true then Q1 else Q2))))
              have iA : decide ((xa : Int) ≤ (a : Int)) = A1 := by rw [← hA1]; simp
              have iB : decide ((xb : Int) ≤ (a : Int)) = B1 := by rw [← hB1]; simp
              have iC : decide ((xc : Int) ≤ (a : Int)) = C1 := by rw [← hC1]; simp
              have iD : decide ((xd : Int) ≤ (a : Int)) = D1 := by rw [← hD1]; simp
              have iE : ((yb : Int) != (yd : Int)) = !E1 := by rw [← hE1]; by_cases e : yb = yd <;> simp [e]; omega
              have iQ1 : ((q1 : Int) == (yc : Int)) = Q1 := by rw [← hQ1]; by_cases e : q1 = yc <;> simp [e]; omega
              have iQ2 : ((q2 : Int) == (ya : Int)) = Q2 := by rw [← hQ2]; by_cases e : q2 = ya <;> simp [e]; omega
              have HEA : Hid (ad = some ⟨bd, od, none⟩) := ea
              have hbdW : bd < W3.heap.size := by omega
              have HBN : Hid (∀ x, Below X2.heap.size X2 (X3.drewN x)) := fun x => below_drewN HB3.out x
              have HK3 : Hid (X3.heap[W3.heap.size]? = some (.cells #[.int .i64 (xa : Nat), .int .i64 (xb : Nat), .int .i64 (xc : Nat), .int .i64 (xd : Nat), .bool P] 70 (0, 0))) := hbk
              clear hq1 hq2 hya hyb hyc hyd hTX hX3 hbk hE1 hQ1 hQ2 HRB HON HTA
              go_upto_region 13 with (fail)
              rw [← HX3.out]
              clear HX3 e0 e1 e2 e3 e4 ea HEA hCr fa1 fa2 fb1 fb2 fc1 fc2 fd1 fd2 hbdW j0 j1 hid hid2
              have hlX3 : W3.heap.size < X3.heap.size := blk_lt HK3.out
              have hgl3 : gl < X3.heap.size := by have := HB3.out.size; omega
              cases B1 with
              | false =>
                cases A1 with
                | false =>
                  go_wp2
                  all_goals try (go_quiet (fail); go_wp2)
                  all_goals try (go_quiet (fail); go_wp2)
                  all_goals try (go_quiet (fail); go_wp2)
                  all_goals try (go_quiet (fail); go_wp2)
                  go_roundw
                  case rel => exact ⟨i + 1, _, by omega, by go_num, rfl, HNX.out, by first | exact HB3.out | exact HBN.out _⟩
                  case measure => simp only [intOf]; omega
                | true =>
                  go_wp2
                  all_goals try (go_quiet (fail); go_wp2)
                  all_goals try (go_quiet (fail); go_wp2)
                  all_goals try (go_quiet (fail); go_wp2)
                  all_goals try (go_quiet (fail); go_wp2)
                  go_roundw
                  case rel => exact ⟨i + 1, _, by omega, by go_num, rfl, HNX.out, by first | exact HB3.out | exact HBN.out _⟩
                  case measure => simp only [intOf]; omega
              | true =>
                cases D1 with
                | false =>
                  cases A1 with
                  | false =>
                    go_wp2
                    all_goals try (go_quiet (fail); go_wp2)
                    all_goals try (go_quiet (fail); go_wp2)
                    all_goals try (go_quiet (fail); go_wp2)
                    all_goals try (go_quiet (fail); go_wp2)
                    go_roundw
                    case rel => exact ⟨i + 1, _, by omega, by go_num, rfl, HNX.out, by first | exact HB3.out | exact HBN.out _⟩
                    case measure => simp only [intOf]; omega
                  | true =>
                    cases C1 with
                    | false =>
                      go_wp2
                      all_goals try (go_quiet (fail); go_wp2)
                      all_goals try (go_quiet (fail); go_wp2)
                      all_goals try (go_quiet (fail); go_wp2)
                      all_goals try (go_quiet (fail); go_wp2)
                      go_roundw
                      case rel => exact ⟨i + 1, _, by omega, by go_num, rfl, HNX.out, by first | exact HB3.out | exact HBN.out _⟩
                      case measure => simp only [intOf]; omega
                    | true =>
                      cases P with
                      | false =>
                        cases Q2 with
                        | false =>
                          go_wp2
                          all_goals try (go_quiet (fail); go_wp2)
                          all_goals try (go_quiet (fail); go_wp2)
                          all_goals try (go_quiet (fail); go_wp2)
                          all_goals try (go_quiet (fail); go_wp2)
                          go_roundw
                          case rel => exact ⟨i + 1, _, by omega, by go_num, rfl, HNX.out, by first | exact HB3.out | exact HBN.out _⟩
                          case measure => simp only [intOf]; omega
                        | true =>
                          go_wp2
                          all_goals try (go_quiet (fail); go_wp2)
                          all_goals try (go_quiet (fail); go_wp2)
                          all_goals try (go_quiet (fail); go_wp2)
                          all_goals try (go_quiet (fail); go_wp2)
                          go_roundw
                          case rel => exact ⟨i + 1, _, by omega, by go_num, rfl, HNX.out, by first | exact HB3.out | exact HBN.out _⟩
                          case measure => simp only [intOf]; omega
                      | true =>
                        cases Q1 with
                        | false =>
                          go_wp2
                          all_goals try (go_quiet (fail); go_wp2)
                          all_goals try (go_quiet (fail); go_wp2)
                          all_goals try (go_quiet (fail); go_wp2)
                          all_goals try (go_quiet (fail); go_wp2)
                          go_roundw
                          case rel => exact ⟨i + 1, _, by omega, by go_num, rfl, HNX.out, by first | exact HB3.out | exact HBN.out _⟩
                          case measure => simp only [intOf]; omega
                        | true =>
                          go_wp2
                          all_goals try (go_quiet (fail); go_wp2)
                          all_goals try (go_quiet (fail); go_wp2)
                          all_goals try (go_quiet (fail); go_wp2)
                          all_goals try (go_quiet (fail); go_wp2)
                          go_roundw
                          case rel => exact ⟨i + 1, _, by omega, by go_num, rfl, HNX.out, by first | exact HB3.out | exact HBN.out _⟩
                          case measure => simp only [intOf]; omega
                | true =>
                  cases E1 with
                  | false =>
                    cases A1 with
                    | false =>
                      go_wp2
                      all_goals try (go_quiet (fail); go_wp2)
                      all_goals try (go_quiet (fail); go_wp2)
                      all_goals try (go_quiet (fail); go_wp2)
                      all_goals try (go_quiet (fail); go_wp2)
                      go_roundw
                      case rel => exact ⟨i + 1, _, by omega, by go_num, rfl, HNX.out, by first | exact HB3.out | exact HBN.out _⟩
                      case measure => simp only [intOf]; omega
                    | true =>
                      cases C1 with
                      | false =>
                        go_wp2
                        all_goals try (go_quiet (fail); go_wp2)
                        all_goals try (go_quiet (fail); go_wp2)
                        all_goals try (go_quiet (fail); go_wp2)
                        all_goals try (go_quiet (fail); go_wp2)
                        go_roundw
                        case rel => exact ⟨i + 1, _, by omega, by go_num, rfl, HNX.out, by first | exact HB3.out | exact HBN.out _⟩
                        case measure => simp only [intOf]; omega
                      | true =>
                        cases P with
                        | false =>
                          go_wp2
                          all_goals try (go_quiet (fail); go_wp2)
                          all_goals try (go_quiet (fail); go_wp2)
                          all_goals try (go_quiet (fail); go_wp2)
                          all_goals try (go_quiet (fail); go_wp2)
                          go_roundw
                          case rel => exact ⟨i + 1, _, by omega, by go_num, rfl, HNX.out, by first | exact HB3.out | exact HBN.out _⟩
                          case measure => simp only [intOf]; omega
                        | true =>
                          go_wp2
                          all_goals try (go_quiet (fail); go_wp2)
                          all_goals try (go_quiet (fail); go_wp2)
                          all_goals try (go_quiet (fail); go_wp2)
                          all_goals try (go_quiet (fail); go_wp2)
                          go_roundw
                          case rel => exact ⟨i + 1, _, by omega, by go_num, rfl, HNX.out, by first | exact HB3.out | exact HBN.out _⟩
                          case measure => simp only [intOf]; omega
                  | true =>
                    cases A1 with
                    | false =>
                      go_wp2
                      all_goals try (go_quiet (fail); go_wp2)
                      all_goals try (go_quiet (fail); go_wp2)
                      all_goals try (go_quiet (fail); go_wp2)
                      all_goals try (go_quiet (fail); go_wp2)
                      go_roundw
                      case rel => exact ⟨i + 1, _, by omega, by go_num, rfl, HNX.out, by first | exact HB3.out | exact HBN.out _⟩
                      case measure => simp only [intOf]; omega
                    | true =>
                      cases C1 with
                      | false =>
                        go_wp2
                        all_goals try (go_quiet (fail); go_wp2)
                        all_goals try (go_quiet (fail); go_wp2)
                        all_goals try (go_quiet (fail); go_wp2)
                        all_goals try (go_quiet (fail); go_wp2)
                        go_roundw
                        case rel => exact ⟨i + 1, _, by omega, by go_num, rfl, HNX.out, by first | exact HB3.out | exact HBN.out _⟩
                        case measure => simp only [intOf]; omega
                      | true =>
                        cases P with
                        | false =>
                          cases Q2 with
                          | false =>
                            go_wp2
                            all_goals try (go_quiet (fail); go_wp2)
                            all_goals try (go_quiet (fail); go_wp2)
                            all_goals try (go_quiet (fail); go_wp2)
                            all_goals try (go_quiet (fail); go_wp2)
                            go_roundw
                            case rel => exact ⟨i + 1, _, by omega, by go_num, rfl, HNX.out, by first | exact HB3.out | exact HBN.out _⟩
                            case measure => simp only [intOf]; omega
                          | true =>
                            go_wp2
                            all_goals try (go_quiet (fail); go_wp2)
                            all_goals try (go_quiet (fail); go_wp2)
                            all_goals try (go_quiet (fail); go_wp2)
                            all_goals try (go_quiet (fail); go_wp2)
                            go_roundw
                            case rel => exact ⟨i + 1, _, by omega, by go_num, rfl, HNX.out, by first | exact HB3.out | exact HBN.out _⟩
                            case measure => simp only [intOf]; omega
                        | true =>
                          cases Q1 with
                          | false =>
                            go_wp2
                            all_goals try (go_quiet (fail); go_wp2)
                            all_goals try (go_quiet (fail); go_wp2)
                            all_goals try (go_quiet (fail); go_wp2)
                            all_goals try (go_quiet (fail); go_wp2)
                            go_roundw
                            case rel => exact ⟨i + 1, _, by omega, by go_num, rfl, HNX.out, by first | exact HB3.out | exact HBN.out _⟩
                            case measure => simp only [intOf]; omega
                          | true =>
                            go_wp2
                            all_goals try (go_quiet (fail); go_wp2)
                            all_goals try (go_quiet (fail); go_wp2)
                            all_goals try (go_quiet (fail); go_wp2)
                            all_goals try (go_quiet (fail); go_wp2)
                            go_roundw
                            case rel => exact ⟨i + 1, _, by omega, by go_num, rfl, HNX.out, by first | exact HB3.out | exact HBN.out _⟩
                            case measure => simp only [intOf]; omega
          · obtain rfl : i = C.length := by omega
            have hid : decide ((C.length : Int) < (C.length : Int)) = false := by simp
            have hid2 : decide (C.length < C.length) = false := by simp
            have HCH : Hid (chkA q C a F = ok) := (by
              have := hp3.out.1
              rw [List.take_length] at this
              exact this : chkA q C a F = ok)
            have HC3 : Hid (ColAt N gl F W3) := own_any HC2.out (grown_below hp3.out.2 none)
            have HG3 : Hid (X0.grownBy W3 (some gl)) := grown_trans HG2.out (grown_below hp3.out.2 _)
            have HNS : Hid (sumN (c + 1) G = s + G c) := (by rw [HSM.out]; simp [sumN] : sumN (c + 1) G = s + G c)
            have hss : s ≤ 4398046511104 := by
              rw [HSM.out]
              exact Nat.le_trans (sumN_le (n := c) (g := G) fun x _ => HGB.out x) (Nat.le_trans (Nat.mul_le_mul_right _ (by omega : c ≤ 4)) (by decide))
            cases ok with
            | false =>
              have HN2 : Hid (sumN (c + 1) G = s) := (by rw [HNS.out, HGC.out, HCH.out]; rfl : sumN (c + 1) G = s)
              go_wp2
              go_roundw
              case rel => exact ⟨c + 1, s, F, by omega, by go_num, rfl, HN2.out.symm, HC3.out, HU.out.1, HU.out.2.2, HG3.out⟩
              case measure => simp only [intOf]; omega
            | true =>
              have e5 : G c = searchN n (chkA q C) (fromA (a + 1) k) F := by rw [HGC.out, HCH.out, if_pos rfl]
              obtain ⟨rr, hrr⟩ : ∃ r, searchN n (chkA q C) (fromA (a + 1) k) F = r := ⟨_, rfl⟩
              have hrb : rr ≤ 1099511627776 := by rw [← hrr, ← e5]; exact HGB.out c
              have HN2 : Hid (sumN (c + 1) G = s + rr) := (by rw [HNS.out, e5, hrr] : sumN (c + 1) G = s + rr)
              have hK := HTK.out W3 (grown_trans HG0.out HG3.out)
              have HWY : Hid (Calls Try.prog 132 #[.agg #[.slice ad C.length cap, .int .i64 loops], .slice (some ⟨b, off, none⟩) n cq, .slice (some ⟨gl, 0, none⟩) N N, .int .i64 ((a : Int) + 1)] W3 (CntOut N gl (a + 1) F n rr W3)) := (by rw [← hrr]; exact HIH.out F W3 HU.out.2.2 hK.2.2 hK.1 hK.2.1 HC3.out : Calls Try.prog 132 #[.agg #[.slice ad C.length cap, .int .i64 loops], .slice (some ⟨b, off, none⟩) n cq, .slice (some ⟨gl, 0, none⟩) N N, .int .i64 ((a : Int) + 1)] W3 (CntOut N gl (a + 1) F n rr W3))
              have ew : IntKind.i64.wrap ((s : Int) + (rr : Int)) = (s : Int) + (rr : Int) := IntWalk.i64_in _ (by omega)
              clear hrr e5 hK
              go_wp2_with (go_at_call 132; refine HWY.out.mono ?_; rintro e9 w6 ⟨f6, rfl, hc6, hf6, hl6, hg6⟩; refine Hid.out ?_)
              refine Lib.hid ?_
              have HFN : Hid (ColAt N gl f6 w6 ∧ (∀ x, x < a → f6 x = f x) ∧ (∀ i, i < N → f6 i < n) ∧ X0.grownBy w6 (some gl)) := ⟨hc6, fun x hx => (hf6 x (by omega)).trans (HU.out.1 x hx), hl6, grown_trans HG3.out hg6⟩
              clear hc6 hf6 hl6 hg6 j0 j1
              go_wp2
              go_roundw
              case rel => exact ⟨c + 1, s + rr, f6, by omega, by go_num, by go_num, HN2.out.symm, HFN.out⟩
              case measure => simp only [intOf]; omega
      · obtain rfl : c = n := by omega
        go_wp2
        go_ret
        obtain ⟨e1, h2, h3, h4, h5⟩ := hp.out
        exact ⟨f', by rw [← e1]; rfl, h2, h3, h4, grown_trans HG0.out h5⟩
end Go.Proofs.Ytnhllpaoplfgpaa

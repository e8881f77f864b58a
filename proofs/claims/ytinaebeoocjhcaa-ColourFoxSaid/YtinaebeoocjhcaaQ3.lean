/- The walk of colour.rank. -/
import Derived.Test.YtinaebeoocjhcaaQ2
namespace Go.Proofs.Ytinaebeoocjhcaa
open Go.RowKit

/-- The rows from done on. -/
def restR (n done : Nat) (T : Nat → Nat → Int) : (Nat → Int) → Prop := fun r => ∃ i, done ≤ i ∧ i < n ∧ r = T i
theorem rest_congr {p m n done c : Nat} {R0 : (Nat → Int) → Prop} {T T' : Nat → Nat → Int} (h : Inv p m R0 c (restR n done T)) (e : ∀ i j, i < n → j < m → T' i j = T i j) : Inv p m R0 c (restR n done T') := fun v => by
  have hs : Sp p m (restR n done T') v ↔ Sp p m (restR n done T) v := by
    constructor
    · refine Sp.le fun r hr => ?_
      obtain ⟨i, h1, h2, rfl⟩ := hr
      exact (Sp.sub p m _).mod (T i) (T' i) (fun j hj => by rw [e i j h2 hj]; simp) (Sp.mem ⟨i, h1, h2, rfl⟩)
    · refine Sp.le fun r hr => ?_
      obtain ⟨i, h1, h2, rfl⟩ := hr
      exact (Sp.sub p m _).mod (T' i) (T i) (fun j hj => by rw [e i j h2 hj]; simp) (Sp.mem ⟨i, h1, h2, rfl⟩)
  rw [hs]
  exact h v
theorem rest_swap {p m n done c q : Nat} {R0 : (Nat → Int) → Prop} {T : Nat → Nat → Int} (hq : done ≤ q) (hqn : q < n) (h : Inv p m R0 c (restR n done T)) : Inv p m R0 c (restR n done (fun i => T (swp done q i))) := fun v => by
  have key : restR n done (fun i => T (swp done q i)) = restR n done T := by
    funext r
    apply propext
    have hsw : ∀ i, done ≤ i → i < n → done ≤ swp done q i ∧ swp done q i < n := fun i h1 h2 => by
      unfold swp; split
      · omega
      · split <;> omega
    constructor
    · rintro ⟨i, h1, h2, rfl⟩
      exact ⟨swp done q i, (hsw i h1 h2).1, (hsw i h1 h2).2, rfl⟩
    · rintro ⟨i, h1, h2, rfl⟩
      exact ⟨swp done q i, (hsw i h1 h2).1, (hsw i h1 h2).2, by show T i = T (swp done q (swp done q i)); rw [swp_swp]⟩
  rw [key]
  exact h v
/-- One column more, with a first place found. -/
theorem rest_piv {p m n done c : Nat} {R0 : (Nat → Int) → Prop} {T T' : Nat → Nat → Int} (hp : p < 98) (hpr : primeN p = true) (hc : c < m) (hd : done < n) (h : Inv p m R0 c (restR n done T)) (h0 : ¬ (p : Int) ∣ T done c)
    (hg : ∀ i, done < i → i < n → T' i c = 0 ∧ ∃ k : Int, ∀ j, j < m → (p : Int) ∣ (T i j + k * T done j) - T' i j) : Inv p m R0 (c + 1) (restR n (done + 1) T') := by
  obtain ⟨b, hb⟩ := inv_int hp hpr (T done c) h0
  refine h.piv hc (T done) ⟨done, Nat.le_refl _, hd, rfl⟩ b hb ?_ ?_
  · rintro r' ⟨i, h1, h2, rfl⟩
    obtain ⟨g1, k, g2⟩ := hg i (by omega) h2
    exact ⟨by rw [g1]; exact Int.dvd_zero _, T i, k, ⟨i, by omega, h2, rfl⟩, g2⟩
  · rintro r ⟨i, h1, h2, rfl⟩
    by_cases e : i = done
    · subst e; exact Or.inl rfl
    · obtain ⟨g1, k, g2⟩ := hg i (by omega) h2
      refine Or.inr ⟨T' i, -k, ⟨i, by omega, h2, rfl⟩, fun j hj => ?_⟩
      have d := Int.dvd_neg.2 (g2 j hj)
      have e2 : -(T i j + k * T done j - T' i j) = T' i j + -k * T done j - T i j := by rw [Int.neg_mul]; omega
      rw [e2] at d
      exact d

set_option maxHeartbeats 16000000 in
set_option maxRecDepth 100000 in
theorem rank_any (B gt cap n m : Nat) (gs : Nat → Nat) (T : Nat → Nat → Int) (p : Nat) (R0 : (Nat → Int) → Prop) (w : World) (hp : p < 98) (hpr : primeN p = true) (hn : n ≤ 16) (hn1 : 1 ≤ n) (hm : m ≤ 40) (hcap : n ≤ cap)
    (hT : ∀ i j, i < n → j < m → 0 ≤ T i j ∧ T i j < p) (hI : Inv p m R0 0 (restR n 0 T)) (hB : B ≤ w.heap.size) (h : TabO B gt cap n m gs T w) :
    Calls Try.prog 96 #[.slice (some ⟨gt, 0, none⟩) n cap, .int .i64 (p : Nat)] w fun e w' => e = .returned (.int .i64 (rkTo p m R0 m : Nat)) ∧ Below B w w' := by
  have t0 := h.cellO 0 (by omega)
  have hgt := h.outer.lt gt rfl
  have HP : Hid (∃ gs T, TabO B gt cap n m gs T w ∧ (∀ i j, i < n → j < m → 0 ≤ T i j ∧ T i j < p) ∧ Inv p m R0 0 (restR n 0 T) ∧ Below B w w) := ⟨gs, T, h, hT, hI, Below.refl _ _⟩
  have HPR : Hid (primeN p = true) := hpr
  have hp2 : 2 ≤ p := by have := (Bool.and_eq_true_iff.1 hpr).1; simpa using this
  have hn0 : (n == 0) = false := by simp; omega
  have hn0' : n ≠ 0 := by omega
  have hn0'' : ((n : Int) == 0) = false := by simp; omega
  clear h hT hI hpr
  go_enter Try.func96, Try.ntmps96
  go_wp2
  go_loopw [5, 16] (fun v5 v16 wr => ∃ c : Nat, c ≤ m ∧ v16 = .int .i64 (c : Nat) ∧ v5 = .int .i64 (rkTo p m R0 c : Nat) ∧ Hid (∃ gs T, TabO B gt cap n m gs T wr ∧ (∀ i j, i < n → j < m → 0 ≤ T i j ∧ T i j < p) ∧ Inv p m R0 c (restR n (rkTo p m R0 (c)) T) ∧ rkTo p m R0 (c) ≤ n ∧ Below B w wr)) (fun _ v16 _ => m - (intOf v16).toNat)
  case atStart => exact ⟨0, Nat.zero_le _, rfl, rfl, (by obtain ⟨gs, T, h1, h2, h3, h4⟩ := HP.out; exact ⟨gs, T, h1, h2, h3, Nat.zero_le _, h4⟩ : ∃ gs T, TabO B gt cap n m gs T w ∧ (∀ i j, i < n → j < m → 0 ≤ T i j ∧ T i j < p) ∧ Inv p m R0 0 (restR n (rkTo p m R0 (0)) T) ∧ rkTo p m R0 (0) ≤ n ∧ Below B w w)⟩
  case round =>
    clear HP t0
    rename World => W1
    obtain ⟨c, hcm, rfl, rfl, hp1⟩ := hrel
    by_cases hcl : c < m
    · obtain ⟨gs, T, hTab, hT, hI, hdn, hbel⟩ := hp1.out
      obtain ⟨dn, hdd⟩ : ∃ dn, rkTo p m R0 c = dn := ⟨_, rfl⟩
      have HDN : Hid (rkTo p m R0 c = dn) := hdd
      rw [hdd] at hI hdn ⊢
      have HTab : Hid (TabO B gt cap n m gs T W1) := hTab
      have HT : Hid (∀ i j, i < n → j < m → 0 ≤ T i j ∧ T i j < p) := hT
      have HI : Hid (Inv p m R0 c (restR n dn T)) := hI
      have HBE : Hid (Below B w W1) := hbel
      have hg1 := (hTab.outer.lt gt rfl).2
      have hdc : decide ((c : Int) < (m : Int)) = true := by simp; omega
      have hdc2 : decide (c < m) = true := by simp; omega
      clear hTab hT hI hbel hdd hp1
      go_wp2
      go_loopw [5, 7] (fun v5 v7 wr => ∃ i : Nat, dn ≤ i ∧ i ≤ n ∧ v7 = .int .i64 (i : Nat) ∧ v5 = .int .i64 (dn : Nat) ∧ Hid (wr = W1) ∧ Hid (∀ q, dn ≤ q → q < i → T q c = 0)) (fun _ v7 _ => n - (intOf v7).toNat)
      case atStart => exact ⟨dn, Nat.le_refl _, hdn, rfl, rfl, (rfl : W1 = W1), (fun q h1 h2 => by omega : ∀ q, dn ≤ q → q < dn → T q c = 0)⟩
      case round =>
        rename World => W2
        obtain ⟨i, hi1, hi2, rfl, rfl, hw, hz⟩ := hrel
        have e9 : W2 = W1 := hw.out
        subst e9
        by_cases hil : i < n
        · have t1 := HTab.out.cellO i hil
          have t2 := HTab.out.cellR i c hil hcl
          have t3 := HTab.out.cellO dn (by omega)
          have hxb := HT.out i c hil hcl
          obtain ⟨x, hx⟩ : ∃ x, T i c = x := ⟨_, rfl⟩
          have HX : Hid (T i c = x) := hx
          rw [hx] at t2 hxb
          clear hx
          by_cases hx0 : x = 0
          · subst hx0
            go_wp2
            go_roundw
            case rel => exact ⟨i + 1, by omega, by omega, by go_num, rfl, trivial, (fun q h1 h2 => by
              by_cases e : q = i
              · rw [e]; exact HX.out
              · exact hz.out q h1 (by omega) : ∀ q, dn ≤ q → q < i + 1 → T q c = 0)⟩
            case measure => simp only [intOf]; omega
          · have hxz : (x == 0) = false := by simp; exact hx0
            have hdn2 : dn < n := by omega
            have hdn3 : (dn : Int) < (n : Int) := by omega
            have hin3 : (i : Int) < (n : Int) := by omega
            have f0 : W2.frozen? ⟨gt, dn, none⟩ = false := HTab.out.outer.frozenAt dn
            have f1 : W2.frozen? ⟨gt, i, none⟩ = false := HTab.out.outer.frozenAt i
            by_cases hdi : dn = i
            · subst hdi
              go_wp2
              apply cut_one
              case h =>
                intro key
                go_region_with (fail)
                all_goals exact key.out
              have hsw := HTab.out.swap dn dn hdn2 hil
              obtain ⟨X, hX⟩ : ∃ X, X = ((W2.setCell ⟨gt, dn, none⟩ (.slice (some ⟨gs dn, 0, none⟩) m m)).setCell ⟨gt, dn, none⟩ (.slice (some ⟨gs dn, 0, none⟩) m m)).drew := ⟨_, rfl⟩
              have HX0 : Hid (X = ((W2.setCell ⟨gt, dn, none⟩ (.slice (some ⟨gs dn, 0, none⟩) m m)).setCell ⟨gt, dn, none⟩ (.slice (some ⟨gs dn, 0, none⟩) m m)).drew) := hX
              have HXT : Hid (TabO B gt cap n m (fun q => gs (swp dn dn q)) (fun q => T (swp dn dn q)) X ∧ Below B w X) := (by rw [hX]; exact ⟨hsw.1.any (grown_below ((Below.refl _ _).drew) none), Below.drew <| HBE.out.grown hsw.2 (by have := HBE.out.size; omega) (fun q hq => by have := Option.some.inj hq; omega)⟩ : TabO B gt cap n m (fun q => gs (swp dn dn q)) (fun q => T (swp dn dn q)) X ∧ Below B w X)
              have HT2 : Hid (∀ a b, a < n → b < m → 0 ≤ T (swp dn dn a) b ∧ T (swp dn dn a) b < p) := fun a b ha hb => HT.out _ b (swp_lt hdn2 hil ha) hb
              have HI2 : Hid (Inv p m R0 c (restR n dn (fun q => T (swp dn dn q)))) := rest_swap (by omega) hil HI.out
              have HXC : Hid (T (swp dn dn dn) c = x) := (by have e : swp dn dn dn = dn := (by simp [swp]); rw [e]; exact HX.out : T (swp dn dn dn) c = x)
              have HCB : Hid (∀ W, B ≤ W.heap.size → TabO B gt cap n m (fun q => gs (swp dn dn q)) (fun q => T (swp dn dn q)) W → _) := fun W hW hTW => clearBelow_any B gt cap n m (fun q => gs (swp dn dn q)) (fun q => T (swp dn dn q)) dn c p W hp HPR.out hn hm hdn2 hcl hcap HT2.out (by show T (swp dn dn dn) c ≠ 0; rw [HXC.out]; exact hx0) hW hTW
              rw [← hX]
              clear hsw hX t1 t2 t3 f0 f1 HX0
              have hcd : cap - dn ≠ 0 := by omega
              have hcd2 : dn < cap := by omega
              have hcd3 : dn ≤ n := by omega
              go_wp2_with (go_at_call 135; refine (HCB.out X (by have := HXT.out.2.size; omega) HXT.out.1).mono ?_; rintro e9 w5 ⟨rfl, T', hT', hs1, hs2, hb5⟩; refine Hid.out ?_)
              refine Lib.hid ?_
              have HPV : Hid (pivP p m R0 c) := (piv_iff HI2.out hcl).2 ⟨_, ⟨dn, Nat.le_refl _, hdn2, rfl⟩, fun hd => hx0 (by have h1 : (p : Int) ∣ x := (by rw [← HXC.out]; exact hd); exact (small_dvd hxb.1 hxb.2).1 h1)⟩
              have HRK : Hid (rkTo p m R0 (c + 1) = dn + 1) := (by rw [rkTo_yes HPV.out, HDN.out] : rkTo p m R0 (c + 1) = dn + 1)
              have HFI : Hid (∃ gs T, TabO B gt cap n m gs T w5 ∧ (∀ i j, i < n → j < m → 0 ≤ T i j ∧ T i j < p) ∧ Inv p m R0 (c + 1) (restR n (rkTo p m R0 ((c + 1))) T) ∧ rkTo p m R0 ((c + 1)) ≤ n ∧ Below B w w5) := (by
                rw [HRK.out]
                refine ⟨_, T', hT', fun a b ha hb => ?_, ?_, by omega, HXT.out.2.trans hb5⟩
                · by_cases h1 : a ≤ dn
                  · rw [hs1 a b h1 hb]; exact HT2.out a b ha hb
                  · exact (hs2 a (by omega) ha).2.1 b hb
                · exact rest_piv hp HPR.out hcl hdn2 HI2.out (fun hd => hx0 (by have h1 : (p : Int) ∣ x := (by rw [← HXC.out]; exact hd); exact (small_dvd hxb.1 hxb.2).1 h1)) (fun a h1 h2 => ⟨(hs2 a h1 h2).1, (hs2 a h1 h2).2.2⟩) : ∃ gs T, TabO B gt cap n m gs T w5 ∧ (∀ i j, i < n → j < m → 0 ≤ T i j ∧ T i j < p) ∧ Inv p m R0 (c + 1) (restR n (rkTo p m R0 ((c + 1))) T) ∧ rkTo p m R0 ((c + 1)) ≤ n ∧ Below B w w5)
              clear hT' hs1 hs2 hb5 HXT HCB HT2 HI2 HXC
              go_wp2
              go_roundw
              case rel => exact ⟨c + 1, by omega, by go_num, (by rw [HRK.out]; go_num), HFI.out⟩
              case measure => simp only [intOf]; omega
            · have hid : i ≠ dn := fun e => hdi e.symm
              go_wp2
              apply cut_one
              case h =>
                intro key
                go_region_with (fail)
                all_goals exact key.out
              have hsw := HTab.out.swap dn i hdn2 hil
              obtain ⟨X, hX⟩ : ∃ X, X = ((W2.setCell ⟨gt, dn, none⟩ (.slice (some ⟨gs i, 0, none⟩) m m)).setCell ⟨gt, i, none⟩ (.slice (some ⟨gs dn, 0, none⟩) m m)).drew := ⟨_, rfl⟩
              have HX0 : Hid (X = ((W2.setCell ⟨gt, dn, none⟩ (.slice (some ⟨gs i, 0, none⟩) m m)).setCell ⟨gt, i, none⟩ (.slice (some ⟨gs dn, 0, none⟩) m m)).drew) := hX
              have HXT : Hid (TabO B gt cap n m (fun q => gs (swp dn i q)) (fun q => T (swp dn i q)) X ∧ Below B w X) := (by rw [hX]; exact ⟨hsw.1.any (grown_below ((Below.refl _ _).drew) none), Below.drew <| HBE.out.grown hsw.2 (by have := HBE.out.size; omega) (fun q hq => by have := Option.some.inj hq; omega)⟩ : TabO B gt cap n m (fun q => gs (swp dn i q)) (fun q => T (swp dn i q)) X ∧ Below B w X)
              have HT2 : Hid (∀ a b, a < n → b < m → 0 ≤ T (swp dn i a) b ∧ T (swp dn i a) b < p) := fun a b ha hb => HT.out _ b (swp_lt hdn2 hil ha) hb
              have HI2 : Hid (Inv p m R0 c (restR n dn (fun q => T (swp dn i q)))) := rest_swap (by omega) hil HI.out
              have HXC : Hid (T (swp dn i dn) c = x) := (by have e : swp dn i dn = i := (by simp [swp]); rw [e]; exact HX.out : T (swp dn i dn) c = x)
              have HCB : Hid (∀ W, B ≤ W.heap.size → TabO B gt cap n m (fun q => gs (swp dn i q)) (fun q => T (swp dn i q)) W → _) := fun W hW hTW => clearBelow_any B gt cap n m (fun q => gs (swp dn i q)) (fun q => T (swp dn i q)) dn c p W hp HPR.out hn hm hdn2 hcl hcap HT2.out (by show T (swp dn i dn) c ≠ 0; rw [HXC.out]; exact hx0) hW hTW
              rw [← hX]
              clear hsw hX t1 t2 t3 f0 f1 HX0
              have hcd : cap - dn ≠ 0 := by omega
              have hcd2 : dn < cap := by omega
              have hcd3 : dn ≤ n := by omega
              go_wp2_with (go_at_call 135; refine (HCB.out X (by have := HXT.out.2.size; omega) HXT.out.1).mono ?_; rintro e9 w5 ⟨rfl, T', hT', hs1, hs2, hb5⟩; refine Hid.out ?_)
              refine Lib.hid ?_
              have HPV : Hid (pivP p m R0 c) := (piv_iff HI2.out hcl).2 ⟨_, ⟨dn, Nat.le_refl _, hdn2, rfl⟩, fun hd => hx0 (by have h1 : (p : Int) ∣ x := (by rw [← HXC.out]; exact hd); exact (small_dvd hxb.1 hxb.2).1 h1)⟩
              have HRK : Hid (rkTo p m R0 (c + 1) = dn + 1) := (by rw [rkTo_yes HPV.out, HDN.out] : rkTo p m R0 (c + 1) = dn + 1)
              have HFI : Hid (∃ gs T, TabO B gt cap n m gs T w5 ∧ (∀ i j, i < n → j < m → 0 ≤ T i j ∧ T i j < p) ∧ Inv p m R0 (c + 1) (restR n (rkTo p m R0 ((c + 1))) T) ∧ rkTo p m R0 ((c + 1)) ≤ n ∧ Below B w w5) := (by
                rw [HRK.out]
                refine ⟨_, T', hT', fun a b ha hb => ?_, ?_, by omega, HXT.out.2.trans hb5⟩
                · by_cases h1 : a ≤ dn
                  · rw [hs1 a b h1 hb]; exact HT2.out a b ha hb
                  · exact (hs2 a (by omega) ha).2.1 b hb
                · exact rest_piv hp HPR.out hcl hdn2 HI2.out (fun hd => hx0 (by have h1 : (p : Int) ∣ x := (by rw [← HXC.out]; exact hd); exact (small_dvd hxb.1 hxb.2).1 h1)) (fun a h1 h2 => ⟨(hs2 a h1 h2).1, (hs2 a h1 h2).2.2⟩) : ∃ gs T, TabO B gt cap n m gs T w5 ∧ (∀ i j, i < n → j < m → 0 ≤ T i j ∧ T i j < p) ∧ Inv p m R0 (c + 1) (restR n (rkTo p m R0 ((c + 1))) T) ∧ rkTo p m R0 ((c + 1)) ≤ n ∧ Below B w w5)
              clear hT' hs1 hs2 hb5 HXT HCB HT2 HI2 HXC
              go_wp2
              go_roundw
              case rel => exact ⟨c + 1, by omega, by go_num, (by rw [HRK.out]; go_num), HFI.out⟩
              case measure => simp only [intOf]; omega
        · obtain rfl : n = i := by omega
          have HNP : Hid (¬ pivP p m R0 c) := fun hpv => by
            obtain ⟨r, ⟨q, h1, h2, rfl⟩, hr⟩ := (piv_iff HI.out hcl).1 hpv
            exact hr (by rw [hz.out q h1 h2]; exact Int.dvd_zero _)
          have HRK : Hid (rkTo p m R0 (c + 1) = dn) := (by rw [rkTo_no HNP.out, HDN.out] : rkTo p m R0 (c + 1) = dn)
          have HIN : Hid (Inv p m R0 (c + 1) (restR n dn T)) := HI.out.none hcl (fun r hr => by
            obtain ⟨q, h1, h2, rfl⟩ := hr
            rw [hz.out q h1 h2]; exact Int.dvd_zero _)
          go_wp2
          go_roundw
          case rel => exact ⟨c + 1, by omega, by go_num, (by rw [HRK.out]), (by rw [HRK.out]; exact ⟨gs, T, HTab.out, HT.out, HIN.out, hdn, HBE.out⟩ : ∃ gs T, TabO B gt cap n m gs T W2 ∧ (∀ i j, i < n → j < m → 0 ≤ T i j ∧ T i j < p) ∧ Inv p m R0 (c + 1) (restR n (rkTo p m R0 ((c + 1))) T) ∧ rkTo p m R0 ((c + 1)) ≤ n ∧ Below B w W2)⟩
          case measure => simp only [intOf]; omega
    · obtain rfl : c = m := by omega
      go_wp2
      go_ret
      obtain ⟨gs, T, _, _, _, _, hbel⟩ := hp1.out
      exact ⟨rfl, hbel⟩
end Go.Proofs.Ytinaebeoocjhcaa

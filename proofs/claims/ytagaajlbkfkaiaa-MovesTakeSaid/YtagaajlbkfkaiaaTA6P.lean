/- Several texts of the proof, one behind the other. -/
import Derived.Test.YtagaajlbkfkaiaaTA3P
import Derived.Test.YtagaajlbkfkaiaaTA2P
import Derived.Test.YtagaajlbkfkaiaaMQ2
import Derived.Test.YtagaajlbkfkaiaaW3P
import Derived.BigQuiet
/- The walk of ref.SimpleOf. Made by genta6.py. -/
namespace Go.Proofs.Ytagaajlbkfkaiaa
open Go.RowKit

theorem crsW_put {W W' : World} {v x y : Value} {C : List Cr} {z : Nat} {t : TypeId} (h : CrsW W W.heap.size v C) (hz : W.heap[z]? = some (.cells #[x, y] t (0, 0))) (hg : W.grownBy W' (some z)) : CrsW W' W'.heap.size v C := by
  by_cases h0 : 0 < C.length
  · rcases h with ⟨-, rfl⟩ | ⟨ad, cap, -, rfl⟩ | ⟨b, off, cap, rfl, hlt, hC⟩
    · cases h0
    · cases h0
    · have hne := cross_box hC h0 hz
      refine Or.inr (Or.inr ⟨b, off, cap, rfl, Nat.lt_of_lt_of_le hlt hg.size, fun i hi => ?_⟩)
      have hbk := hg.block b hlt (fun e => hne (Option.some.inj e))
      have hc : ∀ j u, W.cell? ⟨b, j, none⟩ = some u → W'.cell? ⟨b, j, none⟩ = some u := fun j u hu => by
        simp only [World.cell?] at hu ⊢
        rw [hbk]
        exact hu
      obtain ⟨q0, q1, q2, q3, q4⟩ := hC i hi
      exact ⟨hc _ _ q0, hc _ _ q1, hc _ _ q2, hc _ _ q3, hc _ _ q4⟩
  · have hz : C = [] := List.eq_nil_of_length_eq_zero (by omega)
    subst hz
    rcases h with ⟨rfl, -⟩ | ⟨ad, cap, rfl, -⟩ | ⟨b, off, cap, rfl, hlt, hC⟩
    · exact Or.inl ⟨rfl, rfl⟩
    · exact Or.inr (Or.inl ⟨ad, cap, rfl, rfl⟩)
    · exact Or.inr (Or.inl ⟨_, cap, rfl, rfl⟩)
structure SfS (w W : World) (aS : Option Addr) (cS : Nat) (C : List Cr) (lo : Int) (a5 : Option Addr) (k c5 : Nat) (L : List (List Nat)) : Prop where
  b0 : W.heap[w.heap.size]? = some (.cells #[.slice aS C.length cS, .int .i64 lo] 24 (0, 0))
  b1 : W.heap[w.heap.size + 1]? = some (.cells #[.slice none 0 0, .int .i64 0] 24 (0, 0))
  crs : CrsW W W.heap.size (.slice aS C.length cS) C
  row : TkO W (w.heap.size + 2) a5 k c5 L
  low : Below w.heap.size w W
theorem SfS.on {w W W' : World} {aS : Option Addr} {cS : Nat} {C : List Cr} {lo : Int} {a5 : Option Addr} {k c5 : Nat} {L : List (List Nat)} (h : SfS w W aS cS C lo a5 k c5 L) (hb : Below W.heap.size W W') : SfS w W' aS cS C lo a5 k c5 L :=
  ⟨(hb.block _ (Array.getElem?_eq_some_iff.1 h.b0).1).trans h.b0, (hb.block _ (Array.getElem?_eq_some_iff.1 h.b1).1).trans h.b1, h.crs.up hb, h.row.any (grown_below hb none), h.low.trans (hb.mono h.low.size)⟩
theorem SfS.put {w W : World} {aS a2 : Option Addr} {cS c2 B : Nat} {C D : List Cr} {lo lo2 : Int} {a5 : Option Addr} {k c5 : Nat} {L : List (List Nat)} (h : SfS w W aS cS C lo a5 k c5 L) (hD : W.ownsRow B 71 5 (.slice a2 D.length c2) D.length (crossCells D)) (hB : w.heap.size < B) :
    SfS w ((W.setCell ⟨w.heap.size, 0, none⟩ (.slice a2 D.length c2)).setCell ⟨w.heap.size, 1, none⟩ (.int .i64 lo2)) a2 c2 D lo2 a5 k c5 L := by
  have hg := grown_trans (set_grown W w.heap.size 0 (.slice a2 D.length c2)) (set_grown (W.setCell ⟨w.heap.size, 0, none⟩ (.slice a2 D.length c2)) w.heap.size 1 (.int .i64 lo2))
  have h1 := (Array.getElem?_eq_some_iff.1 h.b1).1
  refine ⟨by rw [set_block (set_block h.b0)]; rfl, (hg.block _ h1 (fun e => by have := Option.some.inj e; omega)).trans h.b1, own_crsW (own_two hD hB _ _), ⟨h.row.len, own_two h.row.own (by omega) _ _⟩, h.low.grown hg h.low.size (fun q hq => by have := Option.some.inj hq; omega)⟩
theorem SfS.app {w W W' : World} {aS : Option Addr} {cS : Nat} {C : List Cr} {lo : Int} {a5 : Option Addr} {k c5 : Nat} {L : List (List Nat)} {G : List Nat} {v : Value} (h : SfS w W aS cS C lo a5 k c5 L) (hg : W.grownBy W' (Value.slice a5 k c5).ownBlock) (ho : W'.ownsRow (w.heap.size + 2) 28 8 v (k + 1) (moCells (L.map moG) ++ (moG G).cells)) (hc : CrsW W' W'.heap.size (.slice aS C.length cS) C) : ∃ a' c', v = .slice a' (k + 1) c' ∧ SfS w W' aS cS C lo a' (k + 1) c' (L ++ [G]) := by
  obtain ⟨a', c', e, h1⟩ := h.row.app ho
  have hq : ∀ q, (Value.slice a5 k c5).ownBlock = some q → w.heap.size + 2 ≤ q := fun q hq => (h.row.own.lt q hq).1
  refine ⟨a', c', e, (hg.block _ (Array.getElem?_eq_some_iff.1 h.b0).1 (fun e => by have := hq _ e.symm; omega)).trans h.b0, (hg.block _ (Array.getElem?_eq_some_iff.1 h.b1).1 (fun e => by have := hq _ e.symm; omega)).trans h.b1, hc, h1, h.low.grown hg h.low.size (fun q hq2 => by have := hq _ hq2; omega)⟩
theorem res_sf {W : World} {g : Nat} {a b v : Value} {x : Int} {tm : Array Value} (h : W.heap[g]? = some (.cells #[a, b] 24 (0, 0))) (h2 : tm[2]? = some (.pointer (some ⟨g, 0, none⟩))) (h3 : tm[3]? = some v) (h4 : tm[4]? = some (.int .i64 x)) : (results Try.f16 tm).run Try.prog W = .ok (.tuple #[.agg #[a, b], v, .int .i64 x]) W := by
  have e0 : W.cell? ⟨g, 0, none⟩ = some a := block_cell h rfl
  have e1 : W.cell? ⟨g, 1, none⟩ = some b := block_cell h rfl
  simp [results, Try.results16, go_sem, h2, h3, h4, e0, e1]

set_option maxHeartbeats 16000000 in
set_option maxRecDepth 100000 in
theorem simpleOf_no (a : Option Addr) (cap : Nat) (C : List Cr) (loops : Int) (w : World) (hl : C.length ≤ maxLen) (h : CrsW w w.heap.size (.slice a C.length cap) C) (hn : (mayD C loops && planarB C) = false) :
    Calls Try.prog 16 #[.agg #[.slice a C.length cap, .int .i64 loops]] w fun e w' => SimOut w [] 0 0 [] 7 e w' := by
  obtain ⟨V, hV⟩ : ∃ V, (w.alloc (.cells #[.slice a C.length cap, .int .i64 loops] 24)).alloc (.cells #[.slice none 0 0, .int .i64 0] 24) = V := ⟨_, rfl⟩
  have hB : Below w.heap.size w V := by rw [← hV]; exact below2 _ _ _
  have b1 : V.heap[w.heap.size]? = some (.cells #[.slice a C.length cap, .int .i64 loops] 24 (0, 0)) := by rw [← hV]; exact alloc_old (alloc_at rfl)
  have b2 : V.heap[w.heap.size + 1]? = some (.cells #[.slice none 0 0, .int .i64 0] 24 (0, 0)) := by rw [← hV]; exact alloc_at (by simp)
  have HMY : Hid (∀ (W : World), Below V.heap.size V W → Calls Try.prog 31 #[.agg #[.slice a C.length cap, .int .i64 loops]] W fun e w' => e = .returned (.bool (mayD C loops)) ∧ Below W.heap.size W w') := fun W hW => may17_any (.slice a C.length cap) C loops W (((h.up hB).up hW).crs hl)
  have HPL : Hid (mayD C loops = true → ∀ (W : World), Below V.heap.size V W → Calls Try.prog 32 #[.agg #[.slice a C.length cap, .int .i64 loops]] W fun e w' => e = .returned (.bool false) ∧ Below W.heap.size W w') := (fun hm W hW => by
    have h1 := planarIs_any a cap C loops W hm (((h.up hB).up hW).crs hl)
    rw [hm, Bool.true_and] at hn
    rw [hn] at h1
    exact h1)
  have HV := hidQ hV
  have HB := hidQ hB
  have HK1 := hidQ b1
  have HK2 := hidQ b2
  have l2 : w.heap.size + 1 < V.heap.size := (Array.getElem?_eq_some_iff.1 b2).1
  have c0 : V.cell? ⟨w.heap.size, 0, none⟩ = some (.slice a C.length cap) := block_cell b1 rfl
  have c1 : V.cell? ⟨w.heap.size, 1, none⟩ = some (.int .i64 loops) := block_cell b1 rfl
  clear hV hB b1 b2 h hl
  cases hm : mayD C loops with
  | false =>
    have HM := hidQ hm
    clear hm hn
    go_enter Try.func16, Try.ntmps16
    go_upto_region 1 with (fail)
    rw [HV.out]
    go_upto_region 2 with (go_at_call 31; refine (HMY.out _ (Below.refl _ _)).mono ?_; rw [HM.out]; rintro e9 w3 ⟨rfl, hb3⟩; have H3 := hidQ hb3; clear hb3 c0 c1)
    have y1 := hidQ ((H3.out.block _ l2).trans HK2.out)
    have q0 : w3.cell? ⟨w.heap.size + 1, 0, none⟩ = some (.slice none 0 0) := block_cell y1.out rfl
    have q1 : w3.cell? ⟨w.heap.size + 1, 1, none⟩ = some (.int .i64 0) := block_cell y1.out rfl
    have f0 : w3.frozen? ⟨w.heap.size + 1, 0, none⟩ = false := block_frozen y1.out
    have f1 : w3.frozen? ⟨w.heap.size + 1, 1, none⟩ = false := block_frozen y1.out
    go_wp2
    have hg := grown_trans (set_grown w3 (w.heap.size + 1) 0 (.slice none 0 0)) (set_grown (w3.setCell ⟨w.heap.size + 1, 0, none⟩ (.slice none 0 0)) (w.heap.size + 1) 1 (.int .i64 0))
    have hl := HB.out.trans (H3.out.mono HB.out.size)
    exact bodyPost_ret (res_sf (set_block (set_block y1.out)) rfl rfl rfl) rfl (SimOut.no (hl.grown hg hl.size (fun q hq => by have := Option.some.inj hq; omega)))
  | true =>
    have HM := hidQ hm
    clear hm hn
    go_enter Try.func16, Try.ntmps16
    go_upto_region 1 with (fail)
    rw [HV.out]
    go_upto_region 2 with (first
      | (go_at_call 31; refine (HMY.out _ (Below.refl _ _)).mono ?_; rw [HM.out]; rintro e9 w5 ⟨rfl, hb5⟩; have H5 := hidQ hb5; clear hb5 c0 c1
         have d0 := block_cell (i := 0) (v := .slice a C.length cap) ((H5.out.block _ (by omega)).trans HK1.out) rfl
         have d1 := block_cell (i := 1) (v := .int .i64 loops) ((H5.out.block _ (by omega)).trans HK1.out) rfl)
      | (go_at_call 32; refine (HPL.out HM.out _ H5.out).mono ?_; rintro e9 w3 ⟨rfl, hb3⟩; have H3 := hidQ (H5.out.trans (hb3.mono H5.out.size)); clear hb3 d0 d1))
    have y1 := hidQ ((H3.out.block _ l2).trans HK2.out)
    have q0 : w3.cell? ⟨w.heap.size + 1, 0, none⟩ = some (.slice none 0 0) := block_cell y1.out rfl
    have q1 : w3.cell? ⟨w.heap.size + 1, 1, none⟩ = some (.int .i64 0) := block_cell y1.out rfl
    have f0 : w3.frozen? ⟨w.heap.size + 1, 0, none⟩ = false := block_frozen y1.out
    have f1 : w3.frozen? ⟨w.heap.size + 1, 1, none⟩ = false := block_frozen y1.out
    go_wp2
    have hg := grown_trans (set_grown w3 (w.heap.size + 1) 0 (.slice none 0 0)) (set_grown (w3.setCell ⟨w.heap.size + 1, 0, none⟩ (.slice none 0 0)) (w.heap.size + 1) 1 (.int .i64 0))
    have hl := HB.out.trans (H3.out.mono HB.out.size)
    exact bodyPost_ret (res_sf (set_block (set_block y1.out)) rfl rfl rfl) rfl (SimOut.no (hl.grown hg hl.size (fun q hq => by have := Option.some.inj hq; omega)))

set_option maxHeartbeats 16000000 in
set_option maxRecDepth 100000 in
theorem simpleOf_yes (a : Option Addr) (cap : Nat) (w : World) (N : Nat) (S : Nat → List Cr) (L : Nat → Int) (G : Nat → List Nat) (hR : Road N S L G) (h : CrsW w w.heap.size (.slice a (S 0).length cap) (S 0)) :
    Calls Try.prog 16 #[.agg #[.slice a (S 0).length cap, .int .i64 (L 0)]] w fun e w' => SimOut w (S N) (L N) N ((List.range N).map G) 0 e w' := by
  have hm0 := hR.may 0 (Nat.zero_le _)
  have hp0 := hR.flat 0 (Nat.zero_le _)
  have hl16 := may_len hm0
  have hN16 : N ≤ 16 := by have := hR.fewer N (Nat.le_refl _); omega
  have hfew : ∀ i, i ≤ N → (S i).length ≤ maxLen := fun i hi => by have := hR.fewer i hi; unfold maxLen; omega
  obtain ⟨i0, hi0, hz0, hz1, hz2⟩ := info_parts infoMove
  obtain ⟨V, hV⟩ : ∃ V, (w.alloc (.cells #[.slice a (S 0).length cap, .int .i64 (L 0)] 24)).alloc (.cells #[.slice none 0 0, .int .i64 0] 24) = V := ⟨_, rfl⟩
  have hB : Below w.heap.size w V := by rw [← hV]; exact below2 _ _ _
  have b1 : V.heap[w.heap.size]? = some (.cells #[.slice a (S 0).length cap, .int .i64 (L 0)] 24 (0, 0)) := by rw [← hV]; exact alloc_old (alloc_at rfl)
  have b2 : V.heap[w.heap.size + 1]? = some (.cells #[.slice none 0 0, .int .i64 0] 24 (0, 0)) := by rw [← hV]; exact alloc_at (by simp)
  have HMY : Hid (∀ (W : World), Below V.heap.size V W → Calls Try.prog 31 #[.agg #[.slice a (S 0).length cap, .int .i64 (L 0)]] W fun e w' => e = .returned (.bool true) ∧ Below W.heap.size W w') := (fun W hW => by
    have h1 := may17_any (.slice a (S 0).length cap) (S 0) (L 0) W (((h.up hB).up hW).crs (hfew 0 (Nat.zero_le _)))
    rw [hm0] at h1
    exact h1)
  have HPL : Hid (∀ (W : World), Below V.heap.size V W → Calls Try.prog 32 #[.agg #[.slice a (S 0).length cap, .int .i64 (L 0)]] W fun e w' => e = .returned (.bool true) ∧ Below W.heap.size W w') := (fun W hW => by
    have h1 := planarIs_any a cap (S 0) (L 0) W hm0 (((h.up hB).up hW).crs (hfew 0 (Nat.zero_le _)))
    rw [hp0] at h1
    exact h1)
  have HTK : Hid (∀ (i : Nat) (W : World) (aS : Option Addr) (cS : Nat), i ≤ N → CrsW W W.heap.size (.slice aS (S i).length cS) (S i) → Calls Try.prog 44 #[.agg #[.slice aS (S i).length cS, .int .i64 (L i)]] W fun e w' => ((i < N ∧ e = .returned (.tuple #[(moG (G i)).val, .bool true])) ∨ (i = N ∧ e = .returned (.tuple #[Mo.none.val, .bool false]))) ∧ Below W.heap.size W w') := (fun i W aS cS hi hc => by
    refine (takes_any aS cS (S i) (L i) W (hR.may i hi) (hc.crs (hfew i hi))).mono fun e w' hh => ?_
    rcases hh with ⟨G', h1, h2, h3⟩ | ⟨h1, h2, h3⟩
    · rcases Nat.lt_or_ge i N with q | q
      · rw [hR.goes i q] at h1
        injection h1 with h1
        rw [h1]
        exact ⟨Or.inl ⟨q, h2⟩, h3⟩
      · have e : i = N := by omega
        rw [e, hR.ends] at h1
        cases h1
    · rcases Nat.lt_or_ge i N with q | q
      · rw [hR.goes i q] at h1
        cases h1
      · exact ⟨Or.inr ⟨by omega, h2⟩, h3⟩)
  have HDO : Hid (∀ (i : Nat) (W : World) (aS : Option Addr) (cS : Nat), i < N → CrsW W W.heap.size (.slice aS (S i).length cS) (S i) → Calls Try.prog 11 #[.agg #[.slice aS (S i).length cS, .int .i64 (L i)], (moG (G i)).val] W fun e w' => RsAt W (S (i + 1)) (L (i + 1)) 0 e w') := (fun i W aS cS hi hc => by
    have hg := hR.goes i hi
    obtain ⟨h1, h2⟩ := next_mem hg
    have h3 := (take_pair (hR.may i (by omega)) (hR.flat i (by omega)) h1).1 h2
    obtain ⟨e1, e2⟩ := hR.next i hi
    rw [e1, e2]
    exact h3.2 aS cS W hc)
  have hT : SfS w V a cap (S 0) (L 0) none 0 0 ((List.range 0).map G) := ⟨b1, b2, h.up hB, TkO.nil _ _, hB⟩
  have HT := hidQ hT
  have HV := hidQ hV
  have HFEW := hidQ hfew
  have HK1 := hidQ b1
  have l2 : w.heap.size + 1 < V.heap.size := (Array.getElem?_eq_some_iff.1 b2).1
  obtain ⟨n, hn⟩ : ∃ n, (S 0).length = n := ⟨_, rfl⟩
  obtain ⟨lo, hlo⟩ : ∃ lo, L 0 = lo := ⟨_, rfl⟩
  rw [hn, hlo] at HMY HPL HK1 HV
  rw [hn, hlo]
  have c0 : V.cell? ⟨w.heap.size, 0, none⟩ = some (.slice a n cap) := block_cell HK1.out rfl
  have c1 : V.cell? ⟨w.heap.size, 1, none⟩ = some (.int .i64 lo) := block_cell HK1.out rfl
  clear hV hB b1 b2 h hm0 hp0 hl16 hfew hR hT hn hlo
  go_enter Try.func16, Try.ntmps16
  go_upto_region 1 with (fail)
  rw [HV.out]
  go_upto_region 3 with (first
    | (go_at_call 31; refine (HMY.out _ (Below.refl _ _)).mono ?_; rintro e9 w5 ⟨rfl, hb5⟩; have H5 := hidQ hb5; clear hb5 c0 c1
       have d0 := block_cell (i := 0) (v := .slice a n cap) ((H5.out.block _ (by omega)).trans HK1.out) rfl
       have d1 := block_cell (i := 1) (v := .int .i64 lo) ((H5.out.block _ (by omega)).trans HK1.out) rfl)
    | (go_at_call 32; refine (HPL.out _ H5.out).mono ?_; rintro e9 w3 ⟨rfl, hb3⟩; have H3 := hidQ (H5.out.trans (hb3.mono H5.out.size)); clear hb3 d0 d1))
  have HT3 := hidQ (HT.out.on H3.out)
  clear HT H3 H5 HMY HPL HK1 HV
  go_wp2
  go_loopw [5] (fun v5 wr => ∃ (i : Nat) (aS a5 : Option Addr) (cS c5 : Nat), i ≤ N ∧ v5 = .slice a5 i c5 ∧ Hid (SfS w wr aS cS (S i) (L i) a5 i c5 ((List.range i).map G))) (fun v5 _ => N + 1 - lenV v5)
  case atStart => exact ⟨0, a, none, cap, 0, Nat.zero_le _, rfl, HT3⟩
  case round =>
    clear HT3
    rename World => W1
    obtain ⟨i, aS, a5, cS, c5, hiN, rfl, hs⟩ := hrel
    have HS := hidQ hs.out
    have HTI := hidQ (fun (W : World) hW => HTK.out i W aS cS hiN hW)
    have HDI := hidQ (fun (W : World) hlt hW => HDO.out i W aS cS hlt hW)
    have hfi := HFEW.out i hiN
    obtain ⟨n1, hn1⟩ : ∃ n1, (S i).length = n1 := ⟨_, rfl⟩
    obtain ⟨lo1, hlo1⟩ : ∃ lo1, L i = lo1 := ⟨_, rfl⟩
    obtain ⟨m, hm⟩ : ∃ m, moG (G i) = m := ⟨_, rfl⟩
    rw [hn1, hlo1] at HTI HDI
    rw [hm] at HTI HDI
    have y0 := HS.out.b0
    rw [hn1, hlo1] at y0
    have HCW := hidQ HS.out.crs
    rw [hn1] at HCW
    have c0 : W1.cell? ⟨w.heap.size, 0, none⟩ = some (.slice aS n1 cS) := block_cell y0 rfl
    have c1 : W1.cell? ⟨w.heap.size, 1, none⟩ = some (.int .i64 lo1) := block_cell y0 rfl
    have HN1 := hidQ hn1
    have HLO1 := hidQ hlo1
    have HM := hidQ hm
    unfold Mo.val at HTI HDI
    clear hs y0 hn1 hlo1 hm hfi
    rcases Nat.lt_or_ge i N with hlt | hge
    · have HTY : Hid (∀ (W : World), CrsW W W.heap.size (.slice aS n1 cS) (S i) → Calls Try.prog 44 #[.agg #[.slice aS n1 cS, .int .i64 lo1]] W fun e w' => e = .returned (.tuple #[.agg #[.int .i64 m.k, .int .i64 m.x, .int .i64 m.y, .int .i64 m.u, .bool m.ub, .int .i64 m.v, .bool m.vb, .bool m.ov], .bool true]) ∧ Below W.heap.size W w') := (fun W hW => (HTI.out W hW).mono fun e w' hh => by
        rcases hh with ⟨⟨-, h1⟩ | ⟨h1, -⟩, h2⟩
        · exact ⟨h1, h2⟩
        · omega)
      go_upto_region 5 with (go_at_call 44; refine (HTY.out _ HCW.out).mono ?_; rintro e9 w2 ⟨rfl, hb2⟩; have H2 := hidQ hb2; clear hb2 c0 c1)
      obtain ⟨Y, hY⟩ : ∃ Y, w2.alloc (.cells #[.int .i64 m.k, .int .i64 m.x, .int .i64 m.y, .int .i64 m.u, .bool m.ub, .int .i64 m.v, .bool m.vb, .bool m.ov] 28) = Y := ⟨_, rfl⟩
      have h2Y : Below w2.heap.size w2 Y := by rw [← hY]; exact (Below.refl _ _).alloc (Nat.le_refl _) _
      have HKY := hidQ (show Y.heap[w2.heap.size]? = some (.cells #[.int .i64 m.k, .int .i64 m.x, .int .i64 m.y, .int .i64 m.u, .bool m.ub, .int .i64 m.v, .bool m.vb, .bool m.ov] 28 (0, 0)) by rw [← hY]; exact alloc_at rfl)
      have H1Y := hidQ (H2.out.trans (h2Y.mono H2.out.size))
      have HSY := hidQ (HS.out.on H1Y.out)
      have lY : w2.heap.size < Y.heap.size := by rw [← hY]; simp
      rw [hY]
      clear hY h2Y
      have y0 := HSY.out.b0
      rw [HN1.out, HLO1.out] at y0
      have p0 : Y.cell? ⟨w.heap.size, 0, none⟩ = some (.slice aS n1 cS) := block_cell y0 rfl
      have p1 : Y.cell? ⟨w.heap.size, 1, none⟩ = some (.int .i64 lo1) := block_cell y0 rfl
      have lw : w.heap.size < Y.heap.size := (Array.getElem?_eq_some_iff.1 y0).1
      have p2 : Y.cell? ⟨w2.heap.size, 0, none⟩ = some (.int .i64 m.k) := block_cell HKY.out rfl
      have p3 : Y.cell? ⟨w2.heap.size, 1, none⟩ = some (.int .i64 m.x) := block_cell HKY.out rfl
      have p4 : Y.cell? ⟨w2.heap.size, 2, none⟩ = some (.int .i64 m.y) := block_cell HKY.out rfl
      have p5 : Y.cell? ⟨w2.heap.size, 3, none⟩ = some (.int .i64 m.u) := block_cell HKY.out rfl
      have p6 : Y.cell? ⟨w2.heap.size, 4, none⟩ = some (.bool m.ub) := block_cell HKY.out rfl
      have p7 : Y.cell? ⟨w2.heap.size, 5, none⟩ = some (.int .i64 m.v) := block_cell HKY.out rfl
      have p8 : Y.cell? ⟨w2.heap.size, 6, none⟩ = some (.bool m.vb) := block_cell HKY.out rfl
      have p9 : Y.cell? ⟨w2.heap.size, 7, none⟩ = some (.bool m.ov) := block_cell HKY.out rfl
      have HCY := hidQ HSY.out.crs
      rw [HN1.out] at HCY
      obtain ⟨n2, hn2⟩ : ∃ n2, (S (i + 1)).length = n2 := ⟨_, rfl⟩
      obtain ⟨lo2, hlo2⟩ : ∃ lo2, L (i + 1) = lo2 := ⟨_, rfl⟩
      unfold RsAt at HDI
      rw [hn2, hlo2] at HDI
      have HN2 := hidQ hn2
      have HLO2 := hidQ hlo2
      clear y0 hn2 hlo2
      have H1s := HS.out.row.own.lt
      have HQ : Hid (∀ q, (Value.slice a5 i c5).ownBlock = some q → w.heap.size + 2 ≤ q ∧ q < W1.heap.size) := fun q hq => HS.out.row.own.lt q hq
      have hsY := H1Y.out.size
      clear H1s
      go_upto_region 8 with (first
        | (go_at_call 11; refine (HDI.out _ hlt HCY.out).mono ?_; rintro e9 w6 ⟨a2, c2, rfl, ho6, hb6⟩
           have HO6 := hidQ ho6
           have H6 := hidQ hb6
           have HS6 := hidQ (HSY.out.on hb6)
           have y6 := HS6.out.b0
           rw [HN1.out, HLO1.out] at y6
           have g0 := block_cell (i := 0) (v := .slice aS n1 cS) y6 rfl
           have g1 := block_cell (i := 1) (v := .int .i64 lo1) y6 rfl
           have gz0 : w6.frozen? ⟨w.heap.size, 0, none⟩ = false := block_frozen y6
           have gz1 : w6.frozen? ⟨w.heap.size, 1, none⟩ = false := block_frozen y6
           have hs6 := hb6.size
           clear ho6 hb6 y6 p0 p1 p2 p3 p4 p5 p6 p7 p8 p9))
      obtain ⟨Z, hZ⟩ : ∃ Z, (w6.setCell ⟨w.heap.size, 0, none⟩ (.slice a2 n2 c2)).setCell ⟨w.heap.size, 1, none⟩ (.int .i64 lo2) = Z := ⟨_, rfl⟩
      have HSZ : Hid (SfS w Z a2 c2 (S (i + 1)) (L (i + 1)) a5 i c5 ((List.range i).map G)) := (by
        have h1 := HS6.out.put (a2 := a2) (c2 := c2) (D := S (i + 1)) (lo2 := L (i + 1)) (B := Y.heap.size) (by rw [HN2.out]; exact HO6.out) lw
        rw [HN2.out, HLO2.out, hZ] at h1
        rw [HLO2.out]
        exact h1)
      have hgz : w6.grownBy Z (some w.heap.size) := by rw [← hZ]; exact grown_trans (set_grown _ _ _ _) (set_grown _ _ _ _)
      have HOZ : Hid (Z.ownsRow Y.heap.size 71 5 (.slice a2 n2 c2) n2 (crossCells (S (i + 1)))) := (by rw [← hZ]; exact own_two HO6.out lw _ _)
      have HMZ := hidQ ((hgz.block _ (Nat.lt_of_lt_of_le lY hs6) (fun e => by have := Option.some.inj e; have := H2.out.size; have := (Array.getElem?_eq_some_iff.1 HS.out.b0).1; omega)).trans ((H6.out.block _ lY).trans HKY.out))
      rw [hZ]
      clear g0 g1 gz0 gz1 hZ hgz
      have r0 : Z.cell? ⟨w2.heap.size, 0, none⟩ = some (.int .i64 m.k) := block_cell HMZ.out rfl
      have r1 : Z.cell? ⟨w2.heap.size, 1, none⟩ = some (.int .i64 m.x) := block_cell HMZ.out rfl
      have r2 : Z.cell? ⟨w2.heap.size, 2, none⟩ = some (.int .i64 m.y) := block_cell HMZ.out rfl
      have r3 : Z.cell? ⟨w2.heap.size, 3, none⟩ = some (.int .i64 m.u) := block_cell HMZ.out rfl
      have r4 : Z.cell? ⟨w2.heap.size, 4, none⟩ = some (.bool m.ub) := block_cell HMZ.out rfl
      have r5 : Z.cell? ⟨w2.heap.size, 5, none⟩ = some (.int .i64 m.v) := block_cell HMZ.out rfl
      have r6 : Z.cell? ⟨w2.heap.size, 6, none⟩ = some (.bool m.vb) := block_cell HMZ.out rfl
      have r7 : Z.cell? ⟨w2.heap.size, 7, none⟩ = some (.bool m.ov) := block_cell HMZ.out rfl
      have lZ : w2.heap.size < Z.heap.size := (Array.getElem?_eq_some_iff.1 HMZ.out).1
      have HZA := hidQ (show Below Z.heap.size Z (Z.alloc (.cells #[.int .i64 m.k, .int .i64 m.x, .int .i64 m.y, .int .i64 m.u, .bool m.ub, .int .i64 m.v, .bool m.vb, .bool m.ov] 28)) from (Below.refl _ _).alloc (Nat.le_refl _) _)
      have HROW := hidQ (HSZ.out.row.own.alloc (.cells #[.int .i64 m.k, .int .i64 m.x, .int .i64 m.y, .int .i64 m.u, .bool m.ub, .int .i64 m.v, .bool m.vb, .bool m.ov] 28))
      have hbZ : w.heap.size + 2 ≤ Z.heap.size := by have := (Array.getElem?_eq_some_iff.1 HSZ.out.b1).1; omega
      obtain ⟨xs, hxs⟩ : ∃ xs, moCells (((List.range i).map G).map moG) = xs := ⟨_, rfl⟩
      have HXS := hidQ hxs
      rw [hxs] at HROW
      clear hxs
      go_wp2_with (at_builtin; refine wpList_append_own _ rfl _ _ 35 rfl (w.heap.size + 2) 28 i0 (.agg #[.int .i64 0, .int .i64 0, .int .i64 0, .int .i64 0, .bool false, .int .i64 0, .bool false, .bool false]) 8 64 Try.underlying35 hi0 hz0 hz1 hz2 rfl (by decide) _ i xs rfl HROW.out ⟨Z.heap.size, 0, none⟩ 1 1 m.cells rfl rfl (new_cell8 _ _ _ _ _ _ _ _ _ _) (fun u hu => moCells_one [m] u (by simpa [moCells] using hu)) (by unfold maxLen; omega) (by omega) (by simp; omega) ?_; intro v8 w8 hown8 hg8 _; refine Hid.out ?_)
      refine Lib.hid ?_
      have HC8 : Hid (CrsW w8 w8.heap.size (.slice a2 (S (i + 1)).length c2) (S (i + 1))) := (by
        have h1 : w8.ownsRow Y.heap.size 71 5 (.slice a2 n2 c2) n2 (crossCells (S (i + 1))) := by
          refine (own_any HOZ.out (grown_below HZA.out none)).kept hg8 ?_
          cases hv : (Value.slice a2 n2 c2).ownBlock with
          | none => exact Or.inl rfl
          | some q => exact Or.inr (fun e => by have h1 := (HOZ.out.lt q hv).1; have h2 := HQ.out q e.symm; omega)
        rw [← HN2.out] at h1
        have h2 := own_crsW h1
        exact h2)
      have h0 := HM.out
      subst h0
      rw [← HXS.out] at hown8
      obtain ⟨a9, c9, rfl, h9⟩ := (HSZ.out.on HZA.out).app hg8 hown8 HC8.out
      have H9 : Hid (SfS w w8 a2 c2 (S (i + 1)) (L (i + 1)) a9 (i + 1) c9 ((List.range (i + 1)).map G)) := (by
        rw [List.range_succ, List.map_append]
        exact h9)
      clear hown8 hg8 h9
      go_wp2
      go_roundw
      case rel => exact ⟨i + 1, a2, a9, c2, c9, hlt, rfl, H9⟩
      case measure => simp only [lenV]; omega
    · obtain rfl : i = N := by omega
      have HTN : Hid (∀ (W : World), CrsW W W.heap.size (.slice aS n1 cS) (S i) → Calls Try.prog 44 #[.agg #[.slice aS n1 cS, .int .i64 lo1]] W fun e w' => e = .returned (.tuple #[.agg #[.int .i64 0, .int .i64 0, .int .i64 0, .int .i64 0, .bool false, .int .i64 0, .bool false, .bool false], .bool false]) ∧ Below W.heap.size W w') := (fun W hW => (HTI.out W hW).mono fun e w' hh => by
        rcases hh with ⟨⟨h1, -⟩ | ⟨-, h1⟩, h2⟩
        · omega
        · exact ⟨h1, h2⟩)
      go_upto_region 5 with (go_at_call 44; refine (HTN.out _ HCW.out).mono ?_; rintro e9 w2 ⟨rfl, hb2⟩; have H2 := hidQ hb2; clear hb2 c0 c1)
      obtain ⟨Y, hY⟩ : ∃ Y, w2.alloc (.cells #[.int .i64 0, .int .i64 0, .int .i64 0, .int .i64 0, .bool false, .int .i64 0, .bool false, .bool false] 28) = Y := ⟨_, rfl⟩
      have h2Y : Below w2.heap.size w2 Y := by rw [← hY]; exact (Below.refl _ _).alloc (Nat.le_refl _) _
      have HSY := hidQ (HS.out.on (H2.out.trans (h2Y.mono H2.out.size)))
      rw [hY]
      clear hY h2Y
      have y0 := HSY.out.b0
      rw [HN1.out, HLO1.out] at y0
      have p0 : Y.cell? ⟨w.heap.size, 0, none⟩ = some (.slice aS n1 cS) := block_cell y0 rfl
      have p1 : Y.cell? ⟨w.heap.size, 1, none⟩ = some (.int .i64 lo1) := block_cell y0 rfl
      have y1 := hidQ HSY.out.b1
      have q0 : Y.cell? ⟨w.heap.size + 1, 0, none⟩ = some (.slice none 0 0) := block_cell y1.out rfl
      have q1 : Y.cell? ⟨w.heap.size + 1, 1, none⟩ = some (.int .i64 0) := block_cell y1.out rfl
      have f0 : Y.frozen? ⟨w.heap.size + 1, 0, none⟩ = false := block_frozen y1.out
      have f1 : Y.frozen? ⟨w.heap.size + 1, 1, none⟩ = false := block_frozen y1.out
      clear y0
      go_wp2
      have hg := grown_trans (set_grown Y (w.heap.size + 1) 0 (.slice aS n1 cS)) (set_grown (Y.setCell ⟨w.heap.size + 1, 0, none⟩ (.slice aS n1 cS)) (w.heap.size + 1) 1 (.int .i64 lo1))
      refine bodyPost_ret (res_sf (set_block (set_block y1.out)) rfl rfl rfl) rfl ?_
      refine ⟨aS, cS, a5, c5, by rw [HN1.out, HLO1.out]; rfl, ?_, ⟨HSY.out.row.len, own_low (own_two HSY.out.row.own (by omega) _ _) (by omega)⟩, HSY.out.low.grown hg HSY.out.low.size (fun q hq => by have := Option.some.inj hq; omega)⟩
      exact (crsW_put HSY.out.crs y1.out hg).crs (HFEW.out i hiN)
end Go.Proofs.Ytagaajlbkfkaiaa
/- Two moves that are the same, compared; what both make of a diagram, side by side. -/
namespace Go.Proofs.Ytagaajlbkfkaiaa
open Go.RowKit

theorem eqDartM (a : Int) (b : Bool) (w : World) : (Op.equalIn 9999 26 (.agg #[.int .i64 a, .bool b]) (.agg #[.int .i64 a, .bool b])).run Try.prog w = .ok true w := by
  have u3 := Try.underlying3
  have a3 := Try.isAgg3
  have z3 := Try.sizeOf3
  have u4 := Try.underlying4
  have a4 := Try.isAgg4
  have z4 := Try.sizeOf4
  have hS : Try.prog.underlying 26 = some (.struct (Try.prog.fieldsOf 26)) := by kernel_rfl
  have hp : Try.prog.stoodInHeld 26 = false := by kernel_rfl
  rw [show (9999 : Nat) = 9998 + 1 from rfl, run_equalIn_agg w 9998 26 _ _ hS hp]
  simp only [Program.fieldsOf, Try.underlying26]
  go_simp
theorem eqMove (m : Mo) (w : World) : (Op.equalIn 10000 28 m.val m.val).run Try.prog w = .ok true w := by
  have u3 := Try.underlying3
  have a3 := Try.isAgg3
  have z3 := Try.sizeOf3
  have u4 := Try.underlying4
  have a4 := Try.isAgg4
  have z4 := Try.sizeOf4
  have a5 := Try.isAgg26
  have z5 := Try.sizeOf26
  have hd := fun (a : Int) (b : Bool) (w : World) => eqDartM a b w
  have hS : Try.prog.underlying 28 = some (.struct (Try.prog.fieldsOf 28)) := by kernel_rfl
  have hp : Try.prog.stoodInHeld 28 = false := by kernel_rfl
  unfold Mo.val
  rw [show (10000 : Nat) = 9999 + 1 from rfl, run_equalIn_agg w 9999 28 _ _ hS hp]
  simp only [Program.fieldsOf, Try.underlying28]
  go_simp
/-- Whatever diagram: both make the same of it. -/
theorem takes_both (C : List Cr) (loops : Int) : ∃ (D : List Cr) (lo : Int) (N : Nat) (L : List (List Nat)) (ce : Int),
    (∀ (a : Option Addr) (cap : Nat) (w : World), Crs w w.heap.size (.slice a C.length cap) C → Calls Try.prog 15 #[.agg #[.slice a C.length cap, .int .i64 loops]] w fun e w' => SimOut w D lo N L ce e w') ∧
    (∀ (a : Option Addr) (cap : Nat) (w : World), C.length ≤ maxLen → CrsW w w.heap.size (.slice a C.length cap) C → Calls Try.prog 16 #[.agg #[.slice a C.length cap, .int .i64 loops]] w fun e w' => SimOut w D lo N L ce e w') := by
  cases hn : (mayD C loops && planarB C) with
  | false => exact ⟨[], 0, 0, [], 7, fun a cap w h => simple_no a cap C loops w h hn, fun a cap w hl h => simpleOf_no a cap C loops w hl h hn⟩
  | true =>
    rw [Bool.and_eq_true] at hn
    obtain ⟨N, S, L, G, e1, e2, hR⟩ := road_tk C.length C loops (Nat.le_refl _) hn.1 hn.2
    subst e1 e2
    exact ⟨S N, L N, N, (List.range N).map G, 0, fun a cap w h => simple_yes a cap w N S L G hR h, fun a cap w _ h => simpleOf_yes a cap w N S L G hR h⟩
end Go.Proofs.Ytagaajlbkfkaiaa
/- The law MovesTake: its walk. -/
namespace Go.Proofs.Ytagaajlbkfkaiaa
open Go.RowKit

theorem sltk_crs {w : World} {B : Nat} {v : Value} {C : List Cr} (h : CrsW w B v C) : ∃ a c, v = .slice a C.length c := by
  rcases h with ⟨rfl, rfl⟩ | ⟨ad, cap, rfl, rfl⟩ | ⟨b, off, cap, rfl, -, -⟩
  · exact ⟨_, _, rfl⟩
  · exact ⟨_, _, rfl⟩
  · exact ⟨_, _, rfl⟩
/-- A row of moves, to be read. -/
theorem TkO.mvs {W : World} {B : Nat} {a : Option Addr} {k c : Nat} {L : List (List Nat)} (h : TkO W B a k c L) : Mvs W W.heap.size (.slice a k c) (L.map moG) := by
  have h1 := own_in h.own
  have hl : (L.map moG).length = k := by rw [List.length_map]; exact h.len
  rw [← hl] at h1
  have h2 := h1.mvs (by rw [hl]; exact own_fewQ h.own)
  rw [hl] at h2
  exact h2
theorem Mvs.at_ {W : World} {a : Option Addr} {k c : Nat} {ms : List Mo} {i : Nat} (h : Mvs W W.heap.size (.slice a k c) ms) (hk : i < ms.length) : ∃ b off, a = some ⟨b, off, none⟩ ∧ b < W.heap.size ∧ MoAt W b off ms := by
  obtain ⟨a', c', e, -, g⟩ := h
  injection e with e1 e2 e3
  obtain ⟨b, off, e4, h1, h2⟩ := g (by omega)
  exact ⟨b, off, e1.trans e4, h1, h2⟩

set_option maxHeartbeats 16000000 in
set_option maxRecDepth 100000 in
theorem movesTake_any (v : Value) (C : List Cr) (loops : Int) (w : World) (hl : C.length * 40 ≤ 140737488355328) (h : CrsW w w.heap.size v C) :
    Calls Try.prog 5 #[.agg #[v, .int .i64 loops]] w fun e w' => e = .returned (.bool true) ∧ Below w.heap.size w w' := by
  obtain ⟨a, cap, rfl⟩ := sltk_crs h
  obtain ⟨D, lo, N, L, ce, hp1, hp2⟩ := takes_both C loops
  have hmx : C.length ≤ maxLen := by unfold maxLen; omega
  have HP1 := hidQ hp1
  have HP2 := hidQ (fun (a : Option Addr) (cap : Nat) (w : World) hW => hp2 a cap w hmx hW)
  have HL := hidQ hl
  obtain ⟨n, hn⟩ : ∃ n, C.length = n := ⟨_, rfl⟩
  obtain ⟨nD, hnD⟩ : ∃ nD, D.length = nD := ⟨_, rfl⟩
  unfold SimOut at HP1 HP2
  rw [hn] at HP1 HP2
  rw [hnD] at HP1 HP2
  rw [hn]
  have HN := hidQ hn
  have HND := hidQ hnD
  obtain ⟨V, hV⟩ : ∃ V, w.alloc (.cells #[.slice a n cap, .int .i64 loops] 24) = V := ⟨_, rfl⟩
  have hB : Below w.heap.size w V := by rw [← hV]; exact (Below.refl _ _).alloc (Nat.le_refl _) _
  have hk : V.heap[w.heap.size]? = some (.cells #[.slice a n cap, .int .i64 loops] 24 (0, 0)) := by rw [← hV]; exact alloc_at rfl
  have HV := hidQ hV
  have HB := hidQ hB
  have HK := hidQ hk
  have HCW : Hid (∀ W, Below V.heap.size V W → CrsW W W.heap.size (.slice a n cap) C) := (fun W hW => by rw [← HN.out]; exact (h.up HB.out).up hW)
  have HDG : Hid (∀ W, Below V.heap.size V W → Calls Try.prog 10 #[.agg #[.slice a n cap, .int .i64 loops]] W fun e w' => ∃ a2 c2, e = .returned (.agg #[.slice a2 n c2, .int .i64 loops]) ∧ Crs w' w'.heap.size (.slice a2 n c2) C ∧ Below W.heap.size W w') := (fun W hW => (diagramOf_any _ C loops W HL.out (HCW.out W hW)).mono fun e w' ⟨v1, h1, h2, h3⟩ => by
    obtain ⟨a1, cp1, rfl, h4, h5⟩ := h2
    rw [← HN.out]
    exact ⟨a1, cp1, h1, ⟨a1, cp1, rfl, h4, h5⟩, h3⟩)
  have c0 : V.cell? ⟨w.heap.size, 0, none⟩ = some (.slice a n cap) := block_cell hk rfl
  have c1 : V.cell? ⟨w.heap.size, 1, none⟩ = some (.int .i64 loops) := block_cell hk rfl
  have l0 : w.heap.size < V.heap.size := (Array.getElem?_eq_some_iff.1 hk).1
  clear hV hp1 hp2 h hl hB hk hn hnD hmx
  go_enter Try.func5, Try.ntmps5
  go_upto_region 1 with (fail)
  rw [HV.out]
  go_upto_region 2 with (first
    | (go_at_call 10; refine (HDG.out _ (Below.refl _ _)).mono ?_; rintro e9 w1 ⟨a1, cp1, rfl, hc1, hb1⟩
       have HC1 := hidQ hc1
       have HB1 := hidQ hb1
       have hs1 := hb1.size
       clear hb1 hc1 c0 c1)
    | (go_at_call 15; refine (HP1.out a1 cp1 _ HC1.out).mono ?_; rintro e9 w9 ⟨aS, cS, a8, c8, rfl, hc9, ht9, hb9⟩
       have HC9 := hidQ hc9
       have HT9 := hidQ ht9
       have HB9 := hidQ (HB1.out.trans (hb9.mono hs1))
       clear hc9 ht9 hb9))
  obtain ⟨Y, hY⟩ : ∃ Y, w9.alloc (.cells #[.slice aS nD cS, .int .i64 lo] 24) = Y := ⟨_, rfl⟩
  have hBY : Below w9.heap.size w9 Y := by rw [← hY]; exact (Below.refl _ _).alloc (Nat.le_refl _) _
  have HKY := hidQ (show Y.heap[w9.heap.size]? = some (.cells #[.slice aS nD cS, .int .i64 lo] 24 (0, 0)) by rw [← hY]; exact alloc_at rfl)
  have lY : w9.heap.size < Y.heap.size := by rw [← hY]; simp
  have HCY := hidQ (HC9.out.up hBY)
  have HTY := hidQ (HT9.out.any (grown_below hBY none))
  have HVY := hidQ (HB9.out.trans (hBY.mono HB9.out.size))
  have kv := (HVY.out.block _ l0).trans HK.out
  have p0 : Y.cell? ⟨w.heap.size, 0, none⟩ = some (.slice a n cap) := block_cell kv rfl
  have p1 : Y.cell? ⟨w.heap.size, 1, none⟩ = some (.int .i64 loops) := block_cell kv rfl
  rw [hY]
  clear hY hBY kv
  go_upto_region 3 with (first
    | (go_at_call 16; refine (HP2.out a cap _ (HCW.out _ HVY.out)).mono ?_; rintro e9 w5 ⟨aT, cT, a7, c7, rfl, hc5, ht5, hb5⟩
       have HC5 := hidQ hc5
       have HT5 := hidQ ht5
       have HB5 := hidQ hb5
       have hs5 := hb5.size
       clear hc5 ht5 hb5 p0 p1))
  obtain ⟨X, hX⟩ : ∃ X, w5.alloc (.cells #[.slice aT nD cT, .int .i64 lo] 24) = X := ⟨_, rfl⟩
  have hBX : Below w5.heap.size w5 X := by rw [← hX]; exact (Below.refl _ _).alloc (Nat.le_refl _) _
  have hKX : X.heap[w5.heap.size]? = some (.cells #[.slice aT nD cT, .int .i64 lo] 24 (0, 0)) := by rw [← hX]; exact alloc_at rfl
  have HYX := hidQ (HB5.out.trans (hBX.mono hs5))
  have HC1' := hidQ (HCY.out.up HYX.out)
  have HC2' := hidQ (HC5.out.up hBX)
  have HT1' := hidQ (HTY.out.any (grown_below HYX.out none))
  have HT2' := hidQ (HT5.out.any (grown_below hBX none))
  have q5 := (HYX.out.block _ lY).trans HKY.out
  have s0 : X.cell? ⟨w9.heap.size, 0, none⟩ = some (.slice aS nD cS) := block_cell q5 rfl
  have s1 : X.cell? ⟨w9.heap.size, 1, none⟩ = some (.int .i64 lo) := block_cell q5 rfl
  have t0 : X.cell? ⟨w5.heap.size, 0, none⟩ = some (.slice aT nD cT) := block_cell hKX rfl
  have t1 : X.cell? ⟨w5.heap.size, 1, none⟩ = some (.int .i64 lo) := block_cell hKX rfl
  have hce : (ce == ce) = true := beq_self_eq_true ce
  have HSD : Hid (Calls Try.prog 12 #[.agg #[.slice aS nD cS, .int .i64 lo], .agg #[.slice aT nD cT, .int .i64 lo]] X fun e w' => e = .returned (.bool true) ∧ Below X.heap.size X w') := (by
    have h1 := HC1'.out
    have h2 := HC2'.out
    exact sameDiagram_eq _ _ D lo _ h1 h2)
  have hN : N ≤ 9223372036854775807 := by have := own_fewQ HT1'.out.own; unfold maxLen at this; omega
  rw [hX]
  clear q5 hX hKX hBX
  go_upto_region 5 with (first
    | (go_at_call 12; refine HSD.out.mono ?_; rintro e9 w7 ⟨rfl, hb7⟩
       have H7 := hidQ hb7
       clear hb7 s0 s1 t0 t1))
  have HM1 := hidQ ((HT1'.out.any (grown_below H7.out none)).mvs)
  have HM2 := hidQ ((HT2'.out.any (grown_below H7.out none)).mvs)
  have hlen : (L.map moG).length = N := by rw [List.length_map]; exact HT1'.out.len
  have HLEN := hidQ hlen
  obtain ⟨ms, hms⟩ : ∃ ms, L.map moG = ms := ⟨_, rfl⟩
  rw [hms] at HM1 HM2 HLEN
  have HFIN := hidQ (HB.out.trans ((HVY.out.trans ((HYX.out.trans (H7.out.mono HYX.out.size)).mono HVY.out.size)).mono HB.out.size))
  clear hlen hms hce
  go_wp2
  go_loopw [9] (fun v9 wr => ∃ (i : Nat), i ≤ N ∧ v9 = .int .i64 (i : Nat) ∧ Hid (Below w7.heap.size w7 wr)) (fun v9 _ => N - (intOf v9).toNat)
  case atStart => exact ⟨0, Nat.zero_le _, rfl, Below.refl _ _⟩
  case round =>
    rename World => W1
    obtain ⟨i, hiN, rfl, hb⟩ := hrel
    have HBW := hidQ hb.out
    clear hb
    by_cases hil : i < N
    · obtain ⟨b1, o1, rfl, hb1, hm1⟩ := HM1.out.at_ (i := i) (by rw [HLEN.out]; exact hil)
      obtain ⟨b2, o2, rfl, hb2, hm2⟩ := HM2.out.at_ (i := i) (by rw [HLEN.out]; exact hil)
      have g1 := (hm1.on HBW.out hb1) i (by rw [HLEN.out]; exact hil)
      have g2 := (hm2.on HBW.out hb2) i (by rw [HLEN.out]; exact hil)
      obtain ⟨m, hm⟩ : ∃ m, ms.getD i Mo.none = m := ⟨_, rfl⟩
      rw [hm] at g1 g2
      have heq := eqMove m
      unfold Mo.val at heq
      have hi0 : (0 : Int) ≤ (i : Int) := by omega
      have hiN' : (i : Int) < (N : Int) := by omega
      have lb1 : b1 < W1.heap.size := Nat.lt_of_lt_of_le hb1 HBW.out.size
      have lb2 : b2 < W1.heap.size := Nat.lt_of_lt_of_le hb2 HBW.out.size
      clear hm1 hm2 hm
      go_wp2
      go_quiet (fail)
      go_wp2
      go_roundw
      case rel => exact ⟨i + 1, by omega, by go_num, below_drewN HBW.out _⟩
      case measure => simp only [intOf]; omega
    · obtain rfl : i = N := by omega
      go_wp2
      go_ret
      exact ⟨rfl, HFIN.out.trans (HBW.out.mono HFIN.out.size)⟩
end Go.Proofs.Ytagaajlbkfkaiaa

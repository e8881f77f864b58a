/- The walk of ref.BracketOf. -/
import Derived.Test.YtihijieciogabaaDoorBKsP
import Derived.Test.YtihijieciogabaaDoorBKpP
import Derived.Test.YtihijieciogabaaDoorBKa
namespace Go.Proofs.YtihijieciogabaaDoor.Poly
open Go.RowKit Go.Maps

/-- What a state of r rings at place e is worth. -/
def tmT (n : Nat) (y : Int) (r e : Nat) : Int := dlN (r - 1) oneA (y - ((e : Int) - n))
def gY (C : List Cr) (lo wide S R E : Nat) : Int → Int := fun y => gP C lo wide S (tmT C.length y) R E
theorem gY_all {C : List Cr} {lo : Nat} (hm : mayD C (lo : Nat) = true) (h12 : C.length ≤ 12) : gY C lo (2 * C.length + lo + 1) (2 ^ C.length) (2 * C.length + lo) 0 = brS C lo := by
  funext y
  have h := gP_all C lo (2 * C.length + lo + 1) (tmT C.length y) (2 ^ C.length) fun s _ => rg_may hm h12 s
  show gP C lo (2 * C.length + lo + 1) (2 ^ C.length) (tmT C.length y) (2 * C.length + lo) 0 = _
  rw [show 2 * C.length + lo + 1 - 1 = 2 * C.length + lo by omega] at h
  rw [h]
  refine sumS_congr fun s _ => ?_
  unfold tmT shA
  rw [(ixE_le C.length s).2, show exS s C.length + (C.length : Int) - (C.length : Int) = exS s C.length by omega]
theorem mul_in {f : Int → Int} {K : Nat} (c : Int) (h : InA f K) : InA (fun y => c * f y) K := by
  intro y hy
  refine h y fun e => hy ?_
  show c * f y = 0
  rw [e, Int.mul_zero]
theorem tm_in {n r e : Nat} (hn : n ≤ 12) (hr : r ≤ 40) (he : e ≤ 2 * n) : InA (fun y => tmT n y r e) 90 := by
  intro y hy
  have := InA.one.dlN (r - 1) _ hy
  omega
theorem gY_in {C : List Cr} {lo wide S R E : Nat} (hn : C.length ≤ 12) (hR : R ≤ 39) (hE : E ≤ 2 * C.length + 1) : InA (gY C lo wide S R E) 90 := by
  have h1 : InA (fun y => sumS R fun r => sumS (2 * C.length + 1) fun e => (cq C lo wide S (e * wide + (r + 1)) : Int) * tmT C.length y (r + 1) e) 90 :=
    sum_in (F := fun r y => sumS (2 * C.length + 1) fun e => (cq C lo wide S (e * wide + (r + 1)) : Int) * tmT C.length y (r + 1) e) fun r hr => sum_in (F := fun e y => (cq C lo wide S (e * wide + (r + 1)) : Int) * tmT C.length y (r + 1) e) fun e he => mul_in _ (tm_in hn (by omega) (by omega))
  · have h2 : InA (fun y => sumS E fun e => (cq C lo wide S (e * wide + (R + 1)) : Int) * tmT C.length y (R + 1) e) 90 := sum_in (F := fun e y => (cq C lo wide S (e * wide + (R + 1)) : Int) * tmT C.length y (R + 1) e) fun e he => mul_in _ (tm_in hn (by omega) (by omega))
    exact add_in h1 h2
theorem coef_once {l : List (Int × Int)} {H : Nat} (hp : l.Pairwise fun a b => a.1 < b.1) (hb : ∀ t ∈ l, (t.2).natAbs ≤ H) (z : Int) : (coefL l z).natAbs ≤ H := by
  induction l with
  | nil => exact Nat.zero_le _
  | cons t l ih =>
    rw [List.pairwise_cons] at hp
    show ((if t.1 = z then t.2 else 0) + coefL l z).natAbs ≤ H
    by_cases e : t.1 = z
    · have h0 : coefL l z = 0 := by
        have : ∀ m : List (Int × Int), (∀ s ∈ m, s.1 ≠ z) → coefL m z = 0 := by
          intro m
          induction m with
          | nil => intro _; rfl
          | cons s m ihm => intro h; show (if s.1 = z then s.2 else 0) + coefL m z = 0; rw [if_neg (h s List.mem_cons_self), ihm fun u hu => h u (List.mem_cons_of_mem _ hu)]; rfl
        exact this l fun s hs => by have := hp.1 s hs; omega
      rw [if_pos e, h0, Int.add_zero]; exact hb t List.mem_cons_self
    · rw [if_neg e, Int.zero_add]; exact ih hp.2 fun s hs => hb s (List.mem_cons_of_mem _ hs)
theorem row_ok {C : List Cr} {lo wide R E : Nat} {out p : List (Int × Int)} (hm : mayD C (lo : Nat) = true) (h12 : C.length ≤ 12) (hw : wide = 2 * C.length + lo + 1) (hlo : lo ≤ 16) (hR : R < 2 * C.length + lo) (hE : E < 2 * C.length + 1)
    (hout : Canon out (gY C lo wide (2 ^ C.length) R E)) (hp : Canon p (dlN R oneA)) (k : Nat) (hk : k ≤ p.length) :
    (rowTo out p ((E : Int) - C.length, (cq C lo wide (2 ^ C.length) (E * wide + (R + 1)) : Int)) k).length ≤ 100000 ∧ ∀ t ∈ rowTo out p ((E : Int) - C.length, (cq C lo wide (2 ^ C.length) (E * wide + (R + 1)) : Int)) k, -1000000000000000 ≤ t.2 ∧ t.2 ≤ 1000000000000000 := by
  have hin := gY_in (C := C) (lo := lo) (wide := wide) (S := 2 ^ C.length) (R := R) (E := E) h12 (by omega) (by omega)
  have hl := canon_len1 hout 90 hin
  have hpin : InA (dlN R oneA) (2 * R) := by have := InA.one.dlN R; simpa using this
  have hpl := canon_len1 hp (2 * R) hpin
  have hsup := fun y => dl_sup R (by omega) y
  have hpt := canon_terms hp hpin hsup
  refine ⟨?_, fun t ht => ?_⟩
  · have := rowTo_length out p ((E : Int) - C.length, (cq C lo wide (2 ^ C.length) (E * wide + (R + 1)) : Int)) k
    omega
  · have hr := rowTo_canon hout ((E : Int) - C.length, (cq C lo wide (2 ^ C.length) (E * wide + (R + 1)) : Int)) k hk
    have h1 := (hr.2 t.1 t.2).1 ht
    have h2 : (t.2).natAbs ≤ 1000000000000000 := by
      rw [← h1.1]
      have g := gP_bd C lo wide (2 ^ C.length) (tmT C.length t.1) 206158430208 R E (fun r e hr => dl_sup _ (by omega) _)
      have c1 := coef_once (hp.1.sublist (List.take_sublist k p)) (H := 206158430208) (fun s hs => by have := hpt s (List.mem_of_mem_take hs); omega) (t.1 - ((E : Int) - C.length))
      have c2 := mul_sup (c := cq C lo wide (2 ^ C.length) (E * wide + (R + 1))) c1
      have n1 := nP_le C lo wide (2 ^ C.length) (fun s _ => by rw [hw]; exact rg_may hm h12 s) (R := R) (E := E + 1) (by omega) (by omega)
      have n2 : nP C lo wide (2 ^ C.length) R (E + 1) = nP C lo wide (2 ^ C.length) R E + (cq C lo wide (2 ^ C.length) (E * wide + (R + 1)) : Int) * 1 := gP_next _ _ _ _ _ _ _
      have n3 : (2 : Nat) ^ C.length ≤ 2 ^ 12 := Nat.pow_le_pow_right (by omega) h12
      have n4 : nP C lo wide (2 ^ C.length) R (E + 1) ≤ 4096 := by
        have : ((2 ^ C.length : Nat) : Int) ≤ 4096 := by have : (2 : Nat) ^ 12 = 4096 := by decide
                                                         omega
        omega
      show (gP C lo wide (2 ^ C.length) (tmT C.length t.1) R E + (cq C lo wide (2 ^ C.length) (E * wide + (R + 1)) : Int) * coefL (p.take k) (t.1 - ((E : Int) - C.length))).natAbs ≤ 1000000000000000
      omega
    omega

/-- The counts as they lie in memory. -/
def cqL (C : List Cr) (lo wide M S : Nat) : List Nat := (List.range M).map (cq C lo wide S)
theorem cqL_len (C : List Cr) (lo wide M S : Nat) : (cqL C lo wide M S).length = M := by simp [cqL]
theorem cqL_at {C : List Cr} {lo wide M S q : Nat} (h : q < M) : (cqL C lo wide M S).getD q 0 = cq C lo wide S q := by
  unfold cqL
  rw [List.getD_eq_getElem?_getD, List.getElem?_map, List.getElem?_range h]; rfl
theorem cqL_set (C : List Cr) (lo wide M S : Nat) : (cqL C lo wide M S).set (ixS C lo wide S) (cq C lo wide S (ixS C lo wide S) + 1) = cqL C lo wide M (S + 1) := by
  unfold cqL
  apply List.ext_getElem?
  intro i
  rw [List.getElem?_set]
  by_cases hi : i < M
  · by_cases e : ixS C lo wide S = i
    · subst e
      rw [if_pos rfl, if_pos (by simp; exact hi), List.getElem?_map, List.getElem?_range hi]
      show _ = some (cq C lo wide S _ + (if _ = _ then 1 else 0))
      rw [if_pos rfl]
    · rw [if_neg e, List.getElem?_map, List.getElem?_map, List.getElem?_range hi]
      show some _ = some (cq C lo wide S i + (if ixS C lo wide S = i then 1 else 0))
      rw [if_neg e]; rfl
  · have n1 : ((List.range M).map (cq C lo wide (S + 1)))[i]? = none := List.getElem?_eq_none (by simp; omega)
    have n2 : ((List.range M).map (cq C lo wide S))[i]? = none := List.getElem?_eq_none (by simp; omega)
    rw [n1, n2]
    by_cases e : ixS C lo wide S = i
    · rw [if_pos e, if_neg (by simp; omega)]
    · rw [if_neg e]
theorem cqL_zero (C : List Cr) (lo wide M : Nat) : List.replicate M 0 = cqL C lo wide M 0 := by
  unfold cqL
  have : cq C lo wide 0 = fun _ => 0 := rfl
  rw [this, List.map_const', List.length_range]
theorem cq_le (C : List Cr) (lo wide : Nat) : ∀ S q, cq C lo wide S q ≤ S
  | 0, _ => Nat.le_refl _
  | S + 1, q => by
    have := cq_le C lo wide S q
    show cq C lo wide S q + (if _ then 1 else 0) ≤ S + 1
    split <;> omega
structure BoSt (w : World) (a : Option Addr) (cap : Nat) (C : List Cr) (lo M : Nat) (L : List Nat) (W : World) : Prop where
  box : W.heap[w.heap.size]? = some (.cells #[.slice a C.length cap, .int .i64 (lo : Nat)] 24 (0, 0))
  own : W.ownsRow (w.heap.size + 1) 3 1 (.slice (some ⟨w.heap.size + 1, 0, none⟩) M M) M (nats L)
  bel : Below w.heap.size w W
theorem BoSt.any {w W W' : World} {a : Option Addr} {cap : Nat} {C : List Cr} {lo M : Nat} {L : List Nat} (h : BoSt w a cap C lo M L W) (hb : Below W.heap.size W W') : BoSt w a cap C lo M L W' :=
  ⟨(hb.block _ (Array.getElem?_eq_some_iff.1 h.box).1).trans h.box, Go.Proofs.YtihijieciogabaaDoor.own_any h.own (grown_below hb none), h.bel.trans (hb.mono h.bel.size)⟩
theorem BoSt.put {w W W' : World} {a : Option Addr} {cap : Nat} {C : List Cr} {lo M : Nat} {L L' : List Nat} (h : BoSt w a cap C lo M L W) (ho : W'.ownsRow (w.heap.size + 1) 3 1 (.slice (some ⟨w.heap.size + 1, 0, none⟩) M M) M (nats L')) (hg : W.grownBy W' (some (w.heap.size + 1))) : BoSt w a cap C lo M L' W' :=
  ⟨(hg.block _ (Array.getElem?_eq_some_iff.1 h.box).1 (fun e => by have := Option.some.inj e; omega)).trans h.box, ho, h.bel.grown hg h.bel.size (fun j hj => by cases hj; omega)⟩

set_option maxHeartbeats 16000000 in
set_option maxRecDepth 100000 in
theorem bracketOfR_any (a : Option Addr) (cap : Nat) (C : List Cr) (lo : Nat) (w : World) (hm : mayD C (lo : Nat) = true) (h12 : C.length ≤ 12) (hC : Crs w w.heap.size (.slice a C.length cap) C) :
    Calls Tryd.prog 10 #[.agg #[.slice a C.length cap, .int .i64 (lo : Nat)]] w fun e w' => ∃ v l, e = .returned v ∧ PolyC w' w'.heap.size v l ∧ Canon l (brS C lo) ∧ Below w.heap.size w w' := by
  obtain ⟨s1, s2, s3, s4⟩ := sizeB_iff (may_size hm)
  obtain ⟨i2, hk, hx0, hx1, hx2⟩ := info_parts infoInt
  have HM := hid_mkP hm
  have HC := hid_mkP hC
  have hlo : lo ≤ 16 := by omega
  have HGA := hid_mkP (gY_all hm h12)
  have HRO : Hid (∀ s W, s < 4096 → Below w.heap.size w W → Calls Tryd.prog 21 #[.agg #[.slice a C.length cap, .int .i64 (lo : Nat)], .int .i64 (s : Nat)] W fun e w' => e = .returned (.int .i64 (rgS C lo s : Nat)) ∧ Below W.heap.size W w') := fun s W hs hW => ringsOf_any a cap C lo s W hm h12 hs (hC.up hW)
  obtain ⟨wd, hwd⟩ : ∃ X, 2 * C.length + lo + 1 = X := ⟨_, rfl⟩
  obtain ⟨M, hM⟩ : ∃ X, (2 * C.length + 1) * wd = X := ⟨_, rfl⟩
  obtain ⟨P, hP⟩ : ∃ X, 2 ^ C.length = X := ⟨_, rfl⟩
  have hP12 : P ≤ 4096 := by rw [← hP]; exact Nat.le_trans (Nat.pow_le_pow_right (by omega) h12) (by decide)
  have hwb : wd ≤ 41 := by omega
  have hMb : M ≤ 25 * 41 := by rw [← hM]; exact Nat.mul_le_mul (by omega) hwb
  have HRG : Hid (∀ s, 1 ≤ rgS C lo s ∧ rgS C lo s < wd) := fun s => by rw [← hwd]; exact rg_may hm h12 s
  have HIX : Hid (∀ s, ixS C lo wd s < M ∧ ixE C.length s * wd ≤ 1025) := fun s => by
    have h1 := (ixE_le C.length s).1
    have h2 := HRG.out s
    have h3 : ixE C.length s * wd ≤ 2 * C.length * wd := Nat.mul_le_mul_right _ h1
    have h4 : (2 * C.length + 1) * wd = 2 * C.length * wd + wd := by rw [Nat.add_mul, Nat.one_mul]
    unfold ixS
    omega
  have q1 : IntKind.i64.wrap (2 * (C.length : Int)) = 2 * (C.length : Int) := IntWalk.i64_in _ (by omega)
  have q2 : IntKind.i64.wrap (2 * (C.length : Int) + 1) = 2 * (C.length : Int) + 1 := IntWalk.i64_in _ (by omega)
  have q3 : IntKind.i64.wrap (2 * (C.length : Int) + (lo : Int)) = 2 * (C.length : Int) + (lo : Int) := IntWalk.i64_in _ (by omega)
  have q4 : IntKind.i64.wrap (2 * (C.length : Int) + (lo : Int) + 1) = (wd : Int) := by rw [IntWalk.i64_in _ (by omega)]; omega
  have q5 : IntKind.i64.wrap ((2 * (C.length : Int) + 1) * (wd : Int)) = (M : Int) := by
    have e : (2 * (C.length : Int) + 1) * (wd : Int) = (M : Int) := by rw [← hM, Int.natCast_mul]; congr 1
    rw [e]; exact IntWalk.i64_in _ (by omega)
  have q6 : wrap64 (2 ^ C.length) = (P : Int) := by
    have e : ((2 : Int) ^ C.length) = (P : Int) := by rw [← hP]; norm_cast
    rw [e]; unfold wrap64; omega
  have HWD := hid_mkP hwd
  have HME := hid_mkP hM
  have HPP := hid_mkP hP
  clear hm hC hwd hM hP
  obtain ⟨w0, hw0⟩ : ∃ w0, w0 = w.alloc (.cells #[.slice a C.length cap, .int .i64 (lo : Nat)] 24) := ⟨_, rfl⟩
  have HW0 := hid_mkP hw0
  have hs0 : w0.heap.size = w.heap.size + 1 := by rw [hw0]; simp
  have HB0 : Hid (Below w.heap.size w w0) := (by rw [hw0]; exact (Below.refl _ _).alloc (Nat.le_refl _) _ : Below w.heap.size w w0)
  have HT0 : Hid (w0.heap[w.heap.size]? = some (.cells #[.slice a C.length cap, .int .i64 (lo : Nat)] 24 (0, 0))) := (by rw [hw0]; exact alloc_at rfl : w0.heap[w.heap.size]? = some (.cells #[.slice a C.length cap, .int .i64 (lo : Nat)] 24 (0, 0)))
  clear hw0
  go_enter Tryd.func10, Tryd.ntmps10
  go_wp2_with (first | (at_make; refine wpList_make_full _ rfl _ _ 57 rfl (w.heap.size + 1) 3 i2 (.int .i64 0) 1 Tryd.underlying57 hk hx0 hx1 .i64 .i64 _ _ M rfl rfl rfl rfl (by rw [hx2]; omega) (by unfold maxLen; omega) (by simp) ?_; intro w1 hrow hg1; refine Hid.out ?_))
  refine Lib.hid ?_
  rw [← HW0.out] at hrow hg1
  rw [made_zeroN, hs0, cqL_zero C lo wd M] at hrow
  have HP0 : Hid (BoSt w a cap C lo M (cqL C lo wd M 0) w1) := (⟨(hg1.block _ (by omega) (by simp)).trans HT0.out, hrow, HB0.out.grown hg1 (by omega) (fun k hk => by cases hk)⟩ : BoSt w a cap C lo M (cqL C lo wd M 0) w1)
  have d1 : w1.cell? ⟨w.heap.size, 1, none⟩ = some (.int .i64 (lo : Nat)) := block_cell HP0.out.box rfl
  have hwl : w.heap.size < w1.heap.size := (Array.getElem?_eq_some_iff.1 HP0.out.box).1
  clear hrow hg1 HT0 HB0 hs0 HW0 hk hx0 hx1 hx2
  go_wp2
  go_loopw [6, 7, 8] (fun v6 _ _ wr => ∃ s : Nat, s ≤ P ∧ v6 = .int .i64 (s : Nat) ∧ Hid (BoSt w a cap C lo M (cqL C lo wd M s) wr)) (fun v6 _ _ _ => P - (intOf v6).toNat)
  case atStart => exact ⟨0, Nat.zero_le _, rfl, HP0.out⟩
  case round =>
    clear HP0 d1 hwl q3 q4 q5
    rename World => W1
    obtain ⟨s, hsP, rfl, hp⟩ := hrel
    by_cases hil : s < P
    · have hii : (s : Int) < (P : Int) := by omega
      have hs4 : s < 4096 := by omega
      go_wp2
      go_loopw [7, 8] (fun v7 v8 wr => ∃ k : Nat, k ≤ C.length ∧ v8 = .int .i64 (k : Nat) ∧ v7 = .int .i64 (exS s k) ∧ Hid (wr = W1)) (fun _ v8 _ => C.length - (intOf v8).toNat)
      case atStart => exact ⟨0, Nat.zero_le _, rfl, rfl, (rfl : W1 = W1)⟩
      case round =>
        obtain ⟨k, hkn, rfl, rfl, hw⟩ := hrel
        obtain rfl := hw.out
        clear hw
        rename World => W2
        by_cases hkl : k < C.length
        · have hkk : (k : Int) < (C.length : Int) := by omega
          have hand := bit_12 (k := k) hs4
          have hsm : s / 2 ^ k % 2 < 2 := Nat.mod_lt _ (by omega)
          have hex := ex_bd s k
          have HEX : Hid (exS s (k + 1) = exS s k + (if s / 2 ^ k % 2 = 1 then 1 else -1)) := (rfl : exS s (k + 1) = exS s k + (if s / 2 ^ k % 2 = 1 then 1 else -1))
          obtain ⟨t, ht⟩ : ∃ t, s / 2 ^ k % 2 = t := ⟨_, rfl⟩
          rw [ht] at hand hsm HEX
          obtain ⟨x, hx⟩ : ∃ x, exS s k = x := ⟨_, rfl⟩
          rw [hx] at hex HEX ⊢
          clear ht hx
          by_cases h1 : t = 1
          · have hd : ((t : Int) == 1) = true := by rw [beq_iff_eq]; omega
            have ew : IntKind.i64.wrap (x + 1) = x + 1 := IntWalk.i64_in _ (by omega)
            have HX : Hid (exS s (k + 1) = x + 1) := (by rw [HEX.out, if_pos h1] : exS s (k + 1) = x + 1)
            clear h1 HEX
            go_wp2
            go_roundw
            case rel => exact ⟨k + 1, by omega, by go_num, by rw [HX.out], by first | exact (rfl : W2 = W2) | exact trivial⟩
            case measure => simp only [intOf]; omega
          · have hd : ((t : Int) == 1) = false := by rw [beq_eq_false_iff_ne]; omega
            have ew : IntKind.i64.wrap (x - 1) = x - 1 := IntWalk.i64_in _ (by omega)
            have HX : Hid (exS s (k + 1) = x - 1) := (by rw [HEX.out, if_neg h1]; omega : exS s (k + 1) = x - 1)
            clear h1 HEX
            go_wp2
            go_roundw
            case rel => exact ⟨k + 1, by omega, by go_num, by rw [HX.out], by first | exact (rfl : W2 = W2) | exact trivial⟩
            case measure => simp only [intOf]; omega
        · obtain rfl : k = C.length := by omega
          have hE := ixE_le C.length s
          have hIX := HIX.out s
          have hRG := HRG.out s
          have HIXE : Hid (ixS C lo wd s = ixE C.length s * wd + rgS C lo s) := (rfl : ixS C lo wd s = ixE C.length s * wd + rgS C lo s)
          have e1 : IntKind.i64.wrap (exS s C.length + (C.length : Int)) = (ixE C.length s : Int) := by rw [← hE.2]; exact IntWalk.i64_in _ (by omega)
          have e2 : IntKind.i64.wrap ((ixE C.length s : Int) * (wd : Int)) = ((ixE C.length s * wd : Nat) : Int) := by rw [← Int.natCast_mul]; exact IntWalk.i64_in _ (by omega)
          have e3 : IntKind.i64.wrap (((ixE C.length s * wd : Nat) : Int) + (rgS C lo s : Int)) = (ixS C lo wd s : Int) := by rw [← Int.natCast_add, ← HIXE.out]; exact IntWalk.i64_in _ (by omega)
          have hst := hp.out.own.stored (ixS C lo wd s) (.int .i64 ((cq C lo wd s (ixS C lo wd s) + 1 : Nat)))
          rw [nats_set, cqL_set] at hst
          have hcq := cq_le C lo wd s (ixS C lo wd s)
          have e4 : IntKind.i64.wrap ((cq C lo wd s (ixS C lo wd s) : Int) + 1) = ((cq C lo wd s (ixS C lo wd s) + 1 : Nat) : Int) := by rw [IntWalk.i64_in _ (by omega)]; omega
          have HRS := hid_mkP (HRO.out s)
          obtain ⟨ie, hie⟩ : ∃ X, ixE C.length s = X := ⟨_, rfl⟩
          obtain ⟨iw, hiw⟩ : ∃ X, ixE C.length s * wd = X := ⟨_, rfl⟩
          rw [hiw] at e2 e3
          rw [hie] at e1 e2
          obtain ⟨ix, hix⟩ : ∃ X, ixS C lo wd s = X := ⟨_, rfl⟩
          rw [hix] at e3 e4 hst hIX hcq
          obtain ⟨rg, hrg⟩ : ∃ X, rgS C lo s = X := ⟨_, rfl⟩
          rw [hrg] at e3 HRS
          have c0 : ∀ W, Below W2.heap.size W2 W → W.cell? ⟨w.heap.size + 1, ix, none⟩ = some (.int .i64 (cq C lo wd s ix : Nat)) ∧ W.frozen? ⟨w.heap.size + 1, ix, none⟩ = false := fun W hW => by
            have ho := Go.Proofs.YtihijieciogabaaDoor.own_any hp.out.own (grown_below hW none)
            refine ⟨?_, ho.frozenAt ix⟩
            rw [ho.cellAt ix (by omega), ← cqL_at hIX.1]
            exact nats_get _ _ (by rw [cqL_len]; exact hIX.1)
          have HC0 := hid_mkP c0
          obtain ⟨cv, hcv⟩ : ∃ X, cq C lo wd s ix = X := ⟨_, rfl⟩
          rw [hcv] at e4 hst hcq HC0
          obtain ⟨cw, hcw⟩ : ∃ X, cv + 1 = X := ⟨_, rfl⟩
          rw [hcw] at e4 hst
          have HIS := hid_mkP hix
          have HCV := hid_mkP hcv
          have HCW := hid_mkP hcw
          obtain ⟨x, hx⟩ : ∃ x, exS s C.length = x := ⟨_, rfl⟩
          rw [hx] at e1 ⊢
          have hb2 := hIX.1
          clear hst c0 hcv hcw hie hiw hix hrg hx hE hRG HIXE hcq hIX
          have d0 : W2.cell? ⟨w.heap.size, 0, none⟩ = some (.slice a C.length cap) := block_cell hp.out.box rfl
          have d1 : W2.cell? ⟨w.heap.size, 1, none⟩ = some (.int .i64 (lo : Nat)) := block_cell hp.out.box rfl
          have hwl : w.heap.size < W2.heap.size := (Array.getElem?_eq_some_iff.1 hp.out.box).1
          go_wp2_with (go_at_call 21; refine (HRS.out _ (by omega) hp.out.bel).mono ?_; rintro e9 w5 ⟨rfl, hb5⟩; have H5 := hid_mkP hb5; obtain ⟨k0, k1⟩ := HC0.out _ hb5; have hl5 : w.heap.size + 1 < w5.heap.size := Nat.lt_of_lt_of_le (hp.out.own.lt (w.heap.size + 1) rfl).2 hb5.size; clear hb5)
          go_roundw
          case rel =>
            have h5 := hp.out.any H5.out
            have hst := h5.own.stored ix (.int .i64 (cw : Nat))
            refine ⟨s + 1, by omega, by go_num, ?_⟩
            rw [nats_set] at hst
            have hcs := cqL_set C lo wd M s
            rw [HIS.out, HCV.out, HCW.out] at hcs
            rw [hcs] at hst
            exact h5.put hst.1 hst.2
          case measure => simp only [intOf]; omega
    · obtain rfl : s = P := by omega
      go_wp2
      have HZ0 : Hid (Canon [] (gY C lo wd s (1 - 1) 0)) := (⟨List.Pairwise.nil, fun x c => ⟨fun h => by simp at h, fun h => (h.2 (h.1.symm.trans rfl)).elim⟩⟩ : Canon [] (gY C lo wd s (1 - 1) 0))
      have HPN : Hid (∀ W : World, PolyC W W.heap.size (.slice none 0 0) []) := fun W => ⟨Or.inl ⟨rfl, rfl⟩, none, 0, 0, rfl, Nat.le_refl _, Nat.zero_le _⟩
      have HPE : Hid (2 ^ C.length = s) := HPP.out
      clear q1 q2 q6 HRO HIX HPP
      go_loopw [9, 10, 11, 12, 13, 14] (fun v9 v10 _ _ _ _ wr => ∃ (r : Nat) (l : List (Int × Int)), 1 ≤ r ∧ r ≤ wd ∧ v10 = .int .i64 (r : Nat) ∧ Hid (PolyC wr wr.heap.size v9 l) ∧ Hid (Canon l (gY C lo wd s (r - 1) 0)) ∧ Hid (BoSt w a cap C lo M (cqL C lo wd M s) wr)) (fun _ v10 _ _ _ _ _ => wd - (intOf v10).toNat)
      case atStart => exact ⟨1, [], Nat.le_refl _, by have := HWD.out; omega, rfl, HPN.out _, HZ0.out, hp.out⟩
      case round =>
        clear hp HZ0
        rename World => W2
        obtain ⟨r, l, hr1, hrw, rfl, hP, hCn, hB⟩ := hrel
        by_cases hrl : r < wd
        · have hrr : (r : Int) < (wd : Int) := by omega
          obtain ⟨q, hq⟩ : ∃ q, r - 1 = q := ⟨_, rfl⟩
          have hq2 : r = q + 1 := by omega
          have HQ := hid_mkP hq2
          rw [hq] at hCn
          have ew : IntKind.i64.wrap ((r : Int) - 1) = (q : Int) := by rw [IntWalk.i64_in _ (by omega)]; omega
          have en : IntKind.i64.wrap (-(C.length : Int)) = -(C.length : Int) := IntWalk.i64_in _ (by omega)
          have hq39 : q ≤ 39 := by omega
          clear hq hq2
          go_wp2_with (go_at_call 22; refine (ringPower_any q _ hq39).mono ?_; rintro e9 w5 ⟨vp, lp, rfl, hPp, hCp, hb5⟩; refine Hid.out ?_)
          refine Lib.hid ?_
          obtain ⟨ap, capp, ep, hsl⟩ := hPp.1.slice
          subst ep
          have HSL := hid_mkP hsl
          have HCP := hid_mkP hCp
          have hlpb : lp.length ≤ 200 := by
            have hpin : InA (dlN q oneA) (2 * q) := by have := InA.one.dlN q; simpa using this
            have := canon_len1 hCp (2 * q) hpin
            omega
          have HB5 := hid_mkP (hB.out.any hb5)
          have HP5 := hid_mkP (hP.out.up hb5)
          clear hPp hCp hb5 hsl ew
          go_wp2
          clear en
          go_loopw [9, 12, 13, 14] (fun v9 v12 _ _ wr => ∃ (E : Nat) (l : List (Int × Int)), E ≤ 2 * C.length + 1 ∧ v12 = .int .i64 ((E : Int) - (C.length : Int)) ∧ Hid (PolyC wr wr.heap.size v9 l) ∧ Hid (Canon l (gY C lo wd s q E)) ∧ Hid (BoSt w a cap C lo M (cqL C lo wd M s) wr) ∧ Hid (Below w5.heap.size w5 wr)) (fun _ v12 _ _ _ => (C.length + 1 - intOf v12).toNat)
          case atStart => exact ⟨0, l, Nat.zero_le _, by simp, HP5.out, hCn.out, HB5.out, Below.refl _ _⟩
          case round =>
            clear HP5 HB5
            rename World => W3
            obtain ⟨E, l3, hE, rfl, hP3, hC3, hB3, hb3⟩ := hrel
            by_cases hEl : E ≤ 2 * C.length
            · have hee : (E : Int) - (C.length : Int) ≤ (C.length : Int) := by omega
              have f1 : IntKind.i64.wrap ((E : Int) - (C.length : Int) + (C.length : Int)) = (E : Int) := by rw [IntWalk.i64_in _ (by omega)]; omega
              have f1' : IntKind.i64.wrap (E : Int) = (E : Int) := IntWalk.i64_in _ (by omega)
              have hew : E * wd ≤ 24 * 41 := Nat.mul_le_mul (by omega) hwb
              have f2 : IntKind.i64.wrap ((E : Int) * (wd : Int)) = ((E * wd : Nat) : Int) := by rw [← Int.natCast_mul]; exact IntWalk.i64_in _ (by omega)
              have f3 : IntKind.i64.wrap (((E * wd : Nat) : Int) + (r : Int)) = ((E * wd + r : Nat) : Int) := by rw [← Int.natCast_add]; exact IntWalk.i64_in _ (by omega)
              have hix : E * wd + r < M := by
                have h4 : (2 * C.length + 1) * wd = 2 * C.length * wd + wd := by rw [Nat.add_mul, Nat.one_mul]
                have h3 : E * wd ≤ 2 * C.length * wd := Nat.mul_le_mul_right _ hEl
                have := HME.out
                omega
              have c0 : W3.cell? ⟨w.heap.size + 1, E * wd + r, none⟩ = some (.int .i64 (cq C lo wd s (E * wd + r) : Nat)) := by
                rw [hB3.out.own.cellAt _ (by omega), ← cqL_at hix]
                exact nats_get _ _ (by rw [cqL_len]; exact hix)
              have HNX : Hid (∀ y, gY C lo wd s q (E + 1) y = gY C lo wd s q E y + (cq C lo wd s (E * wd + (q + 1)) : Int) * tmT C.length y (q + 1) E) := fun y => gP_next _ _ _ _ _ _ _
              have HRW := hid_mkP (fun (k : Nat) (hk : k ≤ lp.length) => row_ok (C := C) (lo := lo) (wide := wd) (R := q) (E := E) (out := l3) (p := lp) HM.out h12 HWD.out.symm hlo (by have := HQ.out; have := HWD.out; omega) (by omega) (by rw [HPE.out]; exact hC3.out) HCP.out k hk)
              rw [HPE.out] at HRW
              have hcq := cq_le C lo wd s (E * wd + r)
              rw [← HQ.out] at HNX HRW
              obtain ⟨cc, hcc⟩ : ∃ X, cq C lo wd s (E * wd + r) = X := ⟨_, rfl⟩
              rw [hcc] at c0 HNX HRW hcq
              obtain ⟨ew, hew2⟩ : ∃ X, E * wd = X := ⟨_, rfl⟩
              rw [hew2] at f2 f3 c0 hix
              obtain ⟨ix, hix2⟩ : ∃ X, ew + r = X := ⟨_, rfl⟩
              rw [hix2] at f3 c0 hix
              have hgl := (hB3.out.own.lt (w.heap.size + 1) rfl).2
              clear hcc hew2 hix2 hew
              go_wp2
              clear f1 f1' f2 f3 c0 hee
              go_loopw [9, 14] (fun v9 v14 wr => ∃ i : Nat, i ≤ lp.length ∧ v14 = .int .i64 (i : Nat) ∧ Hid (PolyC wr wr.heap.size v9 (rowTo l3 lp ((E : Int) - (C.length : Int), (cc : Int)) i)) ∧ Hid (Below W3.heap.size W3 wr)) (fun _ v14 _ => lp.length - (intOf v14).toNat)
              case atStart => exact ⟨0, Nat.zero_le _, rfl, hP3.out, Below.refl _ _⟩
              case round =>
                rename World => W4
                obtain ⟨i, hi, rfl, hP4, hb4⟩ := hrel
                have HB4 : Hid (Below w5.heap.size w5 W4) := hb3.out.trans (hb4.out.mono hb3.out.size)
                by_cases hgo : i < lp.length ∧ 0 < cc
                · have hi1 : (i : Int) < (lp.length : Int) := by omega
                  have hc1 : (0 : Int) < (cc : Int) := by omega
                  have hil := hgo.1
                  have HIL := hid_mkP hil
                  obtain ⟨bp, offp, eap, hbp, hTp⟩ := HSL.out (by omega)
                  subst eap
                  have ho := HRW.out i hi
                  have HSTEP : Hid (rowTo l3 lp ((E : Int) - (C.length : Int), (cc : Int)) (i + 1) = putL (rowTo l3 lp ((E : Int) - (C.length : Int), (cc : Int)) i) ((E : Int) - (C.length : Int) + (lp.getD i (0, 0)).1) ((cc : Int) * (lp.getD i (0, 0)).2)) := rfl
                  have hpin : InA (dlN q oneA) (2 * q) := by have := InA.one.dlN q; simpa using this
                  have htm := canon_terms HCP.out hpin (fun y => dl_sup q hq39 y) _ (getD_memK lp i (0, 0) hil)
                  have HTP : Hid (∀ W, Below W4.heap.size W4 W → (fun X : World => X.cell? ⟨bp, offp + i * 2, none⟩ = some (.int .i64 (lp.getD i (0, 0)).1) ∧ X.cell? ⟨bp, offp + i * 2 + 1, none⟩ = some (.int .i64 (lp.getD i (0, 0)).2)) W) := fun W hW => hTp.on (HB4.out.trans (hW.mono HB4.out.size)) hbp i hil
                  have hbpW : bp < W4.heap.size := Nat.lt_of_lt_of_le hbp HB4.out.size
                  obtain ⟨pe, hpe⟩ : ∃ X, (lp.getD i (0, 0)).1 = X := ⟨_, rfl⟩
                  obtain ⟨pc, hpc⟩ : ∃ X, (lp.getD i (0, 0)).2 = X := ⟨_, rfl⟩
                  rw [hpe, hpc] at HTP HSTEP htm
                  have hmb := mul_sup (c := cc) (t := pc) (H := 206158430208) (by omega)
                  have hmc : (cc : Int) * 1 * 206158430208 ≤ 4096 * 206158430208 := by omega
                  have g1 : IntKind.i64.wrap (pe + ((E : Int) - (C.length : Int))) = pe + ((E : Int) - (C.length : Int)) := IntWalk.i64_in _ (by omega)
                  have g2 : IntKind.i64.wrap ((cc : Int) * pc) = (cc : Int) * pc := IntWalk.i64_in _ (by omega)
                  have HPUT := hid_mkP (fun W (hW : Below W4.heap.size W4 W) => put_poly u9 (rowTo l3 lp ((E : Int) - (C.length : Int), (cc : Int)) i) (pe + ((E : Int) - (C.length : Int))) ((cc : Int) * pc) W ho.1 (by omega) (by omega) ho.2 (hP4.out.up hW))
                  have HD4 : Hid (Below W4.heap.size W4 W4.drew) := (Below.refl _ _).drew
                  clear hgo hpe hpc ho htm hpin hTp hmb hmc
                  go_upto_region 27 with (fail)
                  refine rhd HTP HD4.out (fun hHeld => ?_)
                  refine tq 104 0 (h := ?_)
                  simp only [List.setIfInBounds_toArray, List.set_cons_succ, List.set_cons_zero]
                  refine tq 105 1 (h := ?_)
                  simp only [List.setIfInBounds_toArray, List.set_cons_succ, List.set_cons_zero]
                  refine tq 106 2 (h := ?_)
                  simp only [List.setIfInBounds_toArray, List.set_cons_succ, List.set_cons_zero]
                  refine tq 107 3 (h := ?_)
                  simp only [List.setIfInBounds_toArray, List.set_cons_succ, List.set_cons_zero]
                  refine tq 108 4 (h := ?_)
                  simp only [List.setIfInBounds_toArray, List.set_cons_succ, List.set_cons_zero]
                  refine tq 109 5 (h := ?_)
                  simp only [List.setIfInBounds_toArray, List.set_cons_succ, List.set_cons_zero]
                  refine tq 110 6 (h := ?_)
                  simp only [List.setIfInBounds_toArray, List.set_cons_succ, List.set_cons_zero]
                  refine tq 111 7 (h := ?_)
                  simp only [List.setIfInBounds_toArray, List.set_cons_succ, List.set_cons_zero]
                  refine tq 112 8 (h := ?_)
                  simp only [List.setIfInBounds_toArray, List.set_cons_succ, List.set_cons_zero]
                  refine tq 113 9 (h := ?_)
                  simp only [List.setIfInBounds_toArray, List.set_cons_succ, List.set_cons_zero]
                  refine tq 114 10 (h := ?_)
                  simp only [List.setIfInBounds_toArray, List.set_cons_succ, List.set_cons_zero]
                  refine tq 115 11 (h := ?_)
                  simp only [List.setIfInBounds_toArray, List.set_cons_succ, List.set_cons_zero]
                  refine tq 116 12 (h := ?_)
                  simp only [List.setIfInBounds_toArray, List.set_cons_succ, List.set_cons_zero]
                  refine tq 117 13 (h := ?_)
                  simp only [List.setIfInBounds_toArray, List.set_cons_succ, List.set_cons_zero]
                  refine tq 118 14 (h := ?_)
                  simp only [List.setIfInBounds_toArray, List.set_cons_succ, List.set_cons_zero]
                  clear hHeld g1 g2
                  refine rd1 15 ?_
                  intro K0 hK0
                  go_simp
                  go_wp2_with (go_at_call 23; refine (HPUT.out _ HD4.out).mono ?_; rintro e9 w7 ⟨v7, rfl, hP7, hb7⟩)
                  have H7 := hid_mkP (HD4.out.trans (hb7.mono HD4.out.size))
                  have HP7 := hid_mkP hP7
                  clear hb7 hP7
                  refine hK0.out _ _ (HTP.out _ H7.out) (fun hHeld => ?_)
                  clear hK0 K0
                  try simp only [Act.put]
                  try simp only [List.getElem_toArray]
                  try simp only [List.getElem_cons_succ]
                  try simp only [List.getElem_cons_zero]
                  try simp only [List.setIfInBounds_toArray, List.set_cons_succ, List.set_cons_zero]
                  refine tq 9 16 (h := ?_)
                  simp only [List.setIfInBounds_toArray, List.set_cons_succ, List.set_cons_zero]
                  refine wpAnyH_done (by kernel_rfl) ?_ _
                  clear hHeld
                  go_wp2
                  go_roundw
                  case rel =>
                    refine ⟨i + 1, HIL.out, by go_num, ?_, hb4.out.trans (H7.out.mono hb4.out.size)⟩
                    have := HP7.out
                    rw [Int.add_comm pe, ← HSTEP.out] at this
                    exact this
                  case measure => have := HIL.out; simp only [intOf]; omega
                · have hcut : (i < lp.length → cc = 0) := fun h => by omega
                  have HFIN : Hid (Canon (rowTo l3 lp ((E : Int) - (C.length : Int), (cc : Int)) i) (gY C lo wd s q (E + 1))) := (by
                    refine canon_congr (rowTo_canon hC3.out ((E : Int) - (C.length : Int), (cc : Int)) i hi) fun y => ?_
                    rw [HNX.out y]
                    congr 1
                    by_cases hc0 : cc = 0
                    · subst hc0; simp
                    · have hil : i = lp.length := by
                        rcases Nat.lt_or_ge i lp.length with h | h
                        · exact absurd (hcut h) hc0
                        · omega
                      subst hil
                      rw [List.take_length, canon_coefB HCP.out]
                      have e : tmT C.length y r E = dlN q oneA (y - ((E : Int) - (C.length : Int))) := by
                        have e0 : r = q + 1 := HQ.out
                        unfold tmT
                        rw [show r - 1 = q from by rw [e0]; rfl]
                      rw [e] : Canon (rowTo l3 lp ((E : Int) - (C.length : Int), (cc : Int)) i) (gY C lo wd s q (E + 1)))
                  have ee : IntKind.i64.wrap ((E : Int) - (C.length : Int) + 1) = ((E + 1 : Nat) : Int) - (C.length : Int) := by rw [IntWalk.i64_in _ (by omega)]; omega
                  have hB4 := hid_mkP (hB3.out.any hb4.out)
                  by_cases hi2 : i < lp.length
                  · have hc0 := hcut hi2
                    have hi1 : (i : Int) < (lp.length : Int) := by omega
                    have hc1 : decide ((0 : Int) < (cc : Int)) = false := decide_eq_false (by omega)
                    have hc2 : decide (0 < cc) = false := decide_eq_false (by omega)
                    clear hcut hc0 hgo
                    go_wp2
                    go_roundw
                    case rel => exact ⟨E + 1, _, by omega, rfl, hP4.out, HFIN.out, hB4.out, HB4.out⟩
                    case measure => simp only [intOf]; omega
                  · have hi1 : ((i : Int) < (lp.length : Int)) = False := eq_false (by omega)
                    clear hcut hgo
                    go_wp2
                    go_roundw
                    case rel => exact ⟨E + 1, _, by omega, rfl, hP4.out, HFIN.out, hB4.out, HB4.out⟩
                    case measure => simp only [intOf]; omega
            · have hEe : E = 2 * C.length + 1 := by omega
              have HEE := hid_mkP hEe
              have hee : ((E : Int) - (C.length : Int) ≤ (C.length : Int)) = False := eq_false (by omega)
              clear hEe
              go_wp2
              go_roundw
              case rel =>
                refine ⟨r + 1, l3, by omega, by omega, by go_num, hP3.out, ?_, hB3.out⟩
                have h3 := hC3.out
                rw [HEE.out] at h3
                refine canon_congr h3 fun y => ?_
                rw [show r + 1 - 1 = q + 1 by have := HQ.out; omega]
                exact gP_row _ _ _ _ _ _
              case measure => simp only [intOf]; omega
        · have hre : r = wd := by omega
          have HRE := hid_mkP hre
          have hrr : ((r : Int) < (wd : Int)) = False := eq_false (by omega)
          clear hre
          go_wp2
          go_ret
          refine ⟨_, l, rfl, hP.out, ?_, hB.out.bel⟩
          have h3 := hCn.out
          rw [HRE.out, ← HPE.out, ← HWD.out] at h3
          have e : 2 * C.length + lo + 1 - 1 = 2 * C.length + lo := by omega
          rw [e, HGA.out] at h3
          exact h3
end Go.Proofs.YtihijieciogabaaDoor.Poly

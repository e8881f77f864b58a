/- Texts of a braid: the walk of ref.ActOf. -/
import Derived.Test.YthlmkoiilgjflaaBR10
namespace Go.Proofs.Ythlmkoiilgjflaa
open Go.RowKit

/-- Texts, the list of them a row of the call's own that still grows. -/
structure TyAt (W : World) (B : Nat) (v : Value) (n : Nat) (T : List (List Int)) : Prop where
  ln : T.length = n
  out : ∃ ys : List Value, W.ownsRow B 22 1 v n ys ∧ ∀ j, j < n → ∀ g, v.ownBlock = some g → RdX W g (ys.getD j (.bool false)) (T.getD j []).length (intsV (T.getD j []))
theorem TyAt.nil (W : World) (B : Nat) : TyAt W B (.slice none 0 0) 0 [] := ⟨rfl, [], World.ownsRow_nil _ _ _ _, fun _ hj => absurd hj (Nat.not_lt_zero _)⟩
theorem TyAt.tx {W : World} {B g cap n : Nat} {T : List (List Int)} (h : TyAt W B (.slice (some ⟨g, 0, none⟩) n cap) n T) : TxAt W B g cap n T := by
  obtain ⟨ys, h1, h2⟩ := h.out
  exact ⟨h.ln, ys, h1, fun j hj => h2 j hj g rfl⟩
theorem act0_next (k : Nat) : act0 (k + 1) = act0 k ++ [[(k : Int) + 1]] := by
  unfold act0
  rw [List.range_succ, List.map_append]
  rfl
/-- One text more. -/
theorem TyAt.app {W w8 : World} {B k q : Nat} {v v8 : Value} {T : List (List Int)} {x : Int} {o : Obj} (h : TyAt W B v k T) (hq : W.heap.size = q) (ys : List Value) (hys : W.ownsRow B 22 1 v k ys ∧ ∀ j, j < k → ∀ g, v.ownBlock = some g → RdX W g (ys.getD j (.bool false)) (T.getD j []).length (intsV (T.getD j [])))
    (hown : w8.ownsRow B 22 1 v8 (k + 1) (ys ++ [.slice (some ⟨q, 0, none⟩) 1 1])) (hg : ((W.alloc (.cells #[.int .i64 x] 3)).alloc o).grownBy w8 v.ownBlock) : TyAt w8 B v8 (k + 1) (T ++ [[x]]) := by
  obtain ⟨h1, h2⟩ := hys
  have hyl : ys.length = k := by rw [h1.1, Nat.mul_one]
  have gA : W.grownBy ((W.alloc (.cells #[.int .i64 x] 3)).alloc o) none := grown_trans (World.grownBy_alloc _ _ _) (World.grownBy_alloc _ _ _)
  refine ⟨by simp [h.ln], _, hown, fun j hj g8 hg8 => ?_⟩
  have hty : ∃ cs fz, w8.heap[g8]? = some (.cells cs 22 fz) := by
    rcases hown.2 with ⟨rfl, -⟩ | ⟨g, cap, cur, rfl, -, hh, -⟩
    · cases hg8
    · injection hg8 with e
      subst e
      exact ⟨_, _, hh⟩
  obtain ⟨cs, fz, hty⟩ := hty
  by_cases hjk : j < k
  · have e1 : (ys ++ [Value.slice (some ⟨q, 0, none⟩) 1 1]).getD j (.bool false) = ys.getD j (.bool false) := by
      simp [List.getD_eq_getElem?_getD, List.getElem?_append_left (show j < ys.length by omega)]
    have e2 : (T ++ [[x]]).getD j [] = T.getD j [] := by
      simp [List.getD_eq_getElem?_getD, List.getElem?_append_left (show j < T.length by rw [h.ln]; exact hjk)]
    rw [e1, e2]
    cases hv : v.ownBlock with
    | none =>
      have hk0 : v = .slice none 0 0 ∧ k = 0 := by
        rcases h1.2 with h3 | ⟨g, cap, cur, rfl, -⟩
        · exact h3
        · cases hv
      omega
    | some g =>
      have hr := (h2 j hjk g hv).any gA
      rw [hv] at hg
      exact (hr.grown hg).move hty
  · obtain rfl : j = k := by omega
    have e1 : (ys ++ [Value.slice (some ⟨q, 0, none⟩) 1 1]).getD j (.bool false) = .slice (some ⟨q, 0, none⟩) 1 1 := by
      rw [List.getD_eq_getElem?_getD, List.getElem?_append_right (by omega), hyl]; simp
    have e2 : (T ++ [[x]]).getD j [] = [x] := by
      rw [List.getD_eq_getElem?_getD, List.getElem?_append_right (by rw [h.ln]; exact Nat.le_refl _), h.ln]; simp
    rw [e1, e2]
    have hb : ((W.alloc (.cells #[.int .i64 x] 3)).alloc o).heap[q]? = some (.cells #[.int .i64 x] 3 (0, 0)) := alloc_old (alloc_at hq.symm)
    have hb8 : w8.heap[q]? = some (.cells #[.int .i64 x] 3 (0, 0)) := (hg.block q (Array.getElem?_eq_some_iff.1 hb).1 (fun e => by have := (h1.lt q e.symm).2; omega)).trans hb
    exact RdX.of_box hb8 (fun e => by
      rw [e, hty] at hb8
      injection hb8 with h5
      injection h5 with h6 h7
      exact absurd h7 (by decide))
theorem slice_one {u : Value} (a : Option Addr) (n c : Nat) (h : u = .slice a n c) : u.oneCell' = true := by rw [h]; rfl
theorem one_slice (q : Nat) : ∀ u ∈ [Value.slice (some ⟨q, 0, none⟩) 1 1], u.oneCell' = true := by
  intro u hu
  simp only [List.mem_singleton] at hu
  subst hu
  rfl
/-- ref.glue at texts. -/
theorem glue_tx (v1 v2 : Value) (a b : List Int) (M : Nat) (w : World) (hM : M ≤ 5801565999000) (la : a.length ≤ 2 * M) (lb : b.length ≤ M) (sa : SmI a) (sb : SmI b) (h1 : InAt w w.heap.size 1 v1 a.length (intsV a)) (h2 : RdAt w w.heap.size 1 v2 b.length (intsV b)) :
    Calls Try.prog 30 #[v1, v2] w fun e w' => ∃ a3 c3, e = .returned (.slice a3 (gl a b).length c3) ∧ w'.ownsRow w.heap.size 3 1 (.slice a3 (gl a b).length c3) (gl a b).length (intsV (gl a b)) ∧ Below w.heap.size w w' := by
  obtain ⟨a2, c2, rfl⟩ : ∃ a2 c2, v2 = .slice a2 b.length c2 := by obtain ⟨x, y, e, -⟩ := h2; exact ⟨x, y, e⟩
  obtain ⟨a1, c1, rfl⟩ : ∃ a1 c1, v1 = .slice a1 a.length c1 := by
    rcases h1 with ⟨rfl, e⟩ | ⟨ad, cap, rfl, e⟩ | ⟨q, off, cap, rfl, -, -⟩
    · exact ⟨none, 0, by rw [e]⟩
    · exact ⟨some ad, cap, by rw [e]⟩
    · exact ⟨_, cap, rfl⟩
  exact glue_any a1 a2 c1 c2 a b w (by omega) (by omega) (by omega) sa sb h1 h2
theorem recip_tx (v1 : Value) (a : List Int) (M : Nat) (w : World) (hM : M ≤ 5801565999000) (la : a.length ≤ M) (sa : SmI a) (h1 : RdAt w w.heap.size 1 v1 a.length (intsV a)) :
    Calls Try.prog 12 #[v1] w fun e w' => ∃ a3 c3, e = .returned (.slice a3 a.length c3) ∧ w'.ownsRow w.heap.size 3 1 (.slice a3 a.length c3) a.length (intsV (rc a)) ∧ Below w.heap.size w w' := by
  obtain ⟨a1, c1, rfl⟩ : ∃ a2 c2, v1 = .slice a2 a.length c2 := by obtain ⟨x, y, e, -⟩ := h1; exact ⟨x, y, e⟩
  exact recip_any a1 c1 a w (by omega) sa h1

/-- Where no text grows too long. -/
theorem actT_bd (n : Nat) (hn : n ≤ 6) (w : List Int) (k : Nat) (hk : k ≤ w.length) {M : Nat} (h : ∀ j, ((actT n w k).getD j []).length ≤ M) : TxOk n M (actT n w k) :=
  have h1 := actT_ok n hn w k hk
  ⟨h1.ln, h1.red, h, h1.sm⟩
set_option maxHeartbeats 8000000 in
set_option maxRecDepth 100000 in
theorem actOf_bd (a : Option Addr) (c n : Nat) (l : List Int) (w : World) (hn2 : 2 ≤ n) (hn6 : n ≤ 6) (hlet : ∀ j, j < l.length → l.getD j 0 ≠ 0 ∧ -(n : Int) < l.getD j 0 ∧ l.getD j 0 < (n : Int)) (hl20 : l.length ≤ 1000000) (hbd : ∀ k, k ≤ l.length → ∀ j, ((actT n l k).getD j []).length ≤ 5801565999000) (h : RdAt w w.heap.size 1 (.slice a l.length c) l.length (intsV l)) :
    Calls Try.prog 20 #[.int .i64 (n : Nat), .slice a l.length c] w fun e w' => ∃ a2 c2, e = .returned (.slice a2 n c2) ∧ IntsRd w' w'.heap.size (.slice a2 n c2) (actT n l l.length) ∧ Below w.heap.size w w' := by
  have HLT : Hid (∀ j, j < l.length → l.getD j 0 ≠ 0 ∧ -(n : Int) < l.getD j 0 ∧ l.getD j 0 < (n : Int)) := hlet
  have HAB : Hid (∀ j, j < l.length → (l.getD j 0).natAbs < n) := fun j hj => by have := hlet j hj; omega
  have HOK : Hid (∀ k, k ≤ l.length → ∃ M, TxOk n M (actT n l k) ∧ M ≤ 5801565999000) := fun k hk => ⟨_, actT_bd n hn6 l k hk (hbd k hk), Nat.le_refl _⟩
  have HNX : Hid (∀ k, k < l.length → actT n l (k + 1) = stp (actT n l k) (l.getD k 0)) := fun k hk => actT_next n l k hk
  obtain ⟨i1, hj, hy0, hy1, hy2⟩ := info_parts infoIntsB
  have HRD : Hid (RdAt w w.heap.size 1 (.slice a l.length c) l.length (intsV l)) := h
  clear h hlet hbd
  obtain ⟨m, hm⟩ : ∃ m, l.length = m := ⟨_, rfl⟩
  have HM : Hid (l.length = m) := hm
  rw [hm] at hl20 HLT HAB HOK HNX ⊢
  clear hm
  go_enter Try.func20, Try.ntmps20
  go_wp2
  go_loopw [5, 6] (fun v5 v6 wr => ∃ (k : Nat) (a5 : Option Addr) (c5 : Nat), k ≤ n ∧ v6 = .int .i64 ((k : Int) + 1) ∧ v5 = .slice a5 k c5 ∧ Hid (TyAt wr w.heap.size (.slice a5 k c5) k (act0 k)) ∧ Hid (Below w.heap.size w wr)) (fun _ v6 _ => n + 1 - (intOf v6).toNat)
  case atStart => exact ⟨0, none, 0, Nat.zero_le _, rfl, rfl, TyAt.nil _ _, Below.refl _ _⟩
  case round =>
    rename World => W1
    obtain ⟨k, a5, c5, hkn, rfl, rfl, hp, hb⟩ := hrel
    by_cases hk : k < n
    · have hkI : (k : Int) + 1 ≤ (n : Int) := by omega
      obtain ⟨ys, hys⟩ := hp.out.out
      have HYS : Hid (W1.ownsRow w.heap.size 22 1 (.slice a5 k c5) k ys ∧ ∀ j, j < k → ∀ g, (Value.slice a5 k c5).ownBlock = some g → RdX W1 g (ys.getD j (.bool false)) ((act0 k).getD j []).length (intsV ((act0 k).getD j []))) := hys
      have HTY : Hid (TyAt W1 w.heap.size (.slice a5 k c5) k (act0 k)) := hp.out
      have HBW : Hid (Below w.heap.size w W1) := hb.out
      clear hys hp hb
      go_wp2_with (first
        | (at_builtin; refine wpList_append_own _ rfl _ _ 23 rfl w.heap.size 22 i1 (.slice none 0 0) 1 24 Try.underlying23 hj hy0 hy1 hy2 rfl (by decide) _ k ys rfl ((HYS.out.1.alloc _).alloc _) ⟨W1.heap.size + 1, 0, none⟩ 1 1 [.slice (some ⟨W1.heap.size, 0, none⟩) 1 1] rfl rfl (by have h := new_one (W1.alloc (.cells #[.int .i64 ((k : Int) + 1)] 3)) (.slice (some ⟨W1.heap.size, 0, none⟩) 1 1) 22; simpa using h) (one_slice _) (by unfold maxLen; omega) (by omega) (by have := HBW.out.size; simp; omega) ?_; intro v8 w8 hown8 hg8 _; refine Hid.out ?_))
      refine Lib.hid ?_
      obtain ⟨a8, c8, rfl⟩ := own_capS hown8
      have HF1 : Hid (TyAt w8 w.heap.size (.slice a8 (k + 1) c8) (k + 1) (act0 (k + 1))) := (by rw [act0_next]; exact HTY.out.app rfl ys HYS.out hown8 hg8)
      have HF2 : Hid (Below w.heap.size w w8) := ((HBW.out.alloc HBW.out.size _).alloc (by have := HBW.out.size; simp; omega) _).grown hg8 (by have := HBW.out.size; simp; omega) (fun x hx => (HYS.out.1.lt x hx).1)
      clear hown8 hg8
      go_wp2
      go_roundw
      case rel => exact ⟨k + 1, a8, c8, by omega, by go_num, rfl, HF1.out, HF2.out⟩
      case measure => simp only [intOf]; omega
    · obtain rfl : n = k := by omega
      obtain ⟨ys, hys, -⟩ := hp.out.out
      obtain ⟨g, c4, e4, hgb, -⟩ := own_someB hys (by omega)
      injection e4 with e5 e6 e7
      subst e5 e7
      have HT4 : Hid (TxAt W1 w.heap.size g c5 n (actT n l 0)) := hp.out.tx
      have HB4 : Hid (Below w.heap.size w W1) := hb.out
      have HWG : Hid (w.heap.size ≤ g) := hgb
      have hd : decide ((n : Int) + 1 ≤ (n : Int)) = false := by simp; omega
      clear hys hp hb hk hkn e6 hgb
      go_wp2
      go_loopw [7] (fun v7 wr => ∃ k : Nat, k ≤ m ∧ v7 = .int .i64 (k : Nat) ∧ Hid (TxAt wr w.heap.size g c5 n (actT n l k)) ∧ Hid (Below w.heap.size w wr)) (fun v7 _ => m - (intOf v7).toNat)
      case atStart => exact ⟨0, Nat.zero_le _, rfl, HT4.out, HB4.out⟩
      case round =>
        clear HT4 HB4
        rename World => W2
        obtain ⟨k, hkm, rfl, hp, hb⟩ := hrel
        by_cases hk : k < m
        · have hkI : (k : Int) < (m : Int) := by omega
          obtain ⟨b, off, ea, hlt, hc⟩ := (HRD.out.on hb.out).intAt k (by rw [HM.out]; exact hk)
          obtain ⟨q1, q2, q3⟩ := HLT.out k hk
          have hq := HAB.out k hk
          have HN := HNX.out k hk
          obtain ⟨M, ok1, hM⟩ := HOK.out k (by omega)
          generalize l.getD k 0 = x at hc q1 q2 q3 hq HN
          obtain ⟨T, hT⟩ : ∃ T, actT n l k = T := ⟨_, rfl⟩
          rw [hT] at hp ok1 HN
          have HSZ : Hid (∀ W, Calls Try.prog 11 #[.int .i64 x] W fun e w' => e = .returned (.int .i64 (x.natAbs : Int)) ∧ w' = W) := fun W => absR_any x W (by omega) (by omega)
          obtain ⟨i, hi⟩ : ∃ i, x.natAbs = i := ⟨_, rfl⟩
          obtain ⟨j, hij⟩ : ∃ j, i = j + 1 := ⟨i - 1, by omega⟩
          rw [hi] at HSZ hq
          have HST : Hid (actT n l (k + 1) = if 0 < x then (T.set j (gl (gl (T.getD j []) (T.getD i [])) (rc (T.getD j [])))).set i (T.getD j []) else (T.set j (T.getD i [])).set i (gl (gl (rc (T.getD i [])) (T.getD j [])) (T.getD i []))) := (by rw [HN]; unfold stp; rw [hi, show i - 1 = j by omega] : actT n l (k + 1) = if 0 < x then (T.set j (gl (gl (T.getD j []) (T.getD i [])) (rc (T.getD j [])))).set i (T.getD j []) else (T.set j (T.getD i [])).set i (gl (gl (rc (T.getD i [])) (T.getD j [])) (T.getD i [])))
          have HTX : Hid (TxAt W2 w.heap.size g c5 n T) := hp.out
          have HBW : Hid (Below w.heap.size w W2) := hb.out
          obtain ⟨aa, ca, eaa, ra⟩ := hp.out.row j (by omega)
          obtain ⟨ab, cb, eab, rb⟩ := hp.out.row i hq
          have HRA : Hid (RdX W2 g (.slice aa (T.getD j []).length ca) (T.getD j []).length (intsV (T.getD j []))) := ra
          have HRB : Hid (RdX W2 g (.slice ab (T.getD i []).length cb) (T.getD i []).length (intsV (T.getD i []))) := rb
          have HDA : Hid ((T.getD j []).length ≤ M ∧ SmI (T.getD j [])) := ⟨ok1.len j, ok1.sm j⟩
          have HDB : Hid ((T.getD i []).length ≤ M ∧ SmI (T.getD i [])) := ⟨ok1.len i, ok1.sm i⟩
          obtain ⟨A, hA⟩ : ∃ A, T.getD j [] = A := ⟨_, rfl⟩
          obtain ⟨C, hC⟩ : ∃ C, T.getD i [] = C := ⟨_, rfl⟩
          rw [hA] at HRA HDA HST eaa
          rw [hC] at HRB HDB HST eab
          obtain ⟨lg1, lg2⟩ := hp.out.lt
          have hiI : (i : Int) < (n : Int) := by omega
          have hjI : (j : Int) < (n : Int) := by omega
          have hjn : j < n := by omega
          have hne : j ≠ i := by omega
          have ew : IntKind.i64.wrap ((i : Int) - 1) = (j : Int) := by rw [IntWalk.i64_in _ (by omega)]; omega
          have ew2 : (i : Int) - 1 = (j : Int) := by omega
          have lbW : b < W2.heap.size := Nat.lt_of_lt_of_le hlt hb.out.size
          have HCB : Hid (∀ W, Below w.heap.size w W → W.cell? ⟨b, off + k, none⟩ = some (.int .i64 x) ∧ b < W.heap.size) := fun W hW => ⟨by
            have h0 := hb.out.block b hlt
            have h1 := hW.block b hlt
            rw [← hc]
            unfold World.cell?
            simp only []
            rw [h1, h0], Nat.lt_of_lt_of_le hlt hW.size⟩
          obtain ⟨la, hla⟩ : ∃ la, A.length = la := ⟨_, rfl⟩
          obtain ⟨lc, hlc⟩ : ∃ lc, C.length = lc := ⟨_, rfl⟩
          have HLA : Hid (A.length = la ∧ C.length = lc) := ⟨hla, hlc⟩
          rw [hla] at HRA eaa
          rw [hlc] at HRB eab
          subst ea
          clear hp hb ra rb ok1 hi hij hA hC hla hlc HN hT q1 q2 q3 ew2
          go_wp2_with (go_at_call 11; refine (HSZ.out _).mono ?_; rintro e9 w5 ⟨rfl, rfl⟩; refine Hid.out ?_)
          refine Lib.hid ?_
          clear HSZ
          go_wp2
          go_quiet (fail)
          have HGD : Hid (w5.grownBy (w5.drewN nq) none) := grown_below (below_drewN (Below.refl _ _) nq) none
          have HBDd : Hid (Below w.heap.size w (w5.drewN nq)) := HBW.out.trans ((below_drewN (Below.refl _ _) nq).mono HBW.out.size)
          generalize w5.drewN nq = D at HGD HBDd ⊢
          have HTD : Hid (TxAt D w.heap.size g c5 n T) := HTX.out.any HGD.out
          have HAD : Hid (RdX D g (.slice aa la ca) la (intsV A)) := HRA.out.any HGD.out
          have HBD : Hid (RdX D g (.slice ab lc cb) lc (intsV C)) := HRB.out.any HGD.out
          obtain ⟨hcD, lbD⟩ := HCB.out D HBDd.out
          clear eaa eab HTX HRA HRB hc lbW
          by_cases hpx : 0 < x
          · rw [if_pos hpx] at HST
            obtain ⟨N1, hN1⟩ : ∃ N, (gl A C).length = N := ⟨_, rfl⟩
            obtain ⟨N2, hN2⟩ : ∃ N, (gl (gl A C) (rc A)).length = N := ⟨_, rfl⟩
            have HNE : Hid ((gl (gl A C) (rc A)).length = N2 ∧ (gl A C).length = N1 ∧ (gl A C).length ≤ 2 * M) := (⟨hN2, hN1, by have h1 := gl_len A C; have h2 := HDA.out.1; have h3 := HDB.out.1; omega⟩ : (gl (gl A C) (rc A)).length = N2 ∧ (gl A C).length = N1 ∧ (gl A C).length ≤ 2 * M)
            have HG1 : Hid (Calls Try.prog 30 #[.slice aa la ca, .slice ab lc cb] D fun e w' => ∃ a3 c3, e = .returned (.slice a3 N1 c3) ∧ w'.ownsRow D.heap.size 3 1 (.slice a3 N1 c3) N1 (intsV (gl A C)) ∧ Below D.heap.size D w') := (by
              have h1 := HLA.out
              rw [← hN1]
              exact glue_tx _ _ A C M D hM (by have := HDA.out.1; omega) HDB.out.1 HDA.out.2 HDB.out.2 (by rw [h1.1]; exact HAD.out.inn) (by rw [h1.2]; exact HBD.out.rd))
            clear hN1 hN2
            go_wp2_with (go_at_call 30; refine HG1.out.mono ?_; rintro e9 w6 ⟨a6, c6, rfl, hr6, hb6⟩; refine Hid.out ?_)
            refine Lib.hid ?_
            have HG6 : Hid (D.grownBy w6 none) := grown_below hb6 none
            have HO6 : Hid (w6.ownsRow D.heap.size 3 1 (.slice a6 N1 c6) N1 (intsV (gl A C))) := hr6
            have HA6 : Hid (RdX w6 g (.slice aa la ca) la (intsV A)) := HAD.out.any HG6.out
            have HRC : Hid (Calls Try.prog 12 #[.slice aa la ca] w6 fun e w' => ∃ a3 c3, e = .returned (.slice a3 la c3) ∧ w'.ownsRow w6.heap.size 3 1 (.slice a3 la c3) la (intsV (rc A)) ∧ Below w6.heap.size w6 w') := (by
              have h1 := HLA.out
              have h := recip_tx (.slice aa la ca) A M w6 hM HDA.out.1 HDA.out.2 (by rw [h1.1]; exact HA6.out.rd)
              rw [h1.1] at h
              exact h)
            clear hr6 hb6 HG1
            go_wp2_with (go_at_call 12; refine HRC.out.mono ?_; rintro e9 w7 ⟨a7, c7, rfl, hr7, hb7⟩; refine Hid.out ?_)
            refine Lib.hid ?_
            have HG7 : Hid (w6.grownBy w7 none) := grown_below hb7 none
            have HO7 : Hid (w7.ownsRow w6.heap.size 3 1 (.slice a7 la c7) la (intsV (rc A))) := hr7
            have HP7 : Hid (w7.ownsRow D.heap.size 3 1 (.slice a6 N1 c6) N1 (intsV (gl A C))) := own_any HO6.out HG7.out
            have HG2 : Hid (Calls Try.prog 30 #[.slice a6 N1 c6, .slice a7 la c7] w7 fun e w' => ∃ a3 c3, e = .returned (.slice a3 N2 c3) ∧ w'.ownsRow w7.heap.size 3 1 (.slice a3 N2 c3) N2 (intsV (gl (gl A C) (rc A))) ∧ Below w7.heap.size w7 w') := (by
              have h1 := HLA.out
              have h2 := HNE.out
              rw [← h2.1]
              exact glue_tx _ _ (gl A C) (rc A) M w7 hM h2.2.2 (by rw [rc_len]; exact HDA.out.1) (gl_sm HDA.out.2 HDB.out.2) (rc_sm HDA.out.2) (by rw [h2.2.1]; exact own_in HP7.out) (by rw [rc_len, h1.1]; exact own_rd HO7.out))
            clear hr7 hb7 HRC
            go_wp2_with (go_at_call 30; refine HG2.out.mono ?_; rintro e9 w8 ⟨a8, c8, rfl, hr8, hb8⟩; refine Hid.out ?_)
            refine Lib.hid ?_
            have HG8 : Hid (D.grownBy w8 none) := grown_trans HG6.out (grown_trans HG7.out (grown_below hb8 none))
            have HT8 : Hid (TxAt w8 w.heap.size g c5 n T) := HTD.out.any HG8.out
            have lg7 : g < w7.heap.size := Nat.lt_of_lt_of_le HTD.out.lt.2 (Nat.le_trans HG6.out.size HG7.out.size)
            have hR8 : RdX w8 g (.slice a8 N2 c8) N2 (intsV (gl (gl A C) (rc A))) := RdX.of_own hr8 lg7
            have hA8 : RdX w8 g (.slice aa la ca) la (intsV A) := HAD.out.any HG8.out
            obtain ⟨x1, x2, x3, -⟩ := HT8.out.row j hjn
            obtain ⟨y1, y2, y3, -⟩ := HT8.out.row i hq
            have z1 := HT8.out.frozen j
            have z2 := HT8.out.frozen i
            have lg8 := HT8.out.lt.2
            have HFN : Hid (TxAt ((w8.setCell ⟨g, j, none⟩ (.slice a8 N2 c8)).setCell ⟨g, i, none⟩ (.slice aa la ca)) w.heap.size g c5 n (actT n l (k + 1)) ∧ w8.grownBy ((w8.setCell ⟨g, j, none⟩ (.slice a8 N2 c8)).setCell ⟨g, i, none⟩ (.slice aa la ca)) (some g)) := (by
              rw [HST.out]
              have h1 := HLA.out
              have h2 := HNE.out
              exact HT8.out.two hq hjn (by rw [h2.1]; exact hR8) (by rw [h1.1]; exact hA8))
            have HBF : Hid (Below w.heap.size w ((w8.setCell ⟨g, j, none⟩ (.slice a8 N2 c8)).setCell ⟨g, i, none⟩ (.slice aa la ca))) := (HBDd.out.grown HG8.out HBDd.out.size (fun q hq => by cases hq)).grown HFN.out.2 (Nat.le_trans HBDd.out.size HG8.out.size) (fun q hq => by have h1 : g = q := Option.some.inj hq; have := HWG.out; omega)
            clear hr8 hb8 hR8 hA8 HG2 HAD HBD HTD HO6 HA6 HO7 HP7
            generalize (T.getD j []).length = e1 at x3
            generalize (T.getD i []).length = e2 at y3
            go_wp2
            go_roundw
            case rel => exact ⟨k + 1, by omega, by go_num, HFN.out.1, HBF.out⟩
            case measure => simp only [intOf]; omega
          · rw [if_neg hpx] at HST
            obtain ⟨x1, x2, x3, -⟩ := HTD.out.row j hjn
            have z1 := HTD.out.frozen j
            have lgD := HTD.out.lt.2
            obtain ⟨X, hX⟩ : ∃ X, X = D.setCell ⟨g, j, none⟩ (.slice ab lc cb) := ⟨_, rfl⟩
            have HX : Hid (X = D.setCell ⟨g, j, none⟩ (.slice ab lc cb)) := hX
            have hone := HTD.out.one (r := C) hjn (by have h1 := HLA.out; rw [h1.2]; exact HBD.out)
            rw [← hX] at hone
            have HTX2 : Hid (TxAt X w.heap.size g c5 n (T.set j C)) := hone.1
            have HAX : Hid (RdX X g (.slice aa la ca) la (intsV A)) := HAD.out.grown hone.2
            have HCX : Hid (RdX X g (.slice ab lc cb) lc (intsV C)) := HBD.out.grown hone.2
            have HBX : Hid (Below w.heap.size w X) := HBDd.out.grown hone.2 HBDd.out.size (fun q hq => by have h1 : g = q := Option.some.inj hq; have := HWG.out; omega)
            clear hone hX
            generalize (T.getD j []).length = e1 at x3
            go_upto_region 15 with (fail)
            rw [← HX.out]
            clear x3 z1 HX HAD HBD HTD hcD lbD lgD
            obtain ⟨N1, hN1⟩ : ∃ N, (gl (rc C) A).length = N := ⟨_, rfl⟩
            obtain ⟨N2, hN2⟩ : ∃ N, (gl (gl (rc C) A) C).length = N := ⟨_, rfl⟩
            have HNE : Hid ((gl (gl (rc C) A) C).length = N2 ∧ (gl (rc C) A).length = N1 ∧ (gl (rc C) A).length ≤ 2 * M) := (⟨hN2, hN1, by have h1 := gl_len (rc C) A; rw [rc_len] at h1; have h2 := HDA.out.1; have h3 := HDB.out.1; omega⟩ : (gl (gl (rc C) A) C).length = N2 ∧ (gl (rc C) A).length = N1 ∧ (gl (rc C) A).length ≤ 2 * M)
            have HRC : Hid (Calls Try.prog 12 #[.slice ab lc cb] X fun e w' => ∃ a3 c3, e = .returned (.slice a3 lc c3) ∧ w'.ownsRow X.heap.size 3 1 (.slice a3 lc c3) lc (intsV (rc C)) ∧ Below X.heap.size X w') := (by
              have h1 := HLA.out
              have h := recip_tx (.slice ab lc cb) C M X hM HDB.out.1 HDB.out.2 (by rw [h1.2]; exact HCX.out.rd)
              rw [h1.2] at h
              exact h)
            clear hN1 hN2
            go_wp2_with (go_at_call 12; refine HRC.out.mono ?_; rintro e9 w6 ⟨a6, c6, rfl, hr6, hb6⟩; refine Hid.out ?_)
            refine Lib.hid ?_
            have HG6 : Hid (X.grownBy w6 none) := grown_below hb6 none
            have HO6 : Hid (w6.ownsRow X.heap.size 3 1 (.slice a6 lc c6) lc (intsV (rc C))) := hr6
            have HA6 : Hid (RdX w6 g (.slice aa la ca) la (intsV A)) := HAX.out.any HG6.out
            have HC6 : Hid (RdX w6 g (.slice ab lc cb) lc (intsV C)) := HCX.out.any HG6.out
            have HG1 : Hid (Calls Try.prog 30 #[.slice a6 lc c6, .slice aa la ca] w6 fun e w' => ∃ a3 c3, e = .returned (.slice a3 N1 c3) ∧ w'.ownsRow w6.heap.size 3 1 (.slice a3 N1 c3) N1 (intsV (gl (rc C) A)) ∧ Below w6.heap.size w6 w') := (by
              have h1 := HLA.out
              have h2 := HNE.out
              rw [← h2.2.1]
              exact glue_tx _ _ (rc C) A M w6 hM (by rw [rc_len]; have := HDB.out.1; omega) HDA.out.1 (rc_sm HDB.out.2) HDA.out.2 (by rw [rc_len, h1.2]; exact own_in HO6.out) (by rw [h1.1]; exact HA6.out.rd))
            clear hr6 hb6 HRC
            go_wp2_with (go_at_call 30; refine HG1.out.mono ?_; rintro e9 w7 ⟨a7, c7, rfl, hr7, hb7⟩; refine Hid.out ?_)
            refine Lib.hid ?_
            have HG7 : Hid (w6.grownBy w7 none) := grown_below hb7 none
            have HO7 : Hid (w7.ownsRow w6.heap.size 3 1 (.slice a7 N1 c7) N1 (intsV (gl (rc C) A))) := hr7
            have HC7 : Hid (RdX w7 g (.slice ab lc cb) lc (intsV C)) := HC6.out.any HG7.out
            have HG2 : Hid (Calls Try.prog 30 #[.slice a7 N1 c7, .slice ab lc cb] w7 fun e w' => ∃ a3 c3, e = .returned (.slice a3 N2 c3) ∧ w'.ownsRow w7.heap.size 3 1 (.slice a3 N2 c3) N2 (intsV (gl (gl (rc C) A) C)) ∧ Below w7.heap.size w7 w') := (by
              have h1 := HLA.out
              have h2 := HNE.out
              rw [← h2.1]
              exact glue_tx _ _ (gl (rc C) A) C M w7 hM h2.2.2 HDB.out.1 (gl_sm (rc_sm HDB.out.2) HDA.out.2) HDB.out.2 (by rw [h2.2.1]; exact own_in HO7.out) (by rw [h1.2]; exact HC7.out.rd))
            clear hr7 hb7 HG1
            go_wp2_with (go_at_call 30; refine HG2.out.mono ?_; rintro e9 w8 ⟨a8, c8, rfl, hr8, hb8⟩; refine Hid.out ?_)
            refine Lib.hid ?_
            have HG8 : Hid (X.grownBy w8 none) := grown_trans HG6.out (grown_trans HG7.out (grown_below hb8 none))
            have HT8 : Hid (TxAt w8 w.heap.size g c5 n (T.set j C)) := HTX2.out.any HG8.out
            have lg7 : g < w7.heap.size := Nat.lt_of_lt_of_le HTX2.out.lt.2 (Nat.le_trans HG6.out.size HG7.out.size)
            have hR8 : RdX w8 g (.slice a8 N2 c8) N2 (intsV (gl (gl (rc C) A) C)) := RdX.of_own hr8 lg7
            obtain ⟨y1, y2, y3, -⟩ := HT8.out.row i hq
            have z2 := HT8.out.frozen i
            have lg8 := HT8.out.lt.2
            have HFN : Hid (TxAt (w8.setCell ⟨g, i, none⟩ (.slice a8 N2 c8)) w.heap.size g c5 n (actT n l (k + 1)) ∧ w8.grownBy (w8.setCell ⟨g, i, none⟩ (.slice a8 N2 c8)) (some g)) := (by
              rw [HST.out]
              have h2 := HNE.out
              exact HT8.out.one hq (by rw [h2.1]; exact hR8))
            have HBF : Hid (Below w.heap.size w (w8.setCell ⟨g, i, none⟩ (.slice a8 N2 c8))) := (HBX.out.grown HG8.out HBX.out.size (fun q hq => by cases hq)).grown HFN.out.2 (Nat.le_trans HBX.out.size HG8.out.size) (fun q hq => by have h1 : g = q := Option.some.inj hq; have := HWG.out; omega)
            clear hr8 hb8 hR8 HG2 HAX HCX HTX2 HO6 HA6 HC6 HO7 HC7
            generalize ((T.set j C).getD i []).length = e2 at y3
            go_wp2
            go_roundw
            case rel => exact ⟨k + 1, by omega, by go_num, HFN.out.1, HBF.out⟩
            case measure => simp only [intOf]; omega
        · obtain rfl : m = k := by omega
          have HFN : Hid (IntsRd W2 W2.heap.size (.slice (some ⟨g, 0, none⟩) n c5) (actT n l m) ∧ Below w.heap.size w W2) := ⟨hp.out.ints, hb.out⟩
          go_wp2
          go_ret
          exact ⟨_, _, rfl, HFN.out⟩
theorem actOf_any (a : Option Addr) (c n : Nat) (l : List Int) (w : World) (hn : wordN (n : Int) l = 0) (h : RdAt w w.heap.size 1 (.slice a l.length c) l.length (intsV l)) :
    Calls Try.prog 20 #[.int .i64 (n : Nat), .slice a l.length c] w fun e w' => ∃ a2 c2, e = .returned (.slice a2 n c2) ∧ IntsRd w' w'.heap.size (.slice a2 n c2) (actT n l l.length) ∧ Below w.heap.size w w' := by
  obtain ⟨n2, n6, hlet, hl20⟩ := wordN_ok hn
  refine actOf_bd a c n l w (by omega) (by omega) hlet (by omega) (fun k hk j => ?_) h
  have h1 := (actT_ok n (by omega) l k hk).len j
  have h2 := three_pow k (by omega)
  omega
end Go.Proofs.Ythlmkoiilgjflaa

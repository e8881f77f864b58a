/- The walk of braid.form.add. -/
import Derived.Test.YthlmkoiilgjflaaGB4
import Derived.Deep.RegionLaw
import Derived.Deep.CutRange
namespace Go.Proofs.Ythlmkoiilgjflaa
open Go.RowKit

/-- append onto a row of the call's own, as one step of a region that draws. -/
theorem step_append_ownB {P : Program} {ops : Array Oper} {o : Oper} {a : Act} {w : World} {K : Act → World → Prop} {Q : Exit → Act → World → Prop} {E : Prop}
    (hg : o.guard = none) (s x : Operand) (t : TypeId)
    (ho : o.op = .call { callee := .builtin .append, args := #[s, x], argTypes := #[t, t] })
    (base : Nat) (e : TypeId) (i : TypeInfo) (z : Value) (size bytes : Nat) (ht : P.underlying t = some (.slice e)) (hi : P.info? e = some i) (hz : i.zero = some z)
    (hsize : i.size = size) (hby : i.bytes = bytes) (hzs : z.cells.size = size) (hsz : 0 < size)
    (v : Value) (n : Nat) (xs : List Value) (hs : a.eval s = v) (hown : w.ownsRow base e size v n xs)
    (ad : Addr) (m c : Nat) (news : List Value) (hx : a.eval x = .slice (some ad) m c) (hl : news.length = m * size) (hnews : ∀ j u, news[j]? = some u → w.cell? (ad.add j) = some u) (h1 : ∀ u ∈ news, u.oneCell' = true)
    (h63 : n + m ≤ maxLen) (hbytes : (n + m) * bytes ≤ 140737488355328) (hbase : base ≤ w.heap.size)
    (h : ∀ v' w', w'.ownsRow base e size v' (n + m) (xs ++ news) → w.grownBy w' v.ownBlock → K (a.put o.dst v') w') :
    if Region.wanted o (yielded ops a.tmps) = true then Oper.wp P o a w K Q else E := by
  have hw : Region.wanted o (yielded ops a.tmps) = true := by simp [Region.wanted, hg]
  rw [if_pos hw]
  exact wp_append_own w s x t ho base e i z size bytes ht hi hz hsize hby hzs hsz v n xs hs hown ad m c news hx hl hnews h1 h63 hbytes hbase (fun v' w' h2 h3 _ => h v' w' h2 h3)

theorem fresh_keep {w0 w1 w2 : World} {g : Nat} (h1 : Below w0.heap.size w0 w1) (hg : w0.heap.size ≤ g) (h2 : w1.grownBy w2 (some g)) : w0.grownBy w2 none :=
  grown_below (h1.grown h2 h1.size (fun k hk => by have := Option.some.inj hk; omega)) none
/-- The first k turned by Delta. -/
def ptK (n : Nat) (X : List (List Nat)) (k : Nat) : List (List Nat) := (X.take k).map (pta n) ++ X.drop k
theorem ptK_len (n : Nat) (X : List (List Nat)) (k : Nat) : (ptK n X k).length = X.length := by unfold ptK; simp; omega
theorem ptK_zero (n : Nat) (X : List (List Nat)) : ptK n X 0 = X := by unfold ptK; simp
theorem ptK_all (n : Nat) (X : List (List Nat)) : ptK n X X.length = X.map (pta n) := by unfold ptK; simp
theorem ptK_at {n k : Nat} {X : List (List Nat)} (hk : k < X.length) : (ptK n X k).getD k [] = X.getD k [] := by
  unfold ptK
  rw [List.getD_eq_getElem?_getD, List.getElem?_append_right (by simp; omega), List.length_map, List.length_take, Nat.min_eq_left (by omega), Nat.sub_self, List.getElem?_drop, Nat.add_zero, ← List.getD_eq_getElem?_getD]
theorem ptK_next {n k : Nat} {X : List (List Nat)} (hk : k < X.length) : (ptK n X k).set k (pta n (X.getD k [])) = ptK n X (k + 1) := by
  unfold ptK
  have e1 : X.drop k = X.getD k [] :: X.drop (k + 1) := by
    rw [List.drop_eq_getElem_cons hk, List.getD_eq_getElem?_getD, List.getElem?_eq_getElem hk]
    rfl
  have e2 : X.take (k + 1) = X.take k ++ [X.getD k []] := by
    rw [List.take_succ_eq_append_getElem hk, List.getD_eq_getElem?_getD, List.getElem?_eq_getElem hk]
    rfl
  have e3 : ((X.take k).map (pta n)).length = k := by simp; omega
  rw [e1, e2, List.set_append, if_neg (by omega), e3, Nat.sub_self, List.map_append]
  simp
/-- What a letter makes of a form's row. -/
def rawS (n : Nat) (p : Int) (X : List (List Nat)) (x : Int) : Int × List (List Nat) := if 0 < x then (p, (pas n X.reverse (psg n (x.natAbs - 1))).reverse) else (p - 1, (pas n (X.map (pta n)).reverse (pdg n (x.natAbs - 1))).reverse)
theorem mid_at {n : Nat} {D F : List (List Nat)} {y f : List Nat} (h : F.length = n) : ((D ++ y :: f :: F).reverse).getD n [] = f ∧ ((D ++ y :: f :: F).reverse).getD (n + 1) [] = y := by
  have e : (D ++ y :: f :: F).reverse = F.reverse ++ f :: y :: D.reverse := by simp
  rw [e, List.getD_eq_getElem?_getD, List.getD_eq_getElem?_getD, List.getElem?_append_right (by simp; omega), List.getElem?_append_right (by simp; omega), List.length_reverse, h, Nat.sub_self, show n + 1 - n = 1 by omega]
  exact ⟨rfl, rfl⟩
theorem mid_set {n : Nat} {D F : List (List Nat)} {y f y' f' : List Nat} (h : F.length = n) : (((D ++ y :: f :: F).reverse).set n f').set (n + 1) y' = ((D ++ [y']) ++ f' :: F).reverse := by
  have e : (D ++ y :: f :: F).reverse = F.reverse ++ f :: y :: D.reverse := by simp
  have e2 : ((D ++ [y']) ++ f' :: F).reverse = F.reverse ++ f' :: y' :: D.reverse := by simp
  rw [e, e2, List.set_append, if_neg (by simp; omega), List.set_append, if_neg (by simp; omega), List.length_reverse, h, Nat.sub_self, show n + 1 - n = 1 by omega]
  rfl
theorem psw_pid {n i : Nat} (hi : i + 1 < n) : pv n (psw n (pid n) i) = psg n i := by
  have e : pid n = pv n (pid n) := pa_ext (pk_len _ _) (pk_len _ _) fun j hj => by rw [pid_at hj, pv_pid hj]
  rw [e, pv_pmg (isP_pid n) hi, pv_pv ((isP_pid n).pm (isP_psg hi)), pid_pm (isP_psg hi)]
theorem psw_pdl {n i : Nat} (hi : i + 1 < n) : pv n (psw n (pdl n) i) = pdg n i := by
  conv => lhs; rw [← pv_pdl (n := n)]
  rw [pv_pmg (isP_pdl n) hi, pv_pv ((isP_pdl n).pm (isP_psg hi))]
  rfl
/-- What add has in hand ahead of the letter. -/
def adB (n : Nat) (x : Int) : List Nat := if 0 < x then pid n else pdl n
def adP (p x : Int) : Int := if 0 < x then p else p - 1
def adX (n : Nat) (X : List (List Nat)) (x : Int) : List (List Nat) := if 0 < x then X else X.map (pta n)
theorem rawS_is {n : Nat} {p x : Int} {X : List (List Nat)} (hx : LtN n x) : rawS n p X x = (adP p x, (pas n (adX n X x).reverse (pv n (psw n (adB n x) (x.natAbs - 1)))).reverse) := by
  have h1 := hx.1
  have h2 := hx.2
  unfold rawS adP adX adB
  split
  · rw [psw_pid (by omega)]
  · rw [psw_pdl (by omega)]
theorem isP_adB (n : Nat) (x : Int) : IsP n (adB n x) := by unfold adB; split; exact isP_pid n; exact isP_pdl n
theorem adX_len (n : Nat) (X : List (List Nat)) (x : Int) : (adX n X x).length = X.length := by unfold adX; split <;> simp
theorem adX_all {n : Nat} {X : List (List Nat)} (h : AllP n X) (x : Int) : AllP n (adX n X x) := by
  unfold adX
  split
  · exact h
  · intro y hy
    obtain ⟨z, hz, rfl⟩ := List.mem_map.1 hy
    exact isP_pta (h z hz)
theorem getD_mem {X : List (List Nat)} {k : Nat} (h : k < X.length) : X.getD k [] ∈ X := by
  rw [List.getD_eq_getElem?_getD, List.getElem?_eq_getElem h]
  exact List.getElem_mem h

set_option maxHeartbeats 16000000 in
set_option maxRecDepth 100000 in
theorem add_any (B hb n cap : Nat) (p x : Int) (a : Option Addr) (X : List (List Nat)) (w : World) (h2 : 2 ≤ n) (h6 : n ≤ 6) (hp : -1000 ≤ p ∧ p ≤ 1000) (hX : X.length ≤ 100) (hA : AllP n X) (hx : LtN n x) (h : FmAt w B hb n p a cap X) :
    Calls Try.prog 17 #[.pointer (some ⟨hb, 0, none⟩), .int .i64 x] w fun e w' => e = .returned (.tuple #[]) ∧ (∃ a' cap', FmAt w' B hb n (rawS n p X x).1 a' cap' (rawS n p X x).2) ∧ Below hb w w' := by
  obtain ⟨i2, hk, hz0, hz1, hz2⟩ := info_parts infoInts
  have HF0 := hid_g h
  have HAP := hid_g hA
  obtain ⟨hx1, hx2⟩ := hx
  have HRS := hid_g (rawS_is (p := p) (X := X) (⟨hx1, hx2⟩ : LtN n x))
  have HPL := hid_g (places_any n w h6)
  have lb0 : hb < w.heap.size := h.boxlt
  obtain ⟨c0, -, -, -, -⟩ := h.cells
  have HLX := hid_g (adX_len n X x)
  obtain ⟨sg, hsg⟩ : ∃ sg, decide (x < 0) = sg := ⟨_, rfl⟩
  have HSG := hid_g hsg
  clear h hA
  go_enter Try.func17, Try.ntmps17
  go_wp2_with (first
    | (go_at_call 22; refine HPL.out.mono ?_; rintro e9 w5 ⟨a5, c5, rfl, hr5, hg5⟩; refine Hid.out ?_))
  refine Lib.hid ?_
  obtain ⟨g5, c5', e5, -⟩ := own_block hr5 (by omega)
  injection e5 with e51 e52 e53
  subst e51 e53
  rw [eI_pid] at hr5
  have HR5 := hid_g hr5
  have HF5 := hid_g (HF0.out.any hg5)
  have HB5 : Hid (Below hb w w5) := (Below.refl _ _).grown hg5 (Nat.le_of_lt lb0) (fun k hk => by cases hk)
  have HBF : Hid (Below w.heap.size w w5) := (Below.refl _ _).grown hg5 (Nat.le_refl _) (fun k hk => by cases hk)
  have HG5 := hid_g (HR5.out.lt g5 rfl).1
  clear hr5 hg5 HPL c0
  go_upto_if 14 with (fail)
  go_cut [4, 5, 6] from 15 to 45 (fun s4 s5 s6 wx => ∃ g4 c4 : Nat, s4 = .slice (some ⟨g4, 0, none⟩) n c4 ∧ Hid (wx.ownsRow w.heap.size 3 1 (.slice (some ⟨g4, 0, none⟩) n c4) n (intsV (eI n (adB n x)))) ∧ Hid (∀ w', wx.grownBy w' (some g4) → FmAt w' B hb n (adP p x) a cap (adX n X x)) ∧ Hid (Below hb w wx))
  case first =>
    cases sg with
    | false =>
      have hp0 : 0 < x := by have := of_decide_eq_false HSG.out; omega
      have E1 : Hid (adB n x = pid n ∧ adP p x = p ∧ adX n X x = X) := (by unfold adB adP adX; rw [if_pos hp0, if_pos hp0, if_pos hp0]; exact ⟨rfl, rfl, rfl⟩ : adB n x = pid n ∧ adP p x = p ∧ adX n X x = X)
      go_wp2
      go_meet
      exact ⟨g5, c5, rfl, by rw [E1.out.1]; exact HR5.out, fun w' hw' => by rw [E1.out.2.1, E1.out.2.2]; exact HF0.out.any (fresh_keep HBF.out HG5.out hw'), HB5.out⟩
    | true =>
      have hp0 : ¬ 0 < x := by have := of_decide_eq_true HSG.out; omega
      have E1 : Hid (adB n x = pdl n ∧ adP p x = p - 1 ∧ adX n X x = X.map (pta n)) := (by unfold adB adP adX; rw [if_neg hp0, if_neg hp0, if_neg hp0]; exact ⟨rfl, rfl, rfl⟩ : adB n x = pdl n ∧ adP p x = p - 1 ∧ adX n X x = X.map (pta n))
      have ew : IntKind.i64.wrap (p - 1) = p - 1 := IntWalk.i64_in _ (by omega)
      obtain ⟨-, c1, -, f1, -⟩ := HF5.out.cells
      have lb5 := HF5.out.boxlt
      obtain ⟨hsP, hgP⟩ := HF5.out.setP (p - 1)
      have HF6 := hid_g hsP
      have HB6 := hid_g (HB5.out.grown hgP (Nat.le_of_lt HF5.out.boxlt) (fun k hk => by have := Option.some.inj hk; omega))
      clear hsP hgP
      go_upto_region 3 with (fail)
      generalize w5.setCell ⟨hb, 1, none⟩ (.int .i64 (p - 1)) = w6 at HF6 HB6 ⊢
      clear c1 f1 lb5
      obtain ⟨-, -, c2, -, -⟩ := HF6.out.cells
      have lb6 := HF6.out.boxlt
      obtain ⟨m, hm⟩ : ∃ m, X.length = m := ⟨_, rfl⟩
      have HM := hid_g hm
      rw [hm] at hX c2
      clear hm
      go_wp2
      clear c2 lb6
      go_loopw [5, 6, 27] (fun v5 v6 v27 wr => ∃ k : Nat, k ≤ m ∧ v27 = .int .i64 (k : Nat) ∧ Hid (FmAt wr B hb n (p - 1) a cap (ptK n X k)) ∧ Hid (Below hb w wr)) (fun _ _ v27 _ => m - (intOf v27).toNat)
      case atStart => exact ⟨0, Nat.zero_le _, rfl, by rw [ptK_zero]; exact HF6.out, HB6.out⟩
      case round =>
        clear HF6 HB6
        rename World => W1
        obtain ⟨k, hkn, rfl, hq, hbw⟩ := hrel
        have HLK : Hid ((ptK n X k).length = m) := (by rw [ptK_len, HM.out] : (ptK n X k).length = m)
        by_cases hk : k < m
        · have hkI : (k : Int) < (m : Int) := by omega
          obtain ⟨g, ea, hgB, hgs, hfz, hrow⟩ := hq.out.row (k := k) (by rw [HLK.out]; exact hk)
          obtain ⟨a2, c2, hc2, hr2⟩ := hrow k (by rw [HLK.out]; exact hk)
          subst ea
          rw [ptK_at (by rw [HM.out]; exact hk)] at hr2
          have HPS := hid_g (fun W (hW : Below W1.heap.size W1 W) => passed_any n c2 a2 (X.getD k []) W (by omega) (by omega) (HAP.out _ (getD_mem (by rw [HM.out]; exact hk))) ((hr2.on hW).mono hW.size))
          obtain ⟨-, -, cx, -, -⟩ := hq.out.cells
          rw [HLK.out] at cx
          have lbx := hq.out.boxlt
          have HQ := hid_g hq.out
          have HBW := hid_g hbw.out
          have HFZ := hid_g hfz
          clear hq hbw hrow hr2 hfz
          go_upto_region 6 with (fail)
          have HS : Hid (∀ W, Below W1.heap.size W1 W → (fun Y : World => Y.cell? ⟨hb, 2, none⟩ = some (.slice (some ⟨g, 0, none⟩) m cap) ∧ hb < Y.heap.size) W) := fun W hW => ⟨bcell hW (by have := HQ.out.boxlt; omega) (by have := HQ.out.cells.2.2.1; rw [HLK.out] at this; exact this), Nat.lt_of_lt_of_le HQ.out.boxlt hW.size⟩
          have HD : Hid (Below W1.heap.size W1 W1.drew) := (Below.refl _ _).drew
          refine rhd HS HD.out (fun hHeld => ?_)
          refine tq 32 0 (h := ?_)
          simp only [List.setIfInBounds_toArray, List.set_cons_succ, List.set_cons_zero]
          refine tq 33 1 (h := ?_)
          simp only [List.setIfInBounds_toArray, List.set_cons_succ, List.set_cons_zero]
          refine tq 34 2 (h := ?_)
          simp only [List.setIfInBounds_toArray, List.set_cons_succ, List.set_cons_zero]
          refine tq 35 3 (h := ?_)
          simp only [List.setIfInBounds_toArray, List.set_cons_succ, List.set_cons_zero]
          refine tq 36 4 (h := ?_)
          simp only [List.setIfInBounds_toArray, List.set_cons_succ, List.set_cons_zero]
          refine tq 37 5 (h := ?_)
          simp only [List.setIfInBounds_toArray, List.set_cons_succ, List.set_cons_zero]
          clear hHeld
          have HPD := hid_g (HPS.out W1.drew HD.out)
          refine rd1 6 ?_
          intro K0 hK0
          go_simp
          go_wp2_with (first | (go_at_call 23; refine HPD.out.mono ?_; rintro e9 w7 ⟨g7, c7, rfl, hr7, hb7⟩))
          have HB7 := hid_g (HD.out.trans (hb7.mono HD.out.size))
          have HR7 := hid_g (RdT.of_own hr7)
          clear hb7 hr7 HPD
          refine hK0.out _ _ (HS.out _ HB7.out) (fun hHeld => ?_)
          clear hK0 K0
          (try simp only [Act.put])
          (try simp only [List.getElem_toArray])
          (try simp only [List.getElem_cons_succ])
          (try simp only [List.getElem_cons_zero])
          (try simp only [List.setIfInBounds_toArray, List.set_cons_succ, List.set_cons_zero])
          have hg7 : g < w7.heap.size := Nat.lt_of_lt_of_le hgs HB7.out.size
          have HF7 := hid_g (HQ.out.any (grown_below HB7.out none))
          obtain ⟨hst, hgw⟩ := HF7.out.set1 (k := k) (by rw [HLK.out]; exact hk) HR7.out
          rw [ptK_next (by rw [HM.out]; exact hk)] at hst
          have HST := hid_g hst
          have HBS := hid_g ((HBW.out.grown (grown_below HB7.out none) (Nat.le_of_lt HQ.out.boxlt) (fun k hk => by cases hk)).grown hgw (Nat.le_of_lt HF7.out.boxlt) (fun q hq => by have h3 := Option.some.inj hq; have := HQ.out.lt; omega))
          obtain ⟨a9, c9, hc9, -⟩ : ∃ a9 c9, w7.cell? ⟨g, k, none⟩ = some (.slice a9 n c9) ∧ True := by
            obtain ⟨g', eg, -, -, -, hrow⟩ := HF7.out.row (k := k) (by rw [HLK.out]; exact hk)
            injection eg with eg
            injection eg with eg
            subst eg
            obtain ⟨a9, c9, h9, -⟩ := hrow k (by rw [HLK.out]; exact hk)
            exact ⟨a9, c9, h9, trivial⟩
          have hf9 : w7.frozen? ⟨g, k, none⟩ = false := by
            obtain ⟨g', eg, -, -, hfz, -⟩ := HF7.out.row (k := k) (by rw [HLK.out]; exact hk)
            injection eg with eg
            injection eg with eg
            subst eg
            exact hfz k
          have hS9 : (fun Y : World => Y.cell? ⟨hb, 2, none⟩ = some (.slice (some ⟨g, 0, none⟩) m cap) ∧ hb < Y.heap.size) (w7.setCell ⟨g, k, none⟩ (.slice (some ⟨g7, 0, none⟩) n c7)) := ⟨by have := HST.out.cells.2.2.1; rw [ptK_len, HM.out] at this; exact this, HST.out.boxlt⟩
          clear hst hgw HF7 HR7 HB7
          refine tq 39 7 (h := ?_)
          simp only [List.setIfInBounds_toArray, List.set_cons_succ, List.set_cons_zero]
          clear hHeld
          refine rd1 8 ?_
          intro K0 hK0
          go_simp
          refine hK0.out _ _ hS9 (fun hHeld => ?_)
          clear hK0 K0 hS9 hHeld
          refine wpAnyH_done (by kernel_rfl) ?_ _
          clear HPS HQ HBW HFZ hc2 cx
          go_wp2
          go_roundw
          case rel => exact ⟨k + 1, by omega, by go_num, HST.out, HBS.out⟩
          case measure => simp only [intOf]; omega
        · obtain rfl : k = m := by omega
          have HQ : Hid (FmAt W1 B hb n (p - 1) a cap (X.map (pta n))) := (by have := hq.out; rw [← HM.out, ptK_all] at this; exact this)
          obtain ⟨c0, -, -, -, -⟩ := HQ.out.cells
          have lbx := HQ.out.boxlt
          have HDL := hid_g (delta_any n W1 h2 h6)
          clear hq
          go_wp2_with (first
            | (go_at_call 24; refine HDL.out.mono ?_; rintro e9 w8 ⟨g8, c8, rfl, hr8, hb8⟩; refine Hid.out ?_))
          refine Lib.hid ?_
          have HFN : Hid (w8.ownsRow w.heap.size 3 1 (.slice (some ⟨g8, 0, none⟩) n c8) n (intsV (eI n (adB n x))) ∧ (∀ w', w8.grownBy w' (some g8) → FmAt w' B hb n (adP p x) a cap (adX n X x)) ∧ Below hb w w8) := (by
            rw [E1.out.1, E1.out.2.1, E1.out.2.2]
            exact ⟨own_lowG hr8 hbw.out.size, fun w' hw' => HQ.out.any (fresh_keep hb8 (hr8.lt g8 rfl).1 hw'), hbw.out.grown (grown_below hb8 none) (Nat.le_of_lt HQ.out.boxlt) (fun k hk => by cases hk)⟩)
          clear hr8 hb8 HDL c0
          go_wp2
          go_meet
          exact ⟨g8, c8, rfl, HFN.out.1, HFN.out.2.1, HFN.out.2.2⟩
  case rest =>
    rename World => wa
    obtain ⟨g4, c4, rfl, HR4, HF4, HB4⟩ := hcut
    rename Value => v6
    obtain ⟨i, hi⟩ : ∃ i, x.natAbs - 1 = i := ⟨_, rfl⟩
    have hi1 : i + 1 < n := by omega
    have HXI : Hid ((x.natAbs : Int) = (i : Int) + 1) := (by omega : (x.natAbs : Int) = (i : Int) + 1)
    have HSZ : Hid (∀ W, Calls Try.prog 26 #[.int .i64 x] W fun e w' => e = .returned (.int .i64 ((i : Int) + 1)) ∧ w' = W) := fun W => by rw [← HXI.out]; exact brSize_any x W (by omega) (by omega)
    have HRS2 : Hid (rawS n p X x = (adP p x, (pas n (adX n X x).reverse (pv n (psw n (adB n x) i))).reverse)) := (by rw [← hi]; exact HRS.out : rawS n p X x = (adP p x, (pas n (adX n X x).reverse (pv n (psw n (adB n x) i))).reverse))
    have HTR : Hid (Calls Try.prog 25 #[.slice (some ⟨g4, 0, none⟩) n c4, .int .i64 ((i : Int) + 1)] wa fun e w' => e = .returned (.tuple #[]) ∧ w'.ownsRow w.heap.size 3 1 (.slice (some ⟨g4, 0, none⟩) n c4) n (intsV (eI n (psw n (adB n x) i))) ∧ wa.grownBy w' (some g4)) := (by
      have h5 := trade_any w.heap.size g4 c4 n (i + 1) i (eI n (adB n x)) wa (eI_len _ _) (by omega) hi1 rfl HR4.out
      rw [eI_trd hi1] at h5
      exact h5)
    have HBW0 : Hid (hb < w.heap.size) := lb0
    have HAX := hid_g (adX_all HAP.out x)
    have HIS := hid_g (isP_psw hi1 (isP_adB n x))
    clear hi HXI HRS HF5 HR5 HB5 HF0 HSG
    go_wp2_with (first
      | (go_at_call 26; refine (HSZ.out _).mono ?_; rintro e9 w7 ⟨rfl, rfl⟩; refine Hid.out ?_))
    refine Lib.hid ?_
    go_wp2_with (first
      | (go_at_call 25; refine HTR.out.mono ?_; rintro e9 w8 ⟨rfl, hr8, hg8⟩; refine Hid.out ?_))
    refine Lib.hid ?_
    have HF8 := hid_g (HF4.out w8 hg8)
    have HR8 := hid_g hr8
    have HB8 := hid_g (HB4.out.grown hg8 (by have := HB4.out.size; omega) (fun k hk => by have h3 := Option.some.inj hk; have := (HR4.out.lt g4 rfl).1; omega))
    have HG4 := hid_g (HR4.out.lt g4 rfl).1
    clear hr8 hg8 HTR HSZ HR4 HF4 HB4
    obtain ⟨pp, hpp⟩ : ∃ pp, adP p x = pp := ⟨_, rfl⟩
    obtain ⟨XX, hXX⟩ : ∃ XX, adX n X x = XX := ⟨_, rfl⟩
    obtain ⟨bb, hbb⟩ : ∃ bb, psw n (adB n x) i = bb := ⟨_, rfl⟩
    rw [hpp, hXX] at HF8 HRS2
    rw [hXX] at HAX HLX
    rw [hbb] at HR8 HIS HRS2
    clear hpp hXX hbb
    obtain ⟨m, hm⟩ : ∃ m, X.length = m := ⟨_, rfl⟩
    rw [hm] at hX HLX
    clear hm
    go_upto_region 10 with (fail)
    go_cut [] from 50 to 60 (fun wx => Hid (∃ a8 cap8, FmAt wx B hb n pp a8 cap8 (XX ++ [pv n bb])) ∧ Hid (Below hb w wx))
    case first =>
      have HD : Hid (w8.grownBy w8.drew none) := grown_below (Below.refl _ _).drew none
      have HFD := hid_g (HF8.out.any HD.out)
      have HBD := hid_g (HB8.out.grown HD.out (Nat.le_of_lt HF8.out.boxlt) (fun k hk => by cases hk))
      have HTD : Hid (Calls Try.prog 27 #[.slice (some ⟨g4, 0, none⟩) n c4] w8.drew fun e w' => ∃ a c, e = .returned (.slice a n c) ∧ w'.ownsRow w8.drew.heap.size 3 1 (.slice a n c) n (intsV (eI n (pv n bb))) ∧ Below w8.drew.heap.size w8.drew w') := (by
        rw [← eI_endT HIS.out]
        exact turnedRound_any _ n _ _ (by omega) (eI_ok HIS.out) (own_rd (own_any HR8.out HD.out)))
      have HXL : Hid (XX.length = m) := HLX.out
      have hlD : hb < w8.drew.heap.size := HFD.out.boxlt
      have cD : w8.drew.cell? ⟨hb, 2, none⟩ = some (.slice a m cap) := by have := HFD.out.cells.2.2.1; rw [HXL.out] at this; exact this
      refine rhd (S := fun _ => True) (R := fun _ => True) (fun _ _ => trivial) trivial (fun hHeld => ?_)
      generalize w8.drew = D at HD HFD HBD HTD hlD cD ⊢
      refine tq 50 0 (h := ?_)
      simp only [List.setIfInBounds_toArray, List.set_cons_succ, List.set_cons_zero]
      refine tq 51 1 (h := ?_)
      simp only [List.setIfInBounds_toArray, List.set_cons_succ, List.set_cons_zero]
      refine tq 52 2 (h := ?_)
      simp only [List.setIfInBounds_toArray, List.set_cons_succ, List.set_cons_zero]
      refine tq 53 3 (h := ?_)
      simp only [List.setIfInBounds_toArray, List.set_cons_succ, List.set_cons_zero]
      refine tq 55 5 (h := ?_)
      simp only [List.setIfInBounds_toArray, List.set_cons_succ, List.set_cons_zero]
      refine rd2 4 6 ?_ ?_
      · intro K0 hK0
        go_simp
        refine hK0.out _ _ trivial (fun hHeld => ?_)
        clear hK0 K0
        (try simp only [Act.put])
        (try simp only [List.getElem_toArray])
        (try simp only [List.getElem_cons_succ])
        (try simp only [List.getElem_cons_zero])
        (try simp only [List.setIfInBounds_toArray, List.set_cons_succ, List.set_cons_zero])
        refine rd1 6 ?_
        intro K0 hK0
        go_simp
        go_wp2_with (first | (go_at_call 27; refine HTD.out.mono ?_; rintro e9 w9 ⟨a9, c9, rfl, hr9, hb9⟩))
        have HR9 := hid_g (RdT.of_own hr9)
        have HG9 : Hid (D.grownBy w9 none) := grown_below hb9 none
        have HF9 := hid_g (HFD.out.any HG9.out)
        have HB9 := hid_g (HBD.out.grown HG9.out (Nat.le_of_lt HFD.out.boxlt) (fun k hk => by cases hk))
        have hl9 : hb < w9.heap.size := HF9.out.boxlt
        have cc9 : w9.cell? ⟨hb, 2, none⟩ = some (.slice a m cap) := by have := HF9.out.cells.2.2.1; rw [HXL.out] at this; exact this
        clear hr9 hb9
        refine hK0.out _ _ trivial (fun hHeld => ?_)
        clear hK0 K0
        (try simp only [Act.put])
        (try simp only [List.getElem_toArray])
        (try simp only [List.getElem_cons_succ])
        (try simp only [List.getElem_cons_zero])
        (try simp only [List.setIfInBounds_toArray, List.set_cons_succ, List.set_cons_zero])
        refine rd1 7 ?_
        intro K0 hK0
        go_simp
        refine hK0.out _ _ trivial (fun hHeld => ?_)
        clear hK0 K0
        (try simp only [Act.put])
        (try simp only [List.getElem_toArray])
        (try simp only [List.getElem_cons_succ])
        (try simp only [List.getElem_cons_zero])
        (try simp only [List.setIfInBounds_toArray, List.set_cons_succ, List.set_cons_zero])
        refine rd1 8 ?_
        intro K0 hK0
        obtain ⟨ys, hy1, hy2⟩ := HF9.out.own
        have HY1 := hid_g hy1
        have HY2 := hid_g hy2
        have HYV : Hid ((w9.alloc (.cells #[.slice a9 n c9] 22)).ownsRow B 22 1 (.slice a m cap) m ys) := (by have h3 := own_any hy1 (World.grownBy_alloc w9 (.cells #[.slice a9 n c9] 22) _); rw [HXL.out] at h3; exact h3)
        have hBle : B ≤ (w9.alloc (.cells #[.slice a9 n c9] 22)).heap.size := by have := HF9.out.le; simp; omega
        clear hy1 hy2
        refine step_append_ownB rfl (.tmp 54) (.tmp 57) 23 rfl B 22 i2 (.slice none 0 0) 1 24 Try.underlying23 hk hz0 hz1 hz2 rfl (by decide) _ m ys (by simp [Act.eval]) HYV.out ⟨w9.heap.size, 0, none⟩ 1 1 [.slice a9 n c9] (by simp [Act.eval]) rfl (new_cell1 _ _ _) (fun u hu => by rw [List.mem_singleton.1 hu]; rfl) (by unfold maxLen; omega) (by omega) hBle ?_
        intro v10 w10 hown10 hg10
        obtain ⟨a10, cap10, rfl, hF10, hz10, hl10, ⟨u10, hu10⟩, hB10⟩ := HF9.out.push (v8 := v10) HY1.out HY2.out HR9.out (by rw [HXL.out]; exact hown10) (by rw [HXL.out]; exact hg10)
        have HF10 := hid_g hF10
        have HB10 := hid_g (HB9.out.trans hB10)
        clear hown10 hg10 hF10 hB10 HY1 HY2 HYV hBle
        refine hK0.out _ _ trivial (fun hHeld => ?_)
        clear hK0 K0
        (try simp only [Act.put])
        (try simp only [List.getElem_toArray])
        (try simp only [List.getElem_cons_succ])
        (try simp only [List.getElem_cons_zero])
        (try simp only [List.setIfInBounds_toArray, List.set_cons_succ, List.set_cons_zero])
        refine tq 59 9 (h := ?_)
        simp only [List.setIfInBounds_toArray, List.set_cons_succ, List.set_cons_zero]
        refine tq 60 10 (h := ?_)
        simp only [List.setIfInBounds_toArray, List.set_cons_succ, List.set_cons_zero]
        clear hHeld
        refine rd1 11 ?_
        intro K0 hK0
        go_simp
        refine hK0.out _ _ trivial (fun hHeld => ?_)
        clear hK0 K0
        refine wpAnyH_done (by kernel_rfl) ?_ _
        go_wp2
        go_meet
        exact ⟨⟨a10, cap10, HF10.out⟩, HB10.out⟩
      · intro K0 hK0
        go_simp
        go_wp2_with (first | (go_at_call 27; refine HTD.out.mono ?_; rintro e9 w9 ⟨a9, c9, rfl, hr9, hb9⟩))
        have HR9 := hid_g (RdT.of_own hr9)
        have HG9 : Hid (D.grownBy w9 none) := grown_below hb9 none
        have HF9 := hid_g (HFD.out.any HG9.out)
        have HB9 := hid_g (HBD.out.grown HG9.out (Nat.le_of_lt HFD.out.boxlt) (fun k hk => by cases hk))
        have hl9 : hb < w9.heap.size := HF9.out.boxlt
        have cc9 : w9.cell? ⟨hb, 2, none⟩ = some (.slice a m cap) := by have := HF9.out.cells.2.2.1; rw [HXL.out] at this; exact this
        clear hr9 hb9
        refine hK0.out _ _ trivial (fun hHeld => ?_)
        clear hK0 K0
        (try simp only [Act.put])
        (try simp only [List.getElem_toArray])
        (try simp only [List.getElem_cons_succ])
        (try simp only [List.getElem_cons_zero])
        (try simp only [List.setIfInBounds_toArray, List.set_cons_succ, List.set_cons_zero])
        refine rd2 4 7 ?_ ?_
        · intro K0 hK0
          go_simp
          refine hK0.out _ _ trivial (fun hHeld => ?_)
          clear hK0 K0
          (try simp only [Act.put])
          (try simp only [List.getElem_toArray])
          (try simp only [List.getElem_cons_succ])
          (try simp only [List.getElem_cons_zero])
          (try simp only [List.setIfInBounds_toArray, List.set_cons_succ, List.set_cons_zero])
          refine rd1 7 ?_
          intro K0 hK0
          go_simp
          refine hK0.out _ _ trivial (fun hHeld => ?_)
          clear hK0 K0
          (try simp only [Act.put])
          (try simp only [List.getElem_toArray])
          (try simp only [List.getElem_cons_succ])
          (try simp only [List.getElem_cons_zero])
          (try simp only [List.setIfInBounds_toArray, List.set_cons_succ, List.set_cons_zero])
          refine rd1 8 ?_
          intro K0 hK0
          obtain ⟨ys, hy1, hy2⟩ := HF9.out.own
          have HY1 := hid_g hy1
          have HY2 := hid_g hy2
          have HYV : Hid ((w9.alloc (.cells #[.slice a9 n c9] 22)).ownsRow B 22 1 (.slice a m cap) m ys) := (by have h3 := own_any hy1 (World.grownBy_alloc w9 (.cells #[.slice a9 n c9] 22) _); rw [HXL.out] at h3; exact h3)
          have hBle : B ≤ (w9.alloc (.cells #[.slice a9 n c9] 22)).heap.size := by have := HF9.out.le; simp; omega
          clear hy1 hy2
          refine step_append_ownB rfl (.tmp 54) (.tmp 57) 23 rfl B 22 i2 (.slice none 0 0) 1 24 Try.underlying23 hk hz0 hz1 hz2 rfl (by decide) _ m ys (by simp [Act.eval]) HYV.out ⟨w9.heap.size, 0, none⟩ 1 1 [.slice a9 n c9] (by simp [Act.eval]) rfl (new_cell1 _ _ _) (fun u hu => by rw [List.mem_singleton.1 hu]; rfl) (by unfold maxLen; omega) (by omega) hBle ?_
          intro v10 w10 hown10 hg10
          obtain ⟨a10, cap10, rfl, hF10, hz10, hl10, ⟨u10, hu10⟩, hB10⟩ := HF9.out.push (v8 := v10) HY1.out HY2.out HR9.out (by rw [HXL.out]; exact hown10) (by rw [HXL.out]; exact hg10)
          have HF10 := hid_g hF10
          have HB10 := hid_g (HB9.out.trans hB10)
          clear hown10 hg10 hF10 hB10 HY1 HY2 HYV hBle
          refine hK0.out _ _ trivial (fun hHeld => ?_)
          clear hK0 K0
          (try simp only [Act.put])
          (try simp only [List.getElem_toArray])
          (try simp only [List.getElem_cons_succ])
          (try simp only [List.getElem_cons_zero])
          (try simp only [List.setIfInBounds_toArray, List.set_cons_succ, List.set_cons_zero])
          refine tq 59 9 (h := ?_)
          simp only [List.setIfInBounds_toArray, List.set_cons_succ, List.set_cons_zero]
          refine tq 60 10 (h := ?_)
          simp only [List.setIfInBounds_toArray, List.set_cons_succ, List.set_cons_zero]
          clear hHeld
          refine rd1 11 ?_
          intro K0 hK0
          go_simp
          refine hK0.out _ _ trivial (fun hHeld => ?_)
          clear hK0 K0
          refine wpAnyH_done (by kernel_rfl) ?_ _
          go_wp2
          go_meet
          exact ⟨⟨a10, cap10, HF10.out⟩, HB10.out⟩
        · intro K0 hK0
          go_simp
          refine hK0.out _ _ trivial (fun hHeld => ?_)
          clear hK0 K0
          (try simp only [Act.put])
          (try simp only [List.getElem_toArray])
          (try simp only [List.getElem_cons_succ])
          (try simp only [List.getElem_cons_zero])
          (try simp only [List.setIfInBounds_toArray, List.set_cons_succ, List.set_cons_zero])
          refine rd1 4 ?_
          intro K0 hK0
          go_simp
          refine hK0.out _ _ trivial (fun hHeld => ?_)
          clear hK0 K0
          (try simp only [Act.put])
          (try simp only [List.getElem_toArray])
          (try simp only [List.getElem_cons_succ])
          (try simp only [List.getElem_cons_zero])
          (try simp only [List.setIfInBounds_toArray, List.set_cons_succ, List.set_cons_zero])
          refine rd1 8 ?_
          intro K0 hK0
          obtain ⟨ys, hy1, hy2⟩ := HF9.out.own
          have HY1 := hid_g hy1
          have HY2 := hid_g hy2
          have HYV : Hid ((w9.alloc (.cells #[.slice a9 n c9] 22)).ownsRow B 22 1 (.slice a m cap) m ys) := (by have h3 := own_any hy1 (World.grownBy_alloc w9 (.cells #[.slice a9 n c9] 22) _); rw [HXL.out] at h3; exact h3)
          have hBle : B ≤ (w9.alloc (.cells #[.slice a9 n c9] 22)).heap.size := by have := HF9.out.le; simp; omega
          clear hy1 hy2
          refine step_append_ownB rfl (.tmp 54) (.tmp 57) 23 rfl B 22 i2 (.slice none 0 0) 1 24 Try.underlying23 hk hz0 hz1 hz2 rfl (by decide) _ m ys (by simp [Act.eval]) HYV.out ⟨w9.heap.size, 0, none⟩ 1 1 [.slice a9 n c9] (by simp [Act.eval]) rfl (new_cell1 _ _ _) (fun u hu => by rw [List.mem_singleton.1 hu]; rfl) (by unfold maxLen; omega) (by omega) hBle ?_
          intro v10 w10 hown10 hg10
          obtain ⟨a10, cap10, rfl, hF10, hz10, hl10, ⟨u10, hu10⟩, hB10⟩ := HF9.out.push (v8 := v10) HY1.out HY2.out HR9.out (by rw [HXL.out]; exact hown10) (by rw [HXL.out]; exact hg10)
          have HF10 := hid_g hF10
          have HB10 := hid_g (HB9.out.trans hB10)
          clear hown10 hg10 hF10 hB10 HY1 HY2 HYV hBle
          refine hK0.out _ _ trivial (fun hHeld => ?_)
          clear hK0 K0
          (try simp only [Act.put])
          (try simp only [List.getElem_toArray])
          (try simp only [List.getElem_cons_succ])
          (try simp only [List.getElem_cons_zero])
          (try simp only [List.setIfInBounds_toArray, List.set_cons_succ, List.set_cons_zero])
          refine tq 59 9 (h := ?_)
          simp only [List.setIfInBounds_toArray, List.set_cons_succ, List.set_cons_zero]
          refine tq 60 10 (h := ?_)
          simp only [List.setIfInBounds_toArray, List.set_cons_succ, List.set_cons_zero]
          clear hHeld
          refine rd1 11 ?_
          intro K0 hK0
          go_simp
          refine hK0.out _ _ trivial (fun hHeld => ?_)
          clear hK0 K0
          refine wpAnyH_done (by kernel_rfl) ?_ _
          go_wp2
          go_meet
          exact ⟨⟨a10, cap10, HF10.out⟩, HB10.out⟩
    case rest =>
      rename World => wc
      obtain ⟨⟨a8, cap8, HF9⟩, HB9⟩ := hcut
      have HF9 := hid_g HF9
      obtain ⟨-, -, c2, -, -⟩ := HF9.out.cells
      rw [List.length_append, List.length_singleton, HLX.out] at c2
      have lb9 := HF9.out.boxlt
      have ew : IntKind.i64.wrap (((m + 1 : Nat) : Int) - 1) = (m : Int) := by rw [IntWalk.i64_in _ (by omega)]; omega
      have HYB := hid_g HIS.out.pv
      obtain ⟨y0, hy0⟩ : ∃ y0, pv n bb = y0 := ⟨_, rfl⟩
      rw [hy0] at HF9 HRS2 HYB
      have HG : Hid (rawS n p X x = (pp, (pas n XX.reverse y0).reverse)) := HRS2.out
      clear hy0 HRS2 HR8 HF8 HB8 HIS
      go_wp2
      clear c2 lb9
      go_loopw [7] (fun v7 wr => ∃ (D F : List (List Nat)) (y : List Nat) (k : Nat), k ≤ m ∧ v7 = .int .i64 (k : Nat) ∧ Hid (F.length = k ∧ D ++ pas n F y = pas n XX.reverse y0 ∧ AllP n F ∧ IsP n y) ∧ Hid (FmAt wr B hb n pp a8 cap8 (D ++ y :: F).reverse ∧ (D ++ y :: F).reverse.length = m + 1) ∧ Hid (Below hb w wr)) (fun v7 _ => (intOf v7).toNat)
      case atStart =>
        refine ⟨[], XX.reverse, y0, m, Nat.le_refl _, rfl, ⟨by rw [List.length_reverse, HLX.out], rfl, fun z hz => HAX.out z (List.mem_reverse.1 hz), HYB.out⟩, ?_, HB9.out⟩
        have e : ([] ++ y0 :: XX.reverse).reverse = XX ++ [y0] := by simp
        rw [e]
        exact ⟨HF9.out, by rw [List.length_append, HLX.out]; rfl⟩
      case round =>
        clear HF9 HB9
        rename World => W1
        obtain ⟨D, F, y, k, hkm, rfl, hs, hq, hbw⟩ := hrel
        cases k with
        | zero =>
          have HFN : Hid ((∃ a' cap', FmAt W1 B hb n (rawS n p X x).1 a' cap' (rawS n p X x).2) ∧ Below hb w W1) := (by
            refine ⟨⟨a8, cap8, ?_⟩, hbw.out⟩
            obtain ⟨s1, s2, -, -⟩ := hs.out
            have hF : F = [] := List.length_eq_zero_iff.1 s1
            subst hF
            have h3 := hq.out.1
            have e : D ++ [y] = pas n XX.reverse y0 := s2
            rw [e] at h3
            rw [HG.out]
            exact h3)
          have hd : decide ((0 : Int) < ((0 : Nat) : Int)) = false := rfl
          clear hq hs hbw
          go_wp2
          exact bodyPost_end (v := .tuple #[]) (results_none rfl _ _ _) rfl ⟨rfl, HFN.out⟩
        | succ j =>
          obtain ⟨f, F', rfl⟩ : ∃ f F', F = f :: F' := by
            cases F with
            | nil => exact absurd hs.out.1 (by simp)
            | cons f F' => exact ⟨f, F', rfl⟩
          have HFJ : Hid (F'.length = j) := (by have := hs.out.1; simp at this; exact this : F'.length = j)
          have HNX : Hid ((D ++ [(settle n f y).2]) ++ pas n F' (settle n f y).1 = pas n XX.reverse y0 ∧ AllP n F' ∧ IsP n (settle n f y).1) := (by
            obtain ⟨-, s2, s3, s4⟩ := hs.out
            refine ⟨?_, fun z hz => s3 z (.tail _ hz), (isP_settle (s3 f (.head _)) s4).1⟩
            rw [← s2, List.append_assoc]
            rfl)
          have HPF : Hid (IsP n f ∧ IsP n y) := ⟨hs.out.2.2.1 f (.head _), hs.out.2.2.2⟩
          obtain ⟨g, ea, hgB, hgs, hfz, hrow⟩ := hq.out.1.row (k := j) (by rw [hq.out.2]; omega)
          obtain ⟨M, hM⟩ : ∃ M, m + 1 = M := ⟨_, rfl⟩
          have HM := hid_g hM
          obtain ⟨a3, c3, hc3, hr3⟩ := hrow j (by rw [hq.out.2]; omega)
          obtain ⟨a4, c4', hc4, hr4⟩ := hrow (j + 1) (by rw [hq.out.2]; omega)
          rw [(mid_at HFJ.out).1] at hr3
          rw [(mid_at HFJ.out).2] at hr4
          have HQ : Hid (FmAt W1 B hb n pp (some ⟨g, 0, none⟩) cap8 (D ++ y :: f :: F').reverse ∧ (D ++ y :: f :: F').reverse.length = M) := (by rw [← ea, ← hM]; exact hq.out : FmAt W1 B hb n pp (some ⟨g, 0, none⟩) cap8 (D ++ y :: f :: F').reverse ∧ (D ++ y :: f :: F').reverse.length = M)
          have HEA : Hid (a8 = some ⟨g, 0, none⟩) := ea
          have HST := hid_g (fun W (hW : Below W1.heap.size W1 W) => settled_any n c3 c4' a3 a4 f y W h2 (by omega) HPF.out.1 HPF.out.2 ((hr3.on hW).mono hW.size) ((hr4.on hW).mono hW.size))
          have HBW := hid_g hbw.out
          have HC34 : Hid (∀ W, Below W1.heap.size W1 W → W.cell? ⟨g, j, none⟩ = some (.slice a3 n c3) ∧ W.cell? ⟨g, j + 1, none⟩ = some (.slice a4 n c4')) := fun W hW => ⟨bcell hW hgs hc3, bcell hW hgs hc4⟩
          have HS : Hid (∀ W, Below W1.heap.size W1 W → (fun Y : World => Y.cell? ⟨hb, 2, none⟩ = some (.slice (some ⟨g, 0, none⟩) M cap8) ∧ hb < Y.heap.size ∧ g < Y.heap.size) W) := fun W hW => ⟨bcell hW HQ.out.1.boxlt (by have := HQ.out.1.cells.2.2.1; rw [HQ.out.2] at this; exact this), Nat.lt_of_lt_of_le HQ.out.1.boxlt hW.size, Nat.lt_of_lt_of_le hgs hW.size⟩
          have HD : Hid (Below W1.heap.size W1 W1.drew) := (Below.refl _ _).drew
          have hd : decide ((0 : Int) < ((j + 1 : Nat) : Int)) = true := decide_eq_true (by omega)
          have hcast : ((j + 1 : Nat) : Int) = (j : Int) + 1 := by omega
          have ew1 : IntKind.i64.wrap ((j : Int) + 1 - 1) = (j : Int) := by rw [IntWalk.i64_in _ (by omega)]; omega
          have hj1 : j < M := by omega
          have hj2 : j + 1 < M := by omega
          have hjI1 : (j : Int) < (M : Int) := by omega
          have hjI2 : (j : Int) + 1 < (M : Int) := by omega
          have hjI3 : (0 : Int) ≤ (j : Int) + 1 := by omega
          have hjI4 : (0 : Int) ≤ (j : Int) := by omega
          have hjT1 : ((j : Int) + 1).toNat = j + 1 := by omega
          have ew2 : IntKind.i64.wrap (j : Int) = (j : Int) := IntWalk.i64_in _ (by omega)
          have ew3 : IntKind.i64.wrap ((j : Int) + 1) = (j : Int) + 1 := IntWalk.i64_in _ (by omega)
          rw [hcast] at hd ⊢
          clear hq hs hbw hrow hr3 hr4 hfz ea hc3 hc4 hcast hM
          go_upto_region 14 with (fail)
          refine rhd HS HD.out (fun hHeld => ?_)
          refine tq 72 0 (h := ?_)
          simp only [List.setIfInBounds_toArray, List.set_cons_succ, List.set_cons_zero]
          refine tq 73 1 (h := ?_)
          simp only [List.setIfInBounds_toArray, List.set_cons_succ, List.set_cons_zero]
          refine tq 74 2 (h := ?_)
          simp only [List.setIfInBounds_toArray, List.set_cons_succ, List.set_cons_zero]
          refine tq 75 3 (h := ?_)
          simp only [List.setIfInBounds_toArray, List.set_cons_succ, List.set_cons_zero]
          refine tq 76 4 (h := ?_)
          simp only [List.setIfInBounds_toArray, List.set_cons_succ, List.set_cons_zero]
          refine tq 77 5 (h := ?_)
          simp only [List.setIfInBounds_toArray, List.set_cons_succ, List.set_cons_zero]
          refine tq 78 6 (h := ?_)
          simp only [List.setIfInBounds_toArray, List.set_cons_succ, List.set_cons_zero]
          refine tq 79 7 (h := ?_)
          simp only [List.setIfInBounds_toArray, List.set_cons_succ, List.set_cons_zero]
          refine tq 80 8 (h := ?_)
          simp only [List.setIfInBounds_toArray, List.set_cons_succ, List.set_cons_zero]
          refine tq 81 9 (h := ?_)
          simp only [List.setIfInBounds_toArray, List.set_cons_succ, List.set_cons_zero]
          refine tq 82 10 (h := ?_)
          simp only [List.setIfInBounds_toArray, List.set_cons_succ, List.set_cons_zero]
          refine tq 83 11 (h := ?_)
          simp only [List.setIfInBounds_toArray, List.set_cons_succ, List.set_cons_zero]
          refine tq 84 12 (h := ?_)
          simp only [List.setIfInBounds_toArray, List.set_cons_succ, List.set_cons_zero]
          refine tq 85 13 (h := ?_)
          simp only [List.setIfInBounds_toArray, List.set_cons_succ, List.set_cons_zero]
          refine tq 86 14 (h := ?_)
          simp only [List.setIfInBounds_toArray, List.set_cons_succ, List.set_cons_zero]
          refine tq 87 15 (h := ?_)
          simp only [List.setIfInBounds_toArray, List.set_cons_succ, List.set_cons_zero]
          refine tq 88 16 (h := ?_)
          simp only [List.setIfInBounds_toArray, List.set_cons_succ, List.set_cons_zero]
          refine tq 89 17 (h := ?_)
          simp only [List.setIfInBounds_toArray, List.set_cons_succ, List.set_cons_zero]
          refine tq 91 19 (h := ?_)
          simp only [List.setIfInBounds_toArray, List.set_cons_succ, List.set_cons_zero]
          refine tq 92 20 (h := ?_)
          simp only [List.setIfInBounds_toArray, List.set_cons_succ, List.set_cons_zero]
          refine tq 93 21 (h := ?_)
          simp only [List.setIfInBounds_toArray, List.set_cons_succ, List.set_cons_zero]
          refine tq 94 22 (h := ?_)
          simp only [List.setIfInBounds_toArray, List.set_cons_succ, List.set_cons_zero]
          refine tq 95 23 (h := ?_)
          simp only [List.setIfInBounds_toArray, List.set_cons_succ, List.set_cons_zero]
          refine tq 96 24 (h := ?_)
          simp only [List.setIfInBounds_toArray, List.set_cons_succ, List.set_cons_zero]
          clear hHeld
          obtain ⟨cd3, cd4⟩ := HC34.out _ HD.out
          have hgD : g < W1.drew.heap.size := hgs
          have HSD := hid_g (HST.out _ HD.out)
          have HSW := hid_g (HS.out _ HD.out)
          refine rd2 18 25 ?_ ?_
          · intro K0 hK0
            go_simp
            refine hK0.out _ _ HSW.out (fun hHeld => ?_)
            clear hK0 K0
            (try simp only [Act.put])
            (try simp only [List.getElem_toArray])
            (try simp only [List.getElem_cons_succ])
            (try simp only [List.getElem_cons_zero])
            (try simp only [List.setIfInBounds_toArray, List.set_cons_succ, List.set_cons_zero])
            refine rd1 25 ?_
            intro K0 hK0
            go_simp
            refine hK0.out _ _ HSW.out (fun hHeld => ?_)
            clear hK0 K0
            (try simp only [Act.put])
            (try simp only [List.getElem_toArray])
            (try simp only [List.getElem_cons_succ])
            (try simp only [List.getElem_cons_zero])
            (try simp only [List.setIfInBounds_toArray, List.set_cons_succ, List.set_cons_zero])
            clear hHeld
            refine rd1 26 ?_
            intro K0 hK0
            go_simp
            go_wp2_with (first | (go_at_call 28; refine HSD.out.mono ?_; rintro e9 w7 ⟨g7, c7, g8, c8, rfl, hr7, hr8, hb7⟩))
            have HB7 := hid_g (HD.out.trans (hb7.mono HD.out.size))
            have HR7 := hid_g (RdT.of_own hr7)
            have HR8 := hid_g (RdT.of_own hr8)
            clear hb7 hr7 hr8 HSD
            refine hK0.out _ _ (HS.out _ HB7.out) (fun hHeld => ?_)
            clear hK0 K0
            (try simp only [Act.put])
            (try simp only [List.getElem_toArray])
            (try simp only [List.getElem_cons_succ])
            (try simp only [List.getElem_cons_zero])
            (try simp only [List.setIfInBounds_toArray, List.set_cons_succ, List.set_cons_zero])
            refine tq 71 27 (h := ?_)
            simp only [List.setIfInBounds_toArray, List.set_cons_succ, List.set_cons_zero]
            refine tq 99 28 (h := ?_)
            simp only [List.setIfInBounds_toArray, List.set_cons_succ, List.set_cons_zero]
            refine tq 100 29 (h := ?_)
            simp only [List.setIfInBounds_toArray, List.set_cons_succ, List.set_cons_zero]
            refine tq 101 30 (h := ?_)
            simp only [List.setIfInBounds_toArray, List.set_cons_succ, List.set_cons_zero]
            clear hHeld
            have hg7 : g < w7.heap.size := Nat.lt_of_lt_of_le hgs HB7.out.size
            have HF7 := hid_g (HQ.out.1.any (grown_below HB7.out none))
            obtain ⟨hst1, hgw1⟩ := HF7.out.set1 (k := j) (by rw [HQ.out.2]; omega) HR7.out
            have hni : NoInt w7 (some g) := by
              obtain ⟨ys, hy1, -⟩ := HF7.out.own
              exact own_noInt hy1
            obtain ⟨hst2, hgw2⟩ := hst1.set1 (k := j + 1) (by rw [List.length_set, HQ.out.2]; omega) (HR8.out.grow hgw1 hni)
            rw [mid_set HFJ.out] at hst2
            have HST2 := hid_g hst2
            have HLN2 : Hid ((D ++ [(settle n f y).2] ++ (settle n f y).1 :: F').reverse.length = m + 1) := (by have h3 := HQ.out.2; simp at h3 ⊢; have := HM.out; omega : (D ++ [(settle n f y).2] ++ (settle n f y).1 :: F').reverse.length = m + 1)
            have HBS2 := hid_g (((HBW.out.grown (grown_below HB7.out none) (Nat.le_of_lt HQ.out.1.boxlt) (fun k hk => by cases hk)).grown hgw1 (Nat.le_of_lt HF7.out.boxlt) (fun q hq => by have h3 := Option.some.inj hq; have := HQ.out.1.lt; omega)).grown hgw2 (Nat.le_of_lt hst1.boxlt) (fun q hq => by have h3 := Option.some.inj hq; have := HQ.out.1.lt; omega))
            obtain ⟨cd5, cd6⟩ := HC34.out _ HB7.out
            have hf5 : w7.frozen? ⟨g, j, none⟩ = false := by
              obtain ⟨ys, hy1, -⟩ := HF7.out.own
              exact hy1.frozenAt j
            have hf6 : w7.frozen? ⟨g, j + 1, none⟩ = false := by
              obtain ⟨ys, hy1, -⟩ := HF7.out.own
              exact hy1.frozenAt (j + 1)
            have HSA : Hid ((fun Y : World => Y.cell? ⟨hb, 2, none⟩ = some (.slice (some ⟨g, 0, none⟩) M cap8) ∧ hb < Y.heap.size ∧ g < Y.heap.size) (w7.setCell ⟨g, j, none⟩ (.slice (some ⟨g7, 0, none⟩) n c7))) := ⟨by have := hst1.cells.2.2.1; rw [List.length_set, HQ.out.2] at this; exact this, hst1.boxlt, Nat.lt_of_lt_of_le hg7 hgw1.size⟩
            have HSB : Hid ((fun Y : World => Y.cell? ⟨hb, 2, none⟩ = some (.slice (some ⟨g, 0, none⟩) M cap8) ∧ hb < Y.heap.size ∧ g < Y.heap.size) ((w7.setCell ⟨g, j, none⟩ (.slice (some ⟨g7, 0, none⟩) n c7)).setCell ⟨g, j + 1, none⟩ (.slice (some ⟨g8, 0, none⟩) n c8))) := ⟨by have := hst2.cells.2.2.1; rw [HLN2.out, HM.out] at this; exact this, hst2.boxlt, Nat.lt_of_lt_of_le (Nat.lt_of_lt_of_le hg7 hgw1.size) hgw2.size⟩
            have HNX2 := hid_g HNX.out
            clear hst1 hgw1 hst2 hgw2 hni cd3 cd4 HC34
            refine rd1 31 ?_
            intro K0 hK0
            go_simp
            refine hK0.out _ _ HSA.out (fun hHeld => ?_)
            clear hK0 K0
            (try simp only [Act.put])
            (try simp only [List.getElem_toArray])
            (try simp only [List.getElem_cons_succ])
            (try simp only [List.getElem_cons_zero])
            (try simp only [List.setIfInBounds_toArray, List.set_cons_succ, List.set_cons_zero])
            refine tq 102 32 (h := ?_)
            simp only [List.setIfInBounds_toArray, List.set_cons_succ, List.set_cons_zero]
            clear hHeld
            refine rd1 33 ?_
            intro K0 hK0
            go_simp
            refine hK0.out _ _ HSB.out (fun hHeld => ?_)
            clear hK0 K0 hHeld
            refine wpAnyH_done (by kernel_rfl) ?_ _
            clear cd5 cd6 hf5 hf6 hgD hg7 HS HD HSW HQ HST
            go_wp2
            go_roundw
            case rel => exact ⟨D ++ [(settle n f y).2], F', (settle n f y).1, j, by omega, by go_num, ⟨HFJ.out, HNX2.out.1, HNX2.out.2.1, HNX2.out.2.2⟩, ⟨by rw [HEA.out]; exact HST2.out, HLN2.out⟩, HBS2.out⟩
            case measure => simp only [intOf]; omega
          · intro K0 hK0
            go_simp
            refine hK0.out _ _ HSW.out (fun hHeld => ?_)
            clear hK0 K0
            (try simp only [Act.put])
            (try simp only [List.getElem_toArray])
            (try simp only [List.getElem_cons_succ])
            (try simp only [List.getElem_cons_zero])
            (try simp only [List.setIfInBounds_toArray, List.set_cons_succ, List.set_cons_zero])
            refine rd1 18 ?_
            intro K0 hK0
            go_simp
            refine hK0.out _ _ HSW.out (fun hHeld => ?_)
            clear hK0 K0
            (try simp only [Act.put])
            (try simp only [List.getElem_toArray])
            (try simp only [List.getElem_cons_succ])
            (try simp only [List.getElem_cons_zero])
            (try simp only [List.setIfInBounds_toArray, List.set_cons_succ, List.set_cons_zero])
            clear hHeld
            refine rd1 26 ?_
            intro K0 hK0
            go_simp
            go_wp2_with (first | (go_at_call 28; refine HSD.out.mono ?_; rintro e9 w7 ⟨g7, c7, g8, c8, rfl, hr7, hr8, hb7⟩))
            have HB7 := hid_g (HD.out.trans (hb7.mono HD.out.size))
            have HR7 := hid_g (RdT.of_own hr7)
            have HR8 := hid_g (RdT.of_own hr8)
            clear hb7 hr7 hr8 HSD
            refine hK0.out _ _ (HS.out _ HB7.out) (fun hHeld => ?_)
            clear hK0 K0
            (try simp only [Act.put])
            (try simp only [List.getElem_toArray])
            (try simp only [List.getElem_cons_succ])
            (try simp only [List.getElem_cons_zero])
            (try simp only [List.setIfInBounds_toArray, List.set_cons_succ, List.set_cons_zero])
            refine tq 71 27 (h := ?_)
            simp only [List.setIfInBounds_toArray, List.set_cons_succ, List.set_cons_zero]
            refine tq 99 28 (h := ?_)
            simp only [List.setIfInBounds_toArray, List.set_cons_succ, List.set_cons_zero]
            refine tq 100 29 (h := ?_)
            simp only [List.setIfInBounds_toArray, List.set_cons_succ, List.set_cons_zero]
            refine tq 101 30 (h := ?_)
            simp only [List.setIfInBounds_toArray, List.set_cons_succ, List.set_cons_zero]
            clear hHeld
            have hg7 : g < w7.heap.size := Nat.lt_of_lt_of_le hgs HB7.out.size
            have HF7 := hid_g (HQ.out.1.any (grown_below HB7.out none))
            obtain ⟨hst1, hgw1⟩ := HF7.out.set1 (k := j) (by rw [HQ.out.2]; omega) HR7.out
            have hni : NoInt w7 (some g) := by
              obtain ⟨ys, hy1, -⟩ := HF7.out.own
              exact own_noInt hy1
            obtain ⟨hst2, hgw2⟩ := hst1.set1 (k := j + 1) (by rw [List.length_set, HQ.out.2]; omega) (HR8.out.grow hgw1 hni)
            rw [mid_set HFJ.out] at hst2
            have HST2 := hid_g hst2
            have HLN2 : Hid ((D ++ [(settle n f y).2] ++ (settle n f y).1 :: F').reverse.length = m + 1) := (by have h3 := HQ.out.2; simp at h3 ⊢; have := HM.out; omega : (D ++ [(settle n f y).2] ++ (settle n f y).1 :: F').reverse.length = m + 1)
            have HBS2 := hid_g (((HBW.out.grown (grown_below HB7.out none) (Nat.le_of_lt HQ.out.1.boxlt) (fun k hk => by cases hk)).grown hgw1 (Nat.le_of_lt HF7.out.boxlt) (fun q hq => by have h3 := Option.some.inj hq; have := HQ.out.1.lt; omega)).grown hgw2 (Nat.le_of_lt hst1.boxlt) (fun q hq => by have h3 := Option.some.inj hq; have := HQ.out.1.lt; omega))
            obtain ⟨cd5, cd6⟩ := HC34.out _ HB7.out
            have hf5 : w7.frozen? ⟨g, j, none⟩ = false := by
              obtain ⟨ys, hy1, -⟩ := HF7.out.own
              exact hy1.frozenAt j
            have hf6 : w7.frozen? ⟨g, j + 1, none⟩ = false := by
              obtain ⟨ys, hy1, -⟩ := HF7.out.own
              exact hy1.frozenAt (j + 1)
            have HSA : Hid ((fun Y : World => Y.cell? ⟨hb, 2, none⟩ = some (.slice (some ⟨g, 0, none⟩) M cap8) ∧ hb < Y.heap.size ∧ g < Y.heap.size) (w7.setCell ⟨g, j, none⟩ (.slice (some ⟨g7, 0, none⟩) n c7))) := ⟨by have := hst1.cells.2.2.1; rw [List.length_set, HQ.out.2] at this; exact this, hst1.boxlt, Nat.lt_of_lt_of_le hg7 hgw1.size⟩
            have HSB : Hid ((fun Y : World => Y.cell? ⟨hb, 2, none⟩ = some (.slice (some ⟨g, 0, none⟩) M cap8) ∧ hb < Y.heap.size ∧ g < Y.heap.size) ((w7.setCell ⟨g, j, none⟩ (.slice (some ⟨g7, 0, none⟩) n c7)).setCell ⟨g, j + 1, none⟩ (.slice (some ⟨g8, 0, none⟩) n c8))) := ⟨by have := hst2.cells.2.2.1; rw [HLN2.out, HM.out] at this; exact this, hst2.boxlt, Nat.lt_of_lt_of_le (Nat.lt_of_lt_of_le hg7 hgw1.size) hgw2.size⟩
            have HNX2 := hid_g HNX.out
            clear hst1 hgw1 hst2 hgw2 hni cd3 cd4 HC34
            refine rd1 31 ?_
            intro K0 hK0
            go_simp
            refine hK0.out _ _ HSA.out (fun hHeld => ?_)
            clear hK0 K0
            (try simp only [Act.put])
            (try simp only [List.getElem_toArray])
            (try simp only [List.getElem_cons_succ])
            (try simp only [List.getElem_cons_zero])
            (try simp only [List.setIfInBounds_toArray, List.set_cons_succ, List.set_cons_zero])
            refine tq 102 32 (h := ?_)
            simp only [List.setIfInBounds_toArray, List.set_cons_succ, List.set_cons_zero]
            clear hHeld
            refine rd1 33 ?_
            intro K0 hK0
            go_simp
            refine hK0.out _ _ HSB.out (fun hHeld => ?_)
            clear hK0 K0 hHeld
            refine wpAnyH_done (by kernel_rfl) ?_ _
            clear cd5 cd6 hf5 hf6 hgD hg7 HS HD HSW HQ HST
            go_wp2
            go_roundw
            case rel => exact ⟨D ++ [(settle n f y).2], F', (settle n f y).1, j, by omega, by go_num, ⟨HFJ.out, HNX2.out.1, HNX2.out.2.1, HNX2.out.2.2⟩, ⟨by rw [HEA.out]; exact HST2.out, HLN2.out⟩, HBS2.out⟩
            case measure => simp only [intOf]; omega
end Go.Proofs.Ythlmkoiilgjflaa

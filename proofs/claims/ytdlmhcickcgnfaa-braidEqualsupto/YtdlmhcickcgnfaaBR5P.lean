/- Several texts of the proof, one behind the other. -/
import Derived.Test.YtdlmhcickcgnfaaBR4
import Derived.Deep.Cut
/- Ends of strands: the walk of ref.EndsOf. -/
namespace Go.Proofs.Ytdlmhcickcgnfaa
open Go.RowKit

/-- Places from 0 on. -/
def subl (L : List Int) : List Int := mapI L.length fun i => L.getD i 0 - 1
theorem subl_len (L : List Int) : (subl L).length = L.length := mapI_len _ _
theorem subl_at (L : List Int) (i : Nat) (h : i < L.length) : (subl L).getD i 0 = L.getD i 0 - 1 := mapI_at _ _ _ h
theorem trd_len (L : List Int) (i : Nat) : (trd L i).length = L.length := by unfold trd; simp
theorem subl_trd (L : List Int) (i : Nat) (h : i < L.length) : trd (subl L) i = subl (trd L i) := by
  apply List.ext_getElem?
  intro j
  by_cases hj : j < L.length
  · have h1 : (trd (subl L) i)[j]? = some ((trd (subl L) i).getD j 0) := by
      rw [List.getD_eq_getElem?_getD, List.getElem?_eq_getElem (by rw [trd_len, subl_len]; exact hj)]; rfl
    have h2 : (subl (trd L i))[j]? = some ((subl (trd L i)).getD j 0) := by
      rw [List.getD_eq_getElem?_getD, List.getElem?_eq_getElem (by rw [subl_len, trd_len]; exact hj)]; rfl
    rw [h1, h2, subl_at _ _ (by rw [trd_len]; exact hj)]
    unfold trd
    rw [getD_setI, getD_setI, getD_setI, getD_setI, List.length_set, List.length_set, subl_len, subl_at _ _ h, subl_at _ _ (show i - 1 < L.length by omega), subl_at _ _ hj]
    congr 1
    split
    · rfl
    · split <;> rfl
  · rw [List.getElem?_eq_none (by rw [trd_len, subl_len]; omega), List.getElem?_eq_none (by rw [subl_len, trd_len]; omega)]
theorem subl_first (n : Nat) (l : List Int) : (mapI n fun i => (i : Int) + 0) = subl (begT n l 0) := by
  have e : begT n l 0 = mapI n fun i => (i : Int) + 1 := rfl
  rw [e]
  unfold subl
  rw [mapI_len]
  exact mapI_congr _ _ _ fun j hj => by rw [mapI_at _ _ _ hj]; omega

end Go.Proofs.Ytdlmhcickcgnfaa
/- Texts: the walks of braid.reciprocal and braid.product. -/
namespace Go.Proofs.Ytdlmhcickcgnfaa
open Go.RowKit

/-- The last k places of the reciprocal. -/
def rcTo (l : List Int) (k i : Nat) : Int := if l.length ≤ i + k then -l.getD (l.length - 1 - i) 0 else 0
theorem rcTo_zero (l : List Int) : List.replicate l.length 0 = mapI l.length (rcTo l 0) := (mapI_zero _ _ (fun j hj => by unfold rcTo; rw [if_neg (by omega)])).symm
theorem rcTo_next (l : List Int) (k : Nat) (h : k < l.length) : (mapI l.length (rcTo l k)).set (l.length - 1 - k) (-l.getD k 0) = mapI l.length (rcTo l (k + 1)) := by
  refine mapI_set _ _ _ _ _ fun j hj => ?_
  unfold rcTo
  by_cases e : j = l.length - 1 - k
  · rw [if_pos (by omega), if_pos e, show l.length - 1 - j = k by omega]
  · rw [if_neg e]
    by_cases q : l.length ≤ j + k
    · rw [if_pos q, if_pos (by omega)]
    · rw [if_neg q, if_neg (by omega)]
theorem rcTo_all (l : List Int) : mapI l.length (rcTo l l.length) = rc l := mapI_congr _ _ _ fun j _ => by unfold rcTo; rw [if_pos (by omega)]
theorem own_shrink {W : World} {B e n m g cap : Nat} {xs : List Value} (h : W.ownsRow B e 1 (.slice (some ⟨g, 0, none⟩) n cap) n xs) (hm : m ≤ n) : W.ownsRow B e 1 (.slice (some ⟨g, 0, none⟩) m cap) m (xs.take m) := by
  obtain ⟨h1, h2⟩ := h
  refine ⟨by rw [List.length_take]; omega, ?_⟩
  rcases h2 with ⟨h3, -⟩ | ⟨g', cap', cur, h3, h4, h5, h6, h7, h8, h9⟩
  · cases h3
  · injection h3 with e1 e2 e3
    injection e1 with e1
    injection e1 with e1
    subst e1 e3
    refine Or.inr ⟨g, cap, cur, rfl, h4, h5, by omega, h7, h8, ?_⟩
    rw [← h9, List.take_take, Nat.mul_one, Nat.mul_one, Nat.min_eq_left hm]
theorem own_cap {W : World} {B e n g cap : Nat} {xs : List Value} (h : W.ownsRow B e 1 (.slice (some ⟨g, 0, none⟩) n cap) n xs) : n ≤ cap ∧ cap ≤ maxLen := by
  rcases h.2 with ⟨h3, -⟩ | ⟨g', cap', cur, h3, h4, h5, h6, h7, h8, h9⟩
  · cases h3
  · injection h3 with e1 e2 e3
    subst e3
    exact ⟨h6, h7⟩

set_option maxHeartbeats 4000000 in
set_option maxRecDepth 100000 in
theorem reciprocal_any (a : Option Addr) (cap : Nat) (l : List Int) (w : World) (hl : l.length ≤ 20000000000) (hs : SmI l) (h : RdAt w w.heap.size 1 (.slice a l.length cap) l.length (intsV l)) :
    Calls Try.prog 39 #[.slice a l.length cap] w fun e w' => ∃ a2 c2, e = .returned (.slice a2 l.length c2) ∧ w'.ownsRow w.heap.size 3 1 (.slice a2 l.length c2) l.length (intsV (rc l)) ∧ Below w.heap.size w w' := by
  obtain ⟨i0, hi, hz0, hz1, hz2⟩ := info_parts infoInt
  have HRD : Hid (RdAt w w.heap.size 1 (.slice a l.length cap) l.length (intsV l)) := h
  have HSM : Hid (SmI l) := hs
  have HNX : Hid (∀ k, k < l.length → (mapI l.length (rcTo l k)).set (l.length - 1 - k) (-l.getD k 0) = mapI l.length (rcTo l (k + 1))) := fun k hk => rcTo_next l k hk
  have HAL : Hid (mapI l.length (rcTo l l.length) = rc l) := rcTo_all l
  have HZ : Hid (List.replicate l.length 0 = mapI l.length (rcTo l 0)) := rcTo_zero l
  obtain ⟨n, hN⟩ : ∃ n, l.length = n := ⟨_, rfl⟩
  have HN : Hid (l.length = n) := hN
  rw [hN] at hl HNX HAL HZ ⊢
  clear h hs hN
  go_enter Try.func39, Try.ntmps39
  go_wp2_with (first | (at_make; refine wpList_make_full _ rfl _ _ 22 rfl w.heap.size 3 i0 (.int .i64 0) 1 Try.underlying22 hi hz0 hz1 .i64 .i64 _ _ n rfl rfl rfl rfl (by rw [hz2]; omega) (by unfold maxLen; omega) (by simp) ?_; intro w1 hrow1 hg1; refine Hid.out ?_))
  refine Lib.hid ?_
  rw [made_zero, HZ.out] at hrow1
  obtain ⟨g, hg⟩ : ∃ g, w.heap.size = g := ⟨_, rfl⟩
  have HG : Hid (w.heap.size = g) := hg
  have HB1 : Hid (Below w.heap.size w w1) := (Below.refl _ _).grown hg1 (Nat.le_refl _) (fun k hk => by cases hk)
  rw [hg] at hrow1
  rw [hg]
  have HR1 : Hid (w1.ownsRow g 3 1 (.slice (some ⟨g, 0, none⟩) n n) n (intsV (mapI n (rcTo l 0)))) := hrow1
  clear hrow1 hg1 hg
  go_wp2
  go_loopw [11] (fun v11 wr => ∃ k : Nat, k ≤ n ∧ v11 = .int .i64 (k : Nat) ∧ Hid (wr.ownsRow g 3 1 (.slice (some ⟨g, 0, none⟩) n n) n (intsV (mapI n (rcTo l k)))) ∧ Hid (Below w.heap.size w wr)) (fun v11 _ => n - (intOf v11).toNat)
  case atStart => exact ⟨0, Nat.zero_le _, rfl, HR1.out, HB1.out⟩
  case round =>
    clear HR1 HB1
    rename World => W1
    obtain ⟨k, hkn, rfl, hp, hb⟩ := hrel
    by_cases hk : k < n
    · have hkI : (k : Int) < (n : Int) := by omega
      obtain ⟨b, off, ea, hlt, hc⟩ := (HRD.out.on hb.out).intAt k (by rw [HN.out]; exact hk)
      have hx6 := HSM.out k
      have hnx := HNX.out k hk
      generalize l.getD k 0 = x at hc hx6 hnx
      obtain ⟨j, hj⟩ : ∃ j : Nat, n - 1 - k = j := ⟨_, rfl⟩
      rw [hj] at hnx
      have hjI : (n : Int) - 1 - (k : Int) = (j : Int) := by omega
      have hjn : j < n := by omega
      have hjI2 : (j : Int) < (n : Int) := by omega
      have e0 := hp.out.cellAt j (by omega)
      rw [intsV_get _ j (by rw [mapI_len]; exact hjn)] at e0
      generalize (mapI n (rcTo l k)).getD j 0 = z at e0
      have f0 := hp.out.frozenAt j
      have lg := (hp.out.lt g rfl).2
      have lb : b < W1.heap.size := Nat.lt_of_lt_of_le hlt hb.out.size
      have hst := hp.out.stored j (.int .i64 (-x))
      rw [intsV_set, hnx] at hst
      have HST : Hid ((W1.setCell ⟨g, j, none⟩ (.int .i64 (-x))).ownsRow g 3 1 (.slice (some ⟨g, 0, none⟩) n n) n (intsV (mapI n (rcTo l (k + 1))))) := hst.1
      have HBS : Hid (Below w.heap.size w (W1.setCell ⟨g, j, none⟩ (.int .i64 (-x)))) := hb.out.grown hst.2 hb.out.size (fun x hx => by have h1 : g = x := Option.some.inj hx; have := HG.out; omega)
      clear hst hnx hj
      subst ea
      go_wp2
      go_roundw
      case rel => exact ⟨k + 1, by omega, by go_num, HST.out, HBS.out⟩
      case measure => simp only [intOf]; omega
    · obtain rfl : n = k := by omega
      rw [HAL.out] at hp
      go_wp2
      go_ret
      exact ⟨_, _, rfl, by rw [HG.out]; exact hp.out, hb.out⟩

/-- Texts, one behind the other. -/
def prT (L : List (List Int)) (i : Nat) : List Int := (L.take i).foldl gl []
theorem prT_next (L : List (List Int)) (i : Nat) (h : i < L.length) : prT L (i + 1) = gl (prT L i) (L.getD i []) := by
  unfold prT
  rw [List.take_succ_eq_append_getElem h, List.foldl_append, List.getD_eq_getElem?_getD, List.getElem?_eq_getElem h]
  rfl
/-- The lengths' sum. -/
def lnT (L : List (List Int)) (i : Nat) : Nat := ((L.take i).map List.length).sum
theorem lnT_next (L : List (List Int)) (i : Nat) (h : i < L.length) : lnT L (i + 1) = lnT L i + (L.getD i []).length := by
  unfold lnT
  rw [List.take_succ_eq_append_getElem h, List.map_append, List.sum_append, List.getD_eq_getElem?_getD, List.getElem?_eq_getElem h]
  simp
theorem prT_len (L : List (List Int)) (i : Nat) (hi : i ≤ L.length) : (prT L i).length ≤ lnT L i := by
  induction i with
  | zero => simp [prT, lnT]
  | succ i ih =>
    rw [prT_next L i (by omega), lnT_next L i (by omega)]
    have h1 := gl_len (prT L i) (L.getD i [])
    have h2 := ih (by omega)
    omega
theorem lnT_le (L : List (List Int)) (M : Nat) (h : ∀ j, (L.getD j []).length ≤ M) (i : Nat) (hi : i ≤ L.length) : lnT L i ≤ i * M := by
  induction i with
  | zero => simp [lnT]
  | succ i ih =>
    rw [lnT_next L i (by omega), Nat.add_mul, Nat.one_mul]
    have h1 := h i
    have h2 := ih (by omega)
    omega
theorem intsV_take (l : List Int) (k : Nat) : (intsV l).take k = intsV (l.take k) := by simp [intsV, List.map_take]
/-- A row that append has grown. -/
theorem push_row {w W1 w8 : World} {B : Nat} {v v8 : Value} {l : List Int} {n : Nat} {x : Int} {e : TypeId} (hs : B ≤ W1.heap.size) (hb : Below B w W1) (hO : W1.ownsRow B 3 1 v n (intsV l)) (hown : w8.ownsRow B 3 1 v8 (n + 1) (intsV l ++ [.int .i64 x])) (hg : (W1.alloc (.cells #[.int .i64 x] e)).grownBy w8 v.ownBlock) :
    w8.ownsRow B 3 1 v8 (n + 1) (intsV (l ++ [x])) ∧ Below B w w8 := by
  refine ⟨?_, (hb.alloc hs _).grown hg (by simp; omega) (fun q hq => (hO.lt q hq).1)⟩
  have e : intsV (l ++ [x]) = intsV l ++ [.int .i64 x] := by simp [intsV]
  rw [e]
  exact hown
theorem new_one (W : World) (x : Value) (e : TypeId) : ∀ j u, [x][j]? = some u → (W.alloc (.cells #[x] e)).cell? ((⟨W.heap.size, 0, none⟩ : Addr).add j) = some u := by
  intro j u hj
  rw [Addr.add_lit, Nat.zero_add]
  have hh : (W.alloc (.cells #[x] e)).heap[W.heap.size]? = some (.cells #[x] e (0, 0)) := Array.getElem?_push_size
  match j, hj with
  | 0, hj => simp at hj; subst hj; exact block_cell hh rfl
end Go.Proofs.Ytdlmhcickcgnfaa

/- Several texts of the proof, one behind the other. -/
import Derived.Test.YthlmkoiilgjflaaNB2P
import Derived.Test.YthlmkoiilgjflaaGD3P
/- BraidNormals: how long texts are behind a word: by counting its letters. -/
namespace Go.Proofs.Ythlmkoiilgjflaa

/-- How often a letter, or its reciprocal, stands in a text. -/
def cn (c : Nat) : List Int → Nat
  | [] => 0
  | x :: W => (if x.natAbs = c then 1 else 0) + cn c W
/-- How long a text becomes with texts put in. -/
def wl (T : List (List Int)) : List Int → Nat
  | [] => 0
  | x :: W => (if x.natAbs = 0 then 0 else (T.getD (x.natAbs - 1) []).length) + wl T W
theorem im_len (T : List (List Int)) (x : Int) : (im T x).length ≤ if x.natAbs = 0 then 0 else (T.getD (x.natAbs - 1) []).length := by
  unfold im
  by_cases h1 : 0 < x
  · rw [if_pos h1, if_neg (by omega)]; exact Nat.le_refl _
  · rw [if_neg h1]
    by_cases h2 : x < 0
    · rw [if_pos h2, if_neg (by omega), rc_lenN]; exact Nat.le_refl _
    · rw [if_neg h2]; exact Nat.zero_le _
theorem sub_lenF (T : List (List Int)) : ∀ (W o : List Int), (W.foldl (fun o x => gl o (im T x)) o).length ≤ o.length + wl T W
  | [], _ => Nat.le_refl _
  | x :: W, o => by
    have h1 := sub_lenF T W (gl o (im T x))
    have h2 := gl_len o (im T x)
    have h3 := im_len T x
    show (W.foldl (fun o x => gl o (im T x)) (gl o (im T x))).length ≤ o.length + (_ + wl T W)
    omega
theorem sub_len (T : List (List Int)) (W : List Int) : (sub T W).length ≤ wl T W := by
  have := sub_lenF T W []
  unfold sub
  simpa using this
theorem wl_cn {T : List (List Int)} (hT : T.length ≤ 6) : ∀ W : List Int, wl T W ≤ cn 1 W * (T.getD 0 []).length + cn 2 W * (T.getD 1 []).length + cn 3 W * (T.getD 2 []).length + cn 4 W * (T.getD 3 []).length + cn 5 W * (T.getD 4 []).length + cn 6 W * (T.getD 5 []).length
  | [] => Nat.zero_le _
  | x :: W => by
    have ih := wl_cn hT W
    have hw : wl T (x :: W) = (if x.natAbs = 0 then 0 else (T.getD (x.natAbs - 1) []).length) + wl T W := rfl
    have hc : ∀ c, cn c (x :: W) = (if x.natAbs = c then 1 else 0) + cn c W := fun _ => rfl
    rw [hw, hc, hc, hc, hc, hc, hc, Nat.add_mul, Nat.add_mul, Nat.add_mul, Nat.add_mul, Nat.add_mul, Nat.add_mul]
    have h6 : 6 < x.natAbs → (T.getD (x.natAbs - 1) []).length = 0 := fun h => by rw [getD_out T _ (by omega)]; rfl
    generalize x.natAbs = k at *
    by_cases k0 : k = 0
    · subst k0; simp only [if_true]; omega
    · by_cases k7 : 6 < k
      · rw [if_neg k0, h6 k7]; omega
      · have hk : k = 1 ∨ k = 2 ∨ k = 3 ∨ k = 4 ∨ k = 5 ∨ k = 6 := by omega
        clear hw hc
        rcases hk with e | e | e | e | e | e <;> subst e <;> simp only [reduceIte, Nat.reduceEqDiff, Nat.reduceSub, Nat.one_mul, Nat.zero_mul] <;> omega

/-- All together. -/
def colS (c : Nat) (U : List (List Int)) : Nat := cn c (U.getD 0 []) + cn c (U.getD 1 []) + cn c (U.getD 2 []) + cn c (U.getD 3 []) + cn c (U.getD 4 []) + cn c (U.getD 5 [])
/-- No letter stands more than twice in a text. -/
def row2 (W : List Int) : Bool := decide (cn 1 W ≤ 2) && decide (cn 2 W ≤ 2) && decide (cn 3 W ≤ 2) && decide (cn 4 W ≤ 2) && decide (cn 5 W ≤ 2) && decide (cn 6 W ≤ 2)
def rows2 (U : List (List Int)) : Bool := row2 (U.getD 0 []) && row2 (U.getD 1 []) && row2 (U.getD 2 []) && row2 (U.getD 3 []) && row2 (U.getD 4 []) && row2 (U.getD 5 [])
def okL (U : List (List Int)) : Bool := rows2 U && decide (colS 1 U ≤ 11) && decide (colS 2 U ≤ 9) && decide (colS 3 U ≤ 7) && decide (colS 4 U ≤ 5) && decide (colS 5 U ≤ 3) && decide (colS 6 U ≤ 1)
def okR (U : List (List Int)) : Bool := rows2 U && decide (colS 1 U ≤ 1) && decide (colS 2 U ≤ 3) && decide (colS 3 U ≤ 5) && decide (colS 4 U ≤ 7) && decide (colS 5 U ≤ 9) && decide (colS 6 U ≤ 11)
/-- Lengths of texts: each, all. -/
structure LenT (p : Nat × Nat) (T : List (List Int)) : Prop where
  one : ∀ i, (T.getD i []).length ≤ p.1
  all : tot T ≤ p.2
theorem row2_le {W : List Int} (h : row2 W = true) {T : List (List Int)} (hT : T.length ≤ 6) : (sub T W).length ≤ 2 * tot T := by
  unfold row2 at h
  simp only [Bool.and_eq_true, decide_eq_true_eq] at h
  obtain ⟨⟨⟨⟨⟨c1, c2⟩, c3⟩, c4⟩, c5⟩, c6⟩ := h
  have h1 := sub_len T W
  have h2 := wl_cn hT W
  have m1 := Nat.mul_le_mul_right (T.getD 0 []).length c1
  have m2 := Nat.mul_le_mul_right (T.getD 1 []).length c2
  have m3 := Nat.mul_le_mul_right (T.getD 2 []).length c3
  have m4 := Nat.mul_le_mul_right (T.getD 3 []).length c4
  have m5 := Nat.mul_le_mul_right (T.getD 4 []).length c5
  have m6 := Nat.mul_le_mul_right (T.getD 5 []).length c6
  unfold tot
  omega
theorem rows2_le {U : List (List Int)} (hU : U.length ≤ 6) (h : rows2 U = true) {T : List (List Int)} (hT : T.length ≤ 6) (j : Nat) : ((cmpT' T U).getD j []).length ≤ 2 * tot T := by
  rw [cmp_at]
  unfold rows2 at h
  simp only [Bool.and_eq_true] at h
  obtain ⟨⟨⟨⟨⟨c0, c1⟩, c2⟩, c3⟩, c4⟩, c5⟩ := h
  by_cases hj : j < 6
  · have hk : j = 0 ∨ j = 1 ∨ j = 2 ∨ j = 3 ∨ j = 4 ∨ j = 5 := by omega
    rcases hk with e | e | e | e | e | e <;> subst e
    · exact row2_le c0 hT
    · exact row2_le c1 hT
    · exact row2_le c2 hT
    · exact row2_le c3 hT
    · exact row2_le c4 hT
    · exact row2_le c5 hT
  · rw [getD_out U j (by omega)]
    exact Nat.zero_le _
theorem tot_cn {U T : List (List Int)} (hT : T.length ≤ 6) : tot (cmpT' T U) ≤ colS 1 U * (T.getD 0 []).length + colS 2 U * (T.getD 1 []).length + colS 3 U * (T.getD 2 []).length + colS 4 U * (T.getD 3 []).length + colS 5 U * (T.getD 4 []).length + colS 6 U * (T.getD 5 []).length := by
  have h : ∀ W, (sub T W).length ≤ _ := fun W => Nat.le_trans (sub_len T W) (wl_cn hT W)
  have e : tot (cmpT' T U) = (sub T (U.getD 0 [])).length + (sub T (U.getD 1 [])).length + (sub T (U.getD 2 [])).length + (sub T (U.getD 3 [])).length + (sub T (U.getD 4 [])).length + (sub T (U.getD 5 [])).length := by
    unfold tot
    rw [cmp_at, cmp_at, cmp_at, cmp_at, cmp_at, cmp_at]
  rw [e]
  unfold colS
  simp only [Nat.add_mul]
  have h0 := h (U.getD 0 [])
  have h1 := h (U.getD 1 [])
  have h2 := h (U.getD 2 [])
  have h3 := h (U.getD 3 [])
  have h4 := h (U.getD 4 [])
  have h5 := h (U.getD 5 [])
  omega
theorem LenT.cmpL {p : Nat × Nat} {U T : List (List Int)} (h : LenT p T) (hT : T.length ≤ 6) (hU : U.length ≤ 6) (k : okL U = true) : LenT (grw p) (cmpT' T U) := by
  unfold okL at k
  simp only [Bool.and_eq_true, decide_eq_true_eq] at k
  obtain ⟨⟨⟨⟨⟨⟨r, c1⟩, c2⟩, c3⟩, c4⟩, c5⟩, c6⟩ := k
  refine ⟨fun i => Nat.le_trans (rows2_le hU r hT i) ?_, ?_⟩
  · show 2 * tot T ≤ 2 * p.2
    have := h.all
    omega
  · have h1 := tot_cn (U := U) hT
    have m1 := Nat.mul_le_mul_right (T.getD 0 []).length c1
    have m2 := Nat.mul_le_mul_right (T.getD 1 []).length c2
    have m3 := Nat.mul_le_mul_right (T.getD 2 []).length c3
    have m4 := Nat.mul_le_mul_right (T.getD 3 []).length c4
    have m5 := Nat.mul_le_mul_right (T.getD 4 []).length c5
    have m6 := Nat.mul_le_mul_right (T.getD 5 []).length c6
    have hl : Lens p (T.getD 0 []).length (T.getD 1 []).length (T.getD 2 []).length (T.getD 3 []).length (T.getD 4 []).length (T.getD 5 []).length := ⟨⟨h.one 0, h.one 1, h.one 2, h.one 3, h.one 4, h.one 5⟩, h.all⟩
    have := (hl.left (Nat.le_refl _) (Nat.le_refl _) (Nat.le_refl _) (Nat.le_refl _) (Nat.le_refl _) (Nat.le_refl _)).all
    omega
theorem LenT.cmpR {p : Nat × Nat} {U T : List (List Int)} (h : LenT p T) (hT : T.length ≤ 6) (hU : U.length ≤ 6) (k : okR U = true) : LenT (grw p) (cmpT' T U) := by
  unfold okR at k
  simp only [Bool.and_eq_true, decide_eq_true_eq] at k
  obtain ⟨⟨⟨⟨⟨⟨r, c1⟩, c2⟩, c3⟩, c4⟩, c5⟩, c6⟩ := k
  refine ⟨fun i => Nat.le_trans (rows2_le hU r hT i) ?_, ?_⟩
  · show 2 * tot T ≤ 2 * p.2
    have := h.all
    omega
  · have h1 := tot_cn (U := U) hT
    have m1 := Nat.mul_le_mul_right (T.getD 0 []).length c1
    have m2 := Nat.mul_le_mul_right (T.getD 1 []).length c2
    have m3 := Nat.mul_le_mul_right (T.getD 2 []).length c3
    have m4 := Nat.mul_le_mul_right (T.getD 3 []).length c4
    have m5 := Nat.mul_le_mul_right (T.getD 4 []).length c5
    have m6 := Nat.mul_le_mul_right (T.getD 5 []).length c6
    have hl : Lens p (T.getD 0 []).length (T.getD 1 []).length (T.getD 2 []).length (T.getD 3 []).length (T.getD 4 []).length (T.getD 5 []).length := ⟨⟨h.one 0, h.one 1, h.one 2, h.one 3, h.one 4, h.one 5⟩, h.all⟩
    have := (hl.right (Nat.le_refl _) (Nat.le_refl _) (Nat.le_refl _) (Nat.le_refl _) (Nat.le_refl _) (Nat.le_refl _)).all
    omega

/-- A word of which each beginning lets texts grow no more than a permutation braid does. -/
structure GoodB (n : Nat) (v : List Int) : Prop where
  vl : Vl n v
  ok : ∀ s, okL ((v.take s).foldl stp (act0 n)) = true ∨ okR ((v.take s).foldl stp (act0 n)) = true
theorem vl_take {n : Nat} {v : List Int} (h : Vl n v) (s : Nat) : Vl n (v.take s) := fun z hz => h z (List.mem_of_mem_take hz)
theorem fold_ok {n : Nat} {T : List (List Int)} (hT : RedT T ∧ T.length = n) {v : List Int} (hv : Vl n v) : RedT (v.foldl stp T) ∧ (v.foldl stp T).length = n := bact_act.fold hT hv
theorem good_step {n : Nat} (hn : n ≤ 6) {p : Nat × Nat} {T : List (List Int)} (hT : RedT T ∧ T.length = n) (h : LenT p T) {v : List Int} (g : GoodB n v) (s : Nat) : LenT (grw p) ((v.take s).foldl stp T) := by
  rw [fold_cmp hT.1 hT.2]
  have hl := (fold_ok (act0_red n) (vl_take g.vl s)).2
  rcases g.ok s with k | k
  · exact h.cmpL (by rw [hT.2]; exact hn) (by omega) k
  · exact h.cmpR (by rw [hT.2]; exact hn) (by omega) k
theorem grws_in (p : Nat × Nat) : ∀ k, grws (grw p) k = grws p (k + 1)
  | 0 => rfl
  | k + 1 => by show grw (grws (grw p) k) = grw (grws p (k + 1)); rw [grws_in p k]
theorem LenT.idle {p : Nat × Nat} {T : List (List Int)} (hT : T.length ≤ 6) (h : LenT p T) : LenT (grw p) T := by
  refine ⟨fun i => ?_, ?_⟩
  · have h0 := h.all
    unfold tot at h0
    by_cases hi : i < 6
    · have hk : i = 0 ∨ i = 1 ∨ i = 2 ∨ i = 3 ∨ i = 4 ∨ i = 5 := by omega
      show _ ≤ 2 * p.2
      rcases hk with e | e | e | e | e | e <;> subst e <;> omega
    · rw [getD_out T i (by omega)]; exact Nat.zero_le _
  · have h0 := h.all
    show _ ≤ 2 * _ + p.2
    omega
theorem LenT.idles {T : List (List Int)} (hT : T.length ≤ 6) : ∀ k {p : Nat × Nat}, LenT p T → LenT (grws p k) T
  | 0, _, h => h
  | k + 1, _, h => LenT.idle hT (LenT.idles hT k h)
/-- Along words that are good, one behind the other. -/
theorem good_chain {n : Nat} (hn : n ≤ 6) : ∀ (B : List (List Int)) {p : Nat × Nat} {T : List (List Int)} (j r : Nat), RedT T ∧ T.length = n → LenT p T → (∀ v ∈ B, GoodB n v) → B.length ≤ j → LenT (grws p j) ((B.flatten.take r).foldl stp T)
  | [], p, T, j, r, hT, h, _, _ => by
    rw [List.flatten_nil, List.take_nil]
    exact h.idles (by rw [hT.2]; exact hn) j
  | v :: B, p, T, 0, r, _, _, _, hj => by simp at hj
  | v :: B, p, T, j + 1, r, hT, h, hB, hj => by
    have g := hB v (.head _)
    rw [List.flatten_cons, List.take_append, List.foldl_append, ← grws_in]
    have h1 := good_step hn hT h g r
    have o1 := fold_ok hT (vl_take g.vl r)
    by_cases hr : r ≤ v.length
    · rw [Nat.sub_eq_zero_of_le hr, List.take_zero]
      exact h1.idles (by rw [o1.2]; exact hn) j
    · exact good_chain hn B j (r - v.length) o1 h1 (fun z hz => hB z (.tail _ hz)) (by simpa using hj)
end Go.Proofs.Ythlmkoiilgjflaa
/- BraidNormals: words of permutation braids (swaps of neighbours, round by round); all of them reckoned. -/
namespace Go.Proofs.Ythlmkoiilgjflaa

/-- A step of the swaps: what is left to do, the letters so far. -/
def bst (n i : Nat) (s : List Nat × List Nat) : List Nat × List Nat := if pa s.1 (i + 1) < pa s.1 i then (psw n s.1 i, s.2 ++ [i]) else s
/-- The first k places of a round. -/
def bps (n : Nat) (s : List Nat × List Nat) : Nat → List Nat × List Nat
  | 0 => s
  | k + 1 => bst n k (bps n s k)
/-- So many rounds. -/
def bub (n : Nat) (x : List Nat) : Nat → List Nat × List Nat
  | 0 => (x, [])
  | k + 1 => bps n (bub n x k) (n - 1)
def bubW (n : Nat) (x : List Nat) : List Nat := (bub n x n).2
/-- Whatever does what is left does all. -/
structure RwI (n : Nat) (x : List Nat) (s : List Nat × List Nat) : Prop where
  isp : IsP n s.1
  rest : ∀ v, Rw n s.1 v → Rw n x (s.2 ++ v)
theorem RwI.bst {n i : Nat} {x : List Nat} {s : List Nat × List Nat} (h : RwI n x s) (hi : i + 1 < n) : RwI n x (bst n i s) := by
  unfold Go.Proofs.Ythlmkoiilgjflaa.bst
  split
  · rename_i hlt
    refine ⟨isP_psw hi h.isp, fun v hv => ?_⟩
    rw [List.append_assoc]
    exact h.rest _ (.cons h.isp hi hlt hv)
  · exact h
theorem RwI.bps {n : Nat} {x : List Nat} {s : List Nat × List Nat} (h : RwI n x s) : ∀ k, k + 1 ≤ n → RwI n x (bps n s k)
  | 0, _ => h
  | k + 1, hk => (RwI.bps h k (by omega)).bst (by omega)
theorem RwI.bub {n : Nat} {x : List Nat} (hn : 1 ≤ n) (hx : IsP n x) : ∀ k, RwI n x (bub n x k)
  | 0 => ⟨hx, fun _ hv => hv⟩
  | k + 1 => (RwI.bub hn hx k).bps (n - 1) (by omega)
theorem bub_rw {n : Nat} {x : List Nat} (hn : 1 ≤ n) (hx : IsP n x) (he : (bub n x n).1 = pid n) : Rw n x (bubW n x) := by
  have := (RwI.bub hn hx n).rest [] (by rw [he]; exact .nil)
  rwa [List.append_nil] at this

/-- All rows of k numbers below n, none twice. -/
def pms (n : Nat) : Nat → List (List Nat)
  | 0 => [[]]
  | k + 1 => (pms n k).flatMap fun l => ((List.range n).filter fun x => !l.contains x).map fun x => x :: l
theorem mem_pms {n : Nat} : ∀ l : List Nat, l.Nodup → (∀ x ∈ l, x < n) → l ∈ pms n l.length
  | [], _, _ => .head _
  | x :: l, hd, hl => by
    have h1 := mem_pms l (List.nodup_cons.1 hd).2 (fun z hz => hl z (.tail _ hz))
    show x :: l ∈ (pms n l.length).flatMap _
    refine List.mem_flatMap.2 ⟨l, h1, List.mem_map.2 ⟨x, List.mem_filter.2 ⟨List.mem_range.2 (hl x (.head _)), ?_⟩, rfl⟩⟩
    have := (List.nodup_cons.1 hd).1
    simpa using this
theorem isP_mem {n : Nat} {p : List Nat} (h : IsP n p) : p ∈ pms n n := by
  have hg : ∀ i (hi : i < p.length), p[i] = pa p i := fun i hi => by unfold pa; rw [List.getD_eq_getElem?_getD, List.getElem?_eq_getElem hi]; rfl
  have h1 : p ∈ pms n p.length := by
    refine mem_pms p ?_ (fun x hx => ?_)
    · rw [List.nodup_iff_pairwise_ne, List.pairwise_iff_getElem]
      intro i j hi hj hij e
      rw [hg, hg] at e
      have := h.inj i j (by rw [← h.len]; exact hi) (by rw [← h.len]; exact hj) e
      omega
    · obtain ⟨i, hi, rfl⟩ := List.mem_iff_getElem.1 hx
      rw [hg]
      exact h.lt i (by rw [← h.len]; exact hi)
  rwa [h.len] at h1

/-- Each beginning. -/
def chk (ok : List (List Int) → Bool) : List (List Int) → List Int → Bool
  | U, [] => ok U
  | U, x :: w => ok U && chk ok (stp U x) w
theorem chk_take (ok : List (List Int) → Bool) : ∀ (w : List Int) (U : List (List Int)), chk ok U w = true → ∀ s, ok ((w.take s).foldl stp U) = true
  | [], U, h, s => by rw [List.take_nil]; exact h
  | x :: w, U, h, s => by
    have h0 : (ok U && chk ok (stp U x) w) = true := h
    simp only [Bool.and_eq_true] at h0
    cases s with
    | zero => exact h0.1
    | succ s => exact chk_take ok w (stp U x) h0.2 s
/-- What is asked of a permutation, its letters being at hand; D is Delta's word. -/
def chkW (n : Nat) (D : List Int) (w : List Int) : Bool := chk okL (act0 n) w && chk okR (act0 n) (rc w) && chk okR ((rc D).foldl stp (act0 n)) w
def chkS (n : Nat) (D : List Int) (s : List Nat × List Nat) : Bool := decide (s.1 = pid n) && chkW n D (lw s.2)
def chkA (n : Nat) : Bool := (pms n n).all fun p => chkS n (lw (bubW n (pdl n))) (bub n p n)
/-- Sixty of them. -/
def chkG (n a : Nat) : Bool := (((pms n n).drop (60 * a)).take 60).all fun p => chkS n (lw (bubW n (pdl n))) (bub n p n)
theorem pms_six : (pms 6 6).length = 720 := by decide +kernel
theorem chkA_of (h : ∀ a, a < 12 → chkG 6 a = true) : chkA 6 = true := by
  unfold chkA
  rw [List.all_eq_true]
  intro p hp
  obtain ⟨i, hi, rfl⟩ := List.mem_iff_getElem.1 hp
  have h7 := pms_six
  have hg := h (i / 60) (by omega)
  unfold chkG at hg
  refine List.all_eq_true.1 hg _ ?_
  rw [List.mem_iff_getElem]
  refine ⟨i % 60, ?_, ?_⟩
  · rw [List.length_take, List.length_drop]
    omega
  · rw [List.getElem_take, List.getElem_drop]
    congr 1
    omega
theorem chk_2 : chkA 2 = true := by decide +kernel
theorem chk_3 : chkA 3 = true := by decide +kernel
theorem chk_4 : chkA 4 = true := by decide +kernel
end Go.Proofs.Ythlmkoiilgjflaa

/- Several texts of the proof, one behind the other. -/
import Derived.Test.YtnlcknlodjjdbaaDoorTL12P
import Derived.Test.YtnlcknlodjjdbaaDoorTL11P
import Derived.Test.YtnlcknlodjjdbaaDoorTL9P
/- The walk of tangle.Link. -/
namespace Go.Proofs.YtnlcknlodjjdbaaDoor
open Go.RowKit Go.Maps

/-- Each end of D is tied to another one. -/
structure Invo (D : Nat → Prop) (T : Nat → Nat) : Prop where
  sp : ∀ x, D x → D (T x)
  inv : ∀ x, D x → T (T x) = x
  ne : ∀ x, D x → T x ≠ x
theorem leadF_invo {D : Nat → Prop} {T : Nat → Nat} {e i o : Nat} (h : Invo D T) (he : D e) (hi : ¬ D i) (ho : ¬ D o) (hio : i ≠ o) : Invo (fun x => x = i ∨ x = o ∨ D x) (leadF T e i o) := by
  have hTe := h.sp e he
  have n1 : T e ≠ e := h.ne e he
  have n2 : e ≠ i := fun h0 => hi (h0 ▸ he)
  have n3 : e ≠ o := fun h0 => ho (h0 ▸ he)
  have n4 : T e ≠ i := fun h0 => hi (h0 ▸ hTe)
  have n5 : T e ≠ o := fun h0 => ho (h0 ▸ hTe)
  have v : ∀ x, leadF T e i o x = if x = o then e else if x = e then o else if x = i then T e else if x = T e then i else T x := fun x => rfl
  have vo : leadF T e i o o = e := by rw [v, if_pos rfl]
  have ve : leadF T e i o e = o := by rw [v, if_neg n3, if_pos rfl]
  have vi : leadF T e i o i = T e := by rw [v, if_neg hio, if_neg (Ne.symm n2), if_pos rfl]
  have vt : leadF T e i o (T e) = i := by rw [v, if_neg n5, if_neg n1, if_neg n4, if_pos rfl]
  have vx : ∀ x, D x → x ≠ e → x ≠ T e → leadF T e i o x = T x := fun x hx h1 h2 => by
    have h3 : x ≠ i := fun h0 => hi (h0 ▸ hx)
    have h4 : x ≠ o := fun h0 => ho (h0 ▸ hx)
    rw [v, if_neg h4, if_neg h1, if_neg h3, if_neg h2]
  have key : ∀ x, (x = i ∨ x = o ∨ D x) → (x = i ∨ x = o ∨ x = e ∨ x = T e ∨ (D x ∧ x ≠ e ∧ x ≠ T e)) := fun x hx => by
    rcases hx with h1 | h1 | h1
    · exact Or.inl h1
    · exact Or.inr (Or.inl h1)
    · by_cases h2 : x = e
      · exact Or.inr (Or.inr (Or.inl h2))
      · by_cases h3 : x = T e
        · exact Or.inr (Or.inr (Or.inr (Or.inl h3)))
        · exact Or.inr (Or.inr (Or.inr (Or.inr ⟨h1, h2, h3⟩)))
  refine ⟨fun x hx => ?_, fun x hx => ?_, fun x hx => ?_⟩
  · rcases key x hx with rfl | rfl | rfl | rfl | ⟨h1, h2, h3⟩
    · rw [vi]; exact Or.inr (Or.inr hTe)
    · rw [vo]; exact Or.inr (Or.inr he)
    · rw [ve]; exact Or.inr (Or.inl rfl)
    · rw [vt]; exact Or.inl rfl
    · rw [vx x h1 h2 h3]; exact Or.inr (Or.inr (h.sp x h1))
  · rcases key x hx with rfl | rfl | rfl | rfl | ⟨h1, h2, h3⟩
    · rw [vi, vt]
    · rw [vo, ve]
    · rw [ve, vo]
    · rw [vt, vi]
    · rw [vx x h1 h2 h3, vx (T x) (h.sp x h1) (fun h0 => h3 (by rw [← h.inv x h1, h0])) (fun h0 => h2 (by rw [← h.inv x h1, h0, h.inv e he])), h.inv x h1]
  · rcases key x hx with rfl | rfl | rfl | rfl | ⟨h1, h2, h3⟩
    · rw [vi]; exact n4
    · rw [vo]; exact n3
    · rw [ve]; exact Ne.symm n3
    · rw [vt]; exact Ne.symm n4
    · rw [vx x h1 h2 h3]; exact h.ne x h1
theorem Invo.congr {D D' : Nat → Prop} {T : Nat → Nat} (h : Invo D T) (hD : ∀ x, D x ↔ D' x) : Invo D' T :=
  ⟨fun x hx => (hD _).1 (h.sp x ((hD x).2 hx)), fun x hx => h.inv x ((hD x).2 hx), fun x hx => h.ne x ((hD x).2 hx)⟩
theorem cor_ge (n : Nat) (up : Bool) (c : Nat) : 4 * n + 4 ≤ cor n up c := by unfold cor; omega
theorem cor_ne (n : Nat) (up : Bool) : cor n up 0 ≠ cor n up 1 ∧ cor n up 0 ≠ cor n up 2 ∧ cor n up 0 ≠ cor n up 3 ∧ cor n up 1 ≠ cor n up 2 ∧ cor n up 1 ≠ cor n up 3 ∧ cor n up 2 ≠ cor n up 3 := by
  cases up <;> simp [cor, sdOf]
theorem stepT_invo {T : Nat → Nat} {n : Nat} (h : Invo (Dom n) T) (right up : Bool) : Invo (Dom (n + 1)) (stepT T n right up) := by
  obtain ⟨m1, m2, m3, m4, m5, m6⟩ := cor_ne n up
  have g0 := cor_ge n up 0
  have g1 := cor_ge n up 1
  have g2 := cor_ge n up 2
  have g3 := cor_ge n up 3
  have c0 := cor_lt n up 0
  have c1 := cor_lt n up 1
  have c2 := cor_lt n up 2
  have c3 := cor_lt n up 3
  have all := cor_all n up
  have nd : ∀ c, ¬ Dom n (cor n up c) := fun c hc => by have := cor_ge n up c; unfold Dom at hc; omega
  unfold stepT
  split
  · have h1 := leadF_invo h (e := 1) (by unfold Dom; omega) (nd 0) (nd 1) m1
    have h2 := leadF_invo h1 (e := 3) (i := cor n up 2) (o := cor n up 3) (Or.inr (Or.inr (by unfold Dom; omega))) (fun h0 => h0.elim (Ne.symm m2) (fun h0 => h0.elim (Ne.symm m4) (nd 2))) (fun h0 => h0.elim (Ne.symm m3) (fun h0 => h0.elim (Ne.symm m5) (nd 3))) m6
    refine h2.congr fun x => ?_
    unfold Dom
    constructor
    · intro hx; omega
    · intro hx
      rcases Nat.lt_or_ge x (4 * n + 4) with h3 | h3
      · omega
      · have := all x h3 hx; omega
  · have h1 := leadF_invo h (e := 2) (by unfold Dom; omega) (nd 0) (nd 2) m2
    have h2 := leadF_invo h1 (e := 3) (i := cor n up 1) (o := cor n up 3) (Or.inr (Or.inr (by unfold Dom; omega))) (fun h0 => h0.elim (Ne.symm m1) (fun h0 => h0.elim m4 (nd 1))) (fun h0 => h0.elim (Ne.symm m3) (fun h0 => h0.elim (Ne.symm m6) (nd 3))) m5
    refine h2.congr fun x => ?_
    unfold Dom
    constructor
    · intro hx; omega
    · intro hx
      rcases Nat.lt_or_ge x (4 * n + 4) with h3 | h3
      · omega
      · have := all x h3 hx; omega
theorem twR_invo {T : Nat → Nat} {n : Nat} (h : Invo (Dom n) T) (right up : Bool) (j : Nat) : Invo (Dom (n + j)) (twR T n right up j) := by
  induction j with
  | zero => exact h
  | succ j ih => exact stepT_invo ih right up
theorem tie0_invo : Invo (Dom 0) tie0 := by
  have key : ∀ x, Dom 0 x → x = 0 ∨ x = 1 ∨ x = 2 ∨ x = 3 := fun x hx => by unfold Dom at hx; omega
  refine ⟨fun x hx => tie0_bd x hx, fun x hx => ?_, fun x hx => ?_⟩ <;>
  · rcases key x hx with rfl | rfl | rfl | rfl <;> decide
theorem twL_invo (l : List Int) (i : Nat) : Invo (Dom (szTo l i)) (twL l i) := by
  induction i with
  | zero => exact tie0_invo
  | succ i ih => exact twR_invo ih _ _ _
/-- Two ends of the tangle are tied to one another. -/
def jn (T : Nat → Nat) (a b : Nat) : Nat → Nat := if T a = b then T else tieF T (T a) (T b)
theorem jn_invo {D : Nat → Prop} {T : Nat → Nat} {a b : Nat} (h : Invo D T) (ha : D a) (hb : D b) (hab : a ≠ b) : Invo (fun x => D x ∧ x ≠ a ∧ x ≠ b) (jn T a b) := by
  unfold jn
  by_cases e : T a = b
  · rw [if_pos e]
    have e2 : T b = a := by rw [← e, h.inv a ha]
    refine ⟨fun x ⟨h1, h2, h3⟩ => ⟨h.sp x h1, fun h0 => h3 ?_, fun h0 => h2 ?_⟩, fun x hx => h.inv x hx.1, fun x hx => h.ne x hx.1⟩
    · rw [← h.inv x h1, h0, e]
    · rw [← h.inv x h1, h0, e2]
  · rw [if_neg e]
    have e2 : T b ≠ a := fun h0 => e (by rw [← h0, h.inv b hb])
    have v : ∀ x, tieF T (T a) (T b) x = if x = T b then T a else if x = T a then T b else T x := fun x => rfl
    have n1 : T a ≠ T b := fun h0 => hab (by rw [← h.inv a ha, h0, h.inv b hb])
    refine ⟨fun x ⟨h1, h2, h3⟩ => ?_, fun x ⟨h1, h2, h3⟩ => ?_, fun x ⟨h1, h2, h3⟩ => ?_⟩
    · rw [v]
      split
      · exact ⟨h.sp a ha, h.ne a ha, e⟩
      · split
        · exact ⟨h.sp b hb, e2, h.ne b hb⟩
        · rename_i q1 q2
          exact ⟨h.sp x h1, fun h0 => q2 (by rw [← h0, h.inv x h1]), fun h0 => q1 (by rw [← h0, h.inv x h1])⟩
    · rw [v x]
      by_cases q1 : x = T b
      · rw [if_pos q1, v, if_neg n1, if_pos rfl, q1]
      · rw [if_neg q1]
        by_cases q2 : x = T a
        · rw [if_pos q2, v, if_pos rfl, q2]
        · rw [if_neg q2, v, if_neg (fun h0 => h3 (by rw [← h.inv x h1, h0, h.inv b hb])), if_neg (fun h0 => h2 (by rw [← h.inv x h1, h0, h.inv a ha])), h.inv x h1]
    · rw [v x]
      by_cases q1 : x = T b
      · rw [if_pos q1, q1]; exact n1
      · rw [if_neg q1]
        by_cases q2 : x = T a
        · rw [if_pos q2, q2]; exact Ne.symm n1
        · rw [if_neg q2]; exact h.ne x h1
/-- The ties of the link. -/
def lkU (l : List Int) : Nat → Nat := jn (jn (twL l l.length) 0 1) 2 3
/-- How many loops come of it. -/
def lkO (l : List Int) : Nat := (if twL l l.length 0 = 1 then 1 else 0) + (if jn (twL l l.length) 0 1 2 = 3 then 1 else 0)
theorem lkU_ties (l : List Int) : Ties (szTo l l.length) (lkU l) := by
  have h0 := twL_invo l l.length
  have h1 := jn_invo h0 (a := 0) (b := 1) (by unfold Dom; omega) (by unfold Dom; omega) (by decide)
  have h2 := jn_invo h1 (a := 2) (b := 3) ⟨by unfold Dom; omega, by decide, by decide⟩ ⟨by unfold Dom; omega, by decide, by decide⟩ (by decide)
  have h3 := h2.congr (D' := Sp (szTo l l.length)) fun x => by
    unfold Dom Sp
    constructor
    · intro hx; omega
    · intro hx; exact ⟨⟨by omega, by omega, by omega⟩, by omega, by omega⟩
  exact ⟨h3.sp, h3.inv, h3.ne⟩
end Go.Proofs.YtnlcknlodjjdbaaDoor
/- The walk of tangle.Link. -/
namespace Go.Proofs.YtnlcknlodjjdbaaDoor
open Go.RowKit Go.Maps

set_option maxHeartbeats 8000000 in
set_option maxRecDepth 100000 in
theorem link_yes (a : Option Addr) (cap : Nat) (l : List Int) (w : World) (hl : l.length ≤ 140737488355328) (hn : listN l = 0) (h : RdAt w w.heap.size 1 (.slice a l.length cap) l.length (intsV l)) :
    Calls Tryd.prog 8 #[.slice a l.length cap] w fun e w' => ∃ a2 cap2, e = .returned (.tuple #[.agg #[.slice a2 (szTo l l.length) cap2, .int .i64 (lkO l : Nat)], .int .i64 0]) ∧ Crs w' w'.heap.size (.slice a2 (szTo l l.length) cap2) (lkC (szTo l l.length) (lkU l)) ∧ Below w.heap.size w w' := by
  obtain ⟨Y, hY⟩ : ∃ Y, Y = w.alloc (.cells #[.slice none 0 0, .int .i64 0] 32) := ⟨_, rfl⟩
  have HY : Hid (Y = w.alloc (.cells #[.slice none 0 0, .int .i64 0] 32)) := hY
  have HBY : Hid (Below w.heap.size w Y) := (by rw [hY]; exact (Below.refl _ _).alloc (Nat.le_refl _) _ : Below w.heap.size w Y)
  have HT : Hid (Y.heap[w.heap.size]? = some (.cells #[.slice none 0 0, .int .i64 0] 32 (0, 0))) := (by rw [hY]; exact box_at _ _ : Y.heap[w.heap.size]? = some (.cells #[.slice none 0 0, .int .i64 0] 32 (0, 0)))
  have HF : Hid (Calls Tryd.prog 13 #[.slice a l.length cap] Y fun e w' => e = .returned (.int .i64 (listN l)) ∧ Below Y.heap.size Y w') := tgRefusal_any a cap l Y hl ((h.on HBY.out).mono HBY.out.size)
  rw [hn] at HF
  obtain ⟨g1, g2, g3⟩ := listN_ok hn
  have HTW : Hid (∀ W, Below w.heap.size w W → Calls Tryd.prog 14 #[.slice a l.length cap] W fun e w' => e = .returned (.tuple #[.map (some W.heap.size), .int .i64 (szTo l l.length : Nat)]) ∧ MapT w' W.heap.size 400 (Dom (szTo l l.length)) (twL l l.length) ∧ Below W.heap.size W w') := fun W hW => twisted_any a cap l W hl g3 g1 ((h.on hW).mono hW.size)
  obtain ⟨n, hN⟩ : ∃ n, szTo l l.length = n := ⟨_, rfl⟩
  have hU := lkU_ties l
  have hIV := twL_invo l l.length
  rw [hN] at HTW hU hIV g3 ⊢
  have HOE : Hid (lkO l = (if twL l l.length 0 = 1 then 1 else 0) + (if jn (twL l l.length) 0 1 2 = 3 then 1 else 0)) := (rfl : lkO l = (if twL l l.length 0 = 1 then 1 else 0) + (if jn (twL l l.length) 0 1 2 = 3 then 1 else 0))
  have HUE : Hid (lkU l = jn (jn (twL l l.length) 0 1) 2 3) := (rfl : lkU l = jn (jn (twL l l.length) 0 1) 2 3)
  generalize twL l l.length = T at HTW hIV HOE HUE
  have hb1 : ∀ x, x < 4 * n + 4 → T x < 4 * n + 4 := fun x hx => hIV.sp x hx
  have hJ := jn_invo hIV (a := 0) (b := 1) (by unfold Dom; omega) (by unfold Dom; omega) (by decide)
  have HJ1 : Hid (∀ b W, MapT W b 400 (Dom n) T → Calls Tryd.prog 15 #[.map (some b), .int .i64 0, .int .i64 1] W fun r w' => r = .returned (.int .i64 (if T 0 = 1 then 1 else 0)) ∧ MapT w' b 402 (Dom n) (jn T 0 1) ∧ W.grownBy w' (some b)) := fun b W hW => join_any b 400 0 1 (Dom n) T W hW (by omega) (by omega) (by unfold Dom; omega) (by unfold Dom; omega) (by have := hb1 0 (by omega); omega) (by have := hb1 1 (by omega); omega) (by omega)
  have hb2 : jn T 0 1 2 < 80 ∧ jn T 0 1 3 < 80 := by
    have q1 : jn T 0 1 2 < 4 * n + 4 := (hJ.sp 2 ⟨by unfold Dom; omega, by decide, by decide⟩).1
    have q2 : jn T 0 1 3 < 4 * n + 4 := (hJ.sp 3 ⟨by unfold Dom; omega, by decide, by decide⟩).1
    omega
  have HJ2 : Hid (∀ b W, MapT W b 402 (Dom n) (jn T 0 1) → Calls Tryd.prog 15 #[.map (some b), .int .i64 2, .int .i64 3] W fun r w' => r = .returned (.int .i64 (if jn T 0 1 2 = 3 then 1 else 0)) ∧ MapT w' b 404 (Dom n) (jn (jn T 0 1) 2 3) ∧ W.grownBy w' (some b)) := fun b W hW => join_any b 402 2 3 (Dom n) (jn T 0 1) W hW (by omega) (by omega) (by unfold Dom; omega) (by unfold Dom; omega) hb2.1 hb2.2 (by omega)
  have HWK : Hid (∀ b W, MapT W b 404 (Dom n) (jn (jn T 0 1) 2 3) → Calls Tryd.prog 16 #[.map (some b), .int .i64 (n : Nat)] W fun e w' => ∃ g, e = .returned (.slice (some ⟨g, 0, none⟩) n n) ∧ W.heap.size ≤ g ∧ w'.ownsRow g 79 5 (.slice (some ⟨g, 0, none⟩) n n) n (crossCells (lkC n (lkU l))) ∧ Below W.heap.size W w') := fun b W hW => walked_any b 404 n (lkU l) W hU g3 (hW.congr (Nat.le_refl _) (fun x hx => ⟨by unfold Sp at hx; unfold Dom; omega, by rw [HUE.out]⟩))
  obtain ⟨o1, ho1⟩ : ∃ o1 : Nat, (if T 0 = 1 then 1 else 0) = o1 := ⟨_, rfl⟩
  obtain ⟨o2, ho2⟩ : ∃ o2 : Nat, (if jn T 0 1 2 = 3 then 1 else 0) = o2 := ⟨_, rfl⟩
  have k1 : o1 ≤ 1 := by rw [← ho1]; split <;> omega
  have k2 : o2 ≤ 1 := by rw [← ho2]; split <;> omega
  have z1 : (if T 0 = 1 then (1 : Int) else 0) = (o1 : Int) := by rw [← ho1]; split <;> rfl
  have z2 : (if jn T 0 1 2 = 3 then (1 : Int) else 0) = (o2 : Int) := by rw [← ho2]; split <;> rfl
  rw [ho1, ho2] at HOE
  rw [z1] at HJ1
  rw [z2] at HJ2
  have HOI : Hid ((lkO l : Int) = (o1 : Int) + (o2 : Int)) := (by rw [HOE.out]; simp : (lkO l : Int) = (o1 : Int) + (o2 : Int))
  have ewo : IntKind.i64.wrap ((o1 : Int) + (o2 : Int)) = (o1 : Int) + (o2 : Int) := IntWalk.i64_in _ (by omega)
  have hsY : w.heap.size < Y.heap.size := by rw [hY]; simp
  rw [HOI.out]
  clear h hY hN hU hIV hb1 hJ hb2 ho1 ho2 z1 z2 g1 g2 HOE HUE
  go_enter Tryd.func8, Tryd.ntmps8
  go_wp2_with (go_at_call 13; rw [← HY.out]; refine HF.out.mono ?_; rintro e9 w2 ⟨rfl, hb2⟩; refine Hid.out ?_)
  refine Lib.hid ?_
  have HB2 : Hid (Below w.heap.size w w2) := HBY.out.trans (hb2.mono HBY.out.size)
  have HT2 : Hid (w2.heap[w.heap.size]? = some (.cells #[.slice none 0 0, .int .i64 0] 32 (0, 0))) := (hb2.block _ hsY).trans HT.out
  have l2 := (Array.getElem?_eq_some_iff.1 HT2.out).1
  clear hb2
  go_wp2_with (go_at_call 14; refine (HTW.out _ HB2.out).mono ?_; rintro e9 w3 ⟨rfl, hm3, hb3⟩; refine Hid.out ?_)
  refine Lib.hid ?_
  obtain ⟨b, hbe⟩ : ∃ b, w2.heap.size = b := ⟨_, rfl⟩
  have HB3 : Hid (Below w.heap.size w w3) := HB2.out.trans (hb3.mono HB2.out.size)
  have HT3 : Hid (w3.heap[w.heap.size]? = some (.cells #[.slice none 0 0, .int .i64 0] 32 (0, 0))) := (hb3.block _ l2).trans HT2.out
  have HLB : Hid (w.heap.size < b) := (by rw [← hbe]; exact l2 : w.heap.size < b)
  rw [hbe] at hm3 ⊢
  have HM3 : Hid (MapT w3 b 400 (Dom n) T) := hm3
  clear hm3 hb3 hbe l2 HTW
  go_wp2_with (go_at_call 15; refine (HJ1.out b _ HM3.out).mono ?_; rintro e9 w4 ⟨rfl, hm4, hg4⟩; refine Hid.out ?_)
  refine Lib.hid ?_
  have HM4 : Hid (MapT w4 b 402 (Dom n) (jn T 0 1)) := hm4
  have HG4 : Hid (w3.grownBy w4 (some b)) := hg4
  clear hm4 hg4
  go_wp2_with (go_at_call 15; refine (HJ2.out b _ HM4.out).mono ?_; rintro e9 w5 ⟨rfl, hm5, hg5⟩; refine Hid.out ?_)
  refine Lib.hid ?_
  have HM5 : Hid (MapT w5 b 404 (Dom n) (jn (jn T 0 1) 2 3)) := hm5
  have HG5 : Hid (w3.grownBy w5 (some b)) := grown_two HG4.out hg5
  have HB5 : Hid (Below w.heap.size w w5) := below_map HB3.out (by have := HLB.out; omega) HG5.out
  have HT5 : Hid (w5.heap[w.heap.size]? = some (.cells #[.slice none 0 0, .int .i64 0] 32 (0, 0))) := (HG5.out.block _ (Array.getElem?_eq_some_iff.1 HT3.out).1 (fun e => by have h1 : w.heap.size = b := Option.some.inj e; have h2 := HLB.out; omega)).trans HT3.out
  clear hm5 hg5
  go_wp2_with (go_at_call 16; refine (HWK.out b _ HM5.out).mono ?_; rintro e9 w6 ⟨g6, rfl, hg6, hc6, hb6⟩; refine Hid.out ?_)
  refine Lib.hid ?_
  have HB6 : Hid (Below w.heap.size w w6) := HB5.out.trans (hb6.mono HB5.out.size)
  have HC6 : Hid (w6.ownsRow g6 79 5 (.slice (some ⟨g6, 0, none⟩) n n) n (crossCells (lkC n (lkU l)))) := hc6
  have HG6 : Hid (w.heap.size < g6) := (Nat.lt_of_lt_of_le (Array.getElem?_eq_some_iff.1 HT5.out).1 hg6 : w.heap.size < g6)
  have t6 := (hb6.block _ (Array.getElem?_eq_some_iff.1 HT5.out).1).trans HT5.out
  have HT6 : Hid (w6.heap[w.heap.size]? = some (.cells #[.slice none 0 0, .int .i64 0] 32 (0, 0))) := t6
  have c0 : w6.cell? ⟨w.heap.size, 0, none⟩ = some (.slice none 0 0) := block_cell t6 rfl
  have c1 : w6.cell? ⟨w.heap.size, 1, none⟩ = some (.int .i64 0) := block_cell t6 rfl
  have f0 : w6.frozen? ⟨w.heap.size, 0, none⟩ = false := froz t6
  have f1 : w6.frozen? ⟨w.heap.size, 1, none⟩ = false := froz t6
  have l6 := (Array.getElem?_eq_some_iff.1 t6).1
  clear hb6 t6 hc6 hg6
  go_wp2
  obtain ⟨Z, hZ⟩ : ∃ Z, Z = (w6.setCell ⟨w.heap.size, 0, none⟩ (.slice (some ⟨g6, 0, none⟩) n n)).setCell ⟨w.heap.size, 1, none⟩ (.int .i64 ((o1 : Int) + (o2 : Int))) := ⟨_, rfl⟩
  have hzb : Z.heap[w.heap.size]? = some (.cells #[.slice (some ⟨g6, 0, none⟩) n n, .int .i64 ((o1 : Int) + (o2 : Int))] 32 (0, 0)) := by rw [hZ, set_block (set_block HT6.out)]; rfl
  have hgZ : w6.grownBy Z (some w.heap.size) := by rw [hZ]; exact grown_two (set_grown _ _ _ _) (set_grown _ _ _ _)
  rw [← hZ]
  have x0 : Z.cell? ⟨w.heap.size, 0, none⟩ = some (.slice (some ⟨g6, 0, none⟩) n n) := block_cell hzb rfl
  have x1 : Z.cell? ⟨w.heap.size, 1, none⟩ = some (.int .i64 ((o1 : Int) + (o2 : Int))) := block_cell hzb rfl
  have hlc : (lkC n (lkU l)).length = n := by simp [lkC]
  have hrz : Z.ownsRow g6 79 5 (.slice (some ⟨g6, 0, none⟩) n n) (lkC n (lkU l)).length (crossCells (lkC n (lkU l))) := by
    rw [hlc]
    exact HC6.out.kept hgZ (Or.inr (fun e => by have h1 : g6 = w.heap.size := Option.some.inj e; have h2 := HG6.out; omega))
  exact bodyPost_ret (v := .tuple #[.agg #[.slice (some ⟨g6, 0, none⟩) n n, .int .i64 ((o1 : Int) + (o2 : Int))], .int .i64 0]) (by simp [results, Tryd.results8, go_sem, x0, x1]) rfl ⟨_, _, rfl, crs_own hrz (by rw [hlc]; unfold maxLen; omega), HB6.out.grown hgZ HB6.out.size (fun q hq => by have := Option.some.inj hq; omega)⟩
end Go.Proofs.YtnlcknlodjjdbaaDoor

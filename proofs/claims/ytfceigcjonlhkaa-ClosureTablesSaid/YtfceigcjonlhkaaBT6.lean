/- Burau's tables: the walk of closure.table.multiply. -/
import Derived.Test.YtfceigcjonlhkaaBT5
import Derived.Test.YtfceigcjonlhkaaCL1
import Derived.Test.YtfceigcjonlhkaaEndsP
import Derived.Deep.Cut
import Derived.Deep.RegionHeldLaw
namespace Go.Proofs.Ytfceigcjonlhkaa.Poly
open Go.RowKit Go.Maps

/-- The terms of a letter's four maps. -/
def qA (x : Int) : List (Int × Int) := if 0 < x then [(0, 1), (1, -1)] else []
def qB (x : Int) : List (Int × Int) := if 0 < x then [(1, 1)] else [(0, 1)]
def qC (x : Int) : List (Int × Int) := if 0 < x then [(0, 1)] else [(-1, 1)]
def qD (x : Int) : List (Int × Int) := if 0 < x then [] else [(-1, -1), (0, 1)]
/-- At most two terms, each 1 or -1. -/
def Two (q : List (Int × Int)) : Prop := q.length ≤ 2 ∧ ∀ t ∈ q, t.2 = 1 ∨ t.2 = -1
theorem two_q (x : Int) : Two (qA x) ∧ Two (qB x) ∧ Two (qC x) ∧ Two (qD x) := by
  unfold qA qB qC qD Two
  by_cases h : 0 < x
  · simp [h]
  · simp [h]
theorem prodL_two {q : List (Int × Int)} (h : Two q) {f : Int → Int} {H : Nat} (hf : ∀ y, -(H : Int) ≤ f y ∧ f y ≤ H) (y : Int) : -(2 * (H : Int)) ≤ prodL q f y ∧ prodL q f y ≤ 2 * (H : Int) := by
  obtain ⟨h1, h2⟩ := h
  match q, h1, h2 with
  | [], _, _ => simp only [prodL]; omega
  | [t], _, h2 =>
    have a := h2 t (by simp)
    have b := hf (y - t.1)
    simp only [prodL]
    rcases a with e | e <;> rw [e] <;> omega
  | [t, u], _, h2 =>
    have a := h2 t (by simp)
    have b := hf (y - t.1)
    have c := h2 u (by simp)
    have d := hf (y - u.1)
    simp only [prodL]
    rcases a with e | e <;> rcases c with e' | e' <;> rw [e, e'] <;> omega
theorem coefL_two {q : List (Int × Int)} (h : Two q) (y : Int) : -100 ≤ coefL q y ∧ coefL q y ≤ 100 := by
  obtain ⟨h1, h2⟩ := h
  match q, h1, h2 with
  | [], _, _ => simp only [coefL]; omega
  | [t], _, h2 =>
    have a := h2 t (by simp)
    simp only [coefL]
    split <;> omega
  | [t, u], _, h2 =>
    have a := h2 t (by simp)
    have c := h2 u (by simp)
    simp only [coefL]
    split <;> split <;> omega
theorem q_L (x : Int) (L R : Int → Int) (y : Int) : prodL (qA x) L y + prodL (qC x) R y = buL x L R y := by
  unfold qA qC
  by_cases h : 0 < x
  · rw [if_pos h, if_pos h]; exact pos_L x h L R y
  · rw [if_neg h, if_neg h]; exact neg_L x h L R y
theorem q_R (x : Int) (L R : Int → Int) (y : Int) : prodL (qB x) L y + prodL (qD x) R y = buR x L R y := by
  unfold qB qD
  by_cases h : 0 < x
  · rw [if_pos h, if_pos h]; exact pos_R x h L R y
  · rw [if_neg h, if_neg h]; exact neg_R x h L R y
def uv (V : Nat → Nat → Value) (r j : Nat) (u : Value) : Nat → Nat → Value := fun a b => if a = r ∧ b = j then u else V a b
def ug (G : Nat → Nat → Int → Int) (r j : Nat) (f : Int → Int) : Nat → Nat → Int → Int := fun a b => if a = r ∧ b = j then f else G a b
/-- A table while a letter is multiplied to it: rows from r on are still as they were. -/
structure StM (B : Nat) (w0 : World) (g n N K : Nat) (gs : Nat → Nat) (r : Nat) (V : Nat → Nat → Value) (F G : Nat → Nat → Int → Int) (gb a b c d : Nat) (x : Int) (W : World) : Prop where
  tb : Bu B g n (4 * N) (K + 1) gs n V G W
  rest : ∀ i j, r ≤ i → i < n → j < n → WkV W W.heap.size (V i j) N K (F i j)
  bl : BlV W W.heap.size a b c d x
  box : W.heap[gb]? = some (.cells #[.map (some a), .map (some b), .map (some c), .map (some d)] 182 (0, 0))
  bel : Below B w0 W
  nb : ∀ i, i < n → gs i ≠ gb
section
variable {B : Nat} {w0 : World} {g n N K : Nat} {gs : Nat → Nat} {r : Nat} {V : Nat → Nat → Value} {F G : Nat → Nat → Int → Int} {gb a b c d : Nat} {x : Int} {W W' : World}
theorem BlV.up {B' : Nat} (h : BlV W B' a b c d x) (hb : Below B' W W') (hB : B' ≤ W'.heap.size) : BlV W' W'.heap.size a b c d x := ⟨(h.a.on hb).mono hB, (h.b.on hb).mono hB, (h.c.on hb).mono hB, (h.d.on hb).mono hB⟩
theorem StM.any (h : StM B w0 g n N K gs r V F G gb a b c d x W) (hb : Below W.heap.size W W') : StM B w0 g n N K gs r V F G gb a b c d x W' :=
  ⟨h.tb.any hb, fun i j h1 h2 h3 => ((h.rest i j h1 h2 h3).on hb).mono hb.size (Nat.le_refl _) (Nat.le_refl _), h.bl.up hb hb.size, (hb.block _ (Array.getElem?_eq_some_iff.1 h.box).1).trans h.box, h.bel.trans (hb.mono (by have := h.tb.lt.1; omega)), h.nb⟩
theorem StM.put {q j z : Nat} {f : Int → Int} (h : StM B w0 g n N K gs r V F G gb a b c d x W) (hq : q < n) (hr : r ≤ q + 1) (hz : WkV W W.heap.size (.map (some z)) (4 * N) (K + 1) f) :
    StM B w0 g n N K gs (q + 1) (uv V q j (.map (some z))) F (ug G q j f) gb a b c d x (W.setCell ⟨gs q, j, none⟩ (.map (some z))) ∧ W.grownBy (W.setCell ⟨gs q, j, none⟩ (.map (some z))) (some (gs q)) := by
  obtain ⟨h1, h2⟩ := h.tb.set (V' := uv V q j (.map (some z))) (F' := ug G q j f) q j (.map (some z)) hq (fun a b _ _ => rfl) (fun a b _ _ hne => if_neg hne) (fun _ => by unfold ug; rw [if_pos ⟨rfl, rfl⟩]; exact hz)
  obtain ⟨cs, hcs⟩ := row_cells (h.tb.rows q hq)
  have hlt := (h.tb.lt.2 q hq).1
  refine ⟨⟨h1, fun i j' hi1 hi2 hj => ?_, ⟨(h.bl.a.set h2 hcs).mono h2.size, (h.bl.b.set h2 hcs).mono h2.size, (h.bl.c.set h2 hcs).mono h2.size, (h.bl.d.set h2 hcs).mono h2.size⟩, (h2.block _ (Array.getElem?_eq_some_iff.1 h.box).1 (fun e => h.nb q hq (Option.some.inj e).symm)).trans h.box, h.bel.grown h2 (by have := h.tb.lt.1; omega) (fun k hk => by have := Option.some.inj hk; omega), h.nb⟩, h2⟩
  have e : uv V q j (.map (some z)) i j' = V i j' := if_neg (fun e => by omega)
  rw [e]
  exact ((h.rest i j' (by omega) hi2 hj).set h2 hcs).mono h2.size (Nat.le_refl _) (Nat.le_refl _)
end

theorem bu_row (x : Int) (F G : Nat → Nat → Int → Int) (r i j : Nat) (hx : x.natAbs = i) (hij : i = j + 1) (hG : ∀ a c, G a c = if a < r then buS x (F a) c else F a c) (a c : Nat) : (if a < r + 1 then buS x (F a) c else F a c) = ug (ug G r j (buL x (F r j) (F r i))) r i (buR x (F r j) (F r i)) a c := by
  unfold ug
  by_cases e : a = r
  · subst e
    rw [if_pos (Nat.lt_succ_self a)]
    by_cases e1 : c = i
    · have h1 : (if a = a ∧ c = i then buR x (F a j) (F a i) else if a = a ∧ c = j then buL x (F a j) (F a i) else G a c) = buR x (F a j) (F a i) := if_pos ⟨rfl, e1⟩
      rw [h1]
      unfold buS
      rw [hx, if_neg (by omega), if_pos e1, show i - 1 = j by omega]
    · by_cases e2 : c = j
      · have h1 : (if a = a ∧ c = i then buR x (F a j) (F a i) else if a = a ∧ c = j then buL x (F a j) (F a i) else G a c) = buL x (F a j) (F a i) := by rw [if_neg (fun q => e1 q.2), if_pos ⟨rfl, e2⟩]
        rw [h1]
        unfold buS
        rw [hx, if_pos (by omega), show i - 1 = j by omega]
      · have h1 : (if a = a ∧ c = i then buR x (F a j) (F a i) else if a = a ∧ c = j then buL x (F a j) (F a i) else G a c) = F a c := by rw [if_neg (fun q => e1 q.2), if_neg (fun q => e2 q.2), hG, if_neg (Nat.lt_irrefl _)]
        rw [h1]
        unfold buS
        rw [hx, if_neg (by omega), if_neg e1]
  · have h1 : (if a = r ∧ c = i then buR x (F r j) (F r i) else if a = r ∧ c = j then buL x (F r j) (F r i) else G a c) = G a c := by rw [if_neg (fun q => e q.1), if_neg (fun q => e q.1)]
    rw [h1, hG]
    by_cases e1 : a < r
    · rw [if_pos e1, if_pos (by omega)]
    · rw [if_neg e1, if_neg (by omega)]
theorem map_far {W W' : World} {z n : Nat} {P : DataW Unit → Prop} (h : ∃ D : DataW Unit, W.ownsMap Try.prog 3 (plainElem Try.prog 3) z n D ∧ P D) (hb : Below W.heap.size W W') : ∃ D : DataW Unit, W'.ownsMap Try.prog 3 (plainElem Try.prog 3) z n D ∧ P D := by
  obtain ⟨D, h1, h2⟩ := h
  exact ⟨D, map_on h1 hb h1.lt, h2⟩
set_option maxHeartbeats 16000000 in
set_option maxRecDepth 100000 in
theorem multiply_any (B : Nat) (w0 : World) (g n N K H i j : Nat) (gs : Nat → Nat) (V : Nat → Nat → Value) (F : Nat → Nat → Int → Int) (x : Int) (w : World) (hn : n ≤ 6) (hi : i < n) (hij : i = j + 1) (hx : x.natAbs = i) (hN : N ≤ 100000000000000) (hK : K ≤ 800) (hH : H ≤ 1200000000) (hF : ∀ a b, a < n → b < n → ∀ y, -(H : Int) ≤ F a b y ∧ F a b y ≤ H)
    (hT : Bu B g n N K gs n V F w) (hB : Below B w0 w) :
    Calls Try.prog 80 #[.slice (some ⟨g, 0, none⟩) n n, .int .i64 x] w fun e w' => e = .returned (.tuple #[]) ∧ (∃ V', Bu B g n (4 * N) (K + 1) gs n V' (fun a => buS x (F a)) w') ∧ Below B w0 w' := by
  have HSZ : Hid (∀ W, Calls Try.prog 126 #[.int .i64 x] W fun e w' => e = .returned (.int .i64 (i : Int)) ∧ w' = W) := fun W => by have h := clSize_any x W (by omega) (by omega); rw [hx] at h; exact h
  have HX : Hid (x.natAbs = i) := hx
  have HIJ : Hid (i = j + 1) := hij
  have HF : Hid (∀ a b, a < n → b < n → ∀ y, -(H : Int) ≤ F a b y ∧ F a b y ≤ H) := hF
  have HT := hid_mkP hT
  have HB := hid_mkP hB
  have hji : (i : Int) - 1 = (j : Int) := by omega
  have hjn : j < n := by omega
  have hjI : (j : Int) < (n : Int) := by omega
  have hiI : (i : Int) < (n : Int) := by omega
  have HTM : Hid (∀ (v : Value) (m : Nat) (q : List (Int × Int)) (r k : Nat) (W : World), r < n → k < n → Two q → WkV W W.heap.size v N K (F r k) → LiV W W.heap.size m q → Calls Try.prog 128 #[v, .map (some m)] W fun e w' => ∃ z : Nat, e = .returned (.map (some z)) ∧ (∃ D : DataW Unit, w'.ownsMap Try.prog 3 (plainElem Try.prog 3) z (2 * N) D ∧ KeysIn D (((K + 1 : Nat)) : Int) ∧ ∀ y, coefOf D y = prodL q (F r k) y) ∧ Below W.heap.size W w') := fun v m q r k W hr hk hq h1 h2 => (times_wk v m N K H q (F r k) W (by omega) (by omega) (by omega) (hF r k hr hk) (coefL_two hq) h1 h2).mono fun e w' ⟨D, e1, e2, e3, e4, e5⟩ => ⟨_, e1, ⟨D, e2, by rw [show (((K + 1 : Nat)) : Int) = (K : Int) + 1 by omega]; exact e3, e4⟩, e5⟩
  have HPL : Hid (∀ (z1 z2 : Nat) (q1 q2 : List (Int × Int)) (r : Nat) (f : Int → Int) (W : World), r < n → Two q1 → Two q2 → (∀ y, prodL q1 (F r j) y + prodL q2 (F r i) y = f y) → (∃ D : DataW Unit, W.ownsMap Try.prog 3 (plainElem Try.prog 3) z1 (2 * N) D ∧ KeysIn D (((K + 1 : Nat)) : Int) ∧ ∀ y, coefOf D y = prodL q1 (F r j) y) → (∃ D : DataW Unit, W.ownsMap Try.prog 3 (plainElem Try.prog 3) z2 (2 * N) D ∧ KeysIn D (((K + 1 : Nat)) : Int) ∧ ∀ y, coefOf D y = prodL q2 (F r i) y) → Calls Try.prog 129 #[.map (some z1), .map (some z2)] W fun e w' => ∃ z : Nat, e = .returned (.map (some z)) ∧ WkV w' w'.heap.size (.map (some z)) (4 * N) (K + 1) f ∧ Below W.heap.size W w') := fun z1 z2 q1 q2 r f W hr hq1 hq2 hf ⟨D1, a1, a2, a3⟩ ⟨D2, b1, b2, b3⟩ => by
    refine (plusB z1 (2 * N) z2 (2 * N) (K + 1) D1 D2 W a1 b1 (by omega) (by omega) (by omega) a2 b2 (fun y => ?_) (fun y => ?_)).mono fun e w' ⟨D, e1, e2, e3, e4, e5⟩ => ⟨_, e1, Or.inr ⟨_, D, rfl, e2.lt, e2.mono (by omega), e4, fun y => by rw [e3, a3, b3, hf]⟩, e5⟩
    · rw [a3]; have := prodL_two hq1 (hF r j hr (by omega)) y; omega
    · rw [b3]; have := prodL_two hq2 (hF r i hr (by omega)) y; omega
  clear hT hB hF hx hij
  go_enter Try.func80, Try.ntmps80
  go_upto_region 1 with (first
    | (go_at_call 127; refine (block_any x _).mono ?_; rintro e9 w2 ⟨ba, bb, bc, bd, rfl, hbl, hb2⟩)
    | (go_at_call 126; refine (HSZ.out _).mono ?_; rintro e9 w5 ⟨rfl, e5⟩; obtain rfl := e5.symm))
  obtain ⟨Y, hY⟩ : ∃ Y, Y = w2.alloc (.cells #[.map (some ba), .map (some bb), .map (some bc), .map (some bd)] 182) := ⟨_, rfl⟩
  rw [← hY]
  obtain ⟨gb, hgb⟩ : ∃ gb, w2.heap.size = gb := ⟨_, rfl⟩
  have hbY : Below w2.heap.size w2 Y := by rw [hY]; exact (Below.refl _ _).alloc (Nat.le_refl _) _
  have hbwY : Below w.heap.size w Y := hb2.trans (hbY.mono hb2.size)
  have HS0 : Hid (StM B w0 g n N K gs 0 V F (fun a c => if a < 0 then buS x (F a) c else F a c) gb ba bb bc bd x Y) := ⟨((HT.out.any hbwY).mono (by omega) (by omega)).congr (fun _ _ _ _ => rfl) (fun a c _ _ => if_neg (Nat.not_lt_zero _)) (fun _ _ => rfl), fun a c _ ha hc => (HT.out.any hbwY).vals a c ha hc, hbl.up hbY hbY.size, by rw [hY, ← hgb]; exact Array.getElem?_push_size, HB.out.trans (hbwY.mono (by have := HT.out.lt.1; omega)), fun a ha e => by have := (HT.out.lt.2 a ha).2; have := hb2.size; omega⟩
  rw [hgb]
  clear hY hgb hbY hbwY hbl hb2 HT HB
  go_wp2
  go_loopw [19] (fun v19 wr => ∃ (r : Nat) (U : Nat → Nat → Value), r ≤ n ∧ v19 = .int .i64 (r : Nat) ∧ Hid (StM B w0 g n N K gs r U F (fun a c => if a < r then buS x (F a) c else F a c) gb ba bb bc bd x wr)) (fun v19 _ => n - (intOf v19).toNat)
  case atStart => exact ⟨0, V, Nat.zero_le _, rfl, HS0.out⟩
  case round =>
    clear HS0
    rename World => W1
    obtain ⟨r, U, hrn, rfl, hS⟩ := hrel
    by_cases hrl : r < n
    · have hrI : (r : Int) < (n : Int) := by omega
      have o0 := hS.out.tb.cellO r hrl hrl
      have l0 := hS.out.tb.lt.1.2
      have c0 := hS.out.tb.cellR r j hrl hjn
      have c1 := hS.out.tb.cellR r i hrl hi
      have lr := (hS.out.tb.lt.2 r hrl).2
      have HVL := hid_mkP (hS.out.rest r j (Nat.le_refl _) hrl hjn)
      have HVR := hid_mkP (hS.out.rest r i (Nat.le_refl _) hrl hi)
      have HSS := hid_mkP hS.out
      obtain ⟨vL, hvL⟩ : ∃ v, U r j = v := ⟨_, rfl⟩
      obtain ⟨vR, hvR⟩ : ∃ v, U r i = v := ⟨_, rfl⟩
      have HUJ := hid_mkP hvL
      have HUI := hid_mkP hvR
      rw [hvL] at c0 HVL
      rw [hvR] at c1 HVR
      obtain ⟨gr, hgr⟩ : ∃ q, gs r = q := ⟨_, rfl⟩
      have HGR := hid_mkP hgr
      rw [hgr] at o0 c0 c1 lr
      clear hvL hvR hgr hS
      go_wp2
      go_quiet (fail)
      obtain ⟨X, hX⟩ : ∃ X, X = W1.drewN nq := ⟨_, rfl⟩
      rw [← hX]
      have hbX : Below W1.heap.size W1 X := by rw [hX]; exact below_drewN (Below.refl _ _) _
      have HSX := hid_mkP (HSS.out.any hbX)
      have HLX := hid_mkP ((HVL.out.on hbX).mono hbX.size (Nat.le_refl _) (Nat.le_refl _))
      have HRX := hid_mkP ((HVR.out.on hbX).mono hbX.size (Nat.le_refl _) (Nat.le_refl _))
      clear hX hbX HSS HVL HVR o0 c0 c1 l0 lr
      go_wp2
      have HKPp : Hid (∀ W, Below X.heap.size X W → W.cell? ⟨gb, 0, none⟩ = some (.map (some ba)) ∧ W.cell? ⟨gb, 2, none⟩ = some (.map (some bc))) := fun W hW => by
        have g0 := (hW.block _ (Array.getElem?_eq_some_iff.1 HSX.out.box).1).trans HSX.out.box
        exact ⟨block_cell g0 rfl, block_cell g0 rfl⟩
      have HDp : Hid (Below X.heap.size X X.drew) := below_drewN (Below.refl _ _) 1
      have lgbp := (Array.getElem?_eq_some_iff.1 HSX.out.box).1
      apply cut_one
      case h =>
        intro key
        refine wp_region_held_drew (S := fun w' => w'.cell? ⟨gb, 0, none⟩ = some (.map (some ba)) ∧ w'.cell? ⟨gb, 2, none⟩ = some (.map (some bc))) (by kernel_rfl) (HKPp.out _ HDp.out) (fun hHeld => ?_)
        refine wpAnyH_take (i := 0) (v := ?vv0p) rfl (by kernel_rfl) (by kernel_rfl) (by kernel_rfl) (fun _ _ _ h => h) (Or.inl ⟨by rfl, ?yy0p⟩) (by assumption) ?rr0p
        case yy0p => (intro w hSw; (try dsimp only at hSw); go_simp; (try with_reducible rfl))
        try simp only [Act.put]
        refine wpAnyH_take (i := 1) (v := ?vv1p) rfl (by kernel_rfl) (by kernel_rfl) (by kernel_rfl) (fun _ _ _ h => h) (Or.inl ⟨by rfl, ?yy1p⟩) (by assumption) ?rr1p
        case yy1p => (intro w hSw; (try dsimp only at hSw); go_simp; (try with_reducible rfl))
        try simp only [Act.put]
        refine wpAnyH_take (i := 2) (v := ?vv2p) rfl (by kernel_rfl) (by kernel_rfl) (by kernel_rfl) (fun _ _ _ h => h) (Or.inl ⟨by rfl, ?yy2p⟩) (by assumption) ?rr2p
        case yy2p => (intro w hSw; (try dsimp only at hSw); go_simp; (try with_reducible rfl))
        try simp only [Act.put]
        refine wpAnyH_take (i := 3) (v := ?vv3p) rfl (by kernel_rfl) (by kernel_rfl) (by kernel_rfl) (fun _ _ _ h => h) (Or.inl ⟨by rfl, ?yy3p⟩) (by assumption) ?rr3p
        case yy3p => (intro w hSw; (try dsimp only at hSw); go_simp; (try with_reducible rfl))
        try simp only [Act.put]
        refine wpAnyH_take (i := 4) (v := ?vv4p) rfl (by kernel_rfl) (by kernel_rfl) (by kernel_rfl) (fun _ _ _ h => h) (Or.inl ⟨by rfl, ?yy4p⟩) (by assumption) ?rr4p
        case yy4p => (intro w hSw; (try dsimp only at hSw); go_simp; (try with_reducible rfl))
        try simp only [Act.put]
        refine wpAnyH_take (i := 5) (v := ?vv5p) rfl (by kernel_rfl) (by kernel_rfl) (by kernel_rfl) (fun _ _ _ h => h) (Or.inl ⟨by rfl, ?yy5p⟩) (by assumption) ?rr5p
        case yy5p => (intro w hSw; (try dsimp only at hSw); go_simp; (try with_reducible rfl))
        try simp only [Act.put]
        refine wpAnyH_take (i := 7) (v := ?vv7p) rfl (by kernel_rfl) (by kernel_rfl) (by kernel_rfl) (fun _ _ _ h => h) (Or.inl ⟨by rfl, ?yy7p⟩) (by assumption) ?rr7p
        case yy7p => (intro w hSw; (try dsimp only at hSw); go_simp; (try with_reducible rfl))
        try simp only [Act.put]
        refine wpAnyH_take (i := 8) (v := ?vv8p) rfl (by kernel_rfl) (by kernel_rfl) (by kernel_rfl) (fun _ _ _ h => h) (Or.inl ⟨by rfl, ?yy8p⟩) (by assumption) ?rr8p
        case yy8p => (intro w hSw; (try dsimp only at hSw); go_simp; (try with_reducible rfl))
        try simp only [Act.put]
        refine wpAnyH_take (i := 9) (v := ?vv9p) rfl (by kernel_rfl) (by kernel_rfl) (by kernel_rfl) (fun _ _ _ h => h) (Or.inl ⟨by rfl, ?yy9p⟩) (by assumption) ?rr9p
        case yy9p => (intro w hSw; (try dsimp only at hSw); go_simp; (try with_reducible rfl))
        try simp only [Act.put]
        refine wpAnyH_take (i := 10) (v := ?vv10p) rfl (by kernel_rfl) (by kernel_rfl) (by kernel_rfl) (fun _ _ _ h => h) (Or.inl ⟨by rfl, ?yy10p⟩) (by assumption) ?rr10p
        case yy10p => (intro w hSw; (try dsimp only at hSw); go_simp; (try with_reducible rfl))
        try simp only [Act.put]
        refine wpAnyH_ready (rs := [6]) (by kernel_rfl) (by simp) ?_
        refine AllReadyH.cons rfl (fun K hK => ?_) AllReadyH.nil
        · go_simp
          go_wp2_with (go_at_call 128; refine (HTM.out vL ba (qA x) r j _ hrl hjn ((two_q x).1) ((HLX.out.on HDp.out).mono HDp.out.size (Nat.le_refl _) (Nat.le_refl _)) ((HSX.out.bl.a.on HDp.out).mono HDp.out.size)).mono ?_; rintro e9 wp ⟨zA, rfl, zAD, zAb⟩)
          have HzA := hid_mkP zAD
          have Hp : Hid (Below X.heap.size X wp) := HDp.out.trans (zAb.mono HDp.out.size)
          have HzAb := hid_mkP zAb
          clear zAD zAb
          refine hK.out _ _ (HKPp.out _ Hp.out) (fun hHeld => ?_)
          clear hK K
          try simp only [Act.put]
          refine wpAnyH_ready (rs := [11]) (by kernel_rfl) (by simp) ?_
          refine AllReadyH.cons rfl (fun K hK => ?_) AllReadyH.nil
          go_simp
          go_wp2_with (go_at_call 128; refine (HTM.out vR bc (qC x) r i _ hrl hi ((two_q x).2.2.1) ((HRX.out.on Hp.out).mono Hp.out.size (Nat.le_refl _) (Nat.le_refl _)) ((HSX.out.bl.c.on Hp.out).mono Hp.out.size)).mono ?_; rintro e9 wq ⟨zB, rfl, zBD, zBb⟩)
          have HzB := hid_mkP zBD
          have Hq : Hid (Below X.heap.size X wq) := Hp.out.trans (zBb.mono Hp.out.size)
          have HzBb := hid_mkP zBb
          clear zBD zBb
          refine hK.out _ _ (HKPp.out _ Hq.out) (fun hHeld => ?_)
          clear hK K
          try simp only [Act.put]
          have HM1 := hid_mkP (map_far HzA.out HzBb.out)
          refine wpAnyH_ready (rs := [12]) (by kernel_rfl) (by simp) ?_
          refine AllReadyH.cons rfl (fun K hK => ?_) AllReadyH.nil
          go_simp
          go_wp2_with (go_at_call 129; refine (HPL.out zA zB (qA x) (qC x) r (buL x (F r j) (F r i)) _ hrl ((two_q x).1) ((two_q x).2.2.1) (fun y => q_L x _ _ y) HM1.out HzB.out).mono ?_; rintro e9 ws ⟨zC, rfl, hzC, hbs⟩)
          have HzC := hid_mkP hzC
          have Hs : Hid (Below X.heap.size X ws) := Hq.out.trans (hbs.mono Hq.out.size)
          clear hzC hbs
          refine hK.out _ _ (HKPp.out _ Hs.out) (fun hHeld => ?_)
          clear hK K
          try simp only [Act.put]
          refine wpAnyH_take (i := 13) (v := ?vv13pa) rfl (by kernel_rfl) (by kernel_rfl) (by kernel_rfl) (fun _ _ _ h => h) (Or.inl ⟨by rfl, ?yy13pa⟩) (by assumption) ?rr13pa
          case yy13pa => (intro w hSw; (try dsimp only at hSw); go_simp; (try with_reducible rfl))
          try simp only [Act.put]
          have hws := HSX.out.any Hs.out
          have HPT := hid_mkP (hws.put (q := r) (j := j) hrl (by omega) HzC.out)
          have cs := hws.tb.cellR r j hrl hjn
          have fs := (hws.tb.rows r hrl).frozenAt j
          have ls := (hws.tb.lt.2 r hrl).2
          obtain ⟨cR, hcR⟩ := row_cells (hws.tb.rows r hrl)
          have HLN := hid_mkP ((((HLX.out.on Hs.out).mono Hs.out.size (Nat.le_refl _) (Nat.le_refl _)).set HPT.out.2 hcR).mono HPT.out.2.size (Nat.le_refl _) (Nat.le_refl _))
          have HRN := hid_mkP ((((HRX.out.on Hs.out).mono Hs.out.size (Nat.le_refl _) (Nat.le_refl _)).set HPT.out.2 hcR).mono HPT.out.2.size (Nat.le_refl _) (Nat.le_refl _))
          have HKS : Hid ((ws.setCell ⟨gs r, j, none⟩ (.map (some zC))).cell? ⟨gb, 0, none⟩ = some (.map (some ba)) ∧ (ws.setCell ⟨gs r, j, none⟩ (.map (some zC))).cell? ⟨gb, 2, none⟩ = some (.map (some bc))) := (by
            have g0 := HPT.out.1.box
            exact ⟨block_cell g0 rfl, block_cell g0 rfl⟩)
          rw [HGR.out] at HPT cs fs ls HKS HLN HRN
          generalize U r j = vO at cs
          clear hws hcR
          refine wpAnyH_ready (rs := [14]) (by kernel_rfl) (by simp) ?_
          refine AllReadyH.cons rfl (fun K hK => ?_) AllReadyH.nil
          go_simp
          refine hK.out _ _ HKS.out (fun hHeld => ?_)
          clear hK K hHeld HKS cs fs ls
          refine wpAnyH_done (by kernel_rfl) ?_ _
          try simp only [Act.put]
          have HPP := hid_mkP HPT.out.1
          clear HPT
          generalize ws.setCell ⟨gr, j, none⟩ (.map (some zC)) = Z at HPP HLN HRN ⊢
          clear HzC Hs HM1 HzB HzA HzBb HzAb Hp Hq
          revert zA zB zC Z
          exact key.out
      intro zAp zBp zCp Zp HSp HLZp HRZp
      go_wp2
      have HKPq : Hid (∀ W, Below Zp.heap.size Zp W → W.cell? ⟨gb, 1, none⟩ = some (.map (some bb)) ∧ W.cell? ⟨gb, 3, none⟩ = some (.map (some bd))) := fun W hW => by
        have g0 := (hW.block _ (Array.getElem?_eq_some_iff.1 HSp.out.box).1).trans HSp.out.box
        exact ⟨block_cell g0 rfl, block_cell g0 rfl⟩
      have HDq : Hid (Below Zp.heap.size Zp Zp.drew) := below_drewN (Below.refl _ _) 1
      have lgbq := (Array.getElem?_eq_some_iff.1 HSp.out.box).1
      apply cut_one
      case h =>
        intro key
        refine wp_region_held_drew (S := fun w' => w'.cell? ⟨gb, 1, none⟩ = some (.map (some bb)) ∧ w'.cell? ⟨gb, 3, none⟩ = some (.map (some bd))) (by kernel_rfl) (HKPq.out _ HDq.out) (fun hHeld => ?_)
        refine wpAnyH_take (i := 0) (v := ?vv0q) rfl (by kernel_rfl) (by kernel_rfl) (by kernel_rfl) (fun _ _ _ h => h) (Or.inl ⟨by rfl, ?yy0q⟩) (by assumption) ?rr0q
        case yy0q => (intro w hSw; (try dsimp only at hSw); go_simp; (try with_reducible rfl))
        try simp only [Act.put]
        refine wpAnyH_take (i := 1) (v := ?vv1q) rfl (by kernel_rfl) (by kernel_rfl) (by kernel_rfl) (fun _ _ _ h => h) (Or.inl ⟨by rfl, ?yy1q⟩) (by assumption) ?rr1q
        case yy1q => (intro w hSw; (try dsimp only at hSw); go_simp; (try with_reducible rfl))
        try simp only [Act.put]
        refine wpAnyH_take (i := 2) (v := ?vv2q) rfl (by kernel_rfl) (by kernel_rfl) (by kernel_rfl) (fun _ _ _ h => h) (Or.inl ⟨by rfl, ?yy2q⟩) (by assumption) ?rr2q
        case yy2q => (intro w hSw; (try dsimp only at hSw); go_simp; (try with_reducible rfl))
        try simp only [Act.put]
        refine wpAnyH_take (i := 3) (v := ?vv3q) rfl (by kernel_rfl) (by kernel_rfl) (by kernel_rfl) (fun _ _ _ h => h) (Or.inl ⟨by rfl, ?yy3q⟩) (by assumption) ?rr3q
        case yy3q => (intro w hSw; (try dsimp only at hSw); go_simp; (try with_reducible rfl))
        try simp only [Act.put]
        refine wpAnyH_take (i := 4) (v := ?vv4q) rfl (by kernel_rfl) (by kernel_rfl) (by kernel_rfl) (fun _ _ _ h => h) (Or.inl ⟨by rfl, ?yy4q⟩) (by assumption) ?rr4q
        case yy4q => (intro w hSw; (try dsimp only at hSw); go_simp; (try with_reducible rfl))
        try simp only [Act.put]
        refine wpAnyH_take (i := 5) (v := ?vv5q) rfl (by kernel_rfl) (by kernel_rfl) (by kernel_rfl) (fun _ _ _ h => h) (Or.inl ⟨by rfl, ?yy5q⟩) (by assumption) ?rr5q
        case yy5q => (intro w hSw; (try dsimp only at hSw); go_simp; (try with_reducible rfl))
        try simp only [Act.put]
        refine wpAnyH_take (i := 7) (v := ?vv7q) rfl (by kernel_rfl) (by kernel_rfl) (by kernel_rfl) (fun _ _ _ h => h) (Or.inl ⟨by rfl, ?yy7q⟩) (by assumption) ?rr7q
        case yy7q => (intro w hSw; (try dsimp only at hSw); go_simp; (try with_reducible rfl))
        try simp only [Act.put]
        refine wpAnyH_take (i := 8) (v := ?vv8q) rfl (by kernel_rfl) (by kernel_rfl) (by kernel_rfl) (fun _ _ _ h => h) (Or.inl ⟨by rfl, ?yy8q⟩) (by assumption) ?rr8q
        case yy8q => (intro w hSw; (try dsimp only at hSw); go_simp; (try with_reducible rfl))
        try simp only [Act.put]
        refine wpAnyH_take (i := 9) (v := ?vv9q) rfl (by kernel_rfl) (by kernel_rfl) (by kernel_rfl) (fun _ _ _ h => h) (Or.inl ⟨by rfl, ?yy9q⟩) (by assumption) ?rr9q
        case yy9q => (intro w hSw; (try dsimp only at hSw); go_simp; (try with_reducible rfl))
        try simp only [Act.put]
        refine wpAnyH_take (i := 10) (v := ?vv10q) rfl (by kernel_rfl) (by kernel_rfl) (by kernel_rfl) (fun _ _ _ h => h) (Or.inl ⟨by rfl, ?yy10q⟩) (by assumption) ?rr10q
        case yy10q => (intro w hSw; (try dsimp only at hSw); go_simp; (try with_reducible rfl))
        try simp only [Act.put]
        refine wpAnyH_ready (rs := [6]) (by kernel_rfl) (by simp) ?_
        refine AllReadyH.cons rfl (fun K hK => ?_) AllReadyH.nil
        · go_simp
          go_wp2_with (go_at_call 128; refine (HTM.out vL bb (qB x) r j _ hrl hjn ((two_q x).2.1) ((HLZp.out.on HDq.out).mono HDq.out.size (Nat.le_refl _) (Nat.le_refl _)) ((HSp.out.bl.b.on HDq.out).mono HDq.out.size)).mono ?_; rintro e9 wp ⟨zA, rfl, zAD, zAb⟩)
          have HzA := hid_mkP zAD
          have Hp : Hid (Below Zp.heap.size Zp wp) := HDq.out.trans (zAb.mono HDq.out.size)
          have HzAb := hid_mkP zAb
          clear zAD zAb
          refine hK.out _ _ (HKPq.out _ Hp.out) (fun hHeld => ?_)
          clear hK K
          try simp only [Act.put]
          refine wpAnyH_ready (rs := [11]) (by kernel_rfl) (by simp) ?_
          refine AllReadyH.cons rfl (fun K hK => ?_) AllReadyH.nil
          go_simp
          go_wp2_with (go_at_call 128; refine (HTM.out vR bd (qD x) r i _ hrl hi ((two_q x).2.2.2) ((HRZp.out.on Hp.out).mono Hp.out.size (Nat.le_refl _) (Nat.le_refl _)) ((HSp.out.bl.d.on Hp.out).mono Hp.out.size)).mono ?_; rintro e9 wq ⟨zB, rfl, zBD, zBb⟩)
          have HzB := hid_mkP zBD
          have Hq : Hid (Below Zp.heap.size Zp wq) := Hp.out.trans (zBb.mono Hp.out.size)
          have HzBb := hid_mkP zBb
          clear zBD zBb
          refine hK.out _ _ (HKPq.out _ Hq.out) (fun hHeld => ?_)
          clear hK K
          try simp only [Act.put]
          have HM1 := hid_mkP (map_far HzA.out HzBb.out)
          refine wpAnyH_ready (rs := [12]) (by kernel_rfl) (by simp) ?_
          refine AllReadyH.cons rfl (fun K hK => ?_) AllReadyH.nil
          go_simp
          go_wp2_with (go_at_call 129; refine (HPL.out zA zB (qB x) (qD x) r (buR x (F r j) (F r i)) _ hrl ((two_q x).2.1) ((two_q x).2.2.2) (fun y => q_R x _ _ y) HM1.out HzB.out).mono ?_; rintro e9 ws ⟨zC, rfl, hzC, hbs⟩)
          have HzC := hid_mkP hzC
          have Hs : Hid (Below Zp.heap.size Zp ws) := Hq.out.trans (hbs.mono Hq.out.size)
          clear hzC hbs
          refine hK.out _ _ (HKPq.out _ Hs.out) (fun hHeld => ?_)
          clear hK K
          try simp only [Act.put]
          refine wpAnyH_take (i := 13) (v := ?vv13qa) rfl (by kernel_rfl) (by kernel_rfl) (by kernel_rfl) (fun _ _ _ h => h) (Or.inl ⟨by rfl, ?yy13qa⟩) (by assumption) ?rr13qa
          case yy13qa => (intro w hSw; (try dsimp only at hSw); go_simp; (try with_reducible rfl))
          try simp only [Act.put]
          have hws := HSp.out.any Hs.out
          have HPT := hid_mkP (hws.put (q := r) (j := i) hrl (by omega) HzC.out)
          have cs := hws.tb.cellR r i hrl hi
          have fs := (hws.tb.rows r hrl).frozenAt i
          have ls := (hws.tb.lt.2 r hrl).2
          obtain ⟨cR, hcR⟩ := row_cells (hws.tb.rows r hrl)
          have HLN := hid_mkP ((((HLZp.out.on Hs.out).mono Hs.out.size (Nat.le_refl _) (Nat.le_refl _)).set HPT.out.2 hcR).mono HPT.out.2.size (Nat.le_refl _) (Nat.le_refl _))
          have HRN := hid_mkP ((((HRZp.out.on Hs.out).mono Hs.out.size (Nat.le_refl _) (Nat.le_refl _)).set HPT.out.2 hcR).mono HPT.out.2.size (Nat.le_refl _) (Nat.le_refl _))
          have HKS : Hid ((ws.setCell ⟨gs r, i, none⟩ (.map (some zC))).cell? ⟨gb, 1, none⟩ = some (.map (some bb)) ∧ (ws.setCell ⟨gs r, i, none⟩ (.map (some zC))).cell? ⟨gb, 3, none⟩ = some (.map (some bd))) := (by
            have g0 := HPT.out.1.box
            exact ⟨block_cell g0 rfl, block_cell g0 rfl⟩)
          rw [HGR.out] at HPT cs fs ls HKS HLN HRN
          generalize uv U r j (.map (some zCp)) r i = vO at cs
          clear hws hcR
          refine wpAnyH_ready (rs := [14]) (by kernel_rfl) (by simp) ?_
          refine AllReadyH.cons rfl (fun K hK => ?_) AllReadyH.nil
          go_simp
          refine hK.out _ _ HKS.out (fun hHeld => ?_)
          clear hK K hHeld HKS cs fs ls
          refine wpAnyH_done (by kernel_rfl) ?_ _
          try simp only [Act.put]
          have HPP := hid_mkP HPT.out.1
          clear HPT
          generalize ws.setCell ⟨gr, i, none⟩ (.map (some zC)) = Z at HPP HLN HRN ⊢
          clear HzC Hs HM1 HzB HzA HzBb HzAb Hp Hq
          revert zA zB zC Z
          exact key.out
      intro zAq zBq zCq Zq HSq HLZq HRZq
      go_wp2
      have HFN : Hid (StM B w0 g n N K gs (r + 1) (uv (uv U r j (.map (some zCp))) r i (.map (some zCq))) F (fun a c => if a < r + 1 then buS x (F a) c else F a c) gb ba bb bc bd x Zq) := ⟨HSq.out.tb.congr (fun _ _ _ _ => rfl) (fun a c _ _ => bu_row x F _ r i j HX.out HIJ.out (fun _ _ => rfl) a c) (fun _ _ => rfl), HSq.out.rest, HSq.out.bl, HSq.out.box, HSq.out.bel, HSq.out.nb⟩
      go_roundw
      case rel => exact ⟨r + 1, _, by omega, by go_num, HFN.out⟩
      case measure => simp only [intOf]; omega
    · obtain rfl : n = r := by omega
      have HFN : Hid ((∃ V', Bu B g n (4 * N) (K + 1) gs n V' (fun a => buS x (F a)) W1) ∧ Below B w0 W1) := ⟨⟨U, hS.out.tb.congr (fun _ _ _ _ => rfl) (fun a c ha _ => (if_pos ha).symm) (fun _ _ => rfl)⟩, hS.out.bel⟩
      go_wp2
      exact bodyPost_end (v := .tuple #[]) (by simp [results, Try.results80, go_sem]) rfl ⟨rfl, HFN.out.1, HFN.out.2⟩
end Go.Proofs.Ytfceigcjonlhkaa.Poly

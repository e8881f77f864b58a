/- Several texts of the proof, one behind the other. -/
import Derived.Test.YtlcogbcpmneknaaSQ1P
import Derived.Test.YtlcogbcpmneknaaSR1
/- The walk of sign.product. -/
namespace Go.Proofs.Ytlcogbcpmneknaa
open Go.RowKit Go.Maps

/-- A place of the product, of the first k places. -/
def sqA (A B : Nat → Nat → Int) (i j : Nat) : Nat → Int
  | 0 => 0
  | k + 1 => IntKind.i64.wrap (sqA A B i j k + IntKind.i64.wrap (A i k * B k j))
def sqP (A B : Nat → Nat → Int) (n : Nat) : Nat → Nat → Int := fun i j => sqA A B i j n
/-- The table under way. -/
def sqT (A B : Nat → Nat → Int) (n i k j : Nat) : Nat → Nat → Int := fun a b => if a < i then sqA A B a b n else if a = i then (if b < j then sqA A B a b (k + 1) else sqA A B a b k) else 0
theorem sqT_start (A B : Nat → Nat → Int) (n : Nat) (a b : Nat) : sqT A B n 0 0 0 a b = 0 := by
  unfold sqT
  rw [if_neg (Nat.not_lt_zero _), if_neg (Nat.not_lt_zero _)]
  split <;> rfl
theorem sqT_k (A B : Nat → Nat → Int) (n i k a b : Nat) (hb : b < n) : sqT A B n i (k + 1) 0 a b = sqT A B n i k n a b := by
  unfold sqT
  rw [if_neg (Nat.not_lt_zero b), if_pos hb]
theorem sqT_i (A B : Nat → Nat → Int) (n i a b : Nat) : sqT A B n (i + 1) 0 0 a b = sqT A B n i n 0 a b := by
  unfold sqT
  rw [if_neg (Nat.not_lt_zero b), if_neg (Nat.not_lt_zero b)]
  by_cases h1 : a < i
  · rw [if_pos h1, if_pos (by omega)]
  · by_cases h2 : a = i
    · rw [if_neg h1, if_pos h2, if_pos (by omega)]
    · rw [if_neg h1, if_neg h2, if_neg (by omega)]
      split <;> rfl
theorem sqT_end (A B : Nat → Nat → Int) (n a b : Nat) (ha : a < n) : sqP A B n a b = sqT A B n n 0 0 a b := by
  unfold sqT sqP
  rw [if_pos ha]
theorem sqT_j (A B : Nat → Nat → Int) (n i k j a b : Nat) : sqT A B n i k (j + 1) a b = if a = i ∧ b = j then sqA A B i j (k + 1) else sqT A B n i k j a b := by
  unfold sqT
  by_cases h : a = i ∧ b = j
  · obtain ⟨rfl, rfl⟩ := h
    rw [if_neg (by omega), if_pos rfl, if_pos (by omega), if_pos ⟨rfl, rfl⟩]
  · rw [if_neg h]
    by_cases h1 : a < i
    · rw [if_pos h1, if_pos h1]
    · by_cases h2 : a = i
      · rw [if_neg h1, if_pos h2, if_neg h1, if_pos h2]
        by_cases h3 : b < j
        · rw [if_pos h3, if_pos (by omega)]
        · rw [if_neg h3, if_neg (by omega)]
      · rw [if_neg h1, if_neg h2, if_neg h1, if_neg h2]
theorem sqT_at (A B : Nat → Nat → Int) (n i k j : Nat) : sqT A B n i k j i j = sqA A B i j k := by
  unfold sqT
  rw [if_neg (Nat.lt_irrefl _), if_pos rfl, if_neg (Nat.lt_irrefl _)]

set_option maxHeartbeats 8000000 in
set_option maxRecDepth 100000 in
theorem product_none (a1 a2 : Option Addr) (c1 c2 : Nat) (A : Nat → Nat → Int) (w : World) :
    Calls Try.prog 31 #[.slice a1 0 c1, .slice a2 0 c2] w fun e w' => ∃ gt gs, e = .returned (.slice (some ⟨gt, 0, none⟩) 0 0) ∧ TabAt w.heap.size gt 0 gs 0 A w' ∧ Below w.heap.size w w' := by
  have HSQ := hidS (fun W => squareS_any 0 W (by omega))
  go_enter Try.func31, Try.ntmps31
  go_wp2_with (go_at_call 29; refine (HSQ.out _).mono ?_; rintro e9 w1 ⟨gt, gs, rfl, hT, hb1⟩; refine Hid.out ?_)
  refine Lib.hid ?_
  have HT := hidS (hT.congr (T' := A) (fun x y hx => absurd hx (Nat.not_lt_zero _)))
  have HB := hidS hb1
  clear hT hb1
  go_wp2
  go_loopw [17, 6, 7, 8, 9, 10, 11, 24, 34] (fun v17 _ _ _ _ _ _ _ _ wr => v17 = .int .i64 0 ∧ Hid (TabAt w.heap.size gt 0 gs 0 A wr) ∧ Hid (Below w.heap.size w wr)) (fun _ _ _ _ _ _ _ _ _ _ => 0)
  case atStart => exact ⟨rfl, HT.out, HB.out⟩
  case round =>
    clear HT HB
    obtain ⟨rfl, hT, hb⟩ := hrel
    go_wp2
    go_ret
    exact ⟨gt, gs, rfl, hT.out, hb.out⟩

set_option maxHeartbeats 8000000 in
set_option maxRecDepth 100000 in
theorem product_some (b1 o1 c1 b2 o2 c2 n : Nat) (A B : Nat → Nat → Int) (w : World) (h0 : 0 < n) (hn : n ≤ 100) (l1 : b1 < w.heap.size) (l2 : b2 < w.heap.size)
    (h1 : ∀ i, i < n → ∃ g o q, w.cell? ⟨b1, o1 + i, none⟩ = some (.slice (some ⟨g, o, none⟩) n q) ∧ g < w.heap.size ∧ ∀ j, j < n → w.cell? ⟨g, o + j, none⟩ = some (.int .i64 (A i j)))
    (h2 : ∀ i, i < n → ∃ g o q, w.cell? ⟨b2, o2 + i, none⟩ = some (.slice (some ⟨g, o, none⟩) n q) ∧ g < w.heap.size ∧ ∀ j, j < n → w.cell? ⟨g, o + j, none⟩ = some (.int .i64 (B i j))) :
    Calls Try.prog 31 #[.slice (some ⟨b1, o1, none⟩) n c1, .slice (some ⟨b2, o2, none⟩) n c2] w fun e w' => ∃ gt gs, e = .returned (.slice (some ⟨gt, 0, none⟩) n n) ∧ TabAt w.heap.size gt n gs n (sqP A B n) w' ∧ Below w.heap.size w w' := by
  have HSQ := hidS (fun W => squareS_any n W hn)
  have H1 := hidS h1
  have H2 := hidS h2
  clear h1 h2
  go_enter Try.func31, Try.ntmps31
  go_wp2_with (go_at_call 29; refine (HSQ.out _).mono ?_; rintro e9 w1 ⟨gt, gs, rfl, hT, hb1⟩; refine Hid.out ?_)
  refine Lib.hid ?_
  have HT := hidS (hT.congr (T' := sqT A B n 0 0 0) (fun x y _ _ => sqT_start A B n x y))
  have HB := hidS hb1
  clear hT hb1
  go_wp2
  go_loopw [17, 6, 7, 8, 9, 10, 11, 24, 34] (fun v17 _ _ _ _ _ _ _ _ wr => ∃ i : Nat, i ≤ n ∧ v17 = .int .i64 (i : Nat) ∧ Hid (TabAt w.heap.size gt n gs n (sqT A B n i 0 0) wr) ∧ Hid (Below w.heap.size w wr)) (fun v17 _ _ _ _ _ _ _ _ _ => n - (intOf v17).toNat)
  case atStart => exact ⟨0, Nat.zero_le _, rfl, HT.out, HB.out⟩
  case round =>
    clear HT HB
    rename World => W1
    obtain ⟨i, hin, rfl, hT1, hbW⟩ := hrel
    by_cases hil : i < n
    · obtain ⟨g, o, q, r1, r2, r3⟩ := H1.out i hil
      have hsW := hbW.out.size
      have e0 := bcell hbW.out l1 r1
      have HR3 := hidS r3
      have hbl : b1 < W1.heap.size := by omega
      clear r1 r3
      have HT1 := hidS hT1.out
      have HB1 := hidS hbW.out
      clear hT1 hbW
      go_wp2
      go_loopw [24, 8, 9, 10, 11, 34] (fun v24 _ _ _ _ _ wr => ∃ k : Nat, k ≤ n ∧ v24 = .int .i64 (k : Nat) ∧ Hid (TabAt w.heap.size gt n gs n (sqT A B n i k 0) wr) ∧ Hid (Below w.heap.size w wr)) (fun v24 _ _ _ _ _ _ => n - (intOf v24).toNat)
      case atStart => exact ⟨0, Nat.zero_le _, rfl, HT1.out, HB1.out⟩
      case round =>
        clear HT1 HB1 e0 hbl hsW
        rename World => W2
        obtain ⟨k, hkn, rfl, hT2, hb2⟩ := hrel
        by_cases hkl : k < n
        · obtain ⟨g2, p2, q2, s1, s2, s3⟩ := H2.out k hkl
          have hs2 := hb2.out.size
          have e1 := bcell hb2.out r2 (HR3.out k hkl)
          have e2 := bcell hb2.out l2 s1
          have HS3 := hidS s3
          have hgl : g < W2.heap.size := by omega
          have hbl : b2 < W2.heap.size := by omega
          obtain ⟨xA, hxA⟩ : ∃ xA, A i k = xA := ⟨_, rfl⟩
          rw [hxA] at e1
          have HXA := hidS hxA
          clear s1 s3 hxA
          have HT2 := hidS hT2.out
          have HB2 := hidS hb2.out
          clear hT2 hb2
          go_wp2
          go_loopw [34, 10, 11] (fun v34 _ _ wr => ∃ j : Nat, j ≤ n ∧ v34 = .int .i64 (j : Nat) ∧ Hid (TabAt w.heap.size gt n gs n (sqT A B n i k j) wr) ∧ Hid (Below w.heap.size w wr)) (fun v34 _ _ _ => n - (intOf v34).toNat)
          case atStart => exact ⟨0, Nat.zero_le _, rfl, HT2.out, HB2.out⟩
          case round =>
            clear HT2 HB2 e1 e2 hgl hbl hs2
            rename World => W3
            obtain ⟨j, hjn, rfl, hT3, hb3⟩ := hrel
            by_cases hjl : j < n
            · have hs3 := hb3.out.size
              have e3 := bcell hb3.out s2 (HS3.out j hjl)
              have hgl : g2 < W3.heap.size := by omega
              have t1 : W3.cell? ⟨gt, i, none⟩ = some (.slice (some ⟨gs i, 0, none⟩) n n) := hT3.out.cellO i hil hil
              have t2 : W3.cell? ⟨gs i, j, none⟩ = some (.int .i64 (sqT A B n i k j i j)) := hT3.out.cellR i j hil hjl
              have t3 : W3.frozen? ⟨gs i, j, none⟩ = false := (hT3.out.rows i hil).frozenAt j
              have t4 : gs i < W3.heap.size := ((hT3.out.rows i hil).lt (gs i) rfl).2
              have t5 : gt < W3.heap.size := (hT3.out.outer.lt gt rfl).2
              have t6 := ((hT3.out.rows i hil).lt (gs i) rfl).1
              rw [sqT_at] at t2
              obtain ⟨xB, hxB⟩ : ∃ xB, B k j = xB := ⟨_, rfl⟩
              rw [hxB] at e3
              obtain ⟨p, hp⟩ : ∃ p, sqA A B i j k = p := ⟨_, rfl⟩
              rw [hp] at t2
              obtain ⟨m1, hm1⟩ : ∃ m1, IntKind.i64.wrap (xA * xB) = m1 := ⟨_, rfl⟩
              obtain ⟨m2, hm2⟩ : ∃ m2, IntKind.i64.wrap (p + m1) = m2 := ⟨_, rfl⟩
              have hval : sqA A B i j (k + 1) = m2 := by
                rw [← hm2, ← hm1, ← hp, ← HXA.out, ← hxB]; rfl
              have hset := hT3.out.set (T' := sqT A B n i k (j + 1)) i j m2 hil (fun a b _ _ => by rw [sqT_j, hval])
              have HTN := hidS hset.1
              have HBN := hidS (hb3.out.grown hset.2 hs3 (fun z hz => by have := Option.some.inj hz; omega))
              clear hset hval hp hxB hT3 hb3
              go_wp2
              go_roundw
              all_goals first
                | (simp only [intOf]; omega)
                | exact ⟨j + 1, by omega, by go_num, HTN.out, HBN.out⟩
            · obtain rfl : j = n := by omega
              have HTB := hidS (hT3.out.congr (T' := sqT A B j i (k + 1) 0) (fun x y _ hy => sqT_k A B j i k x y hy))
              have HBB := hidS hb3.out
              clear hT3 hb3
              go_wp2
              go_roundw
              all_goals first
                | (simp only [intOf]; omega)
                | exact ⟨k + 1, by omega, by go_num, HTB.out, HBB.out⟩
        · obtain rfl : k = n := by omega
          have HTB := hidS (hT2.out.congr (T' := sqT A B k (i + 1) 0 0) (fun x y _ _ => sqT_i A B k i x y))
          have HBB := hidS hb2.out
          clear hT2 hb2
          go_wp2
          go_roundw
          all_goals first
            | (simp only [intOf]; omega)
            | exact ⟨i + 1, by omega, by go_num, HTB.out, HBB.out⟩
    · obtain rfl : i = n := by omega
      have HTB := hidS (hT1.out.congr (T' := sqP A B i) (fun x y hx _ => sqT_end A B i x y hx))
      have HBB := hidS hbW.out
      clear hT1 hbW
      go_wp2
      go_ret
      exact ⟨gt, gs, rfl, HTB.out, HBB.out⟩
theorem product_any (v1 v2 : Value) (n : Nat) (A B : Nat → Nat → Int) (w : World) (hn : n ≤ 100) (h1 : SqR w w.heap.size v1 n A) (h2 : SqR w w.heap.size v2 n B) :
    Calls Try.prog 31 #[v1, v2] w fun e w' => ∃ gt gs, e = .returned (.slice (some ⟨gt, 0, none⟩) n n) ∧ TabAt w.heap.size gt n gs n (sqP A B n) w' ∧ Below w.heap.size w w' := by
  obtain ⟨a1, c1, rfl, f1⟩ := h1
  obtain ⟨a2, c2, rfl, f2⟩ := h2
  rcases Nat.eq_zero_or_pos n with rfl | h0
  · exact product_none a1 a2 c1 c2 _ w
  · obtain ⟨b1, o1, rfl, l1, r1⟩ := f1 h0
    obtain ⟨b2, o2, rfl, l2, r2⟩ := f2 h0
    exact product_some b1 o1 c1 b2 o2 c2 n A B w h0 hn l1 l2 r1 r2
end Go.Proofs.Ytlcogbcpmneknaa
/- The sweeps of ref.ShadesOf: plain mathematics. -/
namespace Go.Proofs.Ytlcogbcpmneknaa

/-- What one look at a corner and the next makes of the shades. -/
def swA (L : List Int) (x y : Nat) : List Int := if 0 ≤ L.getD x 0 then L.set y (1 - L.getD x 0) else L
def swB (L : List Int) (x y : Nat) : List Int := if 0 ≤ (swA L x y).getD y 0 then (swA L x y).set x (1 - (swA L x y).getD y 0) else swA L x y
theorem Sd.neg {s : Nat → Nat} {F : Nat} {L : List Int} (h : Sd s F L) {f : Nat} (hf : f < F) : (0 ≤ L.getD f 0 ↔ L.getD f 0 ≠ -1) ∧ (L.getD f 0 ≠ -1 → L.getD f 0 = ((s f : Nat) : Int)) := by
  rcases h.2 f hf with e | e
  · rw [e]; exact ⟨by omega, fun h => absurd rfl h⟩
  · rw [e]; exact ⟨by omega, fun _ => rfl⟩
theorem sw_step {s : Nat → Nat} {F : Nat} {L : List Int} (h : Sd s F L) {x y : Nat} (hx : x < F) (hy : y < F) (hxy : s y = 1 - s x) (h2 : s x < 2) : Sd s F (swA L x y) ∧ Sd s F (swB L x y) ∧ (∀ g, g < F → L.getD g 0 ≠ -1 → (swB L x y).getD g 0 ≠ -1) ∧ (L.getD x 0 ≠ -1 ∨ L.getD y 0 ≠ -1 → (swB L x y).getD x 0 ≠ -1 ∧ (swB L x y).getD y 0 ≠ -1) := by
  have nx := h.neg hx
  have hA : (L.getD x 0 ≠ -1 → swA L x y = L.set y ((s y : Nat) : Int)) ∧ (L.getD x 0 = -1 → swA L x y = L) := by
    constructor
    · intro e
      unfold swA
      rw [if_pos (nx.1.2 e), nx.2 e]
      congr 1
      omega
    · intro e
      unfold swA
      rw [if_neg (fun q => (nx.1.1 q) e)]
  have sA : Sd s F (swA L x y) := by
    by_cases e : L.getD x 0 = -1
    · rw [hA.2 e]; exact h
    · rw [hA.1 e]; exact h.set y
  have ny := sA.neg hy
  have hB : ((swA L x y).getD y 0 ≠ -1 → swB L x y = (swA L x y).set x ((s x : Nat) : Int)) ∧ ((swA L x y).getD y 0 = -1 → swB L x y = swA L x y) := by
    constructor
    · intro e
      unfold swB
      rw [if_pos (ny.1.2 e), ny.2 e]
      congr 1
      omega
    · intro e
      unfold swB
      rw [if_neg (fun q => (ny.1.1 q) e)]
  have sB : Sd s F (swB L x y) := by
    by_cases e : (swA L x y).getD y 0 = -1
    · rw [hB.2 e]; exact sA
    · rw [hB.1 e]; exact sA.set x
  have kA : ∀ g, g < F → L.getD g 0 ≠ -1 → (swA L x y).getD g 0 ≠ -1 := fun g hg e => by
    by_cases e2 : L.getD x 0 = -1
    · rw [hA.2 e2]; exact e
    · rw [hA.1 e2, getS_put]
      split
      · omega
      · exact e
  have kB : ∀ g, g < F → (swA L x y).getD g 0 ≠ -1 → (swB L x y).getD g 0 ≠ -1 := fun g hg e => by
    by_cases e2 : (swA L x y).getD y 0 = -1
    · rw [hB.2 e2]; exact e
    · rw [hB.1 e2, getS_put]
      split
      · omega
      · exact e
  refine ⟨sA, sB, fun g hg e => kB g hg (kA g hg e), fun e => ?_⟩
  have eyA : (swA L x y).getD y 0 ≠ -1 := by
    rcases e with e | e
    · rw [hA.1 e, getS_put, if_pos ⟨rfl, by rw [h.1]; exact hy⟩]
      omega
    · exact kA y hy e
  refine ⟨?_, kB y hy eyA⟩
  rw [hB.1 eyA, getS_put, if_pos ⟨rfl, by rw [sA.1]; exact hx⟩]
  omega
/-- A sweep under way: behind the corners ahead of c, k. -/
structure SwAt (C : List Cr) (s : Nat → Nat) (c k : Nat) (L M : List Int) : Prop where
  sd : Sd s (facesM C).length M
  keep : ∀ g, g < (facesM C).length → L.getD g 0 ≠ -1 → M.getD g 0 ≠ -1
  done : ∀ c' k', c' < C.length → k' < 4 → (c' < c ∨ (c' = c ∧ k' < k)) → (L.getD (cor C c' k') 0 ≠ -1 ∨ L.getD (cor C c' ((k' + 1) % 4)) 0 ≠ -1) → M.getD (cor C c' k') 0 ≠ -1 ∧ M.getD (cor C c' ((k' + 1) % 4)) 0 ≠ -1
theorem SwAt.start {C : List Cr} {s : Nat → Nat} {L : List Int} (h : Sd s (facesM C).length L) : SwAt C s 0 0 L L :=
  ⟨h, fun _ _ h => h, fun c' k' _ _ h => by omega⟩
theorem SwAt.next {C : List Cr} {s : Nat → Nat} {c : Nat} {L M : List Int} (h : SwAt C s c 4 L M) : SwAt C s (c + 1) 0 L M :=
  ⟨h.sd, h.keep, fun c' k' h1 h2 h3 => h.done c' k' h1 h2 (by omega)⟩
theorem cor_next {C : List Cr} {loops : Int} {s : Nat → Nat} (hm : mayD C loops = true) (hs : Shd C s) (c k : Nat) (hc : c < C.length) (hk : k < 4) : s (cor C c ((k + 1) % 4)) = 1 - s (cor C c k) := by
  have h := cor_turn hm hs c ((k + 1) % 4) hc (by omega)
  have e : ((k + 1) % 4 + 3) % 4 = k := by omega
  rw [e] at h
  have a := hs.two (cor C c ((k + 1) % 4))
  omega
theorem SwAt.step {C : List Cr} {loops : Int} {s : Nat → Nat} (hm : mayD C loops = true) (hs : Shd C s) {c k : Nat} {L M : List Int} (h : SwAt C s c k L M) (hc : c < C.length) (hk : k < 4) : SwAt C s c (k + 1) L (swB M (cor C c k) (cor C c ((k + 1) % 4))) := by
  have hx := cor_lt hm c k hc hk
  have hy := cor_lt hm c ((k + 1) % 4) hc (by omega)
  obtain ⟨-, s2, s3, s4⟩ := sw_step h.sd hx hy (cor_next hm hs c k hc hk) (hs.two _)
  refine ⟨s2, fun g hg e => s3 g hg (h.keep g hg e), fun c' k' h1 h2 h3 h4 => ?_⟩
  have hx' := cor_lt hm c' k' h1 h2
  have hy' := cor_lt hm c' ((k' + 1) % 4) h1 (by omega)
  by_cases e : c' = c ∧ k' = k
  · obtain ⟨rfl, rfl⟩ := e
    exact s4 (h4.imp (h.keep _ hx') (h.keep _ hy'))
  · have := h.done c' k' h1 h2 (by omega) h4
    exact ⟨s3 _ hx' this.1, s3 _ hy' this.2⟩
/-- A whole sweep shades a face more, if one is left. -/
theorem SwAt.more {C : List Cr} {loops : Int} {s : Nat → Nat} (hm : mayD C loops = true) (ho : oneB C loops = true) {L M : List Int} (h : SwAt C s C.length 0 L M) (hL : L.length = (facesM C).length) (h0 : L.getD 0 0 ≠ -1) (k : Nat) (hk : uns L ≤ k + 1) : uns M ≤ k := by
  have hle : uns M ≤ uns L := uns_le (by rw [hL, h.sd.1]) (fun g hg => h.keep g (by omega))
  by_cases hlt : uns M < uns L
  · omega
  · -- nothing was shaded: all was
    have heq : ∀ g, g < (facesM C).length → M.getD g 0 ≠ -1 → L.getD g 0 ≠ -1 := by
      have : ∀ (A B : List Int), A.length = B.length → (∀ g, g < A.length → A.getD g 0 ≠ -1 → B.getD g 0 ≠ -1) → uns A ≤ uns B → ∀ g, g < A.length → B.getD g 0 ≠ -1 → A.getD g 0 ≠ -1 := by
        intro A
        induction A with
        | nil => intro B _ _ _ g hg; exact absurd hg (Nat.not_lt_zero _)
        | cons a A ih =>
          intro B hB hk hu g hg hb
          cases B with
          | nil => cases hB
          | cons b B =>
            have hk0 := hk 0 (by simp)
            have hkr : ∀ g, g < A.length → A.getD g 0 ≠ -1 → B.getD g 0 ≠ -1 := fun g hg => by have := hk (g + 1) (by simpa using hg); simpa using this
            have hl : A.length = B.length := by simpa using hB
            have hul := uns_le hl hkr
            unfold uns at hu hul
            rw [List.countP_cons, List.countP_cons] at hu
            simp at hk0
            cases g with
            | zero =>
              simp at hb ⊢
              intro ea
              simp [ea, hb] at hu
              omega
            | succ g =>
              have huu : uns A ≤ uns B := by
                unfold uns
                by_cases ea : a = -1
                · by_cases eb : b = -1
                  · simp [ea, eb] at hu; exact hu
                  · simp [ea, eb] at hu; omega
                · simp [ea, hk0 ea] at hu; exact hu
              have hr := ih B hl hkr huu g (by simpa using hg) (by simpa using hb)
              simpa using hr
      intro g hg
      exact this L M (by rw [hL, h.sd.1]) (fun g hg => h.keep g (by omega)) (by omega) g (by omega)
    have hall : ∀ g, g < (facesM C).length → L.getD g 0 ≠ -1 := by
      refine shd_all hm ho (fun g => L.getD g 0 ≠ -1) h0 (fun j h1 h2 hj => ?_)
      obtain ⟨c, t, hc, ht, e⟩ := fo_cor hm j h1 h2
      have hA := dA_le h1 h2
      have u := en_may hm (dA j) (dB j) hA.1 hA.2
      have ec : fo C j = cor C (enC C (dA j) (dB j)) (enS C (dA j) (dB j)) := by
        unfold cor aAt
        rw [u.2.2.2.1, u.2.2.2.2]
        show fo C j = fo C (mkD ((dA j : Int)).toNat (dB j))
        rw [Int.toNat_natCast, mk_d h1]
      have ea : aAt C (enC C (dA j) (dB j)) (enS C (dA j) (dB j)) = dA j := by
        unfold aAt
        rw [u.2.2.2.1]
        exact Int.toNat_natCast _
      have eb := cor_back hm _ _ u.2.1 u.2.2.1
      rw [ea, u.2.2.2.2] at eb
      have et : fo C (tn j) = cor C (enC C (dA j) (dB j)) ((enS C (dA j) (dB j) + 3) % 4) := eb
      have hd := h.done (enC C (dA j) (dB j)) ((enS C (dA j) (dB j) + 3) % 4) u.2.1 (by omega) (Or.inl u.2.1)
      have e4 : ((enS C (dA j) (dB j) + 3) % 4 + 1) % 4 = enS C (dA j) (dB j) := by have := u.2.2.1; omega
      rw [e4, ← ec, ← et] at hd
      have ht := tn_le h1 h2
      exact heq _ (fo_lt _ ht.1 ht.2) (hd (Or.inr hj)).1
    have hz : uns L = 0 := by
      unfold uns
      rw [List.countP_eq_zero]
      intro z hz
      obtain ⟨g, hg, rfl⟩ := List.mem_iff_getElem.1 hz
      have := hall g (by omega)
      rw [List.getD_eq_getElem?_getD, List.getElem?_eq_getElem hg] at this
      simpa using this
    omega
theorem uns_zero {L : List Int} (h : uns L = 0) (g : Nat) (hg : g < L.length) : L.getD g 0 ≠ -1 := by
  unfold uns at h
  rw [List.countP_eq_zero] at h
  have := h _ (List.getElem_mem hg)
  rw [List.getD_eq_getElem?_getD, List.getElem?_eq_getElem hg]
  simpa using this
theorem sd_all {s : Nat → Nat} {F : Nat} {L : List Int} (h : Sd s F L) (hz : uns L = 0) : L = shL s F := by
  apply List.ext_getElem?
  intro i
  by_cases hi : i < F
  · have h1 := uns_zero hz i (by rw [h.1]; exact hi)
    have e : L[i]? = some (L.getD i 0) := by rw [List.getD_eq_getElem?_getD, List.getElem?_eq_getElem (by rw [h.1]; exact hi)]; rfl
    rw [e]
    rcases h.2 i hi with h2 | h2
    · exact absurd h2 h1
    · rw [h2]
      simp [shL, hi]
  · rw [List.getElem?_eq_none (by rw [h.1]; omega), List.getElem?_eq_none (by simp [shL]; omega)]
end Go.Proofs.Ytlcogbcpmneknaa

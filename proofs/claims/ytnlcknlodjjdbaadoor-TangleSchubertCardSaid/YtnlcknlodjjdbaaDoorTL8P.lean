/- Several texts of the proof, one behind the other. -/
import Derived.Test.YtnlcknlodjjdbaaDoorTL2P
import Derived.Test.YtnlcknlodjjdbaaDoorF1P
import Derived.Test.YtnlcknlodjjdbaaDoorBK3P
/- Links of lists: plain mathematics: walks from spot to spot, and what they number. -/
namespace Go.Proofs.YtnlcknlodjjdbaaDoor

/-- Straight on across a crossing. -/
def acr (x : Nat) : Nat := 4 * (x / 4) + (x % 4 + 2) % 4
/-- A spot of a crossing. -/
def Sp (n x : Nat) : Prop := 4 ≤ x ∧ x < 4 * n + 4
theorem acr_sp {n x : Nat} (h : Sp n x) : Sp n (acr x) := by unfold Sp acr at *; omega
theorem acr_acr (x : Nat) : acr (acr x) = x := by unfold acr; omega
theorem acr_ne (x : Nat) : acr x ≠ x := by unfold acr; omega
theorem acr_inj {x y : Nat} (h : acr x = acr y) : x = y := by rw [← acr_acr x, h, acr_acr]
/-- Ties without a loose end. -/
structure Ties (n : Nat) (U : Nat → Nat) : Prop where
  sp : ∀ x, Sp n x → Sp n (U x)
  inv : ∀ x, Sp n x → U (U x) = x
  ne : ∀ x, Sp n x → U x ≠ x
def nxt (U : Nat → Nat) (x : Nat) : Nat := U (acr x)
theorem Ties.inj {n : Nat} {U : Nat → Nat} (h : Ties n U) {x y : Nat} (hx : Sp n x) (hy : Sp n y) (e : U x = U y) : x = y := by rw [← h.inv x hx, e, h.inv y hy]
theorem Ties.nxt_sp {n : Nat} {U : Nat → Nat} (h : Ties n U) {x : Nat} (hx : Sp n x) : Sp n (nxt U x) := h.sp _ (acr_sp hx)
theorem Ties.nxt_inj {n : Nat} {U : Nat → Nat} (h : Ties n U) {x y : Nat} (hx : Sp n x) (hy : Sp n y) (e : nxt U x = nxt U y) : x = y := acr_inj (h.inj (acr_sp hx) (acr_sp hy) e)
/-- A walk under way: L what was walked, s where it began, x where it is. -/
structure Way (n : Nat) (U : Nat → Nat) (L : List Nat) (s x : Nat) : Prop where
  sp : ∀ y ∈ L, Sp n y
  nd : L.Nodup
  xs : Sp n x
  a : ∀ y ∈ L, acr y ∉ L
  b : ∀ y ∈ L, nxt U y ∈ L ∨ nxt U y = x
  c : (x = s ∧ s ∉ L ∧ acr s ∉ L) ∨ ∃ y ∈ L, x = nxt U y
  d : ∀ y ∈ L, y = s ∨ ∃ z ∈ L, y = nxt U z
  e : x ∈ L → x = s
/-- Between walks. -/
structure Rest (n : Nat) (U : Nat → Nat) (L : List Nat) : Prop where
  sp : ∀ y ∈ L, Sp n y
  nd : L.Nodup
  a : ∀ y ∈ L, acr y ∉ L
  b : ∀ y ∈ L, nxt U y ∈ L
  d : ∀ y ∈ L, ∃ z ∈ L, y = nxt U z
theorem Rest.nil (n : Nat) (U : Nat → Nat) : Rest n U [] := ⟨by simp, List.nodup_nil, by simp, by simp, by simp⟩
theorem Rest.way {n : Nat} {U : Nat → Nat} {L : List Nat} (h : Rest n U L) {s : Nat} (hs : Sp n s) (h1 : s ∉ L) (h2 : acr s ∉ L) : Way n U L s s :=
  ⟨h.sp, h.nd, hs, h.a, fun y hy => Or.inl (h.b y hy), Or.inl ⟨rfl, h1, h2⟩, fun y hy => Or.inr (h.d y hy), fun _ => rfl⟩
/-- Where the walk was not before, it was not on the other end of the strand or of the arc. -/
theorem Way.new {n : Nat} {U : Nat → Nat} {L : List Nat} {s x : Nat} (hU : Ties n U) (h : Way n U L s x) (hx : x ∉ L) : acr x ∉ L ∧ U x ∉ L := by
  rcases h.c with ⟨rfl, -, h2⟩ | ⟨y, hy, rfl⟩
  · refine ⟨h2, fun h3 => ?_⟩
    rcases h.d _ h3 with e | ⟨z, hz, e⟩
    · exact hU.ne _ h.xs e
    · have h4 := hU.inj h.xs (acr_sp (h.sp z hz)) e
      rw [h4, acr_acr] at h2
      exact h2 hz
  · have hys := h.sp y hy
    have e1 : U (nxt U y) = acr y := hU.inv _ (acr_sp hys)
    refine ⟨fun h3 => ?_, by rw [e1]; exact h.a y hy⟩
    have e2 : nxt U (acr (nxt U y)) = acr y := by unfold nxt; rw [acr_acr]; exact hU.inv _ (acr_sp hys)
    rcases h.b _ h3 with h4 | h4
    · rw [e2] at h4; exact h.a y hy h4
    · rw [e2] at h4
      exact hU.ne _ h.xs (e1.trans h4)
theorem Way.step {n : Nat} {U : Nat → Nat} {L : List Nat} {s x : Nat} (hU : Ties n U) (h : Way n U L s x) (hx : x ∉ L) : Way n U (L ++ [x]) s (nxt U x) := by
  obtain ⟨n1, n2⟩ := h.new hU hx
  refine ⟨fun y hy => ?_, ?_, hU.nxt_sp h.xs, fun y hy hc => ?_, fun y hy => ?_, Or.inr ⟨x, by simp, rfl⟩, fun y hy => ?_, fun hm => ?_⟩
  · rcases List.mem_append.1 hy with h1 | h1
    · exact h.sp y h1
    · rw [List.mem_singleton.1 h1]; exact h.xs
  · rw [List.nodup_append]
    refine ⟨h.nd, by simp, fun a ha b hb e => ?_⟩
    rw [List.mem_singleton.1 hb] at e
    exact hx (e ▸ ha)
  · rcases List.mem_append.1 hy with h1 | h1 <;> rcases List.mem_append.1 hc with h2 | h2
    · exact h.a y h1 h2
    · have := List.mem_singleton.1 h2
      rw [← this, acr_acr] at n1
      exact n1 h1
    · rw [List.mem_singleton.1 h1] at h2
      exact n1 h2
    · rw [List.mem_singleton.1 h1] at h2
      exact acr_ne x (List.mem_singleton.1 h2)
  · rcases List.mem_append.1 hy with h1 | h1
    · rcases h.b y h1 with h2 | h2
      · exact Or.inl (List.mem_append_left _ h2)
      · exact Or.inl (by rw [h2]; simp)
    · rw [List.mem_singleton.1 h1]; exact Or.inr rfl
  · rcases List.mem_append.1 hy with h1 | h1
    · rcases h.d y h1 with h2 | ⟨z, hz, e⟩
      · exact Or.inl h2
      · exact Or.inr ⟨z, List.mem_append_left _ hz, e⟩
    · rw [List.mem_singleton.1 h1]
      rcases h.c with ⟨e, -, -⟩ | ⟨z, hz, e⟩
      · exact Or.inl e
      · exact Or.inr ⟨z, List.mem_append_left _ hz, e⟩
  · rcases List.mem_append.1 hm with h1 | h1
    · rcases h.d _ h1 with h2 | ⟨z, hz, e⟩
      · exact h2
      · exact absurd (hU.nxt_inj h.xs (h.sp z hz) e ▸ hz) hx
    · have e0 := List.mem_singleton.1 h1
      rcases h.c with ⟨e, -, -⟩ | ⟨z, hz, e⟩
      · rw [e0, e]
      · rw [e] at e0
        exact absurd (hU.nxt_inj (h.sp z hz) (hU.nxt_sp (h.sp z hz)) e0.symm ▸ hz) (by rw [← e]; exact hx)
theorem Way.done {n : Nat} {U : Nat → Nat} {L : List Nat} {s x : Nat} (h : Way n U L s x) (hx : x ∈ L) : Rest n U L ∧ s ∈ L ∧ x = s := by
  have e := h.e hx
  subst e
  refine ⟨⟨h.sp, h.nd, h.a, fun y hy => ?_, fun y hy => ?_⟩, hx, rfl⟩
  · rcases h.b y hy with h1 | h1
    · exact h1
    · rw [h1]; exact hx
  · rcases h.d y hy with rfl | h1
    · rcases h.c with ⟨-, h2, -⟩ | h2
      · exact absurd hx h2
      · obtain ⟨z, hz, e⟩ := h2
        exact ⟨z, hz, e⟩
    · exact h1
/-- Lists of different spots are short. -/
theorem nodup_short : ∀ (m : Nat) (L : List Nat), L.Nodup → (∀ y ∈ L, y < m) → L.length ≤ m
  | 0, L, _, h => by
    cases L with
    | nil => simp
    | cons a t => exact absurd (h a (by simp)) (by omega)
  | m + 1, L, hn, h => by
    by_cases hm : m ∈ L
    · have h1 := nodup_short m (L.erase m) (hn.erase m) fun y hy => by
        have h2 := h y (List.mem_of_mem_erase hy)
        have h3 : y ≠ m := fun e => by rw [e] at hy; exact (List.Nodup.not_mem_erase hn) hy
        omega
      rw [List.length_erase_of_mem hm] at h1
      omega
    · have h1 := nodup_short m L hn fun y hy => by
        have h2 := h y hy
        have h3 : y ≠ m := fun e => hm (e ▸ hy)
        omega
      omega
theorem Way.short {n : Nat} {U : Nat → Nat} {L : List Nat} {s x : Nat} (h : Way n U L s x) : L.length ≤ 4 * n + 4 := nodup_short _ L h.nd fun y hy => (h.sp y hy).2
/-- Walk on until it is back. -/
def goL (U : Nat → Nat) : Nat → List Nat → Nat → List Nat
  | 0, L, _ => L
  | f + 1, L, x => if x ∈ L then L else goL U f (L ++ [x]) (nxt U x)
/-- A walk that begins at s, if that strand was not walked. -/
def goS (n : Nat) (U : Nat → Nat) (L : List Nat) (s : Nat) : List Nat := if s ∈ L ∨ acr s ∈ L then L else goL U (4 * n + 5) L s
/-- The walks from the first k crossings. -/
def goC (n : Nat) (U : Nat → Nat) : Nat → List Nat
  | 0 => []
  | k + 1 => goS n U (goS n U (goC n U k) (4 * k + 4)) (4 * k + 5)
theorem goL_rest {n : Nat} {U : Nat → Nat} (hU : Ties n U) : ∀ (f : Nat) (L : List Nat) (s x : Nat), Way n U L s x → 4 * n + 4 < L.length + f → Rest n U (goL U f L x) ∧ s ∈ goL U f L x ∧ ∀ y ∈ L, y ∈ goL U f L x
  | 0, L, s, x, h, hf => by have := h.short; omega
  | f + 1, L, s, x, h, hf => by
    unfold goL
    by_cases hx : x ∈ L
    · rw [if_pos hx]
      obtain ⟨h1, h2, -⟩ := h.done hx
      exact ⟨h1, h2, fun y hy => hy⟩
    · rw [if_neg hx]
      obtain ⟨h1, h2, h3⟩ := goL_rest hU f _ s _ (h.step hU hx) (by simp; omega)
      exact ⟨h1, h2, fun y hy => h3 y (List.mem_append_left _ hy)⟩
theorem goS_rest {n : Nat} {U : Nat → Nat} (hU : Ties n U) {L : List Nat} (h : Rest n U L) {s : Nat} (hs : Sp n s) : Rest n U (goS n U L s) ∧ (s ∈ goS n U L s ∨ acr s ∈ goS n U L s) ∧ ∀ y ∈ L, y ∈ goS n U L s := by
  unfold goS
  by_cases h0 : s ∈ L ∨ acr s ∈ L
  · rw [if_pos h0]
    exact ⟨h, h0, fun y hy => hy⟩
  · rw [if_neg h0]
    obtain ⟨h1, h2, h3⟩ := goL_rest hU (4 * n + 5) L s s (h.way hs (fun e => h0 (Or.inl e)) (fun e => h0 (Or.inr e))) (by omega)
    exact ⟨h1, Or.inl h2, h3⟩
theorem goC_rest {n : Nat} {U : Nat → Nat} (hU : Ties n U) (k : Nat) (hk : k ≤ n) : Rest n U (goC n U k) ∧ ∀ c, c < k → (4 * c + 4 ∈ goC n U k ∨ 4 * c + 6 ∈ goC n U k) ∧ (4 * c + 5 ∈ goC n U k ∨ 4 * c + 7 ∈ goC n U k) := by
  induction k with
  | zero => exact ⟨Rest.nil _ _, fun c hc => by omega⟩
  | succ k ih =>
    obtain ⟨h1, h2⟩ := ih (by omega)
    obtain ⟨h3, h4, h5⟩ := goS_rest hU h1 (s := 4 * k + 4) (by unfold Sp; omega)
    obtain ⟨h6, h7, h8⟩ := goS_rest hU h3 (s := 4 * k + 5) (by unfold Sp; omega)
    have e1 : acr (4 * k + 4) = 4 * k + 6 := by unfold acr; omega
    have e2 : acr (4 * k + 5) = 4 * k + 7 := by unfold acr; omega
    rw [e1] at h4
    rw [e2] at h7
    refine ⟨h6, fun c hc => ?_⟩
    by_cases e : c = k
    · subst e
      exact ⟨h4.imp (h8 _) (h8 _), h7⟩
    · obtain ⟨h9, h10⟩ := h2 c (by omega)
      exact ⟨h9.imp (fun h => h8 _ (h5 _ h)) (fun h => h8 _ (h5 _ h)), h10.imp (fun h => h8 _ (h5 _ h)) (fun h => h8 _ (h5 _ h))⟩
/-- The number of the arc that ends at a spot, behind these walks. -/
def FL (U : Nat → Nat) (L : List Nat) (y : Nat) : Int := if y ∈ L then (L.idxOf y : Int) + 1 else if U y ∈ L then (L.idxOf (U y) : Int) + 1 else 0
theorem FL_zero {U : Nat → Nat} {L : List Nat} {y : Nat} : FL U L y = 0 ↔ y ∉ L ∧ U y ∉ L := by
  unfold FL
  by_cases h1 : y ∈ L
  · rw [if_pos h1]
    constructor
    · intro h; omega
    · intro h; exact absurd h1 h.1
  · rw [if_neg h1]
    by_cases h2 : U y ∈ L
    · rw [if_pos h2]
      constructor
      · intro h; omega
      · intro h; exact absurd h2 h.2
    · rw [if_neg h2]
      exact ⟨fun _ => ⟨h1, h2⟩, fun _ => rfl⟩
theorem FL_step {n : Nat} {U : Nat → Nat} (hU : Ties n U) {L : List Nat} {x : Nat} (hx : x ∉ L) (hx2 : U x ∉ L) (hxs : Sp n x) {y : Nat} (hy : Sp n y) : FL U (L ++ [x]) y = if y = x ∨ y = U x then (L.length : Int) + 1 else FL U L y := by
  have ei : ∀ z, (L ++ [x]).idxOf z = if z ∈ L then L.idxOf z else L.length + (if x = z then 0 else 1) := fun z => by
    rw [List.idxOf_append]
    split
    · rfl
    · by_cases e : x = z
      · subst e; simp
      · rw [if_neg e]; simp [List.idxOf_cons, beq_eq_false_iff_ne.2 e]; omega
  unfold FL
  by_cases e1 : y = x
  · subst e1
    rw [if_pos (by simp), if_pos (Or.inl rfl), ei, if_neg hx, if_pos rfl]
    simp
  · by_cases e2 : y = U x
    · subst e2
      have e3 : U (U x) = x := hU.inv x hxs
      rw [if_neg (by simp [hx2, hU.ne x hxs]), e3, if_pos (by simp), if_pos (Or.inr rfl), ei, if_neg hx, if_pos rfl]
      simp
    · have e5 : ¬ (y = x ∨ y = U x) := fun h => h.elim e1 e2
      rw [if_neg e5]
      have e4 : U y ≠ x := fun h => e2 (by rw [← h, hU.inv y hy])
      by_cases m1 : y ∈ L
      · rw [if_pos (List.mem_append_left _ m1), if_pos m1, ei, if_pos m1]
      · rw [if_neg (by simp [m1, e1]), if_neg m1]
        by_cases m2 : U y ∈ L
        · rw [if_pos (List.mem_append_left _ m2), if_pos m2, ei, if_pos m2]
        · rw [if_neg (by simp [m2, e4]), if_neg m2]
end Go.Proofs.YtnlcknlodjjdbaaDoor
/- The walk of tangle.cornersOf. -/
namespace Go.Proofs.YtnlcknlodjjdbaaDoor
open Go.RowKit Go.Maps

/-- On which side a corner lies (0: north-west, 1: north-east, 2: south-west, 3: south-east). -/
def sdOf (up : Bool) (c : Nat) : Nat := if up = true then (if c = 0 then 0 else if c = 1 then 3 else if c = 2 then 1 else 2) else (if c = 0 then 3 else if c = 1 then 2 else if c = 2 then 0 else 1)
/-- The corner of crossing k. -/
def cor (k : Nat) (up : Bool) (c : Nat) : Nat := 4 * k + 4 + sdOf up c
theorem sdOf_lt (up : Bool) (c : Nat) : sdOf up c < 4 := by
  unfold sdOf
  cases up <;> simp <;> (repeat' split) <;> omega
theorem spV_cor (k : Nat) (up : Bool) (c : Nat) : spV (cor k up c) = .agg #[.int .i64 (k : Nat), .int .i64 (sdOf up c : Nat)] := by
  have h := sdOf_lt up c
  unfold spV cor
  rw [show (4 * k + 4 + sdOf up c) / 4 = k + 1 by omega, show (4 * k + 4 + sdOf up c) % 4 = sdOf up c by omega]
  simp
/-- The first i corners' cells. -/
def cor8 (k : Int) (s0 s1 s2 s3 : Int) (i : Nat) : Array Value := #[.int .i64 (if 0 < i then k else 0), .int .i64 (if 0 < i then s0 else 0), .int .i64 (if 1 < i then k else 0), .int .i64 (if 1 < i then s1 else 0), .int .i64 (if 2 < i then k else 0), .int .i64 (if 2 < i then s2 else 0), .int .i64 (if 3 < i then k else 0), .int .i64 (if 3 < i then s3 else 0)]
/-- What cornersOf answers. -/
def corV (k : Int) (s0 s1 s2 s3 : Int) : Value := .agg #[.int .i64 k, .int .i64 s0, .int .i64 k, .int .i64 s1, .int .i64 k, .int .i64 s2, .int .i64 k, .int .i64 s3]
theorem froz {w : World} {g i : Nat} {cs : Array Value} {t : TypeId} (h : w.heap[g]? = some (.cells cs t (0, 0))) : w.frozen? ⟨g, i, none⟩ = false := by
  unfold World.frozen?
  rw [h]
  simp

set_option maxHeartbeats 4000000 in
set_option maxRecDepth 100000 in
theorem corners_up (k : Nat) (w : World) :
    Calls Tryd.prog 27 #[.int .i64 (k : Nat), .bool true] w fun r w' => r = .returned (corV k 0 3 1 2) ∧ Below w.heap.size w w' := by
  obtain ⟨Y, hY⟩ : ∃ Y, Y = ((w.alloc (.cells #[.int .i64 0, .int .i64 0, .int .i64 0, .int .i64 0, .int .i64 0, .int .i64 0, .int .i64 0, .int .i64 0] 68)).alloc (.cells #[.int .i64 0, .int .i64 3, .int .i64 1, .int .i64 2] 75)).alloc (.cells #[.int .i64 0, .int .i64 0, .int .i64 0, .int .i64 0, .int .i64 0, .int .i64 0, .int .i64 0, .int .i64 0] 68) := ⟨_, rfl⟩
  have HY : Hid (Y = ((w.alloc (.cells #[.int .i64 0, .int .i64 0, .int .i64 0, .int .i64 0, .int .i64 0, .int .i64 0, .int .i64 0, .int .i64 0] 68)).alloc (.cells #[.int .i64 0, .int .i64 3, .int .i64 1, .int .i64 2] 75)).alloc (.cells #[.int .i64 0, .int .i64 0, .int .i64 0, .int .i64 0, .int .i64 0, .int .i64 0, .int .i64 0, .int .i64 0] 68)) := hY
  have HBY : Hid (Below w.heap.size w Y) := (by rw [hY]; exact (((Below.refl _ _).alloc (Nat.le_refl _) _).alloc (by simp) _).alloc (by simp; omega) _ : Below w.heap.size w Y)
  have hsY : Y.heap.size = w.heap.size + 3 := by rw [hY]; simp
  have HT0 : Hid (Y.heap[w.heap.size]? = some (.cells #[.int .i64 0, .int .i64 0, .int .i64 0, .int .i64 0, .int .i64 0, .int .i64 0, .int .i64 0, .int .i64 0] 68 (0, 0))) := (by
    rw [hY, box_low _ _ (by simp; omega), box_low _ _ (by simp)]; exact box_at _ _ : Y.heap[w.heap.size]? = some (.cells #[.int .i64 0, .int .i64 0, .int .i64 0, .int .i64 0, .int .i64 0, .int .i64 0, .int .i64 0, .int .i64 0] 68 (0, 0)))
  have HT2 : Hid (Y.heap[w.heap.size + 1 + 1]? = some (.cells (cor8 k 0 3 1 2 0) 68 (0, 0))) := (by
    have := box_at ((w.alloc (.cells #[.int .i64 0, .int .i64 0, .int .i64 0, .int .i64 0, .int .i64 0, .int .i64 0, .int .i64 0, .int .i64 0] 68)).alloc (.cells #[.int .i64 0, .int .i64 3, .int .i64 1, .int .i64 2] 75)) (.cells #[.int .i64 0, .int .i64 0, .int .i64 0, .int .i64 0, .int .i64 0, .int .i64 0, .int .i64 0, .int .i64 0] 68)
    rw [hY]
    simpa [cor8] using this : Y.heap[w.heap.size + 1 + 1]? = some (.cells (cor8 k 0 3 1 2 0) 68 (0, 0)))
  have hix0 : ∀ W : World, (Instr.index 75 (.agg #[.int .i64 0, .int .i64 3, .int .i64 1, .int .i64 2]) (.int .i64 0)).run Tryd.prog W = .ok (.int .i64 0) W := fun W => by kernel_rfl
  have hix1 : ∀ W : World, (Instr.index 75 (.agg #[.int .i64 0, .int .i64 3, .int .i64 1, .int .i64 2]) (.int .i64 1)).run Tryd.prog W = .ok (.int .i64 3) W := fun W => by kernel_rfl
  have hix2 : ∀ W : World, (Instr.index 75 (.agg #[.int .i64 0, .int .i64 3, .int .i64 1, .int .i64 2]) (.int .i64 2)).run Tryd.prog W = .ok (.int .i64 1) W := fun W => by kernel_rfl
  have hix3 : ∀ W : World, (Instr.index 75 (.agg #[.int .i64 0, .int .i64 3, .int .i64 1, .int .i64 2]) (.int .i64 3)).run Tryd.prog W = .ok (.int .i64 2) W := fun W => by kernel_rfl
  clear hY
  go_enter Tryd.func27, Tryd.ntmps27
  go_wp2
  rw [← HY.out]
  go_loopw [13] (fun v13 wr => ∃ i : Nat, i ≤ 4 ∧ v13 = .int .i64 (i : Nat) ∧ Hid (wr.heap[w.heap.size + 1 + 1]? = some (.cells (cor8 k 0 3 1 2 i) 68 (0, 0)) ∧ Y.grownBy wr (some (w.heap.size + 1 + 1)))) (fun v13 _ => 4 - (intOf v13).toNat)
  case atStart => exact ⟨0, by omega, rfl, HT2.out, World.grownBy.refl _ _⟩
  case round =>
    rename World => W1
    obtain ⟨i, hi4, rfl, hp⟩ := hrel
    have hb := hp.out.1
    have hsz := (Array.getElem?_eq_some_iff.1 hb).1
    by_cases hil : i < 4
    · have hcase : i = 0 ∨ i = 1 ∨ i = 2 ∨ i = 3 := by omega
      rcases hcase with rfl | rfl | rfl | rfl
      · rw [show ((0 : Nat) : Int) = 0 from rfl]
        have c0 : W1.cell? ⟨w.heap.size + 1 + 1, 0, none⟩ = some (.int .i64 0) := block_cell hb rfl
        have c1 : W1.cell? ⟨w.heap.size + 1 + 1, 1, none⟩ = some (.int .i64 0) := block_cell hb rfl
        have f0 : W1.frozen? ⟨w.heap.size + 1 + 1, 0, none⟩ = false := froz hb
        have f1 : W1.frozen? ⟨w.heap.size + 1 + 1, 1, none⟩ = false := froz hb
        have HNX : Hid (((W1.setCell ⟨w.heap.size + 1 + 1, 0, none⟩ (.int .i64 (k : Nat))).setCell ⟨w.heap.size + 1 + 1, 1, none⟩ (.int .i64 0)).heap[w.heap.size + 1 + 1]? = some (.cells (cor8 k 0 3 1 2 1) 68 (0, 0)) ∧ Y.grownBy ((W1.setCell ⟨w.heap.size + 1 + 1, 0, none⟩ (.int .i64 (k : Nat))).setCell ⟨w.heap.size + 1 + 1, 1, none⟩ (.int .i64 0)) (some (w.heap.size + 1 + 1))) := ⟨by rw [set_block (set_block hb)]; rfl, grown_two hp.out.2 (grown_two (set_grown _ _ _ _) (set_grown _ _ _ _))⟩
        clear hb
        go_wp2
        go_roundw
        case rel => exact ⟨1, by omega, by go_num, HNX.out⟩
        case measure => simp only [intOf]; omega
      · rw [show ((1 : Nat) : Int) = 1 from rfl]
        have c0 : W1.cell? ⟨w.heap.size + 1 + 1, 2, none⟩ = some (.int .i64 0) := block_cell hb rfl
        have c1 : W1.cell? ⟨w.heap.size + 1 + 1, 3, none⟩ = some (.int .i64 0) := block_cell hb rfl
        have f0 : W1.frozen? ⟨w.heap.size + 1 + 1, 2, none⟩ = false := froz hb
        have f1 : W1.frozen? ⟨w.heap.size + 1 + 1, 3, none⟩ = false := froz hb
        have HNX : Hid (((W1.setCell ⟨w.heap.size + 1 + 1, 2, none⟩ (.int .i64 (k : Nat))).setCell ⟨w.heap.size + 1 + 1, 3, none⟩ (.int .i64 3)).heap[w.heap.size + 1 + 1]? = some (.cells (cor8 k 0 3 1 2 2) 68 (0, 0)) ∧ Y.grownBy ((W1.setCell ⟨w.heap.size + 1 + 1, 2, none⟩ (.int .i64 (k : Nat))).setCell ⟨w.heap.size + 1 + 1, 3, none⟩ (.int .i64 3)) (some (w.heap.size + 1 + 1))) := ⟨by rw [set_block (set_block hb)]; rfl, grown_two hp.out.2 (grown_two (set_grown _ _ _ _) (set_grown _ _ _ _))⟩
        clear hb
        go_wp2
        go_roundw
        case rel => exact ⟨2, by omega, by go_num, HNX.out⟩
        case measure => simp only [intOf]; omega
      · rw [show ((2 : Nat) : Int) = 2 from rfl]
        have c0 : W1.cell? ⟨w.heap.size + 1 + 1, 4, none⟩ = some (.int .i64 0) := block_cell hb rfl
        have c1 : W1.cell? ⟨w.heap.size + 1 + 1, 5, none⟩ = some (.int .i64 0) := block_cell hb rfl
        have f0 : W1.frozen? ⟨w.heap.size + 1 + 1, 4, none⟩ = false := froz hb
        have f1 : W1.frozen? ⟨w.heap.size + 1 + 1, 5, none⟩ = false := froz hb
        have HNX : Hid (((W1.setCell ⟨w.heap.size + 1 + 1, 4, none⟩ (.int .i64 (k : Nat))).setCell ⟨w.heap.size + 1 + 1, 5, none⟩ (.int .i64 1)).heap[w.heap.size + 1 + 1]? = some (.cells (cor8 k 0 3 1 2 3) 68 (0, 0)) ∧ Y.grownBy ((W1.setCell ⟨w.heap.size + 1 + 1, 4, none⟩ (.int .i64 (k : Nat))).setCell ⟨w.heap.size + 1 + 1, 5, none⟩ (.int .i64 1)) (some (w.heap.size + 1 + 1))) := ⟨by rw [set_block (set_block hb)]; rfl, grown_two hp.out.2 (grown_two (set_grown _ _ _ _) (set_grown _ _ _ _))⟩
        clear hb
        go_wp2
        go_roundw
        case rel => exact ⟨3, by omega, by go_num, HNX.out⟩
        case measure => simp only [intOf]; omega
      · rw [show ((3 : Nat) : Int) = 3 from rfl]
        have c0 : W1.cell? ⟨w.heap.size + 1 + 1, 6, none⟩ = some (.int .i64 0) := block_cell hb rfl
        have c1 : W1.cell? ⟨w.heap.size + 1 + 1, 7, none⟩ = some (.int .i64 0) := block_cell hb rfl
        have f0 : W1.frozen? ⟨w.heap.size + 1 + 1, 6, none⟩ = false := froz hb
        have f1 : W1.frozen? ⟨w.heap.size + 1 + 1, 7, none⟩ = false := froz hb
        have HNX : Hid (((W1.setCell ⟨w.heap.size + 1 + 1, 6, none⟩ (.int .i64 (k : Nat))).setCell ⟨w.heap.size + 1 + 1, 7, none⟩ (.int .i64 2)).heap[w.heap.size + 1 + 1]? = some (.cells (cor8 k 0 3 1 2 4) 68 (0, 0)) ∧ Y.grownBy ((W1.setCell ⟨w.heap.size + 1 + 1, 6, none⟩ (.int .i64 (k : Nat))).setCell ⟨w.heap.size + 1 + 1, 7, none⟩ (.int .i64 2)) (some (w.heap.size + 1 + 1))) := ⟨by rw [set_block (set_block hb)]; rfl, grown_two hp.out.2 (grown_two (set_grown _ _ _ _) (set_grown _ _ _ _))⟩
        clear hb
        go_wp2
        go_roundw
        case rel => exact ⟨4, by omega, by go_num, HNX.out⟩
        case measure => simp only [intOf]; omega
    · obtain rfl : i = 4 := by omega
      rw [show ((4 : Nat) : Int) = 4 from rfl]
      have hb0 := (hp.out.2.block w.heap.size (by omega) (fun e => by have : w.heap.size = w.heap.size + 1 + 1 := Option.some.inj e; omega)).trans HT0.out
      have d0 : W1.cell? ⟨w.heap.size + 1 + 1, 0, none⟩ = some (.int .i64 (k : Nat)) := block_cell hb rfl
      have g0 : W1.cell? ⟨w.heap.size, 0, none⟩ = some (.int .i64 0) := block_cell hb0 rfl
      have z0 : W1.frozen? ⟨w.heap.size, 0, none⟩ = false := froz hb0
      have d1 : W1.cell? ⟨w.heap.size + 1 + 1, 1, none⟩ = some (.int .i64 0) := block_cell hb rfl
      have g1 : W1.cell? ⟨w.heap.size, 1, none⟩ = some (.int .i64 0) := block_cell hb0 rfl
      have z1 : W1.frozen? ⟨w.heap.size, 1, none⟩ = false := froz hb0
      have d2 : W1.cell? ⟨w.heap.size + 1 + 1, 2, none⟩ = some (.int .i64 (k : Nat)) := block_cell hb rfl
      have g2 : W1.cell? ⟨w.heap.size, 2, none⟩ = some (.int .i64 0) := block_cell hb0 rfl
      have z2 : W1.frozen? ⟨w.heap.size, 2, none⟩ = false := froz hb0
      have d3 : W1.cell? ⟨w.heap.size + 1 + 1, 3, none⟩ = some (.int .i64 3) := block_cell hb rfl
      have g3 : W1.cell? ⟨w.heap.size, 3, none⟩ = some (.int .i64 0) := block_cell hb0 rfl
      have z3 : W1.frozen? ⟨w.heap.size, 3, none⟩ = false := froz hb0
      have d4 : W1.cell? ⟨w.heap.size + 1 + 1, 4, none⟩ = some (.int .i64 (k : Nat)) := block_cell hb rfl
      have g4 : W1.cell? ⟨w.heap.size, 4, none⟩ = some (.int .i64 0) := block_cell hb0 rfl
      have z4 : W1.frozen? ⟨w.heap.size, 4, none⟩ = false := froz hb0
      have d5 : W1.cell? ⟨w.heap.size + 1 + 1, 5, none⟩ = some (.int .i64 1) := block_cell hb rfl
      have g5 : W1.cell? ⟨w.heap.size, 5, none⟩ = some (.int .i64 0) := block_cell hb0 rfl
      have z5 : W1.frozen? ⟨w.heap.size, 5, none⟩ = false := froz hb0
      have d6 : W1.cell? ⟨w.heap.size + 1 + 1, 6, none⟩ = some (.int .i64 (k : Nat)) := block_cell hb rfl
      have g6 : W1.cell? ⟨w.heap.size, 6, none⟩ = some (.int .i64 0) := block_cell hb0 rfl
      have z6 : W1.frozen? ⟨w.heap.size, 6, none⟩ = false := froz hb0
      have d7 : W1.cell? ⟨w.heap.size + 1 + 1, 7, none⟩ = some (.int .i64 2) := block_cell hb rfl
      have g7 : W1.cell? ⟨w.heap.size, 7, none⟩ = some (.int .i64 0) := block_cell hb0 rfl
      have z7 : W1.frozen? ⟨w.heap.size, 7, none⟩ = false := froz hb0
      have hszw : w.heap.size < W1.heap.size := (Array.getElem?_eq_some_iff.1 hb0).1
      obtain ⟨V, hV⟩ : ∃ V, V = ((((((((W1.setCell ⟨w.heap.size, 0, none⟩ (.int .i64 (k : Nat))).setCell ⟨w.heap.size, 1, none⟩ (.int .i64 0)).setCell ⟨w.heap.size, 2, none⟩ (.int .i64 (k : Nat))).setCell ⟨w.heap.size, 3, none⟩ (.int .i64 3)).setCell ⟨w.heap.size, 4, none⟩ (.int .i64 (k : Nat))).setCell ⟨w.heap.size, 5, none⟩ (.int .i64 1)).setCell ⟨w.heap.size, 6, none⟩ (.int .i64 (k : Nat))).setCell ⟨w.heap.size, 7, none⟩ (.int .i64 2)) := ⟨_, rfl⟩
      have HV : Hid (V = ((((((((W1.setCell ⟨w.heap.size, 0, none⟩ (.int .i64 (k : Nat))).setCell ⟨w.heap.size, 1, none⟩ (.int .i64 0)).setCell ⟨w.heap.size, 2, none⟩ (.int .i64 (k : Nat))).setCell ⟨w.heap.size, 3, none⟩ (.int .i64 3)).setCell ⟨w.heap.size, 4, none⟩ (.int .i64 (k : Nat))).setCell ⟨w.heap.size, 5, none⟩ (.int .i64 1)).setCell ⟨w.heap.size, 6, none⟩ (.int .i64 (k : Nat))).setCell ⟨w.heap.size, 7, none⟩ (.int .i64 2))) := hV
      have HVB : Hid (V.heap[w.heap.size]? = some (.cells #[.int .i64 (k : Nat), .int .i64 0, .int .i64 (k : Nat), .int .i64 3, .int .i64 (k : Nat), .int .i64 1, .int .i64 (k : Nat), .int .i64 2] 68 (0, 0))) := (by rw [hV, (set_block (set_block (set_block (set_block (set_block (set_block (set_block (set_block hb0))))))))]; rfl : V.heap[w.heap.size]? = some (.cells #[.int .i64 (k : Nat), .int .i64 0, .int .i64 (k : Nat), .int .i64 3, .int .i64 (k : Nat), .int .i64 1, .int .i64 (k : Nat), .int .i64 2] 68 (0, 0)))
      have HVG : Hid (W1.grownBy V (some w.heap.size)) := (by rw [hV]; exact grown_two (grown_two (grown_two (grown_two (grown_two (grown_two (grown_two (grown_two (World.grownBy.refl _ _) (set_grown _ _ _ _)) (set_grown _ _ _ _)) (set_grown _ _ _ _)) (set_grown _ _ _ _)) (set_grown _ _ _ _)) (set_grown _ _ _ _)) (set_grown _ _ _ _)) (set_grown _ _ _ _) : W1.grownBy V (some w.heap.size))
      have HBW : Hid (Below w.heap.size w V) := (HBY.out.grown hp.out.2 HBY.out.size (fun q hq => by have := Option.some.inj hq; omega)).grown HVG.out (by omega) (fun q hq => by have := Option.some.inj hq; omega)
      clear hb hb0 hV
      go_wp2
      rw [← HV.out]
      have y0 : V.cell? ⟨w.heap.size, 0, none⟩ = some (.int .i64 (k : Nat)) := block_cell HVB.out rfl
      have y1 : V.cell? ⟨w.heap.size, 1, none⟩ = some (.int .i64 0) := block_cell HVB.out rfl
      have y2 : V.cell? ⟨w.heap.size, 2, none⟩ = some (.int .i64 (k : Nat)) := block_cell HVB.out rfl
      have y3 : V.cell? ⟨w.heap.size, 3, none⟩ = some (.int .i64 3) := block_cell HVB.out rfl
      have y4 : V.cell? ⟨w.heap.size, 4, none⟩ = some (.int .i64 (k : Nat)) := block_cell HVB.out rfl
      have y5 : V.cell? ⟨w.heap.size, 5, none⟩ = some (.int .i64 1) := block_cell HVB.out rfl
      have y6 : V.cell? ⟨w.heap.size, 6, none⟩ = some (.int .i64 (k : Nat)) := block_cell HVB.out rfl
      have y7 : V.cell? ⟨w.heap.size, 7, none⟩ = some (.int .i64 2) := block_cell HVB.out rfl
      exact bodyPost_ret (v := corV k 0 3 1 2) (by simp [results, Tryd.results27, go_sem, corV, y0, y1, y2, y3, y4, y5, y6, y7]) rfl ⟨rfl, HBW.out⟩

set_option maxHeartbeats 4000000 in
set_option maxRecDepth 100000 in
theorem corners_down (k : Nat) (w : World) :
    Calls Tryd.prog 27 #[.int .i64 (k : Nat), .bool false] w fun r w' => r = .returned (corV k 3 2 0 1) ∧ Below w.heap.size w w' := by
  obtain ⟨Y, hY⟩ : ∃ Y, Y = ((w.alloc (.cells #[.int .i64 0, .int .i64 0, .int .i64 0, .int .i64 0, .int .i64 0, .int .i64 0, .int .i64 0, .int .i64 0] 68)).alloc (.cells #[.int .i64 3, .int .i64 2, .int .i64 0, .int .i64 1] 75)).alloc (.cells #[.int .i64 0, .int .i64 0, .int .i64 0, .int .i64 0, .int .i64 0, .int .i64 0, .int .i64 0, .int .i64 0] 68) := ⟨_, rfl⟩
  have HY : Hid (Y = ((w.alloc (.cells #[.int .i64 0, .int .i64 0, .int .i64 0, .int .i64 0, .int .i64 0, .int .i64 0, .int .i64 0, .int .i64 0] 68)).alloc (.cells #[.int .i64 3, .int .i64 2, .int .i64 0, .int .i64 1] 75)).alloc (.cells #[.int .i64 0, .int .i64 0, .int .i64 0, .int .i64 0, .int .i64 0, .int .i64 0, .int .i64 0, .int .i64 0] 68)) := hY
  have HBY : Hid (Below w.heap.size w Y) := (by rw [hY]; exact (((Below.refl _ _).alloc (Nat.le_refl _) _).alloc (by simp) _).alloc (by simp; omega) _ : Below w.heap.size w Y)
  have hsY : Y.heap.size = w.heap.size + 3 := by rw [hY]; simp
  have HT0 : Hid (Y.heap[w.heap.size]? = some (.cells #[.int .i64 0, .int .i64 0, .int .i64 0, .int .i64 0, .int .i64 0, .int .i64 0, .int .i64 0, .int .i64 0] 68 (0, 0))) := (by
    rw [hY, box_low _ _ (by simp; omega), box_low _ _ (by simp)]; exact box_at _ _ : Y.heap[w.heap.size]? = some (.cells #[.int .i64 0, .int .i64 0, .int .i64 0, .int .i64 0, .int .i64 0, .int .i64 0, .int .i64 0, .int .i64 0] 68 (0, 0)))
  have HT2 : Hid (Y.heap[w.heap.size + 1 + 1]? = some (.cells (cor8 k 3 2 0 1 0) 68 (0, 0))) := (by
    have := box_at ((w.alloc (.cells #[.int .i64 0, .int .i64 0, .int .i64 0, .int .i64 0, .int .i64 0, .int .i64 0, .int .i64 0, .int .i64 0] 68)).alloc (.cells #[.int .i64 3, .int .i64 2, .int .i64 0, .int .i64 1] 75)) (.cells #[.int .i64 0, .int .i64 0, .int .i64 0, .int .i64 0, .int .i64 0, .int .i64 0, .int .i64 0, .int .i64 0] 68)
    rw [hY]
    simpa [cor8] using this : Y.heap[w.heap.size + 1 + 1]? = some (.cells (cor8 k 3 2 0 1 0) 68 (0, 0)))
  have hix0 : ∀ W : World, (Instr.index 75 (.agg #[.int .i64 3, .int .i64 2, .int .i64 0, .int .i64 1]) (.int .i64 0)).run Tryd.prog W = .ok (.int .i64 3) W := fun W => by kernel_rfl
  have hix1 : ∀ W : World, (Instr.index 75 (.agg #[.int .i64 3, .int .i64 2, .int .i64 0, .int .i64 1]) (.int .i64 1)).run Tryd.prog W = .ok (.int .i64 2) W := fun W => by kernel_rfl
  have hix2 : ∀ W : World, (Instr.index 75 (.agg #[.int .i64 3, .int .i64 2, .int .i64 0, .int .i64 1]) (.int .i64 2)).run Tryd.prog W = .ok (.int .i64 0) W := fun W => by kernel_rfl
  have hix3 : ∀ W : World, (Instr.index 75 (.agg #[.int .i64 3, .int .i64 2, .int .i64 0, .int .i64 1]) (.int .i64 3)).run Tryd.prog W = .ok (.int .i64 1) W := fun W => by kernel_rfl
  clear hY
  go_enter Tryd.func27, Tryd.ntmps27
  go_wp2
  rw [← HY.out]
  go_loopw [13] (fun v13 wr => ∃ i : Nat, i ≤ 4 ∧ v13 = .int .i64 (i : Nat) ∧ Hid (wr.heap[w.heap.size + 1 + 1]? = some (.cells (cor8 k 3 2 0 1 i) 68 (0, 0)) ∧ Y.grownBy wr (some (w.heap.size + 1 + 1)))) (fun v13 _ => 4 - (intOf v13).toNat)
  case atStart => exact ⟨0, by omega, rfl, HT2.out, World.grownBy.refl _ _⟩
  case round =>
    rename World => W1
    obtain ⟨i, hi4, rfl, hp⟩ := hrel
    have hb := hp.out.1
    have hsz := (Array.getElem?_eq_some_iff.1 hb).1
    by_cases hil : i < 4
    · have hcase : i = 0 ∨ i = 1 ∨ i = 2 ∨ i = 3 := by omega
      rcases hcase with rfl | rfl | rfl | rfl
      · rw [show ((0 : Nat) : Int) = 0 from rfl]
        have c0 : W1.cell? ⟨w.heap.size + 1 + 1, 0, none⟩ = some (.int .i64 0) := block_cell hb rfl
        have c1 : W1.cell? ⟨w.heap.size + 1 + 1, 1, none⟩ = some (.int .i64 0) := block_cell hb rfl
        have f0 : W1.frozen? ⟨w.heap.size + 1 + 1, 0, none⟩ = false := froz hb
        have f1 : W1.frozen? ⟨w.heap.size + 1 + 1, 1, none⟩ = false := froz hb
        have HNX : Hid (((W1.setCell ⟨w.heap.size + 1 + 1, 0, none⟩ (.int .i64 (k : Nat))).setCell ⟨w.heap.size + 1 + 1, 1, none⟩ (.int .i64 3)).heap[w.heap.size + 1 + 1]? = some (.cells (cor8 k 3 2 0 1 1) 68 (0, 0)) ∧ Y.grownBy ((W1.setCell ⟨w.heap.size + 1 + 1, 0, none⟩ (.int .i64 (k : Nat))).setCell ⟨w.heap.size + 1 + 1, 1, none⟩ (.int .i64 3)) (some (w.heap.size + 1 + 1))) := ⟨by rw [set_block (set_block hb)]; rfl, grown_two hp.out.2 (grown_two (set_grown _ _ _ _) (set_grown _ _ _ _))⟩
        clear hb
        go_wp2
        go_roundw
        case rel => exact ⟨1, by omega, by go_num, HNX.out⟩
        case measure => simp only [intOf]; omega
      · rw [show ((1 : Nat) : Int) = 1 from rfl]
        have c0 : W1.cell? ⟨w.heap.size + 1 + 1, 2, none⟩ = some (.int .i64 0) := block_cell hb rfl
        have c1 : W1.cell? ⟨w.heap.size + 1 + 1, 3, none⟩ = some (.int .i64 0) := block_cell hb rfl
        have f0 : W1.frozen? ⟨w.heap.size + 1 + 1, 2, none⟩ = false := froz hb
        have f1 : W1.frozen? ⟨w.heap.size + 1 + 1, 3, none⟩ = false := froz hb
        have HNX : Hid (((W1.setCell ⟨w.heap.size + 1 + 1, 2, none⟩ (.int .i64 (k : Nat))).setCell ⟨w.heap.size + 1 + 1, 3, none⟩ (.int .i64 2)).heap[w.heap.size + 1 + 1]? = some (.cells (cor8 k 3 2 0 1 2) 68 (0, 0)) ∧ Y.grownBy ((W1.setCell ⟨w.heap.size + 1 + 1, 2, none⟩ (.int .i64 (k : Nat))).setCell ⟨w.heap.size + 1 + 1, 3, none⟩ (.int .i64 2)) (some (w.heap.size + 1 + 1))) := ⟨by rw [set_block (set_block hb)]; rfl, grown_two hp.out.2 (grown_two (set_grown _ _ _ _) (set_grown _ _ _ _))⟩
        clear hb
        go_wp2
        go_roundw
        case rel => exact ⟨2, by omega, by go_num, HNX.out⟩
        case measure => simp only [intOf]; omega
      · rw [show ((2 : Nat) : Int) = 2 from rfl]
        have c0 : W1.cell? ⟨w.heap.size + 1 + 1, 4, none⟩ = some (.int .i64 0) := block_cell hb rfl
        have c1 : W1.cell? ⟨w.heap.size + 1 + 1, 5, none⟩ = some (.int .i64 0) := block_cell hb rfl
        have f0 : W1.frozen? ⟨w.heap.size + 1 + 1, 4, none⟩ = false := froz hb
        have f1 : W1.frozen? ⟨w.heap.size + 1 + 1, 5, none⟩ = false := froz hb
        have HNX : Hid (((W1.setCell ⟨w.heap.size + 1 + 1, 4, none⟩ (.int .i64 (k : Nat))).setCell ⟨w.heap.size + 1 + 1, 5, none⟩ (.int .i64 0)).heap[w.heap.size + 1 + 1]? = some (.cells (cor8 k 3 2 0 1 3) 68 (0, 0)) ∧ Y.grownBy ((W1.setCell ⟨w.heap.size + 1 + 1, 4, none⟩ (.int .i64 (k : Nat))).setCell ⟨w.heap.size + 1 + 1, 5, none⟩ (.int .i64 0)) (some (w.heap.size + 1 + 1))) := ⟨by rw [set_block (set_block hb)]; rfl, grown_two hp.out.2 (grown_two (set_grown _ _ _ _) (set_grown _ _ _ _))⟩
        clear hb
        go_wp2
        go_roundw
        case rel => exact ⟨3, by omega, by go_num, HNX.out⟩
        case measure => simp only [intOf]; omega
      · rw [show ((3 : Nat) : Int) = 3 from rfl]
        have c0 : W1.cell? ⟨w.heap.size + 1 + 1, 6, none⟩ = some (.int .i64 0) := block_cell hb rfl
        have c1 : W1.cell? ⟨w.heap.size + 1 + 1, 7, none⟩ = some (.int .i64 0) := block_cell hb rfl
        have f0 : W1.frozen? ⟨w.heap.size + 1 + 1, 6, none⟩ = false := froz hb
        have f1 : W1.frozen? ⟨w.heap.size + 1 + 1, 7, none⟩ = false := froz hb
        have HNX : Hid (((W1.setCell ⟨w.heap.size + 1 + 1, 6, none⟩ (.int .i64 (k : Nat))).setCell ⟨w.heap.size + 1 + 1, 7, none⟩ (.int .i64 1)).heap[w.heap.size + 1 + 1]? = some (.cells (cor8 k 3 2 0 1 4) 68 (0, 0)) ∧ Y.grownBy ((W1.setCell ⟨w.heap.size + 1 + 1, 6, none⟩ (.int .i64 (k : Nat))).setCell ⟨w.heap.size + 1 + 1, 7, none⟩ (.int .i64 1)) (some (w.heap.size + 1 + 1))) := ⟨by rw [set_block (set_block hb)]; rfl, grown_two hp.out.2 (grown_two (set_grown _ _ _ _) (set_grown _ _ _ _))⟩
        clear hb
        go_wp2
        go_roundw
        case rel => exact ⟨4, by omega, by go_num, HNX.out⟩
        case measure => simp only [intOf]; omega
    · obtain rfl : i = 4 := by omega
      rw [show ((4 : Nat) : Int) = 4 from rfl]
      have hb0 := (hp.out.2.block w.heap.size (by omega) (fun e => by have : w.heap.size = w.heap.size + 1 + 1 := Option.some.inj e; omega)).trans HT0.out
      have d0 : W1.cell? ⟨w.heap.size + 1 + 1, 0, none⟩ = some (.int .i64 (k : Nat)) := block_cell hb rfl
      have g0 : W1.cell? ⟨w.heap.size, 0, none⟩ = some (.int .i64 0) := block_cell hb0 rfl
      have z0 : W1.frozen? ⟨w.heap.size, 0, none⟩ = false := froz hb0
      have d1 : W1.cell? ⟨w.heap.size + 1 + 1, 1, none⟩ = some (.int .i64 3) := block_cell hb rfl
      have g1 : W1.cell? ⟨w.heap.size, 1, none⟩ = some (.int .i64 0) := block_cell hb0 rfl
      have z1 : W1.frozen? ⟨w.heap.size, 1, none⟩ = false := froz hb0
      have d2 : W1.cell? ⟨w.heap.size + 1 + 1, 2, none⟩ = some (.int .i64 (k : Nat)) := block_cell hb rfl
      have g2 : W1.cell? ⟨w.heap.size, 2, none⟩ = some (.int .i64 0) := block_cell hb0 rfl
      have z2 : W1.frozen? ⟨w.heap.size, 2, none⟩ = false := froz hb0
      have d3 : W1.cell? ⟨w.heap.size + 1 + 1, 3, none⟩ = some (.int .i64 2) := block_cell hb rfl
      have g3 : W1.cell? ⟨w.heap.size, 3, none⟩ = some (.int .i64 0) := block_cell hb0 rfl
      have z3 : W1.frozen? ⟨w.heap.size, 3, none⟩ = false := froz hb0
      have d4 : W1.cell? ⟨w.heap.size + 1 + 1, 4, none⟩ = some (.int .i64 (k : Nat)) := block_cell hb rfl
      have g4 : W1.cell? ⟨w.heap.size, 4, none⟩ = some (.int .i64 0) := block_cell hb0 rfl
      have z4 : W1.frozen? ⟨w.heap.size, 4, none⟩ = false := froz hb0
      have d5 : W1.cell? ⟨w.heap.size + 1 + 1, 5, none⟩ = some (.int .i64 0) := block_cell hb rfl
      have g5 : W1.cell? ⟨w.heap.size, 5, none⟩ = some (.int .i64 0) := block_cell hb0 rfl
      have z5 : W1.frozen? ⟨w.heap.size, 5, none⟩ = false := froz hb0
      have d6 : W1.cell? ⟨w.heap.size + 1 + 1, 6, none⟩ = some (.int .i64 (k : Nat)) := block_cell hb rfl
      have g6 : W1.cell? ⟨w.heap.size, 6, none⟩ = some (.int .i64 0) := block_cell hb0 rfl
      have z6 : W1.frozen? ⟨w.heap.size, 6, none⟩ = false := froz hb0
      have d7 : W1.cell? ⟨w.heap.size + 1 + 1, 7, none⟩ = some (.int .i64 1) := block_cell hb rfl
      have g7 : W1.cell? ⟨w.heap.size, 7, none⟩ = some (.int .i64 0) := block_cell hb0 rfl
      have z7 : W1.frozen? ⟨w.heap.size, 7, none⟩ = false := froz hb0
      have hszw : w.heap.size < W1.heap.size := (Array.getElem?_eq_some_iff.1 hb0).1
      obtain ⟨V, hV⟩ : ∃ V, V = ((((((((W1.setCell ⟨w.heap.size, 0, none⟩ (.int .i64 (k : Nat))).setCell ⟨w.heap.size, 1, none⟩ (.int .i64 3)).setCell ⟨w.heap.size, 2, none⟩ (.int .i64 (k : Nat))).setCell ⟨w.heap.size, 3, none⟩ (.int .i64 2)).setCell ⟨w.heap.size, 4, none⟩ (.int .i64 (k : Nat))).setCell ⟨w.heap.size, 5, none⟩ (.int .i64 0)).setCell ⟨w.heap.size, 6, none⟩ (.int .i64 (k : Nat))).setCell ⟨w.heap.size, 7, none⟩ (.int .i64 1)) := ⟨_, rfl⟩
      have HV : Hid (V = ((((((((W1.setCell ⟨w.heap.size, 0, none⟩ (.int .i64 (k : Nat))).setCell ⟨w.heap.size, 1, none⟩ (.int .i64 3)).setCell ⟨w.heap.size, 2, none⟩ (.int .i64 (k : Nat))).setCell ⟨w.heap.size, 3, none⟩ (.int .i64 2)).setCell ⟨w.heap.size, 4, none⟩ (.int .i64 (k : Nat))).setCell ⟨w.heap.size, 5, none⟩ (.int .i64 0)).setCell ⟨w.heap.size, 6, none⟩ (.int .i64 (k : Nat))).setCell ⟨w.heap.size, 7, none⟩ (.int .i64 1))) := hV
      have HVB : Hid (V.heap[w.heap.size]? = some (.cells #[.int .i64 (k : Nat), .int .i64 3, .int .i64 (k : Nat), .int .i64 2, .int .i64 (k : Nat), .int .i64 0, .int .i64 (k : Nat), .int .i64 1] 68 (0, 0))) := (by rw [hV, (set_block (set_block (set_block (set_block (set_block (set_block (set_block (set_block hb0))))))))]; rfl : V.heap[w.heap.size]? = some (.cells #[.int .i64 (k : Nat), .int .i64 3, .int .i64 (k : Nat), .int .i64 2, .int .i64 (k : Nat), .int .i64 0, .int .i64 (k : Nat), .int .i64 1] 68 (0, 0)))
      have HVG : Hid (W1.grownBy V (some w.heap.size)) := (by rw [hV]; exact grown_two (grown_two (grown_two (grown_two (grown_two (grown_two (grown_two (grown_two (World.grownBy.refl _ _) (set_grown _ _ _ _)) (set_grown _ _ _ _)) (set_grown _ _ _ _)) (set_grown _ _ _ _)) (set_grown _ _ _ _)) (set_grown _ _ _ _)) (set_grown _ _ _ _)) (set_grown _ _ _ _) : W1.grownBy V (some w.heap.size))
      have HBW : Hid (Below w.heap.size w V) := (HBY.out.grown hp.out.2 HBY.out.size (fun q hq => by have := Option.some.inj hq; omega)).grown HVG.out (by omega) (fun q hq => by have := Option.some.inj hq; omega)
      clear hb hb0 hV
      go_wp2
      rw [← HV.out]
      have y0 : V.cell? ⟨w.heap.size, 0, none⟩ = some (.int .i64 (k : Nat)) := block_cell HVB.out rfl
      have y1 : V.cell? ⟨w.heap.size, 1, none⟩ = some (.int .i64 3) := block_cell HVB.out rfl
      have y2 : V.cell? ⟨w.heap.size, 2, none⟩ = some (.int .i64 (k : Nat)) := block_cell HVB.out rfl
      have y3 : V.cell? ⟨w.heap.size, 3, none⟩ = some (.int .i64 2) := block_cell HVB.out rfl
      have y4 : V.cell? ⟨w.heap.size, 4, none⟩ = some (.int .i64 (k : Nat)) := block_cell HVB.out rfl
      have y5 : V.cell? ⟨w.heap.size, 5, none⟩ = some (.int .i64 0) := block_cell HVB.out rfl
      have y6 : V.cell? ⟨w.heap.size, 6, none⟩ = some (.int .i64 (k : Nat)) := block_cell HVB.out rfl
      have y7 : V.cell? ⟨w.heap.size, 7, none⟩ = some (.int .i64 1) := block_cell HVB.out rfl
      exact bodyPost_ret (v := corV k 3 2 0 1) (by simp [results, Tryd.results27, go_sem, corV, y0, y1, y2, y3, y4, y5, y6, y7]) rfl ⟨rfl, HBW.out⟩
end Go.Proofs.YtnlcknlodjjdbaaDoor

/- The sweeps of ref.ShadesOf: plain mathematics. -/
import Derived.Test.YtagaajlbkfkaiaaSR1
namespace Go.Proofs.Ytagaajlbkfkaiaa

/-- What one look at a corner and the next makes of the shades. -/
def swA (L : List Int) (x y : Nat) : List Int := if 0 ≤ L.getD x 0 then L.set y (1 - L.getD x 0) else L
def swB (L : List Int) (x y : Nat) : List Int := if 0 ≤ (swA L x y).getD y 0 then (swA L x y).set x (1 - (swA L x y).getD y 0) else swA L x y
theorem Sd.neg {s : Nat → Nat} {F : Nat} {L : List Int} (h : Sd s F L) {f : Nat} (hf : f < F) : (0 ≤ L.getD f 0 ↔ L.getD f 0 ≠ -1) ∧ (L.getD f 0 ≠ -1 → L.getD f 0 = ((s f : Nat) : Int)) := by
  rcases h.2 f hf with e | e
  · rw [e]; exact ⟨by omega, fun h => absurd rfl h⟩
  · rw [e]; exact ⟨by omega, fun _ => rfl⟩
theorem sw_step {s : Nat → Nat} {F : Nat} {L : List Int} (h : Sd s F L) {x y : Nat} (hx : x < F) (hy : y < F) (hxy : s y = 1 - s x) (h2 : s x < 2) : Sd s F (swA L x y) ∧ Sd s F (swB L x y) ∧ (∀ g, g < F → L.getD g 0 ≠ -1 → (swB L x y).getD g 0 ≠ -1) ∧ (L.getD x 0 ≠ -1 ∨ L.getD y 0 ≠ -1 → (swB L x y).getD x 0 ≠ -1 ∧ (swB L x y).getD y 0 ≠ -1) := by
  have nx := h.neg hx
  have hA : (L.getD x 0 ≠ -1 → swA L x y = L.set y ((s y : Nat) : Int)) ∧ (L.getD x 0 = -1 → swA L x y = L) := by
    constructor
    · intro e
      unfold swA
      rw [if_pos (nx.1.2 e), nx.2 e]
      congr 1
      omega
    · intro e
      unfold swA
      rw [if_neg (fun q => (nx.1.1 q) e)]
  have sA : Sd s F (swA L x y) := by
    by_cases e : L.getD x 0 = -1
    · rw [hA.2 e]; exact h
    · rw [hA.1 e]; exact h.set y
  have ny := sA.neg hy
  have hB : ((swA L x y).getD y 0 ≠ -1 → swB L x y = (swA L x y).set x ((s x : Nat) : Int)) ∧ ((swA L x y).getD y 0 = -1 → swB L x y = swA L x y) := by
    constructor
    · intro e
      unfold swB
      rw [if_pos (ny.1.2 e), ny.2 e]
      congr 1
      omega
    · intro e
      unfold swB
      rw [if_neg (fun q => (ny.1.1 q) e)]
  have sB : Sd s F (swB L x y) := by
    by_cases e : (swA L x y).getD y 0 = -1
    · rw [hB.2 e]; exact sA
    · rw [hB.1 e]; exact sA.set x
  have kA : ∀ g, g < F → L.getD g 0 ≠ -1 → (swA L x y).getD g 0 ≠ -1 := fun g hg e => by
    by_cases e2 : L.getD x 0 = -1
    · rw [hA.2 e2]; exact e
    · rw [hA.1 e2, getS_put]
      split
      · omega
      · exact e
  have kB : ∀ g, g < F → (swA L x y).getD g 0 ≠ -1 → (swB L x y).getD g 0 ≠ -1 := fun g hg e => by
    by_cases e2 : (swA L x y).getD y 0 = -1
    · rw [hB.2 e2]; exact e
    · rw [hB.1 e2, getS_put]
      split
      · omega
      · exact e
  refine ⟨sA, sB, fun g hg e => kB g hg (kA g hg e), fun e => ?_⟩
  have eyA : (swA L x y).getD y 0 ≠ -1 := by
    rcases e with e | e
    · rw [hA.1 e, getS_put, if_pos ⟨rfl, by rw [h.1]; exact hy⟩]
      omega
    · exact kA y hy e
  refine ⟨?_, kB y hy eyA⟩
  rw [hB.1 eyA, getS_put, if_pos ⟨rfl, by rw [sA.1]; exact hx⟩]
  omega
/-- A sweep under way: behind the corners ahead of c, k. -/
structure SwAt (C : List Cr) (s : Nat → Nat) (c k : Nat) (L M : List Int) : Prop where
  sd : Sd s (facesM C).length M
  keep : ∀ g, g < (facesM C).length → L.getD g 0 ≠ -1 → M.getD g 0 ≠ -1
  done : ∀ c' k', c' < C.length → k' < 4 → (c' < c ∨ (c' = c ∧ k' < k)) → (L.getD (cor C c' k') 0 ≠ -1 ∨ L.getD (cor C c' ((k' + 1) % 4)) 0 ≠ -1) → M.getD (cor C c' k') 0 ≠ -1 ∧ M.getD (cor C c' ((k' + 1) % 4)) 0 ≠ -1
theorem SwAt.start {C : List Cr} {s : Nat → Nat} {L : List Int} (h : Sd s (facesM C).length L) : SwAt C s 0 0 L L :=
  ⟨h, fun _ _ h => h, fun c' k' _ _ h => by omega⟩
theorem SwAt.next {C : List Cr} {s : Nat → Nat} {c : Nat} {L M : List Int} (h : SwAt C s c 4 L M) : SwAt C s (c + 1) 0 L M :=
  ⟨h.sd, h.keep, fun c' k' h1 h2 h3 => h.done c' k' h1 h2 (by omega)⟩
theorem cor_next {C : List Cr} {loops : Int} {s : Nat → Nat} (hm : mayD C loops = true) (hs : Shd C s) (c k : Nat) (hc : c < C.length) (hk : k < 4) : s (cor C c ((k + 1) % 4)) = 1 - s (cor C c k) := by
  have h := cor_turn hm hs c ((k + 1) % 4) hc (by omega)
  have e : ((k + 1) % 4 + 3) % 4 = k := by omega
  rw [e] at h
  have a := hs.two (cor C c ((k + 1) % 4))
  omega
theorem SwAt.step {C : List Cr} {loops : Int} {s : Nat → Nat} (hm : mayD C loops = true) (hs : Shd C s) {c k : Nat} {L M : List Int} (h : SwAt C s c k L M) (hc : c < C.length) (hk : k < 4) : SwAt C s c (k + 1) L (swB M (cor C c k) (cor C c ((k + 1) % 4))) := by
  have hx := cor_lt hm c k hc hk
  have hy := cor_lt hm c ((k + 1) % 4) hc (by omega)
  obtain ⟨-, s2, s3, s4⟩ := sw_step h.sd hx hy (cor_next hm hs c k hc hk) (hs.two _)
  refine ⟨s2, fun g hg e => s3 g hg (h.keep g hg e), fun c' k' h1 h2 h3 h4 => ?_⟩
  have hx' := cor_lt hm c' k' h1 h2
  have hy' := cor_lt hm c' ((k' + 1) % 4) h1 (by omega)
  by_cases e : c' = c ∧ k' = k
  · obtain ⟨rfl, rfl⟩ := e
    exact s4 (h4.imp (h.keep _ hx') (h.keep _ hy'))
  · have := h.done c' k' h1 h2 (by omega) h4
    exact ⟨s3 _ hx' this.1, s3 _ hy' this.2⟩
/-- A whole sweep shades a face more, if one is left. -/
theorem SwAt.more {C : List Cr} {loops : Int} {s : Nat → Nat} (hm : mayD C loops = true) (ho : oneB C loops = true) {L M : List Int} (h : SwAt C s C.length 0 L M) (hL : L.length = (facesM C).length) (h0 : L.getD 0 0 ≠ -1) (k : Nat) (hk : uns L ≤ k + 1) : uns M ≤ k := by
  have hle : uns M ≤ uns L := uns_le (by rw [hL, h.sd.1]) (fun g hg => h.keep g (by omega))
  by_cases hlt : uns M < uns L
  · omega
  · -- nothing was shaded: all was
    have heq : ∀ g, g < (facesM C).length → M.getD g 0 ≠ -1 → L.getD g 0 ≠ -1 := by
      have : ∀ (A B : List Int), A.length = B.length → (∀ g, g < A.length → A.getD g 0 ≠ -1 → B.getD g 0 ≠ -1) → uns A ≤ uns B → ∀ g, g < A.length → B.getD g 0 ≠ -1 → A.getD g 0 ≠ -1 := by
        intro A
        induction A with
        | nil => intro B _ _ _ g hg; exact absurd hg (Nat.not_lt_zero _)
        | cons a A ih =>
          intro B hB hk hu g hg hb
          cases B with
          | nil => cases hB
          | cons b B =>
            have hk0 := hk 0 (by simp)
            have hkr : ∀ g, g < A.length → A.getD g 0 ≠ -1 → B.getD g 0 ≠ -1 := fun g hg => by have := hk (g + 1) (by simpa using hg); simpa using this
            have hl : A.length = B.length := by simpa using hB
            have hul := uns_le hl hkr
            unfold uns at hu hul
            rw [List.countP_cons, List.countP_cons] at hu
            simp at hk0
            cases g with
            | zero =>
              simp at hb ⊢
              intro ea
              simp [ea, hb] at hu
              omega
            | succ g =>
              have huu : uns A ≤ uns B := by
                unfold uns
                by_cases ea : a = -1
                · by_cases eb : b = -1
                  · simp [ea, eb] at hu; exact hu
                  · simp [ea, eb] at hu; omega
                · simp [ea, hk0 ea] at hu; exact hu
              have hr := ih B hl hkr huu g (by simpa using hg) (by simpa using hb)
              simpa using hr
      intro g hg
      exact this L M (by rw [hL, h.sd.1]) (fun g hg => h.keep g (by omega)) (by omega) g (by omega)
    have hall : ∀ g, g < (facesM C).length → L.getD g 0 ≠ -1 := by
      refine shd_all hm ho (fun g => L.getD g 0 ≠ -1) h0 (fun j h1 h2 hj => ?_)
      obtain ⟨c, t, hc, ht, e⟩ := fo_cor hm j h1 h2
      have hA := dA_le h1 h2
      have u := en_may hm (dA j) (dB j) hA.1 hA.2
      have ec : fo C j = cor C (enC C (dA j) (dB j)) (enS C (dA j) (dB j)) := by
        unfold cor aAt
        rw [u.2.2.2.1, u.2.2.2.2]
        show fo C j = fo C (mkD ((dA j : Int)).toNat (dB j))
        rw [Int.toNat_natCast, mk_d h1]
      have ea : aAt C (enC C (dA j) (dB j)) (enS C (dA j) (dB j)) = dA j := by
        unfold aAt
        rw [u.2.2.2.1]
        exact Int.toNat_natCast _
      have eb := cor_back hm _ _ u.2.1 u.2.2.1
      rw [ea, u.2.2.2.2] at eb
      have et : fo C (tn j) = cor C (enC C (dA j) (dB j)) ((enS C (dA j) (dB j) + 3) % 4) := eb
      have hd := h.done (enC C (dA j) (dB j)) ((enS C (dA j) (dB j) + 3) % 4) u.2.1 (by omega) (Or.inl u.2.1)
      have e4 : ((enS C (dA j) (dB j) + 3) % 4 + 1) % 4 = enS C (dA j) (dB j) := by have := u.2.2.1; omega
      rw [e4, ← ec, ← et] at hd
      have ht := tn_le h1 h2
      exact heq _ (fo_lt _ ht.1 ht.2) (hd (Or.inr hj)).1
    have hz : uns L = 0 := by
      unfold uns
      rw [List.countP_eq_zero]
      intro z hz
      obtain ⟨g, hg, rfl⟩ := List.mem_iff_getElem.1 hz
      have := hall g (by omega)
      rw [List.getD_eq_getElem?_getD, List.getElem?_eq_getElem hg] at this
      simpa using this
    omega
theorem uns_zero {L : List Int} (h : uns L = 0) (g : Nat) (hg : g < L.length) : L.getD g 0 ≠ -1 := by
  unfold uns at h
  rw [List.countP_eq_zero] at h
  have := h _ (List.getElem_mem hg)
  rw [List.getD_eq_getElem?_getD, List.getElem?_eq_getElem hg]
  simpa using this
theorem sd_all {s : Nat → Nat} {F : Nat} {L : List Int} (h : Sd s F L) (hz : uns L = 0) : L = shL s F := by
  apply List.ext_getElem?
  intro i
  by_cases hi : i < F
  · have h1 := uns_zero hz i (by rw [h.1]; exact hi)
    have e : L[i]? = some (L.getD i 0) := by rw [List.getD_eq_getElem?_getD, List.getElem?_eq_getElem (by rw [h.1]; exact hi)]; rfl
    rw [e]
    rcases h.2 i hi with h2 | h2
    · exact absurd h2 h1
    · rw [h2]
      simp [shL, hi]
  · rw [List.getElem?_eq_none (by rw [h.1]; omega), List.getElem?_eq_none (by simp [shL]; omega)]
end Go.Proofs.Ytagaajlbkfkaiaa

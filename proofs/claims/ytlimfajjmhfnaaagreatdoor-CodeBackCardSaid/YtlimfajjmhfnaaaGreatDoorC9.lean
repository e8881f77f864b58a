/- slices.SortFunc over a row of tellings: its library contract applied. -/
import Derived.Test.YtlimfajjmhfnaaaGreatDoorC4P
import Derived.Test.YtlimfajjmhfnaaaGreatDoorC5P
import Derived.Test.YtlimfajjmhfnaaaGreatDoorTShelf
import Derived.Shelf.SlSortCmp.NoneTotal
import Derived.Sort.OwnSorted
namespace Go.Proofs.YtlimfajjmhfnaaaGreatDoor
open Go.RowKit Go.Sort

theorem lexC_self (a : List Int) : lexC a a = 0 := by
  induction a with
  | nil => rfl
  | cons x s ih => rw [lexC, if_pos rfl, ih]
theorem lexC_zero : ∀ (a b : List Int), lexC a b = 0 → a = b
  | [], [], _ => rfl
  | [], _ :: _, h => by simp [lexC] at h
  | _ :: _, [], h => by simp [lexC] at h
  | x :: s, y :: t, h => by
    rw [lexC] at h
    by_cases e : x = y
    · rw [if_pos e] at h
      rw [e, lexC_zero s t h]
    · rw [if_neg e] at h
      exact absurd (cmpI_zero.1 h) e
theorem lexC_trans : ∀ (a b c : List Int), lexC a b < 0 → lexC b c < 0 → lexC a c < 0
  | [], [], _, h, _ => by simp [lexC] at h
  | [], _ :: _, [], _, h => by simp [lexC] at h
  | [], _ :: _, _ :: _, _, _ => by simp [lexC]
  | _ :: _, [], _, h, _ => by simp [lexC] at h
  | _ :: _, _ :: _, [], _, h => by simp [lexC] at h
  | x :: s, y :: t, z :: u, h1, h2 => by
    rw [lexC] at h1 h2 ⊢
    by_cases e1 : x = y
    · subst e1
      rw [if_pos rfl] at h1
      by_cases e2 : x = z
      · subst e2
        rw [if_pos rfl] at h2 ⊢
        exact lexC_trans s t u h1 h2
      · rw [if_neg e2] at h2 ⊢
        exact h2
    · rw [if_neg e1] at h1
      by_cases e2 : y = z
      · subst e2
        rw [if_neg e1]
        exact h1
      · rw [if_neg e2] at h2
        have g1 := cmpI_lt.1 h1
        have g2 := cmpI_lt.1 h2
        rw [if_neg (by omega)]
        exact cmpI_lt.2 (by omega)
theorem lexC_flip : ∀ (a b : List Int), lexC a b < 0 ∨ lexC a b = 0 ∨ lexC b a < 0
  | [], [] => Or.inr (Or.inl rfl)
  | [], _ :: _ => Or.inl (by simp [lexC])
  | _ :: _, [] => Or.inr (Or.inr (by simp [lexC]))
  | x :: s, y :: t => by
    rw [lexC, lexC]
    by_cases e : x = y
    · subst e
      rw [if_pos rfl, if_pos rfl]
      exact lexC_flip s t
    · rw [if_neg e, if_neg (fun h => e h.symm)]
      rcases Int.lt_or_gt_of_ne e with h | h
      · exact Or.inl (cmpI_lt.2 h)
      · exact Or.inr (Or.inr (cmpI_lt.2 h))
theorem lexC_ntrans (a b c : List Int) (h1 : ¬lexC a b < 0) (h2 : ¬lexC b c < 0) : ¬lexC a c < 0 := by
  intro h3
  rcases lexC_flip a b with g | g | g
  · exact h1 g
  · rw [lexC_zero _ _ g] at h3; exact h2 h3
  · rcases lexC_flip b c with k | k | k
    · exact h2 k
    · rw [← lexC_zero _ _ k] at h3; exact h1 h3
    · have h4 := lexC_trans c b a k g
      have h5 := lexC_trans a c a h3 h4
      rw [lexC_self] at h5
      exact absurd h5 (by decide)
/-- Both numbers of a telling in one list. -/
def keyT (p : List Nat × List Int) : List Int := (p.1.length : Int) :: p.2
theorem cmpT_key (p q : List Nat × List Int) : cmpT p q = lexC (keyT p) (keyT q) := by
  unfold cmpT keyT
  rw [lexC]
  by_cases e : p.1.length = q.1.length
  · rw [if_pos e, if_pos (by omega)]
  · rw [if_neg e, if_neg (by omega)]
theorem swoT (L : Nat → List Nat × List Int) : SWO (ltOf fun x y : Nat => cmpT (L x) (L y)) where
  irrefl x := by simp only [ltOf, cmpT_key, lexC_self]; decide
  trans x y z h1 h2 := by
    simp only [ltOf, cmpT_key, decide_eq_true_eq] at *
    exact lexC_trans _ _ _ h1 h2
  ntrans x y z h1 h2 := by
    simp only [ltOf, cmpT_key, decide_eq_false_iff_not] at *
    exact lexC_ntrans _ _ _ h1 h2
/-- A telling's two cells. -/
def encL (vals : Nat → Value × Value) (x : Nat) : List Value := [(vals x).1, (vals x).2]
/-- The cells of tellings, one behind the other. -/
def tvs (vals : Nat → Value × Value) (l : List Nat) : List Value := l.flatMap (encL vals)
theorem tvs_len (vals : Nat → Value × Value) (l : List Nat) : (tvs vals l).length = l.length * 2 := by
  induction l with
  | nil => rfl
  | cons x l ih => simp [tvs, encL] at *; omega
theorem tvs_get (vals : Nat → Value × Value) (l : List Nat) (i : Nat) (hi : i < l.length) : (tvs vals l)[i * 2]? = some (vals (l.getD i 0)).1 ∧ (tvs vals l)[i * 2 + 1]? = some (vals (l.getD i 0)).2 := by
  induction l generalizing i with
  | nil => simp at hi
  | cons t l ih =>
    cases i with
    | zero => simp [tvs, encL]
    | succ i =>
      have := ih i (by simpa using hi)
      simp only [tvs, List.flatMap_cons] at this ⊢
      rw [List.getElem?_append_right (by simp [encL]; omega), List.getElem?_append_right (by simp [encL]; omega)]
      simpa [encL, show (i + 1) * 2 - 2 = i * 2 by omega, show (i + 1) * 2 + 1 - 2 = i * 2 + 1 by omega] using this
theorem flatK_tvs (vals : Nat → Value × Value) (d : Array Nat) : (flatK (encL vals) 2 d).toList = tvs vals d.toList := by
  apply List.ext_getElem?
  intro t
  by_cases ht : t < d.size * 2
  · have hi : t / 2 < d.toList.length := by simp; omega
    have g := tvs_get vals d.toList (t / 2) hi
    have e0 : (flatK (encL vals) 2 d)[t]! = (encL vals d[t / 2]!)[t % 2]! := get_flatK (encL vals) 2 d t ht
    have hsz : t < (flatK (encL vals) 2 d).size := by simpa using ht
    have gd : d.toList.getD (t / 2) 0 = d[t / 2]! := by
      have : t / 2 < d.size := by omega
      simp [List.getD, this]
    rw [Array.getElem?_toList, Array.getElem?_eq_getElem hsz]
    rw [getElem!_pos _ t hsz] at e0
    rw [e0]
    rcases Nat.mod_two_eq_zero_or_one t with h | h
    · have h2 : t / 2 * 2 = t := by omega
      rw [h2] at g
      rw [h, g.1, gd]
      rfl
    · have h2 : t / 2 * 2 + 1 = t := by omega
      rw [h2] at g
      rw [h, g.2, gd]
      rfl
  · rw [List.getElem?_eq_none (by simp; omega), List.getElem?_eq_none (by rw [tvs_len]; simp; omega)]
theorem holds_tell {w : World} {g : Nat} {cur : Array Value} {e : TypeId} (vals : Nat → Value × Value) {l : List Nat} (hb : w.heap[g]? = some (.cells cur e (0, 0))) (ht : cur.toList.take (l.length * 2) = tvs vals l) : HoldsK (encL vals) 2 w g 0 l.toArray := by
  intro j hj
  have hj' : j < l.length * 2 := by simpa using hj
  have hl : (flatK (encL vals) 2 l.toArray).toList = tvs vals l := flatK_tvs vals l.toArray
  refine ⟨?_, by simp [World.frozen?, hb]⟩
  have h1 : cur.toList[j]? = (flatK (encL vals) 2 l.toArray).toList[j]? := by rw [hl, ← ht, List.getElem?_take_of_lt hj']
  rw [Array.getElem?_toList, Array.getElem?_toList, Array.getElem?_eq_getElem hj] at h1
  unfold World.cell?
  rw [hb]
  simp only [Nat.zero_add, Option.isSome_none, Bool.false_eq_true, if_false]
  rw [h1, getElem!_pos _ j hj]
  rfl
theorem heap_tell {w : World} {g n : Nat} {os : Array Obj} {cur : Array Value} {e : TypeId} (vals : Nat → Value × Value) (d : Array Nat) (hb : w.heap[g]? = some (.cells cur e (0, 0))) :
    (sortWorldK (encL vals) 2 w g 0 n d os).heap[g]? = some (.cells (putCells id 0 (flatK (encL vals) 2 d) cur) e (0, 0)) := by
  have hg : g < w.heap.size := (Array.getElem?_eq_some_iff.1 hb).1
  unfold sortWorldK putRowK
  rw [heap_grow_old _ _ (by simpa using hg)]
  simp [putRow, mapBlock, Sort.ahead, Array.getElem?_modify, hb, onCells]
theorem grown_tell {w : World} {g n : Nat} {os : Array Obj} (vals : Nat → Value × Value) (d : Array Nat) : w.grownBy (sortWorldK (encL vals) 2 w g 0 n d os) (some g) := by
  refine ⟨rfl, rfl, rfl, by simp [sortWorldK, putRowK], fun k hk hne => ?_⟩
  unfold sortWorldK putRowK
  rw [heap_grow_old _ _ (by simpa using hk)]
  have : g ≠ k := fun e => hne (by rw [e])
  simp [putRow, mapBlock, Sort.ahead, Array.getElem?_modify, this]
theorem take_tell (vals : Nat → Value × Value) (cur : Array Value) (d : Array Nat) (h : d.size * 2 ≤ cur.size) : (putCells id 0 (flatK (encL vals) 2 d) cur).toList.take (d.size * 2) = tvs vals d.toList := by
  rw [← flatK_tvs]
  apply List.ext_getElem?
  intro j
  by_cases hj : j < d.size * 2
  · rw [List.getElem?_take_of_lt hj, Array.getElem?_toList, Array.getElem?_toList]
    have h2 : j < (flatK (encL vals) 2 d).size := by simpa using hj
    rw [Array.getElem?_eq_getElem h2]
    simp only [putCells, Nat.zero_le, Nat.zero_add, true_and, Nat.sub_zero, Array.getElem?_mapIdx, Array.getElem?_eq_getElem (show j < cur.size by omega), Option.map_some, if_pos h2]
    rw [getElem!_pos _ j h2]
    rfl
  · rw [List.getElem?_take_eq_none (by omega), List.getElem?_eq_none (by simp; omega)]

/-- None is less than one ahead of it. -/
def SortedT (L : Nat → List Nat × List Int) (σ : List Nat) : Prop := σ.Pairwise (fun x y => ¬cmpT (L y) (L x) < 0)

set_option maxHeartbeats 2000000 in
set_option maxRecDepth 100000 in
theorem sortT_any (B B' gL n : Nat) (vals : Nat → Value × Value) (L : Nat → List Nat × List Int) (w : World) (hn : n ≤ 1000) (hrow : w.ownsRow B 91 2 (.slice (some ⟨gL, 0, none⟩) n n) n (tvs vals (List.range n)))
    (hord : ∀ p, w.ownsRow B' 3 1 (vals p).1 (L p).1.length (nats (L p).1)) (hcod : ∀ p, w.ownsRow B' 3 1 (vals p).2 (L p).2.length (intsV (L p).2)) (hlen : ∀ p, (L p).2.length ≤ 1000) :
    Calls Tryz.prog 54 #[.slice (some ⟨gL, 0, none⟩) n n, .func (.func 53) #[] #[]] w fun e w' => e = .returned (.tuple #[]) ∧ ∃ σ : List Nat, σ.Perm (List.range n) ∧ SortedT L σ ∧ w'.ownsRow B 91 2 (.slice (some ⟨gL, 0, none⟩) n n) n (tvs vals σ) ∧ w.grownBy w' (some gL) := by
  rcases hrow.2 with ⟨hv, _⟩ | ⟨g, cap, cur, hv, hbase, hb, h1, h2, h3, h4⟩
  · cases hv
  injection hv with e1 e2 e3
  injection e1 with e1
  injection e1 with e1
  subst e1 e3
  have eg : ∀ args w, (callFunc 53 args).run Tryz.prog w = .ok (.enter 53 args) w := enters_of Tryz.func53 (by kernel_rfl) rfl
  have hgl : gL < w.heap.size := (Array.getElem?_eq_some_iff.1 hb).1
  have hone : ∀ x, ∀ v ∈ encL vals x, v.oneCell' = true := fun x v hv => by
    simp only [encL, List.mem_cons, List.not_mem_nil, or_false] at hv
    obtain ⟨a1, c1, q1⟩ := own_capS (hord x)
    obtain ⟨a2, c2, q2⟩ := own_capS (hcod x)
    rcases hv with rfl | rfl
    · rw [q1]; rfl
    · rw [q2]; rfl
  have hcmp : CmpLays Tryz.prog 53 #[] (encL vals) 2 (fun x y => cmpT (L x) (L y)) gL 0 (List.range n).toArray.size w := fun m os dk hs x y => by
    have hg := grown_tell (w := w) (g := gL) (n := m) (os := os) vals dk
    have hk : ∀ p, (sortWorldK (encL vals) 2 w gL 0 m dk os).ownsRow B' 3 1 (vals p).2 (L p).2.length (intsV (L p).2) := fun p => (hcod p).kept hg (Or.inr (boxNe (hcod p) hb (by decide)))
    have h := compareT_any (vals x).1 (vals x).2 (vals y).1 (vals y).2 (L x) (L y) (sortWorldK (encL vals) 2 w gL 0 m dk os) (hlen x) (hlen y) (own_capS (hord x)) (own_capS (hord y)) (slots_of_own (hk x)) (slots_of_own (hk y))
    refine h.mono ?_
    rintro e w' ⟨rfl, rfl⟩
    exact ⟨rfl, 0, _, by rw [alloc_eq_grow, alloc_eq_grow, grow_grow]; rfl⟩
  have hcon := AnyQ.slices_SortFunc Tryz.sortTell 2 Tryz.isAgg91 Tryz.sizeOf91 (encL vals) (fun _ => rfl) hone (fun x y => cmpT (L x) (L y)) (swoT L) 53 #[] gL 0 n (List.range n).toArray w eg hcmp (holds_tell vals hb (by simpa using h4)) hgl (by simp; omega)
  change Calls Tryz.prog 54 _ _ _ at hcon
  rw [List.size_toArray, List.length_range] at hcon
  refine hcon.mono ?_
  rintro e w' ⟨rfl, d', m, os, ⟨hsz, _, hperm⟩, hsort, rfl⟩
  have hsz' : d'.size = n := by simpa using hsz
  have hp : d'.toList.Perm (List.range n) := by
    have q1 : d'.extract 0 n = d' := by rw [← hsz']; simp
    have q2 : (List.range n).toArray.extract 0 n = (List.range n).toArray := by simp
    rw [q1, q2] at hperm
    simpa using hperm
  refine ⟨rfl, d'.toList, hp, ?_, ?_, grown_tell vals d'⟩
  · unfold SortedT
    rw [List.pairwise_iff_getElem]
    intro i j hi hj hij
    have hi' : i < d'.size := by simpa using hi
    have hj' : j < d'.size := by simpa using hj
    have := hsort i j (Nat.zero_le _) hij (by omega)
    simp only [ltOf, decide_eq_false_iff_not] at this
    rw [getElem!_pos d' j hj', getElem!_pos d' i hi'] at this
    simpa using this
  · have hg := heap_tell (n := m) (os := os) vals d' hb
    refine ⟨by rw [tvs_len]; simp [hsz'], Or.inr ⟨gL, n, _, rfl, hbase, hg, h1, h2, ?_, ?_⟩⟩
    · simp [putCells, h3]
    · have := take_tell vals cur d' (by rw [hsz', h3]; omega)
      rw [hsz'] at this
      exact this
end Go.Proofs.YtlimfajjmhfnaaaGreatDoor

/- Several texts of the proof, one behind the other. -/
import Derived.Test.YtagaajlbkfkaiaaJ1P
import Derived.Test.YtagaajlbkfkaiaaC5P
import Derived.Test.YtagaajlbkfkaiaaTShelf
import Derived.Shelf.SlSortCmp.NoneTotal
import Derived.Sort.OwnSorted
import Derived.Test.YtagaajlbkfkaiaaF7P
import Derived.Test.YtagaajlbkfkaiaaS2P
import Derived.Test.YtagaajlbkfkaiaaF2P
/- slices.SortFunc over a row of tellings: its library contract applied. -/
namespace Go.Proofs.Ytagaajlbkfkaiaa
open Go.RowKit Go.Sort

theorem lexC_self (a : List Int) : lexC a a = 0 := by
  induction a with
  | nil => rfl
  | cons x s ih => rw [lexC, if_pos rfl, ih]
theorem lexC_zero : ∀ (a b : List Int), lexC a b = 0 → a = b
  | [], [], _ => rfl
  | [], _ :: _, h => by simp [lexC] at h
  | _ :: _, [], h => by simp [lexC] at h
  | x :: s, y :: t, h => by
    rw [lexC] at h
    by_cases e : x = y
    · rw [if_pos e] at h
      rw [e, lexC_zero s t h]
    · rw [if_neg e] at h
      exact absurd (cmpI_zero.1 h) e
theorem lexC_trans : ∀ (a b c : List Int), lexC a b < 0 → lexC b c < 0 → lexC a c < 0
  | [], [], _, h, _ => by simp [lexC] at h
  | [], _ :: _, [], _, h => by simp [lexC] at h
  | [], _ :: _, _ :: _, _, _ => by simp [lexC]
  | _ :: _, [], _, h, _ => by simp [lexC] at h
  | _ :: _, _ :: _, [], _, h => by simp [lexC] at h
  | x :: s, y :: t, z :: u, h1, h2 => by
    rw [lexC] at h1 h2 ⊢
    by_cases e1 : x = y
    · subst e1
      rw [if_pos rfl] at h1
      by_cases e2 : x = z
      · subst e2
        rw [if_pos rfl] at h2 ⊢
        exact lexC_trans s t u h1 h2
      · rw [if_neg e2] at h2 ⊢
        exact h2
    · rw [if_neg e1] at h1
      by_cases e2 : y = z
      · subst e2
        rw [if_neg e1]
        exact h1
      · rw [if_neg e2] at h2
        have g1 := cmpI_lt.1 h1
        have g2 := cmpI_lt.1 h2
        rw [if_neg (by omega)]
        exact cmpI_lt.2 (by omega)
theorem lexC_flip : ∀ (a b : List Int), lexC a b < 0 ∨ lexC a b = 0 ∨ lexC b a < 0
  | [], [] => Or.inr (Or.inl rfl)
  | [], _ :: _ => Or.inl (by simp [lexC])
  | _ :: _, [] => Or.inr (Or.inr (by simp [lexC]))
  | x :: s, y :: t => by
    rw [lexC, lexC]
    by_cases e : x = y
    · subst e
      rw [if_pos rfl, if_pos rfl]
      exact lexC_flip s t
    · rw [if_neg e, if_neg (fun h => e h.symm)]
      rcases Int.lt_or_gt_of_ne e with h | h
      · exact Or.inl (cmpI_lt.2 h)
      · exact Or.inr (Or.inr (cmpI_lt.2 h))
theorem lexC_ntrans (a b c : List Int) (h1 : ¬lexC a b < 0) (h2 : ¬lexC b c < 0) : ¬lexC a c < 0 := by
  intro h3
  rcases lexC_flip a b with g | g | g
  · exact h1 g
  · rw [lexC_zero _ _ g] at h3; exact h2 h3
  · rcases lexC_flip b c with k | k | k
    · exact h2 k
    · rw [← lexC_zero _ _ k] at h3; exact h1 h3
    · have h4 := lexC_trans c b a k g
      have h5 := lexC_trans a c a h3 h4
      rw [lexC_self] at h5
      exact absurd h5 (by decide)
/-- Both numbers of a telling in one list. -/
def keyT (p : List Nat × List Int) : List Int := (p.1.length : Int) :: p.2
theorem cmpT_key (p q : List Nat × List Int) : cmpT p q = lexC (keyT p) (keyT q) := by
  unfold cmpT keyT
  rw [lexC]
  by_cases e : p.1.length = q.1.length
  · rw [if_pos e, if_pos (by omega)]
  · rw [if_neg e, if_neg (by omega)]
theorem swoT (L : Nat → List Nat × List Int) : SWO (ltOf fun x y : Nat => cmpT (L x) (L y)) where
  irrefl x := by simp only [ltOf, cmpT_key, lexC_self]; decide
  trans x y z h1 h2 := by
    simp only [ltOf, cmpT_key, decide_eq_true_eq] at *
    exact lexC_trans _ _ _ h1 h2
  ntrans x y z h1 h2 := by
    simp only [ltOf, cmpT_key, decide_eq_false_iff_not] at *
    exact lexC_ntrans _ _ _ h1 h2
/-- A telling's two cells. -/
def encL (vals : Nat → Value × Value) (x : Nat) : List Value := [(vals x).1, (vals x).2]
/-- The cells of tellings, one behind the other. -/
def tvs (vals : Nat → Value × Value) (l : List Nat) : List Value := l.flatMap (encL vals)
theorem tvs_len (vals : Nat → Value × Value) (l : List Nat) : (tvs vals l).length = l.length * 2 := by
  induction l with
  | nil => rfl
  | cons x l ih => simp [tvs, encL] at *; omega
theorem tvs_get (vals : Nat → Value × Value) (l : List Nat) (i : Nat) (hi : i < l.length) : (tvs vals l)[i * 2]? = some (vals (l.getD i 0)).1 ∧ (tvs vals l)[i * 2 + 1]? = some (vals (l.getD i 0)).2 := by
  induction l generalizing i with
  | nil => simp at hi
  | cons t l ih =>
    cases i with
    | zero => simp [tvs, encL]
    | succ i =>
      have := ih i (by simpa using hi)
      simp only [tvs, List.flatMap_cons] at this ⊢
      rw [List.getElem?_append_right (by simp [encL]; omega), List.getElem?_append_right (by simp [encL]; omega)]
      simpa [encL, show (i + 1) * 2 - 2 = i * 2 by omega, show (i + 1) * 2 + 1 - 2 = i * 2 + 1 by omega] using this
theorem flatK_tvs (vals : Nat → Value × Value) (d : Array Nat) : (flatK (encL vals) 2 d).toList = tvs vals d.toList := by
  apply List.ext_getElem?
  intro t
  by_cases ht : t < d.size * 2
  · have hi : t / 2 < d.toList.length := by simp; omega
    have g := tvs_get vals d.toList (t / 2) hi
    have e0 : (flatK (encL vals) 2 d)[t]! = (encL vals d[t / 2]!)[t % 2]! := get_flatK (encL vals) 2 d t ht
    have hsz : t < (flatK (encL vals) 2 d).size := by simpa using ht
    have gd : d.toList.getD (t / 2) 0 = d[t / 2]! := by
      have : t / 2 < d.size := by omega
      simp [List.getD, this]
    rw [Array.getElem?_toList, Array.getElem?_eq_getElem hsz]
    rw [getElem!_pos _ t hsz] at e0
    rw [e0]
    rcases Nat.mod_two_eq_zero_or_one t with h | h
    · have h2 : t / 2 * 2 = t := by omega
      rw [h2] at g
      rw [h, g.1, gd]
      rfl
    · have h2 : t / 2 * 2 + 1 = t := by omega
      rw [h2] at g
      rw [h, g.2, gd]
      rfl
  · rw [List.getElem?_eq_none (by simp; omega), List.getElem?_eq_none (by rw [tvs_len]; simp; omega)]
theorem holds_tell {w : World} {g : Nat} {cur : Array Value} {e : TypeId} (vals : Nat → Value × Value) {l : List Nat} (hb : w.heap[g]? = some (.cells cur e (0, 0))) (ht : cur.toList.take (l.length * 2) = tvs vals l) : HoldsK (encL vals) 2 w g 0 l.toArray := by
  intro j hj
  have hj' : j < l.length * 2 := by simpa using hj
  have hl : (flatK (encL vals) 2 l.toArray).toList = tvs vals l := flatK_tvs vals l.toArray
  refine ⟨?_, by simp [World.frozen?, hb]⟩
  have h1 : cur.toList[j]? = (flatK (encL vals) 2 l.toArray).toList[j]? := by rw [hl, ← ht, List.getElem?_take_of_lt hj']
  rw [Array.getElem?_toList, Array.getElem?_toList, Array.getElem?_eq_getElem hj] at h1
  unfold World.cell?
  rw [hb]
  simp only [Nat.zero_add, Option.isSome_none, Bool.false_eq_true, if_false]
  rw [h1, getElem!_pos _ j hj]
  rfl
theorem heap_tell {w : World} {g n : Nat} {os : Array Obj} {cur : Array Value} {e : TypeId} (vals : Nat → Value × Value) (d : Array Nat) (hb : w.heap[g]? = some (.cells cur e (0, 0))) :
    (sortWorldK (encL vals) 2 w g 0 n d os).heap[g]? = some (.cells (putCells id 0 (flatK (encL vals) 2 d) cur) e (0, 0)) := by
  have hg : g < w.heap.size := (Array.getElem?_eq_some_iff.1 hb).1
  unfold sortWorldK putRowK
  rw [heap_grow_old _ _ (by simpa using hg)]
  simp [putRow, mapBlock, Sort.ahead, Array.getElem?_modify, hb, onCells]
theorem grown_tell {w : World} {g n : Nat} {os : Array Obj} (vals : Nat → Value × Value) (d : Array Nat) : w.grownBy (sortWorldK (encL vals) 2 w g 0 n d os) (some g) := by
  refine ⟨rfl, rfl, rfl, by simp [sortWorldK, putRowK], fun k hk hne => ?_⟩
  unfold sortWorldK putRowK
  rw [heap_grow_old _ _ (by simpa using hk)]
  have : g ≠ k := fun e => hne (by rw [e])
  simp [putRow, mapBlock, Sort.ahead, Array.getElem?_modify, this]
theorem take_tell (vals : Nat → Value × Value) (cur : Array Value) (d : Array Nat) (h : d.size * 2 ≤ cur.size) : (putCells id 0 (flatK (encL vals) 2 d) cur).toList.take (d.size * 2) = tvs vals d.toList := by
  rw [← flatK_tvs]
  apply List.ext_getElem?
  intro j
  by_cases hj : j < d.size * 2
  · rw [List.getElem?_take_of_lt hj, Array.getElem?_toList, Array.getElem?_toList]
    have h2 : j < (flatK (encL vals) 2 d).size := by simpa using hj
    rw [Array.getElem?_eq_getElem h2]
    simp only [putCells, Nat.zero_le, Nat.zero_add, true_and, Nat.sub_zero, Array.getElem?_mapIdx, Array.getElem?_eq_getElem (show j < cur.size by omega), Option.map_some, if_pos h2]
    rw [getElem!_pos _ j h2]
    rfl
  · rw [List.getElem?_take_eq_none (by omega), List.getElem?_eq_none (by simp; omega)]

/-- None is less than one ahead of it. -/
def SortedT (L : Nat → List Nat × List Int) (σ : List Nat) : Prop := σ.Pairwise (fun x y => ¬cmpT (L y) (L x) < 0)

set_option maxHeartbeats 2000000 in
set_option maxRecDepth 100000 in
theorem sortT_any (B B' gL n : Nat) (vals : Nat → Value × Value) (L : Nat → List Nat × List Int) (w : World) (hn : n ≤ 1000) (hrow : w.ownsRow B 148 2 (.slice (some ⟨gL, 0, none⟩) n n) n (tvs vals (List.range n)))
    (hord : ∀ p, w.ownsRow B' 3 1 (vals p).1 (L p).1.length (nats (L p).1)) (hcod : ∀ p, w.ownsRow B' 3 1 (vals p).2 (L p).2.length (intsV (L p).2)) (hlen : ∀ p, (L p).2.length ≤ 1000) :
    Calls Try.prog 121 #[.slice (some ⟨gL, 0, none⟩) n n, .func (.func 120) #[] #[]] w fun e w' => e = .returned (.tuple #[]) ∧ ∃ σ : List Nat, σ.Perm (List.range n) ∧ SortedT L σ ∧ w'.ownsRow B 148 2 (.slice (some ⟨gL, 0, none⟩) n n) n (tvs vals σ) ∧ w.grownBy w' (some gL) := by
  rcases hrow.2 with ⟨hv, _⟩ | ⟨g, cap, cur, hv, hbase, hb, h1, h2, h3, h4⟩
  · cases hv
  injection hv with e1 e2 e3
  injection e1 with e1
  injection e1 with e1
  subst e1 e3
  have eg : ∀ args w, (callFunc 120 args).run Try.prog w = .ok (.enter 120 args) w := enters_of Try.func120 (by kernel_rfl) rfl
  have hgl : gL < w.heap.size := (Array.getElem?_eq_some_iff.1 hb).1
  have hone : ∀ x, ∀ v ∈ encL vals x, v.oneCell' = true := fun x v hv => by
    simp only [encL, List.mem_cons, List.not_mem_nil, or_false] at hv
    obtain ⟨a1, c1, q1⟩ := own_capS (hord x)
    obtain ⟨a2, c2, q2⟩ := own_capS (hcod x)
    rcases hv with rfl | rfl
    · rw [q1]; rfl
    · rw [q2]; rfl
  have hcmp : CmpLays Try.prog 120 #[] (encL vals) 2 (fun x y => cmpT (L x) (L y)) gL 0 (List.range n).toArray.size w := fun m os dk hs x y => by
    have hg := grown_tell (w := w) (g := gL) (n := m) (os := os) vals dk
    have hk : ∀ p, (sortWorldK (encL vals) 2 w gL 0 m dk os).ownsRow B' 3 1 (vals p).2 (L p).2.length (intsV (L p).2) := fun p => (hcod p).kept hg (Or.inr (boxNe (hcod p) hb (by decide)))
    have h := compareT_any (vals x).1 (vals x).2 (vals y).1 (vals y).2 (L x) (L y) (sortWorldK (encL vals) 2 w gL 0 m dk os) (hlen x) (hlen y) (own_capS (hord x)) (own_capS (hord y)) (slots_of_own (hk x)) (slots_of_own (hk y))
    refine h.mono ?_
    rintro e w' ⟨rfl, rfl⟩
    exact ⟨rfl, 0, _, by rw [alloc_eq_grow, alloc_eq_grow, grow_grow]; rfl⟩
  have hcon := AnyQ.slices_SortFunc Try.sortTell 2 Try.isAgg148 Try.sizeOf148 (encL vals) (fun _ => rfl) hone (fun x y => cmpT (L x) (L y)) (swoT L) 120 #[] gL 0 n (List.range n).toArray w eg hcmp (holds_tell vals hb (by simpa using h4)) hgl (by simp; omega)
  change Calls Try.prog 121 _ _ _ at hcon
  rw [List.size_toArray, List.length_range] at hcon
  refine hcon.mono ?_
  rintro e w' ⟨rfl, d', m, os, ⟨hsz, _, hperm⟩, hsort, rfl⟩
  have hsz' : d'.size = n := by simpa using hsz
  have hp : d'.toList.Perm (List.range n) := by
    have q1 : d'.extract 0 n = d' := by rw [← hsz']; simp
    have q2 : (List.range n).toArray.extract 0 n = (List.range n).toArray := by simp
    rw [q1, q2] at hperm
    simpa using hperm
  refine ⟨rfl, d'.toList, hp, ?_, ?_, grown_tell vals d'⟩
  · unfold SortedT
    rw [List.pairwise_iff_getElem]
    intro i j hi hj hij
    have hi' : i < d'.size := by simpa using hi
    have hj' : j < d'.size := by simpa using hj
    have := hsort i j (Nat.zero_le _) hij (by omega)
    simp only [ltOf, decide_eq_false_iff_not] at this
    rw [getElem!_pos d' j hj', getElem!_pos d' i hi'] at this
    simpa using this
  · have hg := heap_tell (n := m) (os := os) vals d' hb
    refine ⟨by rw [tvs_len]; simp [hsz'], Or.inr ⟨gL, n, _, rfl, hbase, hg, h1, h2, ?_, ?_⟩⟩
    · simp [putCells, h3]
    · have := take_tell vals cur d' (by rw [hsz', h3]; omega)
      rw [hsz'] at this
      exact this
end Go.Proofs.Ytagaajlbkfkaiaa
/- The walk of canon.leastTellings. -/
namespace Go.Proofs.Ytagaajlbkfkaiaa
open Go.RowKit

/-- Of a piece the least telling among the first k crossings; none: empty lists. -/
def leT (C : List Cr) (P : List Int) (p : Nat) : Nat → List Nat × List Int
  | 0 => ([], [])
  | k + 1 => if P.getD k 0 = (p : Int) ∧ ((leT C P p k).1 = [] ∨ cmpT (te C k) (leT C P p k) < 0) then te C k else leT C P p k
theorem leT_other {C : List Cr} {P : List Int} {p k : Nat} (h : P.getD k 0 ≠ (p : Int)) : leT C P p (k + 1) = leT C P p k := by
  rw [leT, if_neg (fun e => h e.1)]
theorem leT_put {C : List Cr} {P : List Int} {p k : Nat} (hp : P.getD k 0 = (p : Int)) (h : (leT C P p k).1 = [] ∨ cmpT (te C k) (leT C P p k) < 0) : (fun q => if q = p then te C k else leT C P q k) = fun q => leT C P q (k + 1) := by
  funext q
  by_cases e : q = p
  · subst e; rw [if_pos rfl, leT, if_pos ⟨hp, h⟩]
  · rw [if_neg e, leT_other (by omega)]
theorem leT_keep {C : List Cr} {P : List Int} {p k : Nat} (hp : P.getD k 0 = (p : Int)) (h : ¬((leT C P p k).1 = [] ∨ cmpT (te C k) (leT C P p k) < 0)) : (fun q => leT C P q k) = fun q => leT C P q (k + 1) := by
  funext q
  by_cases e : q = p
  · subst e; rw [leT, if_neg (fun x => h x.2)]
  · rw [leT_other (by omega)]
theorem leT_len {C : List Cr} {loops : Int} (hm : mayD C loops = true) (P : List Int) (p k : Nat) : (leT C P p k).2.length ≤ 1000 := by
  induction k with
  | zero => simp [leT]
  | succ k ih =>
    rw [leT]
    split
    · have h := teI_len C k C.length
      obtain ⟨s1, -, -, -⟩ := sizeB_iff (may_size hm)
      unfold te
      omega
    · exact ih
theorem made_tell (n : Nat) : (madeCells (Value.agg #[.slice none 0 0, .slice none 0 0]).cells (n * 2)).toList = tvs (fun _ => (.slice none 0 0, .slice none 0 0)) (List.range n) := by
  have e : (Value.agg #[.slice none 0 0, .slice none 0 0]).cells = #[Value.slice none 0 0, .slice none 0 0] := rfl
  rw [e]
  apply List.ext_getElem?
  intro t
  by_cases ht : t < n * 2
  · have g := tvs_get (fun _ => (.slice none 0 0, .slice none 0 0)) (List.range n) (t / 2) (by simp; omega)
    rcases Nat.mod_two_eq_zero_or_one t with h | h
    · have h2 : t / 2 * 2 = t := by omega
      rw [h2] at g
      rw [g.1]
      simp [madeCells, ht, h]
    · have h2 : t / 2 * 2 + 1 = t := by omega
      rw [h2] at g
      rw [g.2]
      simp [madeCells, ht, h]
  · rw [List.getElem?_eq_none (by simp [madeCells]; omega), List.getElem?_eq_none (by rw [tvs_len]; simp; omega)]
theorem tvs_set (vals : Nat → Value × Value) (n p : Nat) (hp : p < n) (a b : Value) : ((tvs vals (List.range n)).set (p * 2) a).set (p * 2 + 1) b = tvs (fun q => if q = p then (a, b) else vals q) (List.range n) := by
  apply List.ext_getElem?
  intro t
  by_cases ht : t < n * 2
  · have g := tvs_get vals (List.range n) (t / 2) (by simp; omega)
    have g' := tvs_get (fun q => if q = p then (a, b) else vals q) (List.range n) (t / 2) (by simp; omega)
    have gd : (List.range n).getD (t / 2) 0 = t / 2 := by simp [List.getD, show t / 2 < n by omega]
    rw [gd] at g g'
    have hl : (tvs vals (List.range n)).length = n * 2 := by rw [tvs_len]; simp
    rcases Nat.mod_two_eq_zero_or_one t with h | h
    · have h2 : t / 2 * 2 = t := by omega
      rw [h2] at g g'
      rw [g'.1, List.getElem?_set_ne (by omega)]
      by_cases e : t / 2 = p
      · rw [if_pos e, List.getElem?_set, if_pos (by omega), if_pos (by omega)]
      · rw [if_neg e, List.getElem?_set_ne (by omega), g.1]
    · have h2 : t / 2 * 2 + 1 = t := by omega
      rw [h2] at g g'
      rw [g'.2]
      by_cases e : t / 2 = p
      · rw [if_pos e, List.getElem?_set, if_pos (by omega), if_pos (by simp; omega)]
      · rw [if_neg e, List.getElem?_set_ne (by omega), List.getElem?_set_ne (by omega), g.2]
  · rw [List.getElem?_eq_none (by simp [tvs_len]; omega), List.getElem?_eq_none (by rw [tvs_len]; simp; omega)]
theorem infoTell : (Try.prog.info? 148).map (fun i => (i.zero, i.size, i.bytes)) = some (some (.agg #[.slice none 0 0, .slice none 0 0]), 2, 48) := by kernel_rfl
/-- The row of tellings under way: the lists lie in blocks of their own. -/
structure LsAt (B gL n : Nat) (vals : Nat → Value × Value) (L : Nat → List Nat × List Int) (W : World) : Prop where
  row : W.ownsRow B 148 2 (.slice (some ⟨gL, 0, none⟩) n n) n (tvs vals (List.range n))
  ord : ∀ p, W.ownsRow B 3 1 (vals p).1 (L p).1.length (nats (L p).1)
  cod : ∀ p, W.ownsRow B 3 1 (vals p).2 (L p).2.length (intsV (L p).2)
theorem LsAt.any {B gL n : Nat} {vals : Nat → Value × Value} {L : Nat → List Nat × List Int} {W W' : World} (h : LsAt B gL n vals L W) (hg : W.grownBy W' none) : LsAt B gL n vals L W' :=
  ⟨own_any h.row hg, fun p => own_any (h.ord p) hg, fun p => own_any (h.cod p) hg⟩
theorem LsAt.cells {B gL n : Nat} {vals : Nat → Value × Value} {L : Nat → List Nat × List Int} {W : World} (h : LsAt B gL n vals L W) {p : Nat} (hp : p < n) : W.cell? ⟨gL, p * 2, none⟩ = some (vals p).1 ∧ W.cell? ⟨gL, p * 2 + 1, none⟩ = some (vals p).2 ∧ gL < W.heap.size := by
  have g := tvs_get vals (List.range n) p (by simpa using hp)
  have gd : (List.range n).getD p 0 = p := by simp [List.getD, hp]
  rw [gd] at g
  exact ⟨(h.row.cellAt (p * 2) (by omega)).trans g.1, (h.row.cellAt (p * 2 + 1) (by omega)).trans g.2, (h.row.lt gL rfl).2⟩
theorem LsAt.set {B gL n p : Nat} {vals : Nat → Value × Value} {L : Nat → List Nat × List Int} {W : World} {a b : Value} {t : List Nat × List Int} (h : LsAt B gL n vals L W) (hp : p < n) (ho : W.ownsRow B 3 1 a t.1.length (nats t.1)) (hc : W.ownsRow B 3 1 b t.2.length (intsV t.2)) :
    LsAt B gL n (fun q => if q = p then (a, b) else vals q) (fun q => if q = p then t else L q) ((W.setCell ⟨gL, p * 2, none⟩ a).setCell ⟨gL, p * 2 + 1, none⟩ b) ∧ W.grownBy ((W.setCell ⟨gL, p * 2, none⟩ a).setCell ⟨gL, p * 2 + 1, none⟩ b) (some gL) := by
  have hG : W.grownBy ((W.setCell ⟨gL, p * 2, none⟩ a).setCell ⟨gL, p * 2 + 1, none⟩ b) (some gL) := grown_trans (set_grown _ _ _ _) (set_grown _ _ _ _)
  have hr := ((h.row.stored (p * 2) a).1.stored (p * 2 + 1) b).1
  rw [tvs_set vals n p hp] at hr
  have hne : ∀ {v : Value} {k : Nat} {xs : List Value}, W.ownsRow B 3 1 v k xs → v.ownBlock = none ∨ v.ownBlock ≠ some gL := fun hv => by
    have := own_ne hv h.row (by decide)
    exact this
  refine ⟨⟨hr, fun q => ?_, fun q => ?_⟩, hG⟩
  · by_cases e : q = p
    · simp only [if_pos e]; exact ho.kept hG (hne ho)
    · simp only [if_neg e]; exact (h.ord q).kept hG (hne (h.ord q))
  · by_cases e : q = p
    · simp only [if_pos e]; exact hc.kept hG (hne hc)
    · simp only [if_neg e]; exact (h.cod q).kept hG (hne (h.cod q))

/-- What canon.leastTellings hands back: of each piece its least telling, in order. -/
def LeastOut (C : List Cr) (w : World) (e : Ending) (w' : World) : Prop := ∃ (gL n : Nat) (P : List Int) (vals : Nat → Value × Value) (σ : List Nat), e = .returned (.slice (some ⟨gL, 0, none⟩) n n) ∧ PcsAll C P n ∧ σ.Perm (List.range n) ∧ SortedT (fun p => leT C P p C.length) σ ∧ w'.ownsRow w.heap.size 148 2 (.slice (some ⟨gL, 0, none⟩) n n) n (tvs vals σ) ∧ (∀ p, w'.ownsRow w.heap.size 3 1 (vals p).1 (leT C P p C.length).1.length (nats (leT C P p C.length).1)) ∧ (∀ p, ∃ a k c, (vals p).2 = .slice a k c) ∧ Below w.heap.size w w'

set_option maxHeartbeats 8000000 in
set_option maxRecDepth 100000 in
theorem leastT_any (a : Option Addr) (cap : Nat) (C : List Cr) (loops : Int) (gF cF gT cT : Nat) (w : World) (hm : mayD C loops = true) (hD : Dr w a cap C gF gT) :
    Calls Try.prog 99 #[drV a cap C loops gF cF gT cT] w fun e w' => LeastOut C w e w' := by
  obtain ⟨s1, -, -, -⟩ := sizeB_iff (may_size hm)
  obtain ⟨i2, hk, hx0, hx1, hx2⟩ := info_parts infoTell
  have HM : Hid (mayD C loops = true) := hm
  have HDD : Hid (∀ w', Below w.heap.size w w' → Dr w' a cap C gF gT) := fun w' hb => hD.on hb
  have HTD : Hid (∀ W k, Below w.heap.size w W → k < C.length → Calls Try.prog 119 #[.agg #[.slice a C.length cap, .int .i64 loops, .slice (some ⟨gF, 0, none⟩) (2 * C.length + 1) cF, .slice (some ⟨gT, 0, none⟩) (2 * C.length + 1) cT], .int .i64 (k : Nat)] W fun e w' => ∃ vo vc, e = .returned (.agg #[vo, vc]) ∧ w'.ownsRow W.heap.size 3 1 vo (te C k).1.length (nats (te C k).1) ∧ w'.ownsRow W.heap.size 3 1 vc (te C k).2.length (intsV (te C k).2) ∧ Below W.heap.size W w') := fun W k hW hk => toldFrom_any a cap C loops gF cF gT cT k W hm hk (hD.on hW)
  have HPD : Hid (∀ W, Below w.heap.size w W → Calls Try.prog 77 #[.agg #[.slice a C.length cap, .int .i64 loops, .slice (some ⟨gF, 0, none⟩) (2 * C.length + 1) cF, .slice (some ⟨gT, 0, none⟩) (2 * C.length + 1) cT]] W fun e w' => ∃ gP cP P c, e = .returned (.tuple #[.slice (some ⟨gP, 0, none⟩) C.length cP, .int .i64 (c : Nat)]) ∧ w'.ownsRow W.heap.size 3 1 (.slice (some ⟨gP, 0, none⟩) C.length cP) C.length (intsV P) ∧ PcsAll C P c ∧ Below W.heap.size W w') := fun W hW => pieces_any a cap C loops gF cF gT cT W hm (hD.on hW)
  unfold drV
  have HB1 : Hid (Below w.heap.size w (w.alloc (.cells #[.slice a C.length cap, .int .i64 loops, .slice (some ⟨gF, 0, none⟩) (2 * C.length + 1) cF, .slice (some ⟨gT, 0, none⟩) (2 * C.length + 1) cT] 61))) := (Below.refl _ _).alloc (Nat.le_refl _) _
  clear hm hD
  go_enter Try.func99, Try.ntmps99
  go_upto_region 2 with (go_at_call 77; refine (HPD.out _ HB1.out).mono ?_; rintro e9 w1 ⟨gP, cP, P, n, rfl, hrP, hpc, hb1⟩)
  have HRP : Hid (w1.ownsRow (w.heap.size + 1) 3 1 (.slice (some ⟨gP, 0, none⟩) C.length cP) C.length (intsV P)) := own_low hrP (by simp)
  have HPC : Hid (PcsAll C P n) := hpc
  have hnC := hpc.few
  have HB2 : Hid (Below w.heap.size w w1) := HB1.out.trans (hb1.mono HB1.out.size)
  have HX1 : Hid (w1.heap[w.heap.size]? = some (.cells #[.slice a C.length cap, .int .i64 loops, .slice (some ⟨gF, 0, none⟩) (2 * C.length + 1) cF, .slice (some ⟨gT, 0, none⟩) (2 * C.length + 1) cT] 61 (0, 0))) := (hb1.block _ (by simp)).trans (alloc_at rfl)
  have hs1 : w.heap.size + 1 ≤ w1.heap.size := by have := hb1.size; simpa using this
  clear hrP hpc hb1
  go_wp2_with (first | (at_make; refine wpList_make_full _ rfl _ _ 145 rfl (w.heap.size + 1) 148 i2 (.agg #[.slice none 0 0, .slice none 0 0]) 2 Try.underlying145 hk hx0 hx1 .i64 .i64 _ _ n rfl rfl rfl rfl (by rw [hx2]; omega) (by unfold maxLen; omega) (by omega) ?_; intro w2 hrow hg2; refine Hid.out ?_))
  refine Lib.hid ?_
  rw [made_tell] at hrow
  have hs2 : w1.heap.size ≤ w2.heap.size := hg2.size
  have hgL2 := (hrow.lt w1.heap.size rfl).2
  have HL2 : Hid (LsAt (w.heap.size + 1) w1.heap.size n (fun _ => (.slice none 0 0, .slice none 0 0)) (fun p => leT C P p 0) w2) := ⟨hrow, fun p => World.ownsRow_nil _ _ _ _, fun p => World.ownsRow_nil _ _ _ _⟩
  have HR2 : Hid (w2.ownsRow (w.heap.size + 1) 3 1 (.slice (some ⟨gP, 0, none⟩) C.length cP) C.length (intsV P) ∧ w2.heap[w.heap.size]? = some (.cells #[.slice a C.length cap, .int .i64 loops, .slice (some ⟨gF, 0, none⟩) (2 * C.length + 1) cF, .slice (some ⟨gT, 0, none⟩) (2 * C.length + 1) cT] 61 (0, 0)) ∧ Below w.heap.size w w2) := ⟨own_any HRP.out hg2, (hg2.block _ (by omega) (by simp)).trans HX1.out, HB2.out.grown hg2 (by omega) (fun q hq => by cases hq)⟩
  clear hrow hg2 HRP HX1 HB2
  go_wp2
  go_loopw [18] (fun v18 wr => ∃ (k : Nat) (vals : Nat → Value × Value), k ≤ C.length ∧ v18 = .int .i64 (k : Nat) ∧ Hid (LsAt (w.heap.size + 1) w1.heap.size n vals (fun p => leT C P p k) wr) ∧ Hid (wr.ownsRow (w.heap.size + 1) 3 1 (.slice (some ⟨gP, 0, none⟩) C.length cP) C.length (intsV P) ∧ wr.heap[w.heap.size]? = some (.cells #[.slice a C.length cap, .int .i64 loops, .slice (some ⟨gF, 0, none⟩) (2 * C.length + 1) cF, .slice (some ⟨gT, 0, none⟩) (2 * C.length + 1) cT] 61 (0, 0)) ∧ Below w.heap.size w wr)) (fun v18 _ => C.length - (intOf v18).toNat)
  case atStart => exact ⟨0, _, Nat.zero_le _, rfl, HL2.out, HR2.out⟩
  case round =>
    clear HL2 HR2 hgL2
    rename World => W3
    obtain ⟨k, vals, hkn, rfl, hls, hrs⟩ := hrel
    have hB3 := hrs.out.2.2.size
    have hlx : w.heap.size < W3.heap.size := (Array.getElem?_eq_some_iff.1 hrs.out.2.1).1
    have hgL3 := (hls.out.row.lt w1.heap.size rfl).2
    have hgP3 := (hrs.out.1.lt gP rfl).2
    by_cases hkl : k < C.length
    · obtain ⟨v0, v1⟩ := HPC.out.vals k hkl
      obtain ⟨p, hp⟩ : ∃ p : Nat, P.getD k 0 = (p : Int) := ⟨(P.getD k 0).toNat, by omega⟩
      have hpn : p < n := by omega
      have e0 := hrs.out.1.cellAt k (by omega)
      rw [intsV_get P k (by rw [HPC.out.len]; exact hkl), hp] at e0
      have HPK : Hid (P.getD k 0 = (p : Int)) := hp
      have hki : (k : Int) < (C.length : Int) := by omega
      have hpi : (p : Int) < (n : Int) := by omega
      have d0 : W3.cell? ⟨w.heap.size, 0, none⟩ = some (.slice a C.length cap) := block_cell hrs.out.2.1 rfl
      have d1 : W3.cell? ⟨w.heap.size, 1, none⟩ = some (.int .i64 loops) := block_cell hrs.out.2.1 rfl
      have d2 : W3.cell? ⟨w.heap.size, 2, none⟩ = some (.slice (some ⟨gF, 0, none⟩) (2 * C.length + 1) cF) := block_cell hrs.out.2.1 rfl
      have d3 : W3.cell? ⟨w.heap.size, 3, none⟩ = some (.slice (some ⟨gT, 0, none⟩) (2 * C.length + 1) cT) := block_cell hrs.out.2.1 rfl
      clear hp v0 v1
      go_upto_region 7 with (go_at_call 119; refine (HTD.out _ k hrs.out.2.2 hkl).mono ?_; rintro e9 w4 ⟨vo, vc, rfl, hvo, hvc, hb4⟩; obtain ⟨ao, co, eo⟩ := own_capS hvo; obtain ⟨ac, cc, ec⟩ := own_capS hvc; subst eo ec)
      obtain ⟨W5, hW5⟩ : ∃ W5, W5 = w4.alloc (.cells #[.slice ao (te C k).1.length co, .slice ac (te C k).2.length cc] 148) := ⟨_, rfl⟩
      rw [← hW5]
      have hs4 := hb4.size
      have hs5 : W5.heap.size = w4.heap.size + 1 := by rw [hW5]; simp
      have hg45 : W3.grownBy W5 none := by rw [hW5]; exact grown_trans (grown_below hb4 none) (World.grownBy_alloc _ _ _)
      have HL5 : Hid (LsAt (w.heap.size + 1) w1.heap.size n vals (fun p => leT C P p k) W5) := hls.out.any hg45
      have HR5 : Hid (W5.ownsRow (w.heap.size + 1) 3 1 (.slice (some ⟨gP, 0, none⟩) C.length cP) C.length (intsV P) ∧ W5.heap[w.heap.size]? = some (.cells #[.slice a C.length cap, .int .i64 loops, .slice (some ⟨gF, 0, none⟩) (2 * C.length + 1) cF, .slice (some ⟨gT, 0, none⟩) (2 * C.length + 1) cT] 61 (0, 0)) ∧ Below w.heap.size w W5) := ⟨own_any hrs.out.1 hg45, (hg45.block _ hlx (by simp)).trans hrs.out.2.1, hrs.out.2.2.grown hg45 hB3 (fun q hq => by cases hq)⟩
      have HVO : Hid (W5.ownsRow (w.heap.size + 1) 3 1 (.slice ao (te C k).1.length co) (te C k).1.length (nats (te C k).1)) := (by rw [hW5]; exact own_low (hvo.alloc _) (by omega) : W5.ownsRow (w.heap.size + 1) 3 1 (.slice ao (te C k).1.length co) (te C k).1.length (nats (te C k).1))
      have HVC : Hid (W5.ownsRow (w.heap.size + 1) 3 1 (.slice ac (te C k).2.length cc) (te C k).2.length (intsV (te C k).2)) := (by rw [hW5]; exact own_low (hvc.alloc _) (by omega) : W5.ownsRow (w.heap.size + 1) 3 1 (.slice ac (te C k).2.length cc) (te C k).2.length (intsV (te C k).2))
      have HT5 : Hid (W5.heap[w4.heap.size]? = some (.cells #[.slice ao (te C k).1.length co, .slice ac (te C k).2.length cc] 148 (0, 0))) := (by rw [hW5]; exact alloc_at rfl : W5.heap[w4.heap.size]? = some (.cells #[.slice ao (te C k).1.length co, .slice ac (te C k).2.length cc] 148 (0, 0)))
      have t0 : W5.cell? ⟨w4.heap.size, 0, none⟩ = some (.slice ao (te C k).1.length co) := block_cell HT5.out rfl
      have t1 : W5.cell? ⟨w4.heap.size, 1, none⟩ = some (.slice ac (te C k).2.length cc) := block_cell HT5.out rfl
      have hz5 : w4.heap.size < W5.heap.size := by omega
      have hgL5 : w1.heap.size < W5.heap.size := by omega
      have hlx5 : w.heap.size < W5.heap.size := by omega
      obtain ⟨L, hL⟩ : ∃ L, leT C P p k = L := ⟨_, rfl⟩
      have HLE : Hid (leT C P p k = L) := hL
      obtain ⟨q0, q1, -⟩ := HL5.out.cells hpn
      have hco := HL5.out.ord p
      have hcd := HL5.out.cod p
      simp only [hL] at hco hcd
      obtain ⟨av, cv, ev⟩ := own_capS hco
      obtain ⟨au, cu, eu⟩ := own_capS hcd
      rw [ev] at q0
      rw [eu] at q1
      have HCD : Hid (W5.ownsRow (w.heap.size + 1) 3 1 (.slice au L.2.length cu) L.2.length (intsV L.2)) := (by rw [← eu]; exact hcd : W5.ownsRow (w.heap.size + 1) 3 1 (.slice au L.2.length cu) L.2.length (intsV L.2))
      have HT1 : Hid ((te C k).2.length ≤ 1000) := (by have h := teI_len C k C.length; unfold te; omega : (te C k).2.length ≤ 1000)
      have HT2 : Hid (L.2.length ≤ 1000) := (by rw [← hL]; exact leT_len HM.out P p k : L.2.length ≤ 1000)
      clear hW5 hvo hvc hb4 hg45 hs5 hco hcd ev eu hL e0 d0 d1 d2 d3 hls hrs hs4
      by_cases hl0 : L.1 = []
      · have hll : L.1.length = 0 := by rw [hl0]; rfl
        rw [hll] at q0
        clear hll
        go_quiet (fail)
        obtain ⟨X, hX⟩ : ∃ X, X = W5.drewN nq := ⟨_, rfl⟩
        have HXQ : Hid (X = W5.drewN nq) := hX
        rw [← hX]
        clear hX t0 t1 q0 q1
        have hgX : W5.grownBy X none := (by rw [HXQ.out]; exact grown_below (below_drewN (Below.refl _ _) nq) none)
        have HLX : Hid (LsAt (w.heap.size + 1) w1.heap.size n vals (fun p => leT C P p k) X) := HL5.out.any hgX
        obtain ⟨hset, hgS⟩ := HLX.out.set (p := p) (t := te C k) hpn (own_any HVO.out hgX) (own_any HVC.out hgX)
        rw [leT_put HPK.out (by rw [HLE.out]; exact Or.inl hl0)] at hset
        have HNX : Hid (LsAt (w.heap.size + 1) w1.heap.size n (fun q => if q = p then (.slice ao (te C k).1.length co, .slice ac (te C k).2.length cc) else vals q) (fun p => leT C P p (k + 1)) ((X.setCell ⟨w1.heap.size, p * 2, none⟩ (.slice ao (te C k).1.length co)).setCell ⟨w1.heap.size, p * 2 + 1, none⟩ (.slice ac (te C k).2.length cc))) := hset
        have HRX : Hid (((X.setCell ⟨w1.heap.size, p * 2, none⟩ (.slice ao (te C k).1.length co)).setCell ⟨w1.heap.size, p * 2 + 1, none⟩ (.slice ac (te C k).2.length cc)).ownsRow (w.heap.size + 1) 3 1 (.slice (some ⟨gP, 0, none⟩) C.length cP) C.length (intsV P) ∧ ((X.setCell ⟨w1.heap.size, p * 2, none⟩ (.slice ao (te C k).1.length co)).setCell ⟨w1.heap.size, p * 2 + 1, none⟩ (.slice ac (te C k).2.length cc)).heap[w.heap.size]? = some (.cells #[.slice a C.length cap, .int .i64 loops, .slice (some ⟨gF, 0, none⟩) (2 * C.length + 1) cF, .slice (some ⟨gT, 0, none⟩) (2 * C.length + 1) cT] 61 (0, 0)) ∧ Below w.heap.size w ((X.setCell ⟨w1.heap.size, p * 2, none⟩ (.slice ao (te C k).1.length co)).setCell ⟨w1.heap.size, p * 2 + 1, none⟩ (.slice ac (te C k).2.length cc))) := ⟨(own_any HR5.out.1 hgX).kept hgS (own_ne (own_any HR5.out.1 hgX) HLX.out.row (by decide)), (hgS.block _ (Nat.lt_of_lt_of_le hlx5 hgX.size) (fun e => by have := Option.some.inj e; omega)).trans ((hgX.block _ hlx5 (by simp)).trans HR5.out.2.1), (HR5.out.2.2.grown hgX HR5.out.2.2.size (fun q hq => by cases hq)).grown hgS (Nat.le_trans HR5.out.2.2.size hgX.size) (fun q hq => by have := Option.some.inj hq; omega)⟩
        obtain ⟨c0, c1, c2⟩ := HLX.out.cells hpn
        have c3 : X.frozen? ⟨w1.heap.size, p * 2, none⟩ = false := HLX.out.row.frozenAt (p * 2)
        have c4 : X.frozen? ⟨w1.heap.size, p * 2 + 1, none⟩ = false := HLX.out.row.frozenAt (p * 2 + 1)
        have hTX := (hgX.block _ hz5 (by simp)).trans HT5.out
        have c5 : X.cell? ⟨w4.heap.size, 0, none⟩ = some (.slice ao (te C k).1.length co) := block_cell hTX rfl
        have c6 : X.cell? ⟨w4.heap.size, 1, none⟩ = some (.slice ac (te C k).2.length cc) := block_cell hTX rfl
        have c7 : w4.heap.size < X.heap.size := (Array.getElem?_eq_some_iff.1 hTX).1
        clear hset hgS hTX hgX
        go_wp2
        go_roundw
        case rel => exact ⟨k + 1, _, by omega, by go_num, HNX.out, HRX.out⟩
        case measure => simp only [intOf]; omega
      · have hll : L.1.length ≠ 0 := fun e => hl0 (List.length_eq_zero_iff.1 e)
        have hz1 : ((L.1.length : Int) == 0) = false := beq_eq_false_iff_ne.2 (by omega)
        have hz2 : (L.1.length == 0) = false := beq_eq_false_iff_ne.2 hll
        obtain ⟨z, hz⟩ : ∃ z, cmpT (te C k) L = z := ⟨_, rfl⟩
        have HZ : Hid (cmpT (te C k) L = z) := hz
        clear hz
        have HCT : Hid (∀ W, W5.grownBy W none → Calls Try.prog 120 #[.agg #[.slice ao (te C k).1.length co, .slice ac (te C k).2.length cc], .agg #[.slice av L.1.length cv, .slice au L.2.length cu]] W fun e w' => e = .returned (.int .i64 z) ∧ w' = (W.alloc (.cells #[.slice ao (te C k).1.length co, .slice ac (te C k).2.length cc] 148)).alloc (.cells #[.slice av L.1.length cv, .slice au L.2.length cu] 148)) := fun W hW => by
          rw [← HZ.out]
          exact compareT_any _ _ _ _ (te C k) L W HT1.out HT2.out ⟨_, _, rfl⟩ ⟨_, _, rfl⟩ (slots_of_own (own_any HVC.out hW)) (slots_of_own (own_any HCD.out hW))
        have HD5 : Hid (W5.grownBy W5.drew none) := grown_below ((Below.refl _ _).drew) none
        by_cases hzn : z < 0
        · have hzd : decide (z < 0) = true := decide_eq_true hzn
          apply cut_told
          case h =>
            intro key
            go_region_law (first
              | (go_simp; go_at_call 120; refine (HCT.out _ (by first | exact HD5.out)).mono ?_; rintro e9 w6 ⟨rfl, hw6⟩
                 have HG6 : Hid (W5.grownBy w6 none) := (by rw [hw6]; exact grown_trans HD5.out (grown_trans (World.grownBy_alloc _ _ _) (World.grownBy_alloc _ _ _)))
                 clear hw6))
            all_goals
              revert w6
              exact key.out
          intro w6 HG6
          clear t0 t1 q0 q1 HD5 HCT
          have hgX : W5.grownBy w6 none := HG6.out
          have HLX : Hid (LsAt (w.heap.size + 1) w1.heap.size n vals (fun p => leT C P p k) w6) := HL5.out.any hgX
          obtain ⟨hset, hgS⟩ := HLX.out.set (p := p) (t := te C k) hpn (own_any HVO.out hgX) (own_any HVC.out hgX)
          rw [leT_put HPK.out (by rw [HLE.out]; exact Or.inr (by rw [HZ.out]; exact hzn))] at hset
          have HNX : Hid (LsAt (w.heap.size + 1) w1.heap.size n (fun q => if q = p then (.slice ao (te C k).1.length co, .slice ac (te C k).2.length cc) else vals q) (fun p => leT C P p (k + 1)) ((w6.setCell ⟨w1.heap.size, p * 2, none⟩ (.slice ao (te C k).1.length co)).setCell ⟨w1.heap.size, p * 2 + 1, none⟩ (.slice ac (te C k).2.length cc))) := hset
          have HRX : Hid (((w6.setCell ⟨w1.heap.size, p * 2, none⟩ (.slice ao (te C k).1.length co)).setCell ⟨w1.heap.size, p * 2 + 1, none⟩ (.slice ac (te C k).2.length cc)).ownsRow (w.heap.size + 1) 3 1 (.slice (some ⟨gP, 0, none⟩) C.length cP) C.length (intsV P) ∧ ((w6.setCell ⟨w1.heap.size, p * 2, none⟩ (.slice ao (te C k).1.length co)).setCell ⟨w1.heap.size, p * 2 + 1, none⟩ (.slice ac (te C k).2.length cc)).heap[w.heap.size]? = some (.cells #[.slice a C.length cap, .int .i64 loops, .slice (some ⟨gF, 0, none⟩) (2 * C.length + 1) cF, .slice (some ⟨gT, 0, none⟩) (2 * C.length + 1) cT] 61 (0, 0)) ∧ Below w.heap.size w ((w6.setCell ⟨w1.heap.size, p * 2, none⟩ (.slice ao (te C k).1.length co)).setCell ⟨w1.heap.size, p * 2 + 1, none⟩ (.slice ac (te C k).2.length cc))) := ⟨(own_any HR5.out.1 hgX).kept hgS (own_ne (own_any HR5.out.1 hgX) HLX.out.row (by decide)), (hgS.block _ (Nat.lt_of_lt_of_le hlx5 hgX.size) (fun e => by have := Option.some.inj e; omega)).trans ((hgX.block _ hlx5 (by simp)).trans HR5.out.2.1), (HR5.out.2.2.grown hgX HR5.out.2.2.size (fun q hq => by cases hq)).grown hgS (Nat.le_trans HR5.out.2.2.size hgX.size) (fun q hq => by have := Option.some.inj hq; omega)⟩
          obtain ⟨c0, c1, c2⟩ := HLX.out.cells hpn
          have c3 : w6.frozen? ⟨w1.heap.size, p * 2, none⟩ = false := HLX.out.row.frozenAt (p * 2)
          have c4 : w6.frozen? ⟨w1.heap.size, p * 2 + 1, none⟩ = false := HLX.out.row.frozenAt (p * 2 + 1)
          have hTX := (hgX.block _ hz5 (by simp)).trans HT5.out
          have c5 : w6.cell? ⟨w4.heap.size, 0, none⟩ = some (.slice ao (te C k).1.length co) := block_cell hTX rfl
          have c6 : w6.cell? ⟨w4.heap.size, 1, none⟩ = some (.slice ac (te C k).2.length cc) := block_cell hTX rfl
          have c7 : w4.heap.size < w6.heap.size := (Array.getElem?_eq_some_iff.1 hTX).1
          clear hset hgS hTX hgX
          go_wp2
          go_roundw
          case rel => exact ⟨k + 1, _, by omega, by go_num, HNX.out, HRX.out⟩
          case measure => simp only [intOf]; omega
        · have hzd : decide (z < 0) = false := decide_eq_false hzn
          have HKE : Hid ((fun p => leT C P p k) = fun p => leT C P p (k + 1)) := leT_keep HPK.out (by rw [HLE.out, HZ.out]; exact fun h => h.elim hl0 hzn)
          apply cut_told
          case h =>
            intro key
            go_region_law (first
              | (go_simp; go_at_call 120; refine (HCT.out _ (by first | exact HD5.out)).mono ?_; rintro e9 w6 ⟨rfl, hw6⟩
                 have HG6 : Hid (W5.grownBy w6 none) := (by rw [hw6]; exact grown_trans HD5.out (grown_trans (World.grownBy_alloc _ _ _) (World.grownBy_alloc _ _ _)))
                 clear hw6))
            all_goals
              revert w6
              exact key.out
          intro w6 HG6
          clear t0 t1 q0 q1 HD5 HCT
          have HNX : Hid (LsAt (w.heap.size + 1) w1.heap.size n vals (fun p => leT C P p (k + 1)) w6) := (by rw [← HKE.out]; exact HL5.out.any HG6.out : LsAt (w.heap.size + 1) w1.heap.size n vals (fun p => leT C P p (k + 1)) w6)
          have HRX : Hid (w6.ownsRow (w.heap.size + 1) 3 1 (.slice (some ⟨gP, 0, none⟩) C.length cP) C.length (intsV P) ∧ w6.heap[w.heap.size]? = some (.cells #[.slice a C.length cap, .int .i64 loops, .slice (some ⟨gF, 0, none⟩) (2 * C.length + 1) cF, .slice (some ⟨gT, 0, none⟩) (2 * C.length + 1) cT] 61 (0, 0)) ∧ Below w.heap.size w w6) := ⟨own_any HR5.out.1 HG6.out, (HG6.out.block _ hlx5 (by simp)).trans HR5.out.2.1, HR5.out.2.2.grown HG6.out HR5.out.2.2.size (fun q hq => by cases hq)⟩
          go_wp2
          go_roundw
          case rel => exact ⟨k + 1, _, by omega, by go_num, HNX.out, HRX.out⟩
          case measure => simp only [intOf]; omega
    · obtain rfl : k = C.length := by omega
      have HLN : Hid (∀ p, (leT C P p C.length).2.length ≤ 1000) := fun p => leT_len HM.out P p C.length
      have HB3 : Hid (Below w.heap.size w W3) := hrs.out.2.2
      go_wp2_with (go_at_call 121; refine (sortT_any (w.heap.size + 1) (w.heap.size + 1) w1.heap.size n vals (fun p => leT C P p C.length) _ (by omega) hls.out.row hls.out.ord hls.out.cod HLN.out).mono ?_; rintro e9 w4 ⟨rfl, σ, hσ1, hσ2, hrow4, hg4⟩; refine Hid.out ?_)
      refine Lib.hid ?_
      have HO4 : Hid (∀ p, w4.ownsRow w.heap.size 3 1 (vals p).1 (leT C P p C.length).1.length (nats (leT C P p C.length).1)) := fun p => own_low ((hls.out.ord p).kept hg4 (own_ne (hls.out.ord p) hls.out.row (by decide))) (by omega)
      have HB4 : Hid (Below w.heap.size w w4) := HB3.out.grown hg4 hB3 (fun q hq => by have := Option.some.inj hq; omega)
      have HR4 : Hid (w4.ownsRow w.heap.size 148 2 (.slice (some ⟨w1.heap.size, 0, none⟩) n n) n (tvs vals σ)) := own_low hrow4 (by omega)
      have HSH : Hid (∀ p, ∃ a k c, (vals p).2 = .slice a k c) := fun p => by obtain ⟨a, c, h⟩ := own_capS (hls.out.cod p); exact ⟨a, _, c, h⟩
      have HS1 : Hid (σ.Perm (List.range n)) := hσ1
      have HS2 : Hid (SortedT (fun p => leT C P p C.length) σ) := hσ2
      clear hσ1 hσ2 hrow4 hg4
      go_wp2
      go_ret
      exact ⟨w1.heap.size, n, P, vals, σ, rfl, HPC.out, HS1.out, HS2.out, HR4.out, HO4.out, HSH.out, HB4.out⟩
end Go.Proofs.Ytagaajlbkfkaiaa
/- Where canon.canonical stands. -/
namespace Go.Proofs.Ytagaajlbkfkaiaa
open Go.RowKit Go.Maps

/-- The crossings of a list, their arcs numbered as they come. -/
def canGo (C : List Cr) : List Nat → List Nat → List Cr
  | _, [] => []
  | F, c :: os => canX F (C.getD c Cr.none) :: canGo C (addN F (C.getD c Cr.none) 4) os
def canF (C : List Cr) : List Nat → List Nat → List Nat
  | F, [] => F
  | F, c :: os => canF C (addN F (C.getD c Cr.none) 4) os
theorem canGo_len (C : List Cr) (F os : List Nat) : (canGo C F os).length = os.length := by
  induction os generalizing F with
  | nil => rfl
  | cons c os ih => simp [canGo, ih]
theorem canF_len (C : List Cr) (F os : List Nat) : (canF C F os).length ≤ F.length + 4 * os.length := by
  induction os generalizing F with
  | nil => simp [canF]
  | cons c os ih =>
    have h1 := ih (addN F (C.getD c Cr.none) 4)
    have h2 := addN_len F (C.getD c Cr.none) 4
    simp only [canF, List.length_cons]
    omega
theorem canGo_snoc (C : List Cr) (F os : List Nat) (c : Nat) : canGo C F (os ++ [c]) = canGo C F os ++ [canX (canF C F os) (C.getD c Cr.none)] := by
  induction os generalizing F with
  | nil => rfl
  | cons d os ih => simp [canGo, canF, ih]
theorem canF_snoc (C : List Cr) (F os : List Nat) (c : Nat) : canF C F (os ++ [c]) = addN (canF C F os) (C.getD c Cr.none) 4 := by
  induction os generalizing F with
  | nil => rfl
  | cons d os ih => simp [canF, ih]
structure CaAt (w : World) (D0 : Array Value) (loops : Int) (gL n : Nat) (vals : Nat → Value × Value) (L : Nat → List Nat) (σ F : List Nat) (acc : List Cr) (v : Value) (W : World) : Prop where
  out : OutAt W (w.heap.size + 5) (w.heap.size + 2) v loops acc
  map : MapA W (w.heap.size + 3) F
  dra : W.heap[w.heap.size]? = some (.cells D0 61 (0, 0))
  res : W.heap[w.heap.size + 1]? = some (.cells #[.slice none 0 0, .int .i64 0] 24 (0, 0))
  var : W.heap[w.heap.size + 4]? = some (.cells #[.map (some (w.heap.size + 3))] 143 (0, 0))
  row : W.ownsRow (w.heap.size + 5) 148 2 (.slice (some ⟨gL, 0, none⟩) n n) n (tvs vals σ)
  ord : ∀ p, W.ownsRow (w.heap.size + 5) 3 1 (vals p).1 (L p).length (nats (L p))
  bel : Below w.heap.size w W
section
variable {w : World} {D0 : Array Value} {loops : Int} {gL n : Nat} {vals : Nat → Value × Value} {L : Nat → List Nat} {σ F : List Nat} {acc : List Cr} {v : Value} {W : World}
theorem CaAt.sz (h : CaAt w D0 loops gL n vals L σ F acc v W) : w.heap.size + 5 ≤ W.heap.size := (Array.getElem?_eq_some_iff.1 h.var).1
theorem CaAt.any {W' : World} (h : CaAt w D0 loops gL n vals L σ F acc v W) (hg : W.grownBy W' none) : CaAt w D0 loops gL n vals L σ F acc v W' := by
  have hs := h.sz
  exact ⟨⟨(hg.block _ (by omega) (by simp)).trans h.out.box, own_any h.out.row hg⟩, h.map.kept hg (by simp), (hg.block _ (by omega) (by simp)).trans h.dra, (hg.block _ (by omega) (by simp)).trans h.res, (hg.block _ (by omega) (by simp)).trans h.var, own_any h.row hg, fun p => own_any (h.ord p) hg, h.bel.grown hg h.bel.size (fun q hq => by cases hq)⟩
theorem CaAt.call {W' : World} {F' : List Nat} (h : CaAt w D0 loops gL n vals L σ F acc v W) (hg : W.grownBy W' (some (w.heap.size + 3))) (hM : MapA W' (w.heap.size + 3) F') : CaAt w D0 loops gL n vals L σ F' acc v W' := by
  have hs := h.sz
  have hlow : ∀ {e s k : Nat} {u : Value} {xs : List Value}, W.ownsRow (w.heap.size + 5) e s u k xs → u.ownBlock = none ∨ u.ownBlock ≠ some (w.heap.size + 3) := fun ho => Or.inr (fun e => by have := (ho.lt _ e).1; omega)
  exact ⟨⟨(hg.block _ (by omega) (fun e => by have := Option.some.inj e; omega)).trans h.out.box, h.out.row.kept hg (hlow h.out.row)⟩, hM, (hg.block _ (by omega) (fun e => by have := Option.some.inj e; omega)).trans h.dra, (hg.block _ (by omega) (fun e => by have := Option.some.inj e; omega)).trans h.res, (hg.block _ (by omega) (fun e => by have := Option.some.inj e; omega)).trans h.var, h.row.kept hg (hlow h.row), fun p => (h.ord p).kept hg (hlow (h.ord p)), h.bel.grown hg h.bel.size (fun q hq => by have := Option.some.inj hq; omega)⟩
theorem CaAt.app {w8 : World} {v8 : Value} {x : Cr} {o : Obj} (h : CaAt w D0 loops gL n vals L σ F acc v W) (hown8 : w8.ownsRow (w.heap.size + 5) 71 5 v8 (acc.length + 1) (crossCells acc ++ crossCells [x])) (hg8 : (W.alloc o).grownBy w8 v.ownBlock) :
    CaAt w D0 loops gL n vals L σ F (acc ++ [x]) v8 (w8.setCell ⟨w.heap.size + 2, 0, none⟩ v8) := by
  have hs := h.sz
  have hS := set_grown w8 (w.heap.size + 2) 0 v8
  have hs8 := hg8.size
  simp only [World.size_alloc] at hs8
  have hvne : ∀ k, k < w.heap.size + 5 → some k ≠ v.ownBlock := fun k hk e => by have := (h.out.row.lt k e.symm).1; omega
  have hnone : W.grownBy (W.alloc o) none := World.grownBy_alloc _ _ _
  have hrow : ∀ {e s k : Nat} {u : Value} {xs : List Value}, W.ownsRow (w.heap.size + 5) e s u k xs → e ≠ 71 → (w8.setCell ⟨w.heap.size + 2, 0, none⟩ v8).ownsRow (w.heap.size + 5) e s u k xs := fun ho he => by
    have h1 := own_any ho hnone
    have h2 := h1.kept hg8 (own_ne h1 (own_any h.out.row hnone) he)
    exact h2.kept hS (Or.inr (fun e => by have := (h2.lt _ e).1; omega))
  exact ⟨h.out.app (by omega) rfl hown8 hg8, (((h.map.kept hnone (by simp)).kept hg8 (fun e => hvne _ (by omega) e.symm))).kept hS (fun e => by have := Option.some.inj e; omega), h.out.other h.dra (by omega) (by omega) hg8, h.out.other h.res (by omega) (by omega) hg8, h.out.other h.var (by omega) (by omega) hg8, hrow h.row (by decide), fun p => hrow (h.ord p) (by decide), h.out.below h.bel (by omega) (by omega) (by omega) hg8⟩
end
end Go.Proofs.Ytagaajlbkfkaiaa
/- The walk of canon.canonical. -/
namespace Go.Proofs.Ytagaajlbkfkaiaa
open Go.RowKit Go.Maps

/-- The crossings of the first j lists, and of the next one the first i. -/
def preO (L : Nat → List Nat) (σ : List Nat) (j i : Nat) : List Nat := ((σ.take j).map L).flatten ++ (L (σ.getD j 0)).take i
theorem preO_next (L : Nat → List Nat) (σ : List Nat) (j i : Nat) (hi : i < (L (σ.getD j 0)).length) : preO L σ j (i + 1) = preO L σ j i ++ [(L (σ.getD j 0)).getD i 0] := by
  unfold preO
  generalize L (σ.getD j 0) = l at hi
  rw [List.append_assoc, List.take_add_one, List.getD_eq_getElem?_getD, List.getElem?_eq_getElem hi]
  rfl
theorem preO_row (L : Nat → List Nat) (σ : List Nat) (j : Nat) (hj : j < σ.length) : preO L σ j (L (σ.getD j 0)).length = preO L σ (j + 1) 0 := by
  unfold preO
  rw [List.take_length, List.take_zero, List.append_nil, List.take_add_one, List.getElem?_eq_getElem hj, List.map_append, List.flatten_append]
  simp [List.getD, hj]
theorem preO_len (L : Nat → List Nat) (σ : List Nat) (m j i : Nat) (h : ∀ p, (L p).length ≤ m) : (preO L σ j i).length ≤ m * j + m := by
  unfold preO
  have h1 : ∀ l : List Nat, ((l.map L).flatten).length ≤ m * l.length := fun l => by
    induction l with
    | nil => simp
    | cons x l ih => simp only [List.map_cons, List.flatten_cons, List.length_append, List.length_cons, Nat.mul_add]; have := h x; omega
  have h2 := h1 (σ.take j)
  have h3 := h (σ.getD j 0)
  have h4 : (σ.take j).length ≤ j := by simp; omega
  have h5 := Nat.mul_le_mul_left m h4
  simp only [List.length_append, List.length_take]
  omega
theorem leT_few {C : List Cr} {loops : Int} (hm : mayD C loops = true) (P : List Int) (p k : Nat) (hk : k ≤ C.length) : (leT C P p k).1.length ≤ 16 ∧ ∀ x ∈ (leT C P p k).1, x < C.length := by
  obtain ⟨s1, -, -, -⟩ := sizeB_iff (may_size hm)
  induction k with
  | zero => simp [leT]
  | succ k ih =>
    rw [leT]
    split
    · have h := teI_ok (C := C) hm (first := k) (by omega) C.length
      exact ⟨by have := h.few; unfold te; omega, h.lt⟩
    · exact ih (by omega)
/-- What canon.canonical hands back. -/
def CanonOut (C : List Cr) (loops : Int) (w : World) (e : Ending) (w' : World) : Prop := ∃ (v : Value) (n : Nat) (P : List Int) (σ : List Nat), e = .returned (.agg #[v, .int .i64 loops]) ∧ PcsAll C P n ∧ σ.Perm (List.range n) ∧ SortedT (fun p => leT C P p C.length) σ ∧ w'.ownsRow w.heap.size 71 5 v (canGo C [] ((σ.map fun p => (leT C P p C.length).1).flatten)).length (crossCells (canGo C [] ((σ.map fun p => (leT C P p C.length).1).flatten))) ∧ Below w.heap.size w w'

set_option maxHeartbeats 8000000 in
set_option maxRecDepth 100000 in
theorem canonical_any (a : Option Addr) (cap : Nat) (C : List Cr) (loops : Int) (gF cF gT cT : Nat) (w : World) (hm : mayD C loops = true) (hD : Dr w a cap C gF gT) :
    Calls Try.prog 73 #[drV a cap C loops gF cF gT cT] w fun e w' => CanonOut C loops w e w' := by
  obtain ⟨s1, -, -, -⟩ := sizeB_iff (may_size hm)
  obtain ⟨i0, hi, hz0, hz1, hz2⟩ := info_parts infoCross
  have HM : Hid (mayD C loops = true) := hm
  have HLT : Hid (∀ W, Below w.heap.size w W → Calls Try.prog 99 #[.agg #[.slice a C.length cap, .int .i64 loops, .slice (some ⟨gF, 0, none⟩) (2 * C.length + 1) cF, .slice (some ⟨gT, 0, none⟩) (2 * C.length + 1) cT]] W fun e w' => LeastOut C W e w') := fun W hW => leastT_any a cap C loops gF cF gT cT W hm (hD.on hW)
  have HCR : Hid (∀ W, Below w.heap.size w W → 0 < C.length → ∃ b off, a = some ⟨b, off, none⟩ ∧ b < W.heap.size ∧ CrossAt W b off C) := fun W hW h0 => by
    obtain ⟨b, off, ea, hbw, hC⟩ := hD.cross h0
    exact ⟨b, off, ea, Nat.lt_of_lt_of_le hbw hW.size, hC.on hW hbw⟩
  unfold drV
  obtain ⟨w1, hw1⟩ : ∃ w1, w1 = ((((w.alloc (.cells #[.slice a C.length cap, .int .i64 loops, .slice (some ⟨gF, 0, none⟩) (2 * C.length + 1) cF, .slice (some ⟨gT, 0, none⟩) (2 * C.length + 1) cT] 61)).alloc (.cells #[.slice none 0 0, .int .i64 0] 24)).alloc (.cells #[.slice none 0 0, .int .i64 loops] 24)).alloc (.map #[] 0)).alloc (.cells #[.map (some (w.heap.size + 3))] 143) := ⟨_, rfl⟩
  have hmm := makeMapN
  have HW1 : Hid (w1 = ((((w.alloc (.cells #[.slice a C.length cap, .int .i64 loops, .slice (some ⟨gF, 0, none⟩) (2 * C.length + 1) cF, .slice (some ⟨gT, 0, none⟩) (2 * C.length + 1) cT] 61)).alloc (.cells #[.slice none 0 0, .int .i64 0] 24)).alloc (.cells #[.slice none 0 0, .int .i64 loops] 24)).alloc (.map #[] 0)).alloc (.cells #[.map (some (w.heap.size + 3))] 143)) := hw1
  have hs1 : w1.heap.size = w.heap.size + 5 := by rw [hw1]; simp
  have HB1 : Hid (Below w.heap.size w w1) := (by rw [hw1]; exact ((below3 _ _ _ _).alloc (by simp; omega) _).alloc (by simp; omega) _ : Below w.heap.size w w1)
  have k0 : w1.heap[w.heap.size]? = some (.cells #[.slice a C.length cap, .int .i64 loops, .slice (some ⟨gF, 0, none⟩) (2 * C.length + 1) cF, .slice (some ⟨gT, 0, none⟩) (2 * C.length + 1) cT] 61 (0, 0)) := by rw [hw1]; exact alloc_old (alloc_old (alloc_old (alloc_old (alloc_at rfl))))
  have k1 : w1.heap[w.heap.size + 1]? = some (.cells #[.slice none 0 0, .int .i64 0] 24 (0, 0)) := by rw [hw1]; exact alloc_old (alloc_old (alloc_old (alloc_at (by simp))))
  have k2 : w1.heap[w.heap.size + 2]? = some (.cells #[.slice none 0 0, .int .i64 loops] 24 (0, 0)) := by rw [hw1]; exact alloc_old (alloc_old (alloc_at (by simp)))
  have k4 : w1.heap[w.heap.size + 4]? = some (.cells #[.map (some (w.heap.size + 3))] 143 (0, 0)) := by rw [hw1]; exact alloc_at (by simp)
  have hM0 : MapA w1 (w.heap.size + 3) [] := by
    rw [hw1]
    have h0 : OwnM ((((w.alloc (.cells #[.slice a C.length cap, .int .i64 loops, .slice (some ⟨gF, 0, none⟩) (2 * C.length + 1) cF, .slice (some ⟨gT, 0, none⟩) (2 * C.length + 1) cT] 61)).alloc (.cells #[.slice none 0 0, .int .i64 0] 24)).alloc (.cells #[.slice none 0 0, .int .i64 loops] 24)).alloc (.map #[] 0)) (w.heap.size + 3) 0 (.map [] : DataW Unit) := by
      have := World.ownsMap_made (H := Unit) ((((w.alloc (.cells #[.slice a C.length cap, .int .i64 loops, .slice (some ⟨gF, 0, none⟩) (2 * C.length + 1) cF, .slice (some ⟨gT, 0, none⟩) (2 * C.length + 1) cT] 61)).alloc (.cells #[.slice none 0 0, .int .i64 0] 24)).alloc (.cells #[.slice none 0 0, .int .i64 loops] 24))) Try.prog 3 (plainElem Try.prog 3)
      simp only [World.size_alloc] at this
      exact this
    exact MapA.kept ⟨0, _, h0, Nat.le_refl _, ⟨rfl, fun x => ⟨by simp [Maps.has], fun h => by cases h⟩⟩⟩ (World.grownBy_alloc _ _ none) (by simp)
  have HCA1 : Hid (OutAt w1 (w.heap.size + 5) (w.heap.size + 2) (.slice none 0 0) loops [] ∧ MapA w1 (w.heap.size + 3) [] ∧ w1.heap[w.heap.size]? = some (.cells #[.slice a C.length cap, .int .i64 loops, .slice (some ⟨gF, 0, none⟩) (2 * C.length + 1) cF, .slice (some ⟨gT, 0, none⟩) (2 * C.length + 1) cT] 61 (0, 0)) ∧ w1.heap[w.heap.size + 1]? = some (.cells #[.slice none 0 0, .int .i64 0] 24 (0, 0)) ∧ w1.heap[w.heap.size + 4]? = some (.cells #[.map (some (w.heap.size + 3))] 143 (0, 0))) := ⟨OutAt.nil k2, hM0, k0, k1, k4⟩
  have t0 : w1.cell? ⟨w.heap.size, 0, none⟩ = some (.slice a C.length cap) := block_cell k0 rfl
  have t1 : w1.cell? ⟨w.heap.size, 1, none⟩ = some (.int .i64 loops) := block_cell k0 rfl
  have t2 : w1.cell? ⟨w.heap.size, 2, none⟩ = some (.slice (some ⟨gF, 0, none⟩) (2 * C.length + 1) cF) := block_cell k0 rfl
  have t3 : w1.cell? ⟨w.heap.size, 3, none⟩ = some (.slice (some ⟨gT, 0, none⟩) (2 * C.length + 1) cT) := block_cell k0 rfl
  have HS1 : Hid (w1.heap.size = w.heap.size + 5) := hs1
  have hl1 : w.heap.size < w1.heap.size := by omega
  clear hm hD hw1 hs1 k0 k1 k2 k4 hM0
  go_enter Try.func73, Try.ntmps73
  go_upto_region 4 with (fail)
  rw [show w.heap.size + 1 + 1 + 1 + 1 = w.heap.size + 4 from rfl, show w.heap.size + 1 + 1 + 1 = w.heap.size + 3 from rfl, show w.heap.size + 1 + 1 = w.heap.size + 2 from rfl, ← HW1.out]
  clear hmm
  go_wp2_with (go_at_call 99; refine (HLT.out _ HB1.out).mono ?_; rintro e9 w2 ⟨gL, n, P, vals, σ, rfl, hpc, hσ1, hσ2, hrow, hord, hsh, hb2⟩; refine Hid.out ?_)
  refine Lib.hid ?_
  have hs1 := HS1.out
  have hs2 := hb2.size
  have HPC : Hid (PcsAll C P n) := hpc
  have HS : Hid (σ.Perm (List.range n) ∧ SortedT (fun p => leT C P p C.length) σ) := ⟨hσ1, hσ2⟩
  have HSH : Hid (∀ p, ∃ a k c, (vals p).2 = .slice a k c) := hsh
  have hnC := hpc.few
  have hσl : σ.length = n := by have := hσ1.length_eq; simpa using this
  have HSL : Hid (σ.length = n) := hσl
  have HFW : Hid (∀ p, (leT C P p C.length).1.length ≤ 16 ∧ ∀ x ∈ (leT C P p C.length).1, x < C.length) := fun p => leT_few HM.out P p C.length (Nat.le_refl _)
  have HPL : Hid (∀ j i, j ≤ n → ((preO (fun p => (leT C P p C.length).1) σ j i)).length ≤ 16 * j + 16) := fun j i _ => preO_len _ _ _ _ _ (fun p => (HFW.out p).1)
  have HC2 : Hid (CaAt w #[.slice a C.length cap, .int .i64 loops, .slice (some ⟨gF, 0, none⟩) (2 * C.length + 1) cF, .slice (some ⟨gT, 0, none⟩) (2 * C.length + 1) cT] loops gL n vals (fun p => (leT C P p C.length).1) σ (canF C [] (preO (fun p => (leT C P p C.length).1) σ 0 0)) (canGo C [] (preO (fun p => (leT C P p C.length).1) σ 0 0)) (.slice none 0 0) w2) := ⟨HCA1.out.1.on hb2, HCA1.out.2.1.kept (grown_below hb2 none) (by simp), (hb2.block _ (by omega)).trans HCA1.out.2.2.1, (hb2.block _ (by omega)).trans HCA1.out.2.2.2.1, (hb2.block _ (by omega)).trans HCA1.out.2.2.2.2, own_low hrow (by omega), fun p => own_low (hord p) (by omega), HB1.out.trans (hb2.mono (by omega))⟩
  clear hpc hσ1 hσ2 hrow hord hsh hb2 HCA1 HB1 HW1 t0 t1 t2 t3 hσl hs1 HS1 hs2 hl1
  go_wp2
  go_loopw [19] (fun v19 wr => ∃ (j : Nat) (v : Value), j ≤ n ∧ v19 = .int .i64 (j : Nat) ∧ Hid (CaAt w #[.slice a C.length cap, .int .i64 loops, .slice (some ⟨gF, 0, none⟩) (2 * C.length + 1) cF, .slice (some ⟨gT, 0, none⟩) (2 * C.length + 1) cT] loops gL n vals (fun p => (leT C P p C.length).1) σ (canF C [] (preO (fun p => (leT C P p C.length).1) σ j 0)) (canGo C [] (preO (fun p => (leT C P p C.length).1) σ j 0)) v wr)) (fun v19 _ => n - (intOf v19).toNat)
  case atStart => exact ⟨0, _, Nat.zero_le _, rfl, HC2.out⟩
  case round =>
    clear HC2
    rename World => W3
    obtain ⟨j, v, hjn, rfl, hca⟩ := hrel
    have hsz := hca.out.sz
    have hgL := hca.out.row.lt gL rfl
    by_cases hjl : j < n
    · have hg := tvs_get vals σ j (by rw [HSL.out]; exact hjl)
      have e0 := (hca.out.row.cellAt (j * 2) (by omega)).trans hg.1
      have e1 := (hca.out.row.cellAt (j * 2 + 1) (by omega)).trans hg.2
      obtain ⟨p, hp⟩ : ∃ p, σ.getD j 0 = p := ⟨_, rfl⟩
      have HPJ : Hid (σ.getD j 0 = p) := hp
      rw [hp] at e0 e1
      obtain ⟨ao, co, eo⟩ := own_capS (hca.out.ord p)
      obtain ⟨ac, nc, cc, ec⟩ := HSH.out p
      rw [eo] at e0
      rw [ec] at e1
      have HOR : Hid (∀ W, CaAt w #[.slice a C.length cap, .int .i64 loops, .slice (some ⟨gF, 0, none⟩) (2 * C.length + 1) cF, .slice (some ⟨gT, 0, none⟩) (2 * C.length + 1) cT] loops gL n vals (fun p => (leT C P p C.length).1) σ (canF C [] (preO (fun p => (leT C P p C.length).1) σ j 0)) (canGo C [] (preO (fun p => (leT C P p C.length).1) σ j 0)) v W → True) := fun _ _ => trivial
      obtain ⟨O, hO⟩ : ∃ O, (leT C P p C.length).1 = O := ⟨_, rfl⟩
      have HO : Hid ((leT C P p C.length).1 = O) := hO
      simp only [hO] at e0 eo
      have hOl : O.length ≤ 16 ∧ ∀ x ∈ O, x < C.length := by rw [← hO]; exact HFW.out p
      have hOl1 := hOl.1
      have HOL : Hid (∀ x ∈ O, x < C.length) := hOl.2
      have hji : (j : Int) < (n : Int) := by omega
      have hgL2 := hgL.2
      have HOW : Hid ((vals p).1 = .slice ao O.length co) := eo
      obtain ⟨W4, hW4⟩ : ∃ W4, W4 = W3.alloc (.cells #[.slice ao O.length co, .slice ac nc cc] 148) := ⟨_, rfl⟩
      have HW4 : Hid (W4 = W3.alloc (.cells #[.slice ao O.length co, .slice ac nc cc] 148)) := hW4
      have hT4 : W4.heap[W3.heap.size]? = some (.cells #[.slice ao O.length co, .slice ac nc cc] 148 (0, 0)) := by rw [hW4]; exact alloc_at rfl
      have HC4 : Hid (CaAt w #[.slice a C.length cap, .int .i64 loops, .slice (some ⟨gF, 0, none⟩) (2 * C.length + 1) cF, .slice (some ⟨gT, 0, none⟩) (2 * C.length + 1) cT] loops gL n vals (fun p => (leT C P p C.length).1) σ (canF C [] (preO (fun p => (leT C P p C.length).1) σ j 0)) (canGo C [] (preO (fun p => (leT C P p C.length).1) σ j 0)) v W4) := (by rw [hW4]; exact hca.out.any (World.grownBy_alloc _ _ none) : CaAt w #[.slice a C.length cap, .int .i64 loops, .slice (some ⟨gF, 0, none⟩) (2 * C.length + 1) cF, .slice (some ⟨gT, 0, none⟩) (2 * C.length + 1) cT] loops gL n vals (fun p => (leT C P p C.length).1) σ (canF C [] (preO (fun p => (leT C P p C.length).1) σ j 0)) (canGo C [] (preO (fun p => (leT C P p C.length).1) σ j 0)) v W4)
      have b0 : W4.cell? ⟨W3.heap.size, 0, none⟩ = some (.slice ao O.length co) := block_cell hT4 rfl
      have b1 : W3.heap.size < W4.heap.size := (Array.getElem?_eq_some_iff.1 hT4).1
      clear hp hO eo ec hOl hW4 hg HOR hgL hT4
      go_upto_region 7 with (fail)
      rw [← HW4.out]
      clear HW4 e0 e1
      go_wp2
      have hdj : decide ((j : Int) < (n : Int)) = true := decide_eq_true hji
      go_loopw [26] (fun v26 wr => ∃ (i : Nat) (v : Value), i ≤ O.length ∧ v26 = .int .i64 (i : Nat) ∧ Hid (CaAt w #[.slice a C.length cap, .int .i64 loops, .slice (some ⟨gF, 0, none⟩) (2 * C.length + 1) cF, .slice (some ⟨gT, 0, none⟩) (2 * C.length + 1) cT] loops gL n vals (fun p => (leT C P p C.length).1) σ (canF C [] (preO (fun p => (leT C P p C.length).1) σ j i)) (canGo C [] (preO (fun p => (leT C P p C.length).1) σ j i)) v wr)) (fun v26 _ => O.length - (intOf v26).toNat)
      case atStart => exact ⟨0, _, Nat.zero_le _, rfl, HC4.out⟩
      case round =>
        clear HC4 b0 b1
        rename World => W5
        obtain ⟨i, v, hin, rfl, hcb⟩ := hrel
        have hsz5 := hcb.out.sz
        by_cases hil : i < O.length
        · obtain ⟨g, c', eg, hg1, hg2⟩ := own_block (hcb.out.ord p) (by rw [HO.out]; omega)
          rw [HOW.out] at eg
          injection eg with eg1 eg2 eg3
          clear eg2 eg3
          subst eg1
          have q0 : W5.cell? ⟨g, i, none⟩ = some (.int .i64 (O.getD i 0 : Nat)) := by
            have h := hcb.out.ord p
            rw [HOW.out, HO.out] at h
            exact (h.cellAt i (by omega)).trans (nats_get O i hil)
          have hcl : O.getD i 0 < C.length := HOL.out _ (by rw [List.getD_eq_getElem?_getD, List.getElem?_eq_getElem hil]; exact List.getElem_mem hil)
          have HPN : Hid (preO (fun p => (leT C P p C.length).1) σ j (i + 1) = preO (fun p => (leT C P p C.length).1) σ j i ++ [O.getD i 0]) := (by
            have h := preO_next (fun p => (leT C P p C.length).1) σ j i
            simp only [HPJ.out, HO.out] at h
            exact h hil : preO (fun p => (leT C P p C.length).1) σ j (i + 1) = preO (fun p => (leT C P p C.length).1) σ j i ++ [O.getD i 0])
          obtain ⟨c, hc⟩ : ∃ c, O.getD i 0 = c := ⟨_, rfl⟩
          rw [hc] at q0 hcl HPN
          have hpl := HPL.out j i hjn
          have hFl := canF_len C [] (preO (fun p => (leT C P p C.length).1) σ j i)
          have hAl := canGo_len C [] (preO (fun p => (leT C P p C.length).1) σ j i)
          have HGN := canGo_snoc C [] (preO (fun p => (leT C P p C.length).1) σ j i) c
          have HFN := canF_snoc C [] (preO (fun p => (leT C P p C.length).1) σ j i) c
          rw [← HPN.out] at HGN HFN
          obtain ⟨F, hF⟩ : ∃ F, canF C [] (preO (fun p => (leT C P p C.length).1) σ j i) = F := ⟨_, rfl⟩
          obtain ⟨acc, hacc⟩ : ∃ acc, canGo C [] (preO (fun p => (leT C P p C.length).1) σ j i) = acc := ⟨_, rfl⟩
          rw [hF] at hcb hFl HFN
          rw [hacc] at hcb hAl
          rw [hF, hacc] at HGN
          obtain ⟨b, off, ea, hbw, hC⟩ := HCR.out W5 hcb.out.bel (by omega)
          subst ea
          obtain ⟨x0, x1, x2, x3, x4⟩ := hC c hcl
          have HRG : Hid (∀ k, k < 4 → 0 ≤ (C.getD c Cr.none).arc k ∧ (C.getD c Cr.none).arc k ≤ 1000) := fun k hk => by have h := may_fit HM.out c k hcl hk; have := h.1; have := h.2.1; omega
          obtain ⟨x, hx⟩ : ∃ x, C.getD c Cr.none = x := ⟨_, rfl⟩
          rw [hx] at x0 x1 x2 x3 x4 HRG HGN HFN
          have HGN' : Hid (canGo C [] (preO (fun p => (leT C P p C.length).1) σ j (i + 1)) = acc ++ [canX F x]) := HGN
          have HFN' : Hid (canF C [] (preO (fun p => (leT C P p C.length).1) σ j (i + 1)) = addN F x 4) := HFN
          have hF9 : F.length ≤ 9000 := by simp only [List.length_nil] at hFl; omega
          have ha9 : acc.length ≤ 1000 := by omega
          clear hc hF hacc hx HGN HFN hFl hAl hpl hC
          obtain ⟨a3, c3, ev3⟩ := own_capS hcb.out.out.row
          subst ev3
          have t0 : W5.cell? ⟨w.heap.size, 0, none⟩ = some (.slice (some ⟨b, off, none⟩) C.length cap) := block_cell hcb.out.dra rfl
          have u0 : W5.cell? ⟨w.heap.size + 2, 0, none⟩ = some (.slice a3 acc.length c3) := block_cell hcb.out.out.box rfl
          have hli : (i : Int) < (O.length : Int) := by omega
          have hlc : (c : Int) < (C.length : Int) := by omega
          have hl0 : w.heap.size < W5.heap.size := by omega
          have hl2 : w.heap.size + 2 < W5.heap.size := by omega
          have hdi : decide ((i : Int) < (O.length : Int)) = true := decide_eq_true hli
          have hdi2 : decide (i < O.length) = true := decide_eq_true hil
          have HVD : Hid (W5.drew.heap[w.heap.size + 4]? = some (.cells #[.map (some (w.heap.size + 3))] 143 (0, 0)) ∧ MapA W5.drew (w.heap.size + 3) F) := ⟨hcb.out.var, hcb.out.map.kept (grown_below ((Below.refl _ _).drew) none) (by simp)⟩
          go_upto_region 10 with (fail)
          clear q0
          obtain ⟨y, hy⟩ : ∃ y, canX F x = y := ⟨_, rfl⟩
          have HYY : Hid (canX F x = y) := hy
          have HYP : Hid (y.plus = x.plus) := (by rw [← hy]; rfl : y.plus = x.plus)
          clear hy
          apply cut_told
          case h =>
            intro key
            go_region_law (first
              | (refine step_append_own rfl (.tmp 31) (.tmp 40) 22 rfl (w.heap.size + 5) 71 i0 (.agg #[.int .i64 0, .int .i64 0, .int .i64 0, .int .i64 0, .bool false]) 5 40 Try.underlying22 hi hz0 hz1 hz2 rfl (by decide) _ acc.length _ (by simp [Act.eval]) (HCA.out.out.row.alloc _) ⟨wA.heap.size, 0, none⟩ 1 1 [.int .i64 y.a, .int .i64 y.b, .int .i64 y.c, .int .i64 y.d, .bool x.plus] (by simp [Act.eval]) rfl (new_cell5 _ _ _ _ _ _ _) (cells_one [⟨y.a, y.b, y.c, y.d, x.plus⟩]) (by unfold maxLen; omega) (by omega) (by simp; omega) ?_; intro v8 w8 hown8 hg8
                 have HOW8 : Hid (w8.ownsRow (w.heap.size + 5) 71 5 v8 (acc.length + 1) (crossCells acc ++ crossCells [⟨y.a, y.b, y.c, y.d, x.plus⟩])) := hown8
                 have HG8 : Hid ((wA.alloc (.cells #[.int .i64 y.a, .int .i64 y.b, .int .i64 y.c, .int .i64 y.d, .bool x.plus] 71)).grownBy w8 (Value.slice a3 acc.length c3).ownBlock) := hg8
                 obtain ⟨a8, c8, ev8⟩ := own_capS HOW8.out
                 subst ev8
                 have hb8 := HCA.out.out.box8 (by omega) HG8.out
                 have r0 : w8.cell? ⟨w.heap.size + 2, 0, none⟩ = some (.slice a3 acc.length c3) := block_cell hb8 rfl
                 have r1 : w8.frozen? ⟨w.heap.size + 2, 0, none⟩ = false := block_frozen hb8
                 have r2 : w.heap.size + 2 < w8.heap.size := (Array.getElem?_eq_some_iff.1 hb8).1
                 clear hown8 hg8 hb8)
              | (go_simp; go_at_call 100; refine (renumbered_can x (w.heap.size + 4) (w.heap.size + 3) F _ HRG.out hF9 HVD.out.1 HVD.out.2).mono ?_; rw [HYY.out]; rintro e9 wA ⟨rfl, hmA, hgA⟩
                 have HCA : Hid (CaAt w #[.slice (some ⟨b, off, none⟩) C.length cap, .int .i64 loops, .slice (some ⟨gF, 0, none⟩) (2 * C.length + 1) cF, .slice (some ⟨gT, 0, none⟩) (2 * C.length + 1) cT] loops gL n vals (fun p => (leT C P p C.length).1) σ (addN F x 4) acc (.slice a3 acc.length c3) wA) := (hcb.out.any (grown_below ((Below.refl _ _).drew) none)).call hgA hmA
                 have a0 : wA.cell? ⟨w.heap.size + 2, 0, none⟩ = some (.slice a3 acc.length c3) := block_cell HCA.out.out.box rfl
                 have a1 : w.heap.size + 2 < wA.heap.size := (Array.getElem?_eq_some_iff.1 HCA.out.out.box).1
                 have a2 : w.heap.size + 5 ≤ wA.heap.size := HCA.out.sz
                 clear hmA hgA))
            all_goals
              have HNX : Hid (CaAt w #[.slice (some ⟨b, off, none⟩) C.length cap, .int .i64 loops, .slice (some ⟨gF, 0, none⟩) (2 * C.length + 1) cF, .slice (some ⟨gT, 0, none⟩) (2 * C.length + 1) cT] loops gL n vals (fun p => (leT C P p C.length).1) σ (addN F x 4) (acc ++ [(⟨y.a, y.b, y.c, y.d, x.plus⟩ : Cr)]) (.slice a8 (acc.length + 1) c8) (w8.setCell ⟨w.heap.size + 2, 0, none⟩ (.slice a8 (acc.length + 1) c8))) := HCA.out.app HOW8.out HG8.out
              clear r0 r1 r2 a0 a1 a2 HCA HOW8 HG8
              generalize w8.setCell ⟨w.heap.size + 2, 0, none⟩ (.slice a8 (acc.length + 1) c8) = W9 at HNX ⊢
              generalize wA.heap.size = zA
              revert a8 c8 W9 zA
              exact key.out
          intro a8 c8 W9 HNX zA
          have HYE : Hid ((⟨y.a, y.b, y.c, y.d, x.plus⟩ : Cr) = canX F x) := (by rw [← HYP.out, HYY.out] : (⟨y.a, y.b, y.c, y.d, x.plus⟩ : Cr) = canX F x)
          have HNN : Hid (CaAt w #[.slice (some ⟨b, off, none⟩) C.length cap, .int .i64 loops, .slice (some ⟨gF, 0, none⟩) (2 * C.length + 1) cF, .slice (some ⟨gT, 0, none⟩) (2 * C.length + 1) cT] loops gL n vals (fun p => (leT C P p C.length).1) σ (canF C [] (preO (fun p => (leT C P p C.length).1) σ j (i + 1))) (canGo C [] (preO (fun p => (leT C P p C.length).1) σ j (i + 1))) (.slice a8 (acc.length + 1) c8) W9) := (by rw [HGN'.out, HFN'.out, ← HYE.out]; exact HNX.out : CaAt w #[.slice (some ⟨b, off, none⟩) C.length cap, .int .i64 loops, .slice (some ⟨gF, 0, none⟩) (2 * C.length + 1) cF, .slice (some ⟨gT, 0, none⟩) (2 * C.length + 1) cT] loops gL n vals (fun p => (leT C P p C.length).1) σ (canF C [] (preO (fun p => (leT C P p C.length).1) σ j (i + 1))) (canGo C [] (preO (fun p => (leT C P p C.length).1) σ j (i + 1))) (.slice a8 (acc.length + 1) c8) W9)
          clear x0 x1 x2 x3 x4 t0 u0
          go_wp2
          go_roundw
          case rel => exact ⟨i + 1, _, by omega, by go_num, HNN.out⟩
          case measure => simp only [intOf]; omega
        · obtain rfl : i = O.length := by omega
          have HPR : Hid (preO (fun p => (leT C P p C.length).1) σ j O.length = preO (fun p => (leT C P p C.length).1) σ (j + 1) 0) := (by
            have h := preO_row (fun p => (leT C P p C.length).1) σ j (by rw [HSL.out]; exact hjl)
            simp only [HPJ.out, HO.out] at h
            exact h : preO (fun p => (leT C P p C.length).1) σ j O.length = preO (fun p => (leT C P p C.length).1) σ (j + 1) 0)
          have HCN : Hid (CaAt w #[.slice a C.length cap, .int .i64 loops, .slice (some ⟨gF, 0, none⟩) (2 * C.length + 1) cF, .slice (some ⟨gT, 0, none⟩) (2 * C.length + 1) cT] loops gL n vals (fun p => (leT C P p C.length).1) σ (canF C [] (preO (fun p => (leT C P p C.length).1) σ (j + 1) 0)) (canGo C [] (preO (fun p => (leT C P p C.length).1) σ (j + 1) 0)) v W5) := (by rw [← HPR.out]; exact hcb.out : CaAt w #[.slice a C.length cap, .int .i64 loops, .slice (some ⟨gF, 0, none⟩) (2 * C.length + 1) cF, .slice (some ⟨gT, 0, none⟩) (2 * C.length + 1) cT] loops gL n vals (fun p => (leT C P p C.length).1) σ (canF C [] (preO (fun p => (leT C P p C.length).1) σ (j + 1) 0)) (canGo C [] (preO (fun p => (leT C P p C.length).1) σ (j + 1) 0)) v W5)
          go_wp2
          go_roundw
          case rel => exact ⟨j + 1, _, by omega, by go_num, HCN.out⟩
          case measure => simp only [intOf]; omega
    · obtain rfl : j = n := by omega
      have HPE : Hid (preO (fun p => (leT C P p C.length).1) σ j 0 = ((σ.map fun p => (leT C P p C.length).1).flatten)) := (by unfold preO; rw [List.take_zero, List.append_nil, ← HSL.out, List.take_length] : preO (fun p => (leT C P p C.length).1) σ j 0 = ((σ.map fun p => (leT C P p C.length).1).flatten))
      rw [HPE.out] at hca
      obtain ⟨acc, hacc⟩ : ∃ acc, canGo C [] ((σ.map fun p => (leT C P p C.length).1).flatten) = acc := ⟨_, rfl⟩
      have HAC : Hid (canGo C [] ((σ.map fun p => (leT C P p C.length).1).flatten) = acc) := hacc
      rw [hacc] at hca
      clear hacc
      obtain ⟨a3, c3, ev3⟩ := own_capS hca.out.out.row
      subst ev3
      have u0 : W3.cell? ⟨w.heap.size + 2, 0, none⟩ = some (.slice a3 acc.length c3) := block_cell hca.out.out.box rfl
      have u1 : W3.cell? ⟨w.heap.size + 2, 1, none⟩ = some (.int .i64 loops) := block_cell hca.out.out.box rfl
      have r0 : W3.cell? ⟨w.heap.size + 1, 0, none⟩ = some (.slice none 0 0) := block_cell hca.out.res rfl
      have r1 : W3.cell? ⟨w.heap.size + 1, 1, none⟩ = some (.int .i64 0) := block_cell hca.out.res rfl
      have r2 : W3.frozen? ⟨w.heap.size + 1, 0, none⟩ = false := block_frozen hca.out.res
      have r3 : W3.frozen? ⟨w.heap.size + 1, 1, none⟩ = false := block_frozen hca.out.res
      have hl1 : w.heap.size + 1 < W3.heap.size := by omega
      have hl2 : w.heap.size + 2 < W3.heap.size := by omega
      clear hgL
      go_wp2
      have hX := st_block (a := .slice a3 acc.length c3) (b := .int .i64 loops) hca.out.res
      have x0 := block_cell (i := 0) (v := .slice a3 acc.length c3) hX rfl
      have x1 := block_cell (i := 1) (v := .int .i64 loops) hX rfl
      have hG : W3.grownBy ((W3.setCell ⟨w.heap.size + 1, 0, none⟩ (.slice a3 acc.length c3)).setCell ⟨w.heap.size + 1, 1, none⟩ (.int .i64 loops)) (some (w.heap.size + 1)) := grown_trans (set_grown _ _ _ _) (set_grown _ _ _ _)
      refine bodyPost_ret (v := .agg #[.slice a3 acc.length c3, .int .i64 loops]) (by simp [results, Try.results73, go_sem, x0, x1]) rfl ⟨_, j, P, σ, rfl, HPC.out, HS.out.1, HS.out.2, ?_, ?_⟩
      · rw [HAC.out]
        exact own_low (hca.out.out.row.kept hG (Or.inr (fun e => by have := (hca.out.out.row.lt _ e).1; omega))) (by omega)
      · exact hca.out.bel.grown hG hca.out.bel.size (fun q hq => by have := Option.some.inj hq; omega)
end Go.Proofs.Ytagaajlbkfkaiaa
/- What ref.CanonForm reckons: least tellings of pieces by their codes. -/
namespace Go.Proofs.Ytagaajlbkfkaiaa
open Go.RowKit

theorem teI_len9 {C : List Cr} (f i : Nat) : (i ≤ (teI C f i).1.length ∧ (teI C f i).2.length = 9 * i) ∨ ((teI C f i).1.length ≤ i ∧ (teI C f i).2.length = 9 * (teI C f i).1.length) := by
  induction i with
  | zero => exact Or.inl ⟨Nat.zero_le _, rfl⟩
  | succ i ih =>
    rw [teI]
    by_cases h : i < (teI C f i).1.length
    · rw [if_pos h]
      have hp := (teK_pre C i (teI C f i) 4).length_le
      have hl := teK_len C i (teI C f i) 4
      rcases ih with ⟨a, b⟩ | ⟨a, b⟩
      · exact Or.inl ⟨by omega, by omega⟩
      · omega
    · rw [if_neg h]
      rcases ih with ⟨a, b⟩ | ⟨a, b⟩
      · exact Or.inr ⟨by omega, by omega⟩
      · exact Or.inr ⟨by omega, b⟩
/-- The crossings below p that are the least of their pieces. -/
def hdTo (V : List Nat) : Nat → List Nat
  | 0 => []
  | p + 1 => if V.getD p 0 = p then hdTo V p ++ [p] else hdTo V p
def wI (V : List Nat) : List Int := V.map fun x : Nat => (x : Int)
theorem wI_at (V : List Nat) (k : Nat) (hk : k < V.length) : (wI V).getD k 0 = (V.getD k 0 : Int) := by
  simp [wI, List.getD, hk]
/-- The codes and orders of the pieces so far. -/
structure RfAt (B : Nat) (Hc Ho : List Nat) (T : Nat → List Nat × List Int) (v4 v5 : Value) (cs os : List Value) (W : World) : Prop where
  cl : cs.length = Hc.length
  ol : os.length = Ho.length
  cr : W.ownsRow B 46 1 v4 Hc.length cs
  orr : W.ownsRow B 46 1 v5 Ho.length os
  c : ∀ i, i < Hc.length → W.ownsRow B 3 1 (cs.getD i (.bool false)) (T (Hc.getD i 0)).2.length (intsV (T (Hc.getD i 0)).2)
  o : ∀ i, i < Ho.length → W.ownsRow B 3 1 (os.getD i (.bool false)) (T (Ho.getD i 0)).1.length (nats (T (Ho.getD i 0)).1)
  ne : v4.ownBlock = none ∨ v4.ownBlock ≠ v5.ownBlock
section
variable {B : Nat} {Hc Ho : List Nat} {T : Nat → List Nat × List Int} {v4 v5 : Value} {cs os : List Value} {W : World}
theorem RfAt.any {W' : World} (h : RfAt B Hc Ho T v4 v5 cs os W) (hg : W.grownBy W' none) : RfAt B Hc Ho T v4 v5 cs os W' :=
  ⟨h.cl, h.ol, own_any h.cr hg, own_any h.orr hg, fun i hi => own_any (h.c i hi) hg, fun i hi => own_any (h.o i hi) hg, h.ne⟩
/-- What changes a row of another kind alone leaves all. -/
theorem RfAt.kept {W' : World} {B' e n s : Nat} {u : Value} {xs : List Value} (h : RfAt B Hc Ho T v4 v5 cs os W) (ho : W.ownsRow B' e s u n xs) (he1 : e ≠ 3) (he2 : e ≠ 46) (hg : W.grownBy W' u.ownBlock) : RfAt B Hc Ho T v4 v5 cs os W' :=
  ⟨h.cl, h.ol, h.cr.kept hg (own_ne h.cr ho (fun e => he2 e.symm)), h.orr.kept hg (own_ne h.orr ho (fun e => he2 e.symm)), fun i hi => (h.c i hi).kept hg (own_ne (h.c i hi) ho (fun e => he1 e.symm)), fun i hi => (h.o i hi).kept hg (own_ne (h.o i hi) ho (fun e => he1 e.symm)), h.ne⟩
/-- What changes a block that none of the rows is leaves all. -/
theorem RfAt.low {W' : World} {q : Nat} (h : RfAt B Hc Ho T v4 v5 cs os W) (hq : q < B) (hg : W.grownBy W' (some q)) : RfAt B Hc Ho T v4 v5 cs os W' := by
  have hl : ∀ {e s k : Nat} {u : Value} {xs : List Value}, W.ownsRow B e s u k xs → u.ownBlock = none ∨ u.ownBlock ≠ some q := fun ho => Or.inr (fun e => by have := (ho.lt _ e).1; omega)
  exact ⟨h.cl, h.ol, h.cr.kept hg (hl h.cr), h.orr.kept hg (hl h.orr), fun i hi => (h.c i hi).kept hg (hl (h.c i hi)), fun i hi => (h.o i hi).kept hg (hl (h.o i hi)), h.ne⟩
theorem getD_snoc_lt {α : Type} (l : List α) (x d : α) (i : Nat) (h : i < l.length) : (l ++ [x]).getD i d = l.getD i d := by simp [List.getD, List.getElem?_append_left h]
theorem getD_snoc_eq {α : Type} (l : List α) (x d : α) : (l ++ [x]).getD l.length d = x := by simp [List.getD]
theorem RfAt.code {p g k cap H : Nat} {u : Value} {W8 : World} (h : RfAt B Hc Ho T v4 v5 cs os W) (hk : k = Hc.length + 1) (hu : W.ownsRow B 3 1 u (T p).2.length (intsV (T p).2)) (hown : W8.ownsRow B 46 1 (.slice (some ⟨g, 0, none⟩) k cap) k (cs ++ [u])) (hg : W.grownBy W8 v4.ownBlock) (hl : v4.ownBlock = some g ∨ g = H) (hH : W.heap.size = H) :
    RfAt B (Hc ++ [p]) Ho T (.slice (some ⟨g, 0, none⟩) k cap) v5 (cs ++ [u]) os W8 := by
  subst hk
  have hv : v5.ownBlock = none ∨ v5.ownBlock ≠ v4.ownBlock := by
    cases hv : v5.ownBlock with
    | none => exact Or.inl rfl
    | some q =>
      refine Or.inr (fun e => ?_)
      have := h.ne
      rw [hv, ← e] at this
      rcases this with h1 | h1
      · cases h1
      · exact h1 rfl
  have hI : ∀ {n : Nat} {v : Value} {xs : List Value}, W.ownsRow B 3 1 v n xs → W8.ownsRow B 3 1 v n xs := fun ho => ho.kept hg (own_ne ho h.cr (by decide))
  refine ⟨by simp [h.cl], h.ol, by simpa using hown, h.orr.kept hg hv, fun i hi => ?_, fun i hi => hI (h.o i hi), ?_⟩
  · by_cases e : i < Hc.length
    · rw [getD_snoc_lt _ _ _ _ e, getD_snoc_lt _ _ _ _ (by rw [h.cl]; exact e)]
      exact hI (h.c i e)
    · have e2 : i = Hc.length := by simp at hi; omega
      subst e2
      rw [getD_snoc_eq, ← h.cl, getD_snoc_eq]
      exact hI hu
  · refine Or.inr (fun e => ?_)
    have e' : some g = v5.ownBlock := e
    rcases hl with hl | hl
    · rcases hv with h1 | h1
      · rw [h1] at e'; cases e'
      · exact h1 (by rw [hl, ← e'])
    · have h1 := (h.orr.lt g e'.symm).2
      omega
theorem RfAt.order {p g k cap H : Nat} {u : Value} {W8 : World} (h : RfAt B Hc Ho T v4 v5 cs os W) (hk : k = Ho.length + 1) (hu : W.ownsRow B 3 1 u (T p).1.length (nats (T p).1)) (hown : W8.ownsRow B 46 1 (.slice (some ⟨g, 0, none⟩) k cap) k (os ++ [u])) (hg : W.grownBy W8 v5.ownBlock) (hl : v5.ownBlock = some g ∨ g = H) (hH : W.heap.size = H) :
    RfAt B Hc (Ho ++ [p]) T v4 (.slice (some ⟨g, 0, none⟩) k cap) cs (os ++ [u]) W8 := by
  subst hk
  have hI : ∀ {n : Nat} {v : Value} {xs : List Value}, W.ownsRow B 3 1 v n xs → W8.ownsRow B 3 1 v n xs := fun ho => ho.kept hg (own_ne ho h.orr (by decide))
  refine ⟨h.cl, by simp [h.ol], h.cr.kept hg h.ne, by simpa using hown, fun i hi => hI (h.c i hi), fun i hi => ?_, ?_⟩
  · by_cases e : i < Ho.length
    · rw [getD_snoc_lt _ _ _ _ e, getD_snoc_lt _ _ _ _ (by rw [h.ol]; exact e)]
      exact hI (h.o i e)
    · have e2 : i = Ho.length := by simp at hi; omega
      subst e2
      rw [getD_snoc_eq, ← h.ol, getD_snoc_eq]
      exact hI hu
  · rcases hl with hl | hl
    · rcases h.ne with h1 | h1
      · exact Or.inl h1
      · refine Or.inr (fun e => h1 ?_)
        rw [hl]
        exact e
    · cases hv : v4.ownBlock with
      | none => exact Or.inl rfl
      | some q =>
        refine Or.inr (fun e => ?_)
        have h1 := (h.cr.lt q hv).2
        have h2 : q = g := Option.some.inj e
        omega
end
end Go.Proofs.Ytagaajlbkfkaiaa
/- What a code tells: mathematics. Pieces of the same code have, numbered as they are told, the same crossings. -/
namespace Go.Proofs.Ytagaajlbkfkaiaa

theorem enS_one {C : List Cr} {loops : Int} (hm : mayD C loops = true) (k s : Nat) (hk : k < C.length) (hs : s < 4) : enS C ((C.getD k Cr.none).arc s).toNat ((C.getD k Cr.none).comes s) = s := by
  have hf := may_fit hm k s hk hs
  have g1 := hf.1
  have g2 := hf.2.1
  have e := end_one hm ((C.getD k Cr.none).arc s).toNat (by omega) (by omega) ((C.getD k Cr.none).comes s) k s hk hs (by omega) rfl
  unfold enS
  rw [e]
  rfl
/-- Two spots have the same arc just if they are one, or each the other's end. -/
theorem spot_eq {C : List Cr} {loops : Int} (hm : mayD C loops = true) {c s d t : Nat} (hc : c < C.length) (hs : s < 4) (hd : d < C.length) (ht : t < 4) (h : arcN (C.getD c Cr.none) s = arcN (C.getD d Cr.none) t) : (c = d ∧ s = t) ∨ (nbC C c s = d ∧ nbS C c s = t) := by
  unfold arcN at h
  have a1 := (en_one hm c s hc hs).2.2
  have a2 := enS_one hm c s hc hs
  have b1 := (en_one hm d t hd ht).2.2
  have b2 := enS_one hm d t hd ht
  by_cases e : (C.getD c Cr.none).comes s = (C.getD d Cr.none).comes t
  · left
    rw [h, e] at a1 a2
    exact ⟨a1.symm.trans b1, a2.symm.trans b2⟩
  · right
    have e2 : (!(C.getD c Cr.none).comes s) = (C.getD d Cr.none).comes t := by
      cases h1 : (C.getD c Cr.none).comes s <;> cases h2 : (C.getD d Cr.none).comes t <;> simp_all
    unfold nbC nbS
    rw [h, e2]
    exact ⟨b1, b2⟩
theorem spot_nb {C : List Cr} {loops : Int} (hm : mayD C loops = true) {c s : Nat} (hc : c < C.length) (hs : s < 4) : arcN (C.getD (nbC C c s) Cr.none) (nbS C c s) = arcN (C.getD c Cr.none) s := by
  have h := en_one hm c s hc hs
  have g := (en_may hm _ (!(C.getD c Cr.none).comes s) h.1 h.2.1).2.2.2.1
  unfold arcN nbC nbS
  rw [g]
  rfl
/-- What is told of crossing number l. -/
structure ToldAt (C : List Cr) (p : List Nat × List Int) (l : Nat) : Prop where
  sg : p.2.getD (9 * l) 0 = if (C.getD (p.1.getD l 0) Cr.none).plus = true then 1 else 0
  mem : ∀ s, s < 4 → nbC C (p.1.getD l 0) s ∈ p.1
  nb : ∀ s, s < 4 → p.2.getD (9 * l + 1 + 2 * s) 0 = (p.1.idxOf (nbC C (p.1.getD l 0) s) : Int)
  side : ∀ s, s < 4 → p.2.getD (9 * l + 2 + 2 * s) 0 = (nbS C (p.1.getD l 0) s : Int)
theorem getD_pre {α : Type} {a b : List α} (h : a <+: b) (i : Nat) (hi : i < a.length) (d : α) : b.getD i d = a.getD i d := by
  obtain ⟨t, rfl⟩ := h
  simp [List.getD, List.getElem?_append_left hi]
theorem idxOf_pre {a b : List Nat} (h : a <+: b) {x : Nat} (hx : x ∈ a) : b.idxOf x = a.idxOf x := by
  obtain ⟨t, rfl⟩ := h
  rw [List.idxOf_append, if_pos hx]
theorem ToldAt.ext {C : List Cr} {p q : List Nat × List Int} {l : Nat} (h : ToldAt C p l) (h1 : p.1 <+: q.1) (h2 : p.2 <+: q.2) (hl : l < p.1.length) (hc : 9 * l + 9 ≤ p.2.length) : ToldAt C q l := by
  have e := getD_pre h1 l hl 0
  refine ⟨?_, fun s hs => ?_, fun s hs => ?_, fun s hs => ?_⟩
  · rw [e, getD_pre h2 _ (by omega)]; exact h.sg
  · rw [e]; exact h1.subset (h.mem s hs)
  · rw [e, getD_pre h2 _ (by omega), idxOf_pre h1 (h.mem s hs)]; exact h.nb s hs
  · rw [e, getD_pre h2 _ (by omega)]; exact h.side s hs
theorem teS_pre2 (C : List Cr) (c : Nat) (p : List Nat × List Int) (s : Nat) : p.2 <+: (teS C c p s).2 := List.prefix_append _ _
theorem teK_pre2 (C : List Cr) (i : Nat) (p : List Nat × List Int) (k : Nat) : p.2 <+: (teK C i p k).2 := by
  induction k with
  | zero => exact List.prefix_append _ _
  | succ k ih => exact ih.trans (teS_pre2 _ _ _ _)
theorem teK_told (C : List Cr) (i : Nat) (p : List Nat × List Int) (hi : i < p.1.length) (hc : p.2.length = 9 * i) : ToldAt C (teK C i p 4) i := by
  have hp1 : p.1 <+: (teK C i p 4).1 := teK_pre C i p 4
  have ei : (teK C i p 4).1.getD i 0 = p.1.getD i 0 := getD_pre hp1 i hi 0
  have step : ∀ k, k ≤ 4 → (teK C i p k).2.getD (9 * i) 0 = (if (C.getD (p.1.getD i 0) Cr.none).plus = true then 1 else 0) ∧ ∀ s, s < k → nbC C (p.1.getD i 0) s ∈ (teK C i p k).1 ∧ (teK C i p k).2.getD (9 * i + 1 + 2 * s) 0 = ((teK C i p k).1.idxOf (nbC C (p.1.getD i 0) s) : Int) ∧ (teK C i p k).2.getD (9 * i + 2 + 2 * s) 0 = (nbS C (p.1.getD i 0) s : Int) := by
    intro k
    induction k with
    | zero =>
      intro _
      refine ⟨?_, fun s hs => absurd hs (Nat.not_lt_zero _)⟩
      rw [teK, ← hc]
      simp [List.getD]
    | succ k ih =>
      intro hk
      obtain ⟨g1, g2⟩ := ih (by omega)
      have hl := teK_len C i p k
      have q1 : (teK C i p k).1 <+: (teK C i p (k + 1)).1 := teS_pre _ _ _ _
      have q2 : (teK C i p k).2 <+: (teK C i p (k + 1)).2 := teS_pre2 _ _ _ _
      refine ⟨by rw [getD_pre q2 _ (by omega)]; exact g1, fun s hs => ?_⟩
      by_cases e : s < k
      · obtain ⟨m1, m2, m3⟩ := g2 s e
        exact ⟨q1.subset m1, by rw [getD_pre q2 _ (by omega), idxOf_pre q1 m1]; exact m2, by rw [getD_pre q2 _ (by omega)]; exact m3⟩
      · have e2 : s = k := by omega
        subst e2
        rw [teK]
        unfold teS
        simp only
        generalize hO : (if nbC C (p.1.getD i 0) s ∈ (teK C i p s).1 then (teK C i p s).1 else (teK C i p s).1 ++ [nbC C (p.1.getD i 0) s]) = o
        have hmo : nbC C (p.1.getD i 0) s ∈ o := by
          rw [← hO]
          split
          · assumption
          · simp
        refine ⟨hmo, ?_, ?_⟩
        · rw [List.getD_eq_getElem?_getD, List.getElem?_append_right (by omega), show 9 * i + 1 + 2 * s - (teK C i p s).2.length = 0 by omega]
          rfl
        · rw [List.getD_eq_getElem?_getD, List.getElem?_append_right (by omega), show 9 * i + 2 + 2 * s - (teK C i p s).2.length = 1 by omega]
          rfl
  obtain ⟨h1, h2⟩ := step 4 (Nat.le_refl _)
  exact ⟨by rw [ei]; exact h1, fun s hs => by rw [ei]; exact (h2 s hs).1, fun s hs => by rw [ei]; exact (h2 s hs).2.1, fun s hs => by rw [ei]; exact (h2 s hs).2.2⟩
theorem teI_told (C : List Cr) (f i : Nat) : ∀ l, l < i → l < (teI C f i).1.length → ToldAt C (teI C f i) l := by
  induction i with
  | zero => intro l hl; omega
  | succ i ih =>
    intro l hl hll
    rw [teI] at hll ⊢
    by_cases h : i < (teI C f i).1.length
    · rw [if_pos h] at hll ⊢
      have h9 : (teI C f i).2.length = 9 * i := by
        rcases teI_len9 (C := C) f i with ⟨_, b⟩ | ⟨a, b⟩
        · exact b
        · omega
      by_cases e : l = i
      · subst e
        exact teK_told C l _ h h9
      · exact (ih l (by omega) (by omega)).ext (teK_pre C i _ 4) (teK_pre2 C i _ 4) (by omega) (by omega)
    · rw [if_neg h] at hll ⊢
      exact ih l (by omega) hll
theorem te_told {C : List Cr} {loops : Int} (hm : mayD C loops = true) {f : Nat} (hf : f < C.length) : ∀ l, l < (te C f).1.length → ToldAt C (te C f) l := by
  intro l hl
  have h1 := (teI_ok hm hf C.length).few
  unfold te at hl ⊢
  exact teI_told C f C.length l (by omega) hl
/-- All of a telling lies in one piece. -/
theorem teI_con {C : List Cr} {loops : Int} (hm : mayD C loops = true) {f : Nat} (hf : f < C.length) (i : Nat) : ∀ x, x ∈ (teI C f i).1 → Con (arcE C) f x := by
  induction i with
  | zero =>
    intro x hx
    have e : x = f := by simpa [teI] using hx
    rw [e]; exact Con.refl _ _
  | succ i ih =>
    rw [teI]
    by_cases h : i < (teI C f i).1.length
    · rw [if_pos h]
      have hok := teI_ok hm hf i
      have hci : (teI C f i).1.getD i 0 ∈ (teI C f i).1 := by rw [List.getD_eq_getElem?_getD, List.getElem?_eq_getElem h]; exact List.getElem_mem h
      have step : ∀ k, k ≤ 4 → ∀ x, x ∈ (teK C i (teI C f i) k).1 → Con (arcE C) f x := by
        intro k
        induction k with
        | zero => intro _ x hx; exact ih x hx
        | succ k ihk =>
          intro hk x hx
          rw [teK] at hx
          unfold teS at hx
          simp only at hx
          split at hx
          · exact ihk (by omega) x hx
          · rcases List.mem_append.1 hx with hx | hx
            · exact ihk (by omega) x hx
            · rw [List.mem_singleton.1 hx]
              exact (ih _ hci).trans (nb_con hm _ k (hok.lt _ hci) (by omega))
      exact step 4 (Nat.le_refl _)
    · rw [if_neg h]; exact ih
theorem te_con {C : List Cr} {loops : Int} (hm : mayD C loops = true) {f : Nat} (hf : f < C.length) : ∀ x, x ∈ (te C f).1 → Con (arcE C) f x := teI_con hm hf C.length
theorem te_ok {C : List Cr} {loops : Int} (hm : mayD C loops = true) {f : Nat} (hf : f < C.length) : TeOk C (te C f) := teI_ok hm hf C.length
end Go.Proofs.Ytagaajlbkfkaiaa

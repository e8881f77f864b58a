/- Several texts of the proof, one behind the other. -/
import Derived.Test.YtagaajlbkfkaiaaOmP
import Derived.Test.YtagaajlbkfkaiaaC5P
import Derived.Test.YtagaajlbkfkaiaaTShelf
import Derived.Shelf.SlSortCmp.NoneTotal
import Derived.Sort.OwnSorted
import Derived.Test.YtagaajlbkfkaiaaC6
import Derived.Test.YtagaajlbkfkaiaaF7P
/- slices.SortFunc over a row of tellings: its library contract applied. -/
namespace Go.Proofs.Ytagaajlbkfkaiaa
open Go.RowKit Go.Sort
set_option maxHeartbeats 2000000
set_option maxRecDepth 100000
theorem lexC_self (a : List Int) : lexC a a = 0 := by
 induction a with
 | nil => rfl
 | cons x s ih => rw [lexC, if_pos rfl, ih]
theorem lexC_zero : ∀ (a b : List Int), lexC a b = 0 → a = b
 | [], [], _ => rfl
 | [], _ :: _, h => by simp [lexC] at h
 | _ :: _, [], h => by simp [lexC] at h
 | x :: s, y :: t, h => by
  rw [lexC] at h
  by_cases e : x = y
  · rw [if_pos e] at h
    rw [e, lexC_zero s t h]
  · rw [if_neg e] at h
    exact absurd (cmpI_zero.1 h) e
theorem lexC_trans : ∀ (a b c : List Int), lexC a b < 0 → lexC b c < 0 → lexC a c < 0
 | [], [], _, h, _ => by simp [lexC] at h
 | [], _ :: _, [], _, h => by simp [lexC] at h
 | [], _ :: _, _ :: _, _, _ => by simp [lexC]
 | _ :: _, [], _, h, _ => by simp [lexC] at h
 | _ :: _, _ :: _, [], _, h => by simp [lexC] at h
 | x :: s, y :: t, z :: u, h1, h2 => by
  rw [lexC] at h1 h2 ⊢
  by_cases e1 : x = y
  · subst e1
    rw [if_pos rfl] at h1
    by_cases e2 : x = z
    · subst e2
      rw [if_pos rfl] at h2 ⊢
      exact lexC_trans s t u h1 h2
    · rw [if_neg e2] at h2 ⊢
      exact h2
  · rw [if_neg e1] at h1
    by_cases e2 : y = z
    · subst e2
      rw [if_neg e1]
      exact h1
    · rw [if_neg e2] at h2
      have g1 := cmpI_lt.1 h1
      have g2 := cmpI_lt.1 h2
      rw [if_neg (by omega)]
      exact cmpI_lt.2 (by omega)
theorem lexC_flip : ∀ (a b : List Int), lexC a b < 0 ∨ lexC a b = 0 ∨ lexC b a < 0
 | [], [] => Or.inr (Or.inl rfl)
 | [], _ :: _ => Or.inl (by simp [lexC])
 | _ :: _, [] => Or.inr (Or.inr (by simp [lexC]))
 | x :: s, y :: t => by
  rw [lexC, lexC]
  by_cases e : x = y
  · subst e
    rw [if_pos rfl, if_pos rfl]
    exact lexC_flip s t
  · rw [if_neg e, if_neg (fun h => e h.symm)]
    rcases Int.lt_or_gt_of_ne e with h | h
    · exact Or.inl (cmpI_lt.2 h)
    · exact Or.inr (Or.inr (cmpI_lt.2 h))
theorem lexC_ntrans (a b c : List Int) (h1 : ¬lexC a b < 0) (h2 : ¬lexC b c < 0) : ¬lexC a c < 0 := by
 intro h3
 rcases lexC_flip a b with g | g | g
 · exact h1 g
 · rw [lexC_zero _ _ g] at h3; exact h2 h3
 · rcases lexC_flip b c with k | k | k
   · exact h2 k
   · rw [← lexC_zero _ _ k] at h3; exact h1 h3
   · have h4 := lexC_trans c b a k g
     have h5 := lexC_trans a c a h3 h4
     rw [lexC_self] at h5
     exact absurd h5 (by decide)
def keyT (p : List Nat × List Int) : List Int := (p.1.length : Int) :: p.2
theorem cmpT_key (p q : List Nat × List Int) : cmpT p q = lexC (keyT p) (keyT q) := by
 unfold cmpT keyT
 rw [lexC]
 by_cases e : p.1.length = q.1.length
 · rw [if_pos e, if_pos (by omega)]
 · rw [if_neg e, if_neg (by omega)]
theorem swoT (L : Nat → List Nat × List Int) : SWO (ltOf fun x y : Nat => cmpT (L x) (L y)) where
 irrefl x := by simp only [ltOf, cmpT_key, lexC_self]; decide
 trans x y z h1 h2 := by
  simp only [ltOf, cmpT_key, decide_eq_true_eq] at *
  exact lexC_trans _ _ _ h1 h2
 ntrans x y z h1 h2 := by
  simp only [ltOf, cmpT_key, decide_eq_false_iff_not] at *
  exact lexC_ntrans _ _ _ h1 h2
def encL (vals : Nat → Value × Value) (x : Nat) : List Value := [(vals x).1, (vals x).2]
def tvs (vals : Nat → Value × Value) (l : List Nat) : List Value := l.flatMap (encL vals)
theorem tvs_len (vals : Nat → Value × Value) (l : List Nat) : (tvs vals l).length = l.length * 2 := by
 induction l with
 | nil => rfl
 | cons x l ih => simp [tvs, encL] at *; omega
theorem tvs_get (vals : Nat → Value × Value) (l : List Nat) (i : Nat) (hi : i < l.length) : (tvs vals l)[i * 2]? = some (vals (l.getD i 0)).1 ∧ (tvs vals l)[i * 2 + 1]? = some (vals (l.getD i 0)).2 := by
 induction l generalizing i with
 | nil => simp at hi
 | cons t l ih =>
  cases i with
  | zero => simp [tvs, encL]
  | succ i =>
   have := ih i (by simpa using hi)
   simp only [tvs, List.flatMap_cons] at this ⊢
   rw [List.getElem?_append_right (by simp [encL]; omega), List.getElem?_append_right (by simp [encL]; omega)]
   simpa [encL, show (i + 1) * 2 - 2 = i * 2 by omega, show (i + 1) * 2 + 1 - 2 = i * 2 + 1 by omega] using this
theorem flatK_tvs (vals : Nat → Value × Value) (d : Array Nat) : (flatK (encL vals) 2 d).toList = tvs vals d.toList := by
 apply List.ext_getElem?
 intro t
 by_cases ht : t < d.size * 2
 · have hi : t / 2 < d.toList.length := by simp; omega
   have g := tvs_get vals d.toList (t / 2) hi
   have e0 : (flatK (encL vals) 2 d)[t]! = (encL vals d[t / 2]!)[t % 2]! := get_flatK (encL vals) 2 d t ht
   have hsz : t < (flatK (encL vals) 2 d).size := by simpa using ht
   have gd : d.toList.getD (t / 2) 0 = d[t / 2]! := by
    have : t / 2 < d.size := by omega
    simp [List.getD, this]
   rw [Array.getElem?_toList, Array.getElem?_eq_getElem hsz]
   rw [getElem!_pos _ t hsz] at e0
   rw [e0]
   rcases Nat.mod_two_eq_zero_or_one t with h | h
   · have h2 : t / 2 * 2 = t := by omega
     rw [h2] at g
     rw [h, g.1, gd]
     rfl
   · have h2 : t / 2 * 2 + 1 = t := by omega
     rw [h2] at g
     rw [h, g.2, gd]
     rfl
 · rw [List.getElem?_eq_none (by simp; omega), List.getElem?_eq_none (by rw [tvs_len]; simp; omega)]
theorem holds_tell {w : World} {g : Nat} {cur : Array Value} {e : TypeId} (vals : Nat → Value × Value) {l : List Nat} (hb : w.heap[g]? = some (.cells cur e (0, 0))) (ht : cur.toList.take (l.length * 2) = tvs vals l) : HoldsK (encL vals) 2 w g 0 l.toArray := by
 intro j hj
 have hj' : j < l.length * 2 := by simpa using hj
 have hl : (flatK (encL vals) 2 l.toArray).toList = tvs vals l := flatK_tvs vals l.toArray
 refine ⟨?_, by simp [World.frozen?, hb]⟩
 have h1 : cur.toList[j]? = (flatK (encL vals) 2 l.toArray).toList[j]? := by rw [hl, ← ht, List.getElem?_take_of_lt hj']
 rw [Array.getElem?_toList, Array.getElem?_toList, Array.getElem?_eq_getElem hj] at h1
 unfold World.cell?
 rw [hb]
 simp only [Nat.zero_add, Option.isSome_none, Bool.false_eq_true, if_false]
 rw [h1, getElem!_pos _ j hj]
 rfl
theorem heap_tell {w : World} {g n : Nat} {os : Array Obj} {cur : Array Value} {e : TypeId} (vals : Nat → Value × Value) (d : Array Nat) (hb : w.heap[g]? = some (.cells cur e (0, 0))) :
    (sortWorldK (encL vals) 2 w g 0 n d os).heap[g]? = some (.cells (putCells id 0 (flatK (encL vals) 2 d) cur) e (0, 0)) := by
 have hg : g < w.heap.size := (Array.getElem?_eq_some_iff.1 hb).1
 unfold sortWorldK putRowK
 rw [heap_grow_old _ _ (by simpa using hg)]
 simp [putRow, mapBlock, Sort.ahead, Array.getElem?_modify, hb, onCells]
theorem grown_tell {w : World} {g n : Nat} {os : Array Obj} (vals : Nat → Value × Value) (d : Array Nat) : w.grownBy (sortWorldK (encL vals) 2 w g 0 n d os) (some g) := by
 refine ⟨rfl, rfl, rfl, by simp [sortWorldK, putRowK], fun k hk hne => ?_⟩
 unfold sortWorldK putRowK
 rw [heap_grow_old _ _ (by simpa using hk)]
 have : g ≠ k := fun e => hne (by rw [e])
 simp [putRow, mapBlock, Sort.ahead, Array.getElem?_modify, this]
theorem take_tell (vals : Nat → Value × Value) (cur : Array Value) (d : Array Nat) (h : d.size * 2 ≤ cur.size) : (putCells id 0 (flatK (encL vals) 2 d) cur).toList.take (d.size * 2) = tvs vals d.toList := by
 rw [← flatK_tvs]
 apply List.ext_getElem?
 intro j
 by_cases hj : j < d.size * 2
 · rw [List.getElem?_take_of_lt hj, Array.getElem?_toList, Array.getElem?_toList]
   have h2 : j < (flatK (encL vals) 2 d).size := by simpa using hj
   rw [Array.getElem?_eq_getElem h2]
   simp only [putCells, Nat.zero_le, Nat.zero_add, true_and, Nat.sub_zero, Array.getElem?_mapIdx, Array.getElem?_eq_getElem (show j < cur.size by omega), Option.map_some, if_pos h2]
   rw [getElem!_pos _ j h2]
   rfl
 · rw [List.getElem?_take_eq_none (by omega), List.getElem?_eq_none (by simp; omega)]
def QU7 (L : Nat → List Nat × List Int) (σ : List Nat) : Prop := σ.Pairwise (fun x y => ¬cmpT (L y) (L x) < 0)
theorem sortT_any (B B' gL n : Nat) (vals : Nat → Value × Value) (L : Nat → List Nat × List Int) (w : World) (hn : n ≤ 1000) (hrow : w.ownsRow B 148 2 (.slice (some ⟨gL, 0, none⟩) n n) n (tvs vals (List.range n)))
    (hord : ∀ p, w.ownsRow B' 3 1 (vals p).1 (L p).1.length (nats (L p).1)) (hcod : ∀ p, w.ownsRow B' 3 1 (vals p).2 (L p).2.length (intsV (L p).2)) (hlen : ∀ p, (L p).2.length ≤ 1000) :
    Calls Try.prog 121 #[.slice (some ⟨gL, 0, none⟩) n n, .func (.func 120) #[] #[]] w fun e w' => e = .returned (.tuple #[]) ∧ ∃ σ : List Nat, σ.Perm (List.range n) ∧ QU7 L σ ∧ w'.ownsRow B 148 2 (.slice (some ⟨gL, 0, none⟩) n n) n (tvs vals σ) ∧ w.grownBy w' (some gL) := by
 rcases hrow.2 with ⟨hv, _⟩ | ⟨g, cap, cur, hv, hbase, hb, h1, h2, h3, h4⟩
 · cases hv
 injection hv with e1 e2 e3
 injection e1 with e1
 injection e1 with e1
 subst e1 e3
 have eg : ∀ args w, (callFunc 120 args).run Try.prog w = .ok (.enter 120 args) w := enters_of Try.func120 (by kernel_rfl) rfl
 have hgl : gL < w.heap.size := (Array.getElem?_eq_some_iff.1 hb).1
 have hone : ∀ x, ∀ v ∈ encL vals x, v.oneCell' = true := fun x v hv => by
  simp only [encL, List.mem_cons, List.not_mem_nil, or_false] at hv
  obtain ⟨a1, c1, q1⟩ := QX5 (hord x)
  obtain ⟨a2, c2, q2⟩ := QX5 (hcod x)
  rcases hv with rfl | rfl
  · rw [q1]; rfl
  · rw [q2]; rfl
 have hcmp : CmpLays Try.prog 120 #[] (encL vals) 2 (fun x y => cmpT (L x) (L y)) gL 0 (List.range n).toArray.size w := fun m os dk hs x y => by
  have hg := grown_tell (w := w) (g := gL) (n := m) (os := os) vals dk
  have hk : ∀ p, (sortWorldK (encL vals) 2 w gL 0 m dk os).ownsRow B' 3 1 (vals p).2 (L p).2.length (intsV (L p).2) := fun p => (hcod p).kept hg (Or.inr (boxNe (hcod p) hb (by decide)))
  have h := compareT_any (vals x).1 (vals x).2 (vals y).1 (vals y).2 (L x) (L y) (sortWorldK (encL vals) 2 w gL 0 m dk os) (hlen x) (hlen y) (QX5 (hord x)) (QX5 (hord y)) (QW6 (hk x)) (QW6 (hk y))
  refine h.mono ?_
  rintro e w' ⟨rfl, rfl⟩
  exact ⟨rfl, 0, _, by rw [alloc_eq_grow, alloc_eq_grow, grow_grow]; rfl⟩
 have hcon := AnyQ.slices_SortFunc Try.sortTell 2 Try.isAgg148 Try.sizeOf148 (encL vals) (fun _ => rfl) hone (fun x y => cmpT (L x) (L y)) (swoT L) 120 #[] gL 0 n (List.range n).toArray w eg hcmp (holds_tell vals hb (by simpa using h4)) hgl (by simp; omega)
 change Calls Try.prog 121 _ _ _ at hcon
 rw [List.size_toArray, List.length_range] at hcon
 refine hcon.mono ?_
 rintro e w' ⟨rfl, d', m, os, ⟨hsz, _, hperm⟩, hsort, rfl⟩
 have hsz' : d'.size = n := by simpa using hsz
 have hp : d'.toList.Perm (List.range n) := by
  have q1 : d'.extract 0 n = d' := by rw [← hsz']; simp
  have q2 : (List.range n).toArray.extract 0 n = (List.range n).toArray := by simp
  rw [q1, q2] at hperm
  simpa using hperm
 refine ⟨rfl, d'.toList, hp, ?_, ?_, grown_tell vals d'⟩
 · unfold QU7
   rw [List.pairwise_iff_getElem]
   intro i j hi hj hij
   have hi' : i < d'.size := by simpa using hi
   have hj' : j < d'.size := by simpa using hj
   have := hsort i j (Nat.zero_le _) hij (by omega)
   simp only [ltOf, decide_eq_false_iff_not] at this
   rw [getElem!_pos d' j hj', getElem!_pos d' i hi'] at this
   simpa using this
 · have hg := heap_tell (n := m) (os := os) vals d' hb
   refine ⟨by rw [tvs_len]; simp [hsz'], Or.inr ⟨gL, n, _, rfl, hbase, hg, h1, h2, ?_, ?_⟩⟩
   · simp [putCells, h3]
   · have := take_tell vals cur d' (by rw [hsz', h3]; omega)
     rw [hsz'] at this
     exact this
end Go.Proofs.Ytagaajlbkfkaiaa
/- The walk of canon.leastTellings. -/
namespace Go.Proofs.Ytagaajlbkfkaiaa
open Go.RowKit
set_option maxHeartbeats 8000000
set_option maxRecDepth 100000
def leT (C:List Cr) (P:List Int) (p:Nat):Nat->List Nat×List Int
 |0=>([],[])
 |k+1=>if P.getD k 0=(p:Int)/\((leT C P p k).1=[]∨cmpT (te C k) (leT C P p k)<0) then te C k else leT C P p k
theorem leT_other {C:List Cr} {P:List Int} {p k:Nat} (h:P.getD k 0≠(p:Int)):leT C P p (k+1)=leT C P p k:=by
 rw[leT,if_neg (fun e=>h e.1)]
theorem leT_put {C:List Cr} {P:List Int} {p k:Nat} (hp:P.getD k 0=(p:Int)) (h:(leT C P p k).1=[]∨cmpT (te C k) (leT C P p k)<0):(fun q=>if q=p then te C k else leT C P q k)=fun q=>leT C P q (k+1):=by
 funext q
 by_cases e:q=p
 · subst e;rw[if_pos rfl,leT,if_pos ⟨hp,h⟩]
 · rw[if_neg e,leT_other (by omega)]
theorem leT_keep {C:List Cr} {P:List Int} {p k:Nat} (hp:P.getD k 0=(p:Int)) (h:¬((leT C P p k).1=[]∨cmpT (te C k) (leT C P p k)<0)):(fun q=>leT C P q k)=fun q=>leT C P q (k+1):=by
 funext q
 by_cases e:q=p
 · subst e;rw[leT,if_neg (fun x=>h x.2)]
 · rw[leT_other (by omega)]
theorem leT_len {C:List Cr} {loops:Int} (hm:mayD C loops=true) (P:List Int) (p k:Nat):(leT C P p k).2.length<=1000:=by
 induction k with
 |zero=>simp[leT]
 |succ k ih=>
  rw[leT]
  split
  · have h:=teI_len C k C.length
    obtain⟨s1,-,-,-⟩:=QZ2 (QK3 hm)
    unfold te
    omega
  · exact ih
theorem made_tell (n:Nat):(madeCells (Value.agg #[.slice none 0 0,.slice none 0 0]).cells (n*2)).toList=tvs (fun _=>(.slice none 0 0,.slice none 0 0)) (List.range n):=by
 have e:(Value.agg #[.slice none 0 0,.slice none 0 0]).cells=#[Value.slice none 0 0,.slice none 0 0]:=rfl
 rw[e]
 apply List.ext_getElem?
 intro t
 by_cases ht:t<n*2
 · have g:=tvs_get (fun _=>(.slice none 0 0,.slice none 0 0)) (List.range n) (t / 2) (by simp;omega)
   rcases Nat.mod_two_eq_zero_or_one t with h|h
   · have h2:t / 2*2=t:=by omega
     rw[h2]at g
     rw[g.1]
     simp[madeCells,ht,h]
   · have h2:t / 2*2+1=t:=by omega
     rw[h2]at g
     rw[g.2]
     simp[madeCells,ht,h]
 · rw[List.getElem?_eq_none (by simp[madeCells];omega),List.getElem?_eq_none (by rw[tvs_len];simp;omega)]
theorem tvs_set (vals:Nat->Value×Value) (n p:Nat) (hp:p<n) (a b:Value):((tvs vals (List.range n)).set (p*2) a).set (p*2+1) b=tvs (fun q=>if q=p then(a,b) else vals q) (List.range n):=by
 apply List.ext_getElem?
 intro t
 by_cases ht:t<n*2
 · have g:=tvs_get vals (List.range n) (t / 2) (by simp;omega)
   have g':=tvs_get (fun q=>if q=p then(a,b) else vals q) (List.range n) (t / 2) (by simp;omega)
   have gd:(List.range n).getD (t / 2) 0=t / 2:=by simp[List.getD,show t / 2<n by omega]
   rw[gd]at g g'
   have hl:(tvs vals (List.range n)).length=n*2:=by rw[tvs_len];simp
   rcases Nat.mod_two_eq_zero_or_one t with h|h
   · have h2:t / 2*2=t:=by omega
     rw[h2]at g g'
     rw[g'.1,List.getElem?_set_ne (by omega)]
     by_cases e:t / 2=p
     · rw[if_pos e,List.getElem?_set,if_pos (by omega),if_pos (by omega)]
     · rw[if_neg e,List.getElem?_set_ne (by omega),g.1]
   · have h2:t / 2*2+1=t:=by omega
     rw[h2]at g g'
     rw[g'.2]
     by_cases e:t / 2=p
     · rw[if_pos e,List.getElem?_set,if_pos (by omega),if_pos (by simp;omega)]
     · rw[if_neg e,List.getElem?_set_ne (by omega),List.getElem?_set_ne (by omega),g.2]
 · rw[List.getElem?_eq_none (by simp[tvs_len];omega),List.getElem?_eq_none (by rw[tvs_len];simp;omega)]
theorem infoTell:(Try.prog.info? 148).map (fun i=>(i.zero,i.size,i.bytes))=some (some (.agg #[.slice none 0 0,.slice none 0 0]),2,48):=by kernel_rfl
structure LsAt (B gL n:Nat) (vals:Nat->Value×Value) (L:Nat->List Nat×List Int) (W:World):Prop where
 row:W.ownsRow B 148 2 (.slice (some ⟨gL,0,none⟩) n n) n (tvs vals (List.range n))
 ord:∀ p,W.ownsRow B 3 1 (vals p).1 (L p).1.length (nats (L p).1)
 cod:∀ p,W.ownsRow B 3 1 (vals p).2 (L p).2.length (intsV (L p).2)
theorem LsAt.any {B gL n:Nat} {vals:Nat->Value×Value} {L:Nat->List Nat×List Int} {W W':World} (h:LsAt B gL n vals L W) (hg:W.grownBy W' none):LsAt B gL n vals L W':=
 ⟨QX0 h.row hg,fun p=>QX0 (h.ord p) hg,fun p=>QX0 (h.cod p) hg⟩
theorem LsAt.cells {B gL n:Nat} {vals:Nat->Value×Value} {L:Nat->List Nat×List Int} {W:World} (h:LsAt B gL n vals L W) {p:Nat} (hp:p<n):W.cell? ⟨gL,p*2,none⟩=some (vals p).1/\W.cell? ⟨gL,p*2+1,none⟩=some (vals p).2/\gL<W.heap.size:=by
 have g:=tvs_get vals (List.range n) p (by simpa using hp)
 have gd:(List.range n).getD p 0=p:=by simp[List.getD,hp]
 rw[gd]at g
 exact⟨(h.row.cellAt (p*2) (by omega)).trans g.1,(h.row.cellAt (p*2+1) (by omega)).trans g.2,(h.row.lt gL rfl).2⟩
theorem LsAt.set {B gL n p:Nat} {vals:Nat->Value×Value} {L:Nat->List Nat×List Int} {W:World} {a b:Value} {t:List Nat×List Int} (h:LsAt B gL n vals L W) (hp:p<n) (ho:W.ownsRow B 3 1 a t.1.length (nats t.1)) (hc:W.ownsRow B 3 1 b t.2.length (intsV t.2)):
    LsAt B gL n (fun q=>if q=p then(a,b) else vals q) (fun q=>if q=p then t else L q) ((W.setCell ⟨gL,p*2,none⟩ a).setCell ⟨gL,p*2+1,none⟩ b)/\W.grownBy ((W.setCell ⟨gL,p*2,none⟩ a).setCell ⟨gL,p*2+1,none⟩ b) (some gL):=by
 have hG:W.grownBy ((W.setCell ⟨gL,p*2,none⟩ a).setCell ⟨gL,p*2+1,none⟩ b) (some gL):=QQ8 (QQ7 _ _ _ _) (QQ7 _ _ _ _)
 have hr:=((h.row.stored (p*2) a).1.stored (p*2+1) b).1
 rw[tvs_set vals n p hp]at hr
 have hne:∀ {v:Value} {k:Nat} {xs:List Value},W.ownsRow B 3 1 v k xs->v.ownBlock=none∨v.ownBlock≠some gL:=fun hv=>by
  have:=own_ne hv h.row (by decide)
  exact this
 refine⟨⟨hr,fun q=>?_,fun q=>?_⟩,hG⟩
 · by_cases e:q=p
   · simp only[if_pos e];exact ho.kept hG (hne ho)
   · simp only[if_neg e];exact(h.ord q).kept hG (hne (h.ord q))
 · by_cases e:q=p
   · simp only[if_pos e];exact hc.kept hG (hne hc)
   · simp only[if_neg e];exact(h.cod q).kept hG (hne (h.cod q))
def LeastOut (C:List Cr) (w:World) (e:Ending) (w':World):Prop:=∃ (gL n:Nat) (P:List Int) (vals:Nat->Value×Value) (σ:List Nat),e=.returned (.slice (some ⟨gL,0,none⟩) n n)/\PcsAll C P n/\σ.Perm (List.range n)/\QU7 (fun p=>leT C P p C.length) σ/\w'.ownsRow w.heap.size 148 2 (.slice (some ⟨gL,0,none⟩) n n) n (tvs vals σ)/\(∀ p,w'.ownsRow w.heap.size 3 1 (vals p).1 (leT C P p C.length).1.length (nats (leT C P p C.length).1))/\(∀ p,∃ a k c,(vals p).2=.slice a k c)/\Below w.heap.size w w'
theorem leastT_any (a:Option Addr) (cap:Nat) (C:List Cr) (loops:Int) (gF cF gT cT:Nat) (w:World) (hm:mayD C loops=true) (hD:Dr w a cap C gF gT):
    Calls Try.prog 99 #[drV a cap C loops gF cF gT cT] w fun e w' => LeastOut C w e w' := by
 obtain⟨s1,-,-,-⟩:=QZ2 (QK3 hm)
 obtain⟨i2,hk,hx0,hx1,hx2⟩:=info_parts infoTell
 have HM:=hidB hm
 have HDD:Hid (∀ w',Below w.heap.size w w'->Dr w' a cap C gF gT):=fun w' hb=>hD.on hb
 have HTD:Hid (∀ W k,Below w.heap.size w W->k<C.length->Calls Try.prog 119 #[.agg #[.slice a C.length cap,.int .i64 loops,.slice (some ⟨gF,0,none⟩) (2*C.length+1) cF,.slice (some ⟨gT,0,none⟩) (2*C.length+1) cT],.int .i64 (k:Nat)] W fun e w'=>∃ vo vc,e=.returned (.agg #[vo,vc])/\w'.ownsRow W.heap.size 3 1 vo (te C k).1.length (nats (te C k).1)/\w'.ownsRow W.heap.size 3 1 vc (te C k).2.length (intsV (te C k).2)/\Below W.heap.size W w'):=fun W k hW hk=>toldFrom_any a cap C loops gF cF gT cT k W hm hk (hD.on hW)
 have HPD:Hid (∀ W,Below w.heap.size w W->Calls Try.prog 77 #[.agg #[.slice a C.length cap,.int .i64 loops,.slice (some ⟨gF,0,none⟩) (2*C.length+1) cF,.slice (some ⟨gT,0,none⟩) (2*C.length+1) cT]] W fun e w'=>∃ gP cP P c,e=.returned (.tuple #[.slice (some ⟨gP,0,none⟩) C.length cP,.int .i64 (c:Nat)])/\w'.ownsRow W.heap.size 3 1 (.slice (some ⟨gP,0,none⟩) C.length cP) C.length (intsV P)/\PcsAll C P c/\Below W.heap.size W w'):=fun W hW=>pieces_any a cap C loops gF cF gT cT W hm (hD.on hW)
 unfold drV
 have HB1 : Hid (Below w.heap.size w (w.alloc (.cells #[.slice a C.length cap, .int .i64 loops, .slice (some ⟨gF, 0, none⟩) (2 * C.length + 1) cF, .slice (some ⟨gT, 0, none⟩) (2 * C.length + 1) cT] 61))) := (Below.refl _ _).alloc (Nat.le_refl _) _
 clear hm hD
 go_enter Try.func99,Try.ntmps99
 go_upto_region 2 with(go_at_call 77;refine(HPD.out _ HB1.out).mono ?_;rintro e9 w1 ⟨gP,cP,P,n,rfl,hrP,hpc,hb1⟩)
 have HRP : Hid (w1.ownsRow (w.heap.size + 1) 3 1 (.slice (some ⟨gP, 0, none⟩) C.length cP) C.length (intsV P)) := QX4 hrP (by simp)
 have HPC:=hidB hpc
 have hnC:=hpc.few
 have HB2:=hidB (HB1.out.trans (hb1.mono HB1.out.size))
 have HX1:=hidB ((hb1.block _ (by simp)).trans (alloc_at rfl))
 have hs1:w.heap.size+1<=w1.heap.size:=by have:=hb1.size;simpa using this
 clear hrP hpc hb1
 go_wp2_with (first|(at_make;refine wpList_make_full _ rfl _ _ 145 rfl (w.heap.size+1) 148 i2 (.agg #[.slice none 0 0,.slice none 0 0]) 2 Try.underlying145 hk hx0 hx1 .i64 .i64 _ _ n rfl rfl rfl rfl (by rw[hx2];omega) (by unfold maxLen;omega) (by omega) ?_;intro w2 hrow hg2;refine Hid.out ?_))
 refine Lib.hid ?_
 rw[made_tell]at hrow
 have hs2:w1.heap.size<=w2.heap.size:=hg2.size
 have hgL2:=(hrow.lt w1.heap.size rfl).2
 have HL2:Hid (LsAt (w.heap.size+1) w1.heap.size n (fun _=>(.slice none 0 0,.slice none 0 0)) (fun p=>leT C P p 0) w2):=⟨hrow,fun p=>World.ownsRow_nil _ _ _ _,fun p=>World.ownsRow_nil _ _ _ _⟩
 have HR2:Hid (w2.ownsRow (w.heap.size+1) 3 1 (.slice (some ⟨gP,0,none⟩) C.length cP) C.length (intsV P)/\w2.heap[w.heap.size]?=some (.cells #[.slice a C.length cap,.int .i64 loops,.slice (some ⟨gF,0,none⟩) (2*C.length+1) cF,.slice (some ⟨gT,0,none⟩) (2*C.length+1) cT] 61 (0,0))/\Below w.heap.size w w2):=⟨QX0 HRP.out hg2,(hg2.block _ (by omega) (by simp)).trans HX1.out,HB2.out.grown hg2 (by omega) (fun q hq=>by cases hq)⟩
 clear hrow hg2 HRP HX1 HB2
 go_wp2
 go_loopw [18] (fun v18 wr=>∃ (k:Nat) (vals:Nat->Value×Value),k<=C.length/\v18=.int .i64 (k:Nat)/\Hid (LsAt (w.heap.size+1) w1.heap.size n vals (fun p=>leT C P p k) wr)/\Hid (wr.ownsRow (w.heap.size+1) 3 1 (.slice (some ⟨gP,0,none⟩) C.length cP) C.length (intsV P)/\wr.heap[w.heap.size]?=some (.cells #[.slice a C.length cap,.int .i64 loops,.slice (some ⟨gF,0,none⟩) (2*C.length+1) cF,.slice (some ⟨gT,0,none⟩) (2*C.length+1) cT] 61 (0,0))/\Below w.heap.size w wr)) (fun v18 _=>C.length-(intOf v18).toNat)
 case atStart=>exact⟨0,_,Nat.zero_le _,rfl,HL2.out,HR2.out⟩
 case round=>
  clear HL2 HR2 hgL2
  rename World=>W3
  obtain⟨k,vals,hkn,rfl,hls,hrs⟩:=hrel
  have hB3:=hrs.out.2.2.size
  have hlx:w.heap.size<W3.heap.size:=(Array.getElem?_eq_some_iff.1 hrs.out.2.1).1
  have hgL3:=(hls.out.row.lt w1.heap.size rfl).2
  have hgP3:=(hrs.out.1.lt gP rfl).2
  by_cases hkl:k<C.length
  · obtain⟨v0,v1⟩:=HPC.out.vals k hkl
    obtain⟨p,hp⟩:∃ p:Nat,P.getD k 0=(p:Int):=⟨(P.getD k 0).toNat,by omega⟩
    have hpn:p<n:=by omega
    have e0:=hrs.out.1.cellAt k (by omega)
    rw[QV5 P k (by rw[HPC.out.len];exact hkl),hp]at e0
    have HPK:=hidB hp
    have hki:(k:Int)<(C.length:Int):=by omega
    have hpi:(p:Int)<(n:Int):=by omega
    have d0:=QQ0 (i:=0) hrs.out.2.1 rfl
    have d1:=QQ0 (i:=1) hrs.out.2.1 rfl
    have d2:=QQ0 (i:=2) hrs.out.2.1 rfl
    have d3:=QQ0 (i:=3) hrs.out.2.1 rfl
    clear hp v0 v1
    go_upto_region 7 with(go_at_call 119;refine(HTD.out _ k hrs.out.2.2 hkl).mono ?_;rintro e9 w4 ⟨vo,vc,rfl,hvo,hvc,hb4⟩;obtain⟨ao,co,eo⟩:=QX5 hvo;obtain⟨ac,cc,ec⟩:=QX5 hvc;subst eo ec)
    obtain⟨W5,hW5⟩:∃ W5,W5=w4.alloc (.cells #[.slice ao (te C k).1.length co,.slice ac (te C k).2.length cc] 148):=⟨_,rfl⟩
    rw[<-hW5]
    have hs4:=hb4.size
    have hs5:W5.heap.size=w4.heap.size+1:=by rw[hW5];simp
    have hg45:W3.grownBy W5 none:=by rw[hW5];exact QQ8 (QQ5 hb4 none) (World.grownBy_alloc _ _ _)
    have HL5:=hidB (hls.out.any hg45)
    have HR5:Hid (W5.ownsRow (w.heap.size+1) 3 1 (.slice (some ⟨gP,0,none⟩) C.length cP) C.length (intsV P)/\W5.heap[w.heap.size]?=some (.cells #[.slice a C.length cap,.int .i64 loops,.slice (some ⟨gF,0,none⟩) (2*C.length+1) cF,.slice (some ⟨gT,0,none⟩) (2*C.length+1) cT] 61 (0,0))/\Below w.heap.size w W5):=⟨QX0 hrs.out.1 hg45,(hg45.block _ hlx (by simp)).trans hrs.out.2.1,hrs.out.2.2.grown hg45 hB3 (fun q hq=>by cases hq)⟩
    have HVO:=hidB (show W5.ownsRow (w.heap.size+1) 3 1 (.slice ao (te C k).1.length co) (te C k).1.length (nats (te C k).1) by rw[hW5];exact QX4 (hvo.alloc _) (by omega))
    have HVC:=hidB (show W5.ownsRow (w.heap.size+1) 3 1 (.slice ac (te C k).2.length cc) (te C k).2.length (intsV (te C k).2) by rw[hW5];exact QX4 (hvc.alloc _) (by omega))
    have HT5:=hidB (show W5.heap[w4.heap.size]?=some (.cells #[.slice ao (te C k).1.length co,.slice ac (te C k).2.length cc] 148 (0,0)) by rw[hW5];exact alloc_at rfl)
    have t0:=QQ0 (i:=0) HT5.out rfl
    have t1:=QQ0 (i:=1) HT5.out rfl
    have hz5:w4.heap.size<W5.heap.size:=by omega
    have hgL5:w1.heap.size<W5.heap.size:=by omega
    have hlx5:w.heap.size<W5.heap.size:=by omega
    obtain⟨L,hL⟩:∃ L,leT C P p k=L:=⟨_,rfl⟩
    have HLE:=hidB hL
    obtain⟨q0,q1,-⟩:=HL5.out.cells hpn
    have hco:=HL5.out.ord p
    have hcd:=HL5.out.cod p
    simp only[hL]at hco hcd
    obtain⟨av,cv,ev⟩:=QX5 hco
    obtain⟨au,cu,eu⟩:=QX5 hcd
    rw[ev]at q0
    rw[eu]at q1
    have HCD:=hidB (show W5.ownsRow (w.heap.size+1) 3 1 (.slice au L.2.length cu) L.2.length (intsV L.2) by rw[<-eu];exact hcd)
    have HT1:=hidB (show(te C k).2.length<=1000 by have h:=teI_len C k C.length;unfold te;omega)
    have HT2:=hidB (show L.2.length<=1000 by rw[<-hL];exact leT_len HM.out P p k)
    clear hW5 hvo hvc hb4 hg45 hs5 hco hcd ev eu hL e0 d0 d1 d2 d3 hls hrs hs4
    by_cases hl0:L.1=[]
    · have hll:L.1.length=0:=by rw[hl0];rfl
      rw[hll]at q0
      clear hll
      go_quiet (fail)
      obtain⟨X,hX⟩:∃ X,X=W5.drewN nq:=⟨_,rfl⟩
      have HXQ:=hidB hX
      rw[<-hX]
      clear hX t0 t1 q0 q1
      have hgX:W5.grownBy X none:=(by rw[HXQ.out];exact QQ5 (below_drewN (Below.refl _ _) nq) none)
      have HLX:=hidB (HL5.out.any hgX)
      obtain⟨hset,hgS⟩:=HLX.out.set (p:=p) (t:=te C k) hpn (QX0 HVO.out hgX) (QX0 HVC.out hgX)
      rw[leT_put HPK.out (by rw[HLE.out];exact Or.inl hl0)]at hset
      have HNX:=hidB hset
      have HRX:Hid (((X.setCell ⟨w1.heap.size,p*2,none⟩ (.slice ao (te C k).1.length co)).setCell ⟨w1.heap.size,p*2+1,none⟩ (.slice ac (te C k).2.length cc)).ownsRow (w.heap.size+1) 3 1 (.slice (some ⟨gP,0,none⟩) C.length cP) C.length (intsV P)/\((X.setCell ⟨w1.heap.size,p*2,none⟩ (.slice ao (te C k).1.length co)).setCell ⟨w1.heap.size,p*2+1,none⟩ (.slice ac (te C k).2.length cc)).heap[w.heap.size]?=some (.cells #[.slice a C.length cap,.int .i64 loops,.slice (some ⟨gF,0,none⟩) (2*C.length+1) cF,.slice (some ⟨gT,0,none⟩) (2*C.length+1) cT] 61 (0,0))/\Below w.heap.size w ((X.setCell ⟨w1.heap.size,p*2,none⟩ (.slice ao (te C k).1.length co)).setCell ⟨w1.heap.size,p*2+1,none⟩ (.slice ac (te C k).2.length cc))):=⟨(QX0 HR5.out.1 hgX).kept hgS (own_ne (QX0 HR5.out.1 hgX) HLX.out.row (by decide)),(hgS.block _ (Nat.lt_of_lt_of_le hlx5 hgX.size) (fun e=>by have:=Option.some.inj e;omega)).trans ((hgX.block _ hlx5 (by simp)).trans HR5.out.2.1),(HR5.out.2.2.grown hgX HR5.out.2.2.size (fun q hq=>by cases hq)).grown hgS (Nat.le_trans HR5.out.2.2.size hgX.size) (fun q hq=>by have:=Option.some.inj hq;omega)⟩
      obtain⟨c0,c1,c2⟩:=HLX.out.cells hpn
      have c3:X.frozen? ⟨w1.heap.size,p*2,none⟩=false:=HLX.out.row.frozenAt (p*2)
      have c4:X.frozen? ⟨w1.heap.size,p*2+1,none⟩=false:=HLX.out.row.frozenAt (p*2+1)
      have hTX:=(hgX.block _ hz5 (by simp)).trans HT5.out
      have c5:=QQ0 (i:=0) hTX rfl
      have c6:=QQ0 (i:=1) hTX rfl
      have c7:w4.heap.size<X.heap.size:=(Array.getElem?_eq_some_iff.1 hTX).1
      clear hset hgS hTX hgX
      go_wp2
      go_roundw
      case rel=>exact⟨k+1,_,by omega,by go_num,HNX.out,HRX.out⟩
      case measure=>simp only[intOf];omega
    · have hll:L.1.length≠0:=fun e=>hl0 (List.length_eq_zero_iff.1 e)
      have hz1:((L.1.length:Int)==0)=false:=beq_eq_false_iff_ne.2 (by omega)
      have hz2:(L.1.length==0)=false:=beq_eq_false_iff_ne.2 hll
      obtain⟨z,hz⟩:∃ z,cmpT (te C k) L=z:=⟨_,rfl⟩
      have HZ:=hidB hz
      clear hz
      have HCT:Hid (∀ W,W5.grownBy W none->Calls Try.prog 120 #[.agg #[.slice ao (te C k).1.length co,.slice ac (te C k).2.length cc],.agg #[.slice av L.1.length cv,.slice au L.2.length cu]] W fun e w'=>e=.returned (.int .i64 z)/\w'=(W.alloc (.cells #[.slice ao (te C k).1.length co,.slice ac (te C k).2.length cc] 148)).alloc (.cells #[.slice av L.1.length cv,.slice au L.2.length cu] 148)):=fun W hW=>by
       rw[<-HZ.out]
       exact compareT_any _ _ _ _ (te C k) L W HT1.out HT2.out ⟨_,_,rfl⟩ ⟨_,_,rfl⟩ (QW6 (QX0 HVC.out hW)) (QW6 (QX0 HCD.out hW))
      have HD5 : Hid (W5.grownBy W5.drew none) := QQ5 ((Below.refl _ _).drew) none
      by_cases hzn:z<0
      · have hzd:decide (z<0)=true:=decide_eq_true hzn
        apply cut_told
        case h=>
         intro key
         go_region_law (first
          | (go_simp; go_at_call 120; refine (HCT.out _ (by first | exact HD5.out)).mono ?_; rintro e9 w6 ⟨rfl, hw6⟩
             have HG6:Hid (W5.grownBy w6 none):=(by rw[hw6];exact QQ8 HD5.out (QQ8 (World.grownBy_alloc _ _ _) (World.grownBy_alloc _ _ _)))
             clear hw6))
         all_goals
          revert w6
          exact key.out
        intro w6 HG6
        clear t0 t1 q0 q1 HD5 HCT
        have hgX:W5.grownBy w6 none:=HG6.out
        have HLX:=hidB (HL5.out.any hgX)
        obtain⟨hset,hgS⟩:=HLX.out.set (p:=p) (t:=te C k) hpn (QX0 HVO.out hgX) (QX0 HVC.out hgX)
        rw[leT_put HPK.out (by rw[HLE.out];exact Or.inr (by rw[HZ.out];exact hzn))]at hset
        have HNX:=hidB hset
        have HRX:Hid (((w6.setCell ⟨w1.heap.size,p*2,none⟩ (.slice ao (te C k).1.length co)).setCell ⟨w1.heap.size,p*2+1,none⟩ (.slice ac (te C k).2.length cc)).ownsRow (w.heap.size+1) 3 1 (.slice (some ⟨gP,0,none⟩) C.length cP) C.length (intsV P)/\((w6.setCell ⟨w1.heap.size,p*2,none⟩ (.slice ao (te C k).1.length co)).setCell ⟨w1.heap.size,p*2+1,none⟩ (.slice ac (te C k).2.length cc)).heap[w.heap.size]?=some (.cells #[.slice a C.length cap,.int .i64 loops,.slice (some ⟨gF,0,none⟩) (2*C.length+1) cF,.slice (some ⟨gT,0,none⟩) (2*C.length+1) cT] 61 (0,0))/\Below w.heap.size w ((w6.setCell ⟨w1.heap.size,p*2,none⟩ (.slice ao (te C k).1.length co)).setCell ⟨w1.heap.size,p*2+1,none⟩ (.slice ac (te C k).2.length cc))):=⟨(QX0 HR5.out.1 hgX).kept hgS (own_ne (QX0 HR5.out.1 hgX) HLX.out.row (by decide)),(hgS.block _ (Nat.lt_of_lt_of_le hlx5 hgX.size) (fun e=>by have:=Option.some.inj e;omega)).trans ((hgX.block _ hlx5 (by simp)).trans HR5.out.2.1),(HR5.out.2.2.grown hgX HR5.out.2.2.size (fun q hq=>by cases hq)).grown hgS (Nat.le_trans HR5.out.2.2.size hgX.size) (fun q hq=>by have:=Option.some.inj hq;omega)⟩
        obtain⟨c0,c1,c2⟩:=HLX.out.cells hpn
        have c3:w6.frozen? ⟨w1.heap.size,p*2,none⟩=false:=HLX.out.row.frozenAt (p*2)
        have c4:w6.frozen? ⟨w1.heap.size,p*2+1,none⟩=false:=HLX.out.row.frozenAt (p*2+1)
        have hTX:=(hgX.block _ hz5 (by simp)).trans HT5.out
        have c5:=QQ0 (i:=0) hTX rfl
        have c6:=QQ0 (i:=1) hTX rfl
        have c7:w4.heap.size<w6.heap.size:=(Array.getElem?_eq_some_iff.1 hTX).1
        clear hset hgS hTX hgX
        go_wp2
        go_roundw
        case rel=>exact⟨k+1,_,by omega,by go_num,HNX.out,HRX.out⟩
        case measure=>simp only[intOf];omega
      · have hzd:decide (z<0)=false:=decide_eq_false hzn
        have HKE:Hid ((fun p=>leT C P p k)=fun p=>leT C P p (k+1)):=leT_keep HPK.out (by rw[HLE.out,HZ.out];exact fun h=>h.elim hl0 hzn)
        apply cut_told
        case h=>
         intro key
         go_region_law (first
          | (go_simp; go_at_call 120; refine (HCT.out _ (by first | exact HD5.out)).mono ?_; rintro e9 w6 ⟨rfl, hw6⟩
             have HG6:Hid (W5.grownBy w6 none):=(by rw[hw6];exact QQ8 HD5.out (QQ8 (World.grownBy_alloc _ _ _) (World.grownBy_alloc _ _ _)))
             clear hw6))
         all_goals
          revert w6
          exact key.out
        intro w6 HG6
        clear t0 t1 q0 q1 HD5 HCT
        have HNX:=hidB (show LsAt (w.heap.size+1) w1.heap.size n vals (fun p=>leT C P p (k+1)) w6 by rw[<-HKE.out];exact HL5.out.any HG6.out)
        have HRX:Hid (w6.ownsRow (w.heap.size+1) 3 1 (.slice (some ⟨gP,0,none⟩) C.length cP) C.length (intsV P)/\w6.heap[w.heap.size]?=some (.cells #[.slice a C.length cap,.int .i64 loops,.slice (some ⟨gF,0,none⟩) (2*C.length+1) cF,.slice (some ⟨gT,0,none⟩) (2*C.length+1) cT] 61 (0,0))/\Below w.heap.size w w6):=⟨QX0 HR5.out.1 HG6.out,(HG6.out.block _ hlx5 (by simp)).trans HR5.out.2.1,HR5.out.2.2.grown HG6.out HR5.out.2.2.size (fun q hq=>by cases hq)⟩
        go_wp2
        go_roundw
        case rel=>exact⟨k+1,_,by omega,by go_num,HNX.out,HRX.out⟩
        case measure=>simp only[intOf];omega
  · obtain rfl:k=C.length:=by omega
    have HLN:Hid (∀ p,(leT C P p C.length).2.length<=1000):=fun p=>leT_len HM.out P p C.length
    have HB3:=hidB hrs.out.2.2
    go_wp2_with (go_at_call 121;refine(sortT_any (w.heap.size+1) (w.heap.size+1) w1.heap.size n vals (fun p=>leT C P p C.length) _ (by omega) hls.out.row hls.out.ord hls.out.cod HLN.out).mono ?_;rintro e9 w4 ⟨rfl,σ,hσ1,hσ2,hrow4,hg4⟩;refine Hid.out ?_)
    refine Lib.hid ?_
    have HO4:Hid (∀ p,w4.ownsRow w.heap.size 3 1 (vals p).1 (leT C P p C.length).1.length (nats (leT C P p C.length).1)):=fun p=>QX4 ((hls.out.ord p).kept hg4 (own_ne (hls.out.ord p) hls.out.row (by decide))) (by omega)
    have HB4:Hid (Below w.heap.size w w4):=HB3.out.grown hg4 hB3 (fun q hq=>by have:=Option.some.inj hq;omega)
    have HR4 : Hid (w4.ownsRow w.heap.size 148 2 (.slice (some ⟨w1.heap.size, 0, none⟩) n n) n (tvs vals σ)) := QX4 hrow4 (by omega)
    have HSH:Hid (∀ p,∃ a k c,(vals p).2=.slice a k c):=fun p=>by obtain⟨a,c,h⟩:=QX5 (hls.out.cod p);exact⟨a,_,c,h⟩
    have HS1:=hidB hσ1
    have HS2:=hidB hσ2
    clear hσ1 hσ2 hrow4 hg4
    go_wp2
    go_ret
    exact⟨w1.heap.size,n,P,vals,σ,rfl,HPC.out,HS1.out,HS2.out,HR4.out,HO4.out,HSH.out,HB4.out⟩
end Go.Proofs.Ytagaajlbkfkaiaa

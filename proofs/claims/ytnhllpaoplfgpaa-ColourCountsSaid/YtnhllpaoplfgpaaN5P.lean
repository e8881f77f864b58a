/- Several texts of the proof, one behind the other. -/
import Derived.Test.YtnhllpaoplfgpaaN3P
import Derived.Deep.RegionLaw
/- Where colour.plan stands. -/
namespace Go.Proofs.Ytnhllpaoplfgpaa
open Go.RowKit

/-- Different numbers that all lie in a list are no more than it has. -/
theorem sub_len : ∀ (l l' : List Nat), l.Nodup → (∀ x, x ∈ l → x ∈ l') → l.length ≤ l'.length
  | [], _, _, _ => Nat.zero_le _
  | x :: t, l', hd, hs => by
    obtain ⟨h1, h2⟩ := List.nodup_cons.1 hd
    have hx := hs x (List.Mem.head _)
    have := sub_len t (l'.erase x) h2 fun y hy => (List.mem_erase_of_ne (fun e => h1 (by rw [← e]; exact hy))).2 (hs y (List.Mem.tail _ hy))
    have h3 := List.length_erase_of_mem hx
    have h4 : 0 < l'.length := List.length_pos_of_mem hx
    simp only [List.length_cons]
    omega
theorem perm_of_all : ∀ (l l' : List Nat), l.Nodup → (∀ x, x ∈ l → x ∈ l') → l.length = l'.length → l.Perm l'
  | [], l', _, _, hl => by
    have : l' = [] := List.length_eq_zero_iff.1 (by simpa using hl.symm)
    rw [this]
  | x :: t, l', hd, hs, hl => by
    obtain ⟨h1, h2⟩ := List.nodup_cons.1 hd
    have hx := hs x (List.Mem.head _)
    have h3 := List.length_erase_of_mem hx
    have := perm_of_all t (l'.erase x) h2 (fun y hy => (List.mem_erase_of_ne (fun e => h1 (by rw [← e]; exact hy))).2 (hs y (List.Mem.tail _ hy))) (by simp only [List.length_cons] at hl; omega)
    exact (List.Perm.cons x this).trans (List.perm_cons_erase hx).symm
/-- One is left. -/
theorem one_left {m : Nat} (os : List Nat) (h : os.length < m) : ∃ i, i < m ∧ decide (i ∈ os) = false := by
  refine Classical.byContradiction fun hc => ?_
  have := sub_len (fromA 0 m) os (nodup_fromA 0 m) fun x hx => by
    have h2 := mem_fromA.1 hx
    refine Classical.byContradiction fun hn => hc ⟨x, by omega, by simp [hn]⟩
  have h3 : (fromA 0 m).length = m := by simp [fromA]
  omega
theorem infoRules : (Try.prog.info? 168).map (fun i => (i.zero, i.size, i.bytes)) = some (some (.slice none 0 0), 1, 24) := by kernel_rfl
/-- Values by their places. -/
def mapV (m : Nat) (f : Nat → Value) : List Value := (List.range m).map f
theorem mapV_len (m : Nat) (f : Nat → Value) : (mapV m f).length = m := by simp [mapV]
theorem mapV_get (m : Nat) (f : Nat → Value) (i : Nat) (h : i < m) : (mapV m f)[i]? = some (f i) := by simp [mapV, h]
theorem mapV_set (m : Nat) (f g : Nat → Value) (i : Nat) (x : Value) (h : ∀ j, j < m → g j = if j = i then x else f j) : (mapV m f).set i x = mapV m g := by
  apply List.ext_getElem?
  intro j
  by_cases hj : j < m
  · rw [mapV_get m g j hj, h j hj, List.getElem?_set]
    by_cases e : i = j
    · subst e; simp [mapV_len, hj]
    · rw [if_neg e, if_neg (fun h => e h.symm), mapV_get m f j hj]
  · rw [List.getElem?_eq_none (by simp [mapV_len]; omega), List.getElem?_eq_none (by simp [mapV_len]; omega)]

theorem blk_lt {w : World} {g : Nat} {o : Obj} (h : w.heap[g]? = some o) : g < w.heap.size := by
  rcases Nat.lt_or_ge g w.heap.size with k | k
  · exact k
  · rw [Array.getElem?_eq_none k] at h
    cases h
/-- What three new blocks hold, whichever was made first. -/
theorem blk1 (w : World) (o p q : Obj) : (((w.alloc o).alloc p).alloc q).drew.heap[w.heap.size]? = some o := drew_blk (alloc_old (alloc_old (alloc_at rfl)))
theorem blk2 (w : World) (o p q : Obj) : (((w.alloc p).alloc o).alloc q).drew.heap[w.heap.size + 1]? = some o := drew_blk (alloc_old (alloc_at (by simp)))
theorem blk3 (w : World) (o p q : Obj) : (((w.alloc p).alloc q).alloc o).drew.heap[w.heap.size + 1 + 1]? = some o := drew_blk (alloc_at (by simp))
theorem own_drew {w : World} {B e s n : Nat} {v : Value} {xs : List Value} (h : w.ownsRow B e s v n xs) : w.drew.ownsRow B e s v n xs := own_any h (grown_below (below_drewN (Below.refl _ _) 1) none)
theorem own1 {w : World} {B e s n : Nat} {cs : Array Value} (p q : Obj) (hB : B ≤ w.heap.size) (hn : n ≤ maxLen) (hc : cs.size = n * s) : (((w.alloc (.cells cs e)).alloc p).alloc q).drew.ownsRow B e s (.slice (some ⟨w.heap.size, 0, none⟩) n n) n cs.toList :=
  own_drew (((World.ownsRow_lit w cs n hB hn hc).alloc p).alloc q)
theorem own2 {w : World} {B e s n : Nat} {cs : Array Value} (p q : Obj) (hB : B ≤ w.heap.size) (hn : n ≤ maxLen) (hc : cs.size = n * s) : (((w.alloc p).alloc (.cells cs e)).alloc q).drew.ownsRow B e s (.slice (some ⟨w.heap.size + 1, 0, none⟩) n n) n cs.toList := by
  have h := own_drew ((World.ownsRow_lit (base := B) (e := e) (size := s) (w.alloc p) cs n (by simp; omega) hn hc).alloc q)
  have e1 : (w.alloc p).heap.size = w.heap.size + 1 := by simp
  rw [e1] at h
  exact h
theorem own3 {w : World} {B e s n : Nat} {cs : Array Value} (p q : Obj) (hB : B ≤ w.heap.size) (hn : n ≤ maxLen) (hc : cs.size = n * s) : (((w.alloc p).alloc q).alloc (.cells cs e)).drew.ownsRow B e s (.slice (some ⟨w.heap.size + 1 + 1, 0, none⟩) n n) n cs.toList := by
  have h := own_drew (World.ownsRow_lit (base := B) (e := e) (size := s) ((w.alloc p).alloc q) cs n (by simp; omega) hn hc)
  have e1 : ((w.alloc p).alloc q).heap.size = w.heap.size + 1 + 1 := by simp
  rw [e1] at h
  exact h
/-- The painting as it is made. -/
structure PlInit (w : World) (m : Nat) (vq : Value) (gB gR gC : Nat) (W : World) : Prop where
  box : W.heap[gB]? = some (.cells #[vq, .slice none 0 0, .slice (some ⟨gR, 0, none⟩) m m, .slice (some ⟨gC, 0, none⟩) m m] 166 (0, 0))
  rdy : W.ownsRow (w.heap.size + 1) 168 1 (.slice (some ⟨gR, 0, none⟩) m m) m (mapV m fun _ => .slice none 0 0)
  col : W.ownsRow (w.heap.size + 1) 3 1 (.slice (some ⟨gC, 0, none⟩) m m) m (nats (List.replicate m 0))
  ne1 : gB ≠ gR
  ne2 : gB ≠ gC
  lo : w.heap.size < gB
  bel : Below w.heap.size w W
  res : W.heap[w.heap.size]? = some (.cells #[.slice none 0 0, .slice none 0 0, .slice none 0 0, .slice none 0 0] 166 (0, 0))
theorem made_nilV (n : Nat) : (madeCells (Value.slice none 0 0).cells (n * 1)).toList = mapV n fun _ => .slice none 0 0 := by
  have e : (Value.slice none 0 0).cells = #[Value.slice none 0 0] := rfl
  rw [e, toList_madeCells_one, Nat.mul_one]
  apply List.ext_getElem?
  intro j
  by_cases hj : j < n
  · rw [mapV_get _ _ _ hj]; simp [hj]
  · rw [List.getElem?_eq_none (by simp; omega), List.getElem?_eq_none (by simp [mapV_len]; omega)]

theorem stepAppend {P : Program} {ops : Array Oper} {o : Oper} {a : Act} {w : World} {K : Act → World → Prop} {Q : Exit → Act → World → Prop} {E : Prop}
    (hg : o.guard = none) (s x : Operand) (t : TypeId)
    (ho : o.op = .call { callee := .builtin .append, args := #[s, x], argTypes := #[t, t] })
    (base : Nat) (e : TypeId) (i : TypeInfo) (z : Value) (size bytes : Nat) (ht : P.underlying t = some (.slice e)) (hi : P.info? e = some i) (hz : i.zero = some z)
    (hsize : i.size = size) (hby : i.bytes = bytes) (hzs : z.cells.size = size) (hsz : 0 < size)
    (v : Value) (n : Nat) (xs : List Value) (hs : a.eval s = v) (hown : w.ownsRow base e size v n xs)
    (ad : Addr) (m c : Nat) (news : List Value) (hx : a.eval x = .slice (some ad) m c) (hl : news.length = m * size) (hnews : ∀ j u, news[j]? = some u → w.cell? (ad.add j) = some u) (h1 : ∀ u ∈ news, u.oneCell' = true)
    (h63 : n + m ≤ maxLen) (hbytes : (n + m) * bytes ≤ 140737488355328) (hbase : base ≤ w.heap.size)
    (h : ∀ v' w', w'.ownsRow base e size v' (n + m) (xs ++ news) → w.grownBy w' v.ownBlock → K (a.put o.dst v') w') :
    if Region.wanted o (yielded ops a.tmps) = true then Oper.wp P o a w K Q else E := by
  have hw : Region.wanted o (yielded ops a.tmps) = true := by simp [Region.wanted, hg]
  rw [if_pos hw]
  exact wp_append_own w s x t ho base e i z size bytes ht hi hz hsize hby hzs hsz v n xs hs hown ad m c news hx hl hnews h1 h63 hbytes hbase (fun v' w' h2 h3 _ => h v' w' h2 h3)
theorem own_nb {w : World} {B e s n g : Nat} {v : Value} {xs : List Value} {cs : Array Value} {t : TypeId} {fz : Nat × Nat} (h : w.ownsRow B e s v n xs) (hb : w.heap[g]? = some (.cells cs t fz)) (he : e ≠ t) : v.ownBlock = none ∨ v.ownBlock ≠ some g := by
  rcases h.2 with ⟨rfl, _⟩ | ⟨g', cap, cur, rfl, _, hg, _⟩
  · exact Or.inl rfl
  · right
    simp only [Value.ownBlock]
    intro e0
    have e1 := Option.some.inj e0
    subst e1
    rw [hg] at hb
    injection hb with h1
    injection h1 with h2 h3
    exact he h3
/-- The rules that are ready at place j. -/
def rdL (R : List (Nat × Nat × Nat)) (os : List Nat) (j : Nat) : List (Nat × Nat × Nat) := readyR R (os.take (j + 1)) (os.getD j 0)
theorem rdL_app (R : List (Nat × Nat × Nat)) (os : List Nat) (x j : Nat) (h : j < os.length) : rdL R (os ++ [x]) j = rdL R os j := by
  unfold rdL
  rw [List.take_append_of_le_length (by omega)]
  congr 1
  rw [List.getD_eq_getElem?_getD, List.getD_eq_getElem?_getD, List.getElem?_append_left h]
/-- Where plan stands: kr places are ready, the next one has cur so far. -/
structure PlAt (w : World) (m : Nat) (R : List (Nat × Nat × Nat)) (vq : Value) (gB gR gC gP B0 kr : Nat) (os : List Nat) (vo : Value) (vals : Nat → Value) (cur : List (Nat × Nat × Nat)) (wr : World) : Prop where
  nd : os.Nodup
  lt : ∀ x, x ∈ os → x < m
  box : wr.heap[gB]? = some (.cells #[vq, vo, .slice (some ⟨gR, 0, none⟩) m m, .slice (some ⟨gC, 0, none⟩) m m] 166 (0, 0))
  ord : wr.ownsRow (gC + 1) 3 1 vo os.length (nats os)
  rdy : wr.ownsRow (w.heap.size + 1) 168 1 (.slice (some ⟨gR, 0, none⟩) m m) m (mapV m vals)
  each : ∀ j, j < kr → wr.ownsRow (w.heap.size + 1) 231 3 (vals j) (rdL R os j).length (ruCells (rdL R os j))
  old : ∀ j g, j < kr → (vals j).ownBlock = some g → g < B0
  curr : wr.ownsRow B0 231 3 (vals kr) cur.length (ruCells cur)
  nils : ∀ j, kr < j → vals j = .slice none 0 0
  col : wr.ownsRow (w.heap.size + 1) 3 1 (.slice (some ⟨gC, 0, none⟩) m m) m (nats (List.replicate m 0))
  plc : wr.ownsRow (w.heap.size + 1) 4 1 (.slice (some ⟨gP, 0, none⟩) m m) m (bools ((List.range m).map fun i => decide (i ∈ os)))
  hB : w.heap.size + 1 ≤ B0 ∧ B0 ≤ wr.heap.size
  lo : w.heap.size < gB
  bel : Below w.heap.size w wr
  res : wr.heap[w.heap.size]? = some (.cells #[.slice none 0 0, .slice none 0 0, .slice none 0 0, .slice none 0 0] 166 (0, 0))
theorem PlAt.keep {w : World} {m : Nat} {R : List (Nat × Nat × Nat)} {vq : Value} {gB gR gC gP B0 kr : Nat} {os : List Nat} {vo : Value} {vals : Nat → Value} {cur : List (Nat × Nat × Nat)} {wr wr' : World} (h : PlAt w m R vq gB gR gC gP B0 kr os vo vals cur wr) (hg : wr.grownBy wr' none) : PlAt w m R vq gB gR gC gP B0 kr os vo vals cur wr' :=
  ⟨h.nd, h.lt, (hg.block _ (blk_lt h.box) (by simp)).trans h.box, own_any h.ord hg, own_any h.rdy hg, fun j hj => own_any (h.each j hj) hg, h.old, own_any h.curr hg, h.nils, own_any h.col hg, own_any h.plc hg, ⟨h.hB.1, Nat.le_trans h.hB.2 hg.size⟩, h.lo, h.bel.grown hg h.bel.size (fun q hq => by cases hq), (hg.block _ (blk_lt h.res) (by simp)).trans h.res⟩
theorem PlAt.start {w : World} {m : Nat} {R : List (Nat × Nat × Nat)} {vq : Value} {gB gR gC gP : Nat} {W W' : World} (h : PlInit w m vq gB gR gC W) (hg : W.grownBy W' none) (hp : W'.ownsRow (w.heap.size + 1) 4 1 (.slice (some ⟨gP, 0, none⟩) m m) m (bools (List.replicate m false))) : PlAt w m R vq gB gR gC gP W'.heap.size 0 [] (.slice none 0 0) (fun _ => .slice none 0 0) [] W' := by
  refine ⟨List.nodup_nil, fun x hx => absurd hx (by simp), (hg.block _ (blk_lt h.box) (by simp)).trans h.box, World.ownsRow_nil _ _ _ _, own_any h.rdy hg, fun j hj => absurd hj (Nat.not_lt_zero _), fun j g hj => absurd hj (Nat.not_lt_zero _), World.ownsRow_nil _ _ _ _, fun j _ => rfl, own_any h.col hg, ?_, ⟨?_, Nat.le_refl _⟩, h.lo, h.bel.grown hg h.bel.size (fun q hq => by cases hq), (hg.block _ (blk_lt h.res) (by simp)).trans h.res⟩
  · have e : (List.range m).map (fun i => decide (i ∈ ([] : List Nat))) = List.replicate m false := by
      apply List.ext_getElem?
      intro j
      by_cases hj : j < m
      · simp [hj]
      · rw [List.getElem?_eq_none (by simp; omega), List.getElem?_eq_none (by simp; omega)]
    rw [e]
    exact hp
  · have := blk_lt h.box
    have := hg.size
    have := h.lo
    omega
/-- The next overpass has its place. -/
theorem PlAt.order {w : World} {m : Nat} {R : List (Nat × Nat × Nat)} {vq : Value} {gB gR gC gP B0 kr : Nat} {os : List Nat} {vo vo' : Value} {vals : Nat → Value} {cur : List (Nat × Nat × Nat)} {W W2 : World} {nx : Nat} {o : Obj} (h : PlAt w m R vq gB gR gC gP B0 kr os vo vals cur W) (hkr : kr ≤ os.length) (hnx : nx < m) (hno : nx ∉ os)
    (hown : W2.ownsRow (gC + 1) 3 1 vo' (os.length + 1) (nats (os ++ [nx]))) (hg : ((W.setCell ⟨gP, nx, none⟩ (.bool true)).alloc o).grownBy W2 vo.ownBlock) : PlAt w m R vq gB gR gC gP B0 kr (os ++ [nx]) vo' vals cur (W2.setCell ⟨gB, 1, none⟩ vo') := by
  have hst := h.plc.stored nx (.bool true)
  have g1 := hst.2
  have b1 := (g1.block gB (blk_lt h.box) (fun e => by
    rcases own_nb h.plc h.box (by decide) with q | q
    · cases q
    · exact q e.symm)).trans h.box
  have o1 := h.ord.kept g1 (own_ne h.ord h.plc (by decide))
  have r1 := h.rdy.kept g1 (own_ne h.rdy h.plc (by decide))
  have c1 := h.curr.kept g1 (own_ne h.curr h.plc (by decide))
  have l1 := h.col.kept g1 (own_ne h.col h.plc (by decide))
  have e1 := fun j hj => (h.each j hj).kept g1 (own_ne (h.each j hj) h.plc (by decide))
  have p1 := hst.1
  have bl1 := h.bel.grown g1 h.bel.size (fun q hq => by have := Option.some.inj hq; have := (h.plc.lt gP rfl).1; omega)
  have b2 := alloc_old (o := o) b1
  have o2 := o1.alloc o
  have b3 : W2.heap[gB]? = some (.cells #[vq, vo, .slice (some ⟨gR, 0, none⟩) m m, .slice (some ⟨gC, 0, none⟩) m m] 166 (0, 0)) := (hg.block gB (blk_lt b2) (fun e => by
    rcases own_nb o2 b2 (by decide) with q | q
    · rw [q] at e; cases e
    · exact q e.symm)).trans b2
  have r3 := (r1.alloc o).kept hg (own_ne (r1.alloc o) o2 (by decide))
  have c3 := (c1.alloc o).kept hg (own_ne (c1.alloc o) o2 (by decide))
  have e3 := fun j hj => ((e1 j hj).alloc o).kept hg (own_ne ((e1 j hj).alloc o) o2 (by decide))
  have p3 := (p1.alloc o).kept hg (own_ne (p1.alloc o) o2 (by decide))
  have l3 := (l1.alloc o).kept hg (Or.inr (fun e => by
    have := (o2.lt gC e.symm).1
    omega))
  have sz : (W.setCell ⟨gP, nx, none⟩ (.bool true)).heap.size = W.heap.size := by simp
  have bl3 := (bl1.alloc (by rw [sz]; exact h.bel.size) o).grown hg (by simp; have := h.bel.size; omega) (fun q hq => by have := (o2.lt q hq).1; have := (l1.lt gC rfl).1; omega)
  have s1 := (g1.block w.heap.size (blk_lt h.res) (fun e => by have := Option.some.inj e; have := (h.plc.lt gP rfl).1; omega)).trans h.res
  have s2 := alloc_old (o := o) s1
  have s3 := (hg.block w.heap.size (blk_lt s2) (fun e => by have := (o2.lt w.heap.size e.symm).1; have := (l1.lt gC rfl).1; omega)).trans s2
  have g4 := set_grown W2 gB 1 vo'
  refine ⟨List.nodup_append.2 ⟨h.nd, by simp, fun a ha b hb e => hno (List.mem_singleton.1 hb ▸ e ▸ ha)⟩, fun x hx => ?_, ?_, ?_, r3.kept g4 (own_nb r3 b3 (by decide)), fun j hj => ?_, h.old, c3.kept g4 (own_nb c3 b3 (by decide)), h.nils, l3.kept g4 (own_nb l3 b3 (by decide)), ?_, ⟨h.hB.1, ?_⟩, h.lo, bl3.grown g4 bl3.size (fun q hq => by have := Option.some.inj hq; have := h.lo; omega), (g4.block _ (blk_lt s3) (fun e => by have := Option.some.inj e; have := h.lo; omega)).trans s3⟩
  · rcases List.mem_append.1 hx with q | q
    · exact h.lt x q
    · have : x = nx := by simpa using q
      omega
  · rw [set_block b3]; rfl
  · rw [List.length_append]
    exact hown.kept g4 (own_nb hown b3 (by decide))
  · rw [rdL_app R os nx j (by omega)]
    exact (e3 j hj).kept g4 (own_nb (e3 j hj) b3 (by decide))
  · have e : (bools ((List.range m).map fun i => decide (i ∈ os))).set nx (.bool true) = bools ((List.range m).map fun i => decide (i ∈ os ++ [nx])) := by
      apply List.ext_getElem?
      intro j
      unfold bools
      by_cases hj : j < m
      · rw [List.getElem?_set]
        by_cases e : nx = j
        · subst e; simp [hj]
        · rw [if_neg e]
          have : ¬ j = nx := fun q => e q.symm
          simp [hj, this]
      · rw [List.getElem?_eq_none (by simp; omega), List.getElem?_eq_none (by simp; omega)]
    rw [e] at p3
    exact p3.kept g4 (own_nb p3 b3 (by decide))
  · have := hg.size
    have e5 : ((W.setCell ⟨gP, nx, none⟩ (.bool true)).alloc o).heap.size = W.heap.size + 1 := by simp
    have := h.hB.2
    have e6 : (W2.setCell ⟨gB, 1, none⟩ vo').heap.size = W2.heap.size := by simp
    omega
/-- A rule more is ready. -/
theorem PlAt.more {w : World} {m : Nat} {R : List (Nat × Nat × Nat)} {vq : Value} {gB gR gC gP B0 kr : Nat} {os : List Nat} {vo v' : Value} {vals : Nat → Value} {cur : List (Nat × Nat × Nat)} {W W2 : World} {r : Nat × Nat × Nat} (h : PlAt w m R vq gB gR gC gP B0 kr os vo vals cur W)
    (hown : W2.ownsRow B0 231 3 v' (cur.length + 1) (ruCells (cur ++ [r]))) (hg : W.grownBy W2 (vals kr).ownBlock) : PlAt w m R vq gB gR gC gP B0 kr os vo (fun j => if j = kr then v' else vals j) (cur ++ [r]) (W2.setCell ⟨gR, kr, none⟩ v') := by
  have b1 := (hg.block gB (blk_lt h.box) (fun e => by
    rcases own_nb h.curr h.box (by decide) with q | q
    · rw [q] at e; cases e
    · exact q e.symm)).trans h.box
  have o1 := h.ord.kept hg (own_ne h.ord h.curr (by decide))
  have r1 := h.rdy.kept hg (own_ne h.rdy h.curr (by decide))
  have l1 := h.col.kept hg (own_ne h.col h.curr (by decide))
  have p1 := h.plc.kept hg (own_ne h.plc h.curr (by decide))
  have e1 := fun j (hj : j < kr) => (h.each j hj).kept hg (by
    cases e : (vals j).ownBlock with
    | none => exact Or.inl rfl
    | some g =>
      refine Or.inr fun q => ?_
      have h1 := h.old j g hj e
      have h2 := (h.curr.lt g q.symm).1
      omega)
  have bl1 := h.bel.grown hg h.bel.size (fun q hq => by have := (h.curr.lt q hq).1; have := h.hB.1; omega)
  have s1 := (hg.block w.heap.size (blk_lt h.res) (fun e => by have := (h.curr.lt w.heap.size e.symm).1; have := h.hB.1; omega)).trans h.res
  have hst := r1.stored kr v'
  have g4 := hst.2
  have e : (mapV m vals).set kr v' = mapV m (fun j => if j = kr then v' else vals j) := mapV_set m vals _ kr v' fun j _ => rfl
  have ne := fun {B e s n : Nat} {v : Value} {xs : List Value} (q : W2.ownsRow B e s v n xs) (he : e ≠ 168) => own_ne q r1 he
  refine ⟨h.nd, h.lt, (g4.block gB (blk_lt b1) (fun e => ?_)).trans b1, o1.kept g4 (ne o1 (by decide)), by rw [← e]; exact hst.1, fun j hj => ?_, fun j g hj hv => ?_, ?_, fun j hj => ?_, l1.kept g4 (ne l1 (by decide)), p1.kept g4 (ne p1 (by decide)), ⟨h.hB.1, ?_⟩, h.lo, bl1.grown g4 bl1.size (fun q hq => by have := Option.some.inj hq; have := (r1.lt gR rfl).1; omega), (g4.block _ (blk_lt s1) (fun e => by have := Option.some.inj e; have := (r1.lt gR rfl).1; omega)).trans s1⟩
  · rcases own_nb r1 b1 (by decide) with q | q
    · cases q
    · exact q e.symm
  · rw [if_neg (by omega)]
    exact (e1 j hj).kept g4 (ne (e1 j hj) (by decide))
  · rw [if_neg (by omega)] at hv
    exact h.old j g hj hv
  · rw [if_pos rfl, List.length_append]
    exact hown.kept g4 (ne hown (by decide))
  · rw [if_neg (by omega)]
    exact h.nils j hj
  · have := hg.size
    have := h.hB.2
    simp
    omega
/-- A place is ready. -/
theorem PlAt.done {w : World} {m : Nat} {R : List (Nat × Nat × Nat)} {vq : Value} {gB gR gC gP B0 kr : Nat} {os : List Nat} {vo : Value} {vals : Nat → Value} {cur : List (Nat × Nat × Nat)} {W : World} (h : PlAt w m R vq gB gR gC gP B0 kr os vo vals cur W) (hc : cur = rdL R os kr) : PlAt w m R vq gB gR gC gP W.heap.size (kr + 1) os vo vals [] W := by
  refine ⟨h.nd, h.lt, h.box, h.ord, h.rdy, fun j hj => ?_, fun j g hj hv => ?_, by rw [h.nils (kr + 1) (by omega)]; exact World.ownsRow_nil _ _ _ _, fun j hj => h.nils j (by omega), h.col, h.plc, ⟨Nat.le_trans h.hB.1 h.hB.2, Nat.le_refl _⟩, h.lo, h.bel, h.res⟩
  · by_cases e : j = kr
    · rw [e, ← hc]
      exact own_low h.curr h.hB.1
    · exact h.each j (by omega)
  · by_cases e : j = kr
    · rw [e] at hv
      exact (h.curr.lt g hv).2
    · have := h.old j g (by omega) hv
      have := h.hB.2
      omega
/-- A painting that is planned. -/
structure Paint (w : World) (m : Nat) (R : List (Nat × Nat × Nat)) (gR gC : Nat) (os : List Nat) (vo : Value) (vals : Nat → Value) (w' : World) : Prop where
  nd : os.Nodup
  lt : ∀ x, x ∈ os → x < m
  len : os.length = m
  ord : w'.ownsRow (gC + 1) 3 1 vo m (nats os)
  rdy : w'.ownsRow (w.heap.size + 1) 168 1 (.slice (some ⟨gR, 0, none⟩) m m) m (mapV m vals)
  each : ∀ j, j < m → w'.ownsRow (w.heap.size + 1) 231 3 (vals j) (rdL R os j).length (ruCells (rdL R os j))
  col : w'.ownsRow (w.heap.size + 1) 3 1 (.slice (some ⟨gC, 0, none⟩) m m) m (nats (List.replicate m 0))
  bel : Below w.heap.size w w'
def PlanOut (w : World) (m : Nat) (R : List (Nat × Nat × Nat)) (vq : Value) (e : Ending) (w' : World) : Prop := ∃ gR gC os vo vals, e = .returned (.agg #[vq, vo, .slice (some ⟨gR, 0, none⟩) m m, .slice (some ⟨gC, 0, none⟩) m m]) ∧ Paint w m R gR gC os vo vals w'
theorem PlAt.paint {w : World} {m : Nat} {R : List (Nat × Nat × Nat)} {vq : Value} {gB gR gC gP B0 : Nat} {os : List Nat} {vo : Value} {vals : Nat → Value} {W W' : World} (h : PlAt w m R vq gB gR gC gP B0 m os vo vals [] W) (hl : os.length = m) (hg : W.grownBy W' (some w.heap.size)) : Paint w m R gR gC os vo vals W' := by
  have no : ∀ {B e s n : Nat} {v : Value} {xs : List Value}, W.ownsRow B e s v n xs → w.heap.size + 1 ≤ B → W'.ownsRow B e s v n xs := fun {B e s n v xs} q hB => q.kept hg (by
    cases e : v.ownBlock with
    | none => exact Or.inl rfl
    | some g =>
      refine Or.inr fun e2 => ?_
      have h1 := (q.lt g e).1
      have h2 := Option.some.inj e2
      omega)
  have hc := (h.col.lt gC rfl).1
  refine ⟨h.nd, h.lt, hl, ?_, no h.rdy (Nat.le_refl _), fun j hj => no (h.each j hj) (Nat.le_refl _), no h.col (Nat.le_refl _), h.bel.grown hg h.bel.size (fun q hq => by have := Option.some.inj hq; omega)⟩
  have := no h.ord (by omega)
  rw [hl] at this
  exact this
end Go.Proofs.Ytnhllpaoplfgpaa
/- The walk of colour.plan. -/
namespace Go.Proofs.Ytnhllpaoplfgpaa
open Go.RowKit

set_option maxHeartbeats 8000000 in
set_option maxRecDepth 100000 in
theorem plan_any (ar : Option Addr) (cr : Nat) (R : List (Nat × Nat × Nat)) (m : Nat) (aq : Option Addr) (n cq : Nat) (w : World) (hm : m ≤ 40) (hR : R.length ≤ 16) (hRd : RdAt w w.heap.size 3 (.slice ar R.length cr) R.length (ruCells R)) (hIn : ∀ r, r ∈ R → r.1 < m ∧ r.2.1 < m ∧ r.2.2 < m) :
    Calls Try.prog 129 #[.slice ar R.length cr, .int .i64 (m : Nat), .slice aq n cq] w (PlanOut w m R (.slice aq n cq)) := by
  obtain ⟨i2, hk, hx0, hx1, hx2⟩ := info_parts infoInt
  obtain ⟨i1, hj, hy0, hy1, hy2⟩ := info_parts infoRules
  obtain ⟨i0, hi, hz0, hz1, hz2⟩ := info_parts infoBool
  have HRD : Hid (RdAt w w.heap.size 3 (.slice ar R.length cr) R.length (ruCells R)) := hRd
  have HIN : Hid (∀ r, r ∈ R → r.1 < m ∧ r.2.1 < m ∧ r.2.2 < m) := hIn
  clear hIn hRd
  obtain ⟨OR, hOR⟩ : ∃ OR, OR = Obj.cells (madeCells (Value.slice none 0 0).cells (m * 1)) 168 := ⟨_, rfl⟩
  obtain ⟨OC, hOC⟩ : ∃ OC, OC = Obj.cells (madeCells (Value.int .i64 0).cells (m * 1)) 3 := ⟨_, rfl⟩
  have hmR : ∀ W : World, (Instr.makeSlice 164 (.int .i64 (m : Int)) (.int .i64 (m : Int))).run Try.prog W = .ok (.slice (some ⟨W.heap.size, 0, none⟩) m m) (W.alloc OR) := fun W => by
    have h := run_make (P := Try.prog) W 164 168 i1 (.slice none 0 0) Try.underlying164 hj hy0 .i64 .i64 m m (by omega) (Int.le_refl _) (by rw [hy2]; omega) (by omega)
    simp only [Int.toNat_natCast, hy1] at h
    rw [hOR]
    exact h
  have hmC : ∀ W : World, (Instr.makeSlice 61 (.int .i64 (m : Int)) (.int .i64 (m : Int))).run Try.prog W = .ok (.slice (some ⟨W.heap.size, 0, none⟩) m m) (W.alloc OC) := fun W => by
    have h := run_make (P := Try.prog) W 61 3 i2 (.int .i64 0) Try.underlying61 hk hx0 .i64 .i64 m m (by omega) (Int.le_refl _) (by rw [hx2]; omega) (by omega)
    simp only [Int.toNat_natCast, hx1] at h
    rw [hOC]
    exact h
  obtain ⟨w0, hw0⟩ : ∃ w0, w0 = w.alloc (.cells #[.slice none 0 0, .slice none 0 0, .slice none 0 0, .slice none 0 0] 166) := ⟨_, rfl⟩
  have HW0 : Hid (w0 = w.alloc (.cells #[.slice none 0 0, .slice none 0 0, .slice none 0 0, .slice none 0 0] 166)) := hw0
  have HOR : Hid (OR = Obj.cells (madeCells (Value.slice none 0 0).cells (m * 1)) 168) := hOR
  have HOC : Hid (OC = Obj.cells (madeCells (Value.int .i64 0).cells (m * 1)) 3) := hOC
  clear hw0 hOR hOC
  go_enter Try.func129, Try.ntmps129
  go_wp2
  rw [← HW0.out]
  have HM63 : Hid (m ≤ maxLen) := (by unfold maxLen; omega : m ≤ maxLen)
  have HS0 : Hid (w0.heap.size = w.heap.size + 1) := (by rw [HW0.out]; simp : w0.heap.size = w.heap.size + 1)
  have HBS : Hid (∀ o1 o2 o3, Below w.heap.size w (((w0.alloc o1).alloc o2).alloc o3).drew) := fun o1 o2 o3 => below_drewN (((((by rw [HW0.out]; exact (Below.refl _ _).alloc (Nat.le_refl _) _ : Below w.heap.size w w0)).alloc (by have := HS0.out; omega) o1).alloc (by simp; have := HS0.out; omega) o2).alloc (by simp; have := HS0.out; omega) o3) 1
  have HRS : Hid (∀ o1 o2 o3, (((w0.alloc o1).alloc o2).alloc o3).drew.heap[w.heap.size]? = some (.cells #[.slice none 0 0, .slice none 0 0, .slice none 0 0, .slice none 0 0] 166 (0, 0))) := fun o1 o2 o3 => drew_blk (alloc_old (alloc_old (alloc_old (by rw [HW0.out]; exact alloc_at rfl))))
  have HCR : Hid ((madeCells (Value.slice none 0 0).cells (m * 1)).size = m * 1) := size_madeCells _ _
  have HCC : Hid ((madeCells (Value.int .i64 0).cells (m * 1)).size = m * 1) := size_madeCells _ _
  have HI1 : Hid (PlInit w m (.slice aq n cq) (w0.heap.size + 1 + 1) (w0.heap.size) (w0.heap.size + 1) ((((w0.alloc OR).alloc OC).alloc (Obj.cells #[Value.slice aq n cq, .slice none 0 0, .slice (some ⟨w0.heap.size, 0, none⟩) m m, .slice (some ⟨w0.heap.size + 1, 0, none⟩) m m] 166)).drew)) := (by
    refine ⟨blk3 _ _ _ _, ?_, ?_, by omega, by omega, by have := HS0.out; omega, HBS.out _ _ _, HRS.out _ _ _⟩
    · rw [HOR.out, ← made_nilV]; exact own1 _ _ (by have := HS0.out; omega) HM63.out HCR.out
    · rw [HOC.out, ← made_zeroN]; exact own2 _ _ (by have := HS0.out; omega) HM63.out HCC.out : PlInit w m (.slice aq n cq) (w0.heap.size + 1 + 1) (w0.heap.size) (w0.heap.size + 1) ((((w0.alloc OR).alloc OC).alloc (Obj.cells #[Value.slice aq n cq, .slice none 0 0, .slice (some ⟨w0.heap.size, 0, none⟩) m m, .slice (some ⟨w0.heap.size + 1, 0, none⟩) m m] 166)).drew))
  have HI2 : Hid (PlInit w m (.slice aq n cq) (w0.heap.size + 1) (w0.heap.size) (w0.heap.size + 1 + 1) ((((w0.alloc OR).alloc (Obj.cells #[Value.slice aq n cq, .slice none 0 0, .slice (some ⟨w0.heap.size, 0, none⟩) m m, .slice (some ⟨w0.heap.size + 1 + 1, 0, none⟩) m m] 166)).alloc OC).drew)) := (by
    refine ⟨blk2 _ _ _ _, ?_, ?_, by omega, by omega, by have := HS0.out; omega, HBS.out _ _ _, HRS.out _ _ _⟩
    · rw [HOR.out, ← made_nilV]; exact own1 _ _ (by have := HS0.out; omega) HM63.out HCR.out
    · rw [HOC.out, ← made_zeroN]; exact own3 _ _ (by have := HS0.out; omega) HM63.out HCC.out : PlInit w m (.slice aq n cq) (w0.heap.size + 1) (w0.heap.size) (w0.heap.size + 1 + 1) ((((w0.alloc OR).alloc (Obj.cells #[Value.slice aq n cq, .slice none 0 0, .slice (some ⟨w0.heap.size, 0, none⟩) m m, .slice (some ⟨w0.heap.size + 1 + 1, 0, none⟩) m m] 166)).alloc OC).drew))
  have HI3 : Hid (PlInit w m (.slice aq n cq) (w0.heap.size + 1 + 1) (w0.heap.size + 1) (w0.heap.size) ((((w0.alloc OC).alloc OR).alloc (Obj.cells #[Value.slice aq n cq, .slice none 0 0, .slice (some ⟨w0.heap.size + 1, 0, none⟩) m m, .slice (some ⟨w0.heap.size, 0, none⟩) m m] 166)).drew)) := (by
    refine ⟨blk3 _ _ _ _, ?_, ?_, by omega, by omega, by have := HS0.out; omega, HBS.out _ _ _, HRS.out _ _ _⟩
    · rw [HOR.out, ← made_nilV]; exact own2 _ _ (by have := HS0.out; omega) HM63.out HCR.out
    · rw [HOC.out, ← made_zeroN]; exact own1 _ _ (by have := HS0.out; omega) HM63.out HCC.out : PlInit w m (.slice aq n cq) (w0.heap.size + 1 + 1) (w0.heap.size + 1) (w0.heap.size) ((((w0.alloc OC).alloc OR).alloc (Obj.cells #[Value.slice aq n cq, .slice none 0 0, .slice (some ⟨w0.heap.size + 1, 0, none⟩) m m, .slice (some ⟨w0.heap.size, 0, none⟩) m m] 166)).drew))
  have HI4 : Hid (PlInit w m (.slice aq n cq) (w0.heap.size + 1) (w0.heap.size + 1 + 1) (w0.heap.size) ((((w0.alloc OC).alloc (Obj.cells #[Value.slice aq n cq, .slice none 0 0, .slice (some ⟨w0.heap.size + 1 + 1, 0, none⟩) m m, .slice (some ⟨w0.heap.size, 0, none⟩) m m] 166)).alloc OR).drew)) := (by
    refine ⟨blk2 _ _ _ _, ?_, ?_, by omega, by omega, by have := HS0.out; omega, HBS.out _ _ _, HRS.out _ _ _⟩
    · rw [HOR.out, ← made_nilV]; exact own3 _ _ (by have := HS0.out; omega) HM63.out HCR.out
    · rw [HOC.out, ← made_zeroN]; exact own1 _ _ (by have := HS0.out; omega) HM63.out HCC.out : PlInit w m (.slice aq n cq) (w0.heap.size + 1) (w0.heap.size + 1 + 1) (w0.heap.size) ((((w0.alloc OC).alloc (Obj.cells #[Value.slice aq n cq, .slice none 0 0, .slice (some ⟨w0.heap.size + 1 + 1, 0, none⟩) m m, .slice (some ⟨w0.heap.size, 0, none⟩) m m] 166)).alloc OR).drew))
  have HI5 : Hid (PlInit w m (.slice aq n cq) (w0.heap.size) (w0.heap.size + 1) (w0.heap.size + 1 + 1) ((((w0.alloc (Obj.cells #[Value.slice aq n cq, .slice none 0 0, .slice (some ⟨w0.heap.size + 1, 0, none⟩) m m, .slice (some ⟨w0.heap.size + 1 + 1, 0, none⟩) m m] 166)).alloc OR).alloc OC).drew)) := (by
    refine ⟨blk1 _ _ _ _, ?_, ?_, by omega, by omega, by have := HS0.out; omega, HBS.out _ _ _, HRS.out _ _ _⟩
    · rw [HOR.out, ← made_nilV]; exact own2 _ _ (by have := HS0.out; omega) HM63.out HCR.out
    · rw [HOC.out, ← made_zeroN]; exact own3 _ _ (by have := HS0.out; omega) HM63.out HCC.out : PlInit w m (.slice aq n cq) (w0.heap.size) (w0.heap.size + 1) (w0.heap.size + 1 + 1) ((((w0.alloc (Obj.cells #[Value.slice aq n cq, .slice none 0 0, .slice (some ⟨w0.heap.size + 1, 0, none⟩) m m, .slice (some ⟨w0.heap.size + 1 + 1, 0, none⟩) m m] 166)).alloc OR).alloc OC).drew))
  have HI6 : Hid (PlInit w m (.slice aq n cq) (w0.heap.size) (w0.heap.size + 1 + 1) (w0.heap.size + 1) ((((w0.alloc (Obj.cells #[Value.slice aq n cq, .slice none 0 0, .slice (some ⟨w0.heap.size + 1 + 1, 0, none⟩) m m, .slice (some ⟨w0.heap.size + 1, 0, none⟩) m m] 166)).alloc OC).alloc OR).drew)) := (by
    refine ⟨blk1 _ _ _ _, ?_, ?_, by omega, by omega, by have := HS0.out; omega, HBS.out _ _ _, HRS.out _ _ _⟩
    · rw [HOR.out, ← made_nilV]; exact own3 _ _ (by have := HS0.out; omega) HM63.out HCR.out
    · rw [HOC.out, ← made_zeroN]; exact own2 _ _ (by have := HS0.out; omega) HM63.out HCC.out : PlInit w m (.slice aq n cq) (w0.heap.size) (w0.heap.size + 1 + 1) (w0.heap.size + 1) ((((w0.alloc (Obj.cells #[Value.slice aq n cq, .slice none 0 0, .slice (some ⟨w0.heap.size + 1 + 1, 0, none⟩) m m, .slice (some ⟨w0.heap.size + 1, 0, none⟩) m m] 166)).alloc OC).alloc OR).drew))
  apply cut_one
  case h =>
    intro key
    go_region_held3 (fun _ => True) (trivial) (fail)
    · (have hA : Hid (PlInit w m (.slice aq n cq) (w0.heap.size + 1 + 1) (w0.heap.size) (w0.heap.size + 1) ((((w0.alloc OR).alloc OC).alloc (Obj.cells #[Value.slice aq n cq, .slice none 0 0, .slice (some ⟨w0.heap.size, 0, none⟩) m m, .slice (some ⟨w0.heap.size + 1, 0, none⟩) m m] 166)).drew)) := HI1; revert hA; generalize (((w0.alloc OR).alloc OC).alloc (Obj.cells #[Value.slice aq n cq, .slice none 0 0, .slice (some ⟨w0.heap.size, 0, none⟩) m m, .slice (some ⟨w0.heap.size + 1, 0, none⟩) m m] 166)).drew = WW; generalize w0.heap.size + 1 + 1 = gB; generalize w0.heap.size + 1 = gC; generalize w0.heap.size = gR; revert gB gC gR WW; exact key.out)
    · exact key.out _ _ _ _ HI2
    · exact key.out _ _ _ _ HI3
    · exact key.out _ _ _ _ HI4
    · exact key.out _ _ _ _ HI5
    · exact key.out _ _ _ _ HI6
  intro W0 gB gC gR HIN0
  have HS1 : Hid (w.heap.size < W0.heap.size) := (Nat.lt_of_le_of_lt (Nat.le_of_lt HIN0.out.lo) (blk_lt HIN0.out.box) : w.heap.size < W0.heap.size)
  clear HI1 HI2 HI3 HI4 HI5 HI6 HBS HRS HCR HCC HOR HOC hmR hmC HW0
  go_wp2_with (first | (at_make; refine wpList_make_full _ rfl _ _ 50 rfl (w.heap.size + 1) 4 i0 (.bool false) 1 Try.underlying50 hi hz0 hz1 .i64 .i64 _ _ m rfl rfl rfl rfl (by rw [hz2]; omega) (by unfold maxLen; omega) (by have := HIN0.out.bel.size; have := HS1.out; omega) ?_; intro w2 hrow hg2; refine Hid.out ?_))
  refine Lib.hid ?_
  have e0 : (madeCells (Value.bool false).cells (m * 1)).toList = bools (List.replicate m false) := by
    have e : (Value.bool false).cells = #[Value.bool false] := rfl
    rw [e, toList_madeCells_one, Nat.mul_one]
    simp [bools]
  rw [e0] at hrow
  have HP0 : Hid (PlAt w m R (.slice aq n cq) gB gR gC W0.heap.size w2.heap.size 0 [] (.slice none 0 0) (fun _ => .slice none 0 0) [] w2) := PlAt.start HIN0.out hg2 hrow
  clear hrow hg2 e0 HIN0 HS1
  obtain ⟨gP, hgP⟩ : ∃ g, W0.heap.size = g := ⟨_, rfl⟩
  rw [hgP] at HP0 ⊢
  clear hgP
  go_wp2
  go_loopw [22] (fun v22 wr => ∃ (k B0 : Nat) (os : List Nat) (vo : Value) (vals : Nat → Value), k ≤ m ∧ v22 = .int .i64 (k : Nat) ∧ Hid (os.length = k) ∧ Hid (PlAt w m R (.slice aq n cq) gB gR gC gP B0 k os vo vals [] wr)) (fun v22 _ => m - (intOf v22).toNat)
  case atStart => exact ⟨0, _, [], _, _, Nat.zero_le _, rfl, rfl, HP0.out⟩
  case round =>
    clear HP0
    rename World => W1
    obtain ⟨k, B0, os, vo, vals, hkm, rfl, hlen, hp⟩ := hrel
    by_cases hkl : k < m
    · have hPc : ∀ i, i < m → W1.cell? ⟨gP, i, none⟩ = some (.bool (decide (i ∈ os))) := fun i hi => by
        rw [hp.out.plc.cellAt i (by omega)]
        simp [bools, hi]
      have hs1 := hp.out.bel.size
      have hgP := hp.out.plc.lt gP rfl
      have HNX : Hid (Calls Try.prog 178 #[.slice ar R.length cr, .slice (some ⟨gP, 0, none⟩) m m] W1 fun e w' => ∃ i : Nat, e = .returned (.int .i64 (i : Nat)) ∧ i < m ∧ decide (i ∈ os) = false ∧ Below W1.heap.size W1 w') := nextOver_any ar cr R gP m m (fun i => decide (i ∈ os)) W1 (by omega) hm hgP.2 hR ((HRD.out.on hp.out.bel).mono hs1) HIN.out hPc (one_left os (by rw [hlen.out]; exact hkl))
      clear hPc
      go_wp2_with (go_at_call 178; refine HNX.out.mono ?_; rintro e9 w3 ⟨nx, rfl, hnx, hno, hb3⟩; refine Hid.out ?_)
      refine Lib.hid ?_
      have HNO : Hid (nx ∉ os) := (by simpa using hno : nx ∉ os)
      have HP3 : Hid (PlAt w m R (.slice aq n cq) gB gR gC gP B0 k os vo vals [] w3) := hp.out.keep (grown_below hb3 none)
      clear hb3 hno HNX hp hgP
      obtain ⟨ao, co, eo⟩ := own_capS HP3.out.ord
      rw [hlen.out] at eo
      obtain rfl := eo
      have q1 : w3.cell? ⟨gB, 1, none⟩ = some (.slice ao k co) := block_cell HP3.out.box rfl
      have z1 : w3.frozen? ⟨gP, nx, none⟩ = false := HP3.out.plc.frozenAt nx
      have z2 : w3.cell? ⟨gP, nx, none⟩ = some (.bool (decide (nx ∈ os))) := by
        rw [HP3.out.plc.cellAt nx (by omega)]
        simp [bools, hnx]
      have hgP3 := (HP3.out.plc.lt gP rfl).2
      have hgB3 := blk_lt HP3.out.box
      go_upto_region 8 with (fail)
      obtain ⟨X1, hX1⟩ : ∃ X, X = w3.setCell ⟨gP, nx, none⟩ (.bool true) := ⟨_, rfl⟩
      have HX1 : Hid (X1 = w3.setCell ⟨gP, nx, none⟩ (.bool true)) := hX1
      have hgX : w3.grownBy X1 (some gP) := by rw [hX1]; exact (HP3.out.plc.stored nx (.bool true)).2
      have hsX : X1.heap.size = w3.heap.size := by rw [hX1]; simp
      have hnB : gB ≠ gP := fun e => by
        rcases own_nb HP3.out.plc HP3.out.box (by decide) with q | q
        · cases q
        · exact q (by rw [e]; rfl)
      have hbX : X1.heap[gB]? = some (.cells #[.slice aq n cq, .slice ao k co, .slice (some ⟨gR, 0, none⟩) m m, .slice (some ⟨gC, 0, none⟩) m m] 166 (0, 0)) := (hgX.block gB hgB3 (fun e => hnB (Option.some.inj e))).trans HP3.out.box
      have HBX : Hid (X1.heap[gB]? = some (.cells #[.slice aq n cq, .slice ao k co, .slice (some ⟨gR, 0, none⟩) m m, .slice (some ⟨gC, 0, none⟩) m m] 166 (0, 0))) := hbX
      have hoX := HP3.out.ord.kept hgX (own_ne HP3.out.ord HP3.out.plc (by decide))
      rw [hlen.out] at hoX
      have HOX : Hid (X1.ownsRow (gC + 1) 3 1 (.slice ao k co) k (nats os)) := hoX
      have q2 : X1.cell? ⟨gB, 1, none⟩ = some (.slice ao k co) := block_cell hbX rfl
      have hgBX : gB < X1.heap.size := by omega
      have hgCX : gC + 1 ≤ X1.heap.size := by have := (HP3.out.col.lt gC rfl).2; omega
      rw [← HX1.out]
      have hle3 : w3.heap.size ≤ X1.heap.size := Nat.le_of_eq hsX.symm
      clear hX1 hgX hbX hoX z1 z2 q1 hgB3 hgP3 hnB hsX
      go_wp2_with (first | (at_builtin; refine wpList_append_own _ rfl _ _ 61 rfl (gC + 1) 3 i2 (.int .i64 0) 1 8 Try.underlying61 hk hx0 hx1 hx2 rfl (by decide) _ k _ rfl (HOX.out.alloc _) ⟨X1.heap.size, 0, none⟩ 1 1 [.int .i64 (nx : Nat)] rfl rfl (new_cell1 _ _ _) (by intro u hu; rw [List.mem_singleton.1 hu]; rfl) (by unfold maxLen; omega) (by omega) (by simp; omega) ?_; intro v8 w8 hown8 hg8 _; refine Hid.out ?_))
      refine Lib.hid ?_
      have hown9 : w8.ownsRow (gC + 1) 3 1 v8 (os.length + 1) (nats (os ++ [nx])) := by
        rw [hlen.out, show nats (os ++ [nx]) = nats os ++ [.int .i64 (nx : Nat)] by simp [nats]]
        exact hown8
      rw [HX1.out] at hg8
      have HP9 : Hid (PlAt w m R (.slice aq n cq) gB gR gC gP B0 k (os ++ [nx]) v8 vals [] (w8.setCell ⟨gB, 1, none⟩ v8)) := HP3.out.order (by rw [hlen.out]; exact Nat.le_refl _) hnx HNO.out hown9 hg8
      rw [← HX1.out] at hg8
      have hgB8 : gB < w8.heap.size := by have := hg8.size; simp at this; omega
      have hg9 : (X1.alloc (.cells #[.int .i64 (nx : Nat)] 3)).grownBy w8 (Value.slice ao k co).ownBlock := hg8
      have hoA := HOX.out.alloc (.cells #[.int .i64 (nx : Nat)] 3)
      have hb8 : w8.heap[gB]? = some (.cells #[.slice aq n cq, .slice ao k co, .slice (some ⟨gR, 0, none⟩) m m, .slice (some ⟨gC, 0, none⟩) m m] 166 (0, 0)) := (hg9.block gB (by simp; omega) (fun e => by
        rcases own_nb hoA (alloc_old HBX.out) (by decide) with q | q
        · rw [q] at e; cases e
        · exact q e.symm)).trans (alloc_old HBX.out)
      have q3 : w8.cell? ⟨gB, 1, none⟩ = some (.slice ao k co) := block_cell hb8 rfl
      have z3 : w8.frozen? ⟨gB, 1, none⟩ = false := block_frozen hb8
      obtain ⟨a9, c9, rfl⟩ := own_capS hown8
      obtain ⟨W9, hW9⟩ : ∃ W, W = w8.setCell ⟨gB, 1, none⟩ (.slice a9 (k + 1) c9) := ⟨_, rfl⟩
      have HW9 : Hid (W9 = w8.setCell ⟨gB, 1, none⟩ (.slice a9 (k + 1) c9)) := hW9
      rw [← hW9] at HP9
      clear hown9 hown8 hg8 hg9 hoA hb8 hW9 HOX HBX HX1 HP3 q2 hgBX hgCX
      go_upto_region 9 with (fail)
      rw [← HW9.out]
      clear HW9 q3 z3 hgB8 hle3
      go_wp2
      go_loopw [39] (fun v39 wr => ∃ (t : Nat) (vals : Nat → Value), t ≤ R.length ∧ v39 = .int .i64 (t : Nat) ∧ Hid (PlAt w m R (.slice aq n cq) gB gR gC gP B0 k (os ++ [nx]) (.slice a9 (k + 1) c9) vals ((R.take t).filter fun r => hasR nx r && inR (os ++ [nx]) r) wr)) (fun v39 _ => R.length - (intOf v39).toNat)
      case atStart => exact ⟨0, vals, Nat.zero_le _, rfl, HP9.out⟩
      case round =>
        clear HP9
        rename World => W4
        obtain ⟨t, vals, htn, rfl, hp⟩ := hrel
        by_cases htl : t < R.length
        · obtain ⟨br, fr, ea, hbr, f0, f1, f2⟩ : ∃ br fr, ar = some ⟨br, fr, none⟩ ∧ br < w.heap.size ∧ w.cell? ⟨br, fr + t * 3, none⟩ = some (.int .i64 ((R.getD t (0, 0, 0)).1 : Nat)) ∧ w.cell? ⟨br, fr + t * 3 + 1, none⟩ = some (.int .i64 ((R.getD t (0, 0, 0)).2.1 : Nat)) ∧ w.cell? ⟨br, fr + t * 3 + 2, none⟩ = some (.int .i64 ((R.getD t (0, 0, 0)).2.2 : Nat)) := by
            obtain ⟨a', c', e', f⟩ := HRD.out
            injection e' with e1 e2 e3
            obtain ⟨br, fr, er, hbr, hc⟩ := f (by omega)
            obtain ⟨g0, g1, g2⟩ := ruCells_get R t htl
            exact ⟨br, fr, e1.trans er, hbr, (hc _ (by omega)).trans g0, by rw [Nat.add_assoc]; exact (hc _ (by omega)).trans g1, by rw [Nat.add_assoc]; exact (hc _ (by omega)).trans g2⟩
          obtain ⟨hx, hy, hz⟩ := HIN.out _ (getD_memL R t (0, 0, 0) htl)
          have HTK : Hid (R.take (t + 1) = R.take t ++ [R.getD t (0, 0, 0)]) := (by
            rw [List.take_succ_eq_append_getElem htl, List.getD_eq_getElem?_getD, List.getElem?_eq_getElem htl]; rfl : R.take (t + 1) = R.take t ++ [R.getD t (0, 0, 0)])
          obtain ⟨x, y, z, exyz⟩ : ∃ x y z, R.getD t (0, 0, 0) = (x, y, z) := ⟨_, _, _, rfl⟩
          rw [exyz] at f0 f1 f2 hx hy hz HTK
          clear exyz
          have hs4 := hp.out.bel.size
          have d0 := bcell hp.out.bel hbr f0
          have d1 := bcell hp.out.bel hbr f1
          have d2 := bcell hp.out.bel hbr f2
          have hbrW : br < W4.heap.size := by omega
          clear f0 f1 f2
          obtain ⟨X0, hX0⟩ : ∃ X, X = W4.alloc (.cells #[.int .i64 (x : Nat), .int .i64 (y : Nat), .int .i64 (z : Nat)] 231) := ⟨_, rfl⟩
          have HX0 : Hid (X0 = W4.alloc (.cells #[.int .i64 (x : Nat), .int .i64 (y : Nat), .int .i64 (z : Nat)] 231)) := hX0
          have hbk : X0.heap[W4.heap.size]? = some (.cells #[.int .i64 (x : Nat), .int .i64 (y : Nat), .int .i64 (z : Nat)] 231 (0, 0)) := by rw [hX0]; exact alloc_at rfl
          have HPX : Hid (PlAt w m R (.slice aq n cq) gB gR gC gP B0 k (os ++ [nx]) (.slice a9 (k + 1) c9) vals ((R.take t).filter fun r => hasR nx r && inR (os ++ [nx]) r) X0) := (by rw [hX0]; exact hp.out.keep (World.grownBy_alloc _ _ none) : PlAt w m R (.slice aq n cq) gB gR gC gP B0 k (os ++ [nx]) (.slice a9 (k + 1) c9) vals ((R.take t).filter fun r => hasR nx r && inR (os ++ [nx]) r) X0)
          have hWX : W4.heap.size < X0.heap.size := by rw [hX0]; simp
          clear hX0 hp
          go_upto_region 12 with (fail)
          rw [← HX0.out]
          clear HX0 d0 d1 d2 hbrW hs4 ea
          have k0 : X0.cell? ⟨W4.heap.size, 0, none⟩ = some (.int .i64 (x : Nat)) := block_cell hbk rfl
          have k1 : X0.cell? ⟨W4.heap.size, 1, none⟩ = some (.int .i64 (y : Nat)) := block_cell hbk rfl
          have k2 : X0.cell? ⟨W4.heap.size, 2, none⟩ = some (.int .i64 (z : Nat)) := block_cell hbk rfl
          have HBK : Hid (X0.heap[W4.heap.size]? = some (.cells #[.int .i64 (x : Nat), .int .i64 (y : Nat), .int .i64 (z : Nat)] 231 (0, 0))) := hbk
          obtain ⟨X1, hX1⟩ : ∃ X, X = X0.alloc (.cells #[.int .i64 (x : Nat), .int .i64 (y : Nat), .int .i64 (z : Nat)] 3) := ⟨_, rfl⟩
          have HX1 : Hid (X1 = X0.alloc (.cells #[.int .i64 (x : Nat), .int .i64 (y : Nat), .int .i64 (z : Nat)] 3)) := hX1
          have hbn : X1.heap[X0.heap.size]? = some (.cells #[.int .i64 (x : Nat), .int .i64 (y : Nat), .int .i64 (z : Nat)] 3 (0, 0)) := by rw [hX1]; exact alloc_at rfl
          have HG1 : Hid (X0.grownBy X1 none) := (by rw [hX1]; exact World.grownBy_alloc _ _ none : X0.grownBy X1 none)
          have HCT : Hid (Calls Try.prog 179 #[.slice (some ⟨X0.heap.size, 0, none⟩) 3 3, .int .i64 (nx : Nat)] X1 fun e w' => e = .returned (.bool (hasR nx (x, y, z))) ∧ Below X1.heap.size X1 w') := containsThree_any X0.heap.size x y z nx X1 (blk_lt hbn) (block_cell hbn rfl) (block_cell hbn rfl) (block_cell hbn rfl)
          clear hbk hX1 hbn
          obtain ⟨bh, hbh⟩ : ∃ b, hasR nx (x, y, z) = b := ⟨_, rfl⟩
          have HBH : Hid (hasR nx (x, y, z) = bh) := hbh
          rw [hbh] at HCT
          clear hbh
          go_wp2_with (go_at_call 179; rw [← HX1.out]; refine HCT.out.mono ?_; rintro e9 w5 ⟨rfl, hb5⟩; refine Hid.out ?_)
          refine Lib.hid ?_
          have HG5 : Hid (X0.grownBy w5 none) := grown_trans HG1.out (grown_below hb5 none)
          have HP5 : Hid (PlAt w m R (.slice aq n cq) gB gR gC gP B0 k (os ++ [nx]) (.slice a9 (k + 1) c9) vals ((R.take t).filter fun r => hasR nx r && inR (os ++ [nx]) r) w5) := HPX.out.keep HG5.out
          have hW5 : W4.heap.size < w5.heap.size := Nat.lt_of_lt_of_le hWX HG5.out.size
          have HB5 : Hid (w5.heap[W4.heap.size]? = some (.cells #[.int .i64 (x : Nat), .int .i64 (y : Nat), .int .i64 (z : Nat)] 231 (0, 0))) := (HG5.out.block _ hWX (by simp)).trans HBK.out
          have m0 : w5.cell? ⟨W4.heap.size, 0, none⟩ = some (.int .i64 (x : Nat)) := block_cell HB5.out rfl
          have m1 : w5.cell? ⟨W4.heap.size, 1, none⟩ = some (.int .i64 (y : Nat)) := block_cell HB5.out rfl
          have m2 : w5.cell? ⟨W4.heap.size, 2, none⟩ = some (.int .i64 (z : Nat)) := block_cell HB5.out rfl
          have hPc : ∀ i, i < m → w5.cell? ⟨gP, i, none⟩ = some (.bool (decide (i ∈ os ++ [nx]))) := fun i hi => by
            rw [HP5.out.plc.cellAt i (by omega)]
            simp [bools, hi]
          have p0 := hPc x hx
          have p1 := hPc y hy
          have p2 := hPc z hz
          obtain ⟨b0, hb0⟩ : ∃ b, decide (x ∈ os ++ [nx]) = b := ⟨_, rfl⟩
          obtain ⟨b1, hb1⟩ : ∃ b, decide (y ∈ os ++ [nx]) = b := ⟨_, rfl⟩
          obtain ⟨b2, hb2⟩ : ∃ b, decide (z ∈ os ++ [nx]) = b := ⟨_, rfl⟩
          have HIR : Hid (inR (os ++ [nx]) (x, y, z) = (b0 && b1 && b2)) := (by unfold inR; rw [← hb0, ← hb1, ← hb2] : inR (os ++ [nx]) (x, y, z) = (b0 && b1 && b2))
          rw [hb0] at p0
          rw [hb1] at p1
          rw [hb2] at p2
          have HTL : Hid ((R.take (t + 1)).filter (fun r => hasR nx r && inR (os ++ [nx]) r) = (R.take t).filter (fun r => hasR nx r && inR (os ++ [nx]) r) ++ if (bh && (b0 && b1 && b2)) = true then [(x, y, z)] else []) := (by
            rw [HTK.out, List.filter_append]
            congr 1
            rw [List.filter_cons, HBH.out, HIR.out]
            rfl : (R.take (t + 1)).filter (fun r => hasR nx r && inR (os ++ [nx]) r) = (R.take t).filter (fun r => hasR nx r && inR (os ++ [nx]) r) ++ if (bh && (b0 && b1 && b2)) = true then [(x, y, z)] else [])
          clear hb0 hb1 hb2 hPc hb5 HX1 HCT HG1 HPX k0 k1 k2 HBK HIR HBH HTK
          by_cases hall : (bh && (b0 && b1 && b2)) = true
          · obtain ⟨rfl, rfl, rfl, rfl⟩ : bh = true ∧ b0 = true ∧ b1 = true ∧ b2 = true := by
              revert hall
              cases bh <;> cases b0 <;> cases b1 <;> cases b2 <;> simp
            clear hall
            have hkk : k < m := hkl
            obtain ⟨F, hF⟩ : ∃ F, (R.take t).filter (fun r => hasR nx r && inR (os ++ [nx]) r) = F := ⟨_, rfl⟩
            have HTF : Hid ((R.take (t + 1)).filter (fun r => hasR nx r && inR (os ++ [nx]) r) = F ++ [(x, y, z)]) := (by rw [HTL.out, hF]; rfl : (R.take (t + 1)).filter (fun r => hasR nx r && inR (os ++ [nx]) r) = F ++ [(x, y, z)])
            have hFl : F.length ≤ 16 := by
              rw [← hF]
              have := List.length_filter_le (fun r => hasR nx r && inR (os ++ [nx]) r) (R.take t)
              rw [List.length_take] at this
              omega
            rw [hF] at HP5
            clear hF HTL
            have HPD : Hid (PlAt w m R (.slice aq n cq) gB gR gC gP B0 k (os ++ [nx]) (.slice a9 (k + 1) c9) vals F w5.drew) := HP5.out.keep (grown_below (below_drewN (Below.refl _ _) 1) none)
            obtain ⟨ak, ck, ek⟩ := own_capS HP5.out.curr
            have n0 : w5.cell? ⟨gB, 2, none⟩ = some (.slice (some ⟨gR, 0, none⟩) m m) := block_cell HP5.out.box rfl
            have n1 : w5.cell? ⟨gR, k, none⟩ = some (.slice ak F.length ck) := by
              rw [HP5.out.rdy.cellAt k (by omega), mapV_get _ _ _ hkk, ek]
            have hcw := HPD.out.curr
            rw [ek] at hcw
            have HCW : Hid (w5.drew.ownsRow B0 231 3 (.slice ak F.length ck) F.length (ruCells F)) := hcw
            have HEK : Hid (vals k = .slice ak F.length ck) := ek
            have hB5 := HP5.out.hB.2
            have hgBl := blk_lt HP5.out.box
            have hgRl := (HP5.out.rdy.lt gR rfl).2
            have HBD : Hid (B0 ≤ w5.drew.heap.size) := hB5
            have HPA : Hid (PlAt w m R (.slice aq n cq) gB gR gC gP B0 k (os ++ [nx]) (.slice a9 (k + 1) c9) vals F (w5.drew.alloc (.cells #[.int .i64 (x : Nat), .int .i64 (y : Nat), .int .i64 (z : Nat)] 231))) := HPD.out.keep (World.grownBy_alloc _ _ none)
            have HRW : Hid (∀ w8, (w5.drew.alloc (.cells #[.int .i64 (x : Nat), .int .i64 (y : Nat), .int .i64 (z : Nat)] 231)).grownBy w8 (Value.slice ak F.length ck).ownBlock → w8.cell? ⟨gR, k, none⟩ = some (.slice ak F.length ck) ∧ w8.frozen? ⟨gR, k, none⟩ = false ∧ gR < w8.heap.size ∧ w8.cell? ⟨gB, 2, none⟩ = some (.slice (some ⟨gR, 0, none⟩) m m)) := fun w8 hg => by
              rw [← HEK.out] at hg
              have h := HPA.out.rdy.kept hg (own_ne HPA.out.rdy HPA.out.curr (by decide))
              exact ⟨by rw [h.cellAt k (by omega), mapV_get _ _ _ hkk, HEK.out], h.frozenAt k, (h.lt gR rfl).2, block_cell ((hg.block gB (blk_lt HPA.out.box) (fun e => by
                rcases own_nb HPA.out.curr HPA.out.box (by decide) with q | q
                · rw [q] at e; cases e
                · exact q e.symm)).trans HPA.out.box) rfl⟩
            clear hcw ek HP5
            go_upto_region 13 with (fail)
            clear p0 p1 p2
            obtain ⟨i3, hr, hr0, hr1, hr2⟩ := info_parts infoRule
            go_region_law (first
              | (refine stepAppend rfl (.tmp 80) (.tmp 82) 168 rfl B0 231 i3 (.agg #[.int .i64 0, .int .i64 0, .int .i64 0]) 3 24 Try.underlying168 hr hr0 hr1 hr2 rfl (by decide) _ F.length _ (by simp [Act.eval]) (HCW.out.alloc _) ⟨w5.drew.heap.size, 0, none⟩ 1 1 [.int .i64 (x : Nat), .int .i64 (y : Nat), .int .i64 (z : Nat)] (by simp [Act.eval]) rfl (new_cell3' rfl _ _ _ _) (three_one _ _ _) (by unfold maxLen; omega) (by omega) (by have := HBD.out; simp; omega) ?_; intro v8 w8 hown8 hg8; obtain ⟨a8, c8, ev8⟩ := own_capS hown8; subst ev8; obtain ⟨r0, r1, r2, r3⟩ := HRW.out w8 hg8))
            all_goals
              have HNX : Hid (PlAt w m R (.slice aq n cq) gB gR gC gP B0 k (os ++ [nx]) (.slice a9 (k + 1) c9) (fun j => if j = k then .slice a8 (F.length + 1) c8 else vals j) ((R.take (t + 1)).filter fun r => hasR nx r && inR (os ++ [nx]) r) (w8.setCell ⟨gR, k, none⟩ (.slice a8 (F.length + 1) c8))) := (by
                rw [HTF.out]
                refine HPA.out.more ?_ (by rw [HEK.out]; exact hg8)
                rw [ruCells_app]
                exact hown8 : PlAt w m R (.slice aq n cq) gB gR gC gP B0 k (os ++ [nx]) (.slice a9 (k + 1) c9) (fun j => if j = k then .slice a8 (F.length + 1) c8 else vals j) ((R.take (t + 1)).filter fun r => hasR nx r && inR (os ++ [nx]) r) (w8.setCell ⟨gR, k, none⟩ (.slice a8 (F.length + 1) c8)))
              clear r0 r1 r2 r3 hown8 hg8 HPA HPD HRW HCW
              go_wp2
              go_roundw
            all_goals first
              | (simp only [intOf]; omega)
              | exact ⟨t + 1, _, by omega, by go_num, HNX.out⟩
          · have HNX : Hid (PlAt w m R (.slice aq n cq) gB gR gC gP B0 k (os ++ [nx]) (.slice a9 (k + 1) c9) vals ((R.take (t + 1)).filter fun r => hasR nx r && inR (os ++ [nx]) r) w5) := (by rw [HTL.out, if_neg hall, List.append_nil]; exact HP5.out : PlAt w m R (.slice aq n cq) gB gR gC gP B0 k (os ++ [nx]) (.slice a9 (k + 1) c9) vals ((R.take (t + 1)).filter fun r => hasR nx r && inR (os ++ [nx]) r) w5)
            have hcs : bh = false ∨ bh = true ∧ b0 = false ∨ bh = true ∧ b0 = true ∧ b1 = false ∨ bh = true ∧ b0 = true ∧ b1 = true ∧ b2 = false := by
              revert hall
              cases bh <;> cases b0 <;> cases b1 <;> cases b2 <;> simp
            clear hall
            rcases hcs with rfl | ⟨rfl, rfl⟩ | ⟨rfl, rfl, rfl⟩ | ⟨rfl, rfl, rfl, rfl⟩
            all_goals
              go_wp2
              go_roundw
              case rel => exact ⟨t + 1, vals, by omega, by go_num, HNX.out⟩
              case measure => simp only [intOf]; omega
        · obtain rfl : t = R.length := by omega
          have HDN : Hid (PlAt w m R (.slice aq n cq) gB gR gC gP W4.heap.size (k + 1) (os ++ [nx]) (.slice a9 (k + 1) c9) vals [] W4) := hp.out.done (by
            rw [List.take_length]
            unfold rdL readyR
            have e1 : (os ++ [nx]).take (k + 1) = os ++ [nx] := List.take_of_length_le (by rw [List.length_append, hlen.out]; exact Nat.le_refl _)
            have e2 : (os ++ [nx]).getD k 0 = nx := by
              rw [List.getD_eq_getElem?_getD, List.getElem?_append_right (by rw [hlen.out]; exact Nat.le_refl _), hlen.out, Nat.sub_self]
              rfl
            rw [e1, e2])
          have HLN : Hid ((os ++ [nx]).length = k + 1) := (by rw [List.length_append, hlen.out]; rfl : (os ++ [nx]).length = k + 1)
          go_wp2
          go_roundw
          case rel => exact ⟨k + 1, _, os ++ [nx], _, vals, by omega, by go_num, HLN.out, HDN.out⟩
          case measure => simp only [intOf]; omega
    · obtain rfl : k = m := by omega
      obtain ⟨ao, co, eo⟩ := own_capS hp.out.ord
      rw [hlen.out] at eo
      have HVO : Hid (vo = .slice ao k co) := eo
      have hbx := hp.out.box
      rw [eo] at hbx
      have q0 : W1.cell? ⟨gB, 0, none⟩ = some (.slice aq n cq) := block_cell hbx rfl
      have q1 : W1.cell? ⟨gB, 1, none⟩ = some (.slice ao k co) := block_cell hbx rfl
      have q2 : W1.cell? ⟨gB, 2, none⟩ = some (.slice (some ⟨gR, 0, none⟩) k k) := block_cell hbx rfl
      have q3 : W1.cell? ⟨gB, 3, none⟩ = some (.slice (some ⟨gC, 0, none⟩) k k) := block_cell hbx rfl
      have z0 : W1.cell? ⟨w.heap.size, 0, none⟩ = some (.slice none 0 0) := block_cell hp.out.res rfl
      have z1 : W1.cell? ⟨w.heap.size, 1, none⟩ = some (.slice none 0 0) := block_cell hp.out.res rfl
      have z2 : W1.cell? ⟨w.heap.size, 2, none⟩ = some (.slice none 0 0) := block_cell hp.out.res rfl
      have z3 : W1.cell? ⟨w.heap.size, 3, none⟩ = some (.slice none 0 0) := block_cell hp.out.res rfl
      have y0 : ∀ i, W1.frozen? ⟨w.heap.size, i, none⟩ = false := fun i => block_frozen hp.out.res
      have y1 := y0 0
      have y2 := y0 1
      have y3 := y0 2
      have y4 := y0 3
      have hlw := blk_lt hp.out.res
      clear hbx eo y0
      have hb4 := st4_block (a := .slice aq n cq) (b := .slice ao k co) (c := .slice (some ⟨gR, 0, none⟩) k k) (d := .slice (some ⟨gC, 0, none⟩) k k) hp.out.res
      obtain ⟨WF, hWF⟩ : ∃ W, W = st4 W1 w.heap.size (.slice aq n cq) (.slice ao k co) (.slice (some ⟨gR, 0, none⟩) k k) (.slice (some ⟨gC, 0, none⟩) k k) := ⟨_, rfl⟩
      have HWF : Hid (WF = (((W1.setCell ⟨w.heap.size, 0, none⟩ (.slice aq n cq)).setCell ⟨w.heap.size, 1, none⟩ (.slice ao k co)).setCell ⟨w.heap.size, 2, none⟩ (.slice (some ⟨gR, 0, none⟩) k k)).setCell ⟨w.heap.size, 3, none⟩ (.slice (some ⟨gC, 0, none⟩) k k)) := hWF
      rw [← hWF] at hb4
      have x0 : WF.cell? ⟨w.heap.size, 0, none⟩ = some (.slice aq n cq) := block_cell hb4 rfl
      have x1 : WF.cell? ⟨w.heap.size, 1, none⟩ = some (.slice ao k co) := block_cell hb4 rfl
      have x2 : WF.cell? ⟨w.heap.size, 2, none⟩ = some (.slice (some ⟨gR, 0, none⟩) k k) := block_cell hb4 rfl
      have x3 : WF.cell? ⟨w.heap.size, 3, none⟩ = some (.slice (some ⟨gC, 0, none⟩) k k) := block_cell hb4 rfl
      have HFN : Hid (Paint w k R gR gC os vo vals WF) := (by rw [hWF]; exact hp.out.paint hlen.out (st4_grown _ _ _ _ _ _) : Paint w k R gR gC os vo vals WF)
      clear hWF hb4
      go_wp2
      rw [← HWF.out]
      exact bodyPost_ret (v := .agg #[.slice aq n cq, .slice ao k co, .slice (some ⟨gR, 0, none⟩) k k, .slice (some ⟨gC, 0, none⟩) k k]) (by simp [results, Try.results129, go_sem, x0, x1, x2, x3]) rfl ⟨gR, gC, os, vo, vals, by rw [HVO.out], HFN.out⟩
end Go.Proofs.Ytnhllpaoplfgpaa

/- The walk of the law knotworkkeep.PolyRing itself: its calls, over a row of values that hold polynomials. -/
import Derived.Test.YthbhllomikfbhaaDoorXG2
namespace Go.Proofs.YthbhllomikfbhaaDoor.Poly
open Go.RowKit Go.Maps

/-- A slice of raw numbers, or none. -/
def Raw (w : World) (v : Value) : Prop := (∃ a cap, v = .slice a 0 cap) ∨ ∃ b off n cap X, v = .slice (some ⟨b, off, none⟩) n cap ∧ n ≤ maxLen ∧ b < w.heap.size ∧ Ints w b off n X

theorem Raw.up {w w' : World} {v : Value} (h : Raw w v) (hb : Below w.heap.size w w') : Raw w' v := by
  rcases h with h | ⟨b, off, n, cap, X, rfl, hn, hlt, hX⟩
  · exact Or.inl h
  · exact Or.inr ⟨b, off, n, cap, X, rfl, hn, Nat.lt_of_lt_of_le hlt hb.size, fun i hi => ⟨bcell hb hlt (hX i hi).1, (hX i hi).2⟩⟩

theorem small_raw (v : Value) (w : World) (h : Raw w v) :
    Calls Tryd.prog 15 #[v] w fun e w' => ∃ v l, e = .returned v ∧ Poly w' w'.heap.size v l ∧ Fine l 4 9 ∧ Below w.heap.size w w' := by
  rcases h with ⟨a, cap, rfl⟩ | ⟨b, off, n, cap, X, rfl, hn, hlt, hX⟩
  · exact small_none a cap w
  · exact small_some b off cap n X w hn hlt hX

/-- Values that hold polynomials that may be handed in; nothing of the call's world has changed. -/
def Ctx (w0 w : World) (G : List (Value × List (Int × Int))) : Prop := Below w0.heap.size w0 w ∧ ∀ p ∈ G, Poly w w.heap.size p.1 p.2 ∧ mayB p.2 = true

theorem Ctx.up {w0 w w' : World} {G : List (Value × List (Int × Int))} (h : Ctx w0 w G) (hb : Below w.heap.size w w') : Ctx w0 w' G :=
  ⟨h.1.trans (hb.mono h.1.size), fun p hp => ⟨(h.2 p hp).1.up hb, (h.2 p hp).2⟩⟩
theorem Ctx.add {w0 w : World} {G : List (Value × List (Int × Int))} (h : Ctx w0 w G) {v : Value} {l : List (Int × Int)} (hP : Poly w w.heap.size v l) (hm : mayB l = true) : Ctx w0 w ((v, l) :: G) :=
  ⟨h.1, fun p hp => by
    rcases List.mem_cons.1 hp with rfl | hp
    · exact ⟨hP, hm⟩
    · exact h.2 p hp⟩

theorem Ctx.tail {w0 w : World} {x : Value × List (Int × Int)} {G : List (Value × List (Int × Int))} (h : Ctx w0 w (x :: G)) : Ctx w0 w G := ⟨h.1, fun p hp => h.2 p (List.mem_cons_of_mem _ hp)⟩
theorem ctx_one {w0 w : World} {G : List (Value × List (Int × Int))} (h : Ctx w0 w G) : Ctx w0 (w.alloc (.cells #[.int .i64 0, .int .i64 1] 36)) ((.slice (some ⟨w.heap.size, 0, none⟩) 1 1, [(0, 1)]) :: G) := by
  have hb : Below w.heap.size w (w.alloc (.cells #[.int .i64 0, .int .i64 1] 36)) := (Below.refl _ _).alloc (Nat.le_refl _) _
  refine (h.up hb).add (Or.inr (Or.inr ⟨w.heap.size, 0, 1, rfl, by simp, fun i hi => ?_⟩)) (by decide)
  have hh : (w.alloc (.cells #[.int .i64 0, .int .i64 1] 36)).heap[w.heap.size]? = some (.cells #[.int .i64 0, .int .i64 1] 36 (0, 0)) := Array.getElem?_push_size
  obtain rfl : i = 0 := by simp at hi; exact hi
  constructor
  · unfold World.cell?; rw [hh]; rfl
  · unfold World.cell?; rw [hh]; rfl

theorem plus_ctx {w0 w : World} {G : List (Value × List (Int × Int))} (h : Ctx w0 w G) {v1 v2 : Value} {l1 l2 : List (Int × Int)} (h1 : (v1, l1) ∈ G) (h2 : (v2, l2) ∈ G) (hm : mayB (addL l1 l2) = true) :
    Calls Tryd.prog 17 #[v1, v2] w fun e w' => ∃ v, e = .returned v ∧ Ctx w0 w' ((v, addL l1 l2) :: G) :=
  (plus_poly v1 v2 l1 l2 w (h.2 _ h1).2 (h.2 _ h2).2 (h.2 _ h1).1 (h.2 _ h2).1).mono fun _ _ ⟨v, e, hP, hb⟩ => ⟨v, e, (h.up hb).add hP hm⟩
theorem times_ctx {w0 w : World} {G : List (Value × List (Int × Int))} (h : Ctx w0 w G) {v1 v2 : Value} {l1 l2 : List (Int × Int)} (h1 : (v1, l1) ∈ G) (h2 : (v2, l2) ∈ G) (hm : mayB (mulL l1 l2) = true) :
    Calls Tryd.prog 18 #[v1, v2] w fun e w' => ∃ v, e = .returned v ∧ Ctx w0 w' ((v, mulL l1 l2) :: G) :=
  (times_poly v1 v2 l1 l2 w (h.2 _ h1).2 (h.2 _ h2).2 (h.2 _ h1).1 (h.2 _ h2).1).mono fun _ _ ⟨v, e, hP, hb⟩ => ⟨v, e, (h.up hb).add hP hm⟩
theorem same_ctx {w0 w : World} {G : List (Value × List (Int × Int))} (h : Ctx w0 w G) {v1 v2 : Value} {l1 l2 : List (Int × Int)} (h1 : (v1, l1) ∈ G) (h2 : (v2, l2) ∈ G) (he : l1 = l2) :
    Calls Tryd.prog 16 #[v1, v2] w fun e w' => e = .returned (.bool true) ∧ Ctx w0 w' G := by
  subst he
  exact (same_one v1 v2 l1 w ((may_iff l1).1 (h.2 _ h1).2).1 (h.2 _ h1).1 (h.2 _ h2).1).mono fun _ _ ⟨e, hb⟩ => ⟨e, h.up hb⟩
theorem at_ctx {w0 w : World} {G : List (Value × List (Int × Int))} (h : Ctx w0 w G) {v : Value} {l : List (Int × Int)} {t z : Int} (h1 : (v, l) ∈ G) (ht : t = 1 ∨ t = -1) (hz : val t l = z) :
    Calls Tryd.prog 19 #[v, .int .i64 t] w fun e w' => e = .returned (.tuple #[.int .i64 z, .int .i64 0]) ∧ Ctx w0 w' G := by
  subst hz
  exact (at_yes v l t w ht (h.2 _ h1).2 (h.2 _ h1).1).mono fun _ _ ⟨e, hb⟩ => ⟨by rw [e, at_val], h.up hb⟩
theorem flip_ctx {w0 w : World} {G : List (Value × List (Int × Int))} (h : Ctx w0 w G) {v : Value} {l : List (Int × Int)} (h1 : (v, l) ∈ G) (hm : mayB (flipL l) = true) :
    Calls Tryd.prog 20 #[v] w fun e w' => ∃ v', e = .returned (.tuple #[v', .int .i64 0]) ∧ Ctx w0 w' ((v', flipL l) :: G) :=
  (flip_yes v l w (by have := ((may_iff l).1 (h.2 _ h1).2).1; unfold maxLen; omega) (h.2 _ h1).2 (h.2 _ h1).1).mono fun _ _ ⟨v', e, hP, hb⟩ => ⟨v', e, (h.up hb).add hP hm⟩

/-- What the law's polynomials make may be handed in again. -/
structure May (a b c : List (Int × Int)) : Prop where
  ab : mayB (addL a b) = true
  ba : mayB (addL b a) = true
  bc : mayB (addL b c) = true
  abc : mayB (addL (addL a b) c) = true
  abc' : mayB (addL a (addL b c)) = true
  mab : mayB (mulL a b) = true
  mba : mayB (mulL b a) = true
  mbc : mayB (mulL b c) = true
  mac : mayB (mulL a c) = true
  mabc : mayB (mulL (mulL a b) c) = true
  mabc' : mayB (mulL a (mulL b c)) = true
  d : mayB (mulL a (addL b c)) = true
  d' : mayB (addL (mulL a b) (mulL a c)) = true
  u : mayB (mulL a [(0, 1)]) = true
  fl : mayB (flipL a) = true
  unit : mulL a [(0, 1)] = a

theorem fine_one : Fine [(0, 1)] 0 1 := ⟨canon_self (by simp) (by simp), by simp⟩

theorem may_all {a b c : List (Int × Int)} (ha : Fine a 4 9) (hb : Fine b 4 9) (hc : Fine c 4 9) : May a b c := by
  have ab := fine_add ha hb (by decide) (by decide)
  have bc := fine_add hb hc (by decide) (by decide)
  have mab := fine_mul 729 ha hb (by decide) (by decide) (by decide) (by decide)
  have mba := fine_mul 729 hb ha (by decide) (by decide) (by decide) (by decide)
  have mbc := fine_mul 729 hb hc (by decide) (by decide) (by decide) (by decide)
  have mac := fine_mul 729 ha hc (by decide) (by decide) (by decide) (by decide)
  refine ⟨fine_may ab ?_ ?_ ?_, fine_may (fine_add hb ha ?_ ?_) ?_ ?_ ?_, fine_may bc ?_ ?_ ?_, fine_may (fine_add ab hc ?_ ?_) ?_ ?_ ?_, fine_may (fine_add ha bc ?_ ?_) ?_ ?_ ?_, fine_may mab ?_ ?_ ?_, fine_may mba ?_ ?_ ?_, fine_may mbc ?_ ?_ ?_, fine_may mac ?_ ?_ ?_,
    fine_may (fine_mul 200000 mab hc ?_ ?_ ?_ ?_) ?_ ?_ ?_, fine_may (fine_mul 200000 ha mbc ?_ ?_ ?_ ?_) ?_ ?_ ?_, fine_may (fine_mul 2000 ha bc ?_ ?_ ?_ ?_) ?_ ?_ ?_, fine_may (fine_add mab mac ?_ ?_) ?_ ?_ ?_, fine_may (fine_mul 81 ha fine_one ?_ ?_ ?_ ?_) ?_ ?_ ?_, fine_may (flip_fine ha) ?_ ?_ ?_, mulL_unit ha.1⟩ <;> decide
end Go.Proofs.YthbhllomikfbhaaDoor.Poly

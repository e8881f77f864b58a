/- Where canon.toldFrom stands: a telling in a box, its two lists, and a map of numbers. -/
import Derived.Test.YtbikalghmlihlaaC2P
import Derived.Test.YtbikalghmlihlaaM1
import Derived.Test.YtbikalghmlihlaaF2
import Derived.Deep.RegionHeldLaw
namespace Go.Proofs.Ytbikalghmlihlaa
open Go.RowKit Go.Maps

theorem boxNe {w : World} {B e s n g : Nat} {v : Value} {xs : List Value} {cs : Array Value} {t : TypeId} {fz : Nat × Nat} (h : w.ownsRow B e s v n xs) (hb : w.heap[g]? = some (.cells cs t fz)) (he : e ≠ t) : v.ownBlock ≠ some g := by
  rcases h.2 with ⟨rfl, _⟩ | ⟨g', cap, cur, rfl, _, hg, _⟩
  · intro h0; cases h0
  · intro h0
    have e1 : g' = g := Option.some.inj h0
    subst e1
    rw [hg] at hb
    injection hb with h1
    injection h1 with h2 h3
    exact he h3
theorem mapNe {w : World} {B e s n g m : Nat} {v : Value} {xs : List Value} {D : DataW Unit} (h : w.ownsRow B e s v n xs) (hb : OwnM w g m D) : v.ownBlock ≠ some g := by
  obtain ⟨es, clock, hh, -⟩ := hb
  rcases h.2 with ⟨rfl, _⟩ | ⟨g', cap, cur, rfl, _, hg, _⟩
  · intro h0; cases h0
  · intro h0
    have e1 : g' = g := Option.some.inj h0
    subst e1
    rw [hg] at hh
    cases hh
theorem boxMapNe {w : World} {g g' m : Nat} {cs : Array Value} {t : TypeId} {fz : Nat × Nat} {D : DataW Unit} (hb : w.heap[g]? = some (.cells cs t fz)) (h : OwnM w g' m D) : g ≠ g' := by
  obtain ⟨es, clock, hh, -⟩ := h
  intro e
  subst e
  rw [hb] at hh
  cases hh
/-- The map has just the numbered crossings, each with its number. -/
def NumsD (D : DataW Unit) (p : List Nat) : Prop := ∀ x : Nat, Maps.has D (.int .i64 (x : Nat)) = decide (x ∈ p) ∧ (x ∈ p → coefOf D (x : Nat) = (p.idxOf x : Int))
theorem NumsD.put {D : DataW Unit} {p : List Nat} (h : NumsD D p) (hD : IsMap D) {x : Nat} (hx : x ∉ p) : NumsD (D.put (.int .i64 (x : Nat)) (.lit (.int .i64 (p.length : Nat)))) (p ++ [x]) := by
  intro y
  by_cases e : y = x
  · subst e
    refine ⟨?_, fun _ => ?_⟩
    · rw [has_put_same hD (show WideAt.IsKeyLit (.int .i64 (y : Nat)) from trivial)]
      simp
    · rw [coefOf_put hD, if_pos rfl, List.idxOf_append, if_neg hx]
      simp
  · have hne : (Lit.int .i64 (y : Nat)) ≠ .int .i64 (x : Nat) := by intro h0; injection h0 with _ h1; omega
    refine ⟨?_, fun hy => ?_⟩
    · rw [has_put_other hne, (h y).1]
      simp [e]
    · have hy2 : y ∈ p := by simpa [e] using hy
      rw [coefOf_put hD, if_neg (by omega), (h y).2 hy2, List.idxOf_append, if_pos hy2]
def MapN (W : World) (gM : Nat) (q : List Nat) : Prop := ∃ m D, OwnM W gM m D ∧ m ≤ q.length ∧ NumsD D q
theorem MapN.kept {W W' : World} {gM : Nat} {q : List Nat} {row : Option Nat} (h : MapN W gM q) (hg : W.grownBy W' row) (hne : row ≠ some gM) : MapN W' gM q := by
  obtain ⟨m, D, ⟨es, clock, hh, rest⟩, hm, hN⟩ := h
  have hlt : gM < W.heap.size := (Array.getElem?_eq_some_iff.1 hh).1
  exact ⟨m, D, ⟨es, clock, (hg.block gM hlt (fun e => hne e.symm)).trans hh, rest⟩, hm, hN⟩
structure ToAt (B gT gM : Nat) (q : List Nat) (p : List Nat × List Int) (vo vc : Value) (W : World) : Prop where
  box : W.heap[gT]? = some (.cells #[vo, vc] 193 (0, 0))
  map : MapN W gM q
  ord : W.ownsRow B 3 1 vo p.1.length (nats p.1)
  cod : W.ownsRow B 3 1 vc p.2.length (intsV p.2)
  oc : vo.ownBlock = none ∨ vo.ownBlock ≠ vc.ownBlock
theorem ToAt.mapNe {B gT gM : Nat} {q : List Nat} {p : List Nat × List Int} {vo vc : Value} {W : World} (h : ToAt B gT gM q p vo vc W) : vo.ownBlock ≠ some gM ∧ vc.ownBlock ≠ some gM ∧ gT ≠ gM := by
  obtain ⟨m, D, hM, -, -⟩ := h.map
  exact ⟨Go.Proofs.Ytbikalghmlihlaa.mapNe h.ord hM, Go.Proofs.Ytbikalghmlihlaa.mapNe h.cod hM, boxMapNe h.box hM⟩
theorem ToAt.any {B gT gM : Nat} {q : List Nat} {p : List Nat × List Int} {vo vc : Value} {W W' : World} (h : ToAt B gT gM q p vo vc W) (hg : W.grownBy W' none) : ToAt B gT gM q p vo vc W' :=
  ⟨(hg.block gT (Array.getElem?_eq_some_iff.1 h.box).1 (by simp)).trans h.box, h.map.kept hg (by simp), own_any h.ord hg, own_any h.cod hg, h.oc⟩
theorem ToAt.drew {B gT gM : Nat} {q : List Nat} {p : List Nat × List Int} {vo vc : Value} {W : World} (h : ToAt B gT gM q p vo vc W) : ToAt B gT gM q p vo vc W.drew := h.any (grown_below ((Below.refl _ _).drew) none)
/-- The code grows, and its slice is laid into the box. -/
theorem ToAt.code {B gT gM g k cap H : Nat} {q : List Nat} {p : List Nat × List Int} {xs : List Int} {vo vc : Value} {W W8 : World} (h : ToAt B gT gM q p vo vc W) (hk : k = (p.2 ++ xs).length) (hown : W8.ownsRow B 3 1 (.slice (some ⟨g, 0, none⟩) k cap) k (intsV (p.2 ++ xs))) (hg : W.grownBy W8 vc.ownBlock) (hl : vc.ownBlock = some g ∨ g = H) (hH : W.heap.size = H) :
    W8.heap[gT]? = some (.cells #[vo, vc] 193 (0, 0)) ∧ ToAt B gT gM q (p.1, p.2 ++ xs) vo (.slice (some ⟨g, 0, none⟩) k cap) (W8.setCell ⟨gT, 1, none⟩ (.slice (some ⟨g, 0, none⟩) k cap)) := by
  obtain ⟨n1, n2, n3⟩ := h.mapNe
  have hbx : W8.heap[gT]? = some (.cells #[vo, vc] 193 (0, 0)) := (hg.block gT (Array.getElem?_eq_some_iff.1 h.box).1 (fun e => boxNe h.cod h.box (by decide) e.symm)).trans h.box
  have hs := set_grown W8 gT 1 (.slice (some ⟨g, 0, none⟩) k cap)
  subst hk
  have hord8 : W8.ownsRow B 3 1 vo p.1.length (nats p.1) := h.ord.kept hg h.oc
  refine ⟨hbx, ?_, (h.map.kept hg n2).kept hs (fun e => n3 (Option.some.inj e)), hord8.kept hs (Or.inr (boxNe hord8 hbx (by decide))), hown.kept hs (Or.inr (boxNe hown hbx (by decide))), ?_⟩
  · rw [set_block hbx]; rfl
  · rcases hl with hl | hl
    · rcases h.oc with h1 | h1
      · exact Or.inl h1
      · refine Or.inr (fun e => h1 ?_)
        rw [hl]
        exact e
    · cases hv : vo.ownBlock with
      | none => exact Or.inl rfl
      | some q =>
        refine Or.inr (fun e => ?_)
        have h1 := (h.ord.lt q hv).2
        have h2 : q = g := Option.some.inj e
        omega
/-- The order grows. -/
theorem ToAt.order {B gT gM g k cap H x : Nat} {q : List Nat} {p : List Nat × List Int} {vo vc : Value} {W W8 : World} (h : ToAt B gT gM q p vo vc W) (hk : k = (p.1 ++ [x]).length) (hown : W8.ownsRow B 3 1 (.slice (some ⟨g, 0, none⟩) k cap) k (nats (p.1 ++ [x]))) (hg : W.grownBy W8 vo.ownBlock) (hl : vo.ownBlock = some g ∨ g = H) (hH : W.heap.size = H) :
    W8.heap[gT]? = some (.cells #[vo, vc] 193 (0, 0)) ∧ ToAt B gT gM q (p.1 ++ [x], p.2) (.slice (some ⟨g, 0, none⟩) k cap) vc (W8.setCell ⟨gT, 0, none⟩ (.slice (some ⟨g, 0, none⟩) k cap)) := by
  obtain ⟨n1, n2, n3⟩ := h.mapNe
  have hbx : W8.heap[gT]? = some (.cells #[vo, vc] 193 (0, 0)) := (hg.block gT (Array.getElem?_eq_some_iff.1 h.box).1 (fun e => boxNe h.ord h.box (by decide) e.symm)).trans h.box
  have hs := set_grown W8 gT 0 (.slice (some ⟨g, 0, none⟩) k cap)
  subst hk
  have hc : vc.ownBlock = none ∨ vc.ownBlock ≠ vo.ownBlock := by
    cases hv : vc.ownBlock with
    | none => exact Or.inl rfl
    | some q =>
      refine Or.inr (fun e => ?_)
      have oc := h.oc
      rw [hv] at oc
      rcases oc with h1 | h1
      · rw [h1] at e; cases e
      · exact h1 e.symm
  have hcod8 : W8.ownsRow B 3 1 vc p.2.length (intsV p.2) := h.cod.kept hg hc
  refine ⟨hbx, ?_, (h.map.kept hg n1).kept hs (fun e => n3 (Option.some.inj e)), hown.kept hs (Or.inr (boxNe hown hbx (by decide))), hcod8.kept hs (Or.inr (boxNe hcod8 hbx (by decide))), ?_⟩
  · rw [set_block hbx]; rfl
  · refine Or.inr (fun e => ?_)
    have e' : some g = vc.ownBlock := e
    rcases hl with hl | hl
    · rcases hc with h1 | h1
      · rw [h1] at e'; cases e'
      · exact h1 (by rw [hl, ← e'])
    · have h1 := (h.cod.lt g e'.symm).2
      omega
/-- A crossing gets its number. -/
theorem ToAt.num {B gT gM x m : Nat} {q : List Nat} {p : List Nat × List Int} {vo vc : Value} {W W1 : World} {D : DataW Unit} (h : ToAt B gT gM q p vo vc W) (hM : OwnM W gM m D) (hm : m ≤ q.length) (hN : NumsD D q) (hx : x ∉ q) (h1 : OwnM W1 gM (m + 1) (D.put (.int .i64 (x : Nat)) (.lit (.int .i64 (q.length : Nat))))) (hg : W.grownBy W1 (some gM)) : ToAt B gT gM (q ++ [x]) p vo vc W1 := by
  obtain ⟨n1, n2, n3⟩ := h.mapNe
  refine ⟨(hg.block gT (Array.getElem?_eq_some_iff.1 h.box).1 (fun e => n3 (Option.some.inj e))).trans h.box, ⟨m + 1, _, h1, by simp; omega, hN.put (World.ownsMap.isMap hM) hx⟩, h.ord.kept hg (Or.inr n1), h.cod.kept hg (Or.inr n2), h.oc⟩
theorem signC_any (x : Cr) (w : World) :
    Calls Try.prog 205 #[.agg #[.int .i64 x.a, .int .i64 x.b, .int .i64 x.c, .int .i64 x.d, .bool x.plus]] w fun e w' => e = .returned (.int .i64 (if x.plus = true then 1 else 0)) ∧ Below w.heap.size w w' := by
  obtain ⟨xa, xb, xc, xd, xp⟩ := x
  cases xp
  · go_enter Try.func205, Try.ntmps205
    go_wp2
    go_ret
    exact ⟨rfl, (Below.refl _ _).alloc (Nat.le_refl _) _⟩
  · go_enter Try.func205, Try.ntmps205
    go_wp2
    go_ret
    exact ⟨rfl, (Below.refl _ _).alloc (Nat.le_refl _) _⟩
end Go.Proofs.Ytbikalghmlihlaa

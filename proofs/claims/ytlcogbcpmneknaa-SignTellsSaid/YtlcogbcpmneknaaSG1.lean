/- A map from darts to numbers; a chart in memory. -/
import Derived.Test.YtlcogbcpmneknaaSG0P
import Derived.Test.YtlcogbcpmneknaaW6P
import Derived.Maps.OwnOps
import Derived.Maps.OwnSet
import Derived.DeepKeys4
namespace Go.Proofs.Ytlcogbcpmneknaa
open Go.RowKit Go.Maps

theorem hidS {P : Prop} (h : P) : Hid P := h
def dtV (j : Nat) : Value := .agg #[.int .i64 (dA j : Nat), .bool (dB j)]
theorem dtV_inj {x y : Nat} (hx : 1 ≤ x) (hy : 1 ≤ y) (h : dtV x = dtV y) : x = y := by
  unfold dtV at h
  simp only [Value.agg.injEq, Array.mk.injEq, List.cons.injEq, Value.int.injEq, Value.bool.injEq, and_true, true_and] at h
  have e1 : dA x = dA y := by have := h.1; omega
  rw [← mk_d hx, ← mk_d hy, e1, h.2]
theorem lawD : Keyed Try.prog 67 := Keyed.of_law (deep_law_laid (by kernel_rfl) (m := 5) (by decide) (by decide +kernel) (by kernel_rfl) (by kernel_rfl))
theorem keyD_all : ((List.range 65).all fun x => (keyOf Try.prog 67 (dtV x)).isSome) = true := by decide +kernel
theorem keyD {x : Nat} (h : x < 65) : ∃ l, keyOf Try.prog 67 (dtV x) = some l := by
  have := List.all_eq_true.1 keyD_all x (List.mem_range.2 h)
  exact Option.isSome_iff_exists.1 this
theorem zeroID (w : World) : (zeroValue 3).run Try.prog w = .ok (.int .i64 0) w := by kernel_rfl
/-- The map holds, for each dart of S, a number. -/
def MapD (W : World) (b m : Nat) (S : Nat → Prop) (F : Nat → Nat) : Prop := ∃ D : DataW Unit, W.ownsMap Try.prog 67 (plainElem Try.prog 3) b m D ∧ ∀ x l, 1 ≤ x → S x → keyOf Try.prog 67 (dtV x) = some l → ∀ zd, D.atKey l zd = .lit (.int .i64 (F x : Nat))
theorem MapD.kept {W W' : World} {b m : Nat} {S : Nat → Prop} {F : Nat → Nat} {row : Option Nat} (h : MapD W b m S F) (hg : W.grownBy W' row) (hne : some b ≠ row) : MapD W' b m S F := by
  obtain ⟨D, h1, h2⟩ := h
  exact ⟨D, h1.kept hg hne, h2⟩
theorem MapD.lt {W : World} {b m : Nat} {S : Nat → Prop} {F : Nat → Nat} (h : MapD W b m S F) : b < W.heap.size := by
  obtain ⟨D, h1, h2⟩ := h
  exact h1.lt
theorem MapD.congr {W : World} {b m m' : Nat} {S S' : Nat → Prop} {F F' : Nat → Nat} (h : MapD W b m S F) (hm : m ≤ m') (hS : ∀ x, 1 ≤ x → S' x → S x ∧ F' x = F x) : MapD W b m' S' F' := by
  obtain ⟨D, h1, h2⟩ := h
  exact ⟨D, h1.mono hm, fun x l h0 hx hl zd => by rw [(hS x h0 hx).2]; exact h2 x l h0 (hS x h0 hx).1 hl zd⟩
theorem MapD.made (W : World) (F : Nat → Nat) : MapD (W.alloc (.map #[] 0)) W.heap.size 0 (fun _ => False) F :=
  ⟨_, World.ownsMap_made W _ _ _, fun _ _ _ h => h.elim⟩
theorem MapD.look {W : World} {b m : Nat} {S : Nat → Prop} {F : Nat → Nat} (h : MapD W b m S F) (x : Nat) (h1 : 1 ≤ x) (hx : S x) (hN : x < 65) : (Instr.lookup 40 (.map (some b)) (dtV x) false).run Try.prog W = .ok (.int .i64 (F x : Nat)) W := by
  obtain ⟨D, g1, g2⟩ := h
  obtain ⟨l, hl⟩ := keyD hN
  obtain ⟨v, ps, hrun, hv⟩ := g1.lookup lawD Try.underlying40 (zeroID W) (plainElem_int Try.underlying3 (by decide)) hl
  rw [g2 x l h1 hx hl] at hv
  obtain ⟨c, rfl, hc, -⟩ := plainElem_int_inv Try.underlying3 hv
  have hc := congrArg Prod.fst hc
  have e : c = (F x : Nat) := by simp only [DataW.lit.injEq, Lit.int.injEq, true_and] at hc; exact hc.symm
  rw [hrun, e]
theorem MapD.put {W : World} {b m : Nat} {S : Nat → Prop} {F : Nat → Nat} (h : MapD W b m S F) (x y : Nat) (h1 : 1 ≤ x) (hx : x < 65) (hm : m ≤ 100000) (hy : y ≤ 1000) :
    ∃ w', (Instr.mapUpdate 40 (.map (some b)) (dtV x) (.int .i64 (y : Nat))).run Try.prog W = .ok () w' ∧ MapD w' b (m + 1) (fun z => z = x ∨ S z) (fun z => if z = x then y else F z) ∧ W.grownBy w' (some b) := by
  obtain ⟨D, g1, g2⟩ := h
  obtain ⟨l, hl⟩ := keyD hx
  have hp : plainElem Try.prog 3 (.int .i64 (y : Nat)) = some ((.lit (.int .i64 (y : Nat)) : DataW Unit), []) := plainElem_int Try.underlying3 (WalkArith.wf_i64 ⟨by omega, by omega⟩)
  obtain ⟨w', hrun, hown, hg⟩ := g1.update lawD Try.underlying40 (show m < maxLen by unfold maxLen; omega) hl hp
  refine ⟨w', hrun, ⟨D.put l (.lit (.int .i64 (y : Nat))), hown, fun z lz hz1 hz hlz zd => ?_⟩, hg⟩
  show _ = DataW.lit (.int .i64 ((if z = x then y else F z : Nat) : Int))
  by_cases e : z = x
  · subst e
    rw [if_pos rfl]
    rw [hl] at hlz
    obtain rfl := Option.some.inj hlz
    exact atKey_put_same g1.isMap (lawD.key hl) _ _
  · rw [if_neg e]
    have hne : lz ≠ l := fun h0 => e (dtV_inj hz1 h1 (lawD.inj hlz (h0 ▸ hl)))
    rw [atKey_put_other hne]
    rcases hz with h0 | h0
    · exact absurd h0 e
    · exact g2 z lz hz1 h0 hlz zd
/-- A chart: its drawing, its faces by darts, its shades. -/
def chV (a : Option Addr) (cap : Nat) (C : List Cr) (loops : Int) (gF cF gT cT gM gS : Nat) : Value := .agg #[.slice a C.length cap, .int .i64 loops, .slice (some ⟨gF, 0, none⟩) (2 * C.length + 1) cF, .slice (some ⟨gT, 0, none⟩) (2 * C.length + 1) cT, .map (some gM), .slice (some ⟨gS, 0, none⟩) (facesM C).length (facesM C).length]
/-- A chart in a world. -/
structure Ch (w : World) (a : Option Addr) (cap : Nat) (C : List Cr) (gF gT gM gS : Nat) (L : List Int) : Prop where
  dr : Dr w a cap C gF gT
  mp : MapD w gM 100000 (fun j => j ≤ 4 * C.length) (fo C)
  sh : w.ownsRow 0 3 1 (.slice (some ⟨gS, 0, none⟩) (facesM C).length (facesM C).length) (facesM C).length (intsV L)
  ne : gM ≠ gS ∧ gF ≠ gS ∧ gT ≠ gS ∧ (0 < C.length → ∀ ad, a = some ad → ad.block ≠ gS)
theorem Ch.on {w w' : World} {a : Option Addr} {cap : Nat} {C : List Cr} {gF gT gM gS : Nat} {L : List Int} (h : Ch w a cap C gF gT gM gS L) (hb : Below w.heap.size w w') : Ch w' a cap C gF gT gM gS L :=
  ⟨h.dr.on hb, h.mp.kept (grown_below hb none) (by simp), own_any h.sh (grown_below hb none), h.ne⟩
theorem crs_keep {w w' : World} {a : Option Addr} {cap : Nat} {row : Option Nat} {C : List Cr} (h : Crs w w.heap.size (.slice a C.length cap) C) (hg : w.grownBy w' row) (hne : 0 < C.length → ∀ ad, a = some ad → row ≠ some ad.block) : Crs w' w'.heap.size (.slice a C.length cap) C := by
  obtain ⟨a', cap', e, hn, k⟩ := h
  injection e with e1 e2 e3
  subst e1 e3
  refine ⟨a, cap, rfl, hn, fun h0 => ?_⟩
  obtain ⟨b, off, h1, h2, h3⟩ := k h0
  have hf := hne h0 _ h1
  refine ⟨b, off, h1, Nat.lt_of_lt_of_le h2 hg.size, fun i hi => ?_⟩
  have hbk := hg.block b h2 (fun e => hf e.symm)
  have hc : ∀ j u, w.cell? ⟨b, j, none⟩ = some u → w'.cell? ⟨b, j, none⟩ = some u := fun j u hu => by
    simp only [World.cell?] at hu ⊢
    rw [hbk]
    exact hu
  obtain ⟨q0, q1, q2, q3, q4⟩ := h3 i hi
  exact ⟨hc _ _ q0, hc _ _ q1, hc _ _ q2, hc _ _ q3, hc _ _ q4⟩
theorem terms_keep {w w' : World} {x off : Nat} {row : Option Nat} {l : List (Int × Int)} (h : TermsAt w x off l) (hx : x < w.heap.size) (hg : w.grownBy w' row) (hne : row ≠ some x) : TermsAt w' x off l := by
  have hbk := hg.block x hx (fun e => hne e.symm)
  have hc : ∀ j u, w.cell? ⟨x, j, none⟩ = some u → w'.cell? ⟨x, j, none⟩ = some u := fun j u hu => by
    simp only [World.cell?] at hu ⊢
    rw [hbk]
    exact hu
  intro i hi
  obtain ⟨q0, q1⟩ := h i hi
  exact ⟨hc _ _ q0, hc _ _ q1⟩
/-- What lies elsewhere changes no chart. -/
theorem Ch.keep {w w' : World} {a : Option Addr} {cap : Nat} {C : List Cr} {gF gT gM gS B : Nat} {row : Option Nat} {L : List Int} (h : Ch w a cap C gF gT gM gS L) (hg : w.grownBy w' row) (hB : gF < B ∧ gT < B ∧ gM < B ∧ gS < B ∧ (0 < C.length → ∀ ad, a = some ad → ad.block < B)) (hr : ∀ r, row = some r → B ≤ r) : Ch w' a cap C gF gT gM gS L := by
  have far : ∀ q, q < B → row ≠ some q := fun q hq e => by have := hr q e; omega
  refine ⟨⟨crs_keep h.dr.crs hg (fun h0 ad e => far _ (hB.2.2.2.2 h0 ad e)), Nat.lt_of_lt_of_le h.dr.ltF hg.size, Nat.lt_of_lt_of_le h.dr.ltT hg.size, terms_keep h.dr.from_ h.dr.ltF hg (far _ hB.1), terms_keep h.dr.to h.dr.ltT hg (far _ hB.2.1)⟩, h.mp.kept hg (fun e => far _ hB.2.2.1 e.symm), h.sh.kept hg (Or.inr (fun e => far _ hB.2.2.2.1 e.symm)), h.ne⟩
theorem Ch.off {w w' : World} {a : Option Addr} {cap : Nat} {C : List Cr} {gF gT gM gS : Nat} {row : Option Nat} {L : List Int} (h : Ch w a cap C gF gT gM gS L) (hg : w.grownBy w' row) (hn : row ≠ some gF ∧ row ≠ some gT ∧ row ≠ some gM ∧ row ≠ some gS ∧ (0 < C.length → ∀ ad, a = some ad → row ≠ some ad.block)) : Ch w' a cap C gF gT gM gS L :=
  ⟨⟨crs_keep h.dr.crs hg hn.2.2.2.2, Nat.lt_of_lt_of_le h.dr.ltF hg.size, Nat.lt_of_lt_of_le h.dr.ltT hg.size, terms_keep h.dr.from_ h.dr.ltF hg hn.1, terms_keep h.dr.to h.dr.ltT hg hn.2.1⟩, h.mp.kept hg (fun e => hn.2.2.1 e.symm), h.sh.kept hg (Or.inr (fun e => hn.2.2.2.1 e.symm)), h.ne⟩
theorem Ch.lt {w : World} {a : Option Addr} {cap : Nat} {C : List Cr} {gF gT gM gS : Nat} {L : List Int} (h : Ch w a cap C gF gT gM gS L) : gF < w.heap.size ∧ gT < w.heap.size ∧ gM < w.heap.size ∧ gS < w.heap.size ∧ (0 < C.length → ∀ ad, a = some ad → ad.block < w.heap.size) := by
  refine ⟨h.dr.ltF, h.dr.ltT, h.mp.lt, (h.sh.lt gS rfl).2, fun h0 ad e => ?_⟩
  obtain ⟨b, off, h1, h2, -⟩ := h.dr.cross h0
  rw [h1] at e
  rw [← Option.some.inj e]
  exact h2
/-- Another list of shades in the same place. -/
theorem Ch.put {w w' : World} {a : Option Addr} {cap : Nat} {C : List Cr} {gF gT gM gS : Nat} {L L' : List Int} (h : Ch w a cap C gF gT gM gS L) (hg : w.grownBy w' (some gS)) (hs : w'.ownsRow 0 3 1 (.slice (some ⟨gS, 0, none⟩) (facesM C).length (facesM C).length) (facesM C).length (intsV L')) : Ch w' a cap C gF gT gM gS L' :=
  ⟨⟨crs_keep h.dr.crs hg (fun h0 ad e e2 => h.ne.2.2.2 h0 ad e (Option.some.inj e2).symm), Nat.lt_of_lt_of_le h.dr.ltF hg.size, Nat.lt_of_lt_of_le h.dr.ltT hg.size, terms_keep h.dr.from_ h.dr.ltF hg (fun e => h.ne.2.1 (Option.some.inj e).symm), terms_keep h.dr.to h.dr.ltT hg (fun e => h.ne.2.2.1 (Option.some.inj e).symm)⟩, h.mp.kept hg (fun e => h.ne.1 (Option.some.inj e)), hs, h.ne⟩
end Go.Proofs.Ytlcogbcpmneknaa

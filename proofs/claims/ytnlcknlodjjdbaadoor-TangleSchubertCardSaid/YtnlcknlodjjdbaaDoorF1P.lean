/- Several texts of the proof, one behind the other. -/
import Derived.Test.YtnlcknlodjjdbaaDoorBK4P
import Derived.Test.YtnlcknlodjjdbaaDoorH7
import Derived.Test.YtnlcknlodjjdbaaDoorBK3P
import Derived.Lib.Hide
/- The walks of Drawing.End, Drawing.Onward, way; ref.dartCode, ref.NextDart. -/
namespace Go.Proofs.YtnlcknlodjjdbaaDoor
open Go.RowKit

theorem Dr.endAt {w : World} {a : Option Addr} {cap : Nat} {C : List Cr} {gF gT : Nat} {loops : Int} (h : Dr w a cap C gF gT) (hm : mayD C loops = true) (x : Nat) (h1 : 1 ≤ x) (h2 : x ≤ 2 * C.length) :
    w.cell? ⟨gT, x * 2, none⟩ = some (.int .i64 (enC C x true : Nat)) ∧ w.cell? ⟨gT, x * 2 + 1, none⟩ = some (.int .i64 (enS C x true : Nat)) ∧ w.cell? ⟨gF, x * 2, none⟩ = some (.int .i64 (enC C x false : Nat)) ∧ w.cell? ⟨gF, x * 2 + 1, none⟩ = some (.int .i64 (enS C x false : Nat)) := by
  have hT := h.to x (by rw [ends_length]; omega)
  have hF := h.from_ x (by rw [ends_length]; omega)
  rw [ends_at C true C.length 0 x h1 h2, Nat.zero_add] at hT
  rw [ends_at C false C.length 0 x h1 h2, Nat.zero_add] at hF
  have e : endAh C x true C.length 0 = endTo C x true C.length := rfl
  have e2 : endAh C x false C.length 0 = endTo C x false C.length := rfl
  rw [e, (en_may hm x true h1 h2).1] at hT
  rw [e2, (en_may hm x false h1 h2).1] at hF
  exact ⟨hT.1, hT.2, hF.1, hF.2⟩

set_option maxHeartbeats 2000000 in
set_option maxRecDepth 100000 in
theorem end_any (a : Option Addr) (cap : Nat) (C : List Cr) (loops : Int) (gF cF gT cT : Nat) (x : Nat) (p : Bool) (w : World) (hm : mayD C loops = true) (h1 : 1 ≤ x) (h2 : x ≤ 2 * C.length) (hD : Dr w a cap C gF gT) :
    Calls Tryd.prog 58 #[drV a cap C loops gF cF gT cT, .agg #[.int .i64 x, .bool p]] w fun e w' => e = .returned (.agg #[.int .i64 (enC C x (!p) : Nat), .int .i64 (enS C x (!p) : Nat)]) ∧ Below w.heap.size w w' := by
  unfold drV
  obtain ⟨c0, c1, c2, c3⟩ := hD.endAt hm x h1 h2
  have l1 := hD.ltT
  have l2 := hD.ltF
  clear hD
  have hB3 : Below w.heap.size w (((w.alloc (.cells #[.slice a C.length cap, .int .i64 loops, .slice (some ⟨gF, 0, none⟩) (2 * C.length + 1) cF, .slice (some ⟨gT, 0, none⟩) (2 * C.length + 1) cT] 50)).alloc (.cells #[.int .i64 x, .bool p] 115)).alloc (.cells #[.int .i64 0, .int .i64 0] 67)) := below3 _ _ _ _
  have d0 := bcell hB3 l1 c0
  have d1 := bcell hB3 l1 c1
  have d2 := bcell hB3 l2 c2
  have d3 := bcell hB3 l2 c3
  clear hB3 c0 c1 c2 c3
  obtain ⟨t0, ht0⟩ : ∃ t0, enC C x true = t0 := ⟨_, rfl⟩
  obtain ⟨t1, ht1⟩ : ∃ t1, enS C x true = t1 := ⟨_, rfl⟩
  obtain ⟨f0, hf0⟩ : ∃ f0, enC C x false = f0 := ⟨_, rfl⟩
  obtain ⟨f1, hf1⟩ : ∃ f1, enS C x false = f1 := ⟨_, rfl⟩
  rw [ht0] at d0
  rw [ht1] at d1
  rw [hf0] at d2
  rw [hf1] at d3
  have hx : x < 2 * C.length + 1 := by omega
  cases p with
  | true =>
    have hG : (((w.alloc (.cells #[.slice a C.length cap, .int .i64 loops, .slice (some ⟨gF, 0, none⟩) (2 * C.length + 1) cF, .slice (some ⟨gT, 0, none⟩) (2 * C.length + 1) cT] 50)).alloc (.cells #[.int .i64 x, .bool true] 115)).alloc (.cells #[.int .i64 f0, .int .i64 f1] 67)).heap[w.heap.size + 1 + 1]? = some (.cells #[.int .i64 f0, .int .i64 f1] 67 (0, 0)) := alloc_at (by simp)
    have x0 := block_cell (i := 0) (v := .int .i64 f0) hG rfl
    have x1 := block_cell (i := 1) (v := .int .i64 f1) hG rfl
    have HB : Hid (Below w.heap.size w (((w.alloc (.cells #[.slice a C.length cap, .int .i64 loops, .slice (some ⟨gF, 0, none⟩) (2 * C.length + 1) cF, .slice (some ⟨gT, 0, none⟩) (2 * C.length + 1) cT] 50)).alloc (.cells #[.int .i64 x, .bool true] 115)).alloc (.cells #[.int .i64 f0, .int .i64 f1] 67))) := below3 _ _ _ _
    clear hG
    go_enter Tryd.func58, Tryd.ntmps58
    go_wp2
    exact bodyPost_ret (v := .agg #[.int .i64 f0, .int .i64 f1]) (by simp [results, Tryd.results58, go_sem, x0, x1]) rfl ⟨by simp [hf0, hf1], HB.out⟩
  | false =>
    have hG : (((w.alloc (.cells #[.slice a C.length cap, .int .i64 loops, .slice (some ⟨gF, 0, none⟩) (2 * C.length + 1) cF, .slice (some ⟨gT, 0, none⟩) (2 * C.length + 1) cT] 50)).alloc (.cells #[.int .i64 x, .bool false] 115)).alloc (.cells #[.int .i64 t0, .int .i64 t1] 67)).heap[w.heap.size + 1 + 1]? = some (.cells #[.int .i64 t0, .int .i64 t1] 67 (0, 0)) := alloc_at (by simp)
    have x0 := block_cell (i := 0) (v := .int .i64 t0) hG rfl
    have x1 := block_cell (i := 1) (v := .int .i64 t1) hG rfl
    have HB : Hid (Below w.heap.size w (((w.alloc (.cells #[.slice a C.length cap, .int .i64 loops, .slice (some ⟨gF, 0, none⟩) (2 * C.length + 1) cF, .slice (some ⟨gT, 0, none⟩) (2 * C.length + 1) cT] 50)).alloc (.cells #[.int .i64 x, .bool false] 115)).alloc (.cells #[.int .i64 t0, .int .i64 t1] 67))) := below3 _ _ _ _
    clear hG
    go_enter Tryd.func58, Tryd.ntmps58
    go_wp2
    exact bodyPost_ret (v := .agg #[.int .i64 t0, .int .i64 t1]) (by simp [results, Tryd.results58, go_sem, x0, x1]) rfl ⟨by simp [ht0, ht1], HB.out⟩

set_option maxHeartbeats 2000000 in
set_option maxRecDepth 100000 in
theorem way_any (x : Int) (p : Bool) (w : World) :
    Calls Tryd.prog 72 #[.agg #[.int .i64 x, .bool p]] w fun e w' => e = .returned (.int .i64 (if p = true then 1 else 0)) ∧ Below w.heap.size w w' := by
  go_enter Tryd.func72, Tryd.ntmps72
  cases p with
  | true =>
    go_wp2
    go_ret
    exact ⟨rfl, (Below.refl _ _).alloc (Nat.le_refl _) _⟩
  | false =>
    go_wp2
    go_ret
    exact ⟨rfl, (Below.refl _ _).alloc (Nat.le_refl _) _⟩

end Go.Proofs.YtnlcknlodjjdbaaDoor
/- Lists of numbers that a call owns; the walk of Drawing.Walks. -/
namespace Go.Proofs.YtnlcknlodjjdbaaDoor
open Go.RowKit

/-- Numbers as cells. -/
def nats (l : List Nat) : List Value := l.map fun x => .int .i64 (x : Nat)
def bools (l : List Bool) : List Value := l.map fun x => .bool x
theorem nats_len (l : List Nat) : (nats l).length = l.length := by simp [nats]
theorem nats_app (l : List Nat) (x : Nat) : nats (l ++ [x]) = nats l ++ [.int .i64 (x : Nat)] := by simp [nats]
/-- A list of lists of numbers that a call itself owns. -/
def NatsOwn (w : World) (B : Nat) (v : Value) (L : List (List Nat)) : Prop :=
  ∃ ys : List Value, ys.length = L.length ∧ w.ownsRow B 26 1 v ys.length ys ∧ ∀ j, j < L.length → w.ownsRow B 3 1 (ys.getD j (.bool false)) (L.getD j []).length (nats (L.getD j []))
theorem NatsOwn.any {w w' : World} {B : Nat} {v : Value} {L : List (List Nat)} (h : NatsOwn w B v L) (hg : w.grownBy w' none) : NatsOwn w' B v L := by
  obtain ⟨ys, h1, h2, h3⟩ := h
  exact ⟨ys, h1, own_any h2 hg, fun j hj => own_any (h3 j hj) hg⟩
theorem grown_none {w w' : World} {row : Option Nat} (h : w.grownBy w' none) : w.grownBy w' row := ⟨h.os, h.tape, h.output, h.size, fun k hk _ => h.block k hk (by simp)⟩
theorem grown_new {W X Y : World} {row r2 : Option Nat} (h : W.grownBy X row) (g : X.grownBy Y r2) (hr : ∀ k, r2 = some k → W.heap.size ≤ k) : W.grownBy Y row :=
  ⟨g.os.trans h.os, g.tape.trans h.tape, g.output.trans h.output, Nat.le_trans h.size g.size, fun k hk hn => (g.block k (Nat.lt_of_lt_of_le hk h.size) (fun e => by have := hr k e.symm; omega)).trans (h.block k hk hn)⟩
def lenOf : Value → Nat
  | .slice _ n _ => n
  | _ => 0
theorem infoInt : (Tryd.prog.info? 3).map (fun i => (i.zero, i.size, i.bytes)) = some (some (.int .i64 0), 1, 8) := by kernel_rfl
end Go.Proofs.YtnlcknlodjjdbaaDoor
/- The walks of ref.DiagramOf and gauss.Strands; rows that are the same. -/
namespace Go.Proofs.YtnlcknlodjjdbaaDoor
open Go.RowKit

/-- The crossings as cells, one behind the other. -/
def crossCells (C : List Cr) : List Value := C.flatMap fun x => [.int .i64 x.a, .int .i64 x.b, .int .i64 x.c, .int .i64 x.d, .bool x.plus]
theorem cells_length (C : List Cr) : (crossCells C).length = C.length * 5 := by
  induction C with
  | nil => rfl
  | cons t l ih => simp [crossCells] at *; omega
theorem cells_get (C : List Cr) (i : Nat) (hi : i < C.length) : (crossCells C)[i * 5]? = some (.int .i64 (C.getD i Cr.none).a) ∧ (crossCells C)[i * 5 + 1]? = some (.int .i64 (C.getD i Cr.none).b) ∧ (crossCells C)[i * 5 + 2]? = some (.int .i64 (C.getD i Cr.none).c) ∧ (crossCells C)[i * 5 + 3]? = some (.int .i64 (C.getD i Cr.none).d) ∧ (crossCells C)[i * 5 + 4]? = some (.bool (C.getD i Cr.none).plus) := by
  induction C generalizing i with
  | nil => simp at hi
  | cons t l ih =>
    have e : crossCells (t :: l) = .int .i64 t.a :: .int .i64 t.b :: .int .i64 t.c :: .int .i64 t.d :: .bool t.plus :: crossCells l := rfl
    cases i with
    | zero => rw [e]; exact ⟨rfl, rfl, rfl, rfl, rfl⟩
    | succ i =>
      have := ih i (by simpa using hi)
      have e1 : (i + 1) * 5 = i * 5 + 1 + 1 + 1 + 1 + 1 := by omega
      rw [e, e1]
      exact this
theorem crs_own {w : World} {B e : Nat} {v : Value} {C : List Cr} (h : w.ownsRow B e 5 v C.length (crossCells C)) (hn : C.length ≤ maxLen) : Crs w w.heap.size v C := by
  have h0 := h
  rcases h.2 with ⟨rfl, h1⟩ | ⟨g, cap, cur, rfl, _, _, _⟩
  · exact ⟨none, 0, by rw [h1], hn, fun hp => by omega⟩
  · refine ⟨some ⟨g, 0, none⟩, cap, rfl, hn, fun _ => ⟨g, 0, rfl, (h0.lt g rfl).2, fun i hi => ?_⟩⟩
    have g0 := cells_get C i hi
    rw [Nat.zero_add]
    exact ⟨(h0.cellAt (i * 5) (by omega)).trans g0.1, (h0.cellAt (i * 5 + 1) (by omega)).trans g0.2.1, (h0.cellAt (i * 5 + 2) (by omega)).trans g0.2.2.1, (h0.cellAt (i * 5 + 3) (by omega)).trans g0.2.2.2.1, (h0.cellAt (i * 5 + 4) (by omega)).trans g0.2.2.2.2⟩
/-- A slice of crossings as it is handed in. -/
def CrsW (w : World) (B : Nat) (v : Value) (C : List Cr) : Prop :=
  (v = .slice none 0 0 ∧ C = []) ∨ (∃ ad cap, v = .slice (some ad) 0 cap ∧ C = []) ∨ ∃ b off cap, v = .slice (some ⟨b, off, none⟩) C.length cap ∧ b < B ∧ CrossAt w b off C
theorem CrsW.crs {w : World} {B : Nat} {v : Value} {C : List Cr} (h : CrsW w B v C) (hn : C.length ≤ maxLen) : Crs w B v C := by
  rcases h with ⟨rfl, rfl⟩ | ⟨ad, cap, rfl, rfl⟩ | ⟨b, off, cap, rfl, hlt, hC⟩
  · exact ⟨none, 0, rfl, hn, fun hp => by simp at hp⟩
  · exact ⟨some ad, cap, rfl, hn, fun hp => by simp at hp⟩
  · exact ⟨some ⟨b, off, none⟩, cap, rfl, hn, fun _ => ⟨b, off, rfl, hlt, hC⟩⟩
theorem CrsW.up {w w' : World} {v : Value} {C : List Cr} (h : CrsW w w.heap.size v C) (hb : Below w.heap.size w w') : CrsW w' w'.heap.size v C := by
  rcases h with h | h | ⟨b, off, cap, hv, hlt, hC⟩
  · exact Or.inl h
  · exact Or.inr (Or.inl h)
  · exact Or.inr (Or.inr ⟨b, off, cap, hv, Nat.lt_of_lt_of_le hlt hb.size, hC.on hb hlt⟩)
theorem infoCross : (Tryd.prog.info? 79).map (fun i => (i.zero, i.size, i.bytes)) = some (some (.agg #[.int .i64 0, .int .i64 0, .int .i64 0, .int .i64 0, .bool false]), 5, 40) := by kernel_rfl

theorem own_terms {w : World} {B e n g c : Nat} {l : List (Int × Int)} (h : w.ownsRow B e 2 (.slice (some ⟨g, 0, none⟩) n c) n (flat l)) (hl : l.length = n) : TermsAt w g 0 l := by
  intro i hi
  have g0 := flat_get l i hi
  rw [Nat.zero_add]
  exact ⟨(h.cellAt (i * 2) (by omega)).trans g0.1, (h.cellAt (i * 2 + 1) (by omega)).trans g0.2⟩
end Go.Proofs.YtnlcknlodjjdbaaDoor
/- Visits: lists of them that a call owns; the walks of gauss.visits and gauss.signs. -/
namespace Go.Proofs.YtnlcknlodjjdbaaDoor
open Go.RowKit

/-- Visits as cells. -/
def vflat (V : List (Nat × Bool)) : List Value := V.flatMap fun t => [.int .i64 (t.1 : Nat), .bool t.2]
theorem vflat_append (l m : List (Nat × Bool)) : vflat (l ++ m) = vflat l ++ vflat m := by simp [vflat]
theorem vflat_get (l : List (Nat × Bool)) (i : Nat) (hi : i < l.length) : (vflat l)[i * 2]? = some (.int .i64 ((l.getD i (0, false)).1 : Nat)) ∧ (vflat l)[i * 2 + 1]? = some (.bool (l.getD i (0, false)).2) := by
  induction l generalizing i with
  | nil => simp at hi
  | cons t l ih =>
    have e : vflat (t :: l) = .int .i64 (t.1 : Nat) :: .bool t.2 :: vflat l := rfl
    cases i with
    | zero => rw [e]; exact ⟨rfl, rfl⟩
    | succ i =>
      have := ih i (by simpa using hi)
      rw [e, show (i + 1) * 2 = i * 2 + 1 + 1 by omega]
      exact this
theorem vflat_one (l : List (Nat × Bool)) : ∀ u ∈ vflat l, u.oneCell' = true := by
  intro u hu
  simp only [vflat, List.mem_flatMap] at hu
  obtain ⟨t, _, ht⟩ := hu
  simp at ht
  rcases ht with rfl | rfl <;> rfl
/-- The walks as one looks at them. -/
def WksAt (w : World) (v : Value) (L : List (List Nat)) : Prop := ∃ ys : List Value, ys.length = L.length ∧ Slots w w.heap.size v ys ∧ ∀ j, j < L.length → Slots w w.heap.size (ys.getD j (.bool false)) (nats (L.getD j []))
theorem WksAt.on {w w' : World} {v : Value} {L : List (List Nat)} (h : WksAt w v L) (hb : Below w.heap.size w w') : WksAt w' v L := by
  obtain ⟨ys, h1, h2, h3⟩ := h
  exact ⟨ys, h1, (h2.on hb).mono hb.size, fun j hj => ((h3 j hj).on hb).mono hb.size⟩
end Go.Proofs.YtnlcknlodjjdbaaDoor
/- The walk of gauss.signs; rows of visits and of signs that are the same. -/
namespace Go.Proofs.YtnlcknlodjjdbaaDoor
open Go.RowKit

/-- A list of visits as one looks at it. -/
def VS (w : World) (v : Value) (V : List (Nat × Bool)) : Prop := ∃ a cap, v = .slice a V.length cap ∧ (0 < V.length → ∃ b off, a = some ⟨b, off, none⟩ ∧ b < w.heap.size ∧ ∀ i, i < V.length → w.cell? ⟨b, off + i * 2, none⟩ = some (.int .i64 ((V.getD i (0, false)).1 : Nat)) ∧ w.cell? ⟨b, off + i * 2 + 1, none⟩ = some (.bool (V.getD i (0, false)).2))
def VsAt (w : World) (v : Value) (L : List (List (Nat × Bool))) : Prop := ∃ ys : List Value, ys.length = L.length ∧ Slots w w.heap.size v ys ∧ ∀ j, j < L.length → VS w (ys.getD j (.bool false)) (L.getD j [])
theorem VS.on {w w' : World} {v : Value} {V : List (Nat × Bool)} (h : VS w v V) (hb : Below w.heap.size w w') : VS w' v V := by
  obtain ⟨a, cap, rfl, g⟩ := h
  refine ⟨a, cap, rfl, fun hp => ?_⟩
  obtain ⟨b, off, rfl, hlt, hc⟩ := g hp
  exact ⟨b, off, rfl, Nat.lt_of_lt_of_le hlt hb.size, fun i hi => ⟨bcell hb hlt (hc i hi).1, bcell hb hlt (hc i hi).2⟩⟩
theorem VsAt.on {w w' : World} {v : Value} {L : List (List (Nat × Bool))} (h : VsAt w v L) (hb : Below w.heap.size w w') : VsAt w' v L := by
  obtain ⟨ys, h1, h2, h3⟩ := h
  exact ⟨ys, h1, (h2.on hb).mono hb.size, fun j hj => (h3 j hj).on hb⟩

end Go.Proofs.YtnlcknlodjjdbaaDoor
/- Lists of whole numbers that a call owns; the walk of gauss.evenNumbers. -/
namespace Go.Proofs.YtnlcknlodjjdbaaDoor
open Go.RowKit

def intsV (l : List Int) : List Value := l.map fun x => .int .i64 x
theorem intsV_len (l : List Int) : (intsV l).length = l.length := by simp [intsV]
theorem intsV_get (l : List Int) (i : Nat) (h : i < l.length) : (intsV l)[i]? = some (.int .i64 (l.getD i 0)) := by simp [intsV, List.getD, h]
theorem intsV_set (l : List Int) (i : Nat) (x : Int) : (intsV l).set i (.int .i64 x) = intsV (l.set i x) := by simp [intsV, List.map_set]
theorem made_zero (n : Nat) : (madeCells (Value.int .i64 0).cells (n * 1)).toList = intsV (List.replicate n 0) := by
  have e : (Value.int .i64 0).cells = #[Value.int .i64 0] := rfl
  rw [e, toList_madeCells_one, Nat.mul_one]
  simp [intsV]
end Go.Proofs.YtnlcknlodjjdbaaDoor
/- Plain mathematics: overpasses; labels that are merged edge by edge come to the least of what is joined. -/
namespace Go.Proofs.YtnlcknlodjjdbaaDoor

theorem Least.le {E : List (Nat × Nat)} {n : Nat} {W : List Nat} (h : Least E n W) {v : Nat} (hv : v < n) : W.getD v 0 ≤ v := (h.2 v hv).2 v (Con.refl E v)
end Go.Proofs.YtnlcknlodjjdbaaDoor
/- Plain mathematics: labels merged place by place. -/
namespace Go.Proofs.YtnlcknlodjjdbaaDoor
open Go.RowKit

theorem cut_one {T G : Prop} (h : Hid T → G) (hT : T) : G := h hT
end Go.Proofs.YtnlcknlodjjdbaaDoor
/- Slices that are read; lists of numbers that stand in a function's values; which walk an arc lies in. -/
namespace Go.Proofs.YtnlcknlodjjdbaaDoor
open Go.RowKit

/-- A slice to be read: nil; with no element; or its cells lie there, below B. -/
def RdAt (w : World) (B size : Nat) (v : Value) (n : Nat) (xs : List Value) : Prop := ∃ a cap, v = .slice a n cap ∧ (0 < n → ∃ b off, a = some ⟨b, off, none⟩ ∧ b < B ∧ ∀ j, j < n * size → w.cell? ⟨b, off + j, none⟩ = xs[j]?)
theorem RdAt.on {w w' : World} {B size n : Nat} {v : Value} {xs : List Value} (h : RdAt w B size v n xs) (hb : Below B w w') : RdAt w' B size v n xs := by
  obtain ⟨a, cap, rfl, f⟩ := h
  refine ⟨a, cap, rfl, fun h0 => ?_⟩
  obtain ⟨b, off, rfl, hlt, hc⟩ := f h0
  exact ⟨b, off, rfl, hlt, fun j hj => bcell hb hlt (hc j hj)⟩
theorem RdAt.mono {w : World} {B B' size n : Nat} {v : Value} {xs : List Value} (h : RdAt w B size v n xs) (hB : B ≤ B') : RdAt w B' size v n xs := by
  obtain ⟨a, cap, rfl, f⟩ := h
  refine ⟨a, cap, rfl, fun h0 => ?_⟩
  obtain ⟨b, off, rfl, hlt, hc⟩ := f h0
  exact ⟨b, off, rfl, Nat.lt_of_lt_of_le hlt hB, hc⟩
theorem own_rd {w : World} {B e size n : Nat} {v : Value} {xs : List Value} (h : w.ownsRow B e size v n xs) : RdAt w w.heap.size size v n xs := by
  have h0 := h
  rcases h.2 with ⟨rfl, h1⟩ | ⟨g, cap, cur, rfl, _, _, _⟩
  · exact ⟨none, 0, by rw [h1], fun hp => by omega⟩
  · exact ⟨some ⟨g, 0, none⟩, cap, rfl, fun _ => ⟨g, 0, rfl, (h0.lt g rfl).2, fun j hj => by rw [Nat.zero_add]; exact h0.cellAt j hj⟩⟩
/-- Lists of numbers to be read. -/
def NatsRd (w : World) (B : Nat) (v : Value) (L : List (List Nat)) : Prop := ∃ ys : List Value, ys.length = L.length ∧ RdAt w B 1 v L.length ys ∧ ∀ j, j < L.length → RdAt w B 1 (ys.getD j (.bool false)) (L.getD j []).length (nats (L.getD j []))
theorem NatsRd.on {w w' : World} {B : Nat} {v : Value} {L : List (List Nat)} (h : NatsRd w B v L) (hb : Below B w w') : NatsRd w' B v L := by
  obtain ⟨ys, hy, h1, h2⟩ := h
  exact ⟨ys, hy, h1.on hb, fun j hj => (h2 j hj).on hb⟩
theorem NatsRd.mono {w : World} {B B' : Nat} {v : Value} {L : List (List Nat)} (h : NatsRd w B v L) (hB : B ≤ B') : NatsRd w B' v L := by
  obtain ⟨ys, hy, h1, h2⟩ := h
  exact ⟨ys, hy, h1.mono hB, fun j hj => (h2 j hj).mono hB⟩
theorem NatsRd.up {w w' : World} {v : Value} {L : List (List Nat)} (h : NatsRd w w.heap.size v L) (hb : Below w.heap.size w w') : NatsRd w' w'.heap.size v L := (h.on hb).mono hb.size
theorem NatsRd.len {w : World} {B : Nat} {v : Value} {L : List (List Nat)} (h : NatsRd w B v L) : ∃ a cap, v = .slice a L.length cap := by
  obtain ⟨ys, hy, ⟨a, cap, e, -⟩, h2⟩ := h
  exact ⟨a, cap, e⟩
/-- The row j, and where it stands. -/
theorem NatsRd.row {w : World} {B : Nat} {a : Option Addr} {cap : Nat} {L : List (List Nat)} (h : NatsRd w B (.slice a L.length cap) L) (j : Nat) (hj : j < L.length) :
    ∃ b off ar cr, a = some ⟨b, off, none⟩ ∧ b < B ∧ w.cell? ⟨b, off + j, none⟩ = some (.slice ar (L.getD j []).length cr) ∧ RdAt w B 1 (.slice ar (L.getD j []).length cr) (L.getD j []).length (nats (L.getD j [])) := by
  obtain ⟨ys, hy, ⟨a', cap', e, f⟩, h2⟩ := h
  injection e with e1 e2 e3
  obtain ⟨b, off, eb, hlt, hc⟩ := f (by omega)
  have hr := h2 j hj
  obtain ⟨ar, cr, er, -⟩ := hr
  have hr := h2 j hj
  rw [er] at hr
  refine ⟨b, off, ar, cr, e1.trans eb, hlt, ?_, hr⟩
  rw [hc j (by omega), ← er]
  simp [List.getD, hy, hj]
/-- A function's values, as a list. -/
def mapI (m : Nat) (f : Nat → Int) : List Int := (List.range m).map f
theorem mapI_len (m : Nat) (f : Nat → Int) : (mapI m f).length = m := by simp [mapI]
theorem mapI_get (m : Nat) (f : Nat → Int) (i : Nat) (h : i < m) : (mapI m f)[i]? = some (f i) := by simp [mapI, h]
theorem mapI_at (m : Nat) (f : Nat → Int) (i : Nat) (h : i < m) : (mapI m f).getD i 0 = f i := by rw [List.getD_eq_getElem?_getD, mapI_get m f i h]; rfl
theorem mapI_set (m : Nat) (f g : Nat → Int) (i : Nat) (x : Int) (h : ∀ j, j < m → g j = if j = i then x else f j) : (mapI m f).set i x = mapI m g := by
  apply List.ext_getElem?
  intro j
  by_cases hj : j < m
  · rw [mapI_get m g j hj, h j hj, List.getElem?_set]
    by_cases e : i = j
    · subst e; simp [mapI_len, hj]
    · rw [if_neg e, if_neg (fun h => e h.symm), mapI_get m f j hj]
  · rw [List.getElem?_eq_none (by simp [mapI_len]; omega), List.getElem?_eq_none (by simp [mapI_len]; omega)]
theorem mapI_zero (m : Nat) (f : Nat → Int) (h : ∀ j, j < m → f j = 0) : mapI m f = List.replicate m 0 := by
  apply List.ext_getElem?
  intro j
  by_cases hj : j < m
  · rw [mapI_get m f j hj, h j hj]; simp [hj]
  · rw [List.getElem?_eq_none (by simp [mapI_len]; omega), List.getElem?_eq_none (by simp; omega)]
theorem mapI_congr (m : Nat) (f g : Nat → Int) (h : ∀ j, j < m → f j = g j) : mapI m f = mapI m g := List.map_congr_left fun j hj => h j (List.mem_range.1 hj)

end Go.Proofs.YtnlcknlodjjdbaaDoor
/- Diagrams under way: crossings that are appended to one; the walks of drawing.crossOf and drawing.Turned. -/
namespace Go.Proofs.YtnlcknlodjjdbaaDoor
open Go.RowKit

/-- A diagram under way: its box at block g, its crossings a row of the call's own. -/
structure OutAt (w : World) (B g : Nat) (v : Value) (loops : Int) (C : List Cr) : Prop where
  box : w.heap[g]? = some (.cells #[v, .int .i64 loops] 32 (0, 0))
  row : w.ownsRow B 79 5 v C.length (crossCells C)
theorem OutAt.nil {w : World} {B g : Nat} {loops : Int} (h : w.heap[g]? = some (.cells #[.slice none 0 0, .int .i64 loops] 32 (0, 0))) : OutAt w B g (.slice none 0 0) loops [] := ⟨h, World.ownsRow_nil _ _ _ _⟩
theorem OutAt.on {w w' : World} {B g : Nat} {v : Value} {loops : Int} {C : List Cr} (h : OutAt w B g v loops C) (hb : Below w.heap.size w w') : OutAt w' B g v loops C :=
  ⟨(hb.block _ (Array.getElem?_eq_some_iff.1 h.box).1).trans h.box, own_any h.row (grown_below hb none)⟩
theorem OutAt.kept {w w' : World} {B g q : Nat} {v : Value} {loops : Int} {C : List Cr} (h : OutAt w B g v loops C) (hg : w.grownBy w' (some q)) (hq : q ≠ g) (hB : q < B) : OutAt w' B g v loops C := by
  refine ⟨(hg.block _ (Array.getElem?_eq_some_iff.1 h.box).1 (fun e => hq (Option.some.inj e).symm)).trans h.box, h.row.kept hg ?_⟩
  cases hv : v.ownBlock with
  | none => exact Or.inl rfl
  | some k => exact Or.inr (fun e => by have h1 := (h.row.lt k hv).1; have h2 := Option.some.inj e; omega)
theorem OutAt.below {w w8 W : World} {B B0 g : Nat} {v v8 : Value} {loops : Int} {C : List Cr} {o : Obj} (h : OutAt w B g v loops C) (hb : Below B0 W w) (hB : B0 ≤ B) (hs : B0 ≤ w.heap.size) (h0 : B0 ≤ g) (hg8 : (w.alloc o).grownBy w8 v.ownBlock) : Below B0 W (w8.setCell ⟨g, 0, none⟩ v8) :=
  ((hb.alloc hs _).grown hg8 (by simp; omega) (fun q hq => Nat.le_trans hB (h.row.lt q hq).1)).grown (set_grown w8 g 0 v8) (by have := hg8.size; simp at this; omega) (fun q hq => by have := Option.some.inj hq; omega)
theorem OutAt.other {w w8 : World} {B g k : Nat} {v v8 : Value} {loops : Int} {C : List Cr} {o p : Obj} (h : OutAt w B g v loops C) (hk : w.heap[k]? = some p) (hkB : k < B) (hkg : k ≠ g) (hg8 : (w.alloc o).grownBy w8 v.ownBlock) : (w8.setCell ⟨g, 0, none⟩ v8).heap[k]? = some p := by
  have hlt := (Array.getElem?_eq_some_iff.1 hk).1
  have hs := hg8.size
  simp only [World.size_alloc] at hs
  have hb8 : w8.heap[k]? = some p := (hg8.block _ (by simp; omega) (fun e => by have := (h.row.lt k e.symm).1; omega)).trans (alloc_old hk)
  exact ((set_grown w8 g 0 v8).block k (by omega) (fun e => hkg (Option.some.inj e))).trans hb8
/-- The crossing told from side f on. -/
def turn (x : Cr) (f : Nat) : Cr := ⟨x.arc (f % 4), x.arc ((f + 1) % 4), x.arc ((f + 2) % 4), x.arc ((f + 3) % 4), x.plus⟩

set_option maxHeartbeats 2000000 in
set_option maxRecDepth 100000 in
theorem crossOf_any (x : Cr) (w : World) :
    Calls Tryd.prog 53 #[.agg #[.int .i64 x.a, .int .i64 x.b, .int .i64 x.c, .int .i64 x.d], .bool x.plus] w fun e w' => e = .returned (.agg #[.int .i64 x.a, .int .i64 x.b, .int .i64 x.c, .int .i64 x.d, .bool x.plus]) ∧ Below w.heap.size w w' := by
  go_enter Tryd.func53, Tryd.ntmps53
  go_wp2
  exact bodyPost_ret (v := .agg #[.int .i64 x.a, .int .i64 x.b, .int .i64 x.c, .int .i64 x.d, .bool x.plus]) (by simp [results, Tryd.results53, go_sem]) rfl ⟨rfl, below2 _ _ _⟩

/-- Four numbers as cells. -/
def intArr (l : List Int) : Array Value := (l.map fun x => Value.int .i64 x).toArray
theorem intArr_set (l : List Int) (p : Nat) (z : Int) : (intArr l).setIfInBounds p (.int .i64 z) = intArr (l.set p z) := by
  simp [intArr, List.map_set]
theorem intArr_get (l : List Int) (p : Nat) (h : p < l.length) : (intArr l)[p]? = some (.int .i64 (l.getD p 0)) := by
  simp [intArr, List.getD, h]
/-- The turned crossing's arcs behind k sides. -/
def arrTo (x : Cr) (f k : Nat) : List Int := (List.range 4).map fun j => if (j + f) % 4 < k then x.arc ((j + f) % 4) else 0
theorem arrTo_len (x : Cr) (f k : Nat) : (arrTo x f k).length = 4 := by simp [arrTo]
theorem arrTo_next (x : Cr) (f k p : Nat) (hp : p < 4) (h : (p + f) % 4 = k) : (arrTo x f k).set p (x.arc k) = arrTo x f (k + 1) := by
  apply List.ext_getElem?
  intro i
  rw [List.getElem?_set]
  by_cases hi : i < 4
  · by_cases e : p = i
    · subst e
      simp [arrTo, hi, h]
    · rw [if_neg e]
      have hne : (i + f) % 4 ≠ k := by omega
      simp only [arrTo, List.getElem?_map, List.getElem?_range hi, Option.map_some]
      congr 1
      by_cases h2 : (i + f) % 4 < k
      · rw [if_pos h2, if_pos (by omega)]
      · rw [if_neg h2, if_neg (by omega)]
  · rw [List.getElem?_eq_none (by rw [arrTo_len]; omega), List.getElem?_eq_none (by rw [arrTo_len]; omega)]
    split
    · next e => rw [if_neg (by rw [arrTo_len]; omega)]
    · rfl
theorem arrTo_zero (x : Cr) (f : Nat) : arrTo x f 0 = [0, 0, 0, 0] := by simp [arrTo, List.range_succ]
theorem arrTo_four (x : Cr) (f : Nat) : intArr (arrTo x f 4) = #[.int .i64 (turn x f).a, .int .i64 (turn x f).b, .int .i64 (turn x f).c, .int .i64 (turn x f).d] := by
  have h0 : f % 4 < 4 := Nat.mod_lt _ (by omega)
  simp [arrTo, intArr, turn, List.range_succ, h0, Nat.add_comm]
  exact ⟨fun h => by omega, fun h => by omega, fun h => by omega⟩

set_option maxHeartbeats 4000000 in
set_option maxRecDepth 100000 in
theorem turned_any (x : Cr) (f : Nat) (w : World) (hf : f < 4) :
    Calls Tryd.prog 44 #[.agg #[.int .i64 x.a, .int .i64 x.b, .int .i64 x.c, .int .i64 x.d, .bool x.plus], .int .i64 (f : Nat)] w fun e w' => e = .returned (.agg #[.int .i64 (turn x f).a, .int .i64 (turn x f).b, .int .i64 (turn x f).c, .int .i64 (turn x f).d, .bool x.plus]) ∧ Below w.heap.size w w' := by
  obtain ⟨w0, hw0⟩ : ∃ w0, w0 = ((w.alloc (.cells #[.int .i64 x.a, .int .i64 x.b, .int .i64 x.c, .int .i64 x.d, .bool x.plus] 79)).alloc (.cells #[.int .i64 0, .int .i64 0, .int .i64 0, .int .i64 0, .bool false] 79)).alloc (.cells #[.int .i64 0, .int .i64 0, .int .i64 0, .int .i64 0] 75) := ⟨_, rfl⟩
  have HW0 : Hid (w0 = ((w.alloc (.cells #[.int .i64 x.a, .int .i64 x.b, .int .i64 x.c, .int .i64 x.d, .bool x.plus] 79)).alloc (.cells #[.int .i64 0, .int .i64 0, .int .i64 0, .int .i64 0, .bool false] 79)).alloc (.cells #[.int .i64 0, .int .i64 0, .int .i64 0, .int .i64 0] 75)) := hw0
  have hs0 : w0.heap.size = w.heap.size + 3 := by rw [hw0]; simp
  have HB0 : Hid (Below w.heap.size w w0) := (by rw [hw0]; exact below3 _ _ _ _ : Below w.heap.size w w0)
  have HT0 : Hid (w0.heap[w.heap.size]? = some (.cells #[.int .i64 x.a, .int .i64 x.b, .int .i64 x.c, .int .i64 x.d, .bool x.plus] 79 (0, 0))) := (by rw [hw0]; exact alloc_old (alloc_old (alloc_at rfl)) : w0.heap[w.heap.size]? = some (.cells #[.int .i64 x.a, .int .i64 x.b, .int .i64 x.c, .int .i64 x.d, .bool x.plus] 79 (0, 0)))
  have HT1 : Hid (w0.heap[w.heap.size + 1]? = some (.cells #[.int .i64 0, .int .i64 0, .int .i64 0, .int .i64 0, .bool false] 79 (0, 0))) := (by rw [hw0]; exact alloc_old (alloc_at (by simp)) : w0.heap[w.heap.size + 1]? = some (.cells #[.int .i64 0, .int .i64 0, .int .i64 0, .int .i64 0, .bool false] 79 (0, 0)))
  have HT2 : Hid (w0.heap[w.heap.size + 1 + 1]? = some (.cells (intArr (arrTo x f 0)) 75 (0, 0))) := (by rw [hw0, arrTo_zero]; exact alloc_at (by simp) : w0.heap[w.heap.size + 1 + 1]? = some (.cells (intArr (arrTo x f 0)) 75 (0, 0)))
  clear hw0
  go_enter Tryd.func44, Tryd.ntmps44
  go_wp2_with (go_at_call 35; rw [← HW0.out]; refine (arcs_any x _).mono ?_; rintro e9 w1 ⟨rfl, hb1⟩; refine Hid.out ?_)
  refine Lib.hid ?_
  have HB1 : Hid (Below w0.heap.size w0 w1) := hb1
  have hs1 := hb1.size
  have HA1 : Hid (w1.heap[w.heap.size + 1 + 1]? = some (.cells (intArr (arrTo x f 0)) 75 (0, 0))) := (hb1.block _ (by omega)).trans HT2.out
  have HC1 : Hid (w1.heap[w.heap.size]? = some (.cells #[.int .i64 x.a, .int .i64 x.b, .int .i64 x.c, .int .i64 x.d, .bool x.plus] 79 (0, 0))) := (hb1.block _ (by omega)).trans HT0.out
  have HR1 : Hid (w1.heap[w.heap.size + 1]? = some (.cells #[.int .i64 0, .int .i64 0, .int .i64 0, .int .i64 0, .bool false] 79 (0, 0))) := (hb1.block _ (by omega)).trans HT1.out
  clear hb1
  go_wp2
  go_loopw [10] (fun v10 wr => ∃ k : Nat, k ≤ 4 ∧ v10 = .int .i64 (k : Nat) ∧ Hid (wr.heap[w.heap.size + 1 + 1]? = some (.cells (intArr (arrTo x f k)) 75 (0, 0))) ∧ w1.grownBy wr (some (w.heap.size + 1 + 1))) (fun v10 _ => 4 - (intOf v10).toNat)
  case atStart => exact ⟨0, Nat.zero_le _, rfl, HA1.out, World.grownBy.refl _ _⟩
  case round =>
    rename World => W1
    obtain ⟨k, hk, rfl, hA, hg⟩ := hrel
    have hsz := hg.size
    by_cases hkl : k < 4
    · have hix := index_arr x k hkl
      obtain ⟨p, hp⟩ : ∃ p : Nat, p = (k + 4 - f) % 4 := ⟨_, rfl⟩
      have hp4 : p < 4 := by omega
      have HPK : Hid ((p + f) % 4 = k) := (by omega : (p + f) % 4 = k)
      have q1 : IntKind.i64.wrap ((k : Int) + 4) = (k : Int) + 4 := IntWalk.i64_in _ (by omega)
      have q2 : IntKind.i64.wrap ((k : Int) + 4 - (f : Int)) = (k : Int) + 4 - (f : Int) := IntWalk.i64_in _ (by omega)
      have q3 : ((k : Int) + 4 - (f : Int)).tmod 4 = (p : Int) := by rw [Int.tmod_eq_emod_of_nonneg (by omega)]; omega
      clear hp
      have hl : p < (arrTo x f k).length := by rw [arrTo_len]; exact hp4
      have e0 : W1.cell? ⟨w.heap.size + 1 + 1, p, none⟩ = some (.int .i64 ((arrTo x f k).getD p 0)) := block_cell hA.out (intArr_get _ p hl)
      have z0 : W1.frozen? ⟨w.heap.size + 1 + 1, p, none⟩ = false := block_frozen hA.out
      have hlt : w.heap.size + 1 + 1 < W1.heap.size := by omega
      have HNX : Hid ((W1.setCell ⟨w.heap.size + 1 + 1, p, none⟩ (.int .i64 (x.arc k))).heap[w.heap.size + 1 + 1]? = some (.cells (intArr (arrTo x f (k + 1))) 75 (0, 0))) := (by
        rw [← arrTo_next x f k p hp4 HPK.out, ← intArr_set]
        exact set_block hA.out : (W1.setCell ⟨w.heap.size + 1 + 1, p, none⟩ (.int .i64 (x.arc k))).heap[w.heap.size + 1 + 1]? = some (.cells (intArr (arrTo x f (k + 1))) 75 (0, 0)))
      generalize (arrTo x f k).getD p 0 = u at e0
      clear hl
      go_wp2
      go_roundw
      case rel => exact ⟨k + 1, by omega, by go_num, HNX.out, grown_trans hg (set_grown _ _ _ _)⟩
      case measure => simp only [intOf]; omega
    · obtain rfl : k = 4 := by omega
      have hA4 := hA.out
      rw [arrTo_four] at hA4
      have hC := (hg.block _ (by omega) (fun e => by have := Option.some.inj e; omega)).trans HC1.out
      have hR := (hg.block _ (by omega) (fun e => by have := Option.some.inj e; omega)).trans HR1.out
      have HR : Hid (W1.heap[w.heap.size + 1]? = some (.cells #[.int .i64 0, .int .i64 0, .int .i64 0, .int .i64 0, .bool false] 79 (0, 0))) := hR
      have a0 : W1.cell? ⟨w.heap.size + 1 + 1, 0, none⟩ = some (.int .i64 (turn x f).a) := block_cell hA4 rfl
      have a1 : W1.cell? ⟨w.heap.size + 1 + 1, 1, none⟩ = some (.int .i64 (turn x f).b) := block_cell hA4 rfl
      have a2 : W1.cell? ⟨w.heap.size + 1 + 1, 2, none⟩ = some (.int .i64 (turn x f).c) := block_cell hA4 rfl
      have a3 : W1.cell? ⟨w.heap.size + 1 + 1, 3, none⟩ = some (.int .i64 (turn x f).d) := block_cell hA4 rfl
      have a4 : W1.cell? ⟨w.heap.size, 4, none⟩ = some (.bool x.plus) := block_cell hC rfl
      have hlt : w.heap.size + 1 + 1 < W1.heap.size := by omega
      have HG : Hid (w1.grownBy W1 (some (w.heap.size + 1 + 1))) := hg
      have hpl : (turn x f).plus = x.plus := rfl
      clear hA4 hC hR hA hg
      go_wp2_with (go_at_call 53; refine (crossOf_any (turn x f) _).mono ?_; rintro e9 w4 ⟨rfl, hb4⟩; refine Hid.out ?_)
      refine Lib.hid ?_
      have HR4 : Hid (w4.heap[w.heap.size + 1]? = some (.cells #[.int .i64 0, .int .i64 0, .int .i64 0, .int .i64 0, .bool false] 79 (0, 0))) := (hb4.block _ (by omega)).trans HR.out
      have HB4 : Hid (Below w.heap.size w w4) := ((HB0.out.trans (HB1.out.mono (by omega))).grown HG.out (by omega) (fun q hq => by have := Option.some.inj hq; omega)).trans (hb4.mono (by omega))
      have hs4 := hb4.size
      clear hb4 a0 a1 a2 a3 a4
      have r0 : w4.cell? ⟨w.heap.size + 1, 0, none⟩ = some (.int .i64 0) := block_cell HR4.out rfl
      have r1 : w4.cell? ⟨w.heap.size + 1, 1, none⟩ = some (.int .i64 0) := block_cell HR4.out rfl
      have r2 : w4.cell? ⟨w.heap.size + 1, 2, none⟩ = some (.int .i64 0) := block_cell HR4.out rfl
      have r3 : w4.cell? ⟨w.heap.size + 1, 3, none⟩ = some (.int .i64 0) := block_cell HR4.out rfl
      have r4 : w4.cell? ⟨w.heap.size + 1, 4, none⟩ = some (.bool false) := block_cell HR4.out rfl
      have f0 : w4.frozen? ⟨w.heap.size + 1, 0, none⟩ = false := block_frozen HR4.out
      have f1 : w4.frozen? ⟨w.heap.size + 1, 1, none⟩ = false := block_frozen HR4.out
      have f2 : w4.frozen? ⟨w.heap.size + 1, 2, none⟩ = false := block_frozen HR4.out
      have f3 : w4.frozen? ⟨w.heap.size + 1, 3, none⟩ = false := block_frozen HR4.out
      have f4 : w4.frozen? ⟨w.heap.size + 1, 4, none⟩ = false := block_frozen HR4.out
      go_wp2
      have hX := set_block (i := 4) (u := .bool x.plus) (set_block (i := 3) (u := .int .i64 (turn x f).d) (set_block (i := 2) (u := .int .i64 (turn x f).c) (set_block (i := 1) (u := .int .i64 (turn x f).b) (set_block (i := 0) (u := .int .i64 (turn x f).a) HR4.out))))
      have x0 := block_cell (i := 0) (v := .int .i64 (turn x f).a) hX rfl
      have x1 := block_cell (i := 1) (v := .int .i64 (turn x f).b) hX rfl
      have x2 := block_cell (i := 2) (v := .int .i64 (turn x f).c) hX rfl
      have x3 := block_cell (i := 3) (v := .int .i64 (turn x f).d) hX rfl
      have x4 := block_cell (i := 4) (v := .bool x.plus) hX rfl
      refine bodyPost_ret (v := .agg #[.int .i64 (turn x f).a, .int .i64 (turn x f).b, .int .i64 (turn x f).c, .int .i64 (turn x f).d, .bool x.plus]) (by simp [results, Tryd.results44, go_sem, x0, x1, x2, x3, x4]) rfl ⟨rfl, ?_⟩
      have hst : ∀ (W : World) (u : Value) (i : Nat), Below w.heap.size w W → Below w.heap.size w (W.setCell ⟨w.heap.size + 1, i, none⟩ u) := fun W u i h => h.grown (set_grown W (w.heap.size + 1) i u) h.size (fun q hq => by have := Option.some.inj hq; omega)
      exact hst _ _ _ (hst _ _ _ (hst _ _ _ (hst _ _ _ (hst _ _ _ HB4.out))))
end Go.Proofs.YtnlcknlodjjdbaaDoor
/- A crossing is stored whole into a row. -/
namespace Go.Proofs.YtnlcknlodjjdbaaDoor
open Go.RowKit

theorem cells_setR (C : List Cr) (i : Nat) (hi : i < C.length) (r : Nat) (hr : r < 5) (v : Value) (x : Cr) (hx : (crossCells [C.getD i Cr.none]).set r v = crossCells [x]) : (crossCells C).set (i * 5 + r) v = crossCells (C.set i x) := by
  induction C generalizing i with
  | nil => simp at hi
  | cons t l ih =>
    have e : ∀ y : Cr, ∀ m : List Cr, crossCells (y :: m) = crossCells [y] ++ crossCells m := fun y m => by simp [crossCells]
    have el : (crossCells [t]).length = 5 := by simp [crossCells]
    cases i with
    | zero =>
      rw [List.set_cons_zero, e t l, e x l, Nat.zero_mul, Nat.zero_add, List.set_append_left _ _ (by rw [el]; exact hr)]
      rw [show (t :: l).getD 0 Cr.none = t from rfl] at hx
      rw [hx]
    | succ i =>
      rw [List.set_cons_succ, e t l, e t (l.set i x), List.set_append_right _ _ (by rw [el]; omega), el, show (i + 1) * 5 + r - 5 = i * 5 + r by omega]
      rw [ih i (by simpa using hi) (by simpa using hx)]
theorem crs_set_atR (Cs : List Cr) (c : Nat) (y : Cr) (hc : c < Cs.length) : (Cs.set c y).getD c Cr.none = y := by
  rw [List.getD_eq_getElem?_getD, List.getElem?_set_self hc, Option.getD_some]
theorem put5R {w : World} {B n g cap c : Nat} {Cs : List Cr} (h : w.ownsRow B 79 5 (.slice (some ⟨g, 0, none⟩) n cap) n (crossCells Cs)) (hc : c < Cs.length) (y : Cr) :
    (((((w.setCell ⟨g, c * 5, none⟩ (.int .i64 y.a)).setCell ⟨g, c * 5 + 1, none⟩ (.int .i64 y.b)).setCell ⟨g, c * 5 + 2, none⟩ (.int .i64 y.c)).setCell ⟨g, c * 5 + 3, none⟩ (.int .i64 y.d)).setCell ⟨g, c * 5 + 4, none⟩ (.bool y.plus)).ownsRow B 79 5 (.slice (some ⟨g, 0, none⟩) n cap) n (crossCells (Cs.set c y)) ∧
    w.grownBy (((((w.setCell ⟨g, c * 5, none⟩ (.int .i64 y.a)).setCell ⟨g, c * 5 + 1, none⟩ (.int .i64 y.b)).setCell ⟨g, c * 5 + 2, none⟩ (.int .i64 y.c)).setCell ⟨g, c * 5 + 3, none⟩ (.int .i64 y.d)).setCell ⟨g, c * 5 + 4, none⟩ (.bool y.plus)) (some g) := by
  obtain ⟨x, hx⟩ : ∃ x, Cs.getD c Cr.none = x := ⟨_, rfl⟩
  have h0 := h.stored (c * 5) (.int .i64 y.a)
  have e0 := cells_setR Cs c hc 0 (by omega) (.int .i64 y.a) ⟨y.a, x.b, x.c, x.d, x.plus⟩ (by rw [hx]; rfl)
  rw [Nat.add_zero] at e0
  rw [e0] at h0
  have h1 := h0.1.stored (c * 5 + 1) (.int .i64 y.b)
  rw [cells_setR _ c (by simpa using hc) 1 (by omega) (.int .i64 y.b) ⟨y.a, y.b, x.c, x.d, x.plus⟩ (by rw [crs_set_atR _ _ _ hc]; rfl), List.set_set] at h1
  have h2 := h1.1.stored (c * 5 + 2) (.int .i64 y.c)
  rw [cells_setR _ c (by simpa using hc) 2 (by omega) (.int .i64 y.c) ⟨y.a, y.b, y.c, x.d, x.plus⟩ (by rw [crs_set_atR _ _ _ hc]; rfl), List.set_set] at h2
  have h3 := h2.1.stored (c * 5 + 3) (.int .i64 y.d)
  rw [cells_setR _ c (by simpa using hc) 3 (by omega) (.int .i64 y.d) ⟨y.a, y.b, y.c, y.d, x.plus⟩ (by rw [crs_set_atR _ _ _ hc]; rfl), List.set_set] at h3
  have h4 := h3.1.stored (c * 5 + 4) (.bool y.plus)
  rw [cells_setR _ c (by simpa using hc) 4 (by omega) (.bool y.plus) y (by rw [crs_set_atR _ _ _ hc]; rfl), List.set_set] at h4
  exact ⟨h4.1, grown_trans (grown_trans (grown_trans (grown_trans h0.2 h1.2) h2.2) h3.2) h4.2⟩
/-- A crossing is laid whole. -/
def st5R (w : World) (g c : Nat) (y : Cr) : World := ((((w.setCell ⟨g, c * 5, none⟩ (.int .i64 y.a)).setCell ⟨g, c * 5 + 1, none⟩ (.int .i64 y.b)).setCell ⟨g, c * 5 + 2, none⟩ (.int .i64 y.c)).setCell ⟨g, c * 5 + 3, none⟩ (.int .i64 y.d)).setCell ⟨g, c * 5 + 4, none⟩ (.bool y.plus)
end Go.Proofs.YtnlcknlodjjdbaaDoor

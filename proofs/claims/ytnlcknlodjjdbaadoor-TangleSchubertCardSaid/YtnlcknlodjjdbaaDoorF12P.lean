/- Several texts of the proof, one behind the other. -/
import Derived.Test.YtnlcknlodjjdbaaDoorF8P
import Derived.Test.YtnlcknlodjjdbaaDoorF1P
/- The walks of code.May, code.Faces and code.Planar. -/
namespace Go.Proofs.YtnlcknlodjjdbaaDoor
open Go.RowKit

theorem DartsOwn.any {w w' : World} {B : Nat} {v : Value} {L : List (List Nat)} (h : DartsOwn w B v L) (hg : w.grownBy w' none) : DartsOwn w' B v L := by
  obtain ⟨ys, h1, h2, h3⟩ := h
  exact ⟨ys, h1, own_any h2 hg, fun j hj => own_any (h3 j hj) hg⟩

end Go.Proofs.YtnlcknlodjjdbaaDoor
/- The walks of drawing.Flat and of ref.PlanarMay. -/
namespace Go.Proofs.YtnlcknlodjjdbaaDoor
open Go.RowKit

/-- What is wrong with a diagram that shall lie on a sphere. -/
def noN (C : List Cr) (loops : Int) : Int := if mayD C loops = true then (if planarB C = true then 0 else 5) else 7

theorem Drawn.dr2 {w w' : World} {a : Option Addr} {cap : Nat} {loops : Int} {C : List Cr} {D : Value} (h : Drawn w w' w.heap.size (.slice a C.length cap) loops C D) (hm : mayD C loops = true) (hb : Below w.heap.size w w') (hC : Crs w w.heap.size (.slice a C.length cap) C) :
    ∃ gF cF gT cT, D = drV a cap C loops gF cF gT cT ∧ Dr w' a cap C gF gT ∧ w'.ownsRow w.heap.size 67 2 (.slice (some ⟨gF, 0, none⟩) (2 * C.length + 1) cF) (2 * C.length + 1) (flat (ends C false C.length 0)) ∧
    w'.ownsRow w.heap.size 67 2 (.slice (some ⟨gT, 0, none⟩) (2 * C.length + 1) cT) (2 * C.length + 1) (flat (ends C true C.length 0)) := by
  obtain ⟨gF, cF, gT, cT, rfl, h1, h2⟩ := h.yes hm
  exact ⟨gF, cF, gT, cT, rfl, ⟨hC.up hb, (h1.lt gF rfl).2, (h2.lt gT rfl).2, own_terms h1 (ends_length _ _ _ _), own_terms h2 (ends_length _ _ _ _)⟩, h1, h2⟩

set_option maxHeartbeats 4000000 in
set_option maxRecDepth 100000 in
theorem flat_yesB (hFR : FaceRingsOk) (a : Option Addr) (cap : Nat) (C : List Cr) (loops : Int) (w : World) (hm : mayD C loops = true) (hp : planarB C = true) (h : Crs w w.heap.size (.slice a C.length cap) C) :
    Calls Tryd.prog 31 #[.agg #[.slice a C.length cap, .int .i64 loops]] w fun e w' => ∃ gF cF gT cT, e = .returned (.tuple #[drV a cap C loops gF cF gT cT, .int .i64 0]) ∧ (Dr w' a cap C gF gT ∧ w.heap.size ≤ gF ∧ w.heap.size ≤ gT) ∧ Below w.heap.size w w' := by
  have HC : Hid (Crs w w.heap.size (.slice a C.length cap) C) := h
  have HFA : Hid FaceRingsOk := hFR
  have HM : Hid (mayD C loops = true) := hm
  have HP : Hid (planarB C = true) := hp
  have HB1 : Hid (Below w.heap.size w ((w.alloc (.cells #[.slice a C.length cap, .int .i64 loops] 32)).alloc (.cells #[.slice none 0 0, .int .i64 0, .slice none 0 0, .slice none 0 0] 50))) := below2 _ _ _
  go_enter Tryd.func31, Tryd.ntmps31
  go_wp2_with (go_at_call 45; refine (of_any _ C loops _ (HC.out.up HB1.out)).mono ?_; rw [hm]; rintro e9 w2 ⟨d, rfl, hb2, hd⟩; obtain ⟨gF, cF, gT, cT, rfl, hdr, hF, hT⟩ := hd.dr2 HM.out hb2 (HC.out.up HB1.out); refine Hid.out ?_)
  refine Lib.hid ?_
  have HDR : Hid (Dr w2 a cap C gF gT) := hdr
  have HF : Hid (w2.ownsRow (w.heap.size + 2) 67 2 (.slice (some ⟨gF, 0, none⟩) (2 * C.length + 1) cF) (2 * C.length + 1) (flat (ends C false C.length 0))) := own_low hF (by simp)
  have HT : Hid (w2.ownsRow (w.heap.size + 2) 67 2 (.slice (some ⟨gT, 0, none⟩) (2 * C.length + 1) cT) (2 * C.length + 1) (flat (ends C true C.length 0))) := own_low hT (by simp)
  unfold drV
  have HB2 : Hid (Below w.heap.size w w2) := HB1.out.trans (hb2.mono (by simp; omega))
  have hR : w2.heap[w.heap.size + 1]? = some (.cells #[.slice none 0 0, .int .i64 0, .slice none 0 0, .slice none 0 0] 50 (0, 0)) := (hb2.block _ (by simp)).trans (alloc_at (by simp))
  have hs2 : w.heap.size + 2 ≤ w2.heap.size := by have := hb2.size; simpa using this
  have HR : Hid (w2.heap[w.heap.size + 1]? = some (.cells #[.slice none 0 0, .int .i64 0, .slice none 0 0, .slice none 0 0] 50 (0, 0))) := hR
  have HBA : Hid (Below w2.heap.size w2 (w2.alloc (.cells #[.slice a C.length cap, .int .i64 loops, .slice (some ⟨gF, 0, none⟩) (2 * C.length + 1) cF, .slice (some ⟨gT, 0, none⟩) (2 * C.length + 1) cT] 50))) := (Below.refl _ _).alloc (Nat.le_refl _) _
  clear hb2 hd hdr hm hR hp hF hT
  go_wp2_with (go_at_call 46; refine (onSphere_any HFA.out a cap C loops gF cF gT cT _ HM.out (HDR.out.on HBA.out)).mono ?_; rw [HP.out]; rintro e9 w3 ⟨rfl, hb3⟩; refine Hid.out ?_)
  refine Lib.hid ?_
  have HB23 : Hid (Below w2.heap.size w2 w3) := HBA.out.trans (hb3.mono (by simp))
  have HB3 : Hid (Below w.heap.size w w3) := HB2.out.trans (HB23.out.mono HB2.out.size)
  have hR : w3.heap[w.heap.size + 1]? = some (.cells #[.slice none 0 0, .int .i64 0, .slice none 0 0, .slice none 0 0] 50 (0, 0)) := (HB23.out.block _ (by omega)).trans HR.out
  have hQ : w3.heap[w2.heap.size]? = some (.cells #[.slice a C.length cap, .int .i64 loops, .slice (some ⟨gF, 0, none⟩) (2 * C.length + 1) cF, .slice (some ⟨gT, 0, none⟩) (2 * C.length + 1) cT] 50 (0, 0)) := (hb3.block _ (by simp)).trans (alloc_at rfl)
  have hs3 : w2.heap.size + 1 ≤ w3.heap.size := by have := hb3.size; simpa using this
  have HR3 : Hid (w3.heap[w.heap.size + 1]? = some (.cells #[.slice none 0 0, .int .i64 0, .slice none 0 0, .slice none 0 0] 50 (0, 0))) := hR
  have c0 : w3.cell? ⟨w.heap.size + 1, 0, none⟩ = some (.slice none 0 0) := block_cell hR rfl
  have c1 : w3.cell? ⟨w.heap.size + 1, 1, none⟩ = some (.int .i64 0) := block_cell hR rfl
  have c2 : w3.cell? ⟨w.heap.size + 1, 2, none⟩ = some (.slice none 0 0) := block_cell hR rfl
  have c3 : w3.cell? ⟨w.heap.size + 1, 3, none⟩ = some (.slice none 0 0) := block_cell hR rfl
  have f0 : w3.frozen? ⟨w.heap.size + 1, 0, none⟩ = false := block_frozen hR
  have f1 : w3.frozen? ⟨w.heap.size + 1, 1, none⟩ = false := block_frozen hR
  have f2 : w3.frozen? ⟨w.heap.size + 1, 2, none⟩ = false := block_frozen hR
  have f3 : w3.frozen? ⟨w.heap.size + 1, 3, none⟩ = false := block_frozen hR
  have d0 : w3.cell? ⟨w2.heap.size, 0, none⟩ = some (.slice a C.length cap) := block_cell hQ rfl
  have d1 : w3.cell? ⟨w2.heap.size, 1, none⟩ = some (.int .i64 loops) := block_cell hQ rfl
  have d2 : w3.cell? ⟨w2.heap.size, 2, none⟩ = some (.slice (some ⟨gF, 0, none⟩) (2 * C.length + 1) cF) := block_cell hQ rfl
  have d3 : w3.cell? ⟨w2.heap.size, 3, none⟩ = some (.slice (some ⟨gT, 0, none⟩) (2 * C.length + 1) cT) := block_cell hQ rfl
  have l2 : w.heap.size + 1 < w3.heap.size := by omega
  have l3 : w2.heap.size < w3.heap.size := by omega
  clear hb3 hR hQ
  go_wp2
  have hG := st4_grown w3 (w.heap.size + 1) (.slice a C.length cap) (.int .i64 loops) (.slice (some ⟨gF, 0, none⟩) (2 * C.length + 1) cF) (.slice (some ⟨gT, 0, none⟩) (2 * C.length + 1) cT)
  have hX := st4_block (a := .slice a C.length cap) (b := .int .i64 loops) (c := .slice (some ⟨gF, 0, none⟩) (2 * C.length + 1) cF) (d := .slice (some ⟨gT, 0, none⟩) (2 * C.length + 1) cT) HR3.out
  have x0 := block_cell (i := 0) (v := .slice a C.length cap) hX rfl
  have x1 := block_cell (i := 1) (v := .int .i64 loops) hX rfl
  have x2 := block_cell (i := 2) (v := .slice (some ⟨gF, 0, none⟩) (2 * C.length + 1) cF) hX rfl
  have x3 := block_cell (i := 3) (v := .slice (some ⟨gT, 0, none⟩) (2 * C.length + 1) cT) hX rfl
  have hbb := HB3.out.grown hG HB3.out.size (fun k hk => by have := Option.some.inj hk; omega)
  unfold st4 at x0 x1 x2 x3
  refine bodyPost_ret (v := .tuple #[.agg #[.slice a C.length cap, .int .i64 loops, .slice (some ⟨gF, 0, none⟩) (2 * C.length + 1) cF, .slice (some ⟨gT, 0, none⟩) (2 * C.length + 1) cT], .int .i64 0]) (by simp [results, Tryd.results31, go_sem, x0, x1, x2, x3]) rfl ⟨gF, cF, gT, cT, rfl, ⟨?_, by have h1 := (HF.out.lt gF rfl).1; omega, by have h1 := (HT.out.lt gT rfl).1; omega⟩, hbb⟩
  have hn := grown_below HB23.out none
  have gF2 := (own_any HF.out hn).kept hG (Or.inr (fun e => by have h1 := (HF.out.lt gF rfl).1; have h2 : gF = w.heap.size + 1 := Option.some.inj e; omega))
  have gT2 := (own_any HT.out hn).kept hG (Or.inr (fun e => by have h1 := (HT.out.lt gT rfl).1; have h2 : gT = w.heap.size + 1 := Option.some.inj e; omega))
  exact ⟨HC.out.up hbb, (gF2.lt gF rfl).2, (gT2.lt gT rfl).2, own_terms gF2 (ends_length _ _ _ _), own_terms gT2 (ends_length _ _ _ _)⟩
theorem flat_yes (hFR : FaceRingsOk) (v : Value) (C : List Cr) (loops : Int) (w : World) (hm : mayD C loops = true) (hp : planarB C = true) (h : Crs w w.heap.size v C) :
    Calls Tryd.prog 31 #[.agg #[v, .int .i64 loops]] w fun e w' => ∃ a cap gF cF gT cT, e = .returned (.tuple #[drV a cap C loops gF cF gT cT, .int .i64 0]) ∧ Dr w' a cap C gF gT ∧ Below w.heap.size w w' := by
  obtain ⟨a, cap, rfl, -, -⟩ := id h
  exact (flat_yesB hFR a cap C loops w hm hp h).mono fun e w' ⟨gF, cF, gT, cT, he, hd, hb⟩ => ⟨a, cap, gF, cF, gT, cT, he, hd.1, hb⟩

theorem noN_zero {C : List Cr} {loops : Int} (h : noN C loops = 0) : mayD C loops = true ∧ planarB C = true := by
  unfold noN at h
  by_cases hm : mayD C loops = true
  · rw [if_pos hm] at h
    by_cases hp : planarB C = true
    · exact ⟨hm, hp⟩
    · rw [if_neg hp] at h; omega
  · rw [if_neg hm] at h; omega
end Go.Proofs.YtnlcknlodjjdbaaDoor
/- The walks of wind.sign, ref.signOf, wind.Writhe and ref.WritheOf. -/
namespace Go.Proofs.YtnlcknlodjjdbaaDoor
open Go.RowKit

/-- A sign as a number. -/
def sgn (p : Bool) : Int := if p = true then 1 else -1
theorem sgn_bound (p : Bool) : sgn p = 1 ∨ sgn p = -1 := by cases p <;> simp [sgn]
/-- The signs of the first k crossings. -/
def wrM (C : List Cr) : Nat → Int
  | 0 => 0
  | k + 1 => wrM C k + sgn (C.getD k Cr.none).plus
theorem wrM_bound (C : List Cr) (k : Nat) : -(k : Int) ≤ wrM C k ∧ wrM C k ≤ (k : Int) := by
  induction k with
  | zero => simp [wrM]
  | succ k ih =>
    have := sgn_bound (C.getD k Cr.none).plus
    simp only [wrM]
    omega

set_option maxHeartbeats 2000000 in
set_option maxRecDepth 100000 in
theorem signW_any (x : Cr) (w : World) :
    Calls Tryd.prog 32 #[.agg #[.int .i64 x.a, .int .i64 x.b, .int .i64 x.c, .int .i64 x.d, .bool x.plus]] w fun e w' => e = .returned (.int .i64 (sgn x.plus)) ∧ Below w.heap.size w w' := by
  obtain ⟨xa, xb, xc, xd, xp⟩ := x
  cases xp <;>
  · go_enter Tryd.func32, Tryd.ntmps32
    go_wp2
    go_ret
    exact ⟨rfl, (Below.refl _ _).alloc (Nat.le_refl _) _⟩

set_option maxHeartbeats 4000000 in
set_option maxRecDepth 100000 in
theorem writhe_yes (hFR : FaceRingsOk) (v : Value) (C : List Cr) (loops : Int) (w : World) (hn : noN C loops = 0) (h : Crs w w.heap.size v C) :
    Calls Tryd.prog 18 #[.agg #[v, .int .i64 loops]] w fun e w' => e = .returned (.tuple #[.int .i64 (wrM C C.length), .int .i64 0]) ∧ Below w.heap.size w w' := by
  have HC : Hid (Crs w w.heap.size v C) := h
  obtain ⟨hm, hp⟩ := noN_zero hn
  have HM : Hid (mayD C loops = true) := hm
  have HP : Hid (planarB C = true) := hp
  have HFA : Hid FaceRingsOk := hFR
  obtain ⟨s1, s2, s3, s4⟩ := sizeB_iff (may_size hm)
  obtain ⟨a, cap, rfl, -, -⟩ := h
  have HB1 : Hid (Below w.heap.size w (w.alloc (.cells #[.slice a C.length cap, .int .i64 loops] 32))) := (Below.refl _ _).alloc (Nat.le_refl _) _
  clear hm hp hn hFR
  go_enter Tryd.func18, Tryd.ntmps18
  go_wp2_with (go_at_call 31; refine (flat_yes HFA.out _ C loops _ HM.out HP.out (HC.out.up HB1.out)).mono ?_; rintro e9 w2 ⟨a', cap', gF, cF, gT, cT, rfl, hdr, hb2⟩; refine Hid.out ?_)
  refine Lib.hid ?_
  have HDR : Hid (Dr w2 a' cap' C gF gT) := hdr
  unfold drV
  have HB2 : Hid (Below w.heap.size w w2) := HB1.out.trans (hb2.mono HB1.out.size)
  have hs2 := HB2.out.size
  have HBA : Hid (Below w2.heap.size w2 (w2.alloc (.cells #[.slice a' C.length cap', .int .i64 loops, .slice (some ⟨gF, 0, none⟩) (2 * C.length + 1) cF, .slice (some ⟨gT, 0, none⟩) (2 * C.length + 1) cT] 50))) := (Below.refl _ _).alloc (Nat.le_refl _) _
  clear hb2 hdr
  go_wp2
  go_loopw [6, 21] (fun v6 v21 wr => ∃ i : Nat, i ≤ C.length ∧ v21 = .int .i64 (i : Nat) ∧ v6 = .int .i64 (wrM C i) ∧ Hid (Below w2.heap.size w2 wr)) (fun _ v21 _ => C.length - (intOf v21).toNat)
  case atStart => exact ⟨0, Nat.zero_le _, rfl, rfl, HBA.out⟩
  case round =>
    rename World => W1
    obtain ⟨i, hin, rfl, rfl, hb⟩ := hrel
    have hsW := hb.out.size
    by_cases hil : i < C.length
    · obtain ⟨b, off, ea, hbw, hC⟩ := HDR.out.cross (by omega)
      obtain rfl := ea
      obtain ⟨e0, e1, e2, e3, e4⟩ := (hC.on hb.out hbw) i hil
      have hbW : b < W1.heap.size := by omega
      have hii : (i : Int) < (C.length : Int) := by omega
      have HWN : Hid (wrM C (i + 1) = wrM C i + sgn (C.getD i Cr.none).plus) := (rfl : wrM C (i + 1) = wrM C i + sgn (C.getD i Cr.none).plus)
      have hwb := wrM_bound C i
      obtain ⟨x, hx⟩ : ∃ x, C.getD i Cr.none = x := ⟨_, rfl⟩
      rw [hx] at HWN e0 e1 e2 e3 e4
      obtain ⟨z, hz⟩ : ∃ z, wrM C i = z := ⟨_, rfl⟩
      rw [hz] at HWN hwb ⊢
      obtain ⟨sg', hsg⟩ : ∃ sg', sgn x.plus = sg' := ⟨_, rfl⟩
      have HSG : Hid (sgn x.plus = sg') := hsg
      have hsb := sgn_bound x.plus
      rw [hsg] at HWN hsb
      have hsb2 : -1 ≤ sg' ∧ sg' ≤ 1 := by omega
      have ew : IntKind.i64.wrap (z + sg') = z + sg' := IntWalk.i64_in _ (by omega)
      clear hx hz hsg hsb hC
      go_wp2_with (go_at_call 32; refine (signW_any x _).mono ?_; rw [HSG.out]; rintro e9 w5 ⟨rfl, hb5⟩; have HB5 : Hid (Below W1.heap.size W1 w5) := ((Below.refl _ _).alloc (Nat.le_refl _) _).trans (hb5.mono (by simp)); clear hb5)
      go_roundw
      case rel => exact ⟨i + 1, by omega, by go_num, by rw [HWN.out], hb.out.trans (HB5.out.mono hsW)⟩
      case measure => simp only [intOf]; omega
    · obtain rfl : i = C.length := by omega
      go_wp2
      go_ret2
      exact ⟨rfl, HB2.out.trans (hb.out.mono hs2)⟩

end Go.Proofs.YtnlcknlodjjdbaaDoor
/- What few says at 12; the walk of bracket.drawn. -/
namespace Go.Proofs.YtnlcknlodjjdbaaDoor
open Go.RowKit

theorem hidS0 {P : Prop} (h : P) : Hid P := h
set_option maxHeartbeats 4000000 in
set_option maxRecDepth 100000 in
theorem drawn_yes (hFR : FaceRingsOk) (a : Option Addr) (cap : Nat) (C : List Cr) (loops : Int) (w : World) (hn : noN C loops = 0) (h12 : C.length ≤ 12) (h : Crs w w.heap.size (.slice a C.length cap) C) :
    Calls Tryd.prog 17 #[.agg #[.slice a C.length cap, .int .i64 loops]] w fun e w' => (∃ gF cF gT cT, e = .returned (.tuple #[drV a cap C loops gF cF gT cT, .int .i64 0])) ∧ Below w.heap.size w w' := by
  have HC : Hid (Crs w w.heap.size (.slice a C.length cap) C) := h
  obtain ⟨hm, hp⟩ := noN_zero hn
  have HF := hidS0 (fun W hW => flat_yesB hFR a cap C loops W hm hp hW)
  have hz1 : decide ((12 : Int) < (C.length : Int)) = false := by simp; omega
  clear hm hp
  have HB1 : Hid (Below w.heap.size w ((w.alloc (.cells #[.slice a C.length cap, .int .i64 loops] 32)).alloc (.cells #[.slice none 0 0, .int .i64 0, .slice none 0 0, .slice none 0 0] 50))) := below2 _ _ _
  go_enter Tryd.func17, Tryd.ntmps17
  go_wp2_with (go_at_call 31; refine (HF.out _ (HC.out.up HB1.out)).mono ?_; rintro e9 w2 ⟨gF, cF, gT, cT, rfl, -, hb2⟩; refine Hid.out ?_)
  refine Lib.hid ?_
  unfold drV
  have HB2 : Hid (Below w.heap.size w w2) := HB1.out.trans (hb2.mono (by simp; omega))
  have hR : w2.heap[w.heap.size + 1]? = some (.cells #[.slice none 0 0, .int .i64 0, .slice none 0 0, .slice none 0 0] 50 (0, 0)) := (hb2.block _ (by simp)).trans (alloc_at (by simp))
  have hs2 : w.heap.size + 2 ≤ w2.heap.size := by have := hb2.size; simpa using this
  have hA : (w2.alloc (.cells #[.slice a C.length cap, .int .i64 loops, .slice (some ⟨gF, 0, none⟩) (2 * C.length + 1) cF, .slice (some ⟨gT, 0, none⟩) (2 * C.length + 1) cT] 50)).heap[w.heap.size + 1]? = some (.cells #[.slice none 0 0, .int .i64 0, .slice none 0 0, .slice none 0 0] 50 (0, 0)) := alloc_old hR
  have HA : Hid ((w2.alloc (.cells #[.slice a C.length cap, .int .i64 loops, .slice (some ⟨gF, 0, none⟩) (2 * C.length + 1) cF, .slice (some ⟨gT, 0, none⟩) (2 * C.length + 1) cT] 50)).heap[w.heap.size + 1]? = some (.cells #[.slice none 0 0, .int .i64 0, .slice none 0 0, .slice none 0 0] 50 (0, 0))) := hA
  have HBA : Hid (Below w.heap.size w (w2.alloc (.cells #[.slice a C.length cap, .int .i64 loops, .slice (some ⟨gF, 0, none⟩) (2 * C.length + 1) cF, .slice (some ⟨gT, 0, none⟩) (2 * C.length + 1) cT] 50))) := HB2.out.alloc HB2.out.size _
  have c0 : (w2.alloc (.cells #[.slice a C.length cap, .int .i64 loops, .slice (some ⟨gF, 0, none⟩) (2 * C.length + 1) cF, .slice (some ⟨gT, 0, none⟩) (2 * C.length + 1) cT] 50)).cell? ⟨w.heap.size + 1, 0, none⟩ = some (.slice none 0 0) := block_cell hA rfl
  have c1 : (w2.alloc (.cells #[.slice a C.length cap, .int .i64 loops, .slice (some ⟨gF, 0, none⟩) (2 * C.length + 1) cF, .slice (some ⟨gT, 0, none⟩) (2 * C.length + 1) cT] 50)).cell? ⟨w.heap.size + 1, 1, none⟩ = some (.int .i64 0) := block_cell hA rfl
  have c2 : (w2.alloc (.cells #[.slice a C.length cap, .int .i64 loops, .slice (some ⟨gF, 0, none⟩) (2 * C.length + 1) cF, .slice (some ⟨gT, 0, none⟩) (2 * C.length + 1) cT] 50)).cell? ⟨w.heap.size + 1, 2, none⟩ = some (.slice none 0 0) := block_cell hA rfl
  have c3 : (w2.alloc (.cells #[.slice a C.length cap, .int .i64 loops, .slice (some ⟨gF, 0, none⟩) (2 * C.length + 1) cF, .slice (some ⟨gT, 0, none⟩) (2 * C.length + 1) cT] 50)).cell? ⟨w.heap.size + 1, 3, none⟩ = some (.slice none 0 0) := block_cell hA rfl
  have f0 : (w2.alloc (.cells #[.slice a C.length cap, .int .i64 loops, .slice (some ⟨gF, 0, none⟩) (2 * C.length + 1) cF, .slice (some ⟨gT, 0, none⟩) (2 * C.length + 1) cT] 50)).frozen? ⟨w.heap.size + 1, 0, none⟩ = false := block_frozen hA
  have f1 : (w2.alloc (.cells #[.slice a C.length cap, .int .i64 loops, .slice (some ⟨gF, 0, none⟩) (2 * C.length + 1) cF, .slice (some ⟨gT, 0, none⟩) (2 * C.length + 1) cT] 50)).frozen? ⟨w.heap.size + 1, 1, none⟩ = false := block_frozen hA
  have f2 : (w2.alloc (.cells #[.slice a C.length cap, .int .i64 loops, .slice (some ⟨gF, 0, none⟩) (2 * C.length + 1) cF, .slice (some ⟨gT, 0, none⟩) (2 * C.length + 1) cT] 50)).frozen? ⟨w.heap.size + 1, 2, none⟩ = false := block_frozen hA
  have f3 : (w2.alloc (.cells #[.slice a C.length cap, .int .i64 loops, .slice (some ⟨gF, 0, none⟩) (2 * C.length + 1) cF, .slice (some ⟨gT, 0, none⟩) (2 * C.length + 1) cT] 50)).frozen? ⟨w.heap.size + 1, 3, none⟩ = false := block_frozen hA
  have hN : (w2.alloc (.cells #[.slice a C.length cap, .int .i64 loops, .slice (some ⟨gF, 0, none⟩) (2 * C.length + 1) cF, .slice (some ⟨gT, 0, none⟩) (2 * C.length + 1) cT] 50)).heap[w2.heap.size]? = some (.cells #[.slice a C.length cap, .int .i64 loops, .slice (some ⟨gF, 0, none⟩) (2 * C.length + 1) cF, .slice (some ⟨gT, 0, none⟩) (2 * C.length + 1) cT] 50 (0, 0)) := alloc_at rfl
  clear hb2 hR hA
  go_wp2
  have hG := st4_grown (w2.alloc (.cells #[.slice a C.length cap, .int .i64 loops, .slice (some ⟨gF, 0, none⟩) (2 * C.length + 1) cF, .slice (some ⟨gT, 0, none⟩) (2 * C.length + 1) cT] 50)) (w.heap.size + 1) (.slice a C.length cap) (.int .i64 loops) (.slice (some ⟨gF, 0, none⟩) (2 * C.length + 1) cF) (.slice (some ⟨gT, 0, none⟩) (2 * C.length + 1) cT)
  have hX := st4_block (a := .slice a C.length cap) (b := .int .i64 loops) (c := .slice (some ⟨gF, 0, none⟩) (2 * C.length + 1) cF) (d := .slice (some ⟨gT, 0, none⟩) (2 * C.length + 1) cT) HA.out
  have x0 := block_cell (i := 0) (v := .slice a C.length cap) hX rfl
  have x1 := block_cell (i := 1) (v := .int .i64 loops) hX rfl
  have x2 := block_cell (i := 2) (v := .slice (some ⟨gF, 0, none⟩) (2 * C.length + 1) cF) hX rfl
  have x3 := block_cell (i := 3) (v := .slice (some ⟨gT, 0, none⟩) (2 * C.length + 1) cT) hX rfl
  have hbb := HBA.out.grown hG HBA.out.size (fun k hk => by have := Option.some.inj hk; omega)
  unfold st4 at x0 x1 x2 x3
  exact bodyPost_ret (v := .tuple #[.agg #[.slice a C.length cap, .int .i64 loops, .slice (some ⟨gF, 0, none⟩) (2 * C.length + 1) cF, .slice (some ⟨gT, 0, none⟩) (2 * C.length + 1) cT], .int .i64 0]) (by simp [results, Tryd.results17, go_sem, x0, x1, x2, x3]) rfl ⟨⟨gF, cF, gT, cT, rfl⟩, hbb⟩

end Go.Proofs.YtnlcknlodjjdbaaDoor

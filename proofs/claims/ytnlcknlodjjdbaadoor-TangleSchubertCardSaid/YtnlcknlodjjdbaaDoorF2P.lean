/- Several texts of the proof, one behind the other. -/
import Derived.Test.YtnlcknlodjjdbaaDoorF1P
import Derived.Deep.Cut
import Derived.Test.YtnlcknlodjjdbaaDoorH7
import Derived.Test.YtnlcknlodjjdbaaDoorTG4P
/- The walks of Drawing.Onward and ref.NextDart. -/
namespace Go.Proofs.YtnlcknlodjjdbaaDoor
open Go.RowKit

set_option maxHeartbeats 4000000 in
set_option maxRecDepth 100000 in
theorem onward_any (a : Option Addr) (cap : Nat) (C : List Cr) (loops : Int) (gF cF gT cT : Nat) (j : Nat) (w : World) (hm : mayD C loops = true) (h1 : 1 ≤ j) (h2 : j ≤ 4 * C.length) (hD : Dr w a cap C gF gT) :
    Calls Tryd.prog 73 #[drV a cap C loops gF cF gT cT, .agg #[.int .i64 (dA j : Nat), .bool (dB j)]] w fun e w' => e = .returned (.agg #[.int .i64 (dA (fd C j) : Nat), .bool (dB (fd C j))]) ∧ Below w.heap.size w w' := by
  have HM : Hid (mayD C loops = true) := hm
  have hA := dA_le h1 h2
  obtain ⟨-, hi, hs⟩ := d_may hm j h1 h2
  obtain ⟨f1, f2, -, -⟩ := fd_may hm j h1 h2
  have HF1 : Hid ((C.getD (dC C j) Cr.none).arc ((dS C j + 3) % 4) = (dA (fd C j) : Int)) := f1
  have HF2 : Hid ((C.getD (dC C j) Cr.none).comes ((dS C j + 3) % 4) = dB (fd C j)) := f2
  obtain ⟨i, hci⟩ : ∃ i, dC C j = i := ⟨_, rfl⟩
  obtain ⟨k, hck⟩ : ∃ k, dS C j = k := ⟨_, rfl⟩
  have HE : Hid (∀ W, Dr W a cap C gF gT → Calls Tryd.prog 58 #[drV a cap C loops gF cF gT cT, .agg #[.int .i64 (dA j : Nat), .bool (dB j)]] W fun e w' => e = .returned (.agg #[.int .i64 (i : Nat), .int .i64 (k : Nat)]) ∧ Below W.heap.size W w') := fun W hW => by
    rw [← hci, ← hck]
    exact end_any a cap C loops gF cF gT cT (dA j) (dB j) W hm hA.1 hA.2 hW
  rw [hci, hck] at HF1 HF2
  rw [hci] at hi
  rw [hck] at hs
  generalize dA (fd C j) = zA at HF1 ⊢
  generalize dB (fd C j) = zB at HF2 ⊢
  obtain ⟨k2, hk2⟩ : ∃ k2 : Nat, k2 = (k + 3) % 4 := ⟨_, rfl⟩
  rw [← hk2] at HF1 HF2
  have e0 : IntKind.i64.wrap ((k : Int) + 4) = (k : Int) + 4 := IntWalk.i64_in _ (by omega)
  have e1 : IntKind.i64.wrap ((k : Int) + 4 - 1) = (k : Int) + 4 - 1 := IntWalk.i64_in _ (by omega)
  have e2 : ((k : Int) + 4 - 1).tmod 4 = (k2 : Int) := by rw [Int.tmod_eq_emod_of_nonneg (by omega)]; omega
  have hk24 : k2 < 4 := by omega
  have HD : Hid (Dr w a cap C gF gT) := hD
  clear hk2 hci hck f1 f2 hm hD
  obtain ⟨b, off, rfl, hbw, hC⟩ := HD.out.cross (by omega)
  have HC : Hid (CrossAt w b off C) := hC
  unfold drV
  unfold drV at HE
  generalize dA j = jA at HE hA ⊢
  generalize dB j = jB at HE ⊢
  obtain ⟨w0, hw0⟩ : ∃ w0, w0 = ((w.alloc (.cells #[.slice (some ⟨b, off, none⟩) C.length cap, .int .i64 loops, .slice (some ⟨gF, 0, none⟩) (2 * C.length + 1) cF, .slice (some ⟨gT, 0, none⟩) (2 * C.length + 1) cT] 50)).alloc (.cells #[.int .i64 jA, .bool jB] 115)).alloc (.cells #[.int .i64 0, .bool false] 115) := ⟨_, rfl⟩
  have HW0 : Hid (w0 = ((w.alloc (.cells #[.slice (some ⟨b, off, none⟩) C.length cap, .int .i64 loops, .slice (some ⟨gF, 0, none⟩) (2 * C.length + 1) cF, .slice (some ⟨gT, 0, none⟩) (2 * C.length + 1) cT] 50)).alloc (.cells #[.int .i64 jA, .bool jB] 115)).alloc (.cells #[.int .i64 0, .bool false] 115)) := hw0
  have hs0 : w0.heap.size = w.heap.size + 3 := by rw [hw0]; simp
  have HB0 : Hid (Below w.heap.size w w0) := (by rw [hw0]; exact below3 _ _ _ _ : Below w.heap.size w w0)
  have HT0 : Hid (w0.heap[w.heap.size]? = some (.cells #[.slice (some ⟨b, off, none⟩) C.length cap, .int .i64 loops, .slice (some ⟨gF, 0, none⟩) (2 * C.length + 1) cF, .slice (some ⟨gT, 0, none⟩) (2 * C.length + 1) cT] 50 (0, 0))) := (by rw [hw0]; exact alloc_old (alloc_old (alloc_at rfl)) : w0.heap[w.heap.size]? = some (.cells #[.slice (some ⟨b, off, none⟩) C.length cap, .int .i64 loops, .slice (some ⟨gF, 0, none⟩) (2 * C.length + 1) cF, .slice (some ⟨gT, 0, none⟩) (2 * C.length + 1) cT] 50 (0, 0)))
  have HT2 : Hid (w0.heap[w.heap.size + 1 + 1]? = some (.cells #[.int .i64 0, .bool false] 115 (0, 0))) := (by rw [hw0]; exact alloc_at (by simp) : w0.heap[w.heap.size + 1 + 1]? = some (.cells #[.int .i64 0, .bool false] 115 (0, 0)))
  have HD0 : Hid (Dr w0 (some ⟨b, off, none⟩) cap C gF gT) := HD.out.on HB0.out
  clear hw0 hC
  go_enter Tryd.func73, Tryd.ntmps73
  go_wp2_with (go_at_call 58; rw [← HW0.out]; refine (HE.out _ HD0.out).mono ?_; rintro e9 w1 ⟨rfl, hb1⟩; refine Hid.out ?_)
  refine Lib.hid ?_
  have hs1 := hb1.size
  have g0 := (hb1.block _ (by omega)).trans HT0.out
  have HG2 : Hid (w1.heap[w.heap.size + 1 + 1]? = some (.cells #[.int .i64 0, .bool false] 115 (0, 0))) := (hb1.block _ (by omega)).trans HT2.out
  have HB1 : Hid (Below w.heap.size w w1) := HB0.out.trans (hb1.mono (by omega))
  have p0 : w1.cell? ⟨w.heap.size, 0, none⟩ = some (.slice (some ⟨b, off, none⟩) C.length cap) := block_cell g0 rfl
  have p1 : w1.cell? ⟨w.heap.size, 1, none⟩ = some (.int .i64 loops) := block_cell g0 rfl
  have p2 : w1.cell? ⟨w.heap.size, 2, none⟩ = some (.slice (some ⟨gF, 0, none⟩) (2 * C.length + 1) cF) := block_cell g0 rfl
  have p3 : w1.cell? ⟨w.heap.size, 3, none⟩ = some (.slice (some ⟨gT, 0, none⟩) (2 * C.length + 1) cT) := block_cell g0 rfl
  have l0 : w.heap.size < w1.heap.size := by omega
  obtain ⟨X, hX⟩ : ∃ X, X = w1.alloc (.cells #[.int .i64 i, .int .i64 k2] 67) := ⟨_, rfl⟩
  have HX : Hid (X = w1.alloc (.cells #[.int .i64 i, .int .i64 k2] 67)) := hX
  have H1X : Hid (Below w1.heap.size w1 X) := (by rw [hX]; exact (Below.refl _ _).alloc (Nat.le_refl _) _ : Below w1.heap.size w1 X)
  have hsX : X.heap.size = w1.heap.size + 1 := by rw [hX]; simp
  have HBX : Hid (Below w.heap.size w X) := HB1.out.trans (H1X.out.mono HB1.out.size)
  have HCX : Hid (CrossAt X b off C) := HC.out.on HBX.out hbw
  clear hb1 g0 hX
  go_wp2_with (go_at_call 79; rw [← HX.out]; refine (leaving_any b off cap C loops _ _ i k2 _ hi hk24 (by omega) HCX.out).mono ?_; rw [HF1.out, HF2.out]; rintro e9 w2 ⟨rfl, hb2⟩; refine Hid.out ?_)
  refine Lib.hid ?_
  have hs2 := hb2.size
  have g2 := (hb2.block _ (by omega)).trans ((H1X.out.block _ (by omega)).trans HG2.out)
  have r0 := block_cell (i := 0) (v := .int .i64 0) g2 rfl
  have r1 := block_cell (i := 1) (v := .bool false) g2 rfl
  have f0 := block_frozen (i := 0) g2
  have f1 := block_frozen (i := 1) g2
  have lr : w.heap.size + 1 + 1 < w2.heap.size := by omega
  have HB2 : Hid (Below w.heap.size w w2) := HBX.out.trans (hb2.mono (by omega))
  have HGG : Hid (w2.heap[w.heap.size + 1 + 1]? = some (.cells #[.int .i64 0, .bool false] 115 (0, 0))) := g2
  clear hb2 g2 p0 p1 p2 p3
  go_wp2
  have hX2 := set_block (i := 1) (u := .bool zB) (set_block (i := 0) (u := .int .i64 zA) HGG.out)
  have x0 := block_cell (i := 0) (v := .int .i64 zA) hX2 rfl
  have x1 := block_cell (i := 1) (v := .bool zB) hX2 rfl
  exact bodyPost_ret (v := .agg #[.int .i64 zA, .bool zB]) (by simp [results, Tryd.results73, go_sem, x0, x1]) rfl ⟨rfl, HB2.out.grown (st2_grown w2 (w.heap.size + 1 + 1) 0 (.int .i64 zA) (.bool zB)) (by omega) (fun q hq => by have := Option.some.inj hq; omega)⟩

end Go.Proofs.YtnlcknlodjjdbaaDoor
/- The walk of ref.FacesOf. -/
namespace Go.Proofs.YtnlcknlodjjdbaaDoor
open Go.RowKit

/-- Darts as values. -/
def dd (l : List Nat) : List (Nat × Bool) := l.map fun j => (dA j, dB j)
theorem dd_app (l : List Nat) (j : Nat) : dd (l ++ [j]) = dd l ++ [(dA j, dB j)] := by simp [dd]
theorem dd_len (l : List Nat) : (dd l).length = l.length := by simp [dd]
/-- Rows of darts of the call's own. -/
def DartsOwn (w : World) (B : Nat) (v : Value) (L : List (List Nat)) : Prop :=
  ∃ ys : List Value, ys.length = L.length ∧ w.ownsRow B 112 1 v ys.length ys ∧ ∀ j, j < L.length → w.ownsRow B 115 2 (ys.getD j (.bool false)) (L.getD j []).length (vflat (dd (L.getD j [])))
theorem infoDart : (Tryd.prog.info? 115).map (fun i => (i.zero, i.size, i.bytes)) = some (some (.agg #[.int .i64 0, .bool false]), 2, 16) := by kernel_rfl
theorem infoDarts : (Tryd.prog.info? 112).map (fun i => (i.zero, i.size, i.bytes)) = some (some (.slice none 0 0), 1, 24) := by kernel_rfl
theorem code_d {x : Nat} (_h : 1 ≤ x) : (if dB x = true then 2 * dA x + 1 else 2 * dA x) = x + 1 := by
  unfold dB dA
  split
  · rename_i hd; simp at hd; omega
  · rename_i hd; simp at hd; omega
theorem bools_at (seen : List Bool) (x : Nat) (h : x < seen.length) : (bools (false :: seen))[x + 1]? = some (.bool (seen.getD x true)) := by
  simp [bools, List.getD_eq_getElem?_getD, h]
theorem bools_put (seen : List Bool) (x : Nat) : (bools (false :: seen)).set (x + 1) (.bool true) = bools (false :: seen.set x true) := by
  simp [bools]
theorem new_cell2' {W : World} {s : Nat} (hs : s = W.heap.size) (a b : Value) (e : TypeId) : ∀ j u, [a, b][j]? = some u → (W.alloc (.cells #[a, b] e)).cell? ((⟨s, 0, none⟩ : Addr).add j) = some u := by
  intro j u hu
  subst hs
  have hg : (W.alloc (.cells #[a, b] e)).heap[W.heap.size]? = some (.cells #[a, b] e (0, 0)) := alloc_at rfl
  have hadd : ∀ j, (⟨W.heap.size, 0, none⟩ : Addr).add j = ⟨W.heap.size, j, none⟩ := fun j => by unfold Addr.add; split <;> simp_all
  rw [hadd, cell_of_row _ _ _ _ _ _ hg]
  simpa using hu
end Go.Proofs.YtnlcknlodjjdbaaDoor
/- Lists of fractions: their mathematics; the walks of tangle.expanded, tangle.Expand and ref.ExpandOf. -/
namespace Go.Proofs.YtnlcknlodjjdbaaDoor
open Go.RowKit

/-- Whole parts, the last number of the list first. -/
def exF : Nat → Nat → Nat → List Int
  | 0, _, _ => []
  | f + 1, a, b => if b = 0 then [] else ((a / b : Nat) : Int) :: exF f b (a % b)
theorem exF_bd : ∀ (f a b : Nat), a ≤ 1000 → b ≤ 1000 → ∀ x ∈ exF f a b, 0 ≤ x ∧ x ≤ 1000
  | 0, _, _, _, _, x, hx => by simp [exF] at hx
  | f + 1, a, b, ha, hb, x, hx => by
    unfold exF at hx
    by_cases h0 : b = 0
    · rw [if_pos h0] at hx; simp at hx
    · rw [if_neg h0] at hx
      rcases List.mem_cons.1 hx with rfl | h
      · have h2 := Nat.div_le_self a b
        generalize a / b = d at h2
        omega
      · exact exF_bd f b (a % b) hb (Nat.le_trans (Nat.mod_le _ _) ha) x h
/-- Of odd length, then. -/
def fixL (L : List Int) : List Int := if L.length % 2 = 0 then L.set (L.length - 1) (L.getD (L.length - 1) 0 - 1) ++ [1] else L
def exLt (p q : Nat) : List Int := exF (q + 1) p q
theorem exL_some {p q : Nat} (hq : 1 ≤ q) : 1 ≤ (exLt p q).length := by
  unfold exLt exF
  rw [if_neg (by omega)]
  simp
theorem one_int (x : Int) : ∀ u ∈ [Value.int .i64 x], u.oneCell' = true := by
  intro u hu
  simp only [List.mem_singleton] at hu
  subst hu
  rfl
theorem own_some {w : World} {B e s n : Nat} {v : Value} {xs : List Value} (h : w.ownsRow B e s v n xs) (hn : 1 ≤ n) : ∃ g c, v = .slice (some ⟨g, 0, none⟩) n c ∧ B ≤ g ∧ g < w.heap.size := by
  have h0 := h
  rcases h.2 with ⟨rfl, h1⟩ | ⟨g, cap, cur, rfl, h2, _⟩
  · omega
  · exact ⟨g, cap, rfl, (h0.lt g rfl).1, (h0.lt g rfl).2⟩
theorem intsV_snoc (l : List Int) (x : Int) : intsV l ++ [.int .i64 x] = intsV (l ++ [x]) := by simp [intsV]
/-- What append leaves. -/
theorem push_int {w W1 w8 : World} {v v8 : Value} {l : List Int} {x : Int} {e : TypeId} (hb : Below w.heap.size w W1) (hO : W1.ownsRow w.heap.size 3 1 v l.length (intsV l)) (hown : w8.ownsRow w.heap.size 3 1 v8 (l.length + 1) (intsV l ++ [.int .i64 x])) (hg : (W1.alloc (.cells #[.int .i64 x] e)).grownBy w8 v.ownBlock) :
    w8.ownsRow w.heap.size 3 1 v8 (l ++ [x]).length (intsV (l ++ [x])) ∧ Below w.heap.size w w8 := by
  refine ⟨?_, (hb.alloc hb.size _).grown hg (by have := hb.size; simp; omega) (fun q hq => (hO.lt q hq).1)⟩
  rw [← intsV_snoc]
  simpa using hown

set_option maxHeartbeats 8000000 in
set_option maxRecDepth 100000 in
theorem expanded_any (p q : Nat) (w : World) (hp : p ≤ 1000) (hq1 : 1 ≤ q) (hq : q ≤ 1000) :
    Calls Tryd.prog 12 #[.int .i64 (p : Nat), .int .i64 (q : Nat)] w fun e w' => ∃ v, e = .returned v ∧ w'.ownsRow w.heap.size 3 1 v (fixL (exLt p q)).reverse.length (intsV (fixL (exLt p q)).reverse) ∧ Below w.heap.size w w' := by
  obtain ⟨i2, hk, hx0, hx1, hx2⟩ := info_parts infoInt
  obtain ⟨L, hL⟩ : ∃ L, exLt p q = L := ⟨_, rfl⟩
  have HL : Hid (exF (q + 1) p q = L) := hL
  have HL1 : Hid (1 ≤ L.length) := (by rw [← hL]; exact exL_some hq1 : 1 ≤ L.length)
  have HLB : Hid (∀ x ∈ L, 0 ≤ x ∧ x ≤ 1000) := (by rw [← hL]; exact exF_bd _ _ _ hp hq : ∀ x ∈ L, 0 ≤ x ∧ x ≤ 1000)
  have HB : Hid (Below w.heap.size w w) := Below.refl _ _
  have HO0 : Hid (w.ownsRow w.heap.size 3 1 (.slice none 0 0) ([] : List Int).length (intsV [])) := World.ownsRow_nil _ _ _ _
  rw [hL]
  clear hL
  go_enter Tryd.func12, Tryd.ntmps12
  go_wp2
  go_loopw [0, 1, 5] (fun v0 v1 v5 wr => ∃ (f a b : Nat) (acc : List Int) (a5 : Option Addr) (c5 : Nat), b < f ∧ a ≤ 1000 ∧ b ≤ 1000 ∧ acc.length + b ≤ 1000 ∧ v0 = .int .i64 (a : Nat) ∧ v1 = .int .i64 (b : Nat) ∧ v5 = .slice a5 acc.length c5 ∧ Hid (acc ++ exF f a b = L) ∧ Hid (wr.ownsRow w.heap.size 3 1 (.slice a5 acc.length c5) acc.length (intsV acc)) ∧ Hid (Below w.heap.size w wr)) (fun _ v1 _ _ => (intOf v1).toNat)
  case atStart => exact ⟨q + 1, p, q, [], none, 0, by omega, hp, hq, by simpa using hq, rfl, rfl, rfl, HL.out, HO0.out, HB.out⟩
  case round =>
    clear HB HO0 HL
    rename World => W1
    obtain ⟨f, a, b, acc, a5, c5, hbf, ha, hbb, hac, rfl, rfl, rfl, heq, hO, hb⟩ := hrel
    by_cases h0 : b = 0
    · obtain rfl : acc = L := by
        have h := heq.out
        cases f with
        | zero => omega
        | succ f =>
          unfold exF at h
          rw [if_pos h0, List.append_nil] at h
          exact h
      subst h0
      obtain ⟨n, hn⟩ : ∃ n, acc.length = n := ⟨_, rfl⟩
      have HN : Hid (acc.length = n) := hn
      have hn1 : 1 ≤ n := by rw [← hn]; exact HL1.out
      rw [hn] at hac hO ⊢
      obtain ⟨g, c, e5, hg1, hg2⟩ := own_some hO.out hn1
      injection e5 with e1 e2 e3
      subst e1
      clear e2 e3 hn heq hbf hbb
      have er : (n : Int).tmod 2 = ((n % 2 : Nat) : Int) := rfl
      obtain ⟨r, hr⟩ : ∃ r, n % 2 = r := ⟨_, rfl⟩
      have HR : Hid (n % 2 = r) := hr
      have hr2 : r < 2 := by omega
      rw [hr] at er
      clear hr
      by_cases hr0 : r = 0
      · subst hr0
        obtain ⟨m, hm⟩ : ∃ m, n - 1 = m := ⟨_, rfl⟩
        have hmn : m < n := by omega
        have hmI : (n : Int) - 1 = (m : Int) := by omega
        have ew0 : IntKind.i64.wrap ((n : Int) - 1) = (m : Int) := by rw [hmI]; exact IntWalk.i64_in _ (by omega)
        have hxb := HLB.out (acc.getD m 0) (by rw [List.getD_eq_getElem?_getD, List.getElem?_eq_getElem (by rw [HN.out]; exact hmn)]; exact List.getElem_mem _)
        have e0 : W1.cell? ⟨g, m, none⟩ = some (.int .i64 (acc.getD m 0)) := by
          rw [hO.out.cellAt m (by omega), intsV_getG _ m (by rw [HN.out]; exact hmn)]
        have f0 : W1.frozen? ⟨g, m, none⟩ = false := hO.out.frozenAt m
        have HFX : Hid (fixL acc = acc.set m (acc.getD m 0 - 1) ++ [1]) := (by unfold fixL; rw [HN.out, HR.out, if_pos rfl, hm] : fixL acc = acc.set m (acc.getD m 0 - 1) ++ [1])
        have hst := hO.out.stored m (.int .i64 (acc.getD m 0 - 1))
        rw [intsV_set] at hst
        obtain ⟨x, hx⟩ : ∃ x, acc.getD m 0 = x := ⟨_, rfl⟩
        rw [hx] at hxb e0 HFX hst
        have ew1 : IntKind.i64.wrap (x - 1) = x - 1 := IntWalk.i64_in _ (by omega)
        obtain ⟨A, hA⟩ : ∃ A, acc.set m (x - 1) = A := ⟨_, rfl⟩
        have hAl : A.length = n := by rw [← hA, List.length_set, HN.out]
        have HAL : Hid (A.length = n) := hAl
        rw [hA] at HFX hst
        obtain ⟨X, hX⟩ : ∃ X, X = W1.setCell ⟨g, m, none⟩ (.int .i64 (x - 1)) := ⟨_, rfl⟩
        have HX : Hid (X = W1.setCell ⟨g, m, none⟩ (.int .i64 (x - 1))) := hX
        have HOX : Hid (X.ownsRow w.heap.size 3 1 (.slice (some ⟨g, 0, none⟩) A.length c5) A.length (intsV A)) := (by rw [hX, hAl]; exact hst.1 : X.ownsRow w.heap.size 3 1 (.slice (some ⟨g, 0, none⟩) A.length c5) A.length (intsV A))
        have HBX : Hid (Below w.heap.size w X) := (by rw [hX]; exact hb.out.grown hst.2 hb.out.size (fun q hq => by have := Option.some.inj hq; omega) : Below w.heap.size w X)
        clear hm hx hA hst hX hAl
        go_upto_region 7 with (fail)
        rw [← HX.out]
        clear HX e0 f0 ew1 ew0 hmI
        rw [← HAL.out] at hac hn1 ⊢
        go_wp2_with (first
          | (at_builtin; refine wpList_append_own _ rfl _ _ 26 rfl w.heap.size 3 i2 (.int .i64 0) 1 8 Tryd.underlying26 hk hx0 hx1 hx2 rfl (by decide) _ _ _ rfl (HOX.out.alloc _) ⟨X.heap.size, 0, none⟩ 1 1 [.int .i64 1] rfl rfl (new_cell1 _ _ _) (one_int 1) (by unfold maxLen; omega) (by omega) (by have := HBX.out.size; simp; omega) ?_; intro v8 w8 hown8 hg8 _; refine Hid.out ?_))
        refine Lib.hid ?_
        have hpu := push_int HBX.out HOX.out hown8 hg8
        obtain ⟨F, hF⟩ : ∃ F, fixL acc = F := ⟨_, rfl⟩
        have HF : Hid (fixL acc = F) := hF
        rw [← HFX.out, hF] at hpu
        have hF1 : F.length = A.length + 1 := by rw [← hF, HFX.out]; simp
        obtain ⟨g8, c8, rfl, hg81, hg82⟩ := own_some hpu.1 (by omega)
        have HP8 : Hid (w8.ownsRow w.heap.size 3 1 (.slice (some ⟨g8, 0, none⟩) F.length c8) F.length (intsV F)) := hpu.1
        have HB8 : Hid (Below w.heap.size w w8) := hpu.2
        have HRV : Hid (Calls Tryd.prog 24 #[.slice (some ⟨g8, 0, none⟩) F.length c8] w8 fun e w' => e = .returned (.tuple #[]) ∧ w'.ownsRow w.heap.size 3 1 (.slice (some ⟨g8, 0, none⟩) F.length c8) F.length (intsV F.reverse) ∧ w8.grownBy w' (some g8)) := reverse_any w.heap.size g8 c8 F w8 (by omega) (by omega) HP8.out
        clear hown8 hg8 hpu hF hF1
        go_wp2_with (go_at_call 24; refine HRV.out.mono ?_; rintro e9 w9 ⟨rfl, hr9, hg9⟩; refine Hid.out ?_)
        refine Lib.hid ?_
        have HFN : Hid (w9.ownsRow w.heap.size 3 1 (.slice (some ⟨g8, 0, none⟩) F.length c8) F.reverse.length (intsV F.reverse) ∧ Below w.heap.size w w9) := ⟨by rw [List.length_reverse]; exact hr9, HB8.out.grown hg9 HB8.out.size (fun q hq => by have := Option.some.inj hq; omega)⟩
        clear hr9 hg9
        go_wp2
        go_ret
        exact ⟨_, rfl, by rw [HF.out]; exact HFN.out.1, HFN.out.2⟩
      · have hrz : ((r : Int) == 0) = false := by simp; omega
        have HFX : Hid (fixL acc = acc) := (by unfold fixL; rw [HN.out, HR.out, if_neg hr0] : fixL acc = acc)
        have HP8 : Hid (W1.ownsRow w.heap.size 3 1 (.slice (some ⟨g, 0, none⟩) acc.length c5) acc.length (intsV acc)) := (by rw [HN.out]; exact hO.out : W1.ownsRow w.heap.size 3 1 (.slice (some ⟨g, 0, none⟩) acc.length c5) acc.length (intsV acc))
        have HRV : Hid (Calls Tryd.prog 24 #[.slice (some ⟨g, 0, none⟩) acc.length c5] W1 fun e w' => e = .returned (.tuple #[]) ∧ w'.ownsRow w.heap.size 3 1 (.slice (some ⟨g, 0, none⟩) acc.length c5) acc.length (intsV acc.reverse) ∧ W1.grownBy w' (some g)) := reverse_any w.heap.size g c5 acc W1 (by rw [HN.out]; omega) (by rw [HN.out]; omega) HP8.out
        rw [HN.out] at HRV
        go_wp2_with (go_at_call 24; refine HRV.out.mono ?_; rintro e9 w9 ⟨rfl, hr9, hg9⟩; refine Hid.out ?_)
        refine Lib.hid ?_
        have HFN : Hid (w9.ownsRow w.heap.size 3 1 (.slice (some ⟨g, 0, none⟩) n c5) acc.reverse.length (intsV acc.reverse) ∧ Below w.heap.size w w9) := ⟨by rw [List.length_reverse, HN.out]; exact hr9, hb.out.grown hg9 hb.out.size (fun q hq => by have := Option.some.inj hq; omega)⟩
        clear hr9 hg9
        go_wp2
        go_ret
        exact ⟨_, rfl, by rw [HFX.out]; exact HFN.out.1, HFN.out.2⟩
    · have eq : (a : Int).tdiv (b : Int) = ((a / b : Nat) : Int) := rfl
      have er : (a : Int).tmod (b : Int) = ((a % b : Nat) : Int) := rfl
      have hf0 : ((b : Int) == 0) = false := by simp; omega
      have hfn : (b : Int) ≠ 0 := by omega
      have hlt : a % b < b := Nat.mod_lt _ (by omega)
      have hdl := Nat.div_le_self a b
      have HST : Hid (∃ f', (acc ++ [((a / b : Nat) : Int)]) ++ exF f' b (a % b) = L ∧ a % b < f') := (by
        have h := heq.out
        cases f with
        | zero => omega
        | succ f =>
          unfold exF at h
          rw [if_neg h0] at h
          exact ⟨f, by rw [List.append_assoc]; exact h, by omega⟩ : ∃ f', (acc ++ [((a / b : Nat) : Int)]) ++ exF f' b (a % b) = L ∧ a % b < f')
      obtain ⟨d, hd⟩ : ∃ d, a / b = d := ⟨_, rfl⟩
      obtain ⟨r, hr⟩ : ∃ r, a % b = r := ⟨_, rfl⟩
      rw [hd] at eq HST hdl
      rw [hr] at er HST hlt
      clear hd hr heq
      go_wp2_with (first
        | (at_builtin; refine wpList_append_own _ rfl _ _ 26 rfl w.heap.size 3 i2 (.int .i64 0) 1 8 Tryd.underlying26 hk hx0 hx1 hx2 rfl (by decide) _ _ _ rfl (hO.out.alloc _) ⟨W1.heap.size, 0, none⟩ 1 1 [.int .i64 (d : Nat)] rfl rfl (new_cell1 _ _ _) (one_int _) (by unfold maxLen; omega) (by omega) (by have := hb.out.size; simp; omega) ?_; intro v8 w8 hown8 hg8 _; refine Hid.out ?_))
      refine Lib.hid ?_
      have hpu := push_int hb.out hO.out hown8 hg8
      obtain ⟨a8, c8, rfl⟩ := own_capS hown8
      have hl8 : (acc ++ [(d : Int)]).length = acc.length + 1 := by simp
      have HP8 : Hid (∀ n, (w8.drewN n).ownsRow w.heap.size 3 1 (.slice a8 (acc ++ [(d : Int)]).length c8) (acc ++ [(d : Int)]).length (intsV (acc ++ [(d : Int)])) ∧ Below w.heap.size w (w8.drewN n)) := fun n => ⟨own_any (by rw [hl8]; have := hpu.1; rw [hl8] at this; exact this) (grown_below (below_drewN (Below.refl _ _) n) none), below_drewN hpu.2 n⟩
      have HL8 : Hid ((acc ++ [(d : Int)]).length = acc.length + 1) := hl8
      clear hown8 hg8 hpu hl8
      go_wp2
      go_quiet (fail)
      go_wp2
      go_roundw
      case rel =>
        obtain ⟨f', h1, h2⟩ := HST.out
        exact ⟨f', b, r, acc ++ [(d : Int)], a8, c8, h2, hbb, by omega, by rw [HL8.out]; omega, rfl, rfl, by rw [HL8.out], h1, (HP8.out _).1, (HP8.out _).2⟩
      case measure => simp only [intOf]; omega
end Go.Proofs.YtnlcknlodjjdbaaDoor

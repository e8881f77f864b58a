/- The walk of sign.chart.spread. -/
import Derived.Test.YtlcogbcpmneknaaSG1
import Derived.Test.YtlcogbcpmneknaaR3
namespace Go.Proofs.Ytlcogbcpmneknaa
open Go.RowKit Go.Shelf Go.Maps
attribute [local go_sem] Oper.semAt_some

/-- Where spread stands between two darts. -/
structure SqAt (w W : World) (Bn : Nat) (a : Option Addr) (cap : Nat) (C : List Cr) (loops : Int) (gF cF gT cT gM gS f z : Nat) (M : List Int) : Prop where
  ch : Ch W a cap C gF gT gM gS M
  b0 : W.heap[w.heap.size]? = some (.cells #[.slice a C.length cap, .int .i64 loops, .slice (some ⟨gF, 0, none⟩) (2 * C.length + 1) cF, .slice (some ⟨gT, 0, none⟩) (2 * C.length + 1) cT, .map (some gM), .slice (some ⟨gS, 0, none⟩) (facesM C).length (facesM C).length] 43 (0, 0))
  b1 : W.heap[w.heap.size + 1]? = some (.cells #[.int .i64 (f : Nat)] 3 (0, 0))
  b2 : W.heap[w.heap.size + 1 + 1]? = some (.cells #[.int .i64 (z : Nat)] 3 (0, 0))
  bn : W.heap[Bn]? = some (.cells #[.slice a C.length cap, .int .i64 loops, .slice (some ⟨gF, 0, none⟩) (2 * C.length + 1) cF, .slice (some ⟨gT, 0, none⟩) (2 * C.length + 1) cT] 39 (0, 0))
  gr : w.grownBy W (some gS)
  size : Bn + 1 ≤ W.heap.size
theorem SqAt.keep {w W W' : World} {Bn : Nat} {a : Option Addr} {cap : Nat} {C : List Cr} {loops : Int} {gF cF gT cT gM gS f z : Nat} {M : List Int} {row : Option Nat} (h : SqAt w W Bn a cap C loops gF cF gT cT gM gS f z M) (hw : w.heap.size + 3 ≤ Bn) (hl : gF < w.heap.size ∧ gT < w.heap.size ∧ gM < w.heap.size ∧ gS < w.heap.size ∧ (0 < C.length → ∀ ad, a = some ad → ad.block < w.heap.size)) (hg : W.grownBy W' row) (hr : ∀ r, row = some r → Bn + 1 ≤ r) : SqAt w W' Bn a cap C loops gF cF gT cT gM gS f z M := by
  have far : ∀ {q : Nat} {o : Obj}, q ≤ Bn → W.heap[q]? = some o → W'.heap[q]? = some o := fun {q o} hq ho => (hg.block q (Array.getElem?_eq_some_iff.1 ho).1 (fun e => by have := hr q e.symm; omega)).trans ho
  exact ⟨h.ch.keep hg hl (fun r e => by have := hr r e; omega), far (by omega) h.b0, far (by omega) h.b1, far (by omega) h.b2, far (Nat.le_refl _) h.bn, grown_new h.gr hg (fun q hq => by have := hr q hq; omega), Nat.le_trans h.size hg.size⟩

set_option maxRecDepth 100000 in
set_option maxHeartbeats 16000000 in
theorem spread_all (C : List Cr) (loops : Int) (s : Nat → Nat) (hm : mayD C loops = true) (hS : Shd C s) : ∀ (k : Nat) (a : Option Addr) (cap gF cF gT cT gM gS f : Nat) (L : List Int) (w : World), uns L ≤ k → f < (facesM C).length → L.getD f 0 = -1 → Sd s (facesM C).length L → Ch w a cap C gF gT gM gS L →
    Calls Try.prog 27 #[chV a cap C loops gF cF gT cT gM gS, .int .i64 (f : Nat), .int .i64 (s f : Nat)] w fun e w' => e = .returned (.tuple #[]) ∧ ∃ L', Spd C s f L L' ∧ Ch w' a cap C gF gT gM gS L' ∧ w.grownBy w' (some gS)
  | 0, a, cap, gF, cF, gT, cT, gM, gS, f, L, w, hk, hf, hLf, hSd, hCh => by
    have h1 := uns_set L f (s f : Nat) (by rw [hSd.1]; exact hf) hLf (by omega)
    omega
  | k + 1, a, cap, gF, cF, gT, cT, gM, gS, f, L, w, hk, hf, hLf, hSd, hCh => by
    obtain ⟨s1, -, -, -⟩ := sizeB_iff (may_size hm)
    have IH := hidS (spread_all C loops s hm hS k)
    have HM := hidS hm
    have HSH := hidS hS
    have HSD := hidS hSd
    have HCH := hidS hCh
    have HLT := hidS hCh.lt
    have HLF := hidS hLf
    have HK := hidS hk
    obtain ⟨z, hz⟩ : ∃ z, s f = z := ⟨_, rfl⟩
    have HZ := hidS hz
    have hz2 : z < 2 := by rw [← hz]; exact hS.two f
    rw [hz]
    obtain ⟨F, hF⟩ : ∃ F, (facesM C).length = F := ⟨_, rfl⟩
    have HF := hidS hF
    rw [hF] at hf
    unfold chV
    rw [hF]
    refine (callsIn_wide (n := 8)).1 ?_
    refine callsIn_of_wp_marks Try.func27 rfl trivial ?_ rfl
    simp only [Try.ntmps27, List.size_toArray, List.length_cons, List.length_nil, Nat.reduceAdd, Nat.reduceSub, Array.replicate_succ, Array.replicate_zero, List.push_toArray, List.append_toArray, List.nil_append, List.cons_append]
    obtain ⟨V, hV⟩ : ∃ V, ((w.alloc (.cells #[.slice a C.length cap, .int .i64 loops, .slice (some ⟨gF, 0, none⟩) (2 * C.length + 1) cF, .slice (some ⟨gT, 0, none⟩) (2 * C.length + 1) cT, .map (some gM), .slice (some ⟨gS, 0, none⟩) F F] 43)).alloc (.cells #[.int .i64 (f : Nat)] 3)).alloc (.cells #[.int .i64 (z : Nat)] 3) = V := ⟨_, rfl⟩
    have hBV : Below w.heap.size w V := by rw [← hV]; exact below3 _ _ _ _
    have hsV : V.heap.size = w.heap.size + 3 := by rw [← hV]; simp
    have k0 : V.heap[w.heap.size]? = some (.cells #[.slice a C.length cap, .int .i64 loops, .slice (some ⟨gF, 0, none⟩) (2 * C.length + 1) cF, .slice (some ⟨gT, 0, none⟩) (2 * C.length + 1) cT, .map (some gM), .slice (some ⟨gS, 0, none⟩) F F] 43 (0, 0)) := by rw [← hV]; exact alloc_old (alloc_old (alloc_at rfl))
    have k1 : V.heap[w.heap.size + 1]? = some (.cells #[.int .i64 (f : Nat)] 3 (0, 0)) := by rw [← hV]; exact alloc_old (alloc_at (by simp))
    have k2 : V.heap[w.heap.size + 1 + 1]? = some (.cells #[.int .i64 (z : Nat)] 3 (0, 0)) := by rw [← hV]; exact alloc_at (by simp)
    have HV := hidS hV
    have HBV := hidS hBV
    have HK0 := hidS k0
    have HK1 := hidS k1
    have HK2 := hidS k2
    have hCV := hCh.on hBV
    have HCV := hidS hCV
    have hgl := hCh.lt.2.2.2.1
    have hrow := hCV.sh.stored f (.int .i64 (z : Nat))
    clear hm hS hSd hCh hk hV hBV hz hF
    refine wpIn_wide.2 ?_
    go_upto_region 1 with (fail)
    rw [HV.out]
    have v0 : V.cell? ⟨w.heap.size, 0, none⟩ = some (.slice a C.length cap) := block_cell k0 rfl
    have v1 : V.cell? ⟨w.heap.size, 1, none⟩ = some (.int .i64 loops) := block_cell k0 rfl
    have v2 : V.cell? ⟨w.heap.size, 2, none⟩ = some (.slice (some ⟨gF, 0, none⟩) (2 * C.length + 1) cF) := block_cell k0 rfl
    have v3 : V.cell? ⟨w.heap.size, 3, none⟩ = some (.slice (some ⟨gT, 0, none⟩) (2 * C.length + 1) cT) := block_cell k0 rfl
    have v5 : V.cell? ⟨w.heap.size, 5, none⟩ = some (.slice (some ⟨gS, 0, none⟩) F F) := block_cell k0 rfl
    have v6 : V.cell? ⟨w.heap.size + 1, 0, none⟩ = some (.int .i64 (f : Nat)) := block_cell k1 rfl
    have v7 : V.cell? ⟨w.heap.size + 1 + 1, 0, none⟩ = some (.int .i64 (z : Nat)) := block_cell k2 rfl
    have v8 : V.cell? ⟨gS, f, none⟩ = some (.int .i64 (L.getD f 0)) := by
      have h := hCV.sh.cellAt f (by rw [HF.out]; omega)
      rw [h, intsV_get L f (by rw [HSD.out.1, HF.out]; exact hf)]
    have z8 : V.frozen? ⟨gS, f, none⟩ = false := hCV.sh.frozenAt f
    have ls : gS < V.heap.size := by omega
    have l0 : w.heap.size < V.heap.size := by omega
    have l1 : w.heap.size + 1 < V.heap.size := by omega
    have l2 : w.heap.size + 1 + 1 < V.heap.size := by omega
    have hfi : (f : Int) < (F : Int) := by omega
    obtain ⟨W0, hW0⟩ : ∃ W0, V.setCell ⟨gS, f, none⟩ (.int .i64 (z : Nat)) = W0 := ⟨_, rfl⟩
    have hg0 : V.grownBy W0 (some gS) := by rw [← hW0]; exact hrow.2
    have hsW0 : W0.heap.size = w.heap.size + 3 := by rw [← hW0]; simp; omega
    have HC0 : Hid (Ch W0 a cap C gF gT gM gS (L.set f (z : Nat))) := (by
      rw [← hW0]
      refine hCV.put hrow.2 ?_
      have h := hrow.1
      rw [intsV_set] at h
      exact h)
    have HW0 := hidS hW0
    have HG0 := hidS hg0
    have hne0 : ∀ {q : Nat} {o : Obj}, w.heap.size ≤ q → V.heap[q]? = some o → W0.heap[q]? = some o := fun {q o} hq ho => (hg0.block q (Array.getElem?_eq_some_iff.1 ho).1 (fun e => by have := Option.some.inj e; omega)).trans ho
    have K0 := hidS (hne0 (Nat.le_refl _) k0)
    have K1 := hidS (hne0 (by omega) k1)
    have K2 := hidS (hne0 (by omega) k2)
    have x0 : W0.cell? ⟨w.heap.size, 0, none⟩ = some (.slice a C.length cap) := block_cell K0.out rfl
    have x1 : W0.cell? ⟨w.heap.size, 1, none⟩ = some (.int .i64 loops) := block_cell K0.out rfl
    have x2 : W0.cell? ⟨w.heap.size, 2, none⟩ = some (.slice (some ⟨gF, 0, none⟩) (2 * C.length + 1) cF) := block_cell K0.out rfl
    have x3 : W0.cell? ⟨w.heap.size, 3, none⟩ = some (.slice (some ⟨gT, 0, none⟩) (2 * C.length + 1) cT) := block_cell K0.out rfl
    have lW0 : w.heap.size < W0.heap.size := by omega
    clear hCV hrow k0 k1 k2 hg0 hW0 hne0 hLf
    go_upto_region 2 with (fail)
    rw [HW0.out]
    clear v0 v1 v2 v3 v5 v6 v7 v8 z8
    have HDA : Hid (∀ V, Calls Try.prog 42 #[.agg #[.slice a C.length cap, .int .i64 loops, .slice (some ⟨gF, 0, none⟩) (2 * C.length + 1) cF, .slice (some ⟨gT, 0, none⟩) (2 * C.length + 1) cT]] V fun e w' => e = .returned (.func (.func 51) #[] #[.pointer (some ⟨V.heap.size, 0, none⟩)]) ∧ w' = V.alloc (.cells #[.slice a C.length cap, .int .i64 loops, .slice (some ⟨gF, 0, none⟩) (2 * C.length + 1) cF, .slice (some ⟨gT, 0, none⟩) (2 * C.length + 1) cT] 39)) := fun V => (callsIn_wide (n := 8)).1 (darts_in 8 a cap C loops gF cF gT cT V)
    go_wp2_with (go_at_call 42; refine (HDA.out _).mono ?_; rintro e9 w9 ⟨rfl, rfl⟩; refine Hid.out ?_)
    refine Lib.hid ?_
    obtain ⟨W1, hW1⟩ : ∃ W1, W0.alloc (.cells #[.slice a C.length cap, .int .i64 loops, .slice (some ⟨gF, 0, none⟩) (2 * C.length + 1) cF, .slice (some ⟨gT, 0, none⟩) (2 * C.length + 1) cT] 39) = W1 := ⟨_, rfl⟩
    have hb1 : Below W0.heap.size W0 W1 := by rw [← hW1]; exact (Below.refl _ _).alloc (Nat.le_refl _) _
    have kn : W1.heap[W0.heap.size]? = some (.cells #[.slice a C.length cap, .int .i64 loops, .slice (some ⟨gF, 0, none⟩) (2 * C.length + 1) cF, .slice (some ⟨gT, 0, none⟩) (2 * C.length + 1) cT] 39 (0, 0)) := by rw [← hW1]; exact alloc_at rfl
    have hs1 : W1.heap.size = w.heap.size + 4 := by rw [← hW1]; simp; omega
    rw [hW1]
    rw [hsW0] at kn
    have HSQ : Hid (SqAt w W1 (w.heap.size + 3) a cap C loops gF cF gT cT gM gS f z (L.set f (z : Nat))) := (by
      refine ⟨HC0.out.on hb1, ?_, (hb1.block _ (by omega)).trans K1.out, (hb1.block _ (by omega)).trans K2.out, kn, ?_, by omega⟩
      · rw [HF.out]; exact (hb1.block _ (by omega)).trans K0.out
      · exact grown_trans (grown_trans (grown_below HBV.out (some gS)) HG0.out) (grown_below hb1 (some gS)))
    have HSP : Hid (Spi C s f [] L (L.set f (z : Nat))) := (by rw [← HZ.out]; exact Spi.start HSD.out (by rw [HF.out]; exact hf) HLF.out)
    have HCC : Hid (W1.cell? ⟨w.heap.size + 3, 3, none⟩ = some (.slice (some ⟨gT, 0, none⟩) (2 * C.length + 1) cT)) := block_cell kn rfl
    clear hW1 hb1 kn x0 x1 x2 x3 lW0 K0 K1 K2 HC0 HG0 HK0 HK1 HK2 HBV HCV HDA
    go_wp2
    refine (wpIn_wide (n := 8)).1 ?_
    refine wpIn_rangeFunc_ownH (n := 8) rfl (by omega) (gf := 51) (lb := #[.pointer (some ⟨w.heap.size + 3, 0, none⟩)]) rfl trivial (enters_of Try.func51 (by kernel_rfl) rfl)
      (darts_stops C.length s1 7 (by omega) (w.heap.size + 3) gT cT W1 (by omega) HCC.out) (fun h k => k.trans h) (keepB_b (by omega)) (Below.refl _ _) (fun _ => rfl)
      (fun (pre : List (DN C.length)) W => ∃ M, SqAt w W (w.heap.size + 3) a cap C loops gF cF gT cT gM gS f z M ∧ Spi C s f (pre.map fun x => x.1) L M)
      (fun _ _ _ => False)
      (fun pre X Y row hs hg hr => by obtain ⟨M, h1, h2⟩ := hs; exact ⟨M, h1.keep (Nat.le_refl _) HLT.out hg (fun r e => by have := (hr r e).1; omega), h2⟩)
      (fun _ _ _ _ _ hs _ _ => hs)
      ⟨_, HSQ.out, HSP.out⟩
      (fun x a' W => ∃ Bx, W1.heap.size ≤ Bx ∧ W.heap[Bx]? = some (.cells #[.int .i64 (dA x.1 : Nat), .bool (dB x.1)] 67 (0, 0)) ∧ a' = { tmps := #[.agg #[.slice a C.length cap, .int .i64 loops, .slice (some ⟨gF, 0, none⟩) (2 * C.length + 1) cF, .slice (some ⟨gT, 0, none⟩) (2 * C.length + 1) cT, .map (some gM), .slice (some ⟨gS, 0, none⟩) F F], .int .i64 (f : Nat), .int .i64 (z : Nat), .pointer (some ⟨w.heap.size, 0, none⟩), .pointer (some ⟨w.heap.size + 1, 0, none⟩), .pointer (some ⟨w.heap.size + 1 + 1, 0, none⟩), .pointer (some ⟨Bx, 0, none⟩), undef, .pointer (some ⟨w.heap.size, 5, none⟩), .slice (some ⟨gS, 0, none⟩) F F, .int .i64 (f : Nat), .int .i64 (z : Nat), .pointer (some ⟨gS, f, none⟩), .pointer (some ⟨w.heap.size, 0, none⟩), .agg #[.slice a C.length cap, .int .i64 loops, .slice (some ⟨gF, 0, none⟩) (2 * C.length + 1) cF, .slice (some ⟨gT, 0, none⟩) (2 * C.length + 1) cT], .func (.func 51) #[] #[.pointer (some ⟨w.heap.size + 3, 0, none⟩)], .agg #[.int .i64 (dA x.1 : Nat), .bool (dB x.1)], undef, undef, undef, undef, undef, undef, undef, undef, undef, undef, undef, undef, undef, undef, undef, undef, undef, undef, undef, undef, undef, undef, undef, undef, undef, undef], defers := [] })
      (fun x a' _ X Y row hs hg hr => by obtain ⟨Bx, h1, h2, h3⟩ := hs; exact ⟨Bx, h1, cells_keep h2 hg (fun r e => (hr r e).2), h3⟩)
      ?assign ?body ?done ?stop
    case assign =>
      rintro l pre x W K ⟨M, hsq, hsp⟩ hK
      obtain ⟨xA, hxA⟩ : ∃ xA, dA x.1 = xA := ⟨_, rfl⟩
      obtain ⟨xB, hxB⟩ : ∃ xB, dB x.1 = xB := ⟨_, rfl⟩
      rw [hxA, hxB]
      gi_wp2
      exact hK _ _ ((KeepsOthers.alloc _ _).from _) ((World.grownBy_alloc _ _ none).block _ (Array.getElem?_eq_some_iff.1 hsq.bn).1 (by simp)) ⟨M, hsq.keep (Nat.le_refl _) HLT.out (World.grownBy_alloc _ _ none) (fun r e => by cases e), hsp⟩ ⟨W.heap.size, by have := hsq.size; omega, (by rw [hxA, hxB]; exact alloc_at rfl), (by rw [hxA, hxB])⟩
    case body =>
      rintro l pre x a' W hl ⟨r, hr⟩ ⟨M, hsq, hsp⟩ ⟨Bx, hBx, hbx, rfl⟩ hlt
      obtain ⟨x0, hx0a, hx0b⟩ := x
      simp only at hbx ⊢
      obtain ⟨xA, hxA⟩ : ∃ q, dA x0 = q := ⟨_, rfl⟩
      obtain ⟨xB, hxB⟩ : ∃ q, dB x0 = q := ⟨_, rfl⟩
      obtain ⟨g, hg⟩ : ∃ q, fo C x0 = q := ⟨_, rfl⟩
      obtain ⟨q, hq⟩ : ∃ q, fo C (tn x0) = q := ⟨_, rfl⟩
      have htn := tn_le hx0a hx0b
      have hqF : q < F := by rw [← hq, ← HF.out]; exact fo_lt _ htn.1 htn.2
      have hxA1 := dA_le (n := C.length) hx0a hx0b
      have eT : dtV (tn x0) = .agg #[.int .i64 (xA : Nat), .bool (!xB)] := by unfold dtV tn; rw [dA_mk hxA1.1, dB_mk hxA1.1, hxA, hxB]
      have eX : dtV x0 = .agg #[.int .i64 (xA : Nat), .bool xB] := by unfold dtV; rw [hxA, hxB]
      have HLK : Hid (∀ X, Ch X a cap C gF gT gM gS M → (Instr.lookup 40 (.map (some gM)) (.agg #[.int .i64 (xA : Nat), .bool xB]) false).run Try.prog X = .ok (.int .i64 (g : Nat)) X ∧ (Instr.lookup 40 (.map (some gM)) (.agg #[.int .i64 (xA : Nat), .bool (!xB)]) false).run Try.prog X = .ok (.int .i64 (q : Nat)) X) := fun X hX => by
        have a1 := hX.mp.look x0 hx0a hx0b (by omega)
        have a2 := hX.mp.look (tn x0) htn.1 htn.2 (by omega)
        rw [eX, hg] at a1
        rw [eT, hq] at a2
        exact ⟨a1, a2⟩
      have hsW := hsq.size
      have HSQ2 := hidS hsq
      have HSP2 := hidS hsp
      rw [hxA, hxB] at hbx ⊢
      have HBX := hidS hbx
      have lBx : Bx < W.heap.size := (Array.getElem?_eq_some_iff.1 hbx).1
      have HPR : Hid ((pre ++ [(⟨x0, hx0a, hx0b⟩ : DN C.length)]).map (fun x => x.1) = (pre.map fun x => x.1) ++ [x0]) := (by rw [List.map_append]; rfl)
      have HG := hidS hg
      have HQ := hidS hq
      have HS : Hid (∀ X, Below W.heap.size W X → (fun X : World => X.cell? ⟨w.heap.size, 4, none⟩ = some (.map (some gM)) ∧ X.cell? ⟨Bx, 0, none⟩ = some (.int .i64 (xA : Nat)) ∧ X.cell? ⟨Bx, 1, none⟩ = some (.bool xB) ∧ X.cell? ⟨w.heap.size + 1, 0, none⟩ = some (.int .i64 (f : Nat)) ∧ (Instr.lookup 40 (.map (some gM)) (.agg #[.int .i64 (xA : Nat), .bool xB]) false).run Try.prog X = .ok (.int .i64 (g : Nat)) X) X) := fun X hX => by
        have e0 := (hX.block _ (Array.getElem?_eq_some_iff.1 HSQ2.out.b0).1).trans HSQ2.out.b0
        have e1 := (hX.block _ (Array.getElem?_eq_some_iff.1 HSQ2.out.b1).1).trans HSQ2.out.b1
        have e2 := (hX.block _ lBx).trans HBX.out
        exact ⟨block_cell e0 rfl, block_cell e2 rfl, block_cell e2 rfl, block_cell e1 rfl, (HLK.out X (HSQ2.out.ch.on hX)).1⟩
      have HDW : Hid (Below W.heap.size W W.drew) := (Below.refl _ _).drew
      obtain ⟨t, ht⟩ : ∃ t, ((g : Int) != (f : Int)) = t := ⟨_, rfl⟩
      have HT := hidS ht
      clear hbx hg hq hxA hxB eT eX hsq hsp
      gi_wp2
      refine region_held_in (S := (fun X : World => X.cell? ⟨w.heap.size, 4, none⟩ = some (.map (some gM)) ∧ X.cell? ⟨Bx, 0, none⟩ = some (.int .i64 (xA : Nat)) ∧ X.cell? ⟨Bx, 1, none⟩ = some (.bool xB) ∧ X.cell? ⟨w.heap.size + 1, 0, none⟩ = some (.int .i64 (f : Nat)) ∧ (Instr.lookup 40 (.map (some gM)) (.agg #[.int .i64 (xA : Nat), .bool xB]) false).run Try.prog X = .ok (.int .i64 (g : Nat)) X)) (by kernel_rfl) (by kernel_rfl) (HS.out _ HDW.out) (fun hHeld => ?_)
      refine take_d 17 (i := 0) (v := ?vva0) rfl rfl (by kernel_rfl) (by kernel_rfl) (by kernel_rfl) (Or.inl ⟨by rfl, ?yya0⟩) (by assumption) ?rra0
      case yya0 => (intro w hSw; (try dsimp only at hSw); go_simp; (try with_reducible rfl))
      simp only [List.setIfInBounds_toArray, List.set_cons_succ, List.set_cons_zero]
      refine take_d 18 (i := 1) (v := ?vva1) rfl rfl (by kernel_rfl) (by kernel_rfl) (by kernel_rfl) (Or.inl ⟨by rfl, ?yya1⟩) (by assumption) ?rra1
      case yya1 => (intro w hSw; (try dsimp only at hSw); go_simp; (try with_reducible rfl))
      simp only [List.setIfInBounds_toArray, List.set_cons_succ, List.set_cons_zero]
      refine take_d 19 (i := 2) (v := ?vva2) rfl rfl (by kernel_rfl) (by kernel_rfl) (by kernel_rfl) (Or.inl ⟨by rfl, ?yya2⟩) (by assumption) ?rra2
      case yya2 => (intro w hSw; (try dsimp only at hSw); go_simp; (try with_reducible rfl))
      simp only [List.setIfInBounds_toArray, List.set_cons_succ, List.set_cons_zero]
      refine take_d 20 (i := 3) (v := ?vva3) rfl rfl (by kernel_rfl) (by kernel_rfl) (by kernel_rfl) (Or.inl ⟨by rfl, ?yya3⟩) (by assumption) ?rra3
      case yya3 => (intro w hSw; (try dsimp only at hSw); go_simp; (try with_reducible rfl))
      simp only [List.setIfInBounds_toArray, List.set_cons_succ, List.set_cons_zero]
      refine take_d 21 (i := 4) (v := ?vva4) rfl rfl (by kernel_rfl) (by kernel_rfl) (by kernel_rfl) (Or.inl ⟨by rfl, ?yya4⟩) (by assumption) ?rra4
      case yya4 => (intro w hSw; (try dsimp only at hSw); go_simp; (try with_reducible rfl))
      simp only [List.setIfInBounds_toArray, List.set_cons_succ, List.set_cons_zero]
      refine take_d 22 (i := 5) (v := ?vva5) rfl rfl (by kernel_rfl) (by kernel_rfl) (by kernel_rfl) (Or.inl ⟨by rfl, ?yya5⟩) (by assumption) ?rra5
      case yya5 => (intro w hSw; (try dsimp only at hSw); go_simp; (try with_reducible rfl))
      simp only [List.setIfInBounds_toArray, List.set_cons_succ, List.set_cons_zero]
      refine wpAnyH_done (by kernel_rfl) ?_ _
      simp only [OnlyN]
      clear hHeld ht
      have HSQ3 := hidS (HSQ2.out.keep (Nat.le_refl _) HLT.out (grown_below HDW.out none) (fun r e => by cases e))
      have HKF := hidS (KeepsFrom.of_grownBy (B := W1.heap.size) (grown_below HDW.out none) (fun q hq => by cases hq))
      cases t with
      | true =>
        have hne : g ≠ f := fun e => by have := HT.out; rw [e] at this; simp at this
        gi_wp2
        refine ⟨HKF.out, rfl, M, HSQ3.out, ?_⟩
        rw [HPR.out]
        exact HSP2.out.pass (Or.inl (by rw [HG.out]; exact hne))
      | false =>
        have hge : g = f := by have := HT.out; simp at this; omega
        obtain ⟨X, hX⟩ : ∃ X, W.drew = X := ⟨_, rfl⟩
        rw [hX] at HSQ3 HDW HKF ⊢
        have hbn : X.heap[w.heap.size + 3]? = W.heap[w.heap.size + 3]? := by rw [← hX]; rfl
        have hsX : X.heap.size = W.heap.size := by rw [← hX]; rfl
        have HBN := hidS hbn
        have HX := HSQ3.out
        have hbxX := (HDW.out.block _ lBx).trans HBX.out
        have HBX2 := hidS hbxX
        obtain ⟨mq, hmq⟩ : ∃ mq, M.getD q 0 = mq := ⟨_, rfl⟩
        have HMQ := hidS hmq
        have e0 := HX.b0
        rw [HF.out] at e0
        have y0 : X.cell? ⟨w.heap.size, 0, none⟩ = some (.slice a C.length cap) := block_cell e0 rfl
        have y1 : X.cell? ⟨w.heap.size, 1, none⟩ = some (.int .i64 loops) := block_cell e0 rfl
        have y2 : X.cell? ⟨w.heap.size, 2, none⟩ = some (.slice (some ⟨gF, 0, none⟩) (2 * C.length + 1) cF) := block_cell e0 rfl
        have y3 : X.cell? ⟨w.heap.size, 3, none⟩ = some (.slice (some ⟨gT, 0, none⟩) (2 * C.length + 1) cT) := block_cell e0 rfl
        have y4 : X.cell? ⟨w.heap.size, 4, none⟩ = some (.map (some gM)) := block_cell e0 rfl
        have y5 : X.cell? ⟨w.heap.size, 5, none⟩ = some (.slice (some ⟨gS, 0, none⟩) F F) := block_cell e0 rfl
        have y6 : X.cell? ⟨w.heap.size + 1 + 1, 0, none⟩ = some (.int .i64 (z : Nat)) := block_cell HX.b2 rfl
        have u0 : X.cell? ⟨Bx, 0, none⟩ = some (.int .i64 (xA : Nat)) := block_cell hbxX rfl
        have u1 : X.cell? ⟨Bx, 1, none⟩ = some (.bool xB) := block_cell hbxX rfl
        have hlk := (HLK.out X HX.ch).2
        have y8 : X.cell? ⟨gS, q, none⟩ = some (.int .i64 mq) := by
          have h := HX.ch.sh.cellAt q (by rw [HF.out]; omega)
          rw [h, intsV_get M q (by rw [HSP2.out.sd.1, HF.out]; exact hqF), hmq]
        have hqi : (q : Int) < (F : Int) := by omega
        have lgs : gS < X.heap.size := by have := HX.ch.lt.2.2.2.1; exact this
        have lw0 : w.heap.size < X.heap.size := by omega
        have lw2 : w.heap.size + 1 + 1 < X.heap.size := by omega
        have lBX : Bx < X.heap.size := by omega
        clear e0 hbxX hX HX hmq hbn
        by_cases hm1 : mq = -1
        · have hmt : (mq == -1) = true := by rw [hm1]; rfl
          have harc := HSH.out.arc x0 hx0a hx0b
          rw [HG.out, HQ.out, hge, HZ.out] at harc
          have hsub : IntKind.i64.wrap (1 - (z : Int)) = ((s q : Nat) : Int) := by
            rw [IntWalk.i64_in _ (by omega)]
            omega
          have IHq := hidS (IH.out a cap gF cF gT cT gM gS q M X (by have := HSP2.out.less; have := HK.out; omega) (by rw [HF.out]; exact hqF) (by rw [HMQ.out]; exact hm1) HSP2.out.sd HSQ3.out.ch)
          unfold chV at IHq
          rw [HF.out] at IHq
          clear hm1 harc
          gi_wp2
          refine ⟨trivial, ?_⟩
          refine (CallsIn.inRound l (callsIn_wide.2 IHq.out)).mono ?_
          rintro e9 w9 ⟨rfl, L', hpd, hch9, hg9⟩
          have far : ∀ (j : Nat) (o : Obj), w.heap.size ≤ j → X.heap[j]? = some o → w9.heap[j]? = some o := fun j o hj ho => (hg9.block j (Array.getElem?_eq_some_iff.1 ho).1 (fun e => by have := Option.some.inj e; have := HLT.out.2.2.2.1; omega)).trans ho
          have HS9 : Hid (SqAt w w9 (w.heap.size + 3) a cap C loops gF cF gT cT gM gS f z L') := ⟨hch9, far _ _ (Nat.le_refl _) HSQ3.out.b0, far _ _ (by omega) HSQ3.out.b1, far _ _ (by omega) HSQ3.out.b2, far _ _ (by omega) HSQ3.out.bn, grown_trans HSQ3.out.gr hg9, Nat.le_trans HSQ3.out.size hg9.size⟩
          have HKN := hidS ((far _ _ (by omega) HSQ3.out.bn).trans HSQ2.out.bn.symm)
          have HK9 := hidS (KeepsFrom.of_grownBy (B := W1.heap.size) (grown_trans (grown_below HDW.out (some gS)) hg9) (fun q hq => by have := Option.some.inj hq; have := HLT.out.2.2.2.1; omega))
          have HP9 := hidS hpd
          clear hpd hch9 hg9 far
          simp only
          gi_wp2
          refine ⟨HK9.out, HKN.out, L', HS9.out, ?_⟩
          rw [HPR.out]
          exact HSP2.out.step (by rw [HQ.out]; exact HP9.out)
        · have hmt : (mq == -1) = false := by simpa using hm1
          gi_wp2
          refine ⟨HKF.out, HBN.out, M, HSQ3.out, ?_⟩
          rw [HPR.out]
          exact HSP2.out.pass (Or.inr (by rw [HQ.out, HMQ.out]; exact hm1))
    case done =>
      rintro D ys W hD hys ⟨M, hsq, hsp⟩ hK
      have HSQ2 := hidS hsq
      have HSP2 := hidS hsp
      have HKD : Hid (W.heap[D]? = some (Obj.deferred (some []))) := hK
      have HYS := hidS hys
      clear hsq hsp hK hys
      simp only
      go_wp2
      have hg := grownBy_putObj' W D (.deferred none)
      have HF2 := HSQ2.out.keep (Nat.le_refl _) HLT.out hg (fun r e => by have := Option.some.inj e; omega)
      refine ⟨by simp, .inl ⟨_, _, rfl, run_takeDeferred HKD.out, ?_⟩⟩
      refine ⟨_, results_none rfl _ _ _, rfl, M, HSP2.out.spd (fun j h1 h2 => ?_), HF2.ch, HF2.gr⟩
      have e := dl_val C.length (2 * C.length) (Nat.le_refl _)
      rw [HYS.out, e]
      exact List.mem_map.2 ⟨j - 1, List.mem_range.2 (by omega), by omega⟩
    case stop =>
      rintro D c pre W _ _ h _
      exact h.elim
end Go.Proofs.Ytlcogbcpmneknaa

/- Several texts of the proof, one behind the other. -/
import Derived.Test.YtagaajlbkfkaiaaMV2P
import Derived.Test.YtagaajlbkfkaiaaMV3
import Derived.Test.YtagaajlbkfkaiaaMV9
import Derived.Test.YtagaajlbkfkaiaaMVt
import Derived.Test.YtagaajlbkfkaiaaMVcP
import Derived.Test.YtagaajlbkfkaiaaMW4
import Derived.Test.YtagaajlbkfkaiaaME12P
/- Moves: what laid and moved do and the document's DoMove answers, side by side. Made by genmpa.py out of MP1. -/
namespace Go.Proofs.Ytagaajlbkfkaiaa
open Go.RowKit

theorem faceRingsM : FaceRingsOk := fun a cap C loops gF cF gT cT w hm hD => faceRings_ok a cap C loops gF cF gT cT w hm hD
theorem laid_all (a : Option Addr) (cap : Nat) (C : List Cr) (loops : Int) (w : World) (hm : mayD C loops = true) (hp : planarB C = true) (h : Crs w w.heap.size (.slice a C.length cap) C) : ∀ W, Below w.heap.size w W → Calls Try.prog 29 #[.agg #[.slice a C.length cap, .int .i64 loops]] W fun e w' => ∃ gF cF gT cT, e = .returned (drV a cap C loops gF cF gT cT) ∧ Dr w' a cap C gF gT ∧ Below W.heap.size W w' :=
  fun W hW => (laid_yes faceRingsM a cap C loops W hm hp (h.up hW)).mono fun _ _ ⟨gF, cF, gT, cT, h1, h2, h3⟩ => ⟨gF, cF, gT, cT, h1, h2.1, h3⟩
/-- Where a move gives up. -/
theorem do_no (a : Option Addr) (cap : Nat) (C : List Cr) (loops k x y ua va : Int) (ub vb ov : Bool) (why : Int) (w : World) (hm : mayD C loops = true) (hp : planarB C = true) (h : Crs w w.heap.size (.slice a C.length cap) C)
    (hM : ∀ W gF cF gT cT, Dr W a cap C gF gT → Calls Try.prog 30 #[drV a cap C loops gF cF gT cT, mvV k x y ua ub va vb ov] W fun e w' => e = .panicked (gaveUp why) ∧ Below W.heap.size W w') (hw : why ≠ 0 := by decide) :
    Ways a cap C loops ⟨k, x, y, ua, ub, va, vb, ov⟩ [] 0 why w := Or.inr ⟨laid_all a cap C loops w hm hp h, Or.inl ⟨rfl, rfl, hw, hM⟩⟩
/-- Where a move is done. -/
theorem do_yes (a : Option Addr) (cap : Nat) (C : List Cr) (loops k x y ua va : Int) (ub vb ov : Bool) (D : List Cr) (lo : Int) (w : World) (hm : mayD C loops = true) (hp : planarB C = true) (h : Crs w w.heap.size (.slice a C.length cap) C)
    (hM : ∀ W gF cF gT cT, Dr W a cap C gF gT → Calls Try.prog 30 #[drV a cap C loops gF cF gT cT, mvV k x y ua ub va vb ov] W fun e w' => ∃ a2 c2, e = .returned (.agg #[.slice a2 D.length c2, .int .i64 lo]) ∧ w'.ownsRow W.heap.size 71 5 (.slice a2 D.length c2) D.length (crossCells D) ∧ Below W.heap.size W w') :
    Ways a cap C loops ⟨k, x, y, ua, ub, va, vb, ov⟩ D lo 0 w := Or.inr ⟨laid_all a cap C loops w hm hp h, Or.inr ⟨rfl, hM⟩⟩

end Go.Proofs.Ytagaajlbkfkaiaa
/- Takings: what both do with a move that takes something out, told exactly. -/
namespace Go.Proofs.Ytagaajlbkfkaiaa
open Go.RowKit

def moG : List Nat → Mo
  | [x] => ⟨2, x, 0, 0, false, 0, false, false⟩
  | [x, y] => ⟨4, x, y, 0, false, 0, false, false⟩
  | _ => Mo.none
/-- What the program does with it. -/
def Wyq (C : List Cr) (lo : Int) (m : Mo) (D : List Cr) (lo2 ce : Int) : Prop := ∀ (a : Option Addr) (cap : Nat) (w : World), Crs w w.heap.size (.slice a C.length cap) C → Ways a cap C lo m D lo2 ce w
theorem take_ways {C : List Cr} {loops : Int} {G : List Nat} (hm : mayD C loops = true) (hp : planarB C = true) (hG : G ∈ tkA C.length) :
    (okG C loops G = true → Wyq C loops (moG G) (takC C G) (takL C loops G) 0) ∧ (okG C loops G = false → ∃ ce, (ce = 8 ∨ ce = 2) ∧ Wyq C loops (moG G) [] 0 ce) := by
  rcases mem_tkA.1 hG with ⟨x, hxl, rfl⟩ | ⟨x, y, hxy', hyl, rfl⟩
  · have hs := curl_same hm x hxl
    cases hcu : cuB C x with
    | false =>
      rw [hcu] at hs
      refine ⟨fun h => ?_, fun _ => ⟨8, Or.inl rfl, fun a cap w h => ?_⟩⟩
      · have h3 : (caB C x && decide (takL C loops [x] ≤ 16)) = true := h
        rw [hs] at h3
        cases h3
      · exact do_no a cap C loops 2 x 0 0 0 false false false 8 w hm hp h (fun W gF cF gT cT hd => moved_no kf2 a cap C loops gF cF gT cT 8 x 0 0 0 false false false W (fun W2 hW2 => uncurl_no2 a cap C loops gF cF gT cT 2 0 0 0 x false false false W2 hm (hd.on hW2) hxl hcu))
    | true =>
      rw [hcu] at hs
      have hok : okG C loops [x] = decide (takL C loops [x] ≤ 16) := by
        show (caB C x && decide (takL C loops [x] ≤ 16)) = _
        rw [hs, Bool.true_and]
      refine ⟨fun h a cap w hC => ?_, fun h => ⟨2, Or.inr rfl, fun a cap w hC => ?_⟩⟩
      · have hL : takL C loops [x] ≤ 16 := by rw [hok] at h; exact of_decide_eq_true h
        exact do_yes a cap C loops 2 x 0 0 0 false false false _ _ w hm hp hC (fun W gF cF gT cT hd => moved_yes kf2 a cap C loops gF cF gT cT x 0 0 0 false false false W _ _ (fun W2 hW2 => uncurl_yes a cap C loops gF cF gT cT 2 0 0 0 x false false false W2 hm (hd.on hW2) hxl hcu hL))
      · have hL : ¬ takL C loops [x] ≤ 16 := by rw [hok] at h; exact of_decide_eq_false h
        exact do_no a cap C loops 2 x 0 0 0 false false false 2 w hm hp hC (fun W gF cF gT cT hd => moved_no kf2 a cap C loops gF cF gT cT 2 x 0 0 0 false false false W (fun W2 hW2 => uncurl_no3 a cap C loops gF cF gT cT 2 0 0 0 x false false false W2 hm (hd.on hW2) hxl hcu (by omega)))
  · have hxl : x < C.length := by omega
    have hxy : x ≠ y := by omega
    have hj : jlR C x y = jlB C x y := funext (jl_same C x y)
    cases hja : (facesM C).any (jlB C x y) with
    | false =>
      refine ⟨fun h => ?_, fun _ => ⟨8, Or.inl rfl, fun a cap w h => ?_⟩⟩
      · have h3 : ((facesM C).any (jlR C x y) && decide (takL C loops [x, y] ≤ 16)) = true := h
        rw [hj, hja] at h3
        cases h3
      · exact do_no a cap C loops 4 x y 0 0 false false false 8 w hm hp h (fun W gF cF gT cT hd => moved_no kf4 a cap C loops gF cF gT cT 8 x y 0 0 false false false W (fun W2 hW2 => pull_no2 a cap C loops gF cF gT cT 4 0 0 x y false false false W2 hm (hd.on hW2) hxl hyl hxy hja))
    | true =>
      have hok : okG C loops [x, y] = decide (takL C loops [x, y] ≤ 16) := by
        show ((facesM C).any (jlR C x y) && decide (takL C loops [x, y] ≤ 16)) = _
        rw [hj, hja, Bool.true_and]
      refine ⟨fun h a cap w hC => ?_, fun h => ⟨2, Or.inr rfl, fun a cap w hC => ?_⟩⟩
      · have hL : takL C loops [x, y] ≤ 16 := by rw [hok] at h; exact of_decide_eq_true h
        exact do_yes a cap C loops 4 x y 0 0 false false false _ _ w hm hp hC (fun W gF cF gT cT hd => moved_yes kf4 a cap C loops gF cF gT cT x y 0 0 false false false W _ _ (fun W2 hW2 => pull_yes a cap C loops gF cF gT cT 4 0 0 x y false false false W2 hm (hd.on hW2) hxl hyl hxy hja hL))
      · have hL : ¬ takL C loops [x, y] ≤ 16 := by rw [hok] at h; exact of_decide_eq_false h
        exact do_no a cap C loops 4 x y 0 0 false false false 2 w hm hp hC (fun W gF cF gT cT hd => moved_no kf4 a cap C loops gF cF gT cT 2 x y 0 0 false false false W (fun W2 hW2 => pull_no3 a cap C loops gF cF gT cT 4 0 0 x y false false false W2 hm (hd.on hW2) hxl hyl hxy hja (by omega)))
/-- What moves.Do answers, out of what laid and moved do. -/
theorem do_ways (a : Option Addr) (cap : Nat) (C : List Cr) (loops : Int) (m : Mo) (D : List Cr) (lo ce : Int) (w : World) (h : Ways a cap C loops m D lo ce w) : Calls Try.prog 9 #[.agg #[.slice a C.length cap, .int .i64 loops], m.val] w fun e w' => RsAt w D lo ce e w' := by
  obtain ⟨k, x, y, ua, ub, va, vb, ov⟩ := m
  rcases h with ⟨rfl, rfl, rfl, h⟩ | ⟨hL, ⟨rfl, rfl, -, hM⟩ | ⟨rfl, hM⟩⟩
  · exact (mvDo_state a C.length cap loops k x y ua va ub vb ov w h).mono fun e w' ⟨h1, h2⟩ => h1 ▸ RsAt.no h2
  · have h0 := mvDo_no a C.length cap loops k x y ua va ub vb ov w (2 * C.length + 1) (fun gF _ gT _ W => Dr W a cap C gF gT) ce hL (fun W gF cF gT cT _ hd => hM W gF cF gT cT hd)
    exact h0.mono fun e w' ⟨h1, h2⟩ => h1 ▸ RsAt.no h2
  · have h0 := mvDo_yes a C.length cap loops k x y ua va ub vb ov w (2 * C.length + 1) (fun gF _ gT _ W => Dr W a cap C gF gT)
      (fun a2 n2 c2 l2 W => n2 = D.length ∧ l2 = lo ∧ W.ownsRow (w.heap.size + 4) 71 5 (.slice a2 D.length c2) D.length (crossCells D))
      (fun a2 n2 c2 l2 W U W' ⟨h1, h2, h3⟩ g1 g2 => ⟨h1, h2, by
        have hq : ∀ q, q < w.heap.size + 4 → (Value.slice a2 D.length c2).ownBlock = none ∨ (Value.slice a2 D.length c2).ownBlock ≠ some q := fun q hq => by
          cases hv : (Value.slice a2 D.length c2).ownBlock with
          | none => exact Or.inl rfl
          | some k => exact Or.inr (fun e => by have h4 := (h3.lt k hv).1; have h5 := Option.some.inj e; omega)
        exact (h3.kept g1 (hq _ (by omega))).kept g2 (hq _ (by omega))⟩)
      hL
      (fun W gF cF gT cT _ hs hd => (hM W gF cF gT cT hd).mono fun e w' ⟨a2, c2, h1, h2, h3⟩ => ⟨a2, D.length, c2, lo, h1, ⟨rfl, rfl, own_low h2 hs⟩, h3⟩)
    refine h0.mono fun e w' hh => ?_
    obtain ⟨a2, n2, c2, l2, h1, ⟨rfl, rfl, h3⟩, h4⟩ := hh
    exact ⟨a2, c2, h1, own_low h3 (by omega), h4⟩
end Go.Proofs.Ytagaajlbkfkaiaa

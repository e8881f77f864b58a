/- Several texts of the proof, one behind the other. -/
import Derived.Test.YthlmkoiilgjflaaGD0P
/- The last strand combed: what is asked of few strands, reckoned. -/
namespace Go.Proofs.Ythlmkoiilgjflaa

/-- The last strand goes to place k. -/
def cw (N k : Nat) : List Int := (List.range (N - k)).map fun i => -((N - 1 - i : Nat) : Int)
/-- The last strand around the one at |x|. -/
def aw1 (N : Nat) (x : Int) : List Int := cw N (x.natAbs + 1) ++ [x, x] ++ rc (cw N (x.natAbs + 1))
def awL (N : Nat) (l : List Int) : List Int := l.flatMap (aw1 N)
/-- A letter behind the last strand's way. -/
def cmb (k : Nat) (x : Int) : List Int × List Int × Nat :=
  if k < x.natAbs then ([if 0 < x then x - 1 else x + 1], [], k)
  else if x.natAbs = k then (if 0 < x then ([], [], k + 1) else ([], [x], k + 1))
  else if x.natAbs + 1 = k then (if 0 < x then ([], [x], k - 1) else ([], [], k - 1))
  else ([x], [], k)
/-- What a letter makes of one around. -/
def img1 (y j : Int) : List Int :=
  if 0 < y then (if j = y + 1 then [y] else if j = y then [y, y + 1, -y] else [j])
  else (if j = -y then [-y + 1] else if j = -y + 1 then [y - 1, -y, -y + 1] else [j])
def img0 (y x : Int) : List Int := if 0 < x then img1 y x else rc (img1 y (-x))
def img (y x : Int) : List Int := (img0 (-y) (-x)).map fun z => -z
def lets (n : Nat) : List Int := (List.range n).flatMap fun i => [((i + 1 : Nat) : Int), -((i + 1 : Nat) : Int)]
def okC (N : Nat) : Bool := (List.range N).all fun k => (lets (N - 1)).all fun x => decide (nfW N (cw N (k + 1) ++ [x]) = nfW N ((cmb (k + 1) x).1 ++ awL N (cmb (k + 1) x).2.1 ++ cw N (cmb (k + 1) x).2.2))
def okI (N : Nat) : Bool := (lets (N - 1)).all fun x => (lets (N - 2)).all fun y => decide (nfW N (aw1 N x ++ [y]) = nfW N (y :: awL N (img y x)))
theorem okC_2 : okC 2 = true := by decide +kernel
theorem okC_3 : okC 3 = true := by decide +kernel
theorem okC_4 : okC 4 = true := by decide +kernel
theorem okI_3 : okI 3 = true := by decide +kernel
theorem okI_4 : okI 4 = true := by decide +kernel
end Go.Proofs.Ythlmkoiilgjflaa
/- The last strand combed: what is asked of few strands, reckoned (a). -/
namespace Go.Proofs.Ythlmkoiilgjflaa
theorem okC_5 : okC 5 = true := by decide +kernel
theorem okC_6 : okC 6 = true := by decide +kernel
end Go.Proofs.Ythlmkoiilgjflaa

/- A contract of the library ((*strings.Builder).grow at a builder without a buffer), applied to this translation: which function is which, and one application. -/
import Derived.Shelf.Strings.Builder2
import Derived.Test.YtdigjjgdfpccpaaDoorDShelf
namespace Go.Proofs
open Go.Shelf
def Tryd.laysG_ren : Go.Shelf.Ren := ⟨fun | 241 => 25 | 277 => 28 | n => n, fun | 70 => 53 | 0 => 0 | 72 => 55 | 37 => 46 | 3 => 3 | 5 => 5 | n => n, fun | n => n⟩
theorem Tryd.laysG : Go.Proofs.Lays.n241 Tryd.prog Tryd.laysG_ren := {
  mixed := by kernel_rfl
  f241 := Tryd.func25.trans (congrArg some (by kernel_rfl))
  f277 := Tryd.func28.trans (congrArg some (by kernel_rfl))
  t0 := Tryd.underlying0
  a0 := Tryd.isAgg0
  z0 := Tryd.sizeOf0
  v0 := Tryd.zeroValue0
  t3 := Tryd.underlying3
  a3 := Tryd.isAgg3
  z3 := Tryd.sizeOf3
  v3 := Tryd.zeroValue3
  t37 := Tryd.underlying46
  a37 := Tryd.isAgg46
  z37 := Tryd.sizeOf46
  v37 := Tryd.zeroValue46
  t70 := Tryd.underlying53
  a70 := Tryd.isAgg53
  z70 := Tryd.sizeOf53
  v70 := Tryd.zeroValue53
  t72 := Tryd.underlying55
  a72 := Tryd.isAgg55
  z72 := Tryd.sizeOf55
  v72 := Tryd.zeroValue55 }
theorem Tryd.Builder_Extra_G : Builder.Extra Tryd.prog Tryd.laysG_ren := {
  sizeBuilder := by kernel_rfl
  liesBuilder := by kernel_rfl
  t5 := Tryd.underlying5
  a5 := Tryd.isAgg5
  z5 := Tryd.sizeOf5
  v5 := Tryd.zeroValue5
  infoByte := by kernel_rfl
  cellsByte := by kernel_rfl
  sizeByte := by kernel_rfl
  neB5 := by decide }
open Go.RowKit in
theorem Tryd.grow_fresh (B b n : Nat) (w : World) (hB : B ≤ b) (hbk : w.heap[b]? = some (.cells #[.pointer (some ⟨b, 0, none⟩), .slice none 0 0] 55 (0, 0))) (hBw : B ≤ w.heap.size) (hn : n ≤ 281474976710656) :
    Calls Tryd.prog 25 #[.pointer (some ⟨b, 0, none⟩), .int .i64 n] w fun e w' => e = .returned (.tuple #[]) ∧ (Lib.BuilderAt 55 5 B b (.pointer (some ⟨b, 0, none⟩)) [] w' ∧ Below B w w') := Any.Builder_grow_fresh Tryd.laysG Tryd.Builder_Extra_G B b n w hB hbk hBw hn
end Go.Proofs

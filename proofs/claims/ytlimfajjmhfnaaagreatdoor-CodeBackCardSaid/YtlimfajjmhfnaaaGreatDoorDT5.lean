/- The walk of knotworkref.Dec: it tells the decimal numeral of every number of at most a million in size. -/
import Derived.Test.YtlimfajjmhfnaaaGreatDoorW5dP
import Derived.Lib.ItoaNum
import Derived.Lib.ItoaLen
import Derived.Lib.ItoaMem
import Derived.Laws.IdiomStrings
import Derived.Deep.RegionWith
namespace Go.Proofs.YtlimfajjmhfnaaaGreatDoor
open Go.RowKit

/-- The digit of a number below 10. -/
def digB (n : Int) : UInt8 := UInt8.ofNat (48 + n.toNat)

theorem digit_back (n : Int) (h0 : 0 ≤ n) (h : n < 10) (W : World) (g : Nat) (hc : W.cell? ⟨g, 0, none⟩ = some (.int .u8 (48 + n))) :
    (convert 95 9 (.slice (some ⟨g, 0, none⟩) 1 1)).run Tryz.prog W = .ok (.string ⟨#[digB n]⟩) W := by
  refine run_convert_bytes_back (P := Tryz.prog) W 95 9 5 ⟨g, 0, none⟩ 1 [digB n] Tryz.underlying95 Tryz.underlying5 Tryz.underlying9 ?_
  intro j hj
  obtain rfl : j = 0 := by simpa using hj
  rw [Addr.add_lit]
  simp only [List.getElem_cons_zero]
  rw [hc]
  have : (digB n).toNat = 48 + n.toNat := by
    unfold digB; simp; omega
  rw [this]
  congr 2
  omega

theorem ret_str {a b : List UInt8} (h : a = b) : Ending.returned (.string ⟨a.toArray⟩) = .returned (.string ⟨b.toArray⟩) := by rw [h]

theorem dec_len (n : Int) (h0 : 0 ≤ n) (h : n ≤ 1000000) : (Lib.decDigits n.toNat).length ≤ 21 := by
  have := Lib.itoa_length_le n (by omega) (by omega)
  obtain ⟨m, rfl⟩ := Int.eq_ofNat_of_zero_le h0
  rwa [Lib.itoa_nonneg] at this

theorem dec_one (n : Int) (h0 : 0 ≤ n) (h : n < 10) : Lib.decDigits n.toNat = [digB n] := Lib.decDigits_one (by omega)

theorem dec_more (n : Int) (h : 10 ≤ n) : Lib.decDigits n.toNat = Lib.decDigits (n / 10).toNat ++ [digB (n % 10)] := by
  rw [Lib.decDigits, dif_neg (by omega)]
  unfold digB
  rw [show n.toNat / 10 = (n / 10).toNat by omega, show n.toNat % 10 = (n % 10).toNat by omega]

end Go.Proofs.YtlimfajjmhfnaaaGreatDoor

/- The same, of the greatest. -/
import Derived.Test.YtnlcknlodjjdbaaDoorTS1P
namespace Go.Proofs.YtnlcknlodjjdbaaDoor
theorem ok_31 : okX 31 = true := by decide +kernel
theorem ok_33 : okX 33 = true := by decide +kernel
theorem ok_35 : okX 35 = true := by decide +kernel
theorem ok_37 : okX 37 = true := by decide +kernel
theorem ok_39 : okX 39 = true := by decide +kernel
end Go.Proofs.YtnlcknlodjjdbaaDoor

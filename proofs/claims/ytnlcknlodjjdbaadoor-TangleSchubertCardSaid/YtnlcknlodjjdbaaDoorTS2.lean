/- The same, of the greater ones. -/
import Derived.Test.YtnlcknlodjjdbaaDoorTS1P
namespace Go.Proofs.YtnlcknlodjjdbaaDoor
theorem ok_21 : okX 21 = true := by decide +kernel
theorem ok_23 : okX 23 = true := by decide +kernel
theorem ok_25 : okX 25 = true := by decide +kernel
theorem ok_27 : okX 27 = true := by decide +kernel
theorem ok_29 : okX 29 = true := by decide +kernel
end Go.Proofs.YtnlcknlodjjdbaaDoor

/- The numbers of layer 6's awake, reckoned. -/
import Derived.Test.YthaljnnkpfeooaaDiskMore
import Derived.Test.YthaljnnkpfeooaaDiskMem
import Derived.Test.YthaljnnkpfeooaaDiskBlock
set_option linter.unusedVariables false
namespace Go.Proofs.Ythaljnnkpfeooaa
open Go.RowKit

namespace Aw
def B7 : List UInt8 := blockL [7]
def d0 : Dk := Dk.blank 16
def d1 : Dk := (d0.write 3 B7).1
def d2 : Dk := d1.crash [5]
def b : List UInt8 := (d2.read 3).2.1
def d3 : Dk := (d2.read 3).1
def d6 : Dk := (d3.stop 0).1
def d7 : Dk := d6.flush.1
theorem r1 : (d0.write 3 B7).2 = 0 := by decide +kernel
theorem r3 : (d2.read 3).2.2 = 0 := by decide +kernel
theorem bl : b.length = 256 := by decide +kernel
theorem b0 : b.getD 0 9 = 7 := by decide +kernel
theorem b64 : b.getD 64 9 = 0 := by decide +kernel
theorem b128 : b.getD 128 9 = 7 := by decide +kernel
theorem b192 : b.getD 192 9 = 0 := by decide +kernel
theorem w4 : d3.write 16 (blockL []) = (d3, 10) := by decide +kernel
theorem w5 : d3.write 3 [] = (d3, 11) := by decide +kernel
theorem s6 : (d3.stop 0).2 = 0 := by decide +kernel
theorem f7 : d6.flush.2 = 9 := by decide +kernel
theorem f8 : d7.flush = (d7, 9) := by decide +kernel
theorem o8 : d7.off = true := by decide +kernel
theorem c8 : d7.reads = 1 ∧ d7.writes = 1 ∧ d7.flushes = 0 := by decide +kernel
theorem s9 : d7.stop (-1) = (d7, 1) := by decide +kernel
theorem l0 : d0.load ≤ 100000 := by decide +kernel
theorem l2 : d2.load ≤ 100000 := by decide +kernel
theorem l3 : d3.load ≤ 100000 := by decide +kernel
theorem l6 : d6.load ≤ 100000 := by decide +kernel
theorem l7 : d7.load ≤ 100000 := by decide +kernel
end Aw

end Go.Proofs.Ythaljnnkpfeooaa

/-
  Proved: what classOf, fits and Wind return. No condition but the range of an int.
-/
import Derived.Test.YtkjolejppnogiaaGreatDoorFn
set_option linter.unusedVariables false
set_option linter.unusedSimpArgs false
open Go Go.Proofs Go.RowKit
set_option maxRecDepth 100000
namespace Go.Mk
/-- The class of a name: the kind of its marks, its unit, and whether there is one. -/
def cls (n : ByteArray) : (ByteArray × Int) × Bool :=
  if n.toList == [104, 117, 110, 100, 114, 101, 100, 116, 104, 115] then ((sTime, 100), true)
  else if n.toList == [116, 101, 110, 116, 104, 115] then ((sTime, 1000), true)
  else if n.toList == [99, 101, 110, 116, 105, 109, 101, 116, 114, 101, 115] then ((sLength, 10), true)
  else if n.toList == [101, 120, 97, 99, 116] then ((⟨#[]⟩, 1), true)
  else ((⟨#[]⟩, 0), false)

/-- Whether a class is one for the marks of a kind. -/
def fitsB (k s : ByteArray) : Bool := (s.toList == [110, 111, 110, 101]) || k.toList.isEmpty || (k.toList == s.toList)
/-- Hundredths in tenths, rounded upwards. -/
def windUp (n : Int) : Int := if n > 0 ∧ n % 10 ≠ 0 then n / 10 + 1 else if n > 0 then n / 10 else -((-n) / 10)
end Go.Mk

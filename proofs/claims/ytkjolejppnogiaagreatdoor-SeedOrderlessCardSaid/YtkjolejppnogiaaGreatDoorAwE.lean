/-
  Proved: the two functions without a body are as the second machine takes them. No condition.
-/
import Derived.Test.YtkjolejppnogiaaGreatDoorEvC
import Derived.Test.YtkjolejppnogiaaGreatDoorSn
open Go Go.Ev Go.Proofs
set_option maxRecDepth 100000
namespace Go.Snap
theorem envOK (w : World) : EnvOK (withW E0 w) :=
  envOK_two (E := withW E0 w) (fa := 239) (fb := 240) (e := 5) (t := 256) (fna := Tryz.f239) (fnb := Tryz.f240) rfl (by decide) Tryz.func239 (by kernel_rfl) (by kernel_rfl) (by kernel_rfl) (by kernel_rfl)
    Tryz.func240 (by kernel_rfl) (by kernel_rfl) (by kernel_rfl) (ps := #[3]) (by kernel_rfl) (by kernel_rfl) (by kernel_rfl)
theorem enter10 : CF.enter Tryz.prog 10 #[] = some F0 := by kernel_rfl
end Go.Snap

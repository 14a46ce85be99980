/-
  Proved: the two functions without a body are as the second machine takes them. No condition.
-/
import Derived.Test.YtclapdfkgafenaaGreatDoorEvC
import Derived.Test.YtclapdfkgafenaaGreatDoorSn
open Go Go.Ev Go.Proofs
set_option maxRecDepth 100000
namespace Go.Snap
theorem envOK (w : World) : EnvOK (withW E0 w) :=
  envOK_two (E := withW E0 w) (fa := 221) (fb := 222) (e := 5) (t := 221) (fna := Tryz.f221) (fnb := Tryz.f222) rfl (by decide) Tryz.func221 (by kernel_rfl) (by kernel_rfl) (by kernel_rfl) (by kernel_rfl)
    Tryz.func222 (by kernel_rfl) (by kernel_rfl) (by kernel_rfl) (ps := #[3]) (by kernel_rfl) (by kernel_rfl) (by kernel_rfl)
theorem enter7 : CF.enter Tryz.prog 7 #[] = some F0 := by kernel_rfl
end Go.Snap

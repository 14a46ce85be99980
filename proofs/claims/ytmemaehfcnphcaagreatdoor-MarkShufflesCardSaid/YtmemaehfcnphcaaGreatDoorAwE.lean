/-
  Proved: the two functions without a body are as the second machine takes them. No condition.
-/
import Derived.Test.YtmemaehfcnphcaaGreatDoorEvC
import Derived.Test.YtmemaehfcnphcaaGreatDoorSn
open Go Go.Ev Go.Proofs
set_option maxRecDepth 100000
namespace Go.Snap
theorem envOK (w : World) : EnvOK (withW E0 w) :=
  envOK_two (E := withW E0 w) (fa := 209) (fb := 210) (e := 5) (t := 202) (fna := Tryz.f209) (fnb := Tryz.f210) rfl (by decide) Tryz.func209 (by kernel_rfl) (by kernel_rfl) (by kernel_rfl) (by kernel_rfl)
    Tryz.func210 (by kernel_rfl) (by kernel_rfl) (by kernel_rfl) (ps := #[3]) (by kernel_rfl) (by kernel_rfl) (by kernel_rfl)
theorem enter4 : CF.enter Tryz.prog 4 #[] = some F0 := by kernel_rfl
end Go.Snap

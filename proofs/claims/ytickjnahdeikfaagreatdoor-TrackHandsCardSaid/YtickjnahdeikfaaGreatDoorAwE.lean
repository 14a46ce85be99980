/-
  Proved: the two functions without a body are as the second machine takes them. No condition.
-/
import Derived.Test.YtickjnahdeikfaaGreatDoorEvC
import Derived.Test.YtickjnahdeikfaaGreatDoorSn
open Go Go.Ev Go.Proofs
set_option maxRecDepth 100000
namespace Go.Snap
theorem envOK (w : World) : EnvOK (withW E0 w) :=
  envOK_two (E := withW E0 w) (fa := 212) (fb := 213) (e := 5) (t := 236) (fna := Tryz.f212) (fnb := Tryz.f213) rfl (by decide) Tryz.func212 (by kernel_rfl) (by kernel_rfl) (by kernel_rfl) (by kernel_rfl)
    Tryz.func213 (by kernel_rfl) (by kernel_rfl) (by kernel_rfl) (ps := #[3]) (by kernel_rfl) (by kernel_rfl) (by kernel_rfl)
theorem enter9 : CF.enter Tryz.prog 9 #[] = some F0 := by kernel_rfl
end Go.Snap

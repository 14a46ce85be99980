/-
  Proved: the two functions without a body are as the second machine takes them. No condition.
-/
import Derived.Test.YtkijfebfpodgfaaGreatDoorEvC
import Derived.Test.YtkijfebfpodgfaaGreatDoorSn
open Go Go.Ev Go.Proofs
set_option maxRecDepth 100000
namespace Go.Snap
theorem envOK (w : World) : EnvOK (withW E0 w) :=
  envOK_two (E := withW E0 w) (fa := 215) (fb := 216) (e := 5) (t := 240) (fna := Tryz.f215) (fnb := Tryz.f216) rfl (by decide) Tryz.func215 (by kernel_rfl) (by kernel_rfl) (by kernel_rfl) (by kernel_rfl)
    Tryz.func216 (by kernel_rfl) (by kernel_rfl) (by kernel_rfl) (ps := #[3]) (by kernel_rfl) (by kernel_rfl) (by kernel_rfl)
theorem enter13 : CF.enter Tryz.prog 13 #[] = some F0 := by kernel_rfl
end Go.Snap

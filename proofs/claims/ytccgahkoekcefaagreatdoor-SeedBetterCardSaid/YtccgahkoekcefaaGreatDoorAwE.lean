/-
  Proved: the two functions without a body are as the second machine takes them. No condition.
-/
import Derived.Test.YtccgahkoekcefaaGreatDoorEvC
import Derived.Test.YtccgahkoekcefaaGreatDoorSn
open Go Go.Ev Go.Proofs
set_option maxRecDepth 100000
namespace Go.Snap
theorem envOK (w : World) : EnvOK (withW E0 w) :=
  envOK_two (E := withW E0 w) (fa := 226) (fb := 227) (e := 5) (t := 223) (fna := Tryz.f226) (fnb := Tryz.f227) rfl (by decide) Tryz.func226 (by kernel_rfl) (by kernel_rfl) (by kernel_rfl) (by kernel_rfl)
    Tryz.func227 (by kernel_rfl) (by kernel_rfl) (by kernel_rfl) (ps := #[3]) (by kernel_rfl) (by kernel_rfl) (by kernel_rfl)
theorem enter9 : CF.enter Tryz.prog 9 #[] = some F0 := by kernel_rfl
end Go.Snap

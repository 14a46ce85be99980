/-
  Proved: the two functions without a body are as the second machine takes them. No condition.
-/
import Derived.Test.YtclkcooomikiiaaGreatDoorEvC
import Derived.Test.YtclkcooomikiiaaGreatDoorSn
open Go Go.Ev Go.Proofs
set_option maxRecDepth 100000
namespace Go.Snap
theorem envOK (w : World) : EnvOK (withW E0 w) :=
  envOK_two (E := withW E0 w) (fa := 230) (fb := 231) (e := 5) (t := 219) (fna := Tryz.f230) (fnb := Tryz.f231) rfl (by decide) Tryz.func230 (by kernel_rfl) (by kernel_rfl) (by kernel_rfl) (by kernel_rfl)
    Tryz.func231 (by kernel_rfl) (by kernel_rfl) (by kernel_rfl) (ps := #[3]) (by kernel_rfl) (by kernel_rfl) (by kernel_rfl)
theorem enter5 : CF.enter Tryz.prog 5 #[] = some F0 := by kernel_rfl
end Go.Snap

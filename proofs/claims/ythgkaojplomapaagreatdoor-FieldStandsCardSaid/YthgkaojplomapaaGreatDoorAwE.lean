/-
  Proved: the two functions without a body are as the second machine takes them. No condition.
-/
import Derived.Test.YthgkaojplomapaaGreatDoorEvC
import Derived.Test.YthgkaojplomapaaGreatDoorSn
open Go Go.Ev Go.Proofs
set_option maxRecDepth 100000
namespace Go.Snap
theorem envOK (w : World) : EnvOK (withW E0 w) :=
  envOK_two (E := withW E0 w) (fa := 232) (fb := 233) (e := 5) (t := 223) (fna := Tryz.f232) (fnb := Tryz.f233) rfl (by decide) Tryz.func232 (by kernel_rfl) (by kernel_rfl) (by kernel_rfl) (by kernel_rfl)
    Tryz.func233 (by kernel_rfl) (by kernel_rfl) (by kernel_rfl) (ps := #[3]) (by kernel_rfl) (by kernel_rfl) (by kernel_rfl)
theorem enter7 : CF.enter Tryz.prog 7 #[] = some F0 := by kernel_rfl
end Go.Snap

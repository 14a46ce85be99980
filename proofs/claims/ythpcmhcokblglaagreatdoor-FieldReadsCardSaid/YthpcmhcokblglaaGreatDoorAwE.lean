/-
  Proved: the two functions without a body are as the second machine takes them. No condition.
-/
import Derived.Test.YthpcmhcokblglaaGreatDoorEvC
import Derived.Test.YthpcmhcokblglaaGreatDoorSn
open Go Go.Ev Go.Proofs
set_option maxRecDepth 100000
namespace Go.Snap
theorem envOK (w : World) : EnvOK (withW E0 w) :=
  envOK_two (E := withW E0 w) (fa := 223) (fb := 224) (e := 5) (t := 197) (fna := Tryz.f223) (fnb := Tryz.f224) rfl (by decide) Tryz.func223 (by kernel_rfl) (by kernel_rfl) (by kernel_rfl) (by kernel_rfl)
    Tryz.func224 (by kernel_rfl) (by kernel_rfl) (by kernel_rfl) (ps := #[3]) (by kernel_rfl) (by kernel_rfl) (by kernel_rfl)
theorem enter8 : CF.enter Tryz.prog 8 #[] = some F0 := by kernel_rfl
end Go.Snap

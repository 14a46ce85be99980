/-
  Proved: pieces 6, 7, 8 of the run of awake on the second machine. No condition.
-/
import Derived.Test.YtkjolejppnogiaaGreatDoorSn1
import Derived.Test.YtkjolejppnogiaaGreatDoorEvC
section
set_option maxRecDepth 1000000
set_option maxHeartbeats 0
open Go Go.Ev
namespace Go.Snap
theorem piece6 : (runF E0 (regC E0) 10000000 17 F6 S6 C6).map (fun x => (x.1, x.2.1, x.2.2.keep [17, 19, 152, 158, 162, 167, 361, 367, 371, 376, 377, 378, 379, 463, 522, 523, 528, 529])) = some (F7, S7, C7) := by kernel_rfl
end Go.Snap
end
section
set_option maxRecDepth 1000000
set_option maxHeartbeats 0
open Go Go.Ev
namespace Go.Snap
noncomputable def O7 : Oper := match (ops_ 28 [1, 1, 1, 1, 1, 0, 1, 0, 0, 0])[0]? with
  | some o => o
  | none => ⟨none, .move (.tmp 0), 0, "", #[], none⟩
theorem at7 : (ops_ 28 [1, 1, 1, 1, 1, 0, 1, 0, 0, 0])[0]? = some O7 := by kernel_rfl
theorem op7 : O7.op = .next (.tmp 38) false := by kernel_rfl
theorem want7 : Region.wanted O7 (F7.yielded (ops_ 28 [1, 1, 1, 1, 1, 0, 1, 0, 0, 0])) = true := by kernel_rfl
theorem ok7 : opsOK E0.g O7 = true := by kernel_rfl
theorem br7 : nextCs E0.g C7 (F7.eval (.tmp 38)) = some [(.tuple ⟨[.bool false]⟩, C8)] := by kernel_rfl
theorem to7_8 : (⟨(F7.put O7.dst (.tuple ⟨[.bool false]⟩)).fn, (F7.put O7.dst (.tuple ⟨[.bool false]⟩)).n, (F7.put O7.dst (.tuple ⟨[.bool false]⟩)).tmps, F8.todo, (F7.put O7.dst (.tuple ⟨[.bool false]⟩)).marks, (F7.put O7.dst (.tuple ⟨[.bool false]⟩)).round⟩ : CF) = F8 := by kernel_rfl
end Go.Snap
end
section
set_option maxRecDepth 1000000
set_option maxHeartbeats 0
open Go Go.Ev
namespace Go.Snap
theorem piece8 : (runF E0 (regC E0) 10000000 1580 F8 S8 C8).map (fun x => (x.1, x.2.1, x.2.2.keep [17, 19, 152, 158, 162, 167, 361, 367, 371, 376, 377, 378, 379, 463, 534, 535, 536, 537, 694, 959, 969, 972, 977])) = some (F9, S9, C9) := by kernel_rfl
end Go.Snap
end

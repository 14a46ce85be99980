/-
  Proved: pieces 12, 13 of the run of awake on the second machine. No condition.
-/
import Derived.Test.YtkjolejppnogiaaGreatDoorEvC
import Derived.Test.YtkjolejppnogiaaGreatDoorSn
section
set_option maxRecDepth 1000000
set_option maxHeartbeats 0
open Go Go.Ev
namespace Go.Snap
noncomputable def O12 : Oper := match (ops_ 28 [1, 1, 1, 1, 1, 0, 1, 0, 0, 0])[0]? with
  | some o => o
  | none => ⟨none, .move (.tmp 0), 0, "", #[], none⟩
theorem at12 : (ops_ 28 [1, 1, 1, 1, 1, 0, 1, 0, 0, 0])[0]? = some O12 := by kernel_rfl
theorem op12 : O12.op = .next (.tmp 38) false := by kernel_rfl
theorem want12 : Region.wanted O12 (F12.yielded (ops_ 28 [1, 1, 1, 1, 1, 0, 1, 0, 0, 0])) = true := by kernel_rfl
theorem ok12 : opsOK E0.g O12 = true := by kernel_rfl
theorem br12 : nextCs E0.g C12 (F12.eval (.tmp 38)) = some [(.tuple ⟨[.bool false]⟩, C13)] := by kernel_rfl
theorem to12_13 : (⟨(F12.put O12.dst (.tuple ⟨[.bool false]⟩)).fn, (F12.put O12.dst (.tuple ⟨[.bool false]⟩)).n, (F12.put O12.dst (.tuple ⟨[.bool false]⟩)).tmps, F13.todo, (F12.put O12.dst (.tuple ⟨[.bool false]⟩)).marks, (F12.put O12.dst (.tuple ⟨[.bool false]⟩)).round⟩ : CF) = F13 := by kernel_rfl
end Go.Snap
end
section
set_option maxRecDepth 1000000
set_option maxHeartbeats 0
open Go Go.Ev
namespace Go.Snap
theorem piece13 : (runF E0 (regC E0) 10000000 2601 F13 S13 C13).map (fun x => (x.1, x.2.1, x.2.2.keep [17, 19, 152, 158, 162, 167, 361, 367, 371, 376, 377, 378, 379, 463, 534, 535, 536, 537, 694, 959, 969, 972, 977, 1057, 1058, 1059, 1077, 1081, 1084, 1085, 1163, 1167, 1168, 1169, 1174, 1176, 1177, 1178, 1180, 1181, 1183])) = some (F14, S14, C14) := by kernel_rfl
end Go.Snap
end

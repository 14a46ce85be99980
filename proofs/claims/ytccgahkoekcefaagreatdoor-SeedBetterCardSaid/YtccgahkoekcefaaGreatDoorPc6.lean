/-
  Proved: pieces 6, 7 of the run of awake on the second machine. No condition.
-/
import Derived.Test.YtccgahkoekcefaaGreatDoorEvC
import Derived.Test.YtccgahkoekcefaaGreatDoorSn
section
set_option maxRecDepth 1000000
set_option maxHeartbeats 0
open Go Go.Ev
namespace Go.Snap
noncomputable def O6 : Oper := match (ops_ 27 [1, 1, 1, 1, 1, 0, 1, 0, 0, 0])[0]? with
  | some o => o
  | none => ⟨none, .move (.tmp 0), 0, "", #[], none⟩
theorem at6 : (ops_ 27 [1, 1, 1, 1, 1, 0, 1, 0, 0, 0])[0]? = some O6 := by kernel_rfl
theorem op6 : O6.op = .next (.tmp 38) false := by kernel_rfl
theorem want6 : Region.wanted O6 (F6.yielded (ops_ 27 [1, 1, 1, 1, 1, 0, 1, 0, 0, 0])) = true := by kernel_rfl
theorem ok6 : opsOK E0.g O6 = true := by kernel_rfl
theorem br6 : nextCs E0.g C6 (F6.eval (.tmp 38)) = some [(.tuple ⟨[.bool false]⟩, C7)] := by kernel_rfl
theorem to6_7 : (⟨(F6.put O6.dst (.tuple ⟨[.bool false]⟩)).fn, (F6.put O6.dst (.tuple ⟨[.bool false]⟩)).n, (F6.put O6.dst (.tuple ⟨[.bool false]⟩)).tmps, F7.todo, (F6.put O6.dst (.tuple ⟨[.bool false]⟩)).marks, (F6.put O6.dst (.tuple ⟨[.bool false]⟩)).round⟩ : CF) = F7 := by kernel_rfl
end Go.Snap
end
section
set_option maxRecDepth 1000000
set_option maxHeartbeats 0
open Go Go.Ev
namespace Go.Snap
theorem piece7 : (runF E0 (regC E0) 10000000 2601 F7 S7 C7).map (fun x => (x.1, x.2.1, x.2.2.keep [17, 19, 152, 158, 162, 167, 361, 367, 371, 376, 377, 378, 379, 463, 534, 535, 536, 537, 694, 959, 969, 972, 977, 1057, 1058, 1059, 1077, 1081, 1084, 1085, 1163, 1167, 1168, 1169, 1174, 1176, 1177, 1178, 1180, 1181, 1183])) = some (F8, S8, C8) := by kernel_rfl
end Go.Snap
end

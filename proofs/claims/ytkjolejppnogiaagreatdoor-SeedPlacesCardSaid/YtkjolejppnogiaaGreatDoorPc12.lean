/-
  Proved: pieces 12, 13, 14 of the run of awake on the second machine. No condition.
-/
import Derived.Test.YtkjolejppnogiaaGreatDoorEvC
import Derived.Test.YtkjolejppnogiaaGreatDoorSn1
section
set_option maxRecDepth 1000000
set_option maxHeartbeats 0
open Go Go.Ev
namespace Go.Snap
noncomputable def O12 : Oper := match (ops_ 28 [1, 1, 1, 1, 1, 0, 1, 0, 0, 0])[0]? with
  | some o => o
  | none => ⟨none, .move (.tmp 0), 0, "", #[], none⟩
theorem at12 : (ops_ 28 [1, 1, 1, 1, 1, 0, 1, 0, 0, 0])[0]? = some O12 := by kernel_rfl
theorem op12 : O12.op = .next (.tmp 38) false := by kernel_rfl
theorem want12 : Region.wanted O12 (F12.yielded (ops_ 28 [1, 1, 1, 1, 1, 0, 1, 0, 0, 0])) = true := by kernel_rfl
theorem ok12 : opsOK E0.g O12 = true := by kernel_rfl
theorem br12 : nextCs E0.g C12 (F12.eval (.tmp 38)) = some [(.tuple ⟨[.bool true, .string ⟨⟨[114, 101, 100]⟩⟩, .int .i64 3]⟩, C13)] := by kernel_rfl
theorem to12_13 : (⟨(F12.put O12.dst (.tuple ⟨[.bool true, .string ⟨⟨[114, 101, 100]⟩⟩, .int .i64 3]⟩)).fn, (F12.put O12.dst (.tuple ⟨[.bool true, .string ⟨⟨[114, 101, 100]⟩⟩, .int .i64 3]⟩)).n, (F12.put O12.dst (.tuple ⟨[.bool true, .string ⟨⟨[114, 101, 100]⟩⟩, .int .i64 3]⟩)).tmps, F13.todo, (F12.put O12.dst (.tuple ⟨[.bool true, .string ⟨⟨[114, 101, 100]⟩⟩, .int .i64 3]⟩)).marks, (F12.put O12.dst (.tuple ⟨[.bool true, .string ⟨⟨[114, 101, 100]⟩⟩, .int .i64 3]⟩)).round⟩ : CF) = F13 := by kernel_rfl
end Go.Snap
end
section
set_option maxRecDepth 1000000
set_option maxHeartbeats 0
open Go Go.Ev
namespace Go.Snap
theorem piece13 : (runF E0 (regC E0) 10000000 17 F13 S13 C13).map (fun x => (x.1, x.2.1, x.2.2.keep [17, 19, 152, 158, 162, 167, 361, 367, 371, 376, 377, 378, 379, 463, 522, 523, 528, 529])) = some (F14, S14, C14) := by kernel_rfl
end Go.Snap
end
section
set_option maxRecDepth 1000000
set_option maxHeartbeats 0
open Go Go.Ev
namespace Go.Snap
noncomputable def O14 : Oper := match (ops_ 28 [1, 1, 1, 1, 1, 0, 1, 0, 0, 0])[0]? with
  | some o => o
  | none => ⟨none, .move (.tmp 0), 0, "", #[], none⟩
theorem at14 : (ops_ 28 [1, 1, 1, 1, 1, 0, 1, 0, 0, 0])[0]? = some O14 := by kernel_rfl
theorem op14 : O14.op = .next (.tmp 38) false := by kernel_rfl
theorem want14 : Region.wanted O14 (F14.yielded (ops_ 28 [1, 1, 1, 1, 1, 0, 1, 0, 0, 0])) = true := by kernel_rfl
theorem ok14 : opsOK E0.g O14 = true := by kernel_rfl
theorem br14 : nextCs E0.g C14 (F14.eval (.tmp 38)) = some [(.tuple ⟨[.bool false]⟩, C15)] := by kernel_rfl
theorem to14_15 : (⟨(F14.put O14.dst (.tuple ⟨[.bool false]⟩)).fn, (F14.put O14.dst (.tuple ⟨[.bool false]⟩)).n, (F14.put O14.dst (.tuple ⟨[.bool false]⟩)).tmps, F15.todo, (F14.put O14.dst (.tuple ⟨[.bool false]⟩)).marks, (F14.put O14.dst (.tuple ⟨[.bool false]⟩)).round⟩ : CF) = F15 := by kernel_rfl
end Go.Snap
end

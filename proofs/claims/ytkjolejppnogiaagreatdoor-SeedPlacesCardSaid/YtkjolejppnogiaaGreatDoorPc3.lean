/-
  Proved: pieces 3, 4, 5 of the run of awake on the second machine. No condition.
-/
import Derived.Test.YtkjolejppnogiaaGreatDoorSn1
import Derived.Test.YtkjolejppnogiaaGreatDoorEvC
section
set_option maxRecDepth 1000000
set_option maxHeartbeats 0
open Go Go.Ev
namespace Go.Snap
theorem piece3 : (runF E0 (regC E0) 10000000 17 F3 S3 C3).map (fun x => (x.1, x.2.1, x.2.2.keep [17, 19, 152, 158, 162, 167, 361, 367, 371, 376, 377, 378, 379, 463, 522, 523, 528, 529])) = some (F5, S5, C5) := by kernel_rfl
end Go.Snap
end
section
set_option maxRecDepth 1000000
set_option maxHeartbeats 0
open Go Go.Ev
namespace Go.Snap
theorem piece4 : (runF E0 (regC E0) 10000000 17 F4 S4 C4).map (fun x => (x.1, x.2.1, x.2.2.keep [17, 19, 152, 158, 162, 167, 361, 367, 371, 376, 377, 378, 379, 463, 522, 523, 528, 529])) = some (F12, S12, C12) := by kernel_rfl
end Go.Snap
end
section
set_option maxRecDepth 1000000
set_option maxHeartbeats 0
open Go Go.Ev
namespace Go.Snap
noncomputable def O5 : Oper := match (ops_ 28 [1, 1, 1, 1, 1, 0, 1, 0, 0, 0])[0]? with
  | some o => o
  | none => ⟨none, .move (.tmp 0), 0, "", #[], none⟩
theorem at5 : (ops_ 28 [1, 1, 1, 1, 1, 0, 1, 0, 0, 0])[0]? = some O5 := by kernel_rfl
theorem op5 : O5.op = .next (.tmp 38) false := by kernel_rfl
theorem want5 : Region.wanted O5 (F5.yielded (ops_ 28 [1, 1, 1, 1, 1, 0, 1, 0, 0, 0])) = true := by kernel_rfl
theorem ok5 : opsOK E0.g O5 = true := by kernel_rfl
theorem br5 : nextCs E0.g C5 (F5.eval (.tmp 38)) = some [(.tuple ⟨[.bool true, .string ⟨⟨[98, 108, 117, 101]⟩⟩, .int .i64 2]⟩, C6)] := by kernel_rfl
theorem to5_6 : (⟨(F5.put O5.dst (.tuple ⟨[.bool true, .string ⟨⟨[98, 108, 117, 101]⟩⟩, .int .i64 2]⟩)).fn, (F5.put O5.dst (.tuple ⟨[.bool true, .string ⟨⟨[98, 108, 117, 101]⟩⟩, .int .i64 2]⟩)).n, (F5.put O5.dst (.tuple ⟨[.bool true, .string ⟨⟨[98, 108, 117, 101]⟩⟩, .int .i64 2]⟩)).tmps, F6.todo, (F5.put O5.dst (.tuple ⟨[.bool true, .string ⟨⟨[98, 108, 117, 101]⟩⟩, .int .i64 2]⟩)).marks, (F5.put O5.dst (.tuple ⟨[.bool true, .string ⟨⟨[98, 108, 117, 101]⟩⟩, .int .i64 2]⟩)).round⟩ : CF) = F6 := by kernel_rfl
end Go.Snap
end

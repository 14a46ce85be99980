/-
  Proved: pieces 0, 1 of the run of awake on the second machine. No condition.
-/
import Derived.Test.YtccgahkoekcefaaGreatDoorSn
import Derived.Test.YtccgahkoekcefaaGreatDoorEvC
section
set_option maxRecDepth 1000000
set_option maxHeartbeats 0
open Go Go.Ev
namespace Go.Snap
theorem piece0 : (runF E0 (regC E0) 10000000 1695 F0 S0 C0).map (fun x => (x.1, x.2.1, x.2.2.keep [17, 19, 152, 158, 162, 167, 361, 367, 371, 376, 377, 378, 379, 463, 522, 523, 528, 529])) = some (F1, S1, C1) := by kernel_rfl
end Go.Snap
end
section
set_option maxRecDepth 1000000
set_option maxHeartbeats 0
open Go Go.Ev
namespace Go.Snap
noncomputable def O1 : Oper := match (ops_ 27 [1, 1, 1, 1, 1, 0, 1, 0, 0, 0])[0]? with
  | some o => o
  | none => ⟨none, .move (.tmp 0), 0, "", #[], none⟩
theorem at1 : (ops_ 27 [1, 1, 1, 1, 1, 0, 1, 0, 0, 0])[0]? = some O1 := by kernel_rfl
theorem op1 : O1.op = .next (.tmp 38) false := by kernel_rfl
theorem want1 : Region.wanted O1 (F1.yielded (ops_ 27 [1, 1, 1, 1, 1, 0, 1, 0, 0, 0])) = true := by kernel_rfl
theorem ok1 : opsOK E0.g O1 = true := by kernel_rfl
theorem br1 : nextCs E0.g C1 (F1.eval (.tmp 38)) = some [(.tuple ⟨[.bool true, .string ⟨⟨[114, 101, 100]⟩⟩, .int .i64 3]⟩, C2), (.tuple ⟨[.bool true, .string ⟨⟨[98, 108, 117, 101]⟩⟩, .int .i64 2]⟩, C3)] := by kernel_rfl
theorem to1_2 : (⟨(F1.put O1.dst (.tuple ⟨[.bool true, .string ⟨⟨[114, 101, 100]⟩⟩, .int .i64 3]⟩)).fn, (F1.put O1.dst (.tuple ⟨[.bool true, .string ⟨⟨[114, 101, 100]⟩⟩, .int .i64 3]⟩)).n, (F1.put O1.dst (.tuple ⟨[.bool true, .string ⟨⟨[114, 101, 100]⟩⟩, .int .i64 3]⟩)).tmps, F2.todo, (F1.put O1.dst (.tuple ⟨[.bool true, .string ⟨⟨[114, 101, 100]⟩⟩, .int .i64 3]⟩)).marks, (F1.put O1.dst (.tuple ⟨[.bool true, .string ⟨⟨[114, 101, 100]⟩⟩, .int .i64 3]⟩)).round⟩ : CF) = F2 := by kernel_rfl
theorem to1_3 : (⟨(F1.put O1.dst (.tuple ⟨[.bool true, .string ⟨⟨[98, 108, 117, 101]⟩⟩, .int .i64 2]⟩)).fn, (F1.put O1.dst (.tuple ⟨[.bool true, .string ⟨⟨[98, 108, 117, 101]⟩⟩, .int .i64 2]⟩)).n, (F1.put O1.dst (.tuple ⟨[.bool true, .string ⟨⟨[98, 108, 117, 101]⟩⟩, .int .i64 2]⟩)).tmps, F3.todo, (F1.put O1.dst (.tuple ⟨[.bool true, .string ⟨⟨[98, 108, 117, 101]⟩⟩, .int .i64 2]⟩)).marks, (F1.put O1.dst (.tuple ⟨[.bool true, .string ⟨⟨[98, 108, 117, 101]⟩⟩, .int .i64 2]⟩)).round⟩ : CF) = F3 := by kernel_rfl
end Go.Snap
end

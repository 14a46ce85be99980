/-
  Proved: pieces 0, 1, 2 of the run of awake on the second machine. No condition.
-/
import Derived.Test.YtkjolejppnogiaaGreatDoorSn1
import Derived.Test.YtkjolejppnogiaaGreatDoorEvC
section
set_option maxRecDepth 1000000
set_option maxHeartbeats 0
open Go Go.Ev
namespace Go.Snap
theorem piece0 : (runF E0 (regC E0) 10000000 1503 F0 S0 C0).map (fun x => (x.1, x.2.1, x.2.2.keep [17, 19, 152, 158, 162, 167, 361, 367, 371, 376, 377, 378, 379, 463, 464, 506])) = some (F1, S1, C1) := by kernel_rfl
end Go.Snap
end
section
set_option maxRecDepth 1000000
set_option maxHeartbeats 0
open Go Go.Ev
namespace Go.Snap
theorem piece1 : (runF E0 (regC E0) 10000000 192 F1 S1 C1).map (fun x => (x.1, x.2.1, x.2.2.keep [17, 19, 152, 158, 162, 167, 361, 367, 371, 376, 377, 378, 379, 463, 522, 523, 528, 529])) = some (F2, S2, C2) := by kernel_rfl
end Go.Snap
end
section
set_option maxRecDepth 1000000
set_option maxHeartbeats 0
open Go Go.Ev
namespace Go.Snap
noncomputable def O2 : Oper := match (ops_ 28 [1, 1, 1, 1, 1, 0, 1, 0, 0, 0])[0]? with
  | some o => o
  | none => ⟨none, .move (.tmp 0), 0, "", #[], none⟩
theorem at2 : (ops_ 28 [1, 1, 1, 1, 1, 0, 1, 0, 0, 0])[0]? = some O2 := by kernel_rfl
theorem op2 : O2.op = .next (.tmp 38) false := by kernel_rfl
theorem want2 : Region.wanted O2 (F2.yielded (ops_ 28 [1, 1, 1, 1, 1, 0, 1, 0, 0, 0])) = true := by kernel_rfl
theorem ok2 : opsOK E0.g O2 = true := by kernel_rfl
theorem br2 : nextCs E0.g C2 (F2.eval (.tmp 38)) = some [(.tuple ⟨[.bool true, .string ⟨⟨[114, 101, 100]⟩⟩, .int .i64 3]⟩, C3), (.tuple ⟨[.bool true, .string ⟨⟨[98, 108, 117, 101]⟩⟩, .int .i64 2]⟩, C4)] := by kernel_rfl
theorem to2_3 : (⟨(F2.put O2.dst (.tuple ⟨[.bool true, .string ⟨⟨[114, 101, 100]⟩⟩, .int .i64 3]⟩)).fn, (F2.put O2.dst (.tuple ⟨[.bool true, .string ⟨⟨[114, 101, 100]⟩⟩, .int .i64 3]⟩)).n, (F2.put O2.dst (.tuple ⟨[.bool true, .string ⟨⟨[114, 101, 100]⟩⟩, .int .i64 3]⟩)).tmps, F3.todo, (F2.put O2.dst (.tuple ⟨[.bool true, .string ⟨⟨[114, 101, 100]⟩⟩, .int .i64 3]⟩)).marks, (F2.put O2.dst (.tuple ⟨[.bool true, .string ⟨⟨[114, 101, 100]⟩⟩, .int .i64 3]⟩)).round⟩ : CF) = F3 := by kernel_rfl
theorem to2_4 : (⟨(F2.put O2.dst (.tuple ⟨[.bool true, .string ⟨⟨[98, 108, 117, 101]⟩⟩, .int .i64 2]⟩)).fn, (F2.put O2.dst (.tuple ⟨[.bool true, .string ⟨⟨[98, 108, 117, 101]⟩⟩, .int .i64 2]⟩)).n, (F2.put O2.dst (.tuple ⟨[.bool true, .string ⟨⟨[98, 108, 117, 101]⟩⟩, .int .i64 2]⟩)).tmps, F4.todo, (F2.put O2.dst (.tuple ⟨[.bool true, .string ⟨⟨[98, 108, 117, 101]⟩⟩, .int .i64 2]⟩)).marks, (F2.put O2.dst (.tuple ⟨[.bool true, .string ⟨⟨[98, 108, 117, 101]⟩⟩, .int .i64 2]⟩)).round⟩ : CF) = F4 := by kernel_rfl
end Go.Snap
end

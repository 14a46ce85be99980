/-
  Proved: pieces 10, 11 of the run of awake on the second machine. No condition.
-/
import Derived.Test.YtkjolejppnogiaaGreatDoorEvC
import Derived.Test.YtkjolejppnogiaaGreatDoorSn
section
set_option maxRecDepth 1000000
set_option maxHeartbeats 0
open Go Go.Ev
namespace Go.Snap
noncomputable def O10 : Oper := match (ops_ 28 [1, 1, 1, 1, 1, 0, 1, 0, 0, 0])[0]? with
  | some o => o
  | none => ⟨none, .move (.tmp 0), 0, "", #[], none⟩
theorem at10 : (ops_ 28 [1, 1, 1, 1, 1, 0, 1, 0, 0, 0])[0]? = some O10 := by kernel_rfl
theorem op10 : O10.op = .next (.tmp 38) false := by kernel_rfl
theorem want10 : Region.wanted O10 (F10.yielded (ops_ 28 [1, 1, 1, 1, 1, 0, 1, 0, 0, 0])) = true := by kernel_rfl
theorem ok10 : opsOK E0.g O10 = true := by kernel_rfl
theorem br10 : nextCs E0.g C10 (F10.eval (.tmp 38)) = some [(.tuple ⟨[.bool true, .string ⟨⟨[114, 101, 100]⟩⟩, .int .i64 3]⟩, C11)] := by kernel_rfl
theorem to10_11 : (⟨(F10.put O10.dst (.tuple ⟨[.bool true, .string ⟨⟨[114, 101, 100]⟩⟩, .int .i64 3]⟩)).fn, (F10.put O10.dst (.tuple ⟨[.bool true, .string ⟨⟨[114, 101, 100]⟩⟩, .int .i64 3]⟩)).n, (F10.put O10.dst (.tuple ⟨[.bool true, .string ⟨⟨[114, 101, 100]⟩⟩, .int .i64 3]⟩)).tmps, F11.todo, (F10.put O10.dst (.tuple ⟨[.bool true, .string ⟨⟨[114, 101, 100]⟩⟩, .int .i64 3]⟩)).marks, (F10.put O10.dst (.tuple ⟨[.bool true, .string ⟨⟨[114, 101, 100]⟩⟩, .int .i64 3]⟩)).round⟩ : CF) = F11 := by kernel_rfl
end Go.Snap
end
section
set_option maxRecDepth 1000000
set_option maxHeartbeats 0
open Go Go.Ev
namespace Go.Snap
theorem piece11 : (runF E0 (regC E0) 10000000 17 F11 S11 C11).map (fun x => (x.1, x.2.1, x.2.2.keep [17, 19, 152, 158, 162, 167, 361, 367, 371, 376, 377, 378, 379, 463, 522, 523, 528, 529])) = some (F12, S12, C12) := by kernel_rfl
end Go.Snap
end

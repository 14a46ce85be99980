/-
  Proved: pieces 8, 9 of the run of awake on the second machine. No condition.
-/
import Derived.Test.YtccgahkoekcefaaGreatDoorSn
import Derived.Test.YtccgahkoekcefaaGreatDoorEvC
section
set_option maxRecDepth 1000000
set_option maxHeartbeats 0
open Go Go.Ev
namespace Go.Snap
theorem piece8 : (match goF E0 (regC E0) 10000000 F8 S8 C8 with | some (v, _) => (match v with | .bool b => b | _ => false) | none => false) = true := by kernel_rfl
end Go.Snap
end
section
set_option maxRecDepth 1000000
set_option maxHeartbeats 0
open Go Go.Ev
namespace Go.Snap
noncomputable def O9 : Oper := match (ops_ 27 [1, 1, 1, 1, 1, 0, 1, 0, 0, 0])[0]? with
  | some o => o
  | none => ⟨none, .move (.tmp 0), 0, "", #[], none⟩
theorem at9 : (ops_ 27 [1, 1, 1, 1, 1, 0, 1, 0, 0, 0])[0]? = some O9 := by kernel_rfl
theorem op9 : O9.op = .next (.tmp 38) false := by kernel_rfl
theorem want9 : Region.wanted O9 (F9.yielded (ops_ 27 [1, 1, 1, 1, 1, 0, 1, 0, 0, 0])) = true := by kernel_rfl
theorem ok9 : opsOK E0.g O9 = true := by kernel_rfl
theorem br9 : nextCs E0.g C9 (F9.eval (.tmp 38)) = some [(.tuple ⟨[.bool true, .string ⟨⟨[114, 101, 100]⟩⟩, .int .i64 3]⟩, C10)] := by kernel_rfl
theorem to9_10 : (⟨(F9.put O9.dst (.tuple ⟨[.bool true, .string ⟨⟨[114, 101, 100]⟩⟩, .int .i64 3]⟩)).fn, (F9.put O9.dst (.tuple ⟨[.bool true, .string ⟨⟨[114, 101, 100]⟩⟩, .int .i64 3]⟩)).n, (F9.put O9.dst (.tuple ⟨[.bool true, .string ⟨⟨[114, 101, 100]⟩⟩, .int .i64 3]⟩)).tmps, F10.todo, (F9.put O9.dst (.tuple ⟨[.bool true, .string ⟨⟨[114, 101, 100]⟩⟩, .int .i64 3]⟩)).marks, (F9.put O9.dst (.tuple ⟨[.bool true, .string ⟨⟨[114, 101, 100]⟩⟩, .int .i64 3]⟩)).round⟩ : CF) = F10 := by kernel_rfl
end Go.Snap
end

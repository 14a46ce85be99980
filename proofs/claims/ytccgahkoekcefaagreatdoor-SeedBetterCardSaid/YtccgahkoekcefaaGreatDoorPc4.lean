/-
  Proved: pieces 4, 5 of the run of awake on the second machine. No condition.
-/
import Derived.Test.YtccgahkoekcefaaGreatDoorEvC
import Derived.Test.YtccgahkoekcefaaGreatDoorSn
section
set_option maxRecDepth 1000000
set_option maxHeartbeats 0
open Go Go.Ev
namespace Go.Snap
noncomputable def O4 : Oper := match (ops_ 27 [1, 1, 1, 1, 1, 0, 1, 0, 0, 0])[0]? with
  | some o => o
  | none => ⟨none, .move (.tmp 0), 0, "", #[], none⟩
theorem at4 : (ops_ 27 [1, 1, 1, 1, 1, 0, 1, 0, 0, 0])[0]? = some O4 := by kernel_rfl
theorem op4 : O4.op = .next (.tmp 38) false := by kernel_rfl
theorem want4 : Region.wanted O4 (F4.yielded (ops_ 27 [1, 1, 1, 1, 1, 0, 1, 0, 0, 0])) = true := by kernel_rfl
theorem ok4 : opsOK E0.g O4 = true := by kernel_rfl
theorem br4 : nextCs E0.g C4 (F4.eval (.tmp 38)) = some [(.tuple ⟨[.bool true, .string ⟨⟨[98, 108, 117, 101]⟩⟩, .int .i64 2]⟩, C5)] := by kernel_rfl
theorem to4_5 : (⟨(F4.put O4.dst (.tuple ⟨[.bool true, .string ⟨⟨[98, 108, 117, 101]⟩⟩, .int .i64 2]⟩)).fn, (F4.put O4.dst (.tuple ⟨[.bool true, .string ⟨⟨[98, 108, 117, 101]⟩⟩, .int .i64 2]⟩)).n, (F4.put O4.dst (.tuple ⟨[.bool true, .string ⟨⟨[98, 108, 117, 101]⟩⟩, .int .i64 2]⟩)).tmps, F5.todo, (F4.put O4.dst (.tuple ⟨[.bool true, .string ⟨⟨[98, 108, 117, 101]⟩⟩, .int .i64 2]⟩)).marks, (F4.put O4.dst (.tuple ⟨[.bool true, .string ⟨⟨[98, 108, 117, 101]⟩⟩, .int .i64 2]⟩)).round⟩ : CF) = F5 := by kernel_rfl
end Go.Snap
end
section
set_option maxRecDepth 1000000
set_option maxHeartbeats 0
open Go Go.Ev
namespace Go.Snap
theorem piece5 : (runF E0 (regC E0) 10000000 17 F5 S5 C5).map (fun x => (x.1, x.2.1, x.2.2.keep [17, 19, 152, 158, 162, 167, 361, 367, 371, 376, 377, 378, 379, 463, 522, 523, 528, 529])) = some (F6, S6, C6) := by kernel_rfl
end Go.Snap
end

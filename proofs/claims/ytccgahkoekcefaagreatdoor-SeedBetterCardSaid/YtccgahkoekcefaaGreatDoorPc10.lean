/-
  Proved: pieces 10, 11 of the run of awake on the second machine. No condition.
-/
import Derived.Test.YtccgahkoekcefaaGreatDoorSn
import Derived.Test.YtccgahkoekcefaaGreatDoorEvC
section
set_option maxRecDepth 1000000
set_option maxHeartbeats 0
open Go Go.Ev
namespace Go.Snap
theorem piece10 : (runF E0 (regC E0) 10000000 17 F10 S10 C10).map (fun x => (x.1, x.2.1, x.2.2.keep [17, 19, 152, 158, 162, 167, 361, 367, 371, 376, 377, 378, 379, 463, 522, 523, 528, 529])) = some (F11, S11, C11) := by kernel_rfl
end Go.Snap
end
section
set_option maxRecDepth 1000000
set_option maxHeartbeats 0
open Go Go.Ev
namespace Go.Snap
noncomputable def O11 : Oper := match (ops_ 27 [1, 1, 1, 1, 1, 0, 1, 0, 0, 0])[0]? with
  | some o => o
  | none => ⟨none, .move (.tmp 0), 0, "", #[], none⟩
theorem at11 : (ops_ 27 [1, 1, 1, 1, 1, 0, 1, 0, 0, 0])[0]? = some O11 := by kernel_rfl
theorem op11 : O11.op = .next (.tmp 38) false := by kernel_rfl
theorem want11 : Region.wanted O11 (F11.yielded (ops_ 27 [1, 1, 1, 1, 1, 0, 1, 0, 0, 0])) = true := by kernel_rfl
theorem ok11 : opsOK E0.g O11 = true := by kernel_rfl
theorem br11 : nextCs E0.g C11 (F11.eval (.tmp 38)) = some [(.tuple ⟨[.bool false]⟩, C12)] := by kernel_rfl
theorem to11_12 : (⟨(F11.put O11.dst (.tuple ⟨[.bool false]⟩)).fn, (F11.put O11.dst (.tuple ⟨[.bool false]⟩)).n, (F11.put O11.dst (.tuple ⟨[.bool false]⟩)).tmps, F12.todo, (F11.put O11.dst (.tuple ⟨[.bool false]⟩)).marks, (F11.put O11.dst (.tuple ⟨[.bool false]⟩)).round⟩ : CF) = F12 := by kernel_rfl
end Go.Snap
end

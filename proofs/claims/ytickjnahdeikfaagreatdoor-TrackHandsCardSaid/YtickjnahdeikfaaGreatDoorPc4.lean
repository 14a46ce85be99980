/-
  Proved: pieces 4, 5 of the run of awake on the second machine. No condition.
-/
import Derived.Test.YtickjnahdeikfaaGreatDoorSn
section
set_option maxRecDepth 1000000
set_option maxHeartbeats 0
open Go Go.Ev
namespace Go.Snap
theorem piece4 : (runF E0 (regC E0) 10000000 260 F4 S4 C4).map (fun x => (x.1, x.2.1, x.2.2.keep [87, 161, 291, 857, 902, 1025, 1081, 1104, 1106, 1128, 1130, 1131, 1132, 1133, 1134, 1135, 1150, 1157, 1158])) = some (F5, S5, C5) := by kernel_rfl
end Go.Snap
end
section
set_option maxRecDepth 1000000
set_option maxHeartbeats 0
open Go Go.Ev
namespace Go.Snap
theorem piece5 : (runF E0 (regC E0) 10000000 260 F5 S5 C5).map (fun x => (x.1, x.2.1, x.2.2.keep [87, 161, 291, 857, 902, 1025, 1081, 1104, 1106, 1128, 1130, 1131, 1184, 1186, 1187, 1188, 1189, 1190, 1191, 1206, 1213, 1214])) = some (F6, S6, C6) := by kernel_rfl
end Go.Snap
end

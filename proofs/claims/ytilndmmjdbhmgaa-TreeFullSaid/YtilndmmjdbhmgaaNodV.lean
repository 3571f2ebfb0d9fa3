/-
  What is told of a node: on paper, and as cells; what may be made.
-/
import Derived.Test.YtilndmmjdbhmgaaKit
import Derived.Lib.IndexAny
import Derived.Lib.BytesEntry
import Derived.OwnWalk
namespace Go.Proofs.Ytilndmmjdbhmgaa
open Go.RowKit
set_option linter.unusedVariables false
set_option linter.unusedSimpArgs false
set_option maxRecDepth 20000

/-- What is told of a node. -/
structure NodeV where
  kind : Int
  mode : Int
  user : Int
  group : Int
  time : Int
  tgt : ByteArray
  major : Int
  minor : Int
  size : Int
  links : Int
  change : Int
def mayB (n : NodeV) : Bool :=
  (n.kind == 1 || n.kind == 6 || n.kind == 7 || n.kind == 3 || n.kind == 4 || n.kind == 5) &&
  (if n.kind = 3 then !n.tgt.toList.isEmpty && decide (n.tgt.size ≤ 1024) && !decide (0 ≤ Lib.indexByte n.tgt.data.toList 0) else n.tgt.toList.isEmpty) &&
  (if n.kind = 4 ∨ n.kind = 5 then decide (0 ≤ n.major) && decide (n.major ≤ 1048575) && (decide (0 ≤ n.minor) && decide (n.minor ≤ 1048575)) else decide (n.major = 0) && decide (n.minor = 0)) &&
  (decide (0 ≤ n.mode) && decide (n.mode ≤ 4095) && (decide (0 ≤ n.user) && decide (n.user ≤ 2147483647)) && (decide (0 ≤ n.group) && decide (n.group ≤ 2147483647))) &&
  decide (n.size = 0) && decide (n.links = 0) && decide (n.change = 0)
theorem infoNd : (Try.prog.info? 28).map (·.size) = some 11 := by kernel_rfl
/-- What is told of a node, as cells. -/
def nvC (v : NodeV) : List Value := [.int .i64 v.kind, .int .i64 v.mode, .int .i64 v.user, .int .i64 v.group, .int .i64 v.time, .string v.tgt, .int .i64 v.major, .int .i64 v.minor, .int .i64 v.size, .int .i64 v.links, .int .i64 v.change]
theorem nv_one (v : NodeV) : (nvC v).toArray.all (·.oneCell') = true := by simp [nvC, Value.oneCell']
end Go.Proofs.Ytilndmmjdbhmgaa

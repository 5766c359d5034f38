/- Closed facts of the rows. -/
import Derived.Test.YtedjjleckhclcaaMatOpen
namespace Go.Proofs.Ytedjjleckhclcaa
open Go.RowKit Go.WideShapes Go.ChangeShapes
set_option maxRecDepth 100000
theorem Try.own : ownKnob Try.prog.godebug = none := by kernel_rfl
theorem Try.laidOut : laidOutB Try.prog = true := by kernel_rfl
end Go.Proofs.Ytedjjleckhclcaa

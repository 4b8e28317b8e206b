/- A field of a token. -/
import Derived.Test.YtoekhejpompjlaaDoorProg
import Derived.Test.YtoekhejpompjlaaDoorPureB
import Derived.WalkKit
namespace Go.Proofs.YtoekhejpompjlaaDoor
open Go.RowKit Go.Em5 Go.Em6
theorem fld0 (a : Int) (b : ByteArray) (c d : Int) (w : World) : (Instr.field 49 (.agg #[.int .i64 a, .string b, .int .i64 c, .int .i64 d]) 0).run Tryd.prog w = .ok (.int .i64 a) w := by kernel_rfl
theorem fld1 (a : Int) (b : ByteArray) (c d : Int) (w : World) : (Instr.field 49 (.agg #[.int .i64 a, .string b, .int .i64 c, .int .i64 d]) 1).run Tryd.prog w = .ok (.string b) w := by kernel_rfl
theorem fld3 (a : Int) (b : ByteArray) (c d : Int) (w : World) : (Instr.field 49 (.agg #[.int .i64 a, .string b, .int .i64 c, .int .i64 d]) 3).run Tryd.prog w = .ok (.int .i64 d) w := by kernel_rfl
end Go.Proofs.YtoekhejpompjlaaDoor

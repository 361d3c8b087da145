import Derived.Test.YtihodeaeacgdpaaReYb
import Derived.Test.YtihodeaeacgdpaaReYc
import Derived.Test.YtihodeaeacgdpaaReZb
namespace Go.Proofs
open Go.RowKit
set_option linter.unusedVariables false

theorem backs_any (B now per most : Int) (w : World) (b0 : U64 B) (n0 : U64 now) (q0 : U64 per) :
    Calls Try.prog 7 #[.int .u64 B, .int .u64 now, .int .u64 per, .int .i64 most] w fun e w' => e = .returned (.bool true) ∧ Chg [] w w' := back_law (sorts_12.less (by omega)) B now per most w b0 n0 q0
theorem nil_any (w : World) : Calls Try.prog 8 #[] w fun e w' => e = .returned (.bool true) ∧ Chg [] w w' := nil_law (sorts_12.less (by omega)) w
end Go.Proofs

import Derived.Test.YtpddpglccjbpfaaDoorN
import Derived.Test.YtpddpglccjbpfaaDoorL
namespace Go.Proofs.YtpddpglccjbpfaaDoor
open Go Go.RowKit Go.Kt Go.Shelf
attribute [local go_sem] Oper.semAt_some

abbrev encP (p : Nat × Nat) : Array Value := #[.int .i64 p.1, .int .i64 p.2]

end Go.Proofs.YtpddpglccjbpfaaDoor

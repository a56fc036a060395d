import Derived.Test.YtpddpglccjbpfaaDoorR
namespace Go.Proofs.YtpddpglccjbpfaaDoor
open Go Go.RowKit Go.Kt Go.Shelf
attribute [local go_sem] Oper.semAt_some

end Go.Proofs.YtpddpglccjbpfaaDoor

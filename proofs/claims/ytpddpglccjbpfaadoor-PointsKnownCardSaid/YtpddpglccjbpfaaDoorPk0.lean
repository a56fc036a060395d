/- glossarykit.Pick. -/
import Derived.Test.YtpddpglccjbpfaaDoorU
namespace Go.Proofs.YtpddpglccjbpfaaDoor
open Go Go.RowKit Go.Kt Go.Shelf

end Go.Proofs.YtpddpglccjbpfaaDoor

/- What the document's own 'Rows' answers: are two rows of texts one? -/
import Derived.Test.YtoekhejpompjlaaDoorStrs
import Derived.Test.YtoekhejpompjlaaDoorPureA
import Derived.Deep.QuietTactic
import Derived.BigQuiet
namespace Go.Proofs.YtoekhejpompjlaaDoor
open Go.RowKit
set_option linter.unusedSimpArgs false

end Go.Proofs.YtoekhejpompjlaaDoor

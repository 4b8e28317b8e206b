/- What the document's own 'one' answers: the token that stands at the head. -/
import Derived.Test.YtlniokcekjemdaaDoorRLexM
import Derived.Test.YtlniokcekjemdaaDoorRLexS
namespace Go.Proofs.YtlniokcekjemdaaDoor
open Go.RowKit
set_option linter.unusedSimpArgs false

end Go.Proofs.YtlniokcekjemdaaDoor

/- What the document's own Same of tokens answers. -/
import Derived.Test.YtoekhejpompjlaaDoorToks0
namespace Go.Proofs.YtoekhejpompjlaaDoor
open Go.RowKit
set_option linter.unusedSimpArgs false

theorem tok_ext {s t : Em4.Tok} (h1 : s.kind = t.kind) (h2 : s.text = t.text) (h3 : s.num = t.num) (h4 : s.pos = t.pos) : s = t := by
  cases s; cases t; simp_all

end Go.Proofs.YtoekhejpompjlaaDoor

/- The three tables that the rows list; a world that holds them. -/
import Derived.Test.YtcpimmapdhmoiaaDoorCards
import Derived.Test.YtcpimmapdhmoiaaDoorTie
import Derived.Test.YtcpimmapdhmoiaaDoorLaid
import Derived.Test.YtcpimmapdhmoiaaDoorTypC
namespace Go.Proofs.YtcpimmapdhmoiaaDoor
open Go.RowKit

theorem gPowType : (Tryd.prog.globals[0]?).map (·.type) = some 75 := by kernel_rfl
theorem powRow : (Rows.laid_internal_strconv_uint64pow10 : DataW Unit) = Lib.tabData .u64 Lib.pow10Tab := by rfl
/-- The row's condition gives the walks' fact. -/
theorem laid_of_row {W : World} (h : laidMetH Tryd.prog [("math/bits.deBruijn32tab", Rows.laid_math_bits_deBruijn32tab), ("math/bits.deBruijn64tab", Rows.laid_math_bits_deBruijn64tab), ("internal/strconv.uint64pow10", Rows.laid_internal_strconv_uint64pow10)] W) : IsPow W := by
  have h1 : laidMet Tryd.prog [("math/bits.deBruijn32tab", Rows.laid_math_bits_deBruijn32tab), ("math/bits.deBruijn64tab", Rows.laid_math_bits_deBruijn64tab), ("internal/strconv.uint64pow10", Rows.laid_internal_strconv_uint64pow10)] W := h
  obtain ⟨ps, h2, -⟩ := h1
  obtain ⟨q1, h3⟩ := Em.laid_rest h2
  obtain ⟨q2, h4⟩ := Em.laid_rest h3
  rw [powRow] at h4
  exact Em.tab_vars gPow gPowType Tryd.underlying75 Tryd.underlying68 (by kernel_rfl) (by kernel_rfl) h4
/-- A world for the witness: the settled one, each table holding what its initialiser lays. -/
def layAt (h : Array Obj) (g : Nat) (d : DataW Unit) : Array Obj := h.modify g fun
  | .cells _ t frozen => .cells (Em.tabCells d) t frozen
  | o => o
noncomputable def laidWorld (os : Os) : World :=
  { World.holding Tryd.prog os ⟨#[], #[], []⟩ with heap := layAt (layAt (layAt (World.holding Tryd.prog os ⟨#[], #[], []⟩).heap 1 Rows.laid_math_bits_deBruijn32tab) 2 Rows.laid_math_bits_deBruijn64tab) 0 Rows.laid_internal_strconv_uint64pow10 }
end Go.Proofs.YtcpimmapdhmoiaaDoor

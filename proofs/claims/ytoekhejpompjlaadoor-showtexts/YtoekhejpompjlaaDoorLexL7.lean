/- The four tables that the rows list; a world that holds them. -/
import Derived.Test.YtoekhejpompjlaaDoorCards
import Derived.Test.YtoekhejpompjlaaDoorTie
import Derived.Test.YtoekhejpompjlaaDoorLaid
import Derived.Test.YtoekhejpompjlaaDoorShC
namespace Go.Proofs.YtoekhejpompjlaaDoor
open Go.RowKit

theorem gSigns : Tryd.prog.globalNamed "emissary/lex.signs" = some 3 := by kernel_rfl
theorem gSignsType : (Tryd.prog.globals[3]?).map (·.type) = some 101 := by kernel_rfl
theorem gPowType : (Tryd.prog.globals[0]?).map (·.type) = some 90 := by kernel_rfl
def signBytes : List (List UInt8) := [[58, 61], [58, 58], [45, 62], [40], [41], [91], [93], [44], [59], [61], [60], [43], [45], [42], [94], [33], [124]]
theorem signs_of_vars {W : World} {ps : List MemPlace} (h : DataW.LaidVars Tryd.prog W [("emissary/lex.signs", Em.strTab signBytes)] ps) : IsSigns W := by
  have h2 := Em.strTab_vars gSigns gSignsType Tryd.underlying101 Tryd.underlying9 (by kernel_rfl) h
  intro k hk
  have e : ∀ k, k < 17 → ∃ b, signBytes[k]? = some b ∧ (⟨b.toArray⟩ : ByteArray) = Em.str (Em4.signs[k]?.getD []) := by
    intro k hk
    rcases k with _ | _ | _ | _ | _ | _ | _ | _ | _ | _ | _ | _ | _ | _ | _ | _ | _ | k
    all_goals first | exact ⟨_, rfl, rfl⟩ | omega
  obtain ⟨b, hb, he⟩ := e k hk
  rw [h2 k b hb, he]
theorem powRow : (Rows.laid_internal_strconv_uint64pow10 : DataW Unit) = Lib.tabData .u64 Lib.pow10Tab := by rfl
theorem signRow : (Rows.laid_emissary_lex_signs : DataW Unit) = Em.strTab signBytes := by rfl
/-- The row's condition gives the walks' fact. -/
theorem laid_of_row {W : World} (h : laidMetH Tryd.prog [("math/bits.deBruijn32tab", Rows.laid_math_bits_deBruijn32tab), ("math/bits.deBruijn64tab", Rows.laid_math_bits_deBruijn64tab), ("internal/strconv.uint64pow10", Rows.laid_internal_strconv_uint64pow10), ("emissary/lex.signs", Rows.laid_emissary_lex_signs)] W) : IsLaid W := by
  have h1 : laidMet Tryd.prog [("math/bits.deBruijn32tab", Rows.laid_math_bits_deBruijn32tab), ("math/bits.deBruijn64tab", Rows.laid_math_bits_deBruijn64tab), ("internal/strconv.uint64pow10", Rows.laid_internal_strconv_uint64pow10), ("emissary/lex.signs", Rows.laid_emissary_lex_signs)] W := h
  obtain ⟨ps, h2, -⟩ := h1
  obtain ⟨q1, h3⟩ := Em.laid_rest h2
  obtain ⟨q2, h4⟩ := Em.laid_rest h3
  rw [powRow, signRow] at h4
  obtain ⟨q3, h5⟩ := Em.laid_rest h4
  exact ⟨signs_of_vars h5, Em.tab_vars gPow gPowType Tryd.underlying90 Tryd.underlying79 (by kernel_rfl) (by kernel_rfl) h4⟩
/-- A world for the witness: the settled one, each table holding what its initialiser lays. -/
def layAt (h : Array Obj) (g : Nat) (d : DataW Unit) : Array Obj := h.modify g fun
  | .cells _ t frozen => .cells (Em.tabCells d) t frozen
  | o => o
noncomputable def laidWorld (os : Os) : World :=
  { World.holding Tryd.prog os ⟨#[], #[], []⟩ with heap := layAt (layAt (layAt (layAt (World.holding Tryd.prog os ⟨#[], #[], []⟩).heap 1 Rows.laid_math_bits_deBruijn32tab) 2 Rows.laid_math_bits_deBruijn64tab) 0 Rows.laid_internal_strconv_uint64pow10) 3 Rows.laid_emissary_lex_signs }
end Go.Proofs.YtoekhejpompjlaaDoor

/-
  NARROWER THAN 'FOR EVERY INPUT', by the rows' own cells (each row's printed sentence says how): TreeIs: loops, laid · TreeFree: loops, laid · TreeSame: loops, laid · TreeMany: laid.
  DERIVED. THE GIVEN ROWS OF THIS SEAT. 4 by the template 'for every input the law returns true; each argument reads behind the call as it read before'; 0 by the template 'total and deterministic' (their statements: YtlniokcekjemdaaDoorTotals.lean).
  GIVEN WITH THE SEED: the statements are not yours to turn. If you find one false, say at which input.
  Laid BY PROGRAM, IN A SANDBOX (cutbox-rows.mjs): the forced cells as the released guide's own fill.sh prints them over the translation 6922e03d6ad3acdd… (all of the seat's roots in one cut). By AI agents, Wed Nov 11 2026. No macro, syntax, notation, axiom, sorry.
-/
import Derived.Test.YtlniokcekjemdaaDoorChecked
import GoSem.Claim
import GoSem.ClaimJoined
import GoSem.ClaimMapViews
import Derived.JoinedTies
import Derived.KernelRfl
namespace Go.Proofs.YtlniokcekjemdaaDoor
/- THE CELL 'sum', in the pinned program and in every row, IS THE sha256 OF THE DUMP (.gsa) THAT YtlniokcekjemdaaDoorProg.lean LOADS. Nothing in Lean hashes anything: it is a label: what it is worth is what the hold of that sum in a sandbox is worth. -/
noncomputable def Tryd.pinned : Pinned := { name := "ytlniokcekjemdaadoor", sum := "6922e03d6ad3acddb61c047ca27aa8d3d94eed592b20b0f8679b60950bf3ef2c", checked := Tryd.checked }
namespace Rows
def none {H : Type} : Left H := { results := [], args := [] }

/- WHAT THE LISTED PACKAGE-LEVEL VARIABLES READ AS WHEN THE CALL BEGINS. Each datum BY PROGRAM (the guide's laid-datum.mjs) off the statement by which the dump's own 'gosem.cut.vars' lays the variable. In a bare row this is a premise. The card (YtlniokcekjemdaaDoorCards.lean) ties it to the program's text. -/
def laid_emissary_lex_signs {H : Type} : DataW H := .agg [.lit (.string [58, 61]), .lit (.string [58, 58]), .lit (.string [45, 62]), .lit (.string [40]), .lit (.string [41]), .lit (.string [91]), .lit (.string [93]), .lit (.string [44]), .lit (.string [59]), .lit (.string [61]), .lit (.string [60]), .lit (.string [43]), .lit (.string [45]), .lit (.string [42]), .lit (.string [94]), .lit (.string [33]), .lit (.string [124])]

/-- 'emissarylaw5.TreeIs': WHATEVER THE INPUT: true; the input reads as it did. -/
def treeIsSpec : ChangeSpec := { name := "treeIs", fn := fun _ => fun
  | [d] => { results := [.lit (.bool true)], args := [d] }
  | _ => none }
def treeIsRow : OpenClaim := { program := "ytlniokcekjemdaadoor", sum := "6922e03d6ad3acddb61c047ca27aa8d3d94eed592b20b0f8679b60950bf3ef2c", func := "emissary/emissarylaw5.TreeIs", spec := "treeIs", unfollowed := true, recurses := true, named := ["emissary/lex.signs"], loops := true, apart := false, laid := [("emissary/lex.signs", laid_emissary_lex_signs)] }
def TreeIsSaid : Prop := treeIsRow.holds Tryd.pinned (OpenSpec.ofChange treeIsSpec)

/-- ITS FALSE NEIGHBOUR: 'it returns false'. Refute it at one input. -/
def treeIsWrong : ChangeSpec := { name := "treeIs", fn := fun _ => fun
  | [d] => { results := [.lit (.bool false)], args := [d] }
  | _ => none }
def TreeIsWrongFalsely : Prop := treeIsRow.holds Tryd.pinned (OpenSpec.ofChange treeIsWrong)

/-- 'emissarylaw5.TreeFree': WHATEVER THE INPUT: true; the input reads as it did. -/
def treeFreeSpec : ChangeSpec := { name := "treeFree", fn := fun _ => fun
  | [d] => { results := [.lit (.bool true)], args := [d] }
  | _ => none }
def treeFreeRow : OpenClaim := { program := "ytlniokcekjemdaadoor", sum := "6922e03d6ad3acddb61c047ca27aa8d3d94eed592b20b0f8679b60950bf3ef2c", func := "emissary/emissarylaw5.TreeFree", spec := "treeFree", unfollowed := true, recurses := true, named := ["emissary/lex.signs"], loops := true, apart := false, laid := [("emissary/lex.signs", laid_emissary_lex_signs)] }
def TreeFreeSaid : Prop := treeFreeRow.holds Tryd.pinned (OpenSpec.ofChange treeFreeSpec)

/-- ITS FALSE NEIGHBOUR: 'it returns false'. Refute it at one input. -/
def treeFreeWrong : ChangeSpec := { name := "treeFree", fn := fun _ => fun
  | [d] => { results := [.lit (.bool false)], args := [d] }
  | _ => none }
def TreeFreeWrongFalsely : Prop := treeFreeRow.holds Tryd.pinned (OpenSpec.ofChange treeFreeWrong)

/-- 'emissarylaw5.TreeSame': WHATEVER THE INPUT: true; the input reads as it did. -/
def treeSameSpec : ChangeSpec := { name := "treeSame", fn := fun _ => fun
  | [d1, d2, d3] => { results := [.lit (.bool true)], args := [d1, d2, d3] }
  | _ => none }
def treeSameRow : OpenClaim := { program := "ytlniokcekjemdaadoor", sum := "6922e03d6ad3acddb61c047ca27aa8d3d94eed592b20b0f8679b60950bf3ef2c", func := "emissary/emissarylaw5.TreeSame", spec := "treeSame", unfollowed := true, recurses := true, named := ["emissary/lex.signs"], loops := true, apart := false, laid := [("emissary/lex.signs", laid_emissary_lex_signs)] }
def TreeSameSaid : Prop := treeSameRow.holds Tryd.pinned (OpenSpec.ofChange treeSameSpec)

/-- ITS FALSE NEIGHBOUR: 'it returns false'. Refute it at one input. -/
def treeSameWrong : ChangeSpec := { name := "treeSame", fn := fun _ => fun
  | [d1, d2, d3] => { results := [.lit (.bool false)], args := [d1, d2, d3] }
  | _ => none }
def TreeSameWrongFalsely : Prop := treeSameRow.holds Tryd.pinned (OpenSpec.ofChange treeSameWrong)

/-- 'emissarylaw5.TreeMany': WHATEVER THE INPUT: true; the input reads as it did. -/
def treeManySpec : ChangeSpec := { name := "treeMany", fn := fun _ => fun
  | [d] => { results := [.lit (.bool true)], args := [d] }
  | _ => none }
def treeManyRow : OpenClaim := { program := "ytlniokcekjemdaadoor", sum := "6922e03d6ad3acddb61c047ca27aa8d3d94eed592b20b0f8679b60950bf3ef2c", func := "emissary/emissarylaw5.TreeMany", spec := "treeMany", unfollowed := true, recurses := true, named := ["emissary/lex.signs"], apart := false, laid := [("emissary/lex.signs", laid_emissary_lex_signs)] }
def TreeManySaid : Prop := treeManyRow.holds Tryd.pinned (OpenSpec.ofChange treeManySpec)

/-- ITS FALSE NEIGHBOUR: 'it returns false'. Refute it at one input. -/
def treeManyWrong : ChangeSpec := { name := "treeMany", fn := fun _ => fun
  | [d] => { results := [.lit (.bool false)], args := [d] }
  | _ => none }
def TreeManyWrongFalsely : Prop := treeManyRow.holds Tryd.pinned (OpenSpec.ofChange treeManyWrong)

/- THE SECOND FORM. 'bulk': how many values and letters a reading holds, each counted each time it is reached (what is shared counts as often as it is met; a slice's spare places count too). A statement '..UptoSaid' is the law's where the arguments, and the package variables that the reading takes, are together of bulk at most 1048576: NARROWER than '..Said'. Prove '..Said' where nothing that the law and all that it calls make is longer than what came in: it says more and counts as full. Else prove '..UptoSaid'. A law counts once. -/
mutual
def uptoBulk {H : Type} : DataW H → Nat
  | .lit (.string bytes) => bytes.length + 1
  | .lit _ => 1
  | .nil => 1
  | .ptr d => uptoBulk d + 1
  | .slice elems spare => uptoBulkAll elems + uptoBulkAll spare + 1
  | .agg parts => uptoBulkAll parts + 1
  | .iface _ d => uptoBulk d + 1
  | .map entries => uptoBulkEntries entries + 1
  | .held _ => 1
def uptoBulkAll {H : Type} : List (DataW H) → Nat
  | [] => 0
  | d :: r => uptoBulk d + uptoBulkAll r
def uptoBulkEntries {H : Type} : List (Lit × DataW H) → Nat
  | [] => 0
  | x :: r => uptoBulkEntry x + uptoBulkEntries r
def uptoBulkEntry {H : Type} : Lit × DataW H → Nat
  | (.string bytes, d) => bytes.length + uptoBulk d + 1
  | (_, d) => uptoBulk d + 1
 end
def uptoSmall : (H : Type) → List (DataW H) → Bool := fun _ ds => decide (uptoBulkAll ds ≤ 1048576)
def OpenSpec.upto (s : _root_.Go.ChangeSpec) : _root_.Go.OpenSpec := { _root_.Go.OpenSpec.ofChange s with cond := some uptoSmall }

/-- 'emissarylaw5.TreeIs', WHERE WHAT IT READS IS OF BULK AT MOST 1048576: true; the input reads as it did. -/
def treeIsUptoRow : OpenClaim := { program := "ytlniokcekjemdaadoor", sum := "6922e03d6ad3acddb61c047ca27aa8d3d94eed592b20b0f8679b60950bf3ef2c", func := "emissary/emissarylaw5.TreeIs", spec := "treeIs", unfollowed := true, recurses := true, named := ["emissary/lex.signs"], loops := true, apart := false, laid := [("emissary/lex.signs", laid_emissary_lex_signs)], narrowed := true }
def TreeIsUptoSaid : Prop := treeIsUptoRow.holds Tryd.pinned (OpenSpec.upto treeIsSpec)

/-- 'emissarylaw5.TreeFree', WHERE WHAT IT READS IS OF BULK AT MOST 1048576: true; the input reads as it did. -/
def treeFreeUptoRow : OpenClaim := { program := "ytlniokcekjemdaadoor", sum := "6922e03d6ad3acddb61c047ca27aa8d3d94eed592b20b0f8679b60950bf3ef2c", func := "emissary/emissarylaw5.TreeFree", spec := "treeFree", unfollowed := true, recurses := true, named := ["emissary/lex.signs"], loops := true, apart := false, laid := [("emissary/lex.signs", laid_emissary_lex_signs)], narrowed := true }
def TreeFreeUptoSaid : Prop := treeFreeUptoRow.holds Tryd.pinned (OpenSpec.upto treeFreeSpec)

/-- 'emissarylaw5.TreeSame', WHERE WHAT IT READS IS OF BULK AT MOST 1048576: true; the input reads as it did. -/
def treeSameUptoRow : OpenClaim := { program := "ytlniokcekjemdaadoor", sum := "6922e03d6ad3acddb61c047ca27aa8d3d94eed592b20b0f8679b60950bf3ef2c", func := "emissary/emissarylaw5.TreeSame", spec := "treeSame", unfollowed := true, recurses := true, named := ["emissary/lex.signs"], loops := true, apart := false, laid := [("emissary/lex.signs", laid_emissary_lex_signs)], narrowed := true }
def TreeSameUptoSaid : Prop := treeSameUptoRow.holds Tryd.pinned (OpenSpec.upto treeSameSpec)

/-- 'emissarylaw5.TreeMany', WHERE WHAT IT READS IS OF BULK AT MOST 1048576: true; the input reads as it did. -/
def treeManyUptoRow : OpenClaim := { program := "ytlniokcekjemdaadoor", sum := "6922e03d6ad3acddb61c047ca27aa8d3d94eed592b20b0f8679b60950bf3ef2c", func := "emissary/emissarylaw5.TreeMany", spec := "treeMany", unfollowed := true, recurses := true, named := ["emissary/lex.signs"], apart := false, laid := [("emissary/lex.signs", laid_emissary_lex_signs)], narrowed := true }
def TreeManyUptoSaid : Prop := treeManyUptoRow.holds Tryd.pinned (OpenSpec.upto treeManySpec)

end Rows
end Go.Proofs.YtlniokcekjemdaaDoor

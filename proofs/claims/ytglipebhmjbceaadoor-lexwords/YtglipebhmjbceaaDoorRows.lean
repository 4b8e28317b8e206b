/-
  NARROWER THAN 'FOR EVERY INPUT', by the rows' own cells (each row's printed sentence says how): LexTokens: laid · LexBlanks: laid · LexEnds: laid · LexOdd: laid · LexWords: laid.
  DERIVED. THE GIVEN ROWS OF THIS SEAT. 5 by the template 'for every input the law returns true; each argument reads behind the call as it read before'; 0 by the template 'total and deterministic' (their statements: YtglipebhmjbceaaDoorTotals.lean).
  GIVEN WITH THE SEED: the statements are not yours to turn. If you find one false, say at which input.
  Laid BY PROGRAM, IN A SANDBOX (cutbox-rows.mjs): the forced cells as the released guide's own fill.sh prints them over the translation d3cfe33d534d53f8… (all of the seat's roots in one cut). By AI agents, Wed Nov 11 2026. No macro, syntax, notation, axiom, sorry.
-/
import Derived.Test.YtglipebhmjbceaaDoorChecked
import GoSem.Claim
import GoSem.ClaimJoined
import GoSem.ClaimMapViews
import Derived.JoinedTies
import Derived.KernelRfl
namespace Go.Proofs.YtglipebhmjbceaaDoor
/- THE CELL 'sum', in the pinned program and in every row, IS THE sha256 OF THE DUMP (.gsa) THAT YtglipebhmjbceaaDoorProg.lean LOADS. Nothing in Lean hashes anything: it is a label: what it is worth is what the hold of that sum in a sandbox is worth. -/
noncomputable def Tryd.pinned : Pinned := { name := "ytglipebhmjbceaadoor", sum := "d3cfe33d534d53f8a15811c8205da02c95b83c4dada5953abacb4ad3f0146a14", checked := Tryd.checked }
namespace Rows
def none {H : Type} : Left H := { results := [], args := [] }

/- WHAT THE LISTED PACKAGE-LEVEL VARIABLES READ AS WHEN THE CALL BEGINS. Each datum BY PROGRAM (the guide's laid-datum.mjs) off the statement by which the dump's own 'gosem.cut.vars' lays the variable. In a bare row this is a premise. The card (YtglipebhmjbceaaDoorCards.lean) ties it to the program's text. -/
def laid_emissary_lex_signs {H : Type} : DataW H := .agg [.lit (.string [58, 61]), .lit (.string [58, 58]), .lit (.string [45, 62]), .lit (.string [40]), .lit (.string [41]), .lit (.string [91]), .lit (.string [93]), .lit (.string [44]), .lit (.string [59]), .lit (.string [61]), .lit (.string [60]), .lit (.string [43]), .lit (.string [45]), .lit (.string [42]), .lit (.string [94]), .lit (.string [33]), .lit (.string [124])]

/-- 'emissarylaw4.LexTokens': WHATEVER THE INPUT: true; the input reads as it did. -/
def lexTokensSpec : ChangeSpec := { name := "lexTokens", fn := fun _ => fun
  | [d] => { results := [.lit (.bool true)], args := [d] }
  | _ => none }
def lexTokensRow : OpenClaim := { program := "ytglipebhmjbceaadoor", sum := "d3cfe33d534d53f8a15811c8205da02c95b83c4dada5953abacb4ad3f0146a14", func := "emissary/emissarylaw4.LexTokens", spec := "lexTokens", unfollowed := true, recurses := true, named := ["emissary/lex.signs"], apart := false, laid := [("emissary/lex.signs", laid_emissary_lex_signs)] }
def LexTokensSaid : Prop := lexTokensRow.holds Tryd.pinned (OpenSpec.ofChange lexTokensSpec)

/-- ITS FALSE NEIGHBOUR: 'it returns false'. Refute it at one input. -/
def lexTokensWrong : ChangeSpec := { name := "lexTokens", fn := fun _ => fun
  | [d] => { results := [.lit (.bool false)], args := [d] }
  | _ => none }
def LexTokensWrongFalsely : Prop := lexTokensRow.holds Tryd.pinned (OpenSpec.ofChange lexTokensWrong)

/-- 'emissarylaw4.LexBlanks': WHATEVER THE INPUT: true; the input reads as it did. -/
def lexBlanksSpec : ChangeSpec := { name := "lexBlanks", fn := fun _ => fun
  | [d1, d2] => { results := [.lit (.bool true)], args := [d1, d2] }
  | _ => none }
def lexBlanksRow : OpenClaim := { program := "ytglipebhmjbceaadoor", sum := "d3cfe33d534d53f8a15811c8205da02c95b83c4dada5953abacb4ad3f0146a14", func := "emissary/emissarylaw4.LexBlanks", spec := "lexBlanks", unfollowed := true, recurses := true, named := ["emissary/lex.signs"], apart := false, laid := [("emissary/lex.signs", laid_emissary_lex_signs)] }
def LexBlanksSaid : Prop := lexBlanksRow.holds Tryd.pinned (OpenSpec.ofChange lexBlanksSpec)

/-- ITS FALSE NEIGHBOUR: 'it returns false'. Refute it at one input. -/
def lexBlanksWrong : ChangeSpec := { name := "lexBlanks", fn := fun _ => fun
  | [d1, d2] => { results := [.lit (.bool false)], args := [d1, d2] }
  | _ => none }
def LexBlanksWrongFalsely : Prop := lexBlanksRow.holds Tryd.pinned (OpenSpec.ofChange lexBlanksWrong)

/-- 'emissarylaw4.LexEnds': WHATEVER THE INPUT: true; the input reads as it did. -/
def lexEndsSpec : ChangeSpec := { name := "lexEnds", fn := fun _ => fun
  | [d1, d2] => { results := [.lit (.bool true)], args := [d1, d2] }
  | _ => none }
def lexEndsRow : OpenClaim := { program := "ytglipebhmjbceaadoor", sum := "d3cfe33d534d53f8a15811c8205da02c95b83c4dada5953abacb4ad3f0146a14", func := "emissary/emissarylaw4.LexEnds", spec := "lexEnds", unfollowed := true, recurses := true, named := ["emissary/lex.signs"], apart := false, laid := [("emissary/lex.signs", laid_emissary_lex_signs)] }
def LexEndsSaid : Prop := lexEndsRow.holds Tryd.pinned (OpenSpec.ofChange lexEndsSpec)

/-- ITS FALSE NEIGHBOUR: 'it returns false'. Refute it at one input. -/
def lexEndsWrong : ChangeSpec := { name := "lexEnds", fn := fun _ => fun
  | [d1, d2] => { results := [.lit (.bool false)], args := [d1, d2] }
  | _ => none }
def LexEndsWrongFalsely : Prop := lexEndsRow.holds Tryd.pinned (OpenSpec.ofChange lexEndsWrong)

/-- 'emissarylaw4.LexOdd': WHATEVER THE INPUT: true; the input reads as it did. -/
def lexOddSpec : ChangeSpec := { name := "lexOdd", fn := fun _ => fun
  | [d] => { results := [.lit (.bool true)], args := [d] }
  | _ => none }
def lexOddRow : OpenClaim := { program := "ytglipebhmjbceaadoor", sum := "d3cfe33d534d53f8a15811c8205da02c95b83c4dada5953abacb4ad3f0146a14", func := "emissary/emissarylaw4.LexOdd", spec := "lexOdd", unfollowed := true, recurses := true, named := ["emissary/lex.signs"], apart := false, laid := [("emissary/lex.signs", laid_emissary_lex_signs)] }
def LexOddSaid : Prop := lexOddRow.holds Tryd.pinned (OpenSpec.ofChange lexOddSpec)

/-- ITS FALSE NEIGHBOUR: 'it returns false'. Refute it at one input. -/
def lexOddWrong : ChangeSpec := { name := "lexOdd", fn := fun _ => fun
  | [d] => { results := [.lit (.bool false)], args := [d] }
  | _ => none }
def LexOddWrongFalsely : Prop := lexOddRow.holds Tryd.pinned (OpenSpec.ofChange lexOddWrong)

/-- 'emissarylaw4.LexWords': WHATEVER THE INPUT: true; the input reads as it did. -/
def lexWordsSpec : ChangeSpec := { name := "lexWords", fn := fun _ => fun
  | [d] => { results := [.lit (.bool true)], args := [d] }
  | _ => none }
def lexWordsRow : OpenClaim := { program := "ytglipebhmjbceaadoor", sum := "d3cfe33d534d53f8a15811c8205da02c95b83c4dada5953abacb4ad3f0146a14", func := "emissary/emissarylaw4.LexWords", spec := "lexWords", unfollowed := true, recurses := true, named := ["emissary/lex.signs"], apart := false, laid := [("emissary/lex.signs", laid_emissary_lex_signs)] }
def LexWordsSaid : Prop := lexWordsRow.holds Tryd.pinned (OpenSpec.ofChange lexWordsSpec)

/-- ITS FALSE NEIGHBOUR: 'it returns false'. Refute it at one input. -/
def lexWordsWrong : ChangeSpec := { name := "lexWords", fn := fun _ => fun
  | [d] => { results := [.lit (.bool false)], args := [d] }
  | _ => none }
def LexWordsWrongFalsely : Prop := lexWordsRow.holds Tryd.pinned (OpenSpec.ofChange lexWordsWrong)

/- THE SECOND FORM. 'bulk': how many values and letters a reading holds, each counted each time it is reached (what is shared counts as often as it is met; a slice's spare places count too). A statement '..UptoSaid' is the law's where the arguments, and the package variables that the reading takes, are together of bulk at most 1048576: NARROWER than '..Said'. Prove '..Said' where nothing that the law and all that it calls make is longer than what came in: it says more and counts as full. Else prove '..UptoSaid'. A law counts once. -/
mutual
def uptoBulk {H : Type} : DataW H → Nat
  | .lit (.string bytes) => bytes.length + 1
  | .lit _ => 1
  | .nil => 1
  | .ptr d => uptoBulk d + 1
  | .slice elems spare => uptoBulkAll elems + uptoBulkAll spare + 1
  | .agg parts => uptoBulkAll parts + 1
  | .iface _ d => uptoBulk d + 1
  | .map entries => uptoBulkEntries entries + 1
  | .held _ => 1
def uptoBulkAll {H : Type} : List (DataW H) → Nat
  | [] => 0
  | d :: r => uptoBulk d + uptoBulkAll r
def uptoBulkEntries {H : Type} : List (Lit × DataW H) → Nat
  | [] => 0
  | x :: r => uptoBulkEntry x + uptoBulkEntries r
def uptoBulkEntry {H : Type} : Lit × DataW H → Nat
  | (.string bytes, d) => bytes.length + uptoBulk d + 1
  | (_, d) => uptoBulk d + 1
 end
def uptoSmall : (H : Type) → List (DataW H) → Bool := fun _ ds => decide (uptoBulkAll ds ≤ 1048576)
def OpenSpec.upto (s : _root_.Go.ChangeSpec) : _root_.Go.OpenSpec := { _root_.Go.OpenSpec.ofChange s with cond := some uptoSmall }

/-- 'emissarylaw4.LexTokens', WHERE WHAT IT READS IS OF BULK AT MOST 1048576: true; the input reads as it did. -/
def lexTokensUptoRow : OpenClaim := { program := "ytglipebhmjbceaadoor", sum := "d3cfe33d534d53f8a15811c8205da02c95b83c4dada5953abacb4ad3f0146a14", func := "emissary/emissarylaw4.LexTokens", spec := "lexTokens", unfollowed := true, recurses := true, named := ["emissary/lex.signs"], apart := false, laid := [("emissary/lex.signs", laid_emissary_lex_signs)], narrowed := true }
def LexTokensUptoSaid : Prop := lexTokensUptoRow.holds Tryd.pinned (OpenSpec.upto lexTokensSpec)

/-- 'emissarylaw4.LexBlanks', WHERE WHAT IT READS IS OF BULK AT MOST 1048576: true; the input reads as it did. -/
def lexBlanksUptoRow : OpenClaim := { program := "ytglipebhmjbceaadoor", sum := "d3cfe33d534d53f8a15811c8205da02c95b83c4dada5953abacb4ad3f0146a14", func := "emissary/emissarylaw4.LexBlanks", spec := "lexBlanks", unfollowed := true, recurses := true, named := ["emissary/lex.signs"], apart := false, laid := [("emissary/lex.signs", laid_emissary_lex_signs)], narrowed := true }
def LexBlanksUptoSaid : Prop := lexBlanksUptoRow.holds Tryd.pinned (OpenSpec.upto lexBlanksSpec)

/-- 'emissarylaw4.LexEnds', WHERE WHAT IT READS IS OF BULK AT MOST 1048576: true; the input reads as it did. -/
def lexEndsUptoRow : OpenClaim := { program := "ytglipebhmjbceaadoor", sum := "d3cfe33d534d53f8a15811c8205da02c95b83c4dada5953abacb4ad3f0146a14", func := "emissary/emissarylaw4.LexEnds", spec := "lexEnds", unfollowed := true, recurses := true, named := ["emissary/lex.signs"], apart := false, laid := [("emissary/lex.signs", laid_emissary_lex_signs)], narrowed := true }
def LexEndsUptoSaid : Prop := lexEndsUptoRow.holds Tryd.pinned (OpenSpec.upto lexEndsSpec)

/-- 'emissarylaw4.LexOdd', WHERE WHAT IT READS IS OF BULK AT MOST 1048576: true; the input reads as it did. -/
def lexOddUptoRow : OpenClaim := { program := "ytglipebhmjbceaadoor", sum := "d3cfe33d534d53f8a15811c8205da02c95b83c4dada5953abacb4ad3f0146a14", func := "emissary/emissarylaw4.LexOdd", spec := "lexOdd", unfollowed := true, recurses := true, named := ["emissary/lex.signs"], apart := false, laid := [("emissary/lex.signs", laid_emissary_lex_signs)], narrowed := true }
def LexOddUptoSaid : Prop := lexOddUptoRow.holds Tryd.pinned (OpenSpec.upto lexOddSpec)

/-- 'emissarylaw4.LexWords', WHERE WHAT IT READS IS OF BULK AT MOST 1048576: true; the input reads as it did. -/
def lexWordsUptoRow : OpenClaim := { program := "ytglipebhmjbceaadoor", sum := "d3cfe33d534d53f8a15811c8205da02c95b83c4dada5953abacb4ad3f0146a14", func := "emissary/emissarylaw4.LexWords", spec := "lexWords", unfollowed := true, recurses := true, named := ["emissary/lex.signs"], apart := false, laid := [("emissary/lex.signs", laid_emissary_lex_signs)], narrowed := true }
def LexWordsUptoSaid : Prop := lexWordsUptoRow.holds Tryd.pinned (OpenSpec.upto lexWordsSpec)

end Rows
end Go.Proofs.YtglipebhmjbceaaDoor

/- The pieces of an expression's text, as the program cuts it: one more than kids. No program is named here. -/
import Derived.Test.YtoekhejpompjlaaDoorPureC
namespace Go.Em7
open Go.RowKit Go.Em5
set_option linter.unusedSimpArgs false

/-- What stands between two kids in parentheses, a pair's too. -/
def psign (op : List Int) : List Int := if op = oPair then [44, 32] else signOf op
/-- What stands ahead of the kids, between them and behind them. -/
def pcs (op nm ar : List Int) (n : Int) : List (List Int) :=
  if psign op ≠ [] then [[40], psign op, [41]]
  else if op = oInt then [digs n.toNat]
  else if op = oBool then [if n = 1 then [116, 114, 117, 101] else [102, 97, 108, 115, 101]]
  else if op = oUnit then [[40, 41]]
  else if op = oNil then [[91, 93]]
  else if op = oStr then [[34] ++ nm ++ [34]]
  else if op = oVar then [nm]
  else if op = oGet then [[33], []]
  else if op = oFun then [[40, 102, 117, 110, 32] ++ nm ++ [32, 45, 62, 32], [41]]
  else if op = oLet then [[40, 108, 101, 116, 32] ++ nm ++ [32, 61, 32], [32, 105, 110, 32], [41]]
  else if op = oRec then [[40, 108, 101, 116, 32, 114, 101, 99, 32] ++ nm ++ [32] ++ ar ++ [32, 61, 32], [32, 105, 110, 32], [41]]
  else if op = oIf then [[40, 105, 102, 32], [32, 116, 104, 101, 110, 32], [32, 101, 108, 115, 101, 32], [41]]
  else if op = oMatch then [[40, 109, 97, 116, 99, 104, 32], [32, 119, 105, 116, 104, 32, 91, 93, 32, 45, 62, 32], [32, 124, 32] ++ nm ++ [32, 58, 58, 32] ++ ar ++ [32, 45, 62, 32], [41]]
  else if op = oTry then [[40, 116, 114, 121, 32], [32, 119, 105, 116, 104, 32] ++ nm ++ [32, 45, 62, 32], [41]]
  else if op = oLink then [[40, 108, 105, 110, 107, 32], [32], [41]]
  else [[40] ++ op ++ [32], [41]]
/-- What is written when i pieces are. -/
def part (ps ts : List (List Int)) : Nat → List Int
  | 0 => []
  | i + 1 => part ps ts i ++ (if i = 0 then [] else tx ts (i - 1)) ++ tx ps i
theorem part_succ (ps ts : List (List Int)) (i : Nat) : part ps ts (i + 1) = part ps ts i ++ (if i = 0 then [] else tx ts (i - 1)) ++ tx ps i := rfl
theorem part_first (ps ts : List (List Int)) : part ps ts 1 = part ps ts 0 ++ tx ps 0 := by simp [part]
theorem part_next (ps ts : List (List Int)) (i : Nat) (h : 0 < i) : part ps ts (i + 1) = part ps ts i ++ tx ts (i - 1) ++ tx ps i := by rw [part_succ, if_neg (by omega)]
theorem part_mono (ps ts : List (List Int)) : ∀ i j, i ≤ j → (part ps ts i).length ≤ (part ps ts j).length := by
  intro i j h
  induction j with
  | zero => have : i = 0 := by omega
            subst this; exact Nat.le_refl _
  | succ j ih =>
    rcases Nat.lt_or_ge i (j + 1) with h' | h'
    · have := ih (by omega)
      rw [part_succ]; simp only [List.length_append]; omega
    · have : i = j + 1 := by omega
      subst this; exact Nat.le_refl _
theorem len0 {l : List Nd} (h : (0 : Int) = l.length) : l = [] := List.length_eq_zero_iff.1 (by omega)
theorem len1 {l : List Nd} (h : (1 : Int) = l.length) : ∃ a, l = [a] := List.length_eq_one_iff.1 (by omega)
theorem len2 {l : List Nd} (h : (2 : Int) = l.length) : ∃ a b, l = [a, b] := by
  rcases l with _ | ⟨a, _ | ⟨b, _ | ⟨c, r⟩⟩⟩
  all_goals first | exact ⟨_, _, rfl⟩ | (simp only [List.length_cons, List.length_nil] at h; omega)
theorem len3 {l : List Nd} (h : (3 : Int) = l.length) : ∃ a b c, l = [a, b, c] := by
  rcases l with _ | ⟨a, _ | ⟨b, _ | ⟨c, _ | ⟨d, r⟩⟩⟩⟩
  all_goals first | exact ⟨_, _, _, rfl⟩ | (simp only [List.length_cons, List.length_nil] at h; omega)
theorem kidsN_no : ¬ (0 : Int) ≤ -1 := by decide

set_option maxHeartbeats 4000000 in
/-- The pieces, with the kids' texts between them, are the text. -/
theorem pcs_text {op nm ar : List Int} {n p : Int} {l : List Nd} (h : each (.mk op nm ar n p l) = true) :
    (pcs op nm ar n).length = l.length + 1 ∧ part (pcs op nm ar n) (texts l) (l.length + 1) = text (.mk op nm ar n p l) := by
  obtain ⟨-, -, -, hk⟩ := each_cases h
  clear h
  unfold kidsN at hk
  by_cases c0 : op ∈ ops0
  · rw [if_pos c0] at hk
    obtain rfl := len0 hk
    clear hk
    simp only [ops0, List.mem_cons, List.not_mem_nil, or_false] at c0
    rcases c0 with rfl | rfl | rfl | rfl | rfl | rfl <;>
      simp [pcs, psign, signOf, part, text, textB, texts, tx, oInt, oBool, oUnit, oNil, oStr, oVar, oFun, oGet, oLet, oRec, oTry, oSeq, oSet, oEq, oLess, oCons, oAdd, oSub, oCat, oMul, oApp, oPair, oLink, oIf, oMatch]
  rw [if_neg c0] at hk
  by_cases c1 : op ∈ ops1
  · rw [if_pos c1] at hk
    obtain ⟨a, rfl⟩ := len1 hk
    clear hk c0
    simp only [ops1, List.mem_cons, List.not_mem_nil, or_false] at c1
    rcases c1 with rfl | rfl | rfl | rfl | rfl | rfl | rfl | rfl | rfl | rfl | rfl <;>
      simp [pcs, psign, signOf, part, text, textB, innerB, texts, tx, oInt, oBool, oUnit, oNil, oStr, oVar, oFun, oGet, oLet, oRec, oTry, oSeq, oSet, oEq, oLess, oCons, oAdd, oSub, oCat, oMul, oApp, oPair, oLink, oIf, oMatch, oRaise, oFst, oSnd, oRef, oCell, oTag, oLinks, oSize, oPrint]
  rw [if_neg c1] at hk
  by_cases c2 : op ∈ ops2
  · rw [if_pos c2] at hk
    obtain ⟨a, b, rfl⟩ := len2 hk
    clear hk c0 c1
    simp only [ops2, List.mem_cons, List.not_mem_nil, or_false] at c2
    rcases c2 with rfl | rfl | rfl | rfl | rfl | rfl | rfl | rfl | rfl | rfl | rfl | rfl | rfl | rfl | rfl <;>
      simp [pcs, psign, signOf, part, text, textB, innerB, texts, tx, oInt, oBool, oUnit, oNil, oStr, oVar, oFun, oGet, oLet, oRec, oTry, oSeq, oSet, oEq, oLess, oCons, oAdd, oSub, oCat, oMul, oApp, oPair, oLink, oIf, oMatch]
  rw [if_neg c2] at hk
  by_cases c3 : op ∈ ops3
  · rw [if_pos c3] at hk
    obtain ⟨a, b, c, rfl⟩ := len3 hk
    clear hk c0 c1 c2
    simp only [ops3, List.mem_cons, List.not_mem_nil, or_false] at c3
    rcases c3 with rfl | rfl <;>
      simp [pcs, psign, signOf, part, text, textB, innerB, texts, tx, oInt, oBool, oUnit, oNil, oStr, oVar, oFun, oGet, oLet, oRec, oTry, oSeq, oSet, oEq, oLess, oCons, oAdd, oSub, oCat, oMul, oApp, oPair, oLink, oIf, oMatch]
  rw [if_neg c3] at hk
  omega
/-- No piece is long. -/
theorem pcs_len {op nm ar : List Int} {n p : Int} {l : List Nd} (h : each (.mk op nm ar n p l) = true) : (part (pcs op nm ar n) (texts l) (l.length + 1)).length ≤ 150 * (Nd.mk op nm ar n p l).size := by
  rw [(pcs_text h).2]
  exact text_len _ h
end Go.Em7

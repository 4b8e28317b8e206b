/- The plain mathematics of chapter 5 (tree): free names, as the program finds them. No program is named here. -/
import Derived.Test.YtlniokcekjemdaaDoorMath5
namespace Go.Em5
open Go.RowKit

/-- The names that a node binds in its kid i, as the program has them. -/
def bindsT (op nm ar : List Int) (i : Nat) : List (List Int) :=
  if op = oFun then (if i = 0 then [nm] else [])
  else if op = oLet ∨ op = oTry then (if i = 1 then [nm] else [])
  else if op = oRec then (if i = 0 then [nm, ar] else if i = 1 then [nm] else [])
  else if op = oMatch then (if i = 2 then [nm, ar] else []) else []
mutual
/-- The free names, as they come. -/
def freeS : Nd → List (List Int) → List (List Int)
  | .mk op nm ar _ _ l, bound => (if op = oVar ∧ nm ∉ bound then [nm] else []) ++ freeSs op nm ar 0 l bound
def freeSs (op nm ar : List Int) : Nat → List Nd → List (List Int) → List (List Int)
  | _, [], _ => []
  | i, t :: r, bound => freeS t (bound ++ bindsT op nm ar i) ++ freeSs op nm ar (i + 1) r bound
end
theorem bindsT_mem {op nm ar : List Int} {i : Nat} {P : List Int → Prop} (hn : P nm) (ha : P ar) : ∀ t ∈ bindsT op nm ar i, P t := by
  intro t ht
  unfold bindsT at ht
  repeat' split at ht
  all_goals (simp at ht; try (rcases ht with rfl | rfl)); try (subst ht)
  all_goals first | exact hn | exact ha
theorem bindsT_len (op nm ar : List Int) (i : Nat) : (bindsT op nm ar i).length ≤ 2 := by
  unfold bindsT
  repeat' split
  all_goals simp
/-- Where the kids are as many as the op has, both bind alike. -/
theorem binds_eq {op nm ar : List Int} {i : Nat} (h : (i : Int) < kidsN op) : bindsT op nm ar i = bindsL op nm ar i := by
  unfold bindsT bindsL
  by_cases h1 : op = oFun
  · have : i = 0 := by
      have e : kidsN op = 1 := by rw [h1]; decide
      rw [e] at h; omega
    simp [this, h1]
  · rw [if_neg h1]
    by_cases h2 : op = oLet
    · subst h2
      by_cases hi : i = 1
      · simp [hi]
      · simp [hi, oLet, oRec, oMatch, oTry, oFun]
    · by_cases h3 : op = oTry
      · subst h3
        by_cases hi : i = 1
        · simp [hi]
        · simp [hi, oLet, oRec, oMatch, oTry, oFun]
      · rw [if_neg (by rintro (e | e); exact h2 e; exact h3 e)]
        by_cases h4 : op = oRec
        · subst h4
          by_cases hi : i = 1
          · simp [hi]
          · have h5 : ¬ oRec = oMatch := by decide
            simp [hi, h1, h2, h3, h5]
        · rw [if_neg h4]
          by_cases h5 : op = oMatch
          · subst h5
            simp [h1, h2, h3, h4]
          · simp [h1, h2, h3, h4, h5]
theorem freeSs_take (op nm ar : List Int) (bound : List (List Int)) : ∀ (l : List Nd) (i j : Nat) (t : Nd), l[j]? = some t → freeSs op nm ar i (l.take (j + 1)) bound = freeSs op nm ar i (l.take j) bound ++ freeS t (bound ++ bindsT op nm ar (i + j))
  | [], _, _, _, h => by simp at h
  | x :: r, i, 0, t, h => by
    simp at h; subst h
    simp [freeSs]
  | x :: r, i, j + 1, t, h => by
    simp only [List.take_succ_cons, freeSs]
    rw [freeSs_take op nm ar bound r (i + 1) j t (by simpa using h), List.append_assoc, show i + 1 + j = i + (j + 1) by omega]
end Go.Em5

/- A type's text as pieces, with its kids' texts between them. No program is named here. -/
import Derived.Test.YtcpimmapdhmoiaaDoorMath8b
namespace Go.Em8
open Go.Em5
set_option linter.unusedSimpArgs false

def tx (l : List (List Int)) (i : Nat) : List Int := l[i]?.getD []
/-- The first so many pieces, and the kids' texts between them. -/
def tpart (ps ts : List (List Int)) : Nat → List Int
  | 0 => []
  | i + 1 => tpart ps ts i ++ (if i = 0 then [] else tx ts (i - 1)) ++ tx ps i
theorem tpart_succ (ps ts : List (List Int)) (i : Nat) : tpart ps ts (i + 1) = tpart ps ts i ++ (if i = 0 then [] else tx ts (i - 1)) ++ tx ps i := rfl
theorem tpart_first (ps ts : List (List Int)) : tpart ps ts 1 = tpart ps ts 0 ++ tx ps 0 := by simp [tpart]
theorem tpart_next (ps ts : List (List Int)) (i : Nat) (h : 0 < i) : tpart ps ts (i + 1) = tpart ps ts i ++ tx ts (i - 1) ++ tx ps i := by rw [tpart_succ, if_neg (by omega)]
theorem tpart_mono (ps ts : List (List Int)) : ∀ i j, i ≤ j → (tpart ps ts i).length ≤ (tpart ps ts j).length := by
  intro i j h
  induction j with
  | zero => have : i = 0 := by omega
            subst this; exact Nat.le_refl _
  | succ j ih =>
    by_cases e : i = j + 1
    · subst e; exact Nat.le_refl _
    · have := ih (by omega)
      rw [tpart_succ]; simp only [List.length_append]; omega
theorem tshows_get : ∀ (l : List Ty) (j : Nat) (t : Ty), l[j]? = some t → tx (tshows l) j = tshow t
  | [], _, _, h => by simp at h
  | x :: r, 0, t, h => by simp at h; subst h; rw [tshows]; rfl
  | x :: r, j + 1, t, h => by
    have := tshows_get r j t (by simpa using h)
    rw [tshows]; simpa [tx] using this
/-- The pieces. -/
def tpcs (op : List Int) (n : Int) : List (List Int) :=
  if op = tInt ∨ op = tBool ∨ op = tUnit ∨ op = tString ∨ op = tCell then [op]
  else if op = tList ∨ op = tRef then [[], [32] ++ op]
  else if op = tPair then [[40], [32, 42, 32], [41]]
  else if op = tFun then [[40], [32, 45, 62, 32], [41]]
  else if op = tVar then [[39] ++ tdigs n.toNat]
  else []
theorem tpcs_text {op : List Int} {n : Int} {l : List Ty} (h : teach (.mk op n l) = true) : (tpcs op n).length = l.length + 1 ∧ tpart (tpcs op n) (tshows l) (l.length + 1) = tshow (.mk op n l) := by
  rw [tshow_eq]
  rcases teach_cases h with ⟨ho, -, rfl⟩ | ⟨ho, hn, rfl⟩ | ⟨ho, -, a, rfl, ha⟩ | ⟨ho, -, a, b, rfl, ha, hb⟩
  · rcases ho with rfl | rfl | rfl | rfl | rfl <;> simp [tpcs, tpart, tx, tInt, tBool, tUnit, tString, tCell, tList, tRef, tPair, tFun, tVar]
  · subst ho
    simp [tpcs, tpart, tx, tInt, tBool, tUnit, tString, tCell, tList, tRef, tPair, tFun, tVar]
  · rcases ho with rfl | rfl <;> simp [tpcs, tpart, tx, tshows, tInt, tBool, tUnit, tString, tCell, tList, tRef, tPair, tFun, tVar]
  · rcases ho with rfl | rfl <;> simp [tpcs, tpart, tx, tshows, tInt, tBool, tUnit, tString, tCell, tList, tRef, tPair, tFun, tVar]
end Go.Em8

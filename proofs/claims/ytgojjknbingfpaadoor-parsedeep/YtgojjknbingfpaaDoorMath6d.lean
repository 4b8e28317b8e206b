/- How deep a text may be: by parentheses, by '!', by 'fun'. -/
import Derived.Test.YtgojjknbingfpaaDoorPureB
namespace Go.Em6
open Go.Em4 Go.Em5

/-- x, so deep. -/
def deepT : Nat → Nat → List Int
  | _, 0 => [120]
  | 0, n + 1 => [40] ++ deepT 0 n ++ [41]
  | 1, n + 1 => [33] ++ deepT 1 n
  | way + 2, n + 1 => [102, 117, 110, 32, 120, 32, 45, 62, 32] ++ deepT (way + 2) n
/-- The error's number; nought where there is none. -/
def codeOf (r : Except Err Nd) : Nat := match r with | .ok _ => 0 | .error e => e.1
def deepOk (way n : Nat) : Bool := codeOf (parse (deepT way n)) == if 40 ≤ n then 3 else 0
theorem deep_ok0 : ∀ n, n < 61 → deepOk 0 n = true := by decide +kernel
theorem deep_ok1 : ∀ n, n < 61 → deepOk 1 n = true := by decide +kernel
theorem deep_ok2 : ∀ n, n < 61 → deepOk 2 n = true := by decide +kernel
theorem deep_len : ∀ (way n : Nat), (deepT way n).length ≤ 1 + 9 * n
  | 0, 0 => by simp [deepT]
  | 1, 0 => by simp [deepT]
  | _ + 2, 0 => by simp [deepT]
  | 0, n + 1 => by have := deep_len 0 n; simp [deepT]; omega
  | 1, n + 1 => by have := deep_len 1 n; simp [deepT]; omega
  | way + 2, n + 1 => by have := deep_len (way + 2) n; simp [deepT]; omega
theorem deep_byt : ∀ (way n : Nat), ∀ x ∈ deepT way n, 0 ≤ x ∧ x ≤ 255
  | 0, 0 => by decide
  | 1, 0 => by decide
  | _ + 2, 0 => by simp [deepT]
  | 0, n + 1 => fun x hx => by
    simp only [deepT, List.mem_append, List.mem_cons, List.not_mem_nil, or_false] at hx
    rcases hx with (rfl | h) | rfl
    · omega
    · exact deep_byt 0 n x h
    · omega
  | 1, n + 1 => fun x hx => by
    simp only [deepT, List.mem_append, List.mem_cons, List.not_mem_nil, or_false] at hx
    rcases hx with rfl | h
    · omega
    · exact deep_byt 1 n x h
  | way + 2, n + 1 => fun x hx => by
    simp only [deepT, List.mem_append] at hx
    rcases hx with h | h
    · exact (show ∀ x ∈ ([102, 117, 110, 32, 120, 32, 45, 62, 32] : List Int), 0 ≤ x ∧ x ≤ 255 by decide) x h
    · exact deep_byt (way + 2) n x h
end Go.Em6

/- The vars of a type, in order; a type with vars replaced. -/
import Derived.Test.YtbiihiibebdjgaaTy
namespace Go.Em8
open Go.Em5

mutual
def tvars : Ty → List Int → List Int
  | .mk op n l, out => tvarss l (if op = tVar ∧ n ∉ out then out ++ [n] else out)
def tvarss : List Ty → List Int → List Int
  | [], out => out
  | t :: r, out => tvarss r (tvars t out)
end
def tadd (op : List Int) (n : Int) (out : List Int) : List Int := if op = tVar ∧ n ∉ out then out ++ [n] else out
theorem tvars_eq (op : List Int) (n : Int) (l : List Ty) (out : List Int) : tvars (.mk op n l) out = tvarss l (tadd op n out) := by rw [tvars, tadd]
theorem tadd_len (op : List Int) (n : Int) (out : List Int) : (tadd op n out).length ≤ out.length + 1 := by
  unfold tadd; split <;> simp
theorem tadd_mem {op : List Int} {n : Int} {out : List Int} (hn : I64 n) (h : ∀ x ∈ out, I64 x) : ∀ x ∈ tadd op n out, I64 x := by
  intro x hx
  unfold tadd at hx
  split at hx
  · rcases List.mem_append.1 hx with h1 | h1
    · exact h x h1
    · simp at h1; rw [h1]; exact hn
  · exact h x hx
theorem tvars_len (T : Ty) : ∀ out, (tvars T out).length ≤ out.length + T.size := by
  induction T using Ty.ind with
  | h op n l ih =>
    intro out
    have key : ∀ (l : List Ty), (∀ t ∈ l, ∀ o, (tvars t o).length ≤ o.length + t.size) → ∀ o, (tvarss l o).length ≤ o.length + tsizes l := by
      intro l
      induction l with
      | nil => intro _ o; simp [tvarss, tsizes]
      | cons t r ihr =>
        intro h o
        simp only [tvarss, tsizes]
        have h1 := ihr (fun t ht => h t (by simp [ht])) (tvars t o)
        have h2 := h t (by simp) o
        omega
    have h1 := key l ih (tadd op n out)
    have h2 := tadd_len op n out
    rw [tvars_eq, Ty.size]
    omega
end Go.Em8
namespace Go.Em8
/-- A number's digits. -/
def tdigs (n : Nat) : List Int := if h : n < 10 then [48 + (n : Int)] else tdigs (n / 10) ++ [48 + ((n % 10 : Nat) : Int)]
termination_by n
decreasing_by omega
theorem tdigs_lt {n : Nat} (h : n < 10) : tdigs n = [48 + (n : Int)] := by rw [tdigs]; simp [h]
theorem tdigs_ge {n : Nat} (h : ¬ n < 10) : tdigs n = tdigs (n / 10) ++ [48 + ((n % 10 : Nat) : Int)] := by rw [tdigs]; simp [h]
theorem tdigs_len : ∀ (k n : Nat), n < 10 ^ (k + 1) → (tdigs n).length ≤ k + 1
  | 0, n, h => by rw [tdigs_lt (by simpa using h)]; simp
  | k + 1, n, h => by
    by_cases h10 : n < 10
    · rw [tdigs_lt h10]; simp
    · rw [tdigs_ge h10]
      have : n / 10 < 10 ^ (k + 1) := by
        rw [Nat.div_lt_iff_lt_mul (by omega)]
        rw [Nat.pow_succ] at h
        exact h
      have := tdigs_len k (n / 10) this
      simp only [List.length_append, List.length_cons, List.length_nil]
      omega
theorem tdigs_len64 {n : Nat} (h : n ≤ 9223372036854775807) : (tdigs n).length ≤ 19 := tdigs_len 18 n (by omega)
theorem tdigs_mem : ∀ (n : Nat), ∀ x ∈ tdigs n, 48 ≤ x ∧ x ≤ 57 := by
  intro n
  induction n using Nat.strongRecOn with
  | ind n ih =>
    intro x hx
    by_cases h10 : n < 10
    · rw [tdigs_lt h10] at hx; simp at hx; omega
    · rw [tdigs_ge h10] at hx
      rcases List.mem_append.1 hx with h | h
      · exact ih (n / 10) (by omega) x h
      · simp at h; omega
end Go.Em8

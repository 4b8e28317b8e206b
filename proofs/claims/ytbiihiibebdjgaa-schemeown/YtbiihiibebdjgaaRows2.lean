/- A slice of slices of bytes in memory, as a list of lists of numbers. -/
import Derived.Test.YtbiihiibebdjgaaBytes
namespace Go.Em
open Go.RowKit

/-- In the world w the value u is a slice whose elements are slices that hold the bytes R. -/
def IsRows (w : World) (u : Value) (R : List (List Int)) : Prop :=
  ∃ a cap, u = .slice a R.length cap ∧ R.length ≤ cap ∧ cap ≤ maxLen ∧ (a = none → cap = 0) ∧
    ∀ j, j < R.length → ∃ ad s, a = some ad ∧ w.cell? (ad.add j) = some s ∧ IsBytes w s (R[j]?.getD [])

theorem IsRows.nil (w : World) : IsRows w (.slice none 0 0) [] :=
  ⟨none, 0, rfl, by simp, by simp [maxLen], fun _ => rfl, by simp⟩

theorem IsRows.len {w : World} {u : Value} {R : List (List Int)} (h : IsRows w u R) : R.length ≤ 9223372036854775807 := by
  obtain ⟨a, cap, -, h1, h2, -⟩ := h; unfold maxLen at h2; omega

theorem IsRows.plain {w : World} {u : Value} {R : List (List Int)} (h : IsRows w u R) (hp : 0 < R.length) :
    ∃ b off cap, u = .slice (some ⟨b, off, none⟩) R.length cap ∧ R.length ≤ cap ∧ cap ≤ maxLen ∧ ∀ j, j < R.length → ∃ s, w.cell? ⟨b, off + j, none⟩ = some s ∧ IsBytes w s (R[j]?.getD []) := by
  obtain ⟨a, cap, rfl, h1, h2, -, hc⟩ := h
  obtain ⟨ad, s0, rfl, hc0, -⟩ := hc 0 hp
  obtain ⟨b, off, spot⟩ := ad
  have hspot : spot = none := by simpa [Addr.add] using World.cell?_spot hc0
  subst hspot
  refine ⟨b, off, cap, rfl, h1, h2, fun j hj => ?_⟩
  obtain ⟨ad, s, had, hcj, hs⟩ := hc j hj
  cases had
  refine ⟨s, ?_, hs⟩
  rw [← hcj]
  unfold Addr.add
  split
  · rename_i h0; subst h0; rfl
  · rfl

theorem IsRows.empty {w : World} {u : Value} {R : List (List Int)} (h : IsRows w u R) (hp : R.length = 0) :
    ∃ a cap, u = .slice a 0 cap ∧ cap ≤ maxLen ∧ (a = none → cap = 0) := by
  obtain ⟨a, cap, rfl, h1, h2, h3, -⟩ := h
  exact ⟨a, cap, by rw [hp], h2, h3⟩

theorem IsRows.below {w w' : World} {u : Value} {R : List (List Int)} (h : IsRows w u R) (hb : Below w.heap.size w w') : IsRows w' u R := by
  obtain ⟨a, cap, rfl, h1, h2, h3, hc⟩ := h
  refine ⟨a, cap, rfl, h1, h2, h3, fun j hj => ?_⟩
  obtain ⟨ad, s, rfl, hcj, hs⟩ := hc j hj
  exact ⟨ad, s, rfl, by rw [hb.cell (cell_lt hcj)]; exact hcj, hs.below hb⟩

/-- '[][]byte{b}', as a variadic call makes it. -/
theorem rows_one (w : World) (t : TypeId) {g : Nat} (hg : g = w.heap.size) {s : Value} {L : List Int} (h : IsBytes w s L) : IsRows (w.alloc (.cells #[s] t)) (.slice (some ⟨g, 0, none⟩) 1 1) [L] := by
  subst hg
  refine ⟨some ⟨w.heap.size, 0, none⟩, 1, rfl, by simp, by simp [maxLen], (fun h => by cases h), fun j hj => ⟨_, s, rfl, ?_, ?_⟩⟩
  · have : j = 0 := by simp at hj; omega
    subst this; simp [Addr.add]
  · have : j = 0 := by simp at hj; omega
    subst this
    exact h.below ((Below.refl _ _).alloc (Nat.le_refl _) _)
theorem rows_two (w : World) (t : TypeId) {g : Nat} (hg : g = w.heap.size) {s s' : Value} {L M : List Int} (h : IsBytes w s L) (h' : IsBytes w s' M) : IsRows (w.alloc (.cells #[s, s'] t)) (.slice (some ⟨g, 0, none⟩) 2 2) [L, M] := by
  subst hg
  refine ⟨some ⟨w.heap.size, 0, none⟩, 2, rfl, by simp, by simp [maxLen], (fun h => by cases h), fun j hj => ?_⟩
  match j, hj with
  | 0, _ => exact ⟨_, s, rfl, by simp [Addr.add], h.below ((Below.refl _ _).alloc (Nat.le_refl _) _)⟩
  | 1, _ => exact ⟨_, s', rfl, by simp [Addr.add], h'.below ((Below.refl _ _).alloc (Nat.le_refl _) _)⟩
  | j + 2, hj => simp at hj; omega
end Go.Em

/- A slice of tokens in memory, as a list. -/
import Derived.Test.YtoekhejpompjlaaDoorRLexT
namespace Go.Proofs.YtoekhejpompjlaaDoor
open Go.RowKit
set_option linter.unusedSimpArgs false

/-- In the world w the value v is a slice that holds the tokens l. -/
def IsToks (w : World) (v : Value) (l : List Em4.Tok) : Prop :=
  ∃ a cap, v = .slice a l.length cap ∧ l.length ≤ cap ∧ cap ≤ maxLen ∧ (∀ t ∈ l, ∀ x ∈ t.text, 0 ≤ x ∧ x ≤ 255) ∧
    (0 < l.length → ∃ b off, a = some ⟨b, off, none⟩ ∧ ∀ j t, l[j]? = some t →
      w.cell? ⟨b, off + j * 4, none⟩ = some (.int .i64 t.kind) ∧ w.cell? ⟨b, off + j * 4 + 1, none⟩ = some (.string (Em.str t.text)) ∧ w.cell? ⟨b, off + j * 4 + 2, none⟩ = some (.int .i64 t.num) ∧ w.cell? ⟨b, off + j * 4 + 3, none⟩ = some (.int .i64 t.pos))

theorem flat_get (l : List Em4.Tok) : ∀ (j : Nat) (t : Em4.Tok), l[j]? = some t → ∀ i, i < 4 → (l.flatMap tokCells)[j * 4 + i]? = (tokCells t)[i]? := by
  induction l with
  | nil => intro j t h; simp at h
  | cons x r ih =>
    intro j t h i hi
    cases j with
    | zero =>
      simp at h; subst h
      simp only [List.flatMap_cons, Nat.zero_mul, Nat.zero_add]
      rw [List.getElem?_append_left (by simp [tokCells]; omega)]
    | succ j =>
      simp only [List.flatMap_cons]
      rw [List.getElem?_append_right (by simp [tokCells]; omega)]
      have : (j + 1) * 4 + i - (tokCells x).length = j * 4 + i := by simp [tokCells]; omega
      rw [this]
      exact ih j t (by simpa using h) i hi

theorem OwnToks.is {w : World} {B : Nat} {v : Value} {l : List Em4.Tok} (h : OwnToks w B v l) (hb : ∀ t ∈ l, ∀ x ∈ t.text, 0 ≤ x ∧ x ≤ 255) : IsToks w v l := by
  have h' : w.ownsRow B 49 4 v l.length (l.flatMap tokCells) := h
  rcases h.2 with ⟨h1, h2⟩ | ⟨g, cap, cur, rfl, hg, hh, h3, h4, h5, h6⟩
  · have : l = [] := List.length_eq_zero_iff.1 h2
    subst this
    exact ⟨none, 0, h1, by simp, by simp [maxLen], by simp, by simp⟩
  · refine ⟨_, cap, rfl, h3, h4, hb, fun _ => ⟨g, 0, rfl, fun j t hj => ?_⟩⟩
    have hl : j < l.length := (List.getElem?_eq_some_iff.1 hj).1
    have key : ∀ i, i < 4 → w.cell? ⟨g, j * 4 + i, none⟩ = (tokCells t)[i]? := fun i hi => by
      rw [h'.cellAt (j * 4 + i) (by omega)]
      exact flat_get l j t hj i hi
    refine ⟨?_, ?_, ?_, ?_⟩
    · simpa [tokCells] using key 0 (by omega)
    · simpa [tokCells] using key 1 (by omega)
    · simpa [tokCells] using key 2 (by omega)
    · simpa [tokCells] using key 3 (by omega)

theorem IsToks.below {w w' : World} {v : Value} {l : List Em4.Tok} (h : IsToks w v l) (hb : Below w.heap.size w w') : IsToks w' v l := by
  obtain ⟨a, cap, rfl, h1, h2, h3, hc⟩ := h
  refine ⟨a, cap, rfl, h1, h2, h3, fun hp => ?_⟩
  obtain ⟨b, off, rfl, hc'⟩ := hc hp
  refine ⟨b, off, rfl, fun j t hj => ?_⟩
  obtain ⟨c1, c2, c3, c4⟩ := hc' j t hj
  have hlt : b < w.heap.size := Em.cell_lt c1
  have key : ∀ o, w'.cell? ⟨b, o, none⟩ = w.cell? ⟨b, o, none⟩ := fun o => hb.cell (p := ⟨b, o, none⟩) hlt
  exact ⟨by rw [key]; exact c1, by rw [key]; exact c2, by rw [key]; exact c3, by rw [key]; exact c4⟩
end Go.Proofs.YtoekhejpompjlaaDoor

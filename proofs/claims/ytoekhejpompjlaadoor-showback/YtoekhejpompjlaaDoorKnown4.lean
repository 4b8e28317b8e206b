/- What the law's own 'known' answers: true; tokens of a call's own, cell by cell. -/
import Derived.Test.YtoekhejpompjlaaDoorLexT
import Derived.Test.YtoekhejpompjlaaDoorToks
import Derived.Test.YtoekhejpompjlaaDoorRTreeR
import Derived.Test.YtoekhejpompjlaaDoorPureA
namespace Go.Proofs.YtoekhejpompjlaaDoor
open Go.RowKit
set_option linter.unusedSimpArgs false

theorem IsToks.nil (w : World) : IsToks w (.slice none 0 0) [] := ⟨none, 0, rfl, by simp, by simp [maxLen], by simp, by simp⟩
/-- Tokens of a call's own lie in one block, from its beginning on. -/
theorem OwnToks.at {w : World} {B : Nat} {v : Value} {l : List Em4.Tok} (h : OwnToks w B v l) (hl : 0 < l.length) : ∃ g cap, v = .slice (some ⟨g, 0, none⟩) l.length cap ∧ l.length ≤ cap ∧ cap ≤ maxLen ∧ B ≤ g ∧ g < w.heap.size ∧
    ∀ j t, l[j]? = some t → w.cell? ⟨g, j * 4, none⟩ = some (.int .i64 t.kind) ∧ w.cell? ⟨g, j * 4 + 1, none⟩ = some (.string (Em.str t.text)) ∧ w.cell? ⟨g, j * 4 + 2, none⟩ = some (.int .i64 t.num) ∧ w.cell? ⟨g, j * 4 + 3, none⟩ = some (.int .i64 t.pos) := by
  have h' : w.ownsRow B 49 4 v l.length (l.flatMap tokCells) := h
  rcases h.2 with ⟨h1, h2⟩ | ⟨g, cap, cur, rfl, hg, hh, h3, h4, h5, h6⟩
  · omega
  · refine ⟨g, cap, rfl, h3, h4, hg, ?_, fun j t hj => ?_⟩
    · have := World.ownsRow.lt h' g rfl
      exact this.2
    · have hjl : j < l.length := (List.getElem?_eq_some_iff.1 hj).1
      have key : ∀ i, i < 4 → w.cell? ⟨g, j * 4 + i, none⟩ = (tokCells t)[i]? := fun i hi => by
        rw [h'.cellAt (j * 4 + i) (by omega)]
        exact flat_get l j t hj i hi
      exact ⟨by simpa [tokCells] using key 0 (by omega), by simpa [tokCells] using key 1 (by omega), by simpa [tokCells] using key 2 (by omega), by simpa [tokCells] using key 3 (by omega)⟩

def kText : List Int := [120, 58, 61, 49]
def kToks : List Em4.Tok := [⟨1, [120], 0, 0⟩, ⟨4, [58, 61], 0, 1⟩, ⟨2, [], 1, 3⟩, ⟨5, [], 0, 4⟩]
theorem k_toks : Em4.toks kText = .ok kToks := by rfl
theorem k_str : Em.IsStr ⟨#[120, 58, 61, 49]⟩ kText := ⟨rfl, by decide⟩

end Go.Proofs.YtoekhejpompjlaaDoor

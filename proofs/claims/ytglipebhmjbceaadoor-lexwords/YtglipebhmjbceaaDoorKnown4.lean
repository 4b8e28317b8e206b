/- What the law's own 'known' answers: true; tokens of a call's own, cell by cell. -/
import Derived.Test.YtglipebhmjbceaaDoorLexT
import Derived.Test.YtglipebhmjbceaaDoorToks
import Derived.Test.YtglipebhmjbceaaDoorRTreeR
import Derived.Test.YtglipebhmjbceaaDoorMath4b
namespace Go.Proofs.YtglipebhmjbceaaDoor
open Go.RowKit
set_option linter.unusedSimpArgs false

theorem IsToks.nil (w : World) : IsToks w (.slice none 0 0) [] := ⟨none, 0, rfl, by simp, by simp [maxLen], by simp, by simp⟩
/-- Tokens of a call's own lie in one block, from its beginning on. -/
theorem OwnToks.at {w : World} {B : Nat} {v : Value} {l : List Em4.Tok} (h : OwnToks w B v l) (hl : 0 < l.length) : ∃ g cap, v = .slice (some ⟨g, 0, none⟩) l.length cap ∧ l.length ≤ cap ∧ cap ≤ maxLen ∧ B ≤ g ∧ g < w.heap.size ∧
    ∀ j t, l[j]? = some t → w.cell? ⟨g, j * 4, none⟩ = some (.int .i64 t.kind) ∧ w.cell? ⟨g, j * 4 + 1, none⟩ = some (.string (Em.str t.text)) ∧ w.cell? ⟨g, j * 4 + 2, none⟩ = some (.int .i64 t.num) ∧ w.cell? ⟨g, j * 4 + 3, none⟩ = some (.int .i64 t.pos) := by
  have h' : w.ownsRow B 33 4 v l.length (l.flatMap tokCells) := h
  rcases h.2 with ⟨h1, h2⟩ | ⟨g, cap, cur, rfl, hg, hh, h3, h4, h5, h6⟩
  · omega
  · refine ⟨g, cap, rfl, h3, h4, hg, ?_, fun j t hj => ?_⟩
    · have := World.ownsRow.lt h' g rfl
      exact this.2
    · have hjl : j < l.length := (List.getElem?_eq_some_iff.1 hj).1
      have key : ∀ i, i < 4 → w.cell? ⟨g, j * 4 + i, none⟩ = (tokCells t)[i]? := fun i hi => by
        rw [h'.cellAt (j * 4 + i) (by omega)]
        exact flat_get l j t hj i hi
      exact ⟨by simpa [tokCells] using key 0 (by omega), by simpa [tokCells] using key 1 (by omega), by simpa [tokCells] using key 2 (by omega), by simpa [tokCells] using key 3 (by omega)⟩

def kText : List Int := [120, 58, 61, 49]
def kToks : List Em4.Tok := [⟨1, [120], 0, 0⟩, ⟨4, [58, 61], 0, 1⟩, ⟨2, [], 1, 3⟩, ⟨5, [], 0, 4⟩]
theorem k_toks : Em4.toks kText = .ok kToks := by rfl
theorem k_str : Em.IsStr ⟨#[120, 58, 61, 49]⟩ kText := ⟨rfl, by decide⟩

set_option maxRecDepth 100000 in
set_option maxHeartbeats 1000000 in
theorem known4_any (w : World) (hg : IsSigns w) : Calls Tryd.prog 11 #[] w fun e w' => e = .returned (.bool true) ∧ Below w.heap.size w w' := by
  have HG : Hid (IsSigns w) := hg
  clear hg
  go_enter Tryd.func11, Tryd.ntmps11
  go_wp2_with fail
  refine (ltokens_any _ kText _ k_str (by decide) HG.out).mono ?_
  rintro e w1 ⟨hgot, hb1⟩
  rw [k_toks] at hgot
  obtain ⟨v, rfl, hown⟩ := hgot
  obtain ⟨g, cap, rfl, -, -, -, -, hc⟩ := hown.at (by decide)
  have c5 : w1.cell? ⟨g, 5, none⟩ = some (.string (Em.str [58, 61])) := (hc 1 _ rfl).2.1
  have c10 : w1.cell? ⟨g, 10, none⟩ = some (.int .i64 1) := (hc 2 _ rfl).2.2.1
  have hl4 : kToks.length = 4 := rfl
  have hsz : (⟨#[120, 58, 61, 49]⟩ : ByteArray).size = 4 := rfl
  have hq : (Em.str [58, 61]).toList = [58, 61] := by decide +kernel
  rw [hl4]
  clear hown hc hl4
  go_wp2_with fail
  refine (lwords_any _).mono ?_
  rintro e w2 ⟨rfl, hw2⟩
  have hb2 : Below w.heap.size w w2 := by rw [hw2]; exact hb1.alloc hb1.size _
  have is2 := words_is w1 rfl
  rw [← hw2] at is2
  clear hw2
  go_wp2_with fail
  refine (rwords_any _).mono ?_
  rintro e w3 ⟨rfl, hw3⟩
  have hb3 : Below w.heap.size w w3 := by rw [hw3]; exact hb2.alloc hb2.size _
  have is3 := words_is w2 rfl
  have is2' := is2.below ((Below.refl w2.heap.size w2).alloc (Nat.le_refl _) (.cells wordsV 9))
  rw [← hw3] at is3 is2'
  clear hw3 is2
  go_wp2_with fail
  refine (rRows_any _ _ Em4.words Em4.words _ is2' is3).mono ?_
  rintro e w4 ⟨rfl, hb4⟩
  have hb5 : Below w.heap.size w w4 := hb3.trans (hb4.mono hb3.size)
  rw [decide_eq_true rfl]
  clear hb4 is2' is3
  go_wp2
  go_ret
  exact ⟨rfl, hb5⟩
end Go.Proofs.YtglipebhmjbceaaDoor

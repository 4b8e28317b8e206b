/- What the document's own 'sign' answers. -/
import Derived.Test.YtlniokcekjemdaaDoorRLexA
namespace Go.Proofs.YtlniokcekjemdaaDoor
open Go.RowKit

/-- The signs, as they lie in memory. -/
def signsV : Array Value := (Em4.signs.map fun l => Value.string (Em.str l)).toArray
theorem signs_cell (w : World) (k : Nat) (hk : k < 17) : (w.alloc (.cells signsV 9)).cell? ⟨w.heap.size, k, none⟩ = some (.string (Em.str (Em4.signs[k]?.getD []))) := by
  rw [World.cell?_alloc_mark]
  have hl : k < Em4.signs.length := hk
  simp [signsV, hl]
theorem signs_str (k : Nat) (hk : k < 17) : Em.IsStr (Em.str (Em4.signs[k]?.getD [])) (Em4.signs[k]?.getD []) := by
  refine Em.isStr_str ?_
  have hl : k < Em4.signs.length := hk
  rw [List.getElem?_eq_getElem hl, Option.getD_some]
  have : ∀ l ∈ Em4.signs, ∀ x ∈ l, 0 ≤ x ∧ x ≤ 255 := by decide
  exact this _ (List.getElem_mem hl)

theorem find_at {p : List Int → Bool} : ∀ (l : List (List Int)) (k : Nat), k < l.length → p (l[k]?.getD []) = true → (∀ j, j < k → p (l[j]?.getD []) = false) → l.find? p = some (l[k]?.getD [])
  | [], k, h, _, _ => by simp at h
  | x :: r, 0, _, h, _ => by simp at h; simp [h]
  | x :: r, k + 1, hk, h, hn => by
    have h0 := hn 0 (by omega)
    simp at h0 h ⊢
    exact Or.inr ⟨h0, find_at (p := p) r k (by simpa using hk) h (fun j hj => by simpa using hn (j + 1) (by omega))⟩
theorem sgn_at {L : List Int} {k : Nat} (hk : k < 17) (h : (Em4.signs[k]?.getD []).isPrefixOf L = true) (hn : ∀ j, j < k → (Em4.signs[j]?.getD []).isPrefixOf L = false) : Em4.sgn L = Em4.signs[k]?.getD [] := by
  unfold Em4.sgn
  rw [find_at (p := fun s => s.isPrefixOf L) Em4.signs k hk h hn]; rfl
theorem sgn_none {L : List Int} (hn : ∀ j, j < 17 → (Em4.signs[j]?.getD []).isPrefixOf L = false) : Em4.sgn L = [] := by
  unfold Em4.sgn
  have : Em4.signs.find? (fun s => s.isPrefixOf L) = none := by
    rw [List.find?_eq_none]
    intro x hx
    obtain ⟨j, hj, rfl⟩ := List.getElem_of_mem hx
    have := hn j hj
    rw [List.getElem?_eq_getElem hj, Option.getD_some] at this
    simp [this]
  rw [this]; rfl
end Go.Proofs.YtlniokcekjemdaaDoor

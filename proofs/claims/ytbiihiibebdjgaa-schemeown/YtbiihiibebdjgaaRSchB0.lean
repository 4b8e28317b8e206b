/- The document's own Free (chapter 10): what is wanted of rows of ints while one is put together anew. -/
import Derived.Test.YtbiihiibebdjgaaScF
import Derived.Test.YtbiihiibebdjgaaRTypH
import Derived.Deep.RegionHeld
import Derived.BigQuiet
namespace Go.Proofs.Ytbiihiibebdjgaa
open Go.RowKit Go.Em8
set_option linter.unusedSimpArgs false
set_option linter.unusedVariables false

theorem own_empty (X : World) {B : Nat} (hB : B ≤ X.heap.size) : OwnInts (X.alloc (.cells #[] 3)) B (.slice (some ⟨X.heap.size, 0, none⟩) 0 0) [] := by
  refine ⟨rfl, .inr ⟨X.heap.size, 0, #[], rfl, hB, World.alloc_heap_new X _, Nat.le_refl _, by simp [maxLen], rfl, rfl⟩⟩
theorem src_one {X : World} {g : Nat} {x : Int} (h : X.cell? ⟨g, 0, none⟩ = some (.int .i64 x)) (hx : Em5.I64 x) : SrcInts X (.slice (some ⟨g, 0, none⟩) 1 1) [x] := by
  refine ⟨⟨some ⟨g, 0, none⟩, 1, rfl, by simp, by simp [maxLen], by simpa using hx, fun j t hj => ⟨_, rfl, ?_⟩⟩, fun n c e => by cases e⟩
  match j, hj with
  | 0, hj => simp at hj; subst hj; simpa [Addr.add] using h
theorem addr_add (b o k : Nat) : (⟨b, o, none⟩ : Addr).add k = ⟨b, o + k, none⟩ := by
  unfold Addr.add
  split
  · rename_i h; subst h; rfl
  · rfl
/-- 'out[:k]'. -/
theorem src_head {X : World} {a : Option Addr} {n c k : Nat} {l : List Int} (h : SrcInts X (.slice a n c) l) (hk : k ≤ l.length) : SrcInts X (.slice a k c) (l.take k) := by
  obtain ⟨⟨a', c', e, h1, h2, h3, h4⟩, h5⟩ := h
  cases e
  have hl : (l.take k).length = k := by simp; omega
  refine ⟨⟨a, c, by rw [hl], by omega, h2, fun t ht => h3 t (List.mem_of_mem_take ht), fun j t hj => h4 j t ?_⟩, fun n' c' e => h5 l.length c' (by cases e; rfl)⟩
  have hjk : j < k := by have := (List.getElem?_eq_some_iff.1 hj).1; omega
  rwa [List.getElem?_take_of_lt hjk] at hj
/-- 'out[k:]'. -/
theorem src_tail {X : World} {a : Option Addr} {n c k : Nat} {l : List Int} (h : SrcInts X (.slice a n c) l) (hk : k ≤ l.length) : SrcInts X (.slice (if c = k then a else a.map (·.add k)) (n - k) (c - k)) (l.drop k) := by
  obtain ⟨⟨a', c', e, h1, h2, h3, h4⟩, h5⟩ := h
  cases e
  have hl : (l.drop k).length = l.length - k := by simp
  refine ⟨⟨_, c - k, by rw [hl], by omega, by unfold maxLen at *; omega, fun t ht => h3 t (List.mem_of_mem_drop ht), fun j t hj => ?_⟩, fun n' c' e => ?_⟩
  · have hjl : k + j < l.length := by have := (List.getElem?_eq_some_iff.1 hj).1; omega
    rw [List.getElem?_drop] at hj
    obtain ⟨ad, rfl, hc⟩ := h4 _ t hj
    have hck : ¬ c = k := by omega
    refine ⟨ad.add k, by rw [if_neg hck]; rfl, ?_⟩
    have e2 : (ad.add k).add j = ad.add (k + j) := by
      unfold Addr.add
      by_cases hk0 : k = 0
      · subst hk0; simp
      · by_cases hj0 : j = 0
        · subst hj0; simp [hk0]
        · simp [hk0, hj0]
          obtain ⟨b, off, spot⟩ := ad
          simp
          omega
    rw [e2]; exact hc
  · split at e
    · rename_i hck
      cases e
      omega
    · cases a with
      | none => have := h5 _ _ rfl; cases e; omega
      | some ad => cases e
end Go.Proofs.Ytbiihiibebdjgaa

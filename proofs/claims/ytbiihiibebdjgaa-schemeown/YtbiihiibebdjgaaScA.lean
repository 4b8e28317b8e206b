/- Go's library on rows of ints, in words on rows: slices.Sort, Compact, Clone, BinarySearch (package scheme). -/
import Derived.Test.YtbiihiibebdjgaaLay10
import Derived.Test.YtbiihiibebdjgaaMath10
namespace Go.Proofs.Ytbiihiibebdjgaa
open Go.RowKit Go.Shelf Go.Sort
set_option linter.unusedSimpArgs false
set_option linter.unusedVariables false

/-- A row's numbers written anew, and the row cut short. -/
theorem OwnInts.put {w : World} {B g cap : Nat} {l : List Int} (h : OwnInts w B (.slice (some ⟨g, 0, none⟩) l.length cap) l) (q : Nat) (os : Array Obj) (t u : List Int) (ht : t.length = l.length) (hu : u = t.take u.length) :
    OwnInts (grow (putRow (Value.int .i64) (Sort.ahead w q) g 0 t.toArray) os) B (.slice (some ⟨g, 0, none⟩) u.length cap) u ∧ Below B w (grow (putRow (Value.int .i64) (Sort.ahead w q) g 0 t.toArray) os) := by
  have h' : w.ownsRow B 3 1 (.slice (some ⟨g, 0, none⟩) l.length cap) l.length (ints l) := h
  have hul : u.length ≤ t.length := by rw [hu, List.length_take]; exact Nat.min_le_right _ _
  refine ⟨?_, (Below.refl _ _).grown (grownBy_sorted_i _) (by have := (World.ownsRow.lt h' g rfl); omega) (fun k hk => by cases hk; exact (World.ownsRow.lt h' g rfl).1)⟩
  rcases h'.2 with ⟨h1, -⟩ | ⟨g', cap', cur, h1, h2, h3, h4, h5, h6, h7⟩
  · cases h1
  · cases h1
    refine ⟨by simp, .inr ⟨g, cap, _, rfl, h2, heap_sorted_i _ h3, by omega, h5, by simp [putCells, h6], ?_⟩⟩
    have e := take_putCells_i cur t (by omega)
    have e2 : u.length * 1 = min u.length t.length := by omega
    rw [e2, ← List.take_take, e, ← List.map_take, ← hu]
theorem OwnInts.cases {w : World} {B : Nat} {v : Value} {l : List Int} (h : OwnInts w B v l) : (v = .slice none 0 0 ∧ l = []) ∨ ∃ g cap cur, v = .slice (some ⟨g, 0, none⟩) l.length cap ∧ B ≤ g ∧ g < w.heap.size ∧ l.length ≤ cap ∧ cap ≤ maxLen ∧ w.heap[g]? = some (.cells cur 3 (0, 0)) ∧ cur.toList.take l.length = ints l := by
  rcases h.2 with ⟨h1, h2⟩ | ⟨g, cap, cur, h1, h2, h3, h4, h5, h6, h7⟩
  · exact .inl ⟨h1, List.length_eq_zero_iff.1 h2⟩
  · exact .inr ⟨g, cap, cur, h1, h2, (Array.getElem?_eq_some_iff.1 h3).1, h4, h5, h3, by simpa using h7⟩
/-- A slice of ints stays where another row alone is written. -/
theorem IsInts.grown {w w' : World} {v : Value} {l : List Int} (h : IsInts w v l) {row : Option Nat} (hg : w.grownBy w' row) (hne : ∀ b, v.ownBlock = some b → row ≠ some b) : IsInts w' v l := by
  obtain ⟨a, cap, rfl, h1, h2, h3, h4⟩ := h
  refine ⟨a, cap, rfl, h1, h2, h3, fun j t hj => ?_⟩
  obtain ⟨ad, rfl, hc⟩ := h4 j t hj
  refine ⟨ad, rfl, hg.cell hc ?_⟩
  have e : (ad.add j).block = ad.block := by unfold Addr.add; split <;> rfl
  rw [e]
  exact fun e2 => hne ad.block rfl e2.symm

/-- slices.Sort of a row of one's own. -/
theorem isort_any (B : Nat) (v : Value) (l : List Int) (w : World) (h : OwnInts w B v l) (hl : l.length ≤ 1000000) :
    Calls Try.prog 28 #[v] w fun e w' => e = .returned (.tuple #[]) ∧ OwnInts w' B v (sortI l) ∧ Below B w w' := by
  rcases h.cases with ⟨rfl, rfl⟩ | ⟨g, cap, cur, rfl, h1, h2, h3, h4, h5, h6⟩
  · refine (AnyM.slices_Sort_int_none Try.sort none 0 w).mono ?_
    rintro e w' ⟨rfl, rfl⟩
    exact ⟨rfl, by simpa [sortI] using h, Below.refl _ _⟩
  · refine (AnyM.slices_Sort_int Try.sort g 0 cap l w (holds_of_block_i h5 h6) h2 (by omega)).mono ?_
    rintro e w' ⟨rfl, n, os, rfl⟩
    have hp := h.put n os (sortI l) (sortI l) (sortI_len l) (by rw [List.take_length])
    rw [sortI_len] at hp
    exact ⟨rfl, hp⟩

/-- slices.Compact of a row of one's own. -/
theorem icompact_any (B : Nat) (v : Value) (l : List Int) (w : World) (h : OwnInts w B v l) (hl : l.length ≤ 1000000) :
    Calls Try.prog 29 #[v] w fun e w' => ∃ v', e = .returned v' ∧ OwnInts w' B v' (Lib.compact l) ∧ Below B w w' := by
  rcases h.cases with ⟨rfl, rfl⟩ | ⟨g, cap, cur, rfl, h1, h2, h3, h4, h5, h6⟩
  · refine (Any.slices_Compact_int_empty Try.compact none 0 w).mono ?_
    rintro e w' ⟨rfl, rfl⟩
    exact ⟨_, rfl, by simpa [Lib.compact, Lib.compactUpTo] using h, Below.refl _ _⟩
  · refine (Any.slices_Compact_int Try.compact g 0 cap l w (holds_of_block_i h5 h6) (by omega) h3).mono ?_
    rintro e w' ⟨rfl, q, rfl⟩
    have hlen : (Lib.compact l).length ≤ l.length := by
      unfold Lib.compact Lib.compactUpTo
      have := List.length_filter_le (Lib.keeps l.toArray) (List.range l.length)
      simpa using this
    have hp := h.put q #[] (Lib.compact l ++ List.replicate (l.length - (Lib.compact l).length) 0) (Lib.compact l) (by simp; omega) (by simp)
    rw [Sort.grow_empty] at hp
    exact ⟨_, rfl, hp⟩

/-- slices.Clone of ints. -/
theorem iclone_any (v : Value) (l : List Int) (w : World) (h : IsInts w v l) (hl : l.length ≤ 1000000) :
    Calls Try.prog 25 #[v] w fun e w' => ∃ v', e = .returned v' ∧ OwnInts w' w.heap.size v' l ∧ Below w.heap.size w w' := by
  by_cases hp : 0 < l.length
  · obtain ⟨b, off, cap, rfl, h1, h2, h3, h4⟩ := h.plain hp
    refine (Any.slices_Clone_int Try.clone b off l.length cap l w (Nat.le_refl _) (by omega) (fun j hj => by rw [h4 j l[j] (List.getElem?_eq_getElem hj)]; simp [List.getD, List.getElem?_eq_getElem hj])).mono ?_
    rintro e w' ⟨v', rfl, k1, -, k2⟩
    rw [List.take_length] at k1
    exact ⟨v', rfl, k1, k2⟩
  · have hn : l = [] := List.length_eq_zero_iff.1 (by omega)
    subst hn
    obtain ⟨a, cap, rfl⟩ := h.empty
    cases a with
    | none =>
      refine (Any.slices_Clone_int_nil Try.clone 0 cap w).mono ?_
      rintro e w' ⟨rfl, rfl⟩
      exact ⟨_, rfl, OwnInts.nil _ _, Below.refl _ _⟩
    | some a =>
      refine (Any.slices_Clone_int_zero Try.clone a cap w).mono ?_
      rintro e w' ⟨v', rfl, k1, -, k2⟩
      exact ⟨v', rfl, k1, k2⟩

/-- slices.BinarySearch in ints that do not fall. -/
theorem isearch_any (v : Value) (l : List Int) (x : Int) (w : World) (h : IsInts w v l) (hs : l.Pairwise (· ≤ ·)) (hl : l.length ≤ 1000000) :
    Calls Try.prog 35 #[v, .int .i64 x] w fun e w' => (∃ k : Int, e = .returned (.tuple #[.int .i64 k, .bool (decide (x ∈ l))])) ∧ ∃ q, w' = w.drewN q := by
  by_cases hp : 0 < l.length
  · obtain ⟨b, off, cap, rfl, h1, h2, h3, h4⟩ := h.plain hp
    refine (Any.slices_BinarySearch_int Try.search b off l.length cap l x w (Nat.le_refl _) (by omega) (fun j hj => by rw [h4 j l[j] (List.getElem?_eq_getElem hj)]; simp [List.getD, List.getElem?_eq_getElem hj]) (by rw [List.take_length]; exact hs)).mono ?_
    rintro e w' ⟨rfl, hq⟩
    exact ⟨⟨((l.countP (· < x) : Nat) : Int), by rw [List.take_length]; simp⟩, hq⟩
  · have hn : l = [] := List.length_eq_zero_iff.1 (by omega)
    subst hn
    obtain ⟨a, cap, rfl⟩ := h.empty
    refine (Any.slices_BinarySearch_int_empty Try.search a cap x w).mono ?_
    rintro e w' ⟨rfl, rfl⟩
    exact ⟨⟨0, by simp⟩, 0, rfl⟩
end Go.Proofs.Ytbiihiibebdjgaa

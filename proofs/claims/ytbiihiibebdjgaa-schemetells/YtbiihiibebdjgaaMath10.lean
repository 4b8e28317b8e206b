/- Chapter 10's own vars of an env as lists: rising, each once; as the document inserts them, and as the program sorts them. -/
import Derived.Test.YtbiihiibebdjgaaFrameBd
import Derived.Test.YtbiihiibebdjgaaMath8e
import Derived.Lib.SlicesCompact
namespace Go.Proofs.Ytbiihiibebdjgaa
open Go.Em8

/-- Numbers that rise. -/
def Rises (l : List Int) : Prop := l.Pairwise (· < ·)
theorem rises_ext : ∀ (l m : List Int), Rises l → Rises m → (∀ x, x ∈ l ↔ x ∈ m) → l = m
  | [], [], _, _, _ => rfl
  | [], y :: m, _, _, h => by have := (h y).2 (by simp); simp at this
  | x :: l, [], _, _, h => by have := (h x).1 (by simp); simp at this
  | x :: l, y :: m, hl, hm, h => by
    have hl' := List.pairwise_cons.1 hl
    have hm' := List.pairwise_cons.1 hm
    have e : x = y := by
      have h1 := (h x).1 (by simp)
      have h2 := (h y).2 (by simp)
      simp only [List.mem_cons] at h1 h2
      rcases h1 with e | h1
      · exact e
      · rcases h2 with e | h2
        · exact e.symm
        · have a1 := hm'.1 x h1
          have a2 := hl'.1 y h2
          omega
    subst e
    congr 1
    refine rises_ext l m hl'.2 hm'.2 fun z => ?_
    have hz := h z
    simp only [List.mem_cons] at hz
    constructor
    · intro hzl
      rcases hz.1 (.inr hzl) with e | hzm
      · subst e; have := hl'.1 z hzl; omega
      · exact hzm
    · intro hzm
      rcases hz.2 (.inr hzm) with e | hzl
      · subst e; have := hm'.1 z hzm; omega
      · exact hzl

/-- How many numbers at its beginning are less than x. -/
def lessTo (l : List Int) (x : Int) : Nat := (l.takeWhile fun y => decide (y < x)).length
/-- x put in where it belongs. -/
def insAt (l : List Int) (k : Nat) (x : Int) : List Int := l.take k ++ [x] ++ l.drop k
theorem insAt_mem (l : List Int) (k : Nat) (x y : Int) : y ∈ insAt l k x ↔ y ∈ l ∨ y = x := by
  unfold insAt
  simp only [List.mem_append, List.mem_singleton]
  have : y ∈ l ↔ y ∈ l.take k ∨ y ∈ l.drop k := by rw [← List.mem_append, List.take_append_drop]
  rw [this]
  constructor
  · rintro ((h | h) | h)
    · exact .inl (.inl h)
    · exact .inr h
    · exact .inl (.inr h)
  · rintro ((h | h) | h)
    · exact .inl (.inl h)
    · exact .inr h
    · exact .inl (.inr h)
theorem insAt_len (l : List Int) (k : Nat) (x : Int) : (insAt l k x).length = l.length + 1 := by
  unfold insAt
  simp
  omega
theorem insAt_rises {l : List Int} (h : Rises l) {k : Nat} {x : Int} (hx : x ∉ l) (h1 : ∀ y ∈ l.take k, y < x) (h2 : ∀ y, l[k]? = some y → ¬ y < x) : Rises (insAt l k x) := by
  have hd : ∀ y ∈ l.drop k, x < y := by
    intro y hy
    have hne : y ≠ x := fun e => hx (e ▸ List.mem_of_mem_drop hy)
    cases hk : l[k]? with
    | none =>
      rw [List.drop_eq_nil_of_le (by simpa using List.getElem?_eq_none_iff.1 hk)] at hy
      simp at hy
    | some z =>
      obtain ⟨hkl, hz⟩ := List.getElem?_eq_some_iff.1 hk
      have hzx := h2 z hk
      have hzy : z ≤ y := by
        rw [List.drop_eq_getElem_cons hkl] at hy
        rcases List.mem_cons.1 hy with e | hy
        · rw [hz] at e; omega
        · have hp : (l.drop k).Pairwise (· < ·) := List.Pairwise.sublist (List.drop_sublist k l) h
          rw [List.drop_eq_getElem_cons hkl, hz] at hp
          have := (List.pairwise_cons.1 hp).1 y hy
          omega
      omega
  unfold insAt Rises
  rw [List.pairwise_append, List.pairwise_append]
  refine ⟨⟨List.Pairwise.sublist (List.take_sublist k l) h, by simp, fun a ha b hb => ?_⟩, List.Pairwise.sublist (List.drop_sublist k l) h, fun a ha b hb => ?_⟩
  · simp at hb; subst hb; exact h1 a ha
  · have hb' := hd b hb
    rcases List.mem_append.1 ha with ha | ha
    · have := h1 a ha; omega
    · simp at ha; subst ha; exact hb'

/-- What is an env's own: a var of a bound's type that is not of the bound's Vars. -/
def OwnVar (l : List Bd) (x : Int) : Prop := ∃ b ∈ l, tocc x b.ty ∧ x ∉ b.vs

/-- slices.Compact keeps what is there. -/
theorem compact_mem (l : List Int) (x : Int) : x ∈ Go.Lib.compact l ↔ x ∈ l := by
  unfold Go.Lib.compact Go.Lib.compactUpTo
  simp only [List.mem_map, List.mem_filter, List.mem_range]
  constructor
  · rintro ⟨j, ⟨hj, -⟩, rfl⟩
    have : l.toArray[j]! = l[j] := by simp [getElem!_pos, hj]
    rw [this]
    exact List.getElem_mem hj
  · intro hx
    have key : ∀ n, ∀ j, j < n → j < l.length → l.toArray[j]! = x → ∃ a, (a < l.length ∧ Go.Lib.keeps l.toArray a = true) ∧ l.toArray[a]! = x := by
      intro n
      induction n with
      | zero => intro j hj; omega
      | succ n ih =>
        intro j hj hjl he
        by_cases hk : Go.Lib.keeps l.toArray j = true
        · exact ⟨j, ⟨hjl, hk⟩, he⟩
        · simp only [Go.Lib.keeps, decide_eq_true_eq, not_or, Decidable.not_not] at hk
          exact ih (j - 1) (by omega) (by omega) (by rw [← hk.2]; exact he)
    obtain ⟨j, hj, e⟩ := List.mem_iff_getElem.1 hx
    exact key (j + 1) j (by omega) hj (by simp [getElem!_pos, hj, e])
theorem compact_rises {l : List Int} (h : l.Pairwise (· ≤ ·)) : Rises (Go.Lib.compact l) := by
  unfold Go.Lib.compact Go.Lib.compactUpTo Rises
  rw [List.pairwise_map, List.pairwise_filter]
  have hr : (List.range l.length).Pairwise (fun a b => a < b ∧ b < l.length) := by
    have h1 : (List.range l.length).Pairwise (· < ·) := List.pairwise_lt_range
    refine h1.imp_of_mem fun ha hb hab => ⟨hab, by simpa using hb⟩
  refine hr.imp ?_
  rintro a b ⟨hab, hb⟩ - hkb
  have hle := List.pairwise_iff_getElem.1 h
  have e : ∀ j (hj : j < l.length), l.toArray[j]! = l[j] := fun j hj => by simp [getElem!_pos, hj]
  simp only [Go.Lib.keeps, decide_eq_true_eq] at hkb
  rcases hkb with h0 | hne
  · omega
  · rw [e a (by omega), e b hb]
    rw [e b hb, e (b - 1) (by omega)] at hne
    have h2 : l[b - 1]'(by omega) ≤ l[b] := hle (b - 1) b (by omega) hb (by omega)
    by_cases hab2 : a = b - 1
    · subst hab2; omega
    · have h3 : l[a]'(by omega) ≤ l[b - 1]'(by omega) := hle a (b - 1) (by omega) (by omega) (by omega)
      omega
/-- What slices.Sort leaves. -/
abbrev sortI (l : List Int) : List Int := l.mergeSort fun x y => decide (x ≤ y)
theorem sortI_rises (l : List Int) : (sortI l).Pairwise (· ≤ ·) := by
  have h := List.pairwise_mergeSort (le := fun x y : Int => decide (x ≤ y)) (fun a b c h k => by simp at *; omega) (fun a b => by simp; omega) l
  exact h.imp (by simp)
theorem sortI_mem (l : List Int) (x : Int) : x ∈ sortI l ↔ x ∈ l := List.mem_mergeSort
theorem sortI_len (l : List Int) : (sortI l).length = l.length := List.length_mergeSort l

/-- A type's vars but those of R. -/
def ownOf (b : Bd) : List Int := (tvars b.ty []).filter fun x => decide (x ∉ b.vs)
/-- The program's Free. -/
def freeP (l : List Bd) : List Int := Go.Lib.compact (sortI (l.flatMap ownOf))
theorem freeP_rises (l : List Bd) : Rises (freeP l) := compact_rises (sortI_rises _)
theorem ownOf_mem (b : Bd) (x : Int) : x ∈ ownOf b ↔ tocc x b.ty ∧ x ∉ b.vs := by
  unfold ownOf
  rw [List.mem_filter, tvars_iff]
  simp
theorem freeP_mem (l : List Bd) (x : Int) : x ∈ freeP l ↔ OwnVar l x := by
  unfold freeP OwnVar
  rw [compact_mem, sortI_mem, List.mem_flatMap]
  simp only [ownOf_mem]

/-- The document's Free, a bound at a time: what it has when those ahead have been taken. -/
structure FreeAt (P : Int → Prop) (out : List Int) : Prop where
  rises : Rises out
  mem : ∀ x, x ∈ out ↔ P x
theorem FreeAt.eq {P Q : Int → Prop} {a b : List Int} (h : FreeAt P a) (k : FreeAt Q b) (e : ∀ x, P x ↔ Q x) : a = b := rises_ext a b h.rises k.rises fun x => by rw [h.mem, k.mem, e]
theorem FreeAt.nil {P : Int → Prop} (h : ∀ x, ¬ P x) : FreeAt P [] := ⟨List.Pairwise.nil, fun x => by simp [h x]⟩
theorem FreeAt.iff {P Q : Int → Prop} {a : List Int} (h : FreeAt P a) (e : ∀ x, P x ↔ Q x) : FreeAt Q a := ⟨h.rises, fun x => (h.mem x).trans (e x)⟩
theorem freeP_at (l : List Bd) : FreeAt (OwnVar l) (freeP l) := ⟨freeP_rises l, freeP_mem l⟩

/-- Chapter 10's Vars of General: a type's vars that are not free in the env. -/
def genV (l : List Bd) (t : Ty) : List Int := (tvars t []).filter fun x => decide (x ∉ freeP l)
theorem genV_mem (l : List Bd) (t : Ty) (x : Int) : x ∈ genV l t ↔ tocc x t ∧ ¬ OwnVar l x := by
  unfold genV
  rw [List.mem_filter, tvars_iff]
  simp [freeP_mem]
theorem genV_nil (l : List Bd) (nm : List Int) (t : Ty) : genV (l ++ [⟨nm, [], t⟩]) t = [] := by
  rw [List.eq_nil_iff_forall_not_mem]
  intro x hx
  obtain ⟨h1, h2⟩ := (genV_mem _ _ _).1 hx
  exact h2 ⟨⟨nm, [], t⟩, List.mem_append_right _ (by simp), h1, by simp⟩
end Go.Proofs.Ytbiihiibebdjgaa

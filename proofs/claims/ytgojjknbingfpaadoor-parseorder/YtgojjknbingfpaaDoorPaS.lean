/- The program's parser in memory: the tokens that are left, how deep it is, the first error and its place. -/
import Derived.Test.YtgojjknbingfpaaDoorPureB
import Derived.Test.YtgojjknbingfpaaDoorPureA
namespace Go.Em6
open Go.RowKit Go.Em4 Go.Em5

/-- So deep a parser may be: while nothing erred, less than 40. -/
def Lim (d : Nat) (s : St) : Prop := match s with | .ok _ => d < 40 | .error _ => d ≤ 40
/-- A token is of one of five kinds; a name has a letter. -/
def KOk (t : Tok) : Prop := (1 ≤ t.kind ∧ t.kind ≤ 5) ∧ (t.kind = 1 → t.text ≠ [])
/-- In the block pb there lies the program's parser, d deep, over tokens in the block tb; its state is s. -/
def IsPr (w : World) (pb tb d : Nat) (s : St) : Prop :=
  ∃ (v : Value) (p c : Int) (ty : TypeId), w.heap[pb]? = some (.cells #[v, .int .i64 d, .int .i64 p, .int .i64 c] ty (0, 0)) ∧
    tb ≠ pb ∧ tb < w.heap.size ∧ d ≤ 40 ∧
    match s with
    | .ok L => c = 0 ∧ EndL L ∧ (∀ t ∈ L, TokOk t ∧ KOk t) ∧ ∃ off cap, v = .slice (some ⟨tb, off, none⟩) L.length cap ∧ L.length ≤ cap ∧ cap ≤ maxLen ∧ ToksIn w tb off L
    | .error (e, a) => v = .slice none 0 0 ∧ c = e ∧ e ≠ 0 ∧ e ≤ 9 ∧ p = a ∧ a ≤ 140737488351232
/-- As IsPr; and it is not too deep. -/
def IsPs (w : World) (pb tb d : Nat) (s : St) : Prop := IsPr w pb tb d s ∧ Lim d s

theorem IsPr.lt {w : World} {pb tb d : Nat} {s : St} (h : IsPr w pb tb d s) : pb < w.heap.size ∧ tb < w.heap.size ∧ tb ≠ pb ∧ d ≤ 40 := by
  obtain ⟨v, p, c, ty, h1, h2, h3, h4, -⟩ := h
  exact ⟨heap_lt h1, h3, h2, h4⟩
theorem IsPr.keep {w w' : World} {pb tb d : Nat} {s : St} (h : IsPr w pb tb d s) (hs : w.heap.size ≤ w'.heap.size) (h1 : w'.heap[pb]? = w.heap[pb]?) (h2 : w'.heap[tb]? = w.heap[tb]?) : IsPr w' pb tb d s := by
  obtain ⟨v, p, c, ty, a1, a2, a3, a4, a5⟩ := h
  refine ⟨v, p, c, ty, by rw [h1]; exact a1, a2, by omega, a4, ?_⟩
  cases s with
  | error e => exact a5
  | ok L =>
    obtain ⟨b1, b2, b3, off, cap, b4, b5, b6, b7⟩ := a5
    have key : ∀ o, w'.cell? ⟨tb, o, none⟩ = w.cell? ⟨tb, o, none⟩ := fun o => World.cell?_of_block (a := ⟨tb, o, none⟩) h2
    refine ⟨b1, b2, b3, off, cap, b4, b5, b6, fun j t hj => ?_⟩
    simp only [key]
    exact b7 j t hj
theorem IsPr.below {w w' : World} {pb tb d : Nat} {s : St} (h : IsPr w pb tb d s) (hb : Below w.heap.size w w') : IsPr w' pb tb d s :=
  h.keep hb.size (hb.block _ h.lt.1) (hb.block _ h.lt.2.1)
theorem IsPs.lt {w : World} {pb tb d : Nat} {s : St} (h : IsPs w pb tb d s) : pb < w.heap.size ∧ tb < w.heap.size ∧ tb ≠ pb ∧ d ≤ 40 := h.1.lt
theorem IsPs.keep {w w' : World} {pb tb d : Nat} {s : St} (h : IsPs w pb tb d s) (hs : w.heap.size ≤ w'.heap.size) (h1 : w'.heap[pb]? = w.heap[pb]?) (h2 : w'.heap[tb]? = w.heap[tb]?) : IsPs w' pb tb d s := ⟨h.1.keep hs h1 h2, h.2⟩
theorem IsPs.below {w w' : World} {pb tb d : Nat} {s : St} (h : IsPs w pb tb d s) (hb : Below w.heap.size w w') : IsPs w' pb tb d s := ⟨h.1.below hb, h.2⟩
theorem IsPr.alloc {w : World} {pb tb d : Nat} {s : St} (h : IsPr w pb tb d s) (o : Obj) : IsPr (w.alloc o) pb tb d s := h.below ((Below.refl _ _).alloc (Nat.le_refl _) o)
theorem IsPs.alloc {w : World} {pb tb d : Nat} {s : St} (h : IsPs w pb tb d s) (o : Obj) : IsPs (w.alloc o) pb tb d s := h.below ((Below.refl _ _).alloc (Nat.le_refl _) o)
theorem IsPs.drew {w : World} {pb tb d : Nat} {s : St} (h : IsPs w pb tb d s) : IsPs w.drew pb tb d s := h.below (Below.refl _ _).drew
theorem IsPs.set {w W : World} {pb tb d g : Nat} {s : St} (h : IsPs w pb tb d s) (hz : W.heap.size = w.heap.size) (hk : ∀ k, k ≠ g → W.heap[k]? = w.heap[k]?) (h1 : pb ≠ g) (h2 : tb ≠ g) : IsPs W pb tb d s :=
  h.keep (by omega) (hk _ h1) (hk _ h2)

/-- The next token; behind an error, none of any kind. -/
def peekS : St → Tok
  | .error _ => ⟨0, [], 0, 0⟩
  | .ok [] => ⟨0, [], 0, 0⟩
  | .ok (t :: _) => t
/-- The word that stands there, or nothing. -/
def wordS (s : St) : List Int := if (peekS s).kind = 4 then (peekS s).text else []

theorem heap_set {pb : Nat} {ty : TypeId} (w : World) (C : Array Value) (o : Nat) (v : Value) (h : w.heap[pb]? = some (.cells C ty (0, 0))) : (w.setCell ⟨pb, o, none⟩ v).heap[pb]? = some (.cells (C.setIfInBounds o v) ty (0, 0)) := by
  have := heap_lt h
  simp only [World.setCell, Array.getElem?_modify, if_true, h]
  simp
/-- What stands in the parser's block. -/
theorem IsPr.cells {w : World} {pb tb d : Nat} {s : St} (h : IsPr w pb tb d s) : ∃ (v : Value) (p c : Int), w.cell? ⟨pb, 0, none⟩ = some v ∧ w.cell? ⟨pb, 1, none⟩ = some (.int .i64 d) ∧ w.cell? ⟨pb, 2, none⟩ = some (.int .i64 p) ∧ w.cell? ⟨pb, 3, none⟩ = some (.int .i64 c) ∧ (∀ o, w.frozen? ⟨pb, o, none⟩ = false) ∧
    (match (generalizing := false) s with
      | .ok L => c = 0 ∧ EndL L ∧ (∀ t ∈ L, TokOk t ∧ KOk t) ∧ ∃ off cap, v = .slice (some ⟨tb, off, none⟩) L.length cap ∧ L.length ≤ cap ∧ cap ≤ maxLen ∧ ToksIn w tb off L
      | .error (e, a) => v = .slice none 0 0 ∧ c = e ∧ e ≠ 0 ∧ e ≤ 9 ∧ p = a ∧ a ≤ 140737488351232) := by
  obtain ⟨v, p, c, ty, a1, a2, a3, a4, a5⟩ := h
  have key : ∀ o, w.cell? ⟨pb, o, none⟩ = (#[v, .int .i64 d, .int .i64 p, .int .i64 c] : Array Value)[o]? := fun o => by simp [World.cell?, a1]
  exact ⟨v, p, c, by rw [key]; rfl, by rw [key]; rfl, by rw [key]; rfl, by rw [key]; rfl, fun o => by simp [World.frozen?, a1], a5⟩
/-- The first token is read. -/
theorem IsPr.next {w : World} {pb tb d : Nat} {t : Tok} {r : List Tok} (h : IsPr w pb tb d (.ok (t :: r))) (hr : t.kind ≠ 5) :
    ∃ off cap, w.cell? ⟨pb, 0, none⟩ = some (.slice (some ⟨tb, off, none⟩) (r.length + 1) (cap + 1)) ∧ r.length ≤ cap ∧ cap + 1 ≤ maxLen ∧ w.cell? ⟨tb, off, none⟩ = some (.int .i64 t.kind) ∧ w.cell? ⟨tb, off + 1, none⟩ = some (.string (Em.str t.text)) ∧ w.cell? ⟨tb, off + 2, none⟩ = some (.int .i64 t.num) ∧ w.cell? ⟨tb, off + 3, none⟩ = some (.int .i64 t.pos) ∧
      (r ≠ []) ∧ ∀ w', Below w.heap.size w w' → IsPr (w'.setCell ⟨pb, 0, none⟩ (.slice (some ⟨tb, off + 4, none⟩) r.length cap)) pb tb d (.ok r) := by
  have hlt := h.lt
  obtain ⟨v, p, c, ty, a1, a2, a3, a4, b1, b2, b3, off, cap, rfl, b5, b6, b7⟩ := h
  have hE := b2.tail hr
  obtain ⟨k, rfl⟩ : ∃ k, cap = k + 1 := ⟨cap - 1, by simp at b5; omega⟩
  obtain ⟨k0, k1, k2, k3⟩ := b7 0 t rfl
  refine ⟨off, k, by simp [World.cell?, a1], by simpa using b5, b6, by simpa using k0, by simpa using k1, by simpa using k2, by simpa using k3, hE.ne, fun w' hb => ?_⟩
  have a1' : w'.heap[pb]? = some (.cells #[.slice (some ⟨tb, off, none⟩) (t :: r).length (k + 1), .int .i64 d, .int .i64 p, .int .i64 c] ty (0, 0)) := by rw [hb.block _ hlt.1]; exact a1
  refine ⟨.slice (some ⟨tb, off + 4, none⟩) r.length k, p, c, ty, ?_, a2, by have := hb.size; simp; omega, a4, b1, hE, fun t ht => b3 t (by simp [ht]), off + 4, k, rfl, by simpa using b5, by omega, fun j u hj => ?_⟩
  · rw [heap_set _ _ _ _ a1']; simp
  · have key : ∀ o, (w'.setCell ⟨pb, 0, none⟩ (.slice (some ⟨tb, off + 4, none⟩) r.length k)).cell? ⟨tb, o, none⟩ = w.cell? ⟨tb, o, none⟩ := fun o => by
      rw [World.cell?_setCell_other _ _ _ _ (fun e => a2 (by injection e with e1; exact e1.symm))]
      exact hb.cell (p := ⟨tb, o, none⟩) hlt.2.1
    have := b7 (j + 1) u (by simpa using hj)
    simp only [key]
    rw [show off + 4 + j * 4 = off + (j + 1) * 4 by omega]
    exact this
/-- An error, where there was none. -/
theorem IsPr.err {w : World} {pb tb d : Nat} {L : List Tok} (h : IsPr w pb tb d (.ok L)) (k a : Nat) (hk0 : k ≠ 0) (hk : k ≤ 9) (ha : a ≤ 140737488351232) :
    IsPr (((w.setCell ⟨pb, 2, none⟩ (.int .i64 a)).setCell ⟨pb, 3, none⟩ (.int .i64 k)).setCell ⟨pb, 0, none⟩ (.slice none 0 0)) pb tb d (.error (k, a)) := by
  obtain ⟨v, p, c, ty, a1, a2, a3, a4, -⟩ := h
  refine ⟨.slice none 0 0, a, k, ty, ?_, a2, by simpa using a3, a4, rfl, rfl, hk0, hk, rfl, ha⟩
  rw [heap_set _ _ _ _ (heap_set _ _ _ _ (heap_set _ _ _ _ a1))]
  simp
/-- It is so deep from now on. -/
theorem IsPr.deep {w : World} {pb tb d : Nat} {s : St} (h : IsPr w pb tb d s) (k : Nat) (hk : k ≤ 40) : IsPr (w.setCell ⟨pb, 1, none⟩ (.int .i64 k)) pb tb k s := by
  have hlt := h.lt
  obtain ⟨v, p, c, ty, a1, a2, a3, a4, a5⟩ := h
  refine ⟨v, p, c, ty, ?_, a2, by simpa using a3, hk, ?_⟩
  · rw [heap_set _ _ _ _ a1]; simp
  · cases s with
    | error e => exact a5
    | ok L =>
      obtain ⟨b1, b2, b3, off, cap, b4, b5, b6, b7⟩ := a5
      refine ⟨b1, b2, b3, off, cap, b4, b5, b6, fun j u hj => ?_⟩
      have key : ∀ o, (w.setCell ⟨pb, 1, none⟩ (.int .i64 k)).cell? ⟨tb, o, none⟩ = w.cell? ⟨tb, o, none⟩ := fun o => World.cell?_setCell_other _ _ _ _ (fun e => a2 (by injection e with e1; exact e1.symm))
      simp only [key]
      exact b7 j u hj
theorem IsPr.tok {w : World} {pb tb d : Nat} {L : List Tok} (h : IsPr w pb tb d (.ok L)) : (∀ t ∈ L, TokOk t) ∧ EndL L := by
  obtain ⟨v, p, c, ty, a1, a2, a3, a4, b1, b2, b3, -⟩ := h
  exact ⟨fun t ht => (b3 t ht).1, b2⟩
theorem IsPr.kok {w : World} {pb tb d : Nat} {t : Tok} {r : List Tok} (h : IsPr w pb tb d (.ok (t :: r))) : KOk t := by
  obtain ⟨v, p, c, ty, a1, a2, a3, a4, b1, b2, b3, -⟩ := h
  exact (b3 t (by simp)).2
theorem IsPr.now {w : World} {pb tb d : Nat} {s : St} (h : IsPr w pb tb d s) : TokOk (peekS s) := by
  cases s with
  | error e => exact ⟨⟨by simp [peekS], by simp [peekS]⟩, ⟨by simp [peekS], by simp [peekS]⟩, by simp [peekS], ⟨by simp [peekS], by simp [peekS]⟩⟩
  | ok L =>
    obtain ⟨h1, h2⟩ := h.tok
    cases L with
    | nil => exact absurd rfl h2.ne
    | cons t r => exact h1 t (by simp)

/-! ### What a state is -/
theorem isWS_peek (x : List Int) (s : St) : isWS x s = (decide ((peekS s).kind = 4) && decide ((peekS s).text = x)) := by
  cases s with
  | error e => simp [isWS, peekS]
  | ok L => cases L with
    | nil => simp [isWS, peekS, isW]
    | cons t r => rfl
theorem wordS_eq {x : List Int} (hx : x ≠ []) (s : St) : decide (wordS s = x) = isWS x s := by
  rw [isWS_peek, wordS]
  by_cases h : (peekS s).kind = 4
  · rw [if_pos h, decide_eq_true h, Bool.true_and]
  · rw [if_neg h, decide_eq_false h, Bool.false_and]
    exact decide_eq_false (fun e => hx e.symm)
theorem wordS_txt {w : World} {pb tb d : Nat} {s : St} (h : IsPr w pb tb d s) : Txt (wordS s) := by
  rw [wordS]
  split
  · exact h.now.1
  · exact txt_nil
theorem lim_err {d : Nat} {s : St} {e : Err} (h : Lim d s) : Lim d (.error e) := by
  cases s with
  | error e => exact h
  | ok L => exact Nat.le_of_lt h
theorem lim_fail {d : Nat} {s : St} (k : Nat) (h : Lim d s) : Lim d (failS k s) := by
  cases s with
  | error e => exact h
  | ok L => exact Nat.le_of_lt h
theorem lim_tail {d : Nat} {s : St} (h : Lim d s) : Lim d (tailS s) := by
  cases s with
  | error e => exact h
  | ok L => exact h
theorem lim_of {d : Nat} (s : St) (h : d < 40) : Lim d s := by
  cases s with
  | error e => exact Nat.le_of_lt h
  | ok L => exact h
theorem lim_fits {d : Nat} {s s' : St} {F : List Tok → R} {n : Nd} (h : Lim d s) (hf : Fits (thn s F) n s') : Lim d s' := by
  cases s with
  | error e => simp only [thn, bnd0, Fits] at hf; subst hf; exact h
  | ok L => exact lim_of _ h
/-- The Op of an atom that begins with t, or nothing. -/
def opA (t : Tok) : List Int :=
  if t.kind = 2 then [105, 110, 116] else if t.kind = 3 then [115, 116, 114] else if t.kind = 1 then [118, 97, 114] else if t.kind = 4 then
    (if t.text = [116, 114, 117, 101] then [98, 111, 111, 108] else if t.text = [102, 97, 108, 115, 101] then [98, 111, 111, 108] else if t.text = [33] then [103, 101, 116] else if t.text = [40] then [117, 110, 105, 116] else if t.text = [91] then [110, 105, 108] else [])
  else []
theorem opA_byt (t : Tok) : ∀ x ∈ opA t, 0 ≤ x ∧ x ≤ 255 := by
  unfold opA
  split
  · decide
  split
  · decide
  split
  · decide
  split
  · split
    · decide
    split
    · decide
    split
    · decide
    split
    · decide
    split
    · decide
    · decide
  · decide
theorem opA_len (t : Tok) : (opA t).length ≤ 4 := by
  unfold opA
  split
  · decide
  split
  · decide
  split
  · decide
  split
  · split
    · decide
    split
    · decide
    split
    · decide
    split
    · decide
    split
    · decide
    · decide
  · decide
theorem opA_txt (t : Tok) : Txt (opA t) := ⟨opA_byt t, by have := opA_len t; omega⟩
theorem opA_begins {w : World} {pb tb d : Nat} {s : St} (h : IsPr w pb tb d s) : decide (opA (peekS s) = []) = !beginsS s := by
  cases s with
  | error e => rfl
  | ok L => cases L with
    | nil => rfl
    | cons t r =>
      have hk := h.kok.1
      show decide (opA t = []) = !begins (t :: r)
      by_cases h2 : t.kind = 2
      · simp [begins, opA, h2]
      by_cases h3 : t.kind = 3
      · simp [begins, opA, h3]
      by_cases h1 : t.kind = 1
      · simp [begins, opA, h1]
      by_cases h4 : t.kind = 4
      · by_cases e1 : t.text = [116, 114, 117, 101]
        · simp [begins, opA, h4, e1]
        by_cases e2 : t.text = [102, 97, 108, 115, 101]
        · simp [begins, opA, h4, e2]
        by_cases e3 : t.text = [33]
        · simp [begins, opA, h4, e3]
        by_cases e4 : t.text = [40]
        · simp [begins, opA, h4, e4]
        by_cases e5 : t.text = [91]
        · simp [begins, opA, h4, e5]
        simp [begins, opA, h4, e1, e2, e3, e4, e5]
      · have h5 : t.kind = 5 := by omega
        simp [begins, opA, h5]

/-! ### A block of four cells -/
structure Four (w : World) (g : Nat) (v0 v1 v2 v3 : Value) : Prop where
  c0 : w.cell? ⟨g, 0, none⟩ = some v0
  c1 : w.cell? ⟨g, 1, none⟩ = some v1
  c2 : w.cell? ⟨g, 2, none⟩ = some v2
  c3 : w.cell? ⟨g, 3, none⟩ = some v3
  f0 : w.frozen? ⟨g, 0, none⟩ = false
  f1 : w.frozen? ⟨g, 1, none⟩ = false
  f2 : w.frozen? ⟨g, 2, none⟩ = false
  f3 : w.frozen? ⟨g, 3, none⟩ = false
theorem Four.lt {w : World} {g : Nat} {v0 v1 v2 v3 : Value} (h : Four w g v0 v1 v2 v3) : g < w.heap.size := Em.cell_lt h.c0
theorem Four.far {w W : World} {g : Nat} {v0 v1 v2 v3 : Value} (h : Four w g v0 v1 v2 v3) (hk : W.heap[g]? = w.heap[g]?) : Four W g v0 v1 v2 v3 := by
  have c : ∀ o, W.cell? ⟨g, o, none⟩ = w.cell? ⟨g, o, none⟩ := fun o => World.cell?_of_block (a := ⟨g, o, none⟩) hk
  have f : ∀ o, W.frozen? ⟨g, o, none⟩ = w.frozen? ⟨g, o, none⟩ := fun o => World.frozen?_of_block (a := ⟨g, o, none⟩) hk
  exact ⟨by rw [c]; exact h.c0, by rw [c]; exact h.c1, by rw [c]; exact h.c2, by rw [c]; exact h.c3, by rw [f]; exact h.f0, by rw [f]; exact h.f1, by rw [f]; exact h.f2, by rw [f]; exact h.f3⟩
theorem Four.bes {w w' : World} {g pb : Nat} {v0 v1 v2 v3 : Value} (h : Four w g v0 v1 v2 v3) (hb : Bes pb w w') (hn : g ≠ pb) : Four w' g v0 v1 v2 v3 := h.far (hb.block g h.lt hn)
theorem Four.below {w w' : World} {g : Nat} {v0 v1 v2 v3 : Value} (h : Four w g v0 v1 v2 v3) (hb : Below w.heap.size w w') : Four w' g v0 v1 v2 v3 := h.far (hb.block g h.lt)
theorem Four.alloc {w : World} {g : Nat} {v0 v1 v2 v3 : Value} (h : Four w g v0 v1 v2 v3) (o : Obj) : Four (w.alloc o) g v0 v1 v2 v3 := h.below ((Below.refl _ _).alloc (Nat.le_refl _) o)
theorem Four.drew {w : World} {g : Nat} {v0 v1 v2 v3 : Value} (h : Four w g v0 v1 v2 v3) : Four w.drew g v0 v1 v2 v3 := h.below (Below.refl _ _).drew
theorem Four.put {w : World} {g b o : Nat} {v0 v1 v2 v3 u : Value} (h : Four w g v0 v1 v2 v3) (hn : g ≠ b) : Four (w.setCell ⟨b, o, none⟩ u) g v0 v1 v2 v3 := h.far (Below.heap_setCell _ _ _ _ hn)
theorem Four.made (w : World) (v0 v1 v2 v3 : Value) (ty : TypeId) : Four (w.alloc (.cells #[v0, v1, v2, v3] ty)) w.heap.size v0 v1 v2 v3 :=
  ⟨by simp, by simp, by simp, by simp, by simp, by simp, by simp, by simp⟩
/-- A store of four cells. -/
theorem Four.set {w : World} {g : Nat} {u0 u1 u2 u3 : Value} (h : Four w g u0 u1 u2 u3) (v0 v1 v2 v3 : Value) :
    ∃ W, ((((w.setCell ⟨g, 0, none⟩ v0).setCell ⟨g, 1, none⟩ v1).setCell ⟨g, 2, none⟩ v2).setCell ⟨g, 3, none⟩ v3) = W ∧
      Four W g v0 v1 v2 v3 ∧ W.heap.size = w.heap.size ∧ (∀ k, k ≠ g → W.heap[k]? = w.heap[k]?) ∧ (∀ pb a, Bes pb a w → a.heap.size ≤ g → Bes pb a W) := by
  have other : ∀ (w : World) (o j : Nat) (v : Value), j ≠ o → (w.setCell ⟨g, o, none⟩ v).cell? ⟨g, j, none⟩ = w.cell? ⟨g, j, none⟩ := fun w o j v hj => World.cell?_setCell_other _ _ _ _ (fun e => hj (by injection e with e1 e2; exact e2.symm))
  have same : ∀ (w : World) (o : Nat) (v u : Value), w.cell? ⟨g, o, none⟩ = some u → (w.setCell ⟨g, o, none⟩ v).cell? ⟨g, o, none⟩ = some v := fun w o v u hu => World.cell?_setCell_same' w ⟨g, o, none⟩ v (by rw [hu]; rfl)
  refine ⟨_, rfl, ⟨?_, ?_, ?_, ?_, ?_, ?_, ?_, ?_⟩, by simp, fun k hk => ?_, fun pb a hb hg => (((hb.setCell (.inr hg) v0).setCell (.inr hg) v1).setCell (.inr hg) v2).setCell (.inr hg) v3⟩
  · rw [other _ _ _ _ (by omega), other _ _ _ _ (by omega), other _ _ _ _ (by omega)]; exact same _ _ _ _ h.c0
  · rw [other _ _ _ _ (by omega), other _ _ _ _ (by omega)]; exact same _ _ _ _ ((other _ _ _ _ (by omega)).trans h.c1)
  · rw [other _ _ _ _ (by omega)]; exact same _ _ _ _ ((other _ _ _ _ (by omega)).trans ((other _ _ _ _ (by omega)).trans h.c2))
  · exact same _ _ _ _ ((other _ _ _ _ (by omega)).trans ((other _ _ _ _ (by omega)).trans ((other _ _ _ _ (by omega)).trans h.c3)))
  · simp only [World.frozen?_setCell]; exact h.f0
  · simp only [World.frozen?_setCell]; exact h.f1
  · simp only [World.frozen?_setCell]; exact h.f2
  · simp only [World.frozen?_setCell]; exact h.f3
  · rw [Below.heap_setCell _ _ _ _ hk, Below.heap_setCell _ _ _ _ hk, Below.heap_setCell _ _ _ _ hk, Below.heap_setCell _ _ _ _ hk]
end Go.Em6

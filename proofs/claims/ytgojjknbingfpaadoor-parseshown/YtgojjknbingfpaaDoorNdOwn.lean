/- Rows of expressions of a call's own; a variable that holds an expression, and grows. -/
import Derived.Test.YtgojjknbingfpaaDoorPaS
import Derived.Laws.OwnMore
import Derived.Maps.AppendAt
namespace Go.Em6
open Go.RowKit Go.Em4 Go.Em5

theorem six_len {P : Nat → Prop} {w : World} {t : Nd} {c : Value} (h : IsNdP P w t c) : (six c).length = 6 := by
  obtain ⟨s0, s1, s2, n, p, a, l, k, rfl⟩ := isNdP_shape h
  rfl
theorem flat_len : ∀ (cs : List Value), (∀ c ∈ cs, (six c).length = 6) → (cs.flatMap six).length = cs.length * 6
  | [], _ => rfl
  | c :: r, h => by
    rw [List.flatMap_cons, List.length_append, h c (by simp), flat_len r (fun c hc => h c (by simp [hc])), List.length_cons]
    omega
theorem flat_get : ∀ (cs : List Value), (∀ c ∈ cs, (six c).length = 6) → ∀ (j k : Nat) (c : Value), cs[j]? = some c → k < 6 → (cs.flatMap six)[j * 6 + k]? = (six c)[k]?
  | [], _, j, _, _, h, _ => by simp at h
  | x :: r, h, 0, k, c, hc, hk => by
    simp at hc; subst hc
    rw [List.flatMap_cons, List.getElem?_append_left (by rw [h x (by simp)]; omega)]
    simp
  | x :: r, h, j + 1, k, c, hc, hk => by
    rw [List.flatMap_cons, List.getElem?_append_right (by rw [h x (by simp)]; omega), h x (by simp)]
    rw [show (j + 1) * 6 + k - 6 = j * 6 + k by omega]
    exact flat_get r (fun c hc => h c (by simp [hc])) j k c (by simpa using hc) hk

/-- Expressions in a row of memory of a call's own, at block B or behind it; of the blocks that they lie in P holds, and none is the row itself. -/
def OwnNds (P : Nat → Prop) (e : TypeId) (w : World) (B : Nat) (v : Value) (l : List Nd) : Prop :=
  ∃ cs : List Value, cs.length = l.length ∧ w.ownsRow B e 6 v l.length (cs.flatMap six) ∧ (∀ c ∈ cs, (six c).length = 6) ∧
    ∀ (j : Nat) (t : Nd) (c : Value), l[j]? = some t → cs[j]? = some c → IsNdP (fun b => P b ∧ some b ≠ v.ownBlock) w t c
theorem OwnNds.nil (P : Nat → Prop) (e : TypeId) (w : World) (B : Nat) : OwnNds P e w B (.slice none 0 0) [] := ⟨[], rfl, World.ownsRow_nil w B e 6, by simp, by simp⟩
theorem six_agg {c : Value} {P : Nat → Prop} {w : World} {t : Nd} (h : IsNdP P w t c) : ∃ c0 c1 c2 c3 c4 c5, c = .agg #[c0, c1, c2, c3, c4, c5] := by
  obtain ⟨s0, s1, s2, n, p, a, l, k, rfl⟩ := isNdP_shape h
  exact ⟨_, _, _, _, _, _, rfl⟩
/-- Such a row is the kids of an expression. -/
theorem OwnNds.is {P : Nat → Prop} {e : TypeId} {w : World} {B : Nat} {a : Option Addr} {n cap : Nat} {l : List Nd} (h : OwnNds P e w B (.slice a n cap) l) (hP : ∀ b, B ≤ b → P b) {op nm ar : List Int} {m p : Int} (ho : Txt op) (hn : Txt nm) (ha : Txt ar) (hm : I64 m) (hp : I64 p) :
    IsNdP P w (.mk op nm ar m p l) (.agg #[.string (Em.str op), .string (Em.str nm), .string (Em.str ar), .int .i64 m, .int .i64 p, .slice a n cap]) := by
  obtain ⟨cs, hcs, hown, h6, hel⟩ := h
  unfold IsNdP
  rcases hown.2 with ⟨h1, h2⟩ | ⟨g, c, cur, h1, hg, hh, h3, h4, h5, -⟩
  · have hl : l = [] := List.length_eq_zero_iff.1 h2
    subst hl
    cases h1
    exact ⟨none, 0, rfl, ho, hn, ha, hm, hp, by simp, by simp, by simp⟩
  · unfold maxLen at h4
    cases h1
    refine ⟨_, cap, rfl, ho, hn, ha, hm, hp, h3, by omega, fun _ => ⟨g, 0, rfl, ?_, hP g hg, kidsAtP_mk l 0 fun j t hj => ?_⟩⟩
    · exact (World.ownsRow.lt hown g rfl).2
    · have hjl := (List.getElem?_eq_some_iff.1 hj).1
      obtain ⟨x, hx⟩ : ∃ x, cs[j]? = some x := ⟨_, List.getElem?_eq_getElem (by omega)⟩
      have hel0 := hel j t x hj hx
      obtain ⟨c0, c1, c2, c3, c4, c5, rfl⟩ := six_agg hel0
      have hc := fun k u (hk : (cs.flatMap six)[k]? = some u) => World.ownsRow.cells hown (g := g) rfl k u hk
      have fix : ∀ k, (⟨g, 0, none⟩ : Addr).add k = ⟨g, 0 + k, none⟩ := fun k => by
        unfold Addr.add
        split
        · rename_i h0; subst h0; rfl
        · rfl
      have get := fun k u (hk : k < 6) (hu : (six (.agg #[c0, c1, c2, c3, c4, c5]))[k]? = some u) => hc (j * 6 + k) u ((flat_get cs h6 j k _ hx hk).trans hu)
      simp only [fix] at get
      refine ⟨c0, c1, c2, c3, c4, c5, ?_, ?_, ?_, ?_, ?_, ?_, isNdP_keep (Nat.le_refl _) (fun b hb _ => ⟨rfl, hb.1⟩) _ _ hel0⟩
      · exact get 0 c0 (by omega) rfl
      · have := get 1 c1 (by omega) rfl; rw [← Nat.add_assoc] at this; exact this
      · have := get 2 c2 (by omega) rfl; rw [← Nat.add_assoc] at this; exact this
      · have := get 3 c3 (by omega) rfl; rw [← Nat.add_assoc] at this; exact this
      · have := get 4 c4 (by omega) rfl; rw [← Nat.add_assoc] at this; exact this
      · have := get 5 c5 (by omega) rfl; rw [← Nat.add_assoc] at this; exact this
theorem OwnNds.form {P : Nat → Prop} {e : TypeId} {w : World} {B : Nat} {v : Value} {l : List Nd} (h : OwnNds P e w B v l) : ∃ a c, v = .slice a l.length c := by
  obtain ⟨cs, -, hown, -⟩ := h
  rcases hown.2 with ⟨h1, h2⟩ | ⟨g, gc, cur, h1, -⟩
  · exact ⟨none, 0, by rw [h1, h2]⟩
  · exact ⟨_, _, h1⟩
theorem OwnNds.keep {P : Nat → Prop} {e : TypeId} {w w' : World} {B : Nat} {v : Value} {l : List Nd} (h : OwnNds P e w B v l) (hs : w.heap.size ≤ w'.heap.size) (hb : ∀ b, (P b ∨ B ≤ b) → b < w.heap.size → w'.heap[b]? = w.heap[b]?) : OwnNds P e w' B v l := by
  obtain ⟨cs, hcs, hown, h6, hel⟩ := h
  refine ⟨cs, hcs, ⟨hown.1, ?_⟩, h6, fun j t c hj hc => isNdP_keep hs (fun b hp hl => ⟨hb b (.inl hp.1) hl, hp⟩) t _ (hel j t c hj hc)⟩
  rcases hown.2 with h1 | ⟨g, gc, cur, h1, h2, h3, h4⟩
  · exact .inl h1
  · refine .inr ⟨g, gc, cur, h1, h2, ?_, h4⟩
    have hlt := World.ownsRow.lt hown g (by rw [h1]; rfl)
    rw [hb g (.inr h2) hlt.2]; exact h3

/-- Below block g nothing turned but block pb. -/
structure BesB (g pb : Nat) (w w' : World) : Prop where
  os : w'.os = w.os
  tape : w'.tape = w.tape
  output : w'.output = w.output
  size : w.heap.size ≤ w'.heap.size
  block : ∀ k, k < g → k ≠ pb → w'.heap[k]? = w.heap[k]?
theorem BesB.refl (g pb : Nat) (w : World) : BesB g pb w w := ⟨rfl, rfl, rfl, Nat.le_refl _, fun _ _ _ => rfl⟩
theorem BesB.trans {g pb : Nat} {a b c : World} (h : BesB g pb a b) (k : BesB g pb b c) : BesB g pb a c :=
  ⟨k.os.trans h.os, k.tape.trans h.tape, k.output.trans h.output, Nat.le_trans h.size k.size, fun i hi hn => (k.block i hi hn).trans (h.block i hi hn)⟩
theorem BesB.of {g pb : Nat} {w w' : World} (h : Bes pb w w') (hg : g ≤ w.heap.size) : BesB g pb w w' := ⟨h.os, h.tape, h.output, h.size, fun k hk hn => h.block k (by omega) hn⟩
theorem BesB.below {g pb : Nat} {w w' : World} (h : Below g w w') : BesB g pb w w' := ⟨h.os, h.tape, h.output, h.size, fun k hk _ => h.block k hk⟩
theorem BesB.six {g pb k : Nat} {w w' : World} {v0 v1 v2 v3 v4 v5 : Value} (hb : BesB g pb w w') (h : Six w k v0 v1 v2 v3 v4 v5) (hk : k < g) (hn : k ≠ pb) : Six w' k v0 v1 v2 v3 v4 v5 := by
  have e := hb.block k hk hn
  have c : ∀ o, w'.cell? ⟨k, o, none⟩ = w.cell? ⟨k, o, none⟩ := fun o => World.cell?_of_block (a := ⟨k, o, none⟩) e
  have f : ∀ o, w'.frozen? ⟨k, o, none⟩ = w.frozen? ⟨k, o, none⟩ := fun o => World.frozen?_of_block (a := ⟨k, o, none⟩) e
  exact ⟨by rw [c]; exact h.c0, by rw [c]; exact h.c1, by rw [c]; exact h.c2, by rw [c]; exact h.c3, by rw [c]; exact h.c4, by rw [c]; exact h.c5, by rw [f]; exact h.f0, by rw [f]; exact h.f1, by rw [f]; exact h.f2, by rw [f]; exact h.f3, by rw [f]; exact h.f4, by rw [f]; exact h.f5⟩
/-- Behind all of it, what was there ahead is as it was, but for pb. -/
theorem BesB.bes {g pb : Nat} {a w w' : World} (h : BesB g pb w w') (h0 : Bes pb a w) (hg : a.heap.size ≤ g) : Bes pb a w' :=
  ⟨h.os.trans h0.os, h.tape.trans h0.tape, h.output.trans h0.output, Nat.le_trans h0.size h.size, fun k hk hn => (h.block k (by omega) hn).trans (h0.block k hk hn)⟩

/-- In the block g there lies a variable that holds the expression (op, nm, ar, 0, p, l); its kids lie behind g, in a row of its own. -/
def KV (e : TypeId) (w : World) (g : Nat) (op nm ar : List Int) (p : Nat) (l : List Nd) : Prop :=
  ∃ a cap, Six w g (.string (Em.str op)) (.string (Em.str nm)) (.string (Em.str ar)) (.int .i64 0) (.int .i64 p) (.slice a l.length cap) ∧ OwnNds (fun b => g + 1 ≤ b) e w (g + 1) (.slice a l.length cap) l
theorem KV.lt {e : TypeId} {w : World} {g : Nat} {op nm ar : List Int} {p : Nat} {l : List Nd} (h : KV e w g op nm ar p l) : g < w.heap.size := by
  obtain ⟨a, cap, h1, -⟩ := h; exact h1.lt
theorem KV.bes {e : TypeId} {w w' : World} {g pb : Nat} {op nm ar : List Int} {p : Nat} {l : List Nd} (h : KV e w g op nm ar p l) (hb : Bes pb w w') (hp : pb < g) : KV e w' g op nm ar p l := by
  obtain ⟨a, cap, h1, h2⟩ := h
  exact ⟨a, cap, h1.bes hb (by omega), h2.keep hb.size (fun b hb' hl => hb.block b hl (by rcases hb' with h | h <;> omega))⟩
theorem KV.below {e : TypeId} {w w' : World} {g : Nat} {op nm ar : List Int} {p : Nat} {l : List Nd} (h : KV e w g op nm ar p l) (hb : Below w.heap.size w w') : KV e w' g op nm ar p l := by
  obtain ⟨a, cap, h1, h2⟩ := h
  exact ⟨a, cap, h1.below hb, h2.keep hb.size (fun b _ hl => hb.block b hl)⟩
theorem KV.drew {e : TypeId} {w : World} {g : Nat} {op nm ar : List Int} {p : Nat} {l : List Nd} (h : KV e w g op nm ar p l) : KV e w.drew g op nm ar p l := h.below (Below.refl _ _).drew
/-- What it holds is the expression. -/
theorem KV.node {e : TypeId} {w : World} {g : Nat} {op nm ar : List Int} {p : Nat} {l : List Nd} (h : KV e w g op nm ar p l) (ho : Txt op) (hn : Txt nm) (ha : Txt ar) (hp : p ≤ 140737488351232) :
    ∃ a cap, Six w g (.string (Em.str op)) (.string (Em.str nm)) (.string (Em.str ar)) (.int .i64 0) (.int .i64 p) (.slice a l.length cap) ∧ NdB (g + 1) w (.mk op nm ar 0 p l) (.agg #[.string (Em.str op), .string (Em.str nm), .string (Em.str ar), .int .i64 0, .int .i64 p, .slice a l.length cap]) := by
  obtain ⟨a, cap, h1, h2⟩ := h
  exact ⟨a, cap, h1, h2.is (fun b hb => hb) ho hn ha i64_zero (i64_pos hp)⟩
/-- One of its texts is written. -/
theorem KV.put {e : TypeId} {w W : World} {g : Nat} {op' nm' ar' : List Int} {p : Nat} {l : List Nd} {a : Option Addr} {cap : Nat} (h2 : OwnNds (fun b => g + 1 ≤ b) e w (g + 1) (.slice a l.length cap) l)
    (hS : Six W g (.string (Em.str op')) (.string (Em.str nm')) (.string (Em.str ar')) (.int .i64 0) (.int .i64 p) (.slice a l.length cap)) (hz : W.heap.size = w.heap.size) (hk : ∀ k, k ≠ g → W.heap[k]? = w.heap[k]?) : KV e W g op' nm' ar' p l :=
  ⟨a, cap, hS, h2.keep (by omega) (fun b hb _ => hk b (by rcases hb with h | h <;> omega))⟩
end Go.Em6

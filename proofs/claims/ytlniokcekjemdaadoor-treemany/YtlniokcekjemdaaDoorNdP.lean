/- Expressions in memory, with a word on which blocks they lie in; a call that turns one block and makes memory. -/
import Derived.Test.YtlniokcekjemdaaDoorNd
namespace Go.Em5
open Go.RowKit

mutual
/-- As 'IsNd'; and of each block that it lies in P holds. -/
def IsNdP (P : Nat → Prop) (w : World) : Nd → Value → Prop
  | .mk op nm ar n p l, v => ∃ a cap, v = .agg #[.string (Em.str op), .string (Em.str nm), .string (Em.str ar), .int .i64 n, .int .i64 p, .slice a l.length cap] ∧
      Txt op ∧ Txt nm ∧ Txt ar ∧ I64 n ∧ I64 p ∧ l.length ≤ cap ∧ cap ≤ 140737488351232 ∧ (0 < l.length → ∃ b off, a = some ⟨b, off, none⟩ ∧ b < w.heap.size ∧ P b ∧ KidsAtP P w b off l)
def KidsAtP (P : Nat → Prop) (w : World) (b : Nat) : Nat → List Nd → Prop
  | _, [] => True
  | off, t :: r => (∃ c0 c1 c2 c3 c4 c5, w.cell? ⟨b, off, none⟩ = some c0 ∧ w.cell? ⟨b, off + 1, none⟩ = some c1 ∧ w.cell? ⟨b, off + 2, none⟩ = some c2 ∧ w.cell? ⟨b, off + 3, none⟩ = some c3 ∧ w.cell? ⟨b, off + 4, none⟩ = some c4 ∧ w.cell? ⟨b, off + 5, none⟩ = some c5 ∧ IsNdP P w t (.agg #[c0, c1, c2, c3, c4, c5])) ∧ KidsAtP P w b (off + 6) r
end
theorem kidsAtP_get {P : Nat → Prop} {w : World} {b : Nat} : ∀ (l : List Nd) (off j : Nat) (t : Nd), KidsAtP P w b off l → l[j]? = some t →
    ∃ c0 c1 c2 c3 c4 c5, w.cell? ⟨b, off + j * 6, none⟩ = some c0 ∧ w.cell? ⟨b, off + j * 6 + 1, none⟩ = some c1 ∧ w.cell? ⟨b, off + j * 6 + 2, none⟩ = some c2 ∧ w.cell? ⟨b, off + j * 6 + 3, none⟩ = some c3 ∧ w.cell? ⟨b, off + j * 6 + 4, none⟩ = some c4 ∧ w.cell? ⟨b, off + j * 6 + 5, none⟩ = some c5 ∧ IsNdP P w t (.agg #[c0, c1, c2, c3, c4, c5])
  | [], _, _, _, _, h => by simp at h
  | x :: r, off, 0, t, hk, h => by
    simp at h; subst h
    unfold KidsAtP at hk
    simpa using hk.1
  | x :: r, off, j + 1, t, hk, h => by
    unfold KidsAtP at hk
    have := kidsAtP_get r (off + 6) j t hk.2 (by simpa using h)
    rw [show off + (j + 1) * 6 = off + 6 + j * 6 by omega]
    exact this
theorem kidsAtP_mk {P : Nat → Prop} {w : World} {b : Nat} : ∀ (l : List Nd) (off : Nat), (∀ j t, l[j]? = some t →
    ∃ c0 c1 c2 c3 c4 c5, w.cell? ⟨b, off + j * 6, none⟩ = some c0 ∧ w.cell? ⟨b, off + j * 6 + 1, none⟩ = some c1 ∧ w.cell? ⟨b, off + j * 6 + 2, none⟩ = some c2 ∧ w.cell? ⟨b, off + j * 6 + 3, none⟩ = some c3 ∧ w.cell? ⟨b, off + j * 6 + 4, none⟩ = some c4 ∧ w.cell? ⟨b, off + j * 6 + 5, none⟩ = some c5 ∧ IsNdP P w t (.agg #[c0, c1, c2, c3, c4, c5])) → KidsAtP P w b off l
  | [], _, _ => by unfold KidsAtP; trivial
  | x :: r, off, h => by
    unfold KidsAtP
    refine ⟨by simpa using h 0 x rfl, kidsAtP_mk r (off + 6) fun j t hj => ?_⟩
    have := h (j + 1) t (by simpa using hj)
    rw [show off + (j + 1) * 6 = off + 6 + j * 6 by omega] at this
    exact this
/-- What P speaks of stays as it is: so does the expression; and P may be turned. -/
theorem isNdP_keep {P Q : Nat → Prop} {w w' : World} (hs : w.heap.size ≤ w'.heap.size) (hb : ∀ b, P b → b < w.heap.size → w'.heap[b]? = w.heap[b]? ∧ Q b) : ∀ (t : Nd) (v : Value), IsNdP P w t v → IsNdP Q w' t v := by
  intro t
  induction t using Nd.ind with
  | h op nm ar n p l ih =>
    intro v h
    unfold IsNdP at h ⊢
    obtain ⟨a, cap, h1, h2, h3, h4, h5, h6, h7, h8, h9⟩ := h
    refine ⟨a, cap, h1, h2, h3, h4, h5, h6, h7, h8, fun hp => ?_⟩
    obtain ⟨b, off, e, hlt, hP, hk⟩ := h9 hp
    obtain ⟨hblk, hQ⟩ := hb b hP hlt
    refine ⟨b, off, e, Nat.lt_of_lt_of_le hlt hs, hQ, kidsAtP_mk l off fun j t hj => ?_⟩
    obtain ⟨c0, c1, c2, c3, c4, c5, k0, k1, k2, k3, k4, k5, kn⟩ := kidsAtP_get l off j t hk hj
    have key : ∀ o, w'.cell? ⟨b, o, none⟩ = w.cell? ⟨b, o, none⟩ := fun o => World.cell?_of_block (a := ⟨b, o, none⟩) hblk
    exact ⟨c0, c1, c2, c3, c4, c5, by rw [key]; exact k0, by rw [key]; exact k1, by rw [key]; exact k2, by rw [key]; exact k3, by rw [key]; exact k4, by rw [key]; exact k5, ih t (List.mem_of_getElem? hj) _ kn⟩
theorem isNdP_is {P : Nat → Prop} {w : World} : ∀ (t : Nd) (v : Value), IsNdP P w t v → IsNd w t v := by
  intro t
  induction t using Nd.ind with
  | h op nm ar n p l ih =>
    intro v h
    unfold IsNdP at h
    unfold IsNd
    obtain ⟨a, cap, h1, h2, h3, h4, h5, h6, h7, h8, h9⟩ := h
    refine ⟨a, cap, h1, h2, h3, h4, h5, h6, h7, h8, fun hp => ?_⟩
    obtain ⟨b, off, e, hlt, hP, hk⟩ := h9 hp
    refine ⟨b, off, e, hlt, kidsAt_mk l off fun j t hj => ?_⟩
    obtain ⟨c0, c1, c2, c3, c4, c5, k0, k1, k2, k3, k4, k5, kn⟩ := kidsAtP_get l off j t hk hj
    exact ⟨c0, c1, c2, c3, c4, c5, k0, k1, k2, k3, k4, k5, ih t (List.mem_of_getElem? hj) _ kn⟩
theorem isNdP_shape {P : Nat → Prop} {w : World} {t : Nd} {v : Value} (h : IsNdP P w t v) : ∃ s0 s1 s2 n p a l c, v = .agg #[.string s0, .string s1, .string s2, .int .i64 n, .int .i64 p, .slice a l c] := by
  cases t
  unfold IsNdP at h
  obtain ⟨a, cap, h1, -⟩ := h
  exact ⟨_, _, _, _, _, _, _, _, h1⟩
/-- A node without kids. -/
theorem isNdP_leaf {P : Nat → Prop} {w : World} {op nm ar : List Int} {n p : Int} (h1 : Txt op) (h2 : Txt nm) (h3 : Txt ar) (h4 : I64 n) (h5 : I64 p) :
    IsNdP P w (.mk op nm ar n p []) (.agg #[.string (Em.str op), .string (Em.str nm), .string (Em.str ar), .int .i64 n, .int .i64 p, .slice none 0 0]) := by
  unfold IsNdP
  exact ⟨none, 0, rfl, h1, h2, h3, h4, h5, by simp, by simp, fun h => by simp at h⟩
/-- A node of kids that lie in a block of their own. -/
theorem isNdP_node {P : Nat → Prop} {w : World} {op nm ar : List Int} {n p : Int} {b : Nat} {l : List Nd} {cap : Nat} (h1 : Txt op) (h2 : Txt nm) (h3 : Txt ar) (h4 : I64 n) (h5 : I64 p) (hb : b < w.heap.size) (hP : P b) (hc : l.length ≤ cap) (hc2 : cap ≤ 140737488351232) (hk : KidsAtP P w b 0 l) :
    IsNdP P w (.mk op nm ar n p l) (.agg #[.string (Em.str op), .string (Em.str nm), .string (Em.str ar), .int .i64 n, .int .i64 p, .slice (some ⟨b, 0, none⟩) l.length cap]) := by
  unfold IsNdP
  exact ⟨_, cap, rfl, h1, h2, h3, h4, h5, hc, hc2, fun _ => ⟨b, 0, rfl, hb, hP, hk⟩⟩
/-- The cells of a struct of six. -/
def six : Value → List Value
  | .agg c => c.toList
  | _ => []
/-- Kids, as a literal of structs lays them. -/
theorem kidsAtP_lit {P : Nat → Prop} {w : World} {b : Nat} {ty : TypeId} {fr : Nat × Nat} {C : Array Value} (hb : w.heap[b]? = some (.cells C ty fr)) : ∀ (l : List Nd) (vs : List Value) (off : Nat), (∀ j, (vs.flatMap six)[j]? = C[off + j]? ∨ (vs.flatMap six).length ≤ j) → l.length = vs.length → (∀ (j : Nat) t v, l[j]? = some t → vs[j]? = some v → IsNdP P w t v) → KidsAtP P w b off l
  | [], _, _, _, _, _ => by unfold KidsAtP; trivial
  | t :: r, [], _, _, h, _ => by simp at h
  | t :: r, v :: vs, off, hC, hl, hn => by
    have h0 := hn 0 t v rfl rfl
    obtain ⟨s0, s1, s2, n, p, a, l, c, rfl⟩ := isNdP_shape h0
    have key : ∀ o, w.cell? ⟨b, o, none⟩ = C[o]? := fun o => by simp [World.cell?, hb]
    have e : ∀ j, j < 6 → C[off + j]? = ([Value.string s0, .string s1, .string s2, .int .i64 n, .int .i64 p, .slice a l c] : List Value)[j]? := fun j hj => by
      rcases hC j with h | h
      · rw [← h]
        simp only [List.flatMap_cons, six]
        rw [List.getElem?_append_left (by simpa using hj)]
      · simp [six] at h; omega
    unfold KidsAtP
    refine ⟨⟨_, _, _, _, _, _, by rw [key]; exact e 0 (by omega), by rw [key]; exact e 1 (by omega), by rw [key]; exact e 2 (by omega), by rw [key]; exact e 3 (by omega), by rw [key]; exact e 4 (by omega), by rw [key]; exact e 5 (by omega), h0⟩, ?_⟩
    refine kidsAtP_lit hb r vs (off + 6) (fun j => ?_) (by simpa using hl) (fun j t v h1 h2 => hn (j + 1) t v (by simpa using h1) (by simpa using h2))
    rcases hC (6 + j) with h | h
    · left
      rw [show off + 6 + j = off + (6 + j) by omega, ← h]
      simp only [List.flatMap_cons, six]
      rw [List.getElem?_append_right (by simp)]
      congr 1
      simp
    · right
      simp [six] at h ⊢
      omega

/-- Behind a call that turns the one block pb, and makes memory. -/
structure Bes (pb : Nat) (w w' : World) : Prop where
  os : w'.os = w.os
  tape : w'.tape = w.tape
  output : w'.output = w.output
  size : w.heap.size ≤ w'.heap.size
  block : ∀ k, k < w.heap.size → k ≠ pb → w'.heap[k]? = w.heap[k]?
theorem Bes.refl (pb : Nat) (w : World) : Bes pb w w := ⟨rfl, rfl, rfl, Nat.le_refl _, fun _ _ _ => rfl⟩
theorem Bes.of {pb : Nat} {w w' : World} (h : Below w.heap.size w w') : Bes pb w w' := ⟨h.os, h.tape, h.output, h.size, fun k hk _ => h.block k hk⟩
theorem Bes.trans {pb : Nat} {a b c : World} (h : Bes pb a b) (k : Bes pb b c) : Bes pb a c :=
  ⟨k.os.trans h.os, k.tape.trans h.tape, k.output.trans h.output, Nat.le_trans h.size k.size, fun i hi hn => (k.block i (Nat.lt_of_lt_of_le hi h.size) hn).trans (h.block i hi hn)⟩
theorem Bes.drew {pb : Nat} {a w : World} (h : Bes pb a w) : Bes pb a w.drew := ⟨h.os, h.tape, h.output, h.size, h.block⟩
theorem Bes.alloc {pb : Nat} {a w : World} (h : Bes pb a w) (o : Obj) : Bes pb a (w.alloc o) :=
  h.trans (Bes.of ((Below.refl _ _).alloc (Nat.le_refl _) o))
theorem Bes.setCell {pb : Nat} {a w : World} (h : Bes pb a w) {p : Addr} (hp : p.block = pb ∨ a.heap.size ≤ p.block) (u : Value) : Bes pb a (w.setCell p u) :=
  ⟨h.os, h.tape, h.output, by simpa using h.size, fun k hk hn => by
    rw [Below.heap_setCell _ _ _ _ (by rcases hp with hp | hp <;> omega)]
    exact h.block k hk hn⟩
theorem Bes.put {pb : Nat} {a w : World} (h : Bes pb a w) (o : Nat) (u : Value) : Bes pb a (w.setCell ⟨pb, o, none⟩ u) := h.setCell (.inl rfl) u
theorem Bes.cell {pb : Nat} {w w' : World} (h : Bes pb w w') {p : Addr} (hp : p.block < w.heap.size) (hn : p.block ≠ pb) : w'.cell? p = w.cell? p := World.cell?_of_block (w := w) (h.block p.block hp hn)
theorem Bes.frozen {pb : Nat} {w w' : World} (h : Bes pb w w') {p : Addr} (hp : p.block < w.heap.size) (hn : p.block ≠ pb) : w'.frozen? p = w.frozen? p := World.frozen?_of_block (w := w) (h.block p.block hp hn)
end Go.Em5

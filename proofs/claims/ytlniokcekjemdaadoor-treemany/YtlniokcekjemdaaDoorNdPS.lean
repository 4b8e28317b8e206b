/- Expressions with a word on their blocks; a block of six cells. -/
import Derived.Test.YtlniokcekjemdaaDoorNd
namespace Go.Em5
open Go.RowKit

mutual
/-- As 'IsNd'; and of each block that it lies in P holds. -/
def IsNdP (P : Nat → Prop) (w : World) : Nd → Value → Prop
  | .mk op nm ar n p l, v => ∃ a cap, v = .agg #[.string (Em.str op), .string (Em.str nm), .string (Em.str ar), .int .i64 n, .int .i64 p, .slice a l.length cap] ∧
      Txt op ∧ Txt nm ∧ Txt ar ∧ I64 n ∧ I64 p ∧ l.length ≤ cap ∧ cap ≤ 140737488351232 ∧ (0 < l.length → ∃ b off, a = some ⟨b, off, none⟩ ∧ b < w.heap.size ∧ P b ∧ KidsAtP P w b off l)
def KidsAtP (P : Nat → Prop) (w : World) (b : Nat) : Nat → List Nd → Prop
  | _, [] => True
  | off, t :: r => (∃ c0 c1 c2 c3 c4 c5, w.cell? ⟨b, off, none⟩ = some c0 ∧ w.cell? ⟨b, off + 1, none⟩ = some c1 ∧ w.cell? ⟨b, off + 2, none⟩ = some c2 ∧ w.cell? ⟨b, off + 3, none⟩ = some c3 ∧ w.cell? ⟨b, off + 4, none⟩ = some c4 ∧ w.cell? ⟨b, off + 5, none⟩ = some c5 ∧ IsNdP P w t (.agg #[c0, c1, c2, c3, c4, c5])) ∧ KidsAtP P w b (off + 6) r
end
theorem kidsAtP_get {P : Nat → Prop} {w : World} {b : Nat} : ∀ (l : List Nd) (off j : Nat) (t : Nd), KidsAtP P w b off l → l[j]? = some t →
    ∃ c0 c1 c2 c3 c4 c5, w.cell? ⟨b, off + j * 6, none⟩ = some c0 ∧ w.cell? ⟨b, off + j * 6 + 1, none⟩ = some c1 ∧ w.cell? ⟨b, off + j * 6 + 2, none⟩ = some c2 ∧ w.cell? ⟨b, off + j * 6 + 3, none⟩ = some c3 ∧ w.cell? ⟨b, off + j * 6 + 4, none⟩ = some c4 ∧ w.cell? ⟨b, off + j * 6 + 5, none⟩ = some c5 ∧ IsNdP P w t (.agg #[c0, c1, c2, c3, c4, c5])
  | [], _, _, _, _, h => by simp at h
  | x :: r, off, 0, t, hk, h => by
    simp at h; subst h
    unfold KidsAtP at hk
    simpa using hk.1
  | x :: r, off, j + 1, t, hk, h => by
    unfold KidsAtP at hk
    have := kidsAtP_get r (off + 6) j t hk.2 (by simpa using h)
    rw [show off + (j + 1) * 6 = off + 6 + j * 6 by omega]
    exact this
theorem kidsAtP_mk {P : Nat → Prop} {w : World} {b : Nat} : ∀ (l : List Nd) (off : Nat), (∀ j t, l[j]? = some t →
    ∃ c0 c1 c2 c3 c4 c5, w.cell? ⟨b, off + j * 6, none⟩ = some c0 ∧ w.cell? ⟨b, off + j * 6 + 1, none⟩ = some c1 ∧ w.cell? ⟨b, off + j * 6 + 2, none⟩ = some c2 ∧ w.cell? ⟨b, off + j * 6 + 3, none⟩ = some c3 ∧ w.cell? ⟨b, off + j * 6 + 4, none⟩ = some c4 ∧ w.cell? ⟨b, off + j * 6 + 5, none⟩ = some c5 ∧ IsNdP P w t (.agg #[c0, c1, c2, c3, c4, c5])) → KidsAtP P w b off l
  | [], _, _ => by unfold KidsAtP; trivial
  | x :: r, off, h => by
    unfold KidsAtP
    refine ⟨by simpa using h 0 x rfl, kidsAtP_mk r (off + 6) fun j t hj => ?_⟩
    have := h (j + 1) t (by simpa using hj)
    rw [show off + (j + 1) * 6 = off + 6 + j * 6 by omega] at this
    exact this
/-- What P speaks of stays as it is: so does the expression; and P may be turned. -/
theorem isNdP_keep {P Q : Nat → Prop} {w w' : World} (hs : w.heap.size ≤ w'.heap.size) (hb : ∀ b, P b → b < w.heap.size → w'.heap[b]? = w.heap[b]? ∧ Q b) : ∀ (t : Nd) (v : Value), IsNdP P w t v → IsNdP Q w' t v := by
  intro t
  induction t using Nd.ind with
  | h op nm ar n p l ih =>
    intro v h
    unfold IsNdP at h ⊢
    obtain ⟨a, cap, h1, h2, h3, h4, h5, h6, h7, h8, h9⟩ := h
    refine ⟨a, cap, h1, h2, h3, h4, h5, h6, h7, h8, fun hp => ?_⟩
    obtain ⟨b, off, e, hlt, hP, hk⟩ := h9 hp
    obtain ⟨hblk, hQ⟩ := hb b hP hlt
    refine ⟨b, off, e, Nat.lt_of_lt_of_le hlt hs, hQ, kidsAtP_mk l off fun j t hj => ?_⟩
    obtain ⟨c0, c1, c2, c3, c4, c5, k0, k1, k2, k3, k4, k5, kn⟩ := kidsAtP_get l off j t hk hj
    have key : ∀ o, w'.cell? ⟨b, o, none⟩ = w.cell? ⟨b, o, none⟩ := fun o => World.cell?_of_block (a := ⟨b, o, none⟩) hblk
    exact ⟨c0, c1, c2, c3, c4, c5, by rw [key]; exact k0, by rw [key]; exact k1, by rw [key]; exact k2, by rw [key]; exact k3, by rw [key]; exact k4, by rw [key]; exact k5, ih t (List.mem_of_getElem? hj) _ kn⟩
theorem isNdP_is {P : Nat → Prop} {w : World} : ∀ (t : Nd) (v : Value), IsNdP P w t v → IsNd w t v := by
  intro t
  induction t using Nd.ind with
  | h op nm ar n p l ih =>
    intro v h
    unfold IsNdP at h
    unfold IsNd
    obtain ⟨a, cap, h1, h2, h3, h4, h5, h6, h7, h8, h9⟩ := h
    refine ⟨a, cap, h1, h2, h3, h4, h5, h6, h7, h8, fun hp => ?_⟩
    obtain ⟨b, off, e, hlt, hP, hk⟩ := h9 hp
    refine ⟨b, off, e, hlt, kidsAt_mk l off fun j t hj => ?_⟩
    obtain ⟨c0, c1, c2, c3, c4, c5, k0, k1, k2, k3, k4, k5, kn⟩ := kidsAtP_get l off j t hk hj
    exact ⟨c0, c1, c2, c3, c4, c5, k0, k1, k2, k3, k4, k5, ih t (List.mem_of_getElem? hj) _ kn⟩
theorem isNdP_shape {P : Nat → Prop} {w : World} {t : Nd} {v : Value} (h : IsNdP P w t v) : ∃ s0 s1 s2 n p a l c, v = .agg #[.string s0, .string s1, .string s2, .int .i64 n, .int .i64 p, .slice a l c] := by
  cases t
  unfold IsNdP at h
  obtain ⟨a, cap, h1, -⟩ := h
  exact ⟨_, _, _, _, _, _, _, _, h1⟩
/-- A node without kids. -/
theorem isNdP_leaf {P : Nat → Prop} {w : World} {op nm ar : List Int} {n p : Int} (h1 : Txt op) (h2 : Txt nm) (h3 : Txt ar) (h4 : I64 n) (h5 : I64 p) :
    IsNdP P w (.mk op nm ar n p []) (.agg #[.string (Em.str op), .string (Em.str nm), .string (Em.str ar), .int .i64 n, .int .i64 p, .slice none 0 0]) := by
  unfold IsNdP
  exact ⟨none, 0, rfl, h1, h2, h3, h4, h5, by simp, by simp, fun h => by simp at h⟩
/-- A node of kids that lie in a block of their own. -/
theorem isNdP_node {P : Nat → Prop} {w : World} {op nm ar : List Int} {n p : Int} {b : Nat} {l : List Nd} {cap : Nat} (h1 : Txt op) (h2 : Txt nm) (h3 : Txt ar) (h4 : I64 n) (h5 : I64 p) (hb : b < w.heap.size) (hP : P b) (hc : l.length ≤ cap) (hc2 : cap ≤ 140737488351232) (hk : KidsAtP P w b 0 l) :
    IsNdP P w (.mk op nm ar n p l) (.agg #[.string (Em.str op), .string (Em.str nm), .string (Em.str ar), .int .i64 n, .int .i64 p, .slice (some ⟨b, 0, none⟩) l.length cap]) := by
  unfold IsNdP
  exact ⟨_, cap, rfl, h1, h2, h3, h4, h5, hc, hc2, fun _ => ⟨b, 0, rfl, hb, hP, hk⟩⟩
/-- The cells of a struct of six. -/
def six : Value → List Value
  | .agg c => c.toList
  | _ => []
/-- Kids, as a literal of structs lays them. -/
theorem kidsAtP_lit {P : Nat → Prop} {w : World} {b : Nat} {ty : TypeId} {fr : Nat × Nat} {C : Array Value} (hb : w.heap[b]? = some (.cells C ty fr)) : ∀ (l : List Nd) (vs : List Value) (off : Nat), (∀ j, (vs.flatMap six)[j]? = C[off + j]? ∨ (vs.flatMap six).length ≤ j) → l.length = vs.length → (∀ (j : Nat) t v, l[j]? = some t → vs[j]? = some v → IsNdP P w t v) → KidsAtP P w b off l
  | [], _, _, _, _, _ => by unfold KidsAtP; trivial
  | t :: r, [], _, _, h, _ => by simp at h
  | t :: r, v :: vs, off, hC, hl, hn => by
    have h0 := hn 0 t v rfl rfl
    obtain ⟨s0, s1, s2, n, p, a, l, c, rfl⟩ := isNdP_shape h0
    have key : ∀ o, w.cell? ⟨b, o, none⟩ = C[o]? := fun o => by simp [World.cell?, hb]
    have e : ∀ j, j < 6 → C[off + j]? = ([Value.string s0, .string s1, .string s2, .int .i64 n, .int .i64 p, .slice a l c] : List Value)[j]? := fun j hj => by
      rcases hC j with h | h
      · rw [← h]
        simp only [List.flatMap_cons, six]
        rw [List.getElem?_append_left (by simpa using hj)]
      · simp [six] at h; omega
    unfold KidsAtP
    refine ⟨⟨_, _, _, _, _, _, by rw [key]; exact e 0 (by omega), by rw [key]; exact e 1 (by omega), by rw [key]; exact e 2 (by omega), by rw [key]; exact e 3 (by omega), by rw [key]; exact e 4 (by omega), by rw [key]; exact e 5 (by omega), h0⟩, ?_⟩
    refine kidsAtP_lit hb r vs (off + 6) (fun j => ?_) (by simpa using hl) (fun j t v h1 h2 => hn (j + 1) t v (by simpa using h1) (by simpa using h2))
    rcases hC (6 + j) with h | h
    · left
      rw [show off + 6 + j = off + (6 + j) by omega, ← h]
      simp only [List.flatMap_cons, six]
      rw [List.getElem?_append_right (by simp)]
      congr 1
      simp
    · right
      simp [six] at h ⊢
      omega

/-- Behind a call that turns the one block pb, and makes memory. -/
structure Bes (pb : Nat) (w w' : World) : Prop where
  os : w'.os = w.os
  tape : w'.tape = w.tape
  output : w'.output = w.output
  size : w.heap.size ≤ w'.heap.size
  block : ∀ k, k < w.heap.size → k ≠ pb → w'.heap[k]? = w.heap[k]?
theorem Bes.refl (pb : Nat) (w : World) : Bes pb w w := ⟨rfl, rfl, rfl, Nat.le_refl _, fun _ _ _ => rfl⟩
theorem Bes.of {pb : Nat} {w w' : World} (h : Below w.heap.size w w') : Bes pb w w' := ⟨h.os, h.tape, h.output, h.size, fun k hk _ => h.block k hk⟩
theorem Bes.trans {pb : Nat} {a b c : World} (h : Bes pb a b) (k : Bes pb b c) : Bes pb a c :=
  ⟨k.os.trans h.os, k.tape.trans h.tape, k.output.trans h.output, Nat.le_trans h.size k.size, fun i hi hn => (k.block i (Nat.lt_of_lt_of_le hi h.size) hn).trans (h.block i hi hn)⟩
theorem Bes.drew {pb : Nat} {a w : World} (h : Bes pb a w) : Bes pb a w.drew := ⟨h.os, h.tape, h.output, h.size, h.block⟩
theorem Bes.alloc {pb : Nat} {a w : World} (h : Bes pb a w) (o : Obj) : Bes pb a (w.alloc o) :=
  h.trans (Bes.of ((Below.refl _ _).alloc (Nat.le_refl _) o))
theorem Bes.setCell {pb : Nat} {a w : World} (h : Bes pb a w) {p : Addr} (hp : p.block = pb ∨ a.heap.size ≤ p.block) (u : Value) : Bes pb a (w.setCell p u) :=
  ⟨h.os, h.tape, h.output, by simpa using h.size, fun k hk hn => by
    rw [Below.heap_setCell _ _ _ _ (by rcases hp with hp | hp <;> omega)]
    exact h.block k hk hn⟩
theorem Bes.put {pb : Nat} {a w : World} (h : Bes pb a w) (o : Nat) (u : Value) : Bes pb a (w.setCell ⟨pb, o, none⟩ u) := h.setCell (.inl rfl) u
theorem Bes.cell {pb : Nat} {w w' : World} (h : Bes pb w w') {p : Addr} (hp : p.block < w.heap.size) (hn : p.block ≠ pb) : w'.cell? p = w.cell? p := World.cell?_of_block (w := w) (h.block p.block hp hn)
theorem Bes.frozen {pb : Nat} {w w' : World} (h : Bes pb w w') {p : Addr} (hp : p.block < w.heap.size) (hn : p.block ≠ pb) : w'.frozen? p = w.frozen? p := World.frozen?_of_block (w := w) (h.block p.block hp hn)
end Go.Em5

namespace Go.Em6
open Go.RowKit Go.Em5

/-- A store of six cells. -/
theorem set6 (w : World) (g : Nat) (v0 v1 v2 v3 v4 v5 : Value) (h : ∀ o, o < 6 → (w.cell? ⟨g, o, none⟩).isSome = true) :
    ∃ W, ((((((w.setCell ⟨g, 0, none⟩ v0).setCell ⟨g, 1, none⟩ v1).setCell ⟨g, 2, none⟩ v2).setCell ⟨g, 3, none⟩ v3).setCell ⟨g, 4, none⟩ v4).setCell ⟨g, 5, none⟩ v5) = W ∧
      W.cell? ⟨g, 0, none⟩ = some v0 ∧ W.cell? ⟨g, 1, none⟩ = some v1 ∧ W.cell? ⟨g, 2, none⟩ = some v2 ∧ W.cell? ⟨g, 3, none⟩ = some v3 ∧ W.cell? ⟨g, 4, none⟩ = some v4 ∧ W.cell? ⟨g, 5, none⟩ = some v5 ∧
      (∀ o, W.frozen? ⟨g, o, none⟩ = w.frozen? ⟨g, o, none⟩) ∧ W.heap.size = w.heap.size ∧ (∀ k, k ≠ g → W.heap[k]? = w.heap[k]?) ∧ (∀ pb a, Bes pb a w → a.heap.size ≤ g → Bes pb a W) := by
  have one : ∀ (w : World) (o : Nat) (v : Value), (∀ o, o < 6 → (w.cell? ⟨g, o, none⟩).isSome = true) → o < 6 → ∃ W, w.setCell ⟨g, o, none⟩ v = W ∧ W.cell? ⟨g, o, none⟩ = some v ∧ (∀ j, j ≠ o → W.cell? ⟨g, j, none⟩ = w.cell? ⟨g, j, none⟩) ∧ (∀ o, W.frozen? ⟨g, o, none⟩ = w.frozen? ⟨g, o, none⟩) ∧ W.heap.size = w.heap.size ∧ (∀ k, k ≠ g → W.heap[k]? = w.heap[k]?) ∧ (∀ o, o < 6 → (W.cell? ⟨g, o, none⟩).isSome = true) ∧ (∀ pb a, Bes pb a w → a.heap.size ≤ g → Bes pb a W) := by
    intro w o v h ho
    have e1 := World.cell?_setCell_same' w ⟨g, o, none⟩ v (h o ho)
    have e2 : ∀ j, j ≠ o → (w.setCell ⟨g, o, none⟩ v).cell? ⟨g, j, none⟩ = w.cell? ⟨g, j, none⟩ := fun j hj => World.cell?_setCell_other _ _ _ _ (fun e => hj (by injection e with e1 e2; exact e2.symm))
    refine ⟨_, rfl, e1, e2, fun o => World.frozen?_setCell _ _ _ _, World.size_setCell _ _ _, fun k hk => Below.heap_setCell _ _ _ _ hk, fun j hj => ?_, fun pb a hb hg => hb.setCell (.inr hg) v⟩
    by_cases hjo : j = o
    · subst hjo; rw [e1]; rfl
    · rw [e2 j hjo]; exact h j hj
  obtain ⟨W0, r0, a0, b0, f0, z0, k0, s0, t0⟩ := one w 0 v0 h (by omega)
  obtain ⟨W1, r1, a1, b1, f1, z1, k1, s1, t1⟩ := one W0 1 v1 s0 (by omega)
  obtain ⟨W2, r2, a2, b2, f2, z2, k2, s2, t2⟩ := one W1 2 v2 s1 (by omega)
  obtain ⟨W3, r3, a3, b3, f3, z3, k3, s3, t3⟩ := one W2 3 v3 s2 (by omega)
  obtain ⟨W4, r4, a4, b4, f4, z4, k4, s4, t4⟩ := one W3 4 v4 s3 (by omega)
  obtain ⟨W5, r5, a5, b5, f5, z5, k5, s5, t5⟩ := one W4 5 v5 s4 (by omega)
  refine ⟨W5, by rw [r0, r1, r2, r3, r4, r5], ?_, ?_, ?_, ?_, ?_, a5, fun o => by rw [f5, f4, f3, f2, f1, f0], by omega, fun k hk => by rw [k5 k hk, k4 k hk, k3 k hk, k2 k hk, k1 k hk, k0 k hk], fun pb a hb hg => t5 pb a (t4 pb a (t3 pb a (t2 pb a (t1 pb a (t0 pb a hb hg) hg) hg) hg) hg) hg⟩
  · rw [b5 0 (by omega), b4 0 (by omega), b3 0 (by omega), b2 0 (by omega), b1 0 (by omega), a0]
  · rw [b5 1 (by omega), b4 1 (by omega), b3 1 (by omega), b2 1 (by omega), a1]
  · rw [b5 2 (by omega), b4 2 (by omega), b3 2 (by omega), a2]
  · rw [b5 3 (by omega), b4 3 (by omega), a3]
  · rw [b5 4 (by omega), a4]

/-- A block that was made ahead of a call is as it was made. -/
theorem made {pb : Nat} {w w' : World} {C : Array Value} {ty : TypeId} {g : Nat} (hb : Bes pb (w.alloc (.cells C ty)) w') (hp : pb < w.heap.size) (hg : g = w.heap.size) :
    (∀ o, w'.cell? ⟨g, o, none⟩ = C[o]?) ∧ (∀ o, w'.frozen? ⟨g, o, none⟩ = false) := by
  subst hg
  have e := hb.block w.heap.size (by simp) (by omega)
  refine ⟨fun o => ?_, fun o => ?_⟩
  · rw [World.cell?_of_block (a := ⟨w.heap.size, o, none⟩) e]; simp
  · rw [World.frozen?_of_block (a := ⟨w.heap.size, o, none⟩) e]; simp

/-- A block of six, at a world where it is as it was made. -/
structure Six (w : World) (g : Nat) (v0 v1 v2 v3 v4 v5 : Value) : Prop where
  c0 : w.cell? ⟨g, 0, none⟩ = some v0
  c1 : w.cell? ⟨g, 1, none⟩ = some v1
  c2 : w.cell? ⟨g, 2, none⟩ = some v2
  c3 : w.cell? ⟨g, 3, none⟩ = some v3
  c4 : w.cell? ⟨g, 4, none⟩ = some v4
  c5 : w.cell? ⟨g, 5, none⟩ = some v5
  f0 : w.frozen? ⟨g, 0, none⟩ = false
  f1 : w.frozen? ⟨g, 1, none⟩ = false
  f2 : w.frozen? ⟨g, 2, none⟩ = false
  f3 : w.frozen? ⟨g, 3, none⟩ = false
  f4 : w.frozen? ⟨g, 4, none⟩ = false
  f5 : w.frozen? ⟨g, 5, none⟩ = false
theorem Six.lt {w : World} {g : Nat} {v0 v1 v2 v3 v4 v5 : Value} (h : Six w g v0 v1 v2 v3 v4 v5) : g < w.heap.size := Em.cell_lt h.c0
theorem Six.isSome {w : World} {g : Nat} {v0 v1 v2 v3 v4 v5 : Value} (h : Six w g v0 v1 v2 v3 v4 v5) : ∀ o, o < 6 → (w.cell? ⟨g, o, none⟩).isSome = true := fun o ho => by
  match o, ho with
  | 0, _ => rw [h.c0]; rfl
  | 1, _ => rw [h.c1]; rfl
  | 2, _ => rw [h.c2]; rfl
  | 3, _ => rw [h.c3]; rfl
  | 4, _ => rw [h.c4]; rfl
  | 5, _ => rw [h.c5]; rfl
theorem Six.bes {w w' : World} {g pb : Nat} {v0 v1 v2 v3 v4 v5 : Value} (h : Six w g v0 v1 v2 v3 v4 v5) (hb : Bes pb w w') (hn : g ≠ pb) : Six w' g v0 v1 v2 v3 v4 v5 := by
  have hl := h.lt
  have c : ∀ o, w'.cell? ⟨g, o, none⟩ = w.cell? ⟨g, o, none⟩ := fun o => hb.cell (p := ⟨g, o, none⟩) hl hn
  have f : ∀ o, w'.frozen? ⟨g, o, none⟩ = w.frozen? ⟨g, o, none⟩ := fun o => hb.frozen (p := ⟨g, o, none⟩) hl hn
  exact ⟨by rw [c]; exact h.c0, by rw [c]; exact h.c1, by rw [c]; exact h.c2, by rw [c]; exact h.c3, by rw [c]; exact h.c4, by rw [c]; exact h.c5, by rw [f]; exact h.f0, by rw [f]; exact h.f1, by rw [f]; exact h.f2, by rw [f]; exact h.f3, by rw [f]; exact h.f4, by rw [f]; exact h.f5⟩
theorem Six.below {w w' : World} {g : Nat} {v0 v1 v2 v3 v4 v5 : Value} (h : Six w g v0 v1 v2 v3 v4 v5) (hb : Below w.heap.size w w') : Six w' g v0 v1 v2 v3 v4 v5 :=
  h.bes (pb := w.heap.size) (Bes.of hb) (Nat.ne_of_lt h.lt)
theorem Six.drew {w : World} {g : Nat} {v0 v1 v2 v3 v4 v5 : Value} (h : Six w g v0 v1 v2 v3 v4 v5) : Six w.drew g v0 v1 v2 v3 v4 v5 := h.below (Below.refl _ _).drew
theorem Six.alloc {w : World} {g : Nat} {v0 v1 v2 v3 v4 v5 : Value} (h : Six w g v0 v1 v2 v3 v4 v5) (o : Obj) : Six (w.alloc o) g v0 v1 v2 v3 v4 v5 := h.below ((Below.refl _ _).alloc (Nat.le_refl _) o)
theorem Six.far {w W : World} {g k : Nat} {v0 v1 v2 v3 v4 v5 : Value} (h : Six w g v0 v1 v2 v3 v4 v5) (hk : ∀ j, j ≠ k → W.heap[j]? = w.heap[j]?) (hn : g ≠ k) : Six W g v0 v1 v2 v3 v4 v5 := by
  have c : ∀ o, W.cell? ⟨g, o, none⟩ = w.cell? ⟨g, o, none⟩ := fun o => World.cell?_of_block (a := ⟨g, o, none⟩) (hk g hn)
  have f : ∀ o, W.frozen? ⟨g, o, none⟩ = w.frozen? ⟨g, o, none⟩ := fun o => World.frozen?_of_block (a := ⟨g, o, none⟩) (hk g hn)
  exact ⟨by rw [c]; exact h.c0, by rw [c]; exact h.c1, by rw [c]; exact h.c2, by rw [c]; exact h.c3, by rw [c]; exact h.c4, by rw [c]; exact h.c5, by rw [f]; exact h.f0, by rw [f]; exact h.f1, by rw [f]; exact h.f2, by rw [f]; exact h.f3, by rw [f]; exact h.f4, by rw [f]; exact h.f5⟩
theorem Six.held {w : World} {g : Nat} {v0 v1 v2 v3 v4 v5 : Value} (h : Six w g v0 v1 v2 v3 v4 v5) : w.cell? ⟨g, 0, none⟩ = some v0 ∧ w.cell? ⟨g, 1, none⟩ = some v1 ∧ w.cell? ⟨g, 2, none⟩ = some v2 ∧ w.cell? ⟨g, 3, none⟩ = some v3 ∧ w.cell? ⟨g, 4, none⟩ = some v4 ∧ w.cell? ⟨g, 5, none⟩ = some v5 := ⟨h.c0, h.c1, h.c2, h.c3, h.c4, h.c5⟩
theorem Six.made (w : World) (v0 v1 v2 v3 v4 v5 : Value) (ty : TypeId) : Six (w.alloc (.cells #[v0, v1, v2, v3, v4, v5] ty)) w.heap.size v0 v1 v2 v3 v4 v5 :=
  ⟨by simp, by simp, by simp, by simp, by simp, by simp, by simp, by simp, by simp, by simp, by simp, by simp⟩
/-- A store of six cells. -/
theorem Six.set {w : World} {g : Nat} {u0 u1 u2 u3 u4 u5 : Value} (h : Six w g u0 u1 u2 u3 u4 u5) (v0 v1 v2 v3 v4 v5 : Value) :
    ∃ W, ((((((w.setCell ⟨g, 0, none⟩ v0).setCell ⟨g, 1, none⟩ v1).setCell ⟨g, 2, none⟩ v2).setCell ⟨g, 3, none⟩ v3).setCell ⟨g, 4, none⟩ v4).setCell ⟨g, 5, none⟩ v5) = W ∧
      Six W g v0 v1 v2 v3 v4 v5 ∧ W.heap.size = w.heap.size ∧ (∀ k, k ≠ g → W.heap[k]? = w.heap[k]?) ∧ (∀ pb a, Bes pb a w → a.heap.size ≤ g → Bes pb a W) := by
  obtain ⟨W, e, c0, c1, c2, c3, c4, c5, f, z, k, b⟩ := set6 w g v0 v1 v2 v3 v4 v5 h.isSome
  exact ⟨W, e, ⟨c0, c1, c2, c3, c4, c5, by rw [f]; exact h.f0, by rw [f]; exact h.f1, by rw [f]; exact h.f2, by rw [f]; exact h.f3, by rw [f]; exact h.f4, by rw [f]; exact h.f5⟩, z, k, b⟩
end Go.Em6

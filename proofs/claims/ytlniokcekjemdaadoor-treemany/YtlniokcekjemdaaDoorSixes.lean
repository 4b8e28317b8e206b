/- A block of six cells; a store of six. -/
import Derived.Test.YtlniokcekjemdaaDoorNdP
namespace Go.Em6
open Go.RowKit Go.Em5

/-- A store of six cells. -/
theorem set6 (w : World) (g : Nat) (v0 v1 v2 v3 v4 v5 : Value) (h : ∀ o, o < 6 → (w.cell? ⟨g, o, none⟩).isSome = true) :
    ∃ W, ((((((w.setCell ⟨g, 0, none⟩ v0).setCell ⟨g, 1, none⟩ v1).setCell ⟨g, 2, none⟩ v2).setCell ⟨g, 3, none⟩ v3).setCell ⟨g, 4, none⟩ v4).setCell ⟨g, 5, none⟩ v5) = W ∧
      W.cell? ⟨g, 0, none⟩ = some v0 ∧ W.cell? ⟨g, 1, none⟩ = some v1 ∧ W.cell? ⟨g, 2, none⟩ = some v2 ∧ W.cell? ⟨g, 3, none⟩ = some v3 ∧ W.cell? ⟨g, 4, none⟩ = some v4 ∧ W.cell? ⟨g, 5, none⟩ = some v5 ∧
      (∀ o, W.frozen? ⟨g, o, none⟩ = w.frozen? ⟨g, o, none⟩) ∧ W.heap.size = w.heap.size ∧ (∀ k, k ≠ g → W.heap[k]? = w.heap[k]?) ∧ (∀ pb a, Bes pb a w → a.heap.size ≤ g → Bes pb a W) := by
  have one : ∀ (w : World) (o : Nat) (v : Value), (∀ o, o < 6 → (w.cell? ⟨g, o, none⟩).isSome = true) → o < 6 → ∃ W, w.setCell ⟨g, o, none⟩ v = W ∧ W.cell? ⟨g, o, none⟩ = some v ∧ (∀ j, j ≠ o → W.cell? ⟨g, j, none⟩ = w.cell? ⟨g, j, none⟩) ∧ (∀ o, W.frozen? ⟨g, o, none⟩ = w.frozen? ⟨g, o, none⟩) ∧ W.heap.size = w.heap.size ∧ (∀ k, k ≠ g → W.heap[k]? = w.heap[k]?) ∧ (∀ o, o < 6 → (W.cell? ⟨g, o, none⟩).isSome = true) ∧ (∀ pb a, Bes pb a w → a.heap.size ≤ g → Bes pb a W) := by
    intro w o v h ho
    have e1 := World.cell?_setCell_same' w ⟨g, o, none⟩ v (h o ho)
    have e2 : ∀ j, j ≠ o → (w.setCell ⟨g, o, none⟩ v).cell? ⟨g, j, none⟩ = w.cell? ⟨g, j, none⟩ := fun j hj => World.cell?_setCell_other _ _ _ _ (fun e => hj (by injection e with e1 e2; exact e2.symm))
    refine ⟨_, rfl, e1, e2, fun o => World.frozen?_setCell _ _ _ _, World.size_setCell _ _ _, fun k hk => Below.heap_setCell _ _ _ _ hk, fun j hj => ?_, fun pb a hb hg => hb.setCell (.inr hg) v⟩
    by_cases hjo : j = o
    · subst hjo; rw [e1]; rfl
    · rw [e2 j hjo]; exact h j hj
  obtain ⟨W0, r0, a0, b0, f0, z0, k0, s0, t0⟩ := one w 0 v0 h (by omega)
  obtain ⟨W1, r1, a1, b1, f1, z1, k1, s1, t1⟩ := one W0 1 v1 s0 (by omega)
  obtain ⟨W2, r2, a2, b2, f2, z2, k2, s2, t2⟩ := one W1 2 v2 s1 (by omega)
  obtain ⟨W3, r3, a3, b3, f3, z3, k3, s3, t3⟩ := one W2 3 v3 s2 (by omega)
  obtain ⟨W4, r4, a4, b4, f4, z4, k4, s4, t4⟩ := one W3 4 v4 s3 (by omega)
  obtain ⟨W5, r5, a5, b5, f5, z5, k5, s5, t5⟩ := one W4 5 v5 s4 (by omega)
  refine ⟨W5, by rw [r0, r1, r2, r3, r4, r5], ?_, ?_, ?_, ?_, ?_, a5, fun o => by rw [f5, f4, f3, f2, f1, f0], by omega, fun k hk => by rw [k5 k hk, k4 k hk, k3 k hk, k2 k hk, k1 k hk, k0 k hk], fun pb a hb hg => t5 pb a (t4 pb a (t3 pb a (t2 pb a (t1 pb a (t0 pb a hb hg) hg) hg) hg) hg) hg⟩
  · rw [b5 0 (by omega), b4 0 (by omega), b3 0 (by omega), b2 0 (by omega), b1 0 (by omega), a0]
  · rw [b5 1 (by omega), b4 1 (by omega), b3 1 (by omega), b2 1 (by omega), a1]
  · rw [b5 2 (by omega), b4 2 (by omega), b3 2 (by omega), a2]
  · rw [b5 3 (by omega), b4 3 (by omega), a3]
  · rw [b5 4 (by omega), a4]

/-- A block that was made ahead of a call is as it was made. -/
theorem made {pb : Nat} {w w' : World} {C : Array Value} {ty : TypeId} {g : Nat} (hb : Bes pb (w.alloc (.cells C ty)) w') (hp : pb < w.heap.size) (hg : g = w.heap.size) :
    (∀ o, w'.cell? ⟨g, o, none⟩ = C[o]?) ∧ (∀ o, w'.frozen? ⟨g, o, none⟩ = false) := by
  subst hg
  have e := hb.block w.heap.size (by simp) (by omega)
  refine ⟨fun o => ?_, fun o => ?_⟩
  · rw [World.cell?_of_block (a := ⟨w.heap.size, o, none⟩) e]; simp
  · rw [World.frozen?_of_block (a := ⟨w.heap.size, o, none⟩) e]; simp

/-- A block of six, at a world where it is as it was made. -/
structure Six (w : World) (g : Nat) (v0 v1 v2 v3 v4 v5 : Value) : Prop where
  c0 : w.cell? ⟨g, 0, none⟩ = some v0
  c1 : w.cell? ⟨g, 1, none⟩ = some v1
  c2 : w.cell? ⟨g, 2, none⟩ = some v2
  c3 : w.cell? ⟨g, 3, none⟩ = some v3
  c4 : w.cell? ⟨g, 4, none⟩ = some v4
  c5 : w.cell? ⟨g, 5, none⟩ = some v5
  f0 : w.frozen? ⟨g, 0, none⟩ = false
  f1 : w.frozen? ⟨g, 1, none⟩ = false
  f2 : w.frozen? ⟨g, 2, none⟩ = false
  f3 : w.frozen? ⟨g, 3, none⟩ = false
  f4 : w.frozen? ⟨g, 4, none⟩ = false
  f5 : w.frozen? ⟨g, 5, none⟩ = false
theorem Six.lt {w : World} {g : Nat} {v0 v1 v2 v3 v4 v5 : Value} (h : Six w g v0 v1 v2 v3 v4 v5) : g < w.heap.size := Em.cell_lt h.c0
theorem Six.isSome {w : World} {g : Nat} {v0 v1 v2 v3 v4 v5 : Value} (h : Six w g v0 v1 v2 v3 v4 v5) : ∀ o, o < 6 → (w.cell? ⟨g, o, none⟩).isSome = true := fun o ho => by
  match o, ho with
  | 0, _ => rw [h.c0]; rfl
  | 1, _ => rw [h.c1]; rfl
  | 2, _ => rw [h.c2]; rfl
  | 3, _ => rw [h.c3]; rfl
  | 4, _ => rw [h.c4]; rfl
  | 5, _ => rw [h.c5]; rfl
theorem Six.bes {w w' : World} {g pb : Nat} {v0 v1 v2 v3 v4 v5 : Value} (h : Six w g v0 v1 v2 v3 v4 v5) (hb : Bes pb w w') (hn : g ≠ pb) : Six w' g v0 v1 v2 v3 v4 v5 := by
  have hl := h.lt
  have c : ∀ o, w'.cell? ⟨g, o, none⟩ = w.cell? ⟨g, o, none⟩ := fun o => hb.cell (p := ⟨g, o, none⟩) hl hn
  have f : ∀ o, w'.frozen? ⟨g, o, none⟩ = w.frozen? ⟨g, o, none⟩ := fun o => hb.frozen (p := ⟨g, o, none⟩) hl hn
  exact ⟨by rw [c]; exact h.c0, by rw [c]; exact h.c1, by rw [c]; exact h.c2, by rw [c]; exact h.c3, by rw [c]; exact h.c4, by rw [c]; exact h.c5, by rw [f]; exact h.f0, by rw [f]; exact h.f1, by rw [f]; exact h.f2, by rw [f]; exact h.f3, by rw [f]; exact h.f4, by rw [f]; exact h.f5⟩
theorem Six.below {w w' : World} {g : Nat} {v0 v1 v2 v3 v4 v5 : Value} (h : Six w g v0 v1 v2 v3 v4 v5) (hb : Below w.heap.size w w') : Six w' g v0 v1 v2 v3 v4 v5 :=
  h.bes (pb := w.heap.size) (Bes.of hb) (Nat.ne_of_lt h.lt)
theorem Six.drew {w : World} {g : Nat} {v0 v1 v2 v3 v4 v5 : Value} (h : Six w g v0 v1 v2 v3 v4 v5) : Six w.drew g v0 v1 v2 v3 v4 v5 := h.below (Below.refl _ _).drew
theorem Six.alloc {w : World} {g : Nat} {v0 v1 v2 v3 v4 v5 : Value} (h : Six w g v0 v1 v2 v3 v4 v5) (o : Obj) : Six (w.alloc o) g v0 v1 v2 v3 v4 v5 := h.below ((Below.refl _ _).alloc (Nat.le_refl _) o)
theorem Six.far {w W : World} {g k : Nat} {v0 v1 v2 v3 v4 v5 : Value} (h : Six w g v0 v1 v2 v3 v4 v5) (hk : ∀ j, j ≠ k → W.heap[j]? = w.heap[j]?) (hn : g ≠ k) : Six W g v0 v1 v2 v3 v4 v5 := by
  have c : ∀ o, W.cell? ⟨g, o, none⟩ = w.cell? ⟨g, o, none⟩ := fun o => World.cell?_of_block (a := ⟨g, o, none⟩) (hk g hn)
  have f : ∀ o, W.frozen? ⟨g, o, none⟩ = w.frozen? ⟨g, o, none⟩ := fun o => World.frozen?_of_block (a := ⟨g, o, none⟩) (hk g hn)
  exact ⟨by rw [c]; exact h.c0, by rw [c]; exact h.c1, by rw [c]; exact h.c2, by rw [c]; exact h.c3, by rw [c]; exact h.c4, by rw [c]; exact h.c5, by rw [f]; exact h.f0, by rw [f]; exact h.f1, by rw [f]; exact h.f2, by rw [f]; exact h.f3, by rw [f]; exact h.f4, by rw [f]; exact h.f5⟩
theorem Six.held {w : World} {g : Nat} {v0 v1 v2 v3 v4 v5 : Value} (h : Six w g v0 v1 v2 v3 v4 v5) : w.cell? ⟨g, 0, none⟩ = some v0 ∧ w.cell? ⟨g, 1, none⟩ = some v1 ∧ w.cell? ⟨g, 2, none⟩ = some v2 ∧ w.cell? ⟨g, 3, none⟩ = some v3 ∧ w.cell? ⟨g, 4, none⟩ = some v4 ∧ w.cell? ⟨g, 5, none⟩ = some v5 := ⟨h.c0, h.c1, h.c2, h.c3, h.c4, h.c5⟩
theorem Six.made (w : World) (v0 v1 v2 v3 v4 v5 : Value) (ty : TypeId) : Six (w.alloc (.cells #[v0, v1, v2, v3, v4, v5] ty)) w.heap.size v0 v1 v2 v3 v4 v5 :=
  ⟨by simp, by simp, by simp, by simp, by simp, by simp, by simp, by simp, by simp, by simp, by simp, by simp⟩
/-- A store of six cells. -/
theorem Six.set {w : World} {g : Nat} {u0 u1 u2 u3 u4 u5 : Value} (h : Six w g u0 u1 u2 u3 u4 u5) (v0 v1 v2 v3 v4 v5 : Value) :
    ∃ W, ((((((w.setCell ⟨g, 0, none⟩ v0).setCell ⟨g, 1, none⟩ v1).setCell ⟨g, 2, none⟩ v2).setCell ⟨g, 3, none⟩ v3).setCell ⟨g, 4, none⟩ v4).setCell ⟨g, 5, none⟩ v5) = W ∧
      Six W g v0 v1 v2 v3 v4 v5 ∧ W.heap.size = w.heap.size ∧ (∀ k, k ≠ g → W.heap[k]? = w.heap[k]?) ∧ (∀ pb a, Bes pb a w → a.heap.size ≤ g → Bes pb a W) := by
  obtain ⟨W, e, c0, c1, c2, c3, c4, c5, f, z, k, b⟩ := set6 w g v0 v1 v2 v3 v4 v5 h.isSome
  exact ⟨W, e, ⟨c0, c1, c2, c3, c4, c5, by rw [f]; exact h.f0, by rw [f]; exact h.f1, by rw [f]; exact h.f2, by rw [f]; exact h.f3, by rw [f]; exact h.f4, by rw [f]; exact h.f5⟩, z, k, b⟩
end Go.Em6

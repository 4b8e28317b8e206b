/- Expressions (api.Node) as plain trees, and how they lie in memory. -/
import Derived.Test.YtbiihiibebdjgaaStr
namespace Go.Em5
open Go.RowKit

/-- An expression: its op, its names, its number, its place, its kids. -/
inductive Nd where
  | mk (op nm ar : List Int) (n p : Int) (kids : List Nd) : Nd

def Nd.op : Nd → List Int | .mk a _ _ _ _ _ => a
def Nd.nm : Nd → List Int | .mk _ a _ _ _ _ => a
def Nd.ar : Nd → List Int | .mk _ _ a _ _ _ => a
def Nd.n : Nd → Int | .mk _ _ _ a _ _ => a
def Nd.p : Nd → Int | .mk _ _ _ _ a _ => a
def Nd.kids : Nd → List Nd | .mk _ _ _ _ _ a => a

theorem Nd.ind {P : Nd → Prop} (h : ∀ op nm ar n p l, (∀ t ∈ l, P t) → P (.mk op nm ar n p l)) : ∀ t, P t
  | .mk op nm ar n p l => h op nm ar n p l (fun t _ => Nd.ind h t)

/-- A byte string as a cell may hold it. -/
def Txt (L : List Int) : Prop := (∀ x ∈ L, 0 ≤ x ∧ x ≤ 255) ∧ L.length ≤ 140737488351232
def I64 (n : Int) : Prop := -9223372036854775808 ≤ n ∧ n ≤ 9223372036854775807

mutual
/-- In the world w the value v is the expression. -/
def IsNd (w : World) : Nd → Value → Prop
  | .mk op nm ar n p l, v => ∃ a cap, v = .agg #[.string (Em.str op), .string (Em.str nm), .string (Em.str ar), .int .i64 n, .int .i64 p, .slice a l.length cap] ∧
      Txt op ∧ Txt nm ∧ Txt ar ∧ I64 n ∧ I64 p ∧ l.length ≤ cap ∧ cap ≤ 9223372036854775807 ∧ (0 < l.length → ∃ b off, a = some ⟨b, off, none⟩ ∧ b < w.heap.size ∧ KidsAt w b off l)
/-- At the place off of the block b the expressions lie one behind the other. -/
def KidsAt (w : World) (b : Nat) : Nat → List Nd → Prop
  | _, [] => True
  | off, t :: r => (∃ c0 c1 c2 c3 c4 c5, w.cell? ⟨b, off, none⟩ = some c0 ∧ w.cell? ⟨b, off + 1, none⟩ = some c1 ∧ w.cell? ⟨b, off + 2, none⟩ = some c2 ∧ w.cell? ⟨b, off + 3, none⟩ = some c3 ∧ w.cell? ⟨b, off + 4, none⟩ = some c4 ∧ w.cell? ⟨b, off + 5, none⟩ = some c5 ∧ IsNd w t (.agg #[c0, c1, c2, c3, c4, c5])) ∧ KidsAt w b (off + 6) r
end

theorem kidsAt_get {w : World} {b : Nat} : ∀ (l : List Nd) (off j : Nat) (t : Nd), KidsAt w b off l → l[j]? = some t →
    ∃ c0 c1 c2 c3 c4 c5, w.cell? ⟨b, off + j * 6, none⟩ = some c0 ∧ w.cell? ⟨b, off + j * 6 + 1, none⟩ = some c1 ∧ w.cell? ⟨b, off + j * 6 + 2, none⟩ = some c2 ∧ w.cell? ⟨b, off + j * 6 + 3, none⟩ = some c3 ∧ w.cell? ⟨b, off + j * 6 + 4, none⟩ = some c4 ∧ w.cell? ⟨b, off + j * 6 + 5, none⟩ = some c5 ∧ IsNd w t (.agg #[c0, c1, c2, c3, c4, c5])
  | [], _, _, _, _, h => by simp at h
  | x :: r, off, 0, t, hk, h => by
    simp at h; subst h
    unfold KidsAt at hk
    simpa using hk.1
  | x :: r, off, j + 1, t, hk, h => by
    unfold KidsAt at hk
    have := kidsAt_get r (off + 6) j t hk.2 (by simpa using h)
    rw [show off + (j + 1) * 6 = off + 6 + j * 6 by omega]
    exact this

theorem kidsAt_mk {w : World} {b : Nat} : ∀ (l : List Nd) (off : Nat), (∀ j t, l[j]? = some t →
    ∃ c0 c1 c2 c3 c4 c5, w.cell? ⟨b, off + j * 6, none⟩ = some c0 ∧ w.cell? ⟨b, off + j * 6 + 1, none⟩ = some c1 ∧ w.cell? ⟨b, off + j * 6 + 2, none⟩ = some c2 ∧ w.cell? ⟨b, off + j * 6 + 3, none⟩ = some c3 ∧ w.cell? ⟨b, off + j * 6 + 4, none⟩ = some c4 ∧ w.cell? ⟨b, off + j * 6 + 5, none⟩ = some c5 ∧ IsNd w t (.agg #[c0, c1, c2, c3, c4, c5])) → KidsAt w b off l
  | [], _, _ => by unfold KidsAt; trivial
  | x :: r, off, h => by
    unfold KidsAt
    refine ⟨by simpa using h 0 x rfl, kidsAt_mk r (off + 6) fun j t hj => ?_⟩
    have := h (j + 1) t (by simpa using hj)
    rw [show off + (j + 1) * 6 = off + 6 + j * 6 by omega] at this
    exact this

/-- What is handed in stays as it is, if memory is only made. -/
theorem isNd_below {w w' : World} (hb : Below w.heap.size w w') : ∀ (t : Nd) (v : Value), IsNd w t v → IsNd w' t v := by
  intro t
  induction t using Nd.ind with
  | h op nm ar n p l ih =>
    intro v h
    unfold IsNd at h ⊢
    obtain ⟨a, cap, h1, h2, h3, h4, h5, h6, h7, h8, h9⟩ := h
    refine ⟨a, cap, h1, h2, h3, h4, h5, h6, h7, h8, fun hp => ?_⟩
    obtain ⟨b, off, e, hlt, hk⟩ := h9 hp
    refine ⟨b, off, e, Nat.lt_of_lt_of_le hlt hb.size, kidsAt_mk l off fun j t hj => ?_⟩
    obtain ⟨c0, c1, c2, c3, c4, c5, k0, k1, k2, k3, k4, k5, kn⟩ := kidsAt_get l off j t hk hj
    have key : ∀ o, w'.cell? ⟨b, o, none⟩ = w.cell? ⟨b, o, none⟩ := fun o => hb.cell (p := ⟨b, o, none⟩) hlt
    exact ⟨c0, c1, c2, c3, c4, c5, by rw [key]; exact k0, by rw [key]; exact k1, by rw [key]; exact k2, by rw [key]; exact k3, by rw [key]; exact k4, by rw [key]; exact k5, ih t (List.mem_of_getElem? hj) _ kn⟩

/-! ### How many nodes -/
mutual
def Nd.size : Nd → Nat | .mk _ _ _ _ _ l => sizes l + 1
def sizes : List Nd → Nat | [] => 0 | t :: r => t.size + sizes r
end
theorem size_pos : ∀ t : Nd, 1 ≤ t.size | .mk _ _ _ _ _ _ => by unfold Nd.size; omega
theorem sizes_app (a b : List Nd) : sizes (a ++ b) = sizes a + sizes b := by
  induction a with
  | nil => simp [sizes]
  | cons x r ih => simp only [List.cons_append, sizes, ih]; omega
theorem sizes_take (l : List Nd) (j : Nat) (t : Nd) (h : l[j]? = some t) : sizes (l.take (j + 1)) = sizes (l.take j) + t.size := by
  have hj := (List.getElem?_eq_some_iff.1 h).1
  have e : l[j] = t := (List.getElem?_eq_some_iff.1 h).2
  rw [List.take_succ_eq_append_getElem hj, sizes_app, e]
  simp [sizes]
theorem sizes_take_le (l : List Nd) (j : Nat) : sizes (l.take j) ≤ sizes l := by
  have := sizes_app (l.take j) (l.drop j)
  rw [List.take_append_drop] at this
  omega
end Go.Em5

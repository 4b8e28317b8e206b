/- An expression among others in memory: its cells, written out. -/
import Derived.Test.YtlniokcekjemdaaDoorNd
namespace Go.Em5
open Go.RowKit

/-- The cells of an expression whose kids' row is (a, cap). -/
def ndV (t : Nd) (a : Option Addr) (cap : Nat) : Value := .agg #[.string (Em.str t.op), .string (Em.str t.nm), .string (Em.str t.ar), .int .i64 t.n, .int .i64 t.p, .slice a t.kids.length cap]

theorem kid_get {w : World} {b : Nat} {l : List Nd} {off j : Nat} {t : Nd} (h : KidsAt w b off l) (ht : l[j]? = some t) :
    ∃ a cap, w.cell? ⟨b, off + j * 6, none⟩ = some (.string (Em.str t.op)) ∧ w.cell? ⟨b, off + j * 6 + 1, none⟩ = some (.string (Em.str t.nm)) ∧ w.cell? ⟨b, off + j * 6 + 2, none⟩ = some (.string (Em.str t.ar)) ∧
      w.cell? ⟨b, off + j * 6 + 3, none⟩ = some (.int .i64 t.n) ∧ w.cell? ⟨b, off + j * 6 + 4, none⟩ = some (.int .i64 t.p) ∧ w.cell? ⟨b, off + j * 6 + 5, none⟩ = some (.slice a t.kids.length cap) ∧
      IsNd w t (.agg #[.string (Em.str t.op), .string (Em.str t.nm), .string (Em.str t.ar), .int .i64 t.n, .int .i64 t.p, .slice a t.kids.length cap]) := by
  obtain ⟨c0, c1, c2, c3, c4, c5, k0, k1, k2, k3, k4, k5, kn⟩ := kidsAt_get l off j t h ht
  obtain ⟨op, nm, ar, n, p, m⟩ := t
  have kn' := kn
  unfold IsNd at kn'
  obtain ⟨a, cap, e, -⟩ := kn'
  simp only [Value.agg.injEq, Array.mk.injEq, List.cons.injEq, and_true] at e
  obtain ⟨rfl, rfl, rfl, rfl, rfl, rfl⟩ := e
  exact ⟨a, cap, k0, k1, k2, k3, k4, k5, kn⟩
end Go.Em5

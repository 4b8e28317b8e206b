/- A type among others in memory: its cells, written out. -/
import Derived.Test.YtbiihiibebdjgaaTy
namespace Go.Em8
open Go.RowKit Go.Em5

theorem ty_get {w : World} {b : Nat} {l : List Ty} {off j : Nat} {t : Ty} (h : TysAt w b off l) (ht : l[j]? = some t) :
    ∃ a cap, w.cell? ⟨b, off + j * 3, none⟩ = some (.string (Em.str t.op)) ∧ w.cell? ⟨b, off + j * 3 + 1, none⟩ = some (.int .i64 t.n) ∧ w.cell? ⟨b, off + j * 3 + 2, none⟩ = some (.slice a t.kids.length cap) ∧
      IsTy w t (.agg #[.string (Em.str t.op), .int .i64 t.n, .slice a t.kids.length cap]) := by
  obtain ⟨c0, c1, c2, k0, k1, k2, kn⟩ := tysAt_get l off j t h ht
  obtain ⟨op, n, m⟩ := t
  have kn' := kn
  unfold IsTy at kn'
  obtain ⟨a, cap, e, -⟩ := kn'
  simp only [Value.agg.injEq, Array.mk.injEq, List.cons.injEq, and_true] at e
  obtain ⟨rfl, rfl, rfl⟩ := e
  exact ⟨a, cap, k0, k1, k2, kn⟩
theorem size_pos (t : Ty) : 1 ≤ t.size := by obtain ⟨op, n, l⟩ := t; rw [Ty.size]; omega
theorem tsize_len {op : List Int} {n : Int} {l : List Ty} : l.length < (Ty.mk op n l).size := by
  have : ∀ l : List Ty, l.length ≤ tsizes l := by
    intro l
    induction l with
    | nil => simp
    | cons x r ih => have := size_pos x; simp only [tsizes, List.length_cons]; omega
  have := this l
  rw [Ty.size]; omega
end Go.Em8

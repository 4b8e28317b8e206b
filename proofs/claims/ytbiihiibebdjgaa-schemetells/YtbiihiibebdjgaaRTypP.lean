/- What the document's own 'Put' makes. -/
import Derived.Test.YtbiihiibebdjgaaTyApp
import Derived.Test.YtbiihiibebdjgaaMath8c
import Derived.Test.YtbiihiibebdjgaaMath8t
import Derived.Test.YtbiihiibebdjgaaRTypC
import Derived.Test.YtbiihiibebdjgaaRTypN
import Derived.Deep.RegionLaw
import Derived.Deep.DeepCutAuto
import Derived.Deep.CutBlock
import Derived.Deep.QuietTactic
import Derived.BigQuiet
namespace Go.Proofs.Ytbiihiibebdjgaa
open Go.RowKit Go.Em8
set_option linter.unusedSimpArgs false

/-- A type that is being made: the type's own block, the result's, the new one's, and its kids so far. -/
def PutI (Q : Nat → Prop) (w : World) (op : List Int) (n : Int) (sl kv : Value) (ls : List Ty) (wr : World) : Prop :=
  wr.cell? ⟨w.heap.size, 2, none⟩ = some sl ∧
  (wr.cell? ⟨w.heap.size + 1, 0, none⟩ = some (.string ⟨#[]⟩) ∧ wr.cell? ⟨w.heap.size + 1, 1, none⟩ = some (.int .i64 0) ∧ wr.cell? ⟨w.heap.size + 1, 2, none⟩ = some (.slice none 0 0)) ∧
  (wr.cell? ⟨w.heap.size + 2, 0, none⟩ = some (.string (Em.str op)) ∧ wr.cell? ⟨w.heap.size + 2, 1, none⟩ = some (.int .i64 n) ∧ wr.cell? ⟨w.heap.size + 2, 2, none⟩ = some kv) ∧
  (∀ o, wr.frozen? ⟨w.heap.size + 1, o, none⟩ = false) ∧ (∀ o, wr.frozen? ⟨w.heap.size + 2, o, none⟩ = false) ∧
  OwnTys (fun b => Q b ∨ w.heap.size + 3 ≤ b) 25 wr (w.heap.size + 3) kv ls ∧ Below w.heap.size w wr ∧ w.heap.size + 3 ≤ wr.heap.size
theorem PutI.far {Q : Nat → Prop} {w : World} {op : List Int} {n : Int} {sl kv : Value} {ls : List Ty} {wr w' : World} (h : PutI Q w op n sl kv ls wr) (hb : Below (w.heap.size + 3) wr w') :
    w'.cell? ⟨w.heap.size, 2, none⟩ = some sl ∧
    (w'.cell? ⟨w.heap.size + 1, 0, none⟩ = some (.string ⟨#[]⟩) ∧ w'.cell? ⟨w.heap.size + 1, 1, none⟩ = some (.int .i64 0) ∧ w'.cell? ⟨w.heap.size + 1, 2, none⟩ = some (.slice none 0 0)) ∧
    (w'.cell? ⟨w.heap.size + 2, 0, none⟩ = some (.string (Em.str op)) ∧ w'.cell? ⟨w.heap.size + 2, 1, none⟩ = some (.int .i64 n) ∧ w'.cell? ⟨w.heap.size + 2, 2, none⟩ = some kv) ∧
    (∀ o, w'.frozen? ⟨w.heap.size + 1, o, none⟩ = false) ∧ (∀ o, w'.frozen? ⟨w.heap.size + 2, o, none⟩ = false) ∧ Below w.heap.size w w' ∧ w.heap.size + 3 ≤ w'.heap.size := by
  obtain ⟨a2, ⟨b0, b1, b2⟩, ⟨c0, c1, c2⟩, f1, f2, -, hw, hz⟩ := h
  have key : ∀ g o, g < w.heap.size + 3 → w'.cell? ⟨g, o, none⟩ = wr.cell? ⟨g, o, none⟩ := fun g o hg => hb.cell (p := ⟨g, o, none⟩) hg
  have keyf : ∀ g o, g < w.heap.size + 3 → w'.frozen? ⟨g, o, none⟩ = wr.frozen? ⟨g, o, none⟩ := fun g o hg => hb.frozen (p := ⟨g, o, none⟩) hg
  have hs := hb.size
  refine ⟨?_, ⟨?_, ?_, ?_⟩, ⟨?_, ?_, ?_⟩, fun o => ?_, fun o => ?_, hw.trans (hb.mono (by omega)), by omega⟩
  · rw [key _ _ (by omega)]; exact a2
  · rw [key _ _ (by omega)]; exact b0
  · rw [key _ _ (by omega)]; exact b1
  · rw [key _ _ (by omega)]; exact b2
  · rw [key _ _ (by omega)]; exact c0
  · rw [key _ _ (by omega)]; exact c1
  · rw [key _ _ (by omega)]; exact c2
  · rw [keyf _ _ (by omega)]; exact f1 o
  · rw [keyf _ _ (by omega)]; exact f2 o
theorem PutI.own {Q : Nat → Prop} {w : World} {op : List Int} {n : Int} {sl kv : Value} {ls : List Ty} {wr : World} (h : PutI Q w op n sl kv ls wr) : OwnTys (fun b => Q b ∨ w.heap.size + 3 ≤ b) 25 wr (w.heap.size + 3) kv ls := h.2.2.2.2.2.1
theorem PutI.bel {Q : Nat → Prop} {w : World} {op : List Int} {n : Int} {sl kv : Value} {ls : List Ty} {wr : World} (h : PutI Q w op n sl kv ls wr) : Below w.heap.size w wr := h.2.2.2.2.2.2.1
theorem PutI.size {Q : Nat → Prop} {w : World} {op : List Int} {n : Int} {sl kv : Value} {ls : List Ty} {wr : World} (h : PutI Q w op n sl kv ls wr) : w.heap.size + 3 ≤ wr.heap.size := h.2.2.2.2.2.2.2
theorem PutI.below {Q : Nat → Prop} {w : World} {op : List Int} {n : Int} {sl kv : Value} {ls : List Ty} {wr w' : World} (h : PutI Q w op n sl kv ls wr) (hb : Below wr.heap.size wr w') : PutI Q w op n sl kv ls w' := by
  obtain ⟨a2, b, c, f1, f2, hw, hz⟩ := h.far (hb.mono h.size)
  exact ⟨a2, b, c, f1, f2, ownTys_below h.own hb, hw, hz⟩
/-- A kid more. -/
theorem PutI.app {Q : Nat → Prop} {w : World} {op : List Int} {n : Int} {sl kv kv' : Value} {ls ls' : List Ty} {wr w' : World} (h0 : ∀ b, Q b → b < w.heap.size) (h : PutI Q w op n sl kv ls wr) (hb : Below (w.heap.size + 3) wr w')
    (ho : OwnTys (fun b => Q b ∨ w.heap.size + 3 ≤ b) 25 w' (w.heap.size + 3) kv' ls') : PutI Q w op n sl kv' ls' (w'.setCell ⟨w.heap.size + 2, 2, none⟩ kv') := by
  obtain ⟨a2, ⟨b0, b1, b2⟩, ⟨c0, c1, c2⟩, f1, f2, hw, hz⟩ := h.far hb
  have o1 : ∀ b o, (b, o) ≠ (w.heap.size + 2, 2) → (w'.setCell ⟨w.heap.size + 2, 2, none⟩ kv').cell? ⟨b, o, none⟩ = w'.cell? ⟨b, o, none⟩ := fun b o hne =>
    World.cell?_setCell_other _ _ _ _ (by intro e; injection e with e1 e2; exact hne (by rw [e1, e2]))
  refine ⟨?_, ⟨?_, ?_, ?_⟩, ⟨?_, ?_, World.cell?_setCell_same _ _ _ c2⟩, fun o => ?_, fun o => ?_, ownTys_set ho _ _ _ (by omega) (by rintro (h | h); exact absurd (h0 _ h) (by omega); omega), hw.setCell (p := ⟨w.heap.size + 2, 2, none⟩) (by simp) _, by rw [World.size_setCell]; exact hz⟩
  · rw [o1 _ _ (by simp)]; exact a2
  · rw [o1 _ _ (by simp)]; exact b0
  · rw [o1 _ _ (by simp)]; exact b1
  · rw [o1 _ _ (by simp)]; exact b2
  · rw [o1 _ _ (by simp)]; exact c0
  · rw [o1 _ _ (by simp)]; exact c1
  · rw [World.frozen?_setCell]; exact f1 o
  · rw [World.frozen?_setCell]; exact f2 o
theorem below_set3 {B g : Nat} {w w1 : World} (h : Below B w w1) (hg : B ≤ g) (a b c : Value) : Below B w (((w1.setCell ⟨g, 0, none⟩ a).setCell ⟨g, 1, none⟩ b).setCell ⟨g, 2, none⟩ c) :=
  ((h.setCell (p := ⟨g, 0, none⟩) hg _).setCell (p := ⟨g, 1, none⟩) hg _).setCell (p := ⟨g, 2, none⟩) hg _
/-- A type that was there is one still, in whatever world comes behind. -/
theorem isTyP_old {Q : Nat → Prop} {w0 w' : World} {B : Nat} {t : Ty} {v : Value} (h : IsTyP Q w0 t v) (hb : Below w0.heap.size w0 w') : IsTyP (fun b => Q b ∨ B ≤ b) w' t v :=
  isTyP_keep hb.size (fun b hp hl => ⟨hb.block b hl, .inl hp⟩) t v h

/-- What a kid's own call made lies apart from the row of the kids. -/
theorem put_apart {Q : Nat → Prop} {w : World} {op : List Int} {n : Int} {sl kv : Value} {ls : List Ty} {wr w3 : World} {t : Ty} {u : Value} (h : PutI Q w op n sl kv ls wr) (h0 : ∀ b, Q b → b < w.heap.size)
    (hu : IsTyP (fun b => Q b ∨ wr.drew.heap.size ≤ b) w3 t u) : IsTyP (fun x => (Q x ∨ w.heap.size + 3 ≤ x) ∧ some x ≠ kv.ownBlock) w3 t u := by
  have hz := h.size
  have e : wr.drew.heap.size = wr.heap.size := rfl
  refine isTyP_wide hu fun b hb _ => ⟨?_, fun hk => ?_⟩
  · rcases hb with hb | hb
    · exact .inl hb
    · exact .inr (by omega)
  · obtain ⟨cs, -, hown, -⟩ := h.own
    have h2 := World.ownsRow.lt hown b hk.symm
    rcases hb with hb | hb
    · have := h0 b hb; omega
    · omega

end Go.Proofs.Ytbiihiibebdjgaa

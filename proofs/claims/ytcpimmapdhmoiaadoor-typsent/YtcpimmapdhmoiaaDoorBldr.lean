/- A strings.Builder of a call's own: what it holds, what stays when it is written. -/
import Derived.Test.YtcpimmapdhmoiaaDoorProg
import Derived.Test.YtcpimmapdhmoiaaDoorStrs
import Derived.Test.YtcpimmapdhmoiaaDoorRTypG
import Derived.Lib.OthersKept
import Derived.Lib.LaidTab
import Derived.Lib.ItoaNum
namespace Go.Proofs.YtcpimmapdhmoiaaDoor
open Go.RowKit
set_option linter.unusedSimpArgs false
set_option linter.unusedVariables false

/-- A builder of a call's own that holds the text L. -/
abbrev Bld (B b : Nat) (L : List Int) (w : World) : Prop := Lib.IsBuilderF 46 5 B b (Lib.byteCells (Em.str L).data.toList) w
abbrev Kept (b : Nat) (w w' : World) : Prop := Lib.OthersKept 5 (some b) w w'
theorem bldAt_below {T e : TypeId} {B b : Nat} {p : Value} {bs : List Value} {w w' : World} (h : Lib.BuilderAtF T e B b p bs w) (hb : Below w.heap.size w w') : Lib.BuilderAtF T e B b p bs w' := by
  have hlt := h.lt
  obtain ⟨hB, v, hbk, hown, hne⟩ := h
  refine ⟨hB, v, by rw [hb.block b hlt]; exact hbk, ⟨hown.1, ?_⟩, hne⟩
  rcases hown.2 with hn | ⟨g, cap, cur, fz, hv, hbg, hg, rest⟩
  · exact .inl hn
  · refine .inr ⟨g, cap, cur, fz, hv, hbg, ?_, rest⟩
    have hgl : g < w.heap.size := by
      rcases Nat.lt_or_ge g w.heap.size with h' | h'
      · exact h'
      · simp [Array.getElem?_eq_none h'] at hg
    rw [hb.block g hgl]; exact hg
theorem Bld.below {B b : Nat} {L : List Int} {w w' : World} (h : Bld B b L w) (hb : Below w.heap.size w w') : Bld B b L w' := h.elim (fun x => .inl (bldAt_below x hb)) (fun x => .inr (bldAt_below x hb))
theorem Bld.lt {B b : Nat} {L : List Int} {w : World} (h : Bld B b L w) : b < w.heap.size := h.elim (fun x => x.lt) (fun x => x.lt)
theorem kept_below {b : Nat} {w w' : World} (hb : Below w.heap.size w w') : Kept b w w' := fun k o hk _ _ => by
  have hlt : k < w.heap.size := (Array.getElem?_eq_some_iff.1 hk).1
  rw [hb.block k hlt]; exact hk
theorem heap_lt {w : World} {k : Nat} {o : Obj} (h : w.heap[k]? = some o) : k < w.heap.size := (Array.getElem?_eq_some_iff.1 h).1
/-- What a write into a builder is called with, and does. -/
abbrev Writes : Prop := ∀ (L M : List Int) (B b : Nat) (w : World), Bld B b L w → L.length + M.length ≤ 140737488355328 → B ≤ w.heap.size →
  Calls Tryd.prog 42 #[.pointer (some ⟨b, 0, none⟩), .string (Em.str M)] w fun e w' => e = .returned (.tuple #[.int .i64 (Em.str M).size, .nilIface]) ∧ Bld B b (L ++ M) w' ∧ Below B w w' ∧ Kept b w w'
theorem not_row {c : Array Value} {t e : TypeId} {fz : Nat × Nat} (h : t ≠ e) : ∀ c' fz', (Obj.cells c t fz) ≠ .cells c' e fz' := by
  intro c' fz' he
  cases he
  exact h rfl
end Go.Proofs.YtcpimmapdhmoiaaDoor

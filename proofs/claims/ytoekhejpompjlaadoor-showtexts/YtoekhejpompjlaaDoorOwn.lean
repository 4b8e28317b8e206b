/- Bytes in a row of memory of a call's own; what a varint's Get hands back. -/
import Derived.Test.YtoekhejpompjlaaDoorProg
import Derived.Test.YtoekhejpompjlaaDoorPureA
import Derived.WalkKit
import Derived.WalkSpells
import Derived.WalkLawsBesides
import Derived.Laws.AppendOwnNone
import Derived.Laws.OwnMore
namespace Go.Proofs.YtoekhejpompjlaaDoor
open Go.RowKit

theorem infoByte : (Tryd.prog.info? 5).map (fun i => (i.zero, i.size, i.bytes)) = some (some (.int .u8 0), 1, 1) := by kernel_rfl

/-- The bytes L, in a row of memory that begins at block B or behind it. -/
abbrev Own (w : World) (B : Nat) (v : Value) (L : List Int) : Prop := w.ownsRow B 5 1 v L.length (L.map (Value.int .u8))

theorem own_snoc {w : World} {B : Nat} {u : Value} {xs : List Int} {c : Int} (h : w.ownsRow B 5 1 u (xs.length + 1) (xs.map (Value.int .u8) ++ [.int .u8 c])) : Own w B u (xs ++ [c]) := by
  unfold Own; simpa using h

/-- Behind an append of one byte to a row of one's own. -/
theorem below_push {w wr w1 : World} {u : Value} {L : List Int} {o : Obj} (hb : Below w.heap.size w wr) (ho : Own wr w.heap.size u L) (hg : (wr.alloc o).grownBy w1 u.ownBlock) : Below w.heap.size w w1 := by
  have hs := hb.size
  exact (hb.alloc hs o).grown hg (by simp; omega) (fun k h => (ho.lt k h).1)

/-- What Get hands back. -/
def getRes (r : Option (Nat × Nat)) : Value :=
  match r with
  | none => .tuple #[.int .u64 0, .int .i64 0, .bool false]
  | some (v, n) => .tuple #[.int .u64 v, .int .i64 n, .bool true]

/-- A byte of one's own. -/
theorem own_cell {w : World} {B g cap k : Nat} {L : List Int} {c : Int} (h : w.ownsRow B 5 1 (.slice (some ⟨g, 0, none⟩) L.length cap) L.length (L.map (Value.int .u8))) (hk : k < L.length) (hc : c = L[k]?.getD 0) :
    w.cell? ⟨g, k, none⟩ = some (.int .u8 c) := by
  rw [h.cellAt k (by omega), hc]
  simp [hk]
/-- A store into bytes of one's own. -/
theorem own_set {w : World} {B g cap k : Nat} {L : List Int} {c : Int} (h : w.ownsRow B 5 1 (.slice (some ⟨g, 0, none⟩) L.length cap) L.length (L.map (Value.int .u8))) (hL : ∀ x ∈ L, 0 ≤ x ∧ x ≤ 255) (c0 : 0 ≤ c) (c1 : c ≤ 255) :
    Em.IsBytes (w.setCell ⟨g, k, none⟩ (.int .u8 c)) (.slice (some ⟨g, 0, none⟩) L.length cap) (L.set k c) := by
  have h1 := (h.stored k (.int .u8 c)).1
  rw [← List.map_set] at h1
  refine Em.IsBytes.own (base := B) (e := 5) (fun x hx => ?_) (by simpa using h1)
  rcases List.mem_or_eq_of_mem_set hx with hx | rfl
  · exact hL x hx
  · exact ⟨c0, c1⟩

theorem own_app {w : World} {B : Nat} {u : Value} {xs L : List Int} (h : w.ownsRow B 5 1 u (xs.length + L.length) (xs.map (Value.int .u8) ++ L.map (Value.int .u8))) : Own w B u (xs ++ L) := by
  unfold Own; simpa using h
/-- The slice that holds bytes of one's own, nil or not. -/
theorem own_form {w : World} {B : Nat} {u : Value} {L : List Int} (h : Own w B u L) : ∃ a c, u = .slice a L.length c := by
  rcases h.2 with ⟨h1, h2⟩ | ⟨g, gc, cur, h1, -⟩
  · exact ⟨none, 0, by rw [h1, h2]⟩
  · exact ⟨_, _, h1⟩
/-- A row of one's own stays so behind a call that only makes memory. -/
theorem owns_below {w w' : World} {B size n : Nat} {e : TypeId} {u : Value} {xs : List Value} (h : w.ownsRow B e size u n xs) (hb : Below w.heap.size w w') : w'.ownsRow B e size u n xs := by
  have hlt := h.lt
  refine ⟨h.1, ?_⟩
  rcases h.2 with h1 | ⟨g, gc, cur, h1, h2, h3, h4⟩
  · exact .inl h1
  · refine .inr ⟨g, gc, cur, h1, h2, ?_, h4⟩
    rw [hb.block g (hlt g (by rw [h1]; rfl)).2]
    exact h3
/-- Bytes of one's own stay so behind a call that only makes memory. -/
theorem own_below {w w' : World} {B : Nat} {u : Value} {L : List Int} (h : Own w B u L) (hb : Below w.heap.size w w') : Own w' B u L := by
  have hlt := h.lt
  refine ⟨h.1, ?_⟩
  rcases h.2 with h1 | ⟨g, gc, cur, h1, h2, h3, h4⟩
  · exact .inl h1
  · refine .inr ⟨g, gc, cur, h1, h2, ?_, h4⟩
    rw [hb.block g (hlt g (by rw [h1]; rfl)).2]
    exact h3
theorem own_base {w : World} {B B' : Nat} {u : Value} {L : List Int} (h : Own w B u L) (hb : B' ≤ B) : Own w B' u L :=
  ⟨h.1, h.2.elim .inl (fun ⟨g, cap, cur, hv, hg, r⟩ => .inr ⟨g, cap, cur, hv, Nat.le_trans hb hg, r⟩)⟩
/-- 'append(s, x...)' of any bytes, nil or not, onto bytes of one's own. -/
theorem wpList_app {w : World} {ops : Array Oper} {rest : List Oper} {o : Oper} {a : Act} {Q : Exit → Act → World → Prop} (hgd : o.guard = none) (s x : Operand)
    (ho : o.op = .call { callee := .builtin .append, args := #[s, x], argTypes := #[35, 35] })
    (B : Nat) (v : Value) (xs : List Int) (hs : a.eval s = v) (hown : Own w B v xs) (y : Value) (L : List Int) (hx : a.eval x = y) (hy : Em.IsBytes w y L) (hsz : xs.length + L.length ≤ 140737488355328) (hb : B ≤ w.heap.size)
    (h : ∀ v' w', Own w' B v' (xs ++ L) → w.grownBy w' v.ownBlock → Below B w w' → wpList Tryd.prog ops Q rest (a.put o.dst v') w') : wpList Tryd.prog ops Q (o :: rest) a w := by
  obtain ⟨i0, hi, hz0, hz1, hz2⟩ := info_parts infoByte
  obtain ⟨ya, cap, rfl, hc1, hc2, hc3, hc4, -⟩ := id hy
  cases ya with
  | none =>
    have hc0 := hc3 rfl
    have hL : L = [] := List.length_eq_zero_iff.1 (by omega)
    subst hL
    subst hc0
    refine wpList_append_own_none hgd s x 35 ho B 5 i0 1 Tryd.underlying35 hi v _ _ hs hown hx ?_
    exact h v w (by simpa using hown) ⟨rfl, rfl, rfl, Nat.le_refl _, fun _ _ _ => rfl⟩ (Below.refl _ _)
  | some ad =>
    refine wpList_append_own _ hgd s x 35 ho B 5 i0 (.int .u8 0) 1 1 Tryd.underlying35 hi hz0 hz1 hz2 rfl (by decide) v _ _ hs hown ad L.length cap (L.map (Value.int .u8)) hx (by simp) (hy.news) (Em.oneCells L) (by unfold maxLen; omega) (by omega) hb ?_
    intro v' w' h1 h2 _
    exact h v' w' (own_app h1) h2 ((Below.refl _ _).grown h2 hb (fun k hk => (hown.lt k hk).1))
/-- A literal of one byte. -/
theorem own_one (w : World) (c : Int) : Own (w.alloc (.cells #[.int .u8 c] 5)) w.heap.size (.slice (some ⟨w.heap.size, 0, none⟩) 1 1) [c] :=
  World.ownsRow_lit w #[.int .u8 c] 1 (Nat.le_refl _) (by simp [maxLen]) rfl
end Go.Proofs.YtoekhejpompjlaaDoor

/- A slice of ints in memory, as a list of numbers; rows of ints of a call's own, passed on and grown. -/
import Derived.Test.YtbiihiibebdjgaaProg
import Derived.Test.YtbiihiibebdjgaaNd
import Derived.WalkKit
import Derived.WalkSpells
import Derived.WalkLawsBesides
import Derived.Laws.OwnMore
import Derived.Maps.AppendAt
namespace Go.Proofs.Ytbiihiibebdjgaa
open Go.RowKit

/-- In the world w the value v is a slice that holds the numbers l. -/
def IsInts (w : World) (v : Value) (l : List Int) : Prop :=
  ∃ a cap, v = .slice a l.length cap ∧ l.length ≤ cap ∧ cap ≤ maxLen ∧ (∀ t ∈ l, Em5.I64 t) ∧ ∀ j t, l[j]? = some t → ∃ ad, a = some ad ∧ w.cell? (ad.add j) = some (.int .i64 t)
abbrev ints (l : List Int) : List Value := l.map fun t => Value.int .i64 t
/-- Numbers in a row of memory that begins at block B or behind it. -/
def OwnInts (w : World) (B : Nat) (v : Value) (l : List Int) : Prop := w.ownsRow B 3 1 v l.length (ints l)
theorem infoInt : (Try.prog.info? 3).map (fun i => (i.zero, i.size, i.bytes)) = some (some (.int .i64 0), 1, 8) := by kernel_rfl

theorem IsInts.len {w : World} {v : Value} {l : List Int} (h : IsInts w v l) : l.length ≤ 9223372036854775807 := by
  obtain ⟨a, cap, -, h1, h2, -⟩ := h; unfold maxLen at h2; omega
theorem IsInts.i64 {w : World} {v : Value} {l : List Int} (h : IsInts w v l) : ∀ t ∈ l, Em5.I64 t := by
  obtain ⟨a, cap, -, -, -, h, -⟩ := h; exact h
theorem IsInts.below {w w' : World} {v : Value} {l : List Int} (h : IsInts w v l) (hb : Below w.heap.size w w') : IsInts w' v l := by
  obtain ⟨a, cap, rfl, h1, h2, h4, hc⟩ := h
  refine ⟨a, cap, rfl, h1, h2, h4, fun j t hj => ?_⟩
  obtain ⟨ad, rfl, hcj⟩ := hc j t hj
  exact ⟨ad, rfl, by rw [hb.cell (Em.cell_lt hcj)]; exact hcj⟩
theorem IsInts.plain {w : World} {v : Value} {l : List Int} (h : IsInts w v l) (hp : 0 < l.length) :
    ∃ b off cap, v = .slice (some ⟨b, off, none⟩) l.length cap ∧ l.length ≤ cap ∧ cap ≤ maxLen ∧ b < w.heap.size ∧ ∀ j t, l[j]? = some t → w.cell? ⟨b, off + j, none⟩ = some (.int .i64 t) := by
  obtain ⟨a, cap, rfl, h1, h2, -, hc⟩ := h
  obtain ⟨ad, rfl, hc0⟩ := hc 0 _ (List.getElem?_eq_getElem hp)
  obtain ⟨b, off, spot⟩ := ad
  have hspot : spot = none := by simpa [Addr.add] using World.cell?_spot hc0
  subst hspot
  refine ⟨b, off, cap, rfl, h1, h2, by simpa [Addr.add] using Em.cell_lt hc0, fun j t hj => ?_⟩
  obtain ⟨ad, had, hcj⟩ := hc j t hj
  cases had
  rw [← hcj]
  unfold Addr.add
  split
  · rename_i h0; subst h0; rfl
  · rfl
theorem IsInts.empty {w : World} {v : Value} (h : IsInts w v []) : ∃ a cap, v = .slice a 0 cap := by
  obtain ⟨a, cap, rfl, -⟩ := h; exact ⟨a, cap, rfl⟩
theorem OwnInts.nil (w : World) (B : Nat) : OwnInts w B (.slice none 0 0) [] := World.ownsRow_nil w B 3 1
theorem OwnInts.is {w : World} {B : Nat} {v : Value} {l : List Int} (h : OwnInts w B v l) (ht : ∀ t ∈ l, Em5.I64 t) : IsInts w v l := by
  have h' : w.ownsRow B 3 1 v l.length (ints l) := h
  rcases h.2 with ⟨h1, h2⟩ | ⟨g, cap, cur, rfl, hg, hh, h3, h4, h5, h6⟩
  · have : l = [] := List.length_eq_zero_iff.1 h2
    subst this
    rw [h1]; exact ⟨none, 0, rfl, by simp, by simp [maxLen], by simp, by simp⟩
  · refine ⟨some ⟨g, 0, none⟩, cap, rfl, h3, h4, ht, fun j t hj => ⟨_, rfl, ?_⟩⟩
    exact h'.cells (g := g) rfl j _ (by simp [hj])
theorem OwnInts.below {w w' : World} {B : Nat} {v : Value} {l : List Int} (h : OwnInts w B v l) (hb : Below w.heap.size w w') : OwnInts w' B v l := by
  have hlt := World.ownsRow.lt h
  refine ⟨h.1, ?_⟩
  rcases h.2 with h1 | ⟨g, gc, cur, h1, h2, h3, h4⟩
  · exact .inl h1
  · refine .inr ⟨g, gc, cur, h1, h2, ?_, h4⟩
    rw [hb.block g (hlt g (by rw [h1]; rfl)).2]
    exact h3
theorem OwnInts.base {w : World} {B B' : Nat} {v : Value} {l : List Int} (h : OwnInts w B v l) (hb : B' ≤ B) : OwnInts w B' v l :=
  ⟨h.1, h.2.elim .inl (fun ⟨g, cap, cur, hv, hg, r⟩ => .inr ⟨g, cap, cur, hv, Nat.le_trans hb hg, r⟩)⟩
theorem OwnInts.form {w : World} {B : Nat} {v : Value} {l : List Int} (h : OwnInts w B v l) : ∃ a c, v = .slice a l.length c := by
  rcases h.2 with ⟨h1, h2⟩ | ⟨g, gc, cur, h1, -⟩
  · exact ⟨none, 0, by rw [h1, h2]⟩
  · exact ⟨_, _, h1⟩

/-- From w to w' only the row of v was written, and memory made; v' is that row, or a new one. -/
def Grew (w w' : World) (v v' : Value) : Prop := w.grownBy w' v.ownBlock ∧ (v'.ownBlock = v.ownBlock ∨ ∃ g, v'.ownBlock = some g ∧ w.heap.size ≤ g)
theorem grownBy_below {w w' : World} (hb : Below w.heap.size w w') (row : Option Nat) : w.grownBy w' row := ⟨hb.os, hb.tape, hb.output, hb.size, fun k hk _ => hb.block k hk⟩
theorem Grew.of_below {w w' : World} {v : Value} (hb : Below w.heap.size w w') : Grew w w' v v := ⟨grownBy_below hb _, .inl rfl⟩
theorem Grew.trans {w w1 w2 : World} {v v1 v2 : Value} (h : Grew w w1 v v1) (k : Grew w1 w2 v1 v2) : Grew w w2 v v2 := by
  obtain ⟨g, hv⟩ := h
  obtain ⟨g', hv'⟩ := k
  refine ⟨⟨g'.os.trans g.os, g'.tape.trans g.tape, g'.output.trans g.output, Nat.le_trans g.size g'.size, fun b hb hne => ?_⟩, ?_⟩
  · rw [g'.block b (Nat.lt_of_lt_of_le hb g.size) ?_, g.block b hb hne]
    rcases hv with e | ⟨q, e, hq⟩
    · rw [e]; exact hne
    · rw [e]; intro e2; cases e2; omega
  · rcases hv' with e | ⟨q, e, hq⟩
    · rw [e]; exact hv
    · exact .inr ⟨q, e, Nat.le_trans g.size hq⟩
theorem Grew.cell {w w' : World} {v v' : Value} (h : Grew w w' v v') {a : Addr} {x : Value} (hc : w.cell? a = some x) (hne : some a.block ≠ v.ownBlock) : w'.cell? a = some x := h.1.cell hc hne
theorem Grew.below {w w' : World} {v v' : Value} {B : Nat} {l : List Int} (h : Grew w w' v v') (ho : OwnInts w B v l) (hB : B ≤ w.heap.size) : Below B w w' :=
  (Below.refl _ _).grown h.1 hB (fun k hk => (World.ownsRow.lt ho k hk).1)

theorem cells_one (w : World) (t : TypeId) {g : Nat} (hg : g = w.heap.size) (a : Value) : ∀ j u, [a][j]? = some u → (w.alloc (.cells #[a] t)).cell? ((⟨g, 0, none⟩ : Addr).add j) = some u := by
  subst hg
  intro j u hj
  match j, hj with
  | 0, hj => simpa [Addr.add] using hj
/-- 'append(l, n)' onto numbers of one's own. -/
theorem wpList_app_int {w : World} {ops : Array Oper} {rest : List Oper} {o : Oper} {a : Act} {Q : Exit → Act → World → Prop} (hgd : o.guard = none) (s x : Operand)
    (ho : o.op = .call { callee := .builtin .append, args := #[s, x], argTypes := #[29, 29] })
    (B : Nat) (v : Value) (l : List Int) (hs : a.eval s = v) (hown : OwnInts w B v l) (n : Int) (g : Nat) (hg : g = w.heap.size)
    (hx : a.eval x = .slice (some ⟨g, 0, none⟩) 1 1) (hsz : l.length ≤ 8796093022208) (hb : B ≤ w.heap.size)
    (h : ∀ v' w', OwnInts w' B v' (l ++ [n]) → Grew w w' v v' → wpList Try.prog ops Q rest (a.put o.dst v') w') :
    wpList Try.prog ops Q (o :: rest) a (w.alloc (.cells #[.int .i64 n] 3)) := by
  obtain ⟨i0, hi, hz0, hz1, hz2⟩ := info_parts infoInt
  have ho2 : (w.alloc (.cells #[.int .i64 n] 3)).ownsRow B 3 1 v l.length (ints l) := World.ownsRow.alloc hown _
  refine wpList_append_own_at _ hgd s x 29 ho B 3 i0 _ 1 8 Try.underlying29 hi hz0 hz1 hz2 rfl (by decide) v _ _ hs ho2 ⟨g, 0, none⟩ 1 1 [.int .i64 n] hx rfl (cells_one w _ hg _) (by intro u hu; simp only [List.mem_cons, List.not_mem_nil, or_false] at hu; subst hu; rfl) (by unfold maxLen; omega) (by omega) (by simp; omega) ?_
  intro v' w' h2 h3 _ h5
  refine h v' w' ?_ ?_
  · unfold OwnInts
    simpa using h2
  · have k1 : Grew w (w.alloc (.cells #[.int .i64 n] 3)) v v := Grew.of_below ((Below.refl _ _).alloc (Nat.le_refl _) _)
    refine k1.trans ⟨h3, ?_⟩
    rcases h5 with e | e
    · exact .inl e
    · exact .inr ⟨_, e, Nat.le_refl _⟩
end Go.Proofs.Ytbiihiibebdjgaa

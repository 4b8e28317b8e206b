/- Rows of memory whose elements take two cells each: the pairs, the visits, the copyings of package unify. -/
import Derived.Test.YtadhjnbhcenocaaUfB
namespace Go.Proofs.Ytadhjnbhcenocaa
open Go.RowKit Go.Em8 Go.Em9
set_option linter.unusedSimpArgs false
set_option linter.unusedVariables false

def flat2 (l : List (Value × Value)) : List Value := l.flatMap fun x => [x.1, x.2]
theorem flat2_len (l : List (Value × Value)) : (flat2 l).length = l.length * 2 := by
  induction l with
  | nil => rfl
  | cons x r ih => simp only [flat2, List.flatMap_cons, List.length_append, List.length_cons, List.length_nil] at ih ⊢; omega
theorem flat2_app (l m : List (Value × Value)) : flat2 (l ++ m) = flat2 l ++ flat2 m := by simp [flat2]
theorem flat2_get : ∀ (l : List (Value × Value)) (j : Nat) (x : Value × Value), l[j]? = some x → (flat2 l)[j * 2]? = some x.1 ∧ (flat2 l)[j * 2 + 1]? = some x.2
  | [], _, _, h => by simp at h
  | y :: r, 0, x, h => by simp at h; subst h; simp [flat2]
  | y :: r, j + 1, x, h => by
    have e : flat2 (y :: r) = y.1 :: y.2 :: flat2 r := rfl
    obtain ⟨h1, h2⟩ := flat2_get r j x (by simpa using h)
    rw [e, show (j + 1) * 2 = j * 2 + 2 by omega]
    exact ⟨by simpa using h1, by simpa using h2⟩
/-- A row of a call's own, at block B or behind it. -/
def OwnTwo (e : TypeId) (w : World) (B : Nat) (v : Value) (l : List (Value × Value)) : Prop := w.ownsRow B e 2 v l.length (flat2 l)
theorem OwnTwo.form {e : TypeId} {w : World} {B : Nat} {v : Value} {l : List (Value × Value)} (h : OwnTwo e w B v l) : ∃ a c, v = .slice a l.length c := by
  rcases h.2 with ⟨h1, h2⟩ | ⟨g, gc, cur, h1, -⟩
  · exact ⟨none, 0, by rw [h1, h2]⟩
  · exact ⟨_, _, h1⟩
theorem OwnTwo.lt {e : TypeId} {w : World} {B : Nat} {v : Value} {l : List (Value × Value)} (h : OwnTwo e w B v l) {k : Nat} (hk : some k = v.ownBlock) : B ≤ k ∧ k < w.heap.size := World.ownsRow.lt h k hk.symm
theorem OwnTwo.keep {e : TypeId} {w w' : World} {B : Nat} {v : Value} {l : List (Value × Value)} (h : OwnTwo e w B v l) (hb : ∀ b, some b = v.ownBlock → w'.heap[b]? = w.heap[b]?) : OwnTwo e w' B v l := by
  refine ⟨h.1, ?_⟩
  rcases h.2 with h1 | ⟨g, gc, cur, h1, h2, h3, h4⟩
  · exact .inl h1
  · exact .inr ⟨g, gc, cur, h1, h2, by rw [hb g (by rw [h1]; rfl)]; exact h3, h4⟩
theorem OwnTwo.below {e : TypeId} {w w' : World} {B : Nat} {v : Value} {l : List (Value × Value)} (h : OwnTwo e w B v l) (hb : Below w.heap.size w w') : OwnTwo e w' B v l := h.keep fun b hk => hb.block b (h.lt hk).2
/-- One element, written out. -/
theorem ownTwo_lit (e : TypeId) (w : World) (c0 c1 : Value) {g : Nat} (hg : g = w.heap.size) : OwnTwo e (w.alloc (.cells #[c0, c1] e)) w.heap.size (.slice (some ⟨g, 0, none⟩) 1 1) [(c0, c1)] := by
  subst hg
  exact ⟨rfl, .inr ⟨w.heap.size, 1, #[c0, c1], rfl, Nat.le_refl _, heap_alloc_new w _, Nat.le_refl _, by unfold maxLen; omega, rfl, rfl⟩⟩
/-- The last element is taken off. -/
theorem OwnTwo.pop {e : TypeId} {w : World} {B : Nat} {a : Option Addr} {c n m : Nat} {l : List (Value × Value)} {x : Value × Value} (h : OwnTwo e w B (.slice a n c) (l ++ [x])) (hm : m = l.length) : OwnTwo e w B (.slice a m c) l := by
  subst hm
  have hn : n = l.length + 1 := by obtain ⟨_, _, e2⟩ := h.form; injection e2 with _ e2; simpa using e2
  subst hn
  rcases h.2 with ⟨h1, h2⟩ | ⟨g, gc, cur, h1, h2, h3, h4, h5, h6, h7⟩
  · simp at h2
  · injection h1 with e1 e2 e3
    subst e1; subst e3
    refine ⟨flat2_len l, .inr ⟨g, c, cur, rfl, h2, h3, by omega, h5, h6, ?_⟩⟩
    have e1 := congrArg (List.take (l.length * 2)) h7
    rw [List.take_take, flat2_app] at e1
    simp only [List.length_append, List.length_cons, List.length_nil] at e1
    rw [show min (l.length * 2) ((l.length + (0 + 1)) * 2) = l.length * 2 by omega] at e1
    rw [e1, ← flat2_len l]
    exact List.take_left
/-- What stands in it. -/
theorem OwnTwo.get {e : TypeId} {w : World} {B : Nat} {a : Option Addr} {c n : Nat} {l : List (Value × Value)} (h : OwnTwo e w B (.slice a n c) l) : n = l.length ∧ l.length ≤ c ∧ c ≤ maxLen ∧ (0 < l.length → ∃ g, a = some ⟨g, 0, none⟩ ∧ B ≤ g ∧ g < w.heap.size ∧ ∀ j x, l[j]? = some x → w.cell? ⟨g, j * 2, none⟩ = some x.1 ∧ w.cell? ⟨g, j * 2 + 1, none⟩ = some x.2) := by
  rcases h.2 with ⟨h1, h2⟩ | ⟨g, cap, cur, h1, hg, hh, h3, h4, h5, h6⟩
  · cases h1
    exact ⟨h2.symm, by omega, by unfold maxLen; omega, fun hp => by omega⟩
  · cases h1
    refine ⟨rfl, h3, h4, fun _ => ⟨g, rfl, hg, heap_lt9 hh, fun j x hj => ?_⟩⟩
    obtain ⟨e1, e2⟩ := flat2_get l j x hj
    have fix : ∀ k, (⟨g, 0, none⟩ : Addr).add k = ⟨g, k, none⟩ := fun k => by
      unfold Addr.add
      split
      · rename_i h0; subst h0; rfl
      · simp
    have h1 := World.ownsRow.cells h (g := g) rfl (j * 2) _ e1
    have h2 := World.ownsRow.cells h (g := g) rfl (j * 2 + 1) _ e2
    rw [fix] at h1 h2
    exact ⟨h1, h2⟩
/-- e is a type of two cells, sixteen bytes; t the slices of it. -/
def TwoRow (e t : TypeId) : Prop := Try.prog.underlying t = some (.slice e) ∧ ∃ z : Value, (Try.prog.info? e).map (fun i => (i.zero, i.size, i.bytes)) = some (some z, 2, 16) ∧ z.cells.size = 2
theorem twoPairs : TwoRow 67 68 := ⟨Try.underlying68, .agg #[.pointer none, .pointer none], by kernel_rfl, rfl⟩
theorem twoVisits : TwoRow 72 73 := ⟨Try.underlying73, .agg #[.pointer none, .bool false], by kernel_rfl, rfl⟩
theorem twoCopies : TwoRow 79 80 := ⟨Try.underlying80, .agg #[.pointer none, .pointer none], by kernel_rfl, rfl⟩
theorem cells_two (w : World) (t : TypeId) {g : Nat} (hg : g = w.heap.size) (a b : Value) : ∀ j u, [a, b][j]? = some u → (w.alloc (.cells #[a, b] t)).cell? ((⟨g, 0, none⟩ : Addr).add j) = some u := by
  subst hg
  intro j u hj
  match j, hj with
  | 0, hj => simpa [Addr.add] using hj
  | 1, hj => simpa [Addr.add] using hj
  | j + 2, hj => simp at hj
theorem run_app_two {e t : TypeId} (ht : TwoRow e t) {w : World} (B : Nat) (v : Value) (l : List (Value × Value)) (hown : OwnTwo e w B v l) (c0 c1 : Value) (h0 : c0.oneCell' = true) (h1 : c1.oneCell' = true) (g : Nat) (hg : g = w.heap.size) (hsz : l.length ≤ 1000000) (hb : B ≤ w.heap.size) (ty : TypeId) :
    ∃ v' w', (Builtin.append_ #[t, t] ty #[v, .slice (some ⟨g, 0, none⟩) 1 1]).run Try.prog (w.alloc (.cells #[c0, c1] e)) = .ok v' w' ∧ OwnTwo e w' B v' (l ++ [(c0, c1)]) ∧ Grew w w' v v' := by
  obtain ⟨hu, z, hi0, hzs⟩ := ht
  obtain ⟨i0, hi, hz0, hz1, hz2⟩ := info_parts hi0
  have ho2 : (w.alloc (.cells #[c0, c1] e)).ownsRow B e 2 v l.length (flat2 l) := World.ownsRow.alloc hown _
  obtain ⟨v', w', hr, h2, h3, -, h5⟩ := run_append_own_at (P := Try.prog) (w.alloc (.cells #[c0, c1] e)) B t ty e i0 z 2 16 hu hi hz0 hz1 hz2 hzs (by decide) v _ _ ho2 ⟨g, 0, none⟩ 1 1 [c0, c1] rfl (cells_two w _ hg _ _) (by intro u hu; simp only [List.mem_cons, List.not_mem_nil, or_false] at hu; rcases hu with rfl | rfl <;> assumption) (by unfold maxLen; omega) (by omega) (by simp; omega)
  refine ⟨v', w', hr, ?_, ?_⟩
  · unfold OwnTwo
    rw [flat2_app]
    simpa [flat2] using h2
  · have k1 : Grew w (w.alloc (.cells #[c0, c1] e)) v v := Grew.of_below ((Below.refl _ _).alloc (Nat.le_refl _) _)
    refine k1.trans ⟨h3, ?_⟩
    rcases h5 with e | e
    · exact .inl e
    · exact .inr ⟨_, e, by simp⟩
theorem wp_app_two {e t : TypeId} (ht : TwoRow e t) {w : World} {o : Oper} {a : Act} {K : Act → World → Prop} {Q : Exit → Act → World → Prop} (s x : Operand) (ho : o.op = .call { callee := .builtin .append, args := #[s, x], argTypes := #[t, t] })
    (B : Nat) (v : Value) (l : List (Value × Value)) (hs : a.eval s = v) (hown : OwnTwo e w B v l) (c0 c1 : Value) (h0 : c0.oneCell' = true) (h1 : c1.oneCell' = true) (g : Nat) (hg : g = w.heap.size) (hx : a.eval x = .slice (some ⟨g, 0, none⟩) 1 1) (hsz : l.length ≤ 1000000) (hb : B ≤ w.heap.size)
    (h : ∀ v' w', OwnTwo e w' B v' (l ++ [(c0, c1)]) → Grew w w' v v' → K (a.put o.dst v') w') : o.wp Try.prog a (w.alloc (.cells #[c0, c1] e)) K Q := by
  obtain ⟨v', w', hr, h2, h3⟩ := run_app_two ht B v l hown c0 c1 h0 h1 g hg hsz hb o.type
  unfold Oper.wp execOp
  simp only [ho, resolve, invoke, builtin, Sem.run_bind, Sem.run_pure, Result.andThen_ok, List.map_toArray, List.map_cons, List.map_nil, hs, hx, hr]
  exact h v' w' h2 h3
theorem wpList_app_two {e t : TypeId} (ht : TwoRow e t) {w : World} {ops : Array Oper} {rest : List Oper} {o : Oper} {a : Act} {Q : Exit → Act → World → Prop} (hgd : o.guard = none) (s x : Operand) (ho : o.op = .call { callee := .builtin .append, args := #[s, x], argTypes := #[t, t] })
    (B : Nat) (v : Value) (l : List (Value × Value)) (hs : a.eval s = v) (hown : OwnTwo e w B v l) (c0 c1 : Value) (h0 : c0.oneCell' = true) (h1 : c1.oneCell' = true) (g : Nat) (hg : g = w.heap.size) (hx : a.eval x = .slice (some ⟨g, 0, none⟩) 1 1) (hsz : l.length ≤ 1000000) (hb : B ≤ w.heap.size)
    (h : ∀ v' w', OwnTwo e w' B v' (l ++ [(c0, c1)]) → Grew w w' v v' → wpList Try.prog ops Q rest (a.put o.dst v') w') : wpList Try.prog ops Q (o :: rest) a (w.alloc (.cells #[c0, c1] e)) :=
  wpList_plain hgd fun _ hK => wp_app_two ht s x ho B v l hs hown c0 c1 h0 h1 g hg hx hsz hb fun v' w' h2 h3 => hK _ _ (h v' w' h2 h3)
theorem step_app_two {e t : TypeId} (ht : TwoRow e t) {w : World} {ops : Array Oper} {o : Oper} {a : Act} {K : Act → World → Prop} {Q : Exit → Act → World → Prop} {E : Prop} (hgd : o.guard = none) (s x : Operand) (ho : o.op = .call { callee := .builtin .append, args := #[s, x], argTypes := #[t, t] })
    (B : Nat) (v : Value) (l : List (Value × Value)) (hs : a.eval s = v) (hown : OwnTwo e w B v l) (c0 c1 : Value) (h0 : c0.oneCell' = true) (h1 : c1.oneCell' = true) (g : Nat) (hg : g = w.heap.size) (hx : a.eval x = .slice (some ⟨g, 0, none⟩) 1 1) (hsz : l.length ≤ 1000000) (hb : B ≤ w.heap.size)
    (h : ∀ v' w', OwnTwo e w' B v' (l ++ [(c0, c1)]) → Grew w w' v v' → K (a.put o.dst v') w') : if Region.wanted o (yielded ops a.tmps) = true then Oper.wp Try.prog o a (w.alloc (.cells #[c0, c1] e)) K Q else E := by
  have hw : Region.wanted o (yielded ops a.tmps) = true := by simp [Region.wanted, hgd]
  rw [if_pos hw]
  exact wp_app_two ht s x ho B v l hs hown c0 c1 h0 h1 g hg hx hsz hb h
end Go.Proofs.Ytadhjnbhcenocaa

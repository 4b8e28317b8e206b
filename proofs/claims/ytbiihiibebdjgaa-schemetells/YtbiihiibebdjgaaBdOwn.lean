/- Rows of bounds of a call's own: 'append(l, b...)' (package scheme's laws). -/
import Derived.Test.YtbiihiibebdjgaaFrameBd
import Derived.Test.YtbiihiibebdjgaaRSchA
import Derived.Laws.OwnMore
import Derived.RangeFuncRecord
namespace Go.Proofs.Ytbiihiibebdjgaa
open Go.RowKit Go.Em8
set_option linter.unusedSimpArgs false
set_option linter.unusedVariables false

/-- The five cells of a bound. -/
abbrev C5 := Value × Value × Value × Value × Value
def flat5 (l : List C5) : List Value := l.flatMap fun c => [c.1, c.2.1, c.2.2.1, c.2.2.2.1, c.2.2.2.2]
theorem flat5_len (l : List C5) : (flat5 l).length = l.length * 5 := by
  induction l with
  | nil => rfl
  | cons c r ih => simp only [flat5, List.flatMap_cons, List.length_append, List.length_cons, List.length_nil] at ih ⊢; omega
theorem flat5_app (l m : List C5) : flat5 (l ++ m) = flat5 l ++ flat5 m := by simp [flat5]
theorem flat5_get : ∀ (l : List C5) (j : Nat) (c : C5), l[j]? = some c → (flat5 l)[j * 5]? = some c.1 ∧ (flat5 l)[j * 5 + 1]? = some c.2.1 ∧ (flat5 l)[j * 5 + 2]? = some c.2.2.1 ∧ (flat5 l)[j * 5 + 3]? = some c.2.2.2.1 ∧ (flat5 l)[j * 5 + 4]? = some c.2.2.2.2
  | [], _, _, h => by simp at h
  | y :: r, 0, c, h => by simp at h; subst h; simp [flat5]
  | y :: r, j + 1, c, h => by
    have e : flat5 (y :: r) = y.1 :: y.2.1 :: y.2.2.1 :: y.2.2.2.1 :: y.2.2.2.2 :: flat5 r := rfl
    obtain ⟨h0, h1, h2, h3, h4⟩ := flat5_get r j c (by simpa using h)
    rw [e, show (j + 1) * 5 = j * 5 + 5 by omega]
    exact ⟨by simpa using h0, by simpa using h1, by simpa using h2, by simpa using h3, by simpa using h4⟩
theorem flat5_at (l : List C5) (k : Nat) (x : Value) (h : (flat5 l)[k]? = some x) : ∃ c, l[k / 5]? = some c ∧ ((k % 5 = 0 ∧ x = c.1) ∨ (k % 5 = 1 ∧ x = c.2.1) ∨ (k % 5 = 2 ∧ x = c.2.2.1) ∨ (k % 5 = 3 ∧ x = c.2.2.2.1) ∨ (k % 5 = 4 ∧ x = c.2.2.2.2)) := by
  have hk := (List.getElem?_eq_some_iff.1 h).1
  rw [flat5_len] at hk
  have hj : k / 5 < l.length := by omega
  refine ⟨l[k / 5], List.getElem?_eq_getElem hj, ?_⟩
  obtain ⟨h0, h1, h2, h3, h4⟩ := flat5_get l (k / 5) _ (List.getElem?_eq_getElem hj)
  have hm : k % 5 = 0 ∨ k % 5 = 1 ∨ k % 5 = 2 ∨ k % 5 = 3 ∨ k % 5 = 4 := by omega
  rcases hm with e | e | e | e | e
  · rw [show k / 5 * 5 = k by omega, h] at h0; exact .inl ⟨e, Option.some.inj h0⟩
  · rw [show k / 5 * 5 + 1 = k by omega, h] at h1; exact .inr (.inl ⟨e, Option.some.inj h1⟩)
  · rw [show k / 5 * 5 + 2 = k by omega, h] at h2; exact .inr (.inr (.inl ⟨e, Option.some.inj h2⟩))
  · rw [show k / 5 * 5 + 3 = k by omega, h] at h3; exact .inr (.inr (.inr (.inl ⟨e, Option.some.inj h3⟩)))
  · rw [show k / 5 * 5 + 4 = k by omega, h] at h4; exact .inr (.inr (.inr (.inr ⟨e, Option.some.inj h4⟩)))

theorem infoBd : (Try.prog.info? 41).map (fun i => (i.zero, i.size, i.bytes)) = some (some (.agg #[.string ⟨#[]⟩, .slice none 0 0, .string ⟨#[]⟩, .int .i64 0, .slice none 0 0]), 5, 88) := by kernel_rfl

/-- Bounds in a row of a call's own. -/
def OwnBds (w : World) (B : Nat) (v : Value) (cs : List C5) : Prop := w.ownsRow B 41 5 v cs.length (flat5 cs)
/-- The cells are those bounds. -/
def BdsAre (w : World) (cs : List C5) (l : List Bd) : Prop := cs.length = l.length ∧ ∀ (j : Nat) (c : C5) (x : Bd), cs[j]? = some c → l[j]? = some x → IsBd w x c.1 c.2.1 c.2.2.1 c.2.2.2.1 c.2.2.2.2
/-- Bounds that may be appended. -/
def SrcBds (w : World) (u : Value) (cs : List C5) : Prop := ∃ a cap, u = .slice a cs.length cap ∧ (a = none → cs = []) ∧ (∀ ad, a = some ad → ∀ k x, (flat5 cs)[k]? = some x → w.cell? (ad.add k) = some x) ∧ ∀ x ∈ flat5 cs, x.oneCell' = true
theorem SrcBds.below {w w' : World} {u : Value} {cs : List C5} (h : SrcBds w u cs) (hb : Below w.heap.size w w') : SrcBds w' u cs := by
  obtain ⟨a, cap, e, h1, h2, h3⟩ := h
  refine ⟨a, cap, e, h1, fun ad ha k x hk => ?_, h3⟩
  have hc := h2 ad ha k x hk
  exact (hb.cell (Em.cell_lt hc)).trans hc
theorem BdsAre.below {w w' : World} {cs : List C5} {l : List Bd} (h : BdsAre w cs l) (hb : Below w.heap.size w w') : BdsAre w' cs l := ⟨h.1, fun j c x hc hx => (h.2 j c x hc hx).below hb⟩
theorem BdsAre.app {w : World} {cs : List C5} {l : List Bd} (h : BdsAre w cs l) {c : C5} {x : Bd} (hx : IsBd w x c.1 c.2.1 c.2.2.1 c.2.2.2.1 c.2.2.2.2) : BdsAre w (cs ++ [c]) (l ++ [x]) := by
  refine ⟨by simp [h.1], fun j c' x' hc' hx' => ?_⟩
  by_cases hj : j < cs.length
  · rw [List.getElem?_append_left hj] at hc'
    rw [List.getElem?_append_left (by have := h.1; omega)] at hx'
    exact h.2 j c' x' hc' hx'
  · have hl := h.1
    have hj2 : j < (cs ++ [c]).length := (List.getElem?_eq_some_iff.1 hc').1
    have hje : j = cs.length := by simp at hj2; omega
    subst hje
    rw [List.getElem?_append_right (Nat.le_refl _)] at hc'
    rw [List.getElem?_append_right (by omega), ← hl] at hx'
    simp at hc' hx'
    subst hc' hx'
    exact hx
theorem isBd_one {w : World} {x : Bd} {c0 c1 c2 c3 c4 : Value} (h : IsBd w x c0 c1 c2 c3 c4) : ∀ u ∈ [c0, c1, c2, c3, c4], u.oneCell' = true := by
  obtain ⟨rfl, -, ⟨a, cap, rfl, -⟩, h4⟩ := h
  obtain ⟨s, n, ka, kl, kc, e⟩ := isTyP_form (isTy_isP _ _ h4)
  simp only [Value.agg.injEq, Array.mk.injEq, List.cons.injEq, and_true] at e
  obtain ⟨rfl, rfl, rfl⟩ := e
  intro u hu
  simp only [List.mem_cons, List.not_mem_nil, or_false] at hu
  rcases hu with rfl | rfl | rfl | rfl | rfl <;> rfl
theorem BdsAre.one {w : World} {cs : List C5} {l : List Bd} (h : BdsAre w cs l) : ∀ x ∈ flat5 cs, x.oneCell' = true := by
  intro x hx
  obtain ⟨k, hk, he⟩ := List.mem_iff_getElem.1 hx
  obtain ⟨c, hc, hcase⟩ := flat5_at cs k x (by rw [List.getElem?_eq_getElem hk, he])
  have hl := (List.getElem?_eq_some_iff.1 hc).1
  have ho := isBd_one (h.2 _ c _ hc (List.getElem?_eq_getElem (by have := h.1; omega)))
  rcases hcase with ⟨-, rfl⟩ | ⟨-, rfl⟩ | ⟨-, rfl⟩ | ⟨-, rfl⟩ | ⟨-, rfl⟩ <;> exact ho _ (by simp)
theorem IsBds.src {w : World} {u : Value} {l : List Bd} (h : IsBds w u l) : ∃ cs, SrcBds w u cs ∧ BdsAre w cs l := by
  obtain ⟨a, cap, rfl, h1, h2, h3⟩ := h
  by_cases hp : 0 < l.length
  · obtain ⟨b, off, rfl, hb, hk⟩ := h3 hp
    have key : ∀ j : Nat, ∃ c : C5, ∀ x, l[j]? = some x → w.cell? ⟨b, off + j * 5, none⟩ = some c.1 ∧ w.cell? ⟨b, off + j * 5 + 1, none⟩ = some c.2.1 ∧ w.cell? ⟨b, off + j * 5 + 2, none⟩ = some c.2.2.1 ∧ w.cell? ⟨b, off + j * 5 + 3, none⟩ = some c.2.2.2.1 ∧ w.cell? ⟨b, off + j * 5 + 4, none⟩ = some c.2.2.2.2 ∧ IsBd w x c.1 c.2.1 c.2.2.1 c.2.2.2.1 c.2.2.2.2 := fun j => by
      cases hj : l[j]? with
      | none => exact ⟨(undef, undef, undef, undef, undef), by simp⟩
      | some y =>
        obtain ⟨c0, c1, c2, c3, c4, g⟩ := hk j y hj
        exact ⟨(c0, c1, c2, c3, c4), fun x e => by cases e; exact g⟩
    let f : Nat → C5 := fun j => (key j).choose
    have hf : ∀ j x, l[j]? = some x → _ := fun j x hx => (key j).choose_spec x hx
    have hare : BdsAre w ((List.range l.length).map f) l := by
      refine ⟨by simp, fun j c x hc hx => ?_⟩
      have hj := (List.getElem?_eq_some_iff.1 hx).1
      simp [hj] at hc
      subst hc
      exact (hf j x hx).2.2.2.2.2
    refine ⟨(List.range l.length).map f, ⟨some ⟨b, off, none⟩, cap, by simp, (fun e => by cases e), fun ad e k x hx => ?_, hare.one⟩, hare⟩
    cases e
    obtain ⟨c, hc, hcase⟩ := flat5_at _ k x hx
    have hj : k / 5 < l.length := by have := (List.getElem?_eq_some_iff.1 hc).1; simpa using this
    simp [hj] at hc
    subst hc
    obtain ⟨k0, k1, k2, k3, k4, -⟩ := hf (k / 5) _ (List.getElem?_eq_getElem hj)
    have fix : (⟨b, off, none⟩ : Addr).add k = ⟨b, off + k, none⟩ := by
      unfold Addr.add
      split
      · rename_i h; subst h; rfl
      · rfl
    rw [fix]
    rcases hcase with ⟨e, rfl⟩ | ⟨e, rfl⟩ | ⟨e, rfl⟩ | ⟨e, rfl⟩ | ⟨e, rfl⟩
    · rw [show off + k = off + k / 5 * 5 by omega]; exact k0
    · rw [show off + k = off + k / 5 * 5 + 1 by omega]; exact k1
    · rw [show off + k = off + k / 5 * 5 + 2 by omega]; exact k2
    · rw [show off + k = off + k / 5 * 5 + 3 by omega]; exact k3
    · rw [show off + k = off + k / 5 * 5 + 4 by omega]; exact k4
  · have hl : l = [] := List.length_eq_zero_iff.1 (by omega)
    subst hl
    exact ⟨[], ⟨a, cap, rfl, fun _ => rfl, by simp [flat5], by simp [flat5]⟩, rfl, by simp⟩
theorem OwnBds.is {w : World} {B : Nat} {v : Value} {cs : List C5} {l : List Bd} (h : OwnBds w B v cs) (ha : BdsAre w cs l) : IsBds w v l := by
  have h' : w.ownsRow B 41 5 v cs.length (flat5 cs) := h
  have hl := ha.1
  rcases h'.2 with ⟨h1, h2⟩ | ⟨g, cap, cur, rfl, hg, hh, h3, h4, h5, h6⟩
  · have : l = [] := List.length_eq_zero_iff.1 (by omega)
    subst this
    rw [h1]; exact IsBds.nil w
  · refine ⟨some ⟨g, 0, none⟩, cap, by rw [hl], by omega, by unfold maxLen at h4; omega, fun hp => ⟨g, 0, rfl, (Array.getElem?_eq_some_iff.1 hh).1, fun j x hx => ?_⟩⟩
    have hj := (List.getElem?_eq_some_iff.1 hx).1
    obtain ⟨c, hc⟩ : ∃ c, cs[j]? = some c := ⟨_, List.getElem?_eq_getElem (by omega)⟩
    obtain ⟨e0, e1, e2, e3, e4⟩ := flat5_get cs j c hc
    have key : ∀ k u, (flat5 cs)[k]? = some u → w.cell? ⟨g, 0 + k, none⟩ = some u := fun k u hk => by
      have := World.ownsRow.cells h' (g := g) rfl k u hk
      unfold Addr.add at this
      split at this
      · rename_i h; subst h; exact this
      · exact this
    exact ⟨c.1, c.2.1, c.2.2.1, c.2.2.2.1, c.2.2.2.2, key _ _ e0, key _ _ e1, key _ _ e2, key _ _ e3, key _ _ e4, ha.2 j c x hc hx⟩
theorem own_empty5 (X : World) {B : Nat} (hB : B ≤ X.heap.size) : OwnBds (X.alloc (.cells #[] 41)) B (.slice (some ⟨X.heap.size, 0, none⟩) 0 0) [] :=
  ⟨rfl, .inr ⟨X.heap.size, 0, #[], rfl, hB, World.alloc_heap_new X _, Nat.le_refl _, by simp [maxLen], rfl, rfl⟩⟩
theorem src_one5 {X : World} {g : Nat} {c0 c1 c2 c3 c4 : Value} {t : TypeId} (h : X.heap[g]? = some (.cells #[c0, c1, c2, c3, c4] t (0, 0))) (ho : ∀ u ∈ [c0, c1, c2, c3, c4], u.oneCell' = true) : SrcBds X (.slice (some ⟨g, 0, none⟩) 1 1) [(c0, c1, c2, c3, c4)] := by
  refine ⟨some ⟨g, 0, none⟩, 1, rfl, (fun e => by cases e), fun ad e k x hk => ?_, ho⟩
  cases e
  have hf : flat5 [(c0, c1, c2, c3, c4)] = [c0, c1, c2, c3, c4] := rfl
  rw [hf] at hk
  match k, hk with
  | 0, hk => simp at hk; subst hk; simp [Addr.add, World.cell?, h]
  | 1, hk => simp at hk; subst hk; simp [Addr.add, World.cell?, h]
  | 2, hk => simp at hk; subst hk; simp [Addr.add, World.cell?, h]
  | 3, hk => simp at hk; subst hk; simp [Addr.add, World.cell?, h]
  | 4, hk => simp at hk; subst hk; simp [Addr.add, World.cell?, h]
  | k + 5, hk => simp at hk
theorem run_app_nil5 {w : World} (base : Nat) (t ty e : TypeId) (i : TypeInfo) (size : Nat) (ht : Try.prog.underlying t = some (.slice e)) (hi : Try.prog.info? e = some i)
    (v : Value) (n : Nat) (xs : List Value) (hown : w.ownsRow base e size v n xs) (c : Nat) :
    (Builtin.append_ #[t, t] ty #[v, .slice none 0 c]).run Try.prog w = .ok v w := by
  rcases hown.2 with ⟨rfl, rfl⟩ | ⟨g, cap, cur, rfl, _, _, hnc, _⟩
  · simp [Builtin.append_, run_underlying ht, sizeOf, typeInfo, hi, Builtin.lenOf, Builtin.firstCells]
  · simp [Builtin.append_, run_underlying ht, sizeOf, typeInfo, hi, Builtin.lenOf, Builtin.firstCells, hnc, storeCells]
theorem run_app_bds {w : World} (B : Nat) (v : Value) (cs : List C5) (hown : OwnBds w B v cs) (u : Value) (ds : List C5) (hu : SrcBds w u ds) (hsz : cs.length + ds.length ≤ 100000) (hb : B ≤ w.heap.size) (ty : TypeId) :
    ∃ v' w', (Builtin.append_ #[22, 22] ty #[v, u]).run Try.prog w = .ok v' w' ∧ OwnBds w' B v' (cs ++ ds) ∧ w.grownBy w' v.ownBlock ∧ (v'.ownBlock = v.ownBlock ∨ v'.ownBlock = some w.heap.size) ∧ Below B w w' := by
  obtain ⟨i0, hi, hz0, hz1, hz2⟩ := info_parts infoBd
  have hown' : w.ownsRow B 41 5 v cs.length (flat5 cs) := hown
  obtain ⟨ua, cap, rfl, h1, h2, h3⟩ := hu
  cases ua with
  | none =>
    have hr := h1 rfl
    subst hr
    exact ⟨v, w, run_app_nil5 B 22 ty 41 i0 5 Try.underlying22 hi v _ _ hown' cap, by simpa using hown, ⟨rfl, rfl, rfl, Nat.le_refl _, fun _ _ _ => rfl⟩, .inl rfl, Below.refl _ _⟩
  | some ad =>
    obtain ⟨v', w', k1, k2, k3, -, k5⟩ := run_append_own_at (P := Try.prog) w B 22 ty 41 i0 _ 5 88 Try.underlying22 hi hz0 hz1 hz2 rfl (by decide) v cs.length (flat5 cs) hown' ad ds.length cap (flat5 ds) (flat5_len ds) (h2 ad rfl) h3 (by unfold maxLen; omega) (by omega) hb
    refine ⟨v', w', k1, ?_, k3, k5, (Below.refl _ _).grown k3 hb (fun k hk => (World.ownsRow.lt hown' k hk).1)⟩
    unfold OwnBds
    rw [flat5_app, List.length_append]
    exact k2
theorem step_app_bds {w : World} {ops : Array Oper} {o : Oper} {a : Act} {K : Act → World → Prop} {Q : Exit → Act → World → Prop} {E : Prop} (hgd : o.guard = none) (s x : Operand) (ho : o.op = .call { callee := .builtin .append, args := #[s, x], argTypes := #[22, 22] })
    (B : Nat) (v : Value) (cs : List C5) (hs : a.eval s = v) (hown : OwnBds w B v cs) (u : Value) (ds : List C5) (hx : a.eval x = u) (hu : SrcBds w u ds) (hsz : cs.length + ds.length ≤ 100000) (hb : B ≤ w.heap.size)
    (h : ∀ v' w', OwnBds w' B v' (cs ++ ds) → w.grownBy w' v.ownBlock → (v'.ownBlock = v.ownBlock ∨ v'.ownBlock = some w.heap.size) → Below B w w' → K (a.put o.dst v') w') : if Region.wanted o (yielded ops a.tmps) = true then Oper.wp Try.prog o a w K Q else E := by
  have hw : Region.wanted o (yielded ops a.tmps) = true := by simp [Region.wanted, hgd]
  rw [if_pos hw]
  obtain ⟨v', w', hr, h2, h3, h4, h5⟩ := run_app_bds B v cs hown u ds hu hsz hb o.type
  unfold Oper.wp execOp
  simp only [ho, resolve, invoke, builtin, Sem.run_bind, Sem.run_pure, Result.andThen_ok, List.map_toArray, List.map_cons, List.map_nil, hs, hx, hr]
  exact h v' w' h2 h3 h4 h5
/-- A box stays where another row is written. -/
theorem OwnBds.ne {x : World} {B g : Nat} {v : Value} {cs : List C5} {c : Array Value} (h : OwnBds x B v cs) (hg : x.heap[g]? = some (.cells c 31 (0, 0))) : some g ≠ v.ownBlock := by
  intro e
  have h' : x.ownsRow B 41 5 v cs.length (flat5 cs) := h
  rcases h'.2 with ⟨rfl, -⟩ | ⟨g', cap, cur, rfl, -, hh, -⟩
  · cases e
  · cases e
    rw [hg] at hh
    simp at hh
theorem OwnBds.below {w w' : World} {B : Nat} {v : Value} {cs : List C5} (h : OwnBds w B v cs) (hb : Below w.heap.size w w') : OwnBds w' B v cs := by
  have hlt := World.ownsRow.lt (show w.ownsRow B 41 5 v cs.length (flat5 cs) from h)
  refine ⟨h.1, ?_⟩
  rcases h.2 with h1 | ⟨g, gc, cur, h1, h2, h3, h4⟩
  · exact .inl h1
  · refine .inr ⟨g, gc, cur, h1, h2, ?_, h4⟩
    rw [hb.block g (hlt g (by rw [h1]; rfl)).2]
    exact h3
theorem OwnBds.form {w : World} {B : Nat} {v : Value} {cs : List C5} (h : OwnBds w B v cs) : ∃ a k c, v = .slice a k c := by
  rcases h.2 with ⟨h1, h2⟩ | ⟨g, gc, cur, h1, -⟩
  · exact ⟨none, 0, 0, h1⟩
  · exact ⟨_, _, _, h1⟩
end Go.Proofs.Ytbiihiibebdjgaa

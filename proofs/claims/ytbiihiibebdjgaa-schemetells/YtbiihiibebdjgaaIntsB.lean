/- 'append(l, r...)' of ints. -/
import Derived.Test.YtbiihiibebdjgaaInts
import Derived.Laws.AppendOwnNone
import Derived.Laws.OwnMore
namespace Go.Proofs.Ytbiihiibebdjgaa
open Go.RowKit
set_option linter.unusedSimpArgs false

/-- Ints that may be appended: nil has no room. -/
def SrcInts (w : World) (u : Value) (r : List Int) : Prop := IsInts w u r ∧ ∀ n c, u = .slice none n c → c = 0
theorem SrcInts.below {w w' : World} {u : Value} {r : List Int} (h : SrcInts w u r) (hb : Below w.heap.size w w') : SrcInts w' u r := ⟨h.1.below hb, h.2⟩
theorem OwnInts.src {w : World} {B : Nat} {u : Value} {r : List Int} (h : OwnInts w B u r) (hi : ∀ t ∈ r, Em5.I64 t) : SrcInts w u r := by
  refine ⟨h.is hi, fun n c e => ?_⟩
  subst e
  rcases h.2 with ⟨h1, -⟩ | ⟨g, cap, cur, h1, -⟩
  · cases h1; rfl
  · cases h1
theorem run_app_ints {w : World} (B : Nat) (v : Value) (l : List Int) (hown : OwnInts w B v l) (u : Value) (r : List Int) (hu : SrcInts w u r) (hsz : l.length + r.length ≤ 8796093022208) (hb : B ≤ w.heap.size) (ty : TypeId) :
    ∃ v' w', (Builtin.append_ #[29, 29] ty #[v, u]).run Try.prog w = .ok v' w' ∧ OwnInts w' B v' (l ++ r) ∧ w.grownBy w' v.ownBlock ∧ (v'.ownBlock = v.ownBlock ∨ v'.ownBlock = some w.heap.size) ∧ Below B w w' := by
  obtain ⟨i0, hi, hz0, hz1, hz2⟩ := info_parts infoInt
  have hown' : w.ownsRow B 3 1 v l.length (ints l) := hown
  obtain ⟨⟨ua, cap, rfl, h1, h2, h3, h4⟩, h5⟩ := hu
  cases ua with
  | none =>
    have hr : r = [] := by
      cases r with
      | nil => rfl
      | cons x r => obtain ⟨ad, e, -⟩ := h4 0 x rfl; cases e
    subst hr
    have hc := h5 _ _ rfl
    subst hc
    exact ⟨v, w, run_append_owned_none (P := Try.prog) (w := w) B 29 ty 3 i0 1 Try.underlying29 hi v _ _ hown', by simpa using hown, ⟨rfl, rfl, rfl, Nat.le_refl _, fun _ _ _ => rfl⟩, .inl rfl, Below.refl _ _⟩
  | some ad =>
    obtain ⟨v', w', k1, k2, k3, -, k5⟩ := run_append_own_at (P := Try.prog) w B 29 ty 3 i0 (.int .i64 0) 1 8 Try.underlying29 hi hz0 hz1 hz2 rfl (by decide) v l.length (ints l) hown' ad r.length cap (ints r) (by simp) (by
        intro j x hj
        have hjl : j < r.length := by have := (List.getElem?_eq_some_iff.1 hj).1; simpa using this
        obtain ⟨ad', had, hcj⟩ := h4 j _ (List.getElem?_eq_getElem hjl)
        cases had
        rw [hcj]
        simp [List.getElem?_eq_getElem hjl] at hj
        rw [hj]) (by intro x hx; simp only [List.mem_map] at hx; obtain ⟨t, -, rfl⟩ := hx; rfl) (by unfold maxLen; omega) (by omega) hb
    refine ⟨v', w', k1, ?_, k3, k5, (Below.refl _ _).grown k3 hb (fun k hk => (World.ownsRow.lt hown' k hk).1)⟩
    unfold OwnInts
    simpa using k2
theorem wp_app_ints {w : World} {o : Oper} {a : Act} {K : Act → World → Prop} {Q : Exit → Act → World → Prop} (s x : Operand) (ho : o.op = .call { callee := .builtin .append, args := #[s, x], argTypes := #[29, 29] })
    (B : Nat) (v : Value) (l : List Int) (hs : a.eval s = v) (hown : OwnInts w B v l) (u : Value) (r : List Int) (hx : a.eval x = u) (hu : SrcInts w u r) (hsz : l.length + r.length ≤ 8796093022208) (hb : B ≤ w.heap.size)
    (h : ∀ v' w', OwnInts w' B v' (l ++ r) → w.grownBy w' v.ownBlock → (v'.ownBlock = v.ownBlock ∨ v'.ownBlock = some w.heap.size) → Below B w w' → K (a.put o.dst v') w') : o.wp Try.prog a w K Q := by
  obtain ⟨v', w', hr, h2, h3, h4, h5⟩ := run_app_ints B v l hown u r hu hsz hb o.type
  unfold Oper.wp execOp
  simp only [ho, resolve, invoke, builtin, Sem.run_bind, Sem.run_pure, Result.andThen_ok, List.map_toArray, List.map_cons, List.map_nil, hs, hx, hr]
  exact h v' w' h2 h3 h4 h5
theorem wpList_app_ints {w : World} {ops : Array Oper} {rest : List Oper} {o : Oper} {a : Act} {Q : Exit → Act → World → Prop} (hgd : o.guard = none) (s x : Operand) (ho : o.op = .call { callee := .builtin .append, args := #[s, x], argTypes := #[29, 29] })
    (B : Nat) (v : Value) (l : List Int) (hs : a.eval s = v) (hown : OwnInts w B v l) (u : Value) (r : List Int) (hx : a.eval x = u) (hu : SrcInts w u r) (hsz : l.length + r.length ≤ 8796093022208) (hb : B ≤ w.heap.size)
    (h : ∀ v' w', OwnInts w' B v' (l ++ r) → w.grownBy w' v.ownBlock → (v'.ownBlock = v.ownBlock ∨ v'.ownBlock = some w.heap.size) → Below B w w' → wpList Try.prog ops Q rest (a.put o.dst v') w') : wpList Try.prog ops Q (o :: rest) a w :=
  wpList_plain hgd fun _ hK => wp_app_ints s x ho B v l hs hown u r hx hu hsz hb fun v' w' h2 h3 h4 h5 => hK _ _ (h v' w' h2 h3 h4 h5)
theorem step_app_ints {w : World} {ops : Array Oper} {o : Oper} {a : Act} {K : Act → World → Prop} {Q : Exit → Act → World → Prop} {E : Prop} (hgd : o.guard = none) (s x : Operand) (ho : o.op = .call { callee := .builtin .append, args := #[s, x], argTypes := #[29, 29] })
    (B : Nat) (v : Value) (l : List Int) (hs : a.eval s = v) (hown : OwnInts w B v l) (u : Value) (r : List Int) (hx : a.eval x = u) (hu : SrcInts w u r) (hsz : l.length + r.length ≤ 8796093022208) (hb : B ≤ w.heap.size)
    (h : ∀ v' w', OwnInts w' B v' (l ++ r) → w.grownBy w' v.ownBlock → (v'.ownBlock = v.ownBlock ∨ v'.ownBlock = some w.heap.size) → Below B w w' → K (a.put o.dst v') w') : if Region.wanted o (yielded ops a.tmps) = true then Oper.wp Try.prog o a w K Q else E := by
  have hw : Region.wanted o (yielded ops a.tmps) = true := by simp [Region.wanted, hgd]
  rw [if_pos hw]
  exact wp_app_ints s x ho B v l hs hown u r hx hu hsz hb h
end Go.Proofs.Ytbiihiibebdjgaa

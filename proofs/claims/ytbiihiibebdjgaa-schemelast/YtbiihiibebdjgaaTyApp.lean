/- Rows of types of a call's own: 'append(l, t)'; what becomes of them where other memory is written. -/
import Derived.Test.YtbiihiibebdjgaaProg
import Derived.Test.YtbiihiibebdjgaaTyOwn
import Derived.Test.YtbiihiibebdjgaaInts
namespace Go.Proofs.Ytbiihiibebdjgaa
open Go.RowKit Go.Em8
set_option linter.unusedSimpArgs false

theorem infoTy : (Try.prog.info? 25).map (fun i => (i.zero, i.size, i.bytes)) = some (some (.agg #[.string ⟨#[]⟩, .int .i64 0, .slice none 0 0]), 3, 48) := by kernel_rfl
/-- A slice of types. -/
def IsTys (w : World) (v : Value) (l : List Ty) : Prop :=
  ∃ a cap, v = .slice a l.length cap ∧ l.length ≤ cap ∧ cap ≤ 9223372036854775807 ∧ (0 < l.length → ∃ b off, a = some ⟨b, off, none⟩ ∧ b < w.heap.size ∧ TysAt w b off l)
theorem IsTys.nil (w : World) : IsTys w (.slice none 0 0) [] := ⟨none, 0, rfl, by simp, by simp, by simp⟩
theorem IsTys.below {w w' : World} {v : Value} {l : List Ty} (h : IsTys w v l) (hb : Below w.heap.size w w') : IsTys w' v l := by
  obtain ⟨a, cap, rfl, h1, h2, h3⟩ := h
  refine ⟨a, cap, rfl, h1, h2, fun hp => ?_⟩
  obtain ⟨b, off, e, hlt, hk⟩ := h3 hp
  refine ⟨b, off, e, Nat.lt_of_lt_of_le hlt hb.size, tysAt_mk l off fun j t hj => ?_⟩
  obtain ⟨c0, c1, c2, k0, k1, k2, kn⟩ := tysAt_get l off j t hk hj
  have key : ∀ o, w'.cell? ⟨b, o, none⟩ = w.cell? ⟨b, o, none⟩ := fun o => hb.cell (p := ⟨b, o, none⟩) hlt
  exact ⟨c0, c1, c2, by rw [key]; exact k0, by rw [key]; exact k1, by rw [key]; exact k2, isTy_below hb t _ kn⟩
/-- Such a slice as the kids of a type, and back. -/
theorem IsTys.mk {w : World} {a : Option Addr} {n cap : Nat} {l : List Ty} (h : IsTys w (.slice a n cap) l) {op : List Int} {m : Int} (ho : Em5.Txt op) (hm : Em5.I64 m) : IsTy w (.mk op m l) (.agg #[.string (Em.str op), .int .i64 m, .slice a n cap]) := by
  obtain ⟨a', c', e, h1, h2, h3⟩ := h
  cases e
  unfold IsTy
  exact ⟨a, cap, rfl, ho, hm, h1, h2, h3⟩
/-- A slice of types, with a word on the blocks that they lie in. -/
def IsTysP (Q : Nat → Prop) (w : World) (v : Value) (l : List Ty) : Prop :=
  ∃ a cap, v = .slice a l.length cap ∧ l.length ≤ cap ∧ cap ≤ 9223372036854775807 ∧ (0 < l.length → ∃ b off, a = some ⟨b, off, none⟩ ∧ b < w.heap.size ∧ TysAtP Q w b off l)
theorem IsTys.isP {w : World} {v : Value} {l : List Ty} (h : IsTys w v l) : IsTysP (fun b => b < w.heap.size) w v l := by
  obtain ⟨a, cap, e, h1, h2, h3⟩ := h
  refine ⟨a, cap, e, h1, h2, fun hp => ?_⟩
  obtain ⟨b, off, e, hlt, hk⟩ := h3 hp
  refine ⟨b, off, e, hlt, tysAtP_mk l off fun j t hj => ?_⟩
  obtain ⟨c0, c1, c2, k0, k1, k2, kn⟩ := tysAt_get l off j t hk hj
  exact ⟨c0, c1, c2, k0, k1, k2, isTy_isP t _ kn⟩
theorem IsTysP.wide {Q R : Nat → Prop} {w : World} {v : Value} {l : List Ty} (h : IsTysP Q w v l) (hq : ∀ b, Q b → b < w.heap.size → R b) : IsTysP R w v l := by
  obtain ⟨a, cap, e, h1, h2, h3⟩ := h
  refine ⟨a, cap, e, h1, h2, fun hp => ?_⟩
  obtain ⟨b, off, e, hlt, hk⟩ := h3 hp
  refine ⟨b, off, e, hlt, tysAtP_mk l off fun j t hj => ?_⟩
  obtain ⟨c0, c1, c2, k0, k1, k2, kn⟩ := tysAtP_get l off j t hk hj
  exact ⟨c0, c1, c2, k0, k1, k2, isTyP_wide kn hq⟩
/-- A row of a call's own is a slice of types. -/
theorem ownTys_isP {P : Nat → Prop} {e : TypeId} {w : World} {B : Nat} {v : Value} {l : List Ty} (h : OwnTys P e w B v l) : IsTysP P w v l := by
  obtain ⟨cs, hcs, hown, hel⟩ := h
  rcases hown.2 with ⟨h1, h2⟩ | ⟨g, c, cur, h1, -, -, h3, h4, -, -⟩
  · have hl : l = [] := List.length_eq_zero_iff.1 h2
    subst hl
    exact ⟨none, 0, h1, by simp, by simp, by simp⟩
  · unfold maxLen at h4
    subst h1
    refine ⟨_, c, rfl, h3, by omega, fun hp => ⟨g, 0, rfl, (World.ownsRow.lt hown g rfl).2, tysAtP_mk l 0 fun j t hj => ?_⟩⟩
    have hjl := (List.getElem?_eq_some_iff.1 hj).1
    obtain ⟨x, hx⟩ : ∃ x, cs[j]? = some x := ⟨_, List.getElem?_eq_getElem (by omega)⟩
    obtain ⟨e1, e2, e3⟩ := flat3_get cs j x hx
    have hc := fun k u (hk : (flat3 cs)[k]? = some u) => World.ownsRow.cells hown (g := g) rfl k u hk
    have fix : ∀ k, (⟨g, 0, none⟩ : Addr).add k = ⟨g, 0 + k, none⟩ := fun k => by
      unfold Addr.add
      split
      · rename_i h0; subst h0; rfl
      · rfl
    refine ⟨x.1, x.2.1, x.2.2, ?_, ?_, ?_, isTyP_wide (hel j t x hj hx) fun b hb _ => hb.1⟩
    · have := hc _ _ e1; rw [fix] at this; exact this
    · have := hc _ _ e2; rw [fix] at this; exact this
    · have := hc _ _ e3; rw [fix] at this; exact this
theorem ownTys_form {P : Nat → Prop} {e : TypeId} {w : World} {B : Nat} {v : Value} {l : List Ty} (h : OwnTys P e w B v l) : ∃ a c, v = .slice a l.length c ∧ l.length ≤ c ∧ c ≤ 9223372036854775807 := by
  obtain ⟨cs, -, hown, -⟩ := h
  rcases hown.2 with ⟨h1, h2⟩ | ⟨g, gc, cur, h1, -, -, h3, h4, -⟩
  · exact ⟨none, 0, by rw [h1, h2], by omega, by omega⟩
  · unfold maxLen at h4; exact ⟨_, _, h1, h3, by omega⟩
theorem ownTys_keep {P : Nat → Prop} {e : TypeId} {w w' : World} {B : Nat} {v : Value} {l : List Ty} (h : OwnTys P e w B v l) (hs : w.heap.size ≤ w'.heap.size) (hb : ∀ b, (P b ∨ B ≤ b) → b < w.heap.size → w'.heap[b]? = w.heap[b]?) : OwnTys P e w' B v l := by
  obtain ⟨cs, hcs, hown, hel⟩ := h
  refine ⟨cs, hcs, ⟨hown.1, ?_⟩, fun j t c hj hc => isTyP_keep hs (fun b hp hl => ⟨hb b (.inl hp.1) hl, hp⟩) t _ (hel j t c hj hc)⟩
  rcases hown.2 with h1 | ⟨g, gc, cur, h1, h2, h3, h4⟩
  · exact .inl h1
  · refine .inr ⟨g, gc, cur, h1, h2, ?_, h4⟩
    have hlt := World.ownsRow.lt hown g (by rw [h1]; rfl)
    rw [hb g (.inr h2) hlt.2]; exact h3
theorem ownTys_below {P : Nat → Prop} {e : TypeId} {w w' : World} {B : Nat} {v : Value} {l : List Ty} (h : OwnTys P e w B v l) (hb : Below w.heap.size w w') : OwnTys P e w' B v l := ownTys_keep h hb.size (fun b _ hl => hb.block b hl)
/-- A cell of a block that is none of theirs is written. -/
theorem ownTys_set {P : Nat → Prop} {e : TypeId} {w : World} {B : Nat} {v : Value} {l : List Ty} (h : OwnTys P e w B v l) (g o : Nat) (x : Value) (hg : g < B) (hP : ¬ P g) : OwnTys P e (w.setCell ⟨g, o, none⟩ x) B v l :=
  ownTys_keep h (by rw [World.size_setCell]; exact Nat.le_refl _) (fun b hb _ => Below.heap_setCell _ _ _ _ (by rintro rfl; rcases hb with hb | hb; exact hP hb; exact absurd hb (by simp; omega)))

theorem cells_three (w : World) (t : TypeId) {g : Nat} (hg : g = w.heap.size) (a b c : Value) : ∀ j u, [a, b, c][j]? = some u → (w.alloc (.cells #[a, b, c] t)).cell? ((⟨g, 0, none⟩ : Addr).add j) = some u := by
  subst hg
  intro j u hj
  match j, hj with
  | 0, hj => simpa [Addr.add] using hj
  | 1, hj => simpa [Addr.add] using hj
  | 2, hj => simpa [Addr.add] using hj
  | j + 3, hj => simp at hj
theorem isTyP_form {P : Nat → Prop} {w : World} {t : Ty} {v : Value} (h : IsTyP P w t v) : ∃ op n a k cap, v = .agg #[.string op, .int .i64 n, .slice a k cap] := by
  obtain ⟨op, n, l⟩ := t
  unfold IsTyP at h
  obtain ⟨a, cap, rfl, -⟩ := h
  exact ⟨_, _, _, _, _, rfl⟩

/-- 'append(l, t)' onto types of one's own. -/
theorem run_app_ty {P : Nat → Prop} {w : World} (B : Nat) (v : Value) (l : List Ty) (hown : OwnTys P 25 w B v l) (t : Ty) (c0 c1 c2 : Value) (ht : IsTyP (fun b => P b ∧ some b ≠ v.ownBlock) w t (.agg #[c0, c1, c2]))
    (g : Nat) (hg : g = w.heap.size) (hsz : l.length ≤ 1000000) (hb : B ≤ w.heap.size) (ty : TypeId) :
    ∃ v' w', (Builtin.append_ #[23, 23] ty #[v, .slice (some ⟨g, 0, none⟩) 1 1]).run Try.prog (w.alloc (.cells #[c0, c1, c2] 25)) = .ok v' w' ∧ OwnTys P 25 w' B v' (l ++ [t]) ∧ Below B w w' := by
  obtain ⟨i0, hi, hz0, hz1, hz2⟩ := info_parts infoTy
  obtain ⟨cs, hcs, hrow, hel⟩ := hown
  have hrow2 : (w.alloc (.cells #[c0, c1, c2] 25)).ownsRow B 25 3 v l.length (flat3 cs) := World.ownsRow.alloc hrow _
  have hones : ∀ u ∈ [c0, c1, c2], u.oneCell' = true := by
    obtain ⟨op, n, a, k, cap, e⟩ := isTyP_form ht
    simp only [Value.agg.injEq, Array.mk.injEq, List.cons.injEq, and_true] at e
    obtain ⟨rfl, rfl, rfl⟩ := e
    intro u hu
    simp only [List.mem_cons, List.not_mem_nil, or_false] at hu
    rcases hu with rfl | rfl | rfl <;> rfl
  obtain ⟨v', w', hr, h2, h3, -, h5⟩ := run_append_own_at (P := Try.prog) _ B 23 ty 25 i0 _ 3 48 Try.underlying23 hi hz0 hz1 hz2 rfl (by decide) v _ _ hrow2 ⟨g, 0, none⟩ 1 1 [c0, c1, c2] rfl (cells_three w _ hg _ _ _) hones (by unfold maxLen; omega) (by omega) (by simp; omega)
  have hbel : Below B w w' := ((Below.refl _ _).alloc hb _).grown h3 (by simp; omega) (fun k hk => (World.ownsRow.lt hrow k hk).1)
  have keepE : ∀ (s : Ty) (u : Value), IsTyP (fun b => P b ∧ some b ≠ v.ownBlock) w s u → IsTyP (fun b => P b ∧ some b ≠ v'.ownBlock) w' s u := by
    intro s u hs
    refine isTyP_keep hbel.size (fun b hp hl => ⟨?_, hp.1, ?_⟩) s u hs
    · have e1 := h3.block b (by simp; omega) hp.2
      rw [e1]
      exact ((Below.refl w.heap.size w).alloc (Nat.le_refl _) _).block b hl
    · rcases h5 with e | e
      · rw [e]; exact hp.2
      · rw [e]; intro e2; simp at e2; omega
  refine ⟨v', w', hr, ⟨cs ++ [(c0, c1, c2)], by simp [hcs], ?_, fun j s c hj hc => ?_⟩, hbel⟩
  · rw [flat3_app]
    simpa [flat3] using h2
  · by_cases hjl : j < l.length
    · rw [List.getElem?_append_left hjl] at hj
      rw [List.getElem?_append_left (by omega)] at hc
      exact keepE s _ (hel j s c hj hc)
    · have hj2 : j < (l ++ [t]).length := (List.getElem?_eq_some_iff.1 hj).1
      have hje : j = l.length := by simp at hj2; omega
      subst hje
      rw [List.getElem?_append_right (Nat.le_refl _)] at hj
      rw [List.getElem?_append_right (by omega), hcs] at hc
      simp at hj hc
      subst hj; subst hc
      exact keepE _ _ ht
theorem wp_app_ty {P : Nat → Prop} {w : World} {o : Oper} {a : Act} {K : Act → World → Prop} {Q : Exit → Act → World → Prop} (s x : Operand) (ho : o.op = .call { callee := .builtin .append, args := #[s, x], argTypes := #[23, 23] })
    (B : Nat) (v : Value) (l : List Ty) (hs : a.eval s = v) (hown : OwnTys P 25 w B v l) (t : Ty) (c0 c1 c2 : Value) (ht : IsTyP (fun b => P b ∧ some b ≠ v.ownBlock) w t (.agg #[c0, c1, c2])) (g : Nat) (hg : g = w.heap.size) (hx : a.eval x = .slice (some ⟨g, 0, none⟩) 1 1) (hsz : l.length ≤ 1000000) (hb : B ≤ w.heap.size)
    (h : ∀ v' w', OwnTys P 25 w' B v' (l ++ [t]) → Below B w w' → K (a.put o.dst v') w') : o.wp Try.prog a (w.alloc (.cells #[c0, c1, c2] 25)) K Q := by
  obtain ⟨v', w', hr, h2, h3⟩ := run_app_ty B v l hown t c0 c1 c2 ht g hg hsz hb o.type
  unfold Oper.wp execOp
  simp only [ho, resolve, invoke, builtin, Sem.run_bind, Sem.run_pure, Result.andThen_ok, List.map_toArray, List.map_cons, List.map_nil, hs, hx, hr]
  exact h v' w' h2 h3
theorem wpList_app_ty {P : Nat → Prop} {w : World} {ops : Array Oper} {rest : List Oper} {o : Oper} {a : Act} {Q : Exit → Act → World → Prop} (hgd : o.guard = none) (s x : Operand) (ho : o.op = .call { callee := .builtin .append, args := #[s, x], argTypes := #[23, 23] })
    (B : Nat) (v : Value) (l : List Ty) (hs : a.eval s = v) (hown : OwnTys P 25 w B v l) (t : Ty) (c0 c1 c2 : Value) (ht : IsTyP (fun b => P b ∧ some b ≠ v.ownBlock) w t (.agg #[c0, c1, c2])) (g : Nat) (hg : g = w.heap.size) (hx : a.eval x = .slice (some ⟨g, 0, none⟩) 1 1) (hsz : l.length ≤ 1000000) (hb : B ≤ w.heap.size)
    (h : ∀ v' w', OwnTys P 25 w' B v' (l ++ [t]) → Below B w w' → wpList Try.prog ops Q rest (a.put o.dst v') w') : wpList Try.prog ops Q (o :: rest) a (w.alloc (.cells #[c0, c1, c2] 25)) :=
  wpList_plain hgd fun _ hK => wp_app_ty s x ho B v l hs hown t c0 c1 c2 ht g hg hx hsz hb fun v' w' h2 h3 => hK _ _ (h v' w' h2 h3)
theorem step_app_ty {P : Nat → Prop} {w : World} {ops : Array Oper} {o : Oper} {a : Act} {K : Act → World → Prop} {Q : Exit → Act → World → Prop} {E : Prop} (hgd : o.guard = none) (s x : Operand) (ho : o.op = .call { callee := .builtin .append, args := #[s, x], argTypes := #[23, 23] })
    (B : Nat) (v : Value) (l : List Ty) (hs : a.eval s = v) (hown : OwnTys P 25 w B v l) (t : Ty) (c0 c1 c2 : Value) (ht : IsTyP (fun b => P b ∧ some b ≠ v.ownBlock) w t (.agg #[c0, c1, c2])) (g : Nat) (hg : g = w.heap.size) (hx : a.eval x = .slice (some ⟨g, 0, none⟩) 1 1) (hsz : l.length ≤ 1000000) (hb : B ≤ w.heap.size)
    (h : ∀ v' w', OwnTys P 25 w' B v' (l ++ [t]) → Below B w w' → K (a.put o.dst v') w') : if Region.wanted o (yielded ops a.tmps) = true then Oper.wp Try.prog o a (w.alloc (.cells #[c0, c1, c2] 25)) K Q else E := by
  have hw : Region.wanted o (yielded ops a.tmps) = true := by simp [Region.wanted, hgd]
  rw [if_pos hw]
  exact wp_app_ty s x ho B v l hs hown t c0 c1 c2 ht g hg hx hsz hb h
end Go.Proofs.Ytbiihiibebdjgaa

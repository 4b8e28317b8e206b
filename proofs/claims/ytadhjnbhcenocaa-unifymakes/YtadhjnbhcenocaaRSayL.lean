/- How the two rows of a Sub grow, in whatever order. -/
import Derived.Test.YtadhjnbhcenocaaRSub
namespace Go.Proofs.Ytadhjnbhcenocaa
open Go.RowKit Go.Em8 Go.Em9
set_option linter.unusedSimpArgs false
set_option linter.unusedVariables false

theorem ownTys_keepPQ {P Q : Nat → Prop} {e : TypeId} {w w' : World} {B : Nat} {v : Value} {l : List Ty} (h : OwnTys P e w B v l) (hs : w.heap.size ≤ w'.heap.size) (hb : ∀ b, P b → b < w.heap.size → w'.heap[b]? = w.heap[b]? ∧ Q b) (hr : ∀ b, some b = v.ownBlock → w'.heap[b]? = w.heap[b]?) : OwnTys Q e w' B v l := by
  obtain ⟨cs, hcs, hown, hel⟩ := h
  refine ⟨cs, hcs, ⟨hown.1, ?_⟩, fun j t c hj hc => isTyP_keep hs (fun b hp hl => ⟨(hb b hp.1 hl).1, (hb b hp.1 hl).2, hp.2⟩) t _ (hel j t c hj hc)⟩
  rcases hown.2 with h1 | ⟨g, gc, cur, h1, h2, h3, h4⟩
  · exact .inl h1
  · refine .inr ⟨g, gc, cur, h1, h2, ?_, h4⟩
    rw [hr g (by rw [h1]; rfl)]; exact h3
theorem wp_cons {P : Program} {w w' : World} {o : Oper} {a : Act} {K : Act → World → Prop} {Q : Exit → Act → World → Prop} {ops : Array Oper} {E : Prop} (hgd : o.guard = none) (s x : Operand) (t : TypeId) (ho : o.op = .call { callee := .builtin .append, args := #[s, x], argTypes := #[t, t] }) (v y v' : Value) (hs : a.eval s = v) (hx : a.eval x = y)
    (hr : (Builtin.append_ #[t, t] o.type #[v, y]).run P w = .ok v' w') (h : K (a.put o.dst v') w') : if Region.wanted o (yielded ops a.tmps) = true then Oper.wp P o a w K Q else E := by
  have hw : Region.wanted o (yielded ops a.tmps) = true := by simp [Region.wanted, hgd]
  rw [if_pos hw]
  unfold Oper.wp execOp
  simp only [ho, resolve, invoke, builtin, Sem.run_bind, Sem.run_pure, Result.andThen_ok, List.map_toArray, List.map_cons, List.map_nil, hs, hx, hr]
  exact h
/-- A Sub between two worlds: its cells are as they were, its rows are being grown. -/
structure SayI (w X : World) (B : Nat) (Z : Nat → Prop) (sb : Nat) (vv tt v4 t4 : Value) (L1 : List Int) (L2 : List Ty) (N : Int) (T : Ty) (tv : Value) : Prop where
  c0 : X.cell? ⟨sb, 0, none⟩ = some vv
  c1 : X.cell? ⟨sb, 1, none⟩ = some tt
  c2 : X.cell? ⟨sb, 2, none⟩ = some (.int .i64 N)
  fz : ∀ o, X.frozen? ⟨sb, o, none⟩ = false
  own : OwnInts X B v4 L1
  tys : OwnTys (fun b => Z b ∧ b ≠ sb ∧ some b ≠ v4.ownBlock) 25 X B t4 L2
  nv : some sb ≠ v4.ownBlock
  nt : some sb ≠ t4.ownBlock
  vt : v4.ownBlock = none ∨ v4.ownBlock ≠ t4.ownBlock
  size : w.heap.size ≤ X.heap.size
  hB : B ≤ w.heap.size
  blk : ∀ k, k < w.heap.size → ¬ SubOf sb vv tt k → X.heap[k]? = w.heap[k]?
  bel : Below B w X
  vn : v4.ownBlock = vv.ownBlock ∨ ∃ g, v4.ownBlock = some g ∧ w.heap.size ≤ g
  tn : t4.ownBlock = tt.ownBlock ∨ ∃ g, t4.ownBlock = some g ∧ w.heap.size ≤ g
  sbl : sb < w.heap.size
  typ : IsTyP (fun b => Z b ∧ b ≠ sb ∧ some b ≠ v4.ownBlock ∧ some b ≠ t4.ownBlock) X T tv
theorem SayI.below {w X X' : World} {B : Nat} {Z : Nat → Prop} {sb : Nat} {vv tt v4 t4 : Value} {L1 : List Int} {L2 : List Ty} {N : Int} {T : Ty} {tv : Value} (h : SayI w X B Z sb vv tt v4 t4 L1 L2 N T tv) (hb : Below X.heap.size X X') : SayI w X' B Z sb vv tt v4 t4 L1 L2 N T tv := by
  have hl : sb < X.heap.size := Nat.lt_of_lt_of_le h.sbl h.size
  have key : ∀ o, X'.cell? ⟨sb, o, none⟩ = X.cell? ⟨sb, o, none⟩ := fun o => hb.cell (p := ⟨sb, o, none⟩) hl
  exact ⟨by rw [key]; exact h.c0, by rw [key]; exact h.c1, by rw [key]; exact h.c2, fun o => by rw [hb.frozen (p := ⟨sb, o, none⟩) hl]; exact h.fz o, h.own.below hb, ownTys_below h.tys hb, h.nv, h.nt, h.vt, Nat.le_trans h.size hb.size, h.hB,
    fun k hk hn => (hb.block k (Nat.lt_of_lt_of_le hk h.size)).trans (h.blk k hk hn), h.bel.trans (hb.mono (Nat.le_trans h.hB h.size)), h.vn, h.tn, h.sbl, isTyP_keep hb.size (fun b hp hl => ⟨hb.block b hl, hp⟩) _ _ h.typ⟩
theorem SayI.alloc {w X : World} {B : Nat} {Z : Nat → Prop} {sb : Nat} {vv tt v4 t4 : Value} {L1 : List Int} {L2 : List Ty} {N : Int} {T : Ty} {tv : Value} (h : SayI w X B Z sb vv tt v4 t4 L1 L2 N T tv) (o : Obj) : SayI w (X.alloc o) B Z sb vv tt v4 t4 L1 L2 N T tv := h.below ((Below.refl _ _).alloc (Nat.le_refl _) _)
theorem Sub9.say {w : World} {B : Nat} {Z : Nat → Prop} {sb : Nat} {vv tt : Value} {D : Said} {N : Int} (h : Sub9 w B Z sb vv tt D N) (hB : B ≤ w.heap.size) {T : Ty} {tv : Value} (ht : IsTyP (fun b => Z b ∧ ¬ SubOf sb vv tt b) w T tv) : SayI w w B Z sb vv tt vv tt (D.map (·.1)) (D.map (·.2)) N T tv :=
  ⟨h.c0, h.c1, h.c2, h.fz, h.own, h.tys, h.nv, h.nt, h.vt, Nat.le_refl _, hB, fun _ _ _ => rfl, Below.refl _ _, .inl rfl, .inl rfl, h.lt, isTyP_wide ht fun b hb _ => ⟨hb.1, fun e => hb.2 (.inl e), fun e => hb.2 (.inr (.inl e)), fun e => hb.2 (.inr (.inr e))⟩⟩
/-- 'append(s.V, n)'. -/
theorem SayI.appV {w X : World} {B : Nat} {Z : Nat → Prop} {sb : Nat} {vv tt v4 t4 : Value} {L1 : List Int} {L2 : List Ty} {N : Int} {T : Ty} {tv : Value} (h : SayI w X B Z sb vv tt v4 t4 L1 L2 N T tv) (n : Int) (g : Nat) (hg : X.cell? ⟨g, 0, none⟩ = some (.int .i64 n)) (hl : L1.length ≤ 1000000) (ty : TypeId) :
    ∃ v5 X', (Builtin.append_ #[32, 32] ty #[v4, .slice (some ⟨g, 0, none⟩) 1 1]).run Try.prog X = .ok v5 X' ∧ SayI w X' B Z sb vv tt v5 t4 (L1 ++ [n]) L2 N T tv ∧ X.grownBy X' v4.ownBlock := by
  obtain ⟨i0, hi, hz0, hz1, hz2⟩ := info_parts infoInt
  obtain ⟨v5, X', hr, h2, h3, -, h5⟩ := run_append_own_at (P := Try.prog) X B 32 ty 3 i0 _ 1 8 Try.underlying32 hi hz0 hz1 hz2 rfl (by decide) v4 _ _ h.own ⟨g, 0, none⟩ 1 1 [.int .i64 n] rfl (by
    intro j u hj
    match j, hj with
    | 0, hj => simp at hj; subst hj; simpa [Addr.add] using hg) (by intro u hu; simp only [List.mem_cons, List.not_mem_nil, or_false] at hu; subst hu; rfl) (by unfold maxLen; omega) (by omega) (Nat.le_trans h.hB h.size)
  have hl1 : sb < X.heap.size := Nat.lt_of_lt_of_le h.sbl h.size
  have hsb : X'.heap[sb]? = X.heap[sb]? := h3.block sb hl1 h.nv
  have key : ∀ o, X'.cell? ⟨sb, o, none⟩ = X.cell? ⟨sb, o, none⟩ := fun o => World.cell?_of_block (w := X) (a := ⟨sb, o, none⟩) hsb
  have hne : ∀ b, b < X.heap.size → some b ≠ v4.ownBlock → some b ≠ v5.ownBlock := fun b hb hn => by
    rcases h5 with e | e
    · rw [e]; exact hn
    · rw [e]; intro e2; simp at e2; omega
  refine ⟨v5, X', hr, ⟨by rw [key]; exact h.c0, by rw [key]; exact h.c1, by rw [key]; exact h.c2, fun o => by rw [World.frozen?_of_block (w := X) (a := ⟨sb, o, none⟩) hsb]; exact h.fz o, by unfold OwnInts; simpa using h2, ?_, hne sb hl1 h.nv, h.nt, ?_, Nat.le_trans h.size h3.size, h.hB, fun k hk hn => ?_, ?_, ?_, h.tn, h.sbl, ?_⟩, h3⟩
  · refine ownTys_keepPQ h.tys h3.size (fun b hp hl => ⟨h3.block b hl hp.2.2, hp.1, hp.2.1, hne b hl hp.2.2⟩) (fun b e => ?_)
    obtain ⟨cs, -, hrow, -⟩ := h.tys
    have hbl := (World.ownsRow.lt hrow b e.symm).2
    refine h3.block b hbl (fun e2 => ?_)
    rcases h.vt with e3 | e3
    · rw [e3] at e2; cases e2
    · exact e3 (e2.symm.trans e)
  · rcases h5 with e | e
    · rw [e]; exact h.vt
    · refine .inr (fun e2 => ?_)
      rw [e] at e2
      obtain ⟨cs, -, hrow, -⟩ := h.tys
      have := (World.ownsRow.lt hrow _ e2.symm).2
      omega
  · rw [h3.block k (Nat.lt_of_lt_of_le hk h.size) (fun e => ?_), h.blk k hk hn]
    rcases h.vn with e2 | ⟨q, e2, hq⟩
    · exact hn (.inr (.inl (by rw [e, e2])))
    · rw [e2] at e; cases e; omega
  · exact h.bel.grown h3 (Nat.le_trans h.hB h.size) (fun k hk => (World.ownsRow.lt h.own k hk).1)
  · rcases h5 with e | e
    · rw [e]; exact h.vn
    · exact .inr ⟨_, e, h.size⟩
  · exact isTyP_keep h3.size (fun b hp hl => ⟨h3.block b hl hp.2.2.1, hp.1, hp.2.1, hne b hl hp.2.2.1, hp.2.2.2⟩) _ _ h.typ
/-- 'append(s.T, t)'. -/
theorem SayI.appT {w X : World} {B : Nat} {Z : Nat → Prop} {sb : Nat} {vv tt v4 t4 : Value} {L1 : List Int} {L2 : List Ty} {N : Int} {T : Ty} {c0 c1 c2 : Value} (h : SayI w X B Z sb vv tt v4 t4 L1 L2 N T (.agg #[c0, c1, c2])) (g : Nat) (hg0 : X.cell? ⟨g, 0, none⟩ = some c0) (hg1 : X.cell? ⟨g, 1, none⟩ = some c1) (hg2 : X.cell? ⟨g, 2, none⟩ = some c2) (hl : L2.length ≤ 1000000) (ty : TypeId) :
    ∃ t5 X', (Builtin.append_ #[23, 23] ty #[t4, .slice (some ⟨g, 0, none⟩) 1 1]).run Try.prog X = .ok t5 X' ∧ (X'.cell? ⟨sb, 0, none⟩ = some vv ∧ X'.cell? ⟨sb, 1, none⟩ = some tt ∧ X'.cell? ⟨sb, 2, none⟩ = some (.int .i64 N) ∧ (∀ o, X'.frozen? ⟨sb, o, none⟩ = false)) ∧ OwnInts X' B v4 L1 ∧
      OwnTys (fun b => Z b ∧ b ≠ sb ∧ some b ≠ v4.ownBlock) 25 X' B t5 (L2 ++ [T]) ∧ some sb ≠ t5.ownBlock ∧ (v4.ownBlock = none ∨ v4.ownBlock ≠ t5.ownBlock) ∧ w.heap.size ≤ X'.heap.size ∧ (∀ k, k < w.heap.size → ¬ SubOf sb vv tt k → X'.heap[k]? = w.heap[k]?) ∧ Below B w X' ∧ (t5.ownBlock = tt.ownBlock ∨ ∃ g, t5.ownBlock = some g ∧ w.heap.size ≤ g) := by
  obtain ⟨i0, hi, hz0, hz1, hz2⟩ := info_parts infoTy
  obtain ⟨cs, hcs, hrow, hel⟩ := h.tys
  have hones : ∀ u ∈ [c0, c1, c2], u.oneCell' = true := by
    obtain ⟨op, n, a, k, cap, e⟩ := isTyP_form h.typ
    simp only [Value.agg.injEq, Array.mk.injEq, List.cons.injEq, and_true] at e
    obtain ⟨rfl, rfl, rfl⟩ := e
    intro u hu
    simp only [List.mem_cons, List.not_mem_nil, or_false] at hu
    rcases hu with rfl | rfl | rfl <;> rfl
  obtain ⟨t5, X', hr, h2, h3, -, h5⟩ := run_append_own_at (P := Try.prog) X B 23 ty 25 i0 _ 3 48 Try.underlying23 hi hz0 hz1 hz2 rfl (by decide) t4 _ _ hrow ⟨g, 0, none⟩ 1 1 [c0, c1, c2] rfl (by
    intro j u hj
    match j, hj with
    | 0, hj => simp at hj; subst hj; simpa [Addr.add] using hg0
    | 1, hj => simp at hj; subst hj; simpa [Addr.add] using hg1
    | 2, hj => simp at hj; subst hj; simpa [Addr.add] using hg2) hones (by unfold maxLen; omega) (by omega) (Nat.le_trans h.hB h.size)
  have hl1 : sb < X.heap.size := Nat.lt_of_lt_of_le h.sbl h.size
  have hsb : X'.heap[sb]? = X.heap[sb]? := h3.block sb hl1 h.nt
  have key : ∀ o, X'.cell? ⟨sb, o, none⟩ = X.cell? ⟨sb, o, none⟩ := fun o => World.cell?_of_block (w := X) (a := ⟨sb, o, none⟩) hsb
  have hne : ∀ b, b < X.heap.size → some b ≠ t4.ownBlock → some b ≠ t5.ownBlock := fun b hb hn => by
    rcases h5 with e | e
    · rw [e]; exact hn
    · rw [e]; intro e2; simp at e2; omega
  have hvt : ∀ b, some b = v4.ownBlock → some b ≠ t4.ownBlock := fun b e e2 => by
    rcases h.vt with e3 | e3
    · rw [e3] at e; cases e
    · exact e3 (e.symm.trans e2)
  refine ⟨t5, X', hr, ⟨by rw [key]; exact h.c0, by rw [key]; exact h.c1, by rw [key]; exact h.c2, fun o => by rw [World.frozen?_of_block (w := X) (a := ⟨sb, o, none⟩) hsb]; exact h.fz o⟩, ownInts_keepB h.own (fun b e => h3.block b (World.ownsRow.lt h.own b e.symm).2 (hvt b e)), ?_, hne sb hl1 h.nt, ?_, Nat.le_trans h.size h3.size, fun k hk hn => ?_, ?_, ?_⟩
  · refine ⟨cs ++ [(c0, c1, c2)], by simp [hcs], by rw [flat3_app]; simpa [flat3] using h2, fun j s c hj hc => ?_⟩
    by_cases hjl : j < L2.length
    · rw [List.getElem?_append_left hjl] at hj
      rw [List.getElem?_append_left (by omega)] at hc
      exact isTyP_keep h3.size (fun b hp hl => ⟨h3.block b hl hp.2, hp.1, hne b hl hp.2⟩) _ _ (hel j s c hj hc)
    · have hj2 : j < (L2 ++ [T]).length := (List.getElem?_eq_some_iff.1 hj).1
      have hje : j = L2.length := by simp at hj2; omega
      subst hje
      rw [List.getElem?_append_right (Nat.le_refl _)] at hj
      rw [List.getElem?_append_right (by omega), hcs] at hc
      simp at hj hc
      subst hj; subst hc
      exact isTyP_keep h3.size (fun b hp hl => ⟨h3.block b hl hp.2.2.2, ⟨hp.1, hp.2.1, hp.2.2.1⟩, hne b hl hp.2.2.2⟩) _ _ h.typ
  · rcases h5 with e | e
    · rw [e]; exact h.vt
    · refine .inr (fun e2 => ?_)
      rw [e] at e2
      have := (World.ownsRow.lt h.own _ e2).2
      omega
  · rw [h3.block k (Nat.lt_of_lt_of_le hk h.size) (fun e => ?_), h.blk k hk hn]
    rcases h.tn with e2 | ⟨q, e2, hq⟩
    · exact hn (.inr (.inr (by rw [e, e2])))
    · rw [e2] at e; cases e; omega
  · exact h.bel.grown h3 (Nat.le_trans h.hB h.size) (fun k hk => (World.ownsRow.lt hrow k hk).1)
  · rcases h5 with e | e
    · rw [e]; exact h.tn
    · exact .inr ⟨_, e, h.size⟩
end Go.Proofs.Ytadhjnbhcenocaa

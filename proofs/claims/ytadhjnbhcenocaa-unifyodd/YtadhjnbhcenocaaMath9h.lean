/- Two ends are joined, and what is to be joined then; till nothing is left. No program is named here. -/
import Derived.Test.YtadhjnbhcenocaaMath9g
namespace Go.Em9
open Go.RowKit Go.Em5 Go.Em8

/-- x leads to y. -/
def joinE (E : Nat → Nat) (x y : Nat) : Nat → Nat := fun b => if E b = x then y else E b
theorem joinE_pos {E : Nat → Nat} {x y b : Nat} (h : E b = x) : joinE E x y b = y := if_pos h
theorem joinE_neg {E : Nat → Nat} {x y b : Nat} (h : E b ≠ x) : joinE E x y b = E b := if_neg h
theorem joinE_E {E : Nat → Nat} (hi : ∀ b, E (E b) = E b) (x y b : Nat) : joinE E x y (E b) = joinE E x y b := by unfold joinE; rw [hi]

/-- What the attempt holds while it joins: S are the pairs that are left, J those that were joined. -/
structure Joins (F : Fo) (E0 E : Nat → Nat) (S : List (Nat × Nat)) (J : List Nat) (x0 y0 : Nat) : Prop where
  ends : EndOk F E
  mem : ∀ p ∈ S, p.1 ∈ F.L ∧ p.2 ∈ F.L
  sol : ∀ t, (Sol F E t ∧ ∀ p ∈ S, tsub t (F.ty p.1) = tsub t (F.ty p.2)) ↔ (Sol F E0 t ∧ tsub t (F.ty x0) = tsub t (F.ty y0))
  cong : ∀ b ∈ F.L, ∀ c ∈ F.L, E b = E c → ¬ F.var b → ¬ F.var c → (F.ty b).op = (F.ty c).op ∧ (F.ty b).n = (F.ty c).n ∧ (F.ks b).length = (F.ks c).length ∧
    ∀ f : Nat → Nat, (∀ b, f (E b) = f b) → (∀ p ∈ S, f p.1 = f p.2) → (F.ks b).map f = (F.ks c).map f
  root : ∀ f : Nat → Nat, (∀ b, f (E b) = f b) → (∀ p ∈ S, f p.1 = f p.2) → f x0 = f y0
  reach : ∀ P : Nat → Prop, (∀ b, P (E b) ↔ P b) → (∀ b ∈ F.L, P b → ∀ k ∈ F.ks b, P k) → P x0 → P y0 → (∀ p ∈ S, P p.1 ∧ P p.2) ∧ ∀ j ∈ J, P j
  moved : ∀ b, E b = E0 b ∨ E0 b ∈ J
  after : ∀ b, E (E0 b) = E b
  jmem : ∀ j ∈ J, j ∈ F.L

theorem Joins.start {F : Fo} {E : Nat → Nat} (hE : EndOk F E) (hC : Cong F E) {x y : Nat} (hx : x ∈ F.L) (hy : y ∈ F.L) : Joins F E E [(x, y)] [] x y := by
  refine ⟨hE, ?_, ?_, ?_, ?_, ?_, fun b => .inl rfl, hE.idem, by simp⟩
  · intro p hp
    simp only [List.mem_singleton] at hp
    subst hp; exact ⟨hx, hy⟩
  · intro t
    constructor
    · exact fun h => ⟨h.1, h.2 (x, y) (by simp)⟩
    · intro h
      refine ⟨h.1, fun p hp => ?_⟩
      simp only [List.mem_singleton] at hp
      subst hp; exact h.2
  · intro b hb c hc e h1 h2
    obtain ⟨a1, a2, a3⟩ := hC b hb c hc e h1 h2
    refine ⟨a1, a2, by simpa using congrArg List.length a3, fun f hf _ => ?_⟩
    have h := congrArg (List.map f) a3
    rw [List.map_map, List.map_map] at h
    have e : f ∘ E = f := funext hf
    rwa [e] at h
  · exact fun f _ hp => hp (x, y) (by simp)
  · intro P _ _ hx hy
    refine ⟨fun p hp => ?_, by simp⟩
    simp only [List.mem_singleton] at hp
    subst hp; exact ⟨hx, hy⟩

section
variable {F : Fo} {E0 E : Nat → Nat} {S : List (Nat × Nat)} {J : List Nat} {x0 y0 p q : Nat}
/-- The two are one already. -/
theorem Joins.same (h : Joins F E0 E (S ++ [(p, q)]) J x0 y0) (e : E p = E q) : Joins F E0 E S J x0 y0 := by
  have hp := h.mem (p, q) (by simp)
  have key : ∀ f : Nat → Nat, (∀ b, f (E b) = f b) → (∀ r ∈ S, f r.1 = f r.2) → ∀ r ∈ S ++ [(p, q)], f r.1 = f r.2 := by
    intro f hf hs r hr
    rcases List.mem_append.1 hr with hr | hr
    · exact hs r hr
    · simp only [List.mem_singleton] at hr
      subst hr
      show f p = f q
      rw [← hf p, ← hf q, e]
  refine ⟨h.ends, fun r hr => h.mem r (by simp [hr]), fun t => ?_, ?_, fun f hf hs => h.root f hf (key f hf hs), ?_, h.moved, h.after, h.jmem⟩
  · rw [← h.sol t]
    constructor
    · intro ⟨h1, h2⟩
      refine ⟨h1, fun r hr => ?_⟩
      rcases List.mem_append.1 hr with hr | hr
      · exact h2 r hr
      · simp only [List.mem_singleton] at hr
        subst hr
        show tsub t (F.ty p) = tsub t (F.ty q)
        rw [h1 p hp.1, h1 q hp.2, e]
    · exact fun ⟨h1, h2⟩ => ⟨h1, fun r hr => h2 r (by simp [hr])⟩
  · intro b hb c hc e h1 h2
    obtain ⟨a1, a2, a3, a4⟩ := h.cong b hb c hc e h1 h2
    exact ⟨a1, a2, a3, fun f hf hs => a4 f hf (key f hf hs)⟩
  · intro P h1 h2 h3 h4
    obtain ⟨a1, a2⟩ := h.reach P h1 h2 h3 h4
    exact ⟨fun r hr => a1 r (by simp [hr]), a2⟩
/-- The two can not be one. -/
theorem Joins.never (hF : FoOk F) (h : Joins F E0 E (S ++ [(p, q)]) J x0 y0) (hx : ¬ F.var (E p)) (hy : ¬ F.var (E q)) (hd : (F.ty (E p)).op ≠ (F.ty (E q)).op ∨ (F.ty (E p)).n ≠ (F.ty (E q)).n ∨ (F.ks (E p)).length ≠ (F.ks (E q)).length) : ∀ t, ¬ (Sol F E0 t ∧ tsub t (F.ty x0) = tsub t (F.ty y0)) := by
  intro t ht
  obtain ⟨h1, h2⟩ := (h.sol t).2 ht
  obtain ⟨hp, hq⟩ := h.mem (p, q) (by simp)
  have e := h2 (p, q) (by simp)
  simp only at e hp hq
  rw [h1 p hp, h1 q hq, hF.form (h.ends.mem p hp), hF.form (h.ends.mem q hq)] at e
  obtain ⟨e1, e2, e3⟩ := (sub_kinds (show (F.ty (E p)).op ≠ tVar from hx) (show (F.ty (E q)).op ≠ tVar from hy)).1 e
  rcases hd with hd | hd | hd
  · exact hd e1
  · exact hd e2
  · exact hd (by simpa using congrArg List.length e3)
/-- The two are joined. -/
theorem Joins.join (hF : FoOk F) (h : Joins F E0 E (S ++ [(p, q)]) J x0 y0) {x y : Nat} {N : List (Nat × Nat)} (hxy : (x = E p ∧ y = E q) ∨ (x = E q ∧ y = E p)) (hne : E p ≠ E q)
    (hk : (F.var x ∧ N = []) ∨ (¬ F.var x ∧ ¬ F.var y ∧ (F.ty x).op = (F.ty y).op ∧ (F.ty x).n = (F.ty y).n ∧ (F.ks x).length = (F.ks y).length ∧ (N = (F.ks x).zip (F.ks y) ∨ N = (F.ks y).zip (F.ks x)))) :
    Joins F E0 (joinE E x y) (S ++ N) (J ++ [x]) x0 y0 ∧ E x = x ∧ E y = y ∧ x ≠ y ∧ x ∈ F.L ∧ y ∈ F.L := by
  obtain ⟨hp, hq⟩ := h.mem (p, q) (by simp)
  simp only at hp hq
  have hi := h.ends.idem
  have hEx : E x = x := by rcases hxy with ⟨rfl, -⟩ | ⟨rfl, -⟩ <;> exact hi _
  have hEy : E y = y := by rcases hxy with ⟨-, rfl⟩ | ⟨-, rfl⟩ <;> exact hi _
  have hxL : x ∈ F.L := by rcases hxy with ⟨rfl, -⟩ | ⟨rfl, -⟩ <;> exact h.ends.mem _ (by assumption)
  have hyL : y ∈ F.L := by rcases hxy with ⟨-, rfl⟩ | ⟨-, rfl⟩ <;> exact h.ends.mem _ (by assumption)
  have hn : x ≠ y := by
    rcases hxy with ⟨rfl, rfl⟩ | ⟨rfl, rfl⟩
    · exact hne
    · exact fun e => hne e.symm
  have hJx : joinE E x y x = y := joinE_pos hEx
  have hJy : joinE E x y y = y := (joinE_neg (by rw [hEy]; exact fun e => hn e.symm)).trans hEy
  have hcl : ∀ b, joinE E x y (E b) = joinE E x y b := joinE_E hi x y
  have fE : ∀ {f : Nat → Nat}, (∀ b, f (joinE E x y b) = f b) → ∀ b, f (E b) = f b := fun {f} hf b => by rw [← hf (E b), hcl, hf]
  have fxy : ∀ {f : Nat → Nat}, (∀ b, f (joinE E x y b) = f b) → f x = f y := fun {f} hf => by rw [← hf x, hJx]
  have fpq : ∀ {f : Nat → Nat}, (∀ b, f (joinE E x y b) = f b) → f p = f q := fun {f} hf => by
    rw [← fE hf p, ← fE hf q]
    rcases hxy with ⟨h1, h2⟩ | ⟨h1, h2⟩
    · rw [← h1, ← h2]; exact fxy hf
    · rw [← h1, ← h2]; exact (fxy hf).symm
  have key : ∀ {f : Nat → Nat}, (∀ b, f (joinE E x y b) = f b) → (∀ r ∈ S ++ N, f r.1 = f r.2) → ∀ r ∈ S ++ [(p, q)], f r.1 = f r.2 := by
    intro f hf hs r hr
    rcases List.mem_append.1 hr with hr | hr
    · exact hs r (by simp [hr])
    · simp only [List.mem_singleton] at hr
      subst hr; exact fpq hf
  have NL : ∀ r ∈ N, (r.1 ∈ F.ks x ∧ r.2 ∈ F.ks y) ∨ (r.1 ∈ F.ks y ∧ r.2 ∈ F.ks x) := by
    intro r hr
    rcases hk with ⟨-, rfl⟩ | ⟨-, -, -, -, -, rfl | rfl⟩
    · cases hr
    · exact .inl ⟨(List.of_mem_zip hr).1, (List.of_mem_zip hr).2⟩
    · exact .inr ⟨(List.of_mem_zip hr).1, (List.of_mem_zip hr).2⟩
  have zipmap : ∀ (f : Nat → Nat) (l m : List Nat), l.length = m.length → (∀ r ∈ l.zip m, f r.1 = f r.2) → l.map f = m.map f := by
    intro f l
    induction l with
    | nil => intro m hl _; cases m with | nil => rfl | cons => simp at hl
    | cons a l ih =>
      intro m hl hr
      cases m with
      | nil => simp at hl
      | cons c m =>
        simp only [List.map_cons]
        rw [hr (a, c) (by simp), ih m (by simpa using hl) (fun r h => hr r (by simp [h]))]
  refine ⟨⟨⟨fun b hb => ?_, fun b => ?_, fun b hb hv => ?_, fun b hb => ?_⟩, ?_, ?_, ?_, fun f hf hs => h.root f (fE hf) (key hf hs), ?_, ?_, ?_, ?_⟩, hEx, hEy, hn, hxL, hyL⟩
  · unfold joinE; split
    · exact hyL
    · exact h.ends.mem b hb
  · by_cases hb : E b = x
    · rw [joinE_pos hb, hJy]
    · rw [joinE_neg hb, hcl, joinE_neg hb]
  · by_cases hb' : E b = x
    · rw [joinE_pos hb']
      have hvx := h.ends.kind b hb hv
      rw [hb'] at hvx
      rcases hk with ⟨hk, -⟩ | ⟨-, hk, -⟩
      · exact absurd hk hvx
      · exact hk
    · rw [joinE_neg hb']; exact h.ends.kind b hb hv
  · have := h.ends.out b hb
    rw [joinE_neg (by rw [this]; rintro rfl; exact hb hxL), this]
  · intro r hr
    rcases List.mem_append.1 hr with hr | hr
    · exact h.mem r (by simp [hr])
    · rcases NL r hr with ⟨h1, h2⟩ | ⟨h1, h2⟩
      · exact ⟨hF.kid x hxL _ h1, hF.kid y hyL _ h2⟩
      · exact ⟨hF.kid y hyL _ h1, hF.kid x hxL _ h2⟩
  · intro t
    rw [← h.sol t]
    have hs1 : (Sol F E t ∧ tsub t (F.ty p) = tsub t (F.ty q)) ↔ Sol F (joinE E x y) t := by
      have hpq : Sol F E t → ((tsub t (F.ty p) = tsub t (F.ty q)) ↔ tsub t (F.ty x) = tsub t (F.ty y)) := fun hs => by
        rw [hs p hp, hs q hq]
        rcases hxy with ⟨h1, h2⟩ | ⟨h1, h2⟩
        · rw [← h1, ← h2]
        · rw [← h1, ← h2]; exact eq_comm
      constructor
      · intro ⟨h1, h2⟩ b hb
        by_cases hbx : E b = x
        · rw [joinE_pos hbx, h1 b hb, hbx]; exact (hpq h1).1 h2
        · rw [joinE_neg hbx]; exact h1 b hb
      · intro h1
        have hxy' : tsub t (F.ty x) = tsub t (F.ty y) := by have := h1 x hxL; rwa [hJx] at this
        have h2 : Sol F E t := fun b hb => by
          have := h1 b hb
          by_cases hbx : E b = x
          · rw [joinE_pos hbx] at this
            rw [this, hbx, hxy']
          · rwa [joinE_neg hbx] at this
        exact ⟨h2, (hpq h2).2 hxy'⟩
    have hN : Sol F (joinE E x y) t → ∀ r ∈ N, tsub t (F.ty r.1) = tsub t (F.ty r.2) := by
      intro hs r hr
      rcases hk with ⟨-, rfl⟩ | ⟨k1, k2, -, -, -, k6⟩
      · cases hr
      · have hxy' : tsub t (F.ty x) = tsub t (F.ty y) := by have := hs x hxL; rwa [hJx] at this
        rw [hF.form hxL, hF.form hyL] at hxy'
        obtain ⟨-, -, e3⟩ := (sub_kinds (show (F.ty x).op ≠ tVar from k1) (show (F.ty y).op ≠ tVar from k2)).1 hxy'
        have zz : ∀ (l m : List Nat), (l.map F.ty).map (tsub t) = (m.map F.ty).map (tsub t) → ∀ r ∈ l.zip m, tsub t (F.ty r.1) = tsub t (F.ty r.2) := by
          intro l
          induction l with
          | nil => intro m _ r hr; simp at hr
          | cons a l ih =>
            intro m hm r hr
            cases m with
            | nil => simp at hr
            | cons c m =>
              simp only [List.map_cons, List.cons.injEq] at hm
              simp only [List.zip_cons_cons, List.mem_cons] at hr
              rcases hr with rfl | hr
              · exact hm.1
              · exact ih m hm.2 r hr
        rcases k6 with rfl | rfl
        · exact zz _ _ e3 r hr
        · exact zz _ _ e3.symm r hr
    constructor
    · intro ⟨h1, h2⟩
      obtain ⟨h3, h4⟩ := hs1.2 h1
      refine ⟨h3, fun r hr => ?_⟩
      rcases List.mem_append.1 hr with hr | hr
      · exact h2 r (by simp [hr])
      · simp only [List.mem_singleton] at hr
        subst hr; exact h4
    · intro ⟨h1, h2⟩
      have h3 := hs1.1 ⟨h1, h2 (p, q) (by simp)⟩
      refine ⟨h3, fun r hr => ?_⟩
      rcases List.mem_append.1 hr with hr | hr
      · exact h2 r (by simp [hr])
      · exact hN h3 r hr
  · have base : ∀ b ∈ F.L, ∀ c ∈ F.L, E b = x → E c = y → ¬ F.var b → ¬ F.var c → (F.ty b).op = (F.ty c).op ∧ (F.ty b).n = (F.ty c).n ∧ (F.ks b).length = (F.ks c).length ∧
        ∀ f : Nat → Nat, (∀ b, f (joinE E x y b) = f b) → (∀ r ∈ S ++ N, f r.1 = f r.2) → (F.ks b).map f = (F.ks c).map f := by
      intro b hb c hc eb ec hvb hvc
      have hvx := h.ends.kind b hb hvb
      rw [eb] at hvx
      rcases hk with ⟨hk, -⟩ | ⟨-, hvy, k3, k4, k5, k6⟩
      · exact absurd hk hvx
      · obtain ⟨a1, a2, a3, a4⟩ := h.cong b hb x hxL (by rw [eb, hEx]) hvb hvx
        obtain ⟨b1, b2, b3, b4⟩ := h.cong c hc y hyL (by rw [ec, hEy]) hvc hvy
        refine ⟨by rw [a1, b1, k3], by rw [a2, b2, k4], by rw [a3, b3, k5], fun f hf hs => ?_⟩
        rw [a4 f (fE hf) (key hf hs), b4 f (fE hf) (key hf hs)]
        rcases k6 with rfl | rfl
        · exact zipmap f _ _ k5 fun r hr => hs r (by simp [hr])
        · exact (zipmap f _ _ k5.symm fun r hr => hs r (by simp [hr])).symm
    intro b hb c hc e hvb hvc
    by_cases eb : E b = x
    · by_cases ec : E c = x
      · obtain ⟨a1, a2, a3, a4⟩ := h.cong b hb c hc (by rw [eb, ec]) hvb hvc
        exact ⟨a1, a2, a3, fun f hf hs => a4 f (fE hf) (key hf hs)⟩
      · rw [joinE_pos eb, joinE_neg ec] at e
        exact base b hb c hc eb e.symm hvb hvc
    · by_cases ec : E c = x
      · rw [joinE_neg eb, joinE_pos ec] at e
        obtain ⟨a1, a2, a3, a4⟩ := base c hc b hb ec e hvc hvb
        exact ⟨a1.symm, a2.symm, a3.symm, fun f hf hs => (a4 f hf hs).symm⟩
      · rw [joinE_neg eb, joinE_neg ec] at e
        obtain ⟨a1, a2, a3, a4⟩ := h.cong b hb c hc e hvb hvc
        exact ⟨a1, a2, a3, fun f hf hs => a4 f (fE hf) (key hf hs)⟩
  · intro P h1 h2 h3 h4
    have PE : ∀ b, P (E b) ↔ P b := fun b => by rw [← h1 (E b), hcl, h1]
    obtain ⟨a1, a2⟩ := h.reach P PE h2 h3 h4
    obtain ⟨pp, pq⟩ := a1 (p, q) (by simp)
    have hPx : P x := by rcases hxy with ⟨rfl, -⟩ | ⟨rfl, -⟩ <;> exact (PE _).2 (by assumption)
    have hPy : P y := by rcases hxy with ⟨-, rfl⟩ | ⟨-, rfl⟩ <;> exact (PE _).2 (by assumption)
    refine ⟨fun r hr => ?_, fun j hj => ?_⟩
    · rcases List.mem_append.1 hr with hr | hr
      · exact a1 r (by simp [hr])
      · rcases NL r hr with ⟨g1, g2⟩ | ⟨g1, g2⟩
        · exact ⟨h2 x hxL hPx _ g1, h2 y hyL hPy _ g2⟩
        · exact ⟨h2 y hyL hPy _ g1, h2 x hxL hPx _ g2⟩
    · rcases List.mem_append.1 hj with hj | hj
      · exact a2 j hj
      · simp only [List.mem_singleton] at hj
        subst hj; exact hPx
  · intro b
    by_cases hb : E b = x
    · right
      rcases h.moved b with e | e
      · exact List.mem_append.2 (.inr (by simp [← e, hb]))
      · exact List.mem_append.2 (.inl e)
    · rw [joinE_neg hb]
      rcases h.moved b with e | e
      · exact .inl e
      · exact .inr (List.mem_append.2 (.inl e))
  · intro b
    rw [← hcl (E0 b), h.after b, hcl]
  · intro j hj
    rcases List.mem_append.1 hj with hj | hj
    · exact h.jmem j hj
    · simp only [List.mem_singleton] at hj
      subst hj; exact hxL
/-- There is an end less. -/
def ends (F : Fo) (E : Nat → Nat) : Nat := (F.L.filter fun b => decide (E b = b)).length
theorem ends_join {x y : Nat} (hx : E x = x) (hy : E y = y) (hn : x ≠ y) (hL : x ∈ F.L) : ends F (joinE E x y) < ends F E := by
  refine filter_lt _ _ (fun b hb => ?_) F.L x hL (by simp [joinE_pos hx]; exact fun e => hn e.symm) (by simp [hx])
  have hb := of_decide_eq_true hb
  refine decide_eq_true ?_
  by_cases h : E b = x
  · rw [joinE_pos h] at hb
    subst hb
    exact absurd (h.symm.trans hy) hn
  · rwa [joinE_neg h] at hb
/-- Nothing is left. -/
theorem Joins.cong_all (h : Joins F E0 E [] J x0 y0) : Cong F E ∧ E x0 = E y0 := by
  refine ⟨fun b hb c hc e h1 h2 => ?_, h.root E h.ends.idem (by simp)⟩
  obtain ⟨a1, a2, -, a4⟩ := h.cong b hb c hc e h1 h2
  exact ⟨a1, a2, a4 E h.ends.idem (by simp)⟩
end
end Go.Em9

/- Terms: types that are kept as a graph, each with an end to which it leads; what is had when ends are joined; a graph in which nothing goes round is types for vars. No program is named here. -/
import Derived.Test.YtadhjnbhcenocaaMath9e
namespace Go.Em9
open Go.RowKit Go.Em5 Go.Em8

/-- Terms: which there are; the type that each was kept as; its kids. -/
structure Fo where
  L : List Nat
  ty : Nat → Ty
  ks : Nat → List Nat
def Fo.var (F : Fo) (b : Nat) : Prop := (F.ty b).op = tVar
instance (F : Fo) (b : Nat) : Decidable (F.var b) := inferInstanceAs (Decidable ((F.ty b).op = tVar))

structure FoOk (F : Fo) : Prop where
  kid : ∀ b ∈ F.L, ∀ k ∈ F.ks b, k ∈ F.L
  tys : ∀ b ∈ F.L, (F.ks b).map F.ty = (F.ty b).kids
  teach : ∀ b ∈ F.L, Em8.teach (F.ty b) = true
  one : ∀ b ∈ F.L, ∀ c ∈ F.L, F.var b → F.ty b = F.ty c → b = c
/-- Ends. -/
structure EndOk (F : Fo) (E : Nat → Nat) : Prop where
  mem : ∀ b ∈ F.L, E b ∈ F.L
  idem : ∀ b, E (E b) = E b
  kind : ∀ b ∈ F.L, ¬ F.var b → ¬ F.var (E b)
  out : ∀ b, b ∉ F.L → E b = b
def Sol (F : Fo) (E : Nat → Nat) (t : Int → Ty) : Prop := ∀ b ∈ F.L, tsub t (F.ty b) = tsub t (F.ty (E b))
def Cong (F : Fo) (E : Nat → Nat) : Prop := ∀ b ∈ F.L, ∀ c ∈ F.L, E b = E c → ¬ F.var b → ¬ F.var c → (F.ty b).op = (F.ty c).op ∧ (F.ty b).n = (F.ty c).n ∧ (F.ks b).map E = (F.ks c).map E
/-- Nothing goes round. -/
def Ranked (F : Fo) (E : Nat → Nat) (R : Nat → Nat) : Prop := ∀ b ∈ F.L, R b = R (E b) ∧ ∀ k ∈ F.ks (E b), R k < R b
/-- Each term as a type. -/
def TOk (F : Fo) (E : Nat → Nat) (T : Nat → Ty) : Prop := ∀ b ∈ F.L, T b = if F.var (E b) then F.ty (E b) else .mk (F.ty (E b)).op (F.ty (E b)).n ((F.ks (E b)).map T)

theorem FoOk.varKids {F : Fo} (h : FoOk F) {b : Nat} (hb : b ∈ F.L) (hv : F.var b) : F.ks b = [] ∧ F.ty b = tv (F.ty b).n := by
  have ht := h.teach b hb
  have hk := h.tys b hb
  have e : F.ty b = .mk (F.ty b).op (F.ty b).n (F.ty b).kids := by cases F.ty b; rfl
  have hv' : (F.ty b).op = tVar := hv
  rw [e, hv'] at ht
  have h1 := var_nil ht
  rw [h1] at hk
  refine ⟨List.map_eq_nil_iff.1 hk, ?_⟩
  rw [hv', h1] at e
  exact e
theorem FoOk.form {F : Fo} (h : FoOk F) {b : Nat} (hb : b ∈ F.L) : F.ty b = .mk (F.ty b).op (F.ty b).n ((F.ks b).map F.ty) := by
  rw [h.tys b hb]
  cases F.ty b; rfl

/-! ### From ranks to types -/
def tree (F : Fo) (E : Nat → Nat) : Nat → Nat → Ty
  | 0, b => F.ty (E b)
  | f + 1, b => if F.var (E b) then F.ty (E b) else .mk (F.ty (E b)).op (F.ty (E b)).n ((F.ks (E b)).map (tree F E f))
theorem tree_stable {F : Fo} {E : Nat → Nat} {R : Nat → Nat} (hF : FoOk F) (hE : EndOk F E) (h : Ranked F E R) : ∀ (n b f g : Nat), b ∈ F.L → R b ≤ n → R b < f → R b < g → tree F E f b = tree F E g b := by
  intro n
  induction n with
  | zero =>
    intro b f g hb hn hf hg
    obtain ⟨f, rfl⟩ : ∃ k, f = k + 1 := ⟨f - 1, by omega⟩
    obtain ⟨g, rfl⟩ : ∃ k, g = k + 1 := ⟨g - 1, by omega⟩
    simp only [tree]
    by_cases hv : F.var (E b)
    · rw [if_pos hv, if_pos hv]
    · rw [if_neg hv, if_neg hv]
      congr 1
      refine List.map_congr_left fun k hk => ?_
      have := (h b hb).2 k hk
      omega
  | succ n ih =>
    intro b f g hb hn hf hg
    obtain ⟨f, rfl⟩ : ∃ k, f = k + 1 := ⟨f - 1, by omega⟩
    obtain ⟨g, rfl⟩ : ∃ k, g = k + 1 := ⟨g - 1, by omega⟩
    simp only [tree]
    by_cases hv : F.var (E b)
    · rw [if_pos hv, if_pos hv]
    · rw [if_neg hv, if_neg hv]
      congr 1
      refine List.map_congr_left fun k hk => ?_
      have := (h b hb).2 k hk
      exact ih k f g (hF.kid _ (hE.mem b hb) k hk) (by omega) (by omega) (by omega)
theorem ranked_T {F : Fo} {E : Nat → Nat} {R : Nat → Nat} (hF : FoOk F) (hE : EndOk F E) (h : Ranked F E R) : TOk F E (fun b => tree F E (R b + 1) b) := by
  intro b hb
  simp only [tree]
  by_cases hv : F.var (E b)
  · rw [if_pos hv, if_pos hv]
  · rw [if_neg hv, if_neg hv]
    congr 1
    refine List.map_congr_left fun k hk => ?_
    have := (h b hb).2 k hk
    exact tree_stable hF hE h (R b) k (R b) (R k + 1) (hF.kid _ (hE.mem b hb) k hk) (by omega) (by omega) (by omega)
theorem TOk.end_ {F : Fo} {E : Nat → Nat} {T : Nat → Ty} (hE : EndOk F E) (h : TOk F E T) {b : Nat} (hb : b ∈ F.L) : T b = T (E b) := by
  rw [h b hb, h (E b) (hE.mem b hb), hE.idem]
theorem filter_lt {α : Type} (p q : α → Bool) (hpq : ∀ x, p x = true → q x = true) : ∀ (l : List α) (x : α), x ∈ l → p x = false → q x = true → (l.filter p).length < (l.filter q).length
  | [], _, h, _, _ => by cases h
  | y :: r, x, h, hp, hq => by
    have hle : ∀ r : List α, (r.filter p).length ≤ (r.filter q).length := by
      intro r
      induction r with
      | nil => simp
      | cons z r ih =>
        simp only [List.filter_cons]
        by_cases h1 : p z = true
        · rw [if_pos h1, if_pos (hpq z h1)]; simpa using ih
        · rw [if_neg h1]
          split
          · simp only [List.length_cons]; omega
          · exact ih
    simp only [List.filter_cons]
    rcases List.mem_cons.1 h with e | e
    · subst e
      rw [if_neg (by rw [hp]; simp), if_pos hq]
      have := hle r
      simp only [List.length_cons]; omega
    · have ih := filter_lt p q hpq r x e hp hq
      by_cases h1 : p y = true
      · rw [if_pos h1, if_pos (hpq y h1)]; simp only [List.length_cons]; omega
      · rw [if_neg h1]
        split
        · simp only [List.length_cons]; omega
        · exact ih
theorem ty_size_kid {op : List Int} {n : Int} {l : List Ty} {t : Ty} (h : t ∈ l) : t.size < (Ty.mk op n l).size := by
  have := tsizes_mem l t h
  simp only [Ty.size]; omega
/-- A rank that is no more than there are terms. -/
theorem TOk.rank {F : Fo} {E : Nat → Nat} {T : Nat → Ty} (hF : FoOk F) (hE : EndOk F E) (h : TOk F E T) : ∃ R, Ranked F E R ∧ ∀ b, R b ≤ F.L.length := by
  refine ⟨fun b => (F.L.filter fun e => decide ((T e).size < (T b).size)).length, fun b hb => ⟨?_, fun k hk => ?_⟩, fun b => List.length_filter_le _ _⟩
  · show _ = (F.L.filter fun e => decide ((T e).size < (T (E b)).size)).length
    rw [← h.end_ hE hb]
  · have hkL := hF.kid _ (hE.mem b hb) k hk
    have hv : ¬ F.var (E b) := fun hv => by rw [(hF.varKids (hE.mem b hb) hv).1] at hk; cases hk
    have hs : (T k).size < (T b).size := by
      rw [h b hb, if_neg hv]
      exact ty_size_kid (List.mem_map.2 ⟨k, hk, rfl⟩)
    refine filter_lt _ _ (fun x hx => ?_) F.L k hkL (by simp) (by simpa using hs)
    have := of_decide_eq_true hx
    exact decide_eq_true (by omega)

/-! ### What the vars are -/
/-- The map of the vars. -/
structure MapOk (F : Fo) (M : Int → Option Nat) : Prop where
  mem : ∀ x b, M x = some b → b ∈ F.L ∧ F.ty b = tv x
  all : ∀ b ∈ F.L, F.var b → M (F.ty b).n = some b
def ofM (M : Int → Option Nat) (T : Nat → Ty) (x : Int) : Ty := match M x with | some b => T b | none => tv x
theorem ofM_some {M : Int → Option Nat} {T : Nat → Ty} {x : Int} {b : Nat} (h : M x = some b) : ofM M T x = T b := by simp [ofM, h]
theorem ofM_none {M : Int → Option Nat} {T : Nat → Ty} {x : Int} (h : M x = none) : ofM M T x = tv x := by simp [ofM, h]

section
variable {F : Fo} {E : Nat → Nat} {T : Nat → Ty} {M : Int → Option Nat}
theorem sol_T (hF : FoOk F) (hE : EndOk F E) (hT : TOk F E T) {t : Int → Ty} (hs : Sol F E t) : ∀ b ∈ F.L, tsub t (T b) = tsub t (F.ty b) := by
  obtain ⟨R, hR, -⟩ := hT.rank hF hE
  have key : ∀ n b, b ∈ F.L → R b < n → tsub t (T b) = tsub t (F.ty b) := by
    intro n
    induction n with
    | zero => intro b _ hn; omega
    | succ n ih =>
      intro b hb hn
      rw [hs b hb, hT b hb]
      by_cases hv : F.var (E b)
      · rw [if_pos hv]
      · rw [if_neg hv]
        refine Eq.trans ?_ (congrArg (tsub t) (hF.form (hE.mem b hb)).symm)
        rw [tsub_else t (show (F.ty (E b)).op ≠ tVar from hv), tsub_else t (show (F.ty (E b)).op ≠ tVar from hv), List.map_map, List.map_map]
        congr 1
        refine List.map_congr_left fun k hk => ?_
        have := (hR b hb).2 k hk
        exact ih k (hF.kid _ (hE.mem b hb) k hk) (by omega)
  exact fun b hb => key (R b + 1) b hb (by omega)
/-- A term as a type depends on its end alone. -/
theorem T_cong (hE : EndOk F E) (hT : TOk F E T) {b c : Nat} (hb : b ∈ F.L) (hc : c ∈ F.L) (h : E b = E c) : T b = T c := by
  rw [hT.end_ hE hb, hT.end_ hE hc, h]
theorem map_T (hE : EndOk F E) (hT : TOk F E T) {l m : List Nat} (hl : ∀ k ∈ l, k ∈ F.L) (hm : ∀ k ∈ m, k ∈ F.L) (h : l.map E = m.map E) : l.map T = m.map T := by
  induction l generalizing m with
  | nil =>
    have : m = [] := by simpa using h
    subst this; rfl
  | cons x r ih =>
    cases m with
    | nil => simp at h
    | cons y q =>
      simp only [List.map_cons, List.cons.injEq] at h
      simp only [List.map_cons]
      rw [T_cong hE hT (hl x (by simp)) (hm y (by simp)) h.1, ih (fun k hk => hl k (by simp [hk])) (fun k hk => hm k (by simp [hk])) h.2]
/-- Each term is the type that it was kept as, by what is said. -/
theorem T_of (hF : FoOk F) (hE : EndOk F E) (hC : Cong F E) (hT : TOk F E T) (hM : MapOk F M) : ∀ b ∈ F.L, tsub (ofM M T) (F.ty b) = T b := by
  have key : ∀ n b, b ∈ F.L → (F.ty b).size ≤ n → tsub (ofM M T) (F.ty b) = T b := by
    intro n
    induction n with
    | zero =>
      intro b hb hn
      exfalso
      cases h : F.ty b
      rw [h] at hn
      simp only [Ty.size] at hn
      omega
    | succ n ih =>
      intro b hb hn
      by_cases hv : F.var b
      · have h1 := (hF.varKids hb hv).2
        rw [h1, tsub_tv]
        exact ofM_some (hM.all b hb hv)
      · obtain ⟨c1, c2, c3⟩ := hC b hb (E b) (hE.mem b hb) (hE.idem b).symm hv (hE.kind b hb hv)
        rw [hF.form hb] at hn
        rw [hF.form hb, tsub_else _ (show (F.ty b).op ≠ tVar from hv), hT b hb, if_neg (hE.kind b hb hv), ← c1, ← c2, List.map_map]
        congr 1
        rw [← map_T hE hT (fun k hk => hF.kid b hb k hk) (fun k hk => hF.kid _ (hE.mem b hb) k hk) c3]
        refine List.map_congr_left fun k hk => ?_
        have := ty_size_kid (op := (F.ty b).op) (n := (F.ty b).n) (List.mem_map.2 ⟨k, hk, rfl⟩ : F.ty k ∈ (F.ks b).map F.ty)
        exact ih k (hF.kid b hb k hk) (by omega)
  exact fun b hb => key _ b hb (Nat.le_refl _)
theorem sol_fac (hF : FoOk F) (hE : EndOk F E) (hC : Cong F E) (hT : TOk F E T) (hM : MapOk F M) (t : Int → Ty) : Sol F E t ↔ Fac t (ofM M T) := by
  constructor
  · intro h x
    cases hx : M x with
    | none => rw [ofM_none hx, tsub_tv]
    | some b =>
      obtain ⟨hb, e⟩ := hM.mem x b hx
      rw [ofM_some hx, sol_T hF hE hT h b hb, e, tsub_tv]
  · intro h b hb
    rw [← h.term (F.ty b), ← h.term (F.ty (E b)), T_of hF hE hC hT hM b hb, T_of hF hE hC hT hM _ (hE.mem b hb), hT.end_ hE hb]
theorem sol_self (hF : FoOk F) (hE : EndOk F E) (hC : Cong F E) (hT : TOk F E T) (hM : MapOk F M) : Sol F E (ofM M T) := fun b hb => by
  rw [T_of hF hE hC hT hM b hb, T_of hF hE hC hT hM _ (hE.mem b hb), hT.end_ hE hb]
theorem T_teach (hF : FoOk F) (hE : EndOk F E) (hT : TOk F E T) : ∀ b ∈ F.L, Em8.teach (T b) = true := by
  obtain ⟨R, hR, -⟩ := hT.rank hF hE
  have key : ∀ n b, b ∈ F.L → R b < n → Em8.teach (T b) = true := by
    intro n
    induction n with
    | zero => intro b _ hn; omega
    | succ n ih =>
      intro b hb hn
      have ht := hF.teach _ (hE.mem b hb)
      rw [hT b hb]
      by_cases hv : F.var (E b)
      · rw [if_pos hv]; exact ht
      · rw [if_neg hv]
        have ht2 : Em8.teach (.mk (F.ty (E b)).op (F.ty (E b)).n ((F.ks (E b)).map F.ty)) = true := by rw [← hF.form (hE.mem b hb)]; exact ht
        refine teach_mk ht2 (by simp) fun t h => ?_
        obtain ⟨k, hk, rfl⟩ := List.mem_map.1 h
        have := (hR b hb).2 k hk
        exact ih k (hF.kid _ (hE.mem b hb) k hk) (by omega)
  exact fun b hb => key (R b + 1) b hb (by omega)
/-- The vars of a term as a type were kept. -/
theorem T_occ (hF : FoOk F) (hE : EndOk F E) (hT : TOk F E T) (hM : MapOk F M) : ∀ b ∈ F.L, ∀ y, tocc y (T b) → ∃ c, M y = some c := by
  obtain ⟨R, hR, -⟩ := hT.rank hF hE
  have key : ∀ n b, b ∈ F.L → R b < n → ∀ y, tocc y (T b) → ∃ c, M y = some c := by
    intro n
    induction n with
    | zero => intro b _ hn; omega
    | succ n ih =>
      intro b hb hn y hy
      rw [hT b hb] at hy
      by_cases hv : F.var (E b)
      · rw [if_pos hv, (hF.varKids (hE.mem b hb) hv).2, tocc_tv] at hy
        rw [← hy]
        exact ⟨_, hM.all _ (hE.mem b hb) hv⟩
      · rw [if_neg hv, tocc_eq] at hy
        rcases hy with ⟨h, -⟩ | ⟨t, ht, hy⟩
        · exact absurd h hv
        · obtain ⟨k, hk, rfl⟩ := List.mem_map.1 ht
          have := (hR b hb).2 k hk
          exact ih k (hF.kid _ (hE.mem b hb) k hk) (by omega) y hy
  exact fun b hb => key (R b + 1) b hb (by omega)
end
end Go.Em9

/- Types in memory, with a word on which blocks they lie in: for types that a call makes. -/
import Derived.Test.YtbiihiibebdjgaaTy
import Derived.Laws.OwnMore
import Derived.Maps.AppendAt
namespace Go.Em8
open Go.RowKit Go.Em5

mutual
/-- As 'IsTy'; and of each block that it lies in P holds. -/
def IsTyP (P : Nat → Prop) (w : World) : Ty → Value → Prop
  | .mk op n l, v => ∃ a cap, v = .agg #[.string (Em.str op), .int .i64 n, .slice a l.length cap] ∧
      Txt op ∧ I64 n ∧ l.length ≤ cap ∧ cap ≤ 9223372036854775807 ∧ (0 < l.length → ∃ b off, a = some ⟨b, off, none⟩ ∧ b < w.heap.size ∧ P b ∧ TysAtP P w b off l)
def TysAtP (P : Nat → Prop) (w : World) (b : Nat) : Nat → List Ty → Prop
  | _, [] => True
  | off, t :: r => (∃ c0 c1 c2, w.cell? ⟨b, off, none⟩ = some c0 ∧ w.cell? ⟨b, off + 1, none⟩ = some c1 ∧ w.cell? ⟨b, off + 2, none⟩ = some c2 ∧ IsTyP P w t (.agg #[c0, c1, c2])) ∧ TysAtP P w b (off + 3) r
end

theorem tysAtP_get {P : Nat → Prop} {w : World} {b : Nat} : ∀ (l : List Ty) (off j : Nat) (t : Ty), TysAtP P w b off l → l[j]? = some t →
    ∃ c0 c1 c2, w.cell? ⟨b, off + j * 3, none⟩ = some c0 ∧ w.cell? ⟨b, off + j * 3 + 1, none⟩ = some c1 ∧ w.cell? ⟨b, off + j * 3 + 2, none⟩ = some c2 ∧ IsTyP P w t (.agg #[c0, c1, c2])
  | [], _, _, _, _, h => by simp at h
  | x :: r, off, 0, t, hk, h => by
    simp at h; subst h
    unfold TysAtP at hk
    simpa using hk.1
  | x :: r, off, j + 1, t, hk, h => by
    unfold TysAtP at hk
    have := tysAtP_get r (off + 3) j t hk.2 (by simpa using h)
    rw [show off + (j + 1) * 3 = off + 3 + j * 3 by omega]
    exact this
theorem tysAtP_mk {P : Nat → Prop} {w : World} {b : Nat} : ∀ (l : List Ty) (off : Nat), (∀ j t, l[j]? = some t →
    ∃ c0 c1 c2, w.cell? ⟨b, off + j * 3, none⟩ = some c0 ∧ w.cell? ⟨b, off + j * 3 + 1, none⟩ = some c1 ∧ w.cell? ⟨b, off + j * 3 + 2, none⟩ = some c2 ∧ IsTyP P w t (.agg #[c0, c1, c2])) → TysAtP P w b off l
  | [], _, _ => by unfold TysAtP; trivial
  | x :: r, off, h => by
    unfold TysAtP
    refine ⟨by simpa using h 0 x rfl, tysAtP_mk r (off + 3) fun j t hj => ?_⟩
    have := h (j + 1) t (by simpa using hj)
    rw [show off + (j + 1) * 3 = off + 3 + j * 3 by omega] at this
    exact this
/-- What P speaks of stays as it is: so does the type; and P may be widened. -/
theorem isTyP_keep {P Q : Nat → Prop} {w w' : World} (hs : w.heap.size ≤ w'.heap.size) (hb : ∀ b, P b → b < w.heap.size → w'.heap[b]? = w.heap[b]? ∧ Q b) : ∀ (t : Ty) (v : Value), IsTyP P w t v → IsTyP Q w' t v := by
  intro t
  induction t using Ty.ind with
  | h op n l ih =>
    intro v h
    unfold IsTyP at h ⊢
    obtain ⟨a, cap, h1, h2, h5, h7, h8, h9⟩ := h
    refine ⟨a, cap, h1, h2, h5, h7, h8, fun hp => ?_⟩
    obtain ⟨b, off, e, hlt, hP, hk⟩ := h9 hp
    obtain ⟨hblk, hQ⟩ := hb b hP hlt
    refine ⟨b, off, e, Nat.lt_of_lt_of_le hlt hs, hQ, tysAtP_mk l off fun j t hj => ?_⟩
    obtain ⟨c0, c1, c2, k0, k1, k2, kn⟩ := tysAtP_get l off j t hk hj
    have key : ∀ o, w'.cell? ⟨b, o, none⟩ = w.cell? ⟨b, o, none⟩ := fun o => World.cell?_of_block (a := ⟨b, o, none⟩) hblk
    exact ⟨c0, c1, c2, by rw [key]; exact k0, by rw [key]; exact k1, by rw [key]; exact k2, ih t (List.mem_of_getElem? hj) _ kn⟩
theorem isTyP_wide {P Q : Nat → Prop} {w : World} {t : Ty} {v : Value} (h : IsTyP P w t v) (hpq : ∀ b, P b → b < w.heap.size → Q b) : IsTyP Q w t v :=
  isTyP_keep (Nat.le_refl _) (fun b hp hl => ⟨rfl, hpq b hp hl⟩) t v h
theorem isTyP_is {P : Nat → Prop} {w : World} : ∀ (t : Ty) (v : Value), IsTyP P w t v → IsTy w t v := by
  intro t
  induction t using Ty.ind with
  | h op n l ih =>
    intro v h
    unfold IsTyP at h
    unfold IsTy
    obtain ⟨a, cap, h1, h2, h5, h7, h8, h9⟩ := h
    refine ⟨a, cap, h1, h2, h5, h7, h8, fun hp => ?_⟩
    obtain ⟨b, off, e, hlt, -, hk⟩ := h9 hp
    refine ⟨b, off, e, hlt, tysAt_mk l off fun j t hj => ?_⟩
    obtain ⟨c0, c1, c2, k0, k1, k2, kn⟩ := tysAtP_get l off j t hk hj
    exact ⟨c0, c1, c2, k0, k1, k2, ih t (List.mem_of_getElem? hj) _ kn⟩
theorem isTy_isP {w : World} : ∀ (t : Ty) (v : Value), IsTy w t v → IsTyP (fun b => b < w.heap.size) w t v := by
  intro t
  induction t using Ty.ind with
  | h op n l ih =>
    intro v h
    unfold IsTy at h
    unfold IsTyP
    obtain ⟨a, cap, h1, h2, h5, h7, h8, h9⟩ := h
    refine ⟨a, cap, h1, h2, h5, h7, h8, fun hp => ?_⟩
    obtain ⟨b, off, e, hlt, hk⟩ := h9 hp
    refine ⟨b, off, e, hlt, hlt, tysAtP_mk l off fun j t hj => ?_⟩
    obtain ⟨c0, c1, c2, k0, k1, k2, kn⟩ := tysAt_get l off j t hk hj
    exact ⟨c0, c1, c2, k0, k1, k2, ih t (List.mem_of_getElem? hj) _ kn⟩

/-- The cells of values, one behind the other, three each. -/
def flat3 (l : List (Value × Value × Value)) : List Value := l.flatMap fun x => [x.1, x.2.1, x.2.2]
theorem flat3_len (l : List (Value × Value × Value)) : (flat3 l).length = l.length * 3 := by
  induction l with
  | nil => rfl
  | cons x r ih => simp only [flat3, List.flatMap_cons, List.length_append, List.length_cons, List.length_nil] at ih ⊢; omega
theorem flat3_app (l m : List (Value × Value × Value)) : flat3 (l ++ m) = flat3 l ++ flat3 m := by simp [flat3]
theorem flat3_get : ∀ (l : List (Value × Value × Value)) (j : Nat) (x : Value × Value × Value), l[j]? = some x → (flat3 l)[j * 3]? = some x.1 ∧ (flat3 l)[j * 3 + 1]? = some x.2.1 ∧ (flat3 l)[j * 3 + 2]? = some x.2.2
  | [], _, _, h => by simp at h
  | y :: r, 0, x, h => by simp at h; subst h; simp [flat3]
  | y :: r, j + 1, x, h => by
    have e : flat3 (y :: r) = y.1 :: y.2.1 :: y.2.2 :: flat3 r := rfl
    obtain ⟨h1, h2, h3⟩ := flat3_get r j x (by simpa using h)
    rw [e, show (j + 1) * 3 = j * 3 + 3 by omega]
    exact ⟨by simpa using h1, by simpa using h2, by simpa using h3⟩
/-- Types in a row of memory of a call's own, at block B or behind it; of the blocks that they lie in P holds, and none is the row itself. -/
def OwnTys (P : Nat → Prop) (e : TypeId) (w : World) (B : Nat) (v : Value) (l : List Ty) : Prop :=
  ∃ cs : List (Value × Value × Value), cs.length = l.length ∧ w.ownsRow B e 3 v l.length (flat3 cs) ∧
    ∀ (j : Nat) (t : Ty) (c : Value × Value × Value), l[j]? = some t → cs[j]? = some c → IsTyP (fun b => P b ∧ some b ≠ v.ownBlock) w t (.agg #[c.1, c.2.1, c.2.2])
theorem OwnTys.nil (P : Nat → Prop) (e : TypeId) (w : World) (B : Nat) : OwnTys P e w B (.slice none 0 0) [] := ⟨[], rfl, World.ownsRow_nil w B e 3, by simp⟩
/-- Such a row is the kids of a type. -/
theorem OwnTys.is {P : Nat → Prop} {e : TypeId} {w : World} {B : Nat} {a : Option Addr} {n cap : Nat} {l : List Ty} (h : OwnTys P e w B (.slice a n cap) l) (hcap : cap ≤ 9223372036854775807) (hP : ∀ b, B ≤ b → P b) {op : List Int} {m : Int} (ho : Txt op) (hm : I64 m) :
    IsTyP P w (.mk op m l) (.agg #[.string (Em.str op), .int .i64 m, .slice a n cap]) := by
  obtain ⟨cs, hcs, hown, hel⟩ := h
  unfold IsTyP
  rcases hown.2 with ⟨h1, h2⟩ | ⟨g, c, cur, h1, hg, hh, h3, h4, h5, h6⟩
  · have hl : l = [] := List.length_eq_zero_iff.1 h2
    subst hl
    cases h1
    exact ⟨none, 0, rfl, ho, hm, by simp, by simp, by simp⟩
  · cases h1
    refine ⟨_, cap, rfl, ho, hm, h3, hcap, fun hp => ⟨g, 0, rfl, ?_, hP g hg, tysAtP_mk l 0 fun j t hj => ?_⟩⟩
    · exact (World.ownsRow.lt hown g rfl).2
    · have hjl := (List.getElem?_eq_some_iff.1 hj).1
      obtain ⟨x, hx⟩ : ∃ x, cs[j]? = some x := ⟨_, List.getElem?_eq_getElem (by omega)⟩
      obtain ⟨e1, e2, e3⟩ := flat3_get cs j x hx
      have hc := fun k u (hk : (flat3 cs)[k]? = some u) => World.ownsRow.cells hown (g := g) rfl k u hk
      have fix : ∀ k, (⟨g, 0, none⟩ : Addr).add k = ⟨g, 0 + k, none⟩ := fun k => by
        unfold Addr.add
        split
        · rename_i h0; subst h0; rfl
        · rfl
      refine ⟨x.1, x.2.1, x.2.2, ?_, ?_, ?_, isTyP_wide (hel j t x hj hx) fun b hb _ => hb.1⟩
      · have := hc _ _ e1; rw [fix] at this; exact this
      · have := hc _ _ e2; rw [fix] at this; exact this
      · have := hc _ _ e3; rw [fix] at this; exact this
end Go.Em8

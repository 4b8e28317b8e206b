/- Types (api.Type) as plain trees, and how they lie in memory. -/
import Derived.Test.YtbiihiibebdjgaaStr
import Derived.Test.YtbiihiibebdjgaaNd
namespace Go.Em8
open Go.RowKit Go.Em5

/-- A type: its op, its number, its kids. -/
inductive Ty where
  | mk (op : List Int) (n : Int) (kids : List Ty) : Ty

def Ty.op : Ty → List Int | .mk a _ _ => a
def Ty.n : Ty → Int | .mk _ a _ => a
def Ty.kids : Ty → List Ty | .mk _ _ a => a

theorem Ty.ind {P : Ty → Prop} (h : ∀ op n l, (∀ t ∈ l, P t) → P (.mk op n l)) : ∀ t, P t
  | .mk op n l => h op n l (fun t _ => Ty.ind h t)

mutual
/-- In the world w the value v is the type. -/
def IsTy (w : World) : Ty → Value → Prop
  | .mk op n l, v => ∃ a cap, v = .agg #[.string (Em.str op), .int .i64 n, .slice a l.length cap] ∧
      Txt op ∧ I64 n ∧ l.length ≤ cap ∧ cap ≤ 9223372036854775807 ∧ (0 < l.length → ∃ b off, a = some ⟨b, off, none⟩ ∧ b < w.heap.size ∧ TysAt w b off l)
/-- At the place off of the block b the types lie one behind the other. -/
def TysAt (w : World) (b : Nat) : Nat → List Ty → Prop
  | _, [] => True
  | off, t :: r => (∃ c0 c1 c2, w.cell? ⟨b, off, none⟩ = some c0 ∧ w.cell? ⟨b, off + 1, none⟩ = some c1 ∧ w.cell? ⟨b, off + 2, none⟩ = some c2 ∧ IsTy w t (.agg #[c0, c1, c2])) ∧ TysAt w b (off + 3) r
end

theorem tysAt_get {w : World} {b : Nat} : ∀ (l : List Ty) (off j : Nat) (t : Ty), TysAt w b off l → l[j]? = some t →
    ∃ c0 c1 c2, w.cell? ⟨b, off + j * 3, none⟩ = some c0 ∧ w.cell? ⟨b, off + j * 3 + 1, none⟩ = some c1 ∧ w.cell? ⟨b, off + j * 3 + 2, none⟩ = some c2 ∧ IsTy w t (.agg #[c0, c1, c2])
  | [], _, _, _, _, h => by simp at h
  | x :: r, off, 0, t, hk, h => by
    simp at h; subst h
    unfold TysAt at hk
    simpa using hk.1
  | x :: r, off, j + 1, t, hk, h => by
    unfold TysAt at hk
    have := tysAt_get r (off + 3) j t hk.2 (by simpa using h)
    rw [show off + (j + 1) * 3 = off + 3 + j * 3 by omega]
    exact this

theorem tysAt_mk {w : World} {b : Nat} : ∀ (l : List Ty) (off : Nat), (∀ j t, l[j]? = some t →
    ∃ c0 c1 c2, w.cell? ⟨b, off + j * 3, none⟩ = some c0 ∧ w.cell? ⟨b, off + j * 3 + 1, none⟩ = some c1 ∧ w.cell? ⟨b, off + j * 3 + 2, none⟩ = some c2 ∧ IsTy w t (.agg #[c0, c1, c2])) → TysAt w b off l
  | [], _, _ => by unfold TysAt; trivial
  | x :: r, off, h => by
    unfold TysAt
    refine ⟨by simpa using h 0 x rfl, tysAt_mk r (off + 3) fun j t hj => ?_⟩
    have := h (j + 1) t (by simpa using hj)
    rw [show off + (j + 1) * 3 = off + 3 + j * 3 by omega] at this
    exact this

/-- What is handed in stays as it is, if memory is only made. -/
theorem isTy_below {w w' : World} (hb : Below w.heap.size w w') : ∀ (t : Ty) (v : Value), IsTy w t v → IsTy w' t v := by
  intro t
  induction t using Ty.ind with
  | h op n l ih =>
    intro v h
    unfold IsTy at h ⊢
    obtain ⟨a, cap, h1, h2, h5, h7, h8, h9⟩ := h
    refine ⟨a, cap, h1, h2, h5, h7, h8, fun hp => ?_⟩
    obtain ⟨b, off, e, hlt, hk⟩ := h9 hp
    refine ⟨b, off, e, Nat.lt_of_lt_of_le hlt hb.size, tysAt_mk l off fun j t hj => ?_⟩
    obtain ⟨c0, c1, c2, k0, k1, k2, kn⟩ := tysAt_get l off j t hk hj
    have key : ∀ o, w'.cell? ⟨b, o, none⟩ = w.cell? ⟨b, o, none⟩ := fun o => hb.cell (p := ⟨b, o, none⟩) hlt
    exact ⟨c0, c1, c2, by rw [key]; exact k0, by rw [key]; exact k1, by rw [key]; exact k2, ih t (List.mem_of_getElem? hj) _ kn⟩

/-! ### How many nodes -/
mutual
def Ty.size : Ty → Nat | .mk _ _ l => tsizes l + 1
def tsizes : List Ty → Nat | [] => 0 | t :: r => t.size + tsizes r
end
theorem tsizes_app (a b : List Ty) : tsizes (a ++ b) = tsizes a + tsizes b := by
  induction a with
  | nil => simp [tsizes]
  | cons x r ih => simp only [List.cons_append, tsizes, ih]; omega
theorem tsizes_take (l : List Ty) (j : Nat) (t : Ty) (h : l[j]? = some t) : tsizes (l.take (j + 1)) = tsizes (l.take j) + t.size := by
  have hj := (List.getElem?_eq_some_iff.1 h).1
  have e : l[j] = t := (List.getElem?_eq_some_iff.1 h).2
  rw [List.take_succ_eq_append_getElem hj, tsizes_app, e]
  simp [tsizes]
theorem tsizes_take_le (l : List Ty) (j : Nat) : tsizes (l.take j) ≤ tsizes l := by
  have := tsizes_app (l.take j) (l.drop j)
  rw [List.take_append_drop] at this
  omega

/-! ### Which are such; same ones; which are sent -/
def tInt : List Int := [105, 110, 116]
def tBool : List Int := [98, 111, 111, 108]
def tUnit : List Int := [117, 110, 105, 116]
def tString : List Int := [115, 116, 114, 105, 110, 103]
def tCell : List Int := [99, 101, 108, 108]
def tVar : List Int := [118, 97, 114]
def tList : List Int := [108, 105, 115, 116]
def tRef : List Int := [114, 101, 102]
def tPair : List Int := [112, 97, 105, 114]
def tFun : List Int := [102, 117, 110]
def tkids (op : List Int) : Int := if op ∈ [tInt, tBool, tUnit, tString, tCell, tVar] then 0 else if op ∈ [tList, tRef] then 1 else if op ∈ [tPair, tFun] then 2 else -1
mutual
def teach : Ty → Bool | .mk op n l => decide (tkids op = l.length) && (decide (0 ≤ n) && ((decide (op = tVar) || decide (n = 0)) && teachs l))
def teachs : List Ty → Bool | [] => true | t :: r => teach t && teachs r
end
def isTy (t : Ty) : Bool := decide (t.size ≤ 2000) && teach t
theorem teachs_iff (l : List Ty) : teachs l = true ↔ ∀ t ∈ l, teach t = true := by
  induction l with
  | nil => simp [teachs]
  | cons x r ih => simp [teachs, ih]
theorem teachs_no {l : List Ty} {j : Nat} {t : Ty} (h : l[j]? = some t) (ht : teach t = false) : teachs l = false := by
  rw [Bool.eq_false_iff]; intro h2
  have := (teachs_iff l).1 h2 t (List.mem_of_getElem? h)
  rw [ht] at this; cases this
theorem teachs_yes {l : List Ty} (h : ∀ (j : Nat) t, j < l.length → l[j]? = some t → teach t = true) : teachs l = true :=
  (teachs_iff l).2 fun t ht => by
    obtain ⟨j, hj, e⟩ := List.getElem_of_mem ht
    exact h j t hj (by rw [List.getElem?_eq_getElem hj, e])
mutual
def tsent : Ty → Bool | .mk op _ l => if op = tVar ∨ op = tFun then false else tsents l
def tsents : List Ty → Bool | [] => true | t :: r => tsent t && tsents r
end
theorem tsents_iff (l : List Ty) : tsents l = true ↔ ∀ t ∈ l, tsent t = true := by
  induction l with
  | nil => simp [tsents]
  | cons x r ih => simp [tsents, ih]
mutual
def tsame : Ty → Ty → Bool
  | .mk op n l, .mk op' n' l' => decide (op = op') && (decide (n = n') && tsames l l')
def tsames : List Ty → List Ty → Bool
  | [], [] => true
  | a :: r, b :: s => tsame a b && tsames r s
  | _, _ => false
end
theorem tsames_len : ∀ (l m : List Ty), l.length ≠ m.length → tsames l m = false
  | [], [], h => by simp at h
  | [], _ :: _, _ => by simp [tsames]
  | _ :: _, [], _ => by simp [tsames]
  | a :: r, b :: s, h => by
    simp only [tsames]
    rw [tsames_len r s (by simpa using h), Bool.and_false]
theorem tsames_no : ∀ (l m : List Ty) (j : Nat) (s t : Ty), l[j]? = some s → m[j]? = some t → tsame s t = false → tsames l m = false
  | [], _, _, _, _, h, _, _ => by simp at h
  | _ :: _, [], _, _, _, _, h, _ => by simp at h
  | a :: r, b :: q, 0, s, t, h1, h2, h => by
    simp at h1 h2; subst h1; subst h2
    simp [tsames, h]
  | a :: r, b :: q, j + 1, s, t, h1, h2, h => by
    simp only [tsames]
    rw [tsames_no r q j s t (by simpa using h1) (by simpa using h2) h, Bool.and_false]
theorem tsames_yes : ∀ (l m : List Ty), l.length = m.length → (∀ (j : Nat) (s t : Ty), l[j]? = some s → m[j]? = some t → tsame s t = true) → tsames l m = true
  | [], [], _, _ => rfl
  | [], _ :: _, h, _ => by simp at h
  | _ :: _, [], h, _ => by simp at h
  | a :: r, b :: q, hl, h => by
    simp only [tsames]
    rw [h 0 a b rfl rfl, tsames_yes r q (by simpa using hl) (fun j s t h1 h2 => h (j + 1) s t (by simpa using h1) (by simpa using h2)), Bool.and_self]
mutual
theorem tsame_iff : ∀ (s t : Ty), tsame s t = true ↔ s = t
  | .mk op n l, .mk op' n' l' => by
    simp only [tsame, Bool.and_eq_true, decide_eq_true_eq, tsames_iff l l', Ty.mk.injEq]
theorem tsames_iff : ∀ (l m : List Ty), tsames l m = true ↔ l = m
  | [], [] => by simp [tsames]
  | [], _ :: _ => by simp [tsames]
  | _ :: _, [] => by simp [tsames]
  | a :: r, b :: s => by simp only [tsames, Bool.and_eq_true, tsame_iff a b, tsames_iff r s, List.cons.injEq]
end
end Go.Em8

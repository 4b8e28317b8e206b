/- Several texts in one: Math6, NdP, Sixes, PSt, PNd, Math6b, Math6c. -/
import Derived.Test.YtoekhejpompjlaaDoorPureA
namespace Go.Em6
open Go.RowKit Go.Em4 Go.Em5

abbrev Err := Nat × Nat
/-- What is had of tokens: an expression, and what is left; or the first error, and its place. -/
abbrev R := Except Err (Nd × List Tok)
/-- What is left; or the first error, and its place. -/
abbrev St := Except Err (List Tok)

def posL : List Tok → Nat | [] => 0 | t :: _ => t.pos
def isW (s : List Int) : List Tok → Bool | [] => false | t :: _ => decide (t.kind = 4) && decide (t.text = s)
def bnd {α β : Type} (r : Except Err (α × List Tok)) (f : α → List Tok → Except Err β) : Except Err β := match r with
  | .error e => .error e
  | .ok (a, L) => f a L
def bnd0 {β : Type} (r : St) (f : List Tok → Except Err β) : Except Err β := match r with
  | .error e => .error e
  | .ok L => f L
def nd (op : List Int) (p : Nat) (kids : List Nd) : Nd := .mk op [] [] 0 p kids
def need (s : List Int) (L : List Tok) : St := if isW s L then .ok L.tail else .error (2, posL L)
def name : List Tok → Except Err (List Int × List Tok)
  | [] => .error (2, 0)
  | t :: r => if t.kind = 1 then .ok (t.text, r) else .error (2, t.pos)
def begins : List Tok → Bool
  | [] => false
  | t :: _ => if t.kind = 4 then (decide (t.text = [116, 114, 117, 101]) || (decide (t.text = [102, 97, 108, 115, 101]) || (decide (t.text = [33]) || (decide (t.text = [40]) || decide (t.text = [91]))))) else !decide (t.kind = 5)

def roundS (E : List Tok → R) (p : Nat) (L : List Tok) : R :=
  if isW [41] L then .ok (nd [117, 110, 105, 116] p [], L.tail)
  else bnd (E L) fun a L1 =>
    if isW [44] L1 then bnd (E L1.tail) fun b L2 => bnd0 (need [41] L2) fun L3 => .ok (nd [112, 97, 105, 114] p [a, b], L3)
    else bnd0 (need [41] L1) fun L3 => .ok (a, L3)
def atomS (E A : List Tok → R) : List Tok → R
  | [] => .error (2, 0)
  | t :: r =>
    if t.kind = 2 then .ok (.mk [105, 110, 116] [] [] t.num t.pos [], r)
    else if t.kind = 3 then .ok (.mk [115, 116, 114] t.text [] 0 t.pos [], r)
    else if t.kind = 1 then .ok (.mk [118, 97, 114] t.text [] 0 t.pos [], r)
    else if isW [116, 114, 117, 101] (t :: r) then .ok (.mk [98, 111, 111, 108] [] [] 1 t.pos [], r)
    else if isW [102, 97, 108, 115, 101] (t :: r) then .ok (.mk [98, 111, 111, 108] [] [] 0 t.pos [], r)
    else if isW [33] (t :: r) then bnd (A r) fun a L => .ok (nd [103, 101, 116] t.pos [a], L)
    else if isW [91] (t :: r) then bnd0 (need [93] r) fun L => .ok (nd [110, 105, 108] t.pos [], L)
    else if isW [40] (t :: r) then roundS E t.pos r
    else .error (2, t.pos)
def ones : List (List Int) := [[114, 97, 105, 115, 101], [102, 115, 116], [115, 110, 100], [114, 101, 102], [99, 101, 108, 108], [116, 97, 103], [108, 105, 110, 107, 115], [115, 105, 122, 101], [112, 114, 105, 110, 116]]
def appF (A : List Tok → R) : Nat → Nd → List Tok → R
  | 0, a, L => .ok (a, L)
  | f + 1, a, L => if begins L then bnd (A L) fun b L' => appF A f (nd [97, 112, 112] (posL L) [a, b]) L' else .ok (a, L)
def appS (A : List Tok → R) (L : List Tok) : R :=
  match ones.find? (fun o => isW o L) with
  | some o => bnd (A L.tail) fun a L' => .ok (nd o (posL L) [a], L')
  | none =>
    if isW [108, 105, 110, 107] L then bnd (A L.tail) fun a L1 => bnd (A L1) fun b L2 => .ok (nd [108, 105, 110, 107] (posL L) [a, b], L2)
    else bnd (A L) fun a L1 => appF A L1.length a L1
def prodF (C : List Tok → R) : Nat → Nd → List Tok → R
  | 0, a, L => .ok (a, L)
  | f + 1, a, L => if isW [42] L then bnd (C L.tail) fun b L' => prodF C f (nd [109, 117, 108] (posL L) [a, b]) L' else .ok (a, L)
def prodS (C : List Tok → R) (L : List Tok) : R := bnd (C L) fun a L1 => prodF C L1.length a L1
def sumF (C : List Tok → R) : Nat → Nd → List Tok → R
  | 0, a, L => .ok (a, L)
  | f + 1, a, L =>
    if isW [43] L then bnd (C L.tail) fun b L' => sumF C f (nd [97, 100, 100] (posL L) [a, b]) L'
    else if isW [45] L then bnd (C L.tail) fun b L' => sumF C f (nd [115, 117, 98] (posL L) [a, b]) L'
    else if isW [94] L then bnd (C L.tail) fun b L' => sumF C f (nd [99, 97, 116] (posL L) [a, b]) L'
    else .ok (a, L)
def sumS (C : List Tok → R) (L : List Tok) : R := bnd (C L) fun a L1 => sumF C L1.length a L1
def consF (C : List Tok → R) : Nat → List Tok → R
  | 0, _ => .error (0, 0)
  | f + 1, L => bnd (C L) fun a L1 => if isW [58, 58] L1 then bnd (consF C f L1.tail) fun b L2 => .ok (nd [99, 111, 110, 115] (posL L1) [a, b], L2) else .ok (a, L1)
def consS (C : List Tok → R) (L : List Tok) : R := consF C (L.length + 1) L
def cmpS (C : List Tok → R) (L : List Tok) : R := bnd (C L) fun a L1 =>
  if isW [61] L1 then bnd (C L1.tail) fun b L2 => .ok (nd [101, 113] (posL L1) [a, b], L2)
  else if isW [60] L1 then bnd (C L1.tail) fun b L2 => .ok (nd [108, 101, 115, 115] (posL L1) [a, b], L2)
  else .ok (a, L1)
def setS (C : List Tok → R) (L : List Tok) : R := bnd (C L) fun a L1 =>
  if isW [58, 61] L1 then bnd (C L1.tail) fun b L2 => .ok (nd [115, 101, 116] (posL L1) [a, b], L2) else .ok (a, L1)
def letT (E : List Tok → R) (op x y : List Int) (p : Nat) (L : List Tok) : R :=
  bnd0 (need [61] L) fun L3 => bnd (E L3) fun a L4 => bnd0 (need [105, 110] L4) fun L5 => bnd (E L5) fun b L6 => .ok (.mk op x y 0 p [a, b], L6)
def letS (E : List Tok → R) (p : Nat) (L : List Tok) : R :=
  if isW [114, 101, 99] L then bnd (name L.tail) fun x L1 => bnd (name L1) fun y L2 => letT E [114, 101, 99] x y p L2
  else bnd (name L) fun x L1 => letT E [108, 101, 116] x [] p L1
def matchS (E : List Tok → R) (p : Nat) (L : List Tok) : R :=
  bnd (E L) fun a L1 => bnd0 (need [119, 105, 116, 104] L1) fun L2 => bnd0 (need [91] L2) fun L3 => bnd0 (need [93] L3) fun L4 => bnd0 (need [45, 62] L4) fun L5 =>
  bnd (E L5) fun b L6 => bnd0 (need [124] L6) fun L7 => bnd (name L7) fun x L8 => bnd0 (need [58, 58] L8) fun L9 => bnd (name L9) fun y L10 => bnd0 (need [45, 62] L10) fun L11 =>
  bnd (E L11) fun c L12 => .ok (.mk [109, 97, 116, 99, 104] x y 0 p [a, b, c], L12)
def exprS (S E : List Tok → R) (L : List Tok) : R :=
  if isW [108, 101, 116] L then letS E (posL L) L.tail
  else if isW [102, 117, 110] L then bnd (name L.tail) fun x L1 => bnd0 (need [45, 62] L1) fun L2 => bnd (E L2) fun a L3 => .ok (.mk [102, 117, 110] x [] 0 (posL L) [a], L3)
  else if isW [105, 102] L then bnd (E L.tail) fun a L1 => bnd0 (need [116, 104, 101, 110] L1) fun L2 => bnd (E L2) fun b L3 => bnd0 (need [101, 108, 115, 101] L3) fun L4 => bnd (E L4) fun c L5 => .ok (nd [105, 102] (posL L) [a, b, c], L5)
  else if isW [109, 97, 116, 99, 104] L then matchS E (posL L) L.tail
  else if isW [116, 114, 121] L then bnd (E L.tail) fun a L1 => bnd0 (need [119, 105, 116, 104] L1) fun L2 => bnd (name L2) fun x L3 => bnd0 (need [45, 62] L3) fun L4 => bnd (E L4) fun b L5 => .ok (.mk [116, 114, 121] x [] 0 (posL L) [a, b], L5)
  else bnd (S L) fun a L1 => if isW [59] L1 then bnd (E L1.tail) fun b L2 => .ok (nd [115, 101, 113] (posL L1) [a, b], L2) else .ok (a, L1)
/-- The exprs and the atoms that are so many less deep than may be. -/
def lev : Nat → (List Tok → R) × (List Tok → R)
  | 0 => (fun L => .error (3, posL L), fun L => .error (3, posL L))
  | f + 1 => (exprS (setS (cmpS (consS (sumS (prodS (appS (atomS (lev f).1 (lev f).2))))))) (lev f).1, atomS (lev f).1 (lev f).2)
def parseT (T : List Tok) : Except Err Nd := bnd ((lev 40).1 T) fun n L => if (L.head?.map (·.kind)) = some 5 then .ok n else .error (2, posL L)
/-- The expression of a text; or the first error, and its place. -/
def parse (L : List Int) : Except Err Nd :=
  if 2000 < L.length then .error (7, 0) else match toks L with
  | .error p => .error (2, p)
  | .ok T => parseT T

/-! ### Tokens whose last is the End -/
def EndL (L : List Tok) : Prop := ∃ t, L.getLast? = some t ∧ t.kind = 5
theorem EndL.ne {L : List Tok} (h : EndL L) : L ≠ [] := by rintro rfl; obtain ⟨t, h, -⟩ := h; simp at h
theorem EndL.tail {t : Tok} {r : List Tok} (h : EndL (t :: r)) (hk : t.kind ≠ 5) : EndL r := by
  obtain ⟨x, hx, h5⟩ := h
  cases r with
  | nil => simp at hx; subst hx; exact absurd h5 hk
  | cons y r => exact ⟨x, by simpa [List.getLast?_cons_cons] using hx, h5⟩

/-! ### What a state is, and what becomes of it -/
def thn {α : Type} (s : St) (F : List Tok → Except Err α) : Except Err α := bnd0 s F
/-- What was had: the expression n, and the state s. -/
def Fits (r : R) (n : Nd) (s : St) : Prop := match r with
  | .error e => s = .error e
  | .ok (m, L) => n = m ∧ s = .ok L
def posS : St → Nat | .error e => e.2 | .ok L => posL L
def isWS (x : List Int) : St → Bool | .error _ => false | .ok L => isW x L
def tailS : St → St | .error e => .error e | .ok L => .ok L.tail
def failS (c : Nat) : St → St | .error e => .error e | .ok L => .error (c, posL L)
def needS (x : List Int) (s : St) : St := if isWS x s then tailS s else failS 2 s
def beginsS : St → Bool | .error _ => false | .ok L => begins L
def nameS : St → List Int × St
  | .error e => ([], .error e)
  | .ok [] => ([], .error (2, 0))
  | .ok (t :: r) => if t.kind = 1 then (t.text, .ok r) else ([], .error (2, t.pos))
/-- The next token; behind an error the End. -/
def nowS : St → Tok
  | .error e => ⟨5, [], 0, e.2⟩
  | .ok [] => ⟨5, [], 0, 0⟩
  | .ok (t :: _) => t

theorem needS_thn (x : List Int) (s : St) : needS x s = thn s (need x) := by
  cases s with
  | error e => rfl
  | ok L => rfl
theorem isW_nil (x : List Int) : isW x [] = false := rfl
theorem isWS_ok {x : List Int} {s : St} (h : isWS x s = true) : ∃ t r, s = .ok (t :: r) ∧ t.kind = 4 ∧ t.text = x ∧ tailS s = .ok r := by
  cases s with
  | error e => simp [isWS] at h
  | ok L => cases L with
    | nil => simp [isWS, isW] at h
    | cons t r => simp [isWS, isW] at h; exact ⟨t, r, rfl, h.1, h.2, rfl⟩
theorem posS_now (s : St) : posS s = (nowS s).pos := by
  cases s with
  | error e => rfl
  | ok L => cases L <;> rfl
theorem isWS_now (x : List Int) (s : St) : isWS x s = (decide ((nowS s).kind = 4) && decide ((nowS s).text = x)) := by
  cases s with
  | error e => simp [isWS, nowS]
  | ok L => cases L with
    | nil => simp [isWS, nowS, isW]
    | cons t r => rfl
end Go.Em6

namespace Go.Em5
open Go.RowKit

mutual
/-- As 'IsNd'; and of each block that it lies in P holds. -/
def IsNdP (P : Nat → Prop) (w : World) : Nd → Value → Prop
  | .mk op nm ar n p l, v => ∃ a cap, v = .agg #[.string (Em.str op), .string (Em.str nm), .string (Em.str ar), .int .i64 n, .int .i64 p, .slice a l.length cap] ∧
      Txt op ∧ Txt nm ∧ Txt ar ∧ I64 n ∧ I64 p ∧ l.length ≤ cap ∧ cap ≤ 9223372036854775807 ∧ (0 < l.length → ∃ b off, a = some ⟨b, off, none⟩ ∧ b < w.heap.size ∧ P b ∧ KidsAtP P w b off l)
def KidsAtP (P : Nat → Prop) (w : World) (b : Nat) : Nat → List Nd → Prop
  | _, [] => True
  | off, t :: r => (∃ c0 c1 c2 c3 c4 c5, w.cell? ⟨b, off, none⟩ = some c0 ∧ w.cell? ⟨b, off + 1, none⟩ = some c1 ∧ w.cell? ⟨b, off + 2, none⟩ = some c2 ∧ w.cell? ⟨b, off + 3, none⟩ = some c3 ∧ w.cell? ⟨b, off + 4, none⟩ = some c4 ∧ w.cell? ⟨b, off + 5, none⟩ = some c5 ∧ IsNdP P w t (.agg #[c0, c1, c2, c3, c4, c5])) ∧ KidsAtP P w b (off + 6) r
end
theorem kidsAtP_get {P : Nat → Prop} {w : World} {b : Nat} : ∀ (l : List Nd) (off j : Nat) (t : Nd), KidsAtP P w b off l → l[j]? = some t →
    ∃ c0 c1 c2 c3 c4 c5, w.cell? ⟨b, off + j * 6, none⟩ = some c0 ∧ w.cell? ⟨b, off + j * 6 + 1, none⟩ = some c1 ∧ w.cell? ⟨b, off + j * 6 + 2, none⟩ = some c2 ∧ w.cell? ⟨b, off + j * 6 + 3, none⟩ = some c3 ∧ w.cell? ⟨b, off + j * 6 + 4, none⟩ = some c4 ∧ w.cell? ⟨b, off + j * 6 + 5, none⟩ = some c5 ∧ IsNdP P w t (.agg #[c0, c1, c2, c3, c4, c5])
  | [], _, _, _, _, h => by simp at h
  | x :: r, off, 0, t, hk, h => by
    simp at h; subst h
    unfold KidsAtP at hk
    simpa using hk.1
  | x :: r, off, j + 1, t, hk, h => by
    unfold KidsAtP at hk
    have := kidsAtP_get r (off + 6) j t hk.2 (by simpa using h)
    rw [show off + (j + 1) * 6 = off + 6 + j * 6 by omega]
    exact this
theorem kidsAtP_mk {P : Nat → Prop} {w : World} {b : Nat} : ∀ (l : List Nd) (off : Nat), (∀ j t, l[j]? = some t →
    ∃ c0 c1 c2 c3 c4 c5, w.cell? ⟨b, off + j * 6, none⟩ = some c0 ∧ w.cell? ⟨b, off + j * 6 + 1, none⟩ = some c1 ∧ w.cell? ⟨b, off + j * 6 + 2, none⟩ = some c2 ∧ w.cell? ⟨b, off + j * 6 + 3, none⟩ = some c3 ∧ w.cell? ⟨b, off + j * 6 + 4, none⟩ = some c4 ∧ w.cell? ⟨b, off + j * 6 + 5, none⟩ = some c5 ∧ IsNdP P w t (.agg #[c0, c1, c2, c3, c4, c5])) → KidsAtP P w b off l
  | [], _, _ => by unfold KidsAtP; trivial
  | x :: r, off, h => by
    unfold KidsAtP
    refine ⟨by simpa using h 0 x rfl, kidsAtP_mk r (off + 6) fun j t hj => ?_⟩
    have := h (j + 1) t (by simpa using hj)
    rw [show off + (j + 1) * 6 = off + 6 + j * 6 by omega] at this
    exact this
/-- What P speaks of stays as it is: so does the expression; and P may be turned. -/
theorem isNdP_keep {P Q : Nat → Prop} {w w' : World} (hs : w.heap.size ≤ w'.heap.size) (hb : ∀ b, P b → b < w.heap.size → w'.heap[b]? = w.heap[b]? ∧ Q b) : ∀ (t : Nd) (v : Value), IsNdP P w t v → IsNdP Q w' t v := by
  intro t
  induction t using Nd.ind with
  | h op nm ar n p l ih =>
    intro v h
    unfold IsNdP at h ⊢
    obtain ⟨a, cap, h1, h2, h3, h4, h5, h6, h7, h8, h9⟩ := h
    refine ⟨a, cap, h1, h2, h3, h4, h5, h6, h7, h8, fun hp => ?_⟩
    obtain ⟨b, off, e, hlt, hP, hk⟩ := h9 hp
    obtain ⟨hblk, hQ⟩ := hb b hP hlt
    refine ⟨b, off, e, Nat.lt_of_lt_of_le hlt hs, hQ, kidsAtP_mk l off fun j t hj => ?_⟩
    obtain ⟨c0, c1, c2, c3, c4, c5, k0, k1, k2, k3, k4, k5, kn⟩ := kidsAtP_get l off j t hk hj
    have key : ∀ o, w'.cell? ⟨b, o, none⟩ = w.cell? ⟨b, o, none⟩ := fun o => World.cell?_of_block (a := ⟨b, o, none⟩) hblk
    exact ⟨c0, c1, c2, c3, c4, c5, by rw [key]; exact k0, by rw [key]; exact k1, by rw [key]; exact k2, by rw [key]; exact k3, by rw [key]; exact k4, by rw [key]; exact k5, ih t (List.mem_of_getElem? hj) _ kn⟩
theorem isNdP_is {P : Nat → Prop} {w : World} : ∀ (t : Nd) (v : Value), IsNdP P w t v → IsNd w t v := by
  intro t
  induction t using Nd.ind with
  | h op nm ar n p l ih =>
    intro v h
    unfold IsNdP at h
    unfold IsNd
    obtain ⟨a, cap, h1, h2, h3, h4, h5, h6, h7, h8, h9⟩ := h
    refine ⟨a, cap, h1, h2, h3, h4, h5, h6, h7, h8, fun hp => ?_⟩
    obtain ⟨b, off, e, hlt, hP, hk⟩ := h9 hp
    refine ⟨b, off, e, hlt, kidsAt_mk l off fun j t hj => ?_⟩
    obtain ⟨c0, c1, c2, c3, c4, c5, k0, k1, k2, k3, k4, k5, kn⟩ := kidsAtP_get l off j t hk hj
    exact ⟨c0, c1, c2, c3, c4, c5, k0, k1, k2, k3, k4, k5, ih t (List.mem_of_getElem? hj) _ kn⟩
theorem isNdP_shape {P : Nat → Prop} {w : World} {t : Nd} {v : Value} (h : IsNdP P w t v) : ∃ s0 s1 s2 n p a l c, v = .agg #[.string s0, .string s1, .string s2, .int .i64 n, .int .i64 p, .slice a l c] := by
  cases t
  unfold IsNdP at h
  obtain ⟨a, cap, h1, -⟩ := h
  exact ⟨_, _, _, _, _, _, _, _, h1⟩
/-- A node without kids. -/
theorem isNdP_leaf {P : Nat → Prop} {w : World} {op nm ar : List Int} {n p : Int} (h1 : Txt op) (h2 : Txt nm) (h3 : Txt ar) (h4 : I64 n) (h5 : I64 p) :
    IsNdP P w (.mk op nm ar n p []) (.agg #[.string (Em.str op), .string (Em.str nm), .string (Em.str ar), .int .i64 n, .int .i64 p, .slice none 0 0]) := by
  unfold IsNdP
  exact ⟨none, 0, rfl, h1, h2, h3, h4, h5, by simp, by simp, fun h => by simp at h⟩
/-- A node of kids that lie in a block of their own. -/
theorem isNdP_node {P : Nat → Prop} {w : World} {op nm ar : List Int} {n p : Int} {b : Nat} {l : List Nd} {cap : Nat} (h1 : Txt op) (h2 : Txt nm) (h3 : Txt ar) (h4 : I64 n) (h5 : I64 p) (hb : b < w.heap.size) (hP : P b) (hc : l.length ≤ cap) (hc2 : cap ≤ 9223372036854775807) (hk : KidsAtP P w b 0 l) :
    IsNdP P w (.mk op nm ar n p l) (.agg #[.string (Em.str op), .string (Em.str nm), .string (Em.str ar), .int .i64 n, .int .i64 p, .slice (some ⟨b, 0, none⟩) l.length cap]) := by
  unfold IsNdP
  exact ⟨_, cap, rfl, h1, h2, h3, h4, h5, hc, hc2, fun _ => ⟨b, 0, rfl, hb, hP, hk⟩⟩
/-- The cells of a struct of six. -/
def six : Value → List Value
  | .agg c => c.toList
  | _ => []
/-- Kids, as a literal of structs lays them. -/
theorem kidsAtP_lit {P : Nat → Prop} {w : World} {b : Nat} {ty : TypeId} {fr : Nat × Nat} {C : Array Value} (hb : w.heap[b]? = some (.cells C ty fr)) : ∀ (l : List Nd) (vs : List Value) (off : Nat), (∀ j, (vs.flatMap six)[j]? = C[off + j]? ∨ (vs.flatMap six).length ≤ j) → l.length = vs.length → (∀ (j : Nat) t v, l[j]? = some t → vs[j]? = some v → IsNdP P w t v) → KidsAtP P w b off l
  | [], _, _, _, _, _ => by unfold KidsAtP; trivial
  | t :: r, [], _, _, h, _ => by simp at h
  | t :: r, v :: vs, off, hC, hl, hn => by
    have h0 := hn 0 t v rfl rfl
    obtain ⟨s0, s1, s2, n, p, a, l, c, rfl⟩ := isNdP_shape h0
    have key : ∀ o, w.cell? ⟨b, o, none⟩ = C[o]? := fun o => by simp [World.cell?, hb]
    have e : ∀ j, j < 6 → C[off + j]? = ([Value.string s0, .string s1, .string s2, .int .i64 n, .int .i64 p, .slice a l c] : List Value)[j]? := fun j hj => by
      rcases hC j with h | h
      · rw [← h]
        simp only [List.flatMap_cons, six]
        rw [List.getElem?_append_left (by simpa using hj)]
      · simp [six] at h; omega
    unfold KidsAtP
    refine ⟨⟨_, _, _, _, _, _, by rw [key]; exact e 0 (by omega), by rw [key]; exact e 1 (by omega), by rw [key]; exact e 2 (by omega), by rw [key]; exact e 3 (by omega), by rw [key]; exact e 4 (by omega), by rw [key]; exact e 5 (by omega), h0⟩, ?_⟩
    refine kidsAtP_lit hb r vs (off + 6) (fun j => ?_) (by simpa using hl) (fun j t v h1 h2 => hn (j + 1) t v (by simpa using h1) (by simpa using h2))
    rcases hC (6 + j) with h | h
    · left
      rw [show off + 6 + j = off + (6 + j) by omega, ← h]
      simp only [List.flatMap_cons, six]
      rw [List.getElem?_append_right (by simp)]
      congr 1
      simp
    · right
      simp [six] at h ⊢
      omega

/-- Behind a call that turns the one block pb, and makes memory. -/
structure Bes (pb : Nat) (w w' : World) : Prop where
  os : w'.os = w.os
  tape : w'.tape = w.tape
  output : w'.output = w.output
  size : w.heap.size ≤ w'.heap.size
  block : ∀ k, k < w.heap.size → k ≠ pb → w'.heap[k]? = w.heap[k]?
theorem Bes.refl (pb : Nat) (w : World) : Bes pb w w := ⟨rfl, rfl, rfl, Nat.le_refl _, fun _ _ _ => rfl⟩
theorem Bes.of {pb : Nat} {w w' : World} (h : Below w.heap.size w w') : Bes pb w w' := ⟨h.os, h.tape, h.output, h.size, fun k hk _ => h.block k hk⟩
theorem Bes.trans {pb : Nat} {a b c : World} (h : Bes pb a b) (k : Bes pb b c) : Bes pb a c :=
  ⟨k.os.trans h.os, k.tape.trans h.tape, k.output.trans h.output, Nat.le_trans h.size k.size, fun i hi hn => (k.block i (Nat.lt_of_lt_of_le hi h.size) hn).trans (h.block i hi hn)⟩
theorem Bes.drew {pb : Nat} {a w : World} (h : Bes pb a w) : Bes pb a w.drew := ⟨h.os, h.tape, h.output, h.size, h.block⟩
theorem Bes.alloc {pb : Nat} {a w : World} (h : Bes pb a w) (o : Obj) : Bes pb a (w.alloc o) :=
  h.trans (Bes.of ((Below.refl _ _).alloc (Nat.le_refl _) o))
theorem Bes.setCell {pb : Nat} {a w : World} (h : Bes pb a w) {p : Addr} (hp : p.block = pb ∨ a.heap.size ≤ p.block) (u : Value) : Bes pb a (w.setCell p u) :=
  ⟨h.os, h.tape, h.output, by simpa using h.size, fun k hk hn => by
    rw [Below.heap_setCell _ _ _ _ (by rcases hp with hp | hp <;> omega)]
    exact h.block k hk hn⟩
theorem Bes.put {pb : Nat} {a w : World} (h : Bes pb a w) (o : Nat) (u : Value) : Bes pb a (w.setCell ⟨pb, o, none⟩ u) := h.setCell (.inl rfl) u
theorem Bes.cell {pb : Nat} {w w' : World} (h : Bes pb w w') {p : Addr} (hp : p.block < w.heap.size) (hn : p.block ≠ pb) : w'.cell? p = w.cell? p := World.cell?_of_block (w := w) (h.block p.block hp hn)
theorem Bes.frozen {pb : Nat} {w w' : World} (h : Bes pb w w') {p : Addr} (hp : p.block < w.heap.size) (hn : p.block ≠ pb) : w'.frozen? p = w.frozen? p := World.frozen?_of_block (w := w) (h.block p.block hp hn)
end Go.Em5

namespace Go.Em6
open Go.RowKit Go.Em5

/-- A store of six cells. -/
theorem set6 (w : World) (g : Nat) (v0 v1 v2 v3 v4 v5 : Value) (h : ∀ o, o < 6 → (w.cell? ⟨g, o, none⟩).isSome = true) :
    ∃ W, ((((((w.setCell ⟨g, 0, none⟩ v0).setCell ⟨g, 1, none⟩ v1).setCell ⟨g, 2, none⟩ v2).setCell ⟨g, 3, none⟩ v3).setCell ⟨g, 4, none⟩ v4).setCell ⟨g, 5, none⟩ v5) = W ∧
      W.cell? ⟨g, 0, none⟩ = some v0 ∧ W.cell? ⟨g, 1, none⟩ = some v1 ∧ W.cell? ⟨g, 2, none⟩ = some v2 ∧ W.cell? ⟨g, 3, none⟩ = some v3 ∧ W.cell? ⟨g, 4, none⟩ = some v4 ∧ W.cell? ⟨g, 5, none⟩ = some v5 ∧
      (∀ o, W.frozen? ⟨g, o, none⟩ = w.frozen? ⟨g, o, none⟩) ∧ W.heap.size = w.heap.size ∧ (∀ k, k ≠ g → W.heap[k]? = w.heap[k]?) ∧ (∀ pb a, Bes pb a w → a.heap.size ≤ g → Bes pb a W) := by
  have one : ∀ (w : World) (o : Nat) (v : Value), (∀ o, o < 6 → (w.cell? ⟨g, o, none⟩).isSome = true) → o < 6 → ∃ W, w.setCell ⟨g, o, none⟩ v = W ∧ W.cell? ⟨g, o, none⟩ = some v ∧ (∀ j, j ≠ o → W.cell? ⟨g, j, none⟩ = w.cell? ⟨g, j, none⟩) ∧ (∀ o, W.frozen? ⟨g, o, none⟩ = w.frozen? ⟨g, o, none⟩) ∧ W.heap.size = w.heap.size ∧ (∀ k, k ≠ g → W.heap[k]? = w.heap[k]?) ∧ (∀ o, o < 6 → (W.cell? ⟨g, o, none⟩).isSome = true) ∧ (∀ pb a, Bes pb a w → a.heap.size ≤ g → Bes pb a W) := by
    intro w o v h ho
    have e1 := World.cell?_setCell_same' w ⟨g, o, none⟩ v (h o ho)
    have e2 : ∀ j, j ≠ o → (w.setCell ⟨g, o, none⟩ v).cell? ⟨g, j, none⟩ = w.cell? ⟨g, j, none⟩ := fun j hj => World.cell?_setCell_other _ _ _ _ (fun e => hj (by injection e with e1 e2; exact e2.symm))
    refine ⟨_, rfl, e1, e2, fun o => World.frozen?_setCell _ _ _ _, World.size_setCell _ _ _, fun k hk => Below.heap_setCell _ _ _ _ hk, fun j hj => ?_, fun pb a hb hg => hb.setCell (.inr hg) v⟩
    by_cases hjo : j = o
    · subst hjo; rw [e1]; rfl
    · rw [e2 j hjo]; exact h j hj
  obtain ⟨W0, r0, a0, b0, f0, z0, k0, s0, t0⟩ := one w 0 v0 h (by omega)
  obtain ⟨W1, r1, a1, b1, f1, z1, k1, s1, t1⟩ := one W0 1 v1 s0 (by omega)
  obtain ⟨W2, r2, a2, b2, f2, z2, k2, s2, t2⟩ := one W1 2 v2 s1 (by omega)
  obtain ⟨W3, r3, a3, b3, f3, z3, k3, s3, t3⟩ := one W2 3 v3 s2 (by omega)
  obtain ⟨W4, r4, a4, b4, f4, z4, k4, s4, t4⟩ := one W3 4 v4 s3 (by omega)
  obtain ⟨W5, r5, a5, b5, f5, z5, k5, s5, t5⟩ := one W4 5 v5 s4 (by omega)
  refine ⟨W5, by rw [r0, r1, r2, r3, r4, r5], ?_, ?_, ?_, ?_, ?_, a5, fun o => by rw [f5, f4, f3, f2, f1, f0], by omega, fun k hk => by rw [k5 k hk, k4 k hk, k3 k hk, k2 k hk, k1 k hk, k0 k hk], fun pb a hb hg => t5 pb a (t4 pb a (t3 pb a (t2 pb a (t1 pb a (t0 pb a hb hg) hg) hg) hg) hg) hg⟩
  · rw [b5 0 (by omega), b4 0 (by omega), b3 0 (by omega), b2 0 (by omega), b1 0 (by omega), a0]
  · rw [b5 1 (by omega), b4 1 (by omega), b3 1 (by omega), b2 1 (by omega), a1]
  · rw [b5 2 (by omega), b4 2 (by omega), b3 2 (by omega), a2]
  · rw [b5 3 (by omega), b4 3 (by omega), a3]
  · rw [b5 4 (by omega), a4]

/-- A block that was made ahead of a call is as it was made. -/
theorem made {pb : Nat} {w w' : World} {C : Array Value} {ty : TypeId} {g : Nat} (hb : Bes pb (w.alloc (.cells C ty)) w') (hp : pb < w.heap.size) (hg : g = w.heap.size) :
    (∀ o, w'.cell? ⟨g, o, none⟩ = C[o]?) ∧ (∀ o, w'.frozen? ⟨g, o, none⟩ = false) := by
  subst hg
  have e := hb.block w.heap.size (by simp) (by omega)
  refine ⟨fun o => ?_, fun o => ?_⟩
  · rw [World.cell?_of_block (a := ⟨w.heap.size, o, none⟩) e]; simp
  · rw [World.frozen?_of_block (a := ⟨w.heap.size, o, none⟩) e]; simp

/-- A block of six, at a world where it is as it was made. -/
structure Six (w : World) (g : Nat) (v0 v1 v2 v3 v4 v5 : Value) : Prop where
  c0 : w.cell? ⟨g, 0, none⟩ = some v0
  c1 : w.cell? ⟨g, 1, none⟩ = some v1
  c2 : w.cell? ⟨g, 2, none⟩ = some v2
  c3 : w.cell? ⟨g, 3, none⟩ = some v3
  c4 : w.cell? ⟨g, 4, none⟩ = some v4
  c5 : w.cell? ⟨g, 5, none⟩ = some v5
  f0 : w.frozen? ⟨g, 0, none⟩ = false
  f1 : w.frozen? ⟨g, 1, none⟩ = false
  f2 : w.frozen? ⟨g, 2, none⟩ = false
  f3 : w.frozen? ⟨g, 3, none⟩ = false
  f4 : w.frozen? ⟨g, 4, none⟩ = false
  f5 : w.frozen? ⟨g, 5, none⟩ = false
theorem Six.lt {w : World} {g : Nat} {v0 v1 v2 v3 v4 v5 : Value} (h : Six w g v0 v1 v2 v3 v4 v5) : g < w.heap.size := Em.cell_lt h.c0
theorem Six.isSome {w : World} {g : Nat} {v0 v1 v2 v3 v4 v5 : Value} (h : Six w g v0 v1 v2 v3 v4 v5) : ∀ o, o < 6 → (w.cell? ⟨g, o, none⟩).isSome = true := fun o ho => by
  match o, ho with
  | 0, _ => rw [h.c0]; rfl
  | 1, _ => rw [h.c1]; rfl
  | 2, _ => rw [h.c2]; rfl
  | 3, _ => rw [h.c3]; rfl
  | 4, _ => rw [h.c4]; rfl
  | 5, _ => rw [h.c5]; rfl
theorem Six.bes {w w' : World} {g pb : Nat} {v0 v1 v2 v3 v4 v5 : Value} (h : Six w g v0 v1 v2 v3 v4 v5) (hb : Bes pb w w') (hn : g ≠ pb) : Six w' g v0 v1 v2 v3 v4 v5 := by
  have hl := h.lt
  have c : ∀ o, w'.cell? ⟨g, o, none⟩ = w.cell? ⟨g, o, none⟩ := fun o => hb.cell (p := ⟨g, o, none⟩) hl hn
  have f : ∀ o, w'.frozen? ⟨g, o, none⟩ = w.frozen? ⟨g, o, none⟩ := fun o => hb.frozen (p := ⟨g, o, none⟩) hl hn
  exact ⟨by rw [c]; exact h.c0, by rw [c]; exact h.c1, by rw [c]; exact h.c2, by rw [c]; exact h.c3, by rw [c]; exact h.c4, by rw [c]; exact h.c5, by rw [f]; exact h.f0, by rw [f]; exact h.f1, by rw [f]; exact h.f2, by rw [f]; exact h.f3, by rw [f]; exact h.f4, by rw [f]; exact h.f5⟩
theorem Six.below {w w' : World} {g : Nat} {v0 v1 v2 v3 v4 v5 : Value} (h : Six w g v0 v1 v2 v3 v4 v5) (hb : Below w.heap.size w w') : Six w' g v0 v1 v2 v3 v4 v5 :=
  h.bes (pb := w.heap.size) (Bes.of hb) (Nat.ne_of_lt h.lt)
theorem Six.drew {w : World} {g : Nat} {v0 v1 v2 v3 v4 v5 : Value} (h : Six w g v0 v1 v2 v3 v4 v5) : Six w.drew g v0 v1 v2 v3 v4 v5 := h.below (Below.refl _ _).drew
theorem Six.alloc {w : World} {g : Nat} {v0 v1 v2 v3 v4 v5 : Value} (h : Six w g v0 v1 v2 v3 v4 v5) (o : Obj) : Six (w.alloc o) g v0 v1 v2 v3 v4 v5 := h.below ((Below.refl _ _).alloc (Nat.le_refl _) o)
theorem Six.far {w W : World} {g k : Nat} {v0 v1 v2 v3 v4 v5 : Value} (h : Six w g v0 v1 v2 v3 v4 v5) (hk : ∀ j, j ≠ k → W.heap[j]? = w.heap[j]?) (hn : g ≠ k) : Six W g v0 v1 v2 v3 v4 v5 := by
  have c : ∀ o, W.cell? ⟨g, o, none⟩ = w.cell? ⟨g, o, none⟩ := fun o => World.cell?_of_block (a := ⟨g, o, none⟩) (hk g hn)
  have f : ∀ o, W.frozen? ⟨g, o, none⟩ = w.frozen? ⟨g, o, none⟩ := fun o => World.frozen?_of_block (a := ⟨g, o, none⟩) (hk g hn)
  exact ⟨by rw [c]; exact h.c0, by rw [c]; exact h.c1, by rw [c]; exact h.c2, by rw [c]; exact h.c3, by rw [c]; exact h.c4, by rw [c]; exact h.c5, by rw [f]; exact h.f0, by rw [f]; exact h.f1, by rw [f]; exact h.f2, by rw [f]; exact h.f3, by rw [f]; exact h.f4, by rw [f]; exact h.f5⟩
theorem Six.held {w : World} {g : Nat} {v0 v1 v2 v3 v4 v5 : Value} (h : Six w g v0 v1 v2 v3 v4 v5) : w.cell? ⟨g, 0, none⟩ = some v0 ∧ w.cell? ⟨g, 1, none⟩ = some v1 ∧ w.cell? ⟨g, 2, none⟩ = some v2 ∧ w.cell? ⟨g, 3, none⟩ = some v3 ∧ w.cell? ⟨g, 4, none⟩ = some v4 ∧ w.cell? ⟨g, 5, none⟩ = some v5 := ⟨h.c0, h.c1, h.c2, h.c3, h.c4, h.c5⟩
theorem Six.made (w : World) (v0 v1 v2 v3 v4 v5 : Value) (ty : TypeId) : Six (w.alloc (.cells #[v0, v1, v2, v3, v4, v5] ty)) w.heap.size v0 v1 v2 v3 v4 v5 :=
  ⟨by simp, by simp, by simp, by simp, by simp, by simp, by simp, by simp, by simp, by simp, by simp, by simp⟩
/-- A store of six cells. -/
theorem Six.set {w : World} {g : Nat} {u0 u1 u2 u3 u4 u5 : Value} (h : Six w g u0 u1 u2 u3 u4 u5) (v0 v1 v2 v3 v4 v5 : Value) :
    ∃ W, ((((((w.setCell ⟨g, 0, none⟩ v0).setCell ⟨g, 1, none⟩ v1).setCell ⟨g, 2, none⟩ v2).setCell ⟨g, 3, none⟩ v3).setCell ⟨g, 4, none⟩ v4).setCell ⟨g, 5, none⟩ v5) = W ∧
      Six W g v0 v1 v2 v3 v4 v5 ∧ W.heap.size = w.heap.size ∧ (∀ k, k ≠ g → W.heap[k]? = w.heap[k]?) ∧ (∀ pb a, Bes pb a w → a.heap.size ≤ g → Bes pb a W) := by
  obtain ⟨W, e, c0, c1, c2, c3, c4, c5, f, z, k, b⟩ := set6 w g v0 v1 v2 v3 v4 v5 h.isSome
  exact ⟨W, e, ⟨c0, c1, c2, c3, c4, c5, by rw [f]; exact h.f0, by rw [f]; exact h.f1, by rw [f]; exact h.f2, by rw [f]; exact h.f3, by rw [f]; exact h.f4, by rw [f]; exact h.f5⟩, z, k, b⟩
end Go.Em6

namespace Go.Em6
open Go.RowKit Go.Em4 Go.Em5

def TokOk (t : Tok) : Prop := Txt t.text ∧ I64 t.num ∧ t.pos ≤ 140737488351232 ∧ I64 t.kind
/-- A token as a struct. -/
def tokV (t : Tok) : Value := .agg #[.int .i64 t.kind, .string (Em.str t.text), .int .i64 t.num, .int .i64 t.pos]
/-- In the block tb there lie the tokens T, from the place off on. -/
def ToksIn (w : World) (tb off : Nat) (T : List Tok) : Prop := ∀ j t, T[j]? = some t →
  w.cell? ⟨tb, off + j * 4, none⟩ = some (.int .i64 t.kind) ∧ w.cell? ⟨tb, off + j * 4 + 1, none⟩ = some (.string (Em.str t.text)) ∧ w.cell? ⟨tb, off + j * 4 + 2, none⟩ = some (.int .i64 t.num) ∧ w.cell? ⟨tb, off + j * 4 + 3, none⟩ = some (.int .i64 t.pos)
/-- In the block pb there lies a parser over tokens in the block tb; its state is s. -/
def IsSt (w : World) (pb tb : Nat) (s : St) : Prop :=
  ∃ (T : List Tok) (off cap i : Nat) (c p : Int) (ty : TypeId), w.heap[pb]? = some (.cells #[.slice (some ⟨tb, off, none⟩) T.length cap, .int .i64 i, .int .i64 c, .int .i64 p] ty (0, 0)) ∧
    tb ≠ pb ∧ tb < w.heap.size ∧ T.length ≤ cap ∧ cap ≤ maxLen ∧ ToksIn w tb off T ∧ (∀ t ∈ T, TokOk t) ∧
    match s with
    | .ok L => c = 0 ∧ L = T.drop i ∧ EndL L
    | .error (e, a) => c = e ∧ e ≠ 0 ∧ e ≤ 9 ∧ p = a ∧ a ≤ 140737488351232

theorem heap_lt {w : World} {k : Nat} {o : Obj} (h : w.heap[k]? = some o) : k < w.heap.size := by
  rcases Nat.lt_or_ge k w.heap.size with h1 | h1
  · exact h1
  · rw [Array.getElem?_eq_none h1] at h; cases h
theorem IsSt.lt {w : World} {pb tb : Nat} {s : St} (h : IsSt w pb tb s) : pb < w.heap.size ∧ tb < w.heap.size ∧ tb ≠ pb := by
  obtain ⟨T, off, cap, i, c, p, ty, h1, h2, h3, -⟩ := h
  exact ⟨heap_lt h1, h3, h2⟩
/-- What is not of the parser may turn. -/
theorem IsSt.keep {w w' : World} {pb tb : Nat} {s : St} (h : IsSt w pb tb s) (hs : w.heap.size ≤ w'.heap.size) (h1 : w'.heap[pb]? = w.heap[pb]?) (h2 : w'.heap[tb]? = w.heap[tb]?) : IsSt w' pb tb s := by
  obtain ⟨T, off, cap, i, c, p, ty, a1, a2, a3, a4, a5, a6, a7, a8⟩ := h
  refine ⟨T, off, cap, i, c, p, ty, by rw [h1]; exact a1, a2, by omega, a4, a5, fun j t hj => ?_, a7, a8⟩
  have key : ∀ o, w'.cell? ⟨tb, o, none⟩ = w.cell? ⟨tb, o, none⟩ := fun o => World.cell?_of_block (a := ⟨tb, o, none⟩) h2
  simp only [key]
  exact a6 j t hj
theorem IsSt.below {w w' : World} {pb tb : Nat} {s : St} (h : IsSt w pb tb s) (hb : Below w.heap.size w w') : IsSt w' pb tb s :=
  h.keep hb.size (hb.block _ h.lt.1) (hb.block _ h.lt.2.1)
theorem IsSt.alloc {w : World} {pb tb : Nat} {s : St} (h : IsSt w pb tb s) (o : Obj) : IsSt (w.alloc o) pb tb s :=
  h.below ((Below.refl _ _).alloc (Nat.le_refl _) o)
theorem IsSt.drew {w : World} {pb tb : Nat} {s : St} (h : IsSt w pb tb s) : IsSt w.drew pb tb s := h.below (Below.refl _ _).drew
theorem IsSt.setCell {w : World} {pb tb : Nat} {s : St} (h : IsSt w pb tb s) {p : Addr} (h1 : p.block ≠ pb) (h2 : p.block ≠ tb) (v : Value) : IsSt (w.setCell p v) pb tb s :=
  h.keep (by simp) (Below.heap_setCell _ _ _ _ (Ne.symm h1)) (Below.heap_setCell _ _ _ _ (Ne.symm h2))
/-- What stands in a parser's block. -/
theorem IsSt.cells {w : World} {pb tb : Nat} {s : St} (h : IsSt w pb tb s) :
    ∃ (T : List Tok) (off cap i : Nat) (c p : Int), w.cell? ⟨pb, 0, none⟩ = some (.slice (some ⟨tb, off, none⟩) T.length cap) ∧ w.cell? ⟨pb, 1, none⟩ = some (.int .i64 i) ∧ w.cell? ⟨pb, 2, none⟩ = some (.int .i64 c) ∧ w.cell? ⟨pb, 3, none⟩ = some (.int .i64 p) ∧ (∀ o, w.frozen? ⟨pb, o, none⟩ = false) ∧
      T.length ≤ cap ∧ cap ≤ maxLen ∧ ToksIn w tb off T ∧
      (match (generalizing := false) s with
        | .ok L => c = 0 ∧ i < T.length ∧ T[i]? = some (nowS s) ∧ L = T.drop i ∧ (∀ L', EndL L' → L' = T.drop (i + 1) → IsSt (w.setCell ⟨pb, 1, none⟩ (.int .i64 (i + 1))) pb tb (.ok L'))
        | .error (e, a) => c = e ∧ c ≠ 0 ∧ p = a) ∧
      (∀ (e a : Nat) (L : List Tok), s = .ok L → e ≠ 0 → e ≤ 9 → a ≤ 140737488351232 → IsSt ((w.setCell ⟨pb, 2, none⟩ (.int .i64 e)).setCell ⟨pb, 3, none⟩ (.int .i64 a)) pb tb (.error (e, a))) := by
  obtain ⟨T, off, cap, i, c, p, ty, a1, a2, a3, a4, a5, a6, a7, a8⟩ := h
  have key : ∀ o, w.cell? ⟨pb, o, none⟩ = (#[.slice (some ⟨tb, off, none⟩) T.length cap, .int .i64 i, .int .i64 c, .int .i64 p] : Array Value)[o]? := fun o => by simp [World.cell?, a1]
  have hlt := heap_lt a1
  have hset : ∀ (w : World) (C : Array Value) (o : Nat) (v : Value), w.heap[pb]? = some (.cells C ty (0, 0)) → (w.setCell ⟨pb, o, none⟩ v).heap[pb]? = some (.cells (C.setIfInBounds o v) ty (0, 0)) := fun w C o v h => by
    have := heap_lt h
    simp only [World.setCell, Array.getElem?_modify, if_true, h]
    simp
  have htk : ∀ (w' : World), (∀ o, w'.cell? ⟨tb, o, none⟩ = w.cell? ⟨tb, o, none⟩) → ToksIn w' tb off T := fun w' hk j t hj => by
    simp only [hk]; exact a6 j t hj
  refine ⟨T, off, cap, i, c, p, by rw [key]; rfl, by rw [key]; rfl, by rw [key]; rfl, by rw [key]; rfl, fun o => by simp [World.frozen?, a1], a4, a5, a6, ?_, ?_⟩
  · cases s with
    | error e => exact ⟨a8.1, by have := a8.1; have := a8.2.1; omega, a8.2.2.2.1⟩
    | ok L =>
      obtain ⟨b1, b2, b3⟩ := a8
      have hi : i < T.length := by
        rcases Nat.lt_or_ge i T.length with h | h
        · exact h
        · rw [List.drop_eq_nil_of_le h] at b2; exact absurd b2 b3.ne
      refine ⟨b1, hi, ?_, b2, fun L' h1 h2 => ?_⟩
      · rw [List.getElem?_eq_getElem hi, b2, List.drop_eq_getElem_cons hi]; rfl
      · refine ⟨T, off, cap, i + 1, c, p, ty, ?_, a2, by simpa using a3, a4, a5, htk _ (fun o => World.cell?_setCell_other _ _ _ _ (fun e => a2 (by injection e with e1; exact e1.symm))), a7, b1, h2, h1⟩
        rw [hset _ _ _ _ a1]
        simp
  · intro e a L hs h1 h2 h3
    refine ⟨T, off, cap, i, e, a, ty, ?_, a2, by simpa using a3, a4, a5, htk _ (fun o => ?_), a7, rfl, h1, h2, rfl, h3⟩
    · rw [hset _ _ _ _ (hset _ _ _ _ a1)]
      simp
    · rw [World.cell?_setCell_other _ _ _ _ (fun e => a2 (by injection e with e1; exact e1.symm)), World.cell?_setCell_other _ _ _ _ (fun e => a2 (by injection e with e1; exact e1.symm))]
theorem IsSt.tok {w : World} {pb tb : Nat} {L : List Tok} (h : IsSt w pb tb (.ok L)) : (∀ t ∈ L, TokOk t) ∧ EndL L := by
  obtain ⟨T, off, cap, i, c, p, ty, a1, a2, a3, a4, a5, a6, a7, -, a8, a9⟩ := h
  exact ⟨fun t ht => a7 t (List.mem_of_mem_drop (by rw [a8] at ht; exact ht)), a9⟩
theorem IsSt.now {w : World} {pb tb : Nat} {s : St} (h : IsSt w pb tb s) : TokOk (nowS s) := by
  cases s with
  | error e =>
    obtain ⟨T, off, cap, i, c, p, ty, a1, a2, a3, a4, a5, a6, a7, -, -, -, -, a8⟩ := h
    exact ⟨⟨by simp [nowS], by simp [nowS]⟩, ⟨by simp [nowS], by simp [nowS]⟩, a8, ⟨by simp [nowS], by simp [nowS]⟩⟩
  | ok L =>
    obtain ⟨h1, h2⟩ := h.tok
    cases L with
    | nil => exact absurd rfl h2.ne
    | cons t r => exact h1 t (by simp)
theorem IsSt.err {w : World} {pb tb : Nat} {e a : Nat} (h : IsSt w pb tb (.error (e, a))) : e ≠ 0 ∧ a ≤ 140737488351232 := by
  obtain ⟨T, off, cap, i, c, p, ty, a1, a2, a3, a4, a5, a6, a7, -, b, -, -, d⟩ := h
  exact ⟨b, d⟩
end Go.Em6

namespace Go.Em6
open Go.RowKit Go.Em4 Go.Em5

/-- An expression in blocks from B on. -/
abbrev NdB (B : Nat) (w : World) (n : Nd) (v : Value) : Prop := IsNdP (fun b => B ≤ b) w n v
theorem ndb_bes {B pb : Nat} {w w' : World} {n : Nd} {v : Value} (h : NdB B w n v) (hp : pb < B) (hb : Bes pb w w') : NdB B w' n v :=
  isNdP_keep hb.size (fun b h1 h2 => ⟨hb.block b h2 (by have : B ≤ b := h1; omega), h1⟩) n v h
theorem ndb_below {B : Nat} {w w' : World} {n : Nd} {v : Value} (h : NdB B w n v) (hb : Below w.heap.size w w') : NdB B w' n v :=
  isNdP_keep hb.size (fun b h1 h2 => ⟨hb.block b h2, h1⟩) n v h
theorem ndp_below {P : Nat → Prop} {w w' : World} {n : Nd} {v : Value} (h : IsNdP P w n v) (hb : Below w.heap.size w w') : IsNdP P w' n v :=
  isNdP_keep hb.size (fun b h1 h2 => ⟨hb.block b h2, h1⟩) n v h
theorem ndp_bes {P : Nat → Prop} {pb : Nat} {w w' : World} {n : Nd} {v : Value} (h : IsNdP P w n v) (hp : ¬ P pb) (hb : Bes pb w w') : IsNdP P w' n v :=
  isNdP_keep hb.size (fun b h1 h2 => ⟨hb.block b h2 (fun e => hp (e ▸ h1)), h1⟩) n v h
/-- An expression in blocks from B on, none of them g. -/
abbrev NdQ (B g : Nat) (w : World) (n : Nd) (v : Value) : Prop := IsNdP (fun b => B ≤ b ∧ b ≠ g) w n v
theorem ndq_of {B g : Nat} {w : World} {n : Nd} {v : Value} (h : NdB B w n v) (hg : w.heap.size ≤ g) : NdQ B g w n v :=
  isNdP_keep (Nat.le_refl _) (fun b h1 h2 => ⟨rfl, h1, by omega⟩) n v h
theorem ndq_of2 {B B' g : Nat} {w : World} {n : Nd} {v : Value} (h : NdB B' w n v) (hg : g < B') (hB : B ≤ B') : NdQ B g w n v :=
  isNdP_keep (Nat.le_refl _) (fun b h1 _ => ⟨rfl, Nat.le_trans hB h1, by have : B' ≤ b := h1; omega⟩) n v h
theorem ndq_ndb {B g : Nat} {w : World} {n : Nd} {v : Value} (h : NdQ B g w n v) : NdB B w n v :=
  isNdP_keep (Nat.le_refl _) (fun _ h1 _ => ⟨rfl, h1.1⟩) n v h
theorem ndq_set {B g : Nat} {w w' : World} {n : Nd} {v : Value} (h : NdQ B g w n v) (hs : w'.heap.size = w.heap.size) (hb : ∀ k, k ≠ g → w'.heap[k]? = w.heap[k]?) : NdQ B g w' n v :=
  isNdP_keep (by omega) (fun b h1 _ => ⟨hb b h1.2, h1⟩) n v h
theorem ndb_mono {B B' : Nat} {w : World} {n : Nd} {v : Value} (h : NdB B w n v) (hB : B' ≤ B) : NdB B' w n v :=
  isNdP_keep (Nat.le_refl _) (fun _ h1 _ => ⟨rfl, Nat.le_trans hB h1⟩) n v h
theorem ndb_set {B g : Nat} {w w' : World} {n : Nd} {v : Value} (h : NdB B w n v) (hg : g < B) (hs : w'.heap.size = w.heap.size) (hb : ∀ k, k ≠ g → w'.heap[k]? = w.heap[k]?) : NdB B w' n v :=
  isNdP_keep (by omega) (fun b h1 _ => ⟨hb b (by have : B ≤ b := h1; omega), h1⟩) n v h
/-- The six cells of a node. -/
theorem ndb_shape {B : Nat} {w : World} {n : Nd} {v : Value} (h : NdB B w n v) : ∃ s0 s1 s2 m p a l c, v = .agg #[.string s0, .string s1, .string s2, .int .i64 m, .int .i64 p, .slice a l c] := isNdP_shape h

theorem IsSt.set {w W : World} {pb tb g : Nat} {s : St} (h : IsSt w pb tb s) (hz : W.heap.size = w.heap.size) (hk : ∀ k, k ≠ g → W.heap[k]? = w.heap[k]?) (h1 : pb ≠ g) (h2 : tb ≠ g) : IsSt W pb tb s :=
  h.keep (by omega) (hk _ h1) (hk _ h2)

/-! ### What fits -/
theorem fits_bnd {r : R} {n : Nd} {s : St} {f : Nd → List Tok → R} {m : Nd} {s' : St} (h : Fits r n s) (h2 : Fits (thn s (f n)) m s') : Fits (bnd r f) m s' := by
  cases r with
  | error e => simp only [Fits] at h; subst h; exact h2
  | ok p => obtain ⟨a, L⟩ := p; simp only [Fits] at h; obtain ⟨rfl, rfl⟩ := h; exact h2
theorem thn_bnd {α β : Type} (s : St) (F : List Tok → Except Err (α × List Tok)) (f : α → List Tok → Except Err β) : thn s (fun L => bnd (F L) f) = bnd (thn s F) f := by cases s <;> rfl
theorem fits_thn {s : St} {F : List Tok → R} {n : Nd} {s1 : St} {f : Nd → List Tok → R} {m : Nd} {s' : St} (h : Fits (thn s F) n s1) (h2 : Fits (thn s1 (f n)) m s') : Fits (thn s (fun L => bnd (F L) f)) m s' := by
  rw [thn_bnd]; exact fits_bnd h h2
theorem fits_ok {s : St} {n : Nd} : Fits (thn s (fun L => .ok (n, L))) n s := by
  cases s with
  | error e => rfl
  | ok L => exact ⟨rfl, rfl⟩
theorem fits_t {x : List Int} {s : St} {G H : List Tok → R} {n : Nd} {s' : St} (hq : isWS x s = true) (h : ∀ t r, s = .ok (t :: r) → Fits (G (t :: r)) n s') : Fits (thn s (fun L => if isW x L then G L else H L)) n s' := by
  obtain ⟨t, r, rfl, -⟩ := isWS_ok hq
  have e : isW x (t :: r) = true := hq
  show Fits (if isW x (t :: r) then G (t :: r) else H (t :: r)) n s'
  rw [if_pos e]
  exact h t r rfl
theorem fits_f {x : List Int} {s : St} {G H : List Tok → R} {n : Nd} {s' : St} (hq : isWS x s = false) (h : Fits (thn s H) n s') : Fits (thn s (fun L => if isW x L then G L else H L)) n s' := by
  cases s with
  | error e => exact h
  | ok L =>
    have e : isW x L = false := hq
    show Fits (if isW x L then G L else H L) n s'
    rw [if_neg (by rw [e]; decide)]
    exact h
/-- What a try of a word leaves. -/
def eatS (x : List Int) (s : St) : St := if isWS x s then tailS s else s
theorem eatS_f {x : List Int} {s : St} (h : isWS x s = false) : eatS x s = s := by rw [eatS, h]; rfl
theorem eatS_t {x : List Int} {t : Tok} {r : List Tok} (h : isWS x (.ok (t :: r)) = true) : eatS x (.ok (t :: r)) = .ok r := by rw [eatS, h]; rfl
theorem heap_new (w : World) (o : Obj) : (w.alloc o).heap[w.heap.size]? = some o := by
  show (w.heap.push o)[w.heap.size]? = some o
  simp
theorem txt_nil : Txt [] := ⟨by simp, by simp⟩
theorem i64_zero : I64 0 := ⟨by omega, by omega⟩
theorem i64_pos {p : Nat} (h : p ≤ 140737488351232) : I64 (p : Int) := ⟨by omega, by omega⟩
/-- A node of one kid. -/
theorem ndp_one {P : Nat → Prop} {w w' : World} {ty : TypeId} {g : Nat} {n1 : Nd} {op nm ar : List Int} {p : Nat} {s0 s1 s2 : ByteArray} {m q : Int} {a : Option Addr} {l c : Nat}
    (h1 : IsNdP P w n1 (.agg #[.string s0, .string s1, .string s2, .int .i64 m, .int .i64 q, .slice a l c]))
    (hb : Below (w.heap.size + 1) (w.alloc (.cells #[.string s0, .string s1, .string s2, .int .i64 m, .int .i64 q, .slice a l c] ty)) w') (hg : g = w.heap.size) (hB : P w.heap.size)
    (t1 : Txt op) (t2 : Txt nm) (t3 : Txt ar) (hp : p ≤ 140737488351232) : IsNdP P w' (.mk op nm ar 0 p [n1]) (.agg #[.string (Em.str op), .string (Em.str nm), .string (Em.str ar), .int .i64 0, .int .i64 p, .slice (some ⟨g, 0, none⟩) 1 1]) := by
  subst hg
  have hb0 : Below w.heap.size w w' := ((Below.refl _ _).alloc (Nat.le_refl _) _).trans (hb.mono (by omega))
  have e : w'.heap[w.heap.size]? = some (.cells #[.string s0, .string s1, .string s2, .int .i64 m, .int .i64 q, .slice a l c] ty) := by rw [hb.block _ (by omega)]; exact heap_new _ _
  refine isNdP_node t1 t2 t3 i64_zero (i64_pos hp) (by have := hb.size; simp at this; omega) hB (by simp) (by simp) ?_
  refine kidsAtP_lit e [n1] [.agg #[.string s0, .string s1, .string s2, .int .i64 m, .int .i64 q, .slice a l c]] 0 (fun j => ?_) rfl (fun j t v ht hv => ?_)
  · left; simp [six]
  · match j, ht, hv with
    | 0, ht, hv => simp at ht hv; subst ht; subst hv; exact ndp_below h1 hb0
theorem ndp_two {P : Nat → Prop} {w w' : World} {ty : TypeId} {g : Nat} {n1 n2 : Nd} {op nm ar : List Int} {p : Nat} {s0 s1 s2 : ByteArray} {m q : Int} {a : Option Addr} {l c : Nat} {s0' s1' s2' : ByteArray} {m' q' : Int} {a' : Option Addr} {l' c' : Nat}
    (h1 : IsNdP P w n1 (.agg #[.string s0, .string s1, .string s2, .int .i64 m, .int .i64 q, .slice a l c])) (h2 : IsNdP P w n2 (.agg #[.string s0', .string s1', .string s2', .int .i64 m', .int .i64 q', .slice a' l' c']))
    (hb : Below (w.heap.size + 1) (w.alloc (.cells #[.string s0, .string s1, .string s2, .int .i64 m, .int .i64 q, .slice a l c, .string s0', .string s1', .string s2', .int .i64 m', .int .i64 q', .slice a' l' c'] ty)) w') (hg : g = w.heap.size) (hB : P w.heap.size)
    (t1 : Txt op) (t2 : Txt nm) (t3 : Txt ar) (hp : p ≤ 140737488351232) : IsNdP P w' (.mk op nm ar 0 p [n1, n2]) (.agg #[.string (Em.str op), .string (Em.str nm), .string (Em.str ar), .int .i64 0, .int .i64 p, .slice (some ⟨g, 0, none⟩) 2 2]) := by
  subst hg
  have hb0 : Below w.heap.size w w' := ((Below.refl _ _).alloc (Nat.le_refl _) _).trans (hb.mono (by omega))
  have e : w'.heap[w.heap.size]? = some (.cells #[.string s0, .string s1, .string s2, .int .i64 m, .int .i64 q, .slice a l c, .string s0', .string s1', .string s2', .int .i64 m', .int .i64 q', .slice a' l' c'] ty) := by rw [hb.block _ (by omega)]; exact heap_new _ _
  refine isNdP_node t1 t2 t3 i64_zero (i64_pos hp) (by have := hb.size; simp at this; omega) hB (by simp) (by simp) ?_
  refine kidsAtP_lit e [n1, n2] [.agg #[.string s0, .string s1, .string s2, .int .i64 m, .int .i64 q, .slice a l c], .agg #[.string s0', .string s1', .string s2', .int .i64 m', .int .i64 q', .slice a' l' c']] 0 (fun j => ?_) rfl (fun j t v ht hv => ?_)
  · left; simp [six]
  · match j, ht, hv with
    | 0, ht, hv => simp at ht hv; subst ht; subst hv; exact ndp_below h1 hb0
    | 1, ht, hv => simp at ht hv; subst ht; subst hv; exact ndp_below h2 hb0
theorem ndp_three {P : Nat → Prop} {w w' : World} {ty : TypeId} {g : Nat} {n1 n2 n3 : Nd} {op nm ar : List Int} {p : Nat} {s0 s1 s2 : ByteArray} {m q : Int} {a : Option Addr} {l c : Nat} {s0' s1' s2' : ByteArray} {m' q' : Int} {a' : Option Addr} {l' c' : Nat} {r0 r1 r2 : ByteArray} {m3 q3 : Int} {a3 : Option Addr} {l3 c3 : Nat}
    (h1 : IsNdP P w n1 (.agg #[.string s0, .string s1, .string s2, .int .i64 m, .int .i64 q, .slice a l c])) (h2 : IsNdP P w n2 (.agg #[.string s0', .string s1', .string s2', .int .i64 m', .int .i64 q', .slice a' l' c'])) (h3 : IsNdP P w n3 (.agg #[.string r0, .string r1, .string r2, .int .i64 m3, .int .i64 q3, .slice a3 l3 c3]))
    (hb : Below (w.heap.size + 1) (w.alloc (.cells #[.string s0, .string s1, .string s2, .int .i64 m, .int .i64 q, .slice a l c, .string s0', .string s1', .string s2', .int .i64 m', .int .i64 q', .slice a' l' c', .string r0, .string r1, .string r2, .int .i64 m3, .int .i64 q3, .slice a3 l3 c3] ty)) w') (hg : g = w.heap.size) (hB : P w.heap.size)
    (t1 : Txt op) (t2 : Txt nm) (t3 : Txt ar) (hp : p ≤ 140737488351232) : IsNdP P w' (.mk op nm ar 0 p [n1, n2, n3]) (.agg #[.string (Em.str op), .string (Em.str nm), .string (Em.str ar), .int .i64 0, .int .i64 p, .slice (some ⟨g, 0, none⟩) 3 3]) := by
  subst hg
  have hb0 : Below w.heap.size w w' := ((Below.refl _ _).alloc (Nat.le_refl _) _).trans (hb.mono (by omega))
  have e : w'.heap[w.heap.size]? = some (.cells #[.string s0, .string s1, .string s2, .int .i64 m, .int .i64 q, .slice a l c, .string s0', .string s1', .string s2', .int .i64 m', .int .i64 q', .slice a' l' c', .string r0, .string r1, .string r2, .int .i64 m3, .int .i64 q3, .slice a3 l3 c3] ty) := by rw [hb.block _ (by omega)]; exact heap_new _ _
  refine isNdP_node t1 t2 t3 i64_zero (i64_pos hp) (by have := hb.size; simp at this; omega) hB (by simp) (by simp) ?_
  refine kidsAtP_lit e [n1, n2, n3] [.agg #[.string s0, .string s1, .string s2, .int .i64 m, .int .i64 q, .slice a l c], .agg #[.string s0', .string s1', .string s2', .int .i64 m', .int .i64 q', .slice a' l' c'], .agg #[.string r0, .string r1, .string r2, .int .i64 m3, .int .i64 q3, .slice a3 l3 c3]] 0 (fun j => ?_) rfl (fun j t v ht hv => ?_)
  · left; simp [six]
  · match j, ht, hv with
    | 0, ht, hv => simp at ht hv; subst ht; subst hv; exact ndp_below h1 hb0
    | 1, ht, hv => simp at ht hv; subst ht; subst hv; exact ndp_below h2 hb0
    | 2, ht, hv => simp at ht hv; subst ht; subst hv; exact ndp_below h3 hb0
end Go.Em6

namespace Go.Em6
open Go.RowKit Go.Em4 Go.Em5

/-- Of what is had something is taken. -/
def Shr (F : List Tok → R) : Prop := ∀ L n L', F L = .ok (n, L') → L'.length < L.length
def lenS : St → Nat | .error _ => 0 | .ok L => L.length
theorem fits_shr {F : List Tok → R} (hF : Shr F) {s : St} {n : Nd} {L' : List Tok} (h : Fits (thn s F) n (.ok L')) : L'.length < lenS s := by
  cases s with
  | error e => simp [thn, bnd0, Fits] at h
  | ok L =>
    have h : Fits (F L) n (.ok L') := h
    cases hr : F L with
    | error e => rw [hr] at h; simp [Fits] at h
    | ok p =>
      obtain ⟨m, M⟩ := p
      rw [hr] at h
      simp only [Fits, Except.ok.injEq] at h
      obtain ⟨rfl, rfl⟩ := h
      exact hF L _ _ hr
theorem bnd_ok {α β : Type} {r : Except Err (α × List Tok)} {f : α → List Tok → Except Err β} {x : β} (h : bnd r f = .ok x) : ∃ a L, r = .ok (a, L) ∧ f a L = .ok x := by
  cases r with
  | error e => simp [bnd] at h
  | ok p => exact ⟨p.1, p.2, rfl, h⟩
theorem bnd0_ok {β : Type} {r : St} {f : List Tok → Except Err β} {x : β} (h : bnd0 r f = .ok x) : ∃ L, r = .ok L ∧ f L = .ok x := by
  cases r with
  | error e => simp [bnd0] at h
  | ok p => exact ⟨p, rfl, h⟩
theorem isW_len {x : List Int} {L : List Tok} (h : isW x L = true) : L.tail.length < L.length := by
  cases L with
  | nil => simp [isW] at h
  | cons t r => simp
theorem need_len {x : List Int} {L L' : List Tok} (h : need x L = .ok L') : L'.length < L.length := by
  unfold need at h
  split at h
  · rename_i h1
    simp only [Except.ok.injEq] at h
    subst h
    exact isW_len h1
  · cases h
theorem name_len {L L' : List Tok} {x : List Int} (h : name L = .ok (x, L')) : L'.length < L.length := by
  cases L with
  | nil => simp [name] at h
  | cons t r =>
    simp only [name] at h
    split at h
    · simp only [Except.ok.injEq, Prod.mk.injEq] at h
      obtain ⟨-, rfl⟩ := h
      simp
    · cases h
theorem ok_len {n m : Nd} {L L' : List Tok} (h : (Except.ok (n, L) : R) = .ok (m, L')) : L' = L := by
  simp only [Except.ok.injEq, Prod.mk.injEq] at h
  exact h.2.symm

theorem shr_set {C : List Tok → R} (hC : Shr C) : Shr (setS C) := by
  intro L n L' h
  obtain ⟨a, L1, h1, h2⟩ := bnd_ok h
  have l1 := hC _ _ _ h1
  split at h2
  · rename_i hw
    obtain ⟨b, L2, h3, h4⟩ := bnd_ok h2
    have l2 := hC _ _ _ h3
    have l3 := isW_len hw
    rw [ok_len h4]
    omega
  · rw [ok_len h2]; omega
theorem shr_cmp {C : List Tok → R} (hC : Shr C) : Shr (cmpS C) := by
  intro L n L' h
  obtain ⟨a, L1, h1, h2⟩ := bnd_ok h
  have l1 := hC _ _ _ h1
  split at h2
  · rename_i hw
    obtain ⟨b, L2, h3, h4⟩ := bnd_ok h2
    have l2 := hC _ _ _ h3
    have l3 := isW_len hw
    rw [ok_len h4]
    omega
  · split at h2
    · rename_i hw
      obtain ⟨b, L2, h3, h4⟩ := bnd_ok h2
      have l2 := hC _ _ _ h3
      have l3 := isW_len hw
      rw [ok_len h4]
      omega
    · rw [ok_len h2]; omega
theorem shr_consF {C : List Tok → R} (hC : Shr C) : ∀ f, Shr (consF C f)
  | 0 => by intro L n L' h; simp [consF] at h
  | f + 1 => by
    intro L n L' h
    obtain ⟨a, L1, h1, h2⟩ := bnd_ok h
    have l1 := hC _ _ _ h1
    split at h2
    · rename_i hw
      obtain ⟨b, L2, h3, h4⟩ := bnd_ok h2
      have l2 := shr_consF hC f _ _ _ h3
      have l3 := isW_len hw
      rw [ok_len h4]
      omega
    · rw [ok_len h2]; omega
theorem shr_cons {C : List Tok → R} (hC : Shr C) : Shr (consS C) := fun L n L' h => shr_consF hC _ L n L' h
theorem sumF_le {C : List Tok → R} (hC : Shr C) : ∀ f a L n L', sumF C f a L = .ok (n, L') → L'.length ≤ L.length
  | 0, a, L, n, L', h => by simp only [sumF] at h; rw [ok_len h]; omega
  | f + 1, a, L, n, L', h => by
    simp only [sumF] at h
    split at h
    · rename_i hw
      obtain ⟨b, L2, h3, h4⟩ := bnd_ok h
      have l2 := hC _ _ _ h3
      have l3 := isW_len hw
      have l4 := sumF_le hC f _ _ _ _ h4
      omega
    · split at h
      · rename_i hw
        obtain ⟨b, L2, h3, h4⟩ := bnd_ok h
        have l2 := hC _ _ _ h3
        have l3 := isW_len hw
        have l4 := sumF_le hC f _ _ _ _ h4
        omega
      · split at h
        · rename_i hw
          obtain ⟨b, L2, h3, h4⟩ := bnd_ok h
          have l2 := hC _ _ _ h3
          have l3 := isW_len hw
          have l4 := sumF_le hC f _ _ _ _ h4
          omega
        · rw [ok_len h]; omega
theorem shr_sum {C : List Tok → R} (hC : Shr C) : Shr (sumS C) := by
  intro L n L' h
  obtain ⟨a, L1, h1, h2⟩ := bnd_ok h
  have l1 := hC _ _ _ h1
  have l2 := sumF_le hC _ _ _ _ _ h2
  omega
theorem prodF_le {C : List Tok → R} (hC : Shr C) : ∀ f a L n L', prodF C f a L = .ok (n, L') → L'.length ≤ L.length
  | 0, a, L, n, L', h => by simp only [prodF] at h; rw [ok_len h]; omega
  | f + 1, a, L, n, L', h => by
    simp only [prodF] at h
    split at h
    · rename_i hw
      obtain ⟨b, L2, h3, h4⟩ := bnd_ok h
      have l2 := hC _ _ _ h3
      have l3 := isW_len hw
      have l4 := prodF_le hC f _ _ _ _ h4
      omega
    · rw [ok_len h]; omega
theorem shr_prod {C : List Tok → R} (hC : Shr C) : Shr (prodS C) := by
  intro L n L' h
  obtain ⟨a, L1, h1, h2⟩ := bnd_ok h
  have l1 := hC _ _ _ h1
  have l2 := prodF_le hC _ _ _ _ _ h2
  omega
theorem appF_le {C : List Tok → R} (hC : Shr C) : ∀ f a L n L', appF C f a L = .ok (n, L') → L'.length ≤ L.length
  | 0, a, L, n, L', h => by simp only [appF] at h; rw [ok_len h]; omega
  | f + 1, a, L, n, L', h => by
    simp only [appF] at h
    split at h
    · obtain ⟨b, L2, h3, h4⟩ := bnd_ok h
      have l2 := hC _ _ _ h3
      have l4 := appF_le hC f _ _ _ _ h4
      omega
    · rw [ok_len h]; omega
theorem shr_app {C : List Tok → R} (hC : Shr C) : Shr (appS C) := by
  intro L n L' h
  unfold appS at h
  split at h
  · rename_i o ho
    obtain ⟨b, L2, h3, h4⟩ := bnd_ok h
    have l2 := hC _ _ _ h3
    have hw := List.find?_some ho
    have l3 := isW_len hw
    rw [ok_len h4]; omega
  · split at h
    · rename_i hw
      obtain ⟨b, L2, h3, h4⟩ := bnd_ok h
      obtain ⟨c, L3, h5, h6⟩ := bnd_ok h4
      have l2 := hC _ _ _ h3
      have l5 := hC _ _ _ h5
      have l3 := isW_len hw
      rw [ok_len h6]; omega
    · obtain ⟨b, L2, h3, h4⟩ := bnd_ok h
      have l2 := hC _ _ _ h3
      have l4 := appF_le hC _ _ _ _ _ h4
      omega
/-! ### Fuel -/
theorem consF_more {C : List Tok → R} (hC : Shr C) : ∀ f g L, L.length < f → L.length < g → consF C f L = consF C g L
  | 0, _, _, h, _ => by omega
  | _ + 1, 0, _, _, h => by omega
  | f + 1, g + 1, L, h1, h2 => by
    simp only [consF]
    cases hr : C L with
    | error e => rfl
    | ok p =>
      obtain ⟨a, L1⟩ := p
      have l1 := hC _ _ _ hr
      simp only [bnd]
      by_cases hw : isW [58, 58] L1 = true
      · rw [if_pos hw, if_pos hw]
        have l2 := isW_len hw
        rw [consF_more hC f g L1.tail (by omega) (by omega)]
      · rw [if_neg hw, if_neg hw]
theorem prodF_more {C : List Tok → R} (hC : Shr C) : ∀ f g a L, L.length ≤ f → L.length ≤ g → prodF C f a L = prodF C g a L
  | 0, 0, _, _, _, _ => rfl
  | 0, g + 1, a, L, h, _ => by
    have : L = [] := List.length_eq_zero_iff.1 (by omega)
    subst this
    simp [prodF, isW]
  | f + 1, 0, a, L, _, h => by
    have : L = [] := List.length_eq_zero_iff.1 (by omega)
    subst this
    simp [prodF, isW]
  | f + 1, g + 1, a, L, h1, h2 => by
    simp only [prodF]
    by_cases hw : isW [42] L = true
    · rw [if_pos hw, if_pos hw]
      have l2 := isW_len hw
      cases hr : C L.tail with
      | error e => rfl
      | ok p =>
        have l1 := hC _ _ _ hr
        exact prodF_more hC f g _ p.2 (by omega) (by omega)
    · rw [if_neg hw, if_neg hw]
theorem sumF_more {C : List Tok → R} (hC : Shr C) : ∀ f g a L, L.length ≤ f → L.length ≤ g → sumF C f a L = sumF C g a L
  | 0, 0, _, _, _, _ => rfl
  | 0, g + 1, a, L, h, _ => by
    have : L = [] := List.length_eq_zero_iff.1 (by omega)
    subst this
    simp [sumF, isW]
  | f + 1, 0, a, L, _, h => by
    have : L = [] := List.length_eq_zero_iff.1 (by omega)
    subst this
    simp [sumF, isW]
  | f + 1, g + 1, a, L, h1, h2 => by
    have key : ∀ (x : List Int) (nd' : Nd → Nd), isW x L = true → (bnd (C L.tail) fun b L' => sumF C f (nd' b) L') = bnd (C L.tail) fun b L' => sumF C g (nd' b) L' := by
      intro x nd' hw
      have l2 := isW_len hw
      cases hr : C L.tail with
      | error e => rfl
      | ok p =>
        have l1 := hC _ _ _ hr
        exact sumF_more hC f g _ p.2 (by omega) (by omega)
    simp only [sumF]
    by_cases hw : isW [43] L = true
    · rw [if_pos hw, if_pos hw]
      exact key _ (fun b => nd [97, 100, 100] (posL L) [a, b]) hw
    · rw [if_neg hw, if_neg hw]
      by_cases hw : isW [45] L = true
      · rw [if_pos hw, if_pos hw]
        exact key _ (fun b => nd [115, 117, 98] (posL L) [a, b]) hw
      · rw [if_neg hw, if_neg hw]
        by_cases hw : isW [94] L = true
        · rw [if_pos hw, if_pos hw]
          exact key _ (fun b => nd [99, 97, 116] (posL L) [a, b]) hw
        · rw [if_neg hw, if_neg hw]
theorem appF_more {C : List Tok → R} (hC : Shr C) : ∀ f g a L, L.length ≤ f → L.length ≤ g → appF C f a L = appF C g a L
  | 0, 0, _, _, _, _ => rfl
  | 0, g + 1, a, L, h, _ => by
    have : L = [] := List.length_eq_zero_iff.1 (by omega)
    subst this
    simp [appF, begins]
  | f + 1, 0, a, L, _, h => by
    have : L = [] := List.length_eq_zero_iff.1 (by omega)
    subst this
    simp [appF, begins]
  | f + 1, g + 1, a, L, h1, h2 => by
    simp only [appF]
    by_cases hw : begins L = true
    · rw [if_pos hw, if_pos hw]
      cases hr : C L with
      | error e => rfl
      | ok p =>
        have l1 := hC _ _ _ hr
        exact appF_more hC f g _ p.2 (by omega) (by omega)
    · rw [if_neg hw, if_neg hw]

/-! ### The loops' rounds, as what fits -/
/-- How many tokens a parser in memory has left. -/
def mu (pb : Nat) (w : World) : Nat := match w.cell? ⟨pb, 2, none⟩, w.cell? ⟨pb, 0, none⟩, w.cell? ⟨pb, 1, none⟩ with
  | some (.int _ c), some (.slice _ n _), some (.int _ i) => if c = 0 then n - i.toNat else 0
  | _, _, _ => 0
theorem mu_eq {w : World} {pb tb : Nat} {s : St} (h : IsSt w pb tb s) : mu pb w = lenS s := by
  obtain ⟨T, off, cap, i, c, p, k0, k1, k2, k3, -, -, -, -, hm, -⟩ := h.cells
  unfold mu
  rw [k0, k1, k2]
  cases s with
  | error e => simp only [lenS]; rw [if_neg hm.2.1]
  | ok L =>
    obtain ⟨m1, -, -, m4, -⟩ := hm
    simp only [lenS]
    rw [if_pos m1, m4]
    simp
theorem fits_len {F : List Tok → R} (hF : Shr F) {s : St} {n : Nd} {s' : St} (h : Fits (thn s F) n s') (hp : 0 < lenS s) : lenS s' < lenS s := by
  cases s' with
  | error e => exact hp
  | ok L => exact fits_shr hF h
theorem fits_fuel {s : St} {F G : List Tok → R} {n : Nd} {s' : St} (h : Fits (thn s F) n s') (he : ∀ L, s = .ok L → F L = G L) : Fits (thn s G) n s' := by
  cases s with
  | error e => exact h
  | ok L =>
    have h : Fits (F L) n s' := h
    rw [he L rfl] at h
    exact h
theorem prod_stop {C : List Tok → R} {s : St} {n : Nd} (hq : isWS [42] s = false) : Fits (thn s fun L => prodF C L.length n L) n s := by
  refine fits_fuel fits_ok (fun L e => ?_)
  subst e
  have hq : isW [42] L = false := hq
  cases hl : L.length with
  | zero => rfl
  | succ f => simp only [prodF]; rw [if_neg (by rw [hq]; decide)]
theorem prod_round {C : List Tok → R} (hC : Shr C) {t : Tok} {r : List Tok} {n n8 : Nd} {s8 : St} (hq : isWS [42] (.ok (t :: r)) = true) (h8 : Fits (thn (.ok r) C) n8 s8) {m : Nd} {s' : St} (h : Fits (thn s8 fun L => prodF C L.length (nd [109, 117, 108] t.pos [n, n8]) L) m s') : Fits (thn (.ok (t :: r)) fun L => prodF C L.length n L) m s' := by
  have hq : isW [42] (t :: r) = true := hq
  show Fits (prodF C (r.length + 1) n (t :: r)) m s'
  simp only [prodF]
  rw [if_pos hq]
  refine fits_bnd (f := fun b L' => prodF C r.length (nd [109, 117, 108] t.pos [n, b]) L') h8 (fits_fuel h (fun L e => ?_))
  subst e
  have := fits_shr hC h8
  simp only [lenS] at this
  exact prodF_more hC _ _ _ _ (by omega) (by omega)
theorem sum_stop {C : List Tok → R} {s : St} {n : Nd} (h1 : isWS [43] s = false) (h2 : isWS [45] s = false) (h3 : isWS [94] s = false) : Fits (thn s fun L => sumF C L.length n L) n s := by
  refine fits_fuel fits_ok (fun L e => ?_)
  subst e
  have h1 : isW [43] L = false := h1
  have h2 : isW [45] L = false := h2
  have h3 : isW [94] L = false := h3
  cases hl : L.length with
  | zero => rfl
  | succ f => simp only [sumF]; rw [if_neg (by rw [h1]; decide), if_neg (by rw [h2]; decide), if_neg (by rw [h3]; decide)]
theorem sum_round {C : List Tok → R} (hC : Shr C) {t : Tok} {r : List Tok} {n n8 : Nd} {s8 : St} {op : List Int} (he : sumF C (r.length + 1) n (t :: r) = bnd (C r) fun b L' => sumF C r.length (nd op t.pos [n, b]) L') (h8 : Fits (thn (.ok r) C) n8 s8) {m : Nd} {s' : St} (h : Fits (thn s8 fun L => sumF C L.length (nd op t.pos [n, n8]) L) m s') : Fits (thn (.ok (t :: r)) fun L => sumF C L.length n L) m s' := by
  show Fits (sumF C (r.length + 1) n (t :: r)) m s'
  rw [he]
  refine fits_bnd (f := fun b L' => sumF C r.length (nd op t.pos [n, b]) L') h8 (fits_fuel h (fun L e => ?_))
  subst e
  have := fits_shr hC h8
  simp only [lenS] at this
  exact sumF_more hC _ _ _ _ (by omega) (by omega)
theorem app_stop {C : List Tok → R} {s : St} {n : Nd} (hq : beginsS s = false) : Fits (thn s fun L => appF C L.length n L) n s := by
  refine fits_fuel fits_ok (fun L e => ?_)
  subst e
  have hq : begins L = false := hq
  cases hl : L.length with
  | zero => rfl
  | succ f => simp only [appF]; rw [if_neg (by rw [hq]; decide)]
theorem app_round {C : List Tok → R} (hC : Shr C) {t : Tok} {r : List Tok} {n n8 : Nd} {s8 : St} (hq : beginsS (.ok (t :: r)) = true) (h8 : Fits (thn (.ok (t :: r)) C) n8 s8) {m : Nd} {s' : St} (h : Fits (thn s8 fun L => appF C L.length (nd [97, 112, 112] t.pos [n, n8]) L) m s') : Fits (thn (.ok (t :: r)) fun L => appF C L.length n L) m s' := by
  have hq : begins (t :: r) = true := hq
  show Fits (appF C (r.length + 1) n (t :: r)) m s'
  simp only [appF]
  rw [if_pos hq]
  refine fits_bnd (f := fun b L' => appF C r.length (nd [97, 112, 112] t.pos [n, b]) L') h8 (fits_fuel h (fun L e => ?_))
  subst e
  have := fits_shr hC h8
  simp only [lenS, List.length_cons] at this
  exact appF_more hC _ _ _ _ (by omega) (by omega)
theorem beginsS_ok {s : St} (h : beginsS s = true) : ∃ t r, s = .ok (t :: r) := by
  cases s with
  | error e => simp [beginsS] at h
  | ok L => cases L with
    | nil => simp [beginsS, begins] at h
    | cons t r => exact ⟨t, r, rfl⟩
end Go.Em6

namespace Go.Em6
open Go.RowKit Go.Em4 Go.Em5

theorem shr_round {E : List Tok → R} (hE : Shr E) (p : Nat) : Shr (roundS E p) := by
  intro L n L' h
  unfold roundS at h
  split at h
  · rename_i hw
    have := isW_len hw
    rw [ok_len h]; exact this
  · obtain ⟨a, L1, h1, h2⟩ := bnd_ok h
    have l1 := hE _ _ _ h1
    split at h2
    · rename_i hw
      obtain ⟨b, L2, h3, h4⟩ := bnd_ok h2
      obtain ⟨L3, h5, h6⟩ := bnd0_ok h4
      have l2 := hE _ _ _ h3
      have l3 := isW_len hw
      have l4 := need_len h5
      rw [ok_len h6]; omega
    · obtain ⟨L3, h5, h6⟩ := bnd0_ok h2
      have l4 := need_len h5
      rw [ok_len h6]; omega
theorem shr_atom {E A : List Tok → R} (hE : Shr E) (hA : Shr A) : Shr (atomS E A) := by
  intro L n L' h
  cases L with
  | nil => simp [atomS] at h
  | cons t r =>
    simp only [atomS] at h
    split at h
    · rw [ok_len h]; simp
    · split at h
      · rw [ok_len h]; simp
      · split at h
        · rw [ok_len h]; simp
        · split at h
          · rw [ok_len h]; simp
          · split at h
            · rw [ok_len h]; simp
            · split at h
              · obtain ⟨a, L1, h1, h2⟩ := bnd_ok h
                have l1 := hA _ _ _ h1
                rw [ok_len h2]; simp; omega
              · split at h
                · obtain ⟨L1, h1, h2⟩ := bnd0_ok h
                  have l1 := need_len h1
                  rw [ok_len h2]; simp; omega
                · split at h
                  · have := shr_round hE _ _ _ _ h
                    simp; omega
                  · cases h
theorem shr_letT {E : List Tok → R} (hE : Shr E) {op x y : List Int} {p : Nat} : Shr (letT E op x y p) := by
  intro L n L' h
  obtain ⟨L3, h1, h2⟩ := bnd0_ok h
  obtain ⟨a, L4, h3, h4⟩ := bnd_ok h2
  obtain ⟨L5, h5, h6⟩ := bnd0_ok h4
  obtain ⟨b, L6, h7, h8⟩ := bnd_ok h6
  have l1 := need_len h1
  have l2 := hE _ _ _ h3
  have l3 := need_len h5
  have l4 := hE _ _ _ h7
  rw [ok_len h8]; omega
theorem shr_let {E : List Tok → R} (hE : Shr E) (p : Nat) : Shr (letS E p) := by
  intro L n L' h
  unfold letS at h
  split at h
  · rename_i hw
    obtain ⟨x, L1, h1, h2⟩ := bnd_ok h
    obtain ⟨y, L2, h3, h4⟩ := bnd_ok h2
    have l0 := isW_len hw
    have l1 := name_len h1
    have l2 := name_len h3
    have l3 := shr_letT hE _ _ _ h4
    omega
  · obtain ⟨x, L1, h1, h2⟩ := bnd_ok h
    have l1 := name_len h1
    have l3 := shr_letT hE _ _ _ h2
    omega
theorem shr_match {E : List Tok → R} (hE : Shr E) (p : Nat) : Shr (matchS E p) := by
  intro L n L' h
  obtain ⟨a, L1, h1, h⟩ := bnd_ok h
  obtain ⟨L2, h2, h⟩ := bnd0_ok h
  obtain ⟨L3, h3, h⟩ := bnd0_ok h
  obtain ⟨L4, h4, h⟩ := bnd0_ok h
  obtain ⟨L5, h5, h⟩ := bnd0_ok h
  obtain ⟨b, L6, h6, h⟩ := bnd_ok h
  obtain ⟨L7, h7, h⟩ := bnd0_ok h
  obtain ⟨x, L8, h8, h⟩ := bnd_ok h
  obtain ⟨L9, h9, h⟩ := bnd0_ok h
  obtain ⟨y, L10, h10, h⟩ := bnd_ok h
  obtain ⟨L11, h11, h⟩ := bnd0_ok h
  obtain ⟨c, L12, h12, h⟩ := bnd_ok h
  have := hE _ _ _ h1
  have := need_len h2
  have := need_len h3
  have := need_len h4
  have := need_len h5
  have := hE _ _ _ h6
  have := need_len h7
  have := name_len h8
  have := need_len h9
  have := name_len h10
  have := need_len h11
  have := hE _ _ _ h12
  rw [ok_len h]; omega
theorem shr_expr {S E : List Tok → R} (hS : Shr S) (hE : Shr E) : Shr (exprS S E) := by
  intro L n L' h
  unfold exprS at h
  split at h
  · rename_i hw
    have := isW_len hw
    have := shr_let hE _ _ _ _ h
    omega
  · split at h
    · rename_i hw
      have := isW_len hw
      obtain ⟨x, L1, h1, h⟩ := bnd_ok h
      obtain ⟨L2, h2, h⟩ := bnd0_ok h
      obtain ⟨a, L3, h3, h⟩ := bnd_ok h
      have := name_len h1
      have := need_len h2
      have := hE _ _ _ h3
      rw [ok_len h]; omega
    · split at h
      · rename_i hw
        have := isW_len hw
        obtain ⟨a, L1, h1, h⟩ := bnd_ok h
        obtain ⟨L2, h2, h⟩ := bnd0_ok h
        obtain ⟨b, L3, h3, h⟩ := bnd_ok h
        obtain ⟨L4, h4, h⟩ := bnd0_ok h
        obtain ⟨c, L5, h5, h⟩ := bnd_ok h
        have := hE _ _ _ h1
        have := need_len h2
        have := hE _ _ _ h3
        have := need_len h4
        have := hE _ _ _ h5
        rw [ok_len h]; omega
      · split at h
        · rename_i hw
          have := isW_len hw
          have := shr_match hE _ _ _ _ h
          omega
        · split at h
          · rename_i hw
            have := isW_len hw
            obtain ⟨a, L1, h1, h⟩ := bnd_ok h
            obtain ⟨L2, h2, h⟩ := bnd0_ok h
            obtain ⟨x, L3, h3, h⟩ := bnd_ok h
            obtain ⟨L4, h4, h⟩ := bnd0_ok h
            obtain ⟨b, L5, h5, h⟩ := bnd_ok h
            have := hE _ _ _ h1
            have := need_len h2
            have := name_len h3
            have := need_len h4
            have := hE _ _ _ h5
            rw [ok_len h]; omega
          · obtain ⟨a, L1, h1, h⟩ := bnd_ok h
            have := hS _ _ _ h1
            split at h
            · rename_i hw
              have := isW_len hw
              obtain ⟨b, L2, h2, h⟩ := bnd_ok h
              have := hE _ _ _ h2
              rw [ok_len h]; omega
            · rw [ok_len h]; omega
/-- What stands between an expr and its atoms. -/
def mid (A : List Tok → R) : List Tok → R := setS (cmpS (consS (sumS (prodS (appS A)))))
theorem shr_mid {A : List Tok → R} (hA : Shr A) : Shr (mid A) := shr_set (shr_cmp (shr_cons (shr_sum (shr_prod (shr_app hA)))))
theorem shr_lev : ∀ f, Shr (lev f).1 ∧ Shr (lev f).2
  | 0 => ⟨fun L n L' h => (by simp [lev] at h), fun L n L' h => (by simp [lev] at h)⟩
  | f + 1 => by
    obtain ⟨h1, h2⟩ := shr_lev f
    have h3 := shr_atom h1 h2
    exact ⟨shr_expr (shr_mid h3) h1, h3⟩

/-! ### The tokens of a text -/
theorem txt_sub {L M : List Int} (h : ∀ x ∈ L, 0 ≤ x ∧ x ≤ 255) (hl : L.length ≤ 2000) (hs : ∀ x ∈ M, x ∈ L) (hm : M.length ≤ L.length) : Txt M := ⟨fun x hx => h x (hs x hx), by omega⟩
theorem tokAt_ok {L : List Int} (hL : ∀ x ∈ L, 0 ≤ x ∧ x ≤ 255) (hl : L.length ≤ 2000) {k n : Int} {t : List Int} {m : Nat} (h : tokAt L = some (k, t, n, m)) : Txt t ∧ I64 n ∧ I64 k ∧ k ≠ 5 := by
  cases L with
  | nil => simp [tokAt] at h
  | cons c r =>
    simp only [tokAt] at h
    split at h
    · simp only [nameAt] at h
      split at h
      · simp only [Option.some.injEq, Prod.mk.injEq] at h
        obtain ⟨rfl, rfl, rfl, -⟩ := h
        exact ⟨txt_sub hL hl (fun x hx => List.mem_of_mem_take hx) (by simp [List.length_take]; omega), i64_zero, ⟨by omega, by omega⟩, by omega⟩
      · split at h
        · cases h
        · simp only [Option.some.injEq, Prod.mk.injEq] at h
          obtain ⟨rfl, rfl, rfl, -⟩ := h
          exact ⟨txt_sub hL hl (fun x hx => List.mem_of_mem_take hx) (by simp [List.length_take]; omega), i64_zero, ⟨by omega, by omega⟩, by omega⟩
    · split at h
      · simp only [numAt] at h
        split at h
        · cases h
        · rename_i hn
          simp only [Option.some.injEq, Prod.mk.injEq] at h
          obtain ⟨rfl, rfl, rfl, -⟩ := h
          have hd := dec_bd (span dgt (c :: r)) (c :: r) (span_le _ _) (fun j hj => span_all _ _ j hj)
          have hp : (10 : Int) ^ span dgt (c :: r) ≤ 10 ^ 18 := by
            have : 10 ^ span dgt (c :: r) ≤ 10 ^ 18 := Nat.pow_le_pow_right (by omega) (by omega)
            exact_mod_cast this
          have h18 : (10 : Int) ^ 18 = 1000000000000000000 := by decide
          exact ⟨txt_nil, ⟨by omega, by omega⟩, ⟨by omega, by omega⟩, by omega⟩
      · split at h
        · simp only [strAt] at h
          split at h
          · cases h
          · simp only [Option.some.injEq, Prod.mk.injEq] at h
            obtain ⟨rfl, rfl, rfl, -⟩ := h
            exact ⟨txt_sub hL hl (fun x hx => List.mem_of_mem_drop (List.mem_of_mem_take hx)) (by simp [List.length_take]; omega), i64_zero, ⟨by omega, by omega⟩, by omega⟩
        · simp only [sgnAt] at h
          split at h
          · cases h
          · simp only [Option.some.injEq, Prod.mk.injEq] at h
            obtain ⟨rfl, rfl, rfl, -⟩ := h
            have hs : ∀ s ∈ signs, (∀ x ∈ s, 0 ≤ x ∧ x ≤ 255) ∧ s.length ≤ 2 := by decide
            have hg : Txt (sgn (c :: r)) := by
              unfold sgn
              cases hf : signs.find? (fun s => s.isPrefixOf (c :: r)) with
              | none => exact txt_nil
              | some s =>
                obtain ⟨h1, h2⟩ := hs s (List.mem_of_find?_eq_some hf)
                exact ⟨h1, by simp only [Option.getD_some]; omega⟩
            exact ⟨hg, i64_zero, ⟨by omega, by omega⟩, by omega⟩
theorem toksF_ok : ∀ (f i : Nat) (L T : List _), (∀ x ∈ L, (0 : Int) ≤ x ∧ x ≤ 255) → i + L.length ≤ 2000 → L.length ≤ f → toksF f i L = .ok T → EndL T ∧ ∀ t ∈ T, TokOk t
  | 0, i, [], T, hL, hl, hf, h => by
    simp only [toksF, Except.ok.injEq] at h
    subst h
    exact ⟨⟨_, rfl, rfl⟩, fun t ht => by simp at ht; subst ht; exact ⟨txt_nil, i64_zero, by simp at hl; show i ≤ _; omega, ⟨by simp, by simp⟩⟩⟩
  | f + 1, i, [], T, hL, hl, hf, h => by
    simp only [toksF, Except.ok.injEq] at h
    subst h
    exact ⟨⟨_, rfl, rfl⟩, fun t ht => by simp at ht; subst ht; exact ⟨txt_nil, i64_zero, by simp at hl; show i ≤ _; omega, ⟨by simp, by simp⟩⟩⟩
  | 0, i, c :: r, T, hL, hl, hf, h => by simp at hf
  | f + 1, i, c :: r, T, hL, hl, hf, h => by
    simp only [toksF] at h
    simp only [List.length_cons] at hl hf
    split at h
    · exact toksF_ok f (i + 1) r T (fun x hx => hL x (by simp [hx])) (by omega) (by omega) h
    · cases ht : tokAt (c :: r) with
      | none => rw [ht] at h; simp at h
      | some q =>
        obtain ⟨k, t, n, m⟩ := q
        rw [ht] at h
        simp only at h
        have hm := tokAt_pos ht
        have hm2 := tokAt_le ht
        simp only [List.length_cons] at hm2
        cases hr : toksF f (i + m) ((c :: r).drop m) with
        | error j => rw [hr] at h; simp at h
        | ok l =>
          rw [hr] at h
          simp only [Except.ok.injEq] at h
          subst h
          obtain ⟨h1, h2⟩ := toksF_ok f (i + m) ((c :: r).drop m) l (fun x hx => hL x (List.mem_of_mem_drop hx)) (by simp; omega) (by simp; omega) hr
          obtain ⟨a1, a2, a3, -⟩ := tokAt_ok hL (by simp; omega) ht
          refine ⟨?_, fun t' ht' => ?_⟩
          · obtain ⟨x, hx, h5⟩ := h1
            cases l with
            | nil => simp at hx
            | cons y l => exact ⟨x, by simpa [List.getLast?_cons_cons] using hx, h5⟩
          · simp only [List.mem_cons] at ht'
            rcases ht' with rfl | ht'
            · exact ⟨a1, a2, by show i ≤ _; omega, a3⟩
            · exact h2 t' ht'
theorem toks_ok {L : List Int} {T : List Tok} (hL : ∀ x ∈ L, 0 ≤ x ∧ x ≤ 255) (hl : L.length ≤ 2000) (h : toks L = .ok T) : EndL T ∧ ∀ t ∈ T, TokOk t :=
  toksF_ok L.length 0 L T hL (by omega) (Nat.le_refl _) h
end Go.Em6

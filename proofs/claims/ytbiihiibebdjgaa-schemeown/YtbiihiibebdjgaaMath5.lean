/- The plain mathematics of chapter 5 (tree): which expressions are such; same ones; values. No program is named here. -/
import Derived.Test.YtbiihiibebdjgaaNd
import Derived.Test.YtbiihiibebdjgaaMath4
namespace Go.Em5
open Go.RowKit

/-! ### Ops -/
def oInt : List Int := [105, 110, 116]
def oBool : List Int := [98, 111, 111, 108]
def oUnit : List Int := [117, 110, 105, 116]
def oNil : List Int := [110, 105, 108]
def oStr : List Int := [115, 116, 114]
def oVar : List Int := [118, 97, 114]
def oFun : List Int := [102, 117, 110]
def oRaise : List Int := [114, 97, 105, 115, 101]
def oGet : List Int := [103, 101, 116]
def oFst : List Int := [102, 115, 116]
def oSnd : List Int := [115, 110, 100]
def oRef : List Int := [114, 101, 102]
def oCell : List Int := [99, 101, 108, 108]
def oTag : List Int := [116, 97, 103]
def oLinks : List Int := [108, 105, 110, 107, 115]
def oSize : List Int := [115, 105, 122, 101]
def oPrint : List Int := [112, 114, 105, 110, 116]
def oLet : List Int := [108, 101, 116]
def oRec : List Int := [114, 101, 99]
def oTry : List Int := [116, 114, 121]
def oSeq : List Int := [115, 101, 113]
def oSet : List Int := [115, 101, 116]
def oEq : List Int := [101, 113]
def oLess : List Int := [108, 101, 115, 115]
def oCons : List Int := [99, 111, 110, 115]
def oAdd : List Int := [97, 100, 100]
def oSub : List Int := [115, 117, 98]
def oCat : List Int := [99, 97, 116]
def oMul : List Int := [109, 117, 108]
def oApp : List Int := [97, 112, 112]
def oPair : List Int := [112, 97, 105, 114]
def oLink : List Int := [108, 105, 110, 107]
def oIf : List Int := [105, 102]
def oMatch : List Int := [109, 97, 116, 99, 104]

def ops0 : List (List Int) := [oInt, oBool, oUnit, oNil, oStr, oVar]
def ops1 : List (List Int) := [oFun, oRaise, oGet, oFst, oSnd, oRef, oCell, oTag, oLinks, oSize, oPrint]
def ops2 : List (List Int) := [oLet, oRec, oTry, oSeq, oSet, oEq, oLess, oCons, oAdd, oSub, oCat, oMul, oApp, oPair, oLink]
def ops3 : List (List Int) := [oIf, oMatch]
/-- How many kids an op has; -1: it is none. -/
def kidsN (op : List Int) : Int := if op ∈ ops0 then 0 else if op ∈ ops1 then 1 else if op ∈ ops2 then 2 else if op ∈ ops3 then 3 else -1

/-! ### Which are such -/
def nameA (op nm : List Int) : Bool :=
  if op = oVar ∨ op = oFun ∨ op = oLet ∨ op = oTry ∨ op = oRec ∨ op = oMatch then Em4.nameOk nm else if op = oStr then Em4.textOk nm else decide (nm = [])
def nameB (op ar : List Int) : Bool := if op = oRec ∨ op = oMatch then Em4.nameOk ar else decide (ar = [])
def numOk (op : List Int) (n : Int) : Bool := if op = oInt then decide (0 ≤ n) && decide (n ≤ 999999999999999999) else if op = oBool then decide (n = 0) || decide (n = 1) else decide (n = 0)
def namesOk (t : Nd) : Bool := nameA t.op t.nm && (nameB t.op t.ar && numOk t.op t.n)
mutual
def each : Nd → Bool | .mk op nm ar n p l => decide (kidsN op = l.length) && (namesOk (.mk op nm ar n p l) && eachs l)
def eachs : List Nd → Bool | [] => true | t :: r => each t && eachs r
end
def isNd (t : Nd) : Bool := decide (t.size ≤ 2000) && each t
theorem eachs_iff (l : List Nd) : eachs l = true ↔ ∀ t ∈ l, each t = true := by
  induction l with
  | nil => simp [eachs]
  | cons x r ih => simp [eachs, ih]
theorem eachs_no {l : List Nd} {j : Nat} {t : Nd} (h : l[j]? = some t) (ht : each t = false) : eachs l = false := by
  rw [Bool.eq_false_iff]; intro h2
  have := (eachs_iff l).1 h2 t (List.mem_of_getElem? h)
  rw [ht] at this; cases this
theorem eachs_yes {l : List Nd} (h : ∀ j t, j < l.length → l[j]? = some t → each t = true) : eachs l = true :=
  (eachs_iff l).2 fun t ht => by
    obtain ⟨j, hj, e⟩ := List.getElem_of_mem ht
    exact h j t hj (by rw [List.getElem?_eq_getElem hj, e])

/-! ### Same ones, all but the places -/
mutual
def same : Nd → Nd → Bool
  | .mk op nm ar n _ l, .mk op' nm' ar' n' _ l' => decide (op = op') && (decide (nm = nm') && (decide (ar = ar') && (decide (n = n') && sames l l')))
def sames : List Nd → List Nd → Bool
  | [], [] => true
  | a :: r, b :: s => same a b && sames r s
  | _, _ => false
end
theorem sames_len : ∀ (l m : List Nd), l.length ≠ m.length → sames l m = false
  | [], [], h => by simp at h
  | [], _ :: _, _ => by simp [sames]
  | _ :: _, [], _ => by simp [sames]
  | a :: r, b :: s, h => by
    simp only [sames]
    rw [sames_len r s (by simpa using h), Bool.and_false]
theorem sames_no : ∀ (l m : List Nd) (j : Nat) (s t : Nd), l[j]? = some s → m[j]? = some t → same s t = false → sames l m = false
  | [], _, _, _, _, h, _, _ => by simp at h
  | _ :: _, [], _, _, _, _, h, _ => by simp at h
  | a :: r, b :: q, 0, s, t, h1, h2, h => by
    simp at h1 h2; subst h1; subst h2
    simp [sames, h]
  | a :: r, b :: q, j + 1, s, t, h1, h2, h => by
    simp only [sames]
    rw [sames_no r q j s t (by simpa using h1) (by simpa using h2) h, Bool.and_false]
theorem sames_yes : ∀ (l m : List Nd), l.length = m.length → (∀ (j : Nat) (s t : Nd), l[j]? = some s → m[j]? = some t → same s t = true) → sames l m = true
  | [], [], _, _ => rfl
  | [], _ :: _, h, _ => by simp at h
  | _ :: _, [], h, _ => by simp at h
  | a :: r, b :: q, hl, h => by
    simp only [sames]
    rw [h 0 a b rfl rfl, sames_yes r q (by simpa using hl) (fun j s t h1 h2 => h (j + 1) s t (by simpa using h1) (by simpa using h2)), Bool.and_self]

/-! ### Values -/
def valOps : List (List Int) := [oInt, oBool, oUnit, oNil, oStr, oVar, oFun]
mutual
def isVal : Nd → Bool
  | .mk op _ _ _ _ l => if op ∈ valOps then true else if op = oPair ∨ op = oCons then decide (l.length = 2) && isVals l else false
def isVals : List Nd → Bool | [] => true | t :: r => isVal t && isVals r
end
/-! ### Free names -/
/-- One text ahead of another, byte by byte. -/
def lt : List Int → List Int → Bool
  | _, [] => false
  | [], _ :: _ => true
  | a :: r, b :: s => decide (a < b) || (decide (a = b) && lt r s)
/-- The names that a node binds in its kid i. -/
def bindsL (op nm ar : List Int) (i : Nat) : List (List Int) :=
  if op = oFun ∨ (op = oLet ∧ i = 1) ∨ (op = oTry ∧ i = 1) ∨ (op = oRec ∧ i = 1) then [nm]
  else if (op = oRec ∧ i = 0) ∨ (op = oMatch ∧ i = 2) then [nm, ar] else []
/-- Where a text belongs among others that rise. -/
def place (x : List Int) : List (List Int) → Nat
  | [] => 0
  | y :: r => if lt y x then place x r + 1 else 0
def ins (x : List Int) (out : List (List Int)) : List (List Int) := out.take (place x out) ++ [x] ++ out.drop (place x out)
/-- The node's own name, put in if it is free. -/
def own (op nm : List Int) (bound out : List (List Int)) : List (List Int) := if op = oVar ∧ nm ∉ bound ∧ nm ∉ out then ins nm out else out
mutual
def freeR : Nd → List (List Int) → List (List Int) → List (List Int)
  | .mk op nm ar _ _ l, bound, out => freeRs op nm ar 0 l bound (own op nm bound out)
def freeRs (op nm ar : List Int) : Nat → List Nd → List (List Int) → List (List Int) → List (List Int)
  | _, [], _, out => out
  | i, t :: r, bound, out => freeRs op nm ar (i + 1) r bound (freeR t (bound ++ bindsL op nm ar i) out)
end
theorem place_le (x : List Int) : ∀ l, place x l ≤ l.length
  | [] => by simp [place]
  | y :: r => by unfold place; have := place_le x r; split <;> simp <;> omega
theorem place_all (x : List Int) : ∀ (l : List (List Int)) (j : Nat) (t : List Int), j < place x l → l[j]? = some t → lt t x = true
  | [], j, t, h, _ => by simp [place] at h
  | y :: r, j, t, h, ht => by
    unfold place at h
    split at h
    · rename_i hy
      cases j with
      | zero => simp at ht; subst ht; exact hy
      | succ j => exact place_all x r j t (by omega) (by simpa using ht)
    · omega
theorem place_stop (x : List Int) : ∀ (l : List (List Int)) (t : List Int), l[place x l]? = some t → lt t x = false
  | [], t, h => by simp at h
  | y :: r, t, h => by
    unfold place at h
    split at h
    · exact place_stop x r t (by simpa using h)
    · rename_i hy; simp at h; subst h; simpa using hy
theorem place_eq {x : List Int} {l : List (List Int)} {n : Nat} (hn : n ≤ l.length) (h1 : ∀ j t, j < n → l[j]? = some t → lt t x = true) (h2 : ∀ t, l[n]? = some t → lt t x = false) : place x l = n := by
  rcases Nat.lt_trichotomy (place x l) n with h | h | h
  · have hl : place x l < l.length := by omega
    have a := place_stop x l _ (List.getElem?_eq_getElem hl)
    rw [h1 _ _ h (List.getElem?_eq_getElem hl)] at a; cases a
  · exact h
  · have := place_le x l
    have hl : n < l.length := by omega
    have a := place_all x l n _ h (List.getElem?_eq_getElem hl)
    rw [h2 _ (List.getElem?_eq_getElem hl)] at a; cases a
theorem ins_len (x : List Int) (l : List (List Int)) : (ins x l).length = l.length + 1 := by
  have := place_le x l
  simp [ins]; omega
theorem own_len (op nm : List Int) (b o : List (List Int)) : (own op nm b o).length ≤ o.length + 1 := by
  unfold own; split
  · rw [ins_len]; exact Nat.le_refl _
  · omega
theorem freeR_len (T : Nd) : ∀ b o, (freeR T b o).length ≤ o.length + T.size := by
  induction T using Nd.ind with
  | h op nm ar n p l ih =>
    intro b o
    have key : ∀ (l : List Nd), (∀ t ∈ l, ∀ b o, (freeR t b o).length ≤ o.length + t.size) → ∀ i o, (freeRs op nm ar i l b o).length ≤ o.length + sizes l := by
      intro l
      induction l with
      | nil => intro _ i o; simp [freeRs, sizes]
      | cons t r ihr =>
        intro h i o
        simp only [freeRs, sizes]
        have h1 := ihr (fun t ht => h t (by simp [ht])) (i + 1) (freeR t (b ++ bindsL op nm ar i) o)
        have h2 := h t (by simp) (b ++ bindsL op nm ar i) o
        omega
    rw [freeR, Nd.size]
    have h1 := key l ih 0 (own op nm b o)
    have h2 := own_len op nm b o
    omega
theorem own_mem {op nm : List Int} {b o : List (List Int)} {P : List Int → Prop} (hn : P nm) (ho : ∀ t ∈ o, P t) : ∀ t ∈ own op nm b o, P t := by
  intro t ht
  unfold own at ht
  split at ht
  · simp only [ins, List.mem_append, List.mem_singleton] at ht
    rcases ht with (ht | rfl) | ht
    · exact ho t (List.mem_of_mem_take ht)
    · exact hn
    · exact ho t (List.mem_of_mem_drop ht)
  · exact ho t ht
theorem binds_mem {op nm ar : List Int} {i : Nat} {P : List Int → Prop} (hn : P nm) (ha : P ar) : ∀ t ∈ bindsL op nm ar i, P t := by
  intro t ht
  unfold bindsL at ht
  split at ht
  · simp at ht; subst ht; exact hn
  · split at ht
    · simp at ht; rcases ht with rfl | rfl
      · exact hn
      · exact ha
    · simp at ht
theorem binds_len (op nm ar : List Int) (i : Nat) : (bindsL op nm ar i).length ≤ 2 := by
  unfold bindsL; split
  · simp
  · split <;> simp
theorem bytesLess_lt : ∀ (L M : List Int), (∀ x ∈ L, 0 ≤ x ∧ x ≤ 255) → (∀ x ∈ M, 0 ≤ x ∧ x ≤ 255) → Op.bytesLess (Em.str L).toList (Em.str M).toList = lt L M := by
  intro L M hL hM
  have e : ∀ L : List Int, (Em.str L).toList = L.map fun n => UInt8.ofNat n.toNat := fun L => by
    unfold Em.str; exact ByteArray.toList_mk _
  rw [e, e]
  induction L generalizing M with
  | nil => cases M <;> rfl
  | cons a r ih =>
    cases M with
    | nil => rfl
    | cons b s =>
      have ha := hL a (by simp)
      have hb := hM b (by simp)
      simp only [List.map_cons, Op.bytesLess, lt]
      rw [ih s (fun x hx => hL x (by simp [hx])) (fun x hx => hM x (by simp [hx]))]
      have h1 : (UInt8.ofNat a.toNat).toNat = a.toNat := by simp; omega
      have h2 : (UInt8.ofNat b.toNat).toNat = b.toNat := by simp; omega
      have e1 : decide (UInt8.ofNat a.toNat < UInt8.ofNat b.toNat) = decide (a < b) := by
        rw [decide_eq_decide, UInt8.lt_iff_toNat_lt, h1, h2]; omega
      have e2 : (UInt8.ofNat a.toNat == UInt8.ofNat b.toNat) = decide (a = b) := by
        rw [Bool.eq_iff_iff, beq_iff_eq, decide_eq_true_iff, ← UInt8.toNat_inj, h1, h2]; omega
      rw [e1, e2]
theorem str_eq {L : List Int} (h : ∀ x ∈ L, 0 ≤ x ∧ x ≤ 255) (M : List UInt8) : ((Em.str L).toList == M) = decide (L = M.map fun c => (c.toNat : Int)) := by
  have h2 : Em.IsStr (ByteArray.mk M.toArray) (M.map fun c => (c.toNat : Int)) := by
    refine ⟨?_, ?_⟩
    · unfold Em.str
      congr 1
      rw [List.map_map]
      have : ((fun n : Int => UInt8.ofNat n.toNat) ∘ fun c : UInt8 => (c.toNat : Int)) = id := by funext c; simp
      rw [this]; simp
    · intro x hx
      simp only [List.mem_map] at hx
      obtain ⟨c, -, rfl⟩ := hx
      have := c.toNat_lt
      omega
  have h3 : (ByteArray.mk M.toArray).toList = M := ByteArray.toList_mk M
  have := (Em.isStr_str h).beq h2
  rw [← this, h3]
end Go.Em5

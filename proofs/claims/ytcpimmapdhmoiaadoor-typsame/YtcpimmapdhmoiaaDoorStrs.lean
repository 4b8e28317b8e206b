/- A slice of texts in memory, as a list of texts; rows of texts of a call's own. -/
import Derived.Test.YtcpimmapdhmoiaaDoorProg
import Derived.Test.YtcpimmapdhmoiaaDoorNd
import Derived.WalkKit
import Derived.WalkSpells
import Derived.WalkLawsBesides
import Derived.Laws.AppendOwnNone
import Derived.Laws.OwnMore
namespace Go.Proofs.YtcpimmapdhmoiaaDoor
open Go.RowKit

/-- In the world w the value v is a slice that holds the texts l. -/
def IsStrs (w : World) (v : Value) (l : List (List Int)) : Prop :=
  ∃ a cap, v = .slice a l.length cap ∧ l.length ≤ cap ∧ cap ≤ maxLen ∧ (a = none → cap = 0) ∧ (∀ t ∈ l, Em5.Txt t) ∧ ∀ j t, l[j]? = some t → ∃ ad, a = some ad ∧ w.cell? (ad.add j) = some (.string (Em.str t))
abbrev txts (l : List (List Int)) : List Value := l.map fun t => Value.string (Em.str t)
/-- Texts in a row of memory that begins at block B or behind it. -/
def OwnStrs (w : World) (B : Nat) (v : Value) (l : List (List Int)) : Prop := w.ownsRow B 9 1 v l.length (txts l)
theorem infoStr : (Tryd.prog.info? 9).map (fun i => (i.zero, i.size, i.bytes)) = some (some (.string ⟨#[]⟩), 1, 16) := by kernel_rfl

theorem IsStrs.nil (w : World) : IsStrs w (.slice none 0 0) [] := ⟨none, 0, rfl, by simp, by simp [maxLen], fun _ => rfl, by simp, by simp⟩
theorem IsStrs.len {w : World} {v : Value} {l : List (List Int)} (h : IsStrs w v l) : l.length ≤ 9223372036854775807 := by
  obtain ⟨a, cap, -, h1, h2, -⟩ := h; unfold maxLen at h2; omega
theorem IsStrs.txt {w : World} {v : Value} {l : List (List Int)} (h : IsStrs w v l) : ∀ t ∈ l, Em5.Txt t := by
  obtain ⟨a, cap, -, -, -, -, h, -⟩ := h; exact h
theorem IsStrs.below {w w' : World} {v : Value} {l : List (List Int)} (h : IsStrs w v l) (hb : Below w.heap.size w w') : IsStrs w' v l := by
  obtain ⟨a, cap, rfl, h1, h2, h3, h4, hc⟩ := h
  refine ⟨a, cap, rfl, h1, h2, h3, h4, fun j t hj => ?_⟩
  obtain ⟨ad, rfl, hcj⟩ := hc j t hj
  exact ⟨ad, rfl, by rw [hb.cell (Em.cell_lt hcj)]; exact hcj⟩
theorem IsStrs.plain {w : World} {v : Value} {l : List (List Int)} (h : IsStrs w v l) (hp : 0 < l.length) :
    ∃ b off cap, v = .slice (some ⟨b, off, none⟩) l.length cap ∧ l.length ≤ cap ∧ cap ≤ maxLen ∧ b < w.heap.size ∧ ∀ j t, l[j]? = some t → w.cell? ⟨b, off + j, none⟩ = some (.string (Em.str t)) := by
  obtain ⟨a, cap, rfl, h1, h2, -, -, hc⟩ := h
  obtain ⟨ad, rfl, hc0⟩ := hc 0 _ (List.getElem?_eq_getElem hp)
  obtain ⟨b, off, spot⟩ := ad
  have hspot : spot = none := by simpa [Addr.add] using World.cell?_spot hc0
  subst hspot
  refine ⟨b, off, cap, rfl, h1, h2, by simpa [Addr.add] using Em.cell_lt hc0, fun j t hj => ?_⟩
  obtain ⟨ad, had, hcj⟩ := hc j t hj
  cases had
  rw [← hcj]
  unfold Addr.add
  split
  · rename_i h0; subst h0; rfl
  · rfl
theorem IsStrs.empty {w : World} {v : Value} (h : IsStrs w v []) : ∃ a cap, v = .slice a 0 cap := by
  obtain ⟨a, cap, rfl, -⟩ := h; exact ⟨a, cap, rfl⟩
theorem OwnStrs.is {w : World} {B : Nat} {v : Value} {l : List (List Int)} (h : OwnStrs w B v l) (ht : ∀ t ∈ l, Em5.Txt t) : IsStrs w v l := by
  have h' : w.ownsRow B 9 1 v l.length (txts l) := h
  rcases h.2 with ⟨h1, h2⟩ | ⟨g, cap, cur, rfl, hg, hh, h3, h4, h5, h6⟩
  · have : l = [] := List.length_eq_zero_iff.1 h2
    subst this
    rw [h1]; exact IsStrs.nil w
  · refine ⟨some ⟨g, 0, none⟩, cap, rfl, h3, h4, (fun h => by cases h), ht, fun j t hj => ⟨_, rfl, ?_⟩⟩
    exact h'.cells (g := g) rfl j _ (by simp [hj])
theorem OwnStrs.below {w w' : World} {B : Nat} {v : Value} {l : List (List Int)} (h : OwnStrs w B v l) (hb : Below w.heap.size w w') : OwnStrs w' B v l := by
  have hlt := World.ownsRow.lt h
  refine ⟨h.1, ?_⟩
  rcases h.2 with h1 | ⟨g, gc, cur, h1, h2, h3, h4⟩
  · exact .inl h1
  · refine .inr ⟨g, gc, cur, h1, h2, ?_, h4⟩
    rw [hb.block g (hlt g (by rw [h1]; rfl)).2]
    exact h3
theorem OwnStrs.base {w : World} {B B' : Nat} {v : Value} {l : List (List Int)} (h : OwnStrs w B v l) (hb : B' ≤ B) : OwnStrs w B' v l :=
  ⟨h.1, h.2.elim .inl (fun ⟨g, cap, cur, hv, hg, r⟩ => .inr ⟨g, cap, cur, hv, Nat.le_trans hb hg, r⟩)⟩
theorem OwnStrs.form {w : World} {B : Nat} {v : Value} {l : List (List Int)} (h : OwnStrs w B v l) : ∃ a c, v = .slice a l.length c := by
  rcases h.2 with ⟨h1, h2⟩ | ⟨g, gc, cur, h1, -⟩
  · exact ⟨none, 0, by rw [h1, h2]⟩
  · exact ⟨_, _, h1⟩
/-- A part of the texts: 's[l:h]'. -/
theorem IsStrs.sliced {w : World} {a : Option Addr} {n c : Nat} {L : List (List Int)} (h : IsStrs w (.slice a n c) L) (l m : Nat) (h1 : l ≤ m) (h2 : m ≤ n) : IsStrs w (sliced a l m c 1) ((L.drop l).take (m - l)) := by
  obtain ⟨a', cap, e, k1, k2, k3, k4, hc⟩ := h
  injection e with e1 e2 e3
  subst e1; subst e3
  have el : ((L.drop l).take (m - l)).length = m - l := by simp; omega
  refine ⟨if c = l then a else a.map (·.add (l * 1)), c - l, by rw [el]; rfl, by rw [el]; omega, by omega, ?_, fun x hx => k4 x (List.mem_of_mem_drop (List.mem_of_mem_take hx)), fun j t hj => ?_⟩
  · intro hn
    split at hn
    · omega
    · cases a with
      | none => have := k3 rfl; omega
      | some ad => simp at hn
  · have hjl : j < m - l := by have := (List.getElem?_eq_some_iff.1 hj).1; rw [el] at this; exact this
    have hj' : L[l + j]? = some t := by rw [List.getElem?_take, if_pos hjl, List.getElem?_drop] at hj; exact hj
    obtain ⟨ad, rfl, hcj⟩ := hc (l + j) t hj'
    rw [if_neg (by omega)]
    refine ⟨ad.add (l * 1), rfl, ?_⟩
    have e2 : (ad.add (l * 1)).add j = ad.add (l + j) := by
      unfold Addr.add
      by_cases hl : l = 0
      · subst hl; simp
      · by_cases hj0 : j = 0
        · subst hj0; simp [hl]
        · simp [hl, hj0]; omega
    rw [e2, hcj]
/-- 'append(s, x...)' of any texts, nil or not, onto texts of one's own. -/
theorem run_apps {w : World} (B : Nat) (v : Value) (xs : List (List Int)) (hown : OwnStrs w B v xs) (y : Value) (L : List (List Int)) (hy : IsStrs w y L) (hsz : xs.length + L.length ≤ 8796093022208) (hb : B ≤ w.heap.size) (ty : TypeId) :
    ∃ v' w', (Builtin.append_ #[57, 57] ty #[v, y]).run Tryd.prog w = .ok v' w' ∧ OwnStrs w' B v' (xs ++ L) ∧ w.grownBy w' v.ownBlock ∧ Below B w w' := by
  obtain ⟨i0, hi, hz0, hz1, hz2⟩ := info_parts infoStr
  obtain ⟨ya, cap, rfl, hc1, hc2, hc3, hc4, hc⟩ := hy
  cases ya with
  | none =>
    have hc0 := hc3 rfl
    have hL : L = [] := List.length_eq_zero_iff.1 (by omega)
    subst hL
    subst hc0
    exact ⟨v, w, run_append_owned_none (P := Tryd.prog) (w := w) B 57 ty 9 i0 1 Tryd.underlying57 hi v _ _ hown, by simpa using hown, ⟨rfl, rfl, rfl, Nat.le_refl _, fun _ _ _ => rfl⟩, Below.refl _ _⟩
  | some ad =>
    obtain ⟨v', w', h1, h2, h3, -⟩ := run_append_own (P := Tryd.prog) w B 57 ty 9 i0 (.string ⟨#[]⟩) 1 16 Tryd.underlying57 hi hz0 hz1 hz2 rfl (by decide) v xs.length (txts xs) hown ad L.length cap (txts L) (by simp) (by
        intro j u hj
        have hjl : j < L.length := by have := (List.getElem?_eq_some_iff.1 hj).1; simpa using this
        obtain ⟨ad', had, hcj⟩ := hc j _ (List.getElem?_eq_getElem hjl)
        cases had
        rw [hcj]
        simp [List.getElem?_eq_getElem hjl] at hj
        rw [hj]) (by intro u hu; simp only [List.mem_map] at hu; obtain ⟨t, -, rfl⟩ := hu; rfl) (by unfold maxLen; omega) (by omega) hb
    refine ⟨v', w', h1, ?_, h3, (Below.refl _ _).grown h3 hb (fun k hk => (World.ownsRow.lt hown k hk).1)⟩
    unfold OwnStrs
    simpa using h2
theorem wp_apps {w : World} {o : Oper} {a : Act} {K : Act → World → Prop} {Q : Exit → Act → World → Prop} (s x : Operand) (ho : o.op = .call { callee := .builtin .append, args := #[s, x], argTypes := #[57, 57] })
    (B : Nat) (v : Value) (xs : List (List Int)) (hs : a.eval s = v) (hown : OwnStrs w B v xs) (y : Value) (L : List (List Int)) (hx : a.eval x = y) (hy : IsStrs w y L) (hsz : xs.length + L.length ≤ 8796093022208) (hb : B ≤ w.heap.size)
    (h : ∀ v' w', OwnStrs w' B v' (xs ++ L) → w.grownBy w' v.ownBlock → Below B w w' → K (a.put o.dst v') w') : o.wp Tryd.prog a w K Q := by
  obtain ⟨v', w', hr, h2, h3, h4⟩ := run_apps B v xs hown y L hy hsz hb o.type
  unfold Oper.wp execOp
  simp only [ho, resolve, invoke, builtin, Sem.run_bind, Sem.run_pure, Result.andThen_ok, List.map_toArray, List.map_cons, List.map_nil, hs, hx, hr]
  exact h v' w' h2 h3 h4
theorem wpList_apps {w : World} {ops : Array Oper} {rest : List Oper} {o : Oper} {a : Act} {Q : Exit → Act → World → Prop} (hgd : o.guard = none) (s x : Operand) (ho : o.op = .call { callee := .builtin .append, args := #[s, x], argTypes := #[57, 57] })
    (B : Nat) (v : Value) (xs : List (List Int)) (hs : a.eval s = v) (hown : OwnStrs w B v xs) (y : Value) (L : List (List Int)) (hx : a.eval x = y) (hy : IsStrs w y L) (hsz : xs.length + L.length ≤ 8796093022208) (hb : B ≤ w.heap.size)
    (h : ∀ v' w', OwnStrs w' B v' (xs ++ L) → w.grownBy w' v.ownBlock → Below B w w' → wpList Tryd.prog ops Q rest (a.put o.dst v') w') : wpList Tryd.prog ops Q (o :: rest) a w :=
  wpList_plain hgd fun _ hK => wp_apps s x ho B v xs hs hown y L hx hy hsz hb fun v' w' h2 h3 h4 => hK _ _ (h v' w' h2 h3 h4)
theorem step_apps {w : World} {ops : Array Oper} {o : Oper} {a : Act} {K : Act → World → Prop} {Q : Exit → Act → World → Prop} {E : Prop} (hgd : o.guard = none) (s x : Operand) (ho : o.op = .call { callee := .builtin .append, args := #[s, x], argTypes := #[57, 57] })
    (B : Nat) (v : Value) (xs : List (List Int)) (hs : a.eval s = v) (hown : OwnStrs w B v xs) (y : Value) (L : List (List Int)) (hx : a.eval x = y) (hy : IsStrs w y L) (hsz : xs.length + L.length ≤ 8796093022208) (hb : B ≤ w.heap.size)
    (h : ∀ v' w', OwnStrs w' B v' (xs ++ L) → w.grownBy w' v.ownBlock → Below B w w' → K (a.put o.dst v') w') : if Region.wanted o (yielded ops a.tmps) = true then Oper.wp Tryd.prog o a w K Q else E := by
  have hw : Region.wanted o (yielded ops a.tmps) = true := by simp [Region.wanted, hgd]
  rw [if_pos hw]
  exact wp_apps s x ho B v xs hs hown y L hx hy hsz hb h
/-- Literals: no text, one, two. -/
theorem own_s0 (w : World) {g : Nat} (hg : g = w.heap.size) {B : Nat} (hB : B ≤ w.heap.size) : OwnStrs (w.alloc (.cells #[] 9)) B (.slice (some ⟨g, 0, none⟩) 0 0) [] := by
  subst hg; exact World.ownsRow_lit w #[] 0 hB (by simp [maxLen]) rfl
theorem own_s1 (w : World) {g : Nat} (hg : g = w.heap.size) {B : Nat} (hB : B ≤ w.heap.size) (x : List Int) : OwnStrs (w.alloc (.cells #[.string (Em.str x)] 9)) B (.slice (some ⟨g, 0, none⟩) 1 1) [x] := by
  subst hg; exact World.ownsRow_lit w #[.string (Em.str x)] 1 hB (by simp [maxLen]) rfl
theorem own_s2 (w : World) {g : Nat} (hg : g = w.heap.size) {B : Nat} (hB : B ≤ w.heap.size) (x y : List Int) : OwnStrs (w.alloc (.cells #[.string (Em.str x), .string (Em.str y)] 9)) B (.slice (some ⟨g, 0, none⟩) 2 2) [x, y] := by
  subst hg; exact World.ownsRow_lit w #[.string (Em.str x), .string (Em.str y)] 2 hB (by simp [maxLen]) rfl
end Go.Proofs.YtcpimmapdhmoiaaDoor

/- Two types have one text just if they are one. No program is named here. -/
import Derived.Test.YtcpimmapdhmoiaaDoorMath8b
namespace Go.Em8
open Go.Em5 Go.RowKit
set_option linter.unusedSimpArgs false

/-! ### Digits -/
def tdec (L : List Int) : Int := L.foldl (fun v c => 10 * v + (c - 48)) 0
theorem tdec_snoc (L : List Int) (c : Int) : tdec (L ++ [c]) = 10 * tdec L + (c - 48) := by simp [tdec]
theorem tdec_digs (n : Nat) : tdec (tdigs n) = n := by
  induction n using Nat.strongRecOn with
  | ind n ih =>
    by_cases h : n < 10
    · rw [tdigs_lt h]; simp [tdec]; omega
    · rw [tdigs_ge h, tdec_snoc, ih (n / 10) (by omega)]; omega
theorem digs_cut : ∀ (A B r s : List Int), (∀ x ∈ A, 48 ≤ x ∧ x ≤ 57) → (∀ x ∈ B, 48 ≤ x ∧ x ≤ 57) → (∀ c q, r = c :: q → ¬ (48 ≤ c ∧ c ≤ 57)) → (∀ c q, s = c :: q → ¬ (48 ≤ c ∧ c ≤ 57)) → A ++ r = B ++ s → A = B ∧ r = s
  | [], [], r, s, _, _, _, _, h => ⟨rfl, h⟩
  | [], b :: B, r, s, _, hB, hr, _, h => by
    exfalso; exact hr b (B ++ s) h (hB b (by simp))
  | a :: A, [], r, s, hA, _, _, hs, h => by
    exfalso; exact hs a (A ++ r) h.symm (hA a (by simp))
  | a :: A, b :: B, r, s, hA, hB, hr, hs, h => by
    simp only [List.cons_append, List.cons.injEq] at h
    obtain ⟨rfl, h⟩ := h
    obtain ⟨rfl, e⟩ := digs_cut A B r s (fun x hx => hA x (by simp [hx])) (fun x hx => hB x (by simp [hx])) hr hs h
    exact ⟨rfl, e⟩

/-! ### What stands behind a type -/
def opB (b : Bool) : List Int := if b then tList else tRef
def suf : List Bool → List Int
  | [] => []
  | b :: p => 32 :: (opB b ++ suf p)
def wrap : List Bool → Ty → Ty
  | [], t => t
  | b :: p, t => wrap p (.mk (opB b) 0 [t])
def Stop (r : List Int) : Prop := r = [] ∨ (∃ q, r = 41 :: q) ∨ (∃ q, r = 32 :: 42 :: q) ∨ (∃ q, r = 32 :: 45 :: q)
theorem suf_no {b : Bool} {p : List Bool} {r s : List Int} (hs : Stop s) : 32 :: (opB b ++ suf p) ++ r ≠ s := by
  intro h
  cases b <;> simp [opB, tList, tRef] at h <;> rcases hs with rfl | ⟨q, rfl⟩ | ⟨q, rfl⟩ | ⟨q, rfl⟩ <;> simp at h
theorem suf_cut : ∀ (p q : List Bool) (r s : List Int), Stop r → Stop s → suf p ++ r = suf q ++ s → p = q ∧ r = s
  | [], [], r, s, _, _, h => ⟨rfl, h⟩
  | [], b :: q, r, s, hr, _, h => absurd h.symm (suf_no hr)
  | b :: p, [], r, s, _, hs, h => absurd h (suf_no hs)
  | b :: p, c :: q, r, s, hr, hs, h => by
    have key : b = c ∧ suf p ++ r = suf q ++ s := by
      cases b <;> cases c <;> simp [suf, opB, tList, tRef] at h ⊢ <;> exact h
    obtain ⟨rfl, h2⟩ := key
    obtain ⟨rfl, e⟩ := suf_cut p q r s hr hs h2
    exact ⟨rfl, e⟩
theorem suf_head (p : List Bool) {r : List Int} (hr : Stop r) : ∀ c q, suf p ++ r = c :: q → c = 32 ∨ c = 41 := by
  intro c q h
  cases p with
  | nil =>
    simp only [suf, List.nil_append] at h
    rcases hr with rfl | ⟨x, rfl⟩ | ⟨x, rfl⟩ | ⟨x, rfl⟩ <;> simp at h <;> omega
  | cons b p => simp [suf] at h; left; exact h.1.symm

/-- A type that is no list and no ref. -/
def Core (op : List Int) : Prop := ¬ (op = tList ∨ op = tRef)
theorem show_wrap {op : List Int} {n : Int} {x : Ty} (ho : op = tList ∨ op = tRef) : ∃ b, op = opB b ∧ ∀ (p : List Bool) (r : List Int), tshow (.mk op n [x]) ++ (suf p ++ r) = tshow x ++ (suf (b :: p) ++ r) := by
  rcases ho with rfl | rfl
  · exact ⟨true, rfl, fun p r => by rw [tshow_eq]; simp [tshows, suf, opB]⟩
  · exact ⟨false, rfl, fun p r => by rw [tshow_eq]; simp [tshows, suf, opB, tList, tRef]⟩
theorem stop_star (q : List Int) : Stop ([32, 42, 32] ++ q) := .inr (.inr (.inl ⟨_, rfl⟩))
theorem stop_arrow (q : List Int) : Stop ([32, 45, 62, 32] ++ q) := .inr (.inr (.inr ⟨_, rfl⟩))
theorem stop_close (q : List Int) : Stop (41 :: q) := .inr (.inl ⟨_, rfl⟩)
/-- The texts of types that are no lists and no refs. -/
theorem show_base {op : List Int} {n : Int} {l : List Ty} (ho : op = tInt ∨ op = tBool ∨ op = tUnit ∨ op = tString ∨ op = tCell) : tshow (.mk op n l) = op := by
  rw [tshow_eq]
  rcases ho with rfl | rfl | rfl | rfl | rfl <;> simp [tInt, tBool, tUnit, tString, tCell, tList, tRef, tPair, tFun, tVar]
theorem show_var {n : Int} {l : List Ty} : tshow (.mk tVar n l) = 39 :: tdigs n.toNat := by
  rw [tshow_eq]; simp [tList, tRef, tPair, tFun, tVar]
theorem show_pair {n : Int} {x y : Ty} : tshow (.mk tPair n [x, y]) = 40 :: (tshow x ++ ([32, 42, 32] ++ (tshow y ++ [41]))) := by
  rw [tshow_eq]; simp [tList, tRef, tPair, tFun, tVar, tshows]
theorem show_fun {n : Int} {x y : Ty} : tshow (.mk tFun n [x, y]) = 40 :: (tshow x ++ ([32, 45, 62, 32] ++ (tshow y ++ [41]))) := by
  rw [tshow_eq]; simp [tList, tRef, tPair, tFun, tVar, tshows]
theorem base_first {op : List Int} (ho : op = tInt ∨ op = tBool ∨ op = tUnit ∨ op = tString ∨ op = tCell) : ∃ c q, op = c :: q ∧ 98 ≤ c ∧ c ≤ 117 := by
  rcases ho with rfl | rfl | rfl | rfl | rfl <;> exact ⟨_, _, rfl, by decide, by decide⟩
theorem base_cut {o o' A B : List Int} (ho : o = tInt ∨ o = tBool ∨ o = tUnit ∨ o = tString ∨ o = tCell) (ho' : o' = tInt ∨ o' = tBool ∨ o' = tUnit ∨ o' = tString ∨ o' = tCell) (h : o ++ A = o' ++ B) : o = o' ∧ A = B := by
  rcases ho with rfl | rfl | rfl | rfl | rfl <;> rcases ho' with rfl | rfl | rfl | rfl | rfl <;> simp [tInt, tBool, tUnit, tString, tCell] at h ⊢ <;> exact h

theorem show_cut (a : Ty) : teach a = true → ∀ b : Ty, teach b = true → ∀ (p q : List Bool) (r s : List Int), Stop r → Stop s → tshow a ++ (suf p ++ r) = tshow b ++ (suf q ++ s) → wrap p a = wrap q b ∧ r = s := by
  induction a using Ty.ind with
  | h op n l ih =>
    intro ha b
    rcases teach_cases ha with ⟨ho, rfl, rfl⟩ | ⟨rfl, hn, rfl⟩ | ⟨ho, rfl, x, rfl, hx⟩ | ⟨ho, rfl, x, y, rfl, hx, hy⟩
    · -- a base
      induction b using Ty.ind with
      | h op' n' l' ihb =>
        intro hb p q r s hr hs h
        rcases teach_cases hb with ⟨ho', rfl, rfl⟩ | ⟨rfl, hn', rfl⟩ | ⟨ho', rfl, x', rfl, hx'⟩ | ⟨ho', rfl, x', y', rfl, hx', hy'⟩
        · rw [show_base ho, show_base ho'] at h
          obtain ⟨rfl, h2⟩ := base_cut ho ho' h
          obtain ⟨rfl, rfl⟩ := suf_cut p q r s hr hs h2
          exact ⟨rfl, rfl⟩
        · rw [show_base ho, show_var] at h
          obtain ⟨c, z, e, h1, h2⟩ := base_first ho
          rw [e] at h; simp at h; omega
        · obtain ⟨b, hb1, hb2⟩ := show_wrap (n := 0) (x := x') ho'
          rw [hb2] at h
          have := ihb x' (by simp) hx' p (b :: q) r s hr hs h
          rw [hb1]; exact this
        · obtain ⟨c, z, e, h1, h2⟩ := base_first ho
          rcases ho' with rfl | rfl
          · rw [show_base ho, show_pair, e] at h; simp at h; omega
          · rw [show_base ho, show_fun, e] at h; simp at h; omega
    · -- a var
      induction b using Ty.ind with
      | h op' n' l' ihb =>
        intro hb p q r s hr hs h
        rcases teach_cases hb with ⟨ho', rfl, rfl⟩ | ⟨rfl, hn', rfl⟩ | ⟨ho', rfl, x', rfl, hx'⟩ | ⟨ho', rfl, x', y', rfl, hx', hy'⟩
        · rw [show_base ho', show_var] at h
          obtain ⟨c, z, e, h1, h2⟩ := base_first ho'
          rw [e] at h; simp at h; omega
        · rw [show_var, show_var] at h
          simp only [List.cons_append, List.cons.injEq, true_and] at h
          obtain ⟨h1, h2⟩ := digs_cut _ _ _ _ (tdigs_mem _) (tdigs_mem _) (fun c z e => by rcases suf_head p hr c z e with h | h <;> omega) (fun c z e => by rcases suf_head q hs c z e with h | h <;> omega) h
          obtain ⟨rfl, rfl⟩ := suf_cut p q r s hr hs h2
          have h3 := congrArg tdec h1
          rw [tdec_digs, tdec_digs] at h3
          obtain rfl : n = n' := by omega
          exact ⟨rfl, rfl⟩
        · obtain ⟨b, hb1, hb2⟩ := show_wrap (n := 0) (x := x') ho'
          rw [hb2] at h
          have := ihb x' (by simp) hx' p (b :: q) r s hr hs h
          rw [hb1]; exact this
        · rcases ho' with rfl | rfl
          · rw [show_var, show_pair] at h; simp at h
          · rw [show_var, show_fun] at h; simp at h
    · -- a list or a ref
      intro hb p q r s hr hs h
      obtain ⟨c, hc1, hc2⟩ := show_wrap (n := 0) (x := x) ho
      rw [hc2] at h
      have := ih x (by simp) hx b hb (c :: p) q r s hr hs h
      rw [hc1]; exact this
    · -- a pair or a fun
      induction b using Ty.ind with
      | h op' n' l' ihb =>
        intro hb p q r s hr hs h
        rcases teach_cases hb with ⟨ho', rfl, rfl⟩ | ⟨rfl, hn', rfl⟩ | ⟨ho', rfl, x', rfl, hx'⟩ | ⟨ho', rfl, x', y', rfl, hx', hy'⟩
        · obtain ⟨c, z, e, h1, h2⟩ := base_first ho'
          rcases ho with rfl | rfl
          · rw [show_base ho', show_pair, e] at h; simp at h; omega
          · rw [show_base ho', show_fun, e] at h; simp at h; omega
        · rcases ho with rfl | rfl
          · rw [show_var, show_pair] at h; simp at h
          · rw [show_var, show_fun] at h; simp at h
        · obtain ⟨b, hb1, hb2⟩ := show_wrap (n := 0) (x := x') ho'
          rw [hb2] at h
          have := ihb x' (by simp) hx' p (b :: q) r s hr hs h
          rw [hb1]; exact this
        · have ix := fun R S hR hS e => ih x (by simp) hx x' hx' [] [] R S hR hS e
          have iy := fun R S hR hS e => ih y (by simp) hy y' hy' [] [] R S hR hS e
          simp only [suf, List.nil_append, wrap] at ix iy
          rcases ho with rfl | rfl <;> rcases ho' with rfl | rfl
          · rw [show_pair, show_pair] at h
            simp only [List.cons_append, List.cons.injEq, true_and, List.append_assoc, List.nil_append] at h
            obtain ⟨rfl, h2⟩ := ix _ _ (stop_star _) (stop_star _) h
            simp only [List.cons_append, List.nil_append, List.cons.injEq, true_and] at h2
            obtain ⟨rfl, h3⟩ := iy _ _ (stop_close _) (stop_close _) h2
            simp only [List.cons.injEq, true_and] at h3
            obtain ⟨rfl, rfl⟩ := suf_cut p q r s hr hs h3
            exact ⟨rfl, rfl⟩
          · rw [show_pair, show_fun] at h
            simp only [List.cons_append, List.cons.injEq, true_and, List.append_assoc, List.nil_append] at h
            obtain ⟨-, h2⟩ := ix _ _ (stop_star _) (stop_arrow _) h
            simp at h2
          · rw [show_fun, show_pair] at h
            simp only [List.cons_append, List.cons.injEq, true_and, List.append_assoc, List.nil_append] at h
            obtain ⟨-, h2⟩ := ix _ _ (stop_arrow _) (stop_star _) h
            simp at h2
          · rw [show_fun, show_fun] at h
            simp only [List.cons_append, List.cons.injEq, true_and, List.append_assoc, List.nil_append] at h
            obtain ⟨rfl, h2⟩ := ix _ _ (stop_arrow _) (stop_arrow _) h
            simp only [List.cons_append, List.nil_append, List.cons.injEq, true_and] at h2
            obtain ⟨rfl, h3⟩ := iy _ _ (stop_close _) (stop_close _) h2
            simp only [List.cons.injEq, true_and] at h3
            obtain ⟨rfl, rfl⟩ := suf_cut p q r s hr hs h3
            exact ⟨rfl, rfl⟩
theorem tshow_inj {a b : Ty} (ha : teach a = true) (hb : teach b = true) (h : tshow a = tshow b) : a = b :=
  (show_cut a ha b hb [] [] [] [] (.inl rfl) (.inl rfl) (by simpa [suf] using h)).1
end Go.Em8

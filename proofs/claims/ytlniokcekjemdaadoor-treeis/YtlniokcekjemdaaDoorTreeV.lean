/- What tree.IsValue answers. -/
import Derived.Test.YtlniokcekjemdaaDoorRTreeC0
namespace Go.Proofs.YtlniokcekjemdaaDoor
open Go.RowKit
set_option linter.unusedSimpArgs false

theorem val_ops2 (op : List Int) : (op ∈ Em5.valOps) = (op ∈ [[105, 110, 116], [98, 111, 111, 108], [117, 110, 105, 116], [110, 105, 108], [115, 116, 114], [118, 97, 114], [102, 117, 110]]) := rfl
theorem isVal_eq2 (T : Em5.Nd) : Em5.isVal T = if T.op ∈ Em5.valOps then true else if T.op = Em5.oPair ∨ T.op = Em5.oCons then decide (T.kids.length = 2) && Em5.isVals T.kids else false := by
  obtain ⟨op, nm, ar, n, p, l⟩ := T
  rw [Em5.isVal]; rfl

set_option maxRecDepth 100000 in
set_option maxHeartbeats 4000000 in
theorem tIsValue_any (T : Em5.Nd) : ∀ (v : Value) (w : World), Em5.IsNd w T v →
    Calls Tryd.prog 10 #[v] w fun e w' => e = .returned (.bool (Em5.isVal T)) ∧ Below w.heap.size w w' := by
  induction T using Em5.Nd.ind with
  | h op nm ar n p l ih =>
    intro v w hv
    have HI : Hid (∀ t ∈ l, ∀ (v : Value) (w : World), Em5.IsNd w t v →
      Calls Tryd.prog 10 #[v] w fun e w' => e = .returned (.bool (Em5.isVal t)) ∧ Below w.heap.size w w') := ih
    clear ih
    obtain ⟨a, cap, rfl, t1, t2, t3, hc1, hc2, hk⟩ := isNd_val hv
    simp only [Em5.Nd.op, Em5.Nd.nm, Em5.Nd.ar, Em5.Nd.n, Em5.Nd.p, Em5.Nd.kids] at *
    have hq := Em5.str_eq t1.1
    have hbel : Below w.heap.size w (w.alloc (.cells #[.string (Em.str op), .string (Em.str nm), .string (Em.str ar), .int .i64 n, .int .i64 p, .slice a l.length cap] 24)) := (Below.refl _ _).alloc (Nat.le_refl _) _
    by_cases hvo : op ∈ Em5.valOps
    · have HE : Hid (Em5.isVal (.mk op nm ar n p l) = true) := (isVal_eq2 _).trans (if_pos hvo)
      rw [val_ops2] at hvo
      simp only [List.mem_cons, List.not_mem_nil, or_false] at hvo
      clear hv hk t1 t2 t3
      rcases hvo with h | h | h | h | h | h | h
      all_goals
        subst h
        go_enter Tryd.func10, Tryd.ntmps10
        go_wp2
        go_ret
        exact ⟨by rw [HE.out]; rfl, hbel⟩
    · have he := (isVal_eq2 (.mk op nm ar n p l)).trans (if_neg hvo)
      have nv := hvo
      rw [val_ops2] at nv
      simp only [List.mem_cons, List.not_mem_nil, or_false, not_or] at nv
      obtain ⟨v1, v2, v3, v4, v5, v6, v7⟩ := nv
      by_cases hpc : op = [112, 97, 105, 114] ∨ op = [99, 111, 110, 115]
      · have he := he.trans (if_pos hpc)
        simp only [Em5.Nd.kids] at he
        by_cases hl : l.length = 2
        · obtain ⟨x, y, rfl⟩ : ∃ x y, l = [x, y] := by
            match l, hl with
            | [x, y], _ => exact ⟨x, y, rfl⟩
          have HE : Hid (Em5.isVal (.mk op nm ar n p [x, y]) = (Em5.isVal x && Em5.isVal y)) := by rw [Hid, he]; simp [Em5.isVals]
          obtain ⟨b, off, rfl, hb, hat⟩ := hk (by simp)
          obtain ⟨c0, c1, c2, c3, c4, c5, k0, k1, k2, k3, k4, k5, kn⟩ := Em5.kidsAt_get _ off 0 x hat rfl
          obtain ⟨d0, d1, d2, d3, d4, d5, m0, m1, m2, m3, m4, m5, mn⟩ := Em5.kidsAt_get _ off 1 y hat rfl
          have HN : Hid (∀ w', Below w.heap.size w w' → Em5.IsNd w' x (.agg #[c0, c1, c2, c3, c4, c5])) := fun w' h => Em5.isNd_below h x _ kn
          have HN' : Hid (∀ w', Below w.heap.size w w' → Em5.IsNd w' y (.agg #[d0, d1, d2, d3, d4, d5])) := fun w' h => Em5.isNd_below h y _ mn
          simp only [Nat.zero_mul, Nat.add_zero, Nat.one_mul] at k0 k1 k2 k3 k4 k5 m0 m1 m2 m3 m4 m5
          clear he hv hk t1 t2 t3 hat kn mn hvo v1 v2 v3 v4 v5 v6 v7 hl
          rcases hpc with h | h
          · subst h
            obtain ⟨W, hW⟩ : ∃ W, W = w.alloc (.cells #[.string (Em.str [112, 97, 105, 114]), .string (Em.str nm), .string (Em.str ar), .int .i64 n, .int .i64 p, .slice (some ⟨b, off, none⟩) 2 cap] 24) := ⟨_, rfl⟩
            have hbW : Below w.heap.size w W := by rw [hW]; exact (Below.refl _ _).alloc (Nat.le_refl _) _
            have z5 : W.cell? ⟨w.heap.size, 5, none⟩ = some (.slice (some ⟨b, off, none⟩) 2 cap) := by rw [hW]; simp
            have hWz : w.heap.size < W.heap.size := by rw [hW]; simp
            have key : ∀ o, W.cell? ⟨b, o, none⟩ = w.cell? ⟨b, o, none⟩ := fun o => hbW.cell (p := ⟨b, o, none⟩) hb
            rw [← key] at k0 k1 k2 k3 k4 k5 m0 m1 m2 m3 m4 m5
            clear key
            have HM : Hid (W.cell? ⟨b, off + 6, none⟩ = some d0 ∧ W.cell? ⟨b, off + 6 + 1, none⟩ = some d1 ∧ W.cell? ⟨b, off + 6 + 2, none⟩ = some d2 ∧ W.cell? ⟨b, off + 6 + 3, none⟩ = some d3 ∧ W.cell? ⟨b, off + 6 + 4, none⟩ = some d4 ∧ W.cell? ⟨b, off + 6 + 5, none⟩ = some d5) := ⟨m0, m1, m2, m3, m4, m5⟩
            have HZ5 : Hid (W.cell? ⟨w.heap.size, 5, none⟩ = some (.slice (some ⟨b, off, none⟩) 2 cap)) := z5
            have HW : Hid (w.alloc (.cells #[.string (Em.str [112, 97, 105, 114]), .string (Em.str nm), .string (Em.str ar), .int .i64 n, .int .i64 p, .slice (some ⟨b, off, none⟩) 2 cap] 24) = W) := hW.symm
            rw [hW] at k0 k1 k2 k3 k4 k5
            clear m0 m1 m2 m3 m4 m5 z5 hW
            go_enter Tryd.func10, Tryd.ntmps10
            go_wp2_with fail
            rw [HW.out]
            clear HW hbel k0 k1 k2 k3 k4 k5
            refine (HI.out x (by simp) _ _ (HN.out _ hbW)).mono ?_
            rintro e w1 ⟨rfl, hb1⟩
            have hbel1 : Below w.heap.size w w1 := hbW.trans (hb1.mono hbW.size)
            cases hx : Em5.isVal x with
            | false =>
              have HR : Hid (Em5.isVal (.mk [112, 97, 105, 114] nm ar n p [x, y]) = false) := by rw [Hid, HE.out, hx]; rfl
              go_wp2
              go_ret
              exact ⟨by rw [HR.out]; rfl, hbel1⟩
            | true =>
              have HR : Hid (Em5.isVal (.mk [112, 97, 105, 114] nm ar n p [x, y]) = Em5.isVal y) := by rw [Hid, HE.out, hx]; rfl
              have z5' : w1.cell? ⟨w.heap.size, 5, none⟩ = some (.slice (some ⟨b, off, none⟩) 2 cap) := by rw [hb1.cell (p := ⟨w.heap.size, 5, none⟩) hWz]; exact HZ5.out
              obtain ⟨m0, m1, m2, m3, m4, m5⟩ := HM.out
              have key : ∀ o, w1.cell? ⟨b, o, none⟩ = W.cell? ⟨b, o, none⟩ := fun o => hb1.cell (p := ⟨b, o, none⟩) (Nat.lt_of_lt_of_le hb hbW.size)
              rw [← key] at m0 m1 m2 m3 m4 m5
              clear key hb1 HZ5 HM hx
              go_wp2_with fail
              refine (HI.out y (by simp) _ _ (HN'.out _ hbel1)).mono ?_
              rintro e w2 ⟨rfl, hb2⟩
              have hbel2 : Below w.heap.size w w2 := hbel1.trans (hb2.mono hbel1.size)
              obtain ⟨q, hq9⟩ : ∃ q, q = Em5.isVal y := ⟨_, rfl⟩
              rw [← hq9] at HR ⊢
              clear hq9 hb2
              go_wp2
              go_ret
              exact ⟨by rw [HR.out]; rfl, hbel2⟩
          · subst h
            obtain ⟨W, hW⟩ : ∃ W, W = w.alloc (.cells #[.string (Em.str [99, 111, 110, 115]), .string (Em.str nm), .string (Em.str ar), .int .i64 n, .int .i64 p, .slice (some ⟨b, off, none⟩) 2 cap] 24) := ⟨_, rfl⟩
            have hbW : Below w.heap.size w W := by rw [hW]; exact (Below.refl _ _).alloc (Nat.le_refl _) _
            have z5 : W.cell? ⟨w.heap.size, 5, none⟩ = some (.slice (some ⟨b, off, none⟩) 2 cap) := by rw [hW]; simp
            have hWz : w.heap.size < W.heap.size := by rw [hW]; simp
            have key : ∀ o, W.cell? ⟨b, o, none⟩ = w.cell? ⟨b, o, none⟩ := fun o => hbW.cell (p := ⟨b, o, none⟩) hb
            rw [← key] at k0 k1 k2 k3 k4 k5 m0 m1 m2 m3 m4 m5
            clear key
            have HM : Hid (W.cell? ⟨b, off + 6, none⟩ = some d0 ∧ W.cell? ⟨b, off + 6 + 1, none⟩ = some d1 ∧ W.cell? ⟨b, off + 6 + 2, none⟩ = some d2 ∧ W.cell? ⟨b, off + 6 + 3, none⟩ = some d3 ∧ W.cell? ⟨b, off + 6 + 4, none⟩ = some d4 ∧ W.cell? ⟨b, off + 6 + 5, none⟩ = some d5) := ⟨m0, m1, m2, m3, m4, m5⟩
            have HZ5 : Hid (W.cell? ⟨w.heap.size, 5, none⟩ = some (.slice (some ⟨b, off, none⟩) 2 cap)) := z5
            have HW : Hid (w.alloc (.cells #[.string (Em.str [99, 111, 110, 115]), .string (Em.str nm), .string (Em.str ar), .int .i64 n, .int .i64 p, .slice (some ⟨b, off, none⟩) 2 cap] 24) = W) := hW.symm
            rw [hW] at k0 k1 k2 k3 k4 k5
            clear m0 m1 m2 m3 m4 m5 z5 hW
            go_enter Tryd.func10, Tryd.ntmps10
            go_wp2_with fail
            rw [HW.out]
            clear HW hbel k0 k1 k2 k3 k4 k5
            refine (HI.out x (by simp) _ _ (HN.out _ hbW)).mono ?_
            rintro e w1 ⟨rfl, hb1⟩
            have hbel1 : Below w.heap.size w w1 := hbW.trans (hb1.mono hbW.size)
            cases hx : Em5.isVal x with
            | false =>
              have HR : Hid (Em5.isVal (.mk [99, 111, 110, 115] nm ar n p [x, y]) = false) := by rw [Hid, HE.out, hx]; rfl
              go_wp2
              go_ret
              exact ⟨by rw [HR.out]; rfl, hbel1⟩
            | true =>
              have HR : Hid (Em5.isVal (.mk [99, 111, 110, 115] nm ar n p [x, y]) = Em5.isVal y) := by rw [Hid, HE.out, hx]; rfl
              have z5' : w1.cell? ⟨w.heap.size, 5, none⟩ = some (.slice (some ⟨b, off, none⟩) 2 cap) := by rw [hb1.cell (p := ⟨w.heap.size, 5, none⟩) hWz]; exact HZ5.out
              obtain ⟨m0, m1, m2, m3, m4, m5⟩ := HM.out
              have key : ∀ o, w1.cell? ⟨b, o, none⟩ = W.cell? ⟨b, o, none⟩ := fun o => hb1.cell (p := ⟨b, o, none⟩) (Nat.lt_of_lt_of_le hb hbW.size)
              rw [← key] at m0 m1 m2 m3 m4 m5
              clear key hb1 HZ5 HM hx
              go_wp2_with fail
              refine (HI.out y (by simp) _ _ (HN'.out _ hbel1)).mono ?_
              rintro e w2 ⟨rfl, hb2⟩
              have hbel2 : Below w.heap.size w w2 := hbel1.trans (hb2.mono hbel1.size)
              obtain ⟨q, hq9⟩ : ∃ q, q = Em5.isVal y := ⟨_, rfl⟩
              rw [← hq9] at HR ⊢
              clear hq9 hb2
              go_wp2
              go_ret
              exact ⟨by rw [HR.out]; rfl, hbel2⟩
        · have HE : Hid (Em5.isVal (.mk op nm ar n p l) = false) := by rw [Hid, he]; simp [hl]
          have hl' : ((l.length : Int) == 2) = false := by rw [beq_eq_false_iff_ne]; omega
          clear he hv hk t1 t2 t3 hvo v1 v2 v3 v4 v5 v6 v7
          rcases hpc with h | h
          all_goals
            subst h
            go_enter Tryd.func10, Tryd.ntmps10
            go_wp2
            go_ret
            exact ⟨by rw [HE.out]; rfl, hbel⟩
      · have he := he.trans (if_neg hpc)
        have HE : Hid (Em5.isVal (.mk op nm ar n p l) = false) := he
        have p1 : ¬ op = [112, 97, 105, 114] := fun h => hpc (Or.inl h)
        have p2 : ¬ op = [99, 111, 110, 115] := fun h => hpc (Or.inr h)
        clear he hv hk t1 t2 t3 hvo hpc
        go_enter Tryd.func10, Tryd.ntmps10
        go_wp2
        go_ret
        exact ⟨by rw [HE.out]; rfl, hbel⟩
end Go.Proofs.YtlniokcekjemdaaDoor

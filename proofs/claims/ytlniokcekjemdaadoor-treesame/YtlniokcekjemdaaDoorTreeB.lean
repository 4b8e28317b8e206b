/- What tree.binds answers; what (*scope).shift does. -/
import Derived.Test.YtlniokcekjemdaaDoorMapS
import Derived.Test.YtlniokcekjemdaaDoorMath5c
import Derived.WalkKit
import Derived.WalkSpells
import Derived.WalkLawsBesides
namespace Go.Proofs.YtlniokcekjemdaaDoor
open Go.RowKit
set_option linter.unusedSimpArgs false

theorem bindsT_ops (op nm ar : List Int) (i : Nat) : Em5.bindsT op nm ar i = if op = [102, 117, 110] then (if i = 0 then [nm] else [])
  else if op = [108, 101, 116] ∨ op = [116, 114, 121] then (if i = 1 then [nm] else [])
  else if op = [114, 101, 99] then (if i = 0 then [nm, ar] else if i = 1 then [nm] else [])
  else if op = [109, 97, 116, 99, 104] then (if i = 2 then [nm, ar] else []) else [] := rfl

set_option maxRecDepth 100000 in
set_option maxHeartbeats 4000000 in
theorem tbinds_any (T : Em5.Nd) (v : Value) (i : Nat) (w : World) (hv : Em5.IsNd w T v) :
    Calls Tryd.prog 31 #[v, .int .i64 i] w fun e w' => ∃ u, e = .returned u ∧ OwnStrs w' w.heap.size u (Em5.bindsT T.op T.nm T.ar i) ∧ Below w.heap.size w w' := by
  obtain ⟨op, nm, ar, n, p, l⟩ := T
  unfold Em5.IsNd at hv
  obtain ⟨a, cap, rfl, t1, t2, t3, -⟩ := hv
  simp only [Em5.Nd.op, Em5.Nd.nm, Em5.Nd.ar]
  have hq := Em5.str_eq t1.1
  clear t1 t2 t3
  have F1 : Hid (∀ o, Em5.bindsT op nm ar i = [nm] → OwnStrs ((w.alloc o).alloc (.cells #[.string (Em.str nm)] 9)) w.heap.size (.slice (some ⟨w.heap.size + 1, 0, none⟩) 1 1) (Em5.bindsT op nm ar i)) := fun o h => by
    rw [h]; exact own_s1 _ (by simp) (by simp) nm
  have F2 : Hid (∀ o, Em5.bindsT op nm ar i = [nm, ar] → OwnStrs ((w.alloc o).alloc (.cells #[.string (Em.str nm), .string (Em.str ar)] 9)) w.heap.size (.slice (some ⟨w.heap.size + 1, 0, none⟩) 2 2) (Em5.bindsT op nm ar i)) := fun o h => by
    rw [h]; exact own_s2 _ (by simp) (by simp) nm ar
  have F0 : Hid (∀ w', Em5.bindsT op nm ar i = [] → OwnStrs w' w.heap.size (.slice none 0 0) (Em5.bindsT op nm ar i)) := fun w' h => by
    rw [h]; exact World.ownsRow_nil _ _ _ _
  have BO : Hid (Em5.bindsT op nm ar i = if op = [102, 117, 110] then (if i = 0 then [nm] else [])
    else if op = [108, 101, 116] ∨ op = [116, 114, 121] then (if i = 1 then [nm] else [])
    else if op = [114, 101, 99] then (if i = 0 then [nm, ar] else if i = 1 then [nm] else [])
    else if op = [109, 97, 116, 99, 104] then (if i = 2 then [nm, ar] else []) else []) := bindsT_ops op nm ar i
  have y0 : ((i : Int) == 0) = decide (i = 0) := by rw [Bool.eq_iff_iff, beq_iff_eq, decide_eq_true_iff]; omega
  have y1 : ((i : Int) == 1) = decide (i = 1) := by rw [Bool.eq_iff_iff, beq_iff_eq, decide_eq_true_iff]; omega
  have y2 : ((i : Int) == 2) = decide (i = 2) := by rw [Bool.eq_iff_iff, beq_iff_eq, decide_eq_true_iff]; omega
  go_enter Tryd.func31, Tryd.ntmps31
  go_wp2
  all_goals
    go_ret
    first
      | exact ⟨_, rfl, F1.out _ (by rw [BO.out]; simp [*]), ((Below.refl _ _).alloc (Nat.le_refl _) _).alloc (by simp) _⟩
      | exact ⟨_, rfl, F2.out _ (by rw [BO.out]; simp [*]), ((Below.refl _ _).alloc (Nat.le_refl _) _).alloc (by simp) _⟩
      | exact ⟨_, rfl, F0.out _ (by rw [BO.out]; simp [*]), (Below.refl _ _).alloc (Nat.le_refl _) _⟩

theorem strs_bes {w w' : World} {mb mf : Nat} {v : Value} {l : List (List Int)} (h : IsStrs w v l) (hb : Bes2 mb mf w w') (h1 : ∀ o, w.cell? ⟨mb, o, none⟩ = none) (h2 : ∀ o, w.cell? ⟨mf, o, none⟩ = none) : IsStrs w' v l := by
  obtain ⟨a, cap, rfl, k1, k2, k3, k4, hc⟩ := h
  refine ⟨a, cap, rfl, k1, k2, k3, k4, fun j t hj => ?_⟩
  obtain ⟨ad, rfl, hcj⟩ := hc j t hj
  refine ⟨ad, rfl, ?_⟩
  have hsp : (ad.add j).spot = none := World.cell?_spot hcj
  have hform : ad.add j = ⟨(ad.add j).block, (ad.add j).off, none⟩ := by
    rw [← hsp]
  rw [hb.cell (Em.cell_lt hcj) ?_ ?_]
  · exact hcj
  · intro e
    rw [hform, e, h1] at hcj; cases hcj
  · intro e
    rw [hform, e, h2] at hcj; cases hcj
end Go.Proofs.YtlniokcekjemdaaDoor

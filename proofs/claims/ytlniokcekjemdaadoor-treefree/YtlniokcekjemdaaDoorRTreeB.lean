/- What the document's own 'Binds' answers. -/
import Derived.Test.YtlniokcekjemdaaDoorRTreeH
namespace Go.Proofs.YtlniokcekjemdaaDoor
open Go.RowKit
set_option linter.unusedSimpArgs false

theorem binds_ops (op nm ar : List Int) (i : Nat) : Em5.bindsL op nm ar i = if op = [102, 117, 110] ∨ (op = [108, 101, 116] ∧ i = 1) ∨ (op = [116, 114, 121] ∧ i = 1) ∨ (op = [114, 101, 99] ∧ i = 1) then [nm]
  else if (op = [114, 101, 99] ∧ i = 0) ∨ (op = [109, 97, 116, 99, 104] ∧ i = 2) then [nm, ar] else [] := rfl

set_option maxRecDepth 100000 in
set_option maxHeartbeats 4000000 in
theorem rBinds_any (T : Em5.Nd) (v : Value) (i : Nat) (w : World) (hv : Em5.IsNd w T v) :
    Calls Tryd.prog 37 #[v, .int .i64 i] w fun e w' => ∃ u, e = .returned u ∧ OwnStrs w' w.heap.size u (Em5.bindsL T.op T.nm T.ar i) ∧ Below w.heap.size w w' := by
  obtain ⟨op, nm, ar, n, p, l⟩ := T
  unfold Em5.IsNd at hv
  obtain ⟨a, cap, rfl, t1, t2, t3, -⟩ := hv
  simp only [Em5.Nd.op, Em5.Nd.nm, Em5.Nd.ar]
  have hq := Em5.str_eq t1.1
  have hbel : Below w.heap.size w (w.alloc (.cells #[.string (Em.str op), .string (Em.str nm), .string (Em.str ar), .int .i64 n, .int .i64 p, .slice a l.length cap] 24)) := (Below.refl _ _).alloc (Nat.le_refl _) _
  clear t1 t2 t3
  have fin1 : ∀ o, Em5.bindsL op nm ar i = [nm] → OwnStrs ((w.alloc o).alloc (.cells #[.string (Em.str nm)] 9)) w.heap.size (.slice (some ⟨w.heap.size + 1, 0, none⟩) 1 1) (Em5.bindsL op nm ar i) := fun o h => by
    rw [h]; exact own_s1 _ (by simp) (by simp) nm
  have fin2 : ∀ o, Em5.bindsL op nm ar i = [nm, ar] → OwnStrs ((w.alloc o).alloc (.cells #[.string (Em.str nm), .string (Em.str ar)] 9)) w.heap.size (.slice (some ⟨w.heap.size + 1, 0, none⟩) 2 2) (Em5.bindsL op nm ar i) := fun o h => by
    rw [h]; exact own_s2 _ (by simp) (by simp) nm ar
  have fin0 : ∀ w', Em5.bindsL op nm ar i = [] → OwnStrs w' w.heap.size (.slice none 0 0) (Em5.bindsL op nm ar i) := fun w' h => by
    rw [h]; exact World.ownsRow_nil _ _ _ _
  have bo := binds_ops op nm ar i
  have F1 : Hid (∀ o, Em5.bindsL op nm ar i = [nm] → OwnStrs ((w.alloc o).alloc (.cells #[.string (Em.str nm)] 9)) w.heap.size (.slice (some ⟨w.heap.size + 1, 0, none⟩) 1 1) (Em5.bindsL op nm ar i)) := fin1
  have F2 : Hid (∀ o, Em5.bindsL op nm ar i = [nm, ar] → OwnStrs ((w.alloc o).alloc (.cells #[.string (Em.str nm), .string (Em.str ar)] 9)) w.heap.size (.slice (some ⟨w.heap.size + 1, 0, none⟩) 2 2) (Em5.bindsL op nm ar i)) := fin2
  have F0 : Hid (∀ w', Em5.bindsL op nm ar i = [] → OwnStrs w' w.heap.size (.slice none 0 0) (Em5.bindsL op nm ar i)) := fin0
  have BO : Hid (Em5.bindsL op nm ar i = if op = [102, 117, 110] ∨ (op = [108, 101, 116] ∧ i = 1) ∨ (op = [116, 114, 121] ∧ i = 1) ∨ (op = [114, 101, 99] ∧ i = 1) then [nm]
    else if (op = [114, 101, 99] ∧ i = 0) ∨ (op = [109, 97, 116, 99, 104] ∧ i = 2) then [nm, ar] else []) := bo
  clear fin1 fin2 fin0 bo
  obtain ⟨x0, hx0⟩ : ∃ x, x = ((i : Int) == 0) := ⟨_, rfl⟩
  obtain ⟨x1, hx1⟩ : ∃ x, x = ((i : Int) == 1) := ⟨_, rfl⟩
  obtain ⟨x2, hx2⟩ : ∃ x, x = ((i : Int) == 2) := ⟨_, rfl⟩
  have i0 : (x0 = true ↔ i = 0) := by rw [hx0, beq_iff_eq]; omega
  have i1 : (x1 = true ↔ i = 1) := by rw [hx1, beq_iff_eq]; omega
  have i2 : (x2 = true ↔ i = 2) := by rw [hx2, beq_iff_eq]; omega
  have I : Hid ((x0 = true ↔ i = 0) ∧ (x1 = true ↔ i = 1) ∧ (x2 = true ↔ i = 2)) := ⟨i0, i1, i2⟩
  have y0 := hx0.symm
  have y1 := hx1.symm
  have y2 := hx2.symm
  clear i0 i1 i2 hx0 hx1 hx2
  by_cases o1 : op = [102, 117, 110]
  · subst o1
    have HR : Hid (Em5.bindsL [102, 117, 110] nm ar i = [nm]) := by rw [Hid, BO.out, if_pos (Or.inl rfl)]
    go_enter Tryd.func37, Tryd.ntmps37
    go_wp2
    go_ret
    exact ⟨_, rfl, F1.out _ HR.out, hbel.alloc hbel.size _⟩
  by_cases o2 : op = [108, 101, 116]
  · subst o2
    cases x1 with
    | true =>
      have HR : Hid (Em5.bindsL [108, 101, 116] nm ar i = [nm]) := by rw [Hid, BO.out, if_pos (Or.inr (Or.inl ⟨rfl, I.out.2.1.1 rfl⟩))]
      clear o1
      go_enter Tryd.func37, Tryd.ntmps37
      go_wp2
      go_ret
      exact ⟨_, rfl, F1.out _ HR.out, hbel.alloc hbel.size _⟩
    | false =>
      have hn : ¬ i = 1 := fun h => by have := I.out.2.1.2 h; cases this
      have HR : Hid (Em5.bindsL [108, 101, 116] nm ar i = []) := by rw [Hid, BO.out]; simp [hn]
      clear o1 hn
      go_enter Tryd.func37, Tryd.ntmps37
      go_wp2
      go_ret
      exact ⟨_, rfl, F0.out _ HR.out, hbel⟩
  by_cases o3 : op = [116, 114, 121]
  · subst o3
    cases x1 with
    | true =>
      have HR : Hid (Em5.bindsL [116, 114, 121] nm ar i = [nm]) := by rw [Hid, BO.out, if_pos (Or.inr (Or.inr (Or.inl ⟨rfl, I.out.2.1.1 rfl⟩)))]
      clear o1 o2
      go_enter Tryd.func37, Tryd.ntmps37
      go_wp2
      go_ret
      exact ⟨_, rfl, F1.out _ HR.out, hbel.alloc hbel.size _⟩
    | false =>
      have hn : ¬ i = 1 := fun h => by have := I.out.2.1.2 h; cases this
      have HR : Hid (Em5.bindsL [116, 114, 121] nm ar i = []) := by rw [Hid, BO.out]; simp [hn]
      clear o1 o2 hn
      go_enter Tryd.func37, Tryd.ntmps37
      go_wp2
      go_ret
      exact ⟨_, rfl, F0.out _ HR.out, hbel⟩
  by_cases o4 : op = [114, 101, 99]
  · subst o4
    cases x1 with
    | true =>
      have HR : Hid (Em5.bindsL [114, 101, 99] nm ar i = [nm]) := by rw [Hid, BO.out, if_pos (Or.inr (Or.inr (Or.inr ⟨rfl, I.out.2.1.1 rfl⟩)))]
      clear o1 o2 o3
      go_enter Tryd.func37, Tryd.ntmps37
      go_wp2
      go_ret
      exact ⟨_, rfl, F1.out _ HR.out, hbel.alloc hbel.size _⟩
    | false =>
      have hn : ¬ i = 1 := fun h => by have := I.out.2.1.2 h; cases this
      cases x0 with
      | true =>
        have h0 := I.out.1.1 rfl
        have HR : Hid (Em5.bindsL [114, 101, 99] nm ar i = [nm, ar]) := by rw [Hid, BO.out, h0]; simp
        clear o1 o2 o3 hn h0
        go_enter Tryd.func37, Tryd.ntmps37
        go_wp2
        go_ret
        exact ⟨_, rfl, F2.out _ HR.out, hbel.alloc hbel.size _⟩
      | false =>
        have h0 : ¬ i = 0 := fun h => by have := I.out.1.2 h; cases this
        have HR : Hid (Em5.bindsL [114, 101, 99] nm ar i = []) := by rw [Hid, BO.out]; simp [hn, h0]
        clear o1 o2 o3 hn h0
        go_enter Tryd.func37, Tryd.ntmps37
        go_wp2
        go_ret
        exact ⟨_, rfl, F0.out _ HR.out, hbel⟩
  by_cases o5 : op = [109, 97, 116, 99, 104]
  · subst o5
    cases x2 with
    | true =>
      have h2 := I.out.2.2.1 rfl
      have HR : Hid (Em5.bindsL [109, 97, 116, 99, 104] nm ar i = [nm, ar]) := by rw [Hid, BO.out, h2]; simp
      clear o1 o2 o3 o4 h2
      go_enter Tryd.func37, Tryd.ntmps37
      go_wp2
      go_ret
      exact ⟨_, rfl, F2.out _ HR.out, hbel.alloc hbel.size _⟩
    | false =>
      have h2 : ¬ i = 2 := fun h => by have := I.out.2.2.2 h; cases this
      have HR : Hid (Em5.bindsL [109, 97, 116, 99, 104] nm ar i = []) := by rw [Hid, BO.out]; simp [h2]
      clear o1 o2 o3 o4 h2
      go_enter Tryd.func37, Tryd.ntmps37
      go_wp2
      go_ret
      exact ⟨_, rfl, F0.out _ HR.out, hbel⟩
  have HR : Hid (Em5.bindsL op nm ar i = []) := by rw [Hid, BO.out]; simp [o1, o2, o3, o4, o5]
  go_enter Tryd.func37, Tryd.ntmps37
  go_wp2
  go_ret
  exact ⟨_, rfl, F0.out _ HR.out, hbel⟩
end Go.Proofs.YtlniokcekjemdaaDoor

/- What the document's own 'Kids' answers. -/
import Derived.Test.YtlniokcekjemdaaDoorRTreeS
import Derived.Test.YtlniokcekjemdaaDoorMath5
import Derived.Test.YtlniokcekjemdaaDoorRLexW
import Derived.Deep.RegionHeld
namespace Go.Proofs.YtlniokcekjemdaaDoor
open Go.RowKit
set_option linter.unusedSimpArgs false

theorem kids_ops (op : List Int) : Em5.kidsN op = if op ∈ [[105, 110, 116], [98, 111, 111, 108], [117, 110, 105, 116], [110, 105, 108], [115, 116, 114], [118, 97, 114]] then 0
    else if op ∈ [[102, 117, 110], [114, 97, 105, 115, 101], [103, 101, 116], [102, 115, 116], [115, 110, 100], [114, 101, 102], [99, 101, 108, 108], [116, 97, 103], [108, 105, 110, 107, 115], [115, 105, 122, 101], [112, 114, 105, 110, 116]] then 1
    else if op ∈ [[108, 101, 116], [114, 101, 99], [116, 114, 121], [115, 101, 113], [115, 101, 116], [101, 113], [108, 101, 115, 115], [99, 111, 110, 115], [97, 100, 100], [115, 117, 98], [99, 97, 116], [109, 117, 108], [97, 112, 112], [112, 97, 105, 114], [108, 105, 110, 107]] then 2
    else if op ∈ [[105, 102], [109, 97, 116, 99, 104]] then 3 else -1 := rfl

set_option maxRecDepth 100000 in
set_option maxHeartbeats 4000000 in
theorem rKids_any (op : List Int) (w : World) (h : ∀ x ∈ op, 0 ≤ x ∧ x ≤ 255) :
    Calls Tryd.prog 28 #[.string (Em.str op)] w fun e w' => e = .returned (.int .i64 (Em5.kidsN op)) ∧ w' = w := by
  have hq := Em5.str_eq h
  go_enter Tryd.func28, Tryd.ntmps28
  go_wp2
  all_goals
    go_ret
    refine ⟨Em.ret_int ?_, rfl⟩
    first
      | (clear hq; subst_vars; rfl)
      | (simp only [kids_ops]; simp [*])

theorem names_keep {w0 w w' : World} {B : Nat} {x y z u : Value} (hb : Below w.heap.size w w') (h : Below B w0 w ∧ w.cell? ⟨B, 1, none⟩ = some x ∧ w.cell? ⟨B, 2, none⟩ = some y ∧ w.cell? ⟨B, 0, none⟩ = some z ∧ w.cell? ⟨B, 3, none⟩ = some u ∧ B < w.heap.size) :
    Below B w0 w' ∧ w'.cell? ⟨B, 1, none⟩ = some x ∧ w'.cell? ⟨B, 2, none⟩ = some y ∧ w'.cell? ⟨B, 0, none⟩ = some z ∧ w'.cell? ⟨B, 3, none⟩ = some u ∧ B < w'.heap.size := by
  obtain ⟨h1, h2, h3, h4, h5, h6⟩ := h
  have key : ∀ o, w'.cell? ⟨B, o, none⟩ = w.cell? ⟨B, o, none⟩ := fun o => hb.cell (p := ⟨B, o, none⟩) h6
  exact ⟨h1.trans (hb.mono (Nat.le_of_lt h6)), by rw [key]; exact h2, by rw [key]; exact h3, by rw [key]; exact h4, by rw [key]; exact h5, Nat.lt_of_lt_of_le h6 hb.size⟩

set_option maxRecDepth 100000 in
set_option maxHeartbeats 4000000 in
theorem rnames_any (T : Em5.Nd) (v : Value) (w : World) (hv : Em5.IsNd w T v) :
    Calls Tryd.prog 29 #[v] w fun e w' => e = .returned (.bool (Em5.namesOk T)) ∧ Below w.heap.size w w' := by
  obtain ⟨op, nm, ar, n, p, l⟩ := T
  unfold Em5.IsNd at hv
  obtain ⟨a, cap, rfl, t1, t2, t3, -⟩ := hv
  have hq := Em5.str_eq t1.1
  obtain ⟨bn, hbn⟩ : ∃ bn, bn = decide (nm = []) := ⟨_, rfl⟩
  obtain ⟨ba, hba⟩ : ∃ ba, ba = decide (ar = []) := ⟨_, rfl⟩
  have hq2 : ((Em.str nm).toList == []) = bn := by rw [Em5.str_eq t2.1, hbn]; rfl
  have hq3 : ((Em.str ar).toList == []) = ba := by rw [Em5.str_eq t3.1, hba]; rfl
  have hbel : Below w.heap.size w (w.alloc (.cells #[.string (Em.str op), .string (Em.str nm), .string (Em.str ar), .int .i64 n, .int .i64 p, .slice a l.length cap] 24)) := (Below.refl _ _).alloc (Nat.le_refl _) _
  have HN : Hid (Em.IsStr (Em.str nm) nm ∧ (Em.str nm).size ≤ 9223372036854775807) := ⟨Em.isStr_str t2.1, by rw [(Em.isStr_str t2.1).size]; have := t2.2; omega⟩
  have HA : Hid (Em.IsStr (Em.str ar) ar ∧ (Em.str ar).size ≤ 9223372036854775807) := ⟨Em.isStr_str t3.1, by rw [(Em.isStr_str t3.1).size]; have := t3.2; omega⟩
  clear t1 t2 t3
  by_cases hc : op = [118, 97, 114] ∨ op = [102, 117, 110] ∨ op = [108, 101, 116] ∨ op = [116, 114, 121]
  · have HR : Hid (Em5.namesOk (.mk op nm ar n p l) = (Em4.nameOk nm && (ba && decide (n = 0)))) := by
      rw [hba]
      rcases hc with h | h | h | h <;> subst h <;> rfl
    clear hba hbn
    generalize Em5.namesOk (.mk op nm ar n p l) = R at HR ⊢
    rcases hc with hc | hc | hc | hc
    all_goals
      subst hc
      go_enter Tryd.func29, Tryd.ntmps29
      go_wp2_with fail
      go_quiet (fail)
      have hbq := Em.below_drewN hbel nq
      go_wp2_with (go_at_call 38; refine (rName_any _ _ _ HN.out.1 HN.out.2).mono ?_; rintro e w1 ⟨rfl, hb1⟩; have hbel1 : Below w.heap.size w w1 := hbq.trans (hb1.mono hbq.size); have hcl := (Em.bcell hb1).1; clear hb1)
      all_goals
        go_ret
        refine ⟨?_, hbel1⟩
        rw [HR.out]
        exact Em.ret_bool (by first | (simp [*]; done) | (simp [*]; rfl))
  by_cases hc2 : op = [114, 101, 99] ∨ op = [109, 97, 116, 99, 104]
  · have HR : Hid (Em5.namesOk (.mk op nm ar n p l) = (Em4.nameOk nm && (Em4.nameOk ar && decide (n = 0)))) := by
      rcases hc2 with h | h <;> subst h <;> rfl
    clear hba hbn
    generalize Em5.namesOk (.mk op nm ar n p l) = R at HR ⊢
    clear hc
    rcases hc2 with hc | hc
    · subst hc
      go_enter Tryd.func29, Tryd.ntmps29
      go_wp2_with fail
      go_quiet (fail)
      have hbq := Em.below_drewN hbel nq
      obtain ⟨W, hW⟩ : ∃ W, W = (w.alloc (.cells #[.string (Em.str [114, 101, 99]), .string (Em.str nm), .string (Em.str ar), .int .i64 n, .int .i64 p, .slice a l.length cap] 24)).drewN nq := ⟨_, rfl⟩
      rw [← hW] at hbq ⊢
      have hS0 : Below w.heap.size w W.drew ∧ W.drew.cell? ⟨w.heap.size, 1, none⟩ = some (.string (Em.str nm)) ∧ W.drew.cell? ⟨w.heap.size, 2, none⟩ = some (.string (Em.str ar)) ∧ W.drew.cell? ⟨w.heap.size, 0, none⟩ = some (.string (Em.str [114, 101, 99])) ∧ W.drew.cell? ⟨w.heap.size, 3, none⟩ = some (.int .i64 n) ∧ w.heap.size < W.drew.heap.size := ⟨hbq.drew, by rw [hW]; simp, by rw [hW]; simp, by rw [hW]; simp, by rw [hW]; simp, by rw [hW]; simp⟩
      have hc0 : W.cell? ⟨w.heap.size, 0, none⟩ = some (.string (Em.str [114, 101, 99])) := hS0.2.2.2.1
      have HS0 : Hid (Below w.heap.size w W.drew ∧ W.drew.cell? ⟨w.heap.size, 1, none⟩ = some (.string (Em.str nm)) ∧ W.drew.cell? ⟨w.heap.size, 2, none⟩ = some (.string (Em.str ar)) ∧ W.drew.cell? ⟨w.heap.size, 0, none⟩ = some (.string (Em.str [114, 101, 99])) ∧ W.drew.cell? ⟨w.heap.size, 3, none⟩ = some (.int .i64 n) ∧ w.heap.size < W.drew.heap.size) := hS0
      clear hS0 hW hbq hbel
      go_wp2_with fail
      go_region_held (fun w' => Below w.heap.size w w' ∧ w'.cell? ⟨w.heap.size, 1, none⟩ = some (.string (Em.str nm)) ∧ w'.cell? ⟨w.heap.size, 2, none⟩ = some (.string (Em.str ar)) ∧ w'.cell? ⟨w.heap.size, 0, none⟩ = some (.string (Em.str [114, 101, 99])) ∧ w'.cell? ⟨w.heap.size, 3, none⟩ = some (.int .i64 n) ∧ w.heap.size < w'.heap.size)
        (first | exact HS0 | exact names_keep (by assumption) (by assumption))
        (first | (go_at_call 38; refine (rName_any _ _ _ (by first | exact HN.out.1 | exact HA.out.1) (by first | exact HN.out.2 | exact HA.out.2)).mono ?_; rintro e w1 ⟨rfl, hb1⟩))
      go_wp2
      all_goals
        go_ret
        refine ⟨?_, Em.held1 (by assumption)⟩
        rw [HR.out]
        exact Em.ret_bool (by first | (simp [*]; done) | (simp [*]; rfl))
    · subst hc
      go_enter Tryd.func29, Tryd.ntmps29
      go_wp2_with fail
      go_quiet (fail)
      have hbq := Em.below_drewN hbel nq
      obtain ⟨W, hW⟩ : ∃ W, W = (w.alloc (.cells #[.string (Em.str [109, 97, 116, 99, 104]), .string (Em.str nm), .string (Em.str ar), .int .i64 n, .int .i64 p, .slice a l.length cap] 24)).drewN nq := ⟨_, rfl⟩
      rw [← hW] at hbq ⊢
      have hS0 : Below w.heap.size w W.drew ∧ W.drew.cell? ⟨w.heap.size, 1, none⟩ = some (.string (Em.str nm)) ∧ W.drew.cell? ⟨w.heap.size, 2, none⟩ = some (.string (Em.str ar)) ∧ W.drew.cell? ⟨w.heap.size, 0, none⟩ = some (.string (Em.str [109, 97, 116, 99, 104])) ∧ W.drew.cell? ⟨w.heap.size, 3, none⟩ = some (.int .i64 n) ∧ w.heap.size < W.drew.heap.size := ⟨hbq.drew, by rw [hW]; simp, by rw [hW]; simp, by rw [hW]; simp, by rw [hW]; simp, by rw [hW]; simp⟩
      have hc0 : W.cell? ⟨w.heap.size, 0, none⟩ = some (.string (Em.str [109, 97, 116, 99, 104])) := hS0.2.2.2.1
      have HS0 : Hid (Below w.heap.size w W.drew ∧ W.drew.cell? ⟨w.heap.size, 1, none⟩ = some (.string (Em.str nm)) ∧ W.drew.cell? ⟨w.heap.size, 2, none⟩ = some (.string (Em.str ar)) ∧ W.drew.cell? ⟨w.heap.size, 0, none⟩ = some (.string (Em.str [109, 97, 116, 99, 104])) ∧ W.drew.cell? ⟨w.heap.size, 3, none⟩ = some (.int .i64 n) ∧ w.heap.size < W.drew.heap.size) := hS0
      clear hS0 hW hbq hbel
      go_wp2_with fail
      go_region_held (fun w' => Below w.heap.size w w' ∧ w'.cell? ⟨w.heap.size, 1, none⟩ = some (.string (Em.str nm)) ∧ w'.cell? ⟨w.heap.size, 2, none⟩ = some (.string (Em.str ar)) ∧ w'.cell? ⟨w.heap.size, 0, none⟩ = some (.string (Em.str [109, 97, 116, 99, 104])) ∧ w'.cell? ⟨w.heap.size, 3, none⟩ = some (.int .i64 n) ∧ w.heap.size < w'.heap.size)
        (first | exact HS0 | exact names_keep (by assumption) (by assumption))
        (first | (go_at_call 38; refine (rName_any _ _ _ (by first | exact HN.out.1 | exact HA.out.1) (by first | exact HN.out.2 | exact HA.out.2)).mono ?_; rintro e w1 ⟨rfl, hb1⟩))
      go_wp2
      all_goals
        go_ret
        refine ⟨?_, Em.held1 (by assumption)⟩
        rw [HR.out]
        exact Em.ret_bool (by first | (simp [*]; done) | (simp [*]; rfl))
  by_cases hc3 : op = [115, 116, 114]
  · have HR : Hid (Em5.namesOk (.mk op nm ar n p l) = (Em4.textOk nm && (ba && decide (n = 0)))) := by rw [hba]; subst hc3; rfl
    clear hba hbn
    generalize Em5.namesOk (.mk op nm ar n p l) = R at HR ⊢
    clear hc hc2
    subst hc3
    go_enter Tryd.func29, Tryd.ntmps29
    go_wp2_with fail
    go_quiet (fail)
    have hbq := Em.below_drewN hbel nq
    go_wp2_with (go_at_call 39; refine (rtext_any _ _ _ HN.out.1 HN.out.2).mono ?_; rintro e w1 ⟨rfl, rfl⟩)
    all_goals
      go_ret
      refine ⟨?_, by first | exact hbq | assumption⟩
      rw [HR.out]
      exact Em.ret_bool (by first | (simp [*]; done) | (simp [*]; rfl))
  have n1 : ¬ op = [118, 97, 114] := fun h => hc (Or.inl h)
  have n2 : ¬ op = [102, 117, 110] := fun h => hc (Or.inr (Or.inl h))
  have n3 : ¬ op = [108, 101, 116] := fun h => hc (Or.inr (Or.inr (Or.inl h)))
  have n4 : ¬ op = [116, 114, 121] := fun h => hc (Or.inr (Or.inr (Or.inr h)))
  have n5 : ¬ op = [114, 101, 99] := fun h => hc2 (Or.inl h)
  have n6 : ¬ op = [109, 97, 116, 99, 104] := fun h => hc2 (Or.inr h)
  have HR : Hid (Em5.namesOk (.mk op nm ar n p l) = (bn && (ba && Em5.numOk op n))) := by
    rw [hba, hbn]
    simp only [Hid, Em5.namesOk, Em5.Nd.op, Em5.Nd.nm, Em5.Nd.ar, Em5.Nd.n, Em5.nameA, Em5.nameB, Em5.oVar, Em5.oFun, Em5.oLet, Em5.oTry, Em5.oRec, Em5.oMatch, Em5.oStr, n1, n2, n3, n4, n5, n6, hc3, or_self, if_false]
    rfl
  clear hba hbn
  generalize Em5.namesOk (.mk op nm ar n p l) = R at HR ⊢
  clear hc hc2
  by_cases hi : op = [105, 110, 116]
  · subst hi
    have HR2 : Hid (R = (bn && (ba && (decide (0 ≤ n) && decide (n ≤ 999999999999999999))))) := HR
    clear n1 n2 n3 n4 n5 n6 hc3 HR
    go_enter Tryd.func29, Tryd.ntmps29
    go_wp2_with fail
    go_quiet (fail)
    have hbq := Em.below_drewN hbel nq
    go_wp2
    all_goals
      go_ret
      refine ⟨?_, by first | exact hbq | assumption⟩
      rw [HR2.out]
      exact Em.ret_bool (by first | (simp [*]; done) | (simp [*]; rfl) | (simp [*]; omega))
  by_cases hbo : op = [98, 111, 111, 108]
  · subst hbo
    have HR2 : Hid (R = (bn && (ba && (decide (n = 0) || decide (n = 1))))) := HR
    clear n1 n2 n3 n4 n5 n6 hc3 HR hi
    cases h0 : (n == 0) <;> cases h1 : (n == 1)
    all_goals
      have HR3 : Hid (R = (bn && (ba && ((n == 0) || (n == 1))))) := HR2
      go_enter Tryd.func29, Tryd.ntmps29
      go_wp2_with fail
      go_quiet (fail)
      have hbq := Em.below_drewN hbel nq
      go_wp2
      all_goals
        go_ret
        refine ⟨?_, by first | exact hbq | assumption⟩
        rw [HR3.out]
        exact Em.ret_bool (by first | (simp [*]; done) | (simp [*]; rfl))
  have HR2 : Hid (R = (bn && (ba && decide (n = 0)))) := by
    rw [Hid, HR.out]
    simp only [Em5.numOk, Em5.oInt, Em5.oBool, hi, hbo, if_false]
  clear HR
  go_enter Tryd.func29, Tryd.ntmps29
  go_wp2_with fail
  go_quiet (fail)
  have hbq := Em.below_drewN hbel nq
  go_wp2
  all_goals
    go_ret
    refine ⟨?_, by first | exact hbq | assumption⟩
    rw [HR2.out]
    exact Em.ret_bool (by first | (simp [*]; done) | (simp [*]; rfl) | (simp [*]; omega))

end Go.Proofs.YtlniokcekjemdaaDoor

/- What 'opOfAtom' of the program's parser answers. -/
import Derived.Test.YtgojjknbingfpaaDoorPaE
namespace Go.Proofs.YtgojjknbingfpaaDoor
open Go.RowKit Go.Em5 Go.Em6
set_option linter.unusedSimpArgs false

set_option maxRecDepth 100000 in
set_option maxHeartbeats 2000000 in
theorem qop_any (t : Em4.Tok) (w : World) (ht : TokOk t) :
    Calls Tryd.prog 92 #[Em6.tokV t] w fun e w' => e = .returned (.string (Em.str (opA t))) ∧ Below w.heap.size w w' := by
  have hq := Em5.str_eq ht.1.1
  have hb := (Below.refl w.heap.size w).alloc (Nat.le_refl _) (.cells #[.int .i64 t.kind, .string (Em.str t.text), .int .i64 t.num, .int .i64 t.pos] 46)
  simp only [Em6.tokV]
  unfold opA
  by_cases h2 : t.kind = 2
  · rw [if_pos h2]
    have e2 : (t.kind == 2) = true := by simpa using h2
    clear hq h2
    go_enter Tryd.func92, Tryd.ntmps92
    go_wp2_with fail
    go_ret
    exact ⟨rfl, hb⟩
  have e2 : (t.kind == 2) = false := by simpa using h2
  rw [if_neg h2]
  by_cases h3 : t.kind = 3
  · rw [if_pos h3]
    have e3 : (t.kind == 3) = true := by simpa using h3
    clear hq h2 h3
    go_enter Tryd.func92, Tryd.ntmps92
    go_wp2_with fail
    go_ret
    exact ⟨rfl, hb⟩
  have e3 : (t.kind == 3) = false := by simpa using h3
  rw [if_neg h3]
  by_cases h1 : t.kind = 1
  · rw [if_pos h1]
    have e1 : (t.kind == 1) = true := by simpa using h1
    clear hq h2 h3 h1
    go_enter Tryd.func92, Tryd.ntmps92
    go_wp2_with fail
    go_ret
    exact ⟨rfl, hb⟩
  have e1 : (t.kind == 1) = false := by simpa using h1
  rw [if_neg h1]
  by_cases h4 : t.kind = 4
  · rw [if_pos h4]
    have e4 : (t.kind == 4) = true := by simpa using h4
    have q1 : ((Em.str t.text).toList == [116, 114, 117, 101]) = decide (t.text = [116, 114, 117, 101]) := hq [116, 114, 117, 101]
    have q2 : ((Em.str t.text).toList == [102, 97, 108, 115, 101]) = decide (t.text = [102, 97, 108, 115, 101]) := hq [102, 97, 108, 115, 101]
    have q3 : ((Em.str t.text).toList == [33]) = decide (t.text = [33]) := hq [33]
    have q4 : ((Em.str t.text).toList == [40]) = decide (t.text = [40]) := hq [40]
    have q5 : ((Em.str t.text).toList == [91]) = decide (t.text = [91]) := hq [91]
    clear hq h2 h3 h1 h4
    by_cases k1 : t.text = [116, 114, 117, 101]
    · rw [if_pos k1]
      rw [decide_eq_true k1] at q1
      clear q2 q3 q4 q5 k1
      go_enter Tryd.func92, Tryd.ntmps92
      go_wp2_with fail
      go_ret
      exact ⟨rfl, hb⟩
    rw [if_neg k1]
    rw [decide_eq_false k1] at q1
    by_cases k2 : t.text = [102, 97, 108, 115, 101]
    · rw [if_pos k2]
      rw [decide_eq_true k2] at q2
      clear q3 q4 q5 k1 k2
      go_enter Tryd.func92, Tryd.ntmps92
      go_wp2_with fail
      go_ret
      exact ⟨rfl, hb⟩
    rw [if_neg k2]
    rw [decide_eq_false k2] at q2
    by_cases k3 : t.text = [33]
    · rw [if_pos k3]
      rw [decide_eq_true k3] at q3
      clear q4 q5 k1 k2 k3
      go_enter Tryd.func92, Tryd.ntmps92
      go_wp2_with fail
      go_ret
      exact ⟨rfl, hb⟩
    rw [if_neg k3]
    rw [decide_eq_false k3] at q3
    by_cases k4 : t.text = [40]
    · rw [if_pos k4]
      rw [decide_eq_true k4] at q4
      clear q5 k1 k2 k3 k4
      go_enter Tryd.func92, Tryd.ntmps92
      go_wp2_with fail
      go_ret
      exact ⟨rfl, hb⟩
    rw [if_neg k4]
    rw [decide_eq_false k4] at q4
    by_cases k5 : t.text = [91]
    · rw [if_pos k5]
      rw [decide_eq_true k5] at q5
      clear k1 k2 k3 k4 k5
      go_enter Tryd.func92, Tryd.ntmps92
      go_wp2_with fail
      go_ret
      exact ⟨rfl, hb⟩
    rw [if_neg k5]
    rw [decide_eq_false k5] at q5
    clear k1 k2 k3 k4 k5
    go_enter Tryd.func92, Tryd.ntmps92
    go_wp2_with fail
    go_ret
    exact ⟨rfl, hb⟩
  · rw [if_neg h4]
    have e4 : (t.kind == 4) = false := by simpa using h4
    clear hq h2 h3 h1 h4
    go_enter Tryd.func92, Tryd.ntmps92
    go_wp2_with fail
    go_ret
    exact ⟨rfl, hb⟩
end Go.Proofs.YtgojjknbingfpaaDoor

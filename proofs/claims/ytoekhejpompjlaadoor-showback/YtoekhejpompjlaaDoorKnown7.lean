/- What the law's own 'known' answers: true. -/
import Derived.Test.YtoekhejpompjlaaDoorShC
import Derived.Test.YtoekhejpompjlaaDoorRPaQ
import Derived.Test.YtoekhejpompjlaaDoorRShC
import Derived.Test.YtoekhejpompjlaaDoorRTreeM1
import Derived.Test.YtoekhejpompjlaaDoorMath7p
import Derived.Test.YtoekhejpompjlaaDoorMath7r
namespace Go.Proofs.YtoekhejpompjlaaDoor
open Go.RowKit Go.Em5 Go.Em6
set_option linter.unusedSimpArgs false

theorem isNd_each {m : Nd} (h : isNd m = true) : each m = true ∧ m.size ≤ 2000 := by
  unfold isNd at h
  simp only [Bool.and_eq_true, decide_eq_true_eq] at h
  exact ⟨h.2, h.1⟩
theorem shown_is {m : Nd} (h : isNd m = true) : shown m = Em7.text m := by rw [shown, if_pos h]
def k7Text : List Int := [102, 32, 40, 49, 32, 43, 32, 50, 41]
def k7Out : List Int := [40, 102, 32, 40, 49, 32, 43, 32, 50, 41, 41]
def k7Chk : Bool := match Em6.parse k7Text with
  | .ok m => isNd m && decide (Em7.text m = k7Out)
  | .error _ => false
theorem k7_chk : k7Chk = true := by decide +kernel
theorem k7_parse : ∃ m, Em6.parse k7Text = .ok m ∧ isNd m = true ∧ Em7.text m = k7Out := by
  have h := k7_chk
  unfold k7Chk at h
  cases hp : Em6.parse k7Text with
  | error e => rw [hp] at h; cases h
  | ok m =>
    rw [hp] at h
    simp only [Bool.and_eq_true, decide_eq_true_eq] at h
    exact ⟨m, rfl, h.1, h.2⟩
theorem k7_str : Em.IsStr ⟨#[102, 32, 40, 49, 32, 43, 32, 50, 41]⟩ k7Text := ⟨rfl, by decide⟩

set_option maxRecDepth 100000 in
set_option maxHeartbeats 2000000 in
theorem known7_any (w : World) (hl : IsLaid w) : Calls Tryd.prog 11 #[] w fun e w' => e = .returned (.bool true) ∧ Below w.heap.size w w' := by
  have HL : Hid (∀ w', Below w.heap.size w w' → IsLaid w') := fun w' h => hl.below h
  obtain ⟨m, hp, hi, ht⟩ := k7_parse
  have HP : Hid (Em6.parse k7Text = .ok m) := hp
  have HR : Hid (shown m = k7Out) := by rw [Hid, shown_is hi, ht]
  have hq : ((Em.str k7Out).toList == [40, 102, 32, 40, 49, 32, 43, 32, 50, 41, 41]) = true := (Em5.str_eq (by decide) _).trans (by decide)
  clear hl hp hi ht
  go_enter Tryd.func11, Tryd.ntmps11
  go_wp2_with fail
  refine (rparse_any _ k7Text _ k7_str (by decide)).mono ?_
  rintro e w1 ⟨hgot, hb1⟩
  rw [HP.out] at hgot
  simp only [Parsed] at hgot
  obtain ⟨v1, rfl, hn1⟩ := hgot
  obtain ⟨x0, x1, x2, xm, xp, xa, xl, xc, rfl⟩ := ndb_shape hn1
  have hal := (Below.refl w1.heap.size w1).alloc (Nat.le_refl _) (.cells #[.string x0, .string x1, .string x2, .int .i64 xm, .int .i64 xp, .slice xa xl xc] 24)
  have bel2 := hb1.alloc hb1.size (.cells #[.string x0, .string x1, .string x2, .int .i64 xm, .int .i64 xp, .slice xa xl xc] 24)
  have d1 := isNd_below hal _ _ (isNdP_is _ _ hn1)
  clear hn1 hb1 hal
  go_wp2_with fail
  refine (ptext_any m _ _ d1 (HL.out _ bel2)).mono ?_
  rintro e w2 ⟨rfl, hb2⟩
  rw [HR.out]
  have bel3 := bel2.trans (hb2.mono bel2.size)
  clear hb2 d1 bel2
  go_wp2_with fail
  go_ret
  exact ⟨rfl, bel3⟩
end Go.Proofs.YtoekhejpompjlaaDoor

/- Several texts in one: RTreeS, RTreeA, RTreeE, RTreeC0, RTreeC. -/
import Derived.Test.YtoekhejpompjlaaDoorProg
import Derived.Test.YtoekhejpompjlaaDoorPureA
import Derived.WalkKit
import Derived.WalkSpells
import Derived.WalkLawsBesides
import Derived.Deep.QuietTactic
import Derived.BigQuiet
import Derived.Test.YtoekhejpompjlaaDoorRLexM1
import Derived.Deep.RegionHeld
namespace Go.Proofs.YtoekhejpompjlaaDoor
open Go.RowKit
set_option linter.unusedSimpArgs false

set_option maxRecDepth 100000 in
set_option maxHeartbeats 2000000 in
theorem rsize_any (T : Em5.Nd) : ∀ (v : Value) (w : World) (most : Nat), Em5.IsNd w T v → 1 ≤ most → most ≤ 100000 →
    Calls Tryd.prog 14 #[v, .int .i64 most] w fun e w' => e = .returned (.int .i64 ((min T.size most : Nat) : Int)) ∧ Below w.heap.size w w' := by
  induction T using Em5.Nd.ind with
  | h op nm ar n p l ih =>
    intro v w most hv hm1 hm2
    have hv' := hv
    unfold Em5.IsNd at hv
    obtain ⟨a, cap, rfl, t1, t2, t3, i1, i2, hc1, hc2, hk⟩ := hv
    have HK : Hid (0 < l.length → ∃ b off, a = some ⟨b, off, none⟩ ∧ b < w.heap.size ∧ Em5.KidsAt w b off l) := hk
    have HI : Hid (∀ t ∈ l, ∀ (v : Value) (w : World) (most : Nat), Em5.IsNd w t v → 1 ≤ most → most ≤ 100000 →
      Calls Tryd.prog 14 #[v, .int .i64 most] w fun e w' => e = .returned (.int .i64 ((min t.size most : Nat) : Int)) ∧ Below w.heap.size w w') := ih
    clear ih hk hv' t1 t2 t3 i1 i2
    go_enter Tryd.func14, Tryd.ntmps14
    go_wp2
    go_loopw [5, 6] (fun x i wr => ∃ (j k : Nat), j ≤ l.length ∧ i = .int .i64 j ∧ x = .int .i64 k ∧ 1 ≤ k ∧ k ≤ most ∧ Below w.heap.size w wr ∧ wr.cell? ⟨w.heap.size, 5, none⟩ = some (.slice a l.length cap) ∧ w.heap.size < wr.heap.size ∧ Hid (k = min (Em5.sizes (l.take j) + 1) most)) (fun _ i _ => l.length - (intOf i).toNat)
    case atStart => exact ⟨0, 1, Nat.zero_le _, rfl, rfl, by omega, by omega, (Below.refl _ _).alloc (Nat.le_refl _) _, by simp, by simp, by simp [Hid, Em5.sizes]; omega⟩
    case round =>
      obtain ⟨j, k, hj, rfl, rfl, hk1, hk2, hbel, hcell, hsz, HD⟩ := hrel
      by_cases hlt : j < l.length
      · by_cases hkm : k < most
        · obtain ⟨b, off, rfl, hb, hat⟩ := HK.out (by omega)
          obtain ⟨t, ht⟩ : ∃ t, l[j]? = some t := ⟨_, List.getElem?_eq_getElem hlt⟩
          obtain ⟨c0, c1, c2, c3, c4, c5, k0, k1, k2, k3, k4, k5, kn⟩ := Em5.kidsAt_get l off j t hat ht
          have key : ∀ o, wr.cell? ⟨b, o, none⟩ = w.cell? ⟨b, o, none⟩ := fun o => hbel.cell (p := ⟨b, o, none⟩) hb
          rw [← key] at k0 k1 k2 k3 k4 k5
          have HN : Hid (Em5.IsNd wr t (.agg #[c0, c1, c2, c3, c4, c5])) := Em5.isNd_below hbel t _ kn
          have HT : Hid (l[j]? = some t) := ht
          clear key kn ht hat
          obtain ⟨d, hd⟩ : ∃ d : Nat, d = most - k := ⟨_, rfl⟩
          have hdi : (most : Int) - (k : Int) = (d : Int) := by omega
          have hd1 : 1 ≤ d := by omega
          have hd2 : d ≤ 100000 := by omega
          have HDD : Hid (d = most - k) := hd
          clear hd
          go_wp2_with fail
          refine (HI.out t (List.mem_of_getElem? HT.out) _ _ d HN.out hd1 hd2).mono ?_
          rintro e w1 ⟨rfl, hb1⟩
          obtain ⟨z, hz⟩ : ∃ z : Nat, z = min t.size d := ⟨_, rfl⟩
          rw [← hz]
          have HZ : Hid (z = min t.size d) := hz
          have hz2 : z ≤ d := by omega
          have hbel1 : Below w.heap.size w w1 := hbel.trans (hb1.mono hbel.size)
          have hcell1 : w1.cell? ⟨w.heap.size, 5, none⟩ = some (.slice (some ⟨b, off, none⟩) l.length cap) := by rw [hb1.cell (p := ⟨w.heap.size, 5, none⟩) hsz]; exact hcell
          have hsz1 : w.heap.size < w1.heap.size := Nat.lt_of_lt_of_le hsz hb1.size
          clear hz hb1 k0 k1 k2 k3 k4 k5 hcell hsz hbel
          go_wp2
          go_roundw
          case rel =>
            refine ⟨j + 1, k + z, by omega, by go_num, by go_num, by omega, by have := HDD.out; omega, hbel1, hcell1, hsz1, ?_⟩
            have h1 := HD.out
            have h2 := HZ.out
            have h3 := HDD.out
            rw [Hid, Em5.sizes_take l j t HT.out]
            omega
          case measure => simp [intOf]; omega
        · have HR : Hid (k = min (Em5.Nd.mk op nm ar n p l).size most) := by
            have h1 := HD.out
            have h2 := Em5.sizes_take_le l j
            rw [Hid, Em5.Nd.size]
            omega
          go_wp2
          go_ret
          exact ⟨by rw [← HR.out]; rfl, hbel⟩
      · have HR : Hid (k = min (Em5.Nd.mk op nm ar n p l).size most) := by
          have h1 := HD.out
          rw [List.take_of_length_le (by omega)] at h1
          rw [Hid, Em5.Nd.size]
          omega
        go_wp2
        go_ret
        exact ⟨by rw [← HR.out]; rfl, hbel⟩

set_option maxRecDepth 100000 in
set_option maxHeartbeats 1000000 in
theorem rSize_any (T : Em5.Nd) (v : Value) (w : World) (hv : Em5.IsNd w T v) :
    Calls Tryd.prog 7 #[v] w fun e w' => e = .returned (.int .i64 ((min T.size 2001 : Nat) : Int)) ∧ Below w.heap.size w w' := by
  have hv' := hv
  obtain ⟨op, nm, ar, n, p, l⟩ := T
  unfold Em5.IsNd at hv
  obtain ⟨a, cap, rfl, -⟩ := hv
  have HV : Hid (Em5.IsNd (w.alloc (.cells #[.string (Em.str op), .string (Em.str nm), .string (Em.str ar), .int .i64 n, .int .i64 p, .slice a l.length cap] 24)) (.mk op nm ar n p l) (.agg #[.string (Em.str op), .string (Em.str nm), .string (Em.str ar), .int .i64 n, .int .i64 p, .slice a l.length cap])) :=
    Em5.isNd_below ((Below.refl _ _).alloc (Nat.le_refl _) _) _ _ hv'
  have hbel : Below w.heap.size w (w.alloc (.cells #[.string (Em.str op), .string (Em.str nm), .string (Em.str ar), .int .i64 n, .int .i64 p, .slice a l.length cap] 24)) := (Below.refl _ _).alloc (Nat.le_refl _) _
  clear hv'
  go_enter Tryd.func7, Tryd.ntmps7
  go_wp2_with fail
  refine (rsize_any _ _ _ 2001 HV.out (by omega) (by omega)).mono ?_
  rintro e w1 ⟨rfl, hb1⟩
  have hbel1 : Below w.heap.size w w1 := hbel.trans (hb1.mono hbel.size)
  obtain ⟨z, hz⟩ : ∃ z : Nat, z = min (Em5.Nd.mk op nm ar n p l).size 2001 := ⟨_, rfl⟩
  have hz2 : z ≤ 2001 := by omega
  rw [← hz]
  have HZ : Hid (z = min (Em5.Nd.mk op nm ar n p l).size 2001) := hz
  clear hz hb1 hbel HV
  go_wp2
  go_ret
  exact ⟨by rw [← HZ.out]; rfl, hbel1⟩
end Go.Proofs.YtoekhejpompjlaaDoor

namespace Go.Proofs.YtoekhejpompjlaaDoor
open Go.RowKit
set_option linter.unusedSimpArgs false

theorem kids_ops (op : List Int) : Em5.kidsN op = if op ∈ [[105, 110, 116], [98, 111, 111, 108], [117, 110, 105, 116], [110, 105, 108], [115, 116, 114], [118, 97, 114]] then 0
    else if op ∈ [[102, 117, 110], [114, 97, 105, 115, 101], [103, 101, 116], [102, 115, 116], [115, 110, 100], [114, 101, 102], [99, 101, 108, 108], [116, 97, 103], [108, 105, 110, 107, 115], [115, 105, 122, 101], [112, 114, 105, 110, 116]] then 1
    else if op ∈ [[108, 101, 116], [114, 101, 99], [116, 114, 121], [115, 101, 113], [115, 101, 116], [101, 113], [108, 101, 115, 115], [99, 111, 110, 115], [97, 100, 100], [115, 117, 98], [99, 97, 116], [109, 117, 108], [97, 112, 112], [112, 97, 105, 114], [108, 105, 110, 107]] then 2
    else if op ∈ [[105, 102], [109, 97, 116, 99, 104]] then 3 else -1 := rfl

set_option maxRecDepth 100000 in
set_option maxHeartbeats 4000000 in
theorem rKids_any (op : List Int) (w : World) (h : ∀ x ∈ op, 0 ≤ x ∧ x ≤ 255) :
    Calls Tryd.prog 25 #[.string (Em.str op)] w fun e w' => e = .returned (.int .i64 (Em5.kidsN op)) ∧ w' = w := by
  have hq := Em5.str_eq h
  go_enter Tryd.func25, Tryd.ntmps25
  go_wp2
  all_goals
    go_ret
    refine ⟨Em.ret_int ?_, rfl⟩
    first
      | (clear hq; subst_vars; rfl)
      | (simp only [kids_ops]; simp [*])

theorem names_keep {w0 w w' : World} {B : Nat} {x y z u : Value} (hb : Below w.heap.size w w') (h : Below B w0 w ∧ w.cell? ⟨B, 1, none⟩ = some x ∧ w.cell? ⟨B, 2, none⟩ = some y ∧ w.cell? ⟨B, 0, none⟩ = some z ∧ w.cell? ⟨B, 3, none⟩ = some u ∧ B < w.heap.size) :
    Below B w0 w' ∧ w'.cell? ⟨B, 1, none⟩ = some x ∧ w'.cell? ⟨B, 2, none⟩ = some y ∧ w'.cell? ⟨B, 0, none⟩ = some z ∧ w'.cell? ⟨B, 3, none⟩ = some u ∧ B < w'.heap.size := by
  obtain ⟨h1, h2, h3, h4, h5, h6⟩ := h
  have key : ∀ o, w'.cell? ⟨B, o, none⟩ = w.cell? ⟨B, o, none⟩ := fun o => hb.cell (p := ⟨B, o, none⟩) h6
  exact ⟨h1.trans (hb.mono (Nat.le_of_lt h6)), by rw [key]; exact h2, by rw [key]; exact h3, by rw [key]; exact h4, by rw [key]; exact h5, Nat.lt_of_lt_of_le h6 hb.size⟩

set_option maxRecDepth 100000 in
set_option maxHeartbeats 4000000 in
theorem rnames_any (T : Em5.Nd) (v : Value) (w : World) (hv : Em5.IsNd w T v) :
    Calls Tryd.prog 26 #[v] w fun e w' => e = .returned (.bool (Em5.namesOk T)) ∧ Below w.heap.size w w' := by
  obtain ⟨op, nm, ar, n, p, l⟩ := T
  unfold Em5.IsNd at hv
  obtain ⟨a, cap, rfl, t1, t2, t3, -⟩ := hv
  have hq := Em5.str_eq t1.1
  obtain ⟨bn, hbn⟩ : ∃ bn, bn = decide (nm = []) := ⟨_, rfl⟩
  obtain ⟨ba, hba⟩ : ∃ ba, ba = decide (ar = []) := ⟨_, rfl⟩
  have hq2 : ((Em.str nm).toList == []) = bn := by rw [Em5.str_eq t2.1, hbn]; rfl
  have hq3 : ((Em.str ar).toList == []) = ba := by rw [Em5.str_eq t3.1, hba]; rfl
  have hbel : Below w.heap.size w (w.alloc (.cells #[.string (Em.str op), .string (Em.str nm), .string (Em.str ar), .int .i64 n, .int .i64 p, .slice a l.length cap] 24)) := (Below.refl _ _).alloc (Nat.le_refl _) _
  have HN : Hid (Em.IsStr (Em.str nm) nm ∧ (Em.str nm).size ≤ 9223372036854775807) := ⟨Em.isStr_str t2.1, by rw [(Em.isStr_str t2.1).size]; have := t2.2; omega⟩
  have HA : Hid (Em.IsStr (Em.str ar) ar ∧ (Em.str ar).size ≤ 9223372036854775807) := ⟨Em.isStr_str t3.1, by rw [(Em.isStr_str t3.1).size]; have := t3.2; omega⟩
  clear t1 t2 t3
  by_cases hc : op = [118, 97, 114] ∨ op = [102, 117, 110] ∨ op = [108, 101, 116] ∨ op = [116, 114, 121]
  · have HR : Hid (Em5.namesOk (.mk op nm ar n p l) = (Em4.nameOk nm && (ba && decide (n = 0)))) := by
      rw [hba]
      rcases hc with h | h | h | h <;> subst h <;> rfl
    clear hba hbn
    generalize Em5.namesOk (.mk op nm ar n p l) = R at HR ⊢
    rcases hc with hc | hc | hc | hc
    all_goals
      subst hc
      go_enter Tryd.func26, Tryd.ntmps26
      go_wp2_with fail
      go_quiet (fail)
      have hbq := Em.below_drewN hbel nq
      go_wp2_with (go_at_call 41; refine (rName_any _ _ _ HN.out.1 HN.out.2).mono ?_; rintro e w1 ⟨rfl, hb1⟩; have hbel1 : Below w.heap.size w w1 := hbq.trans (hb1.mono hbq.size); have hcl := (Em.bcell hb1).1; clear hb1)
      all_goals
        go_ret
        refine ⟨?_, hbel1⟩
        rw [HR.out]
        exact Em.ret_bool (by first | (simp [*]; done) | (simp [*]; rfl))
  by_cases hc2 : op = [114, 101, 99] ∨ op = [109, 97, 116, 99, 104]
  · have HR : Hid (Em5.namesOk (.mk op nm ar n p l) = (Em4.nameOk nm && (Em4.nameOk ar && decide (n = 0)))) := by
      rcases hc2 with h | h <;> subst h <;> rfl
    clear hba hbn
    generalize Em5.namesOk (.mk op nm ar n p l) = R at HR ⊢
    clear hc
    rcases hc2 with hc | hc
    · subst hc
      go_enter Tryd.func26, Tryd.ntmps26
      go_wp2_with fail
      go_quiet (fail)
      have hbq := Em.below_drewN hbel nq
      obtain ⟨W, hW⟩ : ∃ W, W = (w.alloc (.cells #[.string (Em.str [114, 101, 99]), .string (Em.str nm), .string (Em.str ar), .int .i64 n, .int .i64 p, .slice a l.length cap] 24)).drewN nq := ⟨_, rfl⟩
      rw [← hW] at hbq ⊢
      have hS0 : Below w.heap.size w W.drew ∧ W.drew.cell? ⟨w.heap.size, 1, none⟩ = some (.string (Em.str nm)) ∧ W.drew.cell? ⟨w.heap.size, 2, none⟩ = some (.string (Em.str ar)) ∧ W.drew.cell? ⟨w.heap.size, 0, none⟩ = some (.string (Em.str [114, 101, 99])) ∧ W.drew.cell? ⟨w.heap.size, 3, none⟩ = some (.int .i64 n) ∧ w.heap.size < W.drew.heap.size := ⟨hbq.drew, by rw [hW]; simp, by rw [hW]; simp, by rw [hW]; simp, by rw [hW]; simp, by rw [hW]; simp⟩
      have hc0 : W.cell? ⟨w.heap.size, 0, none⟩ = some (.string (Em.str [114, 101, 99])) := hS0.2.2.2.1
      have HS0 : Hid (Below w.heap.size w W.drew ∧ W.drew.cell? ⟨w.heap.size, 1, none⟩ = some (.string (Em.str nm)) ∧ W.drew.cell? ⟨w.heap.size, 2, none⟩ = some (.string (Em.str ar)) ∧ W.drew.cell? ⟨w.heap.size, 0, none⟩ = some (.string (Em.str [114, 101, 99])) ∧ W.drew.cell? ⟨w.heap.size, 3, none⟩ = some (.int .i64 n) ∧ w.heap.size < W.drew.heap.size) := hS0
      clear hS0 hW hbq hbel
      go_wp2_with fail
      go_region_held (fun w' => Below w.heap.size w w' ∧ w'.cell? ⟨w.heap.size, 1, none⟩ = some (.string (Em.str nm)) ∧ w'.cell? ⟨w.heap.size, 2, none⟩ = some (.string (Em.str ar)) ∧ w'.cell? ⟨w.heap.size, 0, none⟩ = some (.string (Em.str [114, 101, 99])) ∧ w'.cell? ⟨w.heap.size, 3, none⟩ = some (.int .i64 n) ∧ w.heap.size < w'.heap.size)
        (first | exact HS0 | exact names_keep (by assumption) (by assumption))
        (first | (go_at_call 41; refine (rName_any _ _ _ (by first | exact HN.out.1 | exact HA.out.1) (by first | exact HN.out.2 | exact HA.out.2)).mono ?_; rintro e w1 ⟨rfl, hb1⟩))
      go_wp2
      all_goals
        go_ret
        refine ⟨?_, Em.held1 (by assumption)⟩
        rw [HR.out]
        exact Em.ret_bool (by first | (simp [*]; done) | (simp [*]; rfl))
    · subst hc
      go_enter Tryd.func26, Tryd.ntmps26
      go_wp2_with fail
      go_quiet (fail)
      have hbq := Em.below_drewN hbel nq
      obtain ⟨W, hW⟩ : ∃ W, W = (w.alloc (.cells #[.string (Em.str [109, 97, 116, 99, 104]), .string (Em.str nm), .string (Em.str ar), .int .i64 n, .int .i64 p, .slice a l.length cap] 24)).drewN nq := ⟨_, rfl⟩
      rw [← hW] at hbq ⊢
      have hS0 : Below w.heap.size w W.drew ∧ W.drew.cell? ⟨w.heap.size, 1, none⟩ = some (.string (Em.str nm)) ∧ W.drew.cell? ⟨w.heap.size, 2, none⟩ = some (.string (Em.str ar)) ∧ W.drew.cell? ⟨w.heap.size, 0, none⟩ = some (.string (Em.str [109, 97, 116, 99, 104])) ∧ W.drew.cell? ⟨w.heap.size, 3, none⟩ = some (.int .i64 n) ∧ w.heap.size < W.drew.heap.size := ⟨hbq.drew, by rw [hW]; simp, by rw [hW]; simp, by rw [hW]; simp, by rw [hW]; simp, by rw [hW]; simp⟩
      have hc0 : W.cell? ⟨w.heap.size, 0, none⟩ = some (.string (Em.str [109, 97, 116, 99, 104])) := hS0.2.2.2.1
      have HS0 : Hid (Below w.heap.size w W.drew ∧ W.drew.cell? ⟨w.heap.size, 1, none⟩ = some (.string (Em.str nm)) ∧ W.drew.cell? ⟨w.heap.size, 2, none⟩ = some (.string (Em.str ar)) ∧ W.drew.cell? ⟨w.heap.size, 0, none⟩ = some (.string (Em.str [109, 97, 116, 99, 104])) ∧ W.drew.cell? ⟨w.heap.size, 3, none⟩ = some (.int .i64 n) ∧ w.heap.size < W.drew.heap.size) := hS0
      clear hS0 hW hbq hbel
      go_wp2_with fail
      go_region_held (fun w' => Below w.heap.size w w' ∧ w'.cell? ⟨w.heap.size, 1, none⟩ = some (.string (Em.str nm)) ∧ w'.cell? ⟨w.heap.size, 2, none⟩ = some (.string (Em.str ar)) ∧ w'.cell? ⟨w.heap.size, 0, none⟩ = some (.string (Em.str [109, 97, 116, 99, 104])) ∧ w'.cell? ⟨w.heap.size, 3, none⟩ = some (.int .i64 n) ∧ w.heap.size < w'.heap.size)
        (first | exact HS0 | exact names_keep (by assumption) (by assumption))
        (first | (go_at_call 41; refine (rName_any _ _ _ (by first | exact HN.out.1 | exact HA.out.1) (by first | exact HN.out.2 | exact HA.out.2)).mono ?_; rintro e w1 ⟨rfl, hb1⟩))
      go_wp2
      all_goals
        go_ret
        refine ⟨?_, Em.held1 (by assumption)⟩
        rw [HR.out]
        exact Em.ret_bool (by first | (simp [*]; done) | (simp [*]; rfl))
  by_cases hc3 : op = [115, 116, 114]
  · have HR : Hid (Em5.namesOk (.mk op nm ar n p l) = (Em4.textOk nm && (ba && decide (n = 0)))) := by rw [hba]; subst hc3; rfl
    clear hba hbn
    generalize Em5.namesOk (.mk op nm ar n p l) = R at HR ⊢
    clear hc hc2
    subst hc3
    go_enter Tryd.func26, Tryd.ntmps26
    go_wp2_with fail
    go_quiet (fail)
    have hbq := Em.below_drewN hbel nq
    go_wp2_with (go_at_call 42; refine (rtext_any _ _ _ HN.out.1 HN.out.2).mono ?_; rintro e w1 ⟨rfl, rfl⟩)
    all_goals
      go_ret
      refine ⟨?_, by first | exact hbq | assumption⟩
      rw [HR.out]
      exact Em.ret_bool (by first | (simp [*]; done) | (simp [*]; rfl))
  have n1 : ¬ op = [118, 97, 114] := fun h => hc (Or.inl h)
  have n2 : ¬ op = [102, 117, 110] := fun h => hc (Or.inr (Or.inl h))
  have n3 : ¬ op = [108, 101, 116] := fun h => hc (Or.inr (Or.inr (Or.inl h)))
  have n4 : ¬ op = [116, 114, 121] := fun h => hc (Or.inr (Or.inr (Or.inr h)))
  have n5 : ¬ op = [114, 101, 99] := fun h => hc2 (Or.inl h)
  have n6 : ¬ op = [109, 97, 116, 99, 104] := fun h => hc2 (Or.inr h)
  have HR : Hid (Em5.namesOk (.mk op nm ar n p l) = (bn && (ba && Em5.numOk op n))) := by
    rw [hba, hbn]
    simp only [Hid, Em5.namesOk, Em5.Nd.op, Em5.Nd.nm, Em5.Nd.ar, Em5.Nd.n, Em5.nameA, Em5.nameB, Em5.oVar, Em5.oFun, Em5.oLet, Em5.oTry, Em5.oRec, Em5.oMatch, Em5.oStr, n1, n2, n3, n4, n5, n6, hc3, or_self, if_false]
    rfl
  clear hba hbn
  generalize Em5.namesOk (.mk op nm ar n p l) = R at HR ⊢
  clear hc hc2
  by_cases hi : op = [105, 110, 116]
  · subst hi
    have HR2 : Hid (R = (bn && (ba && (decide (0 ≤ n) && decide (n ≤ 999999999999999999))))) := HR
    clear n1 n2 n3 n4 n5 n6 hc3 HR
    go_enter Tryd.func26, Tryd.ntmps26
    go_wp2_with fail
    go_quiet (fail)
    have hbq := Em.below_drewN hbel nq
    go_wp2
    all_goals
      go_ret
      refine ⟨?_, by first | exact hbq | assumption⟩
      rw [HR2.out]
      exact Em.ret_bool (by first | (simp [*]; done) | (simp [*]; rfl) | (simp [*]; omega))
  by_cases hbo : op = [98, 111, 111, 108]
  · subst hbo
    have HR2 : Hid (R = (bn && (ba && (decide (n = 0) || decide (n = 1))))) := HR
    clear n1 n2 n3 n4 n5 n6 hc3 HR hi
    cases h0 : (n == 0) <;> cases h1 : (n == 1)
    all_goals
      have HR3 : Hid (R = (bn && (ba && ((n == 0) || (n == 1))))) := HR2
      go_enter Tryd.func26, Tryd.ntmps26
      go_wp2_with fail
      go_quiet (fail)
      have hbq := Em.below_drewN hbel nq
      go_wp2
      all_goals
        go_ret
        refine ⟨?_, by first | exact hbq | assumption⟩
        rw [HR3.out]
        exact Em.ret_bool (by first | (simp [*]; done) | (simp [*]; rfl))
  have HR2 : Hid (R = (bn && (ba && decide (n = 0)))) := by
    rw [Hid, HR.out]
    simp only [Em5.numOk, Em5.oInt, Em5.oBool, hi, hbo, if_false]
  clear HR
  go_enter Tryd.func26, Tryd.ntmps26
  go_wp2_with fail
  go_quiet (fail)
  have hbq := Em.below_drewN hbel nq
  go_wp2
  all_goals
    go_ret
    refine ⟨?_, by first | exact hbq | assumption⟩
    rw [HR2.out]
    exact Em.ret_bool (by first | (simp [*]; done) | (simp [*]; rfl) | (simp [*]; omega))

end Go.Proofs.YtoekhejpompjlaaDoor

namespace Go.Proofs.YtoekhejpompjlaaDoor
open Go.RowKit
set_option linter.unusedSimpArgs false

theorem each_keep {w0 w w' : World} {B : Nat} {c0 c1 c2 c3 c4 c5 : Value} (hb : Below w.heap.size w w') (h : Below B w0 w ∧ w.cell? ⟨B, 0, none⟩ = some c0 ∧ w.cell? ⟨B, 1, none⟩ = some c1 ∧ w.cell? ⟨B, 2, none⟩ = some c2 ∧ w.cell? ⟨B, 3, none⟩ = some c3 ∧ w.cell? ⟨B, 4, none⟩ = some c4 ∧ w.cell? ⟨B, 5, none⟩ = some c5 ∧ B < w.heap.size) :
    Below B w0 w' ∧ w'.cell? ⟨B, 0, none⟩ = some c0 ∧ w'.cell? ⟨B, 1, none⟩ = some c1 ∧ w'.cell? ⟨B, 2, none⟩ = some c2 ∧ w'.cell? ⟨B, 3, none⟩ = some c3 ∧ w'.cell? ⟨B, 4, none⟩ = some c4 ∧ w'.cell? ⟨B, 5, none⟩ = some c5 ∧ B < w'.heap.size := by
  obtain ⟨h1, k0, k1, k2, k3, k4, k5, h6⟩ := h
  have key : ∀ o, w'.cell? ⟨B, o, none⟩ = w.cell? ⟨B, o, none⟩ := fun o => hb.cell (p := ⟨B, o, none⟩) h6
  exact ⟨h1.trans (hb.mono (Nat.le_of_lt h6)), by rw [key]; exact k0, by rw [key]; exact k1, by rw [key]; exact k2, by rw [key]; exact k3, by rw [key]; exact k4, by rw [key]; exact k5, Nat.lt_of_lt_of_le h6 hb.size⟩

set_option maxRecDepth 100000 in
set_option maxHeartbeats 2000000 in
theorem reach_any (T : Em5.Nd) : ∀ (v : Value) (w : World), Em5.IsNd w T v →
    Calls Tryd.prog 15 #[v] w fun e w' => e = .returned (.bool (Em5.each T)) ∧ Below w.heap.size w w' := by
  induction T using Em5.Nd.ind with
  | h op nm ar n p l ih =>
    intro v w hv
    have hv' := hv
    unfold Em5.IsNd at hv
    obtain ⟨a, cap, rfl, t1, t2, t3, i1, i2, hc1, hc2, hk⟩ := hv
    have HK : Hid (0 < l.length → ∃ b off, a = some ⟨b, off, none⟩ ∧ b < w.heap.size ∧ Em5.KidsAt w b off l) := hk
    have HI : Hid (∀ t ∈ l, ∀ (v : Value) (w : World), Em5.IsNd w t v →
      Calls Tryd.prog 15 #[v] w fun e w' => e = .returned (.bool (Em5.each t)) ∧ Below w.heap.size w w') := ih
    have HV : Hid (∀ w', Below w.heap.size w w' → Em5.IsNd w' (.mk op nm ar n p l) (.agg #[.string (Em.str op), .string (Em.str nm), .string (Em.str ar), .int .i64 n, .int .i64 p, .slice a l.length cap])) := fun w' h => Em5.isNd_below h _ _ hv'
    have HO : Hid (∀ x ∈ op, 0 ≤ x ∧ x ≤ 255) := t1.1
    obtain ⟨W, hW⟩ : ∃ W, W = w.alloc (.cells #[.string (Em.str op), .string (Em.str nm), .string (Em.str ar), .int .i64 n, .int .i64 p, .slice a l.length cap] 24) := ⟨_, rfl⟩
    have hS0 : Below w.heap.size w W.drew ∧ W.drew.cell? ⟨w.heap.size, 0, none⟩ = some (.string (Em.str op)) ∧ W.drew.cell? ⟨w.heap.size, 1, none⟩ = some (.string (Em.str nm)) ∧ W.drew.cell? ⟨w.heap.size, 2, none⟩ = some (.string (Em.str ar)) ∧ W.drew.cell? ⟨w.heap.size, 3, none⟩ = some (.int .i64 n) ∧ W.drew.cell? ⟨w.heap.size, 4, none⟩ = some (.int .i64 p) ∧ W.drew.cell? ⟨w.heap.size, 5, none⟩ = some (.slice a l.length cap) ∧ w.heap.size < W.drew.heap.size :=
      ⟨by rw [hW]; exact ((Below.refl _ _).alloc (Nat.le_refl _) _).drew, by rw [hW]; simp, by rw [hW]; simp, by rw [hW]; simp, by rw [hW]; simp, by rw [hW]; simp, by rw [hW]; simp, by rw [hW]; simp⟩
    have HS0 : Hid (Below w.heap.size w W.drew ∧ W.drew.cell? ⟨w.heap.size, 0, none⟩ = some (.string (Em.str op)) ∧ W.drew.cell? ⟨w.heap.size, 1, none⟩ = some (.string (Em.str nm)) ∧ W.drew.cell? ⟨w.heap.size, 2, none⟩ = some (.string (Em.str ar)) ∧ W.drew.cell? ⟨w.heap.size, 3, none⟩ = some (.int .i64 n) ∧ W.drew.cell? ⟨w.heap.size, 4, none⟩ = some (.int .i64 p) ∧ W.drew.cell? ⟨w.heap.size, 5, none⟩ = some (.slice a l.length cap) ∧ w.heap.size < W.drew.heap.size) := hS0
    clear ih hk hv' t1 t2 t3 i1 i2 hS0
    by_cases hkn : Em5.kidsN op = (l.length : Int)
    · have hne : (Em5.kidsN op == (l.length : Int)) = true := by rw [beq_iff_eq]; exact hkn
      have hne' : (Em5.kidsN op != (l.length : Int)) = false := by rw [bne, hne]; rfl
      have HR : Hid (Em5.each (.mk op nm ar n p l) = (Em5.namesOk (.mk op nm ar n p l) && Em5.eachs l)) := by simp [Hid, Em5.each, hkn]
      clear hkn
      obtain ⟨q, hq⟩ : ∃ q, q = Em5.namesOk (.mk op nm ar n p l) := ⟨_, rfl⟩
      have HQ : Hid (Em5.namesOk (.mk op nm ar n p l) = q) := hq.symm
      rw [← hq] at HR
      clear hq
      go_enter Tryd.func15, Tryd.ntmps15
      go_wp2_with fail
      rw [← hW]
      clear hW
      cases q with
      | false =>
        go_region_held (fun w' => Below w.heap.size w w' ∧ w'.cell? ⟨w.heap.size, 0, none⟩ = some (.string (Em.str op)) ∧ w'.cell? ⟨w.heap.size, 1, none⟩ = some (.string (Em.str nm)) ∧ w'.cell? ⟨w.heap.size, 2, none⟩ = some (.string (Em.str ar)) ∧ w'.cell? ⟨w.heap.size, 3, none⟩ = some (.int .i64 n) ∧ w'.cell? ⟨w.heap.size, 4, none⟩ = some (.int .i64 p) ∧ w'.cell? ⟨w.heap.size, 5, none⟩ = some (.slice a l.length cap) ∧ w.heap.size < w'.heap.size)
          (first | exact HS0 | exact each_keep (by assumption) (by assumption))
          (first | (go_at_call 25; refine (rKids_any _ _ HO.out).mono ?_; rintro e w1 ⟨rfl, rfl⟩) | (go_at_call 26; refine (rnames_any _ _ _ (HV.out _ (Em.held1 (by assumption)))).mono ?_; rintro e w1 ⟨rfl, hb1⟩; rw [HQ.out]))
        go_wp2
        go_ret
        exact ⟨by rw [HR.out]; rfl, Em.held1 (by assumption)⟩
      | true =>
        go_region_held (fun w' => Below w.heap.size w w' ∧ w'.cell? ⟨w.heap.size, 0, none⟩ = some (.string (Em.str op)) ∧ w'.cell? ⟨w.heap.size, 1, none⟩ = some (.string (Em.str nm)) ∧ w'.cell? ⟨w.heap.size, 2, none⟩ = some (.string (Em.str ar)) ∧ w'.cell? ⟨w.heap.size, 3, none⟩ = some (.int .i64 n) ∧ w'.cell? ⟨w.heap.size, 4, none⟩ = some (.int .i64 p) ∧ w'.cell? ⟨w.heap.size, 5, none⟩ = some (.slice a l.length cap) ∧ w.heap.size < w'.heap.size)
          (first | exact HS0 | exact each_keep (by assumption) (by assumption))
          (first | (go_at_call 25; refine (rKids_any _ _ HO.out).mono ?_; rintro e w1 ⟨rfl, rfl⟩) | (go_at_call 26; refine (rnames_any _ _ _ (HV.out _ (Em.held1 (by assumption)))).mono ?_; rintro e w1 ⟨rfl, hb1⟩; rw [HQ.out]))
        go_wp2
        obtain ⟨hbl, -, -, -, -, -, hc5, hsz0⟩ := ‹Below w.heap.size w w1 ∧ w1.cell? ⟨w.heap.size, 0, none⟩ = some (.string (Em.str op)) ∧ w1.cell? ⟨w.heap.size, 1, none⟩ = some (.string (Em.str nm)) ∧ w1.cell? ⟨w.heap.size, 2, none⟩ = some (.string (Em.str ar)) ∧ w1.cell? ⟨w.heap.size, 3, none⟩ = some (.int .i64 n) ∧ w1.cell? ⟨w.heap.size, 4, none⟩ = some (.int .i64 p) ∧ w1.cell? ⟨w.heap.size, 5, none⟩ = some (.slice a l.length cap) ∧ w.heap.size < w1.heap.size›
        clear hb1 HS0
        go_loopw [3] (fun i wr => ∃ j : Nat, j ≤ l.length ∧ i = .int .i64 j ∧ Below w.heap.size w wr ∧ wr.cell? ⟨w.heap.size, 5, none⟩ = some (.slice a l.length cap) ∧ w.heap.size < wr.heap.size ∧ Hid (∀ (k : Nat) t, k < j → l[k]? = some t → Em5.each t = true)) (fun i _ => l.length - (intOf i).toNat)
        case atStart => exact ⟨0, Nat.zero_le _, rfl, hbl, hc5, hsz0, fun k t h => by omega⟩
        case round =>
          clear hbl hc5 hsz0
          obtain ⟨j, hj, rfl, hbel, hcell, hsz, HD⟩ := hrel
          by_cases hlt : j < l.length
          · obtain ⟨b, off, rfl, hb, hat⟩ := HK.out (by omega)
            obtain ⟨t, ht⟩ : ∃ t, l[j]? = some t := ⟨_, List.getElem?_eq_getElem hlt⟩
            obtain ⟨c0, c1, c2, c3, c4, c5, k0, k1, k2, k3, k4, k5, kn⟩ := Em5.kidsAt_get l off j t hat ht
            have key : ∀ o, wr.cell? ⟨b, o, none⟩ = w.cell? ⟨b, o, none⟩ := fun o => hbel.cell (p := ⟨b, o, none⟩) hb
            rw [← key] at k0 k1 k2 k3 k4 k5
            have HN : Hid (Em5.IsNd wr t (.agg #[c0, c1, c2, c3, c4, c5])) := Em5.isNd_below hbel t _ kn
            have HT : Hid (l[j]? = some t) := ht
            clear key kn ht hat
            go_wp2_with fail
            refine (HI.out t (List.mem_of_getElem? HT.out) _ _ HN.out).mono ?_
            rintro e w2 ⟨rfl, hb2⟩
            have hbel1 : Below w.heap.size w w2 := hbel.trans (hb2.mono hbel.size)
            have hcell1 : w2.cell? ⟨w.heap.size, 5, none⟩ = some (.slice (some ⟨b, off, none⟩) l.length cap) := by rw [hb2.cell (p := ⟨w.heap.size, 5, none⟩) hsz]; exact hcell
            have hsz1 : w.heap.size < w2.heap.size := Nat.lt_of_lt_of_le hsz hb2.size
            clear hb2 k0 k1 k2 k3 k4 k5 hcell hsz hbel
            cases hx : Em5.each t with
            | false =>
              have HF : Hid (Em5.eachs l = false) := Em5.eachs_no HT.out hx
              go_wp2
              go_ret
              exact ⟨by rw [HR.out, HF.out]; rfl, hbel1⟩
            | true =>
              have HX : Hid (Em5.each t = true) := hx
              go_wp2
              go_roundw
              case rel =>
                refine ⟨j + 1, by omega, by go_num, hbel1, hcell1, hsz1, fun k t' hk ht' => ?_⟩
                by_cases hkj : k = j
                · subst hkj; rw [HT.out] at ht'; cases ht'; exact HX.out
                · exact HD.out k t' (by omega) ht'
              case measure => simp [intOf]; omega
          · have HF : Hid (Em5.eachs l = true) := Em5.eachs_yes fun k t hk ht => HD.out k t (by omega) ht
            go_wp2
            go_ret
            exact ⟨by rw [HR.out, HF.out]; rfl, hbel⟩
    · have HR : Hid (Em5.each (.mk op nm ar n p l) = false) := by simp [Hid, Em5.each, hkn]
      have hne : (Em5.kidsN op == (l.length : Int)) = false := by rw [beq_eq_false_iff_ne]; exact hkn
      have hne' : (Em5.kidsN op != (l.length : Int)) = true := by rw [bne, hne]; rfl
      clear hkn
      go_enter Tryd.func15, Tryd.ntmps15
      go_wp2_with fail
      go_quiet ((go_at_call 25; exact Calls.quiet_of_same (rKids_any _ _ HO.out)))
      go_wp2
      go_ret
      exact ⟨by rw [HR.out]; rfl, Em.below_drewN ((Below.refl _ _).alloc (Nat.le_refl _) _) nq⟩

set_option maxRecDepth 100000 in
set_option maxHeartbeats 1000000 in
theorem rIs_any (T : Em5.Nd) (v : Value) (w : World) (hv : Em5.IsNd w T v) :
    Calls Tryd.prog 8 #[v] w fun e w' => e = .returned (.bool (Em5.isNd T)) ∧ Below w.heap.size w w' := by
  have HV : Hid (∀ w', Below w.heap.size w w' → Em5.IsNd w' T v) := fun w' h => Em5.isNd_below h _ _ hv
  obtain ⟨op, nm, ar, n, p, l⟩ := T
  unfold Em5.IsNd at hv
  obtain ⟨a, cap, rfl, -⟩ := hv
  obtain ⟨W, hW⟩ : ∃ W, W = w.alloc (.cells #[.string (Em.str op), .string (Em.str nm), .string (Em.str ar), .int .i64 n, .int .i64 p, .slice a l.length cap] 24) := ⟨_, rfl⟩
  have hbW : Below w.heap.size w W := by rw [hW]; exact (Below.refl _ _).alloc (Nat.le_refl _) _
  have k0 : W.cell? ⟨w.heap.size, 0, none⟩ = some (.string (Em.str op)) := by rw [hW]; simp
  have k1 : W.cell? ⟨w.heap.size, 1, none⟩ = some (.string (Em.str nm)) := by rw [hW]; simp
  have k2 : W.cell? ⟨w.heap.size, 2, none⟩ = some (.string (Em.str ar)) := by rw [hW]; simp
  have k3 : W.cell? ⟨w.heap.size, 3, none⟩ = some (.int .i64 n) := by rw [hW]; simp
  have k4 : W.cell? ⟨w.heap.size, 4, none⟩ = some (.int .i64 p) := by rw [hW]; simp
  have k5 : W.cell? ⟨w.heap.size, 5, none⟩ = some (.slice a l.length cap) := by rw [hW]; simp
  have hWz : w.heap.size < W.heap.size := by rw [hW]; simp
  have key : ∀ w2, Below W.heap.size W w2 → ∀ o, w2.cell? ⟨w.heap.size, o, none⟩ = W.cell? ⟨w.heap.size, o, none⟩ := fun w2 h o => h.cell (p := ⟨w.heap.size, o, none⟩) hWz
  go_enter Tryd.func8, Tryd.ntmps8
  go_wp2_with fail
  rw [← hW]
  clear hW
  refine (rSize_any _ _ _ (HV.out _ hbW)).mono ?_
  rintro e w1 ⟨rfl, hb1⟩
  have kk := key _ hb1
  rw [← kk] at k0 k1 k2 k3 k4 k5
  clear key kk
  have hbel1 : Below w.heap.size w w1 := hbW.trans (hb1.mono hbW.size)
  by_cases hs : (Em5.Nd.mk op nm ar n p l).size ≤ 2000
  · have hm : min (Em5.Nd.mk op nm ar n p l).size 2001 ≤ 2000 := by omega
    generalize min (Em5.Nd.mk op nm ar n p l).size 2001 = z at hm ⊢
    have HR : Hid (Em5.isNd (.mk op nm ar n p l) = Em5.each (.mk op nm ar n p l)) := by simp [Hid, Em5.isNd, hs]
    clear hs hb1
    go_wp2_with fail
    refine (reach_any _ _ _ (HV.out _ hbel1)).mono ?_
    rintro e w2 ⟨rfl, hb2⟩
    have hbel2 : Below w.heap.size w w2 := hbel1.trans (hb2.mono hbel1.size)
    obtain ⟨q, hq⟩ : ∃ q, q = Em5.each (.mk op nm ar n p l) := ⟨_, rfl⟩
    rw [← hq] at HR ⊢
    clear hb2 hbel1 hq
    go_wp2
    go_ret
    exact ⟨by rw [HR.out]; rfl, hbel2⟩
  · have hm : min (Em5.Nd.mk op nm ar n p l).size 2001 = 2001 := by omega
    rw [hm]
    have HR : Hid (Em5.isNd (.mk op nm ar n p l) = false) := by simp [Hid, Em5.isNd, hs]
    clear hs hm
    go_wp2
    go_ret
    exact ⟨by rw [HR.out]; rfl, hbel1⟩
end Go.Proofs.YtoekhejpompjlaaDoor

namespace Go.Proofs.YtoekhejpompjlaaDoor
open Go.RowKit
set_option linter.unusedSimpArgs false

theorem str_beq {L M : List Int} (h : Em5.Txt L) (k : Em5.Txt M) : ((Em.str L).toList == (Em.str M).toList) = decide (L = M) := (Em.isStr_str h.1).beq (Em.isStr_str k.1)
theorem isNd_val {w : World} {T : Em5.Nd} {v : Value} (h : Em5.IsNd w T v) : ∃ a cap, v = .agg #[.string (Em.str T.op), .string (Em.str T.nm), .string (Em.str T.ar), .int .i64 T.n, .int .i64 T.p, .slice a T.kids.length cap] ∧
      Em5.Txt T.op ∧ Em5.Txt T.nm ∧ Em5.Txt T.ar ∧ T.kids.length ≤ cap ∧ cap ≤ 9223372036854775807 ∧ (0 < T.kids.length → ∃ b off, a = some ⟨b, off, none⟩ ∧ b < w.heap.size ∧ Em5.KidsAt w b off T.kids) := by
  obtain ⟨op, nm, ar, n, p, l⟩ := T
  unfold Em5.IsNd at h
  obtain ⟨a, cap, rfl, t1, t2, t3, -, -, h1, h2, h3⟩ := h
  exact ⟨a, cap, rfl, t1, t2, t3, h1, h2, h3⟩
theorem same_eq (S T : Em5.Nd) : Em5.same S T = (decide (S.op = T.op) && (decide (S.nm = T.nm) && (decide (S.ar = T.ar) && (decide (S.n = T.n) && Em5.sames S.kids T.kids)))) := by
  obtain ⟨op, nm, ar, n, p, l⟩ := S
  obtain ⟨op', nm', ar', n', p', l'⟩ := T
  rfl

theorem held4 {p q r s t : Prop} (h : p ∧ q ∧ r ∧ s ∧ t) : p ∧ q ∧ r ∧ s := ⟨h.1, h.2.1, h.2.2.1, h.2.2.2.1⟩
theorem same_keep {w0 w w' : World} {B b b' : Nat} {x y c0 c1 c2 c3 c4 c5 d0 d1 d2 d3 d4 d5 : Value} {o o' : Nat} (hb : Below w.heap.size w w') (hlt : b < w0.heap.size) (hlt' : b' < w0.heap.size)
    (h : Below w0.heap.size w0 w ∧ w.cell? ⟨B, 5, none⟩ = some x ∧ w.cell? ⟨B + 1, 5, none⟩ = some y ∧ B + 1 < w.heap.size ∧
      w.cell? ⟨b, o, none⟩ = some c0 ∧ w.cell? ⟨b, o + 1, none⟩ = some c1 ∧ w.cell? ⟨b, o + 2, none⟩ = some c2 ∧ w.cell? ⟨b, o + 3, none⟩ = some c3 ∧ w.cell? ⟨b, o + 4, none⟩ = some c4 ∧ w.cell? ⟨b, o + 5, none⟩ = some c5 ∧
      w.cell? ⟨b', o', none⟩ = some d0 ∧ w.cell? ⟨b', o' + 1, none⟩ = some d1 ∧ w.cell? ⟨b', o' + 2, none⟩ = some d2 ∧ w.cell? ⟨b', o' + 3, none⟩ = some d3 ∧ w.cell? ⟨b', o' + 4, none⟩ = some d4 ∧ w.cell? ⟨b', o' + 5, none⟩ = some d5) :
    Below w0.heap.size w0 w' ∧ w'.cell? ⟨B, 5, none⟩ = some x ∧ w'.cell? ⟨B + 1, 5, none⟩ = some y ∧ B + 1 < w'.heap.size ∧
      w'.cell? ⟨b, o, none⟩ = some c0 ∧ w'.cell? ⟨b, o + 1, none⟩ = some c1 ∧ w'.cell? ⟨b, o + 2, none⟩ = some c2 ∧ w'.cell? ⟨b, o + 3, none⟩ = some c3 ∧ w'.cell? ⟨b, o + 4, none⟩ = some c4 ∧ w'.cell? ⟨b, o + 5, none⟩ = some c5 ∧
      w'.cell? ⟨b', o', none⟩ = some d0 ∧ w'.cell? ⟨b', o' + 1, none⟩ = some d1 ∧ w'.cell? ⟨b', o' + 2, none⟩ = some d2 ∧ w'.cell? ⟨b', o' + 3, none⟩ = some d3 ∧ w'.cell? ⟨b', o' + 4, none⟩ = some d4 ∧ w'.cell? ⟨b', o' + 5, none⟩ = some d5 := by
  obtain ⟨h1, h2, h3, h4, k0, k1, k2, k3, k4, k5, m0, m1, m2, m3, m4, m5⟩ := h
  have key : ∀ g o, g < w.heap.size → w'.cell? ⟨g, o, none⟩ = w.cell? ⟨g, o, none⟩ := fun g o h => hb.cell (p := ⟨g, o, none⟩) h
  have hs := h1.size
  refine ⟨h1.trans (hb.mono hs), ?_, ?_, Nat.lt_of_lt_of_le h4 hb.size, ?_, ?_, ?_, ?_, ?_, ?_, ?_, ?_, ?_, ?_, ?_, ?_⟩ <;> (rw [key _ _ (by omega)]; assumption)

set_option maxRecDepth 100000 in
set_option maxHeartbeats 4000000 in
theorem rSame_any (S : Em5.Nd) : ∀ (T : Em5.Nd) (u v : Value) (w : World), Em5.IsNd w S u → Em5.IsNd w T v →
    Calls Tryd.prog 13 #[u, v] w fun e w' => e = .returned (.bool (Em5.same S T)) ∧ Below w.heap.size w w' := by
  induction S using Em5.Nd.ind with
  | h op nm ar n p l ih =>
    intro T u v w hu hv
    have HI : Hid (∀ t ∈ l, ∀ (T : Em5.Nd) (u v : Value) (w : World), Em5.IsNd w t u → Em5.IsNd w T v →
      Calls Tryd.prog 13 #[u, v] w fun e w' => e = .returned (.bool (Em5.same t T)) ∧ Below w.heap.size w w') := ih
    clear ih
    obtain ⟨op', nm', ar', n', p', l'⟩ := T
    obtain ⟨a, cap, rfl, t1, t2, t3, hc1, hc2, hk⟩ := isNd_val hu
    obtain ⟨a', cap', rfl, t1', t2', t3', hc1', hc2', hk'⟩ := isNd_val hv
    simp only [Em5.Nd.op, Em5.Nd.nm, Em5.Nd.ar, Em5.Nd.n, Em5.Nd.p, Em5.Nd.kids] at *
    have q1 := str_beq t1 t1'
    have q2 := str_beq t2 t2'
    have q3 := str_beq t3 t3'
    have HK : Hid (0 < l.length → ∃ b off, a = some ⟨b, off, none⟩ ∧ b < w.heap.size ∧ Em5.KidsAt w b off l) := hk
    have HK' : Hid (0 < l'.length → ∃ b off, a' = some ⟨b, off, none⟩ ∧ b < w.heap.size ∧ Em5.KidsAt w b off l') := hk'
    clear hu hv hk hk' t1 t2 t3 t1' t2' t3'
    obtain ⟨W, hW⟩ : ∃ W, W = (w.alloc (.cells #[.string (Em.str op), .string (Em.str nm), .string (Em.str ar), .int .i64 n, .int .i64 p, .slice a l.length cap] 24)).alloc (.cells #[.string (Em.str op'), .string (Em.str nm'), .string (Em.str ar'), .int .i64 n', .int .i64 p', .slice a' l'.length cap'] 24) := ⟨_, rfl⟩
    have hbW : Below w.heap.size w W := by rw [hW]; exact ((Below.refl _ _).alloc (Nat.le_refl _) _).alloc (by simp) _
    have c5 : W.cell? ⟨w.heap.size, 5, none⟩ = some (.slice a l.length cap) := by rw [hW]; simp
    have d5 : W.cell? ⟨w.heap.size + 1, 5, none⟩ = some (.slice a' l'.length cap') := by rw [hW]; simp
    have hWz : w.heap.size + 1 < W.heap.size := by rw [hW]; simp
    have HNO : (op = op' ∧ nm = nm' ∧ ar = ar' ∧ n = n' ∧ l.length = l'.length → False) → Hid (Em5.same (.mk op nm ar n p l) (.mk op' nm' ar' n' p' l') = false) := by
      intro h
      rw [Hid, same_eq]
      simp only [Em5.Nd.op, Em5.Nd.nm, Em5.Nd.ar, Em5.Nd.n, Em5.Nd.kids]
      by_cases e1 : op = op' <;> by_cases e2 : nm = nm' <;> by_cases e3 : ar = ar' <;> by_cases e4 : n = n' <;> simp only [e1, e2, e3, e4, decide_true, decide_false, Bool.true_and, Bool.false_and, Bool.and_false]
      exact Em5.sames_len l l' (fun e5 => h ⟨e1, e2, e3, e4, e5⟩)
    by_cases hall : op = op' ∧ nm = nm' ∧ ar = ar' ∧ n = n' ∧ l.length = l'.length
    · clear HNO
      obtain ⟨e1, e2, e3, e4, e5⟩ := hall
      have HR : Hid (Em5.same (.mk op nm ar n p l) (.mk op' nm' ar' n' p' l') = Em5.sames l l') := by
        rw [Hid, same_eq]; simp [Em5.Nd.op, Em5.Nd.nm, Em5.Nd.ar, Em5.Nd.n, Em5.Nd.kids, e1, e2, e3, e4]
      rw [decide_eq_true e1] at q1
      rw [decide_eq_true e2] at q2
      rw [decide_eq_true e3] at q3
      have q4 : (n == n') = true := by rw [beq_iff_eq]; exact e4
      have q5 : ((l.length : Int) == (l'.length : Int)) = true := by rw [beq_iff_eq, e5]
      have q4' : (n != n') = false := by rw [bne, q4]; rfl
      have q5' : ((l.length : Int) != (l'.length : Int)) = false := by rw [bne, q5]; rfl
      have HL : Hid (l.length = l'.length) := e5
      clear e1 e2 e3 e4 e5
      go_enter Tryd.func13, Tryd.ntmps13
      go_wp2
      rw [← hW]
      clear hW
      go_loopw [5] (fun i wr => ∃ j : Nat, j ≤ l.length ∧ i = .int .i64 j ∧ Below w.heap.size w wr ∧ wr.cell? ⟨w.heap.size, 5, none⟩ = some (.slice a l.length cap) ∧ wr.cell? ⟨w.heap.size + 1, 5, none⟩ = some (.slice a' l'.length cap') ∧ w.heap.size + 1 < wr.heap.size ∧ Hid (∀ (k : Nat) s t, k < j → l[k]? = some s → l'[k]? = some t → Em5.same s t = true)) (fun i _ => l.length - (intOf i).toNat)
      case atStart => exact ⟨0, Nat.zero_le _, rfl, hbW, c5, d5, hWz, fun k s t h => by omega⟩
      case round =>
        clear hbW c5 d5 hWz
        obtain ⟨j, hj, rfl, hbel, hcell, hcell', hsz, HD⟩ := hrel
        by_cases hlt : j < l.length
        · have hlt' : j < l'.length := by have := HL.out; omega
          obtain ⟨b, off, rfl, hb, hat⟩ := HK.out (by omega)
          obtain ⟨b', off', rfl, hb', hat'⟩ := HK'.out (by omega)
          obtain ⟨s, hs⟩ : ∃ s, l[j]? = some s := ⟨_, List.getElem?_eq_getElem hlt⟩
          obtain ⟨t, ht⟩ : ∃ t, l'[j]? = some t := ⟨_, List.getElem?_eq_getElem hlt'⟩
          obtain ⟨c0, c1, c2, c3, c4, c5, k0, k1, k2, k3, k4, k5, kn⟩ := Em5.kidsAt_get l off j s hat hs
          obtain ⟨d0, d1, d2, d3, d4, d5, m0, m1, m2, m3, m4, m5, mn⟩ := Em5.kidsAt_get l' off' j t hat' ht
          have key : ∀ o, wr.cell? ⟨b, o, none⟩ = w.cell? ⟨b, o, none⟩ := fun o => hbel.cell (p := ⟨b, o, none⟩) hb
          have key' : ∀ o, wr.cell? ⟨b', o, none⟩ = w.cell? ⟨b', o, none⟩ := fun o => hbel.cell (p := ⟨b', o, none⟩) hb'
          have HN : Hid (∀ w', Below w.heap.size w w' → Em5.IsNd w' s (.agg #[c0, c1, c2, c3, c4, c5])) := fun w' h => Em5.isNd_below h s _ kn
          have HN' : Hid (∀ w', Below w.heap.size w w' → Em5.IsNd w' t (.agg #[d0, d1, d2, d3, d4, d5])) := fun w' h => Em5.isNd_below h t _ mn
          rw [← key] at k0 k1 k2 k3 k4 k5
          rw [← key'] at m0 m1 m2 m3 m4 m5
          have HS : Hid (l[j]? = some s) := hs
          have HT : Hid (l'[j]? = some t) := ht
          have hj1 : (0 : Int) ≤ (j : Int) := by omega
          have hj2 : (j : Int) < (l.length : Int) := by omega
          have hj3 : (j : Int) < (l'.length : Int) := by omega
          have hS0 : Hid (Below w.heap.size w wr.drew ∧ wr.drew.cell? ⟨w.heap.size, 5, none⟩ = some (.slice (some ⟨b, off, none⟩) l.length cap) ∧ wr.drew.cell? ⟨w.heap.size + 1, 5, none⟩ = some (.slice (some ⟨b', off', none⟩) l'.length cap') ∧ w.heap.size + 1 < wr.drew.heap.size ∧
            wr.drew.cell? ⟨b, off + j * 6, none⟩ = some c0 ∧ wr.drew.cell? ⟨b, off + j * 6 + 1, none⟩ = some c1 ∧ wr.drew.cell? ⟨b, off + j * 6 + 2, none⟩ = some c2 ∧ wr.drew.cell? ⟨b, off + j * 6 + 3, none⟩ = some c3 ∧ wr.drew.cell? ⟨b, off + j * 6 + 4, none⟩ = some c4 ∧ wr.drew.cell? ⟨b, off + j * 6 + 5, none⟩ = some c5 ∧
            wr.drew.cell? ⟨b', off' + j * 6, none⟩ = some d0 ∧ wr.drew.cell? ⟨b', off' + j * 6 + 1, none⟩ = some d1 ∧ wr.drew.cell? ⟨b', off' + j * 6 + 2, none⟩ = some d2 ∧ wr.drew.cell? ⟨b', off' + j * 6 + 3, none⟩ = some d3 ∧ wr.drew.cell? ⟨b', off' + j * 6 + 4, none⟩ = some d4 ∧ wr.drew.cell? ⟨b', off' + j * 6 + 5, none⟩ = some d5) :=
            ⟨hbel.drew, hcell, hcell', hsz, k0, k1, k2, k3, k4, k5, m0, m1, m2, m3, m4, m5⟩
          clear key key' kn mn hs ht hat hat' k0 k1 k2 k3 k4 k5 m0 m1 m2 m3 m4 m5
          go_wp2_with fail
          go_region_held (fun w' => Below w.heap.size w w' ∧ w'.cell? ⟨w.heap.size, 5, none⟩ = some (.slice (some ⟨b, off, none⟩) l.length cap) ∧ w'.cell? ⟨w.heap.size + 1, 5, none⟩ = some (.slice (some ⟨b', off', none⟩) l'.length cap') ∧ w.heap.size + 1 < w'.heap.size ∧
            w'.cell? ⟨b, off + j * 6, none⟩ = some c0 ∧ w'.cell? ⟨b, off + j * 6 + 1, none⟩ = some c1 ∧ w'.cell? ⟨b, off + j * 6 + 2, none⟩ = some c2 ∧ w'.cell? ⟨b, off + j * 6 + 3, none⟩ = some c3 ∧ w'.cell? ⟨b, off + j * 6 + 4, none⟩ = some c4 ∧ w'.cell? ⟨b, off + j * 6 + 5, none⟩ = some c5 ∧
            w'.cell? ⟨b', off' + j * 6, none⟩ = some d0 ∧ w'.cell? ⟨b', off' + j * 6 + 1, none⟩ = some d1 ∧ w'.cell? ⟨b', off' + j * 6 + 2, none⟩ = some d2 ∧ w'.cell? ⟨b', off' + j * 6 + 3, none⟩ = some d3 ∧ w'.cell? ⟨b', off' + j * 6 + 4, none⟩ = some d4 ∧ w'.cell? ⟨b', off' + j * 6 + 5, none⟩ = some d5)
            (first | exact hS0 | exact same_keep (by assumption) (by assumption) (by assumption) (by assumption))
            (first | (go_at_call 13; refine (HI.out s (List.mem_of_getElem? HS.out) t _ _ _ (HN.out _ (Em.held1 (by assumption))) (HN'.out _ (Em.held1 (by assumption)))).mono ?_; rintro e w2 ⟨rfl, hb2⟩))
          obtain ⟨hbel2, hx5, hy5, hz2⟩ : Below w.heap.size w w2 ∧ w2.cell? ⟨w.heap.size, 5, none⟩ = some (.slice (some ⟨b, off, none⟩) l.length cap) ∧ w2.cell? ⟨w.heap.size + 1, 5, none⟩ = some (.slice (some ⟨b', off', none⟩) l'.length cap') ∧ w.heap.size + 1 < w2.heap.size := held4 (by assumption)
          clear hb2 hcell hcell' hsz hbel hS0
          cases hx : Em5.same s t with
          | false =>
            have HF : Hid (Em5.sames l l' = false) := Em5.sames_no l l' j s t HS.out HT.out hx
            go_wp2
            go_ret
            exact ⟨by rw [HR.out, HF.out]; rfl, hbel2⟩
          | true =>
            have HX : Hid (Em5.same s t = true) := hx
            go_wp2
            go_roundw
            case rel =>
              refine ⟨j + 1, by omega, by go_num, hbel2, hx5, hy5, hz2, fun k s' t' hk hs' ht' => ?_⟩
              by_cases hkj : k = j
              · subst hkj; rw [HS.out] at hs'; cases hs'; rw [HT.out] at ht'; cases ht'; exact HX.out
              · exact HD.out k s' t' (by omega) hs' ht'
            case measure => simp [intOf]; omega
        · have HF : Hid (Em5.sames l l' = true) := Em5.sames_yes l l' HL.out fun k s t hs ht => HD.out k s t (by have := (List.getElem?_eq_some_iff.1 hs).1; omega) hs ht
          go_wp2
          go_ret
          exact ⟨by rw [HR.out, HF.out]; rfl, hbel⟩
    · have HR := HNO hall
      have key : (((Em.str op).toList == (Em.str op').toList) && (((Em.str nm).toList == (Em.str nm').toList) && (((Em.str ar).toList == (Em.str ar').toList) && ((n == n') && ((l.length : Int) == (l'.length : Int)))))) = false := by
        rw [q1, q2, q3, Bool.eq_false_iff]
        intro h
        simp at h
        exact hall ⟨h.1, h.2.1, h.2.2.1, h.2.2.2.1, by omega⟩
      obtain ⟨b1, hb1⟩ : ∃ b1, b1 = decide (op = op') := ⟨_, rfl⟩
      obtain ⟨b2, hb2⟩ : ∃ b2, b2 = decide (nm = nm') := ⟨_, rfl⟩
      obtain ⟨b3, hb3⟩ : ∃ b3, b3 = decide (ar = ar') := ⟨_, rfl⟩
      obtain ⟨b4, hb4⟩ : ∃ b4, b4 = (n == n') := ⟨_, rfl⟩
      obtain ⟨b5, hb5⟩ : ∃ b5, b5 = ((l.length : Int) == (l'.length : Int)) := ⟨_, rfl⟩
      rw [q1, q2, q3, ← hb1, ← hb2, ← hb3, ← hb4, ← hb5] at key
      rw [← hb1] at q1
      rw [← hb2] at q2
      rw [← hb3] at q3
      have q4 : (n == n') = b4 := hb4.symm
      have q5 : ((l.length : Int) == (l'.length : Int)) = b5 := hb5.symm
      have q4' : (n != n') = !b4 := by rw [bne, q4]
      have q5' : ((l.length : Int) != (l'.length : Int)) = !b5 := by rw [bne, q5]
      clear HNO hall hb1 hb2 hb3 hb4 hb5 hW c5 d5 hWz HK HK' HI hbW
      cases b1 <;> cases b2 <;> cases b3 <;> cases b4 <;> cases b5 <;> first | (simp at key; done) | skip
      all_goals
        clear key
        go_enter Tryd.func13, Tryd.ntmps13
        go_wp2
        go_ret
        exact ⟨by rw [HR.out]; rfl, ((Below.refl _ _).alloc (Nat.le_refl _) _).alloc (by simp) _⟩
end Go.Proofs.YtoekhejpompjlaaDoor

namespace Go.Proofs.YtoekhejpompjlaaDoor
open Go.RowKit
set_option linter.unusedSimpArgs false

theorem val_ops (op : List Int) : (op ∈ Em5.valOps) = (op ∈ [[105, 110, 116], [98, 111, 111, 108], [117, 110, 105, 116], [110, 105, 108], [115, 116, 114], [118, 97, 114], [102, 117, 110]]) := rfl
theorem isVal_eq (T : Em5.Nd) : Em5.isVal T = if T.op ∈ Em5.valOps then true else if T.op = Em5.oPair ∨ T.op = Em5.oCons then decide (T.kids.length = 2) && Em5.isVals T.kids else false := by
  obtain ⟨op, nm, ar, n, p, l⟩ := T
  rw [Em5.isVal]; rfl

end Go.Proofs.YtoekhejpompjlaaDoor

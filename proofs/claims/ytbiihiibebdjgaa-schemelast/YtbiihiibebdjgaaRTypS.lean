/- How many nodes a type has: the document's own 'Size'; how many kids: 'Kids'. -/
import Derived.Test.YtbiihiibebdjgaaProg
import Derived.Test.YtbiihiibebdjgaaTy
import Derived.Test.YtbiihiibebdjgaaMath5
import Derived.WalkKit
import Derived.WalkSpells
import Derived.WalkLawsBesides
import Derived.Deep.QuietTactic
import Derived.BigQuiet
namespace Go.Proofs.Ytbiihiibebdjgaa
open Go.RowKit
set_option linter.unusedSimpArgs false

set_option maxRecDepth 100000 in
set_option maxHeartbeats 2000000 in
theorem rtsize_any (T : Em8.Ty) : ∀ (v : Value) (w : World) (most : Nat), Em8.IsTy w T v → 1 ≤ most → most ≤ 100000 →
    Calls Try.prog 7 #[v, .int .i64 most] w fun e w' => e = .returned (.int .i64 ((min T.size most : Nat) : Int)) ∧ Below w.heap.size w w' := by
  induction T using Em8.Ty.ind with
  | h op n l ih =>
    intro v w most hv hm1 hm2
    unfold Em8.IsTy at hv
    obtain ⟨a, cap, rfl, t1, i1, hc1, hc2, hk⟩ := hv
    have HK : Hid (0 < l.length → ∃ b off, a = some ⟨b, off, none⟩ ∧ b < w.heap.size ∧ Em8.TysAt w b off l) := hk
    have HI : Hid (∀ t ∈ l, ∀ (v : Value) (w : World) (most : Nat), Em8.IsTy w t v → 1 ≤ most → most ≤ 100000 →
      Calls Try.prog 7 #[v, .int .i64 most] w fun e w' => e = .returned (.int .i64 ((min t.size most : Nat) : Int)) ∧ Below w.heap.size w w') := ih
    clear ih hk t1 i1
    go_enter Try.func7, Try.ntmps7
    go_wp2
    go_loopw [5, 6] (fun x i wr => ∃ (j k : Nat), j ≤ l.length ∧ i = .int .i64 j ∧ x = .int .i64 k ∧ 1 ≤ k ∧ k ≤ most ∧ Below w.heap.size w wr ∧ wr.cell? ⟨w.heap.size, 2, none⟩ = some (.slice a l.length cap) ∧ w.heap.size < wr.heap.size ∧ Hid (k = min (Em8.tsizes (l.take j) + 1) most)) (fun _ i _ => l.length - (intOf i).toNat)
    case atStart => exact ⟨0, 1, Nat.zero_le _, rfl, rfl, by omega, by omega, (Below.refl _ _).alloc (Nat.le_refl _) _, by simp, by simp, by simp [Hid, Em8.tsizes]; omega⟩
    case round =>
      obtain ⟨j, k, hj, rfl, rfl, hk1, hk2, hbel, hcell, hsz, HD⟩ := hrel
      by_cases hlt : j < l.length
      · by_cases hkm : k < most
        · obtain ⟨b, off, rfl, hb, hat⟩ := HK.out (by omega)
          obtain ⟨t, ht⟩ : ∃ t, l[j]? = some t := ⟨_, List.getElem?_eq_getElem hlt⟩
          obtain ⟨c0, c1, c2, k0, k1, k2, kn⟩ := Em8.tysAt_get l off j t hat ht
          have key : ∀ o, wr.cell? ⟨b, o, none⟩ = w.cell? ⟨b, o, none⟩ := fun o => hbel.cell (p := ⟨b, o, none⟩) hb
          rw [← key] at k0 k1 k2
          have HN : Hid (Em8.IsTy wr t (.agg #[c0, c1, c2])) := Em8.isTy_below hbel t _ kn
          have HT : Hid (l[j]? = some t) := ht
          clear key kn ht hat
          obtain ⟨d, hd⟩ : ∃ d : Nat, d = most - k := ⟨_, rfl⟩
          have hdi : (most : Int) - (k : Int) = (d : Int) := by omega
          have hd1 : 1 ≤ d := by omega
          have hd2 : d ≤ 100000 := by omega
          have HDD : Hid (d = most - k) := hd
          clear hd
          go_wp2_with fail
          refine (HI.out t (List.mem_of_getElem? HT.out) _ _ d HN.out hd1 hd2).mono ?_
          rintro e w1 ⟨rfl, hb1⟩
          obtain ⟨z, hz⟩ : ∃ z : Nat, z = min t.size d := ⟨_, rfl⟩
          rw [← hz]
          have HZ : Hid (z = min t.size d) := hz
          have hz2 : z ≤ d := by omega
          have hbel1 : Below w.heap.size w w1 := hbel.trans (hb1.mono hbel.size)
          have hcell1 : w1.cell? ⟨w.heap.size, 2, none⟩ = some (.slice (some ⟨b, off, none⟩) l.length cap) := by rw [hb1.cell (p := ⟨w.heap.size, 2, none⟩) hsz]; exact hcell
          have hsz1 : w.heap.size < w1.heap.size := Nat.lt_of_lt_of_le hsz hb1.size
          clear hz hb1 k0 k1 k2 hcell hsz hbel
          go_wp2
          go_roundw
          case rel =>
            refine ⟨j + 1, k + z, by omega, by go_num, by go_num, by omega, by have := HDD.out; omega, hbel1, hcell1, hsz1, ?_⟩
            have h1 := HD.out
            have h2 := HZ.out
            have h3 := HDD.out
            rw [Hid, Em8.tsizes_take l j t HT.out]
            omega
          case measure => simp [intOf]; omega
        · have HR : Hid (k = min (Em8.Ty.mk op n l).size most) := by
            have h1 := HD.out
            have h2 := Em8.tsizes_take_le l j
            rw [Hid, Em8.Ty.size]
            omega
          go_wp2
          go_ret
          exact ⟨by rw [← HR.out]; rfl, hbel⟩
      · have HR : Hid (k = min (Em8.Ty.mk op n l).size most) := by
          have h1 := HD.out
          rw [List.take_of_length_le (by omega)] at h1
          rw [Hid, Em8.Ty.size]
          omega
        go_wp2
        go_ret
        exact ⟨by rw [← HR.out]; rfl, hbel⟩

theorem tkids_ops (op : List Int) : Em8.tkids op = if op ∈ [[105, 110, 116], [98, 111, 111, 108], [117, 110, 105, 116], [115, 116, 114, 105, 110, 103], [99, 101, 108, 108], [118, 97, 114]] then 0 else if op ∈ [[108, 105, 115, 116], [114, 101, 102]] then 1 else if op ∈ [[112, 97, 105, 114], [102, 117, 110]] then 2 else -1 := rfl

set_option maxRecDepth 100000 in
set_option maxHeartbeats 4000000 in
theorem rtKids_any (op : List Int) (w : World) (h : ∀ x ∈ op, 0 ≤ x ∧ x ≤ 255) :
    Calls Try.prog 32 #[.string (Em.str op)] w fun e w' => e = .returned (.int .i64 (Em8.tkids op)) ∧ w' = w := by
  have hq := Em5.str_eq h
  go_enter Try.func32, Try.ntmps32
  go_wp2
  all_goals
    go_ret
    refine ⟨Em.ret_int ?_, rfl⟩
    first
      | (clear hq; subst_vars; rfl)
      | (simp only [tkids_ops]; simp [*])
end Go.Proofs.Ytbiihiibebdjgaa

/- How many nodes: what tree.count and tree.Size answer. -/
import Derived.Test.YtoekhejpompjlaaDoorProg
import Derived.Test.YtoekhejpompjlaaDoorPureA
import Derived.WalkKit
import Derived.WalkSpells
import Derived.WalkLawsBesides
import Derived.Deep.QuietTactic
import Derived.BigQuiet
namespace Go.Proofs.YtoekhejpompjlaaDoor
open Go.RowKit
set_option linter.unusedSimpArgs false

set_option maxRecDepth 100000 in
set_option maxHeartbeats 2000000 in
theorem tcount_any (T : Em5.Nd) : ∀ (v : Value) (w : World) (most : Nat), Em5.IsNd w T v → 1 ≤ most → most ≤ 100000 →
    Calls Tryd.prog 43 #[v, .int .i64 most] w fun e w' => e = .returned (.int .i64 ((min T.size most : Nat) : Int)) ∧ Below w.heap.size w w' := by
  induction T using Em5.Nd.ind with
  | h op nm ar n p l ih =>
    intro v w most hv hm1 hm2
    have hv' := hv
    unfold Em5.IsNd at hv
    obtain ⟨a, cap, rfl, t1, t2, t3, i1, i2, hc1, hc2, hk⟩ := hv
    have HK : Hid (0 < l.length → ∃ b off, a = some ⟨b, off, none⟩ ∧ b < w.heap.size ∧ Em5.KidsAt w b off l) := hk
    have HI : Hid (∀ t ∈ l, ∀ (v : Value) (w : World) (most : Nat), Em5.IsNd w t v → 1 ≤ most → most ≤ 100000 →
      Calls Tryd.prog 43 #[v, .int .i64 most] w fun e w' => e = .returned (.int .i64 ((min t.size most : Nat) : Int)) ∧ Below w.heap.size w w') := ih
    clear ih hk hv' t1 t2 t3 i1 i2
    go_enter Tryd.func43, Tryd.ntmps43
    go_wp2
    go_loopw [5, 11] (fun x i wr => ∃ (j k : Nat), j ≤ l.length ∧ i = .int .i64 j ∧ x = .int .i64 k ∧ 1 ≤ k ∧ k ≤ most ∧ Below w.heap.size w wr ∧ Hid (k = min (Em5.sizes (l.take j) + 1) most)) (fun _ i _ => l.length - (intOf i).toNat)
    case atStart => exact ⟨0, 1, Nat.zero_le _, rfl, rfl, by omega, by omega, (Below.refl _ _).alloc (Nat.le_refl _) _, by simp [Hid, Em5.sizes]; omega⟩
    case round =>
      obtain ⟨j, k, hj, rfl, rfl, hk1, hk2, hbel, HD⟩ := hrel
      by_cases hlt : j < l.length
      · obtain ⟨b, off, rfl, hb, hat⟩ := HK.out (by omega)
        obtain ⟨t, ht⟩ : ∃ t, l[j]? = some t := ⟨_, List.getElem?_eq_getElem hlt⟩
        obtain ⟨a', cap', k0, k1, k2, k3, k4, k5, kn⟩ := Em5.kid_get hat ht
        have key : ∀ o, wr.cell? ⟨b, o, none⟩ = w.cell? ⟨b, o, none⟩ := fun o => hbel.cell (p := ⟨b, o, none⟩) hb
        rw [← key] at k0 k1 k2 k3 k4 k5
        have hbA : Below w.heap.size w (wr.alloc (.cells #[.string (Em.str t.op), .string (Em.str t.nm), .string (Em.str t.ar), .int .i64 t.n, .int .i64 t.p, .slice a' t.kids.length cap'] 24)) := hbel.alloc hbel.size _
        have HN : Hid (Em5.IsNd (wr.alloc (.cells #[.string (Em.str t.op), .string (Em.str t.nm), .string (Em.str t.ar), .int .i64 t.n, .int .i64 t.p, .slice a' t.kids.length cap'] 24)) t (.agg #[.string (Em.str t.op), .string (Em.str t.nm), .string (Em.str t.ar), .int .i64 t.n, .int .i64 t.p, .slice a' t.kids.length cap'])) := Em5.isNd_below hbA t _ kn
        have HT : Hid (l[j]? = some t) := ht
        have hjI : (j : Int) < (l.length : Int) := by omega
        clear key kn ht hat
        by_cases hkm : k < most
        · obtain ⟨d, hd⟩ : ∃ d : Nat, d = most - k := ⟨_, rfl⟩
          have hdi : (most : Int) - (k : Int) = (d : Int) := by omega
          have hd1 : 1 ≤ d := by omega
          have hd2 : d ≤ 100000 := by omega
          have HDD : Hid (d = most - k) := hd
          have hne : ((k : Int) == (most : Int)) = false := by rw [beq_eq_false_iff_ne]; omega
          clear hd
          go_wp2_with fail
          refine (HI.out t (List.mem_of_getElem? HT.out) _ _ d HN.out hd1 hd2).mono ?_
          rintro e w1 ⟨rfl, hb1⟩
          obtain ⟨z, hz⟩ : ∃ z : Nat, z = min t.size d := ⟨_, rfl⟩
          rw [← hz]
          have HZ : Hid (z = min t.size d) := hz
          have hz2 : z ≤ d := by omega
          have hbel1 : Below w.heap.size w w1 := hbA.trans (hb1.mono hbA.size)
          clear hz hb1 k0 k1 k2 k3 k4 k5 hbel hbA
          go_wp2
          go_roundw
          case rel =>
            refine ⟨j + 1, k + z, by omega, by go_num, by go_num, by omega, by have := HDD.out; omega, hbel1, ?_⟩
            have h1 := HD.out
            have h2 := HZ.out
            have h3 := HDD.out
            rw [Hid, Em5.sizes_take l j t HT.out]
            omega
          case measure => simp [intOf]; omega
        · have HR : Hid (k = min (Em5.Nd.mk op nm ar n p l).size most) := by
            have h1 := HD.out
            have h2 := Em5.sizes_take_le l j
            rw [Hid, Em5.Nd.size]
            omega
          have hne : ((k : Int) == (most : Int)) = true := by rw [beq_iff_eq]; omega
          go_wp2
          go_ret
          exact ⟨by rw [← HR.out]; rfl, hbA⟩
      · have HR : Hid (k = min (Em5.Nd.mk op nm ar n p l).size most) := by
          have h1 := HD.out
          rw [List.take_of_length_le (by omega)] at h1
          rw [Hid, Em5.Nd.size]
          omega
        go_wp2
        go_ret
        exact ⟨by rw [← HR.out]; rfl, hbel⟩

set_option maxRecDepth 100000 in
set_option maxHeartbeats 1000000 in
theorem tSize_any (T : Em5.Nd) (v : Value) (w : World) (hv : Em5.IsNd w T v) :
    Calls Tryd.prog 27 #[v] w fun e w' => e = .returned (.int .i64 ((min T.size 2001 : Nat) : Int)) ∧ Below w.heap.size w w' := by
  have hv' := hv
  obtain ⟨op, nm, ar, n, p, l⟩ := T
  unfold Em5.IsNd at hv
  obtain ⟨a, cap, rfl, -⟩ := hv
  have HV : Hid (Em5.IsNd (w.alloc (.cells #[.string (Em.str op), .string (Em.str nm), .string (Em.str ar), .int .i64 n, .int .i64 p, .slice a l.length cap] 24)) (.mk op nm ar n p l) (.agg #[.string (Em.str op), .string (Em.str nm), .string (Em.str ar), .int .i64 n, .int .i64 p, .slice a l.length cap])) :=
    Em5.isNd_below ((Below.refl _ _).alloc (Nat.le_refl _) _) _ _ hv'
  have hbel : Below w.heap.size w (w.alloc (.cells #[.string (Em.str op), .string (Em.str nm), .string (Em.str ar), .int .i64 n, .int .i64 p, .slice a l.length cap] 24)) := (Below.refl _ _).alloc (Nat.le_refl _) _
  clear hv'
  go_enter Tryd.func27, Tryd.ntmps27
  go_wp2_with fail
  refine (tcount_any _ _ _ 2001 HV.out (by omega) (by omega)).mono ?_
  rintro e w1 ⟨rfl, hb1⟩
  have hbel1 : Below w.heap.size w w1 := hbel.trans (hb1.mono hbel.size)
  clear hb1 hbel HV
  go_wp2
  go_ret
  exact ⟨rfl, hbel1⟩
end Go.Proofs.YtoekhejpompjlaaDoor

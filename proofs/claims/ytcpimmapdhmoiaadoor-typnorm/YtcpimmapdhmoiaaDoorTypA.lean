/- What the program's own typ.count, kidsOf, isWhole and Is answer. -/
import Derived.Test.YtcpimmapdhmoiaaDoorProg
import Derived.Test.YtcpimmapdhmoiaaDoorTyV
import Derived.Test.YtcpimmapdhmoiaaDoorRTypC
import Derived.WalkKit
import Derived.WalkSpells
import Derived.WalkLawsBesides
import Derived.Deep.QuietTactic
import Derived.BigQuiet
namespace Go.Proofs.YtcpimmapdhmoiaaDoor
open Go.RowKit
set_option linter.unusedSimpArgs false

set_option maxRecDepth 100000 in
set_option maxHeartbeats 2000000 in
theorem ycount_any (T : Em8.Ty) : ∀ (v : Value) (w : World) (most : Nat), Em8.IsTy w T v → 1 ≤ most → most ≤ 100000 →
    Calls Tryd.prog 27 #[v, .int .i64 most] w fun e w' => e = .returned (.int .i64 ((min T.size most : Nat) : Int)) ∧ Below w.heap.size w w' := by
  induction T using Em8.Ty.ind with
  | h op n l ih =>
    intro v w most hv hm1 hm2
    have hv' := hv
    unfold Em8.IsTy at hv
    obtain ⟨a, cap, rfl, t1, i1, hc1, hc2, hk⟩ := hv
    have HK : Hid (0 < l.length → ∃ b off, a = some ⟨b, off, none⟩ ∧ b < w.heap.size ∧ Em8.TysAt w b off l) := hk
    have HI : Hid (∀ t ∈ l, ∀ (v : Value) (w : World) (most : Nat), Em8.IsTy w t v → 1 ≤ most → most ≤ 100000 →
      Calls Tryd.prog 27 #[v, .int .i64 most] w fun e w' => e = .returned (.int .i64 ((min t.size most : Nat) : Int)) ∧ Below w.heap.size w w') := ih
    clear ih hk hv' t1 i1
    go_enter Tryd.func27, Tryd.ntmps27
    go_wp2
    go_loopw [5, 11] (fun x i wr => ∃ (j k : Nat), j ≤ l.length ∧ i = .int .i64 j ∧ x = .int .i64 k ∧ 1 ≤ k ∧ k ≤ most ∧ Below w.heap.size w wr ∧ Hid (k = min (Em8.tsizes (l.take j) + 1) most)) (fun _ i _ => l.length - (intOf i).toNat)
    case atStart => exact ⟨0, 1, Nat.zero_le _, rfl, rfl, by omega, by omega, (Below.refl _ _).alloc (Nat.le_refl _) _, by simp [Hid, Em8.tsizes]; omega⟩
    case round =>
      obtain ⟨j, k, hj, rfl, rfl, hk1, hk2, hbel, HD⟩ := hrel
      by_cases hlt : j < l.length
      · obtain ⟨b, off, rfl, hb, hat⟩ := HK.out (by omega)
        obtain ⟨t, ht⟩ : ∃ t, l[j]? = some t := ⟨_, List.getElem?_eq_getElem hlt⟩
        obtain ⟨a', cap', k0, k1, k2, kn⟩ := Em8.ty_get hat ht
        have key : ∀ o, wr.cell? ⟨b, o, none⟩ = w.cell? ⟨b, o, none⟩ := fun o => hbel.cell (p := ⟨b, o, none⟩) hb
        rw [← key] at k0 k1 k2
        have hbA : Below w.heap.size w (wr.alloc (.cells #[.string (Em.str t.op), .int .i64 t.n, .slice a' t.kids.length cap'] 24)) := hbel.alloc hbel.size _
        have HN : Hid (Em8.IsTy (wr.alloc (.cells #[.string (Em.str t.op), .int .i64 t.n, .slice a' t.kids.length cap'] 24)) t (.agg #[.string (Em.str t.op), .int .i64 t.n, .slice a' t.kids.length cap'])) := Em8.isTy_below hbA t _ kn
        have HT : Hid (l[j]? = some t) := ht
        have hjI : (j : Int) < (l.length : Int) := by omega
        clear key kn ht hat
        by_cases hkm : k < most
        · obtain ⟨d, hd⟩ : ∃ d : Nat, d = most - k := ⟨_, rfl⟩
          have hdi : (most : Int) - (k : Int) = (d : Int) := by omega
          have hd1 : 1 ≤ d := by omega
          have hd2 : d ≤ 100000 := by omega
          have HDD : Hid (d = most - k) := hd
          have hne : ((k : Int) == (most : Int)) = false := by rw [beq_eq_false_iff_ne]; omega
          clear hd
          go_wp2_with fail
          refine (HI.out t (List.mem_of_getElem? HT.out) _ _ d HN.out hd1 hd2).mono ?_
          rintro e w1 ⟨rfl, hb1⟩
          obtain ⟨z, hz⟩ : ∃ z : Nat, z = min t.size d := ⟨_, rfl⟩
          rw [← hz]
          have HZ : Hid (z = min t.size d) := hz
          have hz2 : z ≤ d := by omega
          have hbel1 : Below w.heap.size w w1 := hbA.trans (hb1.mono hbA.size)
          clear hz hb1 k0 k1 k2 hbel hbA
          go_wp2
          go_roundw
          case rel =>
            refine ⟨j + 1, k + z, by omega, by go_num, by go_num, by omega, by have := HDD.out; omega, hbel1, ?_⟩
            have h1 := HD.out
            have h2 := HZ.out
            have h3 := HDD.out
            rw [Hid, Em8.tsizes_take l j t HT.out]
            omega
          case measure => simp [intOf]; omega
        · have HR : Hid (k = min (Em8.Ty.mk op n l).size most) := by
            have h1 := HD.out
            have h2 := Em8.tsizes_take_le l j
            rw [Hid, Em8.Ty.size]
            omega
          have hne : ((k : Int) == (most : Int)) = true := by rw [beq_iff_eq]; omega
          go_wp2
          go_ret
          exact ⟨by rw [← HR.out]; rfl, hbA⟩
      · have HR : Hid (k = min (Em8.Ty.mk op n l).size most) := by
          have h1 := HD.out
          rw [List.take_of_length_le (by omega)] at h1
          rw [Hid, Em8.Ty.size]
          omega
        go_wp2
        go_ret
        exact ⟨by rw [← HR.out]; rfl, hbel⟩


set_option maxRecDepth 100000 in
set_option maxHeartbeats 4000000 in
theorem ykidsOf_any (op : List Int) (w : World) (h : ∀ x ∈ op, 0 ≤ x ∧ x ≤ 255) :
    Calls Tryd.prog 38 #[.string (Em.str op)] w fun e w' => e = .returned (.tuple #[.int .i64 (if 0 ≤ Em8.tkids op then Em8.tkids op else 0), .bool (decide (0 ≤ Em8.tkids op))]) ∧ w' = w := by
  have hq := Em5.str_eq h
  obtain ⟨kn, hkn⟩ : ∃ kn : Int, kn = if 0 ≤ Em8.tkids op then Em8.tkids op else 0 := ⟨_, rfl⟩
  obtain ⟨ko, hko⟩ : ∃ ko : Bool, ko = decide (0 ≤ Em8.tkids op) := ⟨_, rfl⟩
  rw [← hkn, ← hko]
  have HKN : Hid (kn = if 0 ≤ Em8.tkids op then Em8.tkids op else 0) := hkn
  have HKO : Hid (ko = decide (0 ≤ Em8.tkids op)) := hko
  clear hkn hko
  go_enter Tryd.func38, Tryd.ntmps38
  go_wp2
  all_goals
    go_ret2
    refine ⟨?_, rfl⟩
    rw [HKN.out, HKO.out]
    clear HKN HKO
    first
      | (clear hq; subst_vars; rfl)
      | (simp only [tkids_ops]; simp [*])

set_option maxRecDepth 100000 in
set_option maxHeartbeats 2000000 in
theorem yisWhole_any (T : Em8.Ty) : ∀ (v : Value) (w : World), Em8.IsTy w T v →
    Calls Tryd.prog 28 #[v] w fun e w' => e = .returned (.bool (Em8.teach T)) ∧ Below w.heap.size w w' := by
  induction T using Em8.Ty.ind with
  | h op n l ih =>
    intro v w hv
    have HI : Hid (∀ t ∈ l, ∀ (v : Value) (w : World), Em8.IsTy w t v →
      Calls Tryd.prog 28 #[v] w fun e w' => e = .returned (.bool (Em8.teach t)) ∧ Below w.heap.size w w') := ih
    unfold Em8.IsTy at hv
    obtain ⟨a, cap, rfl, t1, i1, hc1, hc2, hk⟩ := hv
    have HK : Hid (0 < l.length → ∃ b off, a = some ⟨b, off, none⟩ ∧ b < w.heap.size ∧ Em8.TysAt w b off l) := hk
    have HO : Hid (∀ x ∈ op, 0 ≤ x ∧ x ≤ 255) := t1.1
    obtain ⟨bv, hbv⟩ : ∃ bv, bv = decide (op = Em8.tVar) := ⟨_, rfl⟩
    have hq : ((Em.str op).toList == [118, 97, 114]) = bv := by rw [Em5.str_eq t1.1, hbv]; rfl
    have HE : Hid (Em8.teach (.mk op n l) = (decide (Em8.tkids op = l.length) && (decide (0 ≤ n) && ((bv || decide (n = 0)) && Em8.teachs l)))) := by rw [Hid, hbv]; exact teach_eq _
    obtain ⟨W, hW⟩ : ∃ W, W = w.alloc (.cells #[.string (Em.str op), .int .i64 n, .slice a l.length cap] 24) := ⟨_, rfl⟩
    have hbW : Below w.heap.size w W := by rw [hW]; exact (Below.refl _ _).alloc (Nat.le_refl _) _
    have hWz : w.heap.size < W.heap.size := by rw [hW]; simp
    have g0 : W.cell? ⟨w.heap.size, 0, none⟩ = some (.string (Em.str op)) := by rw [hW]; simp
    have g1 : W.cell? ⟨w.heap.size, 1, none⟩ = some (.int .i64 n) := by rw [hW]; simp
    have g2 : W.cell? ⟨w.heap.size, 2, none⟩ = some (.slice a l.length cap) := by rw [hW]; simp
    have HW : Hid (w.alloc (.cells #[.string (Em.str op), .int .i64 n, .slice a l.length cap] 24) = W) := hW.symm
    obtain ⟨kk, hkk⟩ : ∃ kk, kk = Em8.tkids op := ⟨_, rfl⟩
    have HKK : Hid (Em8.tkids op = kk) := hkk.symm
    rw [← hkk] at HE
    generalize Em8.teach (.mk op n l) = R at HE ⊢
    clear ih hk t1 i1 hW hbv hkk
    go_enter Tryd.func28, Tryd.ntmps28
    go_wp2_with fail
    rw [HW.out]
    refine (ykidsOf_any op _ HO.out).mono ?_
    rintro e w1 ⟨rfl, rfl⟩
    rw [HKK.out]
    have HN : Hid (∀ x : Bool, (R = false) → True) := fun _ _ => trivial
    clear HN
    by_cases hk0 : 0 ≤ kk
    case neg =>
      have HF : Hid (R = false) := by rw [Hid, HE.out, decide_eq_false (by omega : ¬ kk = (l.length : Int))]; rfl
      rw [if_neg hk0, decide_eq_false hk0]
      clear hk0
      go_wp2
      go_ret
      exact ⟨by rw [HF.out]; rfl, hbW⟩
    rw [if_pos hk0, decide_eq_true hk0]
    by_cases hkl : kk = (l.length : Int)
    case neg =>
      have HF : Hid (R = false) := by rw [Hid, HE.out, decide_eq_false hkl]; rfl
      have hne : ((l.length : Int) == kk) = false := by rw [beq_eq_false_iff_ne]; omega
      have hne' : ((l.length : Int) != kk) = true := by rw [bne, hne]; rfl
      clear hkl
      go_wp2
      go_ret
      exact ⟨by rw [HF.out]; rfl, hbW⟩
    have hne : ((l.length : Int) == kk) = true := by rw [beq_iff_eq]; omega
    have hne' : ((l.length : Int) != kk) = false := by rw [bne, hne]; rfl
    by_cases hn0 : n < 0
    · have HF : Hid (R = false) := by rw [Hid, HE.out, decide_eq_false (by omega : ¬ 0 ≤ n)]; cases decide (kk = (l.length : Int)) <;> rfl
      clear hkl
      go_wp2
      go_ret
      exact ⟨by rw [HF.out]; rfl, hbW⟩
    by_cases hbad : 0 < n ∧ bv = false
    · have HF : Hid (R = false) := by rw [Hid, HE.out, hbad.2, decide_eq_false (by omega : ¬ n = 0)]; cases decide (kk = (l.length : Int)) <;> cases decide (0 ≤ n) <;> rfl
      obtain ⟨hn1, rfl⟩ := hbad
      clear hkl
      go_wp2
      go_ret
      exact ⟨by rw [HF.out]; rfl, hbW⟩
    have HF : Hid (R = Em8.teachs l) := by
      rw [Hid, HE.out, decide_eq_true hkl, decide_eq_true (by omega : 0 ≤ n)]
      cases bv with
      | true => rfl
      | false => rw [decide_eq_true (by simp at hbad; omega : n = 0)]; rfl
    have HBD : Hid (¬ (0 < n ∧ bv = false)) := hbad
    have HLP : Hid (∀ (P : Prop), (0 < n → bv = true → P) → (n = 0 → P) → P) := fun P h1 h2 => by
      by_cases h : 0 < n
      · cases bv with
        | true => exact h1 h rfl
        | false => exact absurd ⟨h, rfl⟩ hbad
      · exact h2 (by omega)
    clear hkl hbad HE
    refine HLP.out _ (fun hn1 hb1 => ?_) (fun hz => ?_)
    case' refine_1 => subst hb1
    case' refine_2 => subst hz
    all_goals
      clear HBD HLP
      go_wp2
      go_loopw [40] (fun i wr => ∃ j : Nat, j ≤ l.length ∧ i = .int .i64 j ∧ Below w.heap.size w wr ∧ Hid (∀ (k : Nat) t, k < j → l[k]? = some t → Em8.teach t = true)) (fun i _ => l.length - (intOf i).toNat)
      case atStart => exact ⟨0, Nat.zero_le _, rfl, hbW, fun k t h => by omega⟩
      case round =>
        clear g0 g1 g2 hbW hWz
        obtain ⟨j, hj, rfl, hbel, HD⟩ := hrel
        by_cases hlt : j < l.length
        · obtain ⟨b, off, rfl, hb, hat⟩ := HK.out (by omega)
          obtain ⟨t, ht⟩ : ∃ t, l[j]? = some t := ⟨_, List.getElem?_eq_getElem hlt⟩
          obtain ⟨a', cap', k0, k1, k2, kn⟩ := Em8.ty_get hat ht
          have key : ∀ o, wr.cell? ⟨b, o, none⟩ = w.cell? ⟨b, o, none⟩ := fun o => hbel.cell (p := ⟨b, o, none⟩) hb
          rw [← key] at k0 k1 k2
          have hbA : Below w.heap.size w (wr.alloc (.cells #[.string (Em.str t.op), .int .i64 t.n, .slice a' t.kids.length cap'] 24)) := hbel.alloc hbel.size _
          have HN : Hid (Em8.IsTy (wr.alloc (.cells #[.string (Em.str t.op), .int .i64 t.n, .slice a' t.kids.length cap'] 24)) t (.agg #[.string (Em.str t.op), .int .i64 t.n, .slice a' t.kids.length cap'])) := Em8.isTy_below hbA t _ kn
          have HT : Hid (l[j]? = some t) := ht
          have hjI : (j : Int) < (l.length : Int) := by omega
          clear key kn ht hat
          go_wp2_with fail
          refine (HI.out t (List.mem_of_getElem? HT.out) _ _ HN.out).mono ?_
          rintro e w2 ⟨rfl, hb2⟩
          have hbel1 : Below w.heap.size w w2 := hbA.trans (hb2.mono hbA.size)
          clear hb2 k0 k1 k2 hbel hbA HN
          cases hx : Em8.teach t with
          | false =>
            have HF2 : Hid (R = false) := by rw [Hid, HF.out]; exact Em8.teachs_no HT.out hx
            clear hx
            go_wp2
            go_ret
            exact ⟨by rw [HF2.out]; rfl, hbel1⟩
          | true =>
            have HX : Hid (Em8.teach t = true) := hx
            clear hx
            go_wp2
            go_roundw
            case rel =>
              refine ⟨j + 1, by omega, by go_num, hbel1, fun k t' hk ht' => ?_⟩
              by_cases hjk : k = j
              · subst hjk; rw [HT.out] at ht'; cases ht'; exact HX.out
              · exact HD.out k t' (by omega) ht'
            case measure => simp [intOf]; omega
        · have HF2 : Hid (R = true) := by
            rw [Hid, HF.out]
            exact Em8.teachs_yes (fun k t hk ht => HD.out k t (by omega) ht)
          go_wp2
          go_ret
          exact ⟨by rw [HF2.out]; rfl, hbel⟩

set_option maxRecDepth 100000 in
set_option maxHeartbeats 1000000 in
theorem yIs_any (T : Em8.Ty) (v : Value) (w : World) (hv : Em8.IsTy w T v) :
    Calls Tryd.prog 10 #[v] w fun e w' => e = .returned (.bool (Em8.isTy T)) ∧ Below w.heap.size w w' := by
  have HV : Hid (∀ w', Below w.heap.size w w' → Em8.IsTy w' T v) := fun w' h => Em8.isTy_below h _ _ hv
  obtain ⟨op, n, l⟩ := T
  unfold Em8.IsTy at hv
  obtain ⟨a, cap, rfl, -⟩ := hv
  obtain ⟨W, hW⟩ : ∃ W, W = w.alloc (.cells #[.string (Em.str op), .int .i64 n, .slice a l.length cap] 24) := ⟨_, rfl⟩
  have hbW : Below w.heap.size w W := by rw [hW]; exact (Below.refl _ _).alloc (Nat.le_refl _) _
  have k0 : W.cell? ⟨w.heap.size, 0, none⟩ = some (.string (Em.str op)) := by rw [hW]; simp
  have k1 : W.cell? ⟨w.heap.size, 1, none⟩ = some (.int .i64 n) := by rw [hW]; simp
  have k2 : W.cell? ⟨w.heap.size, 2, none⟩ = some (.slice a l.length cap) := by rw [hW]; simp
  have hWz : w.heap.size < W.heap.size := by rw [hW]; simp
  have key : ∀ w2, Below W.heap.size W w2 → ∀ o, w2.cell? ⟨w.heap.size, o, none⟩ = W.cell? ⟨w.heap.size, o, none⟩ := fun w2 h o => h.cell (p := ⟨w.heap.size, o, none⟩) hWz
  have hsz : Calls Tryd.prog 27 #[.agg #[.string (Em.str op), .int .i64 n, .slice a l.length cap], .int .i64 2001] W fun e w' => e = .returned (.int .i64 ((min (Em8.Ty.mk op n l).size 2001 : Nat) : Int)) ∧ Below W.heap.size W w' := ycount_any _ _ _ 2001 (HV.out _ hbW) (by omega) (by omega)
  go_enter Tryd.func10, Tryd.ntmps10
  go_wp2_with fail
  rw [← hW]
  clear hW
  refine hsz.mono ?_
  rintro e w1 ⟨rfl, hb1⟩
  have kk := key _ hb1
  rw [← kk] at k0 k1 k2
  clear key kk hsz
  have hbel1 : Below w.heap.size w w1 := hbW.trans (hb1.mono hbW.size)
  by_cases hs : (Em8.Ty.mk op n l).size ≤ 2000
  · have hm : min (Em8.Ty.mk op n l).size 2001 ≤ 2000 := by omega
    generalize min (Em8.Ty.mk op n l).size 2001 = z at hm ⊢
    have HR : Hid (Em8.isTy (.mk op n l) = Em8.teach (.mk op n l)) := by simp [Hid, Em8.isTy, hs]
    clear hs hb1
    go_wp2_with fail
    refine (yisWhole_any _ _ _ (HV.out _ hbel1)).mono ?_
    rintro e w2 ⟨rfl, hb2⟩
    have hbel2 : Below w.heap.size w w2 := hbel1.trans (hb2.mono hbel1.size)
    obtain ⟨q, hq⟩ : ∃ q, q = Em8.teach (.mk op n l) := ⟨_, rfl⟩
    rw [← hq] at HR ⊢
    clear hb2 hbel1 hq
    go_wp2
    go_ret
    exact ⟨by rw [HR.out]; rfl, hbel2⟩
  · have hm : min (Em8.Ty.mk op n l).size 2001 = 2001 := by omega
    rw [hm]
    have HR : Hid (Em8.isTy (.mk op n l) = false) := by simp [Hid, Em8.isTy, hs]
    clear hs hm
    go_wp2
    go_ret
    exact ⟨by rw [HR.out]; rfl, hbel1⟩
end Go.Proofs.YtcpimmapdhmoiaaDoor

/- What tree's hasItsParts, isWhole and Is answer. -/
import Derived.Test.YtoekhejpompjlaaDoorTreeP
import Derived.Test.YtoekhejpompjlaaDoorTreeA
import Derived.Deep.DeepCutAuto
namespace Go.Proofs.YtoekhejpompjlaaDoor
open Go.RowKit
set_option linter.unusedSimpArgs false

theorem pName_in (op : List Int) : 0 ≤ Em5.pName op ∧ Em5.pName op ≤ 2 := by unfold Em5.pName; split <;> (try split) <;> omega
set_option maxRecDepth 100000 in
set_option maxHeartbeats 4000000 in
theorem hasItsParts_any (T : Em5.Nd) (v : Value) (w : World) (hv : Em5.IsNd w T v) (hg : IsSigns w) :
    Calls Tryd.prog 44 #[v] w fun e w' => e = .returned (.bool (Em5.partsOk T.op T.nm T.ar T.n T.kids.length)) ∧ Below w.heap.size w w' := by
  obtain ⟨op, nm, ar, n, p, l⟩ := T
  unfold Em5.IsNd at hv
  obtain ⟨a, cap, rfl, t1, t2, t3, i1, i2, hc1, hc2, -⟩ := hv
  simp only [Em5.Nd.op, Em5.Nd.nm, Em5.Nd.ar, Em5.Nd.n, Em5.Nd.kids]
  have HT : Hid (Em5.Txt op ∧ Em5.Txt nm ∧ Em5.Txt ar) := ⟨t1, t2, t3⟩
  obtain ⟨W, hW⟩ : ∃ W, W = w.alloc (.cells #[.string (Em.str op), .string (Em.str nm), .string (Em.str ar), .int .i64 n, .int .i64 p, .slice a l.length cap] 24) := ⟨_, rfl⟩
  have hbW : Below w.heap.size w W := by rw [hW]; exact (Below.refl _ _).alloc (Nat.le_refl _) _
  have hWz : w.heap.size < W.heap.size := by rw [hW]; simp
  have g0 : W.cell? ⟨w.heap.size, 0, none⟩ = some (.string (Em.str op)) := by rw [hW]; simp
  have g1 : W.cell? ⟨w.heap.size, 1, none⟩ = some (.string (Em.str nm)) := by rw [hW]; simp
  have g2 : W.cell? ⟨w.heap.size, 2, none⟩ = some (.string (Em.str ar)) := by rw [hW]; simp
  have g3 : W.cell? ⟨w.heap.size, 3, none⟩ = some (.int .i64 n) := by rw [hW]; simp
  have g5 : W.cell? ⟨w.heap.size, 5, none⟩ = some (.slice a l.length cap) := by rw [hW]; simp
  have HSG : Hid (∀ w', Below w.heap.size w w' → IsSigns w') := fun w' h => hg.below h hg.lt
  have HW : Hid (w.alloc (.cells #[.string (Em.str op), .string (Em.str nm), .string (Em.str ar), .int .i64 n, .int .i64 p, .slice a l.length cap] 24) = W) := hW.symm
  have HPO : Hid (Em5.partsOk op nm ar n l.length = (Em5.pOk op && (decide (0 ≤ n) && (decide (n ≤ Em5.pMost op) && (decide ((l.length : Int) = Em5.pKids op) && (Em5.hold nm (Em5.pName op) && Em5.hold ar (Em5.pArg op))))))) := rfl
  generalize Em5.partsOk op nm ar n l.length = R at HPO ⊢
  clear hg t1 t2 t3 hW
  go_enter Tryd.func44, Tryd.ntmps44
  go_wp2_with fail
  rw [HW.out]
  refine (partsOf_any op _ HT.out.1.1).mono ?_
  rintro e w1 ⟨rfl, hb1⟩
  have hbel1 : Below w.heap.size w w1 := hbW.trans (hb1.mono hbW.size)
  have key : ∀ o, w1.cell? ⟨w.heap.size, o, none⟩ = W.cell? ⟨w.heap.size, o, none⟩ := fun o => hb1.cell (p := ⟨w.heap.size, o, none⟩) hWz
  rw [← key] at g0 g1 g2 g3 g5
  have hz1 : w.heap.size < w1.heap.size := Nat.lt_of_lt_of_le hWz hb1.size
  clear key hb1 hbW hWz HW
  obtain ⟨pn, hpn⟩ : ∃ x, x = Em5.pName op := ⟨_, rfl⟩
  obtain ⟨pa, hpa⟩ : ∃ x, x = Em5.pArg op := ⟨_, rfl⟩
  obtain ⟨pm, hpm⟩ : ∃ x, x = Em5.pMost op := ⟨_, rfl⟩
  obtain ⟨pk, hpk⟩ : ∃ x, x = Em5.pKids op := ⟨_, rfl⟩
  obtain ⟨po, hpo⟩ : ∃ x, x = Em5.pOk op := ⟨_, rfl⟩
  simp only [partsV]
  rw [← hpn, ← hpa, ← hpm, ← hpk, ← hpo] at HPO
  rw [← hpn, ← hpa, ← hpm, ← hpk, ← hpo]
  clear hpn hpa hpm hpk hpo
  obtain ⟨W2, hW2⟩ : ∃ W2, W2 = w1.alloc (.cells #[.int .i64 pn, .int .i64 pa, .int .i64 pm, .int .i64 pk] 70) := ⟨_, rfl⟩
  have hb2 : Below w.heap.size w W2 := by rw [hW2]; exact hbel1.alloc hbel1.size _
  have key : ∀ o, W2.cell? ⟨w.heap.size, o, none⟩ = w1.cell? ⟨w.heap.size, o, none⟩ := fun o => by rw [hW2]; exact ((Below.refl _ _).alloc (Nat.le_refl _) _).cell (p := ⟨w.heap.size, o, none⟩) hz1
  rw [← key] at g0 g1 g2 g3 g5
  have q0 : W2.cell? ⟨w1.heap.size, 0, none⟩ = some (.int .i64 pn) := by rw [hW2]; simp
  have q1 : W2.cell? ⟨w1.heap.size, 1, none⟩ = some (.int .i64 pa) := by rw [hW2]; simp
  have q2 : W2.cell? ⟨w1.heap.size, 2, none⟩ = some (.int .i64 pm) := by rw [hW2]; simp
  have q3 : W2.cell? ⟨w1.heap.size, 3, none⟩ = some (.int .i64 pk) := by rw [hW2]; simp
  have hz2 : w1.heap.size < W2.heap.size := by rw [hW2]; simp
  have HW2 : Hid (w1.alloc (.cells #[.int .i64 pn, .int .i64 pa, .int .i64 pm, .int .i64 pk] 70) = W2) := hW2.symm
  clear key hW2 hbel1
  go_upto_region 2 with fail
  rw [HW2.out]
  clear HW2
  cases po with
  | false =>
    have HF : Hid (R = false) := HPO.out
    go_wp2
    go_ret
    exact ⟨by rw [HF.out]; rfl, hb2⟩
  | true =>
    by_cases h0 : 0 ≤ n
    · by_cases hm : n ≤ pm
      · by_cases hk : (l.length : Int) = pk
        · have HF : Hid (R = (Em5.hold nm pn && Em5.hold ar pa)) := by rw [Hid, HPO.out, decide_eq_true h0, decide_eq_true hm, decide_eq_true hk]; rfl
          have hk' : ((l.length : Int) == pk) = true := by rw [beq_iff_eq]; exact hk
          clear HPO hk
          go_wp2_with fail
          refine (holds_any nm pn _ HT.out.2.1 (HSG.out _ hb2)).mono ?_
          rintro e w3 ⟨rfl, hb3⟩
          have hbel3 : Below w.heap.size w w3 := hb2.trans (hb3.mono hb2.size)
          have g2' : w3.cell? ⟨w.heap.size, 2, none⟩ = some (.string (Em.str ar)) := by rw [hb3.cell (p := ⟨w.heap.size, 2, none⟩) (by simp only; omega)]; exact g2
          have q1' : w3.cell? ⟨w1.heap.size, 1, none⟩ = some (.int .i64 pa) := by rw [hb3.cell (p := ⟨w1.heap.size, 1, none⟩) (by simp only; omega)]; exact q1
          clear hb3 g0 g1 g2 g3 g5 q0 q1 q2 q3 hb2
          obtain ⟨z1, hz1⟩ : ∃ z, z = Em5.hold nm pn := ⟨_, rfl⟩
          rw [← hz1] at HF ⊢
          clear hz1
          cases z1 with
          | false =>
            have HF2 : Hid (R = false) := HF.out
            go_wp2
            go_ret
            exact ⟨by rw [HF2.out]; rfl, hbel3⟩
          | true =>
            have HF2 : Hid (R = Em5.hold ar pa) := HF.out
            go_wp2_with fail
            refine (holds_any ar pa _ HT.out.2.2 (HSG.out _ hbel3)).mono ?_
            rintro e w4 ⟨rfl, hb4⟩
            have hbel4 : Below w.heap.size w w4 := hbel3.trans (hb4.mono hbel3.size)
            obtain ⟨z2, hz2⟩ : ∃ z, z = Em5.hold ar pa := ⟨_, rfl⟩
            rw [← hz2] at HF2 ⊢
            clear hz2 hb4 hbel3
            go_wp2
            go_ret
            exact ⟨by rw [HF2.out]; rfl, hbel4⟩
        · have HF : Hid (R = false) := by rw [Hid, HPO.out, decide_eq_false hk]; cases decide (0 ≤ n) <;> cases decide (n ≤ pm) <;> rfl
          have hk' : ((l.length : Int) == pk) = false := by rw [beq_eq_false_iff_ne]; exact hk
          clear HPO hk
          go_wp2
          go_ret
          exact ⟨by rw [HF.out]; rfl, hb2⟩
      · have HF : Hid (R = false) := by rw [Hid, HPO.out, decide_eq_false hm]; cases decide (0 ≤ n) <;> rfl
        have hm' : pm < n := by omega
        clear HPO
        go_wp2
        go_ret
        exact ⟨by rw [HF.out]; rfl, hb2⟩
    · have HF : Hid (R = false) := by rw [Hid, HPO.out, decide_eq_false h0]; rfl
      have h0' : n < 0 := by omega
      clear HPO
      go_wp2
      go_ret
      exact ⟨by rw [HF.out]; rfl, hb2⟩

set_option maxRecDepth 100000 in
set_option maxHeartbeats 2000000 in
theorem isWhole_any (T : Em5.Nd) : ∀ (v : Value) (w : World), Em5.IsNd w T v → IsSigns w →
    Calls Tryd.prog 28 #[v] w fun e w' => e = .returned (.bool (Em5.each T)) ∧ Below w.heap.size w w' := by
  induction T using Em5.Nd.ind with
  | h op nm ar n p l ih =>
    intro v w hv hg
    have HI : Hid (∀ t ∈ l, ∀ (v : Value) (w : World), Em5.IsNd w t v → IsSigns w →
      Calls Tryd.prog 28 #[v] w fun e w' => e = .returned (.bool (Em5.each t)) ∧ Below w.heap.size w w') := ih
    have HSG : Hid (∀ w', Below w.heap.size w w' → IsSigns w') := fun w' h => hg.below h hg.lt
    have HV : Hid (∀ w', Below w.heap.size w w' → Em5.IsNd w' (.mk op nm ar n p l) v) := fun w' h => Em5.isNd_below h _ _ hv
    unfold Em5.IsNd at hv
    obtain ⟨a, cap, rfl, t1, t2, t3, i1, i2, hc1, hc2, hk⟩ := hv
    have HK : Hid (0 < l.length → ∃ b off, a = some ⟨b, off, none⟩ ∧ b < w.heap.size ∧ Em5.KidsAt w b off l) := hk
    obtain ⟨W, hW⟩ : ∃ W, W = w.alloc (.cells #[.string (Em.str op), .string (Em.str nm), .string (Em.str ar), .int .i64 n, .int .i64 p, .slice a l.length cap] 24) := ⟨_, rfl⟩
    have hbW : Below w.heap.size w W := by rw [hW]; exact (Below.refl _ _).alloc (Nat.le_refl _) _
    have hWz : w.heap.size < W.heap.size := by rw [hW]; simp
    have g5 : W.cell? ⟨w.heap.size, 5, none⟩ = some (.slice a l.length cap) := by rw [hW]; simp
    have HW : Hid (w.alloc (.cells #[.string (Em.str op), .string (Em.str nm), .string (Em.str ar), .int .i64 n, .int .i64 p, .slice a l.length cap] 24) = W) := hW.symm
    have HE : Hid (Em5.each (.mk op nm ar n p l) = (Em5.partsOk op nm ar n l.length && Em5.eachs l)) := by
      rw [Hid, Em5.each, Em5.partsOk_eq op nm ar n p l, Bool.and_assoc]
    generalize Em5.each (.mk op nm ar n p l) = R at HE ⊢
    clear ih hk t1 t2 t3 i1 i2 hg hW
    go_enter Tryd.func28, Tryd.ntmps28
    go_wp2_with fail
    rw [HW.out]
    refine (hasItsParts_any _ _ _ (HV.out _ hbW) (HSG.out _ hbW)).mono ?_
    rintro e w1 ⟨rfl, hb1⟩
    simp only [Em5.Nd.op, Em5.Nd.nm, Em5.Nd.ar, Em5.Nd.n, Em5.Nd.kids]
    have hbel1 : Below w.heap.size w w1 := hbW.trans (hb1.mono hbW.size)
    have g5' : w1.cell? ⟨w.heap.size, 5, none⟩ = some (.slice a l.length cap) := by rw [hb1.cell (p := ⟨w.heap.size, 5, none⟩) hWz]; exact g5
    clear g5 hb1 hbW hWz HW
    obtain ⟨z, hz⟩ : ∃ z, z = Em5.partsOk op nm ar n l.length := ⟨_, rfl⟩
    rw [← hz] at HE ⊢
    clear hz
    cases z with
    | false =>
      have HF : Hid (R = false) := HE.out
      go_wp2
      go_ret
      exact ⟨by rw [HF.out]; rfl, hbel1⟩
    | true =>
      have HF : Hid (R = Em5.eachs l) := HE.out
      go_wp2
      go_loopw [11] (fun i wr => ∃ j : Nat, j ≤ l.length ∧ i = .int .i64 j ∧ Below w.heap.size w wr ∧ Hid (∀ (k : Nat) t, k < j → l[k]? = some t → Em5.each t = true)) (fun i _ => l.length - (intOf i).toNat)
      case atStart => exact ⟨0, Nat.zero_le _, rfl, hbel1, fun k t h => by omega⟩
      case round =>
        clear hbel1 g5'
        obtain ⟨j, hj, rfl, hbel, HD⟩ := hrel
        by_cases hlt : j < l.length
        · obtain ⟨b, off, rfl, hb, hat⟩ := HK.out (by omega)
          obtain ⟨t, ht⟩ : ∃ t, l[j]? = some t := ⟨_, List.getElem?_eq_getElem hlt⟩
          obtain ⟨a', cap', k0, k1, k2, k3, k4, k5, kn⟩ := Em5.kid_get hat ht
          have key : ∀ o, wr.cell? ⟨b, o, none⟩ = w.cell? ⟨b, o, none⟩ := fun o => hbel.cell (p := ⟨b, o, none⟩) hb
          rw [← key] at k0 k1 k2 k3 k4 k5
          have hbA : Below w.heap.size w (wr.alloc (.cells #[.string (Em.str t.op), .string (Em.str t.nm), .string (Em.str t.ar), .int .i64 t.n, .int .i64 t.p, .slice a' t.kids.length cap'] 24)) := hbel.alloc hbel.size _
          have HN : Hid (Em5.IsNd (wr.alloc (.cells #[.string (Em.str t.op), .string (Em.str t.nm), .string (Em.str t.ar), .int .i64 t.n, .int .i64 t.p, .slice a' t.kids.length cap'] 24)) t (.agg #[.string (Em.str t.op), .string (Em.str t.nm), .string (Em.str t.ar), .int .i64 t.n, .int .i64 t.p, .slice a' t.kids.length cap'])) := Em5.isNd_below hbA t _ kn
          have HT : Hid (l[j]? = some t) := ht
          have hjI : (j : Int) < (l.length : Int) := by omega
          clear key kn ht hat
          go_wp2_with fail
          refine (HI.out t (List.mem_of_getElem? HT.out) _ _ HN.out (HSG.out _ hbA)).mono ?_
          rintro e w2 ⟨rfl, hb2⟩
          have hbel1 : Below w.heap.size w w2 := hbA.trans (hb2.mono hbA.size)
          clear hb2 k0 k1 k2 k3 k4 k5 hbel hbA HN
          cases hx : Em5.each t with
          | false =>
            have HF2 : Hid (R = false) := by rw [Hid, HF.out]; exact Em5.eachs_no HT.out hx
            clear hx
            go_wp2
            go_ret
            exact ⟨by rw [HF2.out]; rfl, hbel1⟩
          | true =>
            have HX : Hid (Em5.each t = true) := hx
            clear hx
            go_wp2
            go_roundw
            case rel =>
              refine ⟨j + 1, by omega, by go_num, hbel1, fun k t' hk ht' => ?_⟩
              by_cases hjk : k = j
              · subst hjk; rw [HT.out] at ht'; cases ht'; exact HX.out
              · exact HD.out k t' (by omega) ht'
            case measure => simp [intOf]; omega
        · have HF2 : Hid (R = true) := by
            rw [Hid, HF.out]
            exact Em5.eachs_yes (fun k t hk ht => HD.out k t (by omega) ht)
          go_wp2
          go_ret
          exact ⟨by rw [HF2.out]; rfl, hbel⟩

set_option maxRecDepth 100000 in
set_option maxHeartbeats 1000000 in
theorem tIs_any (T : Em5.Nd) (v : Value) (w : World) (hv : Em5.IsNd w T v) (hg : IsSigns w) :
    Calls Tryd.prog 16 #[v] w fun e w' => e = .returned (.bool (Em5.isNd T)) ∧ Below w.heap.size w w' := by
  have HSG : Hid (∀ w', Below w.heap.size w w' → IsSigns w') := fun w' h => hg.below h hg.lt
  have HV : Hid (∀ w', Below w.heap.size w w' → Em5.IsNd w' T v) := fun w' h => Em5.isNd_below h _ _ hv
  obtain ⟨op, nm, ar, n, p, l⟩ := T
  unfold Em5.IsNd at hv
  obtain ⟨a, cap, rfl, -⟩ := hv
  obtain ⟨W, hW⟩ : ∃ W, W = w.alloc (.cells #[.string (Em.str op), .string (Em.str nm), .string (Em.str ar), .int .i64 n, .int .i64 p, .slice a l.length cap] 24) := ⟨_, rfl⟩
  have hbW : Below w.heap.size w W := by rw [hW]; exact (Below.refl _ _).alloc (Nat.le_refl _) _
  have hWz : w.heap.size < W.heap.size := by rw [hW]; simp
  have g0 : W.cell? ⟨w.heap.size, 0, none⟩ = some (.string (Em.str op)) := by rw [hW]; simp
  have g1 : W.cell? ⟨w.heap.size, 1, none⟩ = some (.string (Em.str nm)) := by rw [hW]; simp
  have g2 : W.cell? ⟨w.heap.size, 2, none⟩ = some (.string (Em.str ar)) := by rw [hW]; simp
  have g3 : W.cell? ⟨w.heap.size, 3, none⟩ = some (.int .i64 n) := by rw [hW]; simp
  have g4 : W.cell? ⟨w.heap.size, 4, none⟩ = some (.int .i64 p) := by rw [hW]; simp
  have g5 : W.cell? ⟨w.heap.size, 5, none⟩ = some (.slice a l.length cap) := by rw [hW]; simp
  have HW : Hid (w.alloc (.cells #[.string (Em.str op), .string (Em.str nm), .string (Em.str ar), .int .i64 n, .int .i64 p, .slice a l.length cap] 24) = W) := hW.symm
  clear hW hg
  go_enter Tryd.func16, Tryd.ntmps16
  go_wp2_with fail
  rw [HW.out]
  refine (tSize_any _ _ _ (HV.out _ hbW)).mono ?_
  rintro e w1 ⟨rfl, hb1⟩
  have hbel1 : Below w.heap.size w w1 := hbW.trans (hb1.mono hbW.size)
  have key : ∀ o, w1.cell? ⟨w.heap.size, o, none⟩ = W.cell? ⟨w.heap.size, o, none⟩ := fun o => hb1.cell (p := ⟨w.heap.size, o, none⟩) hWz
  rw [← key] at g0 g1 g2 g3 g4 g5
  clear key hb1 hbW hWz HW
  obtain ⟨z, hz⟩ : ∃ z : Nat, z = min (Em5.Nd.mk op nm ar n p l).size 2001 := ⟨_, rfl⟩
  have hz2 : z ≤ 2001 := by omega
  rw [← hz]
  by_cases h2 : z ≤ 2000
  · have HE : Hid (Em5.isNd (.mk op nm ar n p l) = Em5.each (.mk op nm ar n p l)) := by
      rw [Hid, Em5.isNd, decide_eq_true (by omega)]; rfl
    clear hz
    go_wp2_with fail
    refine (isWhole_any _ _ _ (HV.out _ hbel1) (HSG.out _ hbel1)).mono ?_
    rintro e w2 ⟨rfl, hb2⟩
    have hbel2 : Below w.heap.size w w2 := hbel1.trans (hb2.mono hbel1.size)
    clear hb2 hbel1 g0 g1 g2 g3 g4 g5
    go_wp2
    go_ret
    exact ⟨by rw [HE.out]; rfl, hbel2⟩
  · have HE : Hid (Em5.isNd (.mk op nm ar n p l) = false) := by
      rw [Hid, Em5.isNd, decide_eq_false (by omega)]; rfl
    have h2' : 2000 < z := by omega
    clear hz
    go_wp2
    go_ret
    exact ⟨by rw [HE.out]; rfl, hbel1⟩
end Go.Proofs.YtoekhejpompjlaaDoor

/- What the document's own 'each', 'Is', 'Same', 'IsValue' answer. -/
import Derived.Test.YtlniokcekjemdaaDoorRTreeA
namespace Go.Proofs.YtlniokcekjemdaaDoor
open Go.RowKit
set_option linter.unusedSimpArgs false

theorem each_keep {w0 w w' : World} {B : Nat} {c0 c1 c2 c3 c4 c5 : Value} (hb : Below w.heap.size w w') (h : Below B w0 w ∧ w.cell? ⟨B, 0, none⟩ = some c0 ∧ w.cell? ⟨B, 1, none⟩ = some c1 ∧ w.cell? ⟨B, 2, none⟩ = some c2 ∧ w.cell? ⟨B, 3, none⟩ = some c3 ∧ w.cell? ⟨B, 4, none⟩ = some c4 ∧ w.cell? ⟨B, 5, none⟩ = some c5 ∧ B < w.heap.size) :
    Below B w0 w' ∧ w'.cell? ⟨B, 0, none⟩ = some c0 ∧ w'.cell? ⟨B, 1, none⟩ = some c1 ∧ w'.cell? ⟨B, 2, none⟩ = some c2 ∧ w'.cell? ⟨B, 3, none⟩ = some c3 ∧ w'.cell? ⟨B, 4, none⟩ = some c4 ∧ w'.cell? ⟨B, 5, none⟩ = some c5 ∧ B < w'.heap.size := by
  obtain ⟨h1, k0, k1, k2, k3, k4, k5, h6⟩ := h
  have key : ∀ o, w'.cell? ⟨B, o, none⟩ = w.cell? ⟨B, o, none⟩ := fun o => hb.cell (p := ⟨B, o, none⟩) h6
  exact ⟨h1.trans (hb.mono (Nat.le_of_lt h6)), by rw [key]; exact k0, by rw [key]; exact k1, by rw [key]; exact k2, by rw [key]; exact k3, by rw [key]; exact k4, by rw [key]; exact k5, Nat.lt_of_lt_of_le h6 hb.size⟩

set_option maxRecDepth 100000 in
set_option maxHeartbeats 2000000 in
theorem reach_any (T : Em5.Nd) : ∀ (v : Value) (w : World), Em5.IsNd w T v →
    Calls Tryd.prog 20 #[v] w fun e w' => e = .returned (.bool (Em5.each T)) ∧ Below w.heap.size w w' := by
  induction T using Em5.Nd.ind with
  | h op nm ar n p l ih =>
    intro v w hv
    have hv' := hv
    unfold Em5.IsNd at hv
    obtain ⟨a, cap, rfl, t1, t2, t3, i1, i2, hc1, hc2, hk⟩ := hv
    have HK : Hid (0 < l.length → ∃ b off, a = some ⟨b, off, none⟩ ∧ b < w.heap.size ∧ Em5.KidsAt w b off l) := hk
    have HI : Hid (∀ t ∈ l, ∀ (v : Value) (w : World), Em5.IsNd w t v →
      Calls Tryd.prog 20 #[v] w fun e w' => e = .returned (.bool (Em5.each t)) ∧ Below w.heap.size w w') := ih
    have HV : Hid (∀ w', Below w.heap.size w w' → Em5.IsNd w' (.mk op nm ar n p l) (.agg #[.string (Em.str op), .string (Em.str nm), .string (Em.str ar), .int .i64 n, .int .i64 p, .slice a l.length cap])) := fun w' h => Em5.isNd_below h _ _ hv'
    have HO : Hid (∀ x ∈ op, 0 ≤ x ∧ x ≤ 255) := t1.1
    obtain ⟨W, hW⟩ : ∃ W, W = w.alloc (.cells #[.string (Em.str op), .string (Em.str nm), .string (Em.str ar), .int .i64 n, .int .i64 p, .slice a l.length cap] 24) := ⟨_, rfl⟩
    have hS0 : Below w.heap.size w W.drew ∧ W.drew.cell? ⟨w.heap.size, 0, none⟩ = some (.string (Em.str op)) ∧ W.drew.cell? ⟨w.heap.size, 1, none⟩ = some (.string (Em.str nm)) ∧ W.drew.cell? ⟨w.heap.size, 2, none⟩ = some (.string (Em.str ar)) ∧ W.drew.cell? ⟨w.heap.size, 3, none⟩ = some (.int .i64 n) ∧ W.drew.cell? ⟨w.heap.size, 4, none⟩ = some (.int .i64 p) ∧ W.drew.cell? ⟨w.heap.size, 5, none⟩ = some (.slice a l.length cap) ∧ w.heap.size < W.drew.heap.size :=
      ⟨by rw [hW]; exact ((Below.refl _ _).alloc (Nat.le_refl _) _).drew, by rw [hW]; simp, by rw [hW]; simp, by rw [hW]; simp, by rw [hW]; simp, by rw [hW]; simp, by rw [hW]; simp, by rw [hW]; simp⟩
    have HS0 : Hid (Below w.heap.size w W.drew ∧ W.drew.cell? ⟨w.heap.size, 0, none⟩ = some (.string (Em.str op)) ∧ W.drew.cell? ⟨w.heap.size, 1, none⟩ = some (.string (Em.str nm)) ∧ W.drew.cell? ⟨w.heap.size, 2, none⟩ = some (.string (Em.str ar)) ∧ W.drew.cell? ⟨w.heap.size, 3, none⟩ = some (.int .i64 n) ∧ W.drew.cell? ⟨w.heap.size, 4, none⟩ = some (.int .i64 p) ∧ W.drew.cell? ⟨w.heap.size, 5, none⟩ = some (.slice a l.length cap) ∧ w.heap.size < W.drew.heap.size) := hS0
    clear ih hk hv' t1 t2 t3 i1 i2 hS0
    by_cases hkn : Em5.kidsN op = (l.length : Int)
    · have hne : (Em5.kidsN op == (l.length : Int)) = true := by rw [beq_iff_eq]; exact hkn
      have hne' : (Em5.kidsN op != (l.length : Int)) = false := by rw [bne, hne]; rfl
      have HR : Hid (Em5.each (.mk op nm ar n p l) = (Em5.namesOk (.mk op nm ar n p l) && Em5.eachs l)) := by simp [Hid, Em5.each, hkn]
      clear hkn
      obtain ⟨q, hq⟩ : ∃ q, q = Em5.namesOk (.mk op nm ar n p l) := ⟨_, rfl⟩
      have HQ : Hid (Em5.namesOk (.mk op nm ar n p l) = q) := hq.symm
      rw [← hq] at HR
      clear hq
      go_enter Tryd.func20, Tryd.ntmps20
      go_wp2_with fail
      rw [← hW]
      clear hW
      cases q with
      | false =>
        go_region_held (fun w' => Below w.heap.size w w' ∧ w'.cell? ⟨w.heap.size, 0, none⟩ = some (.string (Em.str op)) ∧ w'.cell? ⟨w.heap.size, 1, none⟩ = some (.string (Em.str nm)) ∧ w'.cell? ⟨w.heap.size, 2, none⟩ = some (.string (Em.str ar)) ∧ w'.cell? ⟨w.heap.size, 3, none⟩ = some (.int .i64 n) ∧ w'.cell? ⟨w.heap.size, 4, none⟩ = some (.int .i64 p) ∧ w'.cell? ⟨w.heap.size, 5, none⟩ = some (.slice a l.length cap) ∧ w.heap.size < w'.heap.size)
          (first | exact HS0 | exact each_keep (by assumption) (by assumption))
          (first | (go_at_call 28; refine (rKids_any _ _ HO.out).mono ?_; rintro e w1 ⟨rfl, rfl⟩) | (go_at_call 29; refine (rnames_any _ _ _ (HV.out _ (Em.held1 (by assumption)))).mono ?_; rintro e w1 ⟨rfl, hb1⟩; rw [HQ.out]))
        go_wp2
        go_ret
        exact ⟨by rw [HR.out]; rfl, Em.held1 (by assumption)⟩
      | true =>
        go_region_held (fun w' => Below w.heap.size w w' ∧ w'.cell? ⟨w.heap.size, 0, none⟩ = some (.string (Em.str op)) ∧ w'.cell? ⟨w.heap.size, 1, none⟩ = some (.string (Em.str nm)) ∧ w'.cell? ⟨w.heap.size, 2, none⟩ = some (.string (Em.str ar)) ∧ w'.cell? ⟨w.heap.size, 3, none⟩ = some (.int .i64 n) ∧ w'.cell? ⟨w.heap.size, 4, none⟩ = some (.int .i64 p) ∧ w'.cell? ⟨w.heap.size, 5, none⟩ = some (.slice a l.length cap) ∧ w.heap.size < w'.heap.size)
          (first | exact HS0 | exact each_keep (by assumption) (by assumption))
          (first | (go_at_call 28; refine (rKids_any _ _ HO.out).mono ?_; rintro e w1 ⟨rfl, rfl⟩) | (go_at_call 29; refine (rnames_any _ _ _ (HV.out _ (Em.held1 (by assumption)))).mono ?_; rintro e w1 ⟨rfl, hb1⟩; rw [HQ.out]))
        go_wp2
        obtain ⟨hbl, -, -, -, -, -, hc5, hsz0⟩ := ‹Below w.heap.size w w1 ∧ w1.cell? ⟨w.heap.size, 0, none⟩ = some (.string (Em.str op)) ∧ w1.cell? ⟨w.heap.size, 1, none⟩ = some (.string (Em.str nm)) ∧ w1.cell? ⟨w.heap.size, 2, none⟩ = some (.string (Em.str ar)) ∧ w1.cell? ⟨w.heap.size, 3, none⟩ = some (.int .i64 n) ∧ w1.cell? ⟨w.heap.size, 4, none⟩ = some (.int .i64 p) ∧ w1.cell? ⟨w.heap.size, 5, none⟩ = some (.slice a l.length cap) ∧ w.heap.size < w1.heap.size›
        clear hb1 HS0
        go_loopw [3] (fun i wr => ∃ j : Nat, j ≤ l.length ∧ i = .int .i64 j ∧ Below w.heap.size w wr ∧ wr.cell? ⟨w.heap.size, 5, none⟩ = some (.slice a l.length cap) ∧ w.heap.size < wr.heap.size ∧ Hid (∀ (k : Nat) t, k < j → l[k]? = some t → Em5.each t = true)) (fun i _ => l.length - (intOf i).toNat)
        case atStart => exact ⟨0, Nat.zero_le _, rfl, hbl, hc5, hsz0, fun k t h => by omega⟩
        case round =>
          clear hbl hc5 hsz0
          obtain ⟨j, hj, rfl, hbel, hcell, hsz, HD⟩ := hrel
          by_cases hlt : j < l.length
          · obtain ⟨b, off, rfl, hb, hat⟩ := HK.out (by omega)
            obtain ⟨t, ht⟩ : ∃ t, l[j]? = some t := ⟨_, List.getElem?_eq_getElem hlt⟩
            obtain ⟨c0, c1, c2, c3, c4, c5, k0, k1, k2, k3, k4, k5, kn⟩ := Em5.kidsAt_get l off j t hat ht
            have key : ∀ o, wr.cell? ⟨b, o, none⟩ = w.cell? ⟨b, o, none⟩ := fun o => hbel.cell (p := ⟨b, o, none⟩) hb
            rw [← key] at k0 k1 k2 k3 k4 k5
            have HN : Hid (Em5.IsNd wr t (.agg #[c0, c1, c2, c3, c4, c5])) := Em5.isNd_below hbel t _ kn
            have HT : Hid (l[j]? = some t) := ht
            clear key kn ht hat
            go_wp2_with fail
            refine (HI.out t (List.mem_of_getElem? HT.out) _ _ HN.out).mono ?_
            rintro e w2 ⟨rfl, hb2⟩
            have hbel1 : Below w.heap.size w w2 := hbel.trans (hb2.mono hbel.size)
            have hcell1 : w2.cell? ⟨w.heap.size, 5, none⟩ = some (.slice (some ⟨b, off, none⟩) l.length cap) := by rw [hb2.cell (p := ⟨w.heap.size, 5, none⟩) hsz]; exact hcell
            have hsz1 : w.heap.size < w2.heap.size := Nat.lt_of_lt_of_le hsz hb2.size
            clear hb2 k0 k1 k2 k3 k4 k5 hcell hsz hbel
            cases hx : Em5.each t with
            | false =>
              have HF : Hid (Em5.eachs l = false) := Em5.eachs_no HT.out hx
              go_wp2
              go_ret
              exact ⟨by rw [HR.out, HF.out]; rfl, hbel1⟩
            | true =>
              have HX : Hid (Em5.each t = true) := hx
              go_wp2
              go_roundw
              case rel =>
                refine ⟨j + 1, by omega, by go_num, hbel1, hcell1, hsz1, fun k t' hk ht' => ?_⟩
                by_cases hkj : k = j
                · subst hkj; rw [HT.out] at ht'; cases ht'; exact HX.out
                · exact HD.out k t' (by omega) ht'
              case measure => simp [intOf]; omega
          · have HF : Hid (Em5.eachs l = true) := Em5.eachs_yes fun k t hk ht => HD.out k t (by omega) ht
            go_wp2
            go_ret
            exact ⟨by rw [HR.out, HF.out]; rfl, hbel⟩
    · have HR : Hid (Em5.each (.mk op nm ar n p l) = false) := by simp [Hid, Em5.each, hkn]
      have hne : (Em5.kidsN op == (l.length : Int)) = false := by rw [beq_eq_false_iff_ne]; exact hkn
      have hne' : (Em5.kidsN op != (l.length : Int)) = true := by rw [bne, hne]; rfl
      clear hkn
      go_enter Tryd.func20, Tryd.ntmps20
      go_wp2_with fail
      go_quiet ((go_at_call 28; exact Calls.quiet_of_same (rKids_any _ _ HO.out)))
      go_wp2
      go_ret
      exact ⟨by rw [HR.out]; rfl, Em.below_drewN ((Below.refl _ _).alloc (Nat.le_refl _) _) nq⟩

set_option maxRecDepth 100000 in
set_option maxHeartbeats 1000000 in
theorem rIs_any (T : Em5.Nd) (v : Value) (w : World) (hv : Em5.IsNd w T v) :
    Calls Tryd.prog 8 #[v] w fun e w' => e = .returned (.bool (Em5.isNd T)) ∧ Below w.heap.size w w' := by
  have HV : Hid (∀ w', Below w.heap.size w w' → Em5.IsNd w' T v) := fun w' h => Em5.isNd_below h _ _ hv
  obtain ⟨op, nm, ar, n, p, l⟩ := T
  unfold Em5.IsNd at hv
  obtain ⟨a, cap, rfl, -⟩ := hv
  obtain ⟨W, hW⟩ : ∃ W, W = w.alloc (.cells #[.string (Em.str op), .string (Em.str nm), .string (Em.str ar), .int .i64 n, .int .i64 p, .slice a l.length cap] 24) := ⟨_, rfl⟩
  have hbW : Below w.heap.size w W := by rw [hW]; exact (Below.refl _ _).alloc (Nat.le_refl _) _
  have k0 : W.cell? ⟨w.heap.size, 0, none⟩ = some (.string (Em.str op)) := by rw [hW]; simp
  have k1 : W.cell? ⟨w.heap.size, 1, none⟩ = some (.string (Em.str nm)) := by rw [hW]; simp
  have k2 : W.cell? ⟨w.heap.size, 2, none⟩ = some (.string (Em.str ar)) := by rw [hW]; simp
  have k3 : W.cell? ⟨w.heap.size, 3, none⟩ = some (.int .i64 n) := by rw [hW]; simp
  have k4 : W.cell? ⟨w.heap.size, 4, none⟩ = some (.int .i64 p) := by rw [hW]; simp
  have k5 : W.cell? ⟨w.heap.size, 5, none⟩ = some (.slice a l.length cap) := by rw [hW]; simp
  have hWz : w.heap.size < W.heap.size := by rw [hW]; simp
  have key : ∀ w2, Below W.heap.size W w2 → ∀ o, w2.cell? ⟨w.heap.size, o, none⟩ = W.cell? ⟨w.heap.size, o, none⟩ := fun w2 h o => h.cell (p := ⟨w.heap.size, o, none⟩) hWz
  go_enter Tryd.func8, Tryd.ntmps8
  go_wp2_with fail
  rw [← hW]
  clear hW
  refine (rSize_any _ _ _ (HV.out _ hbW)).mono ?_
  rintro e w1 ⟨rfl, hb1⟩
  have kk := key _ hb1
  rw [← kk] at k0 k1 k2 k3 k4 k5
  clear key kk
  have hbel1 : Below w.heap.size w w1 := hbW.trans (hb1.mono hbW.size)
  by_cases hs : (Em5.Nd.mk op nm ar n p l).size ≤ 2000
  · have hm : min (Em5.Nd.mk op nm ar n p l).size 2001 ≤ 2000 := by omega
    generalize min (Em5.Nd.mk op nm ar n p l).size 2001 = z at hm ⊢
    have HR : Hid (Em5.isNd (.mk op nm ar n p l) = Em5.each (.mk op nm ar n p l)) := by simp [Hid, Em5.isNd, hs]
    clear hs hb1
    go_wp2_with fail
    refine (reach_any _ _ _ (HV.out _ hbel1)).mono ?_
    rintro e w2 ⟨rfl, hb2⟩
    have hbel2 : Below w.heap.size w w2 := hbel1.trans (hb2.mono hbel1.size)
    obtain ⟨q, hq⟩ : ∃ q, q = Em5.each (.mk op nm ar n p l) := ⟨_, rfl⟩
    rw [← hq] at HR ⊢
    clear hb2 hbel1 hq
    go_wp2
    go_ret
    exact ⟨by rw [HR.out]; rfl, hbel2⟩
  · have hm : min (Em5.Nd.mk op nm ar n p l).size 2001 = 2001 := by omega
    rw [hm]
    have HR : Hid (Em5.isNd (.mk op nm ar n p l) = false) := by simp [Hid, Em5.isNd, hs]
    clear hs hm
    go_wp2
    go_ret
    exact ⟨by rw [HR.out]; rfl, hbel1⟩
end Go.Proofs.YtlniokcekjemdaaDoor

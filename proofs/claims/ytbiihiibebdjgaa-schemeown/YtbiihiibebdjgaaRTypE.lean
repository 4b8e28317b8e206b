/- What the document's own 'each', 'Is', 'Same', 'Sent' answer of types. -/
import Derived.Test.YtbiihiibebdjgaaRTypS
import Derived.Deep.RegionHeld
namespace Go.Proofs.Ytbiihiibebdjgaa
open Go.RowKit
set_option linter.unusedSimpArgs false

theorem teach_eq (T : Em8.Ty) : Em8.teach T = (decide (Em8.tkids T.op = T.kids.length) && (decide (0 ≤ T.n) && ((decide (T.op = Em8.tVar) || decide (T.n = 0)) && Em8.teachs T.kids))) := by
  obtain ⟨op, n, l⟩ := T
  rw [Em8.teach]; rfl

set_option maxRecDepth 100000 in
set_option maxHeartbeats 4000000 in
theorem rteach_any (T : Em8.Ty) : ∀ (v : Value) (w : World), Em8.IsTy w T v →
    Calls Try.prog 19 #[v] w fun e w' => e = .returned (.bool (Em8.teach T)) ∧ Below w.heap.size w w' := by
  induction T using Em8.Ty.ind with
  | h op n l ih =>
    intro v w hv
    unfold Em8.IsTy at hv
    obtain ⟨a, cap, rfl, t1, i1, hc1, hc2, hk⟩ := hv
    have HK : Hid (0 < l.length → ∃ b off, a = some ⟨b, off, none⟩ ∧ b < w.heap.size ∧ Em8.TysAt w b off l) := hk
    have HI : Hid (∀ t ∈ l, ∀ (v : Value) (w : World), Em8.IsTy w t v →
      Calls Try.prog 19 #[v] w fun e w' => e = .returned (.bool (Em8.teach t)) ∧ Below w.heap.size w w') := ih
    have HO : Hid (∀ x ∈ op, 0 ≤ x ∧ x ≤ 255) := t1.1
    have HE : Hid (Em8.teach (.mk op n l) = (decide (Em8.tkids op = l.length) && (decide (0 ≤ n) && ((decide (op = Em8.tVar) || decide (n = 0)) && Em8.teachs l)))) := teach_eq _
    obtain ⟨bv, hbv⟩ : ∃ bv, bv = decide (op = Em8.tVar) := ⟨_, rfl⟩
    have hq : ((Em.str op).toList == [118, 97, 114]) = bv := by rw [Em5.str_eq t1.1, hbv]; rfl
    have HBV : Hid (decide (op = Em8.tVar) = bv) := hbv.symm
    obtain ⟨W, hW⟩ : ∃ W, W = w.alloc (.cells #[.string (Em.str op), .int .i64 n, .slice a l.length cap] 25) := ⟨_, rfl⟩
    have hbW : Below w.heap.size w W := by rw [hW]; exact (Below.refl _ _).alloc (Nat.le_refl _) _
    have k0 : W.cell? ⟨w.heap.size, 0, none⟩ = some (.string (Em.str op)) := by rw [hW]; simp
    have k1 : W.cell? ⟨w.heap.size, 1, none⟩ = some (.int .i64 n) := by rw [hW]; simp
    have k2 : W.cell? ⟨w.heap.size, 2, none⟩ = some (.slice a l.length cap) := by rw [hW]; simp
    have hWz : w.heap.size < W.heap.size := by rw [hW]; simp
    clear ih hk t1 i1 hbv
    by_cases hkn : Em8.tkids op = (l.length : Int)
    · have hne : (Em8.tkids op == (l.length : Int)) = true := by rw [beq_iff_eq]; exact hkn
      have hne' : (Em8.tkids op != (l.length : Int)) = false := by rw [bne, hne]; rfl
      by_cases hn0 : n < 0
      · have HR : Hid (Em8.teach (.mk op n l) = false) := by
          have : ¬ 0 ≤ n := by omega
          rw [Hid, HE.out]; simp [this]
        have hnd : decide (n < 0) = true := decide_eq_true hn0
        clear hkn
        go_enter Try.func19, Try.ntmps19
        go_wp2_with fail
        rw [← hW]
        clear hW
        go_quiet ((go_at_call 32; exact Calls.quiet_of_same (rtKids_any _ _ HO.out)))
        go_wp2
        go_ret
        exact ⟨by rw [HR.out]; rfl, Em.below_drewN hbW nq⟩
      · have hnd : decide (n < 0) = false := decide_eq_false hn0
        have hn1 : 0 ≤ n := by omega
        cases bv with
        | true =>
          have HR : Hid (Em8.teach (.mk op n l) = Em8.teachs l) := by rw [Hid, HE.out, HBV.out]; simp [hkn, hn1]
          clear hkn
          go_enter Try.func19, Try.ntmps19
          go_wp2_with fail
          rw [← hW]
          clear hW
          go_quiet ((go_at_call 32; exact Calls.quiet_of_same (rtKids_any _ _ HO.out)))
          have hbl := Em.below_drewN hbW nq
          obtain ⟨V, hV⟩ : ∃ V, V = W.drewN nq := ⟨_, rfl⟩
          go_wp2
          rw [← hV]
          have hbV : Below w.heap.size w V := by rw [hV]; exact hbl
          have hc2V : V.cell? ⟨w.heap.size, 2, none⟩ = some (.slice a l.length cap) := by rw [hV]; exact k2
          have hszV : w.heap.size < V.heap.size := by rw [hV]; exact hWz
          clear hV hbl k0 k1 k2 hWz hbW
          go_loopw [3] (fun i wr => ∃ j : Nat, j ≤ l.length ∧ i = .int .i64 j ∧ Below w.heap.size w wr ∧ wr.cell? ⟨w.heap.size, 2, none⟩ = some (.slice a l.length cap) ∧ w.heap.size < wr.heap.size ∧ Hid (∀ (k : Nat) t, k < j → l[k]? = some t → Em8.teach t = true)) (fun i _ => l.length - (intOf i).toNat)
          case atStart => exact ⟨0, Nat.zero_le _, rfl, hbV, hc2V, hszV, fun k t h => by omega⟩
          case round =>
            clear hbV hc2V hszV
            obtain ⟨j, hj, rfl, hbel, hcell, hsz, HD⟩ := hrel
            by_cases hlt : j < l.length
            · obtain ⟨b, off, rfl, hb, hat⟩ := HK.out (by omega)
              obtain ⟨t, ht⟩ : ∃ t, l[j]? = some t := ⟨_, List.getElem?_eq_getElem hlt⟩
              obtain ⟨c0, c1, c2, k0, k1, k2, kn⟩ := Em8.tysAt_get l off j t hat ht
              have key : ∀ o, wr.cell? ⟨b, o, none⟩ = w.cell? ⟨b, o, none⟩ := fun o => hbel.cell (p := ⟨b, o, none⟩) hb
              rw [← key] at k0 k1 k2
              have HN : Hid (Em8.IsTy wr t (.agg #[c0, c1, c2])) := Em8.isTy_below hbel t _ kn
              have HT : Hid (l[j]? = some t) := ht
              clear key kn ht hat
              go_wp2_with fail
              refine (HI.out t (List.mem_of_getElem? HT.out) _ _ HN.out).mono ?_
              rintro e w2 ⟨rfl, hb2⟩
              have hbel1 : Below w.heap.size w w2 := hbel.trans (hb2.mono hbel.size)
              have hcell1 : w2.cell? ⟨w.heap.size, 2, none⟩ = some (.slice (some ⟨b, off, none⟩) l.length cap) := by rw [hb2.cell (p := ⟨w.heap.size, 2, none⟩) hsz]; exact hcell
              have hsz1 : w.heap.size < w2.heap.size := Nat.lt_of_lt_of_le hsz hb2.size
              clear hb2 k0 k1 k2 hcell hsz hbel
              cases hx : Em8.teach t with
              | false =>
                have HF : Hid (Em8.teachs l = false) := Em8.teachs_no HT.out hx
                go_wp2
                go_ret
                exact ⟨by rw [HR.out, HF.out]; rfl, hbel1⟩
              | true =>
                have HX : Hid (Em8.teach t = true) := hx
                go_wp2
                go_roundw
                case rel =>
                  refine ⟨j + 1, by omega, by go_num, hbel1, hcell1, hsz1, fun k t' hk ht' => ?_⟩
                  by_cases hkj : k = j
                  · subst hkj; rw [HT.out] at ht'; cases ht'; exact HX.out
                  · exact HD.out k t' (by omega) ht'
                case measure => simp [intOf]; omega
            · have HF : Hid (Em8.teachs l = true) := Em8.teachs_yes fun k t hk ht => HD.out k t (by omega) ht
              go_wp2
              go_ret
              exact ⟨by rw [HR.out, HF.out]; rfl, hbel⟩
        | false =>
          cases hz : (n == 0) with
          | false =>
            have hz' : (n != 0) = true := by rw [bne, hz]; rfl
            have HR : Hid (Em8.teach (.mk op n l) = false) := by
              have : ¬ n = 0 := by simpa using hz
              rw [Hid, HE.out, HBV.out]; simp [this]
            clear hkn
            go_enter Try.func19, Try.ntmps19
            go_wp2_with fail
            rw [← hW]
            clear hW
            go_quiet ((go_at_call 32; exact Calls.quiet_of_same (rtKids_any _ _ HO.out)))
            go_wp2
            go_ret
            exact ⟨by rw [HR.out]; rfl, Em.below_drewN hbW nq⟩
          | true =>
            have hz' : (n != 0) = false := by rw [bne, hz]; rfl
            have HR : Hid (Em8.teach (.mk op n l) = Em8.teachs l) := by
              have : n = 0 := by simpa using hz
              rw [Hid, HE.out, HBV.out]; simp [hkn, this]
            clear hkn
            go_enter Try.func19, Try.ntmps19
            go_wp2_with fail
            rw [← hW]
            clear hW
            go_quiet ((go_at_call 32; exact Calls.quiet_of_same (rtKids_any _ _ HO.out)))
            have hbl := Em.below_drewN hbW nq
            obtain ⟨V, hV⟩ : ∃ V, V = W.drewN nq := ⟨_, rfl⟩
            go_wp2
            rw [← hV]
            have hbV : Below w.heap.size w V := by rw [hV]; exact hbl
            have hc2V : V.cell? ⟨w.heap.size, 2, none⟩ = some (.slice a l.length cap) := by rw [hV]; exact k2
            have hszV : w.heap.size < V.heap.size := by rw [hV]; exact hWz
            clear hV hbl k0 k1 k2 hWz hbW
            go_loopw [3] (fun i wr => ∃ j : Nat, j ≤ l.length ∧ i = .int .i64 j ∧ Below w.heap.size w wr ∧ wr.cell? ⟨w.heap.size, 2, none⟩ = some (.slice a l.length cap) ∧ w.heap.size < wr.heap.size ∧ Hid (∀ (k : Nat) t, k < j → l[k]? = some t → Em8.teach t = true)) (fun i _ => l.length - (intOf i).toNat)
            case atStart => exact ⟨0, Nat.zero_le _, rfl, hbV, hc2V, hszV, fun k t h => by omega⟩
            case round =>
              clear hbV hc2V hszV
              obtain ⟨j, hj, rfl, hbel, hcell, hsz, HD⟩ := hrel
              by_cases hlt : j < l.length
              · obtain ⟨b, off, rfl, hb, hat⟩ := HK.out (by omega)
                obtain ⟨t, ht⟩ : ∃ t, l[j]? = some t := ⟨_, List.getElem?_eq_getElem hlt⟩
                obtain ⟨c0, c1, c2, k0, k1, k2, kn⟩ := Em8.tysAt_get l off j t hat ht
                have key : ∀ o, wr.cell? ⟨b, o, none⟩ = w.cell? ⟨b, o, none⟩ := fun o => hbel.cell (p := ⟨b, o, none⟩) hb
                rw [← key] at k0 k1 k2
                have HN : Hid (Em8.IsTy wr t (.agg #[c0, c1, c2])) := Em8.isTy_below hbel t _ kn
                have HT : Hid (l[j]? = some t) := ht
                clear key kn ht hat
                go_wp2_with fail
                refine (HI.out t (List.mem_of_getElem? HT.out) _ _ HN.out).mono ?_
                rintro e w2 ⟨rfl, hb2⟩
                have hbel1 : Below w.heap.size w w2 := hbel.trans (hb2.mono hbel.size)
                have hcell1 : w2.cell? ⟨w.heap.size, 2, none⟩ = some (.slice (some ⟨b, off, none⟩) l.length cap) := by rw [hb2.cell (p := ⟨w.heap.size, 2, none⟩) hsz]; exact hcell
                have hsz1 : w.heap.size < w2.heap.size := Nat.lt_of_lt_of_le hsz hb2.size
                clear hb2 k0 k1 k2 hcell hsz hbel
                cases hx : Em8.teach t with
                | false =>
                  have HF : Hid (Em8.teachs l = false) := Em8.teachs_no HT.out hx
                  go_wp2
                  go_ret
                  exact ⟨by rw [HR.out, HF.out]; rfl, hbel1⟩
                | true =>
                  have HX : Hid (Em8.teach t = true) := hx
                  go_wp2
                  go_roundw
                  case rel =>
                    refine ⟨j + 1, by omega, by go_num, hbel1, hcell1, hsz1, fun k t' hk ht' => ?_⟩
                    by_cases hkj : k = j
                    · subst hkj; rw [HT.out] at ht'; cases ht'; exact HX.out
                    · exact HD.out k t' (by omega) ht'
                  case measure => simp [intOf]; omega
              · have HF : Hid (Em8.teachs l = true) := Em8.teachs_yes fun k t hk ht => HD.out k t (by omega) ht
                go_wp2
                go_ret
                exact ⟨by rw [HR.out, HF.out]; rfl, hbel⟩
    · have HR : Hid (Em8.teach (.mk op n l) = false) := by rw [Hid, HE.out]; simp [hkn]
      have hne : (Em8.tkids op == (l.length : Int)) = false := by rw [beq_eq_false_iff_ne]; exact hkn
      have hne' : (Em8.tkids op != (l.length : Int)) = true := by rw [bne, hne]; rfl
      clear hkn
      go_enter Try.func19, Try.ntmps19
      go_wp2_with fail
      rw [← hW]
      clear hW
      go_quiet ((go_at_call 32; exact Calls.quiet_of_same (rtKids_any _ _ HO.out)))
      go_wp2
      go_ret
      exact ⟨by rw [HR.out]; rfl, Em.below_drewN hbW nq⟩
end Go.Proofs.Ytbiihiibebdjgaa

/- What the document's own 'Sent' answers of types. -/
import Derived.Test.YtcpimmapdhmoiaaDoorRTypC
namespace Go.Proofs.YtcpimmapdhmoiaaDoor
open Go.RowKit
set_option linter.unusedSimpArgs false

theorem tsents_no {l : List Em8.Ty} {j : Nat} {t : Em8.Ty} (h : l[j]? = some t) (hn : Em8.tsent t = false) : Em8.tsents l = false := by
  rw [Bool.eq_false_iff, Ne, Em8.tsents_iff]
  intro k
  rw [k t (List.mem_of_getElem? h)] at hn
  cases hn
theorem tsents_yes {l : List Em8.Ty} (h : ∀ (j : Nat) (t : Em8.Ty), j < l.length → l[j]? = some t → Em8.tsent t = true) : Em8.tsents l = true := by
  rw [Em8.tsents_iff]
  intro t ht
  obtain ⟨j, hj⟩ := List.mem_iff_getElem?.1 ht
  exact h j t (List.getElem?_eq_some_iff.1 hj).1 hj
theorem tsent_eq (T : Em8.Ty) : Em8.tsent T = if T.op = Em8.tVar ∨ T.op = Em8.tFun then false else Em8.tsents T.kids := by
  obtain ⟨op, n, l⟩ := T
  rw [Em8.tsent]; rfl

set_option maxRecDepth 100000 in
set_option maxHeartbeats 4000000 in
theorem rtSent_any (T : Em8.Ty) : ∀ (v : Value) (w : World), Em8.IsTy w T v →
    Calls Tryd.prog 21 #[v] w fun e w' => e = .returned (.bool (Em8.tsent T)) ∧ Below w.heap.size w w' := by
  induction T using Em8.Ty.ind with
  | h op n l ih =>
    intro v w hv
    unfold Em8.IsTy at hv
    obtain ⟨a, cap, rfl, t1, i1, hc1, hc2, hk⟩ := hv
    have HK : Hid (0 < l.length → ∃ b off, a = some ⟨b, off, none⟩ ∧ b < w.heap.size ∧ Em8.TysAt w b off l) := hk
    have HI : Hid (∀ t ∈ l, ∀ (v : Value) (w : World), Em8.IsTy w t v →
      Calls Tryd.prog 21 #[v] w fun e w' => e = .returned (.bool (Em8.tsent t)) ∧ Below w.heap.size w w') := ih
    have HE : Hid (Em8.tsent (.mk op n l) = if op = Em8.tVar ∨ op = Em8.tFun then false else Em8.tsents l) := tsent_eq _
    obtain ⟨b1, hb1⟩ : ∃ bv, bv = decide (op = Em8.tVar) := ⟨_, rfl⟩
    obtain ⟨b2, hb2⟩ : ∃ bv, bv = decide (op = Em8.tFun) := ⟨_, rfl⟩
    have hq1 : ((Em.str op).toList == [118, 97, 114]) = b1 := by rw [Em5.str_eq t1.1, hb1]; rfl
    have hq2 : ((Em.str op).toList == [102, 117, 110]) = b2 := by rw [Em5.str_eq t1.1, hb2]; rfl
    have HB : Hid (Em8.tsent (.mk op n l) = if b1 || b2 then false else Em8.tsents l) := by
      rw [Hid, HE.out, hb1, hb2]
      by_cases e1 : op = Em8.tVar <;> by_cases e2 : op = Em8.tFun <;> simp [e1, e2]
    have hbW0 : Below w.heap.size w (w.alloc (.cells #[.string (Em.str op), .int .i64 n, .slice a l.length cap] 24)) := (Below.refl _ _).alloc (Nat.le_refl _) _
    have HBW : Hid (Below w.heap.size w (w.alloc (.cells #[.string (Em.str op), .int .i64 n, .slice a l.length cap] 24))) := hbW0
    clear ih hk t1 i1 hb1 hb2 HE hbW0
    cases b1 with
    | true =>
      go_enter Tryd.func21, Tryd.ntmps21
      go_wp2
      go_ret
      exact ⟨by rw [HB.out]; rfl, HBW.out⟩
    | false =>
      cases b2 with
      | true =>
        go_enter Tryd.func21, Tryd.ntmps21
        go_wp2
        go_ret
        exact ⟨by rw [HB.out]; rfl, HBW.out⟩
      | false =>
        have HR : Hid (Em8.tsent (.mk op n l) = Em8.tsents l) := by rw [Hid, HB.out]; rfl
        go_enter Tryd.func21, Tryd.ntmps21
        go_wp2
        go_loopw [3] (fun i wr => ∃ j : Nat, j ≤ l.length ∧ i = .int .i64 j ∧ Below w.heap.size w wr ∧ wr.cell? ⟨w.heap.size, 2, none⟩ = some (.slice a l.length cap) ∧ w.heap.size < wr.heap.size ∧ Hid (∀ (k : Nat) t, k < j → l[k]? = some t → Em8.tsent t = true)) (fun i _ => l.length - (intOf i).toNat)
        case atStart => exact ⟨0, Nat.zero_le _, rfl, HBW.out, by simp, by simp, fun k t h => by omega⟩
        case round =>
          obtain ⟨j, hj, rfl, hbel, hcell, hsz, HD⟩ := hrel
          by_cases hlt : j < l.length
          · obtain ⟨b, off, rfl, hb, hat⟩ := HK.out (by omega)
            obtain ⟨t, ht⟩ : ∃ t, l[j]? = some t := ⟨_, List.getElem?_eq_getElem hlt⟩
            obtain ⟨c0, c1, c2, k0, k1, k2, kn⟩ := Em8.tysAt_get l off j t hat ht
            have key : ∀ o, wr.cell? ⟨b, o, none⟩ = w.cell? ⟨b, o, none⟩ := fun o => hbel.cell (p := ⟨b, o, none⟩) hb
            rw [← key] at k0 k1 k2
            have HN : Hid (Em8.IsTy wr t (.agg #[c0, c1, c2])) := Em8.isTy_below hbel t _ kn
            have HT : Hid (l[j]? = some t) := ht
            clear key kn ht hat
            go_wp2_with fail
            refine (HI.out t (List.mem_of_getElem? HT.out) _ _ HN.out).mono ?_
            rintro e w2 ⟨rfl, hb2⟩
            have hbel1 : Below w.heap.size w w2 := hbel.trans (hb2.mono hbel.size)
            have hcell1 : w2.cell? ⟨w.heap.size, 2, none⟩ = some (.slice (some ⟨b, off, none⟩) l.length cap) := by rw [hb2.cell (p := ⟨w.heap.size, 2, none⟩) hsz]; exact hcell
            have hsz1 : w.heap.size < w2.heap.size := Nat.lt_of_lt_of_le hsz hb2.size
            clear hb2 k0 k1 k2 hcell hsz hbel
            cases hx : Em8.tsent t with
            | false =>
              have HF : Hid (Em8.tsents l = false) := tsents_no HT.out hx
              go_wp2
              go_ret
              exact ⟨by rw [HR.out, HF.out]; rfl, hbel1⟩
            | true =>
              have HX : Hid (Em8.tsent t = true) := hx
              go_wp2
              go_roundw
              case rel =>
                refine ⟨j + 1, by omega, by go_num, hbel1, hcell1, hsz1, fun k t' hk ht' => ?_⟩
                by_cases hkj : k = j
                · subst hkj; rw [HT.out] at ht'; cases ht'; exact HX.out
                · exact HD.out k t' (by omega) ht'
              case measure => simp [intOf]; omega
          · have HF : Hid (Em8.tsents l = true) := tsents_yes fun k t hk ht => HD.out k t (by omega) ht
            go_wp2
            go_ret
            exact ⟨by rw [HR.out, HF.out]; rfl, hbel⟩
end Go.Proofs.YtcpimmapdhmoiaaDoor

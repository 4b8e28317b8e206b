/- What the document's own 'Rows' answers: are two rows of texts one? -/
import Derived.Test.YtlniokcekjemdaaDoorStrs
import Derived.Test.YtlniokcekjemdaaDoorMath5
import Derived.Deep.QuietTactic
import Derived.BigQuiet
namespace Go.Proofs.YtlniokcekjemdaaDoor
open Go.RowKit
set_option linter.unusedSimpArgs false

set_option maxRecDepth 100000 in
set_option maxHeartbeats 2000000 in
theorem rRows_any (u v : Value) (l m : List (List Int)) (w : World) (hu : IsStrs w u l) (hv : IsStrs w v m) :
    Calls Tryd.prog 14 #[u, v] w fun e w' => e = .returned (.bool (decide (l = m))) ∧ Below w.heap.size w w' := by
  have hlu := hu.len
  have hlv := hv.len
  by_cases hl : l.length = m.length
  · have hl' : ((l.length : Int) != (m.length : Int)) = false := by rw [hl]; simp
    have hlI : ((l.length : Int) == (m.length : Int)) = true := by rw [hl]; simp
    by_cases hp : 0 < l.length
    · obtain ⟨ba, oa, ca, rfl, -, -, -, hca⟩ := hu.plain hp
      obtain ⟨bb, ob, cb, rfl, -, -, -, hcb⟩ := hv.plain (by omega)
      have HCA : Hid (∀ j t, l[j]? = some t → w.cell? ⟨ba, oa + j, none⟩ = some (.string (Em.str t))) := hca
      have HCB : Hid (∀ j t, m[j]? = some t → w.cell? ⟨bb, ob + j, none⟩ = some (.string (Em.str t))) := hcb
      have HTA : Hid (∀ t ∈ l, Em5.Txt t) := hu.txt
      have HTB : Hid (∀ t ∈ m, Em5.Txt t) := hv.txt
      have HL : Hid (l.length = m.length) := hl
      clear hca hcb hl hu hv
      go_enter Tryd.func14, Tryd.ntmps14
      go_wp2
      go_loopw [5] (fun i wr => ∃ k q : Nat, k ≤ l.length ∧ i = .int .i64 k ∧ wr = w.drewN q ∧ Hid (∀ j, j < k → l[j]? = m[j]?)) (fun i _ => l.length - (intOf i).toNat)
      case atStart => exact ⟨0, 0, Nat.zero_le _, rfl, rfl, fun j h => by omega⟩
      case round =>
        obtain ⟨k, q, hk, rfl, rfl, HD⟩ := hrel
        by_cases hlt : k < l.length
        · obtain ⟨s, hs⟩ : ∃ s, l[k]? = some s := ⟨_, List.getElem?_eq_getElem hlt⟩
          obtain ⟨t, ht⟩ : ∃ t, m[k]? = some t := ⟨_, List.getElem?_eq_getElem (by have := HL.out; omega)⟩
          have c1 := HCA.out k s hs
          have d1 := HCB.out k t ht
          have hkm : (k : Int) < (m.length : Int) := by have := HL.out; omega
          have hkl : (k : Int) < (l.length : Int) := by omega
          have hk0 : (0 : Int) ≤ (k : Int) := by omega
          have hq := (Em.isStr_str (HTA.out s (List.mem_of_getElem? hs)).1).beq (Em.isStr_str (HTB.out t (List.mem_of_getElem? ht)).1)
          have HNE : s ≠ t → Hid (decide (l = m) = false) := fun hne => decide_eq_false (fun e => by rw [e, ht] at hs; exact hne (by simpa using hs.symm))
          have HEQ : Hid (s = t → ∀ j, j < k + 1 → l[j]? = m[j]?) := fun e j hj => by
            by_cases hjk : j = k
            · subst hjk; rw [hs, ht, e]
            · exact HD.out j (by omega)
          clear hs ht
          by_cases e1 : s = t
          · rw [decide_eq_true e1] at hq
            have HT : Hid (∀ j, j < k + 1 → l[j]? = m[j]?) := HEQ.out e1
            clear HEQ HNE e1
            go_wp2_with fail
            go_quiet (fail)
            go_wp2
            go_roundw
            case rel => exact ⟨k + 1, q + nq, by omega, by go_num, rfl, HT⟩
            case measure => simp [intOf]; omega
          · rw [decide_eq_false e1] at hq
            have HF := HNE e1
            clear HEQ HNE e1
            go_wp2_with fail
            go_quiet (fail)
            go_wp2
            go_ret
            exact ⟨by rw [HF.out]; rfl, Em.below_drewN (Em.below_drewN (Below.refl _ _) q) nq⟩
        · have HF : Hid (decide (l = m) = true) := by
            refine decide_eq_true (List.ext_getElem? fun j => ?_)
            by_cases hj : j < l.length
            · exact HD.out j (by omega)
            · rw [List.getElem?_eq_none (by omega), List.getElem?_eq_none (by have := HL.out; omega)]
          go_wp2
          go_ret
          exact ⟨by rw [HF.out]; rfl, Em.below_drewN (Below.refl _ _) q⟩
    · have hl0 : l = [] := List.length_eq_zero_iff.1 (by omega)
      have hm0 : m = [] := List.length_eq_zero_iff.1 (by omega)
      subst hl0
      subst hm0
      obtain ⟨a, ca, rfl⟩ := hu.empty
      obtain ⟨b, cb, rfl⟩ := hv.empty
      clear hu hv hl' hlI
      go_enter Tryd.func14, Tryd.ntmps14
      go_wp2
      refine wp_loop_rounds 1 ?_
      rw [rounds_succ]
      go_wp2
      go_ret
      exact ⟨rfl, Below.refl _ _⟩
  · have hl' : ((l.length : Int) != (m.length : Int)) = true := by rw [bne_iff_ne]; omega
    have hlI : ((l.length : Int) == (m.length : Int)) = false := by rw [beq_eq_false_iff_ne]; omega
    have HF : Hid (decide (l = m) = false) := decide_eq_false (fun e => hl (by rw [e]))
    obtain ⟨a, ca, rfl, -⟩ := hu
    obtain ⟨b, cb, rfl, -⟩ := hv
    clear hl
    go_enter Tryd.func14, Tryd.ntmps14
    go_wp2
    go_ret
    exact ⟨by rw [HF.out]; rfl, Below.refl _ _⟩
end Go.Proofs.YtlniokcekjemdaaDoor

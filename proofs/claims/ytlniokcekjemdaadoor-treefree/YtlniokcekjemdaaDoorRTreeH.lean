/- What the document's own 'Has' answers. -/
import Derived.Test.YtlniokcekjemdaaDoorStrs
import Derived.Test.YtlniokcekjemdaaDoorMath5
import Derived.Deep.QuietTactic
import Derived.BigQuiet
namespace Go.Proofs.YtlniokcekjemdaaDoor
open Go.RowKit
set_option linter.unusedSimpArgs false

set_option maxRecDepth 100000 in
set_option maxHeartbeats 1000000 in
theorem rHas_any (v : Value) (l : List (List Int)) (x : List Int) (w : World) (hv : IsStrs w v l) (hx : Em5.Txt x) :
    Calls Tryd.prog 36 #[v, .string (Em.str x)] w fun e w' => e = .returned (.bool (decide (x ∈ l))) ∧ w' = w := by
  have hlen := hv.len
  by_cases hp : 0 < l.length
  · obtain ⟨b, off, cap, rfl, -, -, -, hc⟩ := hv.plain hp
    have HC : Hid (∀ j t, l[j]? = some t → w.cell? ⟨b, off + j, none⟩ = some (.string (Em.str t))) := hc
    have HT : Hid (∀ t ∈ l, Em5.Txt t) := hv.txt
    clear hc hv
    go_enter Tryd.func36, Tryd.ntmps36
    go_wp2
    go_loop [5] (fun i => ∃ k : Nat, k ≤ l.length ∧ i = .int .i64 k ∧ Hid (∀ j t, j < k → l[j]? = some t → t ≠ x)) (fun i => l.length - (intOf i).toNat)
    case atStart => exact ⟨0, Nat.zero_le _, rfl, fun j t h => by omega⟩
    case round =>
      obtain ⟨k, hk, rfl, HD⟩ := hrel
      by_cases hlt : k < l.length
      · obtain ⟨t, ht⟩ : ∃ t, l[k]? = some t := ⟨_, List.getElem?_eq_getElem hlt⟩
        have hcell := HC.out k t ht
        have hq := (Em.isStr_str (HT.out t (List.mem_of_getElem? ht)).1).beq (Em.isStr_str hx.1)
        have HTT : Hid (l[k]? = some t) := ht
        clear ht
        by_cases he : t = x
        · rw [decide_eq_true he] at hq
          have HF : Hid (decide (x ∈ l) = true) := decide_eq_true (by rw [← he]; exact List.mem_of_getElem? HTT.out)
          clear he
          go_wp2
          go_ret
          exact ⟨by rw [HF.out]; rfl, rfl⟩
        · rw [decide_eq_false he] at hq
          have HE : Hid (t ≠ x) := he
          clear he
          go_wp2
          go_round
          case rel =>
            refine ⟨k + 1, by omega, by go_num, fun j t' hj ht' => ?_⟩
            by_cases hjk : j = k
            · subst hjk; rw [HTT.out] at ht'; cases ht'; exact HE.out
            · exact HD.out j t' (by omega) ht'
          case measure => simp [intOf]; omega
      · have HF : Hid (decide (x ∈ l) = false) := by
          refine decide_eq_false fun hm => ?_
          obtain ⟨j, hj, he⟩ := List.getElem_of_mem hm
          exact HD.out j x (by omega) (by rw [List.getElem?_eq_getElem hj, he]) rfl
        go_wp2
        go_ret
        exact ⟨by rw [HF.out]; rfl, rfl⟩
  · have hl0 : l = [] := List.length_eq_zero_iff.1 (by omega)
    subst hl0
    obtain ⟨a, cap, rfl⟩ := hv.empty
    clear hv
    go_enter Tryd.func36, Tryd.ntmps36
    go_wp2
    refine wp_loop_rounds 1 ?_
    rw [rounds_succ]
    go_wp2
    go_ret
    exact ⟨rfl, rfl⟩
end Go.Proofs.YtlniokcekjemdaaDoor

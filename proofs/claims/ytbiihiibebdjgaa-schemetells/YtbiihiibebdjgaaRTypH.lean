/- What the document's own 'Has' (a number among others) answers. -/
import Derived.Test.YtbiihiibebdjgaaInts
import Derived.Deep.QuietTactic
import Derived.BigQuiet
namespace Go.Proofs.Ytbiihiibebdjgaa
open Go.RowKit
set_option linter.unusedSimpArgs false

set_option maxRecDepth 100000 in
set_option maxHeartbeats 1000000 in
theorem rtHas_any (v : Value) (l : List Int) (x : Int) (w : World) (hv : IsInts w v l) :
    Calls Try.prog 18 #[v, .int .i64 x] w fun e w' => e = .returned (.bool (decide (x ∈ l))) ∧ w' = w := by
  have hlen := hv.len
  by_cases hp : 0 < l.length
  · obtain ⟨b, off, cap, rfl, -, -, -, hc⟩ := hv.plain hp
    have HC : Hid (∀ j t, l[j]? = some t → w.cell? ⟨b, off + j, none⟩ = some (.int .i64 t)) := hc
    clear hc hv
    go_enter Try.func18, Try.ntmps18
    go_wp2
    go_loop [5] (fun i => ∃ k : Nat, k ≤ l.length ∧ i = .int .i64 k ∧ Hid (∀ j t, j < k → l[j]? = some t → t ≠ x)) (fun i => l.length - (intOf i).toNat)
    case atStart => exact ⟨0, Nat.zero_le _, rfl, fun j t h => by omega⟩
    case round =>
      obtain ⟨k, hk, rfl, HD⟩ := hrel
      by_cases hlt : k < l.length
      · obtain ⟨t, ht⟩ : ∃ t, l[k]? = some t := ⟨_, List.getElem?_eq_getElem hlt⟩
        have hcell := HC.out k t ht
        have HTT : Hid (l[k]? = some t) := ht
        clear ht
        by_cases he : t = x
        · have HF : Hid (decide (x ∈ l) = true) := decide_eq_true (by rw [← he]; exact List.mem_of_getElem? HTT.out)
          have hq : (t == x) = true := by rw [beq_iff_eq]; exact he
          clear he
          go_wp2
          go_ret
          exact ⟨by rw [HF.out]; rfl, rfl⟩
        · have HE : Hid (t ≠ x) := he
          have hq : (t == x) = false := by rw [beq_eq_false_iff_ne]; exact he
          clear he
          go_wp2
          go_round
          case rel =>
            refine ⟨k + 1, by omega, by go_num, fun j t' hj ht' => ?_⟩
            by_cases hjk : j = k
            · subst hjk; rw [HTT.out] at ht'; cases ht'; exact HE.out
            · exact HD.out j t' (by omega) ht'
          case measure => simp [intOf]; omega
      · have HF : Hid (decide (x ∈ l) = false) := by
          refine decide_eq_false fun hm => ?_
          obtain ⟨j, hj, he⟩ := List.getElem_of_mem hm
          exact HD.out j x (by omega) (by rw [List.getElem?_eq_getElem hj, he]) rfl
        go_wp2
        go_ret
        exact ⟨by rw [HF.out]; rfl, rfl⟩
  · have hl0 : l = [] := List.length_eq_zero_iff.1 (by omega)
    subst hl0
    obtain ⟨a, cap, rfl⟩ := hv.empty
    clear hv
    go_enter Try.func18, Try.ntmps18
    go_wp2
    refine wp_loop_rounds 1 ?_
    rw [rounds_succ]
    go_wp2
    go_ret
    exact ⟨rfl, rfl⟩
end Go.Proofs.Ytbiihiibebdjgaa

/- What the document's own 'Name' answers: is it one whole name? -/
import Derived.Test.YtlniokcekjemdaaDoorRLexN
namespace Go.Proofs.YtlniokcekjemdaaDoor
open Go.RowKit
set_option linter.unusedSimpArgs false

set_option maxRecDepth 100000 in
set_option maxHeartbeats 1000000 in
theorem rName_any (s : ByteArray) (L : List Int) (w : World) (hs : Em.IsStr s L) (hm : s.size ≤ 9223372036854775807) :
    Calls Tryd.prog 38 #[.string s] w fun e w' => e = .returned (.bool (Em4.nameOk L)) ∧ Below w.heap.size w w' := by
  have HS : Hid (Em.IsStr s L) := hs
  have HZ : Hid (s.size = L.length) := hs.size
  cases L with
  | nil =>
    have hz : s.size = 0 := hs.size
    have hz' : ((s.size : Int) == 0) = true := by rw [hz]; rfl
    clear hs hz
    go_enter Tryd.func38, Tryd.ntmps38
    go_wp2_with fail
    go_ret
    exact ⟨rfl, Below.refl _ _⟩
  | cons c r =>
    have hp : 1 ≤ s.size := by rw [hs.size]; simp
    have hp' : 0 < s.size := hp
    have hz' : ((s.size : Int) == 0) = false := by rw [beq_eq_false_iff_ne]; omega
    have hch := hs.get 0 hp
    simp only [List.getElem?_cons_zero, Option.getD_some] at hch
    clear hs
    cases h1 : Em4.ltr c with
    | false =>
      have HR : Hid (Em4.nameOk (c :: r) = false) := by simp [Hid, Em4.nameOk, h1]
      go_enter Tryd.func38, Tryd.ntmps38
      go_wp2_with (go_at_call 45; refine (rsmall_any _ _).mono ?_; rintro e w' ⟨rfl, rfl⟩)
      go_ret
      exact ⟨by rw [HR.out]; rfl, Below.refl _ _⟩
    | true =>
      go_enter Tryd.func38, Tryd.ntmps38
      go_wp2_with (go_at_call 45; refine (rsmall_any _ _).mono ?_; rintro e w' ⟨rfl, rfl⟩)
      refine (rname_any _ _ _ HS.out hm hp).mono ?_
      rintro e w1 ⟨⟨k, t, n, m, rfl, hr⟩, hb⟩
      have HR : Hid (Em4.nameOk (c :: r) = (decide (m = (s.size : Int)) && decide (k = 1))) := by
        have hz := HZ.out
        have h0 : s.size ≠ 0 := by omega
        unfold Hid Em4.nameOk
        simp only [h1, Bool.true_and]
        cases hn : Em4.nameAt (c :: r) with
        | none =>
          rw [hn] at hr
          simp only at hr ⊢
          have : ¬ m = (s.size : Int) := by omega
          simp [this]
        | some q =>
          obtain ⟨k', t', n', m'⟩ := q
          rw [hn] at hr
          obtain ⟨rfl, -, -, rfl⟩ := hr
          simp only
          rw [Bool.and_comm]
          congr 1
          rw [decide_eq_decide, hz]
          omega
      clear hr
      by_cases hms : m = (s.size : Int)
      · have hms' : (m == (s.size : Int)) = true := by rw [beq_iff_eq]; exact hms
        have HR2 : Hid (Em4.nameOk (c :: r) = (k == 1)) := by rw [Hid, HR.out, decide_eq_true hms, Bool.true_and]; rfl
        clear hms
        go_wp2
        all_goals
          go_ret
          exact ⟨by rw [HR2.out]; first | rfl | (simp [*]; done), hb.alloc hb.size _⟩
      · have hms' : (m == (s.size : Int)) = false := by rw [beq_eq_false_iff_ne]; exact hms
        have HR2 : Hid (Em4.nameOk (c :: r) = false) := by rw [Hid, HR.out, decide_eq_false hms, Bool.false_and]
        clear hms
        go_wp2
        all_goals
          go_ret
          exact ⟨by rw [HR2.out]; rfl, hb.alloc hb.size _⟩
end Go.Proofs.YtlniokcekjemdaaDoor

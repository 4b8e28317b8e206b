/- What lex.text answers. -/
import Derived.Test.YtgojjknbingfpaaDoorLexD
namespace Go.Proofs.YtgojjknbingfpaaDoor
open Go.RowKit
set_option linter.unusedSimpArgs false

theorem prn_not34 {c : Int} (h : Em4.prn c = true) : c ≠ 34 := by
  intro e; subst e; simp [Em4.prn] at h
theorem strAt_eq (c : Int) (r : List Int) : Em4.strAt (c :: r) = if 40 < Em4.span Em4.prn r ∨ Em4.span Em4.prn r = r.length ∨ r[Em4.span Em4.prn r]?.getD 0 ≠ 34 then none else some (3, r.take (Em4.span Em4.prn r), 0, Em4.span Em4.prn r + 2) := by
  obtain ⟨n, hn⟩ : ∃ n, n = Em4.span Em4.prn r := ⟨_, rfl⟩
  obtain ⟨m, hm⟩ : ∃ m, m = Em4.span (fun c => !decide (c = 34)) r := ⟨_, rfl⟩
  have hnl := Em4.span_le Em4.prn r
  have hml := Em4.span_le (fun c => !decide (c = 34)) r
  rw [← hn] at hnl ⊢
  rw [← hm] at hml
  unfold Em4.strAt
  simp only [List.drop_succ_cons, List.drop_zero, List.length_cons, Nat.add_sub_cancel]
  rw [← hm]
  by_cases h : 40 < n ∨ n = r.length ∨ r[n]?.getD 0 ≠ 34
  · rw [if_pos h]
    by_cases h2 : m = r.length ∨ Em4.textOk (r.take m) = false
    · rw [if_pos h2]
    · exfalso
      have h3 : m < r.length := by omega
      have h4 : Em4.textOk (r.take m) = true := by
        cases he : Em4.textOk (r.take m) with
        | true => rfl
        | false => exact absurd (Or.inr he) h2
      unfold Em4.textOk at h4
      rw [Bool.and_eq_true, List.all_eq_true, decide_eq_true_eq, List.length_take] at h4
      have h5 := Em4.span_stop (fun c => !decide (c = 34)) r (by rw [← hm]; exact h3)
      rw [← hm] at h5
      have h6 : r[m]?.getD 0 = 34 := by simpa using h5
      have h7 : n = m := by
        rw [hn]
        refine Em4.span_eq hml (fun j hj => ?_) (fun _ => by rw [h6]; decide)
        have hj' : j < r.length := by omega
        rw [List.getElem?_eq_getElem hj', Option.getD_some]
        exact h4.1 _ (by rw [List.mem_take_iff_getElem]; exact ⟨j, by omega, rfl⟩)
      rw [h7, h6] at h
      omega
  · rw [if_neg h]
    have h8 : n ≤ 40 ∧ n < r.length ∧ r[n]?.getD 0 = 34 := by
      refine ⟨by omega, by omega, ?_⟩
      exact Classical.byContradiction fun e => h (Or.inr (Or.inr e))
    have hall : ∀ j, j < n → Em4.prn (r[j]?.getD 0) = true := fun j hj => Em4.span_all Em4.prn r j (by rw [← hn]; exact hj)
    have h9 : m = n := by
      rw [hm]
      exact Em4.span_eq hnl (fun j hj => by simpa using prn_not34 (hall j hj)) (fun _ => by rw [h8.2.2]; decide)
    have h10 : Em4.textOk (r.take n) = true := by
      rw [text_yes]
      · simp; omega
      · intro j hj
        rw [List.length_take] at hj
        rw [List.getElem?_take, if_pos (by omega)]
        exact hall j (by omega)
    rw [h9, if_neg (by rw [h10]; simp; omega)]

set_option maxRecDepth 100000 in
set_option maxHeartbeats 1000000 in
theorem ltext_any (s : ByteArray) (c : Int) (r : List Int) (w : World) (hs : Em.IsStr s (c :: r)) (hm : s.size ≤ 9223372036854775800) :
    Calls Tryd.prog 51 #[.string s] w fun e w' => LexGot e (Em4.strAt (c :: r)) ∧ Below w.heap.size w w' := by
  have h1s : 1 ≤ s.size := by rw [hs.size]; simp
  have hI : Em.IsStr (s.extract 1 s.size) r := by
    have := hs.extract 1 s.size
    rw [List.drop_succ_cons, List.drop_zero, List.take_of_length_le (by have := hs.size; simp at this; omega)] at this
    exact this
  obtain ⟨x, hx⟩ : ∃ x, x = s.extract 1 s.size := ⟨_, rfl⟩
  rw [← hx] at hI
  have hxe : s.extract 1 s.size = x := hx.symm
  clear hx
  have hxs : x.size + 1 = s.size := by rw [hI.size, hs.size]; simp
  obtain ⟨n, hn⟩ : ∃ n, n = Em4.span Em4.prn r := ⟨_, rfl⟩
  have hR := strAt_eq c r
  rw [← hn] at hR
  have hnl : n ≤ x.size := by rw [hI.size, hn]; exact Em4.span_le _ _
  have HI : Hid (Em.IsStr x r) := hI
  have HX : Hid (Em.IsStr (x.extract 0 n) (r.take n)) := by simpa [Hid] using hI.extract 0 n
  have HNE : Hid (Em4.span Em4.prn r = n) := hn.symm
  have HXS : Hid (x.size = r.length) := hI.size
  have HR : Hid (Em4.strAt (c :: r) = if 40 < n ∨ n = r.length ∨ r[n]?.getD 0 ≠ 34 then none else some (3, r.take n, 0, n + 2)) := hR
  have hget : ∀ h : n < x.size, ((x[n]'h).toNat : Int) = r[n]?.getD 0 := fun h => hI.get n h
  obtain ⟨d, hd⟩ : ∃ d, d = r[n]?.getD 0 := ⟨_, rfl⟩
  rw [← hd] at HR hget
  clear hR hI hn hs hd
  go_enter Tryd.func51, Tryd.ntmps51
  go_wp2_with fail
  refine (lspan_text _ r _ HI.out (by omega)).mono ?_
  rintro e w1 ⟨rfl, rfl⟩
  rw [HNE.out]
  by_cases h40 : 40 < n
  · have HV : Hid (Em4.strAt (c :: r) = none) := by rw [Hid, HR.out, if_pos (Or.inl h40)]
    clear hget
    go_wp2
    refine bodyPost_ret (v := .tuple #[tokV 0 ⟨#[]⟩ 0 0, .int .i64 0]) (by simp [results, Tryd.results51, go_sem]) rfl ⟨?_, ?_⟩
    · rw [HV.out]; exact ⟨_, _, _, _, rfl, rfl⟩
    · first | exact Em.below_set4 ((Below.refl _ _).alloc (Nat.le_refl _) _) (Nat.le_refl _) _ _ _ _ | exact (Below.refl _ _).alloc (Nat.le_refl _) _
  by_cases hnx : n = x.size
  · have HV : Hid (Em4.strAt (c :: r) = none) := by rw [Hid, HR.out, if_pos (Or.inr (Or.inl (by rw [← HXS.out]; exact hnx)))]
    have hq : ((n : Int) == (x.size : Int)) = true := by rw [hnx]; simp
    clear hget hnx
    go_wp2
    refine bodyPost_ret (v := .tuple #[tokV 0 ⟨#[]⟩ 0 0, .int .i64 0]) (by simp [results, Tryd.results51, go_sem]) rfl ⟨?_, ?_⟩
    · rw [HV.out]; exact ⟨_, _, _, _, rfl, rfl⟩
    · first | exact Em.below_set4 ((Below.refl _ _).alloc (Nat.le_refl _) _) (Nat.le_refl _) _ _ _ _ | exact (Below.refl _ _).alloc (Nat.le_refl _) _
  have hlt : n < x.size := by omega
  have hq : ((n : Int) == (x.size : Int)) = false := by rw [beq_eq_false_iff_ne]; omega
  have hch := hget hlt
  clear hget
  by_cases h34 : d = 34
  · have HV : Hid (Em4.strAt (c :: r) = some (3, r.take n, 0, n + 2)) := by rw [Hid, HR.out, if_neg]; have := HXS.out; omega
    have hq2 : (d == 34) = true := by simpa using h34
    have hq3 : (d != 34) = false := by simpa using h34
    clear h34
    go_wp2
    refine bodyPost_ret (v := .tuple #[tokV 3 (x.extract 0 n) 0 0, .int .i64 ((n : Int) + 2)]) (by simp [results, Tryd.results51, go_sem]) rfl ⟨?_, ?_⟩
    · rw [HV.out]; exact ⟨_, _, _, ((n + 2 : Nat)), by simp, rfl, HX.out, rfl, rfl⟩
    · first | exact Em.below_set4 ((Below.refl _ _).alloc (Nat.le_refl _) _) (Nat.le_refl _) _ _ _ _ | exact (Below.refl _ _).alloc (Nat.le_refl _) _
  · have HV : Hid (Em4.strAt (c :: r) = none) := by rw [Hid, HR.out, if_pos (Or.inr (Or.inr h34))]
    have hq2 : (d == 34) = false := by simpa using h34
    have hq3 : (d != 34) = true := by simpa using h34
    clear h34
    go_wp2
    refine bodyPost_ret (v := .tuple #[tokV 0 ⟨#[]⟩ 0 0, .int .i64 0]) (by simp [results, Tryd.results51, go_sem]) rfl ⟨?_, ?_⟩
    · rw [HV.out]; exact ⟨_, _, _, _, rfl, rfl⟩
    · first | exact Em.below_set4 ((Below.refl _ _).alloc (Nat.le_refl _) _) (Nat.le_refl _) _ _ _ _ | exact (Below.refl _ _).alloc (Nat.le_refl _) _
end Go.Proofs.YtgojjknbingfpaaDoor

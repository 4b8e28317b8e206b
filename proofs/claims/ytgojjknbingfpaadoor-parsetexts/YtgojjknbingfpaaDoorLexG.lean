/- What lex.first answers: the token that stands at the head. -/
import Derived.Test.YtgojjknbingfpaaDoorLexF
namespace Go.Proofs.YtgojjknbingfpaaDoor
open Go.RowKit
set_option linter.unusedSimpArgs false

set_option maxRecDepth 100000 in
set_option maxHeartbeats 2000000 in
theorem lfirst_any (s : ByteArray) (c : Int) (r : List Int) (w : World) (hs : Em.IsStr s (c :: r)) (hm : s.size ≤ 9223372036854775800) (hg : IsSigns w) :
    Calls Tryd.prog 28 #[.string s] w fun e w' => LexGot e (Em4.tokAt (c :: r)) ∧ Below w.heap.size w w' := by
  have HS : Hid (Em.IsStr s (c :: r)) := hs
  have hp : 1 ≤ s.size := by rw [hs.size]; simp
  have hch := hs.get 0 hp
  simp only [List.getElem?_cons_zero, Option.getD_some] at hch
  have hp' : 0 < s.size := hp
  have hbel : Below w.heap.size w (w.alloc (.cells #[.int .i64 0, .string ⟨#[]⟩, .int .i64 0, .int .i64 0] 46)) := (Below.refl _ _).alloc (Nat.le_refl _) _
  have HG : Hid (IsSigns w) := hg
  clear hs hg
  cases h1 : Em4.ltr c with
  | true =>
    have HR : Hid (Em4.tokAt (c :: r) = Em4.nameAt (c :: r)) := by simp [Hid, Em4.tokAt, h1]
    go_enter Tryd.func28, Tryd.ntmps28
    go_wp2_with (first | (go_at_call 47; refine (lletter_any _ _).mono ?_; rintro e w' ⟨rfl, rfl⟩))
    refine (lname_any _ _ _ _ HS.out (by omega) h1).mono ?_
    rintro e w1 ⟨⟨k, t, n, m, rfl, hr⟩, hb⟩
    obtain ⟨hc, hf⟩ := Em.bcell hb
    have hz : w.heap.size < w1.heap.size := by have := hb.size; simp at this; omega
    have hbel1 : Below w.heap.size w w1 := hbel.trans (hb.mono hbel.size)
    have HM : Hid (match Em4.nameAt (c :: r) with | none => m = 0 | some (k', t', n', m') => k = k' ∧ Em.IsStr t t' ∧ n = n' ∧ m = m') := hr
    clear hb hr hbel
    go_wp2
    refine bodyPost_ret (v := .tuple #[tokV k t n 0, .int .i64 m]) (by simp [results, Tryd.results28, go_sem, hc, hz]) rfl ⟨?_, ?_⟩
    · rw [HR.out]; exact ⟨_, _, _, _, rfl, HM.out⟩
    · exact Em.below_set4 hbel1 (Nat.le_refl _) _ _ _ _
  | false =>
    cases h2 : Em4.dgt c with
    | true =>
      have HR : Hid (Em4.tokAt (c :: r) = Em4.numAt (c :: r)) := by simp [Hid, Em4.tokAt, h1, h2]
      go_enter Tryd.func28, Tryd.ntmps28
      go_wp2_with (first | (go_at_call 47; refine (lletter_any _ _).mono ?_; rintro e w' ⟨rfl, rfl⟩) | (go_at_call 49; refine (ldigit_any _ _).mono ?_; rintro e w' ⟨rfl, rfl⟩))
      refine (lnumber_any _ _ _ _ HS.out (by omega)).mono ?_
      rintro e w1 ⟨⟨k, t, n, m, rfl, hr⟩, hb⟩
      obtain ⟨hc, hf⟩ := Em.bcell hb
      have hz : w.heap.size < w1.heap.size := by have := hb.size; simp at this; omega
      have hbel1 : Below w.heap.size w w1 := hbel.trans (hb.mono hbel.size)
      have HM : Hid (match Em4.numAt (c :: r) with | none => m = 0 | some (k', t', n', m') => k = k' ∧ Em.IsStr t t' ∧ n = n' ∧ m = m') := hr
      clear hb hr hbel
      go_wp2
      refine bodyPost_ret (v := .tuple #[tokV k t n 0, .int .i64 m]) (by simp [results, Tryd.results28, go_sem, hc, hz]) rfl ⟨?_, ?_⟩
      · rw [HR.out]; exact ⟨_, _, _, _, rfl, HM.out⟩
      · exact Em.below_set4 hbel1 (Nat.le_refl _) _ _ _ _
    | false =>
      by_cases h34 : c = 34
      · have HR : Hid (Em4.tokAt (c :: r) = Em4.strAt (c :: r)) := by simp only [Hid, Em4.tokAt, h1, h2]; simp [h34]
        have h34' : (c == 34) = true := by simpa using h34
        clear h34
        go_enter Tryd.func28, Tryd.ntmps28
        go_wp2_with (first | (go_at_call 47; refine (lletter_any _ _).mono ?_; rintro e w' ⟨rfl, rfl⟩) | (go_at_call 49; refine (ldigit_any _ _).mono ?_; rintro e w' ⟨rfl, rfl⟩))
        refine (ltext_any _ _ _ _ HS.out hm).mono ?_
        rintro e w1 ⟨⟨k, t, n, m, rfl, hr⟩, hb⟩
        obtain ⟨hc, hf⟩ := Em.bcell hb
        have hz : w.heap.size < w1.heap.size := by have := hb.size; simp at this; omega
        have hbel1 : Below w.heap.size w w1 := hbel.trans (hb.mono hbel.size)
        have HM : Hid (match Em4.strAt (c :: r) with | none => m = 0 | some (k', t', n', m') => k = k' ∧ Em.IsStr t t' ∧ n = n' ∧ m = m') := hr
        clear hb hr hbel
        go_wp2
        refine bodyPost_ret (v := .tuple #[tokV k t n 0, .int .i64 m]) (by simp [results, Tryd.results28, go_sem, hc, hz]) rfl ⟨?_, ?_⟩
        · rw [HR.out]; exact ⟨_, _, _, _, rfl, HM.out⟩
        · exact Em.below_set4 hbel1 (Nat.le_refl _) _ _ _ _
      · have HR : Hid (Em4.tokAt (c :: r) = Em4.sgnAt (c :: r)) := by simp only [Hid, Em4.tokAt, h1, h2]; simp [h34]
        have h34' : (c == 34) = false := by simpa using h34
        clear h34
        go_enter Tryd.func28, Tryd.ntmps28
        go_wp2_with (first | (go_at_call 47; refine (lletter_any _ _).mono ?_; rintro e w' ⟨rfl, rfl⟩) | (go_at_call 49; refine (ldigit_any _ _).mono ?_; rintro e w' ⟨rfl, rfl⟩))
        refine (lsign_any _ _ _ HS.out (HG.out.below hbel HG.out.lt)).mono ?_
        rintro e w1 ⟨⟨k, t, n, m, rfl, hr⟩, hb⟩
        obtain ⟨hc, hf⟩ := Em.bcell hb
        have hz : w.heap.size < w1.heap.size := by have := hb.size; simp at this; omega
        have hbel1 : Below w.heap.size w w1 := hbel.trans (hb.mono hbel.size)
        have HM : Hid (match Em4.sgnAt (c :: r) with | none => m = 0 | some (k', t', n', m') => k = k' ∧ Em.IsStr t t' ∧ n = n' ∧ m = m') := hr
        clear hb hr hbel
        go_wp2
        refine bodyPost_ret (v := .tuple #[tokV k t n 0, .int .i64 m]) (by simp [results, Tryd.results28, go_sem, hc, hz]) rfl ⟨?_, ?_⟩
        · rw [HR.out]; exact ⟨_, _, _, _, rfl, HM.out⟩
        · exact Em.below_set4 hbel1 (Nat.le_refl _) _ _ _ _
end Go.Proofs.YtgojjknbingfpaaDoor

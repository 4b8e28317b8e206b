/- What lex's small functions answer: isBlank, isLetter, isDigit, isOfName, isOfText; span, of any of them. -/
import Derived.Test.YtoekhejpompjlaaDoorRLexM1
namespace Go.Proofs.YtoekhejpompjlaaDoor
open Go.RowKit
set_option linter.unusedSimpArgs false

set_option maxHeartbeats 400000 in
theorem lletter_any (c : Int) (w : World) : Calls Tryd.prog 83 #[.int .u8 c] w fun e w' => e = .returned (.bool (Em4.ltr c)) ∧ w' = w := by
  go_enter Tryd.func83, Tryd.ntmps83
  go_wp2
  all_goals
    go_ret
    exact ⟨by first | (simp [Em4.ltr, *]; done) | (simp [Em4.ltr, *]; omega), rfl⟩

set_option maxHeartbeats 400000 in
theorem ldigit_any (c : Int) (w : World) : Calls Tryd.prog 85 #[.int .u8 c] w fun e w' => e = .returned (.bool (Em4.dgt c)) ∧ w' = w := by
  go_enter Tryd.func85, Tryd.ntmps85
  go_wp2
  all_goals
    go_ret
    exact ⟨by first | (simp [Em4.dgt, *]; done) | (simp [Em4.dgt, *]; omega), rfl⟩

set_option maxHeartbeats 400000 in
theorem lblank_any (c : Int) (w : World) : Calls Tryd.prog 78 #[.int .u8 c] w fun e w' => e = .returned (.bool (Em4.blank c)) ∧ w' = w := by
  go_enter Tryd.func78, Tryd.ntmps78
  go_wp2
  all_goals
    go_ret
    exact ⟨Em.ret_bool (by rw [Bool.eq_iff_iff]; first | (simp [Em4.blank, *]; done) | (simp [Em4.blank, *]; omega)), rfl⟩

set_option maxHeartbeats 400000 in
theorem loftext_any (c : Int) (w : World) : Calls Tryd.prog 95 #[.int .u8 c] w fun e w' => e = .returned (.bool (Em4.prn c)) ∧ w' = w := by
  go_enter Tryd.func95, Tryd.ntmps95
  go_wp2
  all_goals
    go_ret
    exact ⟨Em.ret_bool (by rw [Bool.eq_iff_iff]; first | (simp [Em4.prn, *]; done) | (simp [Em4.prn, *]; omega)), rfl⟩

set_option maxHeartbeats 400000 in
theorem lofname_any (c : Int) (w : World) : Calls Tryd.prog 92 #[.int .u8 c] w fun e w' => e = .returned (.bool (Em4.nmc c)) ∧ w' = w := by
  go_enter Tryd.func92, Tryd.ntmps92
  go_wp2_with (first | (go_at_call 83; refine (lletter_any _ _).mono ?_; rintro e w' ⟨rfl, rfl⟩) | (go_at_call 85; refine (ldigit_any _ _).mono ?_; rintro e w' ⟨rfl, rfl⟩))
  all_goals
    go_ret
    exact ⟨Em.ret_bool (by rw [Bool.eq_iff_iff]; first | (simp [Em4.nmc, *]; done) | (simp [Em4.nmc, *]; omega)), rfl⟩

set_option maxRecDepth 100000 in
set_option maxHeartbeats 1000000 in
/-- span, of whatever function tells p of a byte. -/
theorem lspan_any (p : Int → Bool) (f : Nat) (hf : ∀ (c : Int) (w : World), Calls Tryd.prog f #[.int .u8 c] w fun e w' => e = .returned (.bool (p c)) ∧ w' = w) (hn : ∀ (a : Array Value) (w : World), Sem.run Tryd.prog (callFunc f a) w = .ok (.enter f a) w)
    (s : ByteArray) (L : List Int) (w : World) (hs : Em.IsStr s L) (hm : s.size ≤ 9223372036854775807) :
    Calls Tryd.prog 91 #[.string s, .func (.func f) #[] #[]] w fun e w' => e = .returned (.int .i64 (Em4.span p L)) ∧ w' = w := by
  have HS : Hid (Em.IsStr s L) := hs
  have HZ : Hid (s.size = L.length) := hs.size
  have HF : Hid (∀ (c : Int) (w : World), Calls Tryd.prog f #[.int .u8 c] w fun e w' => e = .returned (.bool (p c)) ∧ w' = w) := hf
  have HN : Hid (∀ (a : Array Value) (w : World), Sem.run Tryd.prog (callFunc f a) w = .ok (.enter f a) w) := hn
  clear hs hf hn
  go_enter Tryd.func91, Tryd.ntmps91
  go_wp2
  go_loop [8] (fun i => ∃ k : Nat, k ≤ s.size ∧ i = .int .i64 k ∧ Hid (∀ j, j < k → p (L[j]?.getD 0) = true)) (fun i => s.size - (intOf i).toNat)
  case atStart => exact ⟨0, Nat.zero_le _, rfl, fun j h => by omega⟩
  case round =>
    obtain ⟨k, hk, rfl, HD⟩ := hrel
    by_cases hlt : k < s.size
    · have hch := HS.out.get k hlt
      obtain ⟨c, hc⟩ : ∃ c, c = L[k]?.getD 0 := ⟨_, rfl⟩
      rw [← hc] at hch
      have HC : Hid (c = L[k]?.getD 0) := hc
      clear hc
      go_wp2_with fail
      rw [HN.out, Oper.upon_enter]
      refine (HF.out _ _).mono ?_
      rintro e w1 ⟨rfl, rfl⟩
      cases hp : p c with
      | true =>
        have HT : Hid (p (L[k]?.getD 0) = true) := by rw [← HC.out]; exact hp
        clear hp
        go_wp2
        go_round
        case rel => exact ⟨k + 1, by omega, by go_num, fun j hj => by rcases Nat.lt_succ_iff_lt_or_eq.1 hj with h | rfl; exact HD.out j h; exact HT.out⟩
        case measure => simp [intOf]; omega
      | false =>
        have HR : Hid (Em4.span p L = k) := Em4.span_eq (by have := HZ.out; omega) HD.out (fun _ => by rw [← HC.out]; exact hp)
        clear hp
        go_wp2
        go_ret
        exact ⟨by rw [HR.out]; rfl, rfl⟩
    · have HR : Hid (Em4.span p L = s.size) := Em4.span_eq (by have := HZ.out; omega) (fun j hj => HD.out j (by omega)) (fun h => by have := HZ.out; omega)
      go_wp2
      go_ret
      exact ⟨by rw [HR.out]; rfl, rfl⟩
set_option maxRecDepth 100000 in
theorem lspan_name (s : ByteArray) (L : List Int) (w : World) (hs : Em.IsStr s L) (hm : s.size ≤ 9223372036854775807) :
    Calls Tryd.prog 91 #[.string s, .func (.func 92) #[] #[]] w fun e w' => e = .returned (.int .i64 (Em4.span Em4.nmc L)) ∧ w' = w :=
  lspan_any _ _ lofname_any (fun _ _ => rfl) s L w hs hm
set_option maxRecDepth 100000 in
theorem lspan_digit (s : ByteArray) (L : List Int) (w : World) (hs : Em.IsStr s L) (hm : s.size ≤ 9223372036854775807) :
    Calls Tryd.prog 91 #[.string s, .func (.func 85) #[] #[]] w fun e w' => e = .returned (.int .i64 (Em4.span Em4.dgt L)) ∧ w' = w :=
  lspan_any _ _ ldigit_any (fun _ _ => rfl) s L w hs hm
set_option maxRecDepth 100000 in
theorem lspan_text (s : ByteArray) (L : List Int) (w : World) (hs : Em.IsStr s L) (hm : s.size ≤ 9223372036854775807) :
    Calls Tryd.prog 91 #[.string s, .func (.func 95) #[] #[]] w fun e w' => e = .returned (.int .i64 (Em4.span Em4.prn L)) ∧ w' = w :=
  lspan_any _ _ loftext_any (fun _ _ => rfl) s L w hs hm
end Go.Proofs.YtoekhejpompjlaaDoor

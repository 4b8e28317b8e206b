/- What the small functions of the document's own lex answer: small, digit, Text, Words, word, sign. -/
import Derived.Test.YtlniokcekjemdaaDoorProg
import Derived.Test.YtlniokcekjemdaaDoorMath4
import Derived.WalkKit
import Derived.Laws.IdiomStrings
import Derived.WalkSpells
import Derived.WalkLawsBesides
import Derived.Deep.QuietTactic
import Derived.BigQuiet
namespace Go.Proofs.YtlniokcekjemdaaDoor
open Go.RowKit

theorem text_no {L : List Int} {k : Nat} (hk : k < L.length) (h : Em4.prn (L[k]?.getD 0) = false) : Em4.textOk L = false := by
  unfold Em4.textOk
  rw [Bool.and_eq_false_iff]
  left
  rw [List.all_eq_false]
  refine ⟨L[k], List.getElem_mem hk, ?_⟩
  rw [List.getElem?_eq_getElem hk, Option.getD_some] at h
  simp [h]
theorem text_yes {L : List Int} (h : ∀ j, j < L.length → Em4.prn (L[j]?.getD 0) = true) : Em4.textOk L = decide (L.length ≤ 40) := by
  unfold Em4.textOk
  have : L.all Em4.prn = true := by
    rw [List.all_eq_true]
    intro x hx
    obtain ⟨j, hj, rfl⟩ := List.getElem_of_mem hx
    have := h j hj
    rwa [List.getElem?_eq_getElem hj, Option.getD_some] at this
  rw [this, Bool.true_and]

set_option maxHeartbeats 400000 in
theorem rsmall_any (c : Int) (w : World) : Calls Tryd.prog 45 #[.int .u8 c] w fun e w' => e = .returned (.bool (Em4.ltr c)) ∧ w' = w := by
  go_enter Tryd.func45, Tryd.ntmps45
  go_wp2
  all_goals
    go_ret
    exact ⟨by first | (simp [Em4.ltr, *]; done) | (simp [Em4.ltr, *]; omega), rfl⟩

set_option maxHeartbeats 400000 in
theorem rdigit_any (c : Int) (w : World) : Calls Tryd.prog 59 #[.int .u8 c] w fun e w' => e = .returned (.bool (Em4.dgt c)) ∧ w' = w := by
  go_enter Tryd.func59, Tryd.ntmps59
  go_wp2
  all_goals
    go_ret
    exact ⟨by first | (simp [Em4.dgt, *]; done) | (simp [Em4.dgt, *]; omega), rfl⟩

set_option maxHeartbeats 1000000 in
theorem rtext_any (s : ByteArray) (L : List Int) (w : World) (hs : Em.IsStr s L) (hm : s.size ≤ 9223372036854775807) :
    Calls Tryd.prog 39 #[.string s] w fun e w' => e = .returned (.bool (Em4.textOk L)) ∧ w' = w := by
  have HS : Hid (Em.IsStr s L) := hs
  have HZ : Hid (s.size = L.length) := hs.size
  clear hs
  go_enter Tryd.func39, Tryd.ntmps39
  go_wp2
  go_loop [3] (fun i => ∃ k : Nat, k ≤ s.size ∧ i = .int .i64 k ∧ Hid (∀ j, j < k → Em4.prn (L[j]?.getD 0) = true)) (fun i => s.size - (intOf i).toNat)
  case atStart => exact ⟨0, Nat.zero_le _, rfl, fun j h => by omega⟩
  case round =>
    obtain ⟨k, hk, rfl, HD⟩ := hrel
    by_cases hlt : k < s.size
    · have hch := HS.out.get k hlt
      obtain ⟨c, hc⟩ : ∃ c, c = L[k]?.getD 0 := ⟨_, rfl⟩
      rw [← hc] at hch
      have HC : Hid (c = L[k]?.getD 0) := hc
      clear hc
      have key : ∀ b : Bool, Em4.prn c = b → Em4.prn (L[k]?.getD 0) = b := fun b h => by rw [← HC.out]; exact h
      by_cases h1 : c < 32
      · have HF : Hid (Em4.textOk L = false) := text_no (HZ.out ▸ hlt) (key _ (by simp [Em4.prn]; omega))
        clear key
        go_wp2
        go_ret
        exact ⟨by rw [HF.out]; rfl, rfl⟩
      by_cases h2 : 126 < c
      · have HF : Hid (Em4.textOk L = false) := text_no (HZ.out ▸ hlt) (key _ (by simp [Em4.prn]; omega))
        clear key
        go_wp2
        go_ret
        exact ⟨by rw [HF.out]; rfl, rfl⟩
      by_cases h3 : c = 34
      · have HF : Hid (Em4.textOk L = false) := text_no (HZ.out ▸ hlt) (key _ (by simp [Em4.prn]; omega))
        have h4 : (c == 34) = true := by simpa using h3
        clear key h3
        go_wp2
        go_ret
        exact ⟨by rw [HF.out]; rfl, rfl⟩
      · have h4 : (c == 34) = false := by simpa using h3
        have HT : Hid (Em4.prn (L[k]?.getD 0) = true) := key _ (by simp [Em4.prn]; omega)
        clear key h3
        go_wp2
        go_round
        case rel => exact ⟨k + 1, by omega, by go_num, fun j hj => by rcases Nat.lt_succ_iff_lt_or_eq.1 hj with h | rfl; exact HD.out j h; exact HT.out⟩
        case measure => simp [intOf]; omega
    · have HF : Hid (Em4.textOk L = decide (s.size ≤ 40)) := by
        rw [Hid, HZ.out]
        exact text_yes (fun j hj => HD.out j (by have := HZ.out; omega))
      go_wp2
      go_ret
      exact ⟨by rw [HF.out]; exact Em.ret_bool (decide_eq_decide.2 (by omega)), rfl⟩

/-- The words, as they lie in memory. -/
def wordsV : Array Value := (Em4.words.map fun l => Value.string (Em.str l)).toArray

set_option maxRecDepth 100000 in
set_option maxHeartbeats 1000000 in
theorem rwords_any (w : World) :
    Calls Tryd.prog 68 #[] w fun e w' => e = .returned (.slice (some ⟨w.heap.size, 0, none⟩) 22 22) ∧ w' = w.alloc (.cells wordsV 9) := by
  go_enter Tryd.func68, Tryd.ntmps68
  go_wp2
  go_ret
  exact ⟨rfl, rfl⟩

theorem words_cell (w : World) (k : Nat) (hk : k < 22) : (w.alloc (.cells wordsV 9)).cell? ⟨w.heap.size, k, none⟩ = some (.string (Em.str (Em4.words[k]?.getD []))) := by
  rw [World.cell?_alloc_mark]
  have hl : k < Em4.words.length := hk
  simp [wordsV, hl]
theorem words_str (k : Nat) (hk : k < 22) : Em.IsStr (Em.str (Em4.words[k]?.getD [])) (Em4.words[k]?.getD []) := by
  refine Em.isStr_str ?_
  have hl : k < Em4.words.length := hk
  rw [List.getElem?_eq_getElem hl, Option.getD_some]
  have : ∀ l ∈ Em4.words, ∀ x ∈ l, 0 ≤ x ∧ x ≤ 255 := by decide
  exact this _ (List.getElem_mem hl)

set_option maxRecDepth 100000 in
set_option maxHeartbeats 1000000 in
theorem rword_any (s : ByteArray) (L : List Int) (w : World) (hs : Em.IsStr s L) :
    Calls Tryd.prog 60 #[.string s] w fun e w' => e = .returned (.bool (decide (L ∈ Em4.words))) ∧ Below w.heap.size w w' := by
  have HS : Hid (Em.IsStr s L) := hs
  clear hs
  go_enter Tryd.func60, Tryd.ntmps60
  go_wp2_with (go_at_call 68; refine (rwords_any _).mono ?_; rintro e w1 ⟨rfl, hw1⟩; have HW : Hid (w1 = w.alloc (.cells wordsV 9)) := hw1; clear hw1)
  have hbel : Below w.heap.size w w1 := by rw [HW.out]; exact (Below.refl _ _).alloc (Nat.le_refl _) _
  go_loop [4] (fun i => ∃ k : Nat, k ≤ 22 ∧ i = .int .i64 k ∧ Hid (∀ j, j < k → Em4.words[j]?.getD [] ≠ L)) (fun i => 22 - (intOf i).toNat)
  case atStart => exact ⟨0, Nat.zero_le _, rfl, fun j h => by omega⟩
  case round =>
    obtain ⟨k, hk, rfl, HD⟩ := hrel
    by_cases hlt : k < 22
    · have hcell : w1.cell? ⟨w.heap.size, k, none⟩ = some (.string (Em.str (Em4.words[k]?.getD []))) := by rw [HW.out]; exact words_cell w k hlt
      have hq := (words_str k hlt).beq HS.out
      obtain ⟨t, ht⟩ : ∃ t, t = Em.str (Em4.words[k]?.getD []) := ⟨_, rfl⟩
      rw [← ht] at hcell hq
      by_cases he : Em4.words[k]?.getD [] = L
      · have HF : Hid (decide (L ∈ Em4.words) = true) := by
          have hl : k < Em4.words.length := hlt
          rw [List.getElem?_eq_getElem hl, Option.getD_some] at he
          rw [Hid, ← he]
          exact decide_eq_true (List.getElem_mem hl)
        rw [decide_eq_true he] at hq
        clear ht he
        go_wp2
        go_ret
        exact ⟨by rw [HF.out]; rfl, hbel⟩
      · have HE : Hid (Em4.words[k]?.getD [] ≠ L) := he
        rw [decide_eq_false he] at hq
        clear ht he
        go_wp2
        go_round
        case rel => exact ⟨k + 1, by omega, by go_num, fun j hj => by rcases Nat.lt_succ_iff_lt_or_eq.1 hj with h | rfl; exact HD.out j h; exact HE.out⟩
        case measure => simp [intOf]; omega
    · have HF : Hid (decide (L ∈ Em4.words) = false) := by
        refine decide_eq_false fun hm => ?_
        obtain ⟨j, hj, he⟩ := List.getElem_of_mem hm
        exact HD.out j (by have : j < 22 := hj; omega) (by rw [List.getElem?_eq_getElem hj, Option.getD_some]; exact he)
      go_wp2
      go_ret
      exact ⟨by rw [HF.out]; rfl, hbel⟩
end Go.Proofs.YtlniokcekjemdaaDoor

/- Several texts in one: RLexA, RLexN, RLexS, RLexM, RLexO, RLexW. -/
import Derived.Test.YtoekhejpompjlaaDoorProg
import Derived.Test.YtoekhejpompjlaaDoorPureA
import Derived.WalkKit
import Derived.Laws.IdiomStrings
import Derived.WalkSpells
import Derived.WalkLawsBesides
import Derived.Deep.QuietTactic
import Derived.BigQuiet
namespace Go.Proofs.YtoekhejpompjlaaDoor
open Go.RowKit

theorem text_no {L : List Int} {k : Nat} (hk : k < L.length) (h : Em4.prn (L[k]?.getD 0) = false) : Em4.textOk L = false := by
  unfold Em4.textOk
  rw [Bool.and_eq_false_iff]
  left
  rw [List.all_eq_false]
  refine ⟨L[k], List.getElem_mem hk, ?_⟩
  rw [List.getElem?_eq_getElem hk, Option.getD_some] at h
  simp [h]
theorem text_yes {L : List Int} (h : ∀ j, j < L.length → Em4.prn (L[j]?.getD 0) = true) : Em4.textOk L = decide (L.length ≤ 40) := by
  unfold Em4.textOk
  have : L.all Em4.prn = true := by
    rw [List.all_eq_true]
    intro x hx
    obtain ⟨j, hj, rfl⟩ := List.getElem_of_mem hx
    have := h j hj
    rwa [List.getElem?_eq_getElem hj, Option.getD_some] at this
  rw [this, Bool.true_and]

set_option maxHeartbeats 400000 in
theorem rsmall_any (c : Int) (w : World) : Calls Tryd.prog 49 #[.int .u8 c] w fun e w' => e = .returned (.bool (Em4.ltr c)) ∧ w' = w := by
  go_enter Tryd.func49, Tryd.ntmps49
  go_wp2
  all_goals
    go_ret
    exact ⟨by first | (simp [Em4.ltr, *]; done) | (simp [Em4.ltr, *]; omega), rfl⟩

set_option maxHeartbeats 400000 in
theorem rdigit_any (c : Int) (w : World) : Calls Tryd.prog 51 #[.int .u8 c] w fun e w' => e = .returned (.bool (Em4.dgt c)) ∧ w' = w := by
  go_enter Tryd.func51, Tryd.ntmps51
  go_wp2
  all_goals
    go_ret
    exact ⟨by first | (simp [Em4.dgt, *]; done) | (simp [Em4.dgt, *]; omega), rfl⟩

set_option maxHeartbeats 1000000 in
theorem rtext_any (s : ByteArray) (L : List Int) (w : World) (hs : Em.IsStr s L) (hm : s.size ≤ 9223372036854775807) :
    Calls Tryd.prog 42 #[.string s] w fun e w' => e = .returned (.bool (Em4.textOk L)) ∧ w' = w := by
  have HS : Hid (Em.IsStr s L) := hs
  have HZ : Hid (s.size = L.length) := hs.size
  clear hs
  go_enter Tryd.func42, Tryd.ntmps42
  go_wp2
  go_loop [3] (fun i => ∃ k : Nat, k ≤ s.size ∧ i = .int .i64 k ∧ Hid (∀ j, j < k → Em4.prn (L[j]?.getD 0) = true)) (fun i => s.size - (intOf i).toNat)
  case atStart => exact ⟨0, Nat.zero_le _, rfl, fun j h => by omega⟩
  case round =>
    obtain ⟨k, hk, rfl, HD⟩ := hrel
    by_cases hlt : k < s.size
    · have hch := HS.out.get k hlt
      obtain ⟨c, hc⟩ : ∃ c, c = L[k]?.getD 0 := ⟨_, rfl⟩
      rw [← hc] at hch
      have HC : Hid (c = L[k]?.getD 0) := hc
      clear hc
      have key : ∀ b : Bool, Em4.prn c = b → Em4.prn (L[k]?.getD 0) = b := fun b h => by rw [← HC.out]; exact h
      by_cases h1 : c < 32
      · have HF : Hid (Em4.textOk L = false) := text_no (HZ.out ▸ hlt) (key _ (by simp [Em4.prn]; omega))
        clear key
        go_wp2
        go_ret
        exact ⟨by rw [HF.out]; rfl, rfl⟩
      by_cases h2 : 126 < c
      · have HF : Hid (Em4.textOk L = false) := text_no (HZ.out ▸ hlt) (key _ (by simp [Em4.prn]; omega))
        clear key
        go_wp2
        go_ret
        exact ⟨by rw [HF.out]; rfl, rfl⟩
      by_cases h3 : c = 34
      · have HF : Hid (Em4.textOk L = false) := text_no (HZ.out ▸ hlt) (key _ (by simp [Em4.prn]; omega))
        have h4 : (c == 34) = true := by simpa using h3
        clear key h3
        go_wp2
        go_ret
        exact ⟨by rw [HF.out]; rfl, rfl⟩
      · have h4 : (c == 34) = false := by simpa using h3
        have HT : Hid (Em4.prn (L[k]?.getD 0) = true) := key _ (by simp [Em4.prn]; omega)
        clear key h3
        go_wp2
        go_round
        case rel => exact ⟨k + 1, by omega, by go_num, fun j hj => by rcases Nat.lt_succ_iff_lt_or_eq.1 hj with h | rfl; exact HD.out j h; exact HT.out⟩
        case measure => simp [intOf]; omega
    · have HF : Hid (Em4.textOk L = decide (s.size ≤ 40)) := by
        rw [Hid, HZ.out]
        exact text_yes (fun j hj => HD.out j (by have := HZ.out; omega))
      go_wp2
      go_ret
      exact ⟨by rw [HF.out]; exact Em.ret_bool (decide_eq_decide.2 (by omega)), rfl⟩

/-- The words, as they lie in memory. -/
def wordsV : Array Value := (Em4.words.map fun l => Value.string (Em.str l)).toArray

set_option maxRecDepth 100000 in
set_option maxHeartbeats 1000000 in
theorem rwords_any (w : World) :
    Calls Tryd.prog 69 #[] w fun e w' => e = .returned (.slice (some ⟨w.heap.size, 0, none⟩) 22 22) ∧ w' = w.alloc (.cells wordsV 9) := by
  go_enter Tryd.func69, Tryd.ntmps69
  go_wp2
  go_ret
  exact ⟨rfl, rfl⟩

theorem words_cell (w : World) (k : Nat) (hk : k < 22) : (w.alloc (.cells wordsV 9)).cell? ⟨w.heap.size, k, none⟩ = some (.string (Em.str (Em4.words[k]?.getD []))) := by
  rw [World.cell?_alloc_mark]
  have hl : k < Em4.words.length := hk
  simp [wordsV, hl]
theorem words_str (k : Nat) (hk : k < 22) : Em.IsStr (Em.str (Em4.words[k]?.getD [])) (Em4.words[k]?.getD []) := by
  refine Em.isStr_str ?_
  have hl : k < Em4.words.length := hk
  rw [List.getElem?_eq_getElem hl, Option.getD_some]
  have : ∀ l ∈ Em4.words, ∀ x ∈ l, 0 ≤ x ∧ x ≤ 255 := by decide
  exact this _ (List.getElem_mem hl)

set_option maxRecDepth 100000 in
set_option maxHeartbeats 1000000 in
theorem rword_any (s : ByteArray) (L : List Int) (w : World) (hs : Em.IsStr s L) :
    Calls Tryd.prog 62 #[.string s] w fun e w' => e = .returned (.bool (decide (L ∈ Em4.words))) ∧ Below w.heap.size w w' := by
  have HS : Hid (Em.IsStr s L) := hs
  clear hs
  go_enter Tryd.func62, Tryd.ntmps62
  go_wp2_with (go_at_call 69; refine (rwords_any _).mono ?_; rintro e w1 ⟨rfl, hw1⟩; have HW : Hid (w1 = w.alloc (.cells wordsV 9)) := hw1; clear hw1)
  have hbel : Below w.heap.size w w1 := by rw [HW.out]; exact (Below.refl _ _).alloc (Nat.le_refl _) _
  go_loop [4] (fun i => ∃ k : Nat, k ≤ 22 ∧ i = .int .i64 k ∧ Hid (∀ j, j < k → Em4.words[j]?.getD [] ≠ L)) (fun i => 22 - (intOf i).toNat)
  case atStart => exact ⟨0, Nat.zero_le _, rfl, fun j h => by omega⟩
  case round =>
    obtain ⟨k, hk, rfl, HD⟩ := hrel
    by_cases hlt : k < 22
    · have hcell : w1.cell? ⟨w.heap.size, k, none⟩ = some (.string (Em.str (Em4.words[k]?.getD []))) := by rw [HW.out]; exact words_cell w k hlt
      have hq := (words_str k hlt).beq HS.out
      obtain ⟨t, ht⟩ : ∃ t, t = Em.str (Em4.words[k]?.getD []) := ⟨_, rfl⟩
      rw [← ht] at hcell hq
      by_cases he : Em4.words[k]?.getD [] = L
      · have HF : Hid (decide (L ∈ Em4.words) = true) := by
          have hl : k < Em4.words.length := hlt
          rw [List.getElem?_eq_getElem hl, Option.getD_some] at he
          rw [Hid, ← he]
          exact decide_eq_true (List.getElem_mem hl)
        rw [decide_eq_true he] at hq
        clear ht he
        go_wp2
        go_ret
        exact ⟨by rw [HF.out]; rfl, hbel⟩
      · have HE : Hid (Em4.words[k]?.getD [] ≠ L) := he
        rw [decide_eq_false he] at hq
        clear ht he
        go_wp2
        go_round
        case rel => exact ⟨k + 1, by omega, by go_num, fun j hj => by rcases Nat.lt_succ_iff_lt_or_eq.1 hj with h | rfl; exact HD.out j h; exact HE.out⟩
        case measure => simp [intOf]; omega
    · have HF : Hid (decide (L ∈ Em4.words) = false) := by
        refine decide_eq_false fun hm => ?_
        obtain ⟨j, hj, he⟩ := List.getElem_of_mem hm
        exact HD.out j (by have : j < 22 := hj; omega) (by rw [List.getElem?_eq_getElem hj, Option.getD_some]; exact he)
      go_wp2
      go_ret
      exact ⟨by rw [HF.out]; rfl, hbel⟩
end Go.Proofs.YtoekhejpompjlaaDoor

namespace Go.Proofs.YtoekhejpompjlaaDoor
open Go.RowKit
set_option linter.unusedSimpArgs false

/-- A token as a value. -/
abbrev tokV (k : Int) (s : ByteArray) (n p : Int) : Value := .agg #[.int .i64 k, .string s, .int .i64 n, .int .i64 p]
/-- What a function that reads one token hands back. -/
def LexGot (e : Ending) (r : Option (Int × List Int × Int × Nat)) : Prop :=
  ∃ k s n m, e = .returned (.tuple #[tokV k s n 0, .int .i64 m]) ∧ match r with
    | none => m = 0
    | some (k', t, n', m') => k = k' ∧ Em.IsStr s t ∧ n = n' ∧ m = m'

set_option maxRecDepth 100000 in
set_option maxHeartbeats 2000000 in
theorem rname_any (s : ByteArray) (L : List Int) (w : World) (hs : Em.IsStr s L) (hm : s.size ≤ 9223372036854775807) (hp : 1 ≤ s.size) :
    Calls Tryd.prog 50 #[.string s] w fun e w' => LexGot e (Em4.nameAt L) ∧ Below w.heap.size w w' := by
  have HS : Hid (Em.IsStr s L) := hs
  have HZ : Hid (s.size = L.length) := hs.size
  clear hs
  go_enter Tryd.func50, Tryd.ntmps50
  go_wp2
  go_loop [4] (fun i => ∃ k : Nat, 1 ≤ k ∧ k ≤ s.size ∧ i = .int .i64 k ∧ Hid (∀ j, j < k - 1 → Em4.nmc ((L.drop 1)[j]?.getD 0) = true)) (fun i => s.size - (intOf i).toNat)
  case atStart => exact ⟨1, Nat.le_refl _, hp, rfl, fun j h => by omega⟩
  case round =>
    obtain ⟨k, hk1, hk, rfl, HD⟩ := hrel
    by_cases hlt : k < s.size
    · have hch := HS.out.get k hlt
      obtain ⟨c, hc⟩ : ∃ c, c = L[k]?.getD 0 := ⟨_, rfl⟩
      rw [← hc] at hch
      have HC : Hid (c = (L.drop 1)[k - 1]?.getD 0) := by rw [Hid, hc, List.getElem?_drop, show 1 + (k - 1) = k by omega]
      clear hc
      have stepT : Em4.nmc c = true → Hid (∀ j, j < (k + 1) - 1 → Em4.nmc ((L.drop 1)[j]?.getD 0) = true) := fun h j hj => by
        by_cases hjk : j = k - 1
        · subst hjk; rw [← HC.out]; exact h
        · exact HD.out j (by omega)
      cases h1 : Em4.ltr c with
      | true =>
        have HT := stepT (by simp [Em4.nmc, h1])
        clear stepT HC
        go_wp2_with (go_at_call 49; refine (rsmall_any _ _).mono ?_; rintro e w' ⟨rfl, rfl⟩)
        go_round
        case rel => exact ⟨k + 1, by omega, by omega, by go_num, HT⟩
        case measure => simp [intOf]; omega
      | false =>
        cases h2 : Em4.dgt c with
        | true =>
          have HT := stepT (by simp [Em4.nmc, h2])
          clear stepT HC
          go_wp2_with (first | (go_at_call 49; refine (rsmall_any _ _).mono ?_; rintro e w' ⟨rfl, rfl⟩) | (go_at_call 51; refine (rdigit_any _ _).mono ?_; rintro e w' ⟨rfl, rfl⟩))
          go_round
          case rel => exact ⟨k + 1, by omega, by omega, by go_num, HT⟩
          case measure => simp [intOf]; omega
        | false =>
          by_cases h3 : c = 95
          · have HT := stepT (by simp [Em4.nmc, h3])
            have h3' : (c == 95) = true := by simpa using h3
            clear stepT HC h3
            go_wp2_with (first | (go_at_call 49; refine (rsmall_any _ _).mono ?_; rintro e w' ⟨rfl, rfl⟩) | (go_at_call 51; refine (rdigit_any _ _).mono ?_; rintro e w' ⟨rfl, rfl⟩))
            go_round
            case rel => exact ⟨k + 1, by omega, by omega, by go_num, HT⟩
            case measure => simp [intOf]; omega
          have h3' : (c == 95) = false := by simpa using h3
          by_cases h4 : c = 39
          · have HT := stepT (by simp [Em4.nmc, h4])
            have h4' : (c == 39) = true := by simpa using h4
            clear stepT HC h3 h4
            go_wp2_with (first | (go_at_call 49; refine (rsmall_any _ _).mono ?_; rintro e w' ⟨rfl, rfl⟩) | (go_at_call 51; refine (rdigit_any _ _).mono ?_; rintro e w' ⟨rfl, rfl⟩))
            go_round
            case rel => exact ⟨k + 1, by omega, by omega, by go_num, HT⟩
            case measure => simp [intOf]; omega
          have h4' : (c == 39) = false := by simpa using h4
          have HN : Hid (Em4.nameAt L = if L.take k ∈ Em4.words then some (4, L.take k, 0, k) else if 12 < k then none else some (1, L.take k, 0, k)) := by
            have : 1 + Em4.span Em4.nmc (L.drop 1) = k := by
              have := Em4.span_eq (p := Em4.nmc) (L := L.drop 1) (n := k - 1) (by have := HZ.out; simp; omega) HD.out (fun _ => by rw [← HC.out]; simp [Em4.nmc, h1, h2, h3, h4])
              omega
            rw [Hid, Em4.nameAt, this]
          clear stepT HC h3 h4 HD
          go_wp2_with (first | (go_at_call 49; refine (rsmall_any _ _).mono ?_; rintro e w' ⟨rfl, rfl⟩) | (go_at_call 51; refine (rdigit_any _ _).mono ?_; rintro e w' ⟨rfl, rfl⟩))
          refine (rword_any _ _ _ (HS.out.extract 0 k)).mono ?_
          rintro e w1 ⟨rfl, hb⟩
          simp only [List.drop_zero, Nat.sub_zero]
          have HX : Hid (Em.IsStr (s.extract 0 k) (L.take k)) := by simpa [Hid] using HS.out.extract 0 k
          obtain ⟨hc, hf⟩ := Em.bcell hb
          have hz : w.heap.size < w1.heap.size := by have := hb.size; simp at this; omega
          have hbel : Below w.heap.size w w1 := ((Below.refl _ _).alloc (Nat.le_refl _) _).trans (hb.mono (by simp))
          clear hb
          by_cases hw : L.take k ∈ Em4.words
          · have HR : Hid (Em4.nameAt L = some (4, L.take k, 0, k)) := by rw [Hid, HN.out, if_pos hw]
            rw [decide_eq_true hw]
            clear hw
            go_wp2
            refine bodyPost_ret (v := .tuple #[tokV 4 (s.extract 0 k) 0 0, .int .i64 k]) (by simp [results, Tryd.results50, go_sem, hc, hz]) rfl ⟨?_, ?_⟩
            · rw [HR.out]; exact ⟨_, _, _, _, rfl, rfl, HX.out, rfl, rfl⟩
            · exact Em.below_set4 hbel (Nat.le_refl _) _ _ _ _
          by_cases h12 : 12 < k
          · have HR : Hid (Em4.nameAt L = none) := by rw [Hid, HN.out, if_neg hw, if_pos h12]
            rw [decide_eq_false hw]
            clear hw
            go_wp2
            refine bodyPost_ret (v := .tuple #[tokV 0 ⟨#[]⟩ 0 0, .int .i64 0]) (by simp [results, Tryd.results50, go_sem, hc, hz]) rfl ⟨?_, ?_⟩
            · rw [HR.out]; exact ⟨_, _, _, _, rfl, rfl⟩
            · exact Em.below_set4 hbel (Nat.le_refl _) _ _ _ _
          · have HR : Hid (Em4.nameAt L = some (1, L.take k, 0, k)) := by rw [Hid, HN.out, if_neg hw, if_neg h12]
            rw [decide_eq_false hw]
            clear hw
            go_wp2
            refine bodyPost_ret (v := .tuple #[tokV 1 (s.extract 0 k) 0 0, .int .i64 k]) (by simp [results, Tryd.results50, go_sem, hc, hz]) rfl ⟨?_, ?_⟩
            · rw [HR.out]; exact ⟨_, _, _, _, rfl, rfl, HX.out, rfl, rfl⟩
            · exact Em.below_set4 hbel (Nat.le_refl _) _ _ _ _
    · have HN : Hid (Em4.nameAt L = if L.take k ∈ Em4.words then some (4, L.take k, 0, k) else if 12 < k then none else some (1, L.take k, 0, k)) := by
        have : 1 + Em4.span Em4.nmc (L.drop 1) = k := by
          have := Em4.span_eq (p := Em4.nmc) (L := L.drop 1) (n := k - 1) (by have := HZ.out; simp; omega) HD.out (fun h => by have := HZ.out; simp at h; omega)
          omega
        rw [Hid, Em4.nameAt, this]
      clear HD
      go_wp2_with fail
      refine (rword_any _ _ _ (HS.out.extract 0 k)).mono ?_
      rintro e w1 ⟨rfl, hb⟩
      simp only [List.drop_zero, Nat.sub_zero]
      have HX : Hid (Em.IsStr (s.extract 0 k) (L.take k)) := by simpa [Hid] using HS.out.extract 0 k
      obtain ⟨hc, hf⟩ := Em.bcell hb
      have hz : w.heap.size < w1.heap.size := by have := hb.size; simp at this; omega
      have hbel : Below w.heap.size w w1 := ((Below.refl _ _).alloc (Nat.le_refl _) _).trans (hb.mono (by simp))
      clear hb
      by_cases hw : L.take k ∈ Em4.words
      · have HR : Hid (Em4.nameAt L = some (4, L.take k, 0, k)) := by rw [Hid, HN.out, if_pos hw]
        rw [decide_eq_true hw]
        clear hw
        go_wp2
        refine bodyPost_ret (v := .tuple #[tokV 4 (s.extract 0 k) 0 0, .int .i64 k]) (by simp [results, Tryd.results50, go_sem, hc, hz]) rfl ⟨?_, ?_⟩
        · rw [HR.out]; exact ⟨_, _, _, _, rfl, rfl, HX.out, rfl, rfl⟩
        · exact Em.below_set4 hbel (Nat.le_refl _) _ _ _ _
      by_cases h12 : 12 < k
      · have HR : Hid (Em4.nameAt L = none) := by rw [Hid, HN.out, if_neg hw, if_pos h12]
        rw [decide_eq_false hw]
        clear hw
        go_wp2
        refine bodyPost_ret (v := .tuple #[tokV 0 ⟨#[]⟩ 0 0, .int .i64 0]) (by simp [results, Tryd.results50, go_sem, hc, hz]) rfl ⟨?_, ?_⟩
        · rw [HR.out]; exact ⟨_, _, _, _, rfl, rfl⟩
        · exact Em.below_set4 hbel (Nat.le_refl _) _ _ _ _
      · have HR : Hid (Em4.nameAt L = some (1, L.take k, 0, k)) := by rw [Hid, HN.out, if_neg hw, if_neg h12]
        rw [decide_eq_false hw]
        clear hw
        go_wp2
        refine bodyPost_ret (v := .tuple #[tokV 1 (s.extract 0 k) 0 0, .int .i64 k]) (by simp [results, Tryd.results50, go_sem, hc, hz]) rfl ⟨?_, ?_⟩
        · rw [HR.out]; exact ⟨_, _, _, _, rfl, rfl, HX.out, rfl, rfl⟩
        · exact Em.below_set4 hbel (Nat.le_refl _) _ _ _ _
end Go.Proofs.YtoekhejpompjlaaDoor

namespace Go.Proofs.YtoekhejpompjlaaDoor
open Go.RowKit

/-- The signs, as they lie in memory. -/
def signsV : Array Value := (Em4.signs.map fun l => Value.string (Em.str l)).toArray
theorem signs_cell (w : World) (k : Nat) (hk : k < 17) : (w.alloc (.cells signsV 9)).cell? ⟨w.heap.size, k, none⟩ = some (.string (Em.str (Em4.signs[k]?.getD []))) := by
  rw [World.cell?_alloc_mark]
  have hl : k < Em4.signs.length := hk
  simp [signsV, hl]
theorem signs_str (k : Nat) (hk : k < 17) : Em.IsStr (Em.str (Em4.signs[k]?.getD [])) (Em4.signs[k]?.getD []) := by
  refine Em.isStr_str ?_
  have hl : k < Em4.signs.length := hk
  rw [List.getElem?_eq_getElem hl, Option.getD_some]
  have : ∀ l ∈ Em4.signs, ∀ x ∈ l, 0 ≤ x ∧ x ≤ 255 := by decide
  exact this _ (List.getElem_mem hl)

theorem find_at {p : List Int → Bool} : ∀ (l : List (List Int)) (k : Nat), k < l.length → p (l[k]?.getD []) = true → (∀ j, j < k → p (l[j]?.getD []) = false) → l.find? p = some (l[k]?.getD [])
  | [], k, h, _, _ => by simp at h
  | x :: r, 0, _, h, _ => by simp at h; simp [h]
  | x :: r, k + 1, hk, h, hn => by
    have h0 := hn 0 (by omega)
    simp at h0 h ⊢
    exact Or.inr ⟨h0, find_at (p := p) r k (by simpa using hk) h (fun j hj => by simpa using hn (j + 1) (by omega))⟩
theorem sgn_at {L : List Int} {k : Nat} (hk : k < 17) (h : (Em4.signs[k]?.getD []).isPrefixOf L = true) (hn : ∀ j, j < k → (Em4.signs[j]?.getD []).isPrefixOf L = false) : Em4.sgn L = Em4.signs[k]?.getD [] := by
  unfold Em4.sgn
  rw [find_at (p := fun s => s.isPrefixOf L) Em4.signs k hk h hn]; rfl
theorem sgn_none {L : List Int} (hn : ∀ j, j < 17 → (Em4.signs[j]?.getD []).isPrefixOf L = false) : Em4.sgn L = [] := by
  unfold Em4.sgn
  have : Em4.signs.find? (fun s => s.isPrefixOf L) = none := by
    rw [List.find?_eq_none]
    intro x hx
    obtain ⟨j, hj, rfl⟩ := List.getElem_of_mem hx
    have := hn j hj
    rw [List.getElem?_eq_getElem hj, Option.getD_some] at this
    simp [this]
  rw [this]; rfl
set_option maxRecDepth 100000 in
set_option maxHeartbeats 1000000 in
theorem rsign_any (s : ByteArray) (L : List Int) (w : World) (hs : Em.IsStr s L) :
    Calls Tryd.prog 54 #[.string s] w fun e w' => (∃ t, e = .returned (.string t) ∧ Em.IsStr t (Em4.sgn L)) ∧ Below w.heap.size w w' := by
  have HS : Hid (Em.IsStr s L) := hs
  have HZ : Hid (s.size = L.length) := hs.size
  clear hs
  go_enter Tryd.func54, Tryd.ntmps54
  go_wp2
  go_loopw [4] (fun i wr => ∃ k : Nat, k ≤ 17 ∧ i = .int .i64 k ∧ Hid (∀ k, k < 17 → wr.cell? ⟨w.heap.size, k, none⟩ = some (.string (Em.str (Em4.signs[k]?.getD [])))) ∧ Below w.heap.size w wr ∧ Hid (∀ j, j < k → (Em4.signs[j]?.getD []).isPrefixOf L = false)) (fun i _ => 17 - (intOf i).toNat)
  case atStart => exact ⟨0, Nat.zero_le _, rfl, fun k hk => signs_cell w k hk, (Below.refl _ _).alloc (Nat.le_refl _) _, fun j h => by omega⟩
  case round =>
    obtain ⟨k, hk, rfl, HC, hbel, HD⟩ := hrel
    by_cases hlt : k < 17
    · have hcell := HC.out k hlt
      have hst := signs_str k hlt
      obtain ⟨M, hM⟩ : ∃ M, M = Em4.signs[k]?.getD [] := ⟨_, rfl⟩
      rw [← hM] at hcell hst
      have HM : Hid (M = Em4.signs[k]?.getD []) := hM
      clear hM
      obtain ⟨t, ht⟩ : ∃ t, t = Em.str M := ⟨_, rfl⟩
      rw [← ht] at hcell hst
      have HT : Hid (Em.IsStr t M) := hst
      have hts : t.size ≤ 9223372036854775807 := by
        have h1 : t.size = M.length := hst.size
        have : ∀ l ∈ Em4.signs, l.length ≤ 2 := by decide
        have hl : k < Em4.signs.length := hlt
        rw [h1, HM.out, List.getElem?_eq_getElem hl, Option.getD_some]
        have := this _ (List.getElem_mem hl)
        omega
      clear ht hst
      have HP : Hid (M.isPrefixOf L = true ↔ t.size ≤ s.size ∧ L.take t.size = M) := by
        have h1 := HT.out.size
        have h2 := HZ.out
        rw [List.isPrefixOf_iff_prefix, List.prefix_iff_eq_take, h1, h2]
        constructor
        · intro h
          refine ⟨?_, h.symm⟩
          have := congrArg List.length h
          rw [List.length_take] at this
          omega
        · intro h; exact h.2.symm
      have hk17 : (k : Int) < 17 := by omega
      have hk0 : (0 : Int) ≤ (k : Int) := by omega
      by_cases hsz : t.size ≤ s.size
      · have hq := (HS.out.extract 0 t.size).beq HT.out
        simp only [List.drop_zero, Nat.sub_zero] at hq
        have hsz1 : (t.size : Int) ≤ (s.size : Int) := by omega
        have hsz0 : (0 : Int) ≤ (t.size : Int) := by omega
        have hd : decide ((t.size : Int) ≤ (s.size : Int)) = true := decide_eq_true hsz1
        by_cases he : L.take t.size = M
        · rw [decide_eq_true he] at hq
          have HF : Hid (Em4.sgn L = M) := by
            have hp := HP.out.2 ⟨hsz, he⟩
            rw [HM.out] at hp ⊢
            exact sgn_at hlt hp HD.out
          clear he
          go_wp2_with fail
          go_quiet (fail)
          have hbel2 := Em.below_drewN hbel nq
          go_wp2
          go_ret
          exact ⟨⟨_, rfl, by rw [HF.out]; exact HT.out⟩, hbel2⟩
        · rw [decide_eq_false he] at hq
          have HF : Hid (M.isPrefixOf L = false) := by
            rw [Hid, Bool.eq_false_iff]; intro h; exact he (HP.out.1 h).2
          clear he
          go_wp2_with fail
          go_quiet (fail)
          go_wp2
          go_roundw
          case rel => exact ⟨k + 1, by omega, by go_num, fun j hj => by simpa using HC.out j hj, Em.below_drewN hbel nq, fun j hj => by rcases Nat.lt_succ_iff_lt_or_eq.1 hj with h | rfl; exact HD.out j h; rw [← HM.out]; exact HF.out⟩
          case measure => simp [intOf]; omega
      · have HF : Hid (M.isPrefixOf L = false) := by
          rw [Hid, Bool.eq_false_iff]; intro h; exact hsz (HP.out.1 h).1
        have hd : decide ((t.size : Int) ≤ (s.size : Int)) = false := decide_eq_false (by omega)
        go_wp2_with fail
        go_quiet (fail)
        go_wp2
        go_roundw
        case rel => exact ⟨k + 1, by omega, by go_num, fun j hj => by simpa using HC.out j hj, Em.below_drewN hbel nq, fun j hj => by rcases Nat.lt_succ_iff_lt_or_eq.1 hj with h | rfl; exact HD.out j h; rw [← HM.out]; exact HF.out⟩
        case measure => simp [intOf]; omega
    · have HF : Hid (Em4.sgn L = []) := sgn_none fun j hj => HD.out j (by omega)
      go_wp2
      go_ret
      exact ⟨⟨_, rfl, by rw [HF.out]; exact ⟨rfl, by simp⟩⟩, hbel⟩
end Go.Proofs.YtoekhejpompjlaaDoor

namespace Go.Proofs.YtoekhejpompjlaaDoor
open Go.RowKit
set_option linter.unusedSimpArgs false

theorem dgt_true {c : Int} (h : Em4.dgt c = true) : 48 ≤ c ∧ c ≤ 57 := by
  simpa [Em4.dgt] using h
theorem pow18 : (10 : Int) ^ 18 = 1000000000000000000 := by decide
theorem dec_17 {L : List Int} {k : Nat} (hk : k ≤ 17) (hl : k ≤ L.length) (h : ∀ j, j < k → Em4.dgt (L[j]?.getD 0) = true) : 0 ≤ Em4.dec (L.take k) ∧ Em4.dec (L.take k) ≤ 99999999999999999 := by
  have h1 := Em4.dec_bd k L hl h
  have h2 : (10 : Nat) ^ k ≤ 10 ^ 17 := Nat.pow_le_pow_right (by omega) hk
  have h3 : (10 : Nat) ^ 17 = 100000000000000000 := by decide
  have h4 : ((10 : Nat) ^ k : Int) = (10 : Int) ^ k := by simp
  have h5 : (((10 : Nat) ^ k : Nat) : Int) = (10 : Int) ^ k := by simp
  omega
theorem dec_18 {L : List Int} {k : Nat} (hk : k ≤ 18) (hl : k ≤ L.length) (h : ∀ j, j < k → Em4.dgt (L[j]?.getD 0) = true) : 0 ≤ Em4.dec (L.take k) ∧ Em4.dec (L.take k) ≤ 999999999999999999 := by
  have h1 := Em4.dec_bd k L hl h
  have h2 : (10 : Nat) ^ k ≤ 10 ^ 18 := Nat.pow_le_pow_right (by omega) hk
  have h3 : (10 : Nat) ^ 18 = 1000000000000000000 := by decide
  have h5 : (((10 : Nat) ^ k : Nat) : Int) = (10 : Int) ^ k := by simp
  omega

set_option maxRecDepth 100000 in
set_option maxHeartbeats 2000000 in
theorem rnumber_any (s : ByteArray) (L : List Int) (w : World) (hs : Em.IsStr s L) (hm : s.size ≤ 9223372036854775807) (hp : 1 ≤ s.size) :
    Calls Tryd.prog 52 #[.string s] w fun e w' => LexGot e (Em4.numAt L) ∧ Below w.heap.size w w' := by
  have HS : Hid (Em.IsStr s L) := hs
  have HZ : Hid (s.size = L.length) := hs.size
  have hbel : Below w.heap.size w (w.alloc (.cells #[.int .i64 0, .string ⟨#[]⟩, .int .i64 0, .int .i64 0] 49)) := (Below.refl _ _).alloc (Nat.le_refl _) _
  clear hs
  go_enter Tryd.func52, Tryd.ntmps52
  go_wp2
  go_loop [4, 5] (fun i x => ∃ (k : Nat) (v : Int), k ≤ s.size ∧ i = .int .i64 k ∧ x = .int .i64 v ∧ 0 ≤ v ∧ v ≤ 999999999999999999 ∧ Hid (k ≤ 18 → v = Em4.dec (L.take k)) ∧ Hid (∀ j, j < k → Em4.dgt (L[j]?.getD 0) = true)) (fun i _ => s.size - (intOf i).toNat)
  case atStart => exact ⟨0, 0, Nat.zero_le _, rfl, rfl, by omega, by omega, fun _ => rfl, fun j h => by omega⟩
  case round =>
    obtain ⟨k, v, hk, rfl, rfl, hv0, hv1, HV, HD⟩ := hrel
    have exits : (k < s.size → Em4.dgt (L[k]?.getD 0) = false) → Hid (Em4.numAt L = if 18 < k ∨ (1 < k ∧ L[0]?.getD 0 = 48) then none else some (2, [], v, k)) := by
      intro h
      have h1 : Em4.span Em4.dgt L = k := Em4.span_eq (by have := HZ.out; omega) HD.out (fun h2 => h (by have := HZ.out; omega))
      rw [Hid, Em4.numAt, h1]
      have h2 : L.head? = some 48 ↔ L[0]?.getD 0 = 48 := by
        cases L with
        | nil => simp
        | cons c r => simp
      simp only [h2]
      split
      · rfl
      · rw [HV.out (by omega)]
    by_cases hlt : k < s.size
    · have hch := HS.out.get k hlt
      obtain ⟨c, hc⟩ : ∃ c, c = L[k]?.getD 0 := ⟨_, rfl⟩
      rw [← hc] at hch exits
      cases h1 : Em4.dgt c with
      | true =>
        obtain ⟨c48, c57⟩ := dgt_true h1
        have HT : Hid (∀ j, j < k + 1 → Em4.dgt (L[j]?.getD 0) = true) := fun j hj => by
          by_cases hjk : j = k
          · subst hjk; rw [← hc]; exact h1
          · exact HD.out j (by omega)
        by_cases h18 : k < 18
        · have hb := dec_17 (L := L) (k := k) (by omega) (by have := HZ.out; omega) HD.out
          rw [← HV.out (by omega)] at hb
          have HN : Hid (10 * v + (c - 48) = Em4.dec (L.take (k + 1))) := by
            rw [Hid, Em4.take_snoc (by have := HZ.out; omega), Em4.dec_snoc, ← hc, ← HV.out (by omega)]
          obtain ⟨hb0, hb1⟩ := hb
          clear exits hc HV hv0 hv1
          go_wp2_with (go_at_call 51; refine (rdigit_any _ _).mono ?_; rintro e w' ⟨rfl, rfl⟩)
          go_round
          case rel => exact ⟨k + 1, 10 * v + (c - 48), by omega, by go_num, rfl, by omega, by omega, fun _ => HN.out, HT⟩
          case measure => simp [intOf]; omega
        · clear exits hc HV
          go_wp2_with (go_at_call 51; refine (rdigit_any _ _).mono ?_; rintro e w' ⟨rfl, rfl⟩)
          go_round
          case rel => exact ⟨k + 1, v, by omega, by go_num, rfl, by omega, by omega, fun h => by omega, HT⟩
          case measure => simp [intOf]; omega
      | false =>
        have HX := exits (fun _ => h1)
        clear exits hc HV HD
        have hch0 := HS.out.get 0 (by omega)
        obtain ⟨c0, hc0⟩ : ∃ c0, c0 = L[0]?.getD 0 := ⟨_, rfl⟩
        rw [← hc0] at hch0 HX
        clear hc0
        by_cases h18 : 18 < k
        · have HR : Hid (Em4.numAt L = none) := by rw [Hid, HX.out, if_pos (Or.inl h18)]
          go_wp2_with (go_at_call 51; refine (rdigit_any _ _).mono ?_; rintro e w' ⟨rfl, rfl⟩)
          refine bodyPost_ret (v := .tuple #[tokV 0 ⟨#[]⟩ 0 0, .int .i64 0]) (by simp [results, Tryd.results52, go_sem]) rfl ⟨?_, ?_⟩
          · rw [HR.out]; exact ⟨_, _, _, _, rfl, rfl⟩
          · first | exact Em.below_set4 hbel (Nat.le_refl _) _ _ _ _ | exact (Below.refl _ _).alloc (Nat.le_refl _) _
        by_cases hk1 : 1 < k
        · by_cases h48 : c0 = 48
          · have HR : Hid (Em4.numAt L = none) := by rw [Hid, HX.out, if_pos (Or.inr ⟨hk1, h48⟩)]
            have h48' : (c0 == 48) = true := by simpa using h48
            clear h48
            go_wp2_with (go_at_call 51; refine (rdigit_any _ _).mono ?_; rintro e w' ⟨rfl, rfl⟩)
            refine bodyPost_ret (v := .tuple #[tokV 0 ⟨#[]⟩ 0 0, .int .i64 0]) (by simp [results, Tryd.results52, go_sem]) rfl ⟨?_, ?_⟩
            · rw [HR.out]; exact ⟨_, _, _, _, rfl, rfl⟩
            · first | exact Em.below_set4 hbel (Nat.le_refl _) _ _ _ _ | exact (Below.refl _ _).alloc (Nat.le_refl _) _
          · have HR : Hid (Em4.numAt L = some (2, [], v, k)) := by rw [Hid, HX.out, if_neg (by omega)]
            have h48' : (c0 == 48) = false := by simpa using h48
            clear h48
            go_wp2_with (go_at_call 51; refine (rdigit_any _ _).mono ?_; rintro e w' ⟨rfl, rfl⟩)
            refine bodyPost_ret (v := .tuple #[tokV 2 ⟨#[]⟩ v 0, .int .i64 k]) (by simp [results, Tryd.results52, go_sem]) rfl ⟨?_, ?_⟩
            · rw [HR.out]; exact ⟨_, _, _, _, rfl, rfl, ⟨rfl, by simp⟩, rfl, rfl⟩
            · first | exact Em.below_set4 hbel (Nat.le_refl _) _ _ _ _ | exact (Below.refl _ _).alloc (Nat.le_refl _) _
        · have HR : Hid (Em4.numAt L = some (2, [], v, k)) := by rw [Hid, HX.out, if_neg (by omega)]
          go_wp2_with (go_at_call 51; refine (rdigit_any _ _).mono ?_; rintro e w' ⟨rfl, rfl⟩)
          refine bodyPost_ret (v := .tuple #[tokV 2 ⟨#[]⟩ v 0, .int .i64 k]) (by simp [results, Tryd.results52, go_sem]) rfl ⟨?_, ?_⟩
          · rw [HR.out]; exact ⟨_, _, _, _, rfl, rfl, ⟨rfl, by simp⟩, rfl, rfl⟩
          · first | exact Em.below_set4 hbel (Nat.le_refl _) _ _ _ _ | exact (Below.refl _ _).alloc (Nat.le_refl _) _
    · have HX := exits (fun h => absurd h hlt)
      clear exits HV HD
      have hch0 := HS.out.get 0 (by omega)
      obtain ⟨c0, hc0⟩ : ∃ c0, c0 = L[0]?.getD 0 := ⟨_, rfl⟩
      rw [← hc0] at hch0 HX
      clear hc0
      by_cases h18 : 18 < k
      · have HR : Hid (Em4.numAt L = none) := by rw [Hid, HX.out, if_pos (Or.inl h18)]
        go_wp2
        refine bodyPost_ret (v := .tuple #[tokV 0 ⟨#[]⟩ 0 0, .int .i64 0]) (by simp [results, Tryd.results52, go_sem]) rfl ⟨?_, ?_⟩
        · rw [HR.out]; exact ⟨_, _, _, _, rfl, rfl⟩
        · first | exact Em.below_set4 hbel (Nat.le_refl _) _ _ _ _ | exact (Below.refl _ _).alloc (Nat.le_refl _) _
      by_cases hk1 : 1 < k
      · by_cases h48 : c0 = 48
        · have HR : Hid (Em4.numAt L = none) := by rw [Hid, HX.out, if_pos (Or.inr ⟨hk1, h48⟩)]
          have h48' : (c0 == 48) = true := by simpa using h48
          clear h48
          go_wp2
          refine bodyPost_ret (v := .tuple #[tokV 0 ⟨#[]⟩ 0 0, .int .i64 0]) (by simp [results, Tryd.results52, go_sem]) rfl ⟨?_, ?_⟩
          · rw [HR.out]; exact ⟨_, _, _, _, rfl, rfl⟩
          · first | exact Em.below_set4 hbel (Nat.le_refl _) _ _ _ _ | exact (Below.refl _ _).alloc (Nat.le_refl _) _
        · have HR : Hid (Em4.numAt L = some (2, [], v, k)) := by rw [Hid, HX.out, if_neg (by omega)]
          have h48' : (c0 == 48) = false := by simpa using h48
          clear h48
          go_wp2
          refine bodyPost_ret (v := .tuple #[tokV 2 ⟨#[]⟩ v 0, .int .i64 k]) (by simp [results, Tryd.results52, go_sem]) rfl ⟨?_, ?_⟩
          · rw [HR.out]; exact ⟨_, _, _, _, rfl, rfl, ⟨rfl, by simp⟩, rfl, rfl⟩
          · first | exact Em.below_set4 hbel (Nat.le_refl _) _ _ _ _ | exact (Below.refl _ _).alloc (Nat.le_refl _) _
      · have HR : Hid (Em4.numAt L = some (2, [], v, k)) := by rw [Hid, HX.out, if_neg (by omega)]
        go_wp2
        refine bodyPost_ret (v := .tuple #[tokV 2 ⟨#[]⟩ v 0, .int .i64 k]) (by simp [results, Tryd.results52, go_sem]) rfl ⟨?_, ?_⟩
        · rw [HR.out]; exact ⟨_, _, _, _, rfl, rfl, ⟨rfl, by simp⟩, rfl, rfl⟩
        · first | exact Em.below_set4 hbel (Nat.le_refl _) _ _ _ _ | exact (Below.refl _ _).alloc (Nat.le_refl _) _
set_option maxRecDepth 100000 in
set_option maxHeartbeats 2000000 in
theorem rquoted_any (s : ByteArray) (L : List Int) (w : World) (hs : Em.IsStr s L) (hm : s.size ≤ 9223372036854775807) (hp : 1 ≤ s.size) :
    Calls Tryd.prog 53 #[.string s] w fun e w' => LexGot e (Em4.strAt L) ∧ Below w.heap.size w w' := by
  have HS : Hid (Em.IsStr s L) := hs
  have HZ : Hid (s.size = L.length) := hs.size
  have hbel : Below w.heap.size w (w.alloc (.cells #[.int .i64 0, .string ⟨#[]⟩, .int .i64 0, .int .i64 0] 49)) := (Below.refl _ _).alloc (Nat.le_refl _) _
  clear hs
  go_enter Tryd.func53, Tryd.ntmps53
  go_wp2
  go_loop [4] (fun i => ∃ k : Nat, 1 ≤ k ∧ k ≤ s.size ∧ i = .int .i64 k ∧ Hid (∀ j, j < k - 1 → (!decide ((L.drop 1)[j]?.getD 0 = 34)) = true)) (fun i => s.size - (intOf i).toNat)
  case atStart => exact ⟨1, Nat.le_refl _, hp, rfl, fun j h => by omega⟩
  case round =>
    obtain ⟨k, hk1, hk, rfl, HD⟩ := hrel
    have exits : (k < s.size → L[k]?.getD 0 = 34) → Hid (Em4.strAt L = if k = s.size ∨ Em4.textOk ((L.drop 1).take (k - 1)) = false then none else some (3, (L.drop 1).take (k - 1), 0, k + 1)) := by
      intro h
      have hz := HZ.out
      have h1 : Em4.span (fun c => !decide (c = 34)) (L.drop 1) = k - 1 := Em4.span_eq (by simp; omega) HD.out (fun h2 => by
        simp only [List.length_drop] at h2
        rw [List.getElem?_drop, show 1 + (k - 1) = k by omega, h (by omega)]; rfl)
      rw [Hid, Em4.strAt, h1]
      have h3 : (k - 1 = L.length - 1) ↔ (k = s.size) := by omega
      simp only [h3]
      rw [show k - 1 + 2 = k + 1 by omega]
    by_cases hlt : k < s.size
    · have hch := HS.out.get k hlt
      obtain ⟨c, hc⟩ : ∃ c, c = L[k]?.getD 0 := ⟨_, rfl⟩
      rw [← hc] at hch exits
      by_cases h34 : c = 34
      · have HX := exits (fun _ => h34)
        have h34' : (c == 34) = true := by simpa using h34
        have h34n : (c != 34) = false := by rw [bne, h34']; rfl
        have hks : ((k : Int) == (s.size : Int)) = false := by rw [beq_eq_false_iff_ne]; omega
        have hks' : ¬ k = s.size := by omega
        obtain ⟨M, hM⟩ : ∃ M, M = (L.drop 1).take (k - 1) := ⟨_, rfl⟩
        have HT : Hid (Em.IsStr (s.extract 1 k) M) := by rw [hM]; exact HS.out.extract 1 k
        rw [← hM] at HX
        have hml : M.length = k - 1 := by rw [hM]; have := HZ.out; simp; omega
        have hxs : (s.extract 1 k).size ≤ 9223372036854775807 := by rw [HT.out.size, hml]; omega
        clear exits hc HD h34 hM hml
        cases ht : Em4.textOk M with
        | true =>
          have HR : Hid (Em4.strAt L = some (3, M, 0, k + 1)) := by rw [Hid, HX.out, if_neg (by rw [ht]; simp [hks'])]
          go_wp2_with (go_at_call 42; refine (rtext_any _ _ _ HT.out hxs).mono ?_; rintro e w' ⟨rfl, rfl⟩)
          refine bodyPost_ret (v := .tuple #[tokV 3 (s.extract 1 k) 0 0, .int .i64 (k + 1)]) (by simp [results, Tryd.results53, go_sem]) rfl ⟨?_, ?_⟩
          · rw [HR.out]; exact ⟨_, _, _, _, rfl, rfl, HT.out, rfl, by simp⟩
          · first | exact Em.below_set4 hbel (Nat.le_refl _) _ _ _ _ | exact (Below.refl _ _).alloc (Nat.le_refl _) _
        | false =>
          have HR : Hid (Em4.strAt L = none) := by rw [Hid, HX.out, if_pos (Or.inr ht)]
          go_wp2_with (go_at_call 42; refine (rtext_any _ _ _ HT.out hxs).mono ?_; rintro e w' ⟨rfl, rfl⟩)
          refine bodyPost_ret (v := .tuple #[tokV 0 ⟨#[]⟩ 0 0, .int .i64 0]) (by simp [results, Tryd.results53, go_sem]) rfl ⟨?_, ?_⟩
          · rw [HR.out]; exact ⟨_, _, _, _, rfl, rfl⟩
          · first | exact Em.below_set4 hbel (Nat.le_refl _) _ _ _ _ | exact (Below.refl _ _).alloc (Nat.le_refl _) _
      · have h34' : (c == 34) = false := by simpa using h34
        have h34n : (c != 34) = true := by rw [bne, h34']; rfl
        have HT : Hid (∀ j, j < (k + 1) - 1 → (!decide ((L.drop 1)[j]?.getD 0 = 34)) = true) := fun j hj => by
          by_cases hjk : j = k - 1
          · subst hjk; rw [List.getElem?_drop, show 1 + (k - 1) = k by omega, ← hc]; simpa using h34
          · exact HD.out j (by omega)
        clear exits hc HD h34
        go_wp2
        go_round
        case rel => exact ⟨k + 1, by omega, by omega, by go_num, HT⟩
        case measure => simp [intOf]; omega
    · have HX := exits (fun h => absurd h hlt)
      have hke : k = s.size := by omega
      have HR : Hid (Em4.strAt L = none) := by rw [Hid, HX.out, if_pos (Or.inl hke)]
      have hks : ((k : Int) == (s.size : Int)) = true := by rw [beq_iff_eq]; omega
      clear exits HD hke
      go_wp2
      refine bodyPost_ret (v := .tuple #[tokV 0 ⟨#[]⟩ 0 0, .int .i64 0]) (by simp [results, Tryd.results53, go_sem]) rfl ⟨?_, ?_⟩
      · rw [HR.out]; exact ⟨_, _, _, _, rfl, rfl⟩
      · first | exact Em.below_set4 hbel (Nat.le_refl _) _ _ _ _ | exact (Below.refl _ _).alloc (Nat.le_refl _) _
end Go.Proofs.YtoekhejpompjlaaDoor

namespace Go.Proofs.YtoekhejpompjlaaDoor
open Go.RowKit
set_option linter.unusedSimpArgs false

set_option maxRecDepth 100000 in
set_option maxHeartbeats 2000000 in
theorem rone_any (s : ByteArray) (c : Int) (r : List Int) (w : World) (hs : Em.IsStr s (c :: r)) (hm : s.size ≤ 9223372036854775807) :
    Calls Tryd.prog 32 #[.string s] w fun e w' => LexGot e (Em4.tokAt (c :: r)) ∧ Below w.heap.size w w' := by
  have HS : Hid (Em.IsStr s (c :: r)) := hs
  have hp : 1 ≤ s.size := by rw [hs.size]; simp
  have hch := hs.get 0 hp
  simp only [List.getElem?_cons_zero, Option.getD_some] at hch
  have hp' : 0 < s.size := hp
  have hbel : Below w.heap.size w (w.alloc (.cells #[.int .i64 0, .string ⟨#[]⟩, .int .i64 0, .int .i64 0] 49)) := (Below.refl _ _).alloc (Nat.le_refl _) _
  clear hs
  cases h1 : Em4.ltr c with
  | true =>
    have HR : Hid (Em4.tokAt (c :: r) = Em4.nameAt (c :: r)) := by simp [Hid, Em4.tokAt, h1]
    go_enter Tryd.func32, Tryd.ntmps32
    go_wp2_with (first | (go_at_call 49; refine (rsmall_any _ _).mono ?_; rintro e w' ⟨rfl, rfl⟩))
    refine (rname_any _ _ _ HS.out hm hp).mono ?_
    rintro e w1 ⟨⟨k, t, n, m, rfl, hr⟩, hb⟩
    obtain ⟨hc, hf⟩ := Em.bcell hb
    have hz : w.heap.size < w1.heap.size := by have := hb.size; simp at this; omega
    have hbel1 : Below w.heap.size w w1 := hbel.trans (hb.mono hbel.size)
    have HM : Hid (match Em4.nameAt (c :: r) with | none => m = 0 | some (k', t', n', m') => k = k' ∧ Em.IsStr t t' ∧ n = n' ∧ m = m') := hr
    clear hb hr hbel
    go_wp2
    refine bodyPost_ret (v := .tuple #[tokV k t n 0, .int .i64 m]) (by simp [results, Tryd.results32, go_sem, hc, hz]) rfl ⟨?_, ?_⟩
    · rw [HR.out]; exact ⟨_, _, _, _, rfl, HM.out⟩
    · exact Em.below_set4 hbel1 (Nat.le_refl _) _ _ _ _
  | false =>
    cases h2 : Em4.dgt c with
    | true =>
      have HR : Hid (Em4.tokAt (c :: r) = Em4.numAt (c :: r)) := by simp [Hid, Em4.tokAt, h1, h2]
      go_enter Tryd.func32, Tryd.ntmps32
      go_wp2_with (first | (go_at_call 49; refine (rsmall_any _ _).mono ?_; rintro e w' ⟨rfl, rfl⟩) | (go_at_call 51; refine (rdigit_any _ _).mono ?_; rintro e w' ⟨rfl, rfl⟩))
      refine (rnumber_any _ _ _ HS.out hm hp).mono ?_
      rintro e w1 ⟨⟨k, t, n, m, rfl, hr⟩, hb⟩
      obtain ⟨hc, hf⟩ := Em.bcell hb
      have hz : w.heap.size < w1.heap.size := by have := hb.size; simp at this; omega
      have hbel1 : Below w.heap.size w w1 := hbel.trans (hb.mono hbel.size)
      have HM : Hid (match Em4.numAt (c :: r) with | none => m = 0 | some (k', t', n', m') => k = k' ∧ Em.IsStr t t' ∧ n = n' ∧ m = m') := hr
      clear hb hr hbel
      go_wp2
      refine bodyPost_ret (v := .tuple #[tokV k t n 0, .int .i64 m]) (by simp [results, Tryd.results32, go_sem, hc, hz]) rfl ⟨?_, ?_⟩
      · rw [HR.out]; exact ⟨_, _, _, _, rfl, HM.out⟩
      · exact Em.below_set4 hbel1 (Nat.le_refl _) _ _ _ _
    | false =>
      by_cases h34 : c = 34
      · have HR : Hid (Em4.tokAt (c :: r) = Em4.strAt (c :: r)) := by simp only [Hid, Em4.tokAt, h1, h2]; simp [h34]
        have h34' : (c == 34) = true := by simpa using h34
        clear h34
        go_enter Tryd.func32, Tryd.ntmps32
        go_wp2_with (first | (go_at_call 49; refine (rsmall_any _ _).mono ?_; rintro e w' ⟨rfl, rfl⟩) | (go_at_call 51; refine (rdigit_any _ _).mono ?_; rintro e w' ⟨rfl, rfl⟩))
        refine (rquoted_any _ _ _ HS.out hm hp).mono ?_
        rintro e w1 ⟨⟨k, t, n, m, rfl, hr⟩, hb⟩
        obtain ⟨hc, hf⟩ := Em.bcell hb
        have hz : w.heap.size < w1.heap.size := by have := hb.size; simp at this; omega
        have hbel1 : Below w.heap.size w w1 := hbel.trans (hb.mono hbel.size)
        have HM : Hid (match Em4.strAt (c :: r) with | none => m = 0 | some (k', t', n', m') => k = k' ∧ Em.IsStr t t' ∧ n = n' ∧ m = m') := hr
        clear hb hr hbel
        go_wp2
        refine bodyPost_ret (v := .tuple #[tokV k t n 0, .int .i64 m]) (by simp [results, Tryd.results32, go_sem, hc, hz]) rfl ⟨?_, ?_⟩
        · rw [HR.out]; exact ⟨_, _, _, _, rfl, HM.out⟩
        · exact Em.below_set4 hbel1 (Nat.le_refl _) _ _ _ _
      · have HR : Hid (Em4.tokAt (c :: r) = Em4.sgnAt (c :: r)) := by simp only [Hid, Em4.tokAt, h1, h2]; simp [h34]
        have h34' : (c == 34) = false := by simpa using h34
        clear h34
        go_enter Tryd.func32, Tryd.ntmps32
        go_wp2_with (first | (go_at_call 49; refine (rsmall_any _ _).mono ?_; rintro e w' ⟨rfl, rfl⟩) | (go_at_call 51; refine (rdigit_any _ _).mono ?_; rintro e w' ⟨rfl, rfl⟩))
        refine (rsign_any _ _ _ HS.out).mono ?_
        rintro e w1 ⟨⟨t, rfl, ht⟩, hb⟩
        obtain ⟨hc, hf⟩ := Em.bcell hb
        have hz : w.heap.size < w1.heap.size := by have := hb.size; simp at this; omega
        have hbel1 : Below w.heap.size w w1 := hbel.trans (hb.mono hbel.size)
        have HT : Hid (Em.IsStr t (Em4.sgn (c :: r))) := ht
        have HM : Hid (t.size = (Em4.sgn (c :: r)).length) := ht.size
        clear hb ht hbel
        go_wp2
        refine bodyPost_ret (v := .tuple #[tokV 4 t 0 0, .int .i64 t.size]) (by simp [results, Tryd.results32, go_sem, hc, hz]) rfl ⟨?_, ?_⟩
        · rw [HR.out]
          refine ⟨_, _, _, _, rfl, ?_⟩
          unfold Em4.sgnAt
          by_cases hn : Em4.sgn (c :: r) = []
          · rw [if_pos hn]; simp [HM.out, hn]
          · rw [if_neg hn]; exact ⟨rfl, HT.out, rfl, by rw [HM.out]⟩
        · exact Em.below_set4 hbel1 (Nat.le_refl _) _ _ _ _
end Go.Proofs.YtoekhejpompjlaaDoor

namespace Go.Proofs.YtoekhejpompjlaaDoor
open Go.RowKit
set_option linter.unusedSimpArgs false

set_option maxRecDepth 100000 in
set_option maxHeartbeats 1000000 in
theorem rName_any (s : ByteArray) (L : List Int) (w : World) (hs : Em.IsStr s L) (hm : s.size ≤ 9223372036854775807) :
    Calls Tryd.prog 41 #[.string s] w fun e w' => e = .returned (.bool (Em4.nameOk L)) ∧ Below w.heap.size w w' := by
  have HS : Hid (Em.IsStr s L) := hs
  have HZ : Hid (s.size = L.length) := hs.size
  cases L with
  | nil =>
    have hz : s.size = 0 := hs.size
    have hz' : ((s.size : Int) == 0) = true := by rw [hz]; rfl
    clear hs hz
    go_enter Tryd.func41, Tryd.ntmps41
    go_wp2_with fail
    go_ret
    exact ⟨rfl, Below.refl _ _⟩
  | cons c r =>
    have hp : 1 ≤ s.size := by rw [hs.size]; simp
    have hp' : 0 < s.size := hp
    have hz' : ((s.size : Int) == 0) = false := by rw [beq_eq_false_iff_ne]; omega
    have hch := hs.get 0 hp
    simp only [List.getElem?_cons_zero, Option.getD_some] at hch
    clear hs
    cases h1 : Em4.ltr c with
    | false =>
      have HR : Hid (Em4.nameOk (c :: r) = false) := by simp [Hid, Em4.nameOk, h1]
      go_enter Tryd.func41, Tryd.ntmps41
      go_wp2_with (go_at_call 49; refine (rsmall_any _ _).mono ?_; rintro e w' ⟨rfl, rfl⟩)
      go_ret
      exact ⟨by rw [HR.out]; rfl, Below.refl _ _⟩
    | true =>
      go_enter Tryd.func41, Tryd.ntmps41
      go_wp2_with (go_at_call 49; refine (rsmall_any _ _).mono ?_; rintro e w' ⟨rfl, rfl⟩)
      refine (rname_any _ _ _ HS.out hm hp).mono ?_
      rintro e w1 ⟨⟨k, t, n, m, rfl, hr⟩, hb⟩
      have HR : Hid (Em4.nameOk (c :: r) = (decide (m = (s.size : Int)) && decide (k = 1))) := by
        have hz := HZ.out
        have h0 : s.size ≠ 0 := by omega
        unfold Hid Em4.nameOk
        simp only [h1, Bool.true_and]
        cases hn : Em4.nameAt (c :: r) with
        | none =>
          rw [hn] at hr
          simp only at hr ⊢
          have : ¬ m = (s.size : Int) := by omega
          simp [this]
        | some q =>
          obtain ⟨k', t', n', m'⟩ := q
          rw [hn] at hr
          obtain ⟨rfl, -, -, rfl⟩ := hr
          simp only
          rw [Bool.and_comm]
          congr 1
          rw [decide_eq_decide, hz]
          omega
      clear hr
      by_cases hms : m = (s.size : Int)
      · have hms' : (m == (s.size : Int)) = true := by rw [beq_iff_eq]; exact hms
        have HR2 : Hid (Em4.nameOk (c :: r) = (k == 1)) := by rw [Hid, HR.out, decide_eq_true hms, Bool.true_and]; rfl
        clear hms
        go_wp2
        all_goals
          go_ret
          exact ⟨by rw [HR2.out]; first | rfl | (simp [*]; done), hb.alloc hb.size _⟩
      · have hms' : (m == (s.size : Int)) = false := by rw [beq_eq_false_iff_ne]; exact hms
        have HR2 : Hid (Em4.nameOk (c :: r) = false) := by rw [Hid, HR.out, decide_eq_false hms, Bool.false_and]
        clear hms
        go_wp2
        all_goals
          go_ret
          exact ⟨by rw [HR2.out]; rfl, hb.alloc hb.size _⟩
end Go.Proofs.YtoekhejpompjlaaDoor

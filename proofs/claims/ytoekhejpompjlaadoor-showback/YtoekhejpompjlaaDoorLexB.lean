/- What lex.Words, and what slices.Contains and strings.HasPrefix, of texts, answer. -/
import Derived.Test.YtoekhejpompjlaaDoorLexA
import Derived.Test.YtoekhejpompjlaaDoorStrs
namespace Go.Proofs.YtoekhejpompjlaaDoor
open Go.RowKit
set_option linter.unusedSimpArgs false

set_option maxRecDepth 100000 in
set_option maxHeartbeats 1000000 in
theorem lwords_any (w : World) :
    Calls Tryd.prog 94 #[] w fun e w' => e = .returned (.slice (some ⟨w.heap.size, 0, none⟩) 22 22) ∧ w' = w.alloc (.cells wordsV 9) := by
  go_enter Tryd.func94, Tryd.ntmps94
  go_wp2
  go_ret
  exact ⟨rfl, rfl⟩
theorem words_txt : ∀ l ∈ Em4.words, Em5.Txt l := by
  intro l hl
  have h1 : ∀ l ∈ Em4.words, (∀ x ∈ l, 0 ≤ x ∧ x ≤ 255) ∧ l.length ≤ 5 := by decide
  obtain ⟨a, b⟩ := h1 l hl
  exact ⟨a, by omega⟩
/-- The words in a new block are the words. -/
theorem words_is (w : World) {g : Nat} (hg : g = w.heap.size) : IsStrs (w.alloc (.cells wordsV 9)) (.slice (some ⟨g, 0, none⟩) 22 22) Em4.words := by
  subst hg
  refine ⟨_, 22, rfl, Nat.le_refl _, by simp [maxLen], (fun h => by cases h), words_txt, fun j t hj => ⟨_, rfl, ?_⟩⟩
  have hl : j < 22 := (List.getElem?_eq_some_iff.1 hj).1
  have := words_cell w j hl
  rw [hj] at this
  have e : (⟨w.heap.size, 0, none⟩ : Addr).add j = ⟨w.heap.size, j, none⟩ := by unfold Addr.add; split <;> simp_all
  rw [e]; exact this

set_option maxRecDepth 100000 in
set_option maxHeartbeats 1000000 in
theorem index_any (v : Value) (l : List (List Int)) (x : List Int) (w : World) (hv : IsStrs w v l) (hx : Em5.Txt x) :
    Calls Tryd.prog 98 #[v, .string (Em.str x)] w fun e w' => (∃ r : Int, e = .returned (.int .i64 r) ∧ (0 ≤ r ↔ x ∈ l)) ∧ w' = w := by
  have hlen := hv.len
  by_cases hp : 0 < l.length
  · obtain ⟨b, off, cap, rfl, -, -, -, hc⟩ := hv.plain hp
    have HC : Hid (∀ j t, l[j]? = some t → w.cell? ⟨b, off + j, none⟩ = some (.string (Em.str t))) := hc
    have HT : Hid (∀ t ∈ l, Em5.Txt t) := hv.txt
    clear hc hv
    go_enter Tryd.func98, Tryd.ntmps98
    go_wp2
    go_loop [8] (fun i => ∃ k : Nat, k ≤ l.length ∧ i = .int .i64 k ∧ Hid (∀ j t, j < k → l[j]? = some t → t ≠ x)) (fun i => l.length - (intOf i).toNat)
    case atStart => exact ⟨0, Nat.zero_le _, rfl, fun j t h => by omega⟩
    case round =>
      obtain ⟨k, hk, rfl, HD⟩ := hrel
      by_cases hlt : k < l.length
      · obtain ⟨t, ht⟩ : ∃ t, l[k]? = some t := ⟨_, List.getElem?_eq_getElem hlt⟩
        have hcell := HC.out k t ht
        have hq := (Em.isStr_str hx.1).beq (Em.isStr_str (HT.out t (List.mem_of_getElem? ht)).1)
        have HTT : Hid (l[k]? = some t) := ht
        clear ht
        by_cases he : x = t
        · rw [decide_eq_true he] at hq
          have HF : Hid ((0 : Int) ≤ (k : Int) ↔ x ∈ l) := ⟨fun _ => by rw [he]; exact List.mem_of_getElem? HTT.out, fun _ => by omega⟩
          clear he
          go_wp2
          go_ret
          exact ⟨⟨k, rfl, HF.out⟩, rfl⟩
        · rw [decide_eq_false he] at hq
          have HE : Hid (t ≠ x) := fun h => he h.symm
          clear he
          go_wp2
          go_round
          case rel =>
            refine ⟨k + 1, by omega, by go_num, fun j t' hj ht' => ?_⟩
            by_cases hjk : j = k
            · subst hjk; rw [HTT.out] at ht'; cases ht'; exact HE.out
            · exact HD.out j t' (by omega) ht'
          case measure => simp [intOf]; omega
      · have HF : Hid ((0 : Int) ≤ -1 ↔ x ∈ l) := by
          refine ⟨fun h => absurd h (by omega), fun hm => ?_⟩
          exfalso
          obtain ⟨j, hj, he⟩ := List.getElem_of_mem hm
          exact HD.out j x (by omega) (by rw [List.getElem?_eq_getElem hj, he]) rfl
        go_wp2
        go_ret
        exact ⟨⟨-1, rfl, HF.out⟩, rfl⟩
  · have hl0 : l = [] := List.length_eq_zero_iff.1 (by omega)
    subst hl0
    obtain ⟨a, cap, rfl⟩ := hv.empty
    clear hv
    go_enter Tryd.func98, Tryd.ntmps98
    go_wp2
    refine wp_loop_rounds 1 ?_
    rw [rounds_succ]
    go_wp2
    go_ret
    exact ⟨⟨-1, rfl, by simp⟩, rfl⟩

set_option maxRecDepth 100000 in
set_option maxHeartbeats 1000000 in
theorem contains_any (v : Value) (l : List (List Int)) (x : List Int) (w : World) (hv : IsStrs w v l) (hx : Em5.Txt x) :
    Calls Tryd.prog 93 #[v, .string (Em.str x)] w fun e w' => e = .returned (.bool (decide (x ∈ l))) ∧ w' = w := by
  go_enter Tryd.func93, Tryd.ntmps93
  go_wp2_with fail
  refine (index_any _ l x _ hv hx).mono ?_
  rintro e w1 ⟨⟨r, rfl, hr⟩, rfl⟩
  have HR : Hid (decide (0 ≤ r) = decide (x ∈ l)) := decide_eq_decide.2 hr
  clear hr
  go_wp2
  go_ret
  exact ⟨Em.ret_bool (by simpa using HR.out), rfl⟩

set_option maxRecDepth 100000 in
set_option maxHeartbeats 1000000 in
theorem hasPrefix0_any (s t : ByteArray) (L M : List Int) (w : World) (hs : Em.IsStr s L) (ht : Em.IsStr t M) (hmt : t.size ≤ 9223372036854775807) :
    Calls Tryd.prog 99 #[.string s, .string t] w fun e w' => e = .returned (.bool (M.isPrefixOf L)) ∧ w' = w := by
  have HP : Hid (M.isPrefixOf L = true ↔ t.size ≤ s.size ∧ L.take t.size = M) := by
    have h1 := ht.size
    have h2 := hs.size
    rw [List.isPrefixOf_iff_prefix, List.prefix_iff_eq_take, h1, h2]
    constructor
    · intro h
      refine ⟨?_, h.symm⟩
      have := congrArg List.length h
      rw [List.length_take] at this
      omega
    · intro h; exact h.2.symm
  have hq := (hs.extract 0 t.size).beq ht
  simp only [List.drop_zero, Nat.sub_zero] at hq
  clear hs ht
  go_enter Tryd.func99, Tryd.ntmps99
  by_cases hsz : t.size ≤ s.size
  · have hsz1 : (t.size : Int) ≤ (s.size : Int) := by omega
    have hsz0 : (0 : Int) ≤ (t.size : Int) := by omega
    by_cases he : L.take t.size = M
    · rw [decide_eq_true he] at hq
      have HF : Hid (M.isPrefixOf L = true) := HP.out.2 ⟨hsz, he⟩
      clear he
      go_wp2
      go_ret
      exact ⟨by rw [HF.out]; rfl, rfl⟩
    · rw [decide_eq_false he] at hq
      have HF : Hid (M.isPrefixOf L = false) := by
        rw [Hid, Bool.eq_false_iff]; intro h; exact he (HP.out.1 h).2
      clear he
      go_wp2
      go_ret
      exact ⟨by rw [HF.out]; rfl, rfl⟩
  · have HF : Hid (M.isPrefixOf L = false) := by
      rw [Hid, Bool.eq_false_iff]; intro h; exact hsz (HP.out.1 h).1
    clear hq
    go_wp2
    go_ret
    exact ⟨by rw [HF.out]; rfl, rfl⟩

theorem hasPrefix_any (s t : ByteArray) (L M : List Int) (w : World) (hs : Em.IsStr s L) (ht : Em.IsStr t M) (hmt : t.size ≤ 9223372036854775807) :
    Calls Tryd.prog 96 #[.string s, .string t] w fun e w' => e = .returned (.bool (M.isPrefixOf L)) ∧ w' = w := by
  go_enter Tryd.func96, Tryd.ntmps96
  go_wp2_with fail
  refine (hasPrefix0_any _ _ L M _ hs ht hmt).mono ?_
  rintro e w1 ⟨rfl, rfl⟩
  go_wp2
  go_ret
  exact ⟨rfl, rfl⟩
end Go.Proofs.YtoekhejpompjlaaDoor

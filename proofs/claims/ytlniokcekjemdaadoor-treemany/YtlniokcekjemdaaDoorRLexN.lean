/- What the document's own 'name', 'number', 'quoted' and 'one' answer. -/
import Derived.Test.YtlniokcekjemdaaDoorRLexA
namespace Go.Proofs.YtlniokcekjemdaaDoor
open Go.RowKit
set_option linter.unusedSimpArgs false

/-- A token as a value. -/
abbrev tokV (k : Int) (s : ByteArray) (n p : Int) : Value := .agg #[.int .i64 k, .string s, .int .i64 n, .int .i64 p]
/-- What a function that reads one token hands back. -/
def LexGot (e : Ending) (r : Option (Int × List Int × Int × Nat)) : Prop :=
  ∃ k s n m, e = .returned (.tuple #[tokV k s n 0, .int .i64 m]) ∧ match r with
    | none => m = 0
    | some (k', t, n', m') => k = k' ∧ Em.IsStr s t ∧ n = n' ∧ m = m'

set_option maxRecDepth 100000 in
set_option maxHeartbeats 2000000 in
theorem rname_any (s : ByteArray) (L : List Int) (w : World) (hs : Em.IsStr s L) (hm : s.size ≤ 9223372036854775807) (hp : 1 ≤ s.size) :
    Calls Tryd.prog 46 #[.string s] w fun e w' => LexGot e (Em4.nameAt L) ∧ Below w.heap.size w w' := by
  have HS : Hid (Em.IsStr s L) := hs
  have HZ : Hid (s.size = L.length) := hs.size
  clear hs
  go_enter Tryd.func46, Tryd.ntmps46
  go_wp2
  go_loop [4] (fun i => ∃ k : Nat, 1 ≤ k ∧ k ≤ s.size ∧ i = .int .i64 k ∧ Hid (∀ j, j < k - 1 → Em4.nmc ((L.drop 1)[j]?.getD 0) = true)) (fun i => s.size - (intOf i).toNat)
  case atStart => exact ⟨1, Nat.le_refl _, hp, rfl, fun j h => by omega⟩
  case round =>
    obtain ⟨k, hk1, hk, rfl, HD⟩ := hrel
    by_cases hlt : k < s.size
    · have hch := HS.out.get k hlt
      obtain ⟨c, hc⟩ : ∃ c, c = L[k]?.getD 0 := ⟨_, rfl⟩
      rw [← hc] at hch
      have HC : Hid (c = (L.drop 1)[k - 1]?.getD 0) := by rw [Hid, hc, List.getElem?_drop, show 1 + (k - 1) = k by omega]
      clear hc
      have stepT : Em4.nmc c = true → Hid (∀ j, j < (k + 1) - 1 → Em4.nmc ((L.drop 1)[j]?.getD 0) = true) := fun h j hj => by
        by_cases hjk : j = k - 1
        · subst hjk; rw [← HC.out]; exact h
        · exact HD.out j (by omega)
      cases h1 : Em4.ltr c with
      | true =>
        have HT := stepT (by simp [Em4.nmc, h1])
        clear stepT HC
        go_wp2_with (go_at_call 45; refine (rsmall_any _ _).mono ?_; rintro e w' ⟨rfl, rfl⟩)
        go_round
        case rel => exact ⟨k + 1, by omega, by omega, by go_num, HT⟩
        case measure => simp [intOf]; omega
      | false =>
        cases h2 : Em4.dgt c with
        | true =>
          have HT := stepT (by simp [Em4.nmc, h2])
          clear stepT HC
          go_wp2_with (first | (go_at_call 45; refine (rsmall_any _ _).mono ?_; rintro e w' ⟨rfl, rfl⟩) | (go_at_call 59; refine (rdigit_any _ _).mono ?_; rintro e w' ⟨rfl, rfl⟩))
          go_round
          case rel => exact ⟨k + 1, by omega, by omega, by go_num, HT⟩
          case measure => simp [intOf]; omega
        | false =>
          by_cases h3 : c = 95
          · have HT := stepT (by simp [Em4.nmc, h3])
            have h3' : (c == 95) = true := by simpa using h3
            clear stepT HC h3
            go_wp2_with (first | (go_at_call 45; refine (rsmall_any _ _).mono ?_; rintro e w' ⟨rfl, rfl⟩) | (go_at_call 59; refine (rdigit_any _ _).mono ?_; rintro e w' ⟨rfl, rfl⟩))
            go_round
            case rel => exact ⟨k + 1, by omega, by omega, by go_num, HT⟩
            case measure => simp [intOf]; omega
          have h3' : (c == 95) = false := by simpa using h3
          by_cases h4 : c = 39
          · have HT := stepT (by simp [Em4.nmc, h4])
            have h4' : (c == 39) = true := by simpa using h4
            clear stepT HC h3 h4
            go_wp2_with (first | (go_at_call 45; refine (rsmall_any _ _).mono ?_; rintro e w' ⟨rfl, rfl⟩) | (go_at_call 59; refine (rdigit_any _ _).mono ?_; rintro e w' ⟨rfl, rfl⟩))
            go_round
            case rel => exact ⟨k + 1, by omega, by omega, by go_num, HT⟩
            case measure => simp [intOf]; omega
          have h4' : (c == 39) = false := by simpa using h4
          have HN : Hid (Em4.nameAt L = if L.take k ∈ Em4.words then some (4, L.take k, 0, k) else if 12 < k then none else some (1, L.take k, 0, k)) := by
            have : 1 + Em4.span Em4.nmc (L.drop 1) = k := by
              have := Em4.span_eq (p := Em4.nmc) (L := L.drop 1) (n := k - 1) (by have := HZ.out; simp; omega) HD.out (fun _ => by rw [← HC.out]; simp [Em4.nmc, h1, h2, h3, h4])
              omega
            rw [Hid, Em4.nameAt, this]
          clear stepT HC h3 h4 HD
          go_wp2_with (first | (go_at_call 45; refine (rsmall_any _ _).mono ?_; rintro e w' ⟨rfl, rfl⟩) | (go_at_call 59; refine (rdigit_any _ _).mono ?_; rintro e w' ⟨rfl, rfl⟩))
          refine (rword_any _ _ _ (HS.out.extract 0 k)).mono ?_
          rintro e w1 ⟨rfl, hb⟩
          simp only [List.drop_zero, Nat.sub_zero]
          have HX : Hid (Em.IsStr (s.extract 0 k) (L.take k)) := by simpa [Hid] using HS.out.extract 0 k
          obtain ⟨hc, hf⟩ := Em.bcell hb
          have hz : w.heap.size < w1.heap.size := by have := hb.size; simp at this; omega
          have hbel : Below w.heap.size w w1 := ((Below.refl _ _).alloc (Nat.le_refl _) _).trans (hb.mono (by simp))
          clear hb
          by_cases hw : L.take k ∈ Em4.words
          · have HR : Hid (Em4.nameAt L = some (4, L.take k, 0, k)) := by rw [Hid, HN.out, if_pos hw]
            rw [decide_eq_true hw]
            clear hw
            go_wp2
            refine bodyPost_ret (v := .tuple #[tokV 4 (s.extract 0 k) 0 0, .int .i64 k]) (by simp [results, Tryd.results46, go_sem, hc, hz]) rfl ⟨?_, ?_⟩
            · rw [HR.out]; exact ⟨_, _, _, _, rfl, rfl, HX.out, rfl, rfl⟩
            · exact Em.below_set4 hbel (Nat.le_refl _) _ _ _ _
          by_cases h12 : 12 < k
          · have HR : Hid (Em4.nameAt L = none) := by rw [Hid, HN.out, if_neg hw, if_pos h12]
            rw [decide_eq_false hw]
            clear hw
            go_wp2
            refine bodyPost_ret (v := .tuple #[tokV 0 ⟨#[]⟩ 0 0, .int .i64 0]) (by simp [results, Tryd.results46, go_sem, hc, hz]) rfl ⟨?_, ?_⟩
            · rw [HR.out]; exact ⟨_, _, _, _, rfl, rfl⟩
            · exact Em.below_set4 hbel (Nat.le_refl _) _ _ _ _
          · have HR : Hid (Em4.nameAt L = some (1, L.take k, 0, k)) := by rw [Hid, HN.out, if_neg hw, if_neg h12]
            rw [decide_eq_false hw]
            clear hw
            go_wp2
            refine bodyPost_ret (v := .tuple #[tokV 1 (s.extract 0 k) 0 0, .int .i64 k]) (by simp [results, Tryd.results46, go_sem, hc, hz]) rfl ⟨?_, ?_⟩
            · rw [HR.out]; exact ⟨_, _, _, _, rfl, rfl, HX.out, rfl, rfl⟩
            · exact Em.below_set4 hbel (Nat.le_refl _) _ _ _ _
    · have HN : Hid (Em4.nameAt L = if L.take k ∈ Em4.words then some (4, L.take k, 0, k) else if 12 < k then none else some (1, L.take k, 0, k)) := by
        have : 1 + Em4.span Em4.nmc (L.drop 1) = k := by
          have := Em4.span_eq (p := Em4.nmc) (L := L.drop 1) (n := k - 1) (by have := HZ.out; simp; omega) HD.out (fun h => by have := HZ.out; simp at h; omega)
          omega
        rw [Hid, Em4.nameAt, this]
      clear HD
      go_wp2_with fail
      refine (rword_any _ _ _ (HS.out.extract 0 k)).mono ?_
      rintro e w1 ⟨rfl, hb⟩
      simp only [List.drop_zero, Nat.sub_zero]
      have HX : Hid (Em.IsStr (s.extract 0 k) (L.take k)) := by simpa [Hid] using HS.out.extract 0 k
      obtain ⟨hc, hf⟩ := Em.bcell hb
      have hz : w.heap.size < w1.heap.size := by have := hb.size; simp at this; omega
      have hbel : Below w.heap.size w w1 := ((Below.refl _ _).alloc (Nat.le_refl _) _).trans (hb.mono (by simp))
      clear hb
      by_cases hw : L.take k ∈ Em4.words
      · have HR : Hid (Em4.nameAt L = some (4, L.take k, 0, k)) := by rw [Hid, HN.out, if_pos hw]
        rw [decide_eq_true hw]
        clear hw
        go_wp2
        refine bodyPost_ret (v := .tuple #[tokV 4 (s.extract 0 k) 0 0, .int .i64 k]) (by simp [results, Tryd.results46, go_sem, hc, hz]) rfl ⟨?_, ?_⟩
        · rw [HR.out]; exact ⟨_, _, _, _, rfl, rfl, HX.out, rfl, rfl⟩
        · exact Em.below_set4 hbel (Nat.le_refl _) _ _ _ _
      by_cases h12 : 12 < k
      · have HR : Hid (Em4.nameAt L = none) := by rw [Hid, HN.out, if_neg hw, if_pos h12]
        rw [decide_eq_false hw]
        clear hw
        go_wp2
        refine bodyPost_ret (v := .tuple #[tokV 0 ⟨#[]⟩ 0 0, .int .i64 0]) (by simp [results, Tryd.results46, go_sem, hc, hz]) rfl ⟨?_, ?_⟩
        · rw [HR.out]; exact ⟨_, _, _, _, rfl, rfl⟩
        · exact Em.below_set4 hbel (Nat.le_refl _) _ _ _ _
      · have HR : Hid (Em4.nameAt L = some (1, L.take k, 0, k)) := by rw [Hid, HN.out, if_neg hw, if_neg h12]
        rw [decide_eq_false hw]
        clear hw
        go_wp2
        refine bodyPost_ret (v := .tuple #[tokV 1 (s.extract 0 k) 0 0, .int .i64 k]) (by simp [results, Tryd.results46, go_sem, hc, hz]) rfl ⟨?_, ?_⟩
        · rw [HR.out]; exact ⟨_, _, _, _, rfl, rfl, HX.out, rfl, rfl⟩
        · exact Em.below_set4 hbel (Nat.le_refl _) _ _ _ _
end Go.Proofs.YtlniokcekjemdaaDoor

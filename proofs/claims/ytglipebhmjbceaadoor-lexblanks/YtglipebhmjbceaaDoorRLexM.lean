/- What the document's own 'number' and 'quoted' answer. -/
import Derived.Test.YtglipebhmjbceaaDoorRLexN
namespace Go.Proofs.YtglipebhmjbceaaDoor
open Go.RowKit
set_option linter.unusedSimpArgs false

theorem dgt_true {c : Int} (h : Em4.dgt c = true) : 48 ≤ c ∧ c ≤ 57 := by
  simpa [Em4.dgt] using h
theorem pow18 : (10 : Int) ^ 18 = 1000000000000000000 := by decide
theorem dec_17 {L : List Int} {k : Nat} (hk : k ≤ 17) (hl : k ≤ L.length) (h : ∀ j, j < k → Em4.dgt (L[j]?.getD 0) = true) : 0 ≤ Em4.dec (L.take k) ∧ Em4.dec (L.take k) ≤ 99999999999999999 := by
  have h1 := Em4.dec_bd k L hl h
  have h2 : (10 : Nat) ^ k ≤ 10 ^ 17 := Nat.pow_le_pow_right (by omega) hk
  have h3 : (10 : Nat) ^ 17 = 100000000000000000 := by decide
  have h4 : ((10 : Nat) ^ k : Int) = (10 : Int) ^ k := by simp
  have h5 : (((10 : Nat) ^ k : Nat) : Int) = (10 : Int) ^ k := by simp
  omega
theorem dec_18 {L : List Int} {k : Nat} (hk : k ≤ 18) (hl : k ≤ L.length) (h : ∀ j, j < k → Em4.dgt (L[j]?.getD 0) = true) : 0 ≤ Em4.dec (L.take k) ∧ Em4.dec (L.take k) ≤ 999999999999999999 := by
  have h1 := Em4.dec_bd k L hl h
  have h2 : (10 : Nat) ^ k ≤ 10 ^ 18 := Nat.pow_le_pow_right (by omega) hk
  have h3 : (10 : Nat) ^ 18 = 1000000000000000000 := by decide
  have h5 : (((10 : Nat) ^ k : Nat) : Int) = (10 : Int) ^ k := by simp
  omega

set_option maxRecDepth 100000 in
set_option maxHeartbeats 2000000 in
theorem rnumber_any (s : ByteArray) (L : List Int) (w : World) (hs : Em.IsStr s L) (hm : s.size ≤ 9223372036854775807) (hp : 1 ≤ s.size) :
    Calls Tryd.prog 27 #[.string s] w fun e w' => LexGot e (Em4.numAt L) ∧ Below w.heap.size w w' := by
  have HS : Hid (Em.IsStr s L) := hs
  have HZ : Hid (s.size = L.length) := hs.size
  have hbel : Below w.heap.size w (w.alloc (.cells #[.int .i64 0, .string ⟨#[]⟩, .int .i64 0, .int .i64 0] 33)) := (Below.refl _ _).alloc (Nat.le_refl _) _
  clear hs
  go_enter Tryd.func27, Tryd.ntmps27
  go_wp2
  go_loop [4, 5] (fun i x => ∃ (k : Nat) (v : Int), k ≤ s.size ∧ i = .int .i64 k ∧ x = .int .i64 v ∧ 0 ≤ v ∧ v ≤ 999999999999999999 ∧ Hid (k ≤ 18 → v = Em4.dec (L.take k)) ∧ Hid (∀ j, j < k → Em4.dgt (L[j]?.getD 0) = true)) (fun i _ => s.size - (intOf i).toNat)
  case atStart => exact ⟨0, 0, Nat.zero_le _, rfl, rfl, by omega, by omega, fun _ => rfl, fun j h => by omega⟩
  case round =>
    obtain ⟨k, v, hk, rfl, rfl, hv0, hv1, HV, HD⟩ := hrel
    have exits : (k < s.size → Em4.dgt (L[k]?.getD 0) = false) → Hid (Em4.numAt L = if 18 < k ∨ (1 < k ∧ L[0]?.getD 0 = 48) then none else some (2, [], v, k)) := by
      intro h
      have h1 : Em4.span Em4.dgt L = k := Em4.span_eq (by have := HZ.out; omega) HD.out (fun h2 => h (by have := HZ.out; omega))
      rw [Hid, Em4.numAt, h1]
      have h2 : L.head? = some 48 ↔ L[0]?.getD 0 = 48 := by
        cases L with
        | nil => simp
        | cons c r => simp
      simp only [h2]
      split
      · rfl
      · rw [HV.out (by omega)]
    by_cases hlt : k < s.size
    · have hch := HS.out.get k hlt
      obtain ⟨c, hc⟩ : ∃ c, c = L[k]?.getD 0 := ⟨_, rfl⟩
      rw [← hc] at hch exits
      cases h1 : Em4.dgt c with
      | true =>
        obtain ⟨c48, c57⟩ := dgt_true h1
        have HT : Hid (∀ j, j < k + 1 → Em4.dgt (L[j]?.getD 0) = true) := fun j hj => by
          by_cases hjk : j = k
          · subst hjk; rw [← hc]; exact h1
          · exact HD.out j (by omega)
        by_cases h18 : k < 18
        · have hb := dec_17 (L := L) (k := k) (by omega) (by have := HZ.out; omega) HD.out
          rw [← HV.out (by omega)] at hb
          have HN : Hid (10 * v + (c - 48) = Em4.dec (L.take (k + 1))) := by
            rw [Hid, Em4.take_snoc (by have := HZ.out; omega), Em4.dec_snoc, ← hc, ← HV.out (by omega)]
          obtain ⟨hb0, hb1⟩ := hb
          clear exits hc HV hv0 hv1
          go_wp2_with (go_at_call 26; refine (rdigit_any _ _).mono ?_; rintro e w' ⟨rfl, rfl⟩)
          go_round
          case rel => exact ⟨k + 1, 10 * v + (c - 48), by omega, by go_num, rfl, by omega, by omega, fun _ => HN.out, HT⟩
          case measure => simp [intOf]; omega
        · clear exits hc HV
          go_wp2_with (go_at_call 26; refine (rdigit_any _ _).mono ?_; rintro e w' ⟨rfl, rfl⟩)
          go_round
          case rel => exact ⟨k + 1, v, by omega, by go_num, rfl, by omega, by omega, fun h => by omega, HT⟩
          case measure => simp [intOf]; omega
      | false =>
        have HX := exits (fun _ => h1)
        clear exits hc HV HD
        have hch0 := HS.out.get 0 (by omega)
        obtain ⟨c0, hc0⟩ : ∃ c0, c0 = L[0]?.getD 0 := ⟨_, rfl⟩
        rw [← hc0] at hch0 HX
        clear hc0
        by_cases h18 : 18 < k
        · have HR : Hid (Em4.numAt L = none) := by rw [Hid, HX.out, if_pos (Or.inl h18)]
          go_wp2_with (go_at_call 26; refine (rdigit_any _ _).mono ?_; rintro e w' ⟨rfl, rfl⟩)
          refine bodyPost_ret (v := .tuple #[tokV 0 ⟨#[]⟩ 0 0, .int .i64 0]) (by simp [results, Tryd.results27, go_sem]) rfl ⟨?_, ?_⟩
          · rw [HR.out]; exact ⟨_, _, _, _, rfl, rfl⟩
          · first | exact Em.below_set4 hbel (Nat.le_refl _) _ _ _ _ | exact (Below.refl _ _).alloc (Nat.le_refl _) _
        by_cases hk1 : 1 < k
        · by_cases h48 : c0 = 48
          · have HR : Hid (Em4.numAt L = none) := by rw [Hid, HX.out, if_pos (Or.inr ⟨hk1, h48⟩)]
            have h48' : (c0 == 48) = true := by simpa using h48
            clear h48
            go_wp2_with (go_at_call 26; refine (rdigit_any _ _).mono ?_; rintro e w' ⟨rfl, rfl⟩)
            refine bodyPost_ret (v := .tuple #[tokV 0 ⟨#[]⟩ 0 0, .int .i64 0]) (by simp [results, Tryd.results27, go_sem]) rfl ⟨?_, ?_⟩
            · rw [HR.out]; exact ⟨_, _, _, _, rfl, rfl⟩
            · first | exact Em.below_set4 hbel (Nat.le_refl _) _ _ _ _ | exact (Below.refl _ _).alloc (Nat.le_refl _) _
          · have HR : Hid (Em4.numAt L = some (2, [], v, k)) := by rw [Hid, HX.out, if_neg (by omega)]
            have h48' : (c0 == 48) = false := by simpa using h48
            clear h48
            go_wp2_with (go_at_call 26; refine (rdigit_any _ _).mono ?_; rintro e w' ⟨rfl, rfl⟩)
            refine bodyPost_ret (v := .tuple #[tokV 2 ⟨#[]⟩ v 0, .int .i64 k]) (by simp [results, Tryd.results27, go_sem]) rfl ⟨?_, ?_⟩
            · rw [HR.out]; exact ⟨_, _, _, _, rfl, rfl, ⟨rfl, by simp⟩, rfl, rfl⟩
            · first | exact Em.below_set4 hbel (Nat.le_refl _) _ _ _ _ | exact (Below.refl _ _).alloc (Nat.le_refl _) _
        · have HR : Hid (Em4.numAt L = some (2, [], v, k)) := by rw [Hid, HX.out, if_neg (by omega)]
          go_wp2_with (go_at_call 26; refine (rdigit_any _ _).mono ?_; rintro e w' ⟨rfl, rfl⟩)
          refine bodyPost_ret (v := .tuple #[tokV 2 ⟨#[]⟩ v 0, .int .i64 k]) (by simp [results, Tryd.results27, go_sem]) rfl ⟨?_, ?_⟩
          · rw [HR.out]; exact ⟨_, _, _, _, rfl, rfl, ⟨rfl, by simp⟩, rfl, rfl⟩
          · first | exact Em.below_set4 hbel (Nat.le_refl _) _ _ _ _ | exact (Below.refl _ _).alloc (Nat.le_refl _) _
    · have HX := exits (fun h => absurd h hlt)
      clear exits HV HD
      have hch0 := HS.out.get 0 (by omega)
      obtain ⟨c0, hc0⟩ : ∃ c0, c0 = L[0]?.getD 0 := ⟨_, rfl⟩
      rw [← hc0] at hch0 HX
      clear hc0
      by_cases h18 : 18 < k
      · have HR : Hid (Em4.numAt L = none) := by rw [Hid, HX.out, if_pos (Or.inl h18)]
        go_wp2
        refine bodyPost_ret (v := .tuple #[tokV 0 ⟨#[]⟩ 0 0, .int .i64 0]) (by simp [results, Tryd.results27, go_sem]) rfl ⟨?_, ?_⟩
        · rw [HR.out]; exact ⟨_, _, _, _, rfl, rfl⟩
        · first | exact Em.below_set4 hbel (Nat.le_refl _) _ _ _ _ | exact (Below.refl _ _).alloc (Nat.le_refl _) _
      by_cases hk1 : 1 < k
      · by_cases h48 : c0 = 48
        · have HR : Hid (Em4.numAt L = none) := by rw [Hid, HX.out, if_pos (Or.inr ⟨hk1, h48⟩)]
          have h48' : (c0 == 48) = true := by simpa using h48
          clear h48
          go_wp2
          refine bodyPost_ret (v := .tuple #[tokV 0 ⟨#[]⟩ 0 0, .int .i64 0]) (by simp [results, Tryd.results27, go_sem]) rfl ⟨?_, ?_⟩
          · rw [HR.out]; exact ⟨_, _, _, _, rfl, rfl⟩
          · first | exact Em.below_set4 hbel (Nat.le_refl _) _ _ _ _ | exact (Below.refl _ _).alloc (Nat.le_refl _) _
        · have HR : Hid (Em4.numAt L = some (2, [], v, k)) := by rw [Hid, HX.out, if_neg (by omega)]
          have h48' : (c0 == 48) = false := by simpa using h48
          clear h48
          go_wp2
          refine bodyPost_ret (v := .tuple #[tokV 2 ⟨#[]⟩ v 0, .int .i64 k]) (by simp [results, Tryd.results27, go_sem]) rfl ⟨?_, ?_⟩
          · rw [HR.out]; exact ⟨_, _, _, _, rfl, rfl, ⟨rfl, by simp⟩, rfl, rfl⟩
          · first | exact Em.below_set4 hbel (Nat.le_refl _) _ _ _ _ | exact (Below.refl _ _).alloc (Nat.le_refl _) _
      · have HR : Hid (Em4.numAt L = some (2, [], v, k)) := by rw [Hid, HX.out, if_neg (by omega)]
        go_wp2
        refine bodyPost_ret (v := .tuple #[tokV 2 ⟨#[]⟩ v 0, .int .i64 k]) (by simp [results, Tryd.results27, go_sem]) rfl ⟨?_, ?_⟩
        · rw [HR.out]; exact ⟨_, _, _, _, rfl, rfl, ⟨rfl, by simp⟩, rfl, rfl⟩
        · first | exact Em.below_set4 hbel (Nat.le_refl _) _ _ _ _ | exact (Below.refl _ _).alloc (Nat.le_refl _) _
set_option maxRecDepth 100000 in
set_option maxHeartbeats 2000000 in
theorem rquoted_any (s : ByteArray) (L : List Int) (w : World) (hs : Em.IsStr s L) (hm : s.size ≤ 9223372036854775807) (hp : 1 ≤ s.size) :
    Calls Tryd.prog 28 #[.string s] w fun e w' => LexGot e (Em4.strAt L) ∧ Below w.heap.size w w' := by
  have HS : Hid (Em.IsStr s L) := hs
  have HZ : Hid (s.size = L.length) := hs.size
  have hbel : Below w.heap.size w (w.alloc (.cells #[.int .i64 0, .string ⟨#[]⟩, .int .i64 0, .int .i64 0] 33)) := (Below.refl _ _).alloc (Nat.le_refl _) _
  clear hs
  go_enter Tryd.func28, Tryd.ntmps28
  go_wp2
  go_loop [4] (fun i => ∃ k : Nat, 1 ≤ k ∧ k ≤ s.size ∧ i = .int .i64 k ∧ Hid (∀ j, j < k - 1 → (!decide ((L.drop 1)[j]?.getD 0 = 34)) = true)) (fun i => s.size - (intOf i).toNat)
  case atStart => exact ⟨1, Nat.le_refl _, hp, rfl, fun j h => by omega⟩
  case round =>
    obtain ⟨k, hk1, hk, rfl, HD⟩ := hrel
    have exits : (k < s.size → L[k]?.getD 0 = 34) → Hid (Em4.strAt L = if k = s.size ∨ Em4.textOk ((L.drop 1).take (k - 1)) = false then none else some (3, (L.drop 1).take (k - 1), 0, k + 1)) := by
      intro h
      have hz := HZ.out
      have h1 : Em4.span (fun c => !decide (c = 34)) (L.drop 1) = k - 1 := Em4.span_eq (by simp; omega) HD.out (fun h2 => by
        simp only [List.length_drop] at h2
        rw [List.getElem?_drop, show 1 + (k - 1) = k by omega, h (by omega)]; rfl)
      rw [Hid, Em4.strAt, h1]
      have h3 : (k - 1 = L.length - 1) ↔ (k = s.size) := by omega
      simp only [h3]
      rw [show k - 1 + 2 = k + 1 by omega]
    by_cases hlt : k < s.size
    · have hch := HS.out.get k hlt
      obtain ⟨c, hc⟩ : ∃ c, c = L[k]?.getD 0 := ⟨_, rfl⟩
      rw [← hc] at hch exits
      by_cases h34 : c = 34
      · have HX := exits (fun _ => h34)
        have h34' : (c == 34) = true := by simpa using h34
        have h34n : (c != 34) = false := by rw [bne, h34']; rfl
        have hks : ((k : Int) == (s.size : Int)) = false := by rw [beq_eq_false_iff_ne]; omega
        have hks' : ¬ k = s.size := by omega
        obtain ⟨M, hM⟩ : ∃ M, M = (L.drop 1).take (k - 1) := ⟨_, rfl⟩
        have HT : Hid (Em.IsStr (s.extract 1 k) M) := by rw [hM]; exact HS.out.extract 1 k
        rw [← hM] at HX
        have hml : M.length = k - 1 := by rw [hM]; have := HZ.out; simp; omega
        have hxs : (s.extract 1 k).size ≤ 9223372036854775807 := by rw [HT.out.size, hml]; omega
        clear exits hc HD h34 hM hml
        cases ht : Em4.textOk M with
        | true =>
          have HR : Hid (Em4.strAt L = some (3, M, 0, k + 1)) := by rw [Hid, HX.out, if_neg (by rw [ht]; simp [hks'])]
          go_wp2_with (go_at_call 36; refine (rtext_any _ _ _ HT.out hxs).mono ?_; rintro e w' ⟨rfl, rfl⟩)
          refine bodyPost_ret (v := .tuple #[tokV 3 (s.extract 1 k) 0 0, .int .i64 (k + 1)]) (by simp [results, Tryd.results28, go_sem]) rfl ⟨?_, ?_⟩
          · rw [HR.out]; exact ⟨_, _, _, _, rfl, rfl, HT.out, rfl, by simp⟩
          · first | exact Em.below_set4 hbel (Nat.le_refl _) _ _ _ _ | exact (Below.refl _ _).alloc (Nat.le_refl _) _
        | false =>
          have HR : Hid (Em4.strAt L = none) := by rw [Hid, HX.out, if_pos (Or.inr ht)]
          go_wp2_with (go_at_call 36; refine (rtext_any _ _ _ HT.out hxs).mono ?_; rintro e w' ⟨rfl, rfl⟩)
          refine bodyPost_ret (v := .tuple #[tokV 0 ⟨#[]⟩ 0 0, .int .i64 0]) (by simp [results, Tryd.results28, go_sem]) rfl ⟨?_, ?_⟩
          · rw [HR.out]; exact ⟨_, _, _, _, rfl, rfl⟩
          · first | exact Em.below_set4 hbel (Nat.le_refl _) _ _ _ _ | exact (Below.refl _ _).alloc (Nat.le_refl _) _
      · have h34' : (c == 34) = false := by simpa using h34
        have h34n : (c != 34) = true := by rw [bne, h34']; rfl
        have HT : Hid (∀ j, j < (k + 1) - 1 → (!decide ((L.drop 1)[j]?.getD 0 = 34)) = true) := fun j hj => by
          by_cases hjk : j = k - 1
          · subst hjk; rw [List.getElem?_drop, show 1 + (k - 1) = k by omega, ← hc]; simpa using h34
          · exact HD.out j (by omega)
        clear exits hc HD h34
        go_wp2
        go_round
        case rel => exact ⟨k + 1, by omega, by omega, by go_num, HT⟩
        case measure => simp [intOf]; omega
    · have HX := exits (fun h => absurd h hlt)
      have hke : k = s.size := by omega
      have HR : Hid (Em4.strAt L = none) := by rw [Hid, HX.out, if_pos (Or.inl hke)]
      have hks : ((k : Int) == (s.size : Int)) = true := by rw [beq_iff_eq]; omega
      clear exits HD hke
      go_wp2
      refine bodyPost_ret (v := .tuple #[tokV 0 ⟨#[]⟩ 0 0, .int .i64 0]) (by simp [results, Tryd.results28, go_sem]) rfl ⟨?_, ?_⟩
      · rw [HR.out]; exact ⟨_, _, _, _, rfl, rfl⟩
      · first | exact Em.below_set4 hbel (Nat.le_refl _) _ _ _ _ | exact (Below.refl _ _).alloc (Nat.le_refl _) _
end Go.Proofs.YtglipebhmjbceaaDoor

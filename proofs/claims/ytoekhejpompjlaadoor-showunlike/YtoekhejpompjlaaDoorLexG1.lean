/- Several texts in one: LexD, LexE, LexF, LexG. -/
import Derived.Test.YtoekhejpompjlaaDoorLexC
import Derived.Deep.RegionHeld
import Derived.Test.YtoekhejpompjlaaDoorRLexM1
namespace Go.Proofs.YtoekhejpompjlaaDoor
open Go.RowKit
set_option linter.unusedSimpArgs false

theorem span_cons {p : Int → Bool} {c : Int} {r : List Int} (h : p c = true) : Em4.span p (c :: r) = 1 + Em4.span p r := by
  conv => lhs; unfold Em4.span
  rw [if_pos h]; omega
theorem words_short {l : List Int} (h : l ∈ Em4.words) : l.length ≤ 5 := by
  have : ∀ l ∈ Em4.words, l.length ≤ 5 := by decide
  exact this l h

theorem contains_str (x : ByteArray) (T : List Int) (v : Value) (l : List (List Int)) (w : World) (hv : IsStrs w v l) (hx : x = Em.str T) (hT : Em5.Txt T) :
    Calls Tryd.prog 93 #[v, .string x] w fun e w' => e = .returned (.bool (decide (T ∈ l))) ∧ w' = w := by
  subst hx; exact contains_any v l T w hv hT

set_option maxRecDepth 100000 in
set_option maxHeartbeats 1000000 in
theorem lname_any (s : ByteArray) (c : Int) (r : List Int) (w : World) (hs : Em.IsStr s (c :: r)) (hm : s.size ≤ 9223372036854775807) (hc : Em4.ltr c = true) :
    Calls Tryd.prog 84 #[.string s] w fun e w' => LexGot e (Em4.nameAt (c :: r)) ∧ Below w.heap.size w w' := by
  obtain ⟨L, hL⟩ : ∃ L, L = c :: r := ⟨_, rfl⟩
  obtain ⟨n, hn⟩ : ∃ n, n = Em4.span Em4.nmc L := ⟨_, rfl⟩
  have hN : Em4.nameAt L = if L.take n ∈ Em4.words then some (4, L.take n, 0, n) else if 12 < n then none else some (1, L.take n, 0, n) := by
    have : n = 1 + Em4.span Em4.nmc r := by rw [hn, hL]; exact span_cons (by simp [Em4.nmc, hc])
    rw [Em4.nameAt, hL]
    simp only [List.drop_succ_cons, List.drop_zero]
    rw [← this, ← hL]
  rw [← hL] at hs ⊢
  have hle : n ≤ s.size := by rw [hs.size, hn]; exact Em4.span_le _ _
  have HS : Hid (Em.IsStr s L) := hs
  have HNE : Hid (Em4.span Em4.nmc L = n) := hn.symm
  have HX : Hid (Em.IsStr (s.extract 0 n) (L.take n)) := by simpa [Hid] using hs.extract 0 n
  have hlt : (L.take n).length = n := by have h1 := hs.size; simp; omega
  have HN : Hid (Em4.nameAt L = if L.take n ∈ Em4.words then some (4, L.take n, 0, n) else if 12 < n then none else some (1, L.take n, 0, n)) := hN
  have HW : Hid (L.take n ∈ Em4.words → n ≤ 5) := fun h => by have := words_short h; omega
  clear hN hL hn hlt hs
  go_enter Tryd.func84, Tryd.ntmps84
  go_wp2_with fail
  refine (lspan_name _ L _ HS.out hm).mono ?_
  rintro e w1 ⟨rfl, rfl⟩
  rw [HNE.out]
  by_cases h12 : 12 < n
  · have HR : Hid (Em4.nameAt L = none) := by rw [Hid, HN.out, if_neg (fun h => by have := HW.out h; omega), if_pos h12]
    go_wp2
    refine bodyPost_ret (v := .tuple #[tokV 0 ⟨#[]⟩ 0 0, .int .i64 0]) (by simp [results, Tryd.results84, go_sem]) rfl ⟨?_, ?_⟩
    · rw [HR.out]; exact ⟨_, _, _, _, rfl, rfl⟩
    · first | exact Em.below_set4 ((Below.refl _ _).alloc (Nat.le_refl _) _) (Nat.le_refl _) _ _ _ _ | exact (Below.refl _ _).alloc (Nat.le_refl _) _
  · have HTX : Hid (Em5.Txt (L.take n)) := ⟨HX.out.2, by simp; omega⟩
    have HR : Hid (Em4.nameAt L = if L.take n ∈ Em4.words then some (4, L.take n, 0, n) else some (1, L.take n, 0, n)) := by rw [Hid, HN.out, if_neg h12]
    clear HN HW
    obtain ⟨T, hT⟩ : ∃ T, T = L.take n := ⟨_, rfl⟩
    rw [← hT] at HX HTX HR
    clear hT
    have hx : s.extract 0 n = Em.str T := HX.out.1
    have HXT : Hid (Em.IsStr (Em.str T) T) := by rw [← hx]; exact HX.out
    obtain ⟨x, hX⟩ : ∃ x, x = Em.str T := ⟨_, rfl⟩
    have HXE : Hid (x = Em.str T) := hX
    rw [← hX] at hx HXT
    clear hX HX
    go_wp2_with fail
    obtain ⟨W, hW⟩ : ∃ W, W = ((w.alloc (.cells #[.int .i64 0, .string ⟨#[]⟩, .int .i64 0, .int .i64 0] 49)).alloc (.cells #[.int .i64 1, .string x, .int .i64 0, .int .i64 0] 49)) := ⟨_, rfl⟩
    rw [← hW]
    have hWs : W.heap.size = w.heap.size + 2 := by rw [hW]; simp
    have hWb : Below w.heap.size w W := by rw [hW]; exact ((Below.refl _ _).alloc (Nat.le_refl _) _).alloc (by simp) _
    have k0 : W.cell? ⟨w.heap.size + 1, 0, none⟩ = some (.int .i64 1) := by rw [hW]; simp
    have k1 : W.cell? ⟨w.heap.size + 1, 1, none⟩ = some (.string x) := by rw [hW]; simp
    have k2 : W.cell? ⟨w.heap.size + 1, 2, none⟩ = some (.int .i64 0) := by rw [hW]; simp
    have k3 : W.cell? ⟨w.heap.size + 1, 3, none⟩ = some (.int .i64 0) := by rw [hW]; simp
    have q0 : W.cell? ⟨w.heap.size, 0, none⟩ = some (.int .i64 0) := by rw [hW]; simp
    have q1 : W.cell? ⟨w.heap.size, 1, none⟩ = some (.string ⟨#[]⟩) := by rw [hW]; simp
    have q2 : W.cell? ⟨w.heap.size, 2, none⟩ = some (.int .i64 0) := by rw [hW]; simp
    have q3 : W.cell? ⟨w.heap.size, 3, none⟩ = some (.int .i64 0) := by rw [hW]; simp
    have f0 : ∀ o, W.frozen? ⟨w.heap.size, o, none⟩ = false := by intro o; rw [hW]; simp [go_sem]
    have f1 : ∀ o, W.frozen? ⟨w.heap.size + 1, o, none⟩ = false := by intro o; rw [hW]; simp [go_sem]
    have HK : Hid (∀ w', Below W.heap.size W w' → w'.cell? ⟨w.heap.size + 1, 0, none⟩ = some (.int .i64 1) ∧ w'.cell? ⟨w.heap.size + 1, 1, none⟩ = some (.string x) ∧ w'.cell? ⟨w.heap.size + 1, 2, none⟩ = some (.int .i64 0) ∧ w'.cell? ⟨w.heap.size + 1, 3, none⟩ = some (.int .i64 0) ∧ w'.cell? ⟨w.heap.size, 0, none⟩ = some (.int .i64 0) ∧ w'.cell? ⟨w.heap.size, 1, none⟩ = some (.string ⟨#[]⟩) ∧ w'.cell? ⟨w.heap.size, 2, none⟩ = some (.int .i64 0) ∧ w'.cell? ⟨w.heap.size, 3, none⟩ = some (.int .i64 0) ∧ w.heap.size + 1 < w'.heap.size ∧ (∀ o, w'.frozen? ⟨w.heap.size, o, none⟩ = false) ∧ (∀ o, w'.frozen? ⟨w.heap.size + 1, o, none⟩ = false)) := fun w' hb => by
      have e1 : ∀ o, w'.cell? ⟨w.heap.size + 1, o, none⟩ = W.cell? ⟨w.heap.size + 1, o, none⟩ := fun o => hb.cell (p := ⟨w.heap.size + 1, o, none⟩) (by simp; omega)
      have e2 : ∀ o, w'.cell? ⟨w.heap.size, o, none⟩ = W.cell? ⟨w.heap.size, o, none⟩ := fun o => hb.cell (p := ⟨w.heap.size, o, none⟩) (by simp; omega)
      have := hb.size
      exact ⟨by rw [e1]; exact k0, by rw [e1]; exact k1, by rw [e1]; exact k2, by rw [e1]; exact k3, by rw [e2]; exact q0, by rw [e2]; exact q1, by rw [e2]; exact q2, by rw [e2]; exact q3, by omega, fun o => by rw [hb.frozen (p := ⟨w.heap.size, o, none⟩) (by simp; omega)]; exact f0 o, fun o => by rw [hb.frozen (p := ⟨w.heap.size + 1, o, none⟩) (by simp; omega)]; exact f1 o⟩
    clear hW k0 k1 k2 k3 q0 q1 q2 q3 f0 f1
    have bel0 : Below W.heap.size W W.drew := (Below.refl _ _).drew
    have kk0 := (HK.out _ bel0).2.1
    go_region_held (fun w' => Below W.heap.size W w' ∧ w'.cell? ⟨w.heap.size + 1, 1, none⟩ = some (.string x))
      (first | exact ⟨bel2, kk2⟩ | exact ⟨bel0, kk0⟩)
      (first | (go_at_call 93; refine (contains_str x T _ Em4.words _ his HXE.out HTX.out).mono ?_; rintro e w3 ⟨rfl, rfl⟩) | (go_at_call 94; refine (lwords_any _).mono ?_; rintro e w2 ⟨rfl, hw2⟩; have bel2 : Below W.heap.size W w2 := (by rw [hw2]; exact bel0.alloc bel0.size _); have kk2 := (HK.out _ bel2).2.1; have his : IsStrs w2 (.slice (some ⟨w.heap.size + 2, 0, none⟩) 22 22) Em4.words := (by rw [hw2]; exact words_is _ (by simp [hWs])); clear hw2))
    all_goals
      obtain ⟨j0, j1, j2, j3, p0, p1, p2, p3, hz, g0, g1⟩ := HK.out _ bel2
      have bel3 := hWb.trans (bel2.mono (show w.heap.size ≤ W.heap.size by omega))
      by_cases hd : T ∈ Em4.words
      · rw [decide_eq_true hd]
        have HV : Hid (Em4.nameAt L = some (4, T, 0, n)) := by rw [Hid, HR.out, if_pos hd]
        clear hd
        go_wp2
        refine bodyPost_ret (v := .tuple #[tokV 4 x 0 0, .int .i64 n]) (by simp [results, Tryd.results84, go_sem, hz, p0, p1, p2, p3]) rfl ⟨?_, ?_⟩
        · rw [HV.out]; exact ⟨_, _, _, _, rfl, rfl, HXT.out, rfl, rfl⟩
        · exact Em.below_set4 (bel3.setCell (p := ⟨w.heap.size + 1, 0, none⟩) (by simp) _) (Nat.le_refl _) _ _ _ _
      · rw [decide_eq_false hd]
        have HV : Hid (Em4.nameAt L = some (1, T, 0, n)) := by rw [Hid, HR.out, if_neg hd]
        clear hd
        go_wp2
        refine bodyPost_ret (v := .tuple #[tokV 1 x 0 0, .int .i64 n]) (by simp [results, Tryd.results84, go_sem, hz, p0, p1, p2, p3]) rfl ⟨?_, ?_⟩
        · rw [HV.out]; exact ⟨_, _, _, _, rfl, rfl, HXT.out, rfl, rfl⟩
        · exact Em.below_set4 bel3 (Nat.le_refl _) _ _ _ _
end Go.Proofs.YtoekhejpompjlaaDoor

namespace Go.Proofs.YtoekhejpompjlaaDoor
open Go.RowKit
set_option linter.unusedSimpArgs false

theorem prn_not34 {c : Int} (h : Em4.prn c = true) : c ≠ 34 := by
  intro e; subst e; simp [Em4.prn] at h
theorem strAt_eq (c : Int) (r : List Int) : Em4.strAt (c :: r) = if 40 < Em4.span Em4.prn r ∨ Em4.span Em4.prn r = r.length ∨ r[Em4.span Em4.prn r]?.getD 0 ≠ 34 then none else some (3, r.take (Em4.span Em4.prn r), 0, Em4.span Em4.prn r + 2) := by
  obtain ⟨n, hn⟩ : ∃ n, n = Em4.span Em4.prn r := ⟨_, rfl⟩
  obtain ⟨m, hm⟩ : ∃ m, m = Em4.span (fun c => !decide (c = 34)) r := ⟨_, rfl⟩
  have hnl := Em4.span_le Em4.prn r
  have hml := Em4.span_le (fun c => !decide (c = 34)) r
  rw [← hn] at hnl ⊢
  rw [← hm] at hml
  unfold Em4.strAt
  simp only [List.drop_succ_cons, List.drop_zero, List.length_cons, Nat.add_sub_cancel]
  rw [← hm]
  by_cases h : 40 < n ∨ n = r.length ∨ r[n]?.getD 0 ≠ 34
  · rw [if_pos h]
    by_cases h2 : m = r.length ∨ Em4.textOk (r.take m) = false
    · rw [if_pos h2]
    · exfalso
      have h3 : m < r.length := by omega
      have h4 : Em4.textOk (r.take m) = true := by
        cases he : Em4.textOk (r.take m) with
        | true => rfl
        | false => exact absurd (Or.inr he) h2
      unfold Em4.textOk at h4
      rw [Bool.and_eq_true, List.all_eq_true, decide_eq_true_eq, List.length_take] at h4
      have h5 := Em4.span_stop (fun c => !decide (c = 34)) r (by rw [← hm]; exact h3)
      rw [← hm] at h5
      have h6 : r[m]?.getD 0 = 34 := by simpa using h5
      have h7 : n = m := by
        rw [hn]
        refine Em4.span_eq hml (fun j hj => ?_) (fun _ => by rw [h6]; decide)
        have hj' : j < r.length := by omega
        rw [List.getElem?_eq_getElem hj', Option.getD_some]
        exact h4.1 _ (by rw [List.mem_take_iff_getElem]; exact ⟨j, by omega, rfl⟩)
      rw [h7, h6] at h
      omega
  · rw [if_neg h]
    have h8 : n ≤ 40 ∧ n < r.length ∧ r[n]?.getD 0 = 34 := by
      refine ⟨by omega, by omega, ?_⟩
      exact Classical.byContradiction fun e => h (Or.inr (Or.inr e))
    have hall : ∀ j, j < n → Em4.prn (r[j]?.getD 0) = true := fun j hj => Em4.span_all Em4.prn r j (by rw [← hn]; exact hj)
    have h9 : m = n := by
      rw [hm]
      exact Em4.span_eq hnl (fun j hj => by simpa using prn_not34 (hall j hj)) (fun _ => by rw [h8.2.2]; decide)
    have h10 : Em4.textOk (r.take n) = true := by
      rw [text_yes]
      · simp; omega
      · intro j hj
        rw [List.length_take] at hj
        rw [List.getElem?_take, if_pos (by omega)]
        exact hall j (by omega)
    rw [h9, if_neg (by rw [h10]; simp; omega)]

set_option maxRecDepth 100000 in
set_option maxHeartbeats 1000000 in
theorem ltext_any (s : ByteArray) (c : Int) (r : List Int) (w : World) (hs : Em.IsStr s (c :: r)) (hm : s.size ≤ 9223372036854775800) :
    Calls Tryd.prog 87 #[.string s] w fun e w' => LexGot e (Em4.strAt (c :: r)) ∧ Below w.heap.size w w' := by
  have h1s : 1 ≤ s.size := by rw [hs.size]; simp
  have hI : Em.IsStr (s.extract 1 s.size) r := by
    have := hs.extract 1 s.size
    rw [List.drop_succ_cons, List.drop_zero, List.take_of_length_le (by have := hs.size; simp at this; omega)] at this
    exact this
  obtain ⟨x, hx⟩ : ∃ x, x = s.extract 1 s.size := ⟨_, rfl⟩
  rw [← hx] at hI
  have hxe : s.extract 1 s.size = x := hx.symm
  clear hx
  have hxs : x.size + 1 = s.size := by rw [hI.size, hs.size]; simp
  obtain ⟨n, hn⟩ : ∃ n, n = Em4.span Em4.prn r := ⟨_, rfl⟩
  have hR := strAt_eq c r
  rw [← hn] at hR
  have hnl : n ≤ x.size := by rw [hI.size, hn]; exact Em4.span_le _ _
  have HI : Hid (Em.IsStr x r) := hI
  have HX : Hid (Em.IsStr (x.extract 0 n) (r.take n)) := by simpa [Hid] using hI.extract 0 n
  have HNE : Hid (Em4.span Em4.prn r = n) := hn.symm
  have HXS : Hid (x.size = r.length) := hI.size
  have HR : Hid (Em4.strAt (c :: r) = if 40 < n ∨ n = r.length ∨ r[n]?.getD 0 ≠ 34 then none else some (3, r.take n, 0, n + 2)) := hR
  have hget : ∀ h : n < x.size, ((x[n]'h).toNat : Int) = r[n]?.getD 0 := fun h => hI.get n h
  obtain ⟨d, hd⟩ : ∃ d, d = r[n]?.getD 0 := ⟨_, rfl⟩
  rw [← hd] at HR hget
  clear hR hI hn hs hd
  go_enter Tryd.func87, Tryd.ntmps87
  go_wp2_with fail
  refine (lspan_text _ r _ HI.out (by omega)).mono ?_
  rintro e w1 ⟨rfl, rfl⟩
  rw [HNE.out]
  by_cases h40 : 40 < n
  · have HV : Hid (Em4.strAt (c :: r) = none) := by rw [Hid, HR.out, if_pos (Or.inl h40)]
    clear hget
    go_wp2
    refine bodyPost_ret (v := .tuple #[tokV 0 ⟨#[]⟩ 0 0, .int .i64 0]) (by simp [results, Tryd.results87, go_sem]) rfl ⟨?_, ?_⟩
    · rw [HV.out]; exact ⟨_, _, _, _, rfl, rfl⟩
    · first | exact Em.below_set4 ((Below.refl _ _).alloc (Nat.le_refl _) _) (Nat.le_refl _) _ _ _ _ | exact (Below.refl _ _).alloc (Nat.le_refl _) _
  by_cases hnx : n = x.size
  · have HV : Hid (Em4.strAt (c :: r) = none) := by rw [Hid, HR.out, if_pos (Or.inr (Or.inl (by rw [← HXS.out]; exact hnx)))]
    have hq : ((n : Int) == (x.size : Int)) = true := by rw [hnx]; simp
    clear hget hnx
    go_wp2
    refine bodyPost_ret (v := .tuple #[tokV 0 ⟨#[]⟩ 0 0, .int .i64 0]) (by simp [results, Tryd.results87, go_sem]) rfl ⟨?_, ?_⟩
    · rw [HV.out]; exact ⟨_, _, _, _, rfl, rfl⟩
    · first | exact Em.below_set4 ((Below.refl _ _).alloc (Nat.le_refl _) _) (Nat.le_refl _) _ _ _ _ | exact (Below.refl _ _).alloc (Nat.le_refl _) _
  have hlt : n < x.size := by omega
  have hq : ((n : Int) == (x.size : Int)) = false := by rw [beq_eq_false_iff_ne]; omega
  have hch := hget hlt
  clear hget
  by_cases h34 : d = 34
  · have HV : Hid (Em4.strAt (c :: r) = some (3, r.take n, 0, n + 2)) := by rw [Hid, HR.out, if_neg]; have := HXS.out; omega
    have hq2 : (d == 34) = true := by simpa using h34
    have hq3 : (d != 34) = false := by simpa using h34
    clear h34
    go_wp2
    refine bodyPost_ret (v := .tuple #[tokV 3 (x.extract 0 n) 0 0, .int .i64 ((n : Int) + 2)]) (by simp [results, Tryd.results87, go_sem]) rfl ⟨?_, ?_⟩
    · rw [HV.out]; exact ⟨_, _, _, ((n + 2 : Nat)), by simp, rfl, HX.out, rfl, rfl⟩
    · first | exact Em.below_set4 ((Below.refl _ _).alloc (Nat.le_refl _) _) (Nat.le_refl _) _ _ _ _ | exact (Below.refl _ _).alloc (Nat.le_refl _) _
  · have HV : Hid (Em4.strAt (c :: r) = none) := by rw [Hid, HR.out, if_pos (Or.inr (Or.inr h34))]
    have hq2 : (d == 34) = false := by simpa using h34
    have hq3 : (d != 34) = true := by simpa using h34
    clear h34
    go_wp2
    refine bodyPost_ret (v := .tuple #[tokV 0 ⟨#[]⟩ 0 0, .int .i64 0]) (by simp [results, Tryd.results87, go_sem]) rfl ⟨?_, ?_⟩
    · rw [HV.out]; exact ⟨_, _, _, _, rfl, rfl⟩
    · first | exact Em.below_set4 ((Below.refl _ _).alloc (Nat.le_refl _) _) (Nat.le_refl _) _ _ _ _ | exact (Below.refl _ _).alloc (Nat.le_refl _) _
end Go.Proofs.YtoekhejpompjlaaDoor

namespace Go.Proofs.YtoekhejpompjlaaDoor
open Go.RowKit
set_option linter.unusedSimpArgs false

/-- '[]byte(s)': a new row that holds the bytes of s. -/
theorem conv_bytes (w : World) (s : ByteArray) (L : List Int) (hs : Em.IsStr s L) : ∃ cap w', (convert 9 35 (.string s)).run Tryd.prog w = .ok (.slice (some ⟨w.heap.size, 0, none⟩) s.size cap) w' ∧ Below w.heap.size w w' ∧ w'.heap.size = w.heap.size + 1 ∧ ∀ k, k < s.size → w'.cell? ⟨w.heap.size, k, none⟩ = some (.int .u8 (L[k]?.getD 0)) := by
  refine ⟨_, _, run_bytes_of_string w 9 35 5 s Tryd.underlying9 Tryd.underlying35 Tryd.underlying5, ?_, by simp, fun k hk => ?_⟩
  · exact ((Below.refl w.heap.size w).drew).alloc (Nat.le_refl _) _
  · have e : w.heap.size = w.drew.heap.size := rfl
    rw [e, World.cell?_alloc_mark]
    unfold bytesRow
    have h1 := hs.get k hk
    have h2 : k < s.data.size := hk
    rw [Array.getElem?_append_left (by simpa using h2)]
    rw [← h1, Array.getElem?_map, Array.getElem?_eq_getElem h2]
    simp [ByteArray.getElem_eq_getElem_data]

/-- A number that is being read: the result's block, the token's, the bytes'. -/
def NumI (w : World) (n : Nat) (X : List Int) (v : Int) (wr : World) : Prop :=
  (wr.cell? ⟨w.heap.size, 0, none⟩ = some (.int .i64 0) ∧ wr.cell? ⟨w.heap.size, 1, none⟩ = some (.string ⟨#[]⟩) ∧ wr.cell? ⟨w.heap.size, 2, none⟩ = some (.int .i64 0) ∧ wr.cell? ⟨w.heap.size, 3, none⟩ = some (.int .i64 0)) ∧
  (wr.cell? ⟨w.heap.size + 1, 0, none⟩ = some (.int .i64 2) ∧ wr.cell? ⟨w.heap.size + 1, 1, none⟩ = some (.string ⟨#[]⟩) ∧ wr.cell? ⟨w.heap.size + 1, 2, none⟩ = some (.int .i64 v) ∧ wr.cell? ⟨w.heap.size + 1, 3, none⟩ = some (.int .i64 0)) ∧
  (∀ o, wr.frozen? ⟨w.heap.size, o, none⟩ = false) ∧ (∀ o, wr.frozen? ⟨w.heap.size + 1, o, none⟩ = false) ∧
  (∀ j, j < n → wr.cell? ⟨w.heap.size + 2, j, none⟩ = some (.int .u8 (X[j]?.getD 0))) ∧ w.heap.size + 2 < wr.heap.size ∧ Below w.heap.size w wr
theorem NumI.set {w wr : World} {n : Nat} {X : List Int} {v : Int} (h : NumI w n X v wr) (v' : Int) : NumI w n X v' (wr.setCell ⟨w.heap.size + 1, 2, none⟩ (.int .i64 v')) := by
  obtain ⟨⟨a0, a1, a2, a3⟩, ⟨b0, b1, b2, b3⟩, f0, f1, hc, hz, hb⟩ := h
  have o1 : ∀ b o, (b, o) ≠ (w.heap.size + 1, 2) → (wr.setCell ⟨w.heap.size + 1, 2, none⟩ (.int .i64 v')).cell? ⟨b, o, none⟩ = wr.cell? ⟨b, o, none⟩ := fun b o hne =>
    World.cell?_setCell_other _ _ _ _ (by intro e; injection e with e1 e2; exact hne (by rw [e1, e2]))
  refine ⟨⟨?_, ?_, ?_, ?_⟩, ⟨?_, ?_, World.cell?_setCell_same _ _ _ b2, ?_⟩, fun o => ?_, fun o => ?_, fun j hj => ?_, ?_, hb.setCell (p := ⟨w.heap.size + 1, 2, none⟩) (by simp) _⟩
  · rw [o1 _ _ (by simp)]; exact a0
  · rw [o1 _ _ (by simp)]; exact a1
  · rw [o1 _ _ (by simp)]; exact a2
  · rw [o1 _ _ (by simp)]; exact a3
  · rw [o1 _ _ (by simp)]; exact b0
  · rw [o1 _ _ (by simp)]; exact b1
  · rw [o1 _ _ (by simp)]; exact b3
  · rw [World.frozen?_setCell]; exact f0 o
  · rw [World.frozen?_setCell]; exact f1 o
  · rw [o1 _ _ (by simp)]; exact hc j hj
  · rw [World.size_setCell]; exact hz

set_option maxRecDepth 100000 in
set_option maxHeartbeats 1000000 in
theorem lnumber_any (s : ByteArray) (c : Int) (r : List Int) (w : World) (hs : Em.IsStr s (c :: r)) (hm : s.size ≤ 9223372036854775807) :
    Calls Tryd.prog 86 #[.string s] w fun e w' => LexGot e (Em4.numAt (c :: r)) ∧ Below w.heap.size w w' := by
  have h1s : 1 ≤ s.size := by rw [hs.size]; simp
  have h0s : 0 < s.size := h1s
  have hch := hs.get 0 h0s
  simp only [List.getElem?_cons_zero, Option.getD_some] at hch
  obtain ⟨n, hn⟩ : ∃ n, n = Em4.span Em4.dgt (c :: r) := ⟨_, rfl⟩
  have hle : n ≤ s.size := by rw [hs.size, hn]; exact Em4.span_le _ _
  have HS : Hid (Em.IsStr s (c :: r)) := hs
  have HNE : Hid (Em4.span Em4.dgt (c :: r) = n) := hn.symm
  have hR : Em4.numAt (c :: r) = if 18 < n ∨ (1 < n ∧ c = 48) then none else some (2, [], Em4.dec ((c :: r).take n), n) := by
    rw [Em4.numAt, ← hn]; simp
  obtain ⟨L, hL⟩ : ∃ L, L = c :: r := ⟨_, rfl⟩
  rw [← hL] at hR hs hn ⊢
  clear HS HNE
  have HS : Hid (Em.IsStr s L) := hs
  have HNE : Hid (Em4.span Em4.dgt L = n) := hn.symm
  have HR : Hid (Em4.numAt L = if 18 < n ∨ (1 < n ∧ c = 48) then none else some (2, [], Em4.dec (L.take n), n)) := hR
  have HA : Hid (∀ j, j < n → Em4.dgt (L[j]?.getD 0) = true) := fun j hj => Em4.span_all Em4.dgt L j (by rw [← hn]; exact hj)
  have HL : Hid (n ≤ L.length) := by have h := hs.size; rw [h] at hle; exact hle
  have HX : Hid (Em.IsStr (s.extract 0 n) (L.take n)) := by simpa [Hid] using hs.extract 0 n
  have HXZ : Hid ((s.extract 0 n).size = n) := by rw [Hid, HX.out.size]; have := HL.out; simp; omega
  clear hs hn hR hL
  go_enter Tryd.func86, Tryd.ntmps86
  go_wp2_with fail
  refine (lspan_digit _ L _ HS.out hm).mono ?_
  rintro e w1 ⟨rfl, rfl⟩
  rw [HNE.out]
  by_cases h18 : 18 < n
  · have HV : Hid (Em4.numAt L = none) := by rw [Hid, HR.out, if_pos (Or.inl h18)]
    go_wp2
    refine bodyPost_ret (v := .tuple #[tokV 0 ⟨#[]⟩ 0 0, .int .i64 0]) (by simp [results, Tryd.results86, go_sem]) rfl ⟨?_, ?_⟩
    · rw [HV.out]; exact ⟨_, _, _, _, rfl, rfl⟩
    · first | exact Em.below_set4 ((Below.refl _ _).alloc (Nat.le_refl _) _) (Nat.le_refl _) _ _ _ _ | exact (Below.refl _ _).alloc (Nat.le_refl _) _
  by_cases hbad : 1 < n ∧ c = 48
  · have HV : Hid (Em4.numAt L = none) := by rw [Hid, HR.out, if_pos (Or.inr hbad)]
    have h1n := hbad.1
    have hq : (c == 48) = true := by simpa using hbad.2
    clear hbad
    go_wp2
    refine bodyPost_ret (v := .tuple #[tokV 0 ⟨#[]⟩ 0 0, .int .i64 0]) (by simp [results, Tryd.results86, go_sem]) rfl ⟨?_, ?_⟩
    · rw [HV.out]; exact ⟨_, _, _, _, rfl, rfl⟩
    · first | exact Em.below_set4 ((Below.refl _ _).alloc (Nat.le_refl _) _) (Nat.le_refl _) _ _ _ _ | exact (Below.refl _ _).alloc (Nat.le_refl _) _
  have HV : Hid (Em4.numAt L = some (2, [], Em4.dec (L.take n), n)) := by rw [Hid, HR.out, if_neg (by omega)]
  have hcase : (1 < n ∧ (c == 48) = false) ∨ n ≤ 1 := by
    by_cases h : 1 < n
    · exact .inl ⟨h, by rw [beq_eq_false_iff_ne]; intro e; exact hbad ⟨h, e⟩⟩
    · exact .inr (by omega)
  clear hbad HR
  obtain ⟨x, hx⟩ : ∃ x, x = s.extract 0 n := ⟨_, rfl⟩
  rw [← hx] at HX HXZ
  have hxe : s.extract 0 n = x := hx.symm
  clear hx
  obtain ⟨W, hW⟩ : ∃ W, W = (w.alloc (.cells #[.int .i64 0, .string ⟨#[]⟩, .int .i64 0, .int .i64 0] 49)).alloc (.cells #[.int .i64 2, .string ⟨#[]⟩, .int .i64 0, .int .i64 0] 49) := ⟨_, rfl⟩
  have hWs : W.heap.size = w.heap.size + 2 := by rw [hW]; simp
  obtain ⟨cap, w2, hcv, hb2, hz2, hc2⟩ := conv_bytes W x _ HX.out
  rw [HXZ.out] at hcv hc2
  rw [hWs] at hcv hz2 hc2
  have HI0 : Hid (NumI w n L 0 w2) := by
    have hWb : Below w.heap.size w W := by rw [hW]; exact ((Below.refl _ _).alloc (Nat.le_refl _) _).alloc (by simp) _
    have e1 : ∀ o, w2.cell? ⟨w.heap.size + 1, o, none⟩ = W.cell? ⟨w.heap.size + 1, o, none⟩ := fun o => hb2.cell (p := ⟨w.heap.size + 1, o, none⟩) (by simp; omega)
    have e2 : ∀ o, w2.cell? ⟨w.heap.size, o, none⟩ = W.cell? ⟨w.heap.size, o, none⟩ := fun o => hb2.cell (p := ⟨w.heap.size, o, none⟩) (by simp; omega)
    refine ⟨⟨?_, ?_, ?_, ?_⟩, ⟨?_, ?_, ?_, ?_⟩, fun o => ?_, fun o => ?_, fun j hj => ?_, by omega, hWb.trans (hb2.mono (by omega))⟩
    · rw [e2, hW]; simp
    · rw [e2, hW]; simp
    · rw [e2, hW]; simp
    · rw [e2, hW]; simp
    · rw [e1, hW]; simp
    · rw [e1, hW]; simp
    · rw [e1, hW]; simp
    · rw [e1, hW]; simp
    · rw [hb2.frozen (p := ⟨w.heap.size, o, none⟩) (by simp; omega), hW]; simp [go_sem]
    · rw [hb2.frozen (p := ⟨w.heap.size + 1, o, none⟩) (by simp; omega), hW]; simp [go_sem]
    · rw [hc2 j hj, List.getElem?_take, if_pos hj]
  rw [hW] at hcv
  clear hb2 hz2 hc2 hW hWs HX HXZ
  rcases hcase with ⟨h1n, hq⟩ | h1n
  all_goals
    go_wp2
    go_loopw [28] (fun i wr => ∃ (k : Nat), k ≤ n ∧ i = .int .i64 k ∧ NumI w n L (Em4.dec (L.take k)) wr) (fun i _ => n - (intOf i).toNat)
    case atStart => exact ⟨0, Nat.zero_le _, rfl, HI0.out⟩
    case round =>
      obtain ⟨k, hk, rfl, hI⟩ := hrel
      have HI : Hid (NumI w n L (Em4.dec (L.take k)) wr) := hI
      obtain ⟨⟨a0, a1, a2, a3⟩, ⟨b0, b1, b2, b3⟩, f0, f1, hc, hz, hb⟩ := hI
      by_cases hlt : k < n
      · have hcell := hc k hlt
        have hdg := HA.out k hlt
        have hbd := dec_17 (L := L) (k := k) (by omega) (by have := HL.out; omega) (fun j hj => HA.out j (by omega))
        have hnext : Em4.dec (L.take (k + 1)) = 10 * Em4.dec (L.take k) + (L[k]?.getD 0 - 48) := by
          rw [Em4.take_snoc (by have := HL.out; omega), Em4.dec_snoc]
        obtain ⟨v, hv⟩ : ∃ v, v = Em4.dec (L.take k) := ⟨_, rfl⟩
        obtain ⟨d, hd⟩ : ∃ d, d = L[k]?.getD 0 := ⟨_, rfl⟩
        rw [← hd] at hcell hdg hnext
        rw [← hv] at b2 hbd hnext HI
        obtain ⟨d48, d57⟩ := dgt_true hdg
        obtain ⟨v0, v1⟩ := hbd
        have HNX : Hid (v * 10 + (d - 48) = Em4.dec (L.take (k + 1))) := by rw [Hid, hnext]; omega
        have HS2 : Hid (NumI w n L (Em4.dec (L.take (k + 1))) (wr.setCell ⟨w.heap.size + 1, 2, none⟩ (.int .i64 (v * 10 + (d - 48))))) := by
          rw [HNX.out]; exact HI.out.set _
        clear hv hd hdg hnext hc hb HI
        go_wp2
        go_roundw
        case rel => exact ⟨k + 1, by omega, by go_num, HS2.out⟩
        case measure => simp [intOf]; omega
      · have hkn : k = n := by omega
        subst hkn
        obtain ⟨v, hv⟩ : ∃ v, v = Em4.dec (L.take k) := ⟨_, rfl⟩
        rw [← hv] at b2 HV
        clear hv hc HI
        go_wp2
        refine bodyPost_ret (v := .tuple #[tokV 2 ⟨#[]⟩ v 0, .int .i64 k]) (by simp [results, Tryd.results86, go_sem, a0, a1, a2, a3]) rfl ⟨?_, ?_⟩
        · rw [HV.out]; exact ⟨_, _, _, _, rfl, rfl, ⟨rfl, by simp⟩, rfl, rfl⟩
        · exact Em.below_set4 hb (Nat.le_refl _) _ _ _ _
end Go.Proofs.YtoekhejpompjlaaDoor

namespace Go.Proofs.YtoekhejpompjlaaDoor
open Go.RowKit
set_option linter.unusedSimpArgs false

set_option maxRecDepth 100000 in
set_option maxHeartbeats 2000000 in
theorem lfirst_any (s : ByteArray) (c : Int) (r : List Int) (w : World) (hs : Em.IsStr s (c :: r)) (hm : s.size ≤ 9223372036854775800) (hg : IsSigns w) :
    Calls Tryd.prog 79 #[.string s] w fun e w' => LexGot e (Em4.tokAt (c :: r)) ∧ Below w.heap.size w w' := by
  have HS : Hid (Em.IsStr s (c :: r)) := hs
  have hp : 1 ≤ s.size := by rw [hs.size]; simp
  have hch := hs.get 0 hp
  simp only [List.getElem?_cons_zero, Option.getD_some] at hch
  have hp' : 0 < s.size := hp
  have hbel : Below w.heap.size w (w.alloc (.cells #[.int .i64 0, .string ⟨#[]⟩, .int .i64 0, .int .i64 0] 49)) := (Below.refl _ _).alloc (Nat.le_refl _) _
  have HG : Hid (IsSigns w) := hg
  clear hs hg
  cases h1 : Em4.ltr c with
  | true =>
    have HR : Hid (Em4.tokAt (c :: r) = Em4.nameAt (c :: r)) := by simp [Hid, Em4.tokAt, h1]
    go_enter Tryd.func79, Tryd.ntmps79
    go_wp2_with (first | (go_at_call 83; refine (lletter_any _ _).mono ?_; rintro e w' ⟨rfl, rfl⟩))
    refine (lname_any _ _ _ _ HS.out (by omega) h1).mono ?_
    rintro e w1 ⟨⟨k, t, n, m, rfl, hr⟩, hb⟩
    obtain ⟨hc, hf⟩ := Em.bcell hb
    have hz : w.heap.size < w1.heap.size := by have := hb.size; simp at this; omega
    have hbel1 : Below w.heap.size w w1 := hbel.trans (hb.mono hbel.size)
    have HM : Hid (match Em4.nameAt (c :: r) with | none => m = 0 | some (k', t', n', m') => k = k' ∧ Em.IsStr t t' ∧ n = n' ∧ m = m') := hr
    clear hb hr hbel
    go_wp2
    refine bodyPost_ret (v := .tuple #[tokV k t n 0, .int .i64 m]) (by simp [results, Tryd.results79, go_sem, hc, hz]) rfl ⟨?_, ?_⟩
    · rw [HR.out]; exact ⟨_, _, _, _, rfl, HM.out⟩
    · exact Em.below_set4 hbel1 (Nat.le_refl _) _ _ _ _
  | false =>
    cases h2 : Em4.dgt c with
    | true =>
      have HR : Hid (Em4.tokAt (c :: r) = Em4.numAt (c :: r)) := by simp [Hid, Em4.tokAt, h1, h2]
      go_enter Tryd.func79, Tryd.ntmps79
      go_wp2_with (first | (go_at_call 83; refine (lletter_any _ _).mono ?_; rintro e w' ⟨rfl, rfl⟩) | (go_at_call 85; refine (ldigit_any _ _).mono ?_; rintro e w' ⟨rfl, rfl⟩))
      refine (lnumber_any _ _ _ _ HS.out (by omega)).mono ?_
      rintro e w1 ⟨⟨k, t, n, m, rfl, hr⟩, hb⟩
      obtain ⟨hc, hf⟩ := Em.bcell hb
      have hz : w.heap.size < w1.heap.size := by have := hb.size; simp at this; omega
      have hbel1 : Below w.heap.size w w1 := hbel.trans (hb.mono hbel.size)
      have HM : Hid (match Em4.numAt (c :: r) with | none => m = 0 | some (k', t', n', m') => k = k' ∧ Em.IsStr t t' ∧ n = n' ∧ m = m') := hr
      clear hb hr hbel
      go_wp2
      refine bodyPost_ret (v := .tuple #[tokV k t n 0, .int .i64 m]) (by simp [results, Tryd.results79, go_sem, hc, hz]) rfl ⟨?_, ?_⟩
      · rw [HR.out]; exact ⟨_, _, _, _, rfl, HM.out⟩
      · exact Em.below_set4 hbel1 (Nat.le_refl _) _ _ _ _
    | false =>
      by_cases h34 : c = 34
      · have HR : Hid (Em4.tokAt (c :: r) = Em4.strAt (c :: r)) := by simp only [Hid, Em4.tokAt, h1, h2]; simp [h34]
        have h34' : (c == 34) = true := by simpa using h34
        clear h34
        go_enter Tryd.func79, Tryd.ntmps79
        go_wp2_with (first | (go_at_call 83; refine (lletter_any _ _).mono ?_; rintro e w' ⟨rfl, rfl⟩) | (go_at_call 85; refine (ldigit_any _ _).mono ?_; rintro e w' ⟨rfl, rfl⟩))
        refine (ltext_any _ _ _ _ HS.out hm).mono ?_
        rintro e w1 ⟨⟨k, t, n, m, rfl, hr⟩, hb⟩
        obtain ⟨hc, hf⟩ := Em.bcell hb
        have hz : w.heap.size < w1.heap.size := by have := hb.size; simp at this; omega
        have hbel1 : Below w.heap.size w w1 := hbel.trans (hb.mono hbel.size)
        have HM : Hid (match Em4.strAt (c :: r) with | none => m = 0 | some (k', t', n', m') => k = k' ∧ Em.IsStr t t' ∧ n = n' ∧ m = m') := hr
        clear hb hr hbel
        go_wp2
        refine bodyPost_ret (v := .tuple #[tokV k t n 0, .int .i64 m]) (by simp [results, Tryd.results79, go_sem, hc, hz]) rfl ⟨?_, ?_⟩
        · rw [HR.out]; exact ⟨_, _, _, _, rfl, HM.out⟩
        · exact Em.below_set4 hbel1 (Nat.le_refl _) _ _ _ _
      · have HR : Hid (Em4.tokAt (c :: r) = Em4.sgnAt (c :: r)) := by simp only [Hid, Em4.tokAt, h1, h2]; simp [h34]
        have h34' : (c == 34) = false := by simpa using h34
        clear h34
        go_enter Tryd.func79, Tryd.ntmps79
        go_wp2_with (first | (go_at_call 83; refine (lletter_any _ _).mono ?_; rintro e w' ⟨rfl, rfl⟩) | (go_at_call 85; refine (ldigit_any _ _).mono ?_; rintro e w' ⟨rfl, rfl⟩))
        refine (lsign_any _ _ _ HS.out (HG.out.below hbel HG.out.lt)).mono ?_
        rintro e w1 ⟨⟨k, t, n, m, rfl, hr⟩, hb⟩
        obtain ⟨hc, hf⟩ := Em.bcell hb
        have hz : w.heap.size < w1.heap.size := by have := hb.size; simp at this; omega
        have hbel1 : Below w.heap.size w w1 := hbel.trans (hb.mono hbel.size)
        have HM : Hid (match Em4.sgnAt (c :: r) with | none => m = 0 | some (k', t', n', m') => k = k' ∧ Em.IsStr t t' ∧ n = n' ∧ m = m') := hr
        clear hb hr hbel
        go_wp2
        refine bodyPost_ret (v := .tuple #[tokV k t n 0, .int .i64 m]) (by simp [results, Tryd.results79, go_sem, hc, hz]) rfl ⟨?_, ?_⟩
        · rw [HR.out]; exact ⟨_, _, _, _, rfl, HM.out⟩
        · exact Em.below_set4 hbel1 (Nat.le_refl _) _ _ _ _
end Go.Proofs.YtoekhejpompjlaaDoor

/- What lex.name and lex.text answer. -/
import Derived.Test.YtgojjknbingfpaaDoorLexC
import Derived.Deep.RegionHeld
namespace Go.Proofs.YtgojjknbingfpaaDoor
open Go.RowKit
set_option linter.unusedSimpArgs false

theorem span_cons {p : Int → Bool} {c : Int} {r : List Int} (h : p c = true) : Em4.span p (c :: r) = 1 + Em4.span p r := by
  conv => lhs; unfold Em4.span
  rw [if_pos h]; omega
theorem words_short {l : List Int} (h : l ∈ Em4.words) : l.length ≤ 5 := by
  have : ∀ l ∈ Em4.words, l.length ≤ 5 := by decide
  exact this l h

theorem contains_str (x : ByteArray) (T : List Int) (v : Value) (l : List (List Int)) (w : World) (hv : IsStrs w v l) (hx : x = Em.str T) (hT : Em5.Txt T) :
    Calls Tryd.prog 71 #[v, .string x] w fun e w' => e = .returned (.bool (decide (T ∈ l))) ∧ w' = w := by
  subst hx; exact contains_any v l T w hv hT

set_option maxRecDepth 100000 in
set_option maxHeartbeats 1000000 in
theorem lname_any (s : ByteArray) (c : Int) (r : List Int) (w : World) (hs : Em.IsStr s (c :: r)) (hm : s.size ≤ 9223372036854775807) (hc : Em4.ltr c = true) :
    Calls Tryd.prog 48 #[.string s] w fun e w' => LexGot e (Em4.nameAt (c :: r)) ∧ Below w.heap.size w w' := by
  obtain ⟨L, hL⟩ : ∃ L, L = c :: r := ⟨_, rfl⟩
  obtain ⟨n, hn⟩ : ∃ n, n = Em4.span Em4.nmc L := ⟨_, rfl⟩
  have hN : Em4.nameAt L = if L.take n ∈ Em4.words then some (4, L.take n, 0, n) else if 12 < n then none else some (1, L.take n, 0, n) := by
    have : n = 1 + Em4.span Em4.nmc r := by rw [hn, hL]; exact span_cons (by simp [Em4.nmc, hc])
    rw [Em4.nameAt, hL]
    simp only [List.drop_succ_cons, List.drop_zero]
    rw [← this, ← hL]
  rw [← hL] at hs ⊢
  have hle : n ≤ s.size := by rw [hs.size, hn]; exact Em4.span_le _ _
  have HS : Hid (Em.IsStr s L) := hs
  have HNE : Hid (Em4.span Em4.nmc L = n) := hn.symm
  have HX : Hid (Em.IsStr (s.extract 0 n) (L.take n)) := by simpa [Hid] using hs.extract 0 n
  have hlt : (L.take n).length = n := by have h1 := hs.size; simp; omega
  have HN : Hid (Em4.nameAt L = if L.take n ∈ Em4.words then some (4, L.take n, 0, n) else if 12 < n then none else some (1, L.take n, 0, n)) := hN
  have HW : Hid (L.take n ∈ Em4.words → n ≤ 5) := fun h => by have := words_short h; omega
  clear hN hL hn hlt hs
  go_enter Tryd.func48, Tryd.ntmps48
  go_wp2_with fail
  refine (lspan_name _ L _ HS.out hm).mono ?_
  rintro e w1 ⟨rfl, rfl⟩
  rw [HNE.out]
  by_cases h12 : 12 < n
  · have HR : Hid (Em4.nameAt L = none) := by rw [Hid, HN.out, if_neg (fun h => by have := HW.out h; omega), if_pos h12]
    go_wp2
    refine bodyPost_ret (v := .tuple #[tokV 0 ⟨#[]⟩ 0 0, .int .i64 0]) (by simp [results, Tryd.results48, go_sem]) rfl ⟨?_, ?_⟩
    · rw [HR.out]; exact ⟨_, _, _, _, rfl, rfl⟩
    · first | exact Em.below_set4 ((Below.refl _ _).alloc (Nat.le_refl _) _) (Nat.le_refl _) _ _ _ _ | exact (Below.refl _ _).alloc (Nat.le_refl _) _
  · have HTX : Hid (Em5.Txt (L.take n)) := ⟨HX.out.2, by simp; omega⟩
    have HR : Hid (Em4.nameAt L = if L.take n ∈ Em4.words then some (4, L.take n, 0, n) else some (1, L.take n, 0, n)) := by rw [Hid, HN.out, if_neg h12]
    clear HN HW
    obtain ⟨T, hT⟩ : ∃ T, T = L.take n := ⟨_, rfl⟩
    rw [← hT] at HX HTX HR
    clear hT
    have hx : s.extract 0 n = Em.str T := HX.out.1
    have HXT : Hid (Em.IsStr (Em.str T) T) := by rw [← hx]; exact HX.out
    obtain ⟨x, hX⟩ : ∃ x, x = Em.str T := ⟨_, rfl⟩
    have HXE : Hid (x = Em.str T) := hX
    rw [← hX] at hx HXT
    clear hX HX
    go_wp2_with fail
    obtain ⟨W, hW⟩ : ∃ W, W = ((w.alloc (.cells #[.int .i64 0, .string ⟨#[]⟩, .int .i64 0, .int .i64 0] 46)).alloc (.cells #[.int .i64 1, .string x, .int .i64 0, .int .i64 0] 46)) := ⟨_, rfl⟩
    rw [← hW]
    have hWs : W.heap.size = w.heap.size + 2 := by rw [hW]; simp
    have hWb : Below w.heap.size w W := by rw [hW]; exact ((Below.refl _ _).alloc (Nat.le_refl _) _).alloc (by simp) _
    have k0 : W.cell? ⟨w.heap.size + 1, 0, none⟩ = some (.int .i64 1) := by rw [hW]; simp
    have k1 : W.cell? ⟨w.heap.size + 1, 1, none⟩ = some (.string x) := by rw [hW]; simp
    have k2 : W.cell? ⟨w.heap.size + 1, 2, none⟩ = some (.int .i64 0) := by rw [hW]; simp
    have k3 : W.cell? ⟨w.heap.size + 1, 3, none⟩ = some (.int .i64 0) := by rw [hW]; simp
    have q0 : W.cell? ⟨w.heap.size, 0, none⟩ = some (.int .i64 0) := by rw [hW]; simp
    have q1 : W.cell? ⟨w.heap.size, 1, none⟩ = some (.string ⟨#[]⟩) := by rw [hW]; simp
    have q2 : W.cell? ⟨w.heap.size, 2, none⟩ = some (.int .i64 0) := by rw [hW]; simp
    have q3 : W.cell? ⟨w.heap.size, 3, none⟩ = some (.int .i64 0) := by rw [hW]; simp
    have f0 : ∀ o, W.frozen? ⟨w.heap.size, o, none⟩ = false := by intro o; rw [hW]; simp [go_sem]
    have f1 : ∀ o, W.frozen? ⟨w.heap.size + 1, o, none⟩ = false := by intro o; rw [hW]; simp [go_sem]
    have HK : Hid (∀ w', Below W.heap.size W w' → w'.cell? ⟨w.heap.size + 1, 0, none⟩ = some (.int .i64 1) ∧ w'.cell? ⟨w.heap.size + 1, 1, none⟩ = some (.string x) ∧ w'.cell? ⟨w.heap.size + 1, 2, none⟩ = some (.int .i64 0) ∧ w'.cell? ⟨w.heap.size + 1, 3, none⟩ = some (.int .i64 0) ∧ w'.cell? ⟨w.heap.size, 0, none⟩ = some (.int .i64 0) ∧ w'.cell? ⟨w.heap.size, 1, none⟩ = some (.string ⟨#[]⟩) ∧ w'.cell? ⟨w.heap.size, 2, none⟩ = some (.int .i64 0) ∧ w'.cell? ⟨w.heap.size, 3, none⟩ = some (.int .i64 0) ∧ w.heap.size + 1 < w'.heap.size ∧ (∀ o, w'.frozen? ⟨w.heap.size, o, none⟩ = false) ∧ (∀ o, w'.frozen? ⟨w.heap.size + 1, o, none⟩ = false)) := fun w' hb => by
      have e1 : ∀ o, w'.cell? ⟨w.heap.size + 1, o, none⟩ = W.cell? ⟨w.heap.size + 1, o, none⟩ := fun o => hb.cell (p := ⟨w.heap.size + 1, o, none⟩) (by simp; omega)
      have e2 : ∀ o, w'.cell? ⟨w.heap.size, o, none⟩ = W.cell? ⟨w.heap.size, o, none⟩ := fun o => hb.cell (p := ⟨w.heap.size, o, none⟩) (by simp; omega)
      have := hb.size
      exact ⟨by rw [e1]; exact k0, by rw [e1]; exact k1, by rw [e1]; exact k2, by rw [e1]; exact k3, by rw [e2]; exact q0, by rw [e2]; exact q1, by rw [e2]; exact q2, by rw [e2]; exact q3, by omega, fun o => by rw [hb.frozen (p := ⟨w.heap.size, o, none⟩) (by simp; omega)]; exact f0 o, fun o => by rw [hb.frozen (p := ⟨w.heap.size + 1, o, none⟩) (by simp; omega)]; exact f1 o⟩
    clear hW k0 k1 k2 k3 q0 q1 q2 q3 f0 f1
    have bel0 : Below W.heap.size W W.drew := (Below.refl _ _).drew
    have kk0 := (HK.out _ bel0).2.1
    go_region_held (fun w' => Below W.heap.size W w' ∧ w'.cell? ⟨w.heap.size + 1, 1, none⟩ = some (.string x))
      (first | exact ⟨bel2, kk2⟩ | exact ⟨bel0, kk0⟩)
      (first | (go_at_call 71; refine (contains_str x T _ Em4.words _ his HXE.out HTX.out).mono ?_; rintro e w3 ⟨rfl, rfl⟩) | (go_at_call 72; refine (lwords_any _).mono ?_; rintro e w2 ⟨rfl, hw2⟩; have bel2 : Below W.heap.size W w2 := (by rw [hw2]; exact bel0.alloc bel0.size _); have kk2 := (HK.out _ bel2).2.1; have his : IsStrs w2 (.slice (some ⟨w.heap.size + 2, 0, none⟩) 22 22) Em4.words := (by rw [hw2]; exact words_is _ (by simp [hWs])); clear hw2))
    all_goals
      obtain ⟨j0, j1, j2, j3, p0, p1, p2, p3, hz, g0, g1⟩ := HK.out _ bel2
      have bel3 := hWb.trans (bel2.mono (show w.heap.size ≤ W.heap.size by omega))
      by_cases hd : T ∈ Em4.words
      · rw [decide_eq_true hd]
        have HV : Hid (Em4.nameAt L = some (4, T, 0, n)) := by rw [Hid, HR.out, if_pos hd]
        clear hd
        go_wp2
        refine bodyPost_ret (v := .tuple #[tokV 4 x 0 0, .int .i64 n]) (by simp [results, Tryd.results48, go_sem, hz, p0, p1, p2, p3]) rfl ⟨?_, ?_⟩
        · rw [HV.out]; exact ⟨_, _, _, _, rfl, rfl, HXT.out, rfl, rfl⟩
        · exact Em.below_set4 (bel3.setCell (p := ⟨w.heap.size + 1, 0, none⟩) (by simp) _) (Nat.le_refl _) _ _ _ _
      · rw [decide_eq_false hd]
        have HV : Hid (Em4.nameAt L = some (1, T, 0, n)) := by rw [Hid, HR.out, if_neg hd]
        clear hd
        go_wp2
        refine bodyPost_ret (v := .tuple #[tokV 1 x 0 0, .int .i64 n]) (by simp [results, Tryd.results48, go_sem, hz, p0, p1, p2, p3]) rfl ⟨?_, ?_⟩
        · rw [HV.out]; exact ⟨_, _, _, _, rfl, rfl, HXT.out, rfl, rfl⟩
        · exact Em.below_set4 bel3 (Nat.le_refl _) _ _ _ _
end Go.Proofs.YtgojjknbingfpaaDoor

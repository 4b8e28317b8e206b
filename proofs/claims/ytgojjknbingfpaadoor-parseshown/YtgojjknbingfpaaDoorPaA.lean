/- What the small methods of the program's parser answer: peek, fail, next, word, skip, must. -/
import Derived.Test.YtgojjknbingfpaaDoorProg
import Derived.Test.YtgojjknbingfpaaDoorPaS
import Derived.Test.YtgojjknbingfpaaDoorRPa1
namespace Go.Proofs.YtgojjknbingfpaaDoor
open Go.RowKit Go.Em5 Go.Em6
set_option linter.unusedSimpArgs false

set_option maxRecDepth 100000 in
set_option maxHeartbeats 1000000 in
theorem qpeek_any (pb tb d : Nat) (s : St) (w : World) (h : IsPr w pb tb d s) :
    Calls Tryd.prog 17 #[PP pb] w fun e w' => e = .returned (Em6.tokV (peekS s)) ∧ Below w.heap.size w w' := by
  obtain ⟨hlt, hlt2, -, -⟩ := h.lt
  obtain ⟨v, p, c, k0, k1, k2, k3, -, hm⟩ := h.cells
  clear h
  cases s with
  | error e =>
    obtain ⟨e1, e2⟩ := e
    obtain ⟨rfl, -⟩ := hm
    go_enter Tryd.func17, Tryd.ntmps17
    go_wp2_with fail
    refine bodyPost_ret (v := Em6.tokV ⟨0, [], 0, 0⟩) (by simp [results, Tryd.results17, go_sem]; rfl) rfl ⟨rfl, (Below.refl _ _).alloc (Nat.le_refl _) _⟩
  | ok L =>
    obtain ⟨rfl, h2, -, off, cap, rfl, h5, h6, h7⟩ := hm
    cases L with
    | nil => exact absurd rfl h2.ne
    | cons t r =>
      obtain ⟨d1, d2, d3, d4⟩ := h7 0 t rfl
      simp only [Nat.zero_mul, Nat.add_zero] at d1 d2 d3 d4
      obtain ⟨n, hn⟩ : ∃ n, n = (t :: r).length := ⟨_, rfl⟩
      rw [← hn] at k0 h5
      have hn0 : 0 < n := by rw [hn]; simp
      have hne : ((n : Int) == 0) = false := by simp; omega
      have hn1 : (0 : Int) < (n : Int) := by omega
      clear hn h7 h2
      show Calls _ _ _ _ fun e w' => e = .returned (Em6.tokV t) ∧ _
      go_enter Tryd.func17, Tryd.ntmps17
      go_wp2_with fail
      refine bodyPost_ret (v := Em6.tokV t) (by simp [results, Tryd.results17, go_sem]; rfl) rfl ⟨rfl, ((Below.refl _ _).alloc (Nat.le_refl _) _)⟩

set_option maxRecDepth 100000 in
set_option maxHeartbeats 1000000 in
theorem qfail_raw (pb tb d : Nat) (s : St) (w : World) (k : Nat) (h : IsPr w pb tb d s) (hk0 : k ≠ 0) (hk : k ≤ 9) :
    Calls Tryd.prog 18 #[PP pb, .int .i64 k] w fun e w' => e = .returned (.tuple #[]) ∧ IsPr w' pb tb d (failS k s) ∧ Bes pb w w' := by
  obtain ⟨v, p, c, k0, k1, k2, k3, hfr, hm⟩ := h.cells
  have hlt := h.lt.1
  have HH : Hid (IsPr w pb tb d s) := h
  clear h hfr
  cases s with
  | error e =>
    obtain ⟨e1, e2⟩ := e
    obtain ⟨rfl, h1, h2, -⟩ := hm
    have hne : (c == 0) = false := by simp; omega
    clear h1 h2
    go_enter Tryd.func18, Tryd.ntmps18
    go_wp2_with fail
    (try simp only [Exit.inBlock, Exit.then]); refine bodyPost_end (results_none rfl _ _ _) rfl ?_
    exact ⟨rfl, HH.out, Bes.refl _ _⟩
  | ok L =>
    obtain ⟨rfl, h2, -⟩ := hm
    go_enter Tryd.func18, Tryd.ntmps18
    go_wp2_with fail
    refine (qpeek_any pb tb d _ _ HH.out).mono ?_
    rintro e w1 ⟨rfl, hb1⟩
    have h1 := HH.out.below hb1
    have hpos := HH.out.now.2.2.1
    have hps : posL L = (peekS (.ok L)).pos := by cases L <;> rfl
    have hlt1 := h1.lt.1
    clear k0 k1 k2 k3 h2
    obtain ⟨v1, p1, c1, k0, k1, k2, k3, hfr, -⟩ := h1.cells
    have hf0 := hfr 0
    have hf2 := hfr 2
    have hf3 := hfr 3
    have HE : Hid (IsPr (((w1.setCell ⟨pb, 2, none⟩ (.int .i64 ((peekS (.ok L)).pos : Nat))).setCell ⟨pb, 3, none⟩ (.int .i64 k)).setCell ⟨pb, 0, none⟩ (.slice none 0 0)) pb tb d (.error (k, posL L))) := by rw [hps]; exact h1.err k _ hk0 hk hpos
    generalize peekS (.ok L) = t at *
    simp only [Em6.tokV]
    have f3 := fld3 t.kind (Em.str t.text) t.num t.pos
    have hbes : Bes pb w (((w1.setCell ⟨pb, 2, none⟩ (.int .i64 (t.pos : Nat))).setCell ⟨pb, 3, none⟩ (.int .i64 k)).setCell ⟨pb, 0, none⟩ (.slice none 0 0)) := (((Bes.of hb1).put 2 _).put 3 _).put 0 _
    clear hfr h1 hps hpos
    go_wp2_with fail
    (try simp only [Exit.inBlock, Exit.then]); refine bodyPost_end (results_none rfl _ _ _) rfl ?_
    exact ⟨rfl, HE.out, hbes⟩
theorem qfail_any (pb tb d : Nat) (s : St) (w : World) (k : Nat) (h : IsPs w pb tb d s) (hk0 : k ≠ 0) (hk : k ≤ 9) :
    Calls Tryd.prog 18 #[PP pb, .int .i64 k] w fun e w' => e = .returned (.tuple #[]) ∧ IsPs w' pb tb d (failS k s) ∧ Bes pb w w' :=
  (qfail_raw pb tb d s w k h.1 hk0 hk).mono fun _ _ ⟨a, b, c⟩ => ⟨a, ⟨b, lim_fail k h.2⟩, c⟩

set_option maxRecDepth 100000 in
set_option maxHeartbeats 1000000 in
theorem qnext_any (pb tb d : Nat) (t : Em4.Tok) (r : List Em4.Tok) (w : World) (h : IsPs w pb tb d (.ok (t :: r))) (hk : t.kind ≠ 5) :
    Calls Tryd.prog 54 #[PP pb] w fun e w' => e = .returned (Em6.tokV t) ∧ IsPs w' pb tb d (.ok r) ∧ Bes pb w w' := by
  have HH : Hid (IsPs w pb tb d (.ok (t :: r))) := h
  have HK : Hid (t.kind ≠ 5) := hk
  clear h hk
  go_enter Tryd.func54, Tryd.ntmps54
  go_wp2_with fail
  have z4 := Four.made w (.int .i64 0) (.string ⟨#[]⟩) (.int .i64 0) (.int .i64 0) 46
  have h0 := HH.out.alloc (.cells #[.int .i64 0, .string ⟨#[]⟩, .int .i64 0, .int .i64 0] 46)
  refine (qpeek_any pb tb d _ _ h0.1).mono ?_
  rintro e w1 ⟨rfl, hb1⟩
  have bs1 : Bes pb w w1 := ((Bes.refl pb w).alloc _).trans (Bes.of hb1)
  have p4 := z4.below hb1
  have h1 := h0.below hb1
  have hlt := HH.out.lt.1
  have hltb := HH.out.lt.2.1
  have hnb := HH.out.lt.2.2.1
  have HL := HH.out.2
  obtain ⟨off, cap, k0, m1, m2, t0, t1, t2, t3, m3, hN⟩ := h1.1.next HK.out
  obtain ⟨-, -, -, -, -, -, -, hfr, -⟩ := h1.1.cells
  have hf0 := hfr 0
  have hl1 := h1.lt.1
  have g4 := p4.lt
  unfold peekS
  simp only [Em6.tokV]
  clear hfr h0 h1 z4 hb1
  have hr1 : (1 : Int) ≤ (r.length : Int) + 1 := by omega
  have hr2 : 0 < r.length := List.length_pos_iff.2 m3
  have hc0 : ¬ cap = 0 := by omega
  clear m3
  have HR := hN w1 (Below.refl _ _)
  have q4 := p4.put (b := pb) (o := 0) (u := .slice (some ⟨tb, off + 4, none⟩) r.length cap) (by omega)
  have bs2 := bs1.put 0 (.slice (some ⟨tb, off + 4, none⟩) r.length cap)
  have hzz := World.size_setCell w1 ⟨pb, 0, none⟩ (.slice (some ⟨tb, off + 4, none⟩) r.length cap)
  obtain ⟨W, hW⟩ : ∃ W, w1.setCell ⟨pb, 0, none⟩ (.slice (some ⟨tb, off + 4, none⟩) r.length cap) = W := ⟨_, rfl⟩
  rw [hW] at HR q4 bs2 hzz
  have HR : Hid (IsPs W pb tb d (.ok r)) := ⟨HR, HL⟩
  obtain ⟨W2, hW2, sx, hz, hk, hbb⟩ := q4.set (.int .i64 t.kind) (.string (Em.str t.text)) (.int .i64 t.num) (.int .i64 t.pos)
  obtain ⟨a0, a1, a2, a3, f0, f1, f2, f3⟩ := id q4
  clear hN bs1 p4 HL
  go_wp2_with fail
  obtain ⟨c0, c1, c2, c3, -⟩ := sx.alloc (.cells #[.int .i64 t.kind, .string (Em.str t.text), .int .i64 t.num, .int .i64 t.pos] 46)
  refine bodyPost_ret (v := Em6.tokV t) (by simp [results, Tryd.results54, go_sem, c0, c1, c2, c3]; rfl) rfl ?_
  exact ⟨rfl, (HR.out.set hz hk (by omega) (by omega)).alloc _, (hbb pb w bs2 (Nat.le_refl _)).alloc _⟩

set_option maxRecDepth 100000 in
set_option maxHeartbeats 1000000 in
theorem qword_any (pb tb d : Nat) (s : St) (w : World) (h : IsPr w pb tb d s) :
    Calls Tryd.prog 57 #[PP pb] w fun e w' => e = .returned (.string (Em.str (wordS s))) ∧ Below w.heap.size w w' := by
  have HH : Hid (IsPr w pb tb d s) := h
  rw [wordS]
  obtain ⟨t, htd⟩ : ∃ t, t = peekS s := ⟨_, rfl⟩
  have HT : Hid (peekS s = t) := htd.symm
  rw [← htd]
  clear htd h
  by_cases h4 : t.kind = 4
  · have h4' : (t.kind == 4) = true := by simpa using h4
    rw [if_pos h4]
    clear h4
    go_enter Tryd.func57, Tryd.ntmps57
    go_wp2_with fail
    refine (qpeek_any pb tb d _ _ HH.out).mono ?_
    rintro e w1 ⟨rfl, hb1⟩
    rw [HT.out]
    simp only [Em6.tokV]
    have hb2 := hb1.alloc hb1.size (.cells #[.int .i64 t.kind, .string (Em.str t.text), .int .i64 t.num, .int .i64 t.pos] 46)
    go_wp2_with fail
    go_ret
    exact ⟨rfl, hb2⟩
  · have h4' : (t.kind == 4) = false := by simpa using h4
    rw [if_neg h4]
    clear h4
    go_enter Tryd.func57, Tryd.ntmps57
    go_wp2_with fail
    refine (qpeek_any pb tb d _ _ HH.out).mono ?_
    rintro e w1 ⟨rfl, hb1⟩
    rw [HT.out]
    simp only [Em6.tokV]
    have hb2 := hb1.alloc hb1.size (.cells #[.int .i64 t.kind, .string (Em.str t.text), .int .i64 t.num, .int .i64 t.pos] 46)
    go_wp2_with fail
    go_ret
    exact ⟨rfl, hb2⟩

set_option maxRecDepth 100000 in
set_option maxHeartbeats 1000000 in
theorem qskip_any (pb tb d : Nat) (s : St) (x : List Int) (w : World) (h : IsPs w pb tb d s) (hx : ∀ c ∈ x, 0 ≤ c ∧ c ≤ 255) (hne : x ≠ []) :
    Calls Tryd.prog 53 #[PP pb, .string (Em.str x)] w fun e w' => e = .returned (.bool (isWS x s)) ∧ IsPs w' pb tb d (eatS x s) ∧ Bes pb w w' := by
  have HH : Hid (IsPs w pb tb d s) := h
  have hq := (Em.isStr_str (wordS_txt h.1).1).beq (Em.isStr_str hx)
  rw [wordS_eq hne] at hq
  obtain ⟨q, hqd⟩ : ∃ q, q = isWS x s := ⟨_, rfl⟩
  have HQ : Hid (isWS x s = q) := hqd.symm
  rw [← hqd] at hq ⊢
  have hq' : ((Em.str (wordS s)).toList != (Em.str x).toList) = !q := by rw [bne, hq]
  clear h hx hqd hne
  cases q with
  | false =>
    have HE : Hid (eatS x s = s) := by rw [Hid, eatS, HQ.out]; rfl
    rw [HE.out]
    generalize HWD : wordS s = wd at *
    have HWD : Hid (wordS s = wd) := HWD
    go_enter Tryd.func53, Tryd.ntmps53
    go_wp2_with fail
    refine (qword_any pb tb d _ _ HH.out.1).mono ?_
    rintro e w1 ⟨rfl, hb1⟩
    rw [HWD.out]
    have hb2 := HH.out.below hb1
    go_wp2_with fail
    go_ret
    exact ⟨rfl, hb2, Bes.of hb1⟩
  | true =>
    obtain ⟨t, r, rfl, h4, -, -⟩ := isWS_ok HQ.out
    have HE : Hid (eatS x (.ok (t :: r)) = .ok r) := by rw [Hid, eatS, HQ.out]; rfl
    rw [HE.out]
    have HK : Hid (t.kind ≠ 5) := by rw [Hid, h4]; decide
    clear h4
    generalize HWD : wordS (.ok (t :: r)) = wd at *
    have HWD : Hid (wordS (.ok (t :: r)) = wd) := HWD
    go_enter Tryd.func53, Tryd.ntmps53
    go_wp2_with fail
    refine (qword_any pb tb d _ _ HH.out.1).mono ?_
    rintro e w1 ⟨rfl, hb1⟩
    rw [HWD.out]
    have hb2 := HH.out.below hb1
    go_wp2_with fail
    refine (qnext_any pb tb d t r _ hb2 HK.out).mono ?_
    rintro e w2 ⟨rfl, h2, bs2⟩
    have bs3 := (Bes.of (pb := pb) hb1).trans bs2
    go_wp2_with fail
    go_ret
    exact ⟨rfl, h2, bs3⟩

set_option maxRecDepth 100000 in
set_option maxHeartbeats 1000000 in
theorem qmust_any (pb tb d : Nat) (s : St) (x : List Int) (w : World) (h : IsPs w pb tb d s) (hx : ∀ c ∈ x, 0 ≤ c ∧ c ≤ 255) (hne : x ≠ []) :
    Calls Tryd.prog 31 #[PP pb, .string (Em.str x)] w fun e w' => e = .returned (.tuple #[]) ∧ IsPs w' pb tb d (needS x s) ∧ Bes pb w w' := by
  have HH : Hid (IsPs w pb tb d s) := h
  have HX : Hid ((∀ c ∈ x, 0 ≤ c ∧ c ≤ 255) ∧ x ≠ []) := ⟨hx, hne⟩
  obtain ⟨q, hq⟩ : ∃ q, q = isWS x s := ⟨_, rfl⟩
  have HQ : Hid (isWS x s = q) := hq.symm
  clear h hx hq hne
  go_enter Tryd.func31, Tryd.ntmps31
  go_wp2_with fail
  refine (qskip_any pb tb d s x _ HH.out HX.out.1 HX.out.2).mono ?_
  rintro e w1 ⟨rfl, h1, hb1⟩
  rw [HQ.out]
  cases q with
  | false =>
    have HE : Hid (eatS x s = s) := by rw [Hid, eatS, HQ.out]; rfl
    have HN : Hid (needS x s = failS 2 s) := by rw [Hid, needS, HQ.out]; rfl
    have HS : Hid (IsPs w1 pb tb d s) := by rw [← HE.out]; exact h1
    clear h1
    go_wp2_with fail
    refine (qfail_any pb tb d s _ 2 HS.out (by omega) (by omega)).mono ?_
    rintro e w2 ⟨rfl, h2, hb2⟩
    have hbes := hb1.trans hb2
    clear hb1 hb2
    go_wp2_with fail
    (try simp only [Exit.inBlock, Exit.then]); refine bodyPost_end (results_none rfl _ _ _) rfl ?_
    exact ⟨rfl, by rw [HN.out]; exact h2, hbes⟩
  | true =>
    have HN : Hid (needS x s = eatS x s) := by rw [Hid, needS, eatS, HQ.out]; rfl
    have HS : Hid (IsPs w1 pb tb d (eatS x s)) := h1
    clear h1
    go_wp2_with fail
    (try simp only [Exit.inBlock, Exit.then]); refine bodyPost_end (results_none rfl _ _ _) rfl ?_
    exact ⟨rfl, by rw [HN.out]; exact HS.out, hb1⟩
end Go.Proofs.YtgojjknbingfpaaDoor

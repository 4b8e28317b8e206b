/- What the small methods of the document's own parser answer. -/
import Derived.Test.YtoekhejpompjlaaDoorProg
import Derived.Test.YtoekhejpompjlaaDoorRPa0
import Derived.WalkKit
import Derived.WalkSpells
import Derived.WalkLawsBesides
import Derived.Deep.RegionHeld
import Derived.BigQuiet
namespace Go.Proofs.YtoekhejpompjlaaDoor
open Go.RowKit Go.Em5 Go.Em6
set_option linter.unusedSimpArgs false

abbrev PP (pb : Nat) : Value := .pointer (some ⟨pb, 0, none⟩)

set_option maxRecDepth 100000 in
set_option maxHeartbeats 1000000 in
theorem pnow_any (pb tb : Nat) (s : St) (w : World) (h : IsSt w pb tb s) :
    Calls Tryd.prog 23 #[PP pb] w fun e w' => e = .returned (Em6.tokV (nowS s)) ∧ Below w.heap.size w w' := by
  obtain ⟨T, off, cap, i, c, p, k0, k1, k2, k3, hfr, hc1, hc2, hT, hm, -⟩ := h.cells
  have hlt := h.lt.1
  have hlt2 := h.lt.2.1
  clear h
  cases s with
  | error e =>
    obtain ⟨e1, e2⟩ := e
    obtain ⟨h1, h2, h3⟩ := hm
    have hne : (c == 0) = false := by simpa using h2
    have hne' : (c != 0) = true := by rw [bne, hne]; rfl
    subst h3
    clear h1 h2 hT hfr
    go_enter Tryd.func23, Tryd.ntmps23
    go_wp2_with fail
    refine bodyPost_ret (v := Em6.tokV ⟨5, [], 0, e2⟩) (by simp [results, Tryd.results23, go_sem]; rfl) rfl ⟨rfl, (Below.refl _ _).alloc (Nat.le_refl _) _⟩
  | ok L =>
    obtain ⟨h1, h2, h3, -, -⟩ := hm
    subst h1
    obtain ⟨d1, d2, d3, d4⟩ := hT i _ h3
    generalize nowS (.ok L) = t at d1 d2 d3 d4 ⊢
    have hi1 : (0 : Int) ≤ (i : Int) := by omega
    have hi2 : (i : Int) < (T.length : Int) := by omega
    clear h3 hT hfr
    go_enter Tryd.func23, Tryd.ntmps23
    go_wp2_with fail
    go_region
    all_goals
      go_wp2
      refine bodyPost_ret (v := Em6.tokV t) (by simp [results, Tryd.results23, go_sem]; rfl) rfl ⟨rfl, ((Below.refl _ _).alloc (Nat.le_refl _) _).drew⟩

set_option maxRecDepth 100000 in
set_option maxHeartbeats 1000000 in
theorem pfail_any (pb tb : Nat) (s : St) (w : World) (k : Nat) (h : IsSt w pb tb s) (hk0 : k ≠ 0) (hk : k ≤ 9) :
    Calls Tryd.prog 24 #[PP pb, .int .i64 k] w fun e w' => e = .returned (.tuple #[]) ∧ IsSt w' pb tb (failS k s) ∧ Bes pb w w' := by
  obtain ⟨T, off, cap, i, c, p, k0, k1, k2, k3, hfr, hc1, hc2, hT, hm, he⟩ := h.cells
  have hlt := h.lt.1
  have HH : Hid (IsSt w pb tb s) := h
  clear h he hT hfr
  cases s with
  | error e =>
    obtain ⟨e1, e2⟩ := e
    obtain ⟨h1, h2, h3⟩ := hm
    have hne : (c == 0) = false := by simpa using h2
    clear h1 h2 h3
    go_enter Tryd.func24, Tryd.ntmps24
    go_wp2_with fail
    (try simp only [Exit.inBlock, Exit.then]); refine bodyPost_end (results_none rfl _ _ _) rfl ?_
    exact ⟨rfl, HH.out, Bes.refl _ _⟩
  | ok L =>
    obtain ⟨h1, -, -, -, -⟩ := hm
    subst h1
    go_enter Tryd.func24, Tryd.ntmps24
    go_wp2_with fail
    refine (pnow_any pb tb _ _ HH.out).mono ?_
    rintro e w1 ⟨rfl, hb1⟩
    have h1 := HH.out.below hb1
    have hpos := HH.out.now.2.2.1
    have hps : posL L = (nowS (.ok L)).pos := by cases L <;> rfl
    have hlt1 := h1.lt.1
    clear k0 k1 k2 k3
    obtain ⟨T1, off1, cap1, i1, c1, p1, k0, k1, k2, k3, hfr, -, -, -, -, he⟩ := h1.cells
    have hf2 := hfr 2
    have hf3 := hfr 3
    have HE : Hid (IsSt ((w1.setCell ⟨pb, 2, none⟩ (.int .i64 k)).setCell ⟨pb, 3, none⟩ (.int .i64 ((nowS (.ok L)).pos : Nat))) pb tb (.error (k, posL L))) := by rw [hps]; exact he k _ L rfl hk0 hk hpos
    generalize nowS (.ok L) = t at *
    simp only [Em6.tokV]
    have f3 := fld3 t.kind (Em.str t.text) t.num t.pos
    have hbes : Bes pb w ((w1.setCell ⟨pb, 2, none⟩ (.int .i64 k)).setCell ⟨pb, 3, none⟩ (.int .i64 (t.pos : Nat))) := ((Bes.of hb1).put 2 _).put 3 _
    clear he hfr h1 hps hpos
    go_wp2_with fail
    (try simp only [Exit.inBlock, Exit.then]); refine bodyPost_end (results_none rfl _ _ _) rfl ?_
    exact ⟨rfl, HE.out, hbes⟩

set_option maxRecDepth 100000 in
set_option maxHeartbeats 1000000 in
theorem pis_any (pb tb : Nat) (s : St) (x : List Int) (w : World) (h : IsSt w pb tb s) (hx : ∀ c ∈ x, 0 ≤ c ∧ c ≤ 255) :
    Calls Tryd.prog 55 #[PP pb, .string (Em.str x)] w fun e w' => e = .returned (.bool (isWS x s)) ∧ Below w.heap.size w w' := by
  have HH : Hid (∀ w', Below w.heap.size w w' → IsSt w' pb tb s) := fun w' hb => h.below hb
  have hq := (Em.isStr_str h.now.1.1).beq (Em.isStr_str hx)
  rw [isWS_now]
  obtain ⟨t, htd⟩ : ∃ t, t = nowS s := ⟨_, rfl⟩
  have HT : Hid (nowS s = t) := htd.symm
  rw [← htd] at hq ⊢
  clear htd h
  by_cases h4 : t.kind = 4
  · have h4' : (t.kind == 4) = true := by simpa using h4
    rw [decide_eq_true h4, Bool.true_and]
    obtain ⟨q, hqd⟩ : ∃ q, q = decide (t.text = x) := ⟨_, rfl⟩
    rw [← hqd] at hq ⊢
    clear h4 hqd
    have f0 := fld0 t.kind (Em.str t.text) t.num t.pos
    have f1 := fld1 t.kind (Em.str t.text) t.num t.pos
    go_enter Tryd.func55, Tryd.ntmps55
    go_wp2_with fail
    refine (pnow_any pb tb s _ (HH.out _ (Below.refl _ _))).mono ?_
    rintro e w1 ⟨rfl, hb1⟩
    rw [HT.out]
    simp only [Em6.tokV]
    go_wp2_with fail
    refine (pnow_any pb tb s _ (HH.out _ hb1)).mono ?_
    rintro e w2 ⟨rfl, hb2⟩
    rw [HT.out]
    simp only [Em6.tokV]
    have bel2 : Below w.heap.size w w2 := hb1.trans (hb2.mono hb1.size)
    go_wp2_with fail
    go_ret
    exact ⟨rfl, bel2⟩
  · have h4' : (t.kind == 4) = false := by simpa using h4
    rw [decide_eq_false h4, Bool.false_and]
    clear h4
    have f0 := fld0 t.kind (Em.str t.text) t.num t.pos
    have f1 := fld1 t.kind (Em.str t.text) t.num t.pos
    go_enter Tryd.func55, Tryd.ntmps55
    go_wp2_with fail
    refine (pnow_any pb tb s _ (HH.out _ (Below.refl _ _))).mono ?_
    rintro e w1 ⟨rfl, hb1⟩
    rw [HT.out]
    simp only [Em6.tokV]
    go_wp2_with fail
    go_ret
    exact ⟨rfl, hb1⟩


set_option maxRecDepth 100000 in
set_option maxHeartbeats 1000000 in
theorem peat_any (pb tb : Nat) (s : St) (x : List Int) (w : World) (h : IsSt w pb tb s) (hx : ∀ c ∈ x, 0 ≤ c ∧ c ≤ 255) :
    Calls Tryd.prog 34 #[PP pb, .string (Em.str x)] w fun e w' => e = .returned (.bool (isWS x s)) ∧ IsSt w' pb tb (eatS x s) ∧ Bes pb w w' := by
  have HH : Hid (IsSt w pb tb s) := h
  have HX : Hid (∀ c ∈ x, 0 ≤ c ∧ c ≤ 255) := hx
  have hlt := h.lt.1
  obtain ⟨q, hq⟩ : ∃ q, q = isWS x s := ⟨_, rfl⟩
  have HQ : Hid (isWS x s = q) := hq.symm
  rw [← hq]
  cases q with
  | false =>
    have HE : Hid (eatS x s = s) := by rw [Hid, eatS, HQ.out]; rfl
    clear h hx hq
    go_enter Tryd.func34, Tryd.ntmps34
    go_wp2_with fail
    refine (pis_any pb tb s x _ HH.out HX.out).mono ?_
    rintro e w1 ⟨rfl, hb1⟩
    rw [HQ.out]
    go_wp2_with fail
    go_ret
    exact ⟨rfl, by rw [HE.out]; exact HH.out.below hb1, Bes.of hb1⟩
  | true =>
    obtain ⟨t, r, rfl, h4, -, -⟩ := isWS_ok hq.symm
    have HE : Hid (eatS x (.ok (t :: r)) = .ok r) := by rw [Hid, eatS, HQ.out]; rfl
    have HN : Hid (EndL r) := h.tok.2.tail (by omega)
    clear h hx hq h4
    go_enter Tryd.func34, Tryd.ntmps34
    go_wp2_with fail
    refine (pis_any pb tb _ x _ HH.out HX.out).mono ?_
    rintro e w1 ⟨rfl, hb1⟩
    rw [HQ.out]
    have h1 := HH.out.below hb1
    have hlt1 := h1.lt.1
    obtain ⟨T, off, cap, i, c, p, k0, k1, k2, k3, hfr, hc1, hc2, hT, hm, -⟩ := h1.cells
    obtain ⟨-, m2, -, m4, m5⟩ := hm
    have hf1 := hfr 1
    have hcap : cap ≤ 9223372036854775807 := hc2
    have HS : Hid (IsSt (w1.setCell ⟨pb, 1, none⟩ (.int .i64 (i + 1))) pb tb (.ok r)) := m5 r HN.out (by
      have := congrArg List.tail m4
      rw [List.tail_drop] at this
      simpa using this)
    have hbes : Bes pb w (w1.setCell ⟨pb, 1, none⟩ (.int .i64 (i + 1))) := (Bes.of hb1).put 1 _
    clear m4 m5 hT hfr h1
    go_wp2_with fail
    go_ret
    exact ⟨rfl, by rw [HE.out]; exact HS.out, hbes⟩

set_option maxRecDepth 100000 in
set_option maxHeartbeats 1000000 in
theorem pneed_any (pb tb : Nat) (s : St) (x : List Int) (w : World) (h : IsSt w pb tb s) (hx : ∀ c ∈ x, 0 ≤ c ∧ c ≤ 255) :
    Calls Tryd.prog 37 #[PP pb, .string (Em.str x)] w fun e w' => e = .returned (.tuple #[]) ∧ IsSt w' pb tb (needS x s) ∧ Bes pb w w' := by
  have HH : Hid (IsSt w pb tb s) := h
  have HX : Hid (∀ c ∈ x, 0 ≤ c ∧ c ≤ 255) := hx
  obtain ⟨q, hq⟩ : ∃ q, q = isWS x s := ⟨_, rfl⟩
  have HQ : Hid (isWS x s = q) := hq.symm
  clear h hx hq
  go_enter Tryd.func37, Tryd.ntmps37
  go_wp2_with fail
  refine (peat_any pb tb s x _ HH.out HX.out).mono ?_
  rintro e w1 ⟨rfl, h1, hb1⟩
  rw [HQ.out]
  cases q with
  | false =>
    have HE : Hid (eatS x s = s) := by rw [Hid, eatS, HQ.out]; rfl
    have HN : Hid (needS x s = failS 2 s) := by rw [Hid, needS, HQ.out]; rfl
    have HS : Hid (IsSt w1 pb tb s) := by rw [← HE.out]; exact h1
    clear h1
    go_wp2_with fail
    refine (pfail_any pb tb s _ 2 HS.out (by omega) (by omega)).mono ?_
    rintro e w2 ⟨rfl, h2, hb2⟩
    have hbes := hb1.trans hb2
    clear hb1 hb2
    go_wp2_with fail
    (try simp only [Exit.inBlock, Exit.then]); refine bodyPost_end (results_none rfl _ _ _) rfl ?_
    exact ⟨rfl, by rw [HN.out]; exact h2, hbes⟩
  | true =>
    have HN : Hid (needS x s = eatS x s) := by rw [Hid, needS, eatS, HQ.out]; rfl
    have HS : Hid (IsSt w1 pb tb (eatS x s)) := h1
    clear h1
    go_wp2_with fail
    (try simp only [Exit.inBlock, Exit.then]); refine bodyPost_end (results_none rfl _ _ _) rfl ?_
    exact ⟨rfl, by rw [HN.out]; exact HS.out, hb1⟩

set_option maxRecDepth 100000 in
set_option maxHeartbeats 1000000 in
theorem pname_any (pb tb : Nat) (s : St) (w : World) (h : IsSt w pb tb s) :
    Calls Tryd.prog 36 #[PP pb] w fun e w' => e = .returned (.string (Em.str (nameS s).1)) ∧ IsSt w' pb tb (nameS s).2 ∧ Bes pb w w' := by
  have HH : Hid (IsSt w pb tb s) := h
  have hlt := h.lt.1
  have hltb := h.lt.2.1
  obtain ⟨t, htd⟩ : ∃ t, t = nowS s := ⟨_, rfl⟩
  have HT : Hid (nowS s = t) := htd.symm
  by_cases h1 : t.kind = 1
  · have hk : (t.kind == 1) = true := by simpa using h1
    have hk' : (t.kind != 1) = false := by rw [bne, hk]; rfl
    obtain ⟨r, rfl⟩ : ∃ r, s = .ok (t :: r) := by
      cases s with
      | error e => rw [htd] at h1; simp [nowS] at h1
      | ok L => cases L with
        | nil => rw [htd] at h1; simp [nowS] at h1
        | cons x r => exact ⟨r, by rw [htd]; rfl⟩
    have HN : Hid (EndL r) := h.tok.2.tail (by omega)
    have HE : Hid (nameS (.ok (t :: r)) = (t.text, .ok r)) := by simp [Hid, nameS, h1]
    rw [HE.out]
    clear h htd h1
    go_enter Tryd.func36, Tryd.ntmps36
    go_wp2_with fail
    refine (pnow_any pb tb _ _ HH.out).mono ?_
    rintro e w1 ⟨rfl, hb1⟩
    rw [HT.out]
    simp only [Em6.tokV]
    have h1 := HH.out.below hb1
    have hlt1 := h1.lt.1
    obtain ⟨T, off, cap, i, c, p, k0, k1, k2, k3, hfr, hc1, hc2, hT, hm, -⟩ := h1.cells
    obtain ⟨-, m2, -, m4, m5⟩ := hm
    have hf1 := hfr 1
    have hcap : cap ≤ 9223372036854775807 := hc2
    have HS : Hid (IsSt _ pb tb (.ok r)) := m5 r HN.out (by
      have := congrArg List.tail m4
      rw [List.tail_drop] at this
      simpa using this)
    have hbes : Bes pb w (w1.setCell ⟨pb, 1, none⟩ (.int .i64 (i + 1))) := (Bes.of hb1).put 1 (.int .i64 (i + 1))
    clear m4 m5 hT hfr h1
    go_wp2_with fail
    go_ret
    exact ⟨rfl, HS.out.alloc _, hbes.alloc _⟩
  · have hk : (t.kind == 1) = false := by simpa using h1
    have hk' : (t.kind != 1) = true := by rw [bne, hk]; rfl
    have HE : Hid (nameS s = ([], failS 2 s)) := by
      cases s with
      | error e => rfl
      | ok L => cases L with
        | nil => rfl
        | cons x r =>
          have : x = t := by rw [htd]; rfl
          subst this
          simp [Hid, nameS, h1, failS, posL]
    rw [HE.out]
    clear h htd h1
    go_enter Tryd.func36, Tryd.ntmps36
    go_wp2_with fail
    refine (pnow_any pb tb _ _ HH.out).mono ?_
    rintro e w1 ⟨rfl, hb1⟩
    rw [HT.out]
    simp only [Em6.tokV]
    go_wp2_with fail
    refine (pfail_any pb tb s _ 2 ((HH.out.below hb1).alloc _) (by omega) (by omega)).mono ?_
    rintro e w2 ⟨rfl, h2, hb2⟩
    have hbes := ((Bes.of hb1).alloc _).trans hb2
    clear hb1 hb2
    go_wp2_with fail
    go_ret
    exact ⟨rfl, h2, hbes⟩
end Go.Proofs.YtoekhejpompjlaaDoor

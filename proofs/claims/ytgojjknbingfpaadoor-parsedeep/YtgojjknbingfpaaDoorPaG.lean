/- What 'app' of the program's parser answers. -/
import Derived.Test.YtgojjknbingfpaaDoorPaF
namespace Go.Proofs.YtgojjknbingfpaaDoor
open Go.RowKit Go.Em5 Go.Em6
set_option linter.unusedSimpArgs false

theorem app_one {A : List Em4.Tok → R} {t : Em4.Tok} {r : List Em4.Tok} (h4 : t.kind = 4) (hm : t.text ∈ ones) : appS A (t :: r) = bnd (A r) fun a L' => .ok (nd t.text t.pos [a], L') := by
  have e : ones.find? (fun o => isW o (t :: r)) = some t.text := by
    simp only [ones, List.mem_cons, List.not_mem_nil, or_false] at hm
    rcases hm with h | h | h | h | h | h | h | h | h <;> (simp only [isW, h4, h]; decide)
  unfold appS
  rw [e]
  rfl
theorem app_none {t : Em4.Tok} {r : List Em4.Tok} (hm : t.kind = 4 → t.text ∉ ones) : ones.find? (fun o => isW o (t :: r)) = none := by
  rw [List.find?_eq_none]
  intro x hx h
  simp only [isW, Bool.and_eq_true, decide_eq_true_eq] at h
  exact hm h.1 (h.2 ▸ hx)
theorem app_link {A : List Em4.Tok → R} {t : Em4.Tok} {r : List Em4.Tok} (h4 : t.kind = 4) (hm : t.text = [108, 105, 110, 107]) : appS A (t :: r) = bnd (A r) fun a L1 => bnd (A L1) fun b L2 => .ok (nd [108, 105, 110, 107] t.pos [a, b], L2) := by
  unfold appS
  rw [app_none (fun _ h => by rw [hm] at h; exact absurd h (by decide))]
  simp only
  rw [if_pos (show isW [108, 105, 110, 107] (t :: r) = true by simp [isW, h4, hm])]
  rfl
theorem app_else {A : List Em4.Tok → R} {s : St} (h : wordS s ∉ ones ∧ wordS s ≠ [108, 105, 110, 107]) : thn s (appS A) = thn s fun L => bnd (A L) fun a L1 => appF A L1.length a L1 := by
  cases s with
  | error e => rfl
  | ok L =>
    show appS A L = _
    cases L with
    | nil => unfold appS; rfl
    | cons t r =>
      have hw : t.kind = 4 → wordS (.ok (t :: r)) = t.text := fun h => by show (if t.kind = 4 then t.text else []) = t.text; rw [if_pos h]
      unfold appS
      rw [app_none (fun h4 hm => h.1 (by rw [hw h4]; exact hm))]
      simp only
      rw [if_neg (show ¬ isW [108, 105, 110, 107] (t :: r) = true from fun hl => by
        simp only [isW, Bool.and_eq_true, decide_eq_true_eq] at hl
        exact h.2 (by rw [hw hl.1]; exact hl.2))]
      rfl
theorem wordS_ok {s : St} (h : wordS s ≠ []) : ∃ t r, s = .ok (t :: r) ∧ t.kind = 4 ∧ t.text = wordS s := by
  cases s with
  | error e => exact absurd rfl h
  | ok L => cases L with
    | nil => exact absurd rfl h
    | cons t r =>
      have e : wordS (.ok (t :: r)) = if t.kind = 4 then t.text else [] := rfl
      by_cases h4 : t.kind = 4
      · rw [if_pos h4] at e; exact ⟨t, r, rfl, h4, e.symm⟩
      · rw [if_neg h4] at e; exact absurd e h
set_option maxRecDepth 100000 in
set_option maxHeartbeats 4000000 in
/-- Behind no word that is a sign of its own. -/
theorem qapp_loop (d : Nat) (C : List Em4.Tok → R) (hC : DoesP 91 d C) (hS : Shr C) (s : St) (hs : wordS s ∉ ones ∧ wordS s ≠ [108, 105, 110, 107]) : DoesAt 88 d (appS C) s := by
  intro w pb tb h
  have HH : Hid (IsPs w pb tb d s) := h
  have HC : Hid (DoesP 91 d C) := hC
  have HSH : Hid (Shr C) := hS
  obtain ⟨hlp, hlt, hne, -⟩ := h.lt
  have hq := Em5.str_eq (wordS_txt h.1).1
  obtain ⟨wd, hwd⟩ : ∃ wd, wd = wordS s := ⟨_, rfl⟩
  have HWD : Hid (wordS s = wd) := hwd.symm
  rw [← hwd] at hq
  have hty : Txt wd := by rw [hwd]; exact wordS_txt h.1
  have HTY : Hid (Txt wd) := hty
  clear h hC hS hty
  have z4 := Six.made w (.string ⟨#[]⟩) (.string ⟨#[]⟩) (.string ⟨#[]⟩) (.int .i64 0) (.int .i64 0) (.slice none 0 0) 24
  have q0 : ((Em.str wd).toList == [114, 97, 105, 115, 101]) = decide (wd = [114, 97, 105, 115, 101]) := hq [114, 97, 105, 115, 101]
  have q1 : ((Em.str wd).toList == [102, 115, 116]) = decide (wd = [102, 115, 116]) := hq [102, 115, 116]
  have q2 : ((Em.str wd).toList == [115, 110, 100]) = decide (wd = [115, 110, 100]) := hq [115, 110, 100]
  have q3 : ((Em.str wd).toList == [114, 101, 102]) = decide (wd = [114, 101, 102]) := hq [114, 101, 102]
  have q4 : ((Em.str wd).toList == [99, 101, 108, 108]) = decide (wd = [99, 101, 108, 108]) := hq [99, 101, 108, 108]
  have q5 : ((Em.str wd).toList == [116, 97, 103]) = decide (wd = [116, 97, 103]) := hq [116, 97, 103]
  have q6 : ((Em.str wd).toList == [108, 105, 110, 107, 115]) = decide (wd = [108, 105, 110, 107, 115]) := hq [108, 105, 110, 107, 115]
  have q7 : ((Em.str wd).toList == [115, 105, 122, 101]) = decide (wd = [115, 105, 122, 101]) := hq [115, 105, 122, 101]
  have q8 : ((Em.str wd).toList == [112, 114, 105, 110, 116]) = decide (wd = [112, 114, 105, 110, 116]) := hq [112, 114, 105, 110, 116]
  have q9 : ((Em.str wd).toList == [108, 105, 110, 107]) = decide (wd = [108, 105, 110, 107]) := hq [108, 105, 110, 107]
  clear hq
  have HEL : Hid (thn s (appS C) = thn s fun L => bnd (C L) fun a L1 => appF C L1.length a L1) := app_else hs
  have hwo := hs.2
  have hno := hs.1
  rw [← hwd] at hwo hno
  simp only [ones, List.mem_cons, List.not_mem_nil, or_false, not_or] at hno
  obtain ⟨n0, n1, n2, n3, n4, n5, n6, n7, n8⟩ := hno
  rw [decide_eq_false n0] at q0
  rw [decide_eq_false n1] at q1
  rw [decide_eq_false n2] at q2
  rw [decide_eq_false n3] at q3
  rw [decide_eq_false n4] at q4
  rw [decide_eq_false n5] at q5
  rw [decide_eq_false n6] at q6
  rw [decide_eq_false n7] at q7
  rw [decide_eq_false n8] at q8
  rw [decide_eq_false hwo] at q9
  clear hwo n0 n1 n2 n3 n4 n5 n6 n7 n8 hwd hs
  go_enter Tryd.func88, Tryd.ntmps88
  go_wp2_with fail
  refine (qword_any pb tb d _ _ (HH.out.alloc _).1).mono ?_
  rintro e w1 ⟨rfl, hb1⟩
  rw [HWD.out]
  have h1 := (HH.out.alloc _).below hb1
  have p4 := z4.below hb1
  have bs1 : Bes pb w w1 := ((Bes.refl pb w).alloc _).trans (Bes.of hb1)
  clear hb1 z4
  go_wp2_with fail
  refine (HC.out s _ pb tb h1).mono ?_
  rintro e w2 ⟨v2, n2, s2, rfl, d2, h2, b2, F2⟩
  obtain ⟨x0, x1, x2, xm, xp, xa, xl, xc, rfl⟩ := ndb_shape d2
  have p42 := p4.bes b2 (by omega)
  have bs2 := bs1.trans b2
  have g5 : w.heap.size < w2.heap.size := p42.lt
  have g4 := p4.lt
  have HST : Hid (LoopP C appF pb tb d w s w2.heap.size (w2.alloc (.cells #[.string x0, .string x1, .string x2, .int .i64 xm, .int .i64 xp, .slice xa xl xc] 24))) :=
    ⟨n2, s2, x0, x1, x2, xm, xp, xa, xl, xc, Six.made w2 _ _ _ _ _ _ _, p42.alloc _, h2.alloc _, bs2.alloc _, ndp_below (ndq_of (ndb_mono d2 (by omega)) (Nat.le_refl _)) ((Below.refl _ _).alloc (Nat.le_refl _) _), fun m s'' hf => fits_thn F2 hf⟩
  clear b2 h2 p4 p42 bs2 d2 F2 bs1 h1 q0 q1 q2 q3 q4 q5 q6 q7 q8 q9
  go_wp2
  go_loopw [7] (fun _ wr => Hid (LoopP C appF pb tb d w s w2.heap.size wr)) (fun _ wr => muP pb wr)
  case atStart => exact HST
  case round =>
    have HL := hrel
    clear hrel
    obtain ⟨n1, s1, x0, x1, x2, xm, xp, xa, xl, xc, o5, o4, h1, bs1, d1, HD⟩ := HL.out
    have HD : Hid (∀ (m : Nd) (s'' : St), Fits (thn s1 (fun L => appF C L.length n1 L)) m s'' → Fits (thn s (fun L => bnd (C L) fun a L1 => appF C L1.length a L1)) m s'') := HD
    have HM : Hid (muP pb wr = lenS s1) := muP_eq h1
    clear HST HL
    go_wp2_with fail
    refine (qpeek_any pb tb d s1 _ h1.1).mono ?_
    rintro e w3 ⟨rfl, hb3⟩
    have hbq := opA_begins h1.1
    have htk := h1.1.now
    have h3 := h1.below hb3
    have q43 := o4.below hb3
    have q53 := o5.below hb3
    have bs3 : Bes pb w w3 := bs1.trans (Bes.of hb3)
    have d3 := ndp_below d1 hb3
    clear h1 o4 o5 bs1 d1 hb3
    go_wp2_with fail
    refine (qop_any _ _ htk).mono ?_
    rintro e w4 ⟨rfl, hb4⟩
    have hq0 : ((Em.str (opA (peekS s1))).toList == []) = !beginsS s1 := (Em5.str_eq (opA_byt _) []).trans hbq
    have hq1 : ((Em.str (opA (peekS s1))).toList != []) = beginsS s1 := by rw [bne, hq0, Bool.not_not]
    have h4 := h3.below hb4
    have q44 := q43.below hb4
    have q54 := q53.below hb4
    have bs4 : Bes pb w w4 := bs3.trans (Bes.of hb4)
    have d4 := ndp_below d3 hb4
    clear h3 q43 q53 bs3 d3 hb4 hbq
    obtain ⟨b0, hb0⟩ : ∃ b, b = beginsS s1 := ⟨_, rfl⟩
    rw [← hb0] at hq1 hq0
    generalize opA (peekS s1) = oa at *
    cases b0 with
    | false =>
      have hq0 : ((Em.str oa).toList == []) = true := hq0
      have HF : Hid (Fits (thn s (appS C)) n1 s1) := by rw [Hid, HEL.out]; exact HD.out n1 s1 (app_stop hb0.symm)
      obtain ⟨c0, c1, c2, c3, c4, c5, -⟩ := id q54
      obtain ⟨a0, a1, a2, a3, a4, a5, f0, f1, f2, f3', f4, f5⟩ := id q44
      clear hb0 htk
      go_wp2_with fail
      obtain ⟨W, hW, sx, hz, hk, hbb⟩ := q44.set (.string x0) (.string x1) (.string x2) (.int .i64 xm) (.int .i64 xp) (.slice xa xl xc)
      rw [hW]
      obtain ⟨c0, c1, c2, c3, c4, c5, -⟩ := id sx
      refine bodyPost_ret (v := .agg #[.string x0, .string x1, .string x2, .int .i64 xm, .int .i64 xp, .slice xa xl xc]) (by simp [results, Tryd.results88, go_sem, c0, c1, c2, c3, c4, c5]) rfl ?_
      exact ⟨_, n1, s1, rfl, ndb_mono (ndb_set (ndq_ndb d4) (by omega) hz hk) (by omega), h4.set hz hk (by omega) (by omega), hbb pb w bs4 (Nat.le_refl _), HF.out⟩
    | true =>
      have hq0 : ((Em.str oa).toList == []) = false := hq0
      obtain ⟨t', r', rfl⟩ := beginsS_ok hb0.symm
      have HQ : Hid (beginsS (.ok (t' :: r')) = true) := hb0.symm
      have hpos : t'.pos ≤ 140737488351232 := htk.2.2.1
      clear hb0 htk
      go_wp2_with fail
      refine (qpeek_any pb tb d _ _ h4.1).mono ?_
      rintro e w5 ⟨rfl, hb5⟩
      rw [show peekS (.ok (t' :: r')) = t' from rfl]
      simp only [Em6.tokV]
      have f3 := fld3 t'.kind (Em.str t'.text) t'.num t'.pos
      have h5 := h4.below hb5
      have q45 := q44.below hb5
      have q55 := q54.below hb5
      have bs5 : Bes pb w w5 := bs4.trans (Bes.of hb5)
      have d5 := ndp_below d4 hb5
      clear h4 q44 q54 bs4 d4 hb5
      have r5d := q55.drew
      obtain ⟨k0, k1, k2, k3, k4, k5, -⟩ := id r5d
      have hgl := q55.lt
      go_wp2_with fail
      go_region_with
        (first | (go_at_call 91; refine (HC.out (.ok (t' :: r')) _ pb tb h5.drew).mono ?_; rintro e w8 ⟨v8, n8, s8, rfl, d8, h8, b8, F8⟩; obtain ⟨y0, y1, y2, ym, yp, ya, yl, yc, rfl⟩ := ndb_shape d8; have t4 := q45.drew.bes b8 (by omega); have t5 := r5d.bes b8 (by omega); obtain ⟨l0, l1, l2, l3, l4, l5, fz0, fz1, fz2, fz3, fz4, fz5⟩ := id t5; have bs8 := bs5.drew.trans b8; have e8 : NdQ (w.heap.size + 1) w2.heap.size w8 n1 _ := ndp_bes (ndp_below d5 (Below.refl _ _).drew) (by omega) b8; have e8' : NdQ (w.heap.size + 1) w2.heap.size w8 n8 _ := ndq_of2 d8 (by simp; omega) (by simp; omega); have HF8 : Hid (Fits (thn (.ok (t' :: r')) C) n8 s8) := F8; have hgl8 := t5.lt; obtain ⟨W, hW, sx, hz, hk, hbb⟩ := t5.set (.string ⟨#[97, 112, 112]⟩) (.string ⟨#[]⟩) (.string ⟨#[]⟩) (.int .i64 0) (.int .i64 t'.pos) (.slice (some ⟨w8.heap.size, 0, none⟩) 2 2); clear F8 d8 b8 r5d))
      all_goals
        go_wp2
        go_roundw
        case rel => exact ⟨nd [97, 112, 112] t'.pos [n1, n8], s8, _, _, _, _, _, _, _, _, sx.alloc _, (t4.far hk (by omega)).alloc _, (h8.set hz hk (by omega) (by omega)).alloc _, (hbb pb w bs8 (by omega)).alloc _, ndp_two (op := [97, 112, 112]) (nm := []) (ar := []) (ndq_set e8 hz hk) (ndq_set e8' hz hk) (Below.refl _ _) hz.symm ⟨by omega, by omega⟩ ⟨by decide, by decide⟩ txt_nil txt_nil hpos, fun m s'' hf => HD.out m s'' (app_round HSH.out HQ.out HF8.out hf)⟩
        case measure =>
          have hm9 := muP_eq ((h8.set hz hk (by omega) (by omega)).alloc (.cells #[.string x0, .string x1, .string x2, .int .i64 xm, .int .i64 xp, .slice xa xl xc, .string y0, .string y1, .string y2, .int .i64 ym, .int .i64 yp, .slice ya yl yc] 24))
          rw [hm9, HM.out]
          exact fits_len HSH.out HF8.out (by simp [lenS])
end Go.Proofs.YtgojjknbingfpaaDoor

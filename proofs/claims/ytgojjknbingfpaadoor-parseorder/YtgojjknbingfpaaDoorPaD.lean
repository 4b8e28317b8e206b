/- What 'set, seq, cmp, cons' of the program's parser answers. -/
import Derived.Test.YtgojjknbingfpaaDoorPaC
namespace Go.Proofs.YtgojjknbingfpaaDoor
open Go.RowKit Go.Em5 Go.Em6
set_option linter.unusedSimpArgs false

/-- As the grammar's expr that begins with a set. -/
def seqS (S E : List Em4.Tok → R) (L : List Em4.Tok) : R := bnd (S L) fun a L1 => if isW [59] L1 then bnd (E L1.tail) fun b L2 => .ok (nd [115, 101, 113] (posL L1) [a, b], L2) else .ok (a, L1)
theorem fits_sign {s : St} {C F H : List Em4.Tok → R} {n1 n3 : Nd} {t : Em4.Tok} {r : List Em4.Tok} {s3 : St} {x op : List Int} {G : Nd → List Em4.Tok → R} (F1 : Fits (thn s C) n1 (.ok (t :: r))) (hq : isWS x (.ok (t :: r)) = true) (F3 : Fits (thn (.ok r) F) n3 s3)
    (hG : ∀ L1, G n1 L1 = if isW x L1 then bnd (F L1.tail) fun b L2 => .ok (nd op (posL L1) [n1, b], L2) else H L1) : Fits (thn s fun L => bnd (C L) G) (nd op t.pos [n1, n3]) s3 := by
  refine fits_thn F1 ?_
  have e : G n1 = fun L1 => if isW x L1 then bnd (F L1.tail) fun b L2 => .ok (nd op (posL L1) [n1, b], L2) else H L1 := funext hG
  rw [e]
  refine fits_t hq (fun t2 r2 e2 => ?_)
  injection e2 with e2
  injection e2 with e3 e4
  subst e3
  subst e4
  exact fits_bnd F3 fits_ok
set_option maxRecDepth 100000 in
set_option maxHeartbeats 4000000 in
theorem qset_does (d : Nat) (C : List Em4.Tok → R) (hC : DoesP 76 d C) : DoesP 56 d (setS C) := by
  intro s w pb tb h
  have HH : Hid (IsPs w pb tb d s) := h
  have HC : Hid (DoesP 76 d C) := hC
  obtain ⟨hlp, hlt, hne, -⟩ := h.lt
  clear h hC
  go_enter Tryd.func56, Tryd.ntmps56
  go_wp2_with fail
  have z4 := Six.made w (.string ⟨#[]⟩) (.string ⟨#[]⟩) (.string ⟨#[]⟩) (.int .i64 0) (.int .i64 0) (.slice none 0 0) 24
  refine (HC.out s _ pb tb (HH.out.alloc _)).mono ?_
  rintro e w1 ⟨v1, n1, s1, rfl, d1, h1, b1, F1⟩
  obtain ⟨x0, x1, x2, xm, xp, xa, xl, xc, rfl⟩ := ndb_shape d1
  have p4 := z4.bes b1 (by omega)
  have bs1 : Bes pb w w1 := ((Bes.refl pb w).alloc _).trans b1
  clear z4 b1
  go_wp2_with fail
  have z5 := Six.made w1 (.string x0) (.string x1) (.string x2) (.int .i64 xm) (.int .i64 xp) (.slice xa xl xc) 24
  refine (qword_any pb tb d s1 _ (h1.alloc _).1).mono ?_
  rintro e w2 ⟨rfl, hb2⟩
  have hq := Em5.str_eq (wordS_txt h1.1).1
  have h2 := (h1.alloc (.cells #[.string x0, .string x1, .string x2, .int .i64 xm, .int .i64 xp, .slice xa xl xc] 24)).below hb2
  have q42 := (p4.alloc (.cells #[.string x0, .string x1, .string x2, .int .i64 xm, .int .i64 xp, .slice xa xl xc] 24)).below hb2
  have q52 := z5.below hb2
  have bs2 : Bes pb w w2 := (bs1.alloc _).trans (Bes.of hb2)
  have d2 : NdB (w.heap.size + 1) w2 n1 _ := ndb_below (ndb_below (by simpa using d1) ((Below.refl _ _).alloc (Nat.le_refl _) _)) hb2
  have g5 : w.heap.size < w1.heap.size := p4.lt
  have g6 := q52.lt
  clear h1 p4 z5 bs1 d1 hb2
  have q0 : ((Em.str (wordS s1)).toList == [58, 61]) = isWS [58, 61] s1 := (hq [58, 61]).trans (wordS_eq (by decide) s1)
  have hmf := mkf
  generalize wordS s1 = wd at *
  clear hq
  obtain ⟨b0, hb0⟩ : ∃ b, b = isWS [58, 61] s1 := ⟨_, rfl⟩
  rw [← hb0] at q0
  cases b0 with
  | false =>
    have HF : Hid (Fits (thn s (setS C)) n1 s1) := fits_thn F1 (fits_f hb0.symm fits_ok)
    obtain ⟨c0, c1, c2, c3, c4, c5, -⟩ := id q52
    obtain ⟨a0, a1, a2, a3, a4, a5, f0, f1, f2, f3', f4, f5⟩ := id q42
    clear hb0
    go_wp2_with fail
    obtain ⟨W, hW, sx, hz, hk, hbb⟩ := q42.set (.string x0) (.string x1) (.string x2) (.int .i64 xm) (.int .i64 xp) (.slice xa xl xc)
    rw [hW]
    obtain ⟨c0, c1, c2, c3, c4, c5, -⟩ := id sx
    refine bodyPost_ret (v := .agg #[.string x0, .string x1, .string x2, .int .i64 xm, .int .i64 xp, .slice xa xl xc]) (by simp [results, Tryd.results56, go_sem, c0, c1, c2, c3, c4, c5]) rfl ?_
    exact ⟨_, n1, s1, rfl, ndb_mono (ndb_set d2 (by omega) hz hk) (by omega), h2.set hz hk (by omega) (by omega), hbb pb w bs2 (Nat.le_refl _), HF.out⟩
  | true =>
    obtain ⟨t', r', rfl, hk4, -⟩ := isWS_ok hb0.symm
    have HQ : Hid (isWS [58, 61] (.ok (t' :: r')) = true) := hb0.symm
    have HK : Hid (t'.kind ≠ 5) := by rw [Hid, hk4]; decide
    clear hk4 hb0
    obtain ⟨c0, c1, c2, c3, c4, c5, -⟩ := id q52
    go_wp2_with fail
    refine (qtwo_any 76 d C t' r' (HC.out _) (fun _ _ => rfl) _ pb tb h2 HK.out [115, 101, 116] ⟨by decide, by decide⟩ (fun b => w.heap.size + 1 ≤ b) (fun b hb => by omega) (by show ¬ _ ≤ pb; omega) n1 _ d2).mono ?_
    rintro e w3 ⟨v3, n3, s3, rfl, d3, h3, b3, F3⟩
    obtain ⟨y0, y1, y2, ym, yp, ya, yl, yc, rfl⟩ := ndb_shape d3
    have q43 := q42.bes b3 (by omega)
    have bs3 := bs2.trans b3
    have HF : Hid (Fits (thn s (setS C)) (nd [115, 101, 116] t'.pos [n1, n3]) s3) := fits_sign F1 HQ.out F3 (fun _ => rfl)
    obtain ⟨a0, a1, a2, a3, a4, a5, f0, f1, f2, f3', f4, f5⟩ := id q43
    clear F3 b3
    go_wp2_with fail
    obtain ⟨W, hW, sx, hz, hk, hbb⟩ := q43.set (.string y0) (.string y1) (.string y2) (.int .i64 ym) (.int .i64 yp) (.slice ya yl yc)
    rw [hW]
    obtain ⟨c0, c1, c2, c3, c4, c5, -⟩ := id sx
    refine bodyPost_ret (v := .agg #[.string y0, .string y1, .string y2, .int .i64 ym, .int .i64 yp, .slice ya yl yc]) (by simp [results, Tryd.results56, go_sem, c0, c1, c2, c3, c4, c5]) rfl ?_
    exact ⟨_, _, s3, rfl, ndb_mono (ndb_set d3 (by omega) hz hk) (by omega), h3.set hz hk (by omega) (by omega), hbb pb w bs3 (Nat.le_refl _), HF.out⟩

set_option maxRecDepth 100000 in
set_option maxHeartbeats 4000000 in
theorem qseq_does (d : Nat) (C E : List Em4.Tok → R) (hC : DoesP 56 d C) (hE : d < 40 → DoesP 55 d E) : DoesP 34 d (seqS C E) := by
  intro s w pb tb h
  have HH : Hid (IsPs w pb tb d s) := h
  have HC : Hid (DoesP 56 d C) := hC
  obtain ⟨hlp, hlt, hne, -⟩ := h.lt
  clear h hC
  have HE : Hid (d < 40 → DoesP 55 d E) := hE
  clear hE
  go_enter Tryd.func34, Tryd.ntmps34
  go_wp2_with fail
  have z4 := Six.made w (.string ⟨#[]⟩) (.string ⟨#[]⟩) (.string ⟨#[]⟩) (.int .i64 0) (.int .i64 0) (.slice none 0 0) 24
  refine (HC.out s _ pb tb (HH.out.alloc _)).mono ?_
  rintro e w1 ⟨v1, n1, s1, rfl, d1, h1, b1, F1⟩
  obtain ⟨x0, x1, x2, xm, xp, xa, xl, xc, rfl⟩ := ndb_shape d1
  have p4 := z4.bes b1 (by omega)
  have bs1 : Bes pb w w1 := ((Bes.refl pb w).alloc _).trans b1
  clear z4 b1
  go_wp2_with fail
  have z5 := Six.made w1 (.string x0) (.string x1) (.string x2) (.int .i64 xm) (.int .i64 xp) (.slice xa xl xc) 24
  refine (qword_any pb tb d s1 _ (h1.alloc _).1).mono ?_
  rintro e w2 ⟨rfl, hb2⟩
  have hq := Em5.str_eq (wordS_txt h1.1).1
  have h2 := (h1.alloc (.cells #[.string x0, .string x1, .string x2, .int .i64 xm, .int .i64 xp, .slice xa xl xc] 24)).below hb2
  have q42 := (p4.alloc (.cells #[.string x0, .string x1, .string x2, .int .i64 xm, .int .i64 xp, .slice xa xl xc] 24)).below hb2
  have q52 := z5.below hb2
  have bs2 : Bes pb w w2 := (bs1.alloc _).trans (Bes.of hb2)
  have d2 : NdB (w.heap.size + 1) w2 n1 _ := ndb_below (ndb_below (by simpa using d1) ((Below.refl _ _).alloc (Nat.le_refl _) _)) hb2
  have g5 : w.heap.size < w1.heap.size := p4.lt
  have g6 := q52.lt
  clear h1 p4 z5 bs1 d1 hb2
  have q0 : ((Em.str (wordS s1)).toList == [59]) = isWS [59] s1 := (hq [59]).trans (wordS_eq (by decide) s1)
  have hmf := mkf
  generalize wordS s1 = wd at *
  clear hq
  obtain ⟨b0, hb0⟩ : ∃ b, b = isWS [59] s1 := ⟨_, rfl⟩
  rw [← hb0] at q0
  cases b0 with
  | false =>
    have HF : Hid (Fits (thn s (seqS C E)) n1 s1) := fits_thn F1 (fits_f hb0.symm fits_ok)
    obtain ⟨c0, c1, c2, c3, c4, c5, -⟩ := id q52
    obtain ⟨a0, a1, a2, a3, a4, a5, f0, f1, f2, f3', f4, f5⟩ := id q42
    clear hb0
    go_wp2_with fail
    obtain ⟨W, hW, sx, hz, hk, hbb⟩ := q42.set (.string x0) (.string x1) (.string x2) (.int .i64 xm) (.int .i64 xp) (.slice xa xl xc)
    rw [hW]
    obtain ⟨c0, c1, c2, c3, c4, c5, -⟩ := id sx
    refine bodyPost_ret (v := .agg #[.string x0, .string x1, .string x2, .int .i64 xm, .int .i64 xp, .slice xa xl xc]) (by simp [results, Tryd.results34, go_sem, c0, c1, c2, c3, c4, c5]) rfl ?_
    exact ⟨_, n1, s1, rfl, ndb_mono (ndb_set d2 (by omega) hz hk) (by omega), h2.set hz hk (by omega) (by omega), hbb pb w bs2 (Nat.le_refl _), HF.out⟩
  | true =>
    obtain ⟨t', r', rfl, hk4, -⟩ := isWS_ok hb0.symm
    have HQ : Hid (isWS [59] (.ok (t' :: r')) = true) := hb0.symm
    have HK : Hid (t'.kind ≠ 5) := by rw [Hid, hk4]; decide
    clear hk4 hb0
    obtain ⟨c0, c1, c2, c3, c4, c5, -⟩ := id q52
    go_wp2_with fail
    refine (qtwo_any 55 d E t' r' (HE.out h2.2 _) (fun _ _ => rfl) _ pb tb h2 HK.out [115, 101, 113] ⟨by decide, by decide⟩ (fun b => w.heap.size + 1 ≤ b) (fun b hb => by omega) (by show ¬ _ ≤ pb; omega) n1 _ d2).mono ?_
    rintro e w3 ⟨v3, n3, s3, rfl, d3, h3, b3, F3⟩
    obtain ⟨y0, y1, y2, ym, yp, ya, yl, yc, rfl⟩ := ndb_shape d3
    have q43 := q42.bes b3 (by omega)
    have bs3 := bs2.trans b3
    have HF : Hid (Fits (thn s (seqS C E)) (nd [115, 101, 113] t'.pos [n1, n3]) s3) := fits_sign F1 HQ.out F3 (fun _ => rfl)
    obtain ⟨a0, a1, a2, a3, a4, a5, f0, f1, f2, f3', f4, f5⟩ := id q43
    clear F3 b3
    go_wp2_with fail
    obtain ⟨W, hW, sx, hz, hk, hbb⟩ := q43.set (.string y0) (.string y1) (.string y2) (.int .i64 ym) (.int .i64 yp) (.slice ya yl yc)
    rw [hW]
    obtain ⟨c0, c1, c2, c3, c4, c5, -⟩ := id sx
    refine bodyPost_ret (v := .agg #[.string y0, .string y1, .string y2, .int .i64 ym, .int .i64 yp, .slice ya yl yc]) (by simp [results, Tryd.results34, go_sem, c0, c1, c2, c3, c4, c5]) rfl ?_
    exact ⟨_, _, s3, rfl, ndb_mono (ndb_set d3 (by omega) hz hk) (by omega), h3.set hz hk (by omega) (by omega), hbb pb w bs3 (Nat.le_refl _), HF.out⟩

theorem fits_sign2 {s : St} {C F H X : List Em4.Tok → R} {n1 n3 : Nd} {t : Em4.Tok} {r : List Em4.Tok} {s3 : St} {x y op : List Int} {G : Nd → List Em4.Tok → R} (F1 : Fits (thn s C) n1 (.ok (t :: r))) (hn : isWS y (.ok (t :: r)) = false) (hq : isWS x (.ok (t :: r)) = true) (F3 : Fits (thn (.ok r) F) n3 s3)
    (hG : ∀ L1, G n1 L1 = if isW y L1 then X L1 else if isW x L1 then bnd (F L1.tail) fun b L2 => .ok (nd op (posL L1) [n1, b], L2) else H L1) : Fits (thn s fun L => bnd (C L) G) (nd op t.pos [n1, n3]) s3 := by
  refine fits_thn F1 ?_
  have e : G n1 = fun L1 => if isW y L1 then X L1 else if isW x L1 then bnd (F L1.tail) fun b L2 => .ok (nd op (posL L1) [n1, b], L2) else H L1 := funext hG
  rw [e]
  refine fits_f hn (fits_t hq (fun t2 r2 e2 => ?_))
  injection e2 with e2
  injection e2 with e3 e4
  subst e3
  subst e4
  exact fits_bnd F3 fits_ok
set_option maxRecDepth 100000 in
set_option maxHeartbeats 4000000 in
theorem qcmp_does (d : Nat) (C : List Em4.Tok → R) (hC : DoesP 81 d C) : DoesP 76 d (cmpS C) := by
  intro s w pb tb h
  have HH : Hid (IsPs w pb tb d s) := h
  have HC : Hid (DoesP 81 d C) := hC
  obtain ⟨hlp, hlt, hne, -⟩ := h.lt
  clear h hC
  go_enter Tryd.func76, Tryd.ntmps76
  go_wp2_with fail
  have z4 := Six.made w (.string ⟨#[]⟩) (.string ⟨#[]⟩) (.string ⟨#[]⟩) (.int .i64 0) (.int .i64 0) (.slice none 0 0) 24
  refine (HC.out s _ pb tb (HH.out.alloc _)).mono ?_
  rintro e w1 ⟨v1, n1, s1, rfl, d1, h1, b1, F1⟩
  obtain ⟨x0, x1, x2, xm, xp, xa, xl, xc, rfl⟩ := ndb_shape d1
  have p4 := z4.bes b1 (by omega)
  have bs1 : Bes pb w w1 := ((Bes.refl pb w).alloc _).trans b1
  clear z4 b1
  go_wp2_with fail
  have z5 := Six.made w1 (.string x0) (.string x1) (.string x2) (.int .i64 xm) (.int .i64 xp) (.slice xa xl xc) 24
  refine (qword_any pb tb d s1 _ (h1.alloc _).1).mono ?_
  rintro e w2 ⟨rfl, hb2⟩
  have hq := Em5.str_eq (wordS_txt h1.1).1
  have h2 := (h1.alloc (.cells #[.string x0, .string x1, .string x2, .int .i64 xm, .int .i64 xp, .slice xa xl xc] 24)).below hb2
  have q42 := (p4.alloc (.cells #[.string x0, .string x1, .string x2, .int .i64 xm, .int .i64 xp, .slice xa xl xc] 24)).below hb2
  have q52 := z5.below hb2
  have bs2 : Bes pb w w2 := (bs1.alloc _).trans (Bes.of hb2)
  have d2 : NdB (w.heap.size + 1) w2 n1 _ := ndb_below (ndb_below (by simpa using d1) ((Below.refl _ _).alloc (Nat.le_refl _) _)) hb2
  have g5 : w.heap.size < w1.heap.size := p4.lt
  have g6 := q52.lt
  clear h1 p4 z5 bs1 d1 hb2
  have q0 : ((Em.str (wordS s1)).toList == [61]) = isWS [61] s1 := (hq [61]).trans (wordS_eq (by decide) s1)
  have q1 : ((Em.str (wordS s1)).toList == [60]) = isWS [60] s1 := (hq [60]).trans (wordS_eq (by decide) s1)
  have hmf := mkf
  generalize wordS s1 = wd at *
  clear hq
  obtain ⟨b0, hb0⟩ : ∃ b, b = isWS [61] s1 := ⟨_, rfl⟩
  obtain ⟨b1, hb1⟩ : ∃ b, b = isWS [60] s1 := ⟨_, rfl⟩
  rw [← hb0] at q0
  rw [← hb1] at q1
  cases b0 with
  | true =>
    clear q1 hb1 b1
    obtain ⟨t', r', rfl, hk4, -⟩ := isWS_ok hb0.symm
    have HQ : Hid (isWS [61] (.ok (t' :: r')) = true) := hb0.symm
    have HK : Hid (t'.kind ≠ 5) := by rw [Hid, hk4]; decide
    clear hk4 hb0
    obtain ⟨c0, c1, c2, c3, c4, c5, -⟩ := id q52
    go_wp2_with fail
    refine (qtwo_any 81 d C t' r' (HC.out _) (fun _ _ => rfl) _ pb tb h2 HK.out [101, 113] ⟨by decide, by decide⟩ (fun b => w.heap.size + 1 ≤ b) (fun b hb => by omega) (by show ¬ _ ≤ pb; omega) n1 _ d2).mono ?_
    rintro e w3 ⟨v3, n3, s3, rfl, d3, h3, b3, F3⟩
    obtain ⟨y0, y1, y2, ym, yp, ya, yl, yc, rfl⟩ := ndb_shape d3
    have q43 := q42.bes b3 (by omega)
    have bs3 := bs2.trans b3
    have HF : Hid (Fits (thn s (cmpS C)) (nd [101, 113] t'.pos [n1, n3]) s3) := fits_sign F1 HQ.out F3 (fun _ => rfl)
    obtain ⟨a0, a1, a2, a3, a4, a5, f0, f1, f2, f3', f4, f5⟩ := id q43
    clear F3 b3
    go_wp2_with fail
    obtain ⟨W, hW, sx, hz, hk, hbb⟩ := q43.set (.string y0) (.string y1) (.string y2) (.int .i64 ym) (.int .i64 yp) (.slice ya yl yc)
    rw [hW]
    obtain ⟨c0, c1, c2, c3, c4, c5, -⟩ := id sx
    refine bodyPost_ret (v := .agg #[.string y0, .string y1, .string y2, .int .i64 ym, .int .i64 yp, .slice ya yl yc]) (by simp [results, Tryd.results76, go_sem, c0, c1, c2, c3, c4, c5]) rfl ?_
    exact ⟨_, _, s3, rfl, ndb_mono (ndb_set d3 (by omega) hz hk) (by omega), h3.set hz hk (by omega) (by omega), hbb pb w bs3 (Nat.le_refl _), HF.out⟩
  | false =>
    cases b1 with
    | false =>
      have HF : Hid (Fits (thn s (cmpS C)) n1 s1) := fits_thn F1 (fits_f hb0.symm (fits_f hb1.symm fits_ok))
      obtain ⟨c0, c1, c2, c3, c4, c5, -⟩ := id q52
      obtain ⟨a0, a1, a2, a3, a4, a5, f0, f1, f2, f3', f4, f5⟩ := id q42
      clear hb0 hb1
      go_wp2_with fail
      obtain ⟨W, hW, sx, hz, hk, hbb⟩ := q42.set (.string x0) (.string x1) (.string x2) (.int .i64 xm) (.int .i64 xp) (.slice xa xl xc)
      rw [hW]
      obtain ⟨c0, c1, c2, c3, c4, c5, -⟩ := id sx
      refine bodyPost_ret (v := .agg #[.string x0, .string x1, .string x2, .int .i64 xm, .int .i64 xp, .slice xa xl xc]) (by simp [results, Tryd.results76, go_sem, c0, c1, c2, c3, c4, c5]) rfl ?_
      exact ⟨_, n1, s1, rfl, ndb_mono (ndb_set d2 (by omega) hz hk) (by omega), h2.set hz hk (by omega) (by omega), hbb pb w bs2 (Nat.le_refl _), HF.out⟩
    | true =>
      obtain ⟨t', r', rfl, hk4, -⟩ := isWS_ok hb1.symm
      have HQ : Hid (isWS [60] (.ok (t' :: r')) = true) := hb1.symm
      have HK : Hid (t'.kind ≠ 5) := by rw [Hid, hk4]; decide
      clear hk4 hb1
      have HQ0 : Hid (isWS [61] (.ok (t' :: r')) = false) := hb0.symm
      clear hb0
      obtain ⟨c0, c1, c2, c3, c4, c5, -⟩ := id q52
      go_wp2_with fail
      refine (qtwo_any 81 d C t' r' (HC.out _) (fun _ _ => rfl) _ pb tb h2 HK.out [108, 101, 115, 115] ⟨by decide, by decide⟩ (fun b => w.heap.size + 1 ≤ b) (fun b hb => by omega) (by show ¬ _ ≤ pb; omega) n1 _ d2).mono ?_
      rintro e w3 ⟨v3, n3, s3, rfl, d3, h3, b3, F3⟩
      obtain ⟨y0, y1, y2, ym, yp, ya, yl, yc, rfl⟩ := ndb_shape d3
      have q43 := q42.bes b3 (by omega)
      have bs3 := bs2.trans b3
      have HF : Hid (Fits (thn s (cmpS C)) (nd [108, 101, 115, 115] t'.pos [n1, n3]) s3) := fits_sign2 F1 HQ0.out HQ.out F3 (fun _ => rfl)
      obtain ⟨a0, a1, a2, a3, a4, a5, f0, f1, f2, f3', f4, f5⟩ := id q43
      clear F3 b3
      go_wp2_with fail
      obtain ⟨W, hW, sx, hz, hk, hbb⟩ := q43.set (.string y0) (.string y1) (.string y2) (.int .i64 ym) (.int .i64 yp) (.slice ya yl yc)
      rw [hW]
      obtain ⟨c0, c1, c2, c3, c4, c5, -⟩ := id sx
      refine bodyPost_ret (v := .agg #[.string y0, .string y1, .string y2, .int .i64 ym, .int .i64 yp, .slice ya yl yc]) (by simp [results, Tryd.results76, go_sem, c0, c1, c2, c3, c4, c5]) rfl ?_
      exact ⟨_, _, s3, rfl, ndb_mono (ndb_set d3 (by omega) hz hk) (by omega), h3.set hz hk (by omega) (by omega), hbb pb w bs3 (Nat.le_refl _), HF.out⟩

set_option maxRecDepth 100000 in
set_option maxHeartbeats 4000000 in
theorem qcons_fuel (d : Nat) (C : List Em4.Tok → R) (hC : DoesP 84 d C) (hS : Shr C) : ∀ (f : Nat) (s : St), lenS s < f → DoesAt 81 d (consF C f) s := by
  intro f
  induction f with
  | zero => intro s hf; omega
  | succ f ih =>
    intro s hf w pb tb h
    have HH : Hid (IsPs w pb tb d s) := h
    have HC : Hid (DoesP 84 d C) := hC
    obtain ⟨hlp, hlt, hne, -⟩ := h.lt
    clear h hC
    have HSH : Hid (Shr C) := hS
    have HI : Hid (∀ s : St, lenS s < f → DoesAt 81 d (consF C f) s) := ih
    have HL : Hid (lenS s < f + 1) := hf
    clear ih hf hS
    go_enter Tryd.func81, Tryd.ntmps81
    go_wp2_with fail
    have z4 := Six.made w (.string ⟨#[]⟩) (.string ⟨#[]⟩) (.string ⟨#[]⟩) (.int .i64 0) (.int .i64 0) (.slice none 0 0) 24
    refine (HC.out s _ pb tb (HH.out.alloc _)).mono ?_
    rintro e w1 ⟨v1, n1, s1, rfl, d1, h1, b1, F1⟩
    obtain ⟨x0, x1, x2, xm, xp, xa, xl, xc, rfl⟩ := ndb_shape d1
    have p4 := z4.bes b1 (by omega)
    have bs1 : Bes pb w w1 := ((Bes.refl pb w).alloc _).trans b1
    clear z4 b1
    go_wp2_with fail
    have z5 := Six.made w1 (.string x0) (.string x1) (.string x2) (.int .i64 xm) (.int .i64 xp) (.slice xa xl xc) 24
    refine (qword_any pb tb d s1 _ (h1.alloc _).1).mono ?_
    rintro e w2 ⟨rfl, hb2⟩
    have hq := Em5.str_eq (wordS_txt h1.1).1
    have h2 := (h1.alloc (.cells #[.string x0, .string x1, .string x2, .int .i64 xm, .int .i64 xp, .slice xa xl xc] 24)).below hb2
    have q42 := (p4.alloc (.cells #[.string x0, .string x1, .string x2, .int .i64 xm, .int .i64 xp, .slice xa xl xc] 24)).below hb2
    have q52 := z5.below hb2
    have bs2 : Bes pb w w2 := (bs1.alloc _).trans (Bes.of hb2)
    have d2 : NdB (w.heap.size + 1) w2 n1 _ := ndb_below (ndb_below (by simpa using d1) ((Below.refl _ _).alloc (Nat.le_refl _) _)) hb2
    have g5 : w.heap.size < w1.heap.size := p4.lt
    have g6 := q52.lt
    clear h1 p4 z5 bs1 d1 hb2
    have q0 : ((Em.str (wordS s1)).toList == [58, 58]) = isWS [58, 58] s1 := (hq [58, 58]).trans (wordS_eq (by decide) s1)
    have hmf := mkf
    generalize wordS s1 = wd at *
    clear hq
    obtain ⟨b0, hb0⟩ : ∃ b, b = isWS [58, 58] s1 := ⟨_, rfl⟩
    rw [← hb0] at q0
    cases b0 with
    | false =>
      have HF : Hid (Fits (thn s (consF C (f + 1))) n1 s1) := fits_thn F1 (fits_f hb0.symm fits_ok)
      obtain ⟨c0, c1, c2, c3, c4, c5, -⟩ := id q52
      obtain ⟨a0, a1, a2, a3, a4, a5, f0, f1, f2, f3', f4, f5⟩ := id q42
      clear hb0
      go_wp2_with fail
      obtain ⟨W, hW, sx, hz, hk, hbb⟩ := q42.set (.string x0) (.string x1) (.string x2) (.int .i64 xm) (.int .i64 xp) (.slice xa xl xc)
      rw [hW]
      obtain ⟨c0, c1, c2, c3, c4, c5, -⟩ := id sx
      refine bodyPost_ret (v := .agg #[.string x0, .string x1, .string x2, .int .i64 xm, .int .i64 xp, .slice xa xl xc]) (by simp [results, Tryd.results81, go_sem, c0, c1, c2, c3, c4, c5]) rfl ?_
      exact ⟨_, n1, s1, rfl, ndb_mono (ndb_set d2 (by omega) hz hk) (by omega), h2.set hz hk (by omega) (by omega), hbb pb w bs2 (Nat.le_refl _), HF.out⟩
    | true =>
      obtain ⟨t', r', rfl, hk4, -⟩ := isWS_ok hb0.symm
      have HQ : Hid (isWS [58, 58] (.ok (t' :: r')) = true) := hb0.symm
      have HK : Hid (t'.kind ≠ 5) := by rw [Hid, hk4]; decide
      clear hk4 hb0
      have HR : Hid (lenS (.ok r') < f) := by
        have := fits_shr HSH.out F1
        have := HL.out
        simp only [lenS, Hid, List.length_cons] at *
        omega
      obtain ⟨c0, c1, c2, c3, c4, c5, -⟩ := id q52
      go_wp2_with fail
      refine (qtwo_any 81 d (consF C f) t' r' (HI.out _ HR.out) (fun _ _ => rfl) _ pb tb h2 HK.out [99, 111, 110, 115] ⟨by decide, by decide⟩ (fun b => w.heap.size + 1 ≤ b) (fun b hb => by omega) (by show ¬ _ ≤ pb; omega) n1 _ d2).mono ?_
      rintro e w3 ⟨v3, n3, s3, rfl, d3, h3, b3, F3⟩
      obtain ⟨y0, y1, y2, ym, yp, ya, yl, yc, rfl⟩ := ndb_shape d3
      have q43 := q42.bes b3 (by omega)
      have bs3 := bs2.trans b3
      have HF : Hid (Fits (thn s (consF C (f + 1))) (nd [99, 111, 110, 115] t'.pos [n1, n3]) s3) := fits_sign F1 HQ.out F3 (fun _ => rfl)
      obtain ⟨a0, a1, a2, a3, a4, a5, f0, f1, f2, f3', f4, f5⟩ := id q43
      clear F3 b3
      go_wp2_with fail
      obtain ⟨W, hW, sx, hz, hk, hbb⟩ := q43.set (.string y0) (.string y1) (.string y2) (.int .i64 ym) (.int .i64 yp) (.slice ya yl yc)
      rw [hW]
      obtain ⟨c0, c1, c2, c3, c4, c5, -⟩ := id sx
      refine bodyPost_ret (v := .agg #[.string y0, .string y1, .string y2, .int .i64 ym, .int .i64 yp, .slice ya yl yc]) (by simp [results, Tryd.results81, go_sem, c0, c1, c2, c3, c4, c5]) rfl ?_
      exact ⟨_, _, s3, rfl, ndb_mono (ndb_set d3 (by omega) hz hk) (by omega), h3.set hz hk (by omega) (by omega), hbb pb w bs3 (Nat.le_refl _), HF.out⟩

theorem qcons_does (d : Nat) (C : List Em4.Tok → R) (hC : DoesP 84 d C) (hS : Shr C) : DoesP 81 d (consS C) := by
  intro s w pb tb h
  refine (qcons_fuel d C hC hS (lenS s + 1) s (by omega) w pb tb h).mono fun e w' hp => ?_
  obtain ⟨v, n, s', h1, h2, h3, h4, h5⟩ := hp
  refine ⟨v, n, s', h1, h2, h3, h4, ?_⟩
  cases s with
  | error e => exact h5
  | ok L => exact h5
end Go.Proofs.YtgojjknbingfpaaDoor

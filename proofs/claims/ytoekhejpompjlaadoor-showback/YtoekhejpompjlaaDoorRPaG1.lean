/- Several texts in one: RPaS, RPaC, RPaK, RPaP. -/
import Derived.Test.YtoekhejpompjlaaDoorRPa2
import Derived.Test.YtoekhejpompjlaaDoorRPaD
namespace Go.Proofs.YtoekhejpompjlaaDoor
open Go.RowKit Go.Em5 Go.Em6
set_option linter.unusedSimpArgs false

set_option maxRecDepth 100000 in
set_option maxHeartbeats 4000000 in
theorem pset_does (d : Nat) (C : List Em4.Tok → R) (hC : Does 56 d C) : Does 40 d (setS C) := by
  intro w pb tb s h
  have HH : Hid (IsSt w pb tb s) := h
  have HC : Hid (Does 56 d C) := hC
  obtain ⟨hlp, hlt, hne⟩ := h.lt
  clear h hC
  go_enter Tryd.func40, Tryd.ntmps40
  go_wp2_with fail
  have z4 := Six.made w (.string ⟨#[]⟩) (.string ⟨#[]⟩) (.string ⟨#[]⟩) (.int .i64 0) (.int .i64 0) (.slice none 0 0) 24
  refine (HC.out _ pb tb s (HH.out.alloc _)).mono ?_
  rintro e w1 ⟨v1, n1, s1, rfl, d1, h1, b1, F1⟩
  obtain ⟨x0, x1, x2, xm, xp, xa, xl, xc, rfl⟩ := ndb_shape d1
  have p4 := z4.bes b1 (by omega)
  have bs1 : Bes pb w w1 := ((Bes.refl pb w).alloc _).trans b1
  clear z4 b1
  go_wp2_with fail
  have z5 := Six.made w1 (.string x0) (.string x1) (.string x2) (.int .i64 xm) (.int .i64 xp) (.slice xa xl xc) 24
  refine (pnow_any pb tb s1 _ (h1.alloc _)).mono ?_
  rintro e w2 ⟨rfl, hb2⟩
  obtain ⟨t, htd⟩ : ∃ t, t = nowS s1 := ⟨_, rfl⟩
  have HP : Hid (posS s1 = t.pos) := by rw [htd]; exact posS_now s1
  have hpos : t.pos ≤ 140737488351232 := by rw [htd]; exact h1.now.2.2.1
  rw [← htd]
  clear htd
  simp only [Em6.tokV]
  have f3 := fld3 t.kind (Em.str t.text) t.num t.pos
  have h2 := (h1.alloc _).below hb2
  have q42 := (p4.alloc _).below hb2
  have q52 := z5.below hb2
  have bs2 : Bes pb w w2 := (bs1.alloc _).trans (Bes.of hb2)
  have d2 : NdB (w.heap.size + 1) w2 n1 _ := ndb_below (ndb_below (by simpa using d1) ((Below.refl _ _).alloc (Nat.le_refl _) _)) hb2
  have g5 : w.heap.size < w1.heap.size := p4.lt
  clear h1 p4 z5 bs1 d1 hb2
  go_wp2_with fail
  refine (peat_any pb tb s1 [58, 61] _ h2 (by decide)).mono ?_
  rintro e w3 ⟨rfl, h3, b3⟩
  have q43 := q42.bes b3 (by omega)
  have q53 := q52.bes b3 (by omega)
  have bs3 := bs2.trans b3
  have d3 := ndb_bes d2 (by omega) b3
  clear h2 q42 q52 bs2 d2 b3
  obtain ⟨q3, hq3⟩ : ∃ q, q = isWS [58, 61] s1 := ⟨_, rfl⟩
  rw [← hq3]
  cases q3 with
  | false =>
    rw [eatS_f hq3.symm] at h3
    have HF : Hid (Fits (thn s (setS C)) n1 s1) := fits_thn F1 (fits_f hq3.symm fits_ok)
    obtain ⟨c0, c1, c2, c3, c4, c5, -⟩ := id q53
    obtain ⟨a0, a1, a2, a3, a4, a5, f0, f1, f2, f3', f4, f5⟩ := id q43
    clear F1 hq3
    go_wp2_with fail
    obtain ⟨W, hW, sx, hz, hk, hbb⟩ := q43.set (.string x0) (.string x1) (.string x2) (.int .i64 xm) (.int .i64 xp) (.slice xa xl xc)
    rw [hW]
    obtain ⟨c0, c1, c2, c3, c4, c5, -⟩ := id sx
    refine bodyPost_ret (v := .agg #[.string x0, .string x1, .string x2, .int .i64 xm, .int .i64 xp, .slice xa xl xc]) (by simp [results, Tryd.results40, go_sem, c0, c1, c2, c3, c4, c5]) rfl ?_
    exact ⟨_, n1, s1, rfl, ndb_mono (ndb_set d3 (by omega) hz hk) (by omega), h3.set hz hk (by omega) (by omega), hbb pb w bs3 (Nat.le_refl _), HF.out⟩
  | true =>
    obtain ⟨t', r', rfl, -⟩ := isWS_ok hq3.symm
    rw [eatS_t hq3.symm] at h3
    have HQ : Hid (isWS [58, 61] (.ok (t' :: r')) = true) := hq3.symm
    have HF1 : Hid (Fits (thn s C) n1 (.ok (t' :: r'))) := F1
    clear hq3 F1
    have r5d := q53.drew
    go_wp2_with fail
    go_region_held (fun w' => w'.cell? ⟨w1.heap.size, 0, none⟩ = some (.string x0) ∧ w'.cell? ⟨w1.heap.size, 1, none⟩ = some (.string x1) ∧ w'.cell? ⟨w1.heap.size, 2, none⟩ = some (.string x2) ∧ w'.cell? ⟨w1.heap.size, 3, none⟩ = some (.int .i64 xm) ∧ w'.cell? ⟨w1.heap.size, 4, none⟩ = some (.int .i64 xp) ∧ w'.cell? ⟨w1.heap.size, 5, none⟩ = some (.slice xa xl xc))
      (with_reducible (first | exact u6.held | exact u5.held | exact (t5.alloc _).held | exact t5.held | exact r5d.held))
      (first | (go_at_call 56; refine (HC.out _ pb tb (.ok r') h3.drew).mono ?_; rintro e w8 ⟨v8, n8, s8, rfl, d8, h8, b8, F8⟩; obtain ⟨y0, y1, y2, ym, yp, ya, yl, yc, rfl⟩ := ndb_shape d8; have t4 := q43.drew.bes b8 (by omega); have t5 := r5d.bes b8 (by omega); have bs8 := bs3.drew.trans b8; have e8 : NdB (w.heap.size + 1) w8 n1 _ := ndb_bes (ndb_below d3 (Below.refl _ _).drew) (by omega) b8; have e8' : NdB (w.heap.size + 1) w8 n8 _ := ndb_mono d8 (by have := q53.lt; simp; omega); have HF8 : Hid (Fits (thn (.ok r') C) n8 s8) := F8; clear F8 d8 b8 r5d) | (go_at_call 38; refine (pnode_any _ _ _ _ _ _).mono ?_; rintro e w9 ⟨rfl, hb9⟩; have u4 := (t4.alloc _).below hb9; have u5 := (t5.alloc _).below hb9; have h9 := (h8.alloc _).below hb9; have bs9 := (bs8.alloc _).trans (Bes.of hb9); have e9 : NdB (w.heap.size + 1) w9 (nd [115, 101, 116] t.pos [n1, n8]) (.agg #[.string ⟨#[115, 101, 116]⟩, .string (Em.str []), .string (Em.str []), .int .i64 0, .int .i64 t.pos, .slice (some ⟨w8.heap.size, 0, none⟩) 2 2]) := ndp_two (op := [115, 101, 116]) e8 e8' (by simpa using hb9) rfl (by have := t5.lt; omega) ⟨by decide, by decide⟩ txt_nil txt_nil hpos; obtain ⟨W, hW, sx, hz, hk, hbb⟩ := u4.set (.string ⟨#[115, 101, 116]⟩) (.string (Em.str [])) (.string (Em.str [])) (.int .i64 0) (.int .i64 t.pos) (.slice (some ⟨w8.heap.size, 0, none⟩) 2 2); have u6 : Six W w1.heap.size _ _ _ _ _ _ := u5.far hk (by omega); obtain ⟨a0, a1, a2, a3, a4, a5, f0, f1, f2, f3', f4, f5⟩ := id u4))
    all_goals
      go_wp2
      obtain ⟨c0, c1, c2, c3, c4, c5, -⟩ := id sx
      refine bodyPost_ret (v := .agg #[.string ⟨#[115, 101, 116]⟩, .string (Em.str []), .string (Em.str []), .int .i64 0, .int .i64 t.pos, .slice (some ⟨w8.heap.size, 0, none⟩) 2 2]) (by simp [results, Tryd.results40, go_sem, c0, c1, c2, c3, c4, c5]) rfl ?_
      refine ⟨_, nd [115, 101, 116] t.pos [n1, n8], s8, rfl, ndb_mono (ndb_set e9 (by omega) hz hk) (by omega), h9.set hz hk (by omega) (by omega), hbb pb w bs9 (Nat.le_refl _), ?_⟩
      refine fits_thn HF1.out (fits_t HQ.out (fun t2 r2 e2 => ?_))
      injection e2 with e2
      injection e2 with e3 e4
      subst e3
      subst e4
      have hp2 : t'.pos = t.pos := HP.out
      refine fits_bnd HF8.out ?_
      show Fits (thn s8 fun L2 => .ok (nd [115, 101, 116] t'.pos [n1, n8], L2)) _ _
      rw [hp2]
      exact fits_ok
end Go.Proofs.YtoekhejpompjlaaDoor

namespace Go.Proofs.YtoekhejpompjlaaDoor
open Go.RowKit Go.Em5 Go.Em6
set_option linter.unusedSimpArgs false

set_option maxRecDepth 100000 in
set_option maxHeartbeats 4000000 in
theorem pcmp_does (d : Nat) (C : List Em4.Tok → R) (hC : Does 63 d C) : Does 56 d (cmpS C) := by
  intro w pb tb s h
  have HH : Hid (IsSt w pb tb s) := h
  have HC : Hid (Does 63 d C) := hC
  obtain ⟨hlp, hlt, hne⟩ := h.lt
  clear h hC
  go_enter Tryd.func56, Tryd.ntmps56
  go_wp2_with fail
  have z4 := Six.made w (.string ⟨#[]⟩) (.string ⟨#[]⟩) (.string ⟨#[]⟩) (.int .i64 0) (.int .i64 0) (.slice none 0 0) 24
  refine (HC.out _ pb tb s (HH.out.alloc _)).mono ?_
  rintro e w1 ⟨v1, n1, s1, rfl, d1, h1, b1, F1⟩
  obtain ⟨x0, x1, x2, xm, xp, xa, xl, xc, rfl⟩ := ndb_shape d1
  have p4 := z4.bes b1 (by omega)
  have bs1 : Bes pb w w1 := ((Bes.refl pb w).alloc _).trans b1
  clear z4 b1
  go_wp2_with fail
  have z5 := Six.made w1 (.string x0) (.string x1) (.string x2) (.int .i64 xm) (.int .i64 xp) (.slice xa xl xc) 24
  refine (pnow_any pb tb s1 _ (h1.alloc _)).mono ?_
  rintro e w2 ⟨rfl, hb2⟩
  obtain ⟨t, htd⟩ : ∃ t, t = nowS s1 := ⟨_, rfl⟩
  have HP : Hid (posS s1 = t.pos) := by rw [htd]; exact posS_now s1
  have hpos : t.pos ≤ 140737488351232 := by rw [htd]; exact h1.now.2.2.1
  rw [← htd]
  clear htd
  simp only [Em6.tokV]
  have f3 := fld3 t.kind (Em.str t.text) t.num t.pos
  have h2 := (h1.alloc _).below hb2
  have q42 := (p4.alloc _).below hb2
  have q52 := z5.below hb2
  have bs2 : Bes pb w w2 := (bs1.alloc _).trans (Bes.of hb2)
  have d2 : NdB (w.heap.size + 1) w2 n1 _ := ndb_below (ndb_below (by simpa using d1) ((Below.refl _ _).alloc (Nat.le_refl _) _)) hb2
  have g5 : w.heap.size < w1.heap.size := p4.lt
  clear h1 p4 z5 bs1 d1 hb2
  go_wp2_with fail
  refine (peat_any pb tb s1 [61] _ h2 (by decide)).mono ?_
  rintro e w3 ⟨rfl, h3, b3⟩
  have q43 := q42.bes b3 (by omega)
  have q53 := q52.bes b3 (by omega)
  have bs3 := bs2.trans b3
  have d3 := ndb_bes d2 (by omega) b3
  clear h2 q42 q52 bs2 d2 b3
  obtain ⟨q3, hq3⟩ : ∃ q, q = isWS [61] s1 := ⟨_, rfl⟩
  rw [← hq3]
  cases q3 with
  | true =>
    obtain ⟨t', r', rfl, -⟩ := isWS_ok hq3.symm
    rw [eatS_t hq3.symm] at h3
    have HQ : Hid (isWS [61] (.ok (t' :: r')) = true) := hq3.symm
    have HF1 : Hid (Fits (thn s C) n1 (.ok (t' :: r'))) := F1
    clear hq3 F1
    have r5d := q53.drew
    go_wp2_with fail
    go_region_held (fun w' => w'.cell? ⟨w1.heap.size, 0, none⟩ = some (.string x0) ∧ w'.cell? ⟨w1.heap.size, 1, none⟩ = some (.string x1) ∧ w'.cell? ⟨w1.heap.size, 2, none⟩ = some (.string x2) ∧ w'.cell? ⟨w1.heap.size, 3, none⟩ = some (.int .i64 xm) ∧ w'.cell? ⟨w1.heap.size, 4, none⟩ = some (.int .i64 xp) ∧ w'.cell? ⟨w1.heap.size, 5, none⟩ = some (.slice xa xl xc))
      (with_reducible (first | exact u6.held | exact u5.held | exact (t5.alloc _).held | exact t5.held | exact r5d.held))
      (first | (go_at_call 63; refine (HC.out _ pb tb (.ok r') h3.drew).mono ?_; rintro e w8 ⟨v8, n8, s8, rfl, d8, h8, b8, F8⟩; obtain ⟨y0, y1, y2, ym, yp, ya, yl, yc, rfl⟩ := ndb_shape d8; have t4 := q43.drew.bes b8 (by omega); have t5 := r5d.bes b8 (by omega); have bs8 := bs3.drew.trans b8; have e8 : NdB (w.heap.size + 1) w8 n1 _ := ndb_bes (ndb_below d3 (Below.refl _ _).drew) (by omega) b8; have e8' : NdB (w.heap.size + 1) w8 n8 _ := ndb_mono d8 (by have := q53.lt; simp; omega); have HF8 : Hid (Fits (thn (.ok r') C) n8 s8) := F8; clear F8 d8 b8 r5d) | (go_at_call 38; refine (pnode_any _ _ _ _ _ _).mono ?_; rintro e w9 ⟨rfl, hb9⟩; have u4 := (t4.alloc _).below hb9; have u5 := (t5.alloc _).below hb9; have h9 := (h8.alloc _).below hb9; have bs9 := (bs8.alloc _).trans (Bes.of hb9); have e9 : NdB (w.heap.size + 1) w9 (nd [101, 113] t.pos [n1, n8]) (.agg #[.string ⟨#[101, 113]⟩, .string (Em.str []), .string (Em.str []), .int .i64 0, .int .i64 t.pos, .slice (some ⟨w8.heap.size, 0, none⟩) 2 2]) := ndp_two (op := [101, 113]) e8 e8' (by simpa using hb9) rfl (by have := t5.lt; omega) ⟨by decide, by decide⟩ txt_nil txt_nil hpos; obtain ⟨W, hW, sx, hz, hk, hbb⟩ := u4.set (.string ⟨#[101, 113]⟩) (.string (Em.str [])) (.string (Em.str [])) (.int .i64 0) (.int .i64 t.pos) (.slice (some ⟨w8.heap.size, 0, none⟩) 2 2); have u6 : Six W w1.heap.size _ _ _ _ _ _ := u5.far hk (by omega); obtain ⟨a0, a1, a2, a3, a4, a5, f0, f1, f2, f3', f4, f5⟩ := id u4))
    all_goals
      go_wp2
      obtain ⟨c0, c1, c2, c3, c4, c5, -⟩ := id sx
      refine bodyPost_ret (v := .agg #[.string ⟨#[101, 113]⟩, .string (Em.str []), .string (Em.str []), .int .i64 0, .int .i64 t.pos, .slice (some ⟨w8.heap.size, 0, none⟩) 2 2]) (by simp [results, Tryd.results56, go_sem, c0, c1, c2, c3, c4, c5]) rfl ?_
      refine ⟨_, nd [101, 113] t.pos [n1, n8], s8, rfl, ndb_mono (ndb_set e9 (by omega) hz hk) (by omega), h9.set hz hk (by omega) (by omega), hbb pb w bs9 (Nat.le_refl _), ?_⟩
      refine fits_thn HF1.out (fits_t HQ.out (fun t2 r2 e2 => ?_))
      injection e2 with e2
      injection e2 with e3 e4
      subst e3
      subst e4
      have hp2 : t'.pos = t.pos := HP.out
      refine fits_bnd HF8.out ?_
      show Fits (thn s8 fun L2 => .ok (nd [101, 113] t'.pos [n1, n8], L2)) _ _
      rw [hp2]
      exact fits_ok
  | false =>
    rw [eatS_f hq3.symm] at h3
    have HQ3 : Hid (isWS [61] s1 = false) := hq3.symm
    clear hq3
    go_wp2_with fail
    refine (peat_any pb tb s1 [60] _ h3 (by decide)).mono ?_
    rintro e w6 ⟨rfl, h6, b6⟩
    have q46 := q43.bes b6 (by omega)
    have q56 := q53.bes b6 (by omega)
    have bs6 := bs3.trans b6
    have d6 := ndb_bes d3 (by omega) b6
    clear h3 q43 q53 bs3 d3 b6
    obtain ⟨q6, hq6⟩ : ∃ q, q = isWS [60] s1 := ⟨_, rfl⟩
    rw [← hq6]
    cases q6 with
    | false =>
      rw [eatS_f hq6.symm] at h6
      have HF : Hid (Fits (thn s (cmpS C)) n1 s1) := fits_thn F1 (fits_f HQ3.out (fits_f hq6.symm fits_ok))
      obtain ⟨c0, c1, c2, c3, c4, c5, -⟩ := id q56
      obtain ⟨a0, a1, a2, a3, a4, a5, f0, f1, f2, f3', f4, f5⟩ := id q46
      clear F1 hq6
      go_wp2_with fail
      obtain ⟨W, hW, sx, hz, hk, hbb⟩ := q46.set (.string x0) (.string x1) (.string x2) (.int .i64 xm) (.int .i64 xp) (.slice xa xl xc)
      rw [hW]
      obtain ⟨c0, c1, c2, c3, c4, c5, -⟩ := id sx
      refine bodyPost_ret (v := .agg #[.string x0, .string x1, .string x2, .int .i64 xm, .int .i64 xp, .slice xa xl xc]) (by simp [results, Tryd.results56, go_sem, c0, c1, c2, c3, c4, c5]) rfl ?_
      exact ⟨_, n1, s1, rfl, ndb_mono (ndb_set d6 (by omega) hz hk) (by omega), h6.set hz hk (by omega) (by omega), hbb pb w bs6 (Nat.le_refl _), HF.out⟩
    | true =>
      obtain ⟨t', r', rfl, -⟩ := isWS_ok hq6.symm
      rw [eatS_t hq6.symm] at h6
      have HQ : Hid (isWS [60] (.ok (t' :: r')) = true) := hq6.symm
      have HF1 : Hid (Fits (thn s C) n1 (.ok (t' :: r'))) := F1
      clear hq6 F1
      have r5d := q56.drew
      go_wp2_with fail
      go_region_held (fun w' => w'.cell? ⟨w1.heap.size, 0, none⟩ = some (.string x0) ∧ w'.cell? ⟨w1.heap.size, 1, none⟩ = some (.string x1) ∧ w'.cell? ⟨w1.heap.size, 2, none⟩ = some (.string x2) ∧ w'.cell? ⟨w1.heap.size, 3, none⟩ = some (.int .i64 xm) ∧ w'.cell? ⟨w1.heap.size, 4, none⟩ = some (.int .i64 xp) ∧ w'.cell? ⟨w1.heap.size, 5, none⟩ = some (.slice xa xl xc))
        (with_reducible (first | exact u6.held | exact u5.held | exact (t5.alloc _).held | exact t5.held | exact r5d.held))
        (first | (go_at_call 63; refine (HC.out _ pb tb (.ok r') h6.drew).mono ?_; rintro e w8 ⟨v8, n8, s8, rfl, d8, h8, b8, F8⟩; obtain ⟨y0, y1, y2, ym, yp, ya, yl, yc, rfl⟩ := ndb_shape d8; have t4 := q46.drew.bes b8 (by omega); have t5 := r5d.bes b8 (by omega); have bs8 := bs6.drew.trans b8; have e8 : NdB (w.heap.size + 1) w8 n1 _ := ndb_bes (ndb_below d6 (Below.refl _ _).drew) (by omega) b8; have e8' : NdB (w.heap.size + 1) w8 n8 _ := ndb_mono d8 (by have := q56.lt; simp; omega); have HF8 : Hid (Fits (thn (.ok r') C) n8 s8) := F8; clear F8 d8 b8 r5d) | (go_at_call 38; refine (pnode_any _ _ _ _ _ _).mono ?_; rintro e w9 ⟨rfl, hb9⟩; have u4 := (t4.alloc _).below hb9; have u5 := (t5.alloc _).below hb9; have h9 := (h8.alloc _).below hb9; have bs9 := (bs8.alloc _).trans (Bes.of hb9); have e9 : NdB (w.heap.size + 1) w9 (nd [108, 101, 115, 115] t.pos [n1, n8]) (.agg #[.string ⟨#[108, 101, 115, 115]⟩, .string (Em.str []), .string (Em.str []), .int .i64 0, .int .i64 t.pos, .slice (some ⟨w8.heap.size, 0, none⟩) 2 2]) := ndp_two (op := [108, 101, 115, 115]) e8 e8' (by simpa using hb9) rfl (by have := t5.lt; omega) ⟨by decide, by decide⟩ txt_nil txt_nil hpos; obtain ⟨W, hW, sx, hz, hk, hbb⟩ := u4.set (.string ⟨#[108, 101, 115, 115]⟩) (.string (Em.str [])) (.string (Em.str [])) (.int .i64 0) (.int .i64 t.pos) (.slice (some ⟨w8.heap.size, 0, none⟩) 2 2); have u6 : Six W w1.heap.size _ _ _ _ _ _ := u5.far hk (by omega); obtain ⟨a0, a1, a2, a3, a4, a5, f0, f1, f2, f3', f4, f5⟩ := id u4))
      all_goals
        go_wp2
        obtain ⟨c0, c1, c2, c3, c4, c5, -⟩ := id sx
        refine bodyPost_ret (v := .agg #[.string ⟨#[108, 101, 115, 115]⟩, .string (Em.str []), .string (Em.str []), .int .i64 0, .int .i64 t.pos, .slice (some ⟨w8.heap.size, 0, none⟩) 2 2]) (by simp [results, Tryd.results56, go_sem, c0, c1, c2, c3, c4, c5]) rfl ?_
        refine ⟨_, nd [108, 101, 115, 115] t.pos [n1, n8], s8, rfl, ndb_mono (ndb_set e9 (by omega) hz hk) (by omega), h9.set hz hk (by omega) (by omega), hbb pb w bs9 (Nat.le_refl _), ?_⟩
        refine fits_thn HF1.out (fits_f HQ3.out (fits_t HQ.out (fun t2 r2 e2 => ?_)))
        injection e2 with e2
        injection e2 with e3 e4
        subst e3
        subst e4
        have hp2 : t'.pos = t.pos := HP.out
        refine fits_bnd HF8.out ?_
        show Fits (thn s8 fun L2 => .ok (nd [108, 101, 115, 115] t'.pos [n1, n8], L2)) _ _
        rw [hp2]
        exact fits_ok
end Go.Proofs.YtoekhejpompjlaaDoor

namespace Go.Proofs.YtoekhejpompjlaaDoor
open Go.RowKit Go.Em5 Go.Em6
set_option linter.unusedSimpArgs false

set_option maxRecDepth 100000 in
set_option maxHeartbeats 4000000 in
theorem pcons_fuel (d : Nat) (C : List Em4.Tok → R) (hC : Does 70 d C) (hS : Shr C) : ∀ (f : Nat) (w : World) (pb tb : Nat) (s : St), IsSt w pb tb s → lenS s < f → Calls Tryd.prog 63 #[PP pb, .int .i64 d] w (Post (consF C f) pb tb s w) := by
  intro f
  induction f with
  | zero => intro w pb tb s h hf; omega
  | succ f ih =>
    intro w pb tb s h hf
    have HH : Hid (IsSt w pb tb s) := h
    have HC : Hid (Does 70 d C) := hC
    obtain ⟨hlp, hlt, hne⟩ := h.lt
    clear h hC
    have HI : Hid (∀ (w : World) (pb tb : Nat) (s : St), IsSt w pb tb s → lenS s < f → Calls Tryd.prog 63 #[PP pb, .int .i64 d] w (Post (consF C f) pb tb s w)) := ih
    have HL : Hid (lenS s < f + 1) := hf
    clear ih hf
    go_enter Tryd.func63, Tryd.ntmps63
    go_wp2_with fail
    have z4 := Six.made w (.string ⟨#[]⟩) (.string ⟨#[]⟩) (.string ⟨#[]⟩) (.int .i64 0) (.int .i64 0) (.slice none 0 0) 24
    refine (HC.out _ pb tb s (HH.out.alloc _)).mono ?_
    rintro e w1 ⟨v1, n1, s1, rfl, d1, h1, b1, F1⟩
    obtain ⟨x0, x1, x2, xm, xp, xa, xl, xc, rfl⟩ := ndb_shape d1
    have p4 := z4.bes b1 (by omega)
    have bs1 : Bes pb w w1 := ((Bes.refl pb w).alloc _).trans b1
    clear z4 b1
    go_wp2_with fail
    have z5 := Six.made w1 (.string x0) (.string x1) (.string x2) (.int .i64 xm) (.int .i64 xp) (.slice xa xl xc) 24
    refine (pnow_any pb tb s1 _ (h1.alloc _)).mono ?_
    rintro e w2 ⟨rfl, hb2⟩
    obtain ⟨t, htd⟩ : ∃ t, t = nowS s1 := ⟨_, rfl⟩
    have HP : Hid (posS s1 = t.pos) := by rw [htd]; exact posS_now s1
    have hpos : t.pos ≤ 140737488351232 := by rw [htd]; exact h1.now.2.2.1
    rw [← htd]
    clear htd
    simp only [Em6.tokV]
    have f3 := fld3 t.kind (Em.str t.text) t.num t.pos
    have h2 := (h1.alloc _).below hb2
    have q42 := (p4.alloc _).below hb2
    have q52 := z5.below hb2
    have bs2 : Bes pb w w2 := (bs1.alloc _).trans (Bes.of hb2)
    have d2 : NdB (w.heap.size + 1) w2 n1 _ := ndb_below (ndb_below (by simpa using d1) ((Below.refl _ _).alloc (Nat.le_refl _) _)) hb2
    have g5 : w.heap.size < w1.heap.size := p4.lt
    clear h1 p4 z5 bs1 d1 hb2
    go_wp2_with fail
    refine (peat_any pb tb s1 [58, 58] _ h2 (by decide)).mono ?_
    rintro e w3 ⟨rfl, h3, b3⟩
    have q43 := q42.bes b3 (by omega)
    have q53 := q52.bes b3 (by omega)
    have bs3 := bs2.trans b3
    have d3 := ndb_bes d2 (by omega) b3
    clear h2 q42 q52 bs2 d2 b3
    obtain ⟨q3, hq3⟩ : ∃ q, q = isWS [58, 58] s1 := ⟨_, rfl⟩
    rw [← hq3]
    cases q3 with
    | false =>
      rw [eatS_f hq3.symm] at h3
      have HF : Hid (Fits (thn s (consF C (f + 1))) n1 s1) := fits_thn F1 (fits_f hq3.symm fits_ok)
      obtain ⟨c0, c1, c2, c3, c4, c5, -⟩ := id q53
      obtain ⟨a0, a1, a2, a3, a4, a5, f0, f1, f2, f3', f4, f5⟩ := id q43
      clear F1 hq3
      go_wp2_with fail
      obtain ⟨W, hW, sx, hz, hk, hbb⟩ := q43.set (.string x0) (.string x1) (.string x2) (.int .i64 xm) (.int .i64 xp) (.slice xa xl xc)
      rw [hW]
      obtain ⟨c0, c1, c2, c3, c4, c5, -⟩ := id sx
      refine bodyPost_ret (v := .agg #[.string x0, .string x1, .string x2, .int .i64 xm, .int .i64 xp, .slice xa xl xc]) (by simp [results, Tryd.results63, go_sem, c0, c1, c2, c3, c4, c5]) rfl ?_
      exact ⟨_, n1, s1, rfl, ndb_mono (ndb_set d3 (by omega) hz hk) (by omega), h3.set hz hk (by omega) (by omega), hbb pb w bs3 (Nat.le_refl _), HF.out⟩
    | true =>
      obtain ⟨t', r', rfl, -⟩ := isWS_ok hq3.symm
      rw [eatS_t hq3.symm] at h3
      have HQ : Hid (isWS [58, 58] (.ok (t' :: r')) = true) := hq3.symm
      have HF1 : Hid (Fits (thn s C) n1 (.ok (t' :: r'))) := F1
      have HR : Hid (lenS (.ok r') < f) := by
        have := fits_shr hS F1
        have := HL.out
        simp only [lenS, Hid, List.length_cons] at *
        omega
      clear hq3 F1
      have r5d := q53.drew
      go_wp2_with fail
      go_region_held (fun w' => w'.cell? ⟨w1.heap.size, 0, none⟩ = some (.string x0) ∧ w'.cell? ⟨w1.heap.size, 1, none⟩ = some (.string x1) ∧ w'.cell? ⟨w1.heap.size, 2, none⟩ = some (.string x2) ∧ w'.cell? ⟨w1.heap.size, 3, none⟩ = some (.int .i64 xm) ∧ w'.cell? ⟨w1.heap.size, 4, none⟩ = some (.int .i64 xp) ∧ w'.cell? ⟨w1.heap.size, 5, none⟩ = some (.slice xa xl xc))
        (with_reducible (first | exact u6.held | exact u5.held | exact (t5.alloc _).held | exact t5.held | exact r5d.held))
        (first | (go_at_call 63; refine (HI.out _ pb tb (.ok r') h3.drew HR.out).mono ?_; rintro e w8 ⟨v8, n8, s8, rfl, d8, h8, b8, F8⟩; obtain ⟨y0, y1, y2, ym, yp, ya, yl, yc, rfl⟩ := ndb_shape d8; have t4 := q43.drew.bes b8 (by omega); have t5 := r5d.bes b8 (by omega); have bs8 := bs3.drew.trans b8; have e8 : NdB (w.heap.size + 1) w8 n1 _ := ndb_bes (ndb_below d3 (Below.refl _ _).drew) (by omega) b8; have e8' : NdB (w.heap.size + 1) w8 n8 _ := ndb_mono d8 (by have := q53.lt; simp; omega); have HF8 : Hid (Fits (thn (.ok r') (consF C f)) n8 s8) := F8; clear F8 d8 b8 r5d) | (go_at_call 38; refine (pnode_any _ _ _ _ _ _).mono ?_; rintro e w9 ⟨rfl, hb9⟩; have u4 := (t4.alloc _).below hb9; have u5 := (t5.alloc _).below hb9; have h9 := (h8.alloc _).below hb9; have bs9 := (bs8.alloc _).trans (Bes.of hb9); have e9 : NdB (w.heap.size + 1) w9 (nd [99, 111, 110, 115] t.pos [n1, n8]) (.agg #[.string ⟨#[99, 111, 110, 115]⟩, .string (Em.str []), .string (Em.str []), .int .i64 0, .int .i64 t.pos, .slice (some ⟨w8.heap.size, 0, none⟩) 2 2]) := ndp_two (op := [99, 111, 110, 115]) e8 e8' (by simpa using hb9) rfl (by have := t5.lt; omega) ⟨by decide, by decide⟩ txt_nil txt_nil hpos; obtain ⟨W, hW, sx, hz, hk, hbb⟩ := u4.set (.string ⟨#[99, 111, 110, 115]⟩) (.string (Em.str [])) (.string (Em.str [])) (.int .i64 0) (.int .i64 t.pos) (.slice (some ⟨w8.heap.size, 0, none⟩) 2 2); have u6 : Six W w1.heap.size _ _ _ _ _ _ := u5.far hk (by omega); obtain ⟨a0, a1, a2, a3, a4, a5, f0, f1, f2, f3', f4, f5⟩ := id u4))
      all_goals
        go_wp2
        obtain ⟨c0, c1, c2, c3, c4, c5, -⟩ := id sx
        refine bodyPost_ret (v := .agg #[.string ⟨#[99, 111, 110, 115]⟩, .string (Em.str []), .string (Em.str []), .int .i64 0, .int .i64 t.pos, .slice (some ⟨w8.heap.size, 0, none⟩) 2 2]) (by simp [results, Tryd.results63, go_sem, c0, c1, c2, c3, c4, c5]) rfl ?_
        refine ⟨_, nd [99, 111, 110, 115] t.pos [n1, n8], s8, rfl, ndb_mono (ndb_set e9 (by omega) hz hk) (by omega), h9.set hz hk (by omega) (by omega), hbb pb w bs9 (Nat.le_refl _), ?_⟩
        refine fits_thn HF1.out (fits_t HQ.out (fun t2 r2 e2 => ?_))
        injection e2 with e2
        injection e2 with e3 e4
        subst e3
        subst e4
        have hp2 : t'.pos = t.pos := HP.out
        refine fits_bnd HF8.out ?_
        show Fits (thn s8 fun L2 => .ok (nd [99, 111, 110, 115] t'.pos [n1, n8], L2)) _ _
        rw [hp2]
        exact fits_ok
theorem pcons_does (d : Nat) (C : List Em4.Tok → R) (hC : Does 70 d C) (hS : Shr C) : Does 63 d (consS C) := by
  intro w pb tb s h
  refine (pcons_fuel d C hC hS (lenS s + 1) w pb tb s h (by omega)).mono fun e w' hp => ?_
  obtain ⟨v, n, s', h1, h2, h3, h4, h5⟩ := hp
  refine ⟨v, n, s', h1, h2, h3, h4, ?_⟩
  cases s with
  | error e => exact h5
  | ok L => exact h5
end Go.Proofs.YtoekhejpompjlaaDoor

namespace Go.Proofs.YtoekhejpompjlaaDoor
open Go.RowKit Go.Em5 Go.Em6
set_option linter.unusedSimpArgs false

set_option maxRecDepth 100000 in
set_option maxHeartbeats 4000000 in
theorem pprod_does (d : Nat) (C : List Em4.Tok → R) (hC : Does 82 d C) (hS : Shr C) : Does 77 d (prodS C) := by
  intro w pb tb s h
  have HH : Hid (IsSt w pb tb s) := h
  have HC : Hid (Does 82 d C) := hC
  obtain ⟨hlp, hlt, hne⟩ := h.lt
  clear h hC
  have HSH : Hid (Shr C) := hS
  clear hS
  go_enter Tryd.func77, Tryd.ntmps77
  go_wp2_with fail
  have z4 := Six.made w (.string ⟨#[]⟩) (.string ⟨#[]⟩) (.string ⟨#[]⟩) (.int .i64 0) (.int .i64 0) (.slice none 0 0) 24
  refine (HC.out _ pb tb s (HH.out.alloc _)).mono ?_
  rintro e w1 ⟨v1, n1, s1, rfl, d1, h1, b1, F1⟩
  obtain ⟨x0, x1, x2, xm, xp, xa, xl, xc, rfl⟩ := ndb_shape d1
  have p4 := z4.bes b1 (by omega)
  have bs1 : Bes pb w w1 := ((Bes.refl pb w).alloc _).trans b1
  have g5 : w.heap.size < w1.heap.size := p4.lt
  have HST : Hid (LoopI C prodF pb tb w s w1.heap.size (w1.alloc (.cells #[.string x0, .string x1, .string x2, .int .i64 xm, .int .i64 xp, .slice xa xl xc] 24))) :=
    ⟨n1, s1, x0, x1, x2, xm, xp, xa, xl, xc, Six.made w1 _ _ _ _ _ _ _, p4.alloc _, h1.alloc _, bs1.alloc _, ndp_below (ndq_of (by simpa using d1) (Nat.le_refl _)) ((Below.refl _ _).alloc (Nat.le_refl _) _), fun m s'' hf => fits_thn F1 hf⟩
  clear z4 b1 h1 p4 bs1 d1 F1
  go_wp2
  go_loopw [6] (fun _ wr => Hid (LoopI C prodF pb tb w s w1.heap.size wr)) (fun _ wr => mu pb wr)
  case atStart => exact HST
  case round =>
    have HL := hrel
    clear hrel
    obtain ⟨n1, s1, x0, x1, x2, xm, xp, xa, xl, xc, o5, o4, h1, bs1, d1, HD⟩ := HL.out
    have HD : Hid (∀ (m : Nd) (s'' : St), Fits (thn s1 (fun L => prodF C L.length n1 L)) m s'' → Fits (thn s (fun L => bnd (C L) fun a L1 => prodF C L1.length a L1)) m s'') := HD
    have HM : Hid (mu pb wr = lenS s1) := mu_eq h1
    clear HST HL
    go_wp2_with fail
    refine (pnow_any pb tb s1 _ h1).mono ?_
    rintro e w2 ⟨rfl, hb2⟩
    obtain ⟨t, htd⟩ : ∃ t, t = nowS s1 := ⟨_, rfl⟩
    have HP : Hid (posS s1 = t.pos) := by rw [htd]; exact posS_now s1
    have hpos : t.pos ≤ 140737488351232 := by rw [htd]; exact h1.now.2.2.1
    rw [← htd]
    clear htd
    simp only [Em6.tokV]
    have f3 := fld3 t.kind (Em.str t.text) t.num t.pos
    have h2 := h1.below hb2
    have q42 := o4.below hb2
    have q52 := o5.below hb2
    have bs2 : Bes pb w w2 := bs1.trans (Bes.of hb2)
    have d2 := ndp_below d1 hb2
    clear h1 o4 o5 bs1 d1 hb2
    go_wp2_with fail
    refine (peat_any pb tb s1 [42] _ h2 (by decide)).mono ?_
    rintro e w3 ⟨rfl, h3, b3⟩
    have q43 := q42.bes b3 (by omega)
    have q53 := q52.bes b3 (by omega)
    have bs3 := bs2.trans b3
    have d3 := ndp_bes d2 (by omega) b3
    clear h2 q42 q52 bs2 d2 b3
    obtain ⟨q3, hq3⟩ : ∃ q, q = isWS [42] s1 := ⟨_, rfl⟩
    rw [← hq3]
    cases q3 with
    | false =>
      rw [eatS_f hq3.symm] at h3
      have HF := HD.out n1 s1 (prod_stop hq3.symm)
      obtain ⟨c0, c1, c2, c3, c4, c5, -⟩ := id q53
      obtain ⟨a0, a1, a2, a3, a4, a5, f0, f1, f2, f3', f4, f5⟩ := id q43
      clear hq3
      have HF' : Hid (Fits _ n1 s1) := HF
      clear HF
      go_wp2_with fail
      obtain ⟨W, hW, sx, hz, hk, hbb⟩ := q43.set (.string x0) (.string x1) (.string x2) (.int .i64 xm) (.int .i64 xp) (.slice xa xl xc)
      rw [hW]
      obtain ⟨c0, c1, c2, c3, c4, c5, -⟩ := id sx
      refine bodyPost_ret (v := .agg #[.string x0, .string x1, .string x2, .int .i64 xm, .int .i64 xp, .slice xa xl xc]) (by simp [results, Tryd.results77, go_sem, c0, c1, c2, c3, c4, c5]) rfl ?_
      exact ⟨_, n1, s1, rfl, ndb_mono (ndb_set (ndq_ndb d3) (by omega) hz hk) (by omega), h3.set hz hk (by omega) (by omega), hbb pb w bs3 (Nat.le_refl _), HF'.out⟩
    | true =>
      obtain ⟨t', r', rfl, -⟩ := isWS_ok hq3.symm
      rw [eatS_t hq3.symm] at h3
      have HQ : Hid (isWS [42] (.ok (t' :: r')) = true) := hq3.symm
      have HP' : Hid (t'.pos = t.pos) := HP.out
      clear hq3
      have r5d := q53.drew
      obtain ⟨k0, k1, k2, k3, k4, k5, -⟩ := id r5d
      have hgl := q53.lt
      go_wp2_with fail
      go_region_with
        (first | (go_at_call 82; refine (HC.out _ pb tb (.ok r') h3.drew).mono ?_; rintro e w8 ⟨v8, n8, s8, rfl, d8, h8, b8, F8⟩; obtain ⟨y0, y1, y2, ym, yp, ya, yl, yc, rfl⟩ := ndb_shape d8; have t4 := q43.drew.bes b8 (by omega); have t5 := r5d.bes b8 (by omega); obtain ⟨l0, l1, l2, l3, l4, l5, -⟩ := id t5; have bs8 := bs3.drew.trans b8; have e8 : NdQ (w.heap.size + 1) w1.heap.size w8 n1 _ := ndp_bes (ndp_below d3 (Below.refl _ _).drew) (by omega) b8; have e8' : NdQ (w.heap.size + 1) w1.heap.size w8 n8 _ := ndq_of2 d8 (by simp; omega) (by simp; omega); have HF8 : Hid (Fits (thn (.ok r') C) n8 s8) := F8; have hgl8 := t5.lt; clear F8 d8 b8 r5d) | (go_at_call 38; refine (pnode_any _ _ _ _ _ _).mono ?_; rintro e w9 ⟨rfl, hb9⟩; have u4 := (t4.alloc _).below hb9; have u5 := (t5.alloc _).below hb9; have h9 := (h8.alloc _).below hb9; have bs9 := (bs8.alloc _).trans (Bes.of hb9); have e9 : NdQ (w.heap.size + 1) w1.heap.size w9 (nd [109, 117, 108] t.pos [n1, n8]) (.agg #[.string ⟨#[109, 117, 108]⟩, .string (Em.str []), .string (Em.str []), .int .i64 0, .int .i64 t.pos, .slice (some ⟨w8.heap.size, 0, none⟩) 2 2]) := ndp_two (op := [109, 117, 108]) e8 e8' (by simpa using hb9) rfl ⟨by omega, by omega⟩ ⟨by decide, by decide⟩ txt_nil txt_nil hpos; obtain ⟨W, hW, sx, hz, hk, hbb⟩ := u5.set (.string ⟨#[109, 117, 108]⟩) (.string (Em.str [])) (.string (Em.str [])) (.int .i64 0) (.int .i64 t.pos) (.slice (some ⟨w8.heap.size, 0, none⟩) 2 2); obtain ⟨a0, a1, a2, a3, a4, a5, f0, f1, f2, f3', f4, f5⟩ := id u5))
      all_goals
        go_wp2
        go_roundw
        case rel => exact ⟨nd [109, 117, 108] t.pos [n1, n8], s8, _, _, _, _, _, _, _, _, sx, u4.far hk (by omega), h9.set hz hk (by omega) (by omega), hbb pb w bs9 (by omega), ndq_set e9 hz hk, fun m s'' hf => HD.out m s'' (prod_round HSH.out HQ.out HF8.out (by rw [HP'.out]; exact hf))⟩
        case measure =>
          have hm9 := mu_eq (h9.set hz hk (by omega) (by omega))
          rw [hm9, HM.out]
          exact fits_len1 HSH.out HF8.out
end Go.Proofs.YtoekhejpompjlaaDoor

/- What 'app' of the program's parser answers. -/
import Derived.Test.YtgojjknbingfpaaDoorPaG
namespace Go.Proofs.YtgojjknbingfpaaDoor
open Go.RowKit Go.Em5 Go.Em6
set_option linter.unusedSimpArgs false

set_option maxRecDepth 100000 in
set_option maxHeartbeats 4000000 in
theorem qapp_does (d : Nat) (C : List Em4.Tok → R) (hC : DoesP 91 d C) (hS : Shr C) : DoesP 88 d (appS C) := by
  have hC0 := hC
  have hS0 := hS
  intro s w pb tb h
  have HH : Hid (IsPs w pb tb d s) := h
  have HLP : Hid (∀ s, (wordS s ∉ ones ∧ wordS s ≠ [108, 105, 110, 107]) → DoesAt 88 d (appS C) s) := fun s hs => qapp_loop d C hC0 hS0 s hs
  clear hC0 hS0
  have HC : Hid (DoesP 91 d C) := hC
  have HSH : Hid (Shr C) := hS
  obtain ⟨hlp, hlt, hne, -⟩ := h.lt
  have hq := Em5.str_eq (wordS_txt h.1).1
  obtain ⟨wd, hwd⟩ : ∃ wd, wd = wordS s := ⟨_, rfl⟩
  have HWD : Hid (wordS s = wd) := hwd.symm
  rw [← hwd] at hq
  have hty : Txt wd := by rw [hwd]; exact wordS_txt h.1
  have HTY : Hid (Txt wd) := hty
  clear h hC hS hty
  have z4 := Six.made w (.string ⟨#[]⟩) (.string ⟨#[]⟩) (.string ⟨#[]⟩) (.int .i64 0) (.int .i64 0) (.slice none 0 0) 24
  have q0 : ((Em.str wd).toList == [114, 97, 105, 115, 101]) = decide (wd = [114, 97, 105, 115, 101]) := hq [114, 97, 105, 115, 101]
  have q1 : ((Em.str wd).toList == [102, 115, 116]) = decide (wd = [102, 115, 116]) := hq [102, 115, 116]
  have q2 : ((Em.str wd).toList == [115, 110, 100]) = decide (wd = [115, 110, 100]) := hq [115, 110, 100]
  have q3 : ((Em.str wd).toList == [114, 101, 102]) = decide (wd = [114, 101, 102]) := hq [114, 101, 102]
  have q4 : ((Em.str wd).toList == [99, 101, 108, 108]) = decide (wd = [99, 101, 108, 108]) := hq [99, 101, 108, 108]
  have q5 : ((Em.str wd).toList == [116, 97, 103]) = decide (wd = [116, 97, 103]) := hq [116, 97, 103]
  have q6 : ((Em.str wd).toList == [108, 105, 110, 107, 115]) = decide (wd = [108, 105, 110, 107, 115]) := hq [108, 105, 110, 107, 115]
  have q7 : ((Em.str wd).toList == [115, 105, 122, 101]) = decide (wd = [115, 105, 122, 101]) := hq [115, 105, 122, 101]
  have q8 : ((Em.str wd).toList == [112, 114, 105, 110, 116]) = decide (wd = [112, 114, 105, 110, 116]) := hq [112, 114, 105, 110, 116]
  have q9 : ((Em.str wd).toList == [108, 105, 110, 107]) = decide (wd = [108, 105, 110, 107]) := hq [108, 105, 110, 107]
  clear hq
  by_cases hwo : wd = [114, 97, 105, 115, 101]
  · rw [decide_eq_true hwo] at q0
    clear q1 q2 q3 q4 q5 q6 q7 q8 q9
    obtain ⟨t, r, rfl, h4, ht⟩ := wordS_ok (s := s) (by rw [HWD.out, hwo]; decide)
    have HK : Hid (t.kind ≠ 5) := by rw [Hid, h4]; decide
    have HT : Hid (t.kind = 4 ∧ t.text = wd ∧ t.text ∈ ones) := ⟨h4, by rw [ht, HWD.out], by rw [ht, HWD.out, hwo]; decide⟩
    have hpos : t.pos ≤ 140737488351232 := HH.out.1.now.2.2.1
    clear h4 ht hwo hwd
    go_enter Tryd.func88, Tryd.ntmps88
    go_wp2_with fail
    refine (qword_any pb tb d _ _ (HH.out.alloc _).1).mono ?_
    rintro e w1 ⟨rfl, hb1⟩
    rw [HWD.out]
    have h1 := (HH.out.alloc _).below hb1
    have p4 := z4.below hb1
    have bs1 : Bes pb w w1 := ((Bes.refl pb w).alloc _).trans (Bes.of hb1)
    clear hb1 z4
    go_wp2_with fail
    refine (qnext_any pb tb d t r _ h1 HK.out).mono ?_
    rintro e w2 ⟨rfl, h2, b2⟩
    simp only [Em6.tokV]
    have f3 := fld3 t.kind (Em.str t.text) t.num t.pos
    have p42 := p4.bes b2 (by omega)
    have bs2 := bs1.trans b2
    have g2 := p42.lt
    clear h1 p4 bs1 b2
    go_wp2_with fail
    refine (HC.out (.ok r) _ pb tb h2).mono ?_
    rintro e w3 ⟨v3, n3, s3, rfl, d3, h3, b3, F3⟩
    obtain ⟨y0, y1, y2, ym, yp, ya, yl, yc, rfl⟩ := ndb_shape d3
    have p43 := p42.bes b3 (by omega)
    have bs3 := bs2.trans b3
    have g3 := p43.lt
    have hs3 := b3.size
    have HF3 : Hid (Fits (thn (.ok r) C) n3 s3) := F3
    obtain ⟨W, hW, sx, hz, hk, hbb⟩ := p43.set (.string (Em.str wd)) (.string ⟨#[]⟩) (.string ⟨#[]⟩) (.int .i64 0) (.int .i64 t.pos) (.slice (some ⟨w3.heap.size, 0, none⟩) 1 1)
    obtain ⟨a0, a1, a2, a3, a4, a5, fz0, fz1, fz2, fz3, fz4, fz5⟩ := id p43
    clear F3 b3 h2 p42 bs2
    go_wp2_with fail
    obtain ⟨c0, c1, c2, c3, c4, c5, -⟩ := sx.alloc (.cells #[.string y0, .string y1, .string y2, .int .i64 ym, .int .i64 yp, .slice ya yl yc] 24)
    refine bodyPost_ret (v := .agg #[.string (Em.str wd), .string ⟨#[]⟩, .string ⟨#[]⟩, .int .i64 0, .int .i64 t.pos, .slice (some ⟨w3.heap.size, 0, none⟩) 1 1]) (by simp [results, Tryd.results88, go_sem, c0, c1, c2, c3, c4, c5]) rfl ?_
    refine ⟨_, nd wd t.pos [n3], s3, rfl, ndb_mono (ndp_one (op := wd) (nm := []) (ar := []) (ndb_set d3 (by omega) hz hk) (Below.refl _ _) hz.symm (by show _ ≤ _; omega) HTY.out txt_nil txt_nil hpos) (by omega), (h3.set hz hk (by omega) (by omega)).alloc _, (hbb pb w bs3 (Nat.le_refl _)).alloc _, ?_⟩
    show Fits (appS C (t :: r)) _ _
    rw [app_one HT.out.1 HT.out.2.2, HT.out.2.1]
    exact fits_bnd HF3.out fits_ok
  have n0 := hwo
  rw [decide_eq_false hwo] at q0
  clear hwo
  by_cases hwo : wd = [102, 115, 116]
  · rw [decide_eq_true hwo] at q1
    clear q2 q3 q4 q5 q6 q7 q8 q9
    obtain ⟨t, r, rfl, h4, ht⟩ := wordS_ok (s := s) (by rw [HWD.out, hwo]; decide)
    have HK : Hid (t.kind ≠ 5) := by rw [Hid, h4]; decide
    have HT : Hid (t.kind = 4 ∧ t.text = wd ∧ t.text ∈ ones) := ⟨h4, by rw [ht, HWD.out], by rw [ht, HWD.out, hwo]; decide⟩
    have hpos : t.pos ≤ 140737488351232 := HH.out.1.now.2.2.1
    clear h4 ht hwo hwd
    go_enter Tryd.func88, Tryd.ntmps88
    go_wp2_with fail
    refine (qword_any pb tb d _ _ (HH.out.alloc _).1).mono ?_
    rintro e w1 ⟨rfl, hb1⟩
    rw [HWD.out]
    have h1 := (HH.out.alloc _).below hb1
    have p4 := z4.below hb1
    have bs1 : Bes pb w w1 := ((Bes.refl pb w).alloc _).trans (Bes.of hb1)
    clear hb1 z4
    go_wp2_with fail
    refine (qnext_any pb tb d t r _ h1 HK.out).mono ?_
    rintro e w2 ⟨rfl, h2, b2⟩
    simp only [Em6.tokV]
    have f3 := fld3 t.kind (Em.str t.text) t.num t.pos
    have p42 := p4.bes b2 (by omega)
    have bs2 := bs1.trans b2
    have g2 := p42.lt
    clear h1 p4 bs1 b2
    go_wp2_with fail
    refine (HC.out (.ok r) _ pb tb h2).mono ?_
    rintro e w3 ⟨v3, n3, s3, rfl, d3, h3, b3, F3⟩
    obtain ⟨y0, y1, y2, ym, yp, ya, yl, yc, rfl⟩ := ndb_shape d3
    have p43 := p42.bes b3 (by omega)
    have bs3 := bs2.trans b3
    have g3 := p43.lt
    have hs3 := b3.size
    have HF3 : Hid (Fits (thn (.ok r) C) n3 s3) := F3
    obtain ⟨W, hW, sx, hz, hk, hbb⟩ := p43.set (.string (Em.str wd)) (.string ⟨#[]⟩) (.string ⟨#[]⟩) (.int .i64 0) (.int .i64 t.pos) (.slice (some ⟨w3.heap.size, 0, none⟩) 1 1)
    obtain ⟨a0, a1, a2, a3, a4, a5, fz0, fz1, fz2, fz3, fz4, fz5⟩ := id p43
    clear F3 b3 h2 p42 bs2
    go_wp2_with fail
    obtain ⟨c0, c1, c2, c3, c4, c5, -⟩ := sx.alloc (.cells #[.string y0, .string y1, .string y2, .int .i64 ym, .int .i64 yp, .slice ya yl yc] 24)
    refine bodyPost_ret (v := .agg #[.string (Em.str wd), .string ⟨#[]⟩, .string ⟨#[]⟩, .int .i64 0, .int .i64 t.pos, .slice (some ⟨w3.heap.size, 0, none⟩) 1 1]) (by simp [results, Tryd.results88, go_sem, c0, c1, c2, c3, c4, c5]) rfl ?_
    refine ⟨_, nd wd t.pos [n3], s3, rfl, ndb_mono (ndp_one (op := wd) (nm := []) (ar := []) (ndb_set d3 (by omega) hz hk) (Below.refl _ _) hz.symm (by show _ ≤ _; omega) HTY.out txt_nil txt_nil hpos) (by omega), (h3.set hz hk (by omega) (by omega)).alloc _, (hbb pb w bs3 (Nat.le_refl _)).alloc _, ?_⟩
    show Fits (appS C (t :: r)) _ _
    rw [app_one HT.out.1 HT.out.2.2, HT.out.2.1]
    exact fits_bnd HF3.out fits_ok
  have n1 := hwo
  rw [decide_eq_false hwo] at q1
  clear hwo
  by_cases hwo : wd = [115, 110, 100]
  · rw [decide_eq_true hwo] at q2
    clear q3 q4 q5 q6 q7 q8 q9
    obtain ⟨t, r, rfl, h4, ht⟩ := wordS_ok (s := s) (by rw [HWD.out, hwo]; decide)
    have HK : Hid (t.kind ≠ 5) := by rw [Hid, h4]; decide
    have HT : Hid (t.kind = 4 ∧ t.text = wd ∧ t.text ∈ ones) := ⟨h4, by rw [ht, HWD.out], by rw [ht, HWD.out, hwo]; decide⟩
    have hpos : t.pos ≤ 140737488351232 := HH.out.1.now.2.2.1
    clear h4 ht hwo hwd
    go_enter Tryd.func88, Tryd.ntmps88
    go_wp2_with fail
    refine (qword_any pb tb d _ _ (HH.out.alloc _).1).mono ?_
    rintro e w1 ⟨rfl, hb1⟩
    rw [HWD.out]
    have h1 := (HH.out.alloc _).below hb1
    have p4 := z4.below hb1
    have bs1 : Bes pb w w1 := ((Bes.refl pb w).alloc _).trans (Bes.of hb1)
    clear hb1 z4
    go_wp2_with fail
    refine (qnext_any pb tb d t r _ h1 HK.out).mono ?_
    rintro e w2 ⟨rfl, h2, b2⟩
    simp only [Em6.tokV]
    have f3 := fld3 t.kind (Em.str t.text) t.num t.pos
    have p42 := p4.bes b2 (by omega)
    have bs2 := bs1.trans b2
    have g2 := p42.lt
    clear h1 p4 bs1 b2
    go_wp2_with fail
    refine (HC.out (.ok r) _ pb tb h2).mono ?_
    rintro e w3 ⟨v3, n3, s3, rfl, d3, h3, b3, F3⟩
    obtain ⟨y0, y1, y2, ym, yp, ya, yl, yc, rfl⟩ := ndb_shape d3
    have p43 := p42.bes b3 (by omega)
    have bs3 := bs2.trans b3
    have g3 := p43.lt
    have hs3 := b3.size
    have HF3 : Hid (Fits (thn (.ok r) C) n3 s3) := F3
    obtain ⟨W, hW, sx, hz, hk, hbb⟩ := p43.set (.string (Em.str wd)) (.string ⟨#[]⟩) (.string ⟨#[]⟩) (.int .i64 0) (.int .i64 t.pos) (.slice (some ⟨w3.heap.size, 0, none⟩) 1 1)
    obtain ⟨a0, a1, a2, a3, a4, a5, fz0, fz1, fz2, fz3, fz4, fz5⟩ := id p43
    clear F3 b3 h2 p42 bs2
    go_wp2_with fail
    obtain ⟨c0, c1, c2, c3, c4, c5, -⟩ := sx.alloc (.cells #[.string y0, .string y1, .string y2, .int .i64 ym, .int .i64 yp, .slice ya yl yc] 24)
    refine bodyPost_ret (v := .agg #[.string (Em.str wd), .string ⟨#[]⟩, .string ⟨#[]⟩, .int .i64 0, .int .i64 t.pos, .slice (some ⟨w3.heap.size, 0, none⟩) 1 1]) (by simp [results, Tryd.results88, go_sem, c0, c1, c2, c3, c4, c5]) rfl ?_
    refine ⟨_, nd wd t.pos [n3], s3, rfl, ndb_mono (ndp_one (op := wd) (nm := []) (ar := []) (ndb_set d3 (by omega) hz hk) (Below.refl _ _) hz.symm (by show _ ≤ _; omega) HTY.out txt_nil txt_nil hpos) (by omega), (h3.set hz hk (by omega) (by omega)).alloc _, (hbb pb w bs3 (Nat.le_refl _)).alloc _, ?_⟩
    show Fits (appS C (t :: r)) _ _
    rw [app_one HT.out.1 HT.out.2.2, HT.out.2.1]
    exact fits_bnd HF3.out fits_ok
  have n2 := hwo
  rw [decide_eq_false hwo] at q2
  clear hwo
  by_cases hwo : wd = [114, 101, 102]
  · rw [decide_eq_true hwo] at q3
    clear q4 q5 q6 q7 q8 q9
    obtain ⟨t, r, rfl, h4, ht⟩ := wordS_ok (s := s) (by rw [HWD.out, hwo]; decide)
    have HK : Hid (t.kind ≠ 5) := by rw [Hid, h4]; decide
    have HT : Hid (t.kind = 4 ∧ t.text = wd ∧ t.text ∈ ones) := ⟨h4, by rw [ht, HWD.out], by rw [ht, HWD.out, hwo]; decide⟩
    have hpos : t.pos ≤ 140737488351232 := HH.out.1.now.2.2.1
    clear h4 ht hwo hwd
    go_enter Tryd.func88, Tryd.ntmps88
    go_wp2_with fail
    refine (qword_any pb tb d _ _ (HH.out.alloc _).1).mono ?_
    rintro e w1 ⟨rfl, hb1⟩
    rw [HWD.out]
    have h1 := (HH.out.alloc _).below hb1
    have p4 := z4.below hb1
    have bs1 : Bes pb w w1 := ((Bes.refl pb w).alloc _).trans (Bes.of hb1)
    clear hb1 z4
    go_wp2_with fail
    refine (qnext_any pb tb d t r _ h1 HK.out).mono ?_
    rintro e w2 ⟨rfl, h2, b2⟩
    simp only [Em6.tokV]
    have f3 := fld3 t.kind (Em.str t.text) t.num t.pos
    have p42 := p4.bes b2 (by omega)
    have bs2 := bs1.trans b2
    have g2 := p42.lt
    clear h1 p4 bs1 b2
    go_wp2_with fail
    refine (HC.out (.ok r) _ pb tb h2).mono ?_
    rintro e w3 ⟨v3, n3, s3, rfl, d3, h3, b3, F3⟩
    obtain ⟨y0, y1, y2, ym, yp, ya, yl, yc, rfl⟩ := ndb_shape d3
    have p43 := p42.bes b3 (by omega)
    have bs3 := bs2.trans b3
    have g3 := p43.lt
    have hs3 := b3.size
    have HF3 : Hid (Fits (thn (.ok r) C) n3 s3) := F3
    obtain ⟨W, hW, sx, hz, hk, hbb⟩ := p43.set (.string (Em.str wd)) (.string ⟨#[]⟩) (.string ⟨#[]⟩) (.int .i64 0) (.int .i64 t.pos) (.slice (some ⟨w3.heap.size, 0, none⟩) 1 1)
    obtain ⟨a0, a1, a2, a3, a4, a5, fz0, fz1, fz2, fz3, fz4, fz5⟩ := id p43
    clear F3 b3 h2 p42 bs2
    go_wp2_with fail
    obtain ⟨c0, c1, c2, c3, c4, c5, -⟩ := sx.alloc (.cells #[.string y0, .string y1, .string y2, .int .i64 ym, .int .i64 yp, .slice ya yl yc] 24)
    refine bodyPost_ret (v := .agg #[.string (Em.str wd), .string ⟨#[]⟩, .string ⟨#[]⟩, .int .i64 0, .int .i64 t.pos, .slice (some ⟨w3.heap.size, 0, none⟩) 1 1]) (by simp [results, Tryd.results88, go_sem, c0, c1, c2, c3, c4, c5]) rfl ?_
    refine ⟨_, nd wd t.pos [n3], s3, rfl, ndb_mono (ndp_one (op := wd) (nm := []) (ar := []) (ndb_set d3 (by omega) hz hk) (Below.refl _ _) hz.symm (by show _ ≤ _; omega) HTY.out txt_nil txt_nil hpos) (by omega), (h3.set hz hk (by omega) (by omega)).alloc _, (hbb pb w bs3 (Nat.le_refl _)).alloc _, ?_⟩
    show Fits (appS C (t :: r)) _ _
    rw [app_one HT.out.1 HT.out.2.2, HT.out.2.1]
    exact fits_bnd HF3.out fits_ok
  have n3 := hwo
  rw [decide_eq_false hwo] at q3
  clear hwo
  by_cases hwo : wd = [99, 101, 108, 108]
  · rw [decide_eq_true hwo] at q4
    clear q5 q6 q7 q8 q9
    obtain ⟨t, r, rfl, h4, ht⟩ := wordS_ok (s := s) (by rw [HWD.out, hwo]; decide)
    have HK : Hid (t.kind ≠ 5) := by rw [Hid, h4]; decide
    have HT : Hid (t.kind = 4 ∧ t.text = wd ∧ t.text ∈ ones) := ⟨h4, by rw [ht, HWD.out], by rw [ht, HWD.out, hwo]; decide⟩
    have hpos : t.pos ≤ 140737488351232 := HH.out.1.now.2.2.1
    clear h4 ht hwo hwd
    go_enter Tryd.func88, Tryd.ntmps88
    go_wp2_with fail
    refine (qword_any pb tb d _ _ (HH.out.alloc _).1).mono ?_
    rintro e w1 ⟨rfl, hb1⟩
    rw [HWD.out]
    have h1 := (HH.out.alloc _).below hb1
    have p4 := z4.below hb1
    have bs1 : Bes pb w w1 := ((Bes.refl pb w).alloc _).trans (Bes.of hb1)
    clear hb1 z4
    go_wp2_with fail
    refine (qnext_any pb tb d t r _ h1 HK.out).mono ?_
    rintro e w2 ⟨rfl, h2, b2⟩
    simp only [Em6.tokV]
    have f3 := fld3 t.kind (Em.str t.text) t.num t.pos
    have p42 := p4.bes b2 (by omega)
    have bs2 := bs1.trans b2
    have g2 := p42.lt
    clear h1 p4 bs1 b2
    go_wp2_with fail
    refine (HC.out (.ok r) _ pb tb h2).mono ?_
    rintro e w3 ⟨v3, n3, s3, rfl, d3, h3, b3, F3⟩
    obtain ⟨y0, y1, y2, ym, yp, ya, yl, yc, rfl⟩ := ndb_shape d3
    have p43 := p42.bes b3 (by omega)
    have bs3 := bs2.trans b3
    have g3 := p43.lt
    have hs3 := b3.size
    have HF3 : Hid (Fits (thn (.ok r) C) n3 s3) := F3
    obtain ⟨W, hW, sx, hz, hk, hbb⟩ := p43.set (.string (Em.str wd)) (.string ⟨#[]⟩) (.string ⟨#[]⟩) (.int .i64 0) (.int .i64 t.pos) (.slice (some ⟨w3.heap.size, 0, none⟩) 1 1)
    obtain ⟨a0, a1, a2, a3, a4, a5, fz0, fz1, fz2, fz3, fz4, fz5⟩ := id p43
    clear F3 b3 h2 p42 bs2
    go_wp2_with fail
    obtain ⟨c0, c1, c2, c3, c4, c5, -⟩ := sx.alloc (.cells #[.string y0, .string y1, .string y2, .int .i64 ym, .int .i64 yp, .slice ya yl yc] 24)
    refine bodyPost_ret (v := .agg #[.string (Em.str wd), .string ⟨#[]⟩, .string ⟨#[]⟩, .int .i64 0, .int .i64 t.pos, .slice (some ⟨w3.heap.size, 0, none⟩) 1 1]) (by simp [results, Tryd.results88, go_sem, c0, c1, c2, c3, c4, c5]) rfl ?_
    refine ⟨_, nd wd t.pos [n3], s3, rfl, ndb_mono (ndp_one (op := wd) (nm := []) (ar := []) (ndb_set d3 (by omega) hz hk) (Below.refl _ _) hz.symm (by show _ ≤ _; omega) HTY.out txt_nil txt_nil hpos) (by omega), (h3.set hz hk (by omega) (by omega)).alloc _, (hbb pb w bs3 (Nat.le_refl _)).alloc _, ?_⟩
    show Fits (appS C (t :: r)) _ _
    rw [app_one HT.out.1 HT.out.2.2, HT.out.2.1]
    exact fits_bnd HF3.out fits_ok
  have n4 := hwo
  rw [decide_eq_false hwo] at q4
  clear hwo
  by_cases hwo : wd = [116, 97, 103]
  · rw [decide_eq_true hwo] at q5
    clear q6 q7 q8 q9
    obtain ⟨t, r, rfl, h4, ht⟩ := wordS_ok (s := s) (by rw [HWD.out, hwo]; decide)
    have HK : Hid (t.kind ≠ 5) := by rw [Hid, h4]; decide
    have HT : Hid (t.kind = 4 ∧ t.text = wd ∧ t.text ∈ ones) := ⟨h4, by rw [ht, HWD.out], by rw [ht, HWD.out, hwo]; decide⟩
    have hpos : t.pos ≤ 140737488351232 := HH.out.1.now.2.2.1
    clear h4 ht hwo hwd
    go_enter Tryd.func88, Tryd.ntmps88
    go_wp2_with fail
    refine (qword_any pb tb d _ _ (HH.out.alloc _).1).mono ?_
    rintro e w1 ⟨rfl, hb1⟩
    rw [HWD.out]
    have h1 := (HH.out.alloc _).below hb1
    have p4 := z4.below hb1
    have bs1 : Bes pb w w1 := ((Bes.refl pb w).alloc _).trans (Bes.of hb1)
    clear hb1 z4
    go_wp2_with fail
    refine (qnext_any pb tb d t r _ h1 HK.out).mono ?_
    rintro e w2 ⟨rfl, h2, b2⟩
    simp only [Em6.tokV]
    have f3 := fld3 t.kind (Em.str t.text) t.num t.pos
    have p42 := p4.bes b2 (by omega)
    have bs2 := bs1.trans b2
    have g2 := p42.lt
    clear h1 p4 bs1 b2
    go_wp2_with fail
    refine (HC.out (.ok r) _ pb tb h2).mono ?_
    rintro e w3 ⟨v3, n3, s3, rfl, d3, h3, b3, F3⟩
    obtain ⟨y0, y1, y2, ym, yp, ya, yl, yc, rfl⟩ := ndb_shape d3
    have p43 := p42.bes b3 (by omega)
    have bs3 := bs2.trans b3
    have g3 := p43.lt
    have hs3 := b3.size
    have HF3 : Hid (Fits (thn (.ok r) C) n3 s3) := F3
    obtain ⟨W, hW, sx, hz, hk, hbb⟩ := p43.set (.string (Em.str wd)) (.string ⟨#[]⟩) (.string ⟨#[]⟩) (.int .i64 0) (.int .i64 t.pos) (.slice (some ⟨w3.heap.size, 0, none⟩) 1 1)
    obtain ⟨a0, a1, a2, a3, a4, a5, fz0, fz1, fz2, fz3, fz4, fz5⟩ := id p43
    clear F3 b3 h2 p42 bs2
    go_wp2_with fail
    obtain ⟨c0, c1, c2, c3, c4, c5, -⟩ := sx.alloc (.cells #[.string y0, .string y1, .string y2, .int .i64 ym, .int .i64 yp, .slice ya yl yc] 24)
    refine bodyPost_ret (v := .agg #[.string (Em.str wd), .string ⟨#[]⟩, .string ⟨#[]⟩, .int .i64 0, .int .i64 t.pos, .slice (some ⟨w3.heap.size, 0, none⟩) 1 1]) (by simp [results, Tryd.results88, go_sem, c0, c1, c2, c3, c4, c5]) rfl ?_
    refine ⟨_, nd wd t.pos [n3], s3, rfl, ndb_mono (ndp_one (op := wd) (nm := []) (ar := []) (ndb_set d3 (by omega) hz hk) (Below.refl _ _) hz.symm (by show _ ≤ _; omega) HTY.out txt_nil txt_nil hpos) (by omega), (h3.set hz hk (by omega) (by omega)).alloc _, (hbb pb w bs3 (Nat.le_refl _)).alloc _, ?_⟩
    show Fits (appS C (t :: r)) _ _
    rw [app_one HT.out.1 HT.out.2.2, HT.out.2.1]
    exact fits_bnd HF3.out fits_ok
  have n5 := hwo
  rw [decide_eq_false hwo] at q5
  clear hwo
  by_cases hwo : wd = [108, 105, 110, 107, 115]
  · rw [decide_eq_true hwo] at q6
    clear q7 q8 q9
    obtain ⟨t, r, rfl, h4, ht⟩ := wordS_ok (s := s) (by rw [HWD.out, hwo]; decide)
    have HK : Hid (t.kind ≠ 5) := by rw [Hid, h4]; decide
    have HT : Hid (t.kind = 4 ∧ t.text = wd ∧ t.text ∈ ones) := ⟨h4, by rw [ht, HWD.out], by rw [ht, HWD.out, hwo]; decide⟩
    have hpos : t.pos ≤ 140737488351232 := HH.out.1.now.2.2.1
    clear h4 ht hwo hwd
    go_enter Tryd.func88, Tryd.ntmps88
    go_wp2_with fail
    refine (qword_any pb tb d _ _ (HH.out.alloc _).1).mono ?_
    rintro e w1 ⟨rfl, hb1⟩
    rw [HWD.out]
    have h1 := (HH.out.alloc _).below hb1
    have p4 := z4.below hb1
    have bs1 : Bes pb w w1 := ((Bes.refl pb w).alloc _).trans (Bes.of hb1)
    clear hb1 z4
    go_wp2_with fail
    refine (qnext_any pb tb d t r _ h1 HK.out).mono ?_
    rintro e w2 ⟨rfl, h2, b2⟩
    simp only [Em6.tokV]
    have f3 := fld3 t.kind (Em.str t.text) t.num t.pos
    have p42 := p4.bes b2 (by omega)
    have bs2 := bs1.trans b2
    have g2 := p42.lt
    clear h1 p4 bs1 b2
    go_wp2_with fail
    refine (HC.out (.ok r) _ pb tb h2).mono ?_
    rintro e w3 ⟨v3, n3, s3, rfl, d3, h3, b3, F3⟩
    obtain ⟨y0, y1, y2, ym, yp, ya, yl, yc, rfl⟩ := ndb_shape d3
    have p43 := p42.bes b3 (by omega)
    have bs3 := bs2.trans b3
    have g3 := p43.lt
    have hs3 := b3.size
    have HF3 : Hid (Fits (thn (.ok r) C) n3 s3) := F3
    obtain ⟨W, hW, sx, hz, hk, hbb⟩ := p43.set (.string (Em.str wd)) (.string ⟨#[]⟩) (.string ⟨#[]⟩) (.int .i64 0) (.int .i64 t.pos) (.slice (some ⟨w3.heap.size, 0, none⟩) 1 1)
    obtain ⟨a0, a1, a2, a3, a4, a5, fz0, fz1, fz2, fz3, fz4, fz5⟩ := id p43
    clear F3 b3 h2 p42 bs2
    go_wp2_with fail
    obtain ⟨c0, c1, c2, c3, c4, c5, -⟩ := sx.alloc (.cells #[.string y0, .string y1, .string y2, .int .i64 ym, .int .i64 yp, .slice ya yl yc] 24)
    refine bodyPost_ret (v := .agg #[.string (Em.str wd), .string ⟨#[]⟩, .string ⟨#[]⟩, .int .i64 0, .int .i64 t.pos, .slice (some ⟨w3.heap.size, 0, none⟩) 1 1]) (by simp [results, Tryd.results88, go_sem, c0, c1, c2, c3, c4, c5]) rfl ?_
    refine ⟨_, nd wd t.pos [n3], s3, rfl, ndb_mono (ndp_one (op := wd) (nm := []) (ar := []) (ndb_set d3 (by omega) hz hk) (Below.refl _ _) hz.symm (by show _ ≤ _; omega) HTY.out txt_nil txt_nil hpos) (by omega), (h3.set hz hk (by omega) (by omega)).alloc _, (hbb pb w bs3 (Nat.le_refl _)).alloc _, ?_⟩
    show Fits (appS C (t :: r)) _ _
    rw [app_one HT.out.1 HT.out.2.2, HT.out.2.1]
    exact fits_bnd HF3.out fits_ok
  have n6 := hwo
  rw [decide_eq_false hwo] at q6
  clear hwo
  by_cases hwo : wd = [115, 105, 122, 101]
  · rw [decide_eq_true hwo] at q7
    clear q8 q9
    obtain ⟨t, r, rfl, h4, ht⟩ := wordS_ok (s := s) (by rw [HWD.out, hwo]; decide)
    have HK : Hid (t.kind ≠ 5) := by rw [Hid, h4]; decide
    have HT : Hid (t.kind = 4 ∧ t.text = wd ∧ t.text ∈ ones) := ⟨h4, by rw [ht, HWD.out], by rw [ht, HWD.out, hwo]; decide⟩
    have hpos : t.pos ≤ 140737488351232 := HH.out.1.now.2.2.1
    clear h4 ht hwo hwd
    go_enter Tryd.func88, Tryd.ntmps88
    go_wp2_with fail
    refine (qword_any pb tb d _ _ (HH.out.alloc _).1).mono ?_
    rintro e w1 ⟨rfl, hb1⟩
    rw [HWD.out]
    have h1 := (HH.out.alloc _).below hb1
    have p4 := z4.below hb1
    have bs1 : Bes pb w w1 := ((Bes.refl pb w).alloc _).trans (Bes.of hb1)
    clear hb1 z4
    go_wp2_with fail
    refine (qnext_any pb tb d t r _ h1 HK.out).mono ?_
    rintro e w2 ⟨rfl, h2, b2⟩
    simp only [Em6.tokV]
    have f3 := fld3 t.kind (Em.str t.text) t.num t.pos
    have p42 := p4.bes b2 (by omega)
    have bs2 := bs1.trans b2
    have g2 := p42.lt
    clear h1 p4 bs1 b2
    go_wp2_with fail
    refine (HC.out (.ok r) _ pb tb h2).mono ?_
    rintro e w3 ⟨v3, n3, s3, rfl, d3, h3, b3, F3⟩
    obtain ⟨y0, y1, y2, ym, yp, ya, yl, yc, rfl⟩ := ndb_shape d3
    have p43 := p42.bes b3 (by omega)
    have bs3 := bs2.trans b3
    have g3 := p43.lt
    have hs3 := b3.size
    have HF3 : Hid (Fits (thn (.ok r) C) n3 s3) := F3
    obtain ⟨W, hW, sx, hz, hk, hbb⟩ := p43.set (.string (Em.str wd)) (.string ⟨#[]⟩) (.string ⟨#[]⟩) (.int .i64 0) (.int .i64 t.pos) (.slice (some ⟨w3.heap.size, 0, none⟩) 1 1)
    obtain ⟨a0, a1, a2, a3, a4, a5, fz0, fz1, fz2, fz3, fz4, fz5⟩ := id p43
    clear F3 b3 h2 p42 bs2
    go_wp2_with fail
    obtain ⟨c0, c1, c2, c3, c4, c5, -⟩ := sx.alloc (.cells #[.string y0, .string y1, .string y2, .int .i64 ym, .int .i64 yp, .slice ya yl yc] 24)
    refine bodyPost_ret (v := .agg #[.string (Em.str wd), .string ⟨#[]⟩, .string ⟨#[]⟩, .int .i64 0, .int .i64 t.pos, .slice (some ⟨w3.heap.size, 0, none⟩) 1 1]) (by simp [results, Tryd.results88, go_sem, c0, c1, c2, c3, c4, c5]) rfl ?_
    refine ⟨_, nd wd t.pos [n3], s3, rfl, ndb_mono (ndp_one (op := wd) (nm := []) (ar := []) (ndb_set d3 (by omega) hz hk) (Below.refl _ _) hz.symm (by show _ ≤ _; omega) HTY.out txt_nil txt_nil hpos) (by omega), (h3.set hz hk (by omega) (by omega)).alloc _, (hbb pb w bs3 (Nat.le_refl _)).alloc _, ?_⟩
    show Fits (appS C (t :: r)) _ _
    rw [app_one HT.out.1 HT.out.2.2, HT.out.2.1]
    exact fits_bnd HF3.out fits_ok
  have n7 := hwo
  rw [decide_eq_false hwo] at q7
  clear hwo
  by_cases hwo : wd = [112, 114, 105, 110, 116]
  · rw [decide_eq_true hwo] at q8
    clear q9
    obtain ⟨t, r, rfl, h4, ht⟩ := wordS_ok (s := s) (by rw [HWD.out, hwo]; decide)
    have HK : Hid (t.kind ≠ 5) := by rw [Hid, h4]; decide
    have HT : Hid (t.kind = 4 ∧ t.text = wd ∧ t.text ∈ ones) := ⟨h4, by rw [ht, HWD.out], by rw [ht, HWD.out, hwo]; decide⟩
    have hpos : t.pos ≤ 140737488351232 := HH.out.1.now.2.2.1
    clear h4 ht hwo hwd
    go_enter Tryd.func88, Tryd.ntmps88
    go_wp2_with fail
    refine (qword_any pb tb d _ _ (HH.out.alloc _).1).mono ?_
    rintro e w1 ⟨rfl, hb1⟩
    rw [HWD.out]
    have h1 := (HH.out.alloc _).below hb1
    have p4 := z4.below hb1
    have bs1 : Bes pb w w1 := ((Bes.refl pb w).alloc _).trans (Bes.of hb1)
    clear hb1 z4
    go_wp2_with fail
    refine (qnext_any pb tb d t r _ h1 HK.out).mono ?_
    rintro e w2 ⟨rfl, h2, b2⟩
    simp only [Em6.tokV]
    have f3 := fld3 t.kind (Em.str t.text) t.num t.pos
    have p42 := p4.bes b2 (by omega)
    have bs2 := bs1.trans b2
    have g2 := p42.lt
    clear h1 p4 bs1 b2
    go_wp2_with fail
    refine (HC.out (.ok r) _ pb tb h2).mono ?_
    rintro e w3 ⟨v3, n3, s3, rfl, d3, h3, b3, F3⟩
    obtain ⟨y0, y1, y2, ym, yp, ya, yl, yc, rfl⟩ := ndb_shape d3
    have p43 := p42.bes b3 (by omega)
    have bs3 := bs2.trans b3
    have g3 := p43.lt
    have hs3 := b3.size
    have HF3 : Hid (Fits (thn (.ok r) C) n3 s3) := F3
    obtain ⟨W, hW, sx, hz, hk, hbb⟩ := p43.set (.string (Em.str wd)) (.string ⟨#[]⟩) (.string ⟨#[]⟩) (.int .i64 0) (.int .i64 t.pos) (.slice (some ⟨w3.heap.size, 0, none⟩) 1 1)
    obtain ⟨a0, a1, a2, a3, a4, a5, fz0, fz1, fz2, fz3, fz4, fz5⟩ := id p43
    clear F3 b3 h2 p42 bs2
    go_wp2_with fail
    obtain ⟨c0, c1, c2, c3, c4, c5, -⟩ := sx.alloc (.cells #[.string y0, .string y1, .string y2, .int .i64 ym, .int .i64 yp, .slice ya yl yc] 24)
    refine bodyPost_ret (v := .agg #[.string (Em.str wd), .string ⟨#[]⟩, .string ⟨#[]⟩, .int .i64 0, .int .i64 t.pos, .slice (some ⟨w3.heap.size, 0, none⟩) 1 1]) (by simp [results, Tryd.results88, go_sem, c0, c1, c2, c3, c4, c5]) rfl ?_
    refine ⟨_, nd wd t.pos [n3], s3, rfl, ndb_mono (ndp_one (op := wd) (nm := []) (ar := []) (ndb_set d3 (by omega) hz hk) (Below.refl _ _) hz.symm (by show _ ≤ _; omega) HTY.out txt_nil txt_nil hpos) (by omega), (h3.set hz hk (by omega) (by omega)).alloc _, (hbb pb w bs3 (Nat.le_refl _)).alloc _, ?_⟩
    show Fits (appS C (t :: r)) _ _
    rw [app_one HT.out.1 HT.out.2.2, HT.out.2.1]
    exact fits_bnd HF3.out fits_ok
  have n8 := hwo
  rw [decide_eq_false hwo] at q8
  clear hwo
  by_cases hwo : wd = [108, 105, 110, 107]
  · rw [decide_eq_true hwo] at q9
    obtain ⟨t, r, rfl, h4, ht⟩ := wordS_ok (s := s) (by rw [HWD.out, hwo]; decide)
    have HK : Hid (t.kind ≠ 5) := by rw [Hid, h4]; decide
    have HT : Hid (t.kind = 4 ∧ t.text = wd ∧ wd = [108, 105, 110, 107]) := ⟨h4, by rw [ht, HWD.out], hwo⟩
    have hpos : t.pos ≤ 140737488351232 := HH.out.1.now.2.2.1
    clear h4 ht hwo hwd
    go_enter Tryd.func88, Tryd.ntmps88
    go_wp2_with fail
    refine (qword_any pb tb d _ _ (HH.out.alloc _).1).mono ?_
    rintro e w1 ⟨rfl, hb1⟩
    rw [HWD.out]
    have h1 := (HH.out.alloc _).below hb1
    have p4 := z4.below hb1
    have bs1 : Bes pb w w1 := ((Bes.refl pb w).alloc _).trans (Bes.of hb1)
    clear hb1 z4
    go_wp2_with fail
    refine (qnext_any pb tb d t r _ h1 HK.out).mono ?_
    rintro e w2 ⟨rfl, h2, b2⟩
    simp only [Em6.tokV]
    have f3 := fld3 t.kind (Em.str t.text) t.num t.pos
    have p42 := p4.bes b2 (by omega)
    have bs2 := bs1.trans b2
    have g2 := p42.lt
    clear h1 p4 bs1 b2
    go_wp2_with fail
    refine (HC.out (.ok r) _ pb tb h2).mono ?_
    rintro e w3 ⟨v3, n3, s3, rfl, d3, h3, b3, F3⟩
    obtain ⟨x0, x1, x2, xm, xp, xa, xl, xc, rfl⟩ := ndb_shape d3
    have p43 := p42.bes b3 (by omega)
    have bs3 := bs2.trans b3
    have g3 := p43.lt
    have hs3 := b3.size
    have HF3 : Hid (Fits (thn (.ok r) C) n3 s3) := F3
    clear F3 b3 h2 p42 bs2
    go_wp2_with fail
    refine (HC.out s3 _ pb tb h3).mono ?_
    rintro e w4 ⟨v4, n4, s4, rfl, d4, h4, b4, F4⟩
    obtain ⟨y0, y1, y2, ym, yp, ya, yl, yc, rfl⟩ := ndb_shape d4
    have p44 := p43.bes b4 (by omega)
    have bs4 := bs3.trans b4
    have g4 := p44.lt
    have hs4 := b4.size
    have d3' := ndb_bes d3 (by omega) b4
    have HF4 : Hid (Fits (thn s3 C) n4 s4) := F4
    obtain ⟨W, hW, sx, hz, hk, hbb⟩ := p44.set (.string (Em.str wd)) (.string ⟨#[]⟩) (.string ⟨#[]⟩) (.int .i64 0) (.int .i64 t.pos) (.slice (some ⟨w4.heap.size, 0, none⟩) 2 2)
    obtain ⟨a0, a1, a2, a3, a4, a5, fz0, fz1, fz2, fz3, fz4, fz5⟩ := id p44
    clear F4 b4 h3 p43 bs3 d3
    go_wp2_with fail
    obtain ⟨c0, c1, c2, c3, c4, c5, -⟩ := sx.alloc (.cells #[.string x0, .string x1, .string x2, .int .i64 xm, .int .i64 xp, .slice xa xl xc, .string y0, .string y1, .string y2, .int .i64 ym, .int .i64 yp, .slice ya yl yc] 24)
    refine bodyPost_ret (v := .agg #[.string (Em.str wd), .string ⟨#[]⟩, .string ⟨#[]⟩, .int .i64 0, .int .i64 t.pos, .slice (some ⟨w4.heap.size, 0, none⟩) 2 2]) (by simp [results, Tryd.results88, go_sem, c0, c1, c2, c3, c4, c5]) rfl ?_
    refine ⟨_, nd wd t.pos [n3, n4], s4, rfl, ndb_mono (ndp_two (op := wd) (nm := []) (ar := []) (ndb_set d3' (by omega) hz hk) (ndb_set (ndb_mono d4 hs3) (by omega) hz hk) (Below.refl _ _) hz.symm (by show _ ≤ _; omega) HTY.out txt_nil txt_nil hpos) (by omega), (h4.set hz hk (by omega) (by omega)).alloc _, (hbb pb w bs4 (Nat.le_refl _)).alloc _, ?_⟩
    show Fits (appS C (t :: r)) _ _
    rw [app_link HT.out.1 (HT.out.2.1.trans HT.out.2.2), HT.out.2.2]
    exact fits_bnd HF3.out (fits_thn HF4.out fits_ok)
  rw [decide_eq_false hwo] at q9
  exact HLP.out s (by rw [HWD.out]; exact ⟨by simp only [ones, List.mem_cons, List.not_mem_nil, or_false, not_or]; exact ⟨n0, n1, n2, n3, n4, n5, n6, n7, n8⟩, hwo⟩) w pb tb HH.out
end Go.Proofs.YtgojjknbingfpaaDoor

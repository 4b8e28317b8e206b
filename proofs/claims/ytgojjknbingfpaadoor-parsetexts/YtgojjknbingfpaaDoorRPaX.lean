/- What 'match' of the document's own parser answers. -/
import Derived.Test.YtgojjknbingfpaaDoorRPaL
namespace Go.Proofs.YtgojjknbingfpaaDoor
open Go.RowKit Go.Em5 Go.Em6
set_option linter.unusedSimpArgs false

theorem held2 {w : World} {g k : Nat} {v0 v1 v2 v3 v4 v5 u0 u1 u2 u3 u4 u5 : Value} (h : Six w g v0 v1 v2 v3 v4 v5) (h' : Six w k u0 u1 u2 u3 u4 u5) : w.cell? ⟨g, 0, none⟩ = some v0 ∧ w.cell? ⟨g, 1, none⟩ = some v1 ∧ w.cell? ⟨g, 2, none⟩ = some v2 ∧ w.cell? ⟨g, 3, none⟩ = some v3 ∧ w.cell? ⟨g, 4, none⟩ = some v4 ∧ w.cell? ⟨g, 5, none⟩ = some v5 ∧ w.cell? ⟨k, 0, none⟩ = some u0 ∧ w.cell? ⟨k, 1, none⟩ = some u1 ∧ w.cell? ⟨k, 2, none⟩ = some u2 ∧ w.cell? ⟨k, 3, none⟩ = some u3 ∧ w.cell? ⟨k, 4, none⟩ = some u4 ∧ w.cell? ⟨k, 5, none⟩ = some u5 := ⟨h.c0, h.c1, h.c2, h.c3, h.c4, h.c5, h'.c0, h'.c1, h'.c2, h'.c3, h'.c4, h'.c5⟩

set_option maxRecDepth 100000 in
set_option maxHeartbeats 8000000 in
theorem pmatch_does (d : Nat) (hd : d ≤ 40) (C : List Em4.Tok → R) (hC : Does 20 (d + 1) C) : ∀ (w : World) (pb tb : Nat) (s : St) (p : Nat), IsSt w pb tb s → p ≤ 140737488351232 → Calls Tryd.prog 42 #[PP pb, .int .i64 d, .int .i64 p] w (Post (matchS C p) pb tb s w) := by
  intro w pb tb s p h hpos
  have HH : Hid (IsSt w pb tb s) := h
  have HC : Hid (Does 20 (d + 1) C) := hC
  obtain ⟨hlp, hlt, hne⟩ := h.lt
  clear h hC
  have HD1 : Hid (((d : Int) + 1) = ((d + 1 : Nat) : Int)) := by rw [Hid]; omega
  have HDW : Hid (IntKind.i64.wrap ((d : Int) + 1) = ((d + 1 : Nat) : Int)) := by rw [Hid, IntKind.wrap_i64]; omega
  go_enter Tryd.func42, Tryd.ntmps42
  go_wp2_with fail
  have z4 := Six.made w (.string ⟨#[]⟩) (.string ⟨#[]⟩) (.string ⟨#[]⟩) (.int .i64 0) (.int .i64 0) (.slice none 0 0) 24
  rw [HD1.out]
  refine (HC.out _ pb tb s (HH.out.alloc _)).mono ?_
  rintro e wA ⟨vA, nA, sA, rfl, dA, hA, bA, FA⟩
  obtain ⟨r0, r1, r2, rm, rp, ra, rl, rc, rfl⟩ := ndb_shape dA
  have HFA : Hid (Fits (thn s C) nA sA) := FA
  have q4z := z4.bes bA (by omega)
  have hgA : w.heap.size < wA.heap.size := q4z.lt
  have q41 := q4z.alloc (.cells #[.string r0, .string r1, .string r2, .int .i64 rm, .int .i64 rp, .slice ra rl rc] 24)
  have qA1 := Six.made wA (.string r0) (.string r1) (.string r2) (.int .i64 rm) (.int .i64 rp) (.slice ra rl rc) 24
  have bs1 := (((Bes.refl pb w).alloc _).trans bA).alloc (.cells #[.string r0, .string r1, .string r2, .int .i64 rm, .int .i64 rp, .slice ra rl rc] 24)
  have h1 := hA.alloc (.cells #[.string r0, .string r1, .string r2, .int .i64 rm, .int .i64 rp, .slice ra rl rc] 24)
  have dA1 : NdB (w.heap.size + 1) _ nA _ := ndb_below (by simpa using dA) ((Below.refl _ _).alloc (Nat.le_refl _) (.cells #[.string r0, .string r1, .string r2, .int .i64 rm, .int .i64 rp, .slice ra rl rc] 24))
  clear z4 q4z FA dA hA bA
  go_wp2_with fail
  refine (pneed_any pb tb sA [119, 105, 116, 104] _ h1 (by decide)).mono ?_
  rintro e w2 ⟨rfl, h2, b2⟩
  obtain ⟨s2, hsd⟩ : ∃ x, x = needS [119, 105, 116, 104] sA := ⟨_, rfl⟩
  rw [← hsd] at h2
  have HNE2 : Hid (needS [119, 105, 116, 104] sA = s2) := hsd.symm
  clear hsd
  have bs2 := bs1.trans b2
  have q42 := q41.bes b2 (by omega)
  have qA2 := qA1.bes b2 (by omega)
  have dA2 := ndb_bes dA1 (by omega) b2
  clear h1 bs1 b2 q41 qA1 dA1
  go_wp2_with fail
  refine (pneed_any pb tb s2 [91] _ h2 (by decide)).mono ?_
  rintro e w3 ⟨rfl, h3, b3⟩
  obtain ⟨s3, hsd⟩ : ∃ x, x = needS [91] s2 := ⟨_, rfl⟩
  rw [← hsd] at h3
  have HNE3 : Hid (needS [91] s2 = s3) := hsd.symm
  clear hsd
  have bs3 := bs2.trans b3
  have q43 := q42.bes b3 (by omega)
  have qA3 := qA2.bes b3 (by omega)
  have dA3 := ndb_bes dA2 (by omega) b3
  clear h2 bs2 b3 q42 qA2 dA2
  go_wp2_with fail
  refine (pneed_any pb tb s3 [93] _ h3 (by decide)).mono ?_
  rintro e w3b ⟨rfl, h3b, b3b⟩
  obtain ⟨s3b, hsd⟩ : ∃ x, x = needS [93] s3 := ⟨_, rfl⟩
  rw [← hsd] at h3b
  have HNE3b : Hid (needS [93] s3 = s3b) := hsd.symm
  clear hsd
  have bs3b := bs3.trans b3b
  have q43b := q43.bes b3b (by omega)
  have qA3b := qA3.bes b3b (by omega)
  have dA3b := ndb_bes dA3 (by omega) b3b
  clear h3 bs3 b3b q43 qA3 dA3
  go_wp2_with fail
  refine (pneed_any pb tb s3b [45, 62] _ h3b (by decide)).mono ?_
  rintro e w4 ⟨rfl, h4, b4⟩
  obtain ⟨s4, hsd⟩ : ∃ x, x = needS [45, 62] s3b := ⟨_, rfl⟩
  rw [← hsd] at h4
  have HNE4 : Hid (needS [45, 62] s3b = s4) := hsd.symm
  clear hsd
  have bs4 := bs3b.trans b4
  have q44 := q43b.bes b4 (by omega)
  have qA4 := qA3b.bes b4 (by omega)
  have dA4 := ndb_bes dA3b (by omega) b4
  clear h3b bs3b b4 q43b qA3b dA3b
  go_wp2_with fail
  rw [HD1.out]
  refine (HC.out _ pb tb s4 h4).mono ?_
  rintro e w5 ⟨v5, n5, s5, rfl, d5, h5, b5, F5⟩
  obtain ⟨x0, x1, x2, xm, xp, xa, xl, xc, rfl⟩ := ndb_shape d5
  have hgA4 : wA.heap.size < w4.heap.size := qA4.lt
  have HF5 : Hid (Fits (thn s4 C) n5 s5) := F5
  have q46 := (q44.bes b5 (by omega)).alloc (.cells #[.string x0, .string x1, .string x2, .int .i64 xm, .int .i64 xp, .slice xa xl xc] 24)
  have qA6 := (qA4.bes b5 (by omega)).alloc (.cells #[.string x0, .string x1, .string x2, .int .i64 xm, .int .i64 xp, .slice xa xl xc] 24)
  have q56 := Six.made w5 (.string x0) (.string x1) (.string x2) (.int .i64 xm) (.int .i64 xp) (.slice xa xl xc) 24
  have bs6 := (bs4.trans b5).alloc (.cells #[.string x0, .string x1, .string x2, .int .i64 xm, .int .i64 xp, .slice xa xl xc] 24)
  have h6 := h5.alloc (.cells #[.string x0, .string x1, .string x2, .int .i64 xm, .int .i64 xp, .slice xa xl xc] 24)
  have dA6 := ndb_below (ndb_bes dA4 (by omega) b5) ((Below.refl _ _).alloc (Nat.le_refl _) (.cells #[.string x0, .string x1, .string x2, .int .i64 xm, .int .i64 xp, .slice xa xl xc] 24))
  have d6 : NdB (w.heap.size + 1) _ n5 _ := ndb_below (ndb_mono d5 (by omega)) ((Below.refl _ _).alloc (Nat.le_refl _) (.cells #[.string x0, .string x1, .string x2, .int .i64 xm, .int .i64 xp, .slice xa xl xc] 24))
  have hgA5 : wA.heap.size < w5.heap.size := Nat.lt_of_lt_of_le hgA4 b5.size
  clear F5 d5 h5 b5 h4 bs4 q44 qA4 dA4
  go_wp2_with fail
  refine (pneed_any pb tb s5 [124] _ h6 (by decide)).mono ?_
  rintro e w6a ⟨rfl, h6a, b6a⟩
  obtain ⟨s6, hsd⟩ : ∃ x, x = needS [124] s5 := ⟨_, rfl⟩
  rw [← hsd] at h6a
  have HNE6a : Hid (needS [124] s5 = s6) := hsd.symm
  clear hsd
  have bs6a := bs6.trans b6a
  have q46a := q46.bes b6a (by omega)
  have qA6a := qA6.bes b6a (by omega)
  have q56a := q56.bes b6a (by omega)
  have dA6a := ndb_bes dA6 (by omega) b6a
  have d6a := ndb_bes d6 (by omega) b6a
  clear h6 bs6 b6a q46 qA6 q56 dA6 d6
  go_wp2_with fail
  have hx6b := name_txt h6a
  refine (pname_any pb tb s6 _ h6a).mono ?_
  rintro e w6b ⟨rfl, h6b, b6b⟩
  obtain ⟨x, hxd⟩ : ∃ x, x = (nameS s6).1 := ⟨_, rfl⟩
  obtain ⟨s6b, hsd⟩ : ∃ x, x = (nameS s6).2 := ⟨_, rfl⟩
  rw [← hxd] at hx6b ⊢
  rw [← hsd] at h6b
  have HNM6b : Hid (nameS s6 = (x, s6b)) := by rw [hxd, hsd]; rfl
  clear hxd hsd
  have bs6b := bs6a.trans b6b
  have q46b := q46a.bes b6b (by omega)
  have qA6b := qA6a.bes b6b (by omega)
  have q56b := q56a.bes b6b (by omega)
  have dA6b := ndb_bes dA6a (by omega) b6b
  have d6b := ndb_bes d6a (by omega) b6b
  clear h6a bs6a b6b q46a qA6a q56a dA6a d6a
  go_wp2_with fail
  refine (pneed_any pb tb s6b [58, 58] _ h6b (by decide)).mono ?_
  rintro e w6c ⟨rfl, h6c, b6c⟩
  obtain ⟨s6c, hsd⟩ : ∃ x, x = needS [58, 58] s6b := ⟨_, rfl⟩
  rw [← hsd] at h6c
  have HNE6c : Hid (needS [58, 58] s6b = s6c) := hsd.symm
  clear hsd
  have bs6c := bs6b.trans b6c
  have q46c := q46b.bes b6c (by omega)
  have qA6c := qA6b.bes b6c (by omega)
  have q56c := q56b.bes b6c (by omega)
  have dA6c := ndb_bes dA6b (by omega) b6c
  have d6c := ndb_bes d6b (by omega) b6c
  clear h6b bs6b b6c q46b qA6b q56b dA6b d6b
  go_wp2_with fail
  have hx6d := name_txt h6c
  refine (pname_any pb tb s6c _ h6c).mono ?_
  rintro e w6d ⟨rfl, h6d, b6d⟩
  obtain ⟨y, hxd⟩ : ∃ x, x = (nameS s6c).1 := ⟨_, rfl⟩
  obtain ⟨s6d, hsd⟩ : ∃ x, x = (nameS s6c).2 := ⟨_, rfl⟩
  rw [← hxd] at hx6d ⊢
  rw [← hsd] at h6d
  have HNM6d : Hid (nameS s6c = (y, s6d)) := by rw [hxd, hsd]; rfl
  clear hxd hsd
  have bs6d := bs6c.trans b6d
  have q46d := q46c.bes b6d (by omega)
  have qA6d := qA6c.bes b6d (by omega)
  have q56d := q56c.bes b6d (by omega)
  have dA6d := ndb_bes dA6c (by omega) b6d
  have d6d := ndb_bes d6c (by omega) b6d
  clear h6c bs6c b6d q46c qA6c q56c dA6c d6c
  go_wp2_with fail
  refine (pneed_any pb tb s6d [45, 62] _ h6d (by decide)).mono ?_
  rintro e w7 ⟨rfl, h7, b7⟩
  obtain ⟨s7, hsd⟩ : ∃ x, x = needS [45, 62] s6d := ⟨_, rfl⟩
  rw [← hsd] at h7
  have HNE7 : Hid (needS [45, 62] s6d = s7) := hsd.symm
  clear hsd
  have bs7 := bs6d.trans b7
  have q47 := q46d.bes b7 (by omega)
  have qA7 := qA6d.bes b7 (by omega)
  have q57 := q56d.bes b7 (by omega)
  have dA7 := ndb_bes dA6d (by omega) b7
  have d7 := ndb_bes d6d (by omega) b7
  clear h6d bs6d b7 q46d qA6d q56d dA6d d6d
  have hg7 : w5.heap.size < w7.heap.size := q57.lt
  go_wp2_with fail
  go_region_held (fun w' => w'.cell? ⟨wA.heap.size, 0, none⟩ = some (.string r0) ∧ w'.cell? ⟨wA.heap.size, 1, none⟩ = some (.string r1) ∧ w'.cell? ⟨wA.heap.size, 2, none⟩ = some (.string r2) ∧ w'.cell? ⟨wA.heap.size, 3, none⟩ = some (.int .i64 rm) ∧ w'.cell? ⟨wA.heap.size, 4, none⟩ = some (.int .i64 rp) ∧ w'.cell? ⟨wA.heap.size, 5, none⟩ = some (.slice ra rl rc) ∧ w'.cell? ⟨w5.heap.size, 0, none⟩ = some (.string x0) ∧ w'.cell? ⟨w5.heap.size, 1, none⟩ = some (.string x1) ∧ w'.cell? ⟨w5.heap.size, 2, none⟩ = some (.string x2) ∧ w'.cell? ⟨w5.heap.size, 3, none⟩ = some (.int .i64 xm) ∧ w'.cell? ⟨w5.heap.size, 4, none⟩ = some (.int .i64 xp) ∧ w'.cell? ⟨w5.heap.size, 5, none⟩ = some (.slice xa xl xc))
    (with_reducible (first | exact held2 v6a v6 | exact held2 (uA.alloc _) (u5.alloc _) | exact held2 uA u5 | exact held2 ((tA.alloc _).alloc _) ((t5.alloc _).alloc _) | exact held2 (tA.alloc _) (t5.alloc _) | exact held2 tA t5 | exact held2 (qA7.alloc _).drew (q57.alloc _).drew | exact held2 qA7.drew q57.drew))
    (first | (go_at_call 20; rw [HDW.out]; refine (HC.out _ pb tb (s7) (by with_reducible (first | exact h7.drew | exact (h7.alloc _).drew))).mono ?_; rintro e w8 ⟨v8, n8, s8, rfl, d8, h8, b8, F8⟩; obtain ⟨y0, y1, y2, ym, yp, ya, yl, yc, rfl⟩ := ndb_shape d8; have bX : Bes pb w7 w8 := (by with_reducible (first | exact ((Bes.refl _ _).drew).trans b8 | exact (((Bes.refl _ _).alloc _).drew).trans b8)); have t4 := q47.bes bX (by omega); have t5 := q57.bes bX (by omega); have tA := qA7.bes bX (by omega); have eA : NdB (w.heap.size + 1) w8 nA _ := ndb_bes dA7 (by omega) bX; have bs8 := bs7.trans bX; have e8 : NdB (w.heap.size + 1) w8 n5 _ := ndb_bes d7 (by omega) bX; have e8' : NdB (w.heap.size + 1) w8 n8 _ := ndb_mono d8 (by simp; omega); have HF8 : Hid (Fits (thn (s7) C) n8 s8) := F8; have hg8 : w7.heap.size ≤ w8.heap.size := bX.size; (try (have zd8 := (by with_reducible exact order2 d8); have z8 := order2b b8 (by omega); have hz8 := z8.lt; have zn5 := order2c d7 b8 (by omega); have znA := order2c dA7 b8 (by omega))); clear F8 d8 b8 bX) | (go_at_call 41; refine (pnode_any _ _ _ _ _ _).mono ?_; rintro e w9 ⟨rfl, hb9⟩; have bY : Below w8.heap.size w8 w9 := (by with_reducible (first | exact below2 hb9 | exact below1 hb9)); have u4 := t4.below bY; have u5 := t5.below bY; have uA := tA.below bY; have h9 := h8.below bY; have bs9 := bs8.trans (Bes.of bY); (first | (have z9 := (by with_reducible exact z8.below bY); obtain ⟨a0, a1, a2, a3, a4, a5, f0, f1, f2, f3', f4, f5⟩ := id z9; obtain ⟨W, hW, sx, hz, hk, hbb⟩ := z9.set (.string ⟨#[109, 97, 116, 99, 104]⟩) (.string (Em.str [])) (.string (Em.str [])) (.int .i64 0) (.int .i64 p) (.slice (some ⟨w8.heap.size, 0, none⟩) 3 3); have v6 : Six W w5.heap.size _ _ _ _ _ _ := u5.far hk (by omega); have v6a : Six W wA.heap.size _ _ _ _ _ _ := uA.far hk (by omega); have e9 : NdQ (w.heap.size + 1) (w7.heap.size) w9 (nd [109, 97, 116, 99, 104] p [nA, n5, n8]) (.agg #[.string (Em.str [109, 97, 116, 99, 104]), .string (Em.str []), .string (Em.str []), .int .i64 0, .int .i64 p, .slice (some ⟨w8.heap.size, 0, none⟩) 3 3]) := ndp_three (op := [109, 97, 116, 99, 104]) znA zn5 (ndq_of2 zd8 (by omega) (by omega)) (below5 hb9) rfl ⟨by omega, by omega⟩ ⟨by decide, by decide⟩ txt_nil txt_nil hpos; obtain ⟨gl, hgl⟩ : ∃ gl, gl = w7.heap.size := ⟨_, rfl⟩; have HG : Hid (w7.heap.size = gl) := hgl.symm; have LF : Hid (Leaf pb tb w s8 gl W [109, 97, 116, 99, 104] p [nA, n5, n8] (some ⟨w8.heap.size, 0, none⟩) 3 3) := (by rw [hgl]; exact leafOf sx hz hk hbb u4 h9 bs9 e9 (by omega) hlp hlt); clear hgl hz hk hbb e9 sx z9) | (have z9 := (by with_reducible exact sixA hb9); obtain ⟨a0, a1, a2, a3, a4, a5, f0, f1, f2, f3', f4, f5⟩ := id z9; obtain ⟨W, hW, sx, hz, hk, hbb⟩ := z9.set (.string ⟨#[109, 97, 116, 99, 104]⟩) (.string (Em.str [])) (.string (Em.str [])) (.int .i64 0) (.int .i64 p) (.slice (some ⟨w8.heap.size + 1, 0, none⟩) 3 3); have v6 : Six W w5.heap.size _ _ _ _ _ _ := u5.far hk (by omega); have v6a : Six W wA.heap.size _ _ _ _ _ _ := uA.far hk (by omega); have e9 : NdQ (w.heap.size + 1) (w8.heap.size) w9 (nd [109, 97, 116, 99, 104] p [nA, n5, n8]) (.agg #[.string (Em.str [109, 97, 116, 99, 104]), .string (Em.str []), .string (Em.str []), .int .i64 0, .int .i64 p, .slice (some ⟨w8.heap.size + 1, 0, none⟩) 3 3]) := ndp_three (op := [109, 97, 116, 99, 104]) (ndp_below (ndq_of eA (Nat.le_refl _)) ((Below.refl _ _).alloc (Nat.le_refl _) _)) (ndp_below (ndq_of e8 (Nat.le_refl _)) ((Below.refl _ _).alloc (Nat.le_refl _) _)) (ndp_below (ndq_of e8' (Nat.le_refl _)) ((Below.refl _ _).alloc (Nat.le_refl _) _)) (below4 hb9) (by simp) ⟨by simp; omega, by simp⟩ ⟨by decide, by decide⟩ txt_nil txt_nil hpos; obtain ⟨gl, hgl⟩ : ∃ gl, gl = w8.heap.size := ⟨_, rfl⟩; have HG : Hid (w8.heap.size = gl) := hgl.symm; have LF : Hid (Leaf pb tb w s8 gl W [109, 97, 116, 99, 104] p [nA, n5, n8] (some ⟨w8.heap.size + 1, 0, none⟩) 3 3) := (by rw [hgl]; exact leafOf sx hz hk hbb u4 h9 bs9 e9 (by omega) hlp hlt); clear hgl hz hk hbb e9 sx z9) | (have z9 := (by with_reducible exact sixB hb9); obtain ⟨a0, a1, a2, a3, a4, a5, f0, f1, f2, f3', f4, f5⟩ := id z9; obtain ⟨W, hW, sx, hz, hk, hbb⟩ := z9.set (.string ⟨#[109, 97, 116, 99, 104]⟩) (.string (Em.str [])) (.string (Em.str [])) (.int .i64 0) (.int .i64 p) (.slice (some ⟨w8.heap.size, 0, none⟩) 3 3); have v6 : Six W w5.heap.size _ _ _ _ _ _ := u5.far hk (by omega); have v6a : Six W wA.heap.size _ _ _ _ _ _ := uA.far hk (by omega); have e9 : NdQ (w.heap.size + 1) (w8.heap.size + 1) w9 (nd [109, 97, 116, 99, 104] p [nA, n5, n8]) (.agg #[.string (Em.str [109, 97, 116, 99, 104]), .string (Em.str []), .string (Em.str []), .int .i64 0, .int .i64 p, .slice (some ⟨w8.heap.size, 0, none⟩) 3 3]) := ndp_three (op := [109, 97, 116, 99, 104]) (ndq_of eA (by omega)) (ndq_of e8 (by omega)) (ndq_of e8' (by omega)) (below3 hb9) rfl ⟨by omega, by omega⟩ ⟨by decide, by decide⟩ txt_nil txt_nil hpos; obtain ⟨gl, hgl⟩ : ∃ gl, gl = w8.heap.size + 1 := ⟨_, rfl⟩; have HG : Hid (w8.heap.size + 1 = gl) := hgl.symm; have LF : Hid (Leaf pb tb w s8 gl W [109, 97, 116, 99, 104] p [nA, n5, n8] (some ⟨w8.heap.size, 0, none⟩) 3 3) := (by rw [hgl]; exact leafOf sx hz hk hbb u4 h9 bs9 e9 (by omega) hlp hlt); clear hgl hz hk hbb e9 sx z9) | (have e9 : NdB (w.heap.size + 1) w9 (nd [109, 97, 116, 99, 104] p [nA, n5, n8]) (.agg #[.string (Em.str [109, 97, 116, 99, 104]), .string (Em.str []), .string (Em.str []), .int .i64 0, .int .i64 p, .slice (some ⟨w8.heap.size, 0, none⟩) 3 3]) := ndp_three (op := [109, 97, 116, 99, 104]) eA e8 e8' (below5 hb9) rfl (by omega) ⟨by decide, by decide⟩ txt_nil txt_nil hpos))))
  all_goals
    (first | (have LF' : ∃ sa, Leaf pb tb w s8 gl W [109, 97, 116, 99, 104] p [nA, n5, n8] sa 3 3 := ⟨_, LF.out⟩; rw [HG.out]; clear hW LF HG a0 a1 a2 a3 a4 a5 f0 f1 f2 f3' f4 f5 v6 v6a) | (obtain ⟨W, hWd⟩ : ∃ W, W = w9.alloc (.cells #[.string ⟨#[109, 97, 116, 99, 104]⟩, .string (Em.str []), .string (Em.str []), .int .i64 0, .int .i64 p, .slice (some ⟨w8.heap.size, 0, none⟩) 3 3] 24) := ⟨_, rfl⟩; rw [← hWd]; obtain ⟨gl, hgl⟩ : ∃ gl, gl = w9.heap.size := ⟨_, rfl⟩; have LF' : ∃ sa, Leaf pb tb w s8 gl W [109, 97, 116, 99, 104] p [nA, n5, n8] sa 3 3 := ⟨_, (by rw [hgl, hWd]; exact ⟨Six.made w9 _ _ _ _ _ _ _, u4.alloc _, h9.alloc _, bs9.alloc _, ndp_below (ndq_of e9 (Nat.le_refl _)) ((Below.refl _ _).alloc (Nat.le_refl _) _), (by have := u5.lt; omega)⟩)⟩; rw [← hgl]; clear hWd hgl e9))
    obtain ⟨sa, LL⟩ := LF'
    have hgt := LL.gt
    obtain ⟨W3, hW3, sx3, hz3, hk3, hb3⟩ := Six.set2 LL.sx (.string (Em.str x)) (.string (Em.str y))
    have q43 := LL.q4.far hk3 (by omega)
    obtain ⟨W4, hW4, sx4, hz4, hk4, hb4⟩ := q43.set (.string (Em.str [109, 97, 116, 99, 104])) (.string (Em.str x)) (.string (Em.str y)) (.int .i64 0) (.int .i64 p) (.slice sa 3 3)
    obtain ⟨i0, i1, i2, i3, i4, i5, j0, j1, j2, j3, j4, j5⟩ := id LL.sx
    obtain ⟨k0, k1, k2, k3, k4, k5, -⟩ := id sx3
    obtain ⟨a0, a1, a2, a3, a4, a5, f0, f1, f2, f3', f4, f5⟩ := id q43
    obtain ⟨c0, c1, c2, c3, c4, c5, -⟩ := id sx4
    have HST : Hid (IsSt W4 pb tb s8) := (LL.st.set hz3 hk3 (by omega) (by omega)).set hz4 hk4 (by omega) (by omega)
    have HBS : Hid (Bes pb w W4) := hb4 pb w (hb3 pb w LL.bs (by omega)) (Nat.le_refl _)
    have HND : Hid (NdB w.heap.size W4 (.mk [109, 97, 116, 99, 104] x y 0 p [nA, n5, n8]) (.agg #[.string (Em.str [109, 97, 116, 99, 104]), .string (Em.str x), .string (Em.str y), .int .i64 0, .int .i64 p, .slice sa 3 3])) := ndb_mono (ndb_set (ndq_ndb (ndq_set (ndp_named LL.nd hx6b hx6d) hz3 hk3)) (by omega) hz4 hk4) (by omega)
    clear eA tA uA qA7 dA7 LL sx3 sx4 q43 hz3 hk3 hb3 hz4 hk4 hb4 h8 h9 u4 u5 t4 t5 bs8 bs9 e8 e8' hb9 bY q47 q57 bs7 d7 h7
    go_wp2_with fail
    refine bodyPost_ret (v := .agg #[.string (Em.str [109, 97, 116, 99, 104]), .string (Em.str x), .string (Em.str y), .int .i64 0, .int .i64 p, .slice sa 3 3]) (by simp [results, Tryd.results42, go_sem, c0, c1, c2, c3, c4, c5]) rfl ?_
    refine ⟨_, .mk [109, 97, 116, 99, 104] x y 0 p [nA, n5, n8], s8, rfl, HND.out, HST.out, HBS.out, ?_⟩
    unfold matchS
    refine fits_thn HFA.out ?_
    rw [thn_need, HNE2.out, thn_need, HNE3.out, thn_need, HNE3b.out, thn_need, HNE4.out]
    refine fits_thn HF5.out ?_
    rw [thn_need, HNE6a.out, thn_name, HNM6b.out]
    simp only
    rw [thn_need, HNE6c.out, thn_name, HNM6d.out]
    simp only
    rw [thn_need, HNE7.out]
    exact fits_thn HF8.out fits_ok
end Go.Proofs.YtgojjknbingfpaaDoor

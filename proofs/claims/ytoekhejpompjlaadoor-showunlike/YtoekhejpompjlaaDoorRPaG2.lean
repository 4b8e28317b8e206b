/- Several texts in one: RPaX, RPaE, RPaZ. -/
import Derived.Test.YtoekhejpompjlaaDoorRPaL
import Derived.Test.YtoekhejpompjlaaDoorRPaG1
import Derived.Test.YtoekhejpompjlaaDoorRPaM
import Derived.Test.YtoekhejpompjlaaDoorRPaA
import Derived.Test.YtoekhejpompjlaaDoorPureB
namespace Go.Proofs.YtoekhejpompjlaaDoor
open Go.RowKit Go.Em5 Go.Em6
set_option linter.unusedSimpArgs false

theorem held2 {w : World} {g k : Nat} {v0 v1 v2 v3 v4 v5 u0 u1 u2 u3 u4 u5 : Value} (h : Six w g v0 v1 v2 v3 v4 v5) (h' : Six w k u0 u1 u2 u3 u4 u5) : w.cell? ⟨g, 0, none⟩ = some v0 ∧ w.cell? ⟨g, 1, none⟩ = some v1 ∧ w.cell? ⟨g, 2, none⟩ = some v2 ∧ w.cell? ⟨g, 3, none⟩ = some v3 ∧ w.cell? ⟨g, 4, none⟩ = some v4 ∧ w.cell? ⟨g, 5, none⟩ = some v5 ∧ w.cell? ⟨k, 0, none⟩ = some u0 ∧ w.cell? ⟨k, 1, none⟩ = some u1 ∧ w.cell? ⟨k, 2, none⟩ = some u2 ∧ w.cell? ⟨k, 3, none⟩ = some u3 ∧ w.cell? ⟨k, 4, none⟩ = some u4 ∧ w.cell? ⟨k, 5, none⟩ = some u5 := ⟨h.c0, h.c1, h.c2, h.c3, h.c4, h.c5, h'.c0, h'.c1, h'.c2, h'.c3, h'.c4, h'.c5⟩

set_option maxRecDepth 100000 in
set_option maxHeartbeats 8000000 in
theorem pmatch_does (d : Nat) (hd : d ≤ 40) (C : List Em4.Tok → R) (hC : Does 22 (d + 1) C) : ∀ (w : World) (pb tb : Nat) (s : St) (p : Nat), IsSt w pb tb s → p ≤ 140737488351232 → Calls Tryd.prog 39 #[PP pb, .int .i64 d, .int .i64 p] w (Post (matchS C p) pb tb s w) := by
  intro w pb tb s p h hpos
  have HH : Hid (IsSt w pb tb s) := h
  have HC : Hid (Does 22 (d + 1) C) := hC
  obtain ⟨hlp, hlt, hne⟩ := h.lt
  clear h hC
  have HD1 : Hid (((d : Int) + 1) = ((d + 1 : Nat) : Int)) := by rw [Hid]; omega
  have HDW : Hid (IntKind.i64.wrap ((d : Int) + 1) = ((d + 1 : Nat) : Int)) := by rw [Hid, IntKind.wrap_i64]; omega
  go_enter Tryd.func39, Tryd.ntmps39
  go_wp2_with fail
  have z4 := Six.made w (.string ⟨#[]⟩) (.string ⟨#[]⟩) (.string ⟨#[]⟩) (.int .i64 0) (.int .i64 0) (.slice none 0 0) 24
  rw [HD1.out]
  refine (HC.out _ pb tb s (HH.out.alloc _)).mono ?_
  rintro e wA ⟨vA, nA, sA, rfl, dA, hA, bA, FA⟩
  obtain ⟨r0, r1, r2, rm, rp, ra, rl, rc, rfl⟩ := ndb_shape dA
  have HFA : Hid (Fits (thn s C) nA sA) := FA
  have q4z := z4.bes bA (by omega)
  have hgA : w.heap.size < wA.heap.size := q4z.lt
  have q41 := q4z.alloc (.cells #[.string r0, .string r1, .string r2, .int .i64 rm, .int .i64 rp, .slice ra rl rc] 24)
  have qA1 := Six.made wA (.string r0) (.string r1) (.string r2) (.int .i64 rm) (.int .i64 rp) (.slice ra rl rc) 24
  have bs1 := (((Bes.refl pb w).alloc _).trans bA).alloc (.cells #[.string r0, .string r1, .string r2, .int .i64 rm, .int .i64 rp, .slice ra rl rc] 24)
  have h1 := hA.alloc (.cells #[.string r0, .string r1, .string r2, .int .i64 rm, .int .i64 rp, .slice ra rl rc] 24)
  have dA1 : NdB (w.heap.size + 1) _ nA _ := ndb_below (by simpa using dA) ((Below.refl _ _).alloc (Nat.le_refl _) (.cells #[.string r0, .string r1, .string r2, .int .i64 rm, .int .i64 rp, .slice ra rl rc] 24))
  clear z4 q4z FA dA hA bA
  go_wp2_with fail
  refine (pneed_any pb tb sA [119, 105, 116, 104] _ h1 (by decide)).mono ?_
  rintro e w2 ⟨rfl, h2, b2⟩
  obtain ⟨s2, hsd⟩ : ∃ x, x = needS [119, 105, 116, 104] sA := ⟨_, rfl⟩
  rw [← hsd] at h2
  have HNE2 : Hid (needS [119, 105, 116, 104] sA = s2) := hsd.symm
  clear hsd
  have bs2 := bs1.trans b2
  have q42 := q41.bes b2 (by omega)
  have qA2 := qA1.bes b2 (by omega)
  have dA2 := ndb_bes dA1 (by omega) b2
  clear h1 bs1 b2 q41 qA1 dA1
  go_wp2_with fail
  refine (pneed_any pb tb s2 [91] _ h2 (by decide)).mono ?_
  rintro e w3 ⟨rfl, h3, b3⟩
  obtain ⟨s3, hsd⟩ : ∃ x, x = needS [91] s2 := ⟨_, rfl⟩
  rw [← hsd] at h3
  have HNE3 : Hid (needS [91] s2 = s3) := hsd.symm
  clear hsd
  have bs3 := bs2.trans b3
  have q43 := q42.bes b3 (by omega)
  have qA3 := qA2.bes b3 (by omega)
  have dA3 := ndb_bes dA2 (by omega) b3
  clear h2 bs2 b3 q42 qA2 dA2
  go_wp2_with fail
  refine (pneed_any pb tb s3 [93] _ h3 (by decide)).mono ?_
  rintro e w3b ⟨rfl, h3b, b3b⟩
  obtain ⟨s3b, hsd⟩ : ∃ x, x = needS [93] s3 := ⟨_, rfl⟩
  rw [← hsd] at h3b
  have HNE3b : Hid (needS [93] s3 = s3b) := hsd.symm
  clear hsd
  have bs3b := bs3.trans b3b
  have q43b := q43.bes b3b (by omega)
  have qA3b := qA3.bes b3b (by omega)
  have dA3b := ndb_bes dA3 (by omega) b3b
  clear h3 bs3 b3b q43 qA3 dA3
  go_wp2_with fail
  refine (pneed_any pb tb s3b [45, 62] _ h3b (by decide)).mono ?_
  rintro e w4 ⟨rfl, h4, b4⟩
  obtain ⟨s4, hsd⟩ : ∃ x, x = needS [45, 62] s3b := ⟨_, rfl⟩
  rw [← hsd] at h4
  have HNE4 : Hid (needS [45, 62] s3b = s4) := hsd.symm
  clear hsd
  have bs4 := bs3b.trans b4
  have q44 := q43b.bes b4 (by omega)
  have qA4 := qA3b.bes b4 (by omega)
  have dA4 := ndb_bes dA3b (by omega) b4
  clear h3b bs3b b4 q43b qA3b dA3b
  go_wp2_with fail
  rw [HD1.out]
  refine (HC.out _ pb tb s4 h4).mono ?_
  rintro e w5 ⟨v5, n5, s5, rfl, d5, h5, b5, F5⟩
  obtain ⟨x0, x1, x2, xm, xp, xa, xl, xc, rfl⟩ := ndb_shape d5
  have hgA4 : wA.heap.size < w4.heap.size := qA4.lt
  have HF5 : Hid (Fits (thn s4 C) n5 s5) := F5
  have q46 := (q44.bes b5 (by omega)).alloc (.cells #[.string x0, .string x1, .string x2, .int .i64 xm, .int .i64 xp, .slice xa xl xc] 24)
  have qA6 := (qA4.bes b5 (by omega)).alloc (.cells #[.string x0, .string x1, .string x2, .int .i64 xm, .int .i64 xp, .slice xa xl xc] 24)
  have q56 := Six.made w5 (.string x0) (.string x1) (.string x2) (.int .i64 xm) (.int .i64 xp) (.slice xa xl xc) 24
  have bs6 := (bs4.trans b5).alloc (.cells #[.string x0, .string x1, .string x2, .int .i64 xm, .int .i64 xp, .slice xa xl xc] 24)
  have h6 := h5.alloc (.cells #[.string x0, .string x1, .string x2, .int .i64 xm, .int .i64 xp, .slice xa xl xc] 24)
  have dA6 := ndb_below (ndb_bes dA4 (by omega) b5) ((Below.refl _ _).alloc (Nat.le_refl _) (.cells #[.string x0, .string x1, .string x2, .int .i64 xm, .int .i64 xp, .slice xa xl xc] 24))
  have d6 : NdB (w.heap.size + 1) _ n5 _ := ndb_below (ndb_mono d5 (by omega)) ((Below.refl _ _).alloc (Nat.le_refl _) (.cells #[.string x0, .string x1, .string x2, .int .i64 xm, .int .i64 xp, .slice xa xl xc] 24))
  have hgA5 : wA.heap.size < w5.heap.size := Nat.lt_of_lt_of_le hgA4 b5.size
  clear F5 d5 h5 b5 h4 bs4 q44 qA4 dA4
  go_wp2_with fail
  refine (pneed_any pb tb s5 [124] _ h6 (by decide)).mono ?_
  rintro e w6a ⟨rfl, h6a, b6a⟩
  obtain ⟨s6, hsd⟩ : ∃ x, x = needS [124] s5 := ⟨_, rfl⟩
  rw [← hsd] at h6a
  have HNE6a : Hid (needS [124] s5 = s6) := hsd.symm
  clear hsd
  have bs6a := bs6.trans b6a
  have q46a := q46.bes b6a (by omega)
  have qA6a := qA6.bes b6a (by omega)
  have q56a := q56.bes b6a (by omega)
  have dA6a := ndb_bes dA6 (by omega) b6a
  have d6a := ndb_bes d6 (by omega) b6a
  clear h6 bs6 b6a q46 qA6 q56 dA6 d6
  go_wp2_with fail
  have hx6b := name_txt h6a
  refine (pname_any pb tb s6 _ h6a).mono ?_
  rintro e w6b ⟨rfl, h6b, b6b⟩
  obtain ⟨x, hxd⟩ : ∃ x, x = (nameS s6).1 := ⟨_, rfl⟩
  obtain ⟨s6b, hsd⟩ : ∃ x, x = (nameS s6).2 := ⟨_, rfl⟩
  rw [← hxd] at hx6b ⊢
  rw [← hsd] at h6b
  have HNM6b : Hid (nameS s6 = (x, s6b)) := by rw [hxd, hsd]; rfl
  clear hxd hsd
  have bs6b := bs6a.trans b6b
  have q46b := q46a.bes b6b (by omega)
  have qA6b := qA6a.bes b6b (by omega)
  have q56b := q56a.bes b6b (by omega)
  have dA6b := ndb_bes dA6a (by omega) b6b
  have d6b := ndb_bes d6a (by omega) b6b
  clear h6a bs6a b6b q46a qA6a q56a dA6a d6a
  go_wp2_with fail
  refine (pneed_any pb tb s6b [58, 58] _ h6b (by decide)).mono ?_
  rintro e w6c ⟨rfl, h6c, b6c⟩
  obtain ⟨s6c, hsd⟩ : ∃ x, x = needS [58, 58] s6b := ⟨_, rfl⟩
  rw [← hsd] at h6c
  have HNE6c : Hid (needS [58, 58] s6b = s6c) := hsd.symm
  clear hsd
  have bs6c := bs6b.trans b6c
  have q46c := q46b.bes b6c (by omega)
  have qA6c := qA6b.bes b6c (by omega)
  have q56c := q56b.bes b6c (by omega)
  have dA6c := ndb_bes dA6b (by omega) b6c
  have d6c := ndb_bes d6b (by omega) b6c
  clear h6b bs6b b6c q46b qA6b q56b dA6b d6b
  go_wp2_with fail
  have hx6d := name_txt h6c
  refine (pname_any pb tb s6c _ h6c).mono ?_
  rintro e w6d ⟨rfl, h6d, b6d⟩
  obtain ⟨y, hxd⟩ : ∃ x, x = (nameS s6c).1 := ⟨_, rfl⟩
  obtain ⟨s6d, hsd⟩ : ∃ x, x = (nameS s6c).2 := ⟨_, rfl⟩
  rw [← hxd] at hx6d ⊢
  rw [← hsd] at h6d
  have HNM6d : Hid (nameS s6c = (y, s6d)) := by rw [hxd, hsd]; rfl
  clear hxd hsd
  have bs6d := bs6c.trans b6d
  have q46d := q46c.bes b6d (by omega)
  have qA6d := qA6c.bes b6d (by omega)
  have q56d := q56c.bes b6d (by omega)
  have dA6d := ndb_bes dA6c (by omega) b6d
  have d6d := ndb_bes d6c (by omega) b6d
  clear h6c bs6c b6d q46c qA6c q56c dA6c d6c
  go_wp2_with fail
  refine (pneed_any pb tb s6d [45, 62] _ h6d (by decide)).mono ?_
  rintro e w7 ⟨rfl, h7, b7⟩
  obtain ⟨s7, hsd⟩ : ∃ x, x = needS [45, 62] s6d := ⟨_, rfl⟩
  rw [← hsd] at h7
  have HNE7 : Hid (needS [45, 62] s6d = s7) := hsd.symm
  clear hsd
  have bs7 := bs6d.trans b7
  have q47 := q46d.bes b7 (by omega)
  have qA7 := qA6d.bes b7 (by omega)
  have q57 := q56d.bes b7 (by omega)
  have dA7 := ndb_bes dA6d (by omega) b7
  have d7 := ndb_bes d6d (by omega) b7
  clear h6d bs6d b7 q46d qA6d q56d dA6d d6d
  have hg7 : w5.heap.size < w7.heap.size := q57.lt
  go_wp2_with fail
  go_region_held (fun w' => w'.cell? ⟨wA.heap.size, 0, none⟩ = some (.string r0) ∧ w'.cell? ⟨wA.heap.size, 1, none⟩ = some (.string r1) ∧ w'.cell? ⟨wA.heap.size, 2, none⟩ = some (.string r2) ∧ w'.cell? ⟨wA.heap.size, 3, none⟩ = some (.int .i64 rm) ∧ w'.cell? ⟨wA.heap.size, 4, none⟩ = some (.int .i64 rp) ∧ w'.cell? ⟨wA.heap.size, 5, none⟩ = some (.slice ra rl rc) ∧ w'.cell? ⟨w5.heap.size, 0, none⟩ = some (.string x0) ∧ w'.cell? ⟨w5.heap.size, 1, none⟩ = some (.string x1) ∧ w'.cell? ⟨w5.heap.size, 2, none⟩ = some (.string x2) ∧ w'.cell? ⟨w5.heap.size, 3, none⟩ = some (.int .i64 xm) ∧ w'.cell? ⟨w5.heap.size, 4, none⟩ = some (.int .i64 xp) ∧ w'.cell? ⟨w5.heap.size, 5, none⟩ = some (.slice xa xl xc))
    (with_reducible (first | exact held2 v6a v6 | exact held2 (uA.alloc _) (u5.alloc _) | exact held2 uA u5 | exact held2 ((tA.alloc _).alloc _) ((t5.alloc _).alloc _) | exact held2 (tA.alloc _) (t5.alloc _) | exact held2 tA t5 | exact held2 (qA7.alloc _).drew (q57.alloc _).drew | exact held2 qA7.drew q57.drew))
    (first | (go_at_call 22; rw [HDW.out]; refine (HC.out _ pb tb (s7) (by with_reducible (first | exact h7.drew | exact (h7.alloc _).drew))).mono ?_; rintro e w8 ⟨v8, n8, s8, rfl, d8, h8, b8, F8⟩; obtain ⟨y0, y1, y2, ym, yp, ya, yl, yc, rfl⟩ := ndb_shape d8; have bX : Bes pb w7 w8 := (by with_reducible (first | exact ((Bes.refl _ _).drew).trans b8 | exact (((Bes.refl _ _).alloc _).drew).trans b8)); have t4 := q47.bes bX (by omega); have t5 := q57.bes bX (by omega); have tA := qA7.bes bX (by omega); have eA : NdB (w.heap.size + 1) w8 nA _ := ndb_bes dA7 (by omega) bX; have bs8 := bs7.trans bX; have e8 : NdB (w.heap.size + 1) w8 n5 _ := ndb_bes d7 (by omega) bX; have e8' : NdB (w.heap.size + 1) w8 n8 _ := ndb_mono d8 (by simp; omega); have HF8 : Hid (Fits (thn (s7) C) n8 s8) := F8; have hg8 : w7.heap.size ≤ w8.heap.size := bX.size; (try (have zd8 := (by with_reducible exact order2 d8); have z8 := order2b b8 (by omega); have hz8 := z8.lt; have zn5 := order2c d7 b8 (by omega); have znA := order2c dA7 b8 (by omega))); clear F8 d8 b8 bX) | (go_at_call 38; refine (pnode_any _ _ _ _ _ _).mono ?_; rintro e w9 ⟨rfl, hb9⟩; have bY : Below w8.heap.size w8 w9 := (by with_reducible (first | exact below2 hb9 | exact below1 hb9)); have u4 := t4.below bY; have u5 := t5.below bY; have uA := tA.below bY; have h9 := h8.below bY; have bs9 := bs8.trans (Bes.of bY); (first | (have z9 := (by with_reducible exact z8.below bY); obtain ⟨a0, a1, a2, a3, a4, a5, f0, f1, f2, f3', f4, f5⟩ := id z9; obtain ⟨W, hW, sx, hz, hk, hbb⟩ := z9.set (.string ⟨#[109, 97, 116, 99, 104]⟩) (.string (Em.str [])) (.string (Em.str [])) (.int .i64 0) (.int .i64 p) (.slice (some ⟨w8.heap.size, 0, none⟩) 3 3); have v6 : Six W w5.heap.size _ _ _ _ _ _ := u5.far hk (by omega); have v6a : Six W wA.heap.size _ _ _ _ _ _ := uA.far hk (by omega); have e9 : NdQ (w.heap.size + 1) (w7.heap.size) w9 (nd [109, 97, 116, 99, 104] p [nA, n5, n8]) (.agg #[.string (Em.str [109, 97, 116, 99, 104]), .string (Em.str []), .string (Em.str []), .int .i64 0, .int .i64 p, .slice (some ⟨w8.heap.size, 0, none⟩) 3 3]) := ndp_three (op := [109, 97, 116, 99, 104]) znA zn5 (ndq_of2 zd8 (by omega) (by omega)) (below5 hb9) rfl ⟨by omega, by omega⟩ ⟨by decide, by decide⟩ txt_nil txt_nil hpos; obtain ⟨gl, hgl⟩ : ∃ gl, gl = w7.heap.size := ⟨_, rfl⟩; have HG : Hid (w7.heap.size = gl) := hgl.symm; have LF : Hid (Leaf pb tb w s8 gl W [109, 97, 116, 99, 104] p [nA, n5, n8] (some ⟨w8.heap.size, 0, none⟩) 3 3) := (by rw [hgl]; exact leafOf sx hz hk hbb u4 h9 bs9 e9 (by omega) hlp hlt); clear hgl hz hk hbb e9 sx z9) | (have z9 := (by with_reducible exact sixA hb9); obtain ⟨a0, a1, a2, a3, a4, a5, f0, f1, f2, f3', f4, f5⟩ := id z9; obtain ⟨W, hW, sx, hz, hk, hbb⟩ := z9.set (.string ⟨#[109, 97, 116, 99, 104]⟩) (.string (Em.str [])) (.string (Em.str [])) (.int .i64 0) (.int .i64 p) (.slice (some ⟨w8.heap.size + 1, 0, none⟩) 3 3); have v6 : Six W w5.heap.size _ _ _ _ _ _ := u5.far hk (by omega); have v6a : Six W wA.heap.size _ _ _ _ _ _ := uA.far hk (by omega); have e9 : NdQ (w.heap.size + 1) (w8.heap.size) w9 (nd [109, 97, 116, 99, 104] p [nA, n5, n8]) (.agg #[.string (Em.str [109, 97, 116, 99, 104]), .string (Em.str []), .string (Em.str []), .int .i64 0, .int .i64 p, .slice (some ⟨w8.heap.size + 1, 0, none⟩) 3 3]) := ndp_three (op := [109, 97, 116, 99, 104]) (ndp_below (ndq_of eA (Nat.le_refl _)) ((Below.refl _ _).alloc (Nat.le_refl _) _)) (ndp_below (ndq_of e8 (Nat.le_refl _)) ((Below.refl _ _).alloc (Nat.le_refl _) _)) (ndp_below (ndq_of e8' (Nat.le_refl _)) ((Below.refl _ _).alloc (Nat.le_refl _) _)) (below4 hb9) (by simp) ⟨by simp; omega, by simp⟩ ⟨by decide, by decide⟩ txt_nil txt_nil hpos; obtain ⟨gl, hgl⟩ : ∃ gl, gl = w8.heap.size := ⟨_, rfl⟩; have HG : Hid (w8.heap.size = gl) := hgl.symm; have LF : Hid (Leaf pb tb w s8 gl W [109, 97, 116, 99, 104] p [nA, n5, n8] (some ⟨w8.heap.size + 1, 0, none⟩) 3 3) := (by rw [hgl]; exact leafOf sx hz hk hbb u4 h9 bs9 e9 (by omega) hlp hlt); clear hgl hz hk hbb e9 sx z9) | (have z9 := (by with_reducible exact sixB hb9); obtain ⟨a0, a1, a2, a3, a4, a5, f0, f1, f2, f3', f4, f5⟩ := id z9; obtain ⟨W, hW, sx, hz, hk, hbb⟩ := z9.set (.string ⟨#[109, 97, 116, 99, 104]⟩) (.string (Em.str [])) (.string (Em.str [])) (.int .i64 0) (.int .i64 p) (.slice (some ⟨w8.heap.size, 0, none⟩) 3 3); have v6 : Six W w5.heap.size _ _ _ _ _ _ := u5.far hk (by omega); have v6a : Six W wA.heap.size _ _ _ _ _ _ := uA.far hk (by omega); have e9 : NdQ (w.heap.size + 1) (w8.heap.size + 1) w9 (nd [109, 97, 116, 99, 104] p [nA, n5, n8]) (.agg #[.string (Em.str [109, 97, 116, 99, 104]), .string (Em.str []), .string (Em.str []), .int .i64 0, .int .i64 p, .slice (some ⟨w8.heap.size, 0, none⟩) 3 3]) := ndp_three (op := [109, 97, 116, 99, 104]) (ndq_of eA (by omega)) (ndq_of e8 (by omega)) (ndq_of e8' (by omega)) (below3 hb9) rfl ⟨by omega, by omega⟩ ⟨by decide, by decide⟩ txt_nil txt_nil hpos; obtain ⟨gl, hgl⟩ : ∃ gl, gl = w8.heap.size + 1 := ⟨_, rfl⟩; have HG : Hid (w8.heap.size + 1 = gl) := hgl.symm; have LF : Hid (Leaf pb tb w s8 gl W [109, 97, 116, 99, 104] p [nA, n5, n8] (some ⟨w8.heap.size, 0, none⟩) 3 3) := (by rw [hgl]; exact leafOf sx hz hk hbb u4 h9 bs9 e9 (by omega) hlp hlt); clear hgl hz hk hbb e9 sx z9) | (have e9 : NdB (w.heap.size + 1) w9 (nd [109, 97, 116, 99, 104] p [nA, n5, n8]) (.agg #[.string (Em.str [109, 97, 116, 99, 104]), .string (Em.str []), .string (Em.str []), .int .i64 0, .int .i64 p, .slice (some ⟨w8.heap.size, 0, none⟩) 3 3]) := ndp_three (op := [109, 97, 116, 99, 104]) eA e8 e8' (below5 hb9) rfl (by omega) ⟨by decide, by decide⟩ txt_nil txt_nil hpos))))
  all_goals
    (first | (have LF' : ∃ sa, Leaf pb tb w s8 gl W [109, 97, 116, 99, 104] p [nA, n5, n8] sa 3 3 := ⟨_, LF.out⟩; rw [HG.out]; clear hW LF HG a0 a1 a2 a3 a4 a5 f0 f1 f2 f3' f4 f5 v6 v6a) | (obtain ⟨W, hWd⟩ : ∃ W, W = w9.alloc (.cells #[.string ⟨#[109, 97, 116, 99, 104]⟩, .string (Em.str []), .string (Em.str []), .int .i64 0, .int .i64 p, .slice (some ⟨w8.heap.size, 0, none⟩) 3 3] 24) := ⟨_, rfl⟩; rw [← hWd]; obtain ⟨gl, hgl⟩ : ∃ gl, gl = w9.heap.size := ⟨_, rfl⟩; have LF' : ∃ sa, Leaf pb tb w s8 gl W [109, 97, 116, 99, 104] p [nA, n5, n8] sa 3 3 := ⟨_, (by rw [hgl, hWd]; exact ⟨Six.made w9 _ _ _ _ _ _ _, u4.alloc _, h9.alloc _, bs9.alloc _, ndp_below (ndq_of e9 (Nat.le_refl _)) ((Below.refl _ _).alloc (Nat.le_refl _) _), (by have := u5.lt; omega)⟩)⟩; rw [← hgl]; clear hWd hgl e9))
    obtain ⟨sa, LL⟩ := LF'
    have hgt := LL.gt
    obtain ⟨W3, hW3, sx3, hz3, hk3, hb3⟩ := Six.set2 LL.sx (.string (Em.str x)) (.string (Em.str y))
    have q43 := LL.q4.far hk3 (by omega)
    obtain ⟨W4, hW4, sx4, hz4, hk4, hb4⟩ := q43.set (.string (Em.str [109, 97, 116, 99, 104])) (.string (Em.str x)) (.string (Em.str y)) (.int .i64 0) (.int .i64 p) (.slice sa 3 3)
    obtain ⟨i0, i1, i2, i3, i4, i5, j0, j1, j2, j3, j4, j5⟩ := id LL.sx
    obtain ⟨k0, k1, k2, k3, k4, k5, -⟩ := id sx3
    obtain ⟨a0, a1, a2, a3, a4, a5, f0, f1, f2, f3', f4, f5⟩ := id q43
    obtain ⟨c0, c1, c2, c3, c4, c5, -⟩ := id sx4
    have HST : Hid (IsSt W4 pb tb s8) := (LL.st.set hz3 hk3 (by omega) (by omega)).set hz4 hk4 (by omega) (by omega)
    have HBS : Hid (Bes pb w W4) := hb4 pb w (hb3 pb w LL.bs (by omega)) (Nat.le_refl _)
    have HND : Hid (NdB w.heap.size W4 (.mk [109, 97, 116, 99, 104] x y 0 p [nA, n5, n8]) (.agg #[.string (Em.str [109, 97, 116, 99, 104]), .string (Em.str x), .string (Em.str y), .int .i64 0, .int .i64 p, .slice sa 3 3])) := ndb_mono (ndb_set (ndq_ndb (ndq_set (ndp_named LL.nd hx6b hx6d) hz3 hk3)) (by omega) hz4 hk4) (by omega)
    clear eA tA uA qA7 dA7 LL sx3 sx4 q43 hz3 hk3 hb3 hz4 hk4 hb4 h8 h9 u4 u5 t4 t5 bs8 bs9 e8 e8' hb9 bY q47 q57 bs7 d7 h7
    go_wp2_with fail
    refine bodyPost_ret (v := .agg #[.string (Em.str [109, 97, 116, 99, 104]), .string (Em.str x), .string (Em.str y), .int .i64 0, .int .i64 p, .slice sa 3 3]) (by simp [results, Tryd.results39, go_sem, c0, c1, c2, c3, c4, c5]) rfl ?_
    refine ⟨_, .mk [109, 97, 116, 99, 104] x y 0 p [nA, n5, n8], s8, rfl, HND.out, HST.out, HBS.out, ?_⟩
    unfold matchS
    refine fits_thn HFA.out ?_
    rw [thn_need, HNE2.out, thn_need, HNE3.out, thn_need, HNE3b.out, thn_need, HNE4.out]
    refine fits_thn HF5.out ?_
    rw [thn_need, HNE6a.out, thn_name, HNM6b.out]
    simp only
    rw [thn_need, HNE6c.out, thn_name, HNM6d.out]
    simp only
    rw [thn_need, HNE7.out]
    exact fits_thn HF8.out fits_ok
end Go.Proofs.YtoekhejpompjlaaDoor

namespace Go.Proofs.YtoekhejpompjlaaDoor
open Go.RowKit Go.Em5 Go.Em6
set_option linter.unusedSimpArgs false

theorem fits_src {F : List Em4.Tok → R} {s : St} {n : Nd} {L : List Em4.Tok} (h : Fits (thn s F) n (.ok L)) : ∃ L0, s = .ok L0 := by
  cases s with
  | error e => simp [thn, bnd0, Fits] at h
  | ok L0 => exact ⟨L0, rfl⟩

set_option maxRecDepth 100000 in
set_option maxHeartbeats 16000000 in
theorem pexpr_does (d : Nat) (hd : d ≤ 40) (S C : List Em4.Tok → R) (hS : Does 40 d S) (hC : d < 40 → Does 22 (d + 1) C) : Does 22 d (fun L => if 40 ≤ d then .error (3, posL L) else exprS S C L) := by
  obtain ⟨G, hG⟩ : ∃ G : List Em4.Tok → R, G = fun L => if 40 ≤ d then .error (3, posL L) else exprS S C L := ⟨_, rfl⟩
  rw [← hG]
  have HGG : Hid (G = fun L => if 40 ≤ d then .error (3, posL L) else exprS S C L) := hG
  clear hG
  intro w pb tb s h
  have HH : Hid (IsSt w pb tb s) := h
  have HC : Hid (d < 40 → Does 22 (d + 1) C) := hC
  have HS : Hid (Does 40 d S) := hS
  obtain ⟨hlp, hlt, hne⟩ := h.lt
  clear h hC hS
  have HD1 : Hid (((d : Int) + 1) = ((d + 1 : Nat) : Int)) := by rw [Hid]; omega
  have HDW : Hid (IntKind.i64.wrap ((d : Int) + 1) = ((d + 1 : Nat) : Int)) := by rw [Hid, IntKind.wrap_i64]; omega
  go_enter Tryd.func22, Tryd.ntmps22
  go_wp2_with fail
  have z4 := Six.made w (.string ⟨#[]⟩) (.string ⟨#[]⟩) (.string ⟨#[]⟩) (.int .i64 0) (.int .i64 0) (.slice none 0 0) 24
  refine (pdeep_any pb tb s d _ (HH.out.alloc _) (by omega)).mono ?_
  rintro e w1 ⟨rfl, h1, b1⟩
  have p4 := z4.bes b1 (by omega)
  have bs1 : Bes pb w w1 := ((Bes.refl pb w).alloc _).trans b1
  clear z4 b1
  obtain ⟨s1, hs1⟩ : ∃ s1, s1 = deepS d s := ⟨_, rfl⟩
  rw [← hs1] at h1
  have HDL : Hid (∀ L, s1 = .ok L → d < 40) := fun L e => deep_lt (s := s) (by rw [← hs1]; exact e)
  have HFI : Hid (∀ n s', Fits (thn s1 (exprS S C)) n s' → Fits (thn s G) n s') := fun n s' hf => by rw [HGG.out]; exact deep_fits (by rw [← hs1]; exact hf)
  clear hs1
  go_wp2_with fail
  refine (pnow_any pb tb s1 _ h1).mono ?_
  rintro e w2 ⟨rfl, hb2⟩
  obtain ⟨t, htd⟩ : ∃ t, t = nowS s1 := ⟨_, rfl⟩
  have hpos : t.pos ≤ 140737488351232 := by rw [htd]; exact h1.now.2.2.1
  have HNW : Hid (nowS s1 = t) := htd.symm
  rw [← htd]
  clear htd
  simp only [Em6.tokV]
  have f3 := fld3 t.kind (Em.str t.text) t.num t.pos
  have h2 := h1.below hb2
  have q42 := p4.below hb2
  have bs2 : Bes pb w w2 := bs1.trans (Bes.of hb2)
  clear h1 p4 bs1 hb2
  go_wp2_with fail
  refine (peat_any pb tb s1 [108, 101, 116] _ h2 (by decide)).mono ?_
  rintro e w30 ⟨rfl, h30, b30⟩
  have q430 := q42.bes b30 (by omega)
  have bs30 := bs2.trans b30
  clear h2 q42 bs2 b30
  obtain ⟨q, hq⟩ : ∃ q, q = isWS [108, 101, 116] s1 := ⟨_, rfl⟩
  rw [← hq]
  cases q with
  | true =>
    obtain ⟨r, rfl⟩ : ∃ r, s1 = .ok (t :: r) := by
      obtain ⟨t', r', e, -⟩ := isWS_ok hq.symm
      have := HNW.out
      rw [e] at this
      exact ⟨r', by rw [e, ← this]; rfl⟩
    rw [eatS_t hq.symm] at h30
    have HQ : Hid (isW [108, 101, 116] (t :: r) = true) := hq.symm
    have hgq : w.heap.size < w30.heap.size := q430.lt
    have HCD := HC.out (HDL.out _ rfl)
    clear HC hq
    have HC : Hid (Does 22 (d + 1) C) := HCD
    clear HCD
    go_wp2_with fail
    refine (plet_does d hd C HC.out _ pb tb (.ok r) t.pos h30 hpos).mono ?_
    rintro e w9 ⟨v9, n9, s9, rfl, d9, h9, b9, F9⟩
    obtain ⟨y0, y1, y2, ym, yp, ya, yl, yc, rfl⟩ := ndb_shape d9
    have HF9 : Hid (Fits (thn (.ok r) (letS C t.pos)) n9 s9) := F9
    have u4 := q430.bes b9 (by omega)
    have bs9 := bs30.trans b9
    have d9' : NdB (w.heap.size + 1) w9 n9 _ := ndb_mono d9 (by omega)
    clear h30 q430 bs30 b9 F9 d9
    obtain ⟨a0, a1, a2, a3, a4, a5, f0, f1, f2, f3', f4, f5⟩ := id u4
    go_wp2_with fail
    obtain ⟨W, hW, sx, hz, hk, hbb⟩ := u4.set (.string y0) (.string y1) (.string y2) (.int .i64 ym) (.int .i64 yp) (.slice ya yl yc)
    rw [hW]
    obtain ⟨c0, c1, c2, c3, c4, c5, -⟩ := id sx
    refine bodyPost_ret (v := .agg #[.string y0, .string y1, .string y2, .int .i64 ym, .int .i64 yp, .slice ya yl yc]) (by simp [results, Tryd.results22, go_sem, c0, c1, c2, c3, c4, c5]) rfl ?_
    refine ⟨_, n9, s9, rfl, ndb_mono (ndb_set d9' (by omega) hz hk) (by omega), h9.set hz hk (by omega) (by omega), hbb pb w bs9 (Nat.le_refl _), ?_⟩
    refine HFI.out _ _ ?_
    show Fits (exprS S C (t :: r)) _ _
    unfold exprS
    rw [if_pos HQ.out]
    exact HF9.out
  | false =>
    rw [eatS_f hq.symm] at h30
    have HN0 : Hid (isWS [108, 101, 116] s1 = false) := hq.symm
    clear hq
    go_wp2_with fail
    refine (peat_any pb tb s1 [102, 117, 110] _ h30 (by decide)).mono ?_
    rintro e w31 ⟨rfl, h31, b31⟩
    have q431 := q430.bes b31 (by omega)
    have bs31 := bs30.trans b31
    clear h30 q430 bs30 b31
    obtain ⟨q, hq⟩ : ∃ q, q = isWS [102, 117, 110] s1 := ⟨_, rfl⟩
    rw [← hq]
    cases q with
    | true =>
      obtain ⟨r, rfl⟩ : ∃ r, s1 = .ok (t :: r) := by
        obtain ⟨t', r', e, -⟩ := isWS_ok hq.symm
        have := HNW.out
        rw [e] at this
        exact ⟨r', by rw [e, ← this]; rfl⟩
      rw [eatS_t hq.symm] at h31
      have HQ : Hid (isW [102, 117, 110] (t :: r) = true) := hq.symm
      have hgq : w.heap.size < w31.heap.size := q431.lt
      have HCD := HC.out (HDL.out _ rfl)
      clear HC hq
      have HC : Hid (Does 22 (d + 1) C) := HCD
      clear HCD
      go_wp2_with fail
      have hx32 := name_txt h31
      refine (pname_any pb tb (.ok r) _ h31).mono ?_
      rintro e w32 ⟨rfl, h32, b32⟩
      obtain ⟨x, hxd⟩ : ∃ x, x = (nameS (.ok r)).1 := ⟨_, rfl⟩
      obtain ⟨s2, hsd⟩ : ∃ x, x = (nameS (.ok r)).2 := ⟨_, rfl⟩
      rw [← hxd] at hx32 ⊢
      rw [← hsd] at h32
      have HNM32 : Hid (nameS (.ok r) = (x, s2)) := by rw [hxd, hsd]; rfl
      clear hxd hsd
      have bs32 := bs31.trans b32
      have q432 := q431.bes b32 (by omega)
      clear h31 bs31 b32 q431
      go_wp2_with fail
      refine (pneed_any pb tb s2 [45, 62] _ h32 (by decide)).mono ?_
      rintro e w33 ⟨rfl, h33, b33⟩
      obtain ⟨s3, hsd⟩ : ∃ x, x = needS [45, 62] s2 := ⟨_, rfl⟩
      rw [← hsd] at h33
      have HNE33 : Hid (needS [45, 62] s2 = s3) := hsd.symm
      clear hsd
      have bs33 := bs32.trans b33
      have q433 := q432.bes b33 (by omega)
      clear h32 bs32 b33 q432
      have hg33 := q433.lt
      go_wp2_with fail
      rw [HD1.out]
      refine (HC.out _ pb tb s3 h33).mono ?_
      rintro e w8 ⟨v8, n8, s8, rfl, d8, h8, b8, F8⟩
      obtain ⟨y0, y1, y2, ym, yp, ya, yl, yc, rfl⟩ := ndb_shape d8
      have HF8 : Hid (Fits (thn s3 C) n8 s8) := F8
      have t4 := q433.bes b8 (by omega)
      have bs8 := bs33.trans b8
      have e8 : NdB (w.heap.size + 1) w8 n8 _ := ndb_mono d8 (by omega)
      have hg8 : w33.heap.size ≤ w8.heap.size := b8.size
      clear h33 q433 bs33 b8 F8 d8
      go_wp2_with fail
      refine (pnode_any _ _ _ _ _ _).mono ?_
      rintro e w9 ⟨rfl, hb9⟩
      have bY : Below w8.heap.size w8 w9 := below1 hb9
      have u4 := t4.below bY
      have h9 := h8.below bY
      have bs9 := bs8.trans (Bes.of bY)
      have hg9 : w.heap.size < w9.heap.size := u4.lt
      have e9 : NdB (w.heap.size + 1) w9 (.mk [102, 117, 110] x [] 0 t.pos [n8]) (.agg #[.string (Em.str [102, 117, 110]), .string (Em.str x), .string (Em.str []), .int .i64 0, .int .i64 t.pos, .slice (some ⟨w8.heap.size, 0, none⟩) 1 1]) := ndp_named (ndp_one (op := [102, 117, 110]) (nm := []) (ar := []) e8 (below5 hb9) rfl (by omega) ⟨by decide, by decide⟩ txt_nil txt_nil hpos) hx32 txt_nil
      obtain ⟨a0, a1, a2, a3, a4, a5, f0, f1, f2, f3', f4, f5⟩ := id u4
      obtain ⟨W, hW, sx, hz, hk, hbb⟩ := u4.set (.string ⟨#[102, 117, 110]⟩) (.string (Em.str x)) (.string (Em.str [])) (.int .i64 0) (.int .i64 t.pos) (.slice (some ⟨w8.heap.size, 0, none⟩) 1 1)
      obtain ⟨c0, c1, c2, c3, c4, c5, -⟩ := id sx
      have hgW := sx.lt
      have HST : Hid (IsSt W pb tb s8) := h9.set hz hk (by omega) (by omega)
      have HBS : Hid (Bes pb w W) := hbb pb w bs9 (Nat.le_refl _)
      have HND : Hid (NdB w.heap.size W (.mk [102, 117, 110] x [] 0 t.pos [n8]) (.agg #[.string ⟨#[102, 117, 110]⟩, .string (Em.str x), .string (Em.str []), .int .i64 0, .int .i64 t.pos, .slice (some ⟨w8.heap.size, 0, none⟩) 1 1])) := ndb_mono (ndb_set e9 (by omega) hz hk) (by omega)
      clear hz hk hbb sx e9 h8 h9 t4 bs8 bs9 e8 hb9 bY
      go_wp2_with fail
      refine bodyPost_ret (v := .agg #[.string ⟨#[102, 117, 110]⟩, .string (Em.str x), .string (Em.str []), .int .i64 0, .int .i64 t.pos, .slice (some ⟨w8.heap.size, 0, none⟩) 1 1]) (by simp [results, Tryd.results22, go_sem, hW, hgW, c0, c1, c2, c3, c4, c5]) rfl ?_
      refine ⟨_, .mk [102, 117, 110] x [] 0 t.pos [n8], s8, rfl, ndb_below HND.out ((Below.refl _ _).alloc (Nat.le_refl _) _), HST.out.alloc _, HBS.out.alloc _, ?_⟩
      refine HFI.out _ _ ?_
      show Fits (exprS S C (t :: r)) _ _
      unfold exprS
      rw [if_neg (show ¬ isW [108, 101, 116] (t :: r) = true from fun h => by have h2 : isW [108, 101, 116] (t :: r) = false := HN0.out; rw [h2] at h; cases h)]
      rw [if_pos HQ.out]
      show Fits (thn (.ok r) fun L => bnd (name L) fun x L1 => bnd0 (need [45, 62] L1) fun L2 => bnd (C L2) fun a L3 => .ok (.mk [102, 117, 110] x [] 0 t.pos [a], L3)) _ _
      rw [thn_name, HNM32.out]
      simp only
      rw [thn_need, HNE33.out]
      exact fits_thn HF8.out fits_ok
    | false =>
      rw [eatS_f hq.symm] at h31
      have HN1 : Hid (isWS [102, 117, 110] s1 = false) := hq.symm
      clear hq
      go_wp2_with fail
      refine (peat_any pb tb s1 [105, 102] _ h31 (by decide)).mono ?_
      rintro e w34 ⟨rfl, h34, b34⟩
      have q434 := q431.bes b34 (by omega)
      have bs34 := bs31.trans b34
      clear h31 q431 bs31 b34
      obtain ⟨q, hq⟩ : ∃ q, q = isWS [105, 102] s1 := ⟨_, rfl⟩
      rw [← hq]
      cases q with
      | true =>
        obtain ⟨r, rfl⟩ : ∃ r, s1 = .ok (t :: r) := by
          obtain ⟨t', r', e, -⟩ := isWS_ok hq.symm
          have := HNW.out
          rw [e] at this
          exact ⟨r', by rw [e, ← this]; rfl⟩
        rw [eatS_t hq.symm] at h34
        have HQ : Hid (isW [105, 102] (t :: r) = true) := hq.symm
        have hgq : w.heap.size < w34.heap.size := q434.lt
        have HCD := HC.out (HDL.out _ rfl)
        clear HC hq
        have HC : Hid (Does 22 (d + 1) C) := HCD
        clear HCD
        go_wp2_with fail
        rw [HD1.out]
        refine (HC.out _ pb tb (.ok r) h34).mono ?_
        rintro e wA ⟨vA, nA, sA, rfl, dA, hA, bA, FA⟩
        obtain ⟨r0, r1, r2, rm, rp, ra, rl, rc, rfl⟩ := ndb_shape dA
        have HFA : Hid (Fits (thn (.ok r) C) nA sA) := FA
        have q4z := q434.bes bA (by omega)
        have hgA : w.heap.size < wA.heap.size := q4z.lt
        have q41 := q4z.alloc (.cells #[.string r0, .string r1, .string r2, .int .i64 rm, .int .i64 rp, .slice ra rl rc] 24)
        have qA1 := Six.made wA (.string r0) (.string r1) (.string r2) (.int .i64 rm) (.int .i64 rp) (.slice ra rl rc) 24
        have bs1 := (bs34.trans bA).alloc (.cells #[.string r0, .string r1, .string r2, .int .i64 rm, .int .i64 rp, .slice ra rl rc] 24)
        have h1 := hA.alloc (.cells #[.string r0, .string r1, .string r2, .int .i64 rm, .int .i64 rp, .slice ra rl rc] 24)
        have dA1 : NdB (w.heap.size + 1) _ nA _ := ndb_below (ndb_mono dA (by omega)) ((Below.refl _ _).alloc (Nat.le_refl _) (.cells #[.string r0, .string r1, .string r2, .int .i64 rm, .int .i64 rp, .slice ra rl rc] 24))
        clear q4z FA dA hA bA h34 q434 bs34
        go_wp2_with fail
        refine (pneed_any pb tb sA [116, 104, 101, 110] _ h1 (by decide)).mono ?_
        rintro e w4 ⟨rfl, h4, b4⟩
        obtain ⟨s4, hsd⟩ : ∃ x, x = needS [116, 104, 101, 110] sA := ⟨_, rfl⟩
        rw [← hsd] at h4
        have HNE4 : Hid (needS [116, 104, 101, 110] sA = s4) := hsd.symm
        clear hsd
        have bs4 := bs1.trans b4
        have q44 := q41.bes b4 (by omega)
        have qA4 := qA1.bes b4 (by omega)
        have dA4 := ndb_bes dA1 (by omega) b4
        clear h1 bs1 b4 q41 qA1 dA1
        go_wp2_with fail
        rw [HD1.out]
        refine (HC.out _ pb tb s4 h4).mono ?_
        rintro e w5 ⟨v5, n5, s5, rfl, d5, h5, b5, F5⟩
        obtain ⟨x0, x1, x2, xm, xp, xa, xl, xc, rfl⟩ := ndb_shape d5
        have hgA4 : wA.heap.size < w4.heap.size := qA4.lt
        have HF5 : Hid (Fits (thn s4 C) n5 s5) := F5
        have q46 := (q44.bes b5 (by omega)).alloc (.cells #[.string x0, .string x1, .string x2, .int .i64 xm, .int .i64 xp, .slice xa xl xc] 24)
        have qA6 := (qA4.bes b5 (by omega)).alloc (.cells #[.string x0, .string x1, .string x2, .int .i64 xm, .int .i64 xp, .slice xa xl xc] 24)
        have q56 := Six.made w5 (.string x0) (.string x1) (.string x2) (.int .i64 xm) (.int .i64 xp) (.slice xa xl xc) 24
        have bs6 := (bs4.trans b5).alloc (.cells #[.string x0, .string x1, .string x2, .int .i64 xm, .int .i64 xp, .slice xa xl xc] 24)
        have h6 := h5.alloc (.cells #[.string x0, .string x1, .string x2, .int .i64 xm, .int .i64 xp, .slice xa xl xc] 24)
        have dA6 := ndb_below (ndb_bes dA4 (by omega) b5) ((Below.refl _ _).alloc (Nat.le_refl _) (.cells #[.string x0, .string x1, .string x2, .int .i64 xm, .int .i64 xp, .slice xa xl xc] 24))
        have d6 : NdB (w.heap.size + 1) _ n5 _ := ndb_below (ndb_mono d5 (by omega)) ((Below.refl _ _).alloc (Nat.le_refl _) (.cells #[.string x0, .string x1, .string x2, .int .i64 xm, .int .i64 xp, .slice xa xl xc] 24))
        have hgA5 : wA.heap.size < w5.heap.size := Nat.lt_of_lt_of_le hgA4 b5.size
        clear F5 d5 h5 b5 h4 bs4 q44 qA4 dA4
        go_wp2_with fail
        refine (pneed_any pb tb s5 [101, 108, 115, 101] _ h6 (by decide)).mono ?_
        rintro e w7 ⟨rfl, h7, b7⟩
        obtain ⟨s7, hsd⟩ : ∃ x, x = needS [101, 108, 115, 101] s5 := ⟨_, rfl⟩
        rw [← hsd] at h7
        have HNE7 : Hid (needS [101, 108, 115, 101] s5 = s7) := hsd.symm
        clear hsd
        have bs7 := bs6.trans b7
        have q47 := q46.bes b7 (by omega)
        have qA7 := qA6.bes b7 (by omega)
        have q57 := q56.bes b7 (by omega)
        have dA7 := ndb_bes dA6 (by omega) b7
        have d7 := ndb_bes d6 (by omega) b7
        clear h6 bs6 b7 q46 qA6 q56 dA6 d6
        have hg7 : w5.heap.size < w7.heap.size := q57.lt
        go_wp2_with fail
        go_region_held (fun w' => w'.cell? ⟨wA.heap.size, 0, none⟩ = some (.string r0) ∧ w'.cell? ⟨wA.heap.size, 1, none⟩ = some (.string r1) ∧ w'.cell? ⟨wA.heap.size, 2, none⟩ = some (.string r2) ∧ w'.cell? ⟨wA.heap.size, 3, none⟩ = some (.int .i64 rm) ∧ w'.cell? ⟨wA.heap.size, 4, none⟩ = some (.int .i64 rp) ∧ w'.cell? ⟨wA.heap.size, 5, none⟩ = some (.slice ra rl rc) ∧ w'.cell? ⟨w5.heap.size, 0, none⟩ = some (.string x0) ∧ w'.cell? ⟨w5.heap.size, 1, none⟩ = some (.string x1) ∧ w'.cell? ⟨w5.heap.size, 2, none⟩ = some (.string x2) ∧ w'.cell? ⟨w5.heap.size, 3, none⟩ = some (.int .i64 xm) ∧ w'.cell? ⟨w5.heap.size, 4, none⟩ = some (.int .i64 xp) ∧ w'.cell? ⟨w5.heap.size, 5, none⟩ = some (.slice xa xl xc))
          (with_reducible (first | exact held2 v6a v6 | exact held2 uA u5 | exact held2 (tA.alloc _) (t5.alloc _) | exact held2 tA t5 | exact held2 qA7.drew q57.drew))
          (first | (go_at_call 22; rw [HDW.out]; refine (HC.out _ pb tb s7 h7.drew).mono ?_; rintro e w8 ⟨v8, n8, s8, rfl, d8, h8, b8, F8⟩; obtain ⟨y0, y1, y2, ym, yp, ya, yl, yc, rfl⟩ := ndb_shape d8; have bX : Bes pb w7 w8 := ((Bes.refl _ _).drew).trans b8; have t4 := q47.bes bX (by omega); have t5 := q57.bes bX (by omega); have tA := qA7.bes bX (by omega); have bs8 := bs7.trans bX; have eA : NdB (w.heap.size + 1) w8 nA _ := ndb_bes dA7 (by omega) bX; have e8 : NdB (w.heap.size + 1) w8 n5 _ := ndb_bes d7 (by omega) bX; have e8' : NdB (w.heap.size + 1) w8 n8 _ := ndb_mono d8 (by simp; omega); have HF8 : Hid (Fits (thn s7 C) n8 s8) := F8; have hg8 : w7.heap.size ≤ w8.heap.size := bX.size; clear F8 d8 b8 bX) | (go_at_call 38; refine (pnode_any _ _ _ _ _ _).mono ?_; rintro e w9 ⟨rfl, hb9⟩; have bY : Below w8.heap.size w8 w9 := below1 hb9; have u4 := t4.below bY; have u5 := t5.below bY; have uA := tA.below bY; have h9 := h8.below bY; have bs9 := bs8.trans (Bes.of bY); have e9 : NdB (w.heap.size + 1) w9 (nd [105, 102] t.pos [nA, n5, n8]) (.agg #[.string ⟨#[105, 102]⟩, .string (Em.str []), .string (Em.str []), .int .i64 0, .int .i64 t.pos, .slice (some ⟨w8.heap.size, 0, none⟩) 3 3]) := ndp_three (op := [105, 102]) eA e8 e8' (below5 hb9) rfl (by omega) ⟨by decide, by decide⟩ txt_nil txt_nil hpos; obtain ⟨W, hW, sx, hz, hk, hbb⟩ := u4.set (.string ⟨#[105, 102]⟩) (.string (Em.str [])) (.string (Em.str [])) (.int .i64 0) (.int .i64 t.pos) (.slice (some ⟨w8.heap.size, 0, none⟩) 3 3); have v6 : Six W w5.heap.size _ _ _ _ _ _ := u5.far hk (by omega); have v6a : Six W wA.heap.size _ _ _ _ _ _ := uA.far hk (by omega); obtain ⟨a0, a1, a2, a3, a4, a5, f0, f1, f2, f3', f4, f5⟩ := id u4))
        all_goals
          go_wp2
          obtain ⟨c0, c1, c2, c3, c4, c5, -⟩ := id sx
          refine bodyPost_ret (v := .agg #[.string ⟨#[105, 102]⟩, .string (Em.str []), .string (Em.str []), .int .i64 0, .int .i64 t.pos, .slice (some ⟨w8.heap.size, 0, none⟩) 3 3]) (by simp [results, Tryd.results22, go_sem, c0, c1, c2, c3, c4, c5]) rfl ?_
          refine ⟨_, nd [105, 102] t.pos [nA, n5, n8], s8, rfl, ndb_mono (ndb_set e9 (by omega) hz hk) (by omega), h9.set hz hk (by omega) (by omega), hbb pb w bs9 (Nat.le_refl _), ?_⟩
          refine HFI.out _ _ ?_
          show Fits (exprS S C (t :: r)) _ _
          unfold exprS
          rw [if_neg (show ¬ isW [108, 101, 116] (t :: r) = true from fun h => by have h2 : isW [108, 101, 116] (t :: r) = false := HN0.out; rw [h2] at h; cases h)]
          rw [if_neg (show ¬ isW [102, 117, 110] (t :: r) = true from fun h => by have h2 : isW [102, 117, 110] (t :: r) = false := HN1.out; rw [h2] at h; cases h)]
          rw [if_pos HQ.out]
          refine fits_bnd HFA.out ?_
          rw [thn_need, HNE4.out]
          refine fits_thn HF5.out ?_
          rw [thn_need, HNE7.out]
          exact fits_thn HF8.out fits_ok
      | false =>
        rw [eatS_f hq.symm] at h34
        have HN2 : Hid (isWS [105, 102] s1 = false) := hq.symm
        clear hq
        go_wp2_with fail
        refine (peat_any pb tb s1 [109, 97, 116, 99, 104] _ h34 (by decide)).mono ?_
        rintro e w35 ⟨rfl, h35, b35⟩
        have q435 := q434.bes b35 (by omega)
        have bs35 := bs34.trans b35
        clear h34 q434 bs34 b35
        obtain ⟨q, hq⟩ : ∃ q, q = isWS [109, 97, 116, 99, 104] s1 := ⟨_, rfl⟩
        rw [← hq]
        cases q with
        | true =>
          obtain ⟨r, rfl⟩ : ∃ r, s1 = .ok (t :: r) := by
            obtain ⟨t', r', e, -⟩ := isWS_ok hq.symm
            have := HNW.out
            rw [e] at this
            exact ⟨r', by rw [e, ← this]; rfl⟩
          rw [eatS_t hq.symm] at h35
          have HQ : Hid (isW [109, 97, 116, 99, 104] (t :: r) = true) := hq.symm
          have hgq : w.heap.size < w35.heap.size := q435.lt
          have HCD := HC.out (HDL.out _ rfl)
          clear HC hq
          have HC : Hid (Does 22 (d + 1) C) := HCD
          clear HCD
          go_wp2_with fail
          refine (pmatch_does d hd C HC.out _ pb tb (.ok r) t.pos h35 hpos).mono ?_
          rintro e w9 ⟨v9, n9, s9, rfl, d9, h9, b9, F9⟩
          obtain ⟨y0, y1, y2, ym, yp, ya, yl, yc, rfl⟩ := ndb_shape d9
          have HF9 : Hid (Fits (thn (.ok r) (matchS C t.pos)) n9 s9) := F9
          have u4 := q435.bes b9 (by omega)
          have bs9 := bs35.trans b9
          have d9' : NdB (w.heap.size + 1) w9 n9 _ := ndb_mono d9 (by omega)
          clear h35 q435 bs35 b9 F9 d9
          obtain ⟨a0, a1, a2, a3, a4, a5, f0, f1, f2, f3', f4, f5⟩ := id u4
          go_wp2_with fail
          obtain ⟨W, hW, sx, hz, hk, hbb⟩ := u4.set (.string y0) (.string y1) (.string y2) (.int .i64 ym) (.int .i64 yp) (.slice ya yl yc)
          rw [hW]
          obtain ⟨c0, c1, c2, c3, c4, c5, -⟩ := id sx
          refine bodyPost_ret (v := .agg #[.string y0, .string y1, .string y2, .int .i64 ym, .int .i64 yp, .slice ya yl yc]) (by simp [results, Tryd.results22, go_sem, c0, c1, c2, c3, c4, c5]) rfl ?_
          refine ⟨_, n9, s9, rfl, ndb_mono (ndb_set d9' (by omega) hz hk) (by omega), h9.set hz hk (by omega) (by omega), hbb pb w bs9 (Nat.le_refl _), ?_⟩
          refine HFI.out _ _ ?_
          show Fits (exprS S C (t :: r)) _ _
          unfold exprS
          rw [if_neg (show ¬ isW [108, 101, 116] (t :: r) = true from fun h => by have h2 : isW [108, 101, 116] (t :: r) = false := HN0.out; rw [h2] at h; cases h)]
          rw [if_neg (show ¬ isW [102, 117, 110] (t :: r) = true from fun h => by have h2 : isW [102, 117, 110] (t :: r) = false := HN1.out; rw [h2] at h; cases h)]
          rw [if_neg (show ¬ isW [105, 102] (t :: r) = true from fun h => by have h2 : isW [105, 102] (t :: r) = false := HN2.out; rw [h2] at h; cases h)]
          rw [if_pos HQ.out]
          exact HF9.out
        | false =>
          rw [eatS_f hq.symm] at h35
          have HN3 : Hid (isWS [109, 97, 116, 99, 104] s1 = false) := hq.symm
          clear hq
          go_wp2_with fail
          refine (peat_any pb tb s1 [116, 114, 121] _ h35 (by decide)).mono ?_
          rintro e w36 ⟨rfl, h36, b36⟩
          have q436 := q435.bes b36 (by omega)
          have bs36 := bs35.trans b36
          clear h35 q435 bs35 b36
          obtain ⟨q, hq⟩ : ∃ q, q = isWS [116, 114, 121] s1 := ⟨_, rfl⟩
          rw [← hq]
          cases q with
          | true =>
            obtain ⟨r, rfl⟩ : ∃ r, s1 = .ok (t :: r) := by
              obtain ⟨t', r', e, -⟩ := isWS_ok hq.symm
              have := HNW.out
              rw [e] at this
              exact ⟨r', by rw [e, ← this]; rfl⟩
            rw [eatS_t hq.symm] at h36
            have HQ : Hid (isW [116, 114, 121] (t :: r) = true) := hq.symm
            have hgq : w.heap.size < w36.heap.size := q436.lt
            have HCD := HC.out (HDL.out _ rfl)
            clear HC hq
            have HC : Hid (Does 22 (d + 1) C) := HCD
            clear HCD
            go_wp2_with fail
            rw [HD1.out]
            refine (HC.out _ pb tb (.ok r) h36).mono ?_
            rintro e w5 ⟨v5, n5, s5, rfl, d5, h5, b5, F5⟩
            obtain ⟨x0, x1, x2, xm, xp, xa, xl, xc, rfl⟩ := ndb_shape d5
            have HF5 : Hid (Fits (thn (.ok r) C) n5 s5) := F5
            have q46 := (q436.bes b5 (by omega)).alloc (.cells #[.string x0, .string x1, .string x2, .int .i64 xm, .int .i64 xp, .slice xa xl xc] 24)
            have q56 := Six.made w5 (.string x0) (.string x1) (.string x2) (.int .i64 xm) (.int .i64 xp) (.slice xa xl xc) 24
            have bs6 := (bs36.trans b5).alloc (.cells #[.string x0, .string x1, .string x2, .int .i64 xm, .int .i64 xp, .slice xa xl xc] 24)
            have h6 := h5.alloc (.cells #[.string x0, .string x1, .string x2, .int .i64 xm, .int .i64 xp, .slice xa xl xc] 24)
            have d6 : NdB (w.heap.size + 1) _ n5 _ := ndb_below (ndb_mono d5 (by omega)) ((Below.refl _ _).alloc (Nat.le_refl _) (.cells #[.string x0, .string x1, .string x2, .int .i64 xm, .int .i64 xp, .slice xa xl xc] 24))
            have hg5 : w.heap.size < w5.heap.size := Nat.lt_of_lt_of_le hgq b5.size
            clear F5 d5 h5 b5 h36 bs36 q436
            go_wp2_with fail
            refine (pneed_any pb tb s5 [119, 105, 116, 104] _ h6 (by decide)).mono ?_
            rintro e w6a ⟨rfl, h6a, b6a⟩
            obtain ⟨s6, hsd⟩ : ∃ x, x = needS [119, 105, 116, 104] s5 := ⟨_, rfl⟩
            rw [← hsd] at h6a
            have HNE6a : Hid (needS [119, 105, 116, 104] s5 = s6) := hsd.symm
            clear hsd
            have bs6a := bs6.trans b6a
            have q46a := q46.bes b6a (by omega)
            have q56a := q56.bes b6a (by omega)
            have d6a := ndb_bes d6 (by omega) b6a
            clear h6 bs6 b6a q46 q56 d6
            go_wp2_with fail
            have hx6b := name_txt h6a
            refine (pname_any pb tb s6 _ h6a).mono ?_
            rintro e w6b ⟨rfl, h6b, b6b⟩
            obtain ⟨x, hxd⟩ : ∃ x, x = (nameS s6).1 := ⟨_, rfl⟩
            obtain ⟨s6b, hsd⟩ : ∃ x, x = (nameS s6).2 := ⟨_, rfl⟩
            rw [← hxd] at hx6b ⊢
            rw [← hsd] at h6b
            have HNM6b : Hid (nameS s6 = (x, s6b)) := by rw [hxd, hsd]; rfl
            clear hxd hsd
            have bs6b := bs6a.trans b6b
            have q46b := q46a.bes b6b (by omega)
            have q56b := q56a.bes b6b (by omega)
            have d6b := ndb_bes d6a (by omega) b6b
            clear h6a bs6a b6b q46a q56a d6a
            go_wp2_with fail
            refine (pneed_any pb tb s6b [45, 62] _ h6b (by decide)).mono ?_
            rintro e w7 ⟨rfl, h7, b7⟩
            obtain ⟨s7, hsd⟩ : ∃ x, x = needS [45, 62] s6b := ⟨_, rfl⟩
            rw [← hsd] at h7
            have HNE7 : Hid (needS [45, 62] s6b = s7) := hsd.symm
            clear hsd
            have bs7 := bs6b.trans b7
            have q47 := q46b.bes b7 (by omega)
            have q57 := q56b.bes b7 (by omega)
            have d7 := ndb_bes d6b (by omega) b7
            clear h6b bs6b b7 q46b q56b d6b
            have hg7 : w5.heap.size < w7.heap.size := q57.lt
            go_wp2_with fail
            go_region_held (fun w' => w'.cell? ⟨w5.heap.size, 0, none⟩ = some (.string x0) ∧ w'.cell? ⟨w5.heap.size, 1, none⟩ = some (.string x1) ∧ w'.cell? ⟨w5.heap.size, 2, none⟩ = some (.string x2) ∧ w'.cell? ⟨w5.heap.size, 3, none⟩ = some (.int .i64 xm) ∧ w'.cell? ⟨w5.heap.size, 4, none⟩ = some (.int .i64 xp) ∧ w'.cell? ⟨w5.heap.size, 5, none⟩ = some (.slice xa xl xc))
              (with_reducible (first | exact v6.held | exact (u5.alloc _).held | exact u5.held | exact ((t5.alloc _).alloc _).held | exact (t5.alloc _).held | exact t5.held | exact (q57.alloc _).drew.held | exact q57.drew.held))
              (first | (go_at_call 22; rw [HDW.out]; refine (HC.out _ pb tb (s7) (by with_reducible (first | exact h7.drew | exact (h7.alloc _).drew))).mono ?_; rintro e w8 ⟨v8, n8, s8, rfl, d8, h8, b8, F8⟩; obtain ⟨y0, y1, y2, ym, yp, ya, yl, yc, rfl⟩ := ndb_shape d8; have bX : Bes pb w7 w8 := (by with_reducible (first | exact ((Bes.refl _ _).drew).trans b8 | exact (((Bes.refl _ _).alloc _).drew).trans b8)); have t4 := q47.bes bX (by omega); have t5 := q57.bes bX (by omega); have bs8 := bs7.trans bX; have e8 : NdB (w.heap.size + 1) w8 n5 _ := ndb_bes d7 (by omega) bX; have e8' : NdB (w.heap.size + 1) w8 n8 _ := ndb_mono d8 (by simp; omega); have HF8 : Hid (Fits (thn (s7) C) n8 s8) := F8; have hg8 : w7.heap.size ≤ w8.heap.size := bX.size; (try (have zd8 := (by with_reducible exact order2 d8); have z8 := order2b b8 (by omega); have hz8 := z8.lt; have zn5 := order2c d7 b8 (by omega))); clear F8 d8 b8 bX) | (go_at_call 38; refine (pnode_any _ _ _ _ _ _).mono ?_; rintro e w9 ⟨rfl, hb9⟩; have bY : Below w8.heap.size w8 w9 := (by with_reducible (first | exact below2 hb9 | exact below1 hb9)); have u4 := t4.below bY; have u5 := t5.below bY; have h9 := h8.below bY; have bs9 := bs8.trans (Bes.of bY); (first | (have z9 := (by with_reducible exact z8.below bY); obtain ⟨a0, a1, a2, a3, a4, a5, f0, f1, f2, f3', f4, f5⟩ := id z9; obtain ⟨W, hW, sx, hz, hk, hbb⟩ := z9.set (.string ⟨#[116, 114, 121]⟩) (.string (Em.str [])) (.string (Em.str [])) (.int .i64 0) (.int .i64 t.pos) (.slice (some ⟨w8.heap.size, 0, none⟩) 2 2); have v6 : Six W w5.heap.size _ _ _ _ _ _ := u5.far hk (by omega); have e9 : NdQ (w.heap.size + 1) (w7.heap.size) w9 (nd [116, 114, 121] t.pos [n5, n8]) (.agg #[.string (Em.str [116, 114, 121]), .string (Em.str []), .string (Em.str []), .int .i64 0, .int .i64 t.pos, .slice (some ⟨w8.heap.size, 0, none⟩) 2 2]) := ndp_two (op := [116, 114, 121]) zn5 (ndq_of2 zd8 (by omega) (by omega)) (below5 hb9) rfl ⟨by omega, by omega⟩ ⟨by decide, by decide⟩ txt_nil txt_nil hpos; obtain ⟨gl, hgl⟩ : ∃ gl, gl = w7.heap.size := ⟨_, rfl⟩; have HG : Hid (w7.heap.size = gl) := hgl.symm; have LF : Hid (Leaf pb tb w s8 gl W [116, 114, 121] t.pos [n5, n8] (some ⟨w8.heap.size, 0, none⟩) 2 2) := (by rw [hgl]; exact leafOf sx hz hk hbb u4 h9 bs9 e9 (by omega) hlp hlt); clear hgl hz hk hbb e9 sx z9) | (have z9 := (by with_reducible exact sixA hb9); obtain ⟨a0, a1, a2, a3, a4, a5, f0, f1, f2, f3', f4, f5⟩ := id z9; obtain ⟨W, hW, sx, hz, hk, hbb⟩ := z9.set (.string ⟨#[116, 114, 121]⟩) (.string (Em.str [])) (.string (Em.str [])) (.int .i64 0) (.int .i64 t.pos) (.slice (some ⟨w8.heap.size + 1, 0, none⟩) 2 2); have v6 : Six W w5.heap.size _ _ _ _ _ _ := u5.far hk (by omega); have e9 : NdQ (w.heap.size + 1) (w8.heap.size) w9 (nd [116, 114, 121] t.pos [n5, n8]) (.agg #[.string (Em.str [116, 114, 121]), .string (Em.str []), .string (Em.str []), .int .i64 0, .int .i64 t.pos, .slice (some ⟨w8.heap.size + 1, 0, none⟩) 2 2]) := ndp_two (op := [116, 114, 121]) (ndp_below (ndq_of e8 (Nat.le_refl _)) ((Below.refl _ _).alloc (Nat.le_refl _) _)) (ndp_below (ndq_of e8' (Nat.le_refl _)) ((Below.refl _ _).alloc (Nat.le_refl _) _)) (below4 hb9) (by simp) ⟨by simp; omega, by simp⟩ ⟨by decide, by decide⟩ txt_nil txt_nil hpos; obtain ⟨gl, hgl⟩ : ∃ gl, gl = w8.heap.size := ⟨_, rfl⟩; have HG : Hid (w8.heap.size = gl) := hgl.symm; have LF : Hid (Leaf pb tb w s8 gl W [116, 114, 121] t.pos [n5, n8] (some ⟨w8.heap.size + 1, 0, none⟩) 2 2) := (by rw [hgl]; exact leafOf sx hz hk hbb u4 h9 bs9 e9 (by omega) hlp hlt); clear hgl hz hk hbb e9 sx z9) | (have z9 := (by with_reducible exact sixB hb9); obtain ⟨a0, a1, a2, a3, a4, a5, f0, f1, f2, f3', f4, f5⟩ := id z9; obtain ⟨W, hW, sx, hz, hk, hbb⟩ := z9.set (.string ⟨#[116, 114, 121]⟩) (.string (Em.str [])) (.string (Em.str [])) (.int .i64 0) (.int .i64 t.pos) (.slice (some ⟨w8.heap.size, 0, none⟩) 2 2); have v6 : Six W w5.heap.size _ _ _ _ _ _ := u5.far hk (by omega); have e9 : NdQ (w.heap.size + 1) (w8.heap.size + 1) w9 (nd [116, 114, 121] t.pos [n5, n8]) (.agg #[.string (Em.str [116, 114, 121]), .string (Em.str []), .string (Em.str []), .int .i64 0, .int .i64 t.pos, .slice (some ⟨w8.heap.size, 0, none⟩) 2 2]) := ndp_two (op := [116, 114, 121]) (ndq_of e8 (by omega)) (ndq_of e8' (by omega)) (below3 hb9) rfl ⟨by omega, by omega⟩ ⟨by decide, by decide⟩ txt_nil txt_nil hpos; obtain ⟨gl, hgl⟩ : ∃ gl, gl = w8.heap.size + 1 := ⟨_, rfl⟩; have HG : Hid (w8.heap.size + 1 = gl) := hgl.symm; have LF : Hid (Leaf pb tb w s8 gl W [116, 114, 121] t.pos [n5, n8] (some ⟨w8.heap.size, 0, none⟩) 2 2) := (by rw [hgl]; exact leafOf sx hz hk hbb u4 h9 bs9 e9 (by omega) hlp hlt); clear hgl hz hk hbb e9 sx z9) | (have e9 : NdB (w.heap.size + 1) w9 (nd [116, 114, 121] t.pos [n5, n8]) (.agg #[.string (Em.str [116, 114, 121]), .string (Em.str []), .string (Em.str []), .int .i64 0, .int .i64 t.pos, .slice (some ⟨w8.heap.size, 0, none⟩) 2 2]) := ndp_two (op := [116, 114, 121]) e8 e8' (below5 hb9) rfl (by omega) ⟨by decide, by decide⟩ txt_nil txt_nil hpos))))
            all_goals
              (first | (have LF' : ∃ sa, Leaf pb tb w s8 gl W [116, 114, 121] t.pos [n5, n8] sa 2 2 := ⟨_, LF.out⟩; rw [HG.out]; clear hW LF HG a0 a1 a2 a3 a4 a5 f0 f1 f2 f3' f4 f5 v6) | (obtain ⟨W, hWd⟩ : ∃ W, W = w9.alloc (.cells #[.string ⟨#[116, 114, 121]⟩, .string (Em.str []), .string (Em.str []), .int .i64 0, .int .i64 t.pos, .slice (some ⟨w8.heap.size, 0, none⟩) 2 2] 24) := ⟨_, rfl⟩; rw [← hWd]; obtain ⟨gl, hgl⟩ : ∃ gl, gl = w9.heap.size := ⟨_, rfl⟩; have LF' : ∃ sa, Leaf pb tb w s8 gl W [116, 114, 121] t.pos [n5, n8] sa 2 2 := ⟨_, (by rw [hgl, hWd]; exact ⟨Six.made w9 _ _ _ _ _ _ _, u4.alloc _, h9.alloc _, bs9.alloc _, ndp_below (ndq_of e9 (Nat.le_refl _)) ((Below.refl _ _).alloc (Nat.le_refl _) _), (by have := u5.lt; omega)⟩)⟩; rw [← hgl]; clear hWd hgl e9))
              obtain ⟨sa, LL⟩ := LF'
              have hgt := LL.gt
              obtain ⟨W3, hW3, sx3, hz3, hk3, hb3⟩ := Six.set1 LL.sx (.string (Em.str x))
              have q43 := LL.q4.far hk3 (by omega)
              obtain ⟨W4, hW4, sx4, hz4, hk4, hb4⟩ := q43.set (.string (Em.str [116, 114, 121])) (.string (Em.str x)) (.string (Em.str [])) (.int .i64 0) (.int .i64 t.pos) (.slice sa 2 2)
              obtain ⟨i0, i1, i2, i3, i4, i5, j0, j1, j2, j3, j4, j5⟩ := id LL.sx
              obtain ⟨k0, k1, k2, k3, k4, k5, -⟩ := id sx3
              obtain ⟨a0, a1, a2, a3, a4, a5, f0, f1, f2, f3', f4, f5⟩ := id q43
              obtain ⟨c0, c1, c2, c3, c4, c5, -⟩ := id sx4
              have HST : Hid (IsSt W4 pb tb s8) := (LL.st.set hz3 hk3 (by omega) (by omega)).set hz4 hk4 (by omega) (by omega)
              have HBS : Hid (Bes pb w W4) := hb4 pb w (hb3 pb w LL.bs (by omega)) (Nat.le_refl _)
              have HND : Hid (NdB w.heap.size W4 (.mk [116, 114, 121] x [] 0 t.pos [n5, n8]) (.agg #[.string (Em.str [116, 114, 121]), .string (Em.str x), .string (Em.str []), .int .i64 0, .int .i64 t.pos, .slice sa 2 2])) := ndb_mono (ndb_set (ndq_ndb (ndq_set (ndp_named LL.nd hx6b txt_nil) hz3 hk3)) (by omega) hz4 hk4) (by omega)
              clear LL sx3 sx4 q43 hz3 hk3 hb3 hz4 hk4 hb4 h8 h9 u4 u5 t4 t5 bs8 bs9 e8 e8' hb9 bY q47 q57 bs7 d7 h7
              go_wp2_with fail
              refine bodyPost_ret (v := .agg #[.string (Em.str [116, 114, 121]), .string (Em.str x), .string (Em.str []), .int .i64 0, .int .i64 t.pos, .slice sa 2 2]) (by simp [results, Tryd.results22, go_sem, c0, c1, c2, c3, c4, c5]) rfl ?_
              refine ⟨_, .mk [116, 114, 121] x [] 0 t.pos [n5, n8], s8, rfl, HND.out, HST.out, HBS.out, ?_⟩
              refine HFI.out _ _ ?_
              show Fits (exprS S C (t :: r)) _ _
              unfold exprS
              rw [if_neg (show ¬ isW [108, 101, 116] (t :: r) = true from fun h => by have h2 : isW [108, 101, 116] (t :: r) = false := HN0.out; rw [h2] at h; cases h)]
              rw [if_neg (show ¬ isW [102, 117, 110] (t :: r) = true from fun h => by have h2 : isW [102, 117, 110] (t :: r) = false := HN1.out; rw [h2] at h; cases h)]
              rw [if_neg (show ¬ isW [105, 102] (t :: r) = true from fun h => by have h2 : isW [105, 102] (t :: r) = false := HN2.out; rw [h2] at h; cases h)]
              rw [if_neg (show ¬ isW [109, 97, 116, 99, 104] (t :: r) = true from fun h => by have h2 : isW [109, 97, 116, 99, 104] (t :: r) = false := HN3.out; rw [h2] at h; cases h)]
              rw [if_pos HQ.out]
              refine fits_bnd HF5.out ?_
              rw [thn_need, HNE6a.out, thn_name, HNM6b.out]
              simp only
              rw [thn_need, HNE7.out]
              exact fits_thn HF8.out fits_ok
          | false =>
            rw [eatS_f hq.symm] at h36
            have HN4 : Hid (isWS [116, 114, 121] s1 = false) := hq.symm
            clear hq
            go_wp2_with fail
            refine (HS.out _ pb tb s1 h36).mono ?_
            rintro e wA ⟨v1, n1, sA, rfl, d1, h1, b1, F1⟩
            obtain ⟨x0, x1, x2, xm, xp, xa, xl, xc, rfl⟩ := ndb_shape d1
            have p4 := q436.bes b1 (by omega)
            have hgq := q436.lt
            have hgA : w.heap.size < wA.heap.size := p4.lt
            have HF1 : Hid (Fits (thn s1 S) n1 sA) := F1
            have hA := h1.alloc (.cells #[.string x0, .string x1, .string x2, .int .i64 xm, .int .i64 xp, .slice xa xl xc] 24)
            have q4A := p4.alloc (.cells #[.string x0, .string x1, .string x2, .int .i64 xm, .int .i64 xp, .slice xa xl xc] 24)
            have q5A := Six.made wA (.string x0) (.string x1) (.string x2) (.int .i64 xm) (.int .i64 xp) (.slice xa xl xc) 24
            have bsA := (bs36.trans b1).alloc (.cells #[.string x0, .string x1, .string x2, .int .i64 xm, .int .i64 xp, .slice xa xl xc] 24)
            have dA : NdB (w.heap.size + 1) _ n1 _ := ndb_below (ndb_mono d1 (by omega)) ((Below.refl _ _).alloc (Nat.le_refl _) (.cells #[.string x0, .string x1, .string x2, .int .i64 xm, .int .i64 xp, .slice xa xl xc] 24))
            clear h36 q436 bs36 d1 h1 b1 F1 p4
            clear f3 hpos
            go_wp2_with fail
            refine (pnow_any pb tb sA _ hA).mono ?_
            rintro e w5 ⟨rfl, hb5⟩
            obtain ⟨t2, htd⟩ : ∃ t, t = nowS sA := ⟨_, rfl⟩
            have HP : Hid (posS sA = t2.pos) := by rw [htd]; exact posS_now sA
            have hpos : t2.pos ≤ 140737488351232 := by rw [htd]; exact hA.now.2.2.1
            rw [← htd]
            clear htd
            simp only [Em6.tokV]
            have f3 := fld3 t2.kind (Em.str t2.text) t2.num t2.pos
            have h5 := hA.below hb5
            have q45 := q4A.below hb5
            have q55 := q5A.below hb5
            have bs5 := bsA.trans (Bes.of hb5)
            have d5 := ndb_below dA hb5
            clear hA q4A q5A bsA dA hb5
            go_wp2_with fail
            refine (peat_any pb tb sA [59] _ h5 (by decide)).mono ?_
            rintro e w7 ⟨rfl, h7, b7⟩
            have q47 := q45.bes b7 (by omega)
            have q57 := q55.bes b7 (by omega)
            have bs7 := bs5.trans b7
            have d7 := ndb_bes d5 (by omega) b7
            have hg7 : wA.heap.size < w7.heap.size := q57.lt
            clear h5 q45 q55 bs5 d5 b7
            have HFE : Hid (∀ n s', Fits (thn sA (fun L1 => if isW [59] L1 then bnd (C L1.tail) fun b L2 => .ok (nd [115, 101, 113] (posL L1) [n1, b], L2) else .ok (n1, L1))) n s' → Fits (thn s G) n s') := fun n s' hf => HFI.out n s' (fits_f HN0.out (fits_f HN1.out (fits_f HN2.out (fits_f HN3.out (fits_f HN4.out (fits_thn HF1.out hf))))))
            obtain ⟨q, hq⟩ : ∃ q, q = isWS [59] sA := ⟨_, rfl⟩
            rw [← hq]
            cases q with
            | false =>
              rw [eatS_f hq.symm] at h7
              have HF : Hid (Fits (thn s G) n1 sA) := HFE.out _ _ (fits_f hq.symm fits_ok)
              obtain ⟨c0, c1, c2, c3, c4, c5, -⟩ := id q57
              obtain ⟨a0, a1, a2, a3, a4, a5, f0, f1, f2, f3', f4, f5⟩ := id q47
              clear hq
              go_wp2_with fail
              obtain ⟨W, hW, sx, hz, hk, hbb⟩ := q47.set (.string x0) (.string x1) (.string x2) (.int .i64 xm) (.int .i64 xp) (.slice xa xl xc)
              rw [hW]
              obtain ⟨c0, c1, c2, c3, c4, c5, -⟩ := id sx
              refine bodyPost_ret (v := .agg #[.string x0, .string x1, .string x2, .int .i64 xm, .int .i64 xp, .slice xa xl xc]) (by simp [results, Tryd.results22, go_sem, c0, c1, c2, c3, c4, c5]) rfl ?_
              exact ⟨_, n1, sA, rfl, ndb_mono (ndb_set d7 (by omega) hz hk) (by omega), h7.set hz hk (by omega) (by omega), hbb pb w bs7 (Nat.le_refl _), HF.out⟩
            | true =>
              obtain ⟨t', r', rfl, -⟩ := isWS_ok hq.symm
              rw [eatS_t hq.symm] at h7
              have HQ : Hid (isWS [59] (.ok (t' :: r')) = true) := hq.symm
              have HP' : Hid (t'.pos = t2.pos) := HP.out
              have hdl : d < 40 := by
                obtain ⟨L0, e0⟩ := fits_src HF1.out
                exact HDL.out L0 e0
              have HCD := HC.out hdl
              clear HC hq
              have HC : Hid (Does 22 (d + 1) C) := HCD
              clear HCD
              go_wp2_with fail
              go_region_held (fun w' => w'.cell? ⟨wA.heap.size, 0, none⟩ = some (.string x0) ∧ w'.cell? ⟨wA.heap.size, 1, none⟩ = some (.string x1) ∧ w'.cell? ⟨wA.heap.size, 2, none⟩ = some (.string x2) ∧ w'.cell? ⟨wA.heap.size, 3, none⟩ = some (.int .i64 xm) ∧ w'.cell? ⟨wA.heap.size, 4, none⟩ = some (.int .i64 xp) ∧ w'.cell? ⟨wA.heap.size, 5, none⟩ = some (.slice xa xl xc))
                (with_reducible (first | exact v6.held | exact u5.held | exact (t5.alloc _).held | exact t5.held | exact q57.drew.held))
                (first | (go_at_call 22; rw [HDW.out]; refine (HC.out _ pb tb (.ok r') h7.drew).mono ?_; rintro e w8 ⟨v8, n8, s8, rfl, d8, h8, b8, F8⟩; obtain ⟨y0, y1, y2, ym, yp, ya, yl, yc, rfl⟩ := ndb_shape d8; have bX : Bes pb w7 w8 := ((Bes.refl _ _).drew).trans b8; have t4 := q47.bes bX (by omega); have t5 := q57.bes bX (by omega); have bs8 := bs7.trans bX; have e8 : NdB (w.heap.size + 1) w8 n1 _ := ndb_bes d7 (by omega) bX; have e8' : NdB (w.heap.size + 1) w8 n8 _ := ndb_mono d8 (by simp; omega); have HF8 : Hid (Fits (thn (.ok r') C) n8 s8) := F8; have hg8 : w7.heap.size ≤ w8.heap.size := bX.size; clear F8 d8 b8 bX) | (go_at_call 38; refine (pnode_any _ _ _ _ _ _).mono ?_; rintro e w9 ⟨rfl, hb9⟩; have bY : Below w8.heap.size w8 w9 := below1 hb9; have u4 := t4.below bY; have u5 := t5.below bY; have h9 := h8.below bY; have bs9 := bs8.trans (Bes.of bY); have e9 : NdB (w.heap.size + 1) w9 (nd [115, 101, 113] t2.pos [n1, n8]) (.agg #[.string ⟨#[115, 101, 113]⟩, .string (Em.str []), .string (Em.str []), .int .i64 0, .int .i64 t2.pos, .slice (some ⟨w8.heap.size, 0, none⟩) 2 2]) := ndp_two (op := [115, 101, 113]) e8 e8' (below5 hb9) rfl (by omega) ⟨by decide, by decide⟩ txt_nil txt_nil hpos; obtain ⟨W, hW, sx, hz, hk, hbb⟩ := u4.set (.string ⟨#[115, 101, 113]⟩) (.string (Em.str [])) (.string (Em.str [])) (.int .i64 0) (.int .i64 t2.pos) (.slice (some ⟨w8.heap.size, 0, none⟩) 2 2); have v6 : Six W wA.heap.size _ _ _ _ _ _ := u5.far hk (by omega); obtain ⟨a0, a1, a2, a3, a4, a5, f0, f1, f2, f3', f4, f5⟩ := id u4))
              all_goals
                go_wp2
                obtain ⟨c0, c1, c2, c3, c4, c5, -⟩ := id sx
                refine bodyPost_ret (v := .agg #[.string ⟨#[115, 101, 113]⟩, .string (Em.str []), .string (Em.str []), .int .i64 0, .int .i64 t2.pos, .slice (some ⟨w8.heap.size, 0, none⟩) 2 2]) (by simp [results, Tryd.results22, go_sem, c0, c1, c2, c3, c4, c5]) rfl ?_
                refine ⟨_, nd [115, 101, 113] t2.pos [n1, n8], s8, rfl, ndb_mono (ndb_set e9 (by omega) hz hk) (by omega), h9.set hz hk (by omega) (by omega), hbb pb w bs9 (Nat.le_refl _), HFE.out _ _ (fits_t HQ.out (fun t3 r3 e3 => ?_))⟩
                injection e3 with e3
                injection e3 with e4 e5
                subst e4
                subst e5
                refine fits_bnd HF8.out ?_
                show Fits (thn s8 fun L2 => .ok (nd [115, 101, 113] t'.pos [n1, n8], L2)) _ _
                rw [HP'.out]
                exact fits_ok
end Go.Proofs.YtoekhejpompjlaaDoor

namespace Go.Proofs.YtoekhejpompjlaaDoor
open Go.RowKit Go.Em5 Go.Em6

theorem pmid_does (d : Nat) (A : List Em4.Tok → R) (hA : Does 89 d A) (hS : Shr A) : Does 40 d (mid A) :=
  pset_does d _ (pcmp_does d _ (pcons_does d _ (psum_does d _ (pprod_does d _ (papp_does d _ hA hS) (shr_app hS)) (shr_prod (shr_app hS))) (shr_sum (shr_prod (shr_app hS)))))

theorem plev_does : ∀ f, f ≤ 40 → Does 22 (40 - f) (lev f).1 ∧ Does 89 (40 - f) (lev f).2
  | 0, _ => by
    have e1 : ∀ A : List Em4.Tok → R, (lev 0).2 = fun L => if 40 ≤ 40 - 0 then .error (3, posL L) else A L := fun A => by funext L; rw [if_pos (by omega)]; rfl
    have e2 : ∀ A : List Em4.Tok → R, (lev 0).1 = fun L => if 40 ≤ 40 - 0 then .error (3, posL L) else A L := fun A => by funext L; rw [if_pos (by omega)]; rfl
    have hA : Does 89 (40 - 0) (lev 0).2 := by
      rw [e1 (atomS (lev 0).1 (lev 0).2)]
      exact patom_does (40 - 0) (by omega) _ _ (fun h => by omega) (fun h => by omega)
    refine ⟨?_, hA⟩
    rw [e2 (exprS (mid (lev 0).2) (lev 0).1)]
    exact pexpr_does (40 - 0) (by omega) _ _ (pmid_does _ _ hA (shr_lev 0).2) (fun h => by omega)
  | f + 1, hf => by
    obtain ⟨hE, hA⟩ := plev_does f (by omega)
    have ed : 40 - (f + 1) + 1 = 40 - f := by omega
    have hn : ¬ 40 ≤ 40 - (f + 1) := by omega
    have hA1 : Does 89 (40 - (f + 1)) (lev (f + 1)).2 := by
      have e : (lev (f + 1)).2 = fun L => if 40 ≤ 40 - (f + 1) then .error (3, posL L) else atomS (lev f).1 (lev f).2 L := by funext L; rw [if_neg hn]; rfl
      rw [e]
      exact patom_does _ (by omega) _ _ (fun _ => by rw [ed]; exact hE) (fun _ => by rw [ed]; exact hA)
    refine ⟨?_, hA1⟩
    have e : (lev (f + 1)).1 = fun L => if 40 ≤ 40 - (f + 1) then .error (3, posL L) else exprS (mid (lev (f + 1)).2) (lev f).1 L := by funext L; rw [if_neg hn]; rfl
    rw [e]
    exact pexpr_does _ (by omega) _ _ (pmid_does _ _ hA1 (shr_lev (f + 1)).2) (fun _ => by rw [ed]; exact hE)
/-- The expr of a whole text. -/
theorem pexpr_whole : Does 22 0 (lev 40).1 := (plev_does 40 (Nat.le_refl _)).1
end Go.Proofs.YtoekhejpompjlaaDoor

/- What 'round' of the document's own parser answers. -/
import Derived.Test.YtoekhejpompjlaaDoorRPaD
namespace Go.Proofs.YtoekhejpompjlaaDoor
open Go.RowKit Go.Em5 Go.Em6
set_option linter.unusedSimpArgs false

theorem thn_need {β : Type} (x : List Int) (s : St) (G : List Em4.Tok → Except Err β) : thn s (fun L => bnd0 (need x L) G) = thn (needS x s) G := by
  rw [needS_thn]
  cases s <;> rfl

set_option maxRecDepth 100000 in
set_option maxHeartbeats 4000000 in
theorem pround_does (d : Nat) (hd : d ≤ 40) (C : List Em4.Tok → R) (hC : Does 22 (d + 1) C) : ∀ (w : World) (pb tb : Nat) (s : St) (p : Nat), IsSt w pb tb s → p ≤ 140737488351232 → Calls Tryd.prog 97 #[PP pb, .int .i64 d, .int .i64 p] w (Post (roundS C p) pb tb s w) := by
  intro w pb tb s p h hpos
  have HH : Hid (IsSt w pb tb s) := h
  have HC : Hid (Does 22 (d + 1) C) := hC
  obtain ⟨hlp, hlt, hne⟩ := h.lt
  clear h hC
  go_enter Tryd.func97, Tryd.ntmps97
  go_wp2_with fail
  have z4 := Six.made w (.string ⟨#[]⟩) (.string ⟨#[]⟩) (.string ⟨#[]⟩) (.int .i64 0) (.int .i64 0) (.slice none 0 0) 24
  refine (peat_any pb tb s [41] _ (HH.out.alloc _) (by decide)).mono ?_
  rintro e w1 ⟨rfl, h1, b1⟩
  have p4 := z4.bes b1 (by omega)
  have bs1 : Bes pb w w1 := ((Bes.refl pb w).alloc _).trans b1
  clear z4 b1
  obtain ⟨q1, hq1⟩ : ∃ q, q = isWS [41] s := ⟨_, rfl⟩
  rw [← hq1]
  cases q1 with
  | true =>
    obtain ⟨t', r', rfl, -⟩ := isWS_ok hq1.symm
    rw [eatS_t hq1.symm] at h1
    have HQ : Hid (isW [41] (t' :: r') = true) := hq1.symm
    clear hq1
    obtain ⟨a0, a1, a2, a3, a4, a5, f0, f1, f2, f3', f4, f5⟩ := id p4
    go_wp2_with fail
    obtain ⟨W, hW, sx, hz, hk, hbb⟩ := p4.set (.string ⟨#[117, 110, 105, 116]⟩) (.string ⟨#[]⟩) (.string ⟨#[]⟩) (.int .i64 0) (.int .i64 p) (.slice none 0 0)
    rw [hW]
    obtain ⟨c0, c1, c2, c3, c4, c5, -⟩ := id sx
    refine bodyPost_ret (v := .agg #[.string ⟨#[117, 110, 105, 116]⟩, .string ⟨#[]⟩, .string ⟨#[]⟩, .int .i64 0, .int .i64 p, .slice none 0 0]) (by simp [results, Tryd.results97, go_sem, c0, c1, c2, c3, c4, c5]) rfl ?_
    refine ⟨_, nd [117, 110, 105, 116] p [], .ok r', rfl, isNdP_leaf (op := [117, 110, 105, 116]) (nm := []) (ar := []) ⟨by decide, by decide⟩ txt_nil txt_nil i64_zero (i64_pos hpos), h1.set hz hk (by omega) (by omega), hbb pb w bs1 (Nat.le_refl _), ?_⟩
    show Fits (roundS C p (t' :: r')) _ _
    unfold roundS
    rw [if_pos HQ.out]
    exact ⟨rfl, rfl⟩
  | false =>
    rw [eatS_f hq1.symm] at h1
    have HQ : Hid (isWS [41] s = false) := hq1.symm
    clear hq1
    go_wp2_with fail
    have HD1 : Hid (((d : Int) + 1) = ((d + 1 : Nat) : Int)) := by rw [Hid]; omega
    have HDW : Hid (IntKind.i64.wrap ((d : Int) + 1) = ((d + 1 : Nat) : Int)) := by rw [Hid, IntKind.wrap_i64]; omega
    rw [HD1.out]
    refine (HC.out _ pb tb s h1).mono ?_
    rintro e w2 ⟨v2, n2, s2, rfl, d2, h2, b2, F2⟩
    obtain ⟨x0, x1, x2, xm, xp, xa, xl, xc, rfl⟩ := ndb_shape d2
    have g4 : w.heap.size < w1.heap.size := p4.lt
    have q42 := (p4.bes b2 (by omega)).alloc (.cells #[.string x0, .string x1, .string x2, .int .i64 xm, .int .i64 xp, .slice xa xl xc] 24)
    have q52 := Six.made w2 (.string x0) (.string x1) (.string x2) (.int .i64 xm) (.int .i64 xp) (.slice xa xl xc) 24
    have bs2 := (bs1.trans b2).alloc (.cells #[.string x0, .string x1, .string x2, .int .i64 xm, .int .i64 xp, .slice xa xl xc] 24)
    have h2' := h2.alloc (.cells #[.string x0, .string x1, .string x2, .int .i64 xm, .int .i64 xp, .slice xa xl xc] 24)
    have d2' : NdQ (w.heap.size + 1) w2.heap.size _ n2 _ := ndp_below (ndq_of (ndb_mono d2 (by omega)) (Nat.le_refl _)) ((Below.refl _ _).alloc (Nat.le_refl _) (.cells #[.string x0, .string x1, .string x2, .int .i64 xm, .int .i64 xp, .slice xa xl xc] 24))
    have g7 : w.heap.size < w2.heap.size := Nat.lt_of_lt_of_le g4 b2.size
    have HF2 : Hid (Fits (thn s C) n2 s2) := F2
    clear F2 d2 h2 b2 h1 bs1 p4
    go_wp2_with fail
    refine (peat_any pb tb s2 [44] _ h2' (by decide)).mono ?_
    rintro e w3 ⟨rfl, h3, b3⟩
    have q43 := q42.bes b3 (by omega)
    have q53 := q52.bes b3 (by omega)
    have bs3 := bs2.trans b3
    have d3 := ndp_bes d2' (by omega) b3
    clear h2' q42 q52 bs2 d2' b3
    obtain ⟨q3, hq3⟩ : ∃ q, q = isWS [44] s2 := ⟨_, rfl⟩
    rw [← hq3]
    cases q3 with
    | false =>
      rw [eatS_f hq3.symm] at h3
      have HFF : Hid (Fits (thn s (roundS C p)) n2 (needS [41] s2)) := by
        refine fits_f HQ.out (fits_thn HF2.out (fits_f hq3.symm ?_))
        rw [thn_need]
        exact fits_ok
      clear hq3
      go_wp2_with fail
      refine (pneed_any pb tb s2 [41] _ h3 (by decide)).mono ?_
      rintro e w9 ⟨rfl, h9, b9⟩
      have u4 := q43.bes b9 (by omega)
      have u5 := q53.bes b9 (by omega)
      have bs9 := bs3.trans b9
      have e9 := ndp_bes d3 (by omega) b9
      clear h3 q43 q53 bs3 d3 b9
      obtain ⟨c0, c1, c2, c3, c4, c5, -⟩ := id u5
      obtain ⟨a0, a1, a2, a3, a4, a5, f0, f1, f2, f3', f4, f5⟩ := id u4
      go_wp2_with fail
      obtain ⟨W, hW, sx, hz, hk, hbb⟩ := u4.set (.string x0) (.string x1) (.string x2) (.int .i64 xm) (.int .i64 xp) (.slice xa xl xc)
      rw [hW]
      obtain ⟨c0, c1, c2, c3, c4, c5, -⟩ := id sx
      refine bodyPost_ret (v := .agg #[.string x0, .string x1, .string x2, .int .i64 xm, .int .i64 xp, .slice xa xl xc]) (by simp [results, Tryd.results97, go_sem, c0, c1, c2, c3, c4, c5]) rfl ?_
      exact ⟨_, n2, needS [41] s2, rfl, ndb_mono (ndb_set (ndq_ndb e9) (by omega) hz hk) (by omega), h9.set hz hk (by omega) (by omega), hbb pb w bs9 (Nat.le_refl _), HFF.out⟩
    | true =>
      obtain ⟨t', r', rfl, -⟩ := isWS_ok hq3.symm
      rw [eatS_t hq3.symm] at h3
      have HQ3 : Hid (isWS [44] (.ok (t' :: r')) = true) := hq3.symm
      clear hq3
      have r5d := q53.drew
      obtain ⟨k0, k1, k2, k3, k4, k5, -⟩ := id r5d
      have hgl := q53.lt
      go_wp2_with fail
      go_region_with
        (first | (go_at_call 22; rw [HDW.out]; refine (HC.out _ pb tb (.ok r') h3.drew).mono ?_; rintro e w8 ⟨v8, n8, s8, rfl, d8, h8, b8, F8⟩; obtain ⟨y0, y1, y2, ym, yp, ya, yl, yc, rfl⟩ := ndb_shape d8; have t4 := q43.drew.bes b8 (by omega); have t5 := r5d.bes b8 (by omega); obtain ⟨l0, l1, l2, l3, l4, l5, -⟩ := id t5; have bs8 := bs3.drew.trans b8; have e8 : NdQ (w.heap.size + 1) w2.heap.size w8 n2 _ := ndp_bes (ndp_below d3 (Below.refl _ _).drew) (by omega) b8; have e8' : NdQ (w.heap.size + 1) w2.heap.size w8 n8 _ := ndq_of2 d8 (by simp; omega) (by simp; omega); have HF8 : Hid (Fits (thn (.ok r') C) n8 s8) := F8; have hgl8 := t5.lt; clear F8 d8 b8 r5d) | (go_at_call 38; refine (pnode_any _ _ _ _ _ _).mono ?_; rintro e w9 ⟨rfl, hb9⟩; have u4 := (t4.alloc _).below hb9; have u5 := (t5.alloc _).below hb9; have h9 := (h8.alloc _).below hb9; have bs9 := (bs8.alloc _).trans (Bes.of hb9); have e9 : NdQ (w.heap.size + 1) w2.heap.size w9 (nd [112, 97, 105, 114] p [n2, n8]) (.agg #[.string ⟨#[112, 97, 105, 114]⟩, .string (Em.str []), .string (Em.str []), .int .i64 0, .int .i64 p, .slice (some ⟨w8.heap.size, 0, none⟩) 2 2]) := ndp_two (op := [112, 97, 105, 114]) e8 e8' (by simpa using hb9) rfl ⟨by omega, by omega⟩ ⟨by decide, by decide⟩ txt_nil txt_nil hpos; obtain ⟨W, hW, sx, hz, hk, hbb⟩ := u5.set (.string ⟨#[112, 97, 105, 114]⟩) (.string (Em.str [])) (.string (Em.str [])) (.int .i64 0) (.int .i64 p) (.slice (some ⟨w8.heap.size, 0, none⟩) 2 2); obtain ⟨a0, a1, a2, a3, a4, a5, f0, f1, f2, f3', f4, f5⟩ := id u5))
      all_goals
        have hS := h9.set hz hk (by omega) (by omega)
        have q4S := u4.far hk (by omega)
        have bsS := hbb pb w bs9 (by omega)
        have dS := ndq_set e9 hz hk
        have HFF : Hid (Fits (thn s (roundS C p)) (nd [112, 97, 105, 114] p [n2, n8]) (needS [41] s8)) := by
          refine fits_f HQ.out (fits_thn HF2.out (fits_t HQ3.out (fun t2 r2 e2 => ?_)))
          injection e2 with e2
          injection e2 with e3 e4
          subst e3
          subst e4
          refine fits_bnd HF8.out ?_
          rw [thn_need]
          exact fits_ok
        clear hbb hk hz hW u4 u5 h9 bs9 e9 h8 t4 t5 bs8 e8 e8' hb9 a0 a1 a2 a3 a4 a5 f0 f1 f2 f3' f4 f5 k0 k1 k2 k3 k4 k5 q43 q53 h3 d3 bs3 hgl
        go_wp2_with fail
        refine (pneed_any pb tb s8 [41] _ hS (by decide)).mono ?_
        rintro e w9 ⟨rfl, h9, b9⟩
        have u4 := q4S.bes b9 (by omega)
        have u5 := sx.bes b9 (by omega)
        have bs9 := bsS.trans b9
        have e9 := ndp_bes dS (by omega) b9
        clear hS q4S sx bsS dS b9
        obtain ⟨c0, c1, c2, c3, c4, c5, -⟩ := id u5
        obtain ⟨a0, a1, a2, a3, a4, a5, f0, f1, f2, f3', f4, f5⟩ := id u4
        go_wp2_with fail
        obtain ⟨W, hW, sx, hz, hk, hbb⟩ := u4.set (.string ⟨#[112, 97, 105, 114]⟩) (.string (Em.str [])) (.string (Em.str [])) (.int .i64 0) (.int .i64 p) (.slice (some ⟨w8.heap.size, 0, none⟩) 2 2)
        rw [hW]
        obtain ⟨c0, c1, c2, c3, c4, c5, -⟩ := id sx
        refine bodyPost_ret (v := .agg #[.string ⟨#[112, 97, 105, 114]⟩, .string (Em.str []), .string (Em.str []), .int .i64 0, .int .i64 p, .slice (some ⟨w8.heap.size, 0, none⟩) 2 2]) (by simp [results, Tryd.results97, go_sem, c0, c1, c2, c3, c4, c5]) rfl ?_
        exact ⟨_, nd [112, 97, 105, 114] p [n2, n8], needS [41] s8, rfl, ndb_mono (ndb_set (ndq_ndb e9) (by omega) hz hk) (by omega), h9.set hz hk (by omega) (by omega), hbb pb w bs9 (Nat.le_refl _), HFF.out⟩
end Go.Proofs.YtoekhejpompjlaaDoor

/- What 'sum' of the document's own parser answers. -/
import Derived.Test.YtoekhejpompjlaaDoorRPaD
namespace Go.Proofs.YtoekhejpompjlaaDoor
open Go.RowKit Go.Em5 Go.Em6
set_option linter.unusedSimpArgs false

set_option maxRecDepth 100000 in
set_option maxHeartbeats 4000000 in
theorem psum_does (d : Nat) (C : List Em4.Tok → R) (hC : Does 77 d C) (hS : Shr C) : Does 70 d (sumS C) := by
  intro w pb tb s h
  have HH : Hid (IsSt w pb tb s) := h
  have HC : Hid (Does 77 d C) := hC
  obtain ⟨hlp, hlt, hne⟩ := h.lt
  clear h hC
  have HSH : Hid (Shr C) := hS
  clear hS
  go_enter Tryd.func70, Tryd.ntmps70
  go_wp2_with fail
  have z4 := Six.made w (.string ⟨#[]⟩) (.string ⟨#[]⟩) (.string ⟨#[]⟩) (.int .i64 0) (.int .i64 0) (.slice none 0 0) 24
  refine (HC.out _ pb tb s (HH.out.alloc _)).mono ?_
  rintro e w1 ⟨v1, n1, s1, rfl, d1, h1, b1, F1⟩
  obtain ⟨x0, x1, x2, xm, xp, xa, xl, xc, rfl⟩ := ndb_shape d1
  have p4 := z4.bes b1 (by omega)
  have bs1 : Bes pb w w1 := ((Bes.refl pb w).alloc _).trans b1
  have g5 : w.heap.size < w1.heap.size := p4.lt
  have HST : Hid (LoopI C sumF pb tb w s w1.heap.size (w1.alloc (.cells #[.string x0, .string x1, .string x2, .int .i64 xm, .int .i64 xp, .slice xa xl xc] 24))) :=
    ⟨n1, s1, x0, x1, x2, xm, xp, xa, xl, xc, Six.made w1 _ _ _ _ _ _ _, p4.alloc _, h1.alloc _, bs1.alloc _, ndp_below (ndq_of (by simpa using d1) (Nat.le_refl _)) ((Below.refl _ _).alloc (Nat.le_refl _) _), fun m s'' hf => fits_thn F1 hf⟩
  clear z4 b1 h1 p4 bs1 d1 F1
  go_wp2
  go_loopw [6] (fun _ wr => Hid (LoopI C sumF pb tb w s w1.heap.size wr)) (fun _ wr => mu pb wr)
  case atStart => exact HST
  case round =>
    have HL := hrel
    clear hrel
    obtain ⟨n1, s1, x0, x1, x2, xm, xp, xa, xl, xc, o5, o4, h1, bs1, d1, HD⟩ := HL.out
    have HD : Hid (∀ (m : Nd) (s'' : St), Fits (thn s1 (fun L => sumF C L.length n1 L)) m s'' → Fits (thn s (fun L => bnd (C L) fun a L1 => sumF C L1.length a L1)) m s'') := HD
    have HM : Hid (mu pb wr = lenS s1) := mu_eq h1
    clear HST HL
    go_wp2_with fail
    refine (pnow_any pb tb s1 _ h1).mono ?_
    rintro e w2 ⟨rfl, hb2⟩
    obtain ⟨t, htd⟩ : ∃ t, t = nowS s1 := ⟨_, rfl⟩
    have HP : Hid (posS s1 = t.pos) := by rw [htd]; exact posS_now s1
    have hpos : t.pos ≤ 140737488351232 := by rw [htd]; exact h1.now.2.2.1
    rw [← htd]
    clear htd
    simp only [Em6.tokV]
    have f3 := fld3 t.kind (Em.str t.text) t.num t.pos
    have h2 := h1.below hb2
    have q42 := o4.below hb2
    have q52 := o5.below hb2
    have bs2 : Bes pb w w2 := bs1.trans (Bes.of hb2)
    have d2 := ndp_below d1 hb2
    clear h1 o4 o5 bs1 d1 hb2
    go_wp2_with fail
    refine (peat_any pb tb s1 [43] _ h2 (by decide)).mono ?_
    rintro e w3 ⟨rfl, h3, b3⟩
    have q43 := q42.bes b3 (by omega)
    have q53 := q52.bes b3 (by omega)
    have bs3 := bs2.trans b3
    have d3 := ndp_bes d2 (by omega) b3
    clear h2 q42 q52 bs2 d2 b3
    obtain ⟨q3, hq3⟩ : ∃ q, q = isWS [43] s1 := ⟨_, rfl⟩
    rw [← hq3]
    cases q3 with
    | true =>
      obtain ⟨t', r', rfl, -⟩ := isWS_ok hq3.symm
      rw [eatS_t hq3.symm] at h3
      have HQ : Hid (isW [43] (t' :: r') = true) := hq3.symm
      have HP' : Hid (t'.pos = t.pos) := HP.out
      clear hq3
      have r5d := q53.drew
      obtain ⟨k0, k1, k2, k3, k4, k5, -⟩ := id r5d
      have hgl := q53.lt
      go_wp2_with fail
      go_region_with
        (first | (go_at_call 77; refine (HC.out _ pb tb (.ok r') h3.drew).mono ?_; rintro e w8 ⟨v8, n8, s8, rfl, d8, h8, b8, F8⟩; obtain ⟨y0, y1, y2, ym, yp, ya, yl, yc, rfl⟩ := ndb_shape d8; have t4 := q43.drew.bes b8 (by omega); have t5 := r5d.bes b8 (by omega); obtain ⟨l0, l1, l2, l3, l4, l5, -⟩ := id t5; have bs8 := bs3.drew.trans b8; have e8 : NdQ (w.heap.size + 1) w1.heap.size w8 n1 _ := ndp_bes (ndp_below d3 (Below.refl _ _).drew) (by omega) b8; have e8' : NdQ (w.heap.size + 1) w1.heap.size w8 n8 _ := ndq_of2 d8 (by simp; omega) (by simp; omega); have HF8 : Hid (Fits (thn (.ok r') C) n8 s8) := F8; have hgl8 := t5.lt; clear F8 d8 b8 r5d) | (go_at_call 38; refine (pnode_any _ _ _ _ _ _).mono ?_; rintro e w9 ⟨rfl, hb9⟩; have u4 := (t4.alloc _).below hb9; have u5 := (t5.alloc _).below hb9; have h9 := (h8.alloc _).below hb9; have bs9 := (bs8.alloc _).trans (Bes.of hb9); have e9 : NdQ (w.heap.size + 1) w1.heap.size w9 (nd [97, 100, 100] t.pos [n1, n8]) (.agg #[.string ⟨#[97, 100, 100]⟩, .string (Em.str []), .string (Em.str []), .int .i64 0, .int .i64 t.pos, .slice (some ⟨w8.heap.size, 0, none⟩) 2 2]) := ndp_two (op := [97, 100, 100]) e8 e8' (by simpa using hb9) rfl ⟨by omega, by omega⟩ ⟨by decide, by decide⟩ txt_nil txt_nil hpos; obtain ⟨W, hW, sx, hz, hk, hbb⟩ := u5.set (.string ⟨#[97, 100, 100]⟩) (.string (Em.str [])) (.string (Em.str [])) (.int .i64 0) (.int .i64 t.pos) (.slice (some ⟨w8.heap.size, 0, none⟩) 2 2); obtain ⟨a0, a1, a2, a3, a4, a5, f0, f1, f2, f3', f4, f5⟩ := id u5))
      all_goals
        go_wp2
        go_roundw
        case rel => exact ⟨nd [97, 100, 100] t.pos [n1, n8], s8, _, _, _, _, _, _, _, _, sx, u4.far hk (by omega), h9.set hz hk (by omega) (by omega), hbb pb w bs9 (by omega), ndq_set e9 hz hk, fun m s'' hf => HD.out m s'' (sum_round HSH.out (op := [97, 100, 100]) (by simp only [sumF]; rw [if_pos HQ.out]; rfl) HF8.out (by rw [HP'.out]; exact hf))⟩
        case measure =>
          have hm9 := mu_eq (h9.set hz hk (by omega) (by omega))
          rw [hm9, HM.out]
          exact fits_len1 HSH.out HF8.out
    | false =>
      rw [eatS_f hq3.symm] at h3
      have HQ3 : Hid (isWS [43] s1 = false) := hq3.symm
      clear hq3
      go_wp2_with fail
      refine (peat_any pb tb s1 [45] _ h3 (by decide)).mono ?_
      rintro e w6 ⟨rfl, h6, b6⟩
      have q46 := q43.bes b6 (by omega)
      have q56 := q53.bes b6 (by omega)
      have bs6 := bs3.trans b6
      have d6 := ndp_bes d3 (by omega) b6
      clear h3 q43 q53 bs3 d3 b6
      obtain ⟨q6, hq6⟩ : ∃ q, q = isWS [45] s1 := ⟨_, rfl⟩
      rw [← hq6]
      cases q6 with
      | true =>
        obtain ⟨t', r', rfl, -⟩ := isWS_ok hq6.symm
        rw [eatS_t hq6.symm] at h6
        have HQ : Hid (isW [45] (t' :: r') = true) := hq6.symm
        have HP' : Hid (t'.pos = t.pos) := HP.out
        clear hq6
        have r5d := q56.drew
        obtain ⟨k0, k1, k2, k3, k4, k5, -⟩ := id r5d
        have hgl := q56.lt
        go_wp2_with fail
        go_region_with
          (first | (go_at_call 77; refine (HC.out _ pb tb (.ok r') h6.drew).mono ?_; rintro e w8 ⟨v8, n8, s8, rfl, d8, h8, b8, F8⟩; obtain ⟨y0, y1, y2, ym, yp, ya, yl, yc, rfl⟩ := ndb_shape d8; have t4 := q46.drew.bes b8 (by omega); have t5 := r5d.bes b8 (by omega); obtain ⟨l0, l1, l2, l3, l4, l5, -⟩ := id t5; have bs8 := bs6.drew.trans b8; have e8 : NdQ (w.heap.size + 1) w1.heap.size w8 n1 _ := ndp_bes (ndp_below d6 (Below.refl _ _).drew) (by omega) b8; have e8' : NdQ (w.heap.size + 1) w1.heap.size w8 n8 _ := ndq_of2 d8 (by simp; omega) (by simp; omega); have HF8 : Hid (Fits (thn (.ok r') C) n8 s8) := F8; have hgl8 := t5.lt; clear F8 d8 b8 r5d) | (go_at_call 38; refine (pnode_any _ _ _ _ _ _).mono ?_; rintro e w9 ⟨rfl, hb9⟩; have u4 := (t4.alloc _).below hb9; have u5 := (t5.alloc _).below hb9; have h9 := (h8.alloc _).below hb9; have bs9 := (bs8.alloc _).trans (Bes.of hb9); have e9 : NdQ (w.heap.size + 1) w1.heap.size w9 (nd [115, 117, 98] t.pos [n1, n8]) (.agg #[.string ⟨#[115, 117, 98]⟩, .string (Em.str []), .string (Em.str []), .int .i64 0, .int .i64 t.pos, .slice (some ⟨w8.heap.size, 0, none⟩) 2 2]) := ndp_two (op := [115, 117, 98]) e8 e8' (by simpa using hb9) rfl ⟨by omega, by omega⟩ ⟨by decide, by decide⟩ txt_nil txt_nil hpos; obtain ⟨W, hW, sx, hz, hk, hbb⟩ := u5.set (.string ⟨#[115, 117, 98]⟩) (.string (Em.str [])) (.string (Em.str [])) (.int .i64 0) (.int .i64 t.pos) (.slice (some ⟨w8.heap.size, 0, none⟩) 2 2); obtain ⟨a0, a1, a2, a3, a4, a5, f0, f1, f2, f3', f4, f5⟩ := id u5))
        all_goals
          go_wp2
          go_roundw
          case rel => exact ⟨nd [115, 117, 98] t.pos [n1, n8], s8, _, _, _, _, _, _, _, _, sx, u4.far hk (by omega), h9.set hz hk (by omega) (by omega), hbb pb w bs9 (by omega), ndq_set e9 hz hk, fun m s'' hf => HD.out m s'' (sum_round HSH.out (op := [115, 117, 98]) (by simp only [sumF]; rw [if_neg (show ¬ isW [43] (t' :: r') = true from fun h => by have h2 : isW [43] (t' :: r') = false := HQ3.out; rw [h2] at h; cases h), if_pos HQ.out]; rfl) HF8.out (by rw [HP'.out]; exact hf))⟩
          case measure =>
            have hm9 := mu_eq (h9.set hz hk (by omega) (by omega))
            rw [hm9, HM.out]
            exact fits_len1 HSH.out HF8.out
      | false =>
        rw [eatS_f hq6.symm] at h6
        have HQ6 : Hid (isWS [45] s1 = false) := hq6.symm
        clear hq6
        go_wp2_with fail
        refine (peat_any pb tb s1 [94] _ h6 (by decide)).mono ?_
        rintro e w7 ⟨rfl, h7, b7⟩
        have q47 := q46.bes b7 (by omega)
        have q57 := q56.bes b7 (by omega)
        have bs7 := bs6.trans b7
        have d7 := ndp_bes d6 (by omega) b7
        clear h6 q46 q56 bs6 d6 b7
        obtain ⟨q7, hq7⟩ : ∃ q, q = isWS [94] s1 := ⟨_, rfl⟩
        rw [← hq7]
        cases q7 with
        | true =>
          obtain ⟨t', r', rfl, -⟩ := isWS_ok hq7.symm
          rw [eatS_t hq7.symm] at h7
          have HQ : Hid (isW [94] (t' :: r') = true) := hq7.symm
          have HP' : Hid (t'.pos = t.pos) := HP.out
          clear hq7
          have r5d := q57.drew
          obtain ⟨k0, k1, k2, k3, k4, k5, -⟩ := id r5d
          have hgl := q57.lt
          go_wp2_with fail
          go_region_with
            (first | (go_at_call 77; refine (HC.out _ pb tb (.ok r') h7.drew).mono ?_; rintro e w8 ⟨v8, n8, s8, rfl, d8, h8, b8, F8⟩; obtain ⟨y0, y1, y2, ym, yp, ya, yl, yc, rfl⟩ := ndb_shape d8; have t4 := q47.drew.bes b8 (by omega); have t5 := r5d.bes b8 (by omega); obtain ⟨l0, l1, l2, l3, l4, l5, -⟩ := id t5; have bs8 := bs7.drew.trans b8; have e8 : NdQ (w.heap.size + 1) w1.heap.size w8 n1 _ := ndp_bes (ndp_below d7 (Below.refl _ _).drew) (by omega) b8; have e8' : NdQ (w.heap.size + 1) w1.heap.size w8 n8 _ := ndq_of2 d8 (by simp; omega) (by simp; omega); have HF8 : Hid (Fits (thn (.ok r') C) n8 s8) := F8; have hgl8 := t5.lt; clear F8 d8 b8 r5d) | (go_at_call 38; refine (pnode_any _ _ _ _ _ _).mono ?_; rintro e w9 ⟨rfl, hb9⟩; have u4 := (t4.alloc _).below hb9; have u5 := (t5.alloc _).below hb9; have h9 := (h8.alloc _).below hb9; have bs9 := (bs8.alloc _).trans (Bes.of hb9); have e9 : NdQ (w.heap.size + 1) w1.heap.size w9 (nd [99, 97, 116] t.pos [n1, n8]) (.agg #[.string ⟨#[99, 97, 116]⟩, .string (Em.str []), .string (Em.str []), .int .i64 0, .int .i64 t.pos, .slice (some ⟨w8.heap.size, 0, none⟩) 2 2]) := ndp_two (op := [99, 97, 116]) e8 e8' (by simpa using hb9) rfl ⟨by omega, by omega⟩ ⟨by decide, by decide⟩ txt_nil txt_nil hpos; obtain ⟨W, hW, sx, hz, hk, hbb⟩ := u5.set (.string ⟨#[99, 97, 116]⟩) (.string (Em.str [])) (.string (Em.str [])) (.int .i64 0) (.int .i64 t.pos) (.slice (some ⟨w8.heap.size, 0, none⟩) 2 2); obtain ⟨a0, a1, a2, a3, a4, a5, f0, f1, f2, f3', f4, f5⟩ := id u5))
          all_goals
            go_wp2
            go_roundw
            case rel => exact ⟨nd [99, 97, 116] t.pos [n1, n8], s8, _, _, _, _, _, _, _, _, sx, u4.far hk (by omega), h9.set hz hk (by omega) (by omega), hbb pb w bs9 (by omega), ndq_set e9 hz hk, fun m s'' hf => HD.out m s'' (sum_round HSH.out (op := [99, 97, 116]) (by simp only [sumF]; rw [if_neg (show ¬ isW [43] (t' :: r') = true from fun h => by have h2 : isW [43] (t' :: r') = false := HQ3.out; rw [h2] at h; cases h), if_neg (show ¬ isW [45] (t' :: r') = true from fun h => by have h2 : isW [45] (t' :: r') = false := HQ6.out; rw [h2] at h; cases h), if_pos HQ.out]; rfl) HF8.out (by rw [HP'.out]; exact hf))⟩
            case measure =>
              have hm9 := mu_eq (h9.set hz hk (by omega) (by omega))
              rw [hm9, HM.out]
              exact fits_len1 HSH.out HF8.out
        | false =>
          rw [eatS_f hq7.symm] at h7
          have HF := HD.out n1 s1 (sum_stop HQ3.out HQ6.out hq7.symm)
          obtain ⟨c0, c1, c2, c3, c4, c5, -⟩ := id q57
          obtain ⟨a0, a1, a2, a3, a4, a5, f0, f1, f2, f3', f4, f5⟩ := id q47
          clear hq7
          have HF' : Hid (Fits _ n1 s1) := HF
          clear HF
          go_wp2_with fail
          obtain ⟨W, hW, sx, hz, hk, hbb⟩ := q47.set (.string x0) (.string x1) (.string x2) (.int .i64 xm) (.int .i64 xp) (.slice xa xl xc)
          rw [hW]
          obtain ⟨c0, c1, c2, c3, c4, c5, -⟩ := id sx
          refine bodyPost_ret (v := .agg #[.string x0, .string x1, .string x2, .int .i64 xm, .int .i64 xp, .slice xa xl xc]) (by simp [results, Tryd.results70, go_sem, c0, c1, c2, c3, c4, c5]) rfl ?_
          exact ⟨_, n1, s1, rfl, ndb_mono (ndb_set (ndq_ndb d7) (by omega) hz hk) (by omega), h7.set hz hk (by omega) (by omega), hbb pb w bs7 (Nat.le_refl _), HF'.out⟩
end Go.Proofs.YtoekhejpompjlaaDoor

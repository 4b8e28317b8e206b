/- What 'prod, sum' of the program's parser answers. -/
import Derived.Test.YtgojjknbingfpaaDoorPaC
namespace Go.Proofs.YtgojjknbingfpaaDoor
open Go.RowKit Go.Em5 Go.Em6
set_option linter.unusedSimpArgs false

/-- How many tokens are left. -/
def muP (pb : Nat) (w : World) : Nat := match w.cell? ⟨pb, 0, none⟩ with
  | some (.slice _ n _) => n
  | _ => 0
theorem muP_eq {w : World} {pb tb d : Nat} {s : St} (h : IsPs w pb tb d s) : muP pb w = lenS s := by
  obtain ⟨v, p, c, k0, k1, k2, k3, -, hm⟩ := h.1.cells
  unfold muP
  rw [k0]
  cases s with
  | error e => obtain ⟨rfl, -⟩ := hm; rfl
  | ok L => obtain ⟨-, -, -, off, cap, rfl, -⟩ := hm; rfl
/-- What holds ahead of each round. -/
def LoopP (C : List Em4.Tok → R) (G : (List Em4.Tok → R) → Nat → Nd → List Em4.Tok → R) (pb tb d : Nat) (w : World) (s : St) (g : Nat) (wr : World) : Prop :=
  ∃ (n : Nd) (s' : St) (x0 x1 x2 : ByteArray) (xm xp : Int) (xa : Option Addr) (xl xc : Nat), Six wr g (.string x0) (.string x1) (.string x2) (.int .i64 xm) (.int .i64 xp) (.slice xa xl xc) ∧
    Six wr w.heap.size (.string ⟨#[]⟩) (.string ⟨#[]⟩) (.string ⟨#[]⟩) (.int .i64 0) (.int .i64 0) (.slice none 0 0) ∧ IsPs wr pb tb d s' ∧ Bes pb w wr ∧
    NdQ (w.heap.size + 1) g wr n (.agg #[.string x0, .string x1, .string x2, .int .i64 xm, .int .i64 xp, .slice xa xl xc]) ∧
    (∀ (m : Nd) (s'' : St), Fits (thn s' (fun L => G C L.length n L)) m s'' → Fits (thn s (fun L => bnd (C L) fun a L1 => G C L1.length a L1)) m s'')
theorem fits_lenP {F : List Em4.Tok → R} (hF : Shr F) {s : St} {n : Nd} {s' : St} (h : Fits (thn s F) n s') : lenS s' < lenS s + 1 := by
  cases s' with
  | error e => exact Nat.succ_pos _
  | ok L => exact Nat.lt_succ_of_lt (fits_shr hF h)
set_option maxRecDepth 100000 in
set_option maxHeartbeats 4000000 in
theorem qprod_does (d : Nat) (C : List Em4.Tok → R) (hC : DoesP 88 d C) (hS : Shr C) : DoesP 86 d (prodS C) := by
  intro s w pb tb h
  have HSH : Hid (Shr C) := hS
  have HH : Hid (IsPs w pb tb d s) := h
  have HC : Hid (DoesP 88 d C) := hC
  obtain ⟨hlp, hlt, hne, -⟩ := h.lt
  clear h hC
  clear hS
  go_enter Tryd.func86, Tryd.ntmps86
  go_wp2_with fail
  have z4 := Six.made w (.string ⟨#[]⟩) (.string ⟨#[]⟩) (.string ⟨#[]⟩) (.int .i64 0) (.int .i64 0) (.slice none 0 0) 24
  refine (HC.out s _ pb tb (HH.out.alloc _)).mono ?_
  rintro e w1 ⟨v1, n1, s1, rfl, d1, h1, b1, F1⟩
  obtain ⟨x0, x1, x2, xm, xp, xa, xl, xc, rfl⟩ := ndb_shape d1
  have p4 := z4.bes b1 (by omega)
  have bs1 : Bes pb w w1 := ((Bes.refl pb w).alloc _).trans b1
  have g5 : w.heap.size < w1.heap.size := p4.lt
  have HST : Hid (LoopP C prodF pb tb d w s w1.heap.size (w1.alloc (.cells #[.string x0, .string x1, .string x2, .int .i64 xm, .int .i64 xp, .slice xa xl xc] 24))) :=
    ⟨n1, s1, x0, x1, x2, xm, xp, xa, xl, xc, Six.made w1 _ _ _ _ _ _ _, p4.alloc _, h1.alloc _, bs1.alloc _, ndp_below (ndq_of (by simpa using d1) (Nat.le_refl _)) ((Below.refl _ _).alloc (Nat.le_refl _) _), fun m s'' hf => fits_thn F1 hf⟩
  clear z4 b1 h1 p4 bs1 d1 F1
  go_wp2
  go_loopw [] (fun wr => Hid (LoopP C prodF pb tb d w s w1.heap.size wr)) (fun wr => muP pb wr)
  case atStart => exact HST
  case round =>
    have HL := hrel
    clear hrel
    obtain ⟨n1, s1, x0, x1, x2, xm, xp, xa, xl, xc, o5, o4, h1, bs1, d1, HD⟩ := HL.out
    have HD : Hid (∀ (m : Nd) (s'' : St), Fits (thn s1 (fun L => prodF C L.length n1 L)) m s'' → Fits (thn s (fun L => bnd (C L) fun a L1 => prodF C L1.length a L1)) m s'') := HD
    have HM : Hid (muP pb wr = lenS s1) := muP_eq h1
    clear HST HL
    go_wp2_with fail
    refine (qword_any pb tb d s1 _ h1.1).mono ?_
    rintro e w2 ⟨rfl, hb2⟩
    have hq := Em5.str_eq (wordS_txt h1.1).1
    have h2 := h1.below hb2
    have q42 := o4.below hb2
    have q52 := o5.below hb2
    have bs2 : Bes pb w w2 := bs1.trans (Bes.of hb2)
    have d2 := ndp_below d1 hb2
    have g6 := q52.lt
    clear h1 o4 o5 bs1 d1 hb2
    have q0 : ((Em.str (wordS s1)).toList == [42]) = isWS [42] s1 := (hq [42]).trans (wordS_eq (by decide) s1)
    have hmf := mkf
    generalize wordS s1 = wd at *
    clear hq
    obtain ⟨b0, hb0⟩ : ∃ b, b = isWS [42] s1 := ⟨_, rfl⟩
    rw [← hb0] at q0
    cases b0 with
    | false =>
      have HF : Hid (Fits _ n1 s1) := HD.out n1 s1 (prod_stop hb0.symm)
      obtain ⟨c0, c1, c2, c3, c4, c5, -⟩ := id q52
      obtain ⟨a0, a1, a2, a3, a4, a5, f0, f1, f2, f3', f4, f5⟩ := id q42
      clear hb0
      go_wp2_with fail
      obtain ⟨W, hW, sx, hz, hk, hbb⟩ := q42.set (.string x0) (.string x1) (.string x2) (.int .i64 xm) (.int .i64 xp) (.slice xa xl xc)
      rw [hW]
      obtain ⟨c0, c1, c2, c3, c4, c5, -⟩ := id sx
      refine bodyPost_ret (v := .agg #[.string x0, .string x1, .string x2, .int .i64 xm, .int .i64 xp, .slice xa xl xc]) (by simp [results, Tryd.results86, go_sem, c0, c1, c2, c3, c4, c5]) rfl ?_
      exact ⟨_, n1, s1, rfl, ndb_mono (ndb_set (ndq_ndb d2) (by omega) hz hk) (by omega), h2.set hz hk (by omega) (by omega), hbb pb w bs2 (Nat.le_refl _), HF.out⟩
    | true =>
      obtain ⟨t', r', rfl, hk4, -⟩ := isWS_ok hb0.symm
      have HQ : Hid (isWS [42] (.ok (t' :: r')) = true) := hb0.symm
      have HK : Hid (t'.kind ≠ 5) := by rw [Hid, hk4]; decide
      have HX : True := trivial
      clear hk4 hb0
      obtain ⟨c0, c1, c2, c3, c4, c5, -⟩ := id q52
      go_wp2_with fail
      refine (qtwo_any 88 d C t' r' (HC.out _) (fun _ _ => rfl) _ pb tb h2 HK.out [109, 117, 108] ⟨by decide, by decide⟩ (fun b => w.heap.size + 1 ≤ b ∧ b ≠ w1.heap.size) (fun b hb => ⟨by omega, by omega⟩) (fun h => absurd h.1 (by omega)) n1 _ d2).mono ?_
      rintro e w3 ⟨v3, n3, s3, rfl, d3, h3, b3, F3⟩
      obtain ⟨y0, y1, y2, ym, yp, ya, yl, yc, rfl⟩ := isNdP_shape d3
      have q43 := q42.bes b3 (by omega)
      have q53 := q52.bes b3 (by omega)
      have bs3 := bs2.trans b3
      have HF3 : Hid (Fits (thn (.ok r') C) n3 s3) := F3
      obtain ⟨a0, a1, a2, a3, a4, a5, f0, f1, f2, f3', f4, f5⟩ := id q53
      obtain ⟨W, hW, sx, hz, hk, hbb⟩ := q53.set (.string y0) (.string y1) (.string y2) (.int .i64 ym) (.int .i64 yp) (.slice ya yl yc)
      clear F3 b3
      go_wp2_with fail
      go_roundw
      case rel => exact ⟨nd [109, 117, 108] t'.pos [n1, n3], s3, _, _, _, _, _, _, _, _, sx, q43.far hk (by omega), h3.set hz hk (by omega) (by omega), hbb pb w bs3 (by omega), ndq_set d3 hz hk, fun m s'' hf => HD.out m s'' (prod_round HSH.out HQ.out HF3.out hf)⟩
      case measure =>
        have hm9 := muP_eq (h3.set hz hk (by omega) (by omega))
        rw [hm9, HM.out]
        exact fits_lenP HSH.out HF3.out
set_option maxRecDepth 100000 in
set_option maxHeartbeats 4000000 in
theorem qsum_does (d : Nat) (C : List Em4.Tok → R) (hC : DoesP 86 d C) (hS : Shr C) : DoesP 84 d (sumS C) := by
  intro s w pb tb h
  have HSH : Hid (Shr C) := hS
  have HH : Hid (IsPs w pb tb d s) := h
  have HC : Hid (DoesP 86 d C) := hC
  obtain ⟨hlp, hlt, hne, -⟩ := h.lt
  clear h hC
  clear hS
  go_enter Tryd.func84, Tryd.ntmps84
  go_wp2_with fail
  have z4 := Six.made w (.string ⟨#[]⟩) (.string ⟨#[]⟩) (.string ⟨#[]⟩) (.int .i64 0) (.int .i64 0) (.slice none 0 0) 24
  refine (HC.out s _ pb tb (HH.out.alloc _)).mono ?_
  rintro e w1 ⟨v1, n1, s1, rfl, d1, h1, b1, F1⟩
  obtain ⟨x0, x1, x2, xm, xp, xa, xl, xc, rfl⟩ := ndb_shape d1
  have p4 := z4.bes b1 (by omega)
  have bs1 : Bes pb w w1 := ((Bes.refl pb w).alloc _).trans b1
  have g5 : w.heap.size < w1.heap.size := p4.lt
  have HST : Hid (LoopP C sumF pb tb d w s w1.heap.size (w1.alloc (.cells #[.string x0, .string x1, .string x2, .int .i64 xm, .int .i64 xp, .slice xa xl xc] 24))) :=
    ⟨n1, s1, x0, x1, x2, xm, xp, xa, xl, xc, Six.made w1 _ _ _ _ _ _ _, p4.alloc _, h1.alloc _, bs1.alloc _, ndp_below (ndq_of (by simpa using d1) (Nat.le_refl _)) ((Below.refl _ _).alloc (Nat.le_refl _) _), fun m s'' hf => fits_thn F1 hf⟩
  clear z4 b1 h1 p4 bs1 d1 F1
  go_wp2
  go_loopw [] (fun wr => Hid (LoopP C sumF pb tb d w s w1.heap.size wr)) (fun wr => muP pb wr)
  case atStart => exact HST
  case round =>
    have HL := hrel
    clear hrel
    obtain ⟨n1, s1, x0, x1, x2, xm, xp, xa, xl, xc, o5, o4, h1, bs1, d1, HD⟩ := HL.out
    have HD : Hid (∀ (m : Nd) (s'' : St), Fits (thn s1 (fun L => sumF C L.length n1 L)) m s'' → Fits (thn s (fun L => bnd (C L) fun a L1 => sumF C L1.length a L1)) m s'') := HD
    have HM : Hid (muP pb wr = lenS s1) := muP_eq h1
    clear HST HL
    go_wp2_with fail
    refine (qword_any pb tb d s1 _ h1.1).mono ?_
    rintro e w2 ⟨rfl, hb2⟩
    have hq := Em5.str_eq (wordS_txt h1.1).1
    have h2 := h1.below hb2
    have q42 := o4.below hb2
    have q52 := o5.below hb2
    have bs2 : Bes pb w w2 := bs1.trans (Bes.of hb2)
    have d2 := ndp_below d1 hb2
    have g6 := q52.lt
    clear h1 o4 o5 bs1 d1 hb2
    have q0 : ((Em.str (wordS s1)).toList == [43]) = isWS [43] s1 := (hq [43]).trans (wordS_eq (by decide) s1)
    have q1 : ((Em.str (wordS s1)).toList == [45]) = isWS [45] s1 := (hq [45]).trans (wordS_eq (by decide) s1)
    have q2 : ((Em.str (wordS s1)).toList == [94]) = isWS [94] s1 := (hq [94]).trans (wordS_eq (by decide) s1)
    have hmf := mkf
    generalize wordS s1 = wd at *
    clear hq
    obtain ⟨b0, hb0⟩ : ∃ b, b = isWS [43] s1 := ⟨_, rfl⟩
    obtain ⟨b1, hb1⟩ : ∃ b, b = isWS [45] s1 := ⟨_, rfl⟩
    obtain ⟨b2, hb2⟩ : ∃ b, b = isWS [94] s1 := ⟨_, rfl⟩
    rw [← hb0] at q0
    rw [← hb1] at q1
    rw [← hb2] at q2
    cases b0 with
    | true =>
      clear q1 hb1 b1 q2 hb2 b2
      obtain ⟨t', r', rfl, hk4, -⟩ := isWS_ok hb0.symm
      have HQ : Hid (isWS [43] (.ok (t' :: r')) = true) := hb0.symm
      have HK : Hid (t'.kind ≠ 5) := by rw [Hid, hk4]; decide
      have HX : True := trivial
      clear hk4 hb0
      obtain ⟨c0, c1, c2, c3, c4, c5, -⟩ := id q52
      go_wp2_with fail
      refine (qtwo_any 86 d C t' r' (HC.out _) (fun _ _ => rfl) _ pb tb h2 HK.out [97, 100, 100] ⟨by decide, by decide⟩ (fun b => w.heap.size + 1 ≤ b ∧ b ≠ w1.heap.size) (fun b hb => ⟨by omega, by omega⟩) (fun h => absurd h.1 (by omega)) n1 _ d2).mono ?_
      rintro e w3 ⟨v3, n3, s3, rfl, d3, h3, b3, F3⟩
      obtain ⟨y0, y1, y2, ym, yp, ya, yl, yc, rfl⟩ := isNdP_shape d3
      have q43 := q42.bes b3 (by omega)
      have q53 := q52.bes b3 (by omega)
      have bs3 := bs2.trans b3
      have HF3 : Hid (Fits (thn (.ok r') C) n3 s3) := F3
      obtain ⟨a0, a1, a2, a3, a4, a5, f0, f1, f2, f3', f4, f5⟩ := id q53
      obtain ⟨W, hW, sx, hz, hk, hbb⟩ := q53.set (.string y0) (.string y1) (.string y2) (.int .i64 ym) (.int .i64 yp) (.slice ya yl yc)
      clear F3 b3
      go_wp2_with fail
      go_roundw
      case rel => exact ⟨nd [97, 100, 100] t'.pos [n1, n3], s3, _, _, _, _, _, _, _, _, sx, q43.far hk (by omega), h3.set hz hk (by omega) (by omega), hbb pb w bs3 (by omega), ndq_set d3 hz hk, fun m s'' hf => HD.out m s'' (sum_round HSH.out (op := [97, 100, 100]) (by simp only [sumF]; rw [if_pos (show isW [43] (t' :: r') = true from HQ.out)]; rfl) HF3.out hf)⟩
      case measure =>
        have hm9 := muP_eq (h3.set hz hk (by omega) (by omega))
        rw [hm9, HM.out]
        exact fits_lenP HSH.out HF3.out
    | false =>
      cases b1 with
      | true =>
        clear q2 hb2 b2
        obtain ⟨t', r', rfl, hk4, -⟩ := isWS_ok hb1.symm
        have HQ : Hid (isWS [45] (.ok (t' :: r')) = true) := hb1.symm
        have HK : Hid (t'.kind ≠ 5) := by rw [Hid, hk4]; decide
        have HQ0 : Hid (isWS [43] (.ok (t' :: r')) = false) := hb0.symm
        clear hb0
        clear hk4 hb1
        obtain ⟨c0, c1, c2, c3, c4, c5, -⟩ := id q52
        go_wp2_with fail
        refine (qtwo_any 86 d C t' r' (HC.out _) (fun _ _ => rfl) _ pb tb h2 HK.out [115, 117, 98] ⟨by decide, by decide⟩ (fun b => w.heap.size + 1 ≤ b ∧ b ≠ w1.heap.size) (fun b hb => ⟨by omega, by omega⟩) (fun h => absurd h.1 (by omega)) n1 _ d2).mono ?_
        rintro e w3 ⟨v3, n3, s3, rfl, d3, h3, b3, F3⟩
        obtain ⟨y0, y1, y2, ym, yp, ya, yl, yc, rfl⟩ := isNdP_shape d3
        have q43 := q42.bes b3 (by omega)
        have q53 := q52.bes b3 (by omega)
        have bs3 := bs2.trans b3
        have HF3 : Hid (Fits (thn (.ok r') C) n3 s3) := F3
        obtain ⟨a0, a1, a2, a3, a4, a5, f0, f1, f2, f3', f4, f5⟩ := id q53
        obtain ⟨W, hW, sx, hz, hk, hbb⟩ := q53.set (.string y0) (.string y1) (.string y2) (.int .i64 ym) (.int .i64 yp) (.slice ya yl yc)
        clear F3 b3
        go_wp2_with fail
        go_roundw
        case rel => exact ⟨nd [115, 117, 98] t'.pos [n1, n3], s3, _, _, _, _, _, _, _, _, sx, q43.far hk (by omega), h3.set hz hk (by omega) (by omega), hbb pb w bs3 (by omega), ndq_set d3 hz hk, fun m s'' hf => HD.out m s'' (sum_round HSH.out (op := [115, 117, 98]) (by simp only [sumF]; rw [if_neg (show ¬ isW [43] (t' :: r') = true from fun h => by have h2 : isW [43] (t' :: r') = false := HQ0.out; rw [h2] at h; cases h), if_pos (show isW [45] (t' :: r') = true from HQ.out)]; rfl) HF3.out hf)⟩
        case measure =>
          have hm9 := muP_eq (h3.set hz hk (by omega) (by omega))
          rw [hm9, HM.out]
          exact fits_lenP HSH.out HF3.out
      | false =>
        cases b2 with
        | true =>
          obtain ⟨t', r', rfl, hk4, -⟩ := isWS_ok hb2.symm
          have HQ : Hid (isWS [94] (.ok (t' :: r')) = true) := hb2.symm
          have HK : Hid (t'.kind ≠ 5) := by rw [Hid, hk4]; decide
          have HQ0 : Hid (isWS [43] (.ok (t' :: r')) = false) := hb0.symm
          have HQ1 : Hid (isWS [45] (.ok (t' :: r')) = false) := hb1.symm
          clear hb0 hb1
          clear hk4 hb2
          obtain ⟨c0, c1, c2, c3, c4, c5, -⟩ := id q52
          go_wp2_with fail
          refine (qtwo_any 86 d C t' r' (HC.out _) (fun _ _ => rfl) _ pb tb h2 HK.out [99, 97, 116] ⟨by decide, by decide⟩ (fun b => w.heap.size + 1 ≤ b ∧ b ≠ w1.heap.size) (fun b hb => ⟨by omega, by omega⟩) (fun h => absurd h.1 (by omega)) n1 _ d2).mono ?_
          rintro e w3 ⟨v3, n3, s3, rfl, d3, h3, b3, F3⟩
          obtain ⟨y0, y1, y2, ym, yp, ya, yl, yc, rfl⟩ := isNdP_shape d3
          have q43 := q42.bes b3 (by omega)
          have q53 := q52.bes b3 (by omega)
          have bs3 := bs2.trans b3
          have HF3 : Hid (Fits (thn (.ok r') C) n3 s3) := F3
          obtain ⟨a0, a1, a2, a3, a4, a5, f0, f1, f2, f3', f4, f5⟩ := id q53
          obtain ⟨W, hW, sx, hz, hk, hbb⟩ := q53.set (.string y0) (.string y1) (.string y2) (.int .i64 ym) (.int .i64 yp) (.slice ya yl yc)
          clear F3 b3
          go_wp2_with fail
          go_roundw
          case rel => exact ⟨nd [99, 97, 116] t'.pos [n1, n3], s3, _, _, _, _, _, _, _, _, sx, q43.far hk (by omega), h3.set hz hk (by omega) (by omega), hbb pb w bs3 (by omega), ndq_set d3 hz hk, fun m s'' hf => HD.out m s'' (sum_round HSH.out (op := [99, 97, 116]) (by simp only [sumF]; rw [if_neg (show ¬ isW [43] (t' :: r') = true from fun h => by have h2 : isW [43] (t' :: r') = false := HQ0.out; rw [h2] at h; cases h), if_neg (show ¬ isW [45] (t' :: r') = true from fun h => by have h2 : isW [45] (t' :: r') = false := HQ1.out; rw [h2] at h; cases h), if_pos (show isW [94] (t' :: r') = true from HQ.out)]; rfl) HF3.out hf)⟩
          case measure =>
            have hm9 := muP_eq (h3.set hz hk (by omega) (by omega))
            rw [hm9, HM.out]
            exact fits_lenP HSH.out HF3.out
        | false =>
          have HF : Hid (Fits _ n1 s1) := HD.out n1 s1 (sum_stop hb0.symm hb1.symm hb2.symm)
          obtain ⟨c0, c1, c2, c3, c4, c5, -⟩ := id q52
          obtain ⟨a0, a1, a2, a3, a4, a5, f0, f1, f2, f3', f4, f5⟩ := id q42
          clear hb0 hb1 hb2
          go_wp2_with fail
          obtain ⟨W, hW, sx, hz, hk, hbb⟩ := q42.set (.string x0) (.string x1) (.string x2) (.int .i64 xm) (.int .i64 xp) (.slice xa xl xc)
          rw [hW]
          obtain ⟨c0, c1, c2, c3, c4, c5, -⟩ := id sx
          refine bodyPost_ret (v := .agg #[.string x0, .string x1, .string x2, .int .i64 xm, .int .i64 xp, .slice xa xl xc]) (by simp [results, Tryd.results84, go_sem, c0, c1, c2, c3, c4, c5]) rfl ?_
          exact ⟨_, n1, s1, rfl, ndb_mono (ndb_set (ndq_ndb d2) (by omega) hz hk) (by omega), h2.set hz hk (by omega) (by omega), hbb pb w bs2 (Nat.le_refl _), HF.out⟩
end Go.Proofs.YtgojjknbingfpaaDoor
